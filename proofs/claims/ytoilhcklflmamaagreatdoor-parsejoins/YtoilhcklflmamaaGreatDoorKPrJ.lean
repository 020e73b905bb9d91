/-
  A sign or a cast ahead of an expression: contracts over the program; the conditions: the reader lies in memory as it should, and what is called keeps its own contract.
  Numbers, fields, what a struct is of: contracts over the program; the conditions: the reader lies in memory as it should, and what is called keeps its own contract.
  What stands in brackets: contracts over the program; the conditions: the reader lies in memory as it should, and what is called keeps its own contract.
-/
import Derived.Test.YtoilhcklflmamaaGreatDoorKPrG
namespace Go.Proofs.YtoilhcklflmamaaGreatDoor
open Go.RowKit
open Pr
set_option linter.unusedVariables false

set_option maxRecDepth 100000 in
set_option maxHeartbeats 4000000 in
theorem prefixed_rd (R g cap : Nat) (L : List Tok) (n : Nat) (HU : ∀ s, rd n .unary s ≠ .out → Rule 123 #[] R g cap L s (rd n .unary s)) (v : NF) (hv : v.ok) (s : St) (hno : rd (n + 1) (.prefixed v) s ≠ .out) :
    Rule 126 #[nodeV v (.slice none 0 0)] R g cap L s (rd (n + 1) (.prefixed v) s) := by
  intro w h
  have e : rd (n + 1) (.prefixed v) s = (nodeM s).bnd fun _ s => (rd n .unary s).bnd fun x s => .ok (v, one x) s := rfl
  rw [e] at hno ⊢
  clear e
  have HD := hideIt h
  have hR := h.b.lt_size
  clear h
  obtain ⟨r, hr⟩ : ∃ r, ((nodeM s).bnd fun _ s => (rd n .unary s).bnd fun x s => .ok (v, one x) s : Rs Nd) = r := ⟨_, rfl⟩
  rw [hr] at hno ⊢
  have HR := hideIt hr
  have HN := hideIt hno
  clear hr hno
  go_enter Tryz.func126, Tryz.ntmps126
  go_wp2_with (fail)
  cases h1 : nodeM s with
  | out => rw [h1] at HR; exact absurd HR.out.symm HN.out
  | bad k p =>
   rw [h1] at HR
   have C1 := hideIt (fun X (h : RD X R g cap L s) => node_rd R g cap L s X h v none 0 0)
   (go_at_call 31; refine Calls.mono (badc h1 (C1.out _ (by repeat with_reducible first | exact HD.out | apply RD.alloc | apply RD.drew | refine RD.setCell ?_ (by (try dsimp only); omega) _))) ?_; rintro e x1 ⟨rfl, f1⟩; have F1 := hideIt (show Fr R w x1 from Fr.trans (by repeat with_reducible first | exact (Fr.refl R w) | apply Fr.alloc | apply Fr.drew | refine Fr.setNew ?_ (by (try dsimp only); omega) _) f1); clear f1)
   have ER : Rs.bad k p = r := HR.out
   subst ER
   exact ⟨rfl, F1.out, rfl⟩
  | ok u1 s1 =>
   rw [h1] at HR
   try simp only [bnd_ok] at HR
   have C1 := hideIt (fun X (h : RD X R g cap L s) => node_rd R g cap L s X h v none 0 0)
   (go_at_call 31; refine Calls.mono (okc h1 (C1.out _ (by repeat with_reducible first | exact HD.out | apply RD.alloc | apply RD.drew | refine RD.setCell ?_ (by (try dsimp only); omega) _))) ?_; rintro e x1 ⟨v1, rfl, rfl, f1, d1⟩; have D1 := hideIt d1; have F1 := hideIt (show Fr R w x1 from Fr.trans (by repeat with_reducible first | exact (Fr.refl R w) | apply Fr.alloc | apply Fr.drew | refine Fr.setNew ?_ (by (try dsimp only); omega) _) f1); have Z1 : w.heap.size + 2 ≤ x1.heap.size := (by have z := f1.size; (try simp at z); omega); have Bp_1 := hideIt (Bx.fr (b := w.heap.size) (v := v) (s := (.slice none 0 0)) (by repeat first | refine Bx.newAt _ v (.slice none 0 0) (by simp; done) | with_reducible apply Bx.alloc | with_reducible refine Bx.set ?_ (by (try dsimp only); omega) _ | with_reducible apply Bx.drew) (by omega) f1); have yp1 := Bp_1.out.lt; have Br_1 := hideIt (Bx.fr (b := w.heap.size + 1) (v := (nk 0)) (s := (.slice none 0 0)) (by repeat first | refine Bx.newAt _ (nk 0) (.slice none 0 0) (by simp; done) | with_reducible apply Bx.alloc | with_reducible refine Bx.set ?_ (by (try dsimp only); omega) _ | with_reducible apply Bx.drew) (by omega) f1); have yr1 := Br_1.out.lt; obtain ⟨p0, p1, p2, p3, p4, p5, p6, p7, p8, p9⟩ := Bp_1.out.ten; have pf := Bp_1.out.free; have ep0 := Bp_1.out.same 0 _ rfl; have ep1 := Bp_1.out.same 1 _ rfl; have ep2 := Bp_1.out.same 2 _ rfl; have ep3 := Bp_1.out.same 3 _ rfl; have ep4 := Bp_1.out.same 4 _ rfl; have ep5 := Bp_1.out.same 5 _ rfl; have ep6 := Bp_1.out.same 6 _ rfl; have ep7 := Bp_1.out.same 7 _ rfl; have ep8 := Bp_1.out.same 8 _ rfl; have ep9 := Bp_1.out.same 9 _ rfl; clear C1; clear f1 d1)
   go_wp2_with (fail)
   cases h2 : rd n .unary s1 with
   | out => rw [h2] at HR; exact absurd HR.out.symm HN.out
   | bad k p =>
    rw [h2] at HR
    have C2 := hideIt (fun X (h : RD X R g cap L s1) => (HU s1 (by rw [h2]; exact fun e => by cases e)) X h)
    (go_at_call 123; refine Calls.mono (badc h2 (C2.out _ (by repeat with_reducible first | exact D1.out | apply RD.alloc | apply RD.drew | refine RD.setCell ?_ (by (try dsimp only); omega) _))) ?_; rintro e x2 ⟨rfl, f2⟩; have F2 := hideIt (show Fr R w x2 from Fr.trans (by repeat with_reducible first | exact F1.out | apply Fr.alloc | apply Fr.drew | refine Fr.setNew ?_ (by (try dsimp only); omega) _) f2); clear f2)
    have ER : Rs.bad k p = r := HR.out
    subst ER
    exact ⟨rfl, F2.out, rfl⟩
   | ok y s2 =>
    rw [h2] at HR
    try simp only [bnd_ok] at HR
    have C2 := hideIt (fun X (h : RD X R g cap L s1) => (HU s1 (by rw [h2]; exact fun e => by cases e)) X h)
    (go_at_call 123; refine Calls.mono (okc h2 (C2.out _ (by repeat with_reducible first | exact D1.out | apply RD.alloc | apply RD.drew | refine RD.setCell ?_ (by (try dsimp only); omega) _))) ?_; rintro e x2 ⟨v2, rfl, hv2, f2, d2⟩; have D2 := hideIt d2; have F2 := hideIt (show Fr R w x2 from Fr.trans (by repeat with_reducible first | exact F1.out | apply Fr.alloc | apply Fr.drew | refine Fr.setNew ?_ (by (try dsimp only); omega) _) f2); have Z2 : x1.heap.size ≤ x2.heap.size := (by have z := f2.size; (try simp at z); omega); obtain ⟨a2, c2, g2, rfl, cp2, sk2, l2, ok2⟩ := hv2.out; have Ly_2 := hideIt (Ls.mono (B' := x1.heap.size) l2 (by (try simp); try omega) (Nat.le_refl _)); have Ky := hideIt (And.intro cp2 (And.intro sk2 ok2)); clear hv2 l2 cp2 sk2 ok2; have Bp_2 := hideIt (Bx.fr (b := w.heap.size) (v := v) (s := (.slice none 0 0)) (by repeat first | with_reducible exact Bp_1.out | with_reducible apply Bx.alloc | with_reducible refine Bx.set ?_ (by (try dsimp only); omega) _ | with_reducible apply Bx.drew) (by omega) f2); have yp2 := Bp_2.out.lt; have Br_2 := hideIt (Bx.fr (b := w.heap.size + 1) (v := (nk 0)) (s := (.slice none 0 0)) (by repeat first | with_reducible exact Br_1.out | with_reducible apply Bx.alloc | with_reducible refine Bx.set ?_ (by (try dsimp only); omega) _ | with_reducible apply Bx.drew) (by omega) f2); have yr2 := Br_2.out.lt; clear p0 p1 p2 p3 p4 p5 p6 p7 p8 p9 pf yp1; clear ep0 ep1 ep2 ep3 ep4 ep5 ep6 ep7 ep8 ep9; obtain ⟨p0, p1, p2, p3, p4, p5, p6, p7, p8, p9⟩ := Bp_2.out.ten; have pf := Bp_2.out.free; obtain ⟨r0, r1, r2, r3, r4, r5, r6, r7, r8, r9⟩ := Br_2.out.ten; have rf := Br_2.out.free; clear Bp_1 Br_1; clear C2; clear f2 d2)
    go_wp2_with (fail)
    have ER := HR.out
    subst ER
    refine bodyPost_ret (v := nodeV v (.slice (some ⟨x2.heap.size, 0, none⟩) 1 1)) (by simp [results, Tryz.results126, go_sem, *]) rfl ⟨(by repeat with_reducible first | exact F2.out | apply Fr.alloc | apply Fr.drew | refine Fr.setNew ?_ (by (try dsimp only); omega) _), _, rfl, ?_, (by repeat with_reducible first | exact D2.out | apply RD.alloc | apply RD.drew | refine RD.setCell ?_ (by (try dsimp only); omega) _)⟩
    exact NV.mk (x := (v, one y)) (f := .cons y.1 a2 c2 g2 .nil) ⟨rfl, Ky.out.1, trivial⟩ sok1 (Ls.one (B := x1.heap.size) (U := x2.heap.size) (B' := w.heap.size) (by repeat with_reducible first | exact Ly_2.out | apply Ls.alloc | apply Ls.drew | refine Ls.set ?_ (by (try dsimp only); omega) _) Ky.out.2.2 Ky.out.2.1 (by (try simp) <;> (try omega)) (by first | (simp; done) | rfl) (by omega) (by (try simp) <;> (try omega))) (Nat.le_refl _) hv

end Go.Proofs.YtoilhcklflmamaaGreatDoor

namespace Go.Proofs.YtoilhcklflmamaaGreatDoor
open Go.RowKit
open Pr
set_option linter.unusedVariables false

set_option maxRecDepth 100000 in
set_option maxHeartbeats 4000000 in
theorem literal_rd (R g cap : Nat) (L : List Tok) (n : Nat) (s : St) (hno : rd (n + 1) .literal s ≠ .out) :
    Rule 73 #[] R g cap L s (rd (n + 1) .literal s) := by
  intro w h
  have e : rd (n + 1) .literal s = (numberM s).bnd fun t s => (nodeM s).bnd fun _ s => .ok (⟨15, 0, 0, t.ty, 0, t.n, 0, ⟨#[]⟩, ⟨#[]⟩⟩, .nil) s := rfl
  rw [e] at hno ⊢
  clear e
  have HD := hideIt h
  have hR := h.b.lt_size
  clear h
  obtain ⟨r, hr⟩ : ∃ r, ((numberM s).bnd fun t s => (nodeM s).bnd fun _ s => .ok (⟨15, 0, 0, t.ty, 0, t.n, 0, ⟨#[]⟩, ⟨#[]⟩⟩, .nil) s : Rs Nd) = r := ⟨_, rfl⟩
  rw [hr] at hno ⊢
  have HR := hideIt hr
  have HN := hideIt hno
  clear hr hno
  go_enter Tryz.func73, Tryz.ntmps73
  go_wp2_with (fail)
  cases h1 : numberM s with
  | out => rw [h1] at HR; exact absurd HR.out.symm HN.out
  | bad k p =>
   rw [h1] at HR
   have C1 := hideIt (fun X (h : RD X R g cap L s) => number_rd R g cap L s X h)
   (go_at_call 96; refine Calls.mono (badc h1 (C1.out _ (by repeat with_reducible first | exact HD.out | apply RD.alloc | apply RD.drew | refine RD.setCell ?_ (by (try dsimp only); omega) _))) ?_; rintro e x1 ⟨rfl, f1⟩; have F1 := hideIt (show Fr R w x1 from Fr.trans (by repeat with_reducible first | exact (Fr.refl R w) | apply Fr.alloc | apply Fr.drew | refine Fr.setNew ?_ (by (try dsimp only); omega) _) f1); clear f1)
   have ER : Rs.bad k p = r := HR.out
   subst ER
   exact ⟨rfl, F1.out, rfl⟩
  | ok t s1 =>
   rw [h1] at HR
   try simp only [bnd_ok] at HR
   have C1 := hideIt (fun X (h : RD X R g cap L s) => number_rd R g cap L s X h)
   (go_at_call 96; refine Calls.mono (okc h1 (C1.out _ (by repeat with_reducible first | exact HD.out | apply RD.alloc | apply RD.drew | refine RD.setCell ?_ (by (try dsimp only); omega) _))) ?_; rintro e x1 ⟨v1, rfl, ⟨pk1, rfl⟩, f1, d1⟩; have D1 := hideIt d1; have F1 := hideIt (show Fr R w x1 from Fr.trans (by repeat with_reducible first | exact (Fr.refl R w) | apply Fr.alloc | apply Fr.drew | refine Fr.setNew ?_ (by (try dsimp only); omega) _) f1); have Z1 : w.heap.size + 1 ≤ x1.heap.size := (by have z := f1.size; (try simp at z); omega); have Br_1 := hideIt (Bx.fr (b := w.heap.size) (v := (nk 0)) (s := (.slice none 0 0)) (by repeat first | refine Bx.newAt _ (nk 0) (.slice none 0 0) (by simp; done) | with_reducible apply Bx.alloc | with_reducible refine Bx.set ?_ (by (try dsimp only); omega) _ | with_reducible apply Bx.drew) (by omega) f1); have yr1 := Br_1.out.lt; clear C1; clear f1 d1)
   go_wp2_with (fail)
   cases h2 : nodeM s1 with
   | out => rw [h2] at HR; exact absurd HR.out.symm HN.out
   | bad k p =>
    rw [h2] at HR
    have C2 := hideIt (fun X (h : RD X R g cap L s1) => node_rd R g cap L s1 X h ⟨15, 0, 0, t.ty, 0, t.n, 0, ⟨#[]⟩, ⟨#[]⟩⟩ none 0 0)
    (go_at_call 31; refine Calls.mono (badc h2 (C2.out _ (by repeat with_reducible first | exact D1.out | apply RD.alloc | apply RD.drew | refine RD.setCell ?_ (by (try dsimp only); omega) _))) ?_; rintro e x2 ⟨rfl, f2⟩; have F2 := hideIt (show Fr R w x2 from Fr.trans (by repeat with_reducible first | exact F1.out | apply Fr.alloc | apply Fr.drew | refine Fr.setNew ?_ (by (try dsimp only); omega) _) f2); clear f2)
    have ER : Rs.bad k p = r := HR.out
    subst ER
    exact ⟨rfl, F2.out, rfl⟩
   | ok u2 s2 =>
    rw [h2] at HR
    try simp only [bnd_ok] at HR
    have C2 := hideIt (fun X (h : RD X R g cap L s1) => node_rd R g cap L s1 X h ⟨15, 0, 0, t.ty, 0, t.n, 0, ⟨#[]⟩, ⟨#[]⟩⟩ none 0 0)
    (go_at_call 31; refine Calls.mono (okc h2 (C2.out _ (by repeat with_reducible first | exact D1.out | apply RD.alloc | apply RD.drew | refine RD.setCell ?_ (by (try dsimp only); omega) _))) ?_; rintro e x2 ⟨v2, rfl, rfl, f2, d2⟩; have D2 := hideIt d2; have F2 := hideIt (show Fr R w x2 from Fr.trans (by repeat with_reducible first | exact F1.out | apply Fr.alloc | apply Fr.drew | refine Fr.setNew ?_ (by (try dsimp only); omega) _) f2); have Z2 : x1.heap.size + 1 ≤ x2.heap.size := (by have z := f2.size; (try simp at z); omega); have Br_2 := hideIt (Bx.fr (b := w.heap.size) (v := (nk 0)) (s := (.slice none 0 0)) (by repeat first | with_reducible exact Br_1.out | with_reducible apply Bx.alloc | with_reducible refine Bx.set ?_ (by (try dsimp only); omega) _ | with_reducible apply Bx.drew) (by omega) f2); have yr2 := Br_2.out.lt; obtain ⟨r0, r1, r2, r3, r4, r5, r6, r7, r8, r9⟩ := Br_2.out.ten; have rf := Br_2.out.free; clear Br_1; clear C2; clear f2 d2)
    go_wp2_with (fail)
    have ER := HR.out
    subst ER
    have ob1 := number_ok h1 HD.out.p.wf
    refine bodyPost_ret (v := nodeV ⟨15, 0, 0, t.ty, 0, t.n, 0, ⟨#[]⟩, ⟨#[]⟩⟩ (.slice none 0 0)) (by simp [results, Tryz.results73, go_sem, *]) rfl ⟨(by repeat with_reducible first | exact F2.out | apply Fr.alloc | apply Fr.drew | refine Fr.setNew ?_ (by (try dsimp only); omega) _), _, rfl, ?_, (by repeat with_reducible first | exact D2.out | apply RD.alloc | apply RD.drew | refine RD.setCell ?_ (by (try dsimp only); omega) _)⟩
    exact NV.leaf (by refine nf_ok ?_ ?_ ?_ ?_ ?_ ?_ ?_ ?_ ?_ <;> first | omega | decide | (rw [bs_size]; omega) | exact Nat.zero_le _)

set_option maxRecDepth 100000 in
set_option maxHeartbeats 4000000 in
theorem field_rd (R g cap : Nat) (L : List Tok) (n : Nat) (s : St) (hno : rd (n + 1) .field s ≠ .out) :
    Rule 68 #[] R g cap L s (rd (n + 1) .field s) := by
  intro w h
  have e : rd (n + 1) .field s = (intM s).bnd fun t s => (nameM s).bnd fun nm s => (nodeM s).bnd fun _ s => (needM [59] s).bnd fun _ s => .ok (⟨3, 0, 0, t, 0, 0, 0, bs nm, ⟨#[]⟩⟩, .nil) s := rfl
  rw [e] at hno ⊢
  clear e
  have HD := hideIt h
  have hR := h.b.lt_size
  clear h
  obtain ⟨r, hr⟩ : ∃ r, ((intM s).bnd fun t s => (nameM s).bnd fun nm s => (nodeM s).bnd fun _ s => (needM [59] s).bnd fun _ s => .ok (⟨3, 0, 0, t, 0, 0, 0, bs nm, ⟨#[]⟩⟩, .nil) s : Rs Nd) = r := ⟨_, rfl⟩
  rw [hr] at hno ⊢
  have HR := hideIt hr
  have HN := hideIt hno
  clear hr hno
  go_enter Tryz.func68, Tryz.ntmps68
  go_wp2_with (fail)
  cases h1 : intM s with
  | out => rw [h1] at HR; exact absurd HR.out.symm HN.out
  | bad k p =>
   rw [h1] at HR
   have C1 := hideIt (fun X (h : RD X R g cap L s) => int_rd R g cap L s X h)
   (go_at_call 70; refine Calls.mono (badc h1 (C1.out _ (by repeat with_reducible first | exact HD.out | apply RD.alloc | apply RD.drew | refine RD.setCell ?_ (by (try dsimp only); omega) _))) ?_; rintro e x1 ⟨rfl, f1⟩; have F1 := hideIt (show Fr R w x1 from Fr.trans (by repeat with_reducible first | exact (Fr.refl R w) | apply Fr.alloc | apply Fr.drew | refine Fr.setNew ?_ (by (try dsimp only); omega) _) f1); clear f1)
   have ER : Rs.bad k p = r := HR.out
   subst ER
   exact ⟨rfl, F1.out, rfl⟩
  | ok t s1 =>
   rw [h1] at HR
   try simp only [bnd_ok] at HR
   have C1 := hideIt (fun X (h : RD X R g cap L s) => int_rd R g cap L s X h)
   (go_at_call 70; refine Calls.mono (okc h1 (C1.out _ (by repeat with_reducible first | exact HD.out | apply RD.alloc | apply RD.drew | refine RD.setCell ?_ (by (try dsimp only); omega) _))) ?_; rintro e x1 ⟨v1, rfl, rfl, f1, d1⟩; have D1 := hideIt d1; have F1 := hideIt (show Fr R w x1 from Fr.trans (by repeat with_reducible first | exact (Fr.refl R w) | apply Fr.alloc | apply Fr.drew | refine Fr.setNew ?_ (by (try dsimp only); omega) _) f1); have Z1 : w.heap.size + 1 ≤ x1.heap.size := (by have z := f1.size; (try simp at z); omega); have Br_1 := hideIt (Bx.fr (b := w.heap.size) (v := (nk 0)) (s := (.slice none 0 0)) (by repeat first | refine Bx.newAt _ (nk 0) (.slice none 0 0) (by simp; done) | with_reducible apply Bx.alloc | with_reducible refine Bx.set ?_ (by (try dsimp only); omega) _ | with_reducible apply Bx.drew) (by omega) f1); have yr1 := Br_1.out.lt; clear C1; clear f1 d1)
   go_wp2_with (fail)
   cases h2 : nameM s1 with
   | out => rw [h2] at HR; exact absurd HR.out.symm HN.out
   | bad k p =>
    rw [h2] at HR
    have C2 := hideIt (fun X (h : RD X R g cap L s1) => name_rd R g cap L s1 X h)
    (go_at_call 65; refine Calls.mono (badc h2 (C2.out _ (by repeat with_reducible first | exact D1.out | apply RD.alloc | apply RD.drew | refine RD.setCell ?_ (by (try dsimp only); omega) _))) ?_; rintro e x2 ⟨rfl, f2⟩; have F2 := hideIt (show Fr R w x2 from Fr.trans (by repeat with_reducible first | exact F1.out | apply Fr.alloc | apply Fr.drew | refine Fr.setNew ?_ (by (try dsimp only); omega) _) f2); clear f2)
    have ER : Rs.bad k p = r := HR.out
    subst ER
    exact ⟨rfl, F2.out, rfl⟩
   | ok nm s2 =>
    rw [h2] at HR
    try simp only [bnd_ok] at HR
    have C2 := hideIt (fun X (h : RD X R g cap L s1) => name_rd R g cap L s1 X h)
    (go_at_call 65; refine Calls.mono (okc h2 (C2.out _ (by repeat with_reducible first | exact D1.out | apply RD.alloc | apply RD.drew | refine RD.setCell ?_ (by (try dsimp only); omega) _))) ?_; rintro e x2 ⟨v2, rfl, rfl, f2, d2⟩; have D2 := hideIt d2; have F2 := hideIt (show Fr R w x2 from Fr.trans (by repeat with_reducible first | exact F1.out | apply Fr.alloc | apply Fr.drew | refine Fr.setNew ?_ (by (try dsimp only); omega) _) f2); have Z2 : x1.heap.size ≤ x2.heap.size := (by have z := f2.size; (try simp at z); omega); have Br_2 := hideIt (Bx.fr (b := w.heap.size) (v := (nk 0)) (s := (.slice none 0 0)) (by repeat first | with_reducible exact Br_1.out | with_reducible apply Bx.alloc | with_reducible refine Bx.set ?_ (by (try dsimp only); omega) _ | with_reducible apply Bx.drew) (by omega) f2); have yr2 := Br_2.out.lt; clear Br_1; clear C2; clear f2 d2)
    go_wp2_with (fail)
    cases h3 : nodeM s2 with
    | out => rw [h3] at HR; exact absurd HR.out.symm HN.out
    | bad k p =>
     rw [h3] at HR
     have C3 := hideIt (fun X (h : RD X R g cap L s2) => node_rd R g cap L s2 X h ⟨3, 0, 0, t, 0, 0, 0, bs nm, ⟨#[]⟩⟩ none 0 0)
     (go_at_call 31; refine Calls.mono (badc h3 (C3.out _ (by repeat with_reducible first | exact D2.out | apply RD.alloc | apply RD.drew | refine RD.setCell ?_ (by (try dsimp only); omega) _))) ?_; rintro e x3 ⟨rfl, f3⟩; have F3 := hideIt (show Fr R w x3 from Fr.trans (by repeat with_reducible first | exact F2.out | apply Fr.alloc | apply Fr.drew | refine Fr.setNew ?_ (by (try dsimp only); omega) _) f3); clear f3)
     have ER : Rs.bad k p = r := HR.out
     subst ER
     exact ⟨rfl, F3.out, rfl⟩
    | ok u3 s3 =>
     rw [h3] at HR
     try simp only [bnd_ok] at HR
     have C3 := hideIt (fun X (h : RD X R g cap L s2) => node_rd R g cap L s2 X h ⟨3, 0, 0, t, 0, 0, 0, bs nm, ⟨#[]⟩⟩ none 0 0)
     (go_at_call 31; refine Calls.mono (okc h3 (C3.out _ (by repeat with_reducible first | exact D2.out | apply RD.alloc | apply RD.drew | refine RD.setCell ?_ (by (try dsimp only); omega) _))) ?_; rintro e x3 ⟨v3, rfl, rfl, f3, d3⟩; have D3 := hideIt d3; have F3 := hideIt (show Fr R w x3 from Fr.trans (by repeat with_reducible first | exact F2.out | apply Fr.alloc | apply Fr.drew | refine Fr.setNew ?_ (by (try dsimp only); omega) _) f3); have Z3 : x2.heap.size ≤ x3.heap.size := (by have z := f3.size; (try simp at z); omega); have Br_3 := hideIt (Bx.fr (b := w.heap.size) (v := (nk 0)) (s := (.slice none 0 0)) (by repeat first | with_reducible exact Br_2.out | with_reducible apply Bx.alloc | with_reducible refine Bx.set ?_ (by (try dsimp only); omega) _ | with_reducible apply Bx.drew) (by omega) f3); have yr3 := Br_3.out.lt; clear Br_2; clear C3; clear f3 d3)
     go_wp2_with (fail)
     cases h4 : needM [59] s3 with
     | out => rw [h4] at HR; exact absurd HR.out.symm HN.out
     | bad k p =>
      rw [h4] at HR
      have C4 := hideIt (fun X (h : RD X R g cap L s3) => need_any [59] (by decide) R g cap L s3 X h)
      (go_at_call_of 91 (Value.string ⟨#[59]⟩); refine Calls.mono (badc h4 (C4.out _ (by repeat with_reducible first | exact D3.out | apply RD.alloc | apply RD.drew | refine RD.setCell ?_ (by (try dsimp only); omega) _))) ?_; rintro e x4 ⟨rfl, f4⟩; have F4 := hideIt (show Fr R w x4 from Fr.trans (by repeat with_reducible first | exact F3.out | apply Fr.alloc | apply Fr.drew | refine Fr.setNew ?_ (by (try dsimp only); omega) _) f4); clear f4)
      have ER : Rs.bad k p = r := HR.out
      subst ER
      exact ⟨rfl, F4.out, rfl⟩
     | ok u4 s4 =>
      rw [h4] at HR
      try simp only [bnd_ok] at HR
      have C4 := hideIt (fun X (h : RD X R g cap L s3) => need_any [59] (by decide) R g cap L s3 X h)
      (go_at_call_of 91 (Value.string ⟨#[59]⟩); refine Calls.mono (okc h4 (C4.out _ (by repeat with_reducible first | exact D3.out | apply RD.alloc | apply RD.drew | refine RD.setCell ?_ (by (try dsimp only); omega) _))) ?_; rintro e x4 ⟨v4, rfl, rfl, f4, d4⟩; have D4 := hideIt d4; have F4 := hideIt (show Fr R w x4 from Fr.trans (by repeat with_reducible first | exact F3.out | apply Fr.alloc | apply Fr.drew | refine Fr.setNew ?_ (by (try dsimp only); omega) _) f4); have Z4 : x3.heap.size + 1 ≤ x4.heap.size := (by have z := f4.size; (try simp at z); omega); have Br_4 := hideIt (Bx.fr (b := w.heap.size) (v := (nk 0)) (s := (.slice none 0 0)) (by repeat first | with_reducible exact Br_3.out | with_reducible apply Bx.alloc | with_reducible refine Bx.set ?_ (by (try dsimp only); omega) _ | with_reducible apply Bx.drew) (by omega) f4); have yr4 := Br_4.out.lt; have Bn_4 := hideIt (Bx.fr (b := x3.heap.size) (v := ⟨3, 0, 0, t, 0, 0, 0, bs nm, ⟨#[]⟩⟩) (s := (.slice none 0 0)) (by repeat first | refine Bx.newAt _ ⟨3, 0, 0, t, 0, 0, 0, bs nm, ⟨#[]⟩⟩ (.slice none 0 0) (by simp; done) | with_reducible apply Bx.alloc | with_reducible refine Bx.set ?_ (by (try dsimp only); omega) _ | with_reducible apply Bx.drew) (by omega) f4); have yn4 := Bn_4.out.lt; obtain ⟨r0, r1, r2, r3, r4, r5, r6, r7, r8, r9⟩ := Br_4.out.ten; have rf := Br_4.out.free; obtain ⟨n0, n1, n2, n3, n4, n5, n6, n7, n8, n9⟩ := Bn_4.out.ten; have nf := Bn_4.out.free; clear Br_3; clear C4; clear f4 d4)
      go_wp2_with (fail)
      have ER := HR.out
      subst ER
      have ob1 := int_ok h1 HD.out.p.wf
      have ob2 := name_ok h2 D1.out.p.wf
      refine bodyPost_ret (v := nodeV ⟨3, 0, 0, t, 0, 0, 0, bs nm, ⟨#[]⟩⟩ (.slice none 0 0)) (by simp [results, Tryz.results68, go_sem, *]) rfl ⟨(by repeat with_reducible first | exact F4.out | apply Fr.alloc | apply Fr.drew | refine Fr.setNew ?_ (by (try dsimp only); omega) _), _, rfl, ?_, (by repeat with_reducible first | exact D4.out | apply RD.alloc | apply RD.drew | refine RD.setCell ?_ (by (try dsimp only); omega) _)⟩
      exact NV.leaf (by refine nf_ok ?_ ?_ ?_ ?_ ?_ ?_ ?_ ?_ ?_ <;> first | omega | decide | (rw [bs_size]; omega) | exact Nat.zero_le _)

set_option maxRecDepth 100000 in
set_option maxHeartbeats 4000000 in
theorem structured_rd (R g cap : Nat) (L : List Tok) (n : Nat) (k0 : Int) (hk0 : 0 ≤ k0 ∧ k0 ≤ 255) (of : List UInt8) (hof : of.length ≤ 65536) (s : St) (hno : rd (n + 1) (.structured k0 of) s ≠ .out) :
    Rule 69 #[.int .u8 k0, .string (bs of)] R g cap L s (rd (n + 1) (.structured k0 of) s) := by
  intro w h
  have e : rd (n + 1) (.structured k0 of) s = (nameM s).bnd fun nm s => (nodeM s).bnd fun _ s => (needM [59] s).bnd fun _ s => .ok (⟨k0, 0, 2, 0, 0, 0, 0, bs nm, bs of⟩, .nil) s := rfl
  rw [e] at hno ⊢
  clear e
  have HD := hideIt h
  have hR := h.b.lt_size
  clear h
  obtain ⟨r, hr⟩ : ∃ r, ((nameM s).bnd fun nm s => (nodeM s).bnd fun _ s => (needM [59] s).bnd fun _ s => .ok (⟨k0, 0, 2, 0, 0, 0, 0, bs nm, bs of⟩, .nil) s : Rs Nd) = r := ⟨_, rfl⟩
  rw [hr] at hno ⊢
  have HR := hideIt hr
  have HN := hideIt hno
  clear hr hno
  go_enter Tryz.func69, Tryz.ntmps69
  go_wp2_with (fail)
  cases h1 : nameM s with
  | out => rw [h1] at HR; exact absurd HR.out.symm HN.out
  | bad k p =>
   rw [h1] at HR
   have C1 := hideIt (fun X (h : RD X R g cap L s) => name_rd R g cap L s X h)
   (go_at_call 65; refine Calls.mono (badc h1 (C1.out _ (by repeat with_reducible first | exact HD.out | apply RD.alloc | apply RD.drew | refine RD.setCell ?_ (by (try dsimp only); omega) _))) ?_; rintro e x1 ⟨rfl, f1⟩; have F1 := hideIt (show Fr R w x1 from Fr.trans (by repeat with_reducible first | exact (Fr.refl R w) | apply Fr.alloc | apply Fr.drew | refine Fr.setNew ?_ (by (try dsimp only); omega) _) f1); clear f1)
   have ER : Rs.bad k p = r := HR.out
   subst ER
   exact ⟨rfl, F1.out, rfl⟩
  | ok nm s1 =>
   rw [h1] at HR
   try simp only [bnd_ok] at HR
   have C1 := hideIt (fun X (h : RD X R g cap L s) => name_rd R g cap L s X h)
   (go_at_call 65; refine Calls.mono (okc h1 (C1.out _ (by repeat with_reducible first | exact HD.out | apply RD.alloc | apply RD.drew | refine RD.setCell ?_ (by (try dsimp only); omega) _))) ?_; rintro e x1 ⟨v1, rfl, rfl, f1, d1⟩; have D1 := hideIt d1; have F1 := hideIt (show Fr R w x1 from Fr.trans (by repeat with_reducible first | exact (Fr.refl R w) | apply Fr.alloc | apply Fr.drew | refine Fr.setNew ?_ (by (try dsimp only); omega) _) f1); have Z1 : w.heap.size + 1 ≤ x1.heap.size := (by have z := f1.size; (try simp at z); omega); have Br_1 := hideIt (Bx.fr (b := w.heap.size) (v := (nk 0)) (s := (.slice none 0 0)) (by repeat first | refine Bx.newAt _ (nk 0) (.slice none 0 0) (by simp; done) | with_reducible apply Bx.alloc | with_reducible refine Bx.set ?_ (by (try dsimp only); omega) _ | with_reducible apply Bx.drew) (by omega) f1); have yr1 := Br_1.out.lt; clear C1; clear f1 d1)
   go_wp2_with (fail)
   cases h2 : nodeM s1 with
   | out => rw [h2] at HR; exact absurd HR.out.symm HN.out
   | bad k p =>
    rw [h2] at HR
    have C2 := hideIt (fun X (h : RD X R g cap L s1) => node_rd R g cap L s1 X h ⟨k0, 0, 2, 0, 0, 0, 0, bs nm, bs of⟩ none 0 0)
    (go_at_call 31; refine Calls.mono (badc h2 (C2.out _ (by repeat with_reducible first | exact D1.out | apply RD.alloc | apply RD.drew | refine RD.setCell ?_ (by (try dsimp only); omega) _))) ?_; rintro e x2 ⟨rfl, f2⟩; have F2 := hideIt (show Fr R w x2 from Fr.trans (by repeat with_reducible first | exact F1.out | apply Fr.alloc | apply Fr.drew | refine Fr.setNew ?_ (by (try dsimp only); omega) _) f2); clear f2)
    have ER : Rs.bad k p = r := HR.out
    subst ER
    exact ⟨rfl, F2.out, rfl⟩
   | ok u2 s2 =>
    rw [h2] at HR
    try simp only [bnd_ok] at HR
    have C2 := hideIt (fun X (h : RD X R g cap L s1) => node_rd R g cap L s1 X h ⟨k0, 0, 2, 0, 0, 0, 0, bs nm, bs of⟩ none 0 0)
    (go_at_call 31; refine Calls.mono (okc h2 (C2.out _ (by repeat with_reducible first | exact D1.out | apply RD.alloc | apply RD.drew | refine RD.setCell ?_ (by (try dsimp only); omega) _))) ?_; rintro e x2 ⟨v2, rfl, rfl, f2, d2⟩; have D2 := hideIt d2; have F2 := hideIt (show Fr R w x2 from Fr.trans (by repeat with_reducible first | exact F1.out | apply Fr.alloc | apply Fr.drew | refine Fr.setNew ?_ (by (try dsimp only); omega) _) f2); have Z2 : x1.heap.size ≤ x2.heap.size := (by have z := f2.size; (try simp at z); omega); have Br_2 := hideIt (Bx.fr (b := w.heap.size) (v := (nk 0)) (s := (.slice none 0 0)) (by repeat first | with_reducible exact Br_1.out | with_reducible apply Bx.alloc | with_reducible refine Bx.set ?_ (by (try dsimp only); omega) _ | with_reducible apply Bx.drew) (by omega) f2); have yr2 := Br_2.out.lt; clear Br_1; clear C2; clear f2 d2)
    go_wp2_with (fail)
    cases h3 : needM [59] s2 with
    | out => rw [h3] at HR; exact absurd HR.out.symm HN.out
    | bad k p =>
     rw [h3] at HR
     have C3 := hideIt (fun X (h : RD X R g cap L s2) => need_any [59] (by decide) R g cap L s2 X h)
     (go_at_call_of 91 (Value.string ⟨#[59]⟩); refine Calls.mono (badc h3 (C3.out _ (by repeat with_reducible first | exact D2.out | apply RD.alloc | apply RD.drew | refine RD.setCell ?_ (by (try dsimp only); omega) _))) ?_; rintro e x3 ⟨rfl, f3⟩; have F3 := hideIt (show Fr R w x3 from Fr.trans (by repeat with_reducible first | exact F2.out | apply Fr.alloc | apply Fr.drew | refine Fr.setNew ?_ (by (try dsimp only); omega) _) f3); clear f3)
     have ER : Rs.bad k p = r := HR.out
     subst ER
     exact ⟨rfl, F3.out, rfl⟩
    | ok u3 s3 =>
     rw [h3] at HR
     try simp only [bnd_ok] at HR
     have C3 := hideIt (fun X (h : RD X R g cap L s2) => need_any [59] (by decide) R g cap L s2 X h)
     (go_at_call_of 91 (Value.string ⟨#[59]⟩); refine Calls.mono (okc h3 (C3.out _ (by repeat with_reducible first | exact D2.out | apply RD.alloc | apply RD.drew | refine RD.setCell ?_ (by (try dsimp only); omega) _))) ?_; rintro e x3 ⟨v3, rfl, rfl, f3, d3⟩; have D3 := hideIt d3; have F3 := hideIt (show Fr R w x3 from Fr.trans (by repeat with_reducible first | exact F2.out | apply Fr.alloc | apply Fr.drew | refine Fr.setNew ?_ (by (try dsimp only); omega) _) f3); have Z3 : x2.heap.size + 1 ≤ x3.heap.size := (by have z := f3.size; (try simp at z); omega); have Br_3 := hideIt (Bx.fr (b := w.heap.size) (v := (nk 0)) (s := (.slice none 0 0)) (by repeat first | with_reducible exact Br_2.out | with_reducible apply Bx.alloc | with_reducible refine Bx.set ?_ (by (try dsimp only); omega) _ | with_reducible apply Bx.drew) (by omega) f3); have yr3 := Br_3.out.lt; have Bn_3 := hideIt (Bx.fr (b := x2.heap.size) (v := ⟨k0, 0, 2, 0, 0, 0, 0, bs nm, bs of⟩) (s := (.slice none 0 0)) (by repeat first | refine Bx.newAt _ ⟨k0, 0, 2, 0, 0, 0, 0, bs nm, bs of⟩ (.slice none 0 0) (by simp; done) | with_reducible apply Bx.alloc | with_reducible refine Bx.set ?_ (by (try dsimp only); omega) _ | with_reducible apply Bx.drew) (by omega) f3); have yn3 := Bn_3.out.lt; obtain ⟨r0, r1, r2, r3, r4, r5, r6, r7, r8, r9⟩ := Br_3.out.ten; have rf := Br_3.out.free; obtain ⟨n0, n1, n2, n3, n4, n5, n6, n7, n8, n9⟩ := Bn_3.out.ten; have nf := Bn_3.out.free; clear Br_2; clear C3; clear f3 d3)
     go_wp2_with (fail)
     have ER := HR.out
     subst ER
     have ob1 := name_ok h1 HD.out.p.wf
     refine bodyPost_ret (v := nodeV ⟨k0, 0, 2, 0, 0, 0, 0, bs nm, bs of⟩ (.slice none 0 0)) (by simp [results, Tryz.results69, go_sem, *]) rfl ⟨(by repeat with_reducible first | exact F3.out | apply Fr.alloc | apply Fr.drew | refine Fr.setNew ?_ (by (try dsimp only); omega) _), _, rfl, ?_, (by repeat with_reducible first | exact D3.out | apply RD.alloc | apply RD.drew | refine RD.setCell ?_ (by (try dsimp only); omega) _)⟩
     exact NV.leaf (by refine nf_ok ?_ ?_ ?_ ?_ ?_ ?_ ?_ ?_ ?_ <;> first | omega | decide | (rw [bs_size]; omega) | exact Nat.zero_le _)

end Go.Proofs.YtoilhcklflmamaaGreatDoor

namespace Go.Proofs.YtoilhcklflmamaaGreatDoor
open Go.RowKit
open Pr
set_option linter.unusedVariables false

set_option maxRecDepth 100000 in
set_option maxHeartbeats 4000000 in
theorem bracketed_rd (R g cap : Nat) (L : List Tok) (n : Nat) (HE : ∀ s, rd n .expression s ≠ .out → Rule 114 #[] R g cap L s (rd n .expression s)) (s : St) (hno : rd (n + 1) .bracketed s ≠ .out) :
    Rule 117 #[] R g cap L s (rd (n + 1) .bracketed s) := by
  intro w h
  have e : rd (n + 1) .bracketed s = (needM [40] s).bnd fun _ s => (rd n .expression s).bnd fun x s => (needM [41] s).bnd fun _ s => .ok x s := rfl
  rw [e] at hno ⊢
  clear e
  have HD := hideIt h
  have hR := h.b.lt_size
  clear h
  obtain ⟨r, hr⟩ : ∃ r, ((needM [40] s).bnd fun _ s => (rd n .expression s).bnd fun x s => (needM [41] s).bnd fun _ s => .ok x s : Rs Nd) = r := ⟨_, rfl⟩
  rw [hr] at hno ⊢
  have HR := hideIt hr
  have HN := hideIt hno
  clear hr hno
  go_enter Tryz.func117, Tryz.ntmps117
  go_wp2_with (fail)
  cases h1 : needM [40] s with
  | out => rw [h1] at HR; exact absurd HR.out.symm HN.out
  | bad k p =>
   rw [h1] at HR
   have C1 := hideIt (fun X (h : RD X R g cap L s) => need_any [40] (by decide) R g cap L s X h)
   (go_at_call_of 91 (Value.string ⟨#[40]⟩); refine Calls.mono (badc h1 (C1.out _ (by repeat with_reducible first | exact HD.out | apply RD.alloc | apply RD.drew | refine RD.setCell ?_ (by (try dsimp only); omega) _))) ?_; rintro e x1 ⟨rfl, f1⟩; have F1 := hideIt (show Fr R w x1 from Fr.trans (by repeat with_reducible first | exact (Fr.refl R w) | apply Fr.alloc | apply Fr.drew | refine Fr.setNew ?_ (by (try dsimp only); omega) _) f1); clear f1)
   have ER : Rs.bad k p = r := HR.out
   subst ER
   exact ⟨rfl, F1.out, rfl⟩
  | ok u1 s1 =>
   rw [h1] at HR
   try simp only [bnd_ok] at HR
   have C1 := hideIt (fun X (h : RD X R g cap L s) => need_any [40] (by decide) R g cap L s X h)
   (go_at_call_of 91 (Value.string ⟨#[40]⟩); refine Calls.mono (okc h1 (C1.out _ (by repeat with_reducible first | exact HD.out | apply RD.alloc | apply RD.drew | refine RD.setCell ?_ (by (try dsimp only); omega) _))) ?_; rintro e x1 ⟨v1, rfl, rfl, f1, d1⟩; have D1 := hideIt d1; have F1 := hideIt (show Fr R w x1 from Fr.trans (by repeat with_reducible first | exact (Fr.refl R w) | apply Fr.alloc | apply Fr.drew | refine Fr.setNew ?_ (by (try dsimp only); omega) _) f1); have Z1 : w.heap.size + 1 ≤ x1.heap.size := (by have z := f1.size; (try simp at z); omega); have Br_1 := hideIt (Bx.fr (b := w.heap.size) (v := (nk 0)) (s := (.slice none 0 0)) (by repeat first | refine Bx.newAt _ (nk 0) (.slice none 0 0) (by simp; done) | with_reducible apply Bx.alloc | with_reducible refine Bx.set ?_ (by (try dsimp only); omega) _ | with_reducible apply Bx.drew) (by omega) f1); have yr1 := Br_1.out.lt; clear C1; clear f1 d1)
   go_wp2_with (fail)
   cases h2 : rd n .expression s1 with
   | out => rw [h2] at HR; exact absurd HR.out.symm HN.out
   | bad k p =>
    rw [h2] at HR
    have C2 := hideIt (fun X (h : RD X R g cap L s1) => (HE s1 (by rw [h2]; exact fun e => by cases e)) X h)
    (go_at_call 114; refine Calls.mono (badc h2 (C2.out _ (by repeat with_reducible first | exact D1.out | apply RD.alloc | apply RD.drew | refine RD.setCell ?_ (by (try dsimp only); omega) _))) ?_; rintro e x2 ⟨rfl, f2⟩; have F2 := hideIt (show Fr R w x2 from Fr.trans (by repeat with_reducible first | exact F1.out | apply Fr.alloc | apply Fr.drew | refine Fr.setNew ?_ (by (try dsimp only); omega) _) f2); clear f2)
    have ER : Rs.bad k p = r := HR.out
    subst ER
    exact ⟨rfl, F2.out, rfl⟩
   | ok x s2 =>
    rw [h2] at HR
    try simp only [bnd_ok] at HR
    have C2 := hideIt (fun X (h : RD X R g cap L s1) => (HE s1 (by rw [h2]; exact fun e => by cases e)) X h)
    (go_at_call 114; refine Calls.mono (okc h2 (C2.out _ (by repeat with_reducible first | exact D1.out | apply RD.alloc | apply RD.drew | refine RD.setCell ?_ (by (try dsimp only); omega) _))) ?_; rintro e x2 ⟨v2, rfl, hv2, f2, d2⟩; have D2 := hideIt d2; have F2 := hideIt (show Fr R w x2 from Fr.trans (by repeat with_reducible first | exact F1.out | apply Fr.alloc | apply Fr.drew | refine Fr.setNew ?_ (by (try dsimp only); omega) _) f2); have Z2 : x1.heap.size ≤ x2.heap.size := (by have z := f2.size; (try simp at z); omega); obtain ⟨a2, c2, g2, rfl, cp2, sk2, l2, ok2⟩ := hv2.out; have Lx_2 := hideIt (Ls.mono (B' := x1.heap.size) l2 (by (try simp); try omega) (Nat.le_refl _)); have Kx := hideIt (And.intro cp2 (And.intro sk2 ok2)); clear hv2 l2 cp2 sk2 ok2; have Br_2 := hideIt (Bx.fr (b := w.heap.size) (v := (nk 0)) (s := (.slice none 0 0)) (by repeat first | with_reducible exact Br_1.out | with_reducible apply Bx.alloc | with_reducible refine Bx.set ?_ (by (try dsimp only); omega) _ | with_reducible apply Bx.drew) (by omega) f2); have yr2 := Br_2.out.lt; clear Br_1; clear C2; clear f2 d2)
    go_wp2_with (fail)
    cases h3 : needM [41] s2 with
    | out => rw [h3] at HR; exact absurd HR.out.symm HN.out
    | bad k p =>
     rw [h3] at HR
     have C3 := hideIt (fun X (h : RD X R g cap L s2) => need_any [41] (by decide) R g cap L s2 X h)
     (go_at_call_of 91 (Value.string ⟨#[41]⟩); refine Calls.mono (badc h3 (C3.out _ (by repeat with_reducible first | exact D2.out | apply RD.alloc | apply RD.drew | refine RD.setCell ?_ (by (try dsimp only); omega) _))) ?_; rintro e x3 ⟨rfl, f3⟩; have F3 := hideIt (show Fr R w x3 from Fr.trans (by repeat with_reducible first | exact F2.out | apply Fr.alloc | apply Fr.drew | refine Fr.setNew ?_ (by (try dsimp only); omega) _) f3); clear f3)
     have ER : Rs.bad k p = r := HR.out
     subst ER
     exact ⟨rfl, F3.out, rfl⟩
    | ok u3 s3 =>
     rw [h3] at HR
     try simp only [bnd_ok] at HR
     have C3 := hideIt (fun X (h : RD X R g cap L s2) => need_any [41] (by decide) R g cap L s2 X h)
     (go_at_call_of 91 (Value.string ⟨#[41]⟩); refine Calls.mono (okc h3 (C3.out _ (by repeat with_reducible first | exact D2.out | apply RD.alloc | apply RD.drew | refine RD.setCell ?_ (by (try dsimp only); omega) _))) ?_; rintro e x3 ⟨v3, rfl, rfl, f3, d3⟩; have D3 := hideIt d3; have F3 := hideIt (show Fr R w x3 from Fr.trans (by repeat with_reducible first | exact F2.out | apply Fr.alloc | apply Fr.drew | refine Fr.setNew ?_ (by (try dsimp only); omega) _) f3); have Z3 : x2.heap.size + 1 ≤ x3.heap.size := (by have z := f3.size; (try simp at z); omega); have Lx_3 := hideIt (Ls.fr (B := x1.heap.size) (U := x2.heap.size) (a := a2) (f := g2) (by repeat with_reducible first | exact Lx_2.out | apply Ls.alloc | apply Ls.drew | refine Ls.set ?_ (by (try dsimp only); omega) _) (by omega) f3); have Br_3 := hideIt (Bx.fr (b := w.heap.size) (v := (nk 0)) (s := (.slice none 0 0)) (by repeat first | with_reducible exact Br_2.out | with_reducible apply Bx.alloc | with_reducible refine Bx.set ?_ (by (try dsimp only); omega) _ | with_reducible apply Bx.drew) (by omega) f3); have yr3 := Br_3.out.lt; have Bn_3 := hideIt (Bx.fr (b := x2.heap.size) (v := x.1) (s := (.slice a2 g2.len c2)) (by repeat first | refine Bx.newAt _ x.1 (.slice a2 g2.len c2) (by simp; done) | with_reducible apply Bx.alloc | with_reducible refine Bx.set ?_ (by (try dsimp only); omega) _ | with_reducible apply Bx.drew) (by omega) f3); have yn3 := Bn_3.out.lt; obtain ⟨r0, r1, r2, r3, r4, r5, r6, r7, r8, r9⟩ := Br_3.out.ten; have rf := Br_3.out.free; obtain ⟨n0, n1, n2, n3, n4, n5, n6, n7, n8, n9⟩ := Bn_3.out.ten; have nf := Bn_3.out.free; clear Lx_2 Br_2; clear C3; clear f3 d3)
     go_wp2_with (fail)
     have ER := HR.out
     subst ER
     refine bodyPost_ret (v := nodeV x.1 (.slice a2 g2.len c2)) (by simp [results, Tryz.results117, go_sem, *]) rfl ⟨(by repeat with_reducible first | exact F3.out | apply Fr.alloc | apply Fr.drew | refine Fr.setNew ?_ (by (try dsimp only); omega) _), _, rfl, ?_, (by repeat with_reducible first | exact D3.out | apply RD.alloc | apply RD.drew | refine RD.setCell ?_ (by (try dsimp only); omega) _)⟩
     exact NV.mk (x := x) (B' := x1.heap.size) (U := x2.heap.size) Kx.out.1 Kx.out.2.1 (by repeat with_reducible first | exact Lx_3.out | apply Ls.alloc | apply Ls.drew | refine Ls.set ?_ (by (try dsimp only); omega) _) (by omega) Kx.out.2.2

set_option maxRecDepth 100000 in
set_option maxHeartbeats 4000000 in
theorem opened_rd (R g cap : Nat) (L : List Tok) (n : Nat) (HE : ∀ s, rd n .expression s ≠ .out → Rule 114 #[] R g cap L s (rd n .expression s)) (HP : ∀ v : NF, v.ok → ∀ s, rd n (.prefixed v) s ≠ .out → Rule 126 #[nodeV v (.slice none 0 0)] R g cap L s (rd n (.prefixed v) s)) (s : St) (hno : rd (n + 1) .opened s ≠ .out) :
    Rule 127 #[] R g cap L s (rd (n + 1) .opened s) := by
  intro w h
  have e : rd (n + 1) .opened s = if Lx.intT (tx s) < 6 then (intM s).bnd fun t s => (needM [41] s).bnd fun _ s => rd n (.prefixed { nk 22 with ti := t }) s else (rd n .expression s).bnd fun x s => (needM [41] s).bnd fun _ s => .ok x s := rfl
  rw [e] at hno ⊢
  clear e
  have HD := hideIt h
  have hR := h.b.lt_size
  clear h
  obtain ⟨r, hr⟩ : ∃ r, (if Lx.intT (tx s) < 6 then (intM s).bnd fun t s => (needM [41] s).bnd fun _ s => rd n (.prefixed { nk 22 with ti := t }) s else (rd n .expression s).bnd fun x s => (needM [41] s).bnd fun _ s => .ok x s : Rs Nd) = r := ⟨_, rfl⟩
  rw [hr] at hno ⊢
  have HR := hideIt hr
  have HN := hideIt hno
  clear hr hno
  go_enter Tryz.func127, Tryz.ntmps127
  go_wp2_with (fail)
  by_cases h1 : Lx.intT (tx s) < 6
  · rw [if_pos h1] at HR
    have C1 := hideIt (fun X (h : RD X R g cap L s) => isInt_any R g cap L s X h)
    (go_at_call 113; refine Calls.mono (C1.out _ (by repeat with_reducible first | exact HD.out | apply RD.alloc | apply RD.drew | refine RD.setCell ?_ (by (try dsimp only); omega) _)) ?_; rw [decide_eq_true h1]; rintro e x1 ⟨rfl, q1⟩; have f1 := Fr.of_q (R := R) q1; have D1 := hideIt (show RD x1 R g cap L s from RD.q (by repeat with_reducible first | exact HD.out | apply RD.alloc | apply RD.drew | refine RD.setCell ?_ (by (try dsimp only); omega) _) q1); have F1 := hideIt (show Fr R w x1 from Fr.trans (by repeat with_reducible first | exact (Fr.refl R w) | apply Fr.alloc | apply Fr.drew | refine Fr.setNew ?_ (by (try dsimp only); omega) _) f1); have Z1 : w.heap.size + 1 ≤ x1.heap.size := (by have z := f1.size; (try simp at z); omega); have Br_1 := hideIt (Bx.fr (b := w.heap.size) (v := (nk 0)) (s := (.slice none 0 0)) (by repeat first | refine Bx.newAt _ (nk 0) (.slice none 0 0) (by simp; done) | with_reducible apply Bx.alloc | with_reducible refine Bx.set ?_ (by (try dsimp only); omega) _ | with_reducible apply Bx.drew) (by omega) f1); have yr1 := Br_1.out.lt; clear C1; clear f1 q1)
    go_wp2_with (fail)
    cases h2 : intM s with
    | out => rw [h2] at HR; exact absurd HR.out.symm HN.out
    | bad k p =>
     rw [h2] at HR
     have C2 := hideIt (fun X (h : RD X R g cap L s) => int_rd R g cap L s X h)
     (go_at_call 70; refine Calls.mono (badc h2 (C2.out _ (by repeat with_reducible first | exact D1.out | apply RD.alloc | apply RD.drew | refine RD.setCell ?_ (by (try dsimp only); omega) _))) ?_; rintro e x2 ⟨rfl, f2⟩; have F2 := hideIt (show Fr R w x2 from Fr.trans (by repeat with_reducible first | exact F1.out | apply Fr.alloc | apply Fr.drew | refine Fr.setNew ?_ (by (try dsimp only); omega) _) f2); clear f2)
     have ER : Rs.bad k p = r := HR.out
     subst ER
     exact ⟨rfl, F2.out, rfl⟩
    | ok t s2 =>
     rw [h2] at HR
     try simp only [bnd_ok] at HR
     have C2 := hideIt (fun X (h : RD X R g cap L s) => int_rd R g cap L s X h)
     (go_at_call 70; refine Calls.mono (okc h2 (C2.out _ (by repeat with_reducible first | exact D1.out | apply RD.alloc | apply RD.drew | refine RD.setCell ?_ (by (try dsimp only); omega) _))) ?_; rintro e x2 ⟨v2, rfl, rfl, f2, d2⟩; have D2 := hideIt d2; have F2 := hideIt (show Fr R w x2 from Fr.trans (by repeat with_reducible first | exact F1.out | apply Fr.alloc | apply Fr.drew | refine Fr.setNew ?_ (by (try dsimp only); omega) _) f2); have Z2 : x1.heap.size ≤ x2.heap.size := (by have z := f2.size; (try simp at z); omega); have Br_2 := hideIt (Bx.fr (b := w.heap.size) (v := (nk 0)) (s := (.slice none 0 0)) (by repeat first | with_reducible exact Br_1.out | with_reducible apply Bx.alloc | with_reducible refine Bx.set ?_ (by (try dsimp only); omega) _ | with_reducible apply Bx.drew) (by omega) f2); have yr2 := Br_2.out.lt; clear Br_1; clear C2; clear f2 d2)
     go_wp2_with (fail)
     cases h3 : needM [41] s2 with
     | out => rw [h3] at HR; exact absurd HR.out.symm HN.out
     | bad k p =>
      rw [h3] at HR
      have C3 := hideIt (fun X (h : RD X R g cap L s2) => need_any [41] (by decide) R g cap L s2 X h)
      (go_at_call_of 91 (Value.string ⟨#[41]⟩); refine Calls.mono (badc h3 (C3.out _ (by repeat with_reducible first | exact D2.out | apply RD.alloc | apply RD.drew | refine RD.setCell ?_ (by (try dsimp only); omega) _))) ?_; rintro e x3 ⟨rfl, f3⟩; have F3 := hideIt (show Fr R w x3 from Fr.trans (by repeat with_reducible first | exact F2.out | apply Fr.alloc | apply Fr.drew | refine Fr.setNew ?_ (by (try dsimp only); omega) _) f3); clear f3)
      have ER : Rs.bad k p = r := HR.out
      subst ER
      exact ⟨rfl, F3.out, rfl⟩
     | ok u3 s3 =>
      rw [h3] at HR
      try simp only [bnd_ok] at HR
      have C3 := hideIt (fun X (h : RD X R g cap L s2) => need_any [41] (by decide) R g cap L s2 X h)
      (go_at_call_of 91 (Value.string ⟨#[41]⟩); refine Calls.mono (okc h3 (C3.out _ (by repeat with_reducible first | exact D2.out | apply RD.alloc | apply RD.drew | refine RD.setCell ?_ (by (try dsimp only); omega) _))) ?_; rintro e x3 ⟨v3, rfl, rfl, f3, d3⟩; have D3 := hideIt d3; have F3 := hideIt (show Fr R w x3 from Fr.trans (by repeat with_reducible first | exact F2.out | apply Fr.alloc | apply Fr.drew | refine Fr.setNew ?_ (by (try dsimp only); omega) _) f3); have Z3 : x2.heap.size + 1 ≤ x3.heap.size := (by have z := f3.size; (try simp at z); omega); have Br_3 := hideIt (Bx.fr (b := w.heap.size) (v := (nk 0)) (s := (.slice none 0 0)) (by repeat first | with_reducible exact Br_2.out | with_reducible apply Bx.alloc | with_reducible refine Bx.set ?_ (by (try dsimp only); omega) _ | with_reducible apply Bx.drew) (by omega) f3); have yr3 := Br_3.out.lt; have tb3 := Fr.box (R := R) (x := x2) (by omega) f3; have tc0 := cell_of_block tb3 0; have tc1 := cell_of_block tb3 1; have tc2 := cell_of_block tb3 2; clear tb3; clear Br_2; clear C3; clear f3 d3)
      go_wp2_with (fail)
      cases h4 : rd n (.prefixed ⟨22, 0, 0, t, 0, 0, 0, ⟨#[]⟩, ⟨#[]⟩⟩) s3 with
      | out => rw [h4] at HR; exact absurd HR.out.symm HN.out
      | bad k p =>
       rw [h4] at HR
       have C4 := hideIt (fun X (h : RD X R g cap L s3) => (HP ⟨22, 0, 0, t, 0, 0, 0, ⟨#[]⟩, ⟨#[]⟩⟩ (by have := int_ok h2 HD.out.p.wf; exact (by refine nf_ok ?_ ?_ ?_ ?_ ?_ ?_ ?_ ?_ ?_ <;> first | omega | decide | (rw [bs_size]; omega) | exact Nat.zero_le _)) s3 (by rw [h4]; exact fun e => by cases e)) X h)
       (go_at_call 126; refine Calls.mono (badc h4 (C4.out _ (by repeat with_reducible first | exact D3.out | apply RD.alloc | apply RD.drew | refine RD.setCell ?_ (by (try dsimp only); omega) _))) ?_; rintro e x4 ⟨rfl, f4⟩; have F4 := hideIt (show Fr R w x4 from Fr.trans (by repeat with_reducible first | exact F3.out | apply Fr.alloc | apply Fr.drew | refine Fr.setNew ?_ (by (try dsimp only); omega) _) f4); clear f4)
       have ER : Rs.bad k p = r := HR.out
       subst ER
       exact ⟨rfl, F4.out, rfl⟩
      | ok x s4 =>
       rw [h4] at HR
       try simp only [bnd_ok] at HR
       have C4 := hideIt (fun X (h : RD X R g cap L s3) => (HP ⟨22, 0, 0, t, 0, 0, 0, ⟨#[]⟩, ⟨#[]⟩⟩ (by have := int_ok h2 HD.out.p.wf; exact (by refine nf_ok ?_ ?_ ?_ ?_ ?_ ?_ ?_ ?_ ?_ <;> first | omega | decide | (rw [bs_size]; omega) | exact Nat.zero_le _)) s3 (by rw [h4]; exact fun e => by cases e)) X h)
       (go_at_call 126; refine Calls.mono (okc h4 (C4.out _ (by repeat with_reducible first | exact D3.out | apply RD.alloc | apply RD.drew | refine RD.setCell ?_ (by (try dsimp only); omega) _))) ?_; rintro e x4 ⟨v4, rfl, hv4, f4, d4⟩; have D4 := hideIt d4; have F4 := hideIt (show Fr R w x4 from Fr.trans (by repeat with_reducible first | exact F3.out | apply Fr.alloc | apply Fr.drew | refine Fr.setNew ?_ (by (try dsimp only); omega) _) f4); have Z4 : x3.heap.size ≤ x4.heap.size := (by have z := f4.size; (try simp at z); omega); obtain ⟨a4, c4, g4, rfl, cp4, sk4, l4, ok4⟩ := hv4.out; have Lx_4 := hideIt (Ls.mono (B' := x3.heap.size) l4 (by (try simp); try omega) (Nat.le_refl _)); have Kx := hideIt (And.intro cp4 (And.intro sk4 ok4)); clear hv4 l4 cp4 sk4 ok4; have Br_4 := hideIt (Bx.fr (b := w.heap.size) (v := (nk 0)) (s := (.slice none 0 0)) (by repeat first | with_reducible exact Br_3.out | with_reducible apply Bx.alloc | with_reducible refine Bx.set ?_ (by (try dsimp only); omega) _ | with_reducible apply Bx.drew) (by omega) f4); have yr4 := Br_4.out.lt; obtain ⟨r0, r1, r2, r3, r4, r5, r6, r7, r8, r9⟩ := Br_4.out.ten; have rf := Br_4.out.free; clear Br_3; clear C4; clear f4 d4)
       go_wp2_with (fail)
       have ER := HR.out
       subst ER
       have ob2 := int_ok h2 D1.out.p.wf
       refine bodyPost_ret (v := nodeV x.1 (.slice a4 g4.len c4)) (by simp [results, Tryz.results127, go_sem, *]) rfl ⟨(by repeat with_reducible first | exact F4.out | apply Fr.alloc | apply Fr.drew | refine Fr.setNew ?_ (by (try dsimp only); omega) _), _, rfl, ?_, (by repeat with_reducible first | exact D4.out | apply RD.alloc | apply RD.drew | refine RD.setCell ?_ (by (try dsimp only); omega) _)⟩
       exact NV.mk (x := x) (B' := x3.heap.size) (U := x4.heap.size) Kx.out.1 Kx.out.2.1 (by repeat with_reducible first | exact Lx_4.out | apply Ls.alloc | apply Ls.drew | refine Ls.set ?_ (by (try dsimp only); omega) _) (by omega) Kx.out.2.2
  · rw [if_neg h1] at HR
    have C1 := hideIt (fun X (h : RD X R g cap L s) => isInt_any R g cap L s X h)
    (go_at_call 113; refine Calls.mono (C1.out _ (by repeat with_reducible first | exact HD.out | apply RD.alloc | apply RD.drew | refine RD.setCell ?_ (by (try dsimp only); omega) _)) ?_; rw [decide_eq_false h1]; rintro e x1 ⟨rfl, q1⟩; have f1 := Fr.of_q (R := R) q1; have D1 := hideIt (show RD x1 R g cap L s from RD.q (by repeat with_reducible first | exact HD.out | apply RD.alloc | apply RD.drew | refine RD.setCell ?_ (by (try dsimp only); omega) _) q1); have F1 := hideIt (show Fr R w x1 from Fr.trans (by repeat with_reducible first | exact (Fr.refl R w) | apply Fr.alloc | apply Fr.drew | refine Fr.setNew ?_ (by (try dsimp only); omega) _) f1); have Z1 : w.heap.size + 1 ≤ x1.heap.size := (by have z := f1.size; (try simp at z); omega); have Br_1 := hideIt (Bx.fr (b := w.heap.size) (v := (nk 0)) (s := (.slice none 0 0)) (by repeat first | refine Bx.newAt _ (nk 0) (.slice none 0 0) (by simp; done) | with_reducible apply Bx.alloc | with_reducible refine Bx.set ?_ (by (try dsimp only); omega) _ | with_reducible apply Bx.drew) (by omega) f1); have yr1 := Br_1.out.lt; clear C1; clear f1 q1)
    go_wp2_with (fail)
    cases h2 : rd n .expression s with
    | out => rw [h2] at HR; exact absurd HR.out.symm HN.out
    | bad k p =>
     rw [h2] at HR
     have C2 := hideIt (fun X (h : RD X R g cap L s) => (HE s (by rw [h2]; exact fun e => by cases e)) X h)
     (go_at_call 114; refine Calls.mono (badc h2 (C2.out _ (by repeat with_reducible first | exact D1.out | apply RD.alloc | apply RD.drew | refine RD.setCell ?_ (by (try dsimp only); omega) _))) ?_; rintro e x2 ⟨rfl, f2⟩; have F2 := hideIt (show Fr R w x2 from Fr.trans (by repeat with_reducible first | exact F1.out | apply Fr.alloc | apply Fr.drew | refine Fr.setNew ?_ (by (try dsimp only); omega) _) f2); clear f2)
     have ER : Rs.bad k p = r := HR.out
     subst ER
     exact ⟨rfl, F2.out, rfl⟩
    | ok x s2 =>
     rw [h2] at HR
     try simp only [bnd_ok] at HR
     have C2 := hideIt (fun X (h : RD X R g cap L s) => (HE s (by rw [h2]; exact fun e => by cases e)) X h)
     (go_at_call 114; refine Calls.mono (okc h2 (C2.out _ (by repeat with_reducible first | exact D1.out | apply RD.alloc | apply RD.drew | refine RD.setCell ?_ (by (try dsimp only); omega) _))) ?_; rintro e x2 ⟨v2, rfl, hv2, f2, d2⟩; have D2 := hideIt d2; have F2 := hideIt (show Fr R w x2 from Fr.trans (by repeat with_reducible first | exact F1.out | apply Fr.alloc | apply Fr.drew | refine Fr.setNew ?_ (by (try dsimp only); omega) _) f2); have Z2 : x1.heap.size ≤ x2.heap.size := (by have z := f2.size; (try simp at z); omega); obtain ⟨a2, c2, g2, rfl, cp2, sk2, l2, ok2⟩ := hv2.out; have Lx_2 := hideIt (Ls.mono (B' := x1.heap.size) l2 (by (try simp); try omega) (Nat.le_refl _)); have Kx := hideIt (And.intro cp2 (And.intro sk2 ok2)); clear hv2 l2 cp2 sk2 ok2; have Br_2 := hideIt (Bx.fr (b := w.heap.size) (v := (nk 0)) (s := (.slice none 0 0)) (by repeat first | with_reducible exact Br_1.out | with_reducible apply Bx.alloc | with_reducible refine Bx.set ?_ (by (try dsimp only); omega) _ | with_reducible apply Bx.drew) (by omega) f2); have yr2 := Br_2.out.lt; clear Br_1; clear C2; clear f2 d2)
     go_wp2_with (fail)
     cases h3 : needM [41] s2 with
     | out => rw [h3] at HR; exact absurd HR.out.symm HN.out
     | bad k p =>
      rw [h3] at HR
      have C3 := hideIt (fun X (h : RD X R g cap L s2) => need_any [41] (by decide) R g cap L s2 X h)
      (go_at_call_of 91 (Value.string ⟨#[41]⟩); refine Calls.mono (badc h3 (C3.out _ (by repeat with_reducible first | exact D2.out | apply RD.alloc | apply RD.drew | refine RD.setCell ?_ (by (try dsimp only); omega) _))) ?_; rintro e x3 ⟨rfl, f3⟩; have F3 := hideIt (show Fr R w x3 from Fr.trans (by repeat with_reducible first | exact F2.out | apply Fr.alloc | apply Fr.drew | refine Fr.setNew ?_ (by (try dsimp only); omega) _) f3); clear f3)
      have ER : Rs.bad k p = r := HR.out
      subst ER
      exact ⟨rfl, F3.out, rfl⟩
     | ok u3 s3 =>
      rw [h3] at HR
      try simp only [bnd_ok] at HR
      have C3 := hideIt (fun X (h : RD X R g cap L s2) => need_any [41] (by decide) R g cap L s2 X h)
      (go_at_call_of 91 (Value.string ⟨#[41]⟩); refine Calls.mono (okc h3 (C3.out _ (by repeat with_reducible first | exact D2.out | apply RD.alloc | apply RD.drew | refine RD.setCell ?_ (by (try dsimp only); omega) _))) ?_; rintro e x3 ⟨v3, rfl, rfl, f3, d3⟩; have D3 := hideIt d3; have F3 := hideIt (show Fr R w x3 from Fr.trans (by repeat with_reducible first | exact F2.out | apply Fr.alloc | apply Fr.drew | refine Fr.setNew ?_ (by (try dsimp only); omega) _) f3); have Z3 : x2.heap.size + 1 ≤ x3.heap.size := (by have z := f3.size; (try simp at z); omega); have Lx_3 := hideIt (Ls.fr (B := x1.heap.size) (U := x2.heap.size) (a := a2) (f := g2) (by repeat with_reducible first | exact Lx_2.out | apply Ls.alloc | apply Ls.drew | refine Ls.set ?_ (by (try dsimp only); omega) _) (by omega) f3); have Br_3 := hideIt (Bx.fr (b := w.heap.size) (v := (nk 0)) (s := (.slice none 0 0)) (by repeat first | with_reducible exact Br_2.out | with_reducible apply Bx.alloc | with_reducible refine Bx.set ?_ (by (try dsimp only); omega) _ | with_reducible apply Bx.drew) (by omega) f3); have yr3 := Br_3.out.lt; have Bn_3 := hideIt (Bx.fr (b := x2.heap.size) (v := x.1) (s := (.slice a2 g2.len c2)) (by repeat first | refine Bx.newAt _ x.1 (.slice a2 g2.len c2) (by simp; done) | with_reducible apply Bx.alloc | with_reducible refine Bx.set ?_ (by (try dsimp only); omega) _ | with_reducible apply Bx.drew) (by omega) f3); have yn3 := Bn_3.out.lt; obtain ⟨r0, r1, r2, r3, r4, r5, r6, r7, r8, r9⟩ := Br_3.out.ten; have rf := Br_3.out.free; obtain ⟨n0, n1, n2, n3, n4, n5, n6, n7, n8, n9⟩ := Bn_3.out.ten; have nf := Bn_3.out.free; clear Lx_2 Br_2; clear C3; clear f3 d3)
      go_wp2_with (fail)
      have ER := HR.out
      subst ER
      refine bodyPost_ret (v := nodeV x.1 (.slice a2 g2.len c2)) (by simp [results, Tryz.results127, go_sem, *]) rfl ⟨(by repeat with_reducible first | exact F3.out | apply Fr.alloc | apply Fr.drew | refine Fr.setNew ?_ (by (try dsimp only); omega) _), _, rfl, ?_, (by repeat with_reducible first | exact D3.out | apply RD.alloc | apply RD.drew | refine RD.setCell ?_ (by (try dsimp only); omega) _)⟩
      exact NV.mk (x := x) (B' := x1.heap.size) (U := x2.heap.size) Kx.out.1 Kx.out.2.1 (by repeat with_reducible first | exact Lx_3.out | apply Ls.alloc | apply Ls.drew | refine Ls.set ?_ (by (try dsimp only); omega) _) (by omega) Kx.out.2.2

end Go.Proofs.YtoilhcklflmamaaGreatDoor
