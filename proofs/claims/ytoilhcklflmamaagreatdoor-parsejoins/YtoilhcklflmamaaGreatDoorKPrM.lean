/-
  Arguments, and what can be written: contracts over the program; the conditions: the reader lies in memory as it should, and what is called keeps its own contract.
  Loops: contracts over the program; the conditions: the reader lies in memory as it should, and what is called keeps its own contract.
-/
import Derived.Test.YtoilhcklflmamaaGreatDoorKPrG
namespace Go.Proofs.YtoilhcklflmamaaGreatDoor
open Go.RowKit
open Pr
set_option linter.unusedVariables false

set_option maxRecDepth 100000 in
set_option maxHeartbeats 4000000 in
theorem argument_rd (R g cap : Nat) (L : List Tok) (n : Nat) (HV : ∀ s, rd n .lvalue s ≠ .out → Rule 122 #[] R g cap L s (rd n .lvalue s)) (HE : ∀ s, rd n .expression s ≠ .out → Rule 114 #[] R g cap L s (rd n .expression s)) (s : St) (hno : rd (n + 1) .argument s ≠ .out) :
    Rule 125 #[] R g cap L s (rd (n + 1) .argument s) := by
  intro w h
  have e : rd (n + 1) .argument s = (tryM [38] s).bnd fun b s => if b then (nodeM s).bnd fun _ s => (rd n .lvalue s).bnd fun x s => .ok (nk 24, one x) s else rd n .expression s := rfl
  rw [e] at hno ⊢
  clear e
  have HD := hideIt h
  have hR := h.b.lt_size
  clear h
  obtain ⟨r, hr⟩ : ∃ r, ((tryM [38] s).bnd fun b s => if b then (nodeM s).bnd fun _ s => (rd n .lvalue s).bnd fun x s => .ok (nk 24, one x) s else rd n .expression s : Rs Nd) = r := ⟨_, rfl⟩
  rw [hr] at hno ⊢
  have HR := hideIt hr
  have HN := hideIt hno
  clear hr hno
  go_enter Tryz.func125, Tryz.ntmps125
  go_wp2_with (fail)
  cases h1 : tryM [38] s with
  | out => rw [h1] at HR; exact absurd HR.out.symm HN.out
  | bad k p =>
   rw [h1] at HR
   have C1 := hideIt (fun X (h : RD X R g cap L s) => try_any [38] (by decide) R g cap L s X h)
   (go_at_call_of 64 (Value.string ⟨#[38]⟩); refine Calls.mono (badc h1 (C1.out _ (by repeat with_reducible first | exact HD.out | apply RD.alloc | apply RD.drew | refine RD.setCell ?_ (by (try dsimp only); omega) _))) ?_; rintro e x1 ⟨rfl, f1⟩; have F1 := hideIt (show Fr R w x1 from Fr.trans (by repeat with_reducible first | exact (Fr.refl R w) | apply Fr.alloc | apply Fr.drew | refine Fr.setNew ?_ (by (try dsimp only); omega) _) f1); clear f1)
   have ER : Rs.bad k p = r := HR.out
   subst ER
   exact ⟨rfl, F1.out, rfl⟩
  | ok b1 s1 =>
   rw [h1] at HR
   try simp only [bnd_ok] at HR
   cases b1 with
   | true =>
    try simp only [if_true] at HR
    have C1 := hideIt (fun X (h : RD X R g cap L s) => try_any [38] (by decide) R g cap L s X h)
    (go_at_call_of 64 (Value.string ⟨#[38]⟩); refine Calls.mono (okc h1 (C1.out _ (by repeat with_reducible first | exact HD.out | apply RD.alloc | apply RD.drew | refine RD.setCell ?_ (by (try dsimp only); omega) _))) ?_; rintro e x1 ⟨v1, rfl, rfl, f1, d1⟩; have D1 := hideIt d1; have F1 := hideIt (show Fr R w x1 from Fr.trans (by repeat with_reducible first | exact (Fr.refl R w) | apply Fr.alloc | apply Fr.drew | refine Fr.setNew ?_ (by (try dsimp only); omega) _) f1); have Z1 : w.heap.size + 1 ≤ x1.heap.size := (by have z := f1.size; (try simp at z); omega); have Br_1 := hideIt (Bx.fr (b := w.heap.size) (v := (nk 0)) (s := (.slice none 0 0)) (by repeat first | refine Bx.newAt _ (nk 0) (.slice none 0 0) (by simp; done) | with_reducible apply Bx.alloc | with_reducible refine Bx.set ?_ (by (try dsimp only); omega) _ | with_reducible apply Bx.drew) (by omega) f1); have yr1 := Br_1.out.lt; clear C1; clear f1 d1)
    go_wp2_with (fail)
    cases h2 : nodeM s1 with
    | out => rw [h2] at HR; exact absurd HR.out.symm HN.out
    | bad k p =>
     rw [h2] at HR
     have C2 := hideIt (fun X (h : RD X R g cap L s1) => node_rd R g cap L s1 X h (nk 24) none 0 0)
     (go_at_call 31; refine Calls.mono (badc h2 (C2.out _ (by repeat with_reducible first | exact D1.out | apply RD.alloc | apply RD.drew | refine RD.setCell ?_ (by (try dsimp only); omega) _))) ?_; rintro e x2 ⟨rfl, f2⟩; have F2 := hideIt (show Fr R w x2 from Fr.trans (by repeat with_reducible first | exact F1.out | apply Fr.alloc | apply Fr.drew | refine Fr.setNew ?_ (by (try dsimp only); omega) _) f2); clear f2)
     have ER : Rs.bad k p = r := HR.out
     subst ER
     exact ⟨rfl, F2.out, rfl⟩
    | ok u2 s2 =>
     rw [h2] at HR
     try simp only [bnd_ok] at HR
     have C2 := hideIt (fun X (h : RD X R g cap L s1) => node_rd R g cap L s1 X h (nk 24) none 0 0)
     (go_at_call 31; refine Calls.mono (okc h2 (C2.out _ (by repeat with_reducible first | exact D1.out | apply RD.alloc | apply RD.drew | refine RD.setCell ?_ (by (try dsimp only); omega) _))) ?_; rintro e x2 ⟨v2, rfl, rfl, f2, d2⟩; have D2 := hideIt d2; have F2 := hideIt (show Fr R w x2 from Fr.trans (by repeat with_reducible first | exact F1.out | apply Fr.alloc | apply Fr.drew | refine Fr.setNew ?_ (by (try dsimp only); omega) _) f2); have Z2 : x1.heap.size ≤ x2.heap.size := (by have z := f2.size; (try simp at z); omega); have Br_2 := hideIt (Bx.fr (b := w.heap.size) (v := (nk 0)) (s := (.slice none 0 0)) (by repeat first | with_reducible exact Br_1.out | with_reducible apply Bx.alloc | with_reducible refine Bx.set ?_ (by (try dsimp only); omega) _ | with_reducible apply Bx.drew) (by omega) f2); have yr2 := Br_2.out.lt; clear Br_1; clear C2; clear f2 d2)
     go_wp2_with (fail)
     cases h3 : rd n .lvalue s2 with
     | out => rw [h3] at HR; exact absurd HR.out.symm HN.out
     | bad k p =>
      rw [h3] at HR
      have C3 := hideIt (fun X (h : RD X R g cap L s2) => (HV s2 (by rw [h3]; exact fun e => by cases e)) X h)
      (go_at_call 122; refine Calls.mono (badc h3 (C3.out _ (by repeat with_reducible first | exact D2.out | apply RD.alloc | apply RD.drew | refine RD.setCell ?_ (by (try dsimp only); omega) _))) ?_; rintro e x3 ⟨rfl, f3⟩; have F3 := hideIt (show Fr R w x3 from Fr.trans (by repeat with_reducible first | exact F2.out | apply Fr.alloc | apply Fr.drew | refine Fr.setNew ?_ (by (try dsimp only); omega) _) f3); clear f3)
      have ER : Rs.bad k p = r := HR.out
      subst ER
      exact ⟨rfl, F3.out, rfl⟩
     | ok x s3 =>
      rw [h3] at HR
      try simp only [bnd_ok] at HR
      have C3 := hideIt (fun X (h : RD X R g cap L s2) => (HV s2 (by rw [h3]; exact fun e => by cases e)) X h)
      (go_at_call 122; refine Calls.mono (okc h3 (C3.out _ (by repeat with_reducible first | exact D2.out | apply RD.alloc | apply RD.drew | refine RD.setCell ?_ (by (try dsimp only); omega) _))) ?_; rintro e x3 ⟨v3, rfl, hv3, f3, d3⟩; have D3 := hideIt d3; have F3 := hideIt (show Fr R w x3 from Fr.trans (by repeat with_reducible first | exact F2.out | apply Fr.alloc | apply Fr.drew | refine Fr.setNew ?_ (by (try dsimp only); omega) _) f3); have Z3 : x2.heap.size + 1 ≤ x3.heap.size := (by have z := f3.size; (try simp at z); omega); obtain ⟨a3, c3, g3, rfl, cp3, sk3, l3, ok3⟩ := hv3.out; have Lx_3 := hideIt (Ls.mono (B' := x2.heap.size + 1) l3 (by (try simp); try omega) (Nat.le_refl _)); have Kx := hideIt (And.intro cp3 (And.intro sk3 ok3)); clear hv3 l3 cp3 sk3 ok3; have Br_3 := hideIt (Bx.fr (b := w.heap.size) (v := (nk 0)) (s := (.slice none 0 0)) (by repeat first | with_reducible exact Br_2.out | with_reducible apply Bx.alloc | with_reducible refine Bx.set ?_ (by (try dsimp only); omega) _ | with_reducible apply Bx.drew) (by omega) f3); have yr3 := Br_3.out.lt; have Bn_3 := hideIt (Bx.fr (b := x2.heap.size) (v := (nk 24)) (s := (.slice none 0 0)) (by repeat first | refine Bx.newAt _ (nk 24) (.slice none 0 0) (by simp; done) | with_reducible apply Bx.alloc | with_reducible refine Bx.set ?_ (by (try dsimp only); omega) _ | with_reducible apply Bx.drew) (by omega) f3); have yn3 := Bn_3.out.lt; obtain ⟨r0, r1, r2, r3, r4, r5, r6, r7, r8, r9⟩ := Br_3.out.ten; have rf := Br_3.out.free; obtain ⟨n0, n1, n2, n3, n4, n5, n6, n7, n8, n9⟩ := Bn_3.out.ten; have nf := Bn_3.out.free; clear Br_2; clear C3; clear f3 d3)
      go_wp2_with (fail)
      have ER := HR.out
      subst ER
      refine bodyPost_ret (v := nodeV (nk 24) (.slice (some ⟨x3.heap.size, 0, none⟩) 1 1)) (by simp [results, Tryz.results125, go_sem, *]) rfl ⟨(by repeat with_reducible first | exact F3.out | apply Fr.alloc | apply Fr.drew | refine Fr.setNew ?_ (by (try dsimp only); omega) _), _, rfl, ?_, (by repeat with_reducible first | exact D3.out | apply RD.alloc | apply RD.drew | refine RD.setCell ?_ (by (try dsimp only); omega) _)⟩
      exact NV.mk (x := ((nk 24), one x)) (f := .cons x.1 a3 c3 g3 .nil) ⟨rfl, Kx.out.1, trivial⟩ sok1 (Ls.one (B := x2.heap.size + 1) (U := x3.heap.size) (B' := w.heap.size) (by repeat with_reducible first | exact Lx_3.out | apply Ls.alloc | apply Ls.drew | refine Ls.set ?_ (by (try dsimp only); omega) _) Kx.out.2.2 Kx.out.2.1 (by (try simp) <;> (try omega)) (by first | (simp; done) | rfl) (by omega) (by (try simp) <;> (try omega))) (Nat.le_refl _) (by refine nf_ok ?_ ?_ ?_ ?_ ?_ ?_ ?_ ?_ ?_ <;> first | omega | decide | (rw [bs_size]; omega) | exact Nat.zero_le _)
   | false =>
    try simp only [Bool.false_eq_true, if_false] at HR
    have C1 := hideIt (fun X (h : RD X R g cap L s) => try_any [38] (by decide) R g cap L s X h)
    (go_at_call_of 64 (Value.string ⟨#[38]⟩); refine Calls.mono (okc h1 (C1.out _ (by repeat with_reducible first | exact HD.out | apply RD.alloc | apply RD.drew | refine RD.setCell ?_ (by (try dsimp only); omega) _))) ?_; rintro e x1 ⟨v1, rfl, rfl, f1, d1⟩; have D1 := hideIt d1; have F1 := hideIt (show Fr R w x1 from Fr.trans (by repeat with_reducible first | exact (Fr.refl R w) | apply Fr.alloc | apply Fr.drew | refine Fr.setNew ?_ (by (try dsimp only); omega) _) f1); have Z1 : w.heap.size + 1 ≤ x1.heap.size := (by have z := f1.size; (try simp at z); omega); have Br_1 := hideIt (Bx.fr (b := w.heap.size) (v := (nk 0)) (s := (.slice none 0 0)) (by repeat first | refine Bx.newAt _ (nk 0) (.slice none 0 0) (by simp; done) | with_reducible apply Bx.alloc | with_reducible refine Bx.set ?_ (by (try dsimp only); omega) _ | with_reducible apply Bx.drew) (by omega) f1); have yr1 := Br_1.out.lt; clear C1; clear f1 d1)
    go_wp2_with (fail)
    cases h2 : rd n .expression s1 with
    | out => rw [h2] at HR; exact absurd HR.out.symm HN.out
    | bad k p =>
     rw [h2] at HR
     have C2 := hideIt (fun X (h : RD X R g cap L s1) => (HE s1 (by rw [h2]; exact fun e => by cases e)) X h)
     (go_at_call 114; refine Calls.mono (badc h2 (C2.out _ (by repeat with_reducible first | exact D1.out | apply RD.alloc | apply RD.drew | refine RD.setCell ?_ (by (try dsimp only); omega) _))) ?_; rintro e x2 ⟨rfl, f2⟩; have F2 := hideIt (show Fr R w x2 from Fr.trans (by repeat with_reducible first | exact F1.out | apply Fr.alloc | apply Fr.drew | refine Fr.setNew ?_ (by (try dsimp only); omega) _) f2); clear f2)
     have ER : Rs.bad k p = r := HR.out
     subst ER
     exact ⟨rfl, F2.out, rfl⟩
    | ok x s2 =>
     rw [h2] at HR
     try simp only [bnd_ok] at HR
     have C2 := hideIt (fun X (h : RD X R g cap L s1) => (HE s1 (by rw [h2]; exact fun e => by cases e)) X h)
     (go_at_call 114; refine Calls.mono (okc h2 (C2.out _ (by repeat with_reducible first | exact D1.out | apply RD.alloc | apply RD.drew | refine RD.setCell ?_ (by (try dsimp only); omega) _))) ?_; rintro e x2 ⟨v2, rfl, hv2, f2, d2⟩; have D2 := hideIt d2; have F2 := hideIt (show Fr R w x2 from Fr.trans (by repeat with_reducible first | exact F1.out | apply Fr.alloc | apply Fr.drew | refine Fr.setNew ?_ (by (try dsimp only); omega) _) f2); have Z2 : x1.heap.size ≤ x2.heap.size := (by have z := f2.size; (try simp at z); omega); obtain ⟨a2, c2, g2, rfl, cp2, sk2, l2, ok2⟩ := hv2.out; have Lx_2 := hideIt (Ls.mono (B' := x1.heap.size) l2 (by (try simp); try omega) (Nat.le_refl _)); have Kx := hideIt (And.intro cp2 (And.intro sk2 ok2)); clear hv2 l2 cp2 sk2 ok2; have Br_2 := hideIt (Bx.fr (b := w.heap.size) (v := (nk 0)) (s := (.slice none 0 0)) (by repeat first | with_reducible exact Br_1.out | with_reducible apply Bx.alloc | with_reducible refine Bx.set ?_ (by (try dsimp only); omega) _ | with_reducible apply Bx.drew) (by omega) f2); have yr2 := Br_2.out.lt; obtain ⟨r0, r1, r2, r3, r4, r5, r6, r7, r8, r9⟩ := Br_2.out.ten; have rf := Br_2.out.free; clear Br_1; clear C2; clear f2 d2)
     go_wp2_with (fail)
     have ER := HR.out
     subst ER
     refine bodyPost_ret (v := nodeV x.1 (.slice a2 g2.len c2)) (by simp [results, Tryz.results125, go_sem, *]) rfl ⟨(by repeat with_reducible first | exact F2.out | apply Fr.alloc | apply Fr.drew | refine Fr.setNew ?_ (by (try dsimp only); omega) _), _, rfl, ?_, (by repeat with_reducible first | exact D2.out | apply RD.alloc | apply RD.drew | refine RD.setCell ?_ (by (try dsimp only); omega) _)⟩
     exact NV.mk (x := x) (B' := x1.heap.size) (U := x2.heap.size) Kx.out.1 Kx.out.2.1 (by repeat with_reducible first | exact Lx_2.out | apply Ls.alloc | apply Ls.drew | refine Ls.set ?_ (by (try dsimp only); omega) _) (by omega) Kx.out.2.2

set_option maxRecDepth 100000 in
set_option maxHeartbeats 4000000 in
theorem lvalue_rd (R g cap : Nat) (L : List Tok) (n : Nat) (HE : ∀ s, rd n .expression s ≠ .out → Rule 114 #[] R g cap L s (rd n .expression s)) (s : St) (hno : rd (n + 1) .lvalue s ≠ .out) :
    Rule 122 #[] R g cap L s (rd (n + 1) .lvalue s) := by
  intro w h
  have e : rd (n + 1) .lvalue s = (tryM [42] s).bnd fun b s => if b then (nameM s).bnd fun nm s => (nodeM s).bnd fun _ s => .ok (⟨19, 0, 0, 0, 0, 0, 0, bs nm, ⟨#[]⟩⟩, .nil) s else (nameM s).bnd fun nm s => (nodeM s).bnd fun _ s => (tryM [91] s).bnd fun b s => if b then (rd n .expression s).bnd fun x s => (needM [93] s).bnd fun _ s => .ok (⟨17, 0, 0, 0, 0, 0, 0, bs nm, ⟨#[]⟩⟩, one x) s else (tryM [46] s).bnd fun b s => if b then (nameM s).bnd fun f s => .ok (⟨18, 0, 0, 0, 0, 0, 0, bs nm, bs f⟩, .nil) s else .ok (⟨16, 0, 0, 0, 0, 0, 0, bs nm, ⟨#[]⟩⟩, .nil) s := rfl
  rw [e] at hno ⊢
  clear e
  have HD := hideIt h
  have hR := h.b.lt_size
  clear h
  obtain ⟨r, hr⟩ : ∃ r, ((tryM [42] s).bnd fun b s => if b then (nameM s).bnd fun nm s => (nodeM s).bnd fun _ s => .ok (⟨19, 0, 0, 0, 0, 0, 0, bs nm, ⟨#[]⟩⟩, .nil) s else (nameM s).bnd fun nm s => (nodeM s).bnd fun _ s => (tryM [91] s).bnd fun b s => if b then (rd n .expression s).bnd fun x s => (needM [93] s).bnd fun _ s => .ok (⟨17, 0, 0, 0, 0, 0, 0, bs nm, ⟨#[]⟩⟩, one x) s else (tryM [46] s).bnd fun b s => if b then (nameM s).bnd fun f s => .ok (⟨18, 0, 0, 0, 0, 0, 0, bs nm, bs f⟩, .nil) s else .ok (⟨16, 0, 0, 0, 0, 0, 0, bs nm, ⟨#[]⟩⟩, .nil) s : Rs Nd) = r := ⟨_, rfl⟩
  rw [hr] at hno ⊢
  have HR := hideIt hr
  have HN := hideIt hno
  clear hr hno
  go_enter Tryz.func122, Tryz.ntmps122
  go_wp2_with (fail)
  cases h1 : tryM [42] s with
  | out => rw [h1] at HR; exact absurd HR.out.symm HN.out
  | bad k p =>
   rw [h1] at HR
   have C1 := hideIt (fun X (h : RD X R g cap L s) => try_any [42] (by decide) R g cap L s X h)
   (go_at_call_of 64 (Value.string ⟨#[42]⟩); refine Calls.mono (badc h1 (C1.out _ (by repeat with_reducible first | exact HD.out | apply RD.alloc | apply RD.drew | refine RD.setCell ?_ (by (try dsimp only); omega) _))) ?_; rintro e x1 ⟨rfl, f1⟩; have F1 := hideIt (show Fr R w x1 from Fr.trans (by repeat with_reducible first | exact (Fr.refl R w) | apply Fr.alloc | apply Fr.drew | refine Fr.setNew ?_ (by (try dsimp only); omega) _) f1); clear f1)
   have ER : Rs.bad k p = r := HR.out
   subst ER
   exact ⟨rfl, F1.out, rfl⟩
  | ok b1 s1 =>
   rw [h1] at HR
   try simp only [bnd_ok] at HR
   cases b1 with
   | true =>
    try simp only [if_true] at HR
    have C1 := hideIt (fun X (h : RD X R g cap L s) => try_any [42] (by decide) R g cap L s X h)
    (go_at_call_of 64 (Value.string ⟨#[42]⟩); refine Calls.mono (okc h1 (C1.out _ (by repeat with_reducible first | exact HD.out | apply RD.alloc | apply RD.drew | refine RD.setCell ?_ (by (try dsimp only); omega) _))) ?_; rintro e x1 ⟨v1, rfl, rfl, f1, d1⟩; have D1 := hideIt d1; have F1 := hideIt (show Fr R w x1 from Fr.trans (by repeat with_reducible first | exact (Fr.refl R w) | apply Fr.alloc | apply Fr.drew | refine Fr.setNew ?_ (by (try dsimp only); omega) _) f1); have Z1 : w.heap.size + 1 ≤ x1.heap.size := (by have z := f1.size; (try simp at z); omega); have Br_1 := hideIt (Bx.fr (b := w.heap.size) (v := (nk 0)) (s := (.slice none 0 0)) (by repeat first | refine Bx.newAt _ (nk 0) (.slice none 0 0) (by simp; done) | with_reducible apply Bx.alloc | with_reducible refine Bx.set ?_ (by (try dsimp only); omega) _ | with_reducible apply Bx.drew) (by omega) f1); have yr1 := Br_1.out.lt; clear C1; clear f1 d1)
    go_wp2_with (fail)
    cases h2 : nameM s1 with
    | out => rw [h2] at HR; exact absurd HR.out.symm HN.out
    | bad k p =>
     rw [h2] at HR
     have C2 := hideIt (fun X (h : RD X R g cap L s1) => name_rd R g cap L s1 X h)
     (go_at_call 65; refine Calls.mono (badc h2 (C2.out _ (by repeat with_reducible first | exact D1.out | apply RD.alloc | apply RD.drew | refine RD.setCell ?_ (by (try dsimp only); omega) _))) ?_; rintro e x2 ⟨rfl, f2⟩; have F2 := hideIt (show Fr R w x2 from Fr.trans (by repeat with_reducible first | exact F1.out | apply Fr.alloc | apply Fr.drew | refine Fr.setNew ?_ (by (try dsimp only); omega) _) f2); clear f2)
     have ER : Rs.bad k p = r := HR.out
     subst ER
     exact ⟨rfl, F2.out, rfl⟩
    | ok nm s2 =>
     rw [h2] at HR
     try simp only [bnd_ok] at HR
     have C2 := hideIt (fun X (h : RD X R g cap L s1) => name_rd R g cap L s1 X h)
     (go_at_call 65; refine Calls.mono (okc h2 (C2.out _ (by repeat with_reducible first | exact D1.out | apply RD.alloc | apply RD.drew | refine RD.setCell ?_ (by (try dsimp only); omega) _))) ?_; rintro e x2 ⟨v2, rfl, rfl, f2, d2⟩; have D2 := hideIt d2; have F2 := hideIt (show Fr R w x2 from Fr.trans (by repeat with_reducible first | exact F1.out | apply Fr.alloc | apply Fr.drew | refine Fr.setNew ?_ (by (try dsimp only); omega) _) f2); have Z2 : x1.heap.size ≤ x2.heap.size := (by have z := f2.size; (try simp at z); omega); have Br_2 := hideIt (Bx.fr (b := w.heap.size) (v := (nk 0)) (s := (.slice none 0 0)) (by repeat first | with_reducible exact Br_1.out | with_reducible apply Bx.alloc | with_reducible refine Bx.set ?_ (by (try dsimp only); omega) _ | with_reducible apply Bx.drew) (by omega) f2); have yr2 := Br_2.out.lt; clear Br_1; clear C2; clear f2 d2)
     go_wp2_with (fail)
     cases h3 : nodeM s2 with
     | out => rw [h3] at HR; exact absurd HR.out.symm HN.out
     | bad k p =>
      rw [h3] at HR
      have C3 := hideIt (fun X (h : RD X R g cap L s2) => node_rd R g cap L s2 X h ⟨19, 0, 0, 0, 0, 0, 0, bs nm, ⟨#[]⟩⟩ none 0 0)
      (go_at_call 31; refine Calls.mono (badc h3 (C3.out _ (by repeat with_reducible first | exact D2.out | apply RD.alloc | apply RD.drew | refine RD.setCell ?_ (by (try dsimp only); omega) _))) ?_; rintro e x3 ⟨rfl, f3⟩; have F3 := hideIt (show Fr R w x3 from Fr.trans (by repeat with_reducible first | exact F2.out | apply Fr.alloc | apply Fr.drew | refine Fr.setNew ?_ (by (try dsimp only); omega) _) f3); clear f3)
      have ER : Rs.bad k p = r := HR.out
      subst ER
      exact ⟨rfl, F3.out, rfl⟩
     | ok u3 s3 =>
      rw [h3] at HR
      try simp only [bnd_ok] at HR
      have C3 := hideIt (fun X (h : RD X R g cap L s2) => node_rd R g cap L s2 X h ⟨19, 0, 0, 0, 0, 0, 0, bs nm, ⟨#[]⟩⟩ none 0 0)
      (go_at_call 31; refine Calls.mono (okc h3 (C3.out _ (by repeat with_reducible first | exact D2.out | apply RD.alloc | apply RD.drew | refine RD.setCell ?_ (by (try dsimp only); omega) _))) ?_; rintro e x3 ⟨v3, rfl, rfl, f3, d3⟩; have D3 := hideIt d3; have F3 := hideIt (show Fr R w x3 from Fr.trans (by repeat with_reducible first | exact F2.out | apply Fr.alloc | apply Fr.drew | refine Fr.setNew ?_ (by (try dsimp only); omega) _) f3); have Z3 : x2.heap.size ≤ x3.heap.size := (by have z := f3.size; (try simp at z); omega); have Br_3 := hideIt (Bx.fr (b := w.heap.size) (v := (nk 0)) (s := (.slice none 0 0)) (by repeat first | with_reducible exact Br_2.out | with_reducible apply Bx.alloc | with_reducible refine Bx.set ?_ (by (try dsimp only); omega) _ | with_reducible apply Bx.drew) (by omega) f3); have yr3 := Br_3.out.lt; obtain ⟨r0, r1, r2, r3, r4, r5, r6, r7, r8, r9⟩ := Br_3.out.ten; have rf := Br_3.out.free; clear Br_2; clear C3; clear f3 d3)
      go_wp2_with (fail)
      have ER := HR.out
      subst ER
      have ob2 := name_ok h2 D1.out.p.wf
      refine bodyPost_ret (v := nodeV ⟨19, 0, 0, 0, 0, 0, 0, bs nm, ⟨#[]⟩⟩ (.slice none 0 0)) (by simp [results, Tryz.results122, go_sem, *]) rfl ⟨(by repeat with_reducible first | exact F3.out | apply Fr.alloc | apply Fr.drew | refine Fr.setNew ?_ (by (try dsimp only); omega) _), _, rfl, ?_, (by repeat with_reducible first | exact D3.out | apply RD.alloc | apply RD.drew | refine RD.setCell ?_ (by (try dsimp only); omega) _)⟩
      exact NV.leaf (by refine nf_ok ?_ ?_ ?_ ?_ ?_ ?_ ?_ ?_ ?_ <;> first | omega | decide | (rw [bs_size]; omega) | exact Nat.zero_le _)
   | false =>
    try simp only [Bool.false_eq_true, if_false] at HR
    have C1 := hideIt (fun X (h : RD X R g cap L s) => try_any [42] (by decide) R g cap L s X h)
    (go_at_call_of 64 (Value.string ⟨#[42]⟩); refine Calls.mono (okc h1 (C1.out _ (by repeat with_reducible first | exact HD.out | apply RD.alloc | apply RD.drew | refine RD.setCell ?_ (by (try dsimp only); omega) _))) ?_; rintro e x1 ⟨v1, rfl, rfl, f1, d1⟩; have D1 := hideIt d1; have F1 := hideIt (show Fr R w x1 from Fr.trans (by repeat with_reducible first | exact (Fr.refl R w) | apply Fr.alloc | apply Fr.drew | refine Fr.setNew ?_ (by (try dsimp only); omega) _) f1); have Z1 : w.heap.size + 1 ≤ x1.heap.size := (by have z := f1.size; (try simp at z); omega); have Br_1 := hideIt (Bx.fr (b := w.heap.size) (v := (nk 0)) (s := (.slice none 0 0)) (by repeat first | refine Bx.newAt _ (nk 0) (.slice none 0 0) (by simp; done) | with_reducible apply Bx.alloc | with_reducible refine Bx.set ?_ (by (try dsimp only); omega) _ | with_reducible apply Bx.drew) (by omega) f1); have yr1 := Br_1.out.lt; clear C1; clear f1 d1)
    go_wp2_with (fail)
    cases h2 : nameM s1 with
    | out => rw [h2] at HR; exact absurd HR.out.symm HN.out
    | bad k p =>
     rw [h2] at HR
     have C2 := hideIt (fun X (h : RD X R g cap L s1) => name_rd R g cap L s1 X h)
     (go_at_call 65; refine Calls.mono (badc h2 (C2.out _ (by repeat with_reducible first | exact D1.out | apply RD.alloc | apply RD.drew | refine RD.setCell ?_ (by (try dsimp only); omega) _))) ?_; rintro e x2 ⟨rfl, f2⟩; have F2 := hideIt (show Fr R w x2 from Fr.trans (by repeat with_reducible first | exact F1.out | apply Fr.alloc | apply Fr.drew | refine Fr.setNew ?_ (by (try dsimp only); omega) _) f2); clear f2)
     have ER : Rs.bad k p = r := HR.out
     subst ER
     exact ⟨rfl, F2.out, rfl⟩
    | ok nm s2 =>
     rw [h2] at HR
     try simp only [bnd_ok] at HR
     have C2 := hideIt (fun X (h : RD X R g cap L s1) => name_rd R g cap L s1 X h)
     (go_at_call 65; refine Calls.mono (okc h2 (C2.out _ (by repeat with_reducible first | exact D1.out | apply RD.alloc | apply RD.drew | refine RD.setCell ?_ (by (try dsimp only); omega) _))) ?_; rintro e x2 ⟨v2, rfl, rfl, f2, d2⟩; have D2 := hideIt d2; have F2 := hideIt (show Fr R w x2 from Fr.trans (by repeat with_reducible first | exact F1.out | apply Fr.alloc | apply Fr.drew | refine Fr.setNew ?_ (by (try dsimp only); omega) _) f2); have Z2 : x1.heap.size ≤ x2.heap.size := (by have z := f2.size; (try simp at z); omega); have Br_2 := hideIt (Bx.fr (b := w.heap.size) (v := (nk 0)) (s := (.slice none 0 0)) (by repeat first | with_reducible exact Br_1.out | with_reducible apply Bx.alloc | with_reducible refine Bx.set ?_ (by (try dsimp only); omega) _ | with_reducible apply Bx.drew) (by omega) f2); have yr2 := Br_2.out.lt; clear Br_1; clear C2; clear f2 d2)
     go_wp2_with (fail)
     cases h3 : nodeM s2 with
     | out => rw [h3] at HR; exact absurd HR.out.symm HN.out
     | bad k p =>
      rw [h3] at HR
      have C3 := hideIt (fun X (h : RD X R g cap L s2) => node_rd R g cap L s2 X h ⟨16, 0, 0, 0, 0, 0, 0, bs nm, ⟨#[]⟩⟩ none 0 0)
      (go_at_call 31; refine Calls.mono (badc h3 (C3.out _ (by repeat with_reducible first | exact D2.out | apply RD.alloc | apply RD.drew | refine RD.setCell ?_ (by (try dsimp only); omega) _))) ?_; rintro e x3 ⟨rfl, f3⟩; have F3 := hideIt (show Fr R w x3 from Fr.trans (by repeat with_reducible first | exact F2.out | apply Fr.alloc | apply Fr.drew | refine Fr.setNew ?_ (by (try dsimp only); omega) _) f3); clear f3)
      have ER : Rs.bad k p = r := HR.out
      subst ER
      exact ⟨rfl, F3.out, rfl⟩
     | ok u3 s3 =>
      rw [h3] at HR
      try simp only [bnd_ok] at HR
      have C3 := hideIt (fun X (h : RD X R g cap L s2) => node_rd R g cap L s2 X h ⟨16, 0, 0, 0, 0, 0, 0, bs nm, ⟨#[]⟩⟩ none 0 0)
      (go_at_call 31; refine Calls.mono (okc h3 (C3.out _ (by repeat with_reducible first | exact D2.out | apply RD.alloc | apply RD.drew | refine RD.setCell ?_ (by (try dsimp only); omega) _))) ?_; rintro e x3 ⟨v3, rfl, rfl, f3, d3⟩; have D3 := hideIt d3; have F3 := hideIt (show Fr R w x3 from Fr.trans (by repeat with_reducible first | exact F2.out | apply Fr.alloc | apply Fr.drew | refine Fr.setNew ?_ (by (try dsimp only); omega) _) f3); have Z3 : x2.heap.size ≤ x3.heap.size := (by have z := f3.size; (try simp at z); omega); have Br_3 := hideIt (Bx.fr (b := w.heap.size) (v := (nk 0)) (s := (.slice none 0 0)) (by repeat first | with_reducible exact Br_2.out | with_reducible apply Bx.alloc | with_reducible refine Bx.set ?_ (by (try dsimp only); omega) _ | with_reducible apply Bx.drew) (by omega) f3); have yr3 := Br_3.out.lt; clear Br_2; clear C3; clear f3 d3)
      go_wp2_with (fail)
      cases h4 : tryM [91] s3 with
      | out => rw [h4] at HR; exact absurd HR.out.symm HN.out
      | bad k p =>
       rw [h4] at HR
       have C4 := hideIt (fun X (h : RD X R g cap L s3) => try_any [91] (by decide) R g cap L s3 X h)
       (go_at_call_of 64 (Value.string ⟨#[91]⟩); refine Calls.mono (badc h4 (C4.out _ (by repeat with_reducible first | exact D3.out | apply RD.alloc | apply RD.drew | refine RD.setCell ?_ (by (try dsimp only); omega) _))) ?_; rintro e x4 ⟨rfl, f4⟩; have F4 := hideIt (show Fr R w x4 from Fr.trans (by repeat with_reducible first | exact F3.out | apply Fr.alloc | apply Fr.drew | refine Fr.setNew ?_ (by (try dsimp only); omega) _) f4); clear f4)
       have ER : Rs.bad k p = r := HR.out
       subst ER
       exact ⟨rfl, F4.out, rfl⟩
      | ok b4 s4 =>
       rw [h4] at HR
       try simp only [bnd_ok] at HR
       cases b4 with
       | true =>
        try simp only [if_true] at HR
        have C4 := hideIt (fun X (h : RD X R g cap L s3) => try_any [91] (by decide) R g cap L s3 X h)
        (go_at_call_of 64 (Value.string ⟨#[91]⟩); refine Calls.mono (okc h4 (C4.out _ (by repeat with_reducible first | exact D3.out | apply RD.alloc | apply RD.drew | refine RD.setCell ?_ (by (try dsimp only); omega) _))) ?_; rintro e x4 ⟨v4, rfl, rfl, f4, d4⟩; have D4 := hideIt d4; have F4 := hideIt (show Fr R w x4 from Fr.trans (by repeat with_reducible first | exact F3.out | apply Fr.alloc | apply Fr.drew | refine Fr.setNew ?_ (by (try dsimp only); omega) _) f4); have Z4 : x3.heap.size + 1 ≤ x4.heap.size := (by have z := f4.size; (try simp at z); omega); have Br_4 := hideIt (Bx.fr (b := w.heap.size) (v := (nk 0)) (s := (.slice none 0 0)) (by repeat first | with_reducible exact Br_3.out | with_reducible apply Bx.alloc | with_reducible refine Bx.set ?_ (by (try dsimp only); omega) _ | with_reducible apply Bx.drew) (by omega) f4); have yr4 := Br_4.out.lt; have Bn_4 := hideIt (Bx.fr (b := x3.heap.size) (v := ⟨16, 0, 0, 0, 0, 0, 0, bs nm, ⟨#[]⟩⟩) (s := (.slice none 0 0)) (by repeat first | refine Bx.newAt _ ⟨16, 0, 0, 0, 0, 0, 0, bs nm, ⟨#[]⟩⟩ (.slice none 0 0) (by simp; done) | with_reducible apply Bx.alloc | with_reducible refine Bx.set ?_ (by (try dsimp only); omega) _ | with_reducible apply Bx.drew) (by omega) f4); have yn4 := Bn_4.out.lt; obtain ⟨n0, n1, n2, n3, n4, n5, n6, n7, n8, n9⟩ := Bn_4.out.ten; have nf := Bn_4.out.free; clear Br_3; clear C4; clear f4 d4)
        go_wp2_with (fail)
        cases h5 : rd n .expression s4 with
        | out => rw [h5] at HR; exact absurd HR.out.symm HN.out
        | bad k p =>
         rw [h5] at HR
         have C5 := hideIt (fun X (h : RD X R g cap L s4) => (HE s4 (by rw [h5]; exact fun e => by cases e)) X h)
         (go_at_call 114; refine Calls.mono (badc h5 (C5.out _ (by repeat with_reducible first | exact D4.out | apply RD.alloc | apply RD.drew | refine RD.setCell ?_ (by (try dsimp only); omega) _))) ?_; rintro e x5 ⟨rfl, f5⟩; have F5 := hideIt (show Fr R w x5 from Fr.trans (by repeat with_reducible first | exact F4.out | apply Fr.alloc | apply Fr.drew | refine Fr.setNew ?_ (by (try dsimp only); omega) _) f5); clear f5)
         have ER : Rs.bad k p = r := HR.out
         subst ER
         exact ⟨rfl, F5.out, rfl⟩
        | ok x s5 =>
         rw [h5] at HR
         try simp only [bnd_ok] at HR
         have C5 := hideIt (fun X (h : RD X R g cap L s4) => (HE s4 (by rw [h5]; exact fun e => by cases e)) X h)
         (go_at_call 114; refine Calls.mono (okc h5 (C5.out _ (by repeat with_reducible first | exact D4.out | apply RD.alloc | apply RD.drew | refine RD.setCell ?_ (by (try dsimp only); omega) _))) ?_; rintro e x5 ⟨v5, rfl, hv5, f5, d5⟩; have D5 := hideIt d5; have F5 := hideIt (show Fr R w x5 from Fr.trans (by repeat with_reducible first | exact F4.out | apply Fr.alloc | apply Fr.drew | refine Fr.setNew ?_ (by (try dsimp only); omega) _) f5); have Z5 : x4.heap.size ≤ x5.heap.size := (by have z := f5.size; (try simp at z); omega); obtain ⟨a5, c5, g5, rfl, cp5, sk5, l5, ok5⟩ := hv5.out; have Lx_5 := hideIt (Ls.mono (B' := x4.heap.size) l5 (by (try simp); try omega) (Nat.le_refl _)); have Kx := hideIt (And.intro cp5 (And.intro sk5 ok5)); clear hv5 l5 cp5 sk5 ok5; have Br_5 := hideIt (Bx.fr (b := w.heap.size) (v := (nk 0)) (s := (.slice none 0 0)) (by repeat first | with_reducible exact Br_4.out | with_reducible apply Bx.alloc | with_reducible refine Bx.set ?_ (by (try dsimp only); omega) _ | with_reducible apply Bx.drew) (by omega) f5); have yr5 := Br_5.out.lt; have Bn_5 := hideIt (Bx.fr (b := x3.heap.size) (v := ⟨17, 0, 0, 0, 0, 0, 0, bs nm, ⟨#[]⟩⟩) (s := (.slice none 0 0)) (by repeat first | exact (Bx.put Bn_4.out 0 _ rfl) | with_reducible apply Bx.alloc | with_reducible refine Bx.set ?_ (by (try dsimp only); omega) _ | with_reducible apply Bx.drew) (by omega) f5); have yn5 := Bn_5.out.lt; clear n0 n1 n2 n3 n4 n5 n6 n7 n8 n9 nf yn4; obtain ⟨n0, n1, n2, n3, n4, n5, n6, n7, n8, n9⟩ := Bn_5.out.ten; have nf := Bn_5.out.free; clear Br_4 Bn_4; clear C5; clear f5 d5)
         go_wp2_with (fail)
         cases h6 : needM [93] s5 with
         | out => rw [h6] at HR; exact absurd HR.out.symm HN.out
         | bad k p =>
          rw [h6] at HR
          have C6 := hideIt (fun X (h : RD X R g cap L s5) => need_any [93] (by decide) R g cap L s5 X h)
          (go_at_call_of 91 (Value.string ⟨#[93]⟩); refine Calls.mono (badc h6 (C6.out _ (by repeat with_reducible first | exact D5.out | apply RD.alloc | apply RD.drew | refine RD.setCell ?_ (by (try dsimp only); omega) _))) ?_; rintro e x6 ⟨rfl, f6⟩; have F6 := hideIt (show Fr R w x6 from Fr.trans (by repeat with_reducible first | exact F5.out | apply Fr.alloc | apply Fr.drew | refine Fr.setNew ?_ (by (try dsimp only); omega) _) f6); clear f6)
          have ER : Rs.bad k p = r := HR.out
          subst ER
          exact ⟨rfl, F6.out, rfl⟩
         | ok u6 s6 =>
          rw [h6] at HR
          try simp only [bnd_ok] at HR
          have C6 := hideIt (fun X (h : RD X R g cap L s5) => need_any [93] (by decide) R g cap L s5 X h)
          (go_at_call_of 91 (Value.string ⟨#[93]⟩); refine Calls.mono (okc h6 (C6.out _ (by repeat with_reducible first | exact D5.out | apply RD.alloc | apply RD.drew | refine RD.setCell ?_ (by (try dsimp only); omega) _))) ?_; rintro e x6 ⟨v6, rfl, rfl, f6, d6⟩; have D6 := hideIt d6; have F6 := hideIt (show Fr R w x6 from Fr.trans (by repeat with_reducible first | exact F5.out | apply Fr.alloc | apply Fr.drew | refine Fr.setNew ?_ (by (try dsimp only); omega) _) f6); have Z6 : x5.heap.size + 1 ≤ x6.heap.size := (by have z := f6.size; (try simp at z); omega); have Lx_6 := hideIt (Ls.fr (B := x4.heap.size) (U := x5.heap.size) (a := a5) (f := g5) (by repeat with_reducible first | exact Lx_5.out | apply Ls.alloc | apply Ls.drew | refine Ls.set ?_ (by (try dsimp only); omega) _) (by omega) f6); have Lk_6 := hideIt (Ls.fr (B := w.heap.size + 1) (U := x5.heap.size + 1) (a := (some ⟨x5.heap.size, 0, none⟩)) (f := (.cons x.1 a5 c5 g5 .nil)) (Ls.one (B := x4.heap.size) (U := x5.heap.size) (B' := w.heap.size + 1) (by repeat with_reducible first | exact Lx_5.out | apply Ls.alloc | apply Ls.drew | refine Ls.set ?_ (by (try dsimp only); omega) _) Kx.out.2.2 Kx.out.2.1 (by (try simp) <;> (try omega)) (by first | (simp; done) | rfl) (by omega) (by (try simp) <;> (try omega))) (by omega) f6); have Br_6 := hideIt (Bx.fr (b := w.heap.size) (v := (nk 0)) (s := (.slice none 0 0)) (by repeat first | with_reducible exact Br_5.out | with_reducible apply Bx.alloc | with_reducible refine Bx.set ?_ (by (try dsimp only); omega) _ | with_reducible apply Bx.drew) (by omega) f6); have yr6 := Br_6.out.lt; have Bn_6 := hideIt (Bx.fr (b := x3.heap.size) (v := ⟨17, 0, 0, 0, 0, 0, 0, bs nm, ⟨#[]⟩⟩) (s := (.slice (some ⟨x5.heap.size, 0, none⟩) 1 1)) (by repeat first | exact (Bx.put Bn_5.out 9 _ rfl) | with_reducible apply Bx.alloc | with_reducible refine Bx.set ?_ (by (try dsimp only); omega) _ | with_reducible apply Bx.drew) (by omega) f6); have yn6 := Bn_6.out.lt; obtain ⟨r0, r1, r2, r3, r4, r5, r6, r7, r8, r9⟩ := Br_6.out.ten; have rf := Br_6.out.free; clear n0 n1 n2 n3 n4 n5 n6 n7 n8 n9 nf yn5; obtain ⟨n0, n1, n2, n3, n4, n5, n6, n7, n8, n9⟩ := Bn_6.out.ten; have nf := Bn_6.out.free; clear Lx_5 Br_5 Bn_5; clear C6; clear f6 d6)
          go_wp2_with (fail)
          have ER := HR.out
          subst ER
          have ob2 := name_ok h2 D1.out.p.wf
          refine bodyPost_ret (v := nodeV ⟨17, 0, 0, 0, 0, 0, 0, bs nm, ⟨#[]⟩⟩ (.slice (some ⟨x5.heap.size, 0, none⟩) 1 1)) (by simp [results, Tryz.results122, go_sem, *]) rfl ⟨(by repeat with_reducible first | exact F6.out | apply Fr.alloc | apply Fr.drew | refine Fr.setNew ?_ (by (try dsimp only); omega) _), _, rfl, ?_, (by repeat with_reducible first | exact D6.out | apply RD.alloc | apply RD.drew | refine RD.setCell ?_ (by (try dsimp only); omega) _)⟩
          exact NV.mk (x := (⟨17, 0, 0, 0, 0, 0, 0, bs nm, ⟨#[]⟩⟩, one x)) (B' := w.heap.size + 1) (U := x5.heap.size + 1) (f := .cons x.1 a5 c5 g5 .nil) ⟨rfl, Kx.out.1, trivial⟩ sok1 (by repeat with_reducible first | exact Lk_6.out | apply Ls.alloc | apply Ls.drew | refine Ls.set ?_ (by (try dsimp only); omega) _) (by omega) (by refine nf_ok ?_ ?_ ?_ ?_ ?_ ?_ ?_ ?_ ?_ <;> first | omega | decide | (rw [bs_size]; omega) | exact Nat.zero_le _)
       | false =>
        try simp only [Bool.false_eq_true, if_false] at HR
        have C4 := hideIt (fun X (h : RD X R g cap L s3) => try_any [91] (by decide) R g cap L s3 X h)
        (go_at_call_of 64 (Value.string ⟨#[91]⟩); refine Calls.mono (okc h4 (C4.out _ (by repeat with_reducible first | exact D3.out | apply RD.alloc | apply RD.drew | refine RD.setCell ?_ (by (try dsimp only); omega) _))) ?_; rintro e x4 ⟨v4, rfl, rfl, f4, d4⟩; have D4 := hideIt d4; have F4 := hideIt (show Fr R w x4 from Fr.trans (by repeat with_reducible first | exact F3.out | apply Fr.alloc | apply Fr.drew | refine Fr.setNew ?_ (by (try dsimp only); omega) _) f4); have Z4 : x3.heap.size + 1 ≤ x4.heap.size := (by have z := f4.size; (try simp at z); omega); have Br_4 := hideIt (Bx.fr (b := w.heap.size) (v := (nk 0)) (s := (.slice none 0 0)) (by repeat first | with_reducible exact Br_3.out | with_reducible apply Bx.alloc | with_reducible refine Bx.set ?_ (by (try dsimp only); omega) _ | with_reducible apply Bx.drew) (by omega) f4); have yr4 := Br_4.out.lt; have Bn_4 := hideIt (Bx.fr (b := x3.heap.size) (v := ⟨16, 0, 0, 0, 0, 0, 0, bs nm, ⟨#[]⟩⟩) (s := (.slice none 0 0)) (by repeat first | refine Bx.newAt _ ⟨16, 0, 0, 0, 0, 0, 0, bs nm, ⟨#[]⟩⟩ (.slice none 0 0) (by simp; done) | with_reducible apply Bx.alloc | with_reducible refine Bx.set ?_ (by (try dsimp only); omega) _ | with_reducible apply Bx.drew) (by omega) f4); have yn4 := Bn_4.out.lt; obtain ⟨n0, n1, n2, n3, n4, n5, n6, n7, n8, n9⟩ := Bn_4.out.ten; have nf := Bn_4.out.free; clear Br_3; clear C4; clear f4 d4)
        go_wp2_with (fail)
        cases h5 : tryM [46] s4 with
        | out => rw [h5] at HR; exact absurd HR.out.symm HN.out
        | bad k p =>
         rw [h5] at HR
         have C5 := hideIt (fun X (h : RD X R g cap L s4) => try_any [46] (by decide) R g cap L s4 X h)
         (go_at_call_of 64 (Value.string ⟨#[46]⟩); refine Calls.mono (badc h5 (C5.out _ (by repeat with_reducible first | exact D4.out | apply RD.alloc | apply RD.drew | refine RD.setCell ?_ (by (try dsimp only); omega) _))) ?_; rintro e x5 ⟨rfl, f5⟩; have F5 := hideIt (show Fr R w x5 from Fr.trans (by repeat with_reducible first | exact F4.out | apply Fr.alloc | apply Fr.drew | refine Fr.setNew ?_ (by (try dsimp only); omega) _) f5); clear f5)
         have ER : Rs.bad k p = r := HR.out
         subst ER
         exact ⟨rfl, F5.out, rfl⟩
        | ok b5 s5 =>
         rw [h5] at HR
         try simp only [bnd_ok] at HR
         cases b5 with
         | true =>
          try simp only [if_true] at HR
          have C5 := hideIt (fun X (h : RD X R g cap L s4) => try_any [46] (by decide) R g cap L s4 X h)
          (go_at_call_of 64 (Value.string ⟨#[46]⟩); refine Calls.mono (okc h5 (C5.out _ (by repeat with_reducible first | exact D4.out | apply RD.alloc | apply RD.drew | refine RD.setCell ?_ (by (try dsimp only); omega) _))) ?_; rintro e x5 ⟨v5, rfl, rfl, f5, d5⟩; have D5 := hideIt d5; have F5 := hideIt (show Fr R w x5 from Fr.trans (by repeat with_reducible first | exact F4.out | apply Fr.alloc | apply Fr.drew | refine Fr.setNew ?_ (by (try dsimp only); omega) _) f5); have Z5 : x4.heap.size ≤ x5.heap.size := (by have z := f5.size; (try simp at z); omega); have Br_5 := hideIt (Bx.fr (b := w.heap.size) (v := (nk 0)) (s := (.slice none 0 0)) (by repeat first | with_reducible exact Br_4.out | with_reducible apply Bx.alloc | with_reducible refine Bx.set ?_ (by (try dsimp only); omega) _ | with_reducible apply Bx.drew) (by omega) f5); have yr5 := Br_5.out.lt; have Bn_5 := hideIt (Bx.fr (b := x3.heap.size) (v := ⟨16, 0, 0, 0, 0, 0, 0, bs nm, ⟨#[]⟩⟩) (s := (.slice none 0 0)) (by repeat first | with_reducible exact Bn_4.out | with_reducible apply Bx.alloc | with_reducible refine Bx.set ?_ (by (try dsimp only); omega) _ | with_reducible apply Bx.drew) (by omega) f5); have yn5 := Bn_5.out.lt; clear n0 n1 n2 n3 n4 n5 n6 n7 n8 n9 nf yn4; obtain ⟨n0, n1, n2, n3, n4, n5, n6, n7, n8, n9⟩ := Bn_5.out.ten; have nf := Bn_5.out.free; clear Br_4 Bn_4; clear C5; clear f5 d5)
          go_wp2_with (fail)
          cases h6 : nameM s5 with
          | out => rw [h6] at HR; exact absurd HR.out.symm HN.out
          | bad k p =>
           rw [h6] at HR
           have C6 := hideIt (fun X (h : RD X R g cap L s5) => name_rd R g cap L s5 X h)
           (go_at_call 65; refine Calls.mono (badc h6 (C6.out _ (by repeat with_reducible first | exact D5.out | apply RD.alloc | apply RD.drew | refine RD.setCell ?_ (by (try dsimp only); omega) _))) ?_; rintro e x6 ⟨rfl, f6⟩; have F6 := hideIt (show Fr R w x6 from Fr.trans (by repeat with_reducible first | exact F5.out | apply Fr.alloc | apply Fr.drew | refine Fr.setNew ?_ (by (try dsimp only); omega) _) f6); clear f6)
           have ER : Rs.bad k p = r := HR.out
           subst ER
           exact ⟨rfl, F6.out, rfl⟩
          | ok f s6 =>
           rw [h6] at HR
           try simp only [bnd_ok] at HR
           have C6 := hideIt (fun X (h : RD X R g cap L s5) => name_rd R g cap L s5 X h)
           (go_at_call 65; refine Calls.mono (okc h6 (C6.out _ (by repeat with_reducible first | exact D5.out | apply RD.alloc | apply RD.drew | refine RD.setCell ?_ (by (try dsimp only); omega) _))) ?_; rintro e x6 ⟨v6, rfl, rfl, f6, d6⟩; have D6 := hideIt d6; have F6 := hideIt (show Fr R w x6 from Fr.trans (by repeat with_reducible first | exact F5.out | apply Fr.alloc | apply Fr.drew | refine Fr.setNew ?_ (by (try dsimp only); omega) _) f6); have Z6 : x5.heap.size ≤ x6.heap.size := (by have z := f6.size; (try simp at z); omega); have Br_6 := hideIt (Bx.fr (b := w.heap.size) (v := (nk 0)) (s := (.slice none 0 0)) (by repeat first | with_reducible exact Br_5.out | with_reducible apply Bx.alloc | with_reducible refine Bx.set ?_ (by (try dsimp only); omega) _ | with_reducible apply Bx.drew) (by omega) f6); have yr6 := Br_6.out.lt; have Bn_6 := hideIt (Bx.fr (b := x3.heap.size) (v := ⟨18, 0, 0, 0, 0, 0, 0, bs nm, ⟨#[]⟩⟩) (s := (.slice none 0 0)) (by repeat first | exact (Bx.put Bn_5.out 0 _ rfl) | with_reducible apply Bx.alloc | with_reducible refine Bx.set ?_ (by (try dsimp only); omega) _ | with_reducible apply Bx.drew) (by omega) f6); have yn6 := Bn_6.out.lt; obtain ⟨r0, r1, r2, r3, r4, r5, r6, r7, r8, r9⟩ := Br_6.out.ten; have rf := Br_6.out.free; clear n0 n1 n2 n3 n4 n5 n6 n7 n8 n9 nf yn5; obtain ⟨n0, n1, n2, n3, n4, n5, n6, n7, n8, n9⟩ := Bn_6.out.ten; have nf := Bn_6.out.free; clear Br_5 Bn_5; clear C6; clear f6 d6)
           go_wp2_with (fail)
           have ER := HR.out
           subst ER
           have ob2 := name_ok h2 D1.out.p.wf
           have ob6 := name_ok h6 D5.out.p.wf
           refine bodyPost_ret (v := nodeV ⟨18, 0, 0, 0, 0, 0, 0, bs nm, bs f⟩ (.slice none 0 0)) (by simp [results, Tryz.results122, go_sem, *]) rfl ⟨(by repeat with_reducible first | exact F6.out | apply Fr.alloc | apply Fr.drew | refine Fr.setNew ?_ (by (try dsimp only); omega) _), _, rfl, ?_, (by repeat with_reducible first | exact D6.out | apply RD.alloc | apply RD.drew | refine RD.setCell ?_ (by (try dsimp only); omega) _)⟩
           exact NV.leaf (by refine nf_ok ?_ ?_ ?_ ?_ ?_ ?_ ?_ ?_ ?_ <;> first | omega | decide | (rw [bs_size]; omega) | exact Nat.zero_le _)
         | false =>
          try simp only [Bool.false_eq_true, if_false] at HR
          have C5 := hideIt (fun X (h : RD X R g cap L s4) => try_any [46] (by decide) R g cap L s4 X h)
          (go_at_call_of 64 (Value.string ⟨#[46]⟩); refine Calls.mono (okc h5 (C5.out _ (by repeat with_reducible first | exact D4.out | apply RD.alloc | apply RD.drew | refine RD.setCell ?_ (by (try dsimp only); omega) _))) ?_; rintro e x5 ⟨v5, rfl, rfl, f5, d5⟩; have D5 := hideIt d5; have F5 := hideIt (show Fr R w x5 from Fr.trans (by repeat with_reducible first | exact F4.out | apply Fr.alloc | apply Fr.drew | refine Fr.setNew ?_ (by (try dsimp only); omega) _) f5); have Z5 : x4.heap.size ≤ x5.heap.size := (by have z := f5.size; (try simp at z); omega); have Br_5 := hideIt (Bx.fr (b := w.heap.size) (v := (nk 0)) (s := (.slice none 0 0)) (by repeat first | with_reducible exact Br_4.out | with_reducible apply Bx.alloc | with_reducible refine Bx.set ?_ (by (try dsimp only); omega) _ | with_reducible apply Bx.drew) (by omega) f5); have yr5 := Br_5.out.lt; have Bn_5 := hideIt (Bx.fr (b := x3.heap.size) (v := ⟨16, 0, 0, 0, 0, 0, 0, bs nm, ⟨#[]⟩⟩) (s := (.slice none 0 0)) (by repeat first | with_reducible exact Bn_4.out | with_reducible apply Bx.alloc | with_reducible refine Bx.set ?_ (by (try dsimp only); omega) _ | with_reducible apply Bx.drew) (by omega) f5); have yn5 := Bn_5.out.lt; obtain ⟨r0, r1, r2, r3, r4, r5, r6, r7, r8, r9⟩ := Br_5.out.ten; have rf := Br_5.out.free; clear n0 n1 n2 n3 n4 n5 n6 n7 n8 n9 nf yn4; obtain ⟨n0, n1, n2, n3, n4, n5, n6, n7, n8, n9⟩ := Bn_5.out.ten; have nf := Bn_5.out.free; clear Br_4 Bn_4; clear C5; clear f5 d5)
          go_wp2_with (fail)
          have ER := HR.out
          subst ER
          have ob2 := name_ok h2 D1.out.p.wf
          refine bodyPost_ret (v := nodeV ⟨16, 0, 0, 0, 0, 0, 0, bs nm, ⟨#[]⟩⟩ (.slice none 0 0)) (by simp [results, Tryz.results122, go_sem, *]) rfl ⟨(by repeat with_reducible first | exact F5.out | apply Fr.alloc | apply Fr.drew | refine Fr.setNew ?_ (by (try dsimp only); omega) _), _, rfl, ?_, (by repeat with_reducible first | exact D5.out | apply RD.alloc | apply RD.drew | refine RD.setCell ?_ (by (try dsimp only); omega) _)⟩
          exact NV.leaf (by refine nf_ok ?_ ?_ ?_ ?_ ?_ ?_ ?_ ?_ ?_ <;> first | omega | decide | (rw [bs_size]; omega) | exact Nat.zero_le _)

end Go.Proofs.YtoilhcklflmamaaGreatDoor

namespace Go.Proofs.YtoilhcklflmamaaGreatDoor
open Go.RowKit
open Pr
set_option linter.unusedVariables false

set_option maxRecDepth 100000 in
set_option maxHeartbeats 4000000 in
theorem loop_rd (R g cap : Nat) (L : List Tok) (n : Nat) (HB : ∀ s, rd n .block s ≠ .out → Rule 94 #[] R g cap L s (rd n .block s)) (s : St) (hno : rd (n + 1) .loop s ≠ .out) :
    Rule 116 #[] R g cap L s (rd (n + 1) .loop s) := by
  intro w h
  have e : rd (n + 1) .loop s = (nameM s).bnd fun nm s => (nodeM s).bnd fun _ s => (needM [61] s).bnd fun _ s => (countM s).bnd fun a s => (needM [116, 111] s).bnd fun _ s => (countM s).bnd fun b s => (rd n .block s).bnd fun x s => .ok (⟨11, 0, 0, 0, 0, a, b, bs nm, ⟨#[]⟩⟩, one x) s := rfl
  rw [e] at hno ⊢
  clear e
  have HD := hideIt h
  have hR := h.b.lt_size
  clear h
  obtain ⟨r, hr⟩ : ∃ r, ((nameM s).bnd fun nm s => (nodeM s).bnd fun _ s => (needM [61] s).bnd fun _ s => (countM s).bnd fun a s => (needM [116, 111] s).bnd fun _ s => (countM s).bnd fun b s => (rd n .block s).bnd fun x s => .ok (⟨11, 0, 0, 0, 0, a, b, bs nm, ⟨#[]⟩⟩, one x) s : Rs Nd) = r := ⟨_, rfl⟩
  rw [hr] at hno ⊢
  have HR := hideIt hr
  have HN := hideIt hno
  clear hr hno
  go_enter Tryz.func116, Tryz.ntmps116
  go_wp2_with (fail)
  cases h1 : nameM s with
  | out => rw [h1] at HR; exact absurd HR.out.symm HN.out
  | bad k p =>
   rw [h1] at HR
   have C1 := hideIt (fun X (h : RD X R g cap L s) => name_rd R g cap L s X h)
   (go_at_call 65; refine Calls.mono (badc h1 (C1.out _ (by repeat with_reducible first | exact HD.out | apply RD.alloc | apply RD.drew | refine RD.setCell ?_ (by (try dsimp only); omega) _))) ?_; rintro e x1 ⟨rfl, f1⟩; have F1 := hideIt (show Fr R w x1 from Fr.trans (by repeat with_reducible first | exact (Fr.refl R w) | apply Fr.alloc | apply Fr.drew | refine Fr.setNew ?_ (by (try dsimp only); omega) _) f1); clear f1)
   have ER : Rs.bad k p = r := HR.out
   subst ER
   exact ⟨rfl, F1.out, rfl⟩
  | ok nm s1 =>
   rw [h1] at HR
   try simp only [bnd_ok] at HR
   have C1 := hideIt (fun X (h : RD X R g cap L s) => name_rd R g cap L s X h)
   (go_at_call 65; refine Calls.mono (okc h1 (C1.out _ (by repeat with_reducible first | exact HD.out | apply RD.alloc | apply RD.drew | refine RD.setCell ?_ (by (try dsimp only); omega) _))) ?_; rintro e x1 ⟨v1, rfl, rfl, f1, d1⟩; have D1 := hideIt d1; have F1 := hideIt (show Fr R w x1 from Fr.trans (by repeat with_reducible first | exact (Fr.refl R w) | apply Fr.alloc | apply Fr.drew | refine Fr.setNew ?_ (by (try dsimp only); omega) _) f1); have Z1 : w.heap.size + 1 ≤ x1.heap.size := (by have z := f1.size; (try simp at z); omega); have Br_1 := hideIt (Bx.fr (b := w.heap.size) (v := (nk 0)) (s := (.slice none 0 0)) (by repeat first | refine Bx.newAt _ (nk 0) (.slice none 0 0) (by simp; done) | with_reducible apply Bx.alloc | with_reducible refine Bx.set ?_ (by (try dsimp only); omega) _ | with_reducible apply Bx.drew) (by omega) f1); have yr1 := Br_1.out.lt; clear C1; clear f1 d1)
   go_wp2_with (fail)
   cases h2 : nodeM s1 with
   | out => rw [h2] at HR; exact absurd HR.out.symm HN.out
   | bad k p =>
    rw [h2] at HR
    have C2 := hideIt (fun X (h : RD X R g cap L s1) => node_rd R g cap L s1 X h ⟨11, 0, 0, 0, 0, 0, 0, bs nm, ⟨#[]⟩⟩ none 0 0)
    (go_at_call 31; refine Calls.mono (badc h2 (C2.out _ (by repeat with_reducible first | exact D1.out | apply RD.alloc | apply RD.drew | refine RD.setCell ?_ (by (try dsimp only); omega) _))) ?_; rintro e x2 ⟨rfl, f2⟩; have F2 := hideIt (show Fr R w x2 from Fr.trans (by repeat with_reducible first | exact F1.out | apply Fr.alloc | apply Fr.drew | refine Fr.setNew ?_ (by (try dsimp only); omega) _) f2); clear f2)
    have ER : Rs.bad k p = r := HR.out
    subst ER
    exact ⟨rfl, F2.out, rfl⟩
   | ok u2 s2 =>
    rw [h2] at HR
    try simp only [bnd_ok] at HR
    have C2 := hideIt (fun X (h : RD X R g cap L s1) => node_rd R g cap L s1 X h ⟨11, 0, 0, 0, 0, 0, 0, bs nm, ⟨#[]⟩⟩ none 0 0)
    (go_at_call 31; refine Calls.mono (okc h2 (C2.out _ (by repeat with_reducible first | exact D1.out | apply RD.alloc | apply RD.drew | refine RD.setCell ?_ (by (try dsimp only); omega) _))) ?_; rintro e x2 ⟨v2, rfl, rfl, f2, d2⟩; have D2 := hideIt d2; have F2 := hideIt (show Fr R w x2 from Fr.trans (by repeat with_reducible first | exact F1.out | apply Fr.alloc | apply Fr.drew | refine Fr.setNew ?_ (by (try dsimp only); omega) _) f2); have Z2 : x1.heap.size ≤ x2.heap.size := (by have z := f2.size; (try simp at z); omega); have Br_2 := hideIt (Bx.fr (b := w.heap.size) (v := (nk 0)) (s := (.slice none 0 0)) (by repeat first | with_reducible exact Br_1.out | with_reducible apply Bx.alloc | with_reducible refine Bx.set ?_ (by (try dsimp only); omega) _ | with_reducible apply Bx.drew) (by omega) f2); have yr2 := Br_2.out.lt; clear Br_1; clear C2; clear f2 d2)
    go_wp2_with (fail)
    cases h3 : needM [61] s2 with
    | out => rw [h3] at HR; exact absurd HR.out.symm HN.out
    | bad k p =>
     rw [h3] at HR
     have C3 := hideIt (fun X (h : RD X R g cap L s2) => need_any [61] (by decide) R g cap L s2 X h)
     (go_at_call_of 91 (Value.string ⟨#[61]⟩); refine Calls.mono (badc h3 (C3.out _ (by repeat with_reducible first | exact D2.out | apply RD.alloc | apply RD.drew | refine RD.setCell ?_ (by (try dsimp only); omega) _))) ?_; rintro e x3 ⟨rfl, f3⟩; have F3 := hideIt (show Fr R w x3 from Fr.trans (by repeat with_reducible first | exact F2.out | apply Fr.alloc | apply Fr.drew | refine Fr.setNew ?_ (by (try dsimp only); omega) _) f3); clear f3)
     have ER : Rs.bad k p = r := HR.out
     subst ER
     exact ⟨rfl, F3.out, rfl⟩
    | ok u3 s3 =>
     rw [h3] at HR
     try simp only [bnd_ok] at HR
     have C3 := hideIt (fun X (h : RD X R g cap L s2) => need_any [61] (by decide) R g cap L s2 X h)
     (go_at_call_of 91 (Value.string ⟨#[61]⟩); refine Calls.mono (okc h3 (C3.out _ (by repeat with_reducible first | exact D2.out | apply RD.alloc | apply RD.drew | refine RD.setCell ?_ (by (try dsimp only); omega) _))) ?_; rintro e x3 ⟨v3, rfl, rfl, f3, d3⟩; have D3 := hideIt d3; have F3 := hideIt (show Fr R w x3 from Fr.trans (by repeat with_reducible first | exact F2.out | apply Fr.alloc | apply Fr.drew | refine Fr.setNew ?_ (by (try dsimp only); omega) _) f3); have Z3 : x2.heap.size + 1 ≤ x3.heap.size := (by have z := f3.size; (try simp at z); omega); have Br_3 := hideIt (Bx.fr (b := w.heap.size) (v := (nk 0)) (s := (.slice none 0 0)) (by repeat first | with_reducible exact Br_2.out | with_reducible apply Bx.alloc | with_reducible refine Bx.set ?_ (by (try dsimp only); omega) _ | with_reducible apply Bx.drew) (by omega) f3); have yr3 := Br_3.out.lt; have Bn_3 := hideIt (Bx.fr (b := x2.heap.size) (v := ⟨11, 0, 0, 0, 0, 0, 0, bs nm, ⟨#[]⟩⟩) (s := (.slice none 0 0)) (by repeat first | refine Bx.newAt _ ⟨11, 0, 0, 0, 0, 0, 0, bs nm, ⟨#[]⟩⟩ (.slice none 0 0) (by simp; done) | with_reducible apply Bx.alloc | with_reducible refine Bx.set ?_ (by (try dsimp only); omega) _ | with_reducible apply Bx.drew) (by omega) f3); have yn3 := Bn_3.out.lt; obtain ⟨n0, n1, n2, n3, n4, n5, n6, n7, n8, n9⟩ := Bn_3.out.ten; have nf := Bn_3.out.free; clear Br_2; clear C3; clear f3 d3)
     go_wp2_with (fail)
     cases h4 : countM s3 with
     | out => rw [h4] at HR; exact absurd HR.out.symm HN.out
     | bad k p =>
      rw [h4] at HR
      have C4 := hideIt (fun X (h : RD X R g cap L s3) => count_rd R g cap L s3 X h)
      (go_at_call 95; refine Calls.mono (badc h4 (C4.out _ (by repeat with_reducible first | exact D3.out | apply RD.alloc | apply RD.drew | refine RD.setCell ?_ (by (try dsimp only); omega) _))) ?_; rintro e x4 ⟨rfl, f4⟩; have F4 := hideIt (show Fr R w x4 from Fr.trans (by repeat with_reducible first | exact F3.out | apply Fr.alloc | apply Fr.drew | refine Fr.setNew ?_ (by (try dsimp only); omega) _) f4); clear f4)
      have ER : Rs.bad k p = r := HR.out
      subst ER
      exact ⟨rfl, F4.out, rfl⟩
     | ok z1 s4 =>
      rw [h4] at HR
      try simp only [bnd_ok] at HR
      have C4 := hideIt (fun X (h : RD X R g cap L s3) => count_rd R g cap L s3 X h)
      (go_at_call 95; refine Calls.mono (okc h4 (C4.out _ (by repeat with_reducible first | exact D3.out | apply RD.alloc | apply RD.drew | refine RD.setCell ?_ (by (try dsimp only); omega) _))) ?_; rintro e x4 ⟨v4, rfl, rfl, f4, d4⟩; have D4 := hideIt d4; have F4 := hideIt (show Fr R w x4 from Fr.trans (by repeat with_reducible first | exact F3.out | apply Fr.alloc | apply Fr.drew | refine Fr.setNew ?_ (by (try dsimp only); omega) _) f4); have Z4 : x3.heap.size ≤ x4.heap.size := (by have z := f4.size; (try simp at z); omega); have Br_4 := hideIt (Bx.fr (b := w.heap.size) (v := (nk 0)) (s := (.slice none 0 0)) (by repeat first | with_reducible exact Br_3.out | with_reducible apply Bx.alloc | with_reducible refine Bx.set ?_ (by (try dsimp only); omega) _ | with_reducible apply Bx.drew) (by omega) f4); have yr4 := Br_4.out.lt; have Bn_4 := hideIt (Bx.fr (b := x2.heap.size) (v := ⟨11, 0, 0, 0, 0, 0, 0, bs nm, ⟨#[]⟩⟩) (s := (.slice none 0 0)) (by repeat first | with_reducible exact Bn_3.out | with_reducible apply Bx.alloc | with_reducible refine Bx.set ?_ (by (try dsimp only); omega) _ | with_reducible apply Bx.drew) (by omega) f4); have yn4 := Bn_4.out.lt; clear n0 n1 n2 n3 n4 n5 n6 n7 n8 n9 nf yn3; obtain ⟨n0, n1, n2, n3, n4, n5, n6, n7, n8, n9⟩ := Bn_4.out.ten; have nf := Bn_4.out.free; clear Br_3 Bn_3; clear C4; clear f4 d4)
      go_wp2_with (fail)
      cases h5 : needM [116, 111] s4 with
      | out => rw [h5] at HR; exact absurd HR.out.symm HN.out
      | bad k p =>
       rw [h5] at HR
       have C5 := hideIt (fun X (h : RD X R g cap L s4) => need_any [116, 111] (by decide) R g cap L s4 X h)
       (go_at_call_of 91 (Value.string ⟨#[116, 111]⟩); refine Calls.mono (badc h5 (C5.out _ (by repeat with_reducible first | exact D4.out | apply RD.alloc | apply RD.drew | refine RD.setCell ?_ (by (try dsimp only); omega) _))) ?_; rintro e x5 ⟨rfl, f5⟩; have F5 := hideIt (show Fr R w x5 from Fr.trans (by repeat with_reducible first | exact F4.out | apply Fr.alloc | apply Fr.drew | refine Fr.setNew ?_ (by (try dsimp only); omega) _) f5); clear f5)
       have ER : Rs.bad k p = r := HR.out
       subst ER
       exact ⟨rfl, F5.out, rfl⟩
      | ok u5 s5 =>
       rw [h5] at HR
       try simp only [bnd_ok] at HR
       have C5 := hideIt (fun X (h : RD X R g cap L s4) => need_any [116, 111] (by decide) R g cap L s4 X h)
       (go_at_call_of 91 (Value.string ⟨#[116, 111]⟩); refine Calls.mono (okc h5 (C5.out _ (by repeat with_reducible first | exact D4.out | apply RD.alloc | apply RD.drew | refine RD.setCell ?_ (by (try dsimp only); omega) _))) ?_; rintro e x5 ⟨v5, rfl, rfl, f5, d5⟩; have D5 := hideIt d5; have F5 := hideIt (show Fr R w x5 from Fr.trans (by repeat with_reducible first | exact F4.out | apply Fr.alloc | apply Fr.drew | refine Fr.setNew ?_ (by (try dsimp only); omega) _) f5); have Z5 : x4.heap.size ≤ x5.heap.size := (by have z := f5.size; (try simp at z); omega); have Br_5 := hideIt (Bx.fr (b := w.heap.size) (v := (nk 0)) (s := (.slice none 0 0)) (by repeat first | with_reducible exact Br_4.out | with_reducible apply Bx.alloc | with_reducible refine Bx.set ?_ (by (try dsimp only); omega) _ | with_reducible apply Bx.drew) (by omega) f5); have yr5 := Br_5.out.lt; have Bn_5 := hideIt (Bx.fr (b := x2.heap.size) (v := ⟨11, 0, 0, 0, 0, z1, 0, bs nm, ⟨#[]⟩⟩) (s := (.slice none 0 0)) (by repeat first | exact (Bx.put Bn_4.out 5 _ rfl) | with_reducible apply Bx.alloc | with_reducible refine Bx.set ?_ (by (try dsimp only); omega) _ | with_reducible apply Bx.drew) (by omega) f5); have yn5 := Bn_5.out.lt; clear n0 n1 n2 n3 n4 n5 n6 n7 n8 n9 nf yn4; obtain ⟨n0, n1, n2, n3, n4, n5, n6, n7, n8, n9⟩ := Bn_5.out.ten; have nf := Bn_5.out.free; clear Br_4 Bn_4; clear C5; clear f5 d5)
       go_wp2_with (fail)
       cases h6 : countM s5 with
       | out => rw [h6] at HR; exact absurd HR.out.symm HN.out
       | bad k p =>
        rw [h6] at HR
        have C6 := hideIt (fun X (h : RD X R g cap L s5) => count_rd R g cap L s5 X h)
        (go_at_call 95; refine Calls.mono (badc h6 (C6.out _ (by repeat with_reducible first | exact D5.out | apply RD.alloc | apply RD.drew | refine RD.setCell ?_ (by (try dsimp only); omega) _))) ?_; rintro e x6 ⟨rfl, f6⟩; have F6 := hideIt (show Fr R w x6 from Fr.trans (by repeat with_reducible first | exact F5.out | apply Fr.alloc | apply Fr.drew | refine Fr.setNew ?_ (by (try dsimp only); omega) _) f6); clear f6)
        have ER : Rs.bad k p = r := HR.out
        subst ER
        exact ⟨rfl, F6.out, rfl⟩
       | ok z2 s6 =>
        rw [h6] at HR
        try simp only [bnd_ok] at HR
        have C6 := hideIt (fun X (h : RD X R g cap L s5) => count_rd R g cap L s5 X h)
        (go_at_call 95; refine Calls.mono (okc h6 (C6.out _ (by repeat with_reducible first | exact D5.out | apply RD.alloc | apply RD.drew | refine RD.setCell ?_ (by (try dsimp only); omega) _))) ?_; rintro e x6 ⟨v6, rfl, rfl, f6, d6⟩; have D6 := hideIt d6; have F6 := hideIt (show Fr R w x6 from Fr.trans (by repeat with_reducible first | exact F5.out | apply Fr.alloc | apply Fr.drew | refine Fr.setNew ?_ (by (try dsimp only); omega) _) f6); have Z6 : x5.heap.size ≤ x6.heap.size := (by have z := f6.size; (try simp at z); omega); have Br_6 := hideIt (Bx.fr (b := w.heap.size) (v := (nk 0)) (s := (.slice none 0 0)) (by repeat first | with_reducible exact Br_5.out | with_reducible apply Bx.alloc | with_reducible refine Bx.set ?_ (by (try dsimp only); omega) _ | with_reducible apply Bx.drew) (by omega) f6); have yr6 := Br_6.out.lt; have Bn_6 := hideIt (Bx.fr (b := x2.heap.size) (v := ⟨11, 0, 0, 0, 0, z1, 0, bs nm, ⟨#[]⟩⟩) (s := (.slice none 0 0)) (by repeat first | with_reducible exact Bn_5.out | with_reducible apply Bx.alloc | with_reducible refine Bx.set ?_ (by (try dsimp only); omega) _ | with_reducible apply Bx.drew) (by omega) f6); have yn6 := Bn_6.out.lt; clear n0 n1 n2 n3 n4 n5 n6 n7 n8 n9 nf yn5; obtain ⟨n0, n1, n2, n3, n4, n5, n6, n7, n8, n9⟩ := Bn_6.out.ten; have nf := Bn_6.out.free; clear Br_5 Bn_5; clear C6; clear f6 d6)
        go_wp2_with (fail)
        cases h7 : rd n .block s6 with
        | out => rw [h7] at HR; exact absurd HR.out.symm HN.out
        | bad k p =>
         rw [h7] at HR
         have C7 := hideIt (fun X (h : RD X R g cap L s6) => (HB s6 (by rw [h7]; exact fun e => by cases e)) X h)
         (go_at_call 94; refine Calls.mono (badc h7 (C7.out _ (by repeat with_reducible first | exact D6.out | apply RD.alloc | apply RD.drew | refine RD.setCell ?_ (by (try dsimp only); omega) _))) ?_; rintro e x7 ⟨rfl, f7⟩; have F7 := hideIt (show Fr R w x7 from Fr.trans (by repeat with_reducible first | exact F6.out | apply Fr.alloc | apply Fr.drew | refine Fr.setNew ?_ (by (try dsimp only); omega) _) f7); clear f7)
         have ER : Rs.bad k p = r := HR.out
         subst ER
         exact ⟨rfl, F7.out, rfl⟩
        | ok x s7 =>
         rw [h7] at HR
         try simp only [bnd_ok] at HR
         have C7 := hideIt (fun X (h : RD X R g cap L s6) => (HB s6 (by rw [h7]; exact fun e => by cases e)) X h)
         (go_at_call 94; refine Calls.mono (okc h7 (C7.out _ (by repeat with_reducible first | exact D6.out | apply RD.alloc | apply RD.drew | refine RD.setCell ?_ (by (try dsimp only); omega) _))) ?_; rintro e x7 ⟨v7, rfl, hv7, f7, d7⟩; have D7 := hideIt d7; have F7 := hideIt (show Fr R w x7 from Fr.trans (by repeat with_reducible first | exact F6.out | apply Fr.alloc | apply Fr.drew | refine Fr.setNew ?_ (by (try dsimp only); omega) _) f7); have Z7 : x6.heap.size ≤ x7.heap.size := (by have z := f7.size; (try simp at z); omega); obtain ⟨a7, c7, g7, rfl, cp7, sk7, l7, ok7⟩ := hv7.out; have Lx_7 := hideIt (Ls.mono (B' := x6.heap.size) l7 (by (try simp); try omega) (Nat.le_refl _)); have Kx := hideIt (And.intro cp7 (And.intro sk7 ok7)); clear hv7 l7 cp7 sk7 ok7; have Br_7 := hideIt (Bx.fr (b := w.heap.size) (v := (nk 0)) (s := (.slice none 0 0)) (by repeat first | with_reducible exact Br_6.out | with_reducible apply Bx.alloc | with_reducible refine Bx.set ?_ (by (try dsimp only); omega) _ | with_reducible apply Bx.drew) (by omega) f7); have yr7 := Br_7.out.lt; have Bn_7 := hideIt (Bx.fr (b := x2.heap.size) (v := ⟨11, 0, 0, 0, 0, z1, z2, bs nm, ⟨#[]⟩⟩) (s := (.slice none 0 0)) (by repeat first | exact (Bx.put Bn_6.out 6 _ rfl) | with_reducible apply Bx.alloc | with_reducible refine Bx.set ?_ (by (try dsimp only); omega) _ | with_reducible apply Bx.drew) (by omega) f7); have yn7 := Bn_7.out.lt; obtain ⟨r0, r1, r2, r3, r4, r5, r6, r7, r8, r9⟩ := Br_7.out.ten; have rf := Br_7.out.free; clear n0 n1 n2 n3 n4 n5 n6 n7 n8 n9 nf yn6; obtain ⟨n0, n1, n2, n3, n4, n5, n6, n7, n8, n9⟩ := Bn_7.out.ten; have nf := Bn_7.out.free; clear Br_6 Bn_6; clear C7; clear f7 d7)
         go_wp2_with (fail)
         have ER := HR.out
         subst ER
         have ob1 := name_ok h1 HD.out.p.wf
         have ob4 := count_ok h4 D3.out.p.wf
         have ob6 := count_ok h6 D5.out.p.wf
         refine bodyPost_ret (v := nodeV ⟨11, 0, 0, 0, 0, z1, z2, bs nm, ⟨#[]⟩⟩ (.slice (some ⟨x7.heap.size, 0, none⟩) 1 1)) (by simp [results, Tryz.results116, go_sem, *]) rfl ⟨(by repeat with_reducible first | exact F7.out | apply Fr.alloc | apply Fr.drew | refine Fr.setNew ?_ (by (try dsimp only); omega) _), _, rfl, ?_, (by repeat with_reducible first | exact D7.out | apply RD.alloc | apply RD.drew | refine RD.setCell ?_ (by (try dsimp only); omega) _)⟩
         exact NV.mk (x := (⟨11, 0, 0, 0, 0, z1, z2, bs nm, ⟨#[]⟩⟩, one x)) (f := .cons x.1 a7 c7 g7 .nil) ⟨rfl, Kx.out.1, trivial⟩ sok1 (Ls.one (B := x6.heap.size) (U := x7.heap.size) (B' := w.heap.size) (by repeat with_reducible first | exact Lx_7.out | apply Ls.alloc | apply Ls.drew | refine Ls.set ?_ (by (try dsimp only); omega) _) Kx.out.2.2 Kx.out.2.1 (by (try simp) <;> (try omega)) (by first | (simp; done) | rfl) (by omega) (by (try simp) <;> (try omega))) (Nat.le_refl _) (by refine nf_ok ?_ ?_ ?_ ?_ ?_ ?_ ?_ ?_ ?_ <;> first | omega | decide | (rw [bs_size]; omega) | exact Nat.zero_le _)

end Go.Proofs.YtoilhcklflmamaaGreatDoor
