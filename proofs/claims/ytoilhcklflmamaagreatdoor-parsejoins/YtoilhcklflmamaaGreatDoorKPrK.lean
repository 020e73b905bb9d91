/-
  An expression without signs between: contracts over the program; the conditions: the reader lies in memory as it should, and what is called keeps its own contract.
-/
import Derived.Test.YtoilhcklflmamaaGreatDoorKPrG
namespace Go.Proofs.YtoilhcklflmamaaGreatDoor
open Go.RowKit
open Pr
set_option linter.unusedVariables false

set_option maxRecDepth 100000 in
set_option maxHeartbeats 4000000 in
theorem unary_rd (R g cap : Nat) (L : List Tok) (n : Nat) (HP : ∀ v : NF, v.ok → ∀ s, rd n (.prefixed v) s ≠ .out → Rule 126 #[nodeV v (.slice none 0 0)] R g cap L s (rd n (.prefixed v) s)) (HO : ∀ s, rd n .opened s ≠ .out → Rule 127 #[] R g cap L s (rd n .opened s)) (HL : ∀ s, rd n .literal s ≠ .out → Rule 73 #[] R g cap L s (rd n .literal s)) (HV : ∀ s, rd n .lvalue s ≠ .out → Rule 122 #[] R g cap L s (rd n .lvalue s)) (s : St) (hno : rd (n + 1) .unary s ≠ .out) :
    Rule 123 #[] R g cap L s (rd (n + 1) .unary s) := by
  intro w h
  have e : rd (n + 1) .unary s = (tryM [45] s).bnd fun b s => if b then rd n (.prefixed { nk 20 with op := 1 }) s else (tryM [126] s).bnd fun b s => if b then rd n (.prefixed { nk 20 with op := 2 }) s else (tryM [33] s).bnd fun b s => if b then rd n (.prefixed { nk 20 with op := 3 }) s else (tryM [40] s).bnd fun b s => if b then rd n .opened s else if (hd s).1.kind = 3 then rd n .literal s else rd n .lvalue s := rfl
  rw [e] at hno ⊢
  clear e
  have HD := hideIt h
  have hR := h.b.lt_size
  clear h
  obtain ⟨r, hr⟩ : ∃ r, ((tryM [45] s).bnd fun b s => if b then rd n (.prefixed { nk 20 with op := 1 }) s else (tryM [126] s).bnd fun b s => if b then rd n (.prefixed { nk 20 with op := 2 }) s else (tryM [33] s).bnd fun b s => if b then rd n (.prefixed { nk 20 with op := 3 }) s else (tryM [40] s).bnd fun b s => if b then rd n .opened s else if (hd s).1.kind = 3 then rd n .literal s else rd n .lvalue s : Rs Nd) = r := ⟨_, rfl⟩
  rw [hr] at hno ⊢
  have HR := hideIt hr
  have HN := hideIt hno
  clear hr hno
  have FL := fld0
  go_enter Tryz.func123, Tryz.ntmps123
  go_wp2_with (fail)
  cases h1 : tryM [45] s with
  | out => rw [h1] at HR; exact absurd HR.out.symm HN.out
  | bad k p =>
   rw [h1] at HR
   have C1 := hideIt (fun X (h : RD X R g cap L s) => try_any [45] (by decide) R g cap L s X h)
   (go_at_call_of 64 (Value.string ⟨#[45]⟩); refine Calls.mono (badc h1 (C1.out _ (by repeat with_reducible first | exact HD.out | apply RD.alloc | apply RD.drew | refine RD.setCell ?_ (by (try dsimp only); omega) _))) ?_; rintro e x1 ⟨rfl, f1⟩; have F1 := hideIt (show Fr R w x1 from Fr.trans (by repeat with_reducible first | exact (Fr.refl R w) | apply Fr.alloc | apply Fr.drew | refine Fr.setNew ?_ (by (try dsimp only); omega) _) f1); clear f1)
   have ER : Rs.bad k p = r := HR.out
   subst ER
   exact ⟨rfl, F1.out, rfl⟩
  | ok b1 s1 =>
   rw [h1] at HR
   try simp only [bnd_ok] at HR
   cases b1 with
   | true =>
    try simp only [if_true] at HR
    have C1 := hideIt (fun X (h : RD X R g cap L s) => try_any [45] (by decide) R g cap L s X h)
    (go_at_call_of 64 (Value.string ⟨#[45]⟩); refine Calls.mono (okc h1 (C1.out _ (by repeat with_reducible first | exact HD.out | apply RD.alloc | apply RD.drew | refine RD.setCell ?_ (by (try dsimp only); omega) _))) ?_; rintro e x1 ⟨v1, rfl, rfl, f1, d1⟩; have D1 := hideIt d1; have F1 := hideIt (show Fr R w x1 from Fr.trans (by repeat with_reducible first | exact (Fr.refl R w) | apply Fr.alloc | apply Fr.drew | refine Fr.setNew ?_ (by (try dsimp only); omega) _) f1); have Z1 : w.heap.size + 1 ≤ x1.heap.size := (by have z := f1.size; (try simp at z); omega); have Br_1 := hideIt (Bx.fr (b := w.heap.size) (v := (nk 0)) (s := (.slice none 0 0)) (by repeat first | refine Bx.newAt _ (nk 0) (.slice none 0 0) (by simp; done) | with_reducible apply Bx.alloc | with_reducible refine Bx.set ?_ (by (try dsimp only); omega) _ | with_reducible apply Bx.drew) (by omega) f1); have yr1 := Br_1.out.lt; clear C1; clear f1 d1)
    go_wp2_with (fail)
    cases h2 : rd n (.prefixed ⟨20, 1, 0, 0, 0, 0, 0, ⟨#[]⟩, ⟨#[]⟩⟩) s1 with
    | out => rw [h2] at HR; exact absurd HR.out.symm HN.out
    | bad k p =>
     rw [h2] at HR
     have C2 := hideIt (fun X (h : RD X R g cap L s1) => (HP ⟨20, 1, 0, 0, 0, 0, 0, ⟨#[]⟩, ⟨#[]⟩⟩ (by refine nf_ok ?_ ?_ ?_ ?_ ?_ ?_ ?_ ?_ ?_ <;> first | omega | decide | (rw [bs_size]; omega) | exact Nat.zero_le _) s1 (by rw [h2]; exact fun e => by cases e)) X h)
     (go_at_call 126; refine Calls.mono (badc h2 (C2.out _ (by repeat with_reducible first | exact D1.out | apply RD.alloc | apply RD.drew | refine RD.setCell ?_ (by (try dsimp only); omega) _))) ?_; rintro e x2 ⟨rfl, f2⟩; have F2 := hideIt (show Fr R w x2 from Fr.trans (by repeat with_reducible first | exact F1.out | apply Fr.alloc | apply Fr.drew | refine Fr.setNew ?_ (by (try dsimp only); omega) _) f2); clear f2)
     have ER : Rs.bad k p = r := HR.out
     subst ER
     exact ⟨rfl, F2.out, rfl⟩
    | ok x s2 =>
     rw [h2] at HR
     try simp only [bnd_ok] at HR
     have C2 := hideIt (fun X (h : RD X R g cap L s1) => (HP ⟨20, 1, 0, 0, 0, 0, 0, ⟨#[]⟩, ⟨#[]⟩⟩ (by refine nf_ok ?_ ?_ ?_ ?_ ?_ ?_ ?_ ?_ ?_ <;> first | omega | decide | (rw [bs_size]; omega) | exact Nat.zero_le _) s1 (by rw [h2]; exact fun e => by cases e)) X h)
     (go_at_call 126; refine Calls.mono (okc h2 (C2.out _ (by repeat with_reducible first | exact D1.out | apply RD.alloc | apply RD.drew | refine RD.setCell ?_ (by (try dsimp only); omega) _))) ?_; rintro e x2 ⟨v2, rfl, hv2, f2, d2⟩; have D2 := hideIt d2; have F2 := hideIt (show Fr R w x2 from Fr.trans (by repeat with_reducible first | exact F1.out | apply Fr.alloc | apply Fr.drew | refine Fr.setNew ?_ (by (try dsimp only); omega) _) f2); have Z2 : x1.heap.size ≤ x2.heap.size := (by have z := f2.size; (try simp at z); omega); obtain ⟨a2, c2, g2, rfl, cp2, sk2, l2, ok2⟩ := hv2.out; have Lx_2 := hideIt (Ls.mono (B' := x1.heap.size) l2 (by (try simp); try omega) (Nat.le_refl _)); have Kx := hideIt (And.intro cp2 (And.intro sk2 ok2)); clear hv2 l2 cp2 sk2 ok2; have Br_2 := hideIt (Bx.fr (b := w.heap.size) (v := (nk 0)) (s := (.slice none 0 0)) (by repeat first | with_reducible exact Br_1.out | with_reducible apply Bx.alloc | with_reducible refine Bx.set ?_ (by (try dsimp only); omega) _ | with_reducible apply Bx.drew) (by omega) f2); have yr2 := Br_2.out.lt; obtain ⟨r0, r1, r2, r3, r4, r5, r6, r7, r8, r9⟩ := Br_2.out.ten; have rf := Br_2.out.free; clear Br_1; clear C2; clear f2 d2)
     go_wp2_with (fail)
     have ER := HR.out
     subst ER
     refine bodyPost_ret (v := nodeV x.1 (.slice a2 g2.len c2)) (by simp [results, Tryz.results123, go_sem, *]) rfl ⟨(by repeat with_reducible first | exact F2.out | apply Fr.alloc | apply Fr.drew | refine Fr.setNew ?_ (by (try dsimp only); omega) _), _, rfl, ?_, (by repeat with_reducible first | exact D2.out | apply RD.alloc | apply RD.drew | refine RD.setCell ?_ (by (try dsimp only); omega) _)⟩
     exact NV.mk (x := x) (B' := x1.heap.size) (U := x2.heap.size) Kx.out.1 Kx.out.2.1 (by repeat with_reducible first | exact Lx_2.out | apply Ls.alloc | apply Ls.drew | refine Ls.set ?_ (by (try dsimp only); omega) _) (by omega) Kx.out.2.2
   | false =>
    try simp only [Bool.false_eq_true, if_false] at HR
    have C1 := hideIt (fun X (h : RD X R g cap L s) => try_any [45] (by decide) R g cap L s X h)
    (go_at_call_of 64 (Value.string ⟨#[45]⟩); refine Calls.mono (okc h1 (C1.out _ (by repeat with_reducible first | exact HD.out | apply RD.alloc | apply RD.drew | refine RD.setCell ?_ (by (try dsimp only); omega) _))) ?_; rintro e x1 ⟨v1, rfl, rfl, f1, d1⟩; have D1 := hideIt d1; have F1 := hideIt (show Fr R w x1 from Fr.trans (by repeat with_reducible first | exact (Fr.refl R w) | apply Fr.alloc | apply Fr.drew | refine Fr.setNew ?_ (by (try dsimp only); omega) _) f1); have Z1 : w.heap.size + 1 ≤ x1.heap.size := (by have z := f1.size; (try simp at z); omega); have Br_1 := hideIt (Bx.fr (b := w.heap.size) (v := (nk 0)) (s := (.slice none 0 0)) (by repeat first | refine Bx.newAt _ (nk 0) (.slice none 0 0) (by simp; done) | with_reducible apply Bx.alloc | with_reducible refine Bx.set ?_ (by (try dsimp only); omega) _ | with_reducible apply Bx.drew) (by omega) f1); have yr1 := Br_1.out.lt; clear C1; clear f1 d1)
    go_wp2_with (fail)
    cases h2 : tryM [126] s1 with
    | out => rw [h2] at HR; exact absurd HR.out.symm HN.out
    | bad k p =>
     rw [h2] at HR
     have C2 := hideIt (fun X (h : RD X R g cap L s1) => try_any [126] (by decide) R g cap L s1 X h)
     (go_at_call_of 64 (Value.string ⟨#[126]⟩); refine Calls.mono (badc h2 (C2.out _ (by repeat with_reducible first | exact D1.out | apply RD.alloc | apply RD.drew | refine RD.setCell ?_ (by (try dsimp only); omega) _))) ?_; rintro e x2 ⟨rfl, f2⟩; have F2 := hideIt (show Fr R w x2 from Fr.trans (by repeat with_reducible first | exact F1.out | apply Fr.alloc | apply Fr.drew | refine Fr.setNew ?_ (by (try dsimp only); omega) _) f2); clear f2)
     have ER : Rs.bad k p = r := HR.out
     subst ER
     exact ⟨rfl, F2.out, rfl⟩
    | ok b2 s2 =>
     rw [h2] at HR
     try simp only [bnd_ok] at HR
     cases b2 with
     | true =>
      try simp only [if_true] at HR
      have C2 := hideIt (fun X (h : RD X R g cap L s1) => try_any [126] (by decide) R g cap L s1 X h)
      (go_at_call_of 64 (Value.string ⟨#[126]⟩); refine Calls.mono (okc h2 (C2.out _ (by repeat with_reducible first | exact D1.out | apply RD.alloc | apply RD.drew | refine RD.setCell ?_ (by (try dsimp only); omega) _))) ?_; rintro e x2 ⟨v2, rfl, rfl, f2, d2⟩; have D2 := hideIt d2; have F2 := hideIt (show Fr R w x2 from Fr.trans (by repeat with_reducible first | exact F1.out | apply Fr.alloc | apply Fr.drew | refine Fr.setNew ?_ (by (try dsimp only); omega) _) f2); have Z2 : x1.heap.size ≤ x2.heap.size := (by have z := f2.size; (try simp at z); omega); have Br_2 := hideIt (Bx.fr (b := w.heap.size) (v := (nk 0)) (s := (.slice none 0 0)) (by repeat first | with_reducible exact Br_1.out | with_reducible apply Bx.alloc | with_reducible refine Bx.set ?_ (by (try dsimp only); omega) _ | with_reducible apply Bx.drew) (by omega) f2); have yr2 := Br_2.out.lt; clear Br_1; clear C2; clear f2 d2)
      go_wp2_with (fail)
      cases h3 : rd n (.prefixed ⟨20, 2, 0, 0, 0, 0, 0, ⟨#[]⟩, ⟨#[]⟩⟩) s2 with
      | out => rw [h3] at HR; exact absurd HR.out.symm HN.out
      | bad k p =>
       rw [h3] at HR
       have C3 := hideIt (fun X (h : RD X R g cap L s2) => (HP ⟨20, 2, 0, 0, 0, 0, 0, ⟨#[]⟩, ⟨#[]⟩⟩ (by refine nf_ok ?_ ?_ ?_ ?_ ?_ ?_ ?_ ?_ ?_ <;> first | omega | decide | (rw [bs_size]; omega) | exact Nat.zero_le _) s2 (by rw [h3]; exact fun e => by cases e)) X h)
       (go_at_call 126; refine Calls.mono (badc h3 (C3.out _ (by repeat with_reducible first | exact D2.out | apply RD.alloc | apply RD.drew | refine RD.setCell ?_ (by (try dsimp only); omega) _))) ?_; rintro e x3 ⟨rfl, f3⟩; have F3 := hideIt (show Fr R w x3 from Fr.trans (by repeat with_reducible first | exact F2.out | apply Fr.alloc | apply Fr.drew | refine Fr.setNew ?_ (by (try dsimp only); omega) _) f3); clear f3)
       have ER : Rs.bad k p = r := HR.out
       subst ER
       exact ⟨rfl, F3.out, rfl⟩
      | ok x s3 =>
       rw [h3] at HR
       try simp only [bnd_ok] at HR
       have C3 := hideIt (fun X (h : RD X R g cap L s2) => (HP ⟨20, 2, 0, 0, 0, 0, 0, ⟨#[]⟩, ⟨#[]⟩⟩ (by refine nf_ok ?_ ?_ ?_ ?_ ?_ ?_ ?_ ?_ ?_ <;> first | omega | decide | (rw [bs_size]; omega) | exact Nat.zero_le _) s2 (by rw [h3]; exact fun e => by cases e)) X h)
       (go_at_call 126; refine Calls.mono (okc h3 (C3.out _ (by repeat with_reducible first | exact D2.out | apply RD.alloc | apply RD.drew | refine RD.setCell ?_ (by (try dsimp only); omega) _))) ?_; rintro e x3 ⟨v3, rfl, hv3, f3, d3⟩; have D3 := hideIt d3; have F3 := hideIt (show Fr R w x3 from Fr.trans (by repeat with_reducible first | exact F2.out | apply Fr.alloc | apply Fr.drew | refine Fr.setNew ?_ (by (try dsimp only); omega) _) f3); have Z3 : x2.heap.size ≤ x3.heap.size := (by have z := f3.size; (try simp at z); omega); obtain ⟨a3, c3, g3, rfl, cp3, sk3, l3, ok3⟩ := hv3.out; have Lx_3 := hideIt (Ls.mono (B' := x2.heap.size) l3 (by (try simp); try omega) (Nat.le_refl _)); have Kx := hideIt (And.intro cp3 (And.intro sk3 ok3)); clear hv3 l3 cp3 sk3 ok3; have Br_3 := hideIt (Bx.fr (b := w.heap.size) (v := (nk 0)) (s := (.slice none 0 0)) (by repeat first | with_reducible exact Br_2.out | with_reducible apply Bx.alloc | with_reducible refine Bx.set ?_ (by (try dsimp only); omega) _ | with_reducible apply Bx.drew) (by omega) f3); have yr3 := Br_3.out.lt; obtain ⟨r0, r1, r2, r3, r4, r5, r6, r7, r8, r9⟩ := Br_3.out.ten; have rf := Br_3.out.free; clear Br_2; clear C3; clear f3 d3)
       go_wp2_with (fail)
       have ER := HR.out
       subst ER
       refine bodyPost_ret (v := nodeV x.1 (.slice a3 g3.len c3)) (by simp [results, Tryz.results123, go_sem, *]) rfl ⟨(by repeat with_reducible first | exact F3.out | apply Fr.alloc | apply Fr.drew | refine Fr.setNew ?_ (by (try dsimp only); omega) _), _, rfl, ?_, (by repeat with_reducible first | exact D3.out | apply RD.alloc | apply RD.drew | refine RD.setCell ?_ (by (try dsimp only); omega) _)⟩
       exact NV.mk (x := x) (B' := x2.heap.size) (U := x3.heap.size) Kx.out.1 Kx.out.2.1 (by repeat with_reducible first | exact Lx_3.out | apply Ls.alloc | apply Ls.drew | refine Ls.set ?_ (by (try dsimp only); omega) _) (by omega) Kx.out.2.2
     | false =>
      try simp only [Bool.false_eq_true, if_false] at HR
      have C2 := hideIt (fun X (h : RD X R g cap L s1) => try_any [126] (by decide) R g cap L s1 X h)
      (go_at_call_of 64 (Value.string ⟨#[126]⟩); refine Calls.mono (okc h2 (C2.out _ (by repeat with_reducible first | exact D1.out | apply RD.alloc | apply RD.drew | refine RD.setCell ?_ (by (try dsimp only); omega) _))) ?_; rintro e x2 ⟨v2, rfl, rfl, f2, d2⟩; have D2 := hideIt d2; have F2 := hideIt (show Fr R w x2 from Fr.trans (by repeat with_reducible first | exact F1.out | apply Fr.alloc | apply Fr.drew | refine Fr.setNew ?_ (by (try dsimp only); omega) _) f2); have Z2 : x1.heap.size ≤ x2.heap.size := (by have z := f2.size; (try simp at z); omega); have Br_2 := hideIt (Bx.fr (b := w.heap.size) (v := (nk 0)) (s := (.slice none 0 0)) (by repeat first | with_reducible exact Br_1.out | with_reducible apply Bx.alloc | with_reducible refine Bx.set ?_ (by (try dsimp only); omega) _ | with_reducible apply Bx.drew) (by omega) f2); have yr2 := Br_2.out.lt; clear Br_1; clear C2; clear f2 d2)
      go_wp2_with (fail)
      cases h3 : tryM [33] s2 with
      | out => rw [h3] at HR; exact absurd HR.out.symm HN.out
      | bad k p =>
       rw [h3] at HR
       have C3 := hideIt (fun X (h : RD X R g cap L s2) => try_any [33] (by decide) R g cap L s2 X h)
       (go_at_call_of 64 (Value.string ⟨#[33]⟩); refine Calls.mono (badc h3 (C3.out _ (by repeat with_reducible first | exact D2.out | apply RD.alloc | apply RD.drew | refine RD.setCell ?_ (by (try dsimp only); omega) _))) ?_; rintro e x3 ⟨rfl, f3⟩; have F3 := hideIt (show Fr R w x3 from Fr.trans (by repeat with_reducible first | exact F2.out | apply Fr.alloc | apply Fr.drew | refine Fr.setNew ?_ (by (try dsimp only); omega) _) f3); clear f3)
       have ER : Rs.bad k p = r := HR.out
       subst ER
       exact ⟨rfl, F3.out, rfl⟩
      | ok b3 s3 =>
       rw [h3] at HR
       try simp only [bnd_ok] at HR
       cases b3 with
       | true =>
        try simp only [if_true] at HR
        have C3 := hideIt (fun X (h : RD X R g cap L s2) => try_any [33] (by decide) R g cap L s2 X h)
        (go_at_call_of 64 (Value.string ⟨#[33]⟩); refine Calls.mono (okc h3 (C3.out _ (by repeat with_reducible first | exact D2.out | apply RD.alloc | apply RD.drew | refine RD.setCell ?_ (by (try dsimp only); omega) _))) ?_; rintro e x3 ⟨v3, rfl, rfl, f3, d3⟩; have D3 := hideIt d3; have F3 := hideIt (show Fr R w x3 from Fr.trans (by repeat with_reducible first | exact F2.out | apply Fr.alloc | apply Fr.drew | refine Fr.setNew ?_ (by (try dsimp only); omega) _) f3); have Z3 : x2.heap.size ≤ x3.heap.size := (by have z := f3.size; (try simp at z); omega); have Br_3 := hideIt (Bx.fr (b := w.heap.size) (v := (nk 0)) (s := (.slice none 0 0)) (by repeat first | with_reducible exact Br_2.out | with_reducible apply Bx.alloc | with_reducible refine Bx.set ?_ (by (try dsimp only); omega) _ | with_reducible apply Bx.drew) (by omega) f3); have yr3 := Br_3.out.lt; clear Br_2; clear C3; clear f3 d3)
        go_wp2_with (fail)
        cases h4 : rd n (.prefixed ⟨20, 3, 0, 0, 0, 0, 0, ⟨#[]⟩, ⟨#[]⟩⟩) s3 with
        | out => rw [h4] at HR; exact absurd HR.out.symm HN.out
        | bad k p =>
         rw [h4] at HR
         have C4 := hideIt (fun X (h : RD X R g cap L s3) => (HP ⟨20, 3, 0, 0, 0, 0, 0, ⟨#[]⟩, ⟨#[]⟩⟩ (by refine nf_ok ?_ ?_ ?_ ?_ ?_ ?_ ?_ ?_ ?_ <;> first | omega | decide | (rw [bs_size]; omega) | exact Nat.zero_le _) s3 (by rw [h4]; exact fun e => by cases e)) X h)
         (go_at_call 126; refine Calls.mono (badc h4 (C4.out _ (by repeat with_reducible first | exact D3.out | apply RD.alloc | apply RD.drew | refine RD.setCell ?_ (by (try dsimp only); omega) _))) ?_; rintro e x4 ⟨rfl, f4⟩; have F4 := hideIt (show Fr R w x4 from Fr.trans (by repeat with_reducible first | exact F3.out | apply Fr.alloc | apply Fr.drew | refine Fr.setNew ?_ (by (try dsimp only); omega) _) f4); clear f4)
         have ER : Rs.bad k p = r := HR.out
         subst ER
         exact ⟨rfl, F4.out, rfl⟩
        | ok x s4 =>
         rw [h4] at HR
         try simp only [bnd_ok] at HR
         have C4 := hideIt (fun X (h : RD X R g cap L s3) => (HP ⟨20, 3, 0, 0, 0, 0, 0, ⟨#[]⟩, ⟨#[]⟩⟩ (by refine nf_ok ?_ ?_ ?_ ?_ ?_ ?_ ?_ ?_ ?_ <;> first | omega | decide | (rw [bs_size]; omega) | exact Nat.zero_le _) s3 (by rw [h4]; exact fun e => by cases e)) X h)
         (go_at_call 126; refine Calls.mono (okc h4 (C4.out _ (by repeat with_reducible first | exact D3.out | apply RD.alloc | apply RD.drew | refine RD.setCell ?_ (by (try dsimp only); omega) _))) ?_; rintro e x4 ⟨v4, rfl, hv4, f4, d4⟩; have D4 := hideIt d4; have F4 := hideIt (show Fr R w x4 from Fr.trans (by repeat with_reducible first | exact F3.out | apply Fr.alloc | apply Fr.drew | refine Fr.setNew ?_ (by (try dsimp only); omega) _) f4); have Z4 : x3.heap.size ≤ x4.heap.size := (by have z := f4.size; (try simp at z); omega); obtain ⟨a4, c4, g4, rfl, cp4, sk4, l4, ok4⟩ := hv4.out; have Lx_4 := hideIt (Ls.mono (B' := x3.heap.size) l4 (by (try simp); try omega) (Nat.le_refl _)); have Kx := hideIt (And.intro cp4 (And.intro sk4 ok4)); clear hv4 l4 cp4 sk4 ok4; have Br_4 := hideIt (Bx.fr (b := w.heap.size) (v := (nk 0)) (s := (.slice none 0 0)) (by repeat first | with_reducible exact Br_3.out | with_reducible apply Bx.alloc | with_reducible refine Bx.set ?_ (by (try dsimp only); omega) _ | with_reducible apply Bx.drew) (by omega) f4); have yr4 := Br_4.out.lt; obtain ⟨r0, r1, r2, r3, r4, r5, r6, r7, r8, r9⟩ := Br_4.out.ten; have rf := Br_4.out.free; clear Br_3; clear C4; clear f4 d4)
         go_wp2_with (fail)
         have ER := HR.out
         subst ER
         refine bodyPost_ret (v := nodeV x.1 (.slice a4 g4.len c4)) (by simp [results, Tryz.results123, go_sem, *]) rfl ⟨(by repeat with_reducible first | exact F4.out | apply Fr.alloc | apply Fr.drew | refine Fr.setNew ?_ (by (try dsimp only); omega) _), _, rfl, ?_, (by repeat with_reducible first | exact D4.out | apply RD.alloc | apply RD.drew | refine RD.setCell ?_ (by (try dsimp only); omega) _)⟩
         exact NV.mk (x := x) (B' := x3.heap.size) (U := x4.heap.size) Kx.out.1 Kx.out.2.1 (by repeat with_reducible first | exact Lx_4.out | apply Ls.alloc | apply Ls.drew | refine Ls.set ?_ (by (try dsimp only); omega) _) (by omega) Kx.out.2.2
       | false =>
        try simp only [Bool.false_eq_true, if_false] at HR
        have C3 := hideIt (fun X (h : RD X R g cap L s2) => try_any [33] (by decide) R g cap L s2 X h)
        (go_at_call_of 64 (Value.string ⟨#[33]⟩); refine Calls.mono (okc h3 (C3.out _ (by repeat with_reducible first | exact D2.out | apply RD.alloc | apply RD.drew | refine RD.setCell ?_ (by (try dsimp only); omega) _))) ?_; rintro e x3 ⟨v3, rfl, rfl, f3, d3⟩; have D3 := hideIt d3; have F3 := hideIt (show Fr R w x3 from Fr.trans (by repeat with_reducible first | exact F2.out | apply Fr.alloc | apply Fr.drew | refine Fr.setNew ?_ (by (try dsimp only); omega) _) f3); have Z3 : x2.heap.size ≤ x3.heap.size := (by have z := f3.size; (try simp at z); omega); have Br_3 := hideIt (Bx.fr (b := w.heap.size) (v := (nk 0)) (s := (.slice none 0 0)) (by repeat first | with_reducible exact Br_2.out | with_reducible apply Bx.alloc | with_reducible refine Bx.set ?_ (by (try dsimp only); omega) _ | with_reducible apply Bx.drew) (by omega) f3); have yr3 := Br_3.out.lt; clear Br_2; clear C3; clear f3 d3)
        go_wp2_with (fail)
        cases h4 : tryM [40] s3 with
        | out => rw [h4] at HR; exact absurd HR.out.symm HN.out
        | bad k p =>
         rw [h4] at HR
         have C4 := hideIt (fun X (h : RD X R g cap L s3) => try_any [40] (by decide) R g cap L s3 X h)
         (go_at_call_of 64 (Value.string ⟨#[40]⟩); refine Calls.mono (badc h4 (C4.out _ (by repeat with_reducible first | exact D3.out | apply RD.alloc | apply RD.drew | refine RD.setCell ?_ (by (try dsimp only); omega) _))) ?_; rintro e x4 ⟨rfl, f4⟩; have F4 := hideIt (show Fr R w x4 from Fr.trans (by repeat with_reducible first | exact F3.out | apply Fr.alloc | apply Fr.drew | refine Fr.setNew ?_ (by (try dsimp only); omega) _) f4); clear f4)
         have ER : Rs.bad k p = r := HR.out
         subst ER
         exact ⟨rfl, F4.out, rfl⟩
        | ok b4 s4 =>
         rw [h4] at HR
         try simp only [bnd_ok] at HR
         cases b4 with
         | true =>
          try simp only [if_true] at HR
          have C4 := hideIt (fun X (h : RD X R g cap L s3) => try_any [40] (by decide) R g cap L s3 X h)
          (go_at_call_of 64 (Value.string ⟨#[40]⟩); refine Calls.mono (okc h4 (C4.out _ (by repeat with_reducible first | exact D3.out | apply RD.alloc | apply RD.drew | refine RD.setCell ?_ (by (try dsimp only); omega) _))) ?_; rintro e x4 ⟨v4, rfl, rfl, f4, d4⟩; have D4 := hideIt d4; have F4 := hideIt (show Fr R w x4 from Fr.trans (by repeat with_reducible first | exact F3.out | apply Fr.alloc | apply Fr.drew | refine Fr.setNew ?_ (by (try dsimp only); omega) _) f4); have Z4 : x3.heap.size ≤ x4.heap.size := (by have z := f4.size; (try simp at z); omega); have Br_4 := hideIt (Bx.fr (b := w.heap.size) (v := (nk 0)) (s := (.slice none 0 0)) (by repeat first | with_reducible exact Br_3.out | with_reducible apply Bx.alloc | with_reducible refine Bx.set ?_ (by (try dsimp only); omega) _ | with_reducible apply Bx.drew) (by omega) f4); have yr4 := Br_4.out.lt; clear Br_3; clear C4; clear f4 d4)
          go_wp2_with (fail)
          cases h5 : rd n .opened s4 with
          | out => rw [h5] at HR; exact absurd HR.out.symm HN.out
          | bad k p =>
           rw [h5] at HR
           have C5 := hideIt (fun X (h : RD X R g cap L s4) => (HO s4 (by rw [h5]; exact fun e => by cases e)) X h)
           (go_at_call 127; refine Calls.mono (badc h5 (C5.out _ (by repeat with_reducible first | exact D4.out | apply RD.alloc | apply RD.drew | refine RD.setCell ?_ (by (try dsimp only); omega) _))) ?_; rintro e x5 ⟨rfl, f5⟩; have F5 := hideIt (show Fr R w x5 from Fr.trans (by repeat with_reducible first | exact F4.out | apply Fr.alloc | apply Fr.drew | refine Fr.setNew ?_ (by (try dsimp only); omega) _) f5); clear f5)
           have ER : Rs.bad k p = r := HR.out
           subst ER
           exact ⟨rfl, F5.out, rfl⟩
          | ok x s5 =>
           rw [h5] at HR
           try simp only [bnd_ok] at HR
           have C5 := hideIt (fun X (h : RD X R g cap L s4) => (HO s4 (by rw [h5]; exact fun e => by cases e)) X h)
           (go_at_call 127; refine Calls.mono (okc h5 (C5.out _ (by repeat with_reducible first | exact D4.out | apply RD.alloc | apply RD.drew | refine RD.setCell ?_ (by (try dsimp only); omega) _))) ?_; rintro e x5 ⟨v5, rfl, hv5, f5, d5⟩; have D5 := hideIt d5; have F5 := hideIt (show Fr R w x5 from Fr.trans (by repeat with_reducible first | exact F4.out | apply Fr.alloc | apply Fr.drew | refine Fr.setNew ?_ (by (try dsimp only); omega) _) f5); have Z5 : x4.heap.size ≤ x5.heap.size := (by have z := f5.size; (try simp at z); omega); obtain ⟨a5, c5, g5, rfl, cp5, sk5, l5, ok5⟩ := hv5.out; have Lx_5 := hideIt (Ls.mono (B' := x4.heap.size) l5 (by (try simp); try omega) (Nat.le_refl _)); have Kx := hideIt (And.intro cp5 (And.intro sk5 ok5)); clear hv5 l5 cp5 sk5 ok5; have Br_5 := hideIt (Bx.fr (b := w.heap.size) (v := (nk 0)) (s := (.slice none 0 0)) (by repeat first | with_reducible exact Br_4.out | with_reducible apply Bx.alloc | with_reducible refine Bx.set ?_ (by (try dsimp only); omega) _ | with_reducible apply Bx.drew) (by omega) f5); have yr5 := Br_5.out.lt; obtain ⟨r0, r1, r2, r3, r4, r5, r6, r7, r8, r9⟩ := Br_5.out.ten; have rf := Br_5.out.free; clear Br_4; clear C5; clear f5 d5)
           go_wp2_with (fail)
           have ER := HR.out
           subst ER
           refine bodyPost_ret (v := nodeV x.1 (.slice a5 g5.len c5)) (by simp [results, Tryz.results123, go_sem, *]) rfl ⟨(by repeat with_reducible first | exact F5.out | apply Fr.alloc | apply Fr.drew | refine Fr.setNew ?_ (by (try dsimp only); omega) _), _, rfl, ?_, (by repeat with_reducible first | exact D5.out | apply RD.alloc | apply RD.drew | refine RD.setCell ?_ (by (try dsimp only); omega) _)⟩
           exact NV.mk (x := x) (B' := x4.heap.size) (U := x5.heap.size) Kx.out.1 Kx.out.2.1 (by repeat with_reducible first | exact Lx_5.out | apply Ls.alloc | apply Ls.drew | refine Ls.set ?_ (by (try dsimp only); omega) _) (by omega) Kx.out.2.2
         | false =>
          try simp only [Bool.false_eq_true, if_false] at HR
          have C4 := hideIt (fun X (h : RD X R g cap L s3) => try_any [40] (by decide) R g cap L s3 X h)
          (go_at_call_of 64 (Value.string ⟨#[40]⟩); refine Calls.mono (okc h4 (C4.out _ (by repeat with_reducible first | exact D3.out | apply RD.alloc | apply RD.drew | refine RD.setCell ?_ (by (try dsimp only); omega) _))) ?_; rintro e x4 ⟨v4, rfl, rfl, f4, d4⟩; have D4 := hideIt d4; have F4 := hideIt (show Fr R w x4 from Fr.trans (by repeat with_reducible first | exact F3.out | apply Fr.alloc | apply Fr.drew | refine Fr.setNew ?_ (by (try dsimp only); omega) _) f4); have Z4 : x3.heap.size ≤ x4.heap.size := (by have z := f4.size; (try simp at z); omega); have Br_4 := hideIt (Bx.fr (b := w.heap.size) (v := (nk 0)) (s := (.slice none 0 0)) (by repeat first | with_reducible exact Br_3.out | with_reducible apply Bx.alloc | with_reducible refine Bx.set ?_ (by (try dsimp only); omega) _ | with_reducible apply Bx.drew) (by omega) f4); have yr4 := Br_4.out.lt; clear Br_3; clear C4; clear f4 d4)
          go_wp2_with (fail)
          by_cases h5 : (hd s4).1.kind = 3
          · rw [if_pos h5] at HR
            have C5 := hideIt (fun X (h : RD X R g cap L s4) => here_any R g cap L s4 X h)
            (go_at_call 32; refine Calls.mono (C5.out _ (by repeat with_reducible first | exact D4.out | apply RD.alloc | apply RD.drew | refine RD.setCell ?_ (by (try dsimp only); omega) _)) ?_; rintro e x5 ⟨rfl, q5⟩; have f5 := Fr.of_q (R := R) q5; have D5 := hideIt (show RD x5 R g cap L s4 from RD.q (by repeat with_reducible first | exact D4.out | apply RD.alloc | apply RD.drew | refine RD.setCell ?_ (by (try dsimp only); omega) _) q5); have F5 := hideIt (show Fr R w x5 from Fr.trans (by repeat with_reducible first | exact F4.out | apply Fr.alloc | apply Fr.drew | refine Fr.setNew ?_ (by (try dsimp only); omega) _) f5); have Z5 : x4.heap.size ≤ x5.heap.size := (by have z := f5.size; (try simp at z); omega); have Br_5 := hideIt (Bx.fr (b := w.heap.size) (v := (nk 0)) (s := (.slice none 0 0)) (by repeat first | with_reducible exact Br_4.out | with_reducible apply Bx.alloc | with_reducible refine Bx.set ?_ (by (try dsimp only); omega) _ | with_reducible apply Bx.drew) (by omega) f5); have yr5 := Br_5.out.lt; clear Br_4; clear C5; clear f5 q5)
            go_wp2_with (fail)
            cases h6 : rd n .literal s4 with
            | out => rw [h6] at HR; exact absurd HR.out.symm HN.out
            | bad k p =>
             rw [h6] at HR
             have C6 := hideIt (fun X (h : RD X R g cap L s4) => (HL s4 (by rw [h6]; exact fun e => by cases e)) X h)
             (go_at_call 73; refine Calls.mono (badc h6 (C6.out _ (by repeat with_reducible first | exact D5.out | apply RD.alloc | apply RD.drew | refine RD.setCell ?_ (by (try dsimp only); omega) _))) ?_; rintro e x6 ⟨rfl, f6⟩; have F6 := hideIt (show Fr R w x6 from Fr.trans (by repeat with_reducible first | exact F5.out | apply Fr.alloc | apply Fr.drew | refine Fr.setNew ?_ (by (try dsimp only); omega) _) f6); clear f6)
             have ER : Rs.bad k p = r := HR.out
             subst ER
             exact ⟨rfl, F6.out, rfl⟩
            | ok x s6 =>
             rw [h6] at HR
             try simp only [bnd_ok] at HR
             have C6 := hideIt (fun X (h : RD X R g cap L s4) => (HL s4 (by rw [h6]; exact fun e => by cases e)) X h)
             (go_at_call 73; refine Calls.mono (okc h6 (C6.out _ (by repeat with_reducible first | exact D5.out | apply RD.alloc | apply RD.drew | refine RD.setCell ?_ (by (try dsimp only); omega) _))) ?_; rintro e x6 ⟨v6, rfl, hv6, f6, d6⟩; have D6 := hideIt d6; have F6 := hideIt (show Fr R w x6 from Fr.trans (by repeat with_reducible first | exact F5.out | apply Fr.alloc | apply Fr.drew | refine Fr.setNew ?_ (by (try dsimp only); omega) _) f6); have Z6 : x5.heap.size ≤ x6.heap.size := (by have z := f6.size; (try simp at z); omega); obtain ⟨a6, c6, g6, rfl, cp6, sk6, l6, ok6⟩ := hv6.out; have Lx_6 := hideIt (Ls.mono (B' := x5.heap.size) l6 (by (try simp); try omega) (Nat.le_refl _)); have Kx := hideIt (And.intro cp6 (And.intro sk6 ok6)); clear hv6 l6 cp6 sk6 ok6; have Br_6 := hideIt (Bx.fr (b := w.heap.size) (v := (nk 0)) (s := (.slice none 0 0)) (by repeat first | with_reducible exact Br_5.out | with_reducible apply Bx.alloc | with_reducible refine Bx.set ?_ (by (try dsimp only); omega) _ | with_reducible apply Bx.drew) (by omega) f6); have yr6 := Br_6.out.lt; obtain ⟨r0, r1, r2, r3, r4, r5, r6, r7, r8, r9⟩ := Br_6.out.ten; have rf := Br_6.out.free; clear Br_5; clear C6; clear f6 d6)
             go_wp2_with (fail)
             have ER := HR.out
             subst ER
             refine bodyPost_ret (v := nodeV x.1 (.slice a6 g6.len c6)) (by simp [results, Tryz.results123, go_sem, *]) rfl ⟨(by repeat with_reducible first | exact F6.out | apply Fr.alloc | apply Fr.drew | refine Fr.setNew ?_ (by (try dsimp only); omega) _), _, rfl, ?_, (by repeat with_reducible first | exact D6.out | apply RD.alloc | apply RD.drew | refine RD.setCell ?_ (by (try dsimp only); omega) _)⟩
             exact NV.mk (x := x) (B' := x5.heap.size) (U := x6.heap.size) Kx.out.1 Kx.out.2.1 (by repeat with_reducible first | exact Lx_6.out | apply Ls.alloc | apply Ls.drew | refine Ls.set ?_ (by (try dsimp only); omega) _) (by omega) Kx.out.2.2
          · rw [if_neg h5] at HR
            have C5 := hideIt (fun X (h : RD X R g cap L s4) => here_any R g cap L s4 X h)
            (go_at_call 32; refine Calls.mono (C5.out _ (by repeat with_reducible first | exact D4.out | apply RD.alloc | apply RD.drew | refine RD.setCell ?_ (by (try dsimp only); omega) _)) ?_; rintro e x5 ⟨rfl, q5⟩; have f5 := Fr.of_q (R := R) q5; have D5 := hideIt (show RD x5 R g cap L s4 from RD.q (by repeat with_reducible first | exact D4.out | apply RD.alloc | apply RD.drew | refine RD.setCell ?_ (by (try dsimp only); omega) _) q5); have F5 := hideIt (show Fr R w x5 from Fr.trans (by repeat with_reducible first | exact F4.out | apply Fr.alloc | apply Fr.drew | refine Fr.setNew ?_ (by (try dsimp only); omega) _) f5); have Z5 : x4.heap.size ≤ x5.heap.size := (by have z := f5.size; (try simp at z); omega); have Br_5 := hideIt (Bx.fr (b := w.heap.size) (v := (nk 0)) (s := (.slice none 0 0)) (by repeat first | with_reducible exact Br_4.out | with_reducible apply Bx.alloc | with_reducible refine Bx.set ?_ (by (try dsimp only); omega) _ | with_reducible apply Bx.drew) (by omega) f5); have yr5 := Br_5.out.lt; clear Br_4; clear C5; clear f5 q5)
            go_wp2_with (fail)
            cases h6 : rd n .lvalue s4 with
            | out => rw [h6] at HR; exact absurd HR.out.symm HN.out
            | bad k p =>
             rw [h6] at HR
             have C6 := hideIt (fun X (h : RD X R g cap L s4) => (HV s4 (by rw [h6]; exact fun e => by cases e)) X h)
             (go_at_call 122; refine Calls.mono (badc h6 (C6.out _ (by repeat with_reducible first | exact D5.out | apply RD.alloc | apply RD.drew | refine RD.setCell ?_ (by (try dsimp only); omega) _))) ?_; rintro e x6 ⟨rfl, f6⟩; have F6 := hideIt (show Fr R w x6 from Fr.trans (by repeat with_reducible first | exact F5.out | apply Fr.alloc | apply Fr.drew | refine Fr.setNew ?_ (by (try dsimp only); omega) _) f6); clear f6)
             have ER : Rs.bad k p = r := HR.out
             subst ER
             exact ⟨rfl, F6.out, rfl⟩
            | ok x s6 =>
             rw [h6] at HR
             try simp only [bnd_ok] at HR
             have C6 := hideIt (fun X (h : RD X R g cap L s4) => (HV s4 (by rw [h6]; exact fun e => by cases e)) X h)
             (go_at_call 122; refine Calls.mono (okc h6 (C6.out _ (by repeat with_reducible first | exact D5.out | apply RD.alloc | apply RD.drew | refine RD.setCell ?_ (by (try dsimp only); omega) _))) ?_; rintro e x6 ⟨v6, rfl, hv6, f6, d6⟩; have D6 := hideIt d6; have F6 := hideIt (show Fr R w x6 from Fr.trans (by repeat with_reducible first | exact F5.out | apply Fr.alloc | apply Fr.drew | refine Fr.setNew ?_ (by (try dsimp only); omega) _) f6); have Z6 : x5.heap.size ≤ x6.heap.size := (by have z := f6.size; (try simp at z); omega); obtain ⟨a6, c6, g6, rfl, cp6, sk6, l6, ok6⟩ := hv6.out; have Lx_6 := hideIt (Ls.mono (B' := x5.heap.size) l6 (by (try simp); try omega) (Nat.le_refl _)); have Kx := hideIt (And.intro cp6 (And.intro sk6 ok6)); clear hv6 l6 cp6 sk6 ok6; have Br_6 := hideIt (Bx.fr (b := w.heap.size) (v := (nk 0)) (s := (.slice none 0 0)) (by repeat first | with_reducible exact Br_5.out | with_reducible apply Bx.alloc | with_reducible refine Bx.set ?_ (by (try dsimp only); omega) _ | with_reducible apply Bx.drew) (by omega) f6); have yr6 := Br_6.out.lt; obtain ⟨r0, r1, r2, r3, r4, r5, r6, r7, r8, r9⟩ := Br_6.out.ten; have rf := Br_6.out.free; clear Br_5; clear C6; clear f6 d6)
             go_wp2_with (fail)
             have ER := HR.out
             subst ER
             refine bodyPost_ret (v := nodeV x.1 (.slice a6 g6.len c6)) (by simp [results, Tryz.results123, go_sem, *]) rfl ⟨(by repeat with_reducible first | exact F6.out | apply Fr.alloc | apply Fr.drew | refine Fr.setNew ?_ (by (try dsimp only); omega) _), _, rfl, ?_, (by repeat with_reducible first | exact D6.out | apply RD.alloc | apply RD.drew | refine RD.setCell ?_ (by (try dsimp only); omega) _)⟩
             exact NV.mk (x := x) (B' := x5.heap.size) (U := x6.heap.size) Kx.out.1 Kx.out.2.1 (by repeat with_reducible first | exact Lx_6.out | apply Ls.alloc | apply Ls.drew | refine Ls.set ?_ (by (try dsimp only); omega) _) (by omega) Kx.out.2.2

end Go.Proofs.YtoilhcklflmamaaGreatDoor
