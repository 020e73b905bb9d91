/-
  An expression: contracts over the program; the conditions: the reader lies in memory as it should, and what is called keeps its own contract.
-/
import Derived.Test.YtoilhcklflmamaaGreatDoorKPrG
namespace Go.Proofs.YtoilhcklflmamaaGreatDoor
open Go.RowKit
open Pr
set_option linter.unusedVariables false

set_option maxRecDepth 100000 in
set_option maxHeartbeats 4000000 in
theorem expression_rd (R g cap : Nat) (L : List Tok) (n : Nat) (HBI : ∀ s, rd n (.binary 1) s ≠ .out → Rule 119 #[.int .i64 1] R g cap L s (rd n (.binary 1) s)) (HE : ∀ s, rd n .expression s ≠ .out → Rule 114 #[] R g cap L s (rd n .expression s)) (s : St) (hno : rd (n + 1) .expression s ≠ .out) :
    Rule 114 #[] R g cap L s (rd (n + 1) .expression s) := by
  intro w h
  have e : rd (n + 1) .expression s = (rd n (.binary 1) s).bnd fun x s => (tryM [63] s).bnd fun b s => if b then (nodeM s).bnd fun _ s => (rd n .expression s).bnd fun y s => (needM [58] s).bnd fun _ s => (rd n .expression s).bnd fun z s => .ok (nk 23, ((one x).app (one y)).app (one z)) s else .ok x s := rfl
  rw [e] at hno ⊢
  clear e
  have HD := hideIt h
  have hR := h.b.lt_size
  clear h
  obtain ⟨r, hr⟩ : ∃ r, ((rd n (.binary 1) s).bnd fun x s => (tryM [63] s).bnd fun b s => if b then (nodeM s).bnd fun _ s => (rd n .expression s).bnd fun y s => (needM [58] s).bnd fun _ s => (rd n .expression s).bnd fun z s => .ok (nk 23, ((one x).app (one y)).app (one z)) s else .ok x s : Rs Nd) = r := ⟨_, rfl⟩
  rw [hr] at hno ⊢
  have HR := hideIt hr
  have HN := hideIt hno
  clear hr hno
  go_enter Tryz.func114, Tryz.ntmps114
  go_wp2_with (fail)
  cases h1 : rd n (.binary 1) s with
  | out => rw [h1] at HR; exact absurd HR.out.symm HN.out
  | bad k p =>
   rw [h1] at HR
   have C1 := hideIt (fun X (h : RD X R g cap L s) => (HBI s (by rw [h1]; exact fun e => by cases e)) X h)
   (go_at_call 119; refine Calls.mono (badc h1 (C1.out _ (by repeat with_reducible first | exact HD.out | apply RD.alloc | apply RD.drew | refine RD.setCell ?_ (by (try dsimp only); omega) _))) ?_; rintro e x1 ⟨rfl, f1⟩; have F1 := hideIt (show Fr R w x1 from Fr.trans (by repeat with_reducible first | exact (Fr.refl R w) | apply Fr.alloc | apply Fr.drew | refine Fr.setNew ?_ (by (try dsimp only); omega) _) f1); clear f1)
   have ER : Rs.bad k p = r := HR.out
   subst ER
   exact ⟨rfl, F1.out, rfl⟩
  | ok x s1 =>
   rw [h1] at HR
   try simp only [bnd_ok] at HR
   have C1 := hideIt (fun X (h : RD X R g cap L s) => (HBI s (by rw [h1]; exact fun e => by cases e)) X h)
   (go_at_call 119; refine Calls.mono (okc h1 (C1.out _ (by repeat with_reducible first | exact HD.out | apply RD.alloc | apply RD.drew | refine RD.setCell ?_ (by (try dsimp only); omega) _))) ?_; rintro e x1 ⟨v1, rfl, hv1, f1, d1⟩; have D1 := hideIt d1; have F1 := hideIt (show Fr R w x1 from Fr.trans (by repeat with_reducible first | exact (Fr.refl R w) | apply Fr.alloc | apply Fr.drew | refine Fr.setNew ?_ (by (try dsimp only); omega) _) f1); have Z1 : w.heap.size + 1 ≤ x1.heap.size := (by have z := f1.size; (try simp at z); omega); obtain ⟨a1, c1, g1, rfl, cp1, sk1, l1, ok1⟩ := hv1.out; have Lx_1 := hideIt (Ls.mono (B' := w.heap.size + 1) l1 (by (try simp); try omega) (Nat.le_refl _)); have Kx := hideIt (And.intro cp1 (And.intro sk1 ok1)); clear hv1 l1 cp1 sk1 ok1; have Br_1 := hideIt (Bx.fr (b := w.heap.size) (v := (nk 0)) (s := (.slice none 0 0)) (by repeat first | refine Bx.newAt _ (nk 0) (.slice none 0 0) (by simp; done) | with_reducible apply Bx.alloc | with_reducible refine Bx.set ?_ (by (try dsimp only); omega) _ | with_reducible apply Bx.drew) (by omega) f1); have yr1 := Br_1.out.lt; clear C1; clear f1 d1)
   go_wp2_with (fail)
   cases h2 : tryM [63] s1 with
   | out => rw [h2] at HR; exact absurd HR.out.symm HN.out
   | bad k p =>
    rw [h2] at HR
    have C2 := hideIt (fun X (h : RD X R g cap L s1) => try_any [63] (by decide) R g cap L s1 X h)
    (go_at_call_of 64 (Value.string ⟨#[63]⟩); refine Calls.mono (badc h2 (C2.out _ (by repeat with_reducible first | exact D1.out | apply RD.alloc | apply RD.drew | refine RD.setCell ?_ (by (try dsimp only); omega) _))) ?_; rintro e x2 ⟨rfl, f2⟩; have F2 := hideIt (show Fr R w x2 from Fr.trans (by repeat with_reducible first | exact F1.out | apply Fr.alloc | apply Fr.drew | refine Fr.setNew ?_ (by (try dsimp only); omega) _) f2); clear f2)
    have ER : Rs.bad k p = r := HR.out
    subst ER
    exact ⟨rfl, F2.out, rfl⟩
   | ok b2 s2 =>
    rw [h2] at HR
    try simp only [bnd_ok] at HR
    cases b2 with
    | true =>
     try simp only [if_true] at HR
     have C2 := hideIt (fun X (h : RD X R g cap L s1) => try_any [63] (by decide) R g cap L s1 X h)
     (go_at_call_of 64 (Value.string ⟨#[63]⟩); refine Calls.mono (okc h2 (C2.out _ (by repeat with_reducible first | exact D1.out | apply RD.alloc | apply RD.drew | refine RD.setCell ?_ (by (try dsimp only); omega) _))) ?_; rintro e x2 ⟨v2, rfl, rfl, f2, d2⟩; have D2 := hideIt d2; have F2 := hideIt (show Fr R w x2 from Fr.trans (by repeat with_reducible first | exact F1.out | apply Fr.alloc | apply Fr.drew | refine Fr.setNew ?_ (by (try dsimp only); omega) _) f2); have Z2 : x1.heap.size + 1 ≤ x2.heap.size := (by have z := f2.size; (try simp at z); omega); have Lx_2 := hideIt (Ls.fr (B := w.heap.size + 1) (U := x1.heap.size) (a := a1) (f := g1) (by repeat with_reducible first | exact Lx_1.out | apply Ls.alloc | apply Ls.drew | refine Ls.set ?_ (by (try dsimp only); omega) _) (by omega) f2); have Br_2 := hideIt (Bx.fr (b := w.heap.size) (v := (nk 0)) (s := (.slice none 0 0)) (by repeat first | with_reducible exact Br_1.out | with_reducible apply Bx.alloc | with_reducible refine Bx.set ?_ (by (try dsimp only); omega) _ | with_reducible apply Bx.drew) (by omega) f2); have yr2 := Br_2.out.lt; have Bl_2 := hideIt (Bx.fr (b := x1.heap.size) (v := x.1) (s := (.slice a1 g1.len c1)) (by repeat first | refine Bx.newAt _ x.1 (.slice a1 g1.len c1) (by simp; done) | with_reducible apply Bx.alloc | with_reducible refine Bx.set ?_ (by (try dsimp only); omega) _ | with_reducible apply Bx.drew) (by omega) f2); have yl2 := Bl_2.out.lt; obtain ⟨l0, l1, l2, l3, l4, l5, l6, l7, l8, l9⟩ := Bl_2.out.ten; have lf := Bl_2.out.free; clear Lx_1 Br_1; clear C2; clear f2 d2)
     go_wp2_with (fail)
     cases h3 : nodeM s2 with
     | out => rw [h3] at HR; exact absurd HR.out.symm HN.out
     | bad k p =>
      rw [h3] at HR
      have C3 := hideIt (fun X (h : RD X R g cap L s2) => node_rd R g cap L s2 X h (nk 23) none 0 0)
      (go_at_call 31; refine Calls.mono (badc h3 (C3.out _ (by repeat with_reducible first | exact D2.out | apply RD.alloc | apply RD.drew | refine RD.setCell ?_ (by (try dsimp only); omega) _))) ?_; rintro e x3 ⟨rfl, f3⟩; have F3 := hideIt (show Fr R w x3 from Fr.trans (by repeat with_reducible first | exact F2.out | apply Fr.alloc | apply Fr.drew | refine Fr.setNew ?_ (by (try dsimp only); omega) _) f3); clear f3)
      have ER : Rs.bad k p = r := HR.out
      subst ER
      exact ⟨rfl, F3.out, rfl⟩
     | ok u3 s3 =>
      rw [h3] at HR
      try simp only [bnd_ok] at HR
      have C3 := hideIt (fun X (h : RD X R g cap L s2) => node_rd R g cap L s2 X h (nk 23) none 0 0)
      (go_at_call 31; refine Calls.mono (okc h3 (C3.out _ (by repeat with_reducible first | exact D2.out | apply RD.alloc | apply RD.drew | refine RD.setCell ?_ (by (try dsimp only); omega) _))) ?_; rintro e x3 ⟨v3, rfl, rfl, f3, d3⟩; have D3 := hideIt d3; have F3 := hideIt (show Fr R w x3 from Fr.trans (by repeat with_reducible first | exact F2.out | apply Fr.alloc | apply Fr.drew | refine Fr.setNew ?_ (by (try dsimp only); omega) _) f3); have Z3 : x2.heap.size ≤ x3.heap.size := (by have z := f3.size; (try simp at z); omega); have Lx_3 := hideIt (Ls.fr (B := w.heap.size + 1) (U := x1.heap.size) (a := a1) (f := g1) (by repeat with_reducible first | exact Lx_2.out | apply Ls.alloc | apply Ls.drew | refine Ls.set ?_ (by (try dsimp only); omega) _) (by omega) f3); have Br_3 := hideIt (Bx.fr (b := w.heap.size) (v := (nk 0)) (s := (.slice none 0 0)) (by repeat first | with_reducible exact Br_2.out | with_reducible apply Bx.alloc | with_reducible refine Bx.set ?_ (by (try dsimp only); omega) _ | with_reducible apply Bx.drew) (by omega) f3); have yr3 := Br_3.out.lt; have Bl_3 := hideIt (Bx.fr (b := x1.heap.size) (v := x.1) (s := (.slice a1 g1.len c1)) (by repeat first | with_reducible exact Bl_2.out | with_reducible apply Bx.alloc | with_reducible refine Bx.set ?_ (by (try dsimp only); omega) _ | with_reducible apply Bx.drew) (by omega) f3); have yl3 := Bl_3.out.lt; clear l0 l1 l2 l3 l4 l5 l6 l7 l8 l9 lf yl2; obtain ⟨l0, l1, l2, l3, l4, l5, l6, l7, l8, l9⟩ := Bl_3.out.ten; have lf := Bl_3.out.free; clear Lx_2 Br_2 Bl_2; clear C3; clear f3 d3)
      go_wp2_with (fail)
      cases h4 : rd n .expression s3 with
      | out => rw [h4] at HR; exact absurd HR.out.symm HN.out
      | bad k p =>
       rw [h4] at HR
       have C4 := hideIt (fun X (h : RD X R g cap L s3) => (HE s3 (by rw [h4]; exact fun e => by cases e)) X h)
       (go_at_call 114; refine Calls.mono (badc h4 (C4.out _ (by repeat with_reducible first | exact D3.out | apply RD.alloc | apply RD.drew | refine RD.setCell ?_ (by (try dsimp only); omega) _))) ?_; rintro e x4 ⟨rfl, f4⟩; have F4 := hideIt (show Fr R w x4 from Fr.trans (by repeat with_reducible first | exact F3.out | apply Fr.alloc | apply Fr.drew | refine Fr.setNew ?_ (by (try dsimp only); omega) _) f4); clear f4)
       have ER : Rs.bad k p = r := HR.out
       subst ER
       exact ⟨rfl, F4.out, rfl⟩
      | ok y s4 =>
       rw [h4] at HR
       try simp only [bnd_ok] at HR
       have C4 := hideIt (fun X (h : RD X R g cap L s3) => (HE s3 (by rw [h4]; exact fun e => by cases e)) X h)
       (go_at_call 114; refine Calls.mono (okc h4 (C4.out _ (by repeat with_reducible first | exact D3.out | apply RD.alloc | apply RD.drew | refine RD.setCell ?_ (by (try dsimp only); omega) _))) ?_; rintro e x4 ⟨v4, rfl, hv4, f4, d4⟩; have D4 := hideIt d4; have F4 := hideIt (show Fr R w x4 from Fr.trans (by repeat with_reducible first | exact F3.out | apply Fr.alloc | apply Fr.drew | refine Fr.setNew ?_ (by (try dsimp only); omega) _) f4); have Z4 : x3.heap.size + 1 ≤ x4.heap.size := (by have z := f4.size; (try simp at z); omega); obtain ⟨a4, c4, g4, rfl, cp4, sk4, l4, ok4⟩ := hv4.out; have Ly_4 := hideIt (Ls.mono (B' := x3.heap.size + 1) l4 (by (try simp); try omega) (Nat.le_refl _)); have Ky := hideIt (And.intro cp4 (And.intro sk4 ok4)); clear hv4 l4 cp4 sk4 ok4; have Lx_4 := hideIt (Ls.fr (B := w.heap.size + 1) (U := x1.heap.size) (a := a1) (f := g1) (by repeat with_reducible first | exact Lx_3.out | apply Ls.alloc | apply Ls.drew | refine Ls.set ?_ (by (try dsimp only); omega) _) (by omega) f4); have Br_4 := hideIt (Bx.fr (b := w.heap.size) (v := (nk 0)) (s := (.slice none 0 0)) (by repeat first | with_reducible exact Br_3.out | with_reducible apply Bx.alloc | with_reducible refine Bx.set ?_ (by (try dsimp only); omega) _ | with_reducible apply Bx.drew) (by omega) f4); have yr4 := Br_4.out.lt; have Bl_4 := hideIt (Bx.fr (b := x1.heap.size) (v := x.1) (s := (.slice a1 g1.len c1)) (by repeat first | with_reducible exact Bl_3.out | with_reducible apply Bx.alloc | with_reducible refine Bx.set ?_ (by (try dsimp only); omega) _ | with_reducible apply Bx.drew) (by omega) f4); have yl4 := Bl_4.out.lt; have Bn_4 := hideIt (Bx.fr (b := x3.heap.size) (v := (nk 23)) (s := (.slice none 0 0)) (by repeat first | refine Bx.newAt _ (nk 23) (.slice none 0 0) (by simp; done) | with_reducible apply Bx.alloc | with_reducible refine Bx.set ?_ (by (try dsimp only); omega) _ | with_reducible apply Bx.drew) (by omega) f4); have yn4 := Bn_4.out.lt; clear l0 l1 l2 l3 l4 l5 l6 l7 l8 l9 lf yl3; obtain ⟨l0, l1, l2, l3, l4, l5, l6, l7, l8, l9⟩ := Bl_4.out.ten; have lf := Bl_4.out.free; obtain ⟨n0, n1, n2, n3, n4, n5, n6, n7, n8, n9⟩ := Bn_4.out.ten; have nf := Bn_4.out.free; clear Lx_3 Br_3 Bl_3; clear C4; clear f4 d4)
       go_wp2_with (fail)
       cases h5 : needM [58] s4 with
       | out => rw [h5] at HR; exact absurd HR.out.symm HN.out
       | bad k p =>
        rw [h5] at HR
        have C5 := hideIt (fun X (h : RD X R g cap L s4) => need_any [58] (by decide) R g cap L s4 X h)
        (go_at_call_of 91 (Value.string ⟨#[58]⟩); refine Calls.mono (badc h5 (C5.out _ (by repeat with_reducible first | exact D4.out | apply RD.alloc | apply RD.drew | refine RD.setCell ?_ (by (try dsimp only); omega) _))) ?_; rintro e x5 ⟨rfl, f5⟩; have F5 := hideIt (show Fr R w x5 from Fr.trans (by repeat with_reducible first | exact F4.out | apply Fr.alloc | apply Fr.drew | refine Fr.setNew ?_ (by (try dsimp only); omega) _) f5); clear f5)
        have ER : Rs.bad k p = r := HR.out
        subst ER
        exact ⟨rfl, F5.out, rfl⟩
       | ok u5 s5 =>
        rw [h5] at HR
        try simp only [bnd_ok] at HR
        have C5 := hideIt (fun X (h : RD X R g cap L s4) => need_any [58] (by decide) R g cap L s4 X h)
        (go_at_call_of 91 (Value.string ⟨#[58]⟩); refine Calls.mono (okc h5 (C5.out _ (by repeat with_reducible first | exact D4.out | apply RD.alloc | apply RD.drew | refine RD.setCell ?_ (by (try dsimp only); omega) _))) ?_; rintro e x5 ⟨v5, rfl, rfl, f5, d5⟩; have D5 := hideIt d5; have F5 := hideIt (show Fr R w x5 from Fr.trans (by repeat with_reducible first | exact F4.out | apply Fr.alloc | apply Fr.drew | refine Fr.setNew ?_ (by (try dsimp only); omega) _) f5); have Z5 : x4.heap.size + 1 ≤ x5.heap.size := (by have z := f5.size; (try simp at z); omega); have Lx_5 := hideIt (Ls.fr (B := w.heap.size + 1) (U := x1.heap.size) (a := a1) (f := g1) (by repeat with_reducible first | exact Lx_4.out | apply Ls.alloc | apply Ls.drew | refine Ls.set ?_ (by (try dsimp only); omega) _) (by omega) f5); have Ly_5 := hideIt (Ls.fr (B := x3.heap.size + 1) (U := x4.heap.size) (a := a4) (f := g4) (by repeat with_reducible first | exact Ly_4.out | apply Ls.alloc | apply Ls.drew | refine Ls.set ?_ (by (try dsimp only); omega) _) (by omega) f5); have Br_5 := hideIt (Bx.fr (b := w.heap.size) (v := (nk 0)) (s := (.slice none 0 0)) (by repeat first | with_reducible exact Br_4.out | with_reducible apply Bx.alloc | with_reducible refine Bx.set ?_ (by (try dsimp only); omega) _ | with_reducible apply Bx.drew) (by omega) f5); have yr5 := Br_5.out.lt; have Bl_5 := hideIt (Bx.fr (b := x1.heap.size) (v := x.1) (s := (.slice a1 g1.len c1)) (by repeat first | with_reducible exact Bl_4.out | with_reducible apply Bx.alloc | with_reducible refine Bx.set ?_ (by (try dsimp only); omega) _ | with_reducible apply Bx.drew) (by omega) f5); have yl5 := Bl_5.out.lt; have Bn_5 := hideIt (Bx.fr (b := x3.heap.size) (v := (nk 23)) (s := (.slice none 0 0)) (by repeat first | with_reducible exact Bn_4.out | with_reducible apply Bx.alloc | with_reducible refine Bx.set ?_ (by (try dsimp only); omega) _ | with_reducible apply Bx.drew) (by omega) f5); have yn5 := Bn_5.out.lt; have Bm_5 := hideIt (Bx.fr (b := x4.heap.size) (v := y.1) (s := (.slice a4 g4.len c4)) (by repeat first | refine Bx.newAt _ y.1 (.slice a4 g4.len c4) (by simp; done) | with_reducible apply Bx.alloc | with_reducible refine Bx.set ?_ (by (try dsimp only); omega) _ | with_reducible apply Bx.drew) (by omega) f5); have ym5 := Bm_5.out.lt; clear l0 l1 l2 l3 l4 l5 l6 l7 l8 l9 lf yl4; obtain ⟨l0, l1, l2, l3, l4, l5, l6, l7, l8, l9⟩ := Bl_5.out.ten; have lf := Bl_5.out.free; clear n0 n1 n2 n3 n4 n5 n6 n7 n8 n9 nf yn4; obtain ⟨n0, n1, n2, n3, n4, n5, n6, n7, n8, n9⟩ := Bn_5.out.ten; have nf := Bn_5.out.free; obtain ⟨m0, m1, m2, m3, m4, m5, m6, m7, m8, m9⟩ := Bm_5.out.ten; have mf := Bm_5.out.free; clear Lx_4 Ly_4 Br_4 Bl_4 Bn_4; clear C5; clear f5 d5)
        go_wp2_with (fail)
        cases h6 : rd n .expression s5 with
        | out => rw [h6] at HR; exact absurd HR.out.symm HN.out
        | bad k p =>
         rw [h6] at HR
         have C6 := hideIt (fun X (h : RD X R g cap L s5) => (HE s5 (by rw [h6]; exact fun e => by cases e)) X h)
         refine wp_region_held_drew (S := fun w' => Bx w' x1.heap.size x.1 (.slice a1 g1.len c1) ∧ Bx w' x4.heap.size y.1 (.slice a4 g4.len c4)) (by kernel_rfl) (⟨(by repeat (first | with_reducible exact Bl_5.out | with_reducible refine Bx.alloc ?_ _ | (with_reducible refine Bx.set ?_ ?hh _; case hh => ((try dsimp only); omega)) | with_reducible refine Bx.drew ?_)), (by repeat (first | with_reducible exact Bm_5.out | with_reducible refine Bx.alloc ?_ _ | (with_reducible refine Bx.set ?_ ?hh _; case hh => ((try dsimp only); omega)) | with_reducible refine Bx.drew ?_))⟩) (fun hHeld => ?_)
         refine wpAnyH_take (i := 0) (oi := ⟨_, _, _, _, _, _⟩) (v := ?_) rfl (by kernel_rfl) (by kernel_rfl) (by kernel_rfl) (fun _ _ _ h => h) (Or.inl ⟨by rfl, ?_⟩) (by assumption) ?_
         rotate_left 1
         · intro w' hSw; obtain ⟨ql0, ql1, ql2, ql3, ql4, ql5, ql6, ql7, ql8, ql9⟩ := Bx.ten hSw.1; obtain ⟨qm0, qm1, qm2, qm3, qm4, qm5, qm6, qm7, qm8, qm9⟩ := Bx.ten hSw.2; go_simp; all_goals with_reducible rfl
         try simp only [Act.put, List.setIfInBounds_toArray, List.set_cons_zero, List.set_cons_succ]
         refine wpAnyH_take (i := 1) (oi := ⟨_, _, _, _, _, _⟩) (v := ?_) rfl (by kernel_rfl) (by kernel_rfl) (by kernel_rfl) (fun _ _ _ h => h) (Or.inl ⟨by rfl, ?_⟩) (by assumption) ?_
         rotate_left 1
         · intro w' hSw; obtain ⟨ql0, ql1, ql2, ql3, ql4, ql5, ql6, ql7, ql8, ql9⟩ := Bx.ten hSw.1; obtain ⟨qm0, qm1, qm2, qm3, qm4, qm5, qm6, qm7, qm8, qm9⟩ := Bx.ten hSw.2; go_simp; all_goals with_reducible rfl
         try simp only [Act.put, List.setIfInBounds_toArray, List.set_cons_zero, List.set_cons_succ]
         refine wpAnyH_take (i := 2) (oi := ⟨_, _, _, _, _, _⟩) (v := ?_) rfl (by kernel_rfl) (by kernel_rfl) (by kernel_rfl) (fun _ _ _ h => h) (Or.inl ⟨by rfl, ?_⟩) (by assumption) ?_
         rotate_left 1
         · intro w' hSw; go_simp; all_goals with_reducible rfl
         try simp only [Act.put, List.setIfInBounds_toArray, List.set_cons_zero, List.set_cons_succ]
         refine wpAnyH_ready (rs := [3]) (by kernel_rfl) (by simp) (AllReadyH.cons (o := ⟨_, _, _, _, _, _⟩) rfl (fun K hK => ?_) AllReadyH.nil)
         go_simp
         (go_at_call 114; refine Calls.mono (badc h6 (C6.out _ (by repeat with_reducible first | exact D5.out | apply RD.alloc | apply RD.drew | refine RD.setCell ?_ (by (try dsimp only); omega) _))) ?_; rintro e x6 ⟨rfl, f6⟩; have F6 := hideIt (show Fr R w x6 from Fr.trans (by repeat with_reducible first | exact F5.out | apply Fr.alloc | apply Fr.drew | refine Fr.setNew ?_ (by (try dsimp only); omega) _) f6); clear f6)
         have ER : Rs.bad k p = r := HR.out
         subst ER
         exact ⟨rfl, F6.out, rfl⟩
        | ok z s6 =>
         rw [h6] at HR
         try simp only [bnd_ok] at HR
         have C6 := hideIt (fun X (h : RD X R g cap L s5) => (HE s5 (by rw [h6]; exact fun e => by cases e)) X h)
         refine wp_region_held_drew (S := fun w' => Bx w' x1.heap.size x.1 (.slice a1 g1.len c1) ∧ Bx w' x4.heap.size y.1 (.slice a4 g4.len c4)) (by kernel_rfl) (⟨(by repeat (first | with_reducible exact Bl_5.out | with_reducible refine Bx.alloc ?_ _ | (with_reducible refine Bx.set ?_ ?hh _; case hh => ((try dsimp only); omega)) | with_reducible refine Bx.drew ?_)), (by repeat (first | with_reducible exact Bm_5.out | with_reducible refine Bx.alloc ?_ _ | (with_reducible refine Bx.set ?_ ?hh _; case hh => ((try dsimp only); omega)) | with_reducible refine Bx.drew ?_))⟩) (fun hHeld => ?_)
         refine wpAnyH_take (i := 0) (oi := ⟨_, _, _, _, _, _⟩) (v := ?_) rfl (by kernel_rfl) (by kernel_rfl) (by kernel_rfl) (fun _ _ _ h => h) (Or.inl ⟨by rfl, ?_⟩) (by assumption) ?_
         rotate_left 1
         · intro w' hSw; obtain ⟨ql0, ql1, ql2, ql3, ql4, ql5, ql6, ql7, ql8, ql9⟩ := Bx.ten hSw.1; obtain ⟨qm0, qm1, qm2, qm3, qm4, qm5, qm6, qm7, qm8, qm9⟩ := Bx.ten hSw.2; go_simp; all_goals with_reducible rfl
         try simp only [Act.put, List.setIfInBounds_toArray, List.set_cons_zero, List.set_cons_succ]
         refine wpAnyH_take (i := 1) (oi := ⟨_, _, _, _, _, _⟩) (v := ?_) rfl (by kernel_rfl) (by kernel_rfl) (by kernel_rfl) (fun _ _ _ h => h) (Or.inl ⟨by rfl, ?_⟩) (by assumption) ?_
         rotate_left 1
         · intro w' hSw; obtain ⟨ql0, ql1, ql2, ql3, ql4, ql5, ql6, ql7, ql8, ql9⟩ := Bx.ten hSw.1; obtain ⟨qm0, qm1, qm2, qm3, qm4, qm5, qm6, qm7, qm8, qm9⟩ := Bx.ten hSw.2; go_simp; all_goals with_reducible rfl
         try simp only [Act.put, List.setIfInBounds_toArray, List.set_cons_zero, List.set_cons_succ]
         refine wpAnyH_take (i := 2) (oi := ⟨_, _, _, _, _, _⟩) (v := ?_) rfl (by kernel_rfl) (by kernel_rfl) (by kernel_rfl) (fun _ _ _ h => h) (Or.inl ⟨by rfl, ?_⟩) (by assumption) ?_
         rotate_left 1
         · intro w' hSw; go_simp; all_goals with_reducible rfl
         try simp only [Act.put, List.setIfInBounds_toArray, List.set_cons_zero, List.set_cons_succ]
         refine wpAnyH_ready (rs := [3]) (by kernel_rfl) (by simp) (AllReadyH.cons (o := ⟨_, _, _, _, _, _⟩) rfl (fun K hK => ?_) AllReadyH.nil)
         go_simp
         (go_at_call 114; refine Calls.mono (okc h6 (C6.out _ (by repeat with_reducible first | exact D5.out | apply RD.alloc | apply RD.drew | refine RD.setCell ?_ (by (try dsimp only); omega) _))) ?_; rintro e x6 ⟨v6, rfl, hv6, f6, d6⟩; have D6 := hideIt d6; have F6 := hideIt (show Fr R w x6 from Fr.trans (by repeat with_reducible first | exact F5.out | apply Fr.alloc | apply Fr.drew | refine Fr.setNew ?_ (by (try dsimp only); omega) _) f6); have Z6 : x5.heap.size ≤ x6.heap.size := (by have z := f6.size; (try simp at z); omega); obtain ⟨a6, c6, g6, rfl, cp6, sk6, l6, ok6⟩ := hv6.out; have Lz_6 := hideIt (Ls.mono (B' := x5.heap.size) l6 (by (try simp); try omega) (Nat.le_refl _)); have Kz := hideIt (And.intro cp6 (And.intro sk6 ok6)); clear hv6 l6 cp6 sk6 ok6; have Lx_6 := hideIt (Ls.fr (B := w.heap.size + 1) (U := x1.heap.size) (a := a1) (f := g1) (by repeat with_reducible first | exact Lx_5.out | apply Ls.alloc | apply Ls.drew | refine Ls.set ?_ (by (try dsimp only); omega) _) (by omega) f6); have Ly_6 := hideIt (Ls.fr (B := x3.heap.size + 1) (U := x4.heap.size) (a := a4) (f := g4) (by repeat with_reducible first | exact Ly_5.out | apply Ls.alloc | apply Ls.drew | refine Ls.set ?_ (by (try dsimp only); omega) _) (by omega) f6); have Br_6 := hideIt (Bx.fr (b := w.heap.size) (v := (nk 0)) (s := (.slice none 0 0)) (by repeat first | with_reducible exact Br_5.out | with_reducible apply Bx.alloc | with_reducible refine Bx.set ?_ (by (try dsimp only); omega) _ | with_reducible apply Bx.drew) (by omega) f6); have yr6 := Br_6.out.lt; have Bl_6 := hideIt (Bx.fr (b := x1.heap.size) (v := x.1) (s := (.slice a1 g1.len c1)) (by repeat first | with_reducible exact Bl_5.out | with_reducible apply Bx.alloc | with_reducible refine Bx.set ?_ (by (try dsimp only); omega) _ | with_reducible apply Bx.drew) (by omega) f6); have yl6 := Bl_6.out.lt; have Bn_6 := hideIt (Bx.fr (b := x3.heap.size) (v := (nk 23)) (s := (.slice none 0 0)) (by repeat first | with_reducible exact Bn_5.out | with_reducible apply Bx.alloc | with_reducible refine Bx.set ?_ (by (try dsimp only); omega) _ | with_reducible apply Bx.drew) (by omega) f6); have yn6 := Bn_6.out.lt; have Bm_6 := hideIt (Bx.fr (b := x4.heap.size) (v := y.1) (s := (.slice a4 g4.len c4)) (by repeat first | with_reducible exact Bm_5.out | with_reducible apply Bx.alloc | with_reducible refine Bx.set ?_ (by (try dsimp only); omega) _ | with_reducible apply Bx.drew) (by omega) f6); have ym6 := Bm_6.out.lt; obtain ⟨r0, r1, r2, r3, r4, r5, r6, r7, r8, r9⟩ := Br_6.out.ten; have rf := Br_6.out.free; clear l0 l1 l2 l3 l4 l5 l6 l7 l8 l9 lf yl5; obtain ⟨l0, l1, l2, l3, l4, l5, l6, l7, l8, l9⟩ := Bl_6.out.ten; have lf := Bl_6.out.free; clear n0 n1 n2 n3 n4 n5 n6 n7 n8 n9 nf yn5; obtain ⟨n0, n1, n2, n3, n4, n5, n6, n7, n8, n9⟩ := Bn_6.out.ten; have nf := Bn_6.out.free; clear m0 m1 m2 m3 m4 m5 m6 m7 m8 m9 mf ym5; obtain ⟨m0, m1, m2, m3, m4, m5, m6, m7, m8, m9⟩ := Bm_6.out.ten; have mf := Bm_6.out.free; clear Lx_5 Ly_5 Br_5 Bl_5 Bn_5 Bm_5; clear C6; clear f6 d6)
         refine hK.out _ _ ?_ (fun hHeld => ?_)
         · exact ⟨Bl_6.out, Bm_6.out⟩
         clear hK K
         try simp only [Act.put, List.setIfInBounds_toArray, List.set_cons_zero, List.set_cons_succ]
         refine wpAnyH_ready (rs := [4]) (by kernel_rfl) (by simp) (AllReadyH.cons (o := ⟨_, _, _, _, _, _⟩) rfl (fun K hK => ?_) AllReadyH.nil)
         go_simp
         refine hK.out _ _ ?_ (fun hHeld => ?_)
         · exact ⟨(by repeat (first | with_reducible exact Bl_6.out | with_reducible refine Bx.alloc ?_ _ | (with_reducible refine Bx.set ?_ ?hh _; case hh => ((try dsimp only); omega)) | with_reducible refine Bx.drew ?_)), (by repeat (first | with_reducible exact Bm_6.out | with_reducible refine Bx.alloc ?_ _ | (with_reducible refine Bx.set ?_ ?hh _; case hh => ((try dsimp only); omega)) | with_reducible refine Bx.drew ?_))⟩
         clear hK K
         try simp only [Act.put, List.setIfInBounds_toArray, List.set_cons_zero, List.set_cons_succ]
         refine wpAnyH_take (i := 5) (oi := ⟨_, _, _, _, _, _⟩) (v := ?_) rfl (by kernel_rfl) (by kernel_rfl) (by kernel_rfl) (fun _ _ _ h => h) (Or.inl ⟨by rfl, ?_⟩) (by assumption) ?_
         rotate_left 1
         · intro w' hSw; go_simp; all_goals with_reducible rfl
         try simp only [Act.put, List.setIfInBounds_toArray, List.set_cons_zero, List.set_cons_succ]
         refine wpAnyH_ready (rs := [6]) (by kernel_rfl) (by simp) (AllReadyH.cons (o := ⟨_, _, _, _, _, _⟩) rfl (fun K hK => ?_) AllReadyH.nil)
         go_simp
         refine hK.out _ _ ?_ (fun hHeld => ?_)
         · exact ⟨(by repeat (first | with_reducible exact Bl_6.out | with_reducible refine Bx.alloc ?_ _ | (with_reducible refine Bx.set ?_ ?hh _; case hh => ((try dsimp only); omega)) | with_reducible refine Bx.drew ?_)), (by repeat (first | with_reducible exact Bm_6.out | with_reducible refine Bx.alloc ?_ _ | (with_reducible refine Bx.set ?_ ?hh _; case hh => ((try dsimp only); omega)) | with_reducible refine Bx.drew ?_))⟩
         clear hK K
         try simp only [Act.put, List.setIfInBounds_toArray, List.set_cons_zero, List.set_cons_succ]
         refine wpAnyH_done (by kernel_rfl) ?_ _
         go_wp2_with (fail)
         have ER := HR.out
         subst ER
         refine bodyPost_ret (v := nodeV (nk 23) (.slice (some ⟨x6.heap.size, 0, none⟩) 3 3)) (by simp [results, Tryz.results114, go_sem, *]) rfl ⟨(by repeat with_reducible first | exact F6.out | apply Fr.alloc | apply Fr.drew | refine Fr.setNew ?_ (by (try dsimp only); omega) _), _, rfl, ?_, (by repeat with_reducible first | exact D6.out | apply RD.alloc | apply RD.drew | refine RD.setCell ?_ (by (try dsimp only); omega) _)⟩
         exact NV.mk (x := (nk 23, ((one x).app (one y)).app (one z))) (f := .cons x.1 a1 c1 g1 (.cons y.1 a4 c4 g4 (.cons z.1 a6 c6 g6 .nil))) ⟨rfl, Kx.out.1, rfl, Ky.out.1, rfl, Kz.out.1, trivial⟩ sok3 (Ls.three (B := w.heap.size + 1) (U := x1.heap.size) (B2 := x3.heap.size + 1) (U2 := x4.heap.size) (B3 := x5.heap.size) (U3 := x6.heap.size) (B' := w.heap.size) (by repeat with_reducible first | exact Lx_6.out | apply Ls.alloc | apply Ls.drew | refine Ls.set ?_ (by (try dsimp only); omega) _) Kx.out.2.2 Kx.out.2.1 (by simp; try omega) (by repeat with_reducible first | exact Ly_6.out | apply Ls.alloc | apply Ls.drew | refine Ls.set ?_ (by (try dsimp only); omega) _) Ky.out.2.2 Ky.out.2.1 (by simp; try omega) (by repeat with_reducible first | exact Lz_6.out | apply Ls.alloc | apply Ls.drew | refine Ls.set ?_ (by (try dsimp only); omega) _) Kz.out.2.2 Kz.out.2.1 (by simp; try omega) (by simp) (by omega) (by omega) (by omega) (by simp; try omega)) (Nat.le_refl _) (by refine nf_ok ?_ ?_ ?_ ?_ ?_ ?_ ?_ ?_ ?_ <;> first | omega | decide | (rw [bs_size]; omega) | exact Nat.zero_le _)
    | false =>
     try simp only [Bool.false_eq_true, if_false] at HR
     have C2 := hideIt (fun X (h : RD X R g cap L s1) => try_any [63] (by decide) R g cap L s1 X h)
     (go_at_call_of 64 (Value.string ⟨#[63]⟩); refine Calls.mono (okc h2 (C2.out _ (by repeat with_reducible first | exact D1.out | apply RD.alloc | apply RD.drew | refine RD.setCell ?_ (by (try dsimp only); omega) _))) ?_; rintro e x2 ⟨v2, rfl, rfl, f2, d2⟩; have D2 := hideIt d2; have F2 := hideIt (show Fr R w x2 from Fr.trans (by repeat with_reducible first | exact F1.out | apply Fr.alloc | apply Fr.drew | refine Fr.setNew ?_ (by (try dsimp only); omega) _) f2); have Z2 : x1.heap.size + 1 ≤ x2.heap.size := (by have z := f2.size; (try simp at z); omega); have Lx_2 := hideIt (Ls.fr (B := w.heap.size + 1) (U := x1.heap.size) (a := a1) (f := g1) (by repeat with_reducible first | exact Lx_1.out | apply Ls.alloc | apply Ls.drew | refine Ls.set ?_ (by (try dsimp only); omega) _) (by omega) f2); have Br_2 := hideIt (Bx.fr (b := w.heap.size) (v := (nk 0)) (s := (.slice none 0 0)) (by repeat first | with_reducible exact Br_1.out | with_reducible apply Bx.alloc | with_reducible refine Bx.set ?_ (by (try dsimp only); omega) _ | with_reducible apply Bx.drew) (by omega) f2); have yr2 := Br_2.out.lt; have Bl_2 := hideIt (Bx.fr (b := x1.heap.size) (v := x.1) (s := (.slice a1 g1.len c1)) (by repeat first | refine Bx.newAt _ x.1 (.slice a1 g1.len c1) (by simp; done) | with_reducible apply Bx.alloc | with_reducible refine Bx.set ?_ (by (try dsimp only); omega) _ | with_reducible apply Bx.drew) (by omega) f2); have yl2 := Bl_2.out.lt; obtain ⟨r0, r1, r2, r3, r4, r5, r6, r7, r8, r9⟩ := Br_2.out.ten; have rf := Br_2.out.free; obtain ⟨l0, l1, l2, l3, l4, l5, l6, l7, l8, l9⟩ := Bl_2.out.ten; have lf := Bl_2.out.free; clear Lx_1 Br_1; clear C2; clear f2 d2)
     go_wp2_with (fail)
     have ER := HR.out
     subst ER
     refine bodyPost_ret (v := nodeV x.1 (.slice a1 g1.len c1)) (by simp [results, Tryz.results114, go_sem, *]) rfl ⟨(by repeat with_reducible first | exact F2.out | apply Fr.alloc | apply Fr.drew | refine Fr.setNew ?_ (by (try dsimp only); omega) _), _, rfl, ?_, (by repeat with_reducible first | exact D2.out | apply RD.alloc | apply RD.drew | refine RD.setCell ?_ (by (try dsimp only); omega) _)⟩
     exact NV.mk (x := x) (B' := w.heap.size + 1) (U := x1.heap.size) Kx.out.1 Kx.out.2.1 (by repeat with_reducible first | exact Lx_2.out | apply Ls.alloc | apply Ls.drew | refine Ls.set ?_ (by (try dsimp only); omega) _) (by omega) Kx.out.2.2

end Go.Proofs.YtoilhcklflmamaaGreatDoor
