/-
  A choice: contracts over the program; the conditions: the reader lies in memory as it should, and what is called keeps its own contract.
-/
import Derived.Test.YtoilhcklflmamaaGreatDoorKPrO
import Derived.Test.YtoilhcklflmamaaGreatDoorKPrG
namespace Go.Proofs.YtoilhcklflmamaaGreatDoor
open Go.RowKit
open Pr
set_option linter.unusedVariables false

set_option maxRecDepth 100000 in
set_option maxHeartbeats 4000000 in
theorem choice_rd (R g cap : Nat) (L : List Tok) (n : Nat) (HBR : ∀ s, rd n .bracketed s ≠ .out → Rule 117 #[] R g cap L s (rd n .bracketed s)) (HB : ∀ s, rd n .block s ≠ .out → Rule 94 #[] R g cap L s (rd n .block s)) (s : St) (hno : rd (n + 1) .choice s ≠ .out) :
    Rule 115 #[] R g cap L s (rd (n + 1) .choice s) := by
  intro w h
  have e : rd (n + 1) .choice s = (nodeM s).bnd fun _ s => (rd n .bracketed s).bnd fun x s => (rd n .block s).bnd fun y s => (tryM [101, 108, 115, 101] s).bnd fun b s => if b then (rd n .block s).bnd fun z s => .ok (nk 10, ((one x).app (one y)).app (one z)) s else .ok (nk 10, (one x).app (one y)) s := rfl
  rw [e] at hno ⊢
  clear e
  have HD := hideIt h
  have hR := h.b.lt_size
  clear h
  obtain ⟨r, hr⟩ : ∃ r, ((nodeM s).bnd fun _ s => (rd n .bracketed s).bnd fun x s => (rd n .block s).bnd fun y s => (tryM [101, 108, 115, 101] s).bnd fun b s => if b then (rd n .block s).bnd fun z s => .ok (nk 10, ((one x).app (one y)).app (one z)) s else .ok (nk 10, (one x).app (one y)) s : Rs Nd) = r := ⟨_, rfl⟩
  rw [hr] at hno ⊢
  have HR := hideIt hr
  have HN := hideIt hno
  clear hr hno
  go_enter Tryz.func115, Tryz.ntmps115
  go_wp2_with (fail)
  cases h1 : nodeM s with
  | out => rw [h1] at HR; exact absurd HR.out.symm HN.out
  | bad k p =>
   rw [h1] at HR
   have C1 := hideIt (fun X (h : RD X R g cap L s) => node_rd R g cap L s X h (nk 10) none 0 0)
   (go_at_call 31; refine Calls.mono (badc h1 (C1.out _ (by repeat with_reducible first | exact HD.out | apply RD.alloc | apply RD.drew | refine RD.setCell ?_ (by (try dsimp only); omega) _))) ?_; rintro e x1 ⟨rfl, f1⟩; have F1 := hideIt (show Fr R w x1 from Fr.trans (by repeat with_reducible first | exact (Fr.refl R w) | apply Fr.alloc | apply Fr.drew | refine Fr.setNew ?_ (by (try dsimp only); omega) _) f1); clear f1)
   have ER : Rs.bad k p = r := HR.out
   subst ER
   exact ⟨rfl, F1.out, rfl⟩
  | ok u1 s1 =>
   rw [h1] at HR
   try simp only [bnd_ok] at HR
   have C1 := hideIt (fun X (h : RD X R g cap L s) => node_rd R g cap L s X h (nk 10) none 0 0)
   (go_at_call 31; refine Calls.mono (okc h1 (C1.out _ (by repeat with_reducible first | exact HD.out | apply RD.alloc | apply RD.drew | refine RD.setCell ?_ (by (try dsimp only); omega) _))) ?_; rintro e x1 ⟨v1, rfl, rfl, f1, d1⟩; have D1 := hideIt d1; have F1 := hideIt (show Fr R w x1 from Fr.trans (by repeat with_reducible first | exact (Fr.refl R w) | apply Fr.alloc | apply Fr.drew | refine Fr.setNew ?_ (by (try dsimp only); omega) _) f1); have Z1 : w.heap.size + 1 ≤ x1.heap.size := (by have z := f1.size; (try simp at z); omega); have Br_1 := hideIt (Bx.fr (b := w.heap.size) (v := (nk 0)) (s := (.slice none 0 0)) (by repeat first | refine Bx.newAt _ (nk 0) (.slice none 0 0) (by simp; done) | with_reducible apply Bx.alloc | with_reducible refine Bx.set ?_ (by (try dsimp only); omega) _ | with_reducible apply Bx.drew) (by omega) f1); have yr1 := Br_1.out.lt; clear C1; clear f1 d1)
   go_wp2_with (fail)
   cases h2 : rd n .bracketed s1 with
   | out => rw [h2] at HR; exact absurd HR.out.symm HN.out
   | bad k p =>
    rw [h2] at HR
    have C2 := hideIt (fun X (h : RD X R g cap L s1) => (HBR s1 (by rw [h2]; exact fun e => by cases e)) X h)
    (go_at_call 117; refine Calls.mono (badc h2 (C2.out _ (by repeat with_reducible first | exact D1.out | apply RD.alloc | apply RD.drew | refine RD.setCell ?_ (by (try dsimp only); omega) _))) ?_; rintro e x2 ⟨rfl, f2⟩; have F2 := hideIt (show Fr R w x2 from Fr.trans (by repeat with_reducible first | exact F1.out | apply Fr.alloc | apply Fr.drew | refine Fr.setNew ?_ (by (try dsimp only); omega) _) f2); clear f2)
    have ER : Rs.bad k p = r := HR.out
    subst ER
    exact ⟨rfl, F2.out, rfl⟩
   | ok x s2 =>
    rw [h2] at HR
    try simp only [bnd_ok] at HR
    have C2 := hideIt (fun X (h : RD X R g cap L s1) => (HBR s1 (by rw [h2]; exact fun e => by cases e)) X h)
    (go_at_call 117; refine Calls.mono (okc h2 (C2.out _ (by repeat with_reducible first | exact D1.out | apply RD.alloc | apply RD.drew | refine RD.setCell ?_ (by (try dsimp only); omega) _))) ?_; rintro e x2 ⟨v2, rfl, hv2, f2, d2⟩; have D2 := hideIt d2; have F2 := hideIt (show Fr R w x2 from Fr.trans (by repeat with_reducible first | exact F1.out | apply Fr.alloc | apply Fr.drew | refine Fr.setNew ?_ (by (try dsimp only); omega) _) f2); have Z2 : x1.heap.size + 1 ≤ x2.heap.size := (by have z := f2.size; (try simp at z); omega); obtain ⟨a2, c2, g2, rfl, cp2, sk2, l2, ok2⟩ := hv2.out; have Lx_2 := hideIt (Ls.mono (B' := x1.heap.size + 1) l2 (by (try simp); try omega) (Nat.le_refl _)); have Kx := hideIt (And.intro cp2 (And.intro sk2 ok2)); clear hv2 l2 cp2 sk2 ok2; have Br_2 := hideIt (Bx.fr (b := w.heap.size) (v := (nk 0)) (s := (.slice none 0 0)) (by repeat first | with_reducible exact Br_1.out | with_reducible apply Bx.alloc | with_reducible refine Bx.set ?_ (by (try dsimp only); omega) _ | with_reducible apply Bx.drew) (by omega) f2); have yr2 := Br_2.out.lt; have Bn_2 := hideIt (Bx.fr (b := x1.heap.size) (v := (nk 10)) (s := (.slice none 0 0)) (by repeat first | refine Bx.newAt _ (nk 10) (.slice none 0 0) (by simp; done) | with_reducible apply Bx.alloc | with_reducible refine Bx.set ?_ (by (try dsimp only); omega) _ | with_reducible apply Bx.drew) (by omega) f2); have yn2 := Bn_2.out.lt; obtain ⟨n0, n1, n2, n3, n4, n5, n6, n7, n8, n9⟩ := Bn_2.out.ten; have nf := Bn_2.out.free; clear Br_1; clear C2; clear f2 d2)
    go_wp2_with (fail)
    cases h3 : rd n .block s2 with
    | out => rw [h3] at HR; exact absurd HR.out.symm HN.out
    | bad k p =>
     rw [h3] at HR
     have C3 := hideIt (fun X (h : RD X R g cap L s2) => (HB s2 (by rw [h3]; exact fun e => by cases e)) X h)
     (go_at_call 94; refine Calls.mono (badc h3 (C3.out _ (by repeat with_reducible first | exact D2.out | apply RD.alloc | apply RD.drew | refine RD.setCell ?_ (by (try dsimp only); omega) _))) ?_; rintro e x3 ⟨rfl, f3⟩; have F3 := hideIt (show Fr R w x3 from Fr.trans (by repeat with_reducible first | exact F2.out | apply Fr.alloc | apply Fr.drew | refine Fr.setNew ?_ (by (try dsimp only); omega) _) f3); clear f3)
     have ER : Rs.bad k p = r := HR.out
     subst ER
     exact ⟨rfl, F3.out, rfl⟩
    | ok y s3 =>
     rw [h3] at HR
     try simp only [bnd_ok] at HR
     have C3 := hideIt (fun X (h : RD X R g cap L s2) => (HB s2 (by rw [h3]; exact fun e => by cases e)) X h)
     (go_at_call 94; refine Calls.mono (okc h3 (C3.out _ (by repeat with_reducible first | exact D2.out | apply RD.alloc | apply RD.drew | refine RD.setCell ?_ (by (try dsimp only); omega) _))) ?_; rintro e x3 ⟨v3, rfl, hv3, f3, d3⟩; have D3 := hideIt d3; have F3 := hideIt (show Fr R w x3 from Fr.trans (by repeat with_reducible first | exact F2.out | apply Fr.alloc | apply Fr.drew | refine Fr.setNew ?_ (by (try dsimp only); omega) _) f3); have Z3 : x2.heap.size ≤ x3.heap.size := (by have z := f3.size; (try simp at z); omega); obtain ⟨a3, c3, g3, rfl, cp3, sk3, l3, ok3⟩ := hv3.out; have Ly_3 := hideIt (Ls.mono (B' := x2.heap.size) l3 (by (try simp); try omega) (Nat.le_refl _)); have Ky := hideIt (And.intro cp3 (And.intro sk3 ok3)); clear hv3 l3 cp3 sk3 ok3; have Lx_3 := hideIt (Ls.fr (B := x1.heap.size + 1) (U := x2.heap.size) (a := a2) (f := g2) (by repeat with_reducible first | exact Lx_2.out | apply Ls.alloc | apply Ls.drew | refine Ls.set ?_ (by (try dsimp only); omega) _) (by omega) f3); have Br_3 := hideIt (Bx.fr (b := w.heap.size) (v := (nk 0)) (s := (.slice none 0 0)) (by repeat first | with_reducible exact Br_2.out | with_reducible apply Bx.alloc | with_reducible refine Bx.set ?_ (by (try dsimp only); omega) _ | with_reducible apply Bx.drew) (by omega) f3); have yr3 := Br_3.out.lt; have Bn_3 := hideIt (Bx.fr (b := x1.heap.size) (v := (nk 10)) (s := (.slice none 0 0)) (by repeat first | with_reducible exact Bn_2.out | with_reducible apply Bx.alloc | with_reducible refine Bx.set ?_ (by (try dsimp only); omega) _ | with_reducible apply Bx.drew) (by omega) f3); have yn3 := Bn_3.out.lt; clear n0 n1 n2 n3 n4 n5 n6 n7 n8 n9 nf yn2; obtain ⟨n0, n1, n2, n3, n4, n5, n6, n7, n8, n9⟩ := Bn_3.out.ten; have nf := Bn_3.out.free; clear Lx_2 Br_2 Bn_2; clear C3; clear f3 d3)
     go_wp2_with (fail)
     cases h4 : tryM [101, 108, 115, 101] s3 with
     | out => rw [h4] at HR; exact absurd HR.out.symm HN.out
     | bad k p =>
      rw [h4] at HR
      have C4 := hideIt (fun X (h : RD X R g cap L s3) => try_any [101, 108, 115, 101] (by decide) R g cap L s3 X h)
      (go_at_call_of 64 (Value.string ⟨#[101, 108, 115, 101]⟩); refine Calls.mono (badc h4 (C4.out _ (by repeat with_reducible first | exact D3.out | apply RD.alloc | apply RD.drew | refine RD.setCell ?_ (by (try dsimp only); omega) _))) ?_; rintro e x4 ⟨rfl, f4⟩; have F4 := hideIt (show Fr R w x4 from Fr.trans (by repeat with_reducible first | exact F3.out | apply Fr.alloc | apply Fr.drew | refine Fr.setNew ?_ (by (try dsimp only); omega) _) f4); clear f4)
      have ER : Rs.bad k p = r := HR.out
      subst ER
      exact ⟨rfl, F4.out, rfl⟩
     | ok b4 s4 =>
      rw [h4] at HR
      try simp only [bnd_ok] at HR
      cases b4 with
      | true =>
       try simp only [if_true] at HR
       have C4 := hideIt (fun X (h : RD X R g cap L s3) => try_any [101, 108, 115, 101] (by decide) R g cap L s3 X h)
       (go_at_call_of 64 (Value.string ⟨#[101, 108, 115, 101]⟩); refine Calls.mono (okc h4 (C4.out _ (by repeat with_reducible first | exact D3.out | apply RD.alloc | apply RD.drew | refine RD.setCell ?_ (by (try dsimp only); omega) _))) ?_; rintro e x4 ⟨v4, rfl, rfl, f4, d4⟩; have D4 := hideIt d4; have F4 := hideIt (show Fr R w x4 from Fr.trans (by repeat with_reducible first | exact F3.out | apply Fr.alloc | apply Fr.drew | refine Fr.setNew ?_ (by (try dsimp only); omega) _) f4); have Z4 : x3.heap.size + 1 ≤ x4.heap.size := (by have z := f4.size; (try simp at z); omega); have Lx_4 := hideIt (Ls.fr (B := x1.heap.size + 1) (U := x2.heap.size) (a := a2) (f := g2) (by repeat with_reducible first | exact Lx_3.out | apply Ls.alloc | apply Ls.drew | refine Ls.set ?_ (by (try dsimp only); omega) _) (by omega) f4); have Ly_4 := hideIt (Ls.fr (B := x2.heap.size) (U := x3.heap.size) (a := a3) (f := g3) (by repeat with_reducible first | exact Ly_3.out | apply Ls.alloc | apply Ls.drew | refine Ls.set ?_ (by (try dsimp only); omega) _) (by omega) f4); have Lk_4 := hideIt (Ls.fr (B := w.heap.size + 1) (U := x3.heap.size + 1) (a := (some ⟨x3.heap.size, 0, none⟩)) (f := (.cons x.1 a2 c2 g2 (.cons y.1 a3 c3 g3 .nil))) (Ls.two (B := x1.heap.size + 1) (U := x2.heap.size) (B2 := x2.heap.size) (U2 := x3.heap.size) (B' := w.heap.size + 1) (by repeat with_reducible first | exact Lx_3.out | apply Ls.alloc | apply Ls.drew | refine Ls.set ?_ (by (try dsimp only); omega) _) Kx.out.2.2 Kx.out.2.1 (by (try simp) <;> (try omega)) (by repeat with_reducible first | exact Ly_3.out | apply Ls.alloc | apply Ls.drew | refine Ls.set ?_ (by (try dsimp only); omega) _) Ky.out.2.2 Ky.out.2.1 (by (try simp) <;> (try omega)) (by first | (simp; done) | rfl) (by omega) (by omega) (by (try simp) <;> (try omega))) (by omega) f4); have Br_4 := hideIt (Bx.fr (b := w.heap.size) (v := (nk 0)) (s := (.slice none 0 0)) (by repeat first | with_reducible exact Br_3.out | with_reducible apply Bx.alloc | with_reducible refine Bx.set ?_ (by (try dsimp only); omega) _ | with_reducible apply Bx.drew) (by omega) f4); have yr4 := Br_4.out.lt; have Bn_4 := hideIt (Bx.fr (b := x1.heap.size) (v := (nk 10)) (s := (.slice (some ⟨x3.heap.size, 0, none⟩) 2 2)) (by repeat first | exact (Bx.put Bn_3.out 9 _ rfl) | with_reducible apply Bx.alloc | with_reducible refine Bx.set ?_ (by (try dsimp only); omega) _ | with_reducible apply Bx.drew) (by omega) f4); have yn4 := Bn_4.out.lt; clear n0 n1 n2 n3 n4 n5 n6 n7 n8 n9 nf yn3; obtain ⟨n0, n1, n2, n3, n4, n5, n6, n7, n8, n9⟩ := Bn_4.out.ten; have nf := Bn_4.out.free; have Ik_4 := hideIt (LI.fr (R := R) (B := x1.heap.size + 1) (LI.two (x := x) (y := y) (B1 := x1.heap.size + 1) (U1 := x2.heap.size) (B2 := x2.heap.size) (U2 := x3.heap.size) (a := a2) (f := g2) (a2 := a3) (f2 := g3) (c := c2) (c2 := c3) (by repeat with_reducible first | exact Lx_3.out | apply Ls.alloc | apply Ls.drew | refine Ls.set ?_ (by (try dsimp only); omega) _) (by repeat with_reducible first | exact Ly_3.out | apply Ls.alloc | apply Ls.drew | refine Ls.set ?_ (by (try dsimp only); omega) _) (by omega) (by omega) (b := x3.heap.size) (by first | (simp; done) | rfl) (by omega) Kx.out.2.2 Kx.out.2.1 Kx.out.1 Ky.out.2.2 Ky.out.2.1 Ky.out.1 (by omega) (by omega)) (by omega) f4); clear Lx_3 Ly_3 Br_3 Bn_3; clear C4; clear f4 d4)
       go_wp2_with (fail)
       cases h5 : rd n .block s4 with
       | out => rw [h5] at HR; exact absurd HR.out.symm HN.out
       | bad k p =>
        rw [h5] at HR
        have C5 := hideIt (fun X (h : RD X R g cap L s4) => (HB s4 (by rw [h5]; exact fun e => by cases e)) X h)
        refine wp_region_held_drew (S := fun _ => True) (by kernel_rfl) (trivial) (fun hHeld => ?_)
        refine wpAnyH_take (i := 0) (oi := ⟨_, _, _, _, _, _⟩) (v := ?_) rfl (by kernel_rfl) (by kernel_rfl) (by kernel_rfl) (fun _ _ _ h => h) (Or.inl ⟨by rfl, ?_⟩) (by assumption) ?_
        rotate_left 1
        · intro w hSw; (try dsimp only at hSw); go_simp; all_goals with_reducible rfl
        try simp only [Act.put, List.setIfInBounds_toArray, List.set_cons_zero, List.set_cons_succ]
        refine wpAnyH_take (i := 2) (oi := ⟨_, _, _, _, _, _⟩) (v := ?_) rfl (by kernel_rfl) (by kernel_rfl) (by kernel_rfl) (fun _ _ _ h => h) (Or.inl ⟨by rfl, ?_⟩) (by assumption) ?_
        rotate_left 1
        · intro w hSw; (try dsimp only at hSw); go_simp; all_goals with_reducible rfl
        try simp only [Act.put, List.setIfInBounds_toArray, List.set_cons_zero, List.set_cons_succ]
        refine wpAnyH_ready (rs := [1, 3]) (by kernel_rfl) (by simp) (AllReadyH.cons (o := ⟨_, _, _, _, _, _⟩) rfl (fun K hK => ?_) (AllReadyH.cons (o := ⟨_, _, _, _, _, _⟩) rfl (fun K hK => ?_) AllReadyH.nil))
        · go_simp
          refine hK.out _ _ ?_ (fun hHeld => ?_)
          · trivial
          clear hK K
          try simp only [Act.put, List.setIfInBounds_toArray, List.set_cons_zero, List.set_cons_succ]
          refine wpAnyH_ready (rs := [3]) (by kernel_rfl) (by simp) (AllReadyH.cons (o := ⟨_, _, _, _, _, _⟩) rfl (fun K hK => ?_) AllReadyH.nil)
          go_simp
          (go_at_call 94; refine Calls.mono (badc h5 (C5.out _ (by repeat with_reducible first | exact D4.out | apply RD.alloc | apply RD.drew | refine RD.setCell ?_ (by (try dsimp only); omega) _))) ?_; rintro e x5 ⟨rfl, f5⟩; have F5 := hideIt (show Fr R w x5 from Fr.trans (by repeat with_reducible first | exact F4.out | apply Fr.alloc | apply Fr.drew | refine Fr.setNew ?_ (by (try dsimp only); omega) _) f5); clear f5)
          have ER : Rs.bad k p = r := HR.out
          subst ER
          exact ⟨rfl, F5.out, rfl⟩
        · go_simp
          (go_at_call 94; refine Calls.mono (badc h5 (C5.out _ (by repeat with_reducible first | exact D4.out | apply RD.alloc | apply RD.drew | refine RD.setCell ?_ (by (try dsimp only); omega) _))) ?_; rintro e x5 ⟨rfl, f5⟩; have F5 := hideIt (show Fr R w x5 from Fr.trans (by repeat with_reducible first | exact F4.out | apply Fr.alloc | apply Fr.drew | refine Fr.setNew ?_ (by (try dsimp only); omega) _) f5); clear f5)
          have ER : Rs.bad k p = r := HR.out
          subst ER
          exact ⟨rfl, F5.out, rfl⟩
       | ok z s5 =>
        rw [h5] at HR
        try simp only [bnd_ok] at HR
        have C5 := hideIt (fun X (h : RD X R g cap L s4) => (HB s4 (by rw [h5]; exact fun e => by cases e)) X h)
        refine wp_region_held_drew (S := fun _ => True) (by kernel_rfl) (trivial) (fun hHeld => ?_)
        refine wpAnyH_take (i := 0) (oi := ⟨_, _, _, _, _, _⟩) (v := ?_) rfl (by kernel_rfl) (by kernel_rfl) (by kernel_rfl) (fun _ _ _ h => h) (Or.inl ⟨by rfl, ?_⟩) (by assumption) ?_
        rotate_left 1
        · intro w hSw; (try dsimp only at hSw); go_simp; all_goals with_reducible rfl
        try simp only [Act.put, List.setIfInBounds_toArray, List.set_cons_zero, List.set_cons_succ]
        refine wpAnyH_take (i := 2) (oi := ⟨_, _, _, _, _, _⟩) (v := ?_) rfl (by kernel_rfl) (by kernel_rfl) (by kernel_rfl) (fun _ _ _ h => h) (Or.inl ⟨by rfl, ?_⟩) (by assumption) ?_
        rotate_left 1
        · intro w hSw; (try dsimp only at hSw); go_simp; all_goals with_reducible rfl
        try simp only [Act.put, List.setIfInBounds_toArray, List.set_cons_zero, List.set_cons_succ]
        refine wpAnyH_ready (rs := [1, 3]) (by kernel_rfl) (by simp) (AllReadyH.cons (o := ⟨_, _, _, _, _, _⟩) rfl (fun K hK => ?_) (AllReadyH.cons (o := ⟨_, _, _, _, _, _⟩) rfl (fun K hK => ?_) AllReadyH.nil))
        · go_simp
          refine hK.out _ _ ?_ (fun hHeld => ?_)
          · trivial
          clear hK K
          try simp only [Act.put, List.setIfInBounds_toArray, List.set_cons_zero, List.set_cons_succ]
          refine wpAnyH_ready (rs := [3]) (by kernel_rfl) (by simp) (AllReadyH.cons (o := ⟨_, _, _, _, _, _⟩) rfl (fun K hK => ?_) AllReadyH.nil)
          go_simp
          (go_at_call 94; refine Calls.mono (okc h5 (C5.out _ (by repeat with_reducible first | exact D4.out | apply RD.alloc | apply RD.drew | refine RD.setCell ?_ (by (try dsimp only); omega) _))) ?_; rintro e x5 ⟨v5, rfl, hv5, f5, d5⟩; have D5 := hideIt d5; have F5 := hideIt (show Fr R w x5 from Fr.trans (by repeat with_reducible first | exact F4.out | apply Fr.alloc | apply Fr.drew | refine Fr.setNew ?_ (by (try dsimp only); omega) _) f5); have Z5 : x4.heap.size ≤ x5.heap.size := (by have z := f5.size; (try simp at z); omega); obtain ⟨a5, c5, g5, rfl, cp5, sk5, l5, ok5⟩ := hv5.out; have Lz_5 := hideIt (Ls.mono (B' := x4.heap.size) l5 (by (try simp); try omega) (Nat.le_refl _)); have Kz := hideIt (And.intro cp5 (And.intro sk5 ok5)); clear hv5 l5 cp5 sk5 ok5; have Lx_5 := hideIt (Ls.fr (B := x1.heap.size + 1) (U := x2.heap.size) (a := a2) (f := g2) (by repeat with_reducible first | exact Lx_4.out | apply Ls.alloc | apply Ls.drew | refine Ls.set ?_ (by (try dsimp only); omega) _) (by omega) f5); have Ly_5 := hideIt (Ls.fr (B := x2.heap.size) (U := x3.heap.size) (a := a3) (f := g3) (by repeat with_reducible first | exact Ly_4.out | apply Ls.alloc | apply Ls.drew | refine Ls.set ?_ (by (try dsimp only); omega) _) (by omega) f5); have Lk_5 := hideIt (Ls.fr (B := w.heap.size + 1) (U := x3.heap.size + 1) (a := (some ⟨x3.heap.size, 0, none⟩)) (f := (.cons x.1 a2 c2 g2 (.cons y.1 a3 c3 g3 .nil))) (by repeat with_reducible first | exact Lk_4.out | apply Ls.alloc | apply Ls.drew | refine Ls.set ?_ (by (try dsimp only); omega) _) (by omega) f5); have Br_5 := hideIt (Bx.fr (b := w.heap.size) (v := (nk 0)) (s := (.slice none 0 0)) (by repeat first | with_reducible exact Br_4.out | with_reducible apply Bx.alloc | with_reducible refine Bx.set ?_ (by (try dsimp only); omega) _ | with_reducible apply Bx.drew) (by omega) f5); have yr5 := Br_5.out.lt; have Bn_5 := hideIt (Bx.fr (b := x1.heap.size) (v := (nk 10)) (s := (.slice (some ⟨x3.heap.size, 0, none⟩) 2 2)) (by repeat first | with_reducible exact Bn_4.out | with_reducible apply Bx.alloc | with_reducible refine Bx.set ?_ (by (try dsimp only); omega) _ | with_reducible apply Bx.drew) (by omega) f5); have yn5 := Bn_5.out.lt; obtain ⟨r0, r1, r2, r3, r4, r5, r6, r7, r8, r9⟩ := Br_5.out.ten; have rf := Br_5.out.free; clear n0 n1 n2 n3 n4 n5 n6 n7 n8 n9 nf yn4; obtain ⟨n0, n1, n2, n3, n4, n5, n6, n7, n8, n9⟩ := Bn_5.out.ten; have nf := Bn_5.out.free; have Ik_5 := hideIt (LI.fr (R := R) (Ik_4.out.fr (R := R) (by omega) (Fr.refl R x4).drew) (by omega) f5); clear Lx_4 Ly_4 Lk_4 Br_4 Bn_4; clear C5; clear f5 d5)
          refine hK.out _ _ ?_ (fun hHeld => ?_)
          · trivial
          clear hK K
          try simp only [Act.put, List.setIfInBounds_toArray, List.set_cons_zero, List.set_cons_succ]
          refine wpAnyH_ready (rs := [4]) (by kernel_rfl) (by simp) (AllReadyH.cons (o := ⟨_, _, _, _, _, _⟩) rfl (fun K hK => ?_) AllReadyH.nil)
          go_simp
          refine hK.out _ _ ?_ (fun hHeld => ?_)
          · trivial
          clear hK K
          try simp only [Act.put, List.setIfInBounds_toArray, List.set_cons_zero, List.set_cons_succ]
          refine wpAnyH_ready (rs := [5]) (by kernel_rfl) (by simp) (AllReadyH.cons (o := ⟨_, _, _, _, _, _⟩) rfl (fun K hK => ?_) AllReadyH.nil)
          refine app_step (B := x1.heap.size + 1) (X := x5) Ik_5.out (by omega) (by omega) (y := z) Lz_5.out (by omega) (fun k hk => by have e : x3.heap.size = k := (by simpa [Value.ownBlock] using hk); omega) Kz.out.2.2 Kz.out.2.1 Kz.out.1 (by simp [Fo.len]) rfl (.tmp 16) (.tmp 19) rfl rfl rfl ?_; intro gg cc x9 li9 gr9; have I9 := hideIt li9; have RL := hideIt (fun k hk => (Ik_5.out.lt k hk).1); have D9 := hideIt (RD.grown (D5.out.alloc _) gr9 (fun k hk => by have := RL.out k hk; omega)); have F9 := hideIt (Fr.grown (F5.out.alloc _) gr9 (fun k hk => by have := RL.out k hk; omega)); have Bn_9 := hideIt (Bx.grown (Bn_5.out.alloc _) gr9 (fun e => by have := RL.out _ e; omega)); have Br_9 := hideIt (Bx.grown (Br_5.out.alloc _) gr9 (fun e => by have := RL.out _ e; omega)); have yn9 := Bn_9.out.lt; have yr9 := Br_9.out.lt; clear n0 n1 n2 n3 n4 n5 n6 n7 n8 n9 nf yn5 r0 r1 r2 r3 r4 r5 r6 r7 r8 r9 rf yr5; obtain ⟨n0, n1, n2, n3, n4, n5, n6, n7, n8, n9⟩ := Bn_9.out.ten; have nf := Bn_9.out.free; obtain ⟨r0, r1, r2, r3, r4, r5, r6, r7, r8, r9⟩ := Br_9.out.ten; have rf := Br_9.out.free; clear li9 gr9
          refine hK.out _ _ ?_ (fun hHeld => ?_)
          · trivial
          clear hK K
          try simp only [Act.put, List.setIfInBounds_toArray, List.set_cons_zero, List.set_cons_succ]
          refine wpAnyH_take (i := 6) (oi := ⟨_, _, _, _, _, _⟩) (v := ?_) rfl (by kernel_rfl) (by kernel_rfl) (by kernel_rfl) (fun _ _ _ h => h) (Or.inl ⟨by rfl, ?_⟩) (by assumption) ?_
          rotate_left 1
          · intro w hSw; (try dsimp only at hSw); go_simp; all_goals with_reducible rfl
          try simp only [Act.put, List.setIfInBounds_toArray, List.set_cons_zero, List.set_cons_succ]
          refine wpAnyH_ready (rs := [7]) (by kernel_rfl) (by simp) (AllReadyH.cons (o := ⟨_, _, _, _, _, _⟩) rfl (fun K hK => ?_) AllReadyH.nil)
          go_simp
          refine hK.out _ _ ?_ (fun hHeld => ?_)
          · trivial
          clear hK K
          try simp only [Act.put, List.setIfInBounds_toArray, List.set_cons_zero, List.set_cons_succ]
          refine wpAnyH_done (by kernel_rfl) ?_ _
          go_wp2_with (fail)
          have ER := HR.out
          subst ER
          refine bodyPost_ret (v := nodeV (nk 10) (.slice (some ⟨gg, 0, none⟩) (Fo.len (.cons x.1 a2 c2 g2 (.cons y.1 a3 c3 g3 .nil)) + 1) cc)) (by simp [results, Tryz.results115, go_sem, *]) rfl ⟨(by repeat with_reducible first | exact F9.out | apply Fr.alloc | apply Fr.drew | refine Fr.setNew ?_ (by (try dsimp only); omega) _), _, rfl, ?_, (by repeat with_reducible first | exact D9.out | apply RD.alloc | apply RD.drew | refine RD.setCell ?_ (by (try dsimp only); omega) _)⟩
          obtain ⟨a9, c9, f9, e9, cp9, sk9, l9⟩ := (I9.out.done (x := (nk 10, ((one x).app (one y)).app (one z)))).out
          have L9 := hideIt l9
          rw [show (Value.slice (some ⟨gg, 0, none⟩) (Fo.len (.cons x.1 a2 c2 g2 (.cons y.1 a3 c3 g3 .nil)) + 1) cc) = .slice a9 f9.len c9 from e9]
          exact NV.mk (x := (nk 10, ((one x).app (one y)).app (one z))) (B' := x1.heap.size + 1) (U := x9.heap.size) cp9 sk9 (by repeat with_reducible first | exact L9.out | apply Ls.alloc | apply Ls.drew | refine Ls.set ?_ (by (try dsimp only); omega) _) (by omega) (by refine nf_ok ?_ ?_ ?_ ?_ ?_ ?_ ?_ ?_ ?_ <;> first | omega | decide | (rw [bs_size]; omega) | exact Nat.zero_le _)
        · go_simp
          (go_at_call 94; refine Calls.mono (okc h5 (C5.out _ (by repeat with_reducible first | exact D4.out | apply RD.alloc | apply RD.drew | refine RD.setCell ?_ (by (try dsimp only); omega) _))) ?_; rintro e x5 ⟨v5, rfl, hv5, f5, d5⟩; have D5 := hideIt d5; have F5 := hideIt (show Fr R w x5 from Fr.trans (by repeat with_reducible first | exact F4.out | apply Fr.alloc | apply Fr.drew | refine Fr.setNew ?_ (by (try dsimp only); omega) _) f5); have Z5 : x4.heap.size ≤ x5.heap.size := (by have z := f5.size; (try simp at z); omega); obtain ⟨a5, c5, g5, rfl, cp5, sk5, l5, ok5⟩ := hv5.out; have Lz_5 := hideIt (Ls.mono (B' := x4.heap.size) l5 (by (try simp); try omega) (Nat.le_refl _)); have Kz := hideIt (And.intro cp5 (And.intro sk5 ok5)); clear hv5 l5 cp5 sk5 ok5; have Lx_5 := hideIt (Ls.fr (B := x1.heap.size + 1) (U := x2.heap.size) (a := a2) (f := g2) (by repeat with_reducible first | exact Lx_4.out | apply Ls.alloc | apply Ls.drew | refine Ls.set ?_ (by (try dsimp only); omega) _) (by omega) f5); have Ly_5 := hideIt (Ls.fr (B := x2.heap.size) (U := x3.heap.size) (a := a3) (f := g3) (by repeat with_reducible first | exact Ly_4.out | apply Ls.alloc | apply Ls.drew | refine Ls.set ?_ (by (try dsimp only); omega) _) (by omega) f5); have Lk_5 := hideIt (Ls.fr (B := w.heap.size + 1) (U := x3.heap.size + 1) (a := (some ⟨x3.heap.size, 0, none⟩)) (f := (.cons x.1 a2 c2 g2 (.cons y.1 a3 c3 g3 .nil))) (by repeat with_reducible first | exact Lk_4.out | apply Ls.alloc | apply Ls.drew | refine Ls.set ?_ (by (try dsimp only); omega) _) (by omega) f5); have Br_5 := hideIt (Bx.fr (b := w.heap.size) (v := (nk 0)) (s := (.slice none 0 0)) (by repeat first | with_reducible exact Br_4.out | with_reducible apply Bx.alloc | with_reducible refine Bx.set ?_ (by (try dsimp only); omega) _ | with_reducible apply Bx.drew) (by omega) f5); have yr5 := Br_5.out.lt; have Bn_5 := hideIt (Bx.fr (b := x1.heap.size) (v := (nk 10)) (s := (.slice (some ⟨x3.heap.size, 0, none⟩) 2 2)) (by repeat first | with_reducible exact Bn_4.out | with_reducible apply Bx.alloc | with_reducible refine Bx.set ?_ (by (try dsimp only); omega) _ | with_reducible apply Bx.drew) (by omega) f5); have yn5 := Bn_5.out.lt; obtain ⟨r0, r1, r2, r3, r4, r5, r6, r7, r8, r9⟩ := Br_5.out.ten; have rf := Br_5.out.free; clear n0 n1 n2 n3 n4 n5 n6 n7 n8 n9 nf yn4; obtain ⟨n0, n1, n2, n3, n4, n5, n6, n7, n8, n9⟩ := Bn_5.out.ten; have nf := Bn_5.out.free; have Ik_5 := hideIt (LI.fr (R := R) (Ik_4.out.fr (R := R) (by omega) (Fr.refl R x4).drew) (by omega) f5); clear Lx_4 Ly_4 Lk_4 Br_4 Bn_4; clear C5; clear f5 d5)
          refine hK.out _ _ ?_ (fun hHeld => ?_)
          · trivial
          clear hK K
          try simp only [Act.put, List.setIfInBounds_toArray, List.set_cons_zero, List.set_cons_succ]
          refine wpAnyH_ready (rs := [1, 4]) (by kernel_rfl) (by simp) (AllReadyH.cons (o := ⟨_, _, _, _, _, _⟩) rfl (fun K hK => ?_) (AllReadyH.cons (o := ⟨_, _, _, _, _, _⟩) rfl (fun K hK => ?_) AllReadyH.nil))
          · go_simp
            refine hK.out _ _ ?_ (fun hHeld => ?_)
            · trivial
            clear hK K
            try simp only [Act.put, List.setIfInBounds_toArray, List.set_cons_zero, List.set_cons_succ]
            refine wpAnyH_ready (rs := [4]) (by kernel_rfl) (by simp) (AllReadyH.cons (o := ⟨_, _, _, _, _, _⟩) rfl (fun K hK => ?_) AllReadyH.nil)
            go_simp
            refine hK.out _ _ ?_ (fun hHeld => ?_)
            · trivial
            clear hK K
            try simp only [Act.put, List.setIfInBounds_toArray, List.set_cons_zero, List.set_cons_succ]
            refine wpAnyH_ready (rs := [5]) (by kernel_rfl) (by simp) (AllReadyH.cons (o := ⟨_, _, _, _, _, _⟩) rfl (fun K hK => ?_) AllReadyH.nil)
            refine app_step (B := x1.heap.size + 1) (X := x5) Ik_5.out (by omega) (by omega) (y := z) Lz_5.out (by omega) (fun k hk => by have e : x3.heap.size = k := (by simpa [Value.ownBlock] using hk); omega) Kz.out.2.2 Kz.out.2.1 Kz.out.1 (by simp [Fo.len]) rfl (.tmp 16) (.tmp 19) rfl rfl rfl ?_; intro gg cc x9 li9 gr9; have I9 := hideIt li9; have RL := hideIt (fun k hk => (Ik_5.out.lt k hk).1); have D9 := hideIt (RD.grown (D5.out.alloc _) gr9 (fun k hk => by have := RL.out k hk; omega)); have F9 := hideIt (Fr.grown (F5.out.alloc _) gr9 (fun k hk => by have := RL.out k hk; omega)); have Bn_9 := hideIt (Bx.grown (Bn_5.out.alloc _) gr9 (fun e => by have := RL.out _ e; omega)); have Br_9 := hideIt (Bx.grown (Br_5.out.alloc _) gr9 (fun e => by have := RL.out _ e; omega)); have yn9 := Bn_9.out.lt; have yr9 := Br_9.out.lt; clear n0 n1 n2 n3 n4 n5 n6 n7 n8 n9 nf yn5 r0 r1 r2 r3 r4 r5 r6 r7 r8 r9 rf yr5; obtain ⟨n0, n1, n2, n3, n4, n5, n6, n7, n8, n9⟩ := Bn_9.out.ten; have nf := Bn_9.out.free; obtain ⟨r0, r1, r2, r3, r4, r5, r6, r7, r8, r9⟩ := Br_9.out.ten; have rf := Br_9.out.free; clear li9 gr9
            refine hK.out _ _ ?_ (fun hHeld => ?_)
            · trivial
            clear hK K
            try simp only [Act.put, List.setIfInBounds_toArray, List.set_cons_zero, List.set_cons_succ]
            refine wpAnyH_take (i := 6) (oi := ⟨_, _, _, _, _, _⟩) (v := ?_) rfl (by kernel_rfl) (by kernel_rfl) (by kernel_rfl) (fun _ _ _ h => h) (Or.inl ⟨by rfl, ?_⟩) (by assumption) ?_
            rotate_left 1
            · intro w hSw; (try dsimp only at hSw); go_simp; all_goals with_reducible rfl
            try simp only [Act.put, List.setIfInBounds_toArray, List.set_cons_zero, List.set_cons_succ]
            refine wpAnyH_ready (rs := [7]) (by kernel_rfl) (by simp) (AllReadyH.cons (o := ⟨_, _, _, _, _, _⟩) rfl (fun K hK => ?_) AllReadyH.nil)
            go_simp
            refine hK.out _ _ ?_ (fun hHeld => ?_)
            · trivial
            clear hK K
            try simp only [Act.put, List.setIfInBounds_toArray, List.set_cons_zero, List.set_cons_succ]
            refine wpAnyH_done (by kernel_rfl) ?_ _
            go_wp2_with (fail)
            have ER := HR.out
            subst ER
            refine bodyPost_ret (v := nodeV (nk 10) (.slice (some ⟨gg, 0, none⟩) (Fo.len (.cons x.1 a2 c2 g2 (.cons y.1 a3 c3 g3 .nil)) + 1) cc)) (by simp [results, Tryz.results115, go_sem, *]) rfl ⟨(by repeat with_reducible first | exact F9.out | apply Fr.alloc | apply Fr.drew | refine Fr.setNew ?_ (by (try dsimp only); omega) _), _, rfl, ?_, (by repeat with_reducible first | exact D9.out | apply RD.alloc | apply RD.drew | refine RD.setCell ?_ (by (try dsimp only); omega) _)⟩
            obtain ⟨a9, c9, f9, e9, cp9, sk9, l9⟩ := (I9.out.done (x := (nk 10, ((one x).app (one y)).app (one z)))).out
            have L9 := hideIt l9
            rw [show (Value.slice (some ⟨gg, 0, none⟩) (Fo.len (.cons x.1 a2 c2 g2 (.cons y.1 a3 c3 g3 .nil)) + 1) cc) = .slice a9 f9.len c9 from e9]
            exact NV.mk (x := (nk 10, ((one x).app (one y)).app (one z))) (B' := x1.heap.size + 1) (U := x9.heap.size) cp9 sk9 (by repeat with_reducible first | exact L9.out | apply Ls.alloc | apply Ls.drew | refine Ls.set ?_ (by (try dsimp only); omega) _) (by omega) (by refine nf_ok ?_ ?_ ?_ ?_ ?_ ?_ ?_ ?_ ?_ <;> first | omega | decide | (rw [bs_size]; omega) | exact Nat.zero_le _)
          · go_simp
            refine hK.out _ _ ?_ (fun hHeld => ?_)
            · trivial
            clear hK K
            try simp only [Act.put, List.setIfInBounds_toArray, List.set_cons_zero, List.set_cons_succ]
            refine wpAnyH_ready (rs := [1]) (by kernel_rfl) (by simp) (AllReadyH.cons (o := ⟨_, _, _, _, _, _⟩) rfl (fun K hK => ?_) AllReadyH.nil)
            go_simp
            refine hK.out _ _ ?_ (fun hHeld => ?_)
            · trivial
            clear hK K
            try simp only [Act.put, List.setIfInBounds_toArray, List.set_cons_zero, List.set_cons_succ]
            refine wpAnyH_ready (rs := [5]) (by kernel_rfl) (by simp) (AllReadyH.cons (o := ⟨_, _, _, _, _, _⟩) rfl (fun K hK => ?_) AllReadyH.nil)
            refine app_step (B := x1.heap.size + 1) (X := x5) Ik_5.out (by omega) (by omega) (y := z) Lz_5.out (by omega) (fun k hk => by have e : x3.heap.size = k := (by simpa [Value.ownBlock] using hk); omega) Kz.out.2.2 Kz.out.2.1 Kz.out.1 (by simp [Fo.len]) rfl (.tmp 16) (.tmp 19) rfl rfl rfl ?_; intro gg cc x9 li9 gr9; have I9 := hideIt li9; have RL := hideIt (fun k hk => (Ik_5.out.lt k hk).1); have D9 := hideIt (RD.grown (D5.out.alloc _) gr9 (fun k hk => by have := RL.out k hk; omega)); have F9 := hideIt (Fr.grown (F5.out.alloc _) gr9 (fun k hk => by have := RL.out k hk; omega)); have Bn_9 := hideIt (Bx.grown (Bn_5.out.alloc _) gr9 (fun e => by have := RL.out _ e; omega)); have Br_9 := hideIt (Bx.grown (Br_5.out.alloc _) gr9 (fun e => by have := RL.out _ e; omega)); have yn9 := Bn_9.out.lt; have yr9 := Br_9.out.lt; clear n0 n1 n2 n3 n4 n5 n6 n7 n8 n9 nf yn5 r0 r1 r2 r3 r4 r5 r6 r7 r8 r9 rf yr5; obtain ⟨n0, n1, n2, n3, n4, n5, n6, n7, n8, n9⟩ := Bn_9.out.ten; have nf := Bn_9.out.free; obtain ⟨r0, r1, r2, r3, r4, r5, r6, r7, r8, r9⟩ := Br_9.out.ten; have rf := Br_9.out.free; clear li9 gr9
            refine hK.out _ _ ?_ (fun hHeld => ?_)
            · trivial
            clear hK K
            try simp only [Act.put, List.setIfInBounds_toArray, List.set_cons_zero, List.set_cons_succ]
            refine wpAnyH_take (i := 6) (oi := ⟨_, _, _, _, _, _⟩) (v := ?_) rfl (by kernel_rfl) (by kernel_rfl) (by kernel_rfl) (fun _ _ _ h => h) (Or.inl ⟨by rfl, ?_⟩) (by assumption) ?_
            rotate_left 1
            · intro w hSw; (try dsimp only at hSw); go_simp; all_goals with_reducible rfl
            try simp only [Act.put, List.setIfInBounds_toArray, List.set_cons_zero, List.set_cons_succ]
            refine wpAnyH_ready (rs := [7]) (by kernel_rfl) (by simp) (AllReadyH.cons (o := ⟨_, _, _, _, _, _⟩) rfl (fun K hK => ?_) AllReadyH.nil)
            go_simp
            refine hK.out _ _ ?_ (fun hHeld => ?_)
            · trivial
            clear hK K
            try simp only [Act.put, List.setIfInBounds_toArray, List.set_cons_zero, List.set_cons_succ]
            refine wpAnyH_done (by kernel_rfl) ?_ _
            go_wp2_with (fail)
            have ER := HR.out
            subst ER
            refine bodyPost_ret (v := nodeV (nk 10) (.slice (some ⟨gg, 0, none⟩) (Fo.len (.cons x.1 a2 c2 g2 (.cons y.1 a3 c3 g3 .nil)) + 1) cc)) (by simp [results, Tryz.results115, go_sem, *]) rfl ⟨(by repeat with_reducible first | exact F9.out | apply Fr.alloc | apply Fr.drew | refine Fr.setNew ?_ (by (try dsimp only); omega) _), _, rfl, ?_, (by repeat with_reducible first | exact D9.out | apply RD.alloc | apply RD.drew | refine RD.setCell ?_ (by (try dsimp only); omega) _)⟩
            obtain ⟨a9, c9, f9, e9, cp9, sk9, l9⟩ := (I9.out.done (x := (nk 10, ((one x).app (one y)).app (one z)))).out
            have L9 := hideIt l9
            rw [show (Value.slice (some ⟨gg, 0, none⟩) (Fo.len (.cons x.1 a2 c2 g2 (.cons y.1 a3 c3 g3 .nil)) + 1) cc) = .slice a9 f9.len c9 from e9]
            exact NV.mk (x := (nk 10, ((one x).app (one y)).app (one z))) (B' := x1.heap.size + 1) (U := x9.heap.size) cp9 sk9 (by repeat with_reducible first | exact L9.out | apply Ls.alloc | apply Ls.drew | refine Ls.set ?_ (by (try dsimp only); omega) _) (by omega) (by refine nf_ok ?_ ?_ ?_ ?_ ?_ ?_ ?_ ?_ ?_ <;> first | omega | decide | (rw [bs_size]; omega) | exact Nat.zero_le _)
      | false =>
       try simp only [Bool.false_eq_true, if_false] at HR
       have C4 := hideIt (fun X (h : RD X R g cap L s3) => try_any [101, 108, 115, 101] (by decide) R g cap L s3 X h)
       (go_at_call_of 64 (Value.string ⟨#[101, 108, 115, 101]⟩); refine Calls.mono (okc h4 (C4.out _ (by repeat with_reducible first | exact D3.out | apply RD.alloc | apply RD.drew | refine RD.setCell ?_ (by (try dsimp only); omega) _))) ?_; rintro e x4 ⟨v4, rfl, rfl, f4, d4⟩; have D4 := hideIt d4; have F4 := hideIt (show Fr R w x4 from Fr.trans (by repeat with_reducible first | exact F3.out | apply Fr.alloc | apply Fr.drew | refine Fr.setNew ?_ (by (try dsimp only); omega) _) f4); have Z4 : x3.heap.size + 1 ≤ x4.heap.size := (by have z := f4.size; (try simp at z); omega); have Lx_4 := hideIt (Ls.fr (B := x1.heap.size + 1) (U := x2.heap.size) (a := a2) (f := g2) (by repeat with_reducible first | exact Lx_3.out | apply Ls.alloc | apply Ls.drew | refine Ls.set ?_ (by (try dsimp only); omega) _) (by omega) f4); have Ly_4 := hideIt (Ls.fr (B := x2.heap.size) (U := x3.heap.size) (a := a3) (f := g3) (by repeat with_reducible first | exact Ly_3.out | apply Ls.alloc | apply Ls.drew | refine Ls.set ?_ (by (try dsimp only); omega) _) (by omega) f4); have Lk_4 := hideIt (Ls.fr (B := w.heap.size + 1) (U := x3.heap.size + 1) (a := (some ⟨x3.heap.size, 0, none⟩)) (f := (.cons x.1 a2 c2 g2 (.cons y.1 a3 c3 g3 .nil))) (Ls.two (B := x1.heap.size + 1) (U := x2.heap.size) (B2 := x2.heap.size) (U2 := x3.heap.size) (B' := w.heap.size + 1) (by repeat with_reducible first | exact Lx_3.out | apply Ls.alloc | apply Ls.drew | refine Ls.set ?_ (by (try dsimp only); omega) _) Kx.out.2.2 Kx.out.2.1 (by (try simp) <;> (try omega)) (by repeat with_reducible first | exact Ly_3.out | apply Ls.alloc | apply Ls.drew | refine Ls.set ?_ (by (try dsimp only); omega) _) Ky.out.2.2 Ky.out.2.1 (by (try simp) <;> (try omega)) (by first | (simp; done) | rfl) (by omega) (by omega) (by (try simp) <;> (try omega))) (by omega) f4); have Br_4 := hideIt (Bx.fr (b := w.heap.size) (v := (nk 0)) (s := (.slice none 0 0)) (by repeat first | with_reducible exact Br_3.out | with_reducible apply Bx.alloc | with_reducible refine Bx.set ?_ (by (try dsimp only); omega) _ | with_reducible apply Bx.drew) (by omega) f4); have yr4 := Br_4.out.lt; have Bn_4 := hideIt (Bx.fr (b := x1.heap.size) (v := (nk 10)) (s := (.slice (some ⟨x3.heap.size, 0, none⟩) 2 2)) (by repeat first | exact (Bx.put Bn_3.out 9 _ rfl) | with_reducible apply Bx.alloc | with_reducible refine Bx.set ?_ (by (try dsimp only); omega) _ | with_reducible apply Bx.drew) (by omega) f4); have yn4 := Bn_4.out.lt; obtain ⟨r0, r1, r2, r3, r4, r5, r6, r7, r8, r9⟩ := Br_4.out.ten; have rf := Br_4.out.free; clear n0 n1 n2 n3 n4 n5 n6 n7 n8 n9 nf yn3; obtain ⟨n0, n1, n2, n3, n4, n5, n6, n7, n8, n9⟩ := Bn_4.out.ten; have nf := Bn_4.out.free; have Ik_4 := hideIt (LI.fr (R := R) (B := x1.heap.size + 1) (LI.two (x := x) (y := y) (B1 := x1.heap.size + 1) (U1 := x2.heap.size) (B2 := x2.heap.size) (U2 := x3.heap.size) (a := a2) (f := g2) (a2 := a3) (f2 := g3) (c := c2) (c2 := c3) (by repeat with_reducible first | exact Lx_3.out | apply Ls.alloc | apply Ls.drew | refine Ls.set ?_ (by (try dsimp only); omega) _) (by repeat with_reducible first | exact Ly_3.out | apply Ls.alloc | apply Ls.drew | refine Ls.set ?_ (by (try dsimp only); omega) _) (by omega) (by omega) (b := x3.heap.size) (by first | (simp; done) | rfl) (by omega) Kx.out.2.2 Kx.out.2.1 Kx.out.1 Ky.out.2.2 Ky.out.2.1 Ky.out.1 (by omega) (by omega)) (by omega) f4); clear Lx_3 Ly_3 Br_3 Bn_3; clear C4; clear f4 d4)
       go_wp2_with (fail)
       have ER := HR.out
       subst ER
       refine bodyPost_ret (v := nodeV (nk 10) (.slice (some ⟨x3.heap.size, 0, none⟩) 2 2)) (by simp [results, Tryz.results115, go_sem, *]) rfl ⟨(by repeat with_reducible first | exact F4.out | apply Fr.alloc | apply Fr.drew | refine Fr.setNew ?_ (by (try dsimp only); omega) _), _, rfl, ?_, (by repeat with_reducible first | exact D4.out | apply RD.alloc | apply RD.drew | refine RD.setCell ?_ (by (try dsimp only); omega) _)⟩
       exact NV.mk (x := (nk 10, (one x).app (one y))) (B' := w.heap.size + 1) (U := x3.heap.size + 1) (f := (.cons x.1 a2 c2 g2 (.cons y.1 a3 c3 g3 .nil))) ⟨rfl, Kx.out.1, rfl, Ky.out.1, trivial⟩ sok2 (by repeat with_reducible first | exact Lk_4.out | apply Ls.alloc | apply Ls.drew | refine Ls.set ?_ (by (try dsimp only); omega) _) (by omega) (by refine nf_ok ?_ ?_ ?_ ?_ ?_ ?_ ?_ ?_ ?_ <;> first | omega | decide | (rw [bs_size]; omega) | exact Nat.zero_le _)

end Go.Proofs.YtoilhcklflmamaaGreatDoor
