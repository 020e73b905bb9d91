/-
  A parameter: contracts over the program; the conditions: the reader lies in memory as it should, and what is called keeps its own contract.
-/
import Derived.Test.YtoilhcklflmamaaGreatDoorKPrG
namespace Go.Proofs.YtoilhcklflmamaaGreatDoor
open Go.RowKit
open Pr
set_option linter.unusedVariables false

set_option maxRecDepth 100000 in
set_option maxHeartbeats 4000000 in
theorem param_rd (R g cap : Nat) (L : List Tok) (n : Nat) (s : St) (hno : rd (n + 1) .param s ≠ .out) :
    Rule 93 #[] R g cap L s (rd (n + 1) .param s) := by
  intro w h
  have e : rd (n + 1) .param s = (intM s).bnd fun t s => (tryM [42] s).bnd fun b s => (nameM s).bnd fun nm s => (nodeM s).bnd fun _ s => .ok (⟨6, 0, if b then 3 else 0, t, 0, 0, 0, bs nm, ⟨#[]⟩⟩, .nil) s := rfl
  rw [e] at hno ⊢
  clear e
  have HD := hideIt h
  have hR := h.b.lt_size
  clear h
  obtain ⟨r, hr⟩ : ∃ r, ((intM s).bnd fun t s => (tryM [42] s).bnd fun b s => (nameM s).bnd fun nm s => (nodeM s).bnd fun _ s => .ok (⟨6, 0, if b then 3 else 0, t, 0, 0, 0, bs nm, ⟨#[]⟩⟩, .nil) s : Rs Nd) = r := ⟨_, rfl⟩
  rw [hr] at hno ⊢
  have HR := hideIt hr
  have HN := hideIt hno
  clear hr hno
  go_enter Tryz.func93, Tryz.ntmps93
  go_wp2_with (fail)
  cases h1 : intM s with
  | out => rw [h1] at HR; exact absurd HR.out.symm HN.out
  | bad k p =>
   rw [h1] at HR
   have C1 := hideIt (fun X (h : RD X R g cap L s) => int_rd R g cap L s X h)
   (go_at_call 70; refine Calls.mono (badc h1 (C1.out _ (by repeat with_reducible first | exact HD.out | apply RD.alloc | apply RD.drew | refine RD.setCell ?_ (by (try dsimp only); omega) _))) ?_; rintro e x1 ⟨rfl, f1⟩; have F1 := hideIt (show Fr R w x1 from Fr.trans (by repeat with_reducible first | exact (Fr.refl R w) | apply Fr.alloc | apply Fr.drew | refine Fr.setNew ?_ (by (try dsimp only); omega) _) f1); clear f1)
   have ER : Rs.bad k p = r := HR.out
   subst ER
   exact ⟨rfl, F1.out, rfl⟩
  | ok t s1 =>
   rw [h1] at HR
   try simp only [bnd_ok] at HR
   have C1 := hideIt (fun X (h : RD X R g cap L s) => int_rd R g cap L s X h)
   (go_at_call 70; refine Calls.mono (okc h1 (C1.out _ (by repeat with_reducible first | exact HD.out | apply RD.alloc | apply RD.drew | refine RD.setCell ?_ (by (try dsimp only); omega) _))) ?_; rintro e x1 ⟨v1, rfl, rfl, f1, d1⟩; have D1 := hideIt d1; have F1 := hideIt (show Fr R w x1 from Fr.trans (by repeat with_reducible first | exact (Fr.refl R w) | apply Fr.alloc | apply Fr.drew | refine Fr.setNew ?_ (by (try dsimp only); omega) _) f1); have Z1 : w.heap.size + 1 ≤ x1.heap.size := (by have z := f1.size; (try simp at z); omega); have Br_1 := hideIt (Bx.fr (b := w.heap.size) (v := (nk 0)) (s := (.slice none 0 0)) (by repeat first | refine Bx.newAt _ (nk 0) (.slice none 0 0) (by simp; done) | with_reducible apply Bx.alloc | with_reducible refine Bx.set ?_ (by (try dsimp only); omega) _ | with_reducible apply Bx.drew) (by omega) f1); have yr1 := Br_1.out.lt; clear C1; clear f1 d1)
   go_wp2_with (fail)
   cases h2 : tryM [42] s1 with
   | out => rw [h2] at HR; exact absurd HR.out.symm HN.out
   | bad k p =>
    rw [h2] at HR
    have C2 := hideIt (fun X (h : RD X R g cap L s1) => try_any [42] (by decide) R g cap L s1 X h)
    (go_at_call_of 64 (Value.string ⟨#[42]⟩); refine Calls.mono (badc h2 (C2.out _ (by repeat with_reducible first | exact D1.out | apply RD.alloc | apply RD.drew | refine RD.setCell ?_ (by (try dsimp only); omega) _))) ?_; rintro e x2 ⟨rfl, f2⟩; have F2 := hideIt (show Fr R w x2 from Fr.trans (by repeat with_reducible first | exact F1.out | apply Fr.alloc | apply Fr.drew | refine Fr.setNew ?_ (by (try dsimp only); omega) _) f2); clear f2)
    have ER : Rs.bad k p = r := HR.out
    subst ER
    exact ⟨rfl, F2.out, rfl⟩
   | ok b2 s2 =>
    rw [h2] at HR
    try simp only [bnd_ok] at HR
    cases b2 with
    | true =>
     try simp only [if_true] at HR
     have C2 := hideIt (fun X (h : RD X R g cap L s1) => try_any [42] (by decide) R g cap L s1 X h)
     (go_at_call_of 64 (Value.string ⟨#[42]⟩); refine Calls.mono (okc h2 (C2.out _ (by repeat with_reducible first | exact D1.out | apply RD.alloc | apply RD.drew | refine RD.setCell ?_ (by (try dsimp only); omega) _))) ?_; rintro e x2 ⟨v2, rfl, rfl, f2, d2⟩; have D2 := hideIt d2; have F2 := hideIt (show Fr R w x2 from Fr.trans (by repeat with_reducible first | exact F1.out | apply Fr.alloc | apply Fr.drew | refine Fr.setNew ?_ (by (try dsimp only); omega) _) f2); have Z2 : x1.heap.size + 1 ≤ x2.heap.size := (by have z := f2.size; (try simp at z); omega); have Br_2 := hideIt (Bx.fr (b := w.heap.size) (v := (nk 0)) (s := (.slice none 0 0)) (by repeat first | with_reducible exact Br_1.out | with_reducible apply Bx.alloc | with_reducible refine Bx.set ?_ (by (try dsimp only); omega) _ | with_reducible apply Bx.drew) (by omega) f2); have yr2 := Br_2.out.lt; have TB2 := hideIt (Fr.box (R := R) (x := x1) (by omega) f2); have tc0 := cell_of_block TB2.out 0; have tf0 := free_of_block TB2.out 0; clear Br_1; clear C2; clear f2 d2)
     go_wp2_with (fail)
     cases h3 : nameM s2 with
     | out => rw [h3] at HR; exact absurd HR.out.symm HN.out
     | bad k p =>
      rw [h3] at HR
      have C3 := hideIt (fun X (h : RD X R g cap L s2) => name_rd R g cap L s2 X h)
      refine wp_region_held_drew (S := fun w' => w'.heap[x1.heap.size]? = some (.cells #[.int .u8 3, .int .u8 (t : Int), .int .i64 0] 24 (0, 0))) (by kernel_rfl) ((block_setCell TB2.out _).trans rfl) (fun hHeld => ?_)
      refine wpAnyH_take (i := 0) (oi := ⟨_, _, _, _, _, _⟩) (v := ?_) rfl (by kernel_rfl) (by kernel_rfl) (by kernel_rfl) (fun _ _ _ h => h) (Or.inl ⟨by rfl, ?_⟩) (by assumption) ?_
      rotate_left 1
      · intro w' hSw; go_simp; all_goals with_reducible rfl
      try simp only [Act.put, List.setIfInBounds_toArray, List.set_cons_zero, List.set_cons_succ]
      refine wpAnyH_take (i := 1) (oi := ⟨_, _, _, _, _, _⟩) (v := ?_) rfl (by kernel_rfl) (by kernel_rfl) (by kernel_rfl) (fun _ _ _ h => h) (Or.inl ⟨by rfl, ?_⟩) (by assumption) ?_
      rotate_left 1
      · intro w' hSw; have q0 := cell_of_block hSw 0; have q1 := cell_of_block hSw 1; have q2 := cell_of_block hSw 2; go_simp; all_goals with_reducible rfl
      try simp only [Act.put, List.setIfInBounds_toArray, List.set_cons_zero, List.set_cons_succ]
      refine wpAnyH_take (i := 2) (oi := ⟨_, _, _, _, _, _⟩) (v := ?_) rfl (by kernel_rfl) (by kernel_rfl) (by kernel_rfl) (fun _ _ _ h => h) (Or.inl ⟨by rfl, ?_⟩) (by assumption) ?_
      rotate_left 1
      · intro w' hSw; go_simp; all_goals with_reducible rfl
      try simp only [Act.put, List.setIfInBounds_toArray, List.set_cons_zero, List.set_cons_succ]
      refine wpAnyH_ready (rs := [3]) (by kernel_rfl) (by simp) (AllReadyH.cons (o := ⟨_, _, _, _, _, _⟩) rfl (fun K hK => ?_) AllReadyH.nil)
      go_simp
      (go_at_call 65; refine Calls.mono (badc h3 (C3.out _ (by repeat with_reducible first | exact D2.out | apply RD.alloc | apply RD.drew | refine RD.setCell ?_ (by (try dsimp only); omega) _))) ?_; rintro e x3 ⟨rfl, f3⟩; have F3 := hideIt (show Fr R w x3 from Fr.trans (by repeat with_reducible first | exact F2.out | apply Fr.alloc | apply Fr.drew | refine Fr.setNew ?_ (by (try dsimp only); omega) _) f3); clear f3)
      have ER : Rs.bad k p = r := HR.out
      subst ER
      exact ⟨rfl, F3.out, rfl⟩
     | ok nm s3 =>
      rw [h3] at HR
      try simp only [bnd_ok] at HR
      have C3 := hideIt (fun X (h : RD X R g cap L s2) => name_rd R g cap L s2 X h)
      cases h4 : nodeM s3 with
      | out => rw [h4] at HR; exact absurd HR.out.symm HN.out
      | bad k p =>
       rw [h4] at HR
       have C4 := hideIt (fun X (h : RD X R g cap L s3) => node_rd R g cap L s3 X h ⟨6, 0, 3, t, 0, 0, 0, bs nm, ⟨#[]⟩⟩ none 0 0)
       refine wp_region_held_drew (S := fun w' => w'.heap[x1.heap.size]? = some (.cells #[.int .u8 3, .int .u8 (t : Int), .int .i64 0] 24 (0, 0))) (by kernel_rfl) ((block_setCell TB2.out _).trans rfl) (fun hHeld => ?_)
       refine wpAnyH_take (i := 0) (oi := ⟨_, _, _, _, _, _⟩) (v := ?_) rfl (by kernel_rfl) (by kernel_rfl) (by kernel_rfl) (fun _ _ _ h => h) (Or.inl ⟨by rfl, ?_⟩) (by assumption) ?_
       rotate_left 1
       · intro w' hSw; go_simp; all_goals with_reducible rfl
       try simp only [Act.put, List.setIfInBounds_toArray, List.set_cons_zero, List.set_cons_succ]
       refine wpAnyH_take (i := 1) (oi := ⟨_, _, _, _, _, _⟩) (v := ?_) rfl (by kernel_rfl) (by kernel_rfl) (by kernel_rfl) (fun _ _ _ h => h) (Or.inl ⟨by rfl, ?_⟩) (by assumption) ?_
       rotate_left 1
       · intro w' hSw; have q0 := cell_of_block hSw 0; have q1 := cell_of_block hSw 1; have q2 := cell_of_block hSw 2; go_simp; all_goals with_reducible rfl
       try simp only [Act.put, List.setIfInBounds_toArray, List.set_cons_zero, List.set_cons_succ]
       refine wpAnyH_take (i := 2) (oi := ⟨_, _, _, _, _, _⟩) (v := ?_) rfl (by kernel_rfl) (by kernel_rfl) (by kernel_rfl) (fun _ _ _ h => h) (Or.inl ⟨by rfl, ?_⟩) (by assumption) ?_
       rotate_left 1
       · intro w' hSw; go_simp; all_goals with_reducible rfl
       try simp only [Act.put, List.setIfInBounds_toArray, List.set_cons_zero, List.set_cons_succ]
       refine wpAnyH_ready (rs := [3]) (by kernel_rfl) (by simp) (AllReadyH.cons (o := ⟨_, _, _, _, _, _⟩) rfl (fun K hK => ?_) AllReadyH.nil)
       go_simp
       (go_at_call 65; refine Calls.mono (okc h3 (C3.out _ (by repeat with_reducible first | exact D2.out | apply RD.alloc | apply RD.drew | refine RD.setCell ?_ (by (try dsimp only); omega) _))) ?_; rintro e x3 ⟨v3, rfl, rfl, f3, d3⟩; have D3 := hideIt d3; have F3 := hideIt (show Fr R w x3 from Fr.trans (by repeat with_reducible first | exact F2.out | apply Fr.alloc | apply Fr.drew | refine Fr.setNew ?_ (by (try dsimp only); omega) _) f3); have Z3 : x2.heap.size ≤ x3.heap.size := (by have z := f3.size; (try simp at z); omega); have Br_3 := hideIt (Bx.fr (b := w.heap.size) (v := (nk 0)) (s := (.slice none 0 0)) (by repeat first | with_reducible exact Br_2.out | with_reducible apply Bx.alloc | with_reducible refine Bx.set ?_ (by (try dsimp only); omega) _ | with_reducible apply Bx.drew) (by omega) f3); have yr3 := Br_3.out.lt; obtain ⟨r0, r1, r2, r3, r4, r5, r6, r7, r8, r9⟩ := Br_3.out.ten; have rf := Br_3.out.free; have TBA := hideIt (Fr.keptD (R := R) (b := x1.heap.size) ((block_setCell TB2.out _).trans rfl) (by omega) f3); clear Br_2; clear C3; clear f3 d3)
       refine hK.out _ _ ?_ (fun hHeld => ?_)
       · exact TBA.out
       clear hK K
       try simp only [Act.put, List.setIfInBounds_toArray, List.set_cons_zero, List.set_cons_succ]
       refine wpAnyH_take (i := 4) (oi := ⟨_, _, _, _, _, _⟩) (v := ?_) rfl (by kernel_rfl) (by kernel_rfl) (by kernel_rfl) (fun _ _ _ h => h) (Or.inl ⟨by rfl, ?_⟩) (by assumption) ?_
       rotate_left 1
       · intro w' hSw; go_simp; all_goals with_reducible rfl
       try simp only [Act.put, List.setIfInBounds_toArray, List.set_cons_zero, List.set_cons_succ]
       refine wpAnyH_ready (rs := [5]) (by kernel_rfl) (by simp) (AllReadyH.cons (o := ⟨_, _, _, _, _, _⟩) rfl (fun K hK => ?_) AllReadyH.nil)
       go_simp
       (go_at_call 31; refine Calls.mono (badc h4 (C4.out _ (by repeat with_reducible first | exact D3.out | apply RD.alloc | apply RD.drew | refine RD.setCell ?_ (by (try dsimp only); omega) _))) ?_; rintro e x4 ⟨rfl, f4⟩; have F4 := hideIt (show Fr R w x4 from Fr.trans (by repeat with_reducible first | exact F3.out | apply Fr.alloc | apply Fr.drew | refine Fr.setNew ?_ (by (try dsimp only); omega) _) f4); clear f4)
       have ER : Rs.bad k p = r := HR.out
       subst ER
       exact ⟨rfl, F4.out, rfl⟩
      | ok u4 s4 =>
       rw [h4] at HR
       try simp only [bnd_ok] at HR
       have C4 := hideIt (fun X (h : RD X R g cap L s3) => node_rd R g cap L s3 X h ⟨6, 0, 3, t, 0, 0, 0, bs nm, ⟨#[]⟩⟩ none 0 0)
       refine wp_region_held_drew (S := fun w' => w'.heap[x1.heap.size]? = some (.cells #[.int .u8 3, .int .u8 (t : Int), .int .i64 0] 24 (0, 0))) (by kernel_rfl) ((block_setCell TB2.out _).trans rfl) (fun hHeld => ?_)
       refine wpAnyH_take (i := 0) (oi := ⟨_, _, _, _, _, _⟩) (v := ?_) rfl (by kernel_rfl) (by kernel_rfl) (by kernel_rfl) (fun _ _ _ h => h) (Or.inl ⟨by rfl, ?_⟩) (by assumption) ?_
       rotate_left 1
       · intro w' hSw; go_simp; all_goals with_reducible rfl
       try simp only [Act.put, List.setIfInBounds_toArray, List.set_cons_zero, List.set_cons_succ]
       refine wpAnyH_take (i := 1) (oi := ⟨_, _, _, _, _, _⟩) (v := ?_) rfl (by kernel_rfl) (by kernel_rfl) (by kernel_rfl) (fun _ _ _ h => h) (Or.inl ⟨by rfl, ?_⟩) (by assumption) ?_
       rotate_left 1
       · intro w' hSw; have q0 := cell_of_block hSw 0; have q1 := cell_of_block hSw 1; have q2 := cell_of_block hSw 2; go_simp; all_goals with_reducible rfl
       try simp only [Act.put, List.setIfInBounds_toArray, List.set_cons_zero, List.set_cons_succ]
       refine wpAnyH_take (i := 2) (oi := ⟨_, _, _, _, _, _⟩) (v := ?_) rfl (by kernel_rfl) (by kernel_rfl) (by kernel_rfl) (fun _ _ _ h => h) (Or.inl ⟨by rfl, ?_⟩) (by assumption) ?_
       rotate_left 1
       · intro w' hSw; go_simp; all_goals with_reducible rfl
       try simp only [Act.put, List.setIfInBounds_toArray, List.set_cons_zero, List.set_cons_succ]
       refine wpAnyH_ready (rs := [3]) (by kernel_rfl) (by simp) (AllReadyH.cons (o := ⟨_, _, _, _, _, _⟩) rfl (fun K hK => ?_) AllReadyH.nil)
       go_simp
       (go_at_call 65; refine Calls.mono (okc h3 (C3.out _ (by repeat with_reducible first | exact D2.out | apply RD.alloc | apply RD.drew | refine RD.setCell ?_ (by (try dsimp only); omega) _))) ?_; rintro e x3 ⟨v3, rfl, rfl, f3, d3⟩; have D3 := hideIt d3; have F3 := hideIt (show Fr R w x3 from Fr.trans (by repeat with_reducible first | exact F2.out | apply Fr.alloc | apply Fr.drew | refine Fr.setNew ?_ (by (try dsimp only); omega) _) f3); have Z3 : x2.heap.size ≤ x3.heap.size := (by have z := f3.size; (try simp at z); omega); have Br_3 := hideIt (Bx.fr (b := w.heap.size) (v := (nk 0)) (s := (.slice none 0 0)) (by repeat first | with_reducible exact Br_2.out | with_reducible apply Bx.alloc | with_reducible refine Bx.set ?_ (by (try dsimp only); omega) _ | with_reducible apply Bx.drew) (by omega) f3); have yr3 := Br_3.out.lt; obtain ⟨r0, r1, r2, r3, r4, r5, r6, r7, r8, r9⟩ := Br_3.out.ten; have rf := Br_3.out.free; have TBA := hideIt (Fr.keptD (R := R) (b := x1.heap.size) ((block_setCell TB2.out _).trans rfl) (by omega) f3); clear Br_2; clear C3; clear f3 d3)
       refine hK.out _ _ ?_ (fun hHeld => ?_)
       · exact TBA.out
       clear hK K
       try simp only [Act.put, List.setIfInBounds_toArray, List.set_cons_zero, List.set_cons_succ]
       refine wpAnyH_take (i := 4) (oi := ⟨_, _, _, _, _, _⟩) (v := ?_) rfl (by kernel_rfl) (by kernel_rfl) (by kernel_rfl) (fun _ _ _ h => h) (Or.inl ⟨by rfl, ?_⟩) (by assumption) ?_
       rotate_left 1
       · intro w' hSw; go_simp; all_goals with_reducible rfl
       try simp only [Act.put, List.setIfInBounds_toArray, List.set_cons_zero, List.set_cons_succ]
       refine wpAnyH_ready (rs := [5]) (by kernel_rfl) (by simp) (AllReadyH.cons (o := ⟨_, _, _, _, _, _⟩) rfl (fun K hK => ?_) AllReadyH.nil)
       go_simp
       (go_at_call 31; refine Calls.mono (okc h4 (C4.out _ (by repeat with_reducible first | exact D3.out | apply RD.alloc | apply RD.drew | refine RD.setCell ?_ (by (try dsimp only); omega) _))) ?_; rintro e x4 ⟨v4, rfl, rfl, f4, d4⟩; have D4 := hideIt d4; have F4 := hideIt (show Fr R w x4 from Fr.trans (by repeat with_reducible first | exact F3.out | apply Fr.alloc | apply Fr.drew | refine Fr.setNew ?_ (by (try dsimp only); omega) _) f4); have Z4 : x3.heap.size ≤ x4.heap.size := (by have z := f4.size; (try simp at z); omega); have Br_4 := hideIt (Bx.fr (b := w.heap.size) (v := (nk 0)) (s := (.slice none 0 0)) (by repeat first | with_reducible exact Br_3.out | with_reducible apply Bx.alloc | with_reducible refine Bx.set ?_ (by (try dsimp only); omega) _ | with_reducible apply Bx.drew) (by omega) f4); have yr4 := Br_4.out.lt; clear r0 r1 r2 r3 r4 r5 r6 r7 r8 r9 rf yr3; obtain ⟨r0, r1, r2, r3, r4, r5, r6, r7, r8, r9⟩ := Br_4.out.ten; have rf := Br_4.out.free; have TBB := hideIt (Fr.kept (R := R) TBA.out (by omega) f4); clear Br_3; clear C4; clear f4 d4)
       refine hK.out _ _ ?_ (fun hHeld => ?_)
       · exact TBB.out
       clear hK K
       try simp only [Act.put, List.setIfInBounds_toArray, List.set_cons_zero, List.set_cons_succ]
       refine wpAnyH_ready (rs := [6]) (by kernel_rfl) (by simp) (AllReadyH.cons (o := ⟨_, _, _, _, _, _⟩) rfl (fun K hK => ?_) AllReadyH.nil)
       go_simp
       refine hK.out _ _ ?_ (fun hHeld => ?_)
       · exact (by (iterate 10 (refine (Below.heap_setCell _ _ _ _ ?hh).trans ?_; case hh => ((try dsimp only); omega))); exact TBB.out)
       clear hK K
       try simp only [Act.put, List.setIfInBounds_toArray, List.set_cons_zero, List.set_cons_succ]
       refine wpAnyH_done (by kernel_rfl) ?_ _
       go_wp2_with (fail)
       have ER := HR.out
       subst ER
       have ob1 := int_ok h1 HD.out.p.wf
       have ob3 := name_ok h3 D2.out.p.wf
       refine bodyPost_ret (v := nodeV ⟨6, 0, 3, t, 0, 0, 0, bs nm, ⟨#[]⟩⟩ (.slice none 0 0)) (by simp [results, Tryz.results93, go_sem, *]) rfl ⟨(by repeat with_reducible first | exact F4.out | apply Fr.alloc | apply Fr.drew | refine Fr.setNew ?_ (by (try dsimp only); omega) _), _, rfl, ?_, (by repeat with_reducible first | exact D4.out | apply RD.alloc | apply RD.drew | refine RD.setCell ?_ (by (try dsimp only); omega) _)⟩
       exact NV.leaf (by refine nf_ok ?_ ?_ ?_ ?_ ?_ ?_ ?_ ?_ ?_ <;> first | omega | decide | (rw [bs_size]; omega) | exact Nat.zero_le _)
    | false =>
     try simp only [Bool.false_eq_true, if_false] at HR
     have C2 := hideIt (fun X (h : RD X R g cap L s1) => try_any [42] (by decide) R g cap L s1 X h)
     (go_at_call_of 64 (Value.string ⟨#[42]⟩); refine Calls.mono (okc h2 (C2.out _ (by repeat with_reducible first | exact D1.out | apply RD.alloc | apply RD.drew | refine RD.setCell ?_ (by (try dsimp only); omega) _))) ?_; rintro e x2 ⟨v2, rfl, rfl, f2, d2⟩; have D2 := hideIt d2; have F2 := hideIt (show Fr R w x2 from Fr.trans (by repeat with_reducible first | exact F1.out | apply Fr.alloc | apply Fr.drew | refine Fr.setNew ?_ (by (try dsimp only); omega) _) f2); have Z2 : x1.heap.size + 1 ≤ x2.heap.size := (by have z := f2.size; (try simp at z); omega); have Br_2 := hideIt (Bx.fr (b := w.heap.size) (v := (nk 0)) (s := (.slice none 0 0)) (by repeat first | with_reducible exact Br_1.out | with_reducible apply Bx.alloc | with_reducible refine Bx.set ?_ (by (try dsimp only); omega) _ | with_reducible apply Bx.drew) (by omega) f2); have yr2 := Br_2.out.lt; have TB2 := hideIt (Fr.box (R := R) (x := x1) (by omega) f2); have tc0 := cell_of_block TB2.out 0; have tf0 := free_of_block TB2.out 0; clear Br_1; clear C2; clear f2 d2)
     go_wp2_with (fail)
     cases h3 : nameM s2 with
     | out => rw [h3] at HR; exact absurd HR.out.symm HN.out
     | bad k p =>
      rw [h3] at HR
      have C3 := hideIt (fun X (h : RD X R g cap L s2) => name_rd R g cap L s2 X h)
      refine wp_region_held_drew (S := fun w' => w'.heap[x1.heap.size]? = some (.cells #[.int .u8 0, .int .u8 (t : Int), .int .i64 0] 24 (0, 0))) (by kernel_rfl) (TB2.out) (fun hHeld => ?_)
      refine wpAnyH_take (i := 0) (oi := ⟨_, _, _, _, _, _⟩) (v := ?_) rfl (by kernel_rfl) (by kernel_rfl) (by kernel_rfl) (fun _ _ _ h => h) (Or.inl ⟨by rfl, ?_⟩) (by assumption) ?_
      rotate_left 1
      · intro w' hSw; go_simp; all_goals with_reducible rfl
      try simp only [Act.put, List.setIfInBounds_toArray, List.set_cons_zero, List.set_cons_succ]
      refine wpAnyH_take (i := 1) (oi := ⟨_, _, _, _, _, _⟩) (v := ?_) rfl (by kernel_rfl) (by kernel_rfl) (by kernel_rfl) (fun _ _ _ h => h) (Or.inl ⟨by rfl, ?_⟩) (by assumption) ?_
      rotate_left 1
      · intro w' hSw; have q0 := cell_of_block hSw 0; have q1 := cell_of_block hSw 1; have q2 := cell_of_block hSw 2; go_simp; all_goals with_reducible rfl
      try simp only [Act.put, List.setIfInBounds_toArray, List.set_cons_zero, List.set_cons_succ]
      refine wpAnyH_take (i := 2) (oi := ⟨_, _, _, _, _, _⟩) (v := ?_) rfl (by kernel_rfl) (by kernel_rfl) (by kernel_rfl) (fun _ _ _ h => h) (Or.inl ⟨by rfl, ?_⟩) (by assumption) ?_
      rotate_left 1
      · intro w' hSw; go_simp; all_goals with_reducible rfl
      try simp only [Act.put, List.setIfInBounds_toArray, List.set_cons_zero, List.set_cons_succ]
      refine wpAnyH_ready (rs := [3]) (by kernel_rfl) (by simp) (AllReadyH.cons (o := ⟨_, _, _, _, _, _⟩) rfl (fun K hK => ?_) AllReadyH.nil)
      go_simp
      (go_at_call 65; refine Calls.mono (badc h3 (C3.out _ (by repeat with_reducible first | exact D2.out | apply RD.alloc | apply RD.drew | refine RD.setCell ?_ (by (try dsimp only); omega) _))) ?_; rintro e x3 ⟨rfl, f3⟩; have F3 := hideIt (show Fr R w x3 from Fr.trans (by repeat with_reducible first | exact F2.out | apply Fr.alloc | apply Fr.drew | refine Fr.setNew ?_ (by (try dsimp only); omega) _) f3); clear f3)
      have ER : Rs.bad k p = r := HR.out
      subst ER
      exact ⟨rfl, F3.out, rfl⟩
     | ok nm s3 =>
      rw [h3] at HR
      try simp only [bnd_ok] at HR
      have C3 := hideIt (fun X (h : RD X R g cap L s2) => name_rd R g cap L s2 X h)
      cases h4 : nodeM s3 with
      | out => rw [h4] at HR; exact absurd HR.out.symm HN.out
      | bad k p =>
       rw [h4] at HR
       have C4 := hideIt (fun X (h : RD X R g cap L s3) => node_rd R g cap L s3 X h ⟨6, 0, 0, t, 0, 0, 0, bs nm, ⟨#[]⟩⟩ none 0 0)
       refine wp_region_held_drew (S := fun w' => w'.heap[x1.heap.size]? = some (.cells #[.int .u8 0, .int .u8 (t : Int), .int .i64 0] 24 (0, 0))) (by kernel_rfl) (TB2.out) (fun hHeld => ?_)
       refine wpAnyH_take (i := 0) (oi := ⟨_, _, _, _, _, _⟩) (v := ?_) rfl (by kernel_rfl) (by kernel_rfl) (by kernel_rfl) (fun _ _ _ h => h) (Or.inl ⟨by rfl, ?_⟩) (by assumption) ?_
       rotate_left 1
       · intro w' hSw; go_simp; all_goals with_reducible rfl
       try simp only [Act.put, List.setIfInBounds_toArray, List.set_cons_zero, List.set_cons_succ]
       refine wpAnyH_take (i := 1) (oi := ⟨_, _, _, _, _, _⟩) (v := ?_) rfl (by kernel_rfl) (by kernel_rfl) (by kernel_rfl) (fun _ _ _ h => h) (Or.inl ⟨by rfl, ?_⟩) (by assumption) ?_
       rotate_left 1
       · intro w' hSw; have q0 := cell_of_block hSw 0; have q1 := cell_of_block hSw 1; have q2 := cell_of_block hSw 2; go_simp; all_goals with_reducible rfl
       try simp only [Act.put, List.setIfInBounds_toArray, List.set_cons_zero, List.set_cons_succ]
       refine wpAnyH_take (i := 2) (oi := ⟨_, _, _, _, _, _⟩) (v := ?_) rfl (by kernel_rfl) (by kernel_rfl) (by kernel_rfl) (fun _ _ _ h => h) (Or.inl ⟨by rfl, ?_⟩) (by assumption) ?_
       rotate_left 1
       · intro w' hSw; go_simp; all_goals with_reducible rfl
       try simp only [Act.put, List.setIfInBounds_toArray, List.set_cons_zero, List.set_cons_succ]
       refine wpAnyH_ready (rs := [3]) (by kernel_rfl) (by simp) (AllReadyH.cons (o := ⟨_, _, _, _, _, _⟩) rfl (fun K hK => ?_) AllReadyH.nil)
       go_simp
       (go_at_call 65; refine Calls.mono (okc h3 (C3.out _ (by repeat with_reducible first | exact D2.out | apply RD.alloc | apply RD.drew | refine RD.setCell ?_ (by (try dsimp only); omega) _))) ?_; rintro e x3 ⟨v3, rfl, rfl, f3, d3⟩; have D3 := hideIt d3; have F3 := hideIt (show Fr R w x3 from Fr.trans (by repeat with_reducible first | exact F2.out | apply Fr.alloc | apply Fr.drew | refine Fr.setNew ?_ (by (try dsimp only); omega) _) f3); have Z3 : x2.heap.size ≤ x3.heap.size := (by have z := f3.size; (try simp at z); omega); have Br_3 := hideIt (Bx.fr (b := w.heap.size) (v := (nk 0)) (s := (.slice none 0 0)) (by repeat first | with_reducible exact Br_2.out | with_reducible apply Bx.alloc | with_reducible refine Bx.set ?_ (by (try dsimp only); omega) _ | with_reducible apply Bx.drew) (by omega) f3); have yr3 := Br_3.out.lt; obtain ⟨r0, r1, r2, r3, r4, r5, r6, r7, r8, r9⟩ := Br_3.out.ten; have rf := Br_3.out.free; have TBA := hideIt (Fr.keptD (R := R) (b := x1.heap.size) (TB2.out) (by omega) f3); clear Br_2; clear C3; clear f3 d3)
       refine hK.out _ _ ?_ (fun hHeld => ?_)
       · exact TBA.out
       clear hK K
       try simp only [Act.put, List.setIfInBounds_toArray, List.set_cons_zero, List.set_cons_succ]
       refine wpAnyH_take (i := 4) (oi := ⟨_, _, _, _, _, _⟩) (v := ?_) rfl (by kernel_rfl) (by kernel_rfl) (by kernel_rfl) (fun _ _ _ h => h) (Or.inl ⟨by rfl, ?_⟩) (by assumption) ?_
       rotate_left 1
       · intro w' hSw; go_simp; all_goals with_reducible rfl
       try simp only [Act.put, List.setIfInBounds_toArray, List.set_cons_zero, List.set_cons_succ]
       refine wpAnyH_ready (rs := [5]) (by kernel_rfl) (by simp) (AllReadyH.cons (o := ⟨_, _, _, _, _, _⟩) rfl (fun K hK => ?_) AllReadyH.nil)
       go_simp
       (go_at_call 31; refine Calls.mono (badc h4 (C4.out _ (by repeat with_reducible first | exact D3.out | apply RD.alloc | apply RD.drew | refine RD.setCell ?_ (by (try dsimp only); omega) _))) ?_; rintro e x4 ⟨rfl, f4⟩; have F4 := hideIt (show Fr R w x4 from Fr.trans (by repeat with_reducible first | exact F3.out | apply Fr.alloc | apply Fr.drew | refine Fr.setNew ?_ (by (try dsimp only); omega) _) f4); clear f4)
       have ER : Rs.bad k p = r := HR.out
       subst ER
       exact ⟨rfl, F4.out, rfl⟩
      | ok u4 s4 =>
       rw [h4] at HR
       try simp only [bnd_ok] at HR
       have C4 := hideIt (fun X (h : RD X R g cap L s3) => node_rd R g cap L s3 X h ⟨6, 0, 0, t, 0, 0, 0, bs nm, ⟨#[]⟩⟩ none 0 0)
       refine wp_region_held_drew (S := fun w' => w'.heap[x1.heap.size]? = some (.cells #[.int .u8 0, .int .u8 (t : Int), .int .i64 0] 24 (0, 0))) (by kernel_rfl) (TB2.out) (fun hHeld => ?_)
       refine wpAnyH_take (i := 0) (oi := ⟨_, _, _, _, _, _⟩) (v := ?_) rfl (by kernel_rfl) (by kernel_rfl) (by kernel_rfl) (fun _ _ _ h => h) (Or.inl ⟨by rfl, ?_⟩) (by assumption) ?_
       rotate_left 1
       · intro w' hSw; go_simp; all_goals with_reducible rfl
       try simp only [Act.put, List.setIfInBounds_toArray, List.set_cons_zero, List.set_cons_succ]
       refine wpAnyH_take (i := 1) (oi := ⟨_, _, _, _, _, _⟩) (v := ?_) rfl (by kernel_rfl) (by kernel_rfl) (by kernel_rfl) (fun _ _ _ h => h) (Or.inl ⟨by rfl, ?_⟩) (by assumption) ?_
       rotate_left 1
       · intro w' hSw; have q0 := cell_of_block hSw 0; have q1 := cell_of_block hSw 1; have q2 := cell_of_block hSw 2; go_simp; all_goals with_reducible rfl
       try simp only [Act.put, List.setIfInBounds_toArray, List.set_cons_zero, List.set_cons_succ]
       refine wpAnyH_take (i := 2) (oi := ⟨_, _, _, _, _, _⟩) (v := ?_) rfl (by kernel_rfl) (by kernel_rfl) (by kernel_rfl) (fun _ _ _ h => h) (Or.inl ⟨by rfl, ?_⟩) (by assumption) ?_
       rotate_left 1
       · intro w' hSw; go_simp; all_goals with_reducible rfl
       try simp only [Act.put, List.setIfInBounds_toArray, List.set_cons_zero, List.set_cons_succ]
       refine wpAnyH_ready (rs := [3]) (by kernel_rfl) (by simp) (AllReadyH.cons (o := ⟨_, _, _, _, _, _⟩) rfl (fun K hK => ?_) AllReadyH.nil)
       go_simp
       (go_at_call 65; refine Calls.mono (okc h3 (C3.out _ (by repeat with_reducible first | exact D2.out | apply RD.alloc | apply RD.drew | refine RD.setCell ?_ (by (try dsimp only); omega) _))) ?_; rintro e x3 ⟨v3, rfl, rfl, f3, d3⟩; have D3 := hideIt d3; have F3 := hideIt (show Fr R w x3 from Fr.trans (by repeat with_reducible first | exact F2.out | apply Fr.alloc | apply Fr.drew | refine Fr.setNew ?_ (by (try dsimp only); omega) _) f3); have Z3 : x2.heap.size ≤ x3.heap.size := (by have z := f3.size; (try simp at z); omega); have Br_3 := hideIt (Bx.fr (b := w.heap.size) (v := (nk 0)) (s := (.slice none 0 0)) (by repeat first | with_reducible exact Br_2.out | with_reducible apply Bx.alloc | with_reducible refine Bx.set ?_ (by (try dsimp only); omega) _ | with_reducible apply Bx.drew) (by omega) f3); have yr3 := Br_3.out.lt; obtain ⟨r0, r1, r2, r3, r4, r5, r6, r7, r8, r9⟩ := Br_3.out.ten; have rf := Br_3.out.free; have TBA := hideIt (Fr.keptD (R := R) (b := x1.heap.size) (TB2.out) (by omega) f3); clear Br_2; clear C3; clear f3 d3)
       refine hK.out _ _ ?_ (fun hHeld => ?_)
       · exact TBA.out
       clear hK K
       try simp only [Act.put, List.setIfInBounds_toArray, List.set_cons_zero, List.set_cons_succ]
       refine wpAnyH_take (i := 4) (oi := ⟨_, _, _, _, _, _⟩) (v := ?_) rfl (by kernel_rfl) (by kernel_rfl) (by kernel_rfl) (fun _ _ _ h => h) (Or.inl ⟨by rfl, ?_⟩) (by assumption) ?_
       rotate_left 1
       · intro w' hSw; go_simp; all_goals with_reducible rfl
       try simp only [Act.put, List.setIfInBounds_toArray, List.set_cons_zero, List.set_cons_succ]
       refine wpAnyH_ready (rs := [5]) (by kernel_rfl) (by simp) (AllReadyH.cons (o := ⟨_, _, _, _, _, _⟩) rfl (fun K hK => ?_) AllReadyH.nil)
       go_simp
       (go_at_call 31; refine Calls.mono (okc h4 (C4.out _ (by repeat with_reducible first | exact D3.out | apply RD.alloc | apply RD.drew | refine RD.setCell ?_ (by (try dsimp only); omega) _))) ?_; rintro e x4 ⟨v4, rfl, rfl, f4, d4⟩; have D4 := hideIt d4; have F4 := hideIt (show Fr R w x4 from Fr.trans (by repeat with_reducible first | exact F3.out | apply Fr.alloc | apply Fr.drew | refine Fr.setNew ?_ (by (try dsimp only); omega) _) f4); have Z4 : x3.heap.size ≤ x4.heap.size := (by have z := f4.size; (try simp at z); omega); have Br_4 := hideIt (Bx.fr (b := w.heap.size) (v := (nk 0)) (s := (.slice none 0 0)) (by repeat first | with_reducible exact Br_3.out | with_reducible apply Bx.alloc | with_reducible refine Bx.set ?_ (by (try dsimp only); omega) _ | with_reducible apply Bx.drew) (by omega) f4); have yr4 := Br_4.out.lt; clear r0 r1 r2 r3 r4 r5 r6 r7 r8 r9 rf yr3; obtain ⟨r0, r1, r2, r3, r4, r5, r6, r7, r8, r9⟩ := Br_4.out.ten; have rf := Br_4.out.free; have TBB := hideIt (Fr.kept (R := R) TBA.out (by omega) f4); clear Br_3; clear C4; clear f4 d4)
       refine hK.out _ _ ?_ (fun hHeld => ?_)
       · exact TBB.out
       clear hK K
       try simp only [Act.put, List.setIfInBounds_toArray, List.set_cons_zero, List.set_cons_succ]
       refine wpAnyH_ready (rs := [6]) (by kernel_rfl) (by simp) (AllReadyH.cons (o := ⟨_, _, _, _, _, _⟩) rfl (fun K hK => ?_) AllReadyH.nil)
       go_simp
       refine hK.out _ _ ?_ (fun hHeld => ?_)
       · exact (by (iterate 10 (refine (Below.heap_setCell _ _ _ _ ?hh).trans ?_; case hh => ((try dsimp only); omega))); exact TBB.out)
       clear hK K
       try simp only [Act.put, List.setIfInBounds_toArray, List.set_cons_zero, List.set_cons_succ]
       refine wpAnyH_done (by kernel_rfl) ?_ _
       go_wp2_with (fail)
       have ER := HR.out
       subst ER
       have ob1 := int_ok h1 HD.out.p.wf
       have ob3 := name_ok h3 D2.out.p.wf
       refine bodyPost_ret (v := nodeV ⟨6, 0, 0, t, 0, 0, 0, bs nm, ⟨#[]⟩⟩ (.slice none 0 0)) (by simp [results, Tryz.results93, go_sem, *]) rfl ⟨(by repeat with_reducible first | exact F4.out | apply Fr.alloc | apply Fr.drew | refine Fr.setNew ?_ (by (try dsimp only); omega) _), _, rfl, ?_, (by repeat with_reducible first | exact D4.out | apply RD.alloc | apply RD.drew | refine RD.setCell ?_ (by (try dsimp only); omega) _)⟩
       exact NV.leaf (by refine nf_ok ?_ ?_ ?_ ?_ ?_ ?_ ?_ ?_ ?_ <;> first | omega | decide | (rw [bs_size]; omega) | exact Nat.zero_le _)

end Go.Proofs.YtoilhcklflmamaaGreatDoor
