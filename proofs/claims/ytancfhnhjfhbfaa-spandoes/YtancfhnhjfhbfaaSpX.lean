/-
  What Do of the document's answer for layer 10 returns: contracts over the program, for what is refused, and for shifts.
-/
import Derived.Test.YtancfhnhjfhbfaaSpS
set_option linter.unusedVariables false
namespace Go.Proofs.Ytancfhnhjfhbfaa
open Go.RowKit
open Burin
set_option linter.unusedVariables false

theorem nonB_le {l r : Int} (h : nonB l r = false) : l ≤ r := by unfold nonB at h; simpa using h

set_option maxRecDepth 100000 in
set_option maxHeartbeats 4000000 in
theorem rd_lo (op : Int) (t al ah bl bh : Int) (w : World) (h0 : 0 ≤ t) (ho : op < 1) : Calls Try.prog 11 #[.int .i64 op, .int .i64 t, spV al ah, spV bl bh] w fun e w' => e = .returned (.tuple #[.agg #[.int .i64 (doA op t al ah bl bh).1, .int .i64 (doA op t al ah bl bh).2.1], .bool (doA op t al ah bl bh).2.2]) ∧ Q w w' := by
  have e : doA op t al ah bl bh = (1, 0, false) := by unfold doA; rw [if_pos (by omega)]
  rw [e]
  clear e
  have R := hideIt (Q.refl (bx3 w al ah bl bh))
  have HE : Hid (∀ x, Calls Try.prog 41 #[] x fun e w' => e = .returned (.tuple #[.agg #[.int .i64 1, .int .i64 0], .bool false]) ∧ Q x w') := fun x => rno_any x
  have d1 : decide (op < 1) = true := by simpa using ho
  go_enter Try.func11, Try.ntmps11
  go_wp2_with (go_at_call 41; refine (HE.out _).mono ?_; rintro e x ⟨rfl, q⟩; (try clear c0 c1 c2 c3 c4 c5 f4 f5); have R := hideIt (R.out.trans q); clear q; obtain ⟨c0, c1, c2, c3, c4, c5, f4, f5⟩ := R.out.c6)
  exact bodyPost_ret (v := .tuple #[spV 1 0, .bool false]) (by simp [results, Try.results11, go_sem, c4, c5]) rfl ⟨rfl, q_set3 R.out _ _⟩

set_option maxRecDepth 100000 in
set_option maxHeartbeats 4000000 in
theorem rd_hi (op : Int) (t al ah bl bh : Int) (w : World) (h0 : 0 ≤ t) (ho : 16 < op) : Calls Try.prog 11 #[.int .i64 op, .int .i64 t, spV al ah, spV bl bh] w fun e w' => e = .returned (.tuple #[.agg #[.int .i64 (doA op t al ah bl bh).1, .int .i64 (doA op t al ah bl bh).2.1], .bool (doA op t al ah bl bh).2.2]) ∧ Q w w' := by
  have e : doA op t al ah bl bh = (1, 0, false) := by unfold doA; rw [if_pos (by omega)]
  rw [e]
  clear e
  have R := hideIt (Q.refl (bx3 w al ah bl bh))
  have HE : Hid (∀ x, Calls Try.prog 41 #[] x fun e w' => e = .returned (.tuple #[.agg #[.int .i64 1, .int .i64 0], .bool false]) ∧ Q x w') := fun x => rno_any x
  have d1 : decide (op < 1) = false := by simp; omega
  have d2 : decide (16 < op) = true := by simpa using ho
  go_enter Try.func11, Try.ntmps11
  go_wp2_with (go_at_call 41; refine (HE.out _).mono ?_; rintro e x ⟨rfl, q⟩; (try clear c0 c1 c2 c3 c4 c5 f4 f5); have R := hideIt (R.out.trans q); clear q; obtain ⟨c0, c1, c2, c3, c4, c5, f4, f5⟩ := R.out.c6)
  exact bodyPost_ret (v := .tuple #[spV 1 0, .bool false]) (by simp [results, Try.results11, go_sem, c4, c5]) rfl ⟨rfl, q_set3 R.out _ _⟩

set_option maxRecDepth 100000 in
set_option maxHeartbeats 4000000 in
theorem rd_a (op : Int) (t al ah bl bh : Int) (w : World) (h0 : 0 ≤ t) (o1 : 1 ≤ op) (o2 : op ≤ 16) (ra : rtB t al ah = false) : Calls Try.prog 11 #[.int .i64 op, .int .i64 t, spV al ah, spV bl bh] w fun e w' => e = .returned (.tuple #[.agg #[.int .i64 (doA op t al ah bl bh).1, .int .i64 (doA op t al ah bl bh).2.1], .bool (doA op t al ah bl bh).2.2]) ∧ Q w w' := by
  have e : doA op t al ah bl bh = (1, 0, false) := by unfold doA; rw [if_pos (.inr (.inr ra))]
  rw [e]
  clear e
  have R := hideIt (Q.refl (bx3 w al ah bl bh))
  have HE : Hid (∀ x, Calls Try.prog 41 #[] x fun e w' => e = .returned (.tuple #[.agg #[.int .i64 1, .int .i64 0], .bool false]) ∧ Q x w') := fun x => rno_any x
  have HA : Hid (∀ x, Calls Try.prog 40 #[.int .i64 t, spV al ah] x fun e w' => e = .returned (.bool false) ∧ Q x w') := fun x => by have h := rright_any t al ah x h0; rw [ra] at h; exact h
  have d1 : decide (op < 1) = false := by simp; omega
  have d2 : decide (16 < op) = false := by simp; omega
  go_enter Try.func11, Try.ntmps11
  go_wp2_with (first | (go_at_call 40; refine (HA.out _).mono ?_; rintro e x ⟨rfl, q⟩; (try clear c0 c1 c2 c3 c4 c5 f4 f5); have R := hideIt (R.out.trans q); clear q; obtain ⟨c0, c1, c2, c3, c4, c5, f4, f5⟩ := R.out.c6) | (go_at_call 41; refine (HE.out _).mono ?_; rintro e x ⟨rfl, q⟩; (try clear c0 c1 c2 c3 c4 c5 f4 f5); have R := hideIt (R.out.trans q); clear q; obtain ⟨c0, c1, c2, c3, c4, c5, f4, f5⟩ := R.out.c6))
  exact bodyPost_ret (v := .tuple #[spV 1 0, .bool false]) (by simp [results, Try.results11, go_sem, c4, c5]) rfl ⟨rfl, q_set3 R.out _ _⟩

set_option maxRecDepth 100000 in
set_option maxHeartbeats 4000000 in
theorem rd_9n (t al ah bl bh : Int) (w : World) (h0 : 0 ≤ t) (ra : rtB t al ah = true) (hn : nonB bl bh = true) : Calls Try.prog 11 #[.int .i64 9, .int .i64 t, spV al ah, spV bl bh] w fun e w' => e = .returned (.tuple #[.agg #[.int .i64 (doA 9 t al ah bl bh).1, .int .i64 (doA 9 t al ah bl bh).2.1], .bool (doA 9 t al ah bl bh).2.2]) ∧ Q w w' := by
  have e : doA 9 t al ah bl bh = (1, 0, false) := by unfold doA; rw [if_neg (by rw [ra]; simp), if_pos (by omega)]; unfold shA; rw [hn]; rfl
  rw [e]
  clear e
  have R := hideIt (Q.refl (bx3 w al ah bl bh))
  have HE : Hid (∀ x, Calls Try.prog 41 #[] x fun e w' => e = .returned (.tuple #[.agg #[.int .i64 1, .int .i64 0], .bool false]) ∧ Q x w') := fun x => rno_any x
  have HA : Hid (∀ x, Calls Try.prog 40 #[.int .i64 t, spV al ah] x fun e w' => e = .returned (.bool true) ∧ Q x w') := fun x => by have h := rright_any t al ah x h0; rw [ra] at h; exact h
  have HN : Hid (∀ x, Calls Try.prog 42 #[spV bl bh] x fun e w' => e = .returned (.bool true) ∧ Q x w') := fun x => by have h := rnone_any bl bh x; rw [hn] at h; exact h
  go_enter Try.func11, Try.ntmps11
  go_wp2_with (first | (go_at_call 40; refine (HA.out _).mono ?_; rintro e x ⟨rfl, q⟩; (try clear c0 c1 c2 c3 c4 c5 f4 f5); have R := hideIt (R.out.trans q); clear q; obtain ⟨c0, c1, c2, c3, c4, c5, f4, f5⟩ := R.out.c6) | (go_at_call 42; refine (HN.out _).mono ?_; rintro e x ⟨rfl, q⟩; (try clear c0 c1 c2 c3 c4 c5 f4 f5); have R := hideIt (R.out.trans q); clear q; obtain ⟨c0, c1, c2, c3, c4, c5, f4, f5⟩ := R.out.c6) | (go_at_call 41; refine (HE.out _).mono ?_; rintro e x ⟨rfl, q⟩; (try clear c0 c1 c2 c3 c4 c5 f4 f5); have R := hideIt (R.out.trans q); clear q; obtain ⟨c0, c1, c2, c3, c4, c5, f4, f5⟩ := R.out.c6))
  exact bodyPost_ret (v := .tuple #[spV 1 0, .bool false]) (by simp [results, Try.results11, go_sem, c4, c5]) rfl ⟨rfl, q_set3 R.out _ _⟩

set_option maxRecDepth 100000 in
set_option maxHeartbeats 4000000 in
theorem rd_9l (t al ah bl bh : Int) (w : World) (h0 : 0 ≤ t) (ra : rtB t al ah = true) (hn : nonB bl bh = false) (hb : bl < 0) : Calls Try.prog 11 #[.int .i64 9, .int .i64 t, spV al ah, spV bl bh] w fun e w' => e = .returned (.tuple #[.agg #[.int .i64 (doA 9 t al ah bl bh).1, .int .i64 (doA 9 t al ah bl bh).2.1], .bool (doA 9 t al ah bl bh).2.2]) ∧ Q w w' := by
  have e : doA 9 t al ah bl bh = (low t, high t, false) := by unfold doA; rw [if_neg (by rw [ra]; simp), if_pos (by omega)]; unfold shA; rw [hn, show shB t bl bh = true by unfold shB; simp; omega]; rfl
  rw [e]
  clear e
  have R := hideIt (Q.refl (bx3 w al ah bl bh))
  have HF : Hid (∀ x, Calls Try.prog 17 #[.int .i64 t] x fun e w' => e = .returned (.agg #[.int .i64 (low t), .int .i64 (high t)]) ∧ Q x w') := fun x => rfull_any t x h0
  have HA : Hid (∀ x, Calls Try.prog 40 #[.int .i64 t, spV al ah] x fun e w' => e = .returned (.bool true) ∧ Q x w') := fun x => by have h := rright_any t al ah x h0; rw [ra] at h; exact h
  have HN : Hid (∀ x, Calls Try.prog 42 #[spV bl bh] x fun e w' => e = .returned (.bool false) ∧ Q x w') := fun x => by have h := rnone_any bl bh x; rw [hn] at h; exact h
  have hF : Hid (∀ y, Q (bx3 w al ah bl bh) y → y.cell? ⟨w.heap.size, 0, none⟩ = some (.int .i64 al) ∧ y.cell? ⟨w.heap.size, 1, none⟩ = some (.int .i64 ah) ∧ y.cell? ⟨w.heap.size + 1, 0, none⟩ = some (.int .i64 bl) ∧ y.cell? ⟨w.heap.size + 1, 1, none⟩ = some (.int .i64 bh)) := fun y h => (fun y (h : Q (bx3 w al ah bl bh) y) => (⟨h.c6.1, h.c6.2.1, h.c6.2.2.1, h.c6.2.2.2.1⟩ : y.cell? ⟨w.heap.size, 0, none⟩ = some (.int .i64 al) ∧ y.cell? ⟨w.heap.size, 1, none⟩ = some (.int .i64 ah) ∧ y.cell? ⟨w.heap.size + 1, 0, none⟩ = some (.int .i64 bl) ∧ y.cell? ⟨w.heap.size + 1, 1, none⟩ = some (.int .i64 bh))) y h
  have d1 : decide (bl < 0) = true := by simpa using hb
  generalize low t = tl at *
  generalize high t = th at *
  go_enter Try.func11, Try.ntmps11
  go_wp2_with (first | (go_at_call 40; refine (HA.out _).mono ?_; rintro e x ⟨rfl, q⟩; (try clear c0 c1 c2 c3 c4 c5 f4 f5); have R := hideIt (R.out.trans q); clear q; obtain ⟨c0, c1, c2, c3, c4, c5, f4, f5⟩ := R.out.c6) | (go_at_call 42; refine (HN.out _).mono ?_; rintro e x ⟨rfl, q⟩; (try clear c0 c1 c2 c3 c4 c5 f4 f5); have R := hideIt (R.out.trans q); clear q; obtain ⟨c0, c1, c2, c3, c4, c5, f4, f5⟩ := R.out.c6))
  clear c0 c1 c2 c3 c4 c5 f4 f5
  refine wp_region_held_drew (S := (fun y : World => Q (bx3 w al ah bl bh) y ∧ y.cell? ⟨w.heap.size, 0, none⟩ = some (.int .i64 al) ∧ y.cell? ⟨w.heap.size, 1, none⟩ = some (.int .i64 ah) ∧ y.cell? ⟨w.heap.size + 1, 0, none⟩ = some (.int .i64 bl) ∧ y.cell? ⟨w.heap.size + 1, 1, none⟩ = some (.int .i64 bh))) (by kernel_rfl) (⟨Q.drew R.out, hF.out _ (Q.drew R.out)⟩) (fun hHeld => ?_)
  refine wpAnyH_take (i := 0) (oi := ⟨_, _, _, _, _, _⟩) (v := ?_) rfl (by kernel_rfl) (by kernel_rfl) (by kernel_rfl) (fun _ _ _ h => h) (Or.inl ⟨by rfl, ?_⟩) (by assumption) ?_
  rotate_left 1
  · intro w hSw; (try dsimp only at hSw); go_simp; all_goals with_reducible rfl
  try simp only [Act.put, List.setIfInBounds_toArray, List.set_cons_zero, List.set_cons_succ]
  refine wpAnyH_take (i := 1) (oi := ⟨_, _, _, _, _, _⟩) (v := ?_) rfl (by kernel_rfl) (by kernel_rfl) (by kernel_rfl) (fun _ _ _ h => h) (Or.inl ⟨by rfl, ?_⟩) (by assumption) ?_
  rotate_left 1
  · intro w hSw; (try dsimp only at hSw); go_simp; all_goals with_reducible rfl
  try simp only [Act.put, List.setIfInBounds_toArray, List.set_cons_zero, List.set_cons_succ]
  refine wpAnyH_take (i := 2) (oi := ⟨_, _, _, _, _, _⟩) (v := ?_) rfl (by kernel_rfl) (by kernel_rfl) (by kernel_rfl) (fun _ _ _ h => h) (Or.inl ⟨by rfl, ?_⟩) (by assumption) ?_
  rotate_left 1
  · intro w hSw; (try dsimp only at hSw); go_simp; all_goals with_reducible rfl
  try simp only [Act.put, List.setIfInBounds_toArray, List.set_cons_zero, List.set_cons_succ]
  refine wpAnyH_take (i := 3) (oi := ⟨_, _, _, _, _, _⟩) (v := ?_) rfl (by kernel_rfl) (by kernel_rfl) (by kernel_rfl) (fun _ _ _ h => h) (Or.inl ⟨by rfl, ?_⟩) (by assumption) ?_
  rotate_left 1
  · intro w hSw; (try dsimp only at hSw); go_simp; all_goals with_reducible rfl
  try simp only [Act.put, List.setIfInBounds_toArray, List.set_cons_zero, List.set_cons_succ]
  refine wpAnyH_take (i := 4) (oi := ⟨_, _, _, _, _, _⟩) (v := undef) rfl (by kernel_rfl) (by kernel_rfl) (by kernel_rfl) (fun _ _ _ h => h) (Or.inr ⟨by rfl, rfl⟩) (by assumption) ?_
  try simp only [Act.put, List.setIfInBounds_toArray, List.set_cons_zero, List.set_cons_succ]
  refine wpAnyH_take (i := 5) (oi := ⟨_, _, _, _, _, _⟩) (v := undef) rfl (by kernel_rfl) (by kernel_rfl) (by kernel_rfl) (fun _ _ _ h => h) (Or.inr ⟨by rfl, rfl⟩) (by assumption) ?_
  try simp only [Act.put, List.setIfInBounds_toArray, List.set_cons_zero, List.set_cons_succ]
  refine wpAnyH_take (i := 6) (oi := ⟨_, _, _, _, _, _⟩) (v := undef) rfl (by kernel_rfl) (by kernel_rfl) (by kernel_rfl) (fun _ _ _ h => h) (Or.inr ⟨by rfl, rfl⟩) (by assumption) ?_
  try simp only [Act.put, List.setIfInBounds_toArray, List.set_cons_zero, List.set_cons_succ]
  refine wpAnyH_take (i := 7) (oi := ⟨_, _, _, _, _, _⟩) (v := undef) rfl (by kernel_rfl) (by kernel_rfl) (by kernel_rfl) (fun _ _ _ h => h) (Or.inr ⟨by rfl, rfl⟩) (by assumption) ?_
  try simp only [Act.put, List.setIfInBounds_toArray, List.set_cons_zero, List.set_cons_succ]
  refine wpAnyH_take (i := 8) (oi := ⟨_, _, _, _, _, _⟩) (v := undef) rfl (by kernel_rfl) (by kernel_rfl) (by kernel_rfl) (fun _ _ _ h => h) (Or.inr ⟨by rfl, rfl⟩) (by assumption) ?_
  try simp only [Act.put, List.setIfInBounds_toArray, List.set_cons_zero, List.set_cons_succ]
  refine wpAnyH_take (i := 9) (oi := ⟨_, _, _, _, _, _⟩) (v := ?_) rfl (by kernel_rfl) (by kernel_rfl) (by kernel_rfl) (fun _ _ _ h => h) (Or.inl ⟨by rfl, ?_⟩) (by assumption) ?_
  rotate_left 1
  · intro w hSw; (try dsimp only at hSw); go_simp; all_goals with_reducible rfl
  try simp only [Act.put, List.setIfInBounds_toArray, List.set_cons_zero, List.set_cons_succ]
  refine wpAnyH_done (by kernel_rfl) ?_ _
  have R := hideIt (Q.drew R.out)
  go_wp2_with (go_at_call 17; refine (HF.out _).mono ?_; rintro e x ⟨rfl, q⟩; (try clear c0 c1 c2 c3 c4 c5 f4 f5); have R := hideIt (R.out.trans q); clear q; obtain ⟨c0, c1, c2, c3, c4, c5, f4, f5⟩ := R.out.c6)
  exact bodyPost_ret (v := .tuple #[spV tl th, .bool false]) (by simp [results, Try.results11, go_sem, c4, c5]) rfl ⟨rfl, q_set3 R.out _ _⟩

set_option maxRecDepth 100000 in
set_option maxHeartbeats 4000000 in
theorem rd_9g (t al ah bl bh : Int) (w : World) (h0 : 0 ≤ t) (ra : rtB t al ah = true) (hn : nonB bl bh = false) (hb : 0 ≤ bl) (hb2 : wid t ≤ bh) : Calls Try.prog 11 #[.int .i64 9, .int .i64 t, spV al ah, spV bl bh] w fun e w' => e = .returned (.tuple #[.agg #[.int .i64 (doA 9 t al ah bl bh).1, .int .i64 (doA 9 t al ah bl bh).2.1], .bool (doA 9 t al ah bl bh).2.2]) ∧ Q w w' := by
  have e : doA 9 t al ah bl bh = (low t, high t, false) := by unfold doA; rw [if_neg (by rw [ra]; simp), if_pos (by omega)]; unfold shA; rw [hn, show shB t bl bh = true by unfold shB; simp; omega]; rfl
  rw [e]
  clear e
  have R := hideIt (Q.refl (bx3 w al ah bl bh))
  have HF : Hid (∀ x, Calls Try.prog 17 #[.int .i64 t] x fun e w' => e = .returned (.agg #[.int .i64 (low t), .int .i64 (high t)]) ∧ Q x w') := fun x => rfull_any t x h0
  have HA : Hid (∀ x, Calls Try.prog 40 #[.int .i64 t, spV al ah] x fun e w' => e = .returned (.bool true) ∧ Q x w') := fun x => by have h := rright_any t al ah x h0; rw [ra] at h; exact h
  have HN : Hid (∀ x, Calls Try.prog 42 #[spV bl bh] x fun e w' => e = .returned (.bool false) ∧ Q x w') := fun x => by have h := rnone_any bl bh x; rw [hn] at h; exact h
  have HW : Hid (∀ x, Calls Try.prog 43 #[.int .i64 t] x fun e w' => e = .returned (.int .i64 (wid t)) ∧ Q x w') := fun x => rwidth_any t x h0
  have hF : Hid (∀ y, Q (bx3 w al ah bl bh) y → y.cell? ⟨w.heap.size, 0, none⟩ = some (.int .i64 al) ∧ y.cell? ⟨w.heap.size, 1, none⟩ = some (.int .i64 ah) ∧ y.cell? ⟨w.heap.size + 1, 0, none⟩ = some (.int .i64 bl) ∧ y.cell? ⟨w.heap.size + 1, 1, none⟩ = some (.int .i64 bh)) := fun y h => (fun y (h : Q (bx3 w al ah bl bh) y) => (⟨h.c6.1, h.c6.2.1, h.c6.2.2.1, h.c6.2.2.2.1⟩ : y.cell? ⟨w.heap.size, 0, none⟩ = some (.int .i64 al) ∧ y.cell? ⟨w.heap.size, 1, none⟩ = some (.int .i64 ah) ∧ y.cell? ⟨w.heap.size + 1, 0, none⟩ = some (.int .i64 bl) ∧ y.cell? ⟨w.heap.size + 1, 1, none⟩ = some (.int .i64 bh))) y h
  have d1 : decide (bl < 0) = false := by simp; omega
  have d2 : decide (wid t ≤ bh) = true := by simpa using hb2
  generalize low t = tl at *
  generalize high t = th at *
  generalize wid t = wd at *
  go_enter Try.func11, Try.ntmps11
  go_wp2_with (first | (go_at_call 40; refine (HA.out _).mono ?_; rintro e x ⟨rfl, q⟩; (try clear c0 c1 c2 c3 c4 c5 f4 f5); have R := hideIt (R.out.trans q); clear q; obtain ⟨c0, c1, c2, c3, c4, c5, f4, f5⟩ := R.out.c6) | (go_at_call 42; refine (HN.out _).mono ?_; rintro e x ⟨rfl, q⟩; (try clear c0 c1 c2 c3 c4 c5 f4 f5); have R := hideIt (R.out.trans q); clear q; obtain ⟨c0, c1, c2, c3, c4, c5, f4, f5⟩ := R.out.c6))
  clear c0 c1 c2 c3 c4 c5 f4 f5
  refine wp_region_held_drew (S := (fun y : World => Q (bx3 w al ah bl bh) y ∧ y.cell? ⟨w.heap.size, 0, none⟩ = some (.int .i64 al) ∧ y.cell? ⟨w.heap.size, 1, none⟩ = some (.int .i64 ah) ∧ y.cell? ⟨w.heap.size + 1, 0, none⟩ = some (.int .i64 bl) ∧ y.cell? ⟨w.heap.size + 1, 1, none⟩ = some (.int .i64 bh))) (by kernel_rfl) (⟨Q.drew R.out, hF.out _ (Q.drew R.out)⟩) (fun hHeld => ?_)
  refine wpAnyH_take (i := 0) (oi := ⟨_, _, _, _, _, _⟩) (v := ?_) rfl (by kernel_rfl) (by kernel_rfl) (by kernel_rfl) (fun _ _ _ h => h) (Or.inl ⟨by rfl, ?_⟩) (by assumption) ?_
  rotate_left 1
  · intro w hSw; (try dsimp only at hSw); go_simp; all_goals with_reducible rfl
  try simp only [Act.put, List.setIfInBounds_toArray, List.set_cons_zero, List.set_cons_succ]
  refine wpAnyH_take (i := 1) (oi := ⟨_, _, _, _, _, _⟩) (v := ?_) rfl (by kernel_rfl) (by kernel_rfl) (by kernel_rfl) (fun _ _ _ h => h) (Or.inl ⟨by rfl, ?_⟩) (by assumption) ?_
  rotate_left 1
  · intro w hSw; (try dsimp only at hSw); go_simp; all_goals with_reducible rfl
  try simp only [Act.put, List.setIfInBounds_toArray, List.set_cons_zero, List.set_cons_succ]
  refine wpAnyH_take (i := 2) (oi := ⟨_, _, _, _, _, _⟩) (v := ?_) rfl (by kernel_rfl) (by kernel_rfl) (by kernel_rfl) (fun _ _ _ h => h) (Or.inl ⟨by rfl, ?_⟩) (by assumption) ?_
  rotate_left 1
  · intro w hSw; (try dsimp only at hSw); go_simp; all_goals with_reducible rfl
  try simp only [Act.put, List.setIfInBounds_toArray, List.set_cons_zero, List.set_cons_succ]
  refine wpAnyH_take (i := 3) (oi := ⟨_, _, _, _, _, _⟩) (v := ?_) rfl (by kernel_rfl) (by kernel_rfl) (by kernel_rfl) (fun _ _ _ h => h) (Or.inl ⟨by rfl, ?_⟩) (by assumption) ?_
  rotate_left 1
  · intro w hSw; (try dsimp only at hSw); go_simp; all_goals with_reducible rfl
  try simp only [Act.put, List.setIfInBounds_toArray, List.set_cons_zero, List.set_cons_succ]
  refine wpAnyH_take (i := 4) (oi := ⟨_, _, _, _, _, _⟩) (v := ?_) rfl (by kernel_rfl) (by kernel_rfl) (by kernel_rfl) (fun _ _ _ h => h) (Or.inl ⟨by rfl, ?_⟩) (by assumption) ?_
  rotate_left 1
  · intro w hSw; (try dsimp only at hSw); go_simp; all_goals with_reducible rfl
  try simp only [Act.put, List.setIfInBounds_toArray, List.set_cons_zero, List.set_cons_succ]
  refine wpAnyH_take (i := 5) (oi := ⟨_, _, _, _, _, _⟩) (v := ?_) rfl (by kernel_rfl) (by kernel_rfl) (by kernel_rfl) (fun _ _ _ h => h) (Or.inl ⟨by rfl, ?_⟩) (by assumption) ?_
  rotate_left 1
  · intro w hSw; (try dsimp only at hSw); go_simp; all_goals with_reducible rfl
  try simp only [Act.put, List.setIfInBounds_toArray, List.set_cons_zero, List.set_cons_succ]
  refine wpAnyH_take (i := 6) (oi := ⟨_, _, _, _, _, _⟩) (v := ?_) rfl (by kernel_rfl) (by kernel_rfl) (by kernel_rfl) (fun _ _ _ h => h) (Or.inl ⟨by rfl, ?_⟩) (by assumption) ?_
  rotate_left 1
  · intro w hSw; (try dsimp only at hSw); go_simp; all_goals with_reducible rfl
  try simp only [Act.put, List.setIfInBounds_toArray, List.set_cons_zero, List.set_cons_succ]
  refine wpAnyH_ready (rs := [7]) (by kernel_rfl) (by simp) (AllReadyH.cons (o := ⟨_, _, _, _, _, _⟩) rfl (fun K hK => ?_) AllReadyH.nil)
  go_simp
  refine (HW.out _).mono ?_; rintro e y ⟨rfl, q⟩; have s0 := (Q.drew R.out).trans q; go_wp2_with (fail)
  refine hK.out _ _ ?_ (fun hHeld => ?_)
  · first | assumption | exact ⟨s0, hF.out _ s0⟩
  clear hK K
  try simp only [Act.put, List.setIfInBounds_toArray, List.set_cons_zero, List.set_cons_succ]
  refine wpAnyH_take (i := 8) (oi := ⟨_, _, _, _, _, _⟩) (v := ?_) rfl (by kernel_rfl) (by kernel_rfl) (by kernel_rfl) (fun _ _ _ h => h) (Or.inl ⟨by rfl, ?_⟩) (by assumption) ?_
  rotate_left 1
  · intro w hSw; (try dsimp only at hSw); go_simp; all_goals with_reducible rfl
  try simp only [Act.put, List.setIfInBounds_toArray, List.set_cons_zero, List.set_cons_succ]
  refine wpAnyH_take (i := 9) (oi := ⟨_, _, _, _, _, _⟩) (v := ?_) rfl (by kernel_rfl) (by kernel_rfl) (by kernel_rfl) (fun _ _ _ h => h) (Or.inl ⟨by rfl, ?_⟩) (by assumption) ?_
  rotate_left 1
  · intro w hSw; (try dsimp only at hSw); go_simp; all_goals with_reducible rfl
  try simp only [Act.put, List.setIfInBounds_toArray, List.set_cons_zero, List.set_cons_succ]
  refine wpAnyH_done (by kernel_rfl) ?_ _
  have R := hideIt s0
  go_wp2_with (go_at_call 17; refine (HF.out _).mono ?_; rintro e x ⟨rfl, q⟩; (try clear c0 c1 c2 c3 c4 c5 f4 f5); have R := hideIt (R.out.trans q); clear q; obtain ⟨c0, c1, c2, c3, c4, c5, f4, f5⟩ := R.out.c6)
  exact bodyPost_ret (v := .tuple #[spV tl th, .bool false]) (by simp [results, Try.results11, go_sem, c4, c5]) rfl ⟨rfl, q_set3 R.out _ _⟩

set_option maxRecDepth 100000 in
set_option maxHeartbeats 4000000 in
theorem rd_9k (t al ah bl bh : Int) (w : World) (h0 : 0 ≤ t) (ra : rtB t al ah = true) (hn : nonB bl bh = false) (hb : 0 ≤ bl) (hb2 : bh < wid t) : Calls Try.prog 11 #[.int .i64 9, .int .i64 t, spV al ah, spV bl bh] w fun e w' => e = .returned (.tuple #[.agg #[.int .i64 (doA 9 t al ah bl bh).1, .int .i64 (doA 9 t al ah bl bh).2.1], .bool (doA 9 t al ah bl bh).2.2]) ∧ Q w w' := by
  have e : doA 9 t al ah bl bh = fiA t (coL 9 al ah bl bh) (coH 9 al ah bl bh) := by unfold doA; rw [if_neg (by rw [ra]; simp), if_pos (by omega)]; unfold shA; rw [hn, show shB t bl bh = false by unfold shB; simp; omega]; rfl
  rw [e]
  clear e
  have R := hideIt (Q.refl (bx3 w al ah bl bh))
  have HA : Hid (∀ x, Calls Try.prog 40 #[.int .i64 t, spV al ah] x fun e w' => e = .returned (.bool true) ∧ Q x w') := fun x => by have h := rright_any t al ah x h0; rw [ra] at h; exact h
  have HN : Hid (∀ x, Calls Try.prog 42 #[spV bl bh] x fun e w' => e = .returned (.bool false) ∧ Q x w') := fun x => by have h := rnone_any bl bh x; rw [hn] at h; exact h
  have HW : Hid (∀ x, Calls Try.prog 43 #[.int .i64 t] x fun e w' => e = .returned (.int .i64 (wid t)) ∧ Q x w') := fun x => rwidth_any t x h0
  have hF : Hid (∀ y, Q (bx3 w al ah bl bh) y → y.cell? ⟨w.heap.size, 0, none⟩ = some (.int .i64 al) ∧ y.cell? ⟨w.heap.size, 1, none⟩ = some (.int .i64 ah) ∧ y.cell? ⟨w.heap.size + 1, 0, none⟩ = some (.int .i64 bl) ∧ y.cell? ⟨w.heap.size + 1, 1, none⟩ = some (.int .i64 bh)) := fun y h => (fun y (h : Q (bx3 w al ah bl bh) y) => (⟨h.c6.1, h.c6.2.1, h.c6.2.2.1, h.c6.2.2.2.1⟩ : y.cell? ⟨w.heap.size, 0, none⟩ = some (.int .i64 al) ∧ y.cell? ⟨w.heap.size, 1, none⟩ = some (.int .i64 ah) ∧ y.cell? ⟨w.heap.size + 1, 0, none⟩ = some (.int .i64 bl) ∧ y.cell? ⟨w.heap.size + 1, 1, none⟩ = some (.int .i64 bh))) y h
  obtain ⟨a1, a2, hab⟩ := rtB_nb h0 ra
  have hbb := nonB_le hn
  have w32 := wid_le t
  have HC : Hid (∀ x, Calls Try.prog 44 #[.int .i64 9, spV al ah, spV bl bh] x fun e w' => e = .returned (.agg #[.int .i64 (coL 9 al ah bl bh), .int .i64 (coH 9 al ah bl bh)]) ∧ Q x w') := fun x => rcorners_any 9 al ah bl bh x (.inr (.inr (.inr (.inr (.inl ⟨rfl, a1, (by omega : 0 ≤ bl), (by omega : bl < 32)⟩))))) (.inr (.inr (.inr (.inr (.inl ⟨rfl, a1, (by omega : 0 ≤ bh), (by omega : bh < 32)⟩))))) (.inr (.inr (.inr (.inr (.inl ⟨rfl, a2, (by omega : 0 ≤ bl), (by omega : bl < 32)⟩))))) (.inr (.inr (.inr (.inr (.inl ⟨rfl, a2, (by omega : 0 ≤ bh), (by omega : bh < 32)⟩)))))
  have HI : Hid (∀ x, Calls Try.prog 45 #[.int .i64 t, .agg #[.int .i64 (coL 9 al ah bl bh), .int .i64 (coH 9 al ah bl bh)]] x fun e w' => e = .returned (.tuple #[.agg #[.int .i64 (fiL t (coL 9 al ah bl bh) (coH 9 al ah bl bh)), .int .i64 (fiH t (coL 9 al ah bl bh) (coH 9 al ah bl bh))], .bool (fiB t (coL 9 al ah bl bh) (coH 9 al ah bl bh))]) ∧ Q x w') := fun x => rfit_any t (coL 9 al ah bl bh) (coH 9 al ah bl bh) x h0
  unfold fiA
  generalize fiL t (coL 9 al ah bl bh) (coH 9 al ah bl bh) = z1 at *
  generalize fiH t (coL 9 al ah bl bh) (coH 9 al ah bl bh) = z2 at *
  generalize fiB t (coL 9 al ah bl bh) (coH 9 al ah bl bh) = z3 at *
  generalize coL 9 al ah bl bh = y1 at *
  generalize coH 9 al ah bl bh = y2 at *
  have d1 : decide (bl < 0) = false := by simp; omega
  have d2 : decide (wid t ≤ bh) = false := by simp; omega
  generalize wid t = wd at *
  go_enter Try.func11, Try.ntmps11
  go_wp2_with (first | (go_at_call 40; refine (HA.out _).mono ?_; rintro e x ⟨rfl, q⟩; (try clear c0 c1 c2 c3 c4 c5 f4 f5); have R := hideIt (R.out.trans q); clear q; obtain ⟨c0, c1, c2, c3, c4, c5, f4, f5⟩ := R.out.c6) | (go_at_call 42; refine (HN.out _).mono ?_; rintro e x ⟨rfl, q⟩; (try clear c0 c1 c2 c3 c4 c5 f4 f5); have R := hideIt (R.out.trans q); clear q; obtain ⟨c0, c1, c2, c3, c4, c5, f4, f5⟩ := R.out.c6))
  clear c0 c1 c2 c3 c4 c5 f4 f5
  refine wp_region_held_drew (S := (fun y : World => Q (bx3 w al ah bl bh) y ∧ y.cell? ⟨w.heap.size, 0, none⟩ = some (.int .i64 al) ∧ y.cell? ⟨w.heap.size, 1, none⟩ = some (.int .i64 ah) ∧ y.cell? ⟨w.heap.size + 1, 0, none⟩ = some (.int .i64 bl) ∧ y.cell? ⟨w.heap.size + 1, 1, none⟩ = some (.int .i64 bh))) (by kernel_rfl) (⟨Q.drew R.out, hF.out _ (Q.drew R.out)⟩) (fun hHeld => ?_)
  refine wpAnyH_take (i := 0) (oi := ⟨_, _, _, _, _, _⟩) (v := ?_) rfl (by kernel_rfl) (by kernel_rfl) (by kernel_rfl) (fun _ _ _ h => h) (Or.inl ⟨by rfl, ?_⟩) (by assumption) ?_
  rotate_left 1
  · intro w hSw; (try dsimp only at hSw); go_simp; all_goals with_reducible rfl
  try simp only [Act.put, List.setIfInBounds_toArray, List.set_cons_zero, List.set_cons_succ]
  refine wpAnyH_take (i := 1) (oi := ⟨_, _, _, _, _, _⟩) (v := ?_) rfl (by kernel_rfl) (by kernel_rfl) (by kernel_rfl) (fun _ _ _ h => h) (Or.inl ⟨by rfl, ?_⟩) (by assumption) ?_
  rotate_left 1
  · intro w hSw; (try dsimp only at hSw); go_simp; all_goals with_reducible rfl
  try simp only [Act.put, List.setIfInBounds_toArray, List.set_cons_zero, List.set_cons_succ]
  refine wpAnyH_take (i := 2) (oi := ⟨_, _, _, _, _, _⟩) (v := ?_) rfl (by kernel_rfl) (by kernel_rfl) (by kernel_rfl) (fun _ _ _ h => h) (Or.inl ⟨by rfl, ?_⟩) (by assumption) ?_
  rotate_left 1
  · intro w hSw; (try dsimp only at hSw); go_simp; all_goals with_reducible rfl
  try simp only [Act.put, List.setIfInBounds_toArray, List.set_cons_zero, List.set_cons_succ]
  refine wpAnyH_take (i := 3) (oi := ⟨_, _, _, _, _, _⟩) (v := ?_) rfl (by kernel_rfl) (by kernel_rfl) (by kernel_rfl) (fun _ _ _ h => h) (Or.inl ⟨by rfl, ?_⟩) (by assumption) ?_
  rotate_left 1
  · intro w hSw; (try dsimp only at hSw); go_simp; all_goals with_reducible rfl
  try simp only [Act.put, List.setIfInBounds_toArray, List.set_cons_zero, List.set_cons_succ]
  refine wpAnyH_take (i := 4) (oi := ⟨_, _, _, _, _, _⟩) (v := ?_) rfl (by kernel_rfl) (by kernel_rfl) (by kernel_rfl) (fun _ _ _ h => h) (Or.inl ⟨by rfl, ?_⟩) (by assumption) ?_
  rotate_left 1
  · intro w hSw; (try dsimp only at hSw); go_simp; all_goals with_reducible rfl
  try simp only [Act.put, List.setIfInBounds_toArray, List.set_cons_zero, List.set_cons_succ]
  refine wpAnyH_take (i := 5) (oi := ⟨_, _, _, _, _, _⟩) (v := ?_) rfl (by kernel_rfl) (by kernel_rfl) (by kernel_rfl) (fun _ _ _ h => h) (Or.inl ⟨by rfl, ?_⟩) (by assumption) ?_
  rotate_left 1
  · intro w hSw; (try dsimp only at hSw); go_simp; all_goals with_reducible rfl
  try simp only [Act.put, List.setIfInBounds_toArray, List.set_cons_zero, List.set_cons_succ]
  refine wpAnyH_take (i := 6) (oi := ⟨_, _, _, _, _, _⟩) (v := ?_) rfl (by kernel_rfl) (by kernel_rfl) (by kernel_rfl) (fun _ _ _ h => h) (Or.inl ⟨by rfl, ?_⟩) (by assumption) ?_
  rotate_left 1
  · intro w hSw; (try dsimp only at hSw); go_simp; all_goals with_reducible rfl
  try simp only [Act.put, List.setIfInBounds_toArray, List.set_cons_zero, List.set_cons_succ]
  refine wpAnyH_ready (rs := [7]) (by kernel_rfl) (by simp) (AllReadyH.cons (o := ⟨_, _, _, _, _, _⟩) rfl (fun K hK => ?_) AllReadyH.nil)
  go_simp
  refine (HW.out _).mono ?_; rintro e y ⟨rfl, q⟩; have s0 := (Q.drew R.out).trans q; go_wp2_with (fail)
  refine hK.out _ _ ?_ (fun hHeld => ?_)
  · first | assumption | exact ⟨s0, hF.out _ s0⟩
  clear hK K
  try simp only [Act.put, List.setIfInBounds_toArray, List.set_cons_zero, List.set_cons_succ]
  refine wpAnyH_take (i := 8) (oi := ⟨_, _, _, _, _, _⟩) (v := ?_) rfl (by kernel_rfl) (by kernel_rfl) (by kernel_rfl) (fun _ _ _ h => h) (Or.inl ⟨by rfl, ?_⟩) (by assumption) ?_
  rotate_left 1
  · intro w hSw; (try dsimp only at hSw); go_simp; all_goals with_reducible rfl
  try simp only [Act.put, List.setIfInBounds_toArray, List.set_cons_zero, List.set_cons_succ]
  refine wpAnyH_take (i := 9) (oi := ⟨_, _, _, _, _, _⟩) (v := ?_) rfl (by kernel_rfl) (by kernel_rfl) (by kernel_rfl) (fun _ _ _ h => h) (Or.inl ⟨by rfl, ?_⟩) (by assumption) ?_
  rotate_left 1
  · intro w hSw; (try dsimp only at hSw); go_simp; all_goals with_reducible rfl
  try simp only [Act.put, List.setIfInBounds_toArray, List.set_cons_zero, List.set_cons_succ]
  refine wpAnyH_done (by kernel_rfl) ?_ _
  have R := hideIt s0
  obtain ⟨c0, c1, c2, c3, c4, c5, f4, f5⟩ := R.out.c6
  go_wp2_with (first | (go_at_call 44; refine (HC.out _).mono ?_; rintro e x ⟨rfl, q⟩; (try clear c0 c1 c2 c3 c4 c5 f4 f5); have R := hideIt (R.out.trans q); clear q; obtain ⟨c0, c1, c2, c3, c4, c5, f4, f5⟩ := R.out.c6) | (go_at_call 45; refine (HI.out _).mono ?_; rintro e x ⟨rfl, q⟩; (try clear c0 c1 c2 c3 c4 c5 f4 f5); have R := hideIt (R.out.trans q); clear q; obtain ⟨c0, c1, c2, c3, c4, c5, f4, f5⟩ := R.out.c6))
  exact bodyPost_ret (v := .tuple #[spV z1 z2, .bool z3]) (by simp [results, Try.results11, go_sem, c4, c5]) rfl ⟨rfl, q_set3 R.out _ _⟩

set_option maxRecDepth 100000 in
set_option maxHeartbeats 4000000 in
theorem rd_10n (t al ah bl bh : Int) (w : World) (h0 : 0 ≤ t) (ra : rtB t al ah = true) (hn : nonB bl bh = true) : Calls Try.prog 11 #[.int .i64 10, .int .i64 t, spV al ah, spV bl bh] w fun e w' => e = .returned (.tuple #[.agg #[.int .i64 (doA 10 t al ah bl bh).1, .int .i64 (doA 10 t al ah bl bh).2.1], .bool (doA 10 t al ah bl bh).2.2]) ∧ Q w w' := by
  have e : doA 10 t al ah bl bh = (1, 0, false) := by unfold doA; rw [if_neg (by rw [ra]; simp), if_pos (by omega)]; unfold shA; rw [hn]; rfl
  rw [e]
  clear e
  have R := hideIt (Q.refl (bx3 w al ah bl bh))
  have HE : Hid (∀ x, Calls Try.prog 41 #[] x fun e w' => e = .returned (.tuple #[.agg #[.int .i64 1, .int .i64 0], .bool false]) ∧ Q x w') := fun x => rno_any x
  have HA : Hid (∀ x, Calls Try.prog 40 #[.int .i64 t, spV al ah] x fun e w' => e = .returned (.bool true) ∧ Q x w') := fun x => by have h := rright_any t al ah x h0; rw [ra] at h; exact h
  have HN : Hid (∀ x, Calls Try.prog 42 #[spV bl bh] x fun e w' => e = .returned (.bool true) ∧ Q x w') := fun x => by have h := rnone_any bl bh x; rw [hn] at h; exact h
  go_enter Try.func11, Try.ntmps11
  go_wp2_with (first | (go_at_call 40; refine (HA.out _).mono ?_; rintro e x ⟨rfl, q⟩; (try clear c0 c1 c2 c3 c4 c5 f4 f5); have R := hideIt (R.out.trans q); clear q; obtain ⟨c0, c1, c2, c3, c4, c5, f4, f5⟩ := R.out.c6) | (go_at_call 42; refine (HN.out _).mono ?_; rintro e x ⟨rfl, q⟩; (try clear c0 c1 c2 c3 c4 c5 f4 f5); have R := hideIt (R.out.trans q); clear q; obtain ⟨c0, c1, c2, c3, c4, c5, f4, f5⟩ := R.out.c6) | (go_at_call 41; refine (HE.out _).mono ?_; rintro e x ⟨rfl, q⟩; (try clear c0 c1 c2 c3 c4 c5 f4 f5); have R := hideIt (R.out.trans q); clear q; obtain ⟨c0, c1, c2, c3, c4, c5, f4, f5⟩ := R.out.c6))
  exact bodyPost_ret (v := .tuple #[spV 1 0, .bool false]) (by simp [results, Try.results11, go_sem, c4, c5]) rfl ⟨rfl, q_set3 R.out _ _⟩

set_option maxRecDepth 100000 in
set_option maxHeartbeats 4000000 in
theorem rd_10l (t al ah bl bh : Int) (w : World) (h0 : 0 ≤ t) (ra : rtB t al ah = true) (hn : nonB bl bh = false) (hb : bl < 0) : Calls Try.prog 11 #[.int .i64 10, .int .i64 t, spV al ah, spV bl bh] w fun e w' => e = .returned (.tuple #[.agg #[.int .i64 (doA 10 t al ah bl bh).1, .int .i64 (doA 10 t al ah bl bh).2.1], .bool (doA 10 t al ah bl bh).2.2]) ∧ Q w w' := by
  have e : doA 10 t al ah bl bh = (low t, high t, false) := by unfold doA; rw [if_neg (by rw [ra]; simp), if_pos (by omega)]; unfold shA; rw [hn, show shB t bl bh = true by unfold shB; simp; omega]; rfl
  rw [e]
  clear e
  have R := hideIt (Q.refl (bx3 w al ah bl bh))
  have HF : Hid (∀ x, Calls Try.prog 17 #[.int .i64 t] x fun e w' => e = .returned (.agg #[.int .i64 (low t), .int .i64 (high t)]) ∧ Q x w') := fun x => rfull_any t x h0
  have HA : Hid (∀ x, Calls Try.prog 40 #[.int .i64 t, spV al ah] x fun e w' => e = .returned (.bool true) ∧ Q x w') := fun x => by have h := rright_any t al ah x h0; rw [ra] at h; exact h
  have HN : Hid (∀ x, Calls Try.prog 42 #[spV bl bh] x fun e w' => e = .returned (.bool false) ∧ Q x w') := fun x => by have h := rnone_any bl bh x; rw [hn] at h; exact h
  have hF : Hid (∀ y, Q (bx3 w al ah bl bh) y → y.cell? ⟨w.heap.size, 0, none⟩ = some (.int .i64 al) ∧ y.cell? ⟨w.heap.size, 1, none⟩ = some (.int .i64 ah) ∧ y.cell? ⟨w.heap.size + 1, 0, none⟩ = some (.int .i64 bl) ∧ y.cell? ⟨w.heap.size + 1, 1, none⟩ = some (.int .i64 bh)) := fun y h => (fun y (h : Q (bx3 w al ah bl bh) y) => (⟨h.c6.1, h.c6.2.1, h.c6.2.2.1, h.c6.2.2.2.1⟩ : y.cell? ⟨w.heap.size, 0, none⟩ = some (.int .i64 al) ∧ y.cell? ⟨w.heap.size, 1, none⟩ = some (.int .i64 ah) ∧ y.cell? ⟨w.heap.size + 1, 0, none⟩ = some (.int .i64 bl) ∧ y.cell? ⟨w.heap.size + 1, 1, none⟩ = some (.int .i64 bh))) y h
  have d1 : decide (bl < 0) = true := by simpa using hb
  generalize low t = tl at *
  generalize high t = th at *
  go_enter Try.func11, Try.ntmps11
  go_wp2_with (first | (go_at_call 40; refine (HA.out _).mono ?_; rintro e x ⟨rfl, q⟩; (try clear c0 c1 c2 c3 c4 c5 f4 f5); have R := hideIt (R.out.trans q); clear q; obtain ⟨c0, c1, c2, c3, c4, c5, f4, f5⟩ := R.out.c6) | (go_at_call 42; refine (HN.out _).mono ?_; rintro e x ⟨rfl, q⟩; (try clear c0 c1 c2 c3 c4 c5 f4 f5); have R := hideIt (R.out.trans q); clear q; obtain ⟨c0, c1, c2, c3, c4, c5, f4, f5⟩ := R.out.c6))
  clear c0 c1 c2 c3 c4 c5 f4 f5
  refine wp_region_held_drew (S := (fun y : World => Q (bx3 w al ah bl bh) y ∧ y.cell? ⟨w.heap.size, 0, none⟩ = some (.int .i64 al) ∧ y.cell? ⟨w.heap.size, 1, none⟩ = some (.int .i64 ah) ∧ y.cell? ⟨w.heap.size + 1, 0, none⟩ = some (.int .i64 bl) ∧ y.cell? ⟨w.heap.size + 1, 1, none⟩ = some (.int .i64 bh))) (by kernel_rfl) (⟨Q.drew R.out, hF.out _ (Q.drew R.out)⟩) (fun hHeld => ?_)
  refine wpAnyH_take (i := 0) (oi := ⟨_, _, _, _, _, _⟩) (v := ?_) rfl (by kernel_rfl) (by kernel_rfl) (by kernel_rfl) (fun _ _ _ h => h) (Or.inl ⟨by rfl, ?_⟩) (by assumption) ?_
  rotate_left 1
  · intro w hSw; (try dsimp only at hSw); go_simp; all_goals with_reducible rfl
  try simp only [Act.put, List.setIfInBounds_toArray, List.set_cons_zero, List.set_cons_succ]
  refine wpAnyH_take (i := 1) (oi := ⟨_, _, _, _, _, _⟩) (v := ?_) rfl (by kernel_rfl) (by kernel_rfl) (by kernel_rfl) (fun _ _ _ h => h) (Or.inl ⟨by rfl, ?_⟩) (by assumption) ?_
  rotate_left 1
  · intro w hSw; (try dsimp only at hSw); go_simp; all_goals with_reducible rfl
  try simp only [Act.put, List.setIfInBounds_toArray, List.set_cons_zero, List.set_cons_succ]
  refine wpAnyH_take (i := 2) (oi := ⟨_, _, _, _, _, _⟩) (v := ?_) rfl (by kernel_rfl) (by kernel_rfl) (by kernel_rfl) (fun _ _ _ h => h) (Or.inl ⟨by rfl, ?_⟩) (by assumption) ?_
  rotate_left 1
  · intro w hSw; (try dsimp only at hSw); go_simp; all_goals with_reducible rfl
  try simp only [Act.put, List.setIfInBounds_toArray, List.set_cons_zero, List.set_cons_succ]
  refine wpAnyH_take (i := 3) (oi := ⟨_, _, _, _, _, _⟩) (v := ?_) rfl (by kernel_rfl) (by kernel_rfl) (by kernel_rfl) (fun _ _ _ h => h) (Or.inl ⟨by rfl, ?_⟩) (by assumption) ?_
  rotate_left 1
  · intro w hSw; (try dsimp only at hSw); go_simp; all_goals with_reducible rfl
  try simp only [Act.put, List.setIfInBounds_toArray, List.set_cons_zero, List.set_cons_succ]
  refine wpAnyH_take (i := 4) (oi := ⟨_, _, _, _, _, _⟩) (v := undef) rfl (by kernel_rfl) (by kernel_rfl) (by kernel_rfl) (fun _ _ _ h => h) (Or.inr ⟨by rfl, rfl⟩) (by assumption) ?_
  try simp only [Act.put, List.setIfInBounds_toArray, List.set_cons_zero, List.set_cons_succ]
  refine wpAnyH_take (i := 5) (oi := ⟨_, _, _, _, _, _⟩) (v := undef) rfl (by kernel_rfl) (by kernel_rfl) (by kernel_rfl) (fun _ _ _ h => h) (Or.inr ⟨by rfl, rfl⟩) (by assumption) ?_
  try simp only [Act.put, List.setIfInBounds_toArray, List.set_cons_zero, List.set_cons_succ]
  refine wpAnyH_take (i := 6) (oi := ⟨_, _, _, _, _, _⟩) (v := undef) rfl (by kernel_rfl) (by kernel_rfl) (by kernel_rfl) (fun _ _ _ h => h) (Or.inr ⟨by rfl, rfl⟩) (by assumption) ?_
  try simp only [Act.put, List.setIfInBounds_toArray, List.set_cons_zero, List.set_cons_succ]
  refine wpAnyH_take (i := 7) (oi := ⟨_, _, _, _, _, _⟩) (v := undef) rfl (by kernel_rfl) (by kernel_rfl) (by kernel_rfl) (fun _ _ _ h => h) (Or.inr ⟨by rfl, rfl⟩) (by assumption) ?_
  try simp only [Act.put, List.setIfInBounds_toArray, List.set_cons_zero, List.set_cons_succ]
  refine wpAnyH_take (i := 8) (oi := ⟨_, _, _, _, _, _⟩) (v := undef) rfl (by kernel_rfl) (by kernel_rfl) (by kernel_rfl) (fun _ _ _ h => h) (Or.inr ⟨by rfl, rfl⟩) (by assumption) ?_
  try simp only [Act.put, List.setIfInBounds_toArray, List.set_cons_zero, List.set_cons_succ]
  refine wpAnyH_take (i := 9) (oi := ⟨_, _, _, _, _, _⟩) (v := ?_) rfl (by kernel_rfl) (by kernel_rfl) (by kernel_rfl) (fun _ _ _ h => h) (Or.inl ⟨by rfl, ?_⟩) (by assumption) ?_
  rotate_left 1
  · intro w hSw; (try dsimp only at hSw); go_simp; all_goals with_reducible rfl
  try simp only [Act.put, List.setIfInBounds_toArray, List.set_cons_zero, List.set_cons_succ]
  refine wpAnyH_done (by kernel_rfl) ?_ _
  have R := hideIt (Q.drew R.out)
  go_wp2_with (go_at_call 17; refine (HF.out _).mono ?_; rintro e x ⟨rfl, q⟩; (try clear c0 c1 c2 c3 c4 c5 f4 f5); have R := hideIt (R.out.trans q); clear q; obtain ⟨c0, c1, c2, c3, c4, c5, f4, f5⟩ := R.out.c6)
  exact bodyPost_ret (v := .tuple #[spV tl th, .bool false]) (by simp [results, Try.results11, go_sem, c4, c5]) rfl ⟨rfl, q_set3 R.out _ _⟩

set_option maxRecDepth 100000 in
set_option maxHeartbeats 4000000 in
theorem rd_10g (t al ah bl bh : Int) (w : World) (h0 : 0 ≤ t) (ra : rtB t al ah = true) (hn : nonB bl bh = false) (hb : 0 ≤ bl) (hb2 : wid t ≤ bh) : Calls Try.prog 11 #[.int .i64 10, .int .i64 t, spV al ah, spV bl bh] w fun e w' => e = .returned (.tuple #[.agg #[.int .i64 (doA 10 t al ah bl bh).1, .int .i64 (doA 10 t al ah bl bh).2.1], .bool (doA 10 t al ah bl bh).2.2]) ∧ Q w w' := by
  have e : doA 10 t al ah bl bh = (low t, high t, false) := by unfold doA; rw [if_neg (by rw [ra]; simp), if_pos (by omega)]; unfold shA; rw [hn, show shB t bl bh = true by unfold shB; simp; omega]; rfl
  rw [e]
  clear e
  have R := hideIt (Q.refl (bx3 w al ah bl bh))
  have HF : Hid (∀ x, Calls Try.prog 17 #[.int .i64 t] x fun e w' => e = .returned (.agg #[.int .i64 (low t), .int .i64 (high t)]) ∧ Q x w') := fun x => rfull_any t x h0
  have HA : Hid (∀ x, Calls Try.prog 40 #[.int .i64 t, spV al ah] x fun e w' => e = .returned (.bool true) ∧ Q x w') := fun x => by have h := rright_any t al ah x h0; rw [ra] at h; exact h
  have HN : Hid (∀ x, Calls Try.prog 42 #[spV bl bh] x fun e w' => e = .returned (.bool false) ∧ Q x w') := fun x => by have h := rnone_any bl bh x; rw [hn] at h; exact h
  have HW : Hid (∀ x, Calls Try.prog 43 #[.int .i64 t] x fun e w' => e = .returned (.int .i64 (wid t)) ∧ Q x w') := fun x => rwidth_any t x h0
  have hF : Hid (∀ y, Q (bx3 w al ah bl bh) y → y.cell? ⟨w.heap.size, 0, none⟩ = some (.int .i64 al) ∧ y.cell? ⟨w.heap.size, 1, none⟩ = some (.int .i64 ah) ∧ y.cell? ⟨w.heap.size + 1, 0, none⟩ = some (.int .i64 bl) ∧ y.cell? ⟨w.heap.size + 1, 1, none⟩ = some (.int .i64 bh)) := fun y h => (fun y (h : Q (bx3 w al ah bl bh) y) => (⟨h.c6.1, h.c6.2.1, h.c6.2.2.1, h.c6.2.2.2.1⟩ : y.cell? ⟨w.heap.size, 0, none⟩ = some (.int .i64 al) ∧ y.cell? ⟨w.heap.size, 1, none⟩ = some (.int .i64 ah) ∧ y.cell? ⟨w.heap.size + 1, 0, none⟩ = some (.int .i64 bl) ∧ y.cell? ⟨w.heap.size + 1, 1, none⟩ = some (.int .i64 bh))) y h
  have d1 : decide (bl < 0) = false := by simp; omega
  have d2 : decide (wid t ≤ bh) = true := by simpa using hb2
  generalize low t = tl at *
  generalize high t = th at *
  generalize wid t = wd at *
  go_enter Try.func11, Try.ntmps11
  go_wp2_with (first | (go_at_call 40; refine (HA.out _).mono ?_; rintro e x ⟨rfl, q⟩; (try clear c0 c1 c2 c3 c4 c5 f4 f5); have R := hideIt (R.out.trans q); clear q; obtain ⟨c0, c1, c2, c3, c4, c5, f4, f5⟩ := R.out.c6) | (go_at_call 42; refine (HN.out _).mono ?_; rintro e x ⟨rfl, q⟩; (try clear c0 c1 c2 c3 c4 c5 f4 f5); have R := hideIt (R.out.trans q); clear q; obtain ⟨c0, c1, c2, c3, c4, c5, f4, f5⟩ := R.out.c6))
  clear c0 c1 c2 c3 c4 c5 f4 f5
  refine wp_region_held_drew (S := (fun y : World => Q (bx3 w al ah bl bh) y ∧ y.cell? ⟨w.heap.size, 0, none⟩ = some (.int .i64 al) ∧ y.cell? ⟨w.heap.size, 1, none⟩ = some (.int .i64 ah) ∧ y.cell? ⟨w.heap.size + 1, 0, none⟩ = some (.int .i64 bl) ∧ y.cell? ⟨w.heap.size + 1, 1, none⟩ = some (.int .i64 bh))) (by kernel_rfl) (⟨Q.drew R.out, hF.out _ (Q.drew R.out)⟩) (fun hHeld => ?_)
  refine wpAnyH_take (i := 0) (oi := ⟨_, _, _, _, _, _⟩) (v := ?_) rfl (by kernel_rfl) (by kernel_rfl) (by kernel_rfl) (fun _ _ _ h => h) (Or.inl ⟨by rfl, ?_⟩) (by assumption) ?_
  rotate_left 1
  · intro w hSw; (try dsimp only at hSw); go_simp; all_goals with_reducible rfl
  try simp only [Act.put, List.setIfInBounds_toArray, List.set_cons_zero, List.set_cons_succ]
  refine wpAnyH_take (i := 1) (oi := ⟨_, _, _, _, _, _⟩) (v := ?_) rfl (by kernel_rfl) (by kernel_rfl) (by kernel_rfl) (fun _ _ _ h => h) (Or.inl ⟨by rfl, ?_⟩) (by assumption) ?_
  rotate_left 1
  · intro w hSw; (try dsimp only at hSw); go_simp; all_goals with_reducible rfl
  try simp only [Act.put, List.setIfInBounds_toArray, List.set_cons_zero, List.set_cons_succ]
  refine wpAnyH_take (i := 2) (oi := ⟨_, _, _, _, _, _⟩) (v := ?_) rfl (by kernel_rfl) (by kernel_rfl) (by kernel_rfl) (fun _ _ _ h => h) (Or.inl ⟨by rfl, ?_⟩) (by assumption) ?_
  rotate_left 1
  · intro w hSw; (try dsimp only at hSw); go_simp; all_goals with_reducible rfl
  try simp only [Act.put, List.setIfInBounds_toArray, List.set_cons_zero, List.set_cons_succ]
  refine wpAnyH_take (i := 3) (oi := ⟨_, _, _, _, _, _⟩) (v := ?_) rfl (by kernel_rfl) (by kernel_rfl) (by kernel_rfl) (fun _ _ _ h => h) (Or.inl ⟨by rfl, ?_⟩) (by assumption) ?_
  rotate_left 1
  · intro w hSw; (try dsimp only at hSw); go_simp; all_goals with_reducible rfl
  try simp only [Act.put, List.setIfInBounds_toArray, List.set_cons_zero, List.set_cons_succ]
  refine wpAnyH_take (i := 4) (oi := ⟨_, _, _, _, _, _⟩) (v := ?_) rfl (by kernel_rfl) (by kernel_rfl) (by kernel_rfl) (fun _ _ _ h => h) (Or.inl ⟨by rfl, ?_⟩) (by assumption) ?_
  rotate_left 1
  · intro w hSw; (try dsimp only at hSw); go_simp; all_goals with_reducible rfl
  try simp only [Act.put, List.setIfInBounds_toArray, List.set_cons_zero, List.set_cons_succ]
  refine wpAnyH_take (i := 5) (oi := ⟨_, _, _, _, _, _⟩) (v := ?_) rfl (by kernel_rfl) (by kernel_rfl) (by kernel_rfl) (fun _ _ _ h => h) (Or.inl ⟨by rfl, ?_⟩) (by assumption) ?_
  rotate_left 1
  · intro w hSw; (try dsimp only at hSw); go_simp; all_goals with_reducible rfl
  try simp only [Act.put, List.setIfInBounds_toArray, List.set_cons_zero, List.set_cons_succ]
  refine wpAnyH_take (i := 6) (oi := ⟨_, _, _, _, _, _⟩) (v := ?_) rfl (by kernel_rfl) (by kernel_rfl) (by kernel_rfl) (fun _ _ _ h => h) (Or.inl ⟨by rfl, ?_⟩) (by assumption) ?_
  rotate_left 1
  · intro w hSw; (try dsimp only at hSw); go_simp; all_goals with_reducible rfl
  try simp only [Act.put, List.setIfInBounds_toArray, List.set_cons_zero, List.set_cons_succ]
  refine wpAnyH_ready (rs := [7]) (by kernel_rfl) (by simp) (AllReadyH.cons (o := ⟨_, _, _, _, _, _⟩) rfl (fun K hK => ?_) AllReadyH.nil)
  go_simp
  refine (HW.out _).mono ?_; rintro e y ⟨rfl, q⟩; have s0 := (Q.drew R.out).trans q; go_wp2_with (fail)
  refine hK.out _ _ ?_ (fun hHeld => ?_)
  · first | assumption | exact ⟨s0, hF.out _ s0⟩
  clear hK K
  try simp only [Act.put, List.setIfInBounds_toArray, List.set_cons_zero, List.set_cons_succ]
  refine wpAnyH_take (i := 8) (oi := ⟨_, _, _, _, _, _⟩) (v := ?_) rfl (by kernel_rfl) (by kernel_rfl) (by kernel_rfl) (fun _ _ _ h => h) (Or.inl ⟨by rfl, ?_⟩) (by assumption) ?_
  rotate_left 1
  · intro w hSw; (try dsimp only at hSw); go_simp; all_goals with_reducible rfl
  try simp only [Act.put, List.setIfInBounds_toArray, List.set_cons_zero, List.set_cons_succ]
  refine wpAnyH_take (i := 9) (oi := ⟨_, _, _, _, _, _⟩) (v := ?_) rfl (by kernel_rfl) (by kernel_rfl) (by kernel_rfl) (fun _ _ _ h => h) (Or.inl ⟨by rfl, ?_⟩) (by assumption) ?_
  rotate_left 1
  · intro w hSw; (try dsimp only at hSw); go_simp; all_goals with_reducible rfl
  try simp only [Act.put, List.setIfInBounds_toArray, List.set_cons_zero, List.set_cons_succ]
  refine wpAnyH_done (by kernel_rfl) ?_ _
  have R := hideIt s0
  go_wp2_with (go_at_call 17; refine (HF.out _).mono ?_; rintro e x ⟨rfl, q⟩; (try clear c0 c1 c2 c3 c4 c5 f4 f5); have R := hideIt (R.out.trans q); clear q; obtain ⟨c0, c1, c2, c3, c4, c5, f4, f5⟩ := R.out.c6)
  exact bodyPost_ret (v := .tuple #[spV tl th, .bool false]) (by simp [results, Try.results11, go_sem, c4, c5]) rfl ⟨rfl, q_set3 R.out _ _⟩

set_option maxRecDepth 100000 in
set_option maxHeartbeats 4000000 in
theorem rd_10k (t al ah bl bh : Int) (w : World) (h0 : 0 ≤ t) (ra : rtB t al ah = true) (hn : nonB bl bh = false) (hb : 0 ≤ bl) (hb2 : bh < wid t) : Calls Try.prog 11 #[.int .i64 10, .int .i64 t, spV al ah, spV bl bh] w fun e w' => e = .returned (.tuple #[.agg #[.int .i64 (doA 10 t al ah bl bh).1, .int .i64 (doA 10 t al ah bl bh).2.1], .bool (doA 10 t al ah bl bh).2.2]) ∧ Q w w' := by
  have e : doA 10 t al ah bl bh = (coL 10 al ah bl bh, coH 10 al ah bl bh, true) := by unfold doA; rw [if_neg (by rw [ra]; simp), if_pos (by omega)]; unfold shA; rw [hn, show shB t bl bh = false by unfold shB; simp; omega]; rfl
  rw [e]
  clear e
  have R := hideIt (Q.refl (bx3 w al ah bl bh))
  have HA : Hid (∀ x, Calls Try.prog 40 #[.int .i64 t, spV al ah] x fun e w' => e = .returned (.bool true) ∧ Q x w') := fun x => by have h := rright_any t al ah x h0; rw [ra] at h; exact h
  have HN : Hid (∀ x, Calls Try.prog 42 #[spV bl bh] x fun e w' => e = .returned (.bool false) ∧ Q x w') := fun x => by have h := rnone_any bl bh x; rw [hn] at h; exact h
  have HW : Hid (∀ x, Calls Try.prog 43 #[.int .i64 t] x fun e w' => e = .returned (.int .i64 (wid t)) ∧ Q x w') := fun x => rwidth_any t x h0
  have hF : Hid (∀ y, Q (bx3 w al ah bl bh) y → y.cell? ⟨w.heap.size, 0, none⟩ = some (.int .i64 al) ∧ y.cell? ⟨w.heap.size, 1, none⟩ = some (.int .i64 ah) ∧ y.cell? ⟨w.heap.size + 1, 0, none⟩ = some (.int .i64 bl) ∧ y.cell? ⟨w.heap.size + 1, 1, none⟩ = some (.int .i64 bh)) := fun y h => (fun y (h : Q (bx3 w al ah bl bh) y) => (⟨h.c6.1, h.c6.2.1, h.c6.2.2.1, h.c6.2.2.2.1⟩ : y.cell? ⟨w.heap.size, 0, none⟩ = some (.int .i64 al) ∧ y.cell? ⟨w.heap.size, 1, none⟩ = some (.int .i64 ah) ∧ y.cell? ⟨w.heap.size + 1, 0, none⟩ = some (.int .i64 bl) ∧ y.cell? ⟨w.heap.size + 1, 1, none⟩ = some (.int .i64 bh))) y h
  obtain ⟨a1, a2, hab⟩ := rtB_nb h0 ra
  have hbb := nonB_le hn
  have w32 := wid_le t
  have HC : Hid (∀ x, Calls Try.prog 44 #[.int .i64 10, spV al ah, spV bl bh] x fun e w' => e = .returned (.agg #[.int .i64 (coL 10 al ah bl bh), .int .i64 (coH 10 al ah bl bh)]) ∧ Q x w') := fun x => rcorners_any 10 al ah bl bh x (.inr (.inr (.inr (.inr (.inr ⟨rfl, a1, (by omega : 0 ≤ bl), (by omega : bl < 32)⟩))))) (.inr (.inr (.inr (.inr (.inr ⟨rfl, a1, (by omega : 0 ≤ bh), (by omega : bh < 32)⟩))))) (.inr (.inr (.inr (.inr (.inr ⟨rfl, a2, (by omega : 0 ≤ bl), (by omega : bl < 32)⟩))))) (.inr (.inr (.inr (.inr (.inr ⟨rfl, a2, (by omega : 0 ≤ bh), (by omega : bh < 32)⟩)))))
  generalize coL 10 al ah bl bh = z1 at *
  generalize coH 10 al ah bl bh = z2 at *
  have d1 : decide (bl < 0) = false := by simp; omega
  have d2 : decide (wid t ≤ bh) = false := by simp; omega
  generalize wid t = wd at *
  go_enter Try.func11, Try.ntmps11
  go_wp2_with (first | (go_at_call 40; refine (HA.out _).mono ?_; rintro e x ⟨rfl, q⟩; (try clear c0 c1 c2 c3 c4 c5 f4 f5); have R := hideIt (R.out.trans q); clear q; obtain ⟨c0, c1, c2, c3, c4, c5, f4, f5⟩ := R.out.c6) | (go_at_call 42; refine (HN.out _).mono ?_; rintro e x ⟨rfl, q⟩; (try clear c0 c1 c2 c3 c4 c5 f4 f5); have R := hideIt (R.out.trans q); clear q; obtain ⟨c0, c1, c2, c3, c4, c5, f4, f5⟩ := R.out.c6))
  clear c0 c1 c2 c3 c4 c5 f4 f5
  refine wp_region_held_drew (S := (fun y : World => Q (bx3 w al ah bl bh) y ∧ y.cell? ⟨w.heap.size, 0, none⟩ = some (.int .i64 al) ∧ y.cell? ⟨w.heap.size, 1, none⟩ = some (.int .i64 ah) ∧ y.cell? ⟨w.heap.size + 1, 0, none⟩ = some (.int .i64 bl) ∧ y.cell? ⟨w.heap.size + 1, 1, none⟩ = some (.int .i64 bh))) (by kernel_rfl) (⟨Q.drew R.out, hF.out _ (Q.drew R.out)⟩) (fun hHeld => ?_)
  refine wpAnyH_take (i := 0) (oi := ⟨_, _, _, _, _, _⟩) (v := ?_) rfl (by kernel_rfl) (by kernel_rfl) (by kernel_rfl) (fun _ _ _ h => h) (Or.inl ⟨by rfl, ?_⟩) (by assumption) ?_
  rotate_left 1
  · intro w hSw; (try dsimp only at hSw); go_simp; all_goals with_reducible rfl
  try simp only [Act.put, List.setIfInBounds_toArray, List.set_cons_zero, List.set_cons_succ]
  refine wpAnyH_take (i := 1) (oi := ⟨_, _, _, _, _, _⟩) (v := ?_) rfl (by kernel_rfl) (by kernel_rfl) (by kernel_rfl) (fun _ _ _ h => h) (Or.inl ⟨by rfl, ?_⟩) (by assumption) ?_
  rotate_left 1
  · intro w hSw; (try dsimp only at hSw); go_simp; all_goals with_reducible rfl
  try simp only [Act.put, List.setIfInBounds_toArray, List.set_cons_zero, List.set_cons_succ]
  refine wpAnyH_take (i := 2) (oi := ⟨_, _, _, _, _, _⟩) (v := ?_) rfl (by kernel_rfl) (by kernel_rfl) (by kernel_rfl) (fun _ _ _ h => h) (Or.inl ⟨by rfl, ?_⟩) (by assumption) ?_
  rotate_left 1
  · intro w hSw; (try dsimp only at hSw); go_simp; all_goals with_reducible rfl
  try simp only [Act.put, List.setIfInBounds_toArray, List.set_cons_zero, List.set_cons_succ]
  refine wpAnyH_take (i := 3) (oi := ⟨_, _, _, _, _, _⟩) (v := ?_) rfl (by kernel_rfl) (by kernel_rfl) (by kernel_rfl) (fun _ _ _ h => h) (Or.inl ⟨by rfl, ?_⟩) (by assumption) ?_
  rotate_left 1
  · intro w hSw; (try dsimp only at hSw); go_simp; all_goals with_reducible rfl
  try simp only [Act.put, List.setIfInBounds_toArray, List.set_cons_zero, List.set_cons_succ]
  refine wpAnyH_take (i := 4) (oi := ⟨_, _, _, _, _, _⟩) (v := ?_) rfl (by kernel_rfl) (by kernel_rfl) (by kernel_rfl) (fun _ _ _ h => h) (Or.inl ⟨by rfl, ?_⟩) (by assumption) ?_
  rotate_left 1
  · intro w hSw; (try dsimp only at hSw); go_simp; all_goals with_reducible rfl
  try simp only [Act.put, List.setIfInBounds_toArray, List.set_cons_zero, List.set_cons_succ]
  refine wpAnyH_take (i := 5) (oi := ⟨_, _, _, _, _, _⟩) (v := ?_) rfl (by kernel_rfl) (by kernel_rfl) (by kernel_rfl) (fun _ _ _ h => h) (Or.inl ⟨by rfl, ?_⟩) (by assumption) ?_
  rotate_left 1
  · intro w hSw; (try dsimp only at hSw); go_simp; all_goals with_reducible rfl
  try simp only [Act.put, List.setIfInBounds_toArray, List.set_cons_zero, List.set_cons_succ]
  refine wpAnyH_take (i := 6) (oi := ⟨_, _, _, _, _, _⟩) (v := ?_) rfl (by kernel_rfl) (by kernel_rfl) (by kernel_rfl) (fun _ _ _ h => h) (Or.inl ⟨by rfl, ?_⟩) (by assumption) ?_
  rotate_left 1
  · intro w hSw; (try dsimp only at hSw); go_simp; all_goals with_reducible rfl
  try simp only [Act.put, List.setIfInBounds_toArray, List.set_cons_zero, List.set_cons_succ]
  refine wpAnyH_ready (rs := [7]) (by kernel_rfl) (by simp) (AllReadyH.cons (o := ⟨_, _, _, _, _, _⟩) rfl (fun K hK => ?_) AllReadyH.nil)
  go_simp
  refine (HW.out _).mono ?_; rintro e y ⟨rfl, q⟩; have s0 := (Q.drew R.out).trans q; go_wp2_with (fail)
  refine hK.out _ _ ?_ (fun hHeld => ?_)
  · first | assumption | exact ⟨s0, hF.out _ s0⟩
  clear hK K
  try simp only [Act.put, List.setIfInBounds_toArray, List.set_cons_zero, List.set_cons_succ]
  refine wpAnyH_take (i := 8) (oi := ⟨_, _, _, _, _, _⟩) (v := ?_) rfl (by kernel_rfl) (by kernel_rfl) (by kernel_rfl) (fun _ _ _ h => h) (Or.inl ⟨by rfl, ?_⟩) (by assumption) ?_
  rotate_left 1
  · intro w hSw; (try dsimp only at hSw); go_simp; all_goals with_reducible rfl
  try simp only [Act.put, List.setIfInBounds_toArray, List.set_cons_zero, List.set_cons_succ]
  refine wpAnyH_take (i := 9) (oi := ⟨_, _, _, _, _, _⟩) (v := ?_) rfl (by kernel_rfl) (by kernel_rfl) (by kernel_rfl) (fun _ _ _ h => h) (Or.inl ⟨by rfl, ?_⟩) (by assumption) ?_
  rotate_left 1
  · intro w hSw; (try dsimp only at hSw); go_simp; all_goals with_reducible rfl
  try simp only [Act.put, List.setIfInBounds_toArray, List.set_cons_zero, List.set_cons_succ]
  refine wpAnyH_done (by kernel_rfl) ?_ _
  have R := hideIt s0
  obtain ⟨c0, c1, c2, c3, c4, c5, f4, f5⟩ := R.out.c6
  go_wp2_with (go_at_call 44; refine (HC.out _).mono ?_; rintro e x ⟨rfl, q⟩; (try clear c0 c1 c2 c3 c4 c5 f4 f5); have R := hideIt (R.out.trans q); clear q; obtain ⟨c0, c1, c2, c3, c4, c5, f4, f5⟩ := R.out.c6)
  exact bodyPost_ret (v := .tuple #[spV z1 z2, .bool true]) (by simp [results, Try.results11, go_sem, c4, c5]) rfl ⟨rfl, q_set3 R.out _ _⟩

end Go.Proofs.Ytancfhnhjfhbfaa
