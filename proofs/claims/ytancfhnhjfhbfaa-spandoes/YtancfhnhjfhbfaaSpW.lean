/-
  What divide of the document's answer for layer 10 returns: a contract over the program, whole; the conditions: numbers of at most 33 bits.
-/
import Derived.Test.YtancfhnhjfhbfaaSpU
import Derived.Test.YtancfhnhjfhbfaaSpVa
import Derived.Test.YtancfhnhjfhbfaaSpVb
import Derived.Test.YtancfhnhjfhbfaaSpVc
set_option linter.unusedVariables false
namespace Go.Proofs.Ytancfhnhjfhbfaa
open Go.RowKit
open Burin
set_option linter.unusedVariables false

set_option maxRecDepth 100000 in
set_option maxHeartbeats 4000000 in
theorem rdiv_zero (op t al ah bl bh : Int) (w : World) (h0 : 0 ≤ t) (hz : bl ≤ 0) (hz' : 0 ≤ bh) : Calls Try.prog 46 #[.int .i64 op, .int .i64 t, spV al ah, spV bl bh] w fun e w' => e = .returned (.tuple #[.agg #[.int .i64 (divA op t al ah bl bh).1, .int .i64 (divA op t al ah bl bh).2.1], .bool (divA op t al ah bl bh).2.2]) ∧ Q w w' := by
  have hba : baB t al ah bl bh = true := by
    unfold baB hasB
    simp
    exact .inl ⟨hz, hz'⟩
  have e : divA op t al ah bl bh = (low t, high t, false) := by unfold divA; rw [hba]; rfl
  rw [e]
  clear e hba
  have HF : Hid (∀ x, Calls Try.prog 17 #[.int .i64 t] x fun e w' => e = .returned (.agg #[.int .i64 (low t), .int .i64 (high t)]) ∧ Q x w') := fun x => rfull_any t x h0
  generalize low t = tl at *
  generalize high t = th at *
  have R := hideIt (Q.refl (bx3 w al ah bl bh))
  have d1 : decide (bl ≤ 0) = true := by simpa using hz
  have d2 : decide (0 ≤ bh) = true := by simpa using hz'
  go_enter Try.func46, Try.ntmps46
  go_wp2_with (go_at_call 17; refine (HF.out _).mono ?_; rintro e x ⟨rfl, q⟩; have R := hideIt (R.out.trans q); clear q; obtain ⟨c0, c1, c2, c3, c4, c5, f4, f5⟩ := R.out.c6)
  exact bodyPost_ret (v := .tuple #[spV tl th, .bool false]) (by simp [results, Try.results46, go_sem, c4, c5]) rfl ⟨rfl, q_set3 R.out _ _⟩

set_option maxRecDepth 100000 in
set_option maxHeartbeats 4000000 in
theorem rdiv_least (op t al ah bl bh : Int) (w : World) (h0 : 0 ≤ t) (hab : al ≤ ah) (hs : sgn t = true) (hn : al = low t) (hz : bl ≤ -1) (hz' : bh = -1) : Calls Try.prog 46 #[.int .i64 op, .int .i64 t, spV al ah, spV bl bh] w fun e w' => e = .returned (.tuple #[.agg #[.int .i64 (divA op t al ah bl bh).1, .int .i64 (divA op t al ah bl bh).2.1], .bool (divA op t al ah bl bh).2.2]) ∧ Q w w' := by
  have hba : baB t al ah bl bh = true := by
    unfold baB hasB
    rw [hs]
    simp
    omega
  have e : divA op t al ah bl bh = (low t, high t, false) := by unfold divA; rw [hba]; rfl
  rw [e]
  clear e hba
  have HF : Hid (∀ x, Calls Try.prog 17 #[.int .i64 t] x fun e w' => e = .returned (.agg #[.int .i64 (low t), .int .i64 (high t)]) ∧ Q x w') := fun x => rfull_any t x h0
  have hF : Hid (∀ y, Q (bx3 w al ah bl bh) y → y.cell? ⟨w.heap.size, 0, none⟩ = some (.int .i64 al) ∧ y.cell? ⟨w.heap.size, 1, none⟩ = some (.int .i64 ah) ∧ y.cell? ⟨w.heap.size + 1, 0, none⟩ = some (.int .i64 bl) ∧ y.cell? ⟨w.heap.size + 1, 1, none⟩ = some (.int .i64 bh)) := fun y h => (fun y (h : Q (bx3 w al ah bl bh) y) => (⟨h.c6.1, h.c6.2.1, h.c6.2.2.1, h.c6.2.2.2.1⟩ : y.cell? ⟨w.heap.size, 0, none⟩ = some (.int .i64 al) ∧ y.cell? ⟨w.heap.size, 1, none⟩ = some (.int .i64 ah) ∧ y.cell? ⟨w.heap.size + 1, 0, none⟩ = some (.int .i64 bl) ∧ y.cell? ⟨w.heap.size + 1, 1, none⟩ = some (.int .i64 bh))) y h
  have HG := hideIt (fun x => rsigned_any t x h0)
  rw [hs] at HG
  have HL := hideIt (fun x => rlow_any t x h0)
  have el : (al == low t) = true := by simp; exact hn
  generalize low t = tl at *
  generalize high t = th at *
  clear hn
  have d1 : decide (bl ≤ 0) = true := by simp; omega
  have d2 : decide (0 ≤ bh) = false := by simp; omega
  have d3 : decide (bl ≤ -1) = true := by simp; omega
  have d4 : decide (-1 ≤ bh) = true := by simp; omega
  clear hz'
  go_enter Try.func46, Try.ntmps46
  go_wp2_with (fail)
  refine wp_region_held_drew (S := (fun y : World => Q (bx3 w al ah bl bh) y ∧ y.cell? ⟨w.heap.size, 0, none⟩ = some (.int .i64 al) ∧ y.cell? ⟨w.heap.size, 1, none⟩ = some (.int .i64 ah) ∧ y.cell? ⟨w.heap.size + 1, 0, none⟩ = some (.int .i64 bl) ∧ y.cell? ⟨w.heap.size + 1, 1, none⟩ = some (.int .i64 bh))) (by kernel_rfl) (⟨(Q.refl _).drew, hF.out _ (Q.refl _).drew⟩) (fun hHeld => ?_)
  refine wpAnyH_take (i := 0) (oi := ⟨_, _, _, _, _, _⟩) (v := ?_) rfl (by kernel_rfl) (by kernel_rfl) (by kernel_rfl) (fun _ _ _ h => h) (Or.inl ⟨by rfl, ?_⟩) (by assumption) ?_
  rotate_left 1
  · intro w hSw; (try dsimp only at hSw); go_simp; all_goals with_reducible rfl
  try simp only [Act.put, List.setIfInBounds_toArray, List.set_cons_zero, List.set_cons_succ]
  refine wpAnyH_ready (rs := [1]) (by kernel_rfl) (by simp) (AllReadyH.cons (o := ⟨_, _, _, _, _, _⟩) rfl (fun K hK => ?_) AllReadyH.nil)
  go_simp
  refine (HG.out _).mono ?_; rintro e y ⟨rfl, rfl⟩; go_wp2_with (fail)
  refine hK.out _ _ ?_ (fun hHeld => ?_)
  · first | assumption | exact ⟨s0, hF.out _ s0⟩
  clear hK K
  try simp only [Act.put, List.setIfInBounds_toArray, List.set_cons_zero, List.set_cons_succ]
  refine wpAnyH_take (i := 2) (oi := ⟨_, _, _, _, _, _⟩) (v := ?_) rfl (by kernel_rfl) (by kernel_rfl) (by kernel_rfl) (fun _ _ _ h => h) (Or.inl ⟨by rfl, ?_⟩) (by assumption) ?_
  rotate_left 1
  · intro w hSw; (try dsimp only at hSw); go_simp; all_goals with_reducible rfl
  try simp only [Act.put, List.setIfInBounds_toArray, List.set_cons_zero, List.set_cons_succ]
  refine wpAnyH_take (i := 3) (oi := ⟨_, _, _, _, _, _⟩) (v := ?_) rfl (by kernel_rfl) (by kernel_rfl) (by kernel_rfl) (fun _ _ _ h => h) (Or.inl ⟨by rfl, ?_⟩) (by assumption) ?_
  rotate_left 1
  · intro w hSw; (try dsimp only at hSw); go_simp; all_goals with_reducible rfl
  try simp only [Act.put, List.setIfInBounds_toArray, List.set_cons_zero, List.set_cons_succ]
  refine wpAnyH_take (i := 4) (oi := ⟨_, _, _, _, _, _⟩) (v := ?_) rfl (by kernel_rfl) (by kernel_rfl) (by kernel_rfl) (fun _ _ _ h => h) (Or.inl ⟨by rfl, ?_⟩) (by assumption) ?_
  rotate_left 1
  · intro w hSw; (try dsimp only at hSw); go_simp; all_goals with_reducible rfl
  try simp only [Act.put, List.setIfInBounds_toArray, List.set_cons_zero, List.set_cons_succ]
  refine wpAnyH_take (i := 5) (oi := ⟨_, _, _, _, _, _⟩) (v := ?_) rfl (by kernel_rfl) (by kernel_rfl) (by kernel_rfl) (fun _ _ _ h => h) (Or.inl ⟨by rfl, ?_⟩) (by assumption) ?_
  rotate_left 1
  · intro w hSw; (try dsimp only at hSw); go_simp; all_goals with_reducible rfl
  try simp only [Act.put, List.setIfInBounds_toArray, List.set_cons_zero, List.set_cons_succ]
  refine wpAnyH_ready (rs := [6]) (by kernel_rfl) (by simp) (AllReadyH.cons (o := ⟨_, _, _, _, _, _⟩) rfl (fun K hK => ?_) AllReadyH.nil)
  go_simp
  refine (HL.out _).mono ?_; rintro e y ⟨rfl, q⟩; have s0 := ((Q.refl (bx3 w al ah bl bh)).drew).trans q; go_wp2_with (fail)
  refine hK.out _ _ ?_ (fun hHeld => ?_)
  · first | assumption | exact ⟨s0, hF.out _ s0⟩
  clear hK K
  try simp only [Act.put, List.setIfInBounds_toArray, List.set_cons_zero, List.set_cons_succ]
  refine wpAnyH_take (i := 7) (oi := ⟨_, _, _, _, _, _⟩) (v := ?_) rfl (by kernel_rfl) (by kernel_rfl) (by kernel_rfl) (fun _ _ _ h => h) (Or.inl ⟨by rfl, ?_⟩) (by assumption) ?_
  rotate_left 1
  · intro w hSw; (try dsimp only at hSw); go_simp; all_goals with_reducible rfl
  try simp only [Act.put, List.setIfInBounds_toArray, List.set_cons_zero, List.set_cons_succ]
  refine wpAnyH_take (i := 8) (oi := ⟨_, _, _, _, _, _⟩) (v := ?_) rfl (by kernel_rfl) (by kernel_rfl) (by kernel_rfl) (fun _ _ _ h => h) (Or.inl ⟨by rfl, ?_⟩) (by assumption) ?_
  rotate_left 1
  · intro w hSw; (try dsimp only at hSw); go_simp; all_goals with_reducible rfl
  try simp only [Act.put, List.setIfInBounds_toArray, List.set_cons_zero, List.set_cons_succ]
  refine wpAnyH_take (i := 9) (oi := ⟨_, _, _, _, _, _⟩) (v := ?_) rfl (by kernel_rfl) (by kernel_rfl) (by kernel_rfl) (fun _ _ _ h => h) (Or.inl ⟨by rfl, ?_⟩) (by assumption) ?_
  rotate_left 1
  · intro w hSw; (try dsimp only at hSw); go_simp; all_goals with_reducible rfl
  try simp only [Act.put, List.setIfInBounds_toArray, List.set_cons_zero, List.set_cons_succ]
  refine wpAnyH_take (i := 10) (oi := ⟨_, _, _, _, _, _⟩) (v := ?_) rfl (by kernel_rfl) (by kernel_rfl) (by kernel_rfl) (fun _ _ _ h => h) (Or.inl ⟨by rfl, ?_⟩) (by assumption) ?_
  rotate_left 1
  · intro w hSw; (try dsimp only at hSw); go_simp; all_goals with_reducible rfl
  try simp only [Act.put, List.setIfInBounds_toArray, List.set_cons_zero, List.set_cons_succ]
  refine wpAnyH_take (i := 11) (oi := ⟨_, _, _, _, _, _⟩) (v := ?_) rfl (by kernel_rfl) (by kernel_rfl) (by kernel_rfl) (fun _ _ _ h => h) (Or.inl ⟨by rfl, ?_⟩) (by assumption) ?_
  rotate_left 1
  · intro w hSw; (try dsimp only at hSw); go_simp; all_goals with_reducible rfl
  try simp only [Act.put, List.setIfInBounds_toArray, List.set_cons_zero, List.set_cons_succ]
  refine wpAnyH_take (i := 12) (oi := ⟨_, _, _, _, _, _⟩) (v := ?_) rfl (by kernel_rfl) (by kernel_rfl) (by kernel_rfl) (fun _ _ _ h => h) (Or.inl ⟨by rfl, ?_⟩) (by assumption) ?_
  rotate_left 1
  · intro w hSw; (try dsimp only at hSw); go_simp; all_goals with_reducible rfl
  try simp only [Act.put, List.setIfInBounds_toArray, List.set_cons_zero, List.set_cons_succ]
  refine wpAnyH_take (i := 13) (oi := ⟨_, _, _, _, _, _⟩) (v := ?_) rfl (by kernel_rfl) (by kernel_rfl) (by kernel_rfl) (fun _ _ _ h => h) (Or.inl ⟨by rfl, ?_⟩) (by assumption) ?_
  rotate_left 1
  · intro w hSw; (try dsimp only at hSw); go_simp; all_goals with_reducible rfl
  try simp only [Act.put, List.setIfInBounds_toArray, List.set_cons_zero, List.set_cons_succ]
  refine wpAnyH_take (i := 14) (oi := ⟨_, _, _, _, _, _⟩) (v := ?_) rfl (by kernel_rfl) (by kernel_rfl) (by kernel_rfl) (fun _ _ _ h => h) (Or.inl ⟨by rfl, ?_⟩) (by assumption) ?_
  rotate_left 1
  · intro w hSw; (try dsimp only at hSw); go_simp; all_goals with_reducible rfl
  try simp only [Act.put, List.setIfInBounds_toArray, List.set_cons_zero, List.set_cons_succ]
  refine wpAnyH_take (i := 15) (oi := ⟨_, _, _, _, _, _⟩) (v := ?_) rfl (by kernel_rfl) (by kernel_rfl) (by kernel_rfl) (fun _ _ _ h => h) (Or.inl ⟨by rfl, ?_⟩) (by assumption) ?_
  rotate_left 1
  · intro w hSw; (try dsimp only at hSw); go_simp; all_goals with_reducible rfl
  try simp only [Act.put, List.setIfInBounds_toArray, List.set_cons_zero, List.set_cons_succ]
  refine wpAnyH_take (i := 16) (oi := ⟨_, _, _, _, _, _⟩) (v := ?_) rfl (by kernel_rfl) (by kernel_rfl) (by kernel_rfl) (fun _ _ _ h => h) (Or.inl ⟨by rfl, ?_⟩) (by assumption) ?_
  rotate_left 1
  · intro w hSw; (try dsimp only at hSw); go_simp; all_goals with_reducible rfl
  try simp only [Act.put, List.setIfInBounds_toArray, List.set_cons_zero, List.set_cons_succ]
  refine wpAnyH_take (i := 17) (oi := ⟨_, _, _, _, _, _⟩) (v := ?_) rfl (by kernel_rfl) (by kernel_rfl) (by kernel_rfl) (fun _ _ _ h => h) (Or.inl ⟨by rfl, ?_⟩) (by assumption) ?_
  rotate_left 1
  · intro w hSw; (try dsimp only at hSw); go_simp; all_goals with_reducible rfl
  try simp only [Act.put, List.setIfInBounds_toArray, List.set_cons_zero, List.set_cons_succ]
  refine wpAnyH_take (i := 18) (oi := ⟨_, _, _, _, _, _⟩) (v := ?_) rfl (by kernel_rfl) (by kernel_rfl) (by kernel_rfl) (fun _ _ _ h => h) (Or.inl ⟨by rfl, ?_⟩) (by assumption) ?_
  rotate_left 1
  · intro w hSw; (try dsimp only at hSw); go_simp; all_goals with_reducible rfl
  try simp only [Act.put, List.setIfInBounds_toArray, List.set_cons_zero, List.set_cons_succ]
  refine wpAnyH_done (by kernel_rfl) ?_ _
  have R := hideIt s0
  go_wp2_with (go_at_call 17; refine (HF.out _).mono ?_; rintro e x ⟨rfl, q⟩; have R := hideIt (R.out.trans q); clear q; obtain ⟨c0, c1, c2, c3, c4, c5, f4, f5⟩ := R.out.c6)
  exact bodyPost_ret (v := .tuple #[spV tl th, .bool false]) (by simp [results, Try.results46, go_sem, c4, c5]) rfl ⟨rfl, q_set3 R.out _ _⟩

theorem rdivide_any (op t al ah bl bh : Int) (w : World) (h0 : 0 ≤ t) (ho : op = 4 ∨ op = 5) (hal : low t ≤ al) (hab : al ≤ ah) (hbb : bl ≤ bh) (a1 : nb al) (a2 : nb ah) (b1 : nb bl) (b2 : nb bh) : Calls Try.prog 46 #[.int .i64 op, .int .i64 t, spV al ah, spV bl bh] w fun e w' => e = .returned (.tuple #[.agg #[.int .i64 (divA op t al ah bl bh).1, .int .i64 (divA op t al ah bl bh).2.1], .bool (divA op t al ah bl bh).2.2]) ∧ Q w w' := by
  by_cases hz : bl ≤ 0 ∧ 0 ≤ bh
  · exact rdiv_zero op t al ah bl bh w h0 hz.1 hz.2
  have hz' : 0 < bl ∨ bh < 0 := by omega
  cases hs : sgn t with
  | false =>
    rcases hz' with h | h <;> rcases ho with rfl | rfl
    · exact rdiv_4_ua t al ah bl bh w h0 hal hab hbb a1 a2 b1 b2 hs h
    · exact rdiv_5_ua t al ah bl bh w h0 hal hab hbb a1 a2 b1 b2 hs h
    · exact rdiv_4_ub t al ah bl bh w h0 hal hab hbb a1 a2 b1 b2 hs h
    · exact rdiv_5_ub t al ah bl bh w h0 hal hab hbb a1 a2 b1 b2 hs h
  | true =>
    by_cases hn : al = low t
    · rcases hz' with h | h
      · rcases ho with rfl | rfl
        · exact rdiv_4_ma t al ah bl bh w h0 hal hab hbb a1 a2 b1 b2 hs hn h
        · exact rdiv_5_ma t al ah bl bh w h0 hal hab hbb a1 a2 b1 b2 hs hn h
      · by_cases h1 : bh = -1
        · exact rdiv_least op t al ah bl bh w h0 hab hs hn (by omega) h1
        · rcases ho with rfl | rfl
          · exact rdiv_4_mb t al ah bl bh w h0 hal hab hbb a1 a2 b1 b2 hs hn (by omega)
          · exact rdiv_5_mb t al ah bl bh w h0 hal hab hbb a1 a2 b1 b2 hs hn (by omega)
    · rcases hz' with h | h <;> rcases ho with rfl | rfl
      · exact rdiv_4_na t al ah bl bh w h0 hal hab hbb a1 a2 b1 b2 hs hn h
      · exact rdiv_5_na t al ah bl bh w h0 hal hab hbb a1 a2 b1 b2 hs hn h
      · exact rdiv_4_nb t al ah bl bh w h0 hal hab hbb a1 a2 b1 b2 hs hn h
      · exact rdiv_5_nb t al ah bl bh w h0 hal hab hbb a1 a2 b1 b2 hs hn h

end Go.Proofs.Ytancfhnhjfhbfaa
