/-
  What divide of the document's answer for layer 10 returns: a contract over the program, for what is left; the conditions: numbers of at most 33 bits.
-/
import Derived.Test.YtancfhnhjfhbfaaSpS
set_option linter.unusedVariables false
namespace Go.Proofs.Ytancfhnhjfhbfaa
open Go.RowKit
open Burin
set_option linter.unusedVariables false

set_option maxRecDepth 100000 in
set_option maxHeartbeats 4000000 in
theorem rdiv_5_na (t al ah bl bh : Int) (w : World) (h0 : 0 ≤ t) (hal : low t ≤ al) (hab : al ≤ ah) (hbb : bl ≤ bh) (a1 : nb al) (a2 : nb ah) (b1 : nb bl) (b2 : nb bh) (hs : sgn t = true) (hn : al ≠ low t) (hz : 0 < bl) : Calls Try.prog 46 #[.int .i64 5, .int .i64 t, spV al ah, spV bl bh] w fun e w' => e = .returned (.tuple #[.agg #[.int .i64 (divA 5 t al ah bl bh).1, .int .i64 (divA 5 t al ah bl bh).2.1], .bool (divA 5 t al ah bl bh).2.2]) ∧ Q w w' := by
  have hba : baB t al ah bl bh = false := by
    unfold baB hasB
    rw [hs]
    simp
    omega
  have e : divA 5 t al ah bl bh = (reL al bl bh, reH ah bl bh, true) := by unfold divA; rw [hba]; rfl
  rw [e]
  clear e hba
  have hF : Hid (∀ y, Q (bx3 w al ah bl bh) y → y.cell? ⟨w.heap.size, 0, none⟩ = some (.int .i64 al) ∧ y.cell? ⟨w.heap.size, 1, none⟩ = some (.int .i64 ah) ∧ y.cell? ⟨w.heap.size + 1, 0, none⟩ = some (.int .i64 bl) ∧ y.cell? ⟨w.heap.size + 1, 1, none⟩ = some (.int .i64 bh)) := fun y h => (fun y (h : Q (bx3 w al ah bl bh) y) => (⟨h.c6.1, h.c6.2.1, h.c6.2.2.1, h.c6.2.2.2.1⟩ : y.cell? ⟨w.heap.size, 0, none⟩ = some (.int .i64 al) ∧ y.cell? ⟨w.heap.size, 1, none⟩ = some (.int .i64 ah) ∧ y.cell? ⟨w.heap.size + 1, 0, none⟩ = some (.int .i64 bl) ∧ y.cell? ⟨w.heap.size + 1, 1, none⟩ = some (.int .i64 bh))) y h
  have HG := hideIt (fun x => rsigned_any t x h0)
  rw [hs] at HG
  have HL := hideIt (fun x => rlow_any t x h0)
  have el : (al == low t) = false := by simp; exact hn
  generalize low t = tl at *
  clear hn
  have d1 : decide (bl ≤ 0) = false := by simp; omega
  go_enter Try.func46, Try.ntmps46
  go_wp2_with (fail)
  refine wp_region_held_drew (S := (fun y : World => Q (bx3 w al ah bl bh) y ∧ y.cell? ⟨w.heap.size, 0, none⟩ = some (.int .i64 al) ∧ y.cell? ⟨w.heap.size, 1, none⟩ = some (.int .i64 ah) ∧ y.cell? ⟨w.heap.size + 1, 0, none⟩ = some (.int .i64 bl) ∧ y.cell? ⟨w.heap.size + 1, 1, none⟩ = some (.int .i64 bh))) (by kernel_rfl) (⟨(Q.refl _).drew, hF.out _ (Q.refl _).drew⟩) (fun hHeld => ?_)
  refine wpAnyH_take (i := 0) (oi := ⟨_, _, _, _, _, _⟩) (v := ?_) rfl (by kernel_rfl) (by kernel_rfl) (by kernel_rfl) (fun _ _ _ h => h) (Or.inl ⟨by rfl, ?_⟩) (by assumption) ?_
  rotate_left 1
  · intro w hSw; (try dsimp only at hSw); go_simp; all_goals with_reducible rfl
  try simp only [Act.put, List.setIfInBounds_toArray, List.set_cons_zero, List.set_cons_succ]
  refine wpAnyH_ready (rs := [1]) (by kernel_rfl) (by simp) (AllReadyH.cons (o := ⟨_, _, _, _, _, _⟩) rfl (fun K hK => ?_) AllReadyH.nil)
  go_simp
  refine (HG.out _).mono ?_; rintro e y ⟨rfl, rfl⟩; go_wp2_with (fail)
  refine hK.out _ _ ?_ (fun hHeld => ?_)
  · first | assumption | exact ⟨s0, hF.out _ s0⟩
  clear hK K
  try simp only [Act.put, List.setIfInBounds_toArray, List.set_cons_zero, List.set_cons_succ]
  refine wpAnyH_take (i := 2) (oi := ⟨_, _, _, _, _, _⟩) (v := ?_) rfl (by kernel_rfl) (by kernel_rfl) (by kernel_rfl) (fun _ _ _ h => h) (Or.inl ⟨by rfl, ?_⟩) (by assumption) ?_
  rotate_left 1
  · intro w hSw; (try dsimp only at hSw); go_simp; all_goals with_reducible rfl
  try simp only [Act.put, List.setIfInBounds_toArray, List.set_cons_zero, List.set_cons_succ]
  refine wpAnyH_take (i := 3) (oi := ⟨_, _, _, _, _, _⟩) (v := ?_) rfl (by kernel_rfl) (by kernel_rfl) (by kernel_rfl) (fun _ _ _ h => h) (Or.inl ⟨by rfl, ?_⟩) (by assumption) ?_
  rotate_left 1
  · intro w hSw; (try dsimp only at hSw); go_simp; all_goals with_reducible rfl
  try simp only [Act.put, List.setIfInBounds_toArray, List.set_cons_zero, List.set_cons_succ]
  refine wpAnyH_take (i := 4) (oi := ⟨_, _, _, _, _, _⟩) (v := ?_) rfl (by kernel_rfl) (by kernel_rfl) (by kernel_rfl) (fun _ _ _ h => h) (Or.inl ⟨by rfl, ?_⟩) (by assumption) ?_
  rotate_left 1
  · intro w hSw; (try dsimp only at hSw); go_simp; all_goals with_reducible rfl
  try simp only [Act.put, List.setIfInBounds_toArray, List.set_cons_zero, List.set_cons_succ]
  refine wpAnyH_take (i := 5) (oi := ⟨_, _, _, _, _, _⟩) (v := ?_) rfl (by kernel_rfl) (by kernel_rfl) (by kernel_rfl) (fun _ _ _ h => h) (Or.inl ⟨by rfl, ?_⟩) (by assumption) ?_
  rotate_left 1
  · intro w hSw; (try dsimp only at hSw); go_simp; all_goals with_reducible rfl
  try simp only [Act.put, List.setIfInBounds_toArray, List.set_cons_zero, List.set_cons_succ]
  refine wpAnyH_ready (rs := [6]) (by kernel_rfl) (by simp) (AllReadyH.cons (o := ⟨_, _, _, _, _, _⟩) rfl (fun K hK => ?_) AllReadyH.nil)
  go_simp
  refine (HL.out _).mono ?_; rintro e y ⟨rfl, q⟩; have s0 := ((Q.refl (bx3 w al ah bl bh)).drew).trans q; go_wp2_with (fail)
  refine hK.out _ _ ?_ (fun hHeld => ?_)
  · first | assumption | exact ⟨s0, hF.out _ s0⟩
  clear hK K
  try simp only [Act.put, List.setIfInBounds_toArray, List.set_cons_zero, List.set_cons_succ]
  refine wpAnyH_take (i := 7) (oi := ⟨_, _, _, _, _, _⟩) (v := ?_) rfl (by kernel_rfl) (by kernel_rfl) (by kernel_rfl) (fun _ _ _ h => h) (Or.inl ⟨by rfl, ?_⟩) (by assumption) ?_
  rotate_left 1
  · intro w hSw; (try dsimp only at hSw); go_simp; all_goals with_reducible rfl
  try simp only [Act.put, List.setIfInBounds_toArray, List.set_cons_zero, List.set_cons_succ]
  refine wpAnyH_take (i := 8) (oi := ⟨_, _, _, _, _, _⟩) (v := ?_) rfl (by kernel_rfl) (by kernel_rfl) (by kernel_rfl) (fun _ _ _ h => h) (Or.inl ⟨by rfl, ?_⟩) (by assumption) ?_
  rotate_left 1
  · intro w hSw; (try dsimp only at hSw); go_simp; all_goals with_reducible rfl
  try simp only [Act.put, List.setIfInBounds_toArray, List.set_cons_zero, List.set_cons_succ]
  refine wpAnyH_take (i := 9) (oi := ⟨_, _, _, _, _, _⟩) (v := ?_) rfl (by kernel_rfl) (by kernel_rfl) (by kernel_rfl) (fun _ _ _ h => h) (Or.inl ⟨by rfl, ?_⟩) (by assumption) ?_
  rotate_left 1
  · intro w hSw; (try dsimp only at hSw); go_simp; all_goals with_reducible rfl
  try simp only [Act.put, List.setIfInBounds_toArray, List.set_cons_zero, List.set_cons_succ]
  refine wpAnyH_take (i := 10) (oi := ⟨_, _, _, _, _, _⟩) (v := undef) rfl (by kernel_rfl) (by kernel_rfl) (by kernel_rfl) (fun _ _ _ h => h) (Or.inr ⟨by rfl, rfl⟩) (by assumption) ?_
  try simp only [Act.put, List.setIfInBounds_toArray, List.set_cons_zero, List.set_cons_succ]
  refine wpAnyH_take (i := 11) (oi := ⟨_, _, _, _, _, _⟩) (v := undef) rfl (by kernel_rfl) (by kernel_rfl) (by kernel_rfl) (fun _ _ _ h => h) (Or.inr ⟨by rfl, rfl⟩) (by assumption) ?_
  try simp only [Act.put, List.setIfInBounds_toArray, List.set_cons_zero, List.set_cons_succ]
  refine wpAnyH_take (i := 12) (oi := ⟨_, _, _, _, _, _⟩) (v := undef) rfl (by kernel_rfl) (by kernel_rfl) (by kernel_rfl) (fun _ _ _ h => h) (Or.inr ⟨by rfl, rfl⟩) (by assumption) ?_
  try simp only [Act.put, List.setIfInBounds_toArray, List.set_cons_zero, List.set_cons_succ]
  refine wpAnyH_take (i := 13) (oi := ⟨_, _, _, _, _, _⟩) (v := ?_) rfl (by kernel_rfl) (by kernel_rfl) (by kernel_rfl) (fun _ _ _ h => h) (Or.inl ⟨by rfl, ?_⟩) (by assumption) ?_
  rotate_left 1
  · intro w hSw; (try dsimp only at hSw); go_simp; all_goals with_reducible rfl
  try simp only [Act.put, List.setIfInBounds_toArray, List.set_cons_zero, List.set_cons_succ]
  refine wpAnyH_take (i := 14) (oi := ⟨_, _, _, _, _, _⟩) (v := ?_) rfl (by kernel_rfl) (by kernel_rfl) (by kernel_rfl) (fun _ _ _ h => h) (Or.inl ⟨by rfl, ?_⟩) (by assumption) ?_
  rotate_left 1
  · intro w hSw; (try dsimp only at hSw); go_simp; all_goals with_reducible rfl
  try simp only [Act.put, List.setIfInBounds_toArray, List.set_cons_zero, List.set_cons_succ]
  refine wpAnyH_take (i := 15) (oi := ⟨_, _, _, _, _, _⟩) (v := undef) rfl (by kernel_rfl) (by kernel_rfl) (by kernel_rfl) (fun _ _ _ h => h) (Or.inr ⟨by rfl, rfl⟩) (by assumption) ?_
  try simp only [Act.put, List.setIfInBounds_toArray, List.set_cons_zero, List.set_cons_succ]
  refine wpAnyH_take (i := 16) (oi := ⟨_, _, _, _, _, _⟩) (v := undef) rfl (by kernel_rfl) (by kernel_rfl) (by kernel_rfl) (fun _ _ _ h => h) (Or.inr ⟨by rfl, rfl⟩) (by assumption) ?_
  try simp only [Act.put, List.setIfInBounds_toArray, List.set_cons_zero, List.set_cons_succ]
  refine wpAnyH_take (i := 17) (oi := ⟨_, _, _, _, _, _⟩) (v := undef) rfl (by kernel_rfl) (by kernel_rfl) (by kernel_rfl) (fun _ _ _ h => h) (Or.inr ⟨by rfl, rfl⟩) (by assumption) ?_
  try simp only [Act.put, List.setIfInBounds_toArray, List.set_cons_zero, List.set_cons_succ]
  refine wpAnyH_take (i := 18) (oi := ⟨_, _, _, _, _, _⟩) (v := ?_) rfl (by kernel_rfl) (by kernel_rfl) (by kernel_rfl) (fun _ _ _ h => h) (Or.inl ⟨by rfl, ?_⟩) (by assumption) ?_
  rotate_left 1
  · intro w hSw; (try dsimp only at hSw); go_simp; all_goals with_reducible rfl
  try simp only [Act.put, List.setIfInBounds_toArray, List.set_cons_zero, List.set_cons_succ]
  refine wpAnyH_done (by kernel_rfl) ?_ _
  have R := hideIt s0
  obtain ⟨c0, c1, c2, c3, c4, c5, f4, f5⟩ := R.out.c6
  obtain ⟨a11, a12⟩ := a1
  obtain ⟨a21, a22⟩ := a2
  obtain ⟨b11, b12⟩ := b1
  obtain ⟨b21, b22⟩ := b2
  have hb1 : bh ≤ max bh (-bl) := by omega
  have hb2 : max bh (-bl) ≤ 4294967295 := by omega
  have hb3 : -4294967295 ≤ max bh (-bl) := by omega
  have HM1 := hideIt (fun x => rmore_any bh (-bl) x)
  have HM2 := hideIt (fun x => rmore_any al (-reM bl bh) x)
  have HM3 := hideIt (fun x => rless_any ah (reM bl bh) x)
  have hm : max bh (-bl) - 1 = reM bl bh := rfl
  have mb1 : -4294967296 ≤ reM bl bh := by omega
  have mb2 : reM bl bh ≤ 4294967295 := by omega
  have wm : IntKind.i64.wrap (-reM bl bh) = -reM bl bh := by simp [IntKind.wrap_i64]; omega
  have HV1 := hideIt (show reL al bl bh = if al < 0 then max al (-reM bl bh) else 0 from rfl)
  have HV2 := hideIt (show reH ah bl bh = if 0 < ah then min ah (reM bl bh) else 0 from rfl)
  generalize reM bl bh = mm at *
  generalize max bh (-bl) = mx at *
  generalize max al (-mm) = v1 at *
  generalize min ah mm = v2 at *
  go_wp2_with (go_at_call 49; refine (HM1.out _).mono ?_; rintro e x ⟨rfl, rfl⟩)
  have g0 : ∀ o : Obj, (x.alloc o).cell? ⟨w.heap.size, 0, none⟩ = some (.int .i64 al) := fun o => (Q.alloc R.out o).c6.1
  have g1 : ∀ o : Obj, (x.alloc o).cell? ⟨w.heap.size, 1, none⟩ = some (.int .i64 ah) := fun o => (Q.alloc R.out o).c6.2.1
  have g4 : ∀ o : Obj, (x.alloc o).cell? ⟨w.heap.size + 1 + 1, 0, none⟩ = some (.int .i64 0) := fun o => (Q.alloc R.out o).c6.2.2.2.2.1
  have g5 : ∀ o : Obj, (x.alloc o).cell? ⟨w.heap.size + 1 + 1, 1, none⟩ = some (.int .i64 0) := fun o => (Q.alloc R.out o).c6.2.2.2.2.2.1
  have g6 : ∀ o : Obj, (x.alloc o).frozen? ⟨w.heap.size + 1 + 1, 0, none⟩ = false := fun o => (Q.alloc R.out o).c6.2.2.2.2.2.2.1
  have g7 : ∀ o : Obj, (x.alloc o).frozen? ⟨w.heap.size + 1 + 1, 1, none⟩ = false := fun o => (Q.alloc R.out o).c6.2.2.2.2.2.2.2
  first | go_region_held3 (fun y : World => Q (bx3 w al ah bl bh) y ∧ y.cell? ⟨w.heap.size, 0, none⟩ = some (.int .i64 al) ∧ y.cell? ⟨w.heap.size, 1, none⟩ = some (.int .i64 ah) ∧ y.cell? ⟨w.heap.size + 1, 0, none⟩ = some (.int .i64 bl) ∧ y.cell? ⟨w.heap.size + 1, 1, none⟩ = some (.int .i64 bh)) (first | exact ⟨Q.drew R.out, hF.out _ (Q.drew R.out)⟩ | exact ⟨Q.drew (Q.alloc R.out _), hF.out _ (Q.drew (Q.alloc R.out _))⟩ | assumption) (first | (go_at_call 49; refine (HM2.out _).mono ?_; rintro e x ⟨rfl, rfl⟩) | (go_at_call 47; refine (HM3.out _).mono ?_; rintro e x ⟨rfl, rfl⟩)) | fail
  all_goals go_wp2_with (fail)
  all_goals first | (refine bodyPost_ret (v := .tuple #[spV 0 0, .bool true]) ?_ rfl ⟨?_, (q_set3 (Q.alloc R.out _) _ _).drew⟩ <;> first | (simp [results, Try.results46, go_sem, g4, g5]; done) | (rw [HV1.out, HV2.out]; rw [if_neg (by omega), if_neg (by omega)])) | (refine bodyPost_ret (v := .tuple #[spV v1 0, .bool true]) ?_ rfl ⟨?_, (q_set3 (Q.alloc R.out _) _ _).drew⟩ <;> first | (simp [results, Try.results46, go_sem, g4, g5]; done) | (rw [HV1.out, HV2.out]; rw [if_pos (by omega), if_neg (by omega)])) | (refine bodyPost_ret (v := .tuple #[spV 0 v2, .bool true]) ?_ rfl ⟨?_, (q_set3 (Q.alloc R.out _) _ _).drew⟩ <;> first | (simp [results, Try.results46, go_sem, g4, g5]; done) | (rw [HV1.out, HV2.out]; rw [if_neg (by omega), if_pos (by omega)])) | (refine bodyPost_ret (v := .tuple #[spV v1 v2, .bool true]) ?_ rfl ⟨?_, (q_set3 (Q.alloc R.out _) _ _).drew⟩ <;> first | (simp [results, Try.results46, go_sem, g4, g5]; done) | (rw [HV1.out, HV2.out]; rw [if_pos (by omega), if_pos (by omega)]))

set_option maxRecDepth 100000 in
set_option maxHeartbeats 4000000 in
theorem rdiv_5_nb (t al ah bl bh : Int) (w : World) (h0 : 0 ≤ t) (hal : low t ≤ al) (hab : al ≤ ah) (hbb : bl ≤ bh) (a1 : nb al) (a2 : nb ah) (b1 : nb bl) (b2 : nb bh) (hs : sgn t = true) (hn : al ≠ low t) (hz : bh < 0) : Calls Try.prog 46 #[.int .i64 5, .int .i64 t, spV al ah, spV bl bh] w fun e w' => e = .returned (.tuple #[.agg #[.int .i64 (divA 5 t al ah bl bh).1, .int .i64 (divA 5 t al ah bl bh).2.1], .bool (divA 5 t al ah bl bh).2.2]) ∧ Q w w' := by
  have hba : baB t al ah bl bh = false := by
    unfold baB hasB
    rw [hs]
    simp
    omega
  have e : divA 5 t al ah bl bh = (reL al bl bh, reH ah bl bh, true) := by unfold divA; rw [hba]; rfl
  rw [e]
  clear e hba
  have hF : Hid (∀ y, Q (bx3 w al ah bl bh) y → y.cell? ⟨w.heap.size, 0, none⟩ = some (.int .i64 al) ∧ y.cell? ⟨w.heap.size, 1, none⟩ = some (.int .i64 ah) ∧ y.cell? ⟨w.heap.size + 1, 0, none⟩ = some (.int .i64 bl) ∧ y.cell? ⟨w.heap.size + 1, 1, none⟩ = some (.int .i64 bh)) := fun y h => (fun y (h : Q (bx3 w al ah bl bh) y) => (⟨h.c6.1, h.c6.2.1, h.c6.2.2.1, h.c6.2.2.2.1⟩ : y.cell? ⟨w.heap.size, 0, none⟩ = some (.int .i64 al) ∧ y.cell? ⟨w.heap.size, 1, none⟩ = some (.int .i64 ah) ∧ y.cell? ⟨w.heap.size + 1, 0, none⟩ = some (.int .i64 bl) ∧ y.cell? ⟨w.heap.size + 1, 1, none⟩ = some (.int .i64 bh))) y h
  have HG := hideIt (fun x => rsigned_any t x h0)
  rw [hs] at HG
  have HL := hideIt (fun x => rlow_any t x h0)
  have el : (al == low t) = false := by simp; exact hn
  generalize low t = tl at *
  clear hn
  have d1 : decide (bl ≤ 0) = true := by simp; omega
  have d2 : decide (0 ≤ bh) = false := by simp; omega
  go_enter Try.func46, Try.ntmps46
  go_wp2_with (fail)
  refine wp_region_held_drew (S := (fun y : World => Q (bx3 w al ah bl bh) y ∧ y.cell? ⟨w.heap.size, 0, none⟩ = some (.int .i64 al) ∧ y.cell? ⟨w.heap.size, 1, none⟩ = some (.int .i64 ah) ∧ y.cell? ⟨w.heap.size + 1, 0, none⟩ = some (.int .i64 bl) ∧ y.cell? ⟨w.heap.size + 1, 1, none⟩ = some (.int .i64 bh))) (by kernel_rfl) (⟨(Q.refl _).drew, hF.out _ (Q.refl _).drew⟩) (fun hHeld => ?_)
  refine wpAnyH_take (i := 0) (oi := ⟨_, _, _, _, _, _⟩) (v := ?_) rfl (by kernel_rfl) (by kernel_rfl) (by kernel_rfl) (fun _ _ _ h => h) (Or.inl ⟨by rfl, ?_⟩) (by assumption) ?_
  rotate_left 1
  · intro w hSw; (try dsimp only at hSw); go_simp; all_goals with_reducible rfl
  try simp only [Act.put, List.setIfInBounds_toArray, List.set_cons_zero, List.set_cons_succ]
  refine wpAnyH_ready (rs := [1]) (by kernel_rfl) (by simp) (AllReadyH.cons (o := ⟨_, _, _, _, _, _⟩) rfl (fun K hK => ?_) AllReadyH.nil)
  go_simp
  refine (HG.out _).mono ?_; rintro e y ⟨rfl, rfl⟩; go_wp2_with (fail)
  refine hK.out _ _ ?_ (fun hHeld => ?_)
  · first | assumption | exact ⟨s0, hF.out _ s0⟩
  clear hK K
  try simp only [Act.put, List.setIfInBounds_toArray, List.set_cons_zero, List.set_cons_succ]
  refine wpAnyH_take (i := 2) (oi := ⟨_, _, _, _, _, _⟩) (v := ?_) rfl (by kernel_rfl) (by kernel_rfl) (by kernel_rfl) (fun _ _ _ h => h) (Or.inl ⟨by rfl, ?_⟩) (by assumption) ?_
  rotate_left 1
  · intro w hSw; (try dsimp only at hSw); go_simp; all_goals with_reducible rfl
  try simp only [Act.put, List.setIfInBounds_toArray, List.set_cons_zero, List.set_cons_succ]
  refine wpAnyH_take (i := 3) (oi := ⟨_, _, _, _, _, _⟩) (v := ?_) rfl (by kernel_rfl) (by kernel_rfl) (by kernel_rfl) (fun _ _ _ h => h) (Or.inl ⟨by rfl, ?_⟩) (by assumption) ?_
  rotate_left 1
  · intro w hSw; (try dsimp only at hSw); go_simp; all_goals with_reducible rfl
  try simp only [Act.put, List.setIfInBounds_toArray, List.set_cons_zero, List.set_cons_succ]
  refine wpAnyH_take (i := 4) (oi := ⟨_, _, _, _, _, _⟩) (v := ?_) rfl (by kernel_rfl) (by kernel_rfl) (by kernel_rfl) (fun _ _ _ h => h) (Or.inl ⟨by rfl, ?_⟩) (by assumption) ?_
  rotate_left 1
  · intro w hSw; (try dsimp only at hSw); go_simp; all_goals with_reducible rfl
  try simp only [Act.put, List.setIfInBounds_toArray, List.set_cons_zero, List.set_cons_succ]
  refine wpAnyH_take (i := 5) (oi := ⟨_, _, _, _, _, _⟩) (v := ?_) rfl (by kernel_rfl) (by kernel_rfl) (by kernel_rfl) (fun _ _ _ h => h) (Or.inl ⟨by rfl, ?_⟩) (by assumption) ?_
  rotate_left 1
  · intro w hSw; (try dsimp only at hSw); go_simp; all_goals with_reducible rfl
  try simp only [Act.put, List.setIfInBounds_toArray, List.set_cons_zero, List.set_cons_succ]
  refine wpAnyH_ready (rs := [6]) (by kernel_rfl) (by simp) (AllReadyH.cons (o := ⟨_, _, _, _, _, _⟩) rfl (fun K hK => ?_) AllReadyH.nil)
  go_simp
  refine (HL.out _).mono ?_; rintro e y ⟨rfl, q⟩; have s0 := ((Q.refl (bx3 w al ah bl bh)).drew).trans q; go_wp2_with (fail)
  refine hK.out _ _ ?_ (fun hHeld => ?_)
  · first | assumption | exact ⟨s0, hF.out _ s0⟩
  clear hK K
  try simp only [Act.put, List.setIfInBounds_toArray, List.set_cons_zero, List.set_cons_succ]
  refine wpAnyH_take (i := 7) (oi := ⟨_, _, _, _, _, _⟩) (v := ?_) rfl (by kernel_rfl) (by kernel_rfl) (by kernel_rfl) (fun _ _ _ h => h) (Or.inl ⟨by rfl, ?_⟩) (by assumption) ?_
  rotate_left 1
  · intro w hSw; (try dsimp only at hSw); go_simp; all_goals with_reducible rfl
  try simp only [Act.put, List.setIfInBounds_toArray, List.set_cons_zero, List.set_cons_succ]
  refine wpAnyH_take (i := 8) (oi := ⟨_, _, _, _, _, _⟩) (v := ?_) rfl (by kernel_rfl) (by kernel_rfl) (by kernel_rfl) (fun _ _ _ h => h) (Or.inl ⟨by rfl, ?_⟩) (by assumption) ?_
  rotate_left 1
  · intro w hSw; (try dsimp only at hSw); go_simp; all_goals with_reducible rfl
  try simp only [Act.put, List.setIfInBounds_toArray, List.set_cons_zero, List.set_cons_succ]
  refine wpAnyH_take (i := 9) (oi := ⟨_, _, _, _, _, _⟩) (v := ?_) rfl (by kernel_rfl) (by kernel_rfl) (by kernel_rfl) (fun _ _ _ h => h) (Or.inl ⟨by rfl, ?_⟩) (by assumption) ?_
  rotate_left 1
  · intro w hSw; (try dsimp only at hSw); go_simp; all_goals with_reducible rfl
  try simp only [Act.put, List.setIfInBounds_toArray, List.set_cons_zero, List.set_cons_succ]
  refine wpAnyH_take (i := 10) (oi := ⟨_, _, _, _, _, _⟩) (v := undef) rfl (by kernel_rfl) (by kernel_rfl) (by kernel_rfl) (fun _ _ _ h => h) (Or.inr ⟨by rfl, rfl⟩) (by assumption) ?_
  try simp only [Act.put, List.setIfInBounds_toArray, List.set_cons_zero, List.set_cons_succ]
  refine wpAnyH_take (i := 11) (oi := ⟨_, _, _, _, _, _⟩) (v := undef) rfl (by kernel_rfl) (by kernel_rfl) (by kernel_rfl) (fun _ _ _ h => h) (Or.inr ⟨by rfl, rfl⟩) (by assumption) ?_
  try simp only [Act.put, List.setIfInBounds_toArray, List.set_cons_zero, List.set_cons_succ]
  refine wpAnyH_take (i := 12) (oi := ⟨_, _, _, _, _, _⟩) (v := undef) rfl (by kernel_rfl) (by kernel_rfl) (by kernel_rfl) (fun _ _ _ h => h) (Or.inr ⟨by rfl, rfl⟩) (by assumption) ?_
  try simp only [Act.put, List.setIfInBounds_toArray, List.set_cons_zero, List.set_cons_succ]
  refine wpAnyH_take (i := 13) (oi := ⟨_, _, _, _, _, _⟩) (v := ?_) rfl (by kernel_rfl) (by kernel_rfl) (by kernel_rfl) (fun _ _ _ h => h) (Or.inl ⟨by rfl, ?_⟩) (by assumption) ?_
  rotate_left 1
  · intro w hSw; (try dsimp only at hSw); go_simp; all_goals with_reducible rfl
  try simp only [Act.put, List.setIfInBounds_toArray, List.set_cons_zero, List.set_cons_succ]
  refine wpAnyH_take (i := 14) (oi := ⟨_, _, _, _, _, _⟩) (v := ?_) rfl (by kernel_rfl) (by kernel_rfl) (by kernel_rfl) (fun _ _ _ h => h) (Or.inl ⟨by rfl, ?_⟩) (by assumption) ?_
  rotate_left 1
  · intro w hSw; (try dsimp only at hSw); go_simp; all_goals with_reducible rfl
  try simp only [Act.put, List.setIfInBounds_toArray, List.set_cons_zero, List.set_cons_succ]
  refine wpAnyH_take (i := 15) (oi := ⟨_, _, _, _, _, _⟩) (v := undef) rfl (by kernel_rfl) (by kernel_rfl) (by kernel_rfl) (fun _ _ _ h => h) (Or.inr ⟨by rfl, rfl⟩) (by assumption) ?_
  try simp only [Act.put, List.setIfInBounds_toArray, List.set_cons_zero, List.set_cons_succ]
  refine wpAnyH_take (i := 16) (oi := ⟨_, _, _, _, _, _⟩) (v := undef) rfl (by kernel_rfl) (by kernel_rfl) (by kernel_rfl) (fun _ _ _ h => h) (Or.inr ⟨by rfl, rfl⟩) (by assumption) ?_
  try simp only [Act.put, List.setIfInBounds_toArray, List.set_cons_zero, List.set_cons_succ]
  refine wpAnyH_take (i := 17) (oi := ⟨_, _, _, _, _, _⟩) (v := undef) rfl (by kernel_rfl) (by kernel_rfl) (by kernel_rfl) (fun _ _ _ h => h) (Or.inr ⟨by rfl, rfl⟩) (by assumption) ?_
  try simp only [Act.put, List.setIfInBounds_toArray, List.set_cons_zero, List.set_cons_succ]
  refine wpAnyH_take (i := 18) (oi := ⟨_, _, _, _, _, _⟩) (v := ?_) rfl (by kernel_rfl) (by kernel_rfl) (by kernel_rfl) (fun _ _ _ h => h) (Or.inl ⟨by rfl, ?_⟩) (by assumption) ?_
  rotate_left 1
  · intro w hSw; (try dsimp only at hSw); go_simp; all_goals with_reducible rfl
  try simp only [Act.put, List.setIfInBounds_toArray, List.set_cons_zero, List.set_cons_succ]
  refine wpAnyH_done (by kernel_rfl) ?_ _
  have R := hideIt s0
  obtain ⟨c0, c1, c2, c3, c4, c5, f4, f5⟩ := R.out.c6
  obtain ⟨a11, a12⟩ := a1
  obtain ⟨a21, a22⟩ := a2
  obtain ⟨b11, b12⟩ := b1
  obtain ⟨b21, b22⟩ := b2
  have hb1 : bh ≤ max bh (-bl) := by omega
  have hb2 : max bh (-bl) ≤ 4294967295 := by omega
  have hb3 : -4294967295 ≤ max bh (-bl) := by omega
  have HM1 := hideIt (fun x => rmore_any bh (-bl) x)
  have HM2 := hideIt (fun x => rmore_any al (-reM bl bh) x)
  have HM3 := hideIt (fun x => rless_any ah (reM bl bh) x)
  have hm : max bh (-bl) - 1 = reM bl bh := rfl
  have mb1 : -4294967296 ≤ reM bl bh := by omega
  have mb2 : reM bl bh ≤ 4294967295 := by omega
  have wm : IntKind.i64.wrap (-reM bl bh) = -reM bl bh := by simp [IntKind.wrap_i64]; omega
  have HV1 := hideIt (show reL al bl bh = if al < 0 then max al (-reM bl bh) else 0 from rfl)
  have HV2 := hideIt (show reH ah bl bh = if 0 < ah then min ah (reM bl bh) else 0 from rfl)
  generalize reM bl bh = mm at *
  generalize max bh (-bl) = mx at *
  generalize max al (-mm) = v1 at *
  generalize min ah mm = v2 at *
  go_wp2_with (go_at_call 49; refine (HM1.out _).mono ?_; rintro e x ⟨rfl, rfl⟩)
  have g0 : ∀ o : Obj, (x.alloc o).cell? ⟨w.heap.size, 0, none⟩ = some (.int .i64 al) := fun o => (Q.alloc R.out o).c6.1
  have g1 : ∀ o : Obj, (x.alloc o).cell? ⟨w.heap.size, 1, none⟩ = some (.int .i64 ah) := fun o => (Q.alloc R.out o).c6.2.1
  have g4 : ∀ o : Obj, (x.alloc o).cell? ⟨w.heap.size + 1 + 1, 0, none⟩ = some (.int .i64 0) := fun o => (Q.alloc R.out o).c6.2.2.2.2.1
  have g5 : ∀ o : Obj, (x.alloc o).cell? ⟨w.heap.size + 1 + 1, 1, none⟩ = some (.int .i64 0) := fun o => (Q.alloc R.out o).c6.2.2.2.2.2.1
  have g6 : ∀ o : Obj, (x.alloc o).frozen? ⟨w.heap.size + 1 + 1, 0, none⟩ = false := fun o => (Q.alloc R.out o).c6.2.2.2.2.2.2.1
  have g7 : ∀ o : Obj, (x.alloc o).frozen? ⟨w.heap.size + 1 + 1, 1, none⟩ = false := fun o => (Q.alloc R.out o).c6.2.2.2.2.2.2.2
  first | go_region_held3 (fun y : World => Q (bx3 w al ah bl bh) y ∧ y.cell? ⟨w.heap.size, 0, none⟩ = some (.int .i64 al) ∧ y.cell? ⟨w.heap.size, 1, none⟩ = some (.int .i64 ah) ∧ y.cell? ⟨w.heap.size + 1, 0, none⟩ = some (.int .i64 bl) ∧ y.cell? ⟨w.heap.size + 1, 1, none⟩ = some (.int .i64 bh)) (first | exact ⟨Q.drew R.out, hF.out _ (Q.drew R.out)⟩ | exact ⟨Q.drew (Q.alloc R.out _), hF.out _ (Q.drew (Q.alloc R.out _))⟩ | assumption) (first | (go_at_call 49; refine (HM2.out _).mono ?_; rintro e x ⟨rfl, rfl⟩) | (go_at_call 47; refine (HM3.out _).mono ?_; rintro e x ⟨rfl, rfl⟩)) | fail
  all_goals go_wp2_with (fail)
  all_goals first | (refine bodyPost_ret (v := .tuple #[spV 0 0, .bool true]) ?_ rfl ⟨?_, (q_set3 (Q.alloc R.out _) _ _).drew⟩ <;> first | (simp [results, Try.results46, go_sem, g4, g5]; done) | (rw [HV1.out, HV2.out]; rw [if_neg (by omega), if_neg (by omega)])) | (refine bodyPost_ret (v := .tuple #[spV v1 0, .bool true]) ?_ rfl ⟨?_, (q_set3 (Q.alloc R.out _) _ _).drew⟩ <;> first | (simp [results, Try.results46, go_sem, g4, g5]; done) | (rw [HV1.out, HV2.out]; rw [if_pos (by omega), if_neg (by omega)])) | (refine bodyPost_ret (v := .tuple #[spV 0 v2, .bool true]) ?_ rfl ⟨?_, (q_set3 (Q.alloc R.out _) _ _).drew⟩ <;> first | (simp [results, Try.results46, go_sem, g4, g5]; done) | (rw [HV1.out, HV2.out]; rw [if_neg (by omega), if_pos (by omega)])) | (refine bodyPost_ret (v := .tuple #[spV v1 v2, .bool true]) ?_ rfl ⟨?_, (q_set3 (Q.alloc R.out _) _ _).drew⟩ <;> first | (simp [results, Try.results46, go_sem, g4, g5]; done) | (rw [HV1.out, HV2.out]; rw [if_pos (by omega), if_pos (by omega)]))

end Go.Proofs.Ytancfhnhjfhbfaa
