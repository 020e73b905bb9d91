/-
  What ones and corners of the document's answer for layer 10 return: contracts over the program; the conditions: numbers of at most 33 bits.
-/
import Derived.Test.YtancfhnhjfhbfaaSpR
import Derived.Test.YtancfhnhjfhbfaaSpL
set_option linter.unusedVariables false
namespace Burin
theorem pow1 (k : Nat) : (2 : Int) ^ (k + 1) = 2 * 2 ^ k := by rw [Int.pow_succ, Int.mul_comm]
/-- The least and the greatest of the first so many of four. -/
def mnU (a b c d : Int) (k : Nat) : Int := if k = 1 then a else if k = 2 then min a b else if k = 3 then min (min a b) c else mn4 a b c d
def mxU (a b c d : Int) (k : Nat) : Int := if k = 1 then a else if k = 2 then max a b else if k = 3 then max (max a b) c else mx4 a b c d
theorem un_le (a b c d : Int) (k : Nat) : mnU a b c d k ≤ mxU a b c d k := by
  unfold mnU mxU mn4 mx4
  (repeat' split) <;> omega
def pk4 (a b c d : Int) (k : Nat) : Int := if k = 0 then a else if k = 1 then b else if k = 2 then c else d
theorem jo_pt (l r v : Int) (h : l ≤ r) : joL l r v v = min l v ∧ joH l r v v = max r v := by
  have e1 : nonB l r = false := by unfold nonB; simp; omega
  have e2 : nonB v v = false := by unfold nonB; simp
  unfold joL joH
  rw [e1, e2]
  exact ⟨rfl, rfl⟩
theorem mnU_step (a b c d : Int) (k : Nat) (h1 : 1 ≤ k) (h : k < 4) : min (mnU a b c d k) (pk4 a b c d k) = mnU a b c d (k + 1) ∧ max (mxU a b c d k) (pk4 a b c d k) = mxU a b c d (k + 1) := by
  have : k = 1 ∨ k = 2 ∨ k = 3 := by omega
  rcases this with rfl | rfl | rfl <;> exact ⟨rfl, rfl⟩
end Burin
namespace Go.Proofs.Ytancfhnhjfhbfaa
open Go.RowKit
open Burin
set_option linter.unusedVariables false

set_option maxHeartbeats 400000 in
theorem rones_any (v : Int) (w : World) (h0 : 0 ≤ v) (h1 : v ≤ 4294967295) : Calls Try.prog 48 #[.int .i64 v] w fun e w' => e = .returned (.int .i64 (onesP v)) ∧ w' = w := by
  have HB := hideIt (bl32 v h1)
  go_enter Try.func48, Try.ntmps48
  go_wp2
  go_loop [3] (fun r => ∃ k : Nat, k ≤ Lib.bitLen v.toNat ∧ r = .int .i64 ((2 : Int) ^ k - 1)) (fun r => 4294967296 - (intOf r).toNat)
  case atStart => exact ⟨0, by omega, by simp⟩
  case round =>
    obtain ⟨k, hk, rfl⟩ := hrel
    have pb := ones_pow k (by have := HB.out; omega)
    obtain ⟨p1, p2⟩ := pb
    by_cases hlt : (2 : Int) ^ k - 1 < v
    · have d1 : decide ((2 : Int) ^ k - 1 < v) = true := by simpa using hlt
      have S := hideIt (ones_step v k h0 h1 hk hlt)
      have E := hideIt (show 2 * ((2 : Int) ^ k - 1) + 1 = 2 ^ (k + 1) - 1 by rw [pow1]; omega)
      go_wp2
      go_round
      case rel => exact ⟨k + 1, S.out, by rw [← E.out]⟩
      case measure => simp [intOf]; omega
    · have d1 : decide ((2 : Int) ^ k - 1 < v) = false := by simpa using hlt
      have E := hideIt (ones_end v k h0 h1 hk (by omega))
      go_wp2
      go_ret
      exact ⟨ret_int E.out, rfl⟩

/-- Two spans in boxes, a third one for the answer, and a list of four numbers. -/
abbrev bx4v (w : World) (a b c d r1 r2 r3 r4 : Int) : World := (bx3 w a b c d).alloc (.cells #[.int .i64 r1, .int .i64 r2, .int .i64 r3, .int .i64 r4] 2)
theorem bx4v_size (w : World) (a b c d r1 r2 r3 r4 : Int) : (bx4v w a b c d r1 r2 r3 r4).heap.size = w.heap.size + 1 + 1 + 1 + 1 := by simp [bx4v, bx3, bx]
theorem q_bx4v (w : World) (a b c d r1 r2 r3 r4 : Int) : Q w (bx4v w a b c d r1 r2 r3 r4) := ((((Q.refl _).alloc _).alloc _).alloc _).alloc _
theorem q_set4 {w y : World} {a b c d r1 r2 r3 r4 : Int} {u v : Value} (h : Q (bx4v w a b c d r1 r2 r3 r4) y) : Q (bx4v w a b c d r1 r2 r3 r4) ((y.setCell ⟨w.heap.size + 1 + 1 + 1 + 1, 0, none⟩ u).setCell ⟨w.heap.size + 1 + 1 + 1 + 1, 1, none⟩ v) :=
  Below.setCell (Below.setCell h (p := ⟨w.heap.size + 1 + 1 + 1 + 1, 0, none⟩) (by rw [bx4v_size]; exact Nat.le_refl _) _) (p := ⟨w.heap.size + 1 + 1 + 1 + 1, 1, none⟩) (by rw [bx4v_size]; exact Nat.le_refl _) _
theorem bx4v_arr {w y : World} {a b c d r1 r2 r3 r4 : Int} (q : Q (bx4v w a b c d r1 r2 r3 r4) y) : y.cell? ⟨w.heap.size + 1 + 1 + 1, 0, none⟩ = some (.int .i64 r1) ∧ y.cell? ⟨w.heap.size + 1 + 1 + 1, 1, none⟩ = some (.int .i64 r2) ∧ y.cell? ⟨w.heap.size + 1 + 1 + 1, 2, none⟩ = some (.int .i64 r3) ∧ y.cell? ⟨w.heap.size + 1 + 1 + 1, 3, none⟩ = some (.int .i64 r4) := by
  have k : (bx4v w a b c d r1 r2 r3 r4).heap[(bx3 w a b c d).heap.size]? = some (.cells #[.int .i64 r1, .int .i64 r2, .int .i64 r3, .int .i64 r4] 2 (0, 0)) := heap_new _ _
  have e : (bx3 w a b c d).heap.size = w.heap.size + 1 + 1 + 1 := by simp [bx3, bx]
  rw [e] at k
  exact ⟨keepc q ((cell_blk k 0).trans rfl), keepc q ((cell_blk k 1).trans rfl), keepc q ((cell_blk k 2).trans rfl), keepc q ((cell_blk k 3).trans rfl)⟩
theorem Sp.drew {w : World} {b : Nat} {l h : Int} (k : Sp w b l h) : Sp w.drew b l h := k
theorem Sp.set {w : World} {b : Nat} {l r l' r' : Int} (k : Sp w b l r) : Sp ((w.setCell ⟨b, 0, none⟩ (.int .i64 l')).setCell ⟨b, 1, none⟩ (.int .i64 r')) b l' r' := by
  unfold Sp at *
  simp only [World.setCell]
  rw [Array.getElem?_modify, if_pos rfl, Array.getElem?_modify, if_pos rfl, k]
  rfl
theorem bx4v_three {w y : World} {a b c d r1 r2 r3 r4 : Int} (q : Q (bx4v w a b c d r1 r2 r3 r4) y) : Q (bx3 w a b c d) y := ((Q.refl _).alloc _).trans q

set_option maxRecDepth 100000 in
set_option maxHeartbeats 4000000 in
theorem rcorners_any (op al ah bl bh : Int) (w : World) (h1 : AtOk op al bl) (h2 : AtOk op al bh) (h3 : AtOk op ah bl) (h4 : AtOk op ah bh) :
    Calls Try.prog 44 #[.int .i64 op, spV al ah, spV bl bh] w fun e w' => e = .returned (spV (coL op al ah bl bh) (coH op al ah bl bh)) ∧ Q w w' := by
  unfold coL coH
  have HA1 := hideIt (fun x => rat_any op al bl x h1)
  have HA2 := hideIt (fun x => rat_any op al bh x h2)
  have HA3 := hideIt (fun x => rat_any op ah bl x h3)
  have HA4 := hideIt (fun x => rat_any op ah bh x h4)
  generalize atP op al bl = r1 at *
  generalize atP op al bh = r2 at *
  generalize atP op ah bl = r3 at *
  generalize atP op ah bh = r4 at *
  clear h1 h2 h3 h4
  go_enter Try.func44, Try.ntmps44
  go_wp2_with (fail)
  refine wp_region_held_drew (S := (fun y : World => Q (bx3 w al ah bl bh) y ∧ y.cell? ⟨w.heap.size, 0, none⟩ = some (.int .i64 al) ∧ y.cell? ⟨w.heap.size, 1, none⟩ = some (.int .i64 ah) ∧ y.cell? ⟨w.heap.size + 1, 0, none⟩ = some (.int .i64 bl) ∧ y.cell? ⟨w.heap.size + 1, 1, none⟩ = some (.int .i64 bh))) (by kernel_rfl) (⟨(Q.refl _).drew, (Q.refl _).drew.c6.1, (Q.refl _).drew.c6.2.1, (Q.refl _).drew.c6.2.2.1, (Q.refl _).drew.c6.2.2.2.1⟩) (fun hHeld => ?_)
  refine wpAnyH_take (i := 0) (oi := ⟨_, _, _, _, _, _⟩) (v := ?_) rfl (by kernel_rfl) (by kernel_rfl) (by kernel_rfl) (fun _ _ _ h => h) (Or.inl ⟨by rfl, ?_⟩) (by assumption) ?_
  rotate_left 1
  · intro w hSw; (try dsimp only at hSw); go_simp; all_goals with_reducible rfl
  try simp only [Act.put, List.setIfInBounds_toArray, List.set_cons_zero, List.set_cons_succ]
  refine wpAnyH_take (i := 1) (oi := ⟨_, _, _, _, _, _⟩) (v := ?_) rfl (by kernel_rfl) (by kernel_rfl) (by kernel_rfl) (fun _ _ _ h => h) (Or.inl ⟨by rfl, ?_⟩) (by assumption) ?_
  rotate_left 1
  · intro w hSw; (try dsimp only at hSw); go_simp; all_goals with_reducible rfl
  try simp only [Act.put, List.setIfInBounds_toArray, List.set_cons_zero, List.set_cons_succ]
  refine wpAnyH_take (i := 2) (oi := ⟨_, _, _, _, _, _⟩) (v := ?_) rfl (by kernel_rfl) (by kernel_rfl) (by kernel_rfl) (fun _ _ _ h => h) (Or.inl ⟨by rfl, ?_⟩) (by assumption) ?_
  rotate_left 1
  · intro w hSw; (try dsimp only at hSw); go_simp; all_goals with_reducible rfl
  try simp only [Act.put, List.setIfInBounds_toArray, List.set_cons_zero, List.set_cons_succ]
  refine wpAnyH_take (i := 3) (oi := ⟨_, _, _, _, _, _⟩) (v := ?_) rfl (by kernel_rfl) (by kernel_rfl) (by kernel_rfl) (fun _ _ _ h => h) (Or.inl ⟨by rfl, ?_⟩) (by assumption) ?_
  rotate_left 1
  · intro w hSw; (try dsimp only at hSw); go_simp; all_goals with_reducible rfl
  try simp only [Act.put, List.setIfInBounds_toArray, List.set_cons_zero, List.set_cons_succ]
  refine wpAnyH_take (i := 4) (oi := ⟨_, _, _, _, _, _⟩) (v := ?_) rfl (by kernel_rfl) (by kernel_rfl) (by kernel_rfl) (fun _ _ _ h => h) (Or.inl ⟨by rfl, ?_⟩) (by assumption) ?_
  rotate_left 1
  · intro w hSw; (try dsimp only at hSw); go_simp; all_goals with_reducible rfl
  try simp only [Act.put, List.setIfInBounds_toArray, List.set_cons_zero, List.set_cons_succ]
  refine wpAnyH_take (i := 6) (oi := ⟨_, _, _, _, _, _⟩) (v := ?_) rfl (by kernel_rfl) (by kernel_rfl) (by kernel_rfl) (fun _ _ _ h => h) (Or.inl ⟨by rfl, ?_⟩) (by assumption) ?_
  rotate_left 1
  · intro w hSw; (try dsimp only at hSw); go_simp; all_goals with_reducible rfl
  try simp only [Act.put, List.setIfInBounds_toArray, List.set_cons_zero, List.set_cons_succ]
  refine wpAnyH_take (i := 7) (oi := ⟨_, _, _, _, _, _⟩) (v := ?_) rfl (by kernel_rfl) (by kernel_rfl) (by kernel_rfl) (fun _ _ _ h => h) (Or.inl ⟨by rfl, ?_⟩) (by assumption) ?_
  rotate_left 1
  · intro w hSw; (try dsimp only at hSw); go_simp; all_goals with_reducible rfl
  try simp only [Act.put, List.setIfInBounds_toArray, List.set_cons_zero, List.set_cons_succ]
  refine wpAnyH_take (i := 8) (oi := ⟨_, _, _, _, _, _⟩) (v := ?_) rfl (by kernel_rfl) (by kernel_rfl) (by kernel_rfl) (fun _ _ _ h => h) (Or.inl ⟨by rfl, ?_⟩) (by assumption) ?_
  rotate_left 1
  · intro w hSw; (try dsimp only at hSw); go_simp; all_goals with_reducible rfl
  try simp only [Act.put, List.setIfInBounds_toArray, List.set_cons_zero, List.set_cons_succ]
  refine wpAnyH_take (i := 9) (oi := ⟨_, _, _, _, _, _⟩) (v := ?_) rfl (by kernel_rfl) (by kernel_rfl) (by kernel_rfl) (fun _ _ _ h => h) (Or.inl ⟨by rfl, ?_⟩) (by assumption) ?_
  rotate_left 1
  · intro w hSw; (try dsimp only at hSw); go_simp; all_goals with_reducible rfl
  try simp only [Act.put, List.setIfInBounds_toArray, List.set_cons_zero, List.set_cons_succ]
  refine wpAnyH_take (i := 10) (oi := ⟨_, _, _, _, _, _⟩) (v := ?_) rfl (by kernel_rfl) (by kernel_rfl) (by kernel_rfl) (fun _ _ _ h => h) (Or.inl ⟨by rfl, ?_⟩) (by assumption) ?_
  rotate_left 1
  · intro w hSw; (try dsimp only at hSw); go_simp; all_goals with_reducible rfl
  try simp only [Act.put, List.setIfInBounds_toArray, List.set_cons_zero, List.set_cons_succ]
  refine wpAnyH_take (i := 12) (oi := ⟨_, _, _, _, _, _⟩) (v := ?_) rfl (by kernel_rfl) (by kernel_rfl) (by kernel_rfl) (fun _ _ _ h => h) (Or.inl ⟨by rfl, ?_⟩) (by assumption) ?_
  rotate_left 1
  · intro w hSw; (try dsimp only at hSw); go_simp; all_goals with_reducible rfl
  try simp only [Act.put, List.setIfInBounds_toArray, List.set_cons_zero, List.set_cons_succ]
  refine wpAnyH_take (i := 13) (oi := ⟨_, _, _, _, _, _⟩) (v := ?_) rfl (by kernel_rfl) (by kernel_rfl) (by kernel_rfl) (fun _ _ _ h => h) (Or.inl ⟨by rfl, ?_⟩) (by assumption) ?_
  rotate_left 1
  · intro w hSw; (try dsimp only at hSw); go_simp; all_goals with_reducible rfl
  try simp only [Act.put, List.setIfInBounds_toArray, List.set_cons_zero, List.set_cons_succ]
  refine wpAnyH_take (i := 14) (oi := ⟨_, _, _, _, _, _⟩) (v := ?_) rfl (by kernel_rfl) (by kernel_rfl) (by kernel_rfl) (fun _ _ _ h => h) (Or.inl ⟨by rfl, ?_⟩) (by assumption) ?_
  rotate_left 1
  · intro w hSw; (try dsimp only at hSw); go_simp; all_goals with_reducible rfl
  try simp only [Act.put, List.setIfInBounds_toArray, List.set_cons_zero, List.set_cons_succ]
  refine wpAnyH_take (i := 15) (oi := ⟨_, _, _, _, _, _⟩) (v := ?_) rfl (by kernel_rfl) (by kernel_rfl) (by kernel_rfl) (fun _ _ _ h => h) (Or.inl ⟨by rfl, ?_⟩) (by assumption) ?_
  rotate_left 1
  · intro w hSw; (try dsimp only at hSw); go_simp; all_goals with_reducible rfl
  try simp only [Act.put, List.setIfInBounds_toArray, List.set_cons_zero, List.set_cons_succ]
  refine wpAnyH_take (i := 16) (oi := ⟨_, _, _, _, _, _⟩) (v := ?_) rfl (by kernel_rfl) (by kernel_rfl) (by kernel_rfl) (fun _ _ _ h => h) (Or.inl ⟨by rfl, ?_⟩) (by assumption) ?_
  rotate_left 1
  · intro w hSw; (try dsimp only at hSw); go_simp; all_goals with_reducible rfl
  try simp only [Act.put, List.setIfInBounds_toArray, List.set_cons_zero, List.set_cons_succ]
  refine wpAnyH_take (i := 18) (oi := ⟨_, _, _, _, _, _⟩) (v := ?_) rfl (by kernel_rfl) (by kernel_rfl) (by kernel_rfl) (fun _ _ _ h => h) (Or.inl ⟨by rfl, ?_⟩) (by assumption) ?_
  rotate_left 1
  · intro w hSw; (try dsimp only at hSw); go_simp; all_goals with_reducible rfl
  try simp only [Act.put, List.setIfInBounds_toArray, List.set_cons_zero, List.set_cons_succ]
  refine wpAnyH_take (i := 19) (oi := ⟨_, _, _, _, _, _⟩) (v := ?_) rfl (by kernel_rfl) (by kernel_rfl) (by kernel_rfl) (fun _ _ _ h => h) (Or.inl ⟨by rfl, ?_⟩) (by assumption) ?_
  rotate_left 1
  · intro w hSw; (try dsimp only at hSw); go_simp; all_goals with_reducible rfl
  try simp only [Act.put, List.setIfInBounds_toArray, List.set_cons_zero, List.set_cons_succ]
  refine wpAnyH_take (i := 20) (oi := ⟨_, _, _, _, _, _⟩) (v := ?_) rfl (by kernel_rfl) (by kernel_rfl) (by kernel_rfl) (fun _ _ _ h => h) (Or.inl ⟨by rfl, ?_⟩) (by assumption) ?_
  rotate_left 1
  · intro w hSw; (try dsimp only at hSw); go_simp; all_goals with_reducible rfl
  try simp only [Act.put, List.setIfInBounds_toArray, List.set_cons_zero, List.set_cons_succ]
  refine wpAnyH_take (i := 21) (oi := ⟨_, _, _, _, _, _⟩) (v := ?_) rfl (by kernel_rfl) (by kernel_rfl) (by kernel_rfl) (fun _ _ _ h => h) (Or.inl ⟨by rfl, ?_⟩) (by assumption) ?_
  rotate_left 1
  · intro w hSw; (try dsimp only at hSw); go_simp; all_goals with_reducible rfl
  try simp only [Act.put, List.setIfInBounds_toArray, List.set_cons_zero, List.set_cons_succ]
  refine wpAnyH_take (i := 22) (oi := ⟨_, _, _, _, _, _⟩) (v := ?_) rfl (by kernel_rfl) (by kernel_rfl) (by kernel_rfl) (fun _ _ _ h => h) (Or.inl ⟨by rfl, ?_⟩) (by assumption) ?_
  rotate_left 1
  · intro w hSw; (try dsimp only at hSw); go_simp; all_goals with_reducible rfl
  try simp only [Act.put, List.setIfInBounds_toArray, List.set_cons_zero, List.set_cons_succ]
  refine wpAnyH_ready (rs := [5]) (by kernel_rfl) (by simp) (AllReadyH.cons (o := ⟨_, _, _, _, _, _⟩) rfl (fun K hK => ?_) AllReadyH.nil)
  go_simp
  refine (HA1.out _).mono ?_; rintro e y ⟨rfl, rfl⟩; go_wp2_with (fail)
  refine hK.out _ _ ?_ (fun hHeld => ?_)
  · first | assumption | exact ⟨Q.alloc (Q.refl _).drew _, (Q.alloc (Q.refl _).drew _).c6.1, (Q.alloc (Q.refl _).drew _).c6.2.1, (Q.alloc (Q.refl _).drew _).c6.2.2.1, (Q.alloc (Q.refl _).drew _).c6.2.2.2.1⟩
  clear hK K
  try simp only [Act.put, List.setIfInBounds_toArray, List.set_cons_zero, List.set_cons_succ]
  refine wpAnyH_ready (rs := [11]) (by kernel_rfl) (by simp) (AllReadyH.cons (o := ⟨_, _, _, _, _, _⟩) rfl (fun K hK => ?_) AllReadyH.nil)
  go_simp
  refine (HA2.out _).mono ?_; rintro e y ⟨rfl, rfl⟩; go_wp2_with (fail)
  refine hK.out _ _ ?_ (fun hHeld => ?_)
  · first | assumption | exact ⟨Q.alloc (Q.refl _).drew _, (Q.alloc (Q.refl _).drew _).c6.1, (Q.alloc (Q.refl _).drew _).c6.2.1, (Q.alloc (Q.refl _).drew _).c6.2.2.1, (Q.alloc (Q.refl _).drew _).c6.2.2.2.1⟩
  clear hK K
  try simp only [Act.put, List.setIfInBounds_toArray, List.set_cons_zero, List.set_cons_succ]
  refine wpAnyH_ready (rs := [17]) (by kernel_rfl) (by simp) (AllReadyH.cons (o := ⟨_, _, _, _, _, _⟩) rfl (fun K hK => ?_) AllReadyH.nil)
  go_simp
  refine (HA3.out _).mono ?_; rintro e y ⟨rfl, rfl⟩; go_wp2_with (fail)
  refine hK.out _ _ ?_ (fun hHeld => ?_)
  · first | assumption | exact ⟨Q.alloc (Q.refl _).drew _, (Q.alloc (Q.refl _).drew _).c6.1, (Q.alloc (Q.refl _).drew _).c6.2.1, (Q.alloc (Q.refl _).drew _).c6.2.2.1, (Q.alloc (Q.refl _).drew _).c6.2.2.2.1⟩
  clear hK K
  try simp only [Act.put, List.setIfInBounds_toArray, List.set_cons_zero, List.set_cons_succ]
  refine wpAnyH_ready (rs := [23]) (by kernel_rfl) (by simp) (AllReadyH.cons (o := ⟨_, _, _, _, _, _⟩) rfl (fun K hK => ?_) AllReadyH.nil)
  go_simp
  refine (HA4.out _).mono ?_; rintro e y ⟨rfl, rfl⟩; go_wp2_with (fail)
  refine hK.out _ _ ?_ (fun hHeld => ?_)
  · first | assumption | exact ⟨Q.alloc (Q.refl _).drew _, (Q.alloc (Q.refl _).drew _).c6.1, (Q.alloc (Q.refl _).drew _).c6.2.1, (Q.alloc (Q.refl _).drew _).c6.2.2.1, (Q.alloc (Q.refl _).drew _).c6.2.2.2.1⟩
  clear hK K
  try simp only [Act.put, List.setIfInBounds_toArray, List.set_cons_zero, List.set_cons_succ]
  refine wpAnyH_ready (rs := [24]) (by kernel_rfl) (by simp) (AllReadyH.cons (o := ⟨_, _, _, _, _, _⟩) rfl (fun K hK => ?_) AllReadyH.nil)
  go_simp
  refine hK.out _ _ ?_ (fun hHeld => ?_)
  · first | assumption | exact ⟨Q.alloc (Q.refl _).drew _, (Q.alloc (Q.refl _).drew _).c6.1, (Q.alloc (Q.refl _).drew _).c6.2.1, (Q.alloc (Q.refl _).drew _).c6.2.2.1, (Q.alloc (Q.refl _).drew _).c6.2.2.2.1⟩
  clear hK K
  try simp only [Act.put, List.setIfInBounds_toArray, List.set_cons_zero, List.set_cons_succ]
  refine wpAnyH_take (i := 25) (oi := ⟨_, _, _, _, _, _⟩) (v := ?_) rfl (by kernel_rfl) (by kernel_rfl) (by kernel_rfl) (fun _ _ _ h => h) (Or.inl ⟨by rfl, ?_⟩) (by assumption) ?_
  rotate_left 1
  · intro w hSw; (try dsimp only at hSw); go_simp; all_goals with_reducible rfl
  try simp only [Act.put, List.setIfInBounds_toArray, List.set_cons_zero, List.set_cons_succ]
  refine wpAnyH_done (by kernel_rfl) ?_ _
  clear hHeld HA1 HA2 HA3 HA4
  go_wp2_with (fail)
  go_region
  go_wp2_with (fail)
  have hF : Hid (∀ y, Q (bx4v w al ah bl bh r1 r2 r3 r4) y → _) := fun y h => bx4v_arr h
  go_loopw [9] (fun i w' => ∃ k : Nat, 1 ≤ k ∧ k ≤ 4 ∧ i = .int .i64 k ∧ Q (bx4v w al ah bl bh r1 r2 r3 r4) w' ∧ Sp w' (w.heap.size + 1 + 1 + 1 + 1) (mnU r1 r2 r3 r4 k) (mxU r1 r2 r3 r4 k)) (fun i _ => 4 - (intOf i).toNat)
  case atStart =>
    have h := Sp.new (bx4v w al ah bl bh r1 r2 r3 r4) r1 r1
    rw [bx4v_size] at h
    exact ⟨1, by omega, by omega, rfl, ((Q.refl (bx4v w al ah bl bh r1 r2 r3 r4)).alloc _).drew.drew, h⟩
  case round =>
    obtain ⟨k, k1, k4, rfl, hq, hs⟩ := hrel
    have k0 := hs.c0
    have kk1 := hs.c1
    by_cases hlt : k < 4
    · have HJ : Hid (∀ x, Calls Try.prog 23 #[spV (mnU r1 r2 r3 r4 k) (mxU r1 r2 r3 r4 k), spV (pk4 r1 r2 r3 r4 k) (pk4 r1 r2 r3 r4 k)] x fun e w' => e = .returned (.agg #[.int .i64 (mnU r1 r2 r3 r4 (k + 1)), .int .i64 (mxU r1 r2 r3 r4 (k + 1))]) ∧ Q x w') := by
        intro x
        have h := rjoin_any (mnU r1 r2 r3 r4 k) (mxU r1 r2 r3 r4 k) (pk4 r1 r2 r3 r4 k) (pk4 r1 r2 r3 r4 k) x
        rw [(jo_pt _ _ _ (un_le r1 r2 r3 r4 k)).1, (jo_pt _ _ _ (un_le r1 r2 r3 r4 k)).2, (mnU_step r1 r2 r3 r4 k k1 hlt).1, (mnU_step r1 r2 r3 r4 k k1 hlt).2] at h
        exact h
      have h3 : k = 1 ∨ k = 2 ∨ k = 3 := by omega
      rcases h3 with rfl | rfl | rfl
      · have hp : pk4 r1 r2 r3 r4 1 = r2 := rfl
        rw [hp] at HJ
        clear hp
        generalize mnU r1 r2 r3 r4 1 = m at *
        generalize mxU r1 r2 r3 r4 1 = M at *
        generalize hm : mnU r1 r2 r3 r4 (1 + 1) = m' at *
        generalize hM : mxU r1 r2 r3 r4 (1 + 1) = M' at *
        have Em := hideIt hm
        have EM := hideIt hM
        clear hm hM
        go_wp2_with (fail)
        refine wp_region_held_drew (S := (fun y : World => Q (bx4v w al ah bl bh r1 r2 r3 r4) y ∧ y.cell? ⟨w.heap.size + 1 + 1 + 1, 0, none⟩ = some (.int .i64 r1) ∧ y.cell? ⟨w.heap.size + 1 + 1 + 1, 1, none⟩ = some (.int .i64 r2) ∧ y.cell? ⟨w.heap.size + 1 + 1 + 1, 2, none⟩ = some (.int .i64 r3) ∧ y.cell? ⟨w.heap.size + 1 + 1 + 1, 3, none⟩ = some (.int .i64 r4))) (by kernel_rfl) (⟨Q.drew hq, hF.out _ (Q.drew hq)⟩) (fun hHeld => ?_)
        refine wpAnyH_take (i := 1) (oi := ⟨_, _, _, _, _, _⟩) (v := ?_) rfl (by kernel_rfl) (by kernel_rfl) (by kernel_rfl) (fun _ _ _ h => h) (Or.inl ⟨by rfl, ?_⟩) (by assumption) ?_
        rotate_left 1
        · intro w hSw; (try dsimp only at hSw); go_simp; all_goals with_reducible rfl
        try simp only [Act.put, List.setIfInBounds_toArray, List.set_cons_zero, List.set_cons_succ]
        refine wpAnyH_take (i := 2) (oi := ⟨_, _, _, _, _, _⟩) (v := ?_) rfl (by kernel_rfl) (by kernel_rfl) (by kernel_rfl) (fun _ _ _ h => h) (Or.inl ⟨by rfl, ?_⟩) (by assumption) ?_
        rotate_left 1
        · intro w hSw; (try dsimp only at hSw); go_simp; all_goals with_reducible rfl
        try simp only [Act.put, List.setIfInBounds_toArray, List.set_cons_zero, List.set_cons_succ]
        refine wpAnyH_take (i := 3) (oi := ⟨_, _, _, _, _, _⟩) (v := ?_) rfl (by kernel_rfl) (by kernel_rfl) (by kernel_rfl) (fun _ _ _ h => h) (Or.inl ⟨by rfl, ?_⟩) (by assumption) ?_
        rotate_left 1
        · intro w hSw; (try dsimp only at hSw); go_simp; all_goals with_reducible rfl
        try simp only [Act.put, List.setIfInBounds_toArray, List.set_cons_zero, List.set_cons_succ]
        refine wpAnyH_take (i := 4) (oi := ⟨_, _, _, _, _, _⟩) (v := ?_) rfl (by kernel_rfl) (by kernel_rfl) (by kernel_rfl) (fun _ _ _ h => h) (Or.inl ⟨by rfl, ?_⟩) (by assumption) ?_
        rotate_left 1
        · intro w hSw; (try dsimp only at hSw); go_simp; all_goals with_reducible rfl
        try simp only [Act.put, List.setIfInBounds_toArray, List.set_cons_zero, List.set_cons_succ]
        refine wpAnyH_take (i := 5) (oi := ⟨_, _, _, _, _, _⟩) (v := ?_) rfl (by kernel_rfl) (by kernel_rfl) (by kernel_rfl) (fun _ _ _ h => h) (Or.inl ⟨by rfl, ?_⟩) (by assumption) ?_
        rotate_left 1
        · intro w hSw; (try dsimp only at hSw); go_simp; all_goals with_reducible rfl
        try simp only [Act.put, List.setIfInBounds_toArray, List.set_cons_zero, List.set_cons_succ]
        refine wpAnyH_take (i := 6) (oi := ⟨_, _, _, _, _, _⟩) (v := ?_) rfl (by kernel_rfl) (by kernel_rfl) (by kernel_rfl) (fun _ _ _ h => h) (Or.inl ⟨by rfl, ?_⟩) (by assumption) ?_
        rotate_left 1
        · intro w hSw; (try dsimp only at hSw); go_simp; all_goals with_reducible rfl
        try simp only [Act.put, List.setIfInBounds_toArray, List.set_cons_zero, List.set_cons_succ]
        refine wpAnyH_take (i := 7) (oi := ⟨_, _, _, _, _, _⟩) (v := ?_) rfl (by kernel_rfl) (by kernel_rfl) (by kernel_rfl) (fun _ _ _ h => h) (Or.inl ⟨by rfl, ?_⟩) (by assumption) ?_
        rotate_left 1
        · intro w hSw; (try dsimp only at hSw); go_simp; all_goals with_reducible rfl
        try simp only [Act.put, List.setIfInBounds_toArray, List.set_cons_zero, List.set_cons_succ]
        refine wpAnyH_take (i := 8) (oi := ⟨_, _, _, _, _, _⟩) (v := ?_) rfl (by kernel_rfl) (by kernel_rfl) (by kernel_rfl) (fun _ _ _ h => h) (Or.inl ⟨by rfl, ?_⟩) (by assumption) ?_
        rotate_left 1
        · intro w hSw; (try dsimp only at hSw); go_simp; all_goals with_reducible rfl
        try simp only [Act.put, List.setIfInBounds_toArray, List.set_cons_zero, List.set_cons_succ]
        refine wpAnyH_take (i := 9) (oi := ⟨_, _, _, _, _, _⟩) (v := ?_) rfl (by kernel_rfl) (by kernel_rfl) (by kernel_rfl) (fun _ _ _ h => h) (Or.inl ⟨by rfl, ?_⟩) (by assumption) ?_
        rotate_left 1
        · intro w hSw; (try dsimp only at hSw); go_simp; all_goals with_reducible rfl
        try simp only [Act.put, List.setIfInBounds_toArray, List.set_cons_zero, List.set_cons_succ]
        refine wpAnyH_ready (rs := [0]) (by kernel_rfl) (by simp) (AllReadyH.cons (o := ⟨_, _, _, _, _, _⟩) rfl (fun K hK => ?_) AllReadyH.nil)
        go_simp
        refine hK.out _ _ ?_ (fun hHeld => ?_)
        · first | assumption | exact ⟨s0, hF.out _ s0⟩ | exact ⟨q_set4 s0, hF.out _ (q_set4 s0)⟩
        clear hK K
        try simp only [Act.put, List.setIfInBounds_toArray, List.set_cons_zero, List.set_cons_succ]
        refine wpAnyH_ready (rs := [10]) (by kernel_rfl) (by simp) (AllReadyH.cons (o := ⟨_, _, _, _, _, _⟩) rfl (fun K hK => ?_) AllReadyH.nil)
        go_simp
        refine (HJ.out _).mono ?_; rintro e y ⟨rfl, q⟩; have s0 := (Q.drew hq).trans q; have SY := (Sp.keep (Sp.drew hs) q); have t0 := SY.c0; have t1 := SY.c1; have f0 := frz_blk SY 0; have f1 := frz_blk SY 1; go_wp2_with (fail)
        refine hK.out _ _ ?_ (fun hHeld => ?_)
        · first | assumption | exact ⟨s0, hF.out _ s0⟩ | exact ⟨q_set4 s0, hF.out _ (q_set4 s0)⟩
        clear hK K
        try simp only [Act.put, List.setIfInBounds_toArray, List.set_cons_zero, List.set_cons_succ]
        refine wpAnyH_ready (rs := [11]) (by kernel_rfl) (by simp) (AllReadyH.cons (o := ⟨_, _, _, _, _, _⟩) rfl (fun K hK => ?_) AllReadyH.nil)
        go_simp
        refine hK.out _ _ ?_ (fun hHeld => ?_)
        · first | assumption | exact ⟨s0, hF.out _ s0⟩ | exact ⟨q_set4 s0, hF.out _ (q_set4 s0)⟩
        clear hK K
        try simp only [Act.put, List.setIfInBounds_toArray, List.set_cons_zero, List.set_cons_succ]
        refine wpAnyH_done (by kernel_rfl) ?_ _
        go_wp2_with (fail)
        go_roundw
        case rel => exact ⟨1 + 1, by omega, by omega, by first | rfl | go_num, q_set4 s0, by rw [Em.out, EM.out]; exact Sp.set SY⟩
        case measure => simp [intOf]
      · have hp : pk4 r1 r2 r3 r4 2 = r3 := rfl
        rw [hp] at HJ
        clear hp
        generalize mnU r1 r2 r3 r4 2 = m at *
        generalize mxU r1 r2 r3 r4 2 = M at *
        generalize hm : mnU r1 r2 r3 r4 (2 + 1) = m' at *
        generalize hM : mxU r1 r2 r3 r4 (2 + 1) = M' at *
        have Em := hideIt hm
        have EM := hideIt hM
        clear hm hM
        go_wp2_with (fail)
        refine wp_region_held_drew (S := (fun y : World => Q (bx4v w al ah bl bh r1 r2 r3 r4) y ∧ y.cell? ⟨w.heap.size + 1 + 1 + 1, 0, none⟩ = some (.int .i64 r1) ∧ y.cell? ⟨w.heap.size + 1 + 1 + 1, 1, none⟩ = some (.int .i64 r2) ∧ y.cell? ⟨w.heap.size + 1 + 1 + 1, 2, none⟩ = some (.int .i64 r3) ∧ y.cell? ⟨w.heap.size + 1 + 1 + 1, 3, none⟩ = some (.int .i64 r4))) (by kernel_rfl) (⟨Q.drew hq, hF.out _ (Q.drew hq)⟩) (fun hHeld => ?_)
        refine wpAnyH_take (i := 1) (oi := ⟨_, _, _, _, _, _⟩) (v := ?_) rfl (by kernel_rfl) (by kernel_rfl) (by kernel_rfl) (fun _ _ _ h => h) (Or.inl ⟨by rfl, ?_⟩) (by assumption) ?_
        rotate_left 1
        · intro w hSw; (try dsimp only at hSw); go_simp; all_goals with_reducible rfl
        try simp only [Act.put, List.setIfInBounds_toArray, List.set_cons_zero, List.set_cons_succ]
        refine wpAnyH_take (i := 2) (oi := ⟨_, _, _, _, _, _⟩) (v := ?_) rfl (by kernel_rfl) (by kernel_rfl) (by kernel_rfl) (fun _ _ _ h => h) (Or.inl ⟨by rfl, ?_⟩) (by assumption) ?_
        rotate_left 1
        · intro w hSw; (try dsimp only at hSw); go_simp; all_goals with_reducible rfl
        try simp only [Act.put, List.setIfInBounds_toArray, List.set_cons_zero, List.set_cons_succ]
        refine wpAnyH_take (i := 3) (oi := ⟨_, _, _, _, _, _⟩) (v := ?_) rfl (by kernel_rfl) (by kernel_rfl) (by kernel_rfl) (fun _ _ _ h => h) (Or.inl ⟨by rfl, ?_⟩) (by assumption) ?_
        rotate_left 1
        · intro w hSw; (try dsimp only at hSw); go_simp; all_goals with_reducible rfl
        try simp only [Act.put, List.setIfInBounds_toArray, List.set_cons_zero, List.set_cons_succ]
        refine wpAnyH_take (i := 4) (oi := ⟨_, _, _, _, _, _⟩) (v := ?_) rfl (by kernel_rfl) (by kernel_rfl) (by kernel_rfl) (fun _ _ _ h => h) (Or.inl ⟨by rfl, ?_⟩) (by assumption) ?_
        rotate_left 1
        · intro w hSw; (try dsimp only at hSw); go_simp; all_goals with_reducible rfl
        try simp only [Act.put, List.setIfInBounds_toArray, List.set_cons_zero, List.set_cons_succ]
        refine wpAnyH_take (i := 5) (oi := ⟨_, _, _, _, _, _⟩) (v := ?_) rfl (by kernel_rfl) (by kernel_rfl) (by kernel_rfl) (fun _ _ _ h => h) (Or.inl ⟨by rfl, ?_⟩) (by assumption) ?_
        rotate_left 1
        · intro w hSw; (try dsimp only at hSw); go_simp; all_goals with_reducible rfl
        try simp only [Act.put, List.setIfInBounds_toArray, List.set_cons_zero, List.set_cons_succ]
        refine wpAnyH_take (i := 6) (oi := ⟨_, _, _, _, _, _⟩) (v := ?_) rfl (by kernel_rfl) (by kernel_rfl) (by kernel_rfl) (fun _ _ _ h => h) (Or.inl ⟨by rfl, ?_⟩) (by assumption) ?_
        rotate_left 1
        · intro w hSw; (try dsimp only at hSw); go_simp; all_goals with_reducible rfl
        try simp only [Act.put, List.setIfInBounds_toArray, List.set_cons_zero, List.set_cons_succ]
        refine wpAnyH_take (i := 7) (oi := ⟨_, _, _, _, _, _⟩) (v := ?_) rfl (by kernel_rfl) (by kernel_rfl) (by kernel_rfl) (fun _ _ _ h => h) (Or.inl ⟨by rfl, ?_⟩) (by assumption) ?_
        rotate_left 1
        · intro w hSw; (try dsimp only at hSw); go_simp; all_goals with_reducible rfl
        try simp only [Act.put, List.setIfInBounds_toArray, List.set_cons_zero, List.set_cons_succ]
        refine wpAnyH_take (i := 8) (oi := ⟨_, _, _, _, _, _⟩) (v := ?_) rfl (by kernel_rfl) (by kernel_rfl) (by kernel_rfl) (fun _ _ _ h => h) (Or.inl ⟨by rfl, ?_⟩) (by assumption) ?_
        rotate_left 1
        · intro w hSw; (try dsimp only at hSw); go_simp; all_goals with_reducible rfl
        try simp only [Act.put, List.setIfInBounds_toArray, List.set_cons_zero, List.set_cons_succ]
        refine wpAnyH_take (i := 9) (oi := ⟨_, _, _, _, _, _⟩) (v := ?_) rfl (by kernel_rfl) (by kernel_rfl) (by kernel_rfl) (fun _ _ _ h => h) (Or.inl ⟨by rfl, ?_⟩) (by assumption) ?_
        rotate_left 1
        · intro w hSw; (try dsimp only at hSw); go_simp; all_goals with_reducible rfl
        try simp only [Act.put, List.setIfInBounds_toArray, List.set_cons_zero, List.set_cons_succ]
        refine wpAnyH_ready (rs := [0]) (by kernel_rfl) (by simp) (AllReadyH.cons (o := ⟨_, _, _, _, _, _⟩) rfl (fun K hK => ?_) AllReadyH.nil)
        go_simp
        refine hK.out _ _ ?_ (fun hHeld => ?_)
        · first | assumption | exact ⟨s0, hF.out _ s0⟩ | exact ⟨q_set4 s0, hF.out _ (q_set4 s0)⟩
        clear hK K
        try simp only [Act.put, List.setIfInBounds_toArray, List.set_cons_zero, List.set_cons_succ]
        refine wpAnyH_ready (rs := [10]) (by kernel_rfl) (by simp) (AllReadyH.cons (o := ⟨_, _, _, _, _, _⟩) rfl (fun K hK => ?_) AllReadyH.nil)
        go_simp
        refine (HJ.out _).mono ?_; rintro e y ⟨rfl, q⟩; have s0 := (Q.drew hq).trans q; have SY := (Sp.keep (Sp.drew hs) q); have t0 := SY.c0; have t1 := SY.c1; have f0 := frz_blk SY 0; have f1 := frz_blk SY 1; go_wp2_with (fail)
        refine hK.out _ _ ?_ (fun hHeld => ?_)
        · first | assumption | exact ⟨s0, hF.out _ s0⟩ | exact ⟨q_set4 s0, hF.out _ (q_set4 s0)⟩
        clear hK K
        try simp only [Act.put, List.setIfInBounds_toArray, List.set_cons_zero, List.set_cons_succ]
        refine wpAnyH_ready (rs := [11]) (by kernel_rfl) (by simp) (AllReadyH.cons (o := ⟨_, _, _, _, _, _⟩) rfl (fun K hK => ?_) AllReadyH.nil)
        go_simp
        refine hK.out _ _ ?_ (fun hHeld => ?_)
        · first | assumption | exact ⟨s0, hF.out _ s0⟩ | exact ⟨q_set4 s0, hF.out _ (q_set4 s0)⟩
        clear hK K
        try simp only [Act.put, List.setIfInBounds_toArray, List.set_cons_zero, List.set_cons_succ]
        refine wpAnyH_done (by kernel_rfl) ?_ _
        go_wp2_with (fail)
        go_roundw
        case rel => exact ⟨2 + 1, by omega, by omega, by first | rfl | go_num, q_set4 s0, by rw [Em.out, EM.out]; exact Sp.set SY⟩
        case measure => simp [intOf]
      · have hp : pk4 r1 r2 r3 r4 3 = r4 := rfl
        rw [hp] at HJ
        clear hp
        generalize mnU r1 r2 r3 r4 3 = m at *
        generalize mxU r1 r2 r3 r4 3 = M at *
        generalize hm : mnU r1 r2 r3 r4 (3 + 1) = m' at *
        generalize hM : mxU r1 r2 r3 r4 (3 + 1) = M' at *
        have Em := hideIt hm
        have EM := hideIt hM
        clear hm hM
        go_wp2_with (fail)
        refine wp_region_held_drew (S := (fun y : World => Q (bx4v w al ah bl bh r1 r2 r3 r4) y ∧ y.cell? ⟨w.heap.size + 1 + 1 + 1, 0, none⟩ = some (.int .i64 r1) ∧ y.cell? ⟨w.heap.size + 1 + 1 + 1, 1, none⟩ = some (.int .i64 r2) ∧ y.cell? ⟨w.heap.size + 1 + 1 + 1, 2, none⟩ = some (.int .i64 r3) ∧ y.cell? ⟨w.heap.size + 1 + 1 + 1, 3, none⟩ = some (.int .i64 r4))) (by kernel_rfl) (⟨Q.drew hq, hF.out _ (Q.drew hq)⟩) (fun hHeld => ?_)
        refine wpAnyH_take (i := 1) (oi := ⟨_, _, _, _, _, _⟩) (v := ?_) rfl (by kernel_rfl) (by kernel_rfl) (by kernel_rfl) (fun _ _ _ h => h) (Or.inl ⟨by rfl, ?_⟩) (by assumption) ?_
        rotate_left 1
        · intro w hSw; (try dsimp only at hSw); go_simp; all_goals with_reducible rfl
        try simp only [Act.put, List.setIfInBounds_toArray, List.set_cons_zero, List.set_cons_succ]
        refine wpAnyH_take (i := 2) (oi := ⟨_, _, _, _, _, _⟩) (v := ?_) rfl (by kernel_rfl) (by kernel_rfl) (by kernel_rfl) (fun _ _ _ h => h) (Or.inl ⟨by rfl, ?_⟩) (by assumption) ?_
        rotate_left 1
        · intro w hSw; (try dsimp only at hSw); go_simp; all_goals with_reducible rfl
        try simp only [Act.put, List.setIfInBounds_toArray, List.set_cons_zero, List.set_cons_succ]
        refine wpAnyH_take (i := 3) (oi := ⟨_, _, _, _, _, _⟩) (v := ?_) rfl (by kernel_rfl) (by kernel_rfl) (by kernel_rfl) (fun _ _ _ h => h) (Or.inl ⟨by rfl, ?_⟩) (by assumption) ?_
        rotate_left 1
        · intro w hSw; (try dsimp only at hSw); go_simp; all_goals with_reducible rfl
        try simp only [Act.put, List.setIfInBounds_toArray, List.set_cons_zero, List.set_cons_succ]
        refine wpAnyH_take (i := 4) (oi := ⟨_, _, _, _, _, _⟩) (v := ?_) rfl (by kernel_rfl) (by kernel_rfl) (by kernel_rfl) (fun _ _ _ h => h) (Or.inl ⟨by rfl, ?_⟩) (by assumption) ?_
        rotate_left 1
        · intro w hSw; (try dsimp only at hSw); go_simp; all_goals with_reducible rfl
        try simp only [Act.put, List.setIfInBounds_toArray, List.set_cons_zero, List.set_cons_succ]
        refine wpAnyH_take (i := 5) (oi := ⟨_, _, _, _, _, _⟩) (v := ?_) rfl (by kernel_rfl) (by kernel_rfl) (by kernel_rfl) (fun _ _ _ h => h) (Or.inl ⟨by rfl, ?_⟩) (by assumption) ?_
        rotate_left 1
        · intro w hSw; (try dsimp only at hSw); go_simp; all_goals with_reducible rfl
        try simp only [Act.put, List.setIfInBounds_toArray, List.set_cons_zero, List.set_cons_succ]
        refine wpAnyH_take (i := 6) (oi := ⟨_, _, _, _, _, _⟩) (v := ?_) rfl (by kernel_rfl) (by kernel_rfl) (by kernel_rfl) (fun _ _ _ h => h) (Or.inl ⟨by rfl, ?_⟩) (by assumption) ?_
        rotate_left 1
        · intro w hSw; (try dsimp only at hSw); go_simp; all_goals with_reducible rfl
        try simp only [Act.put, List.setIfInBounds_toArray, List.set_cons_zero, List.set_cons_succ]
        refine wpAnyH_take (i := 7) (oi := ⟨_, _, _, _, _, _⟩) (v := ?_) rfl (by kernel_rfl) (by kernel_rfl) (by kernel_rfl) (fun _ _ _ h => h) (Or.inl ⟨by rfl, ?_⟩) (by assumption) ?_
        rotate_left 1
        · intro w hSw; (try dsimp only at hSw); go_simp; all_goals with_reducible rfl
        try simp only [Act.put, List.setIfInBounds_toArray, List.set_cons_zero, List.set_cons_succ]
        refine wpAnyH_take (i := 8) (oi := ⟨_, _, _, _, _, _⟩) (v := ?_) rfl (by kernel_rfl) (by kernel_rfl) (by kernel_rfl) (fun _ _ _ h => h) (Or.inl ⟨by rfl, ?_⟩) (by assumption) ?_
        rotate_left 1
        · intro w hSw; (try dsimp only at hSw); go_simp; all_goals with_reducible rfl
        try simp only [Act.put, List.setIfInBounds_toArray, List.set_cons_zero, List.set_cons_succ]
        refine wpAnyH_take (i := 9) (oi := ⟨_, _, _, _, _, _⟩) (v := ?_) rfl (by kernel_rfl) (by kernel_rfl) (by kernel_rfl) (fun _ _ _ h => h) (Or.inl ⟨by rfl, ?_⟩) (by assumption) ?_
        rotate_left 1
        · intro w hSw; (try dsimp only at hSw); go_simp; all_goals with_reducible rfl
        try simp only [Act.put, List.setIfInBounds_toArray, List.set_cons_zero, List.set_cons_succ]
        refine wpAnyH_ready (rs := [0]) (by kernel_rfl) (by simp) (AllReadyH.cons (o := ⟨_, _, _, _, _, _⟩) rfl (fun K hK => ?_) AllReadyH.nil)
        go_simp
        refine hK.out _ _ ?_ (fun hHeld => ?_)
        · first | assumption | exact ⟨s0, hF.out _ s0⟩ | exact ⟨q_set4 s0, hF.out _ (q_set4 s0)⟩
        clear hK K
        try simp only [Act.put, List.setIfInBounds_toArray, List.set_cons_zero, List.set_cons_succ]
        refine wpAnyH_ready (rs := [10]) (by kernel_rfl) (by simp) (AllReadyH.cons (o := ⟨_, _, _, _, _, _⟩) rfl (fun K hK => ?_) AllReadyH.nil)
        go_simp
        refine (HJ.out _).mono ?_; rintro e y ⟨rfl, q⟩; have s0 := (Q.drew hq).trans q; have SY := (Sp.keep (Sp.drew hs) q); have t0 := SY.c0; have t1 := SY.c1; have f0 := frz_blk SY 0; have f1 := frz_blk SY 1; go_wp2_with (fail)
        refine hK.out _ _ ?_ (fun hHeld => ?_)
        · first | assumption | exact ⟨s0, hF.out _ s0⟩ | exact ⟨q_set4 s0, hF.out _ (q_set4 s0)⟩
        clear hK K
        try simp only [Act.put, List.setIfInBounds_toArray, List.set_cons_zero, List.set_cons_succ]
        refine wpAnyH_ready (rs := [11]) (by kernel_rfl) (by simp) (AllReadyH.cons (o := ⟨_, _, _, _, _, _⟩) rfl (fun K hK => ?_) AllReadyH.nil)
        go_simp
        refine hK.out _ _ ?_ (fun hHeld => ?_)
        · first | assumption | exact ⟨s0, hF.out _ s0⟩ | exact ⟨q_set4 s0, hF.out _ (q_set4 s0)⟩
        clear hK K
        try simp only [Act.put, List.setIfInBounds_toArray, List.set_cons_zero, List.set_cons_succ]
        refine wpAnyH_done (by kernel_rfl) ?_ _
        go_wp2_with (fail)
        go_roundw
        case rel => exact ⟨3 + 1, by omega, by omega, by first | rfl | go_num, q_set4 s0, by rw [Em.out, EM.out]; exact Sp.set SY⟩
        case measure => simp [intOf]
    · have e4 : k = 4 := by omega
      subst e4
      obtain ⟨c0, c1, c2, c3, c4, c5, f4, f5⟩ := (bx4v_three hq).c6
      have em : mnU r1 r2 r3 r4 4 = mn4 r1 r2 r3 r4 := rfl
      have eM : mxU r1 r2 r3 r4 4 = mx4 r1 r2 r3 r4 := rfl
      rw [em] at k0
      rw [eM] at kk1
      clear em eM hs
      go_wp2_with (fail)
      exact bodyPost_ret (v := spV (mn4 r1 r2 r3 r4) (mx4 r1 r2 r3 r4)) (by simp [results, Try.results44, go_sem, c4, c5]) rfl ⟨rfl, q_set3 (bx4v_three hq) _ _⟩

end Go.Proofs.Ytancfhnhjfhbfaa
