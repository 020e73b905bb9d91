/-
  What the document's Join of layer 10 returns: a contract over the program, for all spans.
-/
import Derived.Test.YtancfhnhjfhbfaaSpD
namespace Go.Proofs.Ytancfhnhjfhbfaa
open Go.RowKit
open Burin
set_option linter.unusedVariables false

theorem set_keep {w y : World} (h : Q w y) {p : Addr} (hp : w.heap.size ≤ p.block) (u : Value) : Q w (y.setCell p u) := Below.setCell h hp u

set_option maxHeartbeats 4000000 in
theorem rjoin_any (al ah bl bh : Int) (w : World) :
    Calls Try.prog 23 #[spV al ah, spV bl bh] w fun e w' => e = .returned (spV (joL al ah bl bh) (joH al ah bl bh)) ∧ Q w w' := by
  unfold joL joH
  have R := hideIt (Q.refl (bx3 w al ah bl bh))
  have HA := hideIt rnone_any
  cases hn : nonB al ah
  · cases hm : nonB bl bh
    · rcases Int.lt_or_le bl al with u1 | u1 <;> rcases Int.lt_or_le ah bh with u2 | u2
      · have e1 : min al bl = bl := by omega
        have e2 : max ah bh = bh := by omega
        rw [e1, e2]
        clear e1 e2
        have d1 : decide (bl < al) = true := by simp; omega
        have d2 : decide (ah < bh) = true := by simp; omega
        go_enter Try.func23, Try.ntmps23
        go_wp2_with (first | (go_at_call 42; refine (HA.out _ _ _).mono ?_; rintro e x ⟨rfl, q⟩; (try clear c0 c1 c2 c3 c4 c5 f4 f5 f0 f1); have R := hideIt (R.out.trans q); clear q; obtain ⟨c0, c1, c2, c3, c4, c5, f4, f5⟩ := R.out.c6; have f0 := frz_blk (sp33 R.out).1 0; have f1 := frz_blk (sp33 R.out).1 1))
        refine bodyPost_ret (v := spV bl bh) (by simp [results, Try.results23, go_sem, c4, c5]) rfl ⟨rfl, ?_⟩
        exact (set_keep (set_keep (set_keep (set_keep ((q_bx3 _ _ _ _ _).trans R.out) (by first | exact Nat.le_refl _ | (show w.heap.size ≤ w.heap.size + 1 + 1; omega)) _) (by first | exact Nat.le_refl _ | (show w.heap.size ≤ w.heap.size + 1 + 1; omega)) _) (by first | exact Nat.le_refl _ | (show w.heap.size ≤ w.heap.size + 1 + 1; omega)) _) (by first | exact Nat.le_refl _ | (show w.heap.size ≤ w.heap.size + 1 + 1; omega)) _)
      · have e1 : min al bl = bl := by omega
        have e2 : max ah bh = ah := by omega
        rw [e1, e2]
        clear e1 e2
        have d1 : decide (bl < al) = true := by simp; omega
        have d2 : decide (ah < bh) = false := by simp; omega
        go_enter Try.func23, Try.ntmps23
        go_wp2_with (first | (go_at_call 42; refine (HA.out _ _ _).mono ?_; rintro e x ⟨rfl, q⟩; (try clear c0 c1 c2 c3 c4 c5 f4 f5 f0 f1); have R := hideIt (R.out.trans q); clear q; obtain ⟨c0, c1, c2, c3, c4, c5, f4, f5⟩ := R.out.c6; have f0 := frz_blk (sp33 R.out).1 0; have f1 := frz_blk (sp33 R.out).1 1))
        refine bodyPost_ret (v := spV bl ah) (by simp [results, Try.results23, go_sem, c4, c5]) rfl ⟨rfl, ?_⟩
        exact (set_keep (set_keep (set_keep ((q_bx3 _ _ _ _ _).trans R.out) (by first | exact Nat.le_refl _ | (show w.heap.size ≤ w.heap.size + 1 + 1; omega)) _) (by first | exact Nat.le_refl _ | (show w.heap.size ≤ w.heap.size + 1 + 1; omega)) _) (by first | exact Nat.le_refl _ | (show w.heap.size ≤ w.heap.size + 1 + 1; omega)) _)
      · have e1 : min al bl = al := by omega
        have e2 : max ah bh = bh := by omega
        rw [e1, e2]
        clear e1 e2
        have d1 : decide (bl < al) = false := by simp; omega
        have d2 : decide (ah < bh) = true := by simp; omega
        go_enter Try.func23, Try.ntmps23
        go_wp2_with (first | (go_at_call 42; refine (HA.out _ _ _).mono ?_; rintro e x ⟨rfl, q⟩; (try clear c0 c1 c2 c3 c4 c5 f4 f5 f0 f1); have R := hideIt (R.out.trans q); clear q; obtain ⟨c0, c1, c2, c3, c4, c5, f4, f5⟩ := R.out.c6; have f0 := frz_blk (sp33 R.out).1 0; have f1 := frz_blk (sp33 R.out).1 1))
        refine bodyPost_ret (v := spV al bh) (by simp [results, Try.results23, go_sem, c4, c5]) rfl ⟨rfl, ?_⟩
        exact (set_keep (set_keep (set_keep ((q_bx3 _ _ _ _ _).trans R.out) (by first | exact Nat.le_refl _ | (show w.heap.size ≤ w.heap.size + 1 + 1; omega)) _) (by first | exact Nat.le_refl _ | (show w.heap.size ≤ w.heap.size + 1 + 1; omega)) _) (by first | exact Nat.le_refl _ | (show w.heap.size ≤ w.heap.size + 1 + 1; omega)) _)
      · have e1 : min al bl = al := by omega
        have e2 : max ah bh = ah := by omega
        rw [e1, e2]
        clear e1 e2
        have d1 : decide (bl < al) = false := by simp; omega
        have d2 : decide (ah < bh) = false := by simp; omega
        go_enter Try.func23, Try.ntmps23
        go_wp2_with (first | (go_at_call 42; refine (HA.out _ _ _).mono ?_; rintro e x ⟨rfl, q⟩; (try clear c0 c1 c2 c3 c4 c5 f4 f5 f0 f1); have R := hideIt (R.out.trans q); clear q; obtain ⟨c0, c1, c2, c3, c4, c5, f4, f5⟩ := R.out.c6; have f0 := frz_blk (sp33 R.out).1 0; have f1 := frz_blk (sp33 R.out).1 1))
        refine bodyPost_ret (v := spV al ah) (by simp [results, Try.results23, go_sem, c4, c5]) rfl ⟨rfl, ?_⟩
        exact (set_keep (set_keep ((q_bx3 _ _ _ _ _).trans R.out) (by first | exact Nat.le_refl _ | (show w.heap.size ≤ w.heap.size + 1 + 1; omega)) _) (by first | exact Nat.le_refl _ | (show w.heap.size ≤ w.heap.size + 1 + 1; omega)) _)
    · go_enter Try.func23, Try.ntmps23
      go_wp2_with (first | (go_at_call 42; refine (HA.out _ _ _).mono ?_; rintro e x ⟨rfl, q⟩; (try clear c0 c1 c2 c3 c4 c5 f4 f5 f0 f1); have R := hideIt (R.out.trans q); clear q; obtain ⟨c0, c1, c2, c3, c4, c5, f4, f5⟩ := R.out.c6; have f0 := frz_blk (sp33 R.out).1 0; have f1 := frz_blk (sp33 R.out).1 1))
      exact bodyPost_ret (v := spV al ah) (by simp [results, Try.results23, go_sem, c4, c5]) rfl ⟨rfl, q_set3 R.out _ _⟩
  · go_enter Try.func23, Try.ntmps23
    go_wp2_with (first | (go_at_call 42; refine (HA.out _ _ _).mono ?_; rintro e x ⟨rfl, q⟩; (try clear c0 c1 c2 c3 c4 c5 f4 f5 f0 f1); have R := hideIt (R.out.trans q); clear q; obtain ⟨c0, c1, c2, c3, c4, c5, f4, f5⟩ := R.out.c6; have f0 := frz_blk (sp33 R.out).1 0; have f1 := frz_blk (sp33 R.out).1 1))
    exact bodyPost_ret (v := spV bl bh) (by simp [results, Try.results23, go_sem, c4, c5]) rfl ⟨rfl, q_set3 R.out _ _⟩

end Go.Proofs.Ytancfhnhjfhbfaa
