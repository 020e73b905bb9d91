/-
  What settle, divide, shift, compare and Do return: contracts over the program, for every operation's and type's number and every two values of 64 bits.
-/
import Derived.Test.YtancfhnhjfhbfaaBaseB
import Derived.Test.YtancfhnhjfhbfaaPlainB
namespace Go.Proofs.Ytancfhnhjfhbfaa
open Go.RowKit
open Burin

theorem ret_two {k : IntKind} {a b c d : Int} (h : a = b) (h' : c = d) : Ending.returned (.tuple #[.int .i64 a, .int k c]) = .returned (.tuple #[.int .i64 b, .int k d]) := by rw [h, h']

set_option maxHeartbeats 400000 in
theorem rkeep_any (t v : Int) (w : World) (h0 : 0 ≤ t) :
    Calls Try.prog 57 #[.int .i64 t, .int .i64 v] w fun e w' => e = .returned (.tuple #[.int .i64 (keep1 t v), .int .i64 (keep2 t v)]) ∧ Q w w' := by
  cases hs : sgn t with
  | true =>
    cases hf : fit t v with
    | true =>
      have e1 : keep1 t v = wr t v := by simp [keep1, hf]
      have e2 : keep2 t v = 0 := by simp [keep2, hf]
      rw [e1, e2]
      clear e1 e2
      go_enter Try.func57, Try.ntmps57
      go_wp2_with (first | (go_at_call 53; refine (rsigned_any _ _ (by omega)).mono ?_; rw [hs]; rintro e x1 ⟨rfl, rfl⟩) | (go_at_call 59; refine (rfits_any _ _ _ (by omega)).mono ?_; rw [hf]; rintro e x2 ⟨rfl, q2⟩) | (go_at_call 27; refine (rwrap_any _ _ _ (by omega)).mono ?_; rintro e x3 ⟨rfl, q3⟩))
      go_ret2
      exact ⟨rfl, q2.trans q3⟩
    | false =>
      have e1 : keep1 t v = 0 := by simp [keep1, hf, hs]
      have e2 : keep2 t v = 1 := by simp [keep2, hf, hs]
      rw [e1, e2]
      clear e1 e2
      go_enter Try.func57, Try.ntmps57
      go_wp2_with (first | (go_at_call 53; refine (rsigned_any _ _ (by omega)).mono ?_; rw [hs]; rintro e x1 ⟨rfl, rfl⟩) | (go_at_call 59; refine (rfits_any _ _ _ (by omega)).mono ?_; rw [hf]; rintro e x2 ⟨rfl, q2⟩))
      go_ret2
      exact ⟨rfl, q2⟩
  | false =>
    have e1 : keep1 t v = wr t v := by simp [keep1, hs]
    have e2 : keep2 t v = 0 := by simp [keep2, hs]
    rw [e1, e2]
    clear e1 e2
    go_enter Try.func57, Try.ntmps57
    go_wp2_with (first | (go_at_call 53; refine (rsigned_any _ _ (by omega)).mono ?_; rw [hs]; rintro e x1 ⟨rfl, rfl⟩) | (go_at_call 27; refine (rwrap_any _ _ _ (by omega)).mono ?_; rintro e x3 ⟨rfl, q3⟩))
    go_ret2
    exact ⟨rfl, q3⟩

set_option maxHeartbeats 400000 in
theorem ryes_any (b : Bool) (w : World) :
    Calls Try.prog 61 #[.bool b] w fun e w' => e = .returned (.tuple #[.int .i64 (tr b), .int .i64 0]) ∧ w' = w := by
  cases b
  all_goals
    go_enter Try.func61, Try.ntmps61
    go_wp2
    go_ret2
    exact ⟨rfl, rfl⟩

end Go.Proofs.Ytancfhnhjfhbfaa
