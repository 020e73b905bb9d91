/-
  What settle, divide, shift, compare and Do return: contracts over the program, for every operation's and type's number and every two values of 64 bits.
-/
import Derived.Test.YtejkblbhnbbjaaaNuBaseB
import Derived.Test.YtejkblbhnbbjaaaNuPlainB
namespace Go.Proofs.Ytejkblbhnbbjaaa.Nu
open Go.RowKit
open Burin

theorem ret_two {k : IntKind} {a b c d : Int} (h : a = b) (h' : c = d) : Ending.returned (.tuple #[.int .i64 a, .int k c]) = .returned (.tuple #[.int .i64 b, .int k d]) := by rw [h, h']

set_option maxHeartbeats 400000 in
theorem settle_any (t v : Int) (w : World) (h0 : 0 ≤ t) :
    Calls Try.prog 59 #[.int .u8 t, .int .i64 v] w fun e w' => e = .returned (.tuple #[.int .i64 (keep1 t v), .int .u8 (keep2 t v)]) ∧ Q w w' := by
  cases hs : sgn t with
  | true =>
    cases hf : fit t v with
    | true =>
      have e1 : keep1 t v = v := by simp [keep1, hf, wr_of_fit _ _ hf]
      have e2 : keep2 t v = 0 := by simp [keep2, hf]
      rw [e1, e2]
      clear e1 e2
      go_enter Try.func59, Try.ntmps59
      go_wp2_with (first | (go_at_call 63; refine (signed_any _ _ (by omega)).mono ?_; rw [hs]; rintro e x1 ⟨rfl, rfl⟩) | (go_at_call 64; refine (fits_any _ _ _ (by omega)).mono ?_; rw [hf]; rintro e x2 ⟨rfl, q2⟩))
      go_ret2
      exact ⟨rfl, q2⟩
    | false =>
      have e1 : keep1 t v = 0 := by simp [keep1, hf, hs]
      have e2 : keep2 t v = 1 := by simp [keep2, hf, hs]
      rw [e1, e2]
      clear e1 e2
      go_enter Try.func59, Try.ntmps59
      go_wp2_with (first | (go_at_call 63; refine (signed_any _ _ (by omega)).mono ?_; rw [hs]; rintro e x1 ⟨rfl, rfl⟩) | (go_at_call 64; refine (fits_any _ _ _ (by omega)).mono ?_; rw [hf]; rintro e x2 ⟨rfl, q2⟩))
      go_ret2
      exact ⟨rfl, q2⟩
  | false =>
    have e1 : keep1 t v = wr t v := by simp [keep1, hs]
    have e2 : keep2 t v = 0 := by simp [keep2, hs]
    rw [e1, e2]
    clear e1 e2
    go_enter Try.func59, Try.ntmps59
    go_wp2_with (first | (go_at_call 63; refine (signed_any _ _ (by omega)).mono ?_; rw [hs]; rintro e x1 ⟨rfl, rfl⟩) | (go_at_call 49; refine (wrap_any _ _ _ (by omega)).mono ?_; rintro e x2 ⟨rfl, rfl⟩))
    go_ret2
    exact ⟨rfl, Q.refl _⟩

set_option maxHeartbeats 400000 in
theorem rkeep_any (t v : Int) (w : World) (h0 : 0 ≤ t) :
    Calls Try.prog 22 #[.int .i64 t, .int .i64 v] w fun e w' => e = .returned (.tuple #[.int .i64 (keep1 t v), .int .i64 (keep2 t v)]) ∧ Q w w' := by
  cases hs : sgn t with
  | true =>
    cases hf : fit t v with
    | true =>
      have e1 : keep1 t v = wr t v := by simp [keep1, hf]
      have e2 : keep2 t v = 0 := by simp [keep2, hf]
      rw [e1, e2]
      clear e1 e2
      go_enter Try.func22, Try.ntmps22
      go_wp2_with (first | (go_at_call 23; refine (rsigned_any _ _ (by omega)).mono ?_; rw [hs]; rintro e x1 ⟨rfl, rfl⟩) | (go_at_call 25; refine (rfits_any _ _ _ (by omega)).mono ?_; rw [hf]; rintro e x2 ⟨rfl, q2⟩) | (go_at_call 21; refine (rwrap_any _ _ _ (by omega)).mono ?_; rintro e x3 ⟨rfl, q3⟩))
      go_ret2
      exact ⟨rfl, q2.trans q3⟩
    | false =>
      have e1 : keep1 t v = 0 := by simp [keep1, hf, hs]
      have e2 : keep2 t v = 1 := by simp [keep2, hf, hs]
      rw [e1, e2]
      clear e1 e2
      go_enter Try.func22, Try.ntmps22
      go_wp2_with (first | (go_at_call 23; refine (rsigned_any _ _ (by omega)).mono ?_; rw [hs]; rintro e x1 ⟨rfl, rfl⟩) | (go_at_call 25; refine (rfits_any _ _ _ (by omega)).mono ?_; rw [hf]; rintro e x2 ⟨rfl, q2⟩))
      go_ret2
      exact ⟨rfl, q2⟩
  | false =>
    have e1 : keep1 t v = wr t v := by simp [keep1, hs]
    have e2 : keep2 t v = 0 := by simp [keep2, hs]
    rw [e1, e2]
    clear e1 e2
    go_enter Try.func22, Try.ntmps22
    go_wp2_with (first | (go_at_call 23; refine (rsigned_any _ _ (by omega)).mono ?_; rw [hs]; rintro e x1 ⟨rfl, rfl⟩) | (go_at_call 21; refine (rwrap_any _ _ _ (by omega)).mono ?_; rintro e x3 ⟨rfl, q3⟩))
    go_ret2
    exact ⟨rfl, q3⟩

set_option maxHeartbeats 400000 in
theorem truth_any (b : Bool) (w : World) :
    Calls Try.prog 57 #[.bool b] w fun e w' => e = .returned (.int .i64 (tr b)) ∧ w' = w := by
  cases b
  all_goals
    go_enter Try.func57, Try.ntmps57
    go_wp2
    go_ret
    exact ⟨rfl, rfl⟩

set_option maxHeartbeats 400000 in
theorem ryes_any (b : Bool) (w : World) :
    Calls Try.prog 27 #[.bool b] w fun e w' => e = .returned (.tuple #[.int .i64 (tr b), .int .i64 0]) ∧ w' = w := by
  cases b
  all_goals
    go_enter Try.func27, Try.ntmps27
    go_wp2
    go_ret2
    exact ⟨rfl, rfl⟩

set_option maxHeartbeats 400000 in
theorem compare_any (op a b : Int) (w : World) :
    Calls Try.prog 61 #[.int .u8 op, .int .i64 a, .int .i64 b] w fun e w' => e = .returned (.tuple #[.int .i64 (cmp1 op a b), .int .u8 (cmp2 op)]) ∧ w' = w := by
  have h : op = 11 ∨ op = 12 ∨ op = 13 ∨ op = 14 ∨ op = 15 ∨ op = 16 ∨ (op < 11 ∨ 16 < op) := by omega
  rcases h with rfl | rfl | rfl | rfl | rfl | rfl | h
  case inr.inr.inr.inr.inr.inr =>
    have e1 : cmp1 op a b = 0 := by simp [cmp1, h]
    have e2 : cmp2 op = 5 := by simp [cmp2, h]
    rw [e1, e2]
    have k1 : (op == 11) = false := by simp; omega
    have k2 : (op == 12) = false := by simp; omega
    have k3 : (op == 13) = false := by simp; omega
    have k4 : (op == 14) = false := by simp; omega
    have k5 : (op == 15) = false := by simp; omega
    have k6 : (op == 16) = false := by simp; omega
    clear e1 e2 h
    go_enter Try.func61, Try.ntmps61
    go_wp2
    go_ret2
    exact ⟨rfl, rfl⟩
  all_goals
    go_enter Try.func61, Try.ntmps61
    go_wp2_with (go_at_call 57; refine (truth_any _ _).mono ?_; rintro e x1 ⟨rfl, rfl⟩)
    go_ret2
    exact ⟨rfl, rfl⟩

end Go.Proofs.Ytejkblbhnbbjaaa.Nu
