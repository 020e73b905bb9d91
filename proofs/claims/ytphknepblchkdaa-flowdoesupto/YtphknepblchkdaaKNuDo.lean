/-
 What the document's answer for a product and for operations on bits returns: contracts over the program; the conditions: the two numbers are numbers of the type.
 What the document's answer for an operation of two numbers returns: a contract over the program, for every operation's and type's number and every two values of 64 bits.
-/
import Derived.Test.YtphknepblchkdaaKNuBaseE
import Derived.Test.YtphknepblchkdaaKNuPlainE
namespace Go.Proofs.Ytphknepblchkdaa.Nu
open Go.RowKit
open Burin
set_option linter.unusedVariables false

theorem times_end (t a : Int) (b k : Nat) (h1 : k ≤ 32) (h2 : ¬ k < 32) (hb : b < 4294967296) : tR t a b k = Burin.wr t (a * b) := by
 have e : k = 32 := by omega
 subst e
 exact tR_all t a b hb
theorem bit_nat (b k : Nat) : bits .and .i64 ((b : Int) / 2 ^ k) 1 = ((b / 2 ^ k % 2 : Nat) : Int) := by
 rw [and1]
 simp

set_option maxHeartbeats 400000 in
theorem rtimes_any (t a : Int) (b : Nat) (w : World) (ht : t = 1 ∨ t = 3 ∨ t = 5) (ha : wr t a = a) (hb : b < 4294967296) :
  Calls Try.prog 85 #[.int .i64 t, .int .i64 a, .int .i64 b] w fun e w' => e = .returned (.int .i64 (wr t (a * b))) ∧ Q w w' := by
 have HA : Hid (Burin.wr t a = a) := ha
 have HT : Hid (t = 1 ∨ t = 3 ∨ t = 5) := ht
 have h0 : 0 ≤ t := by omega
 clear ha ht
 go_enter Try.func85, Try.ntmps85
 go_wp2
 go_loopw [1, 7, 8] (fun x r i w' => ∃ k : Nat, k ≤ 32 ∧ i = .int .i64 k ∧ x = .int .i64 (tA t a k) ∧ r = .int .i64 (tR t a b k) ∧ Q w w') (fun _ _ i _ => 32 - (intOf i).toNat)
 case atStart => exact ⟨0, by omega, rfl, by rw [tA_zero t a HA.out], by rw [tR_zero], Q.refl _⟩
 case round =>
  obtain ⟨k, hk, rfl, rfl, rfl, hq⟩ := hrel
  by_cases hlt : k < 32
  ·obtain ⟨u1, u2⟩ := wr_u_bd t (a * 2 ^ k) HT.out
   obtain ⟨v1, v2⟩ := wr_u_bd t (a * ((b % 2 ^ k : Nat) : Int)) HT.out
   have hu1 : 0 ≤ tA t a k := u1
   have hu2 : tA t a k ≤ 4294967295 := u2
   have hv1 : 0 ≤ tR t a b k := v1
   have hv2 : tR t a b k ≤ 4294967295 := v2
   have SA : Hid (Burin.wr t (tA t a k + tA t a k) = tA t a (k + 1)) := tA_succ t a k HT.out
   clear u1 u2 v1 v2
   have h2 : b / 2 ^ k % 2 = 0 ∨ b / 2 ^ k % 2 = 1 := by omega
   rcases h2 with h2 | h2
   ·have hbit : bits .and .i64 ((b : Int) / 2 ^ k) 1 = 0 := by rw [bit_nat, h2]; rfl
    have SR : Hid (tR t a b (k + 1) = tR t a b k) := tR_no t a b k h2
    clear h2
    go_wp2_with (go_at_call 73; refine (rwrap_any _ _ _ (by omega)).mono ?_; rw [SA.out]; rintro e y1 ⟨rfl, q1⟩)
    go_roundw
    case rel => exact ⟨k + 1, by omega, by go_num, rfl, by rw [SR.out], hq.trans q1⟩
    case measure => simp [intOf]; omega
   ·have hbit : bits .and .i64 ((b : Int) / 2 ^ k) 1 = 1 := by rw [bit_nat, h2]; rfl
    have SR : Hid (Burin.wr t (tR t a b k + tA t a k) = tR t a b (k + 1)) := tR_yes t a b k HT.out h2
    clear h2
    go_wp2_with (go_at_call 73; refine (rwrap_any _ _ _ (by omega)).mono ?_; (first | rw [SA.out] | rw [SR.out]); rintro e y1 ⟨rfl, q1⟩)
    go_roundw
    case rel => exact ⟨k + 1, by omega, by go_num, rfl, rfl, Q.trans hq (Q.trans (by assumption) (by assumption))⟩
    case measure => simp [intOf]; omega
  ·have E : Hid (tR t a b k = Burin.wr t (a * b)) := times_end t a b k hk hlt hb
   go_wp2
   go_ret
   exact ⟨ret_int E.out, hq⟩

theorem two_bits (z : Int) (k : Nat) : z / 2 ^ k % 2 = 0 ∨ z / 2 ^ k % 2 = 1 := by omega
theorem bits_end (t op a b : Int) (k : Nat) (h1 : (k : Int) ≤ wid t) (h2 : ¬ (k : Int) < wid t) : zR t op a b k = (zN t op a b : Int) := by
 have e : k = widN t := by unfold widN; omega
 subst e
 exact zR_all t op a b

theorem pow_nat_bd (k : Nat) (h : k < 32) : 1 ≤ (2 : Int) ^ k ∧ (2 : Int) ^ k ≤ 2147483648 := by
 have := pow_bd (k : Int) (by omega) (by omega)
 rwa [Int.toNat_natCast] at this

set_option maxHeartbeats 1000000 in
theorem rbits_any (t op a b : Int) (w : World) (h0 : 0 ≤ t) (h5 : t ≤ 5) (ho : op = 6 ∨ op = 7 ∨ op = 8) (a1 : low t ≤ a) (a2 : a ≤ high t) (b1 : low t ≤ b) (b2 : b ≤ high t) :
  Calls Try.prog 87 #[.int .i64 op, .int .i64 t, .int .i64 a, .int .i64 b] w fun e w' => e = .returned (.int .i64 (bits (bop op) .i64 a b)) ∧ Q w w' := by
 have EN : Hid (bits (bop op) .i64 a b = Burin.wr t (zN t op a b : Int)) := bits_wr t op a b h0 h5 a1 a2 b1 b2
 obtain ⟨n1, n2⟩ := wid_bd t
 clear a1 a2 b1 b2
 rw [EN.out]
 generalize hn : wid t = n at *
 have HN : Hid (wid t = n) := hn
 clear hn
 go_enter Try.func87, Try.ntmps87
 go_wp2
 go_loopw [9, 10] (fun r i w' => ∃ k : Nat, (k : Int) ≤ n ∧ i = .int .i64 k ∧ r = .int .i64 (zR t op a b k) ∧ Q w w') (fun _ i _ => 32 - (intOf i).toNat)
 case atStart => exact ⟨0, by omega, rfl, by rw [zR_zero], Q.refl _⟩
 case round =>
  obtain ⟨k, hk, rfl, rfl, hq⟩ := hrel
  by_cases hlt : (k : Int) < n
  ·obtain ⟨v1, v2⟩ := zR_bd t op a b k (by omega)
   obtain ⟨p1, p2⟩ := pow_nat_bd k (by omega)
   have hkw : k < widN t := by unfold widN; have := HN.out; omega
   have S : Hid (zR t op a b (k + 1) = zR t op a b k + bit1 op (a / 2 ^ k % 2) (b / 2 ^ k % 2) * 2 ^ k) := zR_succ t op a b k hkw
   have xa := and1 (a / 2 ^ k)
   have xb := and1 (b / 2 ^ k)
   clear hkw
   rcases ho with rfl | rfl | rfl <;> rcases two_bits a k with ea | ea <;> rcases two_bits b k with eb | eb
   all_goals
    rw [ea, eb] at S
    rw [ea] at xa
    rw [eb] at xb
    clear ea eb
    go_wp2_with (go_at_call 69; refine (rwidth_any _ _ (by omega)).mono ?_; rw [HN.out]; rintro e y1 ⟨rfl, q1⟩)
    go_roundw
    case rel => exact ⟨k + 1, by omega, by go_num, by rw [S.out]; simp [bit1], hq.trans q1⟩
    case measure => simp [intOf]; omega
  ·have E : Hid (zR t op a b k = (zN t op a b : Int)) := bits_end t op a b k (by have := HN.out; omega) (by have := HN.out; omega)
   go_wp2_with (first | (go_at_call 69; refine (rwidth_any _ _ (by omega)).mono ?_; rw [HN.out]; rintro e y1 ⟨rfl, q1⟩) | (go_at_call 73; refine (rwrap_any _ _ _ (by omega)).mono ?_; rw [E.out]; rintro e y2 ⟨rfl, q2⟩))
   go_ret
   exact ⟨rfl, (hq.trans q1).trans q2⟩

end Go.Proofs.Ytphknepblchkdaa.Nu

namespace Burin
open Go
theorem wid_pos (t : Int) (h0 : 0 ≤ t) (h5 : t ≤ 5) : 1 ≤ wid t := by
 unfold wid
 (repeat' split) <;> omega
theorem keep_u (t v : Int) (h : sgn t = false) : keep1 t v = wr t v ∧ keep2 t v = 0 := by
 simp [keep1, keep2, h]
theorem sgn_u (t : Int) (h0 : 0 ≤ t) (h5 : t ≤ 5) (h : sgn t = false) : t = 1 ∨ t = 3 ∨ t = 5 := by
 rcases cases7 h0 with rfl | rfl | rfl | rfl | rfl | rfl | h
 case inr.inr.inr.inr.inr.inr => omega
 all_goals first | omega | (simp [sgn] at h)
theorem floor_yes (a d : Int) (h : a < 0) (h' : a.tmod d ≠ 0) (hd : 1 ≤ d) : a.tdiv d - 1 = a / d := by
 have h1 := Int.tmod_def a d
 have h2 : -d < a.tmod d := by
  have := Int.tmod_lt_of_pos (-a) (show 0 < d by omega)
  rw [Int.neg_tmod] at this
  omega
 have h3 : a.tmod d ≤ 0 := by
  have := Int.tmod_nonneg d (show 0 ≤ -a by omega)
  rw [Int.neg_tmod] at this
  omega
 have e : a = (a.tmod d + d) + d * (a.tdiv d - 1) := by
  rw [Int.mul_sub, Int.mul_one]
  omega
 have e2 : a / d = (a.tmod d + d) / d + (a.tdiv d - 1) := by
  have := Int.add_mul_ediv_left (a.tmod d + d) (a.tdiv d - 1) (show d ≠ 0 by omega)
  rw [← e] at this
  exact this
 rw [e2, Int.ediv_eq_zero_of_lt (by omega) (by omega)]
 omega
theorem floor_no (a d : Int) (h' : a.tmod d = 0) (hd : 1 ≤ d) : a.tdiv d = a / d := by
 have h1 := Int.tmod_def a d
 have e : a = d * a.tdiv d := by omega
 have e2 : a / d = a.tdiv d := by
  have := Int.mul_ediv_cancel_left (a.tdiv d) (show d ≠ 0 by omega)
  rw [← e] at this
  exact this
 exact e2.symm
end Burin
namespace Go.Proofs.Ytphknepblchkdaa.Nu
open Go.RowKit
open Burin
set_option linter.unusedVariables false

set_option maxRecDepth 100000 in
set_option maxHeartbeats 1000000 in
theorem rdo_none (op t a b : Int) (w : World) (h6 : 6 ≤ t) :
  Calls Try.prog 75 #[.int .i64 op, .int .i64 t, .int .i64 a, .int .i64 b] w fun e w' => e = .returned (.tuple #[.int .i64 (do1 op t a b), .int .i64 (do2 op t a b)]) ∧ Q w w' := by
 have e1 : do1 op t a b = 0 := by simp [do1, h6]
 have e2 : do2 op t a b = 5 := by simp [do2, h6]
 rw [e1, e2]
 clear e1 e2
 go_enter Try.func75, Try.ntmps75
 go_wp2_with (go_at_call 69; refine (rwidth_any _ _ (by omega)).mono ?_; rw [wid_none _ h6]; rintro e y0 ⟨rfl, q0⟩)
 go_ret2
 exact ⟨rfl, q0⟩

set_option maxRecDepth 100000 in
set_option maxHeartbeats 1000000 in
theorem rdo_low (op t a b : Int) (w : World) (h0 : 0 ≤ t) (h5 : t ≤ 5) (ho : op < 1) :
  Calls Try.prog 75 #[.int .i64 op, .int .i64 t, .int .i64 a, .int .i64 b] w fun e w' => e = .returned (.tuple #[.int .i64 (do1 op t a b), .int .i64 (do2 op t a b)]) ∧ Q w w' := by
 have e1 : do1 op t a b = 0 := by rw [do1_rest _ _ _ _ h5 (by omega)]; unfold cmp1; rw [if_pos (by omega)]
 have e2 : do2 op t a b = 5 := by rw [do2_rest _ _ _ _ h5 (by omega)]; unfold cmp2; rw [if_pos (by omega)]
 have hw := wid_pos t h0 h5
 rw [e1, e2]
 clear e1 e2
 generalize hn : wid t = n at *
 have HN : Hid (wid t = n) := hn
 have k0 : (n == 0) = false := by simp; omega
 have d1 : decide (op < 1) = true := by simpa using ho
 clear hn
 go_enter Try.func75, Try.ntmps75
 go_wp2_with (go_at_call 69; refine (rwidth_any _ _ (by omega)).mono ?_; rw [HN.out]; rintro e y0 ⟨rfl, q0⟩)
 go_ret2
 exact ⟨rfl, q0⟩

set_option maxRecDepth 100000 in
set_option maxHeartbeats 1000000 in
theorem rdo_high (op t a b : Int) (w : World) (h0 : 0 ≤ t) (h5 : t ≤ 5) (ho : 16 < op) :
  Calls Try.prog 75 #[.int .i64 op, .int .i64 t, .int .i64 a, .int .i64 b] w fun e w' => e = .returned (.tuple #[.int .i64 (do1 op t a b), .int .i64 (do2 op t a b)]) ∧ Q w w' := by
 have e1 : do1 op t a b = 0 := by rw [do1_rest _ _ _ _ h5 (by omega)]; unfold cmp1; rw [if_pos (by omega)]
 have e2 : do2 op t a b = 5 := by rw [do2_rest _ _ _ _ h5 (by omega)]; unfold cmp2; rw [if_pos (by omega)]
 have hw := wid_pos t h0 h5
 rw [e1, e2]
 clear e1 e2
 generalize hn : wid t = n at *
 have HN : Hid (wid t = n) := hn
 have k0 : (n == 0) = false := by simp; omega
 have d1 : decide (op < 1) = false := by simp; omega
 have d2 : decide (16 < op) = true := by simpa using ho
 clear hn
 go_enter Try.func75, Try.ntmps75
 go_wp2_with (go_at_call 69; refine (rwidth_any _ _ (by omega)).mono ?_; rw [HN.out]; rintro e y0 ⟨rfl, q0⟩)
 go_ret2
 exact ⟨rfl, q0⟩

set_option maxRecDepth 100000 in
set_option maxHeartbeats 1000000 in
theorem rdo_1 (t a b : Int) (w : World) (h0 : 0 ≤ t) (h5 : t ≤ 5) :
  Calls Try.prog 75 #[.int .i64 1, .int .i64 t, .int .i64 a, .int .i64 b] w fun e w' => e = .returned (.tuple #[.int .i64 (do1 1 t a b), .int .i64 (do2 1 t a b)]) ∧ Q w w' := by
 have n6 : ¬ 6 ≤ t := by omega
 have e1 : do1 1 t a b = keep1 t (wr t a + wr t b) := by simp [do1, n6]
 have e2 : do2 1 t a b = keep2 t (wr t a + wr t b) := by simp [do2, n6]
 have hw := wid_pos t h0 h5
 have hw2 := wid_le t
 obtain ⟨x1, x2⟩ := wr_bd t a
 obtain ⟨z1, z2⟩ := wr_bd t b
 rw [e1, e2]
 clear e1 e2 n6
 generalize hn : wid t = n at *
 generalize hx : wr t a = x at *
 generalize hy : wr t b = y at *
 have HN : Hid (wid t = n) := hn
 have HX : Hid (wr t a = x) := hx
 have HY : Hid (wr t b = y) := hy
 have k0 : (n == 0) = false := by simp; omega
 clear hn hx hy
 go_enter Try.func75, Try.ntmps75
 go_wp2_with (first | (go_at_call 69; refine (rwidth_any _ _ (by omega)).mono ?_; rw [HN.out]; rintro e y0 ⟨rfl, q0⟩) | (go_at_call_of 73 (Value.int IntKind.i64 a); refine (rwrap_any _ _ _ (by omega)).mono ?_; rw [HX.out]; rintro e y1 ⟨rfl, q1⟩) | (go_at_call_of 73 (Value.int IntKind.i64 b); refine (rwrap_any _ _ _ (by omega)).mono ?_; rw [HY.out]; rintro e y2 ⟨rfl, q2⟩) | (go_at_call 81; refine (rkeep_any _ _ _ (by omega)).mono ?_; rintro e y3 ⟨rfl, q3⟩))
 go_ret2
 exact ⟨rfl, ((q0.trans q1).trans q2).trans q3⟩

set_option maxRecDepth 100000 in
set_option maxHeartbeats 1000000 in
theorem rdo_2 (t a b : Int) (w : World) (h0 : 0 ≤ t) (h5 : t ≤ 5) :
  Calls Try.prog 75 #[.int .i64 2, .int .i64 t, .int .i64 a, .int .i64 b] w fun e w' => e = .returned (.tuple #[.int .i64 (do1 2 t a b), .int .i64 (do2 2 t a b)]) ∧ Q w w' := by
 have n6 : ¬ 6 ≤ t := by omega
 have e1 : do1 2 t a b = keep1 t (wr t a - wr t b) := by simp [do1, n6]
 have e2 : do2 2 t a b = keep2 t (wr t a - wr t b) := by simp [do2, n6]
 have hw := wid_pos t h0 h5
 have hw2 := wid_le t
 obtain ⟨x1, x2⟩ := wr_bd t a
 obtain ⟨z1, z2⟩ := wr_bd t b
 rw [e1, e2]
 clear e1 e2 n6
 generalize hn : wid t = n at *
 generalize hx : wr t a = x at *
 generalize hy : wr t b = y at *
 have HN : Hid (wid t = n) := hn
 have HX : Hid (wr t a = x) := hx
 have HY : Hid (wr t b = y) := hy
 have k0 : (n == 0) = false := by simp; omega
 clear hn hx hy
 go_enter Try.func75, Try.ntmps75
 go_wp2_with (first | (go_at_call 69; refine (rwidth_any _ _ (by omega)).mono ?_; rw [HN.out]; rintro e y0 ⟨rfl, q0⟩) | (go_at_call_of 73 (Value.int IntKind.i64 a); refine (rwrap_any _ _ _ (by omega)).mono ?_; rw [HX.out]; rintro e y1 ⟨rfl, q1⟩) | (go_at_call_of 73 (Value.int IntKind.i64 b); refine (rwrap_any _ _ _ (by omega)).mono ?_; rw [HY.out]; rintro e y2 ⟨rfl, q2⟩) | (go_at_call 81; refine (rkeep_any _ _ _ (by omega)).mono ?_; rintro e y3 ⟨rfl, q3⟩))
 go_ret2
 exact ⟨rfl, ((q0.trans q1).trans q2).trans q3⟩

set_option maxRecDepth 100000 in
set_option maxHeartbeats 1000000 in
theorem rdo_3s (t a b : Int) (w : World) (h0 : 0 ≤ t) (h5 : t ≤ 5) (hs : sgn t = true) :
  Calls Try.prog 75 #[.int .i64 3, .int .i64 t, .int .i64 a, .int .i64 b] w fun e w' => e = .returned (.tuple #[.int .i64 (do1 3 t a b), .int .i64 (do2 3 t a b)]) ∧ Q w w' := by
 have n6 : ¬ 6 ≤ t := by omega
 have e1 : do1 3 t a b = keep1 t (wr t a * wr t b) := by simp [do1, n6]
 have e2 : do2 3 t a b = keep2 t (wr t a * wr t b) := by simp [do2, n6]
 have hw := wid_pos t h0 h5
 have hw2 := wid_le t
 obtain ⟨x1, x2⟩ := wr_bd t a
 obtain ⟨z1, z2⟩ := wr_bd t b
 rw [e1, e2]
 clear e1 e2 n6
 have pa := wr_sgn t a h0 hs
 have pb := wr_sgn t b h0 hs
 have mb := mul_bd _ _ pa.1 pa.2 pb.1 pb.2
 have HS : Hid (sgn t = true) := hs
 clear pa pb hs
 generalize hn : wid t = n at *
 generalize hx : wr t a = x at *
 generalize hy : wr t b = y at *
 have HN : Hid (wid t = n) := hn
 have HX : Hid (wr t a = x) := hx
 have HY : Hid (wr t b = y) := hy
 have k0 : (n == 0) = false := by simp; omega
 clear hn hx hy
 go_enter Try.func75, Try.ntmps75
 go_wp2_with (first | (go_at_call 69; refine (rwidth_any _ _ (by omega)).mono ?_; rw [HN.out]; rintro e y0 ⟨rfl, q0⟩) | (go_at_call_of 73 (Value.int IntKind.i64 a); refine (rwrap_any _ _ _ (by omega)).mono ?_; rw [HX.out]; rintro e y1 ⟨rfl, q1⟩) | (go_at_call_of 73 (Value.int IntKind.i64 b); refine (rwrap_any _ _ _ (by omega)).mono ?_; rw [HY.out]; rintro e y2 ⟨rfl, q2⟩) | (go_at_call 84; refine (rsigned_any _ _ (by omega)).mono ?_; rw [HS.out]; rintro e y5 ⟨rfl, rfl⟩) | (go_at_call 81; refine (rkeep_any _ _ _ (by omega)).mono ?_; rintro e y3 ⟨rfl, q3⟩))
 go_ret2
 exact ⟨rfl, ((q0.trans q1).trans q2).trans q3⟩

set_option maxRecDepth 100000 in
set_option maxHeartbeats 1000000 in
theorem rdo_3u (t a b : Int) (w : World) (h0 : 0 ≤ t) (h5 : t ≤ 5) (hs : sgn t = false) :
  Calls Try.prog 75 #[.int .i64 3, .int .i64 t, .int .i64 a, .int .i64 b] w fun e w' => e = .returned (.tuple #[.int .i64 (do1 3 t a b), .int .i64 (do2 3 t a b)]) ∧ Q w w' := by
 have n6 : ¬ 6 ≤ t := by omega
 have e1 : do1 3 t a b = wr t (wr t a * wr t b) := by simp [do1, n6, (keep_u t _ hs).1]
 have e2 : do2 3 t a b = 0 := by simp [do2, n6, (keep_u t _ hs).2]
 have hw := wid_pos t h0 h5
 have hw2 := wid_le t
 obtain ⟨x1, x2⟩ := wr_bd t a
 obtain ⟨z1, z2⟩ := wr_bd t b
 rw [e1, e2]
 clear e1 e2 n6
 have hu := sgn_u t h0 h5 hs
 have ub := wr_u_bd t b hu
 have HU : Hid (t = 1 ∨ t = 3 ∨ t = 5) := hu
 have HS : Hid (sgn t = false) := hs
 have ww := wr_wr t a
 clear hu hs
 generalize hn : wid t = n at *
 generalize hx : wr t a = x at *
 generalize hy : wr t b = y at *
 have HN : Hid (wid t = n) := hn
 have HX : Hid (wr t a = x) := hx
 have HY : Hid (wr t b = y) := hy
 have k0 : (n == 0) = false := by simp; omega
 clear hn hx hy
 have HW : Hid (wr t x = x) := ww
 obtain ⟨m, hm⟩ := Int.eq_ofNat_of_zero_le ub.1
 subst hm
 have hm' : m < 4294967296 := by omega
 clear ww ub
 go_enter Try.func75, Try.ntmps75
 go_wp2_with (first | (go_at_call 69; refine (rwidth_any _ _ (by omega)).mono ?_; rw [HN.out]; rintro e y0 ⟨rfl, q0⟩) | (go_at_call_of 73 (Value.int IntKind.i64 a); refine (rwrap_any _ _ _ (by omega)).mono ?_; rw [HX.out]; rintro e y1 ⟨rfl, q1⟩) | (go_at_call_of 73 (Value.int IntKind.i64 b); refine (rwrap_any _ _ _ (by omega)).mono ?_; rw [HY.out]; rintro e y2 ⟨rfl, q2⟩) | (go_at_call 84; refine (rsigned_any _ _ (by omega)).mono ?_; rw [HS.out]; rintro e y5 ⟨rfl, rfl⟩) | (go_at_call 85; refine (rtimes_any _ _ _ _ HU.out HW.out hm').mono ?_; rintro e y3 ⟨rfl, q3⟩))
 go_ret2
 exact ⟨rfl, ((q0.trans q1).trans q2).trans q3⟩

set_option maxRecDepth 100000 in
set_option maxHeartbeats 1000000 in
theorem rdo_4z (t a b : Int) (w : World) (h0 : 0 ≤ t) (h5 : t ≤ 5) (hz : wr t b = 0) :
  Calls Try.prog 75 #[.int .i64 4, .int .i64 t, .int .i64 a, .int .i64 b] w fun e w' => e = .returned (.tuple #[.int .i64 (do1 4 t a b), .int .i64 (do2 4 t a b)]) ∧ Q w w' := by
 have n6 : ¬ 6 ≤ t := by omega
 have e1 : do1 4 t a b = 0 := by simp [do1, n6, div1, hz]
 have e2 : do2 4 t a b = 2 := by simp [do2, n6, div2, hz]
 have hw := wid_pos t h0 h5
 have hw2 := wid_le t
 obtain ⟨x1, x2⟩ := wr_bd t a
 obtain ⟨z1, z2⟩ := wr_bd t b
 rw [e1, e2]
 clear e1 e2 n6
 generalize hn : wid t = n at *
 generalize hx : wr t a = x at *
 generalize hy : wr t b = y at *
 have HN : Hid (wid t = n) := hn
 have HX : Hid (wr t a = x) := hx
 have HY : Hid (wr t b = y) := hy
 have k0 : (n == 0) = false := by simp; omega
 clear hn hx hy
 have kz : (y == 0) = true := by simpa using hz
 clear hz
 go_enter Try.func75, Try.ntmps75
 go_wp2_with (first | (go_at_call 69; refine (rwidth_any _ _ (by omega)).mono ?_; rw [HN.out]; rintro e y0 ⟨rfl, q0⟩) | (go_at_call_of 73 (Value.int IntKind.i64 a); refine (rwrap_any _ _ _ (by omega)).mono ?_; rw [HX.out]; rintro e y1 ⟨rfl, q1⟩) | (go_at_call_of 73 (Value.int IntKind.i64 b); refine (rwrap_any _ _ _ (by omega)).mono ?_; rw [HY.out]; rintro e y2 ⟨rfl, q2⟩))
 go_ret2
 exact ⟨rfl, (q0.trans q1).trans q2⟩

set_option maxRecDepth 100000 in
set_option maxHeartbeats 1000000 in
theorem rdo_4o (t a b : Int) (w : World) (h0 : 0 ≤ t) (h5 : t ≤ 5) (hz : wr t b ≠ 0) (hf : fit t ((wr t a).tdiv (wr t b)) = false) :
  Calls Try.prog 75 #[.int .i64 4, .int .i64 t, .int .i64 a, .int .i64 b] w fun e w' => e = .returned (.tuple #[.int .i64 (do1 4 t a b), .int .i64 (do2 4 t a b)]) ∧ Q w w' := by
 have n6 : ¬ 6 ≤ t := by omega
 have e1 : do1 4 t a b = 0 := by simp [do1, n6, div1, hz, hf]
 have e2 : do2 4 t a b = 1 := by simp [do2, n6, div2, hz, hf]
 have hw := wid_pos t h0 h5
 have hw2 := wid_le t
 obtain ⟨x1, x2⟩ := wr_bd t a
 obtain ⟨z1, z2⟩ := wr_bd t b
 rw [e1, e2]
 clear e1 e2 n6
 obtain ⟨p1, p2⟩ := tdiv_bd (wr t a) (wr t b) (by omega) (by omega)
 generalize hn : wid t = n at *
 generalize hx : wr t a = x at *
 generalize hy : wr t b = y at *
 have HN : Hid (wid t = n) := hn
 have HX : Hid (wr t a = x) := hx
 have HY : Hid (wr t b = y) := hy
 have k0 : (n == 0) = false := by simp; omega
 clear hn hx hy
 have kz : (y == 0) = false := by simpa using hz
 have HF : Hid (fit t (x.tdiv y) = false) := hf
 clear hf
 go_enter Try.func75, Try.ntmps75
 go_wp2_with (first | (go_at_call 69; refine (rwidth_any _ _ (by omega)).mono ?_; rw [HN.out]; rintro e y0 ⟨rfl, q0⟩) | (go_at_call_of 73 (Value.int IntKind.i64 a); refine (rwrap_any _ _ _ (by omega)).mono ?_; rw [HX.out]; rintro e y1 ⟨rfl, q1⟩) | (go_at_call_of 73 (Value.int IntKind.i64 b); refine (rwrap_any _ _ _ (by omega)).mono ?_; rw [HY.out]; rintro e y2 ⟨rfl, q2⟩) | (go_at_call 86; refine (rfits_any _ _ _ (by omega)).mono ?_; rw [HF.out]; rintro e y3 ⟨rfl, q3⟩))
 go_ret2
 exact ⟨rfl, ((q0.trans q1).trans q2).trans q3⟩

set_option maxRecDepth 100000 in
set_option maxHeartbeats 1000000 in
theorem rdo_4f (t a b : Int) (w : World) (h0 : 0 ≤ t) (h5 : t ≤ 5) (hz : wr t b ≠ 0) (hf : fit t ((wr t a).tdiv (wr t b)) = true) :
  Calls Try.prog 75 #[.int .i64 4, .int .i64 t, .int .i64 a, .int .i64 b] w fun e w' => e = .returned (.tuple #[.int .i64 (do1 4 t a b), .int .i64 (do2 4 t a b)]) ∧ Q w w' := by
 have n6 : ¬ 6 ≤ t := by omega
 have e1 : do1 4 t a b = (wr t a).tdiv (wr t b) := by simp [do1, n6, div1, hz, hf]
 have e2 : do2 4 t a b = 0 := by simp [do2, n6, div2, hz, hf]
 have hw := wid_pos t h0 h5
 have hw2 := wid_le t
 obtain ⟨x1, x2⟩ := wr_bd t a
 obtain ⟨z1, z2⟩ := wr_bd t b
 rw [e1, e2]
 clear e1 e2 n6
 obtain ⟨p1, p2⟩ := tdiv_bd (wr t a) (wr t b) (by omega) (by omega)
 obtain ⟨r1, r2⟩ := mtdiv_bd (wr t a) (wr t b) (by omega) (by omega)
 generalize hn : wid t = n at *
 generalize hx : wr t a = x at *
 generalize hy : wr t b = y at *
 have HN : Hid (wid t = n) := hn
 have HX : Hid (wr t a = x) := hx
 have HY : Hid (wr t b = y) := hy
 have k0 : (n == 0) = false := by simp; omega
 clear hn hx hy
 have kz : (y == 0) = false := by simpa using hz
 have HF : Hid (fit t (x.tdiv y) = true) := hf
 clear hf
 go_enter Try.func75, Try.ntmps75
 go_wp2_with (first | (go_at_call 69; refine (rwidth_any _ _ (by omega)).mono ?_; rw [HN.out]; rintro e y0 ⟨rfl, q0⟩) | (go_at_call_of 73 (Value.int IntKind.i64 a); refine (rwrap_any _ _ _ (by omega)).mono ?_; rw [HX.out]; rintro e y1 ⟨rfl, q1⟩) | (go_at_call_of 73 (Value.int IntKind.i64 b); refine (rwrap_any _ _ _ (by omega)).mono ?_; rw [HY.out]; rintro e y2 ⟨rfl, q2⟩) | (go_at_call 86; refine (rfits_any _ _ _ (by omega)).mono ?_; rw [HF.out]; rintro e y3 ⟨rfl, q3⟩))
 go_ret2
 exact ⟨rfl, ((q0.trans q1).trans q2).trans q3⟩

set_option maxRecDepth 100000 in
set_option maxHeartbeats 1000000 in
theorem rdo_5z (t a b : Int) (w : World) (h0 : 0 ≤ t) (h5 : t ≤ 5) (hz : wr t b = 0) :
  Calls Try.prog 75 #[.int .i64 5, .int .i64 t, .int .i64 a, .int .i64 b] w fun e w' => e = .returned (.tuple #[.int .i64 (do1 5 t a b), .int .i64 (do2 5 t a b)]) ∧ Q w w' := by
 have n6 : ¬ 6 ≤ t := by omega
 have e1 : do1 5 t a b = 0 := by simp [do1, n6, div1, hz]
 have e2 : do2 5 t a b = 2 := by simp [do2, n6, div2, hz]
 have hw := wid_pos t h0 h5
 have hw2 := wid_le t
 obtain ⟨x1, x2⟩ := wr_bd t a
 obtain ⟨z1, z2⟩ := wr_bd t b
 rw [e1, e2]
 clear e1 e2 n6
 generalize hn : wid t = n at *
 generalize hx : wr t a = x at *
 generalize hy : wr t b = y at *
 have HN : Hid (wid t = n) := hn
 have HX : Hid (wr t a = x) := hx
 have HY : Hid (wr t b = y) := hy
 have k0 : (n == 0) = false := by simp; omega
 clear hn hx hy
 have kz : (y == 0) = true := by simpa using hz
 clear hz
 go_enter Try.func75, Try.ntmps75
 go_wp2_with (first | (go_at_call 69; refine (rwidth_any _ _ (by omega)).mono ?_; rw [HN.out]; rintro e y0 ⟨rfl, q0⟩) | (go_at_call_of 73 (Value.int IntKind.i64 a); refine (rwrap_any _ _ _ (by omega)).mono ?_; rw [HX.out]; rintro e y1 ⟨rfl, q1⟩) | (go_at_call_of 73 (Value.int IntKind.i64 b); refine (rwrap_any _ _ _ (by omega)).mono ?_; rw [HY.out]; rintro e y2 ⟨rfl, q2⟩))
 go_ret2
 exact ⟨rfl, (q0.trans q1).trans q2⟩

set_option maxRecDepth 100000 in
set_option maxHeartbeats 1000000 in
theorem rdo_5o (t a b : Int) (w : World) (h0 : 0 ≤ t) (h5 : t ≤ 5) (hz : wr t b ≠ 0) (hf : fit t ((wr t a).tdiv (wr t b)) = false) :
  Calls Try.prog 75 #[.int .i64 5, .int .i64 t, .int .i64 a, .int .i64 b] w fun e w' => e = .returned (.tuple #[.int .i64 (do1 5 t a b), .int .i64 (do2 5 t a b)]) ∧ Q w w' := by
 have n6 : ¬ 6 ≤ t := by omega
 have e1 : do1 5 t a b = 0 := by simp [do1, n6, div1, hz, hf]
 have e2 : do2 5 t a b = 1 := by simp [do2, n6, div2, hz, hf]
 have hw := wid_pos t h0 h5
 have hw2 := wid_le t
 obtain ⟨x1, x2⟩ := wr_bd t a
 obtain ⟨z1, z2⟩ := wr_bd t b
 rw [e1, e2]
 clear e1 e2 n6
 obtain ⟨p1, p2⟩ := tdiv_bd (wr t a) (wr t b) (by omega) (by omega)
 generalize hn : wid t = n at *
 generalize hx : wr t a = x at *
 generalize hy : wr t b = y at *
 have HN : Hid (wid t = n) := hn
 have HX : Hid (wr t a = x) := hx
 have HY : Hid (wr t b = y) := hy
 have k0 : (n == 0) = false := by simp; omega
 clear hn hx hy
 have kz : (y == 0) = false := by simpa using hz
 have HF : Hid (fit t (x.tdiv y) = false) := hf
 clear hf
 go_enter Try.func75, Try.ntmps75
 go_wp2_with (first | (go_at_call 69; refine (rwidth_any _ _ (by omega)).mono ?_; rw [HN.out]; rintro e y0 ⟨rfl, q0⟩) | (go_at_call_of 73 (Value.int IntKind.i64 a); refine (rwrap_any _ _ _ (by omega)).mono ?_; rw [HX.out]; rintro e y1 ⟨rfl, q1⟩) | (go_at_call_of 73 (Value.int IntKind.i64 b); refine (rwrap_any _ _ _ (by omega)).mono ?_; rw [HY.out]; rintro e y2 ⟨rfl, q2⟩) | (go_at_call 86; refine (rfits_any _ _ _ (by omega)).mono ?_; rw [HF.out]; rintro e y3 ⟨rfl, q3⟩))
 go_ret2
 exact ⟨rfl, ((q0.trans q1).trans q2).trans q3⟩

set_option maxRecDepth 100000 in
set_option maxHeartbeats 1000000 in
theorem rdo_5f (t a b : Int) (w : World) (h0 : 0 ≤ t) (h5 : t ≤ 5) (hz : wr t b ≠ 0) (hf : fit t ((wr t a).tdiv (wr t b)) = true) :
  Calls Try.prog 75 #[.int .i64 5, .int .i64 t, .int .i64 a, .int .i64 b] w fun e w' => e = .returned (.tuple #[.int .i64 (do1 5 t a b), .int .i64 (do2 5 t a b)]) ∧ Q w w' := by
 have n6 : ¬ 6 ≤ t := by omega
 have e1 : do1 5 t a b = wr t a - wr t b * (wr t a).tdiv (wr t b) := by simp [do1, n6, div1, hz, hf]
 have e2 : do2 5 t a b = 0 := by simp [do2, n6, div2, hz, hf]
 have hw := wid_pos t h0 h5
 have hw2 := wid_le t
 obtain ⟨x1, x2⟩ := wr_bd t a
 obtain ⟨z1, z2⟩ := wr_bd t b
 rw [e1, e2]
 clear e1 e2 n6
 obtain ⟨p1, p2⟩ := tdiv_bd (wr t a) (wr t b) (by omega) (by omega)
 obtain ⟨r1, r2⟩ := mtdiv_bd (wr t a) (wr t b) (by omega) (by omega)
 generalize hn : wid t = n at *
 generalize hx : wr t a = x at *
 generalize hy : wr t b = y at *
 have HN : Hid (wid t = n) := hn
 have HX : Hid (wr t a = x) := hx
 have HY : Hid (wr t b = y) := hy
 have k0 : (n == 0) = false := by simp; omega
 clear hn hx hy
 have kz : (y == 0) = false := by simpa using hz
 have HF : Hid (fit t (x.tdiv y) = true) := hf
 clear hf
 go_enter Try.func75, Try.ntmps75
 go_wp2_with (first | (go_at_call 69; refine (rwidth_any _ _ (by omega)).mono ?_; rw [HN.out]; rintro e y0 ⟨rfl, q0⟩) | (go_at_call_of 73 (Value.int IntKind.i64 a); refine (rwrap_any _ _ _ (by omega)).mono ?_; rw [HX.out]; rintro e y1 ⟨rfl, q1⟩) | (go_at_call_of 73 (Value.int IntKind.i64 b); refine (rwrap_any _ _ _ (by omega)).mono ?_; rw [HY.out]; rintro e y2 ⟨rfl, q2⟩) | (go_at_call 86; refine (rfits_any _ _ _ (by omega)).mono ?_; rw [HF.out]; rintro e y3 ⟨rfl, q3⟩))
 go_ret2
 exact ⟨rfl, ((q0.trans q1).trans q2).trans q3⟩

set_option maxRecDepth 100000 in
set_option maxHeartbeats 1000000 in
theorem rdo_6 (t a b : Int) (w : World) (h0 : 0 ≤ t) (h5 : t ≤ 5) :
  Calls Try.prog 75 #[.int .i64 6, .int .i64 t, .int .i64 a, .int .i64 b] w fun e w' => e = .returned (.tuple #[.int .i64 (do1 6 t a b), .int .i64 (do2 6 t a b)]) ∧ Q w w' := by
 have n6 : ¬ 6 ≤ t := by omega
 have e1 : do1 6 t a b = bits .and .i64 (wr t a) (wr t b) := by simp [do1, n6]
 have e2 : do2 6 t a b = 0 := by simp [do2, n6]
 have hw := wid_pos t h0 h5
 have hw2 := wid_le t
 obtain ⟨x1, x2⟩ := wr_bd t a
 obtain ⟨z1, z2⟩ := wr_bd t b
 rw [e1, e2]
 clear e1 e2 n6
 have fa := wr_fit t a h0 h5
 have fb := wr_fit t b h0 h5
 generalize hn : wid t = n at *
 generalize hx : wr t a = x at *
 generalize hy : wr t b = y at *
 have HN : Hid (wid t = n) := hn
 have HX : Hid (wr t a = x) := hx
 have HY : Hid (wr t b = y) := hy
 have k0 : (n == 0) = false := by simp; omega
 clear hn hx hy
 have F1 : Hid (low t ≤ x) := fa.1
 have F2 : Hid (x ≤ high t) := fa.2
 have F3 : Hid (low t ≤ y) := fb.1
 have F4 : Hid (y ≤ high t) := fb.2
 clear fa fb
 go_enter Try.func75, Try.ntmps75
 go_wp2_with (first | (go_at_call 69; refine (rwidth_any _ _ (by omega)).mono ?_; rw [HN.out]; rintro e y0 ⟨rfl, q0⟩) | (go_at_call_of 73 (Value.int IntKind.i64 a); refine (rwrap_any _ _ _ (by omega)).mono ?_; rw [HX.out]; rintro e y1 ⟨rfl, q1⟩) | (go_at_call_of 73 (Value.int IntKind.i64 b); refine (rwrap_any _ _ _ (by omega)).mono ?_; rw [HY.out]; rintro e y2 ⟨rfl, q2⟩) | (go_at_call 87; refine (rbits_any _ _ _ _ _ (by omega) (by omega) (by omega) F1.out F2.out F3.out F4.out).mono ?_; rintro e y3 ⟨rfl, q3⟩))
 go_ret2
 exact ⟨rfl, ((q0.trans q1).trans q2).trans q3⟩

set_option maxRecDepth 100000 in
set_option maxHeartbeats 1000000 in
theorem rdo_7 (t a b : Int) (w : World) (h0 : 0 ≤ t) (h5 : t ≤ 5) :
  Calls Try.prog 75 #[.int .i64 7, .int .i64 t, .int .i64 a, .int .i64 b] w fun e w' => e = .returned (.tuple #[.int .i64 (do1 7 t a b), .int .i64 (do2 7 t a b)]) ∧ Q w w' := by
 have n6 : ¬ 6 ≤ t := by omega
 have e1 : do1 7 t a b = bits .or .i64 (wr t a) (wr t b) := by simp [do1, n6]
 have e2 : do2 7 t a b = 0 := by simp [do2, n6]
 have hw := wid_pos t h0 h5
 have hw2 := wid_le t
 obtain ⟨x1, x2⟩ := wr_bd t a
 obtain ⟨z1, z2⟩ := wr_bd t b
 rw [e1, e2]
 clear e1 e2 n6
 have fa := wr_fit t a h0 h5
 have fb := wr_fit t b h0 h5
 generalize hn : wid t = n at *
 generalize hx : wr t a = x at *
 generalize hy : wr t b = y at *
 have HN : Hid (wid t = n) := hn
 have HX : Hid (wr t a = x) := hx
 have HY : Hid (wr t b = y) := hy
 have k0 : (n == 0) = false := by simp; omega
 clear hn hx hy
 have F1 : Hid (low t ≤ x) := fa.1
 have F2 : Hid (x ≤ high t) := fa.2
 have F3 : Hid (low t ≤ y) := fb.1
 have F4 : Hid (y ≤ high t) := fb.2
 clear fa fb
 go_enter Try.func75, Try.ntmps75
 go_wp2_with (first | (go_at_call 69; refine (rwidth_any _ _ (by omega)).mono ?_; rw [HN.out]; rintro e y0 ⟨rfl, q0⟩) | (go_at_call_of 73 (Value.int IntKind.i64 a); refine (rwrap_any _ _ _ (by omega)).mono ?_; rw [HX.out]; rintro e y1 ⟨rfl, q1⟩) | (go_at_call_of 73 (Value.int IntKind.i64 b); refine (rwrap_any _ _ _ (by omega)).mono ?_; rw [HY.out]; rintro e y2 ⟨rfl, q2⟩) | (go_at_call 87; refine (rbits_any _ _ _ _ _ (by omega) (by omega) (by omega) F1.out F2.out F3.out F4.out).mono ?_; rintro e y3 ⟨rfl, q3⟩))
 go_ret2
 exact ⟨rfl, ((q0.trans q1).trans q2).trans q3⟩

set_option maxRecDepth 100000 in
set_option maxHeartbeats 1000000 in
theorem rdo_8 (t a b : Int) (w : World) (h0 : 0 ≤ t) (h5 : t ≤ 5) :
  Calls Try.prog 75 #[.int .i64 8, .int .i64 t, .int .i64 a, .int .i64 b] w fun e w' => e = .returned (.tuple #[.int .i64 (do1 8 t a b), .int .i64 (do2 8 t a b)]) ∧ Q w w' := by
 have n6 : ¬ 6 ≤ t := by omega
 have e1 : do1 8 t a b = bits .xor .i64 (wr t a) (wr t b) := by simp [do1, n6]
 have e2 : do2 8 t a b = 0 := by simp [do2, n6]
 have hw := wid_pos t h0 h5
 have hw2 := wid_le t
 obtain ⟨x1, x2⟩ := wr_bd t a
 obtain ⟨z1, z2⟩ := wr_bd t b
 rw [e1, e2]
 clear e1 e2 n6
 have fa := wr_fit t a h0 h5
 have fb := wr_fit t b h0 h5
 generalize hn : wid t = n at *
 generalize hx : wr t a = x at *
 generalize hy : wr t b = y at *
 have HN : Hid (wid t = n) := hn
 have HX : Hid (wr t a = x) := hx
 have HY : Hid (wr t b = y) := hy
 have k0 : (n == 0) = false := by simp; omega
 clear hn hx hy
 have F1 : Hid (low t ≤ x) := fa.1
 have F2 : Hid (x ≤ high t) := fa.2
 have F3 : Hid (low t ≤ y) := fb.1
 have F4 : Hid (y ≤ high t) := fb.2
 clear fa fb
 go_enter Try.func75, Try.ntmps75
 go_wp2_with (first | (go_at_call 69; refine (rwidth_any _ _ (by omega)).mono ?_; rw [HN.out]; rintro e y0 ⟨rfl, q0⟩) | (go_at_call_of 73 (Value.int IntKind.i64 a); refine (rwrap_any _ _ _ (by omega)).mono ?_; rw [HX.out]; rintro e y1 ⟨rfl, q1⟩) | (go_at_call_of 73 (Value.int IntKind.i64 b); refine (rwrap_any _ _ _ (by omega)).mono ?_; rw [HY.out]; rintro e y2 ⟨rfl, q2⟩) | (go_at_call 87; refine (rbits_any _ _ _ _ _ (by omega) (by omega) (by omega) F1.out F2.out F3.out F4.out).mono ?_; rintro e y3 ⟨rfl, q3⟩))
 go_ret2
 exact ⟨rfl, ((q0.trans q1).trans q2).trans q3⟩

set_option maxRecDepth 100000 in
set_option maxHeartbeats 1000000 in
theorem rdo_9n (t a b : Int) (w : World) (h0 : 0 ≤ t) (h5 : t ≤ 5) (hc : b < 0) :
  Calls Try.prog 75 #[.int .i64 9, .int .i64 t, .int .i64 a, .int .i64 b] w fun e w' => e = .returned (.tuple #[.int .i64 (do1 9 t a b), .int .i64 (do2 9 t a b)]) ∧ Q w w' := by
 have n6 : ¬ 6 ≤ t := by omega
 have e1 : do1 9 t a b = 0 := by simp [do1, n6, shl1, hc]
 have e2 : do2 9 t a b = 3 := by simp [do2, n6, shl2, hc]
 have hw := wid_pos t h0 h5
 have hw2 := wid_le t
 obtain ⟨x1, x2⟩ := wr_bd t a
 obtain ⟨z1, z2⟩ := wr_bd t b
 rw [e1, e2]
 clear e1 e2 n6
 generalize hn : wid t = n at *
 generalize hx : wr t a = x at *
 generalize hy : wr t b = y at *
 have HN : Hid (wid t = n) := hn
 have HX : Hid (wr t a = x) := hx
 have HY : Hid (wr t b = y) := hy
 have k0 : (n == 0) = false := by simp; omega
 clear hn hx hy
 have dc : decide (b < 0) = true := by simpa using hc
 go_enter Try.func75, Try.ntmps75
 go_wp2_with (first | (go_at_call 69; refine (rwidth_any _ _ (by omega)).mono ?_; rw [HN.out]; rintro e y0 ⟨rfl, q0⟩) | (go_at_call_of 73 (Value.int IntKind.i64 a); refine (rwrap_any _ _ _ (by omega)).mono ?_; rw [HX.out]; rintro e y1 ⟨rfl, q1⟩) | (go_at_call_of 73 (Value.int IntKind.i64 b); refine (rwrap_any _ _ _ (by omega)).mono ?_; rw [HY.out]; rintro e y2 ⟨rfl, q2⟩))
 go_ret2
 exact ⟨rfl, q0.trans q1⟩

set_option maxRecDepth 100000 in
set_option maxHeartbeats 1000000 in
theorem rdo_9w (t a b : Int) (w : World) (h0 : 0 ≤ t) (h5 : t ≤ 5) (hc : ¬ b < 0) (hv : wid t ≤ b) :
  Calls Try.prog 75 #[.int .i64 9, .int .i64 t, .int .i64 a, .int .i64 b] w fun e w' => e = .returned (.tuple #[.int .i64 (do1 9 t a b), .int .i64 (do2 9 t a b)]) ∧ Q w w' := by
 have n6 : ¬ 6 ≤ t := by omega
 have e1 : do1 9 t a b = 0 := by simp [do1, n6, shl1, hv]
 have e2 : do2 9 t a b = 3 := by simp [do2, n6, shl2, hv]
 have hw := wid_pos t h0 h5
 have hw2 := wid_le t
 obtain ⟨x1, x2⟩ := wr_bd t a
 obtain ⟨z1, z2⟩ := wr_bd t b
 rw [e1, e2]
 clear e1 e2 n6
 generalize hn : wid t = n at *
 generalize hx : wr t a = x at *
 generalize hy : wr t b = y at *
 have HN : Hid (wid t = n) := hn
 have HX : Hid (wr t a = x) := hx
 have HY : Hid (wr t b = y) := hy
 have k0 : (n == 0) = false := by simp; omega
 clear hn hx hy
 have dc : decide (b < 0) = false := by simpa using hc
 have dv : decide (n ≤ b) = true := by simpa using hv
 go_enter Try.func75, Try.ntmps75
 go_wp2_with (first | (go_at_call 69; refine (rwidth_any _ _ (by omega)).mono ?_; rw [HN.out]; rintro e y0 ⟨rfl, q0⟩) | (go_at_call_of 73 (Value.int IntKind.i64 a); refine (rwrap_any _ _ _ (by omega)).mono ?_; rw [HX.out]; rintro e y1 ⟨rfl, q1⟩) | (go_at_call_of 73 (Value.int IntKind.i64 b); refine (rwrap_any _ _ _ (by omega)).mono ?_; rw [HY.out]; rintro e y2 ⟨rfl, q2⟩))
 go_ret2
 exact ⟨rfl, (Q.trans (by assumption) (Q.trans (by assumption) (by assumption)))⟩

set_option maxRecDepth 100000 in
set_option maxHeartbeats 1000000 in
theorem rdo_10n (t a b : Int) (w : World) (h0 : 0 ≤ t) (h5 : t ≤ 5) (hc : b < 0) :
  Calls Try.prog 75 #[.int .i64 10, .int .i64 t, .int .i64 a, .int .i64 b] w fun e w' => e = .returned (.tuple #[.int .i64 (do1 10 t a b), .int .i64 (do2 10 t a b)]) ∧ Q w w' := by
 have n6 : ¬ 6 ≤ t := by omega
 have e1 : do1 10 t a b = 0 := by simp [do1, n6, shr1, hc]
 have e2 : do2 10 t a b = 3 := by simp [do2, n6, shr2, hc]
 have hw := wid_pos t h0 h5
 have hw2 := wid_le t
 obtain ⟨x1, x2⟩ := wr_bd t a
 obtain ⟨z1, z2⟩ := wr_bd t b
 rw [e1, e2]
 clear e1 e2 n6
 generalize hn : wid t = n at *
 generalize hx : wr t a = x at *
 generalize hy : wr t b = y at *
 have HN : Hid (wid t = n) := hn
 have HX : Hid (wr t a = x) := hx
 have HY : Hid (wr t b = y) := hy
 have k0 : (n == 0) = false := by simp; omega
 clear hn hx hy
 have dc : decide (b < 0) = true := by simpa using hc
 go_enter Try.func75, Try.ntmps75
 go_wp2_with (first | (go_at_call 69; refine (rwidth_any _ _ (by omega)).mono ?_; rw [HN.out]; rintro e y0 ⟨rfl, q0⟩) | (go_at_call_of 73 (Value.int IntKind.i64 a); refine (rwrap_any _ _ _ (by omega)).mono ?_; rw [HX.out]; rintro e y1 ⟨rfl, q1⟩) | (go_at_call_of 73 (Value.int IntKind.i64 b); refine (rwrap_any _ _ _ (by omega)).mono ?_; rw [HY.out]; rintro e y2 ⟨rfl, q2⟩))
 go_ret2
 exact ⟨rfl, q0.trans q1⟩

set_option maxRecDepth 100000 in
set_option maxHeartbeats 1000000 in
theorem rdo_10w (t a b : Int) (w : World) (h0 : 0 ≤ t) (h5 : t ≤ 5) (hc : ¬ b < 0) (hv : wid t ≤ b) :
  Calls Try.prog 75 #[.int .i64 10, .int .i64 t, .int .i64 a, .int .i64 b] w fun e w' => e = .returned (.tuple #[.int .i64 (do1 10 t a b), .int .i64 (do2 10 t a b)]) ∧ Q w w' := by
 have n6 : ¬ 6 ≤ t := by omega
 have e1 : do1 10 t a b = 0 := by simp [do1, n6, shr1, hv]
 have e2 : do2 10 t a b = 3 := by simp [do2, n6, shr2, hv]
 have hw := wid_pos t h0 h5
 have hw2 := wid_le t
 obtain ⟨x1, x2⟩ := wr_bd t a
 obtain ⟨z1, z2⟩ := wr_bd t b
 rw [e1, e2]
 clear e1 e2 n6
 generalize hn : wid t = n at *
 generalize hx : wr t a = x at *
 generalize hy : wr t b = y at *
 have HN : Hid (wid t = n) := hn
 have HX : Hid (wr t a = x) := hx
 have HY : Hid (wr t b = y) := hy
 have k0 : (n == 0) = false := by simp; omega
 clear hn hx hy
 have dc : decide (b < 0) = false := by simpa using hc
 have dv : decide (n ≤ b) = true := by simpa using hv
 go_enter Try.func75, Try.ntmps75
 go_wp2_with (first | (go_at_call 69; refine (rwidth_any _ _ (by omega)).mono ?_; rw [HN.out]; rintro e y0 ⟨rfl, q0⟩) | (go_at_call_of 73 (Value.int IntKind.i64 a); refine (rwrap_any _ _ _ (by omega)).mono ?_; rw [HX.out]; rintro e y1 ⟨rfl, q1⟩) | (go_at_call_of 73 (Value.int IntKind.i64 b); refine (rwrap_any _ _ _ (by omega)).mono ?_; rw [HY.out]; rintro e y2 ⟨rfl, q2⟩))
 go_ret2
 exact ⟨rfl, (Q.trans (by assumption) (Q.trans (by assumption) (by assumption)))⟩

set_option maxRecDepth 100000 in
set_option maxHeartbeats 1000000 in
theorem rdo_9f (t a b : Int) (w : World) (h0 : 0 ≤ t) (h5 : t ≤ 5) (hc : ¬ b < 0) (hv : ¬ wid t ≤ b) :
  Calls Try.prog 75 #[.int .i64 9, .int .i64 t, .int .i64 a, .int .i64 b] w fun e w' => e = .returned (.tuple #[.int .i64 (do1 9 t a b), .int .i64 (do2 9 t a b)]) ∧ Q w w' := by
 have n6 : ¬ 6 ≤ t := by omega
 have e1 : do1 9 t a b = keep1 t (wr t a * 2 ^ b.toNat) := by simp [do1, n6, shl1, hc, hv]
 have e2 : do2 9 t a b = keep2 t (wr t a * 2 ^ b.toNat) := by simp [do2, n6, shl2, hc, hv]
 have hw := wid_pos t h0 h5
 have hw2 := wid_le t
 obtain ⟨x1, x2⟩ := wr_bd t a
 obtain ⟨z1, z2⟩ := wr_bd t b
 rw [e1, e2]
 clear e1 e2 n6
 have pb := pow_bd b (by omega) (by omega)
 have mb := mul_pow_bd (wr t a) _ x1 x2 pb.1 pb.2
 generalize hn : wid t = n at *
 generalize hx : wr t a = x at *
 generalize hy : wr t b = y at *
 have HN : Hid (wid t = n) := hn
 have HX : Hid (wr t a = x) := hx
 have HY : Hid (wr t b = y) := hy
 have k0 : (n == 0) = false := by simp; omega
 clear hn hx hy
 have dc : decide (b < 0) = false := by simpa using hc
 have dv : decide (n ≤ b) = false := by simpa using hv
 go_enter Try.func75, Try.ntmps75
 go_wp2_with (first | (go_at_call 69; refine (rwidth_any _ _ (by omega)).mono ?_; rw [HN.out]; rintro e y0 ⟨rfl, q0⟩) | (go_at_call_of 73 (Value.int IntKind.i64 a); refine (rwrap_any _ _ _ (by omega)).mono ?_; rw [HX.out]; rintro e y1 ⟨rfl, q1⟩) | (go_at_call_of 73 (Value.int IntKind.i64 b); refine (rwrap_any _ _ _ (by omega)).mono ?_; rw [HY.out]; rintro e y2 ⟨rfl, q2⟩) | (go_at_call 81; refine (rkeep_any _ _ _ (by omega)).mono ?_; rintro e y3 ⟨rfl, q3⟩))
 go_ret2
 exact ⟨rfl, (Q.trans (by assumption) (Q.trans (by assumption) (Q.trans (by assumption) (by assumption))))⟩

set_option maxRecDepth 100000 in
set_option maxHeartbeats 1000000 in
theorem rdo_10p (t a b : Int) (w : World) (h0 : 0 ≤ t) (h5 : t ≤ 5) (hc : ¬ b < 0) (hv : ¬ wid t ≤ b) (hp : 0 ≤ wr t a) :
  Calls Try.prog 75 #[.int .i64 10, .int .i64 t, .int .i64 a, .int .i64 b] w fun e w' => e = .returned (.tuple #[.int .i64 (do1 10 t a b), .int .i64 (do2 10 t a b)]) ∧ Q w w' := by
 have n6 : ¬ 6 ≤ t := by omega
 have e1 : do1 10 t a b = (wr t a).tdiv (2 ^ b.toNat) := by simp [do1, n6, shr1, hc, hv]; exact (Int.tdiv_eq_ediv_of_nonneg hp).symm
 have e2 : do2 10 t a b = 0 := by simp [do2, n6, shr2, hc, hv]
 have hw := wid_pos t h0 h5
 have hw2 := wid_le t
 obtain ⟨x1, x2⟩ := wr_bd t a
 obtain ⟨z1, z2⟩ := wr_bd t b
 rw [e1, e2]
 clear e1 e2 n6
 have pb := pow_bd b (by omega) (by omega)
 obtain ⟨p1, p2⟩ := tdiv_bd (wr t a) (2 ^ b.toNat) (by omega) (by omega)
 generalize hn : wid t = n at *
 generalize hx : wr t a = x at *
 generalize hy : wr t b = y at *
 have HN : Hid (wid t = n) := hn
 have HX : Hid (wr t a = x) := hx
 have HY : Hid (wr t b = y) := hy
 have k0 : (n == 0) = false := by simp; omega
 clear hn hx hy
 have dc : decide (b < 0) = false := by simpa using hc
 have dv : decide (n ≤ b) = false := by simpa using hv
 have dx : decide (x < 0) = false := by simp; omega
 go_enter Try.func75, Try.ntmps75
 go_wp2_with (first | (go_at_call 69; refine (rwidth_any _ _ (by omega)).mono ?_; rw [HN.out]; rintro e y0 ⟨rfl, q0⟩) | (go_at_call_of 73 (Value.int IntKind.i64 a); refine (rwrap_any _ _ _ (by omega)).mono ?_; rw [HX.out]; rintro e y1 ⟨rfl, q1⟩) | (go_at_call_of 73 (Value.int IntKind.i64 b); refine (rwrap_any _ _ _ (by omega)).mono ?_; rw [HY.out]; rintro e y2 ⟨rfl, q2⟩))
 go_ret2
 exact ⟨rfl, (Q.trans (by assumption) (Q.trans (by assumption) (by assumption)))⟩

set_option maxRecDepth 100000 in
set_option maxHeartbeats 1000000 in
theorem rdo_10y (t a b : Int) (w : World) (h0 : 0 ≤ t) (h5 : t ≤ 5) (hc : ¬ b < 0) (hv : ¬ wid t ≤ b) (hp : wr t a < 0) (hm : (wr t a).tmod (2 ^ b.toNat) ≠ 0) :
  Calls Try.prog 75 #[.int .i64 10, .int .i64 t, .int .i64 a, .int .i64 b] w fun e w' => e = .returned (.tuple #[.int .i64 (do1 10 t a b), .int .i64 (do2 10 t a b)]) ∧ Q w w' := by
 have n6 : ¬ 6 ≤ t := by omega
 have e1 : do1 10 t a b = (wr t a).tdiv (2 ^ b.toNat) - 1 := by simp [do1, n6, shr1, hc, hv]; exact (floor_yes _ _ hp hm (pow_bd b (by omega) (by have := wid_le t; omega)).1).symm
 have e2 : do2 10 t a b = 0 := by simp [do2, n6, shr2, hc, hv]
 have hw := wid_pos t h0 h5
 have hw2 := wid_le t
 obtain ⟨x1, x2⟩ := wr_bd t a
 obtain ⟨z1, z2⟩ := wr_bd t b
 rw [e1, e2]
 clear e1 e2 n6
 have pb := pow_bd b (by omega) (by omega)
 obtain ⟨p1, p2⟩ := tdiv_bd (wr t a) (2 ^ b.toNat) (by omega) (by omega)
 generalize hn : wid t = n at *
 generalize hx : wr t a = x at *
 generalize hy : wr t b = y at *
 have HN : Hid (wid t = n) := hn
 have HX : Hid (wr t a = x) := hx
 have HY : Hid (wr t b = y) := hy
 have k0 : (n == 0) = false := by simp; omega
 clear hn hx hy
 have dc : decide (b < 0) = false := by simpa using hc
 have dv : decide (n ≤ b) = false := by simpa using hv
 have dx : decide (x < 0) = true := by simpa using hp
 have dm : (x.tmod (2 ^ b.toNat) != 0) = true := by simpa using hm
 go_enter Try.func75, Try.ntmps75
 go_wp2_with (first | (go_at_call 69; refine (rwidth_any _ _ (by omega)).mono ?_; rw [HN.out]; rintro e y0 ⟨rfl, q0⟩) | (go_at_call_of 73 (Value.int IntKind.i64 a); refine (rwrap_any _ _ _ (by omega)).mono ?_; rw [HX.out]; rintro e y1 ⟨rfl, q1⟩) | (go_at_call_of 73 (Value.int IntKind.i64 b); refine (rwrap_any _ _ _ (by omega)).mono ?_; rw [HY.out]; rintro e y2 ⟨rfl, q2⟩))
 go_ret2
 exact ⟨rfl, (Q.trans (by assumption) (Q.trans (by assumption) (by assumption)))⟩

set_option maxRecDepth 100000 in
set_option maxHeartbeats 1000000 in
theorem rdo_10z (t a b : Int) (w : World) (h0 : 0 ≤ t) (h5 : t ≤ 5) (hc : ¬ b < 0) (hv : ¬ wid t ≤ b) (hp : wr t a < 0) (hm : (wr t a).tmod (2 ^ b.toNat) = 0) :
  Calls Try.prog 75 #[.int .i64 10, .int .i64 t, .int .i64 a, .int .i64 b] w fun e w' => e = .returned (.tuple #[.int .i64 (do1 10 t a b), .int .i64 (do2 10 t a b)]) ∧ Q w w' := by
 have n6 : ¬ 6 ≤ t := by omega
 have e1 : do1 10 t a b = (wr t a).tdiv (2 ^ b.toNat) := by simp [do1, n6, shr1, hc, hv]; exact (floor_no _ _ hm (pow_bd b (by omega) (by have := wid_le t; omega)).1).symm
 have e2 : do2 10 t a b = 0 := by simp [do2, n6, shr2, hc, hv]
 have hw := wid_pos t h0 h5
 have hw2 := wid_le t
 obtain ⟨x1, x2⟩ := wr_bd t a
 obtain ⟨z1, z2⟩ := wr_bd t b
 rw [e1, e2]
 clear e1 e2 n6
 have pb := pow_bd b (by omega) (by omega)
 obtain ⟨p1, p2⟩ := tdiv_bd (wr t a) (2 ^ b.toNat) (by omega) (by omega)
 generalize hn : wid t = n at *
 generalize hx : wr t a = x at *
 generalize hy : wr t b = y at *
 have HN : Hid (wid t = n) := hn
 have HX : Hid (wr t a = x) := hx
 have HY : Hid (wr t b = y) := hy
 have k0 : (n == 0) = false := by simp; omega
 clear hn hx hy
 have dc : decide (b < 0) = false := by simpa using hc
 have dv : decide (n ≤ b) = false := by simpa using hv
 have dx : decide (x < 0) = true := by simpa using hp
 have dm : (x.tmod (2 ^ b.toNat) != 0) = false := by simpa using hm
 clear hm
 go_enter Try.func75, Try.ntmps75
 go_wp2_with (first | (go_at_call 69; refine (rwidth_any _ _ (by omega)).mono ?_; rw [HN.out]; rintro e y0 ⟨rfl, q0⟩) | (go_at_call_of 73 (Value.int IntKind.i64 a); refine (rwrap_any _ _ _ (by omega)).mono ?_; rw [HX.out]; rintro e y1 ⟨rfl, q1⟩) | (go_at_call_of 73 (Value.int IntKind.i64 b); refine (rwrap_any _ _ _ (by omega)).mono ?_; rw [HY.out]; rintro e y2 ⟨rfl, q2⟩))
 go_ret2
 exact ⟨rfl, (Q.trans (by assumption) (Q.trans (by assumption) (by assumption)))⟩

set_option maxRecDepth 100000 in
set_option maxHeartbeats 1000000 in
theorem rdo_11 (t a b : Int) (w : World) (h0 : 0 ≤ t) (h5 : t ≤ 5) :
  Calls Try.prog 75 #[.int .i64 11, .int .i64 t, .int .i64 a, .int .i64 b] w fun e w' => e = .returned (.tuple #[.int .i64 (do1 11 t a b), .int .i64 (do2 11 t a b)]) ∧ Q w w' := by
 have n6 : ¬ 6 ≤ t := by omega
 have e1 : do1 11 t a b = tr (decide (wr t a < wr t b)) := by rw [do1_rest _ _ _ _ h5 (by omega)]; simp [cmp1, cmpB]
 have e2 : do2 11 t a b = 0 := by rw [do2_rest _ _ _ _ h5 (by omega)]; simp [cmp2]
 have hw := wid_pos t h0 h5
 have hw2 := wid_le t
 obtain ⟨x1, x2⟩ := wr_bd t a
 obtain ⟨z1, z2⟩ := wr_bd t b
 rw [e1, e2]
 clear e1 e2 n6
 generalize hn : wid t = n at *
 generalize hx : wr t a = x at *
 generalize hy : wr t b = y at *
 have HN : Hid (wid t = n) := hn
 have HX : Hid (wr t a = x) := hx
 have HY : Hid (wr t b = y) := hy
 have k0 : (n == 0) = false := by simp; omega
 clear hn hx hy
 go_enter Try.func75, Try.ntmps75
 go_wp2_with (first | (go_at_call 69; refine (rwidth_any _ _ (by omega)).mono ?_; rw [HN.out]; rintro e y0 ⟨rfl, q0⟩) | (go_at_call_of 73 (Value.int IntKind.i64 a); refine (rwrap_any _ _ _ (by omega)).mono ?_; rw [HX.out]; rintro e y1 ⟨rfl, q1⟩) | (go_at_call_of 73 (Value.int IntKind.i64 b); refine (rwrap_any _ _ _ (by omega)).mono ?_; rw [HY.out]; rintro e y2 ⟨rfl, q2⟩) | (go_at_call 82; refine (ryes_any _ _).mono ?_; rintro e y3 ⟨rfl, rfl⟩))
 go_ret2
 exact ⟨rfl, (q0.trans q1).trans q2⟩

set_option maxRecDepth 100000 in
set_option maxHeartbeats 1000000 in
theorem rdo_12 (t a b : Int) (w : World) (h0 : 0 ≤ t) (h5 : t ≤ 5) :
  Calls Try.prog 75 #[.int .i64 12, .int .i64 t, .int .i64 a, .int .i64 b] w fun e w' => e = .returned (.tuple #[.int .i64 (do1 12 t a b), .int .i64 (do2 12 t a b)]) ∧ Q w w' := by
 have n6 : ¬ 6 ≤ t := by omega
 have e1 : do1 12 t a b = tr (decide (wr t a ≤ wr t b)) := by rw [do1_rest _ _ _ _ h5 (by omega)]; simp [cmp1, cmpB]
 have e2 : do2 12 t a b = 0 := by rw [do2_rest _ _ _ _ h5 (by omega)]; simp [cmp2]
 have hw := wid_pos t h0 h5
 have hw2 := wid_le t
 obtain ⟨x1, x2⟩ := wr_bd t a
 obtain ⟨z1, z2⟩ := wr_bd t b
 rw [e1, e2]
 clear e1 e2 n6
 generalize hn : wid t = n at *
 generalize hx : wr t a = x at *
 generalize hy : wr t b = y at *
 have HN : Hid (wid t = n) := hn
 have HX : Hid (wr t a = x) := hx
 have HY : Hid (wr t b = y) := hy
 have k0 : (n == 0) = false := by simp; omega
 clear hn hx hy
 go_enter Try.func75, Try.ntmps75
 go_wp2_with (first | (go_at_call 69; refine (rwidth_any _ _ (by omega)).mono ?_; rw [HN.out]; rintro e y0 ⟨rfl, q0⟩) | (go_at_call_of 73 (Value.int IntKind.i64 a); refine (rwrap_any _ _ _ (by omega)).mono ?_; rw [HX.out]; rintro e y1 ⟨rfl, q1⟩) | (go_at_call_of 73 (Value.int IntKind.i64 b); refine (rwrap_any _ _ _ (by omega)).mono ?_; rw [HY.out]; rintro e y2 ⟨rfl, q2⟩) | (go_at_call 82; refine (ryes_any _ _).mono ?_; rintro e y3 ⟨rfl, rfl⟩))
 go_ret2
 exact ⟨rfl, (q0.trans q1).trans q2⟩

set_option maxRecDepth 100000 in
set_option maxHeartbeats 1000000 in
theorem rdo_13 (t a b : Int) (w : World) (h0 : 0 ≤ t) (h5 : t ≤ 5) :
  Calls Try.prog 75 #[.int .i64 13, .int .i64 t, .int .i64 a, .int .i64 b] w fun e w' => e = .returned (.tuple #[.int .i64 (do1 13 t a b), .int .i64 (do2 13 t a b)]) ∧ Q w w' := by
 have n6 : ¬ 6 ≤ t := by omega
 have e1 : do1 13 t a b = tr (decide (wr t b < wr t a)) := by rw [do1_rest _ _ _ _ h5 (by omega)]; simp [cmp1, cmpB]
 have e2 : do2 13 t a b = 0 := by rw [do2_rest _ _ _ _ h5 (by omega)]; simp [cmp2]
 have hw := wid_pos t h0 h5
 have hw2 := wid_le t
 obtain ⟨x1, x2⟩ := wr_bd t a
 obtain ⟨z1, z2⟩ := wr_bd t b
 rw [e1, e2]
 clear e1 e2 n6
 generalize hn : wid t = n at *
 generalize hx : wr t a = x at *
 generalize hy : wr t b = y at *
 have HN : Hid (wid t = n) := hn
 have HX : Hid (wr t a = x) := hx
 have HY : Hid (wr t b = y) := hy
 have k0 : (n == 0) = false := by simp; omega
 clear hn hx hy
 go_enter Try.func75, Try.ntmps75
 go_wp2_with (first | (go_at_call 69; refine (rwidth_any _ _ (by omega)).mono ?_; rw [HN.out]; rintro e y0 ⟨rfl, q0⟩) | (go_at_call_of 73 (Value.int IntKind.i64 a); refine (rwrap_any _ _ _ (by omega)).mono ?_; rw [HX.out]; rintro e y1 ⟨rfl, q1⟩) | (go_at_call_of 73 (Value.int IntKind.i64 b); refine (rwrap_any _ _ _ (by omega)).mono ?_; rw [HY.out]; rintro e y2 ⟨rfl, q2⟩) | (go_at_call 82; refine (ryes_any _ _).mono ?_; rintro e y3 ⟨rfl, rfl⟩))
 go_ret2
 exact ⟨rfl, (q0.trans q1).trans q2⟩

set_option maxRecDepth 100000 in
set_option maxHeartbeats 1000000 in
theorem rdo_14 (t a b : Int) (w : World) (h0 : 0 ≤ t) (h5 : t ≤ 5) :
  Calls Try.prog 75 #[.int .i64 14, .int .i64 t, .int .i64 a, .int .i64 b] w fun e w' => e = .returned (.tuple #[.int .i64 (do1 14 t a b), .int .i64 (do2 14 t a b)]) ∧ Q w w' := by
 have n6 : ¬ 6 ≤ t := by omega
 have e1 : do1 14 t a b = tr (decide (wr t b ≤ wr t a)) := by rw [do1_rest _ _ _ _ h5 (by omega)]; simp [cmp1, cmpB]
 have e2 : do2 14 t a b = 0 := by rw [do2_rest _ _ _ _ h5 (by omega)]; simp [cmp2]
 have hw := wid_pos t h0 h5
 have hw2 := wid_le t
 obtain ⟨x1, x2⟩ := wr_bd t a
 obtain ⟨z1, z2⟩ := wr_bd t b
 rw [e1, e2]
 clear e1 e2 n6
 generalize hn : wid t = n at *
 generalize hx : wr t a = x at *
 generalize hy : wr t b = y at *
 have HN : Hid (wid t = n) := hn
 have HX : Hid (wr t a = x) := hx
 have HY : Hid (wr t b = y) := hy
 have k0 : (n == 0) = false := by simp; omega
 clear hn hx hy
 go_enter Try.func75, Try.ntmps75
 go_wp2_with (first | (go_at_call 69; refine (rwidth_any _ _ (by omega)).mono ?_; rw [HN.out]; rintro e y0 ⟨rfl, q0⟩) | (go_at_call_of 73 (Value.int IntKind.i64 a); refine (rwrap_any _ _ _ (by omega)).mono ?_; rw [HX.out]; rintro e y1 ⟨rfl, q1⟩) | (go_at_call_of 73 (Value.int IntKind.i64 b); refine (rwrap_any _ _ _ (by omega)).mono ?_; rw [HY.out]; rintro e y2 ⟨rfl, q2⟩) | (go_at_call 82; refine (ryes_any _ _).mono ?_; rintro e y3 ⟨rfl, rfl⟩))
 go_ret2
 exact ⟨rfl, (q0.trans q1).trans q2⟩

set_option maxRecDepth 100000 in
set_option maxHeartbeats 1000000 in
theorem rdo_15 (t a b : Int) (w : World) (h0 : 0 ≤ t) (h5 : t ≤ 5) :
  Calls Try.prog 75 #[.int .i64 15, .int .i64 t, .int .i64 a, .int .i64 b] w fun e w' => e = .returned (.tuple #[.int .i64 (do1 15 t a b), .int .i64 (do2 15 t a b)]) ∧ Q w w' := by
 have n6 : ¬ 6 ≤ t := by omega
 have e1 : do1 15 t a b = tr (wr t a == wr t b) := by rw [do1_rest _ _ _ _ h5 (by omega)]; simp [cmp1, cmpB]
 have e2 : do2 15 t a b = 0 := by rw [do2_rest _ _ _ _ h5 (by omega)]; simp [cmp2]
 have hw := wid_pos t h0 h5
 have hw2 := wid_le t
 obtain ⟨x1, x2⟩ := wr_bd t a
 obtain ⟨z1, z2⟩ := wr_bd t b
 rw [e1, e2]
 clear e1 e2 n6
 generalize hn : wid t = n at *
 generalize hx : wr t a = x at *
 generalize hy : wr t b = y at *
 have HN : Hid (wid t = n) := hn
 have HX : Hid (wr t a = x) := hx
 have HY : Hid (wr t b = y) := hy
 have k0 : (n == 0) = false := by simp; omega
 clear hn hx hy
 go_enter Try.func75, Try.ntmps75
 go_wp2_with (first | (go_at_call 69; refine (rwidth_any _ _ (by omega)).mono ?_; rw [HN.out]; rintro e y0 ⟨rfl, q0⟩) | (go_at_call_of 73 (Value.int IntKind.i64 a); refine (rwrap_any _ _ _ (by omega)).mono ?_; rw [HX.out]; rintro e y1 ⟨rfl, q1⟩) | (go_at_call_of 73 (Value.int IntKind.i64 b); refine (rwrap_any _ _ _ (by omega)).mono ?_; rw [HY.out]; rintro e y2 ⟨rfl, q2⟩) | (go_at_call 82; refine (ryes_any _ _).mono ?_; rintro e y3 ⟨rfl, rfl⟩))
 go_ret2
 exact ⟨rfl, (q0.trans q1).trans q2⟩

set_option maxRecDepth 100000 in
set_option maxHeartbeats 1000000 in
theorem rdo_16 (t a b : Int) (w : World) (h0 : 0 ≤ t) (h5 : t ≤ 5) :
  Calls Try.prog 75 #[.int .i64 16, .int .i64 t, .int .i64 a, .int .i64 b] w fun e w' => e = .returned (.tuple #[.int .i64 (do1 16 t a b), .int .i64 (do2 16 t a b)]) ∧ Q w w' := by
 have n6 : ¬ 6 ≤ t := by omega
 have e1 : do1 16 t a b = tr (wr t a != wr t b) := by rw [do1_rest _ _ _ _ h5 (by omega)]; simp [cmp1, cmpB]
 have e2 : do2 16 t a b = 0 := by rw [do2_rest _ _ _ _ h5 (by omega)]; simp [cmp2]
 have hw := wid_pos t h0 h5
 have hw2 := wid_le t
 obtain ⟨x1, x2⟩ := wr_bd t a
 obtain ⟨z1, z2⟩ := wr_bd t b
 rw [e1, e2]
 clear e1 e2 n6
 generalize hn : wid t = n at *
 generalize hx : wr t a = x at *
 generalize hy : wr t b = y at *
 have HN : Hid (wid t = n) := hn
 have HX : Hid (wr t a = x) := hx
 have HY : Hid (wr t b = y) := hy
 have k0 : (n == 0) = false := by simp; omega
 clear hn hx hy
 go_enter Try.func75, Try.ntmps75
 go_wp2_with (first | (go_at_call 69; refine (rwidth_any _ _ (by omega)).mono ?_; rw [HN.out]; rintro e y0 ⟨rfl, q0⟩) | (go_at_call_of 73 (Value.int IntKind.i64 a); refine (rwrap_any _ _ _ (by omega)).mono ?_; rw [HX.out]; rintro e y1 ⟨rfl, q1⟩) | (go_at_call_of 73 (Value.int IntKind.i64 b); refine (rwrap_any _ _ _ (by omega)).mono ?_; rw [HY.out]; rintro e y2 ⟨rfl, q2⟩) | (go_at_call 82; refine (ryes_any _ _).mono ?_; rintro e y3 ⟨rfl, rfl⟩))
 go_ret2
 exact ⟨rfl, (q0.trans q1).trans q2⟩

theorem rdo_any (op t a b : Int) (w : World) (h0 : 0 ≤ t) :
  Calls Try.prog 75 #[.int .i64 op, .int .i64 t, .int .i64 a, .int .i64 b] w fun e w' => e = .returned (.tuple #[.int .i64 (do1 op t a b), .int .i64 (do2 op t a b)]) ∧ Q w w' := by
 by_cases h6 : 6 ≤ t
 ·exact rdo_none op t a b w h6
 ·have h5 : t ≤ 5 := by omega
  have h : op = 1 ∨ op = 2 ∨ op = 3 ∨ op = 4 ∨ op = 5 ∨ op = 6 ∨ op = 7 ∨ op = 8 ∨ op = 9 ∨ op = 10 ∨ op = 11 ∨ op = 12 ∨ op = 13 ∨ op = 14 ∨ op = 15 ∨ op = 16 ∨ op < 1 ∨ 16 < op := by omega
  rcases h with rfl | rfl | rfl | rfl | rfl | rfl | rfl | rfl | rfl | rfl | rfl | rfl | rfl | rfl | rfl | rfl | h | h
  ·exact rdo_1 t a b w h0 h5
  ·exact rdo_2 t a b w h0 h5
  ·cases hs : sgn t with
   | true => exact rdo_3s t a b w h0 h5 hs
   | false => exact rdo_3u t a b w h0 h5 hs
  ·by_cases hz : wr t b = 0
   ·exact rdo_4z t a b w h0 h5 hz
   ·cases hf : fit t ((wr t a).tdiv (wr t b)) with
    | false => exact rdo_4o t a b w h0 h5 hz hf
    | true => exact rdo_4f t a b w h0 h5 hz hf
  ·by_cases hz : wr t b = 0
   ·exact rdo_5z t a b w h0 h5 hz
   ·cases hf : fit t ((wr t a).tdiv (wr t b)) with
    | false => exact rdo_5o t a b w h0 h5 hz hf
    | true => exact rdo_5f t a b w h0 h5 hz hf
  ·exact rdo_6 t a b w h0 h5
  ·exact rdo_7 t a b w h0 h5
  ·exact rdo_8 t a b w h0 h5
  ·by_cases hc : b < 0
   ·exact rdo_9n t a b w h0 h5 hc
   ·by_cases hv : wid t ≤ b
    ·exact rdo_9w t a b w h0 h5 hc hv
    ·exact rdo_9f t a b w h0 h5 hc hv
  ·by_cases hc : b < 0
   ·exact rdo_10n t a b w h0 h5 hc
   ·by_cases hv : wid t ≤ b
    ·exact rdo_10w t a b w h0 h5 hc hv
    ·by_cases hp : 0 ≤ wr t a
     ·exact rdo_10p t a b w h0 h5 hc hv hp
     ·by_cases hm : (wr t a).tmod (2 ^ b.toNat) = 0
      ·exact rdo_10z t a b w h0 h5 hc hv (by omega) hm
      ·exact rdo_10y t a b w h0 h5 hc hv (by omega) hm
  ·exact rdo_11 t a b w h0 h5
  ·exact rdo_12 t a b w h0 h5
  ·exact rdo_13 t a b w h0 h5
  ·exact rdo_14 t a b w h0 h5
  ·exact rdo_15 t a b w h0 h5
  ·exact rdo_16 t a b w h0 h5
  ·exact rdo_low op t a b w h0 h5 h
  ·exact rdo_high op t a b w h0 h5 h

end Go.Proofs.Ytphknepblchkdaa.Nu
