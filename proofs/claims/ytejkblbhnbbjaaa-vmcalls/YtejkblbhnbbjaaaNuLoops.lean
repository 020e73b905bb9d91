/-
  What the document's answer for a product and for operations on bits returns: contracts over the program; the conditions: the two numbers are numbers of the type.
-/
import Derived.Test.YtejkblbhnbbjaaaNuBaseE
import Derived.Test.YtejkblbhnbbjaaaNuPlainE
namespace Go.Proofs.Ytejkblbhnbbjaaa.Nu
open Go.RowKit
open Burin
set_option linter.unusedVariables false

theorem times_end (t a : Int) (b k : Nat) (h1 : k ≤ 32) (h2 : ¬ k < 32) (hb : b < 4294967296) : tR t a b k = Burin.wr t (a * b) := by
  have e : k = 32 := by omega
  subst e
  exact tR_all t a b hb
theorem bit_nat (b k : Nat) : bits .and .i64 ((b : Int) / 2 ^ k) 1 = ((b / 2 ^ k % 2 : Nat) : Int) := by
  rw [and1]
  simp

set_option maxHeartbeats 400000 in
theorem rtimes_any (t a : Int) (b : Nat) (w : World) (ht : t = 1 ∨ t = 3 ∨ t = 5) (ha : wr t a = a) (hb : b < 4294967296) :
    Calls Try.prog 24 #[.int .i64 t, .int .i64 a, .int .i64 b] w fun e w' => e = .returned (.int .i64 (wr t (a * b))) ∧ Q w w' := by
  have HA : Hid (Burin.wr t a = a) := ha
  have HT : Hid (t = 1 ∨ t = 3 ∨ t = 5) := ht
  have h0 : 0 ≤ t := by omega
  clear ha ht
  go_enter Try.func24, Try.ntmps24
  go_wp2
  go_loopw [1, 7, 8] (fun x r i w' => ∃ k : Nat, k ≤ 32 ∧ i = .int .i64 k ∧ x = .int .i64 (tA t a k) ∧ r = .int .i64 (tR t a b k) ∧ Q w w') (fun _ _ i _ => 32 - (intOf i).toNat)
  case atStart => exact ⟨0, by omega, rfl, by rw [tA_zero t a HA.out], by rw [tR_zero], Q.refl _⟩
  case round =>
    obtain ⟨k, hk, rfl, rfl, rfl, hq⟩ := hrel
    by_cases hlt : k < 32
    · obtain ⟨u1, u2⟩ := wr_u_bd t (a * 2 ^ k) HT.out
      obtain ⟨v1, v2⟩ := wr_u_bd t (a * ((b % 2 ^ k : Nat) : Int)) HT.out
      have hu1 : 0 ≤ tA t a k := u1
      have hu2 : tA t a k ≤ 4294967295 := u2
      have hv1 : 0 ≤ tR t a b k := v1
      have hv2 : tR t a b k ≤ 4294967295 := v2
      have SA : Hid (Burin.wr t (tA t a k + tA t a k) = tA t a (k + 1)) := tA_succ t a k HT.out
      clear u1 u2 v1 v2
      have h2 : b / 2 ^ k % 2 = 0 ∨ b / 2 ^ k % 2 = 1 := by omega
      rcases h2 with h2 | h2
      · have hbit : bits .and .i64 ((b : Int) / 2 ^ k) 1 = 0 := by rw [bit_nat, h2]; rfl
        have SR : Hid (tR t a b (k + 1) = tR t a b k) := tR_no t a b k h2
        clear h2
        go_wp2_with (go_at_call 21; refine (rwrap_any _ _ _ (by omega)).mono ?_; rw [SA.out]; rintro e y1 ⟨rfl, q1⟩)
        go_roundw
        case rel => exact ⟨k + 1, by omega, by go_num, rfl, by rw [SR.out], hq.trans q1⟩
        case measure => simp [intOf]; omega
      · have hbit : bits .and .i64 ((b : Int) / 2 ^ k) 1 = 1 := by rw [bit_nat, h2]; rfl
        have SR : Hid (Burin.wr t (tR t a b k + tA t a k) = tR t a b (k + 1)) := tR_yes t a b k HT.out h2
        clear h2
        go_wp2_with (go_at_call 21; refine (rwrap_any _ _ _ (by omega)).mono ?_; (first | rw [SA.out] | rw [SR.out]); rintro e y1 ⟨rfl, q1⟩)
        go_roundw
        case rel => exact ⟨k + 1, by omega, by go_num, rfl, rfl, Q.trans hq (Q.trans (by assumption) (by assumption))⟩
        case measure => simp [intOf]; omega
    · have E : Hid (tR t a b k = Burin.wr t (a * b)) := times_end t a b k hk hlt hb
      go_wp2
      go_ret
      exact ⟨ret_int E.out, hq⟩

theorem two_bits (z : Int) (k : Nat) : z / 2 ^ k % 2 = 0 ∨ z / 2 ^ k % 2 = 1 := by omega
theorem bits_end (t op a b : Int) (k : Nat) (h1 : (k : Int) ≤ wid t) (h2 : ¬ (k : Int) < wid t) : zR t op a b k = (zN t op a b : Int) := by
  have e : k = widN t := by unfold widN; omega
  subst e
  exact zR_all t op a b

theorem pow_nat_bd (k : Nat) (h : k < 32) : 1 ≤ (2 : Int) ^ k ∧ (2 : Int) ^ k ≤ 2147483648 := by
  have := pow_bd (k : Int) (by omega) (by omega)
  rwa [Int.toNat_natCast] at this

set_option maxHeartbeats 1000000 in
theorem rbits_any (t op a b : Int) (w : World) (h0 : 0 ≤ t) (h5 : t ≤ 5) (ho : op = 6 ∨ op = 7 ∨ op = 8) (a1 : low t ≤ a) (a2 : a ≤ high t) (b1 : low t ≤ b) (b2 : b ≤ high t) :
    Calls Try.prog 26 #[.int .i64 op, .int .i64 t, .int .i64 a, .int .i64 b] w fun e w' => e = .returned (.int .i64 (bits (bop op) .i64 a b)) ∧ Q w w' := by
  have EN : Hid (bits (bop op) .i64 a b = Burin.wr t (zN t op a b : Int)) := bits_wr t op a b h0 h5 a1 a2 b1 b2
  obtain ⟨n1, n2⟩ := wid_bd t
  clear a1 a2 b1 b2
  rw [EN.out]
  generalize hn : wid t = n at *
  have HN : Hid (wid t = n) := hn
  clear hn
  go_enter Try.func26, Try.ntmps26
  go_wp2
  go_loopw [9, 10] (fun r i w' => ∃ k : Nat, (k : Int) ≤ n ∧ i = .int .i64 k ∧ r = .int .i64 (zR t op a b k) ∧ Q w w') (fun _ i _ => 32 - (intOf i).toNat)
  case atStart => exact ⟨0, by omega, rfl, by rw [zR_zero], Q.refl _⟩
  case round =>
    obtain ⟨k, hk, rfl, rfl, hq⟩ := hrel
    by_cases hlt : (k : Int) < n
    · obtain ⟨v1, v2⟩ := zR_bd t op a b k (by omega)
      obtain ⟨p1, p2⟩ := pow_nat_bd k (by omega)
      have hkw : k < widN t := by unfold widN; have := HN.out; omega
      have S : Hid (zR t op a b (k + 1) = zR t op a b k + bit1 op (a / 2 ^ k % 2) (b / 2 ^ k % 2) * 2 ^ k) := zR_succ t op a b k hkw
      have xa := and1 (a / 2 ^ k)
      have xb := and1 (b / 2 ^ k)
      clear hkw
      rcases ho with rfl | rfl | rfl <;> rcases two_bits a k with ea | ea <;> rcases two_bits b k with eb | eb
      all_goals
        rw [ea, eb] at S
        rw [ea] at xa
        rw [eb] at xb
        clear ea eb
        go_wp2_with (go_at_call 20; refine (rwidth_any _ _ (by omega)).mono ?_; rw [HN.out]; rintro e y1 ⟨rfl, q1⟩)
        go_roundw
        case rel => exact ⟨k + 1, by omega, by go_num, by rw [S.out]; simp [bit1], hq.trans q1⟩
        case measure => simp [intOf]; omega
    · have E : Hid (zR t op a b k = (zN t op a b : Int)) := bits_end t op a b k (by have := HN.out; omega) (by have := HN.out; omega)
      go_wp2_with (first | (go_at_call 20; refine (rwidth_any _ _ (by omega)).mono ?_; rw [HN.out]; rintro e y1 ⟨rfl, q1⟩) | (go_at_call 21; refine (rwrap_any _ _ _ (by omega)).mono ?_; rw [E.out]; rintro e y2 ⟨rfl, q2⟩))
      go_ret
      exact ⟨rfl, (hq.trans q1).trans q2⟩

end Go.Proofs.Ytejkblbhnbbjaaa.Nu
