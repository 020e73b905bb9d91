/-
  What down, at, more, less and ones of the document's answer for layer 10 return: contracts over the program; the conditions: numbers of at most 33 bits.
-/
import Derived.Test.YtancfhnhjfhbfaaSpI
import Derived.Test.YtancfhnhjfhbfaaSpH
set_option linter.unusedVariables false
namespace Burin
open Go
theorem floor_of (a d : Int) (hd : 0 < d) : a / d = if a.tmod d < 0 then a.tdiv d - 1 else a.tdiv d := by
  have k := Int.mul_tdiv_add_tmod a d
  have e1 := Int.mul_ediv_add_emod a d
  have e2 := Int.emod_nonneg a (show d ≠ 0 by omega)
  have e3 := Int.emod_lt_of_pos a hd
  have h1 : a.tmod d < d := Int.tmod_lt_of_pos a hd
  have h2 : -d < a.tmod d := by
    have := Int.tmod_lt_of_pos (-a) hd
    rw [Int.neg_tmod] at this
    omega
  generalize a.tmod d = r at *
  generalize a.tdiv d = q at *
  generalize a % d = s at *
  generalize a / d = p at *
  have h3 : d * p + s = d * q + r := by omega
  have h4 : d * (p - q) = r - s := by rw [Int.mul_sub]; omega
  split
  · have : p - q = -1 := by
      have b1 : d * (p - q) < d * 0 := by omega
      have b2 : d * (-2) < d * (p - q) := by omega
      have c1 := Int.lt_of_mul_lt_mul_left b1 (by omega)
      have c2 := Int.lt_of_mul_lt_mul_left b2 (by omega)
      omega
    omega
  · have : p - q = 0 := by
      have b1 : d * (p - q) < d * 1 := by omega
      have b2 : d * (-1) < d * (p - q) := by omega
      have c1 := Int.lt_of_mul_lt_mul_left b1 (by omega)
      have c2 := Int.lt_of_mul_lt_mul_left b2 (by omega)
      omega
    omega
theorem ones_step (v : Int) (k : Nat) (h0 : 0 ≤ v) (hv : v ≤ 4294967295) (hk : k ≤ Lib.bitLen v.toNat) (h : (2 : Int) ^ k - 1 < v) : k + 1 ≤ Lib.bitLen v.toNat := by
  rcases Nat.lt_or_ge k (Lib.bitLen v.toNat) with h1 | h1
  · exact h1
  · have e : k = Lib.bitLen v.toNat := by omega
    have l := ones_lt v v h0 (Int.le_refl _) hv
    rw [← e] at l
    have e2 : ((2 : Int) ^ k) = ((2 ^ k : Nat) : Int) := by simp
    rw [e2] at h
    omega
theorem ones_end (v : Int) (k : Nat) (h0 : 0 ≤ v) (hv : v ≤ 4294967295) (hk : k ≤ Lib.bitLen v.toNat) (h : v ≤ (2 : Int) ^ k - 1) : (2 : Int) ^ k - 1 = onesP v := by
  have e2 : ((2 : Int) ^ k) = ((2 ^ k : Nat) : Int) := by simp
  rw [e2] at h
  have l : Lib.bitLen v.toNat ≤ k := Lib.bitLen_le v.toNat k (by
    have := Lib.bitLen_le v.toNat 32 (by decide) (Nat.lt_of_le_of_lt (show v.toNat ≤ 4294967295 by omega) (by decide))
    omega) (by omega)
  have : k = Lib.bitLen v.toNat := by omega
  unfold onesP
  rw [this]
theorem bl32 (v : Int) (hv : v ≤ 4294967295) : Lib.bitLen v.toNat ≤ 32 := Lib.bitLen_le v.toNat 32 (by decide) (Nat.lt_of_le_of_lt (show v.toNat ≤ 4294967295 by omega) (by decide))
end Burin
namespace Go.Proofs.Ytancfhnhjfhbfaa
open Go.RowKit
open Burin
set_option linter.unusedVariables false

set_option maxHeartbeats 400000 in
theorem rdown_any (a b : Int) (w : World) (ha : nb a) (b0 : 0 ≤ b) (b1 : b < 32) :
    Calls Try.prog 71 #[.int .i64 a, .int .i64 b] w fun e w' => e = .returned (.int .i64 (a / 2 ^ b.toNat)) ∧ w' = w := by
  obtain ⟨a1, a2⟩ := ha
  have pb := pow_bd b b0 b1
  rw [floor_of a (2 ^ b.toNat) (by omega)]
  obtain ⟨p1, p2⟩ := pb
  have tb := tdiv_bd a (2 ^ b.toNat) (by omega) (by omega)
  have tm : -4294967296 ≤ a.tmod (2 ^ b.toNat) ∧ a.tmod (2 ^ b.toNat) ≤ 4294967296 := by
    have k := mtdiv_bd a (2 ^ b.toNat) (by omega) (by omega)
    have e := Int.mul_tdiv_add_tmod a (2 ^ b.toNat)
    have h : (a.tmod (2 ^ b.toNat)).natAbs ≤ a.natAbs := by rw [Int.natAbs_tmod]; exact Nat.mod_le _ _
    omega
  have nz : ((2 : Int) ^ b.toNat == 0) = false := by simp; omega
  obtain ⟨t1, t2⟩ := tb
  obtain ⟨t3, t4⟩ := tm
  by_cases hm : a.tmod (2 ^ b.toNat) < 0
  · rw [if_pos hm]
    have d1 : decide (a.tmod (2 ^ b.toNat) < 0) = true := by simpa using hm
    go_enter Try.func71, Try.ntmps71
    go_wp2
    go_ret
    exact ⟨rfl, rfl⟩
  · rw [if_neg hm]
    have d1 : decide (a.tmod (2 ^ b.toNat) < 0) = false := by simpa using hm
    go_enter Try.func71, Try.ntmps71
    go_wp2
    go_ret
    exact ⟨rfl, rfl⟩

set_option maxHeartbeats 400000 in
theorem rmore_any (a b : Int) (w : World) : Calls Try.prog 49 #[.int .i64 a, .int .i64 b] w fun e w' => e = .returned (.int .i64 (max a b)) ∧ w' = w := by
  rcases Int.lt_or_le b a with h | h
  · rw [show max a b = a by omega]
    have d1 : decide (b < a) = true := by simpa using h
    go_enter Try.func49, Try.ntmps49
    go_wp2
    go_ret
    exact ⟨rfl, rfl⟩
  · rw [show max a b = b by omega]
    have d1 : decide (b < a) = false := by simpa using h
    go_enter Try.func49, Try.ntmps49
    go_wp2
    go_ret
    exact ⟨rfl, rfl⟩

set_option maxHeartbeats 400000 in
theorem rless_any (a b : Int) (w : World) : Calls Try.prog 47 #[.int .i64 a, .int .i64 b] w fun e w' => e = .returned (.int .i64 (min a b)) ∧ w' = w := by
  rcases Int.lt_or_le a b with h | h
  · rw [show min a b = a by omega]
    have d1 : decide (a < b) = true := by simpa using h
    go_enter Try.func47, Try.ntmps47
    go_wp2
    go_ret
    exact ⟨rfl, rfl⟩
  · rw [show min a b = b by omega]
    have d1 : decide (a < b) = false := by simpa using h
    go_enter Try.func47, Try.ntmps47
    go_wp2
    go_ret
    exact ⟨rfl, rfl⟩

/-- What at asks of its two numbers. -/
def AtOk (op x y : Int) : Prop := (op = 1 ∧ nb x ∧ nb y) ∨ (op = 2 ∧ nb x ∧ nb y) ∨ op = 3 ∨ (op = 4 ∧ nb x ∧ nb y ∧ y ≠ 0) ∨ (op = 9 ∧ nb x ∧ 0 ≤ y ∧ y < 32) ∨ (op = 10 ∧ nb x ∧ 0 ≤ y ∧ y < 32)

set_option maxHeartbeats 1000000 in
theorem rat_any (op x y : Int) (w : World) (h : AtOk op x y) : Calls Try.prog 68 #[.int .i64 op, .int .i64 x, .int .i64 y] w fun e w' => e = .returned (.int .i64 (atP op x y)) ∧ w' = w := by
  rcases h with ⟨rfl, ⟨x1, x2⟩, ⟨y1, y2⟩⟩ | ⟨rfl, ⟨x1, x2⟩, ⟨y1, y2⟩⟩ | rfl | ⟨rfl, ⟨x1, x2⟩, ⟨y1, y2⟩, y0⟩ | ⟨rfl, ⟨x1, x2⟩, y0, y1⟩ | ⟨rfl, hx, y0, y1⟩
  · have ea : atP 1 x y = x + y := rfl
    rw [ea]
    clear ea
    go_enter Try.func68, Try.ntmps68
    go_wp2
    go_ret
    exact ⟨rfl, rfl⟩
  · have ea : atP 2 x y = x - y := rfl
    rw [ea]
    clear ea
    go_enter Try.func68, Try.ntmps68
    go_wp2
    go_ret
    exact ⟨rfl, rfl⟩
  · have ea : atP 3 x y = wrap64 (x * y) := rfl
    rw [ea]
    clear ea
    go_enter Try.func68, Try.ntmps68
    go_wp2
    go_ret
    exact ⟨rfl, rfl⟩
  · have ea : atP 4 x y = x.tdiv y := rfl
    rw [ea]
    clear ea
    have hk : (y == 0) = false := by simpa using y0
    obtain ⟨p1, p2⟩ := tdiv_bd x y (by omega) (by omega)
    go_enter Try.func68, Try.ntmps68
    go_wp2
    go_ret
    exact ⟨rfl, rfl⟩
  · have ea : atP 9 x y = x * 2 ^ y.toNat := rfl
    rw [ea]
    clear ea
    have pb := pow_bd y y0 y1
    have mb := mul_pow_bd x _ x1 x2 pb.1 pb.2
    obtain ⟨pb1, pb2⟩ := pb
    obtain ⟨mb1, mb2⟩ := mb
    go_enter Try.func68, Try.ntmps68
    go_wp2
    go_ret
    exact ⟨rfl, rfl⟩
  · have ea : atP 10 x y = x / 2 ^ y.toNat := rfl
    rw [ea]
    clear ea
    have HD := hideIt (rdown_any x y w hx y0 y1)
    generalize x / 2 ^ y.toNat = v at *
    go_enter Try.func68, Try.ntmps68
    go_wp2_with (go_at_call 71; refine HD.out.mono ?_; rintro e u ⟨rfl, rfl⟩)
    go_ret
    exact ⟨rfl, rfl⟩

end Go.Proofs.Ytancfhnhjfhbfaa
