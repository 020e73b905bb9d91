/-
  The plain numbers of layer 1: a product by adding, and operations on bits one by one, as the document's answer reckons them; no conditions but those that each fact bears.
-/
import Derived.Test.YtejkblbhnbbjaaaNuPlainD
namespace Burin
open Go

def tA (t a : Int) (k : Nat) : Int := wr t (a * 2 ^ k)
def tR (t a : Int) (b : Nat) (k : Nat) : Int := wr t (a * ((b % 2 ^ k : Nat) : Int))

theorem wr_mod (t : Int) (ht : t = 1 ∨ t = 3 ∨ t = 5) : ∃ m : Int, 0 < m ∧ m ≤ 4294967296 ∧ ∀ v, wr t v = v % m := by
  rcases ht with rfl | rfl | rfl
  · exact ⟨256, by decide, by decide, fun v => by simp [wr]⟩
  · exact ⟨65536, by decide, by decide, fun v => by simp [wr]⟩
  · exact ⟨4294967296, by decide, by decide, fun v => by simp [wr]⟩
theorem wr_u_bd (t v : Int) (ht : t = 1 ∨ t = 3 ∨ t = 5) : 0 ≤ wr t v ∧ wr t v ≤ 4294967295 := by
  obtain ⟨m, h0, h1, hm⟩ := wr_mod t ht
  rw [hm]
  have := Int.emod_nonneg v (show m ≠ 0 by omega)
  have := Int.emod_lt_of_pos v h0
  omega
theorem tA_zero (t a : Int) (ha : wr t a = a) : tA t a 0 = a := by simp [tA, ha]
theorem tR_zero (t a : Int) (b : Nat) : tR t a b 0 = 0 := by simp [tR, Nat.mod_one, wr]
theorem tA_succ (t a : Int) (k : Nat) (ht : t = 1 ∨ t = 3 ∨ t = 5) : wr t (tA t a k + tA t a k) = tA t a (k + 1) := by
  obtain ⟨m, h0, h1, hm⟩ := wr_mod t ht
  unfold tA
  rw [hm, hm, hm, ← Int.add_emod, Int.pow_succ]
  congr 1
  rw [← Int.mul_assoc]
  omega
theorem mod_succ (b k : Nat) : b % 2 ^ (k + 1) = b % 2 ^ k + 2 ^ k * (b / 2 ^ k % 2) := Nat.mod_pow_succ
theorem tR_yes (t a : Int) (b k : Nat) (ht : t = 1 ∨ t = 3 ∨ t = 5) (h : b / 2 ^ k % 2 = 1) : wr t (tR t a b k + tA t a k) = tR t a b (k + 1) := by
  obtain ⟨m, h0, h1, hm⟩ := wr_mod t ht
  unfold tA tR
  rw [hm, hm, hm, hm, ← Int.add_emod, mod_succ, h]
  congr 1
  rw [Nat.mul_one, Int.natCast_add, Int.mul_add]
  simp
theorem tR_no (t a : Int) (b k : Nat) (h : b / 2 ^ k % 2 = 0) : tR t a b (k + 1) = tR t a b k := by
  unfold tR
  rw [mod_succ, h, Nat.mul_zero, Nat.add_zero]
theorem tR_all (t a : Int) (b : Nat) (hb : b < 4294967296) : tR t a b 32 = wr t (a * b) := by
  unfold tR
  rw [Nat.mod_eq_of_lt (by omega)]

theorem and1 (z : Int) : bits .and .i64 z 1 = z % 2 := by
  have d : bits .and .i64 z 1 = IntKind.i64.wrap (((BitVec.ofInt 64 z &&& BitVec.ofInt 64 1).toNat : Nat) : Int) := rfl
  have e : (BitVec.ofInt 64 1).toNat = 1 := by decide
  rw [d, BitVec.toNat_and, e, Nat.and_one_is_mod, BitVec.toNat_ofInt, IntKind.wrap_i64]
  omega

theorem mod_bit (n k : Nat) (hk : k < n) (a : Int) : (a % 2 ^ n) / 2 ^ k % 2 = a / 2 ^ k % 2 := by
  have hp : (2 : Int) ^ k ≠ 0 := Int.ne_of_gt (Int.pow_pos (by decide))
  have e : (2 : Int) ^ n = 2 ^ k * (2 * 2 ^ (n - k - 1)) := by
    rw [← Int.mul_assoc, ← Int.pow_succ, ← Int.pow_add]
    congr 1
    omega
  have h1 : a % 2 ^ n = a + 2 ^ k * (2 * (-(2 ^ (n - k - 1) * (a / 2 ^ n)))) := by
    rw [Int.emod_def]
    have : (2 : Int) ^ n * (a / 2 ^ n) = 2 ^ k * (2 * (2 ^ (n - k - 1) * (a / 2 ^ n))) := by
      conv => lhs; lhs; rw [e]
      simp only [Int.mul_assoc]
    rw [this]
    simp only [Int.mul_neg]
    omega
  rw [h1, Int.add_mul_ediv_left _ _ hp]
  omega

theorem ofInt_bit (n k : Nat) (hk : k < n) (a : Int) : (BitVec.ofInt n a).getLsbD k = decide (a / 2 ^ k % 2 = 1) := by
  rw [BitVec.getLsbD, Nat.testBit_eq_decide_div_mod_eq, BitVec.toNat_ofInt]
  have hm := mod_bit n k hk a
  have hp := Nat.two_pow_pos n
  have h0 : 0 ≤ a % ((2 ^ n : Nat) : Int) := Int.emod_nonneg _ (by omega)
  obtain ⟨x, hx⟩ := Int.eq_ofNat_of_zero_le h0
  rw [hx, Int.toNat_natCast]
  have hx' : a % 2 ^ n = (x : Int) := by
    rw [← hx]
    simp
  rw [hx'] at hm
  have hc : ((x : Int) / 2 ^ k % 2) = ((x / 2 ^ k % 2 : Nat) : Int) := by simp
  rw [← hm, hc]
  congr 1
  simp
  omega

/-- One bit of what comes of two. -/
def bit1 (op x y : Int) : Int := if op = 6 then x * y else if op = 7 then x + y - x * y else (x + y) % 2
def zN (t op x y : Int) : Nat := (bv (widN t) op x y).toNat

theorem bv_bit (n k : Nat) (hk : k < n) (op a b : Int) : (((bv n op a b).toNat / 2 ^ k % 2 : Nat) : Int) = bit1 op (a / 2 ^ k % 2) (b / 2 ^ k % 2) := by
  have h : (bv n op a b).getLsbD k = decide ((bv n op a b).toNat / 2 ^ k % 2 = 1) := by
    rw [BitVec.getLsbD, Nat.testBit_eq_decide_div_mod_eq]
  have ha := ofInt_bit n k hk a
  have hb := ofInt_bit n k hk b
  have ea : a / 2 ^ k % 2 = 0 ∨ a / 2 ^ k % 2 = 1 := by omega
  have eb : b / 2 ^ k % 2 = 0 ∨ b / 2 ^ k % 2 = 1 := by omega
  have hz : (bv n op a b).toNat / 2 ^ k % 2 = 0 ∨ (bv n op a b).toNat / 2 ^ k % 2 = 1 := by omega
  have hl : (bv n op a b).getLsbD k = (if op = 6 then (decide (a / 2 ^ k % 2 = 1) && decide (b / 2 ^ k % 2 = 1)) else if op = 7 then (decide (a / 2 ^ k % 2 = 1) || decide (b / 2 ^ k % 2 = 1)) else (decide (a / 2 ^ k % 2 = 1) ^^ decide (b / 2 ^ k % 2 = 1))) := by
    unfold bv
    split
    · rw [BitVec.getLsbD_and, ha, hb]
    · split
      · rw [BitVec.getLsbD_or, ha, hb]
      · rw [BitVec.getLsbD_xor, ha, hb]
  rw [h] at hl
  clear h ha hb
  generalize (bv n op a b).toNat / 2 ^ k % 2 = z at *
  generalize a / 2 ^ k % 2 = x at *
  generalize b / 2 ^ k % 2 = y at *
  unfold bit1
  rcases ea with rfl | rfl <;> rcases eb with rfl | rfl <;> rcases hz with rfl | rfl <;> (repeat' split) <;> simp_all

def zR (t op a b : Int) (k : Nat) : Int := ((zN t op a b % 2 ^ k : Nat) : Int)
theorem zR_zero (t op a b : Int) : zR t op a b 0 = 0 := by simp [zR, Nat.mod_one]
theorem zR_succ (t op a b : Int) (k : Nat) (hk : k < widN t) : zR t op a b (k + 1) = zR t op a b k + bit1 op (a / 2 ^ k % 2) (b / 2 ^ k % 2) * 2 ^ k := by
  unfold zR
  rw [mod_succ, Int.natCast_add, Int.natCast_mul, Int.mul_comm]
  unfold zN
  rw [bv_bit _ _ hk]
  simp
theorem zR_all (t op a b : Int) : zR t op a b (widN t) = (zN t op a b : Int) := by
  unfold zR zN
  rw [Nat.mod_eq_of_lt (BitVec.isLt _)]
theorem zR_bd (t op a b : Int) (k : Nat) (hk : k ≤ 32) : 0 ≤ zR t op a b k ∧ zR t op a b k ≤ 4294967295 := by
  unfold zR
  have h1 : zN t op a b % 2 ^ k < 2 ^ k := Nat.mod_lt _ (Nat.two_pow_pos k)
  have h2 : 2 ^ k ≤ 2 ^ 32 := Nat.pow_le_pow_right (by decide) hk
  omega

end Burin
