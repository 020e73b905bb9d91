/-
 The plain numbers of layer 1: what a type's width, ends and wrapping are, with no program in sight; no conditions but those that each fact bears.
 The plain numbers of layer 1: what each operation makes of two numbers of a type, with no program in sight; no conditions but those that each fact bears.
 The plain numbers of layer 1: what and, or, exclusive or of 64 bits make of two numbers of a type; no conditions but that both are numbers of the type.
 The plain numbers of layer 1: what an operation makes is a number of its type, of a comparison 1 or 0, and with a trap 0; no conditions but that the type's number is not below 0.
 The plain numbers of layer 1: a product by adding, and operations on bits one by one, as the document's answer reckons them; no conditions but those that each fact bears.
-/
import Derived.Laws.Entries
import Derived.RowKit
import Derived.Laws.BitsLemmas
namespace Burin

def wid (t : Int) : Int := if t = 0 then 8 else if t = 1 then 8 else if t = 2 then 16 else if t = 3 then 16 else if t = 4 then 32 else if t = 5 then 32 else 0
def sgn (t : Int) : Bool := t == 0 || t == 2 || t == 4
def low (t : Int) : Int := if t = 0 then -128 else if t = 1 then 0 else if t = 2 then -32768 else if t = 3 then 0 else if t = 4 then -2147483648 else if t = 5 then 0 else 1
def high (t : Int) : Int := if t = 0 then 127 else if t = 1 then 255 else if t = 2 then 32767 else if t = 3 then 65535 else if t = 4 then 2147483647 else if t = 5 then 4294967295 else 0
def fit (t v : Int) : Bool := decide (low t ≤ v) && decide (v ≤ high t)
def wr (t v : Int) : Int := if t = 0 then (v + 128) % 256 - 128 else if t = 1 then v % 256 else if t = 2 then (v + 32768) % 65536 - 32768 else if t = 3 then v % 65536 else if t = 4 then (v + 2147483648) % 4294967296 - 2147483648 else if t = 5 then v % 4294967296 else 0

theorem cases7 {t : Int} (h0 : 0 ≤ t) : t = 0 ∨ t = 1 ∨ t = 2 ∨ t = 3 ∨ t = 4 ∨ t = 5 ∨ 6 ≤ t := by omega
theorem wid_bd (t : Int) : 0 ≤ wid t ∧ wid t ≤ 32 := by unfold wid; (repeat' split) <;> omega
theorem wr_bd (t v : Int) : -2147483648 ≤ wr t v ∧ wr t v ≤ 4294967295 := by unfold wr; (repeat' split) <;> omega
theorem wr_fit (t v : Int) (h0 : 0 ≤ t) (h5 : t ≤ 5) : low t ≤ wr t v ∧ wr t v ≤ high t := by
 rcases cases7 h0 with h | h | h | h | h | h | h <;> first | omega | (subst h; simp [wr, low, high]; omega)
theorem fit_none (t v : Int) (h : 6 ≤ t) : fit t v = false := by
 unfold fit low high
 rw [if_neg (by omega), if_neg (by omega), if_neg (by omega), if_neg (by omega), if_neg (by omega), if_neg (by omega)]
 rw [if_neg (by omega), if_neg (by omega), if_neg (by omega), if_neg (by omega), if_neg (by omega), if_neg (by omega)]
 simp; omega
theorem wr_none (t v : Int) (h : 6 ≤ t) : wr t v = 0 := by
 unfold wr
 rw [if_neg (by omega), if_neg (by omega), if_neg (by omega), if_neg (by omega), if_neg (by omega), if_neg (by omega)]
theorem wid_none (t : Int) (h : 6 ≤ t) : wid t = 0 := by
 unfold wid
 rw [if_neg (by omega), if_neg (by omega), if_neg (by omega), if_neg (by omega), if_neg (by omega), if_neg (by omega)]
theorem low_none (t : Int) (h : 6 ≤ t) : low t = 1 := by
 unfold low
 rw [if_neg (by omega), if_neg (by omega), if_neg (by omega), if_neg (by omega), if_neg (by omega), if_neg (by omega)]
theorem high_none (t : Int) (h : 6 ≤ t) : high t = 0 := by
 unfold high
 rw [if_neg (by omega), if_neg (by omega), if_neg (by omega), if_neg (by omega), if_neg (by omega), if_neg (by omega)]
theorem sgn_none (t : Int) (h : 6 ≤ t) : sgn t = false := by
 unfold sgn
 simp
 omega
theorem wr_wr (t v : Int) : wr t (wr t v) = wr t v := by
 unfold wr
 (repeat' split) <;> omega

end Burin

namespace Burin
open Go

def keep1 (t v : Int) : Int := if sgn t && !fit t v then 0 else wr t v
def keep2 (t v : Int) : Int := if sgn t && !fit t v then 1 else 0
def tr (b : Bool) : Int := if b then 1 else 0
def cmpB (op a b : Int) : Bool := if op = 11 then decide (a < b) else if op = 12 then decide (a ≤ b) else if op = 13 then decide (b < a) else if op = 14 then decide (b ≤ a) else if op = 15 then a == b else a != b
def cmp1 (op a b : Int) : Int := if op < 11 ∨ 16 < op then 0 else tr (cmpB op a b)
def cmp2 (op : Int) : Int := if op < 11 ∨ 16 < op then 5 else 0
def div1 (op t a b : Int) : Int := if b = 0 then 0 else if fit t (a.tdiv b) = false then 0 else if op = 5 then a - b * a.tdiv b else a.tdiv b
def div2 (t a b : Int) : Int := if b = 0 then 2 else if fit t (a.tdiv b) = false then 1 else 0
def shl1 (t a c : Int) : Int := if c < 0 ∨ wid t ≤ c then 0 else keep1 t (a * 2 ^ c.toNat)
def shl2 (t a c : Int) : Int := if c < 0 ∨ wid t ≤ c then 3 else keep2 t (a * 2 ^ c.toNat)
def shr1 (t a c : Int) : Int := if c < 0 ∨ wid t ≤ c then 0 else a / 2 ^ c.toNat
def shr2 (t c : Int) : Int := if c < 0 ∨ wid t ≤ c then 3 else 0
def do1 (op t a b : Int) : Int :=
 if 6 ≤ t then 0 else if op = 1 then keep1 t (wr t a + wr t b) else if op = 2 then keep1 t (wr t a - wr t b) else if op = 3 then keep1 t (wr t a * wr t b)
 else if op = 4 then div1 4 t (wr t a) (wr t b) else if op = 5 then div1 5 t (wr t a) (wr t b)
 else if op = 6 then bits .and .i64 (wr t a) (wr t b) else if op = 7 then bits .or .i64 (wr t a) (wr t b) else if op = 8 then bits .xor .i64 (wr t a) (wr t b)
 else if op = 9 then shl1 t (wr t a) b else if op = 10 then shr1 t (wr t a) b else cmp1 op (wr t a) (wr t b)
def do2 (op t a b : Int) : Int :=
 if 6 ≤ t then 5 else if op = 1 then keep2 t (wr t a + wr t b) else if op = 2 then keep2 t (wr t a - wr t b) else if op = 3 then keep2 t (wr t a * wr t b)
 else if op = 4 then div2 t (wr t a) (wr t b) else if op = 5 then div2 t (wr t a) (wr t b)
 else if op = 6 then 0 else if op = 7 then 0 else if op = 8 then 0
 else if op = 9 then shl2 t (wr t a) b else if op = 10 then shr2 t b else cmp2 op

theorem do2_bd (op t a b : Int) : 0 ≤ do2 op t a b ∧ do2 op t a b ≤ 5 := by
 unfold do2 div2 shl2 shr2 cmp2 keep2
 (repeat' split) <;> omega

theorem tdiv_bd (a b : Int) (ha : -4294967296 ≤ a) (hb : a ≤ 4294967296) : -4294967296 ≤ a.tdiv b ∧ a.tdiv b ≤ 4294967296 := by
 have h1 : (a.tdiv b).natAbs ≤ a.natAbs := by
  rw [Int.natAbs_tdiv]
  exact Nat.div_le_self _ _
 omega
theorem mtdiv_bd (a b : Int) (ha : -4294967296 ≤ a) (hb : a ≤ 4294967296) : -4294967296 ≤ b * a.tdiv b ∧ b * a.tdiv b ≤ 4294967296 := by
 have h1 : (b * a.tdiv b).natAbs ≤ a.natAbs := by
  rw [Int.natAbs_mul, Int.natAbs_tdiv]
  exact Nat.mul_div_le _ _
 omega

theorem wid_le (t : Int) : wid t ≤ 32 := (wid_bd t).2

theorem pow_bd (c : Int) (h0 : 0 ≤ c) (h : c < 32) : 1 ≤ (2 : Int) ^ c.toNat ∧ (2 : Int) ^ c.toNat ≤ 2147483648 := by
 obtain ⟨n, rfl⟩ := Int.eq_ofNat_of_zero_le h0
 rw [Int.toNat_natCast]
 have h1 : 0 < (2 : Nat) ^ n := Nat.two_pow_pos n
 have h2 : (2 : Nat) ^ n ≤ 2 ^ 31 := Nat.pow_le_pow_right (by decide) (by omega)
 have e : ((2 : Int) ^ n) = ((2 ^ n : Nat) : Int) := by simp
 rw [e]
 omega
theorem mul_pow_bd (a p : Int) (ha : -2147483648 ≤ a) (hb : a ≤ 4294967295) (h1 : 1 ≤ p) (h2 : p ≤ 2147483648) : -9223372036854775808 ≤ a * p ∧ a * p ≤ 9223372036854775807 := by
 have k1 : a * p ≤ 4294967295 * p := Int.mul_le_mul_of_nonneg_right hb (by omega)
 have k2 : -2147483648 * p ≤ a * p := Int.mul_le_mul_of_nonneg_right ha (by omega)
 omega
theorem wr_sgn (t v : Int) (h0 : 0 ≤ t) (hs : sgn t = true) : -2147483648 ≤ wr t v ∧ wr t v ≤ 2147483647 := by
 rcases cases7 h0 with rfl | rfl | rfl | rfl | rfl | rfl | h
 case inr.inr.inr.inr.inr.inr => rw [sgn_none _ h] at hs; cases hs
 all_goals first | (simp [sgn] at hs; done) | (simp [wr]; omega)
theorem mul_bd (a b : Int) (ha : -2147483648 ≤ a) (ha' : a ≤ 2147483647) (hb : -2147483648 ≤ b) (hb' : b ≤ 2147483647) : -9223372036854775808 ≤ a * b ∧ a * b ≤ 9223372036854775807 := by
 have h : (a * b).natAbs ≤ 2147483648 * 2147483648 := by
  rw [Int.natAbs_mul]
  exact Nat.mul_le_mul (by omega) (by omega)
 omega
end Burin

namespace Burin
open Go

/-- The bits of a type's own width: and (6), or (7), exclusive or (8). -/
def bv (n : Nat) (op : Int) (x y : Int) : BitVec n := if op = 6 then BitVec.ofInt n x &&& BitVec.ofInt n y else if op = 7 then BitVec.ofInt n x ||| BitVec.ofInt n y else BitVec.ofInt n x ^^^ BitVec.ofInt n y
def bop (op : Int) : BinOp := if op = 6 then .and else if op = 7 then .or else .xor

theorem wrap_toInt (R : BitVec 64) : IntKind.i64.wrap ((R.toNat : Nat) : Int) = R.toInt := by
 rw [IntKind.wrap_i64, BitVec.toInt_eq_toNat_cond]
 have := R.isLt
 split <;> omega

theorem bits_eq (op x y : Int) : bits (bop op) .i64 x y = (bv 64 op x y).toInt := by
 unfold bop bv
 split
 ·exact wrap_toInt _
 ·split
  ·exact wrap_toInt _
  ·exact wrap_toInt _

theorem bits_s (n : Nat) (hn : n ≤ 64) (op x y : Int) (hx : BitVec.ofInt 64 x = (BitVec.ofInt n x).signExtend 64) (hy : BitVec.ofInt 64 y = (BitVec.ofInt n y).signExtend 64) : bits (bop op) .i64 x y = (bv n op x y).toInt := by
 rw [bits_eq]
 unfold bv
 split
 ·rw [hx, hy, ← BitVec.signExtend_and, BitVec.toInt_signExtend_of_le hn]
 ·split
  ·rw [hx, hy, ← BitVec.signExtend_or, BitVec.toInt_signExtend_of_le hn]
  ·rw [hx, hy, ← BitVec.signExtend_xor, BitVec.toInt_signExtend_of_le hn]

theorem toInt_set (n : Nat) (hn : n ≤ 32) (Z : BitVec n) : (Z.setWidth 64).toInt = (Z.toNat : Int) := by
 rw [BitVec.toInt_eq_toNat_cond, BitVec.toNat_setWidth_of_le (by omega)]
 have h1 := Z.isLt
 have h2 : 2 ^ n ≤ 2 ^ 32 := Nat.pow_le_pow_right (by decide) hn
 rw [if_pos (by omega)]

theorem bits_u (n : Nat) (hn : n ≤ 32) (op x y : Int) (hx : BitVec.ofInt 64 x = (BitVec.ofInt n x).setWidth 64) (hy : BitVec.ofInt 64 y = (BitVec.ofInt n y).setWidth 64) : bits (bop op) .i64 x y = ((bv n op x y).toNat : Int) := by
 rw [bits_eq]
 unfold bv
 split
 ·rw [hx, hy, ← BitVec.setWidth_and, toInt_set n hn]
 ·split
  ·rw [hx, hy, ← BitVec.setWidth_or, toInt_set n hn]
  ·rw [hx, hy, ← BitVec.setWidth_xor, toInt_set n hn]

theorem sx8 (x : Int) (a : -128 ≤ x) (b : x ≤ 127) : BitVec.ofInt 64 x = (BitVec.ofInt 8 x).signExtend 64 := by
 apply BitVec.eq_of_toInt_eq
 rw [BitVec.toInt_signExtend_of_le (by decide), BitVec.toInt_ofInt, BitVec.toInt_ofInt]
 simp only [Int.bmod]
 split <;> split <;> omega
theorem sx16 (x : Int) (a : -32768 ≤ x) (b : x ≤ 32767) : BitVec.ofInt 64 x = (BitVec.ofInt 16 x).signExtend 64 := by
 apply BitVec.eq_of_toInt_eq
 rw [BitVec.toInt_signExtend_of_le (by decide), BitVec.toInt_ofInt, BitVec.toInt_ofInt]
 simp only [Int.bmod]
 split <;> split <;> omega
theorem sx32 (x : Int) (a : -2147483648 ≤ x) (b : x ≤ 2147483647) : BitVec.ofInt 64 x = (BitVec.ofInt 32 x).signExtend 64 := by
 apply BitVec.eq_of_toInt_eq
 rw [BitVec.toInt_signExtend_of_le (by decide), BitVec.toInt_ofInt, BitVec.toInt_ofInt]
 simp only [Int.bmod]
 split <;> split <;> omega
theorem zx (n : Nat) (hn : n ≤ 32) (x : Int) (a : 0 ≤ x) (b : x < ((2 ^ n : Nat) : Int)) : BitVec.ofInt 64 x = (BitVec.ofInt n x).setWidth 64 := by
 apply BitVec.eq_of_toNat_eq
 rw [BitVec.toNat_setWidth_of_le (by omega), BitVec.toNat_ofInt, BitVec.toNat_ofInt]
 have h2 : 2 ^ n ≤ 2 ^ 32 := Nat.pow_le_pow_right (by decide) hn
 rw [Int.emod_eq_of_lt a b, Int.emod_eq_of_lt a (by omega)]

def widN (t : Int) : Nat := (wid t).toNat

theorem bits_wr (t op x y : Int) (h0 : 0 ≤ t) (h5 : t ≤ 5) (x1 : low t ≤ x) (x2 : x ≤ high t) (y1 : low t ≤ y) (y2 : y ≤ high t) :
  bits (bop op) .i64 x y = wr t (((bv (widN t) op x y).toNat : Nat) : Int) := by
 rcases cases7 h0 with rfl | rfl | rfl | rfl | rfl | rfl | h
 case inr.inr.inr.inr.inr.inr => omega
 all_goals simp [low, high] at x1 x2 y1 y2
 ·rw [bits_s 8 (by decide) op x y (sx8 x x1 x2) (sx8 y y1 y2)]
  show _ = wr 0 (((bv 8 op x y).toNat : Nat) : Int)
  rw [BitVec.toInt_eq_toNat_cond]
  have := (bv 8 op x y).isLt
  simp only [wr]
  split <;> simp <;> omega
 ·rw [bits_u 8 (by decide) op x y (zx 8 (by decide) x x1 (by omega)) (zx 8 (by decide) y y1 (by omega))]
  show _ = wr 1 (((bv 8 op x y).toNat : Nat) : Int)
  have := (bv 8 op x y).isLt
  simp [wr]
  omega
 ·rw [bits_s 16 (by decide) op x y (sx16 x x1 x2) (sx16 y y1 y2)]
  show _ = wr 2 (((bv 16 op x y).toNat : Nat) : Int)
  rw [BitVec.toInt_eq_toNat_cond]
  have := (bv 16 op x y).isLt
  simp only [wr]
  split <;> simp <;> omega
 ·rw [bits_u 16 (by decide) op x y (zx 16 (by decide) x x1 (by omega)) (zx 16 (by decide) y y1 (by omega))]
  show _ = wr 3 (((bv 16 op x y).toNat : Nat) : Int)
  have := (bv 16 op x y).isLt
  simp [wr]
  omega
 ·rw [bits_s 32 (by decide) op x y (sx32 x x1 x2) (sx32 y y1 y2)]
  show _ = wr 4 (((bv 32 op x y).toNat : Nat) : Int)
  rw [BitVec.toInt_eq_toNat_cond]
  have := (bv 32 op x y).isLt
  simp only [wr]
  split <;> simp <;> omega
 ·rw [bits_u 32 (by decide) op x y (zx 32 (by decide) x x1 (by omega)) (zx 32 (by decide) y y1 (by omega))]
  show _ = wr 5 (((bv 32 op x y).toNat : Nat) : Int)
  have := (bv 32 op x y).isLt
  simp [wr]
  omega

end Burin

namespace Burin
open Go

theorem ops (op : Int) : op = 1 ∨ op = 2 ∨ op = 3 ∨ op = 4 ∨ op = 5 ∨ op = 6 ∨ op = 7 ∨ op = 8 ∨ op = 9 ∨ op = 10 ∨ (op < 1 ∨ 10 < op) := by omega

theorem do1_rest (op t a b : Int) (h5 : t ≤ 5) (ho : op < 1 ∨ 10 < op) : do1 op t a b = cmp1 op (wr t a) (wr t b) := by
 have n6 : ¬ 6 ≤ t := by omega
 have n1 : ¬ op = 1 := by omega
 have n2 : ¬ op = 2 := by omega
 have n3 : ¬ op = 3 := by omega
 have n4 : ¬ op = 4 := by omega
 have n5 : ¬ op = 5 := by omega
 have m6 : ¬ op = 6 := by omega
 have n7 : ¬ op = 7 := by omega
 have n8 : ¬ op = 8 := by omega
 have n9 : ¬ op = 9 := by omega
 have n10 : ¬ op = 10 := by omega
 simp [do1, n6, n1, n2, n3, n4, n5, m6, n7, n8, n9, n10]
theorem do2_rest (op t a b : Int) (h5 : t ≤ 5) (ho : op < 1 ∨ 10 < op) : do2 op t a b = cmp2 op := by
 have n6 : ¬ 6 ≤ t := by omega
 have n1 : ¬ op = 1 := by omega
 have n2 : ¬ op = 2 := by omega
 have n3 : ¬ op = 3 := by omega
 have n4 : ¬ op = 4 := by omega
 have n5 : ¬ op = 5 := by omega
 have m6 : ¬ op = 6 := by omega
 have n7 : ¬ op = 7 := by omega
 have n8 : ¬ op = 8 := by omega
 have n9 : ¬ op = 9 := by omega
 have n10 : ¬ op = 10 := by omega
 simp [do2, n6, n1, n2, n3, n4, n5, m6, n7, n8, n9, n10]

end Burin

namespace Burin
open Go

def tA (t a : Int) (k : Nat) : Int := wr t (a * 2 ^ k)
def tR (t a : Int) (b : Nat) (k : Nat) : Int := wr t (a * ((b % 2 ^ k : Nat) : Int))

theorem wr_mod (t : Int) (ht : t = 1 ∨ t = 3 ∨ t = 5) : ∃ m : Int, 0 < m ∧ m ≤ 4294967296 ∧ ∀ v, wr t v = v % m := by
 rcases ht with rfl | rfl | rfl
 ·exact ⟨256, by decide, by decide, fun v => by simp [wr]⟩
 ·exact ⟨65536, by decide, by decide, fun v => by simp [wr]⟩
 ·exact ⟨4294967296, by decide, by decide, fun v => by simp [wr]⟩
theorem wr_u_bd (t v : Int) (ht : t = 1 ∨ t = 3 ∨ t = 5) : 0 ≤ wr t v ∧ wr t v ≤ 4294967295 := by
 obtain ⟨m, h0, h1, hm⟩ := wr_mod t ht
 rw [hm]
 have := Int.emod_nonneg v (show m ≠ 0 by omega)
 have := Int.emod_lt_of_pos v h0
 omega
theorem tA_zero (t a : Int) (ha : wr t a = a) : tA t a 0 = a := by simp [tA, ha]
theorem tR_zero (t a : Int) (b : Nat) : tR t a b 0 = 0 := by simp [tR, Nat.mod_one, wr]
theorem tA_succ (t a : Int) (k : Nat) (ht : t = 1 ∨ t = 3 ∨ t = 5) : wr t (tA t a k + tA t a k) = tA t a (k + 1) := by
 obtain ⟨m, h0, h1, hm⟩ := wr_mod t ht
 unfold tA
 rw [hm, hm, hm, ← Int.add_emod, Int.pow_succ]
 congr 1
 rw [← Int.mul_assoc]
 omega
theorem mod_succ (b k : Nat) : b % 2 ^ (k + 1) = b % 2 ^ k + 2 ^ k * (b / 2 ^ k % 2) := Nat.mod_pow_succ
theorem tR_yes (t a : Int) (b k : Nat) (ht : t = 1 ∨ t = 3 ∨ t = 5) (h : b / 2 ^ k % 2 = 1) : wr t (tR t a b k + tA t a k) = tR t a b (k + 1) := by
 obtain ⟨m, h0, h1, hm⟩ := wr_mod t ht
 unfold tA tR
 rw [hm, hm, hm, hm, ← Int.add_emod, mod_succ, h]
 congr 1
 rw [Nat.mul_one, Int.natCast_add, Int.mul_add]
 simp
theorem tR_no (t a : Int) (b k : Nat) (h : b / 2 ^ k % 2 = 0) : tR t a b (k + 1) = tR t a b k := by
 unfold tR
 rw [mod_succ, h, Nat.mul_zero, Nat.add_zero]
theorem tR_all (t a : Int) (b : Nat) (hb : b < 4294967296) : tR t a b 32 = wr t (a * b) := by
 unfold tR
 rw [Nat.mod_eq_of_lt (by omega)]

theorem and1 (z : Int) : bits .and .i64 z 1 = z % 2 := by
 have d : bits .and .i64 z 1 = IntKind.i64.wrap (((BitVec.ofInt 64 z &&& BitVec.ofInt 64 1).toNat : Nat) : Int) := rfl
 have e : (BitVec.ofInt 64 1).toNat = 1 := by decide
 rw [d, BitVec.toNat_and, e, Nat.and_one_is_mod, BitVec.toNat_ofInt, IntKind.wrap_i64]
 omega

theorem mod_bit (n k : Nat) (hk : k < n) (a : Int) : (a % 2 ^ n) / 2 ^ k % 2 = a / 2 ^ k % 2 := by
 have hp : (2 : Int) ^ k ≠ 0 := Int.ne_of_gt (Int.pow_pos (by decide))
 have e : (2 : Int) ^ n = 2 ^ k * (2 * 2 ^ (n - k - 1)) := by
  rw [← Int.mul_assoc, ← Int.pow_succ, ← Int.pow_add]
  congr 1
  omega
 have h1 : a % 2 ^ n = a + 2 ^ k * (2 * (-(2 ^ (n - k - 1) * (a / 2 ^ n)))) := by
  rw [Int.emod_def]
  have : (2 : Int) ^ n * (a / 2 ^ n) = 2 ^ k * (2 * (2 ^ (n - k - 1) * (a / 2 ^ n))) := by
   conv => lhs; lhs; rw [e]
   simp only [Int.mul_assoc]
  rw [this]
  simp only [Int.mul_neg]
  omega
 rw [h1, Int.add_mul_ediv_left _ _ hp]
 omega

theorem ofInt_bit (n k : Nat) (hk : k < n) (a : Int) : (BitVec.ofInt n a).getLsbD k = decide (a / 2 ^ k % 2 = 1) := by
 rw [BitVec.getLsbD, Nat.testBit_eq_decide_div_mod_eq, BitVec.toNat_ofInt]
 have hm := mod_bit n k hk a
 have hp := Nat.two_pow_pos n
 have h0 : 0 ≤ a % ((2 ^ n : Nat) : Int) := Int.emod_nonneg _ (by omega)
 obtain ⟨x, hx⟩ := Int.eq_ofNat_of_zero_le h0
 rw [hx, Int.toNat_natCast]
 have hx' : a % 2 ^ n = (x : Int) := by
  rw [← hx]
  simp
 rw [hx'] at hm
 have hc : ((x : Int) / 2 ^ k % 2) = ((x / 2 ^ k % 2 : Nat) : Int) := by simp
 rw [← hm, hc]
 congr 1
 simp
 omega

/-- One bit of what comes of two. -/
def bit1 (op x y : Int) : Int := if op = 6 then x * y else if op = 7 then x + y - x * y else (x + y) % 2
def zN (t op x y : Int) : Nat := (bv (widN t) op x y).toNat

theorem bv_bit (n k : Nat) (hk : k < n) (op a b : Int) : (((bv n op a b).toNat / 2 ^ k % 2 : Nat) : Int) = bit1 op (a / 2 ^ k % 2) (b / 2 ^ k % 2) := by
 have h : (bv n op a b).getLsbD k = decide ((bv n op a b).toNat / 2 ^ k % 2 = 1) := by
  rw [BitVec.getLsbD, Nat.testBit_eq_decide_div_mod_eq]
 have ha := ofInt_bit n k hk a
 have hb := ofInt_bit n k hk b
 have ea : a / 2 ^ k % 2 = 0 ∨ a / 2 ^ k % 2 = 1 := by omega
 have eb : b / 2 ^ k % 2 = 0 ∨ b / 2 ^ k % 2 = 1 := by omega
 have hz : (bv n op a b).toNat / 2 ^ k % 2 = 0 ∨ (bv n op a b).toNat / 2 ^ k % 2 = 1 := by omega
 have hl : (bv n op a b).getLsbD k = (if op = 6 then (decide (a / 2 ^ k % 2 = 1) && decide (b / 2 ^ k % 2 = 1)) else if op = 7 then (decide (a / 2 ^ k % 2 = 1) || decide (b / 2 ^ k % 2 = 1)) else (decide (a / 2 ^ k % 2 = 1) ^^ decide (b / 2 ^ k % 2 = 1))) := by
  unfold bv
  split
  ·rw [BitVec.getLsbD_and, ha, hb]
  ·split
   ·rw [BitVec.getLsbD_or, ha, hb]
   ·rw [BitVec.getLsbD_xor, ha, hb]
 rw [h] at hl
 clear h ha hb
 generalize (bv n op a b).toNat / 2 ^ k % 2 = z at *
 generalize a / 2 ^ k % 2 = x at *
 generalize b / 2 ^ k % 2 = y at *
 unfold bit1
 rcases ea with rfl | rfl <;> rcases eb with rfl | rfl <;> rcases hz with rfl | rfl <;> (repeat' split) <;> simp_all

def zR (t op a b : Int) (k : Nat) : Int := ((zN t op a b % 2 ^ k : Nat) : Int)
theorem zR_zero (t op a b : Int) : zR t op a b 0 = 0 := by simp [zR, Nat.mod_one]
theorem zR_succ (t op a b : Int) (k : Nat) (hk : k < widN t) : zR t op a b (k + 1) = zR t op a b k + bit1 op (a / 2 ^ k % 2) (b / 2 ^ k % 2) * 2 ^ k := by
 unfold zR
 rw [mod_succ, Int.natCast_add, Int.natCast_mul, Int.mul_comm]
 unfold zN
 rw [bv_bit _ _ hk]
 simp
theorem zR_all (t op a b : Int) : zR t op a b (widN t) = (zN t op a b : Int) := by
 unfold zR zN
 rw [Nat.mod_eq_of_lt (BitVec.isLt _)]
theorem zR_bd (t op a b : Int) (k : Nat) (hk : k ≤ 32) : 0 ≤ zR t op a b k ∧ zR t op a b k ≤ 4294967295 := by
 unfold zR
 have h1 : zN t op a b % 2 ^ k < 2 ^ k := Nat.mod_lt _ (Nat.two_pow_pos k)
 have h2 : 2 ^ k ≤ 2 ^ 32 := Nat.pow_le_pow_right (by decide) hk
 omega

end Burin
