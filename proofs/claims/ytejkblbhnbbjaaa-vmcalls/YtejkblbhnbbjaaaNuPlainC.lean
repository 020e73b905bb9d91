/-
  The plain numbers of layer 1: what and, or, exclusive or of 64 bits make of two numbers of a type; no conditions but that both are numbers of the type.
-/
import Derived.Test.YtejkblbhnbbjaaaNuPlainB
namespace Burin
open Go

/-- The bits of a type's own width: and (6), or (7), exclusive or (8). -/
def bv (n : Nat) (op : Int) (x y : Int) : BitVec n := if op = 6 then BitVec.ofInt n x &&& BitVec.ofInt n y else if op = 7 then BitVec.ofInt n x ||| BitVec.ofInt n y else BitVec.ofInt n x ^^^ BitVec.ofInt n y
def bop (op : Int) : BinOp := if op = 6 then .and else if op = 7 then .or else .xor

theorem wrap_toInt (R : BitVec 64) : IntKind.i64.wrap ((R.toNat : Nat) : Int) = R.toInt := by
  rw [IntKind.wrap_i64, BitVec.toInt_eq_toNat_cond]
  have := R.isLt
  split <;> omega

theorem bits_eq (op x y : Int) : bits (bop op) .i64 x y = (bv 64 op x y).toInt := by
  unfold bop bv
  split
  · exact wrap_toInt _
  · split
    · exact wrap_toInt _
    · exact wrap_toInt _

theorem bits_s (n : Nat) (hn : n ≤ 64) (op x y : Int) (hx : BitVec.ofInt 64 x = (BitVec.ofInt n x).signExtend 64) (hy : BitVec.ofInt 64 y = (BitVec.ofInt n y).signExtend 64) : bits (bop op) .i64 x y = (bv n op x y).toInt := by
  rw [bits_eq]
  unfold bv
  split
  · rw [hx, hy, ← BitVec.signExtend_and, BitVec.toInt_signExtend_of_le hn]
  · split
    · rw [hx, hy, ← BitVec.signExtend_or, BitVec.toInt_signExtend_of_le hn]
    · rw [hx, hy, ← BitVec.signExtend_xor, BitVec.toInt_signExtend_of_le hn]

theorem toInt_set (n : Nat) (hn : n ≤ 32) (Z : BitVec n) : (Z.setWidth 64).toInt = (Z.toNat : Int) := by
  rw [BitVec.toInt_eq_toNat_cond, BitVec.toNat_setWidth_of_le (by omega)]
  have h1 := Z.isLt
  have h2 : 2 ^ n ≤ 2 ^ 32 := Nat.pow_le_pow_right (by decide) hn
  rw [if_pos (by omega)]

theorem bits_u (n : Nat) (hn : n ≤ 32) (op x y : Int) (hx : BitVec.ofInt 64 x = (BitVec.ofInt n x).setWidth 64) (hy : BitVec.ofInt 64 y = (BitVec.ofInt n y).setWidth 64) : bits (bop op) .i64 x y = ((bv n op x y).toNat : Int) := by
  rw [bits_eq]
  unfold bv
  split
  · rw [hx, hy, ← BitVec.setWidth_and, toInt_set n hn]
  · split
    · rw [hx, hy, ← BitVec.setWidth_or, toInt_set n hn]
    · rw [hx, hy, ← BitVec.setWidth_xor, toInt_set n hn]

theorem sx8 (x : Int) (a : -128 ≤ x) (b : x ≤ 127) : BitVec.ofInt 64 x = (BitVec.ofInt 8 x).signExtend 64 := by
  apply BitVec.eq_of_toInt_eq
  rw [BitVec.toInt_signExtend_of_le (by decide), BitVec.toInt_ofInt, BitVec.toInt_ofInt]
  simp only [Int.bmod]
  split <;> split <;> omega
theorem sx16 (x : Int) (a : -32768 ≤ x) (b : x ≤ 32767) : BitVec.ofInt 64 x = (BitVec.ofInt 16 x).signExtend 64 := by
  apply BitVec.eq_of_toInt_eq
  rw [BitVec.toInt_signExtend_of_le (by decide), BitVec.toInt_ofInt, BitVec.toInt_ofInt]
  simp only [Int.bmod]
  split <;> split <;> omega
theorem sx32 (x : Int) (a : -2147483648 ≤ x) (b : x ≤ 2147483647) : BitVec.ofInt 64 x = (BitVec.ofInt 32 x).signExtend 64 := by
  apply BitVec.eq_of_toInt_eq
  rw [BitVec.toInt_signExtend_of_le (by decide), BitVec.toInt_ofInt, BitVec.toInt_ofInt]
  simp only [Int.bmod]
  split <;> split <;> omega
theorem zx (n : Nat) (hn : n ≤ 32) (x : Int) (a : 0 ≤ x) (b : x < ((2 ^ n : Nat) : Int)) : BitVec.ofInt 64 x = (BitVec.ofInt n x).setWidth 64 := by
  apply BitVec.eq_of_toNat_eq
  rw [BitVec.toNat_setWidth_of_le (by omega), BitVec.toNat_ofInt, BitVec.toNat_ofInt]
  have h2 : 2 ^ n ≤ 2 ^ 32 := Nat.pow_le_pow_right (by decide) hn
  rw [Int.emod_eq_of_lt a b, Int.emod_eq_of_lt a (by omega)]

def widN (t : Int) : Nat := (wid t).toNat

theorem bits_wr (t op x y : Int) (h0 : 0 ≤ t) (h5 : t ≤ 5) (x1 : low t ≤ x) (x2 : x ≤ high t) (y1 : low t ≤ y) (y2 : y ≤ high t) :
    bits (bop op) .i64 x y = wr t (((bv (widN t) op x y).toNat : Nat) : Int) := by
  rcases cases7 h0 with rfl | rfl | rfl | rfl | rfl | rfl | h
  case inr.inr.inr.inr.inr.inr => omega
  all_goals simp [low, high] at x1 x2 y1 y2
  · rw [bits_s 8 (by decide) op x y (sx8 x x1 x2) (sx8 y y1 y2)]
    show _ = wr 0 (((bv 8 op x y).toNat : Nat) : Int)
    rw [BitVec.toInt_eq_toNat_cond]
    have := (bv 8 op x y).isLt
    simp only [wr]
    split <;> simp <;> omega
  · rw [bits_u 8 (by decide) op x y (zx 8 (by decide) x x1 (by omega)) (zx 8 (by decide) y y1 (by omega))]
    show _ = wr 1 (((bv 8 op x y).toNat : Nat) : Int)
    have := (bv 8 op x y).isLt
    simp [wr]
    omega
  · rw [bits_s 16 (by decide) op x y (sx16 x x1 x2) (sx16 y y1 y2)]
    show _ = wr 2 (((bv 16 op x y).toNat : Nat) : Int)
    rw [BitVec.toInt_eq_toNat_cond]
    have := (bv 16 op x y).isLt
    simp only [wr]
    split <;> simp <;> omega
  · rw [bits_u 16 (by decide) op x y (zx 16 (by decide) x x1 (by omega)) (zx 16 (by decide) y y1 (by omega))]
    show _ = wr 3 (((bv 16 op x y).toNat : Nat) : Int)
    have := (bv 16 op x y).isLt
    simp [wr]
    omega
  · rw [bits_s 32 (by decide) op x y (sx32 x x1 x2) (sx32 y y1 y2)]
    show _ = wr 4 (((bv 32 op x y).toNat : Nat) : Int)
    rw [BitVec.toInt_eq_toNat_cond]
    have := (bv 32 op x y).isLt
    simp only [wr]
    split <;> simp <;> omega
  · rw [bits_u 32 (by decide) op x y (zx 32 (by decide) x x1 (by omega)) (zx 32 (by decide) y y1 (by omega))]
    show _ = wr 5 (((bv 32 op x y).toNat : Nat) : Int)
    have := (bv 32 op x y).isLt
    simp [wr]
    omega

theorem bits_fit (t op x y : Int) (h0 : 0 ≤ t) (h5 : t ≤ 5) (x1 : low t ≤ x) (x2 : x ≤ high t) (y1 : low t ≤ y) (y2 : y ≤ high t) :
    low t ≤ bits (bop op) .i64 x y ∧ bits (bop op) .i64 x y ≤ high t := by
  rw [bits_wr t op x y h0 h5 x1 x2 y1 y2]
  exact wr_fit t _ h0 h5

end Burin
