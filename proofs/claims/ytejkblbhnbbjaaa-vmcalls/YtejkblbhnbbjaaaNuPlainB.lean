/-
  The plain numbers of layer 1: what each operation makes of two numbers of a type, with no program in sight; no conditions but those that each fact bears.
-/
import Derived.Test.YtejkblbhnbbjaaaNuPlain
import Derived.RowKit
import Derived.Laws.BitsLemmas
namespace Burin
open Go

def keep1 (t v : Int) : Int := if sgn t && !fit t v then 0 else wr t v
def keep2 (t v : Int) : Int := if sgn t && !fit t v then 1 else 0
def tr (b : Bool) : Int := if b then 1 else 0
def cmpB (op a b : Int) : Bool := if op = 11 then decide (a < b) else if op = 12 then decide (a ≤ b) else if op = 13 then decide (b < a) else if op = 14 then decide (b ≤ a) else if op = 15 then a == b else a != b
def cmp1 (op a b : Int) : Int := if op < 11 ∨ 16 < op then 0 else tr (cmpB op a b)
def cmp2 (op : Int) : Int := if op < 11 ∨ 16 < op then 5 else 0
def div1 (op t a b : Int) : Int := if b = 0 then 0 else if fit t (a.tdiv b) = false then 0 else if op = 5 then a - b * a.tdiv b else a.tdiv b
def div2 (t a b : Int) : Int := if b = 0 then 2 else if fit t (a.tdiv b) = false then 1 else 0
def shl1 (t a c : Int) : Int := if c < 0 ∨ wid t ≤ c then 0 else keep1 t (a * 2 ^ c.toNat)
def shl2 (t a c : Int) : Int := if c < 0 ∨ wid t ≤ c then 3 else keep2 t (a * 2 ^ c.toNat)
def shr1 (t a c : Int) : Int := if c < 0 ∨ wid t ≤ c then 0 else a / 2 ^ c.toNat
def shr2 (t c : Int) : Int := if c < 0 ∨ wid t ≤ c then 3 else 0
def do1 (op t a b : Int) : Int :=
  if 6 ≤ t then 0 else if op = 1 then keep1 t (wr t a + wr t b) else if op = 2 then keep1 t (wr t a - wr t b) else if op = 3 then keep1 t (wr t a * wr t b)
  else if op = 4 then div1 4 t (wr t a) (wr t b) else if op = 5 then div1 5 t (wr t a) (wr t b)
  else if op = 6 then bits .and .i64 (wr t a) (wr t b) else if op = 7 then bits .or .i64 (wr t a) (wr t b) else if op = 8 then bits .xor .i64 (wr t a) (wr t b)
  else if op = 9 then shl1 t (wr t a) b else if op = 10 then shr1 t (wr t a) b else cmp1 op (wr t a) (wr t b)
def do2 (op t a b : Int) : Int :=
  if 6 ≤ t then 5 else if op = 1 then keep2 t (wr t a + wr t b) else if op = 2 then keep2 t (wr t a - wr t b) else if op = 3 then keep2 t (wr t a * wr t b)
  else if op = 4 then div2 t (wr t a) (wr t b) else if op = 5 then div2 t (wr t a) (wr t b)
  else if op = 6 then 0 else if op = 7 then 0 else if op = 8 then 0
  else if op = 9 then shl2 t (wr t a) b else if op = 10 then shr2 t b else cmp2 op

theorem keep2_bd (t v : Int) : 0 ≤ keep2 t v ∧ keep2 t v ≤ 5 := by unfold keep2; split <;> omega
theorem do2_bd (op t a b : Int) : 0 ≤ do2 op t a b ∧ do2 op t a b ≤ 5 := by
  unfold do2 div2 shl2 shr2 cmp2 keep2
  (repeat' split) <;> omega

theorem tdiv_bd (a b : Int) (ha : -4294967296 ≤ a) (hb : a ≤ 4294967296) : -4294967296 ≤ a.tdiv b ∧ a.tdiv b ≤ 4294967296 := by
  have h1 : (a.tdiv b).natAbs ≤ a.natAbs := by
    rw [Int.natAbs_tdiv]
    exact Nat.div_le_self _ _
  omega
theorem mtdiv_bd (a b : Int) (ha : -4294967296 ≤ a) (hb : a ≤ 4294967296) : -4294967296 ≤ b * a.tdiv b ∧ b * a.tdiv b ≤ 4294967296 := by
  have h1 : (b * a.tdiv b).natAbs ≤ a.natAbs := by
    rw [Int.natAbs_mul, Int.natAbs_tdiv]
    exact Nat.mul_div_le _ _
  omega

theorem wid_le (t : Int) : wid t ≤ 32 := (wid_bd t).2

theorem pow_bd (c : Int) (h0 : 0 ≤ c) (h : c < 32) : 1 ≤ (2 : Int) ^ c.toNat ∧ (2 : Int) ^ c.toNat ≤ 2147483648 := by
  obtain ⟨n, rfl⟩ := Int.eq_ofNat_of_zero_le h0
  rw [Int.toNat_natCast]
  have h1 : 0 < (2 : Nat) ^ n := Nat.two_pow_pos n
  have h2 : (2 : Nat) ^ n ≤ 2 ^ 31 := Nat.pow_le_pow_right (by decide) (by omega)
  have e : ((2 : Int) ^ n) = ((2 ^ n : Nat) : Int) := by simp
  rw [e]
  omega
theorem mul_pow_bd (a p : Int) (ha : -2147483648 ≤ a) (hb : a ≤ 4294967295) (h1 : 1 ≤ p) (h2 : p ≤ 2147483648) : -9223372036854775808 ≤ a * p ∧ a * p ≤ 9223372036854775807 := by
  have k1 : a * p ≤ 4294967295 * p := Int.mul_le_mul_of_nonneg_right hb (by omega)
  have k2 : -2147483648 * p ≤ a * p := Int.mul_le_mul_of_nonneg_right ha (by omega)
  omega
theorem wrap_in (n : Int) (h1 : -9223372036854775808 ≤ n) (h2 : n ≤ 9223372036854775807) : RowKit.wrap64 n = n := by
  unfold RowKit.wrap64
  omega
theorem wr_wrap64 (t n : Int) (h0 : 0 ≤ t) : wr t (RowKit.wrap64 n) = wr t n := by
  rcases cases7 h0 with rfl | rfl | rfl | rfl | rfl | rfl | h
  case inr.inr.inr.inr.inr.inr => rw [wr_none _ _ h, wr_none _ _ h]
  all_goals
    simp [wr, RowKit.wrap64]
    omega
theorem wr_sgn (t v : Int) (h0 : 0 ≤ t) (hs : sgn t = true) : -2147483648 ≤ wr t v ∧ wr t v ≤ 2147483647 := by
  rcases cases7 h0 with rfl | rfl | rfl | rfl | rfl | rfl | h
  case inr.inr.inr.inr.inr.inr => rw [sgn_none _ h] at hs; cases hs
  all_goals first | (simp [sgn] at hs; done) | (simp [wr]; omega)
theorem mul_bd (a b : Int) (ha : -2147483648 ≤ a) (ha' : a ≤ 2147483647) (hb : -2147483648 ≤ b) (hb' : b ≤ 2147483647) : -9223372036854775808 ≤ a * b ∧ a * b ≤ 9223372036854775807 := by
  have h : (a * b).natAbs ≤ 2147483648 * 2147483648 := by
    rw [Int.natAbs_mul]
    exact Nat.mul_le_mul (by omega) (by omega)
  omega
theorem keep1_mul (t a b : Int) (h0 : 0 ≤ t) : keep1 t (RowKit.wrap64 (wr t a * wr t b)) = keep1 t (wr t a * wr t b) := by
  cases hs : sgn t with
  | true =>
    have p := wr_sgn t a h0 hs
    have q := wr_sgn t b h0 hs
    have m := mul_bd _ _ p.1 p.2 q.1 q.2
    rw [wrap_in _ m.1 m.2]
  | false => simp [keep1, hs, wr_wrap64 _ _ h0]
theorem keep2_mul (t a b : Int) (h0 : 0 ≤ t) : keep2 t (RowKit.wrap64 (wr t a * wr t b)) = keep2 t (wr t a * wr t b) := by
  cases hs : sgn t with
  | true =>
    have p := wr_sgn t a h0 hs
    have q := wr_sgn t b h0 hs
    have m := mul_bd _ _ p.1 p.2 q.1 q.2
    rw [wrap_in _ m.1 m.2]
  | false => simp [keep2, hs]

end Burin
