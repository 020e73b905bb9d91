/-
  The plain numbers of layer 1: what a type's width, ends and wrapping are, with no program in sight; no conditions but those that each fact bears.
-/
import Derived.Laws.Entries
namespace Burin

def wid (t : Int) : Int := if t = 0 then 8 else if t = 1 then 8 else if t = 2 then 16 else if t = 3 then 16 else if t = 4 then 32 else if t = 5 then 32 else 0
def sgn (t : Int) : Bool := t == 0 || t == 2 || t == 4
def low (t : Int) : Int := if t = 0 then -128 else if t = 1 then 0 else if t = 2 then -32768 else if t = 3 then 0 else if t = 4 then -2147483648 else if t = 5 then 0 else 1
def high (t : Int) : Int := if t = 0 then 127 else if t = 1 then 255 else if t = 2 then 32767 else if t = 3 then 65535 else if t = 4 then 2147483647 else if t = 5 then 4294967295 else 0
def fit (t v : Int) : Bool := decide (low t ≤ v) && decide (v ≤ high t)
def wr (t v : Int) : Int := if t = 0 then (v + 128) % 256 - 128 else if t = 1 then v % 256 else if t = 2 then (v + 32768) % 65536 - 32768 else if t = 3 then v % 65536 else if t = 4 then (v + 2147483648) % 4294967296 - 2147483648 else if t = 5 then v % 4294967296 else 0

theorem cases7 {t : Int} (h0 : 0 ≤ t) : t = 0 ∨ t = 1 ∨ t = 2 ∨ t = 3 ∨ t = 4 ∨ t = 5 ∨ 6 ≤ t := by omega
theorem wid_bd (t : Int) : 0 ≤ wid t ∧ wid t ≤ 32 := by unfold wid; (repeat' split) <;> omega
theorem wr_bd (t v : Int) : -2147483648 ≤ wr t v ∧ wr t v ≤ 4294967295 := by unfold wr; (repeat' split) <;> omega
theorem wr_fit (t v : Int) (h0 : 0 ≤ t) (h5 : t ≤ 5) : low t ≤ wr t v ∧ wr t v ≤ high t := by
  rcases cases7 h0 with h | h | h | h | h | h | h <;> first | omega | (subst h; simp [wr, low, high]; omega)
theorem wr_of_fit (t v : Int) (h : fit t v = true) : wr t v = v := by
  unfold fit at h
  simp at h
  obtain ⟨h1, h2⟩ := h
  unfold low at h1
  unfold high at h2
  unfold wr
  (repeat' split) <;> simp_all <;> omega
theorem fit_none (t v : Int) (h : 6 ≤ t) : fit t v = false := by
  unfold fit low high
  rw [if_neg (by omega), if_neg (by omega), if_neg (by omega), if_neg (by omega), if_neg (by omega), if_neg (by omega)]
  rw [if_neg (by omega), if_neg (by omega), if_neg (by omega), if_neg (by omega), if_neg (by omega), if_neg (by omega)]
  simp; omega
theorem wr_none (t v : Int) (h : 6 ≤ t) : wr t v = 0 := by
  unfold wr
  rw [if_neg (by omega), if_neg (by omega), if_neg (by omega), if_neg (by omega), if_neg (by omega), if_neg (by omega)]
theorem wid_none (t : Int) (h : 6 ≤ t) : wid t = 0 := by
  unfold wid
  rw [if_neg (by omega), if_neg (by omega), if_neg (by omega), if_neg (by omega), if_neg (by omega), if_neg (by omega)]
theorem low_none (t : Int) (h : 6 ≤ t) : low t = 1 := by
  unfold low
  rw [if_neg (by omega), if_neg (by omega), if_neg (by omega), if_neg (by omega), if_neg (by omega), if_neg (by omega)]
theorem high_none (t : Int) (h : 6 ≤ t) : high t = 0 := by
  unfold high
  rw [if_neg (by omega), if_neg (by omega), if_neg (by omega), if_neg (by omega), if_neg (by omega), if_neg (by omega)]
theorem sgn_none (t : Int) (h : 6 ≤ t) : sgn t = false := by
  unfold sgn
  simp
  omega
theorem wr_wr (t v : Int) : wr t (wr t v) = wr t v := by
  unfold wr
  (repeat' split) <;> omega

end Burin
