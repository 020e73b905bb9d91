/-
  The plain numbers of layer 1: what an operation makes is a number of its type, of a comparison 1 or 0, and with a trap 0; no conditions but that the type's number is not below 0.
-/
import Derived.Test.YtejkblbhnbbjaaaNuPlainC
namespace Burin
open Go

theorem low_high0 (t : Int) (h0 : 0 ≤ t) (h5 : t ≤ 5) : low t ≤ 0 ∧ 0 ≤ high t := by
  rcases cases7 h0 with rfl | rfl | rfl | rfl | rfl | rfl | h
  case inr.inr.inr.inr.inr.inr => omega
  all_goals simp [low, high]

theorem ops (op : Int) : op = 1 ∨ op = 2 ∨ op = 3 ∨ op = 4 ∨ op = 5 ∨ op = 6 ∨ op = 7 ∨ op = 8 ∨ op = 9 ∨ op = 10 ∨ (op < 1 ∨ 10 < op) := by omega

theorem do1_rest (op t a b : Int) (h5 : t ≤ 5) (ho : op < 1 ∨ 10 < op) : do1 op t a b = cmp1 op (wr t a) (wr t b) := by
  have n6 : ¬ 6 ≤ t := by omega
  have n1 : ¬ op = 1 := by omega
  have n2 : ¬ op = 2 := by omega
  have n3 : ¬ op = 3 := by omega
  have n4 : ¬ op = 4 := by omega
  have n5 : ¬ op = 5 := by omega
  have m6 : ¬ op = 6 := by omega
  have n7 : ¬ op = 7 := by omega
  have n8 : ¬ op = 8 := by omega
  have n9 : ¬ op = 9 := by omega
  have n10 : ¬ op = 10 := by omega
  simp [do1, n6, n1, n2, n3, n4, n5, m6, n7, n8, n9, n10]
theorem do2_rest (op t a b : Int) (h5 : t ≤ 5) (ho : op < 1 ∨ 10 < op) : do2 op t a b = cmp2 op := by
  have n6 : ¬ 6 ≤ t := by omega
  have n1 : ¬ op = 1 := by omega
  have n2 : ¬ op = 2 := by omega
  have n3 : ¬ op = 3 := by omega
  have n4 : ¬ op = 4 := by omega
  have n5 : ¬ op = 5 := by omega
  have m6 : ¬ op = 6 := by omega
  have n7 : ¬ op = 7 := by omega
  have n8 : ¬ op = 8 := by omega
  have n9 : ¬ op = 9 := by omega
  have n10 : ¬ op = 10 := by omega
  simp [do2, n6, n1, n2, n3, n4, n5, m6, n7, n8, n9, n10]

theorem keep_trap (t v : Int) (h : keep2 t v ≠ 0) : keep1 t v = 0 := by
  unfold keep2 at h
  unfold keep1
  split at h
  · rename_i c
    rw [if_pos c]
  · exact absurd rfl h
theorem keep_fit (t v : Int) (h0 : 0 ≤ t) (h5 : t ≤ 5) : low t ≤ keep1 t v ∧ keep1 t v ≤ high t := by
  unfold keep1
  split
  · exact low_high0 t h0 h5
  · exact wr_fit t v h0 h5

theorem do_trap (op t a b : Int) (h : do2 op t a b ≠ 0) : do1 op t a b = 0 := by
  by_cases h6 : 6 ≤ t
  · simp [do1, h6]
  · rcases ops op with rfl | rfl | rfl | rfl | rfl | rfl | rfl | rfl | rfl | rfl | ho
    · simp [do1, do2, h6] at *; exact keep_trap _ _ h
    · simp [do1, do2, h6] at *; exact keep_trap _ _ h
    · simp [do1, do2, h6] at *; exact keep_trap _ _ h
    · simp [do1, do2, h6] at *
      unfold div2 at h
      unfold div1
      split
      · rfl
      · split
        · rfl
        · simp_all
    · simp [do1, do2, h6] at *
      unfold div2 at h
      unfold div1
      split
      · rfl
      · split
        · rfl
        · simp_all
    · simp [do2, h6] at h
    · simp [do2, h6] at h
    · simp [do2, h6] at h
    · simp [do1, do2, h6] at *
      unfold shl2 at h
      unfold shl1
      split
      · rfl
      · rename_i c
        rw [if_neg c] at h
        exact keep_trap _ _ h
    · simp [do1, do2, h6] at *
      unfold shr2 at h
      unfold shr1
      split
      · rfl
      · rename_i c
        rw [if_neg c] at h
        exact absurd rfl h
    · rw [do2_rest _ _ _ _ (by omega) ho] at h
      rw [do1_rest _ _ _ _ (by omega) ho]
      unfold cmp2 at h
      unfold cmp1
      split
      · rfl
      · rename_i c
        rw [if_neg c] at h
        exact absurd rfl h

theorem tr_01 (b : Bool) : tr b = 0 ∨ tr b = 1 := by cases b <;> simp [tr]
theorem do_cmp (op t a b : Int) (ho : 11 ≤ op) : do1 op t a b = 0 ∨ do1 op t a b = 1 := by
  by_cases h6 : 6 ≤ t
  · left; simp [do1, h6]
  · rw [do1_rest _ _ _ _ (by omega) (by omega)]
    unfold cmp1
    split
    · exact .inl rfl
    · exact tr_01 _

theorem rem_fit (x y l h : Int) (hl : l ≤ 0) (hh : 0 ≤ h) (x1 : l ≤ x) (x2 : x ≤ h) : l ≤ x - y * x.tdiv y ∧ x - y * x.tdiv y ≤ h := by
  rw [← Int.tmod_def]
  have b : (x.tmod y).natAbs ≤ x.natAbs := by
    rw [Int.natAbs_tmod]
    exact Nat.mod_le _ _
  by_cases hx : 0 ≤ x
  · have := Int.tmod_nonneg y hx
    omega
  · have := Int.tmod_nonneg y (show 0 ≤ -x by omega)
    rw [Int.neg_tmod] at this
    omega
theorem shr_fit (x p l h : Int) (hp : 1 ≤ p) (hl : l ≤ 0) (hh : 0 ≤ h) (x1 : l ≤ x) (x2 : x ≤ h) : l ≤ x / p ∧ x / p ≤ h := by
  by_cases hx : 0 ≤ x
  · have h1 := Int.ediv_nonneg hx (show 0 ≤ p by omega)
    have h2 := Int.ediv_le_self p hx
    omega
  · have h1 : x ≤ x / p := by
      apply Int.le_ediv_of_mul_le (by omega)
      have : x * p ≤ x * 1 := Int.mul_le_mul_of_nonpos_left (by omega) hp
      omega
    have h2 : x / p < 0 := Int.ediv_neg_of_neg_of_pos (by omega) (by omega)
    omega

theorem fit_mk (t v : Int) (h : low t ≤ v ∧ v ≤ high t) : fit t v = true := by
  unfold fit
  simp [h.1, h.2]
theorem fit_op (t v : Int) (h : fit t v = true) : low t ≤ v ∧ v ≤ high t := by
  unfold fit at h
  simpa using h

theorem do_fit (op t a b : Int) (h0 : 0 ≤ t) (h : do2 op t a b = 0) (ho : op < 11) : fit t (do1 op t a b) = true := by
  by_cases h6 : 6 ≤ t
  · simp [do2, h6] at h
  · have h5 : t ≤ 5 := by omega
    have z := low_high0 t h0 h5
    have fa := wr_fit t a h0 h5
    have fb := wr_fit t b h0 h5
    apply fit_mk
    rcases ops op with rfl | rfl | rfl | rfl | rfl | rfl | rfl | rfl | rfl | rfl | ho'
    · simp [do1, h6]; exact keep_fit _ _ h0 h5
    · simp [do1, h6]; exact keep_fit _ _ h0 h5
    · simp [do1, h6]; exact keep_fit _ _ h0 h5
    · simp only [do1, h6, if_false, if_true]
      simp
      unfold div1
      split
      · exact z
      · split
        · exact z
        · rename_i c
          simp
          exact fit_op _ _ (by simpa using c)
    · simp only [do1, h6, if_false, if_true]
      simp
      unfold div1
      split
      · exact z
      · split
        · exact z
        · simp
          exact rem_fit _ _ _ _ z.1 z.2 fa.1 fa.2
    · simp [do1, h6]; exact bits_fit t 6 _ _ h0 h5 fa.1 fa.2 fb.1 fb.2
    · simp [do1, h6]; exact bits_fit t 7 _ _ h0 h5 fa.1 fa.2 fb.1 fb.2
    · simp [do1, h6]; exact bits_fit t 8 _ _ h0 h5 fa.1 fa.2 fb.1 fb.2
    · simp [do1, h6]
      unfold shl1
      split
      · exact z
      · exact keep_fit _ _ h0 h5
    · simp [do1, h6]
      unfold shr1
      split
      · exact z
      · rename_i c
        have hw := wid_le t
        have pb := pow_bd b (by omega) (by omega)
        exact shr_fit _ _ _ _ pb.1 z.1 z.2 fa.1 fa.2
    · rw [do2_rest _ _ _ _ h5 ho'] at h
      unfold cmp2 at h
      rw [if_pos (by omega)] at h
      omega

end Burin
