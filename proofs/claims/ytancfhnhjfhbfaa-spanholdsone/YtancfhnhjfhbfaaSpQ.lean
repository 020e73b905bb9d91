/-
  The plain laws of layer 10 for one number: where an operation of one number is said never to trap it never does, and what it makes lies in the span that is told; so for a number that is wrapped. No conditions but those that each fact bears.
-/
import Derived.Test.YtancfhnhjfhbfaaSpO
import Derived.Test.YtancfhnhjfhbfaaBaseE
set_option linter.unusedVariables false
namespace Burin
open Go
theorem cast_holds (t l r x : Int) (h0 : 0 ≤ t) (h5 : t ≤ 5) (x1 : l ≤ x) (x2 : x ≤ r) : caL t l r ≤ wr t x ∧ wr t x ≤ caH t l r := by
  have hn : nonB l r = false := by unfold nonB; simp; omega
  unfold caL caH fiL fiH
  rw [hn]
  cases hi : inB l r (low t) (high t) with
  | true =>
    obtain ⟨k1, k2⟩ := inB_bd (by omega) hi
    rw [wr_of_fit t x (fit_of t x (by omega) (by omega))]
    simp
    omega
  | false =>
    have := wr_fit t x h0 h5
    simp
    exact this
theorem un_holds (op t l r x : Int) (h0 : 0 ≤ t) (h5 : t ≤ 5) (o1 : 1 ≤ op) (o3 : op ≤ 3) (a1 : low t ≤ l) (a2 : r ≤ high t) (x1 : l ≤ x) (x2 : x ≤ r) (hok : (unA op t l r).2.2 = true) :
    un2 op t x = 0 ∧ (unA op t l r).1 ≤ un1 op t x ∧ un1 op t x ≤ (unA op t l r).2.1 := by
  obtain ⟨l1, l2, l3, l4⟩ := low_nb' t h0 h5
  have hr : rtB t l r = true := by
    unfold rtB inB nonB
    simp
    omega
  have wx : wr t x = x := wr_of_fit t x (fit_of t x (by omega) (by omega))
  have n6 : ¬ 6 ≤ t := by omega
  have h : op = 1 ∨ op = 2 ∨ op = 3 := by omega
  rcases h with rfl | rfl | rfl
  · have e : unA 1 t l r = fiA t (-r) (-l) := by unfold unA; rw [if_neg (by rw [hr]; simp)]; rfl
    rw [e] at hok ⊢
    have k := fi_holds t (-r) (-l) (-x) h0 h5 (by omega) (fun _ => ⟨by omega, by omega⟩) hok
    simp only [un1, un2, if_neg n6, wx, fiA]
    exact k
  · rcases sgn_lo t h0 h5 with ⟨s0, s1, s2⟩ | ⟨s0, s1⟩
    · have e : unA 2 t l r = (-r - 1, -l - 1, true) := by unfold unA; rw [if_neg (by rw [hr]; simp), s0]; simp
      have k : wr t (-1 - x) = -1 - x := wr_of_fit t _ (fit_of t _ (by omega) (by omega))
      rw [e]
      simp [un1, un2, n6, wx, k]
      omega
    · have e : unA 2 t l r = (high t - r, high t - l, true) := by unfold unA; rw [if_neg (by rw [hr]; simp), s0]; simp
      have k : wr t (-1 - x) = high t - x := by
        rcases cases7 h0 with rfl | rfl | rfl | rfl | rfl | rfl | h
        case inr.inr.inr.inr.inr.inr => omega
        all_goals first | (simp [sgn] at s0; done) | (simp [low, high] at a1 a2; simp [wr, high]; omega)
      rw [e]
      simp [un1, un2, n6, wx, k]
      omega
  · have e : unA 3 t l r = (trL (decide (l = 0 ∧ r = 0)) (!hasB l r 0), trH (decide (l = 0 ∧ r = 0)) (!hasB l r 0), true) := by unfold unA; rw [if_neg (by rw [hr]; simp)]; rfl
    rw [e]
    simp only [un1, un2, if_neg n6, wx]
    refine ⟨by simp, ?_⟩
    by_cases hz : l = 0 ∧ r = 0
    · have : x = 0 := by omega
      subst this
      simp [hz, trL, trH, tr]
    · cases hh : hasB l r 0 with
      | true =>
        simp [hz, trL, trH, tr]
        split <;> omega
      | false =>
        have : x ≠ 0 := by
          intro h
          subst h
          unfold hasB at hh
          simp at hh
          omega
        simp [hz, trL, trH, tr, this]
end Burin
