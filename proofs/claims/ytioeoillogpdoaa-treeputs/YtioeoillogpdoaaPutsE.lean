/-
  A list of nodes in the place of a node, by its number, as a plain function on forests, and what it does to lengths and sizes; no program.
-/
import Derived.Test.YtioeoillogpdoaaPutsD
namespace Go.Proofs.Ytioeoillogpdoaa
open Go.RowKit
set_option linter.unusedVariables false

/-- The forest with a list in the place of the node whose number, counted from the first one on, is d. -/
def putS (l : Fo) : Int → Fo → Fo
  | _, .nil => .nil
  | d, .cons v a c k r => if d = 0 then l.app (putS l (d - (k.size + 1)) r) else .cons v a c (putS l (d - 1) k) (putS l (d - (k.size + 1)) r)

theorem putS_before (l : Fo) (f : Fo) : ∀ d : Int, d < 0 → putS l d f = f := by
  induction f with
  | nil => intro d _; rfl
  | cons v a c k r ihk ihr =>
    intro d h
    simp only [putS]
    rw [if_neg (by omega), ihk _ (by omega), ihr _ (by omega)]
theorem putS_behind (l : Fo) (f : Fo) : ∀ d : Int, (f.size : Int) ≤ d → putS l d f = f := by
  induction f with
  | nil => intro d _; rfl
  | cons v a c k r ihk ihr =>
    intro d h
    simp only [Fo.size] at h
    simp only [putS]
    rw [if_neg (by omega), ihk _ (by omega), ihr _ (by omega)]
/-- The node itself is there. -/
theorem putS_here (l : Fo) (v : NF) (a : Option Addr) (c : Nat) (k r : Fo) : putS l 0 (.cons v a c k r) = l.app r := by
  simp only [putS, if_true]
  rw [putS_before l r _ (by omega)]
/-- It is within the first one. -/
theorem putS_within (l : Fo) (v : NF) (a : Option Addr) (c : Nat) (k r : Fo) (d : Int) (h0 : 0 < d) (h : d < k.size + 1) : putS l d (.cons v a c k r) = .cons v a c (putS l (d - 1) k) r := by
  simp only [putS]
  rw [if_neg (by omega), putS_before l r _ (by omega)]
/-- It is behind the first one. -/
theorem putS_past (l : Fo) (v : NF) (a : Option Addr) (c : Nat) (k r : Fo) (d : Int) (h : (k.size : Int) + 1 ≤ d) : putS l d (.cons v a c k r) = .cons v a c k (putS l (d - (k.size + 1)) r) := by
  simp only [putS]
  rw [if_neg (by omega), putS_behind l k _ (by omega)]
theorem app_size (f g : Fo) : (f.app g).size = f.size + g.size := by
  induction f with
  | nil => simp [Fo.app, Fo.size]
  | cons v a c k r _ ih => simp only [Fo.app, Fo.size, ih]; omega
/-- What is put in is at most as great as both together. -/
theorem putS_size (l : Fo) (f : Fo) : ∀ d : Int, (putS l d f).size ≤ f.size + l.size := by
  induction f with
  | nil => intro d; simp [putS, Fo.size]
  | cons v a c k r ihk ihr =>
    intro d
    rcases Int.lt_trichotomy d 0 with h | h | h
    · rw [putS_before _ _ _ h]; omega
    · subst h
      rw [putS_here, app_size]
      simp only [Fo.size]
      omega
    · by_cases h2 : d < k.size + 1
      · rw [putS_within _ _ _ _ _ _ _ h h2]
        have := ihk (d - 1)
        simp only [Fo.size]
        omega
      · rw [putS_past _ _ _ _ _ _ _ (by omega)]
        have := ihr (d - (k.size + 1))
        simp only [Fo.size]
        omega
theorem putS_len (l : Fo) (f : Fo) : ∀ d : Int, (putS l d f).len ≤ f.len + l.len := by
  induction f with
  | nil => intro d; simp [putS, Fo.len]
  | cons v a c k r ihk ihr =>
    intro d
    rcases Int.lt_trichotomy d 0 with h | h | h
    · rw [putS_before _ _ _ h]; omega
    · subst h
      rw [putS_here, app_len]
      simp only [Fo.len]
      omega
    · by_cases h2 : d < k.size + 1
      · rw [putS_within _ _ _ _ _ _ _ h h2]
        simp only [Fo.len]
        omega
      · rw [putS_past _ _ _ _ _ _ _ (by omega)]
        have := ihr (d - (k.size + 1))
        simp only [Fo.len]
        omega
/-- A list of several: those ahead of the place are passed by. -/
theorem putS_app (l f g : Fo) : ∀ d : Int, (f.size : Int) ≤ d → putS l d (f.app g) = f.app (putS l (d - f.size) g) := by
  induction f with
  | nil => intro d h; simp [Fo.app, Fo.size]
  | cons v a c k r _ ih =>
    intro d h
    simp only [Fo.size] at h
    simp only [Fo.app]
    rw [putS_past _ _ _ _ _ _ _ (by omega), ih _ (by omega), show d - ((k.size : Int) + 1) - (r.size : Int) = d - ((Fo.cons v a c k r).size : Int) by simp only [Fo.size]; omega]
end Go.Proofs.Ytioeoillogpdoaa
