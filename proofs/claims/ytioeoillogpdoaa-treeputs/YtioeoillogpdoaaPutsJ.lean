/-
  A node put back in its own place, or left out: what comes of a forest; plain laws; no program.
-/
import Derived.Test.YtioeoillogpdoaaPutsI
import Derived.Test.YtioeoillogpdoaaPartsB
namespace Go.Proofs.Ytioeoillogpdoaa
open Go.RowKit
set_option linter.unusedVariables false

theorem Cp.symm : ∀ {f g : Fo}, Cp f g → Cp g f := by
  intro f
  induction f with
  | nil =>
    intro g h
    cases g with
    | nil => trivial
    | cons => exact h.elim
  | cons v a c k r ihk ihr =>
    intro g h
    cases g with
    | nil => exact h.elim
    | cons v' a' c' k' r' =>
      obtain ⟨e, h1, h2⟩ := h
      exact ⟨e.symm, ihk h1, ihr h2⟩
theorem Cp.weight : ∀ {f g : Fo}, Cp f g → g.weight = f.weight := by
  intro f
  induction f with
  | nil =>
    intro g h
    cases g with
    | nil => rfl
    | cons => exact h.elim
  | cons v a c k r ihk ihr =>
    intro g h
    cases g with
    | nil => exact h.elim
    | cons v' a' c' k' r' =>
      obtain ⟨e, h1, h2⟩ := h
      subst e
      simp only [Fo.weight, ihk h1, ihr h2]
/-- Where a node of that number stands: within the first one, or behind it. -/
theorem flat_get {v : NF} {a : Option Addr} {c : Nat} {k r : Fo} {d : Nat} {x : NF × Option Addr × Nat × Fo} (h : (Fo.cons v a c k r).flat.get d = some x) :
    (d = 0 ∧ x = (v, a, c, k)) ∨ (0 < d ∧ d < k.size + 1 ∧ k.flat.get (d - 1) = some x) ∨ (k.size + 1 ≤ d ∧ r.flat.get (d - (k.size + 1)) = some x) := by
  cases d with
  | zero => exact Or.inl ⟨rfl, (Option.some.inj h).symm⟩
  | succ d =>
    simp only [Fo.flat, Fo.get] at h
    rw [get_app, flat_len] at h
    split at h
    · exact Or.inr (Or.inl ⟨by omega, by omega, h⟩)
    · exact Or.inr (Or.inr ⟨by omega, by rw [show d + 1 - (k.size + 1) = d - k.size by omega]; exact h⟩)
theorem get_ok {w : World} : ∀ {f : Fo} {a : Option Addr}, In w a f → ∀ {d : Nat} {v' : NF} {ka : Option Addr} {kc : Nat} {k' : Fo}, f.flat.get d = some (v', ka, kc, k') → v'.ok := by
  intro f
  induction f with
  | nil => intro a _ d v' ka kc k' h; simp [Fo.flat, Fo.get] at h
  | cons v a c k r ihk ihr =>
    intro a0 hin d v' ka kc k' h
    obtain ⟨b, o, _, _, h1, _, h3, h4⟩ := hin
    rcases flat_get h with ⟨_, e⟩ | ⟨_, _, e⟩ | ⟨_, e⟩
    · cases e; exact h1
    · exact ihk h3 e
    · exact ihr h4 e
theorem get_less (f : Fo) : ∀ {d : Nat} {v' : NF} {ka : Option Addr} {kc : Nat} {k' : Fo}, f.flat.get d = some (v', ka, kc, k') → k'.size + 1 ≤ f.size ∧ k'.depth + 1 ≤ f.depth ∧ (∀ k'' a'' c'', Cp k' k'' → Cp f (putS (.cons v' a'' c'' k'' .nil) d f)) ∧
    (putS .nil d f).size + (k'.size + 1) = f.size ∧ (putS .nil d f).depth ≤ f.depth ∧ (putS .nil d f).weight + (1 + nb v' + k'.weight) = f.weight := by
  induction f with
  | nil => intro d v' ka kc k' h; simp [Fo.flat, Fo.get] at h
  | cons v a c k r ihk ihr =>
    intro d v' ka kc k' h
    rcases flat_get h with ⟨rfl, e⟩ | ⟨h0, h1, e⟩ | ⟨h1, e⟩
    · cases e
      refine ⟨by simp only [Fo.size]; omega, by simp only [Fo.depth]; omega, fun k'' a'' c'' hc => ?_, ?_, ?_, ?_⟩
      · rw [show ((0 : Nat) : Int) = 0 from rfl, putS_here]
        exact ⟨rfl, hc, Cp.refl _⟩
      · rw [show ((0 : Nat) : Int) = 0 from rfl, putS_here]
        simp only [Fo.app, Fo.size]
        omega
      · rw [show ((0 : Nat) : Int) = 0 from rfl, putS_here]
        simp only [Fo.app, Fo.depth]
        omega
      · rw [show ((0 : Nat) : Int) = 0 from rfl, putS_here]
        simp only [Fo.app, Fo.weight]
        omega
    · obtain ⟨p1, p2, p3, p4, p5, p6⟩ := ihk e
      have ed : ((d : Nat) : Int) - 1 = ((d - 1 : Nat) : Int) := by omega
      refine ⟨by simp only [Fo.size]; omega, by simp only [Fo.depth]; omega, fun k'' a'' c'' hc => ?_, ?_, ?_, ?_⟩
      · rw [putS_within _ _ _ _ _ _ _ (by omega) (by omega), ed]
        exact ⟨rfl, p3 k'' a'' c'' hc, Cp.refl _⟩
      · rw [putS_within _ _ _ _ _ _ _ (by omega) (by omega), ed]
        simp only [Fo.size]
        omega
      · rw [putS_within _ _ _ _ _ _ _ (by omega) (by omega), ed]
        simp only [Fo.depth]
        omega
      · rw [putS_within _ _ _ _ _ _ _ (by omega) (by omega), ed]
        simp only [Fo.weight]
        omega
    · obtain ⟨p1, p2, p3, p4, p5, p6⟩ := ihr e
      have ed : ((d : Nat) : Int) - ((k.size : Int) + 1) = ((d - (k.size + 1) : Nat) : Int) := by omega
      refine ⟨by simp only [Fo.size]; omega, by simp only [Fo.depth]; omega, fun k'' a'' c'' hc => ?_, ?_, ?_, ?_⟩
      · rw [putS_past _ _ _ _ _ _ _ (by omega), ed]
        exact ⟨rfl, Cp.refl _, p3 k'' a'' c'' hc⟩
      · rw [putS_past _ _ _ _ _ _ _ (by omega), ed]
        simp only [Fo.size]
        omega
      · rw [putS_past _ _ _ _ _ _ _ (by omega), ed]
        simp only [Fo.depth]
        omega
      · rw [putS_past _ _ _ _ _ _ _ (by omega), ed]
        simp only [Fo.weight]
        omega
theorem fine_of {f g : Fo} (h : f.fine = true) (hs : g.size ≤ f.size) (hd : g.depth ≤ f.depth) : g.fine = true := by
  simp only [Fo.fine, Bool.and_eq_true, decide_eq_true_eq] at h ⊢
  omega

/-- All that TreeBack wants to know of At's node. -/
theorem back_at {w : World} {f : Fo} {v : NF} {a : Option Addr} {c i : Nat} {v' : NF} {ka : Option Addr} {kc : Nat} {k : Fo} (hin : In w a f) (hff : f.fine = true) (hi : 1 ≤ i) (hg : (Fo.cons v a c f .nil).flat.get i = some (v', ka, kc, k)) :
    v'.ok ∧ k.fine = true ∧ k.size + 1 ≤ f.size ∧ (∀ k'' a'' c'', Cp k k'' → Cp f (putS (.cons v' a'' c'' k'' .nil) ((i : Int) - 1) f)) ∧ (putS .nil ((i : Int) - 1) f).fine = true ∧
      (putS .nil ((i : Int) - 1) f).size + (k.size + 1) = f.size ∧ (putS .nil ((i : Int) - 1) f).weight < f.weight := by
  have hg' : f.flat.get (i - 1) = some (v', ka, kc, k) := by
    rcases flat_get hg with ⟨e, _⟩ | ⟨_, _, e⟩ | ⟨_, e⟩
    · omega
    · exact e
    · simp [Fo.flat, Fo.get] at e
  have ei : (i : Int) - 1 = ((i - 1 : Nat) : Int) := by omega
  obtain ⟨p1, p2, p3, p4, p5, p6⟩ := get_less f hg'
  rw [ei]
  exact ⟨get_ok hin hg', fine_of hff (by omega) (by omega), p1, p3, fine_of hff (by omega) p5, p4, by omega⟩

#print axioms back_at
end Go.Proofs.Ytioeoillogpdoaa
