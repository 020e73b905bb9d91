/-
  The nodes of a tree in their order, and what a walk that looks for one of them finds: facts on forests, and a contract for the closure that looks; the conditions: the pointer leads to a node that lies in memory.
-/
import Derived.Test.YtioeoillogpdoaaCopy
namespace Go.Proofs.Ytioeoillogpdoaa
open Go.RowKit
set_option linter.unusedVariables false

/-- All nodes, each ahead of its kids: a list whose elements still lead to their own kids. -/
def Fo.flat : Fo → Fo
  | nil => nil
  | cons v a c k r => cons v a c k (k.flat.app r.flat)
theorem flat_len (f : Fo) : f.flat.len = f.size := by
  induction f with
  | nil => rfl
  | cons v a c k r ihk ihr => simp only [Fo.flat, Fo.len, Fo.size, app_len, ihk, ihr]; omega
theorem drop_app (f g : Fo) : ∀ i, f.len ≤ i → (f.app g).drop i = g.drop (i - f.len) := by
  induction f with
  | nil => intro i _; simp [Fo.app, Fo.len]
  | cons v a c k r _ ih =>
    intro i h
    simp only [Fo.len] at h ⊢
    cases i with
    | zero => omega
    | succ i =>
      simp only [Fo.app, Fo.drop]
      rw [ih i (by omega)]
      congr 1
      omega
theorem drop_app_lt (f g : Fo) : ∀ i, i < f.len → ∃ v a c k, f.drop i = .cons v a c k (f.drop (i + 1)) ∧ (f.app g).drop i = .cons v a c k ((f.drop (i + 1)).app g) := by
  induction f with
  | nil => intro i h; simp [Fo.len] at h
  | cons v a c k r _ ih =>
    intro i h
    simp only [Fo.len] at h
    cases i with
    | zero => exact ⟨v, a, c, k, by simp [Fo.drop], by simp [Fo.drop, Fo.app]⟩
    | succ i =>
      obtain ⟨v', a', c', k', e1, e2⟩ := ih i (by omega)
      exact ⟨v', a', c', k', by simpa [Fo.drop] using e1, by simpa [Fo.drop, Fo.app] using e2⟩

/-- The node with a number, with what hangs on it. -/
def Fo.get : Fo → Nat → Option (NF × Option Addr × Nat × Fo)
  | nil, _ => none
  | cons v a c k _, 0 => some (v, a, c, k)
  | cons _ _ _ _ r, i + 1 => r.get i
theorem get_app (f g : Fo) : ∀ i, (f.app g).get i = if i < f.len then f.get i else g.get (i - f.len) := by
  induction f with
  | nil => intro i; simp [Fo.app, Fo.len]
  | cons v a c k r _ ih =>
    intro i
    cases i with
    | zero => simp [Fo.app, Fo.len, Fo.get]
    | succ i =>
      simp only [Fo.app, Fo.get, Fo.len]
      rw [ih i]
      simp only [Nat.add_lt_add_iff_right, Nat.add_sub_add_right]

/-- What the closure keeps: how many nodes were shown, and the one that was looked for. -/
abbrev Fd := Nat × Option El
def fdSt (id : Int) (s : Fd) (e : El) : Fd := (s.1 + 1, if (s.1 : Int) = id then some e else s.2)
def fdGo (id : Int) (s : Fd) (e : El) : Bool := !(decide ((s.1 : Int) = id)) && s.2.isNone

theorem wkFd (id : Int) (f : Fo) : ∀ (a : Option Addr) (d n : Nat), (id < n ∨ (n : Int) + f.size ≤ id →  wkF (fdSt id) (fdGo id) a f d (n, none) = ((n + f.size, none), true)) ∧
    (∀ i : Nat, id = n + i → i < f.size → ∃ e s', wkF (fdSt id) (fdGo id) a f d (n, none) = ((s', some e), false) ∧ f.flat.get i = some (e.v, e.ka, e.kc, e.ks)) := by
  induction f with
  | nil => intro a d n; exact ⟨fun _ => by simp [wkF, Fo.size], fun i _ h => by simp [Fo.size] at h⟩
  | cons v ka kc ks rest ihk ihr =>
    intro a d n
    have e1 : (Fo.cons v ka kc ks rest).size = ks.size + 1 + rest.size := rfl
    obtain ⟨k1, k2⟩ := ihk ka (d + 1) (n + 1)
    obtain ⟨r1, r2⟩ := ihr (next10 a) d (n + 1 + ks.size)
    rw [e1]
    refine ⟨fun h => ?_, fun i hi hlt => ?_⟩
    · have hne : ¬ (n : Int) = id := by omega
      have g0 : fdGo id (n, none) ⟨a, v, ka, kc, ks, d⟩ = true := by simp [fdGo, hne]
      have s0 : fdSt id (n, none) ⟨a, v, ka, kc, ks, d⟩ = (n + 1, none) := by simp [fdSt, hne]
      unfold wkF
      rw [if_pos g0, s0, k1 (by omega), if_pos rfl, r1 (by omega)]
      simp only [Prod.mk.injEq, and_true]
      omega
    · by_cases h0 : i = 0
      · subst h0
        have hee : (n : Int) = id := by omega
        have g0 : ¬ fdGo id (n, none) ⟨a, v, ka, kc, ks, d⟩ = true := by simp [fdGo, hee]
        refine ⟨⟨a, v, ka, kc, ks, d⟩, n + 1, ?_, rfl⟩
        unfold wkF
        rw [if_neg g0]
        simp [fdSt, hee]
      · have hne : ¬ (n : Int) = id := by omega
        have g0 : fdGo id (n, none) ⟨a, v, ka, kc, ks, d⟩ = true := by simp [fdGo, hne]
        have s0 : fdSt id (n, none) ⟨a, v, ka, kc, ks, d⟩ = (n + 1, none) := by simp [fdSt, hne]
        have hget : (Fo.cons v ka kc ks rest).flat.get i = if i - 1 < ks.size then ks.flat.get (i - 1) else rest.flat.get (i - 1 - ks.size) := by
          obtain ⟨j, rfl⟩ : ∃ j, i = j + 1 := ⟨i - 1, by omega⟩
          simp only [Fo.flat, Fo.get, Nat.add_sub_cancel]
          rw [get_app, flat_len]
        unfold wkF
        rw [if_pos g0, s0, hget]
        by_cases hk : i - 1 < ks.size
        · obtain ⟨e, s', q1, q2⟩ := k2 (i - 1) (by omega) hk
          rw [q1, if_neg (by simp), if_pos hk]
          exact ⟨e, s', rfl, q2⟩
        · obtain ⟨e, s', q1, q2⟩ := r2 (i - 1 - ks.size) (by omega) (by omega)
          rw [k1 (by omega), if_pos rfl, if_neg hk]
          exact ⟨e, s', q1, q2⟩

end Go.Proofs.Ytioeoillogpdoaa
