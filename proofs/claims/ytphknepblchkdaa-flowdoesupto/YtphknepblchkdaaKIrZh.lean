/-
 Worlds that differ in numbers alone, in blocks of one's own: what stays; facts on worlds alone.
-/
import Derived.Test.YtphknepblchkdaaKIrZf
namespace Go.Proofs.Ytphknepblchkdaa
open Go.RowKit
set_option linter.unusedVariables false

/-- Every cell is as it was, or a number for a number; what can be written can be. -/
structure Sh (W W' : World) : Prop where
 size : W.heap.size ≤ W'.heap.size
 cell : ∀ p v, W.cell? p = some v → W'.cell? p = some v ∨ ∃ z z', v = .int .i64 z ∧ W'.cell? p = some (.int .i64 z')
 froz : ∀ p v, W.cell? p = some v → W'.frozen? p = W.frozen? p
theorem Sh.refl (W : World) : Sh W W := ⟨Nat.le_refl _, fun p v h => Or.inl h, fun p v h => rfl⟩
theorem Sh.set {W W' : World} (h : Sh W W') {p : Addr} {z0 : Int} (hp : W'.cell? p = some (.int .i64 z0)) (z : Int) : Sh W (W'.setCell p (.int .i64 z)) := by
 refine ⟨by simpa using h.size, fun q v hq => ?_, fun q v hq => by rw [World.frozen?_setCell]; exact h.froz q v hq⟩
 by_cases e : q = p
 ·subst e
  have hs : (W'.setCell q (.int .i64 z)).cell? q = some (.int .i64 z) := World.cell?_setCell_same W' q _ hp
  rcases h.cell q v hq with h1 | ⟨a, b, h1, h2⟩
  ·rw [hp] at h1
   simp at h1
   exact Or.inr ⟨z0, z, h1.symm, hs⟩
  ·exact Or.inr ⟨a, z, h1, hs⟩
 ·rcases h.cell q v hq with h1 | ⟨a, b, h1, h2⟩
  ·exact Or.inl (set_cell_ne h1 e)
  ·exact Or.inr ⟨a, b, h1, set_cell_ne h2 e⟩
theorem Sh.drewN {W W' : World} (h : Sh W W') (n : Nat) : Sh W (W'.drewN n) := ⟨h.size, h.cell, h.froz⟩
theorem Sh.drew {W W' : World} (h : Sh W W') : Sh W W'.drew := ⟨h.size, h.cell, h.froz⟩
theorem Sh.slice {W W' : World} (h : Sh W W') {p : Addr} {a : Option Addr} {n c : Nat} (hp : W.cell? p = some (.slice a n c)) : W'.cell? p = some (.slice a n c) := by
 rcases h.cell p _ hp with h1 | ⟨a, b, h1, h2⟩
 ·exact h1
 ·simp at h1
theorem Sh.int {W W' : World} (h : Sh W W') {p : Addr} {z : Int} (hp : W.cell? p = some (.int .i64 z)) : ∃ z', W'.cell? p = some (.int .i64 z') := by
 rcases h.cell p _ hp with h1 | ⟨a, b, h1, h2⟩
 ·exact ⟨z, h1⟩
 ·exact ⟨b, h2⟩
theorem own_at {α : Type} {sz lo : Nat} {P : Nat → Nat → α → Prop} {W : World} {a : Option Addr} {l : List α} (h : Lst sz P a l) (hn : NB lo W a l.length) {k : Nat} {x : α} (hx : l[k]? = some x) : ∃ g cs t, a = some ⟨g, 0, none⟩ ∧ lo ≤ g ∧ P g (k * sz) x ∧ W.heap[g]? = some (.cells cs t (0, 0)) := by
 obtain ⟨b, o, e, hp⟩ := h k x hx
 rcases hn with h0 | ⟨g, cs, t, e2, hg, hh⟩
 ·have := (List.getElem?_eq_some_iff.1 hx).1
  omega
 ·rw [e] at e2
  simp at e2
  obtain ⟨rfl, rfl⟩ := e2
  rw [Nat.zero_add] at hp
  exact ⟨b, cs, t, e, hg, hp, hh⟩
end Go.Proofs.Ytphknepblchkdaa
