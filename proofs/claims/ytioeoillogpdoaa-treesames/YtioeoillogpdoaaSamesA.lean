/-
  What stays while a copy's nodes are written: facts on worlds; no conditions but those that each fact bears.
-/
import Derived.Test.YtioeoillogpdoaaCopy
import Derived.Test.YtioeoillogpdoaaSameD
namespace Go.Proofs.Ytioeoillogpdoaa
open Go.RowKit
set_option linter.unusedVariables false

theorem Lo.drop {B : Nat} : ∀ {f : Fo} {b o : Nat} (i : Nat), Lo B (some ⟨b, o, none⟩) f → Lo B (some ⟨b, o + i * 10, none⟩) (f.drop i) := by
  intro f
  induction f with
  | nil => intro b o i _; cases i <;> trivial
  | cons v a c k r _ ih =>
    intro b o i h
    cases i with
    | zero => simpa [Fo.drop] using h
    | succ i =>
      have := ih (o := o + 10) i h.2.2
      rw [show o + (i + 1) * 10 = o + 10 + i * 10 by omega]
      exact this
theorem FrN.drop {w : World} : ∀ {f : Fo} {b o : Nat} (i : Nat), FrN w (some ⟨b, o, none⟩) f → FrN w (some ⟨b, o + i * 10, none⟩) (f.drop i) := by
  intro f
  induction f with
  | nil => intro b o i _; cases i <;> trivial
  | cons v a c k r _ ih =>
    intro b o i h
    cases i with
    | zero => simpa [Fo.drop] using h
    | succ i =>
      have := ih (o := o + 10) i h.2.2
      rw [show o + (i + 1) * 10 = o + 10 + i * 10 by omega]
      exact this
/-- All that is known of a node of a copy. -/
theorem own_elem {w : World} {B : Nat} {a : Option Addr} {f : Fo} (h : In w a f) (hl : Lo B a f) (hf : FrN w a f) (i : Nat) (hi : i < f.len) : ∃ b o v ka kc k, a = some ⟨b, o, none⟩ ∧ At w b (o + i * 10) (cellsN v (.slice ka (Fo.len k) kc)) ∧ sok ka k.len kc ∧ In w ka k ∧ Lo B ka k ∧ FrN w ka k ∧ B ≤ b ∧ b < w.heap.size ∧ (o + i * 10) % 10 = 0 ∧ (∀ j, w.frozen? ⟨b, j, none⟩ = false) ∧ f.drop i = .cons v ka kc k (f.drop (i + 1)) := by
  obtain ⟨b, o, v, ka, kc, k, rfl, e, h1, h2, h3, h4⟩ := h.elem i hi
  have l := hl.drop i
  have g := hf.drop i
  have e' := e
  rw [e] at l g
  obtain ⟨l1, l2, _⟩ := l
  obtain ⟨g1, g2, _⟩ := g
  exact ⟨b, o, v, ka, kc, k, rfl, h1, h3, h4, l2, g2, (l1 _ rfl).1, (g1 _ rfl).1, (l1 _ rfl).2, (g1 _ rfl).2, e'⟩

/-- The world behind writes into names and numbers of nodes in the blocks from lo to hi. -/
structure KP (lo hi : Nat) (u w : World) : Prop where
  fr : Fr (fun k => lo ≤ k ∧ k < hi) u w
  nine : ∀ b o, o % 10 = 9 → w.cell? ⟨b, o, none⟩ = u.cell? ⟨b, o, none⟩ ∨ u.heap.size ≤ b
  five : ∀ b o z, o % 10 = 5 → u.cell? ⟨b, o, none⟩ = some (.int .i64 z) → ∃ z', w.cell? ⟨b, o, none⟩ = some (.int .i64 z')
  seven : ∀ b o s, o % 10 = 7 → u.cell? ⟨b, o, none⟩ = some (.string s) → ∃ s', w.cell? ⟨b, o, none⟩ = some (.string s')
  fz : ∀ b o, b < u.heap.size → u.frozen? ⟨b, o, none⟩ = false → w.frozen? ⟨b, o, none⟩ = false

theorem KP.refl (lo hi : Nat) (u : World) : KP lo hi u u := ⟨Fr.refl _ _, fun _ _ _ => Or.inl rfl, fun _ _ z _ h => ⟨z, h⟩, fun _ _ s _ h => ⟨s, h⟩, fun _ _ _ h => h⟩
theorem KP.drew {lo hi : Nat} {u w : World} (h : KP lo hi u w) : KP lo hi u w.drew := ⟨⟨h.fr.os, h.fr.tape, h.fr.output, h.fr.size, h.fr.block⟩, h.nine, h.five, h.seven, h.fz⟩
theorem KP.set5 {lo hi : Nat} {u w : World} {b o : Nat} {z z' : Int} (h : KP lo hi u w) (h1 : lo ≤ b) (h2 : b < hi) (h5 : o % 10 = 5) (hc : w.cell? ⟨b, o, none⟩ = some (.int .i64 z)) : KP lo hi u (w.setCell ⟨b, o, none⟩ (.int .i64 z')) := by
  refine ⟨h.fr.setCell (Or.inl ⟨h1, h2⟩) _, fun b' o' h9 => ?_, fun b' o' y h5' hy => ?_, fun b' o' s h7 hs => ?_, fun b' o' hb hf => ?_⟩
  · rw [World.cell?_setCell_other _ _ _ _ (by simp <;> omega)]
    exact h.nine b' o' h9
  · by_cases e : b' = b ∧ o' = o
    · obtain ⟨rfl, rfl⟩ := e
      exact ⟨z', World.cell?_setCell_same _ _ _ hc⟩
    · rw [World.cell?_setCell_other _ _ _ _ (by simp <;> omega)]
      exact h.five b' o' y h5' hy
  · rw [World.cell?_setCell_other _ _ _ _ (by simp <;> omega)]
    exact h.seven b' o' s h7 hs
  · simpa using h.fz b' o' hb hf
theorem KP.set7 {lo hi : Nat} {u w : World} {b o : Nat} {s s' : ByteArray} (h : KP lo hi u w) (h1 : lo ≤ b) (h2 : b < hi) (h7 : o % 10 = 7) (hc : w.cell? ⟨b, o, none⟩ = some (.string s)) : KP lo hi u (w.setCell ⟨b, o, none⟩ (.string s')) := by
  refine ⟨h.fr.setCell (Or.inl ⟨h1, h2⟩) _, fun b' o' h9 => ?_, fun b' o' y h5' hy => ?_, fun b' o' t h7' hs => ?_, fun b' o' hb hf => ?_⟩
  · rw [World.cell?_setCell_other _ _ _ _ (by simp <;> omega)]
    exact h.nine b' o' h9
  · rw [World.cell?_setCell_other _ _ _ _ (by simp <;> omega)]
    exact h.five b' o' y h5' hy
  · by_cases e : b' = b ∧ o' = o
    · obtain ⟨rfl, rfl⟩ := e
      exact ⟨s', World.cell?_setCell_same _ _ _ hc⟩
    · rw [World.cell?_setCell_other _ _ _ _ (by simp <;> omega)]
      exact h.seven b' o' t h7' hs
  · simpa using h.fz b' o' hb hf
theorem KP.nine' {lo hi : Nat} {u w : World} {b o : Nat} {v : Value} (h : KP lo hi u w) (h9 : o % 10 = 9) (hc : u.cell? ⟨b, o, none⟩ = some v) : w.cell? ⟨b, o, none⟩ = some v := by
  have hb : b < u.heap.size := World.block_lt_of_cell? u _ hc
  rcases h.nine b o h9 with h | h
  · rw [h, hc]
  · omega
theorem KP.out {lo hi : Nat} {u w : World} {b o : Nat} {v : Value} (h : KP lo hi u w) (hb : b < lo ∨ hi ≤ b) (hc : u.cell? ⟨b, o, none⟩ = some v) : w.cell? ⟨b, o, none⟩ = some v := by
  have hl : b < u.heap.size := World.block_lt_of_cell? u _ hc
  have := h.fr.block b hl (by omega)
  rw [World.cell?_of_block (w := u) this, hc]
theorem In.fr2 {w w' : World} {B : Nat} (hk : ∀ k, B ≤ k → k < w.heap.size → w'.heap[k]? = w.heap[k]?) : ∀ {f : Fo} {a : Option Addr}, In w a f → Lo B a f → In w' a f := by
  intro f
  induction f with
  | nil => intro a _ _; trivial
  | cons v ka kc k r ihk ihr =>
    rintro a ⟨b, o, rfl, h1, h2, h3, h4, h5⟩ ⟨l1, l2, l3⟩
    refine ⟨b, o, rfl, fun j hj => ?_, h2, h3, ihk h4 l2, ihr h5 l3⟩
    have hc := h1 j hj
    obtain ⟨u, hu⟩ : ∃ u, (cellsN v (.slice ka k.len kc))[j]? = some u := ⟨_, List.getElem?_eq_getElem hj⟩
    rw [hu] at hc
    have hb : b < w.heap.size := World.block_lt_of_cell? w _ hc
    rw [World.cell?_of_block (w := w) (hk b (l1 _ rfl).1 hb), hu]
    exact hc
end Go.Proofs.Ytioeoillogpdoaa
