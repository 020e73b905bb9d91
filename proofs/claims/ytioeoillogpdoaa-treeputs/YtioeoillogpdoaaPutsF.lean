/-
  Where the nodes of a forest lie, as a property of blocks; a cell that is written leaves forests elsewhere; forests in the place of one kid; facts on worlds and forests; no program.
-/
import Derived.Test.YtioeoillogpdoaaPutsE
namespace Go.Proofs.Ytioeoillogpdoaa
open Go.RowKit
set_option linter.unusedVariables false

/-- All nodes lie in blocks of that kind. -/
def Av (P : Nat → Prop) : Option Addr → Fo → Prop
  | _, .nil => True
  | a, .cons v ka kc k r => (∀ p, a = some p → P p.block) ∧ Av P ka k ∧ Av P (next10 a) r
/-- What hangs on them does. -/
def KAv (P : Nat → Prop) : Fo → Prop
  | .nil => True
  | .cons v ka kc k r => Av P ka k ∧ KAv P r

theorem next_some (b o : Nat) : next10 (some (⟨b, o, none⟩ : Addr)) = some ⟨b, o + 10, none⟩ := rfl
theorem av_in {w : World} : ∀ {f : Fo} {a : Option Addr}, In w a f → Av (fun b => b < w.heap.size) a f := by
  intro f
  induction f with
  | nil => intro a _; trivial
  | cons v ka kc k r ihk ihr =>
    intro a h
    obtain ⟨b, o, rfl, hat, _, _, hk, hr⟩ := h
    refine ⟨fun p hp => ?_, ihk hk, ?_⟩
    · cases hp
      exact World.block_lt_of_cell? w _ (hat.cell 0 _ rfl)
    · rw [next_some]
      exact ihr hr
theorem Av.mono {P P' : Nat → Prop} (hP : ∀ b, P b → P' b) : ∀ {f : Fo} {a : Option Addr}, Av P a f → Av P' a f := by
  intro f
  induction f with
  | nil => intro a _; trivial
  | cons v ka kc k r ihk ihr => intro a h; exact ⟨fun p hp => hP _ (h.1 p hp), ihk h.2.1, ihr h.2.2⟩
theorem Av.kids {P : Nat → Prop} : ∀ {f : Fo} {a : Option Addr}, Av P a f → KAv P f := by
  intro f
  induction f with
  | nil => intro a _; trivial
  | cons v ka kc k r ihk ihr => intro a h; exact ⟨h.2.1, ihr h.2.2⟩
theorem KAv.mono {P P' : Nat → Prop} (hP : ∀ b, P b → P' b) : ∀ {f : Fo}, KAv P f → KAv P' f := by
  intro f
  induction f with
  | nil => intro _; trivial
  | cons v ka kc k r ihk ihr => intro h; exact ⟨h.1.mono hP, ihr h.2⟩
theorem av_of_kids {P : Nat → Prop} {b : Nat} (hb : P b) : ∀ {f : Fo} {o : Nat}, KAv P f → Av P (some ⟨b, o, none⟩) f := by
  intro f
  induction f with
  | nil => intro o _; trivial
  | cons v ka kc k r ihk ihr =>
    intro o h
    refine ⟨fun p hp => by cases hp; exact hb, h.1, ?_⟩
    rw [next_some]
    exact ihr h.2
theorem KAv.app {P : Nat → Prop} : ∀ {f g : Fo}, KAv P f → KAv P g → KAv P (f.app g) := by
  intro f
  induction f with
  | nil => intro g _ h; exact h
  | cons v ka kc k r ihk ihr => intro g h h'; exact ⟨h.1, ihr h.2 h'⟩
theorem KAv.take {P : Nat → Prop} : ∀ {f : Fo} (i : Nat), KAv P f → KAv P (f.take i) := by
  intro f
  induction f with
  | nil => intro i _; cases i <;> trivial
  | cons v ka kc k r ihk ihr =>
    intro i h
    cases i with
    | zero => trivial
    | succ i => exact ⟨h.1, ihr i h.2⟩
theorem KAv.drop {P : Nat → Prop} : ∀ {f : Fo} (i : Nat), KAv P f → KAv P (f.drop i) := by
  intro f
  induction f with
  | nil => intro i _; cases i <;> trivial
  | cons v ka kc k r ihk ihr =>
    intro i h
    cases i with
    | zero => exact h
    | succ i => exact ihr i h.2
theorem KI.take {w : World} : ∀ {f : Fo} (i : Nat), KI w f → KI w (f.take i) := by
  intro f
  induction f with
  | nil => intro i _; cases i <;> trivial
  | cons v ka kc k r ihk ihr =>
    intro i h
    cases i with
    | zero => trivial
    | succ i => exact ⟨h.1, h.2.1, h.2.2.1, ihr i h.2.2.2⟩
theorem in_set {w : World} {p : Addr} {u : Value} : ∀ {f : Fo} {a : Option Addr}, In w a f → Av (fun b => b ≠ p.block) a f → In (w.setCell p u) a f := by
  intro f
  induction f with
  | nil => intro a _ _; trivial
  | cons v ka kc k r ihk ihr =>
    intro a h h'
    obtain ⟨b, o, rfl, hat, h1, h2, h3, h4⟩ := h
    have hb : b ≠ p.block := h'.1 _ rfl
    refine ⟨b, o, rfl, fun j hj => ?_, h1, h2, ihk h3 h'.2.1, ihr h4 (by have := h'.2.2; rw [next_some] at this; exact this)⟩
    rw [← hat j hj]
    exact World.cell?_of_block (Below.heap_setCell _ _ _ _ hb)
theorem ki_set {w : World} {p : Addr} {u : Value} : ∀ {f : Fo}, KI w f → KAv (fun b => b ≠ p.block) f → KI (w.setCell p u) f := by
  intro f
  induction f with
  | nil => intro _ _; trivial
  | cons v ka kc k r ihk ihr => intro h h'; exact ⟨h.1, h.2.1, in_set h.2.2.1 h'.1, ihr h.2.2.2 h'.2⟩
theorem take_len (f : Fo) : ∀ i, i ≤ f.len → (f.take i).len = i := by
  induction f with
  | nil => intro i h; simp [Fo.len] at h; subst h; rfl
  | cons v a c k r _ ih =>
    intro i h
    cases i with
    | zero => rfl
    | succ i => simp only [Fo.take, Fo.len] at h ⊢; rw [ih i (by omega)]
theorem in_take {w : World} {a : Option Addr} {f : Fo} (h : In w a f) : ∀ i, In w a (f.take i) := by
  induction f generalizing a with
  | nil => intro i; cases i <;> trivial
  | cons v ka kc k r _ ih =>
    intro i
    cases i with
    | zero => trivial
    | succ i =>
      obtain ⟨b, o, rfl, h1, h2, h3, h4, h5⟩ := h
      exact ⟨b, o, rfl, h1, h2, h3, h4, ih h5 i⟩
theorem size_take_drop (f : Fo) (k : Nat) : (f.take k).size + (f.drop k).size = f.size := by
  have := app_size (f.take k) (f.drop k)
  rw [take_drop] at this
  omega
/-- The list behind k that are passed by. -/
theorem putS_at (l f : Fo) (k : Nat) (d : Int) (h : ((f.take k).size : Int) ≤ d) : putS l d f = (f.take k).app (putS l (d - (f.take k).size) (f.drop k)) := by
  have := putS_app l (f.take k) (f.drop k) d h
  rw [take_drop] at this
  exact this
/-- One kid's list in another's place. -/
theorem set_kid (G R : Fo) (v : NF) (ka a' : Option Addr) (kc c' : Nat) (ks ks' : Fo) :
    (cellsF (G.app (.cons v ka kc ks R))).set (G.len * 10 + 9) (.slice a' ks'.len c') = cellsF (G.app (.cons v a' c' ks' R)) := by
  rw [cellsF_app, cellsF_app, List.set_append_right _ _ (by rw [cellsF_len]; omega), cellsF_len, show G.len * 10 + 9 - G.len * 10 = 9 by omega]
  rfl
/-- A cell that is written with what it holds. -/
theorem setCell_same {w : World} {b j : Nat} {cur : Array Value} {t : TypeId} {u : Value} (h : w.heap[b]? = some (.cells cur t (0, 0))) (hj : cur[j]? = some u) : w.setCell ⟨b, j, none⟩ u = w := by
  have hlt := lt_of_block h
  have hb : w.heap[b] = .cells cur t (0, 0) := by simpa [Array.getElem?_eq_getElem hlt] using h
  have e : (w.setCell ⟨b, j, none⟩ u).heap = w.heap := by
    apply Array.ext
    · simp
    · intro i h1 h2
      by_cases e : i = b
      · subst e
        have := block_setCell (j := j) h u
        rw [Array.getElem?_eq_getElem (by simpa using hlt)] at this
        have hs : cur.setIfInBounds j u = cur := by
          apply Array.ext
          · simp
          · intro x hx1 hx2
            rw [Array.getElem_setIfInBounds hx2]
            split
            · rename_i e'
              subst e'
              rw [Array.getElem?_eq_getElem hx2] at hj
              exact (Option.some.inj hj).symm
            · rfl
        rw [hs] at this
        rw [Option.some.inj this, hb]
      · have := Below.heap_setCell w ⟨b, j, none⟩ u i e
        rw [Array.getElem?_eq_getElem h1, Array.getElem?_eq_getElem h2] at this
        exact Option.some.inj this
  have e2 : w.setCell ⟨b, j, none⟩ u = { w with heap := (w.setCell ⟨b, j, none⟩ u).heap } := rfl
  rw [e2, e]

#print axioms setCell_same
end Go.Proofs.Ytioeoillogpdoaa
