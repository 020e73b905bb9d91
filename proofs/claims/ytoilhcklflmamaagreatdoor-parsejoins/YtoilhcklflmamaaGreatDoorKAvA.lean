/-
  A forest as the cells of one block, forests that are copies of one another, and forests that stay while other blocks are written: facts on worlds; no conditions but those that each fact bears.
  Where the nodes of a forest lie, as a property of blocks; forests that stay while other blocks are written or grow: facts on worlds and forests; no program.
-/
import Derived.Test.YtoilhcklflmamaaGreatDoorKSizes
import Derived.Laws.AppendOwn
import Derived.Deep.AppendLies
namespace Go.Proofs.YtoilhcklflmamaaGreatDoor
open Go.RowKit
set_option linter.unusedVariables false

def cellsF : Fo → List Value
  | .nil => []
  | .cons v a c k r => cellsN v (.slice a k.len c) ++ cellsF r
/-- What hangs on the nodes of a list lies in memory. -/
def KI (w : World) : Fo → Prop
  | .nil => True
  | .cons v a c k r => v.ok ∧ sok a k.len c ∧ In w a k ∧ KI w r
/-- All nodes lie in blocks from B on, ten cells apart. -/
def Lo (B : Nat) : Option Addr → Fo → Prop
  | _, .nil => True
  | a, .cons v ka kc k r => (∀ p, a = some p → B ≤ p.block ∧ p.off % 10 = 0) ∧ Lo B ka k ∧ Lo B (next10 a) r
/-- What hangs on them does. -/
def KLo (B : Nat) : Fo → Prop
  | .nil => True
  | .cons v ka kc k r => Lo B ka k ∧ KLo B r

theorem cellsN_len (v : NF) (s : Value) : (cellsN v s).length = 10 := rfl
theorem cellsF_len (f : Fo) : (cellsF f).length = f.len * 10 := by
  induction f with
  | nil => rfl
  | cons v a c k r _ ih => simp only [cellsF, List.length_append, cellsN_len, Fo.len, ih]; omega
theorem cellsF_app (f g : Fo) : cellsF (f.app g) = cellsF f ++ cellsF g := by
  induction f with
  | nil => rfl
  | cons v a c k r _ ih => simp only [Fo.app, cellsF, ih, List.append_assoc]
theorem In.cells {w : World} : ∀ {f : Fo} {b o : Nat}, In w (some ⟨b, o, none⟩) f → At w b o (cellsF f) := by
  intro f
  induction f with
  | nil => intro b o _ j hj; simp [cellsF] at hj
  | cons v ka kc k r _ ih =>
    rintro b o ⟨b', o', e, h1, _, _, _, h5⟩
    simp at e
    obtain ⟨rfl, rfl⟩ := e
    have hr := ih h5
    intro j hj
    simp only [cellsF, List.length_append, cellsN_len] at hj
    simp only [cellsF]
    by_cases hlt : j < 10
    · rw [List.getElem?_append_left (by rw [cellsN_len]; exact hlt)]
      exact h1 j (by rw [cellsN_len]; exact hlt)
    · rw [List.getElem?_append_right (by rw [cellsN_len]; omega), cellsN_len]
      have := hr (j - 10) (by omega)
      rw [← this, show o + 10 + (j - 10) = o + j by omega]
theorem In.kids {w : World} : ∀ {f : Fo} {a : Option Addr}, In w a f → KI w f := by
  intro f
  induction f with
  | nil => intro a _; trivial
  | cons v ka kc k r _ ih =>
    rintro a ⟨b, o, e, h1, h2, h3, h4, h5⟩
    exact ⟨h2, h3, h4, ih h5⟩
theorem In.of_cells {w : World} : ∀ {f : Fo} {b o : Nat}, At w b o (cellsF f) → KI w f → In w (some ⟨b, o, none⟩) f := by
  intro f
  induction f with
  | nil => intro b o _ _; trivial
  | cons v ka kc k r _ ih =>
    rintro b o h ⟨h2, h3, h4, h5⟩
    refine ⟨b, o, rfl, fun j hj => ?_, h2, h3, h4, ih (fun j hj => ?_) h5⟩
    · have := h j (by simp only [cellsF, List.length_append, cellsN_len]; rw [cellsN_len] at hj; omega)
      rw [this]
      simp only [cellsF]
      rw [List.getElem?_append_left hj]
    · have := h (10 + j) (by simp only [cellsF, List.length_append, cellsN_len]; omega)
      rw [show o + (10 + j) = o + 10 + j by omega] at this
      rw [this]
      simp only [cellsF]
      rw [List.getElem?_append_right (by rw [cellsN_len]; omega), cellsN_len, show 10 + j - 10 = j by omega]
theorem KI.keep {w w' : World} (hq : Q w w') : ∀ {f : Fo}, KI w f → KI w' f := by
  intro f
  induction f with
  | nil => intro _; trivial
  | cons v ka kc k r _ ih =>
    rintro ⟨h2, h3, h4, h5⟩
    exact ⟨h2, h3, h4.keep (Nat.le_refl _) hq, ih h5⟩
theorem KI.app {w : World} : ∀ {f g : Fo}, KI w f → KI w g → KI w (f.app g) := by
  intro f g
  induction f with
  | nil => intro _ h; exact h
  | cons v ka kc k r _ ih =>
    rintro ⟨h2, h3, h4, h5⟩ h
    exact ⟨h2, h3, h4, ih h5 h⟩
theorem KI.drop {w : World} : ∀ {f : Fo} (i : Nat), KI w f → KI w (f.drop i) := by
  intro f
  induction f with
  | nil => intro i _; cases i <;> trivial
  | cons v ka kc k r _ ih =>
    intro i h
    cases i with
    | zero => exact h
    | succ i => exact ih i h.2.2.2

theorem Lo.mono {B B' : Nat} (hB : B' ≤ B) : ∀ {f : Fo} {a : Option Addr}, Lo B a f → Lo B' a f := by
  intro f
  induction f with
  | nil => intro a _; trivial
  | cons v ka kc k r ihk ihr =>
    rintro a ⟨h1, h2, h3⟩
    exact ⟨fun p hp => ⟨Nat.le_trans hB (h1 p hp).1, (h1 p hp).2⟩, ihk h2, ihr h3⟩
theorem KLo.app {B : Nat} : ∀ {f g : Fo}, KLo B f → KLo B g → KLo B (f.app g) := by
  intro f g
  induction f with
  | nil => intro _ h; exact h
  | cons v ka kc k r _ ih => exact fun h h' => ⟨h.1, ih h.2 h'⟩
theorem Lo.of_kids {B : Nat} : ∀ {f : Fo} {b o : Nat}, B ≤ b → o % 10 = 0 → KLo B f → Lo B (some ⟨b, o, none⟩) f := by
  intro f
  induction f with
  | nil => intro b o _ _ _; trivial
  | cons v ka kc k r _ ih =>
    intro b o hb ho h
    exact ⟨fun p hp => by cases hp; exact ⟨hb, ho⟩, h.1, ih hb (by show (o + 10) % 10 = 0; omega) h.2⟩

/-- All nodes lie in blocks that may be written. -/
def FrN (w : World) : Option Addr → Fo → Prop
  | _, .nil => True
  | a, .cons v ka kc k r => (∀ p, a = some p → p.block < w.heap.size ∧ ∀ j, w.frozen? ⟨p.block, j, none⟩ = false) ∧ FrN w ka k ∧ FrN w (next10 a) r
def KFrN (w : World) : Fo → Prop
  | .nil => True
  | .cons v ka kc k r => FrN w ka k ∧ KFrN w r
theorem FrN.keep {w w' : World} (hq : Q w w') : ∀ {f : Fo} {a : Option Addr}, FrN w a f → FrN w' a f := by
  intro f
  induction f with
  | nil => intro a _; trivial
  | cons v ka kc k r ihk ihr =>
    rintro a ⟨h1, h2, h3⟩
    refine ⟨fun p hp => ?_, ihk h2, ihr h3⟩
    obtain ⟨l, z⟩ := h1 p hp
    exact ⟨Nat.lt_of_lt_of_le l hq.size, fun j => (hq.frozen (p := ⟨p.block, j, none⟩) l).trans (z j)⟩
theorem FrN.setCell {w : World} {q : Addr} {u : Value} : ∀ {f : Fo} {a : Option Addr}, FrN w a f → FrN (w.setCell q u) a f := by
  intro f
  induction f with
  | nil => intro a _; trivial
  | cons v ka kc k r ihk ihr =>
    rintro a ⟨h1, h2, h3⟩
    refine ⟨fun p hp => ?_, ihk h2, ihr h3⟩
    obtain ⟨l, z⟩ := h1 p hp
    exact ⟨by simpa using l, fun j => by simpa using z j⟩
theorem KFrN.keep {w w' : World} (hq : Q w w') : ∀ {f : Fo}, KFrN w f → KFrN w' f := by
  intro f
  induction f with
  | nil => intro _; trivial
  | cons v ka kc k r _ ih => exact fun h => ⟨h.1.keep hq, ih h.2⟩
theorem KFrN.setCell {w : World} {q : Addr} {u : Value} : ∀ {f : Fo}, KFrN w f → KFrN (w.setCell q u) f := by
  intro f
  induction f with
  | nil => intro _; trivial
  | cons v ka kc k r _ ih => exact fun h => ⟨h.1.setCell, ih h.2⟩
theorem KFrN.app {w : World} : ∀ {f g : Fo}, KFrN w f → KFrN w g → KFrN w (f.app g) := by
  intro f g
  induction f with
  | nil => intro _ h; exact h
  | cons v ka kc k r _ ih => exact fun h h' => ⟨h.1, ih h.2 h'⟩
theorem FrN.of_kids {w : World} : ∀ {f : Fo} {b o : Nat}, b < w.heap.size → (∀ j, w.frozen? ⟨b, j, none⟩ = false) → KFrN w f → FrN w (some ⟨b, o, none⟩) f := by
  intro f
  induction f with
  | nil => intro b o _ _ _; trivial
  | cons v ka kc k r _ ih =>
    intro b o hb ho h
    exact ⟨fun p hp => by cases hp; exact ⟨hb, ho⟩, h.1, ih hb ho h.2⟩

end Go.Proofs.YtoilhcklflmamaaGreatDoor

namespace Go.Proofs.YtoilhcklflmamaaGreatDoor
open Go.RowKit
set_option linter.unusedVariables false

/-- All nodes lie in blocks of that kind. -/
def Av (P : Nat → Prop) : Option Addr → Fo → Prop
  | _, .nil => True
  | a, .cons v ka kc k r => (∀ p, a = some p → P p.block) ∧ Av P ka k ∧ Av P (next10 a) r
/-- What hangs on them does. -/
def KAv (P : Nat → Prop) : Fo → Prop
  | .nil => True
  | .cons v ka kc k r => Av P ka k ∧ KAv P r

theorem next_some (b o : Nat) : next10 (some (⟨b, o, none⟩ : Addr)) = some ⟨b, o + 10, none⟩ := rfl
theorem av_in {w : World} : ∀ {f : Fo} {a : Option Addr}, In w a f → Av (fun b => b < w.heap.size) a f := by
  intro f
  induction f with
  | nil => intro a _; trivial
  | cons v ka kc k r ihk ihr =>
    intro a h
    obtain ⟨b, o, rfl, hat, _, _, hk, hr⟩ := h
    refine ⟨fun p hp => ?_, ihk hk, ?_⟩
    · cases hp
      exact World.block_lt_of_cell? w _ (hat.cell 0 _ rfl)
    · rw [next_some]
      exact ihr hr
theorem Av.mono {P P' : Nat → Prop} (hP : ∀ b, P b → P' b) : ∀ {f : Fo} {a : Option Addr}, Av P a f → Av P' a f := by
  intro f
  induction f with
  | nil => intro a _; trivial
  | cons v ka kc k r ihk ihr => intro a h; exact ⟨fun p hp => hP _ (h.1 p hp), ihk h.2.1, ihr h.2.2⟩
theorem Av.kids {P : Nat → Prop} : ∀ {f : Fo} {a : Option Addr}, Av P a f → KAv P f := by
  intro f
  induction f with
  | nil => intro a _; trivial
  | cons v ka kc k r ihk ihr => intro a h; exact ⟨h.2.1, ihr h.2.2⟩
theorem KAv.mono {P P' : Nat → Prop} (hP : ∀ b, P b → P' b) : ∀ {f : Fo}, KAv P f → KAv P' f := by
  intro f
  induction f with
  | nil => intro _; trivial
  | cons v ka kc k r ihk ihr => intro h; exact ⟨h.1.mono hP, ihr h.2⟩
theorem av_of_kids {P : Nat → Prop} {b : Nat} (hb : P b) : ∀ {f : Fo} {o : Nat}, KAv P f → Av P (some ⟨b, o, none⟩) f := by
  intro f
  induction f with
  | nil => intro o _; trivial
  | cons v ka kc k r ihk ihr =>
    intro o h
    refine ⟨fun p hp => by cases hp; exact hb, h.1, ?_⟩
    rw [next_some]
    exact ihr h.2
theorem KAv.app {P : Nat → Prop} : ∀ {f g : Fo}, KAv P f → KAv P g → KAv P (f.app g) := by
  intro f
  induction f with
  | nil => intro g _ h; exact h
  | cons v ka kc k r ihk ihr => intro g h h'; exact ⟨h.1, ihr h.2 h'⟩
theorem KAv.take {P : Nat → Prop} : ∀ {f : Fo} (i : Nat), KAv P f → KAv P (f.take i) := by
  intro f
  induction f with
  | nil => intro i _; cases i <;> trivial
  | cons v ka kc k r ihk ihr =>
    intro i h
    cases i with
    | zero => trivial
    | succ i => exact ⟨h.1, ihr i h.2⟩
theorem KAv.drop {P : Nat → Prop} : ∀ {f : Fo} (i : Nat), KAv P f → KAv P (f.drop i) := by
  intro f
  induction f with
  | nil => intro i _; cases i <;> trivial
  | cons v ka kc k r ihk ihr =>
    intro i h
    cases i with
    | zero => exact h
    | succ i => exact ihr i h.2
theorem KI.take {w : World} : ∀ {f : Fo} (i : Nat), KI w f → KI w (f.take i) := by
  intro f
  induction f with
  | nil => intro i _; cases i <;> trivial
  | cons v ka kc k r ihk ihr =>
    intro i h
    cases i with
    | zero => trivial
    | succ i => exact ⟨h.1, h.2.1, h.2.2.1, ihr i h.2.2.2⟩
theorem in_set {w : World} {p : Addr} {u : Value} : ∀ {f : Fo} {a : Option Addr}, In w a f → Av (fun b => b ≠ p.block) a f → In (w.setCell p u) a f := by
  intro f
  induction f with
  | nil => intro a _ _; trivial
  | cons v ka kc k r ihk ihr =>
    intro a h h'
    obtain ⟨b, o, rfl, hat, h1, h2, h3, h4⟩ := h
    have hb : b ≠ p.block := h'.1 _ rfl
    refine ⟨b, o, rfl, fun j hj => ?_, h1, h2, ihk h3 h'.2.1, ihr h4 (by have := h'.2.2; rw [next_some] at this; exact this)⟩
    rw [← hat j hj]
    exact World.cell?_of_block (Below.heap_setCell _ _ _ _ hb)
theorem ki_set {w : World} {p : Addr} {u : Value} : ∀ {f : Fo}, KI w f → KAv (fun b => b ≠ p.block) f → KI (w.setCell p u) f := by
  intro f
  induction f with
  | nil => intro _ _; trivial
  | cons v ka kc k r ihk ihr => intro h h'; exact ⟨h.1, h.2.1, in_set h.2.2.1 h'.1, ihr h.2.2.2 h'.2⟩
/-- A cell that is written with what it holds. -/
theorem setCell_same {w : World} {b j : Nat} {cur : Array Value} {t : TypeId} {u : Value} (h : w.heap[b]? = some (.cells cur t (0, 0))) (hj : cur[j]? = some u) : w.setCell ⟨b, j, none⟩ u = w := by
  have hlt := lt_of_block h
  have hb : w.heap[b] = .cells cur t (0, 0) := by simpa [Array.getElem?_eq_getElem hlt] using h
  have e : (w.setCell ⟨b, j, none⟩ u).heap = w.heap := by
    apply Array.ext
    · simp
    · intro i h1 h2
      by_cases e : i = b
      · subst e
        have := block_setCell (j := j) h u
        rw [Array.getElem?_eq_getElem (by simpa using hlt)] at this
        have hs : cur.setIfInBounds j u = cur := by
          apply Array.ext
          · simp
          · intro x hx1 hx2
            rw [Array.getElem_setIfInBounds hx2]
            split
            · rename_i e'
              subst e'
              rw [Array.getElem?_eq_getElem hx2] at hj
              exact (Option.some.inj hj).symm
            · rfl
        rw [hs] at this
        rw [Option.some.inj this, hb]
      · have := Below.heap_setCell w ⟨b, j, none⟩ u i e
        rw [Array.getElem?_eq_getElem h1, Array.getElem?_eq_getElem h2] at this
        exact Option.some.inj this
  have e2 : w.setCell ⟨b, j, none⟩ u = { w with heap := (w.setCell ⟨b, j, none⟩ u).heap } := rfl
  rw [e2, e]

/-- A forest that lies in other blocks than the row that grew. -/
theorem in_grown {w w' : World} {row : Option Nat} (hg : w.grownBy w' row) : ∀ {f : Fo} {a : Option Addr}, In w a f → Av (fun b => row ≠ some b) a f → In w' a f := by
  intro f
  induction f with
  | nil => intro a _ _; trivial
  | cons v ka kc k r ihk ihr =>
    intro a h hav
    obtain ⟨b, o, rfl, hat, hv, hs, hk, hr⟩ := h
    obtain ⟨h1, h2, h3⟩ := hav
    refine ⟨b, o, rfl, fun j hj => ?_, hv, hs, ihk hk h2, ihr hr h3⟩
    have hc := hat j hj
    rw [hg.cell_far ⟨b, o + j, none⟩ ?_ ?_]
    · exact hc
    · have : ∃ u, w.cell? ⟨b, o + j, none⟩ = some u := by
        rw [hc]
        exact ⟨_, List.getElem?_eq_getElem hj⟩
      obtain ⟨u, hu⟩ := this
      exact World.block_lt_of_cell? w _ hu
    · exact fun e => h1 ⟨b, o, none⟩ rfl e.symm
theorem ki_grown {w w' : World} {row : Option Nat} (hg : w.grownBy w' row) : ∀ {f : Fo}, KI w f → KAv (fun b => row ≠ some b) f → KI w' f := by
  intro f
  induction f with
  | nil => intro _ _; trivial
  | cons v ka kc k r _ ihr =>
    intro h hav
    obtain ⟨hv, hs, hk, hr⟩ := h
    exact ⟨hv, hs, in_grown hg hk hav.1, ihr hr hav.2⟩
theorem kav_lt {w : World} : ∀ {f : Fo}, KI w f → KAv (fun b => b < w.heap.size) f := by
  intro f
  induction f with
  | nil => intro _; trivial
  | cons v ka kc k r _ ihr =>
    intro h
    obtain ⟨hv, hs, hk, hr⟩ := h
    exact ⟨av_in hk, ihr hr⟩
theorem Av.and {P P' : Nat → Prop} : ∀ {f : Fo} {a : Option Addr}, Av P a f → Av P' a f → Av (fun b => P b ∧ P' b) a f := by
  intro f
  induction f with
  | nil => intro a _ _; trivial
  | cons v ka kc k r ihk ihr => intro a h h'; exact ⟨fun p hp => ⟨h.1 p hp, h'.1 p hp⟩, ihk h.2.1 h'.2.1, ihr h.2.2 h'.2.2⟩
theorem KAv.and {P P' : Nat → Prop} : ∀ {f : Fo}, KAv P f → KAv P' f → KAv (fun b => P b ∧ P' b) f := by
  intro f
  induction f with
  | nil => intro _ _; trivial
  | cons v ka kc k r _ ihr => intro h h'; exact ⟨h.1.and h'.1, ihr h.2 h'.2⟩

end Go.Proofs.YtoilhcklflmamaaGreatDoor
