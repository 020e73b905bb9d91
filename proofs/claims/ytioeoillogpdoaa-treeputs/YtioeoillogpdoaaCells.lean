/-
  A forest as the cells of one block, forests that are copies of one another, and forests that stay while other blocks are written: facts on worlds; no conditions but those that each fact bears.
-/
import Derived.Test.YtioeoillogpdoaaSameA
namespace Go.Proofs.Ytioeoillogpdoaa
open Go.RowKit
set_option linter.unusedVariables false

namespace Fo
def app : Fo → Fo → Fo
  | nil, g => g
  | cons v a c k r, g => cons v a c k (app r g)
def take : Nat → Fo → Fo
  | 0, _ => nil
  | _ + 1, nil => nil
  | i + 1, cons v a c k r => cons v a c k (r.take i)
end Fo

def cellsF : Fo → List Value
  | .nil => []
  | .cons v a c k r => cellsN v (.slice a k.len c) ++ cellsF r
/-- What hangs on the nodes of a list lies in memory. -/
def KI (w : World) : Fo → Prop
  | .nil => True
  | .cons v a c k r => v.ok ∧ sok a k.len c ∧ In w a k ∧ KI w r
/-- The same nodes, wherever they lie. -/
def Cp : Fo → Fo → Prop
  | .nil, .nil => True
  | .cons v _ _ k r, .cons v' _ _ k' r' => v' = v ∧ Cp k k' ∧ Cp r r'
  | _, _ => False
/-- All nodes lie in blocks from B on, ten cells apart. -/
def Lo (B : Nat) : Option Addr → Fo → Prop
  | _, .nil => True
  | a, .cons v ka kc k r => (∀ p, a = some p → B ≤ p.block ∧ p.off % 10 = 0) ∧ Lo B ka k ∧ Lo B (next10 a) r
/-- What hangs on them does. -/
def KLo (B : Nat) : Fo → Prop
  | .nil => True
  | .cons v ka kc k r => Lo B ka k ∧ KLo B r

theorem cellsN_len (v : NF) (s : Value) : (cellsN v s).length = 10 := rfl
theorem cellsF_len (f : Fo) : (cellsF f).length = f.len * 10 := by
  induction f with
  | nil => rfl
  | cons v a c k r _ ih => simp only [cellsF, List.length_append, cellsN_len, Fo.len, ih]; omega
theorem cellsF_app (f g : Fo) : cellsF (f.app g) = cellsF f ++ cellsF g := by
  induction f with
  | nil => rfl
  | cons v a c k r _ ih => simp only [Fo.app, cellsF, ih, List.append_assoc]
theorem app_len (f g : Fo) : (f.app g).len = f.len + g.len := by
  induction f with
  | nil => simp [Fo.app, Fo.len]
  | cons v a c k r _ ih => simp only [Fo.app, Fo.len, ih]; omega
theorem take_drop (f : Fo) : ∀ i, (f.take i).app (f.drop i) = f := by
  induction f with
  | nil => intro i; cases i <;> rfl
  | cons v a c k r _ ih =>
    intro i
    cases i with
    | zero => rfl
    | succ i => simp only [Fo.take, Fo.drop, Fo.app, ih i]

theorem In.cells {w : World} : ∀ {f : Fo} {b o : Nat}, In w (some ⟨b, o, none⟩) f → At w b o (cellsF f) := by
  intro f
  induction f with
  | nil => intro b o _ j hj; simp [cellsF] at hj
  | cons v ka kc k r _ ih =>
    rintro b o ⟨b', o', e, h1, _, _, _, h5⟩
    simp at e
    obtain ⟨rfl, rfl⟩ := e
    have hr := ih h5
    intro j hj
    simp only [cellsF, List.length_append, cellsN_len] at hj
    simp only [cellsF]
    by_cases hlt : j < 10
    · rw [List.getElem?_append_left (by rw [cellsN_len]; exact hlt)]
      exact h1 j (by rw [cellsN_len]; exact hlt)
    · rw [List.getElem?_append_right (by rw [cellsN_len]; omega), cellsN_len]
      have := hr (j - 10) (by omega)
      rw [← this, show o + 10 + (j - 10) = o + j by omega]
theorem In.kids {w : World} : ∀ {f : Fo} {a : Option Addr}, In w a f → KI w f := by
  intro f
  induction f with
  | nil => intro a _; trivial
  | cons v ka kc k r _ ih =>
    rintro a ⟨b, o, e, h1, h2, h3, h4, h5⟩
    exact ⟨h2, h3, h4, ih h5⟩
theorem In.of_cells {w : World} : ∀ {f : Fo} {b o : Nat}, At w b o (cellsF f) → KI w f → In w (some ⟨b, o, none⟩) f := by
  intro f
  induction f with
  | nil => intro b o _ _; trivial
  | cons v ka kc k r _ ih =>
    rintro b o h ⟨h2, h3, h4, h5⟩
    refine ⟨b, o, rfl, fun j hj => ?_, h2, h3, h4, ih (fun j hj => ?_) h5⟩
    · have := h j (by simp only [cellsF, List.length_append, cellsN_len]; rw [cellsN_len] at hj; omega)
      rw [this]
      simp only [cellsF]
      rw [List.getElem?_append_left hj]
    · have := h (10 + j) (by simp only [cellsF, List.length_append, cellsN_len]; omega)
      rw [show o + (10 + j) = o + 10 + j by omega] at this
      rw [this]
      simp only [cellsF]
      rw [List.getElem?_append_right (by rw [cellsN_len]; omega), cellsN_len, show 10 + j - 10 = j by omega]
theorem KI.keep {w w' : World} (hq : Q w w') : ∀ {f : Fo}, KI w f → KI w' f := by
  intro f
  induction f with
  | nil => intro _; trivial
  | cons v ka kc k r _ ih =>
    rintro ⟨h2, h3, h4, h5⟩
    exact ⟨h2, h3, h4.keep (Nat.le_refl _) hq, ih h5⟩
theorem KI.app {w : World} : ∀ {f g : Fo}, KI w f → KI w g → KI w (f.app g) := by
  intro f g
  induction f with
  | nil => intro _ h; exact h
  | cons v ka kc k r _ ih =>
    rintro ⟨h2, h3, h4, h5⟩ h
    exact ⟨h2, h3, h4, ih h5 h⟩
theorem KI.drop {w : World} : ∀ {f : Fo} (i : Nat), KI w f → KI w (f.drop i) := by
  intro f
  induction f with
  | nil => intro i _; cases i <;> trivial
  | cons v ka kc k r _ ih =>
    intro i h
    cases i with
    | zero => exact h
    | succ i => exact ih i h.2.2.2

theorem Cp.refl : ∀ (f : Fo), Cp f f := by
  intro f
  induction f with
  | nil => trivial
  | cons v a c k r ihk ihr => exact ⟨rfl, ihk, ihr⟩
theorem Cp.len : ∀ {f g : Fo}, Cp f g → g.len = f.len := by
  intro f
  induction f with
  | nil => intro g h; cases g with
    | nil => rfl
    | cons => exact h.elim
  | cons v a c k r ihk ihr =>
    intro g h
    cases g with
    | nil => exact h.elim
    | cons v' a' c' k' r' => simp only [Fo.len, ihr h.2.2]
theorem Cp.size : ∀ {f g : Fo}, Cp f g → g.size = f.size := by
  intro f
  induction f with
  | nil => intro g h; cases g with
    | nil => rfl
    | cons => exact h.elim
  | cons v a c k r ihk ihr =>
    intro g h
    cases g with
    | nil => exact h.elim
    | cons v' a' c' k' r' => simp only [Fo.size, ihk h.2.1, ihr h.2.2]
theorem eqN_refl (v : NF) : eqN v v = true := by unfold eqN; simp
theorem Cp.same : ∀ {f g : Fo}, Cp f g → f.same g = true := by
  intro f
  induction f with
  | nil => intro g h; cases g with
    | nil => rfl
    | cons => exact h.elim
  | cons v a c k r ihk ihr =>
    intro g h
    cases g with
    | nil => exact h.elim
    | cons v' a' c' k' r' =>
      obtain ⟨rfl, h2, h3⟩ := h
      simp only [Fo.same, ihk h2, ihr h3, eqN_refl, Bool.and_self]
theorem Cp.app : ∀ {f g f' g' : Fo}, Cp f f' → Cp g g' → Cp (f.app g) (f'.app g') := by
  intro f
  induction f with
  | nil => intro g f' g' h h'; cases f' with
    | nil => exact h'
    | cons => exact h.elim
  | cons v a c k r ihk ihr =>
    intro g f' g' h h'
    cases f' with
    | nil => exact h.elim
    | cons => exact ⟨h.1, h.2.1, ihr h.2.2 h'⟩

theorem Lo.mono {B B' : Nat} (hB : B' ≤ B) : ∀ {f : Fo} {a : Option Addr}, Lo B a f → Lo B' a f := by
  intro f
  induction f with
  | nil => intro a _; trivial
  | cons v ka kc k r ihk ihr =>
    rintro a ⟨h1, h2, h3⟩
    exact ⟨fun p hp => ⟨Nat.le_trans hB (h1 p hp).1, (h1 p hp).2⟩, ihk h2, ihr h3⟩
theorem KLo.app {B : Nat} : ∀ {f g : Fo}, KLo B f → KLo B g → KLo B (f.app g) := by
  intro f g
  induction f with
  | nil => intro _ h; exact h
  | cons v ka kc k r _ ih => exact fun h h' => ⟨h.1, ih h.2 h'⟩
theorem Lo.of_kids {B : Nat} : ∀ {f : Fo} {b o : Nat}, B ≤ b → o % 10 = 0 → KLo B f → Lo B (some ⟨b, o, none⟩) f := by
  intro f
  induction f with
  | nil => intro b o _ _ _; trivial
  | cons v ka kc k r _ ih =>
    intro b o hb ho h
    exact ⟨fun p hp => by cases hp; exact ⟨hb, ho⟩, h.1, ih hb (by show (o + 10) % 10 = 0; omega) h.2⟩

/-- All nodes lie in blocks that may be written. -/
def FrN (w : World) : Option Addr → Fo → Prop
  | _, .nil => True
  | a, .cons v ka kc k r => (∀ p, a = some p → p.block < w.heap.size ∧ ∀ j, w.frozen? ⟨p.block, j, none⟩ = false) ∧ FrN w ka k ∧ FrN w (next10 a) r
def KFrN (w : World) : Fo → Prop
  | .nil => True
  | .cons v ka kc k r => FrN w ka k ∧ KFrN w r
theorem FrN.keep {w w' : World} (hq : Q w w') : ∀ {f : Fo} {a : Option Addr}, FrN w a f → FrN w' a f := by
  intro f
  induction f with
  | nil => intro a _; trivial
  | cons v ka kc k r ihk ihr =>
    rintro a ⟨h1, h2, h3⟩
    refine ⟨fun p hp => ?_, ihk h2, ihr h3⟩
    obtain ⟨l, z⟩ := h1 p hp
    exact ⟨Nat.lt_of_lt_of_le l hq.size, fun j => (hq.frozen (p := ⟨p.block, j, none⟩) l).trans (z j)⟩
theorem FrN.setCell {w : World} {q : Addr} {u : Value} : ∀ {f : Fo} {a : Option Addr}, FrN w a f → FrN (w.setCell q u) a f := by
  intro f
  induction f with
  | nil => intro a _; trivial
  | cons v ka kc k r ihk ihr =>
    rintro a ⟨h1, h2, h3⟩
    refine ⟨fun p hp => ?_, ihk h2, ihr h3⟩
    obtain ⟨l, z⟩ := h1 p hp
    exact ⟨by simpa using l, fun j => by simpa using z j⟩
theorem KFrN.keep {w w' : World} (hq : Q w w') : ∀ {f : Fo}, KFrN w f → KFrN w' f := by
  intro f
  induction f with
  | nil => intro _; trivial
  | cons v ka kc k r _ ih => exact fun h => ⟨h.1.keep hq, ih h.2⟩
theorem KFrN.setCell {w : World} {q : Addr} {u : Value} : ∀ {f : Fo}, KFrN w f → KFrN (w.setCell q u) f := by
  intro f
  induction f with
  | nil => intro _; trivial
  | cons v ka kc k r _ ih => exact fun h => ⟨h.1.setCell, ih h.2⟩
theorem KFrN.app {w : World} : ∀ {f g : Fo}, KFrN w f → KFrN w g → KFrN w (f.app g) := by
  intro f g
  induction f with
  | nil => intro _ h; exact h
  | cons v ka kc k r _ ih => exact fun h h' => ⟨h.1, ih h.2 h'⟩
theorem FrN.of_kids {w : World} : ∀ {f : Fo} {b o : Nat}, b < w.heap.size → (∀ j, w.frozen? ⟨b, j, none⟩ = false) → KFrN w f → FrN w (some ⟨b, o, none⟩) f := by
  intro f
  induction f with
  | nil => intro b o _ _ _; trivial
  | cons v ka kc k r _ ih =>
    intro b o hb ho h
    exact ⟨fun p hp => by cases hp; exact ⟨hb, ho⟩, h.1, ih hb ho h.2⟩

end Go.Proofs.Ytioeoillogpdoaa
