/-
  An argument that is an instruction of the machine opens; the two statements' walks: facts over readings and the program; no conditions but those that each fact bears.
-/
import Derived.Test.YtdmbpdfbljhdlaaCdB
import Derived.OpenShut
import Derived.Deep.Slices
namespace Go.Proofs.Ytdmbpdfbljhdlaa.Cd
open Go.RowKit Go.Deep
set_option linter.unusedVariables false

variable {H : Type} {enc : TypeId × Value → H} {w : World} {base : Nat} {spare : Nat → Bool} {held : Bool}

structure PW where
  o : Int
  t : Int
  d : Int
  a : Int
  b : Int
  i : Int
def B8 (z : Int) : Prop := 0 ≤ z ∧ z ≤ 255
structure PW.ok (x : PW) : Prop where
  o : B8 x.o
  t : B8 x.t
  d : B8 x.d
  a : B8 x.a
  b : B8 x.b
  i : 0 ≤ x.i ∧ x.i ≤ 4294967295
theorem wf8 {z : Int} (h : (Lit.int .u8 z).wf = true) : B8 z := by
  simpa [B8, Lit.wf, IntKind.min, IntKind.max, IntKind.signed, IntKind.bits] using h
theorem wf32 {z : Int} (h : (Lit.int .u32 z).wf = true) : 0 ≤ z ∧ z ≤ 4294967295 := by
  simpa [Lit.wf, IntKind.min, IntKind.max, IntKind.signed, IntKind.bits] using h
theorem wfu64 {z : Int} (h : (Lit.int .u64 z).wf = true) : U64 z := by
  have : 0 ≤ z ∧ z ≤ 18446744073709551615 := by simpa [Lit.wf, IntKind.min, IntKind.max, IntKind.signed, IntKind.bits] using h
  exact ⟨this.1, by omega⟩
theorem Try.cellsU8 : Try.prog.cellsOf 5 = 1 := by kernel_rfl
theorem Try.cellsU32 : Try.prog.cellsOf 22 = 1 := by kernel_rfl
theorem Try.cellsWord : Try.prog.cellsOf 24 = 6 := by kernel_rfl

set_option maxRecDepth 100000 in
theorem open_word {fuel : Nat} {cs : List Value} {x : DataW H × List MemPlace} (h : DataW.trod enc Try.prog w base spare held fuel 24 cs = some x) : ∃ v : PW, cs = [.int .u8 v.o, .int .u8 v.t, .int .u8 v.d, .int .u8 v.a, .int .u8 v.b, .int .u32 v.i] ∧ v.ok := by
  obtain ⟨xs, n, rfl, rfl, hl, hxl, hf⟩ := DataW.trod_struct Try.underlying24 h
  rw [Try.cellsWord] at hl
  have g0 : DataW.trod enc Try.prog w base spare held n 5 ((cs.drop 0).take (Try.prog.cellsOf 5)) = xs[0]? := hf 0 _ rfl
  have g1 : DataW.trod enc Try.prog w base spare held n 5 ((cs.drop 1).take (Try.prog.cellsOf 5)) = xs[1]? := hf 1 _ rfl
  have g2 : DataW.trod enc Try.prog w base spare held n 5 ((cs.drop 2).take (Try.prog.cellsOf 5)) = xs[2]? := hf 2 _ rfl
  have g3 : DataW.trod enc Try.prog w base spare held n 5 ((cs.drop 3).take (Try.prog.cellsOf 5)) = xs[3]? := hf 3 _ rfl
  have g4 : DataW.trod enc Try.prog w base spare held n 5 ((cs.drop 4).take (Try.prog.cellsOf 5)) = xs[4]? := hf 4 _ rfl
  have g5 : DataW.trod enc Try.prog w base spare held n 22 ((cs.drop 5).take (Try.prog.cellsOf 22)) = xs[5]? := hf 5 _ rfl
  simp only [Try.cellsU8, Try.cellsU32] at g0 g1 g2 g3 g4 g5
  have ex : ∀ i, i < 6 → ∃ y, xs[i]? = some y := fun i hi => ⟨_, List.getElem?_eq_getElem (by rw [hxl]; exact hi)⟩
  obtain ⟨y0, e0⟩ := ex 0 (by decide)
  obtain ⟨y1, e1⟩ := ex 1 (by decide)
  obtain ⟨y2, e2⟩ := ex 2 (by decide)
  obtain ⟨y3, e3⟩ := ex 3 (by decide)
  obtain ⟨y4, e4⟩ := ex 4 (by decide)
  obtain ⟨y5, e5⟩ := ex 5 (by decide)
  rw [e0] at g0
  rw [e1] at g1
  rw [e2] at g2
  rw [e3] at g3
  rw [e4] at g4
  rw [e5] at g5
  obtain ⟨z0, c0, _, w0⟩ := DataW.trod_int Try.underlying5 g0
  obtain ⟨z1, c1, _, w1⟩ := DataW.trod_int Try.underlying5 g1
  obtain ⟨z2, c2, _, w2⟩ := DataW.trod_int Try.underlying5 g2
  obtain ⟨z3, c3, _, w3⟩ := DataW.trod_int Try.underlying5 g3
  obtain ⟨z4, c4, _, w4⟩ := DataW.trod_int Try.underlying5 g4
  obtain ⟨z5, c5, _, w5⟩ := DataW.trod_int Try.underlying22 g5
  match cs, hl with
  | [a0, a1, a2, a3, a4, a5], _ =>
    simp at c0 c1 c2 c3 c4 c5
    subst c0 c1 c2 c3 c4 c5
    exact ⟨⟨z0, z1, z2, z3, z4, z5⟩, rfl, ⟨wf8 w0, wf8 w1, wf8 w2, wf8 w3, wf8 w4, wf32 w5⟩⟩
theorem open_arg_word {v0 : Value} {d : DataW H} {ps : List MemPlace} (h : DataW.Trod enc Try.prog w base spare held 24 v0 d ps) : ∃ v : PW, v0 = wv v.o v.t v.d v.a v.b v.i ∧ v.ok := by
  obtain ⟨fuel, h⟩ := h
  obtain ⟨v, e, hv⟩ := open_word h
  refine ⟨v, ?_, hv⟩
  have e' := congrArg List.toArray e
  rw [Array.toArray_toList] at e'
  cases v0 with
  | agg cs => simpa [Value.cells] using e'
  | _ => simp [Value.cells] at e'

theorem words_any (x : PW) (w : World) (h : x.ok) : Calls Try.prog 3 #[wv x.o x.t x.d x.a x.b x.i] w fun e w' => e = .returned (.bool true) ∧ Q w w' := by
  by_cases hg : 15 < x.t ∨ 15 < x.d ∨ 15 < x.a ∨ 15 < x.b
  · exact words_bad _ _ _ _ _ _ w hg
  · have := h.t.1; have := h.d.1; have := h.a.1; have := h.b.1
    exact words_ok _ _ _ _ _ _ w h.o ⟨by omega, by omega⟩ ⟨by omega, by omega⟩ ⟨by omega, by omega⟩ ⟨by omega, by omega⟩ h.i

end Go.Proofs.Ytdmbpdfbljhdlaa.Cd
