/-
  An argument that is an instruction, or code, opens; the least functions of layer 13 and of the document's answer for it: contracts over the program, for every number.
-/
import Derived.Test.YtiiggldapncknaaIrA
namespace Go.Proofs.Ytiiggldapncknaa
open Go.RowKit Go.Deep
set_option linter.unusedVariables false

variable {H : Type} {enc : TypeId × Value → H} {w : World} {base : Nat} {spare : Nat → Bool} {held : Bool}

theorem Try.cellsInt : Try.prog.cellsOf 3 = 1 := by kernel_rfl
theorem Try.cellsI64 : Try.prog.cellsOf 2 = 1 := by kernel_rfl
theorem Try.cellsU8 : Try.prog.cellsOf 5 = 1 := by kernel_rfl
theorem Try.cellsBool : Try.prog.cellsOf 4 = 1 := by kernel_rfl
theorem Try.cellsInts : Try.prog.cellsOf 22 = 1 := by kernel_rfl
theorem Try.cellsI64s : Try.prog.cellsOf 23 = 1 := by kernel_rfl
theorem Try.cellsInsts : Try.prog.cellsOf 42 = 1 := by kernel_rfl
theorem Try.cellsParts : Try.prog.cellsOf 39 = 1 := by kernel_rfl
theorem Try.cellsFns : Try.prog.cellsOf 24 = 1 := by kernel_rfl
theorem Try.cellsInst : Try.prog.cellsOf 33 = 7 := by kernel_rfl
theorem Try.cellsPart : Try.prog.cellsOf 44 = 5 := by kernel_rfl
theorem Try.cellsFn : Try.prog.cellsOf 41 = 4 := by kernel_rfl
theorem Try.cellsCode : Try.prog.cellsOf 26 = 3 := by kernel_rfl

theorem Try.bytesInt : Try.prog.bytesOf 3 = 8 := by kernel_rfl
theorem Try.bytesI64 : Try.prog.bytesOf 2 = 8 := by kernel_rfl
theorem Try.bytesInst : Try.prog.bytesOf 33 = 64 := by kernel_rfl
theorem Try.bytesPart : Try.prog.bytesOf 44 = 56 := by kernel_rfl
theorem Try.bytesFn : Try.prog.bytesOf 41 = 64 := by kernel_rfl

theorem At.one {cs : List Value} {b o : Nat} {u : Value} (h : At w b o cs) (e : cs = [u]) : w.cell? ⟨b, o, none⟩ = some u := by
  subst e
  exact h.cell 0 _ rfl

theorem open_ints {fuel : Nat} {u : Value} {x : DataW H × List MemPlace} (h : DataW.trod enc Try.prog w base spare held fuel 22 [u] = some x) (hw : Light 22 x.1) : ∃ a c l, u = .slice a (List.length l) c ∧ sok 8 a l.length c ∧ Ints w a l :=
  open_lst Try.underlying22 Try.cellsInt Try.bytesInt h hw fun n cs y b o hn ht hy hat => by
    obtain ⟨z, c, _, wz⟩ := DataW.trod_int Try.underlying3 ht
    exact ⟨z, hat.one c, wf64 wz⟩
theorem open_i64s {fuel : Nat} {u : Value} {x : DataW H × List MemPlace} (h : DataW.trod enc Try.prog w base spare held fuel 23 [u] = some x) (hw : Light 23 x.1) : ∃ a c l, u = .slice a (List.length l) c ∧ sok 8 a l.length c ∧ Ints w a l :=
  open_lst Try.underlying23 Try.cellsI64 Try.bytesI64 h hw fun n cs y b o hn ht hy hat => by
    obtain ⟨z, c, _, wz⟩ := DataW.trod_int Try.underlying2 ht
    exact ⟨z, hat.one c, wf64 wz⟩

theorem open_inst {fuel : Nat} {cs : List Value} {x : DataW H × List MemPlace} (h : DataW.trod enc Try.prog w base spare held fuel 33 cs = some x) (hw : Light 33 x.1) : ∃ v : PI, cs = v.cells ∧ v.ok w := by
  obtain ⟨xs, n, rfl, rfl, hl, hxl, hf⟩ := DataW.trod_struct Try.underlying33 h
  have hp := @Light.part H 33 _ Try.underlying33 xs [] hw
  rw [Try.cellsInst] at hl
  have g0 : DataW.trod enc Try.prog w base spare held n 5 ((cs.drop 0).take (Try.prog.cellsOf 5)) = xs[0]? := hf 0 _ rfl
  have g1 : DataW.trod enc Try.prog w base spare held n 5 ((cs.drop 1).take (Try.prog.cellsOf 5)) = xs[1]? := hf 1 _ rfl
  have g2 : DataW.trod enc Try.prog w base spare held n 3 ((cs.drop 2).take (Try.prog.cellsOf 3)) = xs[2]? := hf 2 _ rfl
  have g3 : DataW.trod enc Try.prog w base spare held n 3 ((cs.drop 3).take (Try.prog.cellsOf 3)) = xs[3]? := hf 3 _ rfl
  have g4 : DataW.trod enc Try.prog w base spare held n 3 ((cs.drop 4).take (Try.prog.cellsOf 3)) = xs[4]? := hf 4 _ rfl
  have g5 : DataW.trod enc Try.prog w base spare held n 2 ((cs.drop 5).take (Try.prog.cellsOf 2)) = xs[5]? := hf 5 _ rfl
  have g6 : DataW.trod enc Try.prog w base spare held n 22 ((cs.drop 6).take (Try.prog.cellsOf 22)) = xs[6]? := hf 6 _ rfl
  simp only [Try.cellsU8, Try.cellsInt, Try.cellsI64, Try.cellsInts] at g0 g1 g2 g3 g4 g5 g6
  have ex : ∀ i, i < 7 → ∃ y, xs[i]? = some y := fun i hi => ⟨_, List.getElem?_eq_getElem (by rw [hxl]; exact hi)⟩
  obtain ⟨y0, e0⟩ := ex 0 (by decide)
  obtain ⟨y1, e1⟩ := ex 1 (by decide)
  obtain ⟨y2, e2⟩ := ex 2 (by decide)
  obtain ⟨y3, e3⟩ := ex 3 (by decide)
  obtain ⟨y4, e4⟩ := ex 4 (by decide)
  obtain ⟨y5, e5⟩ := ex 5 (by decide)
  obtain ⟨y6, e6⟩ := ex 6 (by decide)
  rw [e0] at g0
  rw [e1] at g1
  rw [e2] at g2
  rw [e3] at g3
  rw [e4] at g4
  rw [e5] at g5
  rw [e6] at g6
  obtain ⟨z0, c0, _, w0⟩ := DataW.trod_int Try.underlying5 g0
  obtain ⟨z1, c1, _, w1⟩ := DataW.trod_int Try.underlying5 g1
  obtain ⟨z2, c2, _, w2⟩ := DataW.trod_int Try.underlying3 g2
  obtain ⟨z3, c3, _, w3⟩ := DataW.trod_int Try.underlying3 g3
  obtain ⟨z4, c4, _, w4⟩ := DataW.trod_int Try.underlying3 g4
  obtain ⟨z5, c5, _, w5⟩ := DataW.trod_int Try.underlying2 g5
  match cs, hl with
  | [a0, a1, a2, a3, a4, a5, a6], _ =>
    simp at c0 c1 c2 c3 c4 c5 g6
    obtain ⟨aa, ac, l, rfl, hs, hi⟩   := open_ints g6 (hp (j := 6) rfl e6)
    subst c0 c1 c2 c3 c4 c5
    exact ⟨⟨z0, z1, z2, z3, z4, z5, l, aa, ac⟩, rfl, ⟨wf8 w0, wf8 w1, wf64 w2, wf64 w3, wf64 w4, wf64 w5, hs, hi⟩⟩

theorem open_insts {fuel : Nat} {u : Value} {x : DataW H × List MemPlace} (h : DataW.trod enc Try.prog w base spare held fuel 42 [u] = some x) (hw : Light 42 x.1) : ∃ a c l, u = .slice a (List.length l) c ∧ sok 64 a l.length c ∧ Insts w a l :=
  open_lst Try.underlying42 Try.cellsInst Try.bytesInst h hw fun n cs y b o hn ht hy hat => by
    obtain ⟨v, rfl, hv⟩ := open_inst ht hy
    exact ⟨v, hat, hv⟩

theorem open_part {fuel : Nat} {cs : List Value} {x : DataW H × List MemPlace} (h : DataW.trod enc Try.prog w base spare held fuel 44 cs = some x) (hw : Light 44 x.1) : ∃ v : PP, cs = v.cells ∧ v.ok w := by
  obtain ⟨xs, n, rfl, rfl, hl, hxl, hf⟩ := DataW.trod_struct Try.underlying44 h
  have hp := @Light.part H 44 _ Try.underlying44 xs [] hw
  rw [Try.cellsPart] at hl
  have g0 : DataW.trod enc Try.prog w base spare held n 42 ((cs.drop 0).take (Try.prog.cellsOf 42)) = xs[0]? := hf 0 _ rfl
  have g1 : DataW.trod enc Try.prog w base spare held n 4 ((cs.drop 1).take (Try.prog.cellsOf 4)) = xs[1]? := hf 1 _ rfl
  have g2 : DataW.trod enc Try.prog w base spare held n 3 ((cs.drop 2).take (Try.prog.cellsOf 3)) = xs[2]? := hf 2 _ rfl
  have g3 : DataW.trod enc Try.prog w base spare held n 3 ((cs.drop 3).take (Try.prog.cellsOf 3)) = xs[3]? := hf 3 _ rfl
  have g4 : DataW.trod enc Try.prog w base spare held n 3 ((cs.drop 4).take (Try.prog.cellsOf 3)) = xs[4]? := hf 4 _ rfl
  simp only [Try.cellsInsts, Try.cellsInt, Try.cellsBool] at g0 g1 g2 g3 g4
  have ex : ∀ i, i < 5 → ∃ y, xs[i]? = some y := fun i hi => ⟨_, List.getElem?_eq_getElem (by rw [hxl]; exact hi)⟩
  obtain ⟨y0, e0⟩ := ex 0 (by decide)
  obtain ⟨y1, e1⟩ := ex 1 (by decide)
  obtain ⟨y2, e2⟩ := ex 2 (by decide)
  obtain ⟨y3, e3⟩ := ex 3 (by decide)
  obtain ⟨y4, e4⟩ := ex 4 (by decide)
  rw [e0] at g0
  rw [e1] at g1
  rw [e2] at g2
  rw [e3] at g3
  rw [e4] at g4
  obtain ⟨z1, c1, _⟩ := DataW.trod_bool Try.underlying4 g1
  obtain ⟨z2, c2, _, w2⟩ := DataW.trod_int Try.underlying3 g2
  obtain ⟨z3, c3, _, w3⟩ := DataW.trod_int Try.underlying3 g3
  obtain ⟨z4, c4, _, w4⟩ := DataW.trod_int Try.underlying3 g4
  match cs, hl with
  | [a0, a1, a2, a3, a4], _ =>
    simp at c1 c2 c3 c4 g0
    obtain ⟨aa, ac, l, rfl, hs, hi⟩ := open_insts g0 (hp (j := 0) rfl e0)
    subst c1 c2 c3 c4
    exact ⟨⟨l, z1, z2, z3, z4, aa, ac⟩, rfl, ⟨wf64 w2, wf64 w3, wf64 w4, hs, hi⟩⟩

theorem open_parts {fuel : Nat} {u : Value} {x : DataW H × List MemPlace} (h : DataW.trod enc Try.prog w base spare held fuel 39 [u] = some x) (hw : Light 39 x.1) : ∃ a c l, u = .slice a (List.length l) c ∧ sok 56 a l.length c ∧ Prts w a l :=
  open_lst Try.underlying39 Try.cellsPart Try.bytesPart h hw fun n cs y b o hn ht hy hat => by
    obtain ⟨v, rfl, hv⟩ := open_part ht hy
    exact ⟨v, hat, hv⟩

theorem open_fn {fuel : Nat} {cs : List Value} {x : DataW H × List MemPlace} (h : DataW.trod enc Try.prog w base spare held fuel 41 cs = some x) (hw : Light 41 x.1) : ∃ v : PF, cs = v.cells ∧ v.ok w := by
  obtain ⟨xs, n, rfl, rfl, hl, hxl, hf⟩ := DataW.trod_struct Try.underlying41 h
  have hp := @Light.part H 41 _ Try.underlying41 xs [] hw
  rw [Try.cellsFn] at hl
  have g0 : DataW.trod enc Try.prog w base spare held n 3 ((cs.drop 0).take (Try.prog.cellsOf 3)) = xs[0]? := hf 0 _ rfl
  have g1 : DataW.trod enc Try.prog w base spare held n 3 ((cs.drop 1).take (Try.prog.cellsOf 3)) = xs[1]? := hf 1 _ rfl
  have g2 : DataW.trod enc Try.prog w base spare held n 22 ((cs.drop 2).take (Try.prog.cellsOf 22)) = xs[2]? := hf 2 _ rfl
  have g3 : DataW.trod enc Try.prog w base spare held n 39 ((cs.drop 3).take (Try.prog.cellsOf 39)) = xs[3]? := hf 3 _ rfl
  simp only [Try.cellsInts, Try.cellsInt, Try.cellsParts] at g0 g1 g2 g3
  have ex : ∀ i, i < 4 → ∃ y, xs[i]? = some y := fun i hi => ⟨_, List.getElem?_eq_getElem (by rw [hxl]; exact hi)⟩
  obtain ⟨y0, e0⟩ := ex 0 (by decide)
  obtain ⟨y1, e1⟩ := ex 1 (by decide)
  obtain ⟨y2, e2⟩ := ex 2 (by decide)
  obtain ⟨y3, e3⟩ := ex 3 (by decide)
  rw [e0] at g0
  rw [e1] at g1
  rw [e2] at g2
  rw [e3] at g3
  obtain ⟨z0, c0, _, w0⟩ := DataW.trod_int Try.underlying3 g0
  obtain ⟨z1, c1, _, w1⟩ := DataW.trod_int Try.underlying3 g1
  match cs, hl with
  | [a0, a1, a2, a3], _ =>
    simp at c0 c1 g2 g3
    obtain ⟨sa, sc, sl, rfl, hs, hi⟩ := open_ints g2 (hp (j := 2) rfl e2)
    obtain ⟨pa, pc, pl, rfl, hs2, hi2⟩ := open_parts g3 (hp (j := 3) rfl e3)
    subst c0 c1
    exact ⟨⟨z0, z1, sl, pl, sa, sc, pa, pc⟩, rfl, ⟨wf64 w0, wf64 w1, hs, hi, hs2, hi2⟩⟩

theorem open_fns {fuel : Nat} {u : Value} {x : DataW H × List MemPlace} (h : DataW.trod enc Try.prog w base spare held fuel 24 [u] = some x) (hw : Light 24 x.1) : ∃ a c l, u = .slice a (List.length l) c ∧ sok 64 a l.length c ∧ Fns w a l :=
  open_lst Try.underlying24 Try.cellsFn Try.bytesFn h hw fun n cs y b o hn ht hy hat => by
    obtain ⟨v, rfl, hv⟩ := open_fn ht hy
    exact ⟨v, hat, hv⟩

theorem open_code0 {fuel : Nat} {cs : List Value} {x : DataW H × List MemPlace} (h : DataW.trod enc Try.prog w base spare held fuel 26 cs = some x) (hw : Light 26 x.1) : ∃ v : PC, cs = v.cells ∧ v.ok w := by
  obtain ⟨xs, n, rfl, rfl, hl, hxl, hf⟩ := DataW.trod_struct Try.underlying26 h
  have hp := @Light.part H 26 _ Try.underlying26 xs [] hw
  rw [Try.cellsCode] at hl
  have g0 : DataW.trod enc Try.prog w base spare held n 22 ((cs.drop 0).take (Try.prog.cellsOf 22)) = xs[0]? := hf 0 _ rfl
  have g1 : DataW.trod enc Try.prog w base spare held n 23 ((cs.drop 1).take (Try.prog.cellsOf 23)) = xs[1]? := hf 1 _ rfl
  have g2 : DataW.trod enc Try.prog w base spare held n 24 ((cs.drop 2).take (Try.prog.cellsOf 24)) = xs[2]? := hf 2 _ rfl
  simp only [Try.cellsInts, Try.cellsI64s, Try.cellsFns] at g0 g1 g2
  have ex : ∀ i, i < 3 → ∃ y, xs[i]? = some y := fun i hi => ⟨_, List.getElem?_eq_getElem (by rw [hxl]; exact hi)⟩
  obtain ⟨y0, e0⟩ := ex 0 (by decide)
  obtain ⟨y1, e1⟩ := ex 1 (by decide)
  obtain ⟨y2, e2⟩ := ex 2 (by decide)
  rw [e0] at g0
  rw [e1] at g1
  rw [e2] at g2
  match cs, hl with
  | [a0, a1, a2], _ =>
    simp at g0 g1 g2
    obtain ⟨sa, sc, sl, rfl, hs, hi⟩ := open_ints g0 (hp (j := 0) rfl e0)
    obtain ⟨na, nc, nl, rfl, hs1, hi1⟩ := open_i64s g1 (hp (j := 1) rfl e1)
    obtain ⟨pa, pc, pl, rfl, hs2, hi2⟩ := open_fns g2 (hp (j := 2) rfl e2)
    exact ⟨⟨sl, nl, pl, sa, sc, na, nc, pa, pc⟩, rfl, ⟨hs, hi, hs1, hi1, hs2, hi2⟩⟩

/-- An argument that is an instruction. -/
theorem open_arg_inst {v0 : Value} {d : DataW H} {ps : List MemPlace} (h : DataW.Trod enc Try.prog w base spare held 33 v0 d ps) (hw : Light 33 d) : ∃ v : PI, v0 = v.v ∧ v.ok w := by
  obtain ⟨fuel, h⟩ := h
  obtain ⟨v, e, hv⟩ := open_inst h hw
  refine ⟨v, ?_, hv⟩
  have e' := congrArg List.toArray e
  rw [Array.toArray_toList] at e'
  cases v0 with
  | agg cs => simpa [Value.cells, PI.cells] using e'
  | _ => simp [Value.cells, PI.cells] at e'
/-- An argument that is code. -/
theorem open_arg_code {v0 : Value} {d : DataW H} {ps : List MemPlace} (h : DataW.Trod enc Try.prog w base spare held 26 v0 d ps) (hw : Light 26 d) : ∃ v : PC, v0 = v.v ∧ v.ok w := by
  obtain ⟨fuel, h⟩ := h
  obtain ⟨v, e, hv⟩ := open_code0 h hw
  refine ⟨v, ?_, hv⟩
  have e' := congrArg List.toArray e
  rw [Array.toArray_toList] at e'
  cases v0 with
  | agg cs => simpa [Value.cells, PC.cells] using e'
  | _ => simp [Value.cells, PC.cells] at e'

end Go.Proofs.Ytiiggldapncknaa
