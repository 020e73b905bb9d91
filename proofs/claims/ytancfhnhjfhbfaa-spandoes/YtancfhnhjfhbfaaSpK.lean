/-
  How an array of numbers that is handed in reads; no conditions but those that each fact bears.
-/
import Derived.Test.YtancfhnhjfhbfaaSpJ
set_option linter.unusedVariables false
namespace Go.Proofs.Ytancfhnhjfhbfaa
open Go.ChangeShapes Go.WideShapes Go.RowKit
open Burin
set_option linter.unusedVariables false

theorem okWide_arr {P : Program} {w : World} {r : Reach} {base : Nat} {t : TypeId} {v : Value} {n : Nat} {e : TypeId} (ht : P.underlying t = some (.array n e)) (h : Value.okWide P w r base t v) : ∃ cs, v = .agg cs ∧ cs.size = P.cellsOf t := by
  unfold Value.okWide at h
  rw [ht] at h
  obtain ⟨cs, h1, h2, _⟩ := h
  exact ⟨cs, h1, h2⟩
/-- An array of numbers: each cell is one. -/
theorem open_arr {H : Type} {enc : TypeId × Value → H} {W : World} {r : Reach} {base b0 : Nat} {sp : Nat → Bool} {held : Bool} {v : Value} {d : DataW H} {ps : List MemPlace} {T : TypeId} {n : Nat}
    (ht : Try.prog.underlying T = some (.array n 2)) (hc : Try.prog.cellsOf T = n) (hv : Value.okWide Try.prog W r b0 T v) (h : DataW.Trod enc Try.prog W base sp held T v d ps) :
    ∃ cs : Array Value, v = .agg cs ∧ cs.size = n ∧ ∀ i, i < n → ∃ a, cs[i]? = some (.int .i64 a) ∧ I64 a := by
  obtain ⟨cs, rfl, hsz⟩ := okWide_arr ht hv
  rw [hc] at hsz
  refine ⟨cs, rfl, hsz, fun i hi => ?_⟩
  obtain ⟨fuel, hf⟩ := h
  obtain ⟨xs, m, _, _, _, hl, hx⟩ := DataW.trod_array ht hf
  have k := hx i hi
  obtain ⟨y, hy⟩ : ∃ y, xs[i]? = some y := ⟨xs[i]'(by omega), List.getElem?_eq_getElem _⟩
  rw [hy] at k
  obtain ⟨a, e0, _, w0⟩ := DataW.trod_int Try.underlying2 k
  refine ⟨a, ?_, I64.of_wf w0⟩
  simp [Value.cells, c_i64] at e0
  have e1 := congrArg (·[0]?) e0
  simpa using e1
theorem c_a4 : Try.prog.cellsOf 41 = 4 := by kernel_rfl
theorem c_a2 : Try.prog.cellsOf 48 = 2 := by kernel_rfl
theorem c_a8 : Try.prog.cellsOf 52 = 8 := by kernel_rfl
theorem arr_of {cs : Array Value} {l : List Value} (h : cs.size = l.length) (hi : ∀ i, i < l.length → cs[i]? = l[i]?) : cs = l.toArray := by
  apply Array.ext
  · simpa using h
  · intro i h1 h2
    have k := hi i (by omega)
    rw [Array.getElem?_eq_getElem h1, List.getElem?_eq_getElem (by omega)] at k
    simpa using k
theorem open_a2 {H : Type} {enc : TypeId × Value → H} {W : World} {r : Reach} {base b0 : Nat} {sp : Nat → Bool} {held : Bool} {v : Value} {d : DataW H} {ps : List MemPlace}
    (hv : Value.okWide Try.prog W r b0 48 v) (h : DataW.Trod enc Try.prog W base sp held 48 v d ps) :
    ∃ a b, v = .agg #[.int .i64 a, .int .i64 b] ∧ I64 a ∧ I64 b := by
  obtain ⟨cs, rfl, hs, hi⟩ := open_arr Try.underlying48 c_a2 hv h
  obtain ⟨a0, e0, i0⟩ := hi 0 (by omega)
  obtain ⟨a1, e1, i1⟩ := hi 1 (by omega)
  refine ⟨a0, a1, ?_, i0, i1⟩
  refine congrArg Value.agg (arr_of (l := [.int .i64 a0, .int .i64 a1]) hs fun i h => ?_)
  have : i = 0 ∨ i = 1 := by simp at h; omega
  rcases this with rfl | rfl <;> assumption
theorem open_a4 {H : Type} {enc : TypeId × Value → H} {W : World} {r : Reach} {base b0 : Nat} {sp : Nat → Bool} {held : Bool} {v : Value} {d : DataW H} {ps : List MemPlace}
    (hv : Value.okWide Try.prog W r b0 41 v) (h : DataW.Trod enc Try.prog W base sp held 41 v d ps) :
    ∃ a b c e, v = .agg #[.int .i64 a, .int .i64 b, .int .i64 c, .int .i64 e] ∧ I64 a ∧ I64 b ∧ I64 c ∧ I64 e := by
  obtain ⟨cs, rfl, hs, hi⟩ := open_arr Try.underlying41 c_a4 hv h
  obtain ⟨a0, e0, i0⟩ := hi 0 (by omega)
  obtain ⟨a1, e1, i1⟩ := hi 1 (by omega)
  obtain ⟨a2, e2, i2⟩ := hi 2 (by omega)
  obtain ⟨a3, e3, i3⟩ := hi 3 (by omega)
  refine ⟨a0, a1, a2, a3, ?_, i0, i1, i2, i3⟩
  refine congrArg Value.agg (arr_of (l := [.int .i64 a0, .int .i64 a1, .int .i64 a2, .int .i64 a3]) hs fun i h => ?_)
  have : i = 0 ∨ i = 1 ∨ i = 2 ∨ i = 3 := by simp at h; omega
  rcases this with rfl | rfl | rfl | rfl <;> assumption
theorem open_a8 {H : Type} {enc : TypeId × Value → H} {W : World} {r : Reach} {base b0 : Nat} {sp : Nat → Bool} {held : Bool} {v : Value} {d : DataW H} {ps : List MemPlace}
    (hv : Value.okWide Try.prog W r b0 52 v) (h : DataW.Trod enc Try.prog W base sp held 52 v d ps) :
    ∃ a0 a1 a2 a3 a4 a5 a6 a7, v = .agg #[.int .i64 a0, .int .i64 a1, .int .i64 a2, .int .i64 a3, .int .i64 a4, .int .i64 a5, .int .i64 a6, .int .i64 a7] ∧ I64 a0 ∧ I64 a1 ∧ I64 a2 ∧ I64 a3 ∧ I64 a4 ∧ I64 a5 ∧ I64 a6 ∧ I64 a7 := by
  obtain ⟨cs, rfl, hs, hi⟩ := open_arr Try.underlying52 c_a8 hv h
  obtain ⟨a0, e0, i0⟩ := hi 0 (by omega)
  obtain ⟨a1, e1, i1⟩ := hi 1 (by omega)
  obtain ⟨a2, e2, i2⟩ := hi 2 (by omega)
  obtain ⟨a3, e3, i3⟩ := hi 3 (by omega)
  obtain ⟨a4, e4, i4⟩ := hi 4 (by omega)
  obtain ⟨a5, e5, i5⟩ := hi 5 (by omega)
  obtain ⟨a6, e6, i6⟩ := hi 6 (by omega)
  obtain ⟨a7, e7, i7⟩ := hi 7 (by omega)
  refine ⟨a0, a1, a2, a3, a4, a5, a6, a7, ?_, i0, i1, i2, i3, i4, i5, i6, i7⟩
  refine congrArg Value.agg (arr_of (l := [.int .i64 a0, .int .i64 a1, .int .i64 a2, .int .i64 a3, .int .i64 a4, .int .i64 a5, .int .i64 a6, .int .i64 a7]) hs fun i h => ?_)
  have : i = 0 ∨ i = 1 ∨ i = 2 ∨ i = 3 ∨ i = 4 ∨ i = 5 ∨ i = 6 ∨ i = 7 := by simp at h; omega
  rcases this with rfl | rfl | rfl | rfl | rfl | rfl | rfl | rfl <;> assumption

end Go.Proofs.Ytancfhnhjfhbfaa
