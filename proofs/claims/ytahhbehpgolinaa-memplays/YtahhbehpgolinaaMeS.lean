/-
  How a script of calls that is handed in reads; and a memory beside the document's: what both are in the heap, and the calls' contracts over both; no conditions but those that each fact bears.
-/
import Derived.Test.YtahhbehpgolinaaMeR
import Derived.Deep.Slices
namespace Go.Proofs.Ytahhbehpgolinaa.Me
open Go.ChangeShapes Go.WideShapes Go.RowKit
set_option linter.unusedVariables false

theorem Try.cells33 : Try.prog.cellsOf 33 = 5 := by kernel_rfl
theorem Try.cells5 : Try.prog.cellsOf 5 = 1 := by kernel_rfl
theorem Try.cells2 : Try.prog.cellsOf 2 = 1 := by kernel_rfl

/-- An act. -/
structure Ac where
  kd : Int
  n : Int
  a : Int
  b : Int
  v : Int
/-- It is one of Go's. -/
structure Ac.ok (x : Ac) : Prop where
  k0 : 0 ≤ x.kd
  k1 : x.kd ≤ 255
  n : I64 x.n
  a : I64 x.a
  b : I64 x.b
  v : I64 x.v
def Ac.cells (x : Ac) : List Value := [.int .u8 x.kd, .int .i64 x.n, .int .i64 x.a, .int .i64 x.b, .int .i64 x.v]

/-- A script that came in. -/
def Acts (w : World) (a : Option Addr) (len : Nat) : Prop :=
  0 < len → ∃ b off, a = some ⟨b, off, none⟩ ∧ ∀ i, i < len → ∃ x : Ac, x.ok ∧ ∀ j u, x.cells[j]? = some u → w.cell? ⟨b, off + i * 5 + j, none⟩ = some u

theorem open_act {H : Type} {enc : TypeId × Value → H} {W : World} {base : Nat} {sp : Nat → Bool} {held : Bool} {n : Nat} {cs : List Value} {x : DataW H × List MemPlace} (h : DataW.trod enc Try.prog W base sp held n 33 cs = some x) :
    ∃ y : Ac, y.ok ∧ cs = y.cells := by
  obtain ⟨xs, m, _, _, hlen, hxl, hf⟩ := DataW.trod_struct Try.underlying33 h
  rw [Try.cells33] at hlen
  obtain ⟨c0, c1, c2, c3, c4, rfl⟩ : ∃ c0 c1 c2 c3 c4, cs = [c0, c1, c2, c3, c4] := by
    match cs, hlen with
    | [c0, c1, c2, c3, c4], _ => exact ⟨_, _, _, _, _, rfl⟩
  have f0 := hf 0 _ rfl
  have f1 := hf 1 _ rfl
  have f2 := hf 2 _ rfl
  have f3 := hf 3 _ rfl
  simp at hxl
  obtain ⟨x0, x1, x2, x3, rfl⟩ : ∃ x0 x1 x2 x3, xs = [x0, x1, x2, x3] := by
    match xs, hxl with
    | [x0, x1, x2, x3], _ => exact ⟨_, _, _, _, rfl⟩
  simp [Try.cells5, cells3, cells31, Try.cells2] at f0 f1 f2 f3
  obtain ⟨a0, e0, _, w0⟩ := DataW.trod_int Try.underlying5 f0
  obtain ⟨a1, e1, _, w1⟩ := DataW.trod_int Try.underlying3 f1
  obtain ⟨y0, y1, m', hx, _, g0, g1⟩ := trod_struct2 Try.underlying31 f2
  simp [cells3] at g0 g1
  obtain ⟨a2, e2, _, w2⟩ := DataW.trod_int Try.underlying3 g0
  obtain ⟨a3, e3, _, w3⟩ := DataW.trod_int Try.underlying3 g1
  obtain ⟨a4, e4, _, w4⟩ := DataW.trod_int Try.underlying2 f3
  simp at e0 e1 e2 e3 e4
  subst e0 e1 e2 e3 e4
  exact ⟨⟨a0, a1, a2, a3, a4⟩, ⟨(wf_u8 w0).1, (wf_u8 w0).2, I64.of_wf' w1, I64.of_wf' w2, I64.of_wf' w3, I64.of_wf' w4⟩, rfl⟩

theorem cells_at {w : World} {base : Nat} {a : Addr} {n : Nat} {cs : List Value} (h : w.cells? base a n = some cs) : ∀ j u, cs[j]? = some u → w.cell? (a.add j) = some u := by
  obtain ⟨_, h1, h2⟩ := World.cells?_some h
  intro j u hj
  have := (List.getElem?_eq_some_iff.1 hj).1
  rw [h2 j (by omega)]
  exact hj
theorem open_acts {H : Type} {enc : TypeId × Value → H} {W : World} {r : Reach} {b0 : Nat} {v : Value} {d : DataW H} {ps : List MemPlace} (hv : Value.okWide Try.prog W r b0 22 v) (h : DataW.Trod enc Try.prog W 0 (fun _ => true) true 22 v d ps) :
    ∃ a len cap, v = .slice a len cap ∧ len ≤ maxLen ∧ Acts W a len := by
  obtain ⟨a, len, cap, rfl⟩ := okWide_slice Try.underlying22 hv
  obtain ⟨fuel, hf⟩ := h
  rcases Go.Deep.open_slice Try.underlying22 hf with ⟨hcs, _⟩ | ⟨x, l, c, m, n, D, Pl, hcs, _, hl, hm, hmm, _, hall⟩
  · simp [Value.cells] at hcs
    obtain ⟨rfl, rfl, rfl⟩ := hcs
    exact ⟨none, 0, 0, rfl, Nat.zero_le _, fun h => by omega⟩
  · simp [Value.cells] at hcs
    obtain ⟨rfl, rfl, rfl⟩ := hcs
    simp at hmm
    subst hmm
    refine ⟨some x, len, _, rfl, by omega, fun h0 => ?_⟩
    rw [Try.cells33] at hall
    obtain ⟨b, off, spot⟩ := x
    have hspot : spot = none := by
      obtain ⟨cs', e1, e2⟩ := hall 0 (by omega)
      obtain ⟨y, _, rfl⟩ := open_act e2
      have := cells_at e1 0 _ rfl
      simpa [Addr.add] using World.cell?_spot this
    subst hspot
    refine ⟨b, off, rfl, fun i hi => ?_⟩
    obtain ⟨cs', e1, e2⟩ := hall i (by omega)
    obtain ⟨y, hy, rfl⟩ := open_act e2
    refine ⟨y, hy, fun j u hj => ?_⟩
    have := cells_at e1 j u hj
    rw [add_none, add_none] at this
    exact this

end Go.Proofs.Ytahhbehpgolinaa.Me
