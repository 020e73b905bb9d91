/-
  What awake of the statements of layer 10 returns; how a span that is handed in reads; no conditions but those that each fact bears.
-/
import Derived.Test.YtancfhnhjfhbfaaSpF
import Derived.ProofKit
import Derived.OpenShut
import Derived.ChangeSame
namespace Go.Proofs.Ytancfhnhjfhbfaa
open Go.ChangeShapes Go.WideShapes Go.RowKit
open Burin
set_option linter.unusedVariables false

theorem awake_do : doA 1 0 100 120 0 7 = (100, 127, true) := by decide

set_option maxHeartbeats 400000 in
theorem awake_any (w : World) : Calls Try.prog 9 #[] w fun e w' => e = .returned (.bool true) ∧ Q w w' := by
  have HS := hideIt (fun x => sdo_any 1 0 100 120 0 7 x (by decide))
  rw [awake_do] at HS
  have HD : Hid (∀ x, Calls Try.prog 10 #[.int .u8 1, .int .u8 0, spV 100 120, spV 0 7] x fun e w' => e = .returned (.tuple #[.agg #[.int .i64 100, .int .i64 127], .bool true]) ∧ Q x w') := HS
  clear HS
  go_enter Try.func9, Try.ntmps9
  go_wp2_with (go_at_call 10; refine (HD.out _).mono ?_; rintro e x ⟨rfl, q⟩)
  go_ret
  exact ⟨rfl, Q.alloc q _⟩

theorem c_span : Try.prog.cellsOf 23 = 2 := by kernel_rfl
theorem c_i64 : Try.prog.cellsOf 2 = 1 := by kernel_rfl
def I64 (a : Int) : Prop := -9223372036854775808 ≤ a ∧ a ≤ 9223372036854775807
def U8 (a : Int) : Prop := 0 ≤ a ∧ a ≤ 255
def U32 (a : Int) : Prop := 0 ≤ a ∧ a ≤ 4294967295
theorem I64.of_wf {a : Int} (h : (Lit.int .i64 a).wf = true) : I64 a := by
  simp [Lit.wf, IntKind.min, IntKind.max, IntKind.bits, IntKind.signed] at h
  exact ⟨by omega, by omega⟩
theorem U8.of_wf {a : Int} (h : (Lit.int .u8 a).wf = true) : U8 a := by
  simp [Lit.wf, IntKind.min, IntKind.max, IntKind.bits, IntKind.signed] at h
  exact ⟨by omega, by omega⟩
theorem U32.of_wf {a : Int} (h : (Lit.int .u32 a).wf = true) : U32 a := by
  simp [Lit.wf, IntKind.min, IntKind.max, IntKind.bits, IntKind.signed] at h
  exact ⟨by omega, by omega⟩
theorem arr2 {cs : Array Value} (h : cs.size = 2) : ∃ a b, cs = #[a, b] := by
  refine ⟨cs[0], cs[1], ?_⟩
  apply Array.ext
  · simp [h]
  · intro i h1 h2
    have : i = 0 ∨ i = 1 := by omega
    rcases this with rfl | rfl <;> rfl
theorem open_span {H : Type} {enc : TypeId × Value → H} {W : World} {r : Reach} {base b0 : Nat} {sp : Nat → Bool} {held : Bool} {v : Value} {d : DataW H} {ps : List MemPlace} (hv : Value.okWide Try.prog W r b0 23 v) (h : DataW.Trod enc Try.prog W base sp held 23 v d ps) :
    ∃ a b, v = .agg #[.int .i64 a, .int .i64 b] ∧ I64 a ∧ I64 b := by
  obtain ⟨cs, rfl, hsz⟩ := okWide_struct Try.underlying23 hv
  obtain ⟨fuel, hf⟩ := h
  obtain ⟨y0, y1, m, hx, hlen, g0, g1⟩ := trod_struct2 Try.underlying23 hf
  obtain ⟨x0, e0, _, w0⟩ := DataW.trod_int Try.underlying2 g0
  obtain ⟨x1, e1, _, w1⟩ := DataW.trod_int Try.underlying2 g1
  rw [c_span] at hsz
  obtain ⟨c0, c1, rfl⟩ := arr2 hsz
  simp [Value.cells, c_i64] at e0 e1
  exact ⟨x0, x1, by rw [e0, e1], I64.of_wf w0, I64.of_wf w1⟩

end Go.Proofs.Ytancfhnhjfhbfaa
