/-
  No cell of these rows narrows 'for every input' (looked for: loops, veiled, ifaces, maps, wideKeys, modest, calm, conditions, laid).
  DERIVED. THE GIVEN ROWS OF THIS SEAT. 6 by the template 'for every input the law returns true; each argument reads behind the call as it read before'; 0 by the template 'total and deterministic' (their statements: YtancfhnhjfhbfaaTotals.lean).
  GIVEN WITH THE SEED: the statements are not yours to turn. If you find one false, say at which input.
  Laid BY PROGRAM, IN A SANDBOX (cutbox-rows.mjs): the forced cells as the released guide's own fill.sh prints them over the translation c55f07b2d719ca67… (all of the seat's roots in one cut). By AI agents, Wed Nov 11 2026. No macro, syntax, notation, axiom, sorry.
-/
import Derived.Test.YtancfhnhjfhbfaaChecked
import GoSem.Claim
import GoSem.ClaimJoined
import GoSem.ClaimMapViews
import Derived.JoinedTies
import Derived.KernelRfl
namespace Go.Proofs.Ytancfhnhjfhbfaa
/- THE CELL 'sum', in the pinned program and in every row, IS THE sha256 OF THE DUMP (.gsa) THAT YtancfhnhjfhbfaaProg.lean LOADS. Nothing in Lean hashes anything: it is a label: what it is worth is what the hold of that sum in a sandbox is worth. -/
noncomputable def Try.pinned : Pinned := { name := "ytancfhnhjfhbfaa", sum := "c55f07b2d719ca67e028dfdac2e5c70530d4e6095dfe06c2a2237bc1044fb42c", checked := Try.checked }
namespace Rows
def none {H : Type} : Left H := { results := [], args := [] }

/-- 'burinlaw10.SpanDoes': WHATEVER THE INPUT: true; the input reads as it did. -/
def spanDoesSpec : ChangeSpec := { name := "spanDoes", fn := fun _ => fun
  | [d1, d2, d3, d4] => { results := [.lit (.bool true)], args := [d1, d2, d3, d4] }
  | _ => none }
def spanDoesRow : OpenClaim := { program := "ytancfhnhjfhbfaa", sum := "c55f07b2d719ca67e028dfdac2e5c70530d4e6095dfe06c2a2237bc1044fb42c", func := "burin/burinlaw10.SpanDoes", spec := "spanDoes", unfollowed := true, recurses := true, apart := false }
def SpanDoesSaid : Prop := spanDoesRow.holds Try.pinned (OpenSpec.ofChange spanDoesSpec)

/-- ITS FALSE NEIGHBOUR: 'it returns false'. Refute it at one input. -/
def spanDoesWrong : ChangeSpec := { name := "spanDoes", fn := fun _ => fun
  | [d1, d2, d3, d4] => { results := [.lit (.bool false)], args := [d1, d2, d3, d4] }
  | _ => none }
def SpanDoesWrongFalsely : Prop := spanDoesRow.holds Try.pinned (OpenSpec.ofChange spanDoesWrong)

/-- 'burinlaw10.SpanUns': WHATEVER THE INPUT: true; the input reads as it did. -/
def spanUnsSpec : ChangeSpec := { name := "spanUns", fn := fun _ => fun
  | [d1, d2, d3] => { results := [.lit (.bool true)], args := [d1, d2, d3] }
  | _ => none }
def spanUnsRow : OpenClaim := { program := "ytancfhnhjfhbfaa", sum := "c55f07b2d719ca67e028dfdac2e5c70530d4e6095dfe06c2a2237bc1044fb42c", func := "burin/burinlaw10.SpanUns", spec := "spanUns", unfollowed := true, recurses := true, apart := false }
def SpanUnsSaid : Prop := spanUnsRow.holds Try.pinned (OpenSpec.ofChange spanUnsSpec)

/-- ITS FALSE NEIGHBOUR: 'it returns false'. Refute it at one input. -/
def spanUnsWrong : ChangeSpec := { name := "spanUns", fn := fun _ => fun
  | [d1, d2, d3] => { results := [.lit (.bool false)], args := [d1, d2, d3] }
  | _ => none }
def SpanUnsWrongFalsely : Prop := spanUnsRow.holds Try.pinned (OpenSpec.ofChange spanUnsWrong)

/-- 'burinlaw10.SpanSets': WHATEVER THE INPUT: true; the input reads as it did. -/
def spanSetsSpec : ChangeSpec := { name := "spanSets", fn := fun _ => fun
  | [d1, d2, d3, d4] => { results := [.lit (.bool true)], args := [d1, d2, d3, d4] }
  | _ => none }
def spanSetsRow : OpenClaim := { program := "ytancfhnhjfhbfaa", sum := "c55f07b2d719ca67e028dfdac2e5c70530d4e6095dfe06c2a2237bc1044fb42c", func := "burin/burinlaw10.SpanSets", spec := "spanSets", unfollowed := true, recurses := true, apart := false }
def SpanSetsSaid : Prop := spanSetsRow.holds Try.pinned (OpenSpec.ofChange spanSetsSpec)

/-- ITS FALSE NEIGHBOUR: 'it returns false'. Refute it at one input. -/
def spanSetsWrong : ChangeSpec := { name := "spanSets", fn := fun _ => fun
  | [d1, d2, d3, d4] => { results := [.lit (.bool false)], args := [d1, d2, d3, d4] }
  | _ => none }
def SpanSetsWrongFalsely : Prop := spanSetsRow.holds Try.pinned (OpenSpec.ofChange spanSetsWrong)

/-- 'burinlaw10.SpanHolds': WHATEVER THE INPUT: true; the input reads as it did. -/
def spanHoldsSpec : ChangeSpec := { name := "spanHolds", fn := fun _ => fun
  | [d1, d2, d3, d4, d5] => { results := [.lit (.bool true)], args := [d1, d2, d3, d4, d5] }
  | _ => none }
def spanHoldsRow : OpenClaim := { program := "ytancfhnhjfhbfaa", sum := "c55f07b2d719ca67e028dfdac2e5c70530d4e6095dfe06c2a2237bc1044fb42c", func := "burin/burinlaw10.SpanHolds", spec := "spanHolds", unfollowed := true, recurses := true, apart := false }
def SpanHoldsSaid : Prop := spanHoldsRow.holds Try.pinned (OpenSpec.ofChange spanHoldsSpec)

/-- ITS FALSE NEIGHBOUR: 'it returns false'. Refute it at one input. -/
def spanHoldsWrong : ChangeSpec := { name := "spanHolds", fn := fun _ => fun
  | [d1, d2, d3, d4, d5] => { results := [.lit (.bool false)], args := [d1, d2, d3, d4, d5] }
  | _ => none }
def SpanHoldsWrongFalsely : Prop := spanHoldsRow.holds Try.pinned (OpenSpec.ofChange spanHoldsWrong)

/-- 'burinlaw10.SpanHoldsOne': WHATEVER THE INPUT: true; the input reads as it did. -/
def spanHoldsOneSpec : ChangeSpec := { name := "spanHoldsOne", fn := fun _ => fun
  | [d1, d2, d3, d4, d5] => { results := [.lit (.bool true)], args := [d1, d2, d3, d4, d5] }
  | _ => none }
def spanHoldsOneRow : OpenClaim := { program := "ytancfhnhjfhbfaa", sum := "c55f07b2d719ca67e028dfdac2e5c70530d4e6095dfe06c2a2237bc1044fb42c", func := "burin/burinlaw10.SpanHoldsOne", spec := "spanHoldsOne", unfollowed := true, recurses := true, apart := false }
def SpanHoldsOneSaid : Prop := spanHoldsOneRow.holds Try.pinned (OpenSpec.ofChange spanHoldsOneSpec)

/-- ITS FALSE NEIGHBOUR: 'it returns false'. Refute it at one input. -/
def spanHoldsOneWrong : ChangeSpec := { name := "spanHoldsOne", fn := fun _ => fun
  | [d1, d2, d3, d4, d5] => { results := [.lit (.bool false)], args := [d1, d2, d3, d4, d5] }
  | _ => none }
def SpanHoldsOneWrongFalsely : Prop := spanHoldsOneRow.holds Try.pinned (OpenSpec.ofChange spanHoldsOneWrong)

/-- 'burinlaw10.SpanGrows': WHATEVER THE INPUT: true; the input reads as it did. -/
def spanGrowsSpec : ChangeSpec := { name := "spanGrows", fn := fun _ => fun
  | [d1, d2, d3] => { results := [.lit (.bool true)], args := [d1, d2, d3] }
  | _ => none }
def spanGrowsRow : OpenClaim := { program := "ytancfhnhjfhbfaa", sum := "c55f07b2d719ca67e028dfdac2e5c70530d4e6095dfe06c2a2237bc1044fb42c", func := "burin/burinlaw10.SpanGrows", spec := "spanGrows", unfollowed := true, recurses := true, apart := false }
def SpanGrowsSaid : Prop := spanGrowsRow.holds Try.pinned (OpenSpec.ofChange spanGrowsSpec)

/-- ITS FALSE NEIGHBOUR: 'it returns false'. Refute it at one input. -/
def spanGrowsWrong : ChangeSpec := { name := "spanGrows", fn := fun _ => fun
  | [d1, d2, d3] => { results := [.lit (.bool false)], args := [d1, d2, d3] }
  | _ => none }
def SpanGrowsWrongFalsely : Prop := spanGrowsRow.holds Try.pinned (OpenSpec.ofChange spanGrowsWrong)

/- THE SECOND FORM. 'bulk': how many values and letters a reading holds, each counted each time it is reached (what is shared counts as often as it is met; a slice's spare places count too). A statement '..UptoSaid' is the law's where the arguments, and the package variables that the reading takes, are together of bulk at most 1048576: NARROWER than '..Said'. Prove '..Said' where nothing that the law and all that it calls make is longer than what came in: it says more and counts as full. Else prove '..UptoSaid'. A law counts once. -/
mutual
def uptoBulk {H : Type} : DataW H → Nat
  | .lit (.string bytes) => bytes.length + 1
  | .lit _ => 1
  | .nil => 1
  | .ptr d => uptoBulk d + 1
  | .slice elems spare => uptoBulkAll elems + uptoBulkAll spare + 1
  | .agg parts => uptoBulkAll parts + 1
  | .iface _ d => uptoBulk d + 1
  | .map entries => uptoBulkEntries entries + 1
  | .held _ => 1
def uptoBulkAll {H : Type} : List (DataW H) → Nat
  | [] => 0
  | d :: r => uptoBulk d + uptoBulkAll r
def uptoBulkEntries {H : Type} : List (Lit × DataW H) → Nat
  | [] => 0
  | x :: r => uptoBulkEntry x + uptoBulkEntries r
def uptoBulkEntry {H : Type} : Lit × DataW H → Nat
  | (.string bytes, d) => bytes.length + uptoBulk d + 1
  | (_, d) => uptoBulk d + 1
 end
def uptoSmall : (H : Type) → List (DataW H) → Bool := fun _ ds => decide (uptoBulkAll ds ≤ 1048576)
def OpenSpec.upto (s : _root_.Go.ChangeSpec) : _root_.Go.OpenSpec := { _root_.Go.OpenSpec.ofChange s with cond := some uptoSmall }

/-- 'burinlaw10.SpanDoes', WHERE WHAT IT READS IS OF BULK AT MOST 1048576: true; the input reads as it did. -/
def spanDoesUptoRow : OpenClaim := { program := "ytancfhnhjfhbfaa", sum := "c55f07b2d719ca67e028dfdac2e5c70530d4e6095dfe06c2a2237bc1044fb42c", func := "burin/burinlaw10.SpanDoes", spec := "spanDoes", unfollowed := true, recurses := true, apart := false, narrowed := true }
def SpanDoesUptoSaid : Prop := spanDoesUptoRow.holds Try.pinned (OpenSpec.upto spanDoesSpec)

/-- 'burinlaw10.SpanUns', WHERE WHAT IT READS IS OF BULK AT MOST 1048576: true; the input reads as it did. -/
def spanUnsUptoRow : OpenClaim := { program := "ytancfhnhjfhbfaa", sum := "c55f07b2d719ca67e028dfdac2e5c70530d4e6095dfe06c2a2237bc1044fb42c", func := "burin/burinlaw10.SpanUns", spec := "spanUns", unfollowed := true, recurses := true, apart := false, narrowed := true }
def SpanUnsUptoSaid : Prop := spanUnsUptoRow.holds Try.pinned (OpenSpec.upto spanUnsSpec)

/-- 'burinlaw10.SpanSets', WHERE WHAT IT READS IS OF BULK AT MOST 1048576: true; the input reads as it did. -/
def spanSetsUptoRow : OpenClaim := { program := "ytancfhnhjfhbfaa", sum := "c55f07b2d719ca67e028dfdac2e5c70530d4e6095dfe06c2a2237bc1044fb42c", func := "burin/burinlaw10.SpanSets", spec := "spanSets", unfollowed := true, recurses := true, apart := false, narrowed := true }
def SpanSetsUptoSaid : Prop := spanSetsUptoRow.holds Try.pinned (OpenSpec.upto spanSetsSpec)

/-- 'burinlaw10.SpanHolds', WHERE WHAT IT READS IS OF BULK AT MOST 1048576: true; the input reads as it did. -/
def spanHoldsUptoRow : OpenClaim := { program := "ytancfhnhjfhbfaa", sum := "c55f07b2d719ca67e028dfdac2e5c70530d4e6095dfe06c2a2237bc1044fb42c", func := "burin/burinlaw10.SpanHolds", spec := "spanHolds", unfollowed := true, recurses := true, apart := false, narrowed := true }
def SpanHoldsUptoSaid : Prop := spanHoldsUptoRow.holds Try.pinned (OpenSpec.upto spanHoldsSpec)

/-- 'burinlaw10.SpanHoldsOne', WHERE WHAT IT READS IS OF BULK AT MOST 1048576: true; the input reads as it did. -/
def spanHoldsOneUptoRow : OpenClaim := { program := "ytancfhnhjfhbfaa", sum := "c55f07b2d719ca67e028dfdac2e5c70530d4e6095dfe06c2a2237bc1044fb42c", func := "burin/burinlaw10.SpanHoldsOne", spec := "spanHoldsOne", unfollowed := true, recurses := true, apart := false, narrowed := true }
def SpanHoldsOneUptoSaid : Prop := spanHoldsOneUptoRow.holds Try.pinned (OpenSpec.upto spanHoldsOneSpec)

/-- 'burinlaw10.SpanGrows', WHERE WHAT IT READS IS OF BULK AT MOST 1048576: true; the input reads as it did. -/
def spanGrowsUptoRow : OpenClaim := { program := "ytancfhnhjfhbfaa", sum := "c55f07b2d719ca67e028dfdac2e5c70530d4e6095dfe06c2a2237bc1044fb42c", func := "burin/burinlaw10.SpanGrows", spec := "spanGrows", unfollowed := true, recurses := true, apart := false, narrowed := true }
def SpanGrowsUptoSaid : Prop := spanGrowsUptoRow.holds Try.pinned (OpenSpec.upto spanGrowsSpec)

end Rows
end Go.Proofs.Ytancfhnhjfhbfaa
