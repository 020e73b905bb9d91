/-
  No cell of these rows narrows 'for every input' (looked for: loops, veiled, ifaces, maps, wideKeys, modest, calm, conditions, laid).
  DERIVED. THE GIVEN ROWS OF THIS SEAT. 4 by the template 'for every input the law returns true; each argument reads behind the call as it read before'; 0 by the template 'total and deterministic' (their statements: YtiiggldapncknaaTotals.lean).
  GIVEN WITH THE SEED: the statements are not yours to turn. If you find one false, say at which input.
  Laid BY PROGRAM, IN A SANDBOX (cutbox-rows.mjs): the forced cells as the released guide's own fill.sh prints them over the translation 45d720f484189c6a… (all of the seat's roots in one cut). By AI agents, Wed Nov 11 2026. No macro, syntax, notation, axiom, sorry.
-/
import Derived.Test.YtiiggldapncknaaChecked
import GoSem.Claim
import GoSem.ClaimJoined
import GoSem.ClaimMapViews
import Derived.JoinedTies
import Derived.KernelRfl
namespace Go.Proofs.Ytiiggldapncknaa
/- THE CELL 'sum', in the pinned program and in every row, IS THE sha256 OF THE DUMP (.gsa) THAT YtiiggldapncknaaProg.lean LOADS. Nothing in Lean hashes anything: it is a label: what it is worth is what the hold of that sum in a sandbox is worth. -/
noncomputable def Try.pinned : Pinned := { name := "ytiiggldapncknaa", sum := "45d720f484189c6afee7874706e764e72238fdbf3b0a2228a84a89f148f87f43", checked := Try.checked }
namespace Rows
def none {H : Type} : Left H := { results := [], args := [] }

/-- 'burinlaw13.IrValids': WHATEVER THE INPUT: true; the input reads as it did. -/
def irValidsSpec : ChangeSpec := { name := "irValids", fn := fun _ => fun
  | [d] => { results := [.lit (.bool true)], args := [d] }
  | _ => none }
def irValidsRow : OpenClaim := { program := "ytiiggldapncknaa", sum := "45d720f484189c6afee7874706e764e72238fdbf3b0a2228a84a89f148f87f43", func := "burin/burinlaw13.IrValids", spec := "irValids", apart := false }
def IrValidsSaid : Prop := irValidsRow.holds Try.pinned (OpenSpec.ofChange irValidsSpec)

/-- ITS FALSE NEIGHBOUR: 'it returns false'. Refute it at one input. -/
def irValidsWrong : ChangeSpec := { name := "irValids", fn := fun _ => fun
  | [d] => { results := [.lit (.bool false)], args := [d] }
  | _ => none }
def IrValidsWrongFalsely : Prop := irValidsRow.holds Try.pinned (OpenSpec.ofChange irValidsWrong)

/-- 'burinlaw13.IrInsts': WHATEVER THE INPUT: true; the input reads as it did. -/
def irInstsSpec : ChangeSpec := { name := "irInsts", fn := fun _ => fun
  | [d] => { results := [.lit (.bool true)], args := [d] }
  | _ => none }
def irInstsRow : OpenClaim := { program := "ytiiggldapncknaa", sum := "45d720f484189c6afee7874706e764e72238fdbf3b0a2228a84a89f148f87f43", func := "burin/burinlaw13.IrInsts", spec := "irInsts", apart := false }
def IrInstsSaid : Prop := irInstsRow.holds Try.pinned (OpenSpec.ofChange irInstsSpec)

/-- ITS FALSE NEIGHBOUR: 'it returns false'. Refute it at one input. -/
def irInstsWrong : ChangeSpec := { name := "irInsts", fn := fun _ => fun
  | [d] => { results := [.lit (.bool false)], args := [d] }
  | _ => none }
def IrInstsWrongFalsely : Prop := irInstsRow.holds Try.pinned (OpenSpec.ofChange irInstsWrong)

/-- 'burinlaw13.IrCopies': WHATEVER THE INPUT: true; the input reads as it did. -/
def irCopiesSpec : ChangeSpec := { name := "irCopies", fn := fun _ => fun
  | [d] => { results := [.lit (.bool true)], args := [d] }
  | _ => none }
def irCopiesRow : OpenClaim := { program := "ytiiggldapncknaa", sum := "45d720f484189c6afee7874706e764e72238fdbf3b0a2228a84a89f148f87f43", func := "burin/burinlaw13.IrCopies", spec := "irCopies", apart := false }
def IrCopiesSaid : Prop := irCopiesRow.holds Try.pinned (OpenSpec.ofChange irCopiesSpec)

/-- ITS FALSE NEIGHBOUR: 'it returns false'. Refute it at one input. -/
def irCopiesWrong : ChangeSpec := { name := "irCopies", fn := fun _ => fun
  | [d] => { results := [.lit (.bool false)], args := [d] }
  | _ => none }
def IrCopiesWrongFalsely : Prop := irCopiesRow.holds Try.pinned (OpenSpec.ofChange irCopiesWrong)

/-- 'burinlaw13.IrLimits': WHATEVER THE INPUT: true; the input reads as it did. -/
def irLimitsSpec : ChangeSpec := { name := "irLimits", fn := fun _ => fun
  | [d] => { results := [.lit (.bool true)], args := [d] }
  | _ => none }
def irLimitsRow : OpenClaim := { program := "ytiiggldapncknaa", sum := "45d720f484189c6afee7874706e764e72238fdbf3b0a2228a84a89f148f87f43", func := "burin/burinlaw13.IrLimits", spec := "irLimits", apart := false }
def IrLimitsSaid : Prop := irLimitsRow.holds Try.pinned (OpenSpec.ofChange irLimitsSpec)

/-- ITS FALSE NEIGHBOUR: 'it returns false'. Refute it at one input. -/
def irLimitsWrong : ChangeSpec := { name := "irLimits", fn := fun _ => fun
  | [d] => { results := [.lit (.bool false)], args := [d] }
  | _ => none }
def IrLimitsWrongFalsely : Prop := irLimitsRow.holds Try.pinned (OpenSpec.ofChange irLimitsWrong)

/- THE SECOND FORM. 'bulk': how many values and letters a reading holds, each counted each time it is reached (what is shared counts as often as it is met; a slice's spare places count too). A statement '..UptoSaid' is the law's where the arguments, and the package variables that the reading takes, are together of bulk at most 1048576: NARROWER than '..Said'. Prove '..Said' where nothing that the law and all that it calls make is longer than what came in: it says more and counts as full. Else prove '..UptoSaid'. A law counts once. -/
mutual
def uptoBulk {H : Type} : DataW H → Nat
  | .lit (.string bytes) => bytes.length + 1
  | .lit _ => 1
  | .nil => 1
  | .ptr d => uptoBulk d + 1
  | .slice elems spare => uptoBulkAll elems + uptoBulkAll spare + 1
  | .agg parts => uptoBulkAll parts + 1
  | .iface _ d => uptoBulk d + 1
  | .map entries => uptoBulkEntries entries + 1
  | .held _ => 1
def uptoBulkAll {H : Type} : List (DataW H) → Nat
  | [] => 0
  | d :: r => uptoBulk d + uptoBulkAll r
def uptoBulkEntries {H : Type} : List (Lit × DataW H) → Nat
  | [] => 0
  | x :: r => uptoBulkEntry x + uptoBulkEntries r
def uptoBulkEntry {H : Type} : Lit × DataW H → Nat
  | (.string bytes, d) => bytes.length + uptoBulk d + 1
  | (_, d) => uptoBulk d + 1
 end
def uptoSmall : (H : Type) → List (DataW H) → Bool := fun _ ds => decide (uptoBulkAll ds ≤ 1048576)
def OpenSpec.upto (s : _root_.Go.ChangeSpec) : _root_.Go.OpenSpec := { _root_.Go.OpenSpec.ofChange s with cond := some uptoSmall }

/-- 'burinlaw13.IrValids', WHERE WHAT IT READS IS OF BULK AT MOST 1048576: true; the input reads as it did. -/
def irValidsUptoRow : OpenClaim := { program := "ytiiggldapncknaa", sum := "45d720f484189c6afee7874706e764e72238fdbf3b0a2228a84a89f148f87f43", func := "burin/burinlaw13.IrValids", spec := "irValids", apart := false, narrowed := true }
def IrValidsUptoSaid : Prop := irValidsUptoRow.holds Try.pinned (OpenSpec.upto irValidsSpec)

/-- 'burinlaw13.IrInsts', WHERE WHAT IT READS IS OF BULK AT MOST 1048576: true; the input reads as it did. -/
def irInstsUptoRow : OpenClaim := { program := "ytiiggldapncknaa", sum := "45d720f484189c6afee7874706e764e72238fdbf3b0a2228a84a89f148f87f43", func := "burin/burinlaw13.IrInsts", spec := "irInsts", apart := false, narrowed := true }
def IrInstsUptoSaid : Prop := irInstsUptoRow.holds Try.pinned (OpenSpec.upto irInstsSpec)

/-- 'burinlaw13.IrCopies', WHERE WHAT IT READS IS OF BULK AT MOST 1048576: true; the input reads as it did. -/
def irCopiesUptoRow : OpenClaim := { program := "ytiiggldapncknaa", sum := "45d720f484189c6afee7874706e764e72238fdbf3b0a2228a84a89f148f87f43", func := "burin/burinlaw13.IrCopies", spec := "irCopies", apart := false, narrowed := true }
def IrCopiesUptoSaid : Prop := irCopiesUptoRow.holds Try.pinned (OpenSpec.upto irCopiesSpec)

/-- 'burinlaw13.IrLimits', WHERE WHAT IT READS IS OF BULK AT MOST 1048576: true; the input reads as it did. -/
def irLimitsUptoRow : OpenClaim := { program := "ytiiggldapncknaa", sum := "45d720f484189c6afee7874706e764e72238fdbf3b0a2228a84a89f148f87f43", func := "burin/burinlaw13.IrLimits", spec := "irLimits", apart := false, narrowed := true }
def IrLimitsUptoSaid : Prop := irLimitsUptoRow.holds Try.pinned (OpenSpec.upto irLimitsSpec)

end Rows
end Go.Proofs.Ytiiggldapncknaa
