/-
  No cell of these rows narrows 'for every input' (looked for: loops, veiled, ifaces, maps, wideKeys, modest, calm, conditions, laid).
  DERIVED. THE GIVEN ROWS OF THIS SEAT. 4 by the template 'for every input the law returns true; each argument reads behind the call as it read before'; 0 by the template 'total and deterministic' (their statements: YteefahkjdpaogabTotals.lean).
  GIVEN WITH THE SEED: the statements are not yours to turn. If you find one false, say at which input.
  Laid BY PROGRAM, IN A SANDBOX (cutbox-rows.mjs): the forced cells as the released guide's own fill.sh prints them over the translation 113b6fd780049762… (all of the seat's roots in one cut). By AI agents, Wed Nov 11 2026. No macro, syntax, notation, axiom, sorry.
-/
import Derived.Test.YteefahkjdpaogabChecked
import GoSem.Claim
import GoSem.ClaimJoined
import GoSem.ClaimMapViews
import Derived.JoinedTies
import Derived.KernelRfl
namespace Go.Proofs.Yteefahkjdpaogab
/- THE CELL 'sum', in the pinned program and in every row, IS THE sha256 OF THE DUMP (.gsa) THAT YteefahkjdpaogabProg.lean LOADS. Nothing in Lean hashes anything: it is a label: what it is worth is what the hold of that sum in a sandbox is worth. -/
noncomputable def Try.pinned : Pinned := { name := "yteefahkjdpaogab", sum := "113b6fd7800497624eefcc324eb98ad8325e302dd29758f5b8a0b018d095fecb", checked := Try.checked }
namespace Rows
def none {H : Type} : Left H := { results := [], args := [] }

/-- 'burinlaw02.TapePlays': WHATEVER THE INPUT: true; the input reads as it did. -/
def tapePlaysSpec : ChangeSpec := { name := "tapePlays", fn := fun _ => fun
  | [d1, d2] => { results := [.lit (.bool true)], args := [d1, d2] }
  | _ => none }
def tapePlaysRow : OpenClaim := { program := "yteefahkjdpaogab", sum := "113b6fd7800497624eefcc324eb98ad8325e302dd29758f5b8a0b018d095fecb", func := "burin/burinlaw02.TapePlays", spec := "tapePlays", apart := false }
def TapePlaysSaid : Prop := tapePlaysRow.holds Try.pinned (OpenSpec.ofChange tapePlaysSpec)

/-- ITS FALSE NEIGHBOUR: 'it returns false'. Refute it at one input. -/
def tapePlaysWrong : ChangeSpec := { name := "tapePlays", fn := fun _ => fun
  | [d1, d2] => { results := [.lit (.bool false)], args := [d1, d2] }
  | _ => none }
def TapePlaysWrongFalsely : Prop := tapePlaysRow.holds Try.pinned (OpenSpec.ofChange tapePlaysWrong)

/-- 'burinlaw02.TapeEnds': WHATEVER THE INPUT: true; the input reads as it did. -/
def tapeEndsSpec : ChangeSpec := { name := "tapeEnds", fn := fun _ => fun
  | [d1, d2] => { results := [.lit (.bool true)], args := [d1, d2] }
  | _ => none }
def tapeEndsRow : OpenClaim := { program := "yteefahkjdpaogab", sum := "113b6fd7800497624eefcc324eb98ad8325e302dd29758f5b8a0b018d095fecb", func := "burin/burinlaw02.TapeEnds", spec := "tapeEnds", apart := false }
def TapeEndsSaid : Prop := tapeEndsRow.holds Try.pinned (OpenSpec.ofChange tapeEndsSpec)

/-- ITS FALSE NEIGHBOUR: 'it returns false'. Refute it at one input. -/
def tapeEndsWrong : ChangeSpec := { name := "tapeEnds", fn := fun _ => fun
  | [d1, d2] => { results := [.lit (.bool false)], args := [d1, d2] }
  | _ => none }
def TapeEndsWrongFalsely : Prop := tapeEndsRow.holds Try.pinned (OpenSpec.ofChange tapeEndsWrong)

/-- 'burinlaw02.TapeFair': WHATEVER THE INPUT: true; the input reads as it did. -/
def tapeFairSpec : ChangeSpec := { name := "tapeFair", fn := fun _ => fun
  | [d] => { results := [.lit (.bool true)], args := [d] }
  | _ => none }
def tapeFairRow : OpenClaim := { program := "yteefahkjdpaogab", sum := "113b6fd7800497624eefcc324eb98ad8325e302dd29758f5b8a0b018d095fecb", func := "burin/burinlaw02.TapeFair", spec := "tapeFair", apart := false }
def TapeFairSaid : Prop := tapeFairRow.holds Try.pinned (OpenSpec.ofChange tapeFairSpec)

/-- ITS FALSE NEIGHBOUR: 'it returns false'. Refute it at one input. -/
def tapeFairWrong : ChangeSpec := { name := "tapeFair", fn := fun _ => fun
  | [d] => { results := [.lit (.bool false)], args := [d] }
  | _ => none }
def TapeFairWrongFalsely : Prop := tapeFairRow.holds Try.pinned (OpenSpec.ofChange tapeFairWrong)

/-- 'burinlaw02.TapeLogs': WHATEVER THE INPUT: true; the input reads as it did. -/
def tapeLogsSpec : ChangeSpec := { name := "tapeLogs", fn := fun _ => fun
  | [d1, d2] => { results := [.lit (.bool true)], args := [d1, d2] }
  | _ => none }
def tapeLogsRow : OpenClaim := { program := "yteefahkjdpaogab", sum := "113b6fd7800497624eefcc324eb98ad8325e302dd29758f5b8a0b018d095fecb", func := "burin/burinlaw02.TapeLogs", spec := "tapeLogs", apart := false }
def TapeLogsSaid : Prop := tapeLogsRow.holds Try.pinned (OpenSpec.ofChange tapeLogsSpec)

/-- ITS FALSE NEIGHBOUR: 'it returns false'. Refute it at one input. -/
def tapeLogsWrong : ChangeSpec := { name := "tapeLogs", fn := fun _ => fun
  | [d1, d2] => { results := [.lit (.bool false)], args := [d1, d2] }
  | _ => none }
def TapeLogsWrongFalsely : Prop := tapeLogsRow.holds Try.pinned (OpenSpec.ofChange tapeLogsWrong)

/- THE SECOND FORM. 'bulk': how many values and letters a reading holds, each counted each time it is reached (what is shared counts as often as it is met; a slice's spare places count too). A statement '..UptoSaid' is the law's where the arguments, and the package variables that the reading takes, are together of bulk at most 1048576: NARROWER than '..Said'. Prove '..Said' where nothing that the law and all that it calls make is longer than what came in: it says more and counts as full. Else prove '..UptoSaid'. A law counts once. -/
mutual
def uptoBulk {H : Type} : DataW H → Nat
  | .lit (.string bytes) => bytes.length + 1
  | .lit _ => 1
  | .nil => 1
  | .ptr d => uptoBulk d + 1
  | .slice elems spare => uptoBulkAll elems + uptoBulkAll spare + 1
  | .agg parts => uptoBulkAll parts + 1
  | .iface _ d => uptoBulk d + 1
  | .map entries => uptoBulkEntries entries + 1
  | .held _ => 1
def uptoBulkAll {H : Type} : List (DataW H) → Nat
  | [] => 0
  | d :: r => uptoBulk d + uptoBulkAll r
def uptoBulkEntries {H : Type} : List (Lit × DataW H) → Nat
  | [] => 0
  | x :: r => uptoBulkEntry x + uptoBulkEntries r
def uptoBulkEntry {H : Type} : Lit × DataW H → Nat
  | (.string bytes, d) => bytes.length + uptoBulk d + 1
  | (_, d) => uptoBulk d + 1
 end
def uptoSmall : (H : Type) → List (DataW H) → Bool := fun _ ds => decide (uptoBulkAll ds ≤ 1048576)
def OpenSpec.upto (s : _root_.Go.ChangeSpec) : _root_.Go.OpenSpec := { _root_.Go.OpenSpec.ofChange s with cond := some uptoSmall }

/-- 'burinlaw02.TapePlays', WHERE WHAT IT READS IS OF BULK AT MOST 1048576: true; the input reads as it did. -/
def tapePlaysUptoRow : OpenClaim := { program := "yteefahkjdpaogab", sum := "113b6fd7800497624eefcc324eb98ad8325e302dd29758f5b8a0b018d095fecb", func := "burin/burinlaw02.TapePlays", spec := "tapePlays", apart := false, narrowed := true }
def TapePlaysUptoSaid : Prop := tapePlaysUptoRow.holds Try.pinned (OpenSpec.upto tapePlaysSpec)

/-- 'burinlaw02.TapeEnds', WHERE WHAT IT READS IS OF BULK AT MOST 1048576: true; the input reads as it did. -/
def tapeEndsUptoRow : OpenClaim := { program := "yteefahkjdpaogab", sum := "113b6fd7800497624eefcc324eb98ad8325e302dd29758f5b8a0b018d095fecb", func := "burin/burinlaw02.TapeEnds", spec := "tapeEnds", apart := false, narrowed := true }
def TapeEndsUptoSaid : Prop := tapeEndsUptoRow.holds Try.pinned (OpenSpec.upto tapeEndsSpec)

/-- 'burinlaw02.TapeFair', WHERE WHAT IT READS IS OF BULK AT MOST 1048576: true; the input reads as it did. -/
def tapeFairUptoRow : OpenClaim := { program := "yteefahkjdpaogab", sum := "113b6fd7800497624eefcc324eb98ad8325e302dd29758f5b8a0b018d095fecb", func := "burin/burinlaw02.TapeFair", spec := "tapeFair", apart := false, narrowed := true }
def TapeFairUptoSaid : Prop := tapeFairUptoRow.holds Try.pinned (OpenSpec.upto tapeFairSpec)

/-- 'burinlaw02.TapeLogs', WHERE WHAT IT READS IS OF BULK AT MOST 1048576: true; the input reads as it did. -/
def tapeLogsUptoRow : OpenClaim := { program := "yteefahkjdpaogab", sum := "113b6fd7800497624eefcc324eb98ad8325e302dd29758f5b8a0b018d095fecb", func := "burin/burinlaw02.TapeLogs", spec := "tapeLogs", apart := false, narrowed := true }
def TapeLogsUptoSaid : Prop := tapeLogsUptoRow.holds Try.pinned (OpenSpec.upto tapeLogsSpec)

end Rows
end Go.Proofs.Yteefahkjdpaogab
