/-
  No cell of these rows narrows 'for every input' (looked for: loops, veiled, ifaces, maps, wideKeys, modest, calm, conditions, laid).
  DERIVED. THE GIVEN ROWS OF THIS SEAT. 3 by the template 'for every input the law returns true; each argument reads behind the call as it read before'; 0 by the template 'total and deterministic' (their statements: YtnaflfpkkbfnfaaTotals.lean).
  GIVEN WITH THE SEED: the statements are not yours to turn. If you find one false, say at which input.
  Laid BY PROGRAM, IN A SANDBOX (cutbox-rows.mjs): the forced cells as the released guide's own fill.sh prints them over the translation ea350615152047cd… (all of the seat's roots in one cut). By AI agents, Wed Nov 11 2026. No macro, syntax, notation, axiom, sorry.
-/
import Derived.Test.YtnaflfpkkbfnfaaChecked
import GoSem.Claim
import GoSem.ClaimJoined
import GoSem.ClaimMapViews
import Derived.JoinedTies
import Derived.KernelRfl
namespace Go.Proofs.Ytnaflfpkkbfnfaa
/- THE CELL 'sum', in the pinned program and in every row, IS THE sha256 OF THE DUMP (.gsa) THAT YtnaflfpkkbfnfaaProg.lean LOADS. Nothing in Lean hashes anything: it is a label: what it is worth is what the hold of that sum in a sandbox is worth. -/
noncomputable def Try.pinned : Pinned := { name := "ytnaflfpkkbfnfaa", sum := "ea350615152047cd8ab86da8e847b68cfdbb36f5507ab56563d5be2208e420d2", checked := Try.checked }
namespace Rows
def none {H : Type} : Left H := { results := [], args := [] }

/-- 'burinlaw22.InlineDoes': WHATEVER THE INPUT: true; the input reads as it did. -/
def inlineDoesSpec : ChangeSpec := { name := "inlineDoes", fn := fun _ => fun
  | [d] => { results := [.lit (.bool true)], args := [d] }
  | _ => none }
def inlineDoesRow : OpenClaim := { program := "ytnaflfpkkbfnfaa", sum := "ea350615152047cd8ab86da8e847b68cfdbb36f5507ab56563d5be2208e420d2", func := "burin/burinlaw22.InlineDoes", spec := "inlineDoes", unfollowed := true, recurses := true, apart := false }
def InlineDoesSaid : Prop := inlineDoesRow.holds Try.pinned (OpenSpec.ofChange inlineDoesSpec)

/-- ITS FALSE NEIGHBOUR: 'it returns false'. Refute it at one input. -/
def inlineDoesWrong : ChangeSpec := { name := "inlineDoes", fn := fun _ => fun
  | [d] => { results := [.lit (.bool false)], args := [d] }
  | _ => none }
def InlineDoesWrongFalsely : Prop := inlineDoesRow.holds Try.pinned (OpenSpec.ofChange inlineDoesWrong)

/-- 'burinlaw22.InlineSame': WHATEVER THE INPUT: true; the input reads as it did. -/
def inlineSameSpec : ChangeSpec := { name := "inlineSame", fn := fun _ => fun
  | [d1, d2] => { results := [.lit (.bool true)], args := [d1, d2] }
  | _ => none }
def inlineSameRow : OpenClaim := { program := "ytnaflfpkkbfnfaa", sum := "ea350615152047cd8ab86da8e847b68cfdbb36f5507ab56563d5be2208e420d2", func := "burin/burinlaw22.InlineSame", spec := "inlineSame", unfollowed := true, recurses := true, apart := false }
def InlineSameSaid : Prop := inlineSameRow.holds Try.pinned (OpenSpec.ofChange inlineSameSpec)

/-- ITS FALSE NEIGHBOUR: 'it returns false'. Refute it at one input. -/
def inlineSameWrong : ChangeSpec := { name := "inlineSame", fn := fun _ => fun
  | [d1, d2] => { results := [.lit (.bool false)], args := [d1, d2] }
  | _ => none }
def InlineSameWrongFalsely : Prop := inlineSameRow.holds Try.pinned (OpenSpec.ofChange inlineSameWrong)

/-- 'burinlaw22.InlineWrong': WHATEVER THE INPUT: true; the input reads as it did. -/
def inlineWrongSpec : ChangeSpec := { name := "inlineWrong", fn := fun _ => fun
  | [d1, d2] => { results := [.lit (.bool true)], args := [d1, d2] }
  | _ => none }
def inlineWrongRow : OpenClaim := { program := "ytnaflfpkkbfnfaa", sum := "ea350615152047cd8ab86da8e847b68cfdbb36f5507ab56563d5be2208e420d2", func := "burin/burinlaw22.InlineWrong", spec := "inlineWrong", unfollowed := true, recurses := true, apart := false }
def InlineWrongSaid : Prop := inlineWrongRow.holds Try.pinned (OpenSpec.ofChange inlineWrongSpec)

/-- ITS FALSE NEIGHBOUR: 'it returns false'. Refute it at one input. -/
def inlineWrongWrong : ChangeSpec := { name := "inlineWrong", fn := fun _ => fun
  | [d1, d2] => { results := [.lit (.bool false)], args := [d1, d2] }
  | _ => none }
def InlineWrongWrongFalsely : Prop := inlineWrongRow.holds Try.pinned (OpenSpec.ofChange inlineWrongWrong)

/- THE SECOND FORM. 'bulk': how many values and letters a reading holds, each counted each time it is reached (what is shared counts as often as it is met; a slice's spare places count too). A statement '..UptoSaid' is the law's where the arguments, and the package variables that the reading takes, are together of bulk at most 1048576: NARROWER than '..Said'. Prove '..Said' where nothing that the law and all that it calls make is longer than what came in: it says more and counts as full. Else prove '..UptoSaid'. A law counts once. -/
mutual
def uptoBulk {H : Type} : DataW H → Nat
  | .lit (.string bytes) => bytes.length + 1
  | .lit _ => 1
  | .nil => 1
  | .ptr d => uptoBulk d + 1
  | .slice elems spare => uptoBulkAll elems + uptoBulkAll spare + 1
  | .agg parts => uptoBulkAll parts + 1
  | .iface _ d => uptoBulk d + 1
  | .map entries => uptoBulkEntries entries + 1
  | .held _ => 1
def uptoBulkAll {H : Type} : List (DataW H) → Nat
  | [] => 0
  | d :: r => uptoBulk d + uptoBulkAll r
def uptoBulkEntries {H : Type} : List (Lit × DataW H) → Nat
  | [] => 0
  | x :: r => uptoBulkEntry x + uptoBulkEntries r
def uptoBulkEntry {H : Type} : Lit × DataW H → Nat
  | (.string bytes, d) => bytes.length + uptoBulk d + 1
  | (_, d) => uptoBulk d + 1
 end
def uptoSmall : (H : Type) → List (DataW H) → Bool := fun _ ds => decide (uptoBulkAll ds ≤ 1048576)
def OpenSpec.upto (s : _root_.Go.ChangeSpec) : _root_.Go.OpenSpec := { _root_.Go.OpenSpec.ofChange s with cond := some uptoSmall }

/-- 'burinlaw22.InlineDoes', WHERE WHAT IT READS IS OF BULK AT MOST 1048576: true; the input reads as it did. -/
def inlineDoesUptoRow : OpenClaim := { program := "ytnaflfpkkbfnfaa", sum := "ea350615152047cd8ab86da8e847b68cfdbb36f5507ab56563d5be2208e420d2", func := "burin/burinlaw22.InlineDoes", spec := "inlineDoes", unfollowed := true, recurses := true, apart := false, narrowed := true }
def InlineDoesUptoSaid : Prop := inlineDoesUptoRow.holds Try.pinned (OpenSpec.upto inlineDoesSpec)

/-- 'burinlaw22.InlineSame', WHERE WHAT IT READS IS OF BULK AT MOST 1048576: true; the input reads as it did. -/
def inlineSameUptoRow : OpenClaim := { program := "ytnaflfpkkbfnfaa", sum := "ea350615152047cd8ab86da8e847b68cfdbb36f5507ab56563d5be2208e420d2", func := "burin/burinlaw22.InlineSame", spec := "inlineSame", unfollowed := true, recurses := true, apart := false, narrowed := true }
def InlineSameUptoSaid : Prop := inlineSameUptoRow.holds Try.pinned (OpenSpec.upto inlineSameSpec)

/-- 'burinlaw22.InlineWrong', WHERE WHAT IT READS IS OF BULK AT MOST 1048576: true; the input reads as it did. -/
def inlineWrongUptoRow : OpenClaim := { program := "ytnaflfpkkbfnfaa", sum := "ea350615152047cd8ab86da8e847b68cfdbb36f5507ab56563d5be2208e420d2", func := "burin/burinlaw22.InlineWrong", spec := "inlineWrong", unfollowed := true, recurses := true, apart := false, narrowed := true }
def InlineWrongUptoSaid : Prop := inlineWrongUptoRow.holds Try.pinned (OpenSpec.upto inlineWrongSpec)

end Rows
end Go.Proofs.Ytnaflfpkkbfnfaa
