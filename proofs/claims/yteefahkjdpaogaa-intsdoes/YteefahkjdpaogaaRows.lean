/-
  No cell of these rows narrows 'for every input' (looked for: loops, veiled, ifaces, maps, wideKeys, modest, calm, conditions, laid).
  DERIVED. THE GIVEN ROWS OF THIS SEAT. 6 by the template 'for every input the law returns true; each argument reads behind the call as it read before'; 0 by the template 'total and deterministic' (their statements: YteefahkjdpaogaaTotals.lean).
  GIVEN WITH THE SEED: the statements are not yours to turn. If you find one false, say at which input.
  Laid BY PROGRAM, IN A SANDBOX (cutbox-rows.mjs): the forced cells as the released guide's own fill.sh prints them over the translation 2f6e69f8ffb6c7b0… (all of the seat's roots in one cut). By AI agents, Wed Nov 11 2026. No macro, syntax, notation, axiom, sorry.
-/
import Derived.Test.YteefahkjdpaogaaChecked
import GoSem.Claim
import GoSem.ClaimJoined
import GoSem.ClaimMapViews
import Derived.JoinedTies
import Derived.KernelRfl
namespace Go.Proofs.Yteefahkjdpaogaa
/- THE CELL 'sum', in the pinned program and in every row, IS THE sha256 OF THE DUMP (.gsa) THAT YteefahkjdpaogaaProg.lean LOADS. Nothing in Lean hashes anything: it is a label: what it is worth is what the hold of that sum in a sandbox is worth. -/
noncomputable def Try.pinned : Pinned := { name := "yteefahkjdpaogaa", sum := "2f6e69f8ffb6c7b03f724e4b6de91761886ad311937ef842b2446a1b6c07da9b", checked := Try.checked }
namespace Rows
def none {H : Type} : Left H := { results := [], args := [] }

/-- 'burinlaw01.IntsTypes': WHATEVER THE INPUT: true; the input reads as it did. -/
def intsTypesSpec : ChangeSpec := { name := "intsTypes", fn := fun _ => fun
  | [d1, d2] => { results := [.lit (.bool true)], args := [d1, d2] }
  | _ => none }
def intsTypesRow : OpenClaim := { program := "yteefahkjdpaogaa", sum := "2f6e69f8ffb6c7b03f724e4b6de91761886ad311937ef842b2446a1b6c07da9b", func := "burin/burinlaw01.IntsTypes", spec := "intsTypes", apart := false }
def IntsTypesSaid : Prop := intsTypesRow.holds Try.pinned (OpenSpec.ofChange intsTypesSpec)

/-- ITS FALSE NEIGHBOUR: 'it returns false'. Refute it at one input. -/
def intsTypesWrong : ChangeSpec := { name := "intsTypes", fn := fun _ => fun
  | [d1, d2] => { results := [.lit (.bool false)], args := [d1, d2] }
  | _ => none }
def IntsTypesWrongFalsely : Prop := intsTypesRow.holds Try.pinned (OpenSpec.ofChange intsTypesWrong)

/-- 'burinlaw01.IntsDoes': WHATEVER THE INPUT: true; the input reads as it did. -/
def intsDoesSpec : ChangeSpec := { name := "intsDoes", fn := fun _ => fun
  | [d1, d2, d3, d4] => { results := [.lit (.bool true)], args := [d1, d2, d3, d4] }
  | _ => none }
def intsDoesRow : OpenClaim := { program := "yteefahkjdpaogaa", sum := "2f6e69f8ffb6c7b03f724e4b6de91761886ad311937ef842b2446a1b6c07da9b", func := "burin/burinlaw01.IntsDoes", spec := "intsDoes", apart := false }
def IntsDoesSaid : Prop := intsDoesRow.holds Try.pinned (OpenSpec.ofChange intsDoesSpec)

/-- ITS FALSE NEIGHBOUR: 'it returns false'. Refute it at one input. -/
def intsDoesWrong : ChangeSpec := { name := "intsDoes", fn := fun _ => fun
  | [d1, d2, d3, d4] => { results := [.lit (.bool false)], args := [d1, d2, d3, d4] }
  | _ => none }
def IntsDoesWrongFalsely : Prop := intsDoesRow.holds Try.pinned (OpenSpec.ofChange intsDoesWrong)

/-- 'burinlaw01.IntsUns': WHATEVER THE INPUT: true; the input reads as it did. -/
def intsUnsSpec : ChangeSpec := { name := "intsUns", fn := fun _ => fun
  | [d1, d2, d3] => { results := [.lit (.bool true)], args := [d1, d2, d3] }
  | _ => none }
def intsUnsRow : OpenClaim := { program := "yteefahkjdpaogaa", sum := "2f6e69f8ffb6c7b03f724e4b6de91761886ad311937ef842b2446a1b6c07da9b", func := "burin/burinlaw01.IntsUns", spec := "intsUns", apart := false }
def IntsUnsSaid : Prop := intsUnsRow.holds Try.pinned (OpenSpec.ofChange intsUnsSpec)

/-- ITS FALSE NEIGHBOUR: 'it returns false'. Refute it at one input. -/
def intsUnsWrong : ChangeSpec := { name := "intsUns", fn := fun _ => fun
  | [d1, d2, d3] => { results := [.lit (.bool false)], args := [d1, d2, d3] }
  | _ => none }
def IntsUnsWrongFalsely : Prop := intsUnsRow.holds Try.pinned (OpenSpec.ofChange intsUnsWrong)

/-- 'burinlaw01.IntsClosed': WHATEVER THE INPUT: true; the input reads as it did. -/
def intsClosedSpec : ChangeSpec := { name := "intsClosed", fn := fun _ => fun
  | [d1, d2, d3, d4] => { results := [.lit (.bool true)], args := [d1, d2, d3, d4] }
  | _ => none }
def intsClosedRow : OpenClaim := { program := "yteefahkjdpaogaa", sum := "2f6e69f8ffb6c7b03f724e4b6de91761886ad311937ef842b2446a1b6c07da9b", func := "burin/burinlaw01.IntsClosed", spec := "intsClosed", apart := false }
def IntsClosedSaid : Prop := intsClosedRow.holds Try.pinned (OpenSpec.ofChange intsClosedSpec)

/-- ITS FALSE NEIGHBOUR: 'it returns false'. Refute it at one input. -/
def intsClosedWrong : ChangeSpec := { name := "intsClosed", fn := fun _ => fun
  | [d1, d2, d3, d4] => { results := [.lit (.bool false)], args := [d1, d2, d3, d4] }
  | _ => none }
def IntsClosedWrongFalsely : Prop := intsClosedRow.holds Try.pinned (OpenSpec.ofChange intsClosedWrong)

/-- 'burinlaw01.IntsWraps': WHATEVER THE INPUT: true; the input reads as it did. -/
def intsWrapsSpec : ChangeSpec := { name := "intsWraps", fn := fun _ => fun
  | [d1, d2, d3, d4] => { results := [.lit (.bool true)], args := [d1, d2, d3, d4] }
  | _ => none }
def intsWrapsRow : OpenClaim := { program := "yteefahkjdpaogaa", sum := "2f6e69f8ffb6c7b03f724e4b6de91761886ad311937ef842b2446a1b6c07da9b", func := "burin/burinlaw01.IntsWraps", spec := "intsWraps", apart := false }
def IntsWrapsSaid : Prop := intsWrapsRow.holds Try.pinned (OpenSpec.ofChange intsWrapsSpec)

/-- ITS FALSE NEIGHBOUR: 'it returns false'. Refute it at one input. -/
def intsWrapsWrong : ChangeSpec := { name := "intsWraps", fn := fun _ => fun
  | [d1, d2, d3, d4] => { results := [.lit (.bool false)], args := [d1, d2, d3, d4] }
  | _ => none }
def IntsWrapsWrongFalsely : Prop := intsWrapsRow.holds Try.pinned (OpenSpec.ofChange intsWrapsWrong)

/-- 'burinlaw01.IntsDivides': WHATEVER THE INPUT: true; the input reads as it did. -/
def intsDividesSpec : ChangeSpec := { name := "intsDivides", fn := fun _ => fun
  | [d1, d2, d3] => { results := [.lit (.bool true)], args := [d1, d2, d3] }
  | _ => none }
def intsDividesRow : OpenClaim := { program := "yteefahkjdpaogaa", sum := "2f6e69f8ffb6c7b03f724e4b6de91761886ad311937ef842b2446a1b6c07da9b", func := "burin/burinlaw01.IntsDivides", spec := "intsDivides", apart := false }
def IntsDividesSaid : Prop := intsDividesRow.holds Try.pinned (OpenSpec.ofChange intsDividesSpec)

/-- ITS FALSE NEIGHBOUR: 'it returns false'. Refute it at one input. -/
def intsDividesWrong : ChangeSpec := { name := "intsDivides", fn := fun _ => fun
  | [d1, d2, d3] => { results := [.lit (.bool false)], args := [d1, d2, d3] }
  | _ => none }
def IntsDividesWrongFalsely : Prop := intsDividesRow.holds Try.pinned (OpenSpec.ofChange intsDividesWrong)

/- THE SECOND FORM. 'bulk': how many values and letters a reading holds, each counted each time it is reached (what is shared counts as often as it is met; a slice's spare places count too). A statement '..UptoSaid' is the law's where the arguments, and the package variables that the reading takes, are together of bulk at most 1048576: NARROWER than '..Said'. Prove '..Said' where nothing that the law and all that it calls make is longer than what came in: it says more and counts as full. Else prove '..UptoSaid'. A law counts once. -/
mutual
def uptoBulk {H : Type} : DataW H → Nat
  | .lit (.string bytes) => bytes.length + 1
  | .lit _ => 1
  | .nil => 1
  | .ptr d => uptoBulk d + 1
  | .slice elems spare => uptoBulkAll elems + uptoBulkAll spare + 1
  | .agg parts => uptoBulkAll parts + 1
  | .iface _ d => uptoBulk d + 1
  | .map entries => uptoBulkEntries entries + 1
  | .held _ => 1
def uptoBulkAll {H : Type} : List (DataW H) → Nat
  | [] => 0
  | d :: r => uptoBulk d + uptoBulkAll r
def uptoBulkEntries {H : Type} : List (Lit × DataW H) → Nat
  | [] => 0
  | x :: r => uptoBulkEntry x + uptoBulkEntries r
def uptoBulkEntry {H : Type} : Lit × DataW H → Nat
  | (.string bytes, d) => bytes.length + uptoBulk d + 1
  | (_, d) => uptoBulk d + 1
 end
def uptoSmall : (H : Type) → List (DataW H) → Bool := fun _ ds => decide (uptoBulkAll ds ≤ 1048576)
def OpenSpec.upto (s : _root_.Go.ChangeSpec) : _root_.Go.OpenSpec := { _root_.Go.OpenSpec.ofChange s with cond := some uptoSmall }

/-- 'burinlaw01.IntsTypes', WHERE WHAT IT READS IS OF BULK AT MOST 1048576: true; the input reads as it did. -/
def intsTypesUptoRow : OpenClaim := { program := "yteefahkjdpaogaa", sum := "2f6e69f8ffb6c7b03f724e4b6de91761886ad311937ef842b2446a1b6c07da9b", func := "burin/burinlaw01.IntsTypes", spec := "intsTypes", apart := false, narrowed := true }
def IntsTypesUptoSaid : Prop := intsTypesUptoRow.holds Try.pinned (OpenSpec.upto intsTypesSpec)

/-- 'burinlaw01.IntsDoes', WHERE WHAT IT READS IS OF BULK AT MOST 1048576: true; the input reads as it did. -/
def intsDoesUptoRow : OpenClaim := { program := "yteefahkjdpaogaa", sum := "2f6e69f8ffb6c7b03f724e4b6de91761886ad311937ef842b2446a1b6c07da9b", func := "burin/burinlaw01.IntsDoes", spec := "intsDoes", apart := false, narrowed := true }
def IntsDoesUptoSaid : Prop := intsDoesUptoRow.holds Try.pinned (OpenSpec.upto intsDoesSpec)

/-- 'burinlaw01.IntsUns', WHERE WHAT IT READS IS OF BULK AT MOST 1048576: true; the input reads as it did. -/
def intsUnsUptoRow : OpenClaim := { program := "yteefahkjdpaogaa", sum := "2f6e69f8ffb6c7b03f724e4b6de91761886ad311937ef842b2446a1b6c07da9b", func := "burin/burinlaw01.IntsUns", spec := "intsUns", apart := false, narrowed := true }
def IntsUnsUptoSaid : Prop := intsUnsUptoRow.holds Try.pinned (OpenSpec.upto intsUnsSpec)

/-- 'burinlaw01.IntsClosed', WHERE WHAT IT READS IS OF BULK AT MOST 1048576: true; the input reads as it did. -/
def intsClosedUptoRow : OpenClaim := { program := "yteefahkjdpaogaa", sum := "2f6e69f8ffb6c7b03f724e4b6de91761886ad311937ef842b2446a1b6c07da9b", func := "burin/burinlaw01.IntsClosed", spec := "intsClosed", apart := false, narrowed := true }
def IntsClosedUptoSaid : Prop := intsClosedUptoRow.holds Try.pinned (OpenSpec.upto intsClosedSpec)

/-- 'burinlaw01.IntsWraps', WHERE WHAT IT READS IS OF BULK AT MOST 1048576: true; the input reads as it did. -/
def intsWrapsUptoRow : OpenClaim := { program := "yteefahkjdpaogaa", sum := "2f6e69f8ffb6c7b03f724e4b6de91761886ad311937ef842b2446a1b6c07da9b", func := "burin/burinlaw01.IntsWraps", spec := "intsWraps", apart := false, narrowed := true }
def IntsWrapsUptoSaid : Prop := intsWrapsUptoRow.holds Try.pinned (OpenSpec.upto intsWrapsSpec)

/-- 'burinlaw01.IntsDivides', WHERE WHAT IT READS IS OF BULK AT MOST 1048576: true; the input reads as it did. -/
def intsDividesUptoRow : OpenClaim := { program := "yteefahkjdpaogaa", sum := "2f6e69f8ffb6c7b03f724e4b6de91761886ad311937ef842b2446a1b6c07da9b", func := "burin/burinlaw01.IntsDivides", spec := "intsDivides", apart := false, narrowed := true }
def IntsDividesUptoSaid : Prop := intsDividesUptoRow.holds Try.pinned (OpenSpec.upto intsDividesSpec)

end Rows
end Go.Proofs.Yteefahkjdpaogaa
