/-
  No cell of these rows narrows 'for every input' (looked for: loops, veiled, ifaces, maps, wideKeys, modest, calm, conditions, laid).
  DERIVED. THE GIVEN ROWS OF THIS SEAT. 4 by the template 'for every input the law returns true; each argument reads behind the call as it read before'; 0 by the template 'total and deterministic' (their statements: YtipmbamcldlmeaaTotals.lean).
  GIVEN WITH THE SEED: the statements are not yours to turn. If you find one false, say at which input.
  Laid BY PROGRAM, IN A SANDBOX (cutbox-rows.mjs): the forced cells as the released guide's own fill.sh prints them over the translation 2b7eaf4084af89d0… (all of the seat's roots in one cut). By AI agents, Wed Nov 11 2026. No macro, syntax, notation, axiom, sorry.
-/
import Derived.Test.YtipmbamcldlmeaaChecked
import GoSem.Claim
import GoSem.ClaimJoined
import GoSem.ClaimMapViews
import Derived.JoinedTies
import Derived.KernelRfl
namespace Go.Proofs.Ytipmbamcldlmeaa
/- THE CELL 'sum', in the pinned program and in every row, IS THE sha256 OF THE DUMP (.gsa) THAT YtipmbamcldlmeaaProg.lean LOADS. Nothing in Lean hashes anything: it is a label: what it is worth is what the hold of that sum in a sandbox is worth. -/
noncomputable def Try.pinned : Pinned := { name := "ytipmbamcldlmeaa", sum := "2b7eaf4084af89d0c95055f236d5dd5c71ba440e87bb23411417dbf1bcbc559f", checked := Try.checked }
namespace Rows
def none {H : Type} : Left H := { results := [], args := [] }

/-- 'burinlaw17.PropKeeps': WHATEVER THE INPUT: true; the input reads as it did. -/
def propKeepsSpec : ChangeSpec := { name := "propKeeps", fn := fun _ => fun
  | [d1, d2] => { results := [.lit (.bool true)], args := [d1, d2] }
  | _ => none }
def propKeepsRow : OpenClaim := { program := "ytipmbamcldlmeaa", sum := "2b7eaf4084af89d0c95055f236d5dd5c71ba440e87bb23411417dbf1bcbc559f", func := "burin/burinlaw17.PropKeeps", spec := "propKeeps", recurses := true, apart := false }
def PropKeepsSaid : Prop := propKeepsRow.holds Try.pinned (OpenSpec.ofChange propKeepsSpec)

/-- ITS FALSE NEIGHBOUR: 'it returns false'. Refute it at one input. -/
def propKeepsWrong : ChangeSpec := { name := "propKeeps", fn := fun _ => fun
  | [d1, d2] => { results := [.lit (.bool false)], args := [d1, d2] }
  | _ => none }
def PropKeepsWrongFalsely : Prop := propKeepsRow.holds Try.pinned (OpenSpec.ofChange propKeepsWrong)

/-- 'burinlaw17.PropSame': WHATEVER THE INPUT: true; the input reads as it did. -/
def propSameSpec : ChangeSpec := { name := "propSame", fn := fun _ => fun
  | [d1, d2] => { results := [.lit (.bool true)], args := [d1, d2] }
  | _ => none }
def propSameRow : OpenClaim := { program := "ytipmbamcldlmeaa", sum := "2b7eaf4084af89d0c95055f236d5dd5c71ba440e87bb23411417dbf1bcbc559f", func := "burin/burinlaw17.PropSame", spec := "propSame", apart := false }
def PropSameSaid : Prop := propSameRow.holds Try.pinned (OpenSpec.ofChange propSameSpec)

/-- ITS FALSE NEIGHBOUR: 'it returns false'. Refute it at one input. -/
def propSameWrong : ChangeSpec := { name := "propSame", fn := fun _ => fun
  | [d1, d2] => { results := [.lit (.bool false)], args := [d1, d2] }
  | _ => none }
def PropSameWrongFalsely : Prop := propSameRow.holds Try.pinned (OpenSpec.ofChange propSameWrong)

/-- 'burinlaw17.PropDoes': WHATEVER THE INPUT: true; the input reads as it did. -/
def propDoesSpec : ChangeSpec := { name := "propDoes", fn := fun _ => fun
  | [d] => { results := [.lit (.bool true)], args := [d] }
  | _ => none }
def propDoesRow : OpenClaim := { program := "ytipmbamcldlmeaa", sum := "2b7eaf4084af89d0c95055f236d5dd5c71ba440e87bb23411417dbf1bcbc559f", func := "burin/burinlaw17.PropDoes", spec := "propDoes", apart := false }
def PropDoesSaid : Prop := propDoesRow.holds Try.pinned (OpenSpec.ofChange propDoesSpec)

/-- ITS FALSE NEIGHBOUR: 'it returns false'. Refute it at one input. -/
def propDoesWrong : ChangeSpec := { name := "propDoes", fn := fun _ => fun
  | [d] => { results := [.lit (.bool false)], args := [d] }
  | _ => none }
def PropDoesWrongFalsely : Prop := propDoesRow.holds Try.pinned (OpenSpec.ofChange propDoesWrong)

/-- 'burinlaw17.PropWrong': WHATEVER THE INPUT: true; the input reads as it did. -/
def propWrongSpec : ChangeSpec := { name := "propWrong", fn := fun _ => fun
  | [d] => { results := [.lit (.bool true)], args := [d] }
  | _ => none }
def propWrongRow : OpenClaim := { program := "ytipmbamcldlmeaa", sum := "2b7eaf4084af89d0c95055f236d5dd5c71ba440e87bb23411417dbf1bcbc559f", func := "burin/burinlaw17.PropWrong", spec := "propWrong", recurses := true, apart := false }
def PropWrongSaid : Prop := propWrongRow.holds Try.pinned (OpenSpec.ofChange propWrongSpec)

/-- ITS FALSE NEIGHBOUR: 'it returns false'. Refute it at one input. -/
def propWrongWrong : ChangeSpec := { name := "propWrong", fn := fun _ => fun
  | [d] => { results := [.lit (.bool false)], args := [d] }
  | _ => none }
def PropWrongWrongFalsely : Prop := propWrongRow.holds Try.pinned (OpenSpec.ofChange propWrongWrong)

/- THE SECOND FORM. 'bulk': how many values and letters a reading holds, each counted each time it is reached (what is shared counts as often as it is met; a slice's spare places count too). A statement '..UptoSaid' is the law's where the arguments, and the package variables that the reading takes, are together of bulk at most 1048576: NARROWER than '..Said'. Prove '..Said' where nothing that the law and all that it calls make is longer than what came in: it says more and counts as full. Else prove '..UptoSaid'. A law counts once. -/
mutual
def uptoBulk {H : Type} : DataW H → Nat
  | .lit (.string bytes) => bytes.length + 1
  | .lit _ => 1
  | .nil => 1
  | .ptr d => uptoBulk d + 1
  | .slice elems spare => uptoBulkAll elems + uptoBulkAll spare + 1
  | .agg parts => uptoBulkAll parts + 1
  | .iface _ d => uptoBulk d + 1
  | .map entries => uptoBulkEntries entries + 1
  | .held _ => 1
def uptoBulkAll {H : Type} : List (DataW H) → Nat
  | [] => 0
  | d :: r => uptoBulk d + uptoBulkAll r
def uptoBulkEntries {H : Type} : List (Lit × DataW H) → Nat
  | [] => 0
  | x :: r => uptoBulkEntry x + uptoBulkEntries r
def uptoBulkEntry {H : Type} : Lit × DataW H → Nat
  | (.string bytes, d) => bytes.length + uptoBulk d + 1
  | (_, d) => uptoBulk d + 1
 end
def uptoSmall : (H : Type) → List (DataW H) → Bool := fun _ ds => decide (uptoBulkAll ds ≤ 1048576)
def OpenSpec.upto (s : _root_.Go.ChangeSpec) : _root_.Go.OpenSpec := { _root_.Go.OpenSpec.ofChange s with cond := some uptoSmall }

/-- 'burinlaw17.PropKeeps', WHERE WHAT IT READS IS OF BULK AT MOST 1048576: true; the input reads as it did. -/
def propKeepsUptoRow : OpenClaim := { program := "ytipmbamcldlmeaa", sum := "2b7eaf4084af89d0c95055f236d5dd5c71ba440e87bb23411417dbf1bcbc559f", func := "burin/burinlaw17.PropKeeps", spec := "propKeeps", recurses := true, apart := false, narrowed := true }
def PropKeepsUptoSaid : Prop := propKeepsUptoRow.holds Try.pinned (OpenSpec.upto propKeepsSpec)

/-- 'burinlaw17.PropSame', WHERE WHAT IT READS IS OF BULK AT MOST 1048576: true; the input reads as it did. -/
def propSameUptoRow : OpenClaim := { program := "ytipmbamcldlmeaa", sum := "2b7eaf4084af89d0c95055f236d5dd5c71ba440e87bb23411417dbf1bcbc559f", func := "burin/burinlaw17.PropSame", spec := "propSame", apart := false, narrowed := true }
def PropSameUptoSaid : Prop := propSameUptoRow.holds Try.pinned (OpenSpec.upto propSameSpec)

/-- 'burinlaw17.PropDoes', WHERE WHAT IT READS IS OF BULK AT MOST 1048576: true; the input reads as it did. -/
def propDoesUptoRow : OpenClaim := { program := "ytipmbamcldlmeaa", sum := "2b7eaf4084af89d0c95055f236d5dd5c71ba440e87bb23411417dbf1bcbc559f", func := "burin/burinlaw17.PropDoes", spec := "propDoes", apart := false, narrowed := true }
def PropDoesUptoSaid : Prop := propDoesUptoRow.holds Try.pinned (OpenSpec.upto propDoesSpec)

/-- 'burinlaw17.PropWrong', WHERE WHAT IT READS IS OF BULK AT MOST 1048576: true; the input reads as it did. -/
def propWrongUptoRow : OpenClaim := { program := "ytipmbamcldlmeaa", sum := "2b7eaf4084af89d0c95055f236d5dd5c71ba440e87bb23411417dbf1bcbc559f", func := "burin/burinlaw17.PropWrong", spec := "propWrong", recurses := true, apart := false, narrowed := true }
def PropWrongUptoSaid : Prop := propWrongUptoRow.holds Try.pinned (OpenSpec.upto propWrongSpec)

end Rows
end Go.Proofs.Ytipmbamcldlmeaa
