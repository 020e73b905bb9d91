/-
  No cell of these rows narrows 'for every input' (looked for: loops, veiled, ifaces, maps, wideKeys, modest, calm, conditions, laid).
  DERIVED. THE GIVEN ROWS OF THIS SEAT. 6 by the template 'for every input the law returns true; each argument reads behind the call as it read before'; 0 by the template 'total and deterministic' (their statements: YtaomkfhbnakbjaaTotals.lean).
  GIVEN WITH THE SEED: the statements are not yours to turn. If you find one false, say at which input.
  Laid BY PROGRAM, IN A SANDBOX (cutbox-rows.mjs): the forced cells as the released guide's own fill.sh prints them over the translation d73afc9c1a473a6d… (all of the seat's roots in one cut). By AI agents, Wed Nov 11 2026. No macro, syntax, notation, axiom, sorry.
-/
import Derived.Test.YtaomkfhbnakbjaaChecked
import GoSem.Claim
import GoSem.ClaimJoined
import GoSem.ClaimMapViews
import Derived.JoinedTies
import Derived.KernelRfl
namespace Go.Proofs.Ytaomkfhbnakbjaa
/- THE CELL 'sum', in the pinned program and in every row, IS THE sha256 OF THE DUMP (.gsa) THAT YtaomkfhbnakbjaaProg.lean LOADS. Nothing in Lean hashes anything: it is a label: what it is worth is what the hold of that sum in a sandbox is worth. -/
noncomputable def Try.pinned : Pinned := { name := "ytaomkfhbnakbjaa", sum := "d73afc9c1a473a6dce4b689d939914ae6a9383650109535b52ec0f0ed3a244b8", checked := Try.checked }
namespace Rows
def none {H : Type} : Left H := { results := [], args := [] }

/-- 'burinlaw14.RunRuns': WHATEVER THE INPUT: true; the input reads as it did. -/
def runRunsSpec : ChangeSpec := { name := "runRuns", fn := fun _ => fun
  | [d1, d2] => { results := [.lit (.bool true)], args := [d1, d2] }
  | _ => none }
def runRunsRow : OpenClaim := { program := "ytaomkfhbnakbjaa", sum := "d73afc9c1a473a6dce4b689d939914ae6a9383650109535b52ec0f0ed3a244b8", func := "burin/burinlaw14.RunRuns", spec := "runRuns", recurses := true, plainKeys := false, apart := false }
def RunRunsSaid : Prop := runRunsRow.holds Try.pinned (OpenSpec.ofChange runRunsSpec)

/-- ITS FALSE NEIGHBOUR: 'it returns false'. Refute it at one input. -/
def runRunsWrong : ChangeSpec := { name := "runRuns", fn := fun _ => fun
  | [d1, d2] => { results := [.lit (.bool false)], args := [d1, d2] }
  | _ => none }
def RunRunsWrongFalsely : Prop := runRunsRow.holds Try.pinned (OpenSpec.ofChange runRunsWrong)

/-- 'burinlaw16.FoldKeeps': WHATEVER THE INPUT: true; the input reads as it did. -/
def foldKeepsSpec : ChangeSpec := { name := "foldKeeps", fn := fun _ => fun
  | [d1, d2] => { results := [.lit (.bool true)], args := [d1, d2] }
  | _ => none }
def foldKeepsRow : OpenClaim := { program := "ytaomkfhbnakbjaa", sum := "d73afc9c1a473a6dce4b689d939914ae6a9383650109535b52ec0f0ed3a244b8", func := "burin/burinlaw16.FoldKeeps", spec := "foldKeeps", recurses := true, plainKeys := false, apart := false }
def FoldKeepsSaid : Prop := foldKeepsRow.holds Try.pinned (OpenSpec.ofChange foldKeepsSpec)

/-- ITS FALSE NEIGHBOUR: 'it returns false'. Refute it at one input. -/
def foldKeepsWrong : ChangeSpec := { name := "foldKeeps", fn := fun _ => fun
  | [d1, d2] => { results := [.lit (.bool false)], args := [d1, d2] }
  | _ => none }
def FoldKeepsWrongFalsely : Prop := foldKeepsRow.holds Try.pinned (OpenSpec.ofChange foldKeepsWrong)

/-- 'burinlaw16.FoldSame': WHATEVER THE INPUT: true; the input reads as it did. -/
def foldSameSpec : ChangeSpec := { name := "foldSame", fn := fun _ => fun
  | [d1, d2] => { results := [.lit (.bool true)], args := [d1, d2] }
  | _ => none }
def foldSameRow : OpenClaim := { program := "ytaomkfhbnakbjaa", sum := "d73afc9c1a473a6dce4b689d939914ae6a9383650109535b52ec0f0ed3a244b8", func := "burin/burinlaw16.FoldSame", spec := "foldSame", plainKeys := false, apart := false }
def FoldSameSaid : Prop := foldSameRow.holds Try.pinned (OpenSpec.ofChange foldSameSpec)

/-- ITS FALSE NEIGHBOUR: 'it returns false'. Refute it at one input. -/
def foldSameWrong : ChangeSpec := { name := "foldSame", fn := fun _ => fun
  | [d1, d2] => { results := [.lit (.bool false)], args := [d1, d2] }
  | _ => none }
def FoldSameWrongFalsely : Prop := foldSameRow.holds Try.pinned (OpenSpec.ofChange foldSameWrong)

/-- 'burinlaw16.FoldDoes': WHATEVER THE INPUT: true; the input reads as it did. -/
def foldDoesSpec : ChangeSpec := { name := "foldDoes", fn := fun _ => fun
  | [d] => { results := [.lit (.bool true)], args := [d] }
  | _ => none }
def foldDoesRow : OpenClaim := { program := "ytaomkfhbnakbjaa", sum := "d73afc9c1a473a6dce4b689d939914ae6a9383650109535b52ec0f0ed3a244b8", func := "burin/burinlaw16.FoldDoes", spec := "foldDoes", plainKeys := false, apart := false }
def FoldDoesSaid : Prop := foldDoesRow.holds Try.pinned (OpenSpec.ofChange foldDoesSpec)

/-- ITS FALSE NEIGHBOUR: 'it returns false'. Refute it at one input. -/
def foldDoesWrong : ChangeSpec := { name := "foldDoes", fn := fun _ => fun
  | [d] => { results := [.lit (.bool false)], args := [d] }
  | _ => none }
def FoldDoesWrongFalsely : Prop := foldDoesRow.holds Try.pinned (OpenSpec.ofChange foldDoesWrong)

/-- 'burinlaw16.FoldWrong': WHATEVER THE INPUT: true; the input reads as it did. -/
def foldWrongSpec : ChangeSpec := { name := "foldWrong", fn := fun _ => fun
  | [d1, d2, d3, d4] => { results := [.lit (.bool true)], args := [d1, d2, d3, d4] }
  | _ => none }
def foldWrongRow : OpenClaim := { program := "ytaomkfhbnakbjaa", sum := "d73afc9c1a473a6dce4b689d939914ae6a9383650109535b52ec0f0ed3a244b8", func := "burin/burinlaw16.FoldWrong", spec := "foldWrong", plainKeys := false, apart := false }
def FoldWrongSaid : Prop := foldWrongRow.holds Try.pinned (OpenSpec.ofChange foldWrongSpec)

/-- ITS FALSE NEIGHBOUR: 'it returns false'. Refute it at one input. -/
def foldWrongWrong : ChangeSpec := { name := "foldWrong", fn := fun _ => fun
  | [d1, d2, d3, d4] => { results := [.lit (.bool false)], args := [d1, d2, d3, d4] }
  | _ => none }
def FoldWrongWrongFalsely : Prop := foldWrongRow.holds Try.pinned (OpenSpec.ofChange foldWrongWrong)

/-- 'burinlaw17.PropKeeps': WHATEVER THE INPUT: true; the input reads as it did. -/
def propKeepsSpec : ChangeSpec := { name := "propKeeps", fn := fun _ => fun
  | [d1, d2] => { results := [.lit (.bool true)], args := [d1, d2] }
  | _ => none }
def propKeepsRow : OpenClaim := { program := "ytaomkfhbnakbjaa", sum := "d73afc9c1a473a6dce4b689d939914ae6a9383650109535b52ec0f0ed3a244b8", func := "burin/burinlaw17.PropKeeps", spec := "propKeeps", recurses := true, plainKeys := false, apart := false }
def PropKeepsSaid : Prop := propKeepsRow.holds Try.pinned (OpenSpec.ofChange propKeepsSpec)

/-- ITS FALSE NEIGHBOUR: 'it returns false'. Refute it at one input. -/
def propKeepsWrong : ChangeSpec := { name := "propKeeps", fn := fun _ => fun
  | [d1, d2] => { results := [.lit (.bool false)], args := [d1, d2] }
  | _ => none }
def PropKeepsWrongFalsely : Prop := propKeepsRow.holds Try.pinned (OpenSpec.ofChange propKeepsWrong)

/- THE SECOND FORM. 'bulk': how many values and letters a reading holds, each counted each time it is reached (what is shared counts as often as it is met; a slice's spare places count too). A statement '..UptoSaid' is the law's where the arguments, and the package variables that the reading takes, are together of bulk at most 1048576: NARROWER than '..Said'. Prove '..Said' where nothing that the law and all that it calls make is longer than what came in: it says more and counts as full. Else prove '..UptoSaid'. A law counts once. -/
mutual
def uptoBulk {H : Type} : DataW H → Nat
  | .lit (.string bytes) => bytes.length + 1
  | .lit _ => 1
  | .nil => 1
  | .ptr d => uptoBulk d + 1
  | .slice elems spare => uptoBulkAll elems + uptoBulkAll spare + 1
  | .agg parts => uptoBulkAll parts + 1
  | .iface _ d => uptoBulk d + 1
  | .map entries => uptoBulkEntries entries + 1
  | .held _ => 1
def uptoBulkAll {H : Type} : List (DataW H) → Nat
  | [] => 0
  | d :: r => uptoBulk d + uptoBulkAll r
def uptoBulkEntries {H : Type} : List (Lit × DataW H) → Nat
  | [] => 0
  | x :: r => uptoBulkEntry x + uptoBulkEntries r
def uptoBulkEntry {H : Type} : Lit × DataW H → Nat
  | (.string bytes, d) => bytes.length + uptoBulk d + 1
  | (_, d) => uptoBulk d + 1
 end
def uptoSmall : (H : Type) → List (DataW H) → Bool := fun _ ds => decide (uptoBulkAll ds ≤ 1048576)
def OpenSpec.upto (s : _root_.Go.ChangeSpec) : _root_.Go.OpenSpec := { _root_.Go.OpenSpec.ofChange s with cond := some uptoSmall }

/-- 'burinlaw14.RunRuns', WHERE WHAT IT READS IS OF BULK AT MOST 1048576: true; the input reads as it did. -/
def runRunsUptoRow : OpenClaim := { program := "ytaomkfhbnakbjaa", sum := "d73afc9c1a473a6dce4b689d939914ae6a9383650109535b52ec0f0ed3a244b8", func := "burin/burinlaw14.RunRuns", spec := "runRuns", recurses := true, plainKeys := false, apart := false, narrowed := true }
def RunRunsUptoSaid : Prop := runRunsUptoRow.holds Try.pinned (OpenSpec.upto runRunsSpec)

/-- 'burinlaw16.FoldKeeps', WHERE WHAT IT READS IS OF BULK AT MOST 1048576: true; the input reads as it did. -/
def foldKeepsUptoRow : OpenClaim := { program := "ytaomkfhbnakbjaa", sum := "d73afc9c1a473a6dce4b689d939914ae6a9383650109535b52ec0f0ed3a244b8", func := "burin/burinlaw16.FoldKeeps", spec := "foldKeeps", recurses := true, plainKeys := false, apart := false, narrowed := true }
def FoldKeepsUptoSaid : Prop := foldKeepsUptoRow.holds Try.pinned (OpenSpec.upto foldKeepsSpec)

/-- 'burinlaw16.FoldSame', WHERE WHAT IT READS IS OF BULK AT MOST 1048576: true; the input reads as it did. -/
def foldSameUptoRow : OpenClaim := { program := "ytaomkfhbnakbjaa", sum := "d73afc9c1a473a6dce4b689d939914ae6a9383650109535b52ec0f0ed3a244b8", func := "burin/burinlaw16.FoldSame", spec := "foldSame", plainKeys := false, apart := false, narrowed := true }
def FoldSameUptoSaid : Prop := foldSameUptoRow.holds Try.pinned (OpenSpec.upto foldSameSpec)

/-- 'burinlaw16.FoldDoes', WHERE WHAT IT READS IS OF BULK AT MOST 1048576: true; the input reads as it did. -/
def foldDoesUptoRow : OpenClaim := { program := "ytaomkfhbnakbjaa", sum := "d73afc9c1a473a6dce4b689d939914ae6a9383650109535b52ec0f0ed3a244b8", func := "burin/burinlaw16.FoldDoes", spec := "foldDoes", plainKeys := false, apart := false, narrowed := true }
def FoldDoesUptoSaid : Prop := foldDoesUptoRow.holds Try.pinned (OpenSpec.upto foldDoesSpec)

/-- 'burinlaw16.FoldWrong', WHERE WHAT IT READS IS OF BULK AT MOST 1048576: true; the input reads as it did. -/
def foldWrongUptoRow : OpenClaim := { program := "ytaomkfhbnakbjaa", sum := "d73afc9c1a473a6dce4b689d939914ae6a9383650109535b52ec0f0ed3a244b8", func := "burin/burinlaw16.FoldWrong", spec := "foldWrong", plainKeys := false, apart := false, narrowed := true }
def FoldWrongUptoSaid : Prop := foldWrongUptoRow.holds Try.pinned (OpenSpec.upto foldWrongSpec)

/-- 'burinlaw17.PropKeeps', WHERE WHAT IT READS IS OF BULK AT MOST 1048576: true; the input reads as it did. -/
def propKeepsUptoRow : OpenClaim := { program := "ytaomkfhbnakbjaa", sum := "d73afc9c1a473a6dce4b689d939914ae6a9383650109535b52ec0f0ed3a244b8", func := "burin/burinlaw17.PropKeeps", spec := "propKeeps", recurses := true, plainKeys := false, apart := false, narrowed := true }
def PropKeepsUptoSaid : Prop := propKeepsUptoRow.holds Try.pinned (OpenSpec.upto propKeepsSpec)

end Rows
end Go.Proofs.Ytaomkfhbnakbjaa
