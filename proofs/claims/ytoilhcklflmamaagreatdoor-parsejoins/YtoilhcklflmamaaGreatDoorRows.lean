/-
  NARROWER THAN 'FOR EVERY INPUT', by the rows' own cells (each row's printed sentence says how): ParseReads: laid · ParseSigns: laid · ParsePlaces: laid · ParseJoins: laid · ParseDeep: laid.
  DERIVED. THE GIVEN ROWS OF THIS SEAT. 5 by the template 'for every input the law returns true; each argument reads behind the call as it read before'; 0 by the template 'total and deterministic' (their statements: YtoilhcklflmamaaGreatDoorTotals.lean).
  GIVEN WITH THE SEED: the statements are not yours to turn. If you find one false, say at which input.
  Laid BY PROGRAM, IN A SANDBOX (cutbox-rows.mjs): the forced cells as the released guide's own fill.sh prints them over the translation 9bf17c92c9e545dc… (all of the seat's roots in one cut). By AI agents, Wed Nov 11 2026. No macro, syntax, notation, axiom, sorry.
-/
import Derived.Test.YtoilhcklflmamaaGreatDoorChecked
import GoSem.Claim
import GoSem.ClaimJoined
import GoSem.ClaimMapViews
import Derived.JoinedTies
import Derived.KernelRfl
namespace Go.Proofs.YtoilhcklflmamaaGreatDoor
/- THE CELL 'sum', in the pinned program and in every row, IS THE sha256 OF THE DUMP (.gsa) THAT YtoilhcklflmamaaGreatDoorProg.lean LOADS. Nothing in Lean hashes anything: it is a label: what it is worth is what the hold of that sum in a sandbox is worth. -/
noncomputable def Tryz.pinned : Pinned := { name := "ytoilhcklflmamaagreatdoor", sum := "9bf17c92c9e545dc02eef444a9c88c3467eb0e2c26a412142ff40ffe0ab5cef2", checked := Tryz.checked }
namespace Rows
def none {H : Type} : Left H := { results := [], args := [] }

/- WHAT THE LISTED PACKAGE-LEVEL VARIABLES READ AS WHEN THE CALL BEGINS. Each datum BY PROGRAM (the guide's laid-datum.mjs) off the statement by which the dump's own 'gosem.cut.vars' lays the variable. In a bare row this is a premise. The card (YtoilhcklflmamaaGreatDoorCards.lean) ties it to the program's text. -/
def laid_burin_lex_words {H : Type} : DataW H := .agg [.lit (.string [115, 116, 114, 117, 99, 116]), .lit (.string [105, 102]), .lit (.string [101, 108, 115, 101]), .lit (.string [102, 111, 114]), .lit (.string [116, 111]), .lit (.string [112, 114, 105, 110, 116]), .lit (.string [114, 101, 116, 117, 114, 110]), .lit (.string [105, 56]), .lit (.string [117, 56]), .lit (.string [105, 49, 54]), .lit (.string [117, 49, 54]), .lit (.string [105, 51, 50]), .lit (.string [117, 51, 50])]
def laid_burin_lex_signs {H : Type} : DataW H := .agg [.lit (.string [60, 60]), .lit (.string [62, 62]), .lit (.string [60, 61]), .lit (.string [62, 61]), .lit (.string [61, 61]), .lit (.string [33, 61]), .lit (.string [38, 38]), .lit (.string [124, 124]), .lit (.string [40]), .lit (.string [41]), .lit (.string [123]), .lit (.string [125]), .lit (.string [91]), .lit (.string [93]), .lit (.string [59]), .lit (.string [44]), .lit (.string [46]), .lit (.string [63]), .lit (.string [58]), .lit (.string [43]), .lit (.string [45]), .lit (.string [42]), .lit (.string [47]), .lit (.string [37]), .lit (.string [38]), .lit (.string [124]), .lit (.string [94]), .lit (.string [126]), .lit (.string [33]), .lit (.string [60]), .lit (.string [62]), .lit (.string [61])]
def laid_burin_parse_operations {H : Type} : DataW H := .agg [.agg [.lit (.string []), .lit (.int .i64 0)], .agg [.lit (.string [43]), .lit (.int .i64 9)], .agg [.lit (.string [45]), .lit (.int .i64 9)], .agg [.lit (.string [42]), .lit (.int .i64 10)], .agg [.lit (.string [47]), .lit (.int .i64 10)], .agg [.lit (.string [37]), .lit (.int .i64 10)], .agg [.lit (.string [38]), .lit (.int .i64 5)], .agg [.lit (.string [124]), .lit (.int .i64 3)], .agg [.lit (.string [94]), .lit (.int .i64 4)], .agg [.lit (.string [60, 60]), .lit (.int .i64 8)], .agg [.lit (.string [62, 62]), .lit (.int .i64 8)], .agg [.lit (.string [60]), .lit (.int .i64 7)], .agg [.lit (.string [60, 61]), .lit (.int .i64 7)], .agg [.lit (.string [62]), .lit (.int .i64 7)], .agg [.lit (.string [62, 61]), .lit (.int .i64 7)], .agg [.lit (.string [61, 61]), .lit (.int .i64 6)], .agg [.lit (.string [33, 61]), .lit (.int .i64 6)], .agg [.lit (.string [38, 38]), .lit (.int .i64 2)], .agg [.lit (.string [124, 124]), .lit (.int .i64 1)]]

/-- 'burinlaw05.ParseReads': WHATEVER THE INPUT: true; the input reads as it did. -/
def parseReadsSpec : ChangeSpec := { name := "parseReads", fn := fun _ => fun
  | [d] => { results := [.lit (.bool true)], args := [d] }
  | _ => none }
def parseReadsRow : OpenClaim := { program := "ytoilhcklflmamaagreatdoor", sum := "9bf17c92c9e545dc02eef444a9c88c3467eb0e2c26a412142ff40ffe0ab5cef2", func := "burin/burinlaw05.ParseReads", spec := "parseReads", inPlace := ["internal/bytealg.IndexByteString"], unfollowed := true, recurses := true, named := ["burin/lex.words", "burin/lex.signs", "burin/parse.operations"], apart := false, laid := [("burin/lex.words", laid_burin_lex_words), ("burin/lex.signs", laid_burin_lex_signs), ("burin/parse.operations", laid_burin_parse_operations)] }
def ParseReadsSaid : Prop := parseReadsRow.holds Tryz.pinned (OpenSpec.ofChange parseReadsSpec)

/-- ITS FALSE NEIGHBOUR: 'it returns false'. Refute it at one input. -/
def parseReadsWrong : ChangeSpec := { name := "parseReads", fn := fun _ => fun
  | [d] => { results := [.lit (.bool false)], args := [d] }
  | _ => none }
def ParseReadsWrongFalsely : Prop := parseReadsRow.holds Tryz.pinned (OpenSpec.ofChange parseReadsWrong)

/-- 'burinlaw05.ParseSigns': WHATEVER THE INPUT: true; the input reads as it did. -/
def parseSignsSpec : ChangeSpec := { name := "parseSigns", fn := fun _ => fun
  | [d] => { results := [.lit (.bool true)], args := [d] }
  | _ => none }
def parseSignsRow : OpenClaim := { program := "ytoilhcklflmamaagreatdoor", sum := "9bf17c92c9e545dc02eef444a9c88c3467eb0e2c26a412142ff40ffe0ab5cef2", func := "burin/burinlaw05.ParseSigns", spec := "parseSigns", inPlace := ["internal/bytealg.IndexByteString"], unfollowed := true, recurses := true, named := ["burin/lex.words", "burin/lex.signs", "burin/parse.operations"], apart := false, laid := [("burin/lex.words", laid_burin_lex_words), ("burin/lex.signs", laid_burin_lex_signs), ("burin/parse.operations", laid_burin_parse_operations)] }
def ParseSignsSaid : Prop := parseSignsRow.holds Tryz.pinned (OpenSpec.ofChange parseSignsSpec)

/-- ITS FALSE NEIGHBOUR: 'it returns false'. Refute it at one input. -/
def parseSignsWrong : ChangeSpec := { name := "parseSigns", fn := fun _ => fun
  | [d] => { results := [.lit (.bool false)], args := [d] }
  | _ => none }
def ParseSignsWrongFalsely : Prop := parseSignsRow.holds Tryz.pinned (OpenSpec.ofChange parseSignsWrong)

/-- 'burinlaw05.ParsePlaces': WHATEVER THE INPUT: true; the input reads as it did. -/
def parsePlacesSpec : ChangeSpec := { name := "parsePlaces", fn := fun _ => fun
  | [d] => { results := [.lit (.bool true)], args := [d] }
  | _ => none }
def parsePlacesRow : OpenClaim := { program := "ytoilhcklflmamaagreatdoor", sum := "9bf17c92c9e545dc02eef444a9c88c3467eb0e2c26a412142ff40ffe0ab5cef2", func := "burin/burinlaw05.ParsePlaces", spec := "parsePlaces", inPlace := ["internal/bytealg.IndexByteString"], unfollowed := true, recurses := true, named := ["burin/lex.words", "burin/lex.signs", "burin/parse.operations"], apart := false, laid := [("burin/lex.words", laid_burin_lex_words), ("burin/lex.signs", laid_burin_lex_signs), ("burin/parse.operations", laid_burin_parse_operations)] }
def ParsePlacesSaid : Prop := parsePlacesRow.holds Tryz.pinned (OpenSpec.ofChange parsePlacesSpec)

/-- ITS FALSE NEIGHBOUR: 'it returns false'. Refute it at one input. -/
def parsePlacesWrong : ChangeSpec := { name := "parsePlaces", fn := fun _ => fun
  | [d] => { results := [.lit (.bool false)], args := [d] }
  | _ => none }
def ParsePlacesWrongFalsely : Prop := parsePlacesRow.holds Tryz.pinned (OpenSpec.ofChange parsePlacesWrong)

/-- 'burinlaw05.ParseJoins': WHATEVER THE INPUT: true; the input reads as it did. -/
def parseJoinsSpec : ChangeSpec := { name := "parseJoins", fn := fun _ => fun
  | [d1, d2] => { results := [.lit (.bool true)], args := [d1, d2] }
  | _ => none }
def parseJoinsRow : OpenClaim := { program := "ytoilhcklflmamaagreatdoor", sum := "9bf17c92c9e545dc02eef444a9c88c3467eb0e2c26a412142ff40ffe0ab5cef2", func := "burin/burinlaw05.ParseJoins", spec := "parseJoins", inPlace := ["internal/bytealg.IndexByteString"], unfollowed := true, recurses := true, named := ["burin/lex.words", "burin/lex.signs", "burin/parse.operations"], apart := false, laid := [("burin/lex.words", laid_burin_lex_words), ("burin/lex.signs", laid_burin_lex_signs), ("burin/parse.operations", laid_burin_parse_operations)] }
def ParseJoinsSaid : Prop := parseJoinsRow.holds Tryz.pinned (OpenSpec.ofChange parseJoinsSpec)

/-- ITS FALSE NEIGHBOUR: 'it returns false'. Refute it at one input. -/
def parseJoinsWrong : ChangeSpec := { name := "parseJoins", fn := fun _ => fun
  | [d1, d2] => { results := [.lit (.bool false)], args := [d1, d2] }
  | _ => none }
def ParseJoinsWrongFalsely : Prop := parseJoinsRow.holds Tryz.pinned (OpenSpec.ofChange parseJoinsWrong)

/-- 'burinlaw05.ParseDeep': WHATEVER THE INPUT: true; the input reads as it did. -/
def parseDeepSpec : ChangeSpec := { name := "parseDeep", fn := fun _ => fun
  | [d] => { results := [.lit (.bool true)], args := [d] }
  | _ => none }
def parseDeepRow : OpenClaim := { program := "ytoilhcklflmamaagreatdoor", sum := "9bf17c92c9e545dc02eef444a9c88c3467eb0e2c26a412142ff40ffe0ab5cef2", func := "burin/burinlaw05.ParseDeep", spec := "parseDeep", inPlace := ["internal/bytealg.IndexByteString"], unfollowed := true, recurses := true, named := ["burin/lex.words", "burin/lex.signs", "burin/parse.operations"], apart := false, laid := [("burin/lex.words", laid_burin_lex_words), ("burin/lex.signs", laid_burin_lex_signs), ("burin/parse.operations", laid_burin_parse_operations)] }
def ParseDeepSaid : Prop := parseDeepRow.holds Tryz.pinned (OpenSpec.ofChange parseDeepSpec)

/-- ITS FALSE NEIGHBOUR: 'it returns false'. Refute it at one input. -/
def parseDeepWrong : ChangeSpec := { name := "parseDeep", fn := fun _ => fun
  | [d] => { results := [.lit (.bool false)], args := [d] }
  | _ => none }
def ParseDeepWrongFalsely : Prop := parseDeepRow.holds Tryz.pinned (OpenSpec.ofChange parseDeepWrong)

/- THE SECOND FORM. 'bulk': how many values and letters a reading holds, each counted each time it is reached (what is shared counts as often as it is met; a slice's spare places count too). A statement '..UptoSaid' is the law's where the arguments, and the package variables that the reading takes, are together of bulk at most 1048576: NARROWER than '..Said'. Prove '..Said' where nothing that the law and all that it calls make is longer than what came in: it says more and counts as full. Else prove '..UptoSaid'. A law counts once. -/
mutual
def uptoBulk {H : Type} : DataW H → Nat
  | .lit (.string bytes) => bytes.length + 1
  | .lit _ => 1
  | .nil => 1
  | .ptr d => uptoBulk d + 1
  | .slice elems spare => uptoBulkAll elems + uptoBulkAll spare + 1
  | .agg parts => uptoBulkAll parts + 1
  | .iface _ d => uptoBulk d + 1
  | .map entries => uptoBulkEntries entries + 1
  | .held _ => 1
def uptoBulkAll {H : Type} : List (DataW H) → Nat
  | [] => 0
  | d :: r => uptoBulk d + uptoBulkAll r
def uptoBulkEntries {H : Type} : List (Lit × DataW H) → Nat
  | [] => 0
  | x :: r => uptoBulkEntry x + uptoBulkEntries r
def uptoBulkEntry {H : Type} : Lit × DataW H → Nat
  | (.string bytes, d) => bytes.length + uptoBulk d + 1
  | (_, d) => uptoBulk d + 1
 end
def uptoSmall : (H : Type) → List (DataW H) → Bool := fun _ ds => decide (uptoBulkAll ds ≤ 1048576)
def OpenSpec.upto (s : _root_.Go.ChangeSpec) : _root_.Go.OpenSpec := { _root_.Go.OpenSpec.ofChange s with cond := some uptoSmall }

/-- 'burinlaw05.ParseReads', WHERE WHAT IT READS IS OF BULK AT MOST 1048576: true; the input reads as it did. -/
def parseReadsUptoRow : OpenClaim := { program := "ytoilhcklflmamaagreatdoor", sum := "9bf17c92c9e545dc02eef444a9c88c3467eb0e2c26a412142ff40ffe0ab5cef2", func := "burin/burinlaw05.ParseReads", spec := "parseReads", inPlace := ["internal/bytealg.IndexByteString"], unfollowed := true, recurses := true, named := ["burin/lex.words", "burin/lex.signs", "burin/parse.operations"], apart := false, laid := [("burin/lex.words", laid_burin_lex_words), ("burin/lex.signs", laid_burin_lex_signs), ("burin/parse.operations", laid_burin_parse_operations)], narrowed := true }
def ParseReadsUptoSaid : Prop := parseReadsUptoRow.holds Tryz.pinned (OpenSpec.upto parseReadsSpec)

/-- 'burinlaw05.ParseSigns', WHERE WHAT IT READS IS OF BULK AT MOST 1048576: true; the input reads as it did. -/
def parseSignsUptoRow : OpenClaim := { program := "ytoilhcklflmamaagreatdoor", sum := "9bf17c92c9e545dc02eef444a9c88c3467eb0e2c26a412142ff40ffe0ab5cef2", func := "burin/burinlaw05.ParseSigns", spec := "parseSigns", inPlace := ["internal/bytealg.IndexByteString"], unfollowed := true, recurses := true, named := ["burin/lex.words", "burin/lex.signs", "burin/parse.operations"], apart := false, laid := [("burin/lex.words", laid_burin_lex_words), ("burin/lex.signs", laid_burin_lex_signs), ("burin/parse.operations", laid_burin_parse_operations)], narrowed := true }
def ParseSignsUptoSaid : Prop := parseSignsUptoRow.holds Tryz.pinned (OpenSpec.upto parseSignsSpec)

/-- 'burinlaw05.ParsePlaces', WHERE WHAT IT READS IS OF BULK AT MOST 1048576: true; the input reads as it did. -/
def parsePlacesUptoRow : OpenClaim := { program := "ytoilhcklflmamaagreatdoor", sum := "9bf17c92c9e545dc02eef444a9c88c3467eb0e2c26a412142ff40ffe0ab5cef2", func := "burin/burinlaw05.ParsePlaces", spec := "parsePlaces", inPlace := ["internal/bytealg.IndexByteString"], unfollowed := true, recurses := true, named := ["burin/lex.words", "burin/lex.signs", "burin/parse.operations"], apart := false, laid := [("burin/lex.words", laid_burin_lex_words), ("burin/lex.signs", laid_burin_lex_signs), ("burin/parse.operations", laid_burin_parse_operations)], narrowed := true }
def ParsePlacesUptoSaid : Prop := parsePlacesUptoRow.holds Tryz.pinned (OpenSpec.upto parsePlacesSpec)

/-- 'burinlaw05.ParseJoins', WHERE WHAT IT READS IS OF BULK AT MOST 1048576: true; the input reads as it did. -/
def parseJoinsUptoRow : OpenClaim := { program := "ytoilhcklflmamaagreatdoor", sum := "9bf17c92c9e545dc02eef444a9c88c3467eb0e2c26a412142ff40ffe0ab5cef2", func := "burin/burinlaw05.ParseJoins", spec := "parseJoins", inPlace := ["internal/bytealg.IndexByteString"], unfollowed := true, recurses := true, named := ["burin/lex.words", "burin/lex.signs", "burin/parse.operations"], apart := false, laid := [("burin/lex.words", laid_burin_lex_words), ("burin/lex.signs", laid_burin_lex_signs), ("burin/parse.operations", laid_burin_parse_operations)], narrowed := true }
def ParseJoinsUptoSaid : Prop := parseJoinsUptoRow.holds Tryz.pinned (OpenSpec.upto parseJoinsSpec)

/-- 'burinlaw05.ParseDeep', WHERE WHAT IT READS IS OF BULK AT MOST 1048576: true; the input reads as it did. -/
def parseDeepUptoRow : OpenClaim := { program := "ytoilhcklflmamaagreatdoor", sum := "9bf17c92c9e545dc02eef444a9c88c3467eb0e2c26a412142ff40ffe0ab5cef2", func := "burin/burinlaw05.ParseDeep", spec := "parseDeep", inPlace := ["internal/bytealg.IndexByteString"], unfollowed := true, recurses := true, named := ["burin/lex.words", "burin/lex.signs", "burin/parse.operations"], apart := false, laid := [("burin/lex.words", laid_burin_lex_words), ("burin/lex.signs", laid_burin_lex_signs), ("burin/parse.operations", laid_burin_parse_operations)], narrowed := true }
def ParseDeepUptoSaid : Prop := parseDeepUptoRow.holds Tryz.pinned (OpenSpec.upto parseDeepSpec)

end Rows
end Go.Proofs.YtoilhcklflmamaaGreatDoor
