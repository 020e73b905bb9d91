/-
 Runs of right code and of what comes of it; two runs held against one another: contracts over the program; the conditions: the code lies in memory.
 The statement FlowKeeps: its walk over the program; the conditions: the code lies in memory.
-/
import Derived.Test.YtphknepblchkdaaKFlDf
import Derived.Test.YtphknepblchkdaaKFlCj
namespace Go.Proofs.Ytphknepblchkdaa.Fl
open Go.RowKit
open Go.Proofs.Ytphknepblchkdaa.In (zI zP zF zI_zI zP_zP cntS cntS_fnN len_cnt)
set_option linter.unusedVariables false

/-! ### A run takes no more steps than it may -/
/-! ### Runs of right code and of what comes of it -/
/-- A call of the document's run answers an outcome. -/
def Does (X : World) (c : PC) (k : Nat) (h : Bool) (x t : Int) (sp : Bool) (n : Nat) (tr : List Int) : Prop := Calls Try.prog 11 #[c.v, .int .i64 (k : Int)] X fun e w' => ∃ ta tc, e = .returned (.tuple #[.agg #[.bool h, .int .i64 x, .int .u8 t, .bool sp, .int .i64 (n : Int), .slice ta tr.length tc], .int .i64 0]) ∧ Dn.Trc w' ta tr ∧ tr.length ≤ 8388608 ∧ Q X w'
theorem valid_ev {c d : PC} {w0 : World} (hok : c.ok w0) (hd : EvC d (floC false c)) (hv : validP c = 0) (hn : codeN c ≤ 400) : validP d = 0 := by rw [validP_ev hd]; exact flo_valid hok hv hn false
end Go.Proofs.Ytphknepblchkdaa.Fl

namespace Go.Proofs.Ytphknepblchkdaa.Fl
open Go.RowKit
open Go.Proofs.Ytphknepblchkdaa.In (zI zP zF zI_zI zP_zP cntS cntS_fnN len_cnt)
set_option linter.unusedVariables false

end Go.Proofs.Ytphknepblchkdaa.Fl
