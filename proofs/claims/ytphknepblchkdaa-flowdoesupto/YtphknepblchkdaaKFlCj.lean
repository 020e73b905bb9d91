/-
 The statement FlowWrong: its walk over the program; the conditions: the number is in range.
-/
import Derived.Test.YtphknepblchkdaaKFlCi
namespace Go.Proofs.Ytphknepblchkdaa.Fl
open Go.RowKit
open Go.Proofs.Ytphknepblchkdaa.In (zI zP zF zI_zI zP_zP cntS cntS_fnN len_cnt)
set_option linter.unusedVariables false

theorem Cds.keep {X Y : World} {b : Nat} {c : PC} (h : Cds X b c) (q : Q X Y) : Cds Y b c := ⟨cell_keep q h.1, cell_keep q h.2.1, cell_keep q h.2.2⟩
theorem cds_box (w : World) (c : PC) : Cds (bxC w c) w.heap.size c := (bxC_at (Q.refl _)).three
/-- The example in memory, boxed. -/
structure WS (w W : World) (cb : Nat) (imm : Int) (b : Nat) : Prop where
 eb : EB imm b W
 bx : W.heap[cb]? = some (.cells #[.slice none 0 0, .slice none 0 0, .slice (some ⟨b + 8, 0, none⟩) 1 1] 26 (0, 0))
 nb : cb ≠ b + 1
 lo : w.heap.size ≤ b
 q : Q w W
theorem WS.keep {w W W' : World} {cb b : Nat} {imm : Int} (h : WS w W cb imm b) (q : Q W W') : WS w W' cb imm b := ⟨h.eb.q q, heap_keep q h.bx, h.nb, h.lo, h.q.trans q⟩
theorem WS.three {w W : World} {cb b : Nat} {imm : Int} (h : WS w W cb imm b) : W.cell? ⟨cb, 0, none⟩ = some (.slice none 0 0) ∧ W.cell? ⟨cb, 1, none⟩ = some (.slice none 0 0) ∧ W.cell? ⟨cb, 2, none⟩ = some (.slice (some ⟨b + 8, 0, none⟩) 1 1) := ⟨(cell_of_block h.bx 0).trans rfl, (cell_of_block h.bx 1).trans rfl, (cell_of_block h.bx 2).trans rfl⟩

end Go.Proofs.Ytphknepblchkdaa.Fl
