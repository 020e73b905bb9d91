/-
 What divide, shift and Do return: contracts over the program, for every operation's and type's number and every two values of 64 bits.
 What Do and Un return, and the document's answer for Un: contracts over the program, for every operation's and type's number and all values of 64 bits.
-/
import Derived.Test.YtphknepblchkdaaKNuBaseC
import Derived.Deep.RegionWith
namespace Go.Proofs.Ytphknepblchkdaa.Nu
open Go.RowKit
open Burin
set_option linter.unusedVariables false

end Go.Proofs.Ytphknepblchkdaa.Nu

namespace Burin
open Go
def un1 (op t a : Int) : Int := if 6 ≤ t then 0 else if op = 1 then keep1 t (-wr t a) else if op = 2 then wr t (-1 - wr t a) else if op = 3 then tr (wr t a == 0) else 0
def un2 (op t a : Int) : Int := if 6 ≤ t then 5 else if op = 1 then keep2 t (-wr t a) else if op = 2 then 0 else if op = 3 then 0 else 5
theorem un2_bd (op t a : Int) : 0 ≤ un2 op t a ∧ un2 op t a ≤ 5 := by
 unfold un2 keep2
 (repeat' split) <;> omega
end Burin
namespace Go.Proofs.Ytphknepblchkdaa.Nu
open Go.RowKit
open Burin
set_option linter.unusedVariables false

set_option maxHeartbeats 400000 in
theorem run_any (op t a : Int) (w : World) (h0 : 0 ≤ t) :
  Calls Try.prog 72 #[.int .i64 op, .int .i64 t, .int .i64 a] w fun e w' => e = .returned (.tuple #[.int .i64 (un1 op t a), .int .i64 (un2 op t a)]) ∧ Q w w' := by
 by_cases h6 : 6 ≤ t
 ·have e1 : un1 op t a = 0 := by simp [un1, h6]
  have e2 : un2 op t a = 5 := by simp [un2, h6]
  rw [e1, e2]
  clear e1 e2
  go_enter Try.func72, Try.ntmps72
  go_wp2_with (go_at_call 69; refine (rwidth_any _ _ (by omega)).mono ?_; rw [wid_none _ h6]; rintro e x0 ⟨rfl, q0⟩)
  go_ret2
  exact ⟨rfl, q0⟩
 ·have hw : 0 < wid t := by unfold wid; (repeat' split) <;> omega
  have hk : (wid t == 0) = false := by simp; omega
  obtain ⟨x1, x2⟩ := wr_bd t a
  have h : op = 1 ∨ op = 2 ∨ op = 3 ∨ op < 1 ∨ 3 < op := by omega
  rcases h with rfl | rfl | rfl | h | h
  ·have e1 : un1 1 t a = keep1 t (-wr t a) := by simp [un1, h6]
   have e2 : un2 1 t a = keep2 t (-wr t a) := by simp [un2, h6]
   rw [e1, e2]
   generalize hx : wr t a = x at *
   have HA : Hid (wr t a = x) := hx
   clear e1 e2 hx
   go_enter Try.func72, Try.ntmps72
   go_wp2_with (first | (go_at_call 69; refine (rwidth_any _ _ (by omega)).mono ?_; rintro e x0 ⟨rfl, q0⟩) | (go_at_call 73; refine (rwrap_any _ _ _ (by omega)).mono ?_; rw [HA.out]; rintro e x1 ⟨rfl, q1⟩) | (go_at_call 81; refine (rkeep_any _ _ _ (by omega)).mono ?_; rintro e x2 ⟨rfl, q2⟩))
   go_ret2
   exact ⟨rfl, (q0.trans q1).trans q2⟩
  ·have e1 : un1 2 t a = wr t (-1 - wr t a) := by simp [un1, h6]
   have e2 : un2 2 t a = 0 := by simp [un2, h6]
   rw [e1, e2]
   generalize hx : wr t a = x at *
   have HA : Hid (wr t a = x) := hx
   clear e1 e2 hx
   go_enter Try.func72, Try.ntmps72
   go_wp2_with (first | (go_at_call 69; refine (rwidth_any _ _ (by omega)).mono ?_; rintro e x0 ⟨rfl, q0⟩) | (go_at_call_of 73 (Value.int IntKind.i64 a); refine (rwrap_any _ _ _ (by omega)).mono ?_; rw [HA.out]; rintro e x1 ⟨rfl, q1⟩) | (go_at_call 73; refine (rwrap_any _ _ _ (by omega)).mono ?_; rintro e x2 ⟨rfl, q2⟩))
   go_ret2
   exact ⟨rfl, (q0.trans q1).trans q2⟩
  ·have e1 : un1 3 t a = tr (wr t a == 0) := by simp [un1, h6]
   have e2 : un2 3 t a = 0 := by simp [un2, h6]
   rw [e1, e2]
   generalize hx : wr t a = x at *
   have HA : Hid (wr t a = x) := hx
   clear e1 e2 hx
   go_enter Try.func72, Try.ntmps72
   go_wp2_with (first | (go_at_call 69; refine (rwidth_any _ _ (by omega)).mono ?_; rintro e x0 ⟨rfl, q0⟩) | (go_at_call 73; refine (rwrap_any _ _ _ (by omega)).mono ?_; rw [HA.out]; rintro e x1 ⟨rfl, q1⟩) | (go_at_call 82; refine (ryes_any _ _).mono ?_; rintro e x2 ⟨rfl, rfl⟩))
   go_ret2
   exact ⟨rfl, q0.trans q1⟩
  all_goals
   have n1 : ¬ op = 1 := by omega
   have n2 : ¬ op = 2 := by omega
   have n3 : ¬ op = 3 := by omega
   have e1 : un1 op t a = 0 := by simp [un1, n1, n2, n3]
   have e2 : un2 op t a = 5 := by simp [un2, n1, n2, n3]
   rw [e1, e2]
   clear e1 e2 n1 n2 n3
  ·have d1 : decide (op < 1) = true := by simpa using h
   go_enter Try.func72, Try.ntmps72
   go_wp2_with (first | (go_at_call 69; refine (rwidth_any _ _ (by omega)).mono ?_; rintro e x0 ⟨rfl, q0⟩))
   go_ret2
   exact ⟨rfl, q0⟩
  ·have d1 : decide (op < 1) = false := by simp; omega
   have d2 : decide (3 < op) = true := by simpa using h
   go_enter Try.func72, Try.ntmps72
   go_wp2_with (first | (go_at_call 69; refine (rwidth_any _ _ (by omega)).mono ?_; rintro e x0 ⟨rfl, q0⟩))
   go_ret2
   exact ⟨rfl, q0⟩

end Go.Proofs.Ytphknepblchkdaa.Nu
