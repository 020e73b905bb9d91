/-
 What the small functions of layer 1, and of the document's answer for it, return: contracts over the program, for every type's number and every value of 64 bits.
 What Low, Fits and Wrap return, in the program and in the document's answer: contracts over the program, for every type's number and every value of 64 bits.
 What settle, divide, shift, compare and Do return: contracts over the program, for every operation's and type's number and every two values of 64 bits.
-/
import Derived.Test.YtphknepblchkdaaRows
import Derived.Test.YtphknepblchkdaaKNuPlainE
import Derived.WalkKit
import Derived.WalkSpells
import Derived.WalkLawsBesides
namespace Go.Proofs.Ytphknepblchkdaa.Nu
open Go.RowKit
open Burin

def Q (w w' : World) : Prop := Below w.heap.size w w'
theorem Q.refl (w : World) : Q w w := Below.refl _ _
theorem Q.trans {a b c : World} (h : Q a b) (k : Q b c) : Q a c := Below.trans h (Below.mono k h.size)
theorem Q.alloc {a w : World} (h : Q a w) (o : Obj) : Q a (w.alloc o) := Below.alloc h h.size o
theorem Q.drew {a w : World} (h : Q a w) : Q a w.drew := Below.drew h
theorem ret_int {k : IntKind} {a b : Int} (h : a = b) : Ending.returned (.int k a) = .returned (.int k b) := by rw [h]
set_option maxHeartbeats 400000 in
theorem form_any (t : Int) (w : World) :
  Calls Try.prog 89 #[.int .u8 t] w fun e w' => e = .returned (.bool (decide (t ≤ 5))) ∧ w' = w := by
 go_enter Try.func89, Try.ntmps89
 go_wp2
 go_ret
 exact ⟨rfl, rfl⟩

set_option maxHeartbeats 400000 in
theorem rwidth_any (t : Int) (w : World) (h0 : 0 ≤ t) :
  Calls Try.prog 69 #[.int .i64 t] w fun e w' => e = .returned (.int .i64 (wid t)) ∧ Q w w' := by
 rcases cases7 h0 with rfl | rfl | rfl | rfl | rfl | rfl | h
 case inr.inr.inr.inr.inr.inr =>
  have hb : decide (t < 0) = false := by simp; omega
  have hc : decide (5 < t) = true := by simp; omega
  go_enter Try.func69, Try.ntmps69
  go_wp2
  go_ret
  exact ⟨by rw [wid_none _ h]; rfl, (Q.refl _).alloc _⟩
 all_goals
  go_enter Try.func69, Try.ntmps69
  go_wp2
  go_ret
  exact ⟨rfl, (Q.refl _).alloc _⟩

set_option maxHeartbeats 400000 in
theorem rsigned_any (t : Int) (w : World) (h0 : 0 ≤ t) :
  Calls Try.prog 84 #[.int .i64 t] w fun e w' => e = .returned (.bool (sgn t)) ∧ w' = w := by
 rcases cases7 h0 with rfl | rfl | rfl | rfl | rfl | rfl | h
 case inr.inr.inr.inr.inr.inr =>
  have hb : (t == 0) = false := by simp; omega
  have hc : (t == 2) = false := by simp; omega
  have hd : (t == 4) = false := by simp; omega
  go_enter Try.func84, Try.ntmps84
  go_wp2
  go_ret
  exact ⟨by rw [sgn_none _ h]; rfl, rfl⟩
 all_goals
  go_enter Try.func84, Try.ntmps84
  go_wp2
  go_ret
  exact ⟨rfl, rfl⟩

set_option maxHeartbeats 400000 in
theorem rhigh_any (t : Int) (w : World) (h0 : 0 ≤ t) :
  Calls Try.prog 83 #[.int .i64 t] w fun e w' => e = .returned (.int .i64 (high t)) ∧ Q w w' := by
 rcases cases7 h0 with rfl | rfl | rfl | rfl | rfl | rfl | h
 case inr.inr.inr.inr.inr.inr =>
  rw [high_none _ h]
  go_enter Try.func83, Try.ntmps83
  go_wp2_with (go_at_call 69; refine (rwidth_any _ _ (by omega)).mono ?_; rw [wid_none _ h]; rintro e w1 ⟨rfl, hq1⟩)
  go_ret
  exact ⟨rfl, by assumption⟩
 all_goals
  go_enter Try.func83, Try.ntmps83
  go_wp2_with (first | (go_at_call 69; refine (rwidth_any _ _ (by omega)).mono ?_; simp only [wid]; rintro e w1 ⟨rfl, hq1⟩) | (go_at_call 84; refine (rsigned_any _ _ (by omega)).mono ?_; simp only [sgn]; rintro e w1 ⟨rfl, rfl⟩))
  go_ret
  exact ⟨rfl, by assumption⟩

end Go.Proofs.Ytphknepblchkdaa.Nu

namespace Go.Proofs.Ytphknepblchkdaa.Nu
open Go.RowKit
open Burin

set_option maxHeartbeats 400000 in
theorem rlow_any (t : Int) (w : World) (h0 : 0 ≤ t) :
  Calls Try.prog 93 #[.int .i64 t] w fun e w' => e = .returned (.int .i64 (low t)) ∧ Q w w' := by
 rcases cases7 h0 with rfl | rfl | rfl | rfl | rfl | rfl | h
 case inr.inr.inr.inr.inr.inr =>
  rw [low_none _ h]
  go_enter Try.func93, Try.ntmps93
  go_wp2_with (go_at_call 69; refine (rwidth_any _ _ (by omega)).mono ?_; rw [wid_none _ h]; rintro e w1 ⟨rfl, hq1⟩)
  go_ret
  exact ⟨rfl, by assumption⟩
 all_goals
  go_enter Try.func93, Try.ntmps93
  go_wp2_with (first | (go_at_call 69; refine (rwidth_any _ _ (by omega)).mono ?_; simp only [wid]; rintro e w1 ⟨rfl, hq1⟩) | (go_at_call 84; refine (rsigned_any _ _ (by omega)).mono ?_; simp only [sgn]; rintro e w1 ⟨rfl, rfl⟩) | (go_at_call 83; refine (rhigh_any _ _ (by omega)).mono ?_; simp only [high]; rintro e w2 ⟨rfl, hq2⟩))
  go_ret
  first | exact ⟨rfl, by assumption⟩ | exact ⟨rfl, Q.trans (by assumption) (by assumption)⟩

set_option maxHeartbeats 400000 in
theorem rfits_any (t v : Int) (w : World) (h0 : 0 ≤ t) :
  Calls Try.prog 86 #[.int .i64 t, .int .i64 v] w fun e w' => e = .returned (.bool (fit t v)) ∧ Q w w' := by
 by_cases h : 6 ≤ t
 ·rw [fit_none _ _ h]
  go_enter Try.func86, Try.ntmps86
  go_wp2_with (go_at_call 69; refine (rwidth_any _ _ (by omega)).mono ?_; rw [wid_none _ h]; rintro e w1 ⟨rfl, hq1⟩)
  go_ret
  exact ⟨rfl, by assumption⟩
 ·have hw : 0 < wid t := by unfold wid; (repeat' split) <;> omega
  generalize hx : wid t = x at hw
  have HX : Hid (wid t = x) := hx
  have hd : decide (0 < x) = true := by simpa using hw
  have hf : fit t v = (decide (low t ≤ v) && decide (v ≤ high t)) := rfl
  rw [hf]
  generalize hl : low t = l
  generalize hh : high t = r
  have HL : Hid (low t = l) := hl
  have HH : Hid (high t = r) := hh
  clear hf hl hh hx
  by_cases c : l ≤ v
  ·have hc : decide (l ≤ v) = true := by simpa using c
   rw [hc]
   go_enter Try.func86, Try.ntmps86
   go_wp2_with (first | (go_at_call 69; refine (rwidth_any _ _ (by omega)).mono ?_; rw [HX.out]; rintro e w1 ⟨rfl, hq1⟩) | (go_at_call 93; refine (rlow_any _ _ (by omega)).mono ?_; rw [HL.out]; rintro e w2 ⟨rfl, hq2⟩) | (go_at_call 83; refine (rhigh_any _ _ (by omega)).mono ?_; rw [HH.out]; rintro e w3 ⟨rfl, hq3⟩))
   go_ret
   exact ⟨rfl, Q.trans (Q.trans (by assumption) (by assumption)) (by assumption)⟩
  ·have hc : decide (l ≤ v) = false := by simpa using c
   rw [hc]
   go_enter Try.func86, Try.ntmps86
   go_wp2_with (first | (go_at_call 69; refine (rwidth_any _ _ (by omega)).mono ?_; rw [HX.out]; rintro e w1 ⟨rfl, hq1⟩) | (go_at_call 93; refine (rlow_any _ _ (by omega)).mono ?_; rw [HL.out]; rintro e w2 ⟨rfl, hq2⟩))
   go_ret
   exact ⟨rfl, Q.trans (by assumption) (by assumption)⟩

theorem tm_lo (v : Int) (m : Int) (h : 0 < m) : -m < v.tmod m := by
 have := Int.tmod_lt_of_pos (-v) h
 rw [Int.neg_tmod] at this
 omega
theorem tm_hi (v : Int) (m : Int) (h : 0 < m) : v.tmod m < m := Int.tmod_lt_of_pos v h

set_option maxHeartbeats 400000 in
theorem rwrap_any (t v : Int) (w : World) (h0 : 0 ≤ t) :
  Calls Try.prog 73 #[.int .i64 t, .int .i64 v] w fun e w' => e = .returned (.int .i64 (wr t v)) ∧ Q w w' := by
 have a1 := tm_lo v 256 (by decide)
 have a2 := tm_hi v 256 (by decide)
 have b1 := tm_lo v 65536 (by decide)
 have b2 := tm_hi v 65536 (by decide)
 have c1 := tm_lo v 4294967296 (by decide)
 have c2 := tm_hi v 4294967296 (by decide)
 have d1 : Hid (v.tmod 256 = v - 256 * v.tdiv 256) := Int.tmod_def v 256
 have d2 : Hid (v.tmod 65536 = v - 65536 * v.tdiv 65536) := Int.tmod_def v 65536
 have d3 : Hid (v.tmod 4294967296 = v - 4294967296 * v.tdiv 4294967296) := Int.tmod_def v 4294967296
 rcases cases7 h0 with rfl | rfl | rfl | rfl | rfl | rfl | h
 case inr.inr.inr.inr.inr.inr =>
  rw [wr_none _ _ h]
  go_enter Try.func73, Try.ntmps73
  go_wp2_with (go_at_call 69; refine (rwidth_any _ _ (by omega)).mono ?_; rw [wid_none _ h]; rintro e w1 ⟨rfl, hq1⟩)
  go_ret
  exact ⟨rfl, by assumption⟩
 all_goals
  go_enter Try.func73, Try.ntmps73
  go_wp2_with (first | (go_at_call 69; refine (rwidth_any _ _ (by omega)).mono ?_; simp only [wid]; rintro e w1 ⟨rfl, hq1⟩) | (go_at_call 83; refine (rhigh_any _ _ (by omega)).mono ?_; simp only [high]; rintro e w2 ⟨rfl, hq2⟩))
 all_goals
  have d1' := d1.out
  have d2' := d2.out
  have d3' := d3.out
  go_ret
  exact ⟨ret_int (by simp [wr]; omega), Q.trans (by assumption) (by assumption)⟩

end Go.Proofs.Ytphknepblchkdaa.Nu

namespace Go.Proofs.Ytphknepblchkdaa.Nu
open Go.RowKit
open Burin

set_option maxHeartbeats 400000 in
theorem rkeep_any (t v : Int) (w : World) (h0 : 0 ≤ t) :
  Calls Try.prog 81 #[.int .i64 t, .int .i64 v] w fun e w' => e = .returned (.tuple #[.int .i64 (keep1 t v), .int .i64 (keep2 t v)]) ∧ Q w w' := by
 cases hs : sgn t with
 | true =>
  cases hf : fit t v with
  | true =>
   have e1 : keep1 t v = wr t v := by simp [keep1, hf]
   have e2 : keep2 t v = 0 := by simp [keep2, hf]
   rw [e1, e2]
   clear e1 e2
   go_enter Try.func81, Try.ntmps81
   go_wp2_with (first | (go_at_call 84; refine (rsigned_any _ _ (by omega)).mono ?_; rw [hs]; rintro e x1 ⟨rfl, rfl⟩) | (go_at_call 86; refine (rfits_any _ _ _ (by omega)).mono ?_; rw [hf]; rintro e x2 ⟨rfl, q2⟩) | (go_at_call 73; refine (rwrap_any _ _ _ (by omega)).mono ?_; rintro e x3 ⟨rfl, q3⟩))
   go_ret2
   exact ⟨rfl, q2.trans q3⟩
  | false =>
   have e1 : keep1 t v = 0 := by simp [keep1, hf, hs]
   have e2 : keep2 t v = 1 := by simp [keep2, hf, hs]
   rw [e1, e2]
   clear e1 e2
   go_enter Try.func81, Try.ntmps81
   go_wp2_with (first | (go_at_call 84; refine (rsigned_any _ _ (by omega)).mono ?_; rw [hs]; rintro e x1 ⟨rfl, rfl⟩) | (go_at_call 86; refine (rfits_any _ _ _ (by omega)).mono ?_; rw [hf]; rintro e x2 ⟨rfl, q2⟩))
   go_ret2
   exact ⟨rfl, q2⟩
 | false =>
  have e1 : keep1 t v = wr t v := by simp [keep1, hs]
  have e2 : keep2 t v = 0 := by simp [keep2, hs]
  rw [e1, e2]
  clear e1 e2
  go_enter Try.func81, Try.ntmps81
  go_wp2_with (first | (go_at_call 84; refine (rsigned_any _ _ (by omega)).mono ?_; rw [hs]; rintro e x1 ⟨rfl, rfl⟩) | (go_at_call 73; refine (rwrap_any _ _ _ (by omega)).mono ?_; rintro e x3 ⟨rfl, q3⟩))
  go_ret2
  exact ⟨rfl, q3⟩

set_option maxHeartbeats 400000 in
theorem ryes_any (b : Bool) (w : World) :
  Calls Try.prog 82 #[.bool b] w fun e w' => e = .returned (.tuple #[.int .i64 (tr b), .int .i64 0]) ∧ w' = w := by
 cases b
 all_goals
  go_enter Try.func82, Try.ntmps82
  go_wp2
  go_ret2
  exact ⟨rfl, rfl⟩

end Go.Proofs.Ytphknepblchkdaa.Nu
