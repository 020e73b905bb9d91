/-
  What Low, Fits and Wrap return, in the program and in the document's answer: contracts over the program, for every type's number and every value of 64 bits.
-/
import Derived.Test.YtejkblbhnbbjaaaNuBase
namespace Go.Proofs.Ytejkblbhnbbjaaa.Nu
open Go.RowKit
open Burin

set_option maxHeartbeats 400000 in
theorem rlow_any (t : Int) (w : World) (h0 : 0 ≤ t) :
    Calls Try.prog 35 #[.int .i64 t] w fun e w' => e = .returned (.int .i64 (low t)) ∧ Q w w' := by
  rcases cases7 h0 with rfl | rfl | rfl | rfl | rfl | rfl | h
  case inr.inr.inr.inr.inr.inr =>
    rw [low_none _ h]
    go_enter Try.func35, Try.ntmps35
    go_wp2_with (go_at_call 20; refine (rwidth_any _ _ (by omega)).mono ?_; rw [wid_none _ h]; rintro e w1 ⟨rfl, hq1⟩)
    go_ret
    exact ⟨rfl, by assumption⟩
  all_goals
    go_enter Try.func35, Try.ntmps35
    go_wp2_with (first | (go_at_call 20; refine (rwidth_any _ _ (by omega)).mono ?_; simp only [wid]; rintro e w1 ⟨rfl, hq1⟩) | (go_at_call 23; refine (rsigned_any _ _ (by omega)).mono ?_; simp only [sgn]; rintro e w1 ⟨rfl, rfl⟩) | (go_at_call 34; refine (rhigh_any _ _ (by omega)).mono ?_; simp only [high]; rintro e w2 ⟨rfl, hq2⟩))
    go_ret
    first | exact ⟨rfl, by assumption⟩ | exact ⟨rfl, Q.trans (by assumption) (by assumption)⟩

set_option maxHeartbeats 400000 in
theorem fits_any (t v : Int) (w : World) (h0 : 0 ≤ t) :
    Calls Try.prog 64 #[.int .u8 t, .int .i64 v] w fun e w' => e = .returned (.bool (fit t v)) ∧ Q w w' := by
  have hf : fit t v = (decide (low t ≤ v) && decide (v ≤ high t)) := rfl
  rw [hf]
  generalize hl : low t = l
  generalize hh : high t = h
  have HL : Hid (low t = l) := hl
  have HH : Hid (high t = h) := hh
  clear hf hl hh
  go_enter Try.func64, Try.ntmps64
  go_wp2_with (go_at_call 65; refine (span_any _ _ (by omega)).mono ?_; rw [HL.out, HH.out]; rintro e w1 ⟨rfl, hq1⟩)
  · have hc : decide (l ≤ v) = true := by simp; assumption
    go_ret
    exact ⟨by rw [hc]; rfl, Q.alloc (by assumption) _⟩
  · have hc : decide (l ≤ v) = false := by simp; assumption
    go_ret
    exact ⟨by rw [hc]; rfl, Q.alloc (by assumption) _⟩

theorem wrap0 (v : Int) : wrap64 (IntKind.i8.wrap v) = wr 0 v := by
  simp [IntKind.wrap, IntKind.bits, IntKind.signed, wrap64, wr]
  split <;> omega
theorem wrap2 (v : Int) : wrap64 (IntKind.i16.wrap v) = wr 2 v := by
  simp [IntKind.wrap, IntKind.bits, IntKind.signed, wrap64, wr]
  split <;> omega
theorem wrap3 (v : Int) : wrap64 (IntKind.u16.wrap v) = wr 3 v := by
  simp [IntKind.wrap, IntKind.bits, IntKind.signed, wrap64, wr]
  omega
theorem wrap4 (v : Int) : wrap64 (wrap32 v) = wr 4 v := by
  simp [wrap32, wrap64, wr]
  omega

set_option maxHeartbeats 400000 in
theorem wrap_any (t v : Int) (w : World) (h0 : 0 ≤ t) :
    Calls Try.prog 49 #[.int .u8 t, .int .i64 v] w fun e w' => e = .returned (.int .i64 (wr t v)) ∧ w' = w := by
  rcases cases7 h0 with rfl | rfl | rfl | rfl | rfl | rfl | h
  all_goals
    go_enter Try.func49, Try.ntmps49
    go_wp2
    go_ret
  · exact ⟨ret_int (wrap0 v), rfl⟩
  · exact ⟨ret_int rfl, rfl⟩
  · exact ⟨ret_int (wrap2 v), rfl⟩
  · exact ⟨ret_int (wrap3 v), rfl⟩
  · exact ⟨ret_int (wrap4 v), rfl⟩
  · exact ⟨ret_int rfl, rfl⟩
  · exact ⟨ret_int (wr_none _ _ h).symm, rfl⟩

set_option maxHeartbeats 400000 in
theorem rfits_any (t v : Int) (w : World) (h0 : 0 ≤ t) :
    Calls Try.prog 25 #[.int .i64 t, .int .i64 v] w fun e w' => e = .returned (.bool (fit t v)) ∧ Q w w' := by
  by_cases h : 6 ≤ t
  · rw [fit_none _ _ h]
    go_enter Try.func25, Try.ntmps25
    go_wp2_with (go_at_call 20; refine (rwidth_any _ _ (by omega)).mono ?_; rw [wid_none _ h]; rintro e w1 ⟨rfl, hq1⟩)
    go_ret
    exact ⟨rfl, by assumption⟩
  · have hw : 0 < wid t := by unfold wid; (repeat' split) <;> omega
    generalize hx : wid t = x at hw
    have HX : Hid (wid t = x) := hx
    have hd : decide (0 < x) = true := by simpa using hw
    have hf : fit t v = (decide (low t ≤ v) && decide (v ≤ high t)) := rfl
    rw [hf]
    generalize hl : low t = l
    generalize hh : high t = r
    have HL : Hid (low t = l) := hl
    have HH : Hid (high t = r) := hh
    clear hf hl hh hx
    by_cases c : l ≤ v
    · have hc : decide (l ≤ v) = true := by simpa using c
      rw [hc]
      go_enter Try.func25, Try.ntmps25
      go_wp2_with (first | (go_at_call 20; refine (rwidth_any _ _ (by omega)).mono ?_; rw [HX.out]; rintro e w1 ⟨rfl, hq1⟩) | (go_at_call 35; refine (rlow_any _ _ (by omega)).mono ?_; rw [HL.out]; rintro e w2 ⟨rfl, hq2⟩) | (go_at_call 34; refine (rhigh_any _ _ (by omega)).mono ?_; rw [HH.out]; rintro e w3 ⟨rfl, hq3⟩))
      go_ret
      exact ⟨rfl, Q.trans (Q.trans (by assumption) (by assumption)) (by assumption)⟩
    · have hc : decide (l ≤ v) = false := by simpa using c
      rw [hc]
      go_enter Try.func25, Try.ntmps25
      go_wp2_with (first | (go_at_call 20; refine (rwidth_any _ _ (by omega)).mono ?_; rw [HX.out]; rintro e w1 ⟨rfl, hq1⟩) | (go_at_call 35; refine (rlow_any _ _ (by omega)).mono ?_; rw [HL.out]; rintro e w2 ⟨rfl, hq2⟩))
      go_ret
      exact ⟨rfl, Q.trans (by assumption) (by assumption)⟩

theorem tm_lo (v : Int) (m : Int) (h : 0 < m) : -m < v.tmod m := by
  have := Int.tmod_lt_of_pos (-v) h
  rw [Int.neg_tmod] at this
  omega
theorem tm_hi (v : Int) (m : Int) (h : 0 < m) : v.tmod m < m := Int.tmod_lt_of_pos v h

set_option maxHeartbeats 400000 in
theorem rwrap_any (t v : Int) (w : World) (h0 : 0 ≤ t) :
    Calls Try.prog 21 #[.int .i64 t, .int .i64 v] w fun e w' => e = .returned (.int .i64 (wr t v)) ∧ Q w w' := by
  have a1 := tm_lo v 256 (by decide)
  have a2 := tm_hi v 256 (by decide)
  have b1 := tm_lo v 65536 (by decide)
  have b2 := tm_hi v 65536 (by decide)
  have c1 := tm_lo v 4294967296 (by decide)
  have c2 := tm_hi v 4294967296 (by decide)
  have d1 : Hid (v.tmod 256 = v - 256 * v.tdiv 256) := Int.tmod_def v 256
  have d2 : Hid (v.tmod 65536 = v - 65536 * v.tdiv 65536) := Int.tmod_def v 65536
  have d3 : Hid (v.tmod 4294967296 = v - 4294967296 * v.tdiv 4294967296) := Int.tmod_def v 4294967296
  rcases cases7 h0 with rfl | rfl | rfl | rfl | rfl | rfl | h
  case inr.inr.inr.inr.inr.inr =>
    rw [wr_none _ _ h]
    go_enter Try.func21, Try.ntmps21
    go_wp2_with (go_at_call 20; refine (rwidth_any _ _ (by omega)).mono ?_; rw [wid_none _ h]; rintro e w1 ⟨rfl, hq1⟩)
    go_ret
    exact ⟨rfl, by assumption⟩
  all_goals
    go_enter Try.func21, Try.ntmps21
    go_wp2_with (first | (go_at_call 20; refine (rwidth_any _ _ (by omega)).mono ?_; simp only [wid]; rintro e w1 ⟨rfl, hq1⟩) | (go_at_call 34; refine (rhigh_any _ _ (by omega)).mono ?_; simp only [high]; rintro e w2 ⟨rfl, hq2⟩))
  all_goals
    have d1' := d1.out
    have d2' := d2.out
    have d3' := d3.out
    go_ret
    exact ⟨ret_int (by simp [wr]; omega), Q.trans (by assumption) (by assumption)⟩

end Go.Proofs.Ytejkblbhnbbjaaa.Nu
