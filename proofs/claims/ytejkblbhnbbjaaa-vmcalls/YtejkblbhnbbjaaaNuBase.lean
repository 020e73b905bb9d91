/-
  What the small functions of layer 1, and of the document's answer for it, return: contracts over the program, for every type's number and every value of 64 bits.
-/
import Derived.Test.YtejkblbhnbbjaaaRows
import Derived.Test.YtejkblbhnbbjaaaNuPlain
import Derived.WalkKit
import Derived.WalkSpells
import Derived.WalkLawsBesides
namespace Go.Proofs.Ytejkblbhnbbjaaa.Nu
open Go.RowKit
open Burin

def Q (w w' : World) : Prop := Below w.heap.size w w'
theorem Q.refl (w : World) : Q w w := Below.refl _ _
theorem Q.trans {a b c : World} (h : Q a b) (k : Q b c) : Q a c := Below.trans h (Below.mono k h.size)
theorem Q.alloc {a w : World} (h : Q a w) (o : Obj) : Q a (w.alloc o) := Below.alloc h h.size o
theorem Q.drew {a w : World} (h : Q a w) : Q a w.drew := Below.drew h
theorem ret_int {k : IntKind} {a b : Int} (h : a = b) : Ending.returned (.int k a) = .returned (.int k b) := by rw [h]
theorem ret_bool {a b : Bool} (h : a = b) : Ending.returned (.bool a) = .returned (.bool b) := by rw [h]

set_option maxHeartbeats 400000 in
theorem form_any (t : Int) (w : World) :
    Calls Try.prog 45 #[.int .u8 t] w fun e w' => e = .returned (.bool (decide (t ≤ 5))) ∧ w' = w := by
  go_enter Try.func45, Try.ntmps45
  go_wp2
  go_ret
  exact ⟨rfl, rfl⟩

set_option maxHeartbeats 400000 in
theorem width_any (t : Int) (w : World) (h0 : 0 ≤ t) :
    Calls Try.prog 62 #[.int .u8 t] w fun e w' => e = .returned (.int .i64 (wid t)) ∧ w' = w := by
  rcases cases7 h0 with rfl | rfl | rfl | rfl | rfl | rfl | h
  case inr.inr.inr.inr.inr.inr =>
    have hb : decide (t ≤ 5) = false := by simp; omega
    go_enter Try.func62, Try.ntmps62
    go_wp2
    go_ret
    exact ⟨by rw [wid_none _ h]; rfl, rfl⟩
  all_goals
    go_enter Try.func62, Try.ntmps62
    go_wp2
    go_ret
    exact ⟨rfl, rfl⟩

set_option maxHeartbeats 400000 in
theorem rwidth_any (t : Int) (w : World) (h0 : 0 ≤ t) :
    Calls Try.prog 20 #[.int .i64 t] w fun e w' => e = .returned (.int .i64 (wid t)) ∧ Q w w' := by
  rcases cases7 h0 with rfl | rfl | rfl | rfl | rfl | rfl | h
  case inr.inr.inr.inr.inr.inr =>
    have hb : decide (t < 0) = false := by simp; omega
    have hc : decide (5 < t) = true := by simp; omega
    go_enter Try.func20, Try.ntmps20
    go_wp2
    go_ret
    exact ⟨by rw [wid_none _ h]; rfl, (Q.refl _).alloc _⟩
  all_goals
    go_enter Try.func20, Try.ntmps20
    go_wp2
    go_ret
    exact ⟨rfl, (Q.refl _).alloc _⟩

set_option maxHeartbeats 400000 in
theorem signed_any (t : Int) (w : World) (h0 : 0 ≤ t) :
    Calls Try.prog 63 #[.int .u8 t] w fun e w' => e = .returned (.bool (sgn t)) ∧ w' = w := by
  rcases cases7 h0 with rfl | rfl | rfl | rfl | rfl | rfl | h
  case inr.inr.inr.inr.inr.inr =>
    have hb : decide (t ≤ 5) = false := by simp; omega
    go_enter Try.func63, Try.ntmps63
    go_wp2
    go_ret
    exact ⟨by rw [sgn_none _ h]; rfl, rfl⟩
  all_goals
    go_enter Try.func63, Try.ntmps63
    go_wp2
    go_ret
    exact ⟨rfl, rfl⟩

set_option maxHeartbeats 400000 in
theorem rsigned_any (t : Int) (w : World) (h0 : 0 ≤ t) :
    Calls Try.prog 23 #[.int .i64 t] w fun e w' => e = .returned (.bool (sgn t)) ∧ w' = w := by
  rcases cases7 h0 with rfl | rfl | rfl | rfl | rfl | rfl | h
  case inr.inr.inr.inr.inr.inr =>
    have hb : (t == 0) = false := by simp; omega
    have hc : (t == 2) = false := by simp; omega
    have hd : (t == 4) = false := by simp; omega
    go_enter Try.func23, Try.ntmps23
    go_wp2
    go_ret
    exact ⟨by rw [sgn_none _ h]; rfl, rfl⟩
  all_goals
    go_enter Try.func23, Try.ntmps23
    go_wp2
    go_ret
    exact ⟨rfl, rfl⟩

set_option maxHeartbeats 400000 in
theorem span_any (t : Int) (w : World) (h0 : 0 ≤ t) :
    Calls Try.prog 65 #[.int .u8 t] w fun e w' => e = .returned (.agg #[.int .i64 (low t), .int .i64 (high t)]) ∧ Q w w' := by
  rcases cases7 h0 with rfl | rfl | rfl | rfl | rfl | rfl | h
  case inr.inr.inr.inr.inr.inr =>
    have hb : decide (t ≤ 5) = false := by simp; omega
    rw [low_none _ h, high_none _ h]
    go_enter Try.func65, Try.ntmps65
    go_wp2
    exact bodyPost_ret (v := .agg #[.int .i64 1, .int .i64 0]) (by simp [results, Try.results65, go_sem]) rfl ⟨rfl, (Q.refl _).alloc _⟩
  all_goals
    go_enter Try.func65, Try.ntmps65
    go_wp2
  · exact bodyPost_ret (v := .agg #[.int .i64 (-128), .int .i64 127]) (by simp [results, Try.results65, go_sem]) rfl ⟨rfl, (Q.refl _).alloc _⟩
  · exact bodyPost_ret (v := .agg #[.int .i64 0, .int .i64 255]) (by simp [results, Try.results65, go_sem]) rfl ⟨rfl, (Q.refl _).alloc _⟩
  · exact bodyPost_ret (v := .agg #[.int .i64 (-32768), .int .i64 32767]) (by simp [results, Try.results65, go_sem]) rfl ⟨rfl, (Q.refl _).alloc _⟩
  · exact bodyPost_ret (v := .agg #[.int .i64 0, .int .i64 65535]) (by simp [results, Try.results65, go_sem]) rfl ⟨rfl, (Q.refl _).alloc _⟩
  · exact bodyPost_ret (v := .agg #[.int .i64 (-2147483648), .int .i64 2147483647]) (by simp [results, Try.results65, go_sem]) rfl ⟨rfl, (Q.refl _).alloc _⟩
  · exact bodyPost_ret (v := .agg #[.int .i64 0, .int .i64 4294967295]) (by simp [results, Try.results65, go_sem]) rfl ⟨rfl, (Q.refl _).alloc _⟩

set_option maxHeartbeats 400000 in
theorem rhigh_any (t : Int) (w : World) (h0 : 0 ≤ t) :
    Calls Try.prog 34 #[.int .i64 t] w fun e w' => e = .returned (.int .i64 (high t)) ∧ Q w w' := by
  rcases cases7 h0 with rfl | rfl | rfl | rfl | rfl | rfl | h
  case inr.inr.inr.inr.inr.inr =>
    rw [high_none _ h]
    go_enter Try.func34, Try.ntmps34
    go_wp2_with (go_at_call 20; refine (rwidth_any _ _ (by omega)).mono ?_; rw [wid_none _ h]; rintro e w1 ⟨rfl, hq1⟩)
    go_ret
    exact ⟨rfl, by assumption⟩
  all_goals
    go_enter Try.func34, Try.ntmps34
    go_wp2_with (first | (go_at_call 20; refine (rwidth_any _ _ (by omega)).mono ?_; simp only [wid]; rintro e w1 ⟨rfl, hq1⟩) | (go_at_call 23; refine (rsigned_any _ _ (by omega)).mono ?_; simp only [sgn]; rintro e w1 ⟨rfl, rfl⟩))
    go_ret
    exact ⟨rfl, by assumption⟩

end Go.Proofs.Ytejkblbhnbbjaaa.Nu
