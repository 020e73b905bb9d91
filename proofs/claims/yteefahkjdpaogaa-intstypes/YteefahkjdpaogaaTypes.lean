/-
  For every type's number and every number of 64 bits the statement IntsTypes returns true, and its arguments read as they did; no conditions.
-/
import Derived.Test.YteefahkjdpaogaaRows
import Derived.WalkKit
import Derived.ProofKit
import Derived.OpenShut
import Derived.Test.YteefahkjdpaogaaBaseB
namespace Go.Proofs.Yteefahkjdpaogaa.intsTypes
open Go.ChangeShapes Go.WideShapes Go.ChangeAt Go.RowKit
open Burin
set_option linter.unusedVariables false      -- a walk need not use every 'w<i>' (that an integer argument fits its kind)

theorem own : ownKnob Try.prog.godebug = none := by kernel_rfl

theorem bd_u8 {a : Int} (h : (Lit.int .u8 a).wf = true) : 0 ≤ a ∧ a ≤ 255 := by
  simpa [Lit.wf, IntKind.min, IntKind.max, IntKind.signed, IntKind.bits] using h

set_option maxHeartbeats 400000 in
theorem awake_any (w : World) : Calls Try.prog 9 #[] w fun e w' => e = .returned (.bool true) ∧ Q w w' := by
  go_enter Try.func9, Try.ntmps9
  go_wp2
  go_ret
  exact ⟨rfl, Q.refl _⟩

set_option maxHeartbeats 1000000 in
theorem walk (a0 : Int) (a1 : Int) (w0 : (Lit.int .u8 a0).wf = true) (w1 : (Lit.int .i64 a1).wf = true) (w : World) :
    Calls Try.prog 3 #[.int .u8 a0, .int .i64 a1] w fun e w' => e = .returned (.bool true) ∧ Q w w' := by
  obtain ⟨hlo, hhi⟩ := bd_u8 w0
  clear w0 w1
  by_cases h : 6 ≤ a0
  · have hb : decide (a0 ≤ 5) = false := by simp; omega
    go_enter Try.func3, Try.ntmps3
    go_wp2_with (first | (go_at_call 9; refine (awake_any _).mono ?_; rintro e x1 ⟨rfl, q1⟩) | (go_at_call 10; refine (form_any _ _).mono ?_; rw [hb]; rintro e x2 ⟨rfl, rfl⟩) | (go_at_call 11; refine (width_any _ _ (by omega)).mono ?_; rintro e x2 ⟨rfl, rfl⟩) | (go_at_call 12; refine (rwidth_any _ _ (by omega)).mono ?_; rintro e x2 ⟨rfl, q2⟩) | (go_at_call 13; refine (signed_any _ _ (by omega)).mono ?_; rw [sgn_none _ h]; rintro e x3 ⟨rfl, rfl⟩) | (go_at_call 15; refine (span_any _ _ (by omega)).mono ?_; rintro e x3 ⟨rfl, q3⟩) | (go_at_call 16; refine (rlow_any _ _ (by omega)).mono ?_; rintro e x4 ⟨rfl, q4⟩) | (go_at_call 17; refine (rhigh_any _ _ (by omega)).mono ?_; rintro e x5 ⟨rfl, q5⟩) | (go_at_call 18; refine (fits_any _ _ _ (by omega)).mono ?_; rintro e x6 ⟨rfl, q6⟩) | (go_at_call 19; refine (rfits_any _ _ _ (by omega)).mono ?_; rintro e x7 ⟨rfl, q7⟩) | (go_at_call 20; refine (wrap_any _ _ _ (by omega)).mono ?_; rintro e x8 ⟨rfl, rfl⟩) | (go_at_call 21; refine (rwrap_any _ _ _ (by omega)).mono ?_; rintro e x9 ⟨rfl, q9⟩))
    go_ret
    exact ⟨rfl, ((((((q1.trans q2).trans q3).trans q4).trans q5).trans q6).trans q7).trans q9⟩
  · have hb : decide (a0 ≤ 5) = true := by simp; omega
    go_enter Try.func3, Try.ntmps3
    go_wp2_with (first | (go_at_call 9; refine (awake_any _).mono ?_; rintro e x1 ⟨rfl, q1⟩) | (go_at_call 10; refine (form_any _ _).mono ?_; rw [hb]; rintro e x2 ⟨rfl, rfl⟩) | (go_at_call 11; refine (width_any _ _ (by omega)).mono ?_; rintro e x2 ⟨rfl, rfl⟩) | (go_at_call 12; refine (rwidth_any _ _ (by omega)).mono ?_; rintro e x2 ⟨rfl, q2⟩) | (go_at_call 13; refine (signed_any _ _ (by omega)).mono ?_; rintro e x3 ⟨rfl, rfl⟩) | (go_at_call 14; refine (rsigned_any _ _ (by omega)).mono ?_; rintro e x3 ⟨rfl, rfl⟩) | (go_at_call 15; refine (span_any _ _ (by omega)).mono ?_; rintro e x3 ⟨rfl, q3⟩) | (go_at_call 16; refine (rlow_any _ _ (by omega)).mono ?_; rintro e x4 ⟨rfl, q4⟩) | (go_at_call 17; refine (rhigh_any _ _ (by omega)).mono ?_; rintro e x5 ⟨rfl, q5⟩) | (go_at_call 18; refine (fits_any _ _ _ (by omega)).mono ?_; rintro e x6 ⟨rfl, q6⟩) | (go_at_call 19; refine (rfits_any _ _ _ (by omega)).mono ?_; rintro e x7 ⟨rfl, q7⟩) | (go_at_call 20; refine (wrap_any _ _ _ (by omega)).mono ?_; rintro e x8 ⟨rfl, rfl⟩) | (go_at_call 21; refine (rwrap_any _ _ _ (by omega)).mono ?_; rintro e x9 ⟨rfl, q9⟩))
    go_ret
    exact ⟨rfl, ((((((q1.trans q2).trans q3).trans q4).trans q5).trans q6).trans q7).trans q9⟩

/-! ### THE ROW's STEP: WRITTEN OUT: LEAVE IT -/
set_option maxRecDepth 100000 in
theorem lifted (os : Os) (started : os.Started) (H : Type) (enc : TypeId × Value → H) :
    ReturnsInHanded {} Try.checked os 3 .any (Rows.intsTypesSpec.pre6 enc Try.prog Try.f3 Rows.intsTypesRow.domain false) (Rows.intsTypesSpec.post enc Try.prog Try.f3 false true false false) := by
  refine returnsInHanded_of_change (C := Try.checked) own started (by kernel_rfl) Try.func3
    (ChangeSpec.witness6 (enc := enc) (C := Try.checked) false ⟨#[], #[.int .u8 0, .int .i64 0], []⟩ 8 (by kernel_rfl) (by kernel_rfl) (by kernel_rfl) (by kernel_rfl)) ?_
  intro W base args ds gs before hval0 hW hcnd _
  have hval : ∀ (j : Nat) t v, Try.f3.params[j]? = some t → args[j]? = some v → Value.okWide Try.prog W .any base t v := hval0
  have hW' := hW
  obtain ⟨p, q, hA0, hV, rfl, hfz, hnd⟩ := hW
  have hA : DataW.TrodAll enc Try.prog W 0 (fun _ => true) true Try.f3.params.toList args.toList ds p := hA0
  rw [Try.params3] at hA hval
  obtain ⟨v0, vs0, d0, ds0, p0, q0, hargs, rfl, rfl, h0, r0⟩ := trodAll_cons hA
  obtain ⟨v1, vs1, d1, ds1, p1, q1, rfl, rfl, rfl, h1, r1⟩ := trodAll_cons r0
  obtain ⟨rfl, rfl, rfl⟩ := trodAll_nil r1
  obtain rfl : args = #[v0, v1] := by cases args; simp_all
  obtain ⟨rfl, rfl⟩ := trodVars_none hV
  obtain ⟨a0, rfl, rfl, rfl, w0⟩ := open_int Try.underlying5 (hval 0 5 v0 rfl rfl) h0
  obtain ⟨a1, rfl, rfl, rfl, w1⟩ := open_int Try.underlying2 (hval 1 2 v1 rfl rfl) h1
  clear hA0 hval0
  simp only [List.append_nil] at hW'
  refine (walk a0 a1 w0 w1 W).mono fun e W' ⟨he, hg⟩ => ?_
  subst he
  exact ⟨_, rfl, _, _, _, [], [], [], hW', trodAll_mk1 (shut_bool Try.underlying4 _), (trodAll_cons_mk (shut_int Try.underlying5 w0) (trodAll_cons_mk (shut_int Try.underlying2 w1) trodAll_mk0)), rfl, Below.frame hg _, fun h => by cases h⟩

theorem over : Rows.intsTypesRow.holds Try.pinned (OpenSpec.ofChange Rows.intsTypesSpec) :=
  OpenClaim.holds_of_wide 3 Try.f3 rfl rfl rfl rfl rfl rfl rfl ⟨rfl, rfl, rfl, rfl, rfl⟩ rfl rfl rfl rfl rfl (by kernel_rfl) Try.func3 (by kernel_rfl)
    (of_decide_eq_true (by kernel_rfl)) (by unfold Func.isWrapper; first | (rw [if_pos (by decide +kernel)]; kernel_rfl) | (rw [if_neg (by decide +kernel)]; exact ⟨rfl, rfl⟩))
    (fun os started H enc _ => lifted os started H enc)

/-- ████ THE STATEMENT ████ -/
theorem proved : Rows.IntsTypesSaid :=
  over
#print axioms proved
end Go.Proofs.Yteefahkjdpaogaa.intsTypes
