/-
  For every pick, operation and two numbers of 64 bits the statement IntsWraps returns true, and its arguments read as they did; no conditions.
-/
import Derived.Test.YteefahkjdpaogaaRows
import Derived.WalkKit
import Derived.ProofKit
import Derived.OpenShut
import Derived.Test.YteefahkjdpaogaaBaseE
namespace Go.Proofs.Yteefahkjdpaogaa.intsWraps
open Go.ChangeShapes Go.WideShapes Go.ChangeAt Go.RowKit
open Burin
set_option linter.unusedVariables false      -- a walk need not use every 'w<i>' (that an integer argument fits its kind)

theorem own : ownKnob Try.prog.godebug = none := by kernel_rfl

theorem bd_u8 {a : Int} (h : (Lit.int .u8 a).wf = true) : 0 ≤ a ∧ a ≤ 255 := by
  simpa [Lit.wf, IntKind.min, IntKind.max, IntKind.signed, IntKind.bits] using h

set_option maxHeartbeats 400000 in
theorem awake_any (w : World) : Calls Try.prog 9 #[] w fun e w' => e = .returned (.bool true) ∧ Q w w' := by
  go_enter Try.func9, Try.ntmps9
  go_wp2
  go_ret
  exact ⟨rfl, Q.refl _⟩

theorem do1_wr (o t a b : Int) (h : o = 1 ∨ o = 2 ∨ o = 3) : do1 o t (wr t a) (wr t b) = do1 o t a b := by
  rcases h with rfl | rfl | rfl <;> simp [do1, wr_wr]
theorem do2_wr (o t a b : Int) (h : o = 1 ∨ o = 2 ∨ o = 3) : do2 o t (wr t a) (wr t b) = do2 o t a b := by
  rcases h with rfl | rfl | rfl <;> simp [do2, wr_wr]
theorem back (t a : Int) (h : t = 1 ∨ t = 3 ∨ t = 5) : wr t (wr (t - 1) (wr t a)) = wr t a := by
  rcases h with rfl | rfl | rfl <;> simp [wr]
theorem back5 (t a : Int) (h : t = 1 ∨ t = 3 ∨ t = 5) : wr t (wr 5 (wr t a)) = wr t a := by
  rcases h with rfl | rfl | rfl <;> (simp [wr]; try omega)
theorem picks (p : Int) (h0 : 0 ≤ p) : p % 3 = 0 ∨ p % 3 = 1 ∨ p % 3 = 2 := by omega

set_option maxHeartbeats 1000000 in
theorem walk (a0 : Int) (a1 : Int) (a2 : Int) (a3 : Int) (w0 : (Lit.int .u8 a0).wf = true) (w1 : (Lit.int .u8 a1).wf = true) (w2 : (Lit.int .i64 a2).wf = true) (w3 : (Lit.int .i64 a3).wf = true) (w : World) :
    Calls Try.prog 7 #[.int .u8 a0, .int .u8 a1, .int .i64 a2, .int .i64 a3] w fun e w' => e = .returned (.bool true) ∧ Q w w' := by
  obtain ⟨l0, l1⟩ := bd_u8 w0
  obtain ⟨m0, m1⟩ := bd_u8 w1
  clear w0 w1 w2 w3
  have b1 : wr 1 (wr 0 (wr 1 a2)) = wr 1 a2 := back 1 a2 (by omega)
  have b3 : wr 3 (wr 2 (wr 3 a2)) = wr 3 a2 := back 3 a2 (by omega)
  have b5 : wr 5 (wr 4 (wr 5 a2)) = wr 5 a2 := back 5 a2 (by omega)
  have c1 : wr 1 (wr 5 (wr 1 a2)) = wr 1 a2 := back5 1 a2 (by omega)
  have c3 : wr 3 (wr 5 (wr 3 a2)) = wr 3 a2 := back5 3 a2 (by omega)
  have c5 : wr 5 (wr 5 (wr 5 a2)) = wr 5 a2 := back5 5 a2 (by omega)
  rcases picks a0 l0 with h | h | h
  · clear b3 b5 c3 c5
    go_enter Try.func7, Try.ntmps7
    go_wp2_with (first | (go_at_call 9; refine (awake_any _).mono ?_; rintro e x1 ⟨rfl, q1⟩) | (go_at_call_of 22 (Value.int IntKind.i64 a2); refine (do_any _ _ _ _ _ (by omega)).mono ?_; rintro e x2 ⟨rfl, q2⟩) | (go_at_call 22; refine (do_any _ _ _ _ _ (by omega)).mono ?_; rw [do1_wr _ _ _ _ (by omega), do2_wr _ _ _ _ (by omega)]; rintro e x3 ⟨rfl, q3⟩) | (go_at_call 20; refine (wrap_any _ _ _ (by omega)).mono ?_; rintro e x4 ⟨rfl, rfl⟩))
    go_ret
    exact ⟨rfl, (q1.trans q2).trans q3⟩
  · clear b1 b5 c1 c5
    go_enter Try.func7, Try.ntmps7
    go_wp2_with (first | (go_at_call 9; refine (awake_any _).mono ?_; rintro e x1 ⟨rfl, q1⟩) | (go_at_call_of 22 (Value.int IntKind.i64 a2); refine (do_any _ _ _ _ _ (by omega)).mono ?_; rintro e x2 ⟨rfl, q2⟩) | (go_at_call 22; refine (do_any _ _ _ _ _ (by omega)).mono ?_; rw [do1_wr _ _ _ _ (by omega), do2_wr _ _ _ _ (by omega)]; rintro e x3 ⟨rfl, q3⟩) | (go_at_call 20; refine (wrap_any _ _ _ (by omega)).mono ?_; rintro e x4 ⟨rfl, rfl⟩))
    go_ret
    exact ⟨rfl, (q1.trans q2).trans q3⟩
  · clear b1 b3 c1 c3
    go_enter Try.func7, Try.ntmps7
    go_wp2_with (first | (go_at_call 9; refine (awake_any _).mono ?_; rintro e x1 ⟨rfl, q1⟩) | (go_at_call_of 22 (Value.int IntKind.i64 a2); refine (do_any _ _ _ _ _ (by omega)).mono ?_; rintro e x2 ⟨rfl, q2⟩) | (go_at_call 22; refine (do_any _ _ _ _ _ (by omega)).mono ?_; rw [do1_wr _ _ _ _ (by omega), do2_wr _ _ _ _ (by omega)]; rintro e x3 ⟨rfl, q3⟩) | (go_at_call 20; refine (wrap_any _ _ _ (by omega)).mono ?_; rintro e x4 ⟨rfl, rfl⟩))
    go_ret
    exact ⟨rfl, (q1.trans q2).trans q3⟩

/-! ### THE ROW's STEP: WRITTEN OUT: LEAVE IT -/
set_option maxRecDepth 100000 in
theorem lifted (os : Os) (started : os.Started) (H : Type) (enc : TypeId × Value → H) :
    ReturnsInHanded {} Try.checked os 7 .any (Rows.intsWrapsSpec.pre6 enc Try.prog Try.f7 Rows.intsWrapsRow.domain false) (Rows.intsWrapsSpec.post enc Try.prog Try.f7 false true false false) := by
  refine returnsInHanded_of_change (C := Try.checked) own started (by kernel_rfl) Try.func7
    (ChangeSpec.witness6 (enc := enc) (C := Try.checked) false ⟨#[], #[.int .u8 0, .int .u8 0, .int .i64 0, .int .i64 0], []⟩ 8 (by kernel_rfl) (by kernel_rfl) (by kernel_rfl) (by kernel_rfl)) ?_
  intro W base args ds gs before hval0 hW hcnd _
  have hval : ∀ (j : Nat) t v, Try.f7.params[j]? = some t → args[j]? = some v → Value.okWide Try.prog W .any base t v := hval0
  have hW' := hW
  obtain ⟨p, q, hA0, hV, rfl, hfz, hnd⟩ := hW
  have hA : DataW.TrodAll enc Try.prog W 0 (fun _ => true) true Try.f7.params.toList args.toList ds p := hA0
  rw [Try.params7] at hA hval
  obtain ⟨v0, vs0, d0, ds0, p0, q0, hargs, rfl, rfl, h0, r0⟩ := trodAll_cons hA
  obtain ⟨v1, vs1, d1, ds1, p1, q1, rfl, rfl, rfl, h1, r1⟩ := trodAll_cons r0
  obtain ⟨v2, vs2, d2, ds2, p2, q2, rfl, rfl, rfl, h2, r2⟩ := trodAll_cons r1
  obtain ⟨v3, vs3, d3, ds3, p3, q3, rfl, rfl, rfl, h3, r3⟩ := trodAll_cons r2
  obtain ⟨rfl, rfl, rfl⟩ := trodAll_nil r3
  obtain rfl : args = #[v0, v1, v2, v3] := by cases args; simp_all
  obtain ⟨rfl, rfl⟩ := trodVars_none hV
  obtain ⟨a0, rfl, rfl, rfl, w0⟩ := open_int Try.underlying5 (hval 0 5 v0 rfl rfl) h0
  obtain ⟨a1, rfl, rfl, rfl, w1⟩ := open_int Try.underlying5 (hval 1 5 v1 rfl rfl) h1
  obtain ⟨a2, rfl, rfl, rfl, w2⟩ := open_int Try.underlying2 (hval 2 2 v2 rfl rfl) h2
  obtain ⟨a3, rfl, rfl, rfl, w3⟩ := open_int Try.underlying2 (hval 3 2 v3 rfl rfl) h3
  clear hA0 hval0
  simp only [List.append_nil] at hW'
  refine (walk a0 a1 a2 a3 w0 w1 w2 w3 W).mono fun e W' ⟨he, hg⟩ => ?_
  subst he
  exact ⟨_, rfl, _, _, _, [], [], [], hW', trodAll_mk1 (shut_bool Try.underlying4 _), (trodAll_cons_mk (shut_int Try.underlying5 w0) (trodAll_cons_mk (shut_int Try.underlying5 w1) (trodAll_cons_mk (shut_int Try.underlying2 w2) (trodAll_cons_mk (shut_int Try.underlying2 w3) trodAll_mk0)))), rfl, Below.frame hg _, fun h => by cases h⟩

theorem over : Rows.intsWrapsRow.holds Try.pinned (OpenSpec.ofChange Rows.intsWrapsSpec) :=
  OpenClaim.holds_of_wide 7 Try.f7 rfl rfl rfl rfl rfl rfl rfl ⟨rfl, rfl, rfl, rfl, rfl⟩ rfl rfl rfl rfl rfl (by kernel_rfl) Try.func7 (by kernel_rfl)
    (of_decide_eq_true (by kernel_rfl)) (by unfold Func.isWrapper; first | (rw [if_pos (by decide +kernel)]; kernel_rfl) | (rw [if_neg (by decide +kernel)]; exact ⟨rfl, rfl⟩))
    (fun os started H enc _ => lifted os started H enc)

/-- ████ THE STATEMENT ████ -/
theorem proved : Rows.IntsWrapsSaid :=
  over
#print axioms proved
end Go.Proofs.Yteefahkjdpaogaa.intsWraps
