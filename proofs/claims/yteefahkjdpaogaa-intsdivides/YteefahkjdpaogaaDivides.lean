/-
  For every type's number and two numbers of 64 bits the statement IntsDivides returns true, and its arguments read as they did; no conditions.
-/
import Derived.Test.YteefahkjdpaogaaRows
import Derived.WalkKit
import Derived.ProofKit
import Derived.OpenShut
import Derived.Test.YteefahkjdpaogaaBaseE
namespace Go.Proofs.Yteefahkjdpaogaa.intsDivides
open Go.ChangeShapes Go.WideShapes Go.ChangeAt Go.RowKit
open Burin
set_option linter.unusedVariables false      -- a walk need not use every 'w<i>' (that an integer argument fits its kind)

theorem own : ownKnob Try.prog.godebug = none := by kernel_rfl

theorem bd_u8 {a : Int} (h : (Lit.int .u8 a).wf = true) : 0 ≤ a ∧ a ≤ 255 := by
  simpa [Lit.wf, IntKind.min, IntKind.max, IntKind.signed, IntKind.bits] using h

set_option maxHeartbeats 400000 in
theorem awake_any (w : World) : Calls Try.prog 9 #[] w fun e w' => e = .returned (.bool true) ∧ Q w w' := by
  go_enter Try.func9, Try.ntmps9
  go_wp2
  go_ret
  exact ⟨rfl, Q.refl _⟩

theorem low_high (t : Int) (h0 : 0 ≤ t) (h5 : t ≤ 5) : (low t = 0 ∧ 0 ≤ high t) ∨ (low t = -high t - 1 ∧ 0 ≤ high t) := by
  rcases cases7 h0 with rfl | rfl | rfl | rfl | rfl | rfl | h
  case inr.inr.inr.inr.inr.inr => omega
  all_goals simp [low, high]
theorem tdiv_le (x y : Int) (hx : 0 ≤ x) (hy : 0 ≤ y) : 0 ≤ x.tdiv y ∧ x.tdiv y ≤ x := by
  have h1 := Int.tdiv_nonneg hx hy
  have h2 : (x.tdiv y).natAbs ≤ x.natAbs := by
    rw [Int.natAbs_tdiv]
    exact Nat.div_le_self _ _
  omega
/-- A quotient that is no number of the type: then the other number is -1. -/
theorem not_fit (t x y : Int) (h0 : 0 ≤ t) (h5 : t ≤ 5) (x1 : low t ≤ x) (x2 : x ≤ high t) (y1 : low t ≤ y) (hz : y ≠ 0) (hf : fit t (x.tdiv y) = false) : y = -1 := by
  have b : (x.tdiv y).natAbs ≤ x.natAbs := by
    rw [Int.natAbs_tdiv]
    exact Nat.div_le_self _ _
  have hn : ¬ (low t ≤ x.tdiv y ∧ x.tdiv y ≤ high t) := by
    intro h
    unfold fit at hf
    simp [h.1, h.2] at hf
  rcases low_high t h0 h5 with ⟨l, hh⟩ | ⟨l, hh⟩
  · exfalso
    apply hn
    have := tdiv_le x y (by omega) (by omega)
    omega
  · by_cases e : y = -1
    · exact e
    · exfalso
      apply hn
      by_cases e1 : y = 1
      · subst e1
        rw [Int.tdiv_one]
        omega
      · have k : (x.tdiv y).natAbs * 2 ≤ x.natAbs := by
          rw [Int.natAbs_tdiv]
          have h2 : 2 ≤ y.natAbs := by omega
          have h3 : x.natAbs / y.natAbs * y.natAbs ≤ x.natAbs := Nat.div_mul_le_self _ _
          have h4 : x.natAbs / y.natAbs * 2 ≤ x.natAbs / y.natAbs * y.natAbs := Nat.mul_le_mul_left _ h2
          exact Nat.le_trans h4 h3
        omega
theorem tm_sign (x y : Int) (hz : y ≠ 0) : (x - y * x.tdiv y).natAbs < y.natAbs ∧ (0 < x - y * x.tdiv y → 0 < x) ∧ (x - y * x.tdiv y < 0 → x < 0) := by
  rw [← Int.tmod_def]
  refine ⟨?_, ?_, ?_⟩
  · rw [Int.natAbs_tmod]
    exact Nat.mod_lt _ (by omega)
  · intro h
    by_cases hx : 0 ≤ x
    · by_cases e : x = 0
      · subst e
        rw [Int.zero_tmod] at h
        omega
      · omega
    · have := Int.tmod_nonneg y (show 0 ≤ -x by omega)
      rw [Int.neg_tmod] at this
      omega
  · intro h
    by_cases hx : 0 ≤ x
    · have := Int.tmod_nonneg y hx
      omega
    · omega

set_option maxHeartbeats 1000000 in
theorem walk_6 (a0 : Int) (a1 : Int) (a2 : Int) (w : World) (h5 : 5 < a0) :
    Calls Try.prog 8 #[.int .u8 a0, .int .i64 a1, .int .i64 a2] w fun e w' => e = .returned (.bool true) ∧ Q w w' := by
  have hd : decide (5 < a0) = true := by simpa using h5
  go_enter Try.func8, Try.ntmps8
  go_wp2_with (first | (go_at_call 9; refine (awake_any _).mono ?_; rintro e x1 ⟨rfl, q1⟩))
  go_ret
  exact ⟨rfl, Q.trans (by assumption) (by assumption)⟩

set_option maxHeartbeats 1000000 in
theorem walk_zero (a0 : Int) (a1 : Int) (a2 : Int) (w : World) (l0 : 0 ≤ a0) (h5 : ¬ 5 < a0) (hz : wr a0 a2 = 0) :
    Calls Try.prog 8 #[.int .u8 a0, .int .i64 a1, .int .i64 a2] w fun e w' => e = .returned (.bool true) ∧ Q w w' := by
  have hd : decide (5 < a0) = false := by simpa using h5
  have n6 : ¬ 6 ≤ a0 := by omega
  have D1 : Hid (do1 4 a0 a1 a2 = 0) := by show _ = _; simp [do1, n6, div1, hz]
  have D2 : Hid (do2 4 a0 a1 a2 = 2) := by show _ = _; simp [do2, n6, div2, hz]
  have D3 : Hid (do1 5 a0 a1 a2 = 0) := by show _ = _; simp [do1, n6, div1, hz]
  have D4 : Hid (do2 5 a0 a1 a2 = 2) := by show _ = _; simp [do2, n6, div2, hz]
  have HY : Hid (wr a0 a2 = 0) := hz
  generalize hx : wr a0 a1 = X at *
  have HX : Hid (wr a0 a1 = X) := hx
  clear hx hz n6
  go_enter Try.func8, Try.ntmps8
  go_wp2_with (first | (go_at_call 9; refine (awake_any _).mono ?_; rintro e x1 ⟨rfl, q1⟩) | (go_at_call_of 20 (Value.int IntKind.i64 a1); refine (wrap_any _ _ _ (by omega)).mono ?_; rw [HX.out]; rintro e x2 ⟨rfl, rfl⟩) | (go_at_call_of 20 (Value.int IntKind.i64 a2); refine (wrap_any _ _ _ (by omega)).mono ?_; rw [HY.out]; rintro e x2 ⟨rfl, rfl⟩) | (go_at_call_of 22 (Value.int IntKind.u8 4); refine (do_any _ _ _ _ _ (by omega)).mono ?_; rw [D1.out, D2.out]; rintro e x3 ⟨rfl, q3⟩) | (go_at_call_of 22 (Value.int IntKind.u8 5); refine (do_any _ _ _ _ _ (by omega)).mono ?_; rw [D3.out, D4.out]; rintro e x4 ⟨rfl, q4⟩))
  go_ret
  exact ⟨rfl, (q1.trans q3).trans q4⟩

set_option maxHeartbeats 1000000 in
theorem walk_over (a0 : Int) (a1 : Int) (a2 : Int) (w : World) (l0 : 0 ≤ a0) (h5 : ¬ 5 < a0) (hz : wr a0 a2 ≠ 0) (hf : fit a0 ((wr a0 a1).tdiv (wr a0 a2)) = false) :
    Calls Try.prog 8 #[.int .u8 a0, .int .i64 a1, .int .i64 a2] w fun e w' => e = .returned (.bool true) ∧ Q w w' := by
  have hd : decide (5 < a0) = false := by simpa using h5
  have n6 : ¬ 6 ≤ a0 := by omega
  have f1 := wr_fit a0 a1 l0 (by omega)
  have f2 := wr_fit a0 a2 l0 (by omega)
  have hm := not_fit a0 _ _ l0 (by omega) f1.1 f1.2 f2.1 hz hf
  have D1 : Hid (do1 4 a0 a1 a2 = 0) := by show _ = _; simp [do1, n6, div1, hz, hf]
  have D2 : Hid (do2 4 a0 a1 a2 = 1) := by show _ = _; simp [do2, n6, div2, hz, hf]
  have D3 : Hid (do1 5 a0 a1 a2 = 0) := by show _ = _; simp [do1, n6, div1, hz, hf]
  have D4 : Hid (do2 5 a0 a1 a2 = 1) := by show _ = _; simp [do2, n6, div2, hz, hf]
  have HY : Hid (wr a0 a2 = -1) := hm
  clear f1 f2 hf hz hm
  generalize hx : wr a0 a1 = X at *
  have HX : Hid (wr a0 a1 = X) := hx
  clear hx n6
  go_enter Try.func8, Try.ntmps8
  go_wp2_with (first | (go_at_call 9; refine (awake_any _).mono ?_; rintro e x1 ⟨rfl, q1⟩) | (go_at_call_of 20 (Value.int IntKind.i64 a1); refine (wrap_any _ _ _ (by omega)).mono ?_; rw [HX.out]; rintro e x2 ⟨rfl, rfl⟩) | (go_at_call_of 20 (Value.int IntKind.i64 a2); refine (wrap_any _ _ _ (by omega)).mono ?_; rw [HY.out]; rintro e x2 ⟨rfl, rfl⟩) | (go_at_call_of 22 (Value.int IntKind.u8 4); refine (do_any _ _ _ _ _ (by omega)).mono ?_; rw [D1.out, D2.out]; rintro e x3 ⟨rfl, q3⟩) | (go_at_call_of 22 (Value.int IntKind.u8 5); refine (do_any _ _ _ _ _ (by omega)).mono ?_; rw [D3.out, D4.out]; rintro e x4 ⟨rfl, q4⟩))
  go_ret
  exact ⟨rfl, (q1.trans q3).trans q4⟩

set_option maxHeartbeats 1000000 in
theorem walk_fine (a0 : Int) (a1 : Int) (a2 : Int) (w : World) (l0 : 0 ≤ a0) (h5 : ¬ 5 < a0) (hz : wr a0 a2 ≠ 0) (hf : fit a0 ((wr a0 a1).tdiv (wr a0 a2)) = true) :
    Calls Try.prog 8 #[.int .u8 a0, .int .i64 a1, .int .i64 a2] w fun e w' => e = .returned (.bool true) ∧ Q w w' := by
  have hd : decide (5 < a0) = false := by simpa using h5
  have n6 : ¬ 6 ≤ a0 := by omega
  have D1 : Hid (do1 4 a0 a1 a2 = (wr a0 a1).tdiv (wr a0 a2)) := by show _ = _; simp [do1, n6, div1, hz, hf]
  have D2 : Hid (do2 4 a0 a1 a2 = 0) := by show _ = _; simp [do2, n6, div2, hz, hf]
  have D3 : Hid (do1 5 a0 a1 a2 = wr a0 a1 - wr a0 a2 * (wr a0 a1).tdiv (wr a0 a2)) := by show _ = _; simp [do1, n6, div1, hz, hf]
  have D4 : Hid (do2 5 a0 a1 a2 = 0) := by show _ = _; simp [do2, n6, div2, hz, hf]
  obtain ⟨x1, x2⟩ := wr_bd a0 a1
  obtain ⟨y1, y2⟩ := wr_bd a0 a2
  obtain ⟨p1, p2⟩ := tdiv_bd (wr a0 a1) (wr a0 a2) (by omega) (by omega)
  obtain ⟨r1, r2⟩ := mtdiv_bd (wr a0 a1) (wr a0 a2) (by omega) (by omega)
  obtain ⟨s1, s2, s3⟩ := tm_sign (wr a0 a1) (wr a0 a2) hz
  rw [Int.mul_comm (wr a0 a2)] at r1 r2 s1 s2 s3 D3
  generalize hx : wr a0 a1 = X at *
  generalize hy : wr a0 a2 = Y at *
  have HX : Hid (wr a0 a1 = X) := hx
  have HY : Hid (wr a0 a2 = Y) := hy
  clear hx hy hf n6 hz
  generalize X.tdiv Y = q at *
  generalize hr : X - q * Y = r at *
  have hs : (q * Y + r == X) = true := by simp; omega
  have b1 : -4294967296 ≤ r := by omega
  have b2 : r ≤ 4294967296 := by omega
  have hm : max r (-r) < max Y (-Y) := by omega
  have hsg : (r == 0 || decide (r < 0) == decide (X < 0)) = true := by
    by_cases e : r = 0
    · simp [e]
    · by_cases c : r < 0
      · simp [c, s3 c]
      · have := s2 (by omega)
        have n1 : ¬ r < 0 := c
        have n2 : ¬ X < 0 := by omega
        simp [n1, n2]
  have HS : Hid ((r == 0 || decide (r < 0) == decide (X < 0)) = true) := hsg
  clear s1 s2 s3 hr hsg
  go_enter Try.func8, Try.ntmps8
  go_wp2_with (first | (go_at_call 9; refine (awake_any _).mono ?_; rintro e x1 ⟨rfl, q1⟩) | (go_at_call_of 20 (Value.int IntKind.i64 a1); refine (wrap_any _ _ _ (by omega)).mono ?_; rw [HX.out]; rintro e x2 ⟨rfl, rfl⟩) | (go_at_call_of 20 (Value.int IntKind.i64 a2); refine (wrap_any _ _ _ (by omega)).mono ?_; rw [HY.out]; rintro e x2 ⟨rfl, rfl⟩) | (go_at_call_of 22 (Value.int IntKind.u8 4); refine (do_any _ _ _ _ _ (by omega)).mono ?_; rw [D1.out, D2.out]; rintro e x3 ⟨rfl, q3⟩) | (go_at_call_of 22 (Value.int IntKind.u8 5); refine (do_any _ _ _ _ _ (by omega)).mono ?_; rw [D3.out, D4.out]; rintro e x4 ⟨rfl, q4⟩))
  all_goals
    go_ret
    first | exact ⟨ret_bool HS.out, (q1.trans q3).trans q4⟩ | exact ⟨rfl, (q1.trans q3).trans q4⟩

theorem walk (a0 : Int) (a1 : Int) (a2 : Int) (w0 : (Lit.int .u8 a0).wf = true) (w1 : (Lit.int .i64 a1).wf = true) (w2 : (Lit.int .i64 a2).wf = true) (w : World) :
    Calls Try.prog 8 #[.int .u8 a0, .int .i64 a1, .int .i64 a2] w fun e w' => e = .returned (.bool true) ∧ Q w w' := by
  obtain ⟨l0, l1⟩ := bd_u8 w0
  by_cases h5 : 5 < a0
  · exact walk_6 a0 a1 a2 w h5
  · by_cases hz : wr a0 a2 = 0
    · exact walk_zero a0 a1 a2 w l0 h5 hz
    · cases hf : fit a0 ((wr a0 a1).tdiv (wr a0 a2)) with
      | false => exact walk_over a0 a1 a2 w l0 h5 hz hf
      | true => exact walk_fine a0 a1 a2 w l0 h5 hz hf

/-! ### THE ROW's STEP: WRITTEN OUT: LEAVE IT -/
set_option maxRecDepth 100000 in
theorem lifted (os : Os) (started : os.Started) (H : Type) (enc : TypeId × Value → H) :
    ReturnsInHanded {} Try.checked os 8 .any (Rows.intsDividesSpec.pre6 enc Try.prog Try.f8 Rows.intsDividesRow.domain false) (Rows.intsDividesSpec.post enc Try.prog Try.f8 false true false false) := by
  refine returnsInHanded_of_change (C := Try.checked) own started (by kernel_rfl) Try.func8
    (ChangeSpec.witness6 (enc := enc) (C := Try.checked) false ⟨#[], #[.int .u8 0, .int .i64 0, .int .i64 0], []⟩ 8 (by kernel_rfl) (by kernel_rfl) (by kernel_rfl) (by kernel_rfl)) ?_
  intro W base args ds gs before hval0 hW hcnd _
  have hval : ∀ (j : Nat) t v, Try.f8.params[j]? = some t → args[j]? = some v → Value.okWide Try.prog W .any base t v := hval0
  have hW' := hW
  obtain ⟨p, q, hA0, hV, rfl, hfz, hnd⟩ := hW
  have hA : DataW.TrodAll enc Try.prog W 0 (fun _ => true) true Try.f8.params.toList args.toList ds p := hA0
  rw [Try.params8] at hA hval
  obtain ⟨v0, vs0, d0, ds0, p0, q0, hargs, rfl, rfl, h0, r0⟩ := trodAll_cons hA
  obtain ⟨v1, vs1, d1, ds1, p1, q1, rfl, rfl, rfl, h1, r1⟩ := trodAll_cons r0
  obtain ⟨v2, vs2, d2, ds2, p2, q2, rfl, rfl, rfl, h2, r2⟩ := trodAll_cons r1
  obtain ⟨rfl, rfl, rfl⟩ := trodAll_nil r2
  obtain rfl : args = #[v0, v1, v2] := by cases args; simp_all
  obtain ⟨rfl, rfl⟩ := trodVars_none hV
  obtain ⟨a0, rfl, rfl, rfl, w0⟩ := open_int Try.underlying5 (hval 0 5 v0 rfl rfl) h0
  obtain ⟨a1, rfl, rfl, rfl, w1⟩ := open_int Try.underlying2 (hval 1 2 v1 rfl rfl) h1
  obtain ⟨a2, rfl, rfl, rfl, w2⟩ := open_int Try.underlying2 (hval 2 2 v2 rfl rfl) h2
  clear hA0 hval0
  simp only [List.append_nil] at hW'
  refine (walk a0 a1 a2 w0 w1 w2 W).mono fun e W' ⟨he, hg⟩ => ?_
  subst he
  exact ⟨_, rfl, _, _, _, [], [], [], hW', trodAll_mk1 (shut_bool Try.underlying4 _), (trodAll_cons_mk (shut_int Try.underlying5 w0) (trodAll_cons_mk (shut_int Try.underlying2 w1) (trodAll_cons_mk (shut_int Try.underlying2 w2) trodAll_mk0))), rfl, Below.frame hg _, fun h => by cases h⟩

theorem over : Rows.intsDividesRow.holds Try.pinned (OpenSpec.ofChange Rows.intsDividesSpec) :=
  OpenClaim.holds_of_wide 8 Try.f8 rfl rfl rfl rfl rfl rfl rfl ⟨rfl, rfl, rfl, rfl, rfl⟩ rfl rfl rfl rfl rfl (by kernel_rfl) Try.func8 (by kernel_rfl)
    (of_decide_eq_true (by kernel_rfl)) (by unfold Func.isWrapper; first | (rw [if_pos (by decide +kernel)]; kernel_rfl) | (rw [if_neg (by decide +kernel)]; exact ⟨rfl, rfl⟩))
    (fun os started H enc _ => lifted os started H enc)

/-- ████ THE STATEMENT ████ -/
theorem proved : Rows.IntsDividesSaid :=
  over
#print axioms proved
end Go.Proofs.Yteefahkjdpaogaa.intsDivides
