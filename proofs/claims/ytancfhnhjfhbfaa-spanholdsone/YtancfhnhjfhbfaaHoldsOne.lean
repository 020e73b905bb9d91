/-
  burinlaw10.SpanHoldsOne returns true, whatever the operation, the two types, the two ends and the pick; no condition.
-/
import Derived.Test.YtancfhnhjfhbfaaSpQ
namespace Go.Proofs.Ytancfhnhjfhbfaa.spanHoldsOne
open Go.Proofs.Ytancfhnhjfhbfaa
open Go.ChangeShapes Go.WideShapes Go.ChangeAt Go.RowKit
open Burin
set_option linter.unusedVariables false

theorem own : ownKnob Try.prog.godebug = none := by kernel_rfl
theorem laid : laidOutB Try.prog = true := by kernel_rfl

set_option maxRecDepth 100000 in
set_option maxHeartbeats 4000000 in
theorem walk (op t u a b i : Int) (w : World) (ho : U8 op) (ht : U8 t) (hu : U8 u) (_ : I64 a) (_ : I64 b) (hi : U32 i) : Calls Try.prog 7 #[.int .u8 op, .int .u8 t, .int .u8 u, .agg #[.int .i64 a, .int .i64 b], .int .u32 i] w fun e w' => e = .returned (.bool true) ∧ Below w.heap.size w w' := by
  obtain ⟨o0, o1⟩ := ho
  obtain ⟨t0, t1⟩ := ht
  obtain ⟨u0, u1⟩ := hu
  obtain ⟨i0, i1⟩ := hi
  have HC := hideIt (fun x => cut_any (t % 6) a b x (by omega) (by omega))
  have B1 := ct_bd (t % 6) a b (by omega) (by omega)
  have LB := low_nb' (t % 6) (by omega) (by omega)
  generalize ctL (t % 6) a b = l at *
  generalize ctH (t % 6) a b = r at *
  have HI := hideIt (fun x => within_any l r i x ⟨by omega, by omega⟩ ⟨by omega, by omega⟩ B1.2.1 i0 i1)
  have PA := wiP_bd l r i B1.2.1 i0
  generalize wiP l r i = p at *
  have HK := hideIt (fun x => cast_any (u % 6) l r x (by omega))
  have HP := hideIt (fun x => rwrap_any (u % 6) p x (by omega))
  have CH := cast_holds (u % 6) l r p (by omega) (by omega) PA.1 PA.2
  generalize caL (u % 6) l r = cl at *
  generalize caH (u % 6) l r = ch at *
  generalize Burin.wr (u % 6) p = wv at *
  have e1 : decide (wv < cl) = false := by simp; omega
  have e2 : decide (ch < wv) = false := by simp; omega
  have HU := hideIt (fun x => spun_any (1 + op % 3) (t % 6) l r x (by omega))
  have HR := hideIt (fun x => run_any (1 + op % 3) (t % 6) p x (by omega))
  have UH := hideIt (un_holds (1 + op % 3) (t % 6) l r p (by omega) (by omega) (by omega) (by omega) B1.1 B1.2.2 PA.1 PA.2)
  have ob : 1 + op % 3 ≤ 3 := by omega
  have ob0 : 0 ≤ 1 + op % 3 := by omega
  generalize hO : 1 + op % 3 = o at *
  generalize unA o (t % 6) l r = D at *
  obtain ⟨z1, z2, ok⟩ := D
  generalize un1 o (t % 6) p = v1 at *
  generalize un2 o (t % 6) p = v2 at *
  have wo : IntKind.i64.wrap o = o := by simp [IntKind.wrap_i64]; omega
  have wt : IntKind.i64.wrap (t % 6) = t % 6 := by simp [IntKind.wrap_i64]; omega
  have wu : IntKind.i64.wrap (u % 6) = u % 6 := by simp [IntKind.wrap_i64]; omega
  clear B1 LB PA CH
  cases ok
  · go_enter Try.func7, Try.ntmps7
    go_wp2_with (first | (go_at_call 9; refine (awake_any _).mono ?_; rintro e x1 ⟨rfl, q1⟩; have R1 := hideIt q1; clear q1; obtain ⟨c0, c1⟩ := arr2c R1.out) | (go_at_call 24; refine (HC.out _).mono ?_; rintro e x2 ⟨rfl, q2⟩; have R2 := hideIt ((R1.out.trans q2).bx l r); clear q2 c0 c1) | (go_at_call 26; refine (HI.out _).mono ?_; rintro e x3 ⟨rfl, q3⟩; have R3 := hideIt (R2.out.trans q3); obtain ⟨c0, c1⟩ := Q.c2 q3; clear q3) | (go_at_call 14; refine (HK.out _).mono ?_; rintro e x4 ⟨rfl, q4⟩; have R4 := hideIt ((R3.out.trans q4).bx cl ch); have g0 := keepc (q4.bx cl ch) c0; have g1 := keepc (q4.bx cl ch) c1; clear q4 c0 c1) | (go_at_call 27; refine (HP.out _).mono ?_; rintro e x5 ⟨rfl, q5⟩; have R5 := hideIt (R4.out.trans q5); have c0 := keepc q5 g0; have c1 := keepc q5 g1; obtain ⟨d0, d1⟩ := Q.c2 q5; clear q5 g0 g1) | (go_at_call 12; refine (HU.out _).mono ?_; rintro e x6 ⟨rfl, q6⟩; have R6 := hideIt ((R5.out.trans q6).bx z1 z2); clear q6 c0 c1 d0 d1))
    go_ret
    exact ⟨rfl, ((Q.refl w).alloc _).trans R6.out⟩
  · obtain ⟨y2, y0, y1⟩ := UH.out rfl
    have e3 : (v2 == 0) = true := by simpa using y2
    have e4 : decide (z1 ≤ v1) = true := by simpa using y0
    have e5 : decide (v1 ≤ z2) = true := by simpa using y1
    clear y2 y0 y1 UH
    go_enter Try.func7, Try.ntmps7
    go_wp2_with (first | (go_at_call 9; refine (awake_any _).mono ?_; rintro e x1 ⟨rfl, q1⟩; have R1 := hideIt q1; clear q1; obtain ⟨c0, c1⟩ := arr2c R1.out) | (go_at_call 24; refine (HC.out _).mono ?_; rintro e x2 ⟨rfl, q2⟩; have R2 := hideIt ((R1.out.trans q2).bx l r); clear q2 c0 c1) | (go_at_call 26; refine (HI.out _).mono ?_; rintro e x3 ⟨rfl, q3⟩; have R3 := hideIt (R2.out.trans q3); obtain ⟨c0, c1⟩ := Q.c2 q3; clear q3) | (go_at_call 14; refine (HK.out _).mono ?_; rintro e x4 ⟨rfl, q4⟩; have R4 := hideIt ((R3.out.trans q4).bx cl ch); have g0 := keepc (q4.bx cl ch) c0; have g1 := keepc (q4.bx cl ch) c1; clear q4 c0 c1) | (go_at_call 27; refine (HP.out _).mono ?_; rintro e x5 ⟨rfl, q5⟩; have R5 := hideIt (R4.out.trans q5); have c0 := keepc q5 g0; have c1 := keepc q5 g1; obtain ⟨d0, d1⟩ := Q.c2 q5; clear q5 g0 g1) | (go_at_call 12; refine (HU.out _).mono ?_; rintro e x6 ⟨rfl, q6⟩; have R6 := hideIt ((R5.out.trans q6).bx z1 z2); clear q6 c0 c1 d0 d1) | (go_at_call 28; refine (HR.out _).mono ?_; rintro e x7 ⟨rfl, q7⟩; have R7 := hideIt (R6.out.trans q7); obtain ⟨c0, c1⟩ := Q.c2 q7; clear q7))
    go_ret
    exact ⟨rfl, ((Q.refl w).alloc _).trans R7.out⟩

set_option maxRecDepth 100000 in
set_option maxHeartbeats 400000 in
theorem lifted (os : Os) (started : os.Started) (H : Type) (enc : TypeId × Value → H) :
    ReturnsInHanded {} Try.checked os 7 .any (Rows.spanHoldsOneSpec.pre6 enc Try.prog Try.f7 Rows.spanHoldsOneRow.domain false) (Rows.spanHoldsOneSpec.post enc Try.prog Try.f7 false true false false) := by
  refine returnsInHanded_of_change (C := Try.checked) own started (by kernel_rfl) Try.func7
    (ChangeSpec.witness6 (enc := enc) (C := Try.checked) false ⟨#[], #[.int .u8 0, .int .u8 0, .int .u8 0, .agg #[.int .i64 0, .int .i64 0], .int .u32 0], []⟩ 8 (by kernel_rfl) (by kernel_rfl) (by kernel_rfl) (by kernel_rfl)) ?_
  intro W base args ds gs before hval0 hW hcnd _
  have hval : ∀ (j : Nat) t v, Try.f7.params[j]? = some t → args[j]? = some v → Value.okWide Try.prog W .any base t v := hval0
  have hW' := hW
  obtain ⟨p, q, hA0, hV, rfl, hfz, hnd⟩ := hW
  have hA : DataW.TrodAll enc Try.prog W 0 (fun _ => true) true Try.f7.params.toList args.toList ds p := hA0
  rw [Try.params7] at hA hval
  obtain ⟨v0, vs0, d0, ds0, p0, q0, hargs, rfl, rfl, h0, r0⟩ := trodAll_cons hA
  obtain ⟨v1, vs1, d1, ds1, p1, q1, rfl, rfl, rfl, h1, r1⟩ := trodAll_cons r0
  obtain ⟨v2, vs2, d2, ds2, p2, q2, rfl, rfl, rfl, h2, r2⟩ := trodAll_cons r1
  obtain ⟨v3, vs3, d3, ds3, p3, q3, rfl, rfl, rfl, h3, r3⟩ := trodAll_cons r2
  obtain ⟨v4, vs4, d4, ds4, p4, q4, rfl, rfl, rfl, h4, r4⟩ := trodAll_cons r3
  obtain ⟨rfl, rfl, rfl⟩ := trodAll_nil r4
  obtain rfl : args = #[v0, v1, v2, v3, v4] := by cases args; simp_all
  obtain ⟨rfl, rfl⟩ := trodVars_none hV
  obtain ⟨a0, rfl, rfl, rfl, w0⟩ := open_int Try.underlying5 (hval 0 5 v0 rfl rfl) h0
  obtain ⟨a1, rfl, rfl, rfl, w1⟩ := open_int Try.underlying5 (hval 1 5 v1 rfl rfl) h1
  obtain ⟨a2, rfl, rfl, rfl, w2⟩ := open_int Try.underlying5 (hval 2 5 v2 rfl rfl) h2
  have k3 := h3
  have lt3 : ∀ x ∈ p3, x.block < W.heap.size := by obtain ⟨m, hm⟩ := k3; exact DataW.trod_lt m _ _ _ hm
  obtain ⟨a3a, a3b, rfl, b3a, b3b⟩ := open_a2 (hval 3 48 v3 rfl rfl) h3
  obtain ⟨a4, rfl, rfl, rfl, w4⟩ := open_int Try.underlying42 (hval 4 42 v4 rfl rfl) h4
  clear hA0 hval0
  refine (walk a0 a1 a2 a3a a3b a4 W (U8.of_wf w0) (U8.of_wf w1) (U8.of_wf w2) b3a b3b (U32.of_wf w4)).mono fun e W' ⟨he, bel⟩ => ?_
  subst he
  exact ⟨_, rfl, _, _, _, [], _, [], hW', trodAll_mk1 (shut_bool Try.underlying4 _), (trodAll_cons_mk (shut_int Try.underlying5 w0) (trodAll_cons_mk (shut_int Try.underlying5 w1) (trodAll_cons_mk (shut_int Try.underlying5 w2) (trodAll_cons_mk (Below.trod laid (by kernel_rfl) (of_decide_eq_true (by kernel_rfl)) k3 bel lt3) (trodAll_cons_mk (shut_int Try.underlying42 w4) trodAll_mk0))))), rfl, bel.frame _, fun h => by cases h⟩

theorem over : Rows.spanHoldsOneRow.holds Try.pinned (OpenSpec.ofChange Rows.spanHoldsOneSpec) :=
  OpenClaim.holds_of_wide 7 Try.f7 rfl rfl rfl rfl rfl rfl rfl ⟨rfl, rfl, rfl, rfl, rfl⟩ rfl rfl rfl rfl rfl (by kernel_rfl) Try.func7 (by kernel_rfl)
    (of_decide_eq_true (by kernel_rfl)) (by unfold Func.isWrapper; first | (rw [if_pos (by decide +kernel)]; kernel_rfl) | (rw [if_neg (by decide +kernel)]; exact ⟨rfl, rfl⟩))
    (fun os started H enc _ => lifted os started H enc)

/-- The statement. -/
theorem proved : Rows.SpanHoldsOneSaid :=
  over
#print axioms proved
end Go.Proofs.Ytancfhnhjfhbfaa.spanHoldsOne
