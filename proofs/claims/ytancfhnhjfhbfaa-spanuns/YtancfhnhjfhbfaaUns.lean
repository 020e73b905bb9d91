/-
  burinlaw10.SpanUns returns true, whatever the operation, the type and the span; no condition.
-/
import Derived.Test.YtancfhnhjfhbfaaSpP
namespace Go.Proofs.Ytancfhnhjfhbfaa.spanUns
open Go.Proofs.Ytancfhnhjfhbfaa
open Go.ChangeShapes Go.WideShapes Go.ChangeAt Go.RowKit
open Burin
set_option linter.unusedVariables false

theorem own : ownKnob Try.prog.godebug = none := by kernel_rfl
theorem laid : laidOutB Try.prog = true := by kernel_rfl

set_option maxRecDepth 100000 in
set_option maxHeartbeats 4000000 in
theorem walk (op t l r : Int) (w : World) (ho : U8 op) (ht : U8 t) (_ : I64 l) (_ : I64 r) : Calls Try.prog 4 #[.int .u8 op, .int .u8 t, .agg #[.int .i64 l, .int .i64 r]] w fun e w' => e = .returned (.bool true) ∧ Below w.heap.size w w' := by
  obtain ⟨o0, o1⟩ := ho
  obtain ⟨t0, t1⟩ := ht
  have HU := hideIt (fun x => spun_any op t l r x t0)
  have HV := hideIt (fun x => rspun_any op t l r x t0)
  have HA := hideIt (fun x => cast_any t l r x t0)
  have HB := hideIt (fun x => rcast_any t l r x t0)
  generalize (unA op t l r).1 = z1 at *
  generalize (unA op t l r).2.1 = z2 at *
  generalize (unA op t l r).2.2 = z3 at *
  generalize caL t l r = y1 at *
  generalize caH t l r = y2 at *
  have wo : IntKind.i64.wrap op = op := by simp [IntKind.wrap_i64]; omega
  have wt : IntKind.i64.wrap t = t := by simp [IntKind.wrap_i64]; omega
  go_enter Try.func4, Try.ntmps4
  go_wp2_with (first | (go_at_call 9; refine (awake_any _).mono ?_; rintro e x1 ⟨rfl, q1⟩; have R1 := hideIt q1; clear q1; obtain ⟨c0, c1⟩ := Q.c2 R1.out) | (go_at_call 12; refine (HU.out _).mono ?_; rintro e x2 ⟨rfl, q2⟩; have R2 := hideIt ((R1.out.trans q2).bx z1 z2); clear q2 c0 c1; obtain ⟨c0, c1⟩ := Q.c2 R2.out) | (go_at_call 13; refine (HV.out _).mono ?_; rintro e x3 ⟨rfl, q3⟩; have R3 := hideIt (R2.out.trans (q3.bx z1 z2)); obtain ⟨k0, k1⟩ := (q3.bx z1 z2).c2; clear q3 c0 c1))
  have hF : Hid (∀ y, Q (bx x3 z1 z2) y → (fun y : World => y.cell? ⟨w.heap.size, 0, none⟩ = some (.int .i64 l) ∧ y.cell? ⟨w.heap.size, 1, none⟩ = some (.int .i64 r) ∧ y.cell? ⟨x2.heap.size, 0, none⟩ = some (.int .i64 z1) ∧ y.cell? ⟨x2.heap.size, 1, none⟩ = some (.int .i64 z2) ∧ y.cell? ⟨x3.heap.size, 0, none⟩ = some (.int .i64 z1) ∧ y.cell? ⟨x3.heap.size, 1, none⟩ = some (.int .i64 z2)) y) := fun y h => ⟨(Q.c2 (R3.out.trans h)).1, (Q.c2 (R3.out.trans h)).2, keepc h k0, keepc h k1, h.c2.1, h.c2.2⟩
  have HA' := hideIt (heldF hF.out HA.out)
  have HB' := hideIt (heldF hF.out HB.out)
  have qd : Q (bx x3 z1 z2) (bx x3 z1 z2).drew := (Q.refl _).drew
  clear k0 k1
  first | go_region_held3 (fun y : World => Q (bx x3 z1 z2) y ∧ y.cell? ⟨w.heap.size, 0, none⟩ = some (.int .i64 l) ∧ y.cell? ⟨w.heap.size, 1, none⟩ = some (.int .i64 r) ∧ y.cell? ⟨x2.heap.size, 0, none⟩ = some (.int .i64 z1) ∧ y.cell? ⟨x2.heap.size, 1, none⟩ = some (.int .i64 z2) ∧ y.cell? ⟨x3.heap.size, 0, none⟩ = some (.int .i64 z1) ∧ y.cell? ⟨x3.heap.size, 1, none⟩ = some (.int .i64 z2)) (first | exact ⟨(Q.refl _).drew, hF.out _ (Q.refl _).drew⟩ | go_keep) (first | (go_at_call 14; refine (HA'.out _ (by assumption)).mono ?_; rintro e y ⟨rfl, s0, s1, s2, s3, s4, s5, s6⟩) | (go_at_call 15; refine (HB'.out _ (by assumption)).mono ?_; rintro e y ⟨rfl, s0, s1, s2, s3, s4, s5, s6⟩)) | fail
  all_goals
    go_wp2_with (fail)
    go_ret
    exact ⟨rfl, ((Q.refl w).alloc _).trans (R3.out.trans (by assumption))⟩

set_option maxRecDepth 100000 in
set_option maxHeartbeats 400000 in
theorem lifted (os : Os) (started : os.Started) (H : Type) (enc : TypeId × Value → H) :
    ReturnsInHanded {} Try.checked os 4 .any (Rows.spanUnsSpec.pre6 enc Try.prog Try.f4 Rows.spanUnsRow.domain false) (Rows.spanUnsSpec.post enc Try.prog Try.f4 false true false false) := by
  refine returnsInHanded_of_change (C := Try.checked) own started (by kernel_rfl) Try.func4
    (ChangeSpec.witness6 (enc := enc) (C := Try.checked) false ⟨#[], #[.int .u8 0, .int .u8 0, .agg #[.int .i64 0, .int .i64 0]], []⟩ 8 (by kernel_rfl) (by kernel_rfl) (by kernel_rfl) (by kernel_rfl)) ?_
  intro W base args ds gs before hval0 hW hcnd _
  have hval : ∀ (j : Nat) t v, Try.f4.params[j]? = some t → args[j]? = some v → Value.okWide Try.prog W .any base t v := hval0
  have hW' := hW
  obtain ⟨p, q, hA0, hV, rfl, hfz, hnd⟩ := hW
  have hA : DataW.TrodAll enc Try.prog W 0 (fun _ => true) true Try.f4.params.toList args.toList ds p := hA0
  rw [Try.params4] at hA hval
  obtain ⟨v0, vs0, d0, ds0, p0, q0, hargs, rfl, rfl, h0, r0⟩ := trodAll_cons hA
  obtain ⟨v1, vs1, d1, ds1, p1, q1, rfl, rfl, rfl, h1, r1⟩ := trodAll_cons r0
  obtain ⟨v2, vs2, d2, ds2, p2, q2, rfl, rfl, rfl, h2, r2⟩ := trodAll_cons r1
  obtain ⟨rfl, rfl, rfl⟩ := trodAll_nil r2
  obtain rfl : args = #[v0, v1, v2] := by cases args; simp_all
  obtain ⟨rfl, rfl⟩ := trodVars_none hV
  obtain ⟨a0, rfl, rfl, rfl, w0⟩ := open_int Try.underlying5 (hval 0 5 v0 rfl rfl) h0
  obtain ⟨a1, rfl, rfl, rfl, w1⟩ := open_int Try.underlying5 (hval 1 5 v1 rfl rfl) h1
  have k2 := h2
  have lt2 : ∀ x ∈ p2, x.block < W.heap.size := by obtain ⟨m, hm⟩ := k2; exact DataW.trod_lt m _ _ _ hm
  obtain ⟨a2a, a2b, rfl, b2a, b2b⟩ := open_span (hval 2 23 v2 rfl rfl) h2
  clear hA0 hval0
  refine (walk a0 a1 a2a a2b W (U8.of_wf w0) (U8.of_wf w1) b2a b2b).mono fun e W' ⟨he, bel⟩ => ?_
  subst he
  exact ⟨_, rfl, _, _, _, [], _, [], hW', trodAll_mk1 (shut_bool Try.underlying4 _), (trodAll_cons_mk (shut_int Try.underlying5 w0) (trodAll_cons_mk (shut_int Try.underlying5 w1) (trodAll_cons_mk (Below.trod laid (by kernel_rfl) (of_decide_eq_true (by kernel_rfl)) k2 bel lt2) trodAll_mk0))), rfl, bel.frame _, fun h => by cases h⟩

theorem over : Rows.spanUnsRow.holds Try.pinned (OpenSpec.ofChange Rows.spanUnsSpec) :=
  OpenClaim.holds_of_wide 4 Try.f4 rfl rfl rfl rfl rfl rfl rfl ⟨rfl, rfl, rfl, rfl, rfl⟩ rfl rfl rfl rfl rfl (by kernel_rfl) Try.func4 (by kernel_rfl)
    (of_decide_eq_true (by kernel_rfl)) (by unfold Func.isWrapper; first | (rw [if_pos (by decide +kernel)]; kernel_rfl) | (rw [if_neg (by decide +kernel)]; exact ⟨rfl, rfl⟩))
    (fun os started H enc _ => lifted os started H enc)

/-- The statement. -/
theorem proved : Rows.SpanUnsSaid :=
  over
#print axioms proved
end Go.Proofs.Ytancfhnhjfhbfaa.spanUns
