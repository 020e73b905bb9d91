/-
  burinlaw10.SpanDoes returns true, whatever the operation, the type and the two spans; no condition.
-/
import Derived.Test.YtancfhnhjfhbfaaSpY
import Derived.Test.YtancfhnhjfhbfaaSpG
namespace Go.Proofs.Ytancfhnhjfhbfaa.spanDoes
open Go.Proofs.Ytancfhnhjfhbfaa
open Go.ChangeShapes Go.WideShapes Go.ChangeAt Go.RowKit
open Burin
set_option linter.unusedVariables false

theorem own : ownKnob Try.prog.godebug = none := by kernel_rfl
theorem laid : laidOutB Try.prog = true := by kernel_rfl

set_option maxRecDepth 100000 in
set_option maxHeartbeats 4000000 in
theorem walk (op t al ah bl bh : Int) (w : World) (ho : U8 op) (ht : U8 t) (_ : I64 al) (_ : I64 ah) (_ : I64 bl) (_ : I64 bh) : Calls Try.prog 3 #[.int .u8 op, .int .u8 t, .agg #[.int .i64 al, .int .i64 ah], .agg #[.int .i64 bl, .int .i64 bh]] w fun e w' => e = .returned (.bool true) ∧ Below w.heap.size w w' := by
  obtain ⟨o0, o1⟩ := ho
  obtain ⟨t0, t1⟩ := ht
  have HD : Hid (∀ x, Calls Try.prog 10 #[.int .u8 op, .int .u8 t, .agg #[.int .i64 al, .int .i64 ah], .agg #[.int .i64 bl, .int .i64 bh]] x fun e w' => e = .returned (.tuple #[.agg #[.int .i64 (doA op t al ah bl bh).1, .int .i64 (doA op t al ah bl bh).2.1], .bool (doA op t al ah bl bh).2.2]) ∧ Q x w') := fun x => sdo_any op t al ah bl bh x t0
  have HV := hideIt (fun x => rspdo_any op t al ah bl bh x t0)
  generalize (doA op t al ah bl bh).1 = z1 at *
  generalize (doA op t al ah bl bh).2.1 = z2 at *
  generalize (doA op t al ah bl bh).2.2 = z3 at *
  have wo : IntKind.i64.wrap op = op := by simp [IntKind.wrap_i64]; omega
  have wt : IntKind.i64.wrap t = t := by simp [IntKind.wrap_i64]; omega
  go_enter Try.func3, Try.ntmps3
  go_wp2_with (first | (go_at_call 9; refine (awake_any _).mono ?_; rintro e x1 ⟨rfl, q1⟩; have R1 := hideIt q1; clear q1; obtain ⟨c0, c1, c2, c3⟩ := Q.c4 R1.out) | (go_at_call 10; refine (HD.out _).mono ?_; rintro e x2 ⟨rfl, q2⟩; have R2 := hideIt ((R1.out.trans q2).bx z1 z2); clear q2 c0 c1 c2 c3; obtain ⟨c0, c1, c2, c3⟩ := Q.c4 R2.out) | (go_at_call 11; refine (HV.out _).mono ?_; rintro e x3 ⟨rfl, q3⟩; have R3 := hideIt (R2.out.trans (q3.bx z1 z2)); obtain ⟨k0, k1⟩ := (q3.bx z1 z2).c2; clear q3 c0 c1 c2 c3))
  go_ret
  exact ⟨rfl, (((Q.refl w).alloc _).alloc _).trans R3.out⟩

set_option maxRecDepth 100000 in
set_option maxHeartbeats 400000 in
theorem lifted (os : Os) (started : os.Started) (H : Type) (enc : TypeId × Value → H) :
    ReturnsInHanded {} Try.checked os 3 .any (Rows.spanDoesSpec.pre6 enc Try.prog Try.f3 Rows.spanDoesRow.domain false) (Rows.spanDoesSpec.post enc Try.prog Try.f3 false true false false) := by
  refine returnsInHanded_of_change (C := Try.checked) own started (by kernel_rfl) Try.func3
    (ChangeSpec.witness6 (enc := enc) (C := Try.checked) false ⟨#[], #[.int .u8 0, .int .u8 0, .agg #[.int .i64 0, .int .i64 0], .agg #[.int .i64 0, .int .i64 0]], []⟩ 8 (by kernel_rfl) (by kernel_rfl) (by kernel_rfl) (by kernel_rfl)) ?_
  intro W base args ds gs before hval0 hW hcnd _
  have hval : ∀ (j : Nat) t v, Try.f3.params[j]? = some t → args[j]? = some v → Value.okWide Try.prog W .any base t v := hval0
  have hW' := hW
  obtain ⟨p, q, hA0, hV, rfl, hfz, hnd⟩ := hW
  have hA : DataW.TrodAll enc Try.prog W 0 (fun _ => true) true Try.f3.params.toList args.toList ds p := hA0
  rw [Try.params3] at hA hval
  obtain ⟨v0, vs0, d0, ds0, p0, q0, hargs, rfl, rfl, h0, r0⟩ := trodAll_cons hA
  obtain ⟨v1, vs1, d1, ds1, p1, q1, rfl, rfl, rfl, h1, r1⟩ := trodAll_cons r0
  obtain ⟨v2, vs2, d2, ds2, p2, q2, rfl, rfl, rfl, h2, r2⟩ := trodAll_cons r1
  obtain ⟨v3, vs3, d3, ds3, p3, q3, rfl, rfl, rfl, h3, r3⟩ := trodAll_cons r2
  obtain ⟨rfl, rfl, rfl⟩ := trodAll_nil r3
  obtain rfl : args = #[v0, v1, v2, v3] := by cases args; simp_all
  obtain ⟨rfl, rfl⟩ := trodVars_none hV
  obtain ⟨a0, rfl, rfl, rfl, w0⟩ := open_int Try.underlying5 (hval 0 5 v0 rfl rfl) h0
  obtain ⟨a1, rfl, rfl, rfl, w1⟩ := open_int Try.underlying5 (hval 1 5 v1 rfl rfl) h1
  have k2 := h2
  have lt2 : ∀ x ∈ p2, x.block < W.heap.size := by obtain ⟨m, hm⟩ := k2; exact DataW.trod_lt m _ _ _ hm
  obtain ⟨a2a, a2b, rfl, b2a, b2b⟩ := open_span (hval 2 23 v2 rfl rfl) h2
  have k3 := h3
  have lt3 : ∀ x ∈ p3, x.block < W.heap.size := by obtain ⟨m, hm⟩ := k3; exact DataW.trod_lt m _ _ _ hm
  obtain ⟨a3a, a3b, rfl, b3a, b3b⟩ := open_span (hval 3 23 v3 rfl rfl) h3
  clear hA0 hval0
  refine (walk a0 a1 a2a a2b a3a a3b W (U8.of_wf w0) (U8.of_wf w1) b2a b2b b3a b3b).mono fun e W' ⟨he, bel⟩ => ?_
  subst he
  exact ⟨_, rfl, _, _, _, [], _, [], hW', trodAll_mk1 (shut_bool Try.underlying4 _), (trodAll_cons_mk (shut_int Try.underlying5 w0) (trodAll_cons_mk (shut_int Try.underlying5 w1) (trodAll_cons_mk (Below.trod laid (by kernel_rfl) (of_decide_eq_true (by kernel_rfl)) k2 bel lt2) (trodAll_cons_mk (Below.trod laid (by kernel_rfl) (of_decide_eq_true (by kernel_rfl)) k3 bel lt3) trodAll_mk0)))), rfl, bel.frame _, fun h => by cases h⟩

theorem over : Rows.spanDoesRow.holds Try.pinned (OpenSpec.ofChange Rows.spanDoesSpec) :=
  OpenClaim.holds_of_wide 3 Try.f3 rfl rfl rfl rfl rfl rfl rfl ⟨rfl, rfl, rfl, rfl, rfl⟩ rfl rfl rfl rfl rfl (by kernel_rfl) Try.func3 (by kernel_rfl)
    (of_decide_eq_true (by kernel_rfl)) (by unfold Func.isWrapper; first | (rw [if_pos (by decide +kernel)]; kernel_rfl) | (rw [if_neg (by decide +kernel)]; exact ⟨rfl, rfl⟩))
    (fun os started H enc _ => lifted os started H enc)

/-- The statement. -/
theorem proved : Rows.SpanDoesSaid :=
  over
#print axioms proved
end Go.Proofs.Ytancfhnhjfhbfaa.spanDoes
