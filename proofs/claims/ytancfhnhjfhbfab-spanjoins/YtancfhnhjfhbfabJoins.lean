/-
  burinlaw10.SpanJoins returns true, whatever the three spans; no condition.
-/
import Derived.Test.YtancfhnhjfhbfabJoinsB
import Derived.Test.YtancfhnhjfhbfabJoinsC
import Derived.Test.YtancfhnhjfhbfabJoinsD
import Derived.Test.YtancfhnhjfhbfabJoinsE
import Derived.Test.YtancfhnhjfhbfabJoinsF
import Derived.Test.YtancfhnhjfhbfabJoinsG
import Derived.Test.YtancfhnhjfhbfabJoinsH
import Derived.Test.YtancfhnhjfhbfabJoinsI
namespace Go.Proofs.Ytancfhnhjfhbfab.spanJoins
open Go.Proofs.Ytancfhnhjfhbfab
open Go.ChangeShapes Go.WideShapes Go.ChangeAt Go.RowKit
open Burin
set_option linter.unusedVariables false

theorem own : ownKnob Try.prog.godebug = none := by kernel_rfl
theorem laid : laidOutB Try.prog = true := by kernel_rfl

theorem walk (al ah bl bh cl ch : Int) (w : World) (_ : I64 al) (_ : I64 ah) (_ : I64 bl) (_ : I64 bh) (_ : I64 cl) (_ : I64 ch) : Calls Try.prog 3 #[.agg #[.int .i64 al, .int .i64 ah], .agg #[.int .i64 bl, .int .i64 bh], .agg #[.int .i64 cl, .int .i64 ch]] w fun e w' => e = .returned (.bool true) ∧ Below w.heap.size w w' := by
  obtain ⟨f1, f2, f3, f4, f5, f6, f7, f8, f9⟩ := jo_facts al ah bl bh cl ch
  have HIa := hideIt (fun x => in_any al ah (joL al ah bl bh) (joH al ah bl bh) x)
  rw [f1] at HIa
  have HIb := hideIt (fun x => in_any bl bh (joL al ah bl bh) (joH al ah bl bh) x)
  rw [f2] at HIb
  have HJ := hideIt (fun x => join_any al ah bl bh x)
  have HJa := hideIt (fun x => join_any al ah al ah x)
  rw [f3, f4] at HJa
  have HJn := hideIt (fun x => join_any al ah 1 0 x)
  have HJb := hideIt (fun x => join_any bl bh al ah x)
  have HNa := hideIt (fun x => none_any al ah x)
  have HNb := hideIt (fun x => none_any bl bh x)
  have HCa := hideIt (fun x => in_any al ah cl ch x)
  have HCb := hideIt (fun x => in_any bl bh cl ch x)
  have HCj := hideIt (fun x => in_any (joL al ah bl bh) (joH al ah bl bh) cl ch x)
  have HHl := hideIt (fun x => hasB_any (joL al ah bl bh) (joH al ah bl bh) (joL al ah bl bh) x)
  have HHh := hideIt (fun x => hasB_any (joL al ah bl bh) (joH al ah bl bh) (joH al ah bl bh) x)
  cases ha : nonB al ah with
  | false =>
    rw [ha] at HNa
    rw [(f5 ha).1, (f5 ha).2] at HJn
    rw [(f9 (by rw [ha]; rfl)).1] at HHl
    rw [(f9 (by rw [ha]; rfl)).2] at HHh
    have HH : Hid (∀ v, (v = joL al ah bl bh ∨ v = joH al ah bl bh) → ∀ x, Calls Try.prog 8 #[.agg #[.int .i64 (joL al ah bl bh), .int .i64 (joH al ah bl bh)], .int .i64 v] x fun e w' => e = .returned (.bool true) ∧ Q x w') := by
      intro v hv
      rcases hv with rfl | rfl
      · exact HHl.out
      · exact HHh.out
    cases hb : nonB bl bh with
    | false =>
      rw [hb] at HNb
      rw [(f7 ha hb).1, (f7 ha hb).2] at HJb
      exact core_ff al ah bl bh cl ch _ _ _ _ _ w f8 HIa HIb HJ HJa HJn HJb HNa HNb HCa HCb HCj HH
    | true =>
      rw [hb] at HNb
      exact core_ft al ah bl bh cl ch _ _ _ _ _ w f8 HIa HIb HJ HJa HJn HNa HNb HCa HCb HCj HH
  | true =>
    rw [ha] at HNa
    rw [(f6 ha).1, (f6 ha).2] at HJn
    cases hb : nonB bl bh with
    | false =>
      rw [hb] at HNb
      rw [(f9 (by rw [ha, hb]; rfl)).1] at HHl
      rw [(f9 (by rw [ha, hb]; rfl)).2] at HHh
      have HH : Hid (∀ v, (v = joL al ah bl bh ∨ v = joH al ah bl bh) → ∀ x, Calls Try.prog 8 #[.agg #[.int .i64 (joL al ah bl bh), .int .i64 (joH al ah bl bh)], .int .i64 v] x fun e w' => e = .returned (.bool true) ∧ Q x w') := by
        intro v hv
        rcases hv with rfl | rfl
        · exact HHl.out
        · exact HHh.out
      by_cases e1 : al = 1
      · subst e1
        by_cases e0 : ah = 0
        · subst e0
          exact core_tf_10 bl bh cl ch _ _ _ _ _ w f8 HIa HIb HJ HJa HJn HNa HNb HCa HCb HCj HH
        · exact core_tf_1 ah bl bh cl ch _ _ _ _ _ w (by simp; omega) (by simp; omega) f8 HIa HIb HJ HJa HJn HNa HNb HCa HCb HCj HH
      · exact core_tf al ah bl bh cl ch _ _ _ _ _ w (by simp; omega) (by simp; omega) f8 HIa HIb HJ HJa HJn HNa HNb HCa HCb HCj HH
    | true =>
      rw [hb] at HNb
      by_cases e1 : al = 1
      · subst e1
        by_cases e0 : ah = 0
        · subst e0
          exact core_tt_10 bl bh cl ch _ _ _ _ _ w f8 HIa HIb HJ HJa HJn HNa HNb HCa HCb HCj
        · exact core_tt_1 ah bl bh cl ch _ _ _ _ _ w (by simp; omega) (by simp; omega) f8 HIa HIb HJ HJa HJn HNa HNb HCa HCb HCj
      · exact core_tt al ah bl bh cl ch _ _ _ _ _ w (by simp; omega) (by simp; omega) f8 HIa HIb HJ HJa HJn HNa HNb HCa HCb HCj

set_option maxRecDepth 100000 in
set_option maxHeartbeats 400000 in
theorem lifted (os : Os) (started : os.Started) (H : Type) (enc : TypeId × Value → H) :
    ReturnsInHanded {} Try.checked os 3 .any (Rows.spanJoinsSpec.pre6 enc Try.prog Try.f3 Rows.spanJoinsRow.domain false) (Rows.spanJoinsSpec.post enc Try.prog Try.f3 false true false false) := by
  refine returnsInHanded_of_change (C := Try.checked) own started (by kernel_rfl) Try.func3
    (ChangeSpec.witness6 (enc := enc) (C := Try.checked) false ⟨#[], #[.agg #[.int .i64 0, .int .i64 0], .agg #[.int .i64 0, .int .i64 0], .agg #[.int .i64 0, .int .i64 0]], []⟩ 8 (by kernel_rfl) (by kernel_rfl) (by kernel_rfl) (by kernel_rfl)) ?_
  intro W base args ds gs before hval0 hW hcnd _
  have hval : ∀ (j : Nat) t v, Try.f3.params[j]? = some t → args[j]? = some v → Value.okWide Try.prog W .any base t v := hval0
  have hW' := hW
  obtain ⟨p, q, hA0, hV, rfl, hfz, hnd⟩ := hW
  have hA : DataW.TrodAll enc Try.prog W 0 (fun _ => true) true Try.f3.params.toList args.toList ds p := hA0
  rw [Try.params3] at hA hval
  obtain ⟨v0, vs0, d0, ds0, p0, q0, hargs, rfl, rfl, h0, r0⟩ := trodAll_cons hA
  obtain ⟨v1, vs1, d1, ds1, p1, q1, rfl, rfl, rfl, h1, r1⟩ := trodAll_cons r0
  obtain ⟨v2, vs2, d2, ds2, p2, q2, rfl, rfl, rfl, h2, r2⟩ := trodAll_cons r1
  obtain ⟨rfl, rfl, rfl⟩ := trodAll_nil r2
  obtain rfl : args = #[v0, v1, v2] := by cases args; simp_all
  obtain ⟨rfl, rfl⟩ := trodVars_none hV
  have k0 := h0
  have lt0 : ∀ x ∈ p0, x.block < W.heap.size := by obtain ⟨m, hm⟩ := k0; exact DataW.trod_lt m _ _ _ hm
  obtain ⟨a0a, a0b, rfl, b0a, b0b⟩ := open_span (hval 0 23 v0 rfl rfl) h0
  have k1 := h1
  have lt1 : ∀ x ∈ p1, x.block < W.heap.size := by obtain ⟨m, hm⟩ := k1; exact DataW.trod_lt m _ _ _ hm
  obtain ⟨a1a, a1b, rfl, b1a, b1b⟩ := open_span (hval 1 23 v1 rfl rfl) h1
  have k2 := h2
  have lt2 : ∀ x ∈ p2, x.block < W.heap.size := by obtain ⟨m, hm⟩ := k2; exact DataW.trod_lt m _ _ _ hm
  obtain ⟨a2a, a2b, rfl, b2a, b2b⟩ := open_span (hval 2 23 v2 rfl rfl) h2
  clear hA0 hval0
  refine (walk a0a a0b a1a a1b a2a a2b W b0a b0b b1a b1b b2a b2b).mono fun e W' ⟨he, bel⟩ => ?_
  subst he
  exact ⟨_, rfl, _, _, _, [], _, [], hW', trodAll_mk1 (shut_bool Try.underlying4 _), (trodAll_cons_mk (Below.trod laid (by kernel_rfl) (of_decide_eq_true (by kernel_rfl)) k0 bel lt0) (trodAll_cons_mk (Below.trod laid (by kernel_rfl) (of_decide_eq_true (by kernel_rfl)) k1 bel lt1) (trodAll_cons_mk (Below.trod laid (by kernel_rfl) (of_decide_eq_true (by kernel_rfl)) k2 bel lt2) trodAll_mk0))), rfl, bel.frame _, fun h => by cases h⟩

theorem over : Rows.spanJoinsRow.holds Try.pinned (OpenSpec.ofChange Rows.spanJoinsSpec) :=
  OpenClaim.holds_of_wide 3 Try.f3 rfl rfl rfl rfl rfl rfl rfl ⟨rfl, rfl, rfl, rfl, rfl⟩ rfl rfl rfl rfl rfl (by kernel_rfl) Try.func3 (by kernel_rfl)
    (of_decide_eq_true (by kernel_rfl)) (by unfold Func.isWrapper; first | (rw [if_pos (by decide +kernel)]; kernel_rfl) | (rw [if_neg (by decide +kernel)]; exact ⟨rfl, rfl⟩))
    (fun os started H enc _ => lifted os started H enc)

/-- The statement. -/
theorem proved : Rows.SpanJoinsSaid :=
  over
#print axioms proved
end Go.Proofs.Ytancfhnhjfhbfab.spanJoins
