/-
  For every number, address and value: a nil memory has no blocks and takes none (the law MemNil returns true); no conditions.
-/
import Derived.Test.YtahhbehpgolinaaRows
import Derived.Test.YtahhbehpgolinaaMeN
import Derived.ProofKit
import Derived.OpenShut
import Derived.ShutString
import Derived.ChangeOld
import Derived.Below
import Derived.ChangeSame
namespace Go.Proofs.Ytahhbehpgolinaa.memNil
open Go.ChangeShapes Go.WideShapes Go.ChangeAt Go.RowKit Me
set_option linter.unusedVariables false

theorem laidOut : laidOutB Try.prog = true := by kernel_rfl
theorem own : ownKnob Try.prog.godebug = none := by kernel_rfl

set_option maxRecDepth 100000 in
set_option maxHeartbeats 1000000 in
theorem walk (n a b v : Int) (w : World) : Calls Try.prog 5 #[.int .i64 n, .agg #[.int .i64 a, .int .i64 b], .int .i64 v] w fun e w' => e = .returned (.bool true) ∧ Below w.heap.size w w' := by
  have HC := hideIt (show ∀ x1, Below (w.alloc (.cells #[.int .i64 a, .int .i64 b] 31)).heap.size (w.alloc (.cells #[.int .i64 a, .int .i64 b] 31)) x1 → x1.cell? ⟨w.heap.size, 0, none⟩ = some (.int .i64 a) ∧ x1.cell? ⟨w.heap.size, 1, none⟩ = some (.int .i64 b) from fun x1 hx => by
    refine ⟨?_, ?_⟩
    · rw [hx.cell (p := ⟨w.heap.size, 0, none⟩) (by simp)]
      exact cell_new rfl _ _ 0
    · rw [hx.cell (p := ⟨w.heap.size, 1, none⟩) (by simp)]
      exact cell_new rfl _ _ 1)
  go_enter Try.func5, Try.ntmps5
  go_wp2_with (first
    | (go_at_call 10; refine (alloc_nil _ n).mono ?_; rintro e x1 ⟨rfl, rfl⟩)
    | (go_at_call 14; refine (load_nil _ a b).mono ?_; rintro e x2 ⟨rfl, hb⟩; have B2 := hideIt hb; obtain ⟨k1, k2⟩ := HC.out _ hb; clear hb)
    | (go_at_call 8; refine (awake_any _).mono ?_; rintro e x3 ⟨rfl, hb⟩; have B3 := hideIt (B2.out.trans (hb.mono B2.out.size)); (try clear k1 k2); obtain ⟨k1, k2⟩ := HC.out _ B3.out; clear hb)
    | (go_at_call 12; refine (keep_nilp _ n).mono ?_; rintro e x4 ⟨rfl, rfl⟩)
    | (go_at_call 16; refine (store_nil _ a b v).mono ?_; rintro e x5 ⟨rfl, hb⟩; have B4 := hideIt (B3.out.trans (hb.mono B3.out.size)); clear hb)
    | (go_at_call 17; refine (blocks_nil _).mono ?_; rintro e x6 ⟨rfl, rfl⟩)
    | (go_at_call 18; refine (total_nil _).mono ?_; rintro e x7 ⟨rfl, rfl⟩)
    | fail)
  go_ret
  refine ⟨rfl, ?_⟩
  exact ((Below.refl w.heap.size w).alloc (Nat.le_refl _) _).trans (B4.out.mono (by simp))

set_option maxRecDepth 100000 in
set_option maxHeartbeats 400000 in
theorem lifted (os : Os) (started : os.Started) (H : Type) (enc : TypeId × Value → H) :
    ReturnsInHanded {} Try.checked os 5 .any (Rows.memNilSpec.pre6 enc Try.prog Try.f5 Rows.memNilRow.domain false) (Rows.memNilSpec.post enc Try.prog Try.f5 false true false false) := by
  refine returnsInHanded_of_change (C := Try.checked) own started (by kernel_rfl) Try.func5
    (ChangeSpec.witness6 (enc := enc) (C := Try.checked) false ⟨#[], #[.int .i64 0, .agg #[.int .i64 0, .int .i64 0], .int .i64 0], []⟩ 8 (by kernel_rfl) (by kernel_rfl) (by kernel_rfl) (by kernel_rfl)) ?_
  intro W base args ds gs before hval0 hW hcnd _
  have hval : ∀ (j : Nat) t v, Try.f5.params[j]? = some t → args[j]? = some v → Value.okWide Try.prog W .any base t v := hval0
  have hW' := hW
  obtain ⟨p, q, hA0, hV, rfl, hfz, hnd⟩ := hW
  have hA : DataW.TrodAll enc Try.prog W 0 (fun _ => true) true Try.f5.params.toList args.toList ds p := hA0
  rw [Try.params5] at hA hval
  obtain ⟨v0, vs0, d0, ds0, p0, q0, hargs, rfl, rfl, h0, r0⟩ := trodAll_cons hA
  obtain ⟨v1, vs1, d1, ds1, p1, q1, rfl, rfl, rfl, h1, r1⟩ := trodAll_cons r0
  obtain ⟨v2, vs2, d2, ds2, p2, q2, rfl, rfl, rfl, h2, r2⟩ := trodAll_cons r1
  obtain ⟨rfl, rfl, rfl⟩ := trodAll_nil r2
  obtain rfl : args = #[v0, v1, v2] := by cases args; simp_all
  obtain ⟨rfl, rfl⟩ := trodVars_none hV
  obtain ⟨a0, rfl, rfl, rfl, w0⟩ := open_int Try.underlying3 (hval 0 3 v0 rfl rfl) h0
  have k1 := h1
  have lt1 : ∀ x ∈ p1, x.block < W.heap.size := by obtain ⟨m, hm⟩ := k1; exact DataW.trod_lt m _ _ _ hm
  obtain ⟨a1, b1, rfl, -, -⟩ := open31 (hval 1 31 v1 rfl rfl) h1
  obtain ⟨a2, rfl, rfl, rfl, w2⟩ := open_int Try.underlying2 (hval 2 2 v2 rfl rfl) h2
  clear hA0 hval0
  refine (walk a0 a1 b1 a2 W).mono fun e W' ⟨he, bel⟩ => ?_
  subst he
  exact ⟨_, rfl, _, _, _, [], _, [], hW', trodAll_mk1 (shut_bool Try.underlying4 _), (trodAll_cons_mk (shut_int Try.underlying3 w0) (trodAll_cons_mk (Below.trod laidOut (by kernel_rfl) (of_decide_eq_true (by kernel_rfl)) k1 bel lt1) (trodAll_cons_mk (shut_int Try.underlying2 w2) trodAll_mk0))), rfl, bel.frame _, fun h => by cases h⟩

theorem over : Rows.memNilRow.holds Try.pinned (OpenSpec.ofChange Rows.memNilSpec) :=
  OpenClaim.holds_of_wide 5 Try.f5 rfl rfl rfl rfl rfl rfl rfl ⟨rfl, rfl, rfl, rfl, rfl⟩ rfl rfl rfl rfl rfl (by kernel_rfl) Try.func5 (by kernel_rfl)
    (of_decide_eq_true (by kernel_rfl)) (by unfold Func.isWrapper; first | (rw [if_pos (by decide +kernel)]; kernel_rfl) | (rw [if_neg (by decide +kernel)]; exact ⟨rfl, rfl⟩))
    (fun os started H enc _ => lifted os started H enc)

/-- The statement. -/
theorem proved : Rows.MemNilSaid :=
  over
#print axioms proved
end Go.Proofs.Ytahhbehpgolinaa.memNil
