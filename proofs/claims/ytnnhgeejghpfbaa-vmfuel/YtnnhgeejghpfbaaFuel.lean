/-
  For every program and fuel the statement VmFuel returns true, and its arguments read as they did; no conditions.
-/
import Derived.Test.YtnnhgeejghpfbaaRows
import Derived.WalkKit
import Derived.ProofKit
import Derived.OpenShut
import Derived.ShutString
import Derived.ChangeOld
import Derived.Below
import Derived.SizedLaws
import Derived.Test.YtnnhgeejghpfbaaVmZa
namespace Go.Proofs.Ytnnhgeejghpfbaa.vmFuel
open Go.ChangeShapes Go.WideShapes Go.ChangeAt Go.RowKit
set_option linter.unusedVariables false

theorem own : ownKnob Try.prog.godebug = none := by kernel_rfl
theorem laidOut : laidOutB Try.prog = true := by kernel_rfl

set_option maxRecDepth 100000 in
set_option maxHeartbeats 4000000 in
theorem walk (c : PIm) (n : Int) (w : World) (hcok : c.ok w) (hn : I64 n) : Calls Try.prog 4 #[c.v, .int .i64 n] w fun e w' => e = .returned (.bool true) ∧ Below w.heap.size w w' := by
  have HB : Hid (∀ X, Q (bxI w c) X → X.cell? ⟨w.heap.size, 0, none⟩ = some (.slice c.wa c.ws.length c.wc) ∧ X.cell? ⟨w.heap.size, 1, none⟩ = some (.slice c.sa c.st.length c.sc) ∧ X.cell? ⟨w.heap.size, 2, none⟩ = some (.slice c.fa c.fr.length c.fc) ∧ X.cell? ⟨w.heap.size, 3, none⟩ = some (.slice c.ea c.da.length c.ec)) := fun X h => bxI_at h
  have qB : Hid (Q w (bxI w c)) := (Q.refl w).alloc _
  have CA : Hid (∀ X, Calls Try.prog 8 #[] X fun e w' => e = .returned (.bool true) ∧ Q X w') := fun X => awake_any X
  have CS : Hid (∀ X, Calls Try.prog 11 #[zeroO, zeroO] X fun e w' => e = .returned (.bool true) ∧ Q X w') := fun X => same_zero X
  have CF : Hid ((n < 0 ∨ 8388608 < n) → ∀ X, Calls Try.prog 9 #[c.v, .int .i64 n] X fun e w' => e = .returned (.tuple #[zeroO, .int .i64 1]) ∧ Q X w') := fun h X => run_fuel X c n h
  generalize hBB : bxI w c = B at *
  have HBB := hideIt hBB
  clear hcok hBB hn
  by_cases h0 : n < 0
  · have CR := hideIt (CF.out (Or.inl h0))
    have d0 : decide (0 ≤ n) = false := by simp; omega
    clear h0 CF
    go_enter Try.func4, Try.ntmps4
    go_wp2_with (fail)
    rw [show w.alloc (.cells #[.slice c.wa c.ws.length c.wc, .slice c.sa c.st.length c.sc, .slice c.fa c.fr.length c.fc, .slice c.ea c.da.length c.ec] 26) = B from HBB.out]
    go_wp2_with (first
      | (go_at_call 8; refine (CA.out _).mono ?_; rintro e x ⟨rfl, q1⟩; have HQ1 := hideIt q1; obtain ⟨s1, s2, s3, s4⟩ := HB.out x q1; clear q1)
      | (go_at_call 9; refine (CR.out _).mono ?_; rintro e y ⟨rfl, q2⟩; have HQ2 := hideIt (HQ1.out.trans q2); clear q2 s1 s2 s3 s4)
      | (go_at_call 11; refine (CS.out _).mono ?_; rintro e z ⟨rfl, q3⟩; have HQ3 := hideIt ((HQ2.out.alloc _).trans q3); clear q3)
      | fail)
    go_ret
    exact ⟨rfl, qB.out.trans HQ3.out⟩
  by_cases h1 : 8388608 < n
  · have CR := hideIt (CF.out (Or.inr h1))
    have d0 : decide (0 ≤ n) = true := by simp; omega
    have d1 : decide (n ≤ 8388608) = false := by simp; omega
    clear h1
    clear h0 CF
    go_enter Try.func4, Try.ntmps4
    go_wp2_with (fail)
    rw [show w.alloc (.cells #[.slice c.wa c.ws.length c.wc, .slice c.sa c.st.length c.sc, .slice c.fa c.fr.length c.fc, .slice c.ea c.da.length c.ec] 26) = B from HBB.out]
    go_wp2_with (first
      | (go_at_call 8; refine (CA.out _).mono ?_; rintro e x ⟨rfl, q1⟩; have HQ1 := hideIt q1; obtain ⟨s1, s2, s3, s4⟩ := HB.out x q1; clear q1)
      | (go_at_call 9; refine (CR.out _).mono ?_; rintro e y ⟨rfl, q2⟩; have HQ2 := hideIt (HQ1.out.trans q2); clear q2 s1 s2 s3 s4)
      | (go_at_call 11; refine (CS.out _).mono ?_; rintro e z ⟨rfl, q3⟩; have HQ3 := hideIt ((HQ2.out.alloc _).trans q3); clear q3)
      | fail)
    go_ret
    exact ⟨rfl, qB.out.trans HQ3.out⟩
  · have d0 : decide (0 ≤ n) = true := by simp; omega
    have d1 : decide (n ≤ 8388608) = true := by simp; omega
    clear h0 h1 CF CS
    go_enter Try.func4, Try.ntmps4
    go_wp2_with (fail)
    rw [show w.alloc (.cells #[.slice c.wa c.ws.length c.wc, .slice c.sa c.st.length c.sc, .slice c.fa c.fr.length c.fc, .slice c.ea c.da.length c.ec] 26) = B from HBB.out]
    go_wp2_with (first
      | (go_at_call 8; refine (CA.out _).mono ?_; rintro e x ⟨rfl, q1⟩; (first | (have HQ2 := hideIt (HQ1.out.trans q1)) | (have HQ1 := hideIt q1)); clear q1)
      | fail)
    go_ret
    exact ⟨rfl, qB.out.trans HQ2.out⟩

/-! ### THE ROW's STEP -/
set_option maxRecDepth 100000 in
theorem lifted (os : Os) (started : os.Started) (H : Type) (enc : TypeId × Value → H) :
    ReturnsInHanded {} Try.checked os 4 .any (Rows.vmFuelSpec.pre6 enc Try.prog Try.f4 Rows.vmFuelRow.domain false) (Rows.vmFuelSpec.post enc Try.prog Try.f4 false true false false) := by
  refine returnsInHanded_of_change_sized (C := Try.checked) own started (by kernel_rfl) Try.func4
    (ChangeSpec.witness6 (enc := enc) (C := Try.checked) false ⟨#[], #[.agg #[.slice none 0 0, .slice none 0 0, .slice none 0 0, .slice none 0 0], .int .i64 0], []⟩ 8 (by kernel_rfl) (by kernel_rfl) (by kernel_rfl) (by kernel_rfl)) ?_
  intro W base args ds gs before hval0 hW hcnd hsz0 _
  have hW' := hW
  obtain ⟨p, q, hA0, hV, rfl, hfz, hnd⟩ := hW
  have hA : DataW.TrodAll enc Try.prog W 0 (fun _ => true) true Try.f4.params.toList args.toList ds p := hA0
  have hsz : (DataW.weightsEach Try.prog (Try.f4.params.toList ++ Rows.vmFuelSpec.plain.varTypes Try.prog) (ds ++ gs)).all (· ≤ reachBytes) = true := hsz0
  have hval : ∀ (j : Nat) t v, Try.f4.params[j]? = some t → args[j]? = some v → Value.okWide Try.prog W .any base t v := hval0
  rw [Try.params4] at hA hsz hval
  obtain ⟨v0, vs0, d0, ds0, p0, q0, hargs0, rfl, rfl, h0, r0⟩ := trodAll_cons hA
  obtain ⟨v1, vs1, d1, ds1, p1, q1, hargs1, rfl, rfl, h1, r1⟩ := trodAll_cons r0
  obtain ⟨hnil, rfl, rfl⟩ := trodAll_nil r1
  obtain rfl : args = #[v0, v1] := by cases args; simp_all
  obtain ⟨rfl, rfl⟩ := trodVars_none hV
  have k0 := h0
  have lt0 : ∀ x ∈ p0, x.block < W.heap.size := by obtain ⟨m, hm⟩ := k0; exact DataW.trod_lt m _ _ _ hm
  have l0 : Light 26 d0 := fun n hn => by have := List.all_eq_true.1 hsz n (DataW.weights_mem_each (j := 0) (t := 26) (d := d0) rfl rfl n hn); simpa using this
  obtain ⟨x0, rfl, hx0⟩ := open_arg_image h0 l0
  have k1 := h1
  have lt1 : ∀ x ∈ p1, x.block < W.heap.size := by obtain ⟨m, hm⟩ := k1; exact DataW.trod_lt m _ _ _ hm
  obtain ⟨x1, rfl, rfl, rfl, w1⟩ := open_int Try.underlying3 (hval 1 3 v1 rfl rfl) h1
  have hx1 := wf64 w1
  clear hA0 hval0 hval hsz hsz0
  refine (walk x0 x1 W hx0 hx1).mono fun e W' ⟨he, bel⟩ => ?_
  subst he
  exact ⟨_, rfl, _, _, _, [], _, [], hW', trodAll_mk1 (shut_bool Try.underlying4 _), (trodAll_cons_mk (Below.trod laidOut (by kernel_rfl) (of_decide_eq_true (by kernel_rfl)) k0 bel lt0) (trodAll_cons_mk (Below.trod laidOut (by kernel_rfl) (of_decide_eq_true (by kernel_rfl)) k1 bel lt1) trodAll_mk0)), rfl, bel.frame _, fun h => by cases h⟩

theorem over : Rows.vmFuelRow.holds Try.pinned (OpenSpec.ofChange Rows.vmFuelSpec) :=
  OpenClaim.holds_of_wide 4 Try.f4 rfl rfl rfl rfl rfl rfl rfl ⟨rfl, rfl, rfl, rfl, rfl⟩ rfl rfl rfl rfl rfl (by kernel_rfl) Try.func4 (by kernel_rfl)
    (of_decide_eq_true (by kernel_rfl)) (by unfold Func.isWrapper; first | (rw [if_pos (by decide +kernel)]; kernel_rfl) | (rw [if_neg (by decide +kernel)]; exact ⟨rfl, rfl⟩))
    (fun os started H enc _ => lifted os started H enc)

/-- THE STATEMENT -/
theorem proved : Rows.VmFuelSaid := over
#print axioms proved
end Go.Proofs.Ytnnhgeejghpfbaa.vmFuel
