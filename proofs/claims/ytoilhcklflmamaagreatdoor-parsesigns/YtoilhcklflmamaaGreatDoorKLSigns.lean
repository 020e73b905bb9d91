/-
  For every byte the statement ParseSigns returns true, and its argument reads as it did; the lists of layers 4 and 5 are tied to the program's text; no conditions.
-/
import Derived.Test.YtoilhcklflmamaaGreatDoorKLawP
namespace Go.Proofs.YtoilhcklflmamaaGreatDoor.parseSigns
open Go.ChangeShapes Go.WideShapes Go.ChangeAt Go.RowKit
open Go.ChangeMaps (open_string shut_string)
open Pr
set_option linter.unusedVariables false

set_option maxRecDepth 100000 in
set_option maxHeartbeats 4000000 in
theorem walk (z : Int) (hz : (Lit.int .u8 z).wf = true) (w : World) (hL : LaidP w) :
    Calls Tryz.prog 4 #[.int .u8 z] w fun e w' => e = .returned (.bool true) ∧ Below w.heap.size w w' := by
  have HA := hideIt (awake_any w hL)
  have z0 : 0 ≤ z ∧ z ≤ 255 := by simpa [Lit.wf, IntKind.min, IntKind.max, IntKind.signed, IntKind.bits] using hz
  obtain ⟨k, rfl⟩ : ∃ k : Nat, z = k := ⟨z.toNat, by omega⟩
  have HL := hideIt hL
  clear hL hz
  have hkw : IntKind.i64.wrap (k : Int) = (k : Int) := by rw [IntKind.wrap_i64]; omega
  by_cases h18 : 18 < k
  · have C2 := hideIt (fun X => psigns_off k h18 (by omega) X)
    have C3 := hideIt (fun X => rsign_off (k : Int) (Or.inr (by omega)) X)
    have C4 := hideIt (fun X => rpower_off (k : Int) (Or.inr (by omega)) X)
    go_enter Tryz.func4, Tryz.ntmps4
    go_wp2_with (first | (go_at_call 8; refine Calls.mono HA.out ?_; rintro e x1 ⟨rfl, q1⟩; have Q1 := hideIt q1; clear q1) | (go_at_call 12; refine Calls.mono (C2.out _) ?_; rintro e x2 ⟨rfl, q2⟩; have Q2 := hideIt (Q1.out.trans q2); clear q2) | (go_at_call 13; refine Calls.mono (C3.out _) ?_; rintro e x3 ⟨rfl, q3⟩; have Q3 := hideIt (Q2.out.trans q3); clear q3) | (go_at_call 14; refine Calls.mono (C4.out _) ?_; rintro e x4 ⟨rfl, q4⟩; have Q4 := hideIt (Q3.out.trans q4); clear q4) | fail)
    go_ret
    exact ⟨rfl, Q4.out⟩
  · by_cases h0 : k = 0
    · subst h0
      have C2 := hideIt (fun X q => psigns_any 0 (by omega) X (HL.out.keep (w' := X) q))
      have e1 : bs (sgnT 0) = ⟨#[]⟩ := rfl
      have e2 : powT 0 = 0 := rfl
      rw [e1, e2] at C2
      have C3 := hideIt (fun X => rsign_off 0 (Or.inl (by omega)) X)
      have C4 := hideIt (fun X => rpower_off 0 (Or.inl (by omega)) X)
      clear e1 e2
      go_enter Tryz.func4, Tryz.ntmps4
      go_wp2_with (first | (go_at_call 8; refine Calls.mono HA.out ?_; rintro e x1 ⟨rfl, q1⟩; have Q1 := hideIt q1; clear q1) | (go_at_call 12; refine Calls.mono (C2.out _ Q1.out) ?_; rintro e x2 ⟨rfl, q2⟩; have Q2 := hideIt (Q1.out.trans q2); clear q2) | (go_at_call 13; refine Calls.mono (C3.out _) ?_; rintro e x3 ⟨rfl, q3⟩; have Q3 := hideIt (Q2.out.trans q3); clear q3) | (go_at_call 14; refine Calls.mono (C4.out _) ?_; rintro e x4 ⟨rfl, q4⟩; have Q4 := hideIt (Q3.out.trans q4); clear q4) | fail)
      go_ret
      exact ⟨rfl, Q4.out⟩
    · have C2 := hideIt (fun X q => psigns_any k (by omega) X (HL.out.keep (w' := X) q))
      have C3 := hideIt (fun X => rsign_any' k (by omega) (by omega) X)
      have C4 := hideIt (fun X => rpower_any k (by omega) (by omega) X)
      generalize bs (sgnT k) = sg at *
      generalize powT k = pw at *
      have b2 : ((pw : Int) == (pw : Int)) = true := by simp
      go_enter Tryz.func4, Tryz.ntmps4
      go_wp2_with (first | (go_at_call 8; refine Calls.mono HA.out ?_; rintro e x1 ⟨rfl, q1⟩; have Q1 := hideIt q1; clear q1) | (go_at_call 12; refine Calls.mono (C2.out _ Q1.out) ?_; rintro e x2 ⟨rfl, q2⟩; have Q2 := hideIt (Q1.out.trans q2); clear q2) | (go_at_call 13; refine Calls.mono (C3.out _) ?_; rintro e x3 ⟨rfl, q3⟩; have Q3 := hideIt (Q2.out.trans q3); clear q3) | (go_at_call 14; refine Calls.mono (C4.out _) ?_; rintro e x4 ⟨rfl, q4⟩; have Q4 := hideIt (Q3.out.trans q4); clear q4) | fail)
      go_ret
      exact ⟨rfl, Q4.out⟩

set_option maxRecDepth 100000 in
theorem lifted (os : Os) (started : os.Started) (H : Type) (enc : TypeId × Value → H) :
    ReturnsInHanded {} Tryz.checked os 4 .any (fun w args => (Rows.parseSignsSpec.pre enc Tryz.prog Tryz.f4 [] false w args ∧ laidMetH Tryz.prog laidBoth w) ∧ sizedMet enc Tryz.prog Tryz.f4 (OpenSpec.ofChange Rows.parseSignsSpec) false w args)
      (Rows.parseSignsSpec.post enc Tryz.prog Tryz.f4 false true false false) := by
  refine returnsInHanded_of_change_and (C := Tryz.checked) (X := fun w _ => laidMetH Tryz.prog laidBoth w) (fun _ _ _ hh h => h.of_heap hh) own started (by kernel_rfl) Tryz.func4
    (ChangeSpec.witness_shaped (enc := enc) (C := Tryz.checked) (os := os) (X := fun w _ => laidMetH Tryz.prog laidBoth w) false (World.doorLaid Tryz.prog 39 os) #[.int .u8 0] 8 rfl (World.shaped_of_RefB (by kernel_rfl) (by kernel_rfl)) (by kernel_rfl) (by kernel_rfl) (by kernel_rfl) (door_met os _)) ?_
  intro W base args ds gs before hval0 hW _ hz hL _
  have hval : ∀ (j : Nat) t v, Tryz.f4.params[j]? = some t → args[j]? = some v → Value.okWide Tryz.prog W .any base t v := hval0
  have hW' := hW
  obtain ⟨p, q, hA0, hV, rfl, hfz, hnd⟩ := hW
  have hA : DataW.TrodAll enc Tryz.prog W 0 (fun _ => true) true Tryz.f4.params.toList args.toList ds p := hA0
  rw [Tryz.params4] at hA hval
  obtain ⟨v0, vs0, d0, ds0, p0, q0, hargs, rfl, rfl, h0, r0⟩ := trodAll_cons hA
  obtain ⟨rfl, rfl, rfl⟩ := trodAll_nil r0
  obtain rfl : args = #[v0] := by cases args; simp_all
  obtain ⟨rfl, rfl⟩ := trodVars_none hV
  have k0 := h0
  have lt0 : ∀ x ∈ p0, x.block < W.heap.size := by obtain ⟨m, hm⟩ := k0; exact DataW.trod_lt m _ _ _ hm
  obtain ⟨z0, rfl, _, _, wz0⟩ := open_int Tryz.underlying5 (hval 0 5 v0 rfl rfl) h0
  clear hA0 hval0
  refine (walk z0 wz0 W (of_laid hL)).mono fun e W' ⟨he, bel⟩ => ?_
  subst he
  exact ⟨_, rfl, _, _, _, [], _, [], hW', trodAll_mk1 (shut_bool Tryz.underlying4 _), (trodAll_cons_mk (Below.trod laidOut (by kernel_rfl) (of_decide_eq_true (by kernel_rfl)) k0 bel lt0) trodAll_mk0), rfl, bel.frame _, fun h => by cases h⟩

theorem over : Rows.ParseSignsSaid :=
  OpenClaim.holds_of_wide 4 Tryz.f4 rfl rfl rfl rfl rfl rfl rfl ⟨rfl, rfl, rfl, rfl, rfl⟩ rfl rfl rfl rfl rfl (by kernel_rfl) Tryz.func4 (by kernel_rfl)
    (of_decide_eq_true (by kernel_rfl)) (by unfold Func.isWrapper; first | (rw [if_pos (by decide +kernel)]; kernel_rfl) | (rw [if_neg (by decide +kernel)]; exact ⟨rfl, rfl⟩))
    (fun os started H enc _ => lifted os started H enc)

/-- THE STATEMENT -/
theorem proved : Rows.ParseSignsCardSaid :=
  Claim7.holds_tied_plain_at .later [] [.data, .data, .data] true (true, "38633228dfd1c445e316daefc5f5830a192a963cd2d43c2fb39f69237d0f4085") true
    over (fun _ h => by cases h) (by kernel_rfl) (fun _ h => by cases h) parseSigns_row_tie rfl ⟨rfl, rfl⟩ (by kernel_rfl) rfl
    (fun f fn hf hfn => by
      obtain rfl : f = 4 := Option.some.inj ((show Tryz.prog.funcNamed "burin/burinlaw05.ParseSigns" = some 4 by kernel_rfl).symm.trans hf) |>.symm
      obtain rfl : fn = Tryz.f4 := (Option.some.inj (Tryz.func4.symm.trans hfn)).symm
      exact ⟨by kernel_rfl, fun j t ht => by
        rw [Tryz.params4] at ht
        have hm : t ∈ [5] := by simpa using Array.mem_of_getElem? ht
        have hall : ([5].all fun u => !Tryz.prog.wantsStandIn u) = true := by kernel_rfl
        exact (show Tryz.prog.wantsStandIn t = false by simpa using List.all_eq_true.1 hall t hm)⟩)
    (by kernel_rfl)
#print axioms proved
end Go.Proofs.YtoilhcklflmamaaGreatDoor.parseSigns
