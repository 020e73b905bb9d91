/-
  For every text the statement LexNames returns true, and its argument reads as it did; the two lists of layer 4 are tied to the program's text; no conditions.
-/
import Derived.Test.YtkjkobiliinneaaDoorLaw
namespace Go.Proofs.YtkjkobiliinneaaDoor.lexNames
open Go.ChangeShapes Go.WideShapes Go.ChangeAt Go.RowKit
open Go.ChangeMaps (open_string shut_string)
set_option linter.unusedVariables false

set_option maxRecDepth 100000 in
set_option maxHeartbeats 1000000 in
theorem walk (s : ByteArray) (hs : s.size ≤ maxLen) (w : World) (hL : Laid w) :
    Calls Tryd.prog 4 #[.string s] w fun e w' => e = .returned (.bool true) ∧ Below w.heap.size w w' := by
  unfold maxLen at hs
  have HA := hideIt (awake_any w hL)
  have HI : Hid (∀ x, Q w x → Calls Tryd.prog 12 #[.string s] x fun e w' => e = .returned (.tuple #[.int .u8 (intV (bl s)), .bool (intB (bl s))]) ∧ w' = x) := fun x q => int_any s x (hL.keep q)
  have HRI := hideIt (fun x => rint_any s x)
  have HW : Hid (∀ x, Q w x → Calls Tryd.prog 14 #[.string s] x fun e w' => e = .returned (.bool (Lx.wordB (bl s))) ∧ w' = x) := fun x q => word_any s x (hL.keep q)
  have HRW := hideIt (fun x => rword_any s x)
  have HN : Hid (∀ x, Q w x → Calls Tryd.prog 16 #[.string s] x fun e w' => e = .returned (.bool (Lx.nameB (bl s))) ∧ w' = x) := fun x q => name_any s x (by omega) (hL.keep q)
  have HRN := hideIt (fun x => rname_any s x (by omega))
  have hit := intT_le (bl s)
  unfold intV intB at HI
  unfold rintV at HRI
  generalize Lx.intT (bl s) = t at *
  generalize Lx.wordB (bl s) = wd at *
  generalize Lx.nameB (bl s) = nm at *
  have b1 : (wd == wd) = true := by simp
  have b2 : (nm == nm) = true := by simp
  by_cases ht : t < 6
  · rw [if_pos ht] at HI HRI
    rw [decide_eq_true ht] at HI
    have b3 : decide ((0 : Int) ≤ (t : Int)) = true := by simp
    have b4 : ((t : Int) == (t : Int)) = true := by simp
    have hb : (t : Int) ≤ 5 := by omega
    clear hL
    go_enter Tryd.func4, Tryd.ntmps4
    go_wp2_with (first | (go_at_call 8; refine HA.out.mono ?_; rintro e x1 ⟨rfl, q1⟩; have Q1 := hideIt q1; clear q1) | (go_at_call 12; refine (HI.out _ Q1.out).mono ?_; rintro e x2 ⟨rfl, rfl⟩) | (go_at_call 13; refine (HRI.out _).mono ?_; rintro e x3 ⟨rfl, q3⟩; have Q3 := hideIt (Q1.out.trans q3); clear q3) | (go_at_call 14; refine (HW.out _ Q3.out).mono ?_; rintro e x4 ⟨rfl, rfl⟩) | (go_at_call 15; refine (HRW.out _).mono ?_; rintro e x5 ⟨rfl, q5⟩; have Q5 := hideIt (Q3.out.trans q5); clear q5) | (go_at_call 16; refine (HN.out _ Q5.out).mono ?_; rintro e x6 ⟨rfl, rfl⟩) | (go_at_call 17; refine (HRN.out _).mono ?_; rintro e x7 ⟨rfl, q7⟩; have Q7 := hideIt (Q5.out.trans q7); clear q7) | fail)
    go_ret
    exact ⟨rfl, Q7.out⟩
  · rw [if_neg ht] at HI HRI
    rw [decide_eq_false ht] at HI
    clear hL
    go_enter Tryd.func4, Tryd.ntmps4
    go_wp2_with (first | (go_at_call 8; refine HA.out.mono ?_; rintro e x1 ⟨rfl, q1⟩; have Q1 := hideIt q1; clear q1) | (go_at_call 12; refine (HI.out _ Q1.out).mono ?_; rintro e x2 ⟨rfl, rfl⟩) | (go_at_call 13; refine (HRI.out _).mono ?_; rintro e x3 ⟨rfl, q3⟩; have Q3 := hideIt (Q1.out.trans q3); clear q3) | (go_at_call 14; refine (HW.out _ Q3.out).mono ?_; rintro e x4 ⟨rfl, rfl⟩) | (go_at_call 15; refine (HRW.out _).mono ?_; rintro e x5 ⟨rfl, q5⟩; have Q5 := hideIt (Q3.out.trans q5); clear q5) | (go_at_call 16; refine (HN.out _ Q5.out).mono ?_; rintro e x6 ⟨rfl, rfl⟩) | (go_at_call 17; refine (HRN.out _).mono ?_; rintro e x7 ⟨rfl, q7⟩; have Q7 := hideIt (Q5.out.trans q7); clear q7) | fail)
    go_ret
    exact ⟨rfl, Q7.out⟩

set_option maxRecDepth 100000 in
theorem lifted (os : Os) (started : os.Started) (H : Type) (enc : TypeId × Value → H) :
    ReturnsInHanded {} Tryd.checked os 4 .any (fun w args => (Rows.lexNamesSpec.pre enc Tryd.prog Tryd.f4 [] false w args ∧ laidMetH Tryd.prog laidBoth w) ∧ sizedMet enc Tryd.prog Tryd.f4 (OpenSpec.ofChange Rows.lexNamesSpec) false w args)
      (Rows.lexNamesSpec.post enc Tryd.prog Tryd.f4 false true false false) := by
  refine returnsInHanded_of_change_and (C := Tryd.checked) (X := fun w _ => laidMetH Tryd.prog laidBoth w) (fun _ _ _ hh h => h.of_heap hh) own started (by kernel_rfl) Tryd.func4
    (ChangeSpec.witness_shaped (enc := enc) (C := Tryd.checked) (os := os) (X := fun w _ => laidMetH Tryd.prog laidBoth w) false (World.doorLaid Tryd.prog 19 os) #[.string ⟨#[]⟩] 8 rfl (World.shaped_of_RefB (by kernel_rfl) (by kernel_rfl)) (by kernel_rfl) (by kernel_rfl) (by kernel_rfl) (door_met os _)) ?_
  intro W base args ds gs before hval0 hW _ _ hL _
  have hval : ∀ (j : Nat) t v, Tryd.f4.params[j]? = some t → args[j]? = some v → Value.okWide Tryd.prog W .any base t v := hval0
  have hW' := hW
  obtain ⟨p, q, hA0, hV, rfl, hfz, hnd⟩ := hW
  have hA : DataW.TrodAll enc Tryd.prog W 0 (fun _ => true) true Tryd.f4.params.toList args.toList ds p := hA0
  rw [Tryd.params4] at hA hval
  obtain ⟨v0, vs0, d0, ds0, p0, q0, hargs, rfl, rfl, h0, r0⟩ := trodAll_cons hA
  obtain ⟨rfl, rfl, rfl⟩ := trodAll_nil r0
  obtain rfl : args = #[v0] := by cases args; simp_all
  obtain ⟨rfl, rfl⟩ := trodVars_none hV
  have k0 := h0
  have lt0 : ∀ x ∈ p0, x.block < W.heap.size := by obtain ⟨m, hm⟩ := k0; exact DataW.trod_lt m _ _ _ hm
  obtain ⟨s0, rfl, _, _, ws0⟩ := open_string Tryd.underlying9 (hval 0 9 v0 rfl rfl) h0
  clear hA0 hval0
  refine (walk s0 ws0 W (of_laid hL)).mono fun e W' ⟨he, bel⟩ => ?_
  subst he
  exact ⟨_, rfl, _, _, _, [], _, [], hW', trodAll_mk1 (shut_bool Tryd.underlying4 _), (trodAll_cons_mk (Below.trod laidOut (by kernel_rfl) (of_decide_eq_true (by kernel_rfl)) k0 bel lt0) trodAll_mk0), rfl, bel.frame _, fun h => by cases h⟩

theorem over : Rows.LexNamesSaid :=
  OpenClaim.holds_of_wide 4 Tryd.f4 rfl rfl rfl rfl rfl rfl rfl ⟨rfl, rfl, rfl, rfl, rfl⟩ rfl rfl rfl rfl rfl (by kernel_rfl) Tryd.func4 (by kernel_rfl)
    (of_decide_eq_true (by kernel_rfl)) (by unfold Func.isWrapper; first | (rw [if_pos (by decide +kernel)]; kernel_rfl) | (rw [if_neg (by decide +kernel)]; exact ⟨rfl, rfl⟩))
    (fun os started H enc _ => lifted os started H enc)

/-- THE STATEMENT -/
theorem proved : Rows.LexNamesCardSaid :=
  Claim7.holds_tied_plain_at .later [] [.data, .data] true (true, "7edcfb5183f7a76e7813729b5af2413060b9d536d70ba5983f0e804409762c21") false
    over (fun _ h => by cases h) (by kernel_rfl) (fun _ h => by cases h) lexNames_row_tie rfl ⟨rfl, rfl⟩ (by kernel_rfl) rfl
    (fun f fn hf hfn => by
      obtain rfl : f = 4 := Option.some.inj ((show Tryd.prog.funcNamed "burin/burinlaw04.LexNames" = some 4 by kernel_rfl).symm.trans hf) |>.symm
      obtain rfl : fn = Tryd.f4 := (Option.some.inj (Tryd.func4.symm.trans hfn)).symm
      exact ⟨by kernel_rfl, fun j t ht => by
        rw [Tryd.params4] at ht
        have hm : t ∈ [9] := by simpa using Array.mem_of_getElem? ht
        have hall : ([9].all fun u => !Tryd.prog.wantsStandIn u) = true := by kernel_rfl
        exact (show Tryd.prog.wantsStandIn t = false by simpa using List.all_eq_true.1 hall t hm)⟩)
    (by kernel_rfl)
#print axioms proved
end Go.Proofs.YtkjkobiliinneaaDoor.lexNames
