/-
  What the document's Name, the types' spans, and the library's functions on prefixes return: contracts over the program; no conditions but lengths that fit.
-/
import Derived.Test.YtkjkobiliinneaaDoorBaseB
import Derived.Lib.Bytealg
namespace Go.Proofs.YtkjkobiliinneaaDoor
open Go.RowKit
set_option linter.unusedVariables false

theorem nonempty_toList {s : ByteArray} (h : 0 < s.size) : s.toList.isEmpty = false := by
  rw [Lib.toList_data, List.isEmpty_eq_false_iff]
  intro e
  have := Lib.size_eq s
  rw [e] at this
  exact absurd (show s.size = 0 from this) (by omega)

set_option maxHeartbeats 400000 in
theorem rname_any (s : ByteArray) (w : World) (hs : s.size ≤ 9223372036854775807) :
    Calls Tryd.prog 17 #[.string s] w fun e w' => e = .returned (.bool (Lx.nameB (bl s))) ∧ Q w w' := by
  by_cases h0 : s.size = 0
  · have e : bl s = [] := List.eq_nil_of_length_eq_zero (by rw [bl_len]; exact h0)
    have hd : ((s.size : Int) == 0) = true := beq_iff_eq.2 (by omega)
    rw [e]
    go_enter Tryd.func17, Tryd.ntmps17
    go_wp2_with (fail)
    go_ret
    exact ⟨rfl, Q.refl _⟩
  have hd0 : ((s.size : Int) == 0) = false := beq_eq_false_iff_ne.2 (by omega)
  by_cases h8 : s.size ≤ 8
  · have hd8 : decide ((8 : Int) < (s.size : Int)) = false := by simp; omega
    have HW := hideIt (rword_any s w)
    have hne : 0 < s.size := by omega
    have HL := hideIt (fun w => rletter_any s[0] w)
    have eb : Lx.begins (bl s) = Lx.letter s[0] := by
      have := bl_at s 0 hne
      simp only [List.drop_zero] at this
      rw [this]
      rfl
    have en : Lx.nameB (bl s) = (Lx.letter s[0] && decide (Lx.runN (bl s) = s.size) && !Lx.wordB (bl s)) := by
      unfold Lx.nameB
      rw [bl_len, decide_eq_true h8, eb, Bool.true_and]
    rw [en]
    clear en eb
    generalize Lx.wordB (bl s) = wd at HW ⊢
    generalize Lx.letter s[0] = b at HL ⊢
    have hz : (0 : Int) < (s.size : Int) := by omega
    cases wd with
    | true =>
      rw [show (b && decide (Lx.runN (bl s) = s.size) && !true) = false by simp]
      go_enter Tryd.func17, Tryd.ntmps17
      go_wp2_with (go_at_call 15; refine HW.out.mono ?_; rintro e x ⟨rfl, q⟩)
      go_ret
      exact ⟨rfl, q⟩
    | false =>
      cases b with
      | false =>
        rw [show (false && decide (Lx.runN (bl s) = s.size) && !false) = false by simp]
        go_enter Tryd.func17, Tryd.ntmps17
        go_wp2_with (first | (go_at_call 15; refine HW.out.mono ?_; rintro e x ⟨rfl, q⟩) | (go_at_call 24; refine (HL.out _).mono ?_; rintro e w' ⟨rfl, rfl⟩))
        go_ret
        exact ⟨rfl, q⟩
      | true =>
        rw [show (true && decide (Lx.runN (bl s) = s.size) && !false) = decide (Lx.runN (bl s) = s.size) by simp]
        go_enter Tryd.func17, Tryd.ntmps17
        go_wp2_with (first | (go_at_call 15; refine HW.out.mono ?_; rintro e x ⟨rfl, q⟩; have HQ := hideIt q; clear q) | (go_at_call 24; refine (HL.out _).mono ?_; rintro e w' ⟨rfl, rfl⟩))
        clear HW HL
        rename_i x _
        go_loop [3] (fun i => ∃ k : Nat, k ≤ s.size ∧ i = .int .i64 k ∧ Hid (Lx.runN (bl s) = k + Lx.runN ((bl s).drop k))) (fun i => s.size - (intOf i).toNat)
        case atStart => exact ⟨0, Nat.zero_le _, rfl, hideIt (by simp)⟩
        case round =>
          obtain ⟨k, hk, rfl, HR⟩ := hrel
          by_cases hlt : k < s.size
          · have HA := hideIt (bl_at s k hlt)
            have hki : (k : Int) < (s.size : Int) := by omega
            have HL := hideIt (fun w => rletter_any s[k] w)
            have HD := hideIt (fun w => rdigit_any s[k] w)
            have HN : Lx.alnum s[k] = true → Hid (Lx.runN (bl s) = k + 1 + Lx.runN ((bl s).drop (k + 1))) := by
              intro h
              have := HR.out
              rw [HA.out, runN_yes _ h] at this
              show _ = _
              omega
            have HM : Lx.alnum s[k] = false → Hid (decide (Lx.runN (bl s) = s.size) = false) := by
              intro h
              have := HR.out
              rw [HA.out, runN_no _ h] at this
              show _ = _
              simp
              omega
            have ea : Lx.alnum s[k] = (Lx.letter s[k] || Lx.digit s[k]) := rfl
            rw [ea] at HN HM
            clear HR HA ea
            generalize Lx.letter s[k] = b1 at HL HN HM
            generalize Lx.digit s[k] = b2 at HD HN HM
            cases b1 with
            | true =>
              have HX := HN rfl
              clear HN HM
              go_wp2_with (first | (go_at_call 24; refine (HL.out _).mono ?_; rintro e w' ⟨rfl, rfl⟩) | (go_at_call 22; refine (HD.out _).mono ?_; rintro e w' ⟨rfl, rfl⟩))
              go_round
              case rel => exact ⟨k + 1, by omega, by go_num, HX⟩
              case measure => simp [intOf]; omega
            | false =>
              cases b2 with
              | true =>
                have HX := HN rfl
                clear HN HM
                go_wp2_with (first | (go_at_call 24; refine (HL.out _).mono ?_; rintro e w' ⟨rfl, rfl⟩) | (go_at_call 22; refine (HD.out _).mono ?_; rintro e w' ⟨rfl, rfl⟩))
                go_round
                case rel => exact ⟨k + 1, by omega, by go_num, HX⟩
                case measure => simp [intOf]; omega
              | false =>
                have HX := HM rfl
                clear HN HM
                go_wp2_with (first | (go_at_call 24; refine (HL.out _).mono ?_; rintro e w' ⟨rfl, rfl⟩) | (go_at_call 22; refine (HD.out _).mono ?_; rintro e w' ⟨rfl, rfl⟩))
                go_ret
                rw [HX.out]
                exact ⟨rfl, HQ.out⟩
          · have e : k = s.size := by omega
            subst e
            have HN : Hid (decide (Lx.runN (bl s) = s.size) = true) := by
              have := HR.out
              rw [drop_all] at this
              show _ = _
              simp
              exact this
            clear HR
            go_wp2_with (fail)
            go_ret
            rw [HN.out]
            exact ⟨rfl, HQ.out⟩
  · have hd8 : decide ((8 : Int) < (s.size : Int)) = true := by simp; omega
    have en : Lx.nameB (bl s) = false := by
      unfold Lx.nameB
      rw [bl_len, decide_eq_false h8]
      rfl
    rw [en]
    clear en
    go_enter Tryd.func17, Tryd.ntmps17
    go_wp2_with (fail)
    go_ret
    exact ⟨rfl, Q.refl _⟩

theorem six {t : Nat} (h : t < 6) : t = 0 ∨ t = 1 ∨ t = 2 ∨ t = 3 ∨ t = 4 ∨ t = 5 := by omega
theorem fits_and (t : Nat) (v : Int) (ht : t < 6) : Lx.fits t v = (decide (Lx.lo t ≤ v) && decide (v ≤ Lx.hi t)) := by
  unfold Lx.fits; rw [decide_eq_true ht, Bool.true_and]
set_option maxHeartbeats 400000 in
theorem span_any (t : Nat) (w : World) (ht : t < 6) :
    Calls Tryd.prog 42 #[.int .u8 (t : Int)] w fun e w' => e = .returned (.agg #[.int .i64 (Lx.lo t), .int .i64 (Lx.hi t)]) ∧ Q w w' := by
  rcases six ht with rfl | rfl | rfl | rfl | rfl | rfl
  all_goals
    go_enter Tryd.func42, Tryd.ntmps42
    go_wp2
  · exact bodyPost_ret (v := .agg #[.int .i64 (-128), .int .i64 127]) (by simp [results, Tryd.results42, go_sem]) rfl ⟨rfl, (Q.refl _).alloc _⟩
  · exact bodyPost_ret (v := .agg #[.int .i64 0, .int .i64 255]) (by simp [results, Tryd.results42, go_sem]) rfl ⟨rfl, (Q.refl _).alloc _⟩
  · exact bodyPost_ret (v := .agg #[.int .i64 (-32768), .int .i64 32767]) (by simp [results, Tryd.results42, go_sem]) rfl ⟨rfl, (Q.refl _).alloc _⟩
  · exact bodyPost_ret (v := .agg #[.int .i64 0, .int .i64 65535]) (by simp [results, Tryd.results42, go_sem]) rfl ⟨rfl, (Q.refl _).alloc _⟩
  · exact bodyPost_ret (v := .agg #[.int .i64 (-2147483648), .int .i64 2147483647]) (by simp [results, Tryd.results42, go_sem]) rfl ⟨rfl, (Q.refl _).alloc _⟩
  · exact bodyPost_ret (v := .agg #[.int .i64 0, .int .i64 4294967295]) (by simp [results, Tryd.results42, go_sem]) rfl ⟨rfl, (Q.refl _).alloc _⟩
set_option maxHeartbeats 400000 in
theorem fits_any (t : Nat) (v : Int) (w : World) (ht : t < 6) :
    Calls Tryd.prog 35 #[.int .u8 (t : Int), .int .i64 v] w fun e w' => e = .returned (.bool (Lx.fits t v)) ∧ Q w w' := by
  rw [fits_and t v ht]
  have HS := hideIt (fun w => span_any t w ht)
  generalize Lx.lo t = a at HS ⊢
  generalize Lx.hi t = b at HS ⊢
  by_cases h1 : a ≤ v
  · have hd := decide_eq_true h1
    rw [hd]
    go_enter Tryd.func35, Tryd.ntmps35
    go_wp2_with (go_at_call 42; refine (HS.out _).mono ?_; rintro e x ⟨rfl, q⟩)
    go_ret
    exact ⟨by simp, Q.alloc q _⟩
  · have hd := decide_eq_false h1
    rw [hd]
    go_enter Tryd.func35, Tryd.ntmps35
    go_wp2_with (go_at_call 42; refine (HS.out _).mono ?_; rintro e x ⟨rfl, q⟩)
    go_ret
    exact ⟨by simp, Q.alloc q _⟩

set_option maxHeartbeats 400000 in
theorem rhigh_any (t : Nat) (w : World) (ht : t < 6) :
    Calls Tryd.prog 45 #[.int .i64 (t : Int)] w fun e w' => e = .returned (.int .i64 (Lx.hi t)) ∧ Q w w' := by
  rcases six ht with rfl | rfl | rfl | rfl | rfl | rfl
  all_goals
    go_enter Tryd.func45, Tryd.ntmps45
    go_wp2
    go_ret
    exact ⟨rfl, (Q.refl _).alloc _⟩
set_option maxHeartbeats 400000 in
theorem rwidth_any (t : Nat) (w : World) (ht : t < 6) :
    Calls Tryd.prog 43 #[.int .i64 (t : Int)] w fun e w' => ∃ v, e = .returned (.int .i64 v) ∧ 0 < v ∧ Q w w' := by
  rcases six ht with rfl | rfl | rfl | rfl | rfl | rfl
  all_goals
    go_enter Tryd.func43, Tryd.ntmps43
    go_wp2
    go_ret
    exact ⟨_, rfl, by decide, (Q.refl _).alloc _⟩
set_option maxHeartbeats 400000 in
theorem rlow_any (t : Nat) (w : World) (ht : t < 6) :
    Calls Tryd.prog 44 #[.int .i64 (t : Int)] w fun e w' => e = .returned (.int .i64 (Lx.lo t)) ∧ Q w w' := by
  have HH := hideIt (fun w => rhigh_any t w ht)
  rcases six ht with rfl | rfl | rfl | rfl | rfl | rfl
  all_goals
    simp only [Lx.hi] at HH
    go_enter Tryd.func44, Tryd.ntmps44
    go_wp2_with (first | (go_at_call 45; refine (HH.out _).mono ?_; rintro e x ⟨rfl, q⟩) | go_in)
    go_ret
    first | exact ⟨rfl, (Q.refl _).alloc _⟩ | exact ⟨rfl, ((Q.refl _).alloc _).trans q⟩
set_option maxHeartbeats 400000 in
theorem rfits_any (t : Nat) (v : Int) (w : World) (ht : t < 6) :
    Calls Tryd.prog 36 #[.int .i64 (t : Int), .int .i64 v] w fun e w' => e = .returned (.bool (Lx.fits t v)) ∧ Q w w' := by
  rw [fits_and t v ht]
  have HW := hideIt (fun w => rwidth_any t w ht)
  have HL := hideIt (fun w => rlow_any t w ht)
  have HH := hideIt (fun w => rhigh_any t w ht)
  generalize Lx.lo t = a at HL ⊢
  generalize Lx.hi t = b at HH ⊢
  by_cases h1 : a ≤ v
  · have hd := decide_eq_true h1
    rw [hd]
    go_enter Tryd.func36, Tryd.ntmps36
    go_wp2_with (first | (go_at_call 43; refine (HW.out _).mono ?_; rintro e x ⟨v1, rfl, hv1, q1⟩; have hdv := decide_eq_true hv1; have HQ1 := hideIt q1; clear q1) | (go_at_call 44; refine (HL.out _).mono ?_; rintro e y ⟨rfl, q2⟩; have HQ2 := hideIt (HQ1.out.trans q2); clear q2) | (go_at_call 45; refine (HH.out _).mono ?_; rintro e z ⟨rfl, q3⟩; have HQ3 := hideIt (HQ2.out.trans q3); clear q3))
    go_ret
    exact ⟨by simp, HQ3.out⟩
  · have hd := decide_eq_false h1
    rw [hd]
    go_enter Tryd.func36, Tryd.ntmps36
    go_wp2_with (first | (go_at_call 43; refine (HW.out _).mono ?_; rintro e x ⟨v1, rfl, hv1, q1⟩; have hdv := decide_eq_true hv1; have HQ1 := hideIt q1; clear q1) | (go_at_call 44; refine (HL.out _).mono ?_; rintro e y ⟨rfl, q2⟩; have HQ2 := hideIt (HQ1.out.trans q2); clear q2) | (go_at_call 45; refine (HH.out _).mono ?_; rintro e z ⟨rfl, q3⟩; have HQ3 := hideIt (HQ2.out.trans q3); clear q3))
    go_ret
    exact ⟨by simp, HQ2.out⟩

/-! ### The library on prefixes -/
set_option maxHeartbeats 400000 in
theorem hasPrefix_any (s p : ByteArray) (w : World) :
    Calls Tryd.prog 30 #[.string s, .string p] w fun e w' => e = .returned (.bool ((bl p).isPrefixOf (bl s))) ∧ w' = w := by
  have hr := Lib.hasPrefix_raw s p
  unfold Lib.hasPrefix at hr
  have HR := hideIt hr.symm
  clear hr
  by_cases h : p.size ≤ s.size
  · have hd : decide ((p.size : Int) ≤ (s.size : Int)) = true := by simp; omega
    go_enter Tryd.func30, Tryd.ntmps30
    go_wp2
    go_ret
    rw [HR.out, decide_eq_true h]
    exact ⟨by simp, rfl⟩
  · have hd : decide ((p.size : Int) ≤ (s.size : Int)) = false := by simp; omega
    go_enter Tryd.func30, Tryd.ntmps30
    go_wp2
    go_ret
    rw [HR.out, decide_eq_false h]
    exact ⟨by simp, rfl⟩
end Go.Proofs.YtkjkobiliinneaaDoor
