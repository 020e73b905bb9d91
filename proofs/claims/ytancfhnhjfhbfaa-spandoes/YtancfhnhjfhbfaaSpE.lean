/-
  What shift and compare of layer 10 return: contracts over the program, for every type's number and all spans.
-/
import Derived.Test.YtancfhnhjfhbfaaSpD
namespace Go.Proofs.Ytancfhnhjfhbfaa
open Go.RowKit
open Burin
set_option linter.unusedVariables false
attribute [local go_sem ↓] run_min2 run_max2 run_min4 run_max4

set_option maxHeartbeats 1000000 in
theorem sshift_any (op t al ah bl bh : Int) (w : World) (h0 : 0 ≤ t) (ho : op = 9 ∨ op = 10) (a1 : nb al) (a2 : nb ah) :
    Calls Try.prog 31 #[.int .u8 op, .int .u8 t, spV al ah, spV bl bh] w fun e w' => e = .returned (retA (shA op t al ah bl bh)) ∧ Q w w' := by
  have R := hideIt (Q.refl (bx3 w al ah bl bh))
  have HE := hideIt empty_any
  have HN := hideIt none_any
  have HF := hideIt (fun x => full_any t x h0)
  have HW := hideIt (fun x => width_any t x h0)
  have hw2 := wid_le t
  have HI := hideIt (fun l h x => fit_any t l h x h0)
  have HC9 : Hid (nonB bl bh = false → decide (bl < 0) = false → decide (wid t ≤ bh) = false → ∀ x, Calls Try.prog 33 #[spV al ah, spV bl bh, .func (.func 64) #[] #[]] x fun e w' => e = .returned (spV (coL 9 al ah bl bh) (coH 9 al ah bl bh)) ∧ Q x w') := fun n1 n2 n3 x => by
    unfold nonB at n1
    simp at n1 n2 n3
    exact corners_4 (atP 9) al ah bl bh x (fun p q hp hq u => clo_4 p q u (by rcases hp with rfl | rfl <;> assumption) (by rcases hq with rfl | rfl <;> omega) (by rcases hq with rfl | rfl <;> omega))
  have HC10 : Hid (nonB bl bh = false → decide (bl < 0) = false → decide (wid t ≤ bh) = false → ∀ x, Calls Try.prog 33 #[spV al ah, spV bl bh, .func (.func 63) #[] #[]] x fun e w' => e = .returned (spV (coL 10 al ah bl bh) (coH 10 al ah bl bh)) ∧ Q x w') := fun n1 n2 n3 x => by
    unfold nonB at n1
    simp at n1 n2 n3
    exact corners_3 (atP 10) al ah bl bh x (fun p q hp hq u => clo_3 p q u (by rcases hp with rfl | rfl <;> assumption) (by rcases hq with rfl | rfl <;> omega) (by rcases hq with rfl | rfl <;> omega))
  unfold shA shB fiA
  cases hn : nonB bl bh with
  | true =>
    clear ho HC9 HC10 HI
    go_enter Try.func31, Try.ntmps31
    go_wp2_with (first | (go_at_call 19; refine (HN.out _ _ _).mono ?_; rintro e x ⟨rfl, q⟩; (try clear c0 c1 c2 c3 c4 c5 f4 f5); have R := hideIt (R.out.trans q); clear q; obtain ⟨c0, c1, c2, c3, c4, c5, f4, f5⟩ := R.out.c6) | (go_at_call 30; refine (HE.out _).mono ?_; rintro e x ⟨rfl, q⟩; (try clear c0 c1 c2 c3 c4 c5 f4 f5); have R := hideIt (R.out.trans q); clear q; obtain ⟨c0, c1, c2, c3, c4, c5, f4, f5⟩ := R.out.c6))
    exact bodyPost_ret (v := .tuple #[spV (1) (0), .bool false]) (by simp [results, Try.results31, go_sem, c4, c5]) rfl ⟨rfl, q_set3 R.out _ _⟩
  | false =>
    have HN' := hideIt (fun x => held3 (w := w) (a := al) (b := ah) (c := bl) (d := bh) (fun x => none_any bl bh x) x)
    rw [hn] at HN'
    cases hb : decide (bl < 0) with
    | true =>
      clear ho HC9 HC10 HI
      generalize low t = tl at *
      generalize high t = th at *
      go_enter Try.func31, Try.ntmps31
      go_wp2_with (first | (go_at_call 19; refine (HN'.out _ R.out).mono ?_; rintro e x1 ⟨rfl, q, c0, c1, c2, c3⟩))
      go_quiet (fail)
      have R : Hid (Q (bx3 w al ah bl bh) (x1.drewN nq)) := hideIt (below_drewN q nq)
      obtain ⟨c0, c1, c2, c3, c4, c5, f4, f5⟩ := R.out.c6
      go_wp2_with (first | (go_at_call 16; refine (HF.out _).mono ?_; rintro e x ⟨rfl, q⟩; (try clear c0 c1 c2 c3 c4 c5 f4 f5); have R := hideIt (R.out.trans q); clear q; obtain ⟨c0, c1, c2, c3, c4, c5, f4, f5⟩ := R.out.c6))
      exact bodyPost_ret (v := .tuple #[spV (tl) (th), .bool false]) (by simp [results, Try.results31, go_sem, c4, c5]) rfl ⟨rfl, q_set3 R.out _ _⟩
    | false =>
      cases hv : decide (wid t ≤ bh) with
      | true =>
        clear ho HC9 HC10 HI
        generalize low t = tl at *
        generalize high t = th at *
        generalize wid t = nn at *
        go_enter Try.func31, Try.ntmps31
        go_wp2_with (first | (go_at_call 19; refine (HN'.out _ R.out).mono ?_; rintro e x1 ⟨rfl, q, c0, c1, c2, c3⟩))
        go_quiet ((go_at_call 62; exact Calls.quiet_of_same (HW.out _)))
        have R : Hid (Q (bx3 w al ah bl bh) (x1.drewN nq)) := hideIt (below_drewN q nq)
        obtain ⟨c0, c1, c2, c3, c4, c5, f4, f5⟩ := R.out.c6
        go_wp2_with (first | (go_at_call 16; refine (HF.out _).mono ?_; rintro e x ⟨rfl, q⟩; (try clear c0 c1 c2 c3 c4 c5 f4 f5); have R := hideIt (R.out.trans q); clear q; obtain ⟨c0, c1, c2, c3, c4, c5, f4, f5⟩ := R.out.c6))
        exact bodyPost_ret (v := .tuple #[spV (tl) (th), .bool false]) (by simp [results, Try.results31, go_sem, c4, c5]) rfl ⟨rfl, q_set3 R.out _ _⟩
      | false =>
        have H9 := hideIt (HC9.out hn hb hv)
        have H10 := hideIt (HC10.out hn hb hv)
        clear HC9 HC10
        generalize coL 9 al ah bl bh = l9 at *
        generalize coH 9 al ah bl bh = r9 at *
        generalize coL 10 al ah bl bh = l10 at *
        generalize coH 10 al ah bl bh = r10 at *
        have HI9 := hideIt (HI.out l9 r9)
        clear HI
        generalize fiL t l9 r9 = z1 at *
        generalize fiH t l9 r9 = z2 at *
        generalize fiB t l9 r9 = z3 at *
        generalize wid t = nn at *
        rcases ho with rfl | rfl
        · go_enter Try.func31, Try.ntmps31
          go_wp2_with (first | (go_at_call 19; refine (HN'.out _ R.out).mono ?_; rintro e x1 ⟨rfl, q, c0, c1, c2, c3⟩))
          go_quiet ((go_at_call 62; exact Calls.quiet_of_same (HW.out _)))
          have R : Hid (Q (bx3 w al ah bl bh) (x1.drewN nq)) := hideIt (below_drewN q nq)
          obtain ⟨c0, c1, c2, c3, c4, c5, f4, f5⟩ := R.out.c6
          go_wp2_with (first | (go_at_call 33; refine (H9.out _).mono ?_; rintro e x ⟨rfl, q⟩; (try clear c0 c1 c2 c3 c4 c5 f4 f5); have R := hideIt (R.out.trans q); clear q; obtain ⟨c0, c1, c2, c3, c4, c5, f4, f5⟩ := R.out.c6) | (go_at_call 32; refine (HI9.out _).mono ?_; rintro e x ⟨rfl, q⟩; (try clear c0 c1 c2 c3 c4 c5 f4 f5); have R := hideIt (R.out.trans q); clear q; obtain ⟨c0, c1, c2, c3, c4, c5, f4, f5⟩ := R.out.c6))
          exact bodyPost_ret (v := .tuple #[spV z1 z2, .bool z3]) (by simp [results, Try.results31, go_sem, c4, c5]) rfl ⟨rfl, q_set3 R.out _ _⟩
        · go_enter Try.func31, Try.ntmps31
          go_wp2_with (first | (go_at_call 19; refine (HN'.out _ R.out).mono ?_; rintro e x1 ⟨rfl, q, c0, c1, c2, c3⟩))
          go_quiet ((go_at_call 62; exact Calls.quiet_of_same (HW.out _)))
          have R : Hid (Q (bx3 w al ah bl bh) (x1.drewN nq)) := hideIt (below_drewN q nq)
          obtain ⟨c0, c1, c2, c3, c4, c5, f4, f5⟩ := R.out.c6
          go_wp2_with (first | (go_at_call 33; refine (H10.out _).mono ?_; rintro e x ⟨rfl, q⟩; (try clear c0 c1 c2 c3 c4 c5 f4 f5); have R := hideIt (R.out.trans q); clear q; obtain ⟨c0, c1, c2, c3, c4, c5, f4, f5⟩ := R.out.c6))
          exact bodyPost_ret (v := .tuple #[spV (l10) (r10), .bool true]) (by simp [results, Try.results31, go_sem, c4, c5]) rfl ⟨rfl, q_set3 R.out _ _⟩

set_option maxHeartbeats 1000000 in
theorem cmp_11 (al ah bl bh : Int) (w : World) :
    Calls Try.prog 39 #[.int .u8 11, spV al ah, spV bl bh] w fun e w' => e = .returned (spV (cmA 11 al ah bl bh).1 (cmA 11 al ah bl bh).2) ∧ Q w w' := by
  have R := hideIt (Q.refl (bx3 w al ah bl bh))
  have HT := hideIt truth_any
  have e1 : (cmA 11 al ah bl bh).1 = trL (decide (ah < bl)) (decide (bh ≤ al)) := by simp [cmA, alB, noB]
  have e2 : (cmA 11 al ah bl bh).2 = trH (decide (ah < bl)) (decide (bh ≤ al)) := by simp [cmA, alB, noB]
  rw [e1, e2]
  clear e1 e2
  go_enter Try.func39, Try.ntmps39
  go_wp2_with (first | (go_at_call 52; refine (HT.out _ _ _).mono ?_; rintro e x ⟨rfl, q⟩; (try clear c0 c1 c2 c3 c4 c5 f4 f5); have R := hideIt (R.out.trans q); clear q; obtain ⟨c0, c1, c2, c3, c4, c5, f4, f5⟩ := R.out.c6))
  exact bodyPost_ret (v := spV (trL (decide (ah < bl)) (decide (bh ≤ al))) (trH (decide (ah < bl)) (decide (bh ≤ al)))) (by simp [results, Try.results39, go_sem, c4, c5]) rfl ⟨rfl, q_set3 R.out _ _⟩

set_option maxHeartbeats 1000000 in
theorem cmp_12 (al ah bl bh : Int) (w : World) :
    Calls Try.prog 39 #[.int .u8 12, spV al ah, spV bl bh] w fun e w' => e = .returned (spV (cmA 12 al ah bl bh).1 (cmA 12 al ah bl bh).2) ∧ Q w w' := by
  have R := hideIt (Q.refl (bx3 w al ah bl bh))
  have HT := hideIt truth_any
  have e1 : (cmA 12 al ah bl bh).1 = trL (decide (ah ≤ bl)) (decide (bh < al)) := by simp [cmA, alB, noB]
  have e2 : (cmA 12 al ah bl bh).2 = trH (decide (ah ≤ bl)) (decide (bh < al)) := by simp [cmA, alB, noB]
  rw [e1, e2]
  clear e1 e2
  go_enter Try.func39, Try.ntmps39
  go_wp2_with (first | (go_at_call 52; refine (HT.out _ _ _).mono ?_; rintro e x ⟨rfl, q⟩; (try clear c0 c1 c2 c3 c4 c5 f4 f5); have R := hideIt (R.out.trans q); clear q; obtain ⟨c0, c1, c2, c3, c4, c5, f4, f5⟩ := R.out.c6))
  exact bodyPost_ret (v := spV (trL (decide (ah ≤ bl)) (decide (bh < al))) (trH (decide (ah ≤ bl)) (decide (bh < al)))) (by simp [results, Try.results39, go_sem, c4, c5]) rfl ⟨rfl, q_set3 R.out _ _⟩

set_option maxHeartbeats 1000000 in
theorem cmp_13 (al ah bl bh : Int) (w : World) :
    Calls Try.prog 39 #[.int .u8 13, spV al ah, spV bl bh] w fun e w' => e = .returned (spV (cmA 13 al ah bl bh).1 (cmA 13 al ah bl bh).2) ∧ Q w w' := by
  have R := hideIt (Q.refl (bx3 w al ah bl bh))
  have e1 : (cmA 13 al ah bl bh) = (cmA 11 bl bh al ah) := by simp [cmA, alB, noB]
  have HT := hideIt (fun x => cmp_11 bl bh al ah x)
  rw [e1]
  clear e1
  generalize (cmA 11 bl bh al ah).1 = z1 at *
  generalize (cmA 11 bl bh al ah).2 = z2 at *
  go_enter Try.func39, Try.ntmps39
  go_wp2_with (first | (go_at_call 39; refine (HT.out _).mono ?_; rintro e x ⟨rfl, q⟩; (try clear c0 c1 c2 c3 c4 c5 f4 f5); have R := hideIt (R.out.trans q); clear q; obtain ⟨c0, c1, c2, c3, c4, c5, f4, f5⟩ := R.out.c6))
  exact bodyPost_ret (v := spV z1 z2) (by simp [results, Try.results39, go_sem, c4, c5]) rfl ⟨rfl, q_set3 R.out _ _⟩

set_option maxHeartbeats 1000000 in
theorem cmp_14 (al ah bl bh : Int) (w : World) :
    Calls Try.prog 39 #[.int .u8 14, spV al ah, spV bl bh] w fun e w' => e = .returned (spV (cmA 14 al ah bl bh).1 (cmA 14 al ah bl bh).2) ∧ Q w w' := by
  have R := hideIt (Q.refl (bx3 w al ah bl bh))
  have e1 : (cmA 14 al ah bl bh) = (cmA 12 bl bh al ah) := by simp [cmA, alB, noB]
  have HT := hideIt (fun x => cmp_12 bl bh al ah x)
  rw [e1]
  clear e1
  generalize (cmA 12 bl bh al ah).1 = z1 at *
  generalize (cmA 12 bl bh al ah).2 = z2 at *
  go_enter Try.func39, Try.ntmps39
  go_wp2_with (first | (go_at_call 39; refine (HT.out _).mono ?_; rintro e x ⟨rfl, q⟩; (try clear c0 c1 c2 c3 c4 c5 f4 f5); have R := hideIt (R.out.trans q); clear q; obtain ⟨c0, c1, c2, c3, c4, c5, f4, f5⟩ := R.out.c6))
  exact bodyPost_ret (v := spV z1 z2) (by simp [results, Try.results39, go_sem, c4, c5]) rfl ⟨rfl, q_set3 R.out _ _⟩

set_option maxHeartbeats 4000000 in
theorem cmp_15 (al ah bl bh : Int) (w : World) :
    Calls Try.prog 39 #[.int .u8 15, spV al ah, spV bl bh] w fun e w' => e = .returned (spV (cmA 15 al ah bl bh).1 (cmA 15 al ah bl bh).2) ∧ Q w w' := by
  have HT := hideIt truth_any
  by_cases hx : al = bl
  · subst hx
    by_cases hy : ah = bh
    · subst hy
      by_cases hz : al = ah
      · subst hz
        have hsa : saB al al al al = true := by unfold saB; simp; try omega
        have hap : apB al al al al = false := by unfold apB; simp; try omega
        have e1 : cmA 15 al al al al = (trL true false, trH true false) := by simp [cmA, alB, noB, hsa, hap]
        rw [e1]
        clear e1 hsa hap
        have R := hideIt (Q.refl (bx3 w al al al al))
        go_enter Try.func39, Try.ntmps39
        go_wp2_with (first | (go_at_call 52; refine (HT.out _ _ _).mono ?_; rintro e x ⟨rfl, q⟩; (try clear c0 c1 c2 c3 c4 c5 f4 f5); have R := hideIt (R.out.trans q); clear q; obtain ⟨c0, c1, c2, c3, c4, c5, f4, f5⟩ := R.out.c6))
        exact bodyPost_ret (v := spV (trL true false) (trH true false)) (by simp [results, Try.results39, go_sem, c4, c5]) rfl ⟨rfl, q_set3 R.out _ _⟩
      · by_cases hu : ah < al
        · have hze : (al == ah) = false := by simpa using hz
          have hsa : saB al ah al ah = false := by unfold saB; simp; try omega
          have hap : apB al ah al ah = true := by unfold apB; simp; try omega
          have e1 : cmA 15 al ah al ah = (trL false true, trH false true) := by simp [cmA, alB, noB, hsa, hap]
          rw [e1]
          clear e1 hsa hap
          have d1 : decide (ah < al) = true := by simpa using hu
          have R := hideIt (Q.refl (bx3 w al ah al ah))
          go_enter Try.func39, Try.ntmps39
          go_wp2_with (first | (go_at_call 52; refine (HT.out _ _ _).mono ?_; rintro e x ⟨rfl, q⟩; (try clear c0 c1 c2 c3 c4 c5 f4 f5); have R := hideIt (R.out.trans q); clear q; obtain ⟨c0, c1, c2, c3, c4, c5, f4, f5⟩ := R.out.c6))
          exact bodyPost_ret (v := spV (trL false true) (trH false true)) (by simp [results, Try.results39, go_sem, c4, c5]) rfl ⟨rfl, q_set3 R.out _ _⟩
        · have hze : (al == ah) = false := by simpa using hz
          have hsa : saB al ah al ah = false := by unfold saB; simp; try omega
          have hap : apB al ah al ah = false := by unfold apB; simp; try omega
          have e1 : cmA 15 al ah al ah = (trL false false, trH false false) := by simp [cmA, alB, noB, hsa, hap]
          rw [e1]
          clear e1 hsa hap
          have d1 : decide (ah < al) = false := by simpa using hu
          have R := hideIt (Q.refl (bx3 w al ah al ah))
          go_enter Try.func39, Try.ntmps39
          go_wp2_with (first | (go_at_call 52; refine (HT.out _ _ _).mono ?_; rintro e x ⟨rfl, q⟩; (try clear c0 c1 c2 c3 c4 c5 f4 f5); have R := hideIt (R.out.trans q); clear q; obtain ⟨c0, c1, c2, c3, c4, c5, f4, f5⟩ := R.out.c6))
          exact bodyPost_ret (v := spV (trL false false) (trH false false)) (by simp [results, Try.results39, go_sem, c4, c5]) rfl ⟨rfl, q_set3 R.out _ _⟩
    · have hye : (ah == bh) = false := by simpa using hy
      by_cases hu : ah < al
      · have d1 : decide (ah < al) = true := by simpa using hu
        have hsa : saB al ah al bh = false := by unfold saB; simp; try omega
        have hap : apB al ah al bh = true := by unfold apB; simp; try omega
        have e1 : cmA 15 al ah al bh = (trL false true, trH false true) := by simp [cmA, alB, noB, hsa, hap]
        rw [e1]
        clear e1 hsa hap
        have R := hideIt (Q.refl (bx3 w al ah al bh))
        go_enter Try.func39, Try.ntmps39
        go_wp2_with (first | (go_at_call 52; refine (HT.out _ _ _).mono ?_; rintro e x ⟨rfl, q⟩; (try clear c0 c1 c2 c3 c4 c5 f4 f5); have R := hideIt (R.out.trans q); clear q; obtain ⟨c0, c1, c2, c3, c4, c5, f4, f5⟩ := R.out.c6))
        exact bodyPost_ret (v := spV (trL false true) (trH false true)) (by simp [results, Try.results39, go_sem, c4, c5]) rfl ⟨rfl, q_set3 R.out _ _⟩
      · have d1 : decide (ah < al) = false := by simpa using hu
        by_cases hv : bh < al
        · have d2 : decide (bh < al) = true := by simpa using hv
          have hsa : saB al ah al bh = false := by unfold saB; simp; try omega
          have hap : apB al ah al bh = true := by unfold apB; simp; try omega
          have e1 : cmA 15 al ah al bh = (trL false true, trH false true) := by simp [cmA, alB, noB, hsa, hap]
          rw [e1]
          clear e1 hsa hap
          have R := hideIt (Q.refl (bx3 w al ah al bh))
          go_enter Try.func39, Try.ntmps39
          go_wp2_with (first | (go_at_call 52; refine (HT.out _ _ _).mono ?_; rintro e x ⟨rfl, q⟩; (try clear c0 c1 c2 c3 c4 c5 f4 f5); have R := hideIt (R.out.trans q); clear q; obtain ⟨c0, c1, c2, c3, c4, c5, f4, f5⟩ := R.out.c6))
          exact bodyPost_ret (v := spV (trL false true) (trH false true)) (by simp [results, Try.results39, go_sem, c4, c5]) rfl ⟨rfl, q_set3 R.out _ _⟩
        · have d2 : decide (bh < al) = false := by simpa using hv
          have hsa : saB al ah al bh = false := by unfold saB; simp; try omega
          have hap : apB al ah al bh = false := by unfold apB; simp; try omega
          have e1 : cmA 15 al ah al bh = (trL false false, trH false false) := by simp [cmA, alB, noB, hsa, hap]
          rw [e1]
          clear e1 hsa hap
          have R := hideIt (Q.refl (bx3 w al ah al bh))
          go_enter Try.func39, Try.ntmps39
          go_wp2_with (first | (go_at_call 52; refine (HT.out _ _ _).mono ?_; rintro e x ⟨rfl, q⟩; (try clear c0 c1 c2 c3 c4 c5 f4 f5); have R := hideIt (R.out.trans q); clear q; obtain ⟨c0, c1, c2, c3, c4, c5, f4, f5⟩ := R.out.c6))
          exact bodyPost_ret (v := spV (trL false false) (trH false false)) (by simp [results, Try.results39, go_sem, c4, c5]) rfl ⟨rfl, q_set3 R.out _ _⟩
  · have hxe : (al == bl) = false := by simpa using hx
    by_cases hu : ah < bl
    · have d1 : decide (ah < bl) = true := by simpa using hu
      have hsa : saB al ah bl bh = false := by unfold saB; simp; try omega
      have hap : apB al ah bl bh = true := by unfold apB; simp; try omega
      have e1 : cmA 15 al ah bl bh = (trL false true, trH false true) := by simp [cmA, alB, noB, hsa, hap]
      rw [e1]
      clear e1 hsa hap
      have R := hideIt (Q.refl (bx3 w al ah bl bh))
      go_enter Try.func39, Try.ntmps39
      go_wp2_with (first | (go_at_call 52; refine (HT.out _ _ _).mono ?_; rintro e x ⟨rfl, q⟩; (try clear c0 c1 c2 c3 c4 c5 f4 f5); have R := hideIt (R.out.trans q); clear q; obtain ⟨c0, c1, c2, c3, c4, c5, f4, f5⟩ := R.out.c6))
      exact bodyPost_ret (v := spV (trL false true) (trH false true)) (by simp [results, Try.results39, go_sem, c4, c5]) rfl ⟨rfl, q_set3 R.out _ _⟩
    · have d1 : decide (ah < bl) = false := by simpa using hu
      by_cases hv : bh < al
      · have d2 : decide (bh < al) = true := by simpa using hv
        have hsa : saB al ah bl bh = false := by unfold saB; simp; try omega
        have hap : apB al ah bl bh = true := by unfold apB; simp; try omega
        have e1 : cmA 15 al ah bl bh = (trL false true, trH false true) := by simp [cmA, alB, noB, hsa, hap]
        rw [e1]
        clear e1 hsa hap
        have R := hideIt (Q.refl (bx3 w al ah bl bh))
        go_enter Try.func39, Try.ntmps39
        go_wp2_with (first | (go_at_call 52; refine (HT.out _ _ _).mono ?_; rintro e x ⟨rfl, q⟩; (try clear c0 c1 c2 c3 c4 c5 f4 f5); have R := hideIt (R.out.trans q); clear q; obtain ⟨c0, c1, c2, c3, c4, c5, f4, f5⟩ := R.out.c6))
        exact bodyPost_ret (v := spV (trL false true) (trH false true)) (by simp [results, Try.results39, go_sem, c4, c5]) rfl ⟨rfl, q_set3 R.out _ _⟩
      · have d2 : decide (bh < al) = false := by simpa using hv
        have hsa : saB al ah bl bh = false := by unfold saB; simp; try omega
        have hap : apB al ah bl bh = false := by unfold apB; simp; try omega
        have e1 : cmA 15 al ah bl bh = (trL false false, trH false false) := by simp [cmA, alB, noB, hsa, hap]
        rw [e1]
        clear e1 hsa hap
        have R := hideIt (Q.refl (bx3 w al ah bl bh))
        go_enter Try.func39, Try.ntmps39
        go_wp2_with (first | (go_at_call 52; refine (HT.out _ _ _).mono ?_; rintro e x ⟨rfl, q⟩; (try clear c0 c1 c2 c3 c4 c5 f4 f5); have R := hideIt (R.out.trans q); clear q; obtain ⟨c0, c1, c2, c3, c4, c5, f4, f5⟩ := R.out.c6))
        exact bodyPost_ret (v := spV (trL false false) (trH false false)) (by simp [results, Try.results39, go_sem, c4, c5]) rfl ⟨rfl, q_set3 R.out _ _⟩

set_option maxHeartbeats 4000000 in
theorem cmp_16 (al ah bl bh : Int) (w : World) :
    Calls Try.prog 39 #[.int .u8 16, spV al ah, spV bl bh] w fun e w' => e = .returned (spV (cmA 16 al ah bl bh).1 (cmA 16 al ah bl bh).2) ∧ Q w w' := by
  have HT := hideIt truth_any
  by_cases hx : al = bl
  · subst hx
    by_cases hy : ah = bh
    · subst hy
      by_cases hz : al = ah
      · subst hz
        have hsa : saB al al al al = true := by unfold saB; simp; try omega
        have hap : apB al al al al = false := by unfold apB; simp; try omega
        have e1 : cmA 16 al al al al = (trL false true, trH false true) := by simp [cmA, alB, noB, hsa, hap]
        rw [e1]
        clear e1 hsa hap
        have R := hideIt (Q.refl (bx3 w al al al al))
        go_enter Try.func39, Try.ntmps39
        go_wp2_with (first | (go_at_call 52; refine (HT.out _ _ _).mono ?_; rintro e x ⟨rfl, q⟩; (try clear c0 c1 c2 c3 c4 c5 f4 f5); have R := hideIt (R.out.trans q); clear q; obtain ⟨c0, c1, c2, c3, c4, c5, f4, f5⟩ := R.out.c6))
        exact bodyPost_ret (v := spV (trL false true) (trH false true)) (by simp [results, Try.results39, go_sem, c4, c5]) rfl ⟨rfl, q_set3 R.out _ _⟩
      · by_cases hu : ah < al
        · have hze : (al == ah) = false := by simpa using hz
          have hsa : saB al ah al ah = false := by unfold saB; simp; try omega
          have hap : apB al ah al ah = true := by unfold apB; simp; try omega
          have e1 : cmA 16 al ah al ah = (trL true false, trH true false) := by simp [cmA, alB, noB, hsa, hap]
          rw [e1]
          clear e1 hsa hap
          have d1 : decide (ah < al) = true := by simpa using hu
          have R := hideIt (Q.refl (bx3 w al ah al ah))
          go_enter Try.func39, Try.ntmps39
          go_wp2_with (first | (go_at_call 52; refine (HT.out _ _ _).mono ?_; rintro e x ⟨rfl, q⟩; (try clear c0 c1 c2 c3 c4 c5 f4 f5); have R := hideIt (R.out.trans q); clear q; obtain ⟨c0, c1, c2, c3, c4, c5, f4, f5⟩ := R.out.c6))
          exact bodyPost_ret (v := spV (trL true false) (trH true false)) (by simp [results, Try.results39, go_sem, c4, c5]) rfl ⟨rfl, q_set3 R.out _ _⟩
        · have hze : (al == ah) = false := by simpa using hz
          have hsa : saB al ah al ah = false := by unfold saB; simp; try omega
          have hap : apB al ah al ah = false := by unfold apB; simp; try omega
          have e1 : cmA 16 al ah al ah = (trL false false, trH false false) := by simp [cmA, alB, noB, hsa, hap]
          rw [e1]
          clear e1 hsa hap
          have d1 : decide (ah < al) = false := by simpa using hu
          have R := hideIt (Q.refl (bx3 w al ah al ah))
          go_enter Try.func39, Try.ntmps39
          go_wp2_with (first | (go_at_call 52; refine (HT.out _ _ _).mono ?_; rintro e x ⟨rfl, q⟩; (try clear c0 c1 c2 c3 c4 c5 f4 f5); have R := hideIt (R.out.trans q); clear q; obtain ⟨c0, c1, c2, c3, c4, c5, f4, f5⟩ := R.out.c6))
          exact bodyPost_ret (v := spV (trL false false) (trH false false)) (by simp [results, Try.results39, go_sem, c4, c5]) rfl ⟨rfl, q_set3 R.out _ _⟩
    · have hye : (ah == bh) = false := by simpa using hy
      by_cases hu : ah < al
      · have d1 : decide (ah < al) = true := by simpa using hu
        have hsa : saB al ah al bh = false := by unfold saB; simp; try omega
        have hap : apB al ah al bh = true := by unfold apB; simp; try omega
        have e1 : cmA 16 al ah al bh = (trL true false, trH true false) := by simp [cmA, alB, noB, hsa, hap]
        rw [e1]
        clear e1 hsa hap
        have R := hideIt (Q.refl (bx3 w al ah al bh))
        go_enter Try.func39, Try.ntmps39
        go_wp2_with (first | (go_at_call 52; refine (HT.out _ _ _).mono ?_; rintro e x ⟨rfl, q⟩; (try clear c0 c1 c2 c3 c4 c5 f4 f5); have R := hideIt (R.out.trans q); clear q; obtain ⟨c0, c1, c2, c3, c4, c5, f4, f5⟩ := R.out.c6))
        exact bodyPost_ret (v := spV (trL true false) (trH true false)) (by simp [results, Try.results39, go_sem, c4, c5]) rfl ⟨rfl, q_set3 R.out _ _⟩
      · have d1 : decide (ah < al) = false := by simpa using hu
        by_cases hv : bh < al
        · have d2 : decide (bh < al) = true := by simpa using hv
          have hsa : saB al ah al bh = false := by unfold saB; simp; try omega
          have hap : apB al ah al bh = true := by unfold apB; simp; try omega
          have e1 : cmA 16 al ah al bh = (trL true false, trH true false) := by simp [cmA, alB, noB, hsa, hap]
          rw [e1]
          clear e1 hsa hap
          have R := hideIt (Q.refl (bx3 w al ah al bh))
          go_enter Try.func39, Try.ntmps39
          go_wp2_with (first | (go_at_call 52; refine (HT.out _ _ _).mono ?_; rintro e x ⟨rfl, q⟩; (try clear c0 c1 c2 c3 c4 c5 f4 f5); have R := hideIt (R.out.trans q); clear q; obtain ⟨c0, c1, c2, c3, c4, c5, f4, f5⟩ := R.out.c6))
          exact bodyPost_ret (v := spV (trL true false) (trH true false)) (by simp [results, Try.results39, go_sem, c4, c5]) rfl ⟨rfl, q_set3 R.out _ _⟩
        · have d2 : decide (bh < al) = false := by simpa using hv
          have hsa : saB al ah al bh = false := by unfold saB; simp; try omega
          have hap : apB al ah al bh = false := by unfold apB; simp; try omega
          have e1 : cmA 16 al ah al bh = (trL false false, trH false false) := by simp [cmA, alB, noB, hsa, hap]
          rw [e1]
          clear e1 hsa hap
          have R := hideIt (Q.refl (bx3 w al ah al bh))
          go_enter Try.func39, Try.ntmps39
          go_wp2_with (first | (go_at_call 52; refine (HT.out _ _ _).mono ?_; rintro e x ⟨rfl, q⟩; (try clear c0 c1 c2 c3 c4 c5 f4 f5); have R := hideIt (R.out.trans q); clear q; obtain ⟨c0, c1, c2, c3, c4, c5, f4, f5⟩ := R.out.c6))
          exact bodyPost_ret (v := spV (trL false false) (trH false false)) (by simp [results, Try.results39, go_sem, c4, c5]) rfl ⟨rfl, q_set3 R.out _ _⟩
  · have hxe : (al == bl) = false := by simpa using hx
    by_cases hu : ah < bl
    · have d1 : decide (ah < bl) = true := by simpa using hu
      have hsa : saB al ah bl bh = false := by unfold saB; simp; try omega
      have hap : apB al ah bl bh = true := by unfold apB; simp; try omega
      have e1 : cmA 16 al ah bl bh = (trL true false, trH true false) := by simp [cmA, alB, noB, hsa, hap]
      rw [e1]
      clear e1 hsa hap
      have R := hideIt (Q.refl (bx3 w al ah bl bh))
      go_enter Try.func39, Try.ntmps39
      go_wp2_with (first | (go_at_call 52; refine (HT.out _ _ _).mono ?_; rintro e x ⟨rfl, q⟩; (try clear c0 c1 c2 c3 c4 c5 f4 f5); have R := hideIt (R.out.trans q); clear q; obtain ⟨c0, c1, c2, c3, c4, c5, f4, f5⟩ := R.out.c6))
      exact bodyPost_ret (v := spV (trL true false) (trH true false)) (by simp [results, Try.results39, go_sem, c4, c5]) rfl ⟨rfl, q_set3 R.out _ _⟩
    · have d1 : decide (ah < bl) = false := by simpa using hu
      by_cases hv : bh < al
      · have d2 : decide (bh < al) = true := by simpa using hv
        have hsa : saB al ah bl bh = false := by unfold saB; simp; try omega
        have hap : apB al ah bl bh = true := by unfold apB; simp; try omega
        have e1 : cmA 16 al ah bl bh = (trL true false, trH true false) := by simp [cmA, alB, noB, hsa, hap]
        rw [e1]
        clear e1 hsa hap
        have R := hideIt (Q.refl (bx3 w al ah bl bh))
        go_enter Try.func39, Try.ntmps39
        go_wp2_with (first | (go_at_call 52; refine (HT.out _ _ _).mono ?_; rintro e x ⟨rfl, q⟩; (try clear c0 c1 c2 c3 c4 c5 f4 f5); have R := hideIt (R.out.trans q); clear q; obtain ⟨c0, c1, c2, c3, c4, c5, f4, f5⟩ := R.out.c6))
        exact bodyPost_ret (v := spV (trL true false) (trH true false)) (by simp [results, Try.results39, go_sem, c4, c5]) rfl ⟨rfl, q_set3 R.out _ _⟩
      · have d2 : decide (bh < al) = false := by simpa using hv
        have hsa : saB al ah bl bh = false := by unfold saB; simp; try omega
        have hap : apB al ah bl bh = false := by unfold apB; simp; try omega
        have e1 : cmA 16 al ah bl bh = (trL false false, trH false false) := by simp [cmA, alB, noB, hsa, hap]
        rw [e1]
        clear e1 hsa hap
        have R := hideIt (Q.refl (bx3 w al ah bl bh))
        go_enter Try.func39, Try.ntmps39
        go_wp2_with (first | (go_at_call 52; refine (HT.out _ _ _).mono ?_; rintro e x ⟨rfl, q⟩; (try clear c0 c1 c2 c3 c4 c5 f4 f5); have R := hideIt (R.out.trans q); clear q; obtain ⟨c0, c1, c2, c3, c4, c5, f4, f5⟩ := R.out.c6))
        exact bodyPost_ret (v := spV (trL false false) (trH false false)) (by simp [results, Try.results39, go_sem, c4, c5]) rfl ⟨rfl, q_set3 R.out _ _⟩

theorem scmp_any (op al ah bl bh : Int) (w : World) (h1 : 11 ≤ op) (h2 : op ≤ 16) :
    Calls Try.prog 39 #[.int .u8 op, spV al ah, spV bl bh] w fun e w' => e = .returned (spV (cmA op al ah bl bh).1 (cmA op al ah bl bh).2) ∧ Q w w' := by
  have h : op = 11 ∨ op = 12 ∨ op = 13 ∨ op = 14 ∨ op = 15 ∨ op = 16 := by omega
  rcases h with rfl | rfl | rfl | rfl | rfl | rfl
  · exact cmp_11 al ah bl bh w
  · exact cmp_12 al ah bl bh w
  · exact cmp_13 al ah bl bh w
  · exact cmp_14 al ah bl bh w
  · exact cmp_15 al ah bl bh w
  · exact cmp_16 al ah bl bh w

end Go.Proofs.Ytancfhnhjfhbfaa
