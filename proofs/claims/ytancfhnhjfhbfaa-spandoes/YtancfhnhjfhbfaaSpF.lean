/-
  What Do of layer 10 returns: a contract over the program, for every operation's and type's number and all spans.
-/
import Derived.Test.YtancfhnhjfhbfaaSpE
import Derived.Test.YtancfhnhjfhbfaaPlainD
namespace Burin
theorem rtB_bd {t l h : Int} (h0 : 0 ≤ t) (k : rtB t l h = true) : t ≤ 5 ∧ l ≤ h ∧ low t ≤ l ∧ h ≤ high t := by
  by_cases h6 : 6 ≤ t
  · have e : rtB t l h = false := by
      unfold rtB inB nonB
      rw [low_none _ h6, high_none _ h6]
      cases h1 : decide (h < l) <;> simp_all
      omega
    rw [e] at k
    cases k
  · unfold rtB inB nonB at k
    simp at k
    exact ⟨by omega, k.1, by omega, by omega⟩
theorem low_nb (t : Int) (h0 : 0 ≤ t) (h5 : t ≤ 5) : -2147483648 ≤ low t ∧ high t ≤ 4294967295 ∧ low t ≤ 0 ∧ 0 ≤ high t := by
  rcases cases7 h0 with rfl | rfl | rfl | rfl | rfl | rfl | h <;> first | omega | simp [low, high]
theorem rtB_nb {t l h : Int} (h0 : 0 ≤ t) (k : rtB t l h = true) : nb l ∧ nb h ∧ l ≤ h := by
  obtain ⟨h5, k1, k2, k3⟩ := rtB_bd h0 k
  obtain ⟨p1, p2, p3, p4⟩ := low_nb t h0 h5
  exact ⟨⟨by omega, by omega⟩, ⟨by omega, by omega⟩, k1⟩
end Burin
namespace Go.Proofs.Ytancfhnhjfhbfaa
open Go.RowKit
open Burin
set_option linter.unusedVariables false
attribute [local go_sem ↓] run_min2 run_max2 run_min4 run_max4 run_fld0 run_fld1

set_option maxHeartbeats 4000000 in
set_option maxRecDepth 100000 in
theorem sdo_out (op t al ah bl bh : Int) (w : World) (h0 : 0 ≤ t) (ho : op < 1 ∨ 16 < op) :
    Calls Try.prog 10 #[.int .u8 op, .int .u8 t, spV al ah, spV bl bh] w fun e w' => e = .returned (retA (doA op t al ah bl bh)) ∧ Q w w' := by
  have R := hideIt (Q.refl (bx3 w al ah bl bh))
  have HE := hideIt empty_any
  have HR := hideIt (fun l h x => right_any t l h x h0)
  have ed : doA op t al ah bl bh = (1, 0, false) := by unfold doA; rw [if_pos (by omega)]
  rw [ed]
  clear ed
  rcases ho with ho | ho
  · have d1 : decide (op < 1) = true := by simpa using ho
    go_enter Try.func10, Try.ntmps10
    go_wp2_with (first | (go_at_call 29; refine (HR.out _ _ _).mono ?_; rintro e x ⟨rfl, q⟩; (try clear c0 c1 c2 c3 c4 c5 f4 f5); have R := hideIt (R.out.trans q); clear q; obtain ⟨c0, c1, c2, c3, c4, c5, f4, f5⟩ := R.out.c6) | (go_at_call 30; refine (HE.out _).mono ?_; rintro e x ⟨rfl, q⟩; (try clear c0 c1 c2 c3 c4 c5 f4 f5); have R := hideIt (R.out.trans q); clear q; obtain ⟨c0, c1, c2, c3, c4, c5, f4, f5⟩ := R.out.c6))
    exact bodyPost_ret (v := .tuple #[spV (1) (0), .bool false]) (by simp [results, Try.results10, go_sem, c4, c5]) rfl ⟨rfl, q_set3 R.out _ _⟩
  · have d1 : decide (op < 1) = false := by simp; omega
    have d2 : decide (16 < op) = true := by simpa using ho
    go_enter Try.func10, Try.ntmps10
    go_wp2_with (first | (go_at_call 29; refine (HR.out _ _ _).mono ?_; rintro e x ⟨rfl, q⟩; (try clear c0 c1 c2 c3 c4 c5 f4 f5); have R := hideIt (R.out.trans q); clear q; obtain ⟨c0, c1, c2, c3, c4, c5, f4, f5⟩ := R.out.c6) | (go_at_call 30; refine (HE.out _).mono ?_; rintro e x ⟨rfl, q⟩; (try clear c0 c1 c2 c3 c4 c5 f4 f5); have R := hideIt (R.out.trans q); clear q; obtain ⟨c0, c1, c2, c3, c4, c5, f4, f5⟩ := R.out.c6))
    exact bodyPost_ret (v := .tuple #[spV (1) (0), .bool false]) (by simp [results, Try.results10, go_sem, c4, c5]) rfl ⟨rfl, q_set3 R.out _ _⟩

set_option maxHeartbeats 4000000 in
set_option maxRecDepth 100000 in
theorem sdo_a (op t al ah bl bh : Int) (w : World) (h0 : 0 ≤ t) (ho : 1 ≤ op) (ho2 : op ≤ 16) (ra : rtB t al ah = false) :
    Calls Try.prog 10 #[.int .u8 op, .int .u8 t, spV al ah, spV bl bh] w fun e w' => e = .returned (retA (doA op t al ah bl bh)) ∧ Q w w' := by
  have R := hideIt (Q.refl (bx3 w al ah bl bh))
  have HE := hideIt empty_any
  have HR := hideIt (fun l h x => right_any t l h x h0)
  have ed : doA op t al ah bl bh = (1, 0, false) := by unfold doA; rw [if_pos (.inr (.inr ra))]
  rw [ed]
  clear ed
  have d1 : decide (op < 1) = false := by simp; omega
  have d2 : decide (16 < op) = false := by simp; omega
  go_enter Try.func10, Try.ntmps10
  go_wp2_with (first | (go_at_call 29; refine (HR.out _ _ _).mono ?_; rintro e x ⟨rfl, q⟩; (try clear c0 c1 c2 c3 c4 c5 f4 f5); have R := hideIt (R.out.trans q); clear q; obtain ⟨c0, c1, c2, c3, c4, c5, f4, f5⟩ := R.out.c6) | (go_at_call 30; refine (HE.out _).mono ?_; rintro e x ⟨rfl, q⟩; (try clear c0 c1 c2 c3 c4 c5 f4 f5); have R := hideIt (R.out.trans q); clear q; obtain ⟨c0, c1, c2, c3, c4, c5, f4, f5⟩ := R.out.c6))
  exact bodyPost_ret (v := .tuple #[spV (1) (0), .bool false]) (by simp [results, Try.results10, go_sem, c4, c5]) rfl ⟨rfl, q_set3 R.out _ _⟩

set_option maxHeartbeats 4000000 in
set_option maxRecDepth 100000 in
theorem sdo_b (op t al ah bl bh : Int) (w : World) (h0 : 0 ≤ t) (ho : 1 ≤ op) (ho2 : op ≤ 16) (h9 : op ≠ 9) (h10 : op ≠ 10) (ra : rtB t al ah = true) (rb : rtB t bl bh = false) :
    Calls Try.prog 10 #[.int .u8 op, .int .u8 t, spV al ah, spV bl bh] w fun e w' => e = .returned (retA (doA op t al ah bl bh)) ∧ Q w w' := by
  have R := hideIt (Q.refl (bx3 w al ah bl bh))
  have HE := hideIt empty_any
  have HR := hideIt (fun l h x => right_any t l h x h0)
  have ed : doA op t al ah bl bh = (1, 0, false) := by
    unfold doA
    rw [if_neg (by rw [ra]; rintro (h | h | h) <;> first | omega | cases h), if_neg (by omega), if_pos rb]
  rw [ed]
  clear ed
  have d1 : decide (op < 1) = false := by simp; omega
  have d2 : decide (16 < op) = false := by simp; omega
  have d3 : (op == 9) = false := by simpa using h9
  have d4 : (op == 10) = false := by simpa using h10
  go_enter Try.func10, Try.ntmps10
  go_wp2_with (first | (go_at_call 29; refine (HR.out _ _ _).mono ?_; rintro e x ⟨rfl, q⟩; (try clear c0 c1 c2 c3 c4 c5 f4 f5); have R := hideIt (R.out.trans q); clear q; obtain ⟨c0, c1, c2, c3, c4, c5, f4, f5⟩ := R.out.c6) | (go_at_call 30; refine (HE.out _).mono ?_; rintro e x ⟨rfl, q⟩; (try clear c0 c1 c2 c3 c4 c5 f4 f5); have R := hideIt (R.out.trans q); clear q; obtain ⟨c0, c1, c2, c3, c4, c5, f4, f5⟩ := R.out.c6))
  exact bodyPost_ret (v := .tuple #[spV (1) (0), .bool false]) (by simp [results, Try.results10, go_sem, c4, c5]) rfl ⟨rfl, q_set3 R.out _ _⟩

set_option maxHeartbeats 4000000 in
set_option maxRecDepth 100000 in
theorem sdo_1 (t al ah bl bh : Int) (w : World) (h0 : 0 ≤ t) (ra : rtB t al ah = true) (rb : rtB t bl bh = true) :
    Calls Try.prog 10 #[.int .u8 1, .int .u8 t, spV al ah, spV bl bh] w fun e w' => e = .returned (retA (doA 1 t al ah bl bh)) ∧ Q w w' := by
  have R := hideIt (Q.refl (bx3 w al ah bl bh))
  have HE := hideIt empty_any
  have HR := hideIt (fun l h x => right_any t l h x h0)
  have ed : doA 1 t al ah bl bh = fiA t (coL 1 al ah bl bh) (coH 1 al ah bl bh) := by simp [doA, ra, rb]
  rw [ed]
  clear ed
  obtain ⟨a1, a2, hab⟩ := rtB_nb h0 ra
  obtain ⟨b1, b2, hbb⟩ := rtB_nb h0 rb
  have HC : Hid (∀ x, Calls Try.prog 33 #[spV al ah, spV bl bh, .func (.func 34) #[] #[]] x fun e w' => e = .returned (spV (coL 1 al ah bl bh) (coH 1 al ah bl bh)) ∧ Q x w') := fun x => corners_0 (atP 1) al ah bl bh x (fun p q hp hq u => clo_0 p q u (by rcases hp with rfl | rfl <;> assumption) (by rcases hq with rfl | rfl <;> assumption))
  have HI := hideIt (fun x => fit_any t (coL 1 al ah bl bh) (coH 1 al ah bl bh) x h0)
  unfold fiA
  generalize coL 1 al ah bl bh = l1 at *
  generalize coH 1 al ah bl bh = r1 at *
  generalize fiL t l1 r1 = z1 at *
  generalize fiH t l1 r1 = z2 at *
  generalize fiB t l1 r1 = z3 at *
  clear a1 a2 b1 b2 hab hbb
  go_enter Try.func10, Try.ntmps10
  go_wp2_with (first | (go_at_call 29; refine (HR.out _ _ _).mono ?_; rintro e x ⟨rfl, q⟩; (try clear c0 c1 c2 c3 c4 c5 f4 f5); have R := hideIt (R.out.trans q); clear q; obtain ⟨c0, c1, c2, c3, c4, c5, f4, f5⟩ := R.out.c6) | (go_at_call 33; refine (HC.out _).mono ?_; rintro e x ⟨rfl, q⟩; (try clear c0 c1 c2 c3 c4 c5 f4 f5); have R := hideIt (R.out.trans q); clear q; obtain ⟨c0, c1, c2, c3, c4, c5, f4, f5⟩ := R.out.c6) | (go_at_call 32; refine (HI.out _).mono ?_; rintro e x ⟨rfl, q⟩; (try clear c0 c1 c2 c3 c4 c5 f4 f5); have R := hideIt (R.out.trans q); clear q; obtain ⟨c0, c1, c2, c3, c4, c5, f4, f5⟩ := R.out.c6))
  exact bodyPost_ret (v := .tuple #[spV (z1) (z2), .bool z3]) (by simp [results, Try.results10, go_sem, c4, c5]) rfl ⟨rfl, q_set3 R.out _ _⟩

set_option maxHeartbeats 4000000 in
set_option maxRecDepth 100000 in
theorem sdo_2 (t al ah bl bh : Int) (w : World) (h0 : 0 ≤ t) (ra : rtB t al ah = true) (rb : rtB t bl bh = true) :
    Calls Try.prog 10 #[.int .u8 2, .int .u8 t, spV al ah, spV bl bh] w fun e w' => e = .returned (retA (doA 2 t al ah bl bh)) ∧ Q w w' := by
  have R := hideIt (Q.refl (bx3 w al ah bl bh))
  have HE := hideIt empty_any
  have HR := hideIt (fun l h x => right_any t l h x h0)
  have ed : doA 2 t al ah bl bh = fiA t (coL 2 al ah bl bh) (coH 2 al ah bl bh) := by simp [doA, ra, rb]
  rw [ed]
  clear ed
  obtain ⟨a1, a2, hab⟩ := rtB_nb h0 ra
  obtain ⟨b1, b2, hbb⟩ := rtB_nb h0 rb
  have HC : Hid (∀ x, Calls Try.prog 33 #[spV al ah, spV bl bh, .func (.func 35) #[] #[]] x fun e w' => e = .returned (spV (coL 2 al ah bl bh) (coH 2 al ah bl bh)) ∧ Q x w') := fun x => corners_1 (atP 2) al ah bl bh x (fun p q hp hq u => clo_1 p q u (by rcases hp with rfl | rfl <;> assumption) (by rcases hq with rfl | rfl <;> assumption))
  have HI := hideIt (fun x => fit_any t (coL 2 al ah bl bh) (coH 2 al ah bl bh) x h0)
  unfold fiA
  generalize coL 2 al ah bl bh = l1 at *
  generalize coH 2 al ah bl bh = r1 at *
  generalize fiL t l1 r1 = z1 at *
  generalize fiH t l1 r1 = z2 at *
  generalize fiB t l1 r1 = z3 at *
  clear a1 a2 b1 b2 hab hbb
  go_enter Try.func10, Try.ntmps10
  go_wp2_with (first | (go_at_call 29; refine (HR.out _ _ _).mono ?_; rintro e x ⟨rfl, q⟩; (try clear c0 c1 c2 c3 c4 c5 f4 f5); have R := hideIt (R.out.trans q); clear q; obtain ⟨c0, c1, c2, c3, c4, c5, f4, f5⟩ := R.out.c6) | (go_at_call 33; refine (HC.out _).mono ?_; rintro e x ⟨rfl, q⟩; (try clear c0 c1 c2 c3 c4 c5 f4 f5); have R := hideIt (R.out.trans q); clear q; obtain ⟨c0, c1, c2, c3, c4, c5, f4, f5⟩ := R.out.c6) | (go_at_call 32; refine (HI.out _).mono ?_; rintro e x ⟨rfl, q⟩; (try clear c0 c1 c2 c3 c4 c5 f4 f5); have R := hideIt (R.out.trans q); clear q; obtain ⟨c0, c1, c2, c3, c4, c5, f4, f5⟩ := R.out.c6))
  exact bodyPost_ret (v := .tuple #[spV (z1) (z2), .bool z3]) (by simp [results, Try.results10, go_sem, c4, c5]) rfl ⟨rfl, q_set3 R.out _ _⟩

set_option maxHeartbeats 4000000 in
set_option maxRecDepth 100000 in
theorem sdo_3 (t al ah bl bh : Int) (w : World) (h0 : 0 ≤ t) (ra : rtB t al ah = true) (rb : rtB t bl bh = true) :
    Calls Try.prog 10 #[.int .u8 3, .int .u8 t, spV al ah, spV bl bh] w fun e w' => e = .returned (retA (doA 3 t al ah bl bh)) ∧ Q w w' := by
  have R := hideIt (Q.refl (bx3 w al ah bl bh))
  have HE := hideIt empty_any
  have HR := hideIt (fun l h x => right_any t l h x h0)
  have ed : doA 3 t al ah bl bh = fiA t (coL 3 al ah bl bh) (coH 3 al ah bl bh) := by simp [doA, ra, rb]
  rw [ed]
  clear ed
  obtain ⟨a1, a2, hab⟩ := rtB_nb h0 ra
  obtain ⟨b1, b2, hbb⟩ := rtB_nb h0 rb
  have HC : Hid (∀ x, Calls Try.prog 33 #[spV al ah, spV bl bh, .func (.func 36) #[] #[]] x fun e w' => e = .returned (spV (coL 3 al ah bl bh) (coH 3 al ah bl bh)) ∧ Q x w') := fun x => corners_2 (atP 3) al ah bl bh x (fun p q hp hq u => clo_2 p q u)
  have HI := hideIt (fun x => fit_any t (coL 3 al ah bl bh) (coH 3 al ah bl bh) x h0)
  unfold fiA
  generalize coL 3 al ah bl bh = l1 at *
  generalize coH 3 al ah bl bh = r1 at *
  generalize fiL t l1 r1 = z1 at *
  generalize fiH t l1 r1 = z2 at *
  generalize fiB t l1 r1 = z3 at *
  clear a1 a2 b1 b2 hab hbb
  go_enter Try.func10, Try.ntmps10
  go_wp2_with (first | (go_at_call 29; refine (HR.out _ _ _).mono ?_; rintro e x ⟨rfl, q⟩; (try clear c0 c1 c2 c3 c4 c5 f4 f5); have R := hideIt (R.out.trans q); clear q; obtain ⟨c0, c1, c2, c3, c4, c5, f4, f5⟩ := R.out.c6) | (go_at_call 33; refine (HC.out _).mono ?_; rintro e x ⟨rfl, q⟩; (try clear c0 c1 c2 c3 c4 c5 f4 f5); have R := hideIt (R.out.trans q); clear q; obtain ⟨c0, c1, c2, c3, c4, c5, f4, f5⟩ := R.out.c6) | (go_at_call 32; refine (HI.out _).mono ?_; rintro e x ⟨rfl, q⟩; (try clear c0 c1 c2 c3 c4 c5 f4 f5); have R := hideIt (R.out.trans q); clear q; obtain ⟨c0, c1, c2, c3, c4, c5, f4, f5⟩ := R.out.c6))
  exact bodyPost_ret (v := .tuple #[spV (z1) (z2), .bool z3]) (by simp [results, Try.results10, go_sem, c4, c5]) rfl ⟨rfl, q_set3 R.out _ _⟩

set_option maxHeartbeats 4000000 in
set_option maxRecDepth 100000 in
theorem sdo_4 (t al ah bl bh : Int) (w : World) (h0 : 0 ≤ t) (ra : rtB t al ah = true) (rb : rtB t bl bh = true) :
    Calls Try.prog 10 #[.int .u8 4, .int .u8 t, spV al ah, spV bl bh] w fun e w' => e = .returned (retA (doA 4 t al ah bl bh)) ∧ Q w w' := by
  have R := hideIt (Q.refl (bx3 w al ah bl bh))
  have HE := hideIt empty_any
  have HR := hideIt (fun l h x => right_any t l h x h0)
  have ed : doA 4 t al ah bl bh = divA 4 t al ah bl bh := by simp [doA, ra, rb]
  rw [ed]
  clear ed
  obtain ⟨a1, a2, hab⟩ := rtB_nb h0 ra
  obtain ⟨b1, b2, hbb⟩ := rtB_nb h0 rb
  have HS := hideIt (fun x => sdiv_any 4 t al ah bl bh x h0 (by omega) hab hbb a1 a2 b1 b2)
  generalize divA 4 t al ah bl bh = r at *
  obtain ⟨z1, z2, z3⟩ := r
  have HT : Hid (∀ x, Calls Try.prog 37 #[.int .u8 4, .int .u8 t, spV al ah, spV bl bh] x fun e w' => e = .returned (.tuple #[.agg #[.int .i64 z1, .int .i64 z2], .bool z3]) ∧ Q x w') := HS
  clear a1 a2 b1 b2 hab hbb HS
  go_enter Try.func10, Try.ntmps10
  go_wp2_with (first | (go_at_call 29; refine (HR.out _ _ _).mono ?_; rintro e x ⟨rfl, q⟩; (try clear c0 c1 c2 c3 c4 c5 f4 f5); have R := hideIt (R.out.trans q); clear q; obtain ⟨c0, c1, c2, c3, c4, c5, f4, f5⟩ := R.out.c6) | (go_at_call 37; refine (HT.out _).mono ?_; rintro e x ⟨rfl, q⟩; (try clear c0 c1 c2 c3 c4 c5 f4 f5); have R := hideIt (R.out.trans q); clear q; obtain ⟨c0, c1, c2, c3, c4, c5, f4, f5⟩ := R.out.c6))
  exact bodyPost_ret (v := .tuple #[spV (z1) (z2), .bool z3]) (by simp [results, Try.results10, go_sem, c4, c5]) rfl ⟨rfl, q_set3 R.out _ _⟩

set_option maxHeartbeats 4000000 in
set_option maxRecDepth 100000 in
theorem sdo_5 (t al ah bl bh : Int) (w : World) (h0 : 0 ≤ t) (ra : rtB t al ah = true) (rb : rtB t bl bh = true) :
    Calls Try.prog 10 #[.int .u8 5, .int .u8 t, spV al ah, spV bl bh] w fun e w' => e = .returned (retA (doA 5 t al ah bl bh)) ∧ Q w w' := by
  have R := hideIt (Q.refl (bx3 w al ah bl bh))
  have HE := hideIt empty_any
  have HR := hideIt (fun l h x => right_any t l h x h0)
  have ed : doA 5 t al ah bl bh = divA 5 t al ah bl bh := by simp [doA, ra, rb]
  rw [ed]
  clear ed
  obtain ⟨a1, a2, hab⟩ := rtB_nb h0 ra
  obtain ⟨b1, b2, hbb⟩ := rtB_nb h0 rb
  have HS := hideIt (fun x => sdiv_any 5 t al ah bl bh x h0 (by omega) hab hbb a1 a2 b1 b2)
  generalize divA 5 t al ah bl bh = r at *
  obtain ⟨z1, z2, z3⟩ := r
  have HT : Hid (∀ x, Calls Try.prog 37 #[.int .u8 5, .int .u8 t, spV al ah, spV bl bh] x fun e w' => e = .returned (.tuple #[.agg #[.int .i64 z1, .int .i64 z2], .bool z3]) ∧ Q x w') := HS
  clear a1 a2 b1 b2 hab hbb HS
  go_enter Try.func10, Try.ntmps10
  go_wp2_with (first | (go_at_call 29; refine (HR.out _ _ _).mono ?_; rintro e x ⟨rfl, q⟩; (try clear c0 c1 c2 c3 c4 c5 f4 f5); have R := hideIt (R.out.trans q); clear q; obtain ⟨c0, c1, c2, c3, c4, c5, f4, f5⟩ := R.out.c6) | (go_at_call 37; refine (HT.out _).mono ?_; rintro e x ⟨rfl, q⟩; (try clear c0 c1 c2 c3 c4 c5 f4 f5); have R := hideIt (R.out.trans q); clear q; obtain ⟨c0, c1, c2, c3, c4, c5, f4, f5⟩ := R.out.c6))
  exact bodyPost_ret (v := .tuple #[spV (z1) (z2), .bool z3]) (by simp [results, Try.results10, go_sem, c4, c5]) rfl ⟨rfl, q_set3 R.out _ _⟩

set_option maxHeartbeats 4000000 in
set_option maxRecDepth 100000 in
theorem sdo_9 (t al ah bl bh : Int) (w : World) (h0 : 0 ≤ t) (ra : rtB t al ah = true) :
    Calls Try.prog 10 #[.int .u8 9, .int .u8 t, spV al ah, spV bl bh] w fun e w' => e = .returned (retA (doA 9 t al ah bl bh)) ∧ Q w w' := by
  have R := hideIt (Q.refl (bx3 w al ah bl bh))
  have HE := hideIt empty_any
  have HR := hideIt (fun l h x => right_any t l h x h0)
  have ed : doA 9 t al ah bl bh = shA 9 t al ah bl bh := by simp [doA, ra]
  rw [ed]
  clear ed
  obtain ⟨a1, a2, hab⟩ := rtB_nb h0 ra
  have HS := hideIt (fun x => sshift_any 9 t al ah bl bh x h0 (by omega) a1 a2)
  generalize shA 9 t al ah bl bh = r at *
  obtain ⟨z1, z2, z3⟩ := r
  have HT : Hid (∀ x, Calls Try.prog 31 #[.int .u8 9, .int .u8 t, spV al ah, spV bl bh] x fun e w' => e = .returned (.tuple #[.agg #[.int .i64 z1, .int .i64 z2], .bool z3]) ∧ Q x w') := HS
  clear a1 a2 hab HS
  go_enter Try.func10, Try.ntmps10
  go_wp2_with (first | (go_at_call 29; refine (HR.out _ _ _).mono ?_; rintro e x ⟨rfl, q⟩; (try clear c0 c1 c2 c3 c4 c5 f4 f5); have R := hideIt (R.out.trans q); clear q; obtain ⟨c0, c1, c2, c3, c4, c5, f4, f5⟩ := R.out.c6) | (go_at_call 31; refine (HT.out _).mono ?_; rintro e x ⟨rfl, q⟩; (try clear c0 c1 c2 c3 c4 c5 f4 f5); have R := hideIt (R.out.trans q); clear q; obtain ⟨c0, c1, c2, c3, c4, c5, f4, f5⟩ := R.out.c6))
  exact bodyPost_ret (v := .tuple #[spV (z1) (z2), .bool z3]) (by simp [results, Try.results10, go_sem, c4, c5]) rfl ⟨rfl, q_set3 R.out _ _⟩

set_option maxHeartbeats 4000000 in
set_option maxRecDepth 100000 in
theorem sdo_10 (t al ah bl bh : Int) (w : World) (h0 : 0 ≤ t) (ra : rtB t al ah = true) :
    Calls Try.prog 10 #[.int .u8 10, .int .u8 t, spV al ah, spV bl bh] w fun e w' => e = .returned (retA (doA 10 t al ah bl bh)) ∧ Q w w' := by
  have R := hideIt (Q.refl (bx3 w al ah bl bh))
  have HE := hideIt empty_any
  have HR := hideIt (fun l h x => right_any t l h x h0)
  have ed : doA 10 t al ah bl bh = shA 10 t al ah bl bh := by simp [doA, ra]
  rw [ed]
  clear ed
  obtain ⟨a1, a2, hab⟩ := rtB_nb h0 ra
  have HS := hideIt (fun x => sshift_any 10 t al ah bl bh x h0 (by omega) a1 a2)
  generalize shA 10 t al ah bl bh = r at *
  obtain ⟨z1, z2, z3⟩ := r
  have HT : Hid (∀ x, Calls Try.prog 31 #[.int .u8 10, .int .u8 t, spV al ah, spV bl bh] x fun e w' => e = .returned (.tuple #[.agg #[.int .i64 z1, .int .i64 z2], .bool z3]) ∧ Q x w') := HS
  clear a1 a2 hab HS
  go_enter Try.func10, Try.ntmps10
  go_wp2_with (first | (go_at_call 29; refine (HR.out _ _ _).mono ?_; rintro e x ⟨rfl, q⟩; (try clear c0 c1 c2 c3 c4 c5 f4 f5); have R := hideIt (R.out.trans q); clear q; obtain ⟨c0, c1, c2, c3, c4, c5, f4, f5⟩ := R.out.c6) | (go_at_call 31; refine (HT.out _).mono ?_; rintro e x ⟨rfl, q⟩; (try clear c0 c1 c2 c3 c4 c5 f4 f5); have R := hideIt (R.out.trans q); clear q; obtain ⟨c0, c1, c2, c3, c4, c5, f4, f5⟩ := R.out.c6))
  exact bodyPost_ret (v := .tuple #[spV (z1) (z2), .bool z3]) (by simp [results, Try.results10, go_sem, c4, c5]) rfl ⟨rfl, q_set3 R.out _ _⟩

set_option maxHeartbeats 4000000 in
set_option maxRecDepth 100000 in
theorem sdo_6 (t al ah bl bh : Int) (w : World) (h0 : 0 ≤ t) (ra : rtB t al ah = true) (rb : rtB t bl bh = true) :
    Calls Try.prog 10 #[.int .u8 6, .int .u8 t, spV al ah, spV bl bh] w fun e w' => e = .returned (retA (doA 6 t al ah bl bh)) ∧ Q w w' := by
  have R := hideIt (Q.refl (bx3 w al ah bl bh))
  have HE := hideIt empty_any
  have HR := hideIt (fun l h x => right_any t l h x h0)
  have ed : doA 6 t al ah bl bh = (biL 6 t al ah bl bh, biH 6 t al ah bl bh, true) := by simp [doA, ra, rb]
  rw [ed]
  clear ed
  obtain ⟨a1, a2, hab⟩ := rtB_nb h0 ra
  obtain ⟨b1, b2, hbb⟩ := rtB_nb h0 rb
  have HT := hideIt (fun x => sbit_any 6 t al ah bl bh x h0 (by omega) a2 b2 hab hbb)
  generalize biL 6 t al ah bl bh = z1 at *
  generalize biH 6 t al ah bl bh = z2 at *
  clear a1 a2 b1 b2 hab hbb
  go_enter Try.func10, Try.ntmps10
  go_wp2_with (first | (go_at_call 29; refine (HR.out _ _ _).mono ?_; rintro e x ⟨rfl, q⟩; (try clear c0 c1 c2 c3 c4 c5 f4 f5); have R := hideIt (R.out.trans q); clear q; obtain ⟨c0, c1, c2, c3, c4, c5, f4, f5⟩ := R.out.c6) | (go_at_call 38; refine (HT.out _).mono ?_; rintro e x ⟨rfl, q⟩; (try clear c0 c1 c2 c3 c4 c5 f4 f5); have R := hideIt (R.out.trans q); clear q; obtain ⟨c0, c1, c2, c3, c4, c5, f4, f5⟩ := R.out.c6))
  exact bodyPost_ret (v := .tuple #[spV (z1) (z2), .bool true]) (by simp [results, Try.results10, go_sem, c4, c5]) rfl ⟨rfl, q_set3 R.out _ _⟩

set_option maxHeartbeats 4000000 in
set_option maxRecDepth 100000 in
theorem sdo_7 (t al ah bl bh : Int) (w : World) (h0 : 0 ≤ t) (ra : rtB t al ah = true) (rb : rtB t bl bh = true) :
    Calls Try.prog 10 #[.int .u8 7, .int .u8 t, spV al ah, spV bl bh] w fun e w' => e = .returned (retA (doA 7 t al ah bl bh)) ∧ Q w w' := by
  have R := hideIt (Q.refl (bx3 w al ah bl bh))
  have HE := hideIt empty_any
  have HR := hideIt (fun l h x => right_any t l h x h0)
  have ed : doA 7 t al ah bl bh = (biL 7 t al ah bl bh, biH 7 t al ah bl bh, true) := by simp [doA, ra, rb]
  rw [ed]
  clear ed
  obtain ⟨a1, a2, hab⟩ := rtB_nb h0 ra
  obtain ⟨b1, b2, hbb⟩ := rtB_nb h0 rb
  have HT := hideIt (fun x => sbit_any 7 t al ah bl bh x h0 (by omega) a2 b2 hab hbb)
  generalize biL 7 t al ah bl bh = z1 at *
  generalize biH 7 t al ah bl bh = z2 at *
  clear a1 a2 b1 b2 hab hbb
  go_enter Try.func10, Try.ntmps10
  go_wp2_with (first | (go_at_call 29; refine (HR.out _ _ _).mono ?_; rintro e x ⟨rfl, q⟩; (try clear c0 c1 c2 c3 c4 c5 f4 f5); have R := hideIt (R.out.trans q); clear q; obtain ⟨c0, c1, c2, c3, c4, c5, f4, f5⟩ := R.out.c6) | (go_at_call 38; refine (HT.out _).mono ?_; rintro e x ⟨rfl, q⟩; (try clear c0 c1 c2 c3 c4 c5 f4 f5); have R := hideIt (R.out.trans q); clear q; obtain ⟨c0, c1, c2, c3, c4, c5, f4, f5⟩ := R.out.c6))
  exact bodyPost_ret (v := .tuple #[spV (z1) (z2), .bool true]) (by simp [results, Try.results10, go_sem, c4, c5]) rfl ⟨rfl, q_set3 R.out _ _⟩

set_option maxHeartbeats 4000000 in
set_option maxRecDepth 100000 in
theorem sdo_8 (t al ah bl bh : Int) (w : World) (h0 : 0 ≤ t) (ra : rtB t al ah = true) (rb : rtB t bl bh = true) :
    Calls Try.prog 10 #[.int .u8 8, .int .u8 t, spV al ah, spV bl bh] w fun e w' => e = .returned (retA (doA 8 t al ah bl bh)) ∧ Q w w' := by
  have R := hideIt (Q.refl (bx3 w al ah bl bh))
  have HE := hideIt empty_any
  have HR := hideIt (fun l h x => right_any t l h x h0)
  have ed : doA 8 t al ah bl bh = (biL 8 t al ah bl bh, biH 8 t al ah bl bh, true) := by simp [doA, ra, rb]
  rw [ed]
  clear ed
  obtain ⟨a1, a2, hab⟩ := rtB_nb h0 ra
  obtain ⟨b1, b2, hbb⟩ := rtB_nb h0 rb
  have HT := hideIt (fun x => sbit_any 8 t al ah bl bh x h0 (by omega) a2 b2 hab hbb)
  generalize biL 8 t al ah bl bh = z1 at *
  generalize biH 8 t al ah bl bh = z2 at *
  clear a1 a2 b1 b2 hab hbb
  go_enter Try.func10, Try.ntmps10
  go_wp2_with (first | (go_at_call 29; refine (HR.out _ _ _).mono ?_; rintro e x ⟨rfl, q⟩; (try clear c0 c1 c2 c3 c4 c5 f4 f5); have R := hideIt (R.out.trans q); clear q; obtain ⟨c0, c1, c2, c3, c4, c5, f4, f5⟩ := R.out.c6) | (go_at_call 38; refine (HT.out _).mono ?_; rintro e x ⟨rfl, q⟩; (try clear c0 c1 c2 c3 c4 c5 f4 f5); have R := hideIt (R.out.trans q); clear q; obtain ⟨c0, c1, c2, c3, c4, c5, f4, f5⟩ := R.out.c6))
  exact bodyPost_ret (v := .tuple #[spV (z1) (z2), .bool true]) (by simp [results, Try.results10, go_sem, c4, c5]) rfl ⟨rfl, q_set3 R.out _ _⟩

set_option maxHeartbeats 4000000 in
set_option maxRecDepth 100000 in
theorem sdo_11 (t al ah bl bh : Int) (w : World) (h0 : 0 ≤ t) (ra : rtB t al ah = true) (rb : rtB t bl bh = true) :
    Calls Try.prog 10 #[.int .u8 11, .int .u8 t, spV al ah, spV bl bh] w fun e w' => e = .returned (retA (doA 11 t al ah bl bh)) ∧ Q w w' := by
  have R := hideIt (Q.refl (bx3 w al ah bl bh))
  have HE := hideIt empty_any
  have HR := hideIt (fun l h x => right_any t l h x h0)
  have ed : doA 11 t al ah bl bh = ((cmA 11 al ah bl bh).1, (cmA 11 al ah bl bh).2, true) := by simp [doA, ra, rb]
  rw [ed]
  clear ed
  obtain ⟨a1, a2, hab⟩ := rtB_nb h0 ra
  have HT := hideIt (fun x => scmp_any 11 al ah bl bh x (by omega) (by omega))
  generalize (cmA 11 al ah bl bh).1 = z1 at *
  generalize (cmA 11 al ah bl bh).2 = z2 at *
  clear a1 a2 hab
  go_enter Try.func10, Try.ntmps10
  go_wp2_with (first | (go_at_call 29; refine (HR.out _ _ _).mono ?_; rintro e x ⟨rfl, q⟩; (try clear c0 c1 c2 c3 c4 c5 f4 f5); have R := hideIt (R.out.trans q); clear q; obtain ⟨c0, c1, c2, c3, c4, c5, f4, f5⟩ := R.out.c6) | (go_at_call 39; refine (HT.out _).mono ?_; rintro e x ⟨rfl, q⟩; (try clear c0 c1 c2 c3 c4 c5 f4 f5); have R := hideIt (R.out.trans q); clear q; obtain ⟨c0, c1, c2, c3, c4, c5, f4, f5⟩ := R.out.c6))
  exact bodyPost_ret (v := .tuple #[spV (z1) (z2), .bool true]) (by simp [results, Try.results10, go_sem, c4, c5]) rfl ⟨rfl, q_set3 R.out _ _⟩

set_option maxHeartbeats 4000000 in
set_option maxRecDepth 100000 in
theorem sdo_12 (t al ah bl bh : Int) (w : World) (h0 : 0 ≤ t) (ra : rtB t al ah = true) (rb : rtB t bl bh = true) :
    Calls Try.prog 10 #[.int .u8 12, .int .u8 t, spV al ah, spV bl bh] w fun e w' => e = .returned (retA (doA 12 t al ah bl bh)) ∧ Q w w' := by
  have R := hideIt (Q.refl (bx3 w al ah bl bh))
  have HE := hideIt empty_any
  have HR := hideIt (fun l h x => right_any t l h x h0)
  have ed : doA 12 t al ah bl bh = ((cmA 12 al ah bl bh).1, (cmA 12 al ah bl bh).2, true) := by simp [doA, ra, rb]
  rw [ed]
  clear ed
  obtain ⟨a1, a2, hab⟩ := rtB_nb h0 ra
  have HT := hideIt (fun x => scmp_any 12 al ah bl bh x (by omega) (by omega))
  generalize (cmA 12 al ah bl bh).1 = z1 at *
  generalize (cmA 12 al ah bl bh).2 = z2 at *
  clear a1 a2 hab
  go_enter Try.func10, Try.ntmps10
  go_wp2_with (first | (go_at_call 29; refine (HR.out _ _ _).mono ?_; rintro e x ⟨rfl, q⟩; (try clear c0 c1 c2 c3 c4 c5 f4 f5); have R := hideIt (R.out.trans q); clear q; obtain ⟨c0, c1, c2, c3, c4, c5, f4, f5⟩ := R.out.c6) | (go_at_call 39; refine (HT.out _).mono ?_; rintro e x ⟨rfl, q⟩; (try clear c0 c1 c2 c3 c4 c5 f4 f5); have R := hideIt (R.out.trans q); clear q; obtain ⟨c0, c1, c2, c3, c4, c5, f4, f5⟩ := R.out.c6))
  exact bodyPost_ret (v := .tuple #[spV (z1) (z2), .bool true]) (by simp [results, Try.results10, go_sem, c4, c5]) rfl ⟨rfl, q_set3 R.out _ _⟩

set_option maxHeartbeats 4000000 in
set_option maxRecDepth 100000 in
theorem sdo_13 (t al ah bl bh : Int) (w : World) (h0 : 0 ≤ t) (ra : rtB t al ah = true) (rb : rtB t bl bh = true) :
    Calls Try.prog 10 #[.int .u8 13, .int .u8 t, spV al ah, spV bl bh] w fun e w' => e = .returned (retA (doA 13 t al ah bl bh)) ∧ Q w w' := by
  have R := hideIt (Q.refl (bx3 w al ah bl bh))
  have HE := hideIt empty_any
  have HR := hideIt (fun l h x => right_any t l h x h0)
  have ed : doA 13 t al ah bl bh = ((cmA 13 al ah bl bh).1, (cmA 13 al ah bl bh).2, true) := by simp [doA, ra, rb]
  rw [ed]
  clear ed
  obtain ⟨a1, a2, hab⟩ := rtB_nb h0 ra
  have HT := hideIt (fun x => scmp_any 13 al ah bl bh x (by omega) (by omega))
  generalize (cmA 13 al ah bl bh).1 = z1 at *
  generalize (cmA 13 al ah bl bh).2 = z2 at *
  clear a1 a2 hab
  go_enter Try.func10, Try.ntmps10
  go_wp2_with (first | (go_at_call 29; refine (HR.out _ _ _).mono ?_; rintro e x ⟨rfl, q⟩; (try clear c0 c1 c2 c3 c4 c5 f4 f5); have R := hideIt (R.out.trans q); clear q; obtain ⟨c0, c1, c2, c3, c4, c5, f4, f5⟩ := R.out.c6) | (go_at_call 39; refine (HT.out _).mono ?_; rintro e x ⟨rfl, q⟩; (try clear c0 c1 c2 c3 c4 c5 f4 f5); have R := hideIt (R.out.trans q); clear q; obtain ⟨c0, c1, c2, c3, c4, c5, f4, f5⟩ := R.out.c6))
  exact bodyPost_ret (v := .tuple #[spV (z1) (z2), .bool true]) (by simp [results, Try.results10, go_sem, c4, c5]) rfl ⟨rfl, q_set3 R.out _ _⟩

set_option maxHeartbeats 4000000 in
set_option maxRecDepth 100000 in
theorem sdo_14 (t al ah bl bh : Int) (w : World) (h0 : 0 ≤ t) (ra : rtB t al ah = true) (rb : rtB t bl bh = true) :
    Calls Try.prog 10 #[.int .u8 14, .int .u8 t, spV al ah, spV bl bh] w fun e w' => e = .returned (retA (doA 14 t al ah bl bh)) ∧ Q w w' := by
  have R := hideIt (Q.refl (bx3 w al ah bl bh))
  have HE := hideIt empty_any
  have HR := hideIt (fun l h x => right_any t l h x h0)
  have ed : doA 14 t al ah bl bh = ((cmA 14 al ah bl bh).1, (cmA 14 al ah bl bh).2, true) := by simp [doA, ra, rb]
  rw [ed]
  clear ed
  obtain ⟨a1, a2, hab⟩ := rtB_nb h0 ra
  have HT := hideIt (fun x => scmp_any 14 al ah bl bh x (by omega) (by omega))
  generalize (cmA 14 al ah bl bh).1 = z1 at *
  generalize (cmA 14 al ah bl bh).2 = z2 at *
  clear a1 a2 hab
  go_enter Try.func10, Try.ntmps10
  go_wp2_with (first | (go_at_call 29; refine (HR.out _ _ _).mono ?_; rintro e x ⟨rfl, q⟩; (try clear c0 c1 c2 c3 c4 c5 f4 f5); have R := hideIt (R.out.trans q); clear q; obtain ⟨c0, c1, c2, c3, c4, c5, f4, f5⟩ := R.out.c6) | (go_at_call 39; refine (HT.out _).mono ?_; rintro e x ⟨rfl, q⟩; (try clear c0 c1 c2 c3 c4 c5 f4 f5); have R := hideIt (R.out.trans q); clear q; obtain ⟨c0, c1, c2, c3, c4, c5, f4, f5⟩ := R.out.c6))
  exact bodyPost_ret (v := .tuple #[spV (z1) (z2), .bool true]) (by simp [results, Try.results10, go_sem, c4, c5]) rfl ⟨rfl, q_set3 R.out _ _⟩

set_option maxHeartbeats 4000000 in
set_option maxRecDepth 100000 in
theorem sdo_15 (t al ah bl bh : Int) (w : World) (h0 : 0 ≤ t) (ra : rtB t al ah = true) (rb : rtB t bl bh = true) :
    Calls Try.prog 10 #[.int .u8 15, .int .u8 t, spV al ah, spV bl bh] w fun e w' => e = .returned (retA (doA 15 t al ah bl bh)) ∧ Q w w' := by
  have R := hideIt (Q.refl (bx3 w al ah bl bh))
  have HE := hideIt empty_any
  have HR := hideIt (fun l h x => right_any t l h x h0)
  have ed : doA 15 t al ah bl bh = ((cmA 15 al ah bl bh).1, (cmA 15 al ah bl bh).2, true) := by simp [doA, ra, rb]
  rw [ed]
  clear ed
  obtain ⟨a1, a2, hab⟩ := rtB_nb h0 ra
  have HT := hideIt (fun x => scmp_any 15 al ah bl bh x (by omega) (by omega))
  generalize (cmA 15 al ah bl bh).1 = z1 at *
  generalize (cmA 15 al ah bl bh).2 = z2 at *
  clear a1 a2 hab
  go_enter Try.func10, Try.ntmps10
  go_wp2_with (first | (go_at_call 29; refine (HR.out _ _ _).mono ?_; rintro e x ⟨rfl, q⟩; (try clear c0 c1 c2 c3 c4 c5 f4 f5); have R := hideIt (R.out.trans q); clear q; obtain ⟨c0, c1, c2, c3, c4, c5, f4, f5⟩ := R.out.c6) | (go_at_call 39; refine (HT.out _).mono ?_; rintro e x ⟨rfl, q⟩; (try clear c0 c1 c2 c3 c4 c5 f4 f5); have R := hideIt (R.out.trans q); clear q; obtain ⟨c0, c1, c2, c3, c4, c5, f4, f5⟩ := R.out.c6))
  exact bodyPost_ret (v := .tuple #[spV (z1) (z2), .bool true]) (by simp [results, Try.results10, go_sem, c4, c5]) rfl ⟨rfl, q_set3 R.out _ _⟩

set_option maxHeartbeats 4000000 in
set_option maxRecDepth 100000 in
theorem sdo_16 (t al ah bl bh : Int) (w : World) (h0 : 0 ≤ t) (ra : rtB t al ah = true) (rb : rtB t bl bh = true) :
    Calls Try.prog 10 #[.int .u8 16, .int .u8 t, spV al ah, spV bl bh] w fun e w' => e = .returned (retA (doA 16 t al ah bl bh)) ∧ Q w w' := by
  have R := hideIt (Q.refl (bx3 w al ah bl bh))
  have HE := hideIt empty_any
  have HR := hideIt (fun l h x => right_any t l h x h0)
  have ed : doA 16 t al ah bl bh = ((cmA 16 al ah bl bh).1, (cmA 16 al ah bl bh).2, true) := by simp [doA, ra, rb]
  rw [ed]
  clear ed
  obtain ⟨a1, a2, hab⟩ := rtB_nb h0 ra
  have HT := hideIt (fun x => scmp_any 16 al ah bl bh x (by omega) (by omega))
  generalize (cmA 16 al ah bl bh).1 = z1 at *
  generalize (cmA 16 al ah bl bh).2 = z2 at *
  clear a1 a2 hab
  go_enter Try.func10, Try.ntmps10
  go_wp2_with (first | (go_at_call 29; refine (HR.out _ _ _).mono ?_; rintro e x ⟨rfl, q⟩; (try clear c0 c1 c2 c3 c4 c5 f4 f5); have R := hideIt (R.out.trans q); clear q; obtain ⟨c0, c1, c2, c3, c4, c5, f4, f5⟩ := R.out.c6) | (go_at_call 39; refine (HT.out _).mono ?_; rintro e x ⟨rfl, q⟩; (try clear c0 c1 c2 c3 c4 c5 f4 f5); have R := hideIt (R.out.trans q); clear q; obtain ⟨c0, c1, c2, c3, c4, c5, f4, f5⟩ := R.out.c6))
  exact bodyPost_ret (v := .tuple #[spV (z1) (z2), .bool true]) (by simp [results, Try.results10, go_sem, c4, c5]) rfl ⟨rfl, q_set3 R.out _ _⟩

theorem sdo_any (op t al ah bl bh : Int) (w : World) (h0 : 0 ≤ t) :
    Calls Try.prog 10 #[.int .u8 op, .int .u8 t, spV al ah, spV bl bh] w fun e w' => e = .returned (retA (doA op t al ah bl bh)) ∧ Q w w' := by
  by_cases ho : op < 1 ∨ 16 < op
  · exact sdo_out op t al ah bl bh w h0 ho
  · cases ra : rtB t al ah with
    | false => exact sdo_a op t al ah bl bh w h0 (by omega) (by omega) ra
    | true =>
      by_cases h9 : op = 9
      · subst h9
        exact sdo_9 t al ah bl bh w h0 ra
      · by_cases h10 : op = 10
        · subst h10
          exact sdo_10 t al ah bl bh w h0 ra
        · cases rb : rtB t bl bh with
          | false => exact sdo_b op t al ah bl bh w h0 (by omega) (by omega) h9 h10 ra rb
          | true =>
            have h : op = 1 ∨ op = 2 ∨ op = 3 ∨ op = 4 ∨ op = 5 ∨ op = 6 ∨ op = 7 ∨ op = 8 ∨ op = 11 ∨ op = 12 ∨ op = 13 ∨ op = 14 ∨ op = 15 ∨ op = 16 := by omega
            rcases h with rfl | rfl | rfl | rfl | rfl | rfl | rfl | rfl | rfl | rfl | rfl | rfl | rfl | rfl
            · exact sdo_1 t al ah bl bh w h0 ra rb
            · exact sdo_2 t al ah bl bh w h0 ra rb
            · exact sdo_3 t al ah bl bh w h0 ra rb
            · exact sdo_4 t al ah bl bh w h0 ra rb
            · exact sdo_5 t al ah bl bh w h0 ra rb
            · exact sdo_6 t al ah bl bh w h0 ra rb
            · exact sdo_7 t al ah bl bh w h0 ra rb
            · exact sdo_8 t al ah bl bh w h0 ra rb
            · exact sdo_11 t al ah bl bh w h0 ra rb
            · exact sdo_12 t al ah bl bh w h0 ra rb
            · exact sdo_13 t al ah bl bh w h0 ra rb
            · exact sdo_14 t al ah bl bh w h0 ra rb
            · exact sdo_15 t al ah bl bh w h0 ra rb
            · exact sdo_16 t al ah bl bh w h0 ra rb

end Go.Proofs.Ytancfhnhjfhbfaa
