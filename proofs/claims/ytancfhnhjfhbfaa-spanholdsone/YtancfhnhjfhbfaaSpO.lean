/-
  What Un of layer 10, and the document's, return: contracts over the program, for every operation's and type's number and all spans.
-/
import Derived.Test.YtancfhnhjfhbfaaSpN
import Derived.Test.YtancfhnhjfhbfaaSpM
namespace Go.Proofs.Ytancfhnhjfhbfaa
open Go.RowKit
open Burin
set_option linter.unusedVariables false
attribute [local go_sem ↓] run_fld0 run_fld1

theorem q_out {w y : World} {l r : Int} (q : Q (bx (bx w l r) 0 0) y) : Q (bx w l r) y := ((Q.refl _).alloc _).trans q

set_option maxHeartbeats 1000000 in
theorem un_a (op t l r : Int) (w : World) (h0 : 0 ≤ t) (o1 : 1 ≤ op) (o3 : op ≤ 3) (hr : rtB t l r = false) : Calls Try.prog 12 #[.int .u8 op, .int .u8 t, .agg #[.int .i64 l, .int .i64 r]] w fun e w' => e = .returned (.tuple #[.agg #[.int .i64 (unA op t l r).1, .int .i64 (unA op t l r).2.1], .bool (unA op t l r).2.2]) ∧ Q w w' := by
  have e : unA op t l r = (1, 0, false) := by unfold unA; rw [if_pos (.inr (.inr hr))]
  rw [e]
  clear e
  have q0 : Q (bx (bx w l r) 0 0) (bx (bx w l r) 0 0) := Q.refl _
  have HR := hideIt (held2 (w := w) (a := l) (b := r) (c := 0) (d := 0) (fun x => right_any t l r x h0))
  have HE := hideIt (held2 (w := w) (a := l) (b := r) (c := 0) (d := 0) (fun x => empty_any x))
  rw [hr] at HR
  go_enter Try.func12, Try.ntmps12
  go_wp2_with (first | (go_at_call 29; refine (HR.out _ q0).mono ?_; rintro e x1 ⟨rfl, q1, c0, c1, c2, c3⟩; have Q1 := hideIt q1; have f0 := q1.f4.1; have f1 := q1.f4.2; clear q1) | (go_at_call 30; refine (HE.out _ Q1.out).mono ?_; rintro e x2 ⟨rfl, q2, d0, d1, d2, d3⟩; have Q2 := hideIt q2; have g0 := q2.f4.1; have g1 := q2.f4.2; clear q2))
  exact bodyPost_ret (v := .tuple #[spV 1 0, .bool false]) (by simp [results, Try.results12, go_sem, d2, d3]) rfl ⟨rfl, q_set2 Q2.out _ _⟩

set_option maxHeartbeats 1000000 in
theorem un_out (op t l r : Int) (w : World) (h0 : 0 ≤ t) (ho : op < 1 ∨ 3 < op) : Calls Try.prog 12 #[.int .u8 op, .int .u8 t, .agg #[.int .i64 l, .int .i64 r]] w fun e w' => e = .returned (.tuple #[.agg #[.int .i64 (unA op t l r).1, .int .i64 (unA op t l r).2.1], .bool (unA op t l r).2.2]) ∧ Q w w' := by
  have e : unA op t l r = (1, 0, false) := by unfold unA; rw [if_pos (by omega)]
  rw [e]
  clear e
  have q0 : Q (bx (bx w l r) 0 0) (bx (bx w l r) 0 0) := Q.refl _
  have HR := hideIt (held2 (w := w) (a := l) (b := r) (c := 0) (d := 0) (fun x => right_any t l r x h0))
  have HE := hideIt (held2 (w := w) (a := l) (b := r) (c := 0) (d := 0) (fun x => empty_any x))
  have d1 : (op == 1) = false := by simp; omega
  have d2 : (op == 2) = false := by simp; omega
  have d3 : (op == 3) = false := by simp; omega
  cases hr : rtB t l r
  · rw [hr] at HR
    go_enter Try.func12, Try.ntmps12
    go_wp2_with (first | (go_at_call 29; refine (HR.out _ q0).mono ?_; rintro e x1 ⟨rfl, q1, c0, c1, c2, c3⟩; have Q1 := hideIt q1; have f0 := q1.f4.1; have f1 := q1.f4.2; clear q1) | (go_at_call 30; refine (HE.out _ Q1.out).mono ?_; rintro e x2 ⟨rfl, q2, m0, m1, m2, m3⟩; have Q2 := hideIt q2; have g0 := q2.f4.1; have g1 := q2.f4.2; clear q2))
    exact bodyPost_ret (v := .tuple #[spV 1 0, .bool false]) (by simp [results, Try.results12, go_sem, m2, m3]) rfl ⟨rfl, q_set2 Q2.out _ _⟩
  · rw [hr] at HR
    go_enter Try.func12, Try.ntmps12
    go_wp2_with (first | (go_at_call 29; refine (HR.out _ q0).mono ?_; rintro e x1 ⟨rfl, q1, c0, c1, c2, c3⟩; have Q1 := hideIt q1; have f0 := q1.f4.1; have f1 := q1.f4.2; clear q1) | (go_at_call 30; refine (HE.out _ Q1.out).mono ?_; rintro e x2 ⟨rfl, q2, m0, m1, m2, m3⟩; have Q2 := hideIt q2; have g0 := q2.f4.1; have g1 := q2.f4.2; clear q2))
    exact bodyPost_ret (v := .tuple #[spV 1 0, .bool false]) (by simp [results, Try.results12, go_sem, m2, m3]) rfl ⟨rfl, q_set2 Q2.out _ _⟩

set_option maxHeartbeats 1000000 in
theorem un_1 (t l r : Int) (w : World) (h0 : 0 ≤ t) (hr : rtB t l r = true) : Calls Try.prog 12 #[.int .u8 1, .int .u8 t, .agg #[.int .i64 l, .int .i64 r]] w fun e w' => e = .returned (.tuple #[.agg #[.int .i64 (unA 1 t l r).1, .int .i64 (unA 1 t l r).2.1], .bool (unA 1 t l r).2.2]) ∧ Q w w' := by
  have e : unA 1 t l r = fiA t (-r) (-l) := by unfold unA; rw [if_neg (by rw [hr]; simp)]; rfl
  rw [e]
  clear e
  obtain ⟨⟨l1, l2⟩, ⟨r1, r2⟩, _⟩ := rtB_nb h0 hr
  have q0 : Q (bx (bx w l r) 0 0) (bx (bx w l r) 0 0) := Q.refl _
  have HR := hideIt (held2 (w := w) (a := l) (b := r) (c := 0) (d := 0) (fun x => right_any t l r x h0))
  rw [hr] at HR
  have HF := hideIt (held2 (w := w) (a := l) (b := r) (c := 0) (d := 0) (fun x => fit_any t (-r) (-l) x h0))
  have HF : Hid (∀ x, Q (bx (bx w l r) 0 0) x → Calls Try.prog 32 #[.int .u8 t, spV (-r) (-l)] x fun e w' => e = .returned (.tuple #[.agg #[.int .i64 (fiA t (-r) (-l)).1, .int .i64 (fiA t (-r) (-l)).2.1], .bool (fiA t (-r) (-l)).2.2]) ∧ Q (bx (bx w l r) 0 0) w' ∧ w'.cell? ⟨w.heap.size, 0, none⟩ = some (.int .i64 l) ∧ w'.cell? ⟨w.heap.size, 1, none⟩ = some (.int .i64 r) ∧ w'.cell? ⟨w.heap.size + 1, 0, none⟩ = some (.int .i64 0) ∧ w'.cell? ⟨w.heap.size + 1, 1, none⟩ = some (.int .i64 0)) := HF
  generalize (fiA t (-r) (-l)).1 = z1 at *
  generalize (fiA t (-r) (-l)).2.1 = z2 at *
  generalize (fiA t (-r) (-l)).2.2 = z3 at *
  go_enter Try.func12, Try.ntmps12
  go_wp2_with (first | (go_at_call 29; refine (HR.out _ q0).mono ?_; rintro e x1 ⟨rfl, q1, c0, c1, c2, c3⟩; have Q1 := hideIt q1; have f0 := q1.f4.1; have f1 := q1.f4.2; clear q1) | (go_at_call 32; refine (HF.out _ Q1.out).mono ?_; rintro e x2 ⟨rfl, q2, d0, d1, d2, d3⟩; have Q2 := hideIt q2; have g0 := q2.f4.1; have g1 := q2.f4.2; clear q2))
  exact bodyPost_ret (v := .tuple #[spV z1 z2, .bool z3]) (by simp [results, Try.results12, go_sem, d2, d3]) rfl ⟨rfl, q_set2 Q2.out _ _⟩

set_option maxHeartbeats 1000000 in
theorem un_2s (t l r : Int) (w : World) (h0 : 0 ≤ t) (hr : rtB t l r = true) (hs : sgn t = true) : Calls Try.prog 12 #[.int .u8 2, .int .u8 t, .agg #[.int .i64 l, .int .i64 r]] w fun e w' => e = .returned (.tuple #[.agg #[.int .i64 (unA 2 t l r).1, .int .i64 (unA 2 t l r).2.1], .bool (unA 2 t l r).2.2]) ∧ Q w w' := by
  have e : unA 2 t l r = (-r - 1, -l - 1, true) := by unfold unA; rw [if_neg (by rw [hr]; simp), hs]; simp
  rw [e]
  clear e
  obtain ⟨⟨l1, l2⟩, ⟨r1, r2⟩, _⟩ := rtB_nb h0 hr
  have q0 : Q (bx (bx w l r) 0 0) (bx (bx w l r) 0 0) := Q.refl _
  have HR := hideIt (held2 (w := w) (a := l) (b := r) (c := 0) (d := 0) (fun x => right_any t l r x h0))
  rw [hr] at HR
  have HG := hideIt (fun x => signed_any t x h0)
  rw [hs] at HG
  go_enter Try.func12, Try.ntmps12
  go_wp2_with (first | (go_at_call 29; refine (HR.out _ q0).mono ?_; rintro e x1 ⟨rfl, q1, c0, c1, c2, c3⟩; have Q1 := hideIt q1; have f0 := q1.f4.1; have f1 := q1.f4.2; clear q1) | (go_at_call 51; refine (HG.out _).mono ?_; rintro e x2 ⟨rfl, rfl⟩))
  exact bodyPost_ret (v := .tuple #[spV (-r - 1) (-l - 1), .bool true]) (by simp [results, Try.results12, go_sem, c2, c3]) rfl ⟨rfl, q_set2 Q1.out _ _⟩

set_option maxHeartbeats 1000000 in
theorem un_2u (t l r : Int) (w : World) (h0 : 0 ≤ t) (hr : rtB t l r = true) (hs : sgn t = false) : Calls Try.prog 12 #[.int .u8 2, .int .u8 t, .agg #[.int .i64 l, .int .i64 r]] w fun e w' => e = .returned (.tuple #[.agg #[.int .i64 (unA 2 t l r).1, .int .i64 (unA 2 t l r).2.1], .bool (unA 2 t l r).2.2]) ∧ Q w w' := by
  have e : unA 2 t l r = (high t - r, high t - l, true) := by unfold unA; rw [if_neg (by rw [hr]; simp), hs]; simp
  rw [e]
  clear e
  obtain ⟨⟨l1, l2⟩, ⟨r1, r2⟩, _⟩ := rtB_nb h0 hr
  have hb := low_nb' t h0 (rtB_bd h0 hr).1
  have q0 : Q (bx (bx w l r) 0 0) (bx (bx w l r) 0 0) := Q.refl _
  have HR := hideIt (held2 (w := w) (a := l) (b := r) (c := 0) (d := 0) (fun x => right_any t l r x h0))
  rw [hr] at HR
  have HG := hideIt (fun x => signed_any t x h0)
  rw [hs] at HG
  have HF := hideIt (held2 (w := w) (a := l) (b := r) (c := 0) (d := 0) (fun x => full_agg t x h0))
  generalize low t = tl at *
  generalize high t = th at *
  obtain ⟨hb1, hb2, hb3, hb4⟩ := hb
  go_enter Try.func12, Try.ntmps12
  go_wp2_with (first | (go_at_call 29; refine (HR.out _ q0).mono ?_; rintro e x1 ⟨rfl, q1, c0, c1, c2, c3⟩; have Q1 := hideIt q1; have f0 := q1.f4.1; have f1 := q1.f4.2; clear q1) | (go_at_call 51; refine (HG.out _).mono ?_; rintro e x2 ⟨rfl, rfl⟩) | (go_at_call 16; refine (HF.out _ Q1.out).mono ?_; rintro e x2 ⟨rfl, q2, d0, d1, d2, d3⟩; have Q2 := hideIt q2; have g0 := q2.f4.1; have g1 := q2.f4.2; clear q2))
  exact bodyPost_ret (v := .tuple #[spV (th - r) (th - l), .bool true]) (by simp [results, Try.results12, go_sem, d2, d3]) rfl ⟨rfl, q_set2 Q2.out _ _⟩

set_option maxHeartbeats 1000000 in
theorem un_3_11 (t l r : Int) (w : World) (h0 : 0 ≤ t) (hr : rtB t l r = true) (zl : (l == 0) = true) (zr : (r == 0) = true) : Calls Try.prog 12 #[.int .u8 3, .int .u8 t, .agg #[.int .i64 l, .int .i64 r]] w fun e w' => e = .returned (.tuple #[.agg #[.int .i64 (unA 3 t l r).1, .int .i64 (unA 3 t l r).2.1], .bool (unA 3 t l r).2.2]) ∧ Q w w' := by
  have hz : decide (l = 0 ∧ r = 0) = true := by simp at zl zr ⊢; exact ⟨zl, zr⟩
  have e : unA 3 t l r = (trL true (!hasB l r 0), trH true (!hasB l r 0), true) := by unfold unA; rw [if_neg (by rw [hr]; simp), hz]; rfl
  rw [e]
  clear e hz
  have q0 : Q (bx (bx w l r) 0 0) (bx (bx w l r) 0 0) := Q.refl _
  have HR := hideIt (held2 (w := w) (a := l) (b := r) (c := 0) (d := 0) (fun x => right_any t l r x h0))
  rw [hr] at HR
  have HA := hideIt (held2 (w := w) (a := l) (b := r) (c := 0) (d := 0) (fun x => hasB_any l r 0 x))
  have HT : Hid (∀ x, Q (bx (bx w l r) 0 0) x → Calls Try.prog 52 #[.bool true, .bool (!hasB l r 0)] x fun e w' => e = .returned (.agg #[.int .i64 (trL true (!hasB l r 0)), .int .i64 (trH true (!hasB l r 0))]) ∧ Q (bx (bx w l r) 0 0) w' ∧ w'.cell? ⟨w.heap.size, 0, none⟩ = some (.int .i64 l) ∧ w'.cell? ⟨w.heap.size, 1, none⟩ = some (.int .i64 r) ∧ w'.cell? ⟨w.heap.size + 1, 0, none⟩ = some (.int .i64 0) ∧ w'.cell? ⟨w.heap.size + 1, 1, none⟩ = some (.int .i64 0)) := hideIt (held2 (w := w) (a := l) (b := r) (c := 0) (d := 0) (fun x => truth_any true (!hasB l r 0) x))
  generalize hasB l r 0 = hb at *
  generalize trL true (!hb) = z1 at *
  generalize trH true (!hb) = z2 at *
  go_enter Try.func12, Try.ntmps12
  go_wp2_with (first | (go_at_call 29; refine (HR.out _ q0).mono ?_; rintro e x1 ⟨rfl, q1, c0, c1, c2, c3⟩; have Q1 := hideIt q1; have f0 := q1.f4.1; have f1 := q1.f4.2; clear q1))
  have qd := Q1.out.drew
  have n1 : (bx w l r).heap.size ≤ w.heap.size + 1 := by rw [bx_size]; exact Nat.le_refl _
  clear c0 c1 c2 c3 f0 f1
  first | go_region_held3 (fun y => Q (bx w l r) y ∧ y.cell? ⟨w.heap.size, 0, none⟩ = some (.int .i64 l) ∧ y.cell? ⟨w.heap.size, 1, none⟩ = some (.int .i64 r)) (first | exact ⟨q_out s0, (q_out s0).c2⟩ | exact ⟨q_set (q_out s0) n1 _ _, Q.c2 (q_set (q_out s0) n1 _ _)⟩ | exact ⟨q_out qd, (q_out qd).c2⟩) (first | (go_at_call 18; refine (HA.out _ (by assumption)).mono ?_; rintro e y ⟨rfl, s0, s1, s2, s3, s4⟩) | (go_at_call 52; refine (HT.out _ (by assumption)).mono ?_; rintro e y ⟨rfl, s0, s1, s2, s3, s4⟩; have m0 := s0.f4.1; have m1 := s0.f4.2)) | fail
  go_wp2_with (fail)
  exact bodyPost_ret (v := .tuple #[spV z1 z2, .bool true]) (by simp [results, Try.results12, go_sem, s3, s4]) rfl ⟨rfl, q_set2 s0 _ _⟩

set_option maxHeartbeats 1000000 in
theorem un_3_10 (t l r : Int) (w : World) (h0 : 0 ≤ t) (hr : rtB t l r = true) (zl : (l == 0) = true) (zr : (r == 0) = false) : Calls Try.prog 12 #[.int .u8 3, .int .u8 t, .agg #[.int .i64 l, .int .i64 r]] w fun e w' => e = .returned (.tuple #[.agg #[.int .i64 (unA 3 t l r).1, .int .i64 (unA 3 t l r).2.1], .bool (unA 3 t l r).2.2]) ∧ Q w w' := by
  have hz : decide (l = 0 ∧ r = 0) = false := by simp at zl zr ⊢; omega
  have e : unA 3 t l r = (trL false (!hasB l r 0), trH false (!hasB l r 0), true) := by unfold unA; rw [if_neg (by rw [hr]; simp), hz]; rfl
  rw [e]
  clear e hz
  have q0 : Q (bx (bx w l r) 0 0) (bx (bx w l r) 0 0) := Q.refl _
  have HR := hideIt (held2 (w := w) (a := l) (b := r) (c := 0) (d := 0) (fun x => right_any t l r x h0))
  rw [hr] at HR
  have HA := hideIt (held2 (w := w) (a := l) (b := r) (c := 0) (d := 0) (fun x => hasB_any l r 0 x))
  have HT : Hid (∀ x, Q (bx (bx w l r) 0 0) x → Calls Try.prog 52 #[.bool false, .bool (!hasB l r 0)] x fun e w' => e = .returned (.agg #[.int .i64 (trL false (!hasB l r 0)), .int .i64 (trH false (!hasB l r 0))]) ∧ Q (bx (bx w l r) 0 0) w' ∧ w'.cell? ⟨w.heap.size, 0, none⟩ = some (.int .i64 l) ∧ w'.cell? ⟨w.heap.size, 1, none⟩ = some (.int .i64 r) ∧ w'.cell? ⟨w.heap.size + 1, 0, none⟩ = some (.int .i64 0) ∧ w'.cell? ⟨w.heap.size + 1, 1, none⟩ = some (.int .i64 0)) := hideIt (held2 (w := w) (a := l) (b := r) (c := 0) (d := 0) (fun x => truth_any false (!hasB l r 0) x))
  generalize hasB l r 0 = hb at *
  generalize trL false (!hb) = z1 at *
  generalize trH false (!hb) = z2 at *
  go_enter Try.func12, Try.ntmps12
  go_wp2_with (first | (go_at_call 29; refine (HR.out _ q0).mono ?_; rintro e x1 ⟨rfl, q1, c0, c1, c2, c3⟩; have Q1 := hideIt q1; have f0 := q1.f4.1; have f1 := q1.f4.2; clear q1))
  have qd := Q1.out.drew
  have n1 : (bx w l r).heap.size ≤ w.heap.size + 1 := by rw [bx_size]; exact Nat.le_refl _
  clear c0 c1 c2 c3 f0 f1
  first | go_region_held3 (fun y => Q (bx w l r) y ∧ y.cell? ⟨w.heap.size, 0, none⟩ = some (.int .i64 l) ∧ y.cell? ⟨w.heap.size, 1, none⟩ = some (.int .i64 r)) (first | exact ⟨q_out s0, (q_out s0).c2⟩ | exact ⟨q_set (q_out s0) n1 _ _, Q.c2 (q_set (q_out s0) n1 _ _)⟩ | exact ⟨q_out qd, (q_out qd).c2⟩) (first | (go_at_call 18; refine (HA.out _ (by assumption)).mono ?_; rintro e y ⟨rfl, s0, s1, s2, s3, s4⟩) | (go_at_call 52; refine (HT.out _ (by assumption)).mono ?_; rintro e y ⟨rfl, s0, s1, s2, s3, s4⟩; have m0 := s0.f4.1; have m1 := s0.f4.2)) | fail
  go_wp2_with (fail)
  exact bodyPost_ret (v := .tuple #[spV z1 z2, .bool true]) (by simp [results, Try.results12, go_sem, s3, s4]) rfl ⟨rfl, q_set2 s0 _ _⟩

set_option maxHeartbeats 1000000 in
theorem un_3_01 (t l r : Int) (w : World) (h0 : 0 ≤ t) (hr : rtB t l r = true) (zl : (l == 0) = false) (zr : (r == 0) = true) : Calls Try.prog 12 #[.int .u8 3, .int .u8 t, .agg #[.int .i64 l, .int .i64 r]] w fun e w' => e = .returned (.tuple #[.agg #[.int .i64 (unA 3 t l r).1, .int .i64 (unA 3 t l r).2.1], .bool (unA 3 t l r).2.2]) ∧ Q w w' := by
  have hz : decide (l = 0 ∧ r = 0) = false := by simp at zl zr ⊢; omega
  have e : unA 3 t l r = (trL false (!hasB l r 0), trH false (!hasB l r 0), true) := by unfold unA; rw [if_neg (by rw [hr]; simp), hz]; rfl
  rw [e]
  clear e hz
  have q0 : Q (bx (bx w l r) 0 0) (bx (bx w l r) 0 0) := Q.refl _
  have HR := hideIt (held2 (w := w) (a := l) (b := r) (c := 0) (d := 0) (fun x => right_any t l r x h0))
  rw [hr] at HR
  have HA := hideIt (held2 (w := w) (a := l) (b := r) (c := 0) (d := 0) (fun x => hasB_any l r 0 x))
  have HT : Hid (∀ x, Q (bx (bx w l r) 0 0) x → Calls Try.prog 52 #[.bool false, .bool (!hasB l r 0)] x fun e w' => e = .returned (.agg #[.int .i64 (trL false (!hasB l r 0)), .int .i64 (trH false (!hasB l r 0))]) ∧ Q (bx (bx w l r) 0 0) w' ∧ w'.cell? ⟨w.heap.size, 0, none⟩ = some (.int .i64 l) ∧ w'.cell? ⟨w.heap.size, 1, none⟩ = some (.int .i64 r) ∧ w'.cell? ⟨w.heap.size + 1, 0, none⟩ = some (.int .i64 0) ∧ w'.cell? ⟨w.heap.size + 1, 1, none⟩ = some (.int .i64 0)) := hideIt (held2 (w := w) (a := l) (b := r) (c := 0) (d := 0) (fun x => truth_any false (!hasB l r 0) x))
  generalize hasB l r 0 = hb at *
  generalize trL false (!hb) = z1 at *
  generalize trH false (!hb) = z2 at *
  go_enter Try.func12, Try.ntmps12
  go_wp2_with (first | (go_at_call 29; refine (HR.out _ q0).mono ?_; rintro e x1 ⟨rfl, q1, c0, c1, c2, c3⟩; have Q1 := hideIt q1; have f0 := q1.f4.1; have f1 := q1.f4.2; clear q1))
  have qd := Q1.out.drew
  have n1 : (bx w l r).heap.size ≤ w.heap.size + 1 := by rw [bx_size]; exact Nat.le_refl _
  clear c0 c1 c2 c3 f0 f1
  first | go_region_held3 (fun y => Q (bx w l r) y ∧ y.cell? ⟨w.heap.size, 0, none⟩ = some (.int .i64 l) ∧ y.cell? ⟨w.heap.size, 1, none⟩ = some (.int .i64 r)) (first | exact ⟨q_out s0, (q_out s0).c2⟩ | exact ⟨q_set (q_out s0) n1 _ _, Q.c2 (q_set (q_out s0) n1 _ _)⟩ | exact ⟨q_out qd, (q_out qd).c2⟩) (first | (go_at_call 18; refine (HA.out _ (by assumption)).mono ?_; rintro e y ⟨rfl, s0, s1, s2, s3, s4⟩) | (go_at_call 52; refine (HT.out _ (by assumption)).mono ?_; rintro e y ⟨rfl, s0, s1, s2, s3, s4⟩; have m0 := s0.f4.1; have m1 := s0.f4.2)) | fail
  go_wp2_with (fail)
  exact bodyPost_ret (v := .tuple #[spV z1 z2, .bool true]) (by simp [results, Try.results12, go_sem, s3, s4]) rfl ⟨rfl, q_set2 s0 _ _⟩

set_option maxHeartbeats 1000000 in
theorem un_3_00 (t l r : Int) (w : World) (h0 : 0 ≤ t) (hr : rtB t l r = true) (zl : (l == 0) = false) (zr : (r == 0) = false) : Calls Try.prog 12 #[.int .u8 3, .int .u8 t, .agg #[.int .i64 l, .int .i64 r]] w fun e w' => e = .returned (.tuple #[.agg #[.int .i64 (unA 3 t l r).1, .int .i64 (unA 3 t l r).2.1], .bool (unA 3 t l r).2.2]) ∧ Q w w' := by
  have hz : decide (l = 0 ∧ r = 0) = false := by simp at zl zr ⊢; omega
  have e : unA 3 t l r = (trL false (!hasB l r 0), trH false (!hasB l r 0), true) := by unfold unA; rw [if_neg (by rw [hr]; simp), hz]; rfl
  rw [e]
  clear e hz
  have q0 : Q (bx (bx w l r) 0 0) (bx (bx w l r) 0 0) := Q.refl _
  have HR := hideIt (held2 (w := w) (a := l) (b := r) (c := 0) (d := 0) (fun x => right_any t l r x h0))
  rw [hr] at HR
  have HA := hideIt (held2 (w := w) (a := l) (b := r) (c := 0) (d := 0) (fun x => hasB_any l r 0 x))
  have HT : Hid (∀ x, Q (bx (bx w l r) 0 0) x → Calls Try.prog 52 #[.bool false, .bool (!hasB l r 0)] x fun e w' => e = .returned (.agg #[.int .i64 (trL false (!hasB l r 0)), .int .i64 (trH false (!hasB l r 0))]) ∧ Q (bx (bx w l r) 0 0) w' ∧ w'.cell? ⟨w.heap.size, 0, none⟩ = some (.int .i64 l) ∧ w'.cell? ⟨w.heap.size, 1, none⟩ = some (.int .i64 r) ∧ w'.cell? ⟨w.heap.size + 1, 0, none⟩ = some (.int .i64 0) ∧ w'.cell? ⟨w.heap.size + 1, 1, none⟩ = some (.int .i64 0)) := hideIt (held2 (w := w) (a := l) (b := r) (c := 0) (d := 0) (fun x => truth_any false (!hasB l r 0) x))
  generalize hasB l r 0 = hb at *
  generalize trL false (!hb) = z1 at *
  generalize trH false (!hb) = z2 at *
  go_enter Try.func12, Try.ntmps12
  go_wp2_with (first | (go_at_call 29; refine (HR.out _ q0).mono ?_; rintro e x1 ⟨rfl, q1, c0, c1, c2, c3⟩; have Q1 := hideIt q1; have f0 := q1.f4.1; have f1 := q1.f4.2; clear q1))
  have qd := Q1.out.drew
  have n1 : (bx w l r).heap.size ≤ w.heap.size + 1 := by rw [bx_size]; exact Nat.le_refl _
  clear c0 c1 c2 c3 f0 f1
  first | go_region_held3 (fun y => Q (bx w l r) y ∧ y.cell? ⟨w.heap.size, 0, none⟩ = some (.int .i64 l) ∧ y.cell? ⟨w.heap.size, 1, none⟩ = some (.int .i64 r)) (first | exact ⟨q_out s0, (q_out s0).c2⟩ | exact ⟨q_set (q_out s0) n1 _ _, Q.c2 (q_set (q_out s0) n1 _ _)⟩ | exact ⟨q_out qd, (q_out qd).c2⟩) (first | (go_at_call 18; refine (HA.out _ (by assumption)).mono ?_; rintro e y ⟨rfl, s0, s1, s2, s3, s4⟩) | (go_at_call 52; refine (HT.out _ (by assumption)).mono ?_; rintro e y ⟨rfl, s0, s1, s2, s3, s4⟩; have m0 := s0.f4.1; have m1 := s0.f4.2)) | fail
  go_wp2_with (fail)
  exact bodyPost_ret (v := .tuple #[spV z1 z2, .bool true]) (by simp [results, Try.results12, go_sem, s3, s4]) rfl ⟨rfl, q_set2 s0 _ _⟩

theorem spun_any (op t l r : Int) (w : World) (h0 : 0 ≤ t) : Calls Try.prog 12 #[.int .u8 op, .int .u8 t, .agg #[.int .i64 l, .int .i64 r]] w fun e w' => e = .returned (.tuple #[.agg #[.int .i64 (unA op t l r).1, .int .i64 (unA op t l r).2.1], .bool (unA op t l r).2.2]) ∧ Q w w' := by
  have h : op < 1 ∨ 3 < op ∨ (1 ≤ op ∧ op ≤ 3) := by omega
  rcases h with h | h | h
  · exact un_out op t l r w h0 (.inl h)
  · exact un_out op t l r w h0 (.inr h)
  cases hr : rtB t l r with
  | false => exact un_a op t l r w h0 h.1 h.2 hr
  | true =>
    have h' : op = 1 ∨ op = 2 ∨ op = 3 := by omega
    rcases h' with rfl | rfl | rfl
    · exact un_1 t l r w h0 hr
    · cases hs : sgn t with
      | true => exact un_2s t l r w h0 hr hs
      | false => exact un_2u t l r w h0 hr hs
    · cases zl : (l == 0) <;> cases zr : (r == 0)
      · exact un_3_00 t l r w h0 hr zl zr
      · exact un_3_01 t l r w h0 hr zl zr
      · exact un_3_10 t l r w h0 hr zl zr
      · exact un_3_11 t l r w h0 hr zl zr

end Go.Proofs.Ytancfhnhjfhbfaa
