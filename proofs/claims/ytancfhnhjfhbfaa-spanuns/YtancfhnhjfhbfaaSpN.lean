/-
  What Un and Cast of layer 10, and the document's, return: contracts over the program, for every operation's and type's number and all spans.
-/
import Derived.Test.YtancfhnhjfhbfaaSpL
set_option linter.unusedVariables false
namespace Burin
open Go
def caL (t l r : Int) : Int := if nonB l r then 1 else fiL t l r
def caH (t l r : Int) : Int := if nonB l r then 0 else fiH t l r
def unA (op t l r : Int) : Ans :=
  if op < 1 ∨ 3 < op ∨ rtB t l r = false then (1, 0, false)
  else if op = 1 then fiA t (-r) (-l)
  else if op = 2 then (if sgn t then (-r - 1, -l - 1, true) else (high t - r, high t - l, true))
  else (trL (decide (l = 0 ∧ r = 0)) (!hasB l r 0), trH (decide (l = 0 ∧ r = 0)) (!hasB l r 0), true)
theorem ca_none (t l r : Int) (h6 : 6 ≤ t) : caL t l r = 1 ∧ caH t l r = 0 := by
  unfold caL caH fiL fiH inB nonB
  rw [low_none _ h6, high_none _ h6]
  by_cases h : r < l
  · simp [h]
  · simp [h]
    constructor <;> omega
end Burin
namespace Go.Proofs.Ytancfhnhjfhbfaa
open Go.RowKit
open Burin
set_option linter.unusedVariables false
attribute [local go_sem ↓] run_fld0 run_fld1

set_option maxHeartbeats 1000000 in
theorem cast_any (t l r : Int) (w : World) (h0 : 0 ≤ t) :
    Calls Try.prog 14 #[.int .u8 t, .agg #[.int .i64 l, .int .i64 r]] w fun e w' => e = .returned (.agg #[.int .i64 (caL t l r), .int .i64 (caH t l r)]) ∧ Q w w' := by
  have q0 : Q (bx (bx w l r) 0 0) (bx (bx w l r) 0 0) := Q.refl _
  have HN := hideIt (held2 (w := w) (a := l) (b := r) (c := 0) (d := 0) (fun x => none_any l r x))
  unfold caL caH fiL fiH
  have HF := hideIt (held2 (w := w) (a := l) (b := r) (c := 0) (d := 0) (fun x => full_any t x h0))
  have HI := hideIt (held2 (w := w) (a := l) (b := r) (c := 0) (d := 0) (fun x => in_any l r (low t) (high t) x))
  generalize inB l r (low t) (high t) = bb at *
  generalize low t = tl at *
  generalize high t = th at *
  cases hn : nonB l r
  · rw [hn] at HN
    cases bb
    · go_enter Try.func14, Try.ntmps14
      go_wp2_with (first | (go_at_call 19; refine (HN.out _ q0).mono ?_; rintro e x1 ⟨rfl, q1, c0, c1, c2, c3⟩; have Q1 := hideIt q1; have f0 := q1.f4.1; have f1 := q1.f4.2; clear q1))
      have qd := Q1.out.drew
      first | go_region_held3 (fun y => Q (bx (bx w l r) 0 0) y ∧ y.cell? ⟨w.heap.size, 0, none⟩ = some (.int .i64 l) ∧ y.cell? ⟨w.heap.size, 1, none⟩ = some (.int .i64 r) ∧ y.cell? ⟨w.heap.size + 1, 0, none⟩ = some (.int .i64 0) ∧ y.cell? ⟨w.heap.size + 1, 1, none⟩ = some (.int .i64 0)) (first | exact ⟨Q1.out.drew, Q1.out.drew.c4⟩ | go_keep) (first | (go_at_call 16; refine (HF.out _ (by assumption)).mono ?_; rintro e y ⟨rfl, s0, s1, s2, s3, s4⟩) | (go_at_call 20; refine (HI.out _ (by assumption)).mono ?_; rintro e y ⟨rfl, s0, s1, s2, s3, s4⟩)) | fail
      have R0 := hideIt s0
      clear s1 s2 s3 s4 qd
      go_wp2_with (go_at_call 16; refine (HF.out _ R0.out).mono ?_; rintro e x3 ⟨rfl, q3, e0, e1, e2, e3⟩; have Q3 := hideIt q3; have k0 := q3.f4.1; have k1 := q3.f4.2; clear q3)
      exact bodyPost_ret (v := spV tl th) (by simp [results, Try.results14, go_sem, e2, e3]) rfl ⟨rfl, q_set2 Q3.out _ _⟩
    · go_enter Try.func14, Try.ntmps14
      go_wp2_with (first | (go_at_call 19; refine (HN.out _ q0).mono ?_; rintro e x1 ⟨rfl, q1, c0, c1, c2, c3⟩; have Q1 := hideIt q1; have f0 := q1.f4.1; have f1 := q1.f4.2; clear q1))
      have qd := Q1.out.drew
      first | go_region_held3 (fun y => Q (bx (bx w l r) 0 0) y ∧ y.cell? ⟨w.heap.size, 0, none⟩ = some (.int .i64 l) ∧ y.cell? ⟨w.heap.size, 1, none⟩ = some (.int .i64 r) ∧ y.cell? ⟨w.heap.size + 1, 0, none⟩ = some (.int .i64 0) ∧ y.cell? ⟨w.heap.size + 1, 1, none⟩ = some (.int .i64 0)) (first | exact ⟨Q1.out.drew, Q1.out.drew.c4⟩ | go_keep) (first | (go_at_call 16; refine (HF.out _ (by assumption)).mono ?_; rintro e y ⟨rfl, s0, s1, s2, s3, s4⟩) | (go_at_call 20; refine (HI.out _ (by assumption)).mono ?_; rintro e y ⟨rfl, s0, s1, s2, s3, s4⟩)) | fail
      have R0 := hideIt s0
      have m0 := s0.f4.1
      have m1 := s0.f4.2
      go_wp2_with (fail)
      exact bodyPost_ret (v := spV l r) (by simp [results, Try.results14, go_sem, s3, s4]) rfl ⟨rfl, q_set2 R0.out _ _⟩
  · rw [hn] at HN
    go_enter Try.func14, Try.ntmps14
    have HE := hideIt (held2 (w := w) (a := l) (b := r) (c := 0) (d := 0) (fun x => empty_any x))
    go_wp2_with (first | (go_at_call 19; refine (HN.out _ q0).mono ?_; rintro e x1 ⟨rfl, q1, c0, c1, c2, c3⟩; have Q1 := hideIt q1; have f0 := q1.f4.1; have f1 := q1.f4.2; clear q1) | (go_at_call 30; refine (HE.out _ Q1.out).mono ?_; rintro e x2 ⟨rfl, q2, d0, d1, d2, d3⟩; have Q2 := hideIt q2; have g0 := q2.f4.1; have g1 := q2.f4.2; clear q2))
    exact bodyPost_ret (v := spV 1 0) (by simp [results, Try.results14, go_sem, d2, d3]) rfl ⟨rfl, q_set2 Q2.out _ _⟩

set_option maxHeartbeats 1000000 in
theorem rcast_any (t l r : Int) (w : World) (h0 : 0 ≤ t) :
    Calls Try.prog 15 #[.int .i64 t, .agg #[.int .i64 l, .int .i64 r]] w fun e w' => e = .returned (.agg #[.int .i64 (caL t l r), .int .i64 (caH t l r)]) ∧ Q w w' := by
  have q0 : Q (bx (bx w l r) 0 0) (bx (bx w l r) 0 0) := Q.refl _
  have HN := hideIt (held2 (w := w) (a := l) (b := r) (c := 0) (d := 0) (fun x => rnone_any l r x))
  have HW := hideIt (held2 (w := w) (a := l) (b := r) (c := 0) (d := 0) (fun x => rwidth_any t x h0))
  by_cases h6 : 6 ≤ t
  · rw [(ca_none t l r h6).1, (ca_none t l r h6).2]
    rw [wid_none _ h6] at HW
    go_enter Try.func15, Try.ntmps15
    go_wp2_with (first | (go_at_call 43; refine (HW.out _ q0).mono ?_; rintro e x1 ⟨rfl, q1, c0, c1, c2, c3⟩; have Q1 := hideIt q1; have f0 := q1.f4.1; have f1 := q1.f4.2; clear q1))
    exact bodyPost_ret (v := spV 1 0) (by simp [results, Try.results15, go_sem, c2, c3]) rfl ⟨rfl, q_set2 Q1.out _ _⟩
  have hw : 0 < wid t := by unfold wid; (repeat' split) <;> omega
  have hwb : (wid t == 0) = false := by simp; omega
  generalize wid t = wd at *
  unfold caL caH fiL fiH
  have HF := hideIt (held2 (w := w) (a := l) (b := r) (c := 0) (d := 0) (fun x => rfull_any t x h0))
  have HI := hideIt (held2 (w := w) (a := l) (b := r) (c := 0) (d := 0) (fun x => rin_any l r (low t) (high t) x))
  generalize inB l r (low t) (high t) = bb at *
  generalize low t = tl at *
  generalize high t = th at *
  cases hn : nonB l r
  · rw [hn] at HN
    cases bb
    · go_enter Try.func15, Try.ntmps15
      go_wp2_with (first | (go_at_call 43; refine (HW.out _ q0).mono ?_; rintro e x1 ⟨rfl, q1, c0, c1, c2, c3⟩; have Q1 := hideIt q1; have f0 := q1.f4.1; have f1 := q1.f4.2; clear q1) | (go_at_call 42; refine (HN.out _ Q1.out).mono ?_; rintro e x2 ⟨rfl, q2, d0, d1, d2, d3⟩; have Q2 := hideIt q2; have g0 := q2.f4.1; have g1 := q2.f4.2; clear q2))
      have qd := Q2.out.drew
      first | go_region_held3 (fun y => Q (bx (bx w l r) 0 0) y ∧ y.cell? ⟨w.heap.size, 0, none⟩ = some (.int .i64 l) ∧ y.cell? ⟨w.heap.size, 1, none⟩ = some (.int .i64 r) ∧ y.cell? ⟨w.heap.size + 1, 0, none⟩ = some (.int .i64 0) ∧ y.cell? ⟨w.heap.size + 1, 1, none⟩ = some (.int .i64 0)) (first | exact ⟨Q2.out.drew, Q2.out.drew.c4⟩ | go_keep) (first | (go_at_call 17; refine (HF.out _ (by assumption)).mono ?_; rintro e y ⟨rfl, s0, s1, s2, s3, s4⟩) | (go_at_call 21; refine (HI.out _ (by assumption)).mono ?_; rintro e y ⟨rfl, s0, s1, s2, s3, s4⟩)) | fail
      have R0 := hideIt s0
      clear s1 s2 s3 s4 qd
      go_wp2_with (go_at_call 17; refine (HF.out _ R0.out).mono ?_; rintro e x3 ⟨rfl, q3, e0, e1, e2, e3⟩; have Q3 := hideIt q3; have k0 := q3.f4.1; have k1 := q3.f4.2; clear q3)
      exact bodyPost_ret (v := spV tl th) (by simp [results, Try.results15, go_sem, e2, e3]) rfl ⟨rfl, q_set2 Q3.out _ _⟩
    · go_enter Try.func15, Try.ntmps15
      go_wp2_with (first | (go_at_call 43; refine (HW.out _ q0).mono ?_; rintro e x1 ⟨rfl, q1, c0, c1, c2, c3⟩; have Q1 := hideIt q1; have f0 := q1.f4.1; have f1 := q1.f4.2; clear q1) | (go_at_call 42; refine (HN.out _ Q1.out).mono ?_; rintro e x2 ⟨rfl, q2, d0, d1, d2, d3⟩; have Q2 := hideIt q2; have g0 := q2.f4.1; have g1 := q2.f4.2; clear q2))
      have qd := Q2.out.drew
      first | go_region_held3 (fun y => Q (bx (bx w l r) 0 0) y ∧ y.cell? ⟨w.heap.size, 0, none⟩ = some (.int .i64 l) ∧ y.cell? ⟨w.heap.size, 1, none⟩ = some (.int .i64 r) ∧ y.cell? ⟨w.heap.size + 1, 0, none⟩ = some (.int .i64 0) ∧ y.cell? ⟨w.heap.size + 1, 1, none⟩ = some (.int .i64 0)) (first | exact ⟨Q2.out.drew, Q2.out.drew.c4⟩ | go_keep) (first | (go_at_call 17; refine (HF.out _ (by assumption)).mono ?_; rintro e y ⟨rfl, s0, s1, s2, s3, s4⟩) | (go_at_call 21; refine (HI.out _ (by assumption)).mono ?_; rintro e y ⟨rfl, s0, s1, s2, s3, s4⟩)) | fail
      have R0 := hideIt s0
      have m0 := s0.f4.1
      have m1 := s0.f4.2
      go_wp2_with (fail)
      exact bodyPost_ret (v := spV l r) (by simp [results, Try.results15, go_sem, s3, s4]) rfl ⟨rfl, q_set2 R0.out _ _⟩
  · rw [hn] at HN
    go_enter Try.func15, Try.ntmps15
    go_wp2_with (first | (go_at_call 43; refine (HW.out _ q0).mono ?_; rintro e x1 ⟨rfl, q1, c0, c1, c2, c3⟩; have Q1 := hideIt q1; have f0 := q1.f4.1; have f1 := q1.f4.2; clear q1) | (go_at_call 42; refine (HN.out _ Q1.out).mono ?_; rintro e x2 ⟨rfl, q2, d0, d1, d2, d3⟩; have Q2 := hideIt q2; have g0 := q2.f4.1; have g1 := q2.f4.2; clear q2))
    exact bodyPost_ret (v := spV 1 0) (by simp [results, Try.results15, go_sem, d2, d3]) rfl ⟨rfl, q_set2 Q2.out _ _⟩

end Go.Proofs.Ytancfhnhjfhbfaa
