/-
  burinlaw10.SpanGrows returns true, whatever the operation, the type and the eight ends; no condition.
-/
import Derived.Test.YtancfhnhjfhbfaaSpM
namespace Go.Proofs.Ytancfhnhjfhbfaa.spanGrows
open Go.Proofs.Ytancfhnhjfhbfaa
open Go.ChangeShapes Go.WideShapes Go.ChangeAt Go.RowKit
open Burin
set_option linter.unusedVariables false

theorem own : ownKnob Try.prog.godebug = none := by kernel_rfl
theorem laid : laidOutB Try.prog = true := by kernel_rfl

set_option maxRecDepth 100000 in
set_option maxHeartbeats 8000000 in
theorem walk (op t a0 a1 a2 a3 a4 a5 a6 a7 : Int) (w : World) (ho : U8 op) (ht : U8 t) (_ : I64 a0) (_ : I64 a1) (_ : I64 a2) (_ : I64 a3) (_ : I64 a4) (_ : I64 a5) (_ : I64 a6) (_ : I64 a7) : Calls Try.prog 8 #[.int .u8 op, .int .u8 t, .agg #[.int .i64 a0, .int .i64 a1, .int .i64 a2, .int .i64 a3, .int .i64 a4, .int .i64 a5, .int .i64 a6, .int .i64 a7]] w fun e w' => e = .returned (.bool true) ∧ Below w.heap.size w w' := by
  obtain ⟨o0, o1⟩ := ho
  obtain ⟨t0, t1⟩ := ht
  have HC1 := hideIt (fun x => cut_any (t % 6) a0 a1 x (by omega) (by omega))
  have HC2 := hideIt (fun x => cut_any (t % 6) a2 a3 x (by omega) (by omega))
  have HC3 := hideIt (fun x => cut_any (t % 6) a4 a5 x (by omega) (by omega))
  have HC4 := hideIt (fun x => cut_any (t % 6) a6 a7 x (by omega) (by omega))
  have B1 := ct_bd (t % 6) a0 a1 (by omega) (by omega)
  have B2 := ct_bd (t % 6) a2 a3 (by omega) (by omega)
  have B3 := ct_bd (t % 6) a4 a5 (by omega) (by omega)
  have B4 := ct_bd (t % 6) a6 a7 (by omega) (by omega)
  generalize ctL (t % 6) a0 a1 = l1 at *
  generalize ctH (t % 6) a0 a1 = r1 at *
  generalize ctL (t % 6) a2 a3 = l2 at *
  generalize ctH (t % 6) a2 a3 = r2 at *
  generalize ctL (t % 6) a4 a5 = l3 at *
  generalize ctH (t % 6) a4 a5 = r3 at *
  generalize ctL (t % 6) a6 a7 = l4 at *
  generalize ctH (t % 6) a6 a7 = r4 at *
  have W1 := jo_wi l1 r1 l3 r3 B1.2.1 B3.2.1
  have W2 := jo_wi l2 r2 l4 r4 B2.2.1 B4.2.1
  have J1 := jo_in (t % 6) l1 r1 l3 r3 B1.2.1 B3.2.1 B1.1 B1.2.2 B3.1 B3.2.2
  have J2 := jo_in (t % 6) l2 r2 l4 r4 B2.2.1 B4.2.1 B2.1 B2.2.2 B4.1 B4.2.2
  have HJ1 : Hid (∀ x, Calls Try.prog 23 #[.agg #[.int .i64 l1, .int .i64 r1], .agg #[.int .i64 l3, .int .i64 r3]] x fun e w' => e = .returned (.agg #[.int .i64 (joL l1 r1 l3 r3), .int .i64 (joH l1 r1 l3 r3)]) ∧ Q x w') := fun x => rjoin_any l1 r1 l3 r3 x
  have HJ2 : Hid (∀ x, Calls Try.prog 23 #[.agg #[.int .i64 l2, .int .i64 r2], .agg #[.int .i64 l4, .int .i64 r4]] x fun e w' => e = .returned (.agg #[.int .i64 (joL l2 r2 l4 r4), .int .i64 (joH l2 r2 l4 r4)]) ∧ Q x w') := fun x => rjoin_any l2 r2 l4 r4 x
  generalize joL l1 r1 l3 r3 = jl1 at *
  generalize joH l1 r1 l3 r3 = jr1 at *
  generalize joL l2 r2 l4 r4 = jl2 at *
  generalize joH l2 r2 l4 r4 = jr2 at *
  have HG := hideIt (grows_any (1 + op % 16) (t % 6) l1 r1 l2 r2 jl1 jr1 jl2 jr2 (by omega) (by omega) (by omega) (by omega) W1 W2 J1.1 J1.2 J2.1 J2.2)
  have HD := hideIt (fun x => sdo_any (1 + op % 16) (t % 6) l1 r1 l2 r2 x (by omega))
  have HW := hideIt (fun x => sdo_any (1 + op % 16) (t % 6) jl1 jr1 jl2 jr2 x (by omega))
  clear B1 B2 B3 B4 W1 W2 J1 J2
  generalize hO : 1 + op % 16 = o at *
  generalize doA o (t % 6) l1 r1 l2 r2 = D at *
  obtain ⟨sl, sh, ok⟩ := D
  generalize doA o (t % 6) jl1 jr1 jl2 jr2 = E at *
  obtain ⟨wl, wh, is⟩ := E
  have HI : Hid (∀ x, Calls Try.prog 21 #[.agg #[.int .i64 sl, .int .i64 sh], .agg #[.int .i64 wl, .int .i64 wh]] x fun e w' => e = .returned (.bool (inB sl sh wl wh)) ∧ Q x w') := fun x => rin_any sl sh wl wh x
  generalize inB sl sh wl wh = ii at *
  have wt : IntKind.i64.wrap (t % 6) = t % 6 := by simp [IntKind.wrap_i64]; omega
  cases is
  · go_enter Try.func8, Try.ntmps8
    go_wp2_with (first | (go_at_call 9; refine (awake_any _).mono ?_; rintro e x1 ⟨rfl, q1⟩; have R1 := hideIt q1; clear q1; obtain ⟨c0, c1, c2, c3, c4, c5, c6, c7⟩ := arr8 R1.out) | (go_at_call_of 24 (Value.int IntKind.i64 a0); refine (HC1.out _).mono ?_; rintro e x2 ⟨rfl, q2⟩; have R2 := hideIt ((R1.out.trans q2).bx l1 r1); clear q2 c0 c1 c2 c3 c4 c5 c6 c7; obtain ⟨c0, c1, c2, c3, c4, c5, c6, c7⟩ := arr8 R2.out) | (go_at_call_of 24 (Value.int IntKind.i64 a2); refine (HC2.out _).mono ?_; rintro e x3 ⟨rfl, q3⟩; have R3 := hideIt (R2.out.trans (q3.bx l2 r2)); clear c0 c1 c2 c3 c4 c5 c6 c7; obtain ⟨d0, d1⟩ := (q3.bx l2 r2).c2; clear q3) | (go_at_call 10; refine (HD.out _).mono ?_; rintro e x5 ⟨rfl, q5⟩; have R5 := hideIt ((R3.out.trans q5).bx sl sh); have k0 := keepc (q5.bx sl sh) d0; have k1 := keepc (q5.bx sl sh) d1; have k2 := (q5.bx sl sh).c2.1; have k3 := (q5.bx sl sh).c2.2; clear q5 d0 d1))
    have hF : Hid (∀ y, Q (bx x5 sl sh) y → (fun y : World => y.cell? ⟨w.heap.size, 4, none⟩ = some (.int .i64 a4) ∧ y.cell? ⟨w.heap.size, 5, none⟩ = some (.int .i64 a5) ∧ y.cell? ⟨w.heap.size, 6, none⟩ = some (.int .i64 a6) ∧ y.cell? ⟨w.heap.size, 7, none⟩ = some (.int .i64 a7) ∧ y.cell? ⟨x2.heap.size, 0, none⟩ = some (.int .i64 l1) ∧ y.cell? ⟨x2.heap.size, 1, none⟩ = some (.int .i64 r1) ∧ y.cell? ⟨x3.heap.size, 0, none⟩ = some (.int .i64 l2) ∧ y.cell? ⟨x3.heap.size, 1, none⟩ = some (.int .i64 r2) ∧ y.cell? ⟨x5.heap.size, 0, none⟩ = some (.int .i64 sl) ∧ y.cell? ⟨x5.heap.size, 1, none⟩ = some (.int .i64 sh)) y) := fun y h => ⟨(arr8 (R5.out.trans h)).2.2.2.2.1, (arr8 (R5.out.trans h)).2.2.2.2.2.1, (arr8 (R5.out.trans h)).2.2.2.2.2.2.1, (arr8 (R5.out.trans h)).2.2.2.2.2.2.2, keepc h k0, keepc h k1, keepc h k2, keepc h k3, h.c2.1, h.c2.2⟩
    have HC3q := hideIt (heldB (B := bx x5 sl sh) HC3.out)
    have HC4q := hideIt (heldB (B := bx x5 sl sh) HC4.out)
    have HJ1q := hideIt (heldB (B := bx x5 sl sh) HJ1.out)
    have HJ2q := hideIt (heldB (B := bx x5 sl sh) HJ2.out)
    have HWq := hideIt (heldB (B := bx x5 sl sh) HW.out)
    have qd : Q (bx x5 sl sh) (bx x5 sl sh).drew := (Q.refl _).drew
    clear k0 k1 k2 k3
    first | go_region_held3 (fun y : World => Q (bx x5 sl sh) y ∧ y.cell? ⟨w.heap.size, 4, none⟩ = some (.int .i64 a4) ∧ y.cell? ⟨w.heap.size, 5, none⟩ = some (.int .i64 a5) ∧ y.cell? ⟨w.heap.size, 6, none⟩ = some (.int .i64 a6) ∧ y.cell? ⟨w.heap.size, 7, none⟩ = some (.int .i64 a7) ∧ y.cell? ⟨x2.heap.size, 0, none⟩ = some (.int .i64 l1) ∧ y.cell? ⟨x2.heap.size, 1, none⟩ = some (.int .i64 r1) ∧ y.cell? ⟨x3.heap.size, 0, none⟩ = some (.int .i64 l2) ∧ y.cell? ⟨x3.heap.size, 1, none⟩ = some (.int .i64 r2) ∧ y.cell? ⟨x5.heap.size, 0, none⟩ = some (.int .i64 sl) ∧ y.cell? ⟨x5.heap.size, 1, none⟩ = some (.int .i64 sh)) (first | exact ⟨s0, hF.out _ s0⟩ | exact ⟨Q.alloc (by assumption) _, hF.out _ (Q.alloc (by assumption) _)⟩ | exact ⟨q_set s0 (by first | exact Q.lt (by assumption) | exact Nat.le_refl _ | (rw [bx_size]; exact Nat.le_refl _)) _ _, hF.out _ (q_set s0 (by first | exact Q.lt (by assumption) | exact Nat.le_refl _ | (rw [bx_size]; exact Nat.le_refl _)) _ _)⟩ | exact ⟨(Q.refl _).drew, hF.out _ (Q.refl _).drew⟩) (first | (go_at_call_of 24 (Value.int IntKind.i64 a4); refine (HC3q.out _ (by first | assumption | exact Q.alloc (by assumption) _)).mono ?_; rintro e y ⟨rfl, q, s0⟩; (first | (have f0 := keepf q b0 f0; have f1 := keepf q b1 f1; have b0 := keepc q b0; have b1 := keepc q b1) | (obtain ⟨b0, b1⟩ := Q.c2 q; have f0 := frz_blk (sp1 q) 0; have f1 := frz_blk (sp1 q) 1; (try simp at b0 b1 f0 f1)) | (have q' := ((Q.refl (bx (bx x5 sl sh) 0 0)).drew).trans q; obtain ⟨-, -, b0, b1⟩ := Q.c4 q'; obtain ⟨f0, f1⟩ := Q.f4 q'; clear q') | skip)) | (go_at_call_of 24 (Value.int IntKind.i64 a6); refine (HC4q.out _ (by first | assumption | exact Q.alloc (by assumption) _)).mono ?_; rintro e y ⟨rfl, q, s0⟩; (first | (have f0 := keepf q b0 f0; have f1 := keepf q b1 f1; have b0 := keepc q b0; have b1 := keepc q b1) | (obtain ⟨b0, b1⟩ := Q.c2 q; have f0 := frz_blk (sp1 q) 0; have f1 := frz_blk (sp1 q) 1; (try simp at b0 b1 f0 f1)) | (have q' := ((Q.refl (bx (bx x5 sl sh) 0 0)).drew).trans q; obtain ⟨-, -, b0, b1⟩ := Q.c4 q'; obtain ⟨f0, f1⟩ := Q.f4 q'; clear q') | skip)) | (go_at_call_of 23 (Value.agg #[.int .i64 l1, .int .i64 r1]); refine (HJ1q.out _ (by first | assumption | exact Q.alloc (by assumption) _)).mono ?_; rintro e y ⟨rfl, q, s0⟩; (first | (have f0 := keepf q b0 f0; have f1 := keepf q b1 f1; have b0 := keepc q b0; have b1 := keepc q b1) | (obtain ⟨b0, b1⟩ := Q.c2 q; have f0 := frz_blk (sp1 q) 0; have f1 := frz_blk (sp1 q) 1; (try simp at b0 b1 f0 f1)) | (have q' := ((Q.refl (bx (bx x5 sl sh) 0 0)).drew).trans q; obtain ⟨-, -, b0, b1⟩ := Q.c4 q'; obtain ⟨f0, f1⟩ := Q.f4 q'; clear q') | skip)) | (go_at_call 23; refine (HJ2q.out _ (by first | assumption | exact Q.alloc (by assumption) _)).mono ?_; rintro e y ⟨rfl, q, s0⟩; (first | (have f0 := keepf q b0 f0; have f1 := keepf q b1 f1; have b0 := keepc q b0; have b1 := keepc q b1) | (obtain ⟨b0, b1⟩ := Q.c2 q; have f0 := frz_blk (sp1 q) 0; have f1 := frz_blk (sp1 q) 1; (try simp at b0 b1 f0 f1)) | (have q' := ((Q.refl (bx (bx x5 sl sh) 0 0)).drew).trans q; obtain ⟨-, -, b0, b1⟩ := Q.c4 q'; obtain ⟨f0, f1⟩ := Q.f4 q'; clear q') | skip)) | (go_at_call 10; refine (HWq.out _ (by first | assumption | exact Q.alloc (by assumption) _)).mono ?_; rintro e y ⟨rfl, q, s0⟩; (first | (have f0 := keepf q b0 f0; have f1 := keepf q b1 f1; have b0 := keepc q b0; have b1 := keepc q b1) | (obtain ⟨b0, b1⟩ := Q.c2 q; have f0 := frz_blk (sp1 q) 0; have f1 := frz_blk (sp1 q) 1; (try simp at b0 b1 f0 f1)) | (have q' := ((Q.refl (bx (bx x5 sl sh) 0 0)).drew).trans q; obtain ⟨-, -, b0, b1⟩ := Q.c4 q'; obtain ⟨f0, f1⟩ := Q.f4 q'; clear q') | skip))) | fail
    all_goals
      rename_i hHeld
      try dsimp only at hHeld
      obtain ⟨hq, h4, h5, h6, h7, g0, g1, g2, g3, g4, g5⟩ := hHeld
      have RF := hideIt (R5.out.trans hq)
      clear hq h4 h5 h6 h7 g0 g1 g2 g3
    all_goals
      go_wp2_with (go_at_call 21; refine (HI.out _).mono ?_; rintro e y ⟨rfl, q⟩)
      go_ret
      exact ⟨rfl, ((Q.refl w).alloc _).trans RF.out⟩
  · obtain ⟨z1, z2⟩ := HG.out rfl
    subst z1
    subst z2
    clear HG
    go_enter Try.func8, Try.ntmps8
    go_wp2_with (first | (go_at_call 9; refine (awake_any _).mono ?_; rintro e x1 ⟨rfl, q1⟩; have R1 := hideIt q1; clear q1; obtain ⟨c0, c1, c2, c3, c4, c5, c6, c7⟩ := arr8 R1.out) | (go_at_call_of 24 (Value.int IntKind.i64 a0); refine (HC1.out _).mono ?_; rintro e x2 ⟨rfl, q2⟩; have R2 := hideIt ((R1.out.trans q2).bx l1 r1); clear q2 c0 c1 c2 c3 c4 c5 c6 c7; obtain ⟨c0, c1, c2, c3, c4, c5, c6, c7⟩ := arr8 R2.out) | (go_at_call_of 24 (Value.int IntKind.i64 a2); refine (HC2.out _).mono ?_; rintro e x3 ⟨rfl, q3⟩; have R3 := hideIt (R2.out.trans (q3.bx l2 r2)); clear c0 c1 c2 c3 c4 c5 c6 c7; obtain ⟨d0, d1⟩ := (q3.bx l2 r2).c2; clear q3) | (go_at_call 10; refine (HD.out _).mono ?_; rintro e x5 ⟨rfl, q5⟩; have R5 := hideIt ((R3.out.trans q5).bx sl sh); have k0 := keepc (q5.bx sl sh) d0; have k1 := keepc (q5.bx sl sh) d1; have k2 := (q5.bx sl sh).c2.1; have k3 := (q5.bx sl sh).c2.2; clear q5 d0 d1))
    have hF : Hid (∀ y, Q (bx x5 sl sh) y → (fun y : World => y.cell? ⟨w.heap.size, 4, none⟩ = some (.int .i64 a4) ∧ y.cell? ⟨w.heap.size, 5, none⟩ = some (.int .i64 a5) ∧ y.cell? ⟨w.heap.size, 6, none⟩ = some (.int .i64 a6) ∧ y.cell? ⟨w.heap.size, 7, none⟩ = some (.int .i64 a7) ∧ y.cell? ⟨x2.heap.size, 0, none⟩ = some (.int .i64 l1) ∧ y.cell? ⟨x2.heap.size, 1, none⟩ = some (.int .i64 r1) ∧ y.cell? ⟨x3.heap.size, 0, none⟩ = some (.int .i64 l2) ∧ y.cell? ⟨x3.heap.size, 1, none⟩ = some (.int .i64 r2) ∧ y.cell? ⟨x5.heap.size, 0, none⟩ = some (.int .i64 sl) ∧ y.cell? ⟨x5.heap.size, 1, none⟩ = some (.int .i64 sh)) y) := fun y h => ⟨(arr8 (R5.out.trans h)).2.2.2.2.1, (arr8 (R5.out.trans h)).2.2.2.2.2.1, (arr8 (R5.out.trans h)).2.2.2.2.2.2.1, (arr8 (R5.out.trans h)).2.2.2.2.2.2.2, keepc h k0, keepc h k1, keepc h k2, keepc h k3, h.c2.1, h.c2.2⟩
    have HC3q := hideIt (heldB (B := bx x5 sl sh) HC3.out)
    have HC4q := hideIt (heldB (B := bx x5 sl sh) HC4.out)
    have HJ1q := hideIt (heldB (B := bx x5 sl sh) HJ1.out)
    have HJ2q := hideIt (heldB (B := bx x5 sl sh) HJ2.out)
    have HWq := hideIt (heldB (B := bx x5 sl sh) HW.out)
    have qd : Q (bx x5 sl sh) (bx x5 sl sh).drew := (Q.refl _).drew
    clear k0 k1 k2 k3
    first | go_region_held3 (fun y : World => Q (bx x5 sl sh) y ∧ y.cell? ⟨w.heap.size, 4, none⟩ = some (.int .i64 a4) ∧ y.cell? ⟨w.heap.size, 5, none⟩ = some (.int .i64 a5) ∧ y.cell? ⟨w.heap.size, 6, none⟩ = some (.int .i64 a6) ∧ y.cell? ⟨w.heap.size, 7, none⟩ = some (.int .i64 a7) ∧ y.cell? ⟨x2.heap.size, 0, none⟩ = some (.int .i64 l1) ∧ y.cell? ⟨x2.heap.size, 1, none⟩ = some (.int .i64 r1) ∧ y.cell? ⟨x3.heap.size, 0, none⟩ = some (.int .i64 l2) ∧ y.cell? ⟨x3.heap.size, 1, none⟩ = some (.int .i64 r2) ∧ y.cell? ⟨x5.heap.size, 0, none⟩ = some (.int .i64 sl) ∧ y.cell? ⟨x5.heap.size, 1, none⟩ = some (.int .i64 sh)) (first | exact ⟨s0, hF.out _ s0⟩ | exact ⟨Q.alloc (by assumption) _, hF.out _ (Q.alloc (by assumption) _)⟩ | exact ⟨q_set s0 (by first | exact Q.lt (by assumption) | exact Nat.le_refl _ | (rw [bx_size]; exact Nat.le_refl _)) _ _, hF.out _ (q_set s0 (by first | exact Q.lt (by assumption) | exact Nat.le_refl _ | (rw [bx_size]; exact Nat.le_refl _)) _ _)⟩ | exact ⟨(Q.refl _).drew, hF.out _ (Q.refl _).drew⟩) (first | (go_at_call_of 24 (Value.int IntKind.i64 a4); refine (HC3q.out _ (by first | assumption | exact Q.alloc (by assumption) _)).mono ?_; rintro e y ⟨rfl, q, s0⟩; (first | (have f0 := keepf q b0 f0; have f1 := keepf q b1 f1; have b0 := keepc q b0; have b1 := keepc q b1) | (obtain ⟨b0, b1⟩ := Q.c2 q; have f0 := frz_blk (sp1 q) 0; have f1 := frz_blk (sp1 q) 1; (try simp at b0 b1 f0 f1)) | (have q' := ((Q.refl (bx (bx x5 sl sh) 0 0)).drew).trans q; obtain ⟨-, -, b0, b1⟩ := Q.c4 q'; obtain ⟨f0, f1⟩ := Q.f4 q'; clear q') | skip)) | (go_at_call_of 24 (Value.int IntKind.i64 a6); refine (HC4q.out _ (by first | assumption | exact Q.alloc (by assumption) _)).mono ?_; rintro e y ⟨rfl, q, s0⟩; (first | (have f0 := keepf q b0 f0; have f1 := keepf q b1 f1; have b0 := keepc q b0; have b1 := keepc q b1) | (obtain ⟨b0, b1⟩ := Q.c2 q; have f0 := frz_blk (sp1 q) 0; have f1 := frz_blk (sp1 q) 1; (try simp at b0 b1 f0 f1)) | (have q' := ((Q.refl (bx (bx x5 sl sh) 0 0)).drew).trans q; obtain ⟨-, -, b0, b1⟩ := Q.c4 q'; obtain ⟨f0, f1⟩ := Q.f4 q'; clear q') | skip)) | (go_at_call_of 23 (Value.agg #[.int .i64 l1, .int .i64 r1]); refine (HJ1q.out _ (by first | assumption | exact Q.alloc (by assumption) _)).mono ?_; rintro e y ⟨rfl, q, s0⟩; (first | (have f0 := keepf q b0 f0; have f1 := keepf q b1 f1; have b0 := keepc q b0; have b1 := keepc q b1) | (obtain ⟨b0, b1⟩ := Q.c2 q; have f0 := frz_blk (sp1 q) 0; have f1 := frz_blk (sp1 q) 1; (try simp at b0 b1 f0 f1)) | (have q' := ((Q.refl (bx (bx x5 sl sh) 0 0)).drew).trans q; obtain ⟨-, -, b0, b1⟩ := Q.c4 q'; obtain ⟨f0, f1⟩ := Q.f4 q'; clear q') | skip)) | (go_at_call 23; refine (HJ2q.out _ (by first | assumption | exact Q.alloc (by assumption) _)).mono ?_; rintro e y ⟨rfl, q, s0⟩; (first | (have f0 := keepf q b0 f0; have f1 := keepf q b1 f1; have b0 := keepc q b0; have b1 := keepc q b1) | (obtain ⟨b0, b1⟩ := Q.c2 q; have f0 := frz_blk (sp1 q) 0; have f1 := frz_blk (sp1 q) 1; (try simp at b0 b1 f0 f1)) | (have q' := ((Q.refl (bx (bx x5 sl sh) 0 0)).drew).trans q; obtain ⟨-, -, b0, b1⟩ := Q.c4 q'; obtain ⟨f0, f1⟩ := Q.f4 q'; clear q') | skip)) | (go_at_call 10; refine (HWq.out _ (by first | assumption | exact Q.alloc (by assumption) _)).mono ?_; rintro e y ⟨rfl, q, s0⟩; (first | (have f0 := keepf q b0 f0; have f1 := keepf q b1 f1; have b0 := keepc q b0; have b1 := keepc q b1) | (obtain ⟨b0, b1⟩ := Q.c2 q; have f0 := frz_blk (sp1 q) 0; have f1 := frz_blk (sp1 q) 1; (try simp at b0 b1 f0 f1)) | (have q' := ((Q.refl (bx (bx x5 sl sh) 0 0)).drew).trans q; obtain ⟨-, -, b0, b1⟩ := Q.c4 q'; obtain ⟨f0, f1⟩ := Q.f4 q'; clear q') | skip))) | fail
    all_goals
      rename_i hHeld
      try dsimp only at hHeld
      obtain ⟨hq, h4, h5, h6, h7, g0, g1, g2, g3, g4, g5⟩ := hHeld
      have RF := hideIt (R5.out.trans hq)
      clear hq h4 h5 h6 h7 g0 g1 g2 g3
    all_goals
      go_wp2_with (go_at_call 21; refine (HI.out _).mono ?_; rintro e y ⟨rfl, q⟩)
      go_ret
      exact ⟨rfl, ((Q.refl w).alloc _).trans (RF.out.trans q)⟩

set_option maxRecDepth 100000 in
set_option maxHeartbeats 400000 in
theorem lifted (os : Os) (started : os.Started) (H : Type) (enc : TypeId × Value → H) :
    ReturnsInHanded {} Try.checked os 8 .any (Rows.spanGrowsSpec.pre6 enc Try.prog Try.f8 Rows.spanGrowsRow.domain false) (Rows.spanGrowsSpec.post enc Try.prog Try.f8 false true false false) := by
  refine returnsInHanded_of_change (C := Try.checked) own started (by kernel_rfl) Try.func8
    (ChangeSpec.witness6 (enc := enc) (C := Try.checked) false ⟨#[], #[.int .u8 0, .int .u8 0, .agg #[.int .i64 0, .int .i64 0, .int .i64 0, .int .i64 0, .int .i64 0, .int .i64 0, .int .i64 0, .int .i64 0]], []⟩ 8 (by kernel_rfl) (by kernel_rfl) (by kernel_rfl) (by kernel_rfl)) ?_
  intro W base args ds gs before hval0 hW hcnd _
  have hval : ∀ (j : Nat) t v, Try.f8.params[j]? = some t → args[j]? = some v → Value.okWide Try.prog W .any base t v := hval0
  have hW' := hW
  obtain ⟨p, q, hA0, hV, rfl, hfz, hnd⟩ := hW
  have hA : DataW.TrodAll enc Try.prog W 0 (fun _ => true) true Try.f8.params.toList args.toList ds p := hA0
  rw [Try.params8] at hA hval
  obtain ⟨v0, vs0, d0, ds0, p0, q0, hargs, rfl, rfl, h0, r0⟩ := trodAll_cons hA
  obtain ⟨v1, vs1, d1, ds1, p1, q1, rfl, rfl, rfl, h1, r1⟩ := trodAll_cons r0
  obtain ⟨v2, vs2, d2, ds2, p2, q2, rfl, rfl, rfl, h2, r2⟩ := trodAll_cons r1
  obtain ⟨rfl, rfl, rfl⟩ := trodAll_nil r2
  obtain rfl : args = #[v0, v1, v2] := by cases args; simp_all
  obtain ⟨rfl, rfl⟩ := trodVars_none hV
  obtain ⟨a0, rfl, rfl, rfl, w0⟩ := open_int Try.underlying5 (hval 0 5 v0 rfl rfl) h0
  obtain ⟨a1, rfl, rfl, rfl, w1⟩ := open_int Try.underlying5 (hval 1 5 v1 rfl rfl) h1
  have k2 := h2
  have lt2 : ∀ x ∈ p2, x.block < W.heap.size := by obtain ⟨m, hm⟩ := k2; exact DataW.trod_lt m _ _ _ hm
  obtain ⟨a2a, a2b, a2c, a2d, a2e, a2f, a2g, a2h, rfl, b2a, b2b, b2c, b2d, b2e, b2f, b2g, b2h⟩ := open_a8 (hval 2 52 v2 rfl rfl) h2
  clear hA0 hval0
  refine (walk a0 a1 a2a a2b a2c a2d a2e a2f a2g a2h W (U8.of_wf w0) (U8.of_wf w1) b2a b2b b2c b2d b2e b2f b2g b2h).mono fun e W' ⟨he, bel⟩ => ?_
  subst he
  exact ⟨_, rfl, _, _, _, [], _, [], hW', trodAll_mk1 (shut_bool Try.underlying4 _), (trodAll_cons_mk (shut_int Try.underlying5 w0) (trodAll_cons_mk (shut_int Try.underlying5 w1) (trodAll_cons_mk (Below.trod laid (by kernel_rfl) (of_decide_eq_true (by kernel_rfl)) k2 bel lt2) trodAll_mk0))), rfl, bel.frame _, fun h => by cases h⟩

theorem over : Rows.spanGrowsRow.holds Try.pinned (OpenSpec.ofChange Rows.spanGrowsSpec) :=
  OpenClaim.holds_of_wide 8 Try.f8 rfl rfl rfl rfl rfl rfl rfl ⟨rfl, rfl, rfl, rfl, rfl⟩ rfl rfl rfl rfl rfl (by kernel_rfl) Try.func8 (by kernel_rfl)
    (of_decide_eq_true (by kernel_rfl)) (by unfold Func.isWrapper; first | (rw [if_pos (by decide +kernel)]; kernel_rfl) | (rw [if_neg (by decide +kernel)]; exact ⟨rfl, rfl⟩))
    (fun os started H enc _ => lifted os started H enc)

/-- The statement. -/
theorem proved : Rows.SpanGrowsSaid :=
  over
#print axioms proved
end Go.Proofs.Ytancfhnhjfhbfaa.spanGrows
