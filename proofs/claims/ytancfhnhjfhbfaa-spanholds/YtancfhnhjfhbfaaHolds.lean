/-
  burinlaw10.SpanHolds returns true, whatever the operation, the type, the four ends and the two picks; no condition.
-/
import Derived.Test.YtancfhnhjfhbfaaSpL
import Derived.Test.YtancfhnhjfhbfaaDo
namespace Go.Proofs.Ytancfhnhjfhbfaa.spanHolds
open Go.Proofs.Ytancfhnhjfhbfaa
open Go.ChangeShapes Go.WideShapes Go.ChangeAt Go.RowKit
open Burin
set_option linter.unusedVariables false

theorem own : ownKnob Try.prog.godebug = none := by kernel_rfl
theorem laid : laidOutB Try.prog = true := by kernel_rfl

set_option maxRecDepth 100000 in
set_option maxHeartbeats 4000000 in
theorem walk_n (op t a b c d i j : Int) (w : World) (ho : U8 op) (ht : U8 t) (_ : I64 a) (_ : I64 b) (hc : I64 c) (hd : I64 d) (hi : U32 i) (hj : U32 j) (hs : ¬(1 + op % 16 = 9 ∨ 1 + op % 16 = 10)) : Calls Try.prog 6 #[.int .u8 op, .int .u8 t, .agg #[.int .i64 a, .int .i64 b, .int .i64 c, .int .i64 d], .int .u32 i, .int .u32 j] w fun e w' => e = .returned (.bool true) ∧ Below w.heap.size w w' := by
  obtain ⟨o0, o1⟩ := ho
  obtain ⟨t0, t1⟩ := ht
  obtain ⟨i0, i1⟩ := hi
  obtain ⟨j0, j1⟩ := hj
  have HC1 := hideIt (fun x => cut_any (t % 6) a b x (by omega) (by omega))
  have HC2 := hideIt (fun x => cut_any (t % 6) c d x (by omega) (by omega))
  have HC3 := hideIt (fun x => cut_any 1 (c.tmod 40) (d.tmod 40) x (by omega) (by omega))
  have B1 := ct_bd (t % 6) a b (by omega) (by omega)
  have B2 := ct_bd (t % 6) c d (by omega) (by omega)
  have B3 := ct_bd 1 (c.tmod 40) (d.tmod 40) (by omega) (by omega)
  have LB := low_nb' (t % 6) (by omega) (by omega)
  have lb1 : low 1 = 0 := rfl
  have hb1 : high 1 = 255 := rfl
  have T1 : -9223372036854775808 ≤ c.tmod 40 ∧ c.tmod 40 ≤ 9223372036854775807 := tm40 c hc
  have T2 : -9223372036854775808 ≤ d.tmod 40 ∧ d.tmod 40 ≤ 9223372036854775807 := tm40 d hd
  have HD := hideIt (fun x => sdo_any (1 + op % 16) (t % 6) (ctL (t % 6) a b) (ctH (t % 6) a b) (ctL (t % 6) c d) (ctH (t % 6) c d) x (by omega))
  have HH := hideIt (fun x y x1 x2 y1 y2 => holds_any (1 + op % 16) (t % 6) (ctL (t % 6) a b) (ctH (t % 6) a b) (ctL (t % 6) c d) (ctH (t % 6) c d) x y (by omega) (by omega) (by omega) (by omega) B1.1 B1.2.2 (by intro h1 h2; exact ⟨B2.1, B2.2.2⟩) x1 x2 y1 y2)
  have HR := hideIt (fun p q x => rdo_any (1 + op % 16) (t % 6) p q x (by omega))
  generalize hO : 1 + op % 16 = o at *
  generalize ctL (t % 6) a b = l1 at *
  generalize ctH (t % 6) a b = r1 at *
  generalize ctL (t % 6) c d = l2 at *
  generalize ctH (t % 6) c d = r2 at *
  generalize ctL 1 (c.tmod 40) (d.tmod 40) = l3 at *
  generalize ctH 1 (c.tmod 40) (d.tmod 40) = r3 at *
  generalize doA o (t % 6) l1 r1 l2 r2 = D at *
  obtain ⟨sl, sh, ok⟩ := D
  have WA := hideIt (fun x => within_any l1 r1 i x ⟨by omega, by omega⟩ ⟨by omega, by omega⟩ B1.2.1 i0 i1)
  have WB := hideIt (fun x => within_any l2 r2 j x ⟨by omega, by omega⟩ ⟨by omega, by omega⟩ B2.2.1 j0 j1)
  have PA := wiP_bd l1 r1 i B1.2.1 i0
  have PB := wiP_bd l2 r2 j B2.2.1 j0
  generalize wiP l1 r1 i = p at *
  generalize wiP l2 r2 j = q at *
  have HR' := hideIt (HR.out p q)
  have HH' := hideIt (HH.out p q PA.1 PA.2 PB.1 PB.2)
  clear HR HH B1 B2 B3 PA PB LB
  generalize do1 o (t % 6) p q = v1 at *
  generalize do2 o (t % 6) p q = v2 at *
  have s9 : (o == 9) = false := by simp; omega
  have s10 : (o == 10) = false := by simp; omega
  clear hs
  cases ok
  · go_enter Try.func6, Try.ntmps6
    go_wp2_with (first | (go_at_call 9; refine (awake_any _).mono ?_; rintro e x1 ⟨rfl, q1⟩; have R1 := hideIt q1; clear q1; obtain ⟨c0, c1, c2, c3⟩ := arr4 R1.out) | (go_at_call_of 24 (Value.int IntKind.i64 a); refine (HC1.out _).mono ?_; rintro e x2 ⟨rfl, q2⟩; have R2 := hideIt ((R1.out.trans q2).bx l1 r1); clear q2 c0 c1 c2 c3; obtain ⟨c0, c1, c2, c3⟩ := arr4 R2.out) | (go_at_call_of 24 (Value.int IntKind.i64 c); refine (HC2.out _).mono ?_; rintro e x3 ⟨rfl, q3⟩; have S3 := hideIt (q3.bx l2 r2); have R3 := hideIt (R2.out.trans (q3.bx l2 r2)); clear q3 c0 c1 c2 c3; obtain ⟨c0, c1, c2, c3⟩ := arr4 R3.out; obtain ⟨d0, d1⟩ := S3.out.c2) | (go_at_call 10; refine (HD.out _).mono ?_; rintro e x5 ⟨rfl, q5⟩; have R5 := hideIt ((R3.out.trans q5).bx sl sh)))
    go_ret
    exact ⟨rfl, ((Q.refl w).alloc _).trans R5.out⟩
  · obtain ⟨z2, z0, z1⟩ := HH'.out rfl
    have e2 : (v2 == 0) = true := by simpa using z2
    have e0 : decide (sl ≤ v1) = true := by simpa using z0
    have e1 : decide (v1 ≤ sh) = true := by simpa using z1
    clear z2 z0 z1 HH'
    have wo : IntKind.i64.wrap o = o := by simp [IntKind.wrap_i64]; omega
    have wt : IntKind.i64.wrap (t % 6) = t % 6 := by simp [IntKind.wrap_i64]; omega
    go_enter Try.func6, Try.ntmps6
    go_wp2_with (first | (go_at_call 9; refine (awake_any _).mono ?_; rintro e x1 ⟨rfl, q1⟩; have R1 := hideIt q1; clear q1; obtain ⟨c0, c1, c2, c3⟩ := arr4 R1.out) | (go_at_call_of 24 (Value.int IntKind.i64 a); refine (HC1.out _).mono ?_; rintro e x2 ⟨rfl, q2⟩; have R2 := hideIt ((R1.out.trans q2).bx l1 r1); clear q2 c0 c1 c2 c3; obtain ⟨c0, c1, c2, c3⟩ := arr4 R2.out) | (go_at_call_of 24 (Value.int IntKind.i64 c); refine (HC2.out _).mono ?_; rintro e x3 ⟨rfl, q3⟩; have S3 := hideIt (q3.bx l2 r2); have R3 := hideIt (R2.out.trans (q3.bx l2 r2)); clear q3 c0 c1 c2 c3; obtain ⟨c0, c1, c2, c3⟩ := arr4 R3.out; obtain ⟨d0, d1⟩ := S3.out.c2) | (go_at_call 10; refine (HD.out _).mono ?_; rintro e x5 ⟨rfl, q5⟩; have R5 := hideIt ((R3.out.trans q5).bx sl sh); have k0 := keepc (q5.bx sl sh) d0; have k1 := keepc (q5.bx sl sh) d1; have k2 := (q5.bx sl sh).c2.1; have k3 := (q5.bx sl sh).c2.2; clear q5 c0 c1 c2 c3 d0 d1))
    have hF : Hid (∀ y, Q (bx x5 sl sh) y → (fun y : World => y.cell? ⟨x2.heap.size, 0, none⟩ = some (.int .i64 l1) ∧ y.cell? ⟨x2.heap.size, 1, none⟩ = some (.int .i64 r1) ∧ y.cell? ⟨x3.heap.size, 0, none⟩ = some (.int .i64 l2) ∧ y.cell? ⟨x3.heap.size, 1, none⟩ = some (.int .i64 r2) ∧ y.cell? ⟨x5.heap.size, 0, none⟩ = some (.int .i64 sl) ∧ y.cell? ⟨x5.heap.size, 1, none⟩ = some (.int .i64 sh)) y) := fun y h => ⟨keepc h k0, keepc h k1, keepc h k2, keepc h k3, h.c2.1, h.c2.2⟩
    have WA' := hideIt (heldF hF.out WA.out)
    have WB' := hideIt (heldF hF.out WB.out)
    have HR'' := hideIt (heldF hF.out HR'.out)
    have qd : Q (bx x5 sl sh) (bx x5 sl sh).drew := (Q.refl _).drew
    clear k0 k1 k2 k3
    first | go_region_held3 (fun y : World => Q (bx x5 sl sh) y ∧ y.cell? ⟨x2.heap.size, 0, none⟩ = some (.int .i64 l1) ∧ y.cell? ⟨x2.heap.size, 1, none⟩ = some (.int .i64 r1) ∧ y.cell? ⟨x3.heap.size, 0, none⟩ = some (.int .i64 l2) ∧ y.cell? ⟨x3.heap.size, 1, none⟩ = some (.int .i64 r2) ∧ y.cell? ⟨x5.heap.size, 0, none⟩ = some (.int .i64 sl) ∧ y.cell? ⟨x5.heap.size, 1, none⟩ = some (.int .i64 sh)) (first | exact ⟨(Q.refl _).drew, hF.out _ (Q.refl _).drew⟩ | go_keep) (first | (go_at_call_of 26 (Value.int IntKind.u32 i); refine (WA'.out _ (by assumption)).mono ?_; rintro e y ⟨rfl, s0, s1, s2, s3, s4, s5, s6⟩) | (go_at_call_of 26 (Value.int IntKind.u32 j); refine (WB'.out _ (by assumption)).mono ?_; rintro e y ⟨rfl, s0, s1, s2, s3, s4, s5, s6⟩) | (go_at_call 25; refine (HR''.out _ (by assumption)).mono ?_; rintro e y ⟨rfl, s0, s1, s2, s3, s4, s5, s6⟩)) | fail
    all_goals
      go_wp2_with (fail)
      go_ret
      exact ⟨rfl, ((Q.refl w).alloc _).trans (R5.out.trans (Q.trans (by assumption) (Q.refl _)))⟩

set_option maxRecDepth 100000 in
set_option maxHeartbeats 4000000 in
theorem walk_s (op t a b c d i j : Int) (w : World) (ho : U8 op) (ht : U8 t) (_ : I64 a) (_ : I64 b) (hc : I64 c) (hd : I64 d) (hi : U32 i) (hj : U32 j) (hs : 1 + op % 16 = 9 ∨ 1 + op % 16 = 10) : Calls Try.prog 6 #[.int .u8 op, .int .u8 t, .agg #[.int .i64 a, .int .i64 b, .int .i64 c, .int .i64 d], .int .u32 i, .int .u32 j] w fun e w' => e = .returned (.bool true) ∧ Below w.heap.size w w' := by
  obtain ⟨o0, o1⟩ := ho
  obtain ⟨t0, t1⟩ := ht
  obtain ⟨i0, i1⟩ := hi
  obtain ⟨j0, j1⟩ := hj
  have HC1 := hideIt (fun x => cut_any (t % 6) a b x (by omega) (by omega))
  have HC2 := hideIt (fun x => cut_any (t % 6) c d x (by omega) (by omega))
  have HC3 := hideIt (fun x => cut_any 1 (c.tmod 40) (d.tmod 40) x (by omega) (by omega))
  have B1 := ct_bd (t % 6) a b (by omega) (by omega)
  have B2 := ct_bd (t % 6) c d (by omega) (by omega)
  have B3 := ct_bd 1 (c.tmod 40) (d.tmod 40) (by omega) (by omega)
  have LB := low_nb' (t % 6) (by omega) (by omega)
  have lb1 : low 1 = 0 := rfl
  have hb1 : high 1 = 255 := rfl
  have T1 : -9223372036854775808 ≤ c.tmod 40 ∧ c.tmod 40 ≤ 9223372036854775807 := tm40 c hc
  have T2 : -9223372036854775808 ≤ d.tmod 40 ∧ d.tmod 40 ≤ 9223372036854775807 := tm40 d hd
  have HD := hideIt (fun x => sdo_any (1 + op % 16) (t % 6) (ctL (t % 6) a b) (ctH (t % 6) a b) (ctL 1 (c.tmod 40) (d.tmod 40)) (ctH 1 (c.tmod 40) (d.tmod 40)) x (by omega))
  have HH := hideIt (fun x y x1 x2 y1 y2 => holds_any (1 + op % 16) (t % 6) (ctL (t % 6) a b) (ctH (t % 6) a b) (ctL 1 (c.tmod 40) (d.tmod 40)) (ctH 1 (c.tmod 40) (d.tmod 40)) x y (by omega) (by omega) (by omega) (by omega) B1.1 B1.2.2 (by intro h1 h2; omega) x1 x2 y1 y2)
  have HR := hideIt (fun p q x => rdo_any (1 + op % 16) (t % 6) p q x (by omega))
  generalize hO : 1 + op % 16 = o at *
  generalize ctL (t % 6) a b = l1 at *
  generalize ctH (t % 6) a b = r1 at *
  generalize ctL (t % 6) c d = l2 at *
  generalize ctH (t % 6) c d = r2 at *
  generalize ctL 1 (c.tmod 40) (d.tmod 40) = l3 at *
  generalize ctH 1 (c.tmod 40) (d.tmod 40) = r3 at *
  generalize doA o (t % 6) l1 r1 l3 r3 = D at *
  obtain ⟨sl, sh, ok⟩ := D
  have WA := hideIt (fun x => within_any l1 r1 i x ⟨by omega, by omega⟩ ⟨by omega, by omega⟩ B1.2.1 i0 i1)
  have WB := hideIt (fun x => within_any l3 r3 j x ⟨by omega, by omega⟩ ⟨by omega, by omega⟩ B3.2.1 j0 j1)
  have PA := wiP_bd l1 r1 i B1.2.1 i0
  have PB := wiP_bd l3 r3 j B3.2.1 j0
  generalize wiP l1 r1 i = p at *
  generalize wiP l3 r3 j = q at *
  have HR' := hideIt (HR.out p q)
  have HH' := hideIt (HH.out p q PA.1 PA.2 PB.1 PB.2)
  clear HR HH B1 B2 B3 PA PB LB
  generalize do1 o (t % 6) p q = v1 at *
  generalize do2 o (t % 6) p q = v2 at *
  have s9 : (o == 9) = !(o == 10) := by rcases hs with rfl | rfl <;> rfl
  cases s10 : (o == 10)
  · rw [s10] at s9
    simp only [Bool.not_false] at s9
    cases ok
    · go_enter Try.func6, Try.ntmps6
      go_wp2_with (first | (go_at_call 9; refine (awake_any _).mono ?_; rintro e x1 ⟨rfl, q1⟩; have R1 := hideIt q1; clear q1; obtain ⟨c0, c1, c2, c3⟩ := arr4 R1.out) | (go_at_call_of 24 (Value.int IntKind.i64 a); refine (HC1.out _).mono ?_; rintro e x2 ⟨rfl, q2⟩; have R2 := hideIt ((R1.out.trans q2).bx l1 r1); clear q2 c0 c1 c2 c3; obtain ⟨c0, c1, c2, c3⟩ := arr4 R2.out) | (go_at_call_of 24 (Value.int IntKind.i64 c); refine (HC2.out _).mono ?_; rintro e x3 ⟨rfl, q3⟩; have S3 := hideIt (q3.bx l2 r2); have LT := hideIt (R2.out.trans q3).lt; have nn := q3.nebx; have R3 := hideIt (R2.out.trans (q3.bx l2 r2)); clear q3 c0 c1 c2 c3; obtain ⟨c0, c1, c2, c3⟩ := arr4 R3.out; obtain ⟨d0, d1⟩ := S3.out.c2) | (go_at_call_of 24 (Value.int IntKind.u8 1); refine (HC3.out _).mono ?_; rintro e x4 ⟨rfl, q4⟩; have Q4 := hideIt q4; clear q4 c0 c1 c2 c3; have g0 := keepc Q4.out d0; have g1 := keepc Q4.out d1; clear d0 d1; obtain ⟨b0, b1⟩ := Q4.out.c2; have f0 := frz_blk (sp1 Q4.out) 0; have f1 := frz_blk (sp1 Q4.out) 1; have M := set_two (l := l3) (r := r3) b0 b1 nn g0 g1; obtain ⟨m0, m1, m2, m3⟩ := M; have R4 := hideIt (set_low (l' := l3) (r' := r3) R3.out Q4.out LT.out)) | (go_at_call 10; refine (HD.out _).mono ?_; rintro e x5 ⟨rfl, q5⟩; have R5 := hideIt ((R4.out.trans q5).bx sl sh)))
      go_ret
      exact ⟨rfl, ((Q.refl w).alloc _).trans R5.out⟩
    · obtain ⟨z2, z0, z1⟩ := HH'.out rfl
      have e2 : (v2 == 0) = true := by simpa using z2
      have e0 : decide (sl ≤ v1) = true := by simpa using z0
      have e1 : decide (v1 ≤ sh) = true := by simpa using z1
      clear z2 z0 z1 HH'
      have wo : IntKind.i64.wrap o = o := by simp [IntKind.wrap_i64]; omega
      have wt : IntKind.i64.wrap (t % 6) = t % 6 := by simp [IntKind.wrap_i64]; omega
      go_enter Try.func6, Try.ntmps6
      go_wp2_with (first | (go_at_call 9; refine (awake_any _).mono ?_; rintro e x1 ⟨rfl, q1⟩; have R1 := hideIt q1; clear q1; obtain ⟨c0, c1, c2, c3⟩ := arr4 R1.out) | (go_at_call_of 24 (Value.int IntKind.i64 a); refine (HC1.out _).mono ?_; rintro e x2 ⟨rfl, q2⟩; have R2 := hideIt ((R1.out.trans q2).bx l1 r1); clear q2 c0 c1 c2 c3; obtain ⟨c0, c1, c2, c3⟩ := arr4 R2.out) | (go_at_call_of 24 (Value.int IntKind.i64 c); refine (HC2.out _).mono ?_; rintro e x3 ⟨rfl, q3⟩; have S3 := hideIt (q3.bx l2 r2); have LT := hideIt (R2.out.trans q3).lt; have nn := q3.nebx; have R3 := hideIt (R2.out.trans (q3.bx l2 r2)); clear q3 c0 c1 c2 c3; obtain ⟨c0, c1, c2, c3⟩ := arr4 R3.out; obtain ⟨d0, d1⟩ := S3.out.c2) | (go_at_call_of 24 (Value.int IntKind.u8 1); refine (HC3.out _).mono ?_; rintro e x4 ⟨rfl, q4⟩; have Q4 := hideIt q4; clear q4 c0 c1 c2 c3; have g0 := keepc Q4.out d0; have g1 := keepc Q4.out d1; clear d0 d1; obtain ⟨b0, b1⟩ := Q4.out.c2; have f0 := frz_blk (sp1 Q4.out) 0; have f1 := frz_blk (sp1 Q4.out) 1; have M := set_two (l := l3) (r := r3) b0 b1 nn g0 g1; obtain ⟨m0, m1, m2, m3⟩ := M; have R4 := hideIt (set_low (l' := l3) (r' := r3) R3.out Q4.out LT.out)) | (go_at_call 10; refine (HD.out _).mono ?_; rintro e x5 ⟨rfl, q5⟩; have R5 := hideIt ((R4.out.trans q5).bx sl sh); have k0 := keepc (q5.bx sl sh) m0; have k1 := keepc (q5.bx sl sh) m1; have k2 := keepc (q5.bx sl sh) m2; have k3 := keepc (q5.bx sl sh) m3; clear q5 m0 m1 m2 m3 g0 g1 b0 b1 f0 f1))
      have hF : Hid (∀ y, Q (bx x5 sl sh) y → (fun y : World => y.cell? ⟨x2.heap.size, 0, none⟩ = some (.int .i64 l1) ∧ y.cell? ⟨x2.heap.size, 1, none⟩ = some (.int .i64 r1) ∧ y.cell? ⟨x3.heap.size, 0, none⟩ = some (.int .i64 l3) ∧ y.cell? ⟨x3.heap.size, 1, none⟩ = some (.int .i64 r3) ∧ y.cell? ⟨x5.heap.size, 0, none⟩ = some (.int .i64 sl) ∧ y.cell? ⟨x5.heap.size, 1, none⟩ = some (.int .i64 sh)) y) := fun y h => ⟨keepc h k0, keepc h k1, keepc h k2, keepc h k3, h.c2.1, h.c2.2⟩
      have WA' := hideIt (heldF hF.out WA.out)
      have WB' := hideIt (heldF hF.out WB.out)
      have HR'' := hideIt (heldF hF.out HR'.out)
      have qd : Q (bx x5 sl sh) (bx x5 sl sh).drew := (Q.refl _).drew
      clear k0 k1 k2 k3
      first | go_region_held3 (fun y : World => Q (bx x5 sl sh) y ∧ y.cell? ⟨x2.heap.size, 0, none⟩ = some (.int .i64 l1) ∧ y.cell? ⟨x2.heap.size, 1, none⟩ = some (.int .i64 r1) ∧ y.cell? ⟨x3.heap.size, 0, none⟩ = some (.int .i64 l3) ∧ y.cell? ⟨x3.heap.size, 1, none⟩ = some (.int .i64 r3) ∧ y.cell? ⟨x5.heap.size, 0, none⟩ = some (.int .i64 sl) ∧ y.cell? ⟨x5.heap.size, 1, none⟩ = some (.int .i64 sh)) (first | exact ⟨(Q.refl _).drew, hF.out _ (Q.refl _).drew⟩ | go_keep) (first | (go_at_call_of 26 (Value.int IntKind.u32 i); refine (WA'.out _ (by assumption)).mono ?_; rintro e y ⟨rfl, s0, s1, s2, s3, s4, s5, s6⟩) | (go_at_call_of 26 (Value.int IntKind.u32 j); refine (WB'.out _ (by assumption)).mono ?_; rintro e y ⟨rfl, s0, s1, s2, s3, s4, s5, s6⟩) | (go_at_call 25; refine (HR''.out _ (by assumption)).mono ?_; rintro e y ⟨rfl, s0, s1, s2, s3, s4, s5, s6⟩)) | fail
      all_goals
        go_wp2_with (fail)
        go_ret
        exact ⟨rfl, ((Q.refl w).alloc _).trans (R5.out.trans (Q.trans (by assumption) (Q.refl _)))⟩
  · rw [s10] at s9
    simp only [Bool.not_true] at s9
    cases ok
    · go_enter Try.func6, Try.ntmps6
      go_wp2_with (first | (go_at_call 9; refine (awake_any _).mono ?_; rintro e x1 ⟨rfl, q1⟩; have R1 := hideIt q1; clear q1; obtain ⟨c0, c1, c2, c3⟩ := arr4 R1.out) | (go_at_call_of 24 (Value.int IntKind.i64 a); refine (HC1.out _).mono ?_; rintro e x2 ⟨rfl, q2⟩; have R2 := hideIt ((R1.out.trans q2).bx l1 r1); clear q2 c0 c1 c2 c3; obtain ⟨c0, c1, c2, c3⟩ := arr4 R2.out) | (go_at_call_of 24 (Value.int IntKind.i64 c); refine (HC2.out _).mono ?_; rintro e x3 ⟨rfl, q3⟩; have S3 := hideIt (q3.bx l2 r2); have LT := hideIt (R2.out.trans q3).lt; have nn := q3.nebx; have R3 := hideIt (R2.out.trans (q3.bx l2 r2)); clear q3 c0 c1 c2 c3; obtain ⟨c0, c1, c2, c3⟩ := arr4 R3.out; obtain ⟨d0, d1⟩ := S3.out.c2) | (go_at_call_of 24 (Value.int IntKind.u8 1); refine (HC3.out _).mono ?_; rintro e x4 ⟨rfl, q4⟩; have Q4 := hideIt q4; clear q4 c0 c1 c2 c3; have g0 := keepc Q4.out d0; have g1 := keepc Q4.out d1; clear d0 d1; obtain ⟨b0, b1⟩ := Q4.out.c2; have f0 := frz_blk (sp1 Q4.out) 0; have f1 := frz_blk (sp1 Q4.out) 1; have M := set_two (l := l3) (r := r3) b0 b1 nn g0 g1; obtain ⟨m0, m1, m2, m3⟩ := M; have R4 := hideIt (set_low (l' := l3) (r' := r3) R3.out Q4.out LT.out)) | (go_at_call 10; refine (HD.out _).mono ?_; rintro e x5 ⟨rfl, q5⟩; have R5 := hideIt ((R4.out.trans q5).bx sl sh)))
      go_ret
      exact ⟨rfl, ((Q.refl w).alloc _).trans R5.out⟩
    · obtain ⟨z2, z0, z1⟩ := HH'.out rfl
      have e2 : (v2 == 0) = true := by simpa using z2
      have e0 : decide (sl ≤ v1) = true := by simpa using z0
      have e1 : decide (v1 ≤ sh) = true := by simpa using z1
      clear z2 z0 z1 HH'
      have wo : IntKind.i64.wrap o = o := by simp [IntKind.wrap_i64]; omega
      have wt : IntKind.i64.wrap (t % 6) = t % 6 := by simp [IntKind.wrap_i64]; omega
      go_enter Try.func6, Try.ntmps6
      go_wp2_with (first | (go_at_call 9; refine (awake_any _).mono ?_; rintro e x1 ⟨rfl, q1⟩; have R1 := hideIt q1; clear q1; obtain ⟨c0, c1, c2, c3⟩ := arr4 R1.out) | (go_at_call_of 24 (Value.int IntKind.i64 a); refine (HC1.out _).mono ?_; rintro e x2 ⟨rfl, q2⟩; have R2 := hideIt ((R1.out.trans q2).bx l1 r1); clear q2 c0 c1 c2 c3; obtain ⟨c0, c1, c2, c3⟩ := arr4 R2.out) | (go_at_call_of 24 (Value.int IntKind.i64 c); refine (HC2.out _).mono ?_; rintro e x3 ⟨rfl, q3⟩; have S3 := hideIt (q3.bx l2 r2); have LT := hideIt (R2.out.trans q3).lt; have nn := q3.nebx; have R3 := hideIt (R2.out.trans (q3.bx l2 r2)); clear q3 c0 c1 c2 c3; obtain ⟨c0, c1, c2, c3⟩ := arr4 R3.out; obtain ⟨d0, d1⟩ := S3.out.c2) | (go_at_call_of 24 (Value.int IntKind.u8 1); refine (HC3.out _).mono ?_; rintro e x4 ⟨rfl, q4⟩; have Q4 := hideIt q4; clear q4 c0 c1 c2 c3; have g0 := keepc Q4.out d0; have g1 := keepc Q4.out d1; clear d0 d1; obtain ⟨b0, b1⟩ := Q4.out.c2; have f0 := frz_blk (sp1 Q4.out) 0; have f1 := frz_blk (sp1 Q4.out) 1; have M := set_two (l := l3) (r := r3) b0 b1 nn g0 g1; obtain ⟨m0, m1, m2, m3⟩ := M; have R4 := hideIt (set_low (l' := l3) (r' := r3) R3.out Q4.out LT.out)) | (go_at_call 10; refine (HD.out _).mono ?_; rintro e x5 ⟨rfl, q5⟩; have R5 := hideIt ((R4.out.trans q5).bx sl sh); have k0 := keepc (q5.bx sl sh) m0; have k1 := keepc (q5.bx sl sh) m1; have k2 := keepc (q5.bx sl sh) m2; have k3 := keepc (q5.bx sl sh) m3; clear q5 m0 m1 m2 m3 g0 g1 b0 b1 f0 f1))
      have hF : Hid (∀ y, Q (bx x5 sl sh) y → (fun y : World => y.cell? ⟨x2.heap.size, 0, none⟩ = some (.int .i64 l1) ∧ y.cell? ⟨x2.heap.size, 1, none⟩ = some (.int .i64 r1) ∧ y.cell? ⟨x3.heap.size, 0, none⟩ = some (.int .i64 l3) ∧ y.cell? ⟨x3.heap.size, 1, none⟩ = some (.int .i64 r3) ∧ y.cell? ⟨x5.heap.size, 0, none⟩ = some (.int .i64 sl) ∧ y.cell? ⟨x5.heap.size, 1, none⟩ = some (.int .i64 sh)) y) := fun y h => ⟨keepc h k0, keepc h k1, keepc h k2, keepc h k3, h.c2.1, h.c2.2⟩
      have WA' := hideIt (heldF hF.out WA.out)
      have WB' := hideIt (heldF hF.out WB.out)
      have HR'' := hideIt (heldF hF.out HR'.out)
      have qd : Q (bx x5 sl sh) (bx x5 sl sh).drew := (Q.refl _).drew
      clear k0 k1 k2 k3
      first | go_region_held3 (fun y : World => Q (bx x5 sl sh) y ∧ y.cell? ⟨x2.heap.size, 0, none⟩ = some (.int .i64 l1) ∧ y.cell? ⟨x2.heap.size, 1, none⟩ = some (.int .i64 r1) ∧ y.cell? ⟨x3.heap.size, 0, none⟩ = some (.int .i64 l3) ∧ y.cell? ⟨x3.heap.size, 1, none⟩ = some (.int .i64 r3) ∧ y.cell? ⟨x5.heap.size, 0, none⟩ = some (.int .i64 sl) ∧ y.cell? ⟨x5.heap.size, 1, none⟩ = some (.int .i64 sh)) (first | exact ⟨(Q.refl _).drew, hF.out _ (Q.refl _).drew⟩ | go_keep) (first | (go_at_call_of 26 (Value.int IntKind.u32 i); refine (WA'.out _ (by assumption)).mono ?_; rintro e y ⟨rfl, s0, s1, s2, s3, s4, s5, s6⟩) | (go_at_call_of 26 (Value.int IntKind.u32 j); refine (WB'.out _ (by assumption)).mono ?_; rintro e y ⟨rfl, s0, s1, s2, s3, s4, s5, s6⟩) | (go_at_call 25; refine (HR''.out _ (by assumption)).mono ?_; rintro e y ⟨rfl, s0, s1, s2, s3, s4, s5, s6⟩)) | fail
      all_goals
        go_wp2_with (fail)
        go_ret
        exact ⟨rfl, ((Q.refl w).alloc _).trans (R5.out.trans (Q.trans (by assumption) (Q.refl _)))⟩

theorem walk (op t a b c d i j : Int) (w : World) (ho : U8 op) (ht : U8 t) (_ : I64 a) (_ : I64 b) (hc : I64 c) (hd : I64 d) (hi : U32 i) (hj : U32 j) : Calls Try.prog 6 #[.int .u8 op, .int .u8 t, .agg #[.int .i64 a, .int .i64 b, .int .i64 c, .int .i64 d], .int .u32 i, .int .u32 j] w fun e w' => e = .returned (.bool true) ∧ Below w.heap.size w w' := by
  by_cases hs : 1 + op % 16 = 9 ∨ 1 + op % 16 = 10
  · exact walk_s op t a b c d i j w ho ht (by assumption) (by assumption) hc hd hi hj hs
  · exact walk_n op t a b c d i j w ho ht (by assumption) (by assumption) hc hd hi hj hs

set_option maxRecDepth 100000 in
set_option maxHeartbeats 400000 in
theorem lifted (os : Os) (started : os.Started) (H : Type) (enc : TypeId × Value → H) :
    ReturnsInHanded {} Try.checked os 6 .any (Rows.spanHoldsSpec.pre6 enc Try.prog Try.f6 Rows.spanHoldsRow.domain false) (Rows.spanHoldsSpec.post enc Try.prog Try.f6 false true false false) := by
  refine returnsInHanded_of_change (C := Try.checked) own started (by kernel_rfl) Try.func6
    (ChangeSpec.witness6 (enc := enc) (C := Try.checked) false ⟨#[], #[.int .u8 0, .int .u8 0, .agg #[.int .i64 0, .int .i64 0, .int .i64 0, .int .i64 0], .int .u32 0, .int .u32 0], []⟩ 8 (by kernel_rfl) (by kernel_rfl) (by kernel_rfl) (by kernel_rfl)) ?_
  intro W base args ds gs before hval0 hW hcnd _
  have hval : ∀ (j : Nat) t v, Try.f6.params[j]? = some t → args[j]? = some v → Value.okWide Try.prog W .any base t v := hval0
  have hW' := hW
  obtain ⟨p, q, hA0, hV, rfl, hfz, hnd⟩ := hW
  have hA : DataW.TrodAll enc Try.prog W 0 (fun _ => true) true Try.f6.params.toList args.toList ds p := hA0
  rw [Try.params6] at hA hval
  obtain ⟨v0, vs0, d0, ds0, p0, q0, hargs, rfl, rfl, h0, r0⟩ := trodAll_cons hA
  obtain ⟨v1, vs1, d1, ds1, p1, q1, rfl, rfl, rfl, h1, r1⟩ := trodAll_cons r0
  obtain ⟨v2, vs2, d2, ds2, p2, q2, rfl, rfl, rfl, h2, r2⟩ := trodAll_cons r1
  obtain ⟨v3, vs3, d3, ds3, p3, q3, rfl, rfl, rfl, h3, r3⟩ := trodAll_cons r2
  obtain ⟨v4, vs4, d4, ds4, p4, q4, rfl, rfl, rfl, h4, r4⟩ := trodAll_cons r3
  obtain ⟨rfl, rfl, rfl⟩ := trodAll_nil r4
  obtain rfl : args = #[v0, v1, v2, v3, v4] := by cases args; simp_all
  obtain ⟨rfl, rfl⟩ := trodVars_none hV
  obtain ⟨a0, rfl, rfl, rfl, w0⟩ := open_int Try.underlying5 (hval 0 5 v0 rfl rfl) h0
  obtain ⟨a1, rfl, rfl, rfl, w1⟩ := open_int Try.underlying5 (hval 1 5 v1 rfl rfl) h1
  have k2 := h2
  have lt2 : ∀ x ∈ p2, x.block < W.heap.size := by obtain ⟨m, hm⟩ := k2; exact DataW.trod_lt m _ _ _ hm
  obtain ⟨a2a, a2b, a2c, a2d, rfl, b2a, b2b, b2c, b2d⟩ := open_a4 (hval 2 41 v2 rfl rfl) h2
  obtain ⟨a3, rfl, rfl, rfl, w3⟩ := open_int Try.underlying42 (hval 3 42 v3 rfl rfl) h3
  obtain ⟨a4, rfl, rfl, rfl, w4⟩ := open_int Try.underlying42 (hval 4 42 v4 rfl rfl) h4
  clear hA0 hval0
  refine (walk a0 a1 a2a a2b a2c a2d a3 a4 W (U8.of_wf w0) (U8.of_wf w1) b2a b2b b2c b2d (U32.of_wf w3) (U32.of_wf w4)).mono fun e W' ⟨he, bel⟩ => ?_
  subst he
  exact ⟨_, rfl, _, _, _, [], _, [], hW', trodAll_mk1 (shut_bool Try.underlying4 _), (trodAll_cons_mk (shut_int Try.underlying5 w0) (trodAll_cons_mk (shut_int Try.underlying5 w1) (trodAll_cons_mk (Below.trod laid (by kernel_rfl) (of_decide_eq_true (by kernel_rfl)) k2 bel lt2) (trodAll_cons_mk (shut_int Try.underlying42 w3) (trodAll_cons_mk (shut_int Try.underlying42 w4) trodAll_mk0))))), rfl, bel.frame _, fun h => by cases h⟩

theorem over : Rows.spanHoldsRow.holds Try.pinned (OpenSpec.ofChange Rows.spanHoldsSpec) :=
  OpenClaim.holds_of_wide 6 Try.f6 rfl rfl rfl rfl rfl rfl rfl ⟨rfl, rfl, rfl, rfl, rfl⟩ rfl rfl rfl rfl rfl (by kernel_rfl) Try.func6 (by kernel_rfl)
    (of_decide_eq_true (by kernel_rfl)) (by unfold Func.isWrapper; first | (rw [if_pos (by decide +kernel)]; kernel_rfl) | (rw [if_neg (by decide +kernel)]; exact ⟨rfl, rfl⟩))
    (fun os started H enc _ => lifted os started H enc)

/-- The statement. -/
theorem proved : Rows.SpanHoldsSaid :=
  over
#print axioms proved
end Go.Proofs.Ytancfhnhjfhbfaa.spanHolds
