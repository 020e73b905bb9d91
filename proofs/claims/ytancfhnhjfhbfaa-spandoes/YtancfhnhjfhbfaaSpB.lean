/-
  What Join, empty, truth, fit and corners of layer 10, and their like in the document's answer, return: contracts over the program.
-/
import Derived.Test.YtancfhnhjfhbfaaSpA
import Derived.BigQuiet
set_option linter.unusedVariables false
namespace Burin
def fiL (t l h : Int) : Int := if inB l h (low t) (high t) then l else low t
def fiH (t l h : Int) : Int := if inB l h (low t) (high t) then h else high t
def fiB (t l h : Int) : Bool := if inB l h (low t) (high t) then true else !sgn t
def mn4 (a b c d : Int) : Int := min (min (min a b) c) d
def mx4 (a b c d : Int) : Int := max (max (max a b) c) d
def trL (all non : Bool) : Int := if all then 1 else 0
def trH (all non : Bool) : Int := if all then 1 else if non then 0 else 1
end Burin
namespace Go.Proofs.Ytancfhnhjfhbfaa
open Go.RowKit
open Burin
set_option linter.unusedVariables false

theorem ite_min (x y : Int) : (if y < x then y else x) = min x y := by omega
theorem ite_max (x y : Int) : (if x < y then y else x) = max x y := by omega
theorem run_min2 {P : Program} {w : World} (ts : Array TypeId) (t : TypeId) (x y : Int) : (Builtin.min_ ts t #[.int .i64 x, .int .i64 y]).run P w = .ok (.int .i64 (min x y)) w := by
  simp [Builtin.min_, Builtin.min2]
  omega
theorem run_max2 {P : Program} {w : World} (ts : Array TypeId) (t : TypeId) (x y : Int) : (Builtin.max_ ts t #[.int .i64 x, .int .i64 y]).run P w = .ok (.int .i64 (max x y)) w := by
  simp [Builtin.max_, Builtin.max2]
  omega
theorem run_min4 {P : Program} {w : World} (ts : Array TypeId) (t : TypeId) (a b c d : Int) : (Builtin.min_ ts t #[.int .i64 a, .int .i64 b, .int .i64 c, .int .i64 d]).run P w = .ok (.int .i64 (mn4 a b c d)) w := by
  simp [Builtin.min_, Builtin.min2, mn4, ite_min]
theorem run_max4 {P : Program} {w : World} (ts : Array TypeId) (t : TypeId) (a b c d : Int) : (Builtin.max_ ts t #[.int .i64 a, .int .i64 b, .int .i64 c, .int .i64 d]).run P w = .ok (.int .i64 (mx4 a b c d)) w := by
  simp [Builtin.max_, Builtin.max2, mx4, ite_max]
attribute [local go_sem ↓] run_min2 run_max2 run_min4 run_max4

set_option maxHeartbeats 400000 in
theorem join_any (al ah bl bh : Int) (w : World) :
    Calls Try.prog 22 #[spV al ah, spV bl bh] w fun e w' => e = .returned (spV (joL al ah bl bh) (joH al ah bl bh)) ∧ Q w w' := by
  unfold joL joH
  have HA := hideIt (none_any al ah (bx3 w al ah bl bh))
  have HB := hideIt (none_any bl bh)
  cases hn : nonB al ah
  · rw [hn] at HA
    cases hm : nonB bl bh
    · rw [hm] at HB
      go_enter Try.func22, Try.ntmps22
      go_wp2_with (first | (go_at_call 19; refine HA.out.mono ?_; rintro e x1 ⟨rfl, q1⟩; obtain ⟨c0, c1, c2, c3, c4, c5, f4, f5⟩ := q1.c6; have Q1 := hideIt q1; clear q1) | (go_at_call 19; refine (HB.out _).mono ?_; rintro e x2 ⟨rfl, q2⟩; clear c0 c1 c2 c3 c4 c5 f4 f5; have Q2 := hideIt (Q1.out.trans q2); obtain ⟨c0, c1, c2, c3, c4, c5, f4, f5⟩ := Q2.out.c6; clear q2))
      exact bodyPost_ret (v := spV (min al bl) (max ah bh)) (by simp [results, Try.results22, go_sem, c4, c5]) rfl ⟨rfl, q_set3 Q2.out _ _⟩
    · rw [hm] at HB
      go_enter Try.func22, Try.ntmps22
      go_wp2_with (first | (go_at_call 19; refine HA.out.mono ?_; rintro e x1 ⟨rfl, q1⟩; obtain ⟨c0, c1, c2, c3, c4, c5, f4, f5⟩ := q1.c6; have Q1 := hideIt q1; clear q1) | (go_at_call 19; refine (HB.out _).mono ?_; rintro e x2 ⟨rfl, q2⟩; clear c0 c1 c2 c3 c4 c5 f4 f5; have Q2 := hideIt (Q1.out.trans q2); obtain ⟨c0, c1, c2, c3, c4, c5, f4, f5⟩ := Q2.out.c6; clear q2))
      exact bodyPost_ret (v := spV al ah) (by simp [results, Try.results22, go_sem, c4, c5]) rfl ⟨rfl, q_set3 Q2.out _ _⟩
  · rw [hn] at HA
    go_enter Try.func22, Try.ntmps22
    go_wp2_with (first | (go_at_call 19; refine HA.out.mono ?_; rintro e x1 ⟨rfl, q1⟩; obtain ⟨c0, c1, c2, c3, c4, c5, f4, f5⟩ := q1.c6; have Q1 := hideIt q1; clear q1))
    exact bodyPost_ret (v := spV bl bh) (by simp [results, Try.results22, go_sem, c4, c5]) rfl ⟨rfl, q_set3 Q1.out _ _⟩

set_option maxHeartbeats 400000 in
theorem empty_any (w : World) : Calls Try.prog 30 #[] w fun e w' => e = .returned (spV 1 0) ∧ Q w w' := by
  go_enter Try.func30, Try.ntmps30
  go_wp2
  exact bodyPost_ret (v := spV 1 0) (by simp [results, Try.results30, go_sem]) rfl ⟨rfl, (Q.refl _).alloc _⟩

set_option maxHeartbeats 400000 in
theorem rno_any (w : World) : Calls Try.prog 41 #[] w fun e w' => e = .returned (.tuple #[spV 1 0, .bool false]) ∧ Q w w' := by
  go_enter Try.func41, Try.ntmps41
  go_wp2
  exact bodyPost_ret (v := .tuple #[spV 1 0, .bool false]) (by simp [results, Try.results41, go_sem]) rfl ⟨rfl, (Q.refl _).alloc _⟩

set_option maxHeartbeats 400000 in
theorem truth_any (a n : Bool) (w : World) : Calls Try.prog 52 #[.bool a, .bool n] w fun e w' => e = .returned (spV (trL a n) (trH a n)) ∧ Q w w' := by
  cases a <;> cases n
  all_goals
    go_enter Try.func52, Try.ntmps52
    go_wp2
  · exact bodyPost_ret (v := spV 0 1) (by simp [results, Try.results52, go_sem]) rfl ⟨rfl, (Q.refl _).alloc _⟩
  · exact bodyPost_ret (v := spV 0 0) (by simp [results, Try.results52, go_sem]) rfl ⟨rfl, (Q.refl _).alloc _⟩
  · exact bodyPost_ret (v := spV 1 1) (by simp [results, Try.results52, go_sem]) rfl ⟨rfl, (Q.refl _).alloc _⟩
  · exact bodyPost_ret (v := spV 1 1) (by simp [results, Try.results52, go_sem]) rfl ⟨rfl, (Q.refl _).alloc _⟩

set_option maxHeartbeats 400000 in
theorem fit_any (t l r : Int) (w : World) (h0 : 0 ≤ t) :
    Calls Try.prog 32 #[.int .u8 t, spV l r] w fun e w' => e = .returned (.tuple #[spV (fiL t l r) (fiH t l r), .bool (fiB t l r)]) ∧ Q w w' := by
  unfold fiL fiH fiB
  have HF := hideIt (held2 (w := w) (a := l) (b := r) (c := 0) (d := 0) (fun x => full_any t x h0))
  have HI := hideIt (held2 (w := w) (a := l) (b := r) (c := 0) (d := 0) (fun x => in_any l r (low t) (high t) x))
  have HG := hideIt (fun x => signed_any t x h0)
  generalize inB l r (low t) (high t) = bb at *
  generalize low t = tl at *
  generalize high t = th at *
  generalize sgn t = sg at *
  have qd : Q (bx (bx w l r) 0 0) (bx (bx w l r) 0 0).drew := (Q.refl _).drew
  cases bb
  · go_enter Try.func32, Try.ntmps32
    go_wp2_with (fail)
    first | go_region_held3 (fun w' => Q (bx (bx w l r) 0 0) w' ∧ w'.cell? ⟨w.heap.size, 0, none⟩ = some (.int .i64 l) ∧ w'.cell? ⟨w.heap.size, 1, none⟩ = some (.int .i64 r) ∧ w'.cell? ⟨w.heap.size + 1, 0, none⟩ = some (.int .i64 0) ∧ w'.cell? ⟨w.heap.size + 1, 1, none⟩ = some (.int .i64 0)) (first | exact ⟨(Q.refl _).drew, (Q.refl _).drew.c4⟩ | go_keep) (first | (go_at_call 16; refine (HF.out _ (by assumption)).mono ?_; rintro e y ⟨rfl, s0, s1, s2, s3, s4⟩) | (go_at_call 20; refine (HI.out _ (by assumption)).mono ?_; rintro e y ⟨rfl, s0, s1, s2, s3, s4⟩)) | fail
    have R0 := hideIt s0
    go_wp2_with (first | (go_at_call 16; refine (HF.out _ R0.out).mono ?_; rintro e x1 ⟨rfl, q1, c0, c1, c2, c3⟩; obtain ⟨f0, f1⟩ := q1.f4; have R1 := hideIt q1; clear q1) | (go_at_call 51; refine (HG.out _).mono ?_; rintro e x2 ⟨rfl, rfl⟩))
    exact bodyPost_ret (v := .tuple #[spV tl th, .bool (!sg)]) (by simp [results, Try.results32, go_sem, c2, c3]) rfl ⟨rfl, q_set2 R1.out _ _⟩
  · go_enter Try.func32, Try.ntmps32
    go_wp2_with (fail)
    first | go_region_held3 (fun w' => Q (bx (bx w l r) 0 0) w' ∧ w'.cell? ⟨w.heap.size, 0, none⟩ = some (.int .i64 l) ∧ w'.cell? ⟨w.heap.size, 1, none⟩ = some (.int .i64 r) ∧ w'.cell? ⟨w.heap.size + 1, 0, none⟩ = some (.int .i64 0) ∧ w'.cell? ⟨w.heap.size + 1, 1, none⟩ = some (.int .i64 0)) (first | exact ⟨(Q.refl _).drew, (Q.refl _).drew.c4⟩ | go_keep) (first | (go_at_call 16; refine (HF.out _ (by assumption)).mono ?_; rintro e y ⟨rfl, s0, s1, s2, s3, s4⟩) | (go_at_call 20; refine (HI.out _ (by assumption)).mono ?_; rintro e y ⟨rfl, s0, s1, s2, s3, s4⟩)) | fail
    have R0 := hideIt s0
    obtain ⟨f0, f1⟩ := s0.f4
    go_wp2_with (fail)
    exact bodyPost_ret (v := .tuple #[spV l r, .bool true]) (by simp [results, Try.results32, go_sem, s3, s4]) rfl ⟨rfl, q_set2 R0.out _ _⟩

set_option maxHeartbeats 400000 in
theorem rfit_any (t l r : Int) (w : World) (h0 : 0 ≤ t) :
    Calls Try.prog 45 #[.int .i64 t, spV l r] w fun e w' => e = .returned (.tuple #[spV (fiL t l r) (fiH t l r), .bool (fiB t l r)]) ∧ Q w w' := by
  unfold fiL fiH fiB
  have HF := hideIt (held2 (w := w) (a := l) (b := r) (c := 0) (d := 0) (fun x => rfull_any t x h0))
  have HI := hideIt (held2 (w := w) (a := l) (b := r) (c := 0) (d := 0) (fun x => rin_any l r (low t) (high t) x))
  have HG := hideIt (fun x => rsigned_any t x h0)
  generalize inB l r (low t) (high t) = bb at *
  generalize low t = tl at *
  generalize high t = th at *
  generalize sgn t = sg at *
  have qd : Q (bx (bx w l r) 0 0) (bx (bx w l r) 0 0).drew := (Q.refl _).drew
  cases bb
  · go_enter Try.func45, Try.ntmps45
    go_wp2_with (fail)
    first | go_region_held3 (fun w' => Q (bx (bx w l r) 0 0) w' ∧ w'.cell? ⟨w.heap.size, 0, none⟩ = some (.int .i64 l) ∧ w'.cell? ⟨w.heap.size, 1, none⟩ = some (.int .i64 r) ∧ w'.cell? ⟨w.heap.size + 1, 0, none⟩ = some (.int .i64 0) ∧ w'.cell? ⟨w.heap.size + 1, 1, none⟩ = some (.int .i64 0)) (first | exact ⟨(Q.refl _).drew, (Q.refl _).drew.c4⟩ | go_keep) (first | (go_at_call 17; refine (HF.out _ (by assumption)).mono ?_; rintro e y ⟨rfl, s0, s1, s2, s3, s4⟩) | (go_at_call 21; refine (HI.out _ (by assumption)).mono ?_; rintro e y ⟨rfl, s0, s1, s2, s3, s4⟩)) | fail
    have R0 := hideIt s0
    go_wp2_with (first | (go_at_call 17; refine (HF.out _ R0.out).mono ?_; rintro e x1 ⟨rfl, q1, c0, c1, c2, c3⟩; obtain ⟨f0, f1⟩ := q1.f4; have R1 := hideIt q1; clear q1) | (go_at_call 53; refine (HG.out _).mono ?_; rintro e x2 ⟨rfl, rfl⟩))
    exact bodyPost_ret (v := .tuple #[spV tl th, .bool (!sg)]) (by simp [results, Try.results45, go_sem, c2, c3]) rfl ⟨rfl, q_set2 R1.out _ _⟩
  · go_enter Try.func45, Try.ntmps45
    go_wp2_with (fail)
    first | go_region_held3 (fun w' => Q (bx (bx w l r) 0 0) w' ∧ w'.cell? ⟨w.heap.size, 0, none⟩ = some (.int .i64 l) ∧ w'.cell? ⟨w.heap.size, 1, none⟩ = some (.int .i64 r) ∧ w'.cell? ⟨w.heap.size + 1, 0, none⟩ = some (.int .i64 0) ∧ w'.cell? ⟨w.heap.size + 1, 1, none⟩ = some (.int .i64 0)) (first | exact ⟨(Q.refl _).drew, (Q.refl _).drew.c4⟩ | go_keep) (first | (go_at_call 17; refine (HF.out _ (by assumption)).mono ?_; rintro e y ⟨rfl, s0, s1, s2, s3, s4⟩) | (go_at_call 21; refine (HI.out _ (by assumption)).mono ?_; rintro e y ⟨rfl, s0, s1, s2, s3, s4⟩)) | fail
    have R0 := hideIt s0
    obtain ⟨f0, f1⟩ := s0.f4
    go_wp2_with (fail)
    exact bodyPost_ret (v := .tuple #[spV l r, .bool true]) (by simp [results, Try.results45, go_sem, s3, s4]) rfl ⟨rfl, q_set2 R0.out _ _⟩

set_option maxHeartbeats 400000 in
theorem corners_0 (g : Int → Int → Int) (al ah bl bh : Int) (w : World) (HC : ∀ x y, (x = al ∨ x = ah) → (y = bl ∨ y = bh) → ∀ u, Calls Try.prog 34 #[.int .i64 x, .int .i64 y] u fun e w' => e = .returned (.int .i64 (g x y)) ∧ ∃ n, w' = u.drewN n) :
    Calls Try.prog 33 #[spV al ah, spV bl bh, .func (.func 34) #[] #[]] w fun e w' => e = .returned (spV (mn4 (g al bl) (g al bh) (g ah bl) (g ah bh)) (mx4 (g al bl) (g al bh) (g ah bl) (g ah bh))) ∧ Q w w' := by
  have H1 := hideIt (HC al bl (.inl rfl) (.inl rfl))
  have H2 := hideIt (HC al bh (.inl rfl) (.inr rfl))
  have H3 := hideIt (HC ah bl (.inr rfl) (.inl rfl))
  have H4 := hideIt (HC ah bh (.inr rfl) (.inr rfl))
  clear HC
  generalize g al bl = r1 at *
  generalize g al bh = r2 at *
  generalize g ah bl = r3 at *
  generalize g ah bh = r4 at *
  go_enter Try.func33, Try.ntmps33
  go_wp2_with (fail)
  go_quiet (first | (go_at_call_of 34 (Value.int IntKind.i64 al); go_at_call_of 34 (Value.int IntKind.i64 bl); exact Calls.quiet_of (H1.out _)) | (go_at_call_of 34 (Value.int IntKind.i64 al); go_at_call_of 34 (Value.int IntKind.i64 bh); exact Calls.quiet_of (H2.out _)) | (go_at_call_of 34 (Value.int IntKind.i64 ah); go_at_call_of 34 (Value.int IntKind.i64 bl); exact Calls.quiet_of (H3.out _)) | (go_at_call_of 34 (Value.int IntKind.i64 ah); go_at_call_of 34 (Value.int IntKind.i64 bh); exact Calls.quiet_of (H4.out _)))
  obtain ⟨c0, c1, c2, c3, c4, c5, f4, f5⟩ := Q.c6 (below_drewN (Q.refl (bx3 w al ah bl bh)) nq)
  go_wp2_with (fail)
  exact bodyPost_ret (v := spV (mn4 r1 r2 r3 r4) (mx4 r1 r2 r3 r4)) (by simp [results, Try.results33, go_sem, c4, c5]) rfl ⟨rfl, q_set3 (below_drewN (Q.refl (bx3 w al ah bl bh)) nq) _ _⟩

set_option maxHeartbeats 400000 in
theorem corners_1 (g : Int → Int → Int) (al ah bl bh : Int) (w : World) (HC : ∀ x y, (x = al ∨ x = ah) → (y = bl ∨ y = bh) → ∀ u, Calls Try.prog 35 #[.int .i64 x, .int .i64 y] u fun e w' => e = .returned (.int .i64 (g x y)) ∧ ∃ n, w' = u.drewN n) :
    Calls Try.prog 33 #[spV al ah, spV bl bh, .func (.func 35) #[] #[]] w fun e w' => e = .returned (spV (mn4 (g al bl) (g al bh) (g ah bl) (g ah bh)) (mx4 (g al bl) (g al bh) (g ah bl) (g ah bh))) ∧ Q w w' := by
  have H1 := hideIt (HC al bl (.inl rfl) (.inl rfl))
  have H2 := hideIt (HC al bh (.inl rfl) (.inr rfl))
  have H3 := hideIt (HC ah bl (.inr rfl) (.inl rfl))
  have H4 := hideIt (HC ah bh (.inr rfl) (.inr rfl))
  clear HC
  generalize g al bl = r1 at *
  generalize g al bh = r2 at *
  generalize g ah bl = r3 at *
  generalize g ah bh = r4 at *
  go_enter Try.func33, Try.ntmps33
  go_wp2_with (fail)
  go_quiet (first | (go_at_call_of 35 (Value.int IntKind.i64 al); go_at_call_of 35 (Value.int IntKind.i64 bl); exact Calls.quiet_of (H1.out _)) | (go_at_call_of 35 (Value.int IntKind.i64 al); go_at_call_of 35 (Value.int IntKind.i64 bh); exact Calls.quiet_of (H2.out _)) | (go_at_call_of 35 (Value.int IntKind.i64 ah); go_at_call_of 35 (Value.int IntKind.i64 bl); exact Calls.quiet_of (H3.out _)) | (go_at_call_of 35 (Value.int IntKind.i64 ah); go_at_call_of 35 (Value.int IntKind.i64 bh); exact Calls.quiet_of (H4.out _)))
  obtain ⟨c0, c1, c2, c3, c4, c5, f4, f5⟩ := Q.c6 (below_drewN (Q.refl (bx3 w al ah bl bh)) nq)
  go_wp2_with (fail)
  exact bodyPost_ret (v := spV (mn4 r1 r2 r3 r4) (mx4 r1 r2 r3 r4)) (by simp [results, Try.results33, go_sem, c4, c5]) rfl ⟨rfl, q_set3 (below_drewN (Q.refl (bx3 w al ah bl bh)) nq) _ _⟩

set_option maxHeartbeats 400000 in
theorem corners_2 (g : Int → Int → Int) (al ah bl bh : Int) (w : World) (HC : ∀ x y, (x = al ∨ x = ah) → (y = bl ∨ y = bh) → ∀ u, Calls Try.prog 36 #[.int .i64 x, .int .i64 y] u fun e w' => e = .returned (.int .i64 (g x y)) ∧ ∃ n, w' = u.drewN n) :
    Calls Try.prog 33 #[spV al ah, spV bl bh, .func (.func 36) #[] #[]] w fun e w' => e = .returned (spV (mn4 (g al bl) (g al bh) (g ah bl) (g ah bh)) (mx4 (g al bl) (g al bh) (g ah bl) (g ah bh))) ∧ Q w w' := by
  have H1 := hideIt (HC al bl (.inl rfl) (.inl rfl))
  have H2 := hideIt (HC al bh (.inl rfl) (.inr rfl))
  have H3 := hideIt (HC ah bl (.inr rfl) (.inl rfl))
  have H4 := hideIt (HC ah bh (.inr rfl) (.inr rfl))
  clear HC
  generalize g al bl = r1 at *
  generalize g al bh = r2 at *
  generalize g ah bl = r3 at *
  generalize g ah bh = r4 at *
  go_enter Try.func33, Try.ntmps33
  go_wp2_with (fail)
  go_quiet (first | (go_at_call_of 36 (Value.int IntKind.i64 al); go_at_call_of 36 (Value.int IntKind.i64 bl); exact Calls.quiet_of (H1.out _)) | (go_at_call_of 36 (Value.int IntKind.i64 al); go_at_call_of 36 (Value.int IntKind.i64 bh); exact Calls.quiet_of (H2.out _)) | (go_at_call_of 36 (Value.int IntKind.i64 ah); go_at_call_of 36 (Value.int IntKind.i64 bl); exact Calls.quiet_of (H3.out _)) | (go_at_call_of 36 (Value.int IntKind.i64 ah); go_at_call_of 36 (Value.int IntKind.i64 bh); exact Calls.quiet_of (H4.out _)))
  obtain ⟨c0, c1, c2, c3, c4, c5, f4, f5⟩ := Q.c6 (below_drewN (Q.refl (bx3 w al ah bl bh)) nq)
  go_wp2_with (fail)
  exact bodyPost_ret (v := spV (mn4 r1 r2 r3 r4) (mx4 r1 r2 r3 r4)) (by simp [results, Try.results33, go_sem, c4, c5]) rfl ⟨rfl, q_set3 (below_drewN (Q.refl (bx3 w al ah bl bh)) nq) _ _⟩

set_option maxHeartbeats 400000 in
theorem corners_3 (g : Int → Int → Int) (al ah bl bh : Int) (w : World) (HC : ∀ x y, (x = al ∨ x = ah) → (y = bl ∨ y = bh) → ∀ u, Calls Try.prog 63 #[.int .i64 x, .int .i64 y] u fun e w' => e = .returned (.int .i64 (g x y)) ∧ ∃ n, w' = u.drewN n) :
    Calls Try.prog 33 #[spV al ah, spV bl bh, .func (.func 63) #[] #[]] w fun e w' => e = .returned (spV (mn4 (g al bl) (g al bh) (g ah bl) (g ah bh)) (mx4 (g al bl) (g al bh) (g ah bl) (g ah bh))) ∧ Q w w' := by
  have H1 := hideIt (HC al bl (.inl rfl) (.inl rfl))
  have H2 := hideIt (HC al bh (.inl rfl) (.inr rfl))
  have H3 := hideIt (HC ah bl (.inr rfl) (.inl rfl))
  have H4 := hideIt (HC ah bh (.inr rfl) (.inr rfl))
  clear HC
  generalize g al bl = r1 at *
  generalize g al bh = r2 at *
  generalize g ah bl = r3 at *
  generalize g ah bh = r4 at *
  go_enter Try.func33, Try.ntmps33
  go_wp2_with (fail)
  go_quiet (first | (go_at_call_of 63 (Value.int IntKind.i64 al); go_at_call_of 63 (Value.int IntKind.i64 bl); exact Calls.quiet_of (H1.out _)) | (go_at_call_of 63 (Value.int IntKind.i64 al); go_at_call_of 63 (Value.int IntKind.i64 bh); exact Calls.quiet_of (H2.out _)) | (go_at_call_of 63 (Value.int IntKind.i64 ah); go_at_call_of 63 (Value.int IntKind.i64 bl); exact Calls.quiet_of (H3.out _)) | (go_at_call_of 63 (Value.int IntKind.i64 ah); go_at_call_of 63 (Value.int IntKind.i64 bh); exact Calls.quiet_of (H4.out _)))
  obtain ⟨c0, c1, c2, c3, c4, c5, f4, f5⟩ := Q.c6 (below_drewN (Q.refl (bx3 w al ah bl bh)) nq)
  go_wp2_with (fail)
  exact bodyPost_ret (v := spV (mn4 r1 r2 r3 r4) (mx4 r1 r2 r3 r4)) (by simp [results, Try.results33, go_sem, c4, c5]) rfl ⟨rfl, q_set3 (below_drewN (Q.refl (bx3 w al ah bl bh)) nq) _ _⟩

set_option maxHeartbeats 400000 in
theorem corners_4 (g : Int → Int → Int) (al ah bl bh : Int) (w : World) (HC : ∀ x y, (x = al ∨ x = ah) → (y = bl ∨ y = bh) → ∀ u, Calls Try.prog 64 #[.int .i64 x, .int .i64 y] u fun e w' => e = .returned (.int .i64 (g x y)) ∧ ∃ n, w' = u.drewN n) :
    Calls Try.prog 33 #[spV al ah, spV bl bh, .func (.func 64) #[] #[]] w fun e w' => e = .returned (spV (mn4 (g al bl) (g al bh) (g ah bl) (g ah bh)) (mx4 (g al bl) (g al bh) (g ah bl) (g ah bh))) ∧ Q w w' := by
  have H1 := hideIt (HC al bl (.inl rfl) (.inl rfl))
  have H2 := hideIt (HC al bh (.inl rfl) (.inr rfl))
  have H3 := hideIt (HC ah bl (.inr rfl) (.inl rfl))
  have H4 := hideIt (HC ah bh (.inr rfl) (.inr rfl))
  clear HC
  generalize g al bl = r1 at *
  generalize g al bh = r2 at *
  generalize g ah bl = r3 at *
  generalize g ah bh = r4 at *
  go_enter Try.func33, Try.ntmps33
  go_wp2_with (fail)
  go_quiet (first | (go_at_call_of 64 (Value.int IntKind.i64 al); go_at_call_of 64 (Value.int IntKind.i64 bl); exact Calls.quiet_of (H1.out _)) | (go_at_call_of 64 (Value.int IntKind.i64 al); go_at_call_of 64 (Value.int IntKind.i64 bh); exact Calls.quiet_of (H2.out _)) | (go_at_call_of 64 (Value.int IntKind.i64 ah); go_at_call_of 64 (Value.int IntKind.i64 bl); exact Calls.quiet_of (H3.out _)) | (go_at_call_of 64 (Value.int IntKind.i64 ah); go_at_call_of 64 (Value.int IntKind.i64 bh); exact Calls.quiet_of (H4.out _)))
  obtain ⟨c0, c1, c2, c3, c4, c5, f4, f5⟩ := Q.c6 (below_drewN (Q.refl (bx3 w al ah bl bh)) nq)
  go_wp2_with (fail)
  exact bodyPost_ret (v := spV (mn4 r1 r2 r3 r4) (mx4 r1 r2 r3 r4)) (by simp [results, Try.results33, go_sem, c4, c5]) rfl ⟨rfl, q_set3 (below_drewN (Q.refl (bx3 w al ah bl bh)) nq) _ _⟩

set_option maxHeartbeats 400000 in
theorem corners_5 (g : Int → Int → Int) (al ah bl bh : Int) (w : World) (HC : ∀ x y, (x = al ∨ x = ah) → (y = bl ∨ y = bh) → ∀ u, Calls Try.prog 66 #[.int .i64 x, .int .i64 y] u fun e w' => e = .returned (.int .i64 (g x y)) ∧ ∃ n, w' = u.drewN n) :
    Calls Try.prog 33 #[spV al ah, spV bl bh, .func (.func 66) #[] #[]] w fun e w' => e = .returned (spV (mn4 (g al bl) (g al bh) (g ah bl) (g ah bh)) (mx4 (g al bl) (g al bh) (g ah bl) (g ah bh))) ∧ Q w w' := by
  have H1 := hideIt (HC al bl (.inl rfl) (.inl rfl))
  have H2 := hideIt (HC al bh (.inl rfl) (.inr rfl))
  have H3 := hideIt (HC ah bl (.inr rfl) (.inl rfl))
  have H4 := hideIt (HC ah bh (.inr rfl) (.inr rfl))
  clear HC
  generalize g al bl = r1 at *
  generalize g al bh = r2 at *
  generalize g ah bl = r3 at *
  generalize g ah bh = r4 at *
  go_enter Try.func33, Try.ntmps33
  go_wp2_with (fail)
  go_quiet (first | (go_at_call_of 66 (Value.int IntKind.i64 al); go_at_call_of 66 (Value.int IntKind.i64 bl); exact Calls.quiet_of (H1.out _)) | (go_at_call_of 66 (Value.int IntKind.i64 al); go_at_call_of 66 (Value.int IntKind.i64 bh); exact Calls.quiet_of (H2.out _)) | (go_at_call_of 66 (Value.int IntKind.i64 ah); go_at_call_of 66 (Value.int IntKind.i64 bl); exact Calls.quiet_of (H3.out _)) | (go_at_call_of 66 (Value.int IntKind.i64 ah); go_at_call_of 66 (Value.int IntKind.i64 bh); exact Calls.quiet_of (H4.out _)))
  obtain ⟨c0, c1, c2, c3, c4, c5, f4, f5⟩ := Q.c6 (below_drewN (Q.refl (bx3 w al ah bl bh)) nq)
  go_wp2_with (fail)
  exact bodyPost_ret (v := spV (mn4 r1 r2 r3 r4) (mx4 r1 r2 r3 r4)) (by simp [results, Try.results33, go_sem, c4, c5]) rfl ⟨rfl, q_set3 (below_drewN (Q.refl (bx3 w al ah bl bh)) nq) _ _⟩

end Go.Proofs.Ytancfhnhjfhbfaa
