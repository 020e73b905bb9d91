/-
  What an instruction reads, by layer 13 and by the document's answer for it: contracts over the program.
-/
import Derived.Test.YtiiggldapncknaaIrC
namespace Go.Proofs.Ytiiggldapncknaa
open Go.RowKit
set_option linter.unusedVariables false

theorem rd_cases (o : Int) : o = 20 ∨ o = 21 ∨ o = 22 ∨ o = 23 ∨ o = 24 ∨ o = 25 ∨ o = 26 ∨ o = 27 ∨ o = 28 ∨ o = 29 ∨ o = 30 ∨ o = 31 ∨ o = 32 ∨ o = 33 ∨ (¬ o = 20 ∧ ¬ o = 21 ∧ ¬ o = 22 ∧ ¬ o = 23 ∧ ¬ o = 24 ∧ ¬ o = 25 ∧ ¬ o = 26 ∧ ¬ o = 27 ∧ ¬ o = 28 ∧ ¬ o = 29 ∧ ¬ o = 30 ∧ ¬ o = 31 ∧ ¬ o = 32 ∧ ¬ o = 33) := by omega

theorem reads_any (o : Int) (w : World) : Calls Try.prog 25 #[.int .u8 o] w fun e w' => e = .returned (.int .i64 (rdP o)) ∧ w' = w := by
  have C := hideIt (operation_any o w)
  rcases rd_cases o with rfl | rfl | rfl | rfl | rfl | rfl | rfl | rfl | rfl | rfl | rfl | rfl | rfl | rfl | ⟨h20, h21, h22, h23, h24, h25, h26, h27, h28, h29, h30, h31, h32, h33⟩
  case inr.inr.inr.inr.inr.inr.inr.inr.inr.inr.inr.inr.inr.inr =>
    cases h : opP o
    · have e : rdP o = 0 := by unfold rdP; simp [h, h28, h31, h21, h22, h23, h24, h25, h29, h30, h33]
      rw [h] at C
      rw [e]
      clear e h
      go_enter Try.func25, Try.ntmps25
      go_wp2_with (first | (go_at_call 37; refine C.out.mono ?_; rintro e x ⟨rfl, rfl⟩) | fail)
      go_ret
      exact ⟨rfl, rfl⟩
    · have e : rdP o = 2 := by unfold rdP; simp [h]
      rw [h] at C
      rw [e]
      clear e h
      go_enter Try.func25, Try.ntmps25
      go_wp2_with (first | (go_at_call 37; refine C.out.mono ?_; rintro e x ⟨rfl, rfl⟩) | fail)
      go_ret
      exact ⟨rfl, rfl⟩
  all_goals
    go_enter Try.func25, Try.ntmps25
    go_wp2_with (first | (go_at_call 37; refine C.out.mono ?_; rintro e x ⟨rfl, rfl⟩) | fail)
    go_ret
    exact ⟨rfl, rfl⟩

theorem rreads_any (o : Int) (w : World) : Calls Try.prog 26 #[.int .u8 o] w fun e w' => e = .returned (.int .i64 (rdP o)) ∧ w' = w := by
  have C := hideIt (rknown_any o w)
  rcases rd_cases o with rfl | rfl | rfl | rfl | rfl | rfl | rfl | rfl | rfl | rfl | rfl | rfl | rfl | rfl | ⟨h20, h21, h22, h23, h24, h25, h26, h27, h28, h29, h30, h31, h32, h33⟩
  case inr.inr.inr.inr.inr.inr.inr.inr.inr.inr.inr.inr.inr.inr =>
    cases h : opP o
    · have e : rdP o = 0 := by unfold rdP; simp [h, h28, h31, h21, h22, h23, h24, h25, h29, h30, h33]
      have e2 : knP o = false := by
        unfold knP
        rw [h]
        simp
        omega
      rw [e2] at C
      rw [e]
      clear e h e2
      go_enter Try.func26, Try.ntmps26
      go_wp2_with (first | (go_at_call 28; refine C.out.mono ?_; rintro e x ⟨rfl, rfl⟩) | fail)
      go_ret
      exact ⟨rfl, rfl⟩
    · have e : rdP o = 2 := by unfold rdP; simp [h]
      have e2 : knP o = true := by unfold knP; rw [h]; rfl
      rw [e2] at C
      rw [e]
      clear e h e2
      go_enter Try.func26, Try.ntmps26
      go_wp2_with (first | (go_at_call 28; refine C.out.mono ?_; rintro e x ⟨rfl, rfl⟩) | fail)
      go_ret
      exact ⟨rfl, rfl⟩
  all_goals
    go_enter Try.func26, Try.ntmps26
    go_wp2_with (first | (go_at_call 28; refine C.out.mono ?_; rintro e x ⟨rfl, rfl⟩) | fail)
    go_ret
    exact ⟨rfl, rfl⟩

theorem writes_any (o : Int) (w : World) : Calls Try.prog 15 #[.int .u8 o] w fun e w' => e = .returned (.bool (wrP o)) ∧ w' = w := by
  have C := hideIt (rknown_any o w)
  unfold wrP
  cases h : knP o <;> rw [h] at C
  · go_enter Try.func15, Try.ntmps15
    go_wp2_with (first | (go_at_call 28; refine C.out.mono ?_; rintro e x ⟨rfl, rfl⟩) | fail)
    go_ret
    exact ⟨rfl, rfl⟩
  · by_cases h1 : o = 31
    · subst h1
      go_enter Try.func15, Try.ntmps15
      go_wp2_with (first | (go_at_call 28; refine C.out.mono ?_; rintro e x ⟨rfl, rfl⟩) | fail)
      go_ret
      exact ⟨rfl, rfl⟩
    · go_enter Try.func15, Try.ntmps15
      go_wp2_with (first | (go_at_call 28; refine C.out.mono ?_; rintro e x ⟨rfl, rfl⟩) | fail)
      go_ret
      exact ⟨rfl, rfl⟩

/-- The world behind the box of an instruction. -/
abbrev bxI (w : World) (x : PI) : World := w.alloc (.cells #[.int .u8 x.op, .int .u8 x.ty, .int .i64 x.dst, .int .i64 x.a, .int .i64 x.b, .int .i64 x.imm, .slice x.aa x.args.length x.ac] 33)
theorem bxI_at {w w' : World} {x : PI} (h : Q (bxI w x) w') : At w' w.heap.size 0 x.cells := At.box h
theorem bxI_q (w : World) (x : PI) : Q w (bxI w x) := (Q.refl _).alloc _

theorem dst_any (x : PI) (w : World) : Calls Try.prog 14 #[x.v] w fun e w' => e = .returned (.bool (wrP x.op)) ∧ Q w w' := by
  have q := hideIt (bxI_q w x)
  have C := hideIt (known_any x.op (bxI w x))
  rcases x with ⟨o, ty, d, a, b, im, args, aa, ac⟩
  dsimp only [PI.v, bxI] at C q ⊢
  unfold wrP
  cases h : knP o <;> rw [h] at C
  · go_enter Try.func14, Try.ntmps14
    go_wp2_with (first | (go_at_call 27; refine C.out.mono ?_; rintro e x ⟨rfl, rfl⟩) | fail)
    go_ret
    exact ⟨rfl, q.out⟩
  · by_cases h1 : o = 31
    · subst h1
      go_enter Try.func14, Try.ntmps14
      go_wp2_with (first | (go_at_call 27; refine C.out.mono ?_; rintro e x ⟨rfl, rfl⟩) | fail)
      go_ret
      exact ⟨rfl, q.out⟩
    · go_enter Try.func14, Try.ntmps14
      go_wp2_with (first | (go_at_call 27; refine C.out.mono ?_; rintro e x ⟨rfl, rfl⟩) | fail)
      go_ret
      exact ⟨rfl, q.out⟩

def puP (o : Int) : Bool := wrP o && (o != 30 && o != 32)

theorem pure_any (x : PI) (w : World) : Calls Try.prog 16 #[x.v] w fun e w' => e = .returned (.bool (puP x.op)) ∧ Q w w' := by
  have q := hideIt (bxI_q w x)
  have qa := hideIt (fun w' (h : Q (bxI w x) w') => (bxI_at h).seven)
  have C := hideIt (dst_any x (bxI w x))
  rcases x with ⟨o, ty, d, a, b, im, args, aa, ac⟩
  dsimp only [PI.v, bxI] at C q qa ⊢
  unfold puP
  cases h : wrP o <;> rw [h] at C
  · go_enter Try.func16, Try.ntmps16
    go_wp2_with (first | (go_at_call 14; refine C.out.mono ?_; rintro e x ⟨rfl, hx⟩; have HX := hideIt hx; obtain ⟨c0, -⟩ := qa.out x hx; clear hx) | fail)
    go_ret
    exact ⟨rfl, q.out.trans HX.out⟩
  · by_cases h1 : o = 30
    · subst h1
      go_enter Try.func16, Try.ntmps16
      go_wp2_with (first | (go_at_call 14; refine C.out.mono ?_; rintro e x ⟨rfl, hx⟩; have HX := hideIt hx; obtain ⟨c0, -⟩ := qa.out x hx; clear hx) | fail)
      go_ret
      exact ⟨rfl, q.out.trans HX.out⟩
    · go_enter Try.func16, Try.ntmps16
      go_wp2_with (first | (go_at_call 14; refine C.out.mono ?_; rintro e x ⟨rfl, hx⟩; have HX := hideIt hx; obtain ⟨c0, -⟩ := qa.out x hx; clear hx) | fail)
      go_ret
      exact ⟨rfl, q.out.trans HX.out⟩

end Go.Proofs.Ytiiggldapncknaa
