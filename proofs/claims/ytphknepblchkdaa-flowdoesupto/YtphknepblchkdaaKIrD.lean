/-
 The least functions of layer 13 and of the document's answer for it: contracts over the program, for every number.
 What an instruction reads, by layer 13 and by the document's answer for it: contracts over the program.
-/
import Derived.Test.YtphknepblchkdaaKIrB
import Derived.Deep.RegionHeld3
namespace Go.Proofs.Ytphknepblchkdaa
open Go.RowKit
set_option linter.unusedVariables false

def opP (o : Int) : Bool := decide (1 ≤ o) && decide (o ≤ 16)
def knP (o : Int) : Bool := opP o || (decide (20 ≤ o) && decide (o ≤ 33))
def wrP (o : Int) : Bool := knP o && (o != 31 && o != 33)
def rdP (o : Int) : Nat := if opP o || o == 28 || o == 31 then 2 else if o == 21 || o == 22 || o == 23 || o == 24 || o == 25 || o == 29 || o == 30 || o == 33 then 1 else 0
def blP (n m : Int) : Bool := decide (0 ≤ n) && decide (n < m)

theorem rdP_le (o : Int) : rdP o ≤ 2 := by
 unfold rdP
 split
 ·omega
 ·split <;> omega

theorem operation_any (o : Int) (w : World) : Calls Try.prog 78 #[.int .u8 o] w fun e w' => e = .returned (.bool (opP o)) ∧ w' = w := by
 unfold opP
 cases h : decide (1 ≤ o)
 ·go_enter Try.func78, Try.ntmps78
  go_wp2
  go_ret
  exact ⟨rfl, rfl⟩
 ·go_enter Try.func78, Try.ntmps78
  go_wp2
  go_ret
  exact ⟨rfl, rfl⟩

theorem known_any (o : Int) (w : World) : Calls Try.prog 63 #[.int .u8 o] w fun e w' => e = .returned (.bool (knP o)) ∧ w' = w := by
 have C := hideIt (operation_any o w)
 unfold knP
 cases h : opP o
 ·rw [h] at C
  cases h2 : decide (20 ≤ o)
  ·go_enter Try.func63, Try.ntmps63
   go_wp2_with (first | (go_at_call 78; refine C.out.mono ?_; rintro e x ⟨rfl, rfl⟩) | fail)
   go_ret
   exact ⟨rfl, rfl⟩
  ·go_enter Try.func63, Try.ntmps63
   go_wp2_with (first | (go_at_call 78; refine C.out.mono ?_; rintro e x ⟨rfl, rfl⟩) | fail)
   go_ret
   exact ⟨rfl, rfl⟩
 ·rw [h] at C
  go_enter Try.func63, Try.ntmps63
  go_wp2_with (first | (go_at_call 78; refine C.out.mono ?_; rintro e x ⟨rfl, rfl⟩) | fail)
  go_ret
  exact ⟨rfl, rfl⟩

theorem rknown_any (o : Int) (w : World) : Calls Try.prog 58 #[.int .u8 o] w fun e w' => e = .returned (.bool (knP o)) ∧ w' = w := by
 unfold knP opP
 cases h : decide (1 ≤ o) <;> cases h1 : decide (o ≤ 16) <;> cases h2 : decide (20 ≤ o) <;> cases h3 : decide (o ≤ 33) <;>
 ·go_enter Try.func58, Try.ntmps58
  go_wp2
  go_ret
  exact ⟨rfl, rfl⟩

theorem below_any (n m : Int) (w : World) : Calls Try.prog 88 #[.int .i64 n, .int .i64 m] w fun e w' => e = .returned (.bool (blP n m)) ∧ w' = w := by
 unfold blP
 cases h : decide (0 ≤ n) <;>
 ·go_enter Try.func88, Try.ntmps88
  go_wp2
  go_ret
  exact ⟨rfl, rfl⟩

theorem below64_any (n m : Int) (w : World) : Calls Try.prog 95 #[.int .i64 n, .int .i64 m] w fun e w' => e = .returned (.bool (blP n m)) ∧ w' = w := by
 unfold blP
 cases h : decide (0 ≤ n) <;>
 ·go_enter Try.func95, Try.ntmps95
  go_wp2
  go_ret
  exact ⟨rfl, rfl⟩

theorem form_any (t : Int) (w : World) : Calls Try.prog 89 #[.int .u8 t] w fun e w' => e = .returned (.bool (decide (t ≤ 5))) ∧ w' = w := by
 go_enter Try.func89, Try.ntmps89
 go_wp2
 go_ret
 exact ⟨rfl, rfl⟩

theorem rwidth_any (t : Int) (w : World) (h0 : 0 ≤ t) : Calls Try.prog 69 #[.int .i64 t] w fun e w' => (∃ n, e = .returned (.int .i64 n) ∧ (n == 0) = !decide (t ≤ 5)) ∧ Q w w' := by
 have hc : t = 0 ∨ t = 1 ∨ t = 2 ∨ t = 3 ∨ t = 4 ∨ t = 5 ∨ 5 < t := by omega
 rcases hc with rfl | rfl | rfl | rfl | rfl | rfl | h
 case inr.inr.inr.inr.inr.inr =>
  have hb : decide (t < 0) = false := by simp; omega
  have hc : decide (5 < t) = true := by simp; omega
  have hd : decide (t ≤ 5) = false := by simp; omega
  rw [hd]
  clear hd h h0
  go_enter Try.func69, Try.ntmps69
  go_wp2
  go_ret
  exact ⟨⟨0, rfl, rfl⟩, (Q.refl _).alloc _⟩
 all_goals
  go_enter Try.func69, Try.ntmps69
  go_wp2
  go_ret
  exact ⟨⟨_, rfl, by decide⟩, (Q.refl _).alloc _⟩

end Go.Proofs.Ytphknepblchkdaa

namespace Go.Proofs.Ytphknepblchkdaa
open Go.RowKit
set_option linter.unusedVariables false

theorem rd_cases (o : Int) : o = 20 ∨ o = 21 ∨ o = 22 ∨ o = 23 ∨ o = 24 ∨ o = 25 ∨ o = 26 ∨ o = 27 ∨ o = 28 ∨ o = 29 ∨ o = 30 ∨ o = 31 ∨ o = 32 ∨ o = 33 ∨ (¬ o = 20 ∧ ¬ o = 21 ∧ ¬ o = 22 ∧ ¬ o = 23 ∧ ¬ o = 24 ∧ ¬ o = 25 ∧ ¬ o = 26 ∧ ¬ o = 27 ∧ ¬ o = 28 ∧ ¬ o = 29 ∧ ¬ o = 30 ∧ ¬ o = 31 ∧ ¬ o = 32 ∧ ¬ o = 33) := by omega

theorem reads_any (o : Int) (w : World) : Calls Try.prog 94 #[.int .u8 o] w fun e w' => e = .returned (.int .i64 (rdP o)) ∧ w' = w := by
 have C := hideIt (operation_any o w)
 rcases rd_cases o with rfl | rfl | rfl | rfl | rfl | rfl | rfl | rfl | rfl | rfl | rfl | rfl | rfl | rfl | ⟨h20, h21, h22, h23, h24, h25, h26, h27, h28, h29, h30, h31, h32, h33⟩
 case inr.inr.inr.inr.inr.inr.inr.inr.inr.inr.inr.inr.inr.inr =>
  cases h : opP o
  ·have e : rdP o = 0 := by unfold rdP; simp [h, h28, h31, h21, h22, h23, h24, h25, h29, h30, h33]
   rw [h] at C
   rw [e]
   clear e h
   go_enter Try.func94, Try.ntmps94
   go_wp2_with (first | (go_at_call 78; refine C.out.mono ?_; rintro e x ⟨rfl, rfl⟩) | fail)
   go_ret
   exact ⟨rfl, rfl⟩
  ·have e : rdP o = 2 := by unfold rdP; simp [h]
   rw [h] at C
   rw [e]
   clear e h
   go_enter Try.func94, Try.ntmps94
   go_wp2_with (first | (go_at_call 78; refine C.out.mono ?_; rintro e x ⟨rfl, rfl⟩) | fail)
   go_ret
   exact ⟨rfl, rfl⟩
 all_goals
  go_enter Try.func94, Try.ntmps94
  go_wp2_with (first | (go_at_call 78; refine C.out.mono ?_; rintro e x ⟨rfl, rfl⟩) | fail)
  go_ret
  exact ⟨rfl, rfl⟩

theorem rreads_any (o : Int) (w : World) : Calls Try.prog 80 #[.int .u8 o] w fun e w' => e = .returned (.int .i64 (rdP o)) ∧ w' = w := by
 have C := hideIt (rknown_any o w)
 rcases rd_cases o with rfl | rfl | rfl | rfl | rfl | rfl | rfl | rfl | rfl | rfl | rfl | rfl | rfl | rfl | ⟨h20, h21, h22, h23, h24, h25, h26, h27, h28, h29, h30, h31, h32, h33⟩
 case inr.inr.inr.inr.inr.inr.inr.inr.inr.inr.inr.inr.inr.inr =>
  cases h : opP o
  ·have e : rdP o = 0 := by unfold rdP; simp [h, h28, h31, h21, h22, h23, h24, h25, h29, h30, h33]
   have e2 : knP o = false := by
    unfold knP
    rw [h]
    simp
    omega
   rw [e2] at C
   rw [e]
   clear e h e2
   go_enter Try.func80, Try.ntmps80
   go_wp2_with (first | (go_at_call 58; refine C.out.mono ?_; rintro e x ⟨rfl, rfl⟩) | fail)
   go_ret
   exact ⟨rfl, rfl⟩
  ·have e : rdP o = 2 := by unfold rdP; simp [h]
   have e2 : knP o = true := by unfold knP; rw [h]; rfl
   rw [e2] at C
   rw [e]
   clear e h e2
   go_enter Try.func80, Try.ntmps80
   go_wp2_with (first | (go_at_call 58; refine C.out.mono ?_; rintro e x ⟨rfl, rfl⟩) | fail)
   go_ret
   exact ⟨rfl, rfl⟩
 all_goals
  go_enter Try.func80, Try.ntmps80
  go_wp2_with (first | (go_at_call 58; refine C.out.mono ?_; rintro e x ⟨rfl, rfl⟩) | fail)
  go_ret
  exact ⟨rfl, rfl⟩

theorem writes_any (o : Int) (w : World) : Calls Try.prog 32 #[.int .u8 o] w fun e w' => e = .returned (.bool (wrP o)) ∧ w' = w := by
 have C := hideIt (rknown_any o w)
 unfold wrP
 cases h : knP o <;> rw [h] at C
 ·go_enter Try.func32, Try.ntmps32
  go_wp2_with (first | (go_at_call 58; refine C.out.mono ?_; rintro e x ⟨rfl, rfl⟩) | fail)
  go_ret
  exact ⟨rfl, rfl⟩
 ·by_cases h1 : o = 31
  ·subst h1
   go_enter Try.func32, Try.ntmps32
   go_wp2_with (first | (go_at_call 58; refine C.out.mono ?_; rintro e x ⟨rfl, rfl⟩) | fail)
   go_ret
   exact ⟨rfl, rfl⟩
  ·go_enter Try.func32, Try.ntmps32
   go_wp2_with (first | (go_at_call 58; refine C.out.mono ?_; rintro e x ⟨rfl, rfl⟩) | fail)
   go_ret
   exact ⟨rfl, rfl⟩

/-- The world behind the box of an instruction. -/
abbrev bxI (w : World) (x : PI) : World := w.alloc (.cells #[.int .u8 x.op, .int .u8 x.ty, .int .i64 x.dst, .int .i64 x.a, .int .i64 x.b, .int .i64 x.imm, .slice x.aa x.args.length x.ac] 49)
theorem bxI_at {w w' : World} {x : PI} (h : Q (bxI w x) w') : At w' w.heap.size 0 x.cells := At.box h
theorem bxI_q (w : World) (x : PI) : Q w (bxI w x) := (Q.refl _).alloc _

theorem dst_any (x : PI) (w : World) : Calls Try.prog 42 #[x.v] w fun e w' => e = .returned (.bool (wrP x.op)) ∧ Q w w' := by
 have q := hideIt (bxI_q w x)
 have C := hideIt (known_any x.op (bxI w x))
 rcases x with ⟨o, ty, d, a, b, im, args, aa, ac⟩
 dsimp only [PI.v, bxI] at C q ⊢
 unfold wrP
 cases h : knP o <;> rw [h] at C
 ·go_enter Try.func42, Try.ntmps42
  go_wp2_with (first | (go_at_call 63; refine C.out.mono ?_; rintro e x ⟨rfl, rfl⟩) | fail)
  go_ret
  exact ⟨rfl, q.out⟩
 ·by_cases h1 : o = 31
  ·subst h1
   go_enter Try.func42, Try.ntmps42
   go_wp2_with (first | (go_at_call 63; refine C.out.mono ?_; rintro e x ⟨rfl, rfl⟩) | fail)
   go_ret
   exact ⟨rfl, q.out⟩
  ·go_enter Try.func42, Try.ntmps42
   go_wp2_with (first | (go_at_call 63; refine C.out.mono ?_; rintro e x ⟨rfl, rfl⟩) | fail)
   go_ret
   exact ⟨rfl, q.out⟩

end Go.Proofs.Ytphknepblchkdaa
