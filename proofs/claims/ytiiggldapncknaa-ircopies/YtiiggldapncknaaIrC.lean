/-
  The least functions of layer 13 and of the document's answer for it: contracts over the program, for every number.
-/
import Derived.Test.YtiiggldapncknaaIrB
import Derived.Deep.RegionHeld3
namespace Go.Proofs.Ytiiggldapncknaa
open Go.RowKit
set_option linter.unusedVariables false

def opP (o : Int) : Bool := decide (1 ≤ o) && decide (o ≤ 16)
def knP (o : Int) : Bool := opP o || (decide (20 ≤ o) && decide (o ≤ 33))
def wrP (o : Int) : Bool := knP o && (o != 31 && o != 33)
def rdP (o : Int) : Nat := if opP o || o == 28 || o == 31 then 2 else if o == 21 || o == 22 || o == 23 || o == 24 || o == 25 || o == 29 || o == 30 || o == 33 then 1 else 0
def blP (n m : Int) : Bool := decide (0 ≤ n) && decide (n < m)

theorem rdP_le (o : Int) : rdP o ≤ 2 := by
  unfold rdP
  split
  · omega
  · split <;> omega

theorem operation_any (o : Int) (w : World) : Calls Try.prog 37 #[.int .u8 o] w fun e w' => e = .returned (.bool (opP o)) ∧ w' = w := by
  unfold opP
  cases h : decide (1 ≤ o)
  · go_enter Try.func37, Try.ntmps37
    go_wp2
    go_ret
    exact ⟨rfl, rfl⟩
  · go_enter Try.func37, Try.ntmps37
    go_wp2
    go_ret
    exact ⟨rfl, rfl⟩

theorem known_any (o : Int) (w : World) : Calls Try.prog 27 #[.int .u8 o] w fun e w' => e = .returned (.bool (knP o)) ∧ w' = w := by
  have C := hideIt (operation_any o w)
  unfold knP
  cases h : opP o
  · rw [h] at C
    cases h2 : decide (20 ≤ o)
    · go_enter Try.func27, Try.ntmps27
      go_wp2_with (first | (go_at_call 37; refine C.out.mono ?_; rintro e x ⟨rfl, rfl⟩) | fail)
      go_ret
      exact ⟨rfl, rfl⟩
    · go_enter Try.func27, Try.ntmps27
      go_wp2_with (first | (go_at_call 37; refine C.out.mono ?_; rintro e x ⟨rfl, rfl⟩) | fail)
      go_ret
      exact ⟨rfl, rfl⟩
  · rw [h] at C
    go_enter Try.func27, Try.ntmps27
    go_wp2_with (first | (go_at_call 37; refine C.out.mono ?_; rintro e x ⟨rfl, rfl⟩) | fail)
    go_ret
    exact ⟨rfl, rfl⟩

theorem rknown_any (o : Int) (w : World) : Calls Try.prog 28 #[.int .u8 o] w fun e w' => e = .returned (.bool (knP o)) ∧ w' = w := by
  unfold knP opP
  cases h : decide (1 ≤ o) <;> cases h1 : decide (o ≤ 16) <;> cases h2 : decide (20 ≤ o) <;> cases h3 : decide (o ≤ 33) <;>
  · go_enter Try.func28, Try.ntmps28
    go_wp2
    go_ret
    exact ⟨rfl, rfl⟩

theorem below_any (n m : Int) (w : World) : Calls Try.prog 42 #[.int .i64 n, .int .i64 m] w fun e w' => e = .returned (.bool (blP n m)) ∧ w' = w := by
  unfold blP
  cases h : decide (0 ≤ n) <;>
  · go_enter Try.func42, Try.ntmps42
    go_wp2
    go_ret
    exact ⟨rfl, rfl⟩

theorem below64_any (n m : Int) (w : World) : Calls Try.prog 47 #[.int .i64 n, .int .i64 m] w fun e w' => e = .returned (.bool (blP n m)) ∧ w' = w := by
  unfold blP
  cases h : decide (0 ≤ n) <;>
  · go_enter Try.func47, Try.ntmps47
    go_wp2
    go_ret
    exact ⟨rfl, rfl⟩

theorem form_any (t : Int) (w : World) : Calls Try.prog 43 #[.int .u8 t] w fun e w' => e = .returned (.bool (decide (t ≤ 5))) ∧ w' = w := by
  go_enter Try.func43, Try.ntmps43
  go_wp2
  go_ret
  exact ⟨rfl, rfl⟩

theorem rwidth_any (t : Int) (w : World) (h0 : 0 ≤ t) : Calls Try.prog 41 #[.int .i64 t] w fun e w' => (∃ n, e = .returned (.int .i64 n) ∧ (n == 0) = !decide (t ≤ 5)) ∧ Q w w' := by
  have hc : t = 0 ∨ t = 1 ∨ t = 2 ∨ t = 3 ∨ t = 4 ∨ t = 5 ∨ 5 < t := by omega
  rcases hc with rfl | rfl | rfl | rfl | rfl | rfl | h
  case inr.inr.inr.inr.inr.inr =>
    have hb : decide (t < 0) = false := by simp; omega
    have hc : decide (5 < t) = true := by simp; omega
    have hd : decide (t ≤ 5) = false := by simp; omega
    rw [hd]
    clear hd h h0
    go_enter Try.func41, Try.ntmps41
    go_wp2
    go_ret
    exact ⟨⟨0, rfl, rfl⟩, (Q.refl _).alloc _⟩
  all_goals
    go_enter Try.func41, Try.ntmps41
    go_wp2
    go_ret
    exact ⟨⟨_, rfl, by decide⟩, (Q.refl _).alloc _⟩

end Go.Proofs.Ytiiggldapncknaa
