/-
  A function's registers, as layer 14 holds them: what is asked of them; a contract over the program.
-/
import Derived.Test.YtcpgikgjolomcaaKIrN
namespace Go.Proofs.Ytcpgikgjolomcaa
open Go.RowKit
set_option linter.unusedVariables false

/-- A register: those that were never reached are 0. -/
def regAt (H : List Int) (n : Nat) : Int := H.getD n 0

theorem get_any (w : World) (gb go : Nat) (ha : Option Addr) (hc : Nat) (H : List Int) (hcell : w.cell? ⟨gb, go, none⟩ = some (.slice ha H.length hc)) (hi : Ints w ha H) (hlen : H.length ≤ 9223372036854775807) (n : Nat) :
    Calls Try.prog 62 #[.pointer (some ⟨gb, go, none⟩), .int .i64 (n : Int)] w fun e w' => e = .returned (.int .i64 (regAt H n)) ∧ w' = w := by
  by_cases h : n < H.length
  · obtain ⟨x, hx⟩ := get_of_lt h
    obtain ⟨b, o, e, hc1, -⟩ := hi n x hx
    rw [Nat.mul_one] at hc1
    have er : regAt H n = x := by unfold regAt; rw [List.getD_eq_getElem?_getD, hx]; rfl
    rw [er]
    rw [e] at hcell
    have hn : (n : Int) < (H.length : Int) := by omega
    have hd : decide ((H.length : Int) ≤ (n : Int)) = false := by simp; omega
    clear hi hx e er
    go_enter Try.func62, Try.ntmps62
    go_wp2
    go_ret
    exact ⟨rfl, rfl⟩
  · have er : regAt H n = 0 := by unfold regAt; rw [List.getD_eq_getElem?_getD, List.getElem?_eq_none (by omega)]; rfl
    rw [er]
    have hd : decide ((H.length : Int) ≤ (n : Int)) = true := by simp; omega
    clear hi er
    go_enter Try.func62, Try.ntmps62
    go_wp2
    go_ret
    exact ⟨rfl, rfl⟩

/-- A step that is left is taken; where none is left nothing is. -/
theorem step_none (w : World) (R : Nat) (s : Int) (c3 : w.cell? ⟨R, 3, none⟩ = some (.int .i64 s)) (c4 : w.cell? ⟨R, 4, none⟩ = some (.int .i64 s)) :
    Calls Try.prog 61 #[.pointer (some ⟨R, 0, none⟩)] w fun e w' => e = .returned (.bool false) ∧ Dr w w' := by
  go_enter Try.func61, Try.ntmps61
  go_wp2_with (fail)
  go_quiet (fail)
  go_wp2
  go_ret
  exact ⟨rfl, _, rfl⟩
theorem step_one (w : World) (R : Nat) (s fu : Int) (c3 : w.cell? ⟨R, 3, none⟩ = some (.int .i64 fu)) (c4 : w.cell? ⟨R, 4, none⟩ = some (.int .i64 s)) (cf : w.frozen? ⟨R, 4, none⟩ = false) (h0 : 0 ≤ s) (h1 : s ≤ 8388608) (hne : ¬ s = fu) :
    Calls Try.prog 61 #[.pointer (some ⟨R, 0, none⟩)] w fun e w' => e = .returned (.bool true) ∧ Dr (w.setCell ⟨R, 4, none⟩ (.int .i64 (s + 1))) w' := by
  have hb : (s == fu) = false := by simpa using hne
  go_enter Try.func61, Try.ntmps61
  go_wp2_with (fail)
  go_quiet (fail)
  go_wp2
  go_ret
  exact ⟨rfl, _, rfl⟩

end Go.Proofs.Ytcpgikgjolomcaa
