/-
  The machine: which call has a cell in its frame: a contract over the program; the conditions: the machine lies there.
-/
import Derived.Test.YtnlgkiejppgfjaaKVmH
import Derived.Deep.LoopGhost
namespace Go.Proofs.Ytnlgkiejppgfjaa
open Go.RowKit
set_option linter.unusedVariables false

theorem asks_any (w : World) (b1 b2 R C n cap : Nat) (i : Nat) (a ba : Int) (c1 : w.cell? ⟨b1, 0, none⟩ = some (.pointer (some ⟨R, 0, none⟩))) (c2 : w.cell? ⟨b2, 0, none⟩ = some (.int .i64 a)) (c6 : w.cell? ⟨R, 6, none⟩ = some (.slice (some ⟨C, 0, none⟩) n cap)) (hi : i < n) (hn : n ≤ 1000000) (cb : w.cell? ⟨C, i * 24 + 21, none⟩ = some (.int .i64 ba)) :
    Calls Try.prog 56 #[.int .i64 (i : Int), .pointer (some ⟨b1, 0, none⟩), .pointer (some ⟨b2, 0, none⟩)] w fun e w' => e = .returned (.bool (decide (a < ba))) ∧ Q w w' := by
  have hl : (i : Int) < (n : Int) := by omega
  go_enter Try.func56, Try.ntmps56
  go_wp2_with (fail)
  go_quiet (fail)
  go_wp2
  go_ret
  exact ⟨rfl, (Q.refl _).drewN _⟩

/-- How many of the calls begin at a cell or ahead of it: what a search finds. -/
def FndP (F : Nat → Int) (n : Nat) (a : Int) (w : World) : Ending → World → Prop := fun e w' => ∃ r : Nat, r ≤ n ∧ (∀ i, i < r → F i ≤ a) ∧ (∀ i, r ≤ i → i < n → a < F i) ∧ e = .returned (.int .i64 (r : Int)) ∧ Q w w'

set_option maxRecDepth 100000 in
set_option maxHeartbeats 2000000 in
theorem search_any (w : World) (b1 b2 n : Nat) (a : Int) (F : Nat → Int) (hn : n ≤ 1000000) (hup : ∀ i j, i ≤ j → j < n → F i ≤ F j) (hc : ∀ x, Q w x → ∀ i : Nat, i < n → Calls Try.prog 56 #[.int .i64 (i : Int), .pointer (some ⟨b1, 0, none⟩), .pointer (some ⟨b2, 0, none⟩)] x fun e w' => e = .returned (.bool (decide (a < F i))) ∧ Q x w') :
    Calls Try.prog 55 #[.int .i64 (n : Int), .func (.func 56) #[] #[.pointer (some ⟨b1, 0, none⟩), .pointer (some ⟨b2, 0, none⟩)]] w (FndP F n a w) := by
  have HC := hideIt hc
  have HU := hideIt hup
  clear hc hup
  go_enter Try.func55, Try.ntmps55
  go_wp2_with (fail)
  go_loopg [5, 6, 7] n (fun kx s5 s6 _ wr => ∃ lo hi : Nat, s5 = .int .i64 lo ∧ s6 = .int .i64 hi ∧ lo ≤ hi ∧ hi ≤ n ∧ hi - lo ≤ kx ∧ Hid (Q w wr) ∧ Hid ((∀ i, i < lo → F i ≤ a) ∧ (∀ i, hi ≤ i → i < n → a < F i)))
  case atStart => exact ⟨0, n, rfl, rfl, Nat.zero_le _, Nat.le_refl _, by omega, hideIt (Q.refl w), hideIt ⟨fun i h => absurd h (Nat.not_lt_zero _), fun i h1 h2 => by omega⟩⟩
  case round =>
    obtain ⟨lo, hi, rfl, rfl, hlh, hin, hg, S1, I⟩ := hrel
    generalize wr = w1 at *
    by_cases hlt : lo < hi
    · have m1 : (lo + hi) / 2 < n := by omega
      have z1 : IntKind.i64.wrap ((lo : Int) + (hi : Int)) = (lo : Int) + (hi : Int) := by rw [IntKind.wrap_i64]; omega
      have hcc := HC.out w1 S1.out ((lo + hi) / 2) m1
      rw [show (((lo + hi) / 2 : Nat) : Int) = ((lo : Int) + (hi : Int)) / 2 by omega] at hcc
      have HH := hideIt hcc
      clear hcc
      by_cases hyx : a < F ((lo + hi) / 2)
      · have hd : decide (a < F ((lo + hi) / 2)) = true := by simpa using hyx
        go_wp2_with (first | (go_at_call 56; refine HH.out.mono ?_; rintro e w' ⟨rfl, qq⟩; have QQ := hideIt qq; clear qq) | fail)
        go_roundg ((lo + hi) / 2 - lo)
        case measure => omega
        case rel =>
          refine ⟨lo, (lo + hi) / 2, rfl, by first | rfl | (rw [show ((lo : Int) + (hi : Int)) / 2 = (((lo + hi) / 2 : Nat) : Int) by omega]), by omega, by omega, Nat.le_refl _, hideIt (S1.out.trans QQ.out), hideIt ⟨I.out.1, fun i h1 h2 => ?_⟩⟩
          have := HU.out _ _ h1 h2
          omega
      · have hd : decide (a < F ((lo + hi) / 2)) = false := by simpa using hyx
        go_wp2_with (first | (go_at_call 56; refine HH.out.mono ?_; rintro e w' ⟨rfl, qq⟩; have QQ := hideIt qq; clear qq) | fail)
        go_roundg (hi - ((lo + hi) / 2 + 1))
        case measure => omega
        case rel =>
          refine ⟨(lo + hi) / 2 + 1, hi, by first | rfl | (rw [show ((lo : Int) + (hi : Int)) / 2 + 1 = (((lo + hi) / 2 + 1 : Nat) : Int) by omega]), rfl, by omega, hin, Nat.le_refl _, hideIt (S1.out.trans QQ.out), hideIt ⟨fun i h1 => ?_, I.out.2⟩⟩
          have := HU.out i ((lo + hi) / 2) (by omega) m1
          omega
    · go_wp2_with (fail)
      go_ret
      exact ⟨lo, by omega, I.out.1, fun i h1 h2 => I.out.2 i (by omega) h2, rfl, S1.out⟩
end Go.Proofs.Ytnlgkiejppgfjaa
