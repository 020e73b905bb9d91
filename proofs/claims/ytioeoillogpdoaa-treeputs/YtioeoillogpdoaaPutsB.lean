/-
  What slices.Grow makes of no list: a contract over the program; the condition: a count of at most 20000.
-/
import Derived.Test.YtioeoillogpdoaaPutsA
import Derived.Test.YtioeoillogpdoaaCopies
import Derived.Lib.AppendZeros
import Derived.OwnWalk
namespace Go.Proofs.Ytioeoillogpdoaa
open Go.RowKit
set_option linter.unusedVariables false

theorem q_drew {a b : World} (h : Q a b) : Q a b.drew := Below.drew h

theorem grow_none (w : World) :
    Calls Try.prog 50 #[.slice none 0 0, .int .i64 0] w fun e w' => e = .returned (.slice none 0 0) ∧ w' = w := by
  go_enter Try.func50, Try.ntmps50
  go_wp2_with (fail)
  go_ret
  exact ⟨rfl, rfl⟩

set_option maxHeartbeats 400000 in
theorem grow_some (n : Nat) (w : World) (h0 : 0 < n) (hn : n ≤ 20000) :
    Calls Try.prog 50 #[.slice none 0 0, .int .i64 n] w fun e w' => ∃ cap, e = .returned (.slice (some ⟨w.heap.size, 0, none⟩) 0 cap) ∧ n ≤ cap ∧ w'.ownsRow w.heap.size 26 10 (.slice (some ⟨w.heap.size, 0, none⟩) 0 cap) 0 [] ∧ Q w w' := by
  obtain ⟨i0, hi, hz0, hz1, hz2⟩ := info_parts Try.info26
  have hr := fun ty => Lib.run_append_nil_zeros (P := Try.prog) w 24 3 ty 26 i0 _ .i64 .i64 Try.underlying24 Try.underlying3 hi hz0 n h0 (by rw [hz1]; decide) (by omega) (by rw [hz2]; omega)
  have hg := grownCap_ge w n 0 26
  have hgm := grownCap_le_maxLen w n 0 26 (by unfold maxLen; omega)
  have HR := hideIt hr
  have h1 : decide ((n : Int) < 0) = false := by simp
  have h2 : decide ((0 : Int) < (n : Int)) = true := by simp; omega
  obtain ⟨cap, hc⟩ : ∃ cap, grownCap w n 0 26 = cap := ⟨_, rfl⟩
  rw [hc] at hg hgm HR
  clear hr hc
  go_enter Try.func50, Try.ntmps50
  go_wp2_with (first | (at_builtin; refine Lib.wpList_append_run _ rfl (.tmp 20) (.tmp 21) 24 3 rfl (.slice none 0 0) (.int .i64 n) rfl rfl _ _ (HR.out _) ?_) | fail)
  go_ret
  refine ⟨cap, rfl, hg, ⟨rfl, Or.inr ⟨w.heap.size, cap, _, rfl, Nat.le_refl _, heap_alloc_new w.drew _, Nat.zero_le _, hgm, ?_, by simp⟩⟩, ?_⟩
  · rw [Array.size_append, size_zeroCells, size_zeroCells]
    show n * 10 + (cap - n) * 10 = cap * 10
    omega
  · exact (q_drew (Below.refl _ _)).alloc (Nat.le_refl _) _
end Go.Proofs.Ytioeoillogpdoaa
