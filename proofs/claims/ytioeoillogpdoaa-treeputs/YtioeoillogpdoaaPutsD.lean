/-
  What slices.Clone makes of a list of nodes: a contract over the program; the conditions: the list lies in memory, is not empty, and has at most 20000 nodes side by side.
-/
import Derived.Test.YtioeoillogpdoaaPutsC
namespace Go.Proofs.Ytioeoillogpdoaa
open Go.RowKit
set_option linter.unusedVariables false

set_option maxHeartbeats 400000 in
theorem clone_any (F : Fo) (ad : Addr) (c : Nat) (w : World) (hin : In w (some ad) F) (hs : sok (some ad) F.len c) (hb : F.len ≤ 20000) :
    Calls Try.prog 49 #[.slice (some ad) F.len c] w fun e w' => ∃ v, e = .returned v ∧ w'.ownsRow w.heap.size 26 10 v F.len (cellsF F) ∧ Q w w' := by
  have hnil := fun wx => Lib.run_eql_slice_nil (P := Try.prog) wx 24 26 (some ad) F.len c 0 0 Try.underlying24
  have hq : Q w (w.alloc (.cells #[] 26)) := (Below.refl _ _).alloc (Nat.le_refl _) _
  have HI := hideIt (hin.keep (Nat.le_refl _) hq)
  have HS := hideIt hs
  have HO : Hid ((w.alloc (.cells #[] 26)).ownsRow w.heap.size 26 10 (.slice (some ⟨w.heap.size, 0, none⟩) 0 0) 0 (cellsF .nil)) := ⟨rfl, Or.inr ⟨w.heap.size, 0, #[], rfl, Nat.le_refl _, heap_alloc_new w _, Nat.le_refl _, Nat.zero_le _, rfl, rfl⟩⟩
  have HQ := hideIt hq
  clear hin hs hq
  go_enter Try.func49, Try.ntmps49
  go_wp2_with (first | (at_builtin; refine wpList_app_fo (G := .nil) (F := F) (c := c) HQ.out HO.out HI.out HS.out (by simp only [Fo.len]; omega) rfl (.tmp 5) (.tmp 6) rfl rfl rfl ?_; intro nv y r1 r2; have R1 := hideIt r1; have R2 := hideIt r2; clear r1 r2) | fail)
  go_ret
  exact ⟨_, rfl, R1.out, R2.out⟩
end Go.Proofs.Ytioeoillogpdoaa
