/-
  What compare of the document's answer for layer 10 returns: a contract over the program, for the operation 15 and all spans.
-/
import Derived.Test.YtancfhnhjfhbfaaSpTa
set_option linter.unusedVariables false
namespace Go.Proofs.Ytancfhnhjfhbfaa
open Go.RowKit
open Burin
set_option linter.unusedVariables false

set_option maxRecDepth 100000 in
set_option maxHeartbeats 4000000 in
theorem rcmp_15 (al ah bl bh : Int) (w : World) :
    Calls Try.prog 50 #[.int .i64 15, spV al ah, spV bl bh] w fun e w' => e = .returned (spV (cmA 15 al ah bl bh).1 (cmA 15 al ah bl bh).2) ∧ Q w w' := by
  have HE : Hid (cmA 15 al ah bl bh = (trL (alB 15 al ah bl bh) (noB 15 al ah bl bh), trH (alB 15 al ah bl bh) (noB 15 al ah bl bh))) := rfl
  rw [HE.out]
  clear HE
  simp only [alB, noB, apB, sa_of]
  cases e1 : (al == ah) <;> cases e2 : (bl == bh) <;> cases e3 : decide (ah < bl)
  all_goals
    go_enter Try.func50, Try.ntmps50
    go_wp2
  all_goals first | (refine bodyPost_ret (v := spV 1 1) ?_ rfl ⟨?_, (((((Q.refl _).alloc _).alloc _).alloc _).alloc _).alloc _⟩ <;> first | (simp [results, Try.results50, go_sem]; done) | (simp [trL, trH, *]; done)) | (refine bodyPost_ret (v := spV 0 0) ?_ rfl ⟨?_, (((((Q.refl _).alloc _).alloc _).alloc _).alloc _).alloc _⟩ <;> first | (simp [results, Try.results50, go_sem]; done) | (simp [trL, trH, *]; done)) | (refine bodyPost_ret (v := spV 0 1) ?_ rfl ⟨?_, (((((Q.refl _).alloc _).alloc _).alloc _).alloc _).alloc _⟩ <;> first | (simp [results, Try.results50, go_sem]; done) | (simp [trL, trH, *]; done))

end Go.Proofs.Ytancfhnhjfhbfaa
