/-
  The first example of the statements of layer 8 (awake): a contract over the program; no conditions.
-/
import Derived.Test.YtahhbehpgolinaaMeM
namespace Go.Proofs.Ytahhbehpgolinaa.Me
open Go.RowKit
set_option linter.unusedVariables false

set_option maxRecDepth 100000 in
set_option maxHeartbeats 1000000 in
theorem awake_any (w : World) : Calls Try.prog 8 #[] w fun e w' => e = .returned (.bool true) ∧ Below w.heap.size w w' := by
  have k1 : inB ([] ++ [(2 : Int).toNat]) 0 1 = true := by decide
  have hl : ([] ++ [(2 : Int).toNat] : List Nat).length ≤ 1000000 := by decide
  have hc : ∀ c ∈ ([] ++ [(2 : Int).toNat] : List Nat), c ≤ 100000 := by decide
  have K1 := hideIt k1
  have HL := hideIt hl
  have HC := hideIt hc
  clear k1 hl hc
  go_enter Try.func8, Try.ntmps8
  go_wp2_with (first
    | (go_at_call 9; refine (one_new (Below.refl w.heap.size w)).mono ?_; rintro e x1 ⟨p, rfl, hM⟩; have H1 := hideIt hM; clear hM)
    | (go_at_call 10; refine (one_alloc H1.out (by decide) (by decide) 2 (by decide) (by decide) (by decide)).mono ?_; rintro e x2 ⟨rfl, hM⟩; have H2 := hideIt hM; clear hM)
    | (go_at_call 14; refine (one_load H2.out (a := 0) (b := 1) (i64 (by decide) (by decide)) (i64 (by decide) (by decide)) HL.out).mono ?_; rw [K1.out]; rintro e x3 ⟨rfl, hM⟩; have H3 := hideIt hM; clear hM)
    | (go_at_call 16; refine (one_store H3.out (a := 0) (b := 1) (v := 5) (i64 (by decide) (by decide)) (i64 (by decide) (by decide)) (i64 (by decide) (by decide)) HL.out (by decide) HC.out K1.out).mono ?_; rintro e x4 ⟨rfl, hM⟩; have H4 := hideIt hM; clear hM)
    | (go_at_call 18; refine (one_total H4.out).mono ?_; rintro e x5 ⟨rfl, rfl⟩)
    | fail)
  go_ret
  exact ⟨rfl, H4.out.1⟩

end Go.Proofs.Ytahhbehpgolinaa.Me
