/-
  burinlaw10.SpanSets returns true, where the number is (or isn't) below the first span; used by the statement's text.
-/
import Derived.Test.YtancfhnhjfhbfaaSpG
import Derived.Test.YtancfhnhjfhbfaaSpH
namespace Go.Proofs.Ytancfhnhjfhbfaa.spanSets
open Go.Proofs.Ytancfhnhjfhbfaa
open Go.ChangeShapes Go.WideShapes Go.ChangeAt Go.RowKit
open Burin
set_option linter.unusedVariables false

set_option maxRecDepth 100000 in
set_option maxHeartbeats 8000000 in
theorem walk_t (t al ah bl bh v : Int) (w : World) (h0 : U8 t) (hl : decide (al ≤ v) = true) : Calls Try.prog 5 #[.int .u8 t, .agg #[.int .i64 al, .int .i64 ah], .agg #[.int .i64 bl, .int .i64 bh], .int .i64 v] w fun e w' => e = .returned (.bool true) ∧ Below w.heap.size w w' := by
  have h0' : 0 ≤ t := h0.1
  have ht2 : t ≤ 255 := h0.2
  have hw : IntKind.i64.wrap t = t := by simp [IntKind.wrap_i64]; omega
  have H1 := hideIt (held2 (w := w) (a := al) (b := ah) (c := bl) (d := bh) awake_any)
  have H2 := hideIt (held2 (w := w) (a := al) (b := ah) (c := bl) (d := bh) (fun x => full_agg t x h0'))
  have H3 := hideIt (held2 (w := w) (a := al) (b := ah) (c := bl) (d := bh) (fun x => (show Calls Try.prog 17 #[.int .i64 t] x fun e w' => e = .returned (.agg #[.int .i64 (low t), .int .i64 (high t)]) ∧ Q x w' from rfull_any t x h0')))
  have H4 := hideIt (held2 (w := w) (a := al) (b := ah) (c := bl) (d := bh) (fun x => has_any al ah v x))
  have H5 := hideIt (held2 (w := w) (a := al) (b := ah) (c := bl) (d := bh) (fun x => (show Calls Try.prog 19 #[spV al ah] x fun e w' => e = .returned (.bool (decide (ah < al))) ∧ Q x w' from none_any al ah x)))
  have H6 := hideIt (held2 (w := w) (a := al) (b := ah) (c := bl) (d := bh) (fun x => in_any al ah bl bh x))
  have H7 := hideIt (held2 (w := w) (a := al) (b := ah) (c := bl) (d := bh) (fun x => rin_any al ah bl bh x))
  have H8 := hideIt (held2 (w := w) (a := al) (b := ah) (c := bl) (d := bh) (fun x => (show Calls Try.prog 22 #[spV al ah, spV bl bh] x fun e w' => e = .returned (.agg #[.int .i64 (joL al ah bl bh), .int .i64 (joH al ah bl bh)]) ∧ Q x w' from join_any al ah bl bh x)))
  have H9 := hideIt (held2 (w := w) (a := al) (b := ah) (c := bl) (d := bh) (fun x => (show Calls Try.prog 23 #[spV al ah, spV bl bh] x fun e w' => e = .returned (.agg #[.int .i64 (joL al ah bl bh), .int .i64 (joH al ah bl bh)]) ∧ Q x w' from rjoin_any al ah bl bh x)))
  generalize low t = tl at *
  generalize high t = th at *
  generalize inB al ah bl bh = b1 at *
  generalize joL al ah bl bh = jl at *
  generalize joH al ah bl bh = jh at *
  have qd : Q (bx (bx w al ah) bl bh) (bx (bx w al ah) bl bh).drew := (Q.refl _).drew
  · rw [hl] at H4
    simp only [Bool.true_and] at H4
    go_enter Try.func5, Try.ntmps5
    go_wp2_with (fail)
    first | go_region_held3 (fun w' => Q (bx (bx w al ah) bl bh) w' ∧ w'.cell? ⟨w.heap.size, 0, none⟩ = some (.int .i64 al) ∧ w'.cell? ⟨w.heap.size, 1, none⟩ = some (.int .i64 ah) ∧ w'.cell? ⟨w.heap.size + 1, 0, none⟩ = some (.int .i64 bl) ∧ w'.cell? ⟨w.heap.size + 1, 1, none⟩ = some (.int .i64 bh)) (first | exact ⟨(Q.refl _).drew, (Q.refl _).drew.c4⟩ | go_keep) (first | (go_at_call 9; refine (H1.out _ (by assumption)).mono ?_; rintro e y ⟨rfl, s0, s1, s2, s3, s4⟩) | (go_at_call 16; refine (H2.out _ (by assumption)).mono ?_; rintro e y ⟨rfl, s0, s1, s2, s3, s4⟩) | (go_at_call 17; refine (H3.out _ (by assumption)).mono ?_; rintro e y ⟨rfl, s0, s1, s2, s3, s4⟩) | (go_at_call 18; refine (H4.out _ (by assumption)).mono ?_; rintro e y ⟨rfl, s0, s1, s2, s3, s4⟩) | (go_at_call 19; refine (H5.out _ (by assumption)).mono ?_; rintro e y ⟨rfl, s0, s1, s2, s3, s4⟩) | (go_at_call 20; refine (H6.out _ (by assumption)).mono ?_; rintro e y ⟨rfl, s0, s1, s2, s3, s4⟩) | (go_at_call 21; refine (H7.out _ (by assumption)).mono ?_; rintro e y ⟨rfl, s0, s1, s2, s3, s4⟩) | (go_at_call 22; refine (H8.out _ (by assumption)).mono ?_; rintro e y ⟨rfl, s0, s1, s2, s3, s4⟩) | (go_at_call 23; refine (H9.out _ (by assumption)).mono ?_; rintro e y ⟨rfl, s0, s1, s2, s3, s4⟩)) | fail
    all_goals
      go_wp2_with (fail)
      go_ret
      exact ⟨rfl, (q_bx2 _ _ _ _ _).trans (by assumption)⟩

end Go.Proofs.Ytancfhnhjfhbfaa.spanSets
