/-
  The statement InlineWrong: its walk over the program; the conditions: the numbers are in range.
-/
import Derived.Test.YtnaflfpkkbfnfaaKInYc
namespace Go.Proofs.Ytnaflfpkkbfnfaa.In
open Go.RowKit
set_option linter.unusedVariables false

set_option maxRecDepth 100000 in
set_option maxHeartbeats 2000000 in
theorem wrong_walk (x y : Int) (w : World) (hx : -128 ≤ x ∧ x ≤ 127) (hy : -128 ≤ y ∧ y ≤ 127) : Calls Try.prog 5 #[.int .i8 x, .int .i8 y] w fun e w' => e = .returned (.bool true) ∧ Below w.heap.size w w' := by
  have CA : Hid (∀ X, Calls Try.prog 6 #[] X fun e w' => e = .returned (.bool true) ∧ Q X w') := fun X => awake_any X
  have CE := hideIt (fun X => example_any x y (by unfold I64; omega) (by unfold I64; omega) X)
  have CR := hideIt (fun X fault b h => erun X fault x y b h)
  have CD := hideIt (fun (X : World) (fault : Bool) (A : PC) (h : ER fault x y A X) => h.dos hx hy)
  have wx : IntKind.i64.wrap x = x := by rw [IntKind.wrap_i64]; omega
  have wy : IntKind.i64.wrap y = y := by rw [IntKind.wrap_i64]; omega
  have w1 : wrap64 (x - y) = x - y := by unfold wrap64; omega
  have w2 : wrap64 (y - x) = y - x := by unfold wrap64; omega
  clear hx hy
  go_enter Try.func5, Try.ntmps5
  go_wp2_with (first
    | (go_at_call 6; refine Calls.mono (CA.out _) ?_; rintro e x1 ⟨rfl, q1⟩; have HX := hideIt q1; clear q1)
    | (go_at_call 13; first
        | (have hh := R1; clear hh; refine (CE.out _).mono ?_; rintro e z2 ⟨b2, rfl, hok, q1⟩; have K2 := hideIt hok; have Z2 := hideIt q1; clear hok q1)
        | (refine (CE.out _).mono ?_; rintro e z1 ⟨b1, rfl, hok, q1⟩; have K1 := hideIt hok; have Z1 := hideIt (HX.out.trans q1); clear hok q1))
    | (go_at_call 8; first
        | (have hh := R1; clear hh; refine Calls.mono (CR.out _ _ _ K2.out) ?_; rintro e u2 ⟨A2, rfl, er, q2⟩; have R2 := hideIt er; have U2 := hideIt (Z2.out.trans q2); have d0 := fun ob => ((cds_box u1 A1).keep (U2.out.trans ((Q.refl u2).alloc ob))).1; have d1 := fun ob => ((cds_box u1 A1).keep (U2.out.trans ((Q.refl u2).alloc ob))).2.1; have d2 := fun ob => ((cds_box u1 A1).keep (U2.out.trans ((Q.refl u2).alloc ob))).2.2; clear er q2)
        | (refine Calls.mono (CR.out _ _ _ K1.out) ?_; rintro e u1 ⟨A1, rfl, er, q2⟩; have R1 := hideIt er; have U1 := hideIt (Z1.out.trans q2); clear er q2))
    | (go_at_call 14; first
        | (have hh := V1; clear hh; refine Calls.mono (CD.out _ _ A2 (R2.out.keep (((Q.refl u2).alloc _).trans (V1.out.trans ((Q.refl v1).alloc _))))) ?_; rintro e v2 ⟨sa, sc, rfl, ht2, q2⟩; have V2 := hideIt q2; clear q2 ht2 e0 e1 e2)
        | (refine Calls.mono (CD.out _ _ A1 (R1.out.keep (((Q.refl u1).alloc _).trans (U2.out.trans ((Q.refl u2).alloc _))))) ?_; rintro e v1 ⟨ta, tc, rfl, ht, q2⟩; have V1 := hideIt q2; have HT := hideIt ht; have e0 := fun ob => ((cds_box u2 A2).keep (V1.out.trans ((Q.refl v1).alloc ob))).1; have e1 := fun ob => ((cds_box u2 A2).keep (V1.out.trans ((Q.refl v1).alloc ob))).2.1; have e2 := fun ob => ((cds_box u2 A2).keep (V1.out.trans ((Q.refl v1).alloc ob))).2.2; clear ht q2 d0 d1 d2))
    | fail)
  obtain ⟨tb, to', rfl, ht⟩ : ∃ tb to', ta = some ⟨tb, to', none⟩ ∧ v1.cell? ⟨tb, to', none⟩ = some (.int .i64 (y - x)) := by
    obtain ⟨b, o, e, h⟩ := HT.out 0 (y - x) rfl
    exact ⟨b, o, e, by simpa using h⟩
  have qq : Q v1 (v2.alloc (.cells #[.bool true, .int .i64 (x - y), .int .u8 0, .bool false, .int .i64 8, .slice sa 1 sc] 49)) := ((Q.refl v1).alloc _).trans (V2.out.alloc _)
  have hb1 : (v2.alloc (.cells #[.bool true, .int .i64 (x - y), .int .u8 0, .bool false, .int .i64 8, .slice sa 1 sc] 49)).heap[v1.heap.size]? = some (.cells #[.bool true, .int .i64 (y - x), .int .u8 0, .bool false, .int .i64 8, .slice (some ⟨tb, to', none⟩) 1 tc] 49 (0, 0)) := heap_keep (V2.out.alloc _) (heap_new v1 _)
  have hb2 := heap_new v2 (.cells #[.bool true, .int .i64 (x - y), .int .u8 0, .bool false, .int .i64 8, .slice sa 1 sc] 49)
  have tt := cell_keep qq ht
  have QF : Hid (Q w (v2.alloc (.cells #[.bool true, .int .i64 (x - y), .int .u8 0, .bool false, .int .i64 8, .slice sa 1 sc] 49))) := U1.out.trans (((Q.refl u1).alloc _).trans (U2.out.trans (((Q.refl u2).alloc _).trans (V1.out.trans qq))))
  have E1 := show (v2.alloc (.cells #[.bool true, .int .i64 (if False then y - x else x - y), .int .u8 0, .bool false, .int .i64 8, .slice sa 1 sc] 49)) = _ from by rw [if_neg (by simp)]
  (try rw [E1])
  generalize hWW : (v2.alloc (.cells #[.bool true, .int .i64 (x - y), .int .u8 0, .bool false, .int .i64 8, .slice sa 1 sc] 49)) = W at *
  have a1 : W.cell? ⟨v1.heap.size, 1, none⟩ = some (.int .i64 (y - x)) := (cell_of_block hb1 1).trans rfl
  have a5 : W.cell? ⟨v1.heap.size, 5, none⟩ = some (.slice (some ⟨tb, to', none⟩) 1 tc) := (cell_of_block hb1 5).trans rfl
  have b1 : W.cell? ⟨v2.heap.size, 1, none⟩ = some (.int .i64 (x - y)) := (cell_of_block hb2 1).trans rfl
  have g1 : (y - x == y - x) = true := by simp
  have g2 : (x - y == x - y) = true := by simp
  clear hb1 hb2 qq ht HT V1 V2 hWW E1
  go_quiet (fail)
  go_wp2_with (fail)
  go_ret
  exact ⟨rfl, QF.out.drewN _⟩
end Go.Proofs.Ytnaflfpkkbfnfaa.In
