/-
  The greatest registers and cells, and one more: the walk of the statement, where the pick leaves 1.
-/
import Derived.Test.YtiiggldapncknaaIrY
namespace Go.Proofs.Ytiiggldapncknaa
open Go.RowKit
set_option linter.unusedVariables false

set_option maxRecDepth 100000 in
set_option maxHeartbeats 1000000 in
theorem limits1 (x : Int) (w : World) (hx0 : 0 ≤ x) (hr : x % 4 = 1) : Calls Try.prog 6 #[.int .u8 x] w fun e w' => e = .returned (.bool true) ∧ Q w w' := by
  have CA := hideIt (fun X => awake_any X)
  have CL := hideIt (fun X => least_any X)
  go_enter Try.func6, Try.ntmps6
  go_wp2_with (first
      | (go_at_call 7; refine (CA.out _).mono ?_; rintro e x1 ⟨rfl, q1⟩; have HQ1 := hideIt q1; clear q1)
      | (go_at_call 19; refine (CL.out _).mono ?_; first | (have HC1 := HB1; rintro e x3 ⟨h1, h2, m1, m2, rfl, e1, e2, q3⟩; obtain ⟨hb, hqb⟩ := Base.of (e1 := .returned undef) (e2 := .returned undef) HB1.out ⟨m1, m2, e1, e2, q3⟩; clear e1 e2 q3 m1 m2; generalize hbc : x2.heap.size = bc at *; generalize hbd : x3.heap.size = bd at *; obtain ⟨Y, hY⟩ : ∃ Y, x3.alloc (.cells #[.slice none 0 0, .slice none 0 0, .slice (some ⟨h2, 0, none⟩) 1 1] 26) = Y := ⟨_, rfl⟩; rw [hY] at hb hqb; have HB := hideIt hb; have HQB := hideIt (HQ1.out.trans hqb); have HG := hideIt (Nat.le_trans HQ1.out.size HB1.out.1); obtain ⟨⟨c0, c1, c2⟩, ⟨d0, d1, d2⟩, ⟨k1, k2, j1, j2⟩, fz1, fz2, fz3, fz4⟩ := hb.cells; have ca := fun (X : World) (ob : Obj) (b j : Nat) (h : b < X.heap.size) => alloc_cell X ob b j h; have cb := fun (X : World) (ob : Obj) (b j : Nat) (h : b < X.heap.size) => alloc_froz X ob b j h; have hlt1 := hb.l1; have hlt2 := hb.l2; have hlt3 := hb.l3; have hlt4 := hb.l4; have hlt5 := hb.l5; have hlt6 := hb.l6; have s1 : bc < Y.heap.size + 1 := (by omega); have s2 : bd < Y.heap.size + 1 := (by omega); have s3 : g2 < Y.heap.size + 1 := (by omega); have s4 : h2 < Y.heap.size + 1 := (by omega); have t1 : bc < Y.heap.size := (by omega); have t3 : g2 < Y.heap.size := (by omega); have t4 : h2 < Y.heap.size := (by omega); have r1 : bc < Y.heap.size + 1 + 1 := (by omega); have r2 : bd < Y.heap.size + 1 + 1 := (by omega); have r3 : g2 < Y.heap.size + 1 + 1 := (by omega); have r4 : h2 < Y.heap.size + 1 + 1 := (by omega); have FIN := hideIt (fin1 hb); have QZ : Hid (Q w ((Y.setCell ⟨g2, 1, none⟩ (.int .i64 20000)).setCell ⟨h2, 1, none⟩ (.int .i64 20001))) := (by have := HG.out; exact (HQB.out.set (by show w.heap.size ≤ g2; omega) _).set (by show w.heap.size ≤ h2; omega) _); have CV1 : Hid (Calls Try.prog 8 #[.agg #[.slice none 0 0, .slice none 0 0, .slice (some ⟨g2, 0, none⟩) 1 1]] ((Y.setCell ⟨g2, 1, none⟩ (.int .i64 20000)).setCell ⟨h2, 1, none⟩ (.int .i64 20001)) fun e w' => e = .returned (.int .i64 0) ∧ Q ((Y.setCell ⟨g2, 1, none⟩ (.int .i64 20000)).setCell ⟨h2, 1, none⟩ (.int .i64 20001)) w') := (by have := valid_any _ (C1 20000 g1 g2) FIN.out.c; rw [v1] at this; exact this); have CV2 : Hid (∀ X, Q ((Y.setCell ⟨g2, 1, none⟩ (.int .i64 20000)).setCell ⟨h2, 1, none⟩ (.int .i64 20001)) X → Calls Try.prog 8 #[.agg #[.slice none 0 0, .slice none 0 0, .slice (some ⟨h2, 0, none⟩) 1 1]] X fun e w' => e = .returned (.int .i64 3) ∧ Q X w') := (fun X hX => by have := valid_any X (C1 20001 h1 h2) (FIN.out.d.keep hX); rw [v1'] at this; exact this); have HDC : Hid (∀ X, Q ((Y.setCell ⟨g2, 1, none⟩ (.int .i64 20000)).setCell ⟨h2, 1, none⟩ (.int .i64 20001)) X → X.cell? ⟨bd, 0, none⟩ = some (.slice none 0 0) ∧ X.cell? ⟨bd, 1, none⟩ = some (.slice none 0 0) ∧ X.cell? ⟨bd, 2, none⟩ = some (.slice (some ⟨h2, 0, none⟩) 1 1)) := (fun X hX => (FIN.out.b.keep hX).three); clear hb hqb HC1 HB1 HQ1) | (rintro e x2 ⟨g1, g2, l1, l2, rfl, b1, b2, q2⟩; have HB1 := hideIt (And.intro l1 (And.intro l2 (And.intro b1 (And.intro b2 q2)))); clear b1 b2 q2 l1 l2))
      | (go_at_call 8; first | (refine CV1.out.mono ?_; rintro e x5 ⟨rfl, q5⟩; have H5 := hideIt q5; clear c0 c1 c2 d0 d1 d2; obtain ⟨d0, d1, d2⟩ := HDC.out _ q5; clear q5 CV1) | (refine (CV2.out _ H5.out).mono ?_; rintro e x6 ⟨rfl, q6⟩; have H6 := hideIt q6; clear q6)))
  go_ret
  exact ⟨rfl, QZ.out.trans (H5.out.trans H6.out)⟩

end Go.Proofs.Ytiiggldapncknaa
