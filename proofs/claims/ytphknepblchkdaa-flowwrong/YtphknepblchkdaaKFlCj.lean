/-
  The statement FlowWrong: its walk over the program; the conditions: the number is in range.
-/
import Derived.Test.YtphknepblchkdaaKFlCi
namespace Go.Proofs.Ytphknepblchkdaa.Fl
open Go.RowKit
open Go.Proofs.Ytphknepblchkdaa.In (zI zP zF zI_zI zP_zP cntS cntS_fnN len_cnt)
set_option linter.unusedVariables false

theorem Cds.keep {X Y : World} {b : Nat} {c : PC} (h : Cds X b c) (q : Q X Y) : Cds Y b c := ⟨cell_keep q h.1, cell_keep q h.2.1, cell_keep q h.2.2⟩
theorem cds_box (w : World) (c : PC) : Cds (bxC w c) w.heap.size c := (bxC_at (Q.refl _)).three
/-- The example in memory, boxed. -/
structure WS (w W : World) (cb : Nat) (imm : Int) (b : Nat) : Prop where
  eb : EB imm b W
  bx : W.heap[cb]? = some (.cells #[.slice none 0 0, .slice none 0 0, .slice (some ⟨b + 8, 0, none⟩) 1 1] 26 (0, 0))
  nb : cb ≠ b + 1
  lo : w.heap.size ≤ b
  q : Q w W
theorem ws_put {w W : World} {cb b : Nat} (h : WS w W cb 0 b) (imm : Int) : WS w (W.setCell ⟨b + 1, 5, none⟩ (.int .i64 imm)) cb imm b :=
  ⟨h.eb.set, by rw [Below.heap_setCell W ⟨b + 1, 5, none⟩ _ cb h.nb]; exact h.bx, h.nb, h.lo, h.q.set (by have := h.lo; show w.heap.size ≤ b + 1; omega) _⟩
theorem WS.keep {w W W' : World} {cb b : Nat} {imm : Int} (h : WS w W cb imm b) (q : Q W W') : WS w W' cb imm b := ⟨h.eb.q q, heap_keep q h.bx, h.nb, h.lo, h.q.trans q⟩
theorem WS.three {w W : World} {cb b : Nat} {imm : Int} (h : WS w W cb imm b) : W.cell? ⟨cb, 0, none⟩ = some (.slice none 0 0) ∧ W.cell? ⟨cb, 1, none⟩ = some (.slice none 0 0) ∧ W.cell? ⟨cb, 2, none⟩ = some (.slice (some ⟨b + 8, 0, none⟩) 1 1) := ⟨(cell_of_block h.bx 0).trans rfl, (cell_of_block h.bx 1).trans rfl, (cell_of_block h.bx 2).trans rfl⟩

set_option maxRecDepth 100000 in
set_option maxHeartbeats 4000000 in
theorem wrong_walk (m : Int) (w : World) (hm : I64 m) : Calls Try.prog 6 #[.int .i64 m] w fun e w' => e = .returned (.bool true) ∧ Below w.heap.size w w' := by
  have CA : Hid (∀ X, Calls Try.prog 7 #[] X fun e w' => e = .returned (.bool true) ∧ Q X w') := fun X => awake_any X
  have CE := hideIt (fun X => example_any X)
  have HM := hideIt hm
  have CP := hideIt (fun X A v h => prints_any X A m v h)
  clear hm
  go_enter Try.func6, Try.ntmps6
  go_upto_region 4 with (first
    | (go_at_call 7; refine Calls.mono (CA.out _) ?_; rintro e x1 ⟨rfl, q1⟩; have HX := hideIt q1; clear q1)
    | (go_at_call 17; refine Calls.mono (CE.out _) ?_; rintro e z ⟨rfl, eb, hs, q1⟩; have HS : Hid (WS w (z.alloc (.cells #[.slice none 0 0, .slice none 0 0, .slice (some ⟨x1.heap.size + 8, 0, none⟩) 1 1] 26)) z.heap.size 0 x1.heap.size) := ⟨eb.q ((Q.refl z).alloc _), heap_new _ _, by omega, HX.out.size, (HX.out.trans q1).alloc _⟩; clear eb hs q1; dsimp only [eC, PC.v, List.length_nil, List.length_cons])
    | fail)
  have HS1 := HS.out
  generalize z.alloc (.cells #[.slice none 0 0, .slice none 0 0, .slice (some ⟨x1.heap.size + 8, 0, none⟩) 1 1] 26) = W at HS1 ⊢
  generalize z.heap.size = cb at HS1 ⊢
  clear HS
  generalize x1.heap.size = b at HS1
  clear HX CE
  have S0 := hideIt HS1
  clear HS1
  have c1 : W.cell? ⟨cb, 2, none⟩ = some (.slice (some ⟨b + 8, 0, none⟩) 1 1) := S0.out.three.2.2
  have c2 : W.cell? ⟨b + 8, 3, none⟩ = some (.slice (some ⟨b + 7, 0, none⟩) 3 3) := (cell_of_block S0.out.eb.h8 3).trans rfl
  have c3 : W.cell? ⟨b + 7, 0, none⟩ = some (.slice (some ⟨b + 1, 0, none⟩) 1 1) := (cell_of_block S0.out.eb.h7 0).trans rfl
  have c4 : W.cell? ⟨b + 1, 5, none⟩ = some (.int .i64 0) := (cell_of_block S0.out.eb.h1 5).trans rfl
  have fz : W.frozen? ⟨b + 1, 5, none⟩ = false := free_of_block S0.out.eb.h1 5
  go_upto_region 5 with (fail)
  clear c1 c2 c3 c4 fz
  have S1 := hideIt (ws_put S0.out m)
  generalize W.setCell ⟨b + 1, 5, none⟩ (.int .i64 m) = W4 at S1 ⊢
  clear S0
  obtain ⟨b0, b1, b2⟩ := S1.out.three
  obtain ⟨zb, v1, v2, hz, hv1, hv2, hc⟩ : ∃ zb v1 v2, (m == 0) = zb ∧ vOf ((m != 0) != true) = v1 ∧ vOf ((m != 0) != false) = v2 ∧ ((zb = true ∧ v1 = 1 ∧ v2 = 2) ∨ (zb = false ∧ v1 = 2 ∧ v2 = 1)) := by
    refine ⟨_, _, _, rfl, rfl, rfl, ?_⟩
    by_cases h : m = 0
    · subst h; exact .inl ⟨rfl, rfl, rfl⟩
    · have e : (m == 0) = false := by simpa using h
      have e2 : (m != 0) = true := by simpa using h
      rw [e, e2]
      exact .inr ⟨rfl, rfl, rfl⟩
  have CR1 : Hid (∀ X, EB m b X → Calls Try.prog 9 #[.agg #[.slice none 0 0, .slice none 0 0, .slice (some ⟨b + 8, 0, none⟩) 1 1], .bool true] X fun e w' => ∃ A : PC, e = .returned (.tuple #[A.v, .int .i64 0]) ∧ ER m v1 A w' ∧ Q X w') := fun X h => by rw [← hv1]; exact erun X true m b (h.ok HM.out)
  have CR2 : Hid (∀ X, EB m b X → Calls Try.prog 9 #[.agg #[.slice none 0 0, .slice none 0 0, .slice (some ⟨b + 8, 0, none⟩) 1 1], .bool false] X fun e w' => ∃ A : PC, e = .returned (.tuple #[A.v, .int .i64 0]) ∧ ER m v2 A w' ∧ Q X w') := fun X h => by rw [← hv2]; exact erun X false m b (h.ok HM.out)
  clear hv1 hv2 HM CA
  rcases hc with ⟨rfl, rfl, rfl⟩ | ⟨rfl, rfl, rfl⟩
  all_goals go_wp2_with (first
    | (go_at_call 9; first
        | (have hh := S5; clear hh; refine Calls.mono (CR2.out _ (S5.out.keep ((Q.refl y5).alloc _)).eb) ?_; rintro e y6 ⟨A2, rfl, er2, q2⟩; have E2 := hideIt er2; have Q6 := hideIt (((Q.refl y5).alloc _).trans q2); have D6 := hideIt ((cds_box y5 A1).keep q2); clear er2 q2 g0 g1 g2; have d0 := fun ob => (D6.out.keep ((Q.refl y6).alloc ob)).1; have d1 := fun ob => (D6.out.keep ((Q.refl y6).alloc ob)).2.1; have d2 := fun ob => (D6.out.keep ((Q.refl y6).alloc ob)).2.2)
        | (refine Calls.mono (CR1.out _ S1.out.eb) ?_; rintro e y5 ⟨A1, rfl, er1, q2⟩; have E1 := hideIt er1; have S5 := hideIt (S1.out.keep q2); clear er1 q2 b0 b1 b2; have g0 := fun ob => (S5.out.keep ((Q.refl y5).alloc ob)).three.1; have g1 := fun ob => (S5.out.keep ((Q.refl y5).alloc ob)).three.2.1; have g2 := fun ob => (S5.out.keep ((Q.refl y5).alloc ob)).three.2.2))
    | (go_at_call 18; first
        | (have hh := Q7; clear hh; refine Calls.mono (CP.out _ A2 _ (E2.out.keep (((Q.refl y6).alloc _).trans Q7.out))) ?_; rintro e y8 ⟨rfl, q4⟩; have Q8 := hideIt (Q7.out.trans q4); clear q4)
        | (refine Calls.mono (CP.out _ A1 _ (E1.out.keep (Q6.out.trans ((Q.refl y6).alloc _)))) ?_; rintro e y7 ⟨rfl, q3⟩; have Q7 := hideIt q3; clear d0 d1 d2; obtain ⟨e0, e1, e2⟩ := (cds_box y6 A2).keep q3; clear q3))
    | fail)
  all_goals go_ret
  all_goals exact ⟨rfl, S5.out.q.trans (Q6.out.trans (((Q.refl y6).alloc _).trans Q8.out))⟩
end Go.Proofs.Ytphknepblchkdaa.Fl
