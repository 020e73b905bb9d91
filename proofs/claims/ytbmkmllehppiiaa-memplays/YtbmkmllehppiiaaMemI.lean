/-
  A block is emptied (empty), the walk: a contract over the program; the conditions: a memory lies there, and it has that block.
-/
import Derived.Test.YtbmkmllehppiiaaMemH
namespace Go.Proofs.Ytbmkmllehppiiaa
open Go.RowKit
set_option linter.unusedVariables false

theorem Fr.box {S : Nat → Prop} {a w : World} (h : Fr S a w) (o : Obj) (j : Nat) : Fr S a ((w.alloc o).drewN j) := by
  have h' := h.alloc o
  exact ⟨h'.os, h'.tape, h'.output, h'.size, h'.block⟩

theorem mx_row {w : World} {B : Nat} {bl : Nat → Prop} {p n : Nat} {bs : List Nat} {f : Int → Int → Int} {t : Int} {M g lc i c : Nat} (h : MX w B bl p n bs f t M g lc) (hi : bs[i]? = some c) :
    w.cell? ⟨g, i * 2, none⟩ = some (.int .i64 (c : Int)) ∧ w.cell? ⟨g, i * 2 + 1, none⟩ = some (.int .i64 ((cnt f i 0 c : Nat) : Int)) := by
  obtain ⟨L, h4, h5, h8⟩ := h.ex
  obtain ⟨k', hL⟩ : ∃ k, L[i]? = some (c, k) := by
    subst h4
    simp at hi
    obtain ⟨x, hx⟩ := hi
    exact ⟨x, hx⟩
  obtain ⟨g', e2, r1, r2, r3⟩ := row_at h8 hL
  cases e2
  have := h5 i c k' hL
  subst this
  exact ⟨r1, r2⟩

/-- What a round reads behind its own address. -/
theorem mx_round {w : World} {B : Nat} {bl : Nat → Prop} {p n : Nat} {bs : List Nat} {f : Int → Int → Int} {t : Int} {M g lc i c k : Nat} (h : MX w B bl p n bs f t M g lc) (hi : bs[i]? = some c) (hk : k < c) (hil : i ≤ 1000000) (hc : c ≤ 100000) :
    (w.alloc (.cells #[.int .i64 (i : Int), .int .i64 (k : Int)] 31)).cell? ⟨p, 0, none⟩ = some (.map (some M)) ∧
    (∀ j, (Instr.lookup 55 (.map (some M)) (.agg #[.int .i64 (i : Int), .int .i64 (k : Int)]) false).run Try.prog ((w.alloc (.cells #[.int .i64 (i : Int), .int .i64 (k : Int)] 31)).drewN j) = .ok (.int .i64 (f i k)) ((w.alloc (.cells #[.int .i64 (i : Int), .int .i64 (k : Int)] 31)).drewN j)) ∧
    (f i k ≠ 0 → ∀ j, ∃ Y, (Builtin.delete_ #[55, 31] 0 #[.map (some M), .agg #[.int .i64 (i : Int), .int .i64 (k : Int)]]).run Try.prog ((w.alloc (.cells #[.int .i64 (i : Int), .int .i64 (k : Int)] 31)).drewN j) = .ok (.tuple #[]) Y ∧
      Y.cell? ⟨g, i * 2 + 1, none⟩ = some (.int .i64 ((cnt f i 0 c : Nat) : Int)) ∧ Y.frozen? ⟨g, i * 2 + 1, none⟩ = false ∧
      MX (Y.setCell ⟨g, i * 2 + 1, none⟩ (.int .i64 (((cnt f i 0 c : Nat) : Int) - 1))) B bl p n bs (upd f i k 0) t M g lc ∧ Fr bl w (Y.setCell ⟨g, i * 2 + 1, none⟩ (.int .i64 (((cnt f i 0 c : Nat) : Int) - 1)))) := by
  have ha : I64 (i : Int) := ⟨by omega, by omega⟩
  have hb : I64 (k : Int) := ⟨by omega, by omega⟩
  have hM : Mp (w.alloc (.cells #[.int .i64 (i : Int), .int .i64 (k : Int)] 31)) M n f := h.map.kept (Below.heap_alloc _ _ _ h.map.lt)
  refine ⟨cell_box (cell_of_block h.cells 0) _, fun j => (hM.kept (w' := (w.alloc _).drewN j) rfl |>.look ha hb).1, fun hne j => ?_⟩
  obtain ⟨Y, y1, y2, y3⟩ := (hM.kept (w' := (w.alloc (.cells #[.int .i64 (i : Int), .int .i64 (k : Int)] 31)).drewN j) rfl).drop ha hb 0
  obtain ⟨h', e1, e2, e3, e4, e5, e6⟩ := mx_emptied h hi hk hne _ j y2 y3
  subst e2
  exact ⟨Y, y1, e3, e4, e5, e6⟩

set_option maxRecDepth 100000 in
set_option maxHeartbeats 1000000 in
theorem empty_any {w : World} {B : Nat} {bl : Nat → Prop} {p n : Nat} {bs : List Nat} {f : Int → Int → Int} {t : Int} {M g lc i c : Nat} (h : MX w B bl p n bs f t M g lc) (hi : bs[i]? = some c) (hl : bs.length ≤ 1000000) (hc : c ≤ 100000) :
    Calls Try.prog 20 #[.pointer (some ⟨p, 0, none⟩), .int .i64 (i : Int)] w fun e w' => e = .returned (.tuple #[]) ∧ MX w' B bl p n bs (clr f i) t M g lc ∧ Fr bl w w' := by
  have hil : i < bs.length := (List.getElem?_eq_some_iff.1 hi).1
  have c1 : w.cell? ⟨p, 1, none⟩ = some (.slice (some ⟨g, 0, none⟩) bs.length lc) := cell_of_block h.cells 1
  have i0 : (0 : Int) ≤ (i : Int) := by omega
  have i1 : (i : Int) < (bs.length : Int) := by omega
  have H := hideIt h
  have HI := hideIt hi
  have Z0 := hideIt (clrk_zero h.out i)
  have HO := hideIt h.out
  clear h hi
  go_enter Try.func20, Try.ntmps20
  go_wp2_with (fail)
  go_loopw [5] (fun o wr => ∃ k : Nat, o = .int .i64 k ∧ k ≤ c ∧ MX wr B bl p n bs (clrk f i k) t M g lc ∧ Fr bl w wr) (fun o _ => c - (intOf o).toNat)
  case atStart => exact ⟨0, rfl, Nat.zero_le _, by rw [Z0.out]; exact H.out, Fr.refl _ _⟩
  case round =>
    obtain ⟨k, rfl, hk, hm, hF⟩ := hrel
    obtain ⟨r1, r2⟩ := mx_row hm HI.out
    have HM := hideIt hm
    have HF := hideIt hF
    clear hm hF c1
    by_cases hkc : k < c
    · by_cases hz : cnt (clrk f i k) i 0 c = 0
      · have e1 := hideIt (clrk_end HO.out HI.out (Or.inr hz))
        rw [hz] at r2
        go_wp2_with (fail)
        go_end0
        exact ⟨rfl, by rw [← e1.out]; exact HM.out, HF.out⟩
      · obtain ⟨q1, q2, q3⟩ := mx_round HM.out HI.out hkc (by omega) hc
        have hzz := hideIt hz
        have g1 : (0 : Int) < ((cnt (clrk f i k) i 0 c : Nat) : Int) := by omega
        have g2 : ((cnt (clrk f i k) i 0 c : Nat) : Int) ≤ 100000 := by have := cnt_le (clrk f i k) i c 0; omega
        generalize hD : ((cnt (clrk f i k) i 0 c : Nat) : Int) = D at r2 q3 g1 g2
        by_cases hv : clrk f i k i k = 0
        · have ek := hideIt (clrk_skip hv)
          rw [hv] at q2
          clear q3 hz
          go_wp2_with (fail)
          go_quiet (fail)
          go_wp2_with (fail)
          go_roundw
          case rel => exact ⟨k + 1, by go_num, hkc, by rw [ek.out]; exact HM.out.below (fun b hb => Below.heap_alloc _ _ _ (HM.out.rng b hb).2) (by simp), HF.out.box _ _⟩
          case measure => simp [intOf]; omega
        · have q4 := Classical.skolem.1 (q3 hv)
          obtain ⟨F, hF⟩ := q4
          have hF1 := fun j => (hF j).1
          have hF2 := fun j => (hF j).2.1
          have hF3 := fun j => (hF j).2.2.1
          have hF4 := hideIt (fun j => (hF j).2.2.2)
          generalize hx : clrk f i k (i : Int) (k : Int) = X at q2 hv
          clear q3 hz hF
          go_wp2_with (fail)
          go_quiet (fail)
          go_wp2_with (fail)
          go_region
          all_goals go_wp2_with (fail)
          all_goals go_roundw
          case rel => exact ⟨k + 1, by go_num, hkc, by rw [← clrk_upd]; exact (hF4.out _).1, HF.out.trans (hF4.out _).2⟩
          case measure => simp [intOf]; omega
    · have e1 := hideIt (clrk_end HO.out HI.out (Or.inl (by omega : c ≤ k)))
      have : k = c := by omega
      subst this
      go_wp2_with (fail)
      go_end0
      exact ⟨rfl, by rw [← e1.out]; exact HM.out, HF.out⟩

end Go.Proofs.Ytbmkmllehppiiaa
