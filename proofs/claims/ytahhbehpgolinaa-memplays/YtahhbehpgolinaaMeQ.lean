/-
  The document's memory: There, Keep: contracts over the program; no conditions but those that each fact bears.
-/
import Derived.Test.YtahhbehpgolinaaMeP
namespace Go.Proofs.Ytahhbehpgolinaa.Me
open Go.RowKit
set_option linter.unusedVariables false

/-- The lists' lengths. -/
def lens (R : List (Nat × List Int)) : List Nat := R.map fun r => r.2.length
theorem lens_sum (R : List (Nat × List Int)) : (lens R).sum = tot R := rfl

set_option maxRecDepth 100000 in
set_option maxHeartbeats 1000000 in
theorem there_any {w : World} {B : Nat} {bl : Nat → Prop} {q : Nat} {R : List (Nat × List Int)} (h : RI w B bl q R) (a b : Int) (hl : R.length ≤ 1000000) (hc : ∀ r ∈ R, r.2.length ≤ 1000000) :
    Calls Try.prog 15 #[.pointer (some ⟨q, 0, none⟩), .int .i64 a, .int .i64 b] w fun e w' => e = .returned (.bool (inB (lens R) a b)) ∧ w' = w := by
  obtain ⟨la, lc, h1, h2, h3⟩ := h.ex
  have c0 : w.cell? ⟨q, 0, none⟩ = some (.slice la R.length lc) := cell_of_block h2 0
  have H := hideIt h
  have H3 := hideIt h3
  have HC := hideIt hc
  clear h h1 h2 h3 hc
  by_cases ha : 0 ≤ a
  · by_cases hi : a < (R.length : Int)
    · by_cases hb : 0 ≤ b
      · obtain ⟨i, rfl⟩ : ∃ i : Nat, a = (i : Int) := ⟨a.toNat, by omega⟩
        have hil : i < R.length := by omega
        obtain ⟨g, rfl, c1⟩ := ri_at H.out H3.out hil
        have hcl := HC.out R[i] (List.getElem_mem hil)
        have e : inB (lens R) (i : Int) b = decide (b < (R[i].2.length : Int)) := by
          simp [inB, lens, hil, hb]
        rw [e]
        clear e
        generalize R[i].2.length = c at c1 hcl
        go_enter Try.func15, Try.ntmps15
        go_wp2
        go_ret
        exact ⟨rfl, rfl⟩
      · have e : inB (lens R) a b = false := by simp [inB, hb]
        rw [e]
        have hb' : b < 0 := by omega
        clear e hb
        go_enter Try.func15, Try.ntmps15
        go_wp2
        go_ret
        exact ⟨rfl, rfl⟩
    · have e : inB (lens R) a b = false := by simp [inB, lens, hi]
      rw [e]
      clear e
      go_enter Try.func15, Try.ntmps15
      go_wp2
      go_ret
      exact ⟨rfl, rfl⟩
  · have e : inB (lens R) a b = false := by simp [inB, ha]
    rw [e]
    clear e
    go_enter Try.func15, Try.ntmps15
    go_wp2
    go_ret
    exact ⟨rfl, rfl⟩

theorem rkeep_neg (w : World) (q : Nat) (c : Int) (hc : c < 0) : Calls Try.prog 13 #[.pointer (some ⟨q, 0, none⟩), .int .i64 c] w fun e w' => e = .returned (.int .i64 1) ∧ w' = w := by
  go_enter Try.func13, Try.ntmps13
  go_wp2
  go_ret
  exact ⟨rfl, rfl⟩
theorem rkeep_far {w : World} {B : Nat} {bl : Nat → Prop} {q : Nat} {R : List (Nat × List Int)} (h : RI w B bl q R) (c : Int) (hc : (R.length : Int) < c) : Calls Try.prog 13 #[.pointer (some ⟨q, 0, none⟩), .int .i64 c] w fun e w' => e = .returned (.int .i64 1) ∧ w' = w := by
  obtain ⟨la, lc, h1, h2, h3⟩ := h.ex
  have c0 : w.cell? ⟨q, 0, none⟩ = some (.slice la R.length lc) := cell_of_block h2 0
  have c1 : ¬ (c < 0) := by omega
  clear h h1 h2 h3
  go_enter Try.func13, Try.ntmps13
  go_wp2
  go_ret
  exact ⟨rfl, rfl⟩
theorem ri_less {w : World} {B : Nat} {bl : Nat → Prop} {q : Nat} {R : List (Nat × List Int)} (h : RI w B bl q R) {la : Option Addr} {lc k : Nat} (h1 : ∀ k, (Value.slice la R.length lc).ownBlock = some k → bl k ∧ k ≠ q ∧ ∀ r ∈ R, r.1 ≠ k) (h2 : w.heap[q]? = some (.cells #[.slice la R.length lc] 29 (0, 0)))
    (h3 : w.ownsRow B 44 1 (.slice la R.length lc) R.length (rowC R)) (hk : k ≤ R.length) :
    RI (w.setCell ⟨q, 0, none⟩ (.slice la k lc)) B bl q (R.take k) ∧ Fr bl w (w.setCell ⟨q, 0, none⟩ (.slice la k lc)) := by
  have hl : (R.take k).length = k := by simp; omega
  have hla : ∀ k', (Value.slice la k lc).ownBlock = some k' → (Value.slice la R.length lc).ownBlock = some k' := fun k' h => by
    cases la with
    | none => simp [Value.ownBlock] at h
    | some x => exact h
  refine ⟨⟨fun b hb => by simpa using h.rng b hb, h.inq, fun r hr => ?_, ?_, la, lc, fun b hb => ?_, ?_, ?_⟩, (Fr.refl bl w).setCell (Or.inl h.inq) _⟩
  · obtain ⟨e1, e2, e3⟩ := h.rows r (List.mem_of_mem_take hr)
    exact ⟨e1, e2, by rw [Below.heap_setCell _ _ _ _ e2]; exact e3⟩
  · rw [List.map_take]
    exact h.nodup.sublist (List.take_sublist _ _)
  · rw [hl] at hb
    obtain ⟨e1, e2, e3⟩ := h1 b (hla b hb)
    exact ⟨e1, e2, fun r hr => e3 r (List.mem_of_mem_take hr)⟩
  · rw [block_setCell h2, hl]
    simp
  · rw [hl]
    have hr : (w.setCell ⟨q, 0, none⟩ (.slice la k lc)).ownsRow B 44 1 (.slice la R.length lc) R.length (rowC R) := ownsRow_block h3 (fun b hb => Below.heap_setCell _ _ _ _ (h1 b hb).2.1)
    have er : rowC (R.take k) = (rowC R).take (k * 1) := by simp [rowC, List.map_take]
    rw [er]
    rcases hr.2 with ⟨e, h0⟩ | ⟨g, cap, cur, hv, _⟩
    · simp at e
      obtain ⟨rfl, e2, rfl⟩ := e
      have : k = 0 := by omega
      subst this
      exact World.ownsRow_nil _ _ _ _
    · simp at hv
      obtain ⟨rfl, rfl⟩ := hv
      exact ownsRow_less hr hk

set_option maxRecDepth 100000 in
set_option maxHeartbeats 1000000 in
theorem rkeep_ok {w : World} {B : Nat} {bl : Nat → Prop} {q : Nat} {R : List (Nat × List Int)} (h : RI w B bl q R) (k : Nat) (hk : k ≤ R.length) (hl : R.length ≤ 1000000) :
    Calls Try.prog 13 #[.pointer (some ⟨q, 0, none⟩), .int .i64 (k : Int)] w fun e w' => e = .returned (.int .i64 0) ∧ RI w' B bl q (R.take k) ∧ Fr bl w w' := by
  obtain ⟨la, lc, h1, h2, h3⟩ := h.ex
  have c0 : w.cell? ⟨q, 0, none⟩ = some (.slice la R.length lc) := cell_of_block h2 0
  have c1 : w.frozen? ⟨q, 0, none⟩ = false := free_of_block h2 0
  have HR := hideIt (ri_less h h1 h2 h3 hk)
  have hlc : R.length ≤ lc ∧ lc ≤ maxLen := by
    rcases h3.2 with ⟨e, h0⟩ | ⟨g, cap, cur, hv, _, _, hn, hc, _⟩
    · simp at e
      omega
    · simp at hv
      omega
  obtain ⟨l1, l2⟩ := hlc
  unfold maxLen at l2
  have i0 : (0 : Int) ≤ (k : Int) := by omega
  have i1 : (k : Int) ≤ (lc : Int) := by omega
  have d1 : decide ((k : Int) < 0) = false := by simp
  have d2 : decide (R.length < k) = false := by simp; omega
  clear h h1 h2 h3
  go_enter Try.func13, Try.ntmps13
  go_wp2
  go_ret
  exact ⟨rfl, HR.out⟩

end Go.Proofs.Ytahhbehpgolinaa.Me
