/-
  The document's memory (a list of lists): what it is in the heap, and its calls' contracts over the program; no conditions but those that each fact bears.
-/
import Derived.Test.YtahhbehpgolinaaMeO
import Derived.Deep.OwnRows
namespace Go.Proofs.Ytahhbehpgolinaa.Me
open Go.RowKit
set_option linter.unusedVariables false

/-- The cells of the list: each a list of its own. -/
def rowC (R : List (Nat × List Int)) : List Value := R.map fun r => .slice (some ⟨r.1, 0, none⟩) r.2.length r.2.length
theorem rowC_length (R : List (Nat × List Int)) : (rowC R).length = R.length := by simp [rowC]

/-- The document's memory at block q: its lists, each with the block where it lies. -/
structure RI (w : World) (B : Nat) (bl : Nat → Prop) (q : Nat) (R : List (Nat × List Int)) : Prop where
  rng : ∀ k, bl k → B ≤ k ∧ k < w.heap.size
  inq : bl q
  rows : ∀ r ∈ R, bl r.1 ∧ r.1 ≠ q ∧ w.heap[r.1]? = some (.cells (r.2.map (Value.int .i64)).toArray 2 (0, 0))
  nodup : (R.map Prod.fst).Nodup
  ex : ∃ la lc, (∀ k, (Value.slice la R.length lc).ownBlock = some k → bl k ∧ k ≠ q ∧ ∀ r ∈ R, r.1 ≠ k) ∧ w.heap[q]? = some (.cells #[.slice la R.length lc] 29 (0, 0)) ∧ w.ownsRow B 44 1 (.slice la R.length lc) R.length (rowC R)

theorem RI.kept {w w' : World} {B : Nat} {bl : Nat → Prop} {q : Nat} {R : List (Nat × List Int)} (h : RI w B bl q R) (hb : ∀ k, bl k → w'.heap[k]? = w.heap[k]?) (hs : w.heap.size ≤ w'.heap.size) : RI w' B bl q R := by
  obtain ⟨la, lc, h1, h2, h3⟩ := h.ex
  refine ⟨fun k hk => ⟨(h.rng k hk).1, Nat.lt_of_lt_of_le (h.rng k hk).2 hs⟩, h.inq, fun r hr => ?_, h.nodup, la, lc, h1, ?_, ?_⟩
  · obtain ⟨e1, e2, e3⟩ := h.rows r hr
    exact ⟨e1, e2, by rw [hb _ e1]; exact e3⟩
  · rw [hb q h.inq]; exact h2
  · exact ownsRow_block h3 fun k hk => hb k (h1 k hk).1
theorem RI.fr {w w' : World} {B : Nat} {S bl : Nat → Prop} {q : Nat} {R : List (Nat × List Int)} (h : RI w B bl q R) (hf : Fr S w w') (hd : ∀ k, bl k → ¬ S k) : RI w' B bl q R :=
  h.kept (fun k hk => hf.block k (h.rng k hk).2 (hd k hk)) hf.size

theorem ri_new (w : World) : RI (w.alloc (.cells #[.slice none 0 0] 29)) w.heap.size (fun k => k = w.heap.size) w.heap.size [] := by
  refine ⟨fun k hk => ?_, rfl, fun r hr => ?_, ?_, none, 0, fun k hk => ?_, heap_alloc_new _ _, World.ownsRow_nil _ _ _ _⟩
  · subst hk
    simp
  · cases hr
  · simp
  · simp [Value.ownBlock] at hk

/-- A list of the memory as it is read. -/
theorem ri_at {w : World} {B : Nat} {bl : Nat → Prop} {q : Nat} {R : List (Nat × List Int)} (h : RI w B bl q R) {la : Option Addr} {lc : Nat} (h3 : w.ownsRow B 44 1 (.slice la R.length lc) R.length (rowC R)) {i : Nat} (hi : i < R.length) :
    ∃ g, la = some ⟨g, 0, none⟩ ∧ w.cell? ⟨g, i, none⟩ = some (.slice (some ⟨R[i].1, 0, none⟩) R[i].2.length R[i].2.length) := by
  rcases h3.2 with ⟨_, h2⟩ | ⟨g, cap, cur, hv, hg, hh, hn, hc, hs, ht⟩
  · omega
  · simp at hv
    obtain ⟨rfl, rfl⟩ := hv
    refine ⟨g, rfl, ?_⟩
    rw [cell_of_block hh]
    have e : (rowC R)[i]? = some (.slice (some ⟨R[i].1, 0, none⟩) R[i].2.length R[i].2.length) := by simp [rowC, hi]
    rw [← ht, List.getElem?_take_of_lt (by omega)] at e
    simpa using e
theorem ri_cell {w : World} {B : Nat} {bl : Nat → Prop} {q : Nat} {R : List (Nat × List Int)} (h : RI w B bl q R) {i j : Nat} (hi : i < R.length) (hj : j < R[i].2.length) :
    w.cell? ⟨R[i].1, j, none⟩ = some (.int .i64 (R[i].2.getD j 0)) ∧ w.frozen? ⟨R[i].1, j, none⟩ = false := by
  obtain ⟨_, _, e⟩ := h.rows R[i] (List.getElem_mem hi)
  refine ⟨?_, free_of_block e _⟩
  rw [cell_of_block e]
  simp [hj]

/-- How many cells. -/
def tot (R : List (Nat × List Int)) : Nat := (R.map fun r => r.2.length).sum
theorem tot_take {R : List (Nat × List Int)} {i : Nat} (hi : i < R.length) : tot (R.take (i + 1)) = tot (R.take i) + R[i].2.length := by
  unfold tot
  rw [List.take_add_one, List.map_append, List.sum_append]
  simp [hi]
theorem tot_split (R : List (Nat × List Int)) (i : Nat) : tot (R.take i) ≤ tot R := by
  unfold tot
  have : (R.map fun r => r.2.length).sum = ((R.take i).map fun r => r.2.length).sum + ((R.drop i).map fun r => r.2.length).sum := by
    rw [← List.sum_append, ← List.map_append, List.take_append_drop]
  omega

set_option maxRecDepth 100000 in
set_option maxHeartbeats 1000000 in
theorem rtotal_any {w : World} {B : Nat} {bl : Nat → Prop} {q : Nat} {R : List (Nat × List Int)} (h : RI w B bl q R) (hl : R.length ≤ 1000000) (ht : tot R ≤ 1000000) :
    Calls Try.prog 19 #[.pointer (some ⟨q, 0, none⟩)] w fun e w' => e = .returned (.int .i64 ((tot R : Nat) : Int)) ∧ w' = w := by
  obtain ⟨la, lc, h1, h2, h3⟩ := h.ex
  have c0 : w.cell? ⟨q, 0, none⟩ = some (.slice la R.length lc) := cell_of_block h2 0
  have H := hideIt h
  have H3 := hideIt h3
  clear h h1 h2 h3
  go_enter Try.func19, Try.ntmps19
  go_wp2_with (fail)
  go_loopw [3, 4] (fun s o wr => ∃ i : Nat, o = .int .i64 i ∧ i ≤ R.length ∧ s = .int .i64 ((tot (R.take i) : Nat) : Int) ∧ wr = w) (fun _ o _ => R.length - (intOf o).toNat)
  case atStart => exact ⟨0, rfl, Nat.zero_le _, rfl, rfl⟩
  case round =>
    obtain ⟨i, rfl, hi, rfl, rfl⟩ := hrel
    by_cases hil : i < R.length
    · obtain ⟨g, rfl, c1⟩ := ri_at H.out H3.out hil
      have e1 := tot_take hil
      have e2 := tot_split R (i + 1)
      have e3 : ((tot (R.take (i + 1)) : Nat) : Int) = ((tot (R.take i) : Nat) : Int) + (R[i].2.length : Int) := by rw [e1]; omega
      have HE := hideIt e3
      have b1 : ((tot (R.take i) : Nat) : Int) + (R[i].2.length : Int) ≤ 1000000 := by omega
      have b0 : (0 : Int) ≤ ((tot (R.take i) : Nat) : Int) := by omega
      clear e1 e2 e3
      generalize ((tot (R.take i) : Nat) : Int) = T at HE b1 b0
      go_wp2_with (fail)
      go_roundw
      case rel => exact ⟨i + 1, by go_num, by omega, by rw [HE.out], by trivial⟩
      case measure => simp [intOf]; omega
    · have : i = R.length := by omega
      subst this
      rw [List.take_length]
      go_wp2_with (fail)
      go_ret
      exact ⟨rfl, rfl⟩

end Go.Proofs.Ytahhbehpgolinaa.Me
