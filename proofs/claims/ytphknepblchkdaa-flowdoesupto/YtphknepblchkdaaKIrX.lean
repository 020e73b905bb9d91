/-
 The long code of the statements: a contract over the program.
-/
import Derived.Test.YtphknepblchkdaaKIrP
import Derived.BigRegion
import Derived.Laws.MakeOwn
namespace Go.Proofs.Ytphknepblchkdaa
open Go.RowKit
set_option linter.unusedVariables false

/-- The k-th cell of instructions, i of which are IConst, the others empty. -/
def cellAt (i k : Nat) : Value := if k % 7 = 0 then (if k / 7 < i then .int .u8 20 else .int .u8 0) else if k % 7 = 1 then .int .u8 0 else if k % 7 = 6 then .slice none 0 0 else .int .i64 0
def LongB (N i G : Nat) (W : World) : Prop := ∃ cs : Array Value, W.heap[G]? = some (.cells cs 49 (0, 0)) ∧ cs.size = N * 7 ∧ ∀ k, k < N * 7 → cs[k]? = some (cellAt i k)

theorem heap_set_other {X : World} {p : Addr} {u : Value} {k : Nat} {o : Obj} (h : X.heap[k]? = some o) (hne : k ≠ p.block) : (X.setCell p u).heap[k]? = some o := by
 rw [Below.heap_setCell X p u k hne]
 exact h
theorem block_setCell {w : World} {b j : Nat} {cs : Array Value} {t : TypeId} (h : w.heap[b]? = some (.cells cs t (0, 0))) (u : Value) : (w.setCell ⟨b, j, none⟩ u).heap[b]? = some (.cells (cs.setIfInBounds j u) t (0, 0)) := by
 have hlt : b < w.heap.size := (Array.getElem?_eq_some_iff.1 h).1
 have h' : w.heap[b] = .cells cs t (0, 0) := by simpa [Array.getElem?_eq_getElem hlt] using h
 show (w.heap.modify b _)[b]? = _
 rw [Array.getElem?_eq_getElem (by simpa using hlt), Array.getElem_modify_self, h']
 rfl
theorem free_of_block {w : World} {b : Nat} {cs : Array Value} {t : TypeId} (h : w.heap[b]? = some (.cells cs t (0, 0))) (j : Nat) : w.frozen? ⟨b, j, none⟩ = false := by simp [World.frozen?, h]

theorem LongB.other {N i G : Nat} {W : World} {p : Addr} {u : Value} (h : LongB N i G W) (hne : G ≠ p.block) : LongB N i G (W.setCell p u) := by
 obtain ⟨cs, h1, h2, h3⟩ := h
 exact ⟨cs, heap_set_other h1 hne, h2, h3⟩
theorem LongB.step {N i G : Nat} {W : World} (h : LongB N i G W) (hi : i < N) : LongB N (i + 1) G (W.setCell ⟨G, i * 7, none⟩ (.int .u8 20)) := by
 obtain ⟨cs, h1, h2, h3⟩ := h
 refine ⟨_, block_setCell h1 _, by simpa using h2, fun k hk => ?_⟩
 rw [Array.getElem?_setIfInBounds]
 by_cases e : i * 7 = k
 ·subst e
  rw [if_pos rfl, if_pos (by rw [h2]; exact hk)]
  unfold cellAt
  rw [if_pos (by omega), if_pos (by omega)]
 ·rw [if_neg e, h3 k hk]
  unfold cellAt
  by_cases h0 : k % 7 = 0
  ·rw [if_pos h0, if_pos h0]
   by_cases h4 : k / 7 < i
   ·rw [if_pos h4, if_pos (by omega)]
   ·rw [if_neg h4, if_neg (by omega)]
  ·rw [if_neg h0, if_neg h0]
theorem LongB.made (N : Nat) (X : World) : LongB N 0 X.heap.size (X.alloc (.cells (madeCells #[.int .u8 0, .int .u8 0, .int .i64 0, .int .i64 0, .int .i64 0, .int .i64 0, .slice none 0 0] (N * 7)) 49)) := by
 refine ⟨_, heap_new X _, size_madeCells _ _, fun k hk => ?_⟩
 unfold madeCells cellAt
 rw [Array.getElem?_map, Array.getElem?_range, if_pos hk]
 simp only [Option.map_some, Option.some.injEq, Nat.not_lt_zero, if_false]
 have : k % 7 = 0 ∨ k % 7 = 1 ∨ k % 7 = 2 ∨ k % 7 = 3 ∨ k % 7 = 4 ∨ k % 7 = 5 ∨ k % 7 = 6 := by omega
 rcases this with h | h | h | h | h | h | h <;> simp [h]

end Go.Proofs.Ytphknepblchkdaa
