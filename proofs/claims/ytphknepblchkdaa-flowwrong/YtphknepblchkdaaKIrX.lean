/-
  The long code of the statements: a contract over the program.
-/
import Derived.Test.YtphknepblchkdaaKIrP
import Derived.BigRegion
import Derived.Laws.MakeOwn
namespace Go.Proofs.Ytphknepblchkdaa
open Go.RowKit
set_option linter.unusedVariables false

/-- The k-th cell of instructions, i of which are IConst, the others empty. -/
def cellAt (i k : Nat) : Value := if k % 7 = 0 then (if k / 7 < i then .int .u8 20 else .int .u8 0) else if k % 7 = 1 then .int .u8 0 else if k % 7 = 6 then .slice none 0 0 else .int .i64 0
def LongB (N i G : Nat) (W : World) : Prop := ∃ cs : Array Value, W.heap[G]? = some (.cells cs 49 (0, 0)) ∧ cs.size = N * 7 ∧ ∀ k, k < N * 7 → cs[k]? = some (cellAt i k)

theorem heap_set_other {X : World} {p : Addr} {u : Value} {k : Nat} {o : Obj} (h : X.heap[k]? = some o) (hne : k ≠ p.block) : (X.setCell p u).heap[k]? = some o := by
  rw [Below.heap_setCell X p u k hne]
  exact h
theorem block_setCell {w : World} {b j : Nat} {cs : Array Value} {t : TypeId} (h : w.heap[b]? = some (.cells cs t (0, 0))) (u : Value) : (w.setCell ⟨b, j, none⟩ u).heap[b]? = some (.cells (cs.setIfInBounds j u) t (0, 0)) := by
  have hlt : b < w.heap.size := (Array.getElem?_eq_some_iff.1 h).1
  have h' : w.heap[b] = .cells cs t (0, 0) := by simpa [Array.getElem?_eq_getElem hlt] using h
  show (w.heap.modify b _)[b]? = _
  rw [Array.getElem?_eq_getElem (by simpa using hlt), Array.getElem_modify_self, h']
  rfl
theorem free_of_block {w : World} {b : Nat} {cs : Array Value} {t : TypeId} (h : w.heap[b]? = some (.cells cs t (0, 0))) (j : Nat) : w.frozen? ⟨b, j, none⟩ = false := by simp [World.frozen?, h]

theorem LongB.other {N i G : Nat} {W : World} {p : Addr} {u : Value} (h : LongB N i G W) (hne : G ≠ p.block) : LongB N i G (W.setCell p u) := by
  obtain ⟨cs, h1, h2, h3⟩ := h
  exact ⟨cs, heap_set_other h1 hne, h2, h3⟩
theorem LongB.step {N i G : Nat} {W : World} (h : LongB N i G W) (hi : i < N) : LongB N (i + 1) G (W.setCell ⟨G, i * 7, none⟩ (.int .u8 20)) := by
  obtain ⟨cs, h1, h2, h3⟩ := h
  refine ⟨_, block_setCell h1 _, by simpa using h2, fun k hk => ?_⟩
  rw [Array.getElem?_setIfInBounds]
  by_cases e : i * 7 = k
  · subst e
    rw [if_pos rfl, if_pos (by rw [h2]; exact hk)]
    unfold cellAt
    rw [if_pos (by omega), if_pos (by omega)]
  · rw [if_neg e, h3 k hk]
    unfold cellAt
    by_cases h0 : k % 7 = 0
    · rw [if_pos h0, if_pos h0]
      by_cases h4 : k / 7 < i
      · rw [if_pos h4, if_pos (by omega)]
      · rw [if_neg h4, if_neg (by omega)]
    · rw [if_neg h0, if_neg h0]
theorem LongB.made (N : Nat) (X : World) : LongB N 0 X.heap.size (X.alloc (.cells (madeCells #[.int .u8 0, .int .u8 0, .int .i64 0, .int .i64 0, .int .i64 0, .int .i64 0, .slice none 0 0] (N * 7)) 49)) := by
  refine ⟨_, heap_new X _, size_madeCells _ _, fun k hk => ?_⟩
  unfold madeCells cellAt
  rw [Array.getElem?_map, Array.getElem?_range, if_pos hk]
  simp only [Option.map_some, Option.some.injEq, Nat.not_lt_zero, if_false]
  have : k % 7 = 0 ∨ k % 7 = 1 ∨ k % 7 = 2 ∨ k % 7 = 3 ∨ k % 7 = 4 ∨ k % 7 = 5 ∨ k % 7 = 6 := by omega
  rcases this with h | h | h | h | h | h | h <;> simp [h]

theorem z64 : I64 0 := by unfold I64; omega
def x20 : PI := ⟨20, 0, 0, 0, 0, 0, [], none, 0⟩
theorem LongB.insts {N G : Nat} {W : World} (h : LongB N N G W) : Insts W (some ⟨G, 0, none⟩) (List.replicate N x20) := by
  obtain ⟨cs, h1, h2, h3⟩ := h
  intro k x e
  rw [List.getElem?_replicate] at e
  split at e
  · simp at e
    subst e
    refine ⟨G, 0, rfl, fun j hj => ?_, ⟨by decide, by decide, z64, z64, z64, z64, sok_none _, Lst.nil⟩⟩
    have hj' : j < 7 := hj
    have hk : k < N := by assumption
    rw [cell_of_block h1, h3 _ (by omega)]
    have : j = 0 ∨ j = 1 ∨ j = 2 ∨ j = 3 ∨ j = 4 ∨ j = 5 ∨ j = 6 := by omega
    unfold cellAt
    rcases this with rfl | rfl | rfl | rfl | rfl | rfl | rfl
    · rw [if_pos (by omega), if_pos (by omega)]; rfl
    · rw [if_neg (by omega), if_pos (by omega)]; rfl
    · rw [if_neg (by omega), if_neg (by omega), if_neg (by omega)]; rfl
    · rw [if_neg (by omega), if_neg (by omega), if_neg (by omega)]; rfl
    · rw [if_neg (by omega), if_neg (by omega), if_neg (by omega)]; rfl
    · rw [if_neg (by omega), if_neg (by omega), if_neg (by omega)]; rfl
    · rw [if_neg (by omega), if_neg (by omega), if_pos (by omega)]; rfl
  · cases e

/-- The long code came. -/
def Long (N : Nat) (w : World) (e : Ending) (w' : World) : Prop :=
  ∃ G g1 g2, w.heap.size ≤ g1 ∧ g1 < g2 ∧ g2 < G ∧ e = .returned (.agg #[.slice none 0 0, .slice none 0 0, .slice (some ⟨g2, 0, none⟩) 1 1]) ∧
    w'.heap[g1]? = some (.cells #[.slice (some ⟨G, 0, none⟩) N N, .bool true, .int .i64 0, .int .i64 0, .int .i64 0] 47 (0, 0)) ∧
    w'.heap[g2]? = some (.cells #[.int .i64 0, .int .i64 1, .slice none 0 0, .slice (some ⟨g1, 0, none⟩) 1 1] 44 (0, 0)) ∧ LongB N N G w' ∧ Q w w'

/-- What holds while the long code is made. -/
def Inv (N r b G g1 g2 i : Nat) (W : World) : Prop := LongB N i G W ∧
  W.heap[g1]? = some (.cells #[.slice (some ⟨G, 0, none⟩) N N, .bool true, .int .i64 0, .int .i64 0, .int .i64 0] 47 (0, 0)) ∧
  W.heap[g2]? = some (.cells #[.int .i64 0, .int .i64 1, .slice none 0 0, .slice (some ⟨g1, 0, none⟩) 1 1] 44 (0, 0)) ∧
  W.heap[b]? = some (.cells #[.slice none 0 0, .slice none 0 0, .slice (some ⟨g2, 0, none⟩) 1 1] 26 (0, 0)) ∧
  ∃ cs, W.heap[r]? = some (.cells cs 26 (0, 0)) ∧ cs.size = 3

/-- The long code is right, if it isn't too long. -/
theorem long_codeN (N : Nat) (G g1 g2 : Nat) : codeN (lsC [] [] none 0 none 0 (lsF 1 [] none 0 (lsP (List.replicate N x20) (some ⟨G, 0, none⟩) N) g1) g2) = 1 + (N : Int) := by
  simp [codeN, fnN, partN, lsC, lsF, lsP]
theorem long_right (N : Nat) (G g1 g2 : Nat) : rightP (lsC [] [] none 0 none 0 (lsF 1 [] none 0 (lsP (List.replicate N x20) (some ⟨G, 0, none⟩) N) g1) g2) = true := by
  have h : ∀ c f, f.regs = 1 → insP c 0 f x20 = true := fun c f hf => by
    unfold insP wtP rdsP immP x20
    rw [hf]
    rfl
  have h2 : ∀ c f, f.regs = 1 → (List.replicate N x20).all (insP c 0 f) = true := fun c f hf => by
    rw [List.all_eq_true]
    intro x hx
    rw [List.eq_of_mem_replicate hx]
    exact h c f hf
  generalize hc : lsC [] [] none 0 none 0 (lsF 1 [] none 0 (lsP (List.replicate N x20) (some ⟨G, 0, none⟩) N) g1) g2 = c
  have e1 : c.fns = [lsF 1 [] none 0 (lsP (List.replicate N x20) (some ⟨G, 0, none⟩) N) g1] := by rw [← hc]; rfl
  have e2 : hdP c = true := by rw [← hc]; rfl
  unfold rightP
  rw [e2, e1]
  show (true && (fnP c 0 _ && true)) = true
  unfold fnP ptP
  have e3 : headP (lsF 1 [] none 0 (lsP (List.replicate N x20) (some ⟨G, 0, none⟩) N) g1) = true := rfl
  rw [e3]
  show (true && (true && ((endP _ (lsP _ _ _) && (List.replicate N x20).all (insP c 0 _)) && true) && true)) = true
  rw [h2 c _ rfl]
  rfl

theorem long_valid (N : Nat) (G g1 g2 : Nat) (h : N < 9000000) : validP (lsC [] [] none 0 none 0 (lsF 1 [] none 0 (lsP (List.replicate N x20) (some ⟨G, 0, none⟩) N) g1) g2) = if 60000 < N + 1 then 11 else 0 := by
  unfold validP
  rw [long_codeN, long_right]
  have e : IntKind.i64.wrap (1 + (N : Int)) = 1 + (N : Int) := by simp [IntKind.wrap_i64]; omega
  rw [e]
  by_cases h1 : 60000 < N + 1
  · rw [if_pos h1, if_pos (by omega)]
  · rw [if_neg h1, if_neg (by omega)]
    rfl

end Go.Proofs.Ytphknepblchkdaa
