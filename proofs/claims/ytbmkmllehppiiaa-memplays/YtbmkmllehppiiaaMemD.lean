/-
  Alloc: contracts over the program; the conditions: a memory lies there, or the pointer is nil.
-/
import Derived.Test.YtbmkmllehppiiaaMemC
namespace Go.Proofs.Ytbmkmllehppiiaa
open Go.RowKit
set_option linter.unusedVariables false

theorem alloc_nil (w : World) (c : Int) : Calls Try.prog 10 #[.pointer none, .int .i64 c] w fun e w' => e = .returned (.tuple #[.int .i64 0, .int .i64 12]) ∧ w' = w := by
  go_enter Try.func10, Try.ntmps10
  go_wp2
  go_ret2
  exact ⟨rfl, rfl⟩
theorem alloc_neg (w : World) (p : Nat) (c : Int) (hc : c < 0) : Calls Try.prog 10 #[.pointer (some ⟨p, 0, none⟩), .int .i64 c] w fun e w' => e = .returned (.tuple #[.int .i64 0, .int .i64 1]) ∧ w' = w := by
  go_enter Try.func10, Try.ntmps10
  go_wp2
  go_ret2
  exact ⟨rfl, rfl⟩
theorem alloc_lim {w : World} {B : Nat} {bl : Nat → Prop} {p n : Nat} {bs : List Nat} {f : Int → Int → Int} {t : Int} (h : MI w B bl p n bs f t) (ht : 0 ≤ t) (ht2 : t ≤ 65536) (c : Int) (hc : 0 ≤ c) (hc2 : 65536 - t < c) :
    Calls Try.prog 10 #[.pointer (some ⟨p, 0, none⟩), .int .i64 c] w fun e w' => e = .returned (.tuple #[.int .i64 0, .int .i64 11]) ∧ w' = w := by
  obtain ⟨M, la, lc, L, h1, h2, h3, h4, h5, h6, h7, h8⟩ := h.ex
  have c1 : w.cell? ⟨p, 2, none⟩ = some (.int .i64 t) := cell_of_block h6 2
  clear h h3 h5 h6 h7 h8 h4 h1 h2
  go_enter Try.func10, Try.ntmps10
  go_wp2
  all_goals first | (go_ret2; exact ⟨rfl, rfl⟩) | (exfalso; omega)

set_option maxRecDepth 100000 in
set_option maxHeartbeats 1000000 in
theorem alloc_ok {w : World} {B : Nat} {bl : Nat → Prop} {p n : Nat} {bs : List Nat} {f : Int → Int → Int} {t : Int} (h : MI w B bl p n bs f t) (ht : 0 ≤ t) (ht2 : t ≤ 65536) (c : Nat) (hc2 : (c : Int) ≤ 65536 - t) (hl : bs.length ≤ 1000000) :
    Calls Try.prog 10 #[.pointer (some ⟨p, 0, none⟩), .int .i64 (c : Int)] w fun e w' => e = .returned (.tuple #[.int .i64 bs.length, .int .i64 0]) ∧
      (∃ bl' : Nat → Prop, (∀ k, bl k → bl' k) ∧ (∀ k, bl' k → bl k ∨ w.heap.size ≤ k) ∧ MI w' B bl' p n (bs ++ [c]) f (t + c)) ∧ Fr bl w w' := by
  obtain ⟨M, la, lc, L, h1, h2, h3, h4, h5, h6, h7, h8⟩ := h.ex
  obtain ⟨i0, hi, hz0, hz1, hz2⟩ := info_parts Try.info60
  have c1 : w.cell? ⟨p, 1, none⟩ = some (.slice la bs.length lc) := cell_of_block h6 1
  have c2 : w.cell? ⟨p, 2, none⟩ = some (.int .i64 t) := cell_of_block h6 2
  have hp := lt_of_some h6
  have hnp : (Value.slice la bs.length lc).ownBlock ≠ some p := fun e => (h3 p e).2.1 rfl
  have hB := hideIt (show B ≤ w.heap.size by have := h.rng p h.inp; omega)
  have H := hideIt h
  have HR := hideIt (ownsRow_block (w' := w.alloc (.cells #[.int .i64 (c : Int), .int .i64 0] 60)) h8 (fun k hk => Below.heap_alloc _ _ _ (h.rng k (h3 k hk).1).2))
  have HP := hideIt (show ∀ w1, (w.alloc (.cells #[.int .i64 (c : Int), .int .i64 0] 60)).grownBy w1 (Value.slice la bs.length lc).ownBlock → w1.cell? ⟨p, 1, none⟩ = some (.slice la bs.length lc) ∧ w1.cell? ⟨p, 2, none⟩ = some (.int .i64 t) ∧ w1.frozen? ⟨p, 1, none⟩ = false ∧ w1.frozen? ⟨p, 2, none⟩ = false by
    intro w1 hg
    have q1 : w1.heap[p]? = some (.cells #[.map (some M), .slice la bs.length lc, .int .i64 t] 58 (0, 0)) := by
      rw [hg.block p (by simp; omega) (Ne.symm hnp), Below.heap_alloc _ _ _ hp]
      exact h6
    exact ⟨cell_of_block q1 1, cell_of_block q1 2, free_of_block q1 1, free_of_block q1 2⟩)
  have HA := hideIt (fun (w1 : World) (g cap : Nat) => alloc_mi (w := w) (w1 := w1) (g := g) (cap := cap) (c := c) (o := .cells #[.int .i64 (c : Int), .int .i64 0] 60) (t' := t + c) h h1 h2 h3 h4 h5 h6 h7)
  have hL : Hid ((blkCells L).length = bs.length * 2) := by
    have : L.length = bs.length := by rw [← h4]; simp
    show _ = _
    rw [blkCells_length, this]
  clear h h3 h5 h6 h7 h8 h4 h1 h2 hnp
  go_enter Try.func10, Try.ntmps10
  go_wp2_with (first | (at_builtin; refine wpList_append_lies _ rfl _ _ 56 rfl B 60 i0 (.agg #[.int .i64 0, .int .i64 0]) 2 16 Try.underlying56 hi hz0 hz1 hz2 rfl (by decide) (.slice la bs.length lc) bs.length (blkCells L) rfl HR.out ⟨w.heap.size, 0, none⟩ 1 1 [.int .i64 (c : Int), .int .i64 0] rfl rfl (World.news_of_block (heap_alloc_new w _)) (by intro u hu; simp at hu; rcases hu with rfl | rfl <;> rfl) (by decide) (by unfold maxLen; omega) (by omega) (by have := hB.out; simp; omega) (w.heap.size + 1) (by simp) ?_; intro g cap w1 hown hgrow hat hlt; obtain ⟨k1, k2, k3, k4⟩ := HP.out w1 hgrow; have HO := hideIt hown; have HG := hideIt hgrow; have HT := hideIt hat; clear hown hgrow hat) | fail)
  all_goals first | (exfalso; omega) | (go_ret2; exact ⟨rfl, HA.out w1 g cap HO.out HG.out HT.out⟩)

end Go.Proofs.Ytbmkmllehppiiaa
