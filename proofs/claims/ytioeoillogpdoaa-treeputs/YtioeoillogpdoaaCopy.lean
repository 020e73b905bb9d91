/-
  What Copy and Same answer: contracts over the program; the conditions: the arguments are trees of at most 7000 nodes that lie in memory.
-/
import Derived.Test.YtioeoillogpdoaaCopies
namespace Go.Proofs.Ytioeoillogpdoaa
open Go.RowKit
set_option linter.unusedVariables false

theorem boxed2_free {w x : World} {v y : NF} {s t : Value} (h : Q (boxed2 w v s y t) x) : ∀ j, x.frozen? ⟨w.heap.size, j, none⟩ = false ∧ x.frozen? ⟨w.heap.size + 1, j, none⟩ = false := by
  intro j
  have h1 : (boxed2 w v s y t).heap[w.heap.size]? = some (.cells (cellsN v s).toArray 26 (0, 0)) := by
    rw [Below.heap_alloc _ _ _ (by simp)]
    exact heap_alloc_new w _
  have h2 : (boxed2 w v s y t).heap[w.heap.size + 1]? = some (.cells (cellsN y t).toArray 26 (0, 0)) := by
    simpa using heap_alloc_new (boxed w v s) (.cells (cellsN y t).toArray 26 (0, 0))
  exact ⟨free_of_block ((h.block _ (lt_of_block h1)).trans h1) j, free_of_block ((h.block _ (lt_of_block h2)).trans h2) j⟩

set_option maxRecDepth 100000 in
set_option maxHeartbeats 1000000 in
theorem copy_any (f : Fo) (v : NF) (a : Option Addr) (c : Nat) (w : World) (hin : In w a f) (hs : sok a f.len c) (hz : f.size ≤ 7000) :
    Calls Try.prog 25 #[nodeV v (.slice a f.len c)] w fun e w' => ∃ a' c' f', e = .returned (nodeV v (.slice a' f.len c')) ∧ Cp f f' ∧ sok a' f.len c' ∧ In w' a' f' ∧ Lo w.heap.size a' f' ∧ FrN w' a' f' ∧ Q w w' := by
  have HC := hideIt (copies_any (f.size + 1) f (by omega) a c (boxed2 w v (.slice a f.len c) (nf 0 0) (.slice none 0 0)) (hin.keep (Nat.le_refl _) (boxed2_q _ _ _ _ _)) hs hz)
  clear hin hs
  go_enter Try.func25, Try.ntmps25
  go_wp2_with (go_at_call 45; refine HC.out.mono ?_; rintro e x ⟨a', c', f', rfl, p1, p2, p3, p4, p6, p5⟩; have x0 := boxed2_a p5 0 _ rfl; have x1 := boxed2_a p5 1 _ rfl; have x2 := boxed2_a p5 2 _ rfl; have x3 := boxed2_a p5 3 _ rfl; have x4 := boxed2_a p5 4 _ rfl; have x5 := boxed2_a p5 5 _ rfl; have x6 := boxed2_a p5 6 _ rfl; have x7 := boxed2_a p5 7 _ rfl; have x8 := boxed2_a p5 8 _ rfl; have x9 := boxed2_a p5 9 _ rfl; have y0 := boxed2_b p5 0 _ rfl; have y1 := boxed2_b p5 1 _ rfl; have y2 := boxed2_b p5 2 _ rfl; have y3 := boxed2_b p5 3 _ rfl; have y4 := boxed2_b p5 4 _ rfl; have y5 := boxed2_b p5 5 _ rfl; have y6 := boxed2_b p5 6 _ rfl; have y7 := boxed2_b p5 7 _ rfl; have y8 := boxed2_b p5 8 _ rfl; have y9 := boxed2_b p5 9 _ rfl; have HP := hideIt (And.intro p1 (And.intro p2 (And.intro p3 (And.intro p4 (And.intro p6 p5))))); have fz : ∀ j, x.frozen? ⟨w.heap.size, j, none⟩ = false ∧ x.frozen? ⟨w.heap.size + 1, j, none⟩ = false := boxed2_free p5; have fz9 := (fz 9).1; have g0 := (fz 0).2; have g1 := (fz 1).2; have g2 := (fz 2).2; have g3 := (fz 3).2; have g4 := (fz 4).2; have g5 := (fz 5).2; have g6 := (fz 6).2; have g7 := (fz 7).2; have g8 := (fz 8).2; have g9 := (fz 9).2; clear fz p1 p2 p3 p4 p5 p6)
  obtain ⟨p1, p2, p3, p4, p6, p5⟩ := HP.out
  have hlo : Lo (w.heap.size + 1 + 1) a' f' := p4.mono (by simp)
  refine bodyPost_ret (v := nodeV v (.slice a' f.len c')) (by simp [results, Try.results25, go_sem, *]) rfl ⟨a', c', f', rfl, p1, p2, ?_, p4.mono (by simp; omega), ?_, ?_⟩
  · repeat (refine In.setCell (B := w.heap.size + 1 + 1) (by simp <;> omega) ?_ hlo)
    exact p3
  · repeat (refine FrN.setCell ?_)
    exact p6
  · repeat (refine Below.setCell ?_ (by simp <;> omega) _)
    exact (boxed2_q _ _ _ _ _).trans p5
end Go.Proofs.Ytioeoillogpdoaa
