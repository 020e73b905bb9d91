/-
  The greatest registers and cells, and one more of each: the walk of the statement.
-/
import Derived.Test.YtiiggldapncknaaIrX
namespace Go.Proofs.Ytiiggldapncknaa
open Go.RowKit
set_option linter.unusedVariables false

/-- Two least codes and their boxes. -/
structure Base (g1 g2 h1 h2 bc bd : Nat) (Y : World) : Prop where
  a1 : Y.heap[g1]? = some (.cells #[.slice none 0 0, .bool true, .int .i64 0, .int .i64 0, .int .i64 0] 44 (0, 0))
  a2 : Y.heap[g2]? = some (.cells #[.int .i64 0, .int .i64 1, .slice none 0 0, .slice (some ⟨g1, 0, none⟩) 1 1] 41 (0, 0))
  b1 : Y.heap[h1]? = some (.cells #[.slice none 0 0, .bool true, .int .i64 0, .int .i64 0, .int .i64 0] 44 (0, 0))
  b2 : Y.heap[h2]? = some (.cells #[.int .i64 0, .int .i64 1, .slice none 0 0, .slice (some ⟨h1, 0, none⟩) 1 1] 41 (0, 0))
  c : Y.heap[bc]? = some (.cells #[.slice none 0 0, .slice none 0 0, .slice (some ⟨g2, 0, none⟩) 1 1] 26 (0, 0))
  d : Y.heap[bd]? = some (.cells #[.slice none 0 0, .slice none 0 0, .slice (some ⟨h2, 0, none⟩) 1 1] 26 (0, 0))
  l1 : g1 < g2
  l2 : g2 < bc
  l3 : bc < h1
  l4 : h1 < h2
  l5 : h2 < bd
  l6 : bd < Y.heap.size

theorem Base.of {x1 x2 x3 : World} {g1 g2 h1 h2 : Nat} {e1 e2 : Ending}
    (A : x1.heap.size ≤ g1 ∧ g1 < g2 ∧ x2.heap[g1]? = some (.cells #[.slice none 0 0, .bool true, .int .i64 0, .int .i64 0, .int .i64 0] 44 (0, 0)) ∧
      x2.heap[g2]? = some (.cells #[.int .i64 0, .int .i64 1, .slice none 0 0, .slice (some ⟨g1, 0, none⟩) 1 1] 41 (0, 0)) ∧ Q x1 x2)
    (B : (x2.alloc (.cells #[.slice none 0 0, .slice none 0 0, .slice (some ⟨g2, 0, none⟩) 1 1] 26)).heap.size ≤ h1 ∧ h1 < h2 ∧ x3.heap[h1]? = some (.cells #[.slice none 0 0, .bool true, .int .i64 0, .int .i64 0, .int .i64 0] 44 (0, 0)) ∧
      x3.heap[h2]? = some (.cells #[.int .i64 0, .int .i64 1, .slice none 0 0, .slice (some ⟨h1, 0, none⟩) 1 1] 41 (0, 0)) ∧ Q (x2.alloc (.cells #[.slice none 0 0, .slice none 0 0, .slice (some ⟨g2, 0, none⟩) 1 1] 26)) x3) :
    Base g1 g2 h1 h2 x2.heap.size x3.heap.size (x3.alloc (.cells #[.slice none 0 0, .slice none 0 0, .slice (some ⟨h2, 0, none⟩) 1 1] 26)) ∧ Q x1 (x3.alloc (.cells #[.slice none 0 0, .slice none 0 0, .slice (some ⟨h2, 0, none⟩) 1 1] 26)) := by
  obtain ⟨p1, p2, p3, p4, p5⟩ := A
  obtain ⟨q1, q2, q3, q4, q5⟩ := B
  have s1 : g1 < x2.heap.size := (Array.getElem?_eq_some_iff.1 p3).1
  have s2 : g2 < x2.heap.size := (Array.getElem?_eq_some_iff.1 p4).1
  have s3 : h2 < x3.heap.size := (Array.getElem?_eq_some_iff.1 q4).1
  have s4 : (x2.alloc (.cells #[.slice none 0 0, .slice none 0 0, .slice (some ⟨g2, 0, none⟩) 1 1] 26)).heap.size = x2.heap.size + 1 := by simp
  rw [s4] at q1
  have k : ∀ j o, x2.heap[j]? = some o → x3.heap[j]? = some o := fun j o h => by
    have hl : j < x2.heap.size := (Array.getElem?_eq_some_iff.1 h).1
    rw [q5.block j (by rw [s4]; omega)]
    exact heap_old _ h
  refine ⟨⟨heap_old _ (k _ _ p3), heap_old _ (k _ _ p4), heap_old _ q3, heap_old _ q4, heap_old _ ?_, heap_new _ _, p2, s2, by omega, q2, s3, by simp⟩, (p5.trans (((Q.refl _).alloc _).trans q5)).alloc _⟩
  rw [q5.block _ (by rw [s4]; omega)]
  exact heap_new _ _

/-- The cells of both. -/
theorem Base.cells {g1 g2 h1 h2 bc bd : Nat} {Y : World} (h : Base g1 g2 h1 h2 bc bd Y) :
    (Y.cell? ⟨bc, 0, none⟩ = some (.slice none 0 0) ∧ Y.cell? ⟨bc, 1, none⟩ = some (.slice none 0 0) ∧ Y.cell? ⟨bc, 2, none⟩ = some (.slice (some ⟨g2, 0, none⟩) 1 1)) ∧
    (Y.cell? ⟨bd, 0, none⟩ = some (.slice none 0 0) ∧ Y.cell? ⟨bd, 1, none⟩ = some (.slice none 0 0) ∧ Y.cell? ⟨bd, 2, none⟩ = some (.slice (some ⟨h2, 0, none⟩) 1 1)) ∧
    (Y.cell? ⟨g2, 1, none⟩ = some (.int .i64 1) ∧ Y.cell? ⟨g2, 2, none⟩ = some (.slice none 0 0) ∧ Y.cell? ⟨h2, 1, none⟩ = some (.int .i64 1) ∧ Y.cell? ⟨h2, 2, none⟩ = some (.slice none 0 0)) ∧
    (∀ j, Y.frozen? ⟨bc, j, none⟩ = false) ∧ (∀ j, Y.frozen? ⟨bd, j, none⟩ = false) ∧ (∀ j, Y.frozen? ⟨g2, j, none⟩ = false) ∧ (∀ j, Y.frozen? ⟨h2, j, none⟩ = false) :=
  ⟨⟨(cell_of_block h.c 0).trans rfl, (cell_of_block h.c 1).trans rfl, (cell_of_block h.c 2).trans rfl⟩, ⟨(cell_of_block h.d 0).trans rfl, (cell_of_block h.d 1).trans rfl, (cell_of_block h.d 2).trans rfl⟩,
    ⟨(cell_of_block h.a2 1).trans rfl, (cell_of_block h.a2 2).trans rfl, (cell_of_block h.b2 1).trans rfl, (cell_of_block h.b2 2).trans rfl⟩, fun j => free_of_block h.c j, fun j => free_of_block h.d j, fun j => free_of_block h.a2 j, fun j => free_of_block h.b2 j⟩

theorem alloc_cell (X : World) (ob : Obj) (b j : Nat) (h : b < X.heap.size) : (X.alloc ob).cell? ⟨b, j, none⟩ = X.cell? ⟨b, j, none⟩ := World.cell?_of_block (Below.heap_alloc X ob b h)
theorem alloc_froz (X : World) (ob : Obj) (b j : Nat) (h : b < X.heap.size) : (X.alloc ob).frozen? ⟨b, j, none⟩ = X.frozen? ⟨b, j, none⟩ := World.frozen?_of_block (Below.heap_alloc X ob b h)
theorem Base.alloc {g1 g2 h1 h2 bc bd : Nat} {Y : World} (h : Base g1 g2 h1 h2 bc bd Y) (o : Obj) : Base g1 g2 h1 h2 bc bd (Y.alloc o) :=
  ⟨heap_old _ h.a1, heap_old _ h.a2, heap_old _ h.b1, heap_old _ h.b2, heap_old _ h.c, heap_old _ h.d, h.l1, h.l2, h.l3, h.l4, h.l5, by have := h.l6; simp; omega⟩

/-- Both codes lie there, the second one's box too. -/
structure Fin (C D : PC) (bd : Nat) (Z : World) : Prop where
  c : C.ok Z
  d : D.ok Z
  b : At Z bd 0 D.cells

theorem c64 (z : Int) (h1 : -9223372036854775808 ≤ z := by omega) (h2 : z ≤ 9223372036854775807 := by omega) : I64 z := ⟨h1, h2⟩
theorem sok2 (z g : Nat) (h : z ≤ 64 := by omega) : sok z (some ⟨g, 0, none⟩) 2 2 := ⟨Nat.le_refl _, by decide, (fun h => by cases h), by omega⟩
theorem ints2 {W : World} {g : Nat} {a b : Int} {t : TypeId} (h : W.heap[g]? = some (.cells #[.int .i64 a, .int .i64 b] t (0, 0))) (ha : I64 a) (hb : I64 b) : Ints W (some ⟨g, 0, none⟩) [a, b] :=
  ints_block (t := t) h (fun x hx => by simp at hx; rcases hx with rfl | rfl <;> assumption)

def C1 (r : Int) (g1 g2 : Nat) : PC := lsC [] [] none 0 none 0 (lsF r [] none 0 (lsP [] none 0) g1) g2
def C2 (a b : Int) (n m g1 g2 : Nat) : PC := lsC [a, b] [0, 0] (some ⟨n, 0, none⟩) 2 (some ⟨m, 0, none⟩) 2 (lsF 1 [] none 0 (lsP [] none 0) g1) g2
def C3 (a b : Int) (n g1 g2 : Nat) : PC := lsC [] [] none 0 none 0 (lsF 1 [a, b] (some ⟨n, 0, none⟩) 2 (lsP [] none 0) g1) g2
theorem v1 (g1 g2 : Nat) : validP (C1 20000 g1 g2) = 0 := rfl
theorem v1' (g1 g2 : Nat) : validP (C1 20001 g1 g2) = 3 := rfl
theorem v2 (n m g1 g2 : Nat) : validP (C2 65535 1 n m g1 g2) = 0 := rfl
theorem v2' (n m g1 g2 : Nat) : validP (C2 65535 2 n m g1 g2) = 3 := rfl
theorem v3 (n g1 g2 : Nat) : validP (C3 1 65535 n g1 g2) = 0 := rfl
theorem v3' (n g1 g2 : Nat) : validP (C3 2 65535 n g1 g2) = 3 := rfl

theorem fin1 {g1 g2 h1 h2 bc bd : Nat} {Y : World} (h : Base g1 g2 h1 h2 bc bd Y) : Fin (C1 20000 g1 g2) (C1 20001 h1 h2) bd ((Y.setCell ⟨g2, 1, none⟩ (.int .i64 20000)).setCell ⟨h2, 1, none⟩ (.int .i64 20001)) := by
  have l1 := h.l1; have l2 := h.l2; have l3 := h.l3; have l4 := h.l4; have l5 := h.l5; have l6 := h.l6
  refine ⟨ls_ok (heap_set_other (heap_set_other h.a1 ?_) ?_) (heap_set_other (block_setCell h.a2 _) ?_) (sok_none _) Lst.nil (c64 _) (sok_none _) Lst.nil (sok_none _) Lst.nil (sok_none _) Lst.nil,
    ls_ok (heap_set_other (heap_set_other h.b1 ?_) ?_) (block_setCell (heap_set_other h.b2 ?_) _) (sok_none _) Lst.nil (c64 _) (sok_none _) Lst.nil (sok_none _) Lst.nil (sok_none _) Lst.nil,
    At.block (cs := [.slice none 0 0, .slice none 0 0, .slice (some ⟨h2, 0, none⟩) 1 1]) (heap_set_other (heap_set_other h.d ?_) ?_)⟩
  all_goals (intro e; dsimp at e; omega)

theorem fin2 {g1 g2 h1 h2 bc bd : Nat} {Y : World} (h : Base g1 g2 h1 h2 bc bd Y) : Fin (C2 65535 1 Y.heap.size (Y.heap.size + 1) g1 g2) (C2 65535 2 (Y.heap.size + 1 + 1) (Y.heap.size + 1) h1 h2) bd
    (((((((Y.setCell ⟨bc, 0, none⟩ (.slice (some ⟨Y.heap.size, 0, none⟩) 2 2)).setCell ⟨bc, 1, none⟩ (.slice (some ⟨Y.heap.size + 1, 0, none⟩) 2 2)).setCell ⟨bd, 0, none⟩ (.slice (some ⟨Y.heap.size + 1 + 1, 0, none⟩) 2 2)).setCell ⟨bd, 1, none⟩ (.slice (some ⟨Y.heap.size + 1, 0, none⟩) 2 2)).alloc (.cells #[.int .i64 65535, .int .i64 1] 3)).alloc (.cells #[.int .i64 0, .int .i64 0] 2)).alloc (.cells #[.int .i64 65535, .int .i64 2] 3)) := by
  have l1 := h.l1; have l2 := h.l2; have l3 := h.l3; have l4 := h.l4; have l5 := h.l5; have l6 := h.l6
  generalize hZ : (((Y.setCell ⟨bc, 0, none⟩ (.slice (some ⟨Y.heap.size, 0, none⟩) 2 2)).setCell ⟨bc, 1, none⟩ (.slice (some ⟨Y.heap.size + 1, 0, none⟩) 2 2)).setCell ⟨bd, 0, none⟩ (.slice (some ⟨Y.heap.size + 1 + 1, 0, none⟩) 2 2)).setCell ⟨bd, 1, none⟩ (.slice (some ⟨Y.heap.size + 1, 0, none⟩) 2 2) = Z
  have hs : Z.heap.size = Y.heap.size := by rw [← hZ]; simp
  have k : ∀ j o, Y.heap[j]? = some o → j ≠ bc → j ≠ bd → Z.heap[j]? = some o := fun j o hj n1 n2 => by
    rw [← hZ]
    exact heap_set_other (heap_set_other (heap_set_other (heap_set_other hj n1) n1) n2) n2
  have kd : Z.heap[bd]? = some (.cells #[.slice (some ⟨Y.heap.size + 1 + 1, 0, none⟩) 2 2, .slice (some ⟨Y.heap.size + 1, 0, none⟩) 2 2, .slice (some ⟨h2, 0, none⟩) 1 1] 26 (0, 0)) := by
    rw [← hZ]
    exact block_setCell (block_setCell (heap_set_other (heap_set_other h.d (by show bd ≠ bc; omega)) (by show bd ≠ bc; omega)) _) _
  have n0 : ∀ o1 o2 o3, (((Z.alloc o1).alloc o2).alloc o3).heap[Y.heap.size]? = some o1 := fun o1 o2 o3 => by rw [← hs]; exact heap_old _ (heap_old _ (heap_new _ _))
  have n1 : ∀ o1 o2 o3, (((Z.alloc o1).alloc o2).alloc o3).heap[Y.heap.size + 1]? = some o2 := fun o1 o2 o3 => by rw [← hs]; exact heap_old _ (heap_new2 _ _ _)
  have n2 : ∀ o1 o2 o3, (((Z.alloc o1).alloc o2).alloc o3).heap[Y.heap.size + 1 + 1]? = some o3 := fun o1 o2 o3 => by
    rw [← hs]
    have := heap_new2 (Z.alloc o1) o2 o3
    simpa using this
  refine ⟨ls_ok (heap_old _ (heap_old _ (heap_old _ (k _ _ h.a1 (by omega) (by omega))))) (heap_old _ (heap_old _ (heap_old _ (k _ _ h.a2 (by omega) (by omega))))) (sok_none _) Lst.nil (c64 _) (sok_none _) Lst.nil (sok2 _ _) (ints2 (n0 _ _ _) (c64 _) (c64 _)) (sok2 _ _) (ints2 (n1 _ _ _) (c64 _) (c64 _)),
    ls_ok (heap_old _ (heap_old _ (heap_old _ (k _ _ h.b1 (by omega) (by omega))))) (heap_old _ (heap_old _ (heap_old _ (k _ _ h.b2 (by omega) (by omega))))) (sok_none _) Lst.nil (c64 _) (sok_none _) Lst.nil (sok2 _ _) (ints2 (n2 _ _ _) (c64 _) (c64 _)) (sok2 _ _) (ints2 (n1 _ _ _) (c64 _) (c64 _)),
    At.block (heap_old _ (heap_old _ (heap_old _ kd)))⟩

theorem fin3 {g1 g2 h1 h2 bc bd : Nat} {Y : World} (h : Base g1 g2 h1 h2 bc bd Y) : Fin (C3 1 65535 Y.heap.size g1 g2) (C3 2 65535 (Y.heap.size + 1) h1 h2) bd
    ((((Y.setCell ⟨g2, 2, none⟩ (.slice (some ⟨Y.heap.size, 0, none⟩) 2 2)).setCell ⟨h2, 2, none⟩ (.slice (some ⟨Y.heap.size + 1, 0, none⟩) 2 2)).alloc (.cells #[.int .i64 1, .int .i64 65535] 3)).alloc (.cells #[.int .i64 2, .int .i64 65535] 3)) := by
  have l1 := h.l1; have l2 := h.l2; have l3 := h.l3; have l4 := h.l4; have l5 := h.l5; have l6 := h.l6
  generalize hZ : (Y.setCell ⟨g2, 2, none⟩ (.slice (some ⟨Y.heap.size, 0, none⟩) 2 2)).setCell ⟨h2, 2, none⟩ (.slice (some ⟨Y.heap.size + 1, 0, none⟩) 2 2) = Z
  have hs : Z.heap.size = Y.heap.size := by rw [← hZ]; simp
  have k : ∀ j o, Y.heap[j]? = some o → j ≠ g2 → j ≠ h2 → Z.heap[j]? = some o := fun j o hj n1 n2 => by
    rw [← hZ]
    exact heap_set_other (heap_set_other hj n1) n2
  have ka : Z.heap[g2]? = some (.cells #[.int .i64 0, .int .i64 1, .slice (some ⟨Y.heap.size, 0, none⟩) 2 2, .slice (some ⟨g1, 0, none⟩) 1 1] 41 (0, 0)) := by
    rw [← hZ]
    exact heap_set_other (block_setCell h.a2 _) (by show g2 ≠ h2; omega)
  have kb : Z.heap[h2]? = some (.cells #[.int .i64 0, .int .i64 1, .slice (some ⟨Y.heap.size + 1, 0, none⟩) 2 2, .slice (some ⟨h1, 0, none⟩) 1 1] 41 (0, 0)) := by
    rw [← hZ]
    exact block_setCell (heap_set_other h.b2 (by show h2 ≠ g2; omega)) _
  have n0 : ∀ o1 o2, ((Z.alloc o1).alloc o2).heap[Y.heap.size]? = some o1 := fun o1 o2 => by rw [← hs]; exact heap_old _ (heap_new _ _)
  have n1 : ∀ o1 o2, ((Z.alloc o1).alloc o2).heap[Y.heap.size + 1]? = some o2 := fun o1 o2 => by rw [← hs]; exact heap_new2 _ _ _
  refine ⟨ls_ok (heap_old _ (heap_old _ (k _ _ h.a1 (by omega) (by omega)))) (heap_old _ (heap_old _ ka)) (sok_none _) Lst.nil (c64 _) (sok2 _ _) (ints2 (n0 _ _) (c64 _) (c64 _)) (sok_none _) Lst.nil (sok_none _) Lst.nil,
    ls_ok (heap_old _ (heap_old _ (k _ _ h.b1 (by omega) (by omega)))) (heap_old _ (heap_old _ kb)) (sok_none _) Lst.nil (c64 _) (sok2 _ _) (ints2 (n1 _ _) (c64 _) (c64 _)) (sok_none _) Lst.nil (sok_none _) Lst.nil,
    At.block (cs := [.slice none 0 0, .slice none 0 0, .slice (some ⟨h2, 0, none⟩) 1 1]) (heap_old _ (heap_old _ (k _ _ h.d (by omega) (by omega))))⟩

theorem fin_q {w : World} {Y Z : World} {g1 g2 h1 h2 bc bd : Nat} (h : Base g1 g2 h1 h2 bc bd Y) (q : Q w Y) (hg : w.heap.size ≤ g1) : (∀ p u, w.heap.size ≤ p.block → Q w (Y.setCell p u)) ∧ w.heap.size ≤ g2 ∧ w.heap.size ≤ h2 ∧ w.heap.size ≤ bc ∧ w.heap.size ≤ bd := by
  have l1 := h.l1; have l2 := h.l2; have l3 := h.l3; have l4 := h.l4; have l5 := h.l5
  exact ⟨fun p u hp => q.set hp u, by omega, by omega, by omega, by omega⟩

end Go.Proofs.Ytiiggldapncknaa
