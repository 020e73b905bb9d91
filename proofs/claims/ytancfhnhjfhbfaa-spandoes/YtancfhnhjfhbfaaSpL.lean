/-
  Boxes of arrays and of spans, and what they hold behind calls that only make memory; no conditions but those that each fact bears.
-/
import Derived.Test.YtancfhnhjfhbfaaSpK
set_option linter.unusedVariables false
namespace Go.Proofs.Ytancfhnhjfhbfaa
open Go.RowKit
open Burin
set_option linter.unusedVariables false

theorem keepc {w x : World} (q : Q w x) {p : Addr} {v : Value} (h : w.cell? p = some v) : x.cell? p = some v := (Below.cell q (World.block_lt_of_cell? w p h)).trans h
abbrev bx4 (w : World) (a b c d : Int) : World := w.alloc (.cells #[.int .i64 a, .int .i64 b, .int .i64 c, .int .i64 d] 41)
theorem arr4 {w x : World} {a b c d : Int} (q : Q (bx4 w a b c d) x) : x.cell? ⟨w.heap.size, 0, none⟩ = some (.int .i64 a) ∧ x.cell? ⟨w.heap.size, 1, none⟩ = some (.int .i64 b) ∧ x.cell? ⟨w.heap.size, 2, none⟩ = some (.int .i64 c) ∧ x.cell? ⟨w.heap.size, 3, none⟩ = some (.int .i64 d) := by
  have k : (bx4 w a b c d).heap[w.heap.size]? = some (.cells #[.int .i64 a, .int .i64 b, .int .i64 c, .int .i64 d] 41 (0, 0)) := heap_new _ _
  exact ⟨keepc q ((cell_blk k 0).trans rfl), keepc q ((cell_blk k 1).trans rfl), keepc q ((cell_blk k 2).trans rfl), keepc q ((cell_blk k 3).trans rfl)⟩
theorem tm40 (c : Int) (h : I64 c) : -9223372036854775808 ≤ c.tmod 40 ∧ c.tmod 40 ≤ 9223372036854775807 := by
  obtain ⟨h1, h2⟩ := h
  have k : (c.tmod 40).natAbs < 40 := by
    rw [Int.natAbs_tmod]
    exact Nat.mod_lt _ (by decide)
  omega
theorem Q.bx {w x : World} (q : Q w x) (l r : Int) : Q w (bx x l r) := Q.alloc q _
theorem Q.lt {w x : World} (q : Q w x) : w.heap.size ≤ x.heap.size := Below.size q

theorem Q.nebx {x y : World} {l r : Int} (q : Q (Go.Proofs.Ytancfhnhjfhbfaa.bx x l r) y) : ¬y.heap.size = x.heap.size := by
  have h := q.lt
  rw [bx_size] at h
  omega
/-- A call that only makes memory, where three spans lie in boxes. -/
theorem heldF {P : Program} {K : Nat} {args : Array Value} {B : World} {F : World → Prop} {v : Value} (hF : ∀ y, Q B y → F y) (H : ∀ x, Calls P K args x fun e w' => e = .returned v ∧ Q x w') :
    ∀ x, Q B x → Calls P K args x fun e w' => e = .returned v ∧ Q B w' ∧ F w' :=
  fun x p => (H x).mono fun e w' ⟨h, q⟩ => ⟨h, p.trans q, hF _ (p.trans q)⟩

/-- A span's box is written: what it holds, and what another box holds. -/
theorem set_two {x : World} {b c : Nat} {l r : Int} {u0 u1 v0 v1 : Value} (hb0 : x.cell? ⟨b, 0, none⟩ = some u0) (hb1 : x.cell? ⟨b, 1, none⟩ = some u1) (hn : ¬b = c) (hc0 : x.cell? ⟨c, 0, none⟩ = some v0) (hc1 : x.cell? ⟨c, 1, none⟩ = some v1) :
    ((x.setCell ⟨b, 0, none⟩ (.int .i64 l)).setCell ⟨b, 1, none⟩ (.int .i64 r)).cell? ⟨c, 0, none⟩ = some v0 ∧ ((x.setCell ⟨b, 0, none⟩ (.int .i64 l)).setCell ⟨b, 1, none⟩ (.int .i64 r)).cell? ⟨c, 1, none⟩ = some v1 ∧
    ((x.setCell ⟨b, 0, none⟩ (.int .i64 l)).setCell ⟨b, 1, none⟩ (.int .i64 r)).cell? ⟨b, 0, none⟩ = some (.int .i64 l) ∧ ((x.setCell ⟨b, 0, none⟩ (.int .i64 l)).setCell ⟨b, 1, none⟩ (.int .i64 r)).cell? ⟨b, 1, none⟩ = some (.int .i64 r) := by
  have n1 : (⟨b, 0, none⟩ : Addr) ≠ ⟨b, 1, none⟩ := by intro h; cases h
  refine ⟨?_, ?_, ?_, ?_⟩
  · rw [World.cell?_setCell_far _ _ _ _ hn, World.cell?_setCell_far _ _ _ _ hn, hc0]
  · rw [World.cell?_setCell_far _ _ _ _ hn, World.cell?_setCell_far _ _ _ _ hn, hc1]
  · rw [World.cell?_setCell_other _ _ _ _ n1.symm]
    exact World.cell?_setCell_same _ _ _ hb0
  · refine World.cell?_setCell_same _ _ _ (u := u1) ?_
    rw [World.cell?_setCell_other _ _ _ _ n1]
    exact hb1

/-- A box that was made later is written: what lay ahead is as it was. -/
theorem set_low {B x y : World} {l r : Int} {l' r' : Int} (hB : Q B (bx x l r)) (q : Q (bx x l r) y) (hx : B.heap.size ≤ x.heap.size) : Q B ((y.setCell ⟨x.heap.size, 0, none⟩ (.int .i64 l')).setCell ⟨x.heap.size, 1, none⟩ (.int .i64 r')) :=
  Below.setCell (Below.setCell (hB.trans q) (p := ⟨x.heap.size, 0, none⟩) hx _) (p := ⟨x.heap.size, 1, none⟩) hx _

end Go.Proofs.Ytancfhnhjfhbfaa
