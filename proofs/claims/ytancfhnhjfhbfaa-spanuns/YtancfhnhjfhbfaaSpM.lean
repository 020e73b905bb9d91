/-
  Boxes of arrays of eight numbers and of two, and what they hold; calls whose world is told both ways; joined spans. No conditions but those that each fact bears.
-/
import Derived.Test.YtancfhnhjfhbfaaSpL
import Derived.Test.YtancfhnhjfhbfaaSpH
set_option linter.unusedVariables false
namespace Burin
theorem jo_wi (al ah bl bh : Int) (h1 : al ≤ ah) (h2 : bl ≤ bh) : Wi al ah (joL al ah bl bh) (joH al ah bl bh) := by
  have e1 : nonB al ah = false := by unfold nonB; simp; omega
  have e2 : nonB bl bh = false := by unfold nonB; simp; omega
  unfold joL joH
  rw [e1, e2]
  exact ⟨h1, by simp; omega, by simp; omega⟩
theorem jo_in (t al ah bl bh : Int) (h1 : al ≤ ah) (h2 : bl ≤ bh) (a1 : low t ≤ al) (a2 : ah ≤ high t) (b1 : low t ≤ bl) (b2 : bh ≤ high t) : low t ≤ joL al ah bl bh ∧ joH al ah bl bh ≤ high t := by
  have e1 : nonB al ah = false := by unfold nonB; simp; omega
  have e2 : nonB bl bh = false := by unfold nonB; simp; omega
  unfold joL joH
  rw [e1, e2]
  simp
  omega
end Burin
namespace Go.Proofs.Ytancfhnhjfhbfaa
open Go.RowKit
open Burin
set_option linter.unusedVariables false

abbrev bx8 (w : World) (a0 a1 a2 a3 a4 a5 a6 a7 : Int) : World := w.alloc (.cells #[.int .i64 a0, .int .i64 a1, .int .i64 a2, .int .i64 a3, .int .i64 a4, .int .i64 a5, .int .i64 a6, .int .i64 a7] 52)
theorem arr8 {w x : World} {a0 a1 a2 a3 a4 a5 a6 a7 : Int} (q : Q (bx8 w a0 a1 a2 a3 a4 a5 a6 a7) x) : x.cell? ⟨w.heap.size, 0, none⟩ = some (.int .i64 a0) ∧ x.cell? ⟨w.heap.size, 1, none⟩ = some (.int .i64 a1) ∧ x.cell? ⟨w.heap.size, 2, none⟩ = some (.int .i64 a2) ∧ x.cell? ⟨w.heap.size, 3, none⟩ = some (.int .i64 a3) ∧ x.cell? ⟨w.heap.size, 4, none⟩ = some (.int .i64 a4) ∧ x.cell? ⟨w.heap.size, 5, none⟩ = some (.int .i64 a5) ∧ x.cell? ⟨w.heap.size, 6, none⟩ = some (.int .i64 a6) ∧ x.cell? ⟨w.heap.size, 7, none⟩ = some (.int .i64 a7) := by
  have k : (bx8 w a0 a1 a2 a3 a4 a5 a6 a7).heap[w.heap.size]? = some (.cells #[.int .i64 a0, .int .i64 a1, .int .i64 a2, .int .i64 a3, .int .i64 a4, .int .i64 a5, .int .i64 a6, .int .i64 a7] 52 (0, 0)) := heap_new _ _
  exact ⟨keepc q ((cell_blk k 0).trans rfl), keepc q ((cell_blk k 1).trans rfl), keepc q ((cell_blk k 2).trans rfl), keepc q ((cell_blk k 3).trans rfl), keepc q ((cell_blk k 4).trans rfl), keepc q ((cell_blk k 5).trans rfl), keepc q ((cell_blk k 6).trans rfl), keepc q ((cell_blk k 7).trans rfl)⟩
abbrev bxa (w : World) (a b : Int) : World := w.alloc (.cells #[.int .i64 a, .int .i64 b] 48)
theorem arr2c {w x : World} {a b : Int} (q : Q (bxa w a b) x) : x.cell? ⟨w.heap.size, 0, none⟩ = some (.int .i64 a) ∧ x.cell? ⟨w.heap.size, 1, none⟩ = some (.int .i64 b) := by
  have k : (bxa w a b).heap[w.heap.size]? = some (.cells #[.int .i64 a, .int .i64 b] 48 (0, 0)) := heap_new _ _
  exact ⟨keepc q ((cell_blk k 0).trans rfl), keepc q ((cell_blk k 1).trans rfl)⟩
theorem keepf {w x : World} {p : Addr} {v : Value} (q : Q w x) (h : w.cell? p = some v) (f : w.frozen? p = false) : x.frozen? p = false := by
  have hb := World.block_lt_of_cell? w p h
  have e : x.heap[p.block]? = w.heap[p.block]? := Below.block q p.block hb
  unfold World.frozen? at *
  rw [e]
  exact f
/-- A call that only makes memory, told from its own world and from an elder one. -/
theorem heldB {P : Program} {K : Nat} {args : Array Value} {B : World} {v : Value} (H : ∀ x, Calls P K args x fun e w' => e = .returned v ∧ Q x w') :
    ∀ x, Q B x → Calls P K args x fun e w' => e = .returned v ∧ Q x w' ∧ Q B w' :=
  fun x p => (H x).mono fun e w' ⟨h, q⟩ => ⟨h, q, p.trans q⟩
theorem q_set {B z : World} {n : Nat} (h : Q B z) (hn : B.heap.size ≤ n) (u v : Value) : Q B ((z.setCell ⟨n, 0, none⟩ u).setCell ⟨n, 1, none⟩ v) :=
  Below.setCell (Below.setCell h (p := ⟨n, 0, none⟩) hn _) (p := ⟨n, 1, none⟩) hn _

end Go.Proofs.Ytancfhnhjfhbfaa
