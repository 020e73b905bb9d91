/-
  The lists of a new walk are made: what each make yields: facts on the program's types; the conditions: the bound of the length.
-/
import Derived.Test.YtdiidmmmemmjjaaDoorKLvK
import Derived.Laws.MakeOwn
namespace Go.Proofs.YtdiidmmmemmjjaaDoor.Lv
open Go.RowKit
set_option linter.unusedVariables false

theorem made1 (v : Value) (N : Nat) : madeCells #[v] N = Array.replicate N v := by
  refine Array.ext (by simp [madeCells]) (fun i h1 h2 => ?_)
  simp [madeCells, Nat.mod_one]
theorem infoFr : (Tryd.prog.info? 22).map (fun i => (i.zero, i.size, i.bytes)) = some (some (.slice none 0 0), 1, 24) := by kernel_rfl
theorem infoWd : (Tryd.prog.info? 41).map (fun i => (i.zero, i.size, i.bytes)) = some (some (.slice none 0 0), 1, 24) := by kernel_rfl
theorem infoSet : (Tryd.prog.info? 43).map (fun i => (i.zero, i.size, i.bytes)) = some (some (.agg #[.slice none 0 0]), 1, 24) := by kernel_rfl
theorem infoU : (Tryd.prog.info? 78).map (fun i => (i.zero, i.size, i.bytes)) = some (some (.int .u64 0), 1, 8) := by kernel_rfl
theorem uFr : Tryd.prog.underlying 63 = some (.slice 22) := by kernel_rfl
theorem uWd : Tryd.prog.underlying 64 = some (.slice 41) := by kernel_rfl
theorem uSet : Tryd.prog.underlying 29 = some (.slice 43) := by kernel_rfl
theorem uU : Tryd.prog.underlying 65 = some (.slice 78) := by kernel_rfl

theorem make_one {t e : TypeId} {z v : Value} {y : Nat} (hu : Tryd.prog.underlying t = some (.slice e)) (hi : (Tryd.prog.info? e).map (fun i => (i.zero, i.size, i.bytes)) = some (some z, 1, y)) (hz : z.cells = #[v]) (hy : y ≤ 24) (N : Nat) (hN : N ≤ 1099511627776) (X : World) :
    (Instr.makeSlice t (.int .i64 (N : Int)) (.int .i64 (N : Int))).run Tryd.prog X = .ok (.slice (some ⟨X.heap.size, 0, none⟩) N N) (X.alloc (.cells (Array.replicate N v) e)) := by
  obtain ⟨i, hi, hzz⟩ := Option.map_eq_some_iff.1 hi
  simp only [Prod.mk.injEq] at hzz
  obtain ⟨hz0, hz1, hz2⟩ := hzz
  have h1 : i.bytes * N ≤ 24 * N := Nat.mul_le_mul_right N (by omega)
  have h2 : (i.bytes : Int) * (N : Int) ≤ 281474976710656 := by
    have : ((i.bytes * N : Nat) : Int) ≤ 281474976710656 := by omega
    simpa using this
  have := run_make (P := Tryd.prog) X t e i _ hu hi hz0 .i64 .i64 (N : Int) (N : Int) (by omega) (Int.le_refl _) h2 (by omega)
  rw [hz1] at this
  simp only [Int.toNat_natCast, Nat.mul_one, hz, made1] at this
  exact this

theorem make_fr (N : Nat) (hN : N ≤ 1099511627776) (X : World) : (Instr.makeSlice 63 (.int .i64 (N : Int)) (.int .i64 (N : Int))).run Tryd.prog X = .ok (.slice (some ⟨X.heap.size, 0, none⟩) N N) (X.alloc (.cells (Array.replicate N (.slice none 0 0)) 22)) := make_one uFr infoFr rfl (by omega) N hN X
theorem make_wd (N : Nat) (hN : N ≤ 1099511627776) (X : World) : (Instr.makeSlice 64 (.int .i64 (N : Int)) (.int .i64 (N : Int))).run Tryd.prog X = .ok (.slice (some ⟨X.heap.size, 0, none⟩) N N) (X.alloc (.cells (Array.replicate N (.slice none 0 0)) 41)) := make_one uWd infoWd rfl (by omega) N hN X
theorem make_set (N : Nat) (hN : N ≤ 1099511627776) (X : World) : (Instr.makeSlice 29 (.int .i64 (N : Int)) (.int .i64 (N : Int))).run Tryd.prog X = .ok (.slice (some ⟨X.heap.size, 0, none⟩) N N) (X.alloc (.cells (Array.replicate N (.slice none 0 0)) 43)) := make_one uSet infoSet rfl (by omega) N hN X
theorem make_u (N : Nat) (hN : N ≤ 1099511627776) (X : World) : (Instr.makeSlice 65 (.int .i64 (N : Int)) (.int .i64 (N : Int))).run Tryd.prog X = .ok (.slice (some ⟨X.heap.size, 0, none⟩) N N) (X.alloc (.cells (Array.replicate N (.int .u64 0)) 78)) := make_one uU infoU rfl (by omega) N hN X

/-- Blocks were made behind w1, each for itself. -/
structure Mk (w1 w : World) (l : List (Nat × Obj)) : Prop where
  q : Q w1 w
  at_ : ∀ p ∈ l, w1.heap.size ≤ p.1 ∧ w.heap[p.1]? = some p.2
  ne : l.Pairwise (fun a b => a.1 ≠ b.1)
theorem Mk.start (w : World) : Mk w w [] := ⟨Q.refl w, (fun p hp => by simp at hp), List.Pairwise.nil⟩
theorem Mk.step {w1 w : World} {l : List (Nat × Obj)} (h : Mk w1 w l) (cs : Array Value) (t : TypeId) : Mk w1 (w.alloc (.cells cs t)) ((w.heap.size, .cells cs t (0, 0)) :: l) := by
  refine ⟨h.q.alloc _, fun p hp => ?_, List.pairwise_cons.2 ⟨fun p hp => ?_, h.ne⟩⟩
  · rcases List.mem_cons.1 hp with rfl | hp
    · exact ⟨h.q.size, heap_alloc_new w _⟩
    · exact ⟨(h.at_ p hp).1, heap_keep ((Q.refl w).alloc _) (h.at_ p hp).2⟩
  · have := (Array.getElem?_eq_some_iff.1 (h.at_ p hp).2).1
    dsimp only
    omega
theorem Mk.perm {w1 w : World} {l l' : List (Nat × Obj)} (h : Mk w1 w l) (p : l.Perm l') : Mk w1 w l' := ⟨h.q, fun x hx => h.at_ x (p.mem_iff.2 hx), (p.pairwise_iff (fun h e => h e.symm)).1 h.ne⟩
theorem Mk.put {w1 w : World} {l1 l2 : List (Nat × Obj)} (h : Mk w1 w (l1 ++ l2)) (cs : Array Value) (t : TypeId) : Mk w1 (w.alloc (.cells cs t)) (l1 ++ (w.heap.size, .cells cs t (0, 0)) :: l2) := (h.step cs t).perm List.perm_middle.symm

end Go.Proofs.YtdiidmmmemmjjaaDoor.Lv
