/-
  The statements of layer 25: the document's example, two outcomes alike: contracts over the program; no conditions but those that each bears.
-/
import Derived.Test.YtejkblbhnbbjaaaVmX
namespace Go.Proofs.Ytejkblbhnbbjaaa
open Go.RowKit
set_option linter.unusedVariables false

abbrev exI (n : Nat) : PIm := ⟨[Cd.pk 20 4 0 0 0 7, Cd.pk 34 0 0 0 0 0, Cd.pk 37 0 0 0 0 0], [0], [0], [], some ⟨n, 0, none⟩, 3, some ⟨n + 1, 0, none⟩, 1, some ⟨n + 2, 0, none⟩, 1, none, 0⟩
set_option maxRecDepth 100000 in
theorem ex_form (n : Nat) : formP (exI n) = true := by rfl
set_option maxRecDepth 100000 in
theorem ex_run (n : Nat) : runP (exI n) 9 = ⟨true, 7, 0, false, 3, [7]⟩ := by kernel_rfl
abbrev exW (w : World) : World := ((w.alloc (.cells #[.int .u64 (Cd.pk 20 4 0 0 0 7), .int .u64 (Cd.pk 34 0 0 0 0 0), .int .u64 (Cd.pk 37 0 0 0 0 0)] 41)).alloc (.cells #[.int .i64 0] 3)).alloc (.cells #[.int .i64 0] 3)
theorem one_lst {α : Type} {P : Nat → Nat → α → Prop} {b : Nat} {x : α} (h : P b 0 x) : Lst 1 P (some ⟨b, 0, none⟩) [x] := fun k y e => by
  cases k with
  | zero => simp at e; subst e; exact ⟨b, 0, rfl, h⟩
  | succ k => simp at e
theorem s3 (a : Addr) : sok 8 (some a) 3 3 := ⟨by decide, by decide, (fun e => by cases e), by decide⟩
theorem s1 (a : Addr) : sok 8 (some a) 1 1 := ⟨by decide, by decide, (fun e => by cases e), by decide⟩
theorem s0 : sok 8 none 0 0 := ⟨by decide, by decide, (fun _ => rfl), by decide⟩
theorem ex_ok {w X : World} (h : Q (exW w) X) : (exI w.heap.size).ok X := by
  have b0 : X.heap[w.heap.size]? = _ := (h.block _ (by simp; omega)).trans (heap_old _ (heap_old _ (heap_new w _)))
  have b1 : X.heap[w.heap.size + 1]? = some (.cells #[.int .i64 0] 3 (0, 0)) := (h.block _ (by simp)).trans (heap_old _ (heap_at (by simp)))
  have b2 : X.heap[w.heap.size + 2]? = some (.cells #[.int .i64 0] 3 (0, 0)) := (h.block _ (by simp)).trans (heap_at (by simp))
  refine ⟨s3 _, fun k x e => ?_, s1 _, one_lst ⟨cell_of_block b1 0, by unfold I64; omega⟩, s1 _, one_lst ⟨cell_of_block b2 0, by unfold I64; omega⟩, s0, fun k x e => by simp at e⟩
  match k, e with
  | 0, e => obtain rfl := Option.some.inj e; exact ⟨_, _, rfl, cell_of_block b0 0, by unfold Cd.U64 Cd.pk; omega⟩
  | 1, e => obtain rfl := Option.some.inj e; exact ⟨_, _, rfl, cell_of_block b0 1, by unfold Cd.U64 Cd.pk; omega⟩
  | 2, e => obtain rfl := Option.some.inj e; exact ⟨_, _, rfl, cell_of_block b0 2, by unfold Cd.U64 Cd.pk; omega⟩
  | k + 3, e => simp at e

set_option maxRecDepth 100000 in
set_option maxHeartbeats 2000000 in
theorem awake_any (w : World) : Calls Try.prog 8 #[] w fun e w' => e = .returned (.bool true) ∧ Q w w' := by
  have hq : Q w (exW w) := (((Q.refl w).alloc _).alloc _).alloc _
  have CW1 := hideIt (fun X => word_any 20 4 0 0 0 7 X (by decide) (by decide) (by decide) (by decide) (by decide) (by decide))
  have CW2 := hideIt (fun X => word_any 34 0 0 0 0 0 X (by decide) (by decide) (by decide) (by decide) (by decide) (by decide))
  have CW3 := hideIt (fun X => word_any 37 0 0 0 0 0 X (by decide) (by decide) (by decide) (by decide) (by decide) (by decide))
  have CR := hideIt (show ∀ X, Q (exW w) X → Calls Try.prog 9 #[.agg #[.slice (some ⟨w.heap.size, 0, none⟩) 3 3, .slice (some ⟨w.heap.size + 1, 0, none⟩) 1 1, .slice (some ⟨w.heap.size + 2, 0, none⟩) 1 1, .slice none 0 0], .int .i64 9] X fun e y => ∃ ta tc, e = .returned (.tuple #[.agg #[.bool true, .int .i64 7, .int .u8 0, .bool false, .int .i64 3, .slice ta 1 tc], .int .i64 0]) ∧ Q w y from fun X hX => by
    refine (run_good (im := exI w.heap.size) X (ex_ok hX) 9 (by omega) (ex_form _)).mono ?_
    rintro e y ⟨v, rfl, h⟩
    rw [ex_run] at h
    obtain ⟨ta, tc, rfl, -, hb⟩ := h
    exact ⟨ta, tc, rfl, (hq.trans hX).trans hb⟩)
  clear hq
  go_enter Try.func8, Try.ntmps8
  go_wp2_with (first | (go_at_call_of 12 (Value.int IntKind.u8 20); refine (CW1.out _).mono ?_; rintro e y1 ⟨rfl, rfl⟩) | (go_at_call_of 12 (Value.int IntKind.u8 34); refine (CW2.out _).mono ?_; rintro e y2 ⟨rfl, rfl⟩) | (go_at_call_of 12 (Value.int IntKind.u8 37); refine (CW3.out _).mono ?_; rintro e y3 ⟨rfl, rfl⟩) | (go_at_call 9; refine (CR.out _ ((Q.refl _).alloc _)).mono ?_; rintro e y4 ⟨ta, tc, rfl, qy⟩) | fail)
  go_ret
  exact ⟨rfl, qy.alloc _⟩
end Go.Proofs.Ytejkblbhnbbjaaa
