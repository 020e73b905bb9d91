/-
  The program of the statement VmReckons lies in memory, and its run over the program; the conditions: an operation of two numbers, a type, two numbers of 32 bits.
-/
import Derived.Test.YtejkblbhnbbjaaaVmRa
namespace Go.Proofs.Ytejkblbhnbbjaaa
open Go.RowKit
set_option linter.unusedVariables false

abbrev rkX (w : World) (op t x y : Int) : World := (((w.alloc (.cells #[.int .u64 (Cd.pk 20 4 0 0 0 (u32 x)), .int .u64 (Cd.pk 20 4 1 0 0 (u32 y)), .int .u64 (Cd.pk op t 2 0 1 0), .int .u64 (Cd.pk 39 0 0 2 0 1), .int .u64 (Cd.pk 38 0 3 0 0 1), .int .u64 (Cd.pk 27 0 4 0 0 0), .int .u64 (Cd.pk 31 0 0 4 3 0), .int .u64 (Cd.pk 30 0 5 4 0 0), .int .u64 (Cd.pk 34 0 0 5 0 0), .int .u64 (Cd.pk 37 0 0 2 0 0)] 41)).alloc (.cells #[.int .i64 0] 3)).alloc (.cells #[.int .i64 2] 3)).alloc (.cells #[.int .i64 9] 2)
theorem s10 (a : Addr) : sok 8 (some a) 10 10 := ⟨by decide, by decide, (fun e => by cases e), by decide⟩
theorem rk_ok {w X : World} {op t x y : Int} (h1 : 1 ≤ op) (h2 : op ≤ 16) (h3 : 0 ≤ t) (h4 : t ≤ 5) (h : Q (rkX w op t x y) X) : (rkI op t x y w.heap.size).ok X := by
  have ux := u32_bd x
  have uy := u32_bd y
  have b0 : X.heap[w.heap.size]? = _ := (h.block _ (by simp; omega)).trans (heap_old _ (heap_old _ (heap_old _ (heap_new w _))))
  have b1 : X.heap[w.heap.size + 1]? = some (.cells #[.int .i64 0] 3 (0, 0)) := (h.block _ (by simp)).trans (heap_old _ (heap_old _ (heap_at (by simp))))
  have b2 : X.heap[w.heap.size + 2]? = some (.cells #[.int .i64 2] 3 (0, 0)) := (h.block _ (by simp)).trans (heap_old _ (heap_at (by simp)))
  have b3 : X.heap[w.heap.size + 3]? = some (.cells #[.int .i64 9] 2 (0, 0)) := (h.block _ (by simp)).trans (heap_at (by simp))
  refine ⟨s10 _, fun k z e => ?_, s1 _, one_lst ⟨cell_of_block b1 0, by unfold I64; omega⟩, s1 _, one_lst ⟨cell_of_block b2 0, by unfold I64; omega⟩, s1 _, one_lst ⟨cell_of_block b3 0, by unfold I64; omega⟩⟩
  match k, e with
  | 0, e => obtain rfl := Option.some.inj e; exact ⟨_, _, rfl, cell_of_block b0 0, Cd.pk_bd _ _ _ _ _ _ (by omega) (by omega) (by omega) (by omega) (by omega) ux⟩
  | 1, e => obtain rfl := Option.some.inj e; exact ⟨_, _, rfl, cell_of_block b0 1, Cd.pk_bd _ _ _ _ _ _ (by omega) (by omega) (by omega) (by omega) (by omega) uy⟩
  | 2, e => obtain rfl := Option.some.inj e; exact ⟨_, _, rfl, cell_of_block b0 2, Cd.pk_bd _ _ _ _ _ _ (by omega) (by omega) (by omega) (by omega) (by omega) (by omega)⟩
  | 3, e => obtain rfl := Option.some.inj e; exact ⟨_, _, rfl, cell_of_block b0 3, Cd.pk_bd _ _ _ _ _ _ (by omega) (by omega) (by omega) (by omega) (by omega) (by omega)⟩
  | 4, e => obtain rfl := Option.some.inj e; exact ⟨_, _, rfl, cell_of_block b0 4, Cd.pk_bd _ _ _ _ _ _ (by omega) (by omega) (by omega) (by omega) (by omega) (by omega)⟩
  | 5, e => obtain rfl := Option.some.inj e; exact ⟨_, _, rfl, cell_of_block b0 5, Cd.pk_bd _ _ _ _ _ _ (by omega) (by omega) (by omega) (by omega) (by omega) (by omega)⟩
  | 6, e => obtain rfl := Option.some.inj e; exact ⟨_, _, rfl, cell_of_block b0 6, Cd.pk_bd _ _ _ _ _ _ (by omega) (by omega) (by omega) (by omega) (by omega) (by omega)⟩
  | 7, e => obtain rfl := Option.some.inj e; exact ⟨_, _, rfl, cell_of_block b0 7, Cd.pk_bd _ _ _ _ _ _ (by omega) (by omega) (by omega) (by omega) (by omega) (by omega)⟩
  | 8, e => obtain rfl := Option.some.inj e; exact ⟨_, _, rfl, cell_of_block b0 8, Cd.pk_bd _ _ _ _ _ _ (by omega) (by omega) (by omega) (by omega) (by omega) (by omega)⟩
  | 9, e => obtain rfl := Option.some.inj e; exact ⟨_, _, rfl, cell_of_block b0 9, Cd.pk_bd _ _ _ _ _ _ (by omega) (by omega) (by omega) (by omega) (by omega) (by omega)⟩
  | k + 10, e => simp at e

abbrev R32 (x : Int) : Prop := -2147483648 ≤ x ∧ x ≤ 2147483647
theorem krun_bad (w : World) (op t x y : Int) (n : Nat) (h1 : 1 ≤ op) (h2 : op ≤ 16) (h3 : 0 ≤ t) (h4 : t ≤ 5) (hx : R32 x) (hy : R32 y) (h : (rkI op t x y n).ok w) (hd : ¬ Burin.do2 op t x y = 0) : Calls Try.prog 9 #[.agg #[.slice (some ⟨n, 0, none⟩) 10 10, .slice (some ⟨n + 1, 0, none⟩) 1 1, .slice (some ⟨n + 2, 0, none⟩) 1 1, .slice (some ⟨n + 3, 0, none⟩) 1 1], .int .i64 100] w fun e w' => ∃ ta tc, e = .returned (.tuple #[.agg #[.bool false, .int .i64 0, .int .u8 (Burin.do2 op t x y), .bool false, .int .i64 3, .slice ta 0 tc], .int .i64 0]) ∧ Q w w' := by
  refine (run_good (im := rkI op t x y n) w h 100 (by decide) (rk_form _ _ _ _ _)).mono ?_
  rintro e w' ⟨v, rfl, hp⟩
  rw [show runP (rkI op t x y n) 100 = _ from ten_bad (ten_pk h1 h2 h3 h4) (wr_u32 hx) (wr_u32 hy) h1 h2 hd] at hp
  obtain ⟨ta, tc, rfl, -, hb⟩ := hp
  exact ⟨ta, tc, rfl, hb⟩
theorem krun_good (w : World) (op t x y : Int) (n : Nat) (h1 : 1 ≤ op) (h2 : op ≤ 16) (h3 : 0 ≤ t) (h4 : t ≤ 5) (hx : R32 x) (hy : R32 y) (h : (rkI op t x y n).ok w) (hd : Burin.do2 op t x y = 0) : Calls Try.prog 9 #[.agg #[.slice (some ⟨n, 0, none⟩) 10 10, .slice (some ⟨n + 1, 0, none⟩) 1 1, .slice (some ⟨n + 2, 0, none⟩) 1 1, .slice (some ⟨n + 3, 0, none⟩) 1 1], .int .i64 100] w fun e w' => ∃ g tc, e = .returned (.tuple #[.agg #[.bool true, .int .i64 (Burin.do1 op t x y), .int .u8 0, .bool false, .int .i64 10, .slice (some ⟨g, 0, none⟩) 1 tc], .int .i64 0]) ∧ w'.cell? ⟨g, 0, none⟩ = some (.int .i64 (Burin.do1 op t x y)) ∧ Q w w' := by
  refine (run_good (im := rkI op t x y n) w h 100 (by decide) (rk_form _ _ _ _ _)).mono ?_
  rintro e w' ⟨v, rfl, hp⟩
  rw [show runP (rkI op t x y n) 100 = _ from ten_good (ten_pk h1 h2 h3 h4) (wr_u32 hx) (wr_u32 hy) h1 h2 hd] at hp
  obtain ⟨ta, tc, rfl, ho, hb⟩ := hp
  obtain ⟨g, cap, cur, e0, e1, e2, -, -⟩ := row_at (L := [Burin.do1 op t x y]) ho (n := 0) (x := Burin.do1 op t x y) rfl
  injection e0 with e0
  subst e0
  exact ⟨g, tc, rfl, (cell_of_block e1 0).trans e2, hb⟩
end Go.Proofs.Ytejkblbhnbbjaaa
