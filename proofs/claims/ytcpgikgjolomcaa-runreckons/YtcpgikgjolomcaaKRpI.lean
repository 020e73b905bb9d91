/-
  The statement RunReckons: its walk over the program; the conditions: two bytes, two numbers.
-/
import Derived.Test.YtcpgikgjolomcaaKRpH
namespace Go.Proofs.Ytcpgikgjolomcaa
open Go.RowKit
set_option linter.unusedVariables false

set_option maxRecDepth 100000 in
set_option maxHeartbeats 4000000 in
theorem reckons_walk (a b : Nat) (x y : Int) (w : World) (ha : a ≤ 255) (hb : b ≤ 255) (hx : I64 x) (hy : I64 y) : Calls Try.prog 7 #[.int .u8 (a : Int), .int .u8 (b : Int), .int .i64 x, .int .i64 y] w fun e w' => e = .returned (.bool true) ∧ Below w.heap.size w w' := by
  have HX := hideIt hx
  have HY := hideIt hy
  clear hx hy
  have CA : Hid (∀ X, Calls Try.prog 8 #[] X fun e w' => e = .returned (.bool true) ∧ Q X w') := fun X => awake_any X
  have t1 : (a : Int).tmod 16 = ((a % 16 : Nat) : Int) := by rw [Int.tmod_eq_emod_of_nonneg (by omega)]; omega
  have t2 : (b : Int).tmod 6 = ((b % 6 : Nat) : Int) := by rw [Int.tmod_eq_emod_of_nonneg (by omega)]; omega
  have ho : a % 16 < 16 := by omega
  have ht : b % 6 < 6 := by omega
  generalize a % 16 = op at *
  generalize b % 6 = t at *
  have CD := hideIt (fun X => Nu.rdo_any (1 + (op : Int)) (t : Int) x y X (by omega))
  go_enter Try.func7, Try.ntmps7
  go_wp2_with (first
    | (go_at_call 8; refine (CA.out _).mono ?_; rintro e x1 ⟨rfl, q1⟩; have HQ1 := hideIt q1; clear q1)
    | fail)
  have h1 : (1 : Int) ≤ 1 + (op : Int) := by omega
  have h2 : 1 + (op : Int) ≤ 16 := by omega
  have h3 : (0 : Int) ≤ (t : Int) := by omega
  have h4 : (t : Int) ≤ 5 := by omega
  have FW : Hid (∀ W, ((((((x1.alloc (.cells #[.int .u8 20, .int .u8 0, .int .i64 0, .int .i64 0, .int .i64 0, .int .i64 x, .slice none 0 0, .int .u8 20, .int .u8 0, .int .i64 1, .int .i64 0, .int .i64 0, .int .i64 y, .slice none 0 0, .int .u8 (1 + (op : Int)), .int .u8 (t : Int), .int .i64 2, .int .i64 0, .int .i64 1, .int .i64 0, .slice none 0 0, .int .u8 26, .int .u8 0, .int .i64 3, .int .i64 0, .int .i64 0, .int .i64 0, .slice none 0 0, .int .u8 29, .int .u8 0, .int .i64 3, .int .i64 3, .int .i64 0, .int .i64 1, .slice none 0 0, .int .u8 31, .int .u8 0, .int .i64 0, .int .i64 3, .int .i64 2, .int .i64 0, .slice none 0 0, .int .u8 30, .int .u8 0, .int .i64 4, .int .i64 3, .int .i64 0, .int .i64 0, .slice none 0 0, .int .u8 33, .int .u8 0, .int .i64 0, .int .i64 4, .int .i64 0, .int .i64 0, .slice none 0 0] 42)).alloc (.cells #[.slice (some ⟨x1.heap.size, 0, none⟩) 8 8, .bool true, .int .i64 2, .int .i64 0, .int .i64 0] 45)).alloc (.cells #[.int .i64 2] 3)).alloc (.cells #[.slice (some ⟨x1.heap.size, 0, none⟩) 8 8, .bool true, .int .i64 2, .int .i64 0, .int .i64 0] 45)).alloc (.cells #[.int .i64 0, .int .i64 5, .slice (some ⟨x1.heap.size + 1 + 1, 0, none⟩) 1 1, .slice (some ⟨x1.heap.size + 1 + 1 + 1, 0, none⟩) 1 1] 48)).alloc (.cells #[.slice none 0 0, .slice none 0 0, .slice (some ⟨x1.heap.size + 1 + 1 + 1 + 1, 0, none⟩) 1 1] 26)) = W → (rC (1 + (op : Int)) t x y x1.heap.size (x1.heap.size + 1 + 1) (x1.heap.size + 1 + 1 + 1) (x1.heap.size + 1 + 1 + 1 + 1)).ok W ∧ Q x1 W ∧ W.heap[x1.heap.size + 1 + 1 + 1 + 1 + 1]? = some (.cells #[.slice none 0 0, .slice none 0 0, .slice (some ⟨x1.heap.size + 1 + 1 + 1 + 1, 0, none⟩) 1 1] 26 (0, 0))) := by
    rintro W rfl
    refine ⟨rC_ok h1 h2 h3 h4 HX.out HY.out (heap_old _ (heap_old _ (heap_old _ (heap_old _ (heap_old _ (heap_at (by simp))))))) (heap_old _ (heap_old _ (heap_old _ (heap_at (by simp))))) (heap_old _ (heap_old _ (heap_at (by simp)))) (heap_old _ (heap_at (by simp))), (((((((Q.refl x1).alloc _).alloc _).alloc _).alloc _).alloc _).alloc _), heap_at (by simp)⟩
  generalize hW : ((((((x1.alloc (.cells #[.int .u8 20, .int .u8 0, .int .i64 0, .int .i64 0, .int .i64 0, .int .i64 x, .slice none 0 0, .int .u8 20, .int .u8 0, .int .i64 1, .int .i64 0, .int .i64 0, .int .i64 y, .slice none 0 0, .int .u8 (1 + (op : Int)), .int .u8 (t : Int), .int .i64 2, .int .i64 0, .int .i64 1, .int .i64 0, .slice none 0 0, .int .u8 26, .int .u8 0, .int .i64 3, .int .i64 0, .int .i64 0, .int .i64 0, .slice none 0 0, .int .u8 29, .int .u8 0, .int .i64 3, .int .i64 3, .int .i64 0, .int .i64 1, .slice none 0 0, .int .u8 31, .int .u8 0, .int .i64 0, .int .i64 3, .int .i64 2, .int .i64 0, .slice none 0 0, .int .u8 30, .int .u8 0, .int .i64 4, .int .i64 3, .int .i64 0, .int .i64 0, .slice none 0 0, .int .u8 33, .int .u8 0, .int .i64 0, .int .i64 4, .int .i64 0, .int .i64 0, .slice none 0 0] 42)).alloc (.cells #[.slice (some ⟨x1.heap.size, 0, none⟩) 8 8, .bool true, .int .i64 2, .int .i64 0, .int .i64 0] 45)).alloc (.cells #[.int .i64 2] 3)).alloc (.cells #[.slice (some ⟨x1.heap.size, 0, none⟩) 8 8, .bool true, .int .i64 2, .int .i64 0, .int .i64 0] 45)).alloc (.cells #[.int .i64 0, .int .i64 5, .slice (some ⟨x1.heap.size + 1 + 1, 0, none⟩) 1 1, .slice (some ⟨x1.heap.size + 1 + 1 + 1, 0, none⟩) 1 1] 48)).alloc (.cells #[.slice none 0 0, .slice none 0 0, .slice (some ⟨x1.heap.size + 1 + 1 + 1 + 1, 0, none⟩) 1 1] 26)) = W
  have HW := hideIt (FW.out W hW)
  have CG : Hid (Burin.do2 (1 + (op : Int)) t x y = 0 → ∀ X, Q W X → _) := fun hd X hX => rrun_good X (1 + (op : Int)) t x y x1.heap.size (x1.heap.size + 1 + 1) (x1.heap.size + 1 + 1 + 1) (x1.heap.size + 1 + 1 + 1 + 1) h1 h2 h3 h4 (HW.out.1.keep hX) hd
  have CB : Hid (¬ Burin.do2 (1 + (op : Int)) t x y = 0 → ∀ X, Q W X → _) := fun hd X hX => rrun_bad X (1 + (op : Int)) t x y x1.heap.size (x1.heap.size + 1 + 1) (x1.heap.size + 1 + 1 + 1) (x1.heap.size + 1 + 1 + 1 + 1) h1 h2 h3 h4 (HW.out.1.keep hX) hd
  have bd := hideIt (Burin.do2_bd (1 + (op : Int)) t x y)
  clear FW hW
  generalize hd2 : Burin.do2 (1 + (op : Int)) t x y = d2 at *
  generalize hd1 : Burin.do1 (1 + (op : Int)) t x y = d1 at *
  clear hd1 hd2
  go_at_call 12
  refine Calls.mono (CD.out W) ?_
  rintro e v ⟨rfl, q2⟩
  have q2' : Q W v := q2
  have HV := hideIt q2'
  have b3 := (q2'.block _ (Me.lt_of_some HW.out.2.2)).trans HW.out.2.2
  have v0 := Me.cell_of_block b3 0
  have v1 := Me.cell_of_block b3 1
  have v2 := Me.cell_of_block b3 2
  clear q2 q2' b3
  by_cases hd : d2 = 0
  · have CR := hideIt (CG.out hd v HV.out)
    subst hd
    clear CG CB
    go_wp2_with (first
      | (go_at_call 9; refine CR.out.mono ?_; rintro e z ⟨g, tc, rfl, hc, q3⟩; have HZ := hideIt (HV.out.trans q3); have hcz := fun ob => cell_keep ((Q.refl z).alloc ob) hc; clear hc q3)
      | fail)
    go_ret
    exact ⟨rfl, HQ1.out.trans (HW.out.2.1.trans (HZ.out.alloc _))⟩
  · have CR := hideIt (CB.out hd v HV.out)
    have hdn : (d2 != 0) = true := by simpa using hd
    have hb1 := bd.out
    clear CG CB
    go_wp2_with (first
      | (go_at_call 9; refine CR.out.mono ?_; rintro e z ⟨ta, tc, rfl, q3⟩; have HZ := hideIt (HV.out.trans q3); clear q3)
      | fail)
    go_ret
    exact ⟨by first | rfl | simp, HQ1.out.trans (HW.out.2.1.trans (HZ.out.alloc _))⟩

end Go.Proofs.Ytcpgikgjolomcaa
