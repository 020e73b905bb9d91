/-
  The statement VmReckons: its walk over the program; the conditions: two bytes, two numbers of 32 bits.
-/
import Derived.Test.YtejkblbhnbbjaaaVmRb
namespace Go.Proofs.Ytejkblbhnbbjaaa
open Go.RowKit
set_option linter.unusedVariables false

set_option maxRecDepth 100000 in
set_option maxHeartbeats 4000000 in
theorem reckons_walk (a b : Nat) (x y : Int) (w : World) (ha : a ≤ 255) (hb : b ≤ 255) (hx : R32 x) (hy : R32 y) : Calls Try.prog 7 #[.int .u8 (a : Int), .int .u8 (b : Int), .int .i32 x, .int .i32 y] w fun e w' => e = .returned (.bool true) ∧ Below w.heap.size w w' := by
  have HX := hideIt hx
  have HY := hideIt hy
  have CA : Hid (∀ X, Calls Try.prog 8 #[] X fun e w' => e = .returned (.bool true) ∧ Q X w') := fun X => awake_any X
  have t1 : (a : Int).tmod 16 = ((a % 16 : Nat) : Int) := by rw [Int.tmod_eq_emod_of_nonneg (by omega)]; omega
  have t2 : (b : Int).tmod 6 = ((b % 6 : Nat) : Int) := by rw [Int.tmod_eq_emod_of_nonneg (by omega)]; omega
  have ho : a % 16 < 16 := by omega
  have ht : b % 6 < 6 := by omega
  generalize a % 16 = op at *
  generalize b % 6 = t at *
  have CD := hideIt (fun X => Nu.rdo_any (1 + (op : Int)) (t : Int) x y X (by omega))
  have CW0 : Hid (∀ X, Calls Try.prog 12 #[.int .u8 20, .int .u8 4, .int .u8 0, .int .u8 0, .int .u8 0, .int .u32 (x % 4294967296)] X fun e w' => e = .returned (.int .u64 (Cd.pk 20 4 0 0 0 (u32 x))) ∧ w' = X) := fun X => word_any 20 4 0 0 0 (u32 x) X (by decide) (by decide) (by decide) (by decide) (by decide) (u32_bd _)
  have CW1 : Hid (∀ X, Calls Try.prog 12 #[.int .u8 20, .int .u8 4, .int .u8 1, .int .u8 0, .int .u8 0, .int .u32 (y % 4294967296)] X fun e w' => e = .returned (.int .u64 (Cd.pk 20 4 1 0 0 (u32 y))) ∧ w' = X) := fun X => word_any 20 4 1 0 0 (u32 y) X (by decide) (by decide) (by decide) (by decide) (by decide) (u32_bd _)
  have CW2 : Hid (∀ X, Calls Try.prog 12 #[.int .u8 (1 + (op : Int)), .int .u8 (t : Int), .int .u8 2, .int .u8 0, .int .u8 1, .int .u32 0] X fun e w' => e = .returned (.int .u64 (Cd.pk (1 + (op : Int)) (t : Int) 2 0 1 0)) ∧ w' = X) := fun X => word_any (1 + (op : Int)) t 2 0 1 0 X (by omega) (by omega) (by decide) (by decide) (by decide) (by decide)
  have CW3 : Hid (∀ X, Calls Try.prog 12 #[.int .u8 39, .int .u8 0, .int .u8 0, .int .u8 2, .int .u8 0, .int .u32 1] X fun e w' => e = .returned (.int .u64 (Cd.pk 39 0 0 2 0 1)) ∧ w' = X) := fun X => word_any 39 0 0 2 0 1 X (by decide) (by decide) (by decide) (by decide) (by decide) (by decide)
  have CW4 : Hid (∀ X, Calls Try.prog 12 #[.int .u8 38, .int .u8 0, .int .u8 3, .int .u8 0, .int .u8 0, .int .u32 1] X fun e w' => e = .returned (.int .u64 (Cd.pk 38 0 3 0 0 1)) ∧ w' = X) := fun X => word_any 38 0 3 0 0 1 X (by decide) (by decide) (by decide) (by decide) (by decide) (by decide)
  have CW5 : Hid (∀ X, Calls Try.prog 12 #[.int .u8 27, .int .u8 0, .int .u8 4, .int .u8 0, .int .u8 0, .int .u32 0] X fun e w' => e = .returned (.int .u64 (Cd.pk 27 0 4 0 0 0)) ∧ w' = X) := fun X => word_any 27 0 4 0 0 0 X (by decide) (by decide) (by decide) (by decide) (by decide) (by decide)
  have CW6 : Hid (∀ X, Calls Try.prog 12 #[.int .u8 31, .int .u8 0, .int .u8 0, .int .u8 4, .int .u8 3, .int .u32 0] X fun e w' => e = .returned (.int .u64 (Cd.pk 31 0 0 4 3 0)) ∧ w' = X) := fun X => word_any 31 0 0 4 3 0 X (by decide) (by decide) (by decide) (by decide) (by decide) (by decide)
  have CW7 : Hid (∀ X, Calls Try.prog 12 #[.int .u8 30, .int .u8 0, .int .u8 5, .int .u8 4, .int .u8 0, .int .u32 0] X fun e w' => e = .returned (.int .u64 (Cd.pk 30 0 5 4 0 0)) ∧ w' = X) := fun X => word_any 30 0 5 4 0 0 X (by decide) (by decide) (by decide) (by decide) (by decide) (by decide)
  have CW8 : Hid (∀ X, Calls Try.prog 12 #[.int .u8 34, .int .u8 0, .int .u8 0, .int .u8 5, .int .u8 0, .int .u32 0] X fun e w' => e = .returned (.int .u64 (Cd.pk 34 0 0 5 0 0)) ∧ w' = X) := fun X => word_any 34 0 0 5 0 0 X (by decide) (by decide) (by decide) (by decide) (by decide) (by decide)
  have CW9 : Hid (∀ X, Calls Try.prog 12 #[.int .u8 37, .int .u8 0, .int .u8 0, .int .u8 2, .int .u8 0, .int .u32 0] X fun e w' => e = .returned (.int .u64 (Cd.pk 37 0 0 2 0 0)) ∧ w' = X) := fun X => word_any 37 0 0 2 0 0 X (by decide) (by decide) (by decide) (by decide) (by decide) (by decide)
  go_enter Try.func7, Try.ntmps7
  go_wp2_with (first
    | (go_at_call 8; refine (CA.out _).mono ?_; rintro e x1 ⟨rfl, q1⟩; have HQ1 := hideIt q1; clear q1)
    | fail)
  go_at_call 12
  refine (CW0.out _).mono ?_
  rintro e y0 ⟨rfl, rfl⟩
  clear CW0
  go_wp2_with (fail)
  go_at_call 12
  refine (CW1.out _).mono ?_
  rintro e y1 ⟨rfl, rfl⟩
  clear CW1
  go_wp2_with (fail)
  go_at_call 12
  refine (CW2.out _).mono ?_
  rintro e y2 ⟨rfl, rfl⟩
  clear CW2
  go_wp2_with (fail)
  go_at_call 12
  refine (CW3.out _).mono ?_
  rintro e y3 ⟨rfl, rfl⟩
  clear CW3
  go_wp2_with (fail)
  go_at_call 12
  refine (CW4.out _).mono ?_
  rintro e y4 ⟨rfl, rfl⟩
  clear CW4
  go_wp2_with (fail)
  go_at_call 12
  refine (CW5.out _).mono ?_
  rintro e y5 ⟨rfl, rfl⟩
  clear CW5
  go_wp2_with (fail)
  go_at_call 12
  refine (CW6.out _).mono ?_
  rintro e y6 ⟨rfl, rfl⟩
  clear CW6
  go_wp2_with (fail)
  go_at_call 12
  refine (CW7.out _).mono ?_
  rintro e y7 ⟨rfl, rfl⟩
  clear CW7
  go_wp2_with (fail)
  go_at_call 12
  refine (CW8.out _).mono ?_
  rintro e y8 ⟨rfl, rfl⟩
  clear CW8
  go_wp2_with (fail)
  go_at_call 12
  refine (CW9.out _).mono ?_
  rintro e y9 ⟨rfl, rfl⟩
  clear CW9
  go_wp2_with (fail)
  have h1 : (1 : Int) ≤ 1 + (op : Int) := by omega
  have h2 : 1 + (op : Int) ≤ 16 := by omega
  have h3 : (0 : Int) ≤ (t : Int) := by omega
  have h4 : (t : Int) ≤ 5 := by omega
  have FW : Hid (∀ W, (rkX y9 (1 + (op : Int)) (t : Int) x y).alloc (.cells #[.slice (some ⟨y9.heap.size, 0, none⟩) 10 10, .slice (some ⟨y9.heap.size + 1, 0, none⟩) 1 1, .slice (some ⟨y9.heap.size + 1 + 1, 0, none⟩) 1 1, .slice (some ⟨y9.heap.size + 1 + 1 + 1, 0, none⟩) 1 1] 26) = W → (rkI (1 + (op : Int)) (t : Int) x y y9.heap.size).ok W ∧ Q y9 W ∧ W.heap[y9.heap.size + 1 + 1 + 1 + 1]? = some (.cells #[.slice (some ⟨y9.heap.size, 0, none⟩) 10 10, .slice (some ⟨y9.heap.size + 1, 0, none⟩) 1 1, .slice (some ⟨y9.heap.size + 1 + 1, 0, none⟩) 1 1, .slice (some ⟨y9.heap.size + 1 + 1 + 1, 0, none⟩) 1 1] 26 (0, 0))) := by
    rintro W rfl
    exact ⟨rk_ok h1 h2 h3 h4 ((Q.refl _).alloc _), (((((Q.refl y9).alloc _).alloc _).alloc _).alloc _).alloc _, heap_at (by simp)⟩
  generalize hW : (rkX y9 (1 + (op : Int)) (t : Int) x y).alloc (.cells #[.slice (some ⟨y9.heap.size, 0, none⟩) 10 10, .slice (some ⟨y9.heap.size + 1, 0, none⟩) 1 1, .slice (some ⟨y9.heap.size + 1 + 1, 0, none⟩) 1 1, .slice (some ⟨y9.heap.size + 1 + 1 + 1, 0, none⟩) 1 1] 26) = W
  have HW := hideIt (FW.out W hW)
  have CG : Hid (Burin.do2 (1 + (op : Int)) t x y = 0 → ∀ X, Q W X → _) := fun hd X hX => krun_good X (1 + (op : Int)) t x y y9.heap.size h1 h2 h3 h4 HX.out HY.out (HW.out.1.keep hX) hd
  have CB : Hid (¬ Burin.do2 (1 + (op : Int)) t x y = 0 → ∀ X, Q W X → _) := fun hd X hX => krun_bad X (1 + (op : Int)) t x y y9.heap.size h1 h2 h3 h4 HX.out HY.out (HW.out.1.keep hX) hd
  have bd := hideIt (Burin.do2_bd (1 + (op : Int)) t x y)
  clear FW hW
  generalize hd2 : Burin.do2 (1 + (op : Int)) t x y = d2 at *
  generalize hd1 : Burin.do1 (1 + (op : Int)) t x y = d1 at *
  clear hd1 hd2
  go_at_call 13
  refine Calls.mono (CD.out W) ?_
  rintro e v ⟨rfl, q2⟩
  have q2' : Q W v := q2
  have HV := hideIt q2'
  have b3 := (q2'.block _ (lt_of_some HW.out.2.2)).trans HW.out.2.2
  have v0 := cell_of_block b3 0
  have v1 := cell_of_block b3 1
  have v2 := cell_of_block b3 2
  have v3 := cell_of_block b3 3
  clear q2 q2' b3 CD
  by_cases hd : d2 = 0
  · have CR := hideIt (CG.out hd v HV.out)
    subst hd
    clear CG CB
    go_wp2_with (first
      | (go_at_call 9; refine CR.out.mono ?_; rintro e z ⟨g, tc, rfl, hc, q3⟩; have HZ := hideIt (HV.out.trans q3); have hcz := fun ob => cell_keep ((Q.refl z).alloc ob) hc; clear hc q3)
      | fail)
    go_ret
    exact ⟨rfl, HQ1.out.trans (HW.out.2.1.trans (HZ.out.alloc _))⟩
  · have CR := hideIt (CB.out hd v HV.out)
    have hdn : (d2 != 0) = true := by simpa using hd
    have hb1 := bd.out
    clear CG CB
    go_wp2_with (first
      | (go_at_call 9; refine CR.out.mono ?_; rintro e z ⟨ta, tc, rfl, q3⟩; have HZ := hideIt (HV.out.trans q3); clear q3)
      | fail)
    go_ret
    exact ⟨by first | rfl | simp, HQ1.out.trans (HW.out.2.1.trans (HZ.out.alloc _))⟩

end Go.Proofs.Ytejkblbhnbbjaaa
