/-
  What cut and within of the statements of layer 10 return: contracts over the program.
-/
import Derived.Test.YtancfhnhjfhbfaaSpI
import Derived.Test.YtancfhnhjfhbfaaSpG
set_option linter.unusedVariables false
namespace Burin
open Go
def ctL (t x y : Int) : Int := min (wr t x) (wr t y)
def ctH (t x y : Int) : Int := max (wr t x) (wr t y)
def wiP (l r k : Int) : Int := if k % 4 = 0 then l else if k % 4 = 1 then r else l + (k / 4) % (r - l + 1)
theorem wiP_bd (l r k : Int) (h : l ≤ r) (h0 : 0 ≤ k) : l ≤ wiP l r k ∧ wiP l r k ≤ r := by
  unfold wiP
  have k1 := Int.emod_nonneg (k / 4) (show r - l + 1 ≠ 0 by omega)
  have k2 := Int.emod_lt_of_pos (k / 4) (show 0 < r - l + 1 by omega)
  (repeat' split) <;> omega
theorem ct_bd (t x y : Int) (h0 : 0 ≤ t) (h5 : t ≤ 5) : low t ≤ ctL t x y ∧ ctL t x y ≤ ctH t x y ∧ ctH t x y ≤ high t := by
  have k1 := wr_fit t x h0 h5
  have k2 := wr_fit t y h0 h5
  unfold ctL ctH
  omega
end Burin
namespace Go.Proofs.Ytancfhnhjfhbfaa
open Go.RowKit
open Burin
set_option linter.unusedVariables false

set_option maxHeartbeats 400000 in
theorem cut_any (t x y : Int) (w : World) (h0 : 0 ≤ t) (h1 : t ≤ 255) :
    Calls Try.prog 24 #[.int .u8 t, .int .i64 x, .int .i64 y] w fun e w' => e = .returned (.agg #[.int .i64 (ctL t x y), .int .i64 (ctH t x y)]) ∧ Q w w' := by
  have HX : Hid (∀ u, Calls Try.prog 27 #[.int .i64 t, .int .i64 x] u fun e w' => e = .returned (.int .i64 (wr t x)) ∧ Q u w') := fun u => rwrap_any t x u h0
  have HY : Hid (∀ u, Calls Try.prog 27 #[.int .i64 t, .int .i64 y] u fun e w' => e = .returned (.int .i64 (wr t y)) ∧ Q u w') := fun u => rwrap_any t y u h0
  unfold ctL ctH
  generalize wr t x = a at *
  generalize wr t y = b at *
  have R := hideIt (Q.refl (bx w 0 0))
  rcases Int.lt_or_le b a with u1 | u1
  · have e1 : min a b = b := by omega
    have e2 : max a b = a := by omega
    rw [e1, e2]
    clear e1 e2
    have d1 : decide (b < a) = true := by simp; omega
    go_enter Try.func24, Try.ntmps24
    go_wp2_with (first | (go_at_call_of 27 (Value.int IntKind.i64 x); refine (HX.out _).mono ?_; rintro e x1 ⟨rfl, q1⟩; have R := hideIt (R.out.trans q1); clear q1) | (go_at_call_of 27 (Value.int IntKind.i64 y); refine (HY.out _).mono ?_; rintro e x2 ⟨rfl, q2⟩; have R := hideIt (R.out.trans q2); clear q2; obtain ⟨c0, c1⟩ := R.out.c2; have f0 := frz_blk (sp1 R.out) 0; have f1 := frz_blk (sp1 R.out) 1))
    exact bodyPost_ret (v := spV b a) (by simp [results, Try.results24, go_sem, c0, c1]) rfl ⟨rfl, q_set1 R.out _ _⟩
  · have e1 : min a b = a := by omega
    have e2 : max a b = b := by omega
    rw [e1, e2]
    clear e1 e2
    have d1 : decide (b < a) = false := by simp; omega
    go_enter Try.func24, Try.ntmps24
    go_wp2_with (first | (go_at_call_of 27 (Value.int IntKind.i64 x); refine (HX.out _).mono ?_; rintro e x1 ⟨rfl, q1⟩; have R := hideIt (R.out.trans q1); clear q1) | (go_at_call_of 27 (Value.int IntKind.i64 y); refine (HY.out _).mono ?_; rintro e x2 ⟨rfl, q2⟩; have R := hideIt (R.out.trans q2); clear q2; obtain ⟨c0, c1⟩ := R.out.c2; have f0 := frz_blk (sp1 R.out) 0; have f1 := frz_blk (sp1 R.out) 1))
    exact bodyPost_ret (v := spV a b) (by simp [results, Try.results24, go_sem, c0, c1]) rfl ⟨rfl, q_set1 R.out _ _⟩

set_option maxHeartbeats 400000 in
theorem within_any (l r k : Int) (w : World) (hl : nb l) (hr : nb r) (hlr : l ≤ r) (k0 : 0 ≤ k) (k1 : k ≤ 4294967295) :
    Calls Try.prog 26 #[.agg #[.int .i64 l, .int .i64 r], .int .u32 k] w fun e w' => e = .returned (.int .i64 (wiP l r k)) ∧ Q w w' := by
  obtain ⟨l1, l2⟩ := hl
  obtain ⟨r1, r2⟩ := hr
  have W := hideIt (show wiP l r k = if k % 4 = 0 then l else if k % 4 = 1 then r else l + (k / 4) % (r - l + 1) from rfl)
  rw [W.out]
  by_cases c0 : k % 4 = 0
  · rw [if_pos c0]
    have d0 : (k % 4 == 0) = true := by simpa using c0
    go_enter Try.func26, Try.ntmps26
    go_wp2
    go_ret
    exact ⟨rfl, (Q.refl _).alloc _⟩
  rw [if_neg c0]
  by_cases c1 : k % 4 = 1
  · rw [if_pos c1]
    have d0 : (k % 4 == 0) = false := by simpa using c0
    have d1 : (k % 4 == 1) = true := by simpa using c1
    go_enter Try.func26, Try.ntmps26
    go_wp2
    go_ret
    exact ⟨rfl, (Q.refl _).alloc _⟩
  rw [if_neg c1]
  have d0 : (k % 4 == 0) = false := by simpa using c0
  have d1 : (k % 4 == 1) = false := by simpa using c1
  have e1 : IntKind.u64.wrap (IntKind.u64.wrap r - IntKind.u64.wrap l) = r - l := by simp [IntKind.wrap_u64]; omega
  have e2 : IntKind.u64.wrap (r - l + 1) = r - l + 1 := by simp [IntKind.wrap_u64]; omega
  have e3 : (r - l + 1 == 0) = false := by simp; omega
  have k2 := Int.emod_nonneg (k / 4) (show r - l + 1 ≠ 0 by omega)
  have k3 := Int.emod_lt_of_pos (k / 4) (show 0 < r - l + 1 by omega)
  generalize hm : (k / 4) % (r - l + 1) = m at *
  have e4 : IntKind.i64.wrap m = m := by simp [IntKind.wrap_i64]; omega
  have e5 : IntKind.i64.wrap (l + m) = l + m := by simp [IntKind.wrap_i64]; omega
  have e6 : IntKind.u64.wrap m = m := by simp [IntKind.wrap_u64]; omega
  have e7 : IntKind.u64.wrap (k / 4) = k / 4 := by simp [IntKind.wrap_u64]; omega
  have e8 : IntKind.u32.wrap (k / 4) = k / 4 := by simp [IntKind.wrap_u32]; omega
  go_enter Try.func26, Try.ntmps26
  go_wp2
  go_quiet (fail)
  go_wp2
  go_ret
  exact ⟨rfl, below_drewN ((Q.refl w).alloc _) _⟩

end Go.Proofs.Ytancfhnhjfhbfaa
