/-
  What divide, shift and Do return: contracts over the program, for every operation's and type's number and every two values of 64 bits.
-/
import Derived.Test.YtejkblbhnbbjaaaNuBaseC
import Derived.Deep.RegionWith
namespace Go.Proofs.Ytejkblbhnbbjaaa.Nu
open Go.RowKit
open Burin
set_option linter.unusedVariables false

set_option maxHeartbeats 400000 in
theorem divide_any (op t a b : Int) (w : World) (h0 : 0 ≤ t) (ho : op = 4 ∨ op = 5) (a1 : -2147483648 ≤ a) (a2 : a ≤ 4294967295) (b1 : -2147483648 ≤ b) (b2 : b ≤ 4294967295) :
    Calls Try.prog 60 #[.int .u8 op, .int .u8 t, .int .i64 a, .int .i64 b] w fun e w' => e = .returned (.tuple #[.int .i64 (div1 op t a b), .int .u8 (div2 t a b)]) ∧ Q w w' := by
  by_cases hz : b = 0
  · have e1 : div1 op t a b = 0 := by simp [div1, hz]
    have e2 : div2 t a b = 2 := by simp [div2, hz]
    rw [e1, e2]
    have hk : (b == 0) = true := by simpa using hz
    clear e1 e2 hz ho
    go_enter Try.func60, Try.ntmps60
    go_wp2
    go_ret2
    exact ⟨rfl, Q.refl _⟩
  · have hk : (b == 0) = false := by simpa using hz
    obtain ⟨p1, p2⟩ := tdiv_bd a b (by omega) (by omega)
    obtain ⟨r1, r2⟩ := mtdiv_bd a b (by omega) (by omega)
    cases hf : fit t (a.tdiv b) with
    | false =>
      have e1 : div1 op t a b = 0 := by simp [div1, hz, hf]
      have e2 : div2 t a b = 1 := by simp [div2, hz, hf]
      rw [e1, e2]
      have HF : Hid (fit t (a.tdiv b) = false) := hf
      clear e1 e2 ho hf
      go_enter Try.func60, Try.ntmps60
      go_wp2_with (go_at_call 64; refine (fits_any _ _ _ (by omega)).mono ?_; rw [HF.out]; rintro e x2 ⟨rfl, q2⟩)
      go_ret2
      exact ⟨rfl, q2⟩
    | true =>
      have e2 : div2 t a b = 0 := by simp [div2, hz, hf]
      rw [e2]
      rcases ho with rfl | rfl
      · have e1 : div1 4 t a b = a.tdiv b := by simp [div1, hz, hf]
        rw [e1]
        have HF : Hid (fit t (a.tdiv b) = true) := hf
        clear e1 e2 hf
        go_enter Try.func60, Try.ntmps60
        go_wp2_with (go_at_call 64; refine (fits_any _ _ _ (by omega)).mono ?_; rw [HF.out]; rintro e x2 ⟨rfl, q2⟩)
        go_ret2
        exact ⟨rfl, q2⟩
      · have e1 : div1 5 t a b = a - b * a.tdiv b := by simp [div1, hz, hf]
        rw [e1]
        have HF : Hid (fit t (a.tdiv b) = true) := hf
        clear e1 e2 hf
        go_enter Try.func60, Try.ntmps60
        go_wp2_with (go_at_call 64; refine (fits_any _ _ _ (by omega)).mono ?_; rw [HF.out]; rintro e x2 ⟨rfl, q2⟩)
        go_ret2
        exact ⟨rfl, q2⟩

set_option maxHeartbeats 400000 in
theorem shr_any (t a c : Int) (w : World) (h0 : 0 ≤ t) (a1 : -2147483648 ≤ a) (a2 : a ≤ 4294967295) :
    Calls Try.prog 58 #[.int .u8 10, .int .u8 t, .int .i64 a, .int .i64 c] w fun e w' => e = .returned (.tuple #[.int .i64 (shr1 t a c), .int .u8 (shr2 t c)]) ∧ Q w w' := by
  by_cases hc : c < 0
  · have e1 : shr1 t a c = 0 := by simp [shr1, hc]
    have e2 : shr2 t c = 3 := by simp [shr2, hc]
    rw [e1, e2]
    have hd : decide (c < 0) = true := by simpa using hc
    clear e1 e2
    go_enter Try.func58, Try.ntmps58
    go_wp2
    go_ret2
    exact ⟨rfl, Q.refl _⟩
  · have hd : decide (c < 0) = false := by simpa using hc
    have hw := wid_le t
    by_cases hv : wid t ≤ c
    · have e1 : shr1 t a c = 0 := by simp [shr1, hv]
      have e2 : shr2 t c = 3 := by simp [shr2, hv]
      rw [e1, e2]
      generalize hx : wid t = x at *
      have HX : Hid (wid t = x) := hx
      clear e1 e2 hx
      go_enter Try.func58, Try.ntmps58
      go_wp2_with (go_at_call 62; refine (width_any _ _ (by omega)).mono ?_; rw [HX.out]; rintro e x2 ⟨rfl, rfl⟩)
      go_ret2
      exact ⟨rfl, Q.refl _⟩
    · have e1 : shr1 t a c = a / 2 ^ c.toNat := by simp [shr1, hv, hc]
      have e2 : shr2 t c = 0 := by simp [shr2, hv, hc]
      rw [e1, e2]
      generalize hx : wid t = x at *
      have HX : Hid (wid t = x) := hx
      clear e1 e2 hx
      go_enter Try.func58, Try.ntmps58
      go_wp2_with (go_at_call 62; refine (width_any _ _ (by omega)).mono ?_; rw [HX.out]; rintro e x2 ⟨rfl, rfl⟩)
      go_ret2
      exact ⟨rfl, Q.refl _⟩

set_option maxHeartbeats 400000 in
theorem shl_any (t a c : Int) (w : World) (h0 : 0 ≤ t) (a1 : -2147483648 ≤ a) (a2 : a ≤ 4294967295) :
    Calls Try.prog 58 #[.int .u8 9, .int .u8 t, .int .i64 a, .int .i64 c] w fun e w' => e = .returned (.tuple #[.int .i64 (shl1 t a c), .int .u8 (shl2 t a c)]) ∧ Q w w' := by
  by_cases hc : c < 0
  · have e1 : shl1 t a c = 0 := by simp [shl1, hc]
    have e2 : shl2 t a c = 3 := by simp [shl2, hc]
    rw [e1, e2]
    have hd : decide (c < 0) = true := by simpa using hc
    clear e1 e2
    go_enter Try.func58, Try.ntmps58
    go_wp2
    go_ret2
    exact ⟨rfl, Q.refl _⟩
  · have hd : decide (c < 0) = false := by simpa using hc
    have hw := wid_le t
    by_cases hv : wid t ≤ c
    · have e1 : shl1 t a c = 0 := by simp [shl1, hv]
      have e2 : shl2 t a c = 3 := by simp [shl2, hv]
      rw [e1, e2]
      generalize hx : wid t = x at *
      have HX : Hid (wid t = x) := hx
      clear e1 e2 hx
      go_enter Try.func58, Try.ntmps58
      go_wp2_with (go_at_call 62; refine (width_any _ _ (by omega)).mono ?_; rw [HX.out]; rintro e x2 ⟨rfl, rfl⟩)
      go_ret2
      exact ⟨rfl, Q.refl _⟩
    · have e1 : shl1 t a c = keep1 t (a * 2 ^ c.toNat) := by simp [shl1, hv, hc]
      have e2 : shl2 t a c = keep2 t (a * 2 ^ c.toNat) := by simp [shl2, hv, hc]
      rw [e1, e2]
      generalize hx : wid t = x at *
      have HX : Hid (wid t = x) := hx
      clear e1 e2 hx
      have pb := pow_bd c (by omega) (by omega)
      have mb := mul_pow_bd a _ a1 a2 pb.1 pb.2
      go_enter Try.func58, Try.ntmps58
      go_wp2_with (first | (go_at_call 62; refine (width_any _ _ (by omega)).mono ?_; rw [HX.out]; rintro e x2 ⟨rfl, rfl⟩) | (go_at_call 59; refine (settle_any _ _ _ (by omega)).mono ?_; rintro e x3 ⟨rfl, q3⟩))
      go_ret2
      exact ⟨rfl, q3⟩

set_option maxHeartbeats 400000 in
theorem do_1 (t a b : Int) (w : World) (h0 : 0 ≤ t) (h5 : t ≤ 5) :
    Calls Try.prog 54 #[.int .u8 1, .int .u8 t, .int .i64 a, .int .i64 b] w fun e w' => e = .returned (.tuple #[.int .i64 (do1 1 t a b), .int .u8 (do2 1 t a b)]) ∧ Q w w' := by
  have hb : decide (t ≤ 5) = true := by simpa using h5
  obtain ⟨x1, x2⟩ := wr_bd t a
  obtain ⟨y1, y2⟩ := wr_bd t b
  have n6 : ¬ 6 ≤ t := by omega
  have e1 : do1 1 t a b = keep1 t (wr t a + wr t b) := by simp [do1, n6]
  have e2 : do2 1 t a b = keep2 t (wr t a + wr t b) := by simp [do2, n6]
  rw [e1, e2]
  clear e1 e2
  generalize hx : wr t a = x at *
  generalize hy : wr t b = y at *
  have HA : Hid (wr t a = x) := hx
  have HB : Hid (wr t b = y) := hy
  clear hx hy
  go_enter Try.func54, Try.ntmps54
  go_wp2_with (first | (go_at_call 45; refine (form_any _ _).mono ?_; rw [hb]; rintro e x0 ⟨rfl, rfl⟩) | (go_at_call_of 49 (Value.int IntKind.i64 a); refine (wrap_any _ _ _ (by omega)).mono ?_; rw [HA.out]; rintro e x1 ⟨rfl, rfl⟩) | (go_at_call_of 49 (Value.int IntKind.i64 b); refine (wrap_any _ _ _ (by omega)).mono ?_; rw [HB.out]; rintro e x1 ⟨rfl, rfl⟩) | (go_at_call 59; refine (settle_any _ _ _ (by omega)).mono ?_; rintro e x3 ⟨rfl, q3⟩))
  go_ret2
  exact ⟨rfl, q3⟩

set_option maxHeartbeats 400000 in
theorem do_2 (t a b : Int) (w : World) (h0 : 0 ≤ t) (h5 : t ≤ 5) :
    Calls Try.prog 54 #[.int .u8 2, .int .u8 t, .int .i64 a, .int .i64 b] w fun e w' => e = .returned (.tuple #[.int .i64 (do1 2 t a b), .int .u8 (do2 2 t a b)]) ∧ Q w w' := by
  have hb : decide (t ≤ 5) = true := by simpa using h5
  obtain ⟨x1, x2⟩ := wr_bd t a
  obtain ⟨y1, y2⟩ := wr_bd t b
  have n6 : ¬ 6 ≤ t := by omega
  have e1 : do1 2 t a b = keep1 t (wr t a - wr t b) := by simp [do1, n6]
  have e2 : do2 2 t a b = keep2 t (wr t a - wr t b) := by simp [do2, n6]
  rw [e1, e2]
  clear e1 e2
  generalize hx : wr t a = x at *
  generalize hy : wr t b = y at *
  have HA : Hid (wr t a = x) := hx
  have HB : Hid (wr t b = y) := hy
  clear hx hy
  go_enter Try.func54, Try.ntmps54
  go_wp2_with (first | (go_at_call 45; refine (form_any _ _).mono ?_; rw [hb]; rintro e x0 ⟨rfl, rfl⟩) | (go_at_call_of 49 (Value.int IntKind.i64 a); refine (wrap_any _ _ _ (by omega)).mono ?_; rw [HA.out]; rintro e x1 ⟨rfl, rfl⟩) | (go_at_call_of 49 (Value.int IntKind.i64 b); refine (wrap_any _ _ _ (by omega)).mono ?_; rw [HB.out]; rintro e x1 ⟨rfl, rfl⟩) | (go_at_call 59; refine (settle_any _ _ _ (by omega)).mono ?_; rintro e x3 ⟨rfl, q3⟩))
  go_ret2
  exact ⟨rfl, q3⟩

set_option maxHeartbeats 400000 in
theorem do_3 (t a b : Int) (w : World) (h0 : 0 ≤ t) (h5 : t ≤ 5) :
    Calls Try.prog 54 #[.int .u8 3, .int .u8 t, .int .i64 a, .int .i64 b] w fun e w' => e = .returned (.tuple #[.int .i64 (do1 3 t a b), .int .u8 (do2 3 t a b)]) ∧ Q w w' := by
  have hb : decide (t ≤ 5) = true := by simpa using h5
  obtain ⟨x1, x2⟩ := wr_bd t a
  obtain ⟨y1, y2⟩ := wr_bd t b
  have n6 : ¬ 6 ≤ t := by omega
  have e1 : do1 3 t a b = keep1 t (wr t a * wr t b) := by simp [do1, n6]
  have e2 : do2 3 t a b = keep2 t (wr t a * wr t b) := by simp [do2, n6]
  rw [e1, e2]
  clear e1 e2
  have M1 : Hid (keep1 t (wrap64 (wr t a * wr t b)) = keep1 t (wr t a * wr t b)) := keep1_mul t a b h0
  have M2 : Hid (keep2 t (wrap64 (wr t a * wr t b)) = keep2 t (wr t a * wr t b)) := keep2_mul t a b h0
  generalize hx : wr t a = x at *
  generalize hy : wr t b = y at *
  have HA : Hid (wr t a = x) := hx
  have HB : Hid (wr t b = y) := hy
  clear hx hy
  go_enter Try.func54, Try.ntmps54
  go_wp2_with (first | (go_at_call 45; refine (form_any _ _).mono ?_; rw [hb]; rintro e x0 ⟨rfl, rfl⟩) | (go_at_call_of 49 (Value.int IntKind.i64 a); refine (wrap_any _ _ _ (by omega)).mono ?_; rw [HA.out]; rintro e x1 ⟨rfl, rfl⟩) | (go_at_call_of 49 (Value.int IntKind.i64 b); refine (wrap_any _ _ _ (by omega)).mono ?_; rw [HB.out]; rintro e x1 ⟨rfl, rfl⟩) | (go_at_call 59; refine (settle_any _ _ _ (by omega)).mono ?_; rw [M1.out, M2.out]; rintro e x3 ⟨rfl, q3⟩))
  go_ret2
  exact ⟨rfl, q3⟩

set_option maxHeartbeats 400000 in
theorem do_4 (t a b : Int) (w : World) (h0 : 0 ≤ t) (h5 : t ≤ 5) :
    Calls Try.prog 54 #[.int .u8 4, .int .u8 t, .int .i64 a, .int .i64 b] w fun e w' => e = .returned (.tuple #[.int .i64 (do1 4 t a b), .int .u8 (do2 4 t a b)]) ∧ Q w w' := by
  have hb : decide (t ≤ 5) = true := by simpa using h5
  obtain ⟨x1, x2⟩ := wr_bd t a
  obtain ⟨y1, y2⟩ := wr_bd t b
  have n6 : ¬ 6 ≤ t := by omega
  have e1 : do1 4 t a b = div1 4 t (wr t a) (wr t b) := by simp [do1, n6]
  have e2 : do2 4 t a b = div2 t (wr t a) (wr t b) := by simp [do2, n6]
  rw [e1, e2]
  clear e1 e2
  generalize hx : wr t a = x at *
  generalize hy : wr t b = y at *
  have HA : Hid (wr t a = x) := hx
  have HB : Hid (wr t b = y) := hy
  clear hx hy
  go_enter Try.func54, Try.ntmps54
  go_wp2_with (first | (go_at_call 45; refine (form_any _ _).mono ?_; rw [hb]; rintro e x0 ⟨rfl, rfl⟩) | (go_at_call_of 49 (Value.int IntKind.i64 a); refine (wrap_any _ _ _ (by omega)).mono ?_; rw [HA.out]; rintro e x1 ⟨rfl, rfl⟩) | (go_at_call_of 49 (Value.int IntKind.i64 b); refine (wrap_any _ _ _ (by omega)).mono ?_; rw [HB.out]; rintro e x1 ⟨rfl, rfl⟩) | (go_at_call 60; refine (divide_any _ _ _ _ _ (by omega) (by omega) (by omega) (by omega) (by omega) (by omega)).mono ?_; rintro e x3 ⟨rfl, q3⟩))
  go_ret2
  exact ⟨rfl, q3⟩

set_option maxHeartbeats 400000 in
theorem do_5 (t a b : Int) (w : World) (h0 : 0 ≤ t) (h5 : t ≤ 5) :
    Calls Try.prog 54 #[.int .u8 5, .int .u8 t, .int .i64 a, .int .i64 b] w fun e w' => e = .returned (.tuple #[.int .i64 (do1 5 t a b), .int .u8 (do2 5 t a b)]) ∧ Q w w' := by
  have hb : decide (t ≤ 5) = true := by simpa using h5
  obtain ⟨x1, x2⟩ := wr_bd t a
  obtain ⟨y1, y2⟩ := wr_bd t b
  have n6 : ¬ 6 ≤ t := by omega
  have e1 : do1 5 t a b = div1 5 t (wr t a) (wr t b) := by simp [do1, n6]
  have e2 : do2 5 t a b = div2 t (wr t a) (wr t b) := by simp [do2, n6]
  rw [e1, e2]
  clear e1 e2
  generalize hx : wr t a = x at *
  generalize hy : wr t b = y at *
  have HA : Hid (wr t a = x) := hx
  have HB : Hid (wr t b = y) := hy
  clear hx hy
  go_enter Try.func54, Try.ntmps54
  go_wp2_with (first | (go_at_call 45; refine (form_any _ _).mono ?_; rw [hb]; rintro e x0 ⟨rfl, rfl⟩) | (go_at_call_of 49 (Value.int IntKind.i64 a); refine (wrap_any _ _ _ (by omega)).mono ?_; rw [HA.out]; rintro e x1 ⟨rfl, rfl⟩) | (go_at_call_of 49 (Value.int IntKind.i64 b); refine (wrap_any _ _ _ (by omega)).mono ?_; rw [HB.out]; rintro e x1 ⟨rfl, rfl⟩) | (go_at_call 60; refine (divide_any _ _ _ _ _ (by omega) (by omega) (by omega) (by omega) (by omega) (by omega)).mono ?_; rintro e x3 ⟨rfl, q3⟩))
  go_ret2
  exact ⟨rfl, q3⟩

set_option maxHeartbeats 400000 in
theorem do_6 (t a b : Int) (w : World) (h0 : 0 ≤ t) (h5 : t ≤ 5) :
    Calls Try.prog 54 #[.int .u8 6, .int .u8 t, .int .i64 a, .int .i64 b] w fun e w' => e = .returned (.tuple #[.int .i64 (do1 6 t a b), .int .u8 (do2 6 t a b)]) ∧ Q w w' := by
  have hb : decide (t ≤ 5) = true := by simpa using h5
  obtain ⟨x1, x2⟩ := wr_bd t a
  obtain ⟨y1, y2⟩ := wr_bd t b
  have n6 : ¬ 6 ≤ t := by omega
  have e1 : do1 6 t a b = bits .and .i64 (wr t a) (wr t b) := by simp [do1, n6]
  have e2 : do2 6 t a b = 0 := by simp [do2, n6]
  rw [e1, e2]
  clear e1 e2
  generalize hx : wr t a = x at *
  generalize hy : wr t b = y at *
  have HA : Hid (wr t a = x) := hx
  have HB : Hid (wr t b = y) := hy
  clear hx hy
  go_enter Try.func54, Try.ntmps54
  go_wp2_with (first | (go_at_call 45; refine (form_any _ _).mono ?_; rw [hb]; rintro e x0 ⟨rfl, rfl⟩) | (go_at_call_of 49 (Value.int IntKind.i64 a); refine (wrap_any _ _ _ (by omega)).mono ?_; rw [HA.out]; rintro e x1 ⟨rfl, rfl⟩) | (go_at_call_of 49 (Value.int IntKind.i64 b); refine (wrap_any _ _ _ (by omega)).mono ?_; rw [HB.out]; rintro e x1 ⟨rfl, rfl⟩))
  go_ret2
  exact ⟨rfl, Q.refl _⟩

set_option maxHeartbeats 400000 in
theorem do_7 (t a b : Int) (w : World) (h0 : 0 ≤ t) (h5 : t ≤ 5) :
    Calls Try.prog 54 #[.int .u8 7, .int .u8 t, .int .i64 a, .int .i64 b] w fun e w' => e = .returned (.tuple #[.int .i64 (do1 7 t a b), .int .u8 (do2 7 t a b)]) ∧ Q w w' := by
  have hb : decide (t ≤ 5) = true := by simpa using h5
  obtain ⟨x1, x2⟩ := wr_bd t a
  obtain ⟨y1, y2⟩ := wr_bd t b
  have n6 : ¬ 6 ≤ t := by omega
  have e1 : do1 7 t a b = bits .or .i64 (wr t a) (wr t b) := by simp [do1, n6]
  have e2 : do2 7 t a b = 0 := by simp [do2, n6]
  rw [e1, e2]
  clear e1 e2
  generalize hx : wr t a = x at *
  generalize hy : wr t b = y at *
  have HA : Hid (wr t a = x) := hx
  have HB : Hid (wr t b = y) := hy
  clear hx hy
  go_enter Try.func54, Try.ntmps54
  go_wp2_with (first | (go_at_call 45; refine (form_any _ _).mono ?_; rw [hb]; rintro e x0 ⟨rfl, rfl⟩) | (go_at_call_of 49 (Value.int IntKind.i64 a); refine (wrap_any _ _ _ (by omega)).mono ?_; rw [HA.out]; rintro e x1 ⟨rfl, rfl⟩) | (go_at_call_of 49 (Value.int IntKind.i64 b); refine (wrap_any _ _ _ (by omega)).mono ?_; rw [HB.out]; rintro e x1 ⟨rfl, rfl⟩))
  go_ret2
  exact ⟨rfl, Q.refl _⟩

set_option maxHeartbeats 400000 in
theorem do_8 (t a b : Int) (w : World) (h0 : 0 ≤ t) (h5 : t ≤ 5) :
    Calls Try.prog 54 #[.int .u8 8, .int .u8 t, .int .i64 a, .int .i64 b] w fun e w' => e = .returned (.tuple #[.int .i64 (do1 8 t a b), .int .u8 (do2 8 t a b)]) ∧ Q w w' := by
  have hb : decide (t ≤ 5) = true := by simpa using h5
  obtain ⟨x1, x2⟩ := wr_bd t a
  obtain ⟨y1, y2⟩ := wr_bd t b
  have n6 : ¬ 6 ≤ t := by omega
  have e1 : do1 8 t a b = bits .xor .i64 (wr t a) (wr t b) := by simp [do1, n6]
  have e2 : do2 8 t a b = 0 := by simp [do2, n6]
  rw [e1, e2]
  clear e1 e2
  generalize hx : wr t a = x at *
  generalize hy : wr t b = y at *
  have HA : Hid (wr t a = x) := hx
  have HB : Hid (wr t b = y) := hy
  clear hx hy
  go_enter Try.func54, Try.ntmps54
  go_wp2_with (first | (go_at_call 45; refine (form_any _ _).mono ?_; rw [hb]; rintro e x0 ⟨rfl, rfl⟩) | (go_at_call_of 49 (Value.int IntKind.i64 a); refine (wrap_any _ _ _ (by omega)).mono ?_; rw [HA.out]; rintro e x1 ⟨rfl, rfl⟩) | (go_at_call_of 49 (Value.int IntKind.i64 b); refine (wrap_any _ _ _ (by omega)).mono ?_; rw [HB.out]; rintro e x1 ⟨rfl, rfl⟩))
  go_ret2
  exact ⟨rfl, Q.refl _⟩

set_option maxHeartbeats 400000 in
theorem do_9 (t a b : Int) (w : World) (h0 : 0 ≤ t) (h5 : t ≤ 5) :
    Calls Try.prog 54 #[.int .u8 9, .int .u8 t, .int .i64 a, .int .i64 b] w fun e w' => e = .returned (.tuple #[.int .i64 (do1 9 t a b), .int .u8 (do2 9 t a b)]) ∧ Q w w' := by
  have hb : decide (t ≤ 5) = true := by simpa using h5
  obtain ⟨x1, x2⟩ := wr_bd t a
  obtain ⟨y1, y2⟩ := wr_bd t b
  have n6 : ¬ 6 ≤ t := by omega
  have e1 : do1 9 t a b = shl1 t (wr t a) b := by simp [do1, n6]
  have e2 : do2 9 t a b = shl2 t (wr t a) b := by simp [do2, n6]
  rw [e1, e2]
  clear e1 e2
  generalize hx : wr t a = x at *
  generalize hy : wr t b = y at *
  have HA : Hid (wr t a = x) := hx
  have HB : Hid (wr t b = y) := hy
  clear hx hy
  go_enter Try.func54, Try.ntmps54
  go_wp2_with (first | (go_at_call 45; refine (form_any _ _).mono ?_; rw [hb]; rintro e x0 ⟨rfl, rfl⟩) | (go_at_call_of 49 (Value.int IntKind.i64 a); refine (wrap_any _ _ _ (by omega)).mono ?_; rw [HA.out]; rintro e x1 ⟨rfl, rfl⟩) | (go_at_call_of 49 (Value.int IntKind.i64 b); refine (wrap_any _ _ _ (by omega)).mono ?_; rw [HB.out]; rintro e x1 ⟨rfl, rfl⟩) | (go_at_call 58; refine (shl_any _ _ _ _ (by omega) (by omega) (by omega)).mono ?_; rintro e x3 ⟨rfl, q3⟩))
  go_ret2
  exact ⟨rfl, q3⟩

set_option maxHeartbeats 400000 in
theorem do_10 (t a b : Int) (w : World) (h0 : 0 ≤ t) (h5 : t ≤ 5) :
    Calls Try.prog 54 #[.int .u8 10, .int .u8 t, .int .i64 a, .int .i64 b] w fun e w' => e = .returned (.tuple #[.int .i64 (do1 10 t a b), .int .u8 (do2 10 t a b)]) ∧ Q w w' := by
  have hb : decide (t ≤ 5) = true := by simpa using h5
  obtain ⟨x1, x2⟩ := wr_bd t a
  obtain ⟨y1, y2⟩ := wr_bd t b
  have n6 : ¬ 6 ≤ t := by omega
  have e1 : do1 10 t a b = shr1 t (wr t a) b := by simp [do1, n6]
  have e2 : do2 10 t a b = shr2 t b := by simp [do2, n6]
  rw [e1, e2]
  clear e1 e2
  generalize hx : wr t a = x at *
  generalize hy : wr t b = y at *
  have HA : Hid (wr t a = x) := hx
  have HB : Hid (wr t b = y) := hy
  clear hx hy
  go_enter Try.func54, Try.ntmps54
  go_wp2_with (first | (go_at_call 45; refine (form_any _ _).mono ?_; rw [hb]; rintro e x0 ⟨rfl, rfl⟩) | (go_at_call_of 49 (Value.int IntKind.i64 a); refine (wrap_any _ _ _ (by omega)).mono ?_; rw [HA.out]; rintro e x1 ⟨rfl, rfl⟩) | (go_at_call_of 49 (Value.int IntKind.i64 b); refine (wrap_any _ _ _ (by omega)).mono ?_; rw [HB.out]; rintro e x1 ⟨rfl, rfl⟩) | (go_at_call 58; refine (shr_any _ _ _ _ (by omega) (by omega) (by omega)).mono ?_; rintro e x3 ⟨rfl, q3⟩))
  go_ret2
  exact ⟨rfl, q3⟩

end Go.Proofs.Ytejkblbhnbbjaaa.Nu
