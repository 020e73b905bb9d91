/-
  What divide, shift and Do return: contracts over the program, for every operation's and type's number and every two values of 64 bits.
  What Do and Un return, and the document's answer for Un: contracts over the program, for every operation's and type's number and all values of 64 bits.
-/
import Derived.Test.YtnlgkiejppgfjaaKNuBaseC
import Derived.Deep.RegionWith
namespace Go.Proofs.Ytnlgkiejppgfjaa.Nu
open Go.RowKit
open Burin
set_option linter.unusedVariables false

set_option maxHeartbeats 400000 in
theorem divide_any (op t a b : Int) (w : World) (h0 : 0 ≤ t) (ho : op = 4 ∨ op = 5) (a1 : -2147483648 ≤ a) (a2 : a ≤ 4294967295) (b1 : -2147483648 ≤ b) (b2 : b ≤ 4294967295) :
    Calls Try.prog 60 #[.int .u8 op, .int .u8 t, .int .i64 a, .int .i64 b] w fun e w' => e = .returned (.tuple #[.int .i64 (div1 op t a b), .int .u8 (div2 t a b)]) ∧ Q w w' := by
  by_cases hz : b = 0
  · have e1 : div1 op t a b = 0 := by simp [div1, hz]
    have e2 : div2 t a b = 2 := by simp [div2, hz]
    rw [e1, e2]
    have hk : (b == 0) = true := by simpa using hz
    clear e1 e2 hz ho
    go_enter Try.func60, Try.ntmps60
    go_wp2
    go_ret2
    exact ⟨rfl, Q.refl _⟩
  · have hk : (b == 0) = false := by simpa using hz
    obtain ⟨p1, p2⟩ := tdiv_bd a b (by omega) (by omega)
    obtain ⟨r1, r2⟩ := mtdiv_bd a b (by omega) (by omega)
    cases hf : fit t (a.tdiv b) with
    | false =>
      have e1 : div1 op t a b = 0 := by simp [div1, hz, hf]
      have e2 : div2 t a b = 1 := by simp [div2, hz, hf]
      rw [e1, e2]
      have HF : Hid (fit t (a.tdiv b) = false) := hf
      clear e1 e2 ho hf
      go_enter Try.func60, Try.ntmps60
      go_wp2_with (go_at_call 64; refine (fits_any _ _ _ (by omega)).mono ?_; rw [HF.out]; rintro e x2 ⟨rfl, q2⟩)
      go_ret2
      exact ⟨rfl, q2⟩
    | true =>
      have e2 : div2 t a b = 0 := by simp [div2, hz, hf]
      rw [e2]
      rcases ho with rfl | rfl
      · have e1 : div1 4 t a b = a.tdiv b := by simp [div1, hz, hf]
        rw [e1]
        have HF : Hid (fit t (a.tdiv b) = true) := hf
        clear e1 e2 hf
        go_enter Try.func60, Try.ntmps60
        go_wp2_with (go_at_call 64; refine (fits_any _ _ _ (by omega)).mono ?_; rw [HF.out]; rintro e x2 ⟨rfl, q2⟩)
        go_ret2
        exact ⟨rfl, q2⟩
      · have e1 : div1 5 t a b = a - b * a.tdiv b := by simp [div1, hz, hf]
        rw [e1]
        have HF : Hid (fit t (a.tdiv b) = true) := hf
        clear e1 e2 hf
        go_enter Try.func60, Try.ntmps60
        go_wp2_with (go_at_call 64; refine (fits_any _ _ _ (by omega)).mono ?_; rw [HF.out]; rintro e x2 ⟨rfl, q2⟩)
        go_ret2
        exact ⟨rfl, q2⟩

set_option maxHeartbeats 400000 in
theorem shr_any (t a c : Int) (w : World) (h0 : 0 ≤ t) (a1 : -2147483648 ≤ a) (a2 : a ≤ 4294967295) :
    Calls Try.prog 58 #[.int .u8 10, .int .u8 t, .int .i64 a, .int .i64 c] w fun e w' => e = .returned (.tuple #[.int .i64 (shr1 t a c), .int .u8 (shr2 t c)]) ∧ Q w w' := by
  by_cases hc : c < 0
  · have e1 : shr1 t a c = 0 := by simp [shr1, hc]
    have e2 : shr2 t c = 3 := by simp [shr2, hc]
    rw [e1, e2]
    have hd : decide (c < 0) = true := by simpa using hc
    clear e1 e2
    go_enter Try.func58, Try.ntmps58
    go_wp2
    go_ret2
    exact ⟨rfl, Q.refl _⟩
  · have hd : decide (c < 0) = false := by simpa using hc
    have hw := wid_le t
    by_cases hv : wid t ≤ c
    · have e1 : shr1 t a c = 0 := by simp [shr1, hv]
      have e2 : shr2 t c = 3 := by simp [shr2, hv]
      rw [e1, e2]
      generalize hx : wid t = x at *
      have HX : Hid (wid t = x) := hx
      clear e1 e2 hx
      go_enter Try.func58, Try.ntmps58
      go_wp2_with (go_at_call 62; refine (width_any _ _ (by omega)).mono ?_; rw [HX.out]; rintro e x2 ⟨rfl, rfl⟩)
      go_ret2
      exact ⟨rfl, Q.refl _⟩
    · have e1 : shr1 t a c = a / 2 ^ c.toNat := by simp [shr1, hv, hc]
      have e2 : shr2 t c = 0 := by simp [shr2, hv, hc]
      rw [e1, e2]
      generalize hx : wid t = x at *
      have HX : Hid (wid t = x) := hx
      clear e1 e2 hx
      go_enter Try.func58, Try.ntmps58
      go_wp2_with (go_at_call 62; refine (width_any _ _ (by omega)).mono ?_; rw [HX.out]; rintro e x2 ⟨rfl, rfl⟩)
      go_ret2
      exact ⟨rfl, Q.refl _⟩

set_option maxHeartbeats 400000 in
theorem shl_any (t a c : Int) (w : World) (h0 : 0 ≤ t) (a1 : -2147483648 ≤ a) (a2 : a ≤ 4294967295) :
    Calls Try.prog 58 #[.int .u8 9, .int .u8 t, .int .i64 a, .int .i64 c] w fun e w' => e = .returned (.tuple #[.int .i64 (shl1 t a c), .int .u8 (shl2 t a c)]) ∧ Q w w' := by
  by_cases hc : c < 0
  · have e1 : shl1 t a c = 0 := by simp [shl1, hc]
    have e2 : shl2 t a c = 3 := by simp [shl2, hc]
    rw [e1, e2]
    have hd : decide (c < 0) = true := by simpa using hc
    clear e1 e2
    go_enter Try.func58, Try.ntmps58
    go_wp2
    go_ret2
    exact ⟨rfl, Q.refl _⟩
  · have hd : decide (c < 0) = false := by simpa using hc
    have hw := wid_le t
    by_cases hv : wid t ≤ c
    · have e1 : shl1 t a c = 0 := by simp [shl1, hv]
      have e2 : shl2 t a c = 3 := by simp [shl2, hv]
      rw [e1, e2]
      generalize hx : wid t = x at *
      have HX : Hid (wid t = x) := hx
      clear e1 e2 hx
      go_enter Try.func58, Try.ntmps58
      go_wp2_with (go_at_call 62; refine (width_any _ _ (by omega)).mono ?_; rw [HX.out]; rintro e x2 ⟨rfl, rfl⟩)
      go_ret2
      exact ⟨rfl, Q.refl _⟩
    · have e1 : shl1 t a c = keep1 t (a * 2 ^ c.toNat) := by simp [shl1, hv, hc]
      have e2 : shl2 t a c = keep2 t (a * 2 ^ c.toNat) := by simp [shl2, hv, hc]
      rw [e1, e2]
      generalize hx : wid t = x at *
      have HX : Hid (wid t = x) := hx
      clear e1 e2 hx
      have pb := pow_bd c (by omega) (by omega)
      have mb := mul_pow_bd a _ a1 a2 pb.1 pb.2
      go_enter Try.func58, Try.ntmps58
      go_wp2_with (first | (go_at_call 62; refine (width_any _ _ (by omega)).mono ?_; rw [HX.out]; rintro e x2 ⟨rfl, rfl⟩) | (go_at_call 59; refine (settle_any _ _ _ (by omega)).mono ?_; rintro e x3 ⟨rfl, q3⟩))
      go_ret2
      exact ⟨rfl, q3⟩

set_option maxHeartbeats 400000 in
theorem do_1 (t a b : Int) (w : World) (h0 : 0 ≤ t) (h5 : t ≤ 5) :
    Calls Try.prog 54 #[.int .u8 1, .int .u8 t, .int .i64 a, .int .i64 b] w fun e w' => e = .returned (.tuple #[.int .i64 (do1 1 t a b), .int .u8 (do2 1 t a b)]) ∧ Q w w' := by
  have hb : decide (t ≤ 5) = true := by simpa using h5
  obtain ⟨x1, x2⟩ := wr_bd t a
  obtain ⟨y1, y2⟩ := wr_bd t b
  have n6 : ¬ 6 ≤ t := by omega
  have e1 : do1 1 t a b = keep1 t (wr t a + wr t b) := by simp [do1, n6]
  have e2 : do2 1 t a b = keep2 t (wr t a + wr t b) := by simp [do2, n6]
  rw [e1, e2]
  clear e1 e2
  generalize hx : wr t a = x at *
  generalize hy : wr t b = y at *
  have HA : Hid (wr t a = x) := hx
  have HB : Hid (wr t b = y) := hy
  clear hx hy
  go_enter Try.func54, Try.ntmps54
  go_wp2_with (first | (go_at_call 45; refine (form_any _ _).mono ?_; rw [hb]; rintro e x0 ⟨rfl, rfl⟩) | (go_at_call_of 49 (Value.int IntKind.i64 a); refine (wrap_any _ _ _ (by omega)).mono ?_; rw [HA.out]; rintro e x1 ⟨rfl, rfl⟩) | (go_at_call_of 49 (Value.int IntKind.i64 b); refine (wrap_any _ _ _ (by omega)).mono ?_; rw [HB.out]; rintro e x1 ⟨rfl, rfl⟩) | (go_at_call 59; refine (settle_any _ _ _ (by omega)).mono ?_; rintro e x3 ⟨rfl, q3⟩))
  go_ret2
  exact ⟨rfl, q3⟩

set_option maxHeartbeats 400000 in
theorem do_2 (t a b : Int) (w : World) (h0 : 0 ≤ t) (h5 : t ≤ 5) :
    Calls Try.prog 54 #[.int .u8 2, .int .u8 t, .int .i64 a, .int .i64 b] w fun e w' => e = .returned (.tuple #[.int .i64 (do1 2 t a b), .int .u8 (do2 2 t a b)]) ∧ Q w w' := by
  have hb : decide (t ≤ 5) = true := by simpa using h5
  obtain ⟨x1, x2⟩ := wr_bd t a
  obtain ⟨y1, y2⟩ := wr_bd t b
  have n6 : ¬ 6 ≤ t := by omega
  have e1 : do1 2 t a b = keep1 t (wr t a - wr t b) := by simp [do1, n6]
  have e2 : do2 2 t a b = keep2 t (wr t a - wr t b) := by simp [do2, n6]
  rw [e1, e2]
  clear e1 e2
  generalize hx : wr t a = x at *
  generalize hy : wr t b = y at *
  have HA : Hid (wr t a = x) := hx
  have HB : Hid (wr t b = y) := hy
  clear hx hy
  go_enter Try.func54, Try.ntmps54
  go_wp2_with (first | (go_at_call 45; refine (form_any _ _).mono ?_; rw [hb]; rintro e x0 ⟨rfl, rfl⟩) | (go_at_call_of 49 (Value.int IntKind.i64 a); refine (wrap_any _ _ _ (by omega)).mono ?_; rw [HA.out]; rintro e x1 ⟨rfl, rfl⟩) | (go_at_call_of 49 (Value.int IntKind.i64 b); refine (wrap_any _ _ _ (by omega)).mono ?_; rw [HB.out]; rintro e x1 ⟨rfl, rfl⟩) | (go_at_call 59; refine (settle_any _ _ _ (by omega)).mono ?_; rintro e x3 ⟨rfl, q3⟩))
  go_ret2
  exact ⟨rfl, q3⟩

set_option maxHeartbeats 400000 in
theorem do_3 (t a b : Int) (w : World) (h0 : 0 ≤ t) (h5 : t ≤ 5) :
    Calls Try.prog 54 #[.int .u8 3, .int .u8 t, .int .i64 a, .int .i64 b] w fun e w' => e = .returned (.tuple #[.int .i64 (do1 3 t a b), .int .u8 (do2 3 t a b)]) ∧ Q w w' := by
  have hb : decide (t ≤ 5) = true := by simpa using h5
  obtain ⟨x1, x2⟩ := wr_bd t a
  obtain ⟨y1, y2⟩ := wr_bd t b
  have n6 : ¬ 6 ≤ t := by omega
  have e1 : do1 3 t a b = keep1 t (wr t a * wr t b) := by simp [do1, n6]
  have e2 : do2 3 t a b = keep2 t (wr t a * wr t b) := by simp [do2, n6]
  rw [e1, e2]
  clear e1 e2
  have M1 : Hid (keep1 t (wrap64 (wr t a * wr t b)) = keep1 t (wr t a * wr t b)) := keep1_mul t a b h0
  have M2 : Hid (keep2 t (wrap64 (wr t a * wr t b)) = keep2 t (wr t a * wr t b)) := keep2_mul t a b h0
  generalize hx : wr t a = x at *
  generalize hy : wr t b = y at *
  have HA : Hid (wr t a = x) := hx
  have HB : Hid (wr t b = y) := hy
  clear hx hy
  go_enter Try.func54, Try.ntmps54
  go_wp2_with (first | (go_at_call 45; refine (form_any _ _).mono ?_; rw [hb]; rintro e x0 ⟨rfl, rfl⟩) | (go_at_call_of 49 (Value.int IntKind.i64 a); refine (wrap_any _ _ _ (by omega)).mono ?_; rw [HA.out]; rintro e x1 ⟨rfl, rfl⟩) | (go_at_call_of 49 (Value.int IntKind.i64 b); refine (wrap_any _ _ _ (by omega)).mono ?_; rw [HB.out]; rintro e x1 ⟨rfl, rfl⟩) | (go_at_call 59; refine (settle_any _ _ _ (by omega)).mono ?_; rw [M1.out, M2.out]; rintro e x3 ⟨rfl, q3⟩))
  go_ret2
  exact ⟨rfl, q3⟩

set_option maxHeartbeats 400000 in
theorem do_4 (t a b : Int) (w : World) (h0 : 0 ≤ t) (h5 : t ≤ 5) :
    Calls Try.prog 54 #[.int .u8 4, .int .u8 t, .int .i64 a, .int .i64 b] w fun e w' => e = .returned (.tuple #[.int .i64 (do1 4 t a b), .int .u8 (do2 4 t a b)]) ∧ Q w w' := by
  have hb : decide (t ≤ 5) = true := by simpa using h5
  obtain ⟨x1, x2⟩ := wr_bd t a
  obtain ⟨y1, y2⟩ := wr_bd t b
  have n6 : ¬ 6 ≤ t := by omega
  have e1 : do1 4 t a b = div1 4 t (wr t a) (wr t b) := by simp [do1, n6]
  have e2 : do2 4 t a b = div2 t (wr t a) (wr t b) := by simp [do2, n6]
  rw [e1, e2]
  clear e1 e2
  generalize hx : wr t a = x at *
  generalize hy : wr t b = y at *
  have HA : Hid (wr t a = x) := hx
  have HB : Hid (wr t b = y) := hy
  clear hx hy
  go_enter Try.func54, Try.ntmps54
  go_wp2_with (first | (go_at_call 45; refine (form_any _ _).mono ?_; rw [hb]; rintro e x0 ⟨rfl, rfl⟩) | (go_at_call_of 49 (Value.int IntKind.i64 a); refine (wrap_any _ _ _ (by omega)).mono ?_; rw [HA.out]; rintro e x1 ⟨rfl, rfl⟩) | (go_at_call_of 49 (Value.int IntKind.i64 b); refine (wrap_any _ _ _ (by omega)).mono ?_; rw [HB.out]; rintro e x1 ⟨rfl, rfl⟩) | (go_at_call 60; refine (divide_any _ _ _ _ _ (by omega) (by omega) (by omega) (by omega) (by omega) (by omega)).mono ?_; rintro e x3 ⟨rfl, q3⟩))
  go_ret2
  exact ⟨rfl, q3⟩

set_option maxHeartbeats 400000 in
theorem do_5 (t a b : Int) (w : World) (h0 : 0 ≤ t) (h5 : t ≤ 5) :
    Calls Try.prog 54 #[.int .u8 5, .int .u8 t, .int .i64 a, .int .i64 b] w fun e w' => e = .returned (.tuple #[.int .i64 (do1 5 t a b), .int .u8 (do2 5 t a b)]) ∧ Q w w' := by
  have hb : decide (t ≤ 5) = true := by simpa using h5
  obtain ⟨x1, x2⟩ := wr_bd t a
  obtain ⟨y1, y2⟩ := wr_bd t b
  have n6 : ¬ 6 ≤ t := by omega
  have e1 : do1 5 t a b = div1 5 t (wr t a) (wr t b) := by simp [do1, n6]
  have e2 : do2 5 t a b = div2 t (wr t a) (wr t b) := by simp [do2, n6]
  rw [e1, e2]
  clear e1 e2
  generalize hx : wr t a = x at *
  generalize hy : wr t b = y at *
  have HA : Hid (wr t a = x) := hx
  have HB : Hid (wr t b = y) := hy
  clear hx hy
  go_enter Try.func54, Try.ntmps54
  go_wp2_with (first | (go_at_call 45; refine (form_any _ _).mono ?_; rw [hb]; rintro e x0 ⟨rfl, rfl⟩) | (go_at_call_of 49 (Value.int IntKind.i64 a); refine (wrap_any _ _ _ (by omega)).mono ?_; rw [HA.out]; rintro e x1 ⟨rfl, rfl⟩) | (go_at_call_of 49 (Value.int IntKind.i64 b); refine (wrap_any _ _ _ (by omega)).mono ?_; rw [HB.out]; rintro e x1 ⟨rfl, rfl⟩) | (go_at_call 60; refine (divide_any _ _ _ _ _ (by omega) (by omega) (by omega) (by omega) (by omega) (by omega)).mono ?_; rintro e x3 ⟨rfl, q3⟩))
  go_ret2
  exact ⟨rfl, q3⟩

set_option maxHeartbeats 400000 in
theorem do_6 (t a b : Int) (w : World) (h0 : 0 ≤ t) (h5 : t ≤ 5) :
    Calls Try.prog 54 #[.int .u8 6, .int .u8 t, .int .i64 a, .int .i64 b] w fun e w' => e = .returned (.tuple #[.int .i64 (do1 6 t a b), .int .u8 (do2 6 t a b)]) ∧ Q w w' := by
  have hb : decide (t ≤ 5) = true := by simpa using h5
  obtain ⟨x1, x2⟩ := wr_bd t a
  obtain ⟨y1, y2⟩ := wr_bd t b
  have n6 : ¬ 6 ≤ t := by omega
  have e1 : do1 6 t a b = bits .and .i64 (wr t a) (wr t b) := by simp [do1, n6]
  have e2 : do2 6 t a b = 0 := by simp [do2, n6]
  rw [e1, e2]
  clear e1 e2
  generalize hx : wr t a = x at *
  generalize hy : wr t b = y at *
  have HA : Hid (wr t a = x) := hx
  have HB : Hid (wr t b = y) := hy
  clear hx hy
  go_enter Try.func54, Try.ntmps54
  go_wp2_with (first | (go_at_call 45; refine (form_any _ _).mono ?_; rw [hb]; rintro e x0 ⟨rfl, rfl⟩) | (go_at_call_of 49 (Value.int IntKind.i64 a); refine (wrap_any _ _ _ (by omega)).mono ?_; rw [HA.out]; rintro e x1 ⟨rfl, rfl⟩) | (go_at_call_of 49 (Value.int IntKind.i64 b); refine (wrap_any _ _ _ (by omega)).mono ?_; rw [HB.out]; rintro e x1 ⟨rfl, rfl⟩))
  go_ret2
  exact ⟨rfl, Q.refl _⟩

set_option maxHeartbeats 400000 in
theorem do_7 (t a b : Int) (w : World) (h0 : 0 ≤ t) (h5 : t ≤ 5) :
    Calls Try.prog 54 #[.int .u8 7, .int .u8 t, .int .i64 a, .int .i64 b] w fun e w' => e = .returned (.tuple #[.int .i64 (do1 7 t a b), .int .u8 (do2 7 t a b)]) ∧ Q w w' := by
  have hb : decide (t ≤ 5) = true := by simpa using h5
  obtain ⟨x1, x2⟩ := wr_bd t a
  obtain ⟨y1, y2⟩ := wr_bd t b
  have n6 : ¬ 6 ≤ t := by omega
  have e1 : do1 7 t a b = bits .or .i64 (wr t a) (wr t b) := by simp [do1, n6]
  have e2 : do2 7 t a b = 0 := by simp [do2, n6]
  rw [e1, e2]
  clear e1 e2
  generalize hx : wr t a = x at *
  generalize hy : wr t b = y at *
  have HA : Hid (wr t a = x) := hx
  have HB : Hid (wr t b = y) := hy
  clear hx hy
  go_enter Try.func54, Try.ntmps54
  go_wp2_with (first | (go_at_call 45; refine (form_any _ _).mono ?_; rw [hb]; rintro e x0 ⟨rfl, rfl⟩) | (go_at_call_of 49 (Value.int IntKind.i64 a); refine (wrap_any _ _ _ (by omega)).mono ?_; rw [HA.out]; rintro e x1 ⟨rfl, rfl⟩) | (go_at_call_of 49 (Value.int IntKind.i64 b); refine (wrap_any _ _ _ (by omega)).mono ?_; rw [HB.out]; rintro e x1 ⟨rfl, rfl⟩))
  go_ret2
  exact ⟨rfl, Q.refl _⟩

set_option maxHeartbeats 400000 in
theorem do_8 (t a b : Int) (w : World) (h0 : 0 ≤ t) (h5 : t ≤ 5) :
    Calls Try.prog 54 #[.int .u8 8, .int .u8 t, .int .i64 a, .int .i64 b] w fun e w' => e = .returned (.tuple #[.int .i64 (do1 8 t a b), .int .u8 (do2 8 t a b)]) ∧ Q w w' := by
  have hb : decide (t ≤ 5) = true := by simpa using h5
  obtain ⟨x1, x2⟩ := wr_bd t a
  obtain ⟨y1, y2⟩ := wr_bd t b
  have n6 : ¬ 6 ≤ t := by omega
  have e1 : do1 8 t a b = bits .xor .i64 (wr t a) (wr t b) := by simp [do1, n6]
  have e2 : do2 8 t a b = 0 := by simp [do2, n6]
  rw [e1, e2]
  clear e1 e2
  generalize hx : wr t a = x at *
  generalize hy : wr t b = y at *
  have HA : Hid (wr t a = x) := hx
  have HB : Hid (wr t b = y) := hy
  clear hx hy
  go_enter Try.func54, Try.ntmps54
  go_wp2_with (first | (go_at_call 45; refine (form_any _ _).mono ?_; rw [hb]; rintro e x0 ⟨rfl, rfl⟩) | (go_at_call_of 49 (Value.int IntKind.i64 a); refine (wrap_any _ _ _ (by omega)).mono ?_; rw [HA.out]; rintro e x1 ⟨rfl, rfl⟩) | (go_at_call_of 49 (Value.int IntKind.i64 b); refine (wrap_any _ _ _ (by omega)).mono ?_; rw [HB.out]; rintro e x1 ⟨rfl, rfl⟩))
  go_ret2
  exact ⟨rfl, Q.refl _⟩

set_option maxHeartbeats 400000 in
theorem do_9 (t a b : Int) (w : World) (h0 : 0 ≤ t) (h5 : t ≤ 5) :
    Calls Try.prog 54 #[.int .u8 9, .int .u8 t, .int .i64 a, .int .i64 b] w fun e w' => e = .returned (.tuple #[.int .i64 (do1 9 t a b), .int .u8 (do2 9 t a b)]) ∧ Q w w' := by
  have hb : decide (t ≤ 5) = true := by simpa using h5
  obtain ⟨x1, x2⟩ := wr_bd t a
  obtain ⟨y1, y2⟩ := wr_bd t b
  have n6 : ¬ 6 ≤ t := by omega
  have e1 : do1 9 t a b = shl1 t (wr t a) b := by simp [do1, n6]
  have e2 : do2 9 t a b = shl2 t (wr t a) b := by simp [do2, n6]
  rw [e1, e2]
  clear e1 e2
  generalize hx : wr t a = x at *
  generalize hy : wr t b = y at *
  have HA : Hid (wr t a = x) := hx
  have HB : Hid (wr t b = y) := hy
  clear hx hy
  go_enter Try.func54, Try.ntmps54
  go_wp2_with (first | (go_at_call 45; refine (form_any _ _).mono ?_; rw [hb]; rintro e x0 ⟨rfl, rfl⟩) | (go_at_call_of 49 (Value.int IntKind.i64 a); refine (wrap_any _ _ _ (by omega)).mono ?_; rw [HA.out]; rintro e x1 ⟨rfl, rfl⟩) | (go_at_call_of 49 (Value.int IntKind.i64 b); refine (wrap_any _ _ _ (by omega)).mono ?_; rw [HB.out]; rintro e x1 ⟨rfl, rfl⟩) | (go_at_call 58; refine (shl_any _ _ _ _ (by omega) (by omega) (by omega)).mono ?_; rintro e x3 ⟨rfl, q3⟩))
  go_ret2
  exact ⟨rfl, q3⟩

set_option maxHeartbeats 400000 in
theorem do_10 (t a b : Int) (w : World) (h0 : 0 ≤ t) (h5 : t ≤ 5) :
    Calls Try.prog 54 #[.int .u8 10, .int .u8 t, .int .i64 a, .int .i64 b] w fun e w' => e = .returned (.tuple #[.int .i64 (do1 10 t a b), .int .u8 (do2 10 t a b)]) ∧ Q w w' := by
  have hb : decide (t ≤ 5) = true := by simpa using h5
  obtain ⟨x1, x2⟩ := wr_bd t a
  obtain ⟨y1, y2⟩ := wr_bd t b
  have n6 : ¬ 6 ≤ t := by omega
  have e1 : do1 10 t a b = shr1 t (wr t a) b := by simp [do1, n6]
  have e2 : do2 10 t a b = shr2 t b := by simp [do2, n6]
  rw [e1, e2]
  clear e1 e2
  generalize hx : wr t a = x at *
  generalize hy : wr t b = y at *
  have HA : Hid (wr t a = x) := hx
  have HB : Hid (wr t b = y) := hy
  clear hx hy
  go_enter Try.func54, Try.ntmps54
  go_wp2_with (first | (go_at_call 45; refine (form_any _ _).mono ?_; rw [hb]; rintro e x0 ⟨rfl, rfl⟩) | (go_at_call_of 49 (Value.int IntKind.i64 a); refine (wrap_any _ _ _ (by omega)).mono ?_; rw [HA.out]; rintro e x1 ⟨rfl, rfl⟩) | (go_at_call_of 49 (Value.int IntKind.i64 b); refine (wrap_any _ _ _ (by omega)).mono ?_; rw [HB.out]; rintro e x1 ⟨rfl, rfl⟩) | (go_at_call 58; refine (shr_any _ _ _ _ (by omega) (by omega) (by omega)).mono ?_; rintro e x3 ⟨rfl, q3⟩))
  go_ret2
  exact ⟨rfl, q3⟩

end Go.Proofs.Ytnlgkiejppgfjaa.Nu

namespace Burin
open Go
def un1 (op t a : Int) : Int := if 6 ≤ t then 0 else if op = 1 then keep1 t (-wr t a) else if op = 2 then wr t (-1 - wr t a) else if op = 3 then tr (wr t a == 0) else 0
def un2 (op t a : Int) : Int := if 6 ≤ t then 5 else if op = 1 then keep2 t (-wr t a) else if op = 2 then 0 else if op = 3 then 0 else 5
theorem un2_bd (op t a : Int) : 0 ≤ un2 op t a ∧ un2 op t a ≤ 5 := by
  unfold un2 keep2
  (repeat' split) <;> omega
theorem wr_zero (t : Int) : wr t 0 = 0 := by
  unfold wr
  (repeat' split) <;> omega
theorem not64 (a : Int) (h1 : -2147483648 ≤ a) (h2 : a ≤ 4294967295) : bits .xor .i64 (-1) a = -1 - a := by
  have e : BitVec.ofInt 64 (-1) = BitVec.allOnes 64 := by decide
  have d : bits .xor .i64 (-1) a = IntKind.i64.wrap (((BitVec.ofInt 64 (-1) ^^^ BitVec.ofInt 64 a).toNat : Nat) : Int) := rfl
  rw [d, e, BitVec.allOnes_xor, BitVec.toNat_not, BitVec.toNat_ofInt, IntKind.wrap_i64]
  omega
end Burin
namespace Go.Proofs.Ytnlgkiejppgfjaa.Nu
open Go.RowKit
open Burin
set_option linter.unusedVariables false

set_option maxHeartbeats 400000 in
theorem do_none (op t a b : Int) (w : World) (h6 : 6 ≤ t) :
    Calls Try.prog 54 #[.int .u8 op, .int .u8 t, .int .i64 a, .int .i64 b] w fun e w' => e = .returned (.tuple #[.int .i64 (do1 op t a b), .int .u8 (do2 op t a b)]) ∧ Q w w' := by
  have hb : decide (t ≤ 5) = false := by simp; omega
  have e1 : do1 op t a b = 0 := by simp [do1, h6]
  have e2 : do2 op t a b = 5 := by simp [do2, h6]
  rw [e1, e2]
  clear e1 e2
  go_enter Try.func54, Try.ntmps54
  go_wp2_with (go_at_call 45; refine (form_any _ _).mono ?_; rw [hb]; rintro e x0 ⟨rfl, rfl⟩)
  go_ret2
  exact ⟨rfl, Q.refl _⟩

set_option maxHeartbeats 400000 in
theorem do_rest (op t a b : Int) (w : World) (h0 : 0 ≤ t) (h5 : t ≤ 5) (ho : op < 1 ∨ 10 < op) :
    Calls Try.prog 54 #[.int .u8 op, .int .u8 t, .int .i64 a, .int .i64 b] w fun e w' => e = .returned (.tuple #[.int .i64 (do1 op t a b), .int .u8 (do2 op t a b)]) ∧ Q w w' := by
  have hb : decide (t ≤ 5) = true := by simpa using h5
  have n6 : ¬ 6 ≤ t := by omega
  have n1 : ¬ op = 1 := by omega
  have n2 : ¬ op = 2 := by omega
  have n3 : ¬ op = 3 := by omega
  have n4 : ¬ op = 4 := by omega
  have n5 : ¬ op = 5 := by omega
  have m6 : ¬ op = 6 := by omega
  have n7 : ¬ op = 7 := by omega
  have n8 : ¬ op = 8 := by omega
  have n9 : ¬ op = 9 := by omega
  have n10 : ¬ op = 10 := by omega
  have e1 : do1 op t a b = cmp1 op (wr t a) (wr t b) := by simp [do1, n6, n1, n2, n3, n4, n5, m6, n7, n8, n9, n10]
  have e2 : do2 op t a b = cmp2 op := by simp [do2, n6, n1, n2, n3, n4, n5, m6, n7, n8, n9, n10]
  rw [e1, e2]
  have k1 : (op == 1) = false := by simpa using n1
  have k2 : (op == 2) = false := by simpa using n2
  have k3 : (op == 3) = false := by simpa using n3
  have k4 : (op == 4) = false := by simpa using n4
  have k5 : (op == 5) = false := by simpa using n5
  have k6 : (op == 6) = false := by simpa using m6
  have k7 : (op == 7) = false := by simpa using n7
  have k8 : (op == 8) = false := by simpa using n8
  have k9 : (op == 9) = false := by simpa using n9
  have k10 : (op == 10) = false := by simpa using n10
  clear e1 e2 n1 n2 n3 n4 n5 n6 m6 n7 n8 n9 n10 ho
  generalize hx : wr t a = x at *
  generalize hy : wr t b = y at *
  have HA : Hid (wr t a = x) := hx
  have HB : Hid (wr t b = y) := hy
  clear hx hy
  go_enter Try.func54, Try.ntmps54
  go_wp2_with (first | (go_at_call 45; refine (form_any _ _).mono ?_; rw [hb]; rintro e x0 ⟨rfl, rfl⟩) | (go_at_call_of 49 (Value.int IntKind.i64 a); refine (wrap_any _ _ _ (by omega)).mono ?_; rw [HA.out]; rintro e x1 ⟨rfl, rfl⟩) | (go_at_call_of 49 (Value.int IntKind.i64 b); refine (wrap_any _ _ _ (by omega)).mono ?_; rw [HB.out]; rintro e x1 ⟨rfl, rfl⟩) | (go_at_call 61; refine (compare_any _ _ _ _).mono ?_; rintro e x3 ⟨rfl, rfl⟩))
  go_ret2
  exact ⟨rfl, Q.refl _⟩

theorem do_any (op t a b : Int) (w : World) (h0 : 0 ≤ t) :
    Calls Try.prog 54 #[.int .u8 op, .int .u8 t, .int .i64 a, .int .i64 b] w fun e w' => e = .returned (.tuple #[.int .i64 (do1 op t a b), .int .u8 (do2 op t a b)]) ∧ Q w w' := by
  by_cases h6 : 6 ≤ t
  · exact do_none op t a b w h6
  · have h5 : t ≤ 5 := by omega
    have h : op = 1 ∨ op = 2 ∨ op = 3 ∨ op = 4 ∨ op = 5 ∨ op = 6 ∨ op = 7 ∨ op = 8 ∨ op = 9 ∨ op = 10 ∨ (op < 1 ∨ 10 < op) := by omega
    rcases h with rfl | rfl | rfl | rfl | rfl | rfl | rfl | rfl | rfl | rfl | h
    · exact do_1 t a b w h0 h5
    · exact do_2 t a b w h0 h5
    · exact do_3 t a b w h0 h5
    · exact do_4 t a b w h0 h5
    · exact do_5 t a b w h0 h5
    · exact do_6 t a b w h0 h5
    · exact do_7 t a b w h0 h5
    · exact do_8 t a b w h0 h5
    · exact do_9 t a b w h0 h5
    · exact do_10 t a b w h0 h5
    · exact do_rest op t a b w h0 h5 h

set_option maxHeartbeats 400000 in
theorem un_any (op t a : Int) (w : World) (h0 : 0 ≤ t) :
    Calls Try.prog 50 #[.int .u8 op, .int .u8 t, .int .i64 a] w fun e w' => e = .returned (.tuple #[.int .i64 (un1 op t a), .int .u8 (un2 op t a)]) ∧ Q w w' := by
  by_cases h6 : 6 ≤ t
  · have hb : decide (t ≤ 5) = false := by simp; omega
    have e1 : un1 op t a = 0 := by simp [un1, h6]
    have e2 : un2 op t a = 5 := by simp [un2, h6]
    rw [e1, e2]
    clear e1 e2
    go_enter Try.func50, Try.ntmps50
    go_wp2_with (go_at_call 45; refine (form_any _ _).mono ?_; rw [hb]; rintro e x0 ⟨rfl, rfl⟩)
    go_ret2
    exact ⟨rfl, Q.refl _⟩
  · have hb : decide (t ≤ 5) = true := by simp; omega
    obtain ⟨x1, x2⟩ := wr_bd t a
    have h : op = 1 ∨ op = 2 ∨ op = 3 ∨ (op < 1 ∨ 3 < op) := by omega
    rcases h with rfl | rfl | rfl | h
    · have e1 : un1 1 t a = keep1 t (-wr t a) := by simp [un1, h6]
      have e2 : un2 1 t a = keep2 t (-wr t a) := by simp [un2, h6]
      rw [e1, e2]
      have f1 : do1 2 t 0 (wr t a) = keep1 t (-wr t a) := by simp [do1, h6, wr_zero, wr_wr]
      have f2 : do2 2 t 0 (wr t a) = keep2 t (-wr t a) := by simp [do2, h6, wr_zero, wr_wr]
      generalize hx : wr t a = x at *
      have HA : Hid (wr t a = x) := hx
      have F1 : Hid (do1 2 t 0 x = keep1 t (-x)) := f1
      have F2 : Hid (do2 2 t 0 x = keep2 t (-x)) := f2
      clear e1 e2 f1 f2 hx
      go_enter Try.func50, Try.ntmps50
      go_wp2_with (first | (go_at_call 45; refine (form_any _ _).mono ?_; rw [hb]; rintro e x0 ⟨rfl, rfl⟩) | (go_at_call 49; refine (wrap_any _ _ _ (by omega)).mono ?_; rw [HA.out]; rintro e x1 ⟨rfl, rfl⟩) | (go_at_call 54; refine (do_any _ _ _ _ _ (by omega)).mono ?_; rw [F1.out, F2.out]; rintro e x2 ⟨rfl, q2⟩))
      go_ret2
      exact ⟨rfl, q2⟩
    · have e1 : un1 2 t a = wr t (-1 - wr t a) := by simp [un1, h6]
      have e2 : un2 2 t a = 0 := by simp [un2, h6]
      rw [e1, e2]
      have n := not64 (wr t a) x1 x2
      generalize hx : wr t a = x at *
      have HA : Hid (wr t a = x) := hx
      have HN : Hid (bits .xor .i64 (-1) x = -1 - x) := n
      clear e1 e2 n hx
      go_enter Try.func50, Try.ntmps50
      go_wp2_with (first | (go_at_call 45; refine (form_any _ _).mono ?_; rw [hb]; rintro e x0 ⟨rfl, rfl⟩) | (go_at_call_of 49 (Value.int IntKind.i64 a); refine (wrap_any _ _ _ (by omega)).mono ?_; rw [HA.out]; rintro e x1 ⟨rfl, rfl⟩) | (go_at_call 49; refine (wrap_any _ _ _ (by omega)).mono ?_; rw [HN.out]; rintro e x2 ⟨rfl, rfl⟩))
      go_ret2
      exact ⟨rfl, Q.refl _⟩
    · have e1 : un1 3 t a = tr (wr t a == 0) := by simp [un1, h6]
      have e2 : un2 3 t a = 0 := by simp [un2, h6]
      rw [e1, e2]
      generalize hx : wr t a = x at *
      have HA : Hid (wr t a = x) := hx
      clear e1 e2 hx
      go_enter Try.func50, Try.ntmps50
      go_wp2_with (first | (go_at_call 45; refine (form_any _ _).mono ?_; rw [hb]; rintro e x0 ⟨rfl, rfl⟩) | (go_at_call_of 49 (Value.int IntKind.i64 a); refine (wrap_any _ _ _ (by omega)).mono ?_; rw [HA.out]; rintro e x1 ⟨rfl, rfl⟩) | (go_at_call 57; refine (truth_any _ _).mono ?_; rintro e x2 ⟨rfl, rfl⟩))
      go_ret2
      exact ⟨rfl, Q.refl _⟩
    · have n1 : ¬ op = 1 := by omega
      have n2 : ¬ op = 2 := by omega
      have n3 : ¬ op = 3 := by omega
      have e1 : un1 op t a = 0 := by simp [un1, n1, n2, n3]
      have e2 : un2 op t a = 5 := by simp [un2, n1, n2, n3]
      rw [e1, e2]
      have k1 : (op == 1) = false := by simpa using n1
      have k2 : (op == 2) = false := by simpa using n2
      have k3 : (op == 3) = false := by simpa using n3
      clear e1 e2 n1 n2 n3 h
      go_enter Try.func50, Try.ntmps50
      go_wp2_with (first | (go_at_call 45; refine (form_any _ _).mono ?_; rw [hb]; rintro e x0 ⟨rfl, rfl⟩) | (go_at_call 49; refine (wrap_any _ _ _ (by omega)).mono ?_; rintro e x1 ⟨rfl, rfl⟩))
      go_ret2
      exact ⟨rfl, Q.refl _⟩

set_option maxHeartbeats 400000 in
theorem run_any (op t a : Int) (w : World) (h0 : 0 ≤ t) :
    Calls Try.prog 33 #[.int .i64 op, .int .i64 t, .int .i64 a] w fun e w' => e = .returned (.tuple #[.int .i64 (un1 op t a), .int .i64 (un2 op t a)]) ∧ Q w w' := by
  by_cases h6 : 6 ≤ t
  · have e1 : un1 op t a = 0 := by simp [un1, h6]
    have e2 : un2 op t a = 5 := by simp [un2, h6]
    rw [e1, e2]
    clear e1 e2
    go_enter Try.func33, Try.ntmps33
    go_wp2_with (go_at_call 20; refine (rwidth_any _ _ (by omega)).mono ?_; rw [wid_none _ h6]; rintro e x0 ⟨rfl, q0⟩)
    go_ret2
    exact ⟨rfl, q0⟩
  · have hw : 0 < wid t := by unfold wid; (repeat' split) <;> omega
    have hk : (wid t == 0) = false := by simp; omega
    obtain ⟨x1, x2⟩ := wr_bd t a
    have h : op = 1 ∨ op = 2 ∨ op = 3 ∨ op < 1 ∨ 3 < op := by omega
    rcases h with rfl | rfl | rfl | h | h
    · have e1 : un1 1 t a = keep1 t (-wr t a) := by simp [un1, h6]
      have e2 : un2 1 t a = keep2 t (-wr t a) := by simp [un2, h6]
      rw [e1, e2]
      generalize hx : wr t a = x at *
      have HA : Hid (wr t a = x) := hx
      clear e1 e2 hx
      go_enter Try.func33, Try.ntmps33
      go_wp2_with (first | (go_at_call 20; refine (rwidth_any _ _ (by omega)).mono ?_; rintro e x0 ⟨rfl, q0⟩) | (go_at_call 21; refine (rwrap_any _ _ _ (by omega)).mono ?_; rw [HA.out]; rintro e x1 ⟨rfl, q1⟩) | (go_at_call 22; refine (rkeep_any _ _ _ (by omega)).mono ?_; rintro e x2 ⟨rfl, q2⟩))
      go_ret2
      exact ⟨rfl, (q0.trans q1).trans q2⟩
    · have e1 : un1 2 t a = wr t (-1 - wr t a) := by simp [un1, h6]
      have e2 : un2 2 t a = 0 := by simp [un2, h6]
      rw [e1, e2]
      generalize hx : wr t a = x at *
      have HA : Hid (wr t a = x) := hx
      clear e1 e2 hx
      go_enter Try.func33, Try.ntmps33
      go_wp2_with (first | (go_at_call 20; refine (rwidth_any _ _ (by omega)).mono ?_; rintro e x0 ⟨rfl, q0⟩) | (go_at_call_of 21 (Value.int IntKind.i64 a); refine (rwrap_any _ _ _ (by omega)).mono ?_; rw [HA.out]; rintro e x1 ⟨rfl, q1⟩) | (go_at_call 21; refine (rwrap_any _ _ _ (by omega)).mono ?_; rintro e x2 ⟨rfl, q2⟩))
      go_ret2
      exact ⟨rfl, (q0.trans q1).trans q2⟩
    · have e1 : un1 3 t a = tr (wr t a == 0) := by simp [un1, h6]
      have e2 : un2 3 t a = 0 := by simp [un2, h6]
      rw [e1, e2]
      generalize hx : wr t a = x at *
      have HA : Hid (wr t a = x) := hx
      clear e1 e2 hx
      go_enter Try.func33, Try.ntmps33
      go_wp2_with (first | (go_at_call 20; refine (rwidth_any _ _ (by omega)).mono ?_; rintro e x0 ⟨rfl, q0⟩) | (go_at_call 21; refine (rwrap_any _ _ _ (by omega)).mono ?_; rw [HA.out]; rintro e x1 ⟨rfl, q1⟩) | (go_at_call 27; refine (ryes_any _ _).mono ?_; rintro e x2 ⟨rfl, rfl⟩))
      go_ret2
      exact ⟨rfl, q0.trans q1⟩
    all_goals
      have n1 : ¬ op = 1 := by omega
      have n2 : ¬ op = 2 := by omega
      have n3 : ¬ op = 3 := by omega
      have e1 : un1 op t a = 0 := by simp [un1, n1, n2, n3]
      have e2 : un2 op t a = 5 := by simp [un2, n1, n2, n3]
      rw [e1, e2]
      clear e1 e2 n1 n2 n3
    · have d1 : decide (op < 1) = true := by simpa using h
      go_enter Try.func33, Try.ntmps33
      go_wp2_with (first | (go_at_call 20; refine (rwidth_any _ _ (by omega)).mono ?_; rintro e x0 ⟨rfl, q0⟩))
      go_ret2
      exact ⟨rfl, q0⟩
    · have d1 : decide (op < 1) = false := by simp; omega
      have d2 : decide (3 < op) = true := by simpa using h
      go_enter Try.func33, Try.ntmps33
      go_wp2_with (first | (go_at_call 20; refine (rwidth_any _ _ (by omega)).mono ?_; rintro e x0 ⟨rfl, q0⟩))
      go_ret2
      exact ⟨rfl, q0⟩

end Go.Proofs.Ytnlgkiejppgfjaa.Nu
