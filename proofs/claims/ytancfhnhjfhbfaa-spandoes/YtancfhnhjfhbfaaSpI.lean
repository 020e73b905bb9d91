/-
  The plain laws of layer 10: where an operation is said never to trap it never does, and what it makes of numbers of two spans lies in the span that is told; of wider spans the span is no narrower. No program in sight; no conditions but those that each fact bears.
-/
import Derived.Test.YtancfhnhjfhbfaaSpD
import Derived.Test.YtancfhnhjfhbfaaPlainC
set_option linter.unusedVariables false
namespace Burin
open Go

/-- Four corners: a function that lies between its ends in each of its two numbers. -/
theorem between4 (f : Int → Int → Int) (al ah bl bh x y : Int)
    (h1 : min (f al y) (f ah y) ≤ f x y) (h2 : f x y ≤ max (f al y) (f ah y))
    (h3 : min (f al bl) (f al bh) ≤ f al y) (h4 : f al y ≤ max (f al bl) (f al bh))
    (h5 : min (f ah bl) (f ah bh) ≤ f ah y) (h6 : f ah y ≤ max (f ah bl) (f ah bh)) :
    mn4 (f al bl) (f al bh) (f ah bl) (f ah bh) ≤ f x y ∧ f x y ≤ mx4 (f al bl) (f al bh) (f ah bl) (f ah bh) := by
  unfold mn4 mx4
  omega

theorem mul_btw (a b x y : Int) (h1 : a ≤ x) (h2 : x ≤ b) : min (a * y) (b * y) ≤ x * y ∧ x * y ≤ max (a * y) (b * y) := by
  rcases Int.le_total 0 y with hy | hy
  · have k1 := Int.mul_le_mul_of_nonneg_right h1 hy
    have k2 := Int.mul_le_mul_of_nonneg_right h2 hy
    omega
  · have k1 := Int.mul_le_mul_of_nonpos_right h1 hy
    have k2 := Int.mul_le_mul_of_nonpos_right h2 hy
    omega
theorem mul_btw' (a b x y : Int) (h1 : a ≤ x) (h2 : x ≤ b) : min (y * a) (y * b) ≤ y * x ∧ y * x ≤ max (y * a) (y * b) := by
  have k := mul_btw a b x y h1 h2
  rw [Int.mul_comm y a, Int.mul_comm y b, Int.mul_comm y x]
  exact k

theorem mul4 (al ah bl bh x y : Int) (x1 : al ≤ x) (x2 : x ≤ ah) (y1 : bl ≤ y) (y2 : y ≤ bh) :
    mn4 (al * bl) (al * bh) (ah * bl) (ah * bh) ≤ x * y ∧ x * y ≤ mx4 (al * bl) (al * bh) (ah * bl) (ah * bh) :=
  between4 (fun a b => a * b) al ah bl bh x y (mul_btw al ah x y x1 x2).1 (mul_btw al ah x y x1 x2).2
    (mul_btw' bl bh y al y1 y2).1 (mul_btw' bl bh y al y1 y2).2 (mul_btw' bl bh y ah y1 y2).1 (mul_btw' bl bh y ah y1 y2).2

theorem tdiv_le (a b c : Int) (hc : 0 < c) (h : a ≤ b) : a.tdiv c ≤ b.tdiv c := by
  rcases Int.le_total 0 a with ha | ha
  · rw [Int.tdiv_eq_ediv_of_nonneg ha, Int.tdiv_eq_ediv_of_nonneg (by omega)]
    exact Int.ediv_le_ediv hc h
  · rcases Int.le_total 0 b with hb | hb
    · have k1 : 0 ≤ b.tdiv c := Int.tdiv_nonneg hb (by omega)
      have k2 : 0 ≤ (-a).tdiv c := Int.tdiv_nonneg (by omega) (by omega)
      rw [Int.neg_tdiv] at k2
      omega
    · have k : (-b).tdiv c ≤ (-a).tdiv c := by
        rw [Int.tdiv_eq_ediv_of_nonneg (by omega : 0 ≤ -b), Int.tdiv_eq_ediv_of_nonneg (by omega : 0 ≤ -a)]
        exact Int.ediv_le_ediv hc (by omega)
      rw [Int.neg_tdiv, Int.neg_tdiv] at k
      omega
theorem tdiv_btw (a b x y : Int) (hy : y ≠ 0) (h1 : a ≤ x) (h2 : x ≤ b) : min (a.tdiv y) (b.tdiv y) ≤ x.tdiv y ∧ x.tdiv y ≤ max (a.tdiv y) (b.tdiv y) := by
  rcases Int.lt_or_gt_of_ne hy with h | h
  · have k1 := tdiv_le a x (-y) (by omega) h1
    have k2 := tdiv_le x b (-y) (by omega) h2
    rw [Int.tdiv_neg, Int.tdiv_neg] at k1 k2
    omega
  · have k1 := tdiv_le a x y h h1
    have k2 := tdiv_le x b y h h2
    omega
/-- Of a number that isn't below 0, a greater divisor makes no more. -/
theorem ediv_anti (x b c : Int) (hx : 0 ≤ x) (hb : 0 < b) (h : b ≤ c) : x / c ≤ x / b := by
  rw [Int.le_ediv_iff_mul_le hb]
  have k1 : x / c * b ≤ x / c * c := Int.mul_le_mul_of_nonneg_left h (Int.ediv_nonneg hx (by omega))
  have k2 := Int.ediv_mul_le x (show c ≠ 0 by omega)
  omega
theorem tdiv_anti (x b c : Int) (hx : 0 ≤ x) (hb : 0 < b) (h : b ≤ c) : x.tdiv c ≤ x.tdiv b := by
  rw [Int.tdiv_eq_ediv_of_nonneg hx, Int.tdiv_eq_ediv_of_nonneg hx]
  exact ediv_anti x b c hx hb h
theorem tdiv_btw' (b c x y : Int) (h0 : 0 < b ∨ c < 0) (h1 : b ≤ y) (h2 : y ≤ c) : min (x.tdiv b) (x.tdiv c) ≤ x.tdiv y ∧ x.tdiv y ≤ max (x.tdiv b) (x.tdiv c) := by
  rcases h0 with h0 | h0
  · rcases Int.le_total 0 x with hx | hx
    · have k1 := tdiv_anti x b y hx h0 h1
      have k2 := tdiv_anti x y c hx (by omega) h2
      omega
    · have k1 := tdiv_anti (-x) b y (by omega) h0 h1
      have k2 := tdiv_anti (-x) y c (by omega) (by omega) h2
      simp only [Int.neg_tdiv] at k1 k2
      omega
  · rcases Int.le_total 0 x with hx | hx
    · have k1 := tdiv_anti x (-y) (-b) hx (by omega) (by omega)
      have k2 := tdiv_anti x (-c) (-y) hx (by omega) (by omega)
      simp only [Int.tdiv_neg] at k1 k2
      omega
    · have k1 := tdiv_anti (-x) (-y) (-b) (by omega) (by omega) (by omega)
      have k2 := tdiv_anti (-x) (-c) (-y) (by omega) (by omega) (by omega)
      simp only [Int.tdiv_neg, Int.neg_tdiv] at k1 k2
      omega
theorem tdiv4 (al ah bl bh x y : Int) (h0 : 0 < bl ∨ bh < 0) (x1 : al ≤ x) (x2 : x ≤ ah) (y1 : bl ≤ y) (y2 : y ≤ bh) :
    mn4 (al.tdiv bl) (al.tdiv bh) (ah.tdiv bl) (ah.tdiv bh) ≤ x.tdiv y ∧ x.tdiv y ≤ mx4 (al.tdiv bl) (al.tdiv bh) (ah.tdiv bl) (ah.tdiv bh) :=
  between4 (fun a b => a.tdiv b) al ah bl bh x y (tdiv_btw al ah x y (by omega) x1 x2).1 (tdiv_btw al ah x y (by omega) x1 x2).2
    (tdiv_btw' bl bh al y h0 y1 y2).1 (tdiv_btw' bl bh al y h0 y1 y2).2 (tdiv_btw' bl bh ah y h0 y1 y2).1 (tdiv_btw' bl bh ah y h0 y1 y2).2

theorem pow_mono (b c : Int) (h0 : 0 ≤ b) (h : b ≤ c) : 0 < (2 : Int) ^ b.toNat ∧ (2 : Int) ^ b.toNat ≤ 2 ^ c.toNat := by
  have e1 : ((2 : Int) ^ b.toNat) = ((2 ^ b.toNat : Nat) : Int) := by simp
  have e2 : ((2 : Int) ^ c.toNat) = ((2 ^ c.toNat : Nat) : Int) := by simp
  have h1 : 0 < (2 : Nat) ^ b.toNat := Nat.two_pow_pos _
  have h2 : (2 : Nat) ^ b.toNat ≤ 2 ^ c.toNat := Nat.pow_le_pow_right (by decide) (by omega)
  rw [e1, e2]
  omega
theorem shl4 (al ah bl bh x y : Int) (h0 : 0 ≤ bl) (x1 : al ≤ x) (x2 : x ≤ ah) (y1 : bl ≤ y) (y2 : y ≤ bh) :
    mn4 (al * 2 ^ bl.toNat) (al * 2 ^ bh.toNat) (ah * 2 ^ bl.toNat) (ah * 2 ^ bh.toNat) ≤ x * 2 ^ y.toNat ∧ x * 2 ^ y.toNat ≤ mx4 (al * 2 ^ bl.toNat) (al * 2 ^ bh.toNat) (ah * 2 ^ bl.toNat) (ah * 2 ^ bh.toNat) :=
  mul4 al ah (2 ^ bl.toNat) (2 ^ bh.toNat) x (2 ^ y.toNat) x1 x2 (pow_mono bl y h0 y1).2 (pow_mono y bh (by omega) y2).2
theorem div_btw (a b x p : Int) (hp : 0 < p) (h1 : a ≤ x) (h2 : x ≤ b) : min (a / p) (b / p) ≤ x / p ∧ x / p ≤ max (a / p) (b / p) := by
  have k1 := Int.ediv_le_ediv hp h1
  have k2 := Int.ediv_le_ediv hp h2
  omega
/-- Of a number below 0, rounded down: a greater divisor makes no less. -/
theorem ediv_mono_neg (x b c : Int) (hx : x ≤ 0) (hb : 0 < b) (h : b ≤ c) : x / b ≤ x / c := by
  rw [Int.le_ediv_iff_mul_le (by omega)]
  have k0 : x / b ≤ 0 := by
    have := Int.ediv_le_ediv hb hx
    simpa using this
  have k1 : x / b * c ≤ x / b * b := Int.mul_le_mul_of_nonpos_left k0 h
  have k2 := Int.ediv_mul_le x (show b ≠ 0 by omega)
  omega
theorem div_btw' (p q x r : Int) (hp : 0 < p) (h1 : p ≤ r) (h2 : r ≤ q) : min (x / p) (x / q) ≤ x / r ∧ x / r ≤ max (x / p) (x / q) := by
  rcases Int.le_total 0 x with hx | hx
  · have k1 := ediv_anti x p r hx hp h1
    have k2 := ediv_anti x r q hx (by omega) h2
    omega
  · have k1 := ediv_mono_neg x p r hx hp h1
    have k2 := ediv_mono_neg x r q hx (by omega) h2
    omega
theorem shr4 (al ah bl bh x y : Int) (h0 : 0 ≤ bl) (x1 : al ≤ x) (x2 : x ≤ ah) (y1 : bl ≤ y) (y2 : y ≤ bh) :
    mn4 (al / 2 ^ bl.toNat) (al / 2 ^ bh.toNat) (ah / 2 ^ bl.toNat) (ah / 2 ^ bh.toNat) ≤ x / 2 ^ y.toNat ∧ x / 2 ^ y.toNat ≤ mx4 (al / 2 ^ bl.toNat) (al / 2 ^ bh.toNat) (ah / 2 ^ bl.toNat) (ah / 2 ^ bh.toNat) := by
  obtain ⟨p1, p2⟩ := pow_mono bl y h0 y1
  obtain ⟨p3, p4⟩ := pow_mono y bh (by omega) y2
  exact between4 (fun a b => a / b) al ah (2 ^ bl.toNat) (2 ^ bh.toNat) x (2 ^ y.toNat) (div_btw al ah x _ p3 x1 x2).1 (div_btw al ah x _ p3 x1 x2).2
    (div_btw' _ _ al _ p1 p2 p4).1 (div_btw' _ _ al _ p1 p2 p4).2 (div_btw' _ _ ah _ p1 p2 p4).1 (div_btw' _ _ ah _ p1 p2 p4).2

theorem mn_le_mx (a b c d : Int) : mn4 a b c d ≤ mx4 a b c d := by unfold mn4 mx4; omega

/-! ### What an operation makes of numbers of two spans lies in the span that is told -/
theorem inB_bd {l r a b : Int} (hn : l ≤ r) (h : inB l r a b = true) : a ≤ l ∧ r ≤ b := by
  unfold inB nonB at h
  simp at h
  omega
theorem fit_of (t v : Int) (h1 : low t ≤ v) (h2 : v ≤ high t) : fit t v = true := by
  unfold fit
  simp
  exact ⟨h1, h2⟩
theorem fi_holds (t L H v : Int) (h0 : 0 ≤ t) (h5 : t ≤ 5) (hn : L ≤ H) (h : inB L H (low t) (high t) = true → L ≤ v ∧ v ≤ H) (hb : fiB t L H = true) :
    keep2 t v = 0 ∧ fiL t L H ≤ keep1 t v ∧ keep1 t v ≤ fiH t L H := by
  unfold fiB at hb
  unfold fiL fiH keep1 keep2
  cases hi : inB L H (low t) (high t) with
  | true =>
    obtain ⟨k1, k2⟩ := h hi
    obtain ⟨k3, k4⟩ := inB_bd hn hi
    have kf := fit_of t v (by omega) (by omega)
    simp only [kf, wr_of_fit t v kf]
    simp
    omega
  | false =>
    rw [hi] at hb
    simp at hb
    simp only [hb]
    simp
    exact wr_fit t v h0 h5
theorem low_nb' (t : Int) (h0 : 0 ≤ t) (h5 : t ≤ 5) : -2147483648 ≤ low t ∧ high t ≤ 4294967295 ∧ low t ≤ 0 ∧ 0 ≤ high t := by
  unfold low high
  (repeat' split) <;> omega
theorem sgn_lo (t : Int) (h0 : 0 ≤ t) (h5 : t ≤ 5) : (sgn t = true ∧ low t = -high t - 1 ∧ high t ≤ 2147483647) ∨ (sgn t = false ∧ low t = 0) := by
  rcases cases7 h0 with rfl | rfl | rfl | rfl | rfl | rfl | h
  case inr.inr.inr.inr.inr.inr => omega
  all_goals simp [sgn, low, high]
theorem wrap64_bd (n : Int) : -9223372036854775808 ≤ RowKit.wrap64 n ∧ RowKit.wrap64 n ≤ 9223372036854775807 := by
  unfold RowKit.wrap64
  omega
/-- Where the corners of a product fit they are the products themselves. -/
theorem mul_nowrap (t al ah bl bh : Int) (h0 : 0 ≤ t) (h5 : t ≤ 5) (a1 : low t ≤ al) (a2 : ah ≤ high t) (b1 : low t ≤ bl) (b2 : bh ≤ high t) (ha : al ≤ ah) (hb : bl ≤ bh)
    (hi : inB (coL 3 al ah bl bh) (coH 3 al ah bl bh) (low t) (high t) = true) :
    coL 3 al ah bl bh = mn4 (al * bl) (al * bh) (ah * bl) (ah * bh) ∧ coH 3 al ah bl bh = mx4 (al * bl) (al * bh) (ah * bl) (ah * bh) := by
  obtain ⟨k1, k2⟩ := inB_bd (by unfold coL coH; exact mn_le_mx _ _ _ _) hi
  have e : ∀ x y, atP 3 x y = RowKit.wrap64 (x * y) := fun _ _ => rfl
  unfold coL coH
  unfold coL at k1
  simp only [e] at *
  obtain ⟨l1, l2, l3, l4⟩ := low_nb' t h0 h5
  suffices hs : RowKit.wrap64 (al * bl) = al * bl ∧ RowKit.wrap64 (al * bh) = al * bh ∧ RowKit.wrap64 (ah * bl) = ah * bl ∧ RowKit.wrap64 (ah * bh) = ah * bh by
    rw [hs.1, hs.2.1, hs.2.2.1, hs.2.2.2]
    exact ⟨rfl, rfl⟩
  rcases sgn_lo t h0 h5 with ⟨_, s1, s2⟩ | ⟨_, s1⟩
  · have m1 := mul_bd al bl (by omega) (by omega) (by omega) (by omega)
    have m2 := mul_bd al bh (by omega) (by omega) (by omega) (by omega)
    have m3 := mul_bd ah bl (by omega) (by omega) (by omega) (by omega)
    have m4 := mul_bd ah bh (by omega) (by omega) (by omega) (by omega)
    exact ⟨wrap_in _ m1.1 m1.2, wrap_in _ m2.1 m2.2, wrap_in _ m3.1 m3.2, wrap_in _ m4.1 m4.2⟩
  · have kw : 0 ≤ RowKit.wrap64 (ah * bh) := by
      have : mn4 (RowKit.wrap64 (al * bl)) (RowKit.wrap64 (al * bh)) (RowKit.wrap64 (ah * bl)) (RowKit.wrap64 (ah * bh)) ≤ RowKit.wrap64 (ah * bh) := by unfold mn4; omega
      omega
    have p1 : ah * bh ≤ 4294967295 * 4294967295 := Int.mul_le_mul (by omega) (by omega) (by omega) (by omega)
    have p0 : 0 ≤ ah * bh := Int.mul_nonneg (by omega) (by omega)
    have q1 : al * bh ≤ ah * bh := Int.mul_le_mul_of_nonneg_right ha (by omega)
    have q2 : ah * bl ≤ ah * bh := Int.mul_le_mul_of_nonneg_left hb (by omega)
    have q3 : al * bl ≤ al * bh := Int.mul_le_mul_of_nonneg_left hb (by omega)
    have r1 : 0 ≤ al * bl := Int.mul_nonneg (by omega) (by omega)
    have r2 : 0 ≤ al * bh := Int.mul_nonneg (by omega) (by omega)
    have r3 : 0 ≤ ah * bl := Int.mul_nonneg (by omega) (by omega)
    unfold RowKit.wrap64 at *
    omega
theorem add_co (al ah bl bh x y : Int) (x1 : al ≤ x) (x2 : x ≤ ah) (y1 : bl ≤ y) (y2 : y ≤ bh) : coL 1 al ah bl bh ≤ x + y ∧ x + y ≤ coH 1 al ah bl bh := by
  unfold coL coH
  simp only [show ∀ x y, atP 1 x y = x + y from fun _ _ => rfl]
  unfold mn4 mx4
  omega
theorem sub_co (al ah bl bh x y : Int) (x1 : al ≤ x) (x2 : x ≤ ah) (y1 : bl ≤ y) (y2 : y ≤ bh) : coL 2 al ah bl bh ≤ x - y ∧ x - y ≤ coH 2 al ah bl bh := by
  unfold coL coH
  simp only [show ∀ x y, atP 2 x y = x - y from fun _ _ => rfl]
  unfold mn4 mx4
  omega
theorem div_co (al ah bl bh x y : Int) (h0 : 0 < bl ∨ bh < 0) (x1 : al ≤ x) (x2 : x ≤ ah) (y1 : bl ≤ y) (y2 : y ≤ bh) : coL 4 al ah bl bh ≤ x.tdiv y ∧ x.tdiv y ≤ coH 4 al ah bl bh := by
  unfold coL coH
  simp only [show ∀ x y : Int, atP 4 x y = x.tdiv y from fun _ _ => rfl]
  exact tdiv4 al ah bl bh x y h0 x1 x2 y1 y2
theorem shl_co (al ah bl bh x y : Int) (h0 : 0 ≤ bl) (x1 : al ≤ x) (x2 : x ≤ ah) (y1 : bl ≤ y) (y2 : y ≤ bh) : coL 9 al ah bl bh ≤ x * 2 ^ y.toNat ∧ x * 2 ^ y.toNat ≤ coH 9 al ah bl bh := by
  unfold coL coH
  simp only [show ∀ x y : Int, atP 9 x y = x * 2 ^ y.toNat from fun _ _ => rfl]
  exact shl4 al ah bl bh x y h0 x1 x2 y1 y2
theorem shr_co (al ah bl bh x y : Int) (h0 : 0 ≤ bl) (x1 : al ≤ x) (x2 : x ≤ ah) (y1 : bl ≤ y) (y2 : y ≤ bh) : coL 10 al ah bl bh ≤ x / 2 ^ y.toNat ∧ x / 2 ^ y.toNat ≤ coH 10 al ah bl bh := by
  unfold coL coH
  simp only [show ∀ x y : Int, atP 10 x y = x / 2 ^ y.toNat from fun _ _ => rfl]
  exact shr4 al ah bl bh x y h0 x1 x2 y1 y2
theorem co_le (op al ah bl bh : Int) : coL op al ah bl bh ≤ coH op al ah bl bh := by unfold coL coH; exact mn_le_mx _ _ _ _
theorem mul_co (t al ah bl bh x y : Int) (h0 : 0 ≤ t) (h5 : t ≤ 5) (a1 : low t ≤ al) (a2 : ah ≤ high t) (b1 : low t ≤ bl) (b2 : bh ≤ high t) (x1 : al ≤ x) (x2 : x ≤ ah) (y1 : bl ≤ y) (y2 : y ≤ bh)
    (hi : inB (coL 3 al ah bl bh) (coH 3 al ah bl bh) (low t) (high t) = true) : coL 3 al ah bl bh ≤ x * y ∧ x * y ≤ coH 3 al ah bl bh := by
  obtain ⟨e1, e2⟩ := mul_nowrap t al ah bl bh h0 h5 a1 a2 b1 b2 (by omega) (by omega) hi
  rw [e1, e2]
  exact mul4 al ah bl bh x y x1 x2 y1 y2

theorem div_fit (t x y : Int) (h0 : 0 ≤ t) (h5 : t ≤ 5) (x1 : low t ≤ x) (x2 : x ≤ high t) (y1 : low t ≤ y) (hy : y ≠ 0) (hn : ¬(sgn t = true ∧ x = low t ∧ y = -1)) : fit t (x.tdiv y) = true := by
  obtain ⟨l1, l2, l3, l4⟩ := low_nb' t h0 h5
  have hh : low t ≤ x.tdiv y ∧ x.tdiv y ≤ high t := by
    by_cases e1 : y = 1
    · subst e1
      rw [Int.tdiv_one]
      omega
    by_cases e2 : y = -1
    · subst e2
      rw [Int.tdiv_neg, Int.tdiv_one]
      rcases sgn_lo t h0 h5 with ⟨s0, s1, s2⟩ | ⟨_, s1⟩
      · have : x ≠ low t := fun e => hn ⟨s0, e, rfl⟩
        omega
      · omega
    have k : (x.tdiv y).natAbs ≤ x.natAbs / 2 := by
      rw [Int.natAbs_tdiv]
      exact Nat.div_le_div_left (by omega) (by decide)
    rcases sgn_lo t h0 h5 with ⟨s0, s1, s2⟩ | ⟨_, s1⟩
    · omega
    · have : 0 ≤ x.tdiv y := Int.tdiv_nonneg (by omega) (by omega)
      omega
  exact fit_of t _ hh.1 hh.2

theorem rem_pp (x y : Int) (hx : 0 ≤ x) (hy : 0 < y) : 0 ≤ x - y * x.tdiv y ∧ x - y * x.tdiv y < y ∧ x - y * x.tdiv y ≤ x := by
  rw [Int.tdiv_eq_ediv_of_nonneg hx]
  have k := Int.mul_ediv_add_emod x y
  have k1 := Int.emod_nonneg x (show y ≠ 0 by omega)
  have k2 := Int.emod_lt_of_pos x hy
  have k3 : 0 ≤ y * (x / y) := Int.mul_nonneg (by omega) (Int.ediv_nonneg hx (by omega))
  omega
theorem rem_neg (x y : Int) : x - (-y) * x.tdiv (-y) = x - y * x.tdiv y := by
  rw [Int.tdiv_neg, Int.neg_mul_neg]
theorem rem_negl (x y : Int) : (-x) - y * (-x).tdiv y = -(x - y * x.tdiv y) := by
  rw [Int.neg_tdiv, Int.mul_neg]
  omega
theorem rem_p (x y : Int) (hx : 0 ≤ x) (hy : y ≠ 0) : 0 ≤ x - y * x.tdiv y ∧ x - y * x.tdiv y < (y.natAbs : Int) ∧ x - y * x.tdiv y ≤ x := by
  rcases Int.lt_or_gt_of_ne hy with h | h
  · have k := rem_pp x (-y) hx (by omega)
    rw [rem_neg] at k
    omega
  · have k := rem_pp x y hx h
    omega
theorem rem_n (x y : Int) (hx : x ≤ 0) (hy : y ≠ 0) : x - y * x.tdiv y ≤ 0 ∧ -(y.natAbs : Int) < x - y * x.tdiv y ∧ x ≤ x - y * x.tdiv y := by
  have k := rem_p (-x) y (by omega) hy
  rw [rem_negl] at k
  omega
theorem rem_co (al ah bl bh x y : Int) (h0 : 0 < bl ∨ bh < 0) (x1 : al ≤ x) (x2 : x ≤ ah) (y1 : bl ≤ y) (y2 : y ≤ bh) : reL al bl bh ≤ x - y * x.tdiv y ∧ x - y * x.tdiv y ≤ reH ah bl bh := by
  unfold reL reH reM
  rcases Int.le_total 0 x with hx | hx
  · have k := rem_p x y hx (by omega)
    (repeat' split) <;> omega
  · have k := rem_n x y hx (by omega)
    (repeat' split) <;> omega
theorem ba_of (t al ah bl bh x y : Int) (x1 : al ≤ x) (x2 : x ≤ ah) (y1 : bl ≤ y) (y2 : y ≤ bh) (h : baB t al ah bl bh = false) : (0 < bl ∨ bh < 0) ∧ ¬(sgn t = true ∧ x = low t ∧ y = -1) := by
  unfold baB hasB at h
  simp at h
  obtain ⟨k1, k2⟩ := h
  refine ⟨by omega, ?_⟩
  rintro ⟨e1, rfl, rfl⟩
  have := k2 e1 x1 x2 y1
  omega

theorem lt_bitLen : ∀ (n x : Nat), x ≤ n → x < 2 ^ 64 → x < 2 ^ Lib.bitLen x
  | 0, x, h, _ => by
    obtain rfl : x = 0 := by omega
    exact Nat.two_pow_pos _
  | n + 1, x, h, hx => by
    by_cases e : x = 0
    · subst e
      exact Nat.two_pow_pos _
    have k := lt_bitLen n (x / 2) (by omega) (by omega)
    rw [Lib.bitLen_half x e hx, Nat.add_comm, Nat.pow_succ]
    omega
theorem ones_lt (a m : Int) (h0 : 0 ≤ a) (h : a ≤ m) (hm : m ≤ 4294967295) : a.toNat < 2 ^ Lib.bitLen m.toNat := by
  have k := lt_bitLen m.toNat m.toNat (Nat.le_refl _) (Nat.lt_of_le_of_lt (show m.toNat ≤ 4294967295 by omega) (by decide))
  omega
theorem ones_cast (m : Int) : onesP m = ((2 ^ Lib.bitLen m.toNat : Nat) : Int) - 1 := by
  unfold onesP
  simp
theorem i64_wraps (n : Int) (h₀ : 0 ≤ n) (h₁ : n < 2 ^ 33) : IntKind.i64.wrap n = n := by rw [IntKind.wrap_i64]; omega
theorem bits_xor (a b : Nat) (ha : a < 2 ^ 33) (hb : b < 2 ^ 33) : bits .xor .i64 a b = ((a ^^^ b : Nat) : Int) := by
  have hp : 2 ^ 33 ≤ 2 ^ IntKind.i64.bits := Nat.pow_le_pow_right (by decide) (by decide)
  have ha' : a % 2 ^ IntKind.i64.bits = a := Nat.mod_eq_of_lt (Nat.lt_of_lt_of_le ha hp)
  have hb' : b % 2 ^ IntKind.i64.bits = b := Nat.mod_eq_of_lt (Nat.lt_of_lt_of_le hb hp)
  simp only [bits, BitVec.ofInt_natCast, BitVec.toNat_xor, BitVec.toNat_ofNat, ha', hb']
  refine i64_wraps _ (Int.natCast_nonneg _) ?_
  have := Nat.xor_lt_two_pow ha hb
  exact_mod_cast this
theorem bit_co (op al ah bl bh x y : Int) (ho : op = 6 ∨ op = 7 ∨ op = 8) (a0 : 0 ≤ al) (b0 : 0 ≤ bl) (a2 : ah ≤ 4294967295) (b2 : bh ≤ 4294967295) (x1 : al ≤ x) (x2 : x ≤ ah) (y1 : bl ≤ y) (y2 : y ≤ bh) :
    (if op = 7 then max al bl else 0) ≤ bits (bop op) .i64 x y ∧ bits (bop op) .i64 x y ≤ (if op = 6 then min ah bh else onesP (max ah bh)) := by
  have kx := ones_lt x (max ah bh) (by omega) (by omega) (by omega)
  have ky := ones_lt y (max ah bh) (by omega) (by omega) (by omega)
  rw [ones_cast]
  obtain ⟨a, rfl⟩ := Int.eq_ofNat_of_zero_le (show 0 ≤ x by omega)
  obtain ⟨b, rfl⟩ := Int.eq_ofNat_of_zero_le (show 0 ≤ y by omega)
  simp only [Int.toNat_natCast] at kx ky
  have ha : a < 2 ^ 33 := Nat.lt_of_le_of_lt (show a ≤ 4294967295 by omega) (by decide)
  have hb : b < 2 ^ 33 := Nat.lt_of_le_of_lt (show b ≤ 4294967295 by omega) (by decide)
  obtain ⟨n1, n2⟩ := bits_nat .i64 33 (by decide) i64_wraps a b ha hb
  have n3 := bits_xor a b ha hb
  generalize Lib.bitLen (max ah bh).toNat = k at *
  rcases ho with rfl | rfl | rfl
  · show 0 ≤ bits .and .i64 a b ∧ bits .and .i64 a b ≤ min ah bh
    rw [n1]
    have q1 : a &&& b ≤ a := Nat.and_le_left
    have q2 : a &&& b ≤ b := Nat.and_le_right
    omega
  · show max al bl ≤ bits .or .i64 a b ∧ bits .or .i64 a b ≤ ((2 ^ k : Nat) : Int) - 1
    rw [n2]
    have q1 : a ≤ a ||| b := Nat.left_le_or
    have q2 : b ≤ a ||| b := Nat.right_le_or
    have q3 := Nat.or_lt_two_pow kx ky
    omega
  · show 0 ≤ bits .xor .i64 a b ∧ bits .xor .i64 a b ≤ ((2 ^ k : Nat) : Int) - 1
    rw [n3]
    have q3 := Nat.xor_lt_two_pow kx ky
    omega

theorem cmp_co (op al ah bl bh x y : Int) (o1 : 11 ≤ op) (o2 : op ≤ 16) (x1 : al ≤ x) (x2 : x ≤ ah) (y1 : bl ≤ y) (y2 : y ≤ bh) :
    (cmA op al ah bl bh).1 ≤ cmp1 op x y ∧ cmp1 op x y ≤ (cmA op al ah bl bh).2 := by
  have ha : alB op al ah bl bh = true → cmpB op x y = true := by
    unfold alB cmpB saB apB
    have h : op = 11 ∨ op = 12 ∨ op = 13 ∨ op = 14 ∨ op = 15 ∨ op = 16 := by omega
    rcases h with rfl | rfl | rfl | rfl | rfl | rfl <;> simp <;> omega
  have hn : noB op al ah bl bh = true → cmpB op x y = false := by
    unfold noB cmpB saB apB
    have h : op = 11 ∨ op = 12 ∨ op = 13 ∨ op = 14 ∨ op = 15 ∨ op = 16 := by omega
    rcases h with rfl | rfl | rfl | rfl | rfl | rfl <;> simp <;> omega
  have e : cmp1 op x y = tr (cmpB op x y) := by
    unfold cmp1
    rw [if_neg (by omega)]
  rw [e]
  unfold cmA trL trH tr
  cases h1 : alB op al ah bl bh with
  | true => simp [ha h1]
  | false =>
    cases h2 : noB op al ah bl bh with
    | true => simp [hn h2]
    | false => cases cmpB op x y <;> simp

/-- Where an operation is said never to trap it never does, and what it makes of numbers of two spans lies in the span that is told. -/
theorem holds_any (op t al ah bl bh x y : Int) (h0 : 0 ≤ t) (h5 : t ≤ 5) (o1 : 1 ≤ op) (o2 : op ≤ 16) (a1 : low t ≤ al) (a2 : ah ≤ high t)
    (rb : op ≠ 9 → op ≠ 10 → low t ≤ bl ∧ bh ≤ high t) (x1 : al ≤ x) (x2 : x ≤ ah) (y1 : bl ≤ y) (y2 : y ≤ bh) (hok : (doA op t al ah bl bh).2.2 = true) :
    do2 op t x y = 0 ∧ (doA op t al ah bl bh).1 ≤ do1 op t x y ∧ do1 op t x y ≤ (doA op t al ah bl bh).2.1 := by
  obtain ⟨l1, l2, l3, l4⟩ := low_nb' t h0 h5
  have ra : rtB t al ah = true := by
    unfold rtB inB nonB
    simp
    omega
  have wx : wr t x = x := wr_of_fit t x (fit_of t x (by omega) (by omega))
  have n6 : ¬ 6 ≤ t := by omega
  by_cases h9 : op = 9 ∨ op = 10
  · have e : doA op t al ah bl bh = shA op t al ah bl bh := by
      unfold doA
      rw [if_neg (by rw [ra]; simp; omega), if_pos h9]
    rw [e] at hok ⊢
    unfold shA at hok ⊢
    have hn : nonB bl bh = false := by unfold nonB; simp; omega
    rw [hn] at hok ⊢
    cases hs : shB t bl bh with
    | true => rw [hs] at hok; simp at hok
    | false =>
      rw [hs] at hok
      have hs' : 0 ≤ bl ∧ bh < wid t := by
        unfold shB at hs
        simp at hs
        omega
      have c1 : ¬(y < 0 ∨ wid t ≤ y) := by omega
      rcases h9 with rfl | rfl
      · simp only [fiA] at hok ⊢
        simp at hok
        have k := shl_co al ah bl bh x y hs'.1 x1 x2 y1 y2
        have r := fi_holds t _ _ (x * 2 ^ y.toNat) h0 h5 (co_le 9 al ah bl bh) (fun _ => k) hok
        simp [do1, do2, n6, shl1, shl2, wx, c1]
        exact r
      · have k := shr_co al ah bl bh x y hs'.1 x1 x2 y1 y2
        simp [do1, do2, n6, shr1, shr2, wx, c1]
        exact k
  obtain ⟨b1, b2⟩ := rb (fun h => h9 (.inl h)) (fun h => h9 (.inr h))
  have rb' : rtB t bl bh = true := by
    unfold rtB inB nonB
    simp
    omega
  have wy : wr t y = y := wr_of_fit t y (fit_of t y (by omega) (by omega))
  have e : doA op t al ah bl bh = if op ≤ 3 then fiA t (coL op al ah bl bh) (coH op al ah bl bh)
      else if op ≤ 5 then divA op t al ah bl bh
      else if op ≤ 8 then (biL op t al ah bl bh, biH op t al ah bl bh, true)
      else ((cmA op al ah bl bh).1, (cmA op al ah bl bh).2, true) := by
    unfold doA
    rw [if_neg (by rw [ra]; simp; omega), if_neg h9, if_neg (by rw [rb']; simp)]
  rw [e] at hok ⊢
  by_cases c3 : op ≤ 3
  · rw [if_pos c3] at hok ⊢
    have h : op = 1 ∨ op = 2 ∨ op = 3 := by omega
    rcases h with rfl | rfl | rfl
    · have r := fi_holds t _ _ (x + y) h0 h5 (co_le 1 al ah bl bh) (fun _ => add_co al ah bl bh x y x1 x2 y1 y2) hok
      simp only [fiA, do1, do2, if_neg n6, wx, wy]
      exact r
    · have r := fi_holds t _ _ (x - y) h0 h5 (co_le 2 al ah bl bh) (fun _ => sub_co al ah bl bh x y x1 x2 y1 y2) hok
      simp only [fiA, do1, do2, if_neg n6, wx, wy]
      exact r
    · have r := fi_holds t _ _ (x * y) h0 h5 (co_le 3 al ah bl bh) (fun hi => mul_co t al ah bl bh x y h0 h5 a1 a2 b1 b2 x1 x2 y1 y2 hi) hok
      simp only [fiA, do1, do2, if_neg n6, wx, wy]
      exact r
  rw [if_neg c3] at hok ⊢
  by_cases c5 : op ≤ 5
  · rw [if_pos c5] at hok ⊢
    unfold divA at hok ⊢
    cases hb : baB t al ah bl bh with
    | true => rw [hb] at hok; simp at hok
    | false =>
      obtain ⟨k1, k2⟩ := ba_of t al ah bl bh x y x1 x2 y1 y2 hb
      have kf := div_fit t x y h0 h5 (by omega) (by omega) (by omega) (by omega) k2
      have yn : y ≠ 0 := by omega
      have h : op = 4 ∨ op = 5 := by omega
      rcases h with rfl | rfl
      · have r := div_co al ah bl bh x y k1 x1 x2 y1 y2
        simp [do1, do2, n6, wx, wy, div1, div2, yn, kf]
        exact r
      · have r := rem_co al ah bl bh x y k1 x1 x2 y1 y2
        simp [do1, do2, n6, wx, wy, div1, div2, yn, kf]
        exact r
  rw [if_neg c5] at hok ⊢
  by_cases c8 : op ≤ 8
  · rw [if_pos c8]
    have h : op = 6 ∨ op = 7 ∨ op = 8 := by omega
    have d2 : do2 op t x y = 0 := by rcases h with rfl | rfl | rfl <;> simp [do2, n6]
    have d1 : do1 op t x y = bits (bop op) .i64 x y := by rcases h with rfl | rfl | rfl <;> simp [do1, n6, wx, wy, bop]
    rw [d1, d2]
    refine ⟨rfl, ?_⟩
    unfold biL biH
    cases hz : (decide (al < 0) || decide (bl < 0)) with
    | true =>
      simp
      exact bits_fit t op x y h0 h5 (by omega) (by omega) (by omega) (by omega)
    | false =>
      simp at hz
      simp
      exact bit_co op al ah bl bh x y h hz.1 hz.2 (by omega) (by omega) x1 x2 y1 y2
  rw [if_neg c8]
  have d2 : do2 op t x y = 0 := by
    have h : op = 11 ∨ op = 12 ∨ op = 13 ∨ op = 14 ∨ op = 15 ∨ op = 16 := by omega
    rcases h with rfl | rfl | rfl | rfl | rfl | rfl <;> simp [do2, n6, cmp2]
  have d1 : do1 op t x y = cmp1 op x y := by
    have h : op = 11 ∨ op = 12 ∨ op = 13 ∨ op = 14 ∨ op = 15 ∨ op = 16 := by omega
    rcases h with rfl | rfl | rfl | rfl | rfl | rfl <;> simp [do1, n6, wx, wy]
  rw [d1, d2]
  exact ⟨rfl, cmp_co op al ah bl bh x y (by omega) o2 x1 x2 y1 y2⟩

/-! ### Of wider spans the span is no narrower -/
theorem inB_of {l r a b : Int} (h1 : a ≤ l) (h2 : r ≤ b) : inB l r a b = true := by
  unfold inB nonB
  simp
  omega
theorem fi_grows (t L H L' H' : Int) (h0 : 0 ≤ t) (h5 : t ≤ 5) (hn : L ≤ H) (hn' : L' ≤ H') (h : inB L' H' (low t) (high t) = true → L' ≤ L ∧ H ≤ H') (hb : fiB t L' H' = true) :
    fiB t L H = true ∧ inB (fiL t L H) (fiH t L H) (fiL t L' H') (fiH t L' H') = true := by
  unfold fiB at hb
  unfold fiL fiH fiB
  cases hi : inB L' H' (low t) (high t) with
  | true =>
    obtain ⟨k1, k2⟩ := h hi
    obtain ⟨k3, k4⟩ := inB_bd hn' hi
    have e : inB L H (low t) (high t) = true := inB_of (by omega) (by omega)
    rw [e]
    exact ⟨rfl, inB_of k1 k2⟩
  | false =>
    rw [hi] at hb
    simp at hb
    cases he : inB L H (low t) (high t) with
    | true =>
      obtain ⟨k3, k4⟩ := inB_bd hn he
      exact ⟨rfl, inB_of k3 k4⟩
    | false =>
      simp [hb]
      exact inB_of (Int.le_refl _) (Int.le_refl _)
theorem co_in (op al ah bl bh L H : Int) (h : ∀ x y, (x = al ∨ x = ah) → (y = bl ∨ y = bh) → L ≤ atP op x y ∧ atP op x y ≤ H) : L ≤ coL op al ah bl bh ∧ coH op al ah bl bh ≤ H := by
  have p1 := h al bl (.inl rfl) (.inl rfl)
  have p2 := h al bh (.inl rfl) (.inr rfl)
  have p3 := h ah bl (.inr rfl) (.inl rfl)
  have p4 := h ah bh (.inr rfl) (.inr rfl)
  unfold coL coH mn4 mx4
  omega
/-- A span within another one. -/
structure Wi (al ah cl ch : Int) : Prop where
  ne : al ≤ ah
  lo : cl ≤ al
  hi : ah ≤ ch
theorem Wi.pt {al ah cl ch : Int} (w : Wi al ah cl ch) {x : Int} (h : x = al ∨ x = ah) : cl ≤ x ∧ x ≤ ch := by
  obtain ⟨w1, w2, w3⟩ := w
  rcases h with rfl | rfl <;> omega
theorem mul_grow (t al ah bl bh cl ch dl dh : Int) (h0 : 0 ≤ t) (h5 : t ≤ 5) (wa : Wi al ah cl ch) (wb : Wi bl bh dl dh) (c1 : low t ≤ cl) (c2 : ch ≤ high t) (d1 : low t ≤ dl) (d2 : dh ≤ high t)
    (hi : inB (coL 3 cl ch dl dh) (coH 3 cl ch dl dh) (low t) (high t) = true) : coL 3 cl ch dl dh ≤ coL 3 al ah bl bh ∧ coH 3 al ah bl bh ≤ coH 3 cl ch dl dh := by
  obtain ⟨l1, l2, l3, l4⟩ := low_nb' t h0 h5
  refine co_in 3 al ah bl bh _ _ fun x y hx hy => ?_
  obtain ⟨x1, x2⟩ := wa.pt hx
  obtain ⟨y1, y2⟩ := wb.pt hy
  have k := mul_co t cl ch dl dh x y h0 h5 c1 c2 d1 d2 x1 x2 y1 y2 hi
  obtain ⟨k1, k2⟩ := inB_bd (co_le 3 cl ch dl dh) hi
  have e : atP 3 x y = x * y := wrap_in _ (by omega) (by omega)
  rw [e]
  exact k
theorem bitLen_mono (x y : Int) (h0 : 0 ≤ x) (h : x ≤ y) (hy : y ≤ 4294967295) : Lib.bitLen x.toNat ≤ Lib.bitLen y.toNat := by
  have k := ones_lt x y h0 h hy
  refine Lib.bitLen_le x.toNat (Lib.bitLen y.toNat) ?_ k
  have h2 : y.toNat < 2 ^ 32 := Nat.lt_of_le_of_lt (show y.toNat ≤ 4294967295 by omega) (by decide)
  have := Lib.bitLen_le y.toNat 32 (by decide) h2
  omega
theorem ones_mono (x y : Int) (h0 : 0 ≤ x) (h : x ≤ y) (hy : y ≤ 4294967295) : onesP x ≤ onesP y := by
  have k := bitLen_mono x y h0 h hy
  rw [ones_cast, ones_cast]
  have h2 : (2 : Nat) ^ Lib.bitLen x.toNat ≤ 2 ^ Lib.bitLen y.toNat := Nat.pow_le_pow_right (by decide) k
  omega
theorem ones_high (t m : Int) (h0 : 0 ≤ t) (h5 : t ≤ 5) (m0 : 0 ≤ m) (hm : m ≤ high t) : onesP m ≤ high t := by
  have hh := low_nb' t h0 h5
  have k := ones_mono m (high t) m0 hm (by omega)
  have e : onesP (high t) = high t := by
    rcases cases7 h0 with rfl | rfl | rfl | rfl | rfl | rfl | h
    case inr.inr.inr.inr.inr.inr => omega
    all_goals decide +kernel
  omega
theorem bit_grow (op t al ah bl bh cl ch dl dh : Int) (ho : op = 6 ∨ op = 7 ∨ op = 8) (h0 : 0 ≤ t) (h5 : t ≤ 5) (wa : Wi al ah cl ch) (wb : Wi bl bh dl dh) (c1 : low t ≤ cl) (c2 : ch ≤ high t) (d1 : low t ≤ dl) (d2 : dh ≤ high t) :
    inB (biL op t al ah bl bh) (biH op t al ah bl bh) (biL op t cl ch dl dh) (biH op t cl ch dl dh) = true := by
  obtain ⟨l1, l2, l3, l4⟩ := low_nb' t h0 h5
  obtain ⟨wa1, wa2, wa3⟩ := wa
  obtain ⟨wb1, wb2, wb3⟩ := wb
  unfold biL biH
  cases hz : (decide (cl < 0) || decide (dl < 0)) with
  | true =>
    cases hy : (decide (al < 0) || decide (bl < 0)) with
    | true => exact inB_of (Int.le_refl _) (Int.le_refl _)
    | false =>
      simp at hy
      have k := ones_high t (max ah bh) h0 h5 (by omega) (by omega)
      simp
      refine inB_of ?_ ?_
      · split <;> omega
      · split <;> omega
  | false =>
    simp at hz
    have hy : (decide (al < 0) || decide (bl < 0)) = false := by simp; omega
    rw [hy]
    have k := ones_mono (max ah bh) (max ch dh) (by omega) (by omega) (by omega)
    simp
    refine inB_of ?_ ?_
    · split <;> omega
    · split <;> omega
theorem ba_grow (t al ah bl bh cl ch dl dh : Int) (wa : Wi al ah cl ch) (wb : Wi bl bh dl dh) (h : baB t cl ch dl dh = false) : baB t al ah bl bh = false := by
  obtain ⟨wa1, wa2, wa3⟩ := wa
  obtain ⟨wb1, wb2, wb3⟩ := wb
  unfold baB hasB at *
  simp at *
  obtain ⟨k1, k2⟩ := h
  refine ⟨by omega, ?_⟩
  intro e q1 q2 q3
  have := k2 e (by omega) (by omega) (by omega)
  omega
theorem rem_grow (al ah bl bh cl ch dl dh : Int) (h0 : 0 < dl ∨ dh < 0) (wa : Wi al ah cl ch) (wb : Wi bl bh dl dh) : reL cl dl dh ≤ reL al bl bh ∧ reH ah bl bh ≤ reH ch dl dh := by
  obtain ⟨wa1, wa2, wa3⟩ := wa
  obtain ⟨wb1, wb2, wb3⟩ := wb
  unfold reL reH reM
  constructor <;> (repeat' split) <;> omega
theorem cmp_grow (op al ah bl bh cl ch dl dh : Int) (o1 : 11 ≤ op) (o2 : op ≤ 16) (wa : Wi al ah cl ch) (wb : Wi bl bh dl dh) :
    inB (cmA op al ah bl bh).1 (cmA op al ah bl bh).2 (cmA op cl ch dl dh).1 (cmA op cl ch dl dh).2 = true := by
  obtain ⟨wa1, wa2, wa3⟩ := wa
  obtain ⟨wb1, wb2, wb3⟩ := wb
  have h : op = 11 ∨ op = 12 ∨ op = 13 ∨ op = 14 ∨ op = 15 ∨ op = 16 := by omega
  have ha : alB op cl ch dl dh = true → alB op al ah bl bh = true := by
    unfold alB saB apB
    rcases h with rfl | rfl | rfl | rfl | rfl | rfl <;> simp <;> omega
  have hn : noB op cl ch dl dh = true → noB op al ah bl bh = true := by
    unfold noB saB apB
    rcases h with rfl | rfl | rfl | rfl | rfl | rfl <;> simp <;> omega
  have hx : alB op al ah bl bh = true → noB op al ah bl bh = false := by
    unfold noB alB saB apB
    rcases h with rfl | rfl | rfl | rfl | rfl | rfl <;> simp <;> omega
  unfold cmA trL trH
  refine inB_of ?_ ?_
  · cases h1 : alB op cl ch dl dh with
    | true => simp [ha h1]
    | false => simp; split <;> omega
  · cases h1 : alB op cl ch dl dh with
    | true => simp [ha h1]
    | false =>
      cases h2 : noB op cl ch dl dh with
      | true =>
        have e := hn h2
        cases h3 : alB op al ah bl bh with
        | true => rw [hx h3] at e; cases e
        | false => simp [e]
      | false => simp; (repeat' split) <;> omega
theorem grows_any (op t al ah bl bh cl ch dl dh : Int) (h0 : 0 ≤ t) (h5 : t ≤ 5) (o1 : 1 ≤ op) (o2 : op ≤ 16) (wa : Wi al ah cl ch) (wb : Wi bl bh dl dh) (c1 : low t ≤ cl) (c2 : ch ≤ high t) (d1 : low t ≤ dl) (d2 : dh ≤ high t)
    (hok : (doA op t cl ch dl dh).2.2 = true) :
    (doA op t al ah bl bh).2.2 = true ∧ inB (doA op t al ah bl bh).1 (doA op t al ah bl bh).2.1 (doA op t cl ch dl dh).1 (doA op t cl ch dl dh).2.1 = true := by
  have wa' := wa
  have wb' := wb
  obtain ⟨wa1, wa2, wa3⟩ := wa'
  obtain ⟨wb1, wb2, wb3⟩ := wb'
  have rt : ∀ l r, l ≤ r → low t ≤ l → r ≤ high t → rtB t l r = true := by
    intro l r q1 q2 q3
    unfold rtB inB nonB
    simp
    omega
  have ra := rt al ah wa1 (by omega) (by omega)
  have rc := rt cl ch (by omega) c1 c2
  by_cases h9 : op = 9 ∨ op = 10
  · have e : ∀ a b c d, rtB t a b = true → doA op t a b c d = shA op t a b c d := by
      intro a b c d r
      unfold doA
      rw [if_neg (by rw [r]; simp; omega), if_pos h9]
    rw [e _ _ _ _ rc] at hok
    rw [e _ _ _ _ rc, e _ _ _ _ ra]
    unfold shA at hok ⊢
    have hn : nonB dl dh = false := by unfold nonB; simp; omega
    have hn' : nonB bl bh = false := by unfold nonB; simp; omega
    rw [hn] at hok ⊢
    rw [hn']
    cases hs : shB t dl dh with
    | true => rw [hs] at hok; simp at hok
    | false =>
      rw [hs] at hok
      have hs' : 0 ≤ dl ∧ dh < wid t := by
        unfold shB at hs
        simp at hs
        omega
      have hs2 : shB t bl bh = false := by
        unfold shB
        simp
        omega
      rw [hs2]
      rcases h9 with rfl | rfl
      · simp only [fiA] at hok ⊢
        simp at hok
        simp
        refine fi_grows t _ _ _ _ h0 h5 (co_le 9 _ _ _ _) (co_le 9 _ _ _ _) (fun _ => co_in 9 al ah bl bh _ _ fun x y hx hy => ?_) hok
        obtain ⟨x1, x2⟩ := wa.pt hx
        obtain ⟨y1, y2⟩ := wb.pt hy
        exact shl_co cl ch dl dh x y hs'.1 x1 x2 y1 y2
      · simp
        have k := co_in 10 al ah bl bh (coL 10 cl ch dl dh) (coH 10 cl ch dl dh) fun x y hx hy => shr_co cl ch dl dh x y hs'.1 (wa.pt hx).1 (wa.pt hx).2 (wb.pt hy).1 (wb.pt hy).2
        exact inB_of k.1 k.2
  have rb := rt bl bh wb1 (by omega) (by omega)
  have rd := rt dl dh (by omega) d1 d2
  have e : ∀ a b c d, rtB t a b = true → rtB t c d = true → doA op t a b c d = if op ≤ 3 then fiA t (coL op a b c d) (coH op a b c d)
      else if op ≤ 5 then divA op t a b c d
      else if op ≤ 8 then (biL op t a b c d, biH op t a b c d, true)
      else ((cmA op a b c d).1, (cmA op a b c d).2, true) := by
    intro a b c d r r'
    unfold doA
    rw [if_neg (by rw [r]; simp; omega), if_neg h9, if_neg (by rw [r']; simp)]
  rw [e _ _ _ _ rc rd] at hok
  rw [e _ _ _ _ rc rd, e _ _ _ _ ra rb]
  by_cases c3 : op ≤ 3
  · simp only [if_pos c3] at hok ⊢
    refine fi_grows t _ _ _ _ h0 h5 (co_le op _ _ _ _) (co_le op _ _ _ _) (fun hi => ?_) hok
    have h : op = 1 ∨ op = 2 ∨ op = 3 := by omega
    rcases h with rfl | rfl | rfl
    · exact co_in 1 al ah bl bh _ _ fun x y hx hy => add_co cl ch dl dh x y (wa.pt hx).1 (wa.pt hx).2 (wb.pt hy).1 (wb.pt hy).2
    · exact co_in 2 al ah bl bh _ _ fun x y hx hy => sub_co cl ch dl dh x y (wa.pt hx).1 (wa.pt hx).2 (wb.pt hy).1 (wb.pt hy).2
    · exact mul_grow t al ah bl bh cl ch dl dh h0 h5 wa wb c1 c2 d1 d2 hi
  simp only [if_neg c3] at hok ⊢
  by_cases c5 : op ≤ 5
  · simp only [if_pos c5] at hok ⊢
    unfold divA at hok ⊢
    cases hb : baB t cl ch dl dh with
    | true => rw [hb] at hok; simp at hok
    | false =>
      rw [ba_grow t al ah bl bh cl ch dl dh wa wb hb]
      obtain ⟨k1, k2⟩ := ba_of t cl ch dl dh cl dl (by omega) (by omega) (by omega) (by omega) hb
      have h : op = 4 ∨ op = 5 := by omega
      rcases h with rfl | rfl
      · simp
        have k := co_in 4 al ah bl bh (coL 4 cl ch dl dh) (coH 4 cl ch dl dh) fun x y hx hy => div_co cl ch dl dh x y k1 (wa.pt hx).1 (wa.pt hx).2 (wb.pt hy).1 (wb.pt hy).2
        exact inB_of k.1 k.2
      · simp
        have k := rem_grow al ah bl bh cl ch dl dh k1 wa wb
        exact inB_of k.1 k.2
  simp only [if_neg c5]
  by_cases c8 : op ≤ 8
  · simp only [if_pos c8]
    exact ⟨trivial, bit_grow op t al ah bl bh cl ch dl dh (by omega) h0 h5 wa wb c1 c2 d1 d2⟩
  simp only [if_neg c8]
  exact ⟨trivial, cmp_grow op al ah bl bh cl ch dl dh (by omega) o2 wa wb⟩

end Burin
