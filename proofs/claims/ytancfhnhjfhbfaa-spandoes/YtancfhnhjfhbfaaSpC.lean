/-
  What the closures of layer 10, ones, rest and Has return: contracts over the program; the conditions: numbers of at most 33 bits.
-/
import Derived.Test.YtancfhnhjfhbfaaSpB
import Derived.Test.YtancfhnhjfhbfaaPlainB
import Derived.Lib.BitFns
set_option linter.unusedVariables false
namespace Burin
open Go
def hasB (l h v : Int) : Bool := decide (l ≤ v) && decide (v ≤ h)
def atP (op x y : Int) : Int := if op = 1 then x + y else if op = 2 then x - y else if op = 3 then RowKit.wrap64 (x * y) else if op = 4 then x.tdiv y else if op = 9 then x * 2 ^ y.toNat else x / 2 ^ y.toNat
def coL (op al ah bl bh : Int) : Int := mn4 (atP op al bl) (atP op al bh) (atP op ah bl) (atP op ah bh)
def coH (op al ah bl bh : Int) : Int := mx4 (atP op al bl) (atP op al bh) (atP op ah bl) (atP op ah bh)
def onesP (v : Int) : Int := 2 ^ Lib.bitLen v.toNat - 1
def reM (bl bh : Int) : Int := max bh (-bl) - 1
def reL (al bl bh : Int) : Int := if al < 0 then max al (-reM bl bh) else 0
def reH (ah bl bh : Int) : Int := if 0 < ah then min ah (reM bl bh) else 0
/-- A number of one of the types. -/
def nb (x : Int) : Prop := -2147483648 ≤ x ∧ x ≤ 4294967295
end Burin
namespace Go.Proofs.Ytancfhnhjfhbfaa
open Go.RowKit
open Burin
set_option linter.unusedVariables false
attribute [local go_sem ↓] run_min2 run_max2 run_min4 run_max4

theorem tab_size : Lib.len8tab.size = 256 := by kernel_rfl
theorem tab_len : ∀ n : Fin 256, (Lib.len8tab[n.val]'(by rw [tab_size]; exact n.isLt)).toNat = Lib.bitLen n.val := by decide +kernel
theorem tab_of (e : Int) (h : e.toNat < Lib.len8tab.size) (h1 : e ≤ 255) : (Lib.len8tab[e.toNat]'h).toNat = Lib.bitLen e.toNat := tab_len ⟨e.toNat, by omega⟩

/-- A number whose upper part is one of the table's. -/
theorem len_fin (k m : Nat) (hk : k ≤ 56) (x e : Int) (s : Lib.bitLen x.toNat = k + Lib.bitLen (x.toNat / m)) (he : e.toNat = x.toNat / m) (h8 : e ≤ 255) :
    wrap64 ((k : Int) + wrap64 (Lib.bitLen e.toNat : Int)) = (Lib.bitLen x.toNat : Int) := by
  have l : Lib.bitLen e.toNat ≤ 8 := Lib.bitLen_le8 ⟨e.toNat, by omega⟩
  rw [← he] at s
  generalize Lib.bitLen e.toNat = A at *
  generalize Lib.bitLen x.toNat = B at *
  unfold wrap64
  omega

set_option maxHeartbeats 4000000 in
set_option maxRecDepth 100000 in
theorem len64 (x : Int) (w : World) (h0 : 0 ≤ x) (h1 : x ≤ 18446744073709551615) :
    Calls Try.prog 70 #[.int .u64 x] w fun e w' => e = .returned (.int .i64 (Lib.bitLen x.toNat)) ∧ w' = w := by
  have HS := hideIt tab_size
  go_enter Try.func70, Try.ntmps70
  go_wp2_with (fail)
  all_goals first | (exfalso; have := HS.out; omega) | (go_ret; refine ⟨congrArg Ending.returned (congrArg (Value.int IntKind.i64) ?_), rfl⟩)
  all_goals have hs := HS.out
  all_goals rw [tab_of _ _ (by omega)]
  · exact len_fin 56 72057594037927936 (by omega) x _ (Lib.bitLen_shift56 x.toNat (by omega) (by omega)) (by omega) (by omega)
  · exact len_fin 48 281474976710656 (by omega) x _ (Lib.bitLen_shift48 x.toNat (by omega) (by omega)) (by omega) (by omega)
  · exact len_fin 40 1099511627776 (by omega) x _ (Lib.bitLen_shift40 x.toNat (by omega) (by omega)) (by omega) (by omega)
  · exact len_fin 32 4294967296 (by omega) x _ (Lib.bitLen_shift32 x.toNat (by omega) (by omega)) (by omega) (by omega)
  · exact len_fin 24 16777216 (by omega) x _ (Lib.bitLen_shift24 x.toNat (by omega) (by omega)) (by omega) (by omega)
  · exact len_fin 16 65536 (by omega) x _ (Lib.bitLen_shift16 x.toNat (by omega) (by omega)) (by omega) (by omega)
  · exact len_fin 8 256 (by omega) x _ (Lib.bitLen_shift8 x.toNat (by omega) (by omega)) (by omega) (by omega)
  · have l : Lib.bitLen x.toNat ≤ 8 := Lib.bitLen_le8 ⟨x.toNat, by omega⟩
    generalize Lib.bitLen x.toNat = A at *
    unfold wrap64
    omega

theorem hasB_any (l h v : Int) (w : World) : Calls Try.prog 18 #[spV l h, .int .i64 v] w fun e w' => e = .returned (.bool (hasB l h v)) ∧ Q w w' := has_any l h v w

set_option maxHeartbeats 400000 in
theorem clo_0 (x y : Int) (u : World) (hx : nb x) (hy : nb y) : Calls Try.prog 34 #[.int .i64 x, .int .i64 y] u fun e w' => e = .returned (.int .i64 (atP 1 x y)) ∧ ∃ n, w' = u.drewN n := by
  obtain ⟨x1, x2⟩ := hx
  obtain ⟨y1, y2⟩ := hy
  have ea : atP 1 x y = x + y := rfl
  rw [ea]
  clear ea
  go_enter Try.func34, Try.ntmps34
  go_wp2
  go_ret
  exact ⟨rfl, 0, rfl⟩

set_option maxHeartbeats 400000 in
theorem clo_1 (x y : Int) (u : World) (hx : nb x) (hy : nb y) : Calls Try.prog 35 #[.int .i64 x, .int .i64 y] u fun e w' => e = .returned (.int .i64 (atP 2 x y)) ∧ ∃ n, w' = u.drewN n := by
  obtain ⟨x1, x2⟩ := hx
  obtain ⟨y1, y2⟩ := hy
  have ea : atP 2 x y = x - y := rfl
  rw [ea]
  clear ea
  go_enter Try.func35, Try.ntmps35
  go_wp2
  go_ret
  exact ⟨rfl, 0, rfl⟩

set_option maxHeartbeats 400000 in
theorem clo_2 (x y : Int) (u : World) : Calls Try.prog 36 #[.int .i64 x, .int .i64 y] u fun e w' => e = .returned (.int .i64 (atP 3 x y)) ∧ ∃ n, w' = u.drewN n := by
  have ea : atP 3 x y = wrap64 (x * y) := rfl
  rw [ea]
  clear ea
  go_enter Try.func36, Try.ntmps36
  go_wp2
  go_ret
  exact ⟨rfl, 0, rfl⟩

set_option maxHeartbeats 400000 in
theorem clo_5 (x y : Int) (u : World) (hx : nb x) (hy : nb y) (h0 : y ≠ 0) : Calls Try.prog 66 #[.int .i64 x, .int .i64 y] u fun e w' => e = .returned (.int .i64 (atP 4 x y)) ∧ ∃ n, w' = u.drewN n := by
  obtain ⟨x1, x2⟩ := hx
  obtain ⟨y1, y2⟩ := hy
  have ea : atP 4 x y = x.tdiv y := rfl
  rw [ea]
  clear ea
  have hk : (y == 0) = false := by simpa using h0
  obtain ⟨p1, p2⟩ := tdiv_bd x y (by omega) (by omega)
  go_enter Try.func66, Try.ntmps66
  go_wp2
  go_ret
  exact ⟨rfl, 0, rfl⟩

set_option maxHeartbeats 400000 in
theorem clo_3 (x y : Int) (u : World) (hx : nb x) (hy : 0 ≤ y) (hy2 : y < 32) : Calls Try.prog 63 #[.int .i64 x, .int .i64 y] u fun e w' => e = .returned (.int .i64 (atP 10 x y)) ∧ ∃ n, w' = u.drewN n := by
  obtain ⟨x1, x2⟩ := hx
  have ea : atP 10 x y = x / 2 ^ y.toNat := rfl
  rw [ea]
  clear ea
  go_enter Try.func63, Try.ntmps63
  go_wp2
  go_ret
  exact ⟨rfl, 0, rfl⟩

set_option maxHeartbeats 400000 in
theorem clo_4 (x y : Int) (u : World) (hx : nb x) (hy : 0 ≤ y) (hy2 : y < 32) : Calls Try.prog 64 #[.int .i64 x, .int .i64 y] u fun e w' => e = .returned (.int .i64 (atP 9 x y)) ∧ ∃ n, w' = u.drewN n := by
  obtain ⟨x1, x2⟩ := hx
  have ea : atP 9 x y = x * 2 ^ y.toNat := rfl
  rw [ea]
  clear ea
  have pb := pow_bd y hy hy2
  have mb := mul_pow_bd x _ x1 x2 pb.1 pb.2
  go_enter Try.func64, Try.ntmps64
  go_wp2
  go_ret
  exact ⟨rfl, 0, rfl⟩

theorem ones_pow (k : Nat) (h : k ≤ 32) : 1 ≤ (2 : Int) ^ k ∧ (2 : Int) ^ k ≤ 4294967296 := by
  have h1 : 0 < (2 : Nat) ^ k := Nat.two_pow_pos k
  have h2 : (2 : Nat) ^ k ≤ 2 ^ 32 := Nat.pow_le_pow_right (by decide) h
  have e : ((2 : Int) ^ k) = ((2 ^ k : Nat) : Int) := by simp
  rw [e]
  omega

set_option maxHeartbeats 400000 in
theorem ones_any (v : Int) (w : World) (h0 : 0 ≤ v) (h1 : v ≤ 4294967295) : Calls Try.prog 67 #[.int .i64 v] w fun e w' => e = .returned (.int .i64 (onesP v)) ∧ w' = w := by
  unfold onesP
  have HL := hideIt (len64 v w h0 (by omega))
  have hk : Lib.bitLen v.toNat ≤ 32 := by
    refine Lib.bitLen_le v.toNat 32 (by decide) ?_
    have h2 : v.toNat ≤ 4294967295 := by omega
    exact Nat.lt_of_le_of_lt h2 (by decide)
  generalize Lib.bitLen v.toNat = k at *
  have pb := ones_pow k hk
  go_enter Try.func67, Try.ntmps67
  go_wp2_with (go_at_call 70; refine HL.out.mono ?_; rintro e x ⟨rfl, rfl⟩)
  go_ret
  exact ⟨rfl, rfl⟩

set_option maxHeartbeats 400000 in
theorem rest_any (al ah bl bh : Int) (w : World) (a1 : nb al) (a2 : nb ah) (b1 : nb bl) (b2 : nb bh) : Calls Try.prog 65 #[spV al ah, spV bl bh] w fun e w' => e = .returned (spV (reL al bl bh) (reH ah bl bh)) ∧ Q w w' := by
  have HL : Hid (reL al bl bh = if al < 0 then max al (-(max bh (-bl) - 1)) else 0) := hideIt rfl
  have HH : Hid (reH ah bl bh = if 0 < ah then min ah (max bh (-bl) - 1) else 0) := hideIt rfl
  obtain ⟨a11, a12⟩ := a1
  obtain ⟨a21, a22⟩ := a2
  obtain ⟨b11, b12⟩ := b1
  obtain ⟨b21, b22⟩ := b2
  have hm1 : bh ≤ max bh (-bl) := by omega
  have hm2 : max bh (-bl) ≤ 4294967295 := by omega
  rw [HL.out, HH.out]
  generalize hmm : max bh (-bl) = mm at *
  by_cases ha : al < 0 <;> by_cases hb : 0 < ah
  all_goals
    go_enter Try.func65, Try.ntmps65
    go_wp2
  · exact bodyPost_ret (v := spV (max al (-(mm - 1))) (min ah (mm - 1))) (by simp [results, Try.results65, go_sem]) rfl ⟨rfl, ((((Q.refl _).alloc _).alloc _).alloc _).alloc _⟩
  · exact bodyPost_ret (v := spV (max al (-(mm - 1))) 0) (by simp [results, Try.results65, go_sem]) rfl ⟨rfl, ((((Q.refl _).alloc _).alloc _).alloc _).alloc _⟩
  · exact bodyPost_ret (v := spV 0 (min ah (mm - 1))) (by simp [results, Try.results65, go_sem]) rfl ⟨rfl, ((((Q.refl _).alloc _).alloc _).alloc _).alloc _⟩
  · exact bodyPost_ret (v := spV 0 0) (by simp [results, Try.results65, go_sem]) rfl ⟨rfl, ((((Q.refl _).alloc _).alloc _).alloc _).alloc _⟩

end Go.Proofs.Ytancfhnhjfhbfaa
