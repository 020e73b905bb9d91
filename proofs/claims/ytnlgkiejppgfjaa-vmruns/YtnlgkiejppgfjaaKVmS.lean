/-
  The machine: a step, every way: a contract over the program; the conditions: the machine lies there, and its program can be run.
-/
import Derived.Test.YtnlgkiejppgfjaaKVmQ
import Derived.Test.YtnlgkiejppgfjaaKVmR
namespace Go.Proofs.Ytnlgkiejppgfjaa
open Go.RowKit
set_option linter.unusedVariables false

section
variable {w w' w0 : World} {R : Nat} {col col' : Col} {im : PIm} {mem ce : List Int} {cls : List Cl} {W : Nat → List Int} {tr : List Int} {ex : Int} {N : Nat}

theorem form_len (hF : formP im = true) : im.ws.length ≤ 240000 ∧ im.st.length ≠ 0 := by
  unfold formP at hF
  simp only [Bool.and_eq_true, decide_eq_true_eq] at hF
  exact ⟨hF.1.1.2, hF.1.1.1.1⟩
theorem six_of {l : List Int} (h : l.length = 6) : ∃ a b c d e f, l = [a, b, c, d, e, f] := by
  match l, h with
  | [a, b, c, d, e, f], _ => exact ⟨a, b, c, d, e, f, rfl⟩

theorem step_any (hm : MV w w0 R col im mem cls tr ex N) (hn : cls.length ≠ 0) (hN : N + 1 ≤ 8388608) (hok : im.ok w0) (hF : formP im = true) :
    Calls Try.prog 30 #[.pointer (some ⟨R, 0, none⟩)] w (StepEnd w w0 R col im tr N (stepP im mem cls tr)) := by
  obtain ⟨C, h⟩ := hm.mk hn
  obtain ⟨k, hk⟩ : ∃ k, k + 1 = cls.length := ⟨cls.length - 1, by omega⟩
  obtain ⟨c, hc⟩ := get_of_lt (show k < cls.length by omega)
  obtain ⟨hlw, -⟩ := form_len hF
  have hst : stepP im mem cls tr = (match im.ws[c.pl]? with | none => .stop 5 | some v => if goodW v then doP im mem (onP cls c) tr { c with pl := c.pl + 1 } v else .stop 5) := by unfold stepP; rw [show cls.length - 1 = k by omega, hc]; rfl
  rw [hst]
  clear hst
  cases hv : im.ws[c.pl]? with
  | none => exact st_off h hk hN (fun m => next_off h hk hc hok hlw (fun v e => by rw [hv] at e; cases e) m)
  | some v =>
    dsimp only
    cases hg : goodW v with
    | false =>
      rw [if_neg (by simp)]
      exact st_off h hk hN (fun m => next_off h hk hc hok hlw (fun v' e => by rw [hv] at e; obtain rfl := Option.some.inj e; exact hg) m)
    | true =>
      rw [if_pos rfl]
      have hcok := h.ok hc
      have hpl := (List.getElem?_eq_some_iff.1 hv).1
      have NX := next_mk h hk hc hok hv hlw hg
      obtain ⟨_, _, _, hU⟩ := Wds.at hok.ws hv
      have hU := hU.2
      have hg2 := hg
      unfold goodW at hg2
      simp only [Bool.and_eq_true, decide_eq_true_eq] at hg2
      obtain ⟨⟨⟨⟨g0, g1⟩, g2⟩, g3⟩, g4⟩ := hg2
      have ht0 : 0 ≤ ft v := by unfold ft; omega
      have hi0 : 0 ≤ fi v := by unfold fi; omega
      have hi1 : fi v ≤ 4294967295 := by unfold fi; omega
      obtain ⟨d, hd⟩ : ∃ d : Nat, fd v = (d : Int) := ⟨(fd v).toNat, by unfold fd; omega⟩
      obtain ⟨a, ha⟩ : ∃ a : Nat, fa v = (a : Int) := ⟨(fa v).toNat, by unfold fa; omega⟩
      obtain ⟨b, hb⟩ : ∃ b : Nat, fb v = (b : Int) := ⟨(fb v).toNat, by unfold fb; omega⟩
      have VAL := fun (X : World) (hX : MK X w0 R C col im mem (onP cls c) tr ex N) (x y : Int) (c1 : Cl) (hc1 : (onP cls c)[k]? = some c1) => value_any hX.mv (C := C) (o := k * 24) (hX.ok hc1) (fun Y hY => ⟨(hX.keep hY).cell hc1 (by omega) (Cl.cs_pl (hX.ok hc1)).2.1, fun j g hg => by
        have hj := (List.getElem?_eq_some_iff.1 hg).1
        rw [(hX.ok hc1).gt] at hj
        have := (hX.keep hY).cell hc1 (j := 8 + j) (by omega) (Cl.cs_gt (hX.ok hc1) hg)
        rw [← Nat.add_assoc] at this
        exact this⟩) v x y hU
      rw [hd, ha, hb] at NX
      rw [hd, ha, hb] at VAL
      have hkD : k + 1 = (onP cls c).length := by unfold onP; rw [List.length_set]; exact hk
      have hcD : (onP cls c)[k]? = some { c with pl := c.pl + 1 } := by rw [onP_at hk, List.getElem?_set_self (by omega)]
      have hcok1 : ({ c with pl := c.pl + 1 } : Cl).ok := Cl.ok_pl hcok (by omega)
      generalize onP cls c = D at *
      generalize ({ c with pl := c.pl + 1 } : Cl) = c1 at *
      have ed : (fd v).toNat = d := by rw [hd]; rfl
      have ea : (fa v).toNat = a := by rw [ha]; rfl
      have eb : (fb v).toNat = b := by rw [hb]; rfl
      have hd8 : d < 8 := by omega
      have ha8 : a < 8 := by omega
      have hb8 : b < 8 := by omega
      obtain ⟨x, hx⟩ := get_of_lt (l := c1.rg) (k := a) (by rw [hcok1.rg]; exact ha8)
      obtain ⟨y0, hy⟩ := get_of_lt (l := c1.rg) (k := b) (by rw [hcok1.rg]; exact hb8)
      have ex1 : c1.rg.getD (fa v).toNat 0 = x := by rw [ea, List.getD_eq_getElem?_getD, hx]; rfl
      have ey1 : c1.rg.getD (fb v).toNat 0 = y0 := by rw [eb, List.getD_eq_getElem?_getD, hy]; rfl
      unfold doP
      rw [ex1, ey1, ed, show D.length - 1 = k by omega]
      by_cases o33 : fo v = 33
      · rw [if_pos o33]
        rw [o33] at NX
        obtain ⟨r0, r1, r2, r3, r4, r5, hrd⟩ := six_of hcok1.rd
        have := st_33 h hk hkD hcD hcok1 hN ht0 hi0 hi1 hd8 ha8 hb8 hx hy hok hF (n := (fi v).toNat) (by omega) hrd NX
        rw [hrd]
        exact this
      rw [if_neg o33]
      by_cases o37 : fo v = 37
      · rw [if_pos o37]
        rw [o37] at NX
        by_cases hk0 : k = 0
        · rw [if_pos (by omega)]
          exact st_37l h hk hkD hcD hcok1 hN ht0 hi0 hi1 hd8 ha8 hb8 hx hy hk0 NX
        · rw [if_neg (by omega)]
          obtain ⟨k1, hk1⟩ : ∃ k1, k = k1 + 1 := ⟨k - 1, by omega⟩
          obtain ⟨pp, hpp⟩ := get_of_lt (l := D) (k := k1) (by omega)
          rw [show D.length - 2 = k1 by omega, hpp]
          dsimp only
          rw [show k = k1 + 1 from hk1]
          subst hk1
          exact st_37m h hk hkD hcD hcok1 hN ht0 hi0 hi1 hd8 ha8 hb8 hx hy rfl hpp NX
      rw [if_neg o37]
      by_cases o35 : fo v = 35
      · rw [if_pos o35]
        rw [o35] at NX
        exact st_35 h hk hkD hcD hcok1 hN ht0 hi0 hi1 hd8 ha8 hb8 hx hy NX
      rw [if_neg o35]
      by_cases o36 : fo v = 36
      · rw [if_pos o36]
        rw [o36] at NX
        by_cases hz : x = 0
        · rw [if_pos hz]
          exact st_36z h hk hkD hcD hcok1 hN ht0 hi0 hi1 hd8 ha8 hb8 hx hy hz NX
        · rw [if_neg hz]
          exact st_36n h hk hkD hcD hcok1 hN ht0 hi0 hi1 hd8 ha8 hb8 hx hy hz NX
      rw [if_neg o36]
      by_cases o34 : fo v = 34
      · rw [if_pos o34]
        rw [o34] at NX
        exact st_34 h hk hkD hcD hcok1 hN ht0 hi0 hi1 hd8 ha8 hb8 hx hy NX
      rw [if_neg o34]
      by_cases o32 : fo v = 32
      · rw [if_pos o32]
        rw [o32] at NX
        by_cases h6 : 6 ≤ fi v
        · rw [if_pos h6]
          exact st_32b h hk hkD hcD hcok1 hN ht0 hi0 hi1 hd8 ha8 hb8 hx hy h6 NX
        · rw [if_neg h6]
          exact st_32 h hk hkD hcD hcok1 hN ht0 hi0 hi1 hd8 ha8 hb8 hx hy h6 NX
      rw [if_neg o32]
      by_cases o31 : fo v = 31
      · rw [if_pos o31]
        rw [o31] at NX
        exact st_31 h hk hkD hcD hcok1 hN ht0 hi0 hi1 hd8 ha8 hb8 hx hy NX
      rw [if_neg o31]
      by_cases o39 : fo v = 39
      · rw [if_pos o39]
        rw [o39] at NX
        exact st_39 h hk hkD hcD hcok1 hN ht0 hi0 hi1 hd8 ha8 hb8 hx hy NX
      rw [if_neg o39]
      by_cases hr : val2 mem c1 v x y0 = 0
      · rw [if_pos hr]
        exact st_v0 h hk hkD hcD hcok1 hN ht0 hi0 hi1 hd8 ha8 hb8 hx hy o33 o37 o35 o36 o34 o32 o31 o39 (fun X hX => VAL X hX x y0 c1 hcD) hr NX
      · rw [if_neg hr]
        exact st_vt h hk hkD hcD hcok1 hN ht0 hi0 hi1 hd8 ha8 hb8 hx hy o33 o37 o35 o36 o34 o32 o31 o39 (fun X hX => VAL X hX x y0 c1 hcD) hr NX
end
end Go.Proofs.Ytnlgkiejppgfjaa
