/-
 Whether code is right, by the document's answer: a contract over the program.
 Whether code is right, by the document's answer, where its head is: a contract over the program.
-/
import Derived.Test.YtphknepblchkdaaKIrU
namespace Go.Proofs.Ytphknepblchkdaa
open Go.RowKit
set_option linter.unusedVariables false

theorem headP_ways {f : PF} (h : headP f = false) : decide (f.params < 0) = true ∨ (decide (f.params < 0) = false ∧ decide (f.regs < f.params) = true) ∨ (decide (f.params < 0) = false ∧ decide (f.regs < f.params) = false ∧ decide (20000 < f.regs) = true) ∨ (decide (f.params < 0) = false ∧ decide (f.regs < f.params) = false ∧ decide (20000 < f.regs) = false ∧ f.parts.length = 0) ∨ (decide (f.params < 0) = false ∧ decide (f.regs < f.params) = false ∧ decide (20000 < f.regs) = false ∧ ¬ f.parts.length = 0 ∧ roomL 65536 f.slots = false) := by
 unfold headP at h
 cases h1 : decide (f.params < 0)
 ·cases h2 : decide (f.regs < f.params)
  ·cases h3 : decide (20000 < f.regs)
   ·by_cases h4 : f.parts.length = 0
    ·exact Or.inr (Or.inr (Or.inr (Or.inl ⟨rfl, rfl, rfl, h4⟩)))
    ·refine Or.inr (Or.inr (Or.inr (Or.inr ⟨rfl, rfl, rfl, h4, ?_⟩)))
     have e : decide (f.parts.length = 0) = false := by simpa using h4
     rw [h1, h2, h3, e] at h
     simpa using h
   ·exact Or.inr (Or.inr (Or.inl ⟨rfl, rfl, rfl⟩))
  ·exact Or.inr (Or.inl ⟨rfl, rfl⟩)
 ·exact Or.inl rfl

/-- What the document's answer is where the code's head is wrong. -/
theorem validP_hd {c : PC} (h1 : ¬ 60000 < IntKind.i64.wrap (codeN c)) (h : hdP c = false) : validP c = 3 := by
 unfold validP rightP
 rw [if_neg h1, h]
 rfl
theorem validP_fns {c : PC} (h1 : ¬ 60000 < IntKind.i64.wrap (codeN c)) (hh : hdP c = true) : (fnsP c 0 c.fns = false → validP c = 3) ∧ (fnsP c 0 c.fns = true → validP c = 0) := by
 unfold validP rightP
 rw [if_neg h1, hh]
 refine ⟨fun h => ?_, fun h => ?_⟩
 ·rw [h]; rfl
 ·rw [h]; rfl

set_option maxRecDepth 100000 in
set_option maxHeartbeats 1000000 in
theorem rvalid_bad (w : World) (c : PC) (hcok : c.ok w) (hb : 60000 < IntKind.i64.wrap (codeN c) ∨ hdP c = false) : Calls Try.prog 10 #[c.v] w fun e w' => e = .returned (.int .i64 (validP c)) ∧ Q w w' := by
 have HB := hideIt (fun X (h : Q (bxC w c) X) => (bxC_at h).three)
 have CC := hideIt (rcount_any (bxC w c) c (hcok.keep (bxC_q w c)))
 have CR := hideIt (fun X (h : Q (bxC w c) X) => cells_any X c.ga c.gc c.gl hcok.gsok (hcok.gl.keep ((bxC_q w c).trans h)))
 have hq := hideIt (bxC_q w c)
 have hlen : c.fns.length ≤ 9223372036854775807 := hcok.fsok.len
 by_cases h1 : 60000 < IntKind.i64.wrap (codeN c)
 ·have ev : validP c = 11 := by unfold validP; rw [if_pos h1]
  rw [ev]
  generalize IntKind.i64.wrap (codeN c) = n at *
  have e : decide (60000 < n) = true := by simpa using h1
  clear CR hcok h1 hb ev
  go_enter Try.func10, Try.ntmps10
  go_wp2_with (first | (go_at_call 19; refine CC.out.mono ?_; rintro e x1 ⟨rfl, q1⟩; have H1 := hideIt q1; clear q1) | fail)
  go_ret
  exact ⟨rfl, hq.out.trans H1.out⟩
 ·have hh : hdP c = false := hb.resolve_left h1
  rw [validP_hd h1 hh]
  generalize IntKind.i64.wrap (codeN c) = n at *
  have e : decide (60000 < n) = false := by simpa using h1
  clear h1 hb
  by_cases h0 : c.fns.length = 0
  ·clear CR hcok hh hlen
   rcases c with ⟨gl, ini, fns, ga, gc, na, nc, fa, fc⟩
   dsimp only at h0
   obtain rfl : fns = [] := List.eq_nil_of_length_eq_zero h0
   clear h0
   dsimp only [bxC, PC.v, List.length_nil] at *
   go_enter Try.func10, Try.ntmps10
   go_wp2_with (first | (go_at_call 19; refine CC.out.mono ?_; rintro e x1 ⟨rfl, q1⟩; have H1 := hideIt q1; obtain ⟨c0, c1, c2⟩ := HB.out _ q1; clear q1) | fail)
   go_ret
   exact ⟨rfl, hq.out.trans H1.out⟩
  ·have h0' : ((c.fns.length : Int) == 0) = false := by simpa using h0
   by_cases h2 : c.ini.length = c.gl.length
   ·obtain ⟨g, hg⟩ := get_of_lt (l := c.fns) (k := c.fns.length - 1) (by omega)
    obtain ⟨fb, fo, efa, hgat⟩ := hcok.fns _ g hg
    have HGA := hideIt (fun X (h : Q (bxC w c) X) => (hgat.1.keep ((bxC_q w c).trans h)).four.1)
    have hl : hdP c = ((g.params == 0) && roomL 65536 c.gl) := by
     unfold hdP lastP
     rw [hg]
     have : decide (c.ini.length = c.gl.length) = true := by simpa using h2
     rw [this, Bool.true_and]
    rw [hl] at hh
    obtain ⟨m, hm⟩ : ∃ m, c.fns.length = m + 1 := ⟨c.fns.length - 1, by omega⟩
    rw [hm] at HGA hlen
    simp only [Nat.add_sub_cancel] at HGA
    have HM := hideIt hm
    have HE := hideIt efa
    have HI := hideIt h2
    clear hcok hgat efa hg h0 h0' h2 hm hl
    by_cases h3 : g.params = 0
    ·have hr : roomL 65536 c.gl = false := by rw [h3] at hh; simpa using hh
     rw [hr] at CR
     rw [h3] at HGA
     clear hh
     go_enter Try.func10, Try.ntmps10
     go_wp2_with (first | (go_at_call 19; refine CC.out.mono ?_; rintro e x1 ⟨rfl, q1⟩; have H1 := hideIt q1; obtain ⟨c0, c1, c2⟩ := HB.out _ q1; have g0 := HGA.out _ q1; rw [HM.out, HE.out] at c2; rw [HI.out] at c1; clear q1) | (go_at_call 26; refine (CR.out _ H1.out).mono ?_; rintro e x2 ⟨rfl, rfl⟩) | fail)
     go_ret
     exact ⟨rfl, hq.out.trans H1.out⟩
    ·have h3' : (g.params != 0) = true := by simpa using h3
     clear hh CR
     go_enter Try.func10, Try.ntmps10
     go_wp2_with (first | (go_at_call 19; refine CC.out.mono ?_; rintro e x1 ⟨rfl, q1⟩; have H1 := hideIt q1; obtain ⟨c0, c1, c2⟩ := HB.out _ q1; have g0 := HGA.out _ q1; rw [HM.out, HE.out] at c2; rw [HI.out] at c1; clear q1) | fail)
     go_ret
     exact ⟨rfl, hq.out.trans H1.out⟩
   ·have h2' : ((c.ini.length : Int) != (c.gl.length : Int)) = true := by simpa using (show ¬ (c.ini.length : Int) = (c.gl.length : Int) by omega)
    clear CR hcok hh h2
    go_enter Try.func10, Try.ntmps10
    go_wp2_with (first | (go_at_call 19; refine CC.out.mono ?_; rintro e x1 ⟨rfl, q1⟩; have H1 := hideIt q1; obtain ⟨c0, c1, c2⟩ := HB.out _ q1; clear q1) | fail)
    go_ret
    exact ⟨rfl, hq.out.trans H1.out⟩

end Go.Proofs.Ytphknepblchkdaa

namespace Go.Proofs.Ytphknepblchkdaa
open Go.RowKit
set_option linter.unusedVariables false

set_option maxRecDepth 100000 in
set_option maxHeartbeats 2000000 in
theorem rvalid_good (w : World) (c : PC) (hcok : c.ok w) (h1 : ¬ 60000 < IntKind.i64.wrap (codeN c)) (hh : hdP c = true) : Calls Try.prog 10 #[c.v] w fun e w' => e = .returned (.int .i64 (validP c)) ∧ Q w w' := by
 have HB := hideIt (fun X (h : Q (bxC w c) X) => (bxC_at h).three)
 have CC := hideIt (rcount_any (bxC w c) c (hcok.keep (bxC_q w c)))
 have CR := hideIt (fun X (h : Q (bxC w c) X) => cells_any X c.ga c.gc c.gl hcok.gsok (hcok.gl.keep ((bxC_q w c).trans h)))
 have HFN := hideIt (fun X (h : Q (bxC w c) X) => Fns.keep ((bxC_q w c).trans h) hcok.fns)
 have CI0 := hideIt (fun X (h : Q (bxC w c) X) k f hk p hp => rpart_any X k c f p (hcok.keep ((bxC_q w c).trans h)) hk hp)
 have hq := hideIt (bxC_q w c)
 have hlen : c.fns.length ≤ 9223372036854775807 := hcok.fsok.len
 have HVV := hideIt (validP_fns h1 hh)
 have hhh := hh
 unfold hdP at hhh
 simp only [Bool.and_eq_true] at hhh
 obtain ⟨l1, l2, l3⟩ := hhh
 have l2' : c.ini.length = c.gl.length := by simpa using l2
 have h0 : ¬ c.fns.length = 0 := by
  intro h
  unfold lastP at l1
  rw [List.getElem?_eq_none (by omega)] at l1
  cases l1
 obtain ⟨g, hg⟩ := get_of_lt (l := c.fns) (k := c.fns.length - 1) (by omega)
 have hg0 : g.params = 0 := by unfold lastP at l1; rw [hg] at l1; simpa using l1
 obtain ⟨fb, fo, efa, hgat⟩ := hcok.fns _ g hg
 have HGA := hideIt (fun X (h : Q (bxC w c) X) => (hgat.1.keep ((bxC_q w c).trans h)).four.1)
 obtain ⟨m, hm⟩ : ∃ m, c.fns.length = m + 1 := ⟨c.fns.length - 1, by omega⟩
 rw [hm] at HGA hlen
 rw [hg0] at HGA
 rw [l3] at CR
 simp only [Nat.add_sub_cancel] at HGA
 generalize IntKind.i64.wrap (codeN c) = n at *
 have e : decide (60000 < n) = false := by simpa using h1
 clear hcok hgat hg h0 hh h1 l1 l2 l3 hg0 g
 have HM := hideIt hm
 have HE := hideIt efa
 have HI := hideIt l2'
 clear hm efa l2'
 have HBr : Hid (∀ X, Q (bxC w c) X → X.cell? ⟨w.heap.size, 0, none⟩ = some (.slice c.ga c.gl.length c.gc) ∧ X.cell? ⟨w.heap.size, 1, none⟩ = some (.slice c.na c.gl.length c.nc) ∧ X.cell? ⟨w.heap.size, 2, none⟩ = some (.slice (some ⟨fb, fo, none⟩) (m + 1) c.fc)) := fun X h => by
  obtain ⟨c0, c1, c2⟩ := HB.out X h
  rw [HM.out, HE.out] at c2
  rw [HI.out] at c1
  exact ⟨c0, c1, c2⟩
 clear HB
 have HB := hideIt HBr.out
 clear HBr
 have HCV : Hid (PC.v c = .agg #[.slice c.ga c.gl.length c.gc, .slice c.na c.gl.length c.nc, .slice (some ⟨fb, fo, none⟩) (m + 1) c.fc]) := by
  show PC.v c = _
  unfold PC.v
  rw [HM.out, HE.out, HI.out]
 have HV : Hid (fnsP c 0 c.fns = false → validP c = 3) := HVV.out.1
 have HV1 : Hid (fnsP c 0 c.fns = true → validP c = 0) := HVV.out.2
 clear HVV
 generalize hVP : validP c = vp at *
 clear hVP
 have hm1 : ((m : Int) + 1 == 0) = false := by simp; omega
 go_enter Try.func10, Try.ntmps10
 go_wp2_with (first | (go_at_call 19; refine CC.out.mono ?_; rintro e x1 ⟨rfl, q1⟩; have H1 := hideIt q1; obtain ⟨c0, c1, c2⟩ := HB.out _ q1; have g0 := HGA.out _ q1; clear q1) | (go_at_call 26; refine (CR.out _ H1.out).mono ?_; rintro e x2 ⟨rfl, hx2⟩; subst hx2) | fail)
 clear CC CR HGA g0 c0 c1 c2
 go_loopw [3, 4, 5] (fun i d1 d2 wr => ∃ (k : Nat), i = .int .i64 k ∧ k ≤ m + 1 ∧ fnsP c 0 c.fns = fnsP c k (c.fns.drop k) ∧ Q (bxC w c) wr) (fun i _ _ _ => m + 1 - (intOf i).toNat)
 case atStart => exact ⟨0, rfl, by omega, by simp, H1.out⟩
 case round =>
  obtain ⟨k, rfl, hk, r3, hq2⟩ := hrel
  generalize wr = W0 at *
  have HR := hideIt r3
  have HQ := hideIt hq2
  obtain ⟨c0, c1, c2⟩ := HB.out _ hq2
  clear r3 hq2
  by_cases hlt : k < m + 1
  ·obtain ⟨f, hf⟩ := get_of_lt (l := c.fns) (k := k) (by rw [HM.out]; exact hlt)
   obtain ⟨fb2, fo2, efa2, hfat⟩ := HFN.out _ HQ.out k f hf
   rw [HE.out] at efa2
   simp only [Option.some.injEq, Addr.mk.injEq, and_true] at efa2
   obtain ⟨rfl, rfl⟩ := efa2
   obtain ⟨f0, f1, f2, f3⟩ := hfat.1.four
   have hkl : (k : Int) < ((m + 1 : Nat) : Int) := by omega
   have hplen : f.parts.length ≤ 9223372036854775807 := hfat.2.psok.len
   have HFK := hideIt hf
   have HS := hideIt (fnsP_drop hf)
   have CR2 := hideIt (cells_any (bxF W0 f) f.sa f.sc f.slots hfat.2.ssok (hfat.2.slots.keep ((Q.refl W0).alloc _)))
   have HXE := hideIt (HQ.out.trans ((Q.refl W0).alloc (.cells #[.int .i64 f.params, .int .i64 f.regs, .slice f.sa f.slots.length f.sc, .slice f.pa f.parts.length f.pc] 44)))
   have HP := hideIt (hfat.2.parts.keep ((Q.refl W0).alloc (.cells #[.int .i64 f.params, .int .i64 f.regs, .slice f.sa f.slots.length f.sc, .slice f.pa f.parts.length f.pc] 44)))
   have HG := hideIt (fun y (h : Q (bxF W0 f) y) => At.four (x := f) (At.box (X := W0) h))
   clear hf hfat
   cases hh2 : headP f
   ·have HHD := hideIt hh2
    rcases headP_ways hh2 with h2 | ⟨h2, h3⟩ | ⟨h2, h3, h4⟩ | ⟨h2, h3, h4, h5⟩ | ⟨h2, h3, h4, h5, h6⟩
    ·clear hh2 CR2 HP HG
     go_wp2_with (first | (go_at_call 26; refine CR2.out.mono ?_; rintro e y ⟨rfl, rfl⟩) | fail)
     go_ret
     refine ⟨?_, hq.out.trans HXE.out⟩
     have e1 : fnP c k f = false := by unfold fnP; rw [HHD.out]; rfl
     rw [HV.out (by rw [HR.out, HS.out, e1]; rfl)]
     rfl
    ·clear hh2 CR2 HP HG
     go_wp2_with (first | (go_at_call 26; refine CR2.out.mono ?_; rintro e y ⟨rfl, rfl⟩) | fail)
     go_ret
     refine ⟨?_, hq.out.trans HXE.out⟩
     have e1 : fnP c k f = false := by unfold fnP; rw [HHD.out]; rfl
     rw [HV.out (by rw [HR.out, HS.out, e1]; rfl)]
     rfl
    ·clear hh2 CR2 HP HG
     go_wp2_with (first | (go_at_call 26; refine CR2.out.mono ?_; rintro e y ⟨rfl, rfl⟩) | fail)
     go_ret
     refine ⟨?_, hq.out.trans HXE.out⟩
     have e1 : fnP c k f = false := by unfold fnP; rw [HHD.out]; rfl
     rw [HV.out (by rw [HR.out, HS.out, e1]; rfl)]
     rfl
    ·clear hh2 CR2 HP HG
     rw [h5] at f3 HXE
     clear h5
     go_wp2_with (first | (go_at_call 26; refine CR2.out.mono ?_; rintro e y ⟨rfl, rfl⟩) | fail)
     go_ret
     refine ⟨?_, hq.out.trans HXE.out⟩
     have e1 : fnP c k f = false := by unfold fnP; rw [HHD.out]; rfl
     rw [HV.out (by rw [HR.out, HS.out, e1]; rfl)]
     rfl
    ·have h5' : ((f.parts.length : Int) == 0) = false := by simpa using h5
     rw [h6] at CR2
     clear hh2 h5 h6 HP HG
     go_wp2_with (first | (go_at_call 26; refine CR2.out.mono ?_; rintro e y ⟨rfl, rfl⟩) | fail)
     go_ret
     refine ⟨?_, hq.out.trans HXE.out⟩
     have e1 : fnP c k f = false := by unfold fnP; rw [HHD.out]; rfl
     rw [HV.out (by rw [HR.out, HS.out, e1]; rfl)]
     rfl
   ·have HHD := hideIt hh2
    obtain ⟨h2, h3, h4, h5, h6⟩ := headP_iff hh2
    have h5' : ((f.parts.length : Int) == 0) = false := by simpa using h5
    rw [h6] at CR2
    clear hh2 h5 h6
    have HX1 := hideIt HXE.out
    clear HXE
    go_wp2_with (first | (go_at_call 26; refine CR2.out.mono ?_; rintro e y ⟨rfl, rfl⟩) | fail)
    clear c0 c1 c2 f0 f1 f2 f3 CR2
    go_loopw [5] (fun i z => ∃ (j : Nat), i = .int .i64 j ∧ j ≤ f.parts.length ∧ f.parts.all (ptP c k f) = (f.parts.drop j).all (ptP c k f) ∧ Q (bxF W0 f) z) (fun i _ => f.parts.length - (intOf i).toNat)
    case atStart => exact ⟨0, rfl, by omega, by simp, Q.refl _⟩
    case round =>
     obtain ⟨j, rfl, hj, r3, hq2⟩ := hrel
     have HR2 := hideIt r3
     have HQ2 := hideIt hq2
     have HQB := hideIt (HX1.out.trans hq2)
     obtain ⟨c0, c1, c2⟩ := HB.out _ HQB.out
     obtain ⟨-, -, -, g3⟩ := HG.out _ hq2
     clear r3 hq2
     by_cases hlt2 : j < f.parts.length
     ·obtain ⟨p, hp⟩ := get_of_lt hlt2
      obtain ⟨pb, po, epa, hpat⟩ := (Prts.keep HQ2.out HP.out) j p hp
      rw [epa] at g3
      have hjl : (j : Int) < (f.parts.length : Int) := by omega
      have HS2 := hideIt (all_drop (p := ptP c k f) hp)
      have hF : Hid (∀ y, Q wr y → y.cell? ⟨w.heap.size, 0, none⟩ = some (.slice c.ga c.gl.length c.gc) ∧ y.cell? ⟨w.heap.size, 1, none⟩ = some (.slice c.na c.gl.length c.nc) ∧ y.cell? ⟨w.heap.size, 2, none⟩ = some (.slice (some ⟨fb, fo, none⟩) (m + 1) c.fc) ∧ y.cell? ⟨W0.heap.size, 3, none⟩ = some (.slice (some ⟨pb, po, none⟩) f.parts.length f.pc) ∧ y.cell? ⟨pb, po + j * 5, none⟩ = some (.slice p.ia p.ins.length p.ic) ∧ y.cell? ⟨pb, po + j * 5 + 1, none⟩ = some (.bool p.e) ∧ y.cell? ⟨pb, po + j * 5 + 2, none⟩ = some (.int .i64 p.cond) ∧ y.cell? ⟨pb, po + j * 5 + 3, none⟩ = some (.int .i64 p.next) ∧ y.cell? ⟨pb, po + j * 5 + 4, none⟩ = some (.int .i64 p.els)) := fun y h => by
       obtain ⟨a0, a1, a2⟩ := HB.out _ (HQB.out.trans h)
       obtain ⟨-, -, -, g3⟩ := HG.out _ (HQ2.out.trans h)
       rw [epa] at g3
       exact ⟨a0, a1, a2, g3, (hpat.1.keep h).five⟩
      have CI : Hid (∀ X, Q wr X → Calls Try.prog 27 #[PC.v c, .int .i64 (k : Int), p.v] X fun e w' => e = .returned (.bool (ptP c k f p)) ∧ Q wr w' ∧ w'.cell? ⟨w.heap.size, 0, none⟩ = some (.slice c.ga c.gl.length c.gc) ∧ w'.cell? ⟨w.heap.size, 1, none⟩ = some (.slice c.na c.gl.length c.nc) ∧ w'.cell? ⟨w.heap.size, 2, none⟩ = some (.slice (some ⟨fb, fo, none⟩) (m + 1) c.fc) ∧ w'.cell? ⟨W0.heap.size, 3, none⟩ = some (.slice (some ⟨pb, po, none⟩) f.parts.length f.pc) ∧ w'.cell? ⟨pb, po + j * 5, none⟩ = some (.slice p.ia p.ins.length p.ic) ∧ w'.cell? ⟨pb, po + j * 5 + 1, none⟩ = some (.bool p.e) ∧ w'.cell? ⟨pb, po + j * 5 + 2, none⟩ = some (.int .i64 p.cond) ∧ w'.cell? ⟨pb, po + j * 5 + 3, none⟩ = some (.int .i64 p.next) ∧ w'.cell? ⟨pb, po + j * 5 + 4, none⟩ = some (.int .i64 p.els)) := fun X h => (CI0.out X (HQB.out.trans h) k f HFK.out p (hpat.2.keep h)).mono fun _ _ ⟨e, q⟩ => ⟨e, h.trans q, hF.out _ (h.trans q)⟩
      rw [show PC.v c = .agg #[.slice c.ga c.gl.length c.gc, .slice c.na c.gl.length c.nc, .slice (some ⟨fb, fo, none⟩) (m + 1) c.fc] from HCV.out] at CI
      clear hp hpat epa
      generalize hWR : wr = WR at *
      cases hi : ptP c k f p <;> rw [hi] at CI
      ·go_wp2_with (fail)
       refine wp_region_held_drew (S := (fun y : World => Q WR y ∧ y.cell? ⟨w.heap.size, 0, none⟩ = some (.slice c.ga c.gl.length c.gc) ∧ y.cell? ⟨w.heap.size, 1, none⟩ = some (.slice c.na c.gl.length c.nc) ∧ y.cell? ⟨w.heap.size, 2, none⟩ = some (.slice (some ⟨fb, fo, none⟩) (m + 1) c.fc) ∧ y.cell? ⟨W0.heap.size, 3, none⟩ = some (.slice (some ⟨pb, po, none⟩) f.parts.length f.pc) ∧ y.cell? ⟨pb, po + j * 5, none⟩ = some (.slice p.ia p.ins.length p.ic) ∧ y.cell? ⟨pb, po + j * 5 + 1, none⟩ = some (.bool p.e) ∧ y.cell? ⟨pb, po + j * 5 + 2, none⟩ = some (.int .i64 p.cond) ∧ y.cell? ⟨pb, po + j * 5 + 3, none⟩ = some (.int .i64 p.next) ∧ y.cell? ⟨pb, po + j * 5 + 4, none⟩ = some (.int .i64 p.els))) (by kernel_rfl) (⟨(Q.refl _).drew, hF.out _ (Q.refl _).drew⟩) (fun hHeld => ?_)
       refine wpAnyH_take (i := 0) (oi := ⟨_, _, _, _, _, _⟩) (v := ?_) rfl (by kernel_rfl) (by kernel_rfl) (by kernel_rfl) (fun _ _ _ h => h) (Or.inl ⟨by rfl, ?_⟩) (by assumption) ?_
       rotate_left 1
       ·intro w hSw; (try dsimp only at hSw); go_simp; all_goals with_reducible rfl
       try simp only [Act.put, List.setIfInBounds_toArray, List.set_cons_zero, List.set_cons_succ]
       refine wpAnyH_take (i := 1) (oi := ⟨_, _, _, _, _, _⟩) (v := ?_) rfl (by kernel_rfl) (by kernel_rfl) (by kernel_rfl) (fun _ _ _ h => h) (Or.inl ⟨by rfl, ?_⟩) (by assumption) ?_
       rotate_left 1
       ·intro w hSw; (try dsimp only at hSw); go_simp; all_goals with_reducible rfl
       try simp only [Act.put, List.setIfInBounds_toArray, List.set_cons_zero, List.set_cons_succ]
       refine wpAnyH_take (i := 2) (oi := ⟨_, _, _, _, _, _⟩) (v := ?_) rfl (by kernel_rfl) (by kernel_rfl) (by kernel_rfl) (fun _ _ _ h => h) (Or.inl ⟨by rfl, ?_⟩) (by assumption) ?_
       rotate_left 1
       ·intro w hSw; (try dsimp only at hSw); go_simp; all_goals with_reducible rfl
       try simp only [Act.put, List.setIfInBounds_toArray, List.set_cons_zero, List.set_cons_succ]
       refine wpAnyH_take (i := 3) (oi := ⟨_, _, _, _, _, _⟩) (v := ?_) rfl (by kernel_rfl) (by kernel_rfl) (by kernel_rfl) (fun _ _ _ h => h) (Or.inl ⟨by rfl, ?_⟩) (by assumption) ?_
       rotate_left 1
       ·intro w hSw; (try dsimp only at hSw); go_simp; all_goals with_reducible rfl
       try simp only [Act.put, List.setIfInBounds_toArray, List.set_cons_zero, List.set_cons_succ]
       refine wpAnyH_take (i := 4) (oi := ⟨_, _, _, _, _, _⟩) (v := ?_) rfl (by kernel_rfl) (by kernel_rfl) (by kernel_rfl) (fun _ _ _ h => h) (Or.inl ⟨by rfl, ?_⟩) (by assumption) ?_
       rotate_left 1
       ·intro w hSw; (try dsimp only at hSw); go_simp; all_goals with_reducible rfl
       try simp only [Act.put, List.setIfInBounds_toArray, List.set_cons_zero, List.set_cons_succ]
       refine wpAnyH_take (i := 5) (oi := ⟨_, _, _, _, _, _⟩) (v := ?_) rfl (by kernel_rfl) (by kernel_rfl) (by kernel_rfl) (fun _ _ _ h => h) (Or.inl ⟨by rfl, ?_⟩) (by assumption) ?_
       rotate_left 1
       ·intro w hSw; (try dsimp only at hSw); go_simp; all_goals with_reducible rfl
       try simp only [Act.put, List.setIfInBounds_toArray, List.set_cons_zero, List.set_cons_succ]
       refine wpAnyH_take (i := 6) (oi := ⟨_, _, _, _, _, _⟩) (v := ?_) rfl (by kernel_rfl) (by kernel_rfl) (by kernel_rfl) (fun _ _ _ h => h) (Or.inl ⟨by rfl, ?_⟩) (by assumption) ?_
       rotate_left 1
       ·intro w hSw; (try dsimp only at hSw); go_simp; all_goals with_reducible rfl
       try simp only [Act.put, List.setIfInBounds_toArray, List.set_cons_zero, List.set_cons_succ]
       refine wpAnyH_ready (rs := [7]) (by kernel_rfl) (by simp) (AllReadyH.cons (o := ⟨_, _, _, _, _, _⟩) rfl (fun K hK => ?_) AllReadyH.nil)
       go_simp
       go_at_call 27; refine (CI.out _ hHeld.1).mono ?_; rintro e y ⟨rfl, s0, s1, s2, s3, s4, s5, s6, s7, s8, s9⟩
       refine hK.out _ _ ?_ (fun hHeld => ?_)
       ·exact ⟨s0, s1, s2, s3, s4, s5, s6, s7, s8, s9⟩
       clear hK K
       try simp only [Act.put, List.setIfInBounds_toArray, List.set_cons_zero, List.set_cons_succ]
       refine wpAnyH_take (i := 8) (oi := ⟨_, _, _, _, _, _⟩) (v := ?_) rfl (by kernel_rfl) (by kernel_rfl) (by kernel_rfl) (fun _ _ _ h => h) (Or.inl ⟨by rfl, ?_⟩) (by assumption) ?_
       rotate_left 1
       ·intro w hSw; (try dsimp only at hSw); go_simp; all_goals with_reducible rfl
       try simp only [Act.put, List.setIfInBounds_toArray, List.set_cons_zero, List.set_cons_succ]
       refine wpAnyH_done (by kernel_rfl) ?_ _
       go_wp2
       go_ret
       refine ⟨?_, hq.out.trans (HQB.out.trans hHeld.1)⟩
       have e1 : fnP c k f = false := by unfold fnP; rw [HR2.out, HS2.out, hi]; simp
       rw [HV.out (by rw [HR.out, HS.out, e1]; rfl)]
       rfl
      ·go_wp2_with (fail)
       refine wp_region_held_drew (S := (fun y : World => Q WR y ∧ y.cell? ⟨w.heap.size, 0, none⟩ = some (.slice c.ga c.gl.length c.gc) ∧ y.cell? ⟨w.heap.size, 1, none⟩ = some (.slice c.na c.gl.length c.nc) ∧ y.cell? ⟨w.heap.size, 2, none⟩ = some (.slice (some ⟨fb, fo, none⟩) (m + 1) c.fc) ∧ y.cell? ⟨W0.heap.size, 3, none⟩ = some (.slice (some ⟨pb, po, none⟩) f.parts.length f.pc) ∧ y.cell? ⟨pb, po + j * 5, none⟩ = some (.slice p.ia p.ins.length p.ic) ∧ y.cell? ⟨pb, po + j * 5 + 1, none⟩ = some (.bool p.e) ∧ y.cell? ⟨pb, po + j * 5 + 2, none⟩ = some (.int .i64 p.cond) ∧ y.cell? ⟨pb, po + j * 5 + 3, none⟩ = some (.int .i64 p.next) ∧ y.cell? ⟨pb, po + j * 5 + 4, none⟩ = some (.int .i64 p.els))) (by kernel_rfl) (⟨(Q.refl _).drew, hF.out _ (Q.refl _).drew⟩) (fun hHeld => ?_)
       refine wpAnyH_take (i := 0) (oi := ⟨_, _, _, _, _, _⟩) (v := ?_) rfl (by kernel_rfl) (by kernel_rfl) (by kernel_rfl) (fun _ _ _ h => h) (Or.inl ⟨by rfl, ?_⟩) (by assumption) ?_
       rotate_left 1
       ·intro w hSw; (try dsimp only at hSw); go_simp; all_goals with_reducible rfl
       try simp only [Act.put, List.setIfInBounds_toArray, List.set_cons_zero, List.set_cons_succ]
       refine wpAnyH_take (i := 1) (oi := ⟨_, _, _, _, _, _⟩) (v := ?_) rfl (by kernel_rfl) (by kernel_rfl) (by kernel_rfl) (fun _ _ _ h => h) (Or.inl ⟨by rfl, ?_⟩) (by assumption) ?_
       rotate_left 1
       ·intro w hSw; (try dsimp only at hSw); go_simp; all_goals with_reducible rfl
       try simp only [Act.put, List.setIfInBounds_toArray, List.set_cons_zero, List.set_cons_succ]
       refine wpAnyH_take (i := 2) (oi := ⟨_, _, _, _, _, _⟩) (v := ?_) rfl (by kernel_rfl) (by kernel_rfl) (by kernel_rfl) (fun _ _ _ h => h) (Or.inl ⟨by rfl, ?_⟩) (by assumption) ?_
       rotate_left 1
       ·intro w hSw; (try dsimp only at hSw); go_simp; all_goals with_reducible rfl
       try simp only [Act.put, List.setIfInBounds_toArray, List.set_cons_zero, List.set_cons_succ]
       refine wpAnyH_take (i := 3) (oi := ⟨_, _, _, _, _, _⟩) (v := ?_) rfl (by kernel_rfl) (by kernel_rfl) (by kernel_rfl) (fun _ _ _ h => h) (Or.inl ⟨by rfl, ?_⟩) (by assumption) ?_
       rotate_left 1
       ·intro w hSw; (try dsimp only at hSw); go_simp; all_goals with_reducible rfl
       try simp only [Act.put, List.setIfInBounds_toArray, List.set_cons_zero, List.set_cons_succ]
       refine wpAnyH_take (i := 4) (oi := ⟨_, _, _, _, _, _⟩) (v := ?_) rfl (by kernel_rfl) (by kernel_rfl) (by kernel_rfl) (fun _ _ _ h => h) (Or.inl ⟨by rfl, ?_⟩) (by assumption) ?_
       rotate_left 1
       ·intro w hSw; (try dsimp only at hSw); go_simp; all_goals with_reducible rfl
       try simp only [Act.put, List.setIfInBounds_toArray, List.set_cons_zero, List.set_cons_succ]
       refine wpAnyH_take (i := 5) (oi := ⟨_, _, _, _, _, _⟩) (v := ?_) rfl (by kernel_rfl) (by kernel_rfl) (by kernel_rfl) (fun _ _ _ h => h) (Or.inl ⟨by rfl, ?_⟩) (by assumption) ?_
       rotate_left 1
       ·intro w hSw; (try dsimp only at hSw); go_simp; all_goals with_reducible rfl
       try simp only [Act.put, List.setIfInBounds_toArray, List.set_cons_zero, List.set_cons_succ]
       refine wpAnyH_take (i := 6) (oi := ⟨_, _, _, _, _, _⟩) (v := ?_) rfl (by kernel_rfl) (by kernel_rfl) (by kernel_rfl) (fun _ _ _ h => h) (Or.inl ⟨by rfl, ?_⟩) (by assumption) ?_
       rotate_left 1
       ·intro w hSw; (try dsimp only at hSw); go_simp; all_goals with_reducible rfl
       try simp only [Act.put, List.setIfInBounds_toArray, List.set_cons_zero, List.set_cons_succ]
       refine wpAnyH_ready (rs := [7]) (by kernel_rfl) (by simp) (AllReadyH.cons (o := ⟨_, _, _, _, _, _⟩) rfl (fun K hK => ?_) AllReadyH.nil)
       go_simp
       go_at_call 27; refine (CI.out _ hHeld.1).mono ?_; rintro e y ⟨rfl, s0, s1, s2, s3, s4, s5, s6, s7, s8, s9⟩
       refine hK.out _ _ ?_ (fun hHeld => ?_)
       ·exact ⟨s0, s1, s2, s3, s4, s5, s6, s7, s8, s9⟩
       clear hK K
       try simp only [Act.put, List.setIfInBounds_toArray, List.set_cons_zero, List.set_cons_succ]
       refine wpAnyH_take (i := 8) (oi := ⟨_, _, _, _, _, _⟩) (v := ?_) rfl (by kernel_rfl) (by kernel_rfl) (by kernel_rfl) (fun _ _ _ h => h) (Or.inl ⟨by rfl, ?_⟩) (by assumption) ?_
       rotate_left 1
       ·intro w hSw; (try dsimp only at hSw); go_simp; all_goals with_reducible rfl
       try simp only [Act.put, List.setIfInBounds_toArray, List.set_cons_zero, List.set_cons_succ]
       refine wpAnyH_done (by kernel_rfl) ?_ _
       go_wp2
       go_roundw
       case rel =>
        refine ⟨j + 1, by go_num, by omega, ?_, HQ2.out.trans hHeld.1⟩
        rw [HR2.out, HS2.out, hi, Bool.true_and]
       case measure => simp [intOf]; omega
     ·have ej : j = f.parts.length := by omega
      have HA : Hid (f.parts.all (ptP c k f) = true) := by
       show f.parts.all (ptP c k f) = true
       rw [HR2.out, ej, List.drop_length]
       rfl
      clear HR2
      go_wp2_with (fail)
      go_roundw
      case rel =>
       refine ⟨k + 1, by go_num, by have := HM.out; omega, ?_, HQB.out⟩
       have e1 : fnP c k f = true := by unfold fnP; rw [HHD.out, HA.out]; rfl
       rw [HR.out, HS.out, e1, Bool.true_and]
      case measure => have := HM.out; simp [intOf]; omega
  ·have ek : k = m + 1 := by omega
   go_wp2_with (fail)
   go_ret
   refine ⟨?_, hq.out.trans HQ.out⟩
   rw [HV1.out (by rw [HR.out, ek, ← HM.out, List.drop_length]; rfl)]
   rfl

theorem rvalid_any (w : World) (c : PC) (hcok : c.ok w) : Calls Try.prog 10 #[c.v] w fun e w' => e = .returned (.int .i64 (validP c)) ∧ Q w w' := by
 by_cases h1 : 60000 < IntKind.i64.wrap (codeN c)
 ·exact rvalid_bad w c hcok (Or.inl h1)
 ·cases hh : hdP c
  ·exact rvalid_bad w c hcok (Or.inr hh)
  ·exact rvalid_good w c hcok h1 hh

end Go.Proofs.Ytphknepblchkdaa
