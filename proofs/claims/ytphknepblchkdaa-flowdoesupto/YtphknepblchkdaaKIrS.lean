/-
 Whether an instruction is right, by the document's answer: a contract over the program.
 Whether an instruction is right, by the document's answer, where its head is: a contract over the program.
-/
import Derived.Test.YtphknepblchkdaaKIrP
namespace Go.Proofs.Ytphknepblchkdaa
open Go.RowKit
set_option linter.unusedVariables false

theorem uses_all (f : PF) (x : PI) : (usesP x).all (fun r => blP r f.regs) = rdsP f x := by
 unfold usesP rdsP
 by_cases h : x.op = 32
 ·rw [if_pos h, h, rdP_32]
  simp
 ·rw [if_neg h]
  have e : (x.op == 32) = false := by simpa using h
  rw [e]
  have hle := rdP_le x.op
  generalize rdP x.op = n at *
  obtain rfl | rfl | rfl : n = 0 ∨ n = 1 ∨ n = 2 := by omega
  ·simp
  ·simp
  ·simp

/-- The three boxes: code, instruction, function. -/
abbrev bx3 (w : World) (c : PC) (x : PI) (f : PF) : World := bxF (bxI (bxC w c) x) f
theorem bx3_q (w : World) (c : PC) (x : PI) (f : PF) : Q w (bx3 w c x f) := (((Q.refl w).alloc _).alloc _).alloc _
theorem bx3_at {w y : World} {c : PC} {x : PI} {f : PF} (h : Q (bx3 w c x f) y) : At y w.heap.size 0 c.cells ∧ At y (w.heap.size + 1) 0 x.cells ∧ At y (w.heap.size + 1 + 1) 0 f.cells := by
 refine ⟨bxC_at ((((Q.refl _).alloc _).alloc _).trans h), ?_, ?_⟩
 ·have := bxI_at (w := bxC w c) (((Q.refl _).alloc _).trans h)
  simpa using this
 ·have : At y (bxI (bxC w c) x).heap.size 0 f.cells := At.box h
  simpa using this
theorem bx3_cells {w y : World} {c : PC} {x : PI} {f : PF} (h : Q (bx3 w c x f) y) :
  (y.cell? ⟨w.heap.size, 0, none⟩ = some (.slice c.ga c.gl.length c.gc) ∧ y.cell? ⟨w.heap.size, 1, none⟩ = some (.slice c.na c.ini.length c.nc) ∧ y.cell? ⟨w.heap.size, 2, none⟩ = some (.slice c.fa c.fns.length c.fc)) ∧
  (y.cell? ⟨w.heap.size + 1, 0, none⟩ = some (.int .u8 x.op) ∧ y.cell? ⟨w.heap.size + 1, 1, none⟩ = some (.int .u8 x.ty) ∧ y.cell? ⟨w.heap.size + 1, 2, none⟩ = some (.int .i64 x.dst) ∧ y.cell? ⟨w.heap.size + 1, 3, none⟩ = some (.int .i64 x.a) ∧ y.cell? ⟨w.heap.size + 1, 4, none⟩ = some (.int .i64 x.b) ∧ y.cell? ⟨w.heap.size + 1, 5, none⟩ = some (.int .i64 x.imm) ∧ y.cell? ⟨w.heap.size + 1, 6, none⟩ = some (.slice x.aa x.args.length x.ac)) ∧
  (y.cell? ⟨w.heap.size + 1 + 1, 0, none⟩ = some (.int .i64 f.params) ∧ y.cell? ⟨w.heap.size + 1 + 1, 1, none⟩ = some (.int .i64 f.regs) ∧ y.cell? ⟨w.heap.size + 1 + 1, 2, none⟩ = some (.slice f.sa f.slots.length f.sc) ∧ y.cell? ⟨w.heap.size + 1 + 1, 3, none⟩ = some (.slice f.pa f.parts.length f.pc)) := by
 obtain ⟨h1, h2, h3⟩ := bx3_at h
 exact ⟨h1.three, h2.seven, h3.four⟩

def hdI (f : PF) (x : PI) : Bool := knP x.op && (decide (x.ty ≤ 5) && wtP f x)
theorem insP_eq (c : PC) (k : Nat) (f : PF) (x : PI) : insP c k f x = (hdI f x && ((usesP x).all (fun r => blP r f.regs) && immP c k f x)) := by
 rw [uses_all]
 unfold insP hdI
 cases knP x.op <;> cases decide (x.ty ≤ 5) <;> cases wtP f x <;> rfl

set_option maxRecDepth 100000 in
set_option maxHeartbeats 1000000 in
theorem rinst_bad (w : World) (k : Nat) (c : PC) (f : PF) (x : PI) (hcok : c.ok w) (hk : c.fns[k]? = some f) (hxok : x.ok w) (hh : hdI f x = false) :
  Calls Try.prog 53 #[c.v, .int .i64 (k : Int), x.v] w fun e w' => e = .returned (.bool (insP c k f x)) ∧ Q w w' := by
 rw [insP_eq, hh, Bool.false_and]
 obtain ⟨fb, fo, efa, hf, hfok⟩ := hcok.fns k f hk
 have hkl : k < c.fns.length := (List.getElem?_eq_some_iff.1 hk).1
 have hkl' : (k : Int) < (c.fns.length : Int) := by omega
 have hlen : c.fns.length ≤ 9223372036854775807 := hcok.fsok.len
 obtain ⟨f0, f1, f2, f3⟩ := (hf.keep (((Q.refl w).alloc (.cells #[.slice c.ga c.gl.length c.gc, .slice c.na c.ini.length c.nc, .slice c.fa c.fns.length c.fc] 26)).alloc (.cells #[.int .u8 x.op, .int .u8 x.ty, .int .i64 x.dst, .int .i64 x.a, .int .i64 x.b, .int .i64 x.imm, .slice x.aa x.args.length x.ac] 49))).four
 have HB := hideIt (fun y (h : Q (bx3 w c x f) y) => bx3_cells h)
 have hq := hideIt (bx3_q w c x f)
 have ht0 := hxok.ty.1
 have ht1 := hxok.ty.2
 have CK := hideIt (fun X => rknown_any x.op X)
 have CT := hideIt (fun X => rwidth_any x.ty X ht0)
 have CW := hideIt (fun X => writes_any x.op X)
 unfold hdI wtP at hh
 clear hcok hk hf hfok hxok
 rcases x with ⟨op, ty, dst, a, b, imm, args, aa, ac⟩
 rcases c with ⟨gl, ini, fns, ga, gc, na, nc, fa, fc⟩
 dsimp only [PC.v, PI.v, bx3, bxF, bxI, bxC] at *
 subst efa
 cases h1 : knP op <;> rw [h1] at CK hh
 ·clear CT CW hh
  go_enter Try.func53, Try.ntmps53
  go_wp2_with (first | (go_at_call 58; refine (CK.out _).mono ?_; rintro e y ⟨rfl, rfl⟩) | fail)
  go_ret
  exact ⟨rfl, hq.out⟩
 ·cases h2 : decide (ty ≤ 5) <;> rw [h2] at CT hh
  ·clear CW hh
   have ew : IntKind.i64.wrap ty = ty := by simp [IntKind.wrap_i64]; omega
   go_enter Try.func53, Try.ntmps53
   go_wp2_with (first | (go_at_call 58; refine (CK.out _).mono ?_; rintro e y ⟨rfl, rfl⟩) | (go_at_call 69; refine (CT.out _).mono ?_; rintro e y ⟨⟨n, rfl, hn⟩, hy⟩; have HN := hideIt hn; have HY := hideIt hy; clear hy; have hn0 : n = 0 := (by simpa using hn); clear hn; subst hn0) | fail)
   go_ret
   exact ⟨rfl, hq.out.trans HY.out⟩
  ·cases h3 : wrP op <;> rw [h3] at CW hh
   ·cases hh
   ·have hb : blP dst f.regs = false := by simpa using hh
    unfold blP at hb
    clear hh
    have ew : IntKind.i64.wrap ty = ty := by simp [IntKind.wrap_i64]; omega
    by_cases h4 : dst < 0
    ·have e4 : decide (dst < 0) = true := by simpa using h4
     clear h4 hb
     go_enter Try.func53, Try.ntmps53
     go_wp2_with (first | (go_at_call 58; refine (CK.out _).mono ?_; rintro e y ⟨rfl, rfl⟩) | (go_at_call 69; refine (CT.out _).mono ?_; rintro e y ⟨⟨n, rfl, hn⟩, hy⟩; have HN := hideIt hn; have HY := hideIt hy; clear hy; have hn0 : (n == 0) = false := (by simpa using hn); clear hn; obtain ⟨-, ⟨b0, b1, b2, b3, b4, b5, b6⟩, g0, g1, g2, g3⟩ := HB.out _ HY.out) | (go_at_call 32; refine (CW.out _).mono ?_; rintro e z ⟨rfl, rfl⟩) | fail)
     go_ret
     exact ⟨rfl, hq.out.trans HY.out⟩
    ·have e4 : decide (dst < 0) = false := by simpa using h4
     have e5 : decide (f.regs ≤ dst) = true := by
      have : (decide (0 ≤ dst)) = true := by simp; omega
      rw [this] at hb
      simpa using hb
     clear h4 hb
     go_enter Try.func53, Try.ntmps53
     go_wp2_with (first | (go_at_call 58; refine (CK.out _).mono ?_; rintro e y ⟨rfl, rfl⟩) | (go_at_call 69; refine (CT.out _).mono ?_; rintro e y ⟨⟨n, rfl, hn⟩, hy⟩; have HN := hideIt hn; have HY := hideIt hy; clear hy; have hn0 : (n == 0) = false := (by simpa using hn); clear hn; obtain ⟨-, ⟨b0, b1, b2, b3, b4, b5, b6⟩, g0, g1, g2, g3⟩ := HB.out _ HY.out) | (go_at_call 32; refine (CW.out _).mono ?_; rintro e z ⟨rfl, rfl⟩) | fail)
     go_ret
     exact ⟨rfl, hq.out.trans HY.out⟩

end Go.Proofs.Ytphknepblchkdaa

namespace Go.Proofs.Ytphknepblchkdaa
open Go.RowKit
set_option linter.unusedVariables false

set_option maxRecDepth 100000 in
set_option maxHeartbeats 4000000 in
theorem rinst_good (w : World) (k : Nat) (c : PC) (f : PF) (x : PI) (hcok : c.ok w) (hk : c.fns[k]? = some f) (hxok : x.ok w) (hh : hdI f x = true) :
  Calls Try.prog 53 #[c.v, .int .i64 (k : Int), x.v] w fun e w' => e = .returned (.bool (insP c k f x)) ∧ Q w w' := by
 rw [insP_eq, hh, Bool.true_and]
 obtain ⟨fb, fo, efa, hf, hfok⟩ := hcok.fns k f hk
 have hkl : k < c.fns.length := (List.getElem?_eq_some_iff.1 hk).1
 have hkl' : (k : Int) < (c.fns.length : Int) := by omega
 have hlen : c.fns.length ≤ 9223372036854775807 := hcok.fsok.len
 obtain ⟨f0, f1, f2, f3⟩ := (hf.keep (((Q.refl w).alloc (.cells #[.slice c.ga c.gl.length c.gc, .slice c.na c.ini.length c.nc, .slice c.fa c.fns.length c.fc] 26)).alloc (.cells #[.int .u8 x.op, .int .u8 x.ty, .int .i64 x.dst, .int .i64 x.a, .int .i64 x.b, .int .i64 x.imm, .slice x.aa x.args.length x.ac] 49))).four
 have HB := hideIt (fun y (h : Q (bx3 w c x f) y) => bx3_cells h)
 have hq := hideIt (bx3_q w c x f)
 have ht0 := hxok.ty.1
 have ht1 := hxok.ty.2
 have CK := hideIt (fun X => rknown_any x.op X)
 have CT := hideIt (fun X => rwidth_any x.ty X ht0)
 have CW := hideIt (fun X => writes_any x.op X)
 have CU := hideIt (fun X (h : Q (bx3 w c x f) X) => ruses_any x X (hxok.keep ((bx3_q w c x f).trans h)))
 have HFN := hideIt (fun X (h : Q (bx3 w c x f) X) => Fns.keep ((bx3_q w c x f).trans h) hcok.fns)
 have hUl : (usesP x).length ≤ 9223372036854775807 := by
  unfold usesP
  split
  ·exact hxok.sok.len
  ·have := List.length_take_le' (rdP x.op) [x.a, x.b]; simp at this ⊢; omega
 generalize hL : usesP x = L at *
 unfold hdI wtP at hh
 generalize hIm : immP c k f x = imr at *
 have HIM := hideIt hIm
 clear hIm
 clear hcok hk hf hfok hxok hL
 rcases x with ⟨op, ty, dst, a, b, imm, args, aa, ac⟩
 rcases c with ⟨gl, ini, fns, ga, gc, na, nc, fa, fc⟩
 dsimp only [PC.v, PI.v] at *
 subst efa
 simp only [Bool.and_eq_true] at hh
 obtain ⟨h1, h2, h3⟩ := hh
 rw [h1] at CK
 rw [h2] at CT
 have ew : IntKind.i64.wrap ty = ty := by simp [IntKind.wrap_i64]; omega
 have hd : wrP op = false ∨ (wrP op = true ∧ decide (dst < 0) = false ∧ decide (f.regs ≤ dst) = false) := by
  cases h : wrP op
  ·exact Or.inl rfl
  ·rw [h] at h3
   have : blP dst f.regs = true := by simpa using h3
   unfold blP at this
   simp at this
   exact Or.inr ⟨rfl, by simp; omega, by simp; omega⟩
 clear h1 h2 h3
 generalize hB3 : bx3 w ⟨gl, ini, fns, ga, gc, na, nc, some ⟨fb, fo, none⟩, fc⟩ ⟨op, ty, dst, a, b, imm, args, aa, ac⟩ f = B at *
 obtain ⟨⟨a0, a1, a2⟩, ⟨b0, b1, b2, b3, b4, b5, b6⟩, g0, g1, g2, g3⟩ := HB.out B (Q.refl B)
 generalize hS : L.all (fun r => blP r f.regs) = all at *
 have HALL := hideIt hS
 clear hS
 rcases hd with h3 | ⟨h3, h4, h5⟩ <;> rw [h3] at CW
 all_goals
  go_enter Try.func53, Try.ntmps53
  go_wp2_with (first | (go_at_call 58; refine (CK.out _).mono ?_; rintro e y ⟨rfl, rfl⟩) | (go_at_call 69; refine (CT.out _).mono ?_; rintro e y ⟨⟨n, rfl, hn⟩, hy⟩; have HY := hideIt hy; clear hy a0 a1 a2 b0 b1 b2 b3 b4 b5 b6 g0 g1 g2 g3; have hn0 : (n == 0) = false := (by simpa using hn); clear hn; obtain ⟨-, ⟨b0, b1, b2, b3, b4, b5, b6⟩, g0, g1, g2, g3⟩ := HB.out _ HY.out) | (go_at_call 32; refine (CW.out _).mono ?_; rintro e z ⟨rfl, rfl⟩) | (go_at_call 70; refine (CU.out _ HY.out).mono ?_; rintro e z ⟨ao, uc, rfl, hi, hz⟩; have HI := hideIt hi; have HZ := hideIt (HY.out.trans hz); clear hi hz b0 b1 b2 b3 b4 b5 b6 g0 g1 g2 g3) | fail)
  go_loopw [9] (fun i wr => ∃ (j : Nat), i = .int .i64 j ∧ j ≤ L.length ∧ all = (L.drop j).all (fun r => blP r f.regs) ∧ Q z wr) (fun i _ => L.length - (intOf i).toNat)
  case atStart => exact ⟨0, rfl, by omega, by rw [← HALL.out]; simp, Q.refl _⟩
  case round =>
   obtain ⟨j, rfl, hj, r3, hq2⟩ := hrel
   have HR := hideIt r3
   have HQ := hideIt hq2
   have HQB := hideIt (HZ.out.trans hq2)
   obtain ⟨⟨a0, a1, a2⟩, ⟨b0, b1, b2, b3, b4, b5, b6⟩, g0, g1, g2, g3⟩ := HB.out _ HQB.out
   clear r3 hq2
   by_cases hlt : j < L.length
   ·obtain ⟨v, hv⟩ := get_of_lt hlt
    obtain ⟨b7, o7, e7, hc7, -⟩ := (Ints.keep HQ.out HI.out) j v hv
    rw [Nat.mul_one] at hc7
    have hjl : (j : Int) < (L.length : Int) := by omega
    have HS := hideIt (all_drop (p := fun r => blP r f.regs) hv)
    clear hv
    rw [e7]
    by_cases h6 : v < 0
    ·have e6 : decide (v < 0) = true := by simpa using h6
     have eb : blP v f.regs = false := by unfold blP; have : decide (0 ≤ v) = false := (by simp; omega); rw [this]; rfl
     go_wp2_with (fail)
     go_quiet (fail)
     go_wp2
     go_ret
     refine ⟨?_, hq.out.trans (Q.drewN HQB.out _)⟩
     rw [HR.out, HS.out, eb]
     rfl
    ·have e6 : decide (v < 0) = false := by simpa using h6
     by_cases h7 : f.regs ≤ v
     ·have e8 : decide (f.regs ≤ v) = true := by simpa using h7
      have eb : blP v f.regs = false := by unfold blP; have : decide (v < f.regs) = false := (by simp; omega); rw [this, Bool.and_false]
      go_wp2_with (fail)
      go_quiet (fail)
      go_wp2
      go_ret
      refine ⟨?_, hq.out.trans (Q.drewN HQB.out _)⟩
      rw [HR.out, HS.out, eb]
      rfl
     ·have e8 : decide (f.regs ≤ v) = false := by simpa using h7
      have eb : blP v f.regs = true := by unfold blP; simp; omega
      go_wp2_with (fail)
      go_quiet (fail)
      go_wp2
      go_roundw
      case rel =>
       refine ⟨j + 1, by go_num, by omega, ?_, Q.drewN HQ.out _⟩
       rw [HR.out, HS.out, eb, Bool.true_and]
      case measure => simp [intOf]; omega
   ·have ej : j = L.length := by omega
    have ea : all = true := by rw [HR.out, ej, List.drop_length]; rfl
    subst ea
    clear HR HALL
    rcases imm_cases op with rfl | rfl | rfl | rfl | rfl | ⟨h26, h27, h28, h29, h32⟩
    ·have em : imr = (decide (0 ≤ imm) && decide (imm < f.slots.length)) := by have := HIM.out; unfold immP at this; simp only [if_true] at this; rw [← this]; rfl
     cases h8 : decide (0 ≤ imm) <;> rw [h8] at em <;>
     ·go_wp2_with (fail)
      go_ret
      refine ⟨?_, hq.out.trans HQB.out⟩
      rw [em]
      rfl
    ·have em : imr = (decide (0 ≤ imm) && decide (imm < gl.length)) := by have := HIM.out; unfold immP at this; simp at this; rw [← this]; rfl
     cases h8 : decide (0 ≤ imm) <;> rw [h8] at em <;>
     ·go_wp2_with (fail)
      go_ret
      refine ⟨?_, hq.out.trans HQB.out⟩
      rw [em]
      rfl
    ·have em : imr = (decide (1 ≤ imm) && decide (imm ≤ 65536)) := by have := HIM.out; unfold immP at this; simp at this; rw [← this]
     cases h8 : decide (1 ≤ imm) <;> rw [h8] at em <;>
     ·go_wp2_with (fail)
      go_ret
      refine ⟨?_, hq.out.trans HQB.out⟩
      rw [em]
      rfl
    ·have em : imr = (decide (0 ≤ imm) && decide (imm ≤ 65535)) := by
      have := HIM.out
      unfold immP at this
      simp at this
      rw [← this]
      unfold blP
      rw [show decide (imm < 65536) = decide (imm ≤ 65535) by rw [decide_eq_decide]; omega]
     cases h8 : decide (0 ≤ imm) <;> rw [h8] at em <;>
     ·go_wp2_with (fail)
      go_ret
      refine ⟨?_, hq.out.trans HQB.out⟩
      rw [em]
      rfl
    ·have em0 : imr = (blP imm k && (match fns[imm.toNat]? with | some g => (args.length : Int) == g.params | none => false)) := by have := HIM.out; unfold immP at this; simp at this; rw [← this]; rfl
     have HE0 := hideIt em0
     clear em0
     by_cases h8 : 0 ≤ imm
     ·by_cases h9 : imm < k
      ·obtain ⟨m, rfl⟩ : ∃ m : Nat, imm = m := ⟨imm.toNat, by omega⟩
       have hm : m < fns.length := by omega
       obtain ⟨g, hg⟩ := get_of_lt hm
       obtain ⟨gb, go, ega, hgt⟩ := HFN.out _ HQB.out m g hg
       simp only [Option.some.injEq, Addr.mk.injEq, and_true] at ega
       obtain ⟨rfl, rfl⟩ := ega
       obtain ⟨k0, k1, k2, k3⟩ := hgt.1.four
       have hml : (m : Int) < (fns.length : Int) := by omega
       have h8' : decide (0 ≤ (m : Int)) = true := by simp
       have h9' : decide ((m : Int) < (k : Int)) = true := by simpa using h9
       have em : imr = ((args.length : Int) == g.params) := by
        rw [HE0.out]
        have : blP (m : Int) k = true := by unfold blP; rw [h8', h9']; rfl
        rw [this, show ((m : Int)).toNat = m by simp, hg]
        rfl
       have HEM := hideIt em
       clear em hg hgt hm
       go_wp2_with (fail)
       go_quiet (fail)
       go_wp2
       go_ret
       refine ⟨?_, hq.out.trans (Q.drewN HQB.out _)⟩
       rw [HEM.out]
       rfl
      ·have h8' : decide (0 ≤ imm) = true := by simpa using h8
       have h9' : decide (imm < (k : Int)) = false := by simpa using h9
       have em : imr = false := by
        rw [HE0.out]
        have : blP imm k = false := by unfold blP; rw [h8', h9']; rfl
        rw [this, Bool.false_and]
       have HEM := hideIt em
       clear em
       go_wp2_with (fail)
       go_quiet (fail)
       go_wp2
       go_ret
       refine ⟨?_, hq.out.trans (Q.drewN HQB.out _)⟩
       rw [HEM.out]
       rfl
     ·have h8' : decide (0 ≤ imm) = false := by simpa using h8
      have em : imr = false := by
       rw [HE0.out]
       have : blP imm k = false := by unfold blP; rw [h8']; rfl
       rw [this, Bool.false_and]
      have HEM := hideIt em
      clear em
      go_wp2_with (fail)
      go_quiet (fail)
      go_wp2
      go_ret
      refine ⟨?_, hq.out.trans (Q.drewN HQB.out _)⟩
      rw [HEM.out]
      rfl
    ·have em : imr = true := by have := HIM.out; unfold immP at this; simp [h26, h27, h28, h29, h32] at this; rw [← this]
     have HEM := hideIt em
     clear em
     go_wp2_with (fail)
     go_ret
     refine ⟨?_, hq.out.trans HQB.out⟩
     rw [HEM.out]
     rfl

theorem rinst_any (w : World) (k : Nat) (c : PC) (f : PF) (x : PI) (hcok : c.ok w) (hk : c.fns[k]? = some f) (hxok : x.ok w) :
  Calls Try.prog 53 #[c.v, .int .i64 (k : Int), x.v] w fun e w' => e = .returned (.bool (insP c k f x)) ∧ Q w w' := by
 cases h : hdI f x
 ·exact rinst_bad w k c f x hcok hk hxok h
 ·exact rinst_good w k c f x hcok hk hxok h

end Go.Proofs.Ytphknepblchkdaa
