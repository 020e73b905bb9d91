/-
 Whether a part is right, by the document's answer: a contract over the program.
 Whether a part is right, by the document's answer, where it ends as it may: a contract over the program.
-/
import Derived.Test.YtphknepblchkdaaKIrS
namespace Go.Proofs.Ytphknepblchkdaa
open Go.RowKit
set_option linter.unusedVariables false

/-- The three boxes: code, part, function. -/
abbrev bx4 (w : World) (c : PC) (p : PP) (f : PF) : World := bxF (bxP (bxC w c) p) f
theorem bx4_q (w : World) (c : PC) (p : PP) (f : PF) : Q w (bx4 w c p f) := (((Q.refl w).alloc _).alloc _).alloc _
theorem bx4_cells {w y : World} {c : PC} {p : PP} {f : PF} (h : Q (bx4 w c p f) y) :
  (y.cell? ⟨w.heap.size, 0, none⟩ = some (.slice c.ga c.gl.length c.gc) ∧ y.cell? ⟨w.heap.size, 1, none⟩ = some (.slice c.na c.ini.length c.nc) ∧ y.cell? ⟨w.heap.size, 2, none⟩ = some (.slice c.fa c.fns.length c.fc)) ∧
  (y.cell? ⟨w.heap.size + 1, 0, none⟩ = some (.slice p.ia p.ins.length p.ic) ∧ y.cell? ⟨w.heap.size + 1, 1, none⟩ = some (.bool p.e) ∧ y.cell? ⟨w.heap.size + 1, 2, none⟩ = some (.int .i64 p.cond) ∧ y.cell? ⟨w.heap.size + 1, 3, none⟩ = some (.int .i64 p.next) ∧ y.cell? ⟨w.heap.size + 1, 4, none⟩ = some (.int .i64 p.els)) ∧
  (y.cell? ⟨w.heap.size + 1 + 1, 0, none⟩ = some (.int .i64 f.params) ∧ y.cell? ⟨w.heap.size + 1 + 1, 1, none⟩ = some (.int .i64 f.regs) ∧ y.cell? ⟨w.heap.size + 1 + 1, 2, none⟩ = some (.slice f.sa f.slots.length f.sc) ∧ y.cell? ⟨w.heap.size + 1 + 1, 3, none⟩ = some (.slice f.pa f.parts.length f.pc)) := by
 have h1 : At y w.heap.size 0 c.cells := bxC_at ((((Q.refl _).alloc _).alloc _).trans h)
 have h2 : At y (bxC w c).heap.size 0 p.cells := At.box (X := bxC w c) (((Q.refl _).alloc _).trans h)
 have h3 : At y (bxP (bxC w c) p).heap.size 0 f.cells := At.box h
 have e2 : (bxC w c).heap.size = w.heap.size + 1 := by simp
 have e3 : (bxP (bxC w c) p).heap.size = w.heap.size + 1 + 1 := by simp
 rw [e2] at h2
 rw [e3] at h3
 exact ⟨h1.three, h2.five, h3.four⟩

theorem blP_cases (n m : Int) : (blP n m = false ∧ decide (n < 0) = true) ∨ (blP n m = false ∧ decide (n < 0) = false ∧ decide (m ≤ n) = true) ∨ (blP n m = true ∧ decide (n < 0) = false ∧ decide (m ≤ n) = false) := by
 unfold blP
 by_cases h : n < 0
 ·have : decide (0 ≤ n) = false := by simp; omega
  exact Or.inl ⟨by rw [this]; rfl, by simpa using h⟩
 ·have e : decide (0 ≤ n) = true := by simp; omega
  by_cases h2 : m ≤ n
  ·have : decide (n < m) = false := by simp; omega
   exact Or.inr (Or.inl ⟨by rw [this, Bool.and_false], by simpa using h, by simpa using h2⟩)
  ·have : decide (n < m) = true := by simp; omega
   exact Or.inr (Or.inr ⟨by rw [e, this]; rfl, by simpa using h, by simpa using h2⟩)

set_option maxRecDepth 100000 in
set_option maxHeartbeats 4000000 in
theorem rpart_bad (w : World) (k : Nat) (c : PC) (f : PF) (p : PP) (hcok : c.ok w) (hk : c.fns[k]? = some f) (hh : endP f p = false) :
  Calls Try.prog 27 #[c.v, .int .i64 (k : Int), p.v] w fun e w' => e = .returned (.bool (ptP c k f p)) ∧ Q w w' := by
 unfold ptP
 rw [hh, Bool.false_and]
 obtain ⟨fb, fo, efa, hf, hfok⟩ := hcok.fns k f hk
 have hkl : k < c.fns.length := (List.getElem?_eq_some_iff.1 hk).1
 have hkl' : (k : Int) < (c.fns.length : Int) := by omega
 have hlen : c.fns.length ≤ 9223372036854775807 := hcok.fsok.len
 obtain ⟨f0, f1, f2, f3⟩ := (hf.keep (((Q.refl w).alloc (.cells #[.slice c.ga c.gl.length c.gc, .slice c.na c.ini.length c.nc, .slice c.fa c.fns.length c.fc] 26)).alloc (.cells #[.slice p.ia p.ins.length p.ic, .bool p.e, .int .i64 p.cond, .int .i64 p.next, .int .i64 p.els] 47))).four
 have hq := hideIt (bx4_q w c p f)
 clear hcok hk hf hfok
 unfold endP at hh
 rcases c with ⟨gl, ini, fns, ga, gc, na, nc, fa, fc⟩
 rcases p with ⟨ins, e, cond, next, els, ia, ic⟩
 dsimp only [PC.v, PP.v, bx4, bxF, bxP, bxC] at *
 subst efa
 cases e
 ·by_cases hc : cond < 0
  ·simp only [hc, if_true] at hh
   have hc0 : decide (0 ≤ cond) = false := by simp; omega
   rcases blP_cases next f.parts.length with ⟨-, h1⟩ | ⟨-, h1, h2⟩ | ⟨h0, -⟩
   ·clear hh hc
    go_enter Try.func27, Try.ntmps27
    go_wp2_with (fail)
    go_ret
    exact ⟨rfl, hq.out⟩
   ·clear hh hc
    go_enter Try.func27, Try.ntmps27
    go_wp2_with (fail)
    go_ret
    exact ⟨rfl, hq.out⟩
   ·simp [h0] at hh
  ·simp only [hc, if_false] at hh
   have hc0 : decide (0 ≤ cond) = true := by simp; omega
   have hc1 : decide (cond < 0) = false := by simpa using hc
   rcases blP_cases next f.parts.length with ⟨-, h1⟩ | ⟨-, h1, h2⟩ | ⟨h0, h1, h2⟩
   ·clear hh hc
    go_enter Try.func27, Try.ntmps27
    go_wp2_with (fail)
    go_ret
    exact ⟨rfl, hq.out⟩
   ·clear hh hc
    go_enter Try.func27, Try.ntmps27
    go_wp2_with (fail)
    go_ret
    exact ⟨rfl, hq.out⟩
   ·rcases blP_cases cond f.regs with ⟨-, h3⟩ | ⟨-, h3, h4⟩ | ⟨h5, h3, h4⟩
    ·rw [h3] at hc1
     cases hc1
    ·clear hh hc h0
     go_enter Try.func27, Try.ntmps27
     go_wp2_with (fail)
     go_ret
     exact ⟨rfl, hq.out⟩
    ·rcases blP_cases els f.parts.length with ⟨-, h6⟩ | ⟨-, h6, h7⟩ | ⟨h8, -⟩
     ·clear hh hc h0 h5
      go_enter Try.func27, Try.ntmps27
      go_wp2_with (fail)
      go_ret
      exact ⟨rfl, hq.out⟩
     ·clear hh hc h0 h5
      go_enter Try.func27, Try.ntmps27
      go_wp2_with (fail)
      go_ret
      exact ⟨rfl, hq.out⟩
     ·simp [h0, h5, h8] at hh
 ·simp only [if_true] at hh
  rcases blP_cases cond f.regs with ⟨-, h3⟩ | ⟨-, h3, h4⟩ | ⟨h5, -⟩
  ·clear hh
   go_enter Try.func27, Try.ntmps27
   go_wp2_with (fail)
   go_ret
   exact ⟨rfl, hq.out⟩
  ·clear hh
   go_enter Try.func27, Try.ntmps27
   go_wp2_with (fail)
   go_ret
   exact ⟨rfl, hq.out⟩
  ·rw [h5] at hh
   cases hh

end Go.Proofs.Ytphknepblchkdaa

namespace Go.Proofs.Ytphknepblchkdaa
open Go.RowKit
set_option linter.unusedVariables false

theorem blP_true {n m : Int} (h : blP n m = true) : decide (n < 0) = false ∧ decide (m ≤ n) = false := by
 rcases blP_cases n m with ⟨h0, -⟩ | ⟨h0, -⟩ | ⟨-, h1, h2⟩
 ·rw [h0] at h; cases h
 ·rw [h0] at h; cases h
 ·exact ⟨h1, h2⟩
/-- The ways of a part that ends as it may. -/
theorem endP_ways {f : PF} {p : PP} (h : endP f p = true) : (p.e = true ∧ decide (p.cond < 0) = false ∧ decide (f.regs ≤ p.cond) = false) ∨ (p.e = false ∧ decide (p.next < 0) = false ∧ decide ((f.parts.length : Int) ≤ p.next) = false ∧ decide (0 ≤ p.cond) = false) ∨ (p.e = false ∧ decide (p.next < 0) = false ∧ decide ((f.parts.length : Int) ≤ p.next) = false ∧ decide (0 ≤ p.cond) = true ∧ decide (f.regs ≤ p.cond) = false ∧ decide (p.els < 0) = false ∧ decide ((f.parts.length : Int) ≤ p.els) = false) := by
 unfold endP at h
 cases he : p.e
 ·rw [he] at h
  simp only [Bool.false_eq_true, if_false] at h
  by_cases hc : p.cond < 0
  ·rw [if_pos hc] at h
   obtain ⟨h1, h2⟩ := blP_true h
   exact Or.inr (Or.inl ⟨rfl, h1, h2, by simp; omega⟩)
  ·rw [if_neg hc] at h
   simp only [Bool.and_eq_true] at h
   obtain ⟨h1, h2, h3⟩ := h
   obtain ⟨a1, a2⟩ := blP_true h1
   obtain ⟨b1, b2⟩ := blP_true h2
   obtain ⟨c1, c2⟩ := blP_true h3
   exact Or.inr (Or.inr ⟨rfl, b1, b2, by simp; omega, a2, c1, c2⟩)
 ·rw [he] at h
  simp only [if_true] at h
  obtain ⟨h1, h2⟩ := blP_true h
  exact Or.inl ⟨rfl, h1, h2⟩

set_option maxRecDepth 100000 in
set_option maxHeartbeats 4000000 in
theorem rpart_good (w : World) (k : Nat) (c : PC) (f : PF) (p : PP) (hcok : c.ok w) (hk : c.fns[k]? = some f) (hpok : p.ok w) (hh : endP f p = true) :
  Calls Try.prog 27 #[c.v, .int .i64 (k : Int), p.v] w fun e w' => e = .returned (.bool (ptP c k f p)) ∧ Q w w' := by
 unfold ptP
 rw [hh, Bool.true_and]
 have hways := endP_ways hh
 obtain ⟨fb, fo, efa, hf, hfok⟩ := hcok.fns k f hk
 have hkl : k < c.fns.length := (List.getElem?_eq_some_iff.1 hk).1
 have hkl' : (k : Int) < (c.fns.length : Int) := by omega
 have hlen : c.fns.length ≤ 9223372036854775807 := hcok.fsok.len
 have hilen : p.ins.length ≤ 9223372036854775807 := hpok.sok.len
 obtain ⟨f0, f1, f2, f3⟩ := (hf.keep (((Q.refl w).alloc (.cells #[.slice c.ga c.gl.length c.gc, .slice c.na c.ini.length c.nc, .slice c.fa c.fns.length c.fc] 26)).alloc (.cells #[.slice p.ia p.ins.length p.ic, .bool p.e, .int .i64 p.cond, .int .i64 p.next, .int .i64 p.els] 47))).four
 have hq := hideIt (bx4_q w c p f)
 have HB := hideIt (fun y (h : Q (bx4 w c p f) y) => bx4_cells h)
 have HI := hideIt (hpok.ins.keep (bx4_q w c p f))
 have CI0 := hideIt (fun X (h : Q (bx4 w c p f) X) x hx => rinst_any X k c f x (hcok.keep ((bx4_q w c p f).trans h)) hk hx)
 clear hcok hk hf hfok hpok hh
 rcases c with ⟨gl, ini, fns, ga, gc, na, nc, fa, fc⟩
 rcases p with ⟨ins, e, cond, next, els, ia, ic⟩
 dsimp only [PP.v] at *
 subst efa
 generalize hC0 : (⟨gl, ini, fns, ga, gc, na, nc, some ⟨fb, fo, none⟩, fc⟩ : PC) = C0 at *
 rw [show PC.v C0 = .agg #[.slice ga gl.length gc, .slice na ini.length nc, .slice (some ⟨fb, fo, none⟩) fns.length fc] by rw [← hC0]]
 rw [← hC0] at HB hq HI CI0
 dsimp only [bx4, bxF, bxP, bxC] at HB hq HI CI0
 rw [hC0] at CI0
 have HC0 := hideIt hC0
 clear hC0
 have hC0 := HC0.out
 generalize hS : ins.all (insP C0 k f) = all
 have HALL := hideIt hS
 clear hS
 generalize hBB : ((w.alloc (.cells #[.slice ga gl.length gc, .slice na ini.length nc, .slice (some ⟨fb, fo, none⟩) fns.length fc] 26)).alloc (.cells #[.slice ia ins.length ic, .bool e, .int .i64 cond, .int .i64 next, .int .i64 els] 47)).alloc (.cells #[.int .i64 f.params, .int .i64 f.regs, .slice f.sa f.slots.length f.sc, .slice f.pa f.parts.length f.pc] 44) = B at *
 have HB0 := hideIt (Q.refl B)
 obtain ⟨⟨a0, a1, a2⟩, ⟨b0, b1, b2, b3, b4⟩, g0, g1, g2, g3⟩ := HB.out B (Q.refl B)
 rcases hways with ⟨rfl, h1, h2⟩ | ⟨rfl, h1, h2, h3⟩ | ⟨rfl, h1, h2, h3, h4, h5, h6⟩
 ·go_enter Try.func27, Try.ntmps27
  go_wp2_with (fail)
  clear a0 a1 a2 b0 b1 b2 b3 b4 g0 g1 g2 g3
  go_loopw [8] (fun i wr => ∃ (j : Nat), i = .int .i64 j ∧ j ≤ ins.length ∧ all = (ins.drop j).all (insP C0 k f) ∧ Q B wr) (fun i _ => ins.length - (intOf i).toNat)
  case atStart => exact ⟨0, rfl, by omega, by rw [← HALL.out]; simp, HB0.out⟩
  case round =>
   obtain ⟨j, rfl, hj, r3, hq2⟩ := hrel
   have HR := hideIt r3
   have HQ := hideIt hq2
   obtain ⟨⟨a0, a1, a2⟩, ⟨b0, b1, b2, b3, b4⟩, g0, g1, g2, g3⟩ := HB.out _ hq2
   clear r3 hq2
   by_cases hlt : j < ins.length
   ·obtain ⟨x, hx⟩ := get_of_lt hlt
    obtain ⟨ib, io, eia, hxat⟩ := (Insts.keep HQ.out HI.out) j x hx
    subst eia
    have hjl : (j : Int) < (ins.length : Int) := by omega
    have HS := hideIt (all_drop (p := insP C0 k f) hx)
    have hF : Hid (∀ y, Q wr y → y.cell? ⟨w.heap.size, 0, none⟩ = some (.slice ga gl.length gc) ∧ y.cell? ⟨w.heap.size, 1, none⟩ = some (.slice na ini.length nc) ∧ y.cell? ⟨w.heap.size, 2, none⟩ = some (.slice (some ⟨fb, fo, none⟩) fns.length fc) ∧ y.cell? ⟨w.heap.size + 1, 0, none⟩ = some (.slice (some ⟨ib, io, none⟩) ins.length ic) ∧ y.cell? ⟨ib, io + j * 7, none⟩ = some (.int .u8 x.op) ∧ y.cell? ⟨ib, io + j * 7 + 1, none⟩ = some (.int .u8 x.ty) ∧ y.cell? ⟨ib, io + j * 7 + 2, none⟩ = some (.int .i64 x.dst) ∧ y.cell? ⟨ib, io + j * 7 + 3, none⟩ = some (.int .i64 x.a) ∧ y.cell? ⟨ib, io + j * 7 + 4, none⟩ = some (.int .i64 x.b) ∧ y.cell? ⟨ib, io + j * 7 + 5, none⟩ = some (.int .i64 x.imm) ∧ y.cell? ⟨ib, io + j * 7 + 6, none⟩ = some (.slice x.aa x.args.length x.ac)) := fun y h => by
     obtain ⟨⟨a0, a1, a2⟩, ⟨b0, -⟩, -⟩ := HB.out _ (HQ.out.trans h)
     exact ⟨a0, a1, a2, b0, (hxat.1.keep h).seven⟩
    have CI : Hid (∀ X, Q wr X → Calls Try.prog 53 #[PC.v C0, .int .i64 (k : Int), x.v] X fun e w' => e = .returned (.bool (insP C0 k f x)) ∧ Q wr w' ∧ w'.cell? ⟨w.heap.size, 0, none⟩ = some (.slice ga gl.length gc) ∧ w'.cell? ⟨w.heap.size, 1, none⟩ = some (.slice na ini.length nc) ∧ w'.cell? ⟨w.heap.size, 2, none⟩ = some (.slice (some ⟨fb, fo, none⟩) fns.length fc) ∧ w'.cell? ⟨w.heap.size + 1, 0, none⟩ = some (.slice (some ⟨ib, io, none⟩) ins.length ic) ∧ w'.cell? ⟨ib, io + j * 7, none⟩ = some (.int .u8 x.op) ∧ w'.cell? ⟨ib, io + j * 7 + 1, none⟩ = some (.int .u8 x.ty) ∧ w'.cell? ⟨ib, io + j * 7 + 2, none⟩ = some (.int .i64 x.dst) ∧ w'.cell? ⟨ib, io + j * 7 + 3, none⟩ = some (.int .i64 x.a) ∧ w'.cell? ⟨ib, io + j * 7 + 4, none⟩ = some (.int .i64 x.b) ∧ w'.cell? ⟨ib, io + j * 7 + 5, none⟩ = some (.int .i64 x.imm) ∧ w'.cell? ⟨ib, io + j * 7 + 6, none⟩ = some (.slice x.aa x.args.length x.ac)) := fun X h => (CI0.out X (HQ.out.trans h) x (hxat.2.keep h)).mono fun _ _ ⟨e, q⟩ => ⟨e, h.trans q, hF.out _ (h.trans q)⟩
    clear hx hxat a0 a1 a2 g0 g1 g2 g3 b1 b2 b3 b4
    generalize hWR : wr = WR at *
    rw [← hC0] at CI
    dsimp only [PC.v] at CI
    rw [hC0] at CI
    cases hi : insP C0 k f x <;> rw [hi] at CI
    ·go_wp2_with (fail)
     refine wp_region_held_drew (S := (fun y : World => Q WR y ∧ y.cell? ⟨w.heap.size, 0, none⟩ = some (.slice ga gl.length gc) ∧ y.cell? ⟨w.heap.size, 1, none⟩ = some (.slice na ini.length nc) ∧ y.cell? ⟨w.heap.size, 2, none⟩ = some (.slice (some ⟨fb, fo, none⟩) fns.length fc) ∧ y.cell? ⟨w.heap.size + 1, 0, none⟩ = some (.slice (some ⟨ib, io, none⟩) ins.length ic) ∧ y.cell? ⟨ib, io + j * 7, none⟩ = some (.int .u8 x.op) ∧ y.cell? ⟨ib, io + j * 7 + 1, none⟩ = some (.int .u8 x.ty) ∧ y.cell? ⟨ib, io + j * 7 + 2, none⟩ = some (.int .i64 x.dst) ∧ y.cell? ⟨ib, io + j * 7 + 3, none⟩ = some (.int .i64 x.a) ∧ y.cell? ⟨ib, io + j * 7 + 4, none⟩ = some (.int .i64 x.b) ∧ y.cell? ⟨ib, io + j * 7 + 5, none⟩ = some (.int .i64 x.imm) ∧ y.cell? ⟨ib, io + j * 7 + 6, none⟩ = some (.slice x.aa x.args.length x.ac))) (by kernel_rfl) (⟨(Q.refl _).drew, hF.out _ (Q.refl _).drew⟩) (fun hHeld => ?_)
     refine wpAnyH_take (i := 0) (oi := ⟨_, _, _, _, _, _⟩) (v := ?_) rfl (by kernel_rfl) (by kernel_rfl) (by kernel_rfl) (fun _ _ _ h => h) (Or.inl ⟨by rfl, ?_⟩) (by assumption) ?_
     rotate_left 1
     ·intro w hSw; (try dsimp only at hSw); go_simp; all_goals with_reducible rfl
     try simp only [Act.put, List.setIfInBounds_toArray, List.set_cons_zero, List.set_cons_succ]
     refine wpAnyH_take (i := 1) (oi := ⟨_, _, _, _, _, _⟩) (v := ?_) rfl (by kernel_rfl) (by kernel_rfl) (by kernel_rfl) (fun _ _ _ h => h) (Or.inl ⟨by rfl, ?_⟩) (by assumption) ?_
     rotate_left 1
     ·intro w hSw; (try dsimp only at hSw); go_simp; all_goals with_reducible rfl
     try simp only [Act.put, List.setIfInBounds_toArray, List.set_cons_zero, List.set_cons_succ]
     refine wpAnyH_take (i := 2) (oi := ⟨_, _, _, _, _, _⟩) (v := ?_) rfl (by kernel_rfl) (by kernel_rfl) (by kernel_rfl) (fun _ _ _ h => h) (Or.inl ⟨by rfl, ?_⟩) (by assumption) ?_
     rotate_left 1
     ·intro w hSw; (try dsimp only at hSw); go_simp; all_goals with_reducible rfl
     try simp only [Act.put, List.setIfInBounds_toArray, List.set_cons_zero, List.set_cons_succ]
     refine wpAnyH_take (i := 3) (oi := ⟨_, _, _, _, _, _⟩) (v := ?_) rfl (by kernel_rfl) (by kernel_rfl) (by kernel_rfl) (fun _ _ _ h => h) (Or.inl ⟨by rfl, ?_⟩) (by assumption) ?_
     rotate_left 1
     ·intro w hSw; (try dsimp only at hSw); go_simp; all_goals with_reducible rfl
     try simp only [Act.put, List.setIfInBounds_toArray, List.set_cons_zero, List.set_cons_succ]
     refine wpAnyH_take (i := 4) (oi := ⟨_, _, _, _, _, _⟩) (v := ?_) rfl (by kernel_rfl) (by kernel_rfl) (by kernel_rfl) (fun _ _ _ h => h) (Or.inl ⟨by rfl, ?_⟩) (by assumption) ?_
     rotate_left 1
     ·intro w hSw; (try dsimp only at hSw); go_simp; all_goals with_reducible rfl
     try simp only [Act.put, List.setIfInBounds_toArray, List.set_cons_zero, List.set_cons_succ]
     refine wpAnyH_take (i := 5) (oi := ⟨_, _, _, _, _, _⟩) (v := ?_) rfl (by kernel_rfl) (by kernel_rfl) (by kernel_rfl) (fun _ _ _ h => h) (Or.inl ⟨by rfl, ?_⟩) (by assumption) ?_
     rotate_left 1
     ·intro w hSw; (try dsimp only at hSw); go_simp; all_goals with_reducible rfl
     try simp only [Act.put, List.setIfInBounds_toArray, List.set_cons_zero, List.set_cons_succ]
     refine wpAnyH_take (i := 6) (oi := ⟨_, _, _, _, _, _⟩) (v := ?_) rfl (by kernel_rfl) (by kernel_rfl) (by kernel_rfl) (fun _ _ _ h => h) (Or.inl ⟨by rfl, ?_⟩) (by assumption) ?_
     rotate_left 1
     ·intro w hSw; (try dsimp only at hSw); go_simp; all_goals with_reducible rfl
     try simp only [Act.put, List.setIfInBounds_toArray, List.set_cons_zero, List.set_cons_succ]
     refine wpAnyH_ready (rs := [7]) (by kernel_rfl) (by simp) (AllReadyH.cons (o := ⟨_, _, _, _, _, _⟩) rfl (fun K hK => ?_) AllReadyH.nil)
     go_simp
     go_at_call 53; refine (CI.out _ hHeld.1).mono ?_; rintro e y ⟨rfl, s0, s1, s2, s3, s4, s5, s6, s7, s8, s9, s10, s11⟩
     refine hK.out _ _ ?_ (fun hHeld => ?_)
     ·exact ⟨s0, s1, s2, s3, s4, s5, s6, s7, s8, s9, s10, s11⟩
     clear hK K
     try simp only [Act.put, List.setIfInBounds_toArray, List.set_cons_zero, List.set_cons_succ]
     refine wpAnyH_take (i := 8) (oi := ⟨_, _, _, _, _, _⟩) (v := ?_) rfl (by kernel_rfl) (by kernel_rfl) (by kernel_rfl) (fun _ _ _ h => h) (Or.inl ⟨by rfl, ?_⟩) (by assumption) ?_
     rotate_left 1
     ·intro w hSw; (try dsimp only at hSw); go_simp; all_goals with_reducible rfl
     try simp only [Act.put, List.setIfInBounds_toArray, List.set_cons_zero, List.set_cons_succ]
     refine wpAnyH_done (by kernel_rfl) ?_ _
     go_wp2
     go_ret
     refine ⟨?_, hq.out.trans (HQ.out.trans hHeld.1)⟩
     rw [HR.out, HS.out, hi]
     rfl
    ·go_wp2_with (fail)
     refine wp_region_held_drew (S := (fun y : World => Q WR y ∧ y.cell? ⟨w.heap.size, 0, none⟩ = some (.slice ga gl.length gc) ∧ y.cell? ⟨w.heap.size, 1, none⟩ = some (.slice na ini.length nc) ∧ y.cell? ⟨w.heap.size, 2, none⟩ = some (.slice (some ⟨fb, fo, none⟩) fns.length fc) ∧ y.cell? ⟨w.heap.size + 1, 0, none⟩ = some (.slice (some ⟨ib, io, none⟩) ins.length ic) ∧ y.cell? ⟨ib, io + j * 7, none⟩ = some (.int .u8 x.op) ∧ y.cell? ⟨ib, io + j * 7 + 1, none⟩ = some (.int .u8 x.ty) ∧ y.cell? ⟨ib, io + j * 7 + 2, none⟩ = some (.int .i64 x.dst) ∧ y.cell? ⟨ib, io + j * 7 + 3, none⟩ = some (.int .i64 x.a) ∧ y.cell? ⟨ib, io + j * 7 + 4, none⟩ = some (.int .i64 x.b) ∧ y.cell? ⟨ib, io + j * 7 + 5, none⟩ = some (.int .i64 x.imm) ∧ y.cell? ⟨ib, io + j * 7 + 6, none⟩ = some (.slice x.aa x.args.length x.ac))) (by kernel_rfl) (⟨(Q.refl _).drew, hF.out _ (Q.refl _).drew⟩) (fun hHeld => ?_)
     refine wpAnyH_take (i := 0) (oi := ⟨_, _, _, _, _, _⟩) (v := ?_) rfl (by kernel_rfl) (by kernel_rfl) (by kernel_rfl) (fun _ _ _ h => h) (Or.inl ⟨by rfl, ?_⟩) (by assumption) ?_
     rotate_left 1
     ·intro w hSw; (try dsimp only at hSw); go_simp; all_goals with_reducible rfl
     try simp only [Act.put, List.setIfInBounds_toArray, List.set_cons_zero, List.set_cons_succ]
     refine wpAnyH_take (i := 1) (oi := ⟨_, _, _, _, _, _⟩) (v := ?_) rfl (by kernel_rfl) (by kernel_rfl) (by kernel_rfl) (fun _ _ _ h => h) (Or.inl ⟨by rfl, ?_⟩) (by assumption) ?_
     rotate_left 1
     ·intro w hSw; (try dsimp only at hSw); go_simp; all_goals with_reducible rfl
     try simp only [Act.put, List.setIfInBounds_toArray, List.set_cons_zero, List.set_cons_succ]
     refine wpAnyH_take (i := 2) (oi := ⟨_, _, _, _, _, _⟩) (v := ?_) rfl (by kernel_rfl) (by kernel_rfl) (by kernel_rfl) (fun _ _ _ h => h) (Or.inl ⟨by rfl, ?_⟩) (by assumption) ?_
     rotate_left 1
     ·intro w hSw; (try dsimp only at hSw); go_simp; all_goals with_reducible rfl
     try simp only [Act.put, List.setIfInBounds_toArray, List.set_cons_zero, List.set_cons_succ]
     refine wpAnyH_take (i := 3) (oi := ⟨_, _, _, _, _, _⟩) (v := ?_) rfl (by kernel_rfl) (by kernel_rfl) (by kernel_rfl) (fun _ _ _ h => h) (Or.inl ⟨by rfl, ?_⟩) (by assumption) ?_
     rotate_left 1
     ·intro w hSw; (try dsimp only at hSw); go_simp; all_goals with_reducible rfl
     try simp only [Act.put, List.setIfInBounds_toArray, List.set_cons_zero, List.set_cons_succ]
     refine wpAnyH_take (i := 4) (oi := ⟨_, _, _, _, _, _⟩) (v := ?_) rfl (by kernel_rfl) (by kernel_rfl) (by kernel_rfl) (fun _ _ _ h => h) (Or.inl ⟨by rfl, ?_⟩) (by assumption) ?_
     rotate_left 1
     ·intro w hSw; (try dsimp only at hSw); go_simp; all_goals with_reducible rfl
     try simp only [Act.put, List.setIfInBounds_toArray, List.set_cons_zero, List.set_cons_succ]
     refine wpAnyH_take (i := 5) (oi := ⟨_, _, _, _, _, _⟩) (v := ?_) rfl (by kernel_rfl) (by kernel_rfl) (by kernel_rfl) (fun _ _ _ h => h) (Or.inl ⟨by rfl, ?_⟩) (by assumption) ?_
     rotate_left 1
     ·intro w hSw; (try dsimp only at hSw); go_simp; all_goals with_reducible rfl
     try simp only [Act.put, List.setIfInBounds_toArray, List.set_cons_zero, List.set_cons_succ]
     refine wpAnyH_take (i := 6) (oi := ⟨_, _, _, _, _, _⟩) (v := ?_) rfl (by kernel_rfl) (by kernel_rfl) (by kernel_rfl) (fun _ _ _ h => h) (Or.inl ⟨by rfl, ?_⟩) (by assumption) ?_
     rotate_left 1
     ·intro w hSw; (try dsimp only at hSw); go_simp; all_goals with_reducible rfl
     try simp only [Act.put, List.setIfInBounds_toArray, List.set_cons_zero, List.set_cons_succ]
     refine wpAnyH_ready (rs := [7]) (by kernel_rfl) (by simp) (AllReadyH.cons (o := ⟨_, _, _, _, _, _⟩) rfl (fun K hK => ?_) AllReadyH.nil)
     go_simp
     go_at_call 53; refine (CI.out _ hHeld.1).mono ?_; rintro e y ⟨rfl, s0, s1, s2, s3, s4, s5, s6, s7, s8, s9, s10, s11⟩
     refine hK.out _ _ ?_ (fun hHeld => ?_)
     ·exact ⟨s0, s1, s2, s3, s4, s5, s6, s7, s8, s9, s10, s11⟩
     clear hK K
     try simp only [Act.put, List.setIfInBounds_toArray, List.set_cons_zero, List.set_cons_succ]
     refine wpAnyH_take (i := 8) (oi := ⟨_, _, _, _, _, _⟩) (v := ?_) rfl (by kernel_rfl) (by kernel_rfl) (by kernel_rfl) (fun _ _ _ h => h) (Or.inl ⟨by rfl, ?_⟩) (by assumption) ?_
     rotate_left 1
     ·intro w hSw; (try dsimp only at hSw); go_simp; all_goals with_reducible rfl
     try simp only [Act.put, List.setIfInBounds_toArray, List.set_cons_zero, List.set_cons_succ]
     refine wpAnyH_done (by kernel_rfl) ?_ _
     go_wp2
     go_roundw
     case rel =>
      refine ⟨j + 1, by go_num, by omega, ?_, HQ.out.trans hHeld.1⟩
      rw [HR.out, HS.out, hi, Bool.true_and]
     case measure => simp [intOf]; omega
   ·have ej : j = ins.length := by omega
    go_wp2_with (fail)
    go_ret
    refine ⟨?_, hq.out.trans HQ.out⟩
    rw [HR.out, ej, List.drop_length]
    rfl
 ·go_enter Try.func27, Try.ntmps27
  go_wp2_with (fail)
  clear a0 a1 a2 b0 b1 b2 b3 b4 g0 g1 g2 g3
  go_loopw [8] (fun i wr => ∃ (j : Nat), i = .int .i64 j ∧ j ≤ ins.length ∧ all = (ins.drop j).all (insP C0 k f) ∧ Q B wr) (fun i _ => ins.length - (intOf i).toNat)
  case atStart => exact ⟨0, rfl, by omega, by rw [← HALL.out]; simp, HB0.out⟩
  case round =>
   obtain ⟨j, rfl, hj, r3, hq2⟩ := hrel
   have HR := hideIt r3
   have HQ := hideIt hq2
   obtain ⟨⟨a0, a1, a2⟩, ⟨b0, b1, b2, b3, b4⟩, g0, g1, g2, g3⟩ := HB.out _ hq2
   clear r3 hq2
   by_cases hlt : j < ins.length
   ·obtain ⟨x, hx⟩ := get_of_lt hlt
    obtain ⟨ib, io, eia, hxat⟩ := (Insts.keep HQ.out HI.out) j x hx
    subst eia
    have hjl : (j : Int) < (ins.length : Int) := by omega
    have HS := hideIt (all_drop (p := insP C0 k f) hx)
    have hF : Hid (∀ y, Q wr y → y.cell? ⟨w.heap.size, 0, none⟩ = some (.slice ga gl.length gc) ∧ y.cell? ⟨w.heap.size, 1, none⟩ = some (.slice na ini.length nc) ∧ y.cell? ⟨w.heap.size, 2, none⟩ = some (.slice (some ⟨fb, fo, none⟩) fns.length fc) ∧ y.cell? ⟨w.heap.size + 1, 0, none⟩ = some (.slice (some ⟨ib, io, none⟩) ins.length ic) ∧ y.cell? ⟨ib, io + j * 7, none⟩ = some (.int .u8 x.op) ∧ y.cell? ⟨ib, io + j * 7 + 1, none⟩ = some (.int .u8 x.ty) ∧ y.cell? ⟨ib, io + j * 7 + 2, none⟩ = some (.int .i64 x.dst) ∧ y.cell? ⟨ib, io + j * 7 + 3, none⟩ = some (.int .i64 x.a) ∧ y.cell? ⟨ib, io + j * 7 + 4, none⟩ = some (.int .i64 x.b) ∧ y.cell? ⟨ib, io + j * 7 + 5, none⟩ = some (.int .i64 x.imm) ∧ y.cell? ⟨ib, io + j * 7 + 6, none⟩ = some (.slice x.aa x.args.length x.ac)) := fun y h => by
     obtain ⟨⟨a0, a1, a2⟩, ⟨b0, -⟩, -⟩ := HB.out _ (HQ.out.trans h)
     exact ⟨a0, a1, a2, b0, (hxat.1.keep h).seven⟩
    have CI : Hid (∀ X, Q wr X → Calls Try.prog 53 #[PC.v C0, .int .i64 (k : Int), x.v] X fun e w' => e = .returned (.bool (insP C0 k f x)) ∧ Q wr w' ∧ w'.cell? ⟨w.heap.size, 0, none⟩ = some (.slice ga gl.length gc) ∧ w'.cell? ⟨w.heap.size, 1, none⟩ = some (.slice na ini.length nc) ∧ w'.cell? ⟨w.heap.size, 2, none⟩ = some (.slice (some ⟨fb, fo, none⟩) fns.length fc) ∧ w'.cell? ⟨w.heap.size + 1, 0, none⟩ = some (.slice (some ⟨ib, io, none⟩) ins.length ic) ∧ w'.cell? ⟨ib, io + j * 7, none⟩ = some (.int .u8 x.op) ∧ w'.cell? ⟨ib, io + j * 7 + 1, none⟩ = some (.int .u8 x.ty) ∧ w'.cell? ⟨ib, io + j * 7 + 2, none⟩ = some (.int .i64 x.dst) ∧ w'.cell? ⟨ib, io + j * 7 + 3, none⟩ = some (.int .i64 x.a) ∧ w'.cell? ⟨ib, io + j * 7 + 4, none⟩ = some (.int .i64 x.b) ∧ w'.cell? ⟨ib, io + j * 7 + 5, none⟩ = some (.int .i64 x.imm) ∧ w'.cell? ⟨ib, io + j * 7 + 6, none⟩ = some (.slice x.aa x.args.length x.ac)) := fun X h => (CI0.out X (HQ.out.trans h) x (hxat.2.keep h)).mono fun _ _ ⟨e, q⟩ => ⟨e, h.trans q, hF.out _ (h.trans q)⟩
    clear hx hxat a0 a1 a2 g0 g1 g2 g3 b1 b2 b3 b4
    generalize hWR : wr = WR at *
    rw [← hC0] at CI
    dsimp only [PC.v] at CI
    rw [hC0] at CI
    cases hi : insP C0 k f x <;> rw [hi] at CI
    ·go_wp2_with (fail)
     refine wp_region_held_drew (S := (fun y : World => Q WR y ∧ y.cell? ⟨w.heap.size, 0, none⟩ = some (.slice ga gl.length gc) ∧ y.cell? ⟨w.heap.size, 1, none⟩ = some (.slice na ini.length nc) ∧ y.cell? ⟨w.heap.size, 2, none⟩ = some (.slice (some ⟨fb, fo, none⟩) fns.length fc) ∧ y.cell? ⟨w.heap.size + 1, 0, none⟩ = some (.slice (some ⟨ib, io, none⟩) ins.length ic) ∧ y.cell? ⟨ib, io + j * 7, none⟩ = some (.int .u8 x.op) ∧ y.cell? ⟨ib, io + j * 7 + 1, none⟩ = some (.int .u8 x.ty) ∧ y.cell? ⟨ib, io + j * 7 + 2, none⟩ = some (.int .i64 x.dst) ∧ y.cell? ⟨ib, io + j * 7 + 3, none⟩ = some (.int .i64 x.a) ∧ y.cell? ⟨ib, io + j * 7 + 4, none⟩ = some (.int .i64 x.b) ∧ y.cell? ⟨ib, io + j * 7 + 5, none⟩ = some (.int .i64 x.imm) ∧ y.cell? ⟨ib, io + j * 7 + 6, none⟩ = some (.slice x.aa x.args.length x.ac))) (by kernel_rfl) (⟨(Q.refl _).drew, hF.out _ (Q.refl _).drew⟩) (fun hHeld => ?_)
     refine wpAnyH_take (i := 0) (oi := ⟨_, _, _, _, _, _⟩) (v := ?_) rfl (by kernel_rfl) (by kernel_rfl) (by kernel_rfl) (fun _ _ _ h => h) (Or.inl ⟨by rfl, ?_⟩) (by assumption) ?_
     rotate_left 1
     ·intro w hSw; (try dsimp only at hSw); go_simp; all_goals with_reducible rfl
     try simp only [Act.put, List.setIfInBounds_toArray, List.set_cons_zero, List.set_cons_succ]
     refine wpAnyH_take (i := 1) (oi := ⟨_, _, _, _, _, _⟩) (v := ?_) rfl (by kernel_rfl) (by kernel_rfl) (by kernel_rfl) (fun _ _ _ h => h) (Or.inl ⟨by rfl, ?_⟩) (by assumption) ?_
     rotate_left 1
     ·intro w hSw; (try dsimp only at hSw); go_simp; all_goals with_reducible rfl
     try simp only [Act.put, List.setIfInBounds_toArray, List.set_cons_zero, List.set_cons_succ]
     refine wpAnyH_take (i := 2) (oi := ⟨_, _, _, _, _, _⟩) (v := ?_) rfl (by kernel_rfl) (by kernel_rfl) (by kernel_rfl) (fun _ _ _ h => h) (Or.inl ⟨by rfl, ?_⟩) (by assumption) ?_
     rotate_left 1
     ·intro w hSw; (try dsimp only at hSw); go_simp; all_goals with_reducible rfl
     try simp only [Act.put, List.setIfInBounds_toArray, List.set_cons_zero, List.set_cons_succ]
     refine wpAnyH_take (i := 3) (oi := ⟨_, _, _, _, _, _⟩) (v := ?_) rfl (by kernel_rfl) (by kernel_rfl) (by kernel_rfl) (fun _ _ _ h => h) (Or.inl ⟨by rfl, ?_⟩) (by assumption) ?_
     rotate_left 1
     ·intro w hSw; (try dsimp only at hSw); go_simp; all_goals with_reducible rfl
     try simp only [Act.put, List.setIfInBounds_toArray, List.set_cons_zero, List.set_cons_succ]
     refine wpAnyH_take (i := 4) (oi := ⟨_, _, _, _, _, _⟩) (v := ?_) rfl (by kernel_rfl) (by kernel_rfl) (by kernel_rfl) (fun _ _ _ h => h) (Or.inl ⟨by rfl, ?_⟩) (by assumption) ?_
     rotate_left 1
     ·intro w hSw; (try dsimp only at hSw); go_simp; all_goals with_reducible rfl
     try simp only [Act.put, List.setIfInBounds_toArray, List.set_cons_zero, List.set_cons_succ]
     refine wpAnyH_take (i := 5) (oi := ⟨_, _, _, _, _, _⟩) (v := ?_) rfl (by kernel_rfl) (by kernel_rfl) (by kernel_rfl) (fun _ _ _ h => h) (Or.inl ⟨by rfl, ?_⟩) (by assumption) ?_
     rotate_left 1
     ·intro w hSw; (try dsimp only at hSw); go_simp; all_goals with_reducible rfl
     try simp only [Act.put, List.setIfInBounds_toArray, List.set_cons_zero, List.set_cons_succ]
     refine wpAnyH_take (i := 6) (oi := ⟨_, _, _, _, _, _⟩) (v := ?_) rfl (by kernel_rfl) (by kernel_rfl) (by kernel_rfl) (fun _ _ _ h => h) (Or.inl ⟨by rfl, ?_⟩) (by assumption) ?_
     rotate_left 1
     ·intro w hSw; (try dsimp only at hSw); go_simp; all_goals with_reducible rfl
     try simp only [Act.put, List.setIfInBounds_toArray, List.set_cons_zero, List.set_cons_succ]
     refine wpAnyH_ready (rs := [7]) (by kernel_rfl) (by simp) (AllReadyH.cons (o := ⟨_, _, _, _, _, _⟩) rfl (fun K hK => ?_) AllReadyH.nil)
     go_simp
     go_at_call 53; refine (CI.out _ hHeld.1).mono ?_; rintro e y ⟨rfl, s0, s1, s2, s3, s4, s5, s6, s7, s8, s9, s10, s11⟩
     refine hK.out _ _ ?_ (fun hHeld => ?_)
     ·exact ⟨s0, s1, s2, s3, s4, s5, s6, s7, s8, s9, s10, s11⟩
     clear hK K
     try simp only [Act.put, List.setIfInBounds_toArray, List.set_cons_zero, List.set_cons_succ]
     refine wpAnyH_take (i := 8) (oi := ⟨_, _, _, _, _, _⟩) (v := ?_) rfl (by kernel_rfl) (by kernel_rfl) (by kernel_rfl) (fun _ _ _ h => h) (Or.inl ⟨by rfl, ?_⟩) (by assumption) ?_
     rotate_left 1
     ·intro w hSw; (try dsimp only at hSw); go_simp; all_goals with_reducible rfl
     try simp only [Act.put, List.setIfInBounds_toArray, List.set_cons_zero, List.set_cons_succ]
     refine wpAnyH_done (by kernel_rfl) ?_ _
     go_wp2
     go_ret
     refine ⟨?_, hq.out.trans (HQ.out.trans hHeld.1)⟩
     rw [HR.out, HS.out, hi]
     rfl
    ·go_wp2_with (fail)
     refine wp_region_held_drew (S := (fun y : World => Q WR y ∧ y.cell? ⟨w.heap.size, 0, none⟩ = some (.slice ga gl.length gc) ∧ y.cell? ⟨w.heap.size, 1, none⟩ = some (.slice na ini.length nc) ∧ y.cell? ⟨w.heap.size, 2, none⟩ = some (.slice (some ⟨fb, fo, none⟩) fns.length fc) ∧ y.cell? ⟨w.heap.size + 1, 0, none⟩ = some (.slice (some ⟨ib, io, none⟩) ins.length ic) ∧ y.cell? ⟨ib, io + j * 7, none⟩ = some (.int .u8 x.op) ∧ y.cell? ⟨ib, io + j * 7 + 1, none⟩ = some (.int .u8 x.ty) ∧ y.cell? ⟨ib, io + j * 7 + 2, none⟩ = some (.int .i64 x.dst) ∧ y.cell? ⟨ib, io + j * 7 + 3, none⟩ = some (.int .i64 x.a) ∧ y.cell? ⟨ib, io + j * 7 + 4, none⟩ = some (.int .i64 x.b) ∧ y.cell? ⟨ib, io + j * 7 + 5, none⟩ = some (.int .i64 x.imm) ∧ y.cell? ⟨ib, io + j * 7 + 6, none⟩ = some (.slice x.aa x.args.length x.ac))) (by kernel_rfl) (⟨(Q.refl _).drew, hF.out _ (Q.refl _).drew⟩) (fun hHeld => ?_)
     refine wpAnyH_take (i := 0) (oi := ⟨_, _, _, _, _, _⟩) (v := ?_) rfl (by kernel_rfl) (by kernel_rfl) (by kernel_rfl) (fun _ _ _ h => h) (Or.inl ⟨by rfl, ?_⟩) (by assumption) ?_
     rotate_left 1
     ·intro w hSw; (try dsimp only at hSw); go_simp; all_goals with_reducible rfl
     try simp only [Act.put, List.setIfInBounds_toArray, List.set_cons_zero, List.set_cons_succ]
     refine wpAnyH_take (i := 1) (oi := ⟨_, _, _, _, _, _⟩) (v := ?_) rfl (by kernel_rfl) (by kernel_rfl) (by kernel_rfl) (fun _ _ _ h => h) (Or.inl ⟨by rfl, ?_⟩) (by assumption) ?_
     rotate_left 1
     ·intro w hSw; (try dsimp only at hSw); go_simp; all_goals with_reducible rfl
     try simp only [Act.put, List.setIfInBounds_toArray, List.set_cons_zero, List.set_cons_succ]
     refine wpAnyH_take (i := 2) (oi := ⟨_, _, _, _, _, _⟩) (v := ?_) rfl (by kernel_rfl) (by kernel_rfl) (by kernel_rfl) (fun _ _ _ h => h) (Or.inl ⟨by rfl, ?_⟩) (by assumption) ?_
     rotate_left 1
     ·intro w hSw; (try dsimp only at hSw); go_simp; all_goals with_reducible rfl
     try simp only [Act.put, List.setIfInBounds_toArray, List.set_cons_zero, List.set_cons_succ]
     refine wpAnyH_take (i := 3) (oi := ⟨_, _, _, _, _, _⟩) (v := ?_) rfl (by kernel_rfl) (by kernel_rfl) (by kernel_rfl) (fun _ _ _ h => h) (Or.inl ⟨by rfl, ?_⟩) (by assumption) ?_
     rotate_left 1
     ·intro w hSw; (try dsimp only at hSw); go_simp; all_goals with_reducible rfl
     try simp only [Act.put, List.setIfInBounds_toArray, List.set_cons_zero, List.set_cons_succ]
     refine wpAnyH_take (i := 4) (oi := ⟨_, _, _, _, _, _⟩) (v := ?_) rfl (by kernel_rfl) (by kernel_rfl) (by kernel_rfl) (fun _ _ _ h => h) (Or.inl ⟨by rfl, ?_⟩) (by assumption) ?_
     rotate_left 1
     ·intro w hSw; (try dsimp only at hSw); go_simp; all_goals with_reducible rfl
     try simp only [Act.put, List.setIfInBounds_toArray, List.set_cons_zero, List.set_cons_succ]
     refine wpAnyH_take (i := 5) (oi := ⟨_, _, _, _, _, _⟩) (v := ?_) rfl (by kernel_rfl) (by kernel_rfl) (by kernel_rfl) (fun _ _ _ h => h) (Or.inl ⟨by rfl, ?_⟩) (by assumption) ?_
     rotate_left 1
     ·intro w hSw; (try dsimp only at hSw); go_simp; all_goals with_reducible rfl
     try simp only [Act.put, List.setIfInBounds_toArray, List.set_cons_zero, List.set_cons_succ]
     refine wpAnyH_take (i := 6) (oi := ⟨_, _, _, _, _, _⟩) (v := ?_) rfl (by kernel_rfl) (by kernel_rfl) (by kernel_rfl) (fun _ _ _ h => h) (Or.inl ⟨by rfl, ?_⟩) (by assumption) ?_
     rotate_left 1
     ·intro w hSw; (try dsimp only at hSw); go_simp; all_goals with_reducible rfl
     try simp only [Act.put, List.setIfInBounds_toArray, List.set_cons_zero, List.set_cons_succ]
     refine wpAnyH_ready (rs := [7]) (by kernel_rfl) (by simp) (AllReadyH.cons (o := ⟨_, _, _, _, _, _⟩) rfl (fun K hK => ?_) AllReadyH.nil)
     go_simp
     go_at_call 53; refine (CI.out _ hHeld.1).mono ?_; rintro e y ⟨rfl, s0, s1, s2, s3, s4, s5, s6, s7, s8, s9, s10, s11⟩
     refine hK.out _ _ ?_ (fun hHeld => ?_)
     ·exact ⟨s0, s1, s2, s3, s4, s5, s6, s7, s8, s9, s10, s11⟩
     clear hK K
     try simp only [Act.put, List.setIfInBounds_toArray, List.set_cons_zero, List.set_cons_succ]
     refine wpAnyH_take (i := 8) (oi := ⟨_, _, _, _, _, _⟩) (v := ?_) rfl (by kernel_rfl) (by kernel_rfl) (by kernel_rfl) (fun _ _ _ h => h) (Or.inl ⟨by rfl, ?_⟩) (by assumption) ?_
     rotate_left 1
     ·intro w hSw; (try dsimp only at hSw); go_simp; all_goals with_reducible rfl
     try simp only [Act.put, List.setIfInBounds_toArray, List.set_cons_zero, List.set_cons_succ]
     refine wpAnyH_done (by kernel_rfl) ?_ _
     go_wp2
     go_roundw
     case rel =>
      refine ⟨j + 1, by go_num, by omega, ?_, HQ.out.trans hHeld.1⟩
      rw [HR.out, HS.out, hi, Bool.true_and]
     case measure => simp [intOf]; omega
   ·have ej : j = ins.length := by omega
    go_wp2_with (fail)
    go_ret
    refine ⟨?_, hq.out.trans HQ.out⟩
    rw [HR.out, ej, List.drop_length]
    rfl
 ·have h7 : decide (cond < 0) = false := by simp at h3 ⊢; omega
  go_enter Try.func27, Try.ntmps27
  go_wp2_with (fail)
  clear a0 a1 a2 b0 b1 b2 b3 b4 g0 g1 g2 g3
  go_loopw [8] (fun i wr => ∃ (j : Nat), i = .int .i64 j ∧ j ≤ ins.length ∧ all = (ins.drop j).all (insP C0 k f) ∧ Q B wr) (fun i _ => ins.length - (intOf i).toNat)
  case atStart => exact ⟨0, rfl, by omega, by rw [← HALL.out]; simp, HB0.out⟩
  case round =>
   obtain ⟨j, rfl, hj, r3, hq2⟩ := hrel
   have HR := hideIt r3
   have HQ := hideIt hq2
   obtain ⟨⟨a0, a1, a2⟩, ⟨b0, b1, b2, b3, b4⟩, g0, g1, g2, g3⟩ := HB.out _ hq2
   clear r3 hq2
   by_cases hlt : j < ins.length
   ·obtain ⟨x, hx⟩ := get_of_lt hlt
    obtain ⟨ib, io, eia, hxat⟩ := (Insts.keep HQ.out HI.out) j x hx
    subst eia
    have hjl : (j : Int) < (ins.length : Int) := by omega
    have HS := hideIt (all_drop (p := insP C0 k f) hx)
    have hF : Hid (∀ y, Q wr y → y.cell? ⟨w.heap.size, 0, none⟩ = some (.slice ga gl.length gc) ∧ y.cell? ⟨w.heap.size, 1, none⟩ = some (.slice na ini.length nc) ∧ y.cell? ⟨w.heap.size, 2, none⟩ = some (.slice (some ⟨fb, fo, none⟩) fns.length fc) ∧ y.cell? ⟨w.heap.size + 1, 0, none⟩ = some (.slice (some ⟨ib, io, none⟩) ins.length ic) ∧ y.cell? ⟨ib, io + j * 7, none⟩ = some (.int .u8 x.op) ∧ y.cell? ⟨ib, io + j * 7 + 1, none⟩ = some (.int .u8 x.ty) ∧ y.cell? ⟨ib, io + j * 7 + 2, none⟩ = some (.int .i64 x.dst) ∧ y.cell? ⟨ib, io + j * 7 + 3, none⟩ = some (.int .i64 x.a) ∧ y.cell? ⟨ib, io + j * 7 + 4, none⟩ = some (.int .i64 x.b) ∧ y.cell? ⟨ib, io + j * 7 + 5, none⟩ = some (.int .i64 x.imm) ∧ y.cell? ⟨ib, io + j * 7 + 6, none⟩ = some (.slice x.aa x.args.length x.ac)) := fun y h => by
     obtain ⟨⟨a0, a1, a2⟩, ⟨b0, -⟩, -⟩ := HB.out _ (HQ.out.trans h)
     exact ⟨a0, a1, a2, b0, (hxat.1.keep h).seven⟩
    have CI : Hid (∀ X, Q wr X → Calls Try.prog 53 #[PC.v C0, .int .i64 (k : Int), x.v] X fun e w' => e = .returned (.bool (insP C0 k f x)) ∧ Q wr w' ∧ w'.cell? ⟨w.heap.size, 0, none⟩ = some (.slice ga gl.length gc) ∧ w'.cell? ⟨w.heap.size, 1, none⟩ = some (.slice na ini.length nc) ∧ w'.cell? ⟨w.heap.size, 2, none⟩ = some (.slice (some ⟨fb, fo, none⟩) fns.length fc) ∧ w'.cell? ⟨w.heap.size + 1, 0, none⟩ = some (.slice (some ⟨ib, io, none⟩) ins.length ic) ∧ w'.cell? ⟨ib, io + j * 7, none⟩ = some (.int .u8 x.op) ∧ w'.cell? ⟨ib, io + j * 7 + 1, none⟩ = some (.int .u8 x.ty) ∧ w'.cell? ⟨ib, io + j * 7 + 2, none⟩ = some (.int .i64 x.dst) ∧ w'.cell? ⟨ib, io + j * 7 + 3, none⟩ = some (.int .i64 x.a) ∧ w'.cell? ⟨ib, io + j * 7 + 4, none⟩ = some (.int .i64 x.b) ∧ w'.cell? ⟨ib, io + j * 7 + 5, none⟩ = some (.int .i64 x.imm) ∧ w'.cell? ⟨ib, io + j * 7 + 6, none⟩ = some (.slice x.aa x.args.length x.ac)) := fun X h => (CI0.out X (HQ.out.trans h) x (hxat.2.keep h)).mono fun _ _ ⟨e, q⟩ => ⟨e, h.trans q, hF.out _ (h.trans q)⟩
    clear hx hxat a0 a1 a2 g0 g1 g2 g3 b1 b2 b3 b4
    generalize hWR : wr = WR at *
    rw [← hC0] at CI
    dsimp only [PC.v] at CI
    rw [hC0] at CI
    cases hi : insP C0 k f x <;> rw [hi] at CI
    ·go_wp2_with (fail)
     refine wp_region_held_drew (S := (fun y : World => Q WR y ∧ y.cell? ⟨w.heap.size, 0, none⟩ = some (.slice ga gl.length gc) ∧ y.cell? ⟨w.heap.size, 1, none⟩ = some (.slice na ini.length nc) ∧ y.cell? ⟨w.heap.size, 2, none⟩ = some (.slice (some ⟨fb, fo, none⟩) fns.length fc) ∧ y.cell? ⟨w.heap.size + 1, 0, none⟩ = some (.slice (some ⟨ib, io, none⟩) ins.length ic) ∧ y.cell? ⟨ib, io + j * 7, none⟩ = some (.int .u8 x.op) ∧ y.cell? ⟨ib, io + j * 7 + 1, none⟩ = some (.int .u8 x.ty) ∧ y.cell? ⟨ib, io + j * 7 + 2, none⟩ = some (.int .i64 x.dst) ∧ y.cell? ⟨ib, io + j * 7 + 3, none⟩ = some (.int .i64 x.a) ∧ y.cell? ⟨ib, io + j * 7 + 4, none⟩ = some (.int .i64 x.b) ∧ y.cell? ⟨ib, io + j * 7 + 5, none⟩ = some (.int .i64 x.imm) ∧ y.cell? ⟨ib, io + j * 7 + 6, none⟩ = some (.slice x.aa x.args.length x.ac))) (by kernel_rfl) (⟨(Q.refl _).drew, hF.out _ (Q.refl _).drew⟩) (fun hHeld => ?_)
     refine wpAnyH_take (i := 0) (oi := ⟨_, _, _, _, _, _⟩) (v := ?_) rfl (by kernel_rfl) (by kernel_rfl) (by kernel_rfl) (fun _ _ _ h => h) (Or.inl ⟨by rfl, ?_⟩) (by assumption) ?_
     rotate_left 1
     ·intro w hSw; (try dsimp only at hSw); go_simp; all_goals with_reducible rfl
     try simp only [Act.put, List.setIfInBounds_toArray, List.set_cons_zero, List.set_cons_succ]
     refine wpAnyH_take (i := 1) (oi := ⟨_, _, _, _, _, _⟩) (v := ?_) rfl (by kernel_rfl) (by kernel_rfl) (by kernel_rfl) (fun _ _ _ h => h) (Or.inl ⟨by rfl, ?_⟩) (by assumption) ?_
     rotate_left 1
     ·intro w hSw; (try dsimp only at hSw); go_simp; all_goals with_reducible rfl
     try simp only [Act.put, List.setIfInBounds_toArray, List.set_cons_zero, List.set_cons_succ]
     refine wpAnyH_take (i := 2) (oi := ⟨_, _, _, _, _, _⟩) (v := ?_) rfl (by kernel_rfl) (by kernel_rfl) (by kernel_rfl) (fun _ _ _ h => h) (Or.inl ⟨by rfl, ?_⟩) (by assumption) ?_
     rotate_left 1
     ·intro w hSw; (try dsimp only at hSw); go_simp; all_goals with_reducible rfl
     try simp only [Act.put, List.setIfInBounds_toArray, List.set_cons_zero, List.set_cons_succ]
     refine wpAnyH_take (i := 3) (oi := ⟨_, _, _, _, _, _⟩) (v := ?_) rfl (by kernel_rfl) (by kernel_rfl) (by kernel_rfl) (fun _ _ _ h => h) (Or.inl ⟨by rfl, ?_⟩) (by assumption) ?_
     rotate_left 1
     ·intro w hSw; (try dsimp only at hSw); go_simp; all_goals with_reducible rfl
     try simp only [Act.put, List.setIfInBounds_toArray, List.set_cons_zero, List.set_cons_succ]
     refine wpAnyH_take (i := 4) (oi := ⟨_, _, _, _, _, _⟩) (v := ?_) rfl (by kernel_rfl) (by kernel_rfl) (by kernel_rfl) (fun _ _ _ h => h) (Or.inl ⟨by rfl, ?_⟩) (by assumption) ?_
     rotate_left 1
     ·intro w hSw; (try dsimp only at hSw); go_simp; all_goals with_reducible rfl
     try simp only [Act.put, List.setIfInBounds_toArray, List.set_cons_zero, List.set_cons_succ]
     refine wpAnyH_take (i := 5) (oi := ⟨_, _, _, _, _, _⟩) (v := ?_) rfl (by kernel_rfl) (by kernel_rfl) (by kernel_rfl) (fun _ _ _ h => h) (Or.inl ⟨by rfl, ?_⟩) (by assumption) ?_
     rotate_left 1
     ·intro w hSw; (try dsimp only at hSw); go_simp; all_goals with_reducible rfl
     try simp only [Act.put, List.setIfInBounds_toArray, List.set_cons_zero, List.set_cons_succ]
     refine wpAnyH_take (i := 6) (oi := ⟨_, _, _, _, _, _⟩) (v := ?_) rfl (by kernel_rfl) (by kernel_rfl) (by kernel_rfl) (fun _ _ _ h => h) (Or.inl ⟨by rfl, ?_⟩) (by assumption) ?_
     rotate_left 1
     ·intro w hSw; (try dsimp only at hSw); go_simp; all_goals with_reducible rfl
     try simp only [Act.put, List.setIfInBounds_toArray, List.set_cons_zero, List.set_cons_succ]
     refine wpAnyH_ready (rs := [7]) (by kernel_rfl) (by simp) (AllReadyH.cons (o := ⟨_, _, _, _, _, _⟩) rfl (fun K hK => ?_) AllReadyH.nil)
     go_simp
     go_at_call 53; refine (CI.out _ hHeld.1).mono ?_; rintro e y ⟨rfl, s0, s1, s2, s3, s4, s5, s6, s7, s8, s9, s10, s11⟩
     refine hK.out _ _ ?_ (fun hHeld => ?_)
     ·exact ⟨s0, s1, s2, s3, s4, s5, s6, s7, s8, s9, s10, s11⟩
     clear hK K
     try simp only [Act.put, List.setIfInBounds_toArray, List.set_cons_zero, List.set_cons_succ]
     refine wpAnyH_take (i := 8) (oi := ⟨_, _, _, _, _, _⟩) (v := ?_) rfl (by kernel_rfl) (by kernel_rfl) (by kernel_rfl) (fun _ _ _ h => h) (Or.inl ⟨by rfl, ?_⟩) (by assumption) ?_
     rotate_left 1
     ·intro w hSw; (try dsimp only at hSw); go_simp; all_goals with_reducible rfl
     try simp only [Act.put, List.setIfInBounds_toArray, List.set_cons_zero, List.set_cons_succ]
     refine wpAnyH_done (by kernel_rfl) ?_ _
     go_wp2
     go_ret
     refine ⟨?_, hq.out.trans (HQ.out.trans hHeld.1)⟩
     rw [HR.out, HS.out, hi]
     rfl
    ·go_wp2_with (fail)
     refine wp_region_held_drew (S := (fun y : World => Q WR y ∧ y.cell? ⟨w.heap.size, 0, none⟩ = some (.slice ga gl.length gc) ∧ y.cell? ⟨w.heap.size, 1, none⟩ = some (.slice na ini.length nc) ∧ y.cell? ⟨w.heap.size, 2, none⟩ = some (.slice (some ⟨fb, fo, none⟩) fns.length fc) ∧ y.cell? ⟨w.heap.size + 1, 0, none⟩ = some (.slice (some ⟨ib, io, none⟩) ins.length ic) ∧ y.cell? ⟨ib, io + j * 7, none⟩ = some (.int .u8 x.op) ∧ y.cell? ⟨ib, io + j * 7 + 1, none⟩ = some (.int .u8 x.ty) ∧ y.cell? ⟨ib, io + j * 7 + 2, none⟩ = some (.int .i64 x.dst) ∧ y.cell? ⟨ib, io + j * 7 + 3, none⟩ = some (.int .i64 x.a) ∧ y.cell? ⟨ib, io + j * 7 + 4, none⟩ = some (.int .i64 x.b) ∧ y.cell? ⟨ib, io + j * 7 + 5, none⟩ = some (.int .i64 x.imm) ∧ y.cell? ⟨ib, io + j * 7 + 6, none⟩ = some (.slice x.aa x.args.length x.ac))) (by kernel_rfl) (⟨(Q.refl _).drew, hF.out _ (Q.refl _).drew⟩) (fun hHeld => ?_)
     refine wpAnyH_take (i := 0) (oi := ⟨_, _, _, _, _, _⟩) (v := ?_) rfl (by kernel_rfl) (by kernel_rfl) (by kernel_rfl) (fun _ _ _ h => h) (Or.inl ⟨by rfl, ?_⟩) (by assumption) ?_
     rotate_left 1
     ·intro w hSw; (try dsimp only at hSw); go_simp; all_goals with_reducible rfl
     try simp only [Act.put, List.setIfInBounds_toArray, List.set_cons_zero, List.set_cons_succ]
     refine wpAnyH_take (i := 1) (oi := ⟨_, _, _, _, _, _⟩) (v := ?_) rfl (by kernel_rfl) (by kernel_rfl) (by kernel_rfl) (fun _ _ _ h => h) (Or.inl ⟨by rfl, ?_⟩) (by assumption) ?_
     rotate_left 1
     ·intro w hSw; (try dsimp only at hSw); go_simp; all_goals with_reducible rfl
     try simp only [Act.put, List.setIfInBounds_toArray, List.set_cons_zero, List.set_cons_succ]
     refine wpAnyH_take (i := 2) (oi := ⟨_, _, _, _, _, _⟩) (v := ?_) rfl (by kernel_rfl) (by kernel_rfl) (by kernel_rfl) (fun _ _ _ h => h) (Or.inl ⟨by rfl, ?_⟩) (by assumption) ?_
     rotate_left 1
     ·intro w hSw; (try dsimp only at hSw); go_simp; all_goals with_reducible rfl
     try simp only [Act.put, List.setIfInBounds_toArray, List.set_cons_zero, List.set_cons_succ]
     refine wpAnyH_take (i := 3) (oi := ⟨_, _, _, _, _, _⟩) (v := ?_) rfl (by kernel_rfl) (by kernel_rfl) (by kernel_rfl) (fun _ _ _ h => h) (Or.inl ⟨by rfl, ?_⟩) (by assumption) ?_
     rotate_left 1
     ·intro w hSw; (try dsimp only at hSw); go_simp; all_goals with_reducible rfl
     try simp only [Act.put, List.setIfInBounds_toArray, List.set_cons_zero, List.set_cons_succ]
     refine wpAnyH_take (i := 4) (oi := ⟨_, _, _, _, _, _⟩) (v := ?_) rfl (by kernel_rfl) (by kernel_rfl) (by kernel_rfl) (fun _ _ _ h => h) (Or.inl ⟨by rfl, ?_⟩) (by assumption) ?_
     rotate_left 1
     ·intro w hSw; (try dsimp only at hSw); go_simp; all_goals with_reducible rfl
     try simp only [Act.put, List.setIfInBounds_toArray, List.set_cons_zero, List.set_cons_succ]
     refine wpAnyH_take (i := 5) (oi := ⟨_, _, _, _, _, _⟩) (v := ?_) rfl (by kernel_rfl) (by kernel_rfl) (by kernel_rfl) (fun _ _ _ h => h) (Or.inl ⟨by rfl, ?_⟩) (by assumption) ?_
     rotate_left 1
     ·intro w hSw; (try dsimp only at hSw); go_simp; all_goals with_reducible rfl
     try simp only [Act.put, List.setIfInBounds_toArray, List.set_cons_zero, List.set_cons_succ]
     refine wpAnyH_take (i := 6) (oi := ⟨_, _, _, _, _, _⟩) (v := ?_) rfl (by kernel_rfl) (by kernel_rfl) (by kernel_rfl) (fun _ _ _ h => h) (Or.inl ⟨by rfl, ?_⟩) (by assumption) ?_
     rotate_left 1
     ·intro w hSw; (try dsimp only at hSw); go_simp; all_goals with_reducible rfl
     try simp only [Act.put, List.setIfInBounds_toArray, List.set_cons_zero, List.set_cons_succ]
     refine wpAnyH_ready (rs := [7]) (by kernel_rfl) (by simp) (AllReadyH.cons (o := ⟨_, _, _, _, _, _⟩) rfl (fun K hK => ?_) AllReadyH.nil)
     go_simp
     go_at_call 53; refine (CI.out _ hHeld.1).mono ?_; rintro e y ⟨rfl, s0, s1, s2, s3, s4, s5, s6, s7, s8, s9, s10, s11⟩
     refine hK.out _ _ ?_ (fun hHeld => ?_)
     ·exact ⟨s0, s1, s2, s3, s4, s5, s6, s7, s8, s9, s10, s11⟩
     clear hK K
     try simp only [Act.put, List.setIfInBounds_toArray, List.set_cons_zero, List.set_cons_succ]
     refine wpAnyH_take (i := 8) (oi := ⟨_, _, _, _, _, _⟩) (v := ?_) rfl (by kernel_rfl) (by kernel_rfl) (by kernel_rfl) (fun _ _ _ h => h) (Or.inl ⟨by rfl, ?_⟩) (by assumption) ?_
     rotate_left 1
     ·intro w hSw; (try dsimp only at hSw); go_simp; all_goals with_reducible rfl
     try simp only [Act.put, List.setIfInBounds_toArray, List.set_cons_zero, List.set_cons_succ]
     refine wpAnyH_done (by kernel_rfl) ?_ _
     go_wp2
     go_roundw
     case rel =>
      refine ⟨j + 1, by go_num, by omega, ?_, HQ.out.trans hHeld.1⟩
      rw [HR.out, HS.out, hi, Bool.true_and]
     case measure => simp [intOf]; omega
   ·have ej : j = ins.length := by omega
    go_wp2_with (fail)
    go_ret
    refine ⟨?_, hq.out.trans HQ.out⟩
    rw [HR.out, ej, List.drop_length]
    rfl

theorem rpart_any (w : World) (k : Nat) (c : PC) (f : PF) (p : PP) (hcok : c.ok w) (hk : c.fns[k]? = some f) (hpok : p.ok w) :
  Calls Try.prog 27 #[c.v, .int .i64 (k : Int), p.v] w fun e w' => e = .returned (.bool (ptP c k f p)) ∧ Q w w' := by
 cases h : endP f p
 ·exact rpart_bad w k c f p hcok hk h
 ·exact rpart_good w k c f p hcok hk hpok h

end Go.Proofs.Ytphknepblchkdaa
