/-
  Whether an instruction is right, by the document's answer: a contract over the program.
-/
import Derived.Test.YtiiggldapncknaaIrP
namespace Go.Proofs.Ytiiggldapncknaa
open Go.RowKit
set_option linter.unusedVariables false

theorem uses_all (f : PF) (x : PI) : (usesP x).all (fun r => blP r f.regs) = rdsP f x := by
  unfold usesP rdsP
  by_cases h : x.op = 32
  · rw [if_pos h, h, rdP_32]
    simp
  · rw [if_neg h]
    have e : (x.op == 32) = false := by simpa using h
    rw [e]
    have hle := rdP_le x.op
    generalize rdP x.op = n at *
    obtain rfl | rfl | rfl : n = 0 ∨ n = 1 ∨ n = 2 := by omega
    · simp
    · simp
    · simp

/-- The three boxes: code, instruction, function. -/
abbrev bx3 (w : World) (c : PC) (x : PI) (f : PF) : World := bxF (bxI (bxC w c) x) f
theorem bx3_q (w : World) (c : PC) (x : PI) (f : PF) : Q w (bx3 w c x f) := (((Q.refl w).alloc _).alloc _).alloc _
theorem bx3_at {w y : World} {c : PC} {x : PI} {f : PF} (h : Q (bx3 w c x f) y) : At y w.heap.size 0 c.cells ∧ At y (w.heap.size + 1) 0 x.cells ∧ At y (w.heap.size + 1 + 1) 0 f.cells := by
  refine ⟨bxC_at ((((Q.refl _).alloc _).alloc _).trans h), ?_, ?_⟩
  · have := bxI_at (w := bxC w c) (((Q.refl _).alloc _).trans h)
    simpa using this
  · have : At y (bxI (bxC w c) x).heap.size 0 f.cells := At.box h
    simpa using this
theorem bx3_cells {w y : World} {c : PC} {x : PI} {f : PF} (h : Q (bx3 w c x f) y) :
    (y.cell? ⟨w.heap.size, 0, none⟩ = some (.slice c.ga c.gl.length c.gc) ∧ y.cell? ⟨w.heap.size, 1, none⟩ = some (.slice c.na c.ini.length c.nc) ∧ y.cell? ⟨w.heap.size, 2, none⟩ = some (.slice c.fa c.fns.length c.fc)) ∧
    (y.cell? ⟨w.heap.size + 1, 0, none⟩ = some (.int .u8 x.op) ∧ y.cell? ⟨w.heap.size + 1, 1, none⟩ = some (.int .u8 x.ty) ∧ y.cell? ⟨w.heap.size + 1, 2, none⟩ = some (.int .i64 x.dst) ∧ y.cell? ⟨w.heap.size + 1, 3, none⟩ = some (.int .i64 x.a) ∧ y.cell? ⟨w.heap.size + 1, 4, none⟩ = some (.int .i64 x.b) ∧ y.cell? ⟨w.heap.size + 1, 5, none⟩ = some (.int .i64 x.imm) ∧ y.cell? ⟨w.heap.size + 1, 6, none⟩ = some (.slice x.aa x.args.length x.ac)) ∧
    (y.cell? ⟨w.heap.size + 1 + 1, 0, none⟩ = some (.int .i64 f.params) ∧ y.cell? ⟨w.heap.size + 1 + 1, 1, none⟩ = some (.int .i64 f.regs) ∧ y.cell? ⟨w.heap.size + 1 + 1, 2, none⟩ = some (.slice f.sa f.slots.length f.sc) ∧ y.cell? ⟨w.heap.size + 1 + 1, 3, none⟩ = some (.slice f.pa f.parts.length f.pc)) := by
  obtain ⟨h1, h2, h3⟩ := bx3_at h
  exact ⟨h1.three, h2.seven, h3.four⟩

def hdI (f : PF) (x : PI) : Bool := knP x.op && (decide (x.ty ≤ 5) && wtP f x)
theorem insP_eq (c : PC) (k : Nat) (f : PF) (x : PI) : insP c k f x = (hdI f x && ((usesP x).all (fun r => blP r f.regs) && immP c k f x)) := by
  rw [uses_all]
  unfold insP hdI
  cases knP x.op <;> cases decide (x.ty ≤ 5) <;> cases wtP f x <;> rfl

set_option maxRecDepth 100000 in
set_option maxHeartbeats 1000000 in
theorem rinst_bad (w : World) (k : Nat) (c : PC) (f : PF) (x : PI) (hcok : c.ok w) (hk : c.fns[k]? = some f) (hxok : x.ok w) (hh : hdI f x = false) :
    Calls Try.prog 36 #[c.v, .int .i64 (k : Int), x.v] w fun e w' => e = .returned (.bool (insP c k f x)) ∧ Q w w' := by
  rw [insP_eq, hh, Bool.false_and]
  obtain ⟨fb, fo, efa, hf, hfok⟩ := hcok.fns k f hk
  have hkl : k < c.fns.length := (List.getElem?_eq_some_iff.1 hk).1
  have hkl' : (k : Int) < (c.fns.length : Int) := by omega
  have hlen : c.fns.length ≤ 9223372036854775807 := hcok.fsok.len
  obtain ⟨f0, f1, f2, f3⟩ := (hf.keep (((Q.refl w).alloc (.cells #[.slice c.ga c.gl.length c.gc, .slice c.na c.ini.length c.nc, .slice c.fa c.fns.length c.fc] 26)).alloc (.cells #[.int .u8 x.op, .int .u8 x.ty, .int .i64 x.dst, .int .i64 x.a, .int .i64 x.b, .int .i64 x.imm, .slice x.aa x.args.length x.ac] 33))).four
  have HB := hideIt (fun y (h : Q (bx3 w c x f) y) => bx3_cells h)
  have hq := hideIt (bx3_q w c x f)
  have ht0 := hxok.ty.1
  have ht1 := hxok.ty.2
  have CK := hideIt (fun X => rknown_any x.op X)
  have CT := hideIt (fun X => rwidth_any x.ty X ht0)
  have CW := hideIt (fun X => writes_any x.op X)
  unfold hdI wtP at hh
  clear hcok hk hf hfok hxok
  rcases x with ⟨op, ty, dst, a, b, imm, args, aa, ac⟩
  rcases c with ⟨gl, ini, fns, ga, gc, na, nc, fa, fc⟩
  dsimp only [PC.v, PI.v, bx3, bxF, bxI, bxC] at *
  subst efa
  cases h1 : knP op <;> rw [h1] at CK hh
  · clear CT CW hh
    go_enter Try.func36, Try.ntmps36
    go_wp2_with (first | (go_at_call 28; refine (CK.out _).mono ?_; rintro e y ⟨rfl, rfl⟩) | fail)
    go_ret
    exact ⟨rfl, hq.out⟩
  · cases h2 : decide (ty ≤ 5) <;> rw [h2] at CT hh
    · clear CW hh
      have ew : IntKind.i64.wrap ty = ty := by simp [IntKind.wrap_i64]; omega
      go_enter Try.func36, Try.ntmps36
      go_wp2_with (first | (go_at_call 28; refine (CK.out _).mono ?_; rintro e y ⟨rfl, rfl⟩) | (go_at_call 41; refine (CT.out _).mono ?_; rintro e y ⟨⟨n, rfl, hn⟩, hy⟩; have HN := hideIt hn; have HY := hideIt hy; clear hy; have hn0 : n = 0 := (by simpa using hn); clear hn; subst hn0) | fail)
      go_ret
      exact ⟨rfl, hq.out.trans HY.out⟩
    · cases h3 : wrP op <;> rw [h3] at CW hh
      · cases hh
      · have hb : blP dst f.regs = false := by simpa using hh
        unfold blP at hb
        clear hh
        have ew : IntKind.i64.wrap ty = ty := by simp [IntKind.wrap_i64]; omega
        by_cases h4 : dst < 0
        · have e4 : decide (dst < 0) = true := by simpa using h4
          clear h4 hb
          go_enter Try.func36, Try.ntmps36
          go_wp2_with (first | (go_at_call 28; refine (CK.out _).mono ?_; rintro e y ⟨rfl, rfl⟩) | (go_at_call 41; refine (CT.out _).mono ?_; rintro e y ⟨⟨n, rfl, hn⟩, hy⟩; have HN := hideIt hn; have HY := hideIt hy; clear hy; have hn0 : (n == 0) = false := (by simpa using hn); clear hn; obtain ⟨-, ⟨b0, b1, b2, b3, b4, b5, b6⟩, g0, g1, g2, g3⟩ := HB.out _ HY.out) | (go_at_call 15; refine (CW.out _).mono ?_; rintro e z ⟨rfl, rfl⟩) | fail)
          go_ret
          exact ⟨rfl, hq.out.trans HY.out⟩
        · have e4 : decide (dst < 0) = false := by simpa using h4
          have e5 : decide (f.regs ≤ dst) = true := by
            have : (decide (0 ≤ dst)) = true := by simp; omega
            rw [this] at hb
            simpa using hb
          clear h4 hb
          go_enter Try.func36, Try.ntmps36
          go_wp2_with (first | (go_at_call 28; refine (CK.out _).mono ?_; rintro e y ⟨rfl, rfl⟩) | (go_at_call 41; refine (CT.out _).mono ?_; rintro e y ⟨⟨n, rfl, hn⟩, hy⟩; have HN := hideIt hn; have HY := hideIt hy; clear hy; have hn0 : (n == 0) = false := (by simpa using hn); clear hn; obtain ⟨-, ⟨b0, b1, b2, b3, b4, b5, b6⟩, g0, g1, g2, g3⟩ := HB.out _ HY.out) | (go_at_call 15; refine (CW.out _).mono ?_; rintro e z ⟨rfl, rfl⟩) | fail)
          go_ret
          exact ⟨rfl, hq.out.trans HY.out⟩

end Go.Proofs.Ytiiggldapncknaa
