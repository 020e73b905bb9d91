/-
  Whether a part is right, by the document's answer: a contract over the program.
-/
import Derived.Test.YtiiggldapncknaaIrS
namespace Go.Proofs.Ytiiggldapncknaa
open Go.RowKit
set_option linter.unusedVariables false

/-- The three boxes: code, part, function. -/
abbrev bx4 (w : World) (c : PC) (p : PP) (f : PF) : World := bxF (bxP (bxC w c) p) f
theorem bx4_q (w : World) (c : PC) (p : PP) (f : PF) : Q w (bx4 w c p f) := (((Q.refl w).alloc _).alloc _).alloc _
theorem bx4_cells {w y : World} {c : PC} {p : PP} {f : PF} (h : Q (bx4 w c p f) y) :
    (y.cell? ⟨w.heap.size, 0, none⟩ = some (.slice c.ga c.gl.length c.gc) ∧ y.cell? ⟨w.heap.size, 1, none⟩ = some (.slice c.na c.ini.length c.nc) ∧ y.cell? ⟨w.heap.size, 2, none⟩ = some (.slice c.fa c.fns.length c.fc)) ∧
    (y.cell? ⟨w.heap.size + 1, 0, none⟩ = some (.slice p.ia p.ins.length p.ic) ∧ y.cell? ⟨w.heap.size + 1, 1, none⟩ = some (.bool p.e) ∧ y.cell? ⟨w.heap.size + 1, 2, none⟩ = some (.int .i64 p.cond) ∧ y.cell? ⟨w.heap.size + 1, 3, none⟩ = some (.int .i64 p.next) ∧ y.cell? ⟨w.heap.size + 1, 4, none⟩ = some (.int .i64 p.els)) ∧
    (y.cell? ⟨w.heap.size + 1 + 1, 0, none⟩ = some (.int .i64 f.params) ∧ y.cell? ⟨w.heap.size + 1 + 1, 1, none⟩ = some (.int .i64 f.regs) ∧ y.cell? ⟨w.heap.size + 1 + 1, 2, none⟩ = some (.slice f.sa f.slots.length f.sc) ∧ y.cell? ⟨w.heap.size + 1 + 1, 3, none⟩ = some (.slice f.pa f.parts.length f.pc)) := by
  have h1 : At y w.heap.size 0 c.cells := bxC_at ((((Q.refl _).alloc _).alloc _).trans h)
  have h2 : At y (bxC w c).heap.size 0 p.cells := At.box (X := bxC w c) (((Q.refl _).alloc _).trans h)
  have h3 : At y (bxP (bxC w c) p).heap.size 0 f.cells := At.box h
  have e2 : (bxC w c).heap.size = w.heap.size + 1 := by simp
  have e3 : (bxP (bxC w c) p).heap.size = w.heap.size + 1 + 1 := by simp
  rw [e2] at h2
  rw [e3] at h3
  exact ⟨h1.three, h2.five, h3.four⟩

theorem blP_cases (n m : Int) : (blP n m = false ∧ decide (n < 0) = true) ∨ (blP n m = false ∧ decide (n < 0) = false ∧ decide (m ≤ n) = true) ∨ (blP n m = true ∧ decide (n < 0) = false ∧ decide (m ≤ n) = false) := by
  unfold blP
  by_cases h : n < 0
  · have : decide (0 ≤ n) = false := by simp; omega
    exact Or.inl ⟨by rw [this]; rfl, by simpa using h⟩
  · have e : decide (0 ≤ n) = true := by simp; omega
    by_cases h2 : m ≤ n
    · have : decide (n < m) = false := by simp; omega
      exact Or.inr (Or.inl ⟨by rw [this, Bool.and_false], by simpa using h, by simpa using h2⟩)
    · have : decide (n < m) = true := by simp; omega
      exact Or.inr (Or.inr ⟨by rw [e, this]; rfl, by simpa using h, by simpa using h2⟩)

set_option maxRecDepth 100000 in
set_option maxHeartbeats 4000000 in
theorem rpart_bad (w : World) (k : Nat) (c : PC) (f : PF) (p : PP) (hcok : c.ok w) (hk : c.fns[k]? = some f) (hh : endP f p = false) :
    Calls Try.prog 23 #[c.v, .int .i64 (k : Int), p.v] w fun e w' => e = .returned (.bool (ptP c k f p)) ∧ Q w w' := by
  unfold ptP
  rw [hh, Bool.false_and]
  obtain ⟨fb, fo, efa, hf, hfok⟩ := hcok.fns k f hk
  have hkl : k < c.fns.length := (List.getElem?_eq_some_iff.1 hk).1
  have hkl' : (k : Int) < (c.fns.length : Int) := by omega
  have hlen : c.fns.length ≤ 9223372036854775807 := hcok.fsok.len
  obtain ⟨f0, f1, f2, f3⟩ := (hf.keep (((Q.refl w).alloc (.cells #[.slice c.ga c.gl.length c.gc, .slice c.na c.ini.length c.nc, .slice c.fa c.fns.length c.fc] 26)).alloc (.cells #[.slice p.ia p.ins.length p.ic, .bool p.e, .int .i64 p.cond, .int .i64 p.next, .int .i64 p.els] 44))).four
  have hq := hideIt (bx4_q w c p f)
  clear hcok hk hf hfok
  unfold endP at hh
  rcases c with ⟨gl, ini, fns, ga, gc, na, nc, fa, fc⟩
  rcases p with ⟨ins, e, cond, next, els, ia, ic⟩
  dsimp only [PC.v, PP.v, bx4, bxF, bxP, bxC] at *
  subst efa
  cases e
  · by_cases hc : cond < 0
    · simp only [hc, if_true] at hh
      have hc0 : decide (0 ≤ cond) = false := by simp; omega
      rcases blP_cases next f.parts.length with ⟨-, h1⟩ | ⟨-, h1, h2⟩ | ⟨h0, -⟩
      · clear hh hc
        go_enter Try.func23, Try.ntmps23
        go_wp2_with (fail)
        go_ret
        exact ⟨rfl, hq.out⟩
      · clear hh hc
        go_enter Try.func23, Try.ntmps23
        go_wp2_with (fail)
        go_ret
        exact ⟨rfl, hq.out⟩
      · simp [h0] at hh
    · simp only [hc, if_false] at hh
      have hc0 : decide (0 ≤ cond) = true := by simp; omega
      have hc1 : decide (cond < 0) = false := by simpa using hc
      rcases blP_cases next f.parts.length with ⟨-, h1⟩ | ⟨-, h1, h2⟩ | ⟨h0, h1, h2⟩
      · clear hh hc
        go_enter Try.func23, Try.ntmps23
        go_wp2_with (fail)
        go_ret
        exact ⟨rfl, hq.out⟩
      · clear hh hc
        go_enter Try.func23, Try.ntmps23
        go_wp2_with (fail)
        go_ret
        exact ⟨rfl, hq.out⟩
      · rcases blP_cases cond f.regs with ⟨-, h3⟩ | ⟨-, h3, h4⟩ | ⟨h5, h3, h4⟩
        · rw [h3] at hc1
          cases hc1
        · clear hh hc h0
          go_enter Try.func23, Try.ntmps23
          go_wp2_with (fail)
          go_ret
          exact ⟨rfl, hq.out⟩
        · rcases blP_cases els f.parts.length with ⟨-, h6⟩ | ⟨-, h6, h7⟩ | ⟨h8, -⟩
          · clear hh hc h0 h5
            go_enter Try.func23, Try.ntmps23
            go_wp2_with (fail)
            go_ret
            exact ⟨rfl, hq.out⟩
          · clear hh hc h0 h5
            go_enter Try.func23, Try.ntmps23
            go_wp2_with (fail)
            go_ret
            exact ⟨rfl, hq.out⟩
          · simp [h0, h5, h8] at hh
  · simp only [if_true] at hh
    rcases blP_cases cond f.regs with ⟨-, h3⟩ | ⟨-, h3, h4⟩ | ⟨h5, -⟩
    · clear hh
      go_enter Try.func23, Try.ntmps23
      go_wp2_with (fail)
      go_ret
      exact ⟨rfl, hq.out⟩
    · clear hh
      go_enter Try.func23, Try.ntmps23
      go_wp2_with (fail)
      go_ret
      exact ⟨rfl, hq.out⟩
    · rw [h5] at hh
      cases hh

end Go.Proofs.Ytiiggldapncknaa
