/-
  Whether code is right, by the document's answer: a contract over the program.
-/
import Derived.Test.YtiiggldapncknaaIrU
namespace Go.Proofs.Ytiiggldapncknaa
open Go.RowKit
set_option linter.unusedVariables false

theorem headP_ways {f : PF} (h : headP f = false) : decide (f.params < 0) = true ∨ (decide (f.params < 0) = false ∧ decide (f.regs < f.params) = true) ∨ (decide (f.params < 0) = false ∧ decide (f.regs < f.params) = false ∧ decide (20000 < f.regs) = true) ∨ (decide (f.params < 0) = false ∧ decide (f.regs < f.params) = false ∧ decide (20000 < f.regs) = false ∧ f.parts.length = 0) ∨ (decide (f.params < 0) = false ∧ decide (f.regs < f.params) = false ∧ decide (20000 < f.regs) = false ∧ ¬ f.parts.length = 0 ∧ roomL 65536 f.slots = false) := by
  unfold headP at h
  cases h1 : decide (f.params < 0)
  · cases h2 : decide (f.regs < f.params)
    · cases h3 : decide (20000 < f.regs)
      · by_cases h4 : f.parts.length = 0
        · exact Or.inr (Or.inr (Or.inr (Or.inl ⟨rfl, rfl, rfl, h4⟩)))
        · refine Or.inr (Or.inr (Or.inr (Or.inr ⟨rfl, rfl, rfl, h4, ?_⟩)))
          have e : decide (f.parts.length = 0) = false := by simpa using h4
          rw [h1, h2, h3, e] at h
          simpa using h
      · exact Or.inr (Or.inr (Or.inl ⟨rfl, rfl, rfl⟩))
    · exact Or.inr (Or.inl ⟨rfl, rfl⟩)
  · exact Or.inl rfl

/-- What the document's answer is where the code's head is wrong. -/
theorem validP_hd {c : PC} (h1 : ¬ 60000 < IntKind.i64.wrap (codeN c)) (h : hdP c = false) : validP c = 3 := by
  unfold validP rightP
  rw [if_neg h1, h]
  rfl
theorem validP_fns {c : PC} (h1 : ¬ 60000 < IntKind.i64.wrap (codeN c)) (hh : hdP c = true) : (fnsP c 0 c.fns = false → validP c = 3) ∧ (fnsP c 0 c.fns = true → validP c = 0) := by
  unfold validP rightP
  rw [if_neg h1, hh]
  refine ⟨fun h => ?_, fun h => ?_⟩
  · rw [h]; rfl
  · rw [h]; rfl

set_option maxRecDepth 100000 in
set_option maxHeartbeats 1000000 in
theorem rvalid_bad (w : World) (c : PC) (hcok : c.ok w) (hb : 60000 < IntKind.i64.wrap (codeN c) ∨ hdP c = false) : Calls Try.prog 9 #[c.v] w fun e w' => e = .returned (.int .i64 (validP c)) ∧ Q w w' := by
  have HB := hideIt (fun X (h : Q (bxC w c) X) => (bxC_at h).three)
  have CC := hideIt (rcount_any (bxC w c) c (hcok.keep (bxC_q w c)))
  have CR := hideIt (fun X (h : Q (bxC w c) X) => cells_any X c.ga c.gc c.gl hcok.gsok (hcok.gl.keep ((bxC_q w c).trans h)))
  have hq := hideIt (bxC_q w c)
  have hlen : c.fns.length ≤ 9223372036854775807 := hcok.fsok.len
  by_cases h1 : 60000 < IntKind.i64.wrap (codeN c)
  · have ev : validP c = 11 := by unfold validP; rw [if_pos h1]
    rw [ev]
    generalize IntKind.i64.wrap (codeN c) = n at *
    have e : decide (60000 < n) = true := by simpa using h1
    clear CR hcok h1 hb ev
    go_enter Try.func9, Try.ntmps9
    go_wp2_with (first | (go_at_call 11; refine CC.out.mono ?_; rintro e x1 ⟨rfl, q1⟩; have H1 := hideIt q1; clear q1) | fail)
    go_ret
    exact ⟨rfl, hq.out.trans H1.out⟩
  · have hh : hdP c = false := hb.resolve_left h1
    rw [validP_hd h1 hh]
    generalize IntKind.i64.wrap (codeN c) = n at *
    have e : decide (60000 < n) = false := by simpa using h1
    clear h1 hb
    by_cases h0 : c.fns.length = 0
    · clear CR hcok hh hlen
      rcases c with ⟨gl, ini, fns, ga, gc, na, nc, fa, fc⟩
      dsimp only at h0
      obtain rfl : fns = [] := List.eq_nil_of_length_eq_zero h0
      clear h0
      dsimp only [bxC, PC.v, List.length_nil] at *
      go_enter Try.func9, Try.ntmps9
      go_wp2_with (first | (go_at_call 11; refine CC.out.mono ?_; rintro e x1 ⟨rfl, q1⟩; have H1 := hideIt q1; obtain ⟨c0, c1, c2⟩ := HB.out _ q1; clear q1) | fail)
      go_ret
      exact ⟨rfl, hq.out.trans H1.out⟩
    · have h0' : ((c.fns.length : Int) == 0) = false := by simpa using h0
      by_cases h2 : c.ini.length = c.gl.length
      · obtain ⟨g, hg⟩ := get_of_lt (l := c.fns) (k := c.fns.length - 1) (by omega)
        obtain ⟨fb, fo, efa, hgat⟩ := hcok.fns _ g hg
        have HGA := hideIt (fun X (h : Q (bxC w c) X) => (hgat.1.keep ((bxC_q w c).trans h)).four.1)
        have hl : hdP c = ((g.params == 0) && roomL 65536 c.gl) := by
          unfold hdP lastP
          rw [hg]
          have : decide (c.ini.length = c.gl.length) = true := by simpa using h2
          rw [this, Bool.true_and]
        rw [hl] at hh
        obtain ⟨m, hm⟩ : ∃ m, c.fns.length = m + 1 := ⟨c.fns.length - 1, by omega⟩
        rw [hm] at HGA hlen
        simp only [Nat.add_sub_cancel] at HGA
        have HM := hideIt hm
        have HE := hideIt efa
        have HI := hideIt h2
        clear hcok hgat efa hg h0 h0' h2 hm hl
        by_cases h3 : g.params = 0
        · have hr : roomL 65536 c.gl = false := by rw [h3] at hh; simpa using hh
          rw [hr] at CR
          rw [h3] at HGA
          clear hh
          go_enter Try.func9, Try.ntmps9
          go_wp2_with (first | (go_at_call 11; refine CC.out.mono ?_; rintro e x1 ⟨rfl, q1⟩; have H1 := hideIt q1; obtain ⟨c0, c1, c2⟩ := HB.out _ q1; have g0 := HGA.out _ q1; rw [HM.out, HE.out] at c2; rw [HI.out] at c1; clear q1) | (go_at_call 22; refine (CR.out _ H1.out).mono ?_; rintro e x2 ⟨rfl, rfl⟩) | fail)
          go_ret
          exact ⟨rfl, hq.out.trans H1.out⟩
        · have h3' : (g.params != 0) = true := by simpa using h3
          clear hh CR
          go_enter Try.func9, Try.ntmps9
          go_wp2_with (first | (go_at_call 11; refine CC.out.mono ?_; rintro e x1 ⟨rfl, q1⟩; have H1 := hideIt q1; obtain ⟨c0, c1, c2⟩ := HB.out _ q1; have g0 := HGA.out _ q1; rw [HM.out, HE.out] at c2; rw [HI.out] at c1; clear q1) | fail)
          go_ret
          exact ⟨rfl, hq.out.trans H1.out⟩
      · have h2' : ((c.ini.length : Int) != (c.gl.length : Int)) = true := by simpa using (show ¬ (c.ini.length : Int) = (c.gl.length : Int) by omega)
        clear CR hcok hh h2
        go_enter Try.func9, Try.ntmps9
        go_wp2_with (first | (go_at_call 11; refine CC.out.mono ?_; rintro e x1 ⟨rfl, q1⟩; have H1 := hideIt q1; obtain ⟨c0, c1, c2⟩ := HB.out _ q1; clear q1) | fail)
        go_ret
        exact ⟨rfl, hq.out.trans H1.out⟩

end Go.Proofs.Ytiiggldapncknaa
