/-
  Whether a function is right, by layer 13, where its head is: a contract over the program.
-/
import Derived.Test.YtiiggldapncknaaIrK
namespace Go.Proofs.Ytiiggldapncknaa
open Go.RowKit
set_option linter.unusedVariables false

theorem headP_iff {f : PF} (h : headP f = true) : decide (f.params < 0) = false ∧ decide (f.regs < f.params) = false ∧ decide (20000 < f.regs) = false ∧ ¬ f.parts.length = 0 ∧ roomL 65536 f.slots = true := by
  unfold headP at h
  simp only [Bool.and_eq_true, Bool.not_eq_true'] at h
  obtain ⟨h1, h2, h3, h4, h5⟩ := h
  exact ⟨h1, h2, h3, by simpa using h4, h5⟩

set_option maxRecDepth 100000 in
set_option maxHeartbeats 2000000 in
theorem function_good (w : World) (cb co k : Nat) (c : PC) (f : PF) (hc : At w cb co c.cells) (hcok : c.ok w) (hk : c.fns[k]? = some f) (hh : headP f = true) :
    Calls Try.prog 35 #[.pointer (some ⟨cb, co, none⟩), .int .i64 (k : Int)] w fun e w' => e = .returned (.bool (fnP c k f)) ∧ Q w w' := by
  obtain ⟨c0, c1, c2⟩ := hc.three
  obtain ⟨fb, fo, efa, hf, hfok⟩ := hcok.fns k f hk
  have hkl : k < c.fns.length := (List.getElem?_eq_some_iff.1 hk).1
  have hkl' : (k : Int) < (c.fns.length : Int) := by omega
  have hlen : c.fns.length ≤ 9223372036854775807 := hcok.fsok.len
  have hplen : f.parts.length ≤ 9223372036854775807 := hfok.psok.len
  rw [efa] at c2
  obtain ⟨f0, f1, f2, f3⟩ := hf.four
  have CR := hideIt (fun n => room_any (w.drewN n) f.sa f.sc f.slots hfok.ssok (hfok.slots.keep ((Q.refl w).drewN n)))
  have CE : Hid (∀ X, Q w X → ∀ pb po p, At X pb po (PP.cells p) → Calls Try.prog 39 #[.pointer (some ⟨fb, fo + k * 4, none⟩), .pointer (some ⟨pb, po, none⟩)] X fun e w' => e = .returned (.bool (endP f p)) ∧ Q X w') := fun X h pb po p hp => drQ (end_any X fb (fo + k * 4) pb po f p (hf.keep h) hp)
  have CI : Hid (∀ X, Q w X → ∀ ib io x, InsAt X ib io x → Calls Try.prog 40 #[.pointer (some ⟨cb, co, none⟩), .int .i64 (k : Int), .pointer (some ⟨ib, io, none⟩)] X fun e w' => e = .returned (.bool (insP c k f x)) ∧ Q X w') := fun X h ib io x hx => instruction_any X cb co ib io k c f x (hc.keep h) (hcok.keep h) hk hx.1 hx.2
  have HF := hideIt hf
  have HP := hideIt hfok.parts
  obtain ⟨h1, h2, h3, h4, h5⟩ := headP_iff hh
  have e : fnP c k f = f.parts.all (ptP c k f) := by unfold fnP; rw [hh, Bool.true_and]
  rw [e]
  rw [h5] at CR
  have h4' : ((f.parts.length : Int) == 0) = false := by simpa using h4
  clear hc hcok hk hf hfok efa e hh h5 h4
  go_enter Try.func35, Try.ntmps35
  go_wp2_with (fail)
  go_quiet (first | (go_at_call 34; exact Calls.quiet_of_same (CR.out _)) | fail)
  go_wp2
  have hW : Q w (w.drewN nq) := (Q.refl w).drewN nq
  go_loopw [6, 7, 8, 59] (fun m q d i wr => ∃ (n : Nat), i = .int .i64 n ∧ n ≤ f.parts.length ∧ f.parts.all (ptP c k f) = (f.parts.drop n).all (ptP c k f) ∧ Q w wr) (fun _ _ _ i _ => f.parts.length - (intOf i).toNat)
  case atStart => exact ⟨0, rfl, by omega, by simp, hW⟩
  case round =>
    obtain ⟨n, rfl, hn, r3, hq⟩ := hrel
    have HR := hideIt r3
    have HQ := hideIt hq
    clear r3 hW
    obtain ⟨g0, g1, g2, g3⟩ := (HF.out.keep hq).four
    clear hq c0 c1 c2 f0 f1 f2 f3 CR
    by_cases hlt : n < f.parts.length
    · obtain ⟨p, hp⟩ := get_of_lt hlt
      obtain ⟨pb, po, epa, hpat⟩ := (HP.out.keep HQ.out) n p hp
      have hnl : (n : Int) < (f.parts.length : Int) := by omega
      obtain ⟨p0, p1, p2, p3, p4⟩ := hpat.1.five
      rw [epa] at g3
      have HX := hideIt hp
      have HI := hideIt hpat.2.ins
      have hilen : p.ins.length ≤ 9223372036854775807 := hpat.2.sok.len
      have CE1 := hideIt (CE.out wr HQ.out pb (po + n * 5) p hpat.1)
      have HPA := hideIt hpat.1
      clear hp hpat epa CE
      have eall : (f.parts.drop n).all (ptP c k f) = (ptP c k f p && (f.parts.drop (n + 1)).all (ptP c k f)) := all_drop HX.out
      have HAL := hideIt eall
      clear eall
      cases he : endP f p <;> rw [he] at CE1
      · go_wp2_with (first | (go_at_call 39; refine CE1.out.mono ?_; rintro e x1 ⟨rfl, q1⟩; have H1 := hideIt q1; clear q1) | fail)
        go_ret
        refine ⟨?_, HQ.out.trans H1.out⟩
        rw [HR.out, HAL.out]
        unfold ptP
        rw [he]
        rfl
      · go_wp2_with (first | (go_at_call 39; refine CE1.out.mono ?_; rintro e x1 ⟨rfl, q1⟩; have H1 := hideIt q1; obtain ⟨r0, -⟩ := (HPA.out.keep q1).five; clear q1) | fail)
        have HQ1 := hideIt (HQ.out.trans H1.out)
        have HI1 := hideIt (Insts.keep H1.out HI.out)
        have HPA1 := hideIt (HPA.out.keep H1.out)
        clear g0 g1 g2 g3 p0 p1 p2 p3 p4 r0 HI HPA
        go_loopw [8, 77] (fun d i wr => ∃ (m : Nat), i = .int .i64 m ∧ m ≤ p.ins.length ∧ p.ins.all (insP c k f) = (p.ins.drop m).all (insP c k f) ∧ Q x1 wr) (fun _ i _ => p.ins.length - (intOf i).toNat)
        case atStart => exact ⟨0, rfl, by omega, by simp, Q.refl _⟩
        case round =>
          obtain ⟨m, rfl, hm, r3, hq⟩ := hrel
          have HR2 := hideIt r3
          have HQ2 := hideIt hq
          obtain ⟨r0, -⟩ := (HPA1.out.keep hq).five
          clear r3 hq
          by_cases hlt2 : m < p.ins.length
          · obtain ⟨x, hx⟩ := get_of_lt hlt2
            obtain ⟨ib, io, eia, hxat⟩ := (Insts.keep HQ2.out HI1.out) m x hx
            have hml : (m : Int) < (p.ins.length : Int) := by omega
            rw [eia] at r0
            have CI1 := hideIt (CI.out wr (HQ1.out.trans HQ2.out) ib (io + m * 7) x hxat)
            have HAL2 := hideIt (all_drop (p := insP c k f) hx)
            clear hx hxat eia
            cases hi : insP c k f x <;> rw [hi] at CI1
            · go_wp2_with (first | (go_at_call 40; refine CI1.out.mono ?_; rintro e x2 ⟨rfl, q2⟩; have H2 := hideIt q2; clear q2) | fail)
              go_ret
              refine ⟨?_, HQ1.out.trans (HQ2.out.trans H2.out)⟩
              rw [HR.out, HAL.out]
              unfold ptP
              rw [HR2.out, HAL2.out, hi]
              simp
            · go_wp2_with (first | (go_at_call 40; refine CI1.out.mono ?_; rintro e x2 ⟨rfl, q2⟩; have H2 := hideIt q2; clear q2) | fail)
              go_roundw
              case rel =>
                refine ⟨m + 1, by go_num, by omega, ?_, HQ2.out.trans H2.out⟩
                rw [HR2.out, HAL2.out, hi, Bool.true_and]
              case measure => simp [intOf]; omega
          · have em : m = p.ins.length := by omega
            have HA : Hid (p.ins.all (insP c k f) = true) := by
              show p.ins.all (insP c k f) = true
              rw [HR2.out, em, List.drop_length]
              rfl
            clear HR2
            go_wp2_with (fail)
            go_roundw
            case rel =>
              refine ⟨n + 1, by go_num, by omega, ?_, HQ1.out.trans HQ2.out⟩
              rw [HR.out, HAL.out]
              have e3 : ptP c k f p = true := by unfold ptP; rw [he, HA.out]; rfl
              rw [e3, Bool.true_and]
            case measure => simp [intOf]; omega
    · have en : n = f.parts.length := by omega
      go_wp2_with (fail)
      go_ret
      refine ⟨?_, HQ.out⟩
      rw [HR.out, en, List.drop_length]
      rfl

theorem function_any (w : World) (cb co k : Nat) (c : PC) (f : PF) (hc : At w cb co c.cells) (hcok : c.ok w) (hk : c.fns[k]? = some f) :
    Calls Try.prog 35 #[.pointer (some ⟨cb, co, none⟩), .int .i64 (k : Int)] w fun e w' => e = .returned (.bool (fnP c k f)) ∧ Q w w' := by
  cases h : headP f
  · exact function_bad w cb co k c f hc hcok hk h
  · exact function_good w cb co k c f hc hcok hk h

end Go.Proofs.Ytiiggldapncknaa
