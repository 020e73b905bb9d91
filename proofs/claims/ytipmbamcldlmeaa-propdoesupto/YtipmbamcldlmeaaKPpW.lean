/-
  Two codes of one shape are told to be (alike of the statements of layer 17): a contract over the program; the conditions: both lie in memory.
-/
import Derived.Test.YtipmbamcldlmeaaKPpV
import Derived.Test.YtipmbamcldlmeaaKIrZb
namespace Go.Proofs.Ytipmbamcldlmeaa.Pp
open Go.RowKit
set_option linter.unusedVariables false

structure AkP (p q : PP) : Prop where
  e : p.e = q.e
  cond : 0 ≤ p.cond ↔ 0 ≤ q.cond
  next : p.next = q.next
  els : p.els = q.els
  len : p.ins.length = q.ins.length
structure AkF (f g : PF) : Prop where
  params : f.params = g.params
  regs : f.regs = g.regs
  slots : f.slots = g.slots
  parts : EvL AkP f.parts g.parts
theorem ak_prop {N : Int} {A c : PC} (h : EvC A (propC false c)) (hr : RgC N c) : EvL AkF c.fns A.fns := ⟨by rw [h.fns.len]; simp [propC], fun k f g hf hg => by
  have h1 : (propC false c).fns[k]? = some (propF false f) := by simp [propC, hf]
  have h2 := h.fns.each k g _ hg h1
  refine ⟨h2.params.symm, h2.regs.symm, h2.slots.symm, by rw [h2.parts.len]; simp [propF], fun j p q hp hq => ?_⟩
  have h3 : (propF false f).parts[j]? = some (propP false p) := by simp [propF, hp]
  have h4 := h2.parts.each j q _ hq h3
  refine ⟨h4.e.symm, ?_, h4.next.symm, h4.els.symm, by rw [h4.ins.len]; simp [propP, propL_len]⟩
  have hp4 := hr f (List.mem_of_getElem? hf) p (List.mem_of_getElem? hp)
  have e : q.cond = if 0 ≤ p.cond then src false (propL false [] p.ins) p.cond else p.cond := h4.cond
  rw [e]
  split
  · rename_i h0
    exact ⟨fun _ => (src_in (propL_inr p.ins [] (fun i hi => by simp at hi) hp4.1) (hp4.2 h0)).1, fun _ => h0⟩
  · exact Iff.rfl⟩

set_option maxRecDepth 100000 in
set_option maxHeartbeats 1000000 in
theorem alike_any (w : World) (a c : PC) (ha : a.ok w) (hc : c.ok w) (he : EvL AkF a.fns c.fns) : Calls Try.prog 14 #[a.v, c.v] w fun e w' => e = .returned (.bool true) ∧ Q w w' := by
  have hq := hideIt (bxCC_q w a c)
  have HBa := hideIt (fun y (h : Q (bxCC w a c) y) => (bxCC_cells h).1.three)
  have HBc := hideIt (fun y (h : Q (bxCC w a c) y) => (bxCC_cells h).2.three)
  have HFa := hideIt (fun y (h : Q (bxCC w a c) y) => Fns.keep ((bxCC_q w a c).trans h) ha.fns)
  have HFc := hideIt (fun y (h : Q (bxCC w a c) y) => Fns.keep ((bxCC_q w a c).trans h) hc.fns)
  have hlen : a.fns.length ≤ 9223372036854775807 := ha.fsok.len
  have HE := hideIt he
  clear ha hc he
  rcases a with ⟨gl, ini, fns, ga, gc, na, nc, fa, fc⟩
  rcases c with ⟨gl', ini', fns', ga', gc', na', nc', fa', fc'⟩
  dsimp only [PC.v, bxCC, bxC] at *
  have HL : fns'.length = fns.length := HE.out.len.symm
  simp only [HL] at hq HBa HBc HFa HFc ⊢
  have HLH := hideIt HL
  clear HL
  go_enter Try.func14, Try.ntmps14
  go_wp2_with (fail)
  generalize hBB : (w.alloc (.cells #[.slice ga gl.length gc, .slice na ini.length nc, .slice fa fns.length fc] 26)).alloc (.cells #[.slice ga' gl'.length gc', .slice na' ini'.length nc', .slice fa' fns.length fc'] 26) = B at *
  go_loopw [5, 6, 7, 8, 9, 10, 11] (fun i d6 d7 d8 d9 d10 d11 wr => ∃ (k : Nat), i = .int .i64 k ∧ k ≤ fns.length ∧ Q B wr) (fun i _ _ _ _ _ _ _ => fns.length - (intOf i).toNat)
  case atStart => exact ⟨0, rfl, by omega, Q.refl _⟩
  case round =>
    obtain ⟨k, rfl, hk, hq2⟩ := hrel
    have HQ2 := hideIt hq2
    obtain ⟨a0, a1, a2⟩ := HBa.out _ hq2
    obtain ⟨b0, b1, b2⟩ := HBc.out _ hq2
    clear hq2 hBB
    by_cases hlt2 : k < fns.length
    · obtain ⟨f, hf⟩ := get_of_lt hlt2
      obtain ⟨g, hg⟩ := get_of_lt (l := fns') (k := k) (by rw [HLH.out]; exact hlt2)
      obtain ⟨fb, fo, efa, hfat⟩ := HFa.out _ HQ2.out k f hf
      obtain ⟨gb, go, ega, hgat⟩ := HFc.out _ HQ2.out k g hg
      have EV := hideIt (HE.out.each k f g hf hg)
      subst efa ega
      generalize wr = W2 at *
      have HSf := hideIt (fun y (h : Q W2 y) => Ints.keep h hfat.2.slots)
      have HSg := hideIt (fun y (h : Q W2 y) => Ints.keep h hgat.2.slots)
      have HPf := hideIt (fun y (h : Q W2 y) => Prts.keep h hfat.2.parts)
      have HPg := hideIt (fun y (h : Q W2 y) => Prts.keep h hgat.2.parts)
      have hplen : f.parts.length ≤ 9223372036854775807 := hfat.2.psok.len
      have hslen : f.slots.length ≤ 9223372036854775807 := hfat.2.ssok.len
      obtain ⟨f0, f1, f2, f3⟩ := hfat.1.four
      obtain ⟨g0, g1, g2, g3⟩ := hgat.1.four
      have EP := hideIt EV.out.parts
      have E1 := EV.out.params
      have E2 := EV.out.regs
      have E3 := EV.out.slots
      rw [← EP.out.len] at g3
      have hkl : (k : Int) < (fns.length : Int) := by omega
      have b2' := fun ob => cell_keep ((Q.refl W2).alloc ob) b2
      have g0' := fun ob => cell_keep ((Q.refl W2).alloc ob) g0
      have g1' := fun ob => cell_keep ((Q.refl W2).alloc ob) g1
      have g2' := fun ob => cell_keep ((Q.refl W2).alloc ob) g2
      have g3' := fun ob => cell_keep ((Q.refl W2).alloc ob) g3
      clear hf hg hfat hgat EV
      rcases f with ⟨params, regs, slots, parts, sa, sc, pa, pc⟩
      rcases g with ⟨params', regs', slots', parts', sa', sc', pa', pc'⟩
      dsimp only at *
      subst E1 E2 E3
      have HBx := hideIt (fun y (h : Q ((W2.alloc (.cells #[.int .i64 params, .int .i64 regs, .slice sa slots.length sc, .slice pa parts.length pc] 44)).alloc (.cells #[.int .i64 params, .int .i64 regs, .slice sa' slots.length sc', .slice pa' parts.length pc'] 44)) y) => box2 h)
      have HQF : Hid (Q W2 ((W2.alloc (.cells #[.int .i64 params, .int .i64 regs, .slice sa slots.length sc, .slice pa parts.length pc] 44)).alloc (.cells #[.int .i64 params, .int .i64 regs, .slice sa' slots.length sc', .slice pa' parts.length pc'] 44))) := ((Q.refl W2).alloc _).alloc _
      go_wp2_with (fail)
      clear a0 a1 a2 b0 b1 b2 f0 f1 f2 f3 g0 g1 g2 g3 b2' g0' g1' g2' g3'
      generalize hX3 : (W2.alloc (.cells #[.int .i64 params, .int .i64 regs, .slice sa slots.length sc, .slice pa parts.length pc] 44)).alloc (.cells #[.int .i64 params, .int .i64 regs, .slice sa' slots.length sc', .slice pa' parts.length pc'] 44) = X3 at *
      go_loopw [8] (fun i wr => ∃ (j : Nat), i = .int .i64 j ∧ j ≤ slots.length ∧ Q X3 wr) (fun i _ => slots.length - (intOf i).toNat)
      case atStart => exact ⟨0, rfl, by omega, Q.refl _⟩
      case round =>
        obtain ⟨j, rfl, hj, hq3⟩ := hrel
        have HQ3 := hideIt hq3
        have hb3 := HBx.out _ hq3
        have m2 := hb3.1.cell 2 _ rfl
        have m3 := hb3.1.cell 3 _ rfl
        have n2 := hb3.2.cell 2 _ rfl
        have n3 := hb3.2.cell 3 _ rfl
        simp only [Nat.zero_add] at m2 m3 n2 n3
        clear hq3 hb3 hX3
        by_cases hlt3 : j < slots.length
        · obtain ⟨z, hz⟩ := get_of_lt hlt3
          obtain ⟨b3, o3, e3, hc3, -⟩ := HSf.out _ (HQF.out.trans HQ3.out) j z hz
          obtain ⟨b4, o4, e4, hc4, -⟩ := HSg.out _ (HQF.out.trans HQ3.out) j z hz
          rw [Nat.mul_one] at hc3 hc4
          subst e3 e4
          have hjl : (j : Int) < (slots.length : Int) := by omega
          clear hz m3 n3
          go_wp2_with (fail)
          go_quiet (fail)
          go_wp2
          go_roundw
          case rel => exact ⟨j + 1, by go_num, by omega, Q.drewN HQ3.out _⟩
          case measure => simp [intOf]; omega
        · have HZ := hideIt HQ3.out
          generalize wr = W4 at *
          go_wp2_with (fail)
          clear m2 m3 n2 n3
          go_loopw [9, 10, 11] (fun i d10 d11 wr => ∃ (j : Nat), i = .int .i64 j ∧ j ≤ parts.length ∧ Q W4 wr) (fun i _ _ _ => parts.length - (intOf i).toNat)
          case atStart => exact ⟨0, rfl, by omega, Q.refl _⟩
          case round =>
            obtain ⟨j, rfl, hj, hq4⟩ := hrel
            have HQ4 := hideIt hq4
            have hb3 := HBx.out _ (HZ.out.trans hq4)
            have m3 := hb3.1.cell 3 _ rfl
            have n3 := hb3.2.cell 3 _ rfl
            simp only [Nat.zero_add] at m3 n3
            clear hq4 hb3
            by_cases hlt4 : j < parts.length
            · obtain ⟨p, hp⟩ := get_of_lt hlt4
              obtain ⟨q, hqq⟩ := get_of_lt (l := parts') (k := j) (by rw [← EP.out.len]; exact hlt4)
              obtain ⟨pb, po, epa, hpat⟩ := HPf.out _ (HQF.out.trans (HZ.out.trans HQ4.out)) j p hp
              obtain ⟨qb, qo, eqa, hqat⟩ := HPg.out _ (HQF.out.trans (HZ.out.trans HQ4.out)) j q hqq
              have AK := EP.out.each j p q hp hqq
              obtain ⟨p0, p1, p2, p3, p4⟩ := hpat.1.five
              obtain ⟨q0, q1, q2, q3, q4⟩ := hqat.1.five
              rw [← AK.len] at q0
              have e1 := AK.e
              have e2 := AK.cond
              have e3 := AK.next
              have e4 := AK.els
              subst epa eqa
              generalize wr = W5 at *
              clear hp hqq hpat hqat AK
              rcases p with ⟨ins, e, cond, next, els, ia, ic⟩
              rcases q with ⟨ins', e', cond', next', els', ia', ic'⟩
              dsimp only at *
              subst e1 e3 e4
              have n3' := fun ob => cell_keep ((Q.refl W5).alloc ob) n3
              have q0' := fun ob => cell_keep ((Q.refl W5).alloc ob) q0
              have q1' := fun ob => cell_keep ((Q.refl W5).alloc ob) q1
              have q2' := fun ob => cell_keep ((Q.refl W5).alloc ob) q2
              have q3' := fun ob => cell_keep ((Q.refl W5).alloc ob) q3
              have q4' := fun ob => cell_keep ((Q.refl W5).alloc ob) q4
              have hjl : (j : Int) < (parts.length : Int) := by omega
              have HQF5 : Hid (Q W4 W5) := HQ4
              by_cases hcd : 0 ≤ cond
              rotate_left
              all_goals have d2 := e2
              all_goals simp only [hcd, true_iff, false_iff] at d2
              all_goals clear e2
              all_goals cases e
              all_goals
                go_wp2_with (fail)
                go_roundw
                case rel => exact ⟨j + 1, by go_num, by omega, (HQF5.out.alloc _).alloc _⟩
                case measure => simp [intOf]; omega
            · have hjl : ¬ (j : Int) < (parts.length : Int) := by omega
              go_wp2_with (fail)
              go_roundw
              case rel => exact ⟨k + 1, by go_num, by omega, HQ2.out.trans (HQF.out.trans (HZ.out.trans HQ4.out))⟩
              case measure => simp [intOf]; omega
    · have hkl : ¬ (k : Int) < (fns.length : Int) := by omega
      go_wp2_with (fail)
      go_ret
      exact ⟨rfl, by have := hq.out; exact Q.trans this HQ2.out⟩

end Go.Proofs.Ytipmbamcldlmeaa.Pp
