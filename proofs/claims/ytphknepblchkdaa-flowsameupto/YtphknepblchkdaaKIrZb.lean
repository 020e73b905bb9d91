/-
  Two codes that are alike are told to be: the contract of the document's Same.
-/
import Derived.Test.YtphknepblchkdaaKIrZa
namespace Go.Proofs.Ytphknepblchkdaa
open Go.RowKit
set_option linter.unusedVariables false

abbrev bxCC (w : World) (a c : PC) : World := bxC (bxC w a) c
theorem bxCC_q (w : World) (a c : PC) : Q w (bxCC w a c) := ((Q.refl w).alloc _).alloc _
theorem bxCC_cells {w y : World} {a c : PC} (h : Q (bxCC w a c) y) : At y w.heap.size 0 a.cells ∧ At y (w.heap.size + 1) 0 c.cells := by
  refine ⟨bxC_at (((Q.refl _).alloc _).trans h), ?_⟩
  have := bxC_at (w := bxC w a) h
  simpa using this

theorem box2 {X y : World} {cs1 cs2 : Array Value} {t1 t2 : TypeId} (h : Q ((X.alloc (.cells cs1 t1)).alloc (.cells cs2 t2)) y) : At y X.heap.size 0 cs1.toList ∧ At y (X.heap.size + 1) 0 cs2.toList := by
  refine ⟨At.box (((Q.refl _).alloc _).trans h), ?_⟩
  have : At y (X.alloc (.cells cs1 t1)).heap.size 0 cs2.toList := At.box h
  simpa using this

set_option maxRecDepth 100000 in
set_option maxHeartbeats 4000000 in
theorem same_any (w : World) (a c : PC) (ha : a.ok w) (hc : c.ok w) (he : EvC a c) : Calls Try.prog 13 #[a.v, c.v] w fun e w' => e = .returned (.bool true) ∧ Q w w' := by
  have hq := hideIt (bxCC_q w a c)
  have HBa := hideIt (fun y (h : Q (bxCC w a c) y) => (bxCC_cells h).1.three)
  have HBc := hideIt (fun y (h : Q (bxCC w a c) y) => (bxCC_cells h).2.three)
  have HFa := hideIt (fun y (h : Q (bxCC w a c) y) => Fns.keep ((bxCC_q w a c).trans h) ha.fns)
  have HFc := hideIt (fun y (h : Q (bxCC w a c) y) => Fns.keep ((bxCC_q w a c).trans h) hc.fns)
  have HNa := hideIt (fun y (h : Q (bxCC w a c) y) => Ints.keep ((bxCC_q w a c).trans h) ha.ini)
  have HNc := hideIt (fun y (h : Q (bxCC w a c) y) => Ints.keep ((bxCC_q w a c).trans h) hc.ini)
  have CG := hideIt (ints_same (bxCC w a c) a.ga c.ga a.gc c.gc a.gl ha.gsok.len (ha.gl.keep (bxCC_q w a c)) (by rw [he.gl]; exact hc.gl.keep (bxCC_q w a c)))
  have hlen : a.fns.length ≤ 9223372036854775807 := ha.fsok.len
  have hnlen : a.ini.length ≤ 9223372036854775807 := ha.nsok.len
  have HE := hideIt he.fns
  have e1 := he.gl
  have e2 := he.ini
  clear ha hc he
  rcases a with ⟨gl, ini, fns, ga, gc, na, nc, fa, fc⟩
  rcases c with ⟨gl', ini', fns', ga', gc', na', nc', fa', fc'⟩
  dsimp only at e1 e2
  subst e1 e2
  dsimp only [PC.v, bxCC, bxC] at *
  have HL : Hid (fns'.length = fns.length) := HE.out.len.symm
  go_enter Try.func13, Try.ntmps13
  go_wp2_with (first | (go_at_call 31; refine CG.out.mono ?_; rintro e x1 ⟨rfl, q1⟩; have H1 := hideIt q1; obtain ⟨a0, a1, a2⟩ := HBa.out _ q1; obtain ⟨b0, b1, b2⟩ := HBc.out _ q1; rw [HL.out] at b2; clear q1) | fail)
  clear a0 a1 a2 b0 b1 b2
  go_loopw [5] (fun i wr => ∃ (k : Nat), i = .int .i64 k ∧ k ≤ ini.length ∧ Q x1 wr) (fun i _ => ini.length - (intOf i).toNat)
  case atStart => exact ⟨0, rfl, by omega, Q.refl _⟩
  case round =>
    obtain ⟨k, rfl, hk, hq2⟩ := hrel
    have HQ := hideIt hq2
    obtain ⟨a0, a1, a2⟩ := HBa.out _ (H1.out.trans hq2)
    obtain ⟨b0, b1, b2⟩ := HBc.out _ (H1.out.trans hq2)
    rw [HL.out] at b2
    clear hq2
    by_cases hlt : k < ini.length
    · obtain ⟨z, hz⟩ := get_of_lt hlt
      obtain ⟨b3, o3, e3, hc3, -⟩ := (HNa.out _ (H1.out.trans HQ.out)) k z hz
      obtain ⟨b4, o4, e4, hc4, -⟩ := (HNc.out _ (H1.out.trans HQ.out)) k z hz
      rw [Nat.mul_one] at hc3 hc4
      subst e3 e4
      have hkl : (k : Int) < (ini.length : Int) := by omega
      clear hz
      go_wp2_with (fail)
      go_quiet (fail)
      go_wp2
      go_roundw
      case rel => exact ⟨k + 1, by go_num, by omega, Q.drewN HQ.out _⟩
      case measure => simp [intOf]; omega
    · have HZ := hideIt (H1.out.trans HQ.out)
      generalize wr = W1 at *
      go_wp2_with (fail)
      clear a0 a1 a2 b0 b1 b2
      go_loopw [6, 7, 8, 9, 10, 11, 12, 13, 14] (fun i d7 d8 d9 d10 d11 d12 d13 d14 wr => ∃ (k : Nat), i = .int .i64 k ∧ k ≤ fns.length ∧ Q W1 wr) (fun i _ _ _ _ _ _ _ _ _ => fns.length - (intOf i).toNat)
      case atStart => exact ⟨0, rfl, by omega, Q.refl _⟩
      case round =>
        obtain ⟨k, rfl, hk, hq2⟩ := hrel
        have HQ2 := hideIt (HZ.out.trans hq2)
        have hQW := hideIt hq2
        obtain ⟨a0, a1, a2⟩ := HBa.out _ HQ2.out
        obtain ⟨b0, b1, b2⟩ := HBc.out _ HQ2.out
        rw [HL.out] at b2
        clear hq2
        by_cases hlt2 : k < fns.length
        · obtain ⟨f, hf⟩ := get_of_lt hlt2
          obtain ⟨g, hg⟩ := get_of_lt (l := fns') (k := k) (by rw [HL.out]; exact hlt2)
          obtain ⟨fb, fo, efa, hfat⟩ := HFa.out _ HQ2.out k f hf
          obtain ⟨gb, go, ega, hgat⟩ := HFc.out _ HQ2.out k g hg
          have EV := hideIt (HE.out.each k f g hf hg)
          subst efa ega
          generalize wr = W2 at *
          have q2 : Q W2 ((W2.alloc (.cells #[.int .i64 f.params, .int .i64 f.regs, .slice f.sa f.slots.length f.sc, .slice f.pa f.parts.length f.pc] 44)).alloc (.cells #[.int .i64 g.params, .int .i64 g.regs, .slice g.sa g.slots.length g.sc, .slice g.pa f.parts.length g.pc] 44)) := ((Q.refl W2).alloc _).alloc _
          have hgs : Ints W2 g.sa f.slots := by rw [EV.out.slots]; exact hgat.2.slots
          have CS := hideIt (ints_same _ f.sa g.sa f.sc g.sc f.slots hfat.2.ssok.len (hfat.2.slots.keep q2) (hgs.keep q2))
          have HPf := hideIt (fun y (h : Q W2 y) => Prts.keep h hfat.2.parts)
          have HPg := hideIt (fun y (h : Q W2 y) => Prts.keep h hgat.2.parts)
          have hplen : f.parts.length ≤ 9223372036854775807 := hfat.2.psok.len
          obtain ⟨f0, f1, f2, f3⟩ := hfat.1.four
          obtain ⟨g0, g1, g2, g3⟩ := hgat.1.four
          have EP := hideIt EV.out.parts
          have E1 := EV.out.params
          have E2 := EV.out.regs
          have E3 := EV.out.slots
          rw [← EP.out.len] at g3
          have hkl : (k : Int) < (fns.length : Int) := by omega
          have b2' := fun ob => cell_keep ((Q.refl W2).alloc ob) b2
          have g0' := fun ob => cell_keep ((Q.refl W2).alloc ob) g0
          have g1' := fun ob => cell_keep ((Q.refl W2).alloc ob) g1
          have g2' := fun ob => cell_keep ((Q.refl W2).alloc ob) g2
          have g3' := fun ob => cell_keep ((Q.refl W2).alloc ob) g3
          have HQF := hideIt q2
          clear hf hg hfat hgat EV q2 hgs
          rcases f with ⟨params, regs, slots, parts, sa, sc, pa, pc⟩
          rcases g with ⟨params', regs', slots', parts', sa', sc', pa', pc'⟩
          dsimp only at *
          subst E1 E2 E3
          have HBx := hideIt (fun y (h : Q ((W2.alloc (.cells #[.int .i64 params, .int .i64 regs, .slice sa slots.length sc, .slice pa parts.length pc] 44)).alloc (.cells #[.int .i64 params, .int .i64 regs, .slice sa' slots.length sc', .slice pa' parts.length pc'] 44)) y) => box2 h)
          go_wp2_with (first | (go_at_call 31; refine CS.out.mono ?_; rintro e x3 ⟨rfl, q3⟩; have H3 := hideIt q3; have HQ3 := hideIt (HQF.out.trans q3); have hb3 := HBx.out _ q3; have m0 := hb3.1.cell 3 _ rfl; have m1 := hb3.2.cell 3 _ rfl; simp only [Nat.zero_add] at m0 m1; clear hb3 q3) | fail)
          clear m0 m1 a0 a1 a2 b0 b1 b2 f0 f1 f2 f3 g0 g1 g2 g3 b2' g0' g1' g2' g3'
          go_loopw [9, 10, 11, 12, 13, 14] (fun i d10 d11 d12 d13 d14 wr => ∃ (j : Nat), i = .int .i64 j ∧ j ≤ parts.length ∧ Q x3 wr) (fun i _ _ _ _ _ _ => parts.length - (intOf i).toNat)
          case atStart => exact ⟨0, rfl, by omega, Q.refl _⟩
          case round =>
            obtain ⟨j, rfl, hj, hq3⟩ := hrel
            have HQ4 := hideIt hq3
            have hb3 := HBx.out _ (H3.out.trans hq3)
            have m0 := hb3.1.cell 3 _ rfl
            have m1 := hb3.2.cell 3 _ rfl
            simp only [Nat.zero_add] at m0 m1
            clear hq3 hb3
            by_cases hlt3 : j < parts.length
            · obtain ⟨p, hp⟩ := get_of_lt hlt3
              obtain ⟨q, hq'⟩ := get_of_lt (l := parts') (k := j) (by rw [← EP.out.len]; exact hlt3)
              obtain ⟨pb, po, epa, hpat⟩ := HPf.out _ (HQ3.out.trans HQ4.out) j p hp
              obtain ⟨qb, qo, eqa, hqat⟩ := HPg.out _ (HQ3.out.trans HQ4.out) j q hq'
              have EV := hideIt (EP.out.each j p q hp hq')
              subst epa eqa
              generalize wr = W3 at *
              have q4 : Q W3 ((W3.alloc (.cells #[.slice p.ia p.ins.length p.ic, .bool p.e, .int .i64 p.cond, .int .i64 p.next, .int .i64 p.els] 47)).alloc (.cells #[.slice q.ia p.ins.length q.ic, .bool q.e, .int .i64 q.cond, .int .i64 q.next, .int .i64 q.els] 47)) := ((Q.refl W3).alloc _).alloc _
              have HIp := hideIt (fun y (h : Q W3 y) => Insts.keep h hpat.2.ins)
              have HIq := hideIt (fun y (h : Q W3 y) => Insts.keep h hqat.2.ins)
              have hilen : p.ins.length ≤ 9223372036854775807 := hpat.2.sok.len
              obtain ⟨p0, p1, p2, p3, p4⟩ := hpat.1.five
              obtain ⟨u0, u1, u2, u3, u4⟩ := hqat.1.five
              have EI := hideIt EV.out.ins
              have F1 := EV.out.e
              have F2 := EV.out.cond
              have F3 := EV.out.next
              have F4 := EV.out.els
              rw [← EI.out.len] at u0
              have hjl : (j : Int) < (parts.length : Int) := by omega
              have m1' := fun ob => cell_keep ((Q.refl W3).alloc ob) m1
              have u0' := fun ob => cell_keep ((Q.refl W3).alloc ob) u0
              have u1' := fun ob => cell_keep ((Q.refl W3).alloc ob) u1
              have u2' := fun ob => cell_keep ((Q.refl W3).alloc ob) u2
              have u3' := fun ob => cell_keep ((Q.refl W3).alloc ob) u3
              have u4' := fun ob => cell_keep ((Q.refl W3).alloc ob) u4
              have HQP := hideIt q4
              clear hp hq' hpat hqat EV q4
              rcases p with ⟨ins, pe, cond, next, els, ia, ic⟩
              rcases q with ⟨ins', pe', cond', next', els', ia', ic'⟩
              dsimp only at *
              subst F1 F2 F3 F4
              have HBy := hideIt (fun y (h : Q ((W3.alloc (.cells #[.slice ia ins.length ic, .bool pe, .int .i64 cond, .int .i64 next, .int .i64 els] 47)).alloc (.cells #[.slice ia' ins.length ic', .bool pe, .int .i64 cond, .int .i64 next, .int .i64 els] 47)) y) => box2 h)
              go_wp2_with (fail)
              clear m0 m1 p0 p1 p2 p3 p4 u0 u1 u2 u3 u4 m1' u0' u1' u2' u3' u4'
              generalize hX4 : (W3.alloc (.cells #[.slice ia ins.length ic, .bool pe, .int .i64 cond, .int .i64 next, .int .i64 els] 47)).alloc (.cells #[.slice ia' ins.length ic', .bool pe, .int .i64 cond, .int .i64 next, .int .i64 els] 47) = X4 at *
              clear hX4
              go_loopw [12, 13, 14] (fun i d13 d14 wr => ∃ (m : Nat), i = .int .i64 m ∧ m ≤ ins.length ∧ Q X4 wr) (fun i _ _ _ => ins.length - (intOf i).toNat)
              case atStart => exact ⟨0, rfl, by omega, Q.refl _⟩
              case round =>
                obtain ⟨m, rfl, hm, hq5⟩ := hrel
                have HQ5 := hideIt hq5
                have hb4 := HBy.out _ hq5
                have m0 := hb4.1.cell 0 _ rfl
                have m1 := hb4.2.cell 0 _ rfl
                simp only [Nat.zero_add] at m0 m1
                clear hq5 hb4
                by_cases hlt4 : m < ins.length
                · obtain ⟨x, hx⟩ := get_of_lt hlt4
                  obtain ⟨y, hy⟩ := get_of_lt (l := ins') (k := m) (by rw [← EI.out.len]; exact hlt4)
                  obtain ⟨xb, xo, exa, hxat⟩ := HIp.out _ (HQP.out.trans HQ5.out) m x hx
                  obtain ⟨yb, yo, eya, hyat⟩ := HIq.out _ (HQP.out.trans HQ5.out) m y hy
                  have EV := hideIt (EI.out.each m x y hx hy)
                  subst exa eya
                  generalize wr = W4 at *
                  have q6 : Q W4 ((W4.alloc (.cells #[.int .u8 x.op, .int .u8 x.ty, .int .i64 x.dst, .int .i64 x.a, .int .i64 x.b, .int .i64 x.imm, .slice x.aa x.args.length x.ac] 49)).alloc (.cells #[.int .u8 y.op, .int .u8 y.ty, .int .i64 y.dst, .int .i64 y.a, .int .i64 y.b, .int .i64 y.imm, .slice y.aa y.args.length y.ac] 49)) := ((Q.refl W4).alloc _).alloc _
                  have hys : Ints W4 y.aa x.args := by rw [EV.out.args]; exact hyat.2.args
                  have CA := hideIt (ints_same _ x.aa y.aa x.ac y.ac x.args hxat.2.sok.len (hxat.2.args.keep q6) (hys.keep q6))
                  obtain ⟨x0, x1', x2, x3', x4, x5, x6⟩ := hxat.1.seven
                  obtain ⟨y0, y1, y2, y3, y4, y5, y6⟩ := hyat.1.seven
                  have G1 := EV.out.op
                  have G2 := EV.out.ty
                  have G3 := EV.out.dst
                  have G4 := EV.out.a
                  have G5 := EV.out.b
                  have G6 := EV.out.imm
                  have G7 := EV.out.args
                  have hml : (m : Int) < (ins.length : Int) := by omega
                  have m1' := fun ob => cell_keep ((Q.refl W4).alloc ob) m1
                  have y0' := fun ob => cell_keep ((Q.refl W4).alloc ob) y0
                  have y1' := fun ob => cell_keep ((Q.refl W4).alloc ob) y1
                  have y2' := fun ob => cell_keep ((Q.refl W4).alloc ob) y2
                  have y3' := fun ob => cell_keep ((Q.refl W4).alloc ob) y3
                  have y4' := fun ob => cell_keep ((Q.refl W4).alloc ob) y4
                  have y5' := fun ob => cell_keep ((Q.refl W4).alloc ob) y5
                  have y6' := fun ob => cell_keep ((Q.refl W4).alloc ob) y6
                  have HQI := hideIt q6
                  clear hx hy hxat hyat EV q6 hys
                  rcases x with ⟨op, ty, dst, xa, xb', imm, args, aa, ac⟩
                  rcases y with ⟨op', ty', dst', xa', xb'', imm', args', aa', ac'⟩
                  dsimp only at *
                  subst G1 G2 G3 G4 G5 G6 G7
                  go_wp2_with (first | (go_at_call 31; refine CA.out.mono ?_; rintro e x7 ⟨rfl, q7⟩; have H7 := hideIt q7; clear q7) | fail)
                  go_roundw
                  case rel => exact ⟨m + 1, by go_num, by omega, HQ5.out.trans (HQI.out.trans H7.out)⟩
                  case measure => simp [intOf]; omega
                · go_wp2_with (fail)
                  go_roundw
                  case rel => exact ⟨j + 1, by go_num, by omega, HQ4.out.trans (HQP.out.trans HQ5.out)⟩
                  case measure => simp [intOf]; omega
            · go_wp2_with (fail)
              go_roundw
              case rel => exact ⟨k + 1, by go_num, by omega, hQW.out.trans (HQ3.out.trans HQ4.out)⟩
              case measure => simp [intOf]; omega
        · go_wp2_with (fail)
          go_ret
          exact ⟨rfl, hq.out.trans HQ2.out⟩

end Go.Proofs.Ytphknepblchkdaa
