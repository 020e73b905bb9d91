/-
  How many instructions and parts code has, by layer 13: a contract over the program.
-/
import Derived.Test.YtiiggldapncknaaIrL
namespace Go.Proofs.Ytiiggldapncknaa
open Go.RowKit
set_option linter.unusedVariables false

theorem wrap_sum (a b : Int) : wrap64 (wrap64 a + b) = IntKind.i64.wrap (a + b) := by simp [IntKind.wrap_i64, wrap64]; omega
def sumTo (l : List Int) (k : Nat) : Int := (l.take k).sum
theorem sumTo_zero (l : List Int) : sumTo l 0 = 0 := rfl
theorem sumTo_all (l : List Int) : sumTo l l.length = l.sum := by unfold sumTo; rw [List.take_length]
theorem sumTo_succ {l : List Int} {k : Nat} {x : Int} (h : l[k]? = some x) : sumTo l (k + 1) = sumTo l k + x := by
  unfold sumTo
  rw [List.take_add_one, h, List.sum_append]
  simp
def cntTo (c : PC) (k : Nat) : Int := sumTo (c.fns.map fnN) k
def prtTo (f : PF) (j : Nat) : Int := sumTo (f.parts.map partN) j
theorem cntTo_zero (c : PC) : cntTo c 0 = 0 := rfl
theorem cntTo_all (c : PC) : cntTo c c.fns.length = codeN c := by unfold cntTo codeN; rw [← sumTo_all]; simp
theorem cntTo_succ {c : PC} {k : Nat} {f : PF} (h : c.fns[k]? = some f) : cntTo c (k + 1) = cntTo c k + fnN f := sumTo_succ (by simp [h])
theorem prtTo_zero (f : PF) : prtTo f 0 = 0 := rfl
theorem prtTo_all (f : PF) : prtTo f f.parts.length = fnN f := by unfold prtTo fnN; rw [← sumTo_all]; simp
theorem prtTo_succ {f : PF} {j : Nat} {p : PP} (h : f.parts[j]? = some p) : prtTo f (j + 1) = prtTo f j + partN p := sumTo_succ (by simp [h])

abbrev bxC (w : World) (c : PC) : World := w.alloc (.cells #[.slice c.ga c.gl.length c.gc, .slice c.na c.ini.length c.nc, .slice c.fa c.fns.length c.fc] 26)
theorem bxC_at {w w' : World} {c : PC} (h : Q (bxC w c) w') : At w' w.heap.size 0 c.cells := At.box h
theorem bxC_q (w : World) (c : PC) : Q w (bxC w c) := (Q.refl _).alloc _

set_option maxRecDepth 100000 in
set_option maxHeartbeats 1000000 in
theorem rcount_any (w : World) (c : PC) (hcok : c.ok w) : Calls Try.prog 11 #[c.v] w fun e w' => e = .returned (.int .i64 (IntKind.i64.wrap (codeN c))) ∧ Q w w' := by
  have HC := hideIt (fun X (h : Q (bxC w c) X) => bxC_at h)
  have HF := hideIt (fun X (h : Q (bxC w c) X) => Fns.keep ((bxC_q w c).trans h) hcok.fns)
  have hlen : c.fns.length ≤ 9223372036854775807 := hcok.fsok.len
  clear hcok
  go_enter Try.func11, Try.ntmps11
  go_wp2_with (fail)
  go_loopw [3, 4, 5] (fun n i d wr => ∃ (k : Nat), n = .int .i64 (IntKind.i64.wrap (cntTo c k)) ∧ i = .int .i64 k ∧ k ≤ c.fns.length ∧ wr = bxC w c) (fun _ i _ _ => c.fns.length - (intOf i).toNat)
  case atStart => exact ⟨0, by rw [cntTo_zero]; rfl, rfl, by omega, rfl⟩
  case round =>
    obtain ⟨k, rfl, rfl, hk, hq⟩ := hrel
    obtain ⟨c0, c1, c2⟩ := (HC.out wr (by rw [hq]; exact Q.refl _)).three
    by_cases hlt : k < c.fns.length
    · obtain ⟨f, hf⟩ := get_of_lt hlt
      obtain ⟨fb, fo, efa, hfat⟩ := (HF.out wr (by rw [hq]; exact Q.refl _)) k f hf
      have hkl : (k : Int) < (c.fns.length : Int) := by omega
      rw [efa] at c2
      obtain ⟨f0, f1, f2, f3⟩ := hfat.1.four
      have hplen : f.parts.length ≤ 9223372036854775807 := hfat.2.psok.len
      have HP := hideIt hfat.2.parts
      have HS := hideIt (cntTo_succ hf)
      have HQ := hideIt hq
      clear hf efa hfat hq
      generalize hcn : cntTo c k = cn at *
      go_wp2_with (fail)
      go_loopw [3, 5] (fun n i x => ∃ (j : Nat), n = .int .i64 (IntKind.i64.wrap (cn + prtTo f j)) ∧ i = .int .i64 j ∧ j ≤ f.parts.length ∧ x = wr) (fun _ i _ => f.parts.length - (intOf i).toNat)
      case atStart => exact ⟨0, by rw [prtTo_zero, Int.add_zero], rfl, by omega, rfl⟩
      case round =>
        obtain ⟨j, rfl, rfl, hj, rfl⟩ := hrel
        by_cases hlt2 : j < f.parts.length
        · obtain ⟨p, hp⟩ := get_of_lt hlt2
          obtain ⟨pb, po, epa, hpat⟩ := HP.out j p hp
          have hjl : (j : Int) < (f.parts.length : Int) := by omega
          rw [epa] at f3
          obtain ⟨p0, -⟩ := hpat.1.five
          have hil : p.ins.length * 64 ≤ 140737488351232 := hpat.2.sok.2.2.2
          have hil2 : p.ins.length ≤ 2199023255552 := by omega
          have HS2 := hideIt (prtTo_succ hp)
          clear hp epa hpat
          generalize prtTo f j = pj at *
          go_wp2_with (fail)
          go_roundw
          case rel =>
            refine ⟨j + 1, ?_, by go_num, by omega, by first | rfl | trivial⟩
            rw [HS2.out, show cn + (pj + partN p) = (cn + pj) + (1 + (p.ins.length : Int)) by unfold partN; omega, wrap_sum]
          case measure => simp [intOf]; omega
        · have ej : j = f.parts.length := by omega
          go_wp2_with (fail)
          go_roundw
          case rel =>
            refine ⟨k + 1, ?_, by go_num, by omega, HQ.out⟩
            rw [HS.out, ej, prtTo_all]
          case measure => simp [intOf]; omega
    · have ek : k = c.fns.length := by omega
      go_wp2_with (fail)
      go_ret
      refine ⟨?_, bxC_q w c⟩
      rw [ek, cntTo_all]
      rfl

abbrev bxF (w : World) (f : PF) : World := w.alloc (.cells #[.int .i64 f.params, .int .i64 f.regs, .slice f.sa f.slots.length f.sc, .slice f.pa f.parts.length f.pc] 41)
abbrev bxP (w : World) (p : PP) : World := w.alloc (.cells #[.slice p.ia p.ins.length p.ic, .bool p.e, .int .i64 p.cond, .int .i64 p.next, .int .i64 p.els] 44)

set_option maxRecDepth 100000 in
set_option maxHeartbeats 1000000 in
theorem count_any (w : World) (c : PC) (hcok : c.ok w) : Calls Try.prog 10 #[c.v] w fun e w' => e = .returned (.int .i64 (IntKind.i64.wrap (codeN c))) ∧ Q w w' := by
  have HC := hideIt (fun X (h : Q (bxC w c) X) => bxC_at h)
  have HF := hideIt (fun X (h : Q (bxC w c) X) => Fns.keep ((bxC_q w c).trans h) hcok.fns)
  have hlen : c.fns.length ≤ 9223372036854775807 := hcok.fsok.len
  clear hcok
  go_enter Try.func10, Try.ntmps10
  go_wp2_with (fail)
  go_loopw [3, 5, 7, 11] (fun n d1 d3 i wr => ∃ (k : Nat), n = .int .i64 (IntKind.i64.wrap (cntTo c k)) ∧ i = .int .i64 k ∧ k ≤ c.fns.length ∧ Q (bxC w c) wr) (fun _ _ _ i _ => c.fns.length - (intOf i).toNat)
  case atStart => exact ⟨0, by rw [cntTo_zero]; rfl, rfl, by omega, Q.refl _⟩
  case round =>
    obtain ⟨k, rfl, rfl, hk, hq⟩ := hrel
    by_cases hlt : k < c.fns.length
    · obtain ⟨f, hf⟩ := get_of_lt hlt
      obtain ⟨fb, fo, efa, hfat⟩ := (HF.out wr hq) k f hf
      have hkl : (k : Int) < (c.fns.length : Int) := by omega
      obtain ⟨f0, f1, f2, f3⟩ := hfat.1.four
      have hplen : f.parts.length * 56 ≤ 140737488351232 := hfat.2.psok.2.2.2
      have hplen2 : f.parts.length ≤ 2513169434844 := by omega
      have HP := hideIt (fun X (h : Q wr X) => Prts.keep h hfat.2.parts)
      have HS := hideIt (cntTo_succ hf)
      have HQ := hideIt hq
      have HA := hideIt efa
      clear hf hfat hq
      generalize hcn : cntTo c k = cn at *
      rw [efa]
      clear efa
      go_wp2_with (fail)
      have QB : Q wr (bxF wr f) := (Q.refl wr).alloc _
      go_loopw [3, 7, 23] (fun n d3 i x => ∃ (j : Nat), n = .int .i64 (IntKind.i64.wrap (cn + f.parts.length + (prtTo f j - j))) ∧ i = .int .i64 j ∧ j ≤ f.parts.length ∧ Q wr x) (fun _ _ i _ => f.parts.length - (intOf i).toNat)
      case atStart => exact ⟨0, by rw [prtTo_zero, wrap_sum]; simp, rfl, by omega, QB⟩
      case round =>
        rename_i wr0 _ _ _ _ _ _ _ _ _ _ _ _ _ _ _
        obtain ⟨j, rfl, rfl, hj, hq2⟩ := hrel
        have HQ2 := hideIt hq2
        clear hq2 QB
        by_cases hlt2 : j < f.parts.length
        · obtain ⟨p, hp⟩ := get_of_lt hlt2
          obtain ⟨pb, po, epa, hpat⟩ := HP.out _ HQ2.out j p hp
          have hjl : (j : Int) < (f.parts.length : Int) := by omega
          obtain ⟨p0, p1, p2, p3, p4⟩ := hpat.1.five
          have HS2 := hideIt (prtTo_succ hp)
          clear hp hpat
          generalize prtTo f j = pj at *
          rw [epa]
          clear epa
          have QB : Q wr (bxP wr p) := (Q.refl wr).alloc _
          go_wp2_with (fail)
          go_roundw
          case rel =>
            refine ⟨j + 1, ?_, by go_num, by omega, HQ2.out.trans QB⟩
            rw [HS2.out, show cn + (f.parts.length : Int) + (pj + partN p - ((j + 1 : Nat) : Int)) = (cn + (f.parts.length : Int) + (pj - (j : Int))) + (p.ins.length : Int) by unfold partN; omega, wrap_sum]
          case measure => simp [intOf]; omega
        · have ej : j = f.parts.length := by omega
          go_wp2_with (fail)
          go_roundw
          case rel =>
            refine ⟨k + 1, ?_, by go_num, by omega, HQ.out.trans HQ2.out⟩
            rw [HS.out, ej, prtTo_all, show cn + (f.parts.length : Int) + (fnN f - (f.parts.length : Int)) = cn + fnN f by omega]
          case measure => simp [intOf]; omega
    · have ek : k = c.fns.length := by omega
      go_wp2_with (fail)
      go_ret
      refine ⟨?_, (bxC_q w c).trans hq⟩
      rw [ek, cntTo_all]
      rfl

end Go.Proofs.Ytiiggldapncknaa
