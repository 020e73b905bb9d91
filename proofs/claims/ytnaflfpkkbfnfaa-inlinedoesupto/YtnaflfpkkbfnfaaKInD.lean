/-
  An instruction is put behind a part, and another end (put, goOn of inline): contracts over the program; the conditions: the function lies in memory, and the part that is put into has a list of its own.
-/
import Derived.Test.YtnaflfpkkbfnfaaKInC
import Derived.Deep.RegionLawGrows
import Derived.Deep.RegionHeld3
import Derived.BigRegion
import Derived.Deep.AppendLies
import Derived.Deep.RegionLaw
namespace Go.Proofs.Ytnaflfpkkbfnfaa.In
open Go.RowKit
set_option linter.unusedVariables false

theorem info_inst : ∃ i0, Try.prog.info? 41 = some i0 ∧ i0.zero = some (.agg #[.int .u8 0, .int .u8 0, .int .i64 0, .int .i64 0, .int .i64 0, .int .i64 0, .slice none 0 0]) ∧ i0.size = 7 ∧ i0.bytes = 64 := by
  obtain ⟨i, hi, hzz⟩ := Option.map_eq_some_iff.1 Try.infoInst
  simp only [Prod.mk.injEq] at hzz
  exact ⟨i, hi, hzz.1, hzz.2.1, hzz.2.2⟩
theorem info_part : ∃ i0, Try.prog.info? 39 = some i0 ∧ i0.zero = some (.agg #[.slice none 0 0, .bool false, .int .i64 0, .int .i64 0, .int .i64 0]) ∧ i0.size = 5 ∧ i0.bytes = 56 := by
  obtain ⟨i, hi, hzz⟩ := Option.map_eq_some_iff.1 Try.infoPart
  simp only [Prod.mk.injEq] at hzz
  exact ⟨i, hi, hzz.1, hzz.2.1, hzz.2.2⟩

theorem MW.c3 {X : Cx} {cur : Nat} {s : Cl} {w : World} {L : List PP} {pa : Option Addr} {pc : Nat} (h : MW X cur s w L pa pc) : w.cell? ⟨X.C, 0, none⟩ = some (.pointer (some ⟨X.fb, X.fo, none⟩)) ∧ w.cell? ⟨X.C, 1, none⟩ = some X.bod ∧ w.cell? ⟨X.C, 2, none⟩ = some (.bool X.fault) ∧ w.cell? ⟨X.C, 3, none⟩ = some (.int .i64 (s.here : Int)) ∧ ∀ j, w.frozen? ⟨X.C, j, none⟩ = false :=
  ⟨(cell_of_block h.box 0).trans rfl, (cell_of_block h.box 1).trans rfl, (cell_of_block h.box 2).trans rfl, (cell_of_block h.box 3).trans rfl, fun j => free_of_block h.box j⟩

set_option maxRecDepth 100000 in
set_option maxHeartbeats 2000000 in
theorem put_any (X : Cx) (hx : X.ok) (cur : Nat) (s : Cl) (w : World) (h : CW X cur s w) (hh : s.here < s.ps.length) (ho : opn X cur s.here) (hs : cntS s.ps ≤ 1000000000) (i : PI) (hi : XF X i) :
    Calls Try.prog 49 #[.pointer (some ⟨X.C, 0, none⟩), i.v] w fun e w' => e = .returned (.tuple #[]) ∧ CW X cur (s.put (zI i)) w' := by
  obtain ⟨i0, hi0, hz0, hz1, hz2⟩ := info_inst
  have HT := hideIt (And.intro hi0 (And.intro hz0 (And.intro hz1 hz2)))
  clear hi0 hz0 hz1 hz2
  obtain ⟨L, pa, pc, hm⟩ := h
  obtain ⟨P, rfl, hPb, hPf, hPs, hPlo⟩ := hm.par hx
  obtain ⟨p, hk⟩ := hm.get hh
  have hll : L.length = s.ps.length := by rw [← hm.z]; simp
  have hpl : p.ins.length + 1 ≤ cntS s.ps := by
    have := ins_le (hm.at_z hk)
    simpa [zP] using this
  have hlc := len_cnt s.ps
  obtain ⟨X0, hX0⟩ : ∃ X0, w.alloc (.cells #[.int .u8 i.op, .int .u8 i.ty, .int .i64 i.dst, .int .i64 i.a, .int .i64 i.b, .int .i64 i.imm, .slice i.aa i.args.length i.ac] 41) = X0 := ⟨_, rfl⟩
  have q0 : Q w X0 := by rw [← hX0]; exact (Q.refl w).alloc _
  have bx : X0.heap[w.heap.size]? = some (.cells #[.int .u8 i.op, .int .u8 i.ty, .int .i64 i.dst, .int .i64 i.a, .int .i64 i.b, .int .i64 i.imm, .slice i.aa i.args.length i.ac] 41 (0, 0)) := by rw [← hX0]; exact heap_alloc_new w _
  have HX0 := hideIt hX0
  have HM0 := hideIt (hm.q hx q0)
  have HBX := hideIt bx
  have HK := hideIt hk
  obtain ⟨c0, -, -, c3, -⟩ := (hm.q hx q0).c3
  have f3 := (hm.q hx q0).f3
  have hl1 : (s.here : Int) < (L.length : Int) := by omega
  have HN := hideIt (show p.ins.length + 1 ≤ maxLen by unfold maxLen; omega)
  have HN2 := hideIt (show (p.ins.length + 1) * 64 ≤ 140737488355328 by omega)
  have hpm : L.length ≤ 9223372036854775807 := by omega
  clear hm hk hX0 q0 bx hll hh hs hlc hpl
  generalize hC : X.C = C at *
  go_enter Try.func49, Try.ntmps49
  go_wp2_with (fail)
  rw [show w.alloc (.cells #[.int .u8 i.op, .int .u8 i.ty, .int .i64 i.dst, .int .i64 i.a, .int .i64 i.b, .int .i64 i.imm, .slice i.aa i.args.length i.ac] 41) = X0 from HX0.out]
  go_quiet (fail)
  go_wp2_with (fail)
  generalize hX1 : X0.drewN nq = X1 at *
  have q1 : Q X0 X1 := by rw [← hX1]; exact (Q.refl X0).drewN _
  have HM1 := hideIt (HM0.out.q hx q1)
  have hb1 := heap_keep q1 HBX.out
  have b0 : X1.cell? ⟨w.heap.size, 0, none⟩ = some (.int .u8 i.op) := (cell_of_block hb1 0).trans rfl
  have b1 : X1.cell? ⟨w.heap.size, 1, none⟩ = some (.int .u8 i.ty) := (cell_of_block hb1 1).trans rfl
  have b2 : X1.cell? ⟨w.heap.size, 2, none⟩ = some (.int .i64 i.dst) := (cell_of_block hb1 2).trans rfl
  have b3 : X1.cell? ⟨w.heap.size, 3, none⟩ = some (.int .i64 i.a) := (cell_of_block hb1 3).trans rfl
  have b4 : X1.cell? ⟨w.heap.size, 4, none⟩ = some (.int .i64 i.b) := (cell_of_block hb1 4).trans rfl
  have b5 : X1.cell? ⟨w.heap.size, 5, none⟩ = some (.int .i64 i.imm) := (cell_of_block hb1 5).trans rfl
  have b6 : X1.cell? ⟨w.heap.size, 6, none⟩ = some (.slice i.aa i.args.length i.ac) := (cell_of_block hb1 6).trans rfl
  have d0 : X1.cell? ⟨P, s.here * 5, none⟩ = some (.slice p.ia p.ins.length p.ic) := (HM1.out.cells rfl HK.out).1.cell 0 _ rfl
  have d0' := fun ob => cell_keep ((Q.refl X1).alloc ob) d0
  have AF : Hid (∀ Y : World, Y.heap = (X1.alloc (.cells #[.int .u8 i.op, .int .u8 i.ty, .int .i64 i.dst, .int .i64 i.a, .int .i64 i.b, .int .i64 i.imm, .slice i.aa i.args.length i.ac] 41)).heap → Y.os = X1.os → Y.tape = X1.tape → Y.output = X1.output → MW X cur s Y L (some ⟨P, 0, none⟩) pc ∧ (∀ j u, i.cells[j]? = some u → Y.cell? ((⟨X1.heap.size, 0, none⟩ : Addr).add j) = some u) ∧ C + 1 ≤ Y.heap.size ∧ Y.heap.size = X1.heap.size + 1) := fun Y y0 y1 y2 y3 => by
    have e := heap_alloc_new X1 (.cells #[.int .u8 i.op, .int .u8 i.ty, .int .i64 i.dst, .int .i64 i.a, .int .i64 i.b, .int .i64 i.imm, .slice i.aa i.args.length i.ac] 41)
    have hs : Y.heap.size = X1.heap.size + 1 := by rw [y0]; simp
    have q : Q X1 Y := ⟨y1, y2, y3, by omega, fun k hk => by rw [y0]; exact heap_alloc_old X1 _ hk⟩
    have hb' : Y.heap[X1.heap.size]? = some (.cells (i.cells.toArray) 41 (0, 0)) := by rw [y0]; exact e
    refine ⟨HM1.out.q hx q, World.news_of_block hb', ?_, hs⟩
    have := (Array.getElem?_eq_some_iff.1 HM1.out.box).1
    rw [← hC]
    omega
  have AR : Hid (∀ Y : World, Y.heap = (X1.alloc (.cells #[.int .u8 i.op, .int .u8 i.ty, .int .i64 i.dst, .int .i64 i.a, .int .i64 i.b, .int .i64 i.imm, .slice i.aa i.args.length i.ac] 41)).heap → Y.os = X1.os → Y.tape = X1.tape → Y.output = X1.output → Y.ownsRow (C + 1) 41 7 (.slice p.ia p.ins.length p.ic) p.ins.length (p.ins.flatMap PI.cells)) := fun Y y0 y1 y2 y3 => by
    rw [← hC]
    exact ((AF.out Y y0 y1 y2 y3).1.rows _ p HK.out ho).own
  have NX : Hid (∀ (Y w1 : World) (g cap : Nat), Y.grownBy w1 (Value.slice p.ia p.ins.length p.ic).ownBlock → Y.heap = (X1.alloc (.cells #[.int .u8 i.op, .int .u8 i.ty, .int .i64 i.dst, .int .i64 i.a, .int .i64 i.b, .int .i64 i.imm, .slice i.aa i.args.length i.ac] 41)).heap → Y.os = X1.os → Y.tape = X1.tape → Y.output = X1.output → w1.ownsRow (C + 1) 41 7 (.slice (some ⟨g, 0, none⟩) (p.ins.length + 1) cap) (p.ins.length + 1) (p.ins.flatMap PI.cells ++ i.cells) → ((Value.slice p.ia p.ins.length p.ic).ownBlock = some g ∨ g = X1.heap.size + 1) → (w1.cell? ⟨P, s.here * 5, none⟩ = some (.slice p.ia p.ins.length p.ic) ∧ w1.frozen? ⟨P, s.here * 5, none⟩ = false) ∧ CW X cur (s.put (zI i)) (w1.setCell ⟨P, s.here * 5, none⟩ (.slice (some ⟨g, 0, none⟩) (p.ins.length + 1) cap))) := fun Y w1 g cap hg y0 y1 y2 y3 hr hat => by
    obtain ⟨m1, -, -, m4⟩ := AF.out Y y0 y1 y2 y3
    rw [← hC] at hr
    exact m1.put hx rfl HK.out ho hi hg hr (hat.imp id (fun q => by omega))
  have H1 := hideIt (cells_one i)
  go_region_law (refine step_append_lies _ (by rfl) _ _ 37 (by rfl) (C + 1) 41 i0 (.agg #[.int .u8 0, .int .u8 0, .int .i64 0, .int .i64 0, .int .i64 0, .int .i64 0, .slice none 0 0]) 7 64 Try.underlying37 HT.out.1 HT.out.2.1 HT.out.2.2.1 HT.out.2.2.2 rfl (by decide) (.slice p.ia p.ins.length p.ic) p.ins.length (p.ins.flatMap PI.cells) (by rfl) (AR.out _ rfl rfl rfl rfl) ⟨X1.heap.size, 0, none⟩ 1 1 i.cells (by rfl) rfl (AF.out _ rfl rfl rfl rfl).2.1 H1.out (by decide) HN.out HN2.out (AF.out _ rfl rfl rfl rfl).2.2.1 (X1.heap.size + 1) (AF.out _ rfl rfl rfl rfl).2.2.2 ?_; intro g cap w1 hown hgrow hat hlt; obtain ⟨⟨t1, t2⟩, t3⟩ := NX.out _ w1 g cap hgrow rfl rfl rfl rfl hown hat; have H3 := hideIt t3; clear hown hgrow hat t3)
  all_goals go_wp2_with (fail)
  all_goals go_end0
  all_goals exact ⟨rfl, H3.out⟩

set_option maxRecDepth 100000 in
set_option maxHeartbeats 2000000 in
theorem goOn_any (X : Cx) (hx : X.ok) (cur : Nat) (s : Cl) (w : World) (h : CW X cur s w) (hh : s.here < s.ps.length) (ho : opn X cur s.here) (hs : cntS s.ps ≤ 1000000000) (e : PP) (he : I64 e.cond ∧ I64 e.next ∧ I64 e.els) (a : Option Addr) (n c : Nat) :
    Calls Try.prog 68 #[.pointer (some ⟨X.C, 0, none⟩), .agg #[.slice a n c, .bool e.e, .int .i64 e.cond, .int .i64 e.next, .int .i64 e.els]] w fun r w' => r = .returned (.tuple #[]) ∧ CW X cur (s.goOn e) w' := by
  obtain ⟨L, pa, pc, hm⟩ := h
  obtain ⟨P, rfl, hPb, hPf, hPs, hPlo⟩ := hm.par hx
  obtain ⟨p, hk⟩ := hm.get hh
  have hll : L.length = s.ps.length := by rw [← hm.z]; simp
  have hlc := len_cnt s.ps
  obtain ⟨X0, hX0⟩ : ∃ X0, w.alloc (.cells #[.slice a n c, .bool e.e, .int .i64 e.cond, .int .i64 e.next, .int .i64 e.els] 39) = X0 := ⟨_, rfl⟩
  have q0 : Q w X0 := by rw [← hX0]; exact (Q.refl w).alloc _
  have bx : X0.heap[w.heap.size]? = some (.cells #[.slice a n c, .bool e.e, .int .i64 e.cond, .int .i64 e.next, .int .i64 e.els] 39 (0, 0)) := by rw [← hX0]; exact heap_alloc_new w _
  have HX0 := hideIt hX0
  have HM0 := hideIt (hm.q hx q0)
  have HW := hideIt hm
  have HBX := hideIt bx
  have HK := hideIt hk
  have hl1 : (s.here : Int) < (L.length : Int) := by omega
  have hpm : L.length ≤ 9223372036854775807 := by omega
  obtain ⟨c0, -, -, c3, -⟩ := (hm.q hx q0).c3
  have f3 := (hm.q hx q0).f3
  have d0 : X0.cell? ⟨P, s.here * 5, none⟩ = some (.slice p.ia p.ins.length p.ic) := (HM0.out.cells rfl HK.out).1.cell 0 _ rfl
  have b0 : X0.cell? ⟨w.heap.size, 0, none⟩ = some (.slice a n c) := (cell_of_block HBX.out 0).trans rfl
  have bf : X0.frozen? ⟨w.heap.size, 0, none⟩ = false := free_of_block HBX.out 0
  clear hm hk hX0 q0 bx hll hh hs hlc
  generalize hC : X.C = C at *
  go_enter Try.func68, Try.ntmps68
  go_wp2_with (fail)
  rw [show w.alloc (.cells #[.slice a n c, .bool e.e, .int .i64 e.cond, .int .i64 e.next, .int .i64 e.els] 39) = X0 from HX0.out]
  go_region
  have Q1 : Hid (Q w (X0.setCell ⟨w.heap.size, 0, none⟩ (.slice p.ia p.ins.length p.ic)).drew) := by
    show Q w _
    rw [← HX0.out]
    exact ((((Q.refl w).alloc _).set (p := ⟨w.heap.size, 0, none⟩) (Nat.le_refl _) _).drew)
  have hb1 : ((X0.setCell ⟨w.heap.size, 0, none⟩ (.slice p.ia p.ins.length p.ic)).drew).heap[w.heap.size]? = some (.cells #[.slice p.ia p.ins.length p.ic, .bool e.e, .int .i64 e.cond, .int .i64 e.next, .int .i64 e.els] 39 (0, 0)) := (block_setCell HBX.out _).trans (by simp)
  generalize hX1 : (X0.setCell ⟨w.heap.size, 0, none⟩ (.slice p.ia p.ins.length p.ic)).drew = X1 at *
  have HM1 := hideIt (HW.out.q hx Q1.out)
  clear c0 c3 f3 d0 b0 bf hX1
  obtain ⟨c0, -, -, c3, -⟩ := HM1.out.c3
  rw [hC] at c0 c3
  have f3 := HM1.out.f3
  have b0 : X1.cell? ⟨w.heap.size, 0, none⟩ = some (.slice p.ia p.ins.length p.ic) := (cell_of_block hb1 0).trans rfl
  have b1 : X1.cell? ⟨w.heap.size, 1, none⟩ = some (.bool e.e) := (cell_of_block hb1 1).trans rfl
  have b2 : X1.cell? ⟨w.heap.size, 2, none⟩ = some (.int .i64 e.cond) := (cell_of_block hb1 2).trans rfl
  have b3 : X1.cell? ⟨w.heap.size, 3, none⟩ = some (.int .i64 e.next) := (cell_of_block hb1 3).trans rfl
  have b4 : X1.cell? ⟨w.heap.size, 4, none⟩ = some (.int .i64 e.els) := (cell_of_block hb1 4).trans rfl
  obtain ⟨hc, hz⟩ := HM1.out.cells rfl HK.out
  obtain ⟨d0, d1, d2, d3, d4⟩ := hc.five
  have z0 := hz (s.here * 5)
  have z1 := hz (s.here * 5 + 1)
  have z2 := hz (s.here * 5 + 2)
  have z3 := hz (s.here * 5 + 3)
  have z4 := hz (s.here * 5 + 4)
  clear hb1 hc hz
  go_wp2_with (fail)
  go_region
  go_wp2_with (fail)
  go_end0
  exact ⟨rfl, CW.q (HM1.out.go hx rfl HK.out ho e he) hx (Q.refl _).drew⟩

end Go.Proofs.Ytnaflfpkkbfnfaa.In
