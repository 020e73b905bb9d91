/-
  An instruction of a run (the step; what looks at registers alone): contracts over the program; the conditions: a run lies there, the call is open, and the instruction is right.
  An instruction of a run (what looks at registers alone, with a trap): contracts over the program; the conditions: a run lies there, the call is open, and the instruction is right.
-/
import Derived.Test.YtaomkfhbnakbjaaKRmI
namespace Go.Proofs.Ytaomkfhbnakbjaa
open Go.RowKit
set_option linter.unusedVariables false

abbrev bxE (w : World) : World := w.alloc (.cells #[.int .u8 0, .bool false] 105)
abbrev insArg (R Cb ib io : Nat) : Array Value := #[.pointer (some ⟨R, 0, none⟩), .pointer (some ⟨Cb, 0, none⟩), .pointer (some ⟨ib, io, none⟩)]

/-- What an instruction of function k, whose call is open, begins with. -/
structure IA (w w0 : World) (R p gb gc : Nat) (col : Col) (c : PC) (fuel : Nat) (s : St) (A : List Int) (G : GG) (k : Nat) (f : PF) (ρ : Rg) (Cb fb fo first : Nat) : Prop where
  ri : RI w w0 R p gb gc col c fuel s A G
  hf : fuel ≤ 8388608
  hk : c.fns[k]? = some f
  op : opn f ρ (G k)
  id : idles c k G
  cb : CB w Cb gb k fb fo first
  cc : col Cb = none
  hfi : first ≤ s.bs.length
  rg : f.regs ≤ 20000
theorem IA.lt {w w0 : World} {R p gb gc : Nat} {col : Col} {c : PC} {fuel : Nat} {s : St} {A : List Int} {G : GG} {k : Nat} {f : PF} {ρ : Rg} {Cb fb fo first : Nat} (h : IA w w0 R p gb gc col c fuel s A G k f ρ Cb fb fo first) : k < c.fns.length := (List.getElem?_eq_some_iff.1 h.hk).1

set_option maxRecDepth 100000 in
set_option maxHeartbeats 1000000 in
theorem inst_spent {w w0 : World} {R p gb gc : Nat} {col : Col} {c : PC} {fuel : Nat} {s : St} {A : List Int} {G : GG} {k : Nat} {f : PF} {ρ : Rg} {Cb fb fo first : Nat} (h : IA w w0 R p gb gc col c fuel s A G k f ρ Cb fb fo first) (ib io : Nat) (hs : s.n = fuel) :
    Calls Try.prog 104 (insArg R Cb ib io) w fun e w' => e = .returned (.agg #[.int .u8 0, .bool true]) ∧ ∃ col' A' G' s'', RI w' w0 R p gb gc col' c fuel s'' A' G' ∧ Ex col w col' w' ∧ (∀ j, k < j → G' j = G j) ∧ s''.n = s.n ∧ s''.tr = s.tr ∧ s.bs.length ≤ s''.bs.length := by
  have hst := step_ri (h.ri.alloc (.cells #[.int .u8 0, .bool false] 105)) h.hf
  simp only [hs, if_true, not_true_eq_false, decide_false] at hst
  have HS := hideIt hst
  have HO := hideIt (h.ri.none (Nat.le_refl _))
  have HB := hideIt h.ri.lew
  clear h hst hs
  go_enter Try.func104, Try.ntmps104
  go_wp2_with (first | (go_at_call 105; refine HS.out.mono ?_; rintro e y ⟨rfl, hr, hx, -⟩; have HR := hideIt hr; have HX := hideIt hx; have b0 := Ex.blk hx HO.out (heap_alloc_new w _); have o0 := Me.cell_of_block b0 0; have o1 := Me.cell_of_block b0 1; have g0 := Me.free_of_block b0 0; have g1 := Me.free_of_block b0 1; clear hr hx b0) | fail)
  exact bodyPost_ret (v := .agg #[.int .u8 0, .bool true]) (by simp [results, Try.results104, go_sem, o0, o1]) rfl ⟨rfl, col, A, G, s, (HR.out.other HO.out HB.out _ _).other HO.out HB.out _ _, ((((Ex.refl col w).alloc _).trans HX.out).set (Or.inr (Nat.le_refl _)) _).set (Or.inr (Nat.le_refl _)) _, fun _ _ => rfl, rfl, rfl, Nat.le_refl _⟩

/-- Behind the step and the second box: what the rest of an instruction begins with. -/
structure IB (w Y w0 : World) (R p gb gc : Nat) (col : Col) (c : PC) (fuel : Nat) (s : St) (A : List Int) (G : GG) (Cb gk fb fo first ib io O1 O2 : Nat) (x : PI) : Prop where
  ri : RI Y w0 R p gb gc col c fuel s.up A G
  me : MemOk Y w0.heap.size p col s.n s.bs s.f
  ex : Ex col w col Y
  n1 : col O1 = none
  n2 : col O2 = none
  l1 : w.heap.size ≤ O1
  l2 : w.heap.size ≤ O2
  b1 : Y.heap[O1]? = some (.cells #[.int .u8 0, .bool false] 105 (0, 0))
  b2 : Y.heap[O2]? = some (.cells #[.int .u8 0, .bool false] 105 (0, 0))
  ne : O1 ≠ O2
  cb : CB Y Cb gb gk fb fo first
  at' : At Y ib io x.cells
  lw : w0.heap.size ≤ w.heap.size
theorem ib_mk {w w0 : World} {R p gb gc : Nat} {col : Col} {c : PC} {fuel : Nat} {s : St} {A : List Int} {G : GG} {k : Nat} {f : PF} {ρ : Rg} {Cb fb fo first : Nat} (h : IA w w0 R p gb gc col c fuel s A G k f ρ Cb fb fo first) {ib io : Nat} {x : PI} (hx : At w0 ib io x.cells) {y : World} (hr : RI y w0 R p gb gc col c fuel s.up A G) (he : Ex col (bxE w) col y) (hm : MemOk y w0.heap.size p col s.n s.bs s.f) :
    IB w (bxE y) w0 R p gb gc col c fuel s A G Cb k fb fo first ib io w.heap.size y.heap.size x := by
  have hw : Ex col w col y := ((Ex.refl col w).alloc _).trans he
  have h1 : col w.heap.size = none := h.ri.none (Nat.le_refl _)
  have hys : w.heap.size + 1 ≤ y.heap.size := by have := he.size; simpa using this
  have hq : Q y (bxE y) := (Q.refl y).alloc _
  refine ⟨hr.alloc _, hm.keep (Nat.le_refl _) (fun b hb _ => hq.block b hb) hq.size (fun _ _ => rfl), hw.alloc _, h1, hr.none (Nat.le_refl _), Nat.le_refl _, by omega, ?_, heap_alloc_new y _, by omega, (h.cb.ex h.cc hw).keep hq, hx.low (hr.alloc (.cells #[.int .u8 0, .bool false] 105)).bel, h.ri.lew⟩
  exact (heap_alloc_old y _ (by omega)).trans (Ex.blk he h1 (heap_alloc_new w _))

set_option maxRecDepth 100000 in
set_option maxHeartbeats 2000000 in
theorem inst_reck {w w0 : World} {R p gb gc : Nat} {col : Col} {c : PC} {fuel : Nat} {s : St} {A : List Int} {G : GG} {k : Nat} {f : PF} {ρ : Rg} {Cb fb fo first : Nat} (h : IA w w0 R p gb gc col c fuel s A G k f ρ Cb fb fo first) (ib io : Nat) (x : PI) (hx : At w0 ib io x.cells) (ht : 0 ≤ x.ty) (hfl : f.slots.length ≤ 65536) (hgl : c.gl.length ≤ 65536) (hins : insP c k f x = true) (hop : x.op < 30) (hs : ¬ s.n = fuel) (r1 r2 : Int) (e1 : reck1 first ρ x = r1) (e2 : reck2 ρ x = r2) (hz : r2 = 0) :
    Calls Try.prog 104 (insArg R Cb ib io) w fun e w' => InsPost w w0 R p gb gc col c fuel s G k f (.ok (setR ρ x.dst.toNat r1) s.up) e w' := by
  have hst := step_ri (h.ri.alloc (.cells #[.int .u8 0, .bool false] 105)) h.hf
  simp only [hs, if_false, not_false_eq_true, decide_true] at hst
  have HS := hideIt hst
  have IM := hideIt (fun (y : World) => ib_mk (y := y) h hx)
  have hb1 := (MemOk.bd h.ri).1
  have hsum := h.ri.sum
  have hone := len_sum s.bs h.ri.one
  have hfi := h.hfi
  have RK := hideIt (fun (Y : World) (O2 : Nat) (hy : IB w Y w0 R p gb gc col c fuel s A G Cb k fb fo first ib io w.heap.size O2 x) => reckon_ri hy.ri h.lt h.op.1 hy.cb (by omega) hy.at' ht hfl hgl hins hop)
  rw [e1, e2, hz] at RK
  have hdst : 0 ≤ x.dst ∧ x.dst < 20000 := by
    have hwr : wrP x.op = true := by
      unfold insP at hins
      simp only [Bool.and_eq_true] at hins
      unfold wrP
      rw [hins.1]
      simp
      omega
    unfold insP wtP at hins
    simp [hwr, blP] at hins
    have := h.rg
    omega
  have SC := hideIt (fun (W : World) (hW : RI W w0 R p gb gc col c fuel s.up A G) => set_ri hW h.lt x.dst.toNat (by omega) r1 (by show (G k).2.length + 1 ≤ s.n + 1; have := (h.ri.gw k h.lt).2.2; omega) h.hf)
  rw [show ((x.dst.toNat : Nat) : Int) = x.dst by omega] at SC
  have FI := hideIt (fun (u : World) (col' : Col) (H' W' : List Int) (a1 : RI u w0 R p gb gc col' c fuel s.up A (updG G k H' W')) (a2 : Ex col w col' u) (a3 : ∀ m, regAt H' m = if m = x.dst.toNat then r1 else regAt (G k).1 m) (a4 : ∀ m ∈ (G k).2, m ∈ W') (a5 : ∀ m, regAt H' m ≠ 0 → regAt (G k).1 m ≠ 0 ∨ (m : Int) ∈ W') => (show InsPost w w0 R p gb gc col c fuel s G k f (.ok (setR ρ x.dst.toNat r1) s.up) (.returned (.agg #[.int .u8 0, .bool false])) u from
    ⟨rfl, col', A, _, a1, a2, by rw [updG_at]; exact opn_set h.op a3 a4 a5, idles_upd h.id H' W', fun j hj => updG_gt H' W' hj, rfl⟩))
  have FC := hideIt (fun (Z : World) (col' : Col) (hZ : Ex col w col' Z) => h.cb.ex h.cc hZ)
  have FA := hideIt (fun (Z : World) (hb : Below w0.heap.size w0 Z) => (hx.low hb).seven)
  have n33 : (x.op == 33) = false := by simp; omega
  have n31 : (x.op == 31) = false := by simp; omega
  have n30 : (x.op == 30) = false := by simp; omega
  have n32 : (x.op == 32) = false := by simp; omega
  generalize hN : w.heap.size = O1 at *
  generalize hdn : x.dst.toNat = dn at *
  clear hst h hx hins hop hs hb1 hsum hone hfi hdst e1 e2 hz hdn
  go_enter Try.func104, Try.ntmps104
  go_wp2_with (first
    | (go_at_call 105; refine HS.out.mono ?_; rintro e y ⟨rfl, hr, hx, hm⟩; have HI := hideIt (IM.out y hr hx hm); generalize hO2 : y.heap.size = O2 at *; obtain ⟨i0, -, i2, -, -, -, -⟩ := HI.out.at'.seven; clear hr hx hm)
    | (go_at_call 122; refine (RK.out _ _ HI.out).mono ?_; rintro e z ⟨rfl, hq⟩; have HZ := hideIt (show RI z w0 R p gb gc col c fuel s.up A G ∧ Ex col w col z from ⟨HI.out.ri.keep hq, HI.out.ex.trans (Ex.q hq)⟩); have zb := hq.block O2 (Array.getElem?_eq_some_iff.1 HI.out.b2).1; rw [HI.out.b2] at zb; have z0 := Me.cell_of_block zb 0; have z1 := Me.cell_of_block zb 1; have zf := Me.free_of_block zb 0; have zc := cell_keep hq HI.out.cb.c0; have zd := cell_keep hq i2; have B1 := hideIt ((hq.block O1 (Array.getElem?_eq_some_iff.1 HI.out.b1).1).trans HI.out.b1); have B2 := hideIt zb; clear hq zb)
    | fail)
  have hZr := HZ.out.1.other HI.out.n2 (Nat.le_trans HI.out.lw HI.out.l2) 0 (.int .u8 0)
  have hZe := HZ.out.2.set (p := ⟨O2, 0, none⟩) (Or.inr HI.out.l2) (.int .u8 0)
  have hZ1 := (Below.heap_setCell z ⟨O2, 0, none⟩ (.int .u8 0) O1 HI.out.ne).trans B1.out
  have hZ2 := heap_setCell_same z O2 0 _ _ (.int .u8 0) B2.out
  generalize z.setCell ⟨O2, 0, none⟩ (.int .u8 0) = Z at *
  have y0 := (FC.out Z col hZe).c0
  obtain ⟨-, -, y2, -⟩ := FA.out Z hZr.bel
  have SZ := hideIt (SC.out Z.drew (hZr.keep (Q.refl Z).drew))
  have HE := hideIt hZe
  have H1 := hideIt hZ1
  have H2 := hideIt hZ2
  clear z0 z1 zf zc zd hZr hZe hZ1 hZ2 i0 i2
  first | go_region_with (first | (go_at_call 123; refine SZ.out.mono ?_; rintro e u ⟨rfl, col', H', W', a1, a2, a3, a4, a5⟩; have b1 := Ex.blk a2 HI.out.n1 (o := .cells #[.int .u8 0, .bool false] 105 (0, 0)) H1.out; have b2 := Ex.blk a2 HI.out.n2 (o := .cells #[.int .u8 0, .bool false] 105 (0, 0)) H2.out; have u0 := Me.cell_of_block b2 0; have u1 := Me.cell_of_block b2 1; have v0 := Me.cell_of_block b1 0; have v1 := Me.cell_of_block b1 1; have v2 := Me.free_of_block b1 0; have v3 := Me.free_of_block b1 1; have HU := hideIt (And.intro a1 (And.intro (HE.out.trans ((Ex.q (Q.refl Z).drew).trans a2)) (And.intro a3 (And.intro a4 (And.intro a5 a2))))); clear a1 a2 a3 a4 a5 b1 b2)) | fail
  all_goals go_wp2_with (fail)
  all_goals obtain ⟨a1, a2, a3, a4, a5, a6⟩ := HU.out
  all_goals have hcn : col' O1 = none := (a6.col O1 (Array.getElem?_eq_some_iff.1 H1.out).1).trans HI.out.n1
  all_goals exact bodyPost_ret (v := .agg #[.int .u8 0, .bool false]) (by simp [results, Try.results104, go_sem, v0, v1]) rfl (FI.out _ col' H' W' ((a1.other hcn (Nat.le_trans HI.out.lw HI.out.l1) _ _).other hcn (Nat.le_trans HI.out.lw HI.out.l1) _ _) ((a2.set (Or.inr HI.out.l1) _).set (Or.inr HI.out.l1) _) a3 a4 a5)

end Go.Proofs.Ytaomkfhbnakbjaa

namespace Go.Proofs.Ytaomkfhbnakbjaa
open Go.RowKit
set_option linter.unusedVariables false

set_option maxRecDepth 100000 in
set_option maxHeartbeats 2000000 in
theorem inst_trap {w w0 : World} {R p gb gc : Nat} {col : Col} {c : PC} {fuel : Nat} {s : St} {A : List Int} {G : GG} {k : Nat} {f : PF} {ρ : Rg} {Cb fb fo first : Nat} (h : IA w w0 R p gb gc col c fuel s A G k f ρ Cb fb fo first) (ib io : Nat) (x : PI) (hx : At w0 ib io x.cells) (ht : 0 ≤ x.ty) (hfl : f.slots.length ≤ 65536) (hgl : c.gl.length ≤ 65536) (hins : insP c k f x = true) (hop : x.op < 30) (hs : ¬ s.n = fuel) (r1 r2 : Int) (e1 : reck1 first ρ x = r1) (e2 : reck2 ρ x = r2) (hz : ¬ r2 = 0) :
    Calls Try.prog 104 (insArg R Cb ib io) w fun e w' => InsPost w w0 R p gb gc col c fuel s G k f (.over r2 false s.up) e w' := by
  have hst := step_ri (h.ri.alloc (.cells #[.int .u8 0, .bool false] 105)) h.hf
  simp only [hs, if_false, not_false_eq_true, decide_true] at hst
  have HS := hideIt hst
  have IM := hideIt (fun (y : World) => ib_mk (y := y) h hx)
  have hb1 := (MemOk.bd h.ri).1
  have hsum := h.ri.sum
  have hone := len_sum s.bs h.ri.one
  have hfi := h.hfi
  have RK := hideIt (fun (Y : World) (O2 : Nat) (hy : IB w Y w0 R p gb gc col c fuel s A G Cb k fb fo first ib io w.heap.size O2 x) => reckon_ri hy.ri h.lt h.op.1 hy.cb (by omega) hy.at' ht hfl hgl hins hop)
  rw [e1, e2] at RK
  have hdst : 0 ≤ x.dst ∧ x.dst < 20000 := by
    have hwr : wrP x.op = true := by
      unfold insP at hins
      simp only [Bool.and_eq_true] at hins
      unfold wrP
      rw [hins.1]
      simp
      omega
    unfold insP wtP at hins
    simp [hwr, blP] at hins
    have := h.rg
    omega
  have FO := hideIt (fun (u : World) (a1 : RI u w0 R p gb gc col c fuel s.up A G) (a2 : Ex col w col u) => (show InsPost w w0 R p gb gc col c fuel s G k f (.over r2 false s.up) (.returned (.agg #[.int .u8 r2, .bool false])) u from
    ⟨rfl, Or.inl hz, col, A, G, s.up, a1, a2, fun _ _ => rfl, rfl, rfl, Nat.le_refl _⟩))
  have m1 : (r2 == 0) = false := by simpa using hz
  have m2 : decide (r2 = 0) = false := by simpa using hz
  have FC := hideIt (fun (Z : World) (col' : Col) (hZ : Ex col w col' Z) => h.cb.ex h.cc hZ)
  have FA := hideIt (fun (Z : World) (hb : Below w0.heap.size w0 Z) => (hx.low hb).seven)
  have n33 : (x.op == 33) = false := by simp; omega
  have n31 : (x.op == 31) = false := by simp; omega
  have n30 : (x.op == 30) = false := by simp; omega
  have n32 : (x.op == 32) = false := by simp; omega
  generalize hN : w.heap.size = O1 at *
  clear hst h hx hins hop hs hb1 hsum hone hfi hdst e1 e2 hz
  go_enter Try.func104, Try.ntmps104
  go_wp2_with (first
    | (go_at_call 105; refine HS.out.mono ?_; rintro e y ⟨rfl, hr, hx, hm⟩; have HI := hideIt (IM.out y hr hx hm); generalize hO2 : y.heap.size = O2 at *; obtain ⟨i0, -, i2, -, -, -, -⟩ := HI.out.at'.seven; clear hr hx hm)
    | (go_at_call 122; refine (RK.out _ _ HI.out).mono ?_; rintro e z ⟨rfl, hq⟩; have HZ := hideIt (show RI z w0 R p gb gc col c fuel s.up A G ∧ Ex col w col z from ⟨HI.out.ri.keep hq, HI.out.ex.trans (Ex.q hq)⟩); have zb := hq.block O2 (Array.getElem?_eq_some_iff.1 HI.out.b2).1; rw [HI.out.b2] at zb; have z0 := Me.cell_of_block zb 0; have z1 := Me.cell_of_block zb 1; have zf := Me.free_of_block zb 0; have zc := cell_keep hq HI.out.cb.c0; have zd := cell_keep hq i2; have B1 := hideIt ((hq.block O1 (Array.getElem?_eq_some_iff.1 HI.out.b1).1).trans HI.out.b1); have B2 := hideIt zb; have d1 := B1.out; have w0' := Me.cell_of_block d1 0; have w1' := Me.cell_of_block d1 1; have w2' := Me.free_of_block d1 0; have w3' := Me.free_of_block d1 1; have ne := HI.out.ne; have ne' : ¬ O2 = O1 := fun q => ne q.symm; clear hq zb d1)
    | fail)
  have hZr := HZ.out.1.other HI.out.n2 (Nat.le_trans HI.out.lw HI.out.l2) 0 (.int .u8 r2)
  have hZe := HZ.out.2.set (p := ⟨O2, 0, none⟩) (Or.inr HI.out.l2) (.int .u8 r2)
  have hZ1 := (Below.heap_setCell z ⟨O2, 0, none⟩ (.int .u8 r2) O1 HI.out.ne).trans B1.out
  have v0 := Me.cell_of_block hZ1 0
  have v1 := Me.cell_of_block hZ1 1
  exact bodyPost_ret (v := .agg #[.int .u8 r2, .bool false]) (by simp [results, Try.results104, go_sem, v0, v1]) rfl (FO.out _ ((hZr.other HI.out.n1 (Nat.le_trans HI.out.lw HI.out.l1) _ _).other HI.out.n1 (Nat.le_trans HI.out.lw HI.out.l1) _ _) ((hZe.set (Or.inr HI.out.l1) _).set (Or.inr HI.out.l1) _))

end Go.Proofs.Ytaomkfhbnakbjaa
