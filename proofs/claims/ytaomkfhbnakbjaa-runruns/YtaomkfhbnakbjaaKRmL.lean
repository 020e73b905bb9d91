/-
  An instruction of a run (a cell is read): contracts over the program; the conditions: a run lies there, the call is open, and the instruction is right.
-/
import Derived.Test.YtaomkfhbnakbjaaKRmK
namespace Go.Proofs.Ytaomkfhbnakbjaa
open Go.RowKit
set_option linter.unusedVariables false

set_option maxRecDepth 100000 in
set_option maxHeartbeats 2000000 in
theorem inst_load {w w0 : World} {R p gb gc : Nat} {col : Col} {c : PC} {fuel : Nat} {s : St} {A : List Int} {G : GG} {k : Nat} {f : PF} {ρ : Rg} {Cb fb fo first : Nat} (h : IA w w0 R p gb gc col c fuel s A G k f ρ Cb fb fo first) (ib io : Nat) (x : PI) (hx : At w0 ib io x.cells) (hins : insP c k f x = true) (hop : x.op = 30) (hs : ¬ s.n = fuel) (r1 : Int) (hin : Me.inB s.bs (hiA (rg ρ x.a)) (loA (rg ρ x.a)) = true) (e1 : s.f (hiA (rg ρ x.a)) (loA (rg ρ x.a)) = r1) :
    Calls Try.prog 104 (insArg R Cb ib io) w fun e w' => InsPost w w0 R p gb gc col c fuel s G k f (.ok (setR ρ x.dst.toNat r1) s.up) e w' := by
  have hst := step_ri (h.ri.alloc (.cells #[.int .u8 0, .bool false] 105)) h.hf
  simp only [hs, if_false, not_false_eq_true, decide_true] at hst
  have HS := hideIt hst
  have IM := hideIt (fun (y : World) => ib_mk (y := y) h hx)
  have hb1 := (MemOk.bd h.ri).1
  have hsum := h.ri.sum
  have hone := len_sum s.bs h.ri.one
  have hfi := h.hfi
  have ha : 0 ≤ x.a := by
    unfold insP rdsP at hins
    rw [hop] at hins
    simp [blP, show rdP 30 = 1 by decide] at hins
    omega
  have GT := hideIt (fun (W : World) (hW : RI W w0 R p gb gc col c fuel s.up A G) => get_int hW h.lt h.op.1 x.a ha)
  have LD := hideIt (fun (W : World) (hW : RI W w0 R p gb gc col c fuel s.up A G) => load_ri hW (rg ρ x.a))
  rw [show s.up.bs = s.bs from rfl, show s.up.f = s.f from rfl, hin, e1] at LD
  simp only [if_true] at LD
  have hdst : 0 ≤ x.dst ∧ x.dst < 20000 := by
    have hwr : wrP x.op = true := by
      rw [hop]; decide
    unfold insP wtP at hins
    simp [hwr, blP] at hins
    have := h.rg
    omega
  have SC := hideIt (fun (W : World) (hW : RI W w0 R p gb gc col c fuel s.up A G) => set_ri hW h.lt x.dst.toNat (by omega) r1 (by show (G k).2.length + 1 ≤ s.n + 1; have := (h.ri.gw k h.lt).2.2; omega) h.hf)
  rw [show ((x.dst.toNat : Nat) : Int) = x.dst by omega] at SC
  have FI := hideIt (fun (u : World) (col' : Col) (H' W' : List Int) (a1 : RI u w0 R p gb gc col' c fuel s.up A (updG G k H' W')) (a2 : Ex col w col' u) (a3 : ∀ m, regAt H' m = if m = x.dst.toNat then r1 else regAt (G k).1 m) (a4 : ∀ m ∈ (G k).2, m ∈ W') (a5 : ∀ m, regAt H' m ≠ 0 → regAt (G k).1 m ≠ 0 ∨ (m : Int) ∈ W') => (show InsPost w w0 R p gb gc col c fuel s G k f (.ok (setR ρ x.dst.toNat r1) s.up) (.returned (.agg #[.int .u8 0, .bool false])) u from
    ⟨rfl, col', A, _, a1, a2, by rw [updG_at]; exact opn_set h.op a3 a4 a5, idles_upd h.id H' W', fun j hj => updG_gt H' W' hj, rfl⟩))
  have FC := hideIt (fun (Z : World) (col' : Col) (hZ : Ex col w col' Z) => h.cb.ex h.cc hZ)
  have FA := hideIt (fun (Z : World) (hb : Below w0.heap.size w0 Z) => (hx.low hb).seven)
  have n33 : (x.op == 33) = false := by simp; omega
  have n31 : (x.op == 31) = false := by simp; omega
  have n30 : (x.op == 30) = true := by simp; omega
  have n32 : (x.op == 32) = false := by simp; omega
  generalize hN : w.heap.size = O1 at *
  generalize hdn : x.dst.toNat = dn at *
  clear hst h hx hins hop hs hb1 hsum hone hfi hdst hdn e1 hin
  go_enter Try.func104, Try.ntmps104
  go_wp2_with (first
    | (go_at_call 105; refine HS.out.mono ?_; rintro e y ⟨rfl, hr, hx, hm⟩; have HI := hideIt (IM.out y hr hx hm); generalize hO2 : y.heap.size = O2 at *; obtain ⟨i0, -, i2, -, -, -, -⟩ := HI.out.at'.seven; clear hr hx hm)
    | fail)
  obtain ⟨i0, -, i2, i3, -, -, -⟩ := HI.out.at'.seven
  have q0 := HI.out.cb.c0
  dsimp only [bxE] at HI i0 i2 i3 q0
  generalize hYe : y.alloc (.cells #[.int .u8 0, .bool false] 105) = Y at *
  have GY := hideIt (GT.out Y.drew (HI.out.ri.keep (Q.refl Y).drew))
  have LY := hideIt (LD.out Y.drew (HI.out.ri.keep (Q.refl Y).drew))
  clear hYe
  first | go_region_with (first | (go_at_call 106; refine GY.out.mono ?_; rintro e y1 ⟨rfl, rfl⟩) | (go_at_call 120; refine LY.out.mono ?_; rintro e z ⟨rfl, hq⟩; have hq := (Q.refl Y).drew.trans hq; have HZ := hideIt (show RI z w0 R p gb gc col c fuel s.up A G ∧ Ex col w col z from ⟨HI.out.ri.keep hq, HI.out.ex.trans (Ex.q hq)⟩); have zb := hq.block O2 (Array.getElem?_eq_some_iff.1 HI.out.b2).1; rw [HI.out.b2] at zb; have z0 := Me.cell_of_block zb 0; have z1 := Me.cell_of_block zb 1; have zf := Me.free_of_block zb 0; have zc := cell_keep hq HI.out.cb.c0; have zd := cell_keep hq i2; have B1 := hideIt ((hq.block O1 (Array.getElem?_eq_some_iff.1 HI.out.b1).1).trans HI.out.b1); have B2 := hideIt zb; clear hq zb)) | fail
  all_goals go_wp2_with (fail)
  all_goals have hZr := HZ.out.1.other HI.out.n2 (Nat.le_trans HI.out.lw HI.out.l2) 0 (.int .u8 0)
  all_goals have hZe := HZ.out.2.set (p := ⟨O2, 0, none⟩) (Or.inr HI.out.l2) (.int .u8 0)
  all_goals have hZ1 := (Below.heap_setCell z ⟨O2, 0, none⟩ (.int .u8 0) O1 HI.out.ne).trans B1.out
  all_goals have hZ2 := heap_setCell_same z O2 0 _ _ (.int .u8 0) B2.out
  all_goals generalize z.setCell ⟨O2, 0, none⟩ (.int .u8 0) = Z at *
  all_goals have y0 := (FC.out Z col hZe).c0
  all_goals obtain ⟨-, -, y2, -⟩ := FA.out Z hZr.bel
  all_goals have SZ := hideIt (SC.out Z.drew (hZr.keep (Q.refl Z).drew))
  all_goals have HE := hideIt hZe
  all_goals have H1 := hideIt hZ1
  all_goals have H2 := hideIt hZ2
  all_goals clear z0 z1 zf zc zd hZr hZe hZ1 hZ2 i0 i2 i3 q0
  all_goals (first | go_region_with (first | (go_at_call 123; refine SZ.out.mono ?_; rintro e u ⟨rfl, col', H', W', a1, a2, a3, a4, a5⟩; have b1 := Ex.blk a2 HI.out.n1 (o := .cells #[.int .u8 0, .bool false] 105 (0, 0)) H1.out; have b2 := Ex.blk a2 HI.out.n2 (o := .cells #[.int .u8 0, .bool false] 105 (0, 0)) H2.out; have u0 := Me.cell_of_block b2 0; have u1 := Me.cell_of_block b2 1; have v0 := Me.cell_of_block b1 0; have v1 := Me.cell_of_block b1 1; have v2 := Me.free_of_block b1 0; have v3 := Me.free_of_block b1 1; have HU := hideIt (And.intro a1 (And.intro (HE.out.trans ((Ex.q (Q.refl Z).drew).trans a2)) (And.intro a3 (And.intro a4 (And.intro a5 a2))))); clear a1 a2 a3 a4 a5 b1 b2)) | fail)
  all_goals go_wp2_with (fail)
  all_goals obtain ⟨a1, a2, a3, a4, a5, a6⟩ := HU.out
  all_goals have hcn : col' O1 = none := (a6.col O1 (Array.getElem?_eq_some_iff.1 H1.out).1).trans HI.out.n1
  all_goals exact bodyPost_ret (v := .agg #[.int .u8 0, .bool false]) (by simp [results, Try.results104, go_sem, v0, v1]) rfl (FI.out _ col' H' W' ((a1.other hcn (Nat.le_trans HI.out.lw HI.out.l1) _ _).other hcn (Nat.le_trans HI.out.lw HI.out.l1) _ _) ((a2.set (Or.inr HI.out.l1) _).set (Or.inr HI.out.l1) _) a3 a4 a5)


set_option maxRecDepth 100000 in
set_option maxHeartbeats 2000000 in
theorem inst_lost {w w0 : World} {R p gb gc : Nat} {col : Col} {c : PC} {fuel : Nat} {s : St} {A : List Int} {G : GG} {k : Nat} {f : PF} {ρ : Rg} {Cb fb fo first : Nat} (h : IA w w0 R p gb gc col c fuel s A G k f ρ Cb fb fo first) (ib io : Nat) (x : PI) (hx : At w0 ib io x.cells) (hins : insP c k f x = true) (hop : x.op = 30) (hs : ¬ s.n = fuel) (hin : Me.inB s.bs (hiA (rg ρ x.a)) (loA (rg ρ x.a)) = false) :
    Calls Try.prog 104 (insArg R Cb ib io) w fun e w' => InsPost w w0 R p gb gc col c fuel s G k f (.over 5 false s.up) e w' := by
  have hst := step_ri (h.ri.alloc (.cells #[.int .u8 0, .bool false] 105)) h.hf
  simp only [hs, if_false, not_false_eq_true, decide_true] at hst
  have HS := hideIt hst
  have IM := hideIt (fun (y : World) => ib_mk (y := y) h hx)
  have hb1 := (MemOk.bd h.ri).1
  have hsum := h.ri.sum
  have hone := len_sum s.bs h.ri.one
  have hfi := h.hfi
  have ha : 0 ≤ x.a := by
    unfold insP rdsP at hins
    rw [hop] at hins
    simp [blP, show rdP 30 = 1 by decide] at hins
    omega
  have GT := hideIt (fun (W : World) (hW : RI W w0 R p gb gc col c fuel s.up A G) => get_int hW h.lt h.op.1 x.a ha)
  have LD := hideIt (fun (W : World) (hW : RI W w0 R p gb gc col c fuel s.up A G) => load_ri hW (rg ρ x.a))
  rw [show s.up.bs = s.bs from rfl, show s.up.f = s.f from rfl, hin] at LD
  simp only [Bool.false_eq_true, if_false] at LD
  have FO := hideIt (fun (u : World) (a1 : RI u w0 R p gb gc col c fuel s.up A G) (a2 : Ex col w col u) => (show InsPost w w0 R p gb gc col c fuel s G k f (.over 5 false s.up) (.returned (.agg #[.int .u8 5, .bool false])) u from
    ⟨rfl, Or.inl (by decide), col, A, G, s.up, a1, a2, fun _ _ => rfl, rfl, rfl, Nat.le_refl _⟩))
  have FC := hideIt (fun (Z : World) (col' : Col) (hZ : Ex col w col' Z) => h.cb.ex h.cc hZ)
  have FA := hideIt (fun (Z : World) (hb : Below w0.heap.size w0 Z) => (hx.low hb).seven)
  have n33 : (x.op == 33) = false := by simp; omega
  have n31 : (x.op == 31) = false := by simp; omega
  have n30 : (x.op == 30) = true := by simp; omega
  have n32 : (x.op == 32) = false := by simp; omega
  generalize hN : w.heap.size = O1 at *
  clear hst h hx hins hop hs hb1 hsum hone hfi hin
  go_enter Try.func104, Try.ntmps104
  go_wp2_with (first
    | (go_at_call 105; refine HS.out.mono ?_; rintro e y ⟨rfl, hr, hx, hm⟩; have HI := hideIt (IM.out y hr hx hm); generalize hO2 : y.heap.size = O2 at *; obtain ⟨i0, -, i2, -, -, -, -⟩ := HI.out.at'.seven; clear hr hx hm)
    | fail)
  obtain ⟨i0, -, i2, i3, -, -, -⟩ := HI.out.at'.seven
  have q0 := HI.out.cb.c0
  dsimp only [bxE] at HI i0 i2 i3 q0
  generalize hYe : y.alloc (.cells #[.int .u8 0, .bool false] 105) = Y at *
  have GY := hideIt (GT.out Y.drew (HI.out.ri.keep (Q.refl Y).drew))
  have LY := hideIt (LD.out Y.drew (HI.out.ri.keep (Q.refl Y).drew))
  clear hYe
  first | go_region_with (first | (go_at_call 106; refine GY.out.mono ?_; rintro e y1 ⟨rfl, rfl⟩) | (go_at_call 120; refine LY.out.mono ?_; rintro e z ⟨rfl, hq⟩; have hq := (Q.refl Y).drew.trans hq; have HZ := hideIt (show RI z w0 R p gb gc col c fuel s.up A G ∧ Ex col w col z from ⟨HI.out.ri.keep hq, HI.out.ex.trans (Ex.q hq)⟩); have zb := hq.block O2 (Array.getElem?_eq_some_iff.1 HI.out.b2).1; rw [HI.out.b2] at zb; have z0 := Me.cell_of_block zb 0; have z1 := Me.cell_of_block zb 1; have zf := Me.free_of_block zb 0; have zc := cell_keep hq HI.out.cb.c0; have zd := cell_keep hq i2; have B1 := hideIt ((hq.block O1 (Array.getElem?_eq_some_iff.1 HI.out.b1).1).trans HI.out.b1); have B2 := hideIt zb; have d1 := B1.out; have w0' := Me.cell_of_block d1 0; have w1' := Me.cell_of_block d1 1; have w2' := Me.free_of_block d1 0; have w3' := Me.free_of_block d1 1; have ne := HI.out.ne; have ne' : ¬ O2 = O1 := fun q => ne q.symm; clear hq zb d1)) | fail
  all_goals go_wp2_with (fail)
  all_goals have hZr := HZ.out.1.other HI.out.n2 (Nat.le_trans HI.out.lw HI.out.l2) 0 (.int .u8 5)
  all_goals have hZe := HZ.out.2.set (p := ⟨O2, 0, none⟩) (Or.inr HI.out.l2) (.int .u8 5)
  all_goals have hZ1 := (Below.heap_setCell z ⟨O2, 0, none⟩ (.int .u8 5) O1 HI.out.ne).trans B1.out
  all_goals have v0 := Me.cell_of_block hZ1 0
  all_goals have v1 := Me.cell_of_block hZ1 1
  all_goals exact bodyPost_ret (v := .agg #[.int .u8 5, .bool false]) (by simp [results, Try.results104, go_sem, v0, v1]) rfl (FO.out _ ((hZr.other HI.out.n1 (Nat.le_trans HI.out.lw HI.out.l1) _ _).other HI.out.n1 (Nat.le_trans HI.out.lw HI.out.l1) _ _) ((hZe.set (Or.inr HI.out.l1) _).set (Or.inr HI.out.l1) _))

end Go.Proofs.Ytaomkfhbnakbjaa
