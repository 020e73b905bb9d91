/-
  An instruction of a run (what looks at registers alone, with a trap): contracts over the program; the conditions: a run lies there, the call is open, and the instruction is right.
-/
import Derived.Test.YtcpgikgjolomcaaKRmJ
namespace Go.Proofs.Ytcpgikgjolomcaa
open Go.RowKit
set_option linter.unusedVariables false

set_option maxRecDepth 100000 in
set_option maxHeartbeats 2000000 in
theorem inst_trap {w w0 : World} {R p gb gc : Nat} {col : Col} {c : PC} {fuel : Nat} {s : St} {A : List Int} {G : GG} {k : Nat} {f : PF} {ρ : Rg} {Cb fb fo first : Nat} (h : IA w w0 R p gb gc col c fuel s A G k f ρ Cb fb fo first) (ib io : Nat) (x : PI) (hx : At w0 ib io x.cells) (ht : 0 ≤ x.ty) (hfl : f.slots.length ≤ 65536) (hgl : c.gl.length ≤ 65536) (hins : insP c k f x = true) (hop : x.op < 30) (hs : ¬ s.n = fuel) (r1 r2 : Int) (e1 : reck1 first ρ x = r1) (e2 : reck2 ρ x = r2) (hz : ¬ r2 = 0) :
    Calls Try.prog 60 (insArg R Cb ib io) w fun e w' => InsPost w w0 R p gb gc col c fuel s G k f (.over r2 false s.up) e w' := by
  have hst := step_ri (h.ri.alloc (.cells #[.int .u8 0, .bool false] 84)) h.hf
  simp only [hs, if_false, not_false_eq_true, decide_true] at hst
  have HS := hideIt hst
  have IM := hideIt (fun (y : World) => ib_mk (y := y) h hx)
  have hb1 := (MemOk.bd h.ri).1
  have hsum := h.ri.sum
  have hone := len_sum s.bs h.ri.one
  have hfi := h.hfi
  have RK := hideIt (fun (Y : World) (O2 : Nat) (hy : IB w Y w0 R p gb gc col c fuel s A G Cb k fb fo first ib io w.heap.size O2 x) => reckon_ri hy.ri h.lt h.op.1 hy.cb (by omega) hy.at' ht hfl hgl hins hop)
  rw [e1, e2] at RK
  have hdst : 0 ≤ x.dst ∧ x.dst < 20000 := by
    have hwr : wrP x.op = true := by
      unfold insP at hins
      simp only [Bool.and_eq_true] at hins
      unfold wrP
      rw [hins.1]
      simp
      omega
    unfold insP wtP at hins
    simp [hwr, blP] at hins
    have := h.rg
    omega
  have FO := hideIt (fun (u : World) (a1 : RI u w0 R p gb gc col c fuel s.up A G) (a2 : Ex col w col u) => (show InsPost w w0 R p gb gc col c fuel s G k f (.over r2 false s.up) (.returned (.agg #[.int .u8 r2, .bool false])) u from
    ⟨rfl, Or.inl hz, col, A, G, s.up, a1, a2, fun _ _ => rfl, rfl, rfl, Nat.le_refl _⟩))
  have m1 : (r2 == 0) = false := by simpa using hz
  have m2 : decide (r2 = 0) = false := by simpa using hz
  have FC := hideIt (fun (Z : World) (col' : Col) (hZ : Ex col w col' Z) => h.cb.ex h.cc hZ)
  have FA := hideIt (fun (Z : World) (hb : Below w0.heap.size w0 Z) => (hx.low hb).seven)
  have n33 : (x.op == 33) = false := by simp; omega
  have n31 : (x.op == 31) = false := by simp; omega
  have n30 : (x.op == 30) = false := by simp; omega
  have n32 : (x.op == 32) = false := by simp; omega
  generalize hN : w.heap.size = O1 at *
  clear hst h hx hins hop hs hb1 hsum hone hfi hdst e1 e2 hz
  go_enter Try.func60, Try.ntmps60
  go_wp2_with (first
    | (go_at_call 61; refine HS.out.mono ?_; rintro e y ⟨rfl, hr, hx, hm⟩; have HI := hideIt (IM.out y hr hx hm); generalize hO2 : y.heap.size = O2 at *; obtain ⟨i0, -, i2, -, -, -, -⟩ := HI.out.at'.seven; clear hr hx hm)
    | (go_at_call 77; refine (RK.out _ _ HI.out).mono ?_; rintro e z ⟨rfl, hq⟩; have HZ := hideIt (show RI z w0 R p gb gc col c fuel s.up A G ∧ Ex col w col z from ⟨HI.out.ri.keep hq, HI.out.ex.trans (Ex.q hq)⟩); have zb := hq.block O2 (Array.getElem?_eq_some_iff.1 HI.out.b2).1; rw [HI.out.b2] at zb; have z0 := Me.cell_of_block zb 0; have z1 := Me.cell_of_block zb 1; have zf := Me.free_of_block zb 0; have zc := cell_keep hq HI.out.cb.c0; have zd := cell_keep hq i2; have B1 := hideIt ((hq.block O1 (Array.getElem?_eq_some_iff.1 HI.out.b1).1).trans HI.out.b1); have B2 := hideIt zb; have d1 := B1.out; have w0' := Me.cell_of_block d1 0; have w1' := Me.cell_of_block d1 1; have w2' := Me.free_of_block d1 0; have w3' := Me.free_of_block d1 1; have ne := HI.out.ne; have ne' : ¬ O2 = O1 := fun q => ne q.symm; clear hq zb d1)
    | fail)
  have hZr := HZ.out.1.other HI.out.n2 (Nat.le_trans HI.out.lw HI.out.l2) 0 (.int .u8 r2)
  have hZe := HZ.out.2.set (p := ⟨O2, 0, none⟩) (Or.inr HI.out.l2) (.int .u8 r2)
  have hZ1 := (Below.heap_setCell z ⟨O2, 0, none⟩ (.int .u8 r2) O1 HI.out.ne).trans B1.out
  have v0 := Me.cell_of_block hZ1 0
  have v1 := Me.cell_of_block hZ1 1
  exact bodyPost_ret (v := .agg #[.int .u8 r2, .bool false]) (by simp [results, Try.results60, go_sem, v0, v1]) rfl (FO.out _ ((hZr.other HI.out.n1 (Nat.le_trans HI.out.lw HI.out.l1) _ _).other HI.out.n1 (Nat.le_trans HI.out.lw HI.out.l1) _ _) ((hZe.set (Or.inr HI.out.l1) _).set (Or.inr HI.out.l1) _))

end Go.Proofs.Ytcpgikgjolomcaa
