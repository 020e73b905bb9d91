/-
  An instruction of a run (a cell is written): contracts over the program; the conditions: a run lies there, the call is open, and the instruction is right.
-/
import Derived.Test.YtcpgikgjolomcaaKRmJ
import Derived.Deep.AppendLies
import Derived.Deep.RegionLaw
namespace Go.Proofs.Ytcpgikgjolomcaa
open Go.RowKit
set_option linter.unusedVariables false

set_option maxRecDepth 100000 in
set_option maxHeartbeats 2000000 in
theorem inst_store {w w0 : World} {R p gb gc : Nat} {col : Col} {c : PC} {fuel : Nat} {s : St} {A : List Int} {G : GG} {k : Nat} {f : PF} {ρ : Rg} {Cb fb fo first : Nat} (h : IA w w0 R p gb gc col c fuel s A G k f ρ Cb fb fo first) (ib io : Nat) (x : PI) (hx : At w0 ib io x.cells) (hins : insP c k f x = true) (hs : ¬ s.n = fuel) (hop : x.op = 31) (b : Bool) (hin : Me.inB s.bs (hiA (rg ρ x.a)) (loA (rg ρ x.a)) = b) :
    Calls Try.prog 60 (insArg R Cb ib io) w fun e w' => InsPost w w0 R p gb gc col c fuel s G k f (if b then .ok ρ { s.up with f := Me.upd s.f (hiA (rg ρ x.a)) (loA (rg ρ x.a)) (rg ρ x.b) } else .over 5 false s.up) e w' := by
  have hst := step_ri (h.ri.alloc (.cells #[.int .u8 0, .bool false] 84)) h.hf
  simp only [hs, if_false, not_false_eq_true, decide_true] at hst
  have HS := hideIt hst
  have IM := hideIt (fun (y : World) => ib_mk (y := y) h hx)
  have hab : 0 ≤ x.a ∧ 0 ≤ x.b := by
    unfold insP rdsP at hins
    rw [hop] at hins
    simp [blP, show rdP 31 = 2 by decide] at hins
    omega
  have ha := hab.1
  have hb := hab.2
  have GT := hideIt (fun (W : World) (hW : RI W w0 R p gb gc col c fuel s.up A G) (n : Int) (hn : 0 ≤ n) => get_int hW h.lt h.op.1 n hn)
  have ST := hideIt (fun (W : World) (hW : RI W w0 R p gb gc col c fuel s.up A G) (hm : MemOk W w0.heap.size p col s.n s.up.bs s.up.f) => store_ri hW hm (Nat.le_refl _) h.hf (rg ρ x.a) (rg ρ x.b))
  rw [show s.up.bs = s.bs from rfl, hin] at ST
  have FI := hideIt (fun (u : World) (col' : Col) (a1 : RI u w0 R p gb gc col' c fuel (if b = true then { s.up with f := Me.upd s.up.f (hiA (rg ρ x.a)) (loA (rg ρ x.a)) (rg ρ x.b) } else s.up) A G) (a2 : Ex col w col' u) => (show InsPost w w0 R p gb gc col c fuel s G k f (if b then .ok ρ { s.up with f := Me.upd s.f (hiA (rg ρ x.a)) (loA (rg ρ x.a)) (rg ρ x.b) } else .over 5 false s.up) (.returned (.agg #[.int .u8 (if b = true then 0 else 5), .bool false])) u from by
    cases b
    · exact ⟨rfl, Or.inl (by decide), col', A, G, s.up, a1, a2, fun _ _ => rfl, rfl, rfl, Nat.le_refl _⟩
    · exact ⟨rfl, col', A, G, a1, a2, h.op, h.id, fun _ _ => rfl, rfl⟩))
  have FC := hideIt (fun (Z : World) (col' : Col) (hZ : Ex col w col' Z) => h.cb.ex h.cc hZ)
  have FA := hideIt (fun (Z : World) (hb : Below w0.heap.size w0 Z) => (hx.low hb).seven)
  have lC : Cb < w.heap.size := World.block_lt_of_cell? w _ h.cb.c0
  have lI : ib < w.heap.size := Nat.lt_of_lt_of_le (World.block_lt_of_cell? w0 _ hx.seven.1) h.ri.lew
  have nC : ¬ Cb = w.heap.size := by omega
  have nI : ¬ ib = w.heap.size := by omega
  have nC' : ¬ w.heap.size = Cb := by omega
  have nI' : ¬ w.heap.size = ib := by omega
  clear lC lI
  have n33 : (x.op == 33) = false := by simp; omega
  have n31 : (x.op == 31) = true := by simp; omega
  generalize hN : w.heap.size = O1 at *
  generalize (if b = true then Rs.ok ρ { s.up with f := Me.upd s.f (hiA (rg ρ x.a)) (loA (rg ρ x.a)) (rg ρ x.b) } else Rs.over 5 false s.up) = RR at *
  generalize (if b = true then (0 : Int) else 5) = t' at *
  clear hst h hx hins hop hs hab hin
  go_enter Try.func60, Try.ntmps60
  go_wp2_with (first
    | (go_at_call 61; refine HS.out.mono ?_; rintro e y ⟨rfl, hr, hx, hm⟩; have HI := hideIt (IM.out y hr hx hm); generalize hO2 : y.heap.size = O2 at *; obtain ⟨i0, -, -, i3, i4, -, -⟩ := HI.out.at'.seven; have q0 := HI.out.cb.c0; clear hr hx hm)
    | fail)
  dsimp only [bxE] at HI i0 i3 i4 q0
  generalize hYe : y.alloc (.cells #[.int .u8 0, .bool false] 84) = Y at *
  have GY := hideIt (GT.out Y.drew (HI.out.ri.keep (Q.refl Y).drew))
  have LY := hideIt (ST.out Y.drew (HI.out.ri.keep (Q.refl Y).drew) (HI.out.me.keep (Nat.le_refl _) (fun _ _ _ => rfl) (Nat.le_refl _) (fun _ _ => rfl)))
  clear hYe
  go_region_held3 (fun y' : World => y'.cell? ⟨Cb, 0, none⟩ = some (.pointer (some ⟨gb, k * 2, none⟩)) ∧ y'.cell? ⟨ib, io + 3, none⟩ = some (.int .i64 x.a) ∧ y'.cell? ⟨ib, io + 4, none⟩ = some (.int .i64 x.b)) (go_keep) (first | (go_at_call 62; refine Calls.mono (GY.out _ (by assumption)) ?_; rintro e y1 ⟨rfl, rfl⟩) | (go_at_call 74; refine LY.out.mono ?_; rintro e z ⟨rfl, col', a1, a2⟩; have b1 := Ex.blk a2 HI.out.n1 HI.out.b1; have v0 := Me.cell_of_block b1 0; have v1 := Me.cell_of_block b1 1; have v2 := Me.free_of_block b1 0; have v3 := Me.free_of_block b1 1; have HU := hideIt (And.intro a1 (And.intro a2 (HI.out.ex.trans ((Ex.q (Q.refl Y).drew).trans a2)))); have s1 := (FC.out z col' HU.out.2.2).c0; obtain ⟨-, -, -, s2, s3, -, -⟩ := FA.out z a1.bel; clear a1 a2 b1))
  all_goals go_wp2_with (fail)
  all_goals obtain ⟨a1, a6, a2⟩ := HU.out
  all_goals have hcn : col' O1 = none := (a6.col O1 (Array.getElem?_eq_some_iff.1 HI.out.b1).1).trans HI.out.n1
  all_goals exact bodyPost_ret (v := .agg #[.int .u8 t', .bool false]) (by simp [results, Try.results60, go_sem, v0, v1]) rfl (FI.out _ col' ((a1.other hcn (Nat.le_trans HI.out.lw HI.out.l1) _ _).other hcn (Nat.le_trans HI.out.lw HI.out.l1) _ _) ((a2.set (Or.inr HI.out.l1) _).set (Or.inr HI.out.l1) _))

end Go.Proofs.Ytcpgikgjolomcaa
