/-
  An instruction of a run (a cell is written): contracts over the program; the conditions: a run lies there, the call is open, and the instruction is right.
  An instruction of a run (a number is printed): contracts over the program; the conditions: a run lies there, the call is open, and the instruction is right.
-/
import Derived.Test.YtaomkfhbnakbjaaKRmK
import Derived.Deep.AppendLies
import Derived.Deep.RegionLaw
namespace Go.Proofs.Ytaomkfhbnakbjaa
open Go.RowKit
set_option linter.unusedVariables false

set_option maxRecDepth 100000 in
set_option maxHeartbeats 2000000 in
theorem inst_store {w w0 : World} {R p gb gc : Nat} {col : Col} {c : PC} {fuel : Nat} {s : St} {A : List Int} {G : GG} {k : Nat} {f : PF} {ρ : Rg} {Cb fb fo first : Nat} (h : IA w w0 R p gb gc col c fuel s A G k f ρ Cb fb fo first) (ib io : Nat) (x : PI) (hx : At w0 ib io x.cells) (hins : insP c k f x = true) (hs : ¬ s.n = fuel) (hop : x.op = 31) (b : Bool) (hin : Me.inB s.bs (hiA (rg ρ x.a)) (loA (rg ρ x.a)) = b) :
    Calls Try.prog 104 (insArg R Cb ib io) w fun e w' => InsPost w w0 R p gb gc col c fuel s G k f (if b then .ok ρ { s.up with f := Me.upd s.f (hiA (rg ρ x.a)) (loA (rg ρ x.a)) (rg ρ x.b) } else .over 5 false s.up) e w' := by
  have hst := step_ri (h.ri.alloc (.cells #[.int .u8 0, .bool false] 105)) h.hf
  simp only [hs, if_false, not_false_eq_true, decide_true] at hst
  have HS := hideIt hst
  have IM := hideIt (fun (y : World) => ib_mk (y := y) h hx)
  have hab : 0 ≤ x.a ∧ 0 ≤ x.b := by
    unfold insP rdsP at hins
    rw [hop] at hins
    simp [blP, show rdP 31 = 2 by decide] at hins
    omega
  have ha := hab.1
  have hb := hab.2
  have GT := hideIt (fun (W : World) (hW : RI W w0 R p gb gc col c fuel s.up A G) (n : Int) (hn : 0 ≤ n) => get_int hW h.lt h.op.1 n hn)
  have ST := hideIt (fun (W : World) (hW : RI W w0 R p gb gc col c fuel s.up A G) (hm : MemOk W w0.heap.size p col s.n s.up.bs s.up.f) => store_ri hW hm (Nat.le_refl _) h.hf (rg ρ x.a) (rg ρ x.b))
  rw [show s.up.bs = s.bs from rfl, hin] at ST
  have FI := hideIt (fun (u : World) (col' : Col) (a1 : RI u w0 R p gb gc col' c fuel (if b = true then { s.up with f := Me.upd s.up.f (hiA (rg ρ x.a)) (loA (rg ρ x.a)) (rg ρ x.b) } else s.up) A G) (a2 : Ex col w col' u) => (show InsPost w w0 R p gb gc col c fuel s G k f (if b then .ok ρ { s.up with f := Me.upd s.f (hiA (rg ρ x.a)) (loA (rg ρ x.a)) (rg ρ x.b) } else .over 5 false s.up) (.returned (.agg #[.int .u8 (if b = true then 0 else 5), .bool false])) u from by
    cases b
    · exact ⟨rfl, Or.inl (by decide), col', A, G, s.up, a1, a2, fun _ _ => rfl, rfl, rfl, Nat.le_refl _⟩
    · exact ⟨rfl, col', A, G, a1, a2, h.op, h.id, fun _ _ => rfl, rfl⟩))
  have FC := hideIt (fun (Z : World) (col' : Col) (hZ : Ex col w col' Z) => h.cb.ex h.cc hZ)
  have FA := hideIt (fun (Z : World) (hb : Below w0.heap.size w0 Z) => (hx.low hb).seven)
  have lC : Cb < w.heap.size := World.block_lt_of_cell? w _ h.cb.c0
  have lI : ib < w.heap.size := Nat.lt_of_lt_of_le (World.block_lt_of_cell? w0 _ hx.seven.1) h.ri.lew
  have nC : ¬ Cb = w.heap.size := by omega
  have nI : ¬ ib = w.heap.size := by omega
  have nC' : ¬ w.heap.size = Cb := by omega
  have nI' : ¬ w.heap.size = ib := by omega
  clear lC lI
  have n33 : (x.op == 33) = false := by simp; omega
  have n31 : (x.op == 31) = true := by simp; omega
  generalize hN : w.heap.size = O1 at *
  generalize (if b = true then Rs.ok ρ { s.up with f := Me.upd s.f (hiA (rg ρ x.a)) (loA (rg ρ x.a)) (rg ρ x.b) } else Rs.over 5 false s.up) = RR at *
  generalize (if b = true then (0 : Int) else 5) = t' at *
  clear hst h hx hins hop hs hab hin
  go_enter Try.func104, Try.ntmps104
  go_wp2_with (first
    | (go_at_call 105; refine HS.out.mono ?_; rintro e y ⟨rfl, hr, hx, hm⟩; have HI := hideIt (IM.out y hr hx hm); generalize hO2 : y.heap.size = O2 at *; obtain ⟨i0, -, -, i3, i4, -, -⟩ := HI.out.at'.seven; have q0 := HI.out.cb.c0; clear hr hx hm)
    | fail)
  dsimp only [bxE] at HI i0 i3 i4 q0
  generalize hYe : y.alloc (.cells #[.int .u8 0, .bool false] 105) = Y at *
  have GY := hideIt (GT.out Y.drew (HI.out.ri.keep (Q.refl Y).drew))
  have LY := hideIt (ST.out Y.drew (HI.out.ri.keep (Q.refl Y).drew) (HI.out.me.keep (Nat.le_refl _) (fun _ _ _ => rfl) (Nat.le_refl _) (fun _ _ => rfl)))
  clear hYe
  go_region_held3 (fun y' : World => y'.cell? ⟨Cb, 0, none⟩ = some (.pointer (some ⟨gb, k * 2, none⟩)) ∧ y'.cell? ⟨ib, io + 3, none⟩ = some (.int .i64 x.a) ∧ y'.cell? ⟨ib, io + 4, none⟩ = some (.int .i64 x.b)) (go_keep) (first | (go_at_call 106; refine Calls.mono (GY.out _ (by assumption)) ?_; rintro e y1 ⟨rfl, rfl⟩) | (go_at_call 119; refine LY.out.mono ?_; rintro e z ⟨rfl, col', a1, a2⟩; have b1 := Ex.blk a2 HI.out.n1 HI.out.b1; have v0 := Me.cell_of_block b1 0; have v1 := Me.cell_of_block b1 1; have v2 := Me.free_of_block b1 0; have v3 := Me.free_of_block b1 1; have HU := hideIt (And.intro a1 (And.intro a2 (HI.out.ex.trans ((Ex.q (Q.refl Y).drew).trans a2)))); have s1 := (FC.out z col' HU.out.2.2).c0; obtain ⟨-, -, -, s2, s3, -, -⟩ := FA.out z a1.bel; clear a1 a2 b1))
  all_goals go_wp2_with (fail)
  all_goals obtain ⟨a1, a6, a2⟩ := HU.out
  all_goals have hcn : col' O1 = none := (a6.col O1 (Array.getElem?_eq_some_iff.1 HI.out.b1).1).trans HI.out.n1
  all_goals exact bodyPost_ret (v := .agg #[.int .u8 t', .bool false]) (by simp [results, Try.results104, go_sem, v0, v1]) rfl (FI.out _ col' ((a1.other hcn (Nat.le_trans HI.out.lw HI.out.l1) _ _).other hcn (Nat.le_trans HI.out.lw HI.out.l1) _ _) ((a2.set (Or.inr HI.out.l1) _).set (Or.inr HI.out.l1) _))

end Go.Proofs.Ytaomkfhbnakbjaa

namespace Go.Proofs.Ytaomkfhbnakbjaa
open Go.RowKit
set_option linter.unusedVariables false

/-- The trace is one more. -/
theorem trace_more {w w1 X w0 : World} {R p gb gc : Nat} {col : Col} {c : PC} {fuel : Nat} {s : St} {A : List Int} {G : GG} (h : RI w w0 R p gb gc col c fuel s A G) {tv av : Value}
    (h1 : w.heap[R]? = some (.cells (rcs c fuel s.n tv p gb gc av) 65 (0, 0))) (h2 : w.ownsRow w0.heap.size 2 1 tv s.tr.length (rowI s.tr)) (h3 : w.ownsRow w0.heap.size 2 1 av A.length (rowI A)) (h4 : ∀ b, tv.ownBlock = some b → col b = some .tr) (h5 : ∀ b, av.ownBlock = some b → col b = some .ar)
    {z : Int} {g cap : Nat} (hg : X.grownBy w1 tv.ownBlock) (hX : X.heap = (w.alloc (.cells #[.int .i64 z] 2)).heap) (x1 : X.os = w.os) (x2 : X.tape = w.tape) (x3 : X.output = w.output)
    (ho : w1.ownsRow w0.heap.size 2 1 (.slice (some ⟨g, 0, none⟩) (s.tr.length + 1) cap) (s.tr.length + 1) (rowI s.tr ++ [.int .i64 z])) (hat : tv.ownBlock = some g ∨ g = w.heap.size + 1) (hl : s.tr.length + 1 ≤ s.n) :
    w1.cell? ⟨R, 5, none⟩ = some tv ∧ w1.frozen? ⟨R, 5, none⟩ = false ∧ ∃ col', RI (w1.setCell ⟨R, 5, none⟩ (.slice (some ⟨g, 0, none⟩) (s.tr.length + 1) cap)) w0 R p gb gc col' c fuel { s with tr := s.tr ++ [z] } A G ∧ Ex col w col' (w1.setCell ⟨R, 5, none⟩ (.slice (some ⟨g, 0, none⟩) (s.tr.length + 1) cap)) := by
  have hsz : X.heap.size = w.heap.size + 1 := by rw [hX]; simp
  have blk : ∀ b, b < w.heap.size → tv.ownBlock ≠ some b → w1.heap[b]? = w.heap[b]? := fun b hb hn => by
    rw [hg.block b (by omega) (fun e => hn e.symm), hX]
    exact heap_alloc_old w _ hb
  have hRn : tv.ownBlock ≠ some R := fun e => by have := h4 R e; rw [h.colR] at this; cases this
  have hR1 := (blk R h.ltR hRn).trans h1
  have hgR : g ≠ R := fun e => by
    rcases hat with q | q
    · exact hRn (by rw [q, e])
    · have := h.ltR; omega
  refine ⟨Me.cell_of_block hR1 5, Me.free_of_block hR1 5, ?_⟩
  refine h.setT (nv := .slice (some ⟨g, 0, none⟩) (s.tr.length + 1) cap) (l := s.tr ++ [z]) h1 h2 h3 h4 h5 ?_ ?_ ?_ ?_ ?_ ?_ ?_ (fun b b1 b2 b3 => ?_) (by simpa using hl)
  · rw [heap_setCell_same w1 R 5 _ _ _ hR1]; rfl
  · rw [rowI_app, List.length_append]
    refine row_keep ho (fun k hk => ?_)
    simp [Value.ownBlock] at hk
    subst hk
    exact Below.heap_setCell _ _ _ _ hgR
  · rcases hat with q | q
    · exact Or.inl q.symm
    · exact Or.inr ⟨g, rfl, by omega⟩
  · exact hg.os.trans x1
  · exact hg.tape.trans x2
  · exact hg.output.trans x3
  · have := hg.size; simp; omega
  · rw [Below.heap_setCell _ _ _ _ b2]; exact blk b b1 b3

set_option maxRecDepth 100000 in
set_option maxHeartbeats 2000000 in
theorem inst_print {w w0 : World} {R p gb gc : Nat} {col : Col} {c : PC} {fuel : Nat} {s : St} {A : List Int} {G : GG} {k : Nat} {f : PF} {ρ : Rg} {Cb fb fo first : Nat} (h : IA w w0 R p gb gc col c fuel s A G k f ρ Cb fb fo first) (ib io : Nat) (x : PI) (hx : At w0 ib io x.cells) (hins : insP c k f x = true) (hs : ¬ s.n = fuel) (hop : x.op = 33) :
    Calls Try.prog 104 (insArg R Cb ib io) w fun e w' => InsPost w w0 R p gb gc col c fuel s G k f (.ok ρ { s.up with tr := s.tr ++ [rg ρ x.a] }) e w' := by
  have hst := step_ri (h.ri.alloc (.cells #[.int .u8 0, .bool false] 105)) h.hf
  simp only [hs, if_false, not_false_eq_true, decide_true] at hst
  have HS := hideIt hst
  have IM := hideIt (fun (y : World) => ib_mk (y := y) h hx)
  obtain ⟨j0, hj, hz0, hz1, hz2⟩ := info_parts rg_infoI64
  have HT := hideIt (And.intro hj (And.intro hz0 (And.intro hz1 hz2)))
  clear hj hz0 hz1 hz2
  have ha : 0 ≤ x.a := by
    unfold insP rdsP at hins
    rw [hop] at hins
    simp [blP, show rdP 33 = 1 by decide] at hins
    omega
  have GT := hideIt (fun (W : World) (hW : RI W w0 R p gb gc col c fuel s.up A G) => get_int hW h.lt h.op.1 x.a ha)
  have htl := h.ri.trl
  have hnl := h.ri.nle
  have hff := h.hf
  have HL := hideIt (show s.tr.length + 1 ≤ s.n + 1 by omega)
  have HM := hideIt (show s.tr.length + 1 ≤ maxLen by unfold maxLen; omega)
  have HM2 := hideIt (show (s.tr.length + 1) * 8 ≤ 140737488355328 by omega)
  have FI := hideIt (fun (u : World) (col' : Col) (a1 : RI u w0 R p gb gc col' c fuel { s.up with tr := s.tr ++ [rg ρ x.a] } A G) (a2 : Ex col w col' u) => (show InsPost w w0 R p gb gc col c fuel s G k f (.ok ρ { s.up with tr := s.tr ++ [rg ρ x.a] }) (.returned (.agg #[.int .u8 0, .bool false])) u from
    ⟨rfl, col', A, G, a1, a2, h.op, h.id, fun _ _ => rfl, rfl⟩))
  have n33 : (x.op == 33) = true := by simp; omega
  generalize hN : w.heap.size = O1 at *
  generalize hv : rg ρ x.a = v at *
  clear hst h hx hins hop hs htl hnl hff hv
  go_enter Try.func104, Try.ntmps104
  go_wp2_with (first
    | (go_at_call 105; refine HS.out.mono ?_; rintro e y ⟨rfl, hr, hx, hm⟩; have HI := hideIt (IM.out y hr hx hm); generalize hO2 : y.heap.size = O2 at *; obtain ⟨i0, -, -, i3, i4, -, -⟩ := HI.out.at'.seven; have q0 := HI.out.cb.c0; clear hr hx hm)
    | fail)
  dsimp only [bxE] at HI i0 i3 i4 q0
  generalize hYe : y.alloc (.cells #[.int .u8 0, .bool false] 105) = Y at *
  have GY := hideIt (GT.out Y.drew (HI.out.ri.keep (Q.refl Y).drew))
  have hri := HI.out.ri
  obtain ⟨tv, av, z1, z2, z3, z4, z5⟩ := hri.run
  have hrow : Y.ownsRow w0.heap.size 2 1 tv s.tr.length (rowI s.tr) := z2
  obtain ⟨va, vc, ez, -, -⟩ := Me.ownsRow_form hrow
  subst ez
  have r5 : Y.cell? ⟨R, 5, none⟩ = some (.slice va s.tr.length vc) := Me.cell_of_block z1 5
  have r5' : ∀ ob, (Y.alloc ob).cell? ⟨R, 5, none⟩ = some (.slice va s.tr.length vc) := fun ob => Me.cell_box r5 ob
  have AF := hideIt (app_facts hrow hri.bel.size v)
  have AM := hideIt (fun (X w1 : World) (g cap : Nat) => trace_more (X := X) (w1 := w1) (z := v) (g := g) (cap := cap) hri z1 z2 z3 z4 z5)
  have FIN := hideIt (show ∀ (u : World) (col' : Col), RI u w0 R p gb gc col' c fuel { s.up with tr := s.tr ++ [v] } A G → Ex col Y col' u → u.heap[O1]? = some (.cells #[.int .u8 0, .bool false] 105 (0, 0)) ∧ u.heap[O2]? = some (.cells #[.int .u8 0, .bool false] 105 (0, 0)) from fun u col' a1 a2 => ⟨Ex.blk a2 HI.out.n1 HI.out.b1, Ex.blk a2 HI.out.n2 HI.out.b2⟩)
  clear hYe hri z1 z2 z3 z4 z5 hrow
  go_region_law (first | (rw [if_pos (by rfl)]; go_simp; go_at_call 106; refine Calls.mono GY.out ?_; rintro e y1 ⟨rfl, rfl⟩; dsimp only) | (refine step_append_lies _ (by rfl) _ _ 23 (by rfl) w0.heap.size 2 j0 (.int .i64 0) 1 8 Try.underlying23 HT.out.1 HT.out.2.1 HT.out.2.2.1 HT.out.2.2.2 rfl (by decide) (.slice va s.tr.length vc) s.tr.length (rowI s.tr) (by rfl) (AF.out _ rfl).1 ⟨Y.heap.size, 0, none⟩ 1 1 [.int .i64 v] (by rfl) rfl (AF.out _ rfl).2.1 (one_i64 _) (by decide) HM.out HM2.out (AF.out _ rfl).2.2.1 (Y.heap.size + 1) (AF.out _ rfl).2.2.2 ?_; intro g cap w1 hown hgrow hat hlt; obtain ⟨t1, t2, col', t3, t4⟩ := (show w1.cell? ⟨R, 5, none⟩ = some (.slice va s.tr.length vc) ∧ w1.frozen? ⟨R, 5, none⟩ = false ∧ ∃ col', RI (w1.setCell ⟨R, 5, none⟩ (.slice (some ⟨g, 0, none⟩) (s.tr.length + 1) cap)) w0 R p gb gc col' c fuel { s.up with tr := s.tr ++ [v] } A G ∧ Ex col Y col' (w1.setCell ⟨R, 5, none⟩ (.slice (some ⟨g, 0, none⟩) (s.tr.length + 1) cap)) from AM.out _ w1 g cap hgrow rfl rfl rfl rfl hown hat HL.out); obtain ⟨b1, b2⟩ := FIN.out _ col' t3 t4; have v0 := Me.cell_of_block b1 0; have v1 := Me.cell_of_block b1 1; have v2 := Me.free_of_block b1 0; have v3 := Me.free_of_block b1 1; have u0 := Me.cell_of_block b2 0; have u1 := Me.cell_of_block b2 1; have HU := hideIt (And.intro t3 t4); clear hown hgrow hat t3 t4 b1 b2))
  all_goals go_wp2_with (fail)
  all_goals obtain ⟨a1, a6⟩ := HU.out
  all_goals have a2 := HI.out.ex.trans a6
  all_goals have hcn : col' O1 = none := (a6.col O1 (Array.getElem?_eq_some_iff.1 HI.out.b1).1).trans HI.out.n1
  all_goals exact bodyPost_ret (v := .agg #[.int .u8 0, .bool false]) (by simp [results, Try.results104, go_sem, v0, v1]) rfl (FI.out _ col' ((a1.other hcn (Nat.le_trans HI.out.lw HI.out.l1) _ _).other hcn (Nat.le_trans HI.out.lw HI.out.l1) _ _) ((a2.set (Or.inr HI.out.l1) _).set (Or.inr HI.out.l1) _))

end Go.Proofs.Ytaomkfhbnakbjaa
