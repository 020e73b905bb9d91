/-
  A run of code: the trace, the arguments change, in blocks of their own: facts on worlds; no conditions but those that each fact bears.
  The arguments of a call are got ready (ready): a contract over the program; the conditions: a run lies there, and the registers that are named are there.
  A run of code: functions that aren't open, one that is; what an instruction, a call leave: facts on worlds; no conditions but those that each fact bears.
-/
import Derived.Test.YtaomkfhbnakbjaaKRmD
import Derived.Test.YtaomkfhbnakbjaaKRmF
import Derived.Deep.AppendLies
namespace Go.Proofs.Ytaomkfhbnakbjaa
open Go.RowKit
set_option linter.unusedVariables false

abbrev rcs (c : PC) (fuel n : Nat) (tv : Value) (p gb gc : Nat) (av : Value) : Array Value := #[.slice c.ga c.gl.length c.gc, .slice c.na c.ini.length c.nc, .slice c.fa c.fns.length c.fc, .int .i64 (fuel : Int), .int .i64 (n : Int), tv, .pointer (some ⟨p, 0, none⟩), .slice (some ⟨gb, 0, none⟩) c.fns.length gc, av]

/-- The trace change, in a block of their own. -/
theorem RI.setT {w w' w0 : World} {R p gb gc : Nat} {col : Col} {c : PC} {fuel : Nat} {s : St} {A : List Int} {G : GG} (h : RI w w0 R p gb gc col c fuel s A G) {tv av nv : Value} {l : List Int}
    (h1 : w.heap[R]? = some (.cells (rcs c fuel s.n tv p gb gc av) 65 (0, 0))) (h2 : w.ownsRow w0.heap.size 2 1 tv s.tr.length (rowI s.tr)) (h3 : w.ownsRow w0.heap.size 2 1 av A.length (rowI A)) (h4 : ∀ b, tv.ownBlock = some b → col b = some .tr) (h5 : ∀ b, av.ownBlock = some b → col b = some .ar)
    (hR : w'.heap[R]? = some (.cells (rcs c fuel s.n nv p gb gc av) 65 (0, 0))) (hT : w'.ownsRow w0.heap.size 2 1 nv l.length (rowI l)) (q1 : nv.ownBlock = tv.ownBlock ∨ ∃ g, nv.ownBlock = some g ∧ w.heap.size ≤ g)
    (f1 : w'.os = w.os) (f2 : w'.tape = w.tape) (f3 : w'.output = w.output) (f4 : w.heap.size ≤ w'.heap.size) (f5 : ∀ b, b < w.heap.size → b ≠ R → tv.ownBlock ≠ some b → w'.heap[b]? = w.heap[b]?) (hl : l.length ≤ s.n) :
    ∃ col', RI w' w0 R p gb gc col' c fuel { s with tr := l } A G ∧ Ex col w col' w' := by
  classical
  have hcol : ∀ b, b < w.heap.size → (fun b => if b < w.heap.size then col b else if nv.ownBlock = some b then some Tg.tr else none) b = col b := fun b hb => by simp [hb]
  have kb : ∀ b τ, b < w.heap.size → col b = some τ → τ ≠ .rn → τ ≠ .tr → w'.heap[b]? = w.heap[b]? := fun b τ hb e t1 t2 => f5 b hb (fun q => by rw [q, h.colR] at e; exact t1 (Option.some.inj e).symm) (fun q => by rw [h4 b q] at e; exact t2 (Option.some.inj e).symm)
  have hB := h.bel.size
  refine ⟨_, ⟨⟨f1.trans h.bel.os, f2.trans h.bel.tape, f3.trans h.bel.output, Nat.le_trans hB f4, fun b hb => ?_⟩, fun b τ e => ?_, (hcol R h.ltR).trans h.colR, (hcol gb h.ltg).trans h.colg, ⟨nv, av, hR, hT, row_keep h3 (fun b q => kb b _ (own_lt h3 q) (h5 b q) (by intro q; cases q) (by intro q; cases q)), fun b q => ?_, fun b q => (hcol b (own_lt h3 q)).trans (h5 b q)⟩,
    h.mem.keep (Nat.le_refl _) (fun b hb e => kb b _ hb e (by intro q; cases q) (by intro q; cases q)) f4 hcol,
    h.regs.keep (kb gb _ h.ltg h.colg (by intro q; cases q) (by intro q; cases q)) (fun b k hb e => e.elim (fun e => kb b _ hb e (by intro q; cases q) (by intro q; cases q)) (fun e => kb b _ hb e (by intro q; cases q) (by intro q; cases q))) hcol, h.sum, h.one, h.nle, hl, h.gw, h.al⟩,
    ⟨f1, f2, f3, f4, fun b hb e => f5 b hb (fun q => by rw [q, h.colR] at e; cases e) (fun q => by rw [h4 b q] at e; cases e), hcol⟩⟩
  · refine (f5 b (by omega) (fun q => ?_) (fun q => ?_)).trans (h.bel.block b hb)
    · have := (h.lt R _ h.colR).1; omega
    · have := (h.lt b _ (h4 b q)).1; omega
  · by_cases hb : b < w.heap.size
    · rw [if_pos hb] at e
      have := h.lt b τ e
      omega
    · rw [if_neg hb] at e
      by_cases e1 : nv.ownBlock = some b
      · exact ⟨by omega, own_lt hT e1⟩
      · rw [if_neg e1] at e; cases e
  · by_cases hb : b < w.heap.size
    · refine (hcol b hb).trans ?_
      rcases q1 with q1 | ⟨g, q1, q1'⟩
      · exact h4 b (by rw [← q1]; exact q)
      · rw [q] at q1; injection q1 with q1; omega
    · simp [hb, q]


/-- The arguments change, in a block of their own. -/
theorem RI.setA {w w' w0 : World} {R p gb gc : Nat} {col : Col} {c : PC} {fuel : Nat} {s : St} {A : List Int} {G : GG} (h : RI w w0 R p gb gc col c fuel s A G) {tv av nv : Value} {l : List Int}
    (h1 : w.heap[R]? = some (.cells (rcs c fuel s.n tv p gb gc av) 65 (0, 0))) (h2 : w.ownsRow w0.heap.size 2 1 tv s.tr.length (rowI s.tr)) (h3 : w.ownsRow w0.heap.size 2 1 av A.length (rowI A)) (h4 : ∀ b, tv.ownBlock = some b → col b = some .tr) (h5 : ∀ b, av.ownBlock = some b → col b = some .ar)
    (hR : w'.heap[R]? = some (.cells (rcs c fuel s.n tv p gb gc nv) 65 (0, 0))) (hT : w'.ownsRow w0.heap.size 2 1 nv l.length (rowI l)) (q1 : nv.ownBlock = av.ownBlock ∨ ∃ g, nv.ownBlock = some g ∧ w.heap.size ≤ g)
    (f1 : w'.os = w.os) (f2 : w'.tape = w.tape) (f3 : w'.output = w.output) (f4 : w.heap.size ≤ w'.heap.size) (f5 : ∀ b, b < w.heap.size → b ≠ R → av.ownBlock ≠ some b → w'.heap[b]? = w.heap[b]?) (hl : l.length ≤ 20000) :
    ∃ col', RI w' w0 R p gb gc col' c fuel s l G ∧ Ex col w col' w' := by
  classical
  have hcol : ∀ b, b < w.heap.size → (fun b => if b < w.heap.size then col b else if nv.ownBlock = some b then some Tg.ar else none) b = col b := fun b hb => by simp [hb]
  have kb : ∀ b τ, b < w.heap.size → col b = some τ → τ ≠ .rn → τ ≠ .ar → w'.heap[b]? = w.heap[b]? := fun b τ hb e t1 t2 => f5 b hb (fun q => by rw [q, h.colR] at e; exact t1 (Option.some.inj e).symm) (fun q => by rw [h5 b q] at e; exact t2 (Option.some.inj e).symm)
  have hB := h.bel.size
  refine ⟨_, ⟨⟨f1.trans h.bel.os, f2.trans h.bel.tape, f3.trans h.bel.output, Nat.le_trans hB f4, fun b hb => ?_⟩, fun b τ e => ?_, (hcol R h.ltR).trans h.colR, (hcol gb h.ltg).trans h.colg, ⟨tv, nv, hR, row_keep h2 (fun b q => kb b _ (own_lt h2 q) (h4 b q) (by intro q; cases q) (by intro q; cases q)), hT, fun b q => (hcol b (own_lt h2 q)).trans (h4 b q), fun b q => ?_⟩,
    h.mem.keep (Nat.le_refl _) (fun b hb e => kb b _ hb e (by intro q; cases q) (by intro q; cases q)) f4 hcol,
    h.regs.keep (kb gb _ h.ltg h.colg (by intro q; cases q) (by intro q; cases q)) (fun b k hb e => e.elim (fun e => kb b _ hb e (by intro q; cases q) (by intro q; cases q)) (fun e => kb b _ hb e (by intro q; cases q) (by intro q; cases q))) hcol, h.sum, h.one, h.nle, h.trl, h.gw, hl⟩,
    ⟨f1, f2, f3, f4, fun b hb e => f5 b hb (fun q => by rw [q, h.colR] at e; cases e) (fun q => by rw [h5 b q] at e; cases e), hcol⟩⟩
  · refine (f5 b (by omega) (fun q => ?_) (fun q => ?_)).trans (h.bel.block b hb)
    · have := (h.lt R _ h.colR).1; omega
    · have := (h.lt b _ (h5 b q)).1; omega
  · by_cases hb : b < w.heap.size
    · rw [if_pos hb] at e
      have := h.lt b τ e
      omega
    · rw [if_neg hb] at e
      by_cases e1 : nv.ownBlock = some b
      · exact ⟨by omega, own_lt hT e1⟩
      · rw [if_neg e1] at e; cases e
  · by_cases hb : b < w.heap.size
    · refine (hcol b hb).trans ?_
      rcases q1 with q1 | ⟨g, q1, q1'⟩
      · exact h5 b (by rw [← q1]; exact q)
      · rw [q] at q1; injection q1 with q1; omega
    · simp [hb, q]


end Go.Proofs.Ytaomkfhbnakbjaa

namespace Go.Proofs.Ytaomkfhbnakbjaa
open Go.RowKit
set_option linter.unusedVariables false

/-- What an append of one number to a row of the run's own leaves. -/
theorem app_facts {w : World} {B : Nat} {v : Value} {l : List Int} (h : w.ownsRow B 2 1 v l.length (rowI l)) (hB : B ≤ w.heap.size) (z : Int) : ∀ X : World, X.heap = (w.alloc (.cells #[.int .i64 z] 2)).heap → X.ownsRow B 2 1 v l.length (rowI l) ∧ (∀ j u, [Value.int .i64 z][j]? = some u → X.cell? ((⟨w.heap.size, 0, none⟩ : Addr).add j) = some u) ∧ B ≤ X.heap.size ∧ X.heap.size = w.heap.size + 1 := fun X hX => by
  have hs : X.heap.size = w.heap.size + 1 := by rw [hX]; simp
  have hb' : X.heap[w.heap.size]? = some (.cells #[.int .i64 z] 2 (0, 0)) := by rw [hX]; exact heap_alloc_new w _
  exact ⟨row_keep h (fun k hk => by rw [hX]; exact heap_alloc_old w _ (own_lt h hk)), World.news_of_block hb', by omega, hs⟩
theorem one_i64 (z : Int) : ∀ u ∈ [Value.int .i64 z], u.oneCell' = true := fun u hu => by simp at hu; subst hu; rfl

/-- The arguments are one more. -/
theorem arg_more {w w1 X w0 : World} {R p gb gc : Nat} {col : Col} {c : PC} {fuel : Nat} {s : St} {A : List Int} {G : GG} (h : RI w w0 R p gb gc col c fuel s A G) {tv av : Value}
    (h1 : w.heap[R]? = some (.cells (rcs c fuel s.n tv p gb gc av) 65 (0, 0))) (h2 : w.ownsRow w0.heap.size 2 1 tv s.tr.length (rowI s.tr)) (h3 : w.ownsRow w0.heap.size 2 1 av A.length (rowI A)) (h4 : ∀ b, tv.ownBlock = some b → col b = some .tr) (h5 : ∀ b, av.ownBlock = some b → col b = some .ar)
    {z : Int} {g cap : Nat} (hg : X.grownBy w1 av.ownBlock) (hX : X.heap = (w.alloc (.cells #[.int .i64 z] 2)).heap) (x1 : X.os = w.os) (x2 : X.tape = w.tape) (x3 : X.output = w.output)
    (ho : w1.ownsRow w0.heap.size 2 1 (.slice (some ⟨g, 0, none⟩) (A.length + 1) cap) (A.length + 1) (rowI A ++ [.int .i64 z])) (hat : av.ownBlock = some g ∨ g = w.heap.size + 1) (hl : A.length + 1 ≤ 20000) :
    w1.cell? ⟨R, 8, none⟩ = some av ∧ w1.frozen? ⟨R, 8, none⟩ = false ∧ ∃ col', RI (w1.setCell ⟨R, 8, none⟩ (.slice (some ⟨g, 0, none⟩) (A.length + 1) cap)) w0 R p gb gc col' c fuel s (A ++ [z]) G ∧ Ex col w col' (w1.setCell ⟨R, 8, none⟩ (.slice (some ⟨g, 0, none⟩) (A.length + 1) cap)) := by
  have hsz : X.heap.size = w.heap.size + 1 := by rw [hX]; simp
  have blk : ∀ b, b < w.heap.size → av.ownBlock ≠ some b → w1.heap[b]? = w.heap[b]? := fun b hb hn => by
    rw [hg.block b (by omega) (fun e => hn e.symm), hX]
    exact heap_alloc_old w _ hb
  have hRn : av.ownBlock ≠ some R := fun e => by have := h5 R e; rw [h.colR] at this; cases this
  have hR1 := (blk R h.ltR hRn).trans h1
  have hgR : g ≠ R := fun e => by
    rcases hat with q | q
    · exact hRn (by rw [q, e])
    · have := h.ltR; omega
  refine ⟨Me.cell_of_block hR1 8, Me.free_of_block hR1 8, ?_⟩
  refine h.setA (nv := .slice (some ⟨g, 0, none⟩) (A.length + 1) cap) (l := A ++ [z]) h1 h2 h3 h4 h5 ?_ ?_ ?_ ?_ ?_ ?_ ?_ (fun b b1 b2 b3 => ?_) (by simpa using hl)
  · rw [heap_setCell_same w1 R 8 _ _ _ hR1]; rfl
  · rw [rowI_app, List.length_append]
    refine row_keep ho (fun k hk => ?_)
    simp [Value.ownBlock] at hk
    subst hk
    exact Below.heap_setCell _ _ _ _ hgR
  · rcases hat with q | q
    · exact Or.inl q.symm
    · exact Or.inr ⟨g, rfl, by omega⟩
  · exact hg.os.trans x1
  · exact hg.tape.trans x2
  · exact hg.output.trans x3
  · have := hg.size; simp; omega
  · rw [Below.heap_setCell _ _ _ _ b2]; exact blk b b1 b3

set_option maxRecDepth 100000 in
set_option maxHeartbeats 2000000 in
theorem ready_ri {w w0 : World} {R p gb gc : Nat} {col : Col} {c : PC} {fuel : Nat} {s : St} {A : List Int} {G : GG} (h : RI w w0 R p gb gc col c fuel s A G) {k : Nat} (hk : k < c.fns.length) {ρ : Rg} (hρ : ∀ n, regAt (G k).1 n = ρ n) {Cb fb fo first : Nat} (hC : CB w Cb gb k fb fo first) (hCc : col Cb = none) {aa : Option Addr} {ac : Nat} {l : List Int} (hs : sok 8 aa l.length ac) (hi : Ints w0 aa l) (h0 : ∀ r ∈ l, 0 ≤ r) (hl : l.length ≤ 20000) :
    Calls Try.prog 121 #[.pointer (some ⟨R, 0, none⟩), .pointer (some ⟨Cb, 0, none⟩), .slice aa l.length ac] w fun e w' => e = .returned (.tuple #[]) ∧ ∃ col', RI w' w0 R p gb gc col' c fuel s (l.map (rg ρ)) G ∧ Ex col w col' w' := by
  obtain ⟨j0, hj, hz0, hz1, hz2⟩ := info_parts rg_infoI64
  have HT := hideIt (And.intro hj (And.intro hz0 (And.intro hz1 hz2)))
  clear hj hz0 hz1 hz2
  obtain ⟨tv, av, h1, h2, h3, h4, h5⟩ := h.run
  obtain ⟨va, vc, ev, ev1, ev2⟩ := Me.ownsRow_form h3
  have c8 : w.cell? ⟨R, 8, none⟩ = some (.slice va A.length vc) := by rw [← ev]; exact Me.cell_of_block h1 8
  have f8 : w.frozen? ⟨R, 8, none⟩ = false := Me.free_of_block h1 8
  have hcut : ∃ col', RI (w.setCell ⟨R, 8, none⟩ (.slice va 0 vc)) w0 R p gb gc col' c fuel s [] G ∧ Ex col w col' (w.setCell ⟨R, 8, none⟩ (.slice va 0 vc)) := by
    have hob : (Value.slice va 0 vc).ownBlock = av.ownBlock := by rw [ev]; cases va <;> rfl
    have hRn : av.ownBlock ≠ some R := fun e => by have := h5 R e; rw [h.colR] at this; cases this
    refine h.setA (nv := .slice va 0 vc) (l := []) h1 h2 h3 h4 h5 ?_ ?_ (Or.inl hob) rfl rfl rfl (by simp) (fun b b1 b2 b3 => Below.heap_setCell _ _ _ _ b2) (by simp)
    · rw [heap_setCell_same w R 8 _ _ _ h1]; rfl
    · refine row_keep (w := w) ⟨rfl, ?_⟩ (fun q hq => Below.heap_setCell _ _ _ _ (fun e => hRn (by rw [← hob, hq, e])))
      rcases h3.2 with ⟨e0, e1⟩ | ⟨g, cap, cur, e0, a1, a2, a3, a4, a5, a6⟩
      · rw [ev] at e0
        injection e0 with e0 _ e0'
        subst e0; subst e0'
        exact .inl ⟨rfl, rfl⟩
      · rw [ev] at e0
        injection e0 with e0 _ e0'
        subst e0; subst e0'
        exact .inr ⟨g, vc, cur, rfl, a1, a2, Nat.zero_le _, a4, a5, by simp [rowI]⟩
  have HCut := hideIt hcut
  have i0 : (0 : Int) ≤ (vc : Int) := by omega
  have HC := hideIt hC
  have HI := hideIt hi
  have H0 := hideIt h0
  have HR := hideIt hρ
  have hcl : (l.length : Int) ≤ 20000 := by omega
  unfold maxLen at ev2
  have ev3 : vc ≤ 9223372036854775807 := by omega
  clear hcut h h1 h2 h3 h4 h5 hC hi h0 hρ ev hs ev2
  go_enter Try.func121, Try.ntmps121
  go_wp2_with (fail)
  go_loopw [18] (fun o wr => ∃ q : Nat, o = .int .i64 q ∧ q ≤ l.length ∧ ∃ col', RI wr w0 R p gb gc col' c fuel s ((l.take q).map (rg ρ)) G ∧ Ex col w col' wr) (fun o _ => l.length - (intOf o).toNat)
  case atStart => obtain ⟨col', a1, a2⟩ := HCut.out; exact ⟨0, rfl, Nat.zero_le _, col', by simpa using a1, a2⟩
  case round =>
    obtain ⟨q, rfl, hq, col', hr, hx⟩ := hrel
    have HX := hideIt hx
    have HRI := hideIt hr
    by_cases hqc : q < l.length
    · obtain ⟨r, hr1⟩ := get_of_lt hqc
      obtain ⟨tv', av', z1, z2, z3, z4, z5⟩ := hr.run
      obtain ⟨va', vc', ez, -, -⟩ := Me.ownsRow_form z3
      have hrow := z3
      subst ez
      have HB := hideIt hr.bel.size
      have r8 : wr.cell? ⟨R, 8, none⟩ = some (.slice va' ((l.take q).map (rg ρ)).length vc') := Me.cell_of_block z1 8
      have r8' : ∀ ob, (wr.alloc ob).cell? ⟨R, 8, none⟩ = some (.slice va' ((l.take q).map (rg ρ)).length vc') := fun ob => Me.cell_box r8 ob
      have rc := (HC.out.ex hCc hx).c0
      have rc' : ∀ ob, (wr.alloc ob).cell? ⟨Cb, 0, none⟩ = some (.pointer (some ⟨gb, k * 2, none⟩)) := fun ob => Me.cell_box rc ob
      obtain ⟨bb, oo, rfl, hint, -⟩ := HI.out q r hr1
      rw [Nat.mul_one] at hint
      have rl : wr.cell? ⟨bb, oo + q, none⟩ = some (.int .i64 r) := (hr.bel.cell (p := ⟨bb, oo + q, none⟩) (World.block_lt_of_cell? w0 _ hint)).trans hint
      have GT := hideIt (get_int (hr.keep (Q.refl wr).drew) hk HR.out r (H0.out r (List.mem_of_getElem? hr1)))
      have AF := hideIt (app_facts hrow HB.out (rg ρ r))
      have AM := hideIt (fun (X w1 : World) (g cap : Nat) => arg_more (X := X) (w1 := w1) (z := rg ρ r) (g := g) (cap := cap) hr z1 z2 z3 z4 z5)
      have hlen : ((l.take q).map (rg ρ)).length = q := by simp; omega
      have HLn := hideIt hlen
      have HS := hideIt (show (l.take (q + 1)).map (rg ρ) = (l.take q).map (rg ρ) ++ [rg ρ r] by rw [List.take_add_one, hr1]; simp)
      have k1 : decide ((q : Int) < (l.length : Int)) = true := by simp; omega
      have k2 : (q : Int) < (l.length : Int) := by omega
      have k3 : IntKind.i64.wrap ((q : Int) + 1) = (q : Int) + 1 := by rw [IntKind.wrap_i64]; omega
      have HM := hideIt (show ((l.take q).map (rg ρ)).length + 1 ≤ maxLen by unfold maxLen; omega)
      have HM2 := hideIt (show (((l.take q).map (rg ρ)).length + 1) * 8 ≤ 140737488355328 by omega)
      have HM3 := hideIt (show ((l.take q).map (rg ρ)).length + 1 ≤ 20000 by omega)
      generalize (l.take q).map (rg ρ) = L at *
      clear hr hx z1 z2 z3 z4 z5 hint hr1 hlen hrow c8 f8
      go_wp2_with (fail)
      go_region_law (first | (rw [if_pos (by rfl)]; go_simp; go_at_call 106; refine Calls.mono GT.out ?_; rintro e y ⟨rfl, rfl⟩; dsimp only) | (refine step_append_lies _ (by rfl) _ _ 23 (by rfl) w0.heap.size 2 j0 (.int .i64 0) 1 8 Try.underlying23 HT.out.1 HT.out.2.1 HT.out.2.2.1 HT.out.2.2.2 rfl (by decide) (.slice va' L.length vc') L.length (rowI L) (by rfl) (AF.out _ rfl).1 ⟨wr.heap.size, 0, none⟩ 1 1 [.int .i64 (rg ρ r)] (by rfl) rfl (AF.out _ rfl).2.1 (one_i64 _) (by decide) HM.out HM2.out (AF.out _ rfl).2.2.1 (wr.heap.size + 1) (AF.out _ rfl).2.2.2 ?_; intro g cap w1 hown hgrow hat hlt; obtain ⟨t1, t2, t3⟩ := AM.out _ w1 g cap hgrow rfl rfl rfl rfl hown hat HM3.out; have H3 := hideIt t3; clear hown hgrow hat t3))
      all_goals go_wp2_with (fail)
      all_goals go_roundw
      all_goals first
        | (obtain ⟨col2, b1, b2⟩ := H3.out; exact ⟨q + 1, by go_num, hqc, col2, by rw [HS.out]; exact b1, HX.out.trans b2⟩)
        | (simp [intOf]; omega)
    · have e1 : q = l.length := by omega
      subst e1
      rw [List.take_length] at HRI
      clear hr hx c8 f8
      go_wp2_with (fail)
      go_end0
      exact ⟨rfl, col', HRI.out, HX.out⟩

end Go.Proofs.Ytaomkfhbnakbjaa

namespace Go.Proofs.Ytaomkfhbnakbjaa
open Go.RowKit
set_option linter.unusedVariables false

/-- A function that isn't open: its registers are 0, but the parameters. -/
def idle (f : PF) (g : List Int × List Int) : Prop := g.2 = [] ∧ ∀ n : Nat, f.params ≤ (n : Int) → regAt g.1 n = 0
/-- One that is: its registers are ρ, and those that aren't 0 are remembered, but the parameters. -/
def opn (f : PF) (ρ : Rg) (g : List Int × List Int) : Prop := (∀ n, regAt g.1 n = ρ n) ∧ ∀ n : Nat, f.params ≤ (n : Int) → ρ n ≠ 0 → (n : Int) ∈ g.2
def idles (c : PC) (k : Nat) (G : GG) : Prop := ∀ j f, j < k → c.fns[j]? = some f → idle f (G j)

/-- How an instruction ends. -/
def InsPost (w w0 : World) (R p gb gc : Nat) (col : Col) (c : PC) (fuel : Nat) (s : St) (G : GG) (k : Nat) (f : PF) (r : Rs Rg) (e : Ending) (w' : World) : Prop :=
  match r with
  | .ok ρ' s' => e = .returned (.agg #[.int .u8 0, .bool false]) ∧ ∃ col' A' G', RI w' w0 R p gb gc col' c fuel s' A' G' ∧ Ex col w col' w' ∧ opn f ρ' (G' k) ∧ idles c k G' ∧ (∀ j, k < j → G' j = G j) ∧ s'.bs.length = s.bs.length
  | .over t sp s' => e = .returned (.agg #[.int .u8 t, .bool sp]) ∧ (t ≠ 0 ∨ sp = true) ∧ ∃ col' A' G' s'', RI w' w0 R p gb gc col' c fuel s'' A' G' ∧ Ex col w col' w' ∧ (∀ j, k < j → G' j = G j) ∧ s''.n = s'.n ∧ s''.tr = s'.tr ∧ s.bs.length ≤ s''.bs.length
/-- How a call ends. -/
def CallPost (w w0 : World) (R p gb gc : Nat) (col : Col) (c : PC) (fuel : Nat) (s : St) (G : GG) (k : Nat) (r : Rs Int) (e : Ending) (w' : World) : Prop :=
  match r with
  | .ok v s' => e = .returned (.tuple #[.int .i64 v, .agg #[.int .u8 0, .bool false]]) ∧ ∃ col' A' G', RI w' w0 R p gb gc col' c fuel s' A' G' ∧ Ex col w col' w' ∧ idles c (k + 1) G' ∧ (∀ j, k < j → G' j = G j) ∧ s'.bs.length = s.bs.length
  | .over t sp s' => e = .returned (.tuple #[.int .i64 0, .agg #[.int .u8 t, .bool sp]]) ∧ (t ≠ 0 ∨ sp = true) ∧ ∃ col' A' G' s'', RI w' w0 R p gb gc col' c fuel s'' A' G' ∧ Ex col w col' w' ∧ (∀ j, k < j → G' j = G j) ∧ s''.n = s'.n ∧ s''.tr = s'.tr ∧ s.bs.length ≤ s''.bs.length

theorem Ex.blk {c0 c1 : Col} {a b : World} (h : Ex c0 a c1 b) {k : Nat} (hc : c0 k = none) {o : Obj} (hu : a.heap[k]? = some o) : b.heap[k]? = some o :=
  (h.block k (Array.getElem?_eq_some_iff.1 hu).1 hc).trans hu
theorem RI.none {w w0 : World} {R p gb gc : Nat} {col : Col} {c : PC} {fuel : Nat} {s : St} {A : List Int} {G : GG} (h : RI w w0 R p gb gc col c fuel s A G) {b : Nat} (hb : w.heap.size ≤ b) : col b = none := by
  cases e : col b with
  | none => rfl
  | some τ => have := (h.lt b τ e).2; omega
/-- A block that is nobody's is written. -/
theorem RI.other {w w0 : World} {R p gb gc : Nat} {col : Col} {c : PC} {fuel : Nat} {s : St} {A : List Int} {G : GG} (h : RI w w0 R p gb gc col c fuel s A G) {b : Nat} (hc : col b = Option.none) (hB : w0.heap.size ≤ b) (j : Nat) (u : Value) : RI (w.setCell ⟨b, j, Option.none⟩ u) w0 R p gb gc col c fuel s A G := by
  have oth : ∀ q τ, col q = some τ → (w.setCell ⟨b, j, Option.none⟩ u).heap[q]? = w.heap[q]? := fun q τ e => Below.heap_setCell _ _ _ _ (fun x => by rw [x, hc] at e; cases e)
  exact ⟨below_set h.bel hB u, fun q τ e => by simpa using h.lt q τ e, h.colR, h.colg, h.run.keep (oth R _ h.colR) (fun q _ e => e.elim (oth q _) (oth q _)) (fun _ _ => rfl), h.mem.keep (Nat.le_refl _) (fun q _ e => oth q _ e) (by simp) (fun _ _ => rfl), h.regs.keep (oth gb _ h.colg) (fun q k _ e => e.elim (oth q _) (oth q _)) (fun _ _ => rfl), h.sum, h.one, h.nle, h.trl, h.gw, h.al⟩
theorem RI.alloc {w w0 : World} {R p gb gc : Nat} {col : Col} {c : PC} {fuel : Nat} {s : St} {A : List Int} {G : GG} (h : RI w w0 R p gb gc col c fuel s A G) (o : Obj) : RI (w.alloc o) w0 R p gb gc col c fuel s A G := h.keep ((Q.refl w).alloc o)
theorem RI.lew {w w0 : World} {R p gb gc : Nat} {col : Col} {c : PC} {fuel : Nat} {s : St} {A : List Int} {G : GG} (h : RI w w0 R p gb gc col c fuel s A G) : w0.heap.size ≤ w.heap.size := h.bel.size

/-- The instruction's cells, in a later world. -/
theorem At.low {w0 w : World} {b o : Nat} {cs : List Value} (h : At w0 b o cs) (hb : Below w0.heap.size w0 w) : At w b o cs := fun j hj => by
  have hj' := h j hj
  obtain ⟨u, hu⟩ : ∃ u, cs[j]? = some u := ⟨cs[j], List.getElem?_eq_getElem hj⟩
  rw [hu] at hj' ⊢
  exact (hb.cell (p := ⟨b, o + j, none⟩) (World.block_lt_of_cell? w0 _ hj')).trans hj'

theorem opn_set {f : PF} {ρ : Rg} {g : List Int × List Int} (h : opn f ρ g) {H' W' : List Int} {n : Nat} {x : Int} (h1 : ∀ m, regAt H' m = if m = n then x else regAt g.1 m) (h2 : ∀ m ∈ g.2, m ∈ W') (h3 : ∀ m, regAt H' m ≠ 0 → regAt g.1 m ≠ 0 ∨ (m : Int) ∈ W') : opn f (setR ρ n x) (H', W') := by
  have h4 : ∀ m, regAt H' m = setR ρ n x m := fun m => by rw [h1, h.1]; rfl
  refine ⟨h4, fun m hm hz => ?_⟩
  rw [← h4] at hz
  rcases h3 m hz with q | q
  · rw [h.1] at q
    exact h2 _ (h.2 m hm q)
  · exact q
theorem idles_upd {c : PC} {k : Nat} {G : GG} (h : idles c k G) (H W : List Int) : idles c k (updG G k H W) := fun j f hj hf => by
  have : ¬ j = k := by omega
  simp only [updG, this, if_false]
  exact h j f hj hf
theorem updG_gt {G : GG} {k j : Nat} (H W : List Int) (h : k < j) : updG G k H W j = G j := by
  have : ¬ j = k := by omega
  simp only [updG, this, if_false]
theorem updG_at {G : GG} {k : Nat} (H W : List Int) : updG G k H W k = (H, W) := by simp [updG]

end Go.Proofs.Ytaomkfhbnakbjaa
