/-
  A run of code: the trace, the arguments change, in blocks of their own: facts on worlds; no conditions but those that each fact bears.
-/
import Derived.Test.YtcpgikgjolomcaaKRmD
namespace Go.Proofs.Ytcpgikgjolomcaa
open Go.RowKit
set_option linter.unusedVariables false

abbrev rcs (c : PC) (fuel n : Nat) (tv : Value) (p gb gc : Nat) (av : Value) : Array Value := #[.slice c.ga c.gl.length c.gc, .slice c.na c.ini.length c.nc, .slice c.fa c.fns.length c.fc, .int .i64 (fuel : Int), .int .i64 (n : Int), tv, .pointer (some ⟨p, 0, none⟩), .slice (some ⟨gb, 0, none⟩) c.fns.length gc, av]

/-- The trace change, in a block of their own. -/
theorem RI.setT {w w' w0 : World} {R p gb gc : Nat} {col : Col} {c : PC} {fuel : Nat} {s : St} {A : List Int} {G : GG} (h : RI w w0 R p gb gc col c fuel s A G) {tv av nv : Value} {l : List Int}
    (h1 : w.heap[R]? = some (.cells (rcs c fuel s.n tv p gb gc av) 58 (0, 0))) (h2 : w.ownsRow w0.heap.size 2 1 tv s.tr.length (rowI s.tr)) (h3 : w.ownsRow w0.heap.size 2 1 av A.length (rowI A)) (h4 : ∀ b, tv.ownBlock = some b → col b = some .tr) (h5 : ∀ b, av.ownBlock = some b → col b = some .ar)
    (hR : w'.heap[R]? = some (.cells (rcs c fuel s.n nv p gb gc av) 58 (0, 0))) (hT : w'.ownsRow w0.heap.size 2 1 nv l.length (rowI l)) (q1 : nv.ownBlock = tv.ownBlock ∨ ∃ g, nv.ownBlock = some g ∧ w.heap.size ≤ g)
    (f1 : w'.os = w.os) (f2 : w'.tape = w.tape) (f3 : w'.output = w.output) (f4 : w.heap.size ≤ w'.heap.size) (f5 : ∀ b, b < w.heap.size → b ≠ R → tv.ownBlock ≠ some b → w'.heap[b]? = w.heap[b]?) (hl : l.length ≤ s.n) :
    ∃ col', RI w' w0 R p gb gc col' c fuel { s with tr := l } A G ∧ Ex col w col' w' := by
  classical
  have hcol : ∀ b, b < w.heap.size → (fun b => if b < w.heap.size then col b else if nv.ownBlock = some b then some Tg.tr else none) b = col b := fun b hb => by simp [hb]
  have kb : ∀ b τ, b < w.heap.size → col b = some τ → τ ≠ .rn → τ ≠ .tr → w'.heap[b]? = w.heap[b]? := fun b τ hb e t1 t2 => f5 b hb (fun q => by rw [q, h.colR] at e; exact t1 (Option.some.inj e).symm) (fun q => by rw [h4 b q] at e; exact t2 (Option.some.inj e).symm)
  have hB := h.bel.size
  refine ⟨_, ⟨⟨f1.trans h.bel.os, f2.trans h.bel.tape, f3.trans h.bel.output, Nat.le_trans hB f4, fun b hb => ?_⟩, fun b τ e => ?_, (hcol R h.ltR).trans h.colR, (hcol gb h.ltg).trans h.colg, ⟨nv, av, hR, hT, row_keep h3 (fun b q => kb b _ (own_lt h3 q) (h5 b q) (by intro q; cases q) (by intro q; cases q)), fun b q => ?_, fun b q => (hcol b (own_lt h3 q)).trans (h5 b q)⟩,
    h.mem.keep (Nat.le_refl _) (fun b hb e => kb b _ hb e (by intro q; cases q) (by intro q; cases q)) f4 hcol,
    h.regs.keep (kb gb _ h.ltg h.colg (by intro q; cases q) (by intro q; cases q)) (fun b k hb e => e.elim (fun e => kb b _ hb e (by intro q; cases q) (by intro q; cases q)) (fun e => kb b _ hb e (by intro q; cases q) (by intro q; cases q))) hcol, h.sum, h.one, h.nle, hl, h.gw, h.al⟩,
    ⟨f1, f2, f3, f4, fun b hb e => f5 b hb (fun q => by rw [q, h.colR] at e; cases e) (fun q => by rw [h4 b q] at e; cases e), hcol⟩⟩
  · refine (f5 b (by omega) (fun q => ?_) (fun q => ?_)).trans (h.bel.block b hb)
    · have := (h.lt R _ h.colR).1; omega
    · have := (h.lt b _ (h4 b q)).1; omega
  · by_cases hb : b < w.heap.size
    · rw [if_pos hb] at e
      have := h.lt b τ e
      omega
    · rw [if_neg hb] at e
      by_cases e1 : nv.ownBlock = some b
      · exact ⟨by omega, own_lt hT e1⟩
      · rw [if_neg e1] at e; cases e
  · by_cases hb : b < w.heap.size
    · refine (hcol b hb).trans ?_
      rcases q1 with q1 | ⟨g, q1, q1'⟩
      · exact h4 b (by rw [← q1]; exact q)
      · rw [q] at q1; injection q1 with q1; omega
    · simp [hb, q]


/-- The arguments change, in a block of their own. -/
theorem RI.setA {w w' w0 : World} {R p gb gc : Nat} {col : Col} {c : PC} {fuel : Nat} {s : St} {A : List Int} {G : GG} (h : RI w w0 R p gb gc col c fuel s A G) {tv av nv : Value} {l : List Int}
    (h1 : w.heap[R]? = some (.cells (rcs c fuel s.n tv p gb gc av) 58 (0, 0))) (h2 : w.ownsRow w0.heap.size 2 1 tv s.tr.length (rowI s.tr)) (h3 : w.ownsRow w0.heap.size 2 1 av A.length (rowI A)) (h4 : ∀ b, tv.ownBlock = some b → col b = some .tr) (h5 : ∀ b, av.ownBlock = some b → col b = some .ar)
    (hR : w'.heap[R]? = some (.cells (rcs c fuel s.n tv p gb gc nv) 58 (0, 0))) (hT : w'.ownsRow w0.heap.size 2 1 nv l.length (rowI l)) (q1 : nv.ownBlock = av.ownBlock ∨ ∃ g, nv.ownBlock = some g ∧ w.heap.size ≤ g)
    (f1 : w'.os = w.os) (f2 : w'.tape = w.tape) (f3 : w'.output = w.output) (f4 : w.heap.size ≤ w'.heap.size) (f5 : ∀ b, b < w.heap.size → b ≠ R → av.ownBlock ≠ some b → w'.heap[b]? = w.heap[b]?) (hl : l.length ≤ 20000) :
    ∃ col', RI w' w0 R p gb gc col' c fuel s l G ∧ Ex col w col' w' := by
  classical
  have hcol : ∀ b, b < w.heap.size → (fun b => if b < w.heap.size then col b else if nv.ownBlock = some b then some Tg.ar else none) b = col b := fun b hb => by simp [hb]
  have kb : ∀ b τ, b < w.heap.size → col b = some τ → τ ≠ .rn → τ ≠ .ar → w'.heap[b]? = w.heap[b]? := fun b τ hb e t1 t2 => f5 b hb (fun q => by rw [q, h.colR] at e; exact t1 (Option.some.inj e).symm) (fun q => by rw [h5 b q] at e; exact t2 (Option.some.inj e).symm)
  have hB := h.bel.size
  refine ⟨_, ⟨⟨f1.trans h.bel.os, f2.trans h.bel.tape, f3.trans h.bel.output, Nat.le_trans hB f4, fun b hb => ?_⟩, fun b τ e => ?_, (hcol R h.ltR).trans h.colR, (hcol gb h.ltg).trans h.colg, ⟨tv, nv, hR, row_keep h2 (fun b q => kb b _ (own_lt h2 q) (h4 b q) (by intro q; cases q) (by intro q; cases q)), hT, fun b q => (hcol b (own_lt h2 q)).trans (h4 b q), fun b q => ?_⟩,
    h.mem.keep (Nat.le_refl _) (fun b hb e => kb b _ hb e (by intro q; cases q) (by intro q; cases q)) f4 hcol,
    h.regs.keep (kb gb _ h.ltg h.colg (by intro q; cases q) (by intro q; cases q)) (fun b k hb e => e.elim (fun e => kb b _ hb e (by intro q; cases q) (by intro q; cases q)) (fun e => kb b _ hb e (by intro q; cases q) (by intro q; cases q))) hcol, h.sum, h.one, h.nle, h.trl, h.gw, hl⟩,
    ⟨f1, f2, f3, f4, fun b hb e => f5 b hb (fun q => by rw [q, h.colR] at e; cases e) (fun q => by rw [h5 b q] at e; cases e), hcol⟩⟩
  · refine (f5 b (by omega) (fun q => ?_) (fun q => ?_)).trans (h.bel.block b hb)
    · have := (h.lt R _ h.colR).1; omega
    · have := (h.lt b _ (h5 b q)).1; omega
  · by_cases hb : b < w.heap.size
    · rw [if_pos hb] at e
      have := h.lt b τ e
      omega
    · rw [if_neg hb] at e
      by_cases e1 : nv.ownBlock = some b
      · exact ⟨by omega, own_lt hT e1⟩
      · rw [if_neg e1] at e; cases e
  · by_cases hb : b < w.heap.size
    · refine (hcol b hb).trans ?_
      rcases q1 with q1 | ⟨g, q1, q1'⟩
      · exact h5 b (by rw [← q1]; exact q)
      · rw [q] at q1; injection q1 with q1; omega
    · simp [hb, q]


end Go.Proofs.Ytcpgikgjolomcaa
