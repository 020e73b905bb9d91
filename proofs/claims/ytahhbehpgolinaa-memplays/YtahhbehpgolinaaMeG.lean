/-
  A cell that is 0 now is forgotten (drop): what it leaves of a memory; the conditions: a memory lies there, and that cell isn't 0 in it.
-/
import Derived.Test.YtahhbehpgolinaaMeF
namespace Go.Proofs.Ytahhbehpgolinaa.Me
open Go.RowKit
set_option linter.unusedVariables false

theorem MF.mono {A : Nat → Prop} {n n' : Nat} {L : List Bk} {f : Int → Int → Int} {F : FF} (h : MF A n L f F) (hn : n ≤ n') : MF A n' L f F :=
  ⟨h.val, h.out, h.pos, h.lst, fun i d e => Nat.le_trans (h.len i d e) hn⟩
theorem ownsRow_blk {w : World} {base : Nat} {e : TypeId} {size n : Nat} {v : Value} {xs : List Value} (h : w.ownsRow base e size v n xs) (h0 : 0 < n) :
    ∃ g cap cur, v = .slice (some ⟨g, 0, none⟩) n cap ∧ w.heap[g]? = some (.cells cur e (0, 0)) ∧ (∀ (q : Nat) (u : Value), xs[q]? = some u → cur[q]? = some u) ∧ base ≤ g ∧ n ≤ cap ∧ cap ≤ maxLen := by
  rcases h.2 with ⟨_, h2⟩ | ⟨g, cap, cur, hv, hg, hh, hn, hc, hs, ht⟩
  · omega
  · refine ⟨g, cap, cur, hv, hh, fun q u hu => ?_, hg, hn, hc⟩
    have hq := (List.getElem?_eq_some_iff.1 hu).1
    have h1 := h.1
    rw [← ht, List.getElem?_take_of_lt (by omega)] at hu
    simpa using hu
theorem heap_set {w : World} {b j : Nat} {cs : Array Value} {t : TypeId} (h : w.heap[b]? = some (.cells cs t (0, 0))) (u : Value) (X : World) (hX : X.heap = (w.setCell ⟨b, j, none⟩ u).heap) : X.heap[b]? = some (.cells (cs.setIfInBounds j u) t (0, 0)) := by
  rw [hX]; exact block_setCell h u
theorem heap_oth {w : World} {p : Addr} (u : Value) (X : World) (hX : X.heap = (w.setCell p u).heap) {b : Nat} (hb : b ≠ p.block) : X.heap[b]? = w.heap[b]? := by
  rw [hX]; exact Below.heap_setCell w p u b hb
theorem row_of_heap {w X : World} {base : Nat} {e : TypeId} {size : Nat} {v : Value} {n : Nat} {xs : List Value} (h : w.ownsRow base e size v n xs) (hX : X.heap = w.heap) : X.ownsRow base e size v n xs := ownsRow_block h fun k _ => by rw [hX]

set_option maxHeartbeats 1000000 in
theorem drop_any {w : World} {B : Nat} {bl : Nat → Prop} {p n : Nat} {L : List Bk} {f : Int → Int → Int} {F : FF} {t : Int} {M : Nat} {la : Option Addr} {lc : Nat} (h : MX w B bl p n L F t M la lc) (hf : MF (fun _ => True) n L f F) {i k : Nat} {j v0 : Int} {d : Bk} (hd : L[i]? = some d) (hb : inB (szs L) i j = true) (hF : F i j = some (v0, (k : Int)))
    (hI : I64 (i : Int)) (hJ : ∀ o ∈ d.H, I64 o) (hl : L.length ≤ 1000000) (hn : n ≤ 100000000) :
    Calls Try.prog 22 #[.pointer (some ⟨p, 0, none⟩), .agg #[.int .i64 (i : Int), .int .i64 j], .int .i64 (k : Int)] w fun e w' => e = .returned (.tuple #[]) ∧
      (∃ bl' : Nat → Prop, (∀ k, bl k → bl' k) ∧ (∀ k, bl' k → bl k ∨ w.heap.size ≤ k) ∧ MI w' B bl' p (n + 1) (szs L) (upd f i j 0) t) ∧ Fr bl w w' := by
  have hnm : n < maxLen := by unfold maxLen; omega
  have hk := (hf.pos i d j v0 k hd hF).2
  rw [Int.toNat_natCast] at hk
  have hkl := (List.getElem?_eq_some_iff.1 hk).1
  have hdl := hf.len i d hd
  have hil := (List.getElem?_eq_some_iff.1 hd).1
  obtain ⟨l, hll⟩ : ∃ l, d.H.length = l + 1 := ⟨d.H.length - 1, by omega⟩
  obtain ⟨mv, hmv⟩ : ∃ mv, d.H[l]? = some mv := ⟨_, List.getElem?_eq_getElem (by omega)⟩
  have hjI : I64 j := hJ j (List.mem_of_getElem? hk)
  have hmI : I64 mv := hJ mv (List.mem_of_getElem? hmv)
  obtain ⟨ha, hc, hcur, ev, hhb, hhc, hhB, hh1, hh2⟩ := ownsRow_blk (h.hld i d hd) (by omega)
  obtain ⟨g, gc, gcur, eg, hgb, hgc, hgB, hg1, hg2⟩ := ownsRow_blk h.row (by omega)
  simp only [Value.slice.injEq] at eg
  obtain ⟨rfl, -, rfl⟩ := eg
  obtain ⟨kb, kp, kM, kg⟩ := h.hin i d ha hd (by rw [ev]; rfl)
  obtain ⟨gb, gp, gM⟩ := h.own g rfl
  have hgh : ha ≠ g := fun e => kg (by rw [e]; rfl)
  have hpl := lt_of_some h.cells
  have hgl := lt_of_some hgb
  have hhl := lt_of_some hhb
  have hMl := h.map.lt
  have gi : gcur[i * 2 + 1]? = some d.v := hgc _ _ (bkCells_at L i d hd).2
  have hik : hcur[k]? = some (.int .i64 j) := hhc _ _ (rowN_at hk)
  have hil' : hcur[l]? = some (.int .i64 mv) := hhc _ _ (rowN_at hmv)
  rw [hll] at ev
  have hmv' : d.H[d.H.length - 1]? = some mv := by rw [hll]; exact hmv
  obtain ⟨G1, G2⟩ := mf_gone hf hd hb hF hmv' (.slice (some ⟨ha, 0, none⟩) l hc)
  rw [hll] at G1 G2
  simp only [Nat.add_sub_cancel] at G1 G2
  refine drop_walk p M g ha i k L.length lc l hc j mv (c1 (updF F i j none i mv)) (c2 (updF F i j none i mv)) hl (by omega) hil (by omega) (by omega) (by unfold maxLen at hh2; omega) _ w.heap.size rfl (cell_box (cell_of_block h.cells 0) _) ?_
  obtain ⟨Z, z1, z2, z3⟩ := (h.map.kept (w' := (w.alloc (.cells #[.int .i64 (i : Int), .int .i64 j] 31)).drew) (Below.heap_alloc _ _ _ hMl)).drop hI hjI 0
  have zb : ∀ b, b < w.heap.size → b ≠ M → Z.heap[b]? = w.heap[b]? := fun b hb hne => by
    rw [z3.block b (by show b < (w.alloc _).heap.size; simp; omega) (fun e => hne (Option.some.inj e))]
    exact Below.heap_alloc _ _ _ hb
  have zs : w.heap.size + 1 ≤ Z.heap.size := by have := z3.size; simpa using this
  have zN : Z.heap[w.heap.size]? = some (.cells #[.int .i64 (i : Int), .int .i64 j] 31 (0, 0)) := by
    rw [z3.block w.heap.size (by show w.heap.size < (w.alloc _).heap.size; simp) (fun e => by have := Option.some.inj e; omega)]
    exact heap_alloc_new w _
  refine ⟨Z, z1, fun Y hYs => ⟨?_, fun X hXs => ⟨?_, fun V hVs => ⟨?_, ?_⟩⟩⟩⟩
  all_goals have hY := hYs.heap
  · have hy : ∀ b : Nat, Y.heap[b]? = Z.heap[b]? := fun b => by rw [hY]
    have yp := (hy p).trans ((zb p hpl (fun e => h.Mnp e.symm)).trans h.cells)
    have yg := (hy g).trans ((zb g hgl gM).trans hgb)
    have yh := (hy ha).trans ((zb ha hhl kM).trans hhb)
    have yN := (hy w.heap.size).trans zN
    have a1 := cell_of_block yp 1
    have a2 := cell_of_block yN 0
    have a3 := cell_of_block yN 1
    have a4 := (cell_of_block yg (i * 2 + 1)).trans gi
    have a5 := (cell_of_block yh k).trans hik
    have a6 := (cell_of_block yh l).trans hil'
    rw [ev] at a4
    exact ⟨a1, a2, a3, a4, a5, a6, fun ob => cell_box a2 ob, fun ob => cell_box a4 ob, fun ob => cell_box a6 ob⟩
  all_goals
    have hX := hXs.heap
    have ys : Y.heap.size = Z.heap.size := by rw [hY]
    have xb : ∀ b, b < Y.heap.size → X.heap[b]? = Y.heap[b]? := fun b hb => by rw [hX]; exact Below.heap_alloc _ _ _ hb
    have xO : X.heap[Y.heap.size]? = some (.cells #[.int .i64 (i : Int), .int .i64 mv] 31 (0, 0)) := by rw [hX]; exact heap_alloc_new Y _
    have xw : ∀ b, b < w.heap.size → b ≠ M → X.heap[b]? = w.heap[b]? := fun b hb hne => by rw [xb b (by omega), hY]; exact zb b hb hne
    have xg : X.heap[g]? = _ := (xw g hgl gM).trans hgb
    have xh : X.heap[ha]? = _ := (xw ha hhl kM).trans hhb
    have xM : X.heap[M]? = Z.heap[M]? := by rw [xb M (by omega), hY]
    have xN : X.heap[w.heap.size]? = _ := (xb _ (by omega)).trans ((by rw [hY] : Y.heap[w.heap.size]? = Z.heap[w.heap.size]?).trans zN)
    have xs : X.heap.size = Z.heap.size + 1 := by rw [hX]; simp [ys]
  · have a4 := (cell_of_block xg (i * 2 + 1)).trans gi
    rw [ev] at a4
    exact ⟨a4, cell_of_block xO 1, (cell_of_block xh k).trans hik, free_of_block xh k, free_of_block xg _, hgh⟩
  all_goals
    have hV := hVs.heap
    have vo : ∀ b, b ≠ ha → b ≠ g → V.heap[b]? = X.heap[b]? := fun b h1 h2 => by rw [hV, Below.heap_setCell _ _ _ _ h2]; exact Below.heap_setCell _ _ _ _ h1
    have vs : V.heap.size = X.heap.size := by rw [hV]; simp
  · have vp : V.heap[p]? = _ := (vo p (fun e => kp e.symm) (fun e => gp e.symm)).trans ((xw p hpl (fun e => h.Mnp e.symm)).trans h.cells)
    have vN : V.heap[w.heap.size]? = _ := (vo _ (by omega) (by omega)).trans xN
    have vO : V.heap[Y.heap.size]? = _ := (vo _ (by omega) (by omega)).trans xO
    exact ⟨cell_of_block vp 0, cell_of_block vN 0, cell_of_block vN 1, cell_of_block vO 0, cell_of_block vO 1⟩
  · have vM : Mc V M n (updF F i j none) := z2.kept (by rw [vo M (fun e => kM e.symm) (fun e => gM e.symm)]; exact xM)
    have hMh : M ≠ ha := fun e => kM e.symm
    have rowX : X.ownsRow B 61 2 (.slice (some ⟨g, 0, none⟩) L.length lc) L.length (bkCells L) := ownsRow_block h.row fun q hq => by
      simp [Value.ownBlock] at hq; subst hq; exact xw _ hgl gM
    have hldX : X.ownsRow B 3 1 (.slice (some ⟨ha, 0, none⟩) (l + 1) hc) (l + 1) (rowN d.H) := by
      have := ownsRow_block (w' := X) (h.hld i d hd) (fun q hq => by rw [ev] at hq; simp [Value.ownBlock] at hq; subst hq; exact xw _ hhl kM)
      rw [ev, hll] at this
      exact this
    have r1 : V.ownsRow B 61 2 (.slice (some ⟨g, 0, none⟩) L.length lc) L.length ((bkCells L).set (i * 2 + 1) (.slice (some ⟨ha, 0, none⟩) l hc)) := by
      have a := ownsRow_block (w' := X.setCell ⟨ha, k, none⟩ (.int .i64 mv)) rowX (fun q hq => by simp [Value.ownBlock] at hq; subst hq; exact Below.heap_setCell _ _ _ _ (fun e => hgh e.symm))
      exact row_of_heap (ownsRow_set a (q := i * 2 + 1) (by omega) (.slice (some ⟨ha, 0, none⟩) l hc)) hV
    have r2 : V.ownsRow B 3 1 (.slice (some ⟨ha, 0, none⟩) l hc) ((d.H.set k mv).take l).length (rowN ((d.H.set k mv).take l)) := by
      have a := ownsRow_less (ownsRow_set hldX (q := k) (by omega) (.int .i64 mv)) (k := l) (by omega)
      have e1 : ((d.H.set k mv).take l).length = l := by simp; omega
      have e2 : rowN ((d.H.set k mv).take l) = ((rowN d.H).set k (.int .i64 mv)).take (l * 1) := by simp [rowN, List.map_take, List.map_set]
      rw [e1, e2]
      refine row_of_heap (ownsRow_block (w' := (X.setCell ⟨ha, k, none⟩ (.int .i64 mv)).setCell ⟨g, i * 2 + 1, none⟩ (.slice (some ⟨ha, 0, none⟩) l hc)) a fun q hq => ?_) hV
      simp [Value.ownBlock] at hq
      subst hq
      exact Below.heap_setCell _ _ _ _ hgh
    have hvb : ∀ q, bl q → q ≠ M → (Value.slice (some ⟨g, 0, none⟩) L.length lc).ownBlock ≠ some q → d.v.ownBlock ≠ some q → V.heap[q]? = w.heap[q]? := fun q q1 q2 q3 q4 => by
      rw [vo q (fun e => q4 (by rw [ev, e]; rfl)) (fun e => q3 (by rw [e]; rfl))]
      exact xw q (h.rng q q1).2 q2
    have hvv : ∀ q, (Value.slice (some ⟨ha, 0, none⟩) l hc).ownBlock = some q → d.v.ownBlock = some q ∨ (w.heap.size ≤ q ∧ B ≤ q) := fun q hq => Or.inl (by rw [ev]; exact hq)
    have hFV : Fr bl w V := ⟨hVs.os.trans (hXs.os.trans (hYs.os.trans z3.os)), hVs.tape.trans (hXs.tape.trans (hYs.tape.trans z3.tape)), hVs.output.trans (hXs.output.trans (hYs.output.trans z3.output)), by omega, fun b b1 b2 => by
      rw [vo b (fun e => b2 (by rw [e]; exact kb)) (fun e => b2 (by rw [e]; exact gb))]
      exact xw b b1 (fun e => b2 (by rw [e]; exact h.inM))⟩
    refine ⟨fun e => ?_, fun e => ?_⟩
    · obtain ⟨bl', b1, b2, b3⟩ := mx_held (n' := n + 1) h hd (vM.mono (Nat.le_succ _)) hvb (by omega) r1 r2 hvv
      exact ⟨⟨bl', b1, b2, _, _, _, _, _, b3, (G1 e).mono (Nat.le_succ _), szs_set hd _ _⟩, hFV⟩
    · refine ⟨(vM.kept (w' := V.drew) rfl).look hI hmI, ?_⟩
      obtain ⟨Z2, y1, y2, y3⟩ := (vM.kept (w' := V.drew) rfl).store hnm hI hmI (c1 (updF F i j none i mv)) (k : Int)
      have y4 : ∀ b, b < V.heap.size → b ≠ M → Z2.heap[b]? = V.heap[b]? := fun b b1 b2 => y3.block b b1 (fun e => b2 (Option.some.inj e))
      have ys2 : V.heap.size ≤ Z2.heap.size := y3.size
      refine ⟨Z2, y1, ?_, hFV.grown (show V.grownBy Z2 (some M) from ⟨y3.os, y3.tape, y3.output, y3.size, y3.block⟩) (fun q e => by cases e; exact Or.inl h.inM)⟩
      obtain ⟨bl', b1, b2, b3⟩ := mx_held (Y := Z2) (n' := n + 1) h hd y2 (fun q q1 q2 q3 q4 => by
          have := (h.rng q q1).2
          rw [y4 q (by omega) q2]; exact hvb q q1 q2 q3 q4) (by omega)
        (ownsRow_block r1 fun q hq => by simp [Value.ownBlock] at hq; subst hq; exact y4 _ (by omega) gM) (ownsRow_block r2 fun q hq => by simp [Value.ownBlock] at hq; subst hq; exact y4 _ (by omega) kM) hvv
      exact ⟨bl', b1, b2, _, _, _, _, _, b3, (G2 e).1, szs_set hd _ _⟩

end Go.Proofs.Ytahhbehpgolinaa.Me
