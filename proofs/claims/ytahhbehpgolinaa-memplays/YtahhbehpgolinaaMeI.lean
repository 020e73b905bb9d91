/-
  Store: contracts over the program; the conditions: a memory lies there.
-/
import Derived.Test.YtahhbehpgolinaaMeH
namespace Go.Proofs.Ytahhbehpgolinaa.Me
open Go.RowKit
set_option linter.unusedVariables false

theorem mx_map {w Y : World} {B : Nat} {bl : Nat → Prop} {p n n' : Nat} {L : List Bk} {F F' : FF} {t : Int} {M : Nat} {la : Option Addr} {lc : Nat} (h : MX w B bl p n L F t M la lc) (hM : Mc Y M n' F') (hY : ∀ k, bl k → k ≠ M → Y.heap[k]? = w.heap[k]?) (hs : w.heap.size ≤ Y.heap.size) : MX Y B bl p n' L F' t M la lc :=
  ⟨fun k hk => ⟨(h.rng k hk).1, Nat.lt_of_lt_of_le (h.rng k hk).2 hs⟩, h.inp, h.inM, h.Mnp, h.own, by rw [hY p h.inp (fun e => h.Mnp e.symm)]; exact h.cells, hM, ownsRow_block h.row fun k hk => hY k (h.own k hk).1 (h.own k hk).2.2,
    fun i d e => ownsRow_block (h.hld i d e) fun k hk => hY k (h.hin i d k e hk).1 (h.hin i d k e hk).2.2.1, h.hin, h.dif⟩

theorem upd_zero {f : Int → Int → Int} {a b : Int} (h : f a b = 0) : upd f a b 0 = f := by
  funext x y
  simp only [upd]
  split
  · rename_i e
    rw [e.1, e.2, h]
  · rfl
theorem held_i64 {A : Nat → Prop} {n : Nat} {L : List Bk} {f : Int → Int → Int} {F : FF} (hf : MF A n L f F) {i : Nat} {d : Bk} (hA : A i) (hd : L[i]? = some d) (hc : ∀ c ∈ szs L, c ≤ 100000) : ∀ o ∈ d.H, I64 o := fun o ho => by
  obtain ⟨k, hk⟩ := List.mem_iff_getElem?.1 ho
  obtain ⟨v, hv⟩ := hf.lst i d k o hA hd hk
  have hz : f i o ≠ 0 := fun q => by rw [hf.none.2 q] at hv; cases hv
  cases e : inB (szs L) i o
  · exact absurd (hf.out _ _ e) hz
  · obtain ⟨i', j', c, e1, e2, e3, e4⟩ := inB_iff.1 e
    have := hc c (List.mem_of_getElem? e3)
    exact ⟨by omega, by omega⟩

set_option maxRecDepth 100000 in
theorem store_none {w : World} {B : Nat} {bl : Nat → Prop} {p n : Nat} {bs : List Nat} {f : Int → Int → Int} {t : Int} (h : MI w B bl p n bs f t) (a b v : Int) (hl : bs.length ≤ 1000000) (hin : inB bs a b = false) :
    Calls Try.prog 16 #[.pointer (some ⟨p, 0, none⟩), kv a b, .int .i64 v] w fun e w' => e = .returned (.int .i64 12) ∧ Below w.heap.size w w' := by
  obtain ⟨L, F, M, la, lc, h, hf, hs⟩ := h
  have hll : L.length ≤ 1000000 := by rw [← hs] at hl; simpa [szs] using hl
  have H := hideIt (h.kept (w' := w.alloc (.cells #[.int .i64 a, .int .i64 b] 31)) (fun k hk => Below.heap_alloc _ _ _ (h.rng k hk).2) (by simp))
  have HL := hideIt hll
  subst hs
  clear h hl hll hf
  have hk : kv a b = .agg #[.int .i64 a, .int .i64 b] := rfl
  rw [hk]
  go_enter Try.func16, Try.ntmps16
  go_wp2_with (first | (go_at_call 21; refine (has_mx H.out a b HL.out).mono ?_; rw [hin]; rintro e x1 ⟨rfl, hb⟩; have HB := hideIt hb; clear hb) | fail)
  go_ret
  exact ⟨rfl, ((Below.refl _ _).alloc (Nat.le_refl _) _).trans (HB.out.mono (by simp))⟩

set_option maxHeartbeats 1000000 in
theorem store_ok {w : World} {B : Nat} {bl : Nat → Prop} {p n : Nat} {bs : List Nat} {f : Int → Int → Int} {t : Int} (h : MI w B bl p n bs f t) (a b v : Int) (hl : bs.length ≤ 1000000) (hc : ∀ c ∈ bs, c ≤ 100000) (hn : n ≤ 100000000) (hin : inB bs a b = true) :
    Calls Try.prog 16 #[.pointer (some ⟨p, 0, none⟩), kv a b, .int .i64 v] w fun e w' => e = .returned (.int .i64 0) ∧
      (∃ bl' : Nat → Prop, (∀ k, bl k → bl' k) ∧ (∀ k, bl' k → bl k ∨ w.heap.size ≤ k) ∧ MI w' B bl' p (n + 1) bs (upd f a b v) t) ∧ Fr bl w w' := by
  obtain ⟨L, F, M, la, lc, h, hf, rfl⟩ := h
  have hll : L.length ≤ 1000000 := by simpa [szs] using hl
  have hnm : n < maxLen := by unfold maxLen; omega
  obtain ⟨i, j, c, rfl, rfl, hci, hj⟩ := inB_iff.1 hin
  obtain ⟨d, hd, rfl⟩ : ∃ d, L[i]? = some d ∧ d.c = c := by
    simp [szs] at hci
    exact hci
  have hil := (List.getElem?_eq_some_iff.1 hd).1
  have hcc := hc _ (List.mem_of_getElem? hci)
  have hI : I64 (i : Int) := ⟨by omega, by omega⟩
  have hJ : I64 (j : Int) := ⟨by omega, by omega⟩
  have hMl := h.map.lt
  have hhas : hasB w p i j := by
    have := has_mx (h.kept (w' := w.alloc (.cells #[.int .i64 (i : Int), .int .i64 (j : Int)] 31)) (fun k hk => Below.heap_alloc _ _ _ (h.rng k hk).2) (by simp)) i j hll
    rw [hin] at this
    exact this
  have xb : ∀ x1, behB w i j x1 → Below w.heap.size w x1 ∧ w.heap.size + 1 ≤ x1.heap.size ∧ x1.heap[w.heap.size]? = some (.cells #[.int .i64 (i : Int), .int .i64 (j : Int)] 31 (0, 0)) := fun x1 hx => by
    refine ⟨((Below.refl _ _).alloc (Nat.le_refl _) _).trans (hx.mono (by simp)), by have := hx.size; simpa using this, ?_⟩
    rw [hx.block w.heap.size (by simp)]
    exact heap_alloc_new w _
  have hSA : ∀ x1, behB w i j x1 → SA x1 p M w.heap.size i j (c1 (F i j)) (c2 (F i j)) (F i j).isSome := fun x1 hx => by
    obtain ⟨x2, x3, x4⟩ := xb x1 hx
    have a1 : x1.cell? ⟨p, 0, none⟩ = some (.map (some M)) := cell_of_block ((x2.block p (lt_of_some h.cells)).trans h.cells) 0
    have a2 := cell_of_block x4 0
    have a3 := cell_of_block x4 1
    have hm := x2.block M hMl
    exact ⟨a1, a2, a3, fun ob => cell_box a1 ob, fun ob => cell_box a2 ob, fun ob => cell_box a3 ob, (h.map.kept (w' := x1.drew) hm).lookok hI hJ,
      fun ob => (h.map.kept (w' := (x1.alloc ob).drew) ((Below.heap_alloc x1 ob M (by omega)).trans hm)).lookok hI hJ⟩
  have yb : ∀ x1 Y, behB w i j x1 → Sm Y (boxS x1 (c1 (F i j)) (c2 (F i j))) → (∀ k, k < w.heap.size → Y.heap[k]? = w.heap[k]?) ∧ w.heap.size + 2 ≤ Y.heap.size ∧ Fr bl w Y ∧ MX Y B bl p n L F t M la lc ∧ SB Y p M w.heap.size x1.heap.size i j (c2 (F i j)) := fun x1 Y hx hY => by
    obtain ⟨x2, x3, x4⟩ := xb x1 hx
    have y1 : ∀ k, k < x1.heap.size → Y.heap[k]? = x1.heap[k]? := fun k hk => by rw [hY.heap]; exact Below.heap_alloc _ _ _ hk
    have y2 : ∀ k, k < w.heap.size → Y.heap[k]? = w.heap[k]? := fun k hk => (y1 k (by omega)).trans (x2.block k hk)
    have ys : Y.heap.size = x1.heap.size + 1 := by rw [hY.heap]; simp
    have yO : Y.heap[x1.heap.size]? = some (.cells #[.int .i64 (c1 (F i j)), .int .i64 (c2 (F i j))] 65 (0, 0)) := by rw [hY.heap]; exact heap_alloc_new x1 _
    refine ⟨y2, by omega, ⟨hY.os.trans x2.os, hY.tape.trans x2.tape, hY.output.trans x2.output, by omega, fun k hk _ => y2 k hk⟩, h.kept (fun k hk => y2 k (h.rng k hk).2) (by omega), ?_⟩
    have yN := (y1 w.heap.size (by omega)).trans x4
    exact ⟨cell_of_block ((y2 p (lt_of_some h.cells)).trans h.cells) 0, cell_of_block yN 0, cell_of_block yN 1, cell_of_block yO 1⟩
  have hk : kv i j = .agg #[.int .i64 (i : Int), .int .i64 (j : Int)] := rfl
  rw [hk]
  by_cases hv : v = 0
  · subst hv
    cases hF : F i j with
    | none =>
      rw [hF] at hSA yb
      have hz := hf.none.1 hF
      rw [upd_zero hz]
      refine store_stay p M i j (c1 none) (c2 none) w.heap.size rfl hhas _ fun x1 hx => ⟨hSA x1 hx, fun Y hY => ?_⟩
      obtain ⟨q1, q2, q3, q4, q5⟩ := yb x1 Y hx hY
      exact ⟨⟨bl, fun _ h => h, fun _ h => Or.inl h, L, F, M, la, lc, mx_map q4 (q4.map.mono (Nat.le_succ _)) (fun _ _ _ => rfl) (Nat.le_refl _), hf.mono (Nat.le_succ _), rfl⟩, q3⟩
    | some o =>
      obtain ⟨v0, kk⟩ := o
      obtain ⟨p1, -⟩ := hf.pos i d j v0 kk hd hF
      obtain ⟨k, rfl⟩ : ∃ k : Nat, kk = (k : Int) := ⟨kk.toNat, by omega⟩
      rw [hF] at hSA yb
      refine store_gone p M i j v0 k w.heap.size rfl hhas _ fun x1 hx => ⟨hSA x1 hx, fun Y hY => ?_⟩
      obtain ⟨q1, q2, q3, q4, q5⟩ := yb x1 Y hx hY
      refine ⟨q5, (drop_any q4 hf hd hin hF hI (held_i64 hf trivial hd hc) hll hn).mono ?_⟩
      rintro e w' ⟨rfl, ⟨bl', b1, b2, b3⟩, hF'⟩
      exact ⟨rfl, ⟨bl', b1, fun k hk => (b2 k hk).imp id (fun e => by omega), b3⟩, q3.trans hF'⟩
  · cases hF : F i j with
    | some o =>
      obtain ⟨v0, kk⟩ := o
      rw [hF] at hSA yb
      refine store_over p M i j v v0 kk hv w.heap.size rfl hhas _ fun x1 hx => ⟨hSA x1 hx, fun Y hY => ?_⟩
      obtain ⟨q1, q2, q3, q4, q5⟩ := yb x1 Y hx hY
      refine ⟨q5, ?_⟩
      obtain ⟨Z, z1, z2, z3⟩ := (q4.map.kept (w' := Y.drew) rfl).store hnm hI hJ v kk
      refine ⟨Z, z1, ⟨bl, fun _ h => h, fun _ h => Or.inl h, L, _, M, la, lc, mx_map q4 z2 (fun k k1 k2 => z3.block k (q4.rng k k1).2 (fun e => k2 (Option.some.inj e))) z3.size, mf_over hf hin hv hF, rfl⟩, ?_⟩
      exact q3.grown (show Y.grownBy Z (some M) from ⟨z3.os, z3.tape, z3.output, z3.size, z3.block⟩) (fun q e => by cases e; exact Or.inl h.inM)
    | none =>
      rw [hF] at hSA yb
      obtain ⟨g, rfl, -, -, -⟩ := h.at hd
      obtain ⟨wa, hc', ev, hv1, hv2⟩ := ownsRow_form (h.hld i d hd)
      have hdl := hf.len i d hd
      obtain ⟨gb, gp, gM⟩ := h.own g rfl
      refine store_new p M g i L.length lc B (j : Int) v (c1 none) (c2 none) wa d.H hc' hll hil (by omega) hv w.heap.size rfl hhas _ fun x1 hx => ⟨hSA x1 hx, fun Y hY => ?_⟩
      obtain ⟨q1, q2, q3, q4, q5⟩ := yb x1 Y hx hY
      obtain ⟨g', e', -, y5, -⟩ := q4.at hd
      cases e'
      rw [ev] at y5
      refine ⟨q5, cell_of_block q4.cells 1, y5, ?_⟩
      obtain ⟨Z, z1, z2, z3⟩ := (q4.map.kept (w' := Y.drew.drew) rfl).store hnm hI hJ v (d.H.length : Int)
      have zb : ∀ k, k < Y.heap.size → k ≠ M → Z.heap[k]? = Y.heap[k]? := fun k k1 k2 => z3.block k k1 (fun e => k2 (Option.some.inj e))
      have zs : Y.heap.size ≤ Z.heap.size := z3.size
      have hgY := (q4.rng g gb).2
      have zMX : MX Z B bl p (n + 1) L (updF F i j (some (v, (d.H.length : Int)))) t M (some ⟨g, 0, none⟩) lc := mx_map q4 z2 (fun k k1 k2 => zb k (q4.rng k k1).2 k2) zs
      have zF : Fr bl w Z := q3.grown (show Y.grownBy Z (some M) from ⟨z3.os, z3.tape, z3.output, z3.size, z3.block⟩) (fun q e => by cases e; exact Or.inl h.inM)
      obtain ⟨g', e', -, z5, z6⟩ := zMX.at hd
      cases e'
      rw [ev] at z5
      have hob : (Value.slice wa d.H.length hc').ownBlock ≠ some g := fun e => (h.hin i d g hd (by rw [ev]; exact e)).2.2.2 rfl
      have zN : Z.cell? ⟨w.heap.size, 1, none⟩ = some (.int .i64 (j : Int)) := by
        have := q5.n1
        rw [← this]
        simp only [World.cell?]
        rw [zb _ (by omega) (by omega)]
      have gd : ∀ X : World, X.heap = (Z.alloc (.cells #[.int .i64 (j : Int)] 3)).heap → ∀ k, k < Z.heap.size → X.heap[k]? = Z.heap[k]? := fun X hX k hk => by rw [hX]; exact Below.heap_alloc _ _ _ hk
      have hgZ : g < Z.heap.size := by omega
      obtain ⟨gg, gcap, gcur, eg, hgb, -, -, -, -⟩ := ownsRow_blk zMX.row (by omega)
      simp only [Value.slice.injEq, Option.some.injEq, Addr.mk.injEq] at eg
      obtain ⟨⟨rfl, -⟩, -, rfl⟩ := eg
      have beh : ∀ X w1 : World, X.grownBy w1 (Value.slice wa d.H.length hc').ownBlock → Sm X (Z.alloc (.cells #[.int .i64 (j : Int)] 3)) → ∀ k, k < Z.heap.size → (Value.slice wa d.H.length hc').ownBlock ≠ some k → w1.heap[k]? = Z.heap[k]? := fun X w1 hg hX k k1 k2 => by
        rw [hg.block k (by rw [hX.heap]; simp; omega) (fun e => k2 e.symm)]
        exact gd X hX.heap k k1
      refine ⟨Z, z1, ⟨z5, zN, fun ob => cell_box z5 ob, fun X hX => ⟨?_, ?_, ?_, ?_⟩, fun X w1 hg hX => ?_, fun X w1 g2 cap hg hX ho hat => ?_⟩⟩
      · have := zMX.hld i d hd
        rw [ev] at this
        exact ownsRow_block this fun k hk => gd X hX k (zMX.rng k (zMX.hin i d k hd (by rw [ev]; exact hk)).1).2
      · have hnb : X.heap[Z.heap.size]? = some (.cells #[.int .i64 (j : Int)] 3 (0, 0)) := by rw [hX]; exact heap_alloc_new Z _
        exact World.news_of_block hnb
      · rw [hX]
        have := (zMX.rng p zMX.inp).1
        have := (zMX.rng p zMX.inp).2
        simp; omega
      · rw [hX]; simp
      · have := (beh X w1 hg hX g hgZ hob).trans hgb
        refine ⟨?_, free_of_block this _⟩
        rw [← z5]
        simp only [World.cell?]
        rw [beh X w1 hg hX g hgZ hob]
      · have r0 := ownsRow_block (w' := w1) zMX.row fun k hk => by simp [Value.ownBlock] at hk; subst hk; exact beh X w1 hg hX _ hgZ hob
        have hsz : Z.heap.size + 1 ≤ w1.heap.size := by have := hg.size; rw [hX.heap] at this; simpa using this
        have hg2 : g2 ≠ g := fun e => by
          rcases hat with q | q
          · exact hob (by rw [q, e])
          · omega
        obtain ⟨bl', b1, b2, b3⟩ := mx_held (Y := w1.setCell ⟨g, i * 2 + 1, none⟩ (.slice (some ⟨g2, 0, none⟩) (d.H.length + 1) cap)) (H' := d.H ++ [(j : Int)]) (v' := .slice (some ⟨g2, 0, none⟩) (d.H.length + 1) cap) (n' := n + 1) zMX hd
          (z2.kept (by rw [Below.heap_setCell _ _ _ _ (fun e => gM e.symm)]; exact beh X w1 hg hX M (by omega) (fun e => (h.hin i d M hd (by rw [ev]; exact e)).2.2.1 rfl)))
          (fun k k1 k2 k3 k4 => by
            rw [Below.heap_setCell _ _ _ _ (fun e => k3 (by rw [e]; rfl))]
            exact beh X w1 hg hX k (zMX.rng k k1).2 (fun e => k4 (by rw [ev]; exact e))) (by simp; omega)
          (ownsRow_set r0 (by omega) _)
          (by
            have e1 : rowN (d.H ++ [(j : Int)]) = rowN d.H ++ [.int .i64 (j : Int)] := by simp [rowN]
            rw [e1, List.length_append]
            exact ownsRow_block ho fun k hk => by simp [Value.ownBlock] at hk; subst hk; exact Below.heap_setCell _ _ _ _ hg2)
          (fun k hk => by
            simp [Value.ownBlock] at hk
            subst hk
            rcases hat with q | q
            · exact Or.inl (by rw [ev]; exact q)
            · have := (zMX.rng p zMX.inp)
              exact Or.inr ⟨by omega, by omega⟩)
        refine ⟨⟨bl', b1, fun k hk => (b2 k hk).imp id (fun e => by omega), _, _, _, _, _, b3, mf_new hf hd hin hv hF _, szs_set hd _ _⟩, ?_⟩
        have f1 : Fr bl w X := ⟨hX.os.trans zF.os, hX.tape.trans zF.tape, hX.output.trans zF.output, by rw [hX.heap]; have := zF.size; simp; omega, fun k k1 k2 => (gd X hX.heap k (by have := zF.size; omega)).trans (zF.block k k1 k2)⟩
        exact (f1.grown hg (fun k hk => Or.inl (h.hin i d k hd (by rw [ev]; exact hk)).1)).setCell (Or.inl gb) _

end Go.Proofs.Ytahhbehpgolinaa.Me
