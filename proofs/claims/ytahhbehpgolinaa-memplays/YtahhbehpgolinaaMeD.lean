/-
  Alloc: contracts over the program; the conditions: a memory lies there.
-/
import Derived.Test.YtahhbehpgolinaaMeC
namespace Go.Proofs.Ytahhbehpgolinaa.Me
open Go.RowKit
set_option linter.unusedVariables false

theorem alloc_lim {w : World} {B : Nat} {bl : Nat → Prop} {p n : Nat} {bs : List Nat} {f : Int → Int → Int} {t : Int} (h : MI w B bl p n bs f t) (ht : 0 ≤ t) (ht2 : t ≤ 65536) (c : Int) (hc : 0 ≤ c) (hc2 : 65536 - t < c) :
    Calls Try.prog 10 #[.pointer (some ⟨p, 0, none⟩), .int .i64 c] w fun e w' => e = .returned (.tuple #[.int .i64 0, .int .i64 11]) ∧ w' = w := by
  obtain ⟨L, F, M, la, lc, h, -, hs⟩ := h
  have c1 : w.cell? ⟨p, 2, none⟩ = some (.int .i64 t) := cell_of_block h.cells 2
  clear h hs
  go_enter Try.func10, Try.ntmps10
  go_wp2
  all_goals first | (go_ret2; exact ⟨rfl, rfl⟩) | (exfalso; omega)

theorem infoB : (Try.prog.info? 61).map (fun i => (i.zero, i.size, i.bytes)) = some (some (.agg #[.int .i64 0, .slice none 0 0]), 2, 32) := by kernel_rfl

theorem alloc_mx {w w1 : World} {B : Nat} {bl : Nat → Prop} {p n : Nat} {L : List Bk} {F : FF} {t : Int} {M : Nat} {la : Option Addr} {lc : Nat} (h : MX w B bl p n L F t M la lc) {g cap c : Nat} {o : Obj} {t' : Int}
    (ho : w1.ownsRow B 61 2 (.slice (some ⟨g, 0, none⟩) (L.length + 1) cap) (L.length + 1) (bkCells L ++ [.int .i64 (c : Int), .slice none 0 0])) (hg : (w.alloc o).grownBy w1 (Value.slice la L.length lc).ownBlock)
    (hat : (Value.slice la L.length lc).ownBlock = some g ∨ g = w.heap.size + 1) :
    (∃ bl' : Nat → Prop, (∀ k, bl k → bl' k) ∧ (∀ k, bl' k → bl k ∨ w.heap.size ≤ k) ∧ MX ((w1.setCell ⟨p, 1, none⟩ (.slice (some ⟨g, 0, none⟩) (L.length + 1) cap)).setCell ⟨p, 2, none⟩ (.int .i64 t')) B bl' p n (L ++ [⟨c, [], .slice none 0 0⟩]) F t' M (some ⟨g, 0, none⟩) cap) ∧
      Fr bl w ((w1.setCell ⟨p, 1, none⟩ (.slice (some ⟨g, 0, none⟩) (L.length + 1) cap)).setCell ⟨p, 2, none⟩ (.int .i64 t')) := by
  have hgl := own_lt ho rfl
  have hp : p < w.heap.size := lt_of_some h.cells
  have hM : M < w.heap.size := h.map.lt
  have hgp : g ≠ p := by
    rcases hat with e | e
    · exact (h.own g e).2.1
    · omega
  have hgM : g ≠ M := by
    rcases hat with e | e
    · exact (h.own g e).2.2
    · omega
  have hF1 : Fr bl w w1 := ((Fr.refl bl w).alloc o).grown hg (fun k hk => Or.inl (h.own k hk).1)
  have blk : ∀ k, k < w.heap.size → (Value.slice la L.length lc).ownBlock ≠ some k → w1.heap[k]? = w.heap[k]? := fun k hk e => by
    rw [hg.block k (by simp; omega) (fun e' => e e'.symm)]
    exact Below.heap_alloc _ _ _ hk
  have q1 : w1.heap[p]? = w.heap[p]? := blk p hp (fun e => (h.own p e).2.1 rfl)
  have q2 : w1.heap[M]? = w.heap[M]? := blk M hM (fun e => (h.own M e).2.2 rfl)
  have hF : Fr bl w ((w1.setCell ⟨p, 1, none⟩ (.slice (some ⟨g, 0, none⟩) (L.length + 1) cap)).setCell ⟨p, 2, none⟩ (.int .i64 t')) := (hF1.setCell (Or.inl h.inp) _).setCell (Or.inl h.inp) _
  have hgk : ∀ (i : Nat) (d : Bk) (k : Nat), L[i]? = some d → d.v.ownBlock = some k → k ≠ g := fun i d k hi hk e => by
    rcases hat with e1 | e1
    · exact (h.hin i d k hi hk).2.2.2 (by rw [e1, e])
    · have := (h.rng k (h.hin i d k hi hk).1).2; omega
  have each : ∀ (i : Nat) (d : Bk), (L ++ [⟨c, [], .slice none 0 0⟩])[i]? = some d → L[i]? = some d ∨ (i = L.length ∧ d = ⟨c, [], .slice none 0 0⟩) := fun i d e => by
    by_cases hi : i < L.length
    · rw [List.getElem?_append_left hi] at e; exact Or.inl e
    · have hi' : i = L.length := by
        have := (List.getElem?_eq_some_iff.1 e).1
        simp at this
        omega
      subst hi'
      simp at e
      exact Or.inr ⟨rfl, e.symm⟩
  have hlen : (L ++ [(⟨c, [], .slice none 0 0⟩ : Bk)]).length = L.length + 1 := by simp
  refine ⟨⟨fun k => bl k ∨ k = g, fun k hk => Or.inl hk, fun k hk => ?_, ?_⟩, hF⟩
  · rcases hk with hk | rfl
    · exact Or.inl hk
    · rcases hat with e | e
      · exact Or.inl (h.own k e).1
      · exact Or.inr (by omega)
  · refine ⟨fun k hk => ?_, Or.inl h.inp, Or.inl h.inM, h.Mnp, fun k hk => ?_, ?_, ?_, ?_, fun i d e => ?_, fun i d k e hk => ?_, fun i j d e k h1 h2 h3 h4 => ?_⟩
    · rcases hk with hk | rfl
      · have := h.rng k hk
        have := hF.size
        simp at this ⊢
        omega
      · have := ho.2
        refine ⟨?_, by simp; omega⟩
        rcases ho.2 with ⟨q, _⟩ | ⟨g', cap', cur, q, hb, _⟩
        · cases q
        · simp at q
          obtain ⟨rfl, rfl⟩ := q
          exact hb
    · simp [Value.ownBlock] at hk
      subst hk
      exact ⟨Or.inr rfl, hgp, hgM⟩
    · rw [block_setCell (block_setCell (q1.trans h.cells) _), hlen]
      simp
    · refine h.map.kept ?_
      rw [Below.heap_setCell _ _ _ _ h.Mnp, Below.heap_setCell _ _ _ _ h.Mnp]
      exact q2
    · rw [bkCells_append, hlen]
      have e : bkCells [⟨c, [], .slice none 0 0⟩] = [.int .i64 (c : Int), .slice none 0 0] := rfl
      rw [e]
      refine ownsRow_block ho fun k hk => ?_
      simp [Value.ownBlock] at hk
      subst hk
      rw [Below.heap_setCell _ _ _ _ hgp, Below.heap_setCell _ _ _ _ hgp]
    · rcases each i d e with e | ⟨-, rfl⟩
      · refine ownsRow_block (h.hld i d e) fun k hk => ?_
        obtain ⟨k1, k2, k3, k4⟩ := h.hin i d k e hk
        rw [Below.heap_setCell _ _ _ _ k2, Below.heap_setCell _ _ _ _ k2]
        exact blk k (h.rng k k1).2 k4
      · exact World.ownsRow_nil _ _ _ _
    · rcases each i d e with e | ⟨-, rfl⟩
      · obtain ⟨k1, k2, k3, k4⟩ := h.hin i d k e hk
        exact ⟨Or.inl k1, k2, k3, by simp [Value.ownBlock]; exact fun q => hgk i d k e hk q.symm⟩
      · cases hk
    · rcases each i d h1 with h1 | ⟨-, rfl⟩
      · rcases each j e h2 with h2 | ⟨-, rfl⟩
        · exact h.dif i j d e k h1 h2 h3 h4
        · cases h4
      · cases h3

theorem alloc_mf {A : Nat → Prop} {n : Nat} {L : List Bk} {f : Int → Int → Int} {F : FF} (h : MF A n L f F) (c : Nat) : MF A n (L ++ [⟨c, [], .slice none 0 0⟩]) f F := by
  have hs : szs (L ++ [⟨c, [], .slice none 0 0⟩]) = szs L ++ [c] := by simp [szs]
  have hz : ∀ b, f (L.length : Int) b = 0 := fun b => h.out _ b (by simp [inB, szs])
  have each : ∀ (i : Nat) (d : Bk), (L ++ [⟨c, [], .slice none 0 0⟩])[i]? = some d → L[i]? = some d ∨ (i = L.length ∧ d = ⟨c, [], .slice none 0 0⟩) := fun i d e => by
    by_cases hi : i < L.length
    · rw [List.getElem?_append_left hi] at e; exact Or.inl e
    · have hi' : i = L.length := by
        have := (List.getElem?_eq_some_iff.1 e).1
        simp at this
        omega
      subst hi'
      simp at e
      exact Or.inr ⟨rfl, e.symm⟩
  refine ⟨h.val, fun a b e => h.out a b ?_, fun i d b v k e hF => ?_, fun i d k o hA e hk => ?_, fun i d e => ?_⟩
  · cases e2 : inB (szs L) a b
    · rfl
    · rw [hs, inB_snoc c e2] at e
      cases e
  · rcases each i d e with e | ⟨rfl, rfl⟩
    · exact h.pos i d b v k e hF
    · rw [h.none.2 (hz b)] at hF; cases hF
  · rcases each i d e with e | ⟨rfl, rfl⟩
    · exact h.lst i d k o hA e hk
    · simp at hk
  · rcases each i d e with e | ⟨rfl, rfl⟩
    · exact h.len i d e
    · exact Nat.zero_le _

set_option maxRecDepth 100000 in
set_option maxHeartbeats 1000000 in
theorem alloc_ok {w : World} {B : Nat} {bl : Nat → Prop} {p n : Nat} {bs : List Nat} {f : Int → Int → Int} {t : Int} (h : MI w B bl p n bs f t) (ht : 0 ≤ t) (ht2 : t ≤ 65536) (c : Nat) (hc2 : (c : Int) ≤ 65536 - t) (hl : bs.length ≤ 1000000) :
    Calls Try.prog 10 #[.pointer (some ⟨p, 0, none⟩), .int .i64 (c : Int)] w fun e w' => e = .returned (.tuple #[.int .i64 bs.length, .int .i64 0]) ∧
      (∃ bl' : Nat → Prop, (∀ k, bl k → bl' k) ∧ (∀ k, bl' k → bl k ∨ w.heap.size ≤ k) ∧ MI w' B bl' p n (bs ++ [c]) f (t + c)) ∧ Fr bl w w' := by
  obtain ⟨L, F, M, la, lc, h, hf, hs⟩ := h
  have hsl : bs.length = L.length := by rw [← hs]; simp [szs]
  rw [hsl] at hl ⊢
  obtain ⟨i0, hi, hz0, hz1, hz2⟩ := info_parts infoB
  have HT := hideIt (And.intro hi (And.intro hz0 (And.intro hz1 hz2)))
  clear hi hz0 hz1 hz2
  have c1 : w.cell? ⟨p, 1, none⟩ = some (.slice la L.length lc) := cell_of_block h.cells 1
  have c2 : w.cell? ⟨p, 2, none⟩ = some (.int .i64 t) := cell_of_block h.cells 2
  have hp := lt_of_some h.cells
  have hnp : (Value.slice la L.length lc).ownBlock ≠ some p := fun e => (h.own p e).2.1 rfl
  have hB := hideIt (show B ≤ w.heap.size by have := h.rng p h.inp; omega)
  have HR := hideIt (ownsRow_block (w' := w.alloc (.cells #[.int .i64 (c : Int), .slice none 0 0] 61)) h.row (fun k hk => Below.heap_alloc _ _ _ (h.rng k (h.own k hk).1).2))
  have HP := hideIt (show ∀ w1, (w.alloc (.cells #[.int .i64 (c : Int), .slice none 0 0] 61)).grownBy w1 (Value.slice la L.length lc).ownBlock → w1.cell? ⟨p, 1, none⟩ = some (.slice la L.length lc) ∧ w1.cell? ⟨p, 2, none⟩ = some (.int .i64 t) ∧ w1.frozen? ⟨p, 1, none⟩ = false ∧ w1.frozen? ⟨p, 2, none⟩ = false by
    intro w1 hg
    have q1 : w1.heap[p]? = some (.cells #[.map (some M), .slice la L.length lc, .int .i64 t] 58 (0, 0)) := by
      rw [hg.block p (by simp; omega) (Ne.symm hnp), Below.heap_alloc _ _ _ hp]
      exact h.cells
    exact ⟨cell_of_block q1 1, cell_of_block q1 2, free_of_block q1 1, free_of_block q1 2⟩)
  have HA := hideIt (show ∀ (w1 : World) (g cap : Nat), w1.ownsRow B 61 2 (.slice (some ⟨g, 0, none⟩) (L.length + 1) cap) (L.length + 1) (bkCells L ++ [.int .i64 (c : Int), .slice none 0 0]) → (w.alloc (.cells #[.int .i64 (c : Int), .slice none 0 0] 61)).grownBy w1 (Value.slice la L.length lc).ownBlock → ((Value.slice la L.length lc).ownBlock = some g ∨ g = w.heap.size + 1) →
      (∃ bl' : Nat → Prop, (∀ k, bl k → bl' k) ∧ (∀ k, bl' k → bl k ∨ w.heap.size ≤ k) ∧ MI ((w1.setCell ⟨p, 1, none⟩ (.slice (some ⟨g, 0, none⟩) (L.length + 1) cap)).setCell ⟨p, 2, none⟩ (.int .i64 (t + c))) B bl' p n (bs ++ [c]) f (t + c)) ∧ Fr bl w ((w1.setCell ⟨p, 1, none⟩ (.slice (some ⟨g, 0, none⟩) (L.length + 1) cap)).setCell ⟨p, 2, none⟩ (.int .i64 (t + c))) from
    fun w1 g cap ho hg hat => by
      obtain ⟨⟨bl', b1, b2, b3⟩, hF⟩ := alloc_mx (t' := t + c) h ho hg hat
      exact ⟨⟨bl', b1, b2, _, _, _, _, _, b3, alloc_mf hf c, by rw [← hs]; simp [szs]⟩, hF⟩)
  clear h hf hs hsl hnp
  go_enter Try.func10, Try.ntmps10
  go_wp2_with (first | (at_builtin; refine wpList_append_lies _ rfl _ _ 56 rfl B 61 i0 (.agg #[.int .i64 0, .slice none 0 0]) 2 32 Try.underlying56 HT.out.1 HT.out.2.1 HT.out.2.2.1 HT.out.2.2.2 rfl (by decide) (.slice la L.length lc) L.length (bkCells L) rfl HR.out ⟨w.heap.size, 0, none⟩ 1 1 [.int .i64 (c : Int), .slice none 0 0] rfl rfl (World.news_of_block (heap_alloc_new w _)) (by intro u hu; simp at hu; rcases hu with rfl | rfl <;> rfl) (by decide) (by unfold maxLen; omega) (by omega) (by have := hB.out; simp; omega) (w.heap.size + 1) (by simp) ?_; intro g cap w1 hown hgrow hat hlt; obtain ⟨k1, k2, k3, k4⟩ := HP.out w1 hgrow; have HO := hideIt hown; have HG := hideIt hgrow; have HQ := hideIt hat; clear hown hgrow hat) | fail)
  all_goals first | (exfalso; omega) | (go_ret2; exact ⟨rfl, HA.out w1 g cap HO.out HG.out HQ.out⟩)

end Go.Proofs.Ytahhbehpgolinaa.Me
