/-
  Load and Alloc: contracts over the program; the conditions: a memory lies there, or the pointer is nil.
-/
import Derived.Test.YtbmkmllehppiiaaMemB
import Derived.Deep.AppendLies
namespace Go.Proofs.Ytbmkmllehppiiaa
open Go.RowKit
set_option linter.unusedVariables false

theorem load_facts {w : World} {B : Nat} {bl : Nat → Prop} {p n : Nat} {bs : List Nat} {f : Int → Int → Int} {t : Int} (h : MI w B bl p n bs f t) {a b : Int} (ha : I64 a) (hb : I64 b) :
    ∃ M, ∀ x1, Below (w.heap.size + 1) (w.alloc (.cells #[.int .i64 a, .int .i64 b] 31)) x1 → x1.cell? ⟨p, 0, none⟩ = some (.map (some M)) ∧
      (∀ j, (Instr.lookup 55 (.map (some M)) (.agg #[.int .i64 a, .int .i64 b]) false).run Try.prog (x1.drewN j) = .ok (.int .i64 (f a b)) (x1.drewN j)) ∧ x1.cell? ⟨w.heap.size, 0, none⟩ = some (.int .i64 a) ∧ x1.cell? ⟨w.heap.size, 1, none⟩ = some (.int .i64 b) := by
  obtain ⟨M, la, lc, L, h1, h2, h3, h4, h5, h6, h7, h8⟩ := h.ex
  refine ⟨M, fun x1 hx => ?_⟩
  have c0 : w.cell? ⟨p, 0, none⟩ = some (.map (some M)) := cell_of_block h6 0
  have hlt := lt_of_some h6
  have hM := h7.lt
  refine ⟨?_, ?_, ?_, ?_⟩
  · rw [hx.cell (p := ⟨p, 0, none⟩) (by simp; omega)]
    exact cell_box c0 _
  · have e : x1.heap[M]? = w.heap[M]? := by rw [hx.block M (by omega)]; exact Below.heap_alloc _ _ _ hM
    exact fun j => ((h7.kept (w' := x1.drewN j) e).look ha hb).1
  · rw [hx.cell (p := ⟨w.heap.size, 0, none⟩) (by simp)]
    exact cell_new rfl _ _ 0
  · rw [hx.cell (p := ⟨w.heap.size, 1, none⟩) (by simp)]
    exact cell_new rfl _ _ 1

set_option maxRecDepth 100000 in
theorem load_any {w : World} {B : Nat} {bl : Nat → Prop} {p n : Nat} {bs : List Nat} {f : Int → Int → Int} {t : Int} (h : MI w B bl p n bs f t) {a b : Int} (ha : I64 a) (hb : I64 b) (hl : bs.length ≤ 1000000) :
    Calls Try.prog 14 #[.pointer (some ⟨p, 0, none⟩), kv a b] w fun e w' => e = .returned (.tuple #[.int .i64 (f a b), .int .i64 (if inB bs a b then 0 else 12)]) ∧ Below w.heap.size w w' := by
  obtain ⟨M, hF⟩ := load_facts h ha hb
  have H := hideIt (h.below (((Below.refl w.heap.size w).alloc (Nat.le_refl _) (.cells #[.int .i64 a, .int .i64 b] 31))))
  have HO := hideIt h.out
  have HF := hideIt hF
  have HL := hideIt hl
  clear h hF ha hb hl
  have hk : kv a b = .agg #[.int .i64 a, .int .i64 b] := rfl
  rw [hk]
  cases hin : inB bs a b
  · have hz := hideIt (HO.out a b hin)
    go_enter Try.func14, Try.ntmps14
    go_wp2_with (first | (go_at_call 21; refine (has_any H.out a b HL.out).mono ?_; rw [hin]; rintro e x1 ⟨rfl, hb⟩; have HB := hideIt hb; clear hb) | fail)
    go_ret2
    rw [hz.out]
    exact ⟨rfl, ((Below.refl _ _).alloc (Nat.le_refl _) _).trans (HB.out.mono (by simp))⟩
  · go_enter Try.func14, Try.ntmps14
    go_wp2_with (first | (go_at_call 21; refine (has_any H.out a b HL.out).mono ?_; rw [hin]; rintro e x1 ⟨rfl, hb⟩; have HB := hideIt hb; obtain ⟨k1, k2, k3, k4⟩ := HF.out x1 (by simpa using hb); clear hb) | fail)
    go_quiet (fail)
    go_wp2
    go_ret2
    refine ⟨rfl, ?_⟩
    have := ((Below.refl w.heap.size w).alloc (Nat.le_refl _) (.cells #[.int .i64 a, .int .i64 b] 31)).trans (HB.out.mono (by simp))
    exact ⟨this.os, this.tape, this.output, this.size, this.block⟩

theorem Try.info60 : (Try.prog.info? 60).map (fun i => (i.zero, i.size, i.bytes)) = some (some (.agg #[.int .i64 0, .int .i64 0]), 2, 16) := by kernel_rfl

theorem inB_snoc {bs : List Nat} {a b : Int} (c : Nat) (h : inB bs a b = true) : inB (bs ++ [c]) a b = true := by
  obtain ⟨i, j, d, rfl, rfl, h1, h2⟩ := inB_iff.1 h
  have := (List.getElem?_eq_some_iff.1 h1).1
  exact inB_iff.2 ⟨i, j, d, rfl, rfl, by rw [List.getElem?_append_left this]; exact h1, h2⟩

theorem alloc_mi {w w1 : World} {B : Nat} {bl : Nat → Prop} {p n : Nat} {bs : List Nat} {f : Int → Int → Int} {t : Int} (h : MI w B bl p n bs f t) {M lc g cap c : Nat} {la : Option Addr} {L : List (Nat × Nat)} {o : Obj} {t' : Int}
    (h1 : bl M) (h2 : M ≠ p) (h3 : ∀ k, (Value.slice la bs.length lc).ownBlock = some k → bl k ∧ k ≠ p ∧ k ≠ M) (h4 : L.map Prod.fst = bs) (h5 : ∀ i c h, L[i]? = some (c, h) → h = cnt f i 0 c)
    (h6 : w.heap[p]? = some (.cells #[.map (some M), .slice la bs.length lc, .int .i64 t] 58 (0, 0))) (h7 : Mp w M n f)
    (ho : w1.ownsRow B 60 2 (.slice (some ⟨g, 0, none⟩) (bs.length + 1) cap) (bs.length + 1) (blkCells L ++ [.int .i64 (c : Int), .int .i64 0])) (hg : (w.alloc o).grownBy w1 (Value.slice la bs.length lc).ownBlock)
    (hat : (Value.slice la bs.length lc).ownBlock = some g ∨ g = w.heap.size + 1) :
    (∃ bl' : Nat → Prop, (∀ k, bl k → bl' k) ∧ (∀ k, bl' k → bl k ∨ w.heap.size ≤ k) ∧ MI ((w1.setCell ⟨p, 1, none⟩ (.slice (some ⟨g, 0, none⟩) (bs.length + 1) cap)).setCell ⟨p, 2, none⟩ (.int .i64 t')) B bl' p n (bs ++ [c]) f t') ∧
      Fr bl w ((w1.setCell ⟨p, 1, none⟩ (.slice (some ⟨g, 0, none⟩) (bs.length + 1) cap)).setCell ⟨p, 2, none⟩ (.int .i64 t')) := by
  have hgl := ho.lt g rfl
  have hp : p < w.heap.size := lt_of_some h6
  have hM : M < w.heap.size := h7.lt
  have hgp : g ≠ p := by
    rcases hat with e | e
    · exact (h3 g e).2.1
    · omega
  have hgM : g ≠ M := by
    rcases hat with e | e
    · exact (h3 g e).2.2
    · omega
  have hF1 : Fr bl w w1 := ((Fr.refl bl w).alloc o).grown hg (fun k hk => Or.inl (h3 k hk).1)
  have q1 : w1.heap[p]? = w.heap[p]? := by
    rw [hg.block p (by simp; omega) (fun e => (h3 p e.symm).2.1 rfl)]
    exact Below.heap_alloc _ _ _ hp
  have q2 : w1.heap[M]? = w.heap[M]? := by
    rw [hg.block M (by simp; omega) (fun e => (h3 M e.symm).2.2 rfl)]
    exact Below.heap_alloc _ _ _ hM
  have hF : Fr bl w ((w1.setCell ⟨p, 1, none⟩ (.slice (some ⟨g, 0, none⟩) (bs.length + 1) cap)).setCell ⟨p, 2, none⟩ (.int .i64 t')) := (hF1.setCell (Or.inl h.inp) _).setCell (Or.inl h.inp) _
  refine ⟨⟨fun k => bl k ∨ k = g, fun k hk => Or.inl hk, fun k hk => ?_, ?_⟩, hF⟩
  · rcases hk with hk | rfl
    · exact Or.inl hk
    · rcases hat with e | e
      · exact Or.inl (h3 k e).1
      · exact Or.inr (by omega)
  · have hL : L.length = bs.length := by rw [← h4]; simp
    refine ⟨fun k hk => ?_, Or.inl h.inp, fun a b e => h.out a b ?_, M, some ⟨g, 0, none⟩, cap, L ++ [(c, 0)], Or.inl h1, h2, fun k hk => ?_, by simp [h4], fun i c' k e => ?_, ?_, ?_, ?_⟩
    · rcases hk with hk | rfl
      · have := h.rng k hk
        have := hF.size
        simp at this ⊢
        omega
      · simp
        omega
    · cases e2 : inB bs a b
      · rfl
      · rw [inB_snoc c e2] at e
        cases e
    · simp [Value.ownBlock] at hk
      subst hk
      exact ⟨Or.inr rfl, hgp, hgM⟩
    · by_cases hi : i < L.length
      · rw [List.getElem?_append_left hi] at e
        exact h5 i c' k e
      · have hi' : i = L.length := by
          have := (List.getElem?_eq_some_iff.1 e).1
          simp at this
          omega
        subst hi'
        simp at e
        obtain ⟨rfl, rfl⟩ := e
        refine (cnt_of_zero _ _ _ fun j _ _ => h.out _ _ ?_).symm
        cases e2 : inB bs ((L.length : Nat) : Int) (j : Int)
        · rfl
        · obtain ⟨i', j', d, e3, _, e4, _⟩ := inB_iff.1 e2
          have := (List.getElem?_eq_some_iff.1 e4).1
          omega
    · rw [block_setCell (block_setCell (q1.trans h6) _)]
      simp
    · refine h7.kept ?_
      rw [Below.heap_setCell _ _ _ _ h2, Below.heap_setCell _ _ _ _ h2]
      exact q2
    · rw [blkCells_append, List.length_append]
      have e : blkCells [(c, 0)] = [.int .i64 (c : Int), .int .i64 0] := rfl
      rw [e]
      refine ownsRow_block ho fun k hk => ?_
      simp [Value.ownBlock] at hk
      subst hk
      rw [Below.heap_setCell _ _ _ _ hgp, Below.heap_setCell _ _ _ _ hgp]

end Go.Proofs.Ytbmkmllehppiiaa
