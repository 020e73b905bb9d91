/-
  A memory and a list of its addresses: the list of all cells of some blocks, and the calls' contracts over both; no conditions but those that each fact bears.
-/
import Derived.Test.YtahhbehpgolinaaMeN
namespace Go.Proofs.Ytahhbehpgolinaa.Me
open Go.ChangeShapes Go.WideShapes Go.RowKit
set_option linter.unusedVariables false

/-- A list of pairs as cells. -/
def blkCells (L : List (Nat × Nat)) : List Value := L.flatMap fun d => [.int .i64 (d.1 : Int), .int .i64 (d.2 : Int)]
theorem blkCells_append (a b : List (Nat × Nat)) : blkCells (a ++ b) = blkCells a ++ blkCells b := by simp [blkCells]
theorem blkCells_length (a : List (Nat × Nat)) : (blkCells a).length = a.length * 2 := by
  induction a with
  | nil => rfl
  | cons x r ih => simp [blkCells] at ih ⊢; omega
theorem blkCells_at : ∀ (L : List (Nat × Nat)) (i : Nat) (c h : Nat), L[i]? = some (c, h) → (blkCells L)[i * 2]? = some (.int .i64 (c : Int)) ∧ (blkCells L)[i * 2 + 1]? = some (.int .i64 (h : Int))
  | [], i, c, h, e => by simp at e
  | x :: r, 0, c, h, e => by simp at e; subst e; simp [blkCells]
  | x :: r, i + 1, c, h, e => by
    have := blkCells_at r i c h (by simpa using e)
    have e1 : blkCells (x :: r) = .int .i64 (x.1 : Int) :: .int .i64 (x.2 : Int) :: blkCells r := by simp [blkCells]
    rw [e1, show (i + 1) * 2 = i * 2 + 1 + 1 by omega]
    simpa using this
/-- All cells of blocks, the first of which has the number k. -/
def adrF : Nat → List Nat → List (Nat × Nat)
  | _, [] => []
  | k, n :: r => (List.range n).map (fun j => (k, j)) ++ adrF (k + 1) r
theorem adrF_snoc (n : Nat) : ∀ (bs : List Nat) (k : Nat), adrF k (bs ++ [n]) = adrF k bs ++ (List.range n).map (fun j => (k + bs.length, j))
  | [], k => by simp [adrF]
  | x :: r, k => by
    simp only [List.cons_append, adrF, adrF_snoc n r (k + 1), List.append_assoc, List.length_cons]
    rw [show k + 1 + r.length = k + (r.length + 1) by omega]
theorem adrF_length : ∀ (bs : List Nat) (k : Nat), (adrF k bs).length = bs.sum
  | [], k => rfl
  | x :: r, k => by simp [adrF, adrF_length r]
theorem adrF_mem : ∀ (bs : List Nat) (k : Nat) (p : Nat × Nat), p ∈ adrF k bs → k ≤ p.1 ∧ ∃ c, bs[p.1 - k]? = some c ∧ p.2 < c
  | [], k, p, h => by simp [adrF] at h
  | x :: r, k, p, h => by
    simp only [adrF, List.mem_append, List.mem_map, List.mem_range] at h
    rcases h with ⟨j, hj, rfl⟩ | h
    · exact ⟨Nat.le_refl _, x, by simp, hj⟩
    · obtain ⟨h1, c, h2, h3⟩ := adrF_mem r (k + 1) p h
      refine ⟨by omega, c, ?_, h3⟩
      rw [show p.1 - k = p.1 - (k + 1) + 1 by omega]
      simpa using h2
theorem adrF_nodup : ∀ (bs : List Nat) (k : Nat), (adrF k bs).Nodup
  | [], k => by simp [adrF]
  | x :: r, k => by
    simp only [adrF]
    rw [List.nodup_append]
    refine ⟨?_, adrF_nodup r (k + 1), ?_⟩
    · rw [List.Nodup, List.pairwise_map]
      exact List.nodup_range.imp (fun h e => h (by simpa using e))
    · intro a ha b hb e
      subst e
      obtain ⟨j, hj, rfl⟩ := List.mem_map.1 ha
      have := (adrF_mem r (k + 1) _ hb).1
      simp at this
      omega
theorem adr_in {bs : List Nat} {q : Nat} (h : q < (adrF 0 bs).length) : inB bs (((adrF 0 bs)[q].1 : Nat) : Int) (((adrF 0 bs)[q].2 : Nat) : Int) = true := by
  obtain ⟨_, c, h1, h2⟩ := adrF_mem bs 0 _ (List.getElem_mem h)
  exact inB_iff.2 ⟨_, _, c, rfl, rfl, by simpa using h1, h2⟩
theorem adr_ne {bs : List Nat} {q r : Nat} (h : q < (adrF 0 bs).length) (h' : r < (adrF 0 bs).length) (hne : q ≠ r) : ¬ ((((adrF 0 bs)[q].1 : Nat) : Int) = (((adrF 0 bs)[r].1 : Nat) : Int) ∧ (((adrF 0 bs)[q].2 : Nat) : Int) = (((adrF 0 bs)[r].2 : Nat) : Int)) := by
  rintro ⟨h1, h2⟩
  have e : (adrF 0 bs)[q] = (adrF 0 bs)[r] := Prod.ext (by omega) (by omega)
  have hp := List.pairwise_iff_getElem.1 (adrF_nodup bs 0)
  rcases Nat.lt_or_gt_of_ne hne with hlt | hlt
  · exact hp q r h h' hlt e
  · exact hp r q h' h hlt e.symm

/-- All that was there at w0 is as it was; behind it lie a memory and, apart from it, a list of addresses. -/
def Tw (w0 w : World) (p n : Nat) (bs : List Nat) (f : Int → Int → Int) (t : Int) (v : Value) (L : List (Nat × Nat)) : Prop :=
  Below w0.heap.size w0 w ∧ n ≤ 100000000 ∧ ∃ bl, MI w w0.heap.size bl p n bs f t ∧ w.ownsRow w0.heap.size 31 2 v L.length (blkCells L) ∧ ∀ k, v.ownBlock = some k → ¬ bl k

theorem tw_new {w0 w : World} {p n : Nat} {bs : List Nat} {f : Int → Int → Int} {t : Int} (h : One w0 w p n bs f t) : Tw w0 w p n bs f t (.slice none 0 0) [] := by
  obtain ⟨h1, hnn, bl, h2⟩ := h
  exact ⟨h1, hnn, bl, h2, World.ownsRow_nil _ _ _ _, fun k hk => by simp [Value.ownBlock] at hk⟩
theorem Tw.fr {w0 w w' : World} {p n n' : Nat} {bs bs' : List Nat} {f f' : Int → Int → Int} {t t' : Int} {v : Value} {L : List (Nat × Nat)} {bl bl' : Nat → Prop} (h : Below w0.heap.size w0 w) (hm : MI w w0.heap.size bl p n bs f t)
    (hr : w.ownsRow w0.heap.size 31 2 v L.length (blkCells L)) (ha : ∀ k, v.ownBlock = some k → ¬ bl k) (hf : Fr bl w w') (hm' : MI w' w0.heap.size bl' p n' bs' f' t') (hb : ∀ k, bl' k → bl k ∨ w.heap.size ≤ k) (hnn : n' ≤ 100000000) : Tw w0 w' p n' bs' f' t' v L := by
  refine ⟨h.trans (hf.below h.size (fun k hk => (hm.rng hk).1)), hnn, bl', hm', ownsRow_block hr fun k hk => hf.block k (hr.lt k hk).2 (ha k hk), fun k hk hb' => ?_⟩
  rcases hb k hb' with h' | h'
  · exact ha k hk h'
  · have := (hr.lt k hk).2
    omega
theorem tw_alloc {w0 w : World} {p n : Nat} {bs : List Nat} {f : Int → Int → Int} {t : Int} {v : Value} {L : List (Nat × Nat)} (h : Tw w0 w p n bs f t v L) (ht : 0 ≤ t) (ht2 : t ≤ 65536) (c : Nat) (hc2 : (c : Int) ≤ 65536 - t) (hl : bs.length ≤ 1000000) :
    Calls Try.prog 10 #[.pointer (some ⟨p, 0, none⟩), .int .i64 (c : Int)] w fun e w' => e = .returned (.tuple #[.int .i64 bs.length, .int .i64 0]) ∧ Tw w0 w' p n (bs ++ [c]) f (t + c) v L := by
  obtain ⟨h1, hnn, bl, h2, h3, h4⟩ := h
  refine (alloc_ok h2 ht ht2 c hc2 hl).mono ?_
  rintro e w' ⟨rfl, ⟨bl', -, hb, hM⟩, hF⟩
  exact ⟨rfl, Tw.fr h1 h2 h3 h4 hF hM hb (by omega)⟩
theorem tw_load {w0 w : World} {p n : Nat} {bs : List Nat} {f : Int → Int → Int} {t : Int} {v : Value} {L : List (Nat × Nat)} (h : Tw w0 w p n bs f t v L) {a b : Int} (ha : I64 a) (hb : I64 b) (hl : bs.length ≤ 1000000) (hin : inB bs a b = true) :
    Calls Try.prog 14 #[.pointer (some ⟨p, 0, none⟩), .agg #[.int .i64 a, .int .i64 b]] w fun e w' => e = .returned (.tuple #[.int .i64 (f a b), .int .i64 0]) ∧ Tw w0 w' p n bs f t v L := by
  obtain ⟨h1, hnn, bl, h2, h3, h4⟩ := h
  have := load_any h2 ha hb hl
  rw [hin] at this
  refine this.mono ?_
  rintro e w' ⟨rfl, hB⟩
  exact ⟨rfl, Tw.fr h1 h2 h3 h4 ((Fr.of_below hB).mono (fun _ h => h.elim)) (h2.below hB) (fun k hk => Or.inl hk) hnn⟩
theorem tw_store {w0 w : World} {p n : Nat} {bs : List Nat} {f : Int → Int → Int} {t : Int} {v : Value} {L : List (Nat × Nat)} (h : Tw w0 w p n bs f t v L) {a b x : Int} (ha : I64 a) (hb : I64 b) (hx : I64 x) (hl : bs.length ≤ 1000000) (hn : n ≤ 1000000) (hc : ∀ c ∈ bs, c ≤ 100000) (hin : inB bs a b = true) :
    Calls Try.prog 16 #[.pointer (some ⟨p, 0, none⟩), .agg #[.int .i64 a, .int .i64 b], .int .i64 x] w fun e w' => e = .returned (.int .i64 0) ∧ Tw w0 w' p (n + 1) bs (upd f a b x) t v L := by
  obtain ⟨h1, hnn, bl, h2, h3, h4⟩ := h
  refine (store_ok h2 a b x hl hc hnn hin).mono ?_
  rintro e w' ⟨rfl, ⟨bl', -, hb, hM⟩, hF⟩
  exact ⟨rfl, Tw.fr h1 h2 h3 h4 hF hM hb (by omega)⟩
theorem tw_total {w0 w : World} {p n : Nat} {bs : List Nat} {f : Int → Int → Int} {t : Int} {v : Value} {L : List (Nat × Nat)} (h : Tw w0 w p n bs f t v L) : Calls Try.prog 18 #[.pointer (some ⟨p, 0, none⟩)] w fun e w' => e = .returned (.int .i64 t) ∧ w' = w := by
  obtain ⟨h1, hnn, bl, h2, h3, h4⟩ := h
  exact total_any h2

/-- What an append of an address makes. -/
theorem tw_appended {w0 w w1 : World} {p n : Nat} {bs : List Nat} {f : Int → Int → Int} {t : Int} {v : Value} {L : List (Nat × Nat)} (h : Tw w0 w p n bs f t v L) {o : Obj} {g cap a b : Nat}
    (ho : w1.ownsRow w0.heap.size 31 2 (.slice (some ⟨g, 0, none⟩) (L.length + 1) cap) (L.length + 1) (blkCells L ++ [.int .i64 (a : Int), .int .i64 (b : Int)])) (hg : (w.alloc o).grownBy w1 v.ownBlock) (hat : v.ownBlock = some g ∨ g = w.heap.size + 1) :
    Tw w0 w1 p n bs f t (.slice (some ⟨g, 0, none⟩) (L.length + 1) cap) (L ++ [(a, b)]) := by
  obtain ⟨h1, hnn, bl, h2, h3, h4⟩ := h
  have hb1 : Below w0.heap.size w0 w1 := (h1.alloc h1.size o).grown hg (by have := h1.size; simp; omega) (fun k hk => (h3.lt k hk).1)
  refine ⟨hb1, hnn, bl, h2.kept (fun k hk => ?_) ?_, ?_, fun k hk hb => ?_⟩
  · have := (h2.rng hk).2
    rw [hg.block k (by simp; omega) (fun e => h4 k e.symm hk)]
    exact Below.heap_alloc _ _ _ this
  · have := hg.size
    simp at this
    omega
  · rw [blkCells_append, List.length_append]
    exact ho
  · simp [Value.ownBlock] at hk
    subst hk
    rcases hat with e | e
    · exact h4 _ e hb
    · have := (h2.rng hb).2
      omega
/-- The cells of an address of the list. -/
theorem tw_at {w0 w : World} {p n : Nat} {bs : List Nat} {f : Int → Int → Int} {t : Int} {la : Option Addr} {len lc : Nat} {L : List (Nat × Nat)} (h : Tw w0 w p n bs f t (.slice la len lc) L) (hl : L.length = len) (h0 : 0 < len) :
    ∃ g, la = some ⟨g, 0, none⟩ ∧ ∀ q (hq : q < L.length), w.cell? ⟨g, q * 2, none⟩ = some (.int .i64 ((L[q].1 : Nat) : Int)) ∧ w.cell? ⟨g, q * 2 + 1, none⟩ = some (.int .i64 ((L[q].2 : Nat) : Int)) := by
  obtain ⟨h1, hnn, bl, h2, h3, h4⟩ := h
  subst hl
  obtain ⟨g, cap, hv, _, _⟩ := h3.form h0
  simp at hv
  obtain ⟨rfl, rfl⟩ := hv
  refine ⟨g, rfl, fun q hq => ?_⟩
  rcases h3.2 with ⟨_, h2⟩ | ⟨g', cap', cur, hv, hg, hh, hn, hc, hs, ht⟩
  · omega
  · simp at hv
    obtain ⟨rfl, rfl⟩ := hv
    have e := blkCells_at L q L[q].1 L[q].2 (by simp [hq])
    rw [← ht] at e
    refine ⟨?_, ?_⟩
    · rw [cell_of_block hh]
      have := e.1
      rw [List.getElem?_take_of_lt (by omega)] at this
      simpa using this
    · rw [cell_of_block hh]
      have := e.2
      rw [List.getElem?_take_of_lt (by omega)] at this
      simpa using this

end Go.Proofs.Ytahhbehpgolinaa.Me
