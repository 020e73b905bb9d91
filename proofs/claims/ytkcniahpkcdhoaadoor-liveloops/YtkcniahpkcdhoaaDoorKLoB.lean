/-
  The statement LiveLoops: its walk over the program; the condition: the library's table is laid.
-/
import Derived.Test.YtkcniahpkcdhoaaDoorKLoA
namespace Go.Proofs.YtkcniahpkcdhoaaDoor.Lv
open Go.RowKit
set_option linter.unusedVariables false

theorem infoP : ∃ i0, Tryd.prog.info? 49 = some i0 ∧ i0.zero = some (.agg #[.slice none 0 0, .bool false, .int .i64 0, .int .i64 0, .int .i64 0]) ∧ i0.size = 5 ∧ i0.bytes = 56 := by
  have h : (Tryd.prog.info? 49).map (fun i => (i.zero, i.size, i.bytes)) = some (some (.agg #[.slice none 0 0, .bool false, .int .i64 0, .int .i64 0, .int .i64 0]), 5, 56) := by kernel_rfl
  obtain ⟨i, hi, hz⟩ := Option.map_eq_some_iff.1 h
  simp only [Prod.mk.injEq] at hz
  exact ⟨i, hi, hz.1, hz.2.1, hz.2.2⟩
abbrev blkI (l : List PI) : Obj := .cells (l.flatMap PI.cells).toArray 57 (0, 0)
/-- What holds while the code is built. -/
structure LpI (x z : World) (bf k b0 bk : Nat) (v : Value) (l : List PP) : Prop where
  q : Q x z
  bfl : x.heap.size ≤ bf
  box : z.heap[bf]? = some (.cells #[.int .i64 0, .int .i64 3, .slice none 0 0, v] 39 (0, 0))
  row : z.ownsRow (bf + 1) 49 5 v l.length (l.flatMap PP.cells)
  h0 : bf < b0 ∧ z.heap[b0]? = some (blkI lpI0) ∧ v.ownBlock ≠ some b0
  hk : k < l.length → bf < bk ∧ z.heap[bk]? = some (blkI lpIk) ∧ v.ownBlock ≠ some bk
section
variable {x z Z w1 : World} {bf k b0 bk bk' g cap : Nat} {v : Value} {l : List PP} {p : PP}
theorem LpI.cells (i : LpI x z bf k b0 bk v l) : z.cell? ⟨bf, 0, none⟩ = some (.int .i64 0) ∧ z.cell? ⟨bf, 1, none⟩ = some (.int .i64 3) ∧ z.cell? ⟨bf, 2, none⟩ = some (.slice none 0 0) ∧ z.cell? ⟨bf, 3, none⟩ = some v :=
  ⟨(cell_of_block i.box 0).trans rfl, (cell_of_block i.box 1).trans rfl, (cell_of_block i.box 2).trans rfl, (cell_of_block i.box 3).trans rfl⟩
theorem LpI.app (i : LpI x z bf k b0 bk v l) (qZ : Q z Z) (hg : Z.grownBy w1 v.ownBlock) (hown : w1.ownsRow (bf + 1) 49 5 (.slice (some ⟨g, 0, none⟩) (l.length + 1) cap) (l.length + 1) (l.flatMap PP.cells ++ p.cells)) (hat : v.ownBlock = some g ∨ g = Z.heap.size)
    (hk' : k < l.length + 1 → bf < bk' ∧ Z.heap[bk']? = some (blkI lpIk) ∧ v.ownBlock ≠ some bk') :
    w1.cell? ⟨bf, 3, none⟩ = some v ∧ w1.frozen? ⟨bf, 3, none⟩ = false ∧ LpI x (w1.setCell ⟨bf, 3, none⟩ (.slice (some ⟨g, 0, none⟩) (l.length + 1) cap)) bf k b0 bk' (.slice (some ⟨g, 0, none⟩) (l.length + 1) cap) (l ++ [p]) := by
  have hzZ := qZ.size
  have bfz : bf < z.heap.size := (Array.getElem?_eq_some_iff.1 i.box).1
  have vlt : ∀ c, v.ownBlock = some c → bf + 1 ≤ c ∧ c < z.heap.size := fun c hc => i.row.lt c hc
  have keep : ∀ c, c < Z.heap.size → v.ownBlock ≠ some c → w1.heap[c]? = Z.heap[c]? := fun c hc hn => hg.block c hc (fun e => hn e.symm)
  have hgl : bf + 1 ≤ g := (hown.lt g rfl).1
  have nobf : v.ownBlock ≠ some bf := fun e => by have := (vlt bf e).1; omega
  have hb1 : w1.heap[bf]? = some (.cells #[.int .i64 0, .int .i64 3, .slice none 0 0, v] 39 (0, 0)) := by rw [keep bf (by omega) nobf, qZ.block bf bfz]; exact i.box
  have oth : ∀ c, c ≠ bf → (w1.setCell ⟨bf, 3, none⟩ (.slice (some ⟨g, 0, none⟩) (l.length + 1) cap)).heap[c]? = w1.heap[c]? := fun c hc => Below.heap_setCell w1 ⟨bf, 3, none⟩ _ c hc
  have ng : ∀ c, c < Z.heap.size → v.ownBlock ≠ some c → g ≠ c := fun c hc hn e => by
    rcases hat with r | r
    · exact hn (by rw [r, e])
    · omega
  refine ⟨(cell_of_block hb1 3).trans rfl, ?_, ⟨?_, i.bfl, ?_, ?_, ?_, ?_⟩⟩
  · simp [World.frozen?, hb1]
  · have q1 : Q x w1 := grown_q (i.q.trans qZ) hg (fun c hc => by have := (vlt c hc).1; have := i.bfl; omega)
    exact ⟨q1.os, q1.tape, q1.output, by have := q1.size; simpa using this, fun c hc => by rw [oth c (by have := i.bfl; omega)]; exact q1.block c hc⟩
  · rw [block_set hb1]; rfl
  · rw [List.length_append, List.length_singleton, List.flatMap_append]
    have e : [p].flatMap PP.cells = p.cells := by simp
    rw [e]
    exact row_q hown (fun c hc => by injection hc with hc; have hc' : g = c := hc; exact oth c (by omega))
  · obtain ⟨h1, h2, h3⟩ := i.h0
    have hl := (Array.getElem?_eq_some_iff.1 h2).1
    refine ⟨h1, ?_, fun e => ?_⟩
    · rw [oth b0 (by omega), keep b0 (by omega) h3, qZ.block b0 hl]; exact h2
    · injection e with e
      exact ng b0 (by omega) h3 e
  · intro hlt
    rw [List.length_append, List.length_singleton] at hlt
    obtain ⟨h1, h2, h3⟩ := hk' hlt
    have hl := (Array.getElem?_eq_some_iff.1 h2).1
    refine ⟨h1, ?_, fun e => ?_⟩
    · rw [oth bk' (by omega), keep bk' hl h3]; exact h2
    · injection e with e
      exact ng bk' hl h3 e
end
/-- The list doesn't hang on a block that isn't in it. -/
theorem loopL_far {n k b0 bk bk' i : Nat} (h : i ≤ k) : loopL n k b0 bk i = loopL n k b0 bk' i := by
  refine List.map_congr_left (fun j hj => ?_)
  have hj := List.mem_range.1 hj
  unfold loopP pMid
  have : ¬ j = k := by omega
  simp only [if_neg this]
theorem one_pp (p : PP) : ∀ u ∈ p.cells, u.oneCell' = true := fun u hu => by
  simp [PP.cells] at hu
  rcases hu with rfl | rfl | rfl | rfl | rfl <;> rfl
/-- The code lies in memory. -/
theorem loC_ok {x z z' : World} {bf n k b0 bk g : Nat} {ao : Option Addr} {cap : Nat} (hn : 1 ≤ n ∧ n ≤ 100) (hk : k ≤ n) (i : LpI x z bf k b0 bk (.slice ao (n + 2) cap) (lL n k b0 bk)) (q : Q z z') (hg : z'.heap[g]? = some (.cells ([loF n k b0 bk ao cap].flatMap PF.cells).toArray 39 (0, 0))) : (loC n k b0 bk ao cap g).ok z' := by
  have z0 := i64_zero
  have hlen : (lL n k b0 bk).length = n + 2 := loopL_len _ _ _ _ _
  have s1 : ∀ g z k, k ≤ 4 → z ≤ 64 → sok z (some ⟨g, 0, none⟩) k k := fun g z k hk hz => ⟨Nat.le_refl _, by unfold maxLen; omega, (fun h => by cases h), by have : k * z ≤ 4 * 64 := Nat.mul_le_mul hk hz; omega⟩
  have hrow := i.row
  rw [hlen] at hrow
  have hrow' := row_q hrow (w' := z') (fun b hb => q.block b (hrow.lt b hb).2)
  refine ⟨sok_no _, lst_no, sok_no _, lst_no, s1 _ _ _ (show 1 ≤ 4 by decide) (by decide), lst_blk fun j f hf => ⟨flat_block PF.len hg hf, ?_⟩⟩
  have hf' := List.mem_of_getElem? hf
  simp [loC] at hf'
  subst hf'
  obtain ⟨gp, cap', e, -, -⟩ := hrow.form (by omega)
  injection e with e1 _ e3
  subst e1
  obtain ⟨-, h2 | ⟨g', cap'', cur, e1, -, -, e4, e5, -⟩⟩ := id hrow
  · cases h2.1
  injection e1 with e1 _ e6
  have hsok : sok 56 (some ⟨gp, 0, none⟩) (lL n k b0 bk).length cap := by
    rw [hlen]
    exact ⟨by omega, by rw [e6]; exact e5, (fun h => by cases h), by omega⟩
  refine ⟨z0, by show I64 3; unfold I64; omega, sok_no _, lst_no, hsok, lst_blk fun j p hp => ⟨fun j' hj' => ?_, ?_⟩⟩
  · have hj5 : j' < 5 := hj'
    have hjl := (List.getElem?_eq_some_iff.1 hp).1
    rw [World.ownsRow.cellAt hrow' (j * 5 + j') (by have : j < n + 2 := by rw [← hlen]; exact hjl
                                                    omega)]
    exact flat_at PP.len hp j' hj5
  · obtain ⟨j0, hj0, rfl⟩ := loopL_mem (List.mem_of_getElem? hp)
    by_cases e0 : j0 = 0
    · subst e0
      rw [loopP_first]
      obtain ⟨h1, h2, -⟩ := i.h0
      refine ⟨by show I64 (-1); unfold I64; omega, by show I64 1; unfold I64; omega, z0, s1 _ _ _ (show 1 ≤ 4 by decide) (by decide), lst_blk fun t y hy => ⟨flat_block PI.len ((q.block b0 (Array.getElem?_eq_some_iff.1 h2).1).trans h2) hy, ?_⟩⟩
      have hy' := List.mem_of_getElem? hy
      simp [pFirst, lpI0] at hy'
      subst hy'
      exact ⟨by simp, by simp, z0, z0, z0, by show I64 3; unfold I64; omega, sok_no _, lst_no⟩
    · by_cases e1 : j0 ≤ n
      · rw [loopP_mid (by omega) e1]
        by_cases ek : j0 = k
        · obtain ⟨h1, h2, -⟩ := i.hk (by rw [hlen]; omega)
          have ei : (pMid n k bk j0).ins = lpIk := by unfold pMid; dsimp only; rw [if_pos ek]
          have ea : (pMid n k bk j0).ia = some ⟨bk, 0, none⟩ := by unfold pMid; dsimp only; rw [if_pos ek]
          have ec : (pMid n k bk j0).ic = 2 := by unfold pMid; dsimp only; rw [if_pos ek]
          refine ⟨?_, ?_, ?_, ?_, ?_⟩
          · unfold pMid I64; dsimp only; split <;> omega
          · unfold pMid I64; dsimp only; split <;> omega
          · unfold pMid I64; dsimp only; split <;> omega
          · rw [ei, ea, ec]; exact s1 _ _ _ (show 2 ≤ 4 by decide) (by decide)
          · rw [ei, ea]
            refine lst_blk fun t y hy => ⟨flat_block PI.len ((q.block bk (Array.getElem?_eq_some_iff.1 h2).1).trans h2) hy, ?_⟩
            have z1 : I64 1 := by unfold I64; omega
            have hy' := List.mem_of_getElem? hy
            simp [lpIk] at hy'
            rcases hy' with rfl | rfl
            · exact ⟨by simp, by simp, z1, z0, z0, z0, sok_no _, lst_no⟩
            · exact ⟨by simp, by simp, z0, z1, z0, z0, sok_no _, lst_no⟩
        · have ei : (pMid n k bk j0).ins = [] := by unfold pMid; dsimp only; rw [if_neg ek]
          have ea : (pMid n k bk j0).ia = none := by unfold pMid; dsimp only; rw [if_neg ek]
          have ec : (pMid n k bk j0).ic = 0 := by unfold pMid; dsimp only; rw [if_neg ek]
          refine ⟨?_, ?_, ?_, ?_, ?_⟩
          · unfold pMid I64; dsimp only; split <;> omega
          · unfold pMid I64; dsimp only; split <;> omega
          · unfold pMid I64; dsimp only; split <;> omega
          · rw [ei, ea, ec]; exact sok_no _
          · rw [ei, ea]; exact lst_no
      · have : loopP n k b0 bk j0 = pLast := by
          unfold loopP
          rw [if_neg e0, if_neg e1]
        rw [this]
        exact ⟨by show I64 2; unfold I64; omega, z0, z0, sok_no _, lst_no⟩

end Go.Proofs.YtkcniahpkcdhoaaDoor.Lv
