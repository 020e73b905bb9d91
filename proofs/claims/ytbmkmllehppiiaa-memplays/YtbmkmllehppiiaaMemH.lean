/-
  A block is emptied (empty): a contract over the program; the conditions: a memory lies there, and it has that block.
-/
import Derived.Test.YtbmkmllehppiiaaMemG
namespace Go.Proofs.Ytbmkmllehppiiaa
open Go.RowKit
set_option linter.unusedVariables false

/-- A memory whose map is M and whose blocks' list lies at block g. -/
structure MX (w : World) (B : Nat) (bl : Nat → Prop) (p n : Nat) (bs : List Nat) (f : Int → Int → Int) (t : Int) (M g lc : Nat) : Prop where
  rng : ∀ k, bl k → B ≤ k ∧ k < w.heap.size
  inp : bl p
  out : ∀ a b, inB bs a b = false → f a b = 0
  inM : bl M
  ing : bl g
  Mnp : M ≠ p
  gp : g ≠ p
  gM : g ≠ M
  cells : w.heap[p]? = some (.cells #[.map (some M), .slice (some ⟨g, 0, none⟩) bs.length lc, .int .i64 t] 58 (0, 0))
  map : Mp w M n f
  ex : ∃ L, L.map Prod.fst = bs ∧ (∀ i c h, L[i]? = some (c, h) → h = cnt f i 0 c) ∧ w.ownsRow B 60 2 (.slice (some ⟨g, 0, none⟩) bs.length lc) bs.length (blkCells L)

theorem MX.mi {w : World} {B : Nat} {bl : Nat → Prop} {p n : Nat} {bs : List Nat} {f : Int → Int → Int} {t : Int} {M g lc : Nat} (h : MX w B bl p n bs f t M g lc) : MI w B bl p n bs f t := by
  obtain ⟨L, h4, h5, h8⟩ := h.ex
  refine ⟨h.rng, h.inp, h.out, M, some ⟨g, 0, none⟩, lc, L, h.inM, h.Mnp, fun k hk => ?_, h4, h5, h.cells, h.map, h8⟩
  simp [Value.ownBlock] at hk
  subst hk
  exact ⟨h.ing, h.gp, h.gM⟩
theorem MI.mx {w : World} {B : Nat} {bl : Nat → Prop} {p n : Nat} {bs : List Nat} {f : Int → Int → Int} {t : Int} (h : MI w B bl p n bs f t) (hb : bs ≠ []) : ∃ M g lc, MX w B bl p n bs f t M g lc := by
  obtain ⟨M, la, lc, L, h1, h2, h3, h4, h5, h6, h7, h8⟩ := h.ex
  have hl : 0 < bs.length := by
    cases bs
    · exact absurd rfl hb
    · simp
  obtain ⟨g, cap, hv, _, _⟩ := h8.form hl
  simp at hv
  obtain ⟨rfl, rfl⟩ := hv
  obtain ⟨g1, g2, g3⟩ := h3 g rfl
  exact ⟨M, g, lc, h.rng, h.inp, h.out, h1, g1, h2, g2, g3, h6, h7, L, h4, h5, h8⟩

/-- f, but 0 in block i ahead of k. -/
def clrk (f : Int → Int → Int) (i k : Nat) : Int → Int → Int := fun a b => if a = (i : Int) ∧ b < (k : Int) then 0 else f a b
/-- f, but 0 in block i. -/
def clr (f : Int → Int → Int) (i : Nat) : Int → Int → Int := fun a b => if a = (i : Int) then 0 else f a b
theorem clrk_upd (f : Int → Int → Int) (i k : Nat) : upd (clrk f i k) i k 0 = clrk f i (k + 1) := by
  funext a b
  simp only [upd, clrk]
  by_cases h1 : a = (i : Int)
  · by_cases h2 : b = (k : Int)
    · rw [if_pos ⟨h1, h2⟩, if_pos ⟨h1, by omega⟩]
    · rw [if_neg (fun h => h2 h.2)]
      by_cases h3 : b < (k : Int)
      · rw [if_pos ⟨h1, h3⟩, if_pos ⟨h1, by omega⟩]
      · rw [if_neg (fun h => h3 h.2), if_neg (fun h => by omega)]
  · rw [if_neg (fun h => h1 h.1), if_neg (fun h => h1 h.1), if_neg (fun h => h1 h.1)]
theorem clrk_skip {f : Int → Int → Int} {i k : Nat} (h : clrk f i k i k = 0) : clrk f i (k + 1) = clrk f i k := by
  rw [← clrk_upd]
  funext a b
  simp only [upd]
  split
  · rename_i e
    rw [e.1, e.2, h]
  · rfl
theorem clrk_zero {bs : List Nat} {f : Int → Int → Int} (ho : ∀ a b, inB bs a b = false → f a b = 0) (i : Nat) : clrk f i 0 = f := by
  funext a b
  simp only [clrk]
  split
  · rename_i e
    refine (ho a b ?_).symm
    have : ¬ (0 ≤ b) := by omega
    simp [inB, this]
  · rfl
theorem clrk_end {bs : List Nat} {f : Int → Int → Int} (ho : ∀ a b, inB bs a b = false → f a b = 0) {i k c : Nat} (hi : bs[i]? = some c) (h : c ≤ k ∨ cnt (clrk f i k) i 0 c = 0) : clrk f i k = clr f i := by
  funext a b
  simp only [clrk, clr]
  by_cases h1 : a = (i : Int)
  · rw [if_pos h1]
    by_cases h2 : b < (k : Int)
    · rw [if_pos ⟨h1, h2⟩]
    · rw [if_neg (fun h => h2 h.2)]
      by_cases h3 : b < (c : Int)
      · rcases h with h | h
        · omega
        · have := cnt_zero i c 0 h b.toNat (by omega) (by omega)
          simp only [clrk] at this
          rw [if_neg (fun h => by omega)] at this
          rw [h1, show b = ((b.toNat : Nat) : Int) by omega]
          exact this
      · refine ho a b ?_
        cases e : inB bs a b
        · rfl
        · obtain ⟨i', j', d, e1, e2, e3, e4⟩ := inB_iff.1 e
          have : i' = i := by omega
          subst this
          rw [hi] at e3
          cases e3
          omega
  · rw [if_neg (fun h => h1 h.1), if_neg h1]

/-- A memory behind a change of one cell's number to 0, and of its block's count. -/
theorem mx_emptied {w Y : World} {B : Nat} {bl : Nat → Prop} {p n : Nat} {bs : List Nat} {f : Int → Int → Int} {t : Int} {M g lc : Nat} (h : MX w B bl p n bs f t M g lc) {i k c : Nat} (hi : bs[i]? = some c) (hk : k < c) (hne : f i k ≠ 0)
    (o : Obj) (j : Nat) (hY : Mp Y M n (upd f i k 0)) (hg : ((w.alloc o).drewN j).grownBy Y (some M)) :
    ∃ h', 1 ≤ h' ∧ h' = cnt f i 0 c ∧ Y.cell? ⟨g, i * 2 + 1, none⟩ = some (.int .i64 (h' : Int)) ∧ Y.frozen? ⟨g, i * 2 + 1, none⟩ = false ∧
      MX (Y.setCell ⟨g, i * 2 + 1, none⟩ (.int .i64 ((h' : Int) - 1))) B bl p n bs (upd f i k 0) t M g lc ∧ Fr bl w (Y.setCell ⟨g, i * 2 + 1, none⟩ (.int .i64 ((h' : Int) - 1))) := by
  obtain ⟨L, h4, h5, h8⟩ := h.ex
  obtain ⟨k', hL⟩ : ∃ k, L[i]? = some (c, k) := by
    subst h4
    simp at hi
    obtain ⟨x, hx⟩ := hi
    exact ⟨x, hx⟩
  have e1 := h5 i c k' hL
  have hcu := cnt_upd f 0 i k c 0 (by omega) (by omega)
  rw [if_neg hne, if_pos rfl] at hcu
  have hF1 : Fr bl w Y := (show Fr bl w ((w.alloc o).drewN j) from (fun h : Fr bl w (w.alloc o) => ⟨h.os, h.tape, h.output, h.size, h.block⟩) ((Fr.refl bl w).alloc o)).grown hg (fun b e => by cases e; exact Or.inl h.inM)
  have hgl := (h.rng g h.ing).2
  have hpl := (h.rng p h.inp).2
  have blk : ∀ b, b < w.heap.size → b ≠ M → Y.heap[b]? = w.heap[b]? := fun b hb hne => by
    rw [hg.block b (by show b < (w.alloc o).heap.size; simp; omega) (fun e => hne (Option.some.inj e))]
    exact Below.heap_alloc w o b hb
  have hr : Y.ownsRow B 60 2 (.slice (some ⟨g, 0, none⟩) bs.length lc) bs.length (blkCells L) := ownsRow_block h8 (fun b e => by
    simp [Value.ownBlock] at e
    subst e
    exact blk _ hgl h.gM)
  obtain ⟨g', e2, r1, r2, r3⟩ := row_at hr hL
  cases e2
  have hil : i < bs.length := (List.getElem?_eq_some_iff.1 hi).1
  have hF : Fr bl w (Y.setCell ⟨g, i * 2 + 1, none⟩ (.int .i64 ((k' : Int) - 1))) := hF1.setCell (Or.inl h.ing) _
  refine ⟨k', by omega, e1, r2, r3, ⟨fun b hb => ?_, h.inp, fun a b e => ?_, h.inM, h.ing, h.Mnp, h.gp, h.gM, ?_, ?_, L.set i (c, k' - 1), ?_, fun i' c' h' e => ?_, ?_⟩, hF⟩
  · have := h.rng b hb
    have := hF.size
    omega
  · simp only [upd]
    split
    · rfl
    · exact h.out a b e
  · rw [Below.heap_setCell _ _ _ _ (Ne.symm h.gp), blk p hpl (Ne.symm h.Mnp)]
    exact h.cells
  · refine hY.kept ?_
    rw [Below.heap_setCell _ _ _ _ (Ne.symm h.gM)]
  · rw [List.map_set, h4]
    exact set_same hi
  · rw [List.getElem?_set] at e
    by_cases hi' : i = i'
    · subst hi'
      rw [if_pos rfl, if_pos (List.getElem?_eq_some_iff.1 hL).1] at e
      simp at e
      obtain ⟨rfl, rfl⟩ := e
      omega
    · rw [if_neg hi'] at e
      rw [cnt_upd_other f 0 (by omega)]
      exact h5 i' c' h' e
  · rw [blkCells_set L i c k' (k' - 1) hL, show ((k' : Int) - 1) = ((k' - 1 : Nat) : Int) by omega]
    exact ownsRow_set hr (by omega) _

theorem MX.below {w w' : World} {B : Nat} {bl : Nat → Prop} {p n : Nat} {bs : List Nat} {f : Int → Int → Int} {t : Int} {M g lc : Nat} (h : MX w B bl p n bs f t M g lc) (hb : ∀ b, bl b → w'.heap[b]? = w.heap[b]?) (hs : w.heap.size ≤ w'.heap.size) : MX w' B bl p n bs f t M g lc := by
  obtain ⟨L, h4, h5, h8⟩ := h.ex
  refine ⟨fun k hk => ⟨(h.rng k hk).1, Nat.lt_of_lt_of_le (h.rng k hk).2 hs⟩, h.inp, h.out, h.inM, h.ing, h.Mnp, h.gp, h.gM, ?_, h.map.kept (hb M h.inM), L, h4, h5, ownsRow_block h8 fun b e => ?_⟩
  · rw [hb p h.inp]
    exact h.cells
  · simp [Value.ownBlock] at e
    subst e
    exact hb _ h.ing

end Go.Proofs.Ytbmkmllehppiiaa
