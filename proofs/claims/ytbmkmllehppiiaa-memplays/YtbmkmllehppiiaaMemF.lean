/-
  Store, whole: a contract over the program; the conditions: a memory lies there, and there is that cell.
-/
import Derived.Test.YtbmkmllehppiiaaMemE
namespace Go.Proofs.Ytbmkmllehppiiaa
open Go.RowKit
set_option linter.unusedVariables false

set_option maxHeartbeats 1000000 in
theorem store_ok {w : World} {B : Nat} {bl : Nat → Prop} {p n : Nat} {bs : List Nat} {f : Int → Int → Int} {t : Int} (h : MI w B bl p n bs f t) {a b v : Int} (ha : I64 a) (hb : I64 b) (hv : I64 v) (hl : bs.length ≤ 1000000)
    (hn : n ≤ 1000000) (hc : ∀ c ∈ bs, c ≤ 100000) (hin : inB bs a b = true) :
    Calls Try.prog 16 #[.pointer (some ⟨p, 0, none⟩), kv a b, .int .i64 v] w fun e w' => e = .returned (.int .i64 0) ∧ MI w' B bl p (n + 1) bs (upd f a b v) t ∧ Fr bl w w' := by
  obtain ⟨M, la, lc, L, h1, h2, h3, h4, h5, h6, h7, h8⟩ := h.ex
  obtain ⟨i, j, c, rfl, rfl, hbi, hj⟩ := inB_iff.1 hin
  have hcm := hc c (List.mem_of_getElem? hbi)
  obtain ⟨k, hk⟩ : ∃ k, L[i]? = some (c, k) := by
    subst h4
    simp at hbi
    obtain ⟨x, hx⟩ := hbi
    exact ⟨x, hx⟩
  obtain ⟨g, rfl, r1, r2, r3⟩ := row_at h8 hk
  have hkc := h5 i c k hk
  have hkle : k ≤ c := by rw [hkc]; exact cnt_le _ _ _ _
  obtain ⟨hbg, hgp, hgM⟩ := h3 g rfl
  have hgl := (h.rng g hbg).2
  have hpl := lt_of_some h6
  have hMl := h7.lt
  have hil : i < bs.length := (List.getElem?_eq_some_iff.1 hbi).1
  have hq : i * 2 + 1 < bs.length * 2 := by omega
  have hcu := cnt_upd f v i j c 0 (by omega) (by omega)
  have hB0 : Below w.heap.size w (w.alloc (.cells #[.int .i64 (i : Int), .int .i64 (j : Int)] 31)) := (Below.refl w.heap.size w).alloc (Nat.le_refl _) _
  have hhas := has_any (h.below hB0) (i : Int) (j : Int) hl
  rw [hin] at hhas
  have hx : ∀ x1, Below (w.alloc (.cells #[.int .i64 (i : Int), .int .i64 (j : Int)] 31)).heap.size (w.alloc (.cells #[.int .i64 (i : Int), .int .i64 (j : Int)] 31)) x1 → Below w.heap.size w x1 := fun x1 hx => hB0.trans (hx.mono (by simp))
  have hmp : ∀ x1, Below w.heap.size w x1 → Mp x1 M n f := fun x1 hx => h7.kept (hx.block M hMl)
  have hrow : ∀ x1, Below w.heap.size w x1 → x1.ownsRow B 60 2 (.slice (some ⟨g, 0, none⟩) bs.length lc) bs.length (blkCells L) := fun x1 hx => ownsRow_block h8 (fun b e => by
    simp [Value.ownBlock] at e
    subst e
    exact hx.block _ hgl)
  have hsf : ∀ x1, Below (w.alloc (.cells #[.int .i64 (i : Int), .int .i64 (j : Int)] 31)).heap.size (w.alloc (.cells #[.int .i64 (i : Int), .int .i64 (j : Int)] 31)) x1 → SF w.heap.size x1 p M g (i * 2 + 1) bs.length lc i j (f i j) k := by
    intro x1 hx1
    have hb1 := hx x1 hx1
    have e0 : x1.cell? ⟨w.heap.size, 0, none⟩ = some (.int .i64 (i : Int)) := by
      rw [hx1.cell (p := ⟨w.heap.size, 0, none⟩) (by simp)]
      exact cell_new rfl _ _ 0
    have e1 : x1.cell? ⟨w.heap.size, 1, none⟩ = some (.int .i64 (j : Int)) := by
      rw [hx1.cell (p := ⟨w.heap.size, 1, none⟩) (by simp)]
      exact cell_new rfl _ _ 1
    have e2 : x1.heap[p]? = _ := (hb1.block p hpl).trans h6
    have hgc : x1.cell? ⟨g, i * 2 + 1, none⟩ = some (.int .i64 (k : Int)) := (hb1.cell (p := ⟨g, i * 2 + 1, none⟩) hgl).trans r2
    have hgf : x1.frozen? ⟨g, i * 2 + 1, none⟩ = false := by
      rw [World.frozen?_of_block (hb1.block g hgl)]
      exact r3
    refine ⟨cell_of_block e2 0, cell_of_block e2 1, fun jj => ((hmp _ hb1).kept (w' := x1.drewN jj) rfl |>.look ha hb).1, e0, e1, hgc, hgf, fun jj u => ?_, fun jj u => ?_, fun jj u => ?_⟩
    · rw [World.cell?_setCell_other _ _ _ _ (by simp <;> omega)]
      exact cell_of_block e2 0
    · rw [World.cell?_setCell_other _ _ _ _ (by simp <;> omega)]
      exact e0
    · rw [World.cell?_setCell_other _ _ _ _ (by simp <;> omega)]
      exact e1
  have hfr : ∀ (x1 : World) (jj : Nat) (u : Value), Fr (fun b => b = g) x1 ((x1.drewN jj).setCell ⟨g, i * 2 + 1, none⟩ u).drew := fun x1 jj u =>
    (show Fr (fun b => b = g) x1 (x1.drewN jj) from ⟨rfl, rfl, rfl, Nat.le_refl _, fun _ _ _ => rfl⟩).setCell (Or.inl rfl) u |> fun h => ⟨h.os, h.tape, h.output, h.size, h.block⟩
  have hfr0 : ∀ (x1 : World) (jj : Nat), Fr (fun b => b = g) x1 (x1.drewN jj) := fun x1 jj => ⟨rfl, rfl, rfl, Nat.le_refl _, fun _ _ _ => rfl⟩
  have hmpS : ∀ x1, Below w.heap.size w x1 → ∀ jj u, Mp ((x1.drewN jj).setCell ⟨g, i * 2 + 1, none⟩ u).drew M n f := fun x1 hb1 jj u => (hmp x1 hb1).kept (Below.heap_setCell (x1.drewN jj) ⟨g, i * 2 + 1, none⟩ u M (Ne.symm hgM))
  have hrowS : ∀ x1, Below w.heap.size w x1 → ∀ jj (k' : Nat), ((x1.drewN jj).setCell ⟨g, i * 2 + 1, none⟩ (.int .i64 (k' : Int))).drew.ownsRow B 60 2 (.slice (some ⟨g, 0, none⟩) bs.length lc) bs.length (blkCells (L.set i (c, k'))) := by
    intro x1 hb1 jj k'
    rw [blkCells_set L i c k k' hk]
    exact ownsRow_set (w := x1.drewN jj) (hrow x1 hb1) hq _
  have hnm : n < maxLen := by unfold maxLen; omega
  by_cases ev : v = 0
  · subst ev
    by_cases eo : f (i : Int) (j : Int) = 0
    · refine (store_zero p M g i bs.length lc (j : Int) (k : Int) hl hil hhas (fun Y => MI Y B bl p (n + 1) bs (upd f i j 0) t ∧ Fr bl w Y) fun x1 hx1 => ⟨eo ▸ hsf x1 hx1, fun jj => ?_⟩).mono (fun e w' h => h)
      obtain ⟨Y, y1, y2, y3⟩ := ((hmp x1 (hx x1 hx1)).kept (w' := x1.drewN jj) rfl).drop ha hb 0
      refine ⟨Y, y1, ?_⟩
      have e : L.set i (c, k) = L := set_same hk
      rw [if_pos eo, if_pos rfl] at hcu
      obtain ⟨z1, z2⟩ := mi_stored (n' := n) h h1 h2 h3 h4 h5 h6 hk hj (k' := k) (by omega) (hx x1 hx1) (hfr0 x1 jj) (by rw [e]; exact hrow x1 (hx x1 hx1)) y2 y3
      exact ⟨z1.mono (by omega), z2⟩
    · rw [if_neg eo, if_pos rfl] at hcu
      refine (store_gone p M g i bs.length lc (j : Int) (k : Int) hl hil _ eo (by omega) (by omega) hhas (fun Y => MI Y B bl p (n + 1) bs (upd f i j 0) t ∧ Fr bl w Y) fun x1 hx1 => ⟨hsf x1 hx1, fun jj => ?_⟩).mono (fun e w' h => h)
      have ek : (k : Int) - 1 = ((k - 1 : Nat) : Int) := by omega
      rw [ek]
      obtain ⟨Y, y1, y2, y3⟩ := (hmpS x1 (hx x1 hx1) jj (.int .i64 ((k - 1 : Nat) : Int))).drop ha hb 0
      refine ⟨Y, y1, ?_⟩
      obtain ⟨z1, z2⟩ := mi_stored (n' := n) h h1 h2 h3 h4 h5 h6 hk hj (k' := k - 1) (by omega) (hx x1 hx1) (hfr x1 jj _) (hrowS x1 (hx x1 hx1) jj (k - 1)) y2 y3
      exact ⟨z1.mono (by omega), z2⟩
  · by_cases eo : f (i : Int) (j : Int) = 0
    · rw [if_pos eo, if_neg ev] at hcu
      refine (store_new p M g i bs.length lc (j : Int) v (k : Int) hl hil ev (by omega) (by omega) hhas (fun Y => MI Y B bl p (n + 1) bs (upd f i j v) t ∧ Fr bl w Y) fun x1 hx1 => ⟨eo ▸ hsf x1 hx1, fun jj => ?_⟩).mono (fun e w' h => h)
      have ek : (k : Int) + 1 = ((k + 1 : Nat) : Int) := by omega
      rw [ek]
      obtain ⟨Y, y1, y2, y3⟩ := (hmpS x1 (hx x1 hx1) jj (.int .i64 ((k + 1 : Nat) : Int))).store hnm ha hb hv
      exact ⟨Y, y1, mi_stored (n' := n + 1) h h1 h2 h3 h4 h5 h6 hk hj (k' := k + 1) (by omega) (hx x1 hx1) (hfr x1 jj _) (hrowS x1 (hx x1 hx1) jj (k + 1)) y2 y3⟩
    · rw [if_neg eo, if_neg ev] at hcu
      refine (store_over p M g i bs.length lc (j : Int) v (k : Int) hl hil ev _ eo hhas (fun Y => MI Y B bl p (n + 1) bs (upd f i j v) t ∧ Fr bl w Y) fun x1 hx1 => ⟨hsf x1 hx1, fun jj => ?_⟩).mono (fun e w' h => h)
      obtain ⟨Y, y1, y2, y3⟩ := ((hmp x1 (hx x1 hx1)).kept (w' := x1.drewN jj) rfl).store hnm ha hb hv
      have e : L.set i (c, k) = L := set_same hk
      exact ⟨Y, y1, mi_stored (n' := n + 1) h h1 h2 h3 h4 h5 h6 hk hj (k' := k) (by omega) (hx x1 hx1) (hfr0 x1 jj) (by rw [e]; exact hrow x1 (hx x1 hx1)) y2 y3⟩

#print axioms store_ok
end Go.Proofs.Ytbmkmllehppiiaa
