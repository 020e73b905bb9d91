/-
  Three lists that grow in a frame of one's own, and the box that holds them: facts on worlds alone; no conditions but those that each fact bears.
-/
import Derived.Test.YtejkblbhnbbjaaaVmCa
import Derived.Test.YtejkblbhnbbjaaaVmRc
namespace Go.Proofs.Ytejkblbhnbbjaaa
open Go.RowKit Go.Deep
set_option linter.unusedVariables false

namespace Ca
def rowU (H : List Int) : List Value := H.map fun x => .int .u64 x
theorem rowU_len (H : List Int) : (rowU H).length = H.length := List.length_map ..
theorem rowU_app (A B : List Int) : rowU (A ++ B) = rowU A ++ rowU B := List.map_append ..

/-- Three rows of one's own, apart, behind block b. -/
structure Th (w0 X : World) (b : Nat) (T1 : TypeId) (v1 : Value) (x1 : List Value) (T2 : TypeId) (v2 : Value) (x2 : List Value) (T3 : TypeId) (v3 : Value) (x3 : List Value) : Prop where
  bel : Q w0 X
  hb : w0.heap.size ≤ b
  lb : b < X.heap.size
  o1 : X.ownsRow (b + 1) T1 1 v1 x1.length x1
  o2 : X.ownsRow (b + 1) T2 1 v2 x2.length x2
  o3 : X.ownsRow (b + 1) T3 1 v3 x3.length x3
  a12 : ∀ g, v1.ownBlock = some g → v2.ownBlock ≠ some g
  a13 : ∀ g, v1.ownBlock = some g → v3.ownBlock ≠ some g
  a23 : ∀ g, v2.ownBlock = some g → v3.ownBlock ≠ some g
theorem own_ge {w : World} {base : Nat} {T : TypeId} {v : Value} {n z : Nat} {xs : List Value} (h : w.ownsRow base T z v n xs) {k : Nat} (hk : v.ownBlock = some k) : base ≤ k := by
  rcases h.2 with ⟨e0, -⟩ | ⟨g, cap, cur, e0, hb, -⟩
  · rw [e0] at hk; cases hk
  · rw [e0] at hk; injection hk with hk; subst hk; exact hb
section
variable {w0 X Y : World} {b : Nat} {T1 T2 T3 : TypeId} {v1 v2 v3 v' : Value} {x1 x2 x3 xs' : List Value}
theorem Th.rot (h : Th w0 X b T1 v1 x1 T2 v2 x2 T3 v3 x3) : Th w0 X b T2 v2 x2 T3 v3 x3 T1 v1 x1 := ⟨h.bel, h.hb, h.lb, h.o2, h.o3, h.o1, h.a23, fun g e q => h.a12 g q e, fun g e q => h.a13 g q e⟩
theorem Th.keep (h : Th w0 X b T1 v1 x1 T2 v2 x2 T3 v3 x3) (q : Q X Y) : Th w0 Y b T1 v1 x1 T2 v2 x2 T3 v3 x3 :=
  ⟨h.bel.trans q, h.hb, Nat.lt_of_lt_of_le h.lb q.size, row_keep h.o1 (fun k e => q.block k (own_lt h.o1 e)), row_keep h.o2 (fun k e => q.block k (own_lt h.o2 e)), row_keep h.o3 (fun k e => q.block k (own_lt h.o3 e)), h.a12, h.a13, h.a23⟩
theorem Th.set (h : Th w0 X b T1 v1 x1 T2 v2 x2 T3 v3 x3) (j : Nat) (u : Value) : Th w0 (X.setCell ⟨b, j, none⟩ u) b T1 v1 x1 T2 v2 x2 T3 v3 x3 := by
  have oth : ∀ k, b + 1 ≤ k → (X.setCell ⟨b, j, none⟩ u).heap[k]? = X.heap[k]? := fun k hk => heap_setCell_other X _ k _ (show k ≠ b by omega)
  exact ⟨Below.setCell h.bel h.hb _, h.hb, by rw [World.size_setCell]; exact h.lb, row_keep h.o1 (fun k e => oth k (own_ge h.o1 e)), row_keep h.o2 (fun k e => oth k (own_ge h.o2 e)), row_keep h.o3 (fun k e => oth k (own_ge h.o3 e)), h.a12, h.a13, h.a23⟩
theorem Th.grow (h : Th w0 X b T1 v1 x1 T2 v2 x2 T3 v3 x3) (hg : X.grownBy Y v1.ownBlock) (ho : Y.ownsRow (b + 1) T1 1 v' xs'.length xs') (hat : ∃ g, v'.ownBlock = some g ∧ (v1.ownBlock = some g ∨ X.heap.size ≤ g)) : Th w0 Y b T1 v' xs' T2 v2 x2 T3 v3 x3 ∧ Y.heap[b]? = X.heap[b]? := by
  have hn : ∀ k, k ≤ b → some k ≠ v1.ownBlock := fun k hk e => by have := own_ge h.o1 e.symm; omega
  obtain ⟨g, g1, g2⟩ := hat
  refine ⟨⟨⟨hg.os.trans h.bel.os, hg.tape.trans h.bel.tape, hg.output.trans h.bel.output, Nat.le_trans h.bel.size hg.size, fun k hk => ?_⟩, h.hb, Nat.lt_of_lt_of_le h.lb hg.size, ho, row_keep h.o2 (fun k e => hg.block k (own_lt h.o2 e) (fun q => h.a12 k q.symm e)), row_keep h.o3 (fun k e => hg.block k (own_lt h.o3 e) (fun q => h.a13 k q.symm e)), fun k e q => ?_, fun k e q => ?_, h.a23⟩, hg.block b h.lb (hn b (Nat.le_refl _))⟩
  · have := h.hb
    have := h.lb
    rw [hg.block k (by omega) (hn k (by omega))]
    exact h.bel.block k hk
  · rw [g1] at e
    injection e with e
    subst e
    rcases g2 with g2 | g2
    · exact h.a12 _ g2 q
    · have := own_lt h.o2 q; omega
  · rw [g1] at e
    injection e with e
    subst e
    rcases g2 with g2 | g2
    · exact h.a13 _ g2 q
    · have := own_lt h.o3 q; omega
end

/-- The box with its lists. -/
structure CI (w0 X : World) (b : Nat) (ws st fr : List Int) (wa sa fa : Option Addr) (wc sc fc : Nat) : Prop where
  th : Th w0 X b 41 (.slice wa ws.length wc) (rowU ws) 3 (.slice sa st.length sc) (rowI st) 3 (.slice fa fr.length fc) (rowI fr)
  bx : X.heap[b]? = some (.cells #[.slice wa ws.length wc, .slice sa st.length sc, .slice fa fr.length fc, .slice none 0 0] 26 (0, 0))
section
variable {w0 X X1 Y : World} {b : Nat} {ws st fr : List Int} {wa sa fa : Option Addr} {wc sc fc : Nat}
theorem CI.keep (h : CI w0 X b ws st fr wa sa fa wc sc fc) (q : Q X Y) : CI w0 Y b ws st fr wa sa fa wc sc fc := ⟨h.th.keep q, (q.block b h.th.lb).trans h.bx⟩
theorem CI.c4 (h : CI w0 X b ws st fr wa sa fa wc sc fc) : X.cell? ⟨b, 0, none⟩ = some (.slice wa ws.length wc) ∧ X.cell? ⟨b, 1, none⟩ = some (.slice sa st.length sc) ∧ X.cell? ⟨b, 2, none⟩ = some (.slice fa fr.length fc) ∧ X.cell? ⟨b, 3, none⟩ = some (.slice none 0 0) :=
  ⟨cell_of_block h.bx 0, cell_of_block h.bx 1, cell_of_block h.bx 2, cell_of_block h.bx 3⟩
theorem CI.fz (h : CI w0 X b ws st fr wa sa fa wc sc fc) (j : Nat) : X.frozen? ⟨b, j, none⟩ = false := free_of_block h.bx j
theorem CI.ow (h : CI w0 X b ws st fr wa sa fa wc sc fc) : X.ownsRow (b + 1) 41 1 (.slice wa ws.length wc) ws.length (rowU ws) := by have := h.th.o1; rwa [rowU_len] at this
theorem CI.os (h : CI w0 X b ws st fr wa sa fa wc sc fc) : X.ownsRow (b + 1) 3 1 (.slice sa st.length sc) st.length (rowI st) := by have := h.th.o2; rwa [rowI_len] at this
theorem CI.of (h : CI w0 X b ws st fr wa sa fa wc sc fc) : X.ownsRow (b + 1) 3 1 (.slice fa fr.length fc) fr.length (rowI fr) := by have := h.th.o3; rwa [rowI_len] at this
theorem CI.app_w (h : CI w0 X b ws st fr wa sa fa wc sc fc) {g cap : Nat} {n : Nat} {l : List Int} (hn : n = l.length) (ho : Y.ownsRow (b + 1) 41 1 (.slice (some ⟨g, 0, none⟩) (ws.length + n) cap) (ws.length + n) (rowU ws ++ rowU l)) (hg : X.grownBy Y (Value.slice wa ws.length wc).ownBlock) (hl : (Value.slice wa ws.length wc).ownBlock = some g ∨ g = X.heap.size) :
    (Y.cell? ⟨b, 0, none⟩ = some (.slice wa ws.length wc) ∧ Y.frozen? ⟨b, 0, none⟩ = false) ∧ CI w0 (Y.setCell ⟨b, 0, none⟩ (.slice (some ⟨g, 0, none⟩) (ws.length + n) cap)) b (ws ++ l) st fr (some ⟨g, 0, none⟩) sa fa cap sc fc := by
  subst hn
  have el : (ws ++ l).length = ws.length + l.length := by simp
  obtain ⟨t, e⟩ := h.th.grow (v' := .slice (some ⟨g, 0, none⟩) (ws.length + l.length) cap) (xs' := rowU (ws ++ l)) hg (by rw [rowU_len, el, rowU_app]; exact ho) ⟨g, rfl, hl.imp id (fun e => by omega)⟩
  have b0 := e.trans h.bx
  refine ⟨⟨cell_of_block b0 0, free_of_block b0 0⟩, ?_, ?_⟩
  · rw [el]; exact t.set 0 _
  · rw [heap_setCell_same Y b 0 _ _ _ b0, el]; simp
theorem CI.app_s (h : CI w0 X b ws st fr wa sa fa wc sc fc) {g cap : Nat} {z : Int} (ho : Y.ownsRow (b + 1) 3 1 (.slice (some ⟨g, 0, none⟩) (st.length + 1) cap) (st.length + 1) (rowI st ++ [.int .i64 z])) (hg : X.grownBy Y (Value.slice sa st.length sc).ownBlock) (hl : (Value.slice sa st.length sc).ownBlock = some g ∨ g = X.heap.size) :
    (Y.cell? ⟨b, 1, none⟩ = some (.slice sa st.length sc) ∧ Y.frozen? ⟨b, 1, none⟩ = false) ∧ CI w0 (Y.setCell ⟨b, 1, none⟩ (.slice (some ⟨g, 0, none⟩) (st.length + 1) cap)) b ws (st ++ [z]) fr wa (some ⟨g, 0, none⟩) fa wc cap fc := by
  have el : (st ++ [z]).length = st.length + 1 := by simp
  obtain ⟨t, e⟩ := h.th.rot.grow (v' := .slice (some ⟨g, 0, none⟩) (st.length + 1) cap) (xs' := rowI (st ++ [z])) hg (by rw [rowI_len, el, rowI_app]; exact ho) ⟨g, rfl, hl.imp id (fun e => by omega)⟩
  have b0 := e.trans h.bx
  refine ⟨⟨cell_of_block b0 1, free_of_block b0 1⟩, ?_, ?_⟩
  · rw [el]; exact (t.rot.rot).set 1 _
  · rw [heap_setCell_same Y b 1 _ _ _ b0, el]; simp
theorem CI.app_f (h : CI w0 X b ws st fr wa sa fa wc sc fc) {g cap : Nat} {z : Int} (ho : Y.ownsRow (b + 1) 3 1 (.slice (some ⟨g, 0, none⟩) (fr.length + 1) cap) (fr.length + 1) (rowI fr ++ [.int .i64 z])) (hg : X.grownBy Y (Value.slice fa fr.length fc).ownBlock) (hl : (Value.slice fa fr.length fc).ownBlock = some g ∨ g = X.heap.size) :
    (Y.cell? ⟨b, 2, none⟩ = some (.slice fa fr.length fc) ∧ Y.frozen? ⟨b, 2, none⟩ = false) ∧ CI w0 (Y.setCell ⟨b, 2, none⟩ (.slice (some ⟨g, 0, none⟩) (fr.length + 1) cap)) b ws st (fr ++ [z]) wa sa (some ⟨g, 0, none⟩) wc sc cap := by
  have el : (fr ++ [z]).length = fr.length + 1 := by simp
  obtain ⟨t, e⟩ := h.th.rot.rot.grow (v' := .slice (some ⟨g, 0, none⟩) (fr.length + 1) cap) (xs' := rowI (fr ++ [z])) hg (by rw [rowI_len, el, rowI_app]; exact ho) ⟨g, rfl, hl.imp id (fun e => by omega)⟩
  have b0 := e.trans h.bx
  refine ⟨⟨cell_of_block b0 2, free_of_block b0 2⟩, ?_, ?_⟩
  · rw [el]; exact (t.rot).set 2 _
  · rw [heap_setCell_same Y b 2 _ _ _ b0, el]; simp
theorem CI.new (w : World) : CI w (w.alloc (.cells #[.slice none 0 0, .slice none 0 0, .slice none 0 0, .slice none 0 0] 26)) w.heap.size [] [] [] none none none 0 0 0 :=
  ⟨⟨(Q.refl w).alloc _, Nat.le_refl _, by simp, World.ownsRow_nil _ _ _ _, World.ownsRow_nil _ _ _ _, World.ownsRow_nil _ _ _ _, (fun g e => by cases e), (fun g e => by cases e), (fun g e => by cases e)⟩, heap_new w _⟩

theorem rowU_at {T : TypeId} {v : Value} {L : List Int} {base : Nat} (h : X.ownsRow base T 1 v L.length (rowU L)) {n : Nat} {x : Int} (hx : L[n]? = some x) :
    ∃ g cap, v = .slice (some ⟨g, 0, none⟩) L.length cap ∧ X.cell? ⟨g, n, none⟩ = some (.int .u64 x) ∧ L.length ≤ cap := by
  have hn : n < L.length := (List.getElem?_eq_some_iff.1 hx).1
  rcases h.2 with ⟨-, e1⟩ | ⟨g, cap, cur, e0, hb, hg, hnc, hcm, hcs, ht⟩
  · omega
  · refine ⟨g, cap, e0, ?_, hnc⟩
    have : (rowU L)[n]? = some (.int .u64 x) := by simp [rowU, hx]
    rw [← ht, Nat.mul_one, List.getElem?_take, if_pos hn] at this
    rw [cell_of_block hg]
    simpa using this
theorem own_sok {T : TypeId} {xs : List Value} {a : Option Addr} {n c base : Nat} (h : X.ownsRow base T 1 (.slice a n c) n xs) (hn : n ≤ 100000) : sok 8 a n c := by
  rcases h.2 with ⟨e0, e1⟩ | ⟨g, cap, cur, e0, hb, hg, hnc, hcm, hcs, ht⟩
  · injection e0 with e0 e2 e3
    subst e0; subst e1; subst e3
    exact s0
  · injection e0 with e0 e2 e3
    subst e0; subst e3
    exact ⟨hnc, hcm, (fun e => by cases e), by omega⟩
/-- The lists make a program. -/
theorem CI.im (h : CI w0 X b ws st fr wa sa fa wc sc fc) (hw : ∀ x ∈ ws, Cd.U64 x) (hs : ∀ x ∈ st, I64 x) (hf : ∀ x ∈ fr, I64 x) (l1 : ws.length ≤ 100000) (l2 : st.length ≤ 100000) (l3 : fr.length ≤ 100000) : (⟨ws, st, fr, [], wa, wc, sa, sc, fa, fc, none, 0⟩ : PIm).ok X := by
  refine ⟨own_sok h.ow l1, fun k z e => ?_, own_sok h.os l2, fun k z e => ?_, own_sok h.of l3, fun k z e => ?_, s0, fun k x e => by simp at e⟩
  · obtain ⟨g, cap, e0, e1, -⟩ := rowU_at h.ow e
    injection e0 with e0
    exact ⟨g, 0, e0, by rw [Nat.zero_add, Nat.mul_one]; exact e1, hw z (List.mem_of_getElem? e)⟩
  · obtain ⟨g, cap, cur, e0, e1, e2, -, -⟩ := row_at h.os e
    injection e0 with e0
    exact ⟨g, 0, e0, by rw [Nat.zero_add, Nat.mul_one, cell_of_block e1]; exact e2, hs z (List.mem_of_getElem? e)⟩
  · obtain ⟨g, cap, cur, e0, e1, e2, -, -⟩ := row_at h.of e
    injection e0 with e0
    exact ⟨g, 0, e0, by rw [Nat.zero_add, Nat.mul_one, cell_of_block e1]; exact e2, hf z (List.mem_of_getElem? e)⟩
end
end Ca
end Go.Proofs.Ytejkblbhnbbjaaa
