/-
  The example with other numbers, in memory; what comes of it with the fault; the document's numbers: facts on worlds and contracts over the program; the conditions: the numbers are in range.
-/
import Derived.Test.YtaomkfhbnakbjaaKFoS
import Derived.Test.YtaomkfhbnakbjaaKNuDo
namespace Go.Proofs.Ytaomkfhbnakbjaa.Fo
open Go.RowKit
set_option linter.unusedVariables false

/-- The example's blocks, with other numbers in the first three instructions. -/
structure EB (w : World) (m0 m1 op ty : Int) (g0 g1 g2 : Nat) : Prop where
  h0 : w.heap[g0]? = some (.cells ((xs m0 m1 op ty).flatMap PI.cells).toArray 51 (0, 0))
  h1 : w.heap[g1]? = some (.cells ([eP m0 m1 op ty g0].flatMap PP.cells).toArray 49 (0, 0))
  h2 : w.heap[g2]? = some (.cells ([eF m0 m1 op ty g0 g1].flatMap PF.cells).toArray 46 (0, 0))
  n1 : g1 ≠ g0
  n2 : g2 ≠ g0
theorem EB.ok {w : World} {m0 m1 op ty : Int} {g0 g1 g2 : Nat} (h : EB w m0 m1 op ty g0 g1 g2) (hm0 : I64 m0) (hm1 : I64 m1) (hop : 0 ≤ op ∧ op ≤ 255) (hty : 0 ≤ ty ∧ ty ≤ 255) : (eC m0 m1 op ty g0 g1 g2).ok w := eC_ok hm0 hm1 hop hty h.h0 h.h1 h.h2
theorem EB.q {w w' : World} {m0 m1 op ty : Int} {g0 g1 g2 : Nat} (h : EB w m0 m1 op ty g0 g1 g2) (q : Q w w') : EB w' m0 m1 op ty g0 g1 g2 :=
  have lt : ∀ {b : Nat} {o : Obj}, w.heap[b]? = some o → b < w.heap.size := fun h => (Array.getElem?_eq_some_iff.1 h).1
  ⟨(q.block _ (lt h.h0)).trans h.h0, (q.block _ (lt h.h1)).trans h.h1, (q.block _ (lt h.h2)).trans h.h2, h.n1, h.n2⟩
theorem EB.set {w : World} {m0 m1 op ty m0' m1' op' ty' : Int} {g0 g1 g2 : Nat} (h : EB w m0 m1 op ty g0 g1 g2) (j : Nat) (u : Value) (e : (((xs m0 m1 op ty).flatMap PI.cells).toArray).setIfInBounds j u = ((xs m0' m1' op' ty').flatMap PI.cells).toArray) : EB (w.setCell ⟨g0, j, none⟩ u) m0' m1' op' ty' g0 g1 g2 := by
  refine ⟨?_, ?_, ?_, h.n1, h.n2⟩
  · rw [block_setCell h.h0 u, e]
  · rw [Below.heap_setCell w ⟨g0, j, none⟩ u g1 h.n1]; exact h.h1
  · rw [Below.heap_setCell w ⟨g0, j, none⟩ u g2 h.n2]; exact h.h2
theorem EB.set0 {w : World} {m0 m1 op ty : Int} {g0 g1 g2 : Nat} (h : EB w m0 m1 op ty g0 g1 g2) (v : Int) : EB (w.setCell ⟨g0, 5, none⟩ (.int .i64 v)) v m1 op ty g0 g1 g2 := h.set 5 _ rfl
theorem EB.set1 {w : World} {m0 m1 op ty : Int} {g0 g1 g2 : Nat} (h : EB w m0 m1 op ty g0 g1 g2) (v : Int) : EB (w.setCell ⟨g0, 12, none⟩ (.int .i64 v)) m0 v op ty g0 g1 g2 := h.set 12 _ rfl
theorem EB.set2 {w : World} {m0 m1 op ty : Int} {g0 g1 g2 : Nat} (h : EB w m0 m1 op ty g0 g1 g2) (v : Int) : EB (w.setCell ⟨g0, 14, none⟩ (.int .u8 v)) m0 m1 v ty g0 g1 g2 := h.set 14 _ rfl
theorem EB.set3 {w : World} {m0 m1 op ty : Int} {g0 g1 g2 : Nat} (h : EB w m0 m1 op ty g0 g1 g2) (v : Int) : EB (w.setCell ⟨g0, 15, none⟩ (.int .u8 v)) m0 m1 op v g0 g1 g2 := h.set 15 _ rfl
/-- The cells that a write goes by. -/
theorem EB.way {w : World} {m0 m1 op ty : Int} {g0 g1 g2 : Nat} (h : EB w m0 m1 op ty g0 g1 g2) : w.cell? ⟨g2, 3, none⟩ = some (.slice (some ⟨g1, 0, none⟩) 1 1) ∧ w.cell? ⟨g1, 0, none⟩ = some (.slice (some ⟨g0, 0, none⟩) 4 4) ∧ (∀ j : Nat, w.frozen? ⟨g0, j, none⟩ = false) ∧ w.cell? ⟨g0, 5, none⟩ = some (.int .i64 m0) ∧ w.cell? ⟨g0, 12, none⟩ = some (.int .i64 m1) ∧ w.cell? ⟨g0, 14, none⟩ = some (.int .u8 op) ∧ w.cell? ⟨g0, 15, none⟩ = some (.int .u8 ty) :=
  ⟨cell_of_block h.h2 3, cell_of_block h.h1 0, fun j => free_of_block h.h0 j, cell_of_block h.h0 5, cell_of_block h.h0 12, cell_of_block h.h0 14, cell_of_block h.h0 15⟩

theorem example_blk (w : World) : Calls Try.prog 21 #[] w fun e w' => ∃ g0 g1 g2, e = .returned (eC 2 3 1 4 g0 g1 g2).v ∧ EB w' 2 3 1 4 g0 g1 g2 ∧ w.heap.size ≤ g0 ∧ g0 < w'.heap.size ∧ Q w w' := by
  go_enter Try.func21, Try.ntmps21
  go_wp2
  refine bodyPost_ret (v := (eC 2 3 1 4 (w.heap.size + 1) (w.heap.size + 1 + 1 + 1) (w.heap.size + 1 + 1 + 1 + 1)).v) (by simp [results, Try.results21, go_sem, eC]) rfl ?_
  exact ⟨_, _, _, rfl, ⟨heap_old _ (heap_old _ (heap_old _ (heap_at (by simp)))), heap_old _ (heap_at (by simp)), heap_at (by simp), by omega, by omega⟩, by omega, by simp, ((((Q.refl w).alloc _).alloc _).alloc _).alloc _ |>.alloc _⟩

theorem eV (m0 m1 op ty : Int) (g0 g1 g2 : Nat) (h1 : 1 ≤ op) (h2 : op ≤ 16) (h3 : 0 ≤ ty) (h4 : ty ≤ 5) : validP (eC m0 m1 op ty g0 g1 g2) = 0 := by
  have ho : op = 1 ∨ op = 2 ∨ op = 3 ∨ op = 4 ∨ op = 5 ∨ op = 6 ∨ op = 7 ∨ op = 8 ∨ op = 9 ∨ op = 10 ∨ op = 11 ∨ op = 12 ∨ op = 13 ∨ op = 14 ∨ op = 15 ∨ op = 16 := by omega
  have ht : ty = 0 ∨ ty = 1 ∨ ty = 2 ∨ ty = 3 ∨ ty = 4 ∨ ty = 5 := by omega
  rcases ho with rfl | rfl | rfl | rfl | rfl | rfl | rfl | rfl | rfl | rfl | rfl | rfl | rfl | rfl | rfl | rfl <;> rcases ht with rfl | rfl | rfl | rfl | rfl | rfl <;> rfl

/-- The third instruction, folded with the fault. -/
def third (m0 m1 op ty : Int) : PI := match two true ⟨op, ty, 2, 0, 1, 0, [], none, 0⟩ m0 m1 with | some v => ⟨20, 0, 2, 0, 0, v, [], none, 0⟩ | none => ⟨op, ty, 2, 0, 1, 0, [], none, 0⟩
theorem w_fold (m0 m1 op ty : Int) (h1 : 1 ≤ op) (h2 : op ≤ 16) : (foldL true (fun _ => none) (xs m0 m1 op ty))[2]? = some (third m0 m1 op ty) := by
  have e0 : foldI true (fun _ => none) ⟨20, 0, 0, 0, 0, m0, [], none, 0⟩ = ⟨20, 0, 0, 0, 0, m0, [], none, 0⟩ := rfl
  have e1 : foldI true (learn (fun _ => none) ⟨20, 0, 0, 0, 0, m0, [], none, 0⟩) ⟨20, 0, 1, 0, 0, m1, [], none, 0⟩ = ⟨20, 0, 1, 0, 0, m1, [], none, 0⟩ := rfl
  unfold xs
  simp only [foldL]
  rw [e0, e1]
  show some (foldI true _ _) = _
  unfold foldI
  have e2 : reckP true (learn (learn (fun _ => none) ⟨20, 0, 0, 0, 0, m0, [], none, 0⟩) ⟨20, 0, 1, 0, 0, m1, [], none, 0⟩) ⟨op, ty, 2, 0, 1, 0, [], none, 0⟩ = two true ⟨op, ty, 2, 0, 1, 0, [], none, 0⟩ m0 m1 := by
    unfold reckP
    show (if op = 21 then _ else if op = 22 then _ else if op = 23 then _ else if op = 24 then _ else if op = 25 then _ else if op < 1 ∨ 16 < op then none else _) = _
    rw [if_neg (by omega), if_neg (by omega), if_neg (by omega), if_neg (by omega), if_neg (by omega), if_neg (by omega)]
  rw [e2]
  rfl
theorem do_wr (op t a b : Int) : Burin.do1 op t (Burin.wr t a) b = Burin.do1 op t a b ∧ Burin.do2 op t (Burin.wr t a) b = Burin.do2 op t a b := by
  unfold Burin.do1 Burin.do2
  rw [Burin.wr_wr]
  exact ⟨rfl, rfl⟩
/-- What the third instruction is, by the document's numbers. -/
theorem third_is (x y op ty : Int) : (¬ Burin.do2 op ty x (Burin.wr ty y) = 0) ∨ (Burin.do2 op ty x (Burin.wr ty y) = 0 ∧ third (Burin.wr ty x) (Burin.wr ty y) op ty = ⟨20, 0, 2, 0, 0, if op = 1 then Burin.wr ty (wrap64 (Burin.do1 op ty x (Burin.wr ty y) + 1)) else Burin.do1 op ty x (Burin.wr ty y), [], none, 0⟩) := by
  by_cases h : Burin.do2 op ty x (Burin.wr ty y) = 0
  · refine .inr ⟨h, ?_⟩
    have e : two true ⟨op, ty, 2, 0, 1, 0, [], none, 0⟩ (Burin.wr ty x) (Burin.wr ty y) = some (if op = 1 then Burin.wr ty (wrap64 (Burin.do1 op ty x (Burin.wr ty y) + 1)) else Burin.do1 op ty x (Burin.wr ty y)) := by
      unfold two
      dsimp only
      rw [(do_wr op ty x _).1, (do_wr op ty x _).2, if_pos h]
      simp
    unfold third
    rw [e]
  · exact .inl h

theorem w_form {A : PC} {m0 m1 op ty : Int} {g0 g1 g2 : Nat} (h1 : 1 ≤ op) (h2 : op ≤ 16) (h : EvC A (foldC true (eC m0 m1 op ty g0 g1 g2))) : ∃ (f : PF) (p : PP) (x : PI), A.fns = [f] ∧ f.parts = [p] ∧ p.ins.length = 4 ∧ p.ins[2]? = some x ∧ EvI x (third m0 m1 op ty) := by
  have h1' : EvL EvF A.fns [foldF true (eF m0 m1 op ty g0 g1)] := h.fns
  obtain ⟨f, e1, h2'⟩ := evl_one h1'
  have h3 : EvL EvP f.parts [foldP true (eP m0 m1 op ty g0)] := h2'.parts
  obtain ⟨p, e2, h4⟩ := evl_one h3
  have h5 : EvL EvI p.ins (foldL true (fun _ => none) (xs m0 m1 op ty)) := h4.ins
  have hl : p.ins.length = 4 := by rw [h5.len, foldL_len]; rfl
  obtain ⟨x, hx⟩ := get_of_lt (l := p.ins) (k := 2) (by rw [hl]; decide)
  exact ⟨f, p, x, e1, e2, hl, hx, h5.each 2 x _ hx (w_fold m0 m1 op ty h1 h2)⟩

theorem wrun (w : World) (m0 m1 op ty : Int) (g0 g1 g2 : Nat) (h1 : 1 ≤ op) (h2 : op ≤ 16) (h3 : 0 ≤ ty) (h4 : ty ≤ 5) (hm0 : I64 m0) (hm1 : I64 m1) (h : EB w m0 m1 op ty g0 g1 g2) : Calls Try.prog 15 #[(eC m0 m1 op ty g0 g1 g2).v, .bool true] w fun e w' => ∃ (A : PC) (f : PF) (p : PP) (x : PI) (ib io : Nat), e = .returned (.tuple #[A.v, .int .i64 0]) ∧ A.ok w' ∧ A.fns = [f] ∧ f.parts = [p] ∧ p.ins.length = 4 ∧ p.ia = some ⟨ib, io, none⟩ ∧ At w' ib (io + 14) x.cells ∧ EvI x (third m0 m1 op ty) ∧ Q w w' := by
  refine (run_good w _ true (h.ok hm0 hm1 (by omega) (by omega)) (eV m0 m1 op ty _ _ _ h1 h2 h3 h4)).mono ?_
  rintro e w' ⟨A, rfl, hev, hl, hb⟩
  obtain ⟨f, p, x, e1, e2, e3, e4, e5⟩ := w_form h1 h2 hev
  obtain ⟨fb, fo, efa, hfat⟩ := hl.ok.fns 0 f (by rw [e1]; rfl)
  obtain ⟨pb, po, epa, hpat⟩ := hfat.2.parts 0 p (by rw [e2]; rfl)
  obtain ⟨ib, io, eia, hiat⟩ := hpat.2.ins 2 x e4
  exact ⟨A, f, p, x, ib, io, rfl, hl.ok, e1, e2, e3, eia, hiat.1, e5, hb⟩

end Go.Proofs.Ytaomkfhbnakbjaa.Fo
