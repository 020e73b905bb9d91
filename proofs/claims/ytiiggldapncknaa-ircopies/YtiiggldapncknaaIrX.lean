/-
  The long code of the statements: a contract over the program.
-/
import Derived.Test.YtiiggldapncknaaIrP
import Derived.BigRegion
import Derived.Laws.MakeOwn
namespace Go.Proofs.Ytiiggldapncknaa
open Go.RowKit
set_option linter.unusedVariables false

/-- The k-th cell of instructions, i of which are IConst, the others empty. -/
def cellAt (i k : Nat) : Value := if k % 7 = 0 then (if k / 7 < i then .int .u8 20 else .int .u8 0) else if k % 7 = 1 then .int .u8 0 else if k % 7 = 6 then .slice none 0 0 else .int .i64 0
def LongB (N i G : Nat) (W : World) : Prop := ∃ cs : Array Value, W.heap[G]? = some (.cells cs 33 (0, 0)) ∧ cs.size = N * 7 ∧ ∀ k, k < N * 7 → cs[k]? = some (cellAt i k)

theorem heap_set_other {X : World} {p : Addr} {u : Value} {k : Nat} {o : Obj} (h : X.heap[k]? = some o) (hne : k ≠ p.block) : (X.setCell p u).heap[k]? = some o := by
  rw [Below.heap_setCell X p u k hne]
  exact h
theorem block_setCell {w : World} {b j : Nat} {cs : Array Value} {t : TypeId} (h : w.heap[b]? = some (.cells cs t (0, 0))) (u : Value) : (w.setCell ⟨b, j, none⟩ u).heap[b]? = some (.cells (cs.setIfInBounds j u) t (0, 0)) := by
  have hlt : b < w.heap.size := (Array.getElem?_eq_some_iff.1 h).1
  have h' : w.heap[b] = .cells cs t (0, 0) := by simpa [Array.getElem?_eq_getElem hlt] using h
  show (w.heap.modify b _)[b]? = _
  rw [Array.getElem?_eq_getElem (by simpa using hlt), Array.getElem_modify_self, h']
  rfl
theorem free_of_block {w : World} {b : Nat} {cs : Array Value} {t : TypeId} (h : w.heap[b]? = some (.cells cs t (0, 0))) (j : Nat) : w.frozen? ⟨b, j, none⟩ = false := by simp [World.frozen?, h]

theorem LongB.other {N i G : Nat} {W : World} {p : Addr} {u : Value} (h : LongB N i G W) (hne : G ≠ p.block) : LongB N i G (W.setCell p u) := by
  obtain ⟨cs, h1, h2, h3⟩ := h
  exact ⟨cs, heap_set_other h1 hne, h2, h3⟩
theorem LongB.step {N i G : Nat} {W : World} (h : LongB N i G W) (hi : i < N) : LongB N (i + 1) G (W.setCell ⟨G, i * 7, none⟩ (.int .u8 20)) := by
  obtain ⟨cs, h1, h2, h3⟩ := h
  refine ⟨_, block_setCell h1 _, by simpa using h2, fun k hk => ?_⟩
  rw [Array.getElem?_setIfInBounds]
  by_cases e : i * 7 = k
  · subst e
    rw [if_pos rfl, if_pos (by rw [h2]; exact hk)]
    unfold cellAt
    rw [if_pos (by omega), if_pos (by omega)]
  · rw [if_neg e, h3 k hk]
    unfold cellAt
    by_cases h0 : k % 7 = 0
    · rw [if_pos h0, if_pos h0]
      by_cases h4 : k / 7 < i
      · rw [if_pos h4, if_pos (by omega)]
      · rw [if_neg h4, if_neg (by omega)]
    · rw [if_neg h0, if_neg h0]
theorem LongB.made (N : Nat) (X : World) : LongB N 0 X.heap.size (X.alloc (.cells (madeCells #[.int .u8 0, .int .u8 0, .int .i64 0, .int .i64 0, .int .i64 0, .int .i64 0, .slice none 0 0] (N * 7)) 33)) := by
  refine ⟨_, heap_new X _, size_madeCells _ _, fun k hk => ?_⟩
  unfold madeCells cellAt
  rw [Array.getElem?_map, Array.getElem?_range, if_pos hk]
  simp only [Option.map_some, Option.some.injEq, Nat.not_lt_zero, if_false]
  have : k % 7 = 0 ∨ k % 7 = 1 ∨ k % 7 = 2 ∨ k % 7 = 3 ∨ k % 7 = 4 ∨ k % 7 = 5 ∨ k % 7 = 6 := by omega
  rcases this with h | h | h | h | h | h | h <;> simp [h]

theorem z64 : I64 0 := by unfold I64; omega
def x20 : PI := ⟨20, 0, 0, 0, 0, 0, [], none, 0⟩
theorem LongB.insts {N G : Nat} {W : World} (h : LongB N N G W) : Insts W (some ⟨G, 0, none⟩) (List.replicate N x20) := by
  obtain ⟨cs, h1, h2, h3⟩ := h
  intro k x e
  rw [List.getElem?_replicate] at e
  split at e
  · simp at e
    subst e
    refine ⟨G, 0, rfl, fun j hj => ?_, ⟨by decide, by decide, z64, z64, z64, z64, sok_none _, Lst.nil⟩⟩
    have hj' : j < 7 := hj
    have hk : k < N := by assumption
    rw [cell_of_block h1, h3 _ (by omega)]
    have : j = 0 ∨ j = 1 ∨ j = 2 ∨ j = 3 ∨ j = 4 ∨ j = 5 ∨ j = 6 := by omega
    unfold cellAt
    rcases this with rfl | rfl | rfl | rfl | rfl | rfl | rfl
    · rw [if_pos (by omega), if_pos (by omega)]; rfl
    · rw [if_neg (by omega), if_pos (by omega)]; rfl
    · rw [if_neg (by omega), if_neg (by omega), if_neg (by omega)]; rfl
    · rw [if_neg (by omega), if_neg (by omega), if_neg (by omega)]; rfl
    · rw [if_neg (by omega), if_neg (by omega), if_neg (by omega)]; rfl
    · rw [if_neg (by omega), if_neg (by omega), if_neg (by omega)]; rfl
    · rw [if_neg (by omega), if_neg (by omega), if_pos (by omega)]; rfl
  · cases e

/-- The long code came. -/
def Long (N : Nat) (w : World) (e : Ending) (w' : World) : Prop :=
  ∃ G g1 g2, w.heap.size ≤ g1 ∧ g1 < g2 ∧ g2 < G ∧ e = .returned (.agg #[.slice none 0 0, .slice none 0 0, .slice (some ⟨g2, 0, none⟩) 1 1]) ∧
    w'.heap[g1]? = some (.cells #[.slice (some ⟨G, 0, none⟩) N N, .bool true, .int .i64 0, .int .i64 0, .int .i64 0] 44 (0, 0)) ∧
    w'.heap[g2]? = some (.cells #[.int .i64 0, .int .i64 1, .slice none 0 0, .slice (some ⟨g1, 0, none⟩) 1 1] 41 (0, 0)) ∧ LongB N N G w' ∧ Q w w'

/-- What holds while the long code is made. -/
def Inv (N r b G g1 g2 i : Nat) (W : World) : Prop := LongB N i G W ∧
  W.heap[g1]? = some (.cells #[.slice (some ⟨G, 0, none⟩) N N, .bool true, .int .i64 0, .int .i64 0, .int .i64 0] 44 (0, 0)) ∧
  W.heap[g2]? = some (.cells #[.int .i64 0, .int .i64 1, .slice none 0 0, .slice (some ⟨g1, 0, none⟩) 1 1] 41 (0, 0)) ∧
  W.heap[b]? = some (.cells #[.slice none 0 0, .slice none 0 0, .slice (some ⟨g2, 0, none⟩) 1 1] 26 (0, 0)) ∧
  ∃ cs, W.heap[r]? = some (.cells cs 26 (0, 0)) ∧ cs.size = 3

set_option maxRecDepth 100000 in
set_option maxHeartbeats 1000000 in
theorem long_any (w : World) (N : Nat) (hN : N ≤ 60000) : Calls Try.prog 20 #[.int .i64 ((N : Int) + 1)] w fun e w' => Long N w e w' := by
  have CL := hideIt (fun X => least_any X)
  obtain ⟨i0, hi, hz0, hz1, hz2⟩ : ∃ i, Try.prog.info? 33 = some i ∧ i.zero = some (.agg #[.int .u8 0, .int .u8 0, .int .i64 0, .int .i64 0, .int .i64 0, .int .i64 0, .slice none 0 0]) ∧ i.size = 7 ∧ i.bytes = 64 := by
    obtain ⟨i, hi, hzz⟩ := Option.map_eq_some_iff.1 Try.infoInst
    simp only [Prod.mk.injEq] at hzz
    exact ⟨i, hi, hzz.1, hzz.2.1, hzz.2.2⟩
  have hmk : ∀ X : World, (Instr.makeSlice 42 (.int .i64 (N : Int)) (.int .i64 (N : Int))).run Try.prog X = .ok (.slice (some ⟨X.heap.size, 0, none⟩) N N) (X.alloc (.cells (madeCells #[.int .u8 0, .int .u8 0, .int .i64 0, .int .i64 0, .int .i64 0, .int .i64 0, .slice none 0 0] (N * 7)) 33)) := fun X => by
    have := run_make (P := Try.prog) X 42 33 i0 _ Try.underlying42 hi hz0 .i64 .i64 (N : Int) (N : Int) (by omega) (Int.le_refl _) (by rw [hz2]; omega) (by omega)
    rw [hz1] at this
    simpa [Value.cells] using this
  have hw1 : IntKind.i64.wrap (N : Int) = N := by simp [IntKind.wrap_i64]; omega
  have hw2 : IntKind.i64.wrap ((N : Int) + 1 - 1) = N := by simp [IntKind.wrap_i64]; omega
  clear hi hz0 hz1 hz2
  go_enter Try.func20, Try.ntmps20
  go_wp2_with (first | (go_at_call 19; refine (CL.out _).mono ?_; rintro e x1 ⟨g1, g2, l1, l2, rfl, b1, b2, q1⟩; have HB1 := hideIt b1; have HB2 := hideIt b2; have HQ1 := hideIt q1; have HL := hideIt (And.intro l1 l2); clear b1 b2 q1 l1 l2) | fail)
  obtain ⟨x2, hx2⟩ : ∃ x2, x1.alloc (.cells #[.slice none 0 0, .slice none 0 0, .slice (some ⟨g2, 0, none⟩) 1 1] 26) = x2 := ⟨_, rfl⟩
  rw [hx2]
  have hg1 : g1 < x1.heap.size := (Array.getElem?_eq_some_iff.1 HB1.out).1
  have hg2 : g2 < x1.heap.size := (Array.getElem?_eq_some_iff.1 HB2.out).1
  have hs2 : x2.heap.size = x1.heap.size + 1 := by rw [← hx2]; simp
  have B1 : x2.heap[g1]? = some (.cells #[.slice none 0 0, .bool true, .int .i64 0, .int .i64 0, .int .i64 0] 44 (0, 0)) := by rw [← hx2]; exact heap_old _ HB1.out
  have B2 : x2.heap[g2]? = some (.cells #[.int .i64 0, .int .i64 1, .slice none 0 0, .slice (some ⟨g1, 0, none⟩) 1 1] 41 (0, 0)) := by rw [← hx2]; exact heap_old _ HB2.out
  have B3 : x2.heap[x1.heap.size]? = some (.cells #[.slice none 0 0, .slice none 0 0, .slice (some ⟨g2, 0, none⟩) 1 1] 26 (0, 0)) := by rw [← hx2]; exact heap_new _ _
  have Q2 : Hid (Q w x2) := by show Q w x2; rw [← hx2]; exact ((Q.refl w).alloc _).trans (HQ1.out.alloc _)
  have hsz : Hid (w.heap.size < g1 ∧ g1 < g2 ∧ g2 < x1.heap.size ∧ x2.heap.size = x1.heap.size + 1) := ⟨by have := HL.out.1; simp at this; omega, HL.out.2, hg2, hs2⟩
  have BR : Hid (∃ cs, x2.heap[w.heap.size]? = some (.cells cs 26 (0, 0)) ∧ cs.size = 3) := by
    show ∃ cs, x2.heap[w.heap.size]? = some (.cells cs 26 (0, 0)) ∧ cs.size = 3
    rw [← hx2]
    refine ⟨#[.slice none 0 0, .slice none 0 0, .slice none 0 0], heap_old _ ?_, rfl⟩
    rw [HQ1.out.block _ (by simp)]
    exact heap_new w _
  have c2 : x2.cell? ⟨x1.heap.size, 2, none⟩ = some (.slice (some ⟨g2, 0, none⟩) 1 1) := (cell_of_block B3 2).trans rfl
  have k3 : x2.cell? ⟨g2, 3, none⟩ = some (.slice (some ⟨g1, 0, none⟩) 1 1) := (cell_of_block B2 3).trans rfl
  have p0 : x2.cell? ⟨g1, 0, none⟩ = some (.slice none 0 0) := (cell_of_block B1 0).trans rfl
  have pf : x2.frozen? ⟨g1, 0, none⟩ = false := free_of_block B1 0
  have ca : ∀ ob, (x2.alloc ob).cell? ⟨x1.heap.size, 2, none⟩ = some (.slice (some ⟨g2, 0, none⟩) 1 1) := fun ob => (cell_of_block (heap_old ob B3) 2).trans rfl
  have ka : ∀ ob, (x2.alloc ob).cell? ⟨g2, 3, none⟩ = some (.slice (some ⟨g1, 0, none⟩) 1 1) := fun ob => (cell_of_block (heap_old ob B2) 3).trans rfl
  have pa : ∀ ob, (x2.alloc ob).cell? ⟨g1, 0, none⟩ = some (.slice none 0 0) := fun ob => (cell_of_block (heap_old ob B1) 0).trans rfl
  have pfa : ∀ ob, (x2.alloc ob).frozen? ⟨g1, 0, none⟩ = false := fun ob => free_of_block (heap_old ob B1) 0
  have HB1' := hideIt B1
  have HB2' := hideIt B2
  have HB3' := hideIt B3
  clear B1 B2 B3 hx2 hs2 hg1 hg2 HB1 HB2 HQ1 HL CL
  go_region
  generalize hW3 : ((x2.alloc (.cells (madeCells #[.int .u8 0, .int .u8 0, .int .i64 0, .int .i64 0, .int .i64 0, .int .i64 0, .slice none 0 0] (N * 7)) 33)).setCell ⟨g1, 0, none⟩ (.slice (some ⟨x2.heap.size, 0, none⟩) N N)).drew = W3
  have hl := hsz.out
  have I0 : Inv N w.heap.size x1.heap.size x2.heap.size g1 g2 0 W3 := by
    rw [← hW3]
    refine ⟨?_, ?_, ?_, ?_, ?_⟩
    · show LongB N 0 x2.heap.size (World.setCell _ _ _)
      exact (LongB.made N x2).other (by show x2.heap.size ≠ g1; omega)
    · exact block_setCell (heap_old _ HB1'.out) _
    · exact heap_set_other (heap_old _ HB2'.out) (by show g2 ≠ g1; omega)
    · exact heap_set_other (heap_old _ HB3'.out) (by show x1.heap.size ≠ g1; omega)
    · obtain ⟨cs, h1, h2⟩ := BR.out
      exact ⟨cs, heap_set_other (heap_old _ h1) (by show w.heap.size ≠ g1; omega), h2⟩
  have Q3 : Hid (Q w W3) := by
    show Q w W3
    rw [← hW3]
    exact ((Q2.out.alloc _).set (by show w.heap.size ≤ g1; omega) _).drew
  have HI0 := hideIt I0
  clear I0 hW3 c2 k3 p0 pf ca ka pa pfa hmk hw1 hw2 HB1' HB2' HB3' Q2 BR hl
  go_wp2_with (fail)
  go_loopw [4] (fun i wr => ∃ (k : Nat), i = .int .i64 k ∧ k ≤ N ∧ Inv N w.heap.size x1.heap.size x2.heap.size g1 g2 k wr ∧ Q w wr) (fun i _ => N - (intOf i).toNat)
  case atStart => exact ⟨0, rfl, by omega, HI0.out, Q3.out⟩
  case round =>
    obtain ⟨k, rfl, hk, hi, hq⟩ := hrel
    have HI := hideIt hi
    have HQ := hideIt hq
    have hl := hsz.out
    obtain ⟨⟨cs, h1, h1s, h1c⟩, h2, h3, h4, ⟨rs, h5, h5s⟩⟩ := hi
    have c0 : wr.cell? ⟨x1.heap.size, 0, none⟩ = some (.slice none 0 0) := (cell_of_block h4 0).trans rfl
    have c1 : wr.cell? ⟨x1.heap.size, 1, none⟩ = some (.slice none 0 0) := (cell_of_block h4 1).trans rfl
    have c2 : wr.cell? ⟨x1.heap.size, 2, none⟩ = some (.slice (some ⟨g2, 0, none⟩) 1 1) := (cell_of_block h4 2).trans rfl
    have k3 : wr.cell? ⟨g2, 3, none⟩ = some (.slice (some ⟨g1, 0, none⟩) 1 1) := (cell_of_block h3 3).trans rfl
    have p0 : wr.cell? ⟨g1, 0, none⟩ = some (.slice (some ⟨x2.heap.size, 0, none⟩) N N) := (cell_of_block h2 0).trans rfl
    by_cases hlt : k < N
    · have i0 : wr.cell? ⟨x2.heap.size, k * 7, none⟩ = some (cellAt k (k * 7)) := (cell_of_block h1 (k * 7)).trans (h1c _ (by omega))
      have if0 : wr.frozen? ⟨x2.heap.size, k * 7, none⟩ = false := free_of_block h1 _
      have e0 : cellAt k (k * 7) = .int .u8 0 := by unfold cellAt; rw [if_pos (by omega), if_neg (by omega)]
      rw [e0] at i0
      have hkl : (k : Int) < (N : Int) := by omega
      clear h1 h1s h1c h2 h3 h4 h5 h5s hq e0 hl
      go_wp2_with (fail)
      go_roundw
      case rel =>
        refine ⟨k + 1, by go_num, by omega, ?_, HQ.out.set (by have := hsz.out; show w.heap.size ≤ x2.heap.size; omega) _⟩
        obtain ⟨a1, a2, a3, a4, rs, a5, a6⟩ := HI.out
        have hl := hsz.out
        exact ⟨a1.step hlt, heap_set_other a2 (by show g1 ≠ x2.heap.size; omega), heap_set_other a3 (by show g2 ≠ x2.heap.size; omega), heap_set_other a4 (by show x1.heap.size ≠ x2.heap.size; omega), rs, heap_set_other a5 (by show w.heap.size ≠ x2.heap.size; omega), a6⟩
      case measure => simp [intOf]; omega
    · have ek : k = N := by omega
      obtain ⟨r0, r1, r2, hr0, hr1, hr2⟩ : ∃ r0 r1 r2, wr.cell? ⟨w.heap.size, 0, none⟩ = some r0 ∧ wr.cell? ⟨w.heap.size, 1, none⟩ = some r1 ∧ wr.cell? ⟨w.heap.size, 2, none⟩ = some r2 := by
        refine ⟨rs[0]'(by omega), rs[1]'(by omega), rs[2]'(by omega), ?_, ?_, ?_⟩
        · rw [cell_of_block h5]; exact Array.getElem?_eq_getElem _
        · rw [cell_of_block h5]; exact Array.getElem?_eq_getElem _
        · rw [cell_of_block h5]; exact Array.getElem?_eq_getElem _
      have rf0 : wr.frozen? ⟨w.heap.size, 0, none⟩ = false := free_of_block h5 _
      have rf1 : wr.frozen? ⟨w.heap.size, 1, none⟩ = false := free_of_block h5 _
      have rf2 : wr.frozen? ⟨w.heap.size, 2, none⟩ = false := free_of_block h5 _
      clear h1 h1s h1c h2 h3 h4 h5 h5s hq hl
      go_wp2_with (fail)
      refine bodyPost_ret (v := .agg #[.slice none 0 0, .slice none 0 0, .slice (some ⟨g2, 0, none⟩) 1 1]) (by simp [results, Try.results20, go_sem, hr0, hr1, hr2]) rfl ?_
      obtain ⟨a1, a2, a3, a4, -⟩ := HI.out
      have hl := hsz.out
      rw [ek] at a1
      refine ⟨x2.heap.size, g1, g2, by omega, by omega, by omega, rfl, ?_, ?_, ?_, ?_⟩
      · exact heap_set_other (heap_set_other (heap_set_other a2 (by show g1 ≠ w.heap.size; omega)) (by show g1 ≠ w.heap.size; omega)) (by show g1 ≠ w.heap.size; omega)
      · exact heap_set_other (heap_set_other (heap_set_other a3 (by show g2 ≠ w.heap.size; omega)) (by show g2 ≠ w.heap.size; omega)) (by show g2 ≠ w.heap.size; omega)
      · exact ((a1.other (by show x2.heap.size ≠ w.heap.size; omega)).other (by show x2.heap.size ≠ w.heap.size; omega)).other (by show x2.heap.size ≠ w.heap.size; omega)
      · exact ((HQ.out.set (by show w.heap.size ≤ w.heap.size; omega) _).set (by show w.heap.size ≤ w.heap.size; omega) _).set (by show w.heap.size ≤ w.heap.size; omega) _

/-- The long code is right, if it isn't too long. -/
theorem long_codeN (N : Nat) (G g1 g2 : Nat) : codeN (lsC [] [] none 0 none 0 (lsF 1 [] none 0 (lsP (List.replicate N x20) (some ⟨G, 0, none⟩) N) g1) g2) = 1 + (N : Int) := by
  simp [codeN, fnN, partN, lsC, lsF, lsP]
theorem long_right (N : Nat) (G g1 g2 : Nat) : rightP (lsC [] [] none 0 none 0 (lsF 1 [] none 0 (lsP (List.replicate N x20) (some ⟨G, 0, none⟩) N) g1) g2) = true := by
  have h : ∀ c f, f.regs = 1 → insP c 0 f x20 = true := fun c f hf => by
    unfold insP wtP rdsP immP x20
    rw [hf]
    rfl
  have h2 : ∀ c f, f.regs = 1 → (List.replicate N x20).all (insP c 0 f) = true := fun c f hf => by
    rw [List.all_eq_true]
    intro x hx
    rw [List.eq_of_mem_replicate hx]
    exact h c f hf
  generalize hc : lsC [] [] none 0 none 0 (lsF 1 [] none 0 (lsP (List.replicate N x20) (some ⟨G, 0, none⟩) N) g1) g2 = c
  have e1 : c.fns = [lsF 1 [] none 0 (lsP (List.replicate N x20) (some ⟨G, 0, none⟩) N) g1] := by rw [← hc]; rfl
  have e2 : hdP c = true := by rw [← hc]; rfl
  unfold rightP
  rw [e2, e1]
  show (true && (fnP c 0 _ && true)) = true
  unfold fnP ptP
  have e3 : headP (lsF 1 [] none 0 (lsP (List.replicate N x20) (some ⟨G, 0, none⟩) N) g1) = true := rfl
  rw [e3]
  show (true && (true && ((endP _ (lsP _ _ _) && (List.replicate N x20).all (insP c 0 _)) && true) && true)) = true
  rw [h2 c _ rfl]
  rfl

theorem long_valid (N : Nat) (G g1 g2 : Nat) (h : N < 9000000) : validP (lsC [] [] none 0 none 0 (lsF 1 [] none 0 (lsP (List.replicate N x20) (some ⟨G, 0, none⟩) N) g1) g2) = if 60000 < N + 1 then 11 else 0 := by
  unfold validP
  rw [long_codeN, long_right]
  have e : IntKind.i64.wrap (1 + (N : Int)) = 1 + (N : Int) := by simp [IntKind.wrap_i64]; omega
  rw [e]
  by_cases h1 : 60000 < N + 1
  · rw [if_pos h1, if_pos (by omega)]
  · rw [if_neg h1, if_neg (by omega)]
    rfl

end Go.Proofs.Ytiiggldapncknaa
