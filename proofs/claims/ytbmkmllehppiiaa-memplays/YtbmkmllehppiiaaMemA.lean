/-
  What a memory of blocks is in the heap, and what stays of it while other blocks are written; facts on worlds and lists; no conditions but those that each fact bears.
-/
import Derived.Test.YtbmkmllehppiiaaMapA
import Derived.WalkLawsBesides
namespace Go.Proofs.Ytbmkmllehppiiaa
open Go.RowKit
set_option linter.unusedVariables false

/-- All but the blocks S, and new ones, is as it was. -/
structure Fr (S : Nat → Prop) (w w' : World) : Prop where
  os : w'.os = w.os
  tape : w'.tape = w.tape
  output : w'.output = w.output
  size : w.heap.size ≤ w'.heap.size
  block : ∀ k, k < w.heap.size → ¬ S k → w'.heap[k]? = w.heap[k]?

theorem Fr.refl (S : Nat → Prop) (w : World) : Fr S w w := ⟨rfl, rfl, rfl, Nat.le_refl _, fun _ _ _ => rfl⟩
theorem Fr.trans {S : Nat → Prop} {a b c : World} (h : Fr S a b) (k : Fr S b c) : Fr S a c :=
  ⟨k.os.trans h.os, k.tape.trans h.tape, k.output.trans h.output, Nat.le_trans h.size k.size, fun j hj hn => (k.block j (Nat.lt_of_lt_of_le hj h.size) hn).trans (h.block j hj hn)⟩
/-- Behind a first step the second one may have written what the first one made, too. -/
theorem Fr.trans' {S T : Nat → Prop} {a b c : World} (h : Fr S a b) (k : Fr T b c) (hT : ∀ j, T j → S j ∨ a.heap.size ≤ j) : Fr S a c :=
  ⟨k.os.trans h.os, k.tape.trans h.tape, k.output.trans h.output, Nat.le_trans h.size k.size, fun j hj hn => (k.block j (Nat.lt_of_lt_of_le hj h.size) (fun ht => (hT j ht).elim hn (fun g => by omega))).trans (h.block j hj hn)⟩
theorem Fr.mono {S T : Nat → Prop} {a b : World} (h : Fr S a b) (hs : ∀ j, S j → T j) : Fr T a b :=
  ⟨h.os, h.tape, h.output, h.size, fun j hj hn => h.block j hj (fun s => hn (hs j s))⟩
theorem Fr.alloc {S : Nat → Prop} {a w : World} (h : Fr S a w) (o : Obj) : Fr S a (w.alloc o) :=
  ⟨h.os, h.tape, h.output, by have := h.size; simp; omega, fun j hj hn => (Below.heap_alloc w o j (Nat.lt_of_lt_of_le hj h.size)).trans (h.block j hj hn)⟩
theorem Fr.setCell {S : Nat → Prop} {a w : World} (h : Fr S a w) {p : Addr} (hp : S p.block ∨ a.heap.size ≤ p.block) (u : Value) : Fr S a (w.setCell p u) :=
  ⟨h.os, h.tape, h.output, by have := h.size; simpa using this, fun j hj hn => (Below.heap_setCell w p u j (fun e => by subst e; exact hp.elim hn (fun g => by omega))).trans (h.block j hj hn)⟩
theorem Fr.grown {S : Nat → Prop} {a w w' : World} {row : Option Nat} (h : Fr S a w) (hg : w.grownBy w' row) (hr : ∀ k, row = some k → S k ∨ a.heap.size ≤ k) : Fr S a w' :=
  ⟨hg.os.trans h.os, hg.tape.trans h.tape, hg.output.trans h.output, Nat.le_trans h.size hg.size,
    fun j hj hn => (hg.block j (Nat.lt_of_lt_of_le hj h.size) (fun e => (hr j e.symm).elim hn (fun g => by omega))).trans (h.block j hj hn)⟩
theorem Fr.below {S : Nat → Prop} {B : Nat} {a w : World} (h : Fr S a w) (hB : B ≤ a.heap.size) (hs : ∀ k, S k → B ≤ k) : Below B a w :=
  ⟨h.os, h.tape, h.output, h.size, fun k hk => h.block k (Nat.lt_of_lt_of_le hk hB) (fun s => by have := hs k s; omega)⟩
theorem Fr.of_below {w w' : World} (h : Below w.heap.size w w') : Fr (fun _ => False) w w' := ⟨h.os, h.tape, h.output, h.size, fun k hk _ => h.block k hk⟩

theorem cell_of_block {w : World} {b : Nat} {cs : Array Value} {t : TypeId} (h : w.heap[b]? = some (.cells cs t (0, 0))) (j : Nat) : w.cell? ⟨b, j, none⟩ = cs[j]? := by simp [World.cell?, h]
theorem free_of_block {w : World} {b : Nat} {cs : Array Value} {t : TypeId} (h : w.heap[b]? = some (.cells cs t (0, 0))) (j : Nat) : w.frozen? ⟨b, j, none⟩ = false := by simp [World.frozen?, h]
theorem lt_of_some {w : World} {b : Nat} {o : Obj} (h : w.heap[b]? = some o) : b < w.heap.size := (Array.getElem?_eq_some_iff.1 h).1
theorem block_setCell {w : World} {b j : Nat} {cs : Array Value} {t : TypeId} (h : w.heap[b]? = some (.cells cs t (0, 0))) (u : Value) : (w.setCell ⟨b, j, none⟩ u).heap[b]? = some (.cells (cs.setIfInBounds j u) t (0, 0)) := by
  have hlt := lt_of_some h
  have h' : w.heap[b] = .cells cs t (0, 0) := by simpa [Array.getElem?_eq_getElem hlt] using h
  show (w.heap.modify b _)[b]? = _
  rw [Array.getElem?_eq_getElem (by simpa using hlt), Array.getElem_modify_self, h']
  rfl

theorem ownsRow_block {w w' : World} {base : Nat} {e : TypeId} {size : Nat} {v : Value} {n : Nat} {xs : List Value} (h : w.ownsRow base e size v n xs) (hk : ∀ k, v.ownBlock = some k → w'.heap[k]? = w.heap[k]?) : w'.ownsRow base e size v n xs := by
  obtain ⟨h1, h2⟩ := h
  refine ⟨h1, ?_⟩
  rcases h2 with h2 | ⟨g, cap, cur, hv, hg, hh, r⟩
  · exact Or.inl h2
  · refine Or.inr ⟨g, cap, cur, hv, hg, ?_, r⟩
    rw [hk g (by rw [hv]; rfl)]
    exact hh
theorem ownsRow_mono {w : World} {b b' : Nat} {e : TypeId} {size : Nat} {v : Value} {n : Nat} {xs : List Value} (h : w.ownsRow b e size v n xs) (hb : b' ≤ b) : w.ownsRow b' e size v n xs := by
  obtain ⟨h1, h2⟩ := h
  refine ⟨h1, ?_⟩
  rcases h2 with h2 | ⟨g, cap, cur, hv, hg, r⟩
  · exact Or.inl h2
  · exact Or.inr ⟨g, cap, cur, hv, Nat.le_trans hb hg, r⟩

/-! ### counts -/

/-- How many of the cells from k on, d of them, of block i aren't 0. -/
def cnt (f : Int → Int → Int) (i : Nat) : Nat → Nat → Nat
  | k, 0 => 0
  | k, d + 1 => (if f (i : Int) (k : Int) = 0 then 0 else 1) + cnt f i (k + 1) d
theorem cnt_le (f : Int → Int → Int) (i : Nat) : ∀ d k, cnt f i k d ≤ d
  | 0, k => Nat.le_refl _
  | d + 1, k => by
    have := cnt_le f i d (k + 1)
    simp only [cnt]
    split <;> omega
theorem cnt_congr {f g : Int → Int → Int} (i : Nat) : ∀ (d k : Nat), (∀ j : Nat, k ≤ j → j < k + d → f (i : Int) (j : Int) = g (i : Int) (j : Int)) → cnt f i k d = cnt g i k d
  | 0, k, _ => rfl
  | d + 1, k, h => by
    simp only [cnt]
    rw [h k (Nat.le_refl _) (by omega), cnt_congr i d (k + 1) (fun j h1 h2 => h j (by omega) (by omega))]
theorem cnt_zero {f : Int → Int → Int} (i : Nat) : ∀ (d k : Nat), cnt f i k d = 0 → ∀ j : Nat, k ≤ j → j < k + d → f (i : Int) (j : Int) = 0
  | 0, k, _, j, h1, h2 => by omega
  | d + 1, k, h, j, h1, h2 => by
    simp only [cnt] at h
    by_cases e : j = k
    · subst e
      split at h
      · assumption
      · omega
    · exact cnt_zero i d (k + 1) (by omega) j (by omega) (by omega)
theorem cnt_of_zero {f : Int → Int → Int} (i : Nat) : ∀ (d k : Nat), (∀ j : Nat, k ≤ j → j < k + d → f (i : Int) (j : Int) = 0) → cnt f i k d = 0
  | 0, k, _ => rfl
  | d + 1, k, h => by
    simp only [cnt]
    rw [if_pos (h k (Nat.le_refl _) (by omega)), cnt_of_zero i d (k + 1) (fun j h1 h2 => h j (by omega) (by omega))]
theorem cnt_upd_other (f : Int → Int → Int) {a b : Int} (v : Int) {i : Nat} (h : (i : Int) ≠ a) (k d : Nat) : cnt (upd f a b v) i k d = cnt f i k d :=
  cnt_congr i d k (fun j _ _ => by simp [upd, h])
/-- The count behind a write. -/
theorem cnt_upd (f : Int → Int → Int) (v : Int) (i j : Nat) : ∀ d k, k ≤ j → j < k + d →
    cnt (upd f i j v) i k d + (if f (i : Int) (j : Int) = 0 then 0 else 1) = cnt f i k d + (if v = 0 then 0 else 1)
  | 0, k, h1, h2 => by omega
  | d + 1, k, h1, h2 => by
    simp only [cnt]
    by_cases e : j = k
    · subst e
      rw [cnt_congr (f := upd f i j v) (g := f) i d (j + 1) (fun x hx1 hx2 => by
        have : ¬ ((x : Int) = (j : Int)) := by omega
        simp [upd, this])]
      simp [upd]
      omega
    · have := cnt_upd f v i j d (k + 1) (by omega) (by omega)
      have e2 : upd f (i : Int) (j : Int) v (i : Int) (k : Int) = f (i : Int) (k : Int) := by
        have : ¬ ((k : Int) = (j : Int)) := by omega
        simp [upd, this]
      rw [e2]
      omega

/-! ### the blocks -/

/-- A list's blocks as cells: how many cells, how many of them aren't 0. -/
def blkCells (L : List (Nat × Nat)) : List Value := L.flatMap fun d => [.int .i64 (d.1 : Int), .int .i64 (d.2 : Int)]
theorem blkCells_append (a b : List (Nat × Nat)) : blkCells (a ++ b) = blkCells a ++ blkCells b := by simp [blkCells]
theorem blkCells_length (a : List (Nat × Nat)) : (blkCells a).length = a.length * 2 := by
  induction a with
  | nil => rfl
  | cons x r ih => simp [blkCells] at ih ⊢; omega
theorem blkCells_at : ∀ (L : List (Nat × Nat)) (i : Nat) (c h : Nat), L[i]? = some (c, h) → (blkCells L)[i * 2]? = some (.int .i64 (c : Int)) ∧ (blkCells L)[i * 2 + 1]? = some (.int .i64 (h : Int))
  | [], i, c, h, e => by simp at e
  | x :: r, 0, c, h, e => by simp at e; subst e; simp [blkCells]
  | x :: r, i + 1, c, h, e => by
    have := blkCells_at r i c h (by simpa using e)
    have e1 : blkCells (x :: r) = .int .i64 (x.1 : Int) :: .int .i64 (x.2 : Int) :: blkCells r := by simp [blkCells]
    rw [e1, show (i + 1) * 2 = i * 2 + 1 + 1 by omega]
    simpa using this
theorem blkCells_set : ∀ (L : List (Nat × Nat)) (i : Nat) (c h h' : Nat), L[i]? = some (c, h) → blkCells (L.set i (c, h')) = (blkCells L).set (i * 2 + 1) (.int .i64 (h' : Int))
  | [], i, c, h, h', e => by simp at e
  | x :: r, 0, c, h, h', e => by simp at e; subst e; simp [blkCells]
  | x :: r, i + 1, c, h, h', e => by
    have := blkCells_set r i c h h' (by simpa using e)
    have e1 : ∀ y s, blkCells (y :: s) = .int .i64 (y.1 : Int) :: .int .i64 (y.2 : Int) :: blkCells s := fun y s => by simp [blkCells]
    rw [List.set_cons_succ, e1, e1, show (i + 1) * 2 + 1 = i * 2 + 1 + 1 + 1 by omega, List.set_cons_succ, List.set_cons_succ, this]
theorem blkCells_take (L : List (Nat × Nat)) : ∀ k, (blkCells L).take (k * 2) = blkCells (L.take k) := by
  induction L with
  | nil => intro k; simp [blkCells]
  | cons x r ih =>
    intro k
    cases k with
    | zero => simp [blkCells]
    | succ k =>
      have e1 : ∀ y s, blkCells (y :: s) = .int .i64 (y.1 : Int) :: .int .i64 (y.2 : Int) :: blkCells s := fun y s => by simp [blkCells]
      rw [List.take_succ_cons, e1, e1, show (k + 1) * 2 = k * 2 + 1 + 1 by omega, List.take_succ_cons, List.take_succ_cons, ih]

/-- There is that cell. -/
def inB (bs : List Nat) (a b : Int) : Bool := decide (0 ≤ a) && decide (a < bs.length) && decide (0 ≤ b) && decide (b < (bs.getD a.toNat 0 : Nat))

/-- A memory at block p: its blocks' lengths, what its cells hold, what is told as the sum; bl: the blocks of the heap that are its own. -/
structure MI (w : World) (B : Nat) (bl : Nat → Prop) (p n : Nat) (bs : List Nat) (f : Int → Int → Int) (t : Int) : Prop where
  rng : ∀ k, bl k → B ≤ k ∧ k < w.heap.size
  inp : bl p
  out : ∀ a b, inB bs a b = false → f a b = 0
  ex : ∃ M la lc L, bl M ∧ M ≠ p ∧ (∀ k, (Value.slice la bs.length lc).ownBlock = some k → bl k ∧ k ≠ p ∧ k ≠ M) ∧ L.map Prod.fst = bs ∧ (∀ i c h, L[i]? = some (c, h) → h = cnt f i 0 c) ∧
    w.heap[p]? = some (.cells #[.map (some M), .slice la bs.length lc, .int .i64 t] 58 (0, 0)) ∧ Mp w M n f ∧ w.ownsRow B 60 2 (.slice la bs.length lc) bs.length (blkCells L)

theorem MI.kept {w w' : World} {B : Nat} {bl : Nat → Prop} {p n : Nat} {bs : List Nat} {f : Int → Int → Int} {t : Int} (h : MI w B bl p n bs f t) (hb : ∀ k, bl k → w'.heap[k]? = w.heap[k]?) (hs : w.heap.size ≤ w'.heap.size) : MI w' B bl p n bs f t := by
  obtain ⟨M, la, lc, L, h1, h2, h3, h4, h5, h6, h7, h8⟩ := h.ex
  refine ⟨fun k hk => ⟨(h.rng k hk).1, Nat.lt_of_lt_of_le (h.rng k hk).2 hs⟩, h.inp, h.out, M, la, lc, L, h1, h2, h3, h4, h5, ?_, h7.kept (hb M h1), ?_⟩
  · rw [hb p h.inp]; exact h6
  · exact ownsRow_block h8 fun k hk => hb k (h3 k hk).1
theorem MI.fr {w w' : World} {B : Nat} {S bl : Nat → Prop} {p n : Nat} {bs : List Nat} {f : Int → Int → Int} {t : Int} (h : MI w B bl p n bs f t) (hf : Fr S w w') (hd : ∀ k, bl k → ¬ S k) : MI w' B bl p n bs f t :=
  h.kept (fun k hk => hf.block k (h.rng k hk).2 (hd k hk)) hf.size
theorem MI.below {w w' : World} {B : Nat} {bl : Nat → Prop} {p n : Nat} {bs : List Nat} {f : Int → Int → Int} {t : Int} (h : MI w B bl p n bs f t) (hf : Below w.heap.size w w') : MI w' B bl p n bs f t :=
  h.fr (Fr.of_below hf) (fun _ _ h => h)
theorem MI.drew {w : World} {B : Nat} {bl : Nat → Prop} {p n : Nat} {bs : List Nat} {f : Int → Int → Int} {t : Int} (h : MI w B bl p n bs f t) : MI w.drew B bl p n bs f t := h.kept (fun _ _ => rfl) (Nat.le_refl _)
theorem MI.mono {w : World} {B : Nat} {bl : Nat → Prop} {p n n' : Nat} {bs : List Nat} {f : Int → Int → Int} {t : Int} (h : MI w B bl p n bs f t) (hn : n ≤ n') : MI w B bl p n' bs f t := by
  obtain ⟨M, la, lc, L, h1, h2, h3, h4, h5, h6, h7, h8⟩ := h.ex
  exact ⟨h.rng, h.inp, h.out, M, la, lc, L, h1, h2, h3, h4, h5, h6, h7.mono hn, h8⟩
theorem MI.base {w : World} {B B' : Nat} {bl : Nat → Prop} {p n : Nat} {bs : List Nat} {f : Int → Int → Int} {t : Int} (h : MI w B bl p n bs f t) (hb : B' ≤ B) : MI w B' bl p n bs f t := by
  obtain ⟨M, la, lc, L, h1, h2, h3, h4, h5, h6, h7, h8⟩ := h.ex
  exact ⟨fun k hk => ⟨Nat.le_trans hb (h.rng k hk).1, (h.rng k hk).2⟩, h.inp, h.out, M, la, lc, L, h1, h2, h3, h4, h5, h6, h7, ownsRow_mono h8 hb⟩

theorem hideIt {q : Prop} (h : q) : Hid q := h
theorem cell_new {X : World} {N : Nat} (h : X.heap.size = N) (cs : Array Value) (t : TypeId) (j : Nat) : (X.alloc (.cells cs t)).cell? ⟨N, j, none⟩ = cs[j]? := by
  subst h
  exact cell_of_block (heap_alloc_new X (.cells cs t (0, 0))) j
/-- The two cells of a block's row. -/
theorem row_at {w : World} {B : Nat} {la : Option Addr} {lc N : Nat} {L : List (Nat × Nat)} (h : w.ownsRow B 60 2 (.slice la N lc) N (blkCells L)) {i c k : Nat} (hi : L[i]? = some (c, k)) :
    ∃ g, la = some ⟨g, 0, none⟩ ∧ w.cell? ⟨g, i * 2, none⟩ = some (.int .i64 (c : Int)) ∧ w.cell? ⟨g, i * 2 + 1, none⟩ = some (.int .i64 (k : Int)) ∧ w.frozen? ⟨g, i * 2 + 1, none⟩ = false := by
  have hlt := (List.getElem?_eq_some_iff.1 hi).1
  have hlen : L.length = N := by
    have := h.1
    rw [blkCells_length] at this
    omega
  obtain ⟨h1, h2⟩ := h
  rcases h2 with ⟨_, h2⟩ | ⟨g, cap, cur, hv, hg, hh, hn, hc, hs, ht⟩
  · omega
  · simp at hv
    obtain ⟨rfl, rfl⟩ := hv
    have e := blkCells_at L i c k hi
    rw [← ht] at e
    refine ⟨g, rfl, ?_, ?_, free_of_block hh _⟩
    · rw [cell_of_block hh]
      have := e.1
      rw [List.getElem?_take_of_lt (by omega)] at this
      simpa using this
    · rw [cell_of_block hh]
      have := e.2
      rw [List.getElem?_take_of_lt (by omega)] at this
      simpa using this
theorem inB_iff {bs : List Nat} {a b : Int} : inB bs a b = true ↔ ∃ i j c : Nat, a = (i : Int) ∧ b = (j : Int) ∧ bs[i]? = some c ∧ j < c := by
  simp only [inB, Bool.and_eq_true, decide_eq_true_eq]
  constructor
  · rintro ⟨⟨⟨h1, h2⟩, h3⟩, h4⟩
    have hl : a.toNat < bs.length := by omega
    refine ⟨a.toNat, b.toNat, bs[a.toNat], by omega, by omega, by simp [hl], ?_⟩
    have : bs.getD a.toNat 0 = bs[a.toNat] := by simp [List.getD, hl]
    omega
  · rintro ⟨i, j, c, rfl, rfl, h1, h2⟩
    have hl := (List.getElem?_eq_some_iff.1 h1).1
    have : bs.getD ((i : Int).toNat) 0 = c := by simp [List.getD, h1]
    omega

#print axioms cnt_upd
#print axioms inB_iff
end Go.Proofs.Ytbmkmllehppiiaa
