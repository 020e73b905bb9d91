/-
  What a memory of blocks is in the heap (a map of the cells that aren't 0, a list of them for each block), and what stays of it while other blocks are written; facts on worlds and lists; no conditions but those that each fact bears.
-/
import Derived.Test.YtahhbehpgolinaaMeA
import Derived.Test.YtahhbehpgolinaaPmZ
import Derived.WalkLawsBesides
namespace Go.Proofs.Ytahhbehpgolinaa.Me
open Go.RowKit
set_option linter.unusedVariables false

/-- All but the blocks S, and new ones, is as it was. -/
structure Fr (S : Nat → Prop) (w w' : World) : Prop where
  os : w'.os = w.os
  tape : w'.tape = w.tape
  output : w'.output = w.output
  size : w.heap.size ≤ w'.heap.size
  block : ∀ k, k < w.heap.size → ¬ S k → w'.heap[k]? = w.heap[k]?

theorem Fr.refl (S : Nat → Prop) (w : World) : Fr S w w := ⟨rfl, rfl, rfl, Nat.le_refl _, fun _ _ _ => rfl⟩
theorem Fr.trans {S : Nat → Prop} {a b c : World} (h : Fr S a b) (k : Fr S b c) : Fr S a c :=
  ⟨k.os.trans h.os, k.tape.trans h.tape, k.output.trans h.output, Nat.le_trans h.size k.size, fun j hj hn => (k.block j (Nat.lt_of_lt_of_le hj h.size) hn).trans (h.block j hj hn)⟩
/-- Behind a first step the second one may have written what the first one made, too. -/
theorem Fr.trans' {S T : Nat → Prop} {a b c : World} (h : Fr S a b) (k : Fr T b c) (hT : ∀ j, T j → S j ∨ a.heap.size ≤ j) : Fr S a c :=
  ⟨k.os.trans h.os, k.tape.trans h.tape, k.output.trans h.output, Nat.le_trans h.size k.size, fun j hj hn => (k.block j (Nat.lt_of_lt_of_le hj h.size) (fun ht => (hT j ht).elim hn (fun g => by omega))).trans (h.block j hj hn)⟩
theorem Fr.mono {S T : Nat → Prop} {a b : World} (h : Fr S a b) (hs : ∀ j, S j → T j) : Fr T a b :=
  ⟨h.os, h.tape, h.output, h.size, fun j hj hn => h.block j hj (fun s => hn (hs j s))⟩
theorem Fr.alloc {S : Nat → Prop} {a w : World} (h : Fr S a w) (o : Obj) : Fr S a (w.alloc o) :=
  ⟨h.os, h.tape, h.output, by have := h.size; simp; omega, fun j hj hn => (Below.heap_alloc w o j (Nat.lt_of_lt_of_le hj h.size)).trans (h.block j hj hn)⟩
theorem Fr.setCell {S : Nat → Prop} {a w : World} (h : Fr S a w) {p : Addr} (hp : S p.block ∨ a.heap.size ≤ p.block) (u : Value) : Fr S a (w.setCell p u) :=
  ⟨h.os, h.tape, h.output, by have := h.size; simpa using this, fun j hj hn => (Below.heap_setCell w p u j (fun e => by subst e; exact hp.elim hn (fun g => by omega))).trans (h.block j hj hn)⟩
theorem Fr.grown {S : Nat → Prop} {a w w' : World} {row : Option Nat} (h : Fr S a w) (hg : w.grownBy w' row) (hr : ∀ k, row = some k → S k ∨ a.heap.size ≤ k) : Fr S a w' :=
  ⟨hg.os.trans h.os, hg.tape.trans h.tape, hg.output.trans h.output, Nat.le_trans h.size hg.size,
    fun j hj hn => (hg.block j (Nat.lt_of_lt_of_le hj h.size) (fun e => (hr j e.symm).elim hn (fun g => by omega))).trans (h.block j hj hn)⟩
theorem Fr.below {S : Nat → Prop} {B : Nat} {a w : World} (h : Fr S a w) (hB : B ≤ a.heap.size) (hs : ∀ k, S k → B ≤ k) : Below B a w :=
  ⟨h.os, h.tape, h.output, h.size, fun k hk => h.block k (Nat.lt_of_lt_of_le hk hB) (fun s => by have := hs k s; omega)⟩
theorem Fr.of_below {w w' : World} (h : Below w.heap.size w w') : Fr (fun _ => False) w w' := ⟨h.os, h.tape, h.output, h.size, fun k hk _ => h.block k hk⟩

theorem cell_of_block {w : World} {b : Nat} {cs : Array Value} {t : TypeId} (h : w.heap[b]? = some (.cells cs t (0, 0))) (j : Nat) : w.cell? ⟨b, j, none⟩ = cs[j]? := by simp [World.cell?, h]
theorem free_of_block {w : World} {b : Nat} {cs : Array Value} {t : TypeId} (h : w.heap[b]? = some (.cells cs t (0, 0))) (j : Nat) : w.frozen? ⟨b, j, none⟩ = false := by simp [World.frozen?, h]
theorem lt_of_some {w : World} {b : Nat} {o : Obj} (h : w.heap[b]? = some o) : b < w.heap.size := (Array.getElem?_eq_some_iff.1 h).1
theorem block_setCell {w : World} {b j : Nat} {cs : Array Value} {t : TypeId} (h : w.heap[b]? = some (.cells cs t (0, 0))) (u : Value) : (w.setCell ⟨b, j, none⟩ u).heap[b]? = some (.cells (cs.setIfInBounds j u) t (0, 0)) := by
  have hlt := lt_of_some h
  have h' : w.heap[b] = .cells cs t (0, 0) := by simpa [Array.getElem?_eq_getElem hlt] using h
  show (w.heap.modify b _)[b]? = _
  rw [Array.getElem?_eq_getElem (by simpa using hlt), Array.getElem_modify_self, h']
  rfl

theorem ownsRow_block {w w' : World} {base : Nat} {e : TypeId} {size : Nat} {v : Value} {n : Nat} {xs : List Value} (h : w.ownsRow base e size v n xs) (hk : ∀ k, v.ownBlock = some k → w'.heap[k]? = w.heap[k]?) : w'.ownsRow base e size v n xs := by
  obtain ⟨h1, h2⟩ := h
  refine ⟨h1, ?_⟩
  rcases h2 with h2 | ⟨g, cap, cur, hv, hg, hh, r⟩
  · exact Or.inl h2
  · refine Or.inr ⟨g, cap, cur, hv, hg, ?_, r⟩
    rw [hk g (by rw [hv]; rfl)]
    exact hh
theorem ownsRow_mono {w : World} {b b' : Nat} {e : TypeId} {size : Nat} {v : Value} {n : Nat} {xs : List Value} (h : w.ownsRow b e size v n xs) (hb : b' ≤ b) : w.ownsRow b' e size v n xs := by
  obtain ⟨h1, h2⟩ := h
  refine ⟨h1, ?_⟩
  rcases h2 with h2 | ⟨g, cap, cur, hv, hg, r⟩
  · exact Or.inl h2
  · exact Or.inr ⟨g, cap, cur, hv, Nat.le_trans hb hg, r⟩


theorem ownsRow_set {w : World} {base : Nat} {e : TypeId} {size g n cap : Nat} {xs : List Value} (h : w.ownsRow base e size (.slice (some ⟨g, 0, none⟩) n cap) n xs) {q : Nat} (hq : q < n * size) (u : Value) :
    (w.setCell ⟨g, q, none⟩ u).ownsRow base e size (.slice (some ⟨g, 0, none⟩) n cap) n (xs.set q u) := by
  obtain ⟨h1, h2⟩ := h
  refine ⟨by simpa using h1, ?_⟩
  rcases h2 with ⟨h2, _⟩ | ⟨g', cap', cur, hv, hg, hh, hn, hc, hs, ht⟩
  · cases h2
  · simp at hv
    obtain ⟨rfl, rfl⟩ := hv
    refine Or.inr ⟨_, _, cur.setIfInBounds q u, rfl, hg, block_setCell hh u, hn, hc, by simpa using hs, ?_⟩
    rw [← ht]
    simp [List.take_set]
theorem ownsRow_less {w : World} {base : Nat} {e : TypeId} {size g n cap : Nat} {xs : List Value} (h : w.ownsRow base e size (.slice (some ⟨g, 0, none⟩) n cap) n xs) {k : Nat} (hk : k ≤ n) :
    w.ownsRow base e size (.slice (some ⟨g, 0, none⟩) k cap) k (xs.take (k * size)) := by
  obtain ⟨h1, h2⟩ := h
  have hle : k * size ≤ n * size := Nat.mul_le_mul_right _ hk
  refine ⟨by rw [List.length_take, h1, Nat.min_eq_left hle], ?_⟩
  rcases h2 with ⟨h2, _⟩ | ⟨g', cap', cur, hv, hg, hh, hn, hc, hs, ht⟩
  · cases h2
  · simp at hv
    obtain ⟨rfl, rfl⟩ := hv
    refine Or.inr ⟨_, _, cur, rfl, hg, hh, by omega, hc, hs, ?_⟩
    rw [← ht, List.take_take, Nat.min_eq_left hle]
theorem set_same {α : Type} {l : List α} {i : Nat} {x : α} (h : l[i]? = some x) : l.set i x = l := by
  refine List.ext_getElem? fun n => ?_
  rw [List.getElem?_set]
  by_cases e : i = n
  · subst e
    have := (List.getElem?_eq_some_iff.1 h).1
    rw [if_pos rfl, if_pos this, h]
  · rw [if_neg e]
/-- A place of a row of one's own. -/
theorem ownsRow_at {w : World} {base : Nat} {e : TypeId} {size n : Nat} {v : Value} {xs : List Value} (h : w.ownsRow base e size v n xs) {q : Nat} {u : Value} (hu : xs[q]? = some u) :
    ∃ g cap, v = .slice (some ⟨g, 0, none⟩) n cap ∧ w.cell? ⟨g, q, none⟩ = some u ∧ w.frozen? ⟨g, q, none⟩ = false ∧ g < w.heap.size ∧ base ≤ g ∧ n ≤ cap ∧ cap ≤ maxLen := by
  have hq := (List.getElem?_eq_some_iff.1 hu).1
  obtain ⟨h1, h2⟩ := h
  rcases h2 with ⟨_, h2⟩ | ⟨g, cap, cur, hv, hg, hh, hn, hc, hs, ht⟩
  · subst h2
    simp at h1
    subst h1
    simp at hq
  · refine ⟨g, cap, hv, ?_, free_of_block hh _, lt_of_some hh, hg, hn, hc⟩
    rw [cell_of_block hh]
    rw [← ht, List.getElem?_take_of_lt (by omega)] at hu
    simpa using hu
theorem ownsRow_form {w : World} {base : Nat} {e : TypeId} {size n : Nat} {v : Value} {xs : List Value} (h : w.ownsRow base e size v n xs) : ∃ a c, v = .slice a n c ∧ n ≤ c ∧ c ≤ maxLen := by
  rcases h.2 with ⟨e0, e1⟩ | ⟨g, cap, cur, hv, hg, hh, hn, hc, hs, ht⟩
  · exact ⟨none, 0, by rw [e0, e1], by omega, by decide⟩
  · exact ⟨_, _, hv, hn, hc⟩
theorem own_lt {w : World} {base : Nat} {T : TypeId} {v : Value} {n z : Nat} {xs : List Value} (h : w.ownsRow base T z v n xs) {k : Nat} (hk : v.ownBlock = some k) : k < w.heap.size := by
  rcases h.2 with ⟨e0, -⟩ | ⟨g, cap, cur, e0, -, hg, -⟩
  · rw [e0] at hk; cases hk
  · rw [e0] at hk; injection hk with hk; subst hk; exact (Array.getElem?_eq_some_iff.1 hg).1
theorem sub_own {a : Option Addr} {n m c : Nat} : (Value.slice a n c).ownBlock = (Value.slice a m c).ownBlock := by cases a <;> rfl

/-- Numbers, as cells. -/
def rowN (H : List Int) : List Value := H.map fun x => .int .i64 x
theorem rowN_len (H : List Int) : (rowN H).length = H.length := List.length_map ..
theorem rowN_at {H : List Int} {k : Nat} {x : Int} (h : H[k]? = some x) : (rowN H)[k]? = some (.int .i64 x) := by simp [rowN, h]

/-- A block of the memory: its cells, which of them aren't 0, and the slice that says so. -/
structure Bk where
  c : Nat
  H : List Int
  v : Value
def bkCells (L : List Bk) : List Value := L.flatMap fun d => [.int .i64 (d.c : Int), d.v]
theorem bk_cons (d : Bk) (r : List Bk) : bkCells (d :: r) = .int .i64 (d.c : Int) :: d.v :: bkCells r := by simp [bkCells]
theorem bkCells_append (a b : List Bk) : bkCells (a ++ b) = bkCells a ++ bkCells b := by simp [bkCells]
theorem bkCells_length (L : List Bk) : (bkCells L).length = L.length * 2 := by
  induction L with
  | nil => rfl
  | cons d r ih => rw [bk_cons]; simp [ih]; omega
theorem bkCells_at : ∀ (L : List Bk) (i : Nat) (d : Bk), L[i]? = some d → (bkCells L)[i * 2]? = some (.int .i64 (d.c : Int)) ∧ (bkCells L)[i * 2 + 1]? = some d.v
  | [], i, d, e => by simp at e
  | x :: r, 0, d, e => by simp at e; subst e; simp [bkCells]
  | x :: r, i + 1, d, e => by
    have := bkCells_at r i d (by simpa using e)
    rw [bk_cons, show (i + 1) * 2 = i * 2 + 1 + 1 by omega]
    simpa using this
theorem bkCells_set : ∀ (L : List Bk) (i : Nat) (d : Bk) (H' : List Int) (v' : Value), L[i]? = some d → bkCells (L.set i ⟨d.c, H', v'⟩) = (bkCells L).set (i * 2 + 1) v'
  | [], i, d, H', v', e => by simp at e
  | x :: r, 0, d, H', v', e => by simp at e; subst e; simp [bkCells]
  | x :: r, i + 1, d, H', v', e => by
    have := bkCells_set r i d H' v' (by simpa using e)
    rw [List.set_cons_succ, bk_cons, bk_cons, show (i + 1) * 2 + 1 = i * 2 + 1 + 1 + 1 by omega, List.set_cons_succ, List.set_cons_succ, this]
theorem bkCells_take (L : List Bk) : ∀ k, (bkCells L).take (k * 2) = bkCells (L.take k) := by
  induction L with
  | nil => intro k; simp [bkCells]
  | cons x r ih =>
    intro k
    cases k with
    | zero => simp [bkCells]
    | succ k => rw [List.take_succ_cons, bk_cons, bk_cons, show (k + 1) * 2 = k * 2 + 1 + 1 by omega, List.take_succ_cons, List.take_succ_cons, ih]

def szs (L : List Bk) : List Nat := L.map Bk.c

/-- What the map says, and what each block's list says; A: the blocks whose lists are right still. -/
structure MF (A : Nat → Prop) (n : Nat) (L : List Bk) (f : Int → Int → Int) (F : FF) : Prop where
  val : ∀ a b, (F a b).map Prod.fst = if f a b = 0 then none else some (f a b)
  out : ∀ a b, inB (szs L) a b = false → f a b = 0
  pos : ∀ (i : Nat) (d : Bk) (b v k : Int), L[i]? = some d → F i b = some (v, k) → 0 ≤ k ∧ d.H[k.toNat]? = some b
  lst : ∀ (i : Nat) (d : Bk) (k : Nat) (o : Int), A i → L[i]? = some d → d.H[k]? = some o → ∃ v, F i o = some (v, (k : Int))
  len : ∀ (i : Nat) (d : Bk), L[i]? = some d → d.H.length ≤ n
theorem MF.none {A : Nat → Prop} {n : Nat} {L : List Bk} {f : Int → Int → Int} {F : FF} (h : MF A n L f F) {a b : Int} : F a b = none ↔ f a b = 0 := by
  have := h.val a b
  constructor
  · intro e
    rw [e] at this
    by_cases hz : f a b = 0
    · exact hz
    · rw [if_neg hz] at this; cases this
  · intro e
    rw [if_pos e] at this
    simpa using this
theorem MF.some {A : Nat → Prop} {n : Nat} {L : List Bk} {f : Int → Int → Int} {F : FF} (h : MF A n L f F) {a b : Int} (hz : f a b ≠ 0) : ∃ k, F a b = some (f a b, k) := by
  have := h.val a b
  rw [if_neg hz] at this
  simp only [Option.map_eq_some_iff] at this
  obtain ⟨⟨v, k⟩, e, rfl⟩ := this
  exact ⟨k, e⟩
theorem MF.c1 {A : Nat → Prop} {n : Nat} {L : List Bk} {f : Int → Int → Int} {F : FF} (h : MF A n L f F) (a b : Int) : c1 (F a b) = f a b := by
  by_cases hz : f a b = 0
  · rw [h.none.2 hz, hz]; rfl
  · obtain ⟨k, e⟩ := h.some hz
    rw [e]; rfl

/-- A memory at block p; bl: the blocks of the heap that are its own. -/
structure MX (w : World) (B : Nat) (bl : Nat → Prop) (p n : Nat) (L : List Bk) (F : FF) (t : Int) (M : Nat) (la : Option Addr) (lc : Nat) : Prop where
  rng : ∀ k, bl k → B ≤ k ∧ k < w.heap.size
  inp : bl p
  inM : bl M
  Mnp : M ≠ p
  own : ∀ k, (Value.slice la L.length lc).ownBlock = some k → bl k ∧ k ≠ p ∧ k ≠ M
  cells : w.heap[p]? = some (.cells #[.map (some M), .slice la L.length lc, .int .i64 t] 58 (0, 0))
  map : Mc w M n F
  row : w.ownsRow B 61 2 (.slice la L.length lc) L.length (bkCells L)
  hld : ∀ (i : Nat) (d : Bk), L[i]? = some d → w.ownsRow B 3 1 d.v d.H.length (rowN d.H)
  hin : ∀ (i : Nat) (d : Bk) (k : Nat), L[i]? = some d → d.v.ownBlock = some k → bl k ∧ k ≠ p ∧ k ≠ M ∧ (Value.slice la L.length lc).ownBlock ≠ some k
  dif : ∀ (i j : Nat) (d e : Bk) (k : Nat), L[i]? = some d → L[j]? = some e → d.v.ownBlock = some k → e.v.ownBlock = some k → i = j

theorem MX.kept {w w' : World} {B : Nat} {bl : Nat → Prop} {p n : Nat} {L : List Bk} {F : FF} {t : Int} {M : Nat} {la : Option Addr} {lc : Nat} (h : MX w B bl p n L F t M la lc) (hb : ∀ k, bl k → w'.heap[k]? = w.heap[k]?) (hs : w.heap.size ≤ w'.heap.size) : MX w' B bl p n L F t M la lc :=
  ⟨fun k hk => ⟨(h.rng k hk).1, Nat.lt_of_lt_of_le (h.rng k hk).2 hs⟩, h.inp, h.inM, h.Mnp, h.own, by rw [hb p h.inp]; exact h.cells, h.map.kept (hb M h.inM), ownsRow_block h.row fun k hk => hb k (h.own k hk).1,
    fun i d e => ownsRow_block (h.hld i d e) fun k hk => hb k (h.hin i d k e hk).1, h.hin, h.dif⟩

/-- A memory: its blocks' lengths, what its cells hold, what is told as the sum. -/
def MI (w : World) (B : Nat) (bl : Nat → Prop) (p n : Nat) (bs : List Nat) (f : Int → Int → Int) (t : Int) : Prop :=
  ∃ L F M la lc, MX w B bl p n L F t M la lc ∧ MF (fun _ => True) n L f F ∧ szs L = bs

theorem MI.rng {w : World} {B : Nat} {bl : Nat → Prop} {p n : Nat} {bs : List Nat} {f : Int → Int → Int} {t : Int} (h : MI w B bl p n bs f t) {k : Nat} (hk : bl k) : B ≤ k ∧ k < w.heap.size := by
  obtain ⟨L, F, M, la, lc, h1, h2, h3⟩ := h
  exact h1.rng k hk
theorem MI.inp {w : World} {B : Nat} {bl : Nat → Prop} {p n : Nat} {bs : List Nat} {f : Int → Int → Int} {t : Int} (h : MI w B bl p n bs f t) : bl p := by
  obtain ⟨L, F, M, la, lc, h1, h2, h3⟩ := h
  exact h1.inp
theorem MI.out {w : World} {B : Nat} {bl : Nat → Prop} {p n : Nat} {bs : List Nat} {f : Int → Int → Int} {t : Int} (h : MI w B bl p n bs f t) {a b : Int} (hk : inB bs a b = false) : f a b = 0 := by
  obtain ⟨L, F, M, la, lc, h1, h2, h3⟩ := h
  exact h2.out a b (by rw [h3]; exact hk)
theorem MI.kept {w w' : World} {B : Nat} {bl : Nat → Prop} {p n : Nat} {bs : List Nat} {f : Int → Int → Int} {t : Int} (h : MI w B bl p n bs f t) (hb : ∀ k, bl k → w'.heap[k]? = w.heap[k]?) (hs : w.heap.size ≤ w'.heap.size) : MI w' B bl p n bs f t := by
  obtain ⟨L, F, M, la, lc, h1, h2, h3⟩ := h
  exact ⟨L, F, M, la, lc, h1.kept hb hs, h2, h3⟩
theorem MI.fr {w w' : World} {B : Nat} {S bl : Nat → Prop} {p n : Nat} {bs : List Nat} {f : Int → Int → Int} {t : Int} (h : MI w B bl p n bs f t) (hf : Fr S w w') (hd : ∀ k, bl k → ¬ S k) : MI w' B bl p n bs f t :=
  h.kept (fun k hk => hf.block k (h.rng hk).2 (hd k hk)) hf.size
theorem MI.below {w w' : World} {B : Nat} {bl : Nat → Prop} {p n : Nat} {bs : List Nat} {f : Int → Int → Int} {t : Int} (h : MI w B bl p n bs f t) (hf : Below w.heap.size w w') : MI w' B bl p n bs f t :=
  h.fr (Fr.of_below hf) (fun _ _ h => h)

theorem hideIt {q : Prop} (h : q) : Hid q := h
theorem cell_new {X : World} {N : Nat} (h : X.heap.size = N) (cs : Array Value) (t : TypeId) (j : Nat) : (X.alloc (.cells cs t)).cell? ⟨N, j, none⟩ = cs[j]? := by
  subst h
  exact cell_of_block (heap_alloc_new X (.cells cs t (0, 0))) j
/-- The two cells of a block's row. -/
theorem MX.at {w : World} {B : Nat} {bl : Nat → Prop} {p n : Nat} {L : List Bk} {F : FF} {t : Int} {M : Nat} {la : Option Addr} {lc : Nat} (h : MX w B bl p n L F t M la lc) {i : Nat} {d : Bk} (hi : L[i]? = some d) :
    ∃ g, la = some ⟨g, 0, none⟩ ∧ w.cell? ⟨g, i * 2, none⟩ = some (.int .i64 (d.c : Int)) ∧ w.cell? ⟨g, i * 2 + 1, none⟩ = some d.v ∧ w.frozen? ⟨g, i * 2 + 1, none⟩ = false := by
  obtain ⟨e1, e2⟩ := bkCells_at L i d hi
  obtain ⟨g, cap, hv, q1, q2, q3, -⟩ := ownsRow_at h.row e1
  obtain ⟨g', cap', hv', q1', q2', q3', -⟩ := ownsRow_at h.row e2
  simp at hv hv'
  obtain ⟨rfl, rfl⟩ := hv
  simp at hv'
  obtain ⟨rfl, rfl⟩ := hv'
  exact ⟨g, rfl, q1, q1', q2'⟩

end Go.Proofs.Ytahhbehpgolinaa.Me
