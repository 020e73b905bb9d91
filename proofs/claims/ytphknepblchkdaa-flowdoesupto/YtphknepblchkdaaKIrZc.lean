/-
 Code in memory of its own: what it is, and what stays of it while other blocks are written; the copies of instructions: a contract over the program.
-/
import Derived.Test.YtphknepblchkdaaKIrZa
import Derived.Test.YtphknepblchkdaaKIrX
namespace Go.Proofs.Ytphknepblchkdaa
open Go.RowKit
set_option linter.unusedVariables false

/-- A list of one's own: its block is new and can be written. -/
def NB (lo : Nat) (W : World) (a : Option Addr) (n : Nat) : Prop := n = 0 ∨ ∃ g cs t, a = some ⟨g, 0, none⟩ ∧ lo ≤ g ∧ W.heap[g]? = some (.cells cs t (0, 0))
theorem NB.mono {lo lo' : Nat} {W : World} {a : Option Addr} {n : Nat} (h : NB lo W a n) (hl : lo' ≤ lo) : NB lo' W a n := by
 rcases h with h | ⟨g, cs, t, e, hg, hh⟩
 ·exact Or.inl h
 ·exact Or.inr ⟨g, cs, t, e, Nat.le_trans hl hg, hh⟩
theorem heap_keep {X X' : World} {k : Nat} {o : Obj} (q : Q X X') (h : X.heap[k]? = some o) : X'.heap[k]? = some o := (q.block k (Array.getElem?_eq_some_iff.1 h).1).trans h
theorem NB.keep {lo : Nat} {W W' : World} {a : Option Addr} {n : Nat} (q : Q W W') (h : NB lo W a n) : NB lo W' a n := by
 rcases h with h | ⟨g, cs, t, e, hg, hh⟩
 ·exact Or.inl h
 ·exact Or.inr ⟨g, cs, t, e, hg, heap_keep q hh⟩
theorem NB.set {lo : Nat} {W : World} {a : Option Addr} {n b j : Nat} (h : NB lo W a n) (u : Value) : NB lo (W.setCell ⟨b, j, none⟩ u) a n := by
 rcases h with h | ⟨g, cs, t, e, hg, hh⟩
 ·exact Or.inl h
 ·by_cases hb : g = b
  ·subst hb
   exact Or.inr ⟨g, _, t, e, hg, block_setCell hh u⟩
  ·exact Or.inr ⟨g, cs, t, e, hg, heap_set_other hh hb⟩

theorem set_cell_ne {W : World} {p q : Addr} {u v : Value} (h : W.cell? q = some v) (hne : q ≠ p) : (W.setCell p u).cell? q = some v := by
 rw [World.cell?_setCell_other (h := fun e => hne e.symm)]
 exact h
theorem At.set {W : World} {b o : Nat} {cs : List Value} {p : Addr} {u : Value} (h : At W b o cs) (hb : b ≠ p.block) : At (W.setCell p u) b o cs := fun j hj => by
 have hj' := h j hj
 obtain ⟨v, hv⟩ : ∃ v, cs[j]? = some v := ⟨cs[j], List.getElem?_eq_getElem hj⟩
 rw [hv] at hj' ⊢
 exact set_cell_ne hj' (fun e => hb (by rw [← e]))
/-- Where a slice lay, no number lies. -/
theorem Ints.set {W : World} {a : Option Addr} {l : List Int} {p : Addr} {u : Value} {sa : Option Addr} {sn sc : Nat} (h : Ints W a l) (hp : W.cell? p = some (.slice sa sn sc)) : Ints (W.setCell p u) a l := h.mono fun b o x hx => ⟨set_cell_ne hx.1 (fun e => by rw [← e, hx.1] at hp; simp at hp), hx.2⟩

/-- The block of an instruction's arguments, where there are any. -/
def aaB (x : PI) (b : Nat) : Prop := x.args ≠ [] ∧ x.aa = some ⟨b, 0, none⟩
/-- The blocks of arguments lie one behind the other, and behind the instructions' own. -/
structure OrdI (a : Option Addr) (l : List PI) : Prop where
 up : ∀ (k1 k2 : Nat) (x1 x2 : PI) (b1 b2 : Nat), l[k1]? = some x1 → l[k2]? = some x2 → k1 < k2 → aaB x1 b1 → aaB x2 b2 → b1 < b2
 beh : ∀ x ∈ l, ∀ b, aaB x b → ∀ g, a = some ⟨g, 0, none⟩ → g < b
theorem OrdI.nil (a : Option Addr) : OrdI a [] := ⟨fun k1 k2 x1 x2 b1 b2 h => by simp at h, fun x hx => by simp at hx⟩
theorem NB.lb {lo : Nat} {W : World} {a : Option Addr} {n : Nat} (h : NB lo W a n) (hn : n ≠ 0) {b : Nat} (e : a = some ⟨b, 0, none⟩) : lo ≤ b ∧ b < W.heap.size := by
 rcases h with h | ⟨g, cs, t, e', hg, hh⟩
 ·exact absurd h hn
 ·rw [e] at e'
  simp at e'
  subst e'
  exact ⟨hg, (Array.getElem?_eq_some_iff.1 hh).1⟩
theorem len_ne {α : Type} {l : List α} (h : l ≠ []) : l.length ≠ 0 := fun q => h (List.eq_nil_of_length_eq_zero q)

/-- Instructions in memory of their own. -/
structure InsL (lo : Nat) (W : World) (a : Option Addr) (l : List PI) : Prop where
 at' : Insts W a l
 nb : NB lo W a l.length
 each : ∀ x ∈ l, NB lo W x.aa x.args.length
 ord : OrdI a l
theorem InsL.keep {lo : Nat} {W W' : World} {a : Option Addr} {l : List PI} (q : Q W W') (h : InsL lo W a l) : InsL lo W' a l := ⟨Insts.keep q h.at', h.nb.keep q, fun x hx => (h.each x hx).keep q, h.ord⟩
theorem InsL.mono {lo lo' : Nat} {W : World} {a : Option Addr} {l : List PI} (h : InsL lo W a l) (hl : lo' ≤ lo) : InsL lo' W a l := ⟨h.at', h.nb.mono hl, fun x hx => (h.each x hx).mono hl, h.ord⟩
theorem InsL.set {lo : Nat} {W : World} {a : Option Addr} {l : List PI} {b j : Nat} {u : Value} {sa : Option Addr} {sn sc : Nat} (h : InsL lo W a l) (hb : b < lo) (hp : W.cell? ⟨b, j, none⟩ = some (.slice sa sn sc)) : InsL lo (W.setCell ⟨b, j, none⟩ u) a l := by
 refine ⟨fun k x hx => ?_, h.nb.set u, fun x hx => (h.each x hx).set u, h.ord⟩
 obtain ⟨b', o', e, hat, hok⟩ := h.at' k x hx
 refine ⟨b', o', e, hat.set ?_, hok.op, hok.ty, hok.dst, hok.a, hok.b, hok.imm, hok.sok, hok.args.set hp⟩
 rcases h.nb with h0 | ⟨g, cs, t, e2, hg, _⟩
 ·have := (List.getElem?_eq_some_iff.1 hx).1
  omega
 ·rw [e] at e2
  simp at e2
  show b' ≠ b
  omega

/-- The block of a part's instructions, where there are any. -/
def iaB (p : PP) (g : Nat) : Prop := p.ins ≠ [] ∧ p.ia = some ⟨g, 0, none⟩
/-- The blocks of a part. -/
def ptB (p : PP) (g : Nat) : Prop := iaB p g ∨ ∃ x ∈ p.ins, aaB x g
/-- Parts lie one behind the other. -/
def OrdP (L : List PP) : Prop := ∀ (k1 k2 : Nat) (x1 x2 : PP) (g1 g2 : Nat), L[k1]? = some x1 → L[k2]? = some x2 → k1 < k2 → ptB x1 g1 → ptB x2 g2 → g1 < g2
/-- Parts in memory of their own. -/
structure PrtL (lo : Nat) (W : World) (a : Option Addr) (l : List PP) : Prop where
 at' : Prts W a l
 nb : NB lo W a l.length
 each : ∀ p ∈ l, InsL lo W p.ia p.ins
 ord : OrdP l
 row : l = [] ∨ ∃ g, a = some ⟨g, 0, none⟩ ∧ W.heap[g]? = some (.cells (l.flatMap PP.cells).toArray 47 (0, 0))
theorem PrtL.keep {lo : Nat} {W W' : World} {a : Option Addr} {l : List PP} (q : Q W W') (h : PrtL lo W a l) : PrtL lo W' a l := ⟨Prts.keep q h.at', h.nb.keep q, fun x hx => (h.each x hx).keep q, h.ord, h.row.imp id fun ⟨g, e, hh⟩ => ⟨g, e, heap_keep q hh⟩⟩
theorem PrtL.mono {lo lo' : Nat} {W : World} {a : Option Addr} {l : List PP} (h : PrtL lo W a l) (hl : lo' ≤ lo) : PrtL lo' W a l := ⟨h.at', h.nb.mono hl, fun x hx => (h.each x hx).mono hl, h.ord, h.row⟩
theorem PrtL.set_at {lo : Nat} {W : World} {a : Option Addr} {l : List PP} {b j : Nat} {u : Value} {sa : Option Addr} {sn sc : Nat} (h : PrtL lo W a l) (hb : b < lo) (hp : W.cell? ⟨b, j, none⟩ = some (.slice sa sn sc)) : ∀ k x, l[k]? = some x → ∃ b' o', a = some ⟨b', o', none⟩ ∧ PrtAt (W.setCell ⟨b, j, none⟩ u) b' (o' + k * 5) x := fun k x hx => by
 obtain ⟨b', o', e, hat, hok⟩ := h.at' k x hx
 have hi := (h.each x (List.mem_of_getElem? hx)).set (u := u) hb hp
 refine ⟨b', o', e, hat.set ?_, hok.cond, hok.next, hok.els, hok.sok, hi.at'⟩
 rcases h.nb with h0 | ⟨g, cs, t, e2, hg, _⟩
 ·have := (List.getElem?_eq_some_iff.1 hx).1
  omega
 ·rw [e] at e2
  simp at e2
  show b' ≠ b
  omega
theorem PrtL.set {lo : Nat} {W : World} {a : Option Addr} {l : List PP} {b j : Nat} {u : Value} {sa : Option Addr} {sn sc : Nat} (h : PrtL lo W a l) (hb : b < lo) (hp : W.cell? ⟨b, j, none⟩ = some (.slice sa sn sc)) : PrtL lo (W.setCell ⟨b, j, none⟩ u) a l := by
 refine ⟨fun k x hx => ?_, h.nb.set u, fun x hx => (h.each x hx).set hb hp, h.ord, ?_⟩
 ·exact PrtL.set_at h hb hp k x hx
 ·rcases h.row with h0 | ⟨g, e, hh⟩
  ·exact Or.inl h0
  ·by_cases hl0 : l = []
   ·exact Or.inl hl0
   ·exact Or.inr ⟨g, e, heap_set_other hh (by have := (h.nb.lb (len_ne hl0) e).1; show g ≠ b; omega)⟩

theorem listInts_new (w : World) (ao : Option Addr) (c : Nat) (l : List Int) (hs : sok 8 ao l.length c) (hl : Ints w ao l) : Calls Try.prog 35 #[.slice ao l.length c] w fun e w' => ∃ ao' c', e = .returned (.slice ao' l.length c') ∧ Ints w' ao' l ∧ sok 8 ao' l.length c' ∧ NB w.heap.size w' ao' l.length ∧ Q w w' := by
 refine (listInt_any w ao l.length c (l.map (Value.int .i64)) hs (by simp) (ints_src hl) mem_one).mono fun e w' h => ?_
 rcases h with ⟨rfl, rfl, rfl⟩ | ⟨_, rfl, hh, q⟩
 ·have h0 : l.length = 0 := by have := hs.1; have := hs.2.2.1 rfl; omega
  exact ⟨none, 0, by rw [h0], hl, by rw [h0]; exact sok_none _, Or.inl h0, Q.refl _⟩
 ·exact ⟨_, _, rfl, ints_block hh (ints_bound hl), ⟨Nat.le_refl _, by have := hs.1; have := hs.2.1; omega, (fun h => by cases h), hs.2.2.2⟩, Or.inr ⟨_, _, _, rfl, Nat.le_refl _, hh⟩, q⟩
theorem listI64s_new (w : World) (ao : Option Addr) (c : Nat) (l : List Int) (hs : sok 8 ao l.length c) (hl : Ints w ao l) : Calls Try.prog 36 #[.slice ao l.length c] w fun e w' => ∃ ao' c', e = .returned (.slice ao' l.length c') ∧ Ints w' ao' l ∧ sok 8 ao' l.length c' ∧ NB w.heap.size w' ao' l.length ∧ Q w w' := by
 refine (listI64_any w ao l.length c (l.map (Value.int .i64)) hs (by simp) (ints_src hl) mem_one).mono fun e w' h => ?_
 rcases h with ⟨rfl, rfl, rfl⟩ | ⟨_, rfl, hh, q⟩
 ·have h0 : l.length = 0 := by have := hs.1; have := hs.2.2.1 rfl; omega
  exact ⟨none, 0, by rw [h0], hl, by rw [h0]; exact sok_none _, Or.inl h0, Q.refl _⟩
 ·exact ⟨_, _, rfl, ints_block hh (ints_bound hl), ⟨Nat.le_refl _, by have := hs.1; have := hs.2.1; omega, (fun h => by cases h), hs.2.2.2⟩, Or.inr ⟨_, _, _, rfl, Nat.le_refl _, hh⟩, q⟩

/-- The cells of elements side by side. -/
theorem flat_len {α : Type} (f : α → List Value) (n : Nat) (h : ∀ x, (f x).length = n) (l : List α) : (l.flatMap f).length = l.length * n := by
 induction l with
 | nil => simp
 | cons x r ih => simp [List.flatMap_cons, ih, h, Nat.succ_mul]; omega
theorem flat_at {α : Type} (f : α → List Value) (n : Nat) (h : ∀ x, (f x).length = n) : ∀ (l : List α) (k : Nat) (x : α) (j : Nat), l[k]? = some x → j < n → (l.flatMap f)[k * n + j]? = (f x)[j]?
 | [], k, x, j, e, _ => by simp at e
 | y :: r, 0, x, j, e, hj => by
  simp at e
  subst e
  rw [List.flatMap_cons, Nat.zero_mul, Nat.zero_add, List.getElem?_append_left (by rw [h]; exact hj)]
 | y :: r, k + 1, x, j, e, hj => by
  have := flat_at f n h r k x j (by simpa using e) hj
  rw [List.flatMap_cons, List.getElem?_append_right (by rw [h, Nat.succ_mul]; omega), h, ← this]
  congr 1
  rw [Nat.succ_mul]
  omega
theorem flat_inv {α : Type} (f : α → List Value) (n : Nat) (h : ∀ x, (f x).length = n) (hn : 0 < n) (l : List α) (i : Nat) (v : Value) (e : (l.flatMap f)[i]? = some v) : ∃ x, l[i / n]? = some x ∧ (f x)[i % n]? = some v := by
 have hi := (List.getElem?_eq_some_iff.1 e).1
 rw [flat_len f n h] at hi
 have hk : i / n < l.length := by rw [Nat.div_lt_iff_lt_mul hn]; exact hi
 obtain ⟨x, hx⟩ := get_of_lt hk
 refine ⟨x, hx, ?_⟩
 rw [← flat_at f n h l (i / n) x (i % n) hx (Nat.mod_lt _ hn)]
 rw [Nat.div_add_mod']
 exact e

theorem flat_set {α : Type} (f : α → List Value) (n : Nat) (h : ∀ x, (f x).length = n) : ∀ (l : List α) (k : Nat) (x x' : α) (j : Nat) (u : Value), l[k]? = some x → j < n → f x' = (f x).set j u → (l.set k x').flatMap f = (l.flatMap f).set (k * n + j) u
 | [], k, x, x', j, u, e, _, _ => by simp at e
 | y :: r, 0, x, x', j, u, e, hj, hf => by
  simp at e
  subst e
  rw [List.set_cons_zero, List.flatMap_cons, List.flatMap_cons, hf, Nat.zero_mul, Nat.zero_add, List.set_append_left _ _ (by rw [h]; exact hj)]
 | y :: r, k + 1, x, x', j, u, e, hj, hf => by
  have := flat_set f n h r k x x' j u (by simpa using e) hj hf
  rw [List.set_cons_succ, List.flatMap_cons, List.flatMap_cons, this, List.set_append_right _ _ (by rw [h, Nat.succ_mul]; omega), h]
  congr 2
  rw [Nat.succ_mul]
  omega
theorem flat_block {α : Type} {f : α → List Value} {n : Nat} (h : ∀ x, (f x).length = n) {l : List α} {W : World} {G : Nat} {t : TypeId} (hh : W.heap[G]? = some (.cells (l.flatMap f).toArray t (0, 0))) {k : Nat} {x : α} (hx : l[k]? = some x) : At W G (k * n) (f x) := fun j hj => by
 rw [h] at hj
 rw [cell_of_block hh, List.getElem?_toArray, flat_at f n h l k x j hx hj]
theorem flat_step {α : Type} {f : α → List Value} {n : Nat} (h : ∀ x, (f x).length = n) {l : List α} {W : World} {G : Nat} {t : TypeId} (hh : W.heap[G]? = some (.cells (l.flatMap f).toArray t (0, 0))) {k : Nat} {x x' : α} {j : Nat} {u : Value} (hx : l[k]? = some x) (hj : j < n) (hf : f x' = (f x).set j u) :
  (W.setCell ⟨G, k * n + j, none⟩ u).heap[G]? = some (.cells ((l.set k x').flatMap f).toArray t (0, 0)) := by
 rw [block_setCell hh u, flat_set f n h l k x x' j u hx hj hf]
 simp
theorem PI.len (x : PI) : x.cells.length = 7 := rfl
theorem PP.len (x : PP) : x.cells.length = 5 := rfl
theorem PF.len (x : PF) : x.cells.length = 4 := rfl
theorem lst_src {α : Type} {f : α → List Value} {n : Nat} (hl : ∀ x, (f x).length = n) (hn : 0 < n) {P : Nat → Nat → α → Prop} {W : World} (hP : ∀ b o x, P b o x → At W b o (f x)) {a : Option Addr} {l : List α} (h : Lst n P a l) : ∀ ad, a = some ad → ∀ j v, (l.flatMap f)[j]? = some v → W.cell? (ad.add j) = some v := fun ad e j v hv => by
 obtain ⟨x, hx, hxv⟩ := flat_inv f n hl hn l j v hv
 obtain ⟨b, o, e', hp⟩ := h _ x hx
 rw [e] at e'
 simp at e'
 subst e'
 have := (hP _ _ _ hp).cell (j % n) v hxv
 rw [Nat.add_assoc, Nat.div_add_mod'] at this
 unfold Addr.add
 by_cases hz : j = 0
 ·subst hz; simpa using this
 ·simpa [hz] using this
theorem cells_one (x : PI) : ∀ v ∈ x.cells, v.oneCell' = true := fun v hv => by simp [PI.cells] at hv; rcases hv with rfl | rfl | rfl | rfl | rfl | rfl | rfl <;> rfl
theorem cells_oneP (x : PP) : ∀ v ∈ x.cells, v.oneCell' = true := fun v hv => by simp [PP.cells] at hv; rcases hv with rfl | rfl | rfl | rfl | rfl <;> rfl
theorem cells_oneF (x : PF) : ∀ v ∈ x.cells, v.oneCell' = true := fun v hv => by simp [PF.cells] at hv; rcases hv with rfl | rfl | rfl | rfl <;> rfl

end Go.Proofs.Ytphknepblchkdaa
