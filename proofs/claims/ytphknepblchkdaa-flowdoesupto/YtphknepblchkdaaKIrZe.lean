/-
 Code in memory of its own while one block is written: what stays; the copies of parts and functions, step by step; facts on worlds alone.
-/
import Derived.Test.YtphknepblchkdaaKIrZd
namespace Go.Proofs.Ytphknepblchkdaa
open Go.RowKit
set_option linter.unusedVariables false

/-- All but block G, and new ones, is as it was. -/
structure FrX (G : Nat) (W W' : World) : Prop where
 os : W'.os = W.os
 tape : W'.tape = W.tape
 output : W'.output = W.output
 size : W.heap.size ≤ W'.heap.size
 block : ∀ k, k < W.heap.size → k ≠ G → W'.heap[k]? = W.heap[k]?
theorem FrX.of_q {G : Nat} {W W' : World} (q : Q W W') : FrX G W W' := ⟨q.os, q.tape, q.output, q.size, fun k hk _ => q.block k hk⟩
theorem FrX.trans {G : Nat} {A B C : World} (h : FrX G A B) (k : FrX G B C) : FrX G A C := ⟨k.os.trans h.os, k.tape.trans h.tape, k.output.trans h.output, Nat.le_trans h.size k.size, fun j hj hn => (k.block j (Nat.lt_of_lt_of_le hj h.size) hn).trans (h.block j hj hn)⟩
theorem FrX.set {G : Nat} {A B : World} (h : FrX G A B) {p : Addr} (hp : p.block = G ∨ A.heap.size ≤ p.block) (u : Value) : FrX G A (B.setCell p u) :=
 ⟨h.os, h.tape, h.output, by have := h.size; simpa using this, fun j hj hn => (Below.heap_setCell B p u j (fun e => by rcases hp with hp | hp; exact hn (e.trans hp); omega)).trans (h.block j hj hn)⟩
theorem FrX.q {G : Nat} {A B w : World} (h : FrX G A B) (q : Q w A) (hg : w.heap.size ≤ G) : Q w B := ⟨h.os.trans q.os, h.tape.trans q.tape, h.output.trans q.output, Nat.le_trans q.size h.size, fun k hk => (h.block k (Nat.lt_of_lt_of_le hk q.size) (by omega)).trans (q.block k hk)⟩
theorem FrX.heap {G : Nat} {W W' : World} (f : FrX G W W') {k : Nat} {o : Obj} (h : W.heap[k]? = some o) (hn : k ≠ G) : W'.heap[k]? = some o := (f.block k (Array.getElem?_eq_some_iff.1 h).1 hn).trans h
theorem FrX.cell {G : Nat} {W W' : World} (f : FrX G W W') {q : Addr} {v : Value} (h : W.cell? q = some v) (hn : q.block ≠ G) : W'.cell? q = some v := (World.cell?_of_block (f.block q.block (World.block_lt_of_cell? W _ h) hn)).trans h
theorem FrX.drewN {G : Nat} {A B : World} (h : FrX G A B) (n : Nat) : FrX G A (B.drewN n) := ⟨h.os, h.tape, h.output, h.size, h.block⟩
theorem FrX.drew {G : Nat} {A B : World} (h : FrX G A B) : FrX G A B.drew := ⟨h.os, h.tape, h.output, h.size, h.block⟩

theorem NB.frx {G lo : Nat} {W W' : World} {a : Option Addr} {n : Nat} (h : NB lo W a n) (hg : G < lo) (f : FrX G W W') : NB lo W' a n := by
 rcases h with h | ⟨g, cs, t, e, hl, hh⟩
 ·exact Or.inl h
 ·exact Or.inr ⟨g, cs, t, e, hl, f.heap hh (by omega)⟩
theorem lst_ne {α : Type} {sz lo G : Nat} {P : Nat → Nat → α → Prop} {W : World} {a : Option Addr} {l : List α} (hn : NB lo W a l.length) (hg : G < lo) {k : Nat} {x : α} (hx : l[k]? = some x) {b o : Nat} (e : a = some ⟨b, o, none⟩) : b ≠ G := by
 rcases hn with h0 | ⟨g, cs, t, e2, hl, _⟩
 ·have := (List.getElem?_eq_some_iff.1 hx).1
  omega
 ·rw [e] at e2
  simp at e2
  omega
theorem At.frx {G : Nat} {W W' : World} {b o : Nat} {cs : List Value} (h : At W b o cs) (hn : b ≠ G) (f : FrX G W W') : At W' b o cs := fun j hj => by
 have hj' := h j hj
 obtain ⟨v, hv⟩ : ∃ v, cs[j]? = some v := ⟨cs[j], List.getElem?_eq_getElem hj⟩
 rw [hv] at hj' ⊢
 exact f.cell hj' hn
theorem Ints.frx {G lo : Nat} {W W' : World} {a : Option Addr} {l : List Int} (h : Ints W a l) (hn : NB lo W a l.length) (hg : G < lo) (f : FrX G W W') : Ints W' a l := fun k x hx => by
 obtain ⟨b, o, e, hc⟩ := h k x hx
 exact ⟨b, o, e, f.cell hc.1 (lst_ne (sz := 1) (P := IntAt W) hn hg hx e), hc.2⟩
theorem PI.ok.frx {G lo : Nat} {W W' : World} {x : PI} (h : x.ok W) (hn : NB lo W x.aa x.args.length) (hg : G < lo) (f : FrX G W W') : x.ok W' := ⟨h.op, h.ty, h.dst, h.a, h.b, h.imm, h.sok, h.args.frx hn hg f⟩
theorem InsL.frx {G lo : Nat} {W W' : World} {a : Option Addr} {l : List PI} (h : InsL lo W a l) (hg : G < lo) (f : FrX G W W') : InsL lo W' a l := by
 refine ⟨fun k x hx => ?_, h.nb.frx hg f, fun x hx => (h.each x hx).frx hg f, h.ord⟩
 obtain ⟨b, o, e, hat, hok⟩ := h.at' k x hx
 exact ⟨b, o, e, hat.frx (lst_ne (sz := 7) (P := InsAt W) h.nb hg hx e) f, hok.frx (h.each x (List.mem_of_getElem? hx)) hg f⟩
theorem PrtL.frx {G lo : Nat} {W W' : World} {a : Option Addr} {l : List PP} (h : PrtL lo W a l) (hg : G < lo) (f : FrX G W W') : PrtL lo W' a l := by
 refine ⟨fun k x hx => ?_, h.nb.frx hg f, fun x hx => (h.each x hx).frx hg f, h.ord, (Classical.em (l = [])).imp id fun hl0 => (h.row.resolve_left hl0).imp fun g ⟨e, hh⟩ => ⟨e, f.heap hh (by have := (h.nb.lb (len_ne hl0) e).1; omega)⟩⟩
 obtain ⟨b, o, e, hat, hok⟩ := h.at' k x hx
 exact ⟨b, o, e, hat.frx (lst_ne (sz := 5) (P := PrtAt W) h.nb hg hx e) f, hok.cond, hok.next, hok.els, hok.sok, ((h.each x (List.mem_of_getElem? hx)).frx hg f).at'⟩

/-- The block of a function's slots, that of its parts, and all its blocks. -/
def sB (f : PF) (g : Nat) : Prop := f.slots ≠ [] ∧ f.sa = some ⟨g, 0, none⟩
def paB (f : PF) (g : Nat) : Prop := f.parts ≠ [] ∧ f.pa = some ⟨g, 0, none⟩
def fnB (f : PF) (g : Nat) : Prop := sB f g ∨ paB f g ∨ ∃ p ∈ f.parts, ptB p g
/-- A function's blocks lie one behind the other. -/
structure SoF (f : PF) : Prop where
 sp : ∀ g1 g2, sB f g1 → paB f g2 → g1 < g2
 st : ∀ g1 g2, sB f g1 → (∃ p ∈ f.parts, ptB p g2) → g1 < g2
 pt : ∀ g1 g2, paB f g1 → (∃ p ∈ f.parts, ptB p g2) → g1 < g2
/-- Functions in memory of their own. -/
structure FnN (lo : Nat) (W : World) (f : PF) : Prop where
 slots : NB lo W f.sa f.slots.length
 parts : PrtL lo W f.pa f.parts
 so : SoF f
 cap : f.pc = f.parts.length
/-- Functions lie one behind the other. -/
def OrdF (L : List PF) : Prop := ∀ (k1 k2 : Nat) (f1 f2 : PF), L[k1]? = some f1 → L[k2]? = some f2 → k1 < k2 → ∀ g1 g2, fnB f1 g1 → fnB f2 g2 → g1 < g2
structure FnL (lo : Nat) (W : World) (a : Option Addr) (l : List PF) : Prop where
 at' : Fns W a l
 nb : NB lo W a l.length
 each : ∀ f ∈ l, FnN lo W f
 ord : OrdF l
 row : l = [] ∨ ∃ g, a = some ⟨g, 0, none⟩ ∧ W.heap[g]? = some (.cells (l.flatMap PF.cells).toArray 44 (0, 0))
theorem InsL.lb {lo : Nat} {W : World} {p : PP} (h : InsL lo W p.ia p.ins) {g : Nat} (hg : ptB p g) : lo ≤ g ∧ g < W.heap.size := by
 rcases hg with hg | ⟨x, hx, hg⟩
 ·exact h.nb.lb (len_ne hg.1) hg.2
 ·exact (h.each x hx).lb (len_ne hg.1) hg.2
theorem FnN.lb {lo : Nat} {W : World} {f : PF} (h : FnN lo W f) {g : Nat} (hg : fnB f g) : lo ≤ g ∧ g < W.heap.size := by
 rcases hg with hg | hg | ⟨p, hp, hg⟩
 ·exact h.slots.lb (len_ne hg.1) hg.2
 ·exact h.parts.nb.lb (len_ne hg.1) hg.2
 ·exact InsL.lb (h.parts.each p hp) hg
theorem FnN.mono {lo lo' : Nat} {W : World} {f : PF} (h : FnN lo W f) (hl : lo' ≤ lo) : FnN lo' W f := ⟨h.slots.mono hl, h.parts.mono hl, h.so, h.cap⟩
theorem FnN.frx {G lo : Nat} {W W' : World} {f : PF} (h : FnN lo W f) (hg : G < lo) (x : FrX G W W') : FnN lo W' f := ⟨h.slots.frx hg x, h.parts.frx hg x, h.so, h.cap⟩
theorem PF.ok.frx {G lo : Nat} {W W' : World} {f : PF} (h : f.ok W) (hn : FnN lo W f) (hg : G < lo) (x : FrX G W W') : f.ok W' := ⟨h.params, h.regs, h.ssok, h.slots.frx hn.slots hg x, h.psok, (hn.parts.frx hg x).at'⟩

/-- What holds while the parts in block P are copied: j of them are. -/
structure CpP (P : Nat) (l : List PP) (j : Nat) (L : List PP) (W : World) : Prop where
 len : L.length = l.length
 blk : W.heap[P]? = some (.cells (L.flatMap PP.cells).toArray 47 (0, 0))
 new : ∀ (k : Nat) (x y : PP), L[k]? = some x → l[k]? = some y → k < j → EvP x y ∧ x.ok W ∧ InsL (P + 1) W x.ia x.ins
 old : ∀ k, j ≤ k → L[k]? = l[k]?
 ord : ∀ (k1 k2 : Nat) (x1 x2 : PP) (g1 g2 : Nat), L[k1]? = some x1 → L[k2]? = some x2 → k1 < k2 → k2 < j → ptB x1 g1 → ptB x2 g2 → g1 < g2

theorem CpP.step {P : Nat} {l L : List PP} {j : Nat} {W W' : World} (h : CpP P l j L W) {x : PP} (hx : L[j]? = some x) (hxo : x.ok W) {ao : Option Addr} {c : Nat} {li : List PI} (q : Q W W') (hev : EvL EvI li x.ins) (hs : sok 64 ao x.ins.length c) (hi : InsL W.heap.size W' ao li) :
  CpP P l (j + 1) (L.set j { x with ins := li, ia := ao, ic := c }) (W'.setCell ⟨P, j * 5, none⟩ (.slice ao x.ins.length c)) := by
 have hb' := heap_keep q h.blk
 have hP : P < W.heap.size := (Array.getElem?_eq_some_iff.1 h.blk).1
 have hjl : j < L.length := (List.getElem?_eq_some_iff.1 hx).1
 have f1 : FrX P W (W'.setCell ⟨P, j * 5, none⟩ (.slice ao x.ins.length c)) := FrX.set (p := ⟨P, j * 5, none⟩) (FrX.of_q q) (Or.inl rfl) _
 have f2 : FrX P W' (W'.setCell ⟨P, j * 5, none⟩ (.slice ao x.ins.length c)) := FrX.set (p := ⟨P, j * 5, none⟩) (FrX.of_q (Q.refl W')) (Or.inl rfl) _
 have hi2 := (hi.mono (show P + 1 ≤ W.heap.size by omega)).frx (Nat.lt_succ_self P) f2
 refine ⟨by simp [h.len], ?_, fun k y z hy hz hk => ?_, fun k hk => ?_, fun k1 k2 x1 x2 g1 g2 e1 e2 h12 h2j b1 b2 => ?_⟩
 ·have := flat_step PP.len hb' (x' := { x with ins := li, ia := ao, ic := c }) (j := 0) (u := .slice ao x.ins.length c) hx (by omega) (by simp [PP.cells, hev.len])
  simpa using this
 ·rw [List.getElem?_set] at hy
  split at hy
  ·rename_i e
   subst e
   simp at hy
   subst hy
   have e2 : x = z := by
    have := h.old j (Nat.le_refl _)
    rw [hx, hz] at this
    simpa using this
   subst e2
   refine ⟨⟨rfl, rfl, rfl, rfl, hev⟩, ⟨hxo.cond, hxo.next, hxo.els, ?_, hi2.at'⟩, hi2⟩
   show sok 64 ao li.length c
   rw [hev.len]
   exact hs
  ·obtain ⟨h1, h2, h3⟩ := h.new k y z hy hz (by omega)
   have h4 := h3.frx (Nat.lt_succ_self P) f1
   exact ⟨h1, ⟨h2.cond, h2.next, h2.els, h2.sok, h4.at'⟩, h4⟩
 ·rw [List.getElem?_set_ne (by omega)]
  exact h.old k (by omega)
 ·rw [List.getElem?_set_ne (by omega)] at e1
  by_cases e : k2 = j
  ·subst e
   rw [List.getElem?_set_self hjl] at e2
   simp at e2
   subst e2
   have hl2 : W.heap.size ≤ g2 := (InsL.lb (p := { x with ins := li, ia := ao, ic := c }) hi b2).1
   have hlen := h.len
   obtain ⟨y1, hy1⟩ := get_of_lt (l := l) (k := k1) (by omega)
   have := (InsL.lb (h.new k1 x1 y1 e1 hy1 h12).2.2 b1).2
   omega
  ·rw [List.getElem?_set_ne (by omega)] at e2
   exact h.ord k1 k2 x1 x2 g1 g2 e1 e2 h12 (by omega) b1 b2

theorem CpP.done {P lo : Nat} {l L : List PP} {W : World} (h : CpP P l l.length L W) (hl : lo ≤ P) : PrtL lo W (some ⟨P, 0, none⟩) L ∧ EvL EvP L l := by
 have each : ∀ (k : Nat) (x : PP), L[k]? = some x → ∃ y, l[k]? = some y ∧ EvP x y ∧ x.ok W ∧ InsL (P + 1) W x.ia x.ins := fun k x hx => by
  have hk := (List.getElem?_eq_some_iff.1 hx).1
  rw [h.len] at hk
  obtain ⟨y, hy⟩ := get_of_lt hk
  exact ⟨y, hy, h.new k x y hx hy hk⟩
 refine ⟨⟨fun k x hx => ⟨P, 0, rfl, ?_, (each k x hx).choose_spec.2.2.1⟩, Or.inr ⟨P, _, _, rfl, hl, h.blk⟩, fun x hx => ?_, fun k1 k2 x1 x2 g1 g2 e1 e2 h12 b1 b2 => h.ord k1 k2 x1 x2 g1 g2 e1 e2 h12 (by have := (List.getElem?_eq_some_iff.1 e2).1; rw [h.len] at this; exact this) b1 b2, Or.inr ⟨P, rfl, h.blk⟩⟩, h.len, fun k x y hx hy => ?_⟩
 ·rw [Nat.zero_add]
  exact flat_block PP.len h.blk hx
 ·obtain ⟨k, hk⟩ := List.mem_iff_getElem?.1 hx
  obtain ⟨y, _, _, _, h4⟩ := each k x hk
  exact h4.mono (by omega)
 ·have hk := (List.getElem?_eq_some_iff.1 hy).1
  exact (h.new k x y hx hy hk).1

theorem CpP.above {P : Nat} {l L : List PP} {W : World} (h : CpP P l l.length L W) : ∀ p ∈ L, ∀ b, ptB p b → P < b := fun p hp b hb => by
 obtain ⟨k, hk⟩ := List.mem_iff_getElem?.1 hp
 have hkl := (List.getElem?_eq_some_iff.1 hk).1
 rw [h.len] at hkl
 obtain ⟨y, hy⟩ := get_of_lt hkl
 have := (InsL.lb (h.new k p y hk hy hkl).2.2 hb).1
 omega
/-- What holds while the functions in block G are copied: i of them are. -/
structure CpF (G : Nat) (l : List PF) (i : Nat) (L : List PF) (W : World) : Prop where
 len : L.length = l.length
 blk : W.heap[G]? = some (.cells (L.flatMap PF.cells).toArray 44 (0, 0))
 new : ∀ (k : Nat) (x y : PF), L[k]? = some x → l[k]? = some y → k < i → EvF x y ∧ x.ok W ∧ FnN (G + 1) W x
 old : ∀ k, i ≤ k → L[k]? = l[k]?
 ord : ∀ (k1 k2 : Nat) (f1 f2 : PF), L[k1]? = some f1 → L[k2]? = some f2 → k1 < k2 → k2 < i → ∀ g1 g2, fnB f1 g1 → fnB f2 g2 → g1 < g2

/-- A function is copied: its block's cells are written, and all else is new. -/
theorem CpF.step {G : Nat} {l L : List PF} {i : Nat} {W W' : World} (h : CpF G l i L W) {x x' : PF} (hx : L[i]? = some x) (f : FrX G W W') (hblk : W'.heap[G]? = some (.cells ((L.set i x').flatMap PF.cells).toArray 44 (0, 0))) (hev : EvF x' x) (hok : x'.ok W') (hn : FnN (G + 1) W' x') (hge : ∀ g, fnB x' g → W.heap.size ≤ g) : CpF G l (i + 1) (L.set i x') W' := by
 have hil : i < L.length := (List.getElem?_eq_some_iff.1 hx).1
 refine ⟨by simp [h.len], hblk, fun k y z hy hz hk => ?_, fun k hk => ?_, fun k1 k2 f1 f2 e1 e2 h12 h2i g1 g2 b1 b2 => ?_⟩
 ·rw [List.getElem?_set] at hy
  split at hy
  ·rename_i e
   subst e
   simp at hy
   subst hy
   have e2 : x = z := by
    have := h.old i (Nat.le_refl _)
    rw [hx, hz] at this
    simpa using this
   subst e2
   exact ⟨hev, hok, hn⟩
  ·obtain ⟨h1, h2, h3⟩ := h.new k y z hy hz (by omega)
   exact ⟨h1, h2.frx h3 (Nat.lt_succ_self G) f, h3.frx (Nat.lt_succ_self G) f⟩
 ·rw [List.getElem?_set_ne (by omega)]
  exact h.old k (by omega)
 ·rw [List.getElem?_set_ne (by omega)] at e1
  by_cases e : k2 = i
  ·subst e
   rw [List.getElem?_set_self hil] at e2
   simp at e2
   subst e2
   have hl2 := hge g2 b2
   have hlen := h.len
   obtain ⟨y1, hy1⟩ := get_of_lt (l := l) (k := k1) (by omega)
   have := (FnN.lb (h.new k1 f1 y1 e1 hy1 h12).2.2 b1).2
   omega
  ·rw [List.getElem?_set_ne (by omega)] at e2
   exact h.ord k1 k2 f1 f2 e1 e2 h12 (by omega) g1 g2 b1 b2
theorem CpF.done {G lo : Nat} {l L : List PF} {W : World} (h : CpF G l l.length L W) (hl : lo ≤ G) : FnL lo W (some ⟨G, 0, none⟩) L ∧ EvL EvF L l := by
 have each : ∀ (k : Nat) (x : PF), L[k]? = some x → ∃ y, l[k]? = some y ∧ EvF x y ∧ x.ok W ∧ FnN (G + 1) W x := fun k x hx => by
  have hk := (List.getElem?_eq_some_iff.1 hx).1
  rw [h.len] at hk
  obtain ⟨y, hy⟩ := get_of_lt hk
  exact ⟨y, hy, h.new k x y hx hy hk⟩
 refine ⟨⟨fun k x hx => ⟨G, 0, rfl, ?_, (each k x hx).choose_spec.2.2.1⟩, Or.inr ⟨G, _, _, rfl, hl, h.blk⟩, fun x hx => ?_, fun k1 k2 f1 f2 e1 e2 h12 => h.ord k1 k2 f1 f2 e1 e2 h12 (by have := (List.getElem?_eq_some_iff.1 e2).1; rw [h.len] at this; exact this), Or.inr ⟨G, rfl, h.blk⟩⟩, h.len, fun k x y hx hy => ?_⟩
 ·rw [Nat.zero_add]
  exact flat_block PF.len h.blk hx
 ·obtain ⟨k, hk⟩ := List.mem_iff_getElem?.1 hx
  obtain ⟨y, _, _, _, h4⟩ := each k x hk
  exact h4.mono (by omega)
 ·have hk := (List.getElem?_eq_some_iff.1 hy).1
  exact (h.new k x y hx hy hk).1

theorem CpF.above {G : Nat} {l L : List PF} {W : World} (h : CpF G l l.length L W) : ∀ f ∈ L, ∀ b, fnB f b → G < b := fun f hf b hb => by
 obtain ⟨k, hk⟩ := List.mem_iff_getElem?.1 hf
 have hkl := (List.getElem?_eq_some_iff.1 hk).1
 rw [h.len] at hkl
 obtain ⟨y, hy⟩ := get_of_lt hkl
 have := (FnN.lb (h.new k f y hk hy hkl).2.2 hb).1
 omega

end Go.Proofs.Ytphknepblchkdaa
