/-
 What straightening makes of a function, as plain functions of its parts: no program in sight; no conditions but those that each fact bears.
 Rows of one's own, each in a block of its own: what a write, an append, a new row makes of them; facts on worlds; no conditions but those that each fact bears.
 A part's kind, its ways, one way alone (branches, onlyGoesOn, way, goOn, ways of flow): contracts over the program; the conditions: the part lies in memory, and its ways lead to parts.
-/
import Derived.Test.YtphknepblchkdaaKInA
import Derived.Test.YtphknepblchkdaaKIrZe
import Derived.Laws.OwnMore
import Derived.BigRegion
namespace Go.Proofs.Ytphknepblchkdaa.Fl
open Go.RowKit
open Go.Proofs.Ytphknepblchkdaa.In (zI zP zF zI_zI zP_zP cntS)
set_option linter.unusedVariables false

/-! ### A branch that is known -/
def brP (p : PP) : Bool := !p.e && decide (0 ≤ p.cond)
def onP (p : PP) : Bool := !p.e && decide (p.cond < 0)
def wayP (p : PP) (b : Bool) : Int := if b then p.next else p.els
def goP (p : PP) (t : Int) : PP := { p with cond := -1, next := t, els := 0 }
/-- The last instruction that writes a register. -/
def lastI (l : List PI) (r : Int) : Option PI := l.reverse.find? fun x => wrP x.op && x.dst == r
def takeP (fault : Bool) (p : PP) : PP :=
 if brP p = true then (match lastI p.ins p.cond with | some x => if x.op = 20 then goP p (wayP p ((x.imm != 0) != fault)) else p | none => p) else p
/-- The parts at which a part may go on. -/
def waysN (p : PP) : List Nat := if p.e then [] else if p.cond < 0 then [p.next.toNat] else [p.next.toNat, p.els.toNat]
/-- Every way of n parts leads to a part. -/
structure Wy (n : Nat) (p : PP) : Prop where
 nx : p.e = false → 0 ≤ p.next ∧ p.next < n
 el : p.e = false → 0 ≤ p.cond → 0 ≤ p.els ∧ p.els < n
def WyL (L : List PP) : Prop := ∀ p ∈ L, Wy L.length p
theorem Wy.ways {n : Nat} {p : PP} (h : Wy n p) : ∀ m ∈ waysN p, m < n := fun m hm => by
 unfold waysN at hm
 split at hm
 ·cases hm
 ·rename_i he
  have he' : p.e = false := by simpa using he
  have h1 := h.nx he'
  split at hm
  ·simp at hm; omega
  ·rename_i hc
   have h2 := h.el he' (by omega)
   simp at hm
   omega
theorem Wy.go {n : Nat} {p : PP} {t : Int} (h : 0 ≤ t ∧ t < n) : Wy n (goP p t) := ⟨fun _ => h, fun _ q => absurd q (by show ¬ (0 : Int) ≤ -1; omega)⟩
theorem Wy.way {n : Nat} {p : PP} (h : Wy n p) (hb : brP p = true) (b : Bool) : 0 ≤ wayP p b ∧ wayP p b < n := by
 unfold brP at hb
 simp at hb
 unfold wayP
 split
 ·exact h.nx hb.1
 ·exact h.el hb.1 hb.2
theorem Wy.take {n : Nat} {p : PP} (h : Wy n p) (fault : Bool) : Wy n (takeP fault p) := by
 unfold takeP
 split
 ·rename_i hb
  split
  ·split
   ·exact Wy.go (h.way hb _)
   ·exact h
  ·exact h
 ·exact h

/-! ### Parts that are reached -/
inductive Rch (L : List PP) (first : Nat) : Nat → Prop where
 | base : Rch L first first
 | step {n m : Nat} {p : PP} : Rch L first n → L[n]? = some p → m ∈ waysN p → Rch L first m
noncomputable def rchB (L : List PP) (first n : Nat) : Bool := @decide (Rch L first n) (Classical.propDecidable _)
theorem rchB_iff {L : List PP} {first n : Nat} : rchB L first n = true ↔ Rch L first n := by unfold rchB; exact @decide_eq_true_iff _ (Classical.propDecidable _)
noncomputable def rchL (L : List PP) (first : Nat) : List Bool := (List.range L.length).map (rchB L first)
theorem Rch.lt {L : List PP} {first n : Nat} (h : WyL L) (hf : first < L.length) (r : Rch L first n) : n < L.length := by
 induction r with
 | base => exact hf
 | step r hp hm ih => exact (h _ (List.mem_of_getElem? hp)).ways _ hm

/-! ### In order -/
noncomputable def ordTo (L : List PP) (first k : Nat) : List Nat := first :: (List.range k).filter fun n => rchB L first n && n != first
noncomputable def ordL (L : List PP) (first : Nat) : List Nat := ordTo L first L.length
def numL (l : List Nat) (n : Nat) : Nat := if n ∈ l then l.idxOf n else 0
def renP (l : List Nat) (p : PP) : PP :=
 if p.e then { p with next := 0, els := 0 } else if p.cond < 0 then goP p (numL l p.next.toNat) else { p with next := numL l p.next.toNat, els := numL l p.els.toNat }
def zeroP : PP := ⟨[], false, 0, 0, 0, none, 0⟩
noncomputable def inoP (L : List PP) (first : Nat) : List PP := (ordL L first).map fun n => renP (ordL L first) ((L[n]?).getD zeroP)

/-! ### Classes -/
structure Cs where
 rt : Nat → Nat
 hd : List Nat
 fr : List (List Nat)
 td : List Nat
def Cs.ends (s : Cs) (p : PP) : Nat × Nat := (s.rt p.next.toNat, if p.cond < 0 then s.rt p.next.toNat else s.rt p.els.toNat)
def Cs.one (s : Cs) (a b head : Nat) : Cs :=
 ⟨fun x => if s.rt x = a then b else s.rt x, s.hd.set b head, (s.fr.set b ((s.fr[b]?).getD [] ++ (s.fr[a]?).getD [])).set a [], s.td ++ (s.fr[a]?).getD []⟩
def Cs.unite (s : Cs) (a b : Nat) : Cs :=
 if ((s.fr[b]?).getD []).length < ((s.fr[a]?).getD []).length then s.one b a ((s.hd[b]?).getD 0) else s.one a b ((s.hd[b]?).getD 0)
def Cs.look (L : List PP) (s : Cs) (n : Nat) : Cs :=
 match L[n]? with
 | some p => if (s.ends p).1 = (s.ends p).2 ∧ (s.ends p).1 ≠ s.rt n then s.unite (s.rt n) (s.ends p).1 else s
 | none => s
def Cs.pop (s : Cs) : Cs := { s with td := s.td.dropLast }
def Cs.mu (s : Cs) : Nat := ((List.range s.hd.length).filter fun x => s.rt x = x).length * (2 * s.hd.length + 1) + s.td.length
def Cs.loop (L : List PP) (s : Cs) : Cs :=
 match s.td.getLast? with
 | none => s
 | some n => if h : (s.pop.look L n).mu < s.mu then Cs.loop L (s.pop.look L n) else s
termination_by s.mu
def updL (l : List (List Nat)) (m n : Nat) : List (List Nat) := l.set m ((l[m]?).getD [] ++ [n])
def Cs.begS (s : Cs) (n : Nat) (p : PP) : Cs :=
 if p.e = true ∨ 0 < p.ins.length then { s with hd := s.hd.set n n }
 else { s with hd := s.hd.set n n, td := s.td ++ [n], fr := if brP p = true then updL (updL s.fr p.next.toNat n) p.els.toNat n else s.fr }
def Cs.begTo (L : List PP) : Nat → Cs
 | 0 => ⟨id, List.replicate L.length 0, List.replicate L.length [], []⟩
 | k + 1 => match L[k]? with | some p => (Cs.begTo L k).begS k p | none => Cs.begTo L k
def hdOf (s : Cs) (n : Nat) : Nat := (s.hd[s.rt n]?).getD 0
/-- A part goes on at parts that stand for others. -/
def pasP (s : Cs) (p : PP) : PP :=
 if p.e = true then p else if (s.ends p).1 = (s.ends p).2 then goP p ((s.hd[(s.ends p).1]?).getD 0) else { p with next := (s.hd[(s.ends p).1]?).getD 0, els := (s.hd[(s.ends p).2]?).getD 0 }
def endC (L : List PP) : Cs := (Cs.begTo L L.length).loop L
def pasL (L : List PP) : List PP := L.map (pasP (endC L))
def fstL (L : List PP) : Nat := hdOf (endC L) 0

/-! ### Parts behind one another -/
abbrev KF := Int → Option Int
def updK (F : KF) (a : Int) (o : Option Int) : KF := fun x => if x = a then o else F x
def lrnI (F : KF) (x : PI) : KF := if wrP x.op = true then (if x.op = 20 then updK F x.dst (some x.imm) else updK F x.dst none) else F
def lrnL (F : KF) (l : List PI) : KF := l.foldl lrnI F
noncomputable def cntTo (L : List PP) (first k m : Nat) : Nat := (if m = first then 1 else 0) + ((List.range k).map fun n => if rchB L first n = true then (waysN ((L[n]?).getD zeroP)).count m else 0).sum
noncomputable def cntL (L : List PP) (first : Nat) : List Nat := (List.range L.length).map (cntTo L first L.length)
def aloP (L : List PP) (ws : List Nat) (n : Nat) : Option Nat :=
 match L[n]? with
 | some p => if onP p = true ∧ p.next.toNat ≠ n ∧ (ws[n]?).getD 0 ≠ 0 ∧ (ws[p.next.toNat]?).getD 0 = 1 then some p.next.toNat else none
 | none => none
/-- Ways are lost. -/
def losP (L : List PP) (ws : List Nat) (wk : List Nat) : List Nat :=
 match wk.getLast? with
 | none => ws
 | some n =>
  if h : (ws.set n ((ws[n]?).getD 0 - 1)).sum < ws.sum then
   losP L (ws.set n ((ws[n]?).getD 0 - 1)) (if (ws[n]?).getD 0 - 1 = 0 then wk.dropLast ++ waysN ((L[n]?).getD zeroP) else wk.dropLast)
  else ws
termination_by ws.sum
structure Jn where
 ps : List PP
 ws : List Nat
/-- A part is put behind another one, with what is known there. -/
def catP (p q : PP) : PP := { q with ins := p.ins ++ q.ins, ia := none, ic := 0 }
def Jn.put (s : Jn) (F : KF) (k n : Nat) : Jn :=
 match s.ps[k]?, s.ps[n]? with
 | some p, some q =>
  (match F q.cond with
  | some v => if brP q = true then ⟨s.ps.set k (goP (catP p q) (wayP q (v != 0))), losP (s.ps.set k (goP (catP p q) (wayP q (v != 0)))) (s.ws.set n 0) [(wayP q (v == 0)).toNat]⟩ else ⟨s.ps.set k (catP p q), s.ws.set n 0⟩
  | none => ⟨s.ps.set k (catP p q), s.ws.set n 0⟩)
 | _, _ => s
def lenP (s : Jn) (F : KF) (k : Nat) : Jn :=
 match aloP s.ps s.ws k with
 | none => s
 | some n => if h : (s.put (lrnL F ((s.ps[n]?).getD zeroP).ins) k n).ws.sum < s.ws.sum then lenP (s.put (lrnL F ((s.ps[n]?).getD zeroP).ins) k n) (lrnL F ((s.ps[n]?).getD zeroP).ins) k else s
termination_by s.ws.sum
def lngP (s : Jn) (k : Nat) : Jn := lenP s (lrnL (fun _ => none) ((s.ps[k]?).getD zeroP).ins) k
def behB (s : Jn) (k m : Nat) : Bool := (List.range k).any fun n => aloP s.ps s.ws n == some m
def joiTo (s : Jn) : Nat → Jn
 | 0 => s
 | k + 1 => if behB s s.ps.length k = true then joiTo s k else lngP (joiTo s k) k
noncomputable def joiL (L : List PP) (first : Nat) : List PP := (joiTo ⟨L, cntL L first⟩ L.length).ps

/-! ### All of it -/
def tkL (fault : Bool) (L : List PP) : List PP := L.map (takeP fault)
noncomputable def floL (fault : Bool) (L : List PP) : List PP :=
 let L1 := tkL fault L
 inoP (joiL (pasL L1) (fstL L1)) (fstL L1)
noncomputable def floF (fault : Bool) (f : PF) : PF := { zF f with parts := floL fault (f.parts.map zP) }
noncomputable def floC (fault : Bool) (c : PC) : PC := { c with fns := c.fns.map (floF fault) }
end Go.Proofs.Ytphknepblchkdaa.Fl

namespace Go.Proofs.Ytphknepblchkdaa.Fl
open Go.RowKit
open Go.Proofs.Ytphknepblchkdaa.In (zI zP zF zI_zI zP_zP cntS)
set_option linter.unusedVariables false

/-- All but the blocks S, and new ones, is as it was. -/
structure Fs (S : Nat → Prop) (W W' : World) : Prop where
 os : W'.os = W.os
 tape : W'.tape = W.tape
 output : W'.output = W.output
 size : W.heap.size ≤ W'.heap.size
 block : ∀ k, k < W.heap.size → ¬ S k → W'.heap[k]? = W.heap[k]?
theorem Fs.refl (S : Nat → Prop) (W : World) : Fs S W W := ⟨rfl, rfl, rfl, Nat.le_refl _, fun _ _ _ => rfl⟩
theorem Fs.trans {S : Nat → Prop} {A B C : World} (h : Fs S A B) (k : Fs S B C) : Fs S A C := ⟨k.os.trans h.os, k.tape.trans h.tape, k.output.trans h.output, Nat.le_trans h.size k.size, fun j hj hn => (k.block j (Nat.lt_of_lt_of_le hj h.size) hn).trans (h.block j hj hn)⟩
theorem Fs.of_q {S : Nat → Prop} {W W' : World} (q : Q W W') : Fs S W W' := ⟨q.os, q.tape, q.output, q.size, fun k hk _ => q.block k hk⟩
theorem Fs.less {S T : Nat → Prop} {A B : World} (h : Fs S A B) (hs : ∀ k, S k → T k ∨ A.heap.size ≤ k) : Fs T A B := ⟨h.os, h.tape, h.output, h.size, fun k hk hn => h.block k hk (fun q => (hs k q).elim hn (fun e => by omega))⟩
theorem Fs.heap {S : Nat → Prop} {W W' : World} (f : Fs S W W') {k : Nat} {o : Obj} (h : W.heap[k]? = some o) (hn : ¬ S k) : W'.heap[k]? = some o := (f.block k (Array.getElem?_eq_some_iff.1 h).1 hn).trans h
theorem Fs.cell {S : Nat → Prop} {W W' : World} (f : Fs S W W') {q : Addr} {v : Value} (h : W.cell? q = some v) (hn : ¬ S q.block) : W'.cell? q = some v := (World.cell?_of_block (f.block q.block (World.block_lt_of_cell? W _ h) hn)).trans h
theorem Fs.grown {S : Nat → Prop} {A B C : World} (h : Fs S A B) {row : Option Nat} (hg : B.grownBy C row) (hr : ∀ g, row = some g → S g ∨ A.heap.size ≤ g) : Fs S A C :=
 ⟨hg.os.trans h.os, hg.tape.trans h.tape, hg.output.trans h.output, Nat.le_trans h.size hg.size, fun k hk hn => (hg.block k (Nat.lt_of_lt_of_le hk h.size) (fun e => by rcases hr k e.symm with q | q; exact hn q; omega)).trans (h.block k hk hn)⟩
theorem Fs.q0 {S : Nat → Prop} {A B : World} (h : Fs S A B) (hs : ∀ k, S k → A.heap.size ≤ k) : Q A B := ⟨h.os, h.tape, h.output, h.size, fun k hk => h.block k hk (fun q => by have := hs k q; omega)⟩
theorem row_kp {w w' : World} {base : Nat} {e : TypeId} {size : Nat} {v : Value} {n : Nat} {xs : List Value} (h : w.ownsRow base e size v n xs) (hb : ∀ k, v.ownBlock = some k → w'.heap[k]? = w.heap[k]?) : w'.ownsRow base e size v n xs := by
 refine ⟨h.1, h.2.imp id ?_⟩
 rintro ⟨g, cap, cur, rfl, h1, h2, r⟩
 exact ⟨g, cap, cur, rfl, h1, (hb g rfl).trans h2, r⟩
theorem own_addr {w : World} {base : Nat} {e : TypeId} {size : Nat} {a : Option Addr} {m c n : Nat} {xs : List Value} (h : w.ownsRow base e size (.slice a m c) n xs) {ad : Addr} (ha : a = some ad) : ad = ⟨ad.block, 0, none⟩ ∧ base ≤ ad.block ∧ ad.block < w.heap.size ∧ m = n ∧ m ≤ c ∧ c ≤ maxLen ∧ ∃ cur, w.heap[ad.block]? = some (.cells cur e (0, 0)) ∧ cur.size = c * size ∧ cur.toList.take (n * size) = xs := by
 rcases h.2 with ⟨h1, _⟩ | ⟨g, cap, cur, h1, h2, h3, h4, h5, h6, h7⟩
 ·injection h1 with h1; rw [ha] at h1; cases h1
 ·injection h1 with h1 h8 h9
  rw [ha] at h1
  injection h1 with h1
  subst h1; subst h8; subst h9
  exact ⟨rfl, h2, (Array.getElem?_eq_some_iff.1 h3).1, rfl, h4, h5, cur, h3, h6, h7⟩
theorem own_none {w : World} {base : Nat} {e : TypeId} {size : Nat} {m c n : Nat} {xs : List Value} (h : w.ownsRow base e size (.slice none m c) n xs) : n = 0 ∧ m = 0 ∧ c = 0 := by
 rcases h.2 with ⟨h1, h0⟩ | ⟨g, cap, cur, h1, -⟩
 ·injection h1 with _ h1 h2; exact ⟨h0, h1, h2⟩
 ·injection h1 with h1; cases h1

/-! ### Rows -/
structure Rw where
 a : Option Addr
 n : Nat
 c : Nat
 ty : TypeId
 sz : Nat
 xs : List Value
abbrev Rw.v (r : Rw) : Value := .slice r.a r.n r.c
def Rw.at (w : World) (lo : Nat) (r : Rw) : Prop := w.ownsRow lo r.ty r.sz r.v r.n r.xs
structure Rw.is (r : Rw) (ty : TypeId) (sz n : Nat) (xs : List Value) : Prop where
 ty : r.ty = ty
 sz : r.sz = sz
 n : r.n = n
 xs : r.xs = xs
def upR (R : Nat → Rw) (k : Nat) (r : Rw) : Nat → Rw := fun j => if j = k then r else R j
theorem upR_same (R : Nat → Rw) (k : Nat) (r : Rw) : upR R k r k = r := by simp [upR]
theorem upR_other {R : Nat → Rw} {k j : Nat} {r : Rw} (h : j ≠ k) : upR R k r j = R j := by simp [upR, h]
structure Sep (w : World) (lo : Nat → Nat) (D : Nat → Prop) (R : Nat → Rw) : Prop where
 own : ∀ k, D k → (R k).at w (lo k)
 apart : ∀ k j, D k → D j → k ≠ j → ∀ a b, (R k).a = some a → (R j).a = some b → a.block ≠ b.block
section
variable {w w' : World} {lo : Nat → Nat} {D : Nat → Prop} {R : Nat → Rw} {k g : Nat}
theorem at_keep {r : Rw} {l : Nat} (h : r.at w l) (hb : ∀ a, r.a = some a → w'.heap[a.block]? = w.heap[a.block]?) : r.at w' l := row_kp h fun b hb' => by
 unfold Rw.v at hb'
 cases e : r.a with
 | none => rw [e] at hb'; cases hb'
 | some a => rw [e] at hb'; injection hb' with hb'; subst hb'; exact hb a e
theorem at_lt {r : Rw} {l : Nat} (h : r.at w l) {a : Addr} (e : r.a = some a) : a = ⟨a.block, 0, none⟩ ∧ l ≤ a.block ∧ a.block < w.heap.size := by
 obtain ⟨h1, h2, h3, -⟩ := own_addr h e
 exact ⟨h1, h2, h3⟩
theorem at_ex {r : Rw} {l : Nat} (h : r.at w l) (hn : 0 < r.n) : ∃ g, r.a = some ⟨g, 0, none⟩ ∧ l ≤ g ∧ g < w.heap.size := by
 cases e : r.a with
 | none =>
  unfold Rw.at Rw.v at h
  rw [e] at h
  have := (own_none h).1
  omega
 | some a =>
  obtain ⟨h1, h2, h3⟩ := at_lt h e
  exact ⟨a.block, by rw [← h1], h2, h3⟩
theorem at_cell {r : Rw} {l : Nat} (h : r.at w l) (ha : r.a = some ⟨g, 0, none⟩) {j : Nat} (hj : j < r.n * r.sz) : w.cell? ⟨g, j, none⟩ = r.xs[j]? := by
 unfold Rw.at Rw.v at h
 rw [ha] at h
 exact h.cellAt j hj
theorem at_froz {r : Rw} {l : Nat} (h : r.at w l) (ha : r.a = some ⟨g, 0, none⟩) (j : Nat) : w.frozen? ⟨g, j, none⟩ = false := by
 unfold Rw.at Rw.v at h
 rw [ha] at h
 exact h.frozenAt j
theorem Sep.q (h : Sep w lo D R) (q : Q w w') : Sep w' lo D R := ⟨fun k hk => at_keep (h.own k hk) fun a ha => q.block _ (at_lt (h.own k hk) ha).2.2, h.apart⟩
/-- A row has changed: what else there is stays. -/
theorem Sep.chg (h : Sep w lo D R) (hk : D k) {r : Rw} {row : Option Nat} (hg : w.grownBy w' row) (hrow : ∀ b, row = some b → ∃ a, (R k).a = some a ∧ a.block = b) (hr : r.at w' (lo k)) (hat : ∀ b, r.a = some b → (∃ a, (R k).a = some a ∧ a.block = b.block) ∨ w.heap.size ≤ b.block) : Sep w' lo D (upR R k r) := by
 refine ⟨fun j hj => ?_, fun i j hi hj hne a b ha hb => ?_⟩
 ·by_cases e : j = k
  ·subst e; rw [upR_same]; exact hr
  ·rw [upR_other e]
   refine at_keep (h.own j hj) fun a ha => hg.block _ (at_lt (h.own j hj) ha).2.2 fun q => ?_
   obtain ⟨a2, h1, h2⟩ := hrow _ q.symm
   exact h.apart j k hj hk e a a2 ha h1 h2.symm
 ·have one : ∀ j, D j → j ≠ k → ∀ a b, (R j).a = some a → r.a = some b → a.block ≠ b.block := fun j hj e a b ha hb => by
   rcases hat b hb with ⟨a2, h1, h2⟩ | q
   ·rw [← h2]; exact h.apart j k hj hk e a a2 ha h1
   ·have := (at_lt (h.own j hj) ha).2.2; omega
  by_cases e1 : i = k
  ·subst e1
   rw [upR_same] at ha
   rw [upR_other (fun q => hne q.symm)] at hb
   exact fun q => one j hj (fun q => hne q.symm) b a hb ha q.symm
  ·rw [upR_other e1] at ha
   by_cases e2 : j = k
   ·subst e2
    rw [upR_same] at hb
    exact one i hi e1 a b ha hb
   ·rw [upR_other e2] at hb
    exact h.apart i j hi hj hne a b ha hb
/-- A cell of a row is written. -/
theorem Sep.set (h : Sep w lo D R) (hk : D k) (ha : (R k).a = some ⟨g, 0, none⟩) (j : Nat) (u : Value) : Sep (w.setCell ⟨g, j, none⟩ u) lo D (upR R k { R k with xs := (R k).xs.set j u }) := by
 have ho := h.own k hk
 unfold Rw.at Rw.v at ho
 rw [ha] at ho
 obtain ⟨h1, h2⟩ := ho.stored j u
 refine h.chg hk h2 (fun b hb => ⟨_, ha, by injection hb⟩) ?_ (fun b hb => .inl ⟨b, hb, rfl⟩)
 show World.ownsRow _ _ _ _ (.slice (R k).a (R k).n (R k).c) _ _
 rw [ha]
 exact h1
/-- A row has grown. -/
theorem Sep.grow (h : Sep w lo D R) (hk : D k) {n c : Nat} {xs : List Value} (hg : w.grownBy w' (R k).v.ownBlock) (hr : w'.ownsRow (lo k) (R k).ty (R k).sz (.slice (some ⟨g, 0, none⟩) n c) n xs) (hat : (R k).v.ownBlock = some g ∨ w.heap.size ≤ g) : Sep w' lo D (upR R k ⟨some ⟨g, 0, none⟩, n, c, (R k).ty, (R k).sz, xs⟩) := by
 have ex : ∀ b, (R k).v.ownBlock = some b → ∃ a, (R k).a = some a ∧ a.block = b := fun b hb => by
  unfold Rw.v at hb
  cases e : (R k).a with
  | none => rw [e] at hb; cases hb
  | some a => rw [e] at hb; injection hb with hb; exact ⟨a, rfl, hb⟩
 refine h.chg hk hg ex hr fun b hb => ?_
 injection hb with hb
 subst hb
 exact hat.imp (fun q => ex g q) id
/-- A row is cut short: only its header is another. -/
theorem Sep.cut (h : Sep w lo D R) (hk : D k) {m : Nat} (hm : m ≤ (R k).n) (hn : (R k).a ≠ none) : Sep w lo D (upR R k { R k with n := m, xs := (R k).xs.take (m * (R k).sz) }) := by
 refine h.chg hk (row := none) ⟨rfl, rfl, rfl, Nat.le_refl _, fun _ _ _ => rfl⟩ (fun b hb => by cases hb) ?_ (fun b hb => .inl ⟨b, hb, rfl⟩)
 have ho := h.own k hk
 obtain ⟨a, ea⟩ := Option.ne_none_iff_exists'.1 hn
 obtain ⟨e1, e2, e3, e4, e5, e6, cur, e7, e8, e9⟩ := own_addr ho ea
 have hmul := Nat.mul_le_mul_right (R k).sz hm
 refine ⟨?_, .inr ⟨a.block, (R k).c, cur, ?_, e2, e7, by dsimp only; omega, e6, e8, ?_⟩⟩
 ·dsimp only
  rw [List.length_take, ho.1]
  omega
 ·show Value.slice (R k).a m (R k).c = _
  rw [ea, ← e1]
 ·dsimp only
  rw [← e9, List.take_take, Nat.min_eq_left hmul]
/-- A new row. -/
theorem Sep.new (h : Sep w lo D R) {r : Rw} (hk : ¬ D k) (hg : w.grownBy w' none) (hr : r.at w' (lo k)) (hat : ∀ b, r.a = some b → w.heap.size ≤ b.block) : Sep w' lo (fun j => D j ∨ j = k) (upR R k r) := by
 have old : ∀ j, D j → (R j).at w' (lo j) := fun j hj => at_keep (h.own j hj) fun a ha => hg.block _ (at_lt (h.own j hj) ha).2.2 (fun q => by cases q)
 have one : ∀ j, D j → ∀ a b, (R j).a = some a → r.a = some b → a.block ≠ b.block := fun j hj a b ha hb => by
  have h1 := (at_lt (h.own j hj) ha).2.2
  have h2 := hat b hb
  omega
 refine ⟨fun j hj => ?_, fun i j hi hj hne a b ha hb => ?_⟩
 ·by_cases e : j = k
  ·subst e; rw [upR_same]; exact hr
  ·rw [upR_other e]
   exact old j (hj.resolve_right e)
 ·by_cases e1 : i = k
  ·subst e1
   have e2 : j ≠ i := fun q => hne q.symm
   rw [upR_same] at ha
   rw [upR_other e2] at hb
   exact fun q => one j (hj.resolve_right e2) b a hb ha q.symm
  ·rw [upR_other e1] at ha
   by_cases e2 : j = k
   ·subst e2
    rw [upR_same] at hb
    exact one i (hi.resolve_right e1) a b ha hb
   ·rw [upR_other e2] at hb
    exact h.apart i j (hi.resolve_right e1) (hj.resolve_right e2) hne a b ha hb
theorem Sep.sub (h : Sep w lo D R) {D' : Nat → Prop} (hs : ∀ k, D' k → D k) : Sep w lo D' R := ⟨fun k hk => h.own k (hs k hk), fun i j hi hj => h.apart i j (hs i hi) (hs j hj)⟩
theorem Sep.congr {D' : Nat → Prop} {R' : Nat → Rw} (h : Sep w lo D R) (hd : ∀ k, D' k → D k) (hr : ∀ k, D' k → R' k = R k) : Sep w lo D' R' :=
 ⟨fun k hk => by rw [hr k hk]; exact h.own k (hd k hk), fun i j hi hj hne a b ha hb => by rw [hr i hi] at ha; rw [hr j hj] at hb; exact h.apart i j (hd i hi) (hd j hj) hne a b ha hb⟩
end

/-! ### Numbers -/
def nv (n : Nat) : Value := .int .i64 (n : Int)
def NV (l : List Nat) : List Value := l.map nv
theorem NV_len (l : List Nat) : (NV l).length = l.length := by simp [NV]
theorem NV_get {l : List Nat} {j n : Nat} (h : l[j]? = some n) : (NV l)[j]? = some (.int .i64 (n : Int)) := by simp [NV, h, nv]
theorem NV_set (l : List Nat) (j n : Nat) : (NV l).set j (.int .i64 (n : Int)) = NV (l.set j n) := by simp [NV, List.map_set, nv]
theorem NV_app (l m : List Nat) : NV (l ++ m) = NV l ++ NV m := by simp [NV]
theorem NV_take (l : List Nat) (k : Nat) : (NV l).take k = NV (l.take k) := by simp [NV, List.map_take]
theorem NV_rep (n : Nat) : (List.replicate n (Value.int .i64 0)) = NV (List.replicate n 0) := by simp [NV, nv]
end Go.Proofs.Ytphknepblchkdaa.Fl

namespace Go.Proofs.Ytphknepblchkdaa.Fl
open Go.RowKit
set_option linter.unusedVariables false

set_option maxRecDepth 100000 in
theorem branches_any (w : World) (b o : Nat) (p : PP) (h : At w b o p.cells) : Calls Try.prog 40 #[.pointer (some ⟨b, o, none⟩)] w fun e w' => e = .returned (.bool (brP p)) ∧ w' = w := by
 obtain ⟨c0, c1, c2, c3, c4⟩ := h.five
 unfold brP
 clear h
 cases he : p.e
 ·rw [he] at c1
  go_enter Try.func40, Try.ntmps40
  go_wp2_with (fail)
  go_ret
  exact ⟨by simp, rfl⟩
 ·rw [he] at c1
  go_enter Try.func40, Try.ntmps40
  go_wp2_with (fail)
  go_ret
  exact ⟨rfl, rfl⟩

set_option maxRecDepth 100000 in
theorem on_any (w : World) (b o : Nat) (p : PP) (h : At w b o p.cells) : Calls Try.prog 66 #[.pointer (some ⟨b, o, none⟩)] w fun e w' => e = .returned (.bool (onP p)) ∧ w' = w := by
 obtain ⟨c0, c1, c2, c3, c4⟩ := h.five
 unfold onP
 clear h
 cases he : p.e
 ·rw [he] at c1
  go_enter Try.func66, Try.ntmps66
  go_wp2_with (fail)
  go_ret
  exact ⟨by simp, rfl⟩
 ·rw [he] at c1
  go_enter Try.func66, Try.ntmps66
  go_wp2_with (fail)
  go_ret
  exact ⟨rfl, rfl⟩

set_option maxRecDepth 100000 in
theorem way_any (w : World) (b o : Nat) (p : PP) (h : At w b o p.cells) (x : Bool) : Calls Try.prog 44 #[.pointer (some ⟨b, o, none⟩), .bool x] w fun e w' => e = .returned (.int .i64 (wayP p x)) ∧ w' = w := by
 obtain ⟨c0, c1, c2, c3, c4⟩ := h.five
 unfold wayP
 clear h
 cases x
 ·go_enter Try.func44, Try.ntmps44
  go_wp2_with (fail)
  go_ret
  exact ⟨rfl, rfl⟩
 ·go_enter Try.func44, Try.ntmps44
  go_wp2_with (fail)
  go_ret
  exact ⟨rfl, rfl⟩

/-- A part goes on at one part alone. -/
abbrev goW (w : World) (b o : Nat) (t : Int) : World := ((w.setCell ⟨b, o + 2, none⟩ (.int .i64 (-1))).setCell ⟨b, o + 3, none⟩ (.int .i64 t)).setCell ⟨b, o + 4, none⟩ (.int .i64 0)
set_option maxRecDepth 100000 in
theorem goOn_any (w : World) (b o : Nat) (p : PP) (h : At w b o p.cells) (hf : ∀ j, w.frozen? ⟨b, j, none⟩ = false) (t : Int) : Calls Try.prog 43 #[.pointer (some ⟨b, o, none⟩), .int .i64 t] w fun e w' => e = .returned (.tuple #[]) ∧ w' = goW w b o t := by
 obtain ⟨c0, c1, c2, c3, c4⟩ := h.five
 have f2 := hf (o + 2)
 have f3 := hf (o + 3)
 have f4 := hf (o + 4)
 clear h hf
 go_enter Try.func43, Try.ntmps43
 go_wp2_with (fail)
 go_end0
 exact ⟨rfl, rfl⟩

/-- Numbers in memory, side by side. -/
def Ns (w : World) (a : Option Addr) (l : List Nat) : Prop := (l = [] ∧ a = none) ∨ (l ≠ [] ∧ ∃ g, a = some ⟨g, 0, none⟩ ∧ ∀ j u, (NV l)[j]? = some u → w.cell? ⟨g, j, none⟩ = some u)
theorem Ns.q {w w' : World} {a : Option Addr} {l : List Nat} (h : Ns w a l) (q : Q w w') : Ns w' a l := by
 rcases h with h | ⟨h1, g, h2, h3⟩
 ·exact .inl h
 ·exact .inr ⟨h1, g, h2, fun j u hj => cell_keep q (h3 j u hj)⟩

end Go.Proofs.Ytphknepblchkdaa.Fl
