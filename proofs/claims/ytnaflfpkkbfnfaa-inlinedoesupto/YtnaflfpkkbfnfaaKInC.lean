/-
  What inlining makes of a function, as plain functions of the function and the bodies: no program in sight; no conditions but those that each fact bears.
  A function in which calls are done, as it lies in memory: its lists, each of its own, and what else stays; facts on worlds; no conditions but those that each fact bears.
  A function in which calls are done: what each write makes of it; facts on worlds; no conditions but those that each fact bears.
-/
import Derived.Test.YtnaflfpkkbfnfaaKIrP
import Derived.Test.YtnaflfpkkbfnfaaKIrN
import Derived.Test.YtnaflfpkkbfnfaaKIrZe
import Derived.Laws.OwnMore
namespace Go.Proofs.Ytnaflfpkkbfnfaa.In
open Go.RowKit
set_option linter.unusedVariables false

/-- Without the places where lists lie. -/
def zI (x : PI) : PI := { x with aa := none, ac := 0 }
def zP (p : PP) : PP := { p with ins := p.ins.map zI, ia := none, ic := 0 }
def zF (f : PF) : PF := { f with parts := f.parts.map zP, sa := none, sc := 0, pa := none, pc := 0 }
theorem zI_zI (x : PI) : zI (zI x) = zI x := rfl
theorem zP_zP (p : PP) : zP (zP p) = zP p := by simp [zP, zI_zI, Function.comp_def]

/-- What is done in the place of a call: a function, and the registers that are to be 0. -/
structure Bd where
  f : PF
  un : List Int

/-- How many calls a function has. -/
def callsL (l : List PI) : Nat := l.countP (fun x => x.op == 32)
def callsP (f : PF) : Nat := (f.parts.map fun p => callsL p.ins).sum
def cntS (l : List PP) : Nat := (l.map fun p => 1 + p.ins.length).sum
theorem cntS_fnN (f : PF) : fnN f = (cntS f.parts : Int) := by
  unfold fnN cntS
  generalize f.parts = l
  induction l with
  | nil => rfl
  | cons p l ih => rw [List.map_cons, List.map_cons, List.sum_cons, List.sum_cons, ih, partN]; omega
def smallP (f : PF) : Bool := callsP f == 0 && (decide (fnN f ≤ 10) && (decide (f.regs ≤ 20) && f.slots.length == 0))
def takesP (f : PF) : Bool := decide (callsP f ≤ 10) && (decide (f.parts.length ≤ 100) && decide (f.regs ≤ 1000))

/-- A function in which calls are done. -/
structure Cl where
  ps : List PP
  regs : Int
  here : Nat
def Cl.put (s : Cl) (i : PI) : Cl := match s.ps[s.here]? with
  | some p => { s with ps := s.ps.set s.here { p with ins := p.ins ++ [i] } }
  | none => s
def Cl.goOn (s : Cl) (e : PP) : Cl := match s.ps[s.here]? with
  | some p => { s with ps := s.ps.set s.here { e with ins := p.ins, ia := none, ic := 0 } }
  | none => s
def Cl.puts (s : Cl) (l : List PI) : Cl := l.foldl Cl.put s
def Cl.at (s : Cl) (n : Nat) : Cl := { s with here := n }

def inReg (base : Int) (i : PI) : PI := ⟨i.op, i.ty, if wrP i.op then base + i.dst else 0, if 0 < rdP i.op then base + i.a else 0, if 1 < rdP i.op then base + i.b else 0, i.imm, [], none, 0⟩
def mvI (d a : Int) : PI := ⟨21, 0, d, a, 0, 0, [], none, 0⟩
def k0I (d : Int) : PI := ⟨20, 0, d, 0, 0, 0, [], none, 0⟩
def movesL (base : Int) : Nat → List Int → List PI
  | _, [] => []
  | n, a :: l => mvI (base + n) a :: movesL base (n + 1) l
def beginL (fault : Bool) (args : List Int) (un : List Int) (base : Int) : List PI := movesL base 0 (if fault then args.reverse else args) ++ un.map fun r => k0I (base + r)
def ansI (x : PI) (p : PP) (base : Int) : PI := mvI x.dst (base + p.cond)
def jmp (n : Int) : PP := ⟨[], false, -1, n, 0, none, 0⟩
def endL (base first : Int) (p : PP) : PP := if p.cond < 0 then jmp (first + p.next) else ⟨[], false, base + p.cond, first + p.next, first + p.els, none, 0⟩
def copyL (base : Int) (p : PP) : List PI := p.ins.map (inReg base)
def zeroPP : PP := ⟨[], false, 0, 0, 0, none, 0⟩

/-- One part of a body is put. -/
def stepB (x : PI) (base : Int) (first len : Nat) (s : Cl) (n : Nat) (p : PP) : Cl :=
  let s1 := (s.at (first + n)).puts (copyL base p)
  if p.e then (s1.put (ansI x p base)).goOn (jmp ((first + len : Nat) : Int)) else s1.goOn (endL base first p)
def partsB (x : PI) (base : Int) (first len : Nat) : Cl → Nat → List PP → Cl
  | s, _, [] => s
  | s, n, p :: l => partsB x base first len (stepB x base first len s n p) (n + 1) l
def begC (x : PI) (b : Bd) (fault : Bool) (s : Cl) : Cl := Cl.puts { s with regs := s.regs + b.f.regs } (beginL fault x.args b.un s.regs)
def longC (x : PI) (b : Bd) (base : Int) (s : Cl) : Cl :=
  let first := s.ps.length
  let s1 := s.goOn (jmp first)
  let s2 : Cl := { s1 with ps := s1.ps ++ List.replicate (b.f.parts.length + 1) zeroPP }
  (partsB x base first b.f.parts.length s2 0 b.f.parts).at (first + b.f.parts.length)
def callP (x : PI) (b : Bd) (fault : Bool) (s : Cl) : Cl := match b.f.parts with
  | [] => s
  | p :: _ => if p.e then ((begC x b fault s).puts (copyL s.regs p)).put (ansI x p s.regs) else longC x b s.regs (begC x b fault s)
def bodyP (bs : List (Option Bd)) (x : PI) : Option Bd := if x.op = 32 then (match bs[x.imm.toNat]? with | some b => b | none => none) else none
def stepI (bs : List (Option Bd)) (fault : Bool) (s : Cl) (x : PI) : Cl := match bodyP bs x with
  | some b => callP x b fault s
  | none => s.put (zI x)
def stepP (bs : List (Option Bd)) (fault : Bool) (s : Cl) (n : Nat) : Cl := match s.ps[n]? with
  | some p => (p.ins.foldl (stepI bs fault) { s with ps := s.ps.set n { p with ins := [] }, here := n }).goOn p
  | none => s
def doneC (bs : List (Option Bd)) (fault : Bool) (f : PF) (n : Nat) : Cl := (List.range n).foldl (stepP bs fault) ⟨f.parts.map zP, f.regs, 0⟩
def doneF (bs : List (Option Bd)) (fault : Bool) (f : PF) : PF := { zF f with parts := (doneC bs fault f f.parts.length).ps, regs := (doneC bs fault f f.parts.length).regs }

/-! ### What stays -/
theorem puts_nil (s : Cl) : s.puts [] = s := rfl
theorem puts_cons (s : Cl) (x : PI) (l : List PI) : s.puts (x :: l) = (s.put x).puts l := rfl
theorem puts_app (s : Cl) (l m : List PI) : s.puts (l ++ m) = (s.puts l).puts m := by unfold Cl.puts; rw [List.foldl_append]
theorem put_here (s : Cl) (i : PI) : (s.put i).here = s.here := by unfold Cl.put; split <;> rfl
theorem put_regs (s : Cl) (i : PI) : (s.put i).regs = s.regs := by unfold Cl.put; split <;> rfl
theorem put_len (s : Cl) (i : PI) : (s.put i).ps.length = s.ps.length := by unfold Cl.put; split <;> simp
theorem goOn_here (s : Cl) (e : PP) : (s.goOn e).here = s.here := by unfold Cl.goOn; split <;> rfl
theorem goOn_regs (s : Cl) (e : PP) : (s.goOn e).regs = s.regs := by unfold Cl.goOn; split <;> rfl
theorem goOn_len (s : Cl) (e : PP) : (s.goOn e).ps.length = s.ps.length := by unfold Cl.goOn; split <;> simp
theorem puts_here (l : List PI) : ∀ s : Cl, (s.puts l).here = s.here := by
  induction l with
  | nil => intro s; rfl
  | cons x l ih => intro s; rw [puts_cons, ih, put_here]
theorem puts_regs (l : List PI) : ∀ s : Cl, (s.puts l).regs = s.regs := by
  induction l with
  | nil => intro s; rfl
  | cons x l ih => intro s; rw [puts_cons, ih, put_regs]
theorem puts_len (l : List PI) : ∀ s : Cl, (s.puts l).ps.length = s.ps.length := by
  induction l with
  | nil => intro s; rfl
  | cons x l ih => intro s; rw [puts_cons, ih, put_len]

theorem cntS_app (l m : List PP) : cntS (l ++ m) = cntS l + cntS m := by simp [cntS]
theorem cntS_set (l : List PP) (k : Nat) (p q : PP) (h : l[k]? = some p) (n : Nat) (hq : q.ins.length ≤ p.ins.length + n) : cntS (l.set k q) ≤ cntS l + n := by
  induction l generalizing k with
  | nil => simp at h
  | cons a l ih =>
    cases k with
    | zero => simp at h; subst h; simp [cntS]; omega
    | succ k => have := ih k (by simpa using h); simp [cntS] at this ⊢; omega
theorem put_cnt (s : Cl) (i : PI) : cntS (s.put i).ps ≤ cntS s.ps + 1 := by
  unfold Cl.put
  split
  · rename_i p hp
    exact cntS_set _ _ p _ hp 1 (by simp)
  · omega
theorem goOn_cnt (s : Cl) (e : PP) : cntS (s.goOn e).ps ≤ cntS s.ps := by
  unfold Cl.goOn
  split
  · rename_i p hp
    exact cntS_set _ _ p _ hp 0 (by simp)
  · omega
theorem puts_cnt (l : List PI) : ∀ s : Cl, cntS (s.puts l).ps ≤ cntS s.ps + l.length := by
  induction l with
  | nil => intro s; rw [puts_nil]; simp
  | cons x l ih => intro s; rw [puts_cons]; have := ih (s.put x); have := put_cnt s x; simp; omega
theorem movesL_len (base : Int) (l : List Int) : ∀ n, (movesL base n l).length = l.length := by
  induction l with
  | nil => intro n; rfl
  | cons x l ih => intro n; simp [movesL, ih]
theorem beginL_len (fault : Bool) (a u : List Int) (base : Int) : (beginL fault a u base).length = a.length + u.length := by
  unfold beginL
  rw [List.length_append, movesL_len, List.length_map]
  cases fault <;> simp
theorem ins_le {l : List PP} {k : Nat} {p : PP} (h : l[k]? = some p) : p.ins.length + 1 ≤ cntS l := by
  induction l generalizing k with
  | nil => simp at h
  | cons a l ih =>
    cases k with
    | zero => simp at h; subst h; simp [cntS]; omega
    | succ k => have := ih (k := k) (by simpa using h); simp [cntS] at this ⊢; omega
theorem len_cnt (l : List PP) : l.length ≤ cntS l := by
  induction l with
  | nil => simp
  | cons a l ih => simp [cntS] at ih ⊢; omega

/-! ### A call's parts -/
section
variable {x : PI} {base : Int} {first len : Nat}
theorem stepB_len (s : Cl) (n : Nat) (p : PP) : (stepB x base first len s n p).ps.length = s.ps.length := by
  unfold stepB
  dsimp only
  split
  · rw [goOn_len, put_len, puts_len]; rfl
  · rw [goOn_len, puts_len]; rfl
theorem stepB_here (s : Cl) (n : Nat) (p : PP) : (stepB x base first len s n p).here = first + n := by
  unfold stepB
  dsimp only
  split
  · rw [goOn_here, put_here, puts_here]; rfl
  · rw [goOn_here, puts_here]; rfl
theorem stepB_regs (s : Cl) (n : Nat) (p : PP) : (stepB x base first len s n p).regs = s.regs := by
  unfold stepB
  dsimp only
  split
  · rw [goOn_regs, put_regs, puts_regs]; rfl
  · rw [goOn_regs, puts_regs]; rfl
theorem stepB_cnt (s : Cl) (n : Nat) (p : PP) : cntS (stepB x base first len s n p).ps ≤ cntS s.ps + (p.ins.length + 1) := by
  have h1 := puts_cnt (copyL base p) (s.at (first + n))
  have h2 : (copyL base p).length = p.ins.length := by simp [copyL]
  have h3 : cntS (s.at (first + n)).ps = cntS s.ps := rfl
  unfold stepB
  dsimp only
  split
  · have h4 := goOn_cnt (((s.at (first + n)).puts (copyL base p)).put (ansI x p base)) (jmp ((first + len : Nat) : Int))
    have h5 := put_cnt ((s.at (first + n)).puts (copyL base p)) (ansI x p base)
    omega
  · have h4 := goOn_cnt ((s.at (first + n)).puts (copyL base p)) (endL base first p)
    omega
theorem partsB_snoc (l : List PP) (p : PP) : ∀ (s : Cl) (n : Nat), partsB x base first len s n (l ++ [p]) = stepB x base first len (partsB x base first len s n l) (n + l.length) p := by
  induction l with
  | nil => intro s n; rfl
  | cons a l ih => intro s n; show partsB x base first len (stepB x base first len s n a) (n + 1) (l ++ [p]) = _; rw [ih]; simp only [List.length_cons]; rw [show n + 1 + l.length = n + (l.length + 1) by omega]; rfl
theorem partsB_len (l : List PP) : ∀ (s : Cl) (n : Nat), (partsB x base first len s n l).ps.length = s.ps.length := by
  induction l with
  | nil => intro s n; rfl
  | cons a l ih => intro s n; show (partsB x base first len _ (n + 1) l).ps.length = _; rw [ih, stepB_len]
theorem partsB_regs (l : List PP) : ∀ (s : Cl) (n : Nat), (partsB x base first len s n l).regs = s.regs := by
  induction l with
  | nil => intro s n; rfl
  | cons a l ih => intro s n; show (partsB x base first len _ (n + 1) l).regs = _; rw [ih, stepB_regs]
theorem partsB_cnt (l : List PP) : ∀ (s : Cl) (n : Nat), cntS (partsB x base first len s n l).ps ≤ cntS s.ps + cntS l := by
  induction l with
  | nil => intro s n; show cntS s.ps ≤ _; omega
  | cons a l ih =>
    intro s n
    have h1 := ih (stepB x base first len s n a) (n + 1)
    have h2 := stepB_cnt (x := x) (base := base) (first := first) (len := len) s n a
    have h3 : cntS (a :: l) = 1 + a.ins.length + cntS l := by simp [cntS]
    show cntS (partsB x base first len (stepB x base first len s n a) (n + 1) l).ps ≤ _
    omega
end
theorem begC_len (x : PI) (b : Bd) (fault : Bool) (s : Cl) : (begC x b fault s).ps.length = s.ps.length := by unfold begC; rw [puts_len]
theorem begC_here (x : PI) (b : Bd) (fault : Bool) (s : Cl) : (begC x b fault s).here = s.here := by unfold begC; rw [puts_here]
theorem begC_regs (x : PI) (b : Bd) (fault : Bool) (s : Cl) : (begC x b fault s).regs = s.regs + b.f.regs := by unfold begC; rw [puts_regs]
theorem begC_cnt (x : PI) (b : Bd) (fault : Bool) (s : Cl) : cntS (begC x b fault s).ps ≤ cntS s.ps + (x.args.length + b.un.length) := by
  unfold begC
  have := puts_cnt (beginL fault x.args b.un s.regs) { s with regs := s.regs + b.f.regs }
  rw [beginL_len] at this
  exact this
theorem longC_len (x : PI) (b : Bd) (base : Int) (s : Cl) : (longC x b base s).ps.length = s.ps.length + (b.f.parts.length + 1) := by
  unfold longC
  show (partsB _ _ _ _ _ _ _).ps.length = _
  rw [partsB_len]
  simp [goOn_len]
theorem longC_here (x : PI) (b : Bd) (base : Int) (s : Cl) : (longC x b base s).here = s.ps.length + b.f.parts.length := rfl
theorem longC_regs (x : PI) (b : Bd) (base : Int) (s : Cl) : (longC x b base s).regs = s.regs := by
  unfold longC
  show (partsB _ _ _ _ _ _ _).regs = _
  rw [partsB_regs]
  exact goOn_regs _ _
theorem cntS_zero (n : Nat) : cntS (List.replicate n zeroPP) = n := by
  induction n with
  | zero => rfl
  | succ n ih => rw [List.replicate_succ]; simp [cntS, zeroPP] at ih ⊢; omega
theorem longC_cnt (x : PI) (b : Bd) (base : Int) (s : Cl) : cntS (longC x b base s).ps ≤ cntS s.ps + (b.f.parts.length + 1 + cntS b.f.parts) := by
  unfold longC
  show cntS (partsB _ _ _ _ _ _ _).ps ≤ _
  refine Nat.le_trans (partsB_cnt _ _ _) ?_
  have h1 := goOn_cnt s (jmp s.ps.length)
  have h2 := cntS_app (s.goOn (jmp s.ps.length)).ps (List.replicate (b.f.parts.length + 1) zeroPP)
  rw [cntS_zero] at h2
  dsimp only
  omega
/-- How much a call adds. -/
theorem callP_grow (x : PI) (b : Bd) (fault : Bool) (s : Cl) : cntS (callP x b fault s).ps ≤ cntS s.ps + (x.args.length + b.un.length + (b.f.parts.length + 2 + cntS b.f.parts)) ∧ s.ps.length ≤ (callP x b fault s).ps.length := by
  unfold callP
  have h0 := begC_cnt x b fault s
  have h9 := begC_len x b fault s
  split
  · exact ⟨by omega, Nat.le_refl _⟩
  · rename_i p l hp
    split
    · have h1 := puts_cnt (copyL s.regs p) (begC x b fault s)
      have h2 := put_cnt ((begC x b fault s).puts (copyL s.regs p)) (ansI x p s.regs)
      have h3 : (copyL s.regs p).length = p.ins.length := by simp [copyL]
      have h4 : p.ins.length + 1 ≤ cntS b.f.parts := ins_le (k := 0) (by rw [hp]; rfl)
      rw [put_len, puts_len]
      omega
    · have h1 := longC_cnt x b s.regs (begC x b fault s)
      have h2 := longC_len x b s.regs (begC x b fault s)
      omega
theorem callP_here (x : PI) (b : Bd) (fault : Bool) (s : Cl) (hh : s.here < s.ps.length) : (callP x b fault s).here < (callP x b fault s).ps.length ∧ ((callP x b fault s).here = s.here ∨ s.ps.length ≤ (callP x b fault s).here) := by
  unfold callP
  split
  · exact ⟨hh, Or.inl rfl⟩
  · rename_i p l hp
    split
    · rw [put_here, puts_here, put_len, puts_len, begC_here, begC_len]
      exact ⟨hh, Or.inl rfl⟩
    · rw [longC_here, longC_len, begC_len]
      exact ⟨by omega, Or.inr (by omega)⟩

end Go.Proofs.Ytnaflfpkkbfnfaa.In

namespace Go.Proofs.Ytnaflfpkkbfnfaa.In
open Go.RowKit
set_option linter.unusedVariables false

/-- All but a function's four cells, the block of its parts, and new ones, is as it was. -/
structure Fk (fb fo Pb : Nat) (W W' : World) : Prop where
  os : W'.os = W.os
  tape : W'.tape = W.tape
  output : W'.output = W.output
  size : W.heap.size ≤ W'.heap.size
  block : ∀ k, k < W.heap.size → k ≠ fb → k ≠ Pb → W'.heap[k]? = W.heap[k]?
  fbc : ∀ j, (j < fo ∨ fo + 4 ≤ j) → W'.cell? ⟨fb, j, none⟩ = W.cell? ⟨fb, j, none⟩
  fbh : ∀ (cs : Array Value) (t : TypeId), W.heap[fb]? = some (.cells cs t (0, 0)) → ∃ cs' : Array Value, W'.heap[fb]? = some (.cells cs' t (0, 0)) ∧ cs'.size = cs.size
section
variable {fb fo Pb : Nat} {A B C : World}
theorem Fk.refl (W : World) : Fk fb fo Pb W W := ⟨rfl, rfl, rfl, Nat.le_refl _, fun _ _ _ _ => rfl, fun _ _ => rfl, fun cs t h => ⟨cs, h, rfl⟩⟩
theorem Fk.q (h : Fk fb fo Pb A B) (q : Q B C) (hb : fb < A.heap.size) : Fk fb fo Pb A C := by
  have e : C.heap[fb]? = B.heap[fb]? := q.block fb (Nat.lt_of_lt_of_le hb h.size)
  exact ⟨q.os.trans h.os, q.tape.trans h.tape, q.output.trans h.output, Nat.le_trans h.size q.size, fun k h1 h2 h3 => (q.block k (Nat.lt_of_lt_of_le h1 h.size)).trans (h.block k h1 h2 h3), fun j hj => (World.cell?_of_block (a := ⟨fb, j, none⟩) e).trans (h.fbc j hj), fun cs t hh => by rw [e]; exact h.fbh cs t hh⟩
/-- A block that is new, or the parts' own, is changed. -/
theorem Fk.ch (h : Fk fb fo Pb A B) (hb : fb < A.heap.size) (os : C.os = B.os) (tape : C.tape = B.tape) (output : C.output = B.output) (size : B.heap.size ≤ C.heap.size) {S : Nat → Prop} (hS : ∀ k, S k → (k = Pb ∨ A.heap.size ≤ k) ∧ k ≠ fb) (block : ∀ k, k < B.heap.size → ¬ S k → C.heap[k]? = B.heap[k]?) : Fk fb fo Pb A C := by
  have e : C.heap[fb]? = B.heap[fb]? := block fb (Nat.lt_of_lt_of_le hb h.size) (fun q => (hS fb q).2 rfl)
  exact ⟨os.trans h.os, tape.trans h.tape, output.trans h.output, Nat.le_trans h.size size, fun k h1 h2 h3 => (block k (Nat.lt_of_lt_of_le h1 h.size) (fun q => by rcases (hS k q).1 with q | q; exact h3 q; omega)).trans (h.block k h1 h2 h3), fun j hj => (World.cell?_of_block (a := ⟨fb, j, none⟩) e).trans (h.fbc j hj), fun cs t hh => by rw [e]; exact h.fbh cs t hh⟩
/-- One of the four cells is written. -/
theorem Fk.setF (h : Fk fb fo Pb A B) {j : Nat} (h1 : fo ≤ j) (h2 : j < fo + 4) (u : Value) : Fk fb fo Pb A (B.setCell ⟨fb, j, none⟩ u) :=
  ⟨h.os, h.tape, h.output, by have := h.size; simpa using this, fun k k1 k2 k3 => (Below.heap_setCell B ⟨fb, j, none⟩ u k k2).trans (h.block k k1 k2 k3), fun i hi => by rw [World.cell?_setCell_other (h := fun e => by injection e with e1 e2; omega)]; exact h.fbc i hi, fun cs t hh => by
    obtain ⟨cs', e1, e2⟩ := h.fbh cs t hh
    exact ⟨_, block_setCell e1 u, by simpa using e2⟩⟩
theorem Fk.cellO (h : Fk fb fo Pb A B) {p : Addr} {v : Value} (hc : A.cell? p = some v) (h1 : p.block ≠ fb) (h2 : p.block ≠ Pb) : B.cell? p = some v := (World.cell?_of_block (h.block p.block (World.block_lt_of_cell? A _ hc) h1 h2)).trans hc
end

/-- All but the blocks S, and new ones, is as it was. -/
structure Fs (S : Nat → Prop) (W W' : World) : Prop where
  os : W'.os = W.os
  tape : W'.tape = W.tape
  output : W'.output = W.output
  size : W.heap.size ≤ W'.heap.size
  block : ∀ k, k < W.heap.size → ¬ S k → W'.heap[k]? = W.heap[k]?
theorem Fs.refl (S : Nat → Prop) (W : World) : Fs S W W := ⟨rfl, rfl, rfl, Nat.le_refl _, fun _ _ _ => rfl⟩
theorem Fs.trans {S : Nat → Prop} {A B C : World} (h : Fs S A B) (k : Fs S B C) : Fs S A C := ⟨k.os.trans h.os, k.tape.trans h.tape, k.output.trans h.output, Nat.le_trans h.size k.size, fun j hj hn => (k.block j (Nat.lt_of_lt_of_le hj h.size) hn).trans (h.block j hj hn)⟩
theorem Fs.of_q {S : Nat → Prop} {W W' : World} (q : Q W W') : Fs S W W' := ⟨q.os, q.tape, q.output, q.size, fun k hk _ => q.block k hk⟩
theorem Fs.less {S T : Nat → Prop} {A B : World} (h : Fs S A B) (hs : ∀ k, S k → T k ∨ A.heap.size ≤ k) : Fs T A B := ⟨h.os, h.tape, h.output, h.size, fun k hk hn => h.block k hk (fun q => (hs k q).elim hn (fun e => by omega))⟩
theorem Fs.heap {S : Nat → Prop} {W W' : World} (f : Fs S W W') {k : Nat} {o : Obj} (h : W.heap[k]? = some o) (hn : ¬ S k) : W'.heap[k]? = some o := (f.block k (Array.getElem?_eq_some_iff.1 h).1 hn).trans h
theorem Fs.cell {S : Nat → Prop} {W W' : World} (f : Fs S W W') {q : Addr} {v : Value} (h : W.cell? q = some v) (hn : ¬ S q.block) : W'.cell? q = some v := (World.cell?_of_block (f.block q.block (World.block_lt_of_cell? W _ h) hn)).trans h
theorem Fk.fs {fb fo Pb : Nat} {A B : World} (h : Fk fb fo Pb A B) {S : Nat → Prop} (h1 : S fb) (h2 : S Pb) : Fs S A B := ⟨h.os, h.tape, h.output, h.size, fun k hk hn => h.block k hk (fun e => hn (by rw [e]; exact h1)) (fun e => hn (by rw [e]; exact h2))⟩

/-- What stands fast while a function's calls are done. -/
structure Cx where
  w0 : World
  lo : Nat
  fb : Nat
  fo : Nat
  Pb : Nat
  F0 : PF
  bod : Value
  fault : Bool
  /-- Blocks besides, and what is in them. -/
  ex : List (Nat × Obj)
  /-- Blocks that may be written elsewhere. -/
  gs : Nat → Prop
structure Cx.ok (X : Cx) : Prop where
  hfb : X.fb < X.w0.heap.size
  hPb : X.Pb < X.w0.heap.size
  ne : X.fb ≠ X.Pb
  lo : X.lo ≤ X.Pb
  pos : X.F0.parts ≠ []
  gfb : X.gs X.fb
  gPb : X.gs X.Pb
abbrev Cx.C (X : Cx) : Nat := X.w0.heap.size
def Cx.Fr (X : Cx) (y : World) : Prop := Fk X.fb X.fo X.Pb X.w0 y
/-- An instruction whose list stays, whatever is written. -/
def XF (X : Cx) (x : PI) : Prop := ∀ y, Fs X.gs X.w0 y → x.ok y ∧ NB X.lo y x.aa x.args.length
theorem XF.fr {X : Cx} {x : PI} (h : XF X x) (hx : X.ok) {y : World} (hy : X.Fr y) : x.ok y ∧ NB X.lo y x.aa x.args.length := h y (Fk.fs hy hx.gfb hx.gPb)
theorem xf_plain (X : Cx) {x : PI} (h : x.args = []) (ha : x.aa = none) (hc : x.ac = 0) (h1 : 0 ≤ x.op ∧ x.op ≤ 255) (h2 : 0 ≤ x.ty ∧ x.ty ≤ 255) (h3 : I64 x.dst) (h4 : I64 x.a) (h5 : I64 x.b) (h6 : I64 x.imm) : XF X x := fun y _ =>
  ⟨⟨h1, h2, h3, h4, h5, h6, by rw [h, ha, hc]; exact sok_none _, by rw [h]; exact Lst.nil⟩, Or.inl (by rw [h]; rfl)⟩
/-- A part whose list is one of its own. -/
def opn (X : Cx) (cur j : Nat) : Prop := j < cur ∨ X.F0.parts.length ≤ j
structure RowI (X : Cx) (w : World) (p : PP) : Prop where
  own : w.ownsRow (X.C + 1) 41 7 (.slice p.ia p.ins.length p.ic) p.ins.length (p.ins.flatMap PI.cells)
  xf : ∀ x ∈ p.ins, XF X x
structure MW (X : Cx) (cur : Nat) (s : Cl) (w : World) (L : List PP) (pa : Option Addr) (pc : Nat) : Prop where
  fk : X.Fr w
  box : w.heap[X.C]? = some (.cells #[.pointer (some ⟨X.fb, X.fo, none⟩), X.bod, .bool X.fault, .int .i64 (s.here : Int)] 84 (0, 0))
  f0 : w.cell? ⟨X.fb, X.fo, none⟩ = some (.int .i64 X.F0.params)
  f1 : w.cell? ⟨X.fb, X.fo + 1, none⟩ = some (.int .i64 s.regs)
  f2 : w.cell? ⟨X.fb, X.fo + 2, none⟩ = some (.slice X.F0.sa X.F0.slots.length X.F0.sc)
  f3 : w.cell? ⟨X.fb, X.fo + 3, none⟩ = some (.slice pa L.length pc)
  fz : ∀ j, w.frozen? ⟨X.fb, j, none⟩ = false
  z : L.map zP = s.ps
  len : X.F0.parts.length ≤ L.length
  prow : w.ownsRow X.lo 39 5 (.slice pa L.length pc) L.length (L.flatMap PP.cells)
  pblk : ∀ a, pa = some a → a.block = X.Pb ∨ X.C < a.block
  old : ∀ j, cur ≤ j → j < X.F0.parts.length → L[j]? = X.F0.parts[j]?
  rows : ∀ j p, L[j]? = some p → opn X cur j → RowI X w p
  dis : ∀ j k p q, j ≠ k → opn X cur j → opn X cur k → L[j]? = some p → L[k]? = some q → ∀ a b, p.ia = some a → q.ia = some b → a.block ≠ b.block
  pdis : ∀ j p, opn X cur j → L[j]? = some p → ∀ a b, pa = some a → p.ia = some b → a.block ≠ b.block
  num : ∀ p ∈ L, I64 p.cond ∧ I64 p.next ∧ I64 p.els
  exs : ∀ e ∈ X.ex, w.heap[e.1]? = some e.2 ∧ X.C < e.1 ∧ (∀ a, pa = some a → a.block ≠ e.1) ∧ ∀ j p a, opn X cur j → L[j]? = some p → p.ia = some a → a.block ≠ e.1
def CW (X : Cx) (cur : Nat) (s : Cl) (w : World) : Prop := ∃ L pa pc, MW X cur s w L pa pc

/-! ### Rows -/
theorem row_kp {w w' : World} {base : Nat} {e : TypeId} {size : Nat} {v : Value} {n : Nat} {xs : List Value} (h : w.ownsRow base e size v n xs) (hb : ∀ k, v.ownBlock = some k → w'.heap[k]? = w.heap[k]?) : w'.ownsRow base e size v n xs := by
  refine ⟨h.1, h.2.imp id ?_⟩
  rintro ⟨g, cap, cur, rfl, h1, h2, r⟩
  exact ⟨g, cap, cur, rfl, h1, (hb g rfl).trans h2, r⟩
theorem own_addr {w : World} {base : Nat} {e : TypeId} {size : Nat} {a : Option Addr} {m c n : Nat} {xs : List Value} (h : w.ownsRow base e size (.slice a m c) n xs) {ad : Addr} (ha : a = some ad) : ad = ⟨ad.block, 0, none⟩ ∧ base ≤ ad.block ∧ ad.block < w.heap.size ∧ m = n ∧ m ≤ c ∧ c ≤ maxLen ∧ ∃ cur, w.heap[ad.block]? = some (.cells cur e (0, 0)) ∧ cur.size = c * size ∧ cur.toList.take (n * size) = xs := by
  rcases h.2 with ⟨h1, _⟩ | ⟨g, cap, cur, h1, h2, h3, h4, h5, h6, h7⟩
  · injection h1 with h1; rw [ha] at h1; cases h1
  · injection h1 with h1 h8 h9
    rw [ha] at h1
    injection h1 with h1
    subst h1; subst h8; subst h9
    exact ⟨rfl, h2, (Array.getElem?_eq_some_iff.1 h3).1, rfl, h4, h5, cur, h3, h6, h7⟩
theorem own_none {w : World} {base : Nat} {e : TypeId} {size : Nat} {m c n : Nat} {xs : List Value} (h : w.ownsRow base e size (.slice none m c) n xs) : n = 0 ∧ m = 0 ∧ c = 0 := by
  rcases h.2 with ⟨h1, h0⟩ | ⟨g, cap, cur, h1, -⟩
  · injection h1 with _ h1 h2; exact ⟨h0, h1, h2⟩
  · injection h1 with h1; cases h1

section
variable {X : Cx} {cur : Nat} {s : Cl} {w w' : World} {L : List PP} {pa : Option Addr} {pc : Nat}
theorem RowI.kp {p : PP} (h : RowI X w p) (hb : ∀ a, p.ia = some a → w'.heap[a.block]? = w.heap[a.block]?) : RowI X w' p := ⟨row_kp h.own (fun k hk => by
  cases e : p.ia with
  | none => rw [e] at hk; cases hk
  | some a => rw [e] at hk; injection hk with hk; subst hk; exact hb a e), h.xf⟩
theorem RowI.ge {p : PP} (h : RowI X w p) {a : Addr} (e : p.ia = some a) : X.C < a.block ∧ a.block < w.heap.size := by
  obtain ⟨-, h1, h2, -⟩ := own_addr h.own e
  exact ⟨h1, h2⟩
theorem MW.par (h : MW X cur s w L pa pc) (hx : X.ok) : ∃ P, pa = some ⟨P, 0, none⟩ ∧ (P = X.Pb ∨ X.C < P) ∧ P ≠ X.fb ∧ P < w.heap.size ∧ X.lo ≤ P := by
  have hl : L.length ≠ 0 := fun e => hx.pos (List.eq_nil_of_length_eq_zero (by have := h.len; omega))
  cases e : pa with
  | none => have := h.prow; rw [e] at this; exact absurd (own_none this).1 hl
  | some a =>
    obtain ⟨h1, h2, h3, -⟩ := own_addr h.prow e
    have h4 := h.pblk a e
    refine ⟨a.block, by rw [← h1], h4, fun q => ?_, h3, h2⟩
    have := hx.ne
    have := hx.hfb
    unfold Cx.C at h4
    rcases h4 with h4 | h4 <;> omega
theorem MW.q (h : MW X cur s w L pa pc) (hx : X.ok) (q : Q w w') : MW X cur s w' L pa pc := by
  have hf : X.fb < w.heap.size := Nat.lt_of_lt_of_le hx.hfb h.fk.size
  have ef : w'.heap[X.fb]? = w.heap[X.fb]? := q.block _ hf
  refine ⟨Fk.q h.fk q hx.hfb, heap_keep q h.box, cell_keep q h.f0, cell_keep q h.f1, cell_keep q h.f2, cell_keep q h.f3, fun j => (World.frozen?_of_block (a := ⟨X.fb, j, none⟩) ef).trans (h.fz j), h.z, h.len, row_kp h.prow (fun k hk => ?_), h.pblk, h.old, fun j p hp ho => (h.rows j p hp ho).kp (fun a ha => q.block _ ((h.rows j p hp ho).ge ha).2), h.dis, h.pdis, h.num, fun e he => ⟨heap_keep q (h.exs e he).1, (h.exs e he).2⟩⟩
  exact q.block k (h.prow.lt k hk).2
theorem CW.q (h : CW X cur s w) (hx : X.ok) (q : Q w w') : CW X cur s w' := by
  obtain ⟨L, pa, pc, h⟩ := h
  exact ⟨L, pa, pc, h.q hx q⟩

/-- A part is another: its five cells are written, and its list may have grown. -/
theorem MW.chg (h : MW X cur s w L pa pc) (hx : X.ok) {k : Nat} {p p' : PP} (hk : L[k]? = some p) {cur' : Nat} (hc1 : cur ≤ cur') (hc2 : ∀ j, j ≠ k → opn X cur' j → opn X cur j) (ho : opn X cur' k)
    {P : Nat} (hP : pa = some ⟨P, 0, none⟩) {row : Option Nat} (hrow : ∀ b, row = some b → opn X cur k ∧ ∃ a, p.ia = some a ∧ a.block = b)
    (os : w'.os = w.os) (tape : w'.tape = w.tape) (output : w'.output = w.output) (size : w.heap.size ≤ w'.heap.size) (block : ∀ b, b < w.heap.size → b ≠ P → row ≠ some b → w'.heap[b]? = w.heap[b]?)
    (hpr : w'.ownsRow X.lo 39 5 (.slice pa L.length pc) L.length ((L.set k p').flatMap PP.cells)) (hri : RowI X w' p') (hbl : ∀ a, p'.ia = some a → row = some a.block ∨ w.heap.size ≤ a.block ∨ (opn X cur k ∧ p.ia = some a)) (hn : I64 p'.cond ∧ I64 p'.next ∧ I64 p'.els) :
    MW X cur' { s with ps := s.ps.set k (zP p') } w' (L.set k p') pa pc := by
  obtain ⟨P', hP', hPb, hPf, hPs, hPlo⟩ := h.par hx
  rw [hP] at hP'
  injection hP' with hP'
  injection hP' with hP'
  subst hP'
  have hf : X.fb < w.heap.size := Nat.lt_of_lt_of_le hx.hfb h.fk.size
  have hCl : X.C < w.heap.size := (Array.getElem?_eq_some_iff.1 h.box).1
  have rge : ∀ b, row = some b → X.C < b ∧ b < w.heap.size := fun b hb => by
    obtain ⟨h1, a, h2, h3⟩ := hrow b hb
    have := (h.rows k p hk h1).ge h2
    rw [h3] at this
    exact this
  have nf : w'.heap[X.fb]? = w.heap[X.fb]? := block _ hf (fun e => hPf e.symm) (fun e => by have := (rge _ e).1; have := hx.hfb; show False; unfold Cx.C at *; omega)
  have nC : w'.heap[X.C]? = w.heap[X.C]? := block _ hCl (fun e => by rcases hPb with q | q <;> (have := hx.hPb; unfold Cx.C at *; omega)) (fun e => by have := (rge _ e).1; omega)
  have cf : ∀ j v, w.cell? ⟨X.fb, j, none⟩ = some v → w'.cell? ⟨X.fb, j, none⟩ = some v := fun j v hv => (World.cell?_of_block (a := ⟨X.fb, j, none⟩) nf).trans hv
  have hkl := (List.getElem?_eq_some_iff.1 hk).1
  have get : ∀ j q, (L.set k p')[j]? = some q → (j = k ∧ q = p') ∨ (j ≠ k ∧ L[j]? = some q) := fun j q hq => by
    by_cases e : j = k
    · subst e
      rw [List.getElem?_set_self hkl] at hq
      injection hq with hq
      exact Or.inl ⟨rfl, hq.symm⟩
    · rw [List.getElem?_set_ne (fun q => e q.symm)] at hq
      exact Or.inr ⟨e, hq⟩
  refine ⟨Fk.ch h.fk hx.hfb os tape output size (S := fun b => b = P ∨ row = some b) (fun b hb => ?_) (fun b h1 h2 => block b h1 (fun e => h2 (Or.inl e)) (fun e => h2 (Or.inr e))), nC.trans h.box, cf _ _ h.f0, cf _ _ h.f1, cf _ _ h.f2, by rw [List.length_set]; exact cf _ _ h.f3, fun j => (World.frozen?_of_block (a := ⟨X.fb, j, none⟩) nf).trans (h.fz j), by rw [List.map_set, h.z], by rw [List.length_set]; exact h.len, by rw [List.length_set]; exact hpr, h.pblk, fun j h1 h2 => ?_, fun j q hq hj => ?_, fun j j2 q q2 hne hj hj2 hq hq2 a b ha hb => ?_, fun j q hj hq a b ha hb => ?_, fun q hq => ?_, fun e he => ?_⟩
  · rcases hb with rfl | hb
    · exact ⟨hPb.imp id (fun q => by unfold Cx.C at q; omega), hPf⟩
    · have := rge b hb
      have := hx.hfb
      unfold Cx.C at *
      exact ⟨Or.inr (by omega), by omega⟩
  · rw [List.getElem?_set_ne (fun e => by subst e; rcases ho with q | q <;> omega)]
    exact h.old j (by omega) h2
  · rcases get j q hq with ⟨-, rfl⟩ | ⟨e1, e2⟩
    · exact hri
    · have hj' := hc2 j e1 hj
      have hr := h.rows j q e2 hj'
      refine hr.kp (fun a ha => block _ (hr.ge ha).2 (fun e => h.pdis j q hj' e2 _ a hP ha e.symm) (fun e => ?_))
      obtain ⟨h1, a2, h2, h3⟩ := hrow _ e
      exact h.dis j k q p e1 hj' h1 e2 hk a a2 ha h2 h3.symm
  · have one : ∀ j q a, j ≠ k → opn X cur' j → L[j]? = some q → q.ia = some a → ∀ b, p'.ia = some b → a.block ≠ b.block := fun j q a e1 hj e2 ha b hb e => by
      have hj' := hc2 j e1 hj
      rcases hbl b hb with r | r | ⟨r1, r2⟩
      · obtain ⟨h1, a2, h2, h3⟩ := hrow _ r
        exact h.dis j k q p e1 hj' h1 e2 hk a a2 ha h2 (by rw [h3]; exact e)
      · have := ((h.rows j q e2 hj').ge ha).2
        omega
      · exact h.dis j k q p e1 hj' r1 e2 hk a b ha r2 e
    rcases get j q hq with ⟨rfl, rfl⟩ | ⟨e1, e2⟩
    · rcases get j2 q2 hq2 with ⟨rfl, rfl⟩ | ⟨e3, e4⟩
      · exact absurd rfl hne
      · exact fun e => one j2 q2 b e3 hj2 e4 hb a ha e.symm
    · rcases get j2 q2 hq2 with ⟨rfl, rfl⟩ | ⟨e3, e4⟩
      · exact one j q a e1 hj e2 ha b hb
      · exact h.dis j j2 q q2 hne (hc2 j e1 hj) (hc2 j2 e3 hj2) e2 e4 a b ha hb
  · rcases get j q hq with ⟨rfl, rfl⟩ | ⟨e1, e2⟩
    · rcases hbl b hb with r | r | ⟨r1, r2⟩
      · obtain ⟨h1, a2, h2, h3⟩ := hrow _ r
        have := h.pdis j p h1 hk a a2 ha h2
        rw [h3] at this
        exact this
      · rw [hP] at ha
        injection ha with ha
        subst ha
        intro e
        have : P = b.block := e
        omega
      · exact h.pdis j p r1 hk a b ha r2
    · exact h.pdis j q (hc2 j e1 hj) e2 a b ha hb
  · obtain ⟨j, hj⟩ := List.mem_iff_getElem?.1 hq
    rcases get j q hj with ⟨-, rfl⟩ | ⟨-, e2⟩
    · exact hn
    · exact h.num q (List.mem_of_getElem? e2)
  · obtain ⟨x1, x2, x3, x4⟩ := h.exs e he
    have hel : e.1 < w.heap.size := (Array.getElem?_eq_some_iff.1 x1).1
    have hre : row ≠ some e.1 := fun q => by
      obtain ⟨h1, a, h2, h3⟩ := hrow _ q
      exact x4 k p a h1 hk h2 h3
    refine ⟨(block _ hel (fun q => x3 _ hP q.symm) hre).trans x1, x2, x3, fun j q a hj hq ha => ?_⟩
    rcases get j q hq with ⟨rfl, rfl⟩ | ⟨e1, e2⟩
    · rcases hbl a ha with r | r | ⟨r1, r2⟩
      · exact fun q => hre (by rw [r, q])
      · omega
      · exact x4 j p a r1 hk r2
    · exact x4 j q a (hc2 j e1 hj) e2 ha
end

end Go.Proofs.Ytnaflfpkkbfnfaa.In

namespace Go.Proofs.Ytnaflfpkkbfnfaa.In
open Go.RowKit
set_option linter.unusedVariables false

section
variable {X : Cx} {cur : Nat} {s : Cl} {w w1 : World} {L : List PP} {pa : Option Addr} {pc : Nat}
theorem MW.at_z (h : MW X cur s w L pa pc) {k : Nat} {p : PP} (hk : L[k]? = some p) : s.ps[k]? = some (zP p) := by rw [← h.z]; simp [hk]
theorem MW.get (h : MW X cur s w L pa pc) {k : Nat} (hk : k < s.ps.length) : ∃ p, L[k]? = some p := by
  have : s.ps.length = L.length := by rw [← h.z]; simp
  exact get_of_lt (by omega)
theorem row_head {w : World} {P n c base : Nat} {L : List PP} (h : w.ownsRow base 39 5 (.slice (some ⟨P, 0, none⟩) n c) n (L.flatMap PP.cells)) {k : Nat} {p : PP} (hk : L[k]? = some p) (hn : n = L.length) : At w P (k * 5) p.cells ∧ ∀ j, w.frozen? ⟨P, j, none⟩ = false := by
  refine ⟨fun j hj => ?_, fun j => h.frozenAt j⟩
  have hj5 : j < 5 := hj
  have hkl := (List.getElem?_eq_some_iff.1 hk).1
  rw [h.cellAt (k * 5 + j) (by have := Nat.mul_le_mul_right 5 (show k + 1 ≤ n by omega); omega), flat_at PP.cells 5 PP.len L k p j hk hj5]
/-- Where a part's cells lie. -/
theorem MW.cells (h : MW X cur s w L pa pc) {P : Nat} (hP : pa = some ⟨P, 0, none⟩) {k : Nat} {p : PP} (hk : L[k]? = some p) : At w P (k * 5) p.cells ∧ ∀ j, w.frozen? ⟨P, j, none⟩ = false := by
  have := h.prow
  rw [hP] at this
  exact row_head this hk rfl

/-- An instruction was appended to a part's list: its slice is written. -/
theorem MW.put (h : MW X cur s w L pa pc) (hx : X.ok) {P : Nat} (hP : pa = some ⟨P, 0, none⟩) {p : PP} (hk : L[s.here]? = some p) (ho : opn X cur s.here) {i : PI} (hi : XF X i) {g cap : Nat}
    (hg : w.grownBy w1 (Value.slice p.ia p.ins.length p.ic).ownBlock) (hr : w1.ownsRow (X.C + 1) 41 7 (.slice (some ⟨g, 0, none⟩) (p.ins.length + 1) cap) (p.ins.length + 1) (p.ins.flatMap PI.cells ++ i.cells)) (hat : (Value.slice p.ia p.ins.length p.ic).ownBlock = some g ∨ w.heap.size ≤ g) :
    (w1.cell? ⟨P, s.here * 5, none⟩ = some (.slice p.ia p.ins.length p.ic) ∧ w1.frozen? ⟨P, s.here * 5, none⟩ = false) ∧ CW X cur (s.put (zI i)) (w1.setCell ⟨P, s.here * 5, none⟩ (.slice (some ⟨g, 0, none⟩) (p.ins.length + 1) cap)) := by
  obtain ⟨P', hP', hPb, hPf, hPs, hPlo⟩ := h.par hx
  rw [hP] at hP'
  injection hP' with hP'
  injection hP' with hP'
  subst hP'
  obtain ⟨hc, hz⟩ := h.cells hP hk
  have hob : ∀ b, (Value.slice p.ia p.ins.length p.ic).ownBlock = some b → ∃ a, p.ia = some a ∧ a.block = b := fun b hb => by
    cases e : p.ia with
    | none => rw [e] at hb; cases hb
    | some a => rw [e] at hb; injection hb with hb; exact ⟨a, rfl, hb⟩
  have hPr : some P ≠ (Value.slice p.ia p.ins.length p.ic).ownBlock := fun e => by
    obtain ⟨a, h1, h2⟩ := hob P e.symm
    exact h.pdis _ p ho hk _ a hP h1 h2.symm
  have e1 : w1.heap[P]? = w.heap[P]? := hg.block P hPs hPr
  have hPg : P ≠ g := fun e => by
    subst e
    rcases hat with q | q
    · exact hPr q.symm
    · omega
  have hpr1 : w1.ownsRow X.lo 39 5 (.slice (some ⟨P, 0, none⟩) L.length pc) L.length (L.flatMap PP.cells) := by
    have := h.prow
    rw [hP] at this
    exact row_kp this (fun k hk => by injection hk with hk; subst hk; exact e1)
  let p' : PP := { p with ins := p.ins ++ [i], ia := some ⟨g, 0, none⟩, ic := cap }
  have hfl : (L.set s.here p').flatMap PP.cells = (L.flatMap PP.cells).set (s.here * 5 + 0) (.slice (some ⟨g, 0, none⟩) (p.ins.length + 1) cap) := flat_set PP.cells 5 PP.len L s.here p p' 0 _ hk (by omega) (by simp [PP.cells, p'])
  have hm := h.chg hx (w' := w1.setCell ⟨P, s.here * 5, none⟩ (.slice (some ⟨g, 0, none⟩) (p.ins.length + 1) cap)) hk (p' := p') (Nat.le_refl cur) (fun j _ q => q) ho hP (row := (Value.slice p.ia p.ins.length p.ic).ownBlock) (fun b hb => ⟨ho, hob b hb⟩) hg.os hg.tape hg.output (by have := hg.size; simpa using this)
    (fun b h1 h2 h3 => (Below.heap_setCell w1 ⟨P, s.here * 5, none⟩ _ b h2).trans (hg.block b h1 (fun e => h3 e.symm))) ?_ ?_ (fun a ha => ?_) (h.num p (List.mem_of_getElem? hk))
  · refine ⟨⟨(World.cell?_of_block (a := ⟨P, s.here * 5, none⟩) e1).trans (hc.cell 0 _ rfl), (World.frozen?_of_block (a := ⟨P, s.here * 5, none⟩) e1).trans (hz _)⟩, L.set s.here p', pa, pc, ?_⟩
    have e2 : s.put (zI i) = { s with ps := s.ps.set s.here (zP p') } := by
      unfold Cl.put
      rw [h.at_z hk]
      simp [zP, p']
    rw [e2]
    exact hm
  · rw [hP, hfl]
    exact (hpr1.stored (s.here * 5 + 0) _).1
  · refine ⟨?_, fun x hx' => ?_⟩
    · refine row_kp (w := w1) ?_ (fun b hb => Below.heap_setCell w1 ⟨P, s.here * 5, none⟩ _ b (fun e => hPg ?_))
      · show w1.ownsRow (X.C + 1) _ 7 (.slice (some ⟨g, 0, none⟩) (p.ins ++ [i]).length cap) (p.ins ++ [i]).length ((p.ins ++ [i]).flatMap PI.cells)
        rw [List.length_append, List.flatMap_append, List.flatMap_cons, List.flatMap_nil, List.append_nil]
        exact hr
      · have hb' : some g = some b := hb
        injection hb' with hb'
        rw [hb']
        exact e.symm
    · rcases List.mem_append.1 hx' with q | q
      · exact (h.rows _ p hk ho).xf x q
      · simp at q; subst q; exact hi
  · injection ha with ha
    subst ha
    exact hat.imp id (fun q => Or.inl q)

/-- Another end is written behind a part's instructions. -/
abbrev st5 (w : World) (P o : Nat) (a b c d e : Value) : World := ((((w.setCell ⟨P, o, none⟩ a).setCell ⟨P, o + 1, none⟩ b).setCell ⟨P, o + 2, none⟩ c).setCell ⟨P, o + 3, none⟩ d).setCell ⟨P, o + 4, none⟩ e
theorem sc_os (x : World) (p : Addr) (u : Value) : (x.setCell p u).os = x.os := rfl
theorem sc_tape (x : World) (p : Addr) (u : Value) : (x.setCell p u).tape = x.tape := rfl
theorem sc_output (x : World) (p : Addr) (u : Value) : (x.setCell p u).output = x.output := rfl
theorem st5_same (w : World) (P o : Nat) (a b c d e : Value) : (st5 w P o a b c d e).os = w.os ∧ (st5 w P o a b c d e).tape = w.tape ∧ (st5 w P o a b c d e).output = w.output ∧ (st5 w P o a b c d e).heap.size = w.heap.size := by
  unfold st5
  refine ⟨?_, ?_, ?_, by simp only [World.size_setCell]⟩
  · rw [sc_os, sc_os, sc_os, sc_os, sc_os]
  · rw [sc_tape, sc_tape, sc_tape, sc_tape, sc_tape]
  · rw [sc_output, sc_output, sc_output, sc_output, sc_output]
theorem st5_block (w : World) (P o : Nat) (a b c d e : Value) (k : Nat) (hk : k ≠ P) : (st5 w P o a b c d e).heap[k]? = w.heap[k]? := by
  unfold st5
  rw [Below.heap_setCell _ ⟨P, o + 4, none⟩ _ k hk, Below.heap_setCell _ ⟨P, o + 3, none⟩ _ k hk, Below.heap_setCell _ ⟨P, o + 2, none⟩ _ k hk, Below.heap_setCell _ ⟨P, o + 1, none⟩ _ k hk, Below.heap_setCell _ ⟨P, o, none⟩ _ k hk]
theorem set_same_list {α : Type} (l : List α) (k : Nat) (x : α) (h : l[k]? = some x) : l.set k x = l := by
  apply List.ext_getElem?
  intro j
  rw [List.getElem?_set]
  split
  · rename_i e
    subst e
    have := (List.getElem?_eq_some_iff.1 h).1
    rw [if_pos this, h]
  · rfl
def endP' (p e : PP) : PP := { p with e := e.e, cond := e.cond, next := e.next, els := e.els }
theorem flat_go {L : List PP} {k : Nat} {p : PP} (hk : L[k]? = some p) (e : PP) : ((((L.flatMap PP.cells).set (k * 5 + 1) (.bool e.e)).set (k * 5 + 2) (.int .i64 e.cond)).set (k * 5 + 3) (.int .i64 e.next)).set (k * 5 + 4) (.int .i64 e.els) = (L.set k (endP' p e)).flatMap PP.cells := by
  have hkl := (List.getElem?_eq_some_iff.1 hk).1
  have f1 := flat_set PP.cells 5 PP.len L k p { p with e := e.e } 1 (.bool e.e) hk (by omega) rfl
  have k1 : (L.set k { p with e := e.e })[k]? = some { p with e := e.e } := by rw [List.getElem?_set_self hkl]
  have f2 := flat_set PP.cells 5 PP.len (L.set k { p with e := e.e }) k _ { p with e := e.e, cond := e.cond } 2 (.int .i64 e.cond) k1 (by omega) rfl
  rw [List.set_set] at f2
  have k2 : (L.set k { p with e := e.e, cond := e.cond })[k]? = some { p with e := e.e, cond := e.cond } := by rw [List.getElem?_set_self hkl]
  have f3 := flat_set PP.cells 5 PP.len (L.set k { p with e := e.e, cond := e.cond }) k _ { p with e := e.e, cond := e.cond, next := e.next } 3 (.int .i64 e.next) k2 (by omega) rfl
  rw [List.set_set] at f3
  have k3 : (L.set k { p with e := e.e, cond := e.cond, next := e.next })[k]? = some { p with e := e.e, cond := e.cond, next := e.next } := by rw [List.getElem?_set_self hkl]
  have f4 := flat_set PP.cells 5 PP.len (L.set k { p with e := e.e, cond := e.cond, next := e.next }) k _ (endP' p e) 4 (.int .i64 e.els) k3 (by omega) rfl
  rw [List.set_set] at f4
  rw [f4, f3, f2, f1]
theorem row_go {lo P n c : Nat} (hpr : w.ownsRow lo 39 5 (.slice (some ⟨P, 0, none⟩) n c) n (L.flatMap PP.cells)) {k : Nat} {p : PP} (hk : L[k]? = some p) (e : PP) : (st5 w P (k * 5) (.slice p.ia p.ins.length p.ic) (.bool e.e) (.int .i64 e.cond) (.int .i64 e.next) (.int .i64 e.els)).ownsRow lo 39 5 (.slice (some ⟨P, 0, none⟩) n c) n ((L.set k (endP' p e)).flatMap PP.cells) := by
  have f0 : (L.flatMap PP.cells).set (k * 5) (.slice p.ia p.ins.length p.ic) = L.flatMap PP.cells := by
    refine set_same_list _ _ _ ?_
    have := flat_at PP.cells 5 PP.len L k p 0 hk (by omega)
    exact this
  have r0 := (hpr.stored (k * 5) (.slice p.ia p.ins.length p.ic)).1
  rw [f0] at r0
  rw [← flat_go hk e]
  exact ((((r0.stored (k * 5 + 1) _).1.stored (k * 5 + 2) _).1.stored (k * 5 + 3) _).1.stored (k * 5 + 4) _).1
theorem MW.go (h : MW X cur s w L pa pc) (hx : X.ok) {P : Nat} (hP : pa = some ⟨P, 0, none⟩) {p : PP} (hk : L[s.here]? = some p) (ho : opn X cur s.here) (e : PP) (he : I64 e.cond ∧ I64 e.next ∧ I64 e.els) :
    CW X cur (s.goOn e) (st5 w P (s.here * 5) (.slice p.ia p.ins.length p.ic) (.bool e.e) (.int .i64 e.cond) (.int .i64 e.next) (.int .i64 e.els)) := by
  obtain ⟨P', hP', hPb, hPf, hPs, hPlo⟩ := h.par hx
  rw [hP] at hP'
  injection hP' with hP'
  injection hP' with hP'
  subst hP'
  have hpr := h.prow
  rw [hP] at hpr
  have r4 := row_go hpr hk e
  obtain ⟨p4, hp4⟩ : ∃ p4, endP' p e = p4 := ⟨_, rfl⟩
  rw [hp4] at r4
  have g1 : p4.ia = p.ia ∧ p4.ins = p.ins ∧ p4.ic = p.ic := by rw [← hp4]; exact ⟨rfl, rfl, rfl⟩
  have g2 : I64 p4.cond ∧ I64 p4.next ∧ I64 p4.els := by rw [← hp4]; exact he
  obtain ⟨S1, S2, S3, S4⟩ := st5_same w P (s.here * 5) (.slice p.ia p.ins.length p.ic) (.bool e.e) (.int .i64 e.cond) (.int .i64 e.next) (.int .i64 e.els)
  have blk := st5_block w P (s.here * 5) (.slice p.ia p.ins.length p.ic) (.bool e.e) (.int .i64 e.cond) (.int .i64 e.next) (.int .i64 e.els)
  generalize st5 w P (s.here * 5) (.slice p.ia p.ins.length p.ic) (.bool e.e) (.int .i64 e.cond) (.int .i64 e.next) (.int .i64 e.els) = W at *
  have hm := h.chg hx (w' := W) hk (p' := p4) (Nat.le_refl cur) (fun j _ q => q) ho hP (row := none) (fun b hb => by cases hb) S1 S2 S3 (Nat.le_of_eq S4.symm) (fun b h1 h2 _ => blk b h2) (by rw [hP]; exact r4) (by have := (h.rows _ p hk ho).kp (w' := W) (fun a ha => blk _ (fun q => h.pdis _ p ho hk _ a hP ha q.symm)); exact ⟨by rw [g1.1, g1.2.1, g1.2.2]; exact this.own, by rw [g1.2.1]; exact this.xf⟩) (fun a ha => Or.inr (Or.inr ⟨ho, by rw [← g1.1]; exact ha⟩)) g2
  refine ⟨L.set s.here p4, pa, pc, ?_⟩
  have e2 : s.goOn e = { s with ps := s.ps.set s.here (zP p4) } := by
    unfold Cl.goOn
    rw [h.at_z hk, ← hp4]
    rfl
  rw [e2]
  exact hm

/-- The part at hand gets a list of its own. -/
theorem MW.opened (h : MW X cur s w L pa pc) (hx : X.ok) {P : Nat} (hP : pa = some ⟨P, 0, none⟩) {p : PP} (hk : L[cur]? = some p) (hc : cur < X.F0.parts.length) :
    CW X (cur + 1) { s with ps := s.ps.set cur { zP p with ins := [] } } (w.setCell ⟨P, cur * 5, none⟩ (.slice none 0 0)) := by
  have hpr := h.prow
  rw [hP] at hpr
  let p' : PP := { p with ins := [], ia := none, ic := 0 }
  have hfl := flat_set PP.cells 5 PP.len L cur p p' 0 (.slice none 0 0) hk (by omega) rfl
  have hm := h.chg hx (w' := w.setCell ⟨P, cur * 5, none⟩ (.slice none 0 0)) hk (p' := p') (cur' := cur + 1) (Nat.le_succ _) (fun j h1 h2 => by
    rcases h2 with q | q
    · exact Or.inl (by omega)
    · exact Or.inr q) (Or.inl (Nat.lt_succ_self _)) hP (row := none) (fun b hb => by cases hb) rfl rfl rfl (by simp) (fun b h1 h2 _ => Below.heap_setCell w ⟨P, cur * 5, none⟩ _ b h2) (by rw [hP, hfl]; exact (hpr.stored (cur * 5 + 0) _).1) ⟨World.ownsRow_nil _ _ _ _, fun x hx' => by simp [p'] at hx'⟩ (fun a ha => by cases ha) (h.num p (List.mem_of_getElem? hk))
  exact ⟨_, _, _, hm⟩

/-- The part that is put into is another. -/
theorem MW.hered (h : MW X cur s w L pa pc) (hx : X.ok) (n : Nat) : MW X cur (s.at n) (w.setCell ⟨X.C, 3, none⟩ (.int .i64 (n : Int))) L pa pc := by
  have oth : ∀ b, b ≠ X.C → (w.setCell ⟨X.C, 3, none⟩ (.int .i64 (n : Int))).heap[b]? = w.heap[b]? := fun b hb => Below.heap_setCell w ⟨X.C, 3, none⟩ _ b hb
  have hf : X.fb ≠ X.C := by have := hx.hfb; unfold Cx.C; omega
  have nf := oth _ hf
  have cf : ∀ j v, w.cell? ⟨X.fb, j, none⟩ = some v → (w.setCell ⟨X.C, 3, none⟩ (.int .i64 (n : Int))).cell? ⟨X.fb, j, none⟩ = some v := fun j v hv => (World.cell?_of_block (a := ⟨X.fb, j, none⟩) nf).trans hv
  have hpC : ∀ b, (Value.slice pa L.length pc).ownBlock = some b → b ≠ X.C := fun b hb => by
    cases e : pa with
    | none => rw [e] at hb; cases hb
    | some a =>
      rw [e] at hb
      injection hb with hb
      have := h.pblk a e
      have := hx.hPb
      rw [← hb]
      unfold Cx.C at *
      omega
  refine ⟨Fk.ch h.fk hx.hfb rfl rfl rfl (by simp) (S := fun b => b = X.C) (fun b hb => by subst hb; exact ⟨Or.inr (Nat.le_refl _), fun e => hf e.symm⟩) (fun b _ h2 => oth b h2), ?_, cf _ _ h.f0, cf _ _ h.f1, cf _ _ h.f2, cf _ _ h.f3, fun j => (World.frozen?_of_block (a := ⟨X.fb, j, none⟩) nf).trans (h.fz j), h.z, h.len, row_kp h.prow (fun b hb => oth b (hpC b hb)), h.pblk, h.old, fun j p hp hj => (h.rows j p hp hj).kp (fun a ha => oth _ (fun e => by have := ((h.rows j p hp hj).ge ha).1; omega)), h.dis, h.pdis, h.num, fun e he => ⟨(oth _ (fun q => by have := (h.exs e he).2.1; omega)).trans (h.exs e he).1, (h.exs e he).2⟩⟩
  rw [block_setCell h.box]
  rfl

/-- How many registers there are is written. -/
theorem MW.regd (h : MW X cur s w L pa pc) (hx : X.ok) (r : Int) : MW X cur { s with regs := r } (w.setCell ⟨X.fb, X.fo + 1, none⟩ (.int .i64 r)) L pa pc := by
  have oth : ∀ b, b ≠ X.fb → (w.setCell ⟨X.fb, X.fo + 1, none⟩ (.int .i64 r)).heap[b]? = w.heap[b]? := fun b hb => Below.heap_setCell w ⟨X.fb, X.fo + 1, none⟩ _ b hb
  have hf : X.C ≠ X.fb := by have := hx.hfb; unfold Cx.C; omega
  have cf : ∀ j v, j ≠ X.fo + 1 → w.cell? ⟨X.fb, j, none⟩ = some v → (w.setCell ⟨X.fb, X.fo + 1, none⟩ (.int .i64 r)).cell? ⟨X.fb, j, none⟩ = some v := fun j v hj hv => set_cell_ne hv (fun e => by injection e with e1 e2; exact hj e2)
  have hpF : ∀ b, (Value.slice pa L.length pc).ownBlock = some b → b ≠ X.fb := fun b hb => by
    cases e : pa with
    | none => rw [e] at hb; cases hb
    | some a =>
      rw [e] at hb
      injection hb with hb
      have := h.pblk a e
      have := hx.hfb
      have := hx.ne
      rw [← hb]
      unfold Cx.C at *
      omega
  refine ⟨Fk.setF h.fk (by omega) (by omega) _, (oth _ hf).trans h.box, cf _ _ (by omega) h.f0, World.cell?_setCell_same w _ _ h.f1, cf _ _ (by omega) h.f2, cf _ _ (by omega) h.f3, fun j => by rw [World.frozen?_setCell]; exact h.fz j, h.z, h.len, row_kp h.prow (fun b hb => oth b (hpF b hb)), h.pblk, h.old, fun j p hp hj => (h.rows j p hp hj).kp (fun a ha => oth _ (fun e => by have := ((h.rows j p hp hj).ge ha).1; have := hx.hfb; unfold Cx.C at *; omega)), h.dis, h.pdis, h.num, fun e he => ⟨(oth _ (fun q => by have := (h.exs e he).2.1; have := hx.hfb; unfold Cx.C at *; omega)).trans (h.exs e he).1, (h.exs e he).2⟩⟩

theorem flat_zero (n : Nat) : (List.replicate n zeroPP).flatMap PP.cells = (List.replicate n [Value.slice none 0 0, .bool false, .int .i64 0, .int .i64 0, .int .i64 0]).flatten := by
  induction n with
  | zero => rfl
  | succ n ih => rw [List.replicate_succ, List.flatMap_cons, ih, List.replicate_succ, List.flatten_cons]; rfl
/-- More parts lie behind the others: the function's slice is written. -/
theorem MW.more (h : MW X cur s w L pa pc) (hx : X.ok) {P : Nat} (hP : pa = some ⟨P, 0, none⟩) {k g cap : Nat} (hg : w.grownBy w1 (some P)) (hr : w1.ownsRow X.lo 39 5 (.slice (some ⟨g, 0, none⟩) (L.length + k) cap) (L.length + k) (L.flatMap PP.cells ++ (List.replicate k zeroPP).flatMap PP.cells)) (hat : g = P ∨ w.heap.size ≤ g) :
    (w1.cell? ⟨X.fb, X.fo + 3, none⟩ = some (.slice pa L.length pc) ∧ w1.frozen? ⟨X.fb, X.fo + 3, none⟩ = false) ∧ CW X cur { s with ps := s.ps ++ List.replicate k zeroPP } (w1.setCell ⟨X.fb, X.fo + 3, none⟩ (.slice (some ⟨g, 0, none⟩) (L.length + k) cap)) := by
  obtain ⟨P', hP', hPb, hPf, hPs, hPlo⟩ := h.par hx
  rw [hP] at hP'
  injection hP' with hP'
  injection hP' with hP'
  subst hP'
  have hfs : X.fb < w.heap.size := Nat.lt_of_lt_of_le hx.hfb h.fk.size
  have hCl : X.C < w.heap.size := (Array.getElem?_eq_some_iff.1 h.box).1
  have hf : X.C ≠ X.fb := by have := hx.hfb; unfold Cx.C; omega
  have hCP : X.C ≠ P := fun e => by rcases hPb with q | q <;> (have := hx.hPb; unfold Cx.C at *; omega)
  have hgf : g ≠ X.fb := fun e => by rcases hat with q | q <;> omega
  have e1 : ∀ b, b < w.heap.size → b ≠ P → w1.heap[b]? = w.heap[b]? := fun b h1 h2 => hg.block b h1 (fun e => h2 (by injection e))
  have oth : ∀ b, b ≠ X.fb → (w1.setCell ⟨X.fb, X.fo + 3, none⟩ (.slice (some ⟨g, 0, none⟩) (L.length + k) cap)).heap[b]? = w1.heap[b]? := fun b hb => Below.heap_setCell w1 ⟨X.fb, X.fo + 3, none⟩ _ b hb
  have nf := e1 _ hfs (fun e => hPf e.symm)
  have c1 : ∀ j v, w.cell? ⟨X.fb, j, none⟩ = some v → w1.cell? ⟨X.fb, j, none⟩ = some v := fun j v hv => (World.cell?_of_block (a := ⟨X.fb, j, none⟩) nf).trans hv
  have z1 : ∀ j, w1.frozen? ⟨X.fb, j, none⟩ = false := fun j => (World.frozen?_of_block (a := ⟨X.fb, j, none⟩) nf).trans (h.fz j)
  have cf : ∀ j v, j ≠ X.fo + 3 → w.cell? ⟨X.fb, j, none⟩ = some v → (w1.setCell ⟨X.fb, X.fo + 3, none⟩ (.slice (some ⟨g, 0, none⟩) (L.length + k) cap)).cell? ⟨X.fb, j, none⟩ = some v := fun j v hj hv => set_cell_ne (c1 j v hv) (fun e => by injection e with e1 e2; exact hj e2)
  have el : (L ++ List.replicate k zeroPP).length = L.length + k := by simp
  have get : ∀ j p, (L ++ List.replicate k zeroPP)[j]? = some p → L[j]? = some p ∨ (L.length ≤ j ∧ p = zeroPP) := fun j p hp => by
    by_cases hj : j < L.length
    · rw [List.getElem?_append_left hj] at hp; exact Or.inl hp
    · rw [List.getElem?_append_right (by omega)] at hp
      exact Or.inr ⟨by omega, (List.mem_replicate.1 (List.mem_of_getElem? hp)).2⟩
  refine ⟨⟨c1 _ _ h.f3, z1 _⟩, L ++ List.replicate k zeroPP, some ⟨g, 0, none⟩, cap, Fk.setF (Fk.ch h.fk hx.hfb hg.os hg.tape hg.output hg.size (S := fun b => b = P) (fun b hb => by subst hb; exact ⟨hPb.imp id (fun q => by unfold Cx.C at q; omega), hPf⟩) (fun b h1 h2 => e1 b h1 h2)) (by omega) (by omega) _, ((oth _ hf).trans (e1 _ hCl hCP)).trans h.box, cf _ _ (by omega) h.f0, cf _ _ (by omega) h.f1, cf _ _ (by omega) h.f2, by rw [el]; exact World.cell?_setCell_same w1 _ _ (c1 _ _ h.f3), fun j => by rw [World.frozen?_setCell]; exact z1 j, ?_, by have := h.len; rw [el]; omega, ?_, fun a ha => ?_, fun j h1 h2 => ?_, fun j p hp hj => ?_, fun j j2 p q hne hj hj2 hp hq a b ha hb => ?_, fun j p hj hp a b ha hb => ?_, fun p hp => ?_, fun e he => ?_⟩
  · rw [List.map_append, h.z, List.map_replicate]; rfl
  · rw [el, List.flatMap_append]
    exact row_kp hr (fun b hb => oth b (fun e => hgf (by have hb' : some g = some b := hb; injection hb' with hb'; rw [hb']; exact e)))
  · injection ha with ha
    subst ha
    rcases hat with q | q
    · subst q; exact hPb
    · exact Or.inr (by show X.C < g; omega)
  · rw [List.getElem?_append_left (by have := h.len; omega)]
    exact h.old j h1 h2
  · rcases get j p hp with e | ⟨e, rfl⟩
    · exact (h.rows j p e hj).kp (fun a ha => (oth _ (fun q => by have := ((h.rows j p e hj).ge ha).1; have := hx.hfb; unfold Cx.C at *; omega)).trans (e1 _ ((h.rows j p e hj).ge ha).2 (fun q => h.pdis j p hj e _ a hP ha q.symm)))
    · exact ⟨World.ownsRow_nil _ _ _ _, fun x hx' => by simp [zeroPP] at hx'⟩
  · rcases get j p hp with e | ⟨e, rfl⟩
    · rcases get j2 q hq with e2 | ⟨e2, rfl⟩
      · exact h.dis j j2 p q hne hj hj2 e e2 a b ha hb
      · cases hb
    · cases ha
  · rcases get j p hp with e | ⟨e, rfl⟩
    · injection ha with ha
      subst ha
      intro q
      have q' : g = b.block := q
      rcases hat with r | r
      · exact h.pdis j p hj e _ b hP hb (by show P = b.block; omega)
      · have := ((h.rows j p e hj).ge hb).2; omega
    · cases hb
  · rcases List.mem_append.1 hp with q | q
    · exact h.num p q
    · rw [(List.mem_replicate.1 q).2]; exact ⟨z64, z64, z64⟩
  · obtain ⟨x1, x2, x3, x4⟩ := h.exs e he
    have hel : e.1 < w.heap.size := (Array.getElem?_eq_some_iff.1 x1).1
    refine ⟨((oth _ (fun q => by have := hx.hfb; unfold Cx.C at *; omega)).trans (e1 _ hel (fun q => x3 _ hP q.symm))).trans x1, x2, fun a ha => ?_, fun j p a hj hp ha => ?_⟩
    · injection ha with ha
      subst ha
      show g ≠ e.1
      rcases hat with r | r
      · rw [r]; exact x3 _ hP
      · omega
    · rcases get j p hp with q | ⟨-, rfl⟩
      · exact x4 j p a hj q ha
      · cases ha
/-- A block besides is noted. -/
def Cx.add (X : Cx) (B : Nat) (o : Obj) : Cx := { X with ex := (B, o) :: X.ex }
theorem Cx.add_ok {X : Cx} (h : X.ok) (B : Nat) (o : Obj) : (X.add B o).ok := ⟨h.hfb, h.hPb, h.ne, h.lo, h.pos, h.gfb, h.gPb⟩
theorem CW.add {B : Nat} {o : Obj} (h : CW X cur s w) (hx : X.ok) (hB : w.heap.size = B) (q : Q w w1) (ho : w1.heap[B]? = some o) : CW (X.add B o) cur s w1 := by
  obtain ⟨L, pa, pc, hm⟩ := h
  have h := hm.q hx q
  have hC := (Array.getElem?_eq_some_iff.1 hm.box).1
  refine ⟨L, pa, pc, h.fk, h.box, h.f0, h.f1, h.f2, h.f3, h.fz, h.z, h.len, h.prow, h.pblk, h.old, fun j p hp hj => ⟨(h.rows j p hp hj).own, (h.rows j p hp hj).xf⟩, h.dis, h.pdis, h.num, fun e he => ?_⟩
  rcases List.mem_cons.1 he with rfl | he
  · refine ⟨ho, by show X.C < B; omega, fun a ha => ?_, fun j p a hj hp ha => ?_⟩
    · have := (own_addr hm.prow ha).2.2.1
      show a.block ≠ B
      omega
    · have := ((hm.rows j p hp hj).ge ha).2
      show a.block ≠ B
      omega
  · exact h.exs e he
theorem CW.drop {B : Nat} {o : Obj} (h : CW (X.add B o) cur s w) : CW X cur s w := by
  obtain ⟨L, pa, pc, h⟩ := h
  exact ⟨L, pa, pc, h.fk, h.box, h.f0, h.f1, h.f2, h.f3, h.fz, h.z, h.len, h.prow, h.pblk, h.old, fun j p hp hj => ⟨(h.rows j p hp hj).own, (h.rows j p hp hj).xf⟩, h.dis, h.pdis, h.num, fun e he => h.exs e (List.mem_cons_of_mem _ he)⟩
theorem CW.blk {B : Nat} {o : Obj} (h : CW (X.add B o) cur s w) : w.heap[B]? = some o := by
  obtain ⟨L, pa, pc, h⟩ := h
  exact (h.exs (B, o) (List.mem_cons_self ..)).1
/-- A block besides is written. -/
theorem CW.bset {B j : Nat} {u : Value} {cs : Array Value} {t : TypeId} (h : CW (X.add B (.cells cs t (0, 0))) cur s w) (hx : X.ok) : CW (X.add B (.cells (cs.setIfInBounds j u) t (0, 0))) cur s (w.setCell ⟨B, j, none⟩ u) ∨ ∃ e ∈ X.ex, e.1 = B := by
  by_cases hd : ∃ e ∈ X.ex, e.1 = B
  · exact Or.inr hd
  refine Or.inl ?_
  obtain ⟨L, pa, pc, h⟩ := h
  obtain ⟨x1, x2, x3, x4⟩ := h.exs (B, .cells cs t (0, 0)) (List.mem_cons_self ..)
  have oth : ∀ b, b ≠ B → (w.setCell ⟨B, j, none⟩ u).heap[b]? = w.heap[b]? := fun b hb => Below.heap_setCell w ⟨B, j, none⟩ _ b hb
  have hf : X.fb ≠ B := by have := hx.hfb; have x2' : X.C < B := x2; unfold Cx.C at x2'; omega
  have nf := oth _ hf
  have cf : ∀ i v, w.cell? ⟨X.fb, i, none⟩ = some v → (w.setCell ⟨B, j, none⟩ u).cell? ⟨X.fb, i, none⟩ = some v := fun i v hv => (World.cell?_of_block (a := ⟨X.fb, i, none⟩) nf).trans hv
  refine ⟨L, pa, pc, Fk.ch h.fk hx.hfb rfl rfl rfl (by simp) (S := fun b => b = B) (fun b hb => by subst hb; exact ⟨Or.inr (Nat.le_of_lt x2), fun e => hf e.symm⟩) (fun b _ h2 => oth b h2), (oth _ (fun e => by have x2' : X.C < B := x2; have e' : X.C = B := e; omega)).trans h.box, cf _ _ h.f0, cf _ _ h.f1, cf _ _ h.f2, cf _ _ h.f3, fun i => (World.frozen?_of_block (a := ⟨X.fb, i, none⟩) nf).trans (h.fz i), h.z, h.len, row_kp h.prow (fun b hb => oth b (fun e => ?_)), h.pblk, h.old, fun i p hp hj => ?_, h.dis, h.pdis, h.num, fun e he => ?_⟩
  · cases ea : pa with
    | none => rw [ea] at hb; cases hb
    | some a =>
      rw [ea] at hb
      injection hb with hb
      exact x3 a ea (by rw [← e]; exact hb)
  · have := (h.rows i p hp hj).kp (w' := w.setCell ⟨B, j, none⟩ u) (fun a ha => oth _ (x4 i p a hj hp ha))
    exact ⟨this.own, this.xf⟩
  · rcases List.mem_cons.1 he with rfl | he
    · exact ⟨block_setCell x1 u, x2, x3, x4⟩
    · have r := h.exs e (List.mem_cons_of_mem _ he)
      exact ⟨(oth _ (fun q => hd ⟨e, he, q⟩)).trans r.1, r.2⟩
end

end Go.Proofs.Ytnaflfpkkbfnfaa.In
