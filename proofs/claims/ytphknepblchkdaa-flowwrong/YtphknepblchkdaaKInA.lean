/-
  What inlining makes of a function, as plain functions of the function and the bodies: no program in sight; no conditions but those that each fact bears.
-/
import Derived.Test.YtphknepblchkdaaKIrP
import Derived.Test.YtphknepblchkdaaKIrN
namespace Go.Proofs.Ytphknepblchkdaa.In
open Go.RowKit
set_option linter.unusedVariables false

/-- Without the places where lists lie. -/
def zI (x : PI) : PI := { x with aa := none, ac := 0 }
def zP (p : PP) : PP := { p with ins := p.ins.map zI, ia := none, ic := 0 }
def zF (f : PF) : PF := { f with parts := f.parts.map zP, sa := none, sc := 0, pa := none, pc := 0 }
theorem zI_zI (x : PI) : zI (zI x) = zI x := rfl
theorem zP_zP (p : PP) : zP (zP p) = zP p := by simp [zP, zI_zI, Function.comp_def]

/-- What is done in the place of a call: a function, and the registers that are to be 0. -/
structure Bd where
  f : PF
  un : List Int

/-- How many calls a function has. -/
def callsL (l : List PI) : Nat := l.countP (fun x => x.op == 32)
def callsP (f : PF) : Nat := (f.parts.map fun p => callsL p.ins).sum
def cntS (l : List PP) : Nat := (l.map fun p => 1 + p.ins.length).sum
theorem cntS_fnN (f : PF) : fnN f = (cntS f.parts : Int) := by
  unfold fnN cntS
  generalize f.parts = l
  induction l with
  | nil => rfl
  | cons p l ih => rw [List.map_cons, List.map_cons, List.sum_cons, List.sum_cons, ih, partN]; omega
def smallP (f : PF) : Bool := callsP f == 0 && (decide (fnN f ≤ 10) && (decide (f.regs ≤ 20) && f.slots.length == 0))
def takesP (f : PF) : Bool := decide (callsP f ≤ 10) && (decide (f.parts.length ≤ 100) && decide (f.regs ≤ 1000))

/-- A function in which calls are done. -/
structure Cl where
  ps : List PP
  regs : Int
  here : Nat
def Cl.put (s : Cl) (i : PI) : Cl := match s.ps[s.here]? with
  | some p => { s with ps := s.ps.set s.here { p with ins := p.ins ++ [i] } }
  | none => s
def Cl.goOn (s : Cl) (e : PP) : Cl := match s.ps[s.here]? with
  | some p => { s with ps := s.ps.set s.here { e with ins := p.ins, ia := none, ic := 0 } }
  | none => s
def Cl.puts (s : Cl) (l : List PI) : Cl := l.foldl Cl.put s
def Cl.at (s : Cl) (n : Nat) : Cl := { s with here := n }

def inReg (base : Int) (i : PI) : PI := ⟨i.op, i.ty, if wrP i.op then base + i.dst else 0, if 0 < rdP i.op then base + i.a else 0, if 1 < rdP i.op then base + i.b else 0, i.imm, [], none, 0⟩
def mvI (d a : Int) : PI := ⟨21, 0, d, a, 0, 0, [], none, 0⟩
def k0I (d : Int) : PI := ⟨20, 0, d, 0, 0, 0, [], none, 0⟩
def movesL (base : Int) : Nat → List Int → List PI
  | _, [] => []
  | n, a :: l => mvI (base + n) a :: movesL base (n + 1) l
def beginL (fault : Bool) (args : List Int) (un : List Int) (base : Int) : List PI := movesL base 0 (if fault then args.reverse else args) ++ un.map fun r => k0I (base + r)
def ansI (x : PI) (p : PP) (base : Int) : PI := mvI x.dst (base + p.cond)
def jmp (n : Int) : PP := ⟨[], false, -1, n, 0, none, 0⟩
def endL (base first : Int) (p : PP) : PP := if p.cond < 0 then jmp (first + p.next) else ⟨[], false, base + p.cond, first + p.next, first + p.els, none, 0⟩
def copyL (base : Int) (p : PP) : List PI := p.ins.map (inReg base)
def zeroPP : PP := ⟨[], false, 0, 0, 0, none, 0⟩

/-- One part of a body is put. -/
def stepB (x : PI) (base : Int) (first len : Nat) (s : Cl) (n : Nat) (p : PP) : Cl :=
  let s1 := (s.at (first + n)).puts (copyL base p)
  if p.e then (s1.put (ansI x p base)).goOn (jmp ((first + len : Nat) : Int)) else s1.goOn (endL base first p)
def partsB (x : PI) (base : Int) (first len : Nat) : Cl → Nat → List PP → Cl
  | s, _, [] => s
  | s, n, p :: l => partsB x base first len (stepB x base first len s n p) (n + 1) l
def begC (x : PI) (b : Bd) (fault : Bool) (s : Cl) : Cl := Cl.puts { s with regs := s.regs + b.f.regs } (beginL fault x.args b.un s.regs)
def longC (x : PI) (b : Bd) (base : Int) (s : Cl) : Cl :=
  let first := s.ps.length
  let s1 := s.goOn (jmp first)
  let s2 : Cl := { s1 with ps := s1.ps ++ List.replicate (b.f.parts.length + 1) zeroPP }
  (partsB x base first b.f.parts.length s2 0 b.f.parts).at (first + b.f.parts.length)
def callP (x : PI) (b : Bd) (fault : Bool) (s : Cl) : Cl := match b.f.parts with
  | [] => s
  | p :: _ => if p.e then ((begC x b fault s).puts (copyL s.regs p)).put (ansI x p s.regs) else longC x b s.regs (begC x b fault s)
def bodyP (bs : List (Option Bd)) (x : PI) : Option Bd := if x.op = 32 then (match bs[x.imm.toNat]? with | some b => b | none => none) else none
def stepI (bs : List (Option Bd)) (fault : Bool) (s : Cl) (x : PI) : Cl := match bodyP bs x with
  | some b => callP x b fault s
  | none => s.put (zI x)
def stepP (bs : List (Option Bd)) (fault : Bool) (s : Cl) (n : Nat) : Cl := match s.ps[n]? with
  | some p => (p.ins.foldl (stepI bs fault) { s with ps := s.ps.set n { p with ins := [] }, here := n }).goOn p
  | none => s
def doneC (bs : List (Option Bd)) (fault : Bool) (f : PF) (n : Nat) : Cl := (List.range n).foldl (stepP bs fault) ⟨f.parts.map zP, f.regs, 0⟩
def doneF (bs : List (Option Bd)) (fault : Bool) (f : PF) : PF := { zF f with parts := (doneC bs fault f f.parts.length).ps, regs := (doneC bs fault f f.parts.length).regs }

/-! ### What stays -/
theorem puts_nil (s : Cl) : s.puts [] = s := rfl
theorem puts_cons (s : Cl) (x : PI) (l : List PI) : s.puts (x :: l) = (s.put x).puts l := rfl
theorem puts_app (s : Cl) (l m : List PI) : s.puts (l ++ m) = (s.puts l).puts m := by unfold Cl.puts; rw [List.foldl_append]
theorem put_here (s : Cl) (i : PI) : (s.put i).here = s.here := by unfold Cl.put; split <;> rfl
theorem put_regs (s : Cl) (i : PI) : (s.put i).regs = s.regs := by unfold Cl.put; split <;> rfl
theorem put_len (s : Cl) (i : PI) : (s.put i).ps.length = s.ps.length := by unfold Cl.put; split <;> simp
theorem goOn_here (s : Cl) (e : PP) : (s.goOn e).here = s.here := by unfold Cl.goOn; split <;> rfl
theorem goOn_regs (s : Cl) (e : PP) : (s.goOn e).regs = s.regs := by unfold Cl.goOn; split <;> rfl
theorem goOn_len (s : Cl) (e : PP) : (s.goOn e).ps.length = s.ps.length := by unfold Cl.goOn; split <;> simp
theorem puts_here (l : List PI) : ∀ s : Cl, (s.puts l).here = s.here := by
  induction l with
  | nil => intro s; rfl
  | cons x l ih => intro s; rw [puts_cons, ih, put_here]
theorem puts_regs (l : List PI) : ∀ s : Cl, (s.puts l).regs = s.regs := by
  induction l with
  | nil => intro s; rfl
  | cons x l ih => intro s; rw [puts_cons, ih, put_regs]
theorem puts_len (l : List PI) : ∀ s : Cl, (s.puts l).ps.length = s.ps.length := by
  induction l with
  | nil => intro s; rfl
  | cons x l ih => intro s; rw [puts_cons, ih, put_len]

theorem cntS_app (l m : List PP) : cntS (l ++ m) = cntS l + cntS m := by simp [cntS]
theorem cntS_set (l : List PP) (k : Nat) (p q : PP) (h : l[k]? = some p) (n : Nat) (hq : q.ins.length ≤ p.ins.length + n) : cntS (l.set k q) ≤ cntS l + n := by
  induction l generalizing k with
  | nil => simp at h
  | cons a l ih =>
    cases k with
    | zero => simp at h; subst h; simp [cntS]; omega
    | succ k => have := ih k (by simpa using h); simp [cntS] at this ⊢; omega
theorem put_cnt (s : Cl) (i : PI) : cntS (s.put i).ps ≤ cntS s.ps + 1 := by
  unfold Cl.put
  split
  · rename_i p hp
    exact cntS_set _ _ p _ hp 1 (by simp)
  · omega
theorem goOn_cnt (s : Cl) (e : PP) : cntS (s.goOn e).ps ≤ cntS s.ps := by
  unfold Cl.goOn
  split
  · rename_i p hp
    exact cntS_set _ _ p _ hp 0 (by simp)
  · omega
theorem puts_cnt (l : List PI) : ∀ s : Cl, cntS (s.puts l).ps ≤ cntS s.ps + l.length := by
  induction l with
  | nil => intro s; rw [puts_nil]; simp
  | cons x l ih => intro s; rw [puts_cons]; have := ih (s.put x); have := put_cnt s x; simp; omega
theorem movesL_len (base : Int) (l : List Int) : ∀ n, (movesL base n l).length = l.length := by
  induction l with
  | nil => intro n; rfl
  | cons x l ih => intro n; simp [movesL, ih]
theorem beginL_len (fault : Bool) (a u : List Int) (base : Int) : (beginL fault a u base).length = a.length + u.length := by
  unfold beginL
  rw [List.length_append, movesL_len, List.length_map]
  cases fault <;> simp
theorem ins_le {l : List PP} {k : Nat} {p : PP} (h : l[k]? = some p) : p.ins.length + 1 ≤ cntS l := by
  induction l generalizing k with
  | nil => simp at h
  | cons a l ih =>
    cases k with
    | zero => simp at h; subst h; simp [cntS]; omega
    | succ k => have := ih (k := k) (by simpa using h); simp [cntS] at this ⊢; omega
theorem len_cnt (l : List PP) : l.length ≤ cntS l := by
  induction l with
  | nil => simp
  | cons a l ih => simp [cntS] at ih ⊢; omega

/-! ### A call's parts -/
section
variable {x : PI} {base : Int} {first len : Nat}
theorem stepB_len (s : Cl) (n : Nat) (p : PP) : (stepB x base first len s n p).ps.length = s.ps.length := by
  unfold stepB
  dsimp only
  split
  · rw [goOn_len, put_len, puts_len]; rfl
  · rw [goOn_len, puts_len]; rfl
theorem stepB_here (s : Cl) (n : Nat) (p : PP) : (stepB x base first len s n p).here = first + n := by
  unfold stepB
  dsimp only
  split
  · rw [goOn_here, put_here, puts_here]; rfl
  · rw [goOn_here, puts_here]; rfl
theorem stepB_regs (s : Cl) (n : Nat) (p : PP) : (stepB x base first len s n p).regs = s.regs := by
  unfold stepB
  dsimp only
  split
  · rw [goOn_regs, put_regs, puts_regs]; rfl
  · rw [goOn_regs, puts_regs]; rfl
theorem stepB_cnt (s : Cl) (n : Nat) (p : PP) : cntS (stepB x base first len s n p).ps ≤ cntS s.ps + (p.ins.length + 1) := by
  have h1 := puts_cnt (copyL base p) (s.at (first + n))
  have h2 : (copyL base p).length = p.ins.length := by simp [copyL]
  have h3 : cntS (s.at (first + n)).ps = cntS s.ps := rfl
  unfold stepB
  dsimp only
  split
  · have h4 := goOn_cnt (((s.at (first + n)).puts (copyL base p)).put (ansI x p base)) (jmp ((first + len : Nat) : Int))
    have h5 := put_cnt ((s.at (first + n)).puts (copyL base p)) (ansI x p base)
    omega
  · have h4 := goOn_cnt ((s.at (first + n)).puts (copyL base p)) (endL base first p)
    omega
theorem partsB_snoc (l : List PP) (p : PP) : ∀ (s : Cl) (n : Nat), partsB x base first len s n (l ++ [p]) = stepB x base first len (partsB x base first len s n l) (n + l.length) p := by
  induction l with
  | nil => intro s n; rfl
  | cons a l ih => intro s n; show partsB x base first len (stepB x base first len s n a) (n + 1) (l ++ [p]) = _; rw [ih]; simp only [List.length_cons]; rw [show n + 1 + l.length = n + (l.length + 1) by omega]; rfl
theorem partsB_len (l : List PP) : ∀ (s : Cl) (n : Nat), (partsB x base first len s n l).ps.length = s.ps.length := by
  induction l with
  | nil => intro s n; rfl
  | cons a l ih => intro s n; show (partsB x base first len _ (n + 1) l).ps.length = _; rw [ih, stepB_len]
theorem partsB_regs (l : List PP) : ∀ (s : Cl) (n : Nat), (partsB x base first len s n l).regs = s.regs := by
  induction l with
  | nil => intro s n; rfl
  | cons a l ih => intro s n; show (partsB x base first len _ (n + 1) l).regs = _; rw [ih, stepB_regs]
theorem partsB_cnt (l : List PP) : ∀ (s : Cl) (n : Nat), cntS (partsB x base first len s n l).ps ≤ cntS s.ps + cntS l := by
  induction l with
  | nil => intro s n; show cntS s.ps ≤ _; omega
  | cons a l ih =>
    intro s n
    have h1 := ih (stepB x base first len s n a) (n + 1)
    have h2 := stepB_cnt (x := x) (base := base) (first := first) (len := len) s n a
    have h3 : cntS (a :: l) = 1 + a.ins.length + cntS l := by simp [cntS]
    show cntS (partsB x base first len (stepB x base first len s n a) (n + 1) l).ps ≤ _
    omega
end
theorem begC_len (x : PI) (b : Bd) (fault : Bool) (s : Cl) : (begC x b fault s).ps.length = s.ps.length := by unfold begC; rw [puts_len]
theorem begC_here (x : PI) (b : Bd) (fault : Bool) (s : Cl) : (begC x b fault s).here = s.here := by unfold begC; rw [puts_here]
theorem begC_regs (x : PI) (b : Bd) (fault : Bool) (s : Cl) : (begC x b fault s).regs = s.regs + b.f.regs := by unfold begC; rw [puts_regs]
theorem begC_cnt (x : PI) (b : Bd) (fault : Bool) (s : Cl) : cntS (begC x b fault s).ps ≤ cntS s.ps + (x.args.length + b.un.length) := by
  unfold begC
  have := puts_cnt (beginL fault x.args b.un s.regs) { s with regs := s.regs + b.f.regs }
  rw [beginL_len] at this
  exact this
theorem longC_len (x : PI) (b : Bd) (base : Int) (s : Cl) : (longC x b base s).ps.length = s.ps.length + (b.f.parts.length + 1) := by
  unfold longC
  show (partsB _ _ _ _ _ _ _).ps.length = _
  rw [partsB_len]
  simp [goOn_len]
theorem longC_here (x : PI) (b : Bd) (base : Int) (s : Cl) : (longC x b base s).here = s.ps.length + b.f.parts.length := rfl
theorem longC_regs (x : PI) (b : Bd) (base : Int) (s : Cl) : (longC x b base s).regs = s.regs := by
  unfold longC
  show (partsB _ _ _ _ _ _ _).regs = _
  rw [partsB_regs]
  exact goOn_regs _ _
theorem cntS_zero (n : Nat) : cntS (List.replicate n zeroPP) = n := by
  induction n with
  | zero => rfl
  | succ n ih => rw [List.replicate_succ]; simp [cntS, zeroPP] at ih ⊢; omega
theorem longC_cnt (x : PI) (b : Bd) (base : Int) (s : Cl) : cntS (longC x b base s).ps ≤ cntS s.ps + (b.f.parts.length + 1 + cntS b.f.parts) := by
  unfold longC
  show cntS (partsB _ _ _ _ _ _ _).ps ≤ _
  refine Nat.le_trans (partsB_cnt _ _ _) ?_
  have h1 := goOn_cnt s (jmp s.ps.length)
  have h2 := cntS_app (s.goOn (jmp s.ps.length)).ps (List.replicate (b.f.parts.length + 1) zeroPP)
  rw [cntS_zero] at h2
  dsimp only
  omega
/-- How much a call adds. -/
theorem callP_grow (x : PI) (b : Bd) (fault : Bool) (s : Cl) : cntS (callP x b fault s).ps ≤ cntS s.ps + (x.args.length + b.un.length + (b.f.parts.length + 2 + cntS b.f.parts)) ∧ s.ps.length ≤ (callP x b fault s).ps.length := by
  unfold callP
  have h0 := begC_cnt x b fault s
  have h9 := begC_len x b fault s
  split
  · exact ⟨by omega, Nat.le_refl _⟩
  · rename_i p l hp
    split
    · have h1 := puts_cnt (copyL s.regs p) (begC x b fault s)
      have h2 := put_cnt ((begC x b fault s).puts (copyL s.regs p)) (ansI x p s.regs)
      have h3 : (copyL s.regs p).length = p.ins.length := by simp [copyL]
      have h4 : p.ins.length + 1 ≤ cntS b.f.parts := ins_le (k := 0) (by rw [hp]; rfl)
      rw [put_len, puts_len]
      omega
    · have h1 := longC_cnt x b s.regs (begC x b fault s)
      have h2 := longC_len x b s.regs (begC x b fault s)
      omega
theorem callP_here (x : PI) (b : Bd) (fault : Bool) (s : Cl) (hh : s.here < s.ps.length) : (callP x b fault s).here < (callP x b fault s).ps.length ∧ ((callP x b fault s).here = s.here ∨ s.ps.length ≤ (callP x b fault s).here) := by
  unfold callP
  split
  · exact ⟨hh, Or.inl rfl⟩
  · rename_i p l hp
    split
    · rw [put_here, puts_here, put_len, puts_len, begC_here, begC_len]
      exact ⟨hh, Or.inl rfl⟩
    · rw [longC_here, longC_len, begC_len]
      exact ⟨by omega, Or.inr (by omega)⟩

end Go.Proofs.Ytphknepblchkdaa.In
