/-
 What inlining makes of a function, as plain functions of the function and the bodies: no program in sight; no conditions but those that each fact bears.
-/
import Derived.Test.YtphknepblchkdaaKIrP
import Derived.Test.YtphknepblchkdaaKIrN
namespace Go.Proofs.Ytphknepblchkdaa.In
open Go.RowKit
set_option linter.unusedVariables false

/-- Without the places where lists lie. -/
def zI (x : PI) : PI := { x with aa := none, ac := 0 }
def zP (p : PP) : PP := { p with ins := p.ins.map zI, ia := none, ic := 0 }
def zF (f : PF) : PF := { f with parts := f.parts.map zP, sa := none, sc := 0, pa := none, pc := 0 }
theorem zI_zI (x : PI) : zI (zI x) = zI x := rfl
theorem zP_zP (p : PP) : zP (zP p) = zP p := by simp [zP, zI_zI, Function.comp_def]

/-- What is done in the place of a call: a function, and the registers that are to be 0. -/
structure Bd where
 f : PF
 un : List Int

def cntS (l : List PP) : Nat := (l.map fun p => 1 + p.ins.length).sum
theorem cntS_fnN (f : PF) : fnN f = (cntS f.parts : Int) := by
 unfold fnN cntS
 generalize f.parts = l
 induction l with
 | nil => rfl
 | cons p l ih => rw [List.map_cons, List.map_cons, List.sum_cons, List.sum_cons, ih, partN]; omega
/-- A function in which calls are done. -/
structure Cl where
 ps : List PP
 regs : Int
 here : Nat
def Cl.put (s : Cl) (i : PI) : Cl := match s.ps[s.here]? with
 | some p => { s with ps := s.ps.set s.here { p with ins := p.ins ++ [i] } }
 | none => s
def Cl.goOn (s : Cl) (e : PP) : Cl := match s.ps[s.here]? with
 | some p => { s with ps := s.ps.set s.here { e with ins := p.ins, ia := none, ic := 0 } }
 | none => s
def Cl.at (s : Cl) (n : Nat) : Cl := { s with here := n }

/-! ### What stays -/
theorem len_cnt (l : List PP) : l.length ≤ cntS l := by
 induction l with
 | nil => simp
 | cons a l ih => simp [cntS] at ih ⊢; omega

/-! ### A call's parts -/
section
variable {x : PI} {base : Int} {first len : Nat}
end
end Go.Proofs.Ytphknepblchkdaa.In
