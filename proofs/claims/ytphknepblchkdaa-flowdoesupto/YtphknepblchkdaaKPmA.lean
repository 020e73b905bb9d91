/-
 What the code between does, as a plain function of the code and the steps: no program in sight; no conditions but those that each fact bears.
-/
import Derived.Test.YtphknepblchkdaaKIrB
import Derived.Test.YtphknepblchkdaaKNuBaseE
import Derived.Test.YtphknepblchkdaaKPmZ
namespace Go.Proofs.Ytphknepblchkdaa
open Go.RowKit
set_option linter.unusedVariables false

/-- What has happened so far: the steps, the trace, the blocks of memory, what is in them. -/
structure St where
 n : Nat
 tr : List Int
 bs : List Nat
 f : Int → Int → Int
/-- It goes on, or is over: by a trap, or since the steps are spent. -/
inductive Rs (α : Type) where
 | ok (a : α) (s : St)
 | over (t : Int) (sp : Bool) (s : St)
abbrev Rg := Nat → Int
def setR (ρ : Rg) (n : Nat) (x : Int) : Rg := fun m => if m = n then x else ρ m
def rg (ρ : Rg) (n : Int) : Int := ρ n.toNat
def St.up (s : St) : St := { s with n := s.n + 1 }

/-- What an instruction answers that looks at registers alone: the number, the trap. -/
def reck1 (keep : Nat) (ρ : Rg) (i : PI) : Int :=
 if i.op = 20 then i.imm else if i.op = 21 then rg ρ i.a else if i.op = 22 then Burin.un1 1 i.ty (rg ρ i.a) else if i.op = 23 then Burin.un1 2 i.ty (rg ρ i.a) else if i.op = 24 then Burin.un1 3 i.ty (rg ρ i.a)
 else if i.op = 25 then Burin.wr i.ty (rg ρ i.a) else if i.op = 26 then ((keep : Int) + i.imm) * 1048576 else if i.op = 27 then i.imm * 1048576
 else if i.op = 28 then (if rg ρ i.b < 0 ∨ i.imm ≤ rg ρ i.b then 0 else wrap64 (rg ρ i.a + rg ρ i.b)) else if i.op = 29 then wrap64 (rg ρ i.a + i.imm)
 else Burin.do1 i.op i.ty (rg ρ i.a) (rg ρ i.b)
def reck2 (ρ : Rg) (i : PI) : Int :=
 if i.op = 20 then 0 else if i.op = 21 then 0 else if i.op = 22 then Burin.un2 1 i.ty (rg ρ i.a) else if i.op = 23 then Burin.un2 2 i.ty (rg ρ i.a) else if i.op = 24 then Burin.un2 3 i.ty (rg ρ i.a)
 else if i.op = 25 then 0 else if i.op = 26 then 0 else if i.op = 27 then 0
 else if i.op = 28 then (if rg ρ i.b < 0 ∨ i.imm ≤ rg ρ i.b then 4 else 0) else if i.op = 29 then 0
 else Burin.do2 i.op i.ty (rg ρ i.a) (rg ρ i.b)

abbrev hiA (a : Int) : Int := a / 1048576
abbrev loA (a : Int) : Int := a % 1048576
abbrev CallT := Nat → List Int → St → Rs Int
def exI (cf : CallT) (fuel keep : Nat) (i : PI) (ρ : Rg) (s : St) : Rs Rg :=
 if s.n = fuel then .over 0 true s
 else if i.op = 33 then .ok ρ { s.up with tr := s.tr ++ [rg ρ i.a] }
 else if i.op = 31 then (if Me.inB s.bs (hiA (rg ρ i.a)) (loA (rg ρ i.a)) then .ok ρ { s.up with f := Me.upd s.f (hiA (rg ρ i.a)) (loA (rg ρ i.a)) (rg ρ i.b) } else .over 5 false s.up)
 else if i.op = 30 then (if Me.inB s.bs (hiA (rg ρ i.a)) (loA (rg ρ i.a)) then .ok (setR ρ i.dst.toNat (s.f (hiA (rg ρ i.a)) (loA (rg ρ i.a)))) s.up else .over 5 false s.up)
 else if i.op = 32 then (match cf i.imm.toNat (i.args.map (rg ρ)) s.up with | .ok v s2 => .ok (setR ρ i.dst.toNat v) s2 | .over t sp s2 => .over t sp s2)
 else if reck2 ρ i = 0 then .ok (setR ρ i.dst.toNat (reck1 keep ρ i)) s.up else .over (reck2 ρ i) false s.up
def insR (cf : CallT) (fuel keep : Nat) : List PI → Rg → St → Rs Rg
 | [], ρ, s => .ok ρ s
 | i :: l, ρ, s => match exI cf fuel keep i ρ s with
  | .ok ρ' s' => insR cf fuel keep l ρ' s'
  | .over t sp s' => .over t sp s'
def nextP (p : PP) (ρ : Rg) : Int := if 0 ≤ p.cond ∧ rg ρ p.cond = 0 then p.els else p.next
def partsR (cf : CallT) (fuel keep : Nat) (f : PF) : Nat → Nat → Rg → St → Rs Int
 | 0, _, _, s => .over 0 true s
 | g + 1, at', ρ, s => match f.parts[at']? with
  | none => .over 0 true s
  | some p => match insR cf fuel keep p.ins ρ s with
   | .over t sp s' => .over t sp s'
   | .ok ρ' s' => if s'.n = fuel then .over 0 true s' else if p.e then .ok (rg ρ' p.cond) s'.up else partsR cf fuel keep f g (nextP p ρ').toNat ρ' s'.up
def allocs : List Int → List Nat → Option (List Nat)
 | [], bs => some bs
 | c :: l, bs => if 65536 - ((bs.sum : Nat) : Int) < c then none else allocs l (bs ++ [c.toNat])
def argR (l : List Int) : Rg := fun n => l.getD n 0
def callR (c : PC) (fuel : Nat) : Nat → CallT
 | 0, _, _, s => .over 0 true s
 | g + 1, k, ar, s => match c.fns[k]? with
  | none => .over 0 true s
  | some f => match allocs f.slots s.bs with
   | none => .over 5 false s
   | some bs' => match partsR (callR c fuel g) fuel s.bs.length f (fuel + 1) 0 (argR ar) { s with bs := bs' } with
    | .ok v s2 => .ok v { s2 with bs := s2.bs.take s.bs.length, f := Me.keepf s2.f s.bs.length }
    | .over t sp s2 => .over t sp s2
def glF (ini : List Int) : Int → Int → Int := fun a b => if 0 ≤ a ∧ b = 0 then ini.getD a.toNat 0 else 0
def start (c : PC) : St := ⟨0, [], c.gl.map Int.toNat, glF c.ini⟩
def runP (c : PC) (fuel : Nat) : Rs Int := callR c fuel c.fns.length (c.fns.length - 1) [] (start c)

/-- The outcome as a value's parts: halted, exit, trap, spent, steps, trace. -/
structure Oc where
 h : Bool
 x : Int
 t : Int
 sp : Bool
 n : Nat
 tr : List Int
def ocP : Rs Int → Oc
 | .ok v s => ⟨true, v, 0, false, s.n, s.tr⟩
 | .over t sp s => ⟨false, 0, t, sp, s.n, s.tr⟩

end Go.Proofs.Ytphknepblchkdaa
