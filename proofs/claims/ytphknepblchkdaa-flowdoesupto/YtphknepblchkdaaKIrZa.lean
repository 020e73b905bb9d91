/-
 Two codes that are alike are told to be: contracts over the program.
-/
import Derived.Test.YtphknepblchkdaaKIrP
namespace Go.Proofs.Ytphknepblchkdaa
open Go.RowKit
set_option linter.unusedVariables false

structure EvI (x y : PI) : Prop where
 op : x.op = y.op
 ty : x.ty = y.ty
 dst : x.dst = y.dst
 a : x.a = y.a
 b : x.b = y.b
 imm : x.imm = y.imm
 args : x.args = y.args
structure EvL {α : Type} (R : α → α → Prop) (l m : List α) : Prop where
 len : l.length = m.length
 each : ∀ (k : Nat) (x y : α), l[k]? = some x → m[k]? = some y → R x y
structure EvP (p q : PP) : Prop where
 e : p.e = q.e
 cond : p.cond = q.cond
 next : p.next = q.next
 els : p.els = q.els
 ins : EvL EvI p.ins q.ins
structure EvF (f g : PF) : Prop where
 params : f.params = g.params
 regs : f.regs = g.regs
 slots : f.slots = g.slots
 parts : EvL EvP f.parts g.parts
structure EvC (a c : PC) : Prop where
 gl : a.gl = c.gl
 ini : a.ini = c.ini
 fns : EvL EvF a.fns c.fns

end Go.Proofs.Ytphknepblchkdaa
