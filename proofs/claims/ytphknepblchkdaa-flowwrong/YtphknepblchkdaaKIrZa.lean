/-
  Two codes that are alike are told to be: contracts over the program.
-/
import Derived.Test.YtphknepblchkdaaKIrP
namespace Go.Proofs.Ytphknepblchkdaa
open Go.RowKit
set_option linter.unusedVariables false

structure EvI (x y : PI) : Prop where
  op : x.op = y.op
  ty : x.ty = y.ty
  dst : x.dst = y.dst
  a : x.a = y.a
  b : x.b = y.b
  imm : x.imm = y.imm
  args : x.args = y.args
structure EvL {α : Type} (R : α → α → Prop) (l m : List α) : Prop where
  len : l.length = m.length
  each : ∀ (k : Nat) (x y : α), l[k]? = some x → m[k]? = some y → R x y
structure EvP (p q : PP) : Prop where
  e : p.e = q.e
  cond : p.cond = q.cond
  next : p.next = q.next
  els : p.els = q.els
  ins : EvL EvI p.ins q.ins
structure EvF (f g : PF) : Prop where
  params : f.params = g.params
  regs : f.regs = g.regs
  slots : f.slots = g.slots
  parts : EvL EvP f.parts g.parts
structure EvC (a c : PC) : Prop where
  gl : a.gl = c.gl
  ini : a.ini = c.ini
  fns : EvL EvF a.fns c.fns

theorem ints_same (w : World) (a b : Option Addr) (ca cb : Nat) (l : List Int) (hlen : l.length ≤ 9223372036854775807) (ha : Ints w a l) (hb : Ints w b l) :
    Calls Try.prog 31 #[.slice a l.length ca, .slice b l.length cb] w fun e w' => e = .returned (.bool true) ∧ Q w w' := by
  have HA := hideIt ha
  have HB := hideIt hb
  clear ha hb
  go_enter Try.func31, Try.ntmps31
  go_wp2_with (fail)
  go_loopw [5] (fun i wr => ∃ (k : Nat), i = .int .i64 k ∧ k ≤ l.length ∧ Q w wr) (fun i _ => l.length - (intOf i).toNat)
  case atStart => exact ⟨0, rfl, by omega, Q.refl _⟩
  case round =>
    obtain ⟨k, rfl, hk, hq⟩ := hrel
    have HQ := hideIt hq
    clear hq
    by_cases hlt : k < l.length
    · obtain ⟨z, hz⟩ := get_of_lt hlt
      obtain ⟨b1, o1, e1, hc1, -⟩ := (Ints.keep HQ.out HA.out) k z hz
      obtain ⟨b2, o2, e2, hc2, -⟩ := (Ints.keep HQ.out HB.out) k z hz
      rw [Nat.mul_one] at hc1 hc2
      subst e1 e2
      have hkl : (k : Int) < (l.length : Int) := by omega
      clear hz
      go_wp2_with (fail)
      go_quiet (fail)
      go_wp2
      go_roundw
      case rel => exact ⟨k + 1, by go_num, by omega, Q.drewN HQ.out _⟩
      case measure => simp [intOf]; omega
    · go_wp2_with (fail)
      go_ret
      exact ⟨rfl, HQ.out⟩

end Go.Proofs.Ytphknepblchkdaa
