/-
  Whether a function is right, by layer 13: a contract over the program.
-/
import Derived.Test.YtiiggldapncknaaIrJ
namespace Go.Proofs.Ytiiggldapncknaa
open Go.RowKit
set_option linter.unusedVariables false

def ptP (c : PC) (k : Nat) (f : PF) (p : PP) : Bool := endP f p && p.ins.all (insP c k f)
def headP (f : PF) : Bool := !decide (f.params < 0) && (!decide (f.regs < f.params) && (!decide (20000 < f.regs) && (!decide (f.parts.length = 0) && roomL 65536 f.slots)))
def fnP (c : PC) (k : Nat) (f : PF) : Bool := headP f && f.parts.all (ptP c k f)

set_option maxRecDepth 100000 in
set_option maxHeartbeats 2000000 in
theorem function_bad (w : World) (cb co k : Nat) (c : PC) (f : PF) (hc : At w cb co c.cells) (hcok : c.ok w) (hk : c.fns[k]? = some f) (hh : headP f = false) :
    Calls Try.prog 35 #[.pointer (some ⟨cb, co, none⟩), .int .i64 (k : Int)] w fun e w' => e = .returned (.bool (fnP c k f)) ∧ Q w w' := by
  obtain ⟨c0, c1, c2⟩ := hc.three
  obtain ⟨fb, fo, efa, hf, hfok⟩ := hcok.fns k f hk
  have hkl : k < c.fns.length := (List.getElem?_eq_some_iff.1 hk).1
  have hkl' : (k : Int) < (c.fns.length : Int) := by omega
  have hlen : c.fns.length ≤ 9223372036854775807 := hcok.fsok.len
  have hplen : f.parts.length ≤ 9223372036854775807 := hfok.psok.len
  rw [efa] at c2
  obtain ⟨f0, f1, f2, f3⟩ := hf.four
  have CR := hideIt (fun n => room_any (w.drewN n) f.sa f.sc f.slots hfok.ssok (hfok.slots.keep ((Q.refl w).drewN n)))
  have CE : Hid (∀ X, Q w X → ∀ pb po p, At X pb po (PP.cells p) → Calls Try.prog 39 #[.pointer (some ⟨fb, fo + k * 4, none⟩), .pointer (some ⟨pb, po, none⟩)] X fun e w' => e = .returned (.bool (endP f p)) ∧ Q X w') := fun X h pb po p hp => drQ (end_any X fb (fo + k * 4) pb po f p (hf.keep h) hp)
  have CI : Hid (∀ X, Q w X → ∀ ib io x, InsAt X ib io x → Calls Try.prog 40 #[.pointer (some ⟨cb, co, none⟩), .int .i64 (k : Int), .pointer (some ⟨ib, io, none⟩)] X fun e w' => e = .returned (.bool (insP c k f x)) ∧ Q X w') := fun X h ib io x hx => instruction_any X cb co ib io k c f x (hc.keep h) (hcok.keep h) hk hx.1 hx.2
  have HF := hideIt hf
  have HP := hideIt hfok.parts
  clear hc hcok hk hf hfok efa
  unfold fnP
  rw [hh, Bool.false_and]
  unfold headP at hh
  cases h1 : decide (f.params < 0)
  case true =>
    clear CR CE CI HP HF hh
    go_enter Try.func35, Try.ntmps35
    go_wp2_with (fail)
    go_quiet (fail)
    go_wp2
    go_ret
    exact ⟨by first | rfl | simp, (Q.refl w).drewN _⟩
  cases h2 : decide (f.regs < f.params)
  case true =>
    clear CR CE CI HP HF hh
    go_enter Try.func35, Try.ntmps35
    go_wp2_with (fail)
    go_quiet (fail)
    go_wp2
    go_ret
    exact ⟨by first | rfl | simp, (Q.refl w).drewN _⟩
  cases h3 : decide (20000 < f.regs)
  case true =>
    clear CR CE CI HP HF hh
    go_enter Try.func35, Try.ntmps35
    go_wp2_with (fail)
    go_quiet (fail)
    go_wp2
    go_ret
    exact ⟨by first | rfl | simp, (Q.refl w).drewN _⟩
  by_cases h4 : f.parts.length = 0
  · have h4' : ((f.parts.length : Int) = 0) = True := by simp [h4]
    have e : decide (f.parts.length = 0) = true := by simpa using h4
    clear CR CE CI HP HF e hh
    rw [h4] at f3
    go_enter Try.func35, Try.ntmps35
    go_wp2_with (fail)
    go_quiet (fail)
    go_wp2
    go_ret
    exact ⟨by first | rfl | simp, (Q.refl w).drewN _⟩
  have e : decide (f.parts.length = 0) = false := by simpa using h4
  rw [e] at hh
  clear e
  cases h5 : roomL 65536 f.slots <;> rw [h5] at CR
  · clear CE CI HP HF hh
    go_enter Try.func35, Try.ntmps35
    go_wp2_with (fail)
    go_quiet (first | (go_at_call 34; exact Calls.quiet_of_same (CR.out _)) | fail)
    go_wp2
    go_ret
    exact ⟨by first | rfl | simp, (Q.refl w).drewN _⟩
  · rw [h1, h2, h3, h5] at hh
    cases hh

end Go.Proofs.Ytiiggldapncknaa
