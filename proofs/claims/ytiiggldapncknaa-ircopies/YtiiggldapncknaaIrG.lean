/-
  How a part ends, what an instruction writes and reads, by layer 13: contracts over the program.
-/
import Derived.Test.YtiiggldapncknaaIrF
import Derived.BigQuiet
import Derived.Deep.RegionHeld3
namespace Go.Proofs.Ytiiggldapncknaa
open Go.RowKit
set_option linter.unusedVariables false

theorem Q.drewN {a w : World} (h : Q a w) (m : Nat) : Q a (w.drewN m) := ⟨h.os, h.tape, h.output, h.size, h.block⟩
def Dr (w w' : World) : Prop := ∃ m, w' = w.drewN m
theorem Dr.q {w w' : World} (h : Dr w w') : Q w w' := by obtain ⟨m, rfl⟩ := h; exact (Q.refl w).drewN m
theorem Dr.trans {a b c : World} (h : Dr a b) (k : Dr b c) : Dr a c := by
  obtain ⟨m, rfl⟩ := h
  obtain ⟨n, rfl⟩ := k
  exact ⟨m + n, by rw [World.drewN_drewN]⟩
theorem Dr.refl (w : World) : Dr w w := ⟨0, rfl⟩

def endP (f : PF) (p : PP) : Bool := if p.e then blP p.cond f.regs else if p.cond < 0 then blP p.next f.parts.length else blP p.cond f.regs && (blP p.next f.parts.length && blP p.els f.parts.length)

set_option maxRecDepth 100000 in
theorem end_any (w : World) (fb fo pb po : Nat) (f : PF) (p : PP) (hf : At w fb fo f.cells) (hp : At w pb po p.cells) :
    Calls Try.prog 39 #[.pointer (some ⟨fb, fo, none⟩), .pointer (some ⟨pb, po, none⟩)] w fun e w' => e = .returned (.bool (endP f p)) ∧ Dr w w' := by
  obtain ⟨f0, f1, f2, f3⟩ := hf.four
  obtain ⟨p0, p1, p2, p3, p4⟩ := hp.five
  clear hf hp
  unfold endP
  generalize f.parts.length = np at *
  generalize f.regs = regs at *
  generalize p.cond = cond at *
  generalize p.next = next at *
  generalize p.els = els at *
  cases he : p.e <;> rw [he] at p1
  · by_cases hc : cond < 0
    · have e1 : decide (cond < 0) = true := by simpa using hc
      have C1 := hideIt (fun X => below_any next np X)
      simp only [hc, if_true]
      generalize blP next np = r at *
      go_enter Try.func39, Try.ntmps39
      go_wp2_with (fail)
      go_quiet (first | (go_at_call 42; exact Calls.quiet_of_same (C1.out _)) | fail)
      go_wp2
      go_ret
      exact ⟨by first | rfl | simp, _, rfl⟩
    · have e1 : decide (cond < 0) = false := by simpa using hc
      have C1 := hideIt (fun X => below_any cond regs X)
      have C2 := hideIt (fun X => below_any next np X)
      have C3 := hideIt (fun X => below_any els np X)
      simp only [hc, if_false]
      clear hc
      generalize h1 : blP cond regs = r1 at *
      generalize h2 : blP next np = r2 at *
      generalize h3 : blP els np = r3 at *
      clear h1 h2 h3
      cases r1 <;> cases r2 <;>
      · go_enter Try.func39, Try.ntmps39
        go_wp2_with (fail)
        go_quiet (first | (go_at_call_of 42 (Value.int IntKind.i64 cond); exact Calls.quiet_of_same (C1.out _)) | (go_at_call_of 42 (Value.int IntKind.i64 next); exact Calls.quiet_of_same (C2.out _)) | (go_at_call_of 42 (Value.int IntKind.i64 els); exact Calls.quiet_of_same (C3.out _)) | fail)
        go_wp2
        go_ret
        exact ⟨by first | rfl | simp, _, rfl⟩
  · have C1 := hideIt (fun X => below_any cond regs X)
    generalize blP cond regs = r at *
    go_enter Try.func39, Try.ntmps39
    go_wp2_with (fail)
    go_quiet (first | (go_at_call 42; exact Calls.quiet_of_same (C1.out _)) | fail)
    go_wp2
    go_ret
    exact ⟨by first | rfl | simp, _, rfl⟩

def rdsP (f : PF) (x : PI) : Bool := (!(decide (0 < rdP x.op)) || blP x.a f.regs) && (!(decide (1 < rdP x.op)) || blP x.b f.regs) && (!(x.op == 32) || x.args.all (fun r => blP r f.regs))

end Go.Proofs.Ytiiggldapncknaa
