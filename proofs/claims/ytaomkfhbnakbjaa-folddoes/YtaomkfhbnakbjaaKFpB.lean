/-
  What was last written and what is known at a place of a part, by the document (last, known of the statements of layer 16): contracts over the program; the conditions: the instructions lie in memory.
-/
import Derived.Test.YtaomkfhbnakbjaaKFpA
namespace Go.Proofs.Ytaomkfhbnakbjaa.Fo
open Go.RowKit
set_option linter.unusedVariables false

abbrev ptV (p : PP) : Value := .agg #[.slice p.ia p.ins.length p.ic, .bool p.e, .int .i64 p.cond, .int .i64 p.next, .int .i64 p.els]
abbrev bxP (w : World) (p : PP) : World := w.alloc (.cells #[.slice p.ia p.ins.length p.ic, .bool p.e, .int .i64 p.cond, .int .i64 p.next, .int .i64 p.els] 49)
theorem bxP_q (w : World) (p : PP) : Q w (bxP w p) := (Q.refl w).alloc _
theorem bxP_at (w : World) (p : PP) : (bxP w p).cell? ⟨w.heap.size, 0, none⟩ = some (.slice p.ia p.ins.length p.ic) := cell_of_block (heap_new _ _) 0
def lastI (o : Option Nat) : Int := match o with | some i => (i : Int) | none => -1

set_option maxRecDepth 100000 in
set_option maxHeartbeats 2000000 in
theorem last_any (w : World) (p : PP) (r : Int) (k0 : Nat) (hp : p.ok w) (hk0 : k0 ≤ p.ins.length) : Calls Try.prog 72 #[ptV p, .int .i64 r, .int .i64 (k0 : Int)] w fun e w' => e = .returned (.int .i64 (lastI (lastP p.ins r k0))) ∧ Q w w' := by
  have HB := hideIt (bxP_at w p)
  have HQ := hideIt (bxP_q w p)
  have HI := hideIt (Insts.keep (bxP_q w p) hp.ins)
  have hlen : p.ins.length ≤ 9223372036854775807 := hp.sok.len
  clear hp
  generalize hBB : bxP w p = B at *
  have HBB := hideIt hBB
  clear hBB
  have m1 : IntKind.i64.wrap ((k0 : Int) - 1) = (k0 : Int) - 1 := by simp [IntKind.wrap, IntKind.bits, IntKind.signed]; omega
  go_enter Try.func72, Try.ntmps72
  go_wp2_with (fail)
  rw [show w.alloc (.cells #[.slice p.ia p.ins.length p.ic, .bool p.e, .int .i64 p.cond, .int .i64 p.next, .int .i64 p.els] 49) = B from HBB.out]
  go_loopw [7] (fun iv z => ∃ (k : Nat), iv = .int .i64 ((k : Int) - 1) ∧ k ≤ k0 ∧ Hid (lastP p.ins r k0 = lastP p.ins r k) ∧ z = B) (fun iv _ => (intOf iv + 1).toNat)
  case atStart => exact ⟨k0, by first | rfl | go_num, Nat.le_refl _, rfl, rfl⟩
  case round =>
    obtain ⟨k, rfl, hk, HL, rfl⟩ := hrel
    cases k with
    | zero =>
      have h0 : ¬ (0 : Int) ≤ ((0 : Nat) : Int) - 1 := by omega
      go_wp2_with (fail)
      go_ret
      exact ⟨by rw [HL.out]; rfl, HQ.out⟩
    | succ k =>
      obtain ⟨x, hx⟩ := get_of_lt (l := p.ins) (k := k) (by omega)
      obtain ⟨ib, io, eia, hat⟩ := HI.out k x hx
      obtain ⟨c0, -, c2, -, -, -, -⟩ := hat.1.seven
      have HB' := HB.out
      rw [eia] at HB'
      have HL' : Hid (lastP p.ins r k0 = if wrP x.op = true ∧ x.dst = r then some k else lastP p.ins r k) := Eq.trans (HL.out) (lastP_step hx)
      have ek : ((k + 1 : Nat) : Int) - 1 = (k : Int) := by omega
      rw [ek]
      have hkl : (k : Int) < (p.ins.length : Int) := by omega
      have hk0' : (0 : Int) ≤ (k : Int) := by omega
      clear hx hat eia ek
      cases hw : wrP x.op with
      | false =>
        go_wp2_with (first | (go_at_call 94; refine (writes_any _ _).mono ?_; rw [hw]; rintro e z ⟨rfl, rfl⟩) | fail)
        go_roundw
        case rel => exact ⟨k, by go_num, by omega, by show lastP p.ins r k0 = _; rw [show lastP p.ins r k0 = _ from HL'.out, if_neg (by rw [hw]; simp)], (by first | rfl | trivial)⟩
        case measure => simp [intOf]
      | true =>
        by_cases hd : x.dst = r
        · have hd' : (x.dst == r) = true := by simpa using hd
          go_wp2_with (first | (go_at_call 94; refine (writes_any _ _).mono ?_; rw [hw]; rintro e z ⟨rfl, rfl⟩) | fail)
          go_ret
          exact ⟨by rw [show lastP p.ins r k0 = _ from HL'.out, if_pos ⟨hw, hd⟩]; rfl, HQ.out⟩
        · have hd' : (x.dst == r) = false := by simpa using hd
          go_wp2_with (first | (go_at_call 94; refine (writes_any _ _).mono ?_; rw [hw]; rintro e z ⟨rfl, rfl⟩) | fail)
          go_roundw
          case rel => exact ⟨k, by go_num, by omega, by show lastP p.ins r k0 = _; rw [show lastP p.ins r k0 = _ from HL'.out, if_neg (fun e => hd e.2)], (by first | rfl | trivial)⟩
          case measure => simp [intOf]

set_option maxRecDepth 100000 in
set_option maxHeartbeats 2000000 in
theorem known_any (w : World) (p : PP) (r : Int) (k0 : Nat) (hp : p.ok w) (hk0 : k0 ≤ p.ins.length) : Calls Try.prog 42 #[ptV p, .int .i64 r, .int .i64 (k0 : Int)] w fun e w' => e = .returned (.tuple #[.int .i64 ((knownP p.ins r k0).getD 0), .bool (knownP p.ins r k0).isSome]) ∧ Q w w' := by
  have HQ := hideIt (bxP_q w p)
  have CL := hideIt (last_any (bxP w p) p r k0 (hp.keep (bxP_q w p)) hk0)
  have HB : Hid (∀ X, Q (bxP w p) X → X.cell? ⟨w.heap.size, 0, none⟩ = some (.slice p.ia p.ins.length p.ic)) := fun X h => cell_keep h (bxP_at w p)
  have HI : Hid (∀ X, Q (bxP w p) X → Insts X p.ia p.ins) := fun X h => Insts.keep ((bxP_q w p).trans h) hp.ins
  have hlen : p.ins.length ≤ 9223372036854775807 := hp.sok.len
  clear hp
  unfold knownP
  cases hl : lastP p.ins r k0 with
  | none =>
    rw [hl] at CL
    have CL' : Hid (Calls Try.prog 72 #[ptV p, .int .i64 r, .int .i64 (k0 : Int)] (bxP w p) fun e w' => e = .returned (.int .i64 (-1)) ∧ Q (bxP w p) w') := CL.out
    clear CL hl
    go_enter Try.func42, Try.ntmps42
    go_wp2_with (first | (go_at_call 72; refine CL'.out.mono ?_; rintro e z ⟨rfl, q⟩; have QZ := hideIt (HQ.out.trans q); clear q) | fail)
    go_ret2
    exact ⟨rfl, QZ.out⟩
  | some i =>
    rw [hl] at CL
    have hi := lastP_lt hl
    obtain ⟨x, hx⟩ := get_of_lt (l := p.ins) (k := i) (by omega)
    dsimp only
    rw [hx]
    dsimp only
    have CL' : Hid (Calls Try.prog 72 #[ptV p, .int .i64 r, .int .i64 (k0 : Int)] (bxP w p) fun e w' => e = .returned (.int .i64 (i : Int)) ∧ Q (bxP w p) w') := CL.out
    have CX : Hid (∀ X, Q (bxP w p) X → ∃ ib io, p.ia = some ⟨ib, io, none⟩ ∧ X.cell? ⟨ib, io + i * 7, none⟩ = some (.int .u8 x.op) ∧ X.cell? ⟨ib, io + i * 7 + 5, none⟩ = some (.int .i64 x.imm)) := fun X h => by
      obtain ⟨ib, io, e, hat⟩ := HI.out X h i x hx
      exact ⟨ib, io, e, hat.1.seven.1, hat.1.seven.2.2.2.2.2.1⟩
    have hil : (i : Int) < (p.ins.length : Int) := by omega
    have hi0 : ¬ (i : Int) < 0 := by omega
    clear CL hl hx HI
    by_cases h20 : x.op = 20
    · have h20' : (x.op != 20) = false := by simpa using h20
      rw [if_pos h20]
      go_enter Try.func42, Try.ntmps42
      go_wp2_with (first | (go_at_call 72; refine CL'.out.mono ?_; rintro e z ⟨rfl, q⟩; have QZ := hideIt (HQ.out.trans q); obtain ⟨ib, io, eia, c0, c5⟩ := CX.out z q; have b0 := HB.out z q; rw [eia] at b0; clear q) | fail)
      go_ret2
      exact ⟨rfl, QZ.out⟩
    · have h20' : (x.op != 20) = true := by simpa using h20
      rw [if_neg h20]
      go_enter Try.func42, Try.ntmps42
      go_wp2_with (first | (go_at_call 72; refine CL'.out.mono ?_; rintro e z ⟨rfl, q⟩; have QZ := hideIt (HQ.out.trans q); obtain ⟨ib, io, eia, c0, c5⟩ := CX.out z q; have b0 := HB.out z q; rw [eia] at b0; clear q) | fail)
      go_ret2
      exact ⟨rfl, QZ.out⟩

end Go.Proofs.Ytaomkfhbnakbjaa.Fo
