/-
 How a part ends, what an instruction writes and reads, by layer 13: contracts over the program.
 What an instruction reads and writes, by layer 13's own test: contracts over the program.
 Whether an instruction is right, by layer 13: contracts over the program.
 Whether an instruction is right, and how many there are, by layer 13 and by the document's answer: contracts over the program.
 Whether a function is right, by layer 13: a contract over the program.
 Whether a function is right, by layer 13, where its head is: a contract over the program.
 How many instructions and parts code has, by layer 13: a contract over the program.
 Whether code is right, by layer 13: contracts over the program.
-/
import Derived.Test.YtphknepblchkdaaKIrF
import Derived.BigQuiet
import Derived.Deep.RegionHeld3
namespace Go.Proofs.Ytphknepblchkdaa
open Go.RowKit
set_option linter.unusedVariables false

theorem Q.drewN {a w : World} (h : Q a w) (m : Nat) : Q a (w.drewN m) := ⟨h.os, h.tape, h.output, h.size, h.block⟩
def Dr (w w' : World) : Prop := ∃ m, w' = w.drewN m
theorem Dr.q {w w' : World} (h : Dr w w') : Q w w' := by obtain ⟨m, rfl⟩ := h; exact (Q.refl w).drewN m
theorem Dr.trans {a b c : World} (h : Dr a b) (k : Dr b c) : Dr a c := by
 obtain ⟨m, rfl⟩ := h
 obtain ⟨n, rfl⟩ := k
 exact ⟨m + n, by rw [World.drewN_drewN]⟩
theorem Dr.refl (w : World) : Dr w w := ⟨0, rfl⟩

def endP (f : PF) (p : PP) : Bool := if p.e then blP p.cond f.regs else if p.cond < 0 then blP p.next f.parts.length else blP p.cond f.regs && (blP p.next f.parts.length && blP p.els f.parts.length)

set_option maxRecDepth 100000 in
theorem end_any (w : World) (fb fo pb po : Nat) (f : PF) (p : PP) (hf : At w fb fo f.cells) (hp : At w pb po p.cells) :
  Calls Try.prog 76 #[.pointer (some ⟨fb, fo, none⟩), .pointer (some ⟨pb, po, none⟩)] w fun e w' => e = .returned (.bool (endP f p)) ∧ Dr w w' := by
 obtain ⟨f0, f1, f2, f3⟩ := hf.four
 obtain ⟨p0, p1, p2, p3, p4⟩ := hp.five
 clear hf hp
 unfold endP
 generalize f.parts.length = np at *
 generalize f.regs = regs at *
 generalize p.cond = cond at *
 generalize p.next = next at *
 generalize p.els = els at *
 cases he : p.e <;> rw [he] at p1
 ·by_cases hc : cond < 0
  ·have e1 : decide (cond < 0) = true := by simpa using hc
   have C1 := hideIt (fun X => below_any next np X)
   simp only [hc, if_true]
   generalize blP next np = r at *
   go_enter Try.func76, Try.ntmps76
   go_wp2_with (fail)
   go_quiet (first | (go_at_call 88; exact Calls.quiet_of_same (C1.out _)) | fail)
   go_wp2
   go_ret
   exact ⟨by first | rfl | simp, _, rfl⟩
  ·have e1 : decide (cond < 0) = false := by simpa using hc
   have C1 := hideIt (fun X => below_any cond regs X)
   have C2 := hideIt (fun X => below_any next np X)
   have C3 := hideIt (fun X => below_any els np X)
   simp only [hc, if_false]
   clear hc
   generalize h1 : blP cond regs = r1 at *
   generalize h2 : blP next np = r2 at *
   generalize h3 : blP els np = r3 at *
   clear h1 h2 h3
   cases r1 <;> cases r2 <;>
   ·go_enter Try.func76, Try.ntmps76
    go_wp2_with (fail)
    go_quiet (first | (go_at_call_of 88 (Value.int IntKind.i64 cond); exact Calls.quiet_of_same (C1.out _)) | (go_at_call_of 88 (Value.int IntKind.i64 next); exact Calls.quiet_of_same (C2.out _)) | (go_at_call_of 88 (Value.int IntKind.i64 els); exact Calls.quiet_of_same (C3.out _)) | fail)
    go_wp2
    go_ret
    exact ⟨by first | rfl | simp, _, rfl⟩
 ·have C1 := hideIt (fun X => below_any cond regs X)
  generalize blP cond regs = r at *
  go_enter Try.func76, Try.ntmps76
  go_wp2_with (fail)
  go_quiet (first | (go_at_call 88; exact Calls.quiet_of_same (C1.out _)) | fail)
  go_wp2
  go_ret
  exact ⟨by first | rfl | simp, _, rfl⟩

def rdsP (f : PF) (x : PI) : Bool := (!(decide (0 < rdP x.op)) || blP x.a f.regs) && (!(decide (1 < rdP x.op)) || blP x.b f.regs) && (!(x.op == 32) || x.args.all (fun r => blP r f.regs))

end Go.Proofs.Ytphknepblchkdaa

namespace Go.Proofs.Ytphknepblchkdaa
open Go.RowKit
set_option linter.unusedVariables false

theorem all_drop {α : Type} {p : α → Bool} {l : List α} {k : Nat} {x : α} (h : l[k]? = some x) : (l.drop k).all p = (p x && (l.drop (k + 1)).all p) := by
 obtain ⟨hk, e⟩ := List.getElem?_eq_some_iff.1 h
 rw [List.drop_eq_getElem_cons hk, e]
 rfl

theorem rdP_32 : rdP 32 = 0 := by decide

set_option maxRecDepth 100000 in
theorem read_any (w : World) (fb fo ib io : Nat) (f : PF) (x : PI) (hf : At w fb fo f.cells) (hx : At w ib io x.cells) (hok : x.ok w) :
  Calls Try.prog 91 #[.pointer (some ⟨fb, fo, none⟩), .pointer (some ⟨ib, io, none⟩)] w fun e w' => e = .returned (.bool (rdsP f x)) ∧ Dr w w' := by
 obtain ⟨f0, f1, f2, f3⟩ := hf.four
 obtain ⟨i0, i1, i2, i3, i4, i5, i6⟩ := hx.seven
 have CR := hideIt (fun X => reads_any x.op X)
 have HA := hideIt (And.intro hok.sok hok.args)
 clear hf hx hok
 unfold rdsP
 rcases x with ⟨op, ty, dst, a, b, imm, args, aa, ac⟩
 dsimp only at *
 generalize f.regs = regs at *
 by_cases h32 : op = 32
 ·subst h32
  rw [rdP_32] at CR ⊢
  have e0 : ((!decide (0 < (0 : Nat)) || blP a regs) && (!decide (1 < (0 : Nat)) || blP b regs) && (!((32 : Int) == 32) || args.all (fun r => blP r regs))) = args.all (fun r => blP r regs) := by simp
  rw [e0]
  clear e0
  have hlen := HA.out.1.len
  go_enter Try.func91, Try.ntmps91
  go_wp2_with (first | (go_at_call 94; refine (CR.out _).mono ?_; rintro e x ⟨rfl, rfl⟩) | fail)
  go_quiet (fail)
  go_wp2
  generalize hW : x.drewN nq = W
  go_loopw [7, 53] (fun m i wr => ∃ (k : Nat), i = .int .i64 k ∧ k ≤ args.length ∧ args.all (fun r => blP r regs) = (args.drop k).all (fun r => blP r regs) ∧ wr = W) (fun _ i _ => args.length - (intOf i).toNat)
  case atStart => exact ⟨0, rfl, by omega, by simp, rfl⟩
  case round =>
   obtain ⟨k, rfl, hk, r3, rfl⟩ := hrel
   have HR := hideIt r3
   clear r3
   have qd : Q x wr := by rw [← hW]; exact (Q.refl x).drewN _
   have f1' := cell_keep qd f1
   have HW := hideIt hW
   have HQ := hideIt qd
   clear hW qd f0 f1 f2 f3 i0 i1 i2 i3 i4 i5 i6
   by_cases hlt : k < args.length
   ·obtain ⟨r, hr⟩ := get_of_lt hlt
    obtain ⟨b1, o1, rfl, hc, hI⟩ := HA.out.2 k r hr
    rw [Nat.mul_one] at hc
    have hc' := cell_keep HQ.out hc
    have CB := hideIt (fun X => below_any r regs X)
    have HX := hideIt hr
    have hkl : (k : Int) < (args.length : Int) := by omega
    clear hr hI hc
    cases h1 : blP r regs <;> rw [h1] at CB
    ·go_wp2_with (first | (go_at_call 88; refine (CB.out _).mono ?_; rintro e x ⟨rfl, rfl⟩) | fail)
     go_ret
     refine ⟨?_, _, HW.out.symm⟩
     rw [HR.out, all_drop HX.out, h1]
     rfl
    ·go_wp2_with (first | (go_at_call 88; refine (CB.out _).mono ?_; rintro e x ⟨rfl, rfl⟩) | fail)
     go_roundw
     case rel =>
      refine ⟨k + 1, by go_num, by omega, ?_, by first | rfl | trivial⟩
      rw [HR.out, all_drop HX.out, h1]
      simp
     case measure => simp [intOf]; omega
   ·have ek : k = args.length := by omega
    go_wp2_with (fail)
    go_ret
    refine ⟨?_, _, HW.out.symm⟩
    rw [HR.out, ek, List.drop_length]
    rfl
 ·have e0 : (!(op == 32) || args.all (fun r => blP r regs)) = true := by simp [h32]
  rw [e0, Bool.and_true]
  clear e0
  have hle := rdP_le op
  generalize rdP op = n at *
  have C1 := hideIt (fun X => below_any a regs X)
  have C2 := hideIt (fun X => below_any b regs X)
  generalize blP a regs = r1 at *
  generalize blP b regs = r2 at *
  obtain rfl | rfl | rfl : n = 0 ∨ n = 1 ∨ n = 2 := by omega
  ·clear hle
   go_enter Try.func91, Try.ntmps91
   go_wp2_with (first | (go_at_call 94; refine (CR.out _).mono ?_; rintro e x ⟨rfl, rfl⟩) | fail)
   go_quiet (fail)
   go_wp2
   go_ret
   exact ⟨by first | rfl | simp, _, rfl⟩
  ·clear hle
   cases r1 <;>
   ·go_enter Try.func91, Try.ntmps91
    go_wp2_with (first | (go_at_call 94; refine (CR.out _).mono ?_; rintro e x ⟨rfl, rfl⟩) | fail)
    go_quiet (first | (go_at_call_of 88 (Value.int IntKind.i64 a); exact Calls.quiet_of_same (C1.out _)) | fail)
    go_wp2
    go_ret
    exact ⟨by first | rfl | simp, _, rfl⟩
  ·clear hle
   cases r1 <;> cases r2 <;>
   ·go_enter Try.func91, Try.ntmps91
    go_wp2_with (first | (go_at_call 94; refine (CR.out _).mono ?_; rintro e x ⟨rfl, rfl⟩) | fail)
    go_quiet (first | (go_at_call_of 88 (Value.int IntKind.i64 a); exact Calls.quiet_of_same (C1.out _)) | (go_at_call_of 88 (Value.int IntKind.i64 b); exact Calls.quiet_of_same (C2.out _)) | fail)
    go_wp2
    go_ret
    exact ⟨by first | rfl | simp, _, rfl⟩

end Go.Proofs.Ytphknepblchkdaa

namespace Go.Proofs.Ytphknepblchkdaa
open Go.RowKit
set_option linter.unusedVariables false

/-- A contract, from a first world on, with what is laid there. -/
theorem heldF {B : World} {F : World → Prop} (hF : ∀ y, Q B y → F y) {K : Nat} {args : Array Value} {r : Ending} (h : ∀ x, Calls Try.prog K args x fun e w' => e = r ∧ Q x w') : ∀ x, Q B x → Calls Try.prog K args x fun e w' => e = r ∧ Q B w' ∧ F w' :=
 fun x hx => (h x).mono fun _ _ ⟨e, q⟩ => ⟨e, hx.trans q, hF _ (hx.trans q)⟩

theorem sameQ {K : Nat} {args : Array Value} {r : Ending} {X : World} (h : Calls Try.prog K args X fun e w' => e = r ∧ w' = X) : Calls Try.prog K args X fun e w' => e = r ∧ Q X w' := h.mono fun _ _ ⟨e, q⟩ => ⟨e, by rw [q]; exact Q.refl _⟩
theorem drQ {K : Nat} {args : Array Value} {r : Ending} {X : World} (h : Calls Try.prog K args X fun e w' => e = r ∧ Dr X w') : Calls Try.prog K args X fun e w' => e = r ∧ Q X w' := h.mono fun _ _ ⟨e, q⟩ => ⟨e, q.q⟩

def wtP (f : PF) (x : PI) : Bool := !wrP x.op || blP x.dst f.regs

set_option maxRecDepth 100000 in
set_option maxHeartbeats 1000000 in
theorem written_any (w : World) (fb fo ib io : Nat) (f : PF) (x : PI) (hf : At w fb fo f.cells) (hx : At w ib io x.cells) :
  Calls Try.prog 90 #[.pointer (some ⟨fb, fo, none⟩), .pointer (some ⟨ib, io, none⟩)] w fun e w' => e = .returned (.bool (wtP f x)) ∧ Q w w' := by
 have hF : Hid (∀ y, Q w y → (fun y : World => y.cell? ⟨fb, fo + 1, none⟩ = some (.int .i64 f.regs) ∧ y.cell? ⟨ib, io, none⟩ = some (.int .u8 x.op) ∧ y.cell? ⟨ib, io + 1, none⟩ = some (.int .u8 x.ty) ∧ y.cell? ⟨ib, io + 2, none⟩ = some (.int .i64 x.dst) ∧ y.cell? ⟨ib, io + 3, none⟩ = some (.int .i64 x.a) ∧ y.cell? ⟨ib, io + 4, none⟩ = some (.int .i64 x.b) ∧ y.cell? ⟨ib, io + 5, none⟩ = some (.int .i64 x.imm) ∧ y.cell? ⟨ib, io + 6, none⟩ = some (.slice x.aa x.args.length x.ac)) y) := fun y h => ⟨(hf.keep h).four.2.1, (hx.keep h).seven⟩
 have CD := hideIt (fun X => dst_any x X)
 have CB := hideIt (fun X => sameQ (below_any x.dst f.regs X))
 clear hf hx
 unfold wtP
 cases h : wrP x.op <;> rw [h] at CD
 ·have CD' := hideIt (heldF hF.out CD.out)
  clear CD CB
  go_enter Try.func90, Try.ntmps90
  go_wp2_with (fail)
  refine wp_region_held_drew (S := (fun y : World => Q w y ∧ y.cell? ⟨fb, fo + 1, none⟩ = some (.int .i64 f.regs) ∧ y.cell? ⟨ib, io, none⟩ = some (.int .u8 x.op) ∧ y.cell? ⟨ib, io + 1, none⟩ = some (.int .u8 x.ty) ∧ y.cell? ⟨ib, io + 2, none⟩ = some (.int .i64 x.dst) ∧ y.cell? ⟨ib, io + 3, none⟩ = some (.int .i64 x.a) ∧ y.cell? ⟨ib, io + 4, none⟩ = some (.int .i64 x.b) ∧ y.cell? ⟨ib, io + 5, none⟩ = some (.int .i64 x.imm) ∧ y.cell? ⟨ib, io + 6, none⟩ = some (.slice x.aa x.args.length x.ac))) (by kernel_rfl) (⟨(Q.refl _).drew, hF.out _ (Q.refl _).drew⟩) (fun hHeld => ?_)
  refine wpAnyH_take (i := 0) (oi := ⟨_, _, _, _, _, _⟩) (v := ?_) rfl (by kernel_rfl) (by kernel_rfl) (by kernel_rfl) (fun _ _ _ h => h) (Or.inl ⟨by rfl, ?_⟩) (by assumption) ?_
  rotate_left 1
  ·intro w hSw; (try dsimp only at hSw); go_simp; all_goals with_reducible rfl
  try simp only [Act.put, List.setIfInBounds_toArray, List.set_cons_zero, List.set_cons_succ]
  refine wpAnyH_take (i := 1) (oi := ⟨_, _, _, _, _, _⟩) (v := ?_) rfl (by kernel_rfl) (by kernel_rfl) (by kernel_rfl) (fun _ _ _ h => h) (Or.inl ⟨by rfl, ?_⟩) (by assumption) ?_
  rotate_left 1
  ·intro w hSw; (try dsimp only at hSw); go_simp; all_goals with_reducible rfl
  try simp only [Act.put, List.setIfInBounds_toArray, List.set_cons_zero, List.set_cons_succ]
  refine wpAnyH_take (i := 2) (oi := ⟨_, _, _, _, _, _⟩) (v := ?_) rfl (by kernel_rfl) (by kernel_rfl) (by kernel_rfl) (fun _ _ _ h => h) (Or.inl ⟨by rfl, ?_⟩) (by assumption) ?_
  rotate_left 1
  ·intro w hSw; (try dsimp only at hSw); go_simp; all_goals with_reducible rfl
  try simp only [Act.put, List.setIfInBounds_toArray, List.set_cons_zero, List.set_cons_succ]
  refine wpAnyH_ready (rs := [3]) (by kernel_rfl) (by simp) (AllReadyH.cons (o := ⟨_, _, _, _, _, _⟩) rfl (fun K hK => ?_) AllReadyH.nil)
  go_simp
  go_at_call 42; refine (CD'.out _ hHeld.1).mono ?_; rintro e y ⟨rfl, s0, s1, s2, s3, s4, s5, s6, s7, s8⟩
  refine hK.out _ _ ?_ (fun hHeld => ?_)
  ·exact ⟨s0, s1, s2, s3, s4, s5, s6, s7, s8⟩
  clear hK K
  try simp only [Act.put, List.setIfInBounds_toArray, List.set_cons_zero, List.set_cons_succ]
  refine wpAnyH_take (i := 4) (oi := ⟨_, _, _, _, _, _⟩) (v := ?_) rfl (by kernel_rfl) (by kernel_rfl) (by kernel_rfl) (fun _ _ _ h => h) (Or.inl ⟨by rfl, ?_⟩) (by assumption) ?_
  rotate_left 1
  ·intro w hSw; (try dsimp only at hSw); go_simp; all_goals with_reducible rfl
  try simp only [Act.put, List.setIfInBounds_toArray, List.set_cons_zero, List.set_cons_succ]
  refine wpAnyH_take (i := 5) (oi := ⟨_, _, _, _, _, _⟩) (v := ?_) rfl (by kernel_rfl) (by kernel_rfl) (by kernel_rfl) (fun _ _ _ h => h) (Or.inl ⟨by rfl, ?_⟩) (by assumption) ?_
  rotate_left 1
  ·intro w hSw; (try dsimp only at hSw); go_simp; all_goals with_reducible rfl
  try simp only [Act.put, List.setIfInBounds_toArray, List.set_cons_zero, List.set_cons_succ]
  refine wpAnyH_take (i := 6) (oi := ⟨_, _, _, _, _, _⟩) (v := undef) rfl (by kernel_rfl) (by kernel_rfl) (by kernel_rfl) (fun _ _ _ h => h) (Or.inr ⟨by rfl, rfl⟩) (by assumption) ?_
  try simp only [Act.put, List.setIfInBounds_toArray, List.set_cons_zero, List.set_cons_succ]
  refine wpAnyH_take (i := 7) (oi := ⟨_, _, _, _, _, _⟩) (v := undef) rfl (by kernel_rfl) (by kernel_rfl) (by kernel_rfl) (fun _ _ _ h => h) (Or.inr ⟨by rfl, rfl⟩) (by assumption) ?_
  try simp only [Act.put, List.setIfInBounds_toArray, List.set_cons_zero, List.set_cons_succ]
  refine wpAnyH_take (i := 8) (oi := ⟨_, _, _, _, _, _⟩) (v := undef) rfl (by kernel_rfl) (by kernel_rfl) (by kernel_rfl) (fun _ _ _ h => h) (Or.inr ⟨by rfl, rfl⟩) (by assumption) ?_
  try simp only [Act.put, List.setIfInBounds_toArray, List.set_cons_zero, List.set_cons_succ]
  refine wpAnyH_take (i := 9) (oi := ⟨_, _, _, _, _, _⟩) (v := undef) rfl (by kernel_rfl) (by kernel_rfl) (by kernel_rfl) (fun _ _ _ h => h) (Or.inr ⟨by rfl, rfl⟩) (by assumption) ?_
  try simp only [Act.put, List.setIfInBounds_toArray, List.set_cons_zero, List.set_cons_succ]
  refine wpAnyH_take (i := 10) (oi := ⟨_, _, _, _, _, _⟩) (v := undef) rfl (by kernel_rfl) (by kernel_rfl) (by kernel_rfl) (fun _ _ _ h => h) (Or.inr ⟨by rfl, rfl⟩) (by assumption) ?_
  try simp only [Act.put, List.setIfInBounds_toArray, List.set_cons_zero, List.set_cons_succ]
  refine wpAnyH_take (i := 11) (oi := ⟨_, _, _, _, _, _⟩) (v := undef) rfl (by kernel_rfl) (by kernel_rfl) (by kernel_rfl) (fun _ _ _ h => h) (Or.inr ⟨by rfl, rfl⟩) (by assumption) ?_
  try simp only [Act.put, List.setIfInBounds_toArray, List.set_cons_zero, List.set_cons_succ]
  refine wpAnyH_take (i := 12) (oi := ⟨_, _, _, _, _, _⟩) (v := undef) rfl (by kernel_rfl) (by kernel_rfl) (by kernel_rfl) (fun _ _ _ h => h) (Or.inr ⟨by rfl, rfl⟩) (by assumption) ?_
  try simp only [Act.put, List.setIfInBounds_toArray, List.set_cons_zero, List.set_cons_succ]
  refine wpAnyH_take (i := 13) (oi := ⟨_, _, _, _, _, _⟩) (v := undef) rfl (by kernel_rfl) (by kernel_rfl) (by kernel_rfl) (fun _ _ _ h => h) (Or.inr ⟨by rfl, rfl⟩) (by assumption) ?_
  try simp only [Act.put, List.setIfInBounds_toArray, List.set_cons_zero, List.set_cons_succ]
  refine wpAnyH_take (i := 14) (oi := ⟨_, _, _, _, _, _⟩) (v := undef) rfl (by kernel_rfl) (by kernel_rfl) (by kernel_rfl) (fun _ _ _ h => h) (Or.inr ⟨by rfl, rfl⟩) (by assumption) ?_
  try simp only [Act.put, List.setIfInBounds_toArray, List.set_cons_zero, List.set_cons_succ]
  refine wpAnyH_take (i := 15) (oi := ⟨_, _, _, _, _, _⟩) (v := ?_) rfl (by kernel_rfl) (by kernel_rfl) (by kernel_rfl) (fun _ _ _ h => h) (Or.inl ⟨by rfl, ?_⟩) (by assumption) ?_
  rotate_left 1
  ·intro w hSw; (try dsimp only at hSw); go_simp; all_goals with_reducible rfl
  try simp only [Act.put, List.setIfInBounds_toArray, List.set_cons_zero, List.set_cons_succ]
  refine wpAnyH_take (i := 16) (oi := ⟨_, _, _, _, _, _⟩) (v := ?_) rfl (by kernel_rfl) (by kernel_rfl) (by kernel_rfl) (fun _ _ _ h => h) (Or.inl ⟨by rfl, ?_⟩) (by assumption) ?_
  rotate_left 1
  ·intro w hSw; (try dsimp only at hSw); go_simp; all_goals with_reducible rfl
  try simp only [Act.put, List.setIfInBounds_toArray, List.set_cons_zero, List.set_cons_succ]
  refine wpAnyH_done (by kernel_rfl) ?_ _
  go_wp2
  go_ret
  exact ⟨rfl, hHeld.1⟩
 ·have CD' := hideIt (heldF hF.out CD.out)
  have CB' := hideIt (heldF hF.out CB.out)
  clear CD CB
  go_enter Try.func90, Try.ntmps90
  go_wp2_with (fail)
  refine wp_region_held_drew (S := (fun y : World => Q w y ∧ y.cell? ⟨fb, fo + 1, none⟩ = some (.int .i64 f.regs) ∧ y.cell? ⟨ib, io, none⟩ = some (.int .u8 x.op) ∧ y.cell? ⟨ib, io + 1, none⟩ = some (.int .u8 x.ty) ∧ y.cell? ⟨ib, io + 2, none⟩ = some (.int .i64 x.dst) ∧ y.cell? ⟨ib, io + 3, none⟩ = some (.int .i64 x.a) ∧ y.cell? ⟨ib, io + 4, none⟩ = some (.int .i64 x.b) ∧ y.cell? ⟨ib, io + 5, none⟩ = some (.int .i64 x.imm) ∧ y.cell? ⟨ib, io + 6, none⟩ = some (.slice x.aa x.args.length x.ac))) (by kernel_rfl) (⟨(Q.refl _).drew, hF.out _ (Q.refl _).drew⟩) (fun hHeld => ?_)
  refine wpAnyH_take (i := 0) (oi := ⟨_, _, _, _, _, _⟩) (v := ?_) rfl (by kernel_rfl) (by kernel_rfl) (by kernel_rfl) (fun _ _ _ h => h) (Or.inl ⟨by rfl, ?_⟩) (by assumption) ?_
  rotate_left 1
  ·intro w hSw; (try dsimp only at hSw); go_simp; all_goals with_reducible rfl
  try simp only [Act.put, List.setIfInBounds_toArray, List.set_cons_zero, List.set_cons_succ]
  refine wpAnyH_take (i := 1) (oi := ⟨_, _, _, _, _, _⟩) (v := ?_) rfl (by kernel_rfl) (by kernel_rfl) (by kernel_rfl) (fun _ _ _ h => h) (Or.inl ⟨by rfl, ?_⟩) (by assumption) ?_
  rotate_left 1
  ·intro w hSw; (try dsimp only at hSw); go_simp; all_goals with_reducible rfl
  try simp only [Act.put, List.setIfInBounds_toArray, List.set_cons_zero, List.set_cons_succ]
  refine wpAnyH_take (i := 2) (oi := ⟨_, _, _, _, _, _⟩) (v := ?_) rfl (by kernel_rfl) (by kernel_rfl) (by kernel_rfl) (fun _ _ _ h => h) (Or.inl ⟨by rfl, ?_⟩) (by assumption) ?_
  rotate_left 1
  ·intro w hSw; (try dsimp only at hSw); go_simp; all_goals with_reducible rfl
  try simp only [Act.put, List.setIfInBounds_toArray, List.set_cons_zero, List.set_cons_succ]
  refine wpAnyH_ready (rs := [3]) (by kernel_rfl) (by simp) (AllReadyH.cons (o := ⟨_, _, _, _, _, _⟩) rfl (fun K hK => ?_) AllReadyH.nil)
  go_simp
  go_at_call 42; refine (CD'.out _ hHeld.1).mono ?_; rintro e y ⟨rfl, s0, s1, s2, s3, s4, s5, s6, s7, s8⟩
  refine hK.out _ _ ?_ (fun hHeld => ?_)
  ·exact ⟨s0, s1, s2, s3, s4, s5, s6, s7, s8⟩
  clear hK K
  try simp only [Act.put, List.setIfInBounds_toArray, List.set_cons_zero, List.set_cons_succ]
  refine wpAnyH_take (i := 4) (oi := ⟨_, _, _, _, _, _⟩) (v := ?_) rfl (by kernel_rfl) (by kernel_rfl) (by kernel_rfl) (fun _ _ _ h => h) (Or.inl ⟨by rfl, ?_⟩) (by assumption) ?_
  rotate_left 1
  ·intro w hSw; (try dsimp only at hSw); go_simp; all_goals with_reducible rfl
  try simp only [Act.put, List.setIfInBounds_toArray, List.set_cons_zero, List.set_cons_succ]
  refine wpAnyH_take (i := 5) (oi := ⟨_, _, _, _, _, _⟩) (v := ?_) rfl (by kernel_rfl) (by kernel_rfl) (by kernel_rfl) (fun _ _ _ h => h) (Or.inl ⟨by rfl, ?_⟩) (by assumption) ?_
  rotate_left 1
  ·intro w hSw; (try dsimp only at hSw); go_simp; all_goals with_reducible rfl
  try simp only [Act.put, List.setIfInBounds_toArray, List.set_cons_zero, List.set_cons_succ]
  refine wpAnyH_take (i := 6) (oi := ⟨_, _, _, _, _, _⟩) (v := ?_) rfl (by kernel_rfl) (by kernel_rfl) (by kernel_rfl) (fun _ _ _ h => h) (Or.inl ⟨by rfl, ?_⟩) (by assumption) ?_
  rotate_left 1
  ·intro w hSw; (try dsimp only at hSw); go_simp; all_goals with_reducible rfl
  try simp only [Act.put, List.setIfInBounds_toArray, List.set_cons_zero, List.set_cons_succ]
  refine wpAnyH_take (i := 7) (oi := ⟨_, _, _, _, _, _⟩) (v := ?_) rfl (by kernel_rfl) (by kernel_rfl) (by kernel_rfl) (fun _ _ _ h => h) (Or.inl ⟨by rfl, ?_⟩) (by assumption) ?_
  rotate_left 1
  ·intro w hSw; (try dsimp only at hSw); go_simp; all_goals with_reducible rfl
  try simp only [Act.put, List.setIfInBounds_toArray, List.set_cons_zero, List.set_cons_succ]
  refine wpAnyH_take (i := 8) (oi := ⟨_, _, _, _, _, _⟩) (v := ?_) rfl (by kernel_rfl) (by kernel_rfl) (by kernel_rfl) (fun _ _ _ h => h) (Or.inl ⟨by rfl, ?_⟩) (by assumption) ?_
  rotate_left 1
  ·intro w hSw; (try dsimp only at hSw); go_simp; all_goals with_reducible rfl
  try simp only [Act.put, List.setIfInBounds_toArray, List.set_cons_zero, List.set_cons_succ]
  refine wpAnyH_take (i := 9) (oi := ⟨_, _, _, _, _, _⟩) (v := ?_) rfl (by kernel_rfl) (by kernel_rfl) (by kernel_rfl) (fun _ _ _ h => h) (Or.inl ⟨by rfl, ?_⟩) (by assumption) ?_
  rotate_left 1
  ·intro w hSw; (try dsimp only at hSw); go_simp; all_goals with_reducible rfl
  try simp only [Act.put, List.setIfInBounds_toArray, List.set_cons_zero, List.set_cons_succ]
  refine wpAnyH_take (i := 10) (oi := ⟨_, _, _, _, _, _⟩) (v := ?_) rfl (by kernel_rfl) (by kernel_rfl) (by kernel_rfl) (fun _ _ _ h => h) (Or.inl ⟨by rfl, ?_⟩) (by assumption) ?_
  rotate_left 1
  ·intro w hSw; (try dsimp only at hSw); go_simp; all_goals with_reducible rfl
  try simp only [Act.put, List.setIfInBounds_toArray, List.set_cons_zero, List.set_cons_succ]
  refine wpAnyH_take (i := 11) (oi := ⟨_, _, _, _, _, _⟩) (v := ?_) rfl (by kernel_rfl) (by kernel_rfl) (by kernel_rfl) (fun _ _ _ h => h) (Or.inl ⟨by rfl, ?_⟩) (by assumption) ?_
  rotate_left 1
  ·intro w hSw; (try dsimp only at hSw); go_simp; all_goals with_reducible rfl
  try simp only [Act.put, List.setIfInBounds_toArray, List.set_cons_zero, List.set_cons_succ]
  refine wpAnyH_take (i := 12) (oi := ⟨_, _, _, _, _, _⟩) (v := ?_) rfl (by kernel_rfl) (by kernel_rfl) (by kernel_rfl) (fun _ _ _ h => h) (Or.inl ⟨by rfl, ?_⟩) (by assumption) ?_
  rotate_left 1
  ·intro w hSw; (try dsimp only at hSw); go_simp; all_goals with_reducible rfl
  try simp only [Act.put, List.setIfInBounds_toArray, List.set_cons_zero, List.set_cons_succ]
  refine wpAnyH_take (i := 13) (oi := ⟨_, _, _, _, _, _⟩) (v := ?_) rfl (by kernel_rfl) (by kernel_rfl) (by kernel_rfl) (fun _ _ _ h => h) (Or.inl ⟨by rfl, ?_⟩) (by assumption) ?_
  rotate_left 1
  ·intro w hSw; (try dsimp only at hSw); go_simp; all_goals with_reducible rfl
  try simp only [Act.put, List.setIfInBounds_toArray, List.set_cons_zero, List.set_cons_succ]
  refine wpAnyH_ready (rs := [14]) (by kernel_rfl) (by simp) (AllReadyH.cons (o := ⟨_, _, _, _, _, _⟩) rfl (fun K hK => ?_) AllReadyH.nil)
  go_simp
  go_at_call 88; refine (CB'.out _ hHeld.1).mono ?_; rintro e y ⟨rfl, s0, s1, s2, s3, s4, s5, s6, s7, s8⟩
  refine hK.out _ _ ?_ (fun hHeld => ?_)
  ·exact ⟨s0, s1, s2, s3, s4, s5, s6, s7, s8⟩
  clear hK K
  try simp only [Act.put, List.setIfInBounds_toArray, List.set_cons_zero, List.set_cons_succ]
  refine wpAnyH_take (i := 15) (oi := ⟨_, _, _, _, _, _⟩) (v := ?_) rfl (by kernel_rfl) (by kernel_rfl) (by kernel_rfl) (fun _ _ _ h => h) (Or.inl ⟨by rfl, ?_⟩) (by assumption) ?_
  rotate_left 1
  ·intro w hSw; (try dsimp only at hSw); go_simp; all_goals with_reducible rfl
  try simp only [Act.put, List.setIfInBounds_toArray, List.set_cons_zero, List.set_cons_succ]
  refine wpAnyH_take (i := 16) (oi := ⟨_, _, _, _, _, _⟩) (v := ?_) rfl (by kernel_rfl) (by kernel_rfl) (by kernel_rfl) (fun _ _ _ h => h) (Or.inl ⟨by rfl, ?_⟩) (by assumption) ?_
  rotate_left 1
  ·intro w hSw; (try dsimp only at hSw); go_simp; all_goals with_reducible rfl
  try simp only [Act.put, List.setIfInBounds_toArray, List.set_cons_zero, List.set_cons_succ]
  refine wpAnyH_done (by kernel_rfl) ?_ _
  go_wp2
  go_ret
  exact ⟨rfl, hHeld.1⟩

def immP (c : PC) (k : Nat) (f : PF) (x : PI) : Bool :=
 if x.op = 26 then blP x.imm f.slots.length else if x.op = 27 then blP x.imm c.gl.length else if x.op = 28 then decide (1 ≤ x.imm) && decide (x.imm ≤ 65536) else if x.op = 29 then blP x.imm 65536
 else if x.op = 32 then blP x.imm k && (match c.fns[x.imm.toNat]? with | some g => (x.args.length : Int) == g.params | none => false) else true

theorem imm_cases (o : Int) : o = 26 ∨ o = 27 ∨ o = 28 ∨ o = 29 ∨ o = 32 ∨ (¬ o = 26 ∧ ¬ o = 27 ∧ ¬ o = 28 ∧ ¬ o = 29 ∧ ¬ o = 32) := by omega

set_option maxRecDepth 100000 in
set_option maxHeartbeats 1000000 in
theorem immediate_any (w : World) (cb co ib io k : Nat) (c : PC) (f : PF) (x : PI) (hc : At w cb co c.cells) (hcok : c.ok w) (hk : c.fns[k]? = some f) (hx : At w ib io x.cells) :
  Calls Try.prog 92 #[.pointer (some ⟨cb, co, none⟩), .int .i64 (k : Int), .pointer (some ⟨ib, io, none⟩)] w fun e w' => e = .returned (.bool (immP c k f x)) ∧ Dr w w' := by
 obtain ⟨c0, c1, c2⟩ := hc.three
 obtain ⟨i0, i1, i2, i3, i4, i5, i6⟩ := hx.seven
 obtain ⟨fb, fo, efa, hf, hfok⟩ := hcok.fns k f hk
 obtain ⟨f0, f1, f2, f3⟩ := hf.four
 have hkl : k < c.fns.length := (List.getElem?_eq_some_iff.1 hk).1
 have hkl' : (k : Int) < (c.fns.length : Int) := by omega
 have hlen : c.fns.length ≤ 9223372036854775807 := hcok.fsok.len
 rw [efa] at c2
 have HE := hideIt efa
 have HK := hideIt hcok
 clear hc hx hf hfok hk hcok efa
 unfold immP
 rcases x with ⟨op, ty, dst, a, b, imm, args, aa, ac⟩
 dsimp only at *
 have CB := hideIt (fun n m X => below64_any n m X)
 rcases imm_cases op with rfl | rfl | rfl | rfl | rfl | ⟨h26, h27, h28, h29, h32⟩
 ·simp only [if_true]
  generalize hr : blP imm f.slots.length = r
  have CB := hideIt (fun X => below64_any imm f.slots.length X)
  rw [hr] at CB
  clear hr
  go_enter Try.func92, Try.ntmps92
  go_wp2_with (fail)
  go_quiet (first | (go_at_call 95; exact Calls.quiet_of_same (CB.out _)) | fail)
  go_wp2
  go_ret
  exact ⟨by first | rfl | simp, _, rfl⟩
 ·have e : (if (27 : Int) = 26 then blP imm f.slots.length else if (27 : Int) = 27 then blP imm c.gl.length else if (27 : Int) = 28 then decide (1 ≤ imm) && decide (imm ≤ 65536) else if (27 : Int) = 29 then blP imm 65536 else if (27 : Int) = 32 then blP imm k && (match c.fns[imm.toNat]? with | some g => (args.length : Int) == g.params | none => false) else true) = blP imm c.gl.length := by simp
  rw [e]
  clear e
  generalize hr : blP imm c.gl.length = r
  have CB := hideIt (fun X => below64_any imm c.gl.length X)
  rw [hr] at CB
  clear hr
  go_enter Try.func92, Try.ntmps92
  go_wp2_with (fail)
  go_quiet (first | (go_at_call 95; exact Calls.quiet_of_same (CB.out _)) | fail)
  go_wp2
  go_ret
  exact ⟨by first | rfl | simp, _, rfl⟩
 ·have e : (if (28 : Int) = 26 then blP imm f.slots.length else if (28 : Int) = 27 then blP imm c.gl.length else if (28 : Int) = 28 then decide (1 ≤ imm) && decide (imm ≤ 65536) else if (28 : Int) = 29 then blP imm 65536 else if (28 : Int) = 32 then blP imm k && (match c.fns[imm.toNat]? with | some g => (args.length : Int) == g.params | none => false) else true) = (decide (1 ≤ imm) && decide (imm ≤ 65536)) := by simp
  rw [e]
  clear e
  cases h1 : decide (1 ≤ imm) <;>
  ·go_enter Try.func92, Try.ntmps92
   go_wp2_with (fail)
   go_ret
   exact ⟨by first | rfl | simp, Dr.refl _⟩
 ·have e : (if (29 : Int) = 26 then blP imm f.slots.length else if (29 : Int) = 27 then blP imm c.gl.length else if (29 : Int) = 28 then decide (1 ≤ imm) && decide (imm ≤ 65536) else if (29 : Int) = 29 then blP imm 65536 else if (29 : Int) = 32 then blP imm k && (match c.fns[imm.toNat]? with | some g => (args.length : Int) == g.params | none => false) else true) = blP imm 65536 := by simp
  rw [e]
  clear e
  generalize hr : blP imm 65536 = r
  have CB := hideIt (fun X => below64_any imm 65536 X)
  rw [hr] at CB
  clear hr
  go_enter Try.func92, Try.ntmps92
  go_wp2_with (first | (go_at_call 95; refine (CB.out _).mono ?_; rintro e x ⟨rfl, rfl⟩) | fail)
  go_ret
  exact ⟨by first | rfl | simp, Dr.refl _⟩
 ·have e : (if (32 : Int) = 26 then blP imm f.slots.length else if (32 : Int) = 27 then blP imm c.gl.length else if (32 : Int) = 28 then decide (1 ≤ imm) && decide (imm ≤ 65536) else if (32 : Int) = 29 then blP imm 65536 else if (32 : Int) = 32 then blP imm k && (match c.fns[imm.toNat]? with | some g => (args.length : Int) == g.params | none => false) else true) = (blP imm k && (match c.fns[imm.toNat]? with | some g => (args.length : Int) == g.params | none => false)) := by simp
  rw [e]
  clear e
  cases hr : blP imm k
  ·have CB := hideIt (fun X => below64_any imm k X)
   rw [hr] at CB
   rw [Bool.false_and]
   clear hr
   go_enter Try.func92, Try.ntmps92
   go_wp2_with (fail)
   go_quiet (first | (go_at_call 95; exact Calls.quiet_of_same (CB.out _)) | fail)
   go_wp2
   go_ret
   exact ⟨by first | rfl | simp, _, rfl⟩
  ·have CB := hideIt (fun X => below64_any imm k X)
   rw [hr] at CB
   have hb : 0 ≤ imm ∧ imm < k := by unfold blP at hr; simpa using hr
   clear hr
   obtain ⟨m, rfl⟩ : ∃ m : Nat, imm = m := ⟨imm.toNat, by omega⟩
   have hm : m < c.fns.length := by omega
   obtain ⟨g, hg⟩ := get_of_lt hm
   have e2 : ((m : Int)).toNat = m := by simp
   rw [e2, hg]
   clear e2
   obtain ⟨gb, go, ega, hgt, hgok⟩ := HK.out.fns m g hg
   rw [HE.out] at ega
   simp only [Option.some.injEq, Addr.mk.injEq, and_true] at ega
   obtain ⟨rfl, rfl⟩ := ega
   obtain ⟨g0, g1, g2, g3⟩ := hgt.four
   have hml : (m : Int) < (c.fns.length : Int) := by omega
   clear hg hgt hgok hb hm
   go_enter Try.func92, Try.ntmps92
   go_wp2_with (fail)
   go_quiet (first | (go_at_call 95; exact Calls.quiet_of_same (CB.out _)) | fail)
   go_wp2
   go_ret
   exact ⟨by first | rfl | simp, _, rfl⟩
 ·simp only [h26, h27, h28, h29, h32, if_false]
  go_enter Try.func92, Try.ntmps92
  go_wp2_with (fail)
  go_ret
  exact ⟨by first | rfl | simp, Dr.refl _⟩

end Go.Proofs.Ytphknepblchkdaa

namespace Go.Proofs.Ytphknepblchkdaa
open Go.RowKit
set_option linter.unusedVariables false

def insP (c : PC) (k : Nat) (f : PF) (x : PI) : Bool := knP x.op && (decide (x.ty ≤ 5) && (wtP f x && (rdsP f x && immP c k f x)))

set_option maxRecDepth 100000 in
theorem instruction_any (w : World) (cb co ib io k : Nat) (c : PC) (f : PF) (x : PI) (hc : At w cb co c.cells) (hcok : c.ok w) (hk : c.fns[k]? = some f) (hx : At w ib io x.cells) (hxok : x.ok w) :
  Calls Try.prog 77 #[.pointer (some ⟨cb, co, none⟩), .int .i64 (k : Int), .pointer (some ⟨ib, io, none⟩)] w fun e w' => e = .returned (.bool (insP c k f x)) ∧ Q w w' := by
 obtain ⟨c0, c1, c2⟩ := hc.three
 obtain ⟨i0, i1, -⟩ := hx.seven
 obtain ⟨fb, fo, efa, hf, hfok⟩ := hcok.fns k f hk
 have hkl : k < c.fns.length := (List.getElem?_eq_some_iff.1 hk).1
 have hkl' : (k : Int) < (c.fns.length : Int) := by omega
 have hlen : c.fns.length ≤ 9223372036854775807 := hcok.fsok.len
 rw [efa] at c2
 have CK := hideIt (fun X => known_any x.op X)
 have CF := hideIt (fun X => form_any x.ty X)
 have CW := hideIt (written_any w fb (fo + k * 4) ib io f x hf hx)
 have CR : Hid (∀ X, Q w X → Calls Try.prog 91 #[.pointer (some ⟨fb, fo + k * 4, none⟩), .pointer (some ⟨ib, io, none⟩)] X fun e w' => e = .returned (.bool (rdsP f x)) ∧ Q X w') := fun X h => drQ (read_any X fb (fo + k * 4) ib io f x (hf.keep h) (hx.keep h) (hxok.keep h))
 have CI : Hid (∀ X, Q w X → Calls Try.prog 92 #[.pointer (some ⟨cb, co, none⟩), .int .i64 (k : Int), .pointer (some ⟨ib, io, none⟩)] X fun e w' => e = .returned (.bool (immP c k f x)) ∧ Q X w') := fun X h => drQ (immediate_any X cb co ib io k c f x (hc.keep h) (hcok.keep h) hk (hx.keep h))
 clear hc hx hf hfok hk hcok efa hxok
 unfold insP
 generalize hb1 : knP x.op = b1 at *
 generalize hb2 : decide (x.ty ≤ 5) = b2 at *
 generalize wtP f x = b3 at *
 generalize rdsP f x = b4 at *
 generalize immP c k f x = b5 at *
 clear hb1 hb2
 cases b1
 ·go_enter Try.func77, Try.ntmps77
  go_wp2_with (first | (go_at_call 63; refine (CK.out _).mono ?_; rintro e x1 ⟨rfl, rfl⟩) | fail)
  go_ret
  exact ⟨rfl, Q.refl _⟩
 ·cases b2
  ·go_enter Try.func77, Try.ntmps77
   go_wp2_with (first | (go_at_call 63; refine (CK.out _).mono ?_; rintro e x1 ⟨rfl, rfl⟩) | (go_at_call 89; refine (CF.out _).mono ?_; rintro e x1 ⟨rfl, rfl⟩) | fail)
   go_ret
   exact ⟨rfl, Q.refl _⟩
  ·cases b3 <;> cases b4 <;>
   ·go_enter Try.func77, Try.ntmps77
    go_wp2_with (first | (go_at_call 63; refine (CK.out _).mono ?_; rintro e x1 ⟨rfl, rfl⟩) | (go_at_call 89; refine (CF.out _).mono ?_; rintro e x1 ⟨rfl, rfl⟩) | (go_at_call 90; refine CW.out.mono ?_; rintro e x3 ⟨rfl, q3⟩; have H3 := hideIt q3; have HE := hideIt q3; clear q3) | (go_at_call 91; refine (CR.out _ H3.out).mono ?_; rintro e x4 ⟨rfl, q4⟩; have H4 := hideIt (H3.out.trans q4); clear HE; have HE := hideIt H4.out; clear q4) | (go_at_call 92; refine (CI.out _ H4.out).mono ?_; rintro e x5 ⟨rfl, q5⟩; have H5 := hideIt (H4.out.trans q5); clear HE; have HE := hideIt H5.out; clear q5) | fail)
    go_ret
    exact ⟨rfl, HE.out⟩

/-- How many instructions and parts. -/
def partN (p : PP) : Int := 1 + p.ins.length
def fnN (f : PF) : Int := (f.parts.map partN).sum
def codeN (c : PC) : Int := (c.fns.map fnN).sum

end Go.Proofs.Ytphknepblchkdaa

namespace Go.Proofs.Ytphknepblchkdaa
open Go.RowKit
set_option linter.unusedVariables false

def ptP (c : PC) (k : Nat) (f : PF) (p : PP) : Bool := endP f p && p.ins.all (insP c k f)
def headP (f : PF) : Bool := !decide (f.params < 0) && (!decide (f.regs < f.params) && (!decide (20000 < f.regs) && (!decide (f.parts.length = 0) && roomL 65536 f.slots)))
def fnP (c : PC) (k : Nat) (f : PF) : Bool := headP f && f.parts.all (ptP c k f)

set_option maxRecDepth 100000 in
set_option maxHeartbeats 2000000 in
theorem function_bad (w : World) (cb co k : Nat) (c : PC) (f : PF) (hc : At w cb co c.cells) (hcok : c.ok w) (hk : c.fns[k]? = some f) (hh : headP f = false) :
  Calls Try.prog 60 #[.pointer (some ⟨cb, co, none⟩), .int .i64 (k : Int)] w fun e w' => e = .returned (.bool (fnP c k f)) ∧ Q w w' := by
 obtain ⟨c0, c1, c2⟩ := hc.three
 obtain ⟨fb, fo, efa, hf, hfok⟩ := hcok.fns k f hk
 have hkl : k < c.fns.length := (List.getElem?_eq_some_iff.1 hk).1
 have hkl' : (k : Int) < (c.fns.length : Int) := by omega
 have hlen : c.fns.length ≤ 9223372036854775807 := hcok.fsok.len
 have hplen : f.parts.length ≤ 9223372036854775807 := hfok.psok.len
 rw [efa] at c2
 obtain ⟨f0, f1, f2, f3⟩ := hf.four
 have CR := hideIt (fun n => room_any (w.drewN n) f.sa f.sc f.slots hfok.ssok (hfok.slots.keep ((Q.refl w).drewN n)))
 have CE : Hid (∀ X, Q w X → ∀ pb po p, At X pb po (PP.cells p) → Calls Try.prog 76 #[.pointer (some ⟨fb, fo + k * 4, none⟩), .pointer (some ⟨pb, po, none⟩)] X fun e w' => e = .returned (.bool (endP f p)) ∧ Q X w') := fun X h pb po p hp => drQ (end_any X fb (fo + k * 4) pb po f p (hf.keep h) hp)
 have CI : Hid (∀ X, Q w X → ∀ ib io x, InsAt X ib io x → Calls Try.prog 77 #[.pointer (some ⟨cb, co, none⟩), .int .i64 (k : Int), .pointer (some ⟨ib, io, none⟩)] X fun e w' => e = .returned (.bool (insP c k f x)) ∧ Q X w') := fun X h ib io x hx => instruction_any X cb co ib io k c f x (hc.keep h) (hcok.keep h) hk hx.1 hx.2
 have HF := hideIt hf
 have HP := hideIt hfok.parts
 clear hc hcok hk hf hfok efa
 unfold fnP
 rw [hh, Bool.false_and]
 unfold headP at hh
 cases h1 : decide (f.params < 0)
 case true =>
  clear CR CE CI HP HF hh
  go_enter Try.func60, Try.ntmps60
  go_wp2_with (fail)
  go_quiet (fail)
  go_wp2
  go_ret
  exact ⟨by first | rfl | simp, (Q.refl w).drewN _⟩
 cases h2 : decide (f.regs < f.params)
 case true =>
  clear CR CE CI HP HF hh
  go_enter Try.func60, Try.ntmps60
  go_wp2_with (fail)
  go_quiet (fail)
  go_wp2
  go_ret
  exact ⟨by first | rfl | simp, (Q.refl w).drewN _⟩
 cases h3 : decide (20000 < f.regs)
 case true =>
  clear CR CE CI HP HF hh
  go_enter Try.func60, Try.ntmps60
  go_wp2_with (fail)
  go_quiet (fail)
  go_wp2
  go_ret
  exact ⟨by first | rfl | simp, (Q.refl w).drewN _⟩
 by_cases h4 : f.parts.length = 0
 ·have h4' : ((f.parts.length : Int) = 0) = True := by simp [h4]
  have e : decide (f.parts.length = 0) = true := by simpa using h4
  clear CR CE CI HP HF e hh
  rw [h4] at f3
  go_enter Try.func60, Try.ntmps60
  go_wp2_with (fail)
  go_quiet (fail)
  go_wp2
  go_ret
  exact ⟨by first | rfl | simp, (Q.refl w).drewN _⟩
 have e : decide (f.parts.length = 0) = false := by simpa using h4
 rw [e] at hh
 clear e
 cases h5 : roomL 65536 f.slots <;> rw [h5] at CR
 ·clear CE CI HP HF hh
  go_enter Try.func60, Try.ntmps60
  go_wp2_with (fail)
  go_quiet (first | (go_at_call 59; exact Calls.quiet_of_same (CR.out _)) | fail)
  go_wp2
  go_ret
  exact ⟨by first | rfl | simp, (Q.refl w).drewN _⟩
 ·rw [h1, h2, h3, h5] at hh
  cases hh

end Go.Proofs.Ytphknepblchkdaa

namespace Go.Proofs.Ytphknepblchkdaa
open Go.RowKit
set_option linter.unusedVariables false

theorem headP_iff {f : PF} (h : headP f = true) : decide (f.params < 0) = false ∧ decide (f.regs < f.params) = false ∧ decide (20000 < f.regs) = false ∧ ¬ f.parts.length = 0 ∧ roomL 65536 f.slots = true := by
 unfold headP at h
 simp only [Bool.and_eq_true, Bool.not_eq_true'] at h
 obtain ⟨h1, h2, h3, h4, h5⟩ := h
 exact ⟨h1, h2, h3, by simpa using h4, h5⟩

set_option maxRecDepth 100000 in
set_option maxHeartbeats 2000000 in
theorem function_good (w : World) (cb co k : Nat) (c : PC) (f : PF) (hc : At w cb co c.cells) (hcok : c.ok w) (hk : c.fns[k]? = some f) (hh : headP f = true) :
  Calls Try.prog 60 #[.pointer (some ⟨cb, co, none⟩), .int .i64 (k : Int)] w fun e w' => e = .returned (.bool (fnP c k f)) ∧ Q w w' := by
 obtain ⟨c0, c1, c2⟩ := hc.three
 obtain ⟨fb, fo, efa, hf, hfok⟩ := hcok.fns k f hk
 have hkl : k < c.fns.length := (List.getElem?_eq_some_iff.1 hk).1
 have hkl' : (k : Int) < (c.fns.length : Int) := by omega
 have hlen : c.fns.length ≤ 9223372036854775807 := hcok.fsok.len
 have hplen : f.parts.length ≤ 9223372036854775807 := hfok.psok.len
 rw [efa] at c2
 obtain ⟨f0, f1, f2, f3⟩ := hf.four
 have CR := hideIt (fun n => room_any (w.drewN n) f.sa f.sc f.slots hfok.ssok (hfok.slots.keep ((Q.refl w).drewN n)))
 have CE : Hid (∀ X, Q w X → ∀ pb po p, At X pb po (PP.cells p) → Calls Try.prog 76 #[.pointer (some ⟨fb, fo + k * 4, none⟩), .pointer (some ⟨pb, po, none⟩)] X fun e w' => e = .returned (.bool (endP f p)) ∧ Q X w') := fun X h pb po p hp => drQ (end_any X fb (fo + k * 4) pb po f p (hf.keep h) hp)
 have CI : Hid (∀ X, Q w X → ∀ ib io x, InsAt X ib io x → Calls Try.prog 77 #[.pointer (some ⟨cb, co, none⟩), .int .i64 (k : Int), .pointer (some ⟨ib, io, none⟩)] X fun e w' => e = .returned (.bool (insP c k f x)) ∧ Q X w') := fun X h ib io x hx => instruction_any X cb co ib io k c f x (hc.keep h) (hcok.keep h) hk hx.1 hx.2
 have HF := hideIt hf
 have HP := hideIt hfok.parts
 obtain ⟨h1, h2, h3, h4, h5⟩ := headP_iff hh
 have e : fnP c k f = f.parts.all (ptP c k f) := by unfold fnP; rw [hh, Bool.true_and]
 rw [e]
 rw [h5] at CR
 have h4' : ((f.parts.length : Int) == 0) = false := by simpa using h4
 clear hc hcok hk hf hfok efa e hh h5 h4
 go_enter Try.func60, Try.ntmps60
 go_wp2_with (fail)
 go_quiet (first | (go_at_call 59; exact Calls.quiet_of_same (CR.out _)) | fail)
 go_wp2
 have hW : Q w (w.drewN nq) := (Q.refl w).drewN nq
 go_loopw [6, 7, 8, 59] (fun m q d i wr => ∃ (n : Nat), i = .int .i64 n ∧ n ≤ f.parts.length ∧ f.parts.all (ptP c k f) = (f.parts.drop n).all (ptP c k f) ∧ Q w wr) (fun _ _ _ i _ => f.parts.length - (intOf i).toNat)
 case atStart => exact ⟨0, rfl, by omega, by simp, hW⟩
 case round =>
  obtain ⟨n, rfl, hn, r3, hq⟩ := hrel
  have HR := hideIt r3
  have HQ := hideIt hq
  clear r3 hW
  obtain ⟨g0, g1, g2, g3⟩ := (HF.out.keep hq).four
  clear hq c0 c1 c2 f0 f1 f2 f3 CR
  by_cases hlt : n < f.parts.length
  ·obtain ⟨p, hp⟩ := get_of_lt hlt
   obtain ⟨pb, po, epa, hpat⟩ := (HP.out.keep HQ.out) n p hp
   have hnl : (n : Int) < (f.parts.length : Int) := by omega
   obtain ⟨p0, p1, p2, p3, p4⟩ := hpat.1.five
   rw [epa] at g3
   have HX := hideIt hp
   have HI := hideIt hpat.2.ins
   have hilen : p.ins.length ≤ 9223372036854775807 := hpat.2.sok.len
   have CE1 := hideIt (CE.out wr HQ.out pb (po + n * 5) p hpat.1)
   have HPA := hideIt hpat.1
   clear hp hpat epa CE
   have eall : (f.parts.drop n).all (ptP c k f) = (ptP c k f p && (f.parts.drop (n + 1)).all (ptP c k f)) := all_drop HX.out
   have HAL := hideIt eall
   clear eall
   cases he : endP f p <;> rw [he] at CE1
   ·go_wp2_with (first | (go_at_call 76; refine CE1.out.mono ?_; rintro e x1 ⟨rfl, q1⟩; have H1 := hideIt q1; clear q1) | fail)
    go_ret
    refine ⟨?_, HQ.out.trans H1.out⟩
    rw [HR.out, HAL.out]
    unfold ptP
    rw [he]
    rfl
   ·go_wp2_with (first | (go_at_call 76; refine CE1.out.mono ?_; rintro e x1 ⟨rfl, q1⟩; have H1 := hideIt q1; obtain ⟨r0, -⟩ := (HPA.out.keep q1).five; clear q1) | fail)
    have HQ1 := hideIt (HQ.out.trans H1.out)
    have HI1 := hideIt (Insts.keep H1.out HI.out)
    have HPA1 := hideIt (HPA.out.keep H1.out)
    clear g0 g1 g2 g3 p0 p1 p2 p3 p4 r0 HI HPA
    go_loopw [8, 77] (fun d i wr => ∃ (m : Nat), i = .int .i64 m ∧ m ≤ p.ins.length ∧ p.ins.all (insP c k f) = (p.ins.drop m).all (insP c k f) ∧ Q x1 wr) (fun _ i _ => p.ins.length - (intOf i).toNat)
    case atStart => exact ⟨0, rfl, by omega, by simp, Q.refl _⟩
    case round =>
     obtain ⟨m, rfl, hm, r3, hq⟩ := hrel
     have HR2 := hideIt r3
     have HQ2 := hideIt hq
     obtain ⟨r0, -⟩ := (HPA1.out.keep hq).five
     clear r3 hq
     by_cases hlt2 : m < p.ins.length
     ·obtain ⟨x, hx⟩ := get_of_lt hlt2
      obtain ⟨ib, io, eia, hxat⟩ := (Insts.keep HQ2.out HI1.out) m x hx
      have hml : (m : Int) < (p.ins.length : Int) := by omega
      rw [eia] at r0
      have CI1 := hideIt (CI.out wr (HQ1.out.trans HQ2.out) ib (io + m * 7) x hxat)
      have HAL2 := hideIt (all_drop (p := insP c k f) hx)
      clear hx hxat eia
      cases hi : insP c k f x <;> rw [hi] at CI1
      ·go_wp2_with (first | (go_at_call 77; refine CI1.out.mono ?_; rintro e x2 ⟨rfl, q2⟩; have H2 := hideIt q2; clear q2) | fail)
       go_ret
       refine ⟨?_, HQ1.out.trans (HQ2.out.trans H2.out)⟩
       rw [HR.out, HAL.out]
       unfold ptP
       rw [HR2.out, HAL2.out, hi]
       simp
      ·go_wp2_with (first | (go_at_call 77; refine CI1.out.mono ?_; rintro e x2 ⟨rfl, q2⟩; have H2 := hideIt q2; clear q2) | fail)
       go_roundw
       case rel =>
        refine ⟨m + 1, by go_num, by omega, ?_, HQ2.out.trans H2.out⟩
        rw [HR2.out, HAL2.out, hi, Bool.true_and]
       case measure => simp [intOf]; omega
     ·have em : m = p.ins.length := by omega
      have HA : Hid (p.ins.all (insP c k f) = true) := by
       show p.ins.all (insP c k f) = true
       rw [HR2.out, em, List.drop_length]
       rfl
      clear HR2
      go_wp2_with (fail)
      go_roundw
      case rel =>
       refine ⟨n + 1, by go_num, by omega, ?_, HQ1.out.trans HQ2.out⟩
       rw [HR.out, HAL.out]
       have e3 : ptP c k f p = true := by unfold ptP; rw [he, HA.out]; rfl
       rw [e3, Bool.true_and]
      case measure => simp [intOf]; omega
  ·have en : n = f.parts.length := by omega
   go_wp2_with (fail)
   go_ret
   refine ⟨?_, HQ.out⟩
   rw [HR.out, en, List.drop_length]
   rfl

theorem function_any (w : World) (cb co k : Nat) (c : PC) (f : PF) (hc : At w cb co c.cells) (hcok : c.ok w) (hk : c.fns[k]? = some f) :
  Calls Try.prog 60 #[.pointer (some ⟨cb, co, none⟩), .int .i64 (k : Int)] w fun e w' => e = .returned (.bool (fnP c k f)) ∧ Q w w' := by
 cases h : headP f
 ·exact function_bad w cb co k c f hc hcok hk h
 ·exact function_good w cb co k c f hc hcok hk h

end Go.Proofs.Ytphknepblchkdaa

namespace Go.Proofs.Ytphknepblchkdaa
open Go.RowKit
set_option linter.unusedVariables false

theorem wrap_sum (a b : Int) : wrap64 (wrap64 a + b) = IntKind.i64.wrap (a + b) := by simp [IntKind.wrap_i64, wrap64]; omega
def sumTo (l : List Int) (k : Nat) : Int := (l.take k).sum
theorem sumTo_all (l : List Int) : sumTo l l.length = l.sum := by unfold sumTo; rw [List.take_length]
theorem sumTo_succ {l : List Int} {k : Nat} {x : Int} (h : l[k]? = some x) : sumTo l (k + 1) = sumTo l k + x := by
 unfold sumTo
 rw [List.take_add_one, h, List.sum_append]
 simp
def cntTo (c : PC) (k : Nat) : Int := sumTo (c.fns.map fnN) k
def prtTo (f : PF) (j : Nat) : Int := sumTo (f.parts.map partN) j
theorem cntTo_zero (c : PC) : cntTo c 0 = 0 := rfl
theorem cntTo_all (c : PC) : cntTo c c.fns.length = codeN c := by unfold cntTo codeN; rw [← sumTo_all]; simp
theorem cntTo_succ {c : PC} {k : Nat} {f : PF} (h : c.fns[k]? = some f) : cntTo c (k + 1) = cntTo c k + fnN f := sumTo_succ (by simp [h])
theorem prtTo_zero (f : PF) : prtTo f 0 = 0 := rfl
theorem prtTo_all (f : PF) : prtTo f f.parts.length = fnN f := by unfold prtTo fnN; rw [← sumTo_all]; simp
theorem prtTo_succ {f : PF} {j : Nat} {p : PP} (h : f.parts[j]? = some p) : prtTo f (j + 1) = prtTo f j + partN p := sumTo_succ (by simp [h])

abbrev bxC (w : World) (c : PC) : World := w.alloc (.cells #[.slice c.ga c.gl.length c.gc, .slice c.na c.ini.length c.nc, .slice c.fa c.fns.length c.fc] 26)
theorem bxC_at {w w' : World} {c : PC} (h : Q (bxC w c) w') : At w' w.heap.size 0 c.cells := At.box h
theorem bxC_q (w : World) (c : PC) : Q w (bxC w c) := (Q.refl _).alloc _

set_option maxRecDepth 100000 in
set_option maxHeartbeats 1000000 in
theorem rcount_any (w : World) (c : PC) (hcok : c.ok w) : Calls Try.prog 19 #[c.v] w fun e w' => e = .returned (.int .i64 (IntKind.i64.wrap (codeN c))) ∧ Q w w' := by
 have HC := hideIt (fun X (h : Q (bxC w c) X) => bxC_at h)
 have HF := hideIt (fun X (h : Q (bxC w c) X) => Fns.keep ((bxC_q w c).trans h) hcok.fns)
 have hlen : c.fns.length ≤ 9223372036854775807 := hcok.fsok.len
 clear hcok
 go_enter Try.func19, Try.ntmps19
 go_wp2_with (fail)
 go_loopw [3, 4, 5] (fun n i d wr => ∃ (k : Nat), n = .int .i64 (IntKind.i64.wrap (cntTo c k)) ∧ i = .int .i64 k ∧ k ≤ c.fns.length ∧ wr = bxC w c) (fun _ i _ _ => c.fns.length - (intOf i).toNat)
 case atStart => exact ⟨0, by rw [cntTo_zero]; rfl, rfl, by omega, rfl⟩
 case round =>
  obtain ⟨k, rfl, rfl, hk, hq⟩ := hrel
  obtain ⟨c0, c1, c2⟩ := (HC.out wr (by rw [hq]; exact Q.refl _)).three
  by_cases hlt : k < c.fns.length
  ·obtain ⟨f, hf⟩ := get_of_lt hlt
   obtain ⟨fb, fo, efa, hfat⟩ := (HF.out wr (by rw [hq]; exact Q.refl _)) k f hf
   have hkl : (k : Int) < (c.fns.length : Int) := by omega
   rw [efa] at c2
   obtain ⟨f0, f1, f2, f3⟩ := hfat.1.four
   have hplen : f.parts.length ≤ 9223372036854775807 := hfat.2.psok.len
   have HP := hideIt hfat.2.parts
   have HS := hideIt (cntTo_succ hf)
   have HQ := hideIt hq
   clear hf efa hfat hq
   generalize hcn : cntTo c k = cn at *
   go_wp2_with (fail)
   go_loopw [3, 5] (fun n i x => ∃ (j : Nat), n = .int .i64 (IntKind.i64.wrap (cn + prtTo f j)) ∧ i = .int .i64 j ∧ j ≤ f.parts.length ∧ x = wr) (fun _ i _ => f.parts.length - (intOf i).toNat)
   case atStart => exact ⟨0, by rw [prtTo_zero, Int.add_zero], rfl, by omega, rfl⟩
   case round =>
    obtain ⟨j, rfl, rfl, hj, rfl⟩ := hrel
    by_cases hlt2 : j < f.parts.length
    ·obtain ⟨p, hp⟩ := get_of_lt hlt2
     obtain ⟨pb, po, epa, hpat⟩ := HP.out j p hp
     have hjl : (j : Int) < (f.parts.length : Int) := by omega
     rw [epa] at f3
     obtain ⟨p0, -⟩ := hpat.1.five
     have hil : p.ins.length * 64 ≤ 140737488351232 := hpat.2.sok.2.2.2
     have hil2 : p.ins.length ≤ 2199023255552 := by omega
     have HS2 := hideIt (prtTo_succ hp)
     clear hp epa hpat
     generalize prtTo f j = pj at *
     go_wp2_with (fail)
     go_roundw
     case rel =>
      refine ⟨j + 1, ?_, by go_num, by omega, by first | rfl | trivial⟩
      rw [HS2.out, show cn + (pj + partN p) = (cn + pj) + (1 + (p.ins.length : Int)) by unfold partN; omega, wrap_sum]
     case measure => simp [intOf]; omega
    ·have ej : j = f.parts.length := by omega
     go_wp2_with (fail)
     go_roundw
     case rel =>
      refine ⟨k + 1, ?_, by go_num, by omega, HQ.out⟩
      rw [HS.out, ej, prtTo_all]
     case measure => simp [intOf]; omega
  ·have ek : k = c.fns.length := by omega
   go_wp2_with (fail)
   go_ret
   refine ⟨?_, bxC_q w c⟩
   rw [ek, cntTo_all]
   rfl

abbrev bxF (w : World) (f : PF) : World := w.alloc (.cells #[.int .i64 f.params, .int .i64 f.regs, .slice f.sa f.slots.length f.sc, .slice f.pa f.parts.length f.pc] 44)
abbrev bxP (w : World) (p : PP) : World := w.alloc (.cells #[.slice p.ia p.ins.length p.ic, .bool p.e, .int .i64 p.cond, .int .i64 p.next, .int .i64 p.els] 47)

set_option maxRecDepth 100000 in
set_option maxHeartbeats 1000000 in
theorem count_any (w : World) (c : PC) (hcok : c.ok w) : Calls Try.prog 33 #[c.v] w fun e w' => e = .returned (.int .i64 (IntKind.i64.wrap (codeN c))) ∧ Q w w' := by
 have HC := hideIt (fun X (h : Q (bxC w c) X) => bxC_at h)
 have HF := hideIt (fun X (h : Q (bxC w c) X) => Fns.keep ((bxC_q w c).trans h) hcok.fns)
 have hlen : c.fns.length ≤ 9223372036854775807 := hcok.fsok.len
 clear hcok
 go_enter Try.func33, Try.ntmps33
 go_wp2_with (fail)
 go_loopw [3, 5, 7, 11] (fun n d1 d3 i wr => ∃ (k : Nat), n = .int .i64 (IntKind.i64.wrap (cntTo c k)) ∧ i = .int .i64 k ∧ k ≤ c.fns.length ∧ Q (bxC w c) wr) (fun _ _ _ i _ => c.fns.length - (intOf i).toNat)
 case atStart => exact ⟨0, by rw [cntTo_zero]; rfl, rfl, by omega, Q.refl _⟩
 case round =>
  obtain ⟨k, rfl, rfl, hk, hq⟩ := hrel
  by_cases hlt : k < c.fns.length
  ·obtain ⟨f, hf⟩ := get_of_lt hlt
   obtain ⟨fb, fo, efa, hfat⟩ := (HF.out wr hq) k f hf
   have hkl : (k : Int) < (c.fns.length : Int) := by omega
   obtain ⟨f0, f1, f2, f3⟩ := hfat.1.four
   have hplen : f.parts.length * 56 ≤ 140737488351232 := hfat.2.psok.2.2.2
   have hplen2 : f.parts.length ≤ 2513169434844 := by omega
   have HP := hideIt (fun X (h : Q wr X) => Prts.keep h hfat.2.parts)
   have HS := hideIt (cntTo_succ hf)
   have HQ := hideIt hq
   have HA := hideIt efa
   clear hf hfat hq
   generalize hcn : cntTo c k = cn at *
   rw [efa]
   clear efa
   go_wp2_with (fail)
   have QB : Q wr (bxF wr f) := (Q.refl wr).alloc _
   go_loopw [3, 7, 23] (fun n d3 i x => ∃ (j : Nat), n = .int .i64 (IntKind.i64.wrap (cn + f.parts.length + (prtTo f j - j))) ∧ i = .int .i64 j ∧ j ≤ f.parts.length ∧ Q wr x) (fun _ _ i _ => f.parts.length - (intOf i).toNat)
   case atStart => exact ⟨0, by rw [prtTo_zero, wrap_sum]; simp, rfl, by omega, QB⟩
   case round =>
    rename_i wr0 _ _ _ _ _ _ _ _ _ _ _ _ _ _ _
    obtain ⟨j, rfl, rfl, hj, hq2⟩ := hrel
    have HQ2 := hideIt hq2
    clear hq2 QB
    by_cases hlt2 : j < f.parts.length
    ·obtain ⟨p, hp⟩ := get_of_lt hlt2
     obtain ⟨pb, po, epa, hpat⟩ := HP.out _ HQ2.out j p hp
     have hjl : (j : Int) < (f.parts.length : Int) := by omega
     obtain ⟨p0, p1, p2, p3, p4⟩ := hpat.1.five
     have HS2 := hideIt (prtTo_succ hp)
     clear hp hpat
     generalize prtTo f j = pj at *
     rw [epa]
     clear epa
     have QB : Q wr (bxP wr p) := (Q.refl wr).alloc _
     go_wp2_with (fail)
     go_roundw
     case rel =>
      refine ⟨j + 1, ?_, by go_num, by omega, HQ2.out.trans QB⟩
      rw [HS2.out, show cn + (f.parts.length : Int) + (pj + partN p - ((j + 1 : Nat) : Int)) = (cn + (f.parts.length : Int) + (pj - (j : Int))) + (p.ins.length : Int) by unfold partN; omega, wrap_sum]
     case measure => simp [intOf]; omega
    ·have ej : j = f.parts.length := by omega
     go_wp2_with (fail)
     go_roundw
     case rel =>
      refine ⟨k + 1, ?_, by go_num, by omega, HQ.out.trans HQ2.out⟩
      rw [HS.out, ej, prtTo_all, show cn + (f.parts.length : Int) + (fnN f - (f.parts.length : Int)) = cn + fnN f by omega]
     case measure => simp [intOf]; omega
  ·have ek : k = c.fns.length := by omega
   go_wp2_with (fail)
   go_ret
   refine ⟨?_, (bxC_q w c).trans hq⟩
   rw [ek, cntTo_all]
   rfl

end Go.Proofs.Ytphknepblchkdaa

namespace Go.Proofs.Ytphknepblchkdaa
open Go.RowKit
set_option linter.unusedVariables false

/-- The functions from k on are right. -/
def fnsP (c : PC) : Nat → List PF → Bool
 | _, [] => true
 | k, f :: r => fnP c k f && fnsP c (k + 1) r
def lastP (c : PC) : Bool := match c.fns[c.fns.length - 1]? with | some f => f.params == 0 | none => false
def hdP (c : PC) : Bool := lastP c && (decide (c.ini.length = c.gl.length) && roomL 65536 c.gl)
def rightP (c : PC) : Bool := hdP c && fnsP c 0 c.fns
theorem fnsP_drop {c : PC} {k : Nat} {f : PF} (h : c.fns[k]? = some f) : fnsP c k (c.fns.drop k) = (fnP c k f && fnsP c (k + 1) (c.fns.drop (k + 1))) := by
 obtain ⟨hk, e⟩ := List.getElem?_eq_some_iff.1 h
 rw [List.drop_eq_getElem_cons hk, e]
 rfl

set_option maxRecDepth 100000 in
set_option maxHeartbeats 1000000 in
theorem right_any (w : World) (cb co : Nat) (c : PC) (hc : At w cb co c.cells) (hcok : c.ok w) :
  Calls Try.prog 34 #[.pointer (some ⟨cb, co, none⟩)] w fun e w' => e = .returned (.bool (rightP c)) ∧ Q w w' := by
 obtain ⟨c0, c1, c2⟩ := hc.three
 have hlen : c.fns.length ≤ 9223372036854775807 := hcok.fsok.len
 have CF : Hid (∀ X, Q w X → ∀ (k : Nat) (f : PF), c.fns[k]? = some f → Calls Try.prog 60 #[.pointer (some ⟨cb, co, none⟩), .int .i64 (k : Int)] X fun e w' => e = .returned (.bool (fnP c k f)) ∧ Q X w') := fun X h k f hk => function_any X cb co k c f (hc.keep h) (hcok.keep h) hk
 have CR := hideIt (fun n => room_any (w.drewN n) c.ga c.gc c.gl hcok.gsok (hcok.gl.keep ((Q.refl w).drewN n)))
 unfold rightP hdP
 by_cases h0 : c.fns.length = 0
 ·have e : lastP c = false := by
   unfold lastP
   rw [List.getElem?_eq_none (by omega)]
  rw [e]
  clear e CF CR hc hcok
  rw [h0] at c2
  go_enter Try.func34, Try.ntmps34
  go_wp2_with (fail)
  go_ret
  exact ⟨rfl, Q.refl _⟩
 have hl : c.fns.length - 1 < c.fns.length := by omega
 obtain ⟨g, hg⟩ := get_of_lt hl
 obtain ⟨fb, fo, efa, hgat⟩ := hcok.fns _ g hg
 obtain ⟨g0, -⟩ := hgat.1.four
 rw [efa] at c2
 have e : lastP c = (g.params == 0) := by unfold lastP; rw [hg]
 rw [e]
 clear e hc hcok efa hg hgat
 obtain ⟨m, hm⟩ : ∃ m, c.fns.length = m + 1 := ⟨c.fns.length - 1, by omega⟩
 rw [hm] at c2 hlen g0
 have HM := hideIt hm
 clear hl hm h0
 simp only [Nat.add_sub_cancel] at g0
 by_cases h1 : g.params = 0
 ·rw [h1] at g0 ⊢
  by_cases h2 : c.ini.length = c.gl.length
  ·have e : decide (c.ini.length = c.gl.length) = true := by simpa using h2
   rw [e]
   rw [h2] at c1
   clear e h2 h1
   cases h3 : roomL 65536 c.gl <;> rw [h3] at CR
   ·clear CF
    go_enter Try.func34, Try.ntmps34
    go_wp2_with (fail)
    go_quiet (first | (go_at_call 59; exact Calls.quiet_of_same (CR.out _)) | fail)
    go_wp2
    go_ret
    exact ⟨rfl, (Q.refl w).drewN _⟩
   ·have e : (((0 : Int) == 0) && (true && true) && fnsP c 0 c.fns) = fnsP c 0 c.fns := by simp
    rw [e]
    clear e
    go_enter Try.func34, Try.ntmps34
    go_wp2_with (fail)
    go_quiet (first | (go_at_call 59; exact Calls.quiet_of_same (CR.out _)) | fail)
    go_wp2
    have hW : Q w (w.drewN nq) := (Q.refl w).drewN nq
    go_loopw [4, 48] (fun d i wr => ∃ (k : Nat), i = .int .i64 k ∧ k ≤ c.fns.length ∧ fnsP c 0 c.fns = fnsP c k (c.fns.drop k) ∧ Q w wr) (fun _ i _ => c.fns.length - (intOf i).toNat)
    case atStart => exact ⟨0, rfl, by omega, by simp, hW⟩
    case round =>
     obtain ⟨k, rfl, hk, r3, hq⟩ := hrel
     have HR := hideIt r3
     have HQ := hideIt hq
     clear r3 hq hW c0 c1 c2 g0
     have hm := HM.out
     by_cases hlt : k < m + 1
     ·obtain ⟨f, hf⟩ := get_of_lt (l := c.fns) (k := k) (by omega)
      have hkl : (k : Int) < ((m + 1 : Nat) : Int) := by omega
      have CF1 := hideIt (CF.out wr HQ.out k f hf)
      have HS := hideIt (fnsP_drop hf)
      clear hf
      have hm' : c.fns.length - k = m + 1 - k := by omega
      clear hm
      cases hfp : fnP c k f <;> rw [hfp] at CF1
      ·go_wp2_with (first | (go_at_call 60; refine CF1.out.mono ?_; rintro e x2 ⟨rfl, q2⟩; have H2 := hideIt q2; clear q2) | fail)
       go_ret
       refine ⟨?_, HQ.out.trans H2.out⟩
       rw [HR.out, HS.out, hfp]
       rfl
      ·go_wp2_with (first | (go_at_call 60; refine CF1.out.mono ?_; rintro e x2 ⟨rfl, q2⟩; have H2 := hideIt q2; clear q2) | fail)
       go_roundw
       case rel =>
        refine ⟨k + 1, by go_num, by have := HM.out; omega, ?_, HQ.out.trans H2.out⟩
        rw [HR.out, HS.out, hfp, Bool.true_and]
       case measure => have := HM.out; simp [intOf]; omega
     ·have ek : k = m + 1 := by omega
      clear hm
      go_wp2_with (fail)
      go_ret
      refine ⟨?_, HQ.out⟩
      rw [HR.out, ek, ← HM.out, List.drop_length]
      rfl
  ·have e : decide (c.ini.length = c.gl.length) = false := by simpa using h2
   rw [e]
   have h2' : ((c.ini.length : Int) = (c.gl.length : Int)) = False := eq_false (by omega)
   clear e CF CR
   go_enter Try.func34, Try.ntmps34
   go_wp2_with (fail)
   go_quiet (fail)
   go_wp2
   go_ret
   exact ⟨rfl, (Q.refl w).drewN _⟩
 ·have e : (g.params == 0) = false := by simpa using h1
  have e' : (g.params != 0) = true := by simpa using h1
  rw [e]
  clear e CF CR
  go_enter Try.func34, Try.ntmps34
  go_wp2_with (fail)
  go_ret
  exact ⟨rfl, Q.refl _⟩

def validP (c : PC) : Int := if 60000 < IntKind.i64.wrap (codeN c) then 11 else if rightP c then 0 else 3

set_option maxRecDepth 100000 in
theorem valid_any (w : World) (c : PC) (hcok : c.ok w) : Calls Try.prog 20 #[c.v] w fun e w' => e = .returned (.int .i64 (validP c)) ∧ Q w w' := by
 have HC := hideIt (fun X (h : Q (bxC w c) X) => (bxC_at h).three)
 have CC := hideIt (count_any (bxC w c) c (hcok.keep (bxC_q w c)))
 have CR : Hid (∀ X, Q (bxC w c) X → Calls Try.prog 34 #[.pointer (some ⟨w.heap.size, 0, none⟩)] X fun e w' => e = .returned (.bool (rightP c)) ∧ Q X w') := fun X h => right_any X w.heap.size 0 c (bxC_at h) (hcok.keep ((bxC_q w c).trans h))
 clear hcok
 unfold validP
 generalize IntKind.i64.wrap (codeN c) = n at *
 by_cases h1 : 60000 < n
 ·rw [if_pos h1]
  have e : decide (60000 < n) = true := by simpa using h1
  clear CR
  go_enter Try.func20, Try.ntmps20
  go_wp2_with (first | (go_at_call 33; refine CC.out.mono ?_; rintro e x1 ⟨rfl, q1⟩; have H1 := hideIt q1; clear q1) | fail)
  go_ret
  exact ⟨rfl, (bxC_q w c).trans H1.out⟩
 ·rw [if_neg h1]
  have e : decide (60000 < n) = false := by simpa using h1
  cases hr : rightP c <;> rw [hr] at CR <;>
  ·go_enter Try.func20, Try.ntmps20
   go_wp2_with (first | (go_at_call 33; refine CC.out.mono ?_; rintro e x1 ⟨rfl, q1⟩; have H1 := hideIt q1; clear q1) | (go_at_call 34; refine (CR.out _ H1.out).mono ?_; rintro e x2 ⟨rfl, q2⟩; have H2 := hideIt q2; clear q2) | fail)
   go_ret
   exact ⟨rfl, (bxC_q w c).trans (H1.out.trans H2.out)⟩

end Go.Proofs.Ytphknepblchkdaa
