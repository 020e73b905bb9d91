/-
  What an instruction reads and writes, by layer 13's own test: contracts over the program.
-/
import Derived.Test.YtiiggldapncknaaIrG
namespace Go.Proofs.Ytiiggldapncknaa
open Go.RowKit
set_option linter.unusedVariables false

theorem all_drop {α : Type} {p : α → Bool} {l : List α} {k : Nat} {x : α} (h : l[k]? = some x) : (l.drop k).all p = (p x && (l.drop (k + 1)).all p) := by
  obtain ⟨hk, e⟩ := List.getElem?_eq_some_iff.1 h
  rw [List.drop_eq_getElem_cons hk, e]
  rfl

theorem rdP_32 : rdP 32 = 0 := by decide

set_option maxRecDepth 100000 in
theorem read_any (w : World) (fb fo ib io : Nat) (f : PF) (x : PI) (hf : At w fb fo f.cells) (hx : At w ib io x.cells) (hok : x.ok w) :
    Calls Try.prog 45 #[.pointer (some ⟨fb, fo, none⟩), .pointer (some ⟨ib, io, none⟩)] w fun e w' => e = .returned (.bool (rdsP f x)) ∧ Dr w w' := by
  obtain ⟨f0, f1, f2, f3⟩ := hf.four
  obtain ⟨i0, i1, i2, i3, i4, i5, i6⟩ := hx.seven
  have CR := hideIt (fun X => reads_any x.op X)
  have HA := hideIt (And.intro hok.sok hok.args)
  clear hf hx hok
  unfold rdsP
  rcases x with ⟨op, ty, dst, a, b, imm, args, aa, ac⟩
  dsimp only at *
  generalize f.regs = regs at *
  by_cases h32 : op = 32
  · subst h32
    rw [rdP_32] at CR ⊢
    have e0 : ((!decide (0 < (0 : Nat)) || blP a regs) && (!decide (1 < (0 : Nat)) || blP b regs) && (!((32 : Int) == 32) || args.all (fun r => blP r regs))) = args.all (fun r => blP r regs) := by simp
    rw [e0]
    clear e0
    have hlen := HA.out.1.len
    go_enter Try.func45, Try.ntmps45
    go_wp2_with (first | (go_at_call 25; refine (CR.out _).mono ?_; rintro e x ⟨rfl, rfl⟩) | fail)
    go_quiet (fail)
    go_wp2
    generalize hW : x.drewN nq = W
    go_loopw [7, 53] (fun m i wr => ∃ (k : Nat), i = .int .i64 k ∧ k ≤ args.length ∧ args.all (fun r => blP r regs) = (args.drop k).all (fun r => blP r regs) ∧ wr = W) (fun _ i _ => args.length - (intOf i).toNat)
    case atStart => exact ⟨0, rfl, by omega, by simp, rfl⟩
    case round =>
      obtain ⟨k, rfl, hk, r3, rfl⟩ := hrel
      have HR := hideIt r3
      clear r3
      have qd : Q x wr := by rw [← hW]; exact (Q.refl x).drewN _
      have f1' := cell_keep qd f1
      have HW := hideIt hW
      have HQ := hideIt qd
      clear hW qd f0 f1 f2 f3 i0 i1 i2 i3 i4 i5 i6
      by_cases hlt : k < args.length
      · obtain ⟨r, hr⟩ := get_of_lt hlt
        obtain ⟨b1, o1, rfl, hc, hI⟩ := HA.out.2 k r hr
        rw [Nat.mul_one] at hc
        have hc' := cell_keep HQ.out hc
        have CB := hideIt (fun X => below_any r regs X)
        have HX := hideIt hr
        have hkl : (k : Int) < (args.length : Int) := by omega
        clear hr hI hc
        cases h1 : blP r regs <;> rw [h1] at CB
        · go_wp2_with (first | (go_at_call 42; refine (CB.out _).mono ?_; rintro e x ⟨rfl, rfl⟩) | fail)
          go_ret
          refine ⟨?_, _, HW.out.symm⟩
          rw [HR.out, all_drop HX.out, h1]
          rfl
        · go_wp2_with (first | (go_at_call 42; refine (CB.out _).mono ?_; rintro e x ⟨rfl, rfl⟩) | fail)
          go_roundw
          case rel =>
            refine ⟨k + 1, by go_num, by omega, ?_, by first | rfl | trivial⟩
            rw [HR.out, all_drop HX.out, h1]
            simp
          case measure => simp [intOf]; omega
      · have ek : k = args.length := by omega
        go_wp2_with (fail)
        go_ret
        refine ⟨?_, _, HW.out.symm⟩
        rw [HR.out, ek, List.drop_length]
        rfl
  · have e0 : (!(op == 32) || args.all (fun r => blP r regs)) = true := by simp [h32]
    rw [e0, Bool.and_true]
    clear e0
    have hle := rdP_le op
    generalize rdP op = n at *
    have C1 := hideIt (fun X => below_any a regs X)
    have C2 := hideIt (fun X => below_any b regs X)
    generalize blP a regs = r1 at *
    generalize blP b regs = r2 at *
    obtain rfl | rfl | rfl : n = 0 ∨ n = 1 ∨ n = 2 := by omega
    · clear hle
      go_enter Try.func45, Try.ntmps45
      go_wp2_with (first | (go_at_call 25; refine (CR.out _).mono ?_; rintro e x ⟨rfl, rfl⟩) | fail)
      go_quiet (fail)
      go_wp2
      go_ret
      exact ⟨by first | rfl | simp, _, rfl⟩
    · clear hle
      cases r1 <;>
      · go_enter Try.func45, Try.ntmps45
        go_wp2_with (first | (go_at_call 25; refine (CR.out _).mono ?_; rintro e x ⟨rfl, rfl⟩) | fail)
        go_quiet (first | (go_at_call_of 42 (Value.int IntKind.i64 a); exact Calls.quiet_of_same (C1.out _)) | fail)
        go_wp2
        go_ret
        exact ⟨by first | rfl | simp, _, rfl⟩
    · clear hle
      cases r1 <;> cases r2 <;>
      · go_enter Try.func45, Try.ntmps45
        go_wp2_with (first | (go_at_call 25; refine (CR.out _).mono ?_; rintro e x ⟨rfl, rfl⟩) | fail)
        go_quiet (first | (go_at_call_of 42 (Value.int IntKind.i64 a); exact Calls.quiet_of_same (C1.out _)) | (go_at_call_of 42 (Value.int IntKind.i64 b); exact Calls.quiet_of_same (C2.out _)) | fail)
        go_wp2
        go_ret
        exact ⟨by first | rfl | simp, _, rfl⟩

end Go.Proofs.Ytiiggldapncknaa
