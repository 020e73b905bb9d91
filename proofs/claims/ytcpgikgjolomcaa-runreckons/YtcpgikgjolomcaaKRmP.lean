/-
  An instruction of a run: the contract over the program; where the way goes on behind a part (next); the conditions: a run lies there, the call is open, the instruction is right, and the functions ahead keep their contract.
-/
import Derived.Test.YtcpgikgjolomcaaKRmK
import Derived.Test.YtcpgikgjolomcaaKRmL
import Derived.Test.YtcpgikgjolomcaaKRmM
import Derived.Test.YtcpgikgjolomcaaKRmN
import Derived.Test.YtcpgikgjolomcaaKRmO
import Derived.Deep.QuietTactic
import Derived.BigQuiet
namespace Go.Proofs.Ytcpgikgjolomcaa
open Go.RowKit
set_option linter.unusedVariables false

theorem inst_any {w w0 : World} {R p gb gc : Nat} {col : Col} {c : PC} {fuel : Nat} {s : St} {A : List Int} {G : GG} {k : Nat} {f : PF} {ρ : Rg} {Cb fb fo first : Nat} (h : IA w w0 R p gb gc col c fuel s A G k f ρ Cb fb fo first) (ib io : Nat) (x : PI) (hx : At w0 ib io x.cells) (hxok : x.ok w0) (hfl : f.slots.length ≤ 65536) (hgl : c.gl.length ≤ 65536) (hins : insP c k f x = true) {cf : CallT} (hmon : MonC cf) (hpar : ∀ (j : Nat) (g : PF), c.fns[j]? = some g → g.params ≤ 20000) (hcc : CallC w0 R p gb gc c fuel cf k) :
    Calls Try.prog 60 (insArg R Cb ib io) w fun e w' => InsPost w w0 R p gb gc col c fuel s G k f (exI cf fuel first x ρ s) e w' := by
  by_cases hs : s.n = fuel
  · rw [show exI cf fuel first x ρ s = .over 0 true s by simp [exI, hs]]
    refine (inst_spent h ib io hs).mono ?_
    rintro e w' ⟨rfl, q⟩
    exact ⟨rfl, Or.inr rfl, q⟩
  by_cases n33 : x.op = 33
  · rw [show exI cf fuel first x ρ s = .ok ρ { s.up with tr := s.tr ++ [rg ρ x.a] } by simp [exI, hs, n33]]
    exact inst_print h ib io x hx hins hs n33
  by_cases n31 : x.op = 31
  · rw [show exI cf fuel first x ρ s = (if Me.inB s.bs (hiA (rg ρ x.a)) (loA (rg ρ x.a)) then .ok ρ { s.up with f := Me.upd s.f (hiA (rg ρ x.a)) (loA (rg ρ x.a)) (rg ρ x.b) } else .over 5 false s.up) by simp [exI, hs, n31]]
    exact inst_store h ib io x hx hins hs n31 _ rfl
  by_cases n30 : x.op = 30
  · cases hin : Me.inB s.bs (hiA (rg ρ x.a)) (loA (rg ρ x.a))
    · rw [show exI cf fuel first x ρ s = .over 5 false s.up by simp [exI, hs, n30, hin]]
      exact inst_lost h ib io x hx hins n30 hs hin
    · rw [show exI cf fuel first x ρ s = .ok (setR ρ x.dst.toNat (s.f (hiA (rg ρ x.a)) (loA (rg ρ x.a)))) s.up by simp [exI, hs, n30, hin]]
      exact inst_load h ib io x hx hins n30 hs _ hin rfl
  by_cases n32 : x.op = 32
  · cases hr : cf x.imm.toNat (x.args.map (rg ρ)) s.up with
    | ok v s2 =>
      rw [show exI cf fuel first x ρ s = .ok (setR ρ x.dst.toNat v) s2 by simp [exI, hs, n32, hr]]
      exact inst_call h ib io x hx hxok hins hs n32 hmon hpar hcc v s2 hr
    | over t sp s2 =>
      rw [show exI cf fuel first x ρ s = .over t sp s2 by simp [exI, hs, n32, hr]]
      exact inst_over h ib io x hx hxok hins hs n32 hmon hpar hcc t sp s2 hr
  · have hop : x.op < 30 := by
      unfold insP knP opP at hins
      simp at hins
      omega
    by_cases hz : reck2 ρ x = 0
    · rw [show exI cf fuel first x ρ s = .ok (setR ρ x.dst.toNat (reck1 first ρ x)) s.up by simp [exI, *]]
      exact inst_reck h ib io x hx hxok.ty.1 hfl hgl hins hop hs _ _ rfl rfl hz
    · rw [show exI cf fuel first x ρ s = .over (reck2 ρ x) false s.up by simp [exI, *]]
      exact inst_trap h ib io x hx hxok.ty.1 hfl hgl hins hop hs _ _ rfl rfl hz

set_option maxRecDepth 100000 in
set_option maxHeartbeats 1000000 in
theorem next_ri {w w0 : World} {R p gb gc : Nat} {col : Col} {c : PC} {fuel : Nat} {s : St} {A : List Int} {G : GG} (h : RI w w0 R p gb gc col c fuel s A G) {k : Nat} (hk : k < c.fns.length) {ρ : Rg} (hρ : ∀ n, regAt (G k).1 n = ρ n) {Cb fb fo first : Nat} (hC : CB w Cb gb k fb fo first) {pb po : Nat} {q : PP} (hp : At w pb po q.cells) :
    Calls Try.prog 63 #[.pointer (some ⟨Cb, 0, none⟩), .pointer (some ⟨pb, po, none⟩)] w fun e w' => e = .returned (.int .i64 (nextP q ρ)) ∧ Dr w w' := by
  obtain ⟨-, -, p2, p3, p4⟩ := hp.five
  have c0 := hC.c0
  by_cases hc : 0 ≤ q.cond
  · have GT := hideIt (fun m => get_int (h.keep ((Q.refl w).drewN m)) hk hρ q.cond hc)
    have hd : decide (0 ≤ q.cond) = true := by simpa using hc
    by_cases hz : rg ρ q.cond = 0
    · rw [show nextP q ρ = q.els by simp [nextP, hc, hz]]
      rw [hz] at GT
      clear h hC hp
      go_enter Try.func63, Try.ntmps63
      go_wp2_with (fail)
      go_quiet (first | (go_at_call 62; exact Calls.quiet_of_same (GT.out _)) | fail)
      go_wp2_with (fail)
      go_ret
      exact ⟨rfl, _, rfl⟩
    · rw [show nextP q ρ = q.next by simp [nextP, hz]]
      have hz2 : (rg ρ q.cond == 0) = false := by simpa using hz
      generalize rg ρ q.cond = v at *
      clear h hC hp
      go_enter Try.func63, Try.ntmps63
      go_wp2_with (fail)
      go_quiet (first | (go_at_call 62; exact Calls.quiet_of_same (GT.out _)) | fail)
      go_wp2_with (fail)
      go_ret
      exact ⟨rfl, _, rfl⟩
  · rw [show nextP q ρ = q.next by simp [nextP, hc]]
    have hd : decide (0 ≤ q.cond) = false := by simpa using hc
    clear h hC hp
    go_enter Try.func63, Try.ntmps63
    go_wp2_with (fail)
    go_quiet (fail)
    go_wp2_with (fail)
    go_ret
    exact ⟨rfl, _, rfl⟩

end Go.Proofs.Ytcpgikgjolomcaa
