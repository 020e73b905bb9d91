/-
  What an instruction answers that looks at registers alone (reckon): contracts over the program, a kind of instruction each; the conditions: the instruction and the call lie there, and a register is read as ρ says.
  What an instruction answers that looks at registers alone (reckon): the contract over the program; the arguments of a call are got ready (ready); the conditions: a run lies there, and the instruction is right.
-/
import Derived.Test.YtaomkfhbnakbjaaKRmD
import Derived.Deep.RegionHeld3
import Derived.Deep.RegionLaw
namespace Go.Proofs.Ytaomkfhbnakbjaa
open Go.RowKit
set_option linter.unusedVariables false

abbrev GetT (w : World) (gb k : Nat) (ρ : Rg) : Prop := ∀ x, Q w x → ∀ n : Int, 0 ≤ n → Calls Try.prog 106 #[.pointer (some ⟨gb, k * 2, none⟩), .int .i64 n] x fun e w' => e = .returned (.int .i64 (rg ρ n)) ∧ w' = x
abbrev RcF (gb k Cb ib io first : Nat) (xo xt xa xb xi : Int) (y : World) : Prop := y.cell? ⟨Cb, 0, none⟩ = some (.pointer (some ⟨gb, k * 2, none⟩)) ∧ y.cell? ⟨ib, io, none⟩ = some (.int .u8 xo) ∧ y.cell? ⟨ib, io + 1, none⟩ = some (.int .u8 xt) ∧ y.cell? ⟨ib, io + 3, none⟩ = some (.int .i64 xa) ∧ y.cell? ⟨ib, io + 4, none⟩ = some (.int .i64 xb) ∧ y.cell? ⟨ib, io + 5, none⟩ = some (.int .i64 xi) ∧ y.cell? ⟨Cb, 2, none⟩ = some (.int .i64 (first : Int))

theorem index_any (w : World) (a p l : Int) : Calls Try.prog 132 #[.int .i64 a, .int .i64 p, .int .i64 l] w fun e w' => e = .returned (.tuple #[.int .i64 (if p < 0 ∨ l ≤ p then 0 else wrap64 (a + p)), .int .u8 (if p < 0 ∨ l ≤ p then 4 else 0)]) ∧ w' = w := by
  by_cases h : p < 0 ∨ l ≤ p
  · rw [if_pos h, if_pos h]; exact index_bad w a p l h
  · rw [if_neg h, if_neg h]; exact index_ok w a p l (fun q => h (Or.inl q)) (by omega)

set_option maxRecDepth 100000 in
set_option maxHeartbeats 1000000 in
theorem reck_20 (w : World) (gb k Cb ib io first : Nat) (ρ : Rg) (xo xt xa xb xi : Int) (hG : GetT w gb k ρ) (hF : ∀ y, Q w y → RcF gb k Cb ib io first xo xt xa xb xi y) (hop : xo = 20) :
    Calls Try.prog 122 #[.pointer (some ⟨Cb, 0, none⟩), .pointer (some ⟨ib, io, none⟩)] w fun e w' => e = .returned (.tuple #[.int .i64 (xi), .int .u8 (0)]) ∧ Q w w' := by
  obtain rfl : xo = 20 := hop
  obtain ⟨f0, f1, f2, f3, f4, f5, f6⟩ := hF w (Q.refl w)
  have HF := hideIt hF
  have GA := hideIt (fun x (hx : Q w x) n hn => (hG x hx n hn).mono fun e w' (q : _ ∧ _) => (⟨q.1, by rw [q.2]; exact ⟨hx, hF x hx⟩⟩ : _ ∧ (Q w w' ∧ RcF gb k Cb ib io first 20 xt xa xb xi w')))
  clear hF hG
  go_enter Try.func122, Try.ntmps122
  go_wp2_with (fail)
  go_ret2
  exact ⟨rfl, Q.refl w⟩

set_option maxRecDepth 100000 in
set_option maxHeartbeats 1000000 in
theorem reck_21 (w : World) (gb k Cb ib io first : Nat) (ρ : Rg) (xo xt xa xb xi : Int) (hG : GetT w gb k ρ) (hF : ∀ y, Q w y → RcF gb k Cb ib io first xo xt xa xb xi y) (hop : xo = 21) (ha : 0 ≤ xa) :
    Calls Try.prog 122 #[.pointer (some ⟨Cb, 0, none⟩), .pointer (some ⟨ib, io, none⟩)] w fun e w' => e = .returned (.tuple #[.int .i64 (rg ρ xa), .int .u8 (0)]) ∧ Q w w' := by
  obtain rfl : xo = 21 := hop
  obtain ⟨f0, f1, f2, f3, f4, f5, f6⟩ := hF w (Q.refl w)
  have HF := hideIt hF
  have GA := hideIt (fun x (hx : Q w x) n hn => (hG x hx n hn).mono fun e w' (q : _ ∧ _) => (⟨q.1, by rw [q.2]; exact ⟨hx, hF x hx⟩⟩ : _ ∧ (Q w w' ∧ RcF gb k Cb ib io first 21 xt xa xb xi w')))
  clear hF hG
  go_enter Try.func122, Try.ntmps122
  go_wp2_with (fail)
  go_region_held3 (fun y : World => Q w y ∧ y.cell? ⟨Cb, 0, none⟩ = some (.pointer (some ⟨gb, k * 2, none⟩)) ∧ y.cell? ⟨ib, io, none⟩ = some (.int .u8 21) ∧ y.cell? ⟨ib, io + 1, none⟩ = some (.int .u8 xt) ∧ y.cell? ⟨ib, io + 3, none⟩ = some (.int .i64 xa) ∧ y.cell? ⟨ib, io + 4, none⟩ = some (.int .i64 xb) ∧ y.cell? ⟨ib, io + 5, none⟩ = some (.int .i64 xi) ∧ y.cell? ⟨Cb, 2, none⟩ = some (.int .i64 (first : Int))) (first | exact ⟨(Q.refl _).drew, HF.out _ (Q.refl _).drew⟩ | go_keep) (first | (go_at_call 106; refine Calls.mono (GA.out _ (by first | assumption | exact (Q.refl _).drew) _ (by assumption)) ?_; rintro e y ⟨rfl, s0, s1, s2, s3, s4, s5, s6, s7⟩))
  all_goals rename_i hHeld
  all_goals have HH := hideIt hHeld.1
  all_goals clear hHeld
  all_goals go_wp2_with (fail)
  all_goals go_ret2
  all_goals exact ⟨rfl, HH.out⟩

set_option maxRecDepth 100000 in
set_option maxHeartbeats 1000000 in
theorem reck_22 (w : World) (gb k Cb ib io first : Nat) (ρ : Rg) (xo xt xa xb xi : Int) (hG : GetT w gb k ρ) (hF : ∀ y, Q w y → RcF gb k Cb ib io first xo xt xa xb xi y) (hop : xo = 22) (ha : 0 ≤ xa) (ht : 0 ≤ xt) :
    Calls Try.prog 122 #[.pointer (some ⟨Cb, 0, none⟩), .pointer (some ⟨ib, io, none⟩)] w fun e w' => e = .returned (.tuple #[.int .i64 (Burin.un1 1 xt (rg ρ xa)), .int .u8 (Burin.un2 1 xt (rg ρ xa))]) ∧ Q w w' := by
  obtain rfl : xo = 22 := hop
  obtain ⟨f0, f1, f2, f3, f4, f5, f6⟩ := hF w (Q.refl w)
  have HF := hideIt hF
  have GA := hideIt (fun x (hx : Q w x) n hn => (hG x hx n hn).mono fun e w' (q : _ ∧ _) => (⟨q.1, by rw [q.2]; exact ⟨hx, hF x hx⟩⟩ : _ ∧ (Q w w' ∧ RcF gb k Cb ib io first 22 xt xa xb xi w')))
  have UN := hideIt (show ∀ x, Q w x → Calls Try.prog 90 #[.int .u8 1, .int .u8 xt, .int .i64 (rg ρ xa)] x fun e w' => e = .returned (.tuple #[.int .i64 (Burin.un1 1 xt (rg ρ xa)), .int .u8 (Burin.un2 1 xt (rg ρ xa))]) ∧ Q w w' ∧ RcF gb k Cb ib io first 22 xt xa xb xi w' from fun x hx => (Nu.un_any 1 xt (rg ρ xa) x ht).mono fun e w' (q : _ ∧ _) => ⟨q.1, hx.trans q.2, hF _ (hx.trans q.2)⟩)
  generalize Burin.un1 1 xt (rg ρ xa) = r1 at *
  generalize Burin.un2 1 xt (rg ρ xa) = r2 at *
  clear hF hG
  go_enter Try.func122, Try.ntmps122
  go_wp2_with (fail)
  go_region_held3 (fun y : World => Q w y ∧ y.cell? ⟨Cb, 0, none⟩ = some (.pointer (some ⟨gb, k * 2, none⟩)) ∧ y.cell? ⟨ib, io, none⟩ = some (.int .u8 22) ∧ y.cell? ⟨ib, io + 1, none⟩ = some (.int .u8 xt) ∧ y.cell? ⟨ib, io + 3, none⟩ = some (.int .i64 xa) ∧ y.cell? ⟨ib, io + 4, none⟩ = some (.int .i64 xb) ∧ y.cell? ⟨ib, io + 5, none⟩ = some (.int .i64 xi) ∧ y.cell? ⟨Cb, 2, none⟩ = some (.int .i64 (first : Int))) (first | exact ⟨(Q.refl _).drew, HF.out _ (Q.refl _).drew⟩ | go_keep) (first | (go_at_call 106; refine Calls.mono (GA.out _ (by first | assumption | exact (Q.refl _).drew) _ (by assumption)) ?_; rintro e y ⟨rfl, s0, s1, s2, s3, s4, s5, s6, s7⟩) | (go_at_call 90; refine Calls.mono (UN.out _ (by first | assumption | exact (Q.refl _).drew)) ?_; rintro e y ⟨rfl, s0, s1, s2, s3, s4, s5, s6, s7⟩))
  all_goals rename_i hHeld
  all_goals have HH := hideIt hHeld.1
  all_goals clear hHeld
  all_goals go_wp2_with (fail)
  all_goals go_ret2
  all_goals exact ⟨rfl, HH.out⟩

set_option maxRecDepth 100000 in
set_option maxHeartbeats 1000000 in
theorem reck_23 (w : World) (gb k Cb ib io first : Nat) (ρ : Rg) (xo xt xa xb xi : Int) (hG : GetT w gb k ρ) (hF : ∀ y, Q w y → RcF gb k Cb ib io first xo xt xa xb xi y) (hop : xo = 23) (ha : 0 ≤ xa) (ht : 0 ≤ xt) :
    Calls Try.prog 122 #[.pointer (some ⟨Cb, 0, none⟩), .pointer (some ⟨ib, io, none⟩)] w fun e w' => e = .returned (.tuple #[.int .i64 (Burin.un1 2 xt (rg ρ xa)), .int .u8 (Burin.un2 2 xt (rg ρ xa))]) ∧ Q w w' := by
  obtain rfl : xo = 23 := hop
  obtain ⟨f0, f1, f2, f3, f4, f5, f6⟩ := hF w (Q.refl w)
  have HF := hideIt hF
  have GA := hideIt (fun x (hx : Q w x) n hn => (hG x hx n hn).mono fun e w' (q : _ ∧ _) => (⟨q.1, by rw [q.2]; exact ⟨hx, hF x hx⟩⟩ : _ ∧ (Q w w' ∧ RcF gb k Cb ib io first 23 xt xa xb xi w')))
  have UN := hideIt (show ∀ x, Q w x → Calls Try.prog 90 #[.int .u8 2, .int .u8 xt, .int .i64 (rg ρ xa)] x fun e w' => e = .returned (.tuple #[.int .i64 (Burin.un1 2 xt (rg ρ xa)), .int .u8 (Burin.un2 2 xt (rg ρ xa))]) ∧ Q w w' ∧ RcF gb k Cb ib io first 23 xt xa xb xi w' from fun x hx => (Nu.un_any 2 xt (rg ρ xa) x ht).mono fun e w' (q : _ ∧ _) => ⟨q.1, hx.trans q.2, hF _ (hx.trans q.2)⟩)
  generalize Burin.un1 2 xt (rg ρ xa) = r1 at *
  generalize Burin.un2 2 xt (rg ρ xa) = r2 at *
  clear hF hG
  go_enter Try.func122, Try.ntmps122
  go_wp2_with (fail)
  go_region_held3 (fun y : World => Q w y ∧ y.cell? ⟨Cb, 0, none⟩ = some (.pointer (some ⟨gb, k * 2, none⟩)) ∧ y.cell? ⟨ib, io, none⟩ = some (.int .u8 23) ∧ y.cell? ⟨ib, io + 1, none⟩ = some (.int .u8 xt) ∧ y.cell? ⟨ib, io + 3, none⟩ = some (.int .i64 xa) ∧ y.cell? ⟨ib, io + 4, none⟩ = some (.int .i64 xb) ∧ y.cell? ⟨ib, io + 5, none⟩ = some (.int .i64 xi) ∧ y.cell? ⟨Cb, 2, none⟩ = some (.int .i64 (first : Int))) (first | exact ⟨(Q.refl _).drew, HF.out _ (Q.refl _).drew⟩ | go_keep) (first | (go_at_call 106; refine Calls.mono (GA.out _ (by first | assumption | exact (Q.refl _).drew) _ (by assumption)) ?_; rintro e y ⟨rfl, s0, s1, s2, s3, s4, s5, s6, s7⟩) | (go_at_call 90; refine Calls.mono (UN.out _ (by first | assumption | exact (Q.refl _).drew)) ?_; rintro e y ⟨rfl, s0, s1, s2, s3, s4, s5, s6, s7⟩))
  all_goals rename_i hHeld
  all_goals have HH := hideIt hHeld.1
  all_goals clear hHeld
  all_goals go_wp2_with (fail)
  all_goals go_ret2
  all_goals exact ⟨rfl, HH.out⟩

set_option maxRecDepth 100000 in
set_option maxHeartbeats 1000000 in
theorem reck_24 (w : World) (gb k Cb ib io first : Nat) (ρ : Rg) (xo xt xa xb xi : Int) (hG : GetT w gb k ρ) (hF : ∀ y, Q w y → RcF gb k Cb ib io first xo xt xa xb xi y) (hop : xo = 24) (ha : 0 ≤ xa) (ht : 0 ≤ xt) :
    Calls Try.prog 122 #[.pointer (some ⟨Cb, 0, none⟩), .pointer (some ⟨ib, io, none⟩)] w fun e w' => e = .returned (.tuple #[.int .i64 (Burin.un1 3 xt (rg ρ xa)), .int .u8 (Burin.un2 3 xt (rg ρ xa))]) ∧ Q w w' := by
  obtain rfl : xo = 24 := hop
  obtain ⟨f0, f1, f2, f3, f4, f5, f6⟩ := hF w (Q.refl w)
  have HF := hideIt hF
  have GA := hideIt (fun x (hx : Q w x) n hn => (hG x hx n hn).mono fun e w' (q : _ ∧ _) => (⟨q.1, by rw [q.2]; exact ⟨hx, hF x hx⟩⟩ : _ ∧ (Q w w' ∧ RcF gb k Cb ib io first 24 xt xa xb xi w')))
  have UN := hideIt (show ∀ x, Q w x → Calls Try.prog 90 #[.int .u8 3, .int .u8 xt, .int .i64 (rg ρ xa)] x fun e w' => e = .returned (.tuple #[.int .i64 (Burin.un1 3 xt (rg ρ xa)), .int .u8 (Burin.un2 3 xt (rg ρ xa))]) ∧ Q w w' ∧ RcF gb k Cb ib io first 24 xt xa xb xi w' from fun x hx => (Nu.un_any 3 xt (rg ρ xa) x ht).mono fun e w' (q : _ ∧ _) => ⟨q.1, hx.trans q.2, hF _ (hx.trans q.2)⟩)
  generalize Burin.un1 3 xt (rg ρ xa) = r1 at *
  generalize Burin.un2 3 xt (rg ρ xa) = r2 at *
  clear hF hG
  go_enter Try.func122, Try.ntmps122
  go_wp2_with (fail)
  go_region_held3 (fun y : World => Q w y ∧ y.cell? ⟨Cb, 0, none⟩ = some (.pointer (some ⟨gb, k * 2, none⟩)) ∧ y.cell? ⟨ib, io, none⟩ = some (.int .u8 24) ∧ y.cell? ⟨ib, io + 1, none⟩ = some (.int .u8 xt) ∧ y.cell? ⟨ib, io + 3, none⟩ = some (.int .i64 xa) ∧ y.cell? ⟨ib, io + 4, none⟩ = some (.int .i64 xb) ∧ y.cell? ⟨ib, io + 5, none⟩ = some (.int .i64 xi) ∧ y.cell? ⟨Cb, 2, none⟩ = some (.int .i64 (first : Int))) (first | exact ⟨(Q.refl _).drew, HF.out _ (Q.refl _).drew⟩ | go_keep) (first | (go_at_call 106; refine Calls.mono (GA.out _ (by first | assumption | exact (Q.refl _).drew) _ (by assumption)) ?_; rintro e y ⟨rfl, s0, s1, s2, s3, s4, s5, s6, s7⟩) | (go_at_call 90; refine Calls.mono (UN.out _ (by first | assumption | exact (Q.refl _).drew)) ?_; rintro e y ⟨rfl, s0, s1, s2, s3, s4, s5, s6, s7⟩))
  all_goals rename_i hHeld
  all_goals have HH := hideIt hHeld.1
  all_goals clear hHeld
  all_goals go_wp2_with (fail)
  all_goals go_ret2
  all_goals exact ⟨rfl, HH.out⟩

set_option maxRecDepth 100000 in
set_option maxHeartbeats 1000000 in
theorem reck_25 (w : World) (gb k Cb ib io first : Nat) (ρ : Rg) (xo xt xa xb xi : Int) (hG : GetT w gb k ρ) (hF : ∀ y, Q w y → RcF gb k Cb ib io first xo xt xa xb xi y) (hop : xo = 25) (ha : 0 ≤ xa) (ht : 0 ≤ xt) :
    Calls Try.prog 122 #[.pointer (some ⟨Cb, 0, none⟩), .pointer (some ⟨ib, io, none⟩)] w fun e w' => e = .returned (.tuple #[.int .i64 (Burin.wr xt (rg ρ xa)), .int .u8 (0)]) ∧ Q w w' := by
  obtain rfl : xo = 25 := hop
  obtain ⟨f0, f1, f2, f3, f4, f5, f6⟩ := hF w (Q.refl w)
  have HF := hideIt hF
  have GA := hideIt (fun x (hx : Q w x) n hn => (hG x hx n hn).mono fun e w' (q : _ ∧ _) => (⟨q.1, by rw [q.2]; exact ⟨hx, hF x hx⟩⟩ : _ ∧ (Q w w' ∧ RcF gb k Cb ib io first 25 xt xa xb xi w')))
  have UN := hideIt (show ∀ x, Q w x → Calls Try.prog 91 #[.int .u8 xt, .int .i64 (rg ρ xa)] x fun e w' => e = .returned (.int .i64 (Burin.wr xt (rg ρ xa))) ∧ Q w w' ∧ RcF gb k Cb ib io first 25 xt xa xb xi w' from fun x hx => (sameQ (Nu.wrap_any xt (rg ρ xa) x ht)).mono fun e w' (q : _ ∧ _) => ⟨q.1, hx.trans q.2, hF _ (hx.trans q.2)⟩)
  generalize Burin.wr xt (rg ρ xa) = r1 at *
  clear hF hG
  go_enter Try.func122, Try.ntmps122
  go_wp2_with (fail)
  go_region_held3 (fun y : World => Q w y ∧ y.cell? ⟨Cb, 0, none⟩ = some (.pointer (some ⟨gb, k * 2, none⟩)) ∧ y.cell? ⟨ib, io, none⟩ = some (.int .u8 25) ∧ y.cell? ⟨ib, io + 1, none⟩ = some (.int .u8 xt) ∧ y.cell? ⟨ib, io + 3, none⟩ = some (.int .i64 xa) ∧ y.cell? ⟨ib, io + 4, none⟩ = some (.int .i64 xb) ∧ y.cell? ⟨ib, io + 5, none⟩ = some (.int .i64 xi) ∧ y.cell? ⟨Cb, 2, none⟩ = some (.int .i64 (first : Int))) (first | exact ⟨(Q.refl _).drew, HF.out _ (Q.refl _).drew⟩ | go_keep) (first | (go_at_call 106; refine Calls.mono (GA.out _ (by first | assumption | exact (Q.refl _).drew) _ (by assumption)) ?_; rintro e y ⟨rfl, s0, s1, s2, s3, s4, s5, s6, s7⟩) | (go_at_call 91; refine Calls.mono (UN.out _ (by first | assumption | exact (Q.refl _).drew)) ?_; rintro e y ⟨rfl, s0, s1, s2, s3, s4, s5, s6, s7⟩))
  all_goals rename_i hHeld
  all_goals have HH := hideIt hHeld.1
  all_goals clear hHeld
  all_goals go_wp2_with (fail)
  all_goals go_ret2
  all_goals exact ⟨rfl, HH.out⟩

set_option maxRecDepth 100000 in
set_option maxHeartbeats 1000000 in
theorem reck_26 (w : World) (gb k Cb ib io first : Nat) (ρ : Rg) (xo xt xa xb xi : Int) (hG : GetT w gb k ρ) (hF : ∀ y, Q w y → RcF gb k Cb ib io first xo xt xa xb xi y) (hop : xo = 26) (hi0 : 0 ≤ xi) (hi1 : xi ≤ 65536) (hfi : first ≤ 65536) :
    Calls Try.prog 122 #[.pointer (some ⟨Cb, 0, none⟩), .pointer (some ⟨ib, io, none⟩)] w fun e w' => e = .returned (.tuple #[.int .i64 (((first : Int) + xi) * 1048576), .int .u8 (0)]) ∧ Q w w' := by
  obtain rfl : xo = 26 := hop
  obtain ⟨f0, f1, f2, f3, f4, f5, f6⟩ := hF w (Q.refl w)
  have HF := hideIt hF
  have GA := hideIt (fun x (hx : Q w x) n hn => (hG x hx n hn).mono fun e w' (q : _ ∧ _) => (⟨q.1, by rw [q.2]; exact ⟨hx, hF x hx⟩⟩ : _ ∧ (Q w w' ∧ RcF gb k Cb ib io first 26 xt xa xb xi w')))
  have w1 : IntKind.i64.wrap ((first : Int) + xi) = (first : Int) + xi := by rw [IntKind.wrap_i64]; omega
  have w2 : IntKind.i64.wrap (((first : Int) + xi) * 1048576) = ((first : Int) + xi) * 1048576 := by rw [IntKind.wrap_i64]; omega
  clear hF hG
  go_enter Try.func122, Try.ntmps122
  go_wp2_with (fail)
  go_quiet (fail)
  go_wp2_with (fail)
  go_ret2
  exact ⟨rfl, (Q.refl w).drewN _⟩

set_option maxRecDepth 100000 in
set_option maxHeartbeats 1000000 in
theorem reck_27 (w : World) (gb k Cb ib io first : Nat) (ρ : Rg) (xo xt xa xb xi : Int) (hG : GetT w gb k ρ) (hF : ∀ y, Q w y → RcF gb k Cb ib io first xo xt xa xb xi y) (hop : xo = 27) (hi0 : 0 ≤ xi) (hi1 : xi ≤ 65536) :
    Calls Try.prog 122 #[.pointer (some ⟨Cb, 0, none⟩), .pointer (some ⟨ib, io, none⟩)] w fun e w' => e = .returned (.tuple #[.int .i64 (xi * 1048576), .int .u8 (0)]) ∧ Q w w' := by
  obtain rfl : xo = 27 := hop
  obtain ⟨f0, f1, f2, f3, f4, f5, f6⟩ := hF w (Q.refl w)
  have HF := hideIt hF
  have GA := hideIt (fun x (hx : Q w x) n hn => (hG x hx n hn).mono fun e w' (q : _ ∧ _) => (⟨q.1, by rw [q.2]; exact ⟨hx, hF x hx⟩⟩ : _ ∧ (Q w w' ∧ RcF gb k Cb ib io first 27 xt xa xb xi w')))
  have w2 : IntKind.i64.wrap (xi * 1048576) = xi * 1048576 := by rw [IntKind.wrap_i64]; omega
  clear hF hG
  go_enter Try.func122, Try.ntmps122
  go_wp2_with (fail)
  go_ret2
  exact ⟨rfl, Q.refl w⟩

set_option maxRecDepth 100000 in
set_option maxHeartbeats 1000000 in
theorem reck_28 (w : World) (gb k Cb ib io first : Nat) (ρ : Rg) (xo xt xa xb xi : Int) (hG : GetT w gb k ρ) (hF : ∀ y, Q w y → RcF gb k Cb ib io first xo xt xa xb xi y) (hop : xo = 28) (ha : 0 ≤ xa) (hb : 0 ≤ xb) :
    Calls Try.prog 122 #[.pointer (some ⟨Cb, 0, none⟩), .pointer (some ⟨ib, io, none⟩)] w fun e w' => e = .returned (.tuple #[.int .i64 (if rg ρ xb < 0 ∨ xi ≤ rg ρ xb then 0 else wrap64 (rg ρ xa + rg ρ xb)), .int .u8 (if rg ρ xb < 0 ∨ xi ≤ rg ρ xb then 4 else 0)]) ∧ Q w w' := by
  obtain rfl : xo = 28 := hop
  obtain ⟨f0, f1, f2, f3, f4, f5, f6⟩ := hF w (Q.refl w)
  have HF := hideIt hF
  have GA := hideIt (fun x (hx : Q w x) n hn => (hG x hx n hn).mono fun e w' (q : _ ∧ _) => (⟨q.1, by rw [q.2]; exact ⟨hx, hF x hx⟩⟩ : _ ∧ (Q w w' ∧ RcF gb k Cb ib io first 28 xt xa xb xi w')))
  have UN := hideIt (show ∀ x, Q w x → Calls Try.prog 132 #[.int .i64 (rg ρ xa), .int .i64 (rg ρ xb), .int .i64 xi] x fun e w' => e = .returned (.tuple #[.int .i64 (if rg ρ xb < 0 ∨ xi ≤ rg ρ xb then 0 else wrap64 (rg ρ xa + rg ρ xb)), .int .u8 (if rg ρ xb < 0 ∨ xi ≤ rg ρ xb then 4 else 0)]) ∧ Q w w' ∧ RcF gb k Cb ib io first 28 xt xa xb xi w' from fun x hx => (sameQ (index_any x (rg ρ xa) (rg ρ xb) xi)).mono fun e w' (q : _ ∧ _) => ⟨q.1, hx.trans q.2, hF _ (hx.trans q.2)⟩)
  generalize (if rg ρ xb < 0 ∨ xi ≤ rg ρ xb then 0 else wrap64 (rg ρ xa + rg ρ xb)) = r1 at *
  generalize (if rg ρ xb < 0 ∨ xi ≤ rg ρ xb then (4 : Int) else 0) = r2 at *
  clear hF hG
  go_enter Try.func122, Try.ntmps122
  go_wp2_with (fail)
  go_region_held3 (fun y : World => Q w y ∧ y.cell? ⟨Cb, 0, none⟩ = some (.pointer (some ⟨gb, k * 2, none⟩)) ∧ y.cell? ⟨ib, io, none⟩ = some (.int .u8 28) ∧ y.cell? ⟨ib, io + 1, none⟩ = some (.int .u8 xt) ∧ y.cell? ⟨ib, io + 3, none⟩ = some (.int .i64 xa) ∧ y.cell? ⟨ib, io + 4, none⟩ = some (.int .i64 xb) ∧ y.cell? ⟨ib, io + 5, none⟩ = some (.int .i64 xi) ∧ y.cell? ⟨Cb, 2, none⟩ = some (.int .i64 (first : Int))) (first | exact ⟨(Q.refl _).drew, HF.out _ (Q.refl _).drew⟩ | go_keep) (first | (go_at_call 106; refine Calls.mono (GA.out _ (by first | assumption | exact (Q.refl _).drew) _ (by assumption)) ?_; rintro e y ⟨rfl, s0, s1, s2, s3, s4, s5, s6, s7⟩) | (go_at_call 132; refine Calls.mono (UN.out _ (by first | assumption | exact (Q.refl _).drew)) ?_; rintro e y ⟨rfl, s0, s1, s2, s3, s4, s5, s6, s7⟩))
  all_goals rename_i hHeld
  all_goals have HH := hideIt hHeld.1
  all_goals clear hHeld
  all_goals go_wp2_with (fail)
  all_goals go_ret2
  all_goals exact ⟨rfl, HH.out⟩

set_option maxRecDepth 100000 in
set_option maxHeartbeats 1000000 in
theorem reck_29 (w : World) (gb k Cb ib io first : Nat) (ρ : Rg) (xo xt xa xb xi : Int) (hG : GetT w gb k ρ) (hF : ∀ y, Q w y → RcF gb k Cb ib io first xo xt xa xb xi y) (hop : xo = 29) (ha : 0 ≤ xa) :
    Calls Try.prog 122 #[.pointer (some ⟨Cb, 0, none⟩), .pointer (some ⟨ib, io, none⟩)] w fun e w' => e = .returned (.tuple #[.int .i64 (IntKind.i64.wrap (rg ρ xa + xi)), .int .u8 (0)]) ∧ Q w w' := by
  obtain rfl : xo = 29 := hop
  obtain ⟨f0, f1, f2, f3, f4, f5, f6⟩ := hF w (Q.refl w)
  have HF := hideIt hF
  have GA := hideIt (fun x (hx : Q w x) n hn => (hG x hx n hn).mono fun e w' (q : _ ∧ _) => (⟨q.1, by rw [q.2]; exact ⟨hx, hF x hx⟩⟩ : _ ∧ (Q w w' ∧ RcF gb k Cb ib io first 29 xt xa xb xi w')))
  clear hF hG
  go_enter Try.func122, Try.ntmps122
  go_wp2_with (fail)
  go_region_held3 (fun y : World => Q w y ∧ y.cell? ⟨Cb, 0, none⟩ = some (.pointer (some ⟨gb, k * 2, none⟩)) ∧ y.cell? ⟨ib, io, none⟩ = some (.int .u8 29) ∧ y.cell? ⟨ib, io + 1, none⟩ = some (.int .u8 xt) ∧ y.cell? ⟨ib, io + 3, none⟩ = some (.int .i64 xa) ∧ y.cell? ⟨ib, io + 4, none⟩ = some (.int .i64 xb) ∧ y.cell? ⟨ib, io + 5, none⟩ = some (.int .i64 xi) ∧ y.cell? ⟨Cb, 2, none⟩ = some (.int .i64 (first : Int))) (first | exact ⟨(Q.refl _).drew, HF.out _ (Q.refl _).drew⟩ | go_keep) (first | (go_at_call 106; refine Calls.mono (GA.out _ (by first | assumption | exact (Q.refl _).drew) _ (by assumption)) ?_; rintro e y ⟨rfl, s0, s1, s2, s3, s4, s5, s6, s7⟩))
  all_goals rename_i hHeld
  all_goals have HH := hideIt hHeld.1
  all_goals clear hHeld
  all_goals go_wp2_with (fail)
  all_goals go_ret2
  all_goals exact ⟨rfl, HH.out⟩

set_option maxRecDepth 100000 in
set_option maxHeartbeats 1000000 in
theorem reck_do (w : World) (gb k Cb ib io first : Nat) (ρ : Rg) (xo xt xa xb xi : Int) (hG : GetT w gb k ρ) (hF : ∀ y, Q w y → RcF gb k Cb ib io first xo xt xa xb xi y) (hop : ¬ xo = 20 ∧ ¬ xo = 21 ∧ ¬ xo = 22 ∧ ¬ xo = 23 ∧ ¬ xo = 24 ∧ ¬ xo = 25 ∧ ¬ xo = 26 ∧ ¬ xo = 27 ∧ ¬ xo = 28 ∧ ¬ xo = 29) (ha : 0 ≤ xa) (hb : 0 ≤ xb) (ht : 0 ≤ xt) :
    Calls Try.prog 122 #[.pointer (some ⟨Cb, 0, none⟩), .pointer (some ⟨ib, io, none⟩)] w fun e w' => e = .returned (.tuple #[.int .i64 (Burin.do1 xo xt (rg ρ xa) (rg ρ xb)), .int .u8 (Burin.do2 xo xt (rg ρ xa) (rg ρ xb))]) ∧ Q w w' := by
  obtain ⟨n20, n21, n22, n23, n24, n25, n26, n27, n28, n29⟩ := hop
  obtain ⟨f0, f1, f2, f3, f4, f5, f6⟩ := hF w (Q.refl w)
  have HF := hideIt hF
  have GA := hideIt (fun x (hx : Q w x) n hn => (hG x hx n hn).mono fun e w' (q : _ ∧ _) => (⟨q.1, by rw [q.2]; exact ⟨hx, hF x hx⟩⟩ : _ ∧ (Q w w' ∧ RcF gb k Cb ib io first xo xt xa xb xi w')))
  have UN := hideIt (show ∀ x, Q w x → Calls Try.prog 110 #[.int .u8 xo, .int .u8 xt, .int .i64 (rg ρ xa), .int .i64 (rg ρ xb)] x fun e w' => e = .returned (.tuple #[.int .i64 (Burin.do1 xo xt (rg ρ xa) (rg ρ xb)), .int .u8 (Burin.do2 xo xt (rg ρ xa) (rg ρ xb))]) ∧ Q w w' ∧ RcF gb k Cb ib io first xo xt xa xb xi w' from fun x hx => (Nu.do_any xo xt (rg ρ xa) (rg ρ xb) x ht).mono fun e w' (q : _ ∧ _) => ⟨q.1, hx.trans q.2, hF _ (hx.trans q.2)⟩)
  generalize Burin.do1 xo xt (rg ρ xa) (rg ρ xb) = r1 at *
  generalize Burin.do2 xo xt (rg ρ xa) (rg ρ xb) = r2 at *
  have m20 : (xo == 20) = false := by simpa using n20
  have m21 : (xo == 21) = false := by simpa using n21
  have m22 : (xo == 22) = false := by simpa using n22
  have m23 : (xo == 23) = false := by simpa using n23
  have m24 : (xo == 24) = false := by simpa using n24
  have m25 : (xo == 25) = false := by simpa using n25
  have m26 : (xo == 26) = false := by simpa using n26
  have m27 : (xo == 27) = false := by simpa using n27
  have m28 : (xo == 28) = false := by simpa using n28
  have m29 : (xo == 29) = false := by simpa using n29
  clear hF hG
  go_enter Try.func122, Try.ntmps122
  go_wp2_with (fail)
  go_region_held3 (fun y : World => Q w y ∧ y.cell? ⟨Cb, 0, none⟩ = some (.pointer (some ⟨gb, k * 2, none⟩)) ∧ y.cell? ⟨ib, io, none⟩ = some (.int .u8 xo) ∧ y.cell? ⟨ib, io + 1, none⟩ = some (.int .u8 xt) ∧ y.cell? ⟨ib, io + 3, none⟩ = some (.int .i64 xa) ∧ y.cell? ⟨ib, io + 4, none⟩ = some (.int .i64 xb) ∧ y.cell? ⟨ib, io + 5, none⟩ = some (.int .i64 xi) ∧ y.cell? ⟨Cb, 2, none⟩ = some (.int .i64 (first : Int))) (first | exact ⟨(Q.refl _).drew, HF.out _ (Q.refl _).drew⟩ | go_keep) (first | (go_at_call 106; refine Calls.mono (GA.out _ (by first | assumption | exact (Q.refl _).drew) _ (by assumption)) ?_; rintro e y ⟨rfl, s0, s1, s2, s3, s4, s5, s6, s7⟩) | (go_at_call 110; refine Calls.mono (UN.out _ (by first | assumption | exact (Q.refl _).drew)) ?_; rintro e y ⟨rfl, s0, s1, s2, s3, s4, s5, s6, s7⟩))
  all_goals rename_i hHeld
  all_goals have HH := hideIt hHeld.1
  all_goals clear hHeld
  all_goals go_wp2_with (fail)
  all_goals go_ret2
  all_goals exact ⟨rfl, HH.out⟩

end Go.Proofs.Ytaomkfhbnakbjaa

namespace Go.Proofs.Ytaomkfhbnakbjaa
open Go.RowKit
set_option linter.unusedVariables false

/-- A call of function k that is open: its struct at block Cb, its function at (fb, fo). -/
structure CB (w : World) (Cb gb k fb fo first : Nat) : Prop where
  c0 : w.cell? ⟨Cb, 0, none⟩ = some (.pointer (some ⟨gb, k * 2, none⟩))
  c1 : w.cell? ⟨Cb, 1, none⟩ = some (.pointer (some ⟨fb, fo, none⟩))
  c2 : w.cell? ⟨Cb, 2, none⟩ = some (.int .i64 (first : Int))
theorem CB.keep {w w' : World} {Cb gb k fb fo first : Nat} (h : CB w Cb gb k fb fo first) (hq : Q w w') : CB w' Cb gb k fb fo first := ⟨cell_keep hq h.c0, cell_keep hq h.c1, cell_keep hq h.c2⟩
theorem CB.ex {col col' : Col} {w w' : World} {Cb gb k fb fo first : Nat} (h : CB w Cb gb k fb fo first) (hc : col Cb = none) (hq : Ex col w col' w') : CB w' Cb gb k fb fo first := ⟨hq.cell hc h.c0, hq.cell hc h.c1, hq.cell hc h.c2⟩

theorem wrap64_i64 (z : Int) : wrap64 z = IntKind.i64.wrap z := by simp [IntKind.wrap_i64, wrap64]

theorem reckon_ri {w w0 : World} {R p gb gc : Nat} {col : Col} {c : PC} {fuel : Nat} {s : St} {A : List Int} {G : GG} (h : RI w w0 R p gb gc col c fuel s A G) {k : Nat} (hk : k < c.fns.length) {ρ : Rg} (hρ : ∀ n, regAt (G k).1 n = ρ n) {Cb ib io fb fo first : Nat} (hC : CB w Cb gb k fb fo first) (hfi : first ≤ 65536) {x : PI} (hx : At w ib io x.cells) (ht : 0 ≤ x.ty) {f : PF} (hfl : f.slots.length ≤ 65536) (hgl : c.gl.length ≤ 65536) (hins : insP c k f x = true) (hop : x.op < 30) :
    Calls Try.prog 122 #[.pointer (some ⟨Cb, 0, none⟩), .pointer (some ⟨ib, io, none⟩)] w fun e w' => e = .returned (.tuple #[.int .i64 (reck1 first ρ x), .int .u8 (reck2 ρ x)]) ∧ Q w w' := by
  have hG : GetT w gb k ρ := fun y hy n hn => get_int (h.keep hy) hk hρ n hn
  have hF : ∀ y, Q w y → RcF gb k Cb ib io first x.op x.ty x.a x.b x.imm y := fun y hy => by
    obtain ⟨e0, e1, e2, e3, e4, e5, e6⟩ := (hx.keep hy).seven
    have hc := hC.keep hy
    exact ⟨hc.c0, e0, e1, e3, e4, e5, hc.c2⟩
  unfold insP at hins
  simp only [Bool.and_eq_true] at hins
  obtain ⟨i1, i2, i3, i4, i5⟩ := hins
  have ka : ∀ q : 0 < rdP x.op, 0 ≤ x.a := fun q => by
    unfold rdsP at i4
    simp [q, blP] at i4
    exact i4.1.1.1
  have kb : ∀ q : 1 < rdP x.op, 0 ≤ x.b := fun q => by
    unfold rdsP at i4
    simp [q, blP] at i4
    exact i4.1.2.1
  by_cases n20 : x.op = 20
  · rw [show reck1 first ρ x = x.imm by simp [reck1, n20], show reck2 ρ x = 0 by simp [reck2, n20]]
    exact reck_20 w gb k Cb ib io first ρ x.op x.ty x.a x.b x.imm hG hF n20
  by_cases n21 : x.op = 21
  · rw [show reck1 first ρ x = rg ρ x.a by simp [reck1, n21], show reck2 ρ x = 0 by simp [reck2, n21]]
    exact reck_21 w gb k Cb ib io first ρ x.op x.ty x.a x.b x.imm hG hF n21 (ka (by rw [n21]; decide))
  by_cases n22 : x.op = 22
  · rw [show reck1 first ρ x = Burin.un1 1 x.ty (rg ρ x.a) by simp [reck1, n22], show reck2 ρ x = Burin.un2 1 x.ty (rg ρ x.a) by simp [reck2, n22]]
    exact reck_22 w gb k Cb ib io first ρ x.op x.ty x.a x.b x.imm hG hF n22 (ka (by rw [n22]; decide)) ht
  by_cases n23 : x.op = 23
  · rw [show reck1 first ρ x = Burin.un1 2 x.ty (rg ρ x.a) by simp [reck1, n23], show reck2 ρ x = Burin.un2 2 x.ty (rg ρ x.a) by simp [reck2, n23]]
    exact reck_23 w gb k Cb ib io first ρ x.op x.ty x.a x.b x.imm hG hF n23 (ka (by rw [n23]; decide)) ht
  by_cases n24 : x.op = 24
  · rw [show reck1 first ρ x = Burin.un1 3 x.ty (rg ρ x.a) by simp [reck1, n24], show reck2 ρ x = Burin.un2 3 x.ty (rg ρ x.a) by simp [reck2, n24]]
    exact reck_24 w gb k Cb ib io first ρ x.op x.ty x.a x.b x.imm hG hF n24 (ka (by rw [n24]; decide)) ht
  by_cases n25 : x.op = 25
  · rw [show reck1 first ρ x = Burin.wr x.ty (rg ρ x.a) by simp [reck1, n25], show reck2 ρ x = 0 by simp [reck2, n25]]
    exact reck_25 w gb k Cb ib io first ρ x.op x.ty x.a x.b x.imm hG hF n25 (ka (by rw [n25]; decide)) ht
  by_cases n26 : x.op = 26
  · rw [show reck1 first ρ x = ((first : Int) + x.imm) * 1048576 by simp [reck1, n26], show reck2 ρ x = 0 by simp [reck2, n26]]
    unfold immP at i5
    simp [n26, blP] at i5
    exact reck_26 w gb k Cb ib io first ρ x.op x.ty x.a x.b x.imm hG hF n26 (by omega) (by omega) hfi
  by_cases n27 : x.op = 27
  · rw [show reck1 first ρ x = x.imm * 1048576 by simp [reck1, n27], show reck2 ρ x = 0 by simp [reck2, n27]]
    unfold immP at i5
    simp [n27, blP] at i5
    exact reck_27 w gb k Cb ib io first ρ x.op x.ty x.a x.b x.imm hG hF n27 (by omega) (by omega)
  by_cases n28 : x.op = 28
  · rw [show reck1 first ρ x = (if rg ρ x.b < 0 ∨ x.imm ≤ rg ρ x.b then 0 else wrap64 (rg ρ x.a + rg ρ x.b)) by simp [reck1, n28], show reck2 ρ x = (if rg ρ x.b < 0 ∨ x.imm ≤ rg ρ x.b then 4 else 0) by simp [reck2, n28]]
    exact reck_28 w gb k Cb ib io first ρ x.op x.ty x.a x.b x.imm hG hF n28 (ka (by rw [n28]; decide)) (kb (by rw [n28]; decide))
  by_cases n29 : x.op = 29
  · rw [show reck1 first ρ x = IntKind.i64.wrap (rg ρ x.a + x.imm) by simp [reck1, n29, wrap64_i64], show reck2 ρ x = 0 by simp [reck2, n29]]
    exact reck_29 w gb k Cb ib io first ρ x.op x.ty x.a x.b x.imm hG hF n29 (ka (by rw [n29]; decide))
  · rw [show reck1 first ρ x = Burin.do1 x.op x.ty (rg ρ x.a) (rg ρ x.b) by simp [reck1, *], show reck2 ρ x = Burin.do2 x.op x.ty (rg ρ x.a) (rg ρ x.b) by simp [reck2, *]]
    have hrd : rdP x.op = 2 := by
      have : opP x.op = true := by
        unfold knP at i1
        simp at i1
        rcases i1 with q | q
        · exact q
        · omega
      simp [rdP, this]
    exact reck_do w gb k Cb ib io first ρ x.op x.ty x.a x.b x.imm hG hF ⟨n20, n21, n22, n23, n24, n25, n26, n27, n28, n29⟩ (ka (by omega)) (kb (by omega)) ht

end Go.Proofs.Ytaomkfhbnakbjaa
