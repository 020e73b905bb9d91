/-
  Whether one of a list of nodes is too much: contracts over the program; the conditions: the argument is a list of trees that lies in memory, of at most 7000 nodes.
-/
import Derived.Test.YtioeoillogpdoaaSizes
namespace Go.Proofs.Ytioeoillogpdoaa
open Go.RowKit
set_option linter.unusedVariables false

theorem tooMuch_any (f : Fo) (v : NF) (a : Option Addr) (c : Nat) (w : World) (hv : v.ok) (hin : In w a f) (hs : sok a f.len c) (hz : f.size ≤ 7000) :
    Calls Try.prog 42 #[nodeV v (.slice a f.len c)] w fun e w' => e = .returned (.bool (!f.fine)) ∧ Q w w' := by
  have HC := hideIt (fine_any f v a c (boxed w v (.slice a f.len c)) hv (hin.keep (Nat.le_refl _) (boxed_q _ _ _)) hs hz)
  clear hv hin hs
  generalize f.fine = b at *
  go_enter Try.func42, Try.ntmps42
  go_wp2_with (go_at_call 14; refine HC.out.mono ?_; rintro e x ⟨rfl, q1⟩)
  go_ret
  exact ⟨rfl, (boxed_q _ _ _).trans q1⟩

/-- Is each tree of a list fine by itself? -/
def Fo.eachFine : Fo → Bool
  | .nil => true
  | .cons _ _ _ k r => k.fine && r.eachFine

set_option maxHeartbeats 400000 in
theorem index_any (f : Fo) (a : Option Addr) (c : Nat) (w : World) (hin : In w a f) (hs : sok a f.len c) (hz : f.size ≤ 7000) :
    Calls Try.prog 47 #[.slice a f.len c, .func (.func 42) #[] #[]] w fun e w' => (∃ r : Int, e = .returned (.int .i64 r) ∧ decide (0 ≤ r) = !f.eachFine) ∧ Q w w' := by
  have HIN := hideIt hin
  have hlen : f.len ≤ 9223372036854775807 := by have := hs.1; have := hs.2.1; unfold maxLen at this; omega
  clear hin hs
  go_enter Try.func47, Try.ntmps47
  go_wp2_with (fail)
  go_loopw [8] (fun i wr => ∃ k : Nat, i = .int .i64 k ∧ k ≤ f.len ∧ Hid (f.eachFine = (f.drop k).eachFine) ∧ Q w wr) (fun i _ => f.len - (intOf i).toNat)
  case atStart => exact ⟨0, rfl, Nat.zero_le _, hideIt rfl, Below.refl _ _⟩
  case round =>
    obtain ⟨k, rfl, hk, HR, hq⟩ := hrel
    have HQ := hideIt hq
    clear hq
    by_cases hlt : k < f.len
    · obtain ⟨b, o, v', ka, kc, ks, rfl, e, hat, hv', hs', hin'⟩ := HIN.out.elem k hlt
      have hkl : (k : Int) < (f.len : Int) := by omega
      have hat' : At wr b (o + k * 10) (cellsN v' (.slice ka ks.len kc)) := hat.keep (Nat.le_refl _) HQ.out
      obtain ⟨c0, c1, c2, c3, c4, c5, c6, c7, c8, c9⟩ := hat'.ten
      have hsz : (f.drop k).size = ks.size + 1 + (f.drop (k + 1)).size := by rw [e]; rfl
      have hle := f.size_drop k
      have HC := hideIt (tooMuch_any ks v' ka kc wr hv' (hin'.keep (Nat.le_refl _) HQ.out) hs' (by omega))
      have hef : f.eachFine = (ks.fine && (f.drop (k + 1)).eachFine) := by rw [HR.out, e]; rfl
      have HF := hideIt hef
      clear e hat hat' hv' hs' hin' hsz hef HR
      generalize ks.fine = bf at *
      cases bf with
      | true =>
        go_wp2_with (first | (go_at_call 42; refine HC.out.mono ?_; rintro e x ⟨rfl, q1⟩; have HP := hideIt (HQ.out.trans q1); clear q1) | fail)
        go_roundw
        case rel => exact ⟨k + 1, by go_num, by omega, hideIt (by have := HF.out; simpa using this), HP.out⟩
        case measure => simp [intOf]; omega
      | false =>
        go_wp2_with (first | (go_at_call 42; refine HC.out.mono ?_; rintro e x ⟨rfl, q1⟩; have HP := hideIt (HQ.out.trans q1); clear q1) | fail)
        go_ret
        refine ⟨⟨_, rfl, ?_⟩, HP.out⟩
        have := HF.out
        rw [this]
        simp
    · have ek : k = f.len := by omega
      go_wp2_with (fail)
      go_ret
      refine ⟨⟨_, rfl, ?_⟩, HQ.out⟩
      have := HR.out
      rw [ek, Fo.drop_all] at this
      rw [this]
      rfl

theorem contains_any (f : Fo) (a : Option Addr) (c : Nat) (w : World) (hin : In w a f) (hs : sok a f.len c) (hz : f.size ≤ 7000) :
    Calls Try.prog 41 #[.slice a f.len c, .func (.func 42) #[] #[]] w fun e w' => e = .returned (.bool (!f.eachFine)) ∧ Q w w' := by
  have HC := hideIt (index_any f a c w hin hs hz)
  clear hin hs
  generalize f.eachFine = b at *
  go_enter Try.func41, Try.ntmps41
  go_wp2_with (first | (go_at_call 47; refine HC.out.mono ?_; rintro e x ⟨⟨r, rfl, hr⟩, q1⟩; have HQ := hideIt q1; clear q1) | fail)
  go_ret
  exact ⟨by simp, HQ.out⟩
end Go.Proofs.Ytioeoillogpdoaa
