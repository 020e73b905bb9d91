/-
  What Weight answers: contracts over the program; the conditions: the argument is a tree of at most 6000 nodes that lies in memory.
-/
import Derived.Test.YtioeoillogpdoaaBits
import Derived.Deep.QuietTactic
import Derived.BigQuiet
import Derived.Deep.RegionHeld3
import Derived.Deep.RegionWith
namespace Go.Proofs.Ytioeoillogpdoaa
open Go.RowKit
set_option linter.unusedVariables false

/-- The bits that a node adds. -/
def nb (v : NF) : Nat := if v.k = 15 then Lib.bitLen v.n.natAbs else 0
def Fo.weight : Fo → Nat
  | nil => 0
  | cons v _ _ k r => 1 + nb v + k.weight + r.weight

theorem nb_le (v : NF) (hv : v.ok) : nb v ≤ 64 := by
  unfold nb
  split
  · have := hv.n
    have h : v.n.natAbs < 18446744073709551616 := by omega
    exact Lib.bitLen_le _ 64 (by omega) h
  · omega

theorem ent34 : ∀ args w, (callFunc 34 args).run Try.prog w = .ok (.enter 34 args) w := enters_of Try.func34 (by kernel_rfl) rfl

theorem CI.drew {W0 w : World} {p s : Nat} (h : CI W0 p s w) : CI W0 p s w.drew := ⟨h.q.drew, h.lo, h.c⟩

set_option maxRecDepth 100000 in
set_option maxHeartbeats 1000000 in
theorem cl34 (W0 : World) (p s : Nat) (w : World) (b o : Nat) (v : NF) (sl : Value) (d : Nat) (hI : CI W0 p s w) (hs : s ≤ 1000000) (hat : At W0 b o (cellsN v sl)) (hv : v.ok) :
    Calls Try.prog 34 #[.pointer (some ⟨b, o, none⟩), .int .i64 d, .pointer (some ⟨p, 0, none⟩)] w fun e w' => e = .returned (.bool true) ∧ CI W0 p (s + 1 + nb v) w' := by
  have hc := hI.cell
  have hf := hI.free
  have HI := hideIt hI
  have hlt : p < w.heap.size := World.block_lt_of_cell? w _ hc
  have hat' := hat.keep (Nat.le_refl _) hI.q
  have c0 : w.cell? ⟨b, o, none⟩ = some (.int .u8 v.k) := hat'.cell 0 _ rfl
  have c5 : w.cell? ⟨b, o + 5, none⟩ = some (.int .i64 v.n) := hat'.cell 5 _ rfl
  have hbp : b ≠ p := by
    have h1 := hat.cell 0 _ rfl
    have h2 : b < W0.heap.size := World.block_lt_of_cell? W0 _ h1
    have := hI.lo
    omega
  have hnb := nb_le v hv
  have hn := hv.n
  clear hI hat hat'
  by_cases hk : v.k = 15
  · have e15 : nb v = Lib.bitLen v.n.natAbs := by unfold nb; rw [if_pos hk]
    rw [e15] at hnb ⊢
    have HU : Hid (∀ W, Calls Try.prog 36 #[.int .i64 v.n] W fun e w' => e = .returned (.int .u64 v.n.natAbs) ∧ w' = W) := fun W => unsigned_any v.n W hn.1 hn.2
    have HL : Hid (∀ W, Calls Try.prog 35 #[.int .u64 v.n.natAbs] W fun e w' => e = .returned (.int .i64 (Lib.bitLen v.n.natAbs)) ∧ w' = W) := fun W => by
      have := len64 (v.n.natAbs : Int) W (by omega) (by omega)
      simpa using this
    generalize v.n = z at *
    generalize v.k = k at *
    subst hk
    generalize Lib.bitLen z.natAbs = L at *
    generalize (z.natAbs : Int) = U at *
    clear e15
    go_enter Try.func34, Try.ntmps34
    go_wp2_with (fail)
    go_region_with (first | (go_at_call 36; refine (HU.out _).mono ?_; rintro e x ⟨rfl, rfl⟩) | (go_at_call 35; refine (HL.out _).mono ?_; rintro e x ⟨rfl, rfl⟩))
    all_goals go_wp2_with (fail)
    all_goals go_ret
    all_goals exact ⟨rfl, CI.drew ((HI.out.set _ (s + 1) (by omega)).set _ _ (by rw [IntKind.wrap_i64]; omega))⟩
  · have e15 : nb v = 0 := by unfold nb; rw [if_neg hk]
    rw [e15]
    have hd : (v.k == 15) = false := by simpa using hk
    generalize v.k = k at *
    go_enter Try.func34, Try.ntmps34
    go_wp2_with (fail)
    go_ret
    exact ⟨rfl, HI.out.set _ _ (by omega)⟩
end Go.Proofs.Ytioeoillogpdoaa
