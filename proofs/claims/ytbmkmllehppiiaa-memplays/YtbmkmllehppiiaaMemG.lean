/-
  Alloc of a number, Keep of a nil memory, the first example (awake): contracts over the program; the conditions: a memory lies there, or the pointer is nil.
-/
import Derived.Test.YtbmkmllehppiiaaMemF
import Derived.Deep.RegionWith
namespace Go.Proofs.Ytbmkmllehppiiaa
open Go.RowKit
set_option linter.unusedVariables false

theorem keep_nil (w : World) (c : Int) : Calls Try.prog 12 #[.pointer none, .int .i64 c] w fun e w' => e = .returned (.int .i64 12) ∧ w' = w := by
  go_enter Try.func12, Try.ntmps12
  go_wp2
  go_ret
  exact ⟨rfl, rfl⟩

theorem alloc_int {w : World} {B : Nat} {bl : Nat → Prop} {p n : Nat} {bs : List Nat} {f : Int → Int → Int} {t : Int} (h : MI w B bl p n bs f t) (ht : 0 ≤ t) (ht2 : t ≤ 65536) (c : Int) (hc : 0 ≤ c) (hc2 : c ≤ 65536 - t) (hl : bs.length ≤ 1000000) :
    Calls Try.prog 10 #[.pointer (some ⟨p, 0, none⟩), .int .i64 c] w fun e w' => e = .returned (.tuple #[.int .i64 bs.length, .int .i64 0]) ∧
      (∃ bl' : Nat → Prop, (∀ k, bl k → bl' k) ∧ (∀ k, bl' k → bl k ∨ w.heap.size ≤ k) ∧ MI w' B bl' p n (bs ++ [c.toNat]) f (t + c)) ∧ Fr bl w w' := by
  have e : c = ((c.toNat : Nat) : Int) := by omega
  have := alloc_ok h ht ht2 c.toNat (by omega) hl
  rw [← e] at this
  exact this

theorem i64 {a : Int} (h1 : -9223372036854775808 ≤ a) (h2 : a ≤ 9223372036854775807) : I64 a := ⟨h1, h2⟩

set_option maxRecDepth 100000 in
set_option maxHeartbeats 1000000 in
theorem awake_any (w : World) : Calls Try.prog 8 #[] w fun e w' => e = .returned (.bool true) ∧ Below w.heap.size w w' := by
  have k1 : inB ([] ++ [(2 : Int).toNat]) 0 1 = true := by decide
  have hl : ([] ++ [(2 : Int).toNat] : List Nat).length ≤ 1000000 := by decide
  have hc : ∀ c ∈ ([] ++ [(2 : Int).toNat] : List Nat), c ≤ 100000 := by decide
  have K1 := hideIt k1
  have HL := hideIt hl
  have HC := hideIt hc
  clear k1 hl hc
  go_enter Try.func8, Try.ntmps8
  go_wp2_with (first
    | (go_at_call 9; refine (new_any _).mono ?_; rintro e x1 ⟨p, rfl, hM, hF⟩; have H1 := hideIt hM; have F1 := hideIt hF; clear hM hF)
    | (go_at_call 10; refine (alloc_int H1.out (by decide) (by decide) 2 (by decide) (by decide) (by decide)).mono ?_; rintro e x2 ⟨rfl, ⟨bl2, -, q2, hM⟩, hF⟩; have H2 := hideIt hM; have F2 := hideIt hF; have Q2 := hideIt q2; clear hM hF q2)
    | (go_at_call 14; refine (load_any H2.out (a := 0) (b := 1) (i64 (by decide) (by decide)) (i64 (by decide) (by decide)) HL.out).mono ?_; rw [K1.out]; rintro e x3 ⟨rfl, hb⟩; have B3 := hideIt hb; have H3 := hideIt (H2.out.below hb); clear hb)
    | (go_at_call 16; refine (store_ok H3.out (a := 0) (b := 1) (v := 5) (i64 (by decide) (by decide)) (i64 (by decide) (by decide)) (i64 (by decide) (by decide)) HL.out (by decide) HC.out K1.out).mono ?_; rintro e x4 ⟨rfl, hM, hF⟩; have H4 := hideIt hM; have F4 := hideIt hF; clear hM hF)
    | (go_at_call 18; refine (total_any H4.out).mono ?_; rintro e x5 ⟨rfl, rfl⟩)
    | fail)
  go_ret
  refine ⟨rfl, ?_⟩
  have a1 := F1.out.below (B := w.heap.size) (Nat.le_refl _) (fun _ h => h.elim)
  have a2 := F2.out.below (B := w.heap.size) a1.size (fun _ h => h.1)
  have a3 := (B3.out.mono (B' := w.heap.size) (Nat.le_trans a1.size a2.size))
  have a4 := F4.out.below (B := w.heap.size) (Nat.le_trans a1.size (Nat.le_trans a2.size a3.size)) (fun k h => by
    rcases Q2.out k h with h | h
    · exact h.1
    · exact Nat.le_trans a1.size h)
  exact ((a1.trans a2).trans a3).trans a4

end Go.Proofs.Ytbmkmllehppiiaa
