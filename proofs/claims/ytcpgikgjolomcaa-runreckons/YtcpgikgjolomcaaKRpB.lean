/-
  Two outcomes that are alike are told to be (same of the statements of layer 14): a contract over the program; the conditions: the traces lie in memory.
-/
import Derived.Test.YtcpgikgjolomcaaKRpA
namespace Go.Proofs.Ytcpgikgjolomcaa
open Go.RowKit
set_option linter.unusedVariables false

/-- A trace lies in memory. -/
def Trc (w : World) (a : Option Addr) (l : List Int) : Prop := ∀ k x, l[k]? = some x → ∃ b o, a = some ⟨b, o, none⟩ ∧ w.cell? ⟨b, o + k, none⟩ = some (.int .i64 x)
theorem Trc.keep {w w' : World} {a : Option Addr} {l : List Int} (h : Trc w a l) (hq : Q w w') : Trc w' a l := fun k x e => by
  obtain ⟨b, o, e1, e2⟩ := h k x e
  exact ⟨b, o, e1, cell_keep hq e2⟩
theorem Trc.nil (w : World) (a : Option Addr) : Trc w a [] := fun k x e => by simp at e

abbrev bxA (w : World) (o : Oc) (a : Option Addr) (ca : Nat) : World := w.alloc (.cells (ocA o (.slice a o.tr.length ca)) 31)

set_option maxRecDepth 100000 in
set_option maxHeartbeats 2000000 in
theorem same_eq (w : World) (h : Bool) (x t : Int) (sp : Bool) (n : Nat) (l : List Int) (a b : Option Addr) (ca cb : Nat) (hlen : l.length ≤ 9223372036854775807) (ha : Trc w a l) (hb : Trc w b l) :
    Calls Try.prog 11 #[.agg #[.bool h, .int .i64 x, .int .u8 t, .bool sp, .int .i64 (n : Int), .slice a l.length ca], .agg #[.bool h, .int .i64 x, .int .u8 t, .bool sp, .int .i64 (n : Int), .slice b l.length cb]] w fun e w' => e = .returned (.bool true) ∧ Q w w' := by
  have hq0 : Q w ((w.alloc (.cells #[.bool h, .int .i64 x, .int .u8 t, .bool sp, .int .i64 (n : Int), .slice a l.length ca] 31)).alloc (.cells #[.bool h, .int .i64 x, .int .u8 t, .bool sp, .int .i64 (n : Int), .slice b l.length cb] 31)) := ((Q.refl w).alloc _).alloc _
  have HA := hideIt (ha.keep hq0)
  have HB := hideIt (hb.keep hq0)
  have HQ0 := hideIt hq0
  have KA : Hid (∀ X, Q ((w.alloc (.cells #[.bool h, .int .i64 x, .int .u8 t, .bool sp, .int .i64 (n : Int), .slice a l.length ca] 31)).alloc (.cells #[.bool h, .int .i64 x, .int .u8 t, .bool sp, .int .i64 (n : Int), .slice b l.length cb] 31)) X → X.cell? ⟨w.heap.size, 5, none⟩ = some (.slice a l.length ca) ∧ X.cell? ⟨w.heap.size + 1, 5, none⟩ = some (.slice b l.length cb)) := fun X hX => by
    constructor
    · exact cell_keep hX ((Me.cell_of_block (heap_old _ (heap_at rfl)) 5).trans rfl)
    · exact cell_keep hX ((Me.cell_of_block (heap_at (by simp)) 5).trans rfl)
  have e1 : (h != h) = false := by simp
  have e2 : (sp != sp) = false := by simp
  clear ha hb hq0
  go_enter Try.func11, Try.ntmps11
  go_wp2_with (fail)
  go_loopw [5] (fun i wr => ∃ (k : Nat), i = .int .i64 k ∧ k ≤ l.length ∧ Q ((w.alloc (.cells #[.bool h, .int .i64 x, .int .u8 t, .bool sp, .int .i64 (n : Int), .slice a l.length ca] 31)).alloc (.cells #[.bool h, .int .i64 x, .int .u8 t, .bool sp, .int .i64 (n : Int), .slice b l.length cb] 31)) wr) (fun i _ => l.length - (intOf i).toNat)
  case atStart => exact ⟨0, rfl, by omega, Q.refl _⟩
  case round =>
    obtain ⟨k, rfl, hk, hq⟩ := hrel
    have HQ := hideIt hq
    obtain ⟨k1, k2⟩ := KA.out _ hq
    clear hq
    by_cases hlt : k < l.length
    · obtain ⟨z, hz⟩ := get_of_lt hlt
      obtain ⟨b1, o1, e3, hc1⟩ := (Trc.keep HA.out HQ.out) k z hz
      obtain ⟨b2, o2, e4, hc2⟩ := (Trc.keep HB.out HQ.out) k z hz
      subst e3 e4
      have hkl : (k : Int) < (l.length : Int) := by omega
      clear hz
      go_wp2_with (fail)
      go_quiet (fail)
      go_wp2
      go_roundw
      case rel => exact ⟨k + 1, by go_num, by omega, Q.drewN HQ.out _⟩
      case measure => simp [intOf]; omega
    · go_wp2_with (fail)
      go_ret
      exact ⟨rfl, HQ0.out.trans HQ.out⟩

theorem same_zero (w : World) : Calls Try.prog 11 #[zeroO, zeroO] w fun e w' => e = .returned (.bool true) ∧ Q w w' :=
  same_eq w false 0 0 false 0 [] none none 0 0 (by decide) (Trc.nil _ _) (Trc.nil _ _)

end Go.Proofs.Ytcpgikgjolomcaa
