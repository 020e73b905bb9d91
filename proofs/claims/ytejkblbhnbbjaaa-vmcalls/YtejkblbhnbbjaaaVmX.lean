/-
  The statements of layer 25: a word, the document's example, two outcomes alike: contracts over the program; no conditions but those that each bears.
-/
import Derived.Test.YtejkblbhnbbjaaaVmW
namespace Go.Proofs.Ytejkblbhnbbjaaa
open Go.RowKit
set_option linter.unusedVariables false

theorem and8 : ∀ t : Nat, t < 16 → bits .and .u8 (t : Int) 15 = (t : Int) := by decide
theorem word_any (o : Int) (t d a b : Nat) (i : Int) (w : World) (ho : 0 ≤ o ∧ o ≤ 255) (ht : t < 16) (hd : d < 16) (ha : a < 16) (hb : b < 16) (hi : 0 ≤ i ∧ i ≤ 4294967295) :
    Calls Try.prog 12 #[.int .u8 o, .int .u8 (t : Int), .int .u8 (d : Int), .int .u8 (a : Int), .int .u8 (b : Int), .int .u32 i] w fun e w' => e = .returned (.int .u64 (Cd.pk o t d a b i)) ∧ w' = w := by
  have e1 := hideIt (Cd.wrap_u (v := o) ⟨by omega, by omega⟩)
  have e2 := hideIt (Cd.wrap_u (v := (t : Int)) ⟨by omega, by omega⟩)
  have e3 := hideIt (Cd.wrap_u (v := (d : Int)) ⟨by omega, by omega⟩)
  have e4 := hideIt (Cd.wrap_u (v := (a : Int)) ⟨by omega, by omega⟩)
  have e5 := hideIt (Cd.wrap_u (v := (b : Int)) ⟨by omega, by omega⟩)
  have e6 := hideIt (Cd.wrap_u (v := i) ⟨by omega, by omega⟩)
  have f1 := hideIt (Cd.wrap_u (v := o * 72057594037927936) ⟨by omega, by omega⟩)
  have f2 := hideIt (Cd.wrap_u (v := (t : Int) * 4503599627370496) ⟨by omega, by omega⟩)
  have f3 := hideIt (Cd.wrap_u (v := (d : Int) * 281474976710656) ⟨by omega, by omega⟩)
  have f4 := hideIt (Cd.wrap_u (v := (a : Int) * 17592186044416) ⟨by omega, by omega⟩)
  have f5 := hideIt (Cd.wrap_u (v := (b : Int) * 1099511627776) ⟨by omega, by omega⟩)
  have g2 := and8 t ht
  have g3 := and8 d hd
  have g4 := and8 a ha
  have g5 := and8 b hb
  have r := hideIt (Cd.or_pk o t d a b i ho (by omega) (by omega) (by omega) (by omega) hi)
  clear ho ht hd ha hb hi
  go_enter Try.func12, Try.ntmps12
  go_wp2_with (fail)
  first | (go_ret; refine ⟨?_, rfl⟩; rw [e1.out, e2.out, e3.out, e4.out, e5.out, e6.out, f1.out, f2.out, f3.out, f4.out, f5.out, r.out]; rfl) | trace_state
end Go.Proofs.Ytejkblbhnbbjaaa
