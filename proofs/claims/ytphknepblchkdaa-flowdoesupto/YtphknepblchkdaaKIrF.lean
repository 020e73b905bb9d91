/-
 Whether lists of cells have room, by layer 13 and by the document's answer; how a part ends; what an instruction writes: contracts over the program.
-/
import Derived.Test.YtphknepblchkdaaKIrE
import Derived.Deep.RegionWith
namespace Go.Proofs.Ytphknepblchkdaa
open Go.RowKit
set_option linter.unusedVariables false

def roomL : Int → List Int → Bool
 | _, [] => true
 | left, n :: r => !(decide (n < 1) || decide (left < n)) && roomL (left - n) r
theorem roomL_drop {left : Int} {l : List Int} {k : Nat} {x : Int} (h : l[k]? = some x) : roomL left (l.drop k) = (!(decide (x < 1) || decide (left < x)) && roomL (left - x) (l.drop (k + 1))) := by
 obtain ⟨hk, e⟩ := List.getElem?_eq_some_iff.1 h
 rw [List.drop_eq_getElem_cons hk, e]
 rfl
theorem get_of_lt {α : Type} {l : List α} {k : Nat} (h : k < l.length) : ∃ x, l[k]? = some x := ⟨l[k], List.getElem?_eq_getElem h⟩

theorem room_any (w : World) (a : Option Addr) (c : Nat) (l : List Int) (hs : sok 8 a l.length c) (hl : Ints w a l) :
  Calls Try.prog 59 #[.slice a l.length c] w fun e w' => e = .returned (.bool (roomL 65536 l)) ∧ w' = w := by
 have HL := hideIt hl
 have hlen := hs.len
 clear hl hs
 go_enter Try.func59, Try.ntmps59
 go_wp2_with (fail)
 go_loopw [3, 5, 8] (fun m d i wr => ∃ (k : Nat) (r : Int), m = .int .i64 r ∧ i = .int .i64 k ∧ k ≤ l.length ∧ 0 ≤ r ∧ r ≤ 65536 ∧ roomL 65536 l = roomL r (l.drop k) ∧ wr = w) (fun _ _ i _ => l.length - (intOf i).toNat)
 case atStart => exact ⟨0, 65536, rfl, rfl, by omega, by omega, by omega, by simp, rfl⟩
 case round =>
  obtain ⟨k, r, rfl, rfl, hk, r1, r2, r3, rfl⟩ := hrel
  have HR := hideIt r3
  clear r3
  by_cases hlt : k < l.length
  ·obtain ⟨x, hx⟩ := get_of_lt hlt
   obtain ⟨b, o, rfl, hc, hI⟩ := HL.out k x hx
   rw [Nat.mul_one] at hc
   have HX := hideIt hx
   have HI := hideIt hI
   have hkl : (k : Int) < (l.length : Int) := by omega
   clear hx hI
   cases h1 : decide (x < 1)
   ·cases h2 : decide (r < x)
    ·have hx1 : x ≤ r := by simpa using h2
     have hx2 : 1 ≤ x := by simp at h1; omega
     go_wp2_with (fail)
     go_roundw
     case rel =>
      refine ⟨k + 1, r - x, by go_num, by go_num, by omega, by omega, by omega, ?_, by first | rfl | trivial⟩
      rw [HR.out, roomL_drop HX.out, h1, h2]
      simp
     case measure => simp [intOf]; omega
    ·go_wp2_with (fail)
     go_ret
     refine ⟨?_, rfl⟩
     rw [HR.out, roomL_drop HX.out, h1, h2]
     rfl
   ·go_wp2_with (fail)
    go_ret
    refine ⟨?_, rfl⟩
    rw [HR.out, roomL_drop HX.out, h1]
    rfl
  ·have ek : k = l.length := by omega
   go_wp2_with (fail)
   go_ret
   refine ⟨?_, rfl⟩
   rw [HR.out, ek, List.drop_length]
   rfl

theorem cells_any (w : World) (a : Option Addr) (c : Nat) (l : List Int) (hs : sok 8 a l.length c) (hl : Ints w a l) :
  Calls Try.prog 26 #[.slice a l.length c] w fun e w' => e = .returned (.bool (roomL 65536 l)) ∧ w' = w := by
 have HL := hideIt hl
 have hlen := hs.len
 clear hl hs
 go_enter Try.func26, Try.ntmps26
 go_wp2_with (fail)
 go_loopw [3, 4] (fun m i wr => ∃ (k : Nat) (r : Int), m = .int .i64 r ∧ i = .int .i64 k ∧ k ≤ l.length ∧ 0 ≤ r ∧ r ≤ 65536 ∧ roomL 65536 l = roomL (65536 - r) (l.drop k) ∧ wr = w) (fun _ i _ => l.length - (intOf i).toNat)
 case atStart => exact ⟨0, 0, rfl, rfl, by omega, by omega, by omega, by simp, rfl⟩
 case round =>
  obtain ⟨k, r, rfl, rfl, hk, r1, r2, r3, rfl⟩ := hrel
  have HR := hideIt r3
  clear r3
  by_cases hlt : k < l.length
  ·obtain ⟨x, hx⟩ := get_of_lt hlt
   obtain ⟨b, o, rfl, hc, hI⟩ := HL.out k x hx
   rw [Nat.mul_one] at hc
   have HX := hideIt hx
   have HI := hideIt hI
   have hkl : (k : Int) < (l.length : Int) := by omega
   clear hx hI
   cases h1 : decide (x < 1)
   ·cases h2 : decide (65536 - r < x)
    ·have hx1 : x ≤ 65536 - r := by simpa using h2
     have hx2 : 1 ≤ x := by simp at h1; omega
     go_wp2_with (fail)
     go_roundw
     case rel =>
      refine ⟨k + 1, r + x, by go_num, by go_num, by omega, by omega, by omega, ?_, by first | rfl | trivial⟩
      rw [HR.out, roomL_drop HX.out, h1, h2, show 65536 - r - x = 65536 - (r + x) by omega]
      simp
     case measure => simp [intOf]; omega
    ·go_wp2_with (fail)
     go_ret
     refine ⟨?_, rfl⟩
     rw [HR.out, roomL_drop HX.out, h1, h2]
     rfl
   ·go_wp2_with (fail)
    go_ret
    refine ⟨?_, rfl⟩
    rw [HR.out, roomL_drop HX.out, h1]
    rfl
  ·have ek : k = l.length := by omega
   go_wp2_with (fail)
   go_ret
   refine ⟨?_, rfl⟩
   rw [HR.out, ek, List.drop_length]
   rfl

end Go.Proofs.Ytphknepblchkdaa
