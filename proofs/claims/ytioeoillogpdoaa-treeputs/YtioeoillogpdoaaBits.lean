/-
  How many bits a number has: contracts over the program for bits.Len64 and the number without its sign; no conditions but the types' ranges.
-/
import Derived.Test.YtioeoillogpdoaaSizes
import Derived.Lib.BitFns
namespace Go.Proofs.Ytioeoillogpdoaa
open Go.RowKit
set_option linter.unusedVariables false

theorem tab_size : Lib.len8tab.size = 256 := by kernel_rfl
theorem tab_len : ∀ n : Fin 256, (Lib.len8tab[n.val]'(by rw [tab_size]; exact n.isLt)).toNat = Lib.bitLen n.val := by decide +kernel
theorem tab_of (e : Int) (h : e.toNat < Lib.len8tab.size) (h1 : e ≤ 255) : (Lib.len8tab[e.toNat]'h).toNat = Lib.bitLen e.toNat := tab_len ⟨e.toNat, by omega⟩

/-- A number whose upper part is one of the table's. -/
theorem len_fin (k m : Nat) (hk : k ≤ 56) (x e : Int) (s : Lib.bitLen x.toNat = k + Lib.bitLen (x.toNat / m)) (he : e.toNat = x.toNat / m) (h8 : e ≤ 255) :
    wrap64 ((k : Int) + wrap64 (Lib.bitLen e.toNat : Int)) = (Lib.bitLen x.toNat : Int) := by
  have l : Lib.bitLen e.toNat ≤ 8 := Lib.bitLen_le8 ⟨e.toNat, by omega⟩
  rw [← he] at s
  generalize Lib.bitLen e.toNat = A at *
  generalize Lib.bitLen x.toNat = B at *
  unfold wrap64
  omega

set_option maxHeartbeats 4000000 in
set_option maxRecDepth 100000 in
theorem len64 (x : Int) (w : World) (h0 : 0 ≤ x) (h1 : x ≤ 18446744073709551615) :
    Calls Try.prog 35 #[.int .u64 x] w fun e w' => e = .returned (.int .i64 (Lib.bitLen x.toNat)) ∧ w' = w := by
  have HS := hideIt tab_size
  go_enter Try.func35, Try.ntmps35
  go_wp2_with (fail)
  all_goals first | (exfalso; have := HS.out; omega) | (go_ret; refine ⟨congrArg Ending.returned (congrArg (Value.int IntKind.i64) ?_), rfl⟩)
  all_goals have hs := HS.out
  all_goals rw [tab_of _ _ (by omega)]
  · exact len_fin 56 72057594037927936 (by omega) x _ (Lib.bitLen_shift56 x.toNat (by omega) (by omega)) (by omega) (by omega)
  · exact len_fin 48 281474976710656 (by omega) x _ (Lib.bitLen_shift48 x.toNat (by omega) (by omega)) (by omega) (by omega)
  · exact len_fin 40 1099511627776 (by omega) x _ (Lib.bitLen_shift40 x.toNat (by omega) (by omega)) (by omega) (by omega)
  · exact len_fin 32 4294967296 (by omega) x _ (Lib.bitLen_shift32 x.toNat (by omega) (by omega)) (by omega) (by omega)
  · exact len_fin 24 16777216 (by omega) x _ (Lib.bitLen_shift24 x.toNat (by omega) (by omega)) (by omega) (by omega)
  · exact len_fin 16 65536 (by omega) x _ (Lib.bitLen_shift16 x.toNat (by omega) (by omega)) (by omega) (by omega)
  · exact len_fin 8 256 (by omega) x _ (Lib.bitLen_shift8 x.toNat (by omega) (by omega)) (by omega) (by omega)
  · have l : Lib.bitLen x.toNat ≤ 8 := Lib.bitLen_le8 ⟨x.toNat, by omega⟩
    generalize Lib.bitLen x.toNat = A at *
    unfold wrap64
    omega

theorem unsigned_any (z : Int) (w : World) (h0 : -9223372036854775808 ≤ z) (h1 : z ≤ 9223372036854775807) :
    Calls Try.prog 36 #[.int .i64 z] w fun e w' => e = .returned (.int .u64 z.natAbs) ∧ w' = w := by
  by_cases h : z < 0
  · go_enter Try.func36, Try.ntmps36
    go_wp2_with (fail)
    go_ret
    refine ⟨congrArg Ending.returned (congrArg (Value.int IntKind.u64) ?_), rfl⟩
    rw [IntKind.wrap_u64, IntKind.wrap_u64]
    omega
  · go_enter Try.func36, Try.ntmps36
    go_wp2_with (fail)
    go_ret
    refine ⟨congrArg Ending.returned (congrArg (Value.int IntKind.u64) ?_), rfl⟩
    omega
end Go.Proofs.Ytioeoillogpdoaa
