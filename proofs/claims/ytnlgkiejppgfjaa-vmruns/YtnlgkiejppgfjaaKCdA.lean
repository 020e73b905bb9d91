/-
  The machine's words of layer 24: what Encode and Decode answer, and the bits of a word: contracts over the program, for every number.
-/
import Derived.Test.YtnlgkiejppgfjaaChecked
import Derived.WalkKit
import Derived.WalkSpells
import Derived.WalkLawsBesides
import Derived.Below
import Derived.BigQuiet
import Derived.Deep.RegionHeld3
namespace Go.Proofs.Ytnlgkiejppgfjaa.Cd
open Go.RowKit
set_option linter.unusedVariables false

theorem hideIt {q : Prop} (h : q) : Hid q := h
abbrev Q (w w' : World) : Prop := Below w.heap.size w w'
theorem Q.refl (w : World) : Q w w := Below.refl _ _
theorem Q.trans {a b c : World} (h : Q a b) (k : Q b c) : Q a c := Below.trans h (Below.mono k h.size)
theorem Q.alloc {a w : World} (h : Q a w) (o : Obj) : Q a (w.alloc o) := Below.alloc h h.size o
theorem Q.drew {a w : World} (h : Q a w) : Q a w.drew := Below.drew h
theorem Q.drewN {a w : World} (h : Q a w) (n : Nat) : Q a (w.drewN n) := ⟨h.os, h.tape, h.output, h.size, h.block⟩

def U64 (v : Int) : Prop := 0 ≤ v ∧ v < 18446744073709551616
theorem and_nat (z m : Nat) (hz : z < 18446744073709551616) (hm : m < 18446744073709551616) : bits .and .u64 (z : Int) (m : Int) = ((z &&& m : Nat) : Int) := by
  have d : bits .and .u64 (z : Int) (m : Int) = IntKind.u64.wrap (((BitVec.ofInt 64 (z : Int) &&& BitVec.ofInt 64 (m : Int)).toNat : Nat) : Int) := rfl
  have e : ∀ x : Nat, x < 18446744073709551616 → (BitVec.ofInt 64 (x : Int)).toNat = x := fun x hx => by rw [BitVec.toNat_ofInt]; omega
  rw [d, BitVec.toNat_and, e z hz, e m hm]
  have := Nat.and_le_left (n := z) (m := m)
  simp only [IntKind.wrap, IntKind.bits, IntKind.signed]
  simp
  omega
theorem or_nat (z m : Nat) (hz : z < 18446744073709551616) (hm : m < 18446744073709551616) : bits .or .u64 (z : Int) (m : Int) = ((z ||| m : Nat) : Int) := by
  have d : bits .or .u64 (z : Int) (m : Int) = IntKind.u64.wrap (((BitVec.ofInt 64 (z : Int) ||| BitVec.ofInt 64 (m : Int)).toNat : Nat) : Int) := rfl
  have e : ∀ x : Nat, x < 18446744073709551616 → (BitVec.ofInt 64 (x : Int)).toNat = x := fun x hx => by rw [BitVec.toNat_ofInt]; omega
  rw [d, BitVec.toNat_or, e z hz, e m hm]
  have : z ||| m < 2 ^ 64 := Nat.or_lt_two_pow (by omega) (by omega)
  simp only [IntKind.wrap, IntKind.bits, IntKind.signed]
  simp
  omega
theorem and_low (v : Int) (h : U64 v) (k : Nat) (hk : k ≤ 63) : bits .and .u64 v ((2 : Int) ^ k - 1) = v % 2 ^ k := by
  obtain ⟨z, rfl⟩ := Int.eq_ofNat_of_zero_le h.1
  have hz : z < 18446744073709551616 := by have := h.2; omega
  have hp : 2 ^ k ≤ 2 ^ 63 := Nat.pow_le_pow_right (by omega) hk
  have h1 : 1 ≤ 2 ^ k := Nat.one_le_two_pow
  have e : ((2 : Int) ^ k - 1) = ((2 ^ k - 1 : Nat) : Int) := by rw [Int.ofNat_sub h1]; simp
  rw [e, and_nat z _ hz (by omega), Nat.and_two_pow_sub_one_eq_mod]
  simp
theorem and15 (v : Int) (h : U64 v) : bits .and .u64 v 15 = v % 16 := and_low v h 4 (by omega)
theorem and255 (v : Int) (h : U64 v) : bits .and .u64 v 255 = v % 256 := and_low v h 8 (by omega)
theorem and32 (v : Int) (h : U64 v) : bits .and .u64 v 4294967295 = v % 4294967296 := and_low v h 32 (by omega)
/-- The eight bits that are 0. -/
theorem field (v : Int) (h : U64 v) : bits .and .u64 v 1095216660480 = (v / 4294967296 % 256) * 4294967296 := by
  obtain ⟨z, rfl⟩ := Int.eq_ofNat_of_zero_le h.1
  have hz : z < 18446744073709551616 := by have := h.2; omega
  rw [show (1095216660480 : Int) = ((1095216660480 : Nat) : Int) from rfl, and_nat z _ hz (by decide)]
  have e : z &&& 1095216660480 = z / 4294967296 % 256 * 4294967296 := by
    have e1 : (1095216660480 : Nat) = 255 <<< 32 := by decide
    have e2 : z = (z / 4294967296) <<< 32 ||| z % 4294967296 := by
      have := Nat.shiftLeft_add_eq_or_of_lt (b := z % 4294967296) (i := 32) (by omega) (z / 4294967296)
      rw [← this, Nat.shiftLeft_eq]
      omega
    have e3 : z % 4294967296 &&& 255 <<< 32 = 0 := by
      apply Nat.eq_of_testBit_eq
      intro i
      rw [Nat.testBit_and, Nat.testBit_shiftLeft, Nat.zero_testBit]
      by_cases hi : 32 ≤ i
      · have : (z % 4294967296).testBit i = false := Nat.testBit_lt_two_pow (Nat.lt_of_lt_of_le (show z % 4294967296 < 2 ^ 32 by omega) (Nat.pow_le_pow_right (by omega) hi))
        simp [this]
      · simp [hi]
    rw [e1]
    conv => lhs; rw [e2, Nat.and_or_distrib_right, e3, Nat.or_zero, ← Nat.shiftLeft_and_distrib]
    rw [show (255 : Nat) = 2 ^ 8 - 1 from rfl, Nat.and_two_pow_sub_one_eq_mod, Nat.shiftLeft_eq]
  rw [e]
  omega
theorem or_add (x y : Int) (k : Nat) (hk : k ≤ 63) (hx : 0 ≤ x) (hy : 0 ≤ y) (hy2 : y < 2 ^ k) (hb : x * 2 ^ k < 18446744073709551616) : bits .or .u64 (x * 2 ^ k) y = x * 2 ^ k + y := by
  obtain ⟨a, rfl⟩ := Int.eq_ofNat_of_zero_le hx
  obtain ⟨b, rfl⟩ := Int.eq_ofNat_of_zero_le hy
  have hb2 : b < 2 ^ k := by exact_mod_cast hy2
  have hp : 2 ^ k ≤ 2 ^ 63 := Nat.pow_le_pow_right (by omega) hk
  have e : (a : Int) * 2 ^ k = ((a * 2 ^ k : Nat) : Int) := by simp
  rw [e] at hb ⊢
  rw [or_nat _ _ (by omega) (by omega)]
  have := Nat.shiftLeft_add_eq_or_of_lt (b := b) (i := k) hb2 a
  rw [Nat.shiftLeft_eq] at this
  rw [← this]
  simp

/-- A word of its parts. -/
def pk (o t d a b i : Int) : Int := o * 72057594037927936 + t * 4503599627370496 + d * 281474976710656 + a * 17592186044416 + b * 1099511627776 + i
theorem wrap_u {v : Int} (h : U64 v) : IntKind.u64.wrap v = v := by
  obtain ⟨h1, h2⟩ := h
  simp only [IntKind.wrap, IntKind.bits, IntKind.signed]
  simp
  omega
theorem or_pk (o t d a b i : Int) (ho : 0 ≤ o ∧ o ≤ 255) (ht : 0 ≤ t ∧ t ≤ 15) (hd : 0 ≤ d ∧ d ≤ 15) (ha : 0 ≤ a ∧ a ≤ 15) (hb : 0 ≤ b ∧ b ≤ 15) (hi : 0 ≤ i ∧ i ≤ 4294967295) :
    bits .or .u64 (bits .or .u64 (bits .or .u64 (bits .or .u64 (bits .or .u64 (o * 72057594037927936) (t * 4503599627370496)) (d * 281474976710656)) (a * 17592186044416)) (b * 1099511627776)) i = pk o t d a b i := by
  have e1 := or_add o (t * 4503599627370496) 56 (by omega) (by omega) (by omega) (by omega) (by omega)
  have e2' := or_add (o * 16 + t) (d * 281474976710656) 52 (by omega) (by omega) (by omega) (by omega) (by omega)
  have e3 := or_add (o * 256 + t * 16 + d) (a * 17592186044416) 48 (by omega) (by omega) (by omega) (by omega) (by omega)
  have e4 := or_add (o * 4096 + t * 256 + d * 16 + a) (b * 1099511627776) 44 (by omega) (by omega) (by omega) (by omega) (by omega)
  have e5 := or_add (o * 65536 + t * 4096 + d * 256 + a * 16 + b) i 40 (by omega) (by omega) (by omega) (by omega) (by omega)
  have r1 : bits .or .u64 (o * 72057594037927936) (t * 4503599627370496) = (o * 16 + t) * 2 ^ 52 := by rw [show o * 72057594037927936 = o * 2 ^ 56 by omega, e1]; omega
  rw [r1, e2']
  rw [show (o * 16 + t) * 2 ^ 52 + d * 281474976710656 = (o * 256 + t * 16 + d) * 2 ^ 48 by omega, e3]
  rw [show (o * 256 + t * 16 + d) * 2 ^ 48 + a * 17592186044416 = (o * 4096 + t * 256 + d * 16 + a) * 2 ^ 44 by omega, e4]
  rw [show (o * 4096 + t * 256 + d * 16 + a) * 2 ^ 44 + b * 1099511627776 = (o * 65536 + t * 4096 + d * 256 + a * 16 + b) * 2 ^ 40 by omega, e5]
  unfold pk
  omega
theorem pk_bd (o t d a b i : Int) (ho : 0 ≤ o ∧ o ≤ 255) (ht : 0 ≤ t ∧ t ≤ 15) (hd : 0 ≤ d ∧ d ≤ 15) (ha : 0 ≤ a ∧ a ≤ 15) (hb : 0 ≤ b ∧ b ≤ 15) (hi : 0 ≤ i ∧ i ≤ 4294967295) : U64 (pk o t d a b i) := by
  unfold pk U64
  omega

abbrev wv (o t d a b i : Int) : Value := .agg #[.int .u8 o, .int .u8 t, .int .u8 d, .int .u8 a, .int .u8 b, .int .u32 i]

theorem cell_box {X : World} (cs : Array Value) (t : TypeId) (j : Nat) : (X.alloc (.cells cs t)).cell? ⟨X.heap.size, j, none⟩ = cs[j]? := by
  have h : (X.alloc (.cells cs t (0, 0))).heap[X.heap.size]? = some (.cells cs t (0, 0)) := heap_alloc_new X _
  unfold World.cell?
  rw [h]
  rfl
theorem cell_keep {w w' : World} (hb : Q w w') {p : Addr} {u : Value} (h : w.cell? p = some u) : w'.cell? p = some u :=
  (hb.cell (p := p) (World.block_lt_of_cell? w _ h)).trans h
theorem box6 {X w' : World} {a0 a1 a2 a3 a4 a5 : Value} {t : TypeId} (h : Q (X.alloc (.cells #[a0, a1, a2, a3, a4, a5] t)) w') : w'.cell? ⟨X.heap.size, 0, none⟩ = some a0 ∧ w'.cell? ⟨X.heap.size, 1, none⟩ = some a1 ∧ w'.cell? ⟨X.heap.size, 2, none⟩ = some a2 ∧ w'.cell? ⟨X.heap.size, 3, none⟩ = some a3 ∧ w'.cell? ⟨X.heap.size, 4, none⟩ = some a4 ∧ w'.cell? ⟨X.heap.size, 5, none⟩ = some a5 :=
  ⟨cell_keep h (cell_box _ _ 0), cell_keep h (cell_box _ _ 1), cell_keep h (cell_box _ _ 2), cell_keep h (cell_box _ _ 3), cell_keep h (cell_box _ _ 4), cell_keep h (cell_box _ _ 5)⟩

/-- Fields that are too great. -/
def great (t d a b : Int) : Bool := decide (15 < t) || decide (15 < d) || decide (15 < a) || decide (15 < b)

theorem dec_bad (v : Int) (w : World) (h : U64 v) (hf : v / 4294967296 % 256 ≠ 0) :
    Calls Try.prog 44 #[.int .u64 v] w fun e w' => e = .returned (.tuple #[wv 0 0 0 0 0 0, .int .i64 3]) ∧ Q w w' := by
  have hz : (bits .and .u64 v 1095216660480 != 0) = true := by rw [field v h]; simp; omega
  clear h hf
  go_enter Try.func44, Try.ntmps44
  go_wp2
  exact bodyPost_ret (v := .tuple #[wv 0 0 0 0 0 0, .int .i64 3]) (by simp [results, Try.results44, go_sem]) rfl ⟨rfl, (Q.refl _).alloc _⟩
theorem dec_ok (v : Int) (w : World) (h : U64 v) (hf : v / 4294967296 % 256 = 0) :
    Calls Try.prog 44 #[.int .u64 v] w fun e w' => e = .returned (.tuple #[wv (v / 72057594037927936) (v / 4503599627370496 % 16) (v / 281474976710656 % 16) (v / 17592186044416 % 16) (v / 1099511627776 % 16) (v % 4294967296), .int .i64 0]) ∧ Q w w' := by
  have hz : (bits .and .u64 v 1095216660480 != 0) = false := by rw [field v h]; simp; omega
  obtain ⟨h1, h2⟩ := h
  have e1 := hideIt (and15 (v / 4503599627370496) ⟨by omega, by omega⟩)
  have e2 := hideIt (and15 (v / 281474976710656) ⟨by omega, by omega⟩)
  have e3 := hideIt (and15 (v / 17592186044416) ⟨by omega, by omega⟩)
  have e4 := hideIt (and15 (v / 1099511627776) ⟨by omega, by omega⟩)
  have e5 := hideIt (show v / 72057594037927936 % 256 = v / 72057594037927936 by omega)
  have e6 := hideIt (show v / 4503599627370496 % 16 % 256 = v / 4503599627370496 % 16 by omega)
  have e7 := hideIt (show v / 281474976710656 % 16 % 256 = v / 281474976710656 % 16 by omega)
  have e8 := hideIt (show v / 17592186044416 % 16 % 256 = v / 17592186044416 % 16 by omega)
  have e9 := hideIt (show v / 1099511627776 % 16 % 256 = v / 1099511627776 % 16 by omega)
  clear h1 h2 hf
  go_enter Try.func44, Try.ntmps44
  go_wp2
  rw [e1.out, e2.out, e3.out, e4.out, e5.out, e6.out, e7.out, e8.out, e9.out]
  exact bodyPost_ret (v := .tuple #[wv (v / 72057594037927936) (v / 4503599627370496 % 16) (v / 281474976710656 % 16) (v / 17592186044416 % 16) (v / 1099511627776 % 16) (v % 4294967296), .int .i64 0]) (by simp [results, Try.results44, go_sem]) rfl ⟨rfl, (Q.refl _).alloc _⟩

theorem part56 (v : Int) (w : World) (h : U64 v) : Calls Try.prog 32 #[.int .u64 v, .int .i64 56, .int .i64 8] w fun e w' => e = .returned (.int .i64 (v / 72057594037927936 % 256)) ∧ Q w w' := by
  obtain ⟨h1, h2⟩ := h
  have r := hideIt (and255 (v / 72057594037927936) ⟨by omega, by omega⟩)
  have s := hideIt (show wrap64 (v / 72057594037927936 % 256) = v / 72057594037927936 % 256 by unfold wrap64; omega)
  clear h1 h2
  go_enter Try.func32, Try.ntmps32
  go_wp2_with (fail)
  go_quiet (fail)
  go_wp2
  go_ret
  refine ⟨?_, (Q.refl _).drewN _⟩
  rw [r.out, s.out]
  rfl

theorem part52 (v : Int) (w : World) (h : U64 v) : Calls Try.prog 32 #[.int .u64 v, .int .i64 52, .int .i64 4] w fun e w' => e = .returned (.int .i64 (v / 4503599627370496 % 16)) ∧ Q w w' := by
  obtain ⟨h1, h2⟩ := h
  have r := hideIt (and15 (v / 4503599627370496) ⟨by omega, by omega⟩)
  have s := hideIt (show wrap64 (v / 4503599627370496 % 16) = v / 4503599627370496 % 16 by unfold wrap64; omega)
  clear h1 h2
  go_enter Try.func32, Try.ntmps32
  go_wp2_with (fail)
  go_quiet (fail)
  go_wp2
  go_ret
  refine ⟨?_, (Q.refl _).drewN _⟩
  rw [r.out, s.out]
  rfl

theorem part48 (v : Int) (w : World) (h : U64 v) : Calls Try.prog 32 #[.int .u64 v, .int .i64 48, .int .i64 4] w fun e w' => e = .returned (.int .i64 (v / 281474976710656 % 16)) ∧ Q w w' := by
  obtain ⟨h1, h2⟩ := h
  have r := hideIt (and15 (v / 281474976710656) ⟨by omega, by omega⟩)
  have s := hideIt (show wrap64 (v / 281474976710656 % 16) = v / 281474976710656 % 16 by unfold wrap64; omega)
  clear h1 h2
  go_enter Try.func32, Try.ntmps32
  go_wp2_with (fail)
  go_quiet (fail)
  go_wp2
  go_ret
  refine ⟨?_, (Q.refl _).drewN _⟩
  rw [r.out, s.out]
  rfl

theorem part44 (v : Int) (w : World) (h : U64 v) : Calls Try.prog 32 #[.int .u64 v, .int .i64 44, .int .i64 4] w fun e w' => e = .returned (.int .i64 (v / 17592186044416 % 16)) ∧ Q w w' := by
  obtain ⟨h1, h2⟩ := h
  have r := hideIt (and15 (v / 17592186044416) ⟨by omega, by omega⟩)
  have s := hideIt (show wrap64 (v / 17592186044416 % 16) = v / 17592186044416 % 16 by unfold wrap64; omega)
  clear h1 h2
  go_enter Try.func32, Try.ntmps32
  go_wp2_with (fail)
  go_quiet (fail)
  go_wp2
  go_ret
  refine ⟨?_, (Q.refl _).drewN _⟩
  rw [r.out, s.out]
  rfl

theorem part40 (v : Int) (w : World) (h : U64 v) : Calls Try.prog 32 #[.int .u64 v, .int .i64 40, .int .i64 4] w fun e w' => e = .returned (.int .i64 (v / 1099511627776 % 16)) ∧ Q w w' := by
  obtain ⟨h1, h2⟩ := h
  have r := hideIt (and15 (v / 1099511627776) ⟨by omega, by omega⟩)
  have s := hideIt (show wrap64 (v / 1099511627776 % 16) = v / 1099511627776 % 16 by unfold wrap64; omega)
  clear h1 h2
  go_enter Try.func32, Try.ntmps32
  go_wp2_with (fail)
  go_quiet (fail)
  go_wp2
  go_ret
  refine ⟨?_, (Q.refl _).drewN _⟩
  rw [r.out, s.out]
  rfl

theorem part32 (v : Int) (w : World) (h : U64 v) : Calls Try.prog 32 #[.int .u64 v, .int .i64 32, .int .i64 8] w fun e w' => e = .returned (.int .i64 (v / 4294967296 % 256)) ∧ Q w w' := by
  obtain ⟨h1, h2⟩ := h
  have r := hideIt (and255 (v / 4294967296) ⟨by omega, by omega⟩)
  have s := hideIt (show wrap64 (v / 4294967296 % 256) = v / 4294967296 % 256 by unfold wrap64; omega)
  clear h1 h2
  go_enter Try.func32, Try.ntmps32
  go_wp2_with (fail)
  go_quiet (fail)
  go_wp2
  go_ret
  refine ⟨?_, (Q.refl _).drewN _⟩
  rw [r.out, s.out]
  rfl

theorem part0 (v : Int) (w : World) (h : U64 v) : Calls Try.prog 32 #[.int .u64 v, .int .i64 0, .int .i64 32] w fun e w' => e = .returned (.int .i64 (v % 4294967296)) ∧ Q w w' := by
  obtain ⟨h1, h2⟩ := h
  have r := hideIt (and32 (v) ⟨by omega, by omega⟩)
  have s := hideIt (show wrap64 (v % 4294967296) = v % 4294967296 by unfold wrap64; omega)
  clear h1 h2
  go_enter Try.func32, Try.ntmps32
  go_wp2_with (fail)
  go_quiet (fail)
  go_wp2
  go_ret
  refine ⟨?_, (Q.refl _).drewN _⟩
  rw [r.out, s.out]
  rfl

end Go.Proofs.Ytnlgkiejppgfjaa.Cd
