/-
  A set's words in memory; where a word stands (slices.BinarySearchFunc with find's closure; find of live): contracts over the program; the conditions: the words lie in memory, rising.
  Is a register one of a set (find, Has of live): contracts over the program; the conditions: the set's words lie in memory, rising.
  The bits of a word, rising; the lowest one (math/bits.TrailingZeros64): facts on numbers, and a contract over the program; the condition: the library's table is laid.
  How many bits a word has (math/bits.OnesCount64): not more than 127, which is all that is wanted: a contract over the program; no conditions.
  The registers of a set, rising (List of live): a contract over the program; the conditions: the set's words lie in memory, rising; the library's table is laid.
-/
import Derived.Test.YtdiidmmmemmjjaaDoorKLvV
import Derived.Deep.LoopGhost
import Derived.Test.YtdiidmmmemmjjaaDoorKLvK
import Derived.Shelf.Spec.TrailingZeros
import Derived.Test.YtdiidmmmemmjjaaDoorKIrB
import Derived.WalkKit
import Derived.Laws.MakeOwn
import Derived.Test.YtdiidmmmemmjjaaDoorKLvO
namespace Go.Proofs.YtdiidmmmemmjjaaDoor.Lv
open Go.RowKit
set_option linter.unusedVariables false

/-- Words that lie in memory. -/
def Wds (w : World) (v : Value) (L : List (Int × Int)) : Prop :=
  L.length ≤ 1099511627776 ∧ ((v = .slice none 0 0 ∧ L = []) ∨ ∃ g cap, v = .slice (some ⟨g, 0, none⟩) L.length cap ∧ ∀ (k : Nat) (e : Int × Int), L[k]? = some e → w.cell? ⟨g, k * 2, none⟩ = some (.int .i64 e.1) ∧ w.cell? ⟨g, k * 2 + 1, none⟩ = some (.int .u64 e.2))
theorem Wds.keep {w w' : World} {v : Value} {L : List (Int × Int)} (h : Wds w v L) (q : Q w w') : Wds w' v L := by
  obtain ⟨h1, h2 | ⟨g, cap, e, h3⟩⟩ := h
  · exact ⟨h1, Or.inl h2⟩
  · exact ⟨h1, Or.inr ⟨g, cap, e, fun k x hk => ⟨cell_keep q (h3 k x hk).1, cell_keep q (h3 k x hk).2⟩⟩⟩
theorem Wds.of_row {w : World} {base : Nat} {v : Value} {m : Nm} (hm : m.wd = true) {l : List (Int × Int)} (h : w.ownsRow base (tyN m) (szN m) v l.length (rowN m l)) (hl : l.length ≤ 1099511627776) : Wds w v l := by
  refine ⟨hl, ?_⟩
  cases l with
  | nil =>
    obtain ⟨h1, h2 | ⟨g, cap, cur, e1, -⟩⟩ := h
    · exact Or.inl ⟨h2.1, rfl⟩
    · exact Or.inr ⟨g, cap, e1, fun k e hk => by simp at hk⟩
  | cons x l =>
    obtain ⟨g, cap, e, -⟩ := row_word hm h (k := 0) (e := x) rfl
    refine Or.inr ⟨g, cap, e, fun k y hk => ?_⟩
    obtain ⟨g', cap', e', c1, c2, -⟩ := row_word hm h hk
    rw [e] at e'
    injection e' with e' _ _
    injection e' with e'
    injection e' with e' _
    subst e'
    exact ⟨c1, c2⟩
/-- Words that rise, none of them far. -/
structure Up (L : List (Int × Int)) : Prop where
  lt : ∀ (i j : Nat) (x y : Int × Int), L[i]? = some x → L[j]? = some y → i < j → x.1 < y.1
  rng : ∀ x ∈ L, 0 ≤ x.1 ∧ x.1 ≤ 1099511627776
  u : ∀ x ∈ L, U64 x.2

set_option maxRecDepth 100000 in
set_option maxHeartbeats 2000000 in
theorem cmp_any (w : World) (a b t : Int) (ha : 0 ≤ a ∧ a ≤ 1099511627776) (ht : -144115188075855872 ≤ t ∧ t ≤ 144115188075855872) :
    Calls Tryd.prog 57 #[.agg #[.int .i64 a, .int .u64 b], .int .i64 t] w fun e w' => e = .returned (.int .i64 (a - t)) ∧ Q w w' := by
  have e1 : IntKind.i64.wrap (a - t) = a - t := by rw [IntKind.wrap_i64]; omega
  have q0 := hideIt ((Q.refl w).alloc (.cells #[.int .i64 a, .int .u64 b] 80))
  go_enter Tryd.func57, Tryd.ntmps57
  go_wp2_with (fail)
  go_ret
  exact ⟨rfl, q0.out⟩

/-- What is found: how many words stand ahead, and whether it is there. -/
structure Fnd (L : List (Int × Int)) (t : Int) (i : Nat) (fd : Bool) : Prop where
  le : i ≤ L.length
  lo : ∀ (k : Nat) (x : Int × Int), L[k]? = some x → k < i → x.1 < t
  hi : ∀ (k : Nat) (x : Int × Int), L[k]? = some x → i ≤ k → t ≤ x.1
  fd : fd = true ↔ ∃ x, L[i]? = some x ∧ x.1 = t

def FndP (L : List (Int × Int)) (t : Int) (w : World) (e : Ending) (w' : World) : Prop := ∃ (i : Nat) (fd : Bool), e = .returned (.tuple #[.int .i64 (i : Int), .bool fd]) ∧ Q w w' ∧ Fnd L t i fd

set_option maxRecDepth 100000 in
set_option maxHeartbeats 4000000 in
theorem search_any (w : World) (v : Value) (L : List (Int × Int)) (h : Wds w v L) (hu : Up L) (t : Int) (ht : -144115188075855872 ≤ t ∧ t ≤ 144115188075855872) :
    Calls Tryd.prog 56 #[v, .int .i64 t, .func (.func 57) #[] #[]] w (FndP L t w) := by
  obtain ⟨hl, hv⟩ := h
  obtain ⟨ao, cap, rfl, hC⟩ : ∃ ao cap, v = .slice ao L.length cap ∧ ∀ (k : Nat) (e : Int × Int), L[k]? = some e → ∃ g, ao = some ⟨g, 0, none⟩ ∧ w.cell? ⟨g, k * 2, none⟩ = some (.int .i64 e.1) ∧ w.cell? ⟨g, k * 2 + 1, none⟩ = some (.int .u64 e.2) := by
    rcases hv with ⟨rfl, rfl⟩ | ⟨g, cap, rfl, hc⟩
    · exact ⟨none, 0, rfl, fun k e hk => by simp at hk⟩
    · exact ⟨_, cap, rfl, fun k e hk => ⟨g, rfl, hc k e hk⟩⟩
  clear hv
  generalize hn : L.length = n at *
  have HN := hideIt hn
  have HC := hideIt hC
  have HU := hideIt hu
  have HT := hideIt ht
  clear hC hu ht hn
  have ln : (n : Int) ≤ 1099511627776 := by omega
  go_enter Tryd.func56, Tryd.ntmps56
  go_wp2_with (fail)
  go_loopg [9, 10] n (fun kx s9 s10 wr => ∃ lo hi : Nat, s9 = .int .i64 lo ∧ s10 = .int .i64 hi ∧ lo ≤ hi ∧ hi ≤ n ∧ hi - lo ≤ kx ∧ Hid (Q w wr) ∧ Hid ((∀ (k : Nat) (x : Int × Int), L[k]? = some x → k < lo → x.1 < t) ∧ (∀ (k : Nat) (x : Int × Int), L[k]? = some x → hi ≤ k → t ≤ x.1)))
  case atStart => exact ⟨0, n, rfl, rfl, Nat.zero_le _, Nat.le_refl _, by omega, hideIt (Q.refl w), hideIt ⟨fun k x hk hlt => absurd hlt (Nat.not_lt_zero _), fun k x hk h1 => by have := (List.getElem?_eq_some_iff.1 hk).1; have := HN.out; omega⟩⟩
  case round =>
    obtain ⟨lo, hi, rfl, rfl, hlh, hin, hg, S1, I⟩ := hrel
    generalize wr = w1 at *
    by_cases hlt : lo < hi
    · have hmid : (lo + hi) / 2 < L.length := by have := HN.out; omega
      obtain ⟨y, hy⟩ := get_of_lt hmid
      obtain ⟨g, rfl, c1, c2⟩ := HC.out _ _ hy
      replace c1 := cell_keep S1.out c1
      replace c2 := cell_keep S1.out c2
      have HY := hideIt hy
      have hyr := HU.out.rng y (List.mem_of_getElem? hy)
      have hc := hideIt (cmp_any w1 y.1 y.2 t hyr HT.out)
      clear hy hmid
      obtain ⟨y1, y2⟩ := y
      dsimp only at *
      have m1 : (lo + hi) / 2 < n := by omega
      by_cases hyx : y1 - t < 0
      · go_wp2_with (first | (go_at_call 57; refine hc.out.mono ?_; rintro e w' ⟨rfl, qq⟩; have QQ := hideIt qq; clear qq) | fail)
        go_roundg (hi - ((lo + hi) / 2 + 1))
        case measure => omega
        case rel =>
          refine ⟨(lo + hi) / 2 + 1, hi, by first | rfl | (rw [show ((lo : Int) + (hi : Int)) / 2 + 1 = (((lo + hi) / 2 + 1 : Nat) : Int) by omega]), rfl, by omega, hin, Nat.le_refl _, hideIt (S1.out.trans QQ.out), hideIt ⟨fun k x hk hlt' => ?_, I.out.2⟩⟩
          by_cases e : k = (lo + hi) / 2
          · subst e
            rw [HY.out] at hk
            injection hk with hk
            subst hk
            dsimp only
            omega
          · have := HU.out.lt k ((lo + hi) / 2) x _ hk HY.out (by omega)
            dsimp only at this
            omega
      · go_wp2_with (first | (go_at_call 57; refine hc.out.mono ?_; rintro e w' ⟨rfl, qq⟩; have QQ := hideIt qq; clear qq) | fail)
        go_roundg ((lo + hi) / 2 - lo)
        case measure => omega
        case rel =>
          refine ⟨lo, (lo + hi) / 2, rfl, by first | rfl | (rw [show ((lo : Int) + (hi : Int)) / 2 = (((lo + hi) / 2 : Nat) : Int) by omega]), by omega, by omega, Nat.le_refl _, hideIt (S1.out.trans QQ.out), hideIt ⟨I.out.1, fun k x hk hge => ?_⟩⟩
          by_cases e : k = (lo + hi) / 2
          · subst e
            rw [HY.out] at hk
            injection hk with hk
            subst hk
            dsimp only
            omega
          · have := HU.out.lt ((lo + hi) / 2) k _ x HY.out hk (by omega)
            dsimp only at this
            omega
    · obtain rfl : hi = lo := by omega
      by_cases hn : hi < n
      · have hmid : hi < L.length := by have := HN.out; omega
        obtain ⟨y, hy⟩ := get_of_lt hmid
        obtain ⟨g, rfl, c1, c2⟩ := HC.out _ _ hy
        replace c1 := cell_keep S1.out c1
        replace c2 := cell_keep S1.out c2
        have HY := hideIt hy
        have hyr := HU.out.rng y (List.mem_of_getElem? hy)
        have hc := hideIt (cmp_any w1 y.1 y.2 t hyr HT.out)
        clear hy hmid
        obtain ⟨y1, y2⟩ := y
        dsimp only at *
        have hn1 : (hi : Int) < (n : Int) := by omega
        by_cases hyx : y1 - t = 0
        · have hy2 : (y1 - t == 0) = true := by simpa using hyx
          go_wp2_with (first | (go_at_call 57; refine hc.out.mono ?_; rintro e w' ⟨rfl, qq⟩; have QQ := hideIt qq; clear qq) | fail)
          go_ret2
          exact ⟨hi, true, rfl, S1.out.trans QQ.out, Nat.le_trans hin (Nat.le_of_eq HN.out.symm), I.out.1, I.out.2, fun _ => ⟨_, HY.out, by dsimp only; omega⟩, fun _ => rfl⟩
        · have hy2 : (y1 - t == 0) = false := by simpa using hyx
          go_wp2_with (first | (go_at_call 57; refine hc.out.mono ?_; rintro e w' ⟨rfl, qq⟩; have QQ := hideIt qq; clear qq) | fail)
          go_ret2
          exact ⟨hi, false, rfl, S1.out.trans QQ.out, Nat.le_trans hin (Nat.le_of_eq HN.out.symm), I.out.1, I.out.2, fun e => (by cases e), fun ⟨x, hx, e⟩ => by rw [HY.out] at hx; injection hx with hx; subst hx; dsimp only at e; omega⟩
      · have hn1 : ¬ (hi : Int) < (n : Int) := by omega
        go_wp2_with (fail)
        go_ret2
        exact ⟨hi, false, rfl, S1.out, Nat.le_trans hin (Nat.le_of_eq HN.out.symm), I.out.1, I.out.2, fun e => (by cases e), fun ⟨x, hx, e⟩ => by have := (List.getElem?_eq_some_iff.1 hx).1; have := HN.out; omega⟩

end Go.Proofs.YtdiidmmmemmjjaaDoor.Lv

namespace Go.Proofs.YtdiidmmmemmjjaaDoor.Lv
open Go.RowKit
set_option linter.unusedVariables false

set_option maxRecDepth 100000 in
set_option maxHeartbeats 2000000 in
theorem place_int (w : World) (r : Int) : Calls Tryd.prog 42 #[.int .i64 r] w fun e w' => e = .returned (.int .i64 (r / 64)) ∧ w' = w := by
  go_enter Tryd.func42, Tryd.ntmps42
  go_wp2_with (fail)
  go_ret
  exact ⟨by simp, rfl⟩

abbrev bxS (w : World) (v : Value) : World := w.alloc (.cells #[v] 43)
set_option maxRecDepth 100000 in
set_option maxHeartbeats 2000000 in
theorem find_any (w : World) (v : Value) (L : List (Int × Int)) (h : Wds w v L) (hu : Up L) (r : Int) (hr : I64 r) :
    Calls Tryd.prog 37 #[.agg #[v], .int .i64 r] w (FndP L (r / 64) w) := by
  have q0 : Q w (bxS w v) := (Q.refl w).alloc _
  have q1 := (Q.refl (bxS w v)).drew
  have b0 : (bxS w v).cell? ⟨w.heap.size, 0, none⟩ = some v := (cell_of_block (heap_alloc_new w _) 0).trans rfl
  have HQ := hideIt q0
  have PL := hideIt (fun w => place_int w r)
  have SE := hideIt (fun w' (q : Q w w') => search_any w' v L (h.keep q) hu (r / 64) (by obtain ⟨h1, h2⟩ := hr; omega))
  have hv : ∃ ao c, v = .slice ao L.length c := by
    obtain ⟨-, ⟨rfl, rfl⟩ | ⟨g, cap, rfl, -⟩⟩ := h
    · exact ⟨_, _, rfl⟩
    · exact ⟨_, _, rfl⟩
  obtain ⟨ao, c, rfl⟩ := hv
  clear q0 q1 h hu hr
  generalize hX : bxS w (.slice ao L.length c) = X at *
  have HX := hideIt hX
  generalize r / 64 = t at *
  go_enter Tryd.func37, Tryd.ntmps37
  go_wp2_with (fail)
  go_region_with (first | (go_at_call 42; refine Calls.mono (PL.out _) ?_; rintro e y ⟨rfl, rfl⟩) | (go_at_call 56; refine Calls.mono (SE.out _ (by first | exact HQ.out.drew | exact HQ.out | exact HQ.out.drewN _)) ?_; rintro e y ⟨i, fd, rfl, qy, hf⟩; have QY : Hid (Q w y) := (by first | exact HQ.out.trans qy | exact HQ.out.drew.trans qy | exact (HQ.out.drewN _).trans qy); have HF := hideIt hf; clear qy hf))
  all_goals go_wp2_with (fail)
  all_goals go_ret2
  all_goals exact ⟨i, fd, rfl, QY.out, HF.out⟩

/-- Is a register one of a list of words? -/
def hasW (L : List (Int × Int)) (r : Int) : Prop := ∃ x ∈ L, x.1 = r / 64 ∧ tb x.2 (r % 64).toNat = true
open Classical in
noncomputable def hasB (L : List (Int × Int)) (r : Int) : Bool := decide (hasW L r)
open Classical in
theorem hasB_iff (L : List (Int × Int)) (r : Int) : hasB L r = true ↔ hasW L r := by unfold hasB; exact decide_eq_true_iff
open Classical in
theorem hasB_false (L : List (Int × Int)) (r : Int) (h : ¬ hasW L r) : hasB L r = false := by unfold hasB; exact decide_eq_false h

theorem Fnd.none {L : List (Int × Int)} {r : Int} {i : Nat} (h : Fnd L (r / 64) i false) (hu : Up L) : hasB L r = false := by
  refine hasB_false L r ?_
  rintro ⟨x, hx, e, -⟩
  obtain ⟨k, hk⟩ := List.getElem?_of_mem hx
  have h1 := h.lo k x hk
  by_cases hki : i ≤ k
  · have hil : i < L.length := Nat.lt_of_le_of_lt hki (List.getElem?_eq_some_iff.1 hk).1
    obtain ⟨y, hy⟩ := get_of_lt hil
    have h3 := h.hi i y hy (Nat.le_refl _)
    by_cases eq : k = i
    · subst eq
      exact absurd (h.fd.2 ⟨x, hk, e⟩) (by simp)
    · have h4 := hu.lt i k y x hy hk (by omega)
      omega
  · have := h1 (by omega)
    omega
theorem Fnd.some {L : List (Int × Int)} {r : Int} {i : Nat} (h : Fnd L (r / 64) i true) (hu : Up L) : ∃ x, L[i]? = some x ∧ 0 ≤ r ∧ U64 x.2 ∧ hasB L r = tb x.2 (r.toNat % 64) := by
  obtain ⟨x, hx, e⟩ := h.fd.1 rfl
  have hm := List.mem_of_getElem? hx
  have hr := hu.rng x hm
  have h0 : 0 ≤ r := by omega
  refine ⟨x, hx, h0, hu.u x hm, ?_⟩
  have e2 : (r % 64).toNat = r.toNat % 64 := by omega
  cases ht : tb x.2 (r.toNat % 64) with
  | true => exact (hasB_iff L r).2 ⟨x, hm, e, by rw [e2]; exact ht⟩
  | false =>
    refine hasB_false L r ?_
    rintro ⟨y, hy, e3, h3⟩
    rw [e2] at h3
    obtain ⟨k, hk⟩ := List.getElem?_of_mem hy
    have : k = i := by
      rcases Nat.lt_trichotomy k i with q | q | q
      · have := hu.lt k i y x hk hx q; omega
      · exact q
      · have := hu.lt i k x y hx hk q; omega
    subst this
    rw [hx] at hk
    injection hk with hk
    subst hk
    rw [ht] at h3
    cases h3
theorem and_bit {x : Int} (hx : U64 x) (r : Nat) : (bits .and .u64 x (bitN r) != 0) = tb x (r % 64) := by
  have hb : U64 (bitN r) := by
    have h1 : 2 ^ (r % 64) < 2 ^ 64 := Nat.pow_lt_pow_right (by omega) (by omega)
    exact U64.nat h1
  have tbit : ∀ b, tb (bitN r) b = true ↔ r % 64 = b := fun b => by
    unfold tb bitN
    rw [Int.toNat_natCast, Nat.testBit_two_pow]
    simp
  cases ht : tb x (r % 64) with
  | true =>
    have h2 := tb_and hx hb (r % 64)
    rw [ht, (tbit _).2 rfl] at h2
    have : bits .and .u64 x (bitN r) ≠ 0 := fun e => by rw [e, tb_zero] at h2; cases h2
    simpa using this
  | false =>
    have : bits .and .u64 x (bitN r) = 0 := tb_ext (hx.and hb) ⟨by omega, by omega⟩ (fun b => by
      rw [tb_and hx hb, tb_zero]
      cases hq : tb (bitN r) b with
      | false => simp
      | true => rw [← (tbit b).1 hq, ht]; rfl)
    rw [this]
    rfl

set_option maxRecDepth 100000 in
set_option maxHeartbeats 4000000 in
theorem has_any (w : World) (v : Value) (L : List (Int × Int)) (h : Wds w v L) (hu : Up L) (r : Int) (hr : I64 r) :
    Calls Tryd.prog 17 #[.agg #[v], .int .i64 r] w fun e w' => e = .returned (.bool (hasB L r)) ∧ Q w w' := by
  have q0 : Q w (bxS w v) := (Q.refl w).alloc _
  have b0 : (bxS w v).cell? ⟨w.heap.size, 0, none⟩ = some v := (cell_of_block (heap_alloc_new w _) 0).trans rfl
  have HQ := hideIt q0
  have FA := hideIt (find_any (bxS w v) v L (h.keep q0) hu r hr)
  have HW := hideIt h
  have HU := hideIt hu
  have hv : ∃ ao c, v = .slice ao L.length c ∧ ∀ (k : Nat) (e : Int × Int), L[k]? = some e → ∃ g, ao = some ⟨g, 0, none⟩ ∧ w.cell? ⟨g, k * 2 + 1, none⟩ = some (.int .u64 e.2) := by
    obtain ⟨-, ⟨rfl, rfl⟩ | ⟨g, cap, rfl, hc⟩⟩ := h
    · exact ⟨none, 0, rfl, fun k e hk => by simp at hk⟩
    · exact ⟨_, cap, rfl, fun k e hk => ⟨g, rfl, (hc k e hk).2⟩⟩
  have hl := h.1
  obtain ⟨ao, c, rfl, hC⟩ := hv
  have HC := hideIt hC
  clear hC q0 h hu hr
  generalize hX : bxS w (.slice ao L.length c) = X at *
  have HB := hideIt b0
  go_enter Tryd.func17, Tryd.ntmps17
  go_wp2_with (first | (go_at_call 37; refine FA.out.mono ?_; rintro e y ⟨i, fd, rfl, qy, hf⟩; have QY := hideIt qy; have HF := hideIt hf; have by0 := cell_keep qy HB.out; clear qy hf hX b0) | fail)
  cases fd with
  | false =>
    have e0 := hideIt (HF.out.none HU.out)
    go_quiet (fail)
    go_wp2_with (fail)
    go_ret
    exact ⟨by rw [e0.out]; rfl, HQ.out.trans (QY.out.drewN _)⟩
  | true =>
    obtain ⟨x, hx, h0, hxu, e0⟩ := HF.out.some HU.out
    have hil := (List.getElem?_eq_some_iff.1 hx).1
    obtain ⟨g, rfl, cc⟩ := HC.out i x hx
    replace cc := cell_keep (HQ.out.trans QY.out) cc
    obtain ⟨rn, rfl⟩ : ∃ rn : Nat, r = (rn : Int) := ⟨r.toNat, by omega⟩
    rw [Int.toNat_natCast] at e0
    have BI := hideIt (fun w => bit_any w rn)
    have E1 := hideIt (and_bit hxu rn)
    have E0 := hideIt e0
    have hil2 : (i : Int) < (L.length : Int) := by omega
    have hil3 : 0 ≤ (i : Int) := by omega
    clear e0 hx hxu h0
    go_quiet (first | (go_at_call 38; exact Calls.quiet_of_same (BI.out _)))
    go_wp2_with (fail)
    go_ret
    exact ⟨by rw [E0.out, ← E1.out]; rfl, HQ.out.trans (QY.out.drewN _)⟩

end Go.Proofs.YtdiidmmmemmjjaaDoor.Lv

namespace Go.Proofs.YtdiidmmmemmjjaaDoor.Lv
open Go.RowKit
set_option linter.unusedVariables false

def Tab (w : World) : Prop := TabAt 0 Lib.deBruijn64tab w
theorem Tab.keep {w w' : World} (h : Tab w) (q : Q w w') : Tab w' := fun j hj => cell_keep q (h j hj)

/-- The bits of a number, rising. -/
def bitsUp (x : Nat) : List Nat := (List.range 64).filter (fun b => x.testBit b)
theorem bitsUp_zero : bitsUp 0 = [] := by simp [bitsUp]
theorem low_bits (x : Nat) (h0 : x ≠ 0) (h : x < 2 ^ 64) : Lib.ctz 64 x < 64 ∧ x.testBit (Lib.ctz 64 x) = true ∧ (∀ b, b < Lib.ctz 64 x → x.testBit b = false) ∧ ∀ b, (x &&& (x - 1)).testBit b = (x.testBit b && decide (b ≠ Lib.ctz 64 x)) := by
  obtain ⟨m, hm, hk⟩ := Lib.ctzFrom_spec 64 x (by omega) h
  have e : Lib.ctz 64 x = Lib.ctzFrom 64 x := by simp [Lib.ctz, h0]
  rw [e]
  generalize Lib.ctzFrom 64 x = t at *
  have hp : 0 < 2 ^ t := Nat.pow_pos (by omega)
  have tx : ∀ b, x.testBit b = (decide (t ≤ b) && (2 * m + 1).testBit (b - t)) := fun b => by rw [hm, Nat.mul_comm, Nat.testBit_mul_two_pow]
  refine ⟨hk, ?_, fun b hb => ?_, fun b => ?_⟩
  · rw [tx]; simp [Nat.testBit_zero]
  · rw [tx]; simp; omega
  · have e1 : x - 1 = 2 * m * 2 ^ t + (2 ^ t - 1) := by
      rw [hm, Nat.mul_add, Nat.mul_comm (2 ^ t)]
      omega
    rw [Nat.testBit_and]
    by_cases hb : b < t
    · have : x.testBit b = false := by rw [tx]; simp; omega
      rw [this]
      rfl
    · have e2 : (x - 1).testBit b = (2 * m).testBit (b - t) := by
        have h2 : (x - 1) / 2 ^ t = 2 * m := by
          rw [e1, Nat.add_comm, Nat.add_mul_div_right _ _ hp, Nat.div_eq_of_lt (by omega)]
          omega
        rw [← h2, Nat.testBit_div_two_pow]
        congr 1
        omega
      rw [e2, tx]
      by_cases hbt : b = t
      · subst hbt
        simp [Nat.testBit_zero]
      · obtain ⟨j, hj⟩ : ∃ j, b - t = j + 1 := ⟨b - t - 1, by omega⟩
        rw [hj, Nat.testBit_succ, Nat.testBit_succ]
        have d1 : (2 * m + 1) / 2 = m := by omega
        have d2 : (2 * m) / 2 = m := by omega
        rw [d1, d2]
        have : decide (b ≠ t) = true := by simpa using hbt
        rw [this]
        cases m.testBit j <;> simp
theorem filter_split (p : Nat → Bool) (t n : Nat) (h1 : t < n) (h2 : p t = true) (h3 : ∀ b, b < t → p b = false) : (List.range n).filter p = t :: (List.range n).filter (fun b => p b && decide (b ≠ t)) := by
  induction n with
  | zero => omega
  | succ n ih =>
    rw [List.range_succ, List.filter_append, List.filter_append]
    by_cases e : t < n
    · rw [ih e]
      have e2 : ¬ n = t := by omega
      simp [List.filter_cons, e2]
    · have e : t = n := by omega
      subst e
      have z1 : (List.range t).filter p = [] := by
        rw [List.filter_eq_nil_iff]
        intro b hb
        rw [h3 b (List.mem_range.1 hb)]
        simp
      have z2 : (List.range t).filter (fun b => p b && decide (b ≠ t)) = [] := by
        rw [List.filter_eq_nil_iff]
        intro b hb
        rw [h3 b (List.mem_range.1 hb)]
        simp
      rw [z1, z2]
      simp [h2]
theorem bitsUp_low (x : Nat) (h0 : x ≠ 0) (h : x < 2 ^ 64) : bitsUp x = Lib.ctz 64 x :: bitsUp (x &&& (x - 1)) := by
  obtain ⟨h1, h2, h3, h4⟩ := low_bits x h0 h
  unfold bitsUp
  rw [filter_split (fun b => x.testBit b) _ 64 h1 h2 h3]
  congr 2
  funext b
  exact (h4 b).symm

set_option maxRecDepth 100000 in
set_option maxHeartbeats 2000000 in
theorem tz_core (x k idx : Nat) (w : World) (hx0 : ((x : Int) == 0) = false)
    (key : IntKind.u64.wrap (bits BinOp.and IntKind.u64 (x : Int) (IntKind.u64.wrap (-(x : Int))) * 285870213051353865) / 288230376151711744 = (idx : Int))
    (hi : idx < 64) (hk : k < 64) (hcell : w.cell? ⟨0, idx, none⟩ = some (.int .u8 k)) :
    Calls Tryd.prog 36 #[.int .u64 x] w fun e w' => e = .returned (.int .i64 k) ∧ w' = w := by
  go_enter Tryd.func36, Tryd.ntmps36
  go_wp2_with (simp only [key])
  go_ret
  exact ⟨rfl, rfl⟩
theorem tz_any (w : World) (x : Nat) (h0 : x ≠ 0) (h : x < 18446744073709551616) (hT : Tab w) :
    Calls Tryd.prog 36 #[.int .u64 (x : Int)] w fun e w' => e = .returned (.int .i64 ((Lib.ctz 64 x : Nat) : Int)) ∧ w' = w := by
  obtain ⟨hlow, hk⟩ := Lib.lowest_bit 64 x h0 h
  obtain ⟨hi, htab⟩ := Lib.deBruijn64_at _ hk
  have hcell := hT _ hi
  rw [htab] at hcell
  exact tz_core x _ _ w (by simp; omega) (tz64_key x _ h h0 hlow) hi hk hcell

end Go.Proofs.YtdiidmmmemmjjaaDoor.Lv

namespace Go.Proofs.YtdiidmmmemmjjaaDoor.Lv
open Go.RowKit
set_option linter.unusedVariables false

theorem and127 (x : Int) : ∃ r : Nat, bits .and .i64 x 127 = (r : Int) ∧ r ≤ 127 := by
  refine ⟨((BitVec.ofInt 64 x) &&& (BitVec.ofInt 64 127)).toNat, ?_, ?_⟩
  · show IntKind.i64.wrap ((BitVec.ofInt 64 x &&& BitVec.ofInt 64 127).toNat : Int) = _
    have h : (BitVec.ofInt 64 x &&& BitVec.ofInt 64 127).toNat ≤ 127 := by
      rw [BitVec.toNat_and]
      exact Nat.le_trans Nat.and_le_right (by decide)
    rw [IntKind.wrap_i64]
    omega
  · rw [BitVec.toNat_and]
    exact Nat.le_trans Nat.and_le_right (by decide)
set_option maxRecDepth 100000 in
set_option maxHeartbeats 2000000 in
theorem ones_any (w : World) (x : Int) : Calls Tryd.prog 35 #[.int .u64 x] w fun e w' => (∃ r : Nat, e = .returned (.int .i64 (r : Int)) ∧ r ≤ 127) ∧ w' = w := by
  go_enter Tryd.func35, Tryd.ntmps35
  go_wp2_with (fail)
  go_ret
  refine ⟨?_, rfl⟩
  obtain ⟨r, h1, h2⟩ := and127 _
  exact ⟨r, congrArg (fun z => Ending.returned (.int .i64 z)) h1, h2⟩
end Go.Proofs.YtdiidmmmemmjjaaDoor.Lv

namespace Go.Proofs.YtdiidmmmemmjjaaDoor.Lv
open Go.RowKit
set_option linter.unusedVariables false

/-- The registers of a word; of words. -/
def regsW (a x : Int) : List Int := (bitsUp x.toNat).map (fun b : Nat => a * 64 + (b : Int))
def regsOf (L : List (Int × Int)) : List Int := L.flatMap (fun e => regsW e.1 e.2)
theorem regsOf_snoc (L : List (Int × Int)) (e : Int × Int) : regsOf (L ++ [e]) = regsOf L ++ regsW e.1 e.2 := by simp [regsOf]
theorem bitsUp_len (x : Nat) : (bitsUp x).length ≤ 64 := by
  have := List.length_filter_le (fun b => x.testBit b) (List.range 64)
  simpa [bitsUp] using this
theorem regsOf_len (L : List (Int × Int)) : (regsOf L).length ≤ 64 * L.length := by
  induction L with
  | nil => simp [regsOf]
  | cons e L ih =>
    have h1 : regsOf (e :: L) = regsW e.1 e.2 ++ regsOf L := by simp [regsOf]
    have h2 := bitsUp_len e.2.toNat
    rw [h1, List.length_append, List.length_cons]
    simp only [regsW, List.length_map]
    omega
theorem regsOf_take (L : List (Int × Int)) (k : Nat) : (regsOf (L.take k)).length ≤ 64 * L.length := by
  have h1 := regsOf_len (L.take k)
  have h2 : (L.take k).length ≤ L.length := by simp; omega
  omega
abbrev mapI (M : List Int) : List Value := M.map (Value.int .i64)
/-- A list of numbers of one's own. -/
abbrev OwnI (base : Nat) (z : World) (lv : Value) (M : List Int) : Prop := z.ownsRow base 3 1 lv M.length (mapI M)
theorem OwnI.q {base : Nat} {z z' : World} {lv : Value} {M : List Int} (h : OwnI base z lv M) (q : Q z z') : OwnI base z' lv M := row_q h (fun b hb => q.block b (h.lt b hb).2)
theorem own_start (base : Nat) (z : World) : OwnI base z (.slice none 0 0) [] := ⟨rfl, Or.inl ⟨rfl, rfl⟩⟩
theorem own_app {w z X w1 : World} {lv : Value} {M : List Int} {e : Int} (hq : Q w z) (hrow : OwnI w.heap.size z lv M) (hX : X.heap = (z.alloc (.cells #[.int .i64 e] 3)).heap) (o1 : X.os = z.os) (o2 : X.tape = z.tape) (o3 : X.output = z.output) (hg : X.grownBy w1 lv.ownBlock) : Q w w1 ∧ ∀ b, b < z.heap.size → lv.ownBlock ≠ some b → w1.heap[b]? = z.heap[b]? := by
  have hs : X.heap.size = z.heap.size + 1 := by rw [hX]; simp
  have old : ∀ b, b < z.heap.size → X.heap[b]? = z.heap[b]? := fun b hb => by rw [hX]; exact ((Q.refl z).alloc _).block b hb
  have keep : ∀ b, b < z.heap.size → lv.ownBlock ≠ some b → w1.heap[b]? = z.heap[b]? := fun b hb hn => (hg.block b (by omega) (fun e => hn e.symm)).trans (old b hb)
  refine ⟨⟨?_, ?_, ?_, ?_, fun b hb => ?_⟩, keep⟩
  · rw [hg.os, o1]; exact hq.os
  · rw [hg.tape, o2]; exact hq.tape
  · rw [hg.output, o3]; exact hq.output
  · have := hg.size; have := hq.size; omega
  · have hz := hq.size
    rw [keep b (by omega) (fun e => by have := (hrow.lt b e).1; omega)]
    exact hq.block b hb

theorem info_int' : ∃ i0, Tryd.prog.info? 3 = some i0 ∧ i0.zero = some (.int .i64 0) ∧ i0.size = 1 ∧ i0.bytes = 8 := info_int
/-- What holds while the bits of a word are told. -/
structure LsI (w z : World) (bw : Nat) (at' : Int) (x0 : Nat) (pre : List Int) (lv : Value) (x : Nat) : Prop where
  q : Q w z
  box : z.cell? ⟨bw, 0, none⟩ = some (.int .i64 at')
  lt : bw < z.heap.size
  far : lv.ownBlock ≠ some bw
  row : ∃ done : List Nat, bitsUp x0 = done ++ bitsUp x ∧ OwnI w.heap.size z lv (pre ++ done.map (fun b : Nat => at' * 64 + (b : Int)))

set_option maxRecDepth 100000 in
set_option maxHeartbeats 8000000 in
theorem list_any (w : World) (v : Value) (L : List (Int × Int)) (h : Wds w v L) (hu : Up L) (hl : L.length ≤ 1000000) (hT : Tab w) :
    Calls Tryd.prog 16 #[.agg #[v]] w fun e w' => ∃ nv, e = .returned nv ∧ OwnI w.heap.size w' nv (regsOf L) ∧ Q w w' := by
  have q0 : Q w (bxS w v) := (Q.refl w).alloc _
  have b0 : (bxS w v).cell? ⟨w.heap.size, 0, none⟩ = some v := (cell_of_block (heap_alloc_new w _) 0).trans rfl
  have HQ := hideIt q0
  have hv : ∃ ao c, v = .slice ao L.length c ∧ ∀ (k : Nat) (e : Int × Int), L[k]? = some e → ∃ g, ao = some ⟨g, 0, none⟩ ∧ w.cell? ⟨g, k * 2, none⟩ = some (.int .i64 e.1) ∧ w.cell? ⟨g, k * 2 + 1, none⟩ = some (.int .u64 e.2) := by
    obtain ⟨-, ⟨rfl, rfl⟩ | ⟨g, cap, rfl, hc⟩⟩ := h
    · exact ⟨none, 0, rfl, fun k e hk => by simp at hk⟩
    · exact ⟨_, cap, rfl, fun k e hk => ⟨g, rfl, hc k e hk⟩⟩
  obtain ⟨ao, c, rfl, hC⟩ := hv
  have HC := hideIt hC
  have HU := hideIt hu
  have HT := hideIt hT
  clear hC hu hT q0 h
  generalize hX : bxS w (.slice ao L.length c) = X at *
  go_enter Tryd.func16, Tryd.ntmps16
  go_wp2_with (fail)
  have B0 := hideIt b0
  clear hX b0
  go_loopw [3, 13] (fun mv iv z => ∃ (k m : Nat), mv = .int .i64 (m : Int) ∧ iv = .int .i64 (k : Int) ∧ k ≤ L.length ∧ m ≤ 127 * k ∧ Hid (Q X z)) (fun _ iv _ => L.length - (intOf iv).toNat)
  case atStart => exact ⟨0, 0, rfl, rfl, Nat.zero_le _, Nat.le_refl _, Q.refl X⟩
  case round =>
    obtain ⟨k, m, rfl, rfl, hk, hm, HI⟩ := hrel
    generalize wr = z at *
    by_cases hkl : k < L.length
    · have hkl2 : (k : Int) < (L.length : Int) := by omega
      obtain ⟨y, hy⟩ := get_of_lt hkl
      obtain ⟨g, rfl, c1, c2⟩ := HC.out _ _ hy
      replace c1 := cell_keep (HQ.out.trans HI.out) c1
      replace c2 := cell_keep (HQ.out.trans HI.out) c2
      clear hy
      obtain ⟨y1, y2⟩ := y
      dsimp only at *
      have CO := hideIt (fun Y => ones_any Y y2)
      go_wp2_with (first
        | (go_at_call 35; refine Calls.mono (CO.out _) ?_; rintro e y' ⟨⟨r, rfl, hr⟩, rfl⟩; have hw : IntKind.i64.wrap ((m : Int) + (r : Int)) = ((m + r : Nat) : Int) := (by rw [IntKind.wrap_i64]; omega))
        | fail)
      go_roundw
      case rel => exact ⟨k + 1, m + r, by go_num, by go_num, by omega, by omega, HI.out.alloc _⟩
      case measure => simp [intOf]; omega
    · have hkl2 : ¬ (k : Int) < (L.length : Int) := by omega
      obtain ⟨i9, ti, tz0, tz1, tz2⟩ := info_int
      obtain ⟨Y, hmk, hown, hgr⟩ := run_make_own (P := Tryd.prog) z w.heap.size 22 3 i9 (.int .i64 0) 1 Tryd.underlying22 ti tz0 tz1 .i64 .i64 m (by rw [tz2]; omega) (by unfold maxLen; omega) (HQ.out.trans HI.out).size
      have qY : Q z Y := ⟨hgr.os, hgr.tape, hgr.output, hgr.size, fun b hb => hgr.block b hb (by simp)⟩
      have bY : Y.cell? ⟨w.heap.size, 0, none⟩ = some (.slice ao L.length c) := cell_keep (HI.out.trans qY) B0.out
      have HQY := hideIt (HQ.out.trans (HI.out.trans qY))
      have HOY := hideIt hown
      clear qY hown hgr ti tz0 tz1 tz2 hkl hk hm HI HQ B0
      go_wp2_with (fail)
      clear bY hmk hkl2
      go_loopw [6, 28] (fun lv iv z => ∃ k : Nat, iv = .int .i64 (k : Int) ∧ k ≤ L.length ∧ Hid (Q w z ∧ OwnI w.heap.size z lv (regsOf (L.take k)))) (fun _ iv _ => L.length - (intOf iv).toNat)
      case atStart => exact ⟨0, rfl, Nat.zero_le _, HQY.out, by rw [List.take_zero]; exact HOY.out⟩
      case round =>
        obtain ⟨k, rfl, hk, HI⟩ := hrel
        generalize wr = z at *
        obtain ⟨va, vc, rfl⟩ := own_form HI.out.2
        by_cases hkl : k < L.length
        · have hkl2 : (k : Int) < (L.length : Int) := by omega
          obtain ⟨y, hy⟩ := get_of_lt hkl
          obtain ⟨g, rfl, c1, c2⟩ := HC.out _ _ hy
          replace c1 := cell_keep HI.out.1 c1
          replace c2 := cell_keep HI.out.1 c2
          have hmem := List.mem_of_getElem? hy
          have hyr := HU.out.rng y hmem
          have hyu := HU.out.u y hmem
          obtain ⟨x0, hx0, hx0l⟩ : ∃ x0 : Nat, y.2 = (x0 : Int) ∧ x0 < 18446744073709551616 := ⟨y.2.toNat, by have := hyu.1; omega, by obtain ⟨h1, h2⟩ := hyu; omega⟩
          have EY : Hid (regsOf (L.take (k + 1)) = regsOf (L.take k) ++ (bitsUp x0).map (fun b : Nat => y.1 * 64 + (b : Int))) := by
            show regsOf (L.take (k + 1)) = _
            rw [take_snoc hy, regsOf_snoc]
            unfold regsW
            rw [hx0, Int.toNat_natCast]
          rw [hx0] at c2
          have hP := regsOf_take L k
          have hP2 := regsOf_take L (k + 1)
          rw [EY.out] at hP2
          clear hy hmem hyu hx0
          obtain ⟨y1, y2⟩ := y
          dsimp only at *
          generalize regsOf (L.take k) = pre at *
          go_wp2_with (fail)
          go_loopg [6, 9] 65 (fun kx lv rv z' => ∃ x : Nat, rv = .int .u64 (x : Int) ∧ x < 18446744073709551616 ∧ (bitsUp x).length < kx ∧ Hid (LsI w z' z.heap.size y1 x0 pre lv x))
          case atStart =>
            refine ⟨x0, rfl, hx0l, by have := bitsUp_len x0; omega, ?_⟩
            have qa : Q z (z.alloc (.cells #[.int .i64 y1, .int .u64 (x0 : Int)] 80)) := (Q.refl z).alloc _
            refine ⟨HI.out.1.trans qa, (cell_of_block (heap_alloc_new z _) 0).trans rfl, by simp, fun e => by have := (HI.out.2.lt _ e).2; omega, [], rfl, ?_⟩
            simpa using OwnI.q HI.out.2 qa
          case round =>
            obtain ⟨x, rfl, hxl, hxk, HJ⟩ := hrel
            generalize wr = z2 at *
            obtain ⟨done, hdone, hrow⟩ := HJ.out.row
            by_cases hx : x = 0
            · subst hx
              rw [bitsUp_zero, List.append_nil] at hdone
              subst hdone
              rw [← EY.out] at hrow
              obtain ⟨wa, wc, rfl⟩ := own_form hrow
              have HR := hideIt hrow
              clear hrow
              go_wp2_with (fail)
              exact ⟨⟨k + 1, by go_num, by omega, HJ.out.q, HR.out⟩, by simp [intOf]; omega⟩
            · obtain ⟨wa, wc, rfl⟩ := own_form hrow
              have hlow := bitsUp_low x hx hxl
              obtain ⟨hct, -⟩ := low_bits x hx hxl
              have TZ := hideIt (fun y (q : Q z2 y) => tz_any y x hx hxl (HT.out.keep (HJ.out.q.trans q)))
              have hx1 : ((x : Int) != 0) = true := by simp; omega
              have hx2 : ¬ (x : Int) = 0 := by omega
              have hml : (pre ++ done.map (fun b : Nat => y1 * 64 + (b : Int))).length + 1 ≤ 64 * L.length := by
                rw [hdone, hlow] at hP2
                simp at hP2 ⊢
                omega
              have HN : Hid (bitsUp x0 = (done ++ [Lib.ctz 64 x]) ++ bitsUp (x &&& (x - 1)) ∧ (bitsUp (x &&& (x - 1))).length + 1 = (bitsUp x).length) := by
                refine ⟨?_, ?_⟩
                · rw [hdone, hlow]; simp
                · rw [hlow]; rfl
              have EM : (pre ++ done.map (fun b : Nat => y1 * 64 + (b : Int))) ++ [y1 * 64 + ((Lib.ctz 64 x : Nat) : Int)] = pre ++ (done ++ [Lib.ctz 64 x]).map (fun b : Nat => y1 * 64 + (b : Int)) := by simp
              have HEM := hideIt EM
              have hw1 : IntKind.i64.wrap (y1 * 64) = y1 * 64 := by rw [IntKind.wrap_i64]; omega
              have bx := HJ.out.box
              clear hdone hlow EM
              generalize hM : (pre ++ done.map (fun b : Nat => y1 * 64 + (b : Int))) = M at *
              generalize Lib.ctz 64 x = t at *
              have hw2 : IntKind.i64.wrap (y1 * 64 + (t : Int)) = y1 * 64 + (t : Int) := by rw [IntKind.wrap_i64]; omega
              have AR : Hid (∀ X : World, X.heap = (z2.alloc (.cells #[.int .i64 (y1 * 64 + (t : Int))] 3)).heap → X.ownsRow w.heap.size 3 1 (.slice wa M.length wc) M.length (mapI M) ∧ (∀ (j : Nat) (u : Value), [Value.int .i64 (y1 * 64 + (t : Int))][j]? = some u → X.cell? ((⟨z2.heap.size, 0, none⟩ : Addr).add j) = some u) ∧ w.heap.size ≤ X.heap.size ∧ X.heap.size = z2.heap.size + 1) := fun X hX => by
                have hs : X.heap.size = z2.heap.size + 1 := by rw [hX]; simp
                refine ⟨row_q hrow (fun b hb => ?_), ?_, ?_, hs⟩
                · rw [hX]; exact ((Q.refl z2).alloc _).block b (hrow.lt b hb).2
                · have hb : X.heap[z2.heap.size]? = some (.cells #[.int .i64 (y1 * 64 + (t : Int))] 3 (0, 0)) := by rw [hX]; exact heap_alloc_new z2 _
                  exact fun j u hu => World.news_of_block hb j u hu
                · have := HJ.out.q.size; omega
              have NX : Hid (∀ (X w1 : World) (g cap : Nat), X.grownBy w1 (Value.slice wa M.length wc).ownBlock → X.heap = (z2.alloc (.cells #[.int .i64 (y1 * 64 + (t : Int))] 3)).heap → X.os = z2.os → X.tape = z2.tape → X.output = z2.output → w1.ownsRow w.heap.size 3 1 (.slice (some ⟨g, 0, none⟩) (M.length + 1) cap) (M.length + 1) (mapI M ++ [.int .i64 (y1 * 64 + (t : Int))]) → ((Value.slice wa M.length wc).ownBlock = some g ∨ g = z2.heap.size + 1) → LsI w w1 z.heap.size y1 x0 pre (.slice (some ⟨g, 0, none⟩) (M.length + 1) cap) (x &&& (x - 1))) := fun X w1 g cap hg x0' x1 x2 x3 hown hat => by
                obtain ⟨a1, a2⟩ := own_app HJ.out.q hrow x0' x1 x2 x3 hg
                have hb := a2 _ HJ.out.lt HJ.out.far
                have hs : z2.heap.size ≤ w1.heap.size := by have := hg.size; rw [x0'] at this; simp at this; omega
                refine ⟨a1, ?_, Nat.lt_of_lt_of_le HJ.out.lt hs, ?_, done ++ [t], HN.out.1, ?_⟩
                · have := HJ.out.box
                  unfold World.cell? at this ⊢
                  rw [hb]
                  exact this
                · intro e
                  injection e with e
                  rcases hat with q | q
                  · exact HJ.out.far (by rw [q]; exact congrArg some e)
                  · have := HJ.out.lt
                    have e' : g = z.heap.size := e
                    omega
                · rw [← HEM.out]
                  show w1.ownsRow _ _ _ _ (M ++ [y1 * 64 + (t : Int)]).length (mapI (M ++ [y1 * 64 + (t : Int)]))
                  simpa [mapI] using hown
              have HM := hideIt (show M.length + 1 ≤ maxLen by unfold maxLen; omega)
              have HM2 := hideIt (show (M.length + 1) * 8 ≤ 140737488355328 by omega)
              obtain ⟨i0, ti, tz0, tz1, tz2⟩ := info_int
              have HTI := hideIt (And.intro ti (And.intro tz0 (And.intro tz1 tz2)))
              have e2 : bits .and .u64 (x : Int) ((x : Int) - 1) = ((x &&& (x - 1) : Nat) : Int) := by
                have := bits_and_u64_nat x (x - 1) hxl (by omega)
                rw [show ((x - 1 : Nat) : Int) = (x : Int) - 1 by omega] at this
                exact this
              have hnl : x &&& (x - 1) < 18446744073709551616 := Nat.lt_of_le_of_lt Nat.and_le_left hxl
              have E2 := hideIt e2
              have HNL := hideIt hnl
              clear e2 hnl ti tz0 tz1 tz2 hM hrow hml
              go_wp2_with (fail)
              go_region_law (first | (refine step_append_lies _ (by rfl) _ _ 22 (by rfl) w.heap.size 3 i0 (.int .i64 0) 1 8 Tryd.underlying22 HTI.out.1 HTI.out.2.1 HTI.out.2.2.1 HTI.out.2.2.2 rfl (by decide) (.slice wa M.length wc) M.length (mapI M) (by rfl) (AR.out _ rfl).1 ⟨z2.heap.size, 0, none⟩ 1 1 [.int .i64 (y1 * 64 + (t : Int))] (by rfl) rfl (AR.out _ rfl).2.1 (fun u hu => by simp at hu; subst hu; rfl) (by decide) HM.out HM2.out (AR.out _ rfl).2.2.1 (z2.heap.size + 1) (AR.out _ rfl).2.2.2 ?_; intro g2 cap2 w1 hown hgrow hat hlt; have H3 := hideIt (NX.out _ w1 g2 cap2 hgrow rfl rfl rfl rfl hown hat); clear hown hgrow hat) | (rw [if_pos (by rfl)]; go_simp; go_at_call 36; refine Calls.mono (TZ.out _ (by first | exact (Q.refl z2).drew | exact (Q.refl z2).drewN _ | exact Q.refl z2)) ?_; rintro e y' ⟨rfl, rfl⟩; dsimp only))
              all_goals (go_wp2_with (fail); rw [E2.out]; go_roundg ((bitsUp (x &&& (x - 1))).length + 1); (case measure => (have := HN.out.2; omega)); (case rel => exact ⟨x &&& (x - 1), rfl, HNL.out, by omega, H3.out⟩))
        · have hkl2 : ¬ (k : Int) < (L.length : Int) := by omega
          have ek : k = L.length := by omega
          have HE : Hid (L.take k = L) := by
            show L.take k = L
            rw [ek, List.take_length]
          clear ek
          go_wp2_with (fail)
          go_ret
          have H1 := HI.out
          rw [HE.out] at H1
          refine ⟨_, rfl, ?_, H1.1⟩
          show OwnI w.heap.size z (.slice va (regsOf (L.take k)).length vc) (regsOf L)
          rw [HE.out]
          exact H1.2

end Go.Proofs.YtdiidmmmemmjjaaDoor.Lv
