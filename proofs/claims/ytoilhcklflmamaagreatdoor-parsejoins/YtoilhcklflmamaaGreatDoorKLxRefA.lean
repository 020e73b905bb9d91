/-
  What the document's sign and number return: contracts over the program; the conditions: a length that fits, and a place within the text.
-/
import Derived.Test.YtoilhcklflmamaaGreatDoorKLexC
import Derived.Deep.QuietTactic
import Derived.BigQuiet
import Derived.BigRegion
import Derived.Deep.RegionWith
import Derived.Laws.BitsLemmas
namespace Go.Proofs.YtoilhcklflmamaaGreatDoor
open Go.RowKit
set_option linter.unusedVariables false

theorem rwrap_small (n : Int) (h0 : 0 ≤ n) (h1 : n < 9223372036854775808) : IntKind.i64.wrap n = n := by
  rw [IntKind.wrap_i64]
  omega
theorem below_drewN {B : Nat} {a b : World} (h : Below B a b) (n : Nat) : Below B a (b.drewN n) := ⟨h.os, h.tape, h.output, h.size, h.block⟩

/-- How many bytes the sign at the head of a text has. -/
def signN (l : List UInt8) : Nat := match Lx.signT l with
  | none => 0
  | some t => t.text.length
def onesB : ByteArray := ⟨#[40, 41, 123, 125, 91, 93, 59, 44, 46, 63, 58, 43, 45, 42, 47, 37, 38, 124, 94, 126, 33, 60, 62, 61]⟩
theorem ones_size : onesB.size = 24 := rfl
theorem ones_bl : bl onesB = Lx.ones := rfl
/-- Is a byte one of a list from a place on? -/
def oneFrom (k : Nat) (c : UInt8) : Bool := (Lx.ones.drop k).contains c
theorem ones_at (k : Nat) (h : k < onesB.size) : Lx.ones.drop k = onesB[k] :: Lx.ones.drop (k + 1) := by
  have := bl_at onesB k h
  rw [ones_bl] at this
  exact this

theorem sign_ones (c : UInt8) (r : List UInt8) (h : Lx.twos.contains ((c :: r).take 2) = false) : signN (c :: r) = if Lx.ones.contains c then 1 else 0 := by
  unfold signN Lx.signT
  rw [if_neg (by rw [h]; decide)]
  by_cases hc : Lx.ones.contains c = true
  · have h1 : ((c :: r).head?.map Lx.ones.contains).getD false = true := hc
    rw [if_pos h1, if_pos hc]
    rfl
  · have h1 : ¬ ((c :: r).head?.map Lx.ones.contains).getD false = true := hc
    rw [if_neg h1, if_neg hc]

set_option maxRecDepth 100000 in
set_option maxHeartbeats 1000000 in
theorem rsign_any (s : ByteArray) (a : Nat) (w : World) (ha : a < s.size) (hs : s.size ≤ 65536) :
    Calls Tryz.prog 42 #[.string s, .int .i64 a] w fun e w' => e = .returned (.int .i64 (signN ((bl s).drop a))) ∧ Q w w' := by
  have hai : (a : Int) < (s.size : Int) := by omega
  have hl := bl_at s a ha
  have HL := hideIt hl
  clear hl
  obtain ⟨l, hle⟩ : ∃ l, (bl s).drop a = l := ⟨_, rfl⟩
  rw [hle] at HL ⊢
  have HLE := hideIt hle
  have hll : l.length = s.size - a := by rw [← hle, List.length_drop, bl_len]
  clear hle
  have H0 : Hid (Lx.twos.contains (l.take 2) = hasFrom Lx.twos 0 (l.take 2)) := rfl
  go_enter Tryz.func42, Tryz.ntmps42
  go_wp2_with (fail)
  go_loopw [6] (fun i wr => ∃ k : Nat, i = .int .i64 k ∧ k ≤ 8 ∧ Hid (Lx.twos.contains (l.take 2) = hasFrom Lx.twos k (l.take 2)) ∧ Q (w.alloc (.cells (strs Lx.twos) 9)) wr) (fun i _ => 8 - (intOf i).toNat)
  case atStart => exact ⟨0, rfl, Nat.zero_le _, H0, Q.refl _⟩
  case round =>
    obtain ⟨k, rfl, hk, HR, hq⟩ := hrel
    clear H0
    by_cases hlt : k < 8
    · have hki : (k : Int) < 8 := by omega
      have hcell : wr.cell? ⟨w.heap.size, k, none⟩ = some (.string ⟨(Lx.twos.getD k []).toArray⟩) := by
        have h1 : (w.alloc (.cells (strs Lx.twos) 9)).cell? ⟨w.heap.size, k, none⟩ = some (.string ⟨(Lx.twos.getD k []).toArray⟩) := by
          rw [cell_box]
          rcases (show k = 0 ∨ k = 1 ∨ k = 2 ∨ k = 3 ∨ k = 4 ∨ k = 5 ∨ k = 6 ∨ k = 7 by omega) with rfl | rfl | rfl | rfl | rfl | rfl | rfl | rfl <;> rfl
        exact (hq.cell (p := ⟨w.heap.size, k, none⟩) (by simp)).trans h1
      obtain ⟨x, hx⟩ : ∃ x, Lx.twos.getD k [] = x := ⟨_, rfl⟩
      rw [hx] at hcell
      have hw1 : IntKind.i64.wrap ((s.size : Int) - (a : Int)) = (s.size : Int) - (a : Int) := rwrap_small _ (by omega) (by omega)
      have hw2 : IntKind.i64.wrap ((a : Int) + 2) = (a : Int) + 2 := rwrap_small _ (by omega) (by omega)
      have HQ := hideIt hq
      clear hq
      by_cases h2 : 2 ≤ l.length
      · have hd2 : decide ((2 : Int) ≤ (s.size : Int) - (a : Int)) = true := by simp; omega
        obtain ⟨t2, ht2⟩ : ∃ t2, s.extract a (a + 2) = t2 := ⟨_, rfl⟩
        have hb2 : bl t2 = l.take 2 := by rw [← ht2, bl_extract, HLE.out, Nat.add_sub_cancel_left]
        have hsl : ∀ wx : World, (Instr.slice 9 (.string s) (some (.int .i64 (a : Int))) (some (.int .i64 ((a : Int) + 2))) none).run Tryz.prog wx = .ok (.string t2) wx := by
          intro wx
          rw [run_slice_string wx 9 s .i64 .i64 _ _ Tryz.underlying9 (by omega) (by omega) (by omega)]
          rw [show ((a : Int)).toNat = a by omega, show ((a : Int) + 2).toNat = a + 2 by omega, ht2]
        cases hb : l.take 2 == x with
        | true =>
          have HN : Hid (signN l = 2) := by
            have h5 : Lx.twos.contains (l.take 2) = true := by rw [HR.out, hasFrom_yes (l := Lx.twos) hlt (by rw [hx]; exact hb)]
            show _ = _
            unfold signN Lx.signT
            rw [if_pos h5]
            simp only [List.length_take]
            omega
          have hbb : (t2.toList == x) = true := by rw [Lib.toList_data]; show (bl t2 == x) = true; rw [hb2]; exact hb
          clear hb hx HR ht2 hb2
          go_wp2_with (fail)
          go_quiet (fail)
          go_wp2_with (fail)
          go_ret
          rw [HN.out]
          exact ⟨rfl, below_drewN (((Q.refl w).alloc _).trans HQ.out) _⟩
        | false =>
          have HN : Hid (Lx.twos.contains (l.take 2) = hasFrom Lx.twos (k + 1) (l.take 2)) := by
            show _ = _
            rw [HR.out, hasFrom_no (l := Lx.twos) hlt (by rw [hx]; exact hb)]
          have hbb : (t2.toList == x) = false := by rw [Lib.toList_data]; show (bl t2 == x) = false; rw [hb2]; exact hb
          clear hb hx HR ht2 hb2
          go_wp2_with (fail)
          go_quiet (fail)
          go_wp2_with (fail)
          go_roundw
          case rel => exact ⟨k + 1, by go_num, by omega, HN, below_drewN HQ.out _⟩
          case measure => simp [intOf]; omega
      · have hd2 : decide ((2 : Int) ≤ (s.size : Int) - (a : Int)) = false := by simp; omega
        have HN : Hid (Lx.twos.contains (l.take 2) = hasFrom Lx.twos (k + 1) (l.take 2)) := by
          show _ = _
          rw [HR.out, hasFrom_no (l := Lx.twos) hlt]
          rw [beq_eq_false_iff_ne]
          intro e
          have h9 : (Lx.twos.getD k []).length = 2 := by
            rcases (show k = 0 ∨ k = 1 ∨ k = 2 ∨ k = 3 ∨ k = 4 ∨ k = 5 ∨ k = 6 ∨ k = 7 by omega) with rfl | rfl | rfl | rfl | rfl | rfl | rfl | rfl <;> rfl
          rw [← e, List.length_take] at h9
          omega
        clear hx HR
        go_wp2_with (fail)
        go_quiet (fail)
        go_wp2_with (fail)
        go_roundw
        case rel => exact ⟨k + 1, by go_num, by omega, HN, below_drewN HQ.out _⟩
        case measure => simp [intOf]; omega
    · have ek : k = 8 := by omega
      subst ek
      have HN2 : Hid (Lx.twos.contains (l.take 2) = false) := HR.out
      have HQ := hideIt hq
      have HS0 : Hid (signN l = if oneFrom 0 s[a] then 1 else 0) := by
        have h9 := HN2.out
        rw [HL.out] at h9
        show _ = _
        rw [HL.out, sign_ones _ _ h9]
        rfl
      clear hq HR HN2
      go_wp2_with (fail)
      go_loopw [8] (fun i wr => ∃ k : Nat, i = .int .i64 k ∧ k ≤ 24 ∧ Hid (signN l = if oneFrom k s[a] then 1 else 0) ∧ Q w wr) (fun i _ => 24 - (intOf i).toNat)
      case atStart => exact ⟨0, rfl, Nat.zero_le _, HS0, ((Q.refl w).alloc _).trans HQ.out⟩
      case round =>
        obtain ⟨k, rfl, hk, HR, hq⟩ := hrel
        clear HS0 HQ
        have HQ := hideIt hq
        clear hq
        by_cases hlt : k < 24
        · have hki : (k : Int) < 24 := by omega
          have hks : k < onesB.size := by rw [ones_size]; exact hlt
          cases hb : (onesB[k] == s[a]) with
          | true =>
            have HN : Hid (signN l = 1) := by
              show _ = _
              rw [HR.out, if_pos]
              unfold oneFrom
              rw [ones_at k hks, List.contains_cons, BEq.comm, hb, Bool.true_or]
            have hbb : ((onesB[k].toNat : Int) == (s[a].toNat : Int)) = true := by
              rw [beq_iff_eq] at hb ⊢
              rw [hb]
            clear hb HR
            unfold onesB at hks hbb
            go_wp2_with (fail)
            go_quiet (fail)
            go_wp2_with (fail)
            go_ret
            rw [HN.out]
            exact ⟨rfl, below_drewN HQ.out _⟩
          | false =>
            have HN : Hid (signN l = if oneFrom (k + 1) s[a] then 1 else 0) := by
              show _ = _
              rw [HR.out]
              unfold oneFrom
              rw [ones_at k hks, List.contains_cons, show (s[a] == onesB[k]) = false by rw [BEq.comm]; exact hb, Bool.false_or]
            have hbb : ((onesB[k].toNat : Int) == (s[a].toNat : Int)) = false := by
              rw [beq_eq_false_iff_ne] at hb ⊢
              intro e
              exact hb (UInt8.toNat_inj.1 (by omega))
            clear hb HR
            unfold onesB at hks hbb
            go_wp2_with (fail)
            go_quiet (fail)
            go_wp2_with (fail)
            go_roundw
            case rel => exact ⟨k + 1, by go_num, by omega, HN, below_drewN HQ.out _⟩
            case measure => simp [intOf]; omega
        · have ek : k = 24 := by omega
          subst ek
          have HN : Hid (signN l = 0) := HR.out
          clear HR
          go_wp2_with (fail)
          go_ret
          rw [HN.out]
          exact ⟨rfl, HQ.out⟩
end Go.Proofs.YtoilhcklflmamaaGreatDoor
