/-
  What the small functions on letters and digits return, in the program and in the document's answer: contracts over the program; no conditions but lengths that fit.
-/
import Derived.Test.YtkjkobiliinneaaDoorChecked
import Derived.Test.YtkjkobiliinneaaDoorPlainC
import Derived.WalkKit
import Derived.WalkSpells
import Derived.WalkLawsBesides
import Derived.Below
import Derived.Lib.Strings
import Derived.Lib.IndexBytes
namespace Go.Proofs.YtkjkobiliinneaaDoor
open Go.RowKit
set_option linter.unusedVariables false

theorem hideIt {q : Prop} (h : q) : Hid q := h
abbrev Q (w w' : World) : Prop := Below w.heap.size w w'
theorem Q.refl (w : World) : Q w w := Below.refl _ _
theorem Q.trans {a b c : World} (h : Q a b) (k : Q b c) : Q a c := Below.trans h (Below.mono k h.size)
theorem Q.alloc {a w : World} (h : Q a w) (o : Obj) : Q a (w.alloc o) := Below.alloc h h.size o
theorem Q.drew {a w : World} (h : Q a w) : Q a w.drew := Below.drew h
theorem ret_int {k : IntKind} {a b : Int} (h : a = b) : Ending.returned (.int k a) = .returned (.int k b) := by rw [h]
theorem ret_bool {a b : Bool} (h : a = b) : Ending.returned (.bool a) = .returned (.bool b) := by rw [h]
/-- A text's bytes. -/
abbrev bl (s : ByteArray) : List UInt8 := s.data.toList

theorem bl_len (s : ByteArray) : (bl s).length = s.size := (Lib.size_eq s).symm
theorem bl_at (s : ByteArray) (k : Nat) (h : k < s.size) : (bl s).drop k = s[k] :: (bl s).drop (k + 1) := by
  rw [List.drop_eq_getElem_cons (by rw [bl_len]; exact h)]
  rfl

set_option maxHeartbeats 400000 in
theorem letter_any (c : UInt8) (w : World) :
    Calls Tryd.prog 37 #[.int .u8 (c.toNat : Int)] w fun e w' => e = .returned (.bool (Lx.letter c)) ∧ w' = w := by
  have h1 : decide (97 ≤ c.toNat) = decide ((97 : Int) ≤ (c.toNat : Int)) := by rw [decide_eq_decide]; omega
  have h2 : decide (c.toNat ≤ 122) = decide ((c.toNat : Int) ≤ 122) := by rw [decide_eq_decide]; omega
  unfold Lx.letter
  rw [h1, h2]
  clear h1 h2
  by_cases h : (97 : Int) ≤ (c.toNat : Int)
  · have hd : decide ((97 : Int) ≤ (c.toNat : Int)) = true := by simpa using h
    go_enter Tryd.func37, Tryd.ntmps37
    go_wp2
    go_ret
    exact ⟨by simp [h], rfl⟩
  · have hd : decide ((97 : Int) ≤ (c.toNat : Int)) = false := by simpa using h
    go_enter Tryd.func37, Tryd.ntmps37
    go_wp2
    go_ret
    exact ⟨by simp, rfl⟩

set_option maxHeartbeats 400000 in
theorem digit_any (c : UInt8) (w : World) :
    Calls Tryd.prog 38 #[.int .u8 (c.toNat : Int)] w fun e w' => e = .returned (.bool (Lx.digit c)) ∧ w' = w := by
  have h1 : decide (48 ≤ c.toNat) = decide ((48 : Int) ≤ (c.toNat : Int)) := by rw [decide_eq_decide]; omega
  have h2 : decide (c.toNat ≤ 57) = decide ((c.toNat : Int) ≤ 57) := by rw [decide_eq_decide]; omega
  unfold Lx.digit
  rw [h1, h2]
  clear h1 h2
  by_cases h : (48 : Int) ≤ (c.toNat : Int)
  · have hd : decide ((48 : Int) ≤ (c.toNat : Int)) = true := by simpa using h
    go_enter Tryd.func38, Tryd.ntmps38
    go_wp2
    go_ret
    exact ⟨by simp [h], rfl⟩
  · have hd : decide ((48 : Int) ≤ (c.toNat : Int)) = false := by simpa using h
    go_enter Tryd.func38, Tryd.ntmps38
    go_wp2
    go_ret
    exact ⟨by simp, rfl⟩

set_option maxHeartbeats 400000 in
theorem rletter_any (c : UInt8) (w : World) :
    Calls Tryd.prog 24 #[.int .u8 (c.toNat : Int)] w fun e w' => e = .returned (.bool (Lx.letter c)) ∧ w' = w := by
  have h1 : decide (97 ≤ c.toNat) = decide ((97 : Int) ≤ (c.toNat : Int)) := by rw [decide_eq_decide]; omega
  have h2 : decide (c.toNat ≤ 122) = decide ((c.toNat : Int) ≤ 122) := by rw [decide_eq_decide]; omega
  unfold Lx.letter
  rw [h1, h2]
  clear h1 h2
  by_cases h : (97 : Int) ≤ (c.toNat : Int)
  · have hd : decide ((97 : Int) ≤ (c.toNat : Int)) = true := by simpa using h
    go_enter Tryd.func24, Tryd.ntmps24
    go_wp2
    go_ret
    exact ⟨by simp [h], rfl⟩
  · have hd : decide ((97 : Int) ≤ (c.toNat : Int)) = false := by simpa using h
    go_enter Tryd.func24, Tryd.ntmps24
    go_wp2
    go_ret
    exact ⟨by simp, rfl⟩

set_option maxHeartbeats 400000 in
theorem rdigit_any (c : UInt8) (w : World) :
    Calls Tryd.prog 22 #[.int .u8 (c.toNat : Int)] w fun e w' => e = .returned (.bool (Lx.digit c)) ∧ w' = w := by
  have h1 : decide (48 ≤ c.toNat) = decide ((48 : Int) ≤ (c.toNat : Int)) := by rw [decide_eq_decide]; omega
  have h2 : decide (c.toNat ≤ 57) = decide ((c.toNat : Int) ≤ 57) := by rw [decide_eq_decide]; omega
  unfold Lx.digit
  rw [h1, h2]
  clear h1 h2
  by_cases h : (48 : Int) ≤ (c.toNat : Int)
  · have hd : decide ((48 : Int) ≤ (c.toNat : Int)) = true := by simpa using h
    go_enter Tryd.func22, Tryd.ntmps22
    go_wp2
    go_ret
    exact ⟨by simp [h], rfl⟩
  · have hd : decide ((48 : Int) ≤ (c.toNat : Int)) = false := by simpa using h
    go_enter Tryd.func22, Tryd.ntmps22
    go_wp2
    go_ret
    exact ⟨by simp, rfl⟩


theorem begins_nil (w : World) (s : ByteArray) (h : s.size = 0) :
    Calls Tryd.prog 28 #[.string s] w fun e w' => e = .returned (.bool false) ∧ w' = w := by
  have hs : s = ⟨#[]⟩ := by
    have : s.data.toList = [] := List.eq_nil_of_length_eq_zero (by rw [← Lib.size_eq]; exact h)
    rw [← Lib.mk_data s, this]
  subst hs
  go_enter Tryd.func28, Tryd.ntmps28
  go_wp2
  go_ret
  exact ⟨rfl, rfl⟩
theorem begins_cons (w : World) (s : ByteArray) (h : 0 < s.size) :
    Calls Tryd.prog 28 #[.string s] w fun e w' => e = .returned (.bool (Lx.letter s[0])) ∧ w' = w := by
  have hne : s.toList.isEmpty = false := by
    rw [Lib.toList_data, List.isEmpty_eq_false_iff]
    intro e
    have := Lib.size_eq s
    rw [e] at this
    exact absurd (show s.size = 0 from this) (by omega)
  have HC := hideIt (fun w => letter_any s[0] w)
  go_enter Tryd.func28, Tryd.ntmps28
  go_wp2_with (go_at_call 37; refine (HC.out _).mono ?_; rintro e w' ⟨rfl, rfl⟩)
  go_ret
  exact ⟨rfl, rfl⟩
theorem begins_any (w : World) (s : ByteArray) :
    Calls Tryd.prog 28 #[.string s] w fun e w' => e = .returned (.bool (Lx.begins (bl s))) ∧ w' = w := by
  by_cases h : s.size = 0
  · have e : bl s = [] := List.eq_nil_of_length_eq_zero (by rw [bl_len]; exact h)
    rw [e]
    exact begins_nil w s h
  · have e : bl s = s[0] :: (bl s).drop 1 := by simpa using bl_at s 0 (by omega)
    rw [e]
    exact begins_cons w s (by omega)

theorem runN_yes {c : UInt8} (r : List UInt8) (h : Lx.alnum c = true) : Lx.runN (c :: r) = Lx.runN r + 1 := by simp [Lx.runN, h]
theorem runN_no {c : UInt8} (r : List UInt8) (h : Lx.alnum c = false) : Lx.runN (c :: r) = 0 := by simp [Lx.runN, h]
theorem digN_yes {c : UInt8} (r : List UInt8) (h : Lx.digit c = true) : Lx.digN (c :: r) = Lx.digN r + 1 := by simp [Lx.digN, h]
theorem digN_no {c : UInt8} (r : List UInt8) (h : Lx.digit c = false) : Lx.digN (c :: r) = 0 := by simp [Lx.digN, h]
theorem drop_all (s : ByteArray) : (bl s).drop s.size = [] := List.drop_eq_nil_of_le (by rw [bl_len]; exact Nat.le_refl _)

set_option maxHeartbeats 400000 in
theorem run_any (s : ByteArray) (w : World) (hs : s.size ≤ 9223372036854775807) :
    Calls Tryd.prog 29 #[.string s] w fun e w' => e = .returned (.int .i64 (Lx.runN (bl s))) ∧ w' = w := by
  go_enter Tryd.func29, Tryd.ntmps29
  go_wp2_with (fail)
  go_loop [6] (fun i => ∃ k : Nat, k ≤ s.size ∧ i = .int .i64 k ∧ Hid (Lx.runN (bl s) = k + Lx.runN ((bl s).drop k))) (fun i => s.size - (intOf i).toNat)
  case atStart => exact ⟨0, Nat.zero_le _, rfl, hideIt (by simp)⟩
  case round =>
    obtain ⟨k, hk, rfl, HR⟩ := hrel
    by_cases hlt : k < s.size
    · have HA := hideIt (bl_at s k hlt)
      have hki : (k : Int) < (s.size : Int) := by omega
      have HL := hideIt (fun w => letter_any s[k] w)
      have HD := hideIt (fun w => digit_any s[k] w)
      cases hl : Lx.letter s[k] with
      | true =>
        rw [hl] at HL
        have HN : Hid (Lx.runN (bl s) = k + 1 + Lx.runN ((bl s).drop (k + 1))) := by
          have := HR.out
          rw [HA.out, runN_yes _ (Lx.letter_alnum hl)] at this
          show _ = _
          omega
        clear hl HD HR HA
        go_wp2_with (first | (go_at_call 37; refine (HL.out _).mono ?_; rintro e w' ⟨rfl, rfl⟩) | (go_at_call 38; refine (HD.out _).mono ?_; rintro e w' ⟨rfl, rfl⟩))
        go_round
        case rel => exact ⟨k + 1, by omega, by go_num, HN⟩
        case measure => simp [intOf]; omega
      | false =>
        rw [hl] at HL
        cases hd : Lx.digit s[k] with
        | true =>
          rw [hd] at HD
          have HN : Hid (Lx.runN (bl s) = k + 1 + Lx.runN ((bl s).drop (k + 1))) := by
            have := HR.out
            rw [HA.out, runN_yes _ (Lx.digit_alnum hd)] at this
            show _ = _
            omega
          clear hl hd HR HA
          go_wp2_with (first | (go_at_call 37; refine (HL.out _).mono ?_; rintro e w' ⟨rfl, rfl⟩) | (go_at_call 38; refine (HD.out _).mono ?_; rintro e w' ⟨rfl, rfl⟩))
          go_round
          case rel => exact ⟨k + 1, by omega, by go_num, HN⟩
          case measure => simp [intOf]; omega
        | false =>
          rw [hd] at HD
          have HN : Hid (Lx.runN (bl s) = k) := by
            have := HR.out
            rw [HA.out, runN_no _ (by simp [Lx.alnum, hl, hd])] at this
            show _ = _
            omega
          clear hl hd HR HA
          go_wp2_with (first | (go_at_call 37; refine (HL.out _).mono ?_; rintro e w' ⟨rfl, rfl⟩) | (go_at_call 38; refine (HD.out _).mono ?_; rintro e w' ⟨rfl, rfl⟩))
          go_ret
          rw [HN.out]
          exact ⟨rfl, rfl⟩
    · have hki : ¬ (k : Int) < (s.size : Int) := by omega
      have e : k = s.size := by omega
      subst e
      have HN : Hid (Lx.runN (bl s) = s.size) := by
        have := HR.out
        rw [drop_all] at this
        exact this
      go_wp2_with (fail)
      go_ret
      rw [HN.out]
      exact ⟨rfl, rfl⟩

set_option maxHeartbeats 400000 in
theorem digits_any (s : ByteArray) (w : World) (hs : s.size ≤ 9223372036854775807) :
    Calls Tryd.prog 33 #[.string s] w fun e w' => e = .returned (.int .i64 (Lx.digN (bl s))) ∧ w' = w := by
  go_enter Tryd.func33, Tryd.ntmps33
  go_wp2_with (fail)
  go_loop [6] (fun i => ∃ k : Nat, k ≤ s.size ∧ i = .int .i64 k ∧ Hid (Lx.digN (bl s) = k + Lx.digN ((bl s).drop k))) (fun i => s.size - (intOf i).toNat)
  case atStart => exact ⟨0, Nat.zero_le _, rfl, hideIt (by simp)⟩
  case round =>
    obtain ⟨k, hk, rfl, HR⟩ := hrel
    by_cases hlt : k < s.size
    · have HA := hideIt (bl_at s k hlt)
      have hki : (k : Int) < (s.size : Int) := by omega
      have HD := hideIt (fun w => digit_any s[k] w)
      cases hd : Lx.digit s[k] with
      | true =>
        rw [hd] at HD
        have HN : Hid (Lx.digN (bl s) = k + 1 + Lx.digN ((bl s).drop (k + 1))) := by
          have := HR.out
          rw [HA.out, digN_yes _ hd] at this
          show _ = _
          omega
        clear hd HR HA
        go_wp2_with (go_at_call 38; refine (HD.out _).mono ?_; rintro e w' ⟨rfl, rfl⟩)
        go_round
        case rel => exact ⟨k + 1, by omega, by go_num, HN⟩
        case measure => simp [intOf]; omega
      | false =>
        rw [hd] at HD
        have HN : Hid (Lx.digN (bl s) = k) := by
          have := HR.out
          rw [HA.out, digN_no _ hd] at this
          show _ = _
          omega
        clear hd HR HA
        go_wp2_with (go_at_call 38; refine (HD.out _).mono ?_; rintro e w' ⟨rfl, rfl⟩)
        go_ret
        rw [HN.out]
        exact ⟨rfl, rfl⟩
    · have hki : ¬ (k : Int) < (s.size : Int) := by omega
      have e : k = s.size := by omega
      subst e
      have HN : Hid (Lx.digN (bl s) = s.size) := by
        have := HR.out
        rw [drop_all] at this
        exact this
      go_wp2_with (fail)
      go_ret
      rw [HN.out]
      exact ⟨rfl, rfl⟩

theorem val_snoc (l : List UInt8) (c : UInt8) : Lx.val (l ++ [c]) = Lx.val l * 10 + ((c.toNat : Int) - 48) := by simp [Lx.val]
theorem take_snoc (s : ByteArray) (k : Nat) (h : k < s.size) : (bl s).take (k + 1) = (bl s).take k ++ [s[k]] := by
  rw [List.take_succ_eq_append_getElem (by rw [bl_len]; exact h)]; rfl
theorem digit_num {c : UInt8} (h : Lx.digit c = true) : 48 ≤ c.toNat ∧ c.toNat ≤ 57 := by
  simpa [Lx.digit] using h
theorem val_from (l : List UInt8) : ∀ (a : Int), 0 ≤ a → (∀ c ∈ l, Lx.digit c = true) → 0 ≤ l.foldl (fun v c => v * 10 + ((c.toNat : Int) - 48)) a ∧ l.foldl (fun v c => v * 10 + ((c.toNat : Int) - 48)) a < (a + 1) * 10 ^ l.length := by
  induction l with
  | nil => intro a h _; simp; omega
  | cons c l ih =>
    intro a h hd
    have hc := digit_num (hd c (by simp))
    obtain ⟨i1, i2⟩ := ih (a * 10 + ((c.toNat : Int) - 48)) (by omega) (fun x hx => hd x (by simp [hx]))
    refine ⟨i1, ?_⟩
    have h10 : (0 : Int) < 10 ^ l.length := Int.pow_pos (by decide)
    have hle : (a * 10 + ((c.toNat : Int) - 48) + 1) * 10 ^ l.length ≤ ((a + 1) * 10) * 10 ^ l.length := Int.mul_le_mul_of_nonneg_right (by omega) (by omega)
    have e : (a + 1) * 10 ^ (c :: l).length = ((a + 1) * 10) * 10 ^ l.length := by
      rw [List.length_cons, Int.pow_succ, Int.mul_comm (10 ^ l.length) 10, Int.mul_assoc]
    rw [e]
    exact Int.lt_of_lt_of_le i2 hle
theorem val_bd (l : List UInt8) (h : ∀ c ∈ l, Lx.digit c = true) (hl : l.length ≤ 11) : 0 ≤ Lx.val l ∧ Lx.val l < 100000000000 := by
  obtain ⟨i1, i2⟩ := val_from l 0 (by omega) h
  refine ⟨i1, ?_⟩
  have : (0 + 1) * (10 : Int) ^ l.length ≤ 10 ^ 11 := by
    rw [Int.zero_add, Int.one_mul]
    have h := Nat.pow_le_pow_right (n := 10) (by decide) hl
    exact_mod_cast h
  have e : (10 : Int) ^ 11 = 100000000000 := by decide
  have : Lx.val l < (0 + 1) * (10 : Int) ^ l.length := i2
  omega

set_option maxHeartbeats 400000 in
theorem value_any (s : ByteArray) (w : World) (hs : s.size ≤ 10) (hd : ∀ c ∈ bl s, Lx.digit c = true) :
    Calls Tryd.prog 34 #[.string s] w fun e w' => e = .returned (.int .i64 (Lx.val (bl s))) ∧ w' = w := by
  have HD := hideIt hd
  clear hd
  go_enter Tryd.func34, Tryd.ntmps34
  go_wp2_with (fail)
  go_loop [3, 7] (fun v i => ∃ k : Nat, k ≤ s.size ∧ i = .int .i64 k ∧ v = .int .i64 (Lx.val ((bl s).take k))) (fun _ i => s.size - (intOf i).toNat)
  case atStart => exact ⟨0, Nat.zero_le _, rfl, rfl⟩
  case round =>
    obtain ⟨k, hk, rfl, rfl⟩ := hrel
    by_cases hlt : k < s.size
    · have hki : (k : Int) < (s.size : Int) := by omega
      have hm : s[k] ∈ bl s := by
        have : s[k] = (bl s)[k]'(by rw [bl_len]; exact hlt) := rfl
        rw [this]
        exact List.getElem_mem _
      have hc := digit_num (HD.out _ hm)
      have hb := val_bd ((bl s).take k) (fun c hc => HD.out c (List.mem_of_mem_take hc)) (by rw [List.length_take]; omega)
      have HT : Hid (Lx.val ((bl s).take (k + 1)) = Lx.val ((bl s).take k) * 10 + ((s[k].toNat : Int) - 48)) := by
        show _ = _
        rw [take_snoc s k hlt, val_snoc]
      obtain ⟨v, hv⟩ : ∃ v, Lx.val ((bl s).take k) = v := ⟨_, rfl⟩
      rw [hv] at HT hb ⊢
      have h1 : (48 : Int) ≤ (s[k].toNat : Int) := by omega
      have h2 : (s[k].toNat : Int) ≤ 57 := by omega
      clear hv hm hc
      go_wp2_with (fail)
      go_round
      case rel =>
        refine ⟨k + 1, by omega, by go_num, ?_⟩
        rw [HT.out]
        try rfl
      case measure => simp [intOf]; omega
    · have hki : ¬ (k : Int) < (s.size : Int) := by omega
      have e : k = s.size := by omega
      subst e
      have HN : Hid ((bl s).take s.size = bl s) := List.take_of_length_le (by rw [bl_len]; exact Nat.le_refl _)
      go_wp2_with (fail)
      go_ret
      rw [HN.out]
      exact ⟨rfl, rfl⟩
end Go.Proofs.YtkjkobiliinneaaDoor
