/-
  What the small functions on letters and digits return, in the program and in the document's answer: contracts over the program; no conditions but lengths that fit.
  What the functions on words, types' names and names return, in the program and in the document's answer: contracts over the program; the condition: the two lists of layer 4 lie as its text lays them.
  What the document's Name, the types' spans, and the library's functions on prefixes return: contracts over the program; no conditions but lengths that fit.
-/
import Derived.Test.YtoilhcklflmamaaGreatDoorChecked
import Derived.Test.YtoilhcklflmamaaGreatDoorKPlainC
import Derived.WalkKit
import Derived.WalkSpells
import Derived.WalkLawsBesides
import Derived.Below
import Derived.Lib.Strings
import Derived.Lib.IndexBytes
import Derived.Laws.Rows
import Derived.Lib.Bytealg
namespace Go.Proofs.YtoilhcklflmamaaGreatDoor
open Go.RowKit
set_option linter.unusedVariables false

theorem hideIt {q : Prop} (h : q) : Hid q := h
abbrev Q (w w' : World) : Prop := Below w.heap.size w w'
theorem Q.refl (w : World) : Q w w := Below.refl _ _
theorem Q.trans {a b c : World} (h : Q a b) (k : Q b c) : Q a c := Below.trans h (Below.mono k h.size)
theorem Q.alloc {a w : World} (h : Q a w) (o : Obj) : Q a (w.alloc o) := Below.alloc h h.size o
theorem Q.drew {a w : World} (h : Q a w) : Q a w.drew := Below.drew h
theorem ret_int {k : IntKind} {a b : Int} (h : a = b) : Ending.returned (.int k a) = .returned (.int k b) := by rw [h]
theorem ret_bool {a b : Bool} (h : a = b) : Ending.returned (.bool a) = .returned (.bool b) := by rw [h]
/-- A text's bytes. -/
abbrev bl (s : ByteArray) : List UInt8 := s.data.toList

theorem bl_len (s : ByteArray) : (bl s).length = s.size := (Lib.size_eq s).symm
theorem bl_at (s : ByteArray) (k : Nat) (h : k < s.size) : (bl s).drop k = s[k] :: (bl s).drop (k + 1) := by
  rw [List.drop_eq_getElem_cons (by rw [bl_len]; exact h)]
  rfl

set_option maxHeartbeats 400000 in
theorem letter_any (c : UInt8) (w : World) :
    Calls Tryz.prog 85 #[.int .u8 (c.toNat : Int)] w fun e w' => e = .returned (.bool (Lx.letter c)) ∧ w' = w := by
  have h1 : decide (97 ≤ c.toNat) = decide ((97 : Int) ≤ (c.toNat : Int)) := by rw [decide_eq_decide]; omega
  have h2 : decide (c.toNat ≤ 122) = decide ((c.toNat : Int) ≤ 122) := by rw [decide_eq_decide]; omega
  unfold Lx.letter
  rw [h1, h2]
  clear h1 h2
  by_cases h : (97 : Int) ≤ (c.toNat : Int)
  · have hd : decide ((97 : Int) ≤ (c.toNat : Int)) = true := by simpa using h
    go_enter Tryz.func85, Tryz.ntmps85
    go_wp2
    go_ret
    exact ⟨by simp [h], rfl⟩
  · have hd : decide ((97 : Int) ≤ (c.toNat : Int)) = false := by simpa using h
    go_enter Tryz.func85, Tryz.ntmps85
    go_wp2
    go_ret
    exact ⟨by simp, rfl⟩

set_option maxHeartbeats 400000 in
theorem digit_any (c : UInt8) (w : World) :
    Calls Tryz.prog 86 #[.int .u8 (c.toNat : Int)] w fun e w' => e = .returned (.bool (Lx.digit c)) ∧ w' = w := by
  have h1 : decide (48 ≤ c.toNat) = decide ((48 : Int) ≤ (c.toNat : Int)) := by rw [decide_eq_decide]; omega
  have h2 : decide (c.toNat ≤ 57) = decide ((c.toNat : Int) ≤ 57) := by rw [decide_eq_decide]; omega
  unfold Lx.digit
  rw [h1, h2]
  clear h1 h2
  by_cases h : (48 : Int) ≤ (c.toNat : Int)
  · have hd : decide ((48 : Int) ≤ (c.toNat : Int)) = true := by simpa using h
    go_enter Tryz.func86, Tryz.ntmps86
    go_wp2
    go_ret
    exact ⟨by simp [h], rfl⟩
  · have hd : decide ((48 : Int) ≤ (c.toNat : Int)) = false := by simpa using h
    go_enter Tryz.func86, Tryz.ntmps86
    go_wp2
    go_ret
    exact ⟨by simp, rfl⟩

set_option maxHeartbeats 400000 in
theorem rletter_any (c : UInt8) (w : World) :
    Calls Tryz.prog 38 #[.int .u8 (c.toNat : Int)] w fun e w' => e = .returned (.bool (Lx.letter c)) ∧ w' = w := by
  have h1 : decide (97 ≤ c.toNat) = decide ((97 : Int) ≤ (c.toNat : Int)) := by rw [decide_eq_decide]; omega
  have h2 : decide (c.toNat ≤ 122) = decide ((c.toNat : Int) ≤ 122) := by rw [decide_eq_decide]; omega
  unfold Lx.letter
  rw [h1, h2]
  clear h1 h2
  by_cases h : (97 : Int) ≤ (c.toNat : Int)
  · have hd : decide ((97 : Int) ≤ (c.toNat : Int)) = true := by simpa using h
    go_enter Tryz.func38, Tryz.ntmps38
    go_wp2
    go_ret
    exact ⟨by simp [h], rfl⟩
  · have hd : decide ((97 : Int) ≤ (c.toNat : Int)) = false := by simpa using h
    go_enter Tryz.func38, Tryz.ntmps38
    go_wp2
    go_ret
    exact ⟨by simp, rfl⟩

set_option maxHeartbeats 400000 in
theorem rdigit_any (c : UInt8) (w : World) :
    Calls Tryz.prog 36 #[.int .u8 (c.toNat : Int)] w fun e w' => e = .returned (.bool (Lx.digit c)) ∧ w' = w := by
  have h1 : decide (48 ≤ c.toNat) = decide ((48 : Int) ≤ (c.toNat : Int)) := by rw [decide_eq_decide]; omega
  have h2 : decide (c.toNat ≤ 57) = decide ((c.toNat : Int) ≤ 57) := by rw [decide_eq_decide]; omega
  unfold Lx.digit
  rw [h1, h2]
  clear h1 h2
  by_cases h : (48 : Int) ≤ (c.toNat : Int)
  · have hd : decide ((48 : Int) ≤ (c.toNat : Int)) = true := by simpa using h
    go_enter Tryz.func36, Tryz.ntmps36
    go_wp2
    go_ret
    exact ⟨by simp [h], rfl⟩
  · have hd : decide ((48 : Int) ≤ (c.toNat : Int)) = false := by simpa using h
    go_enter Tryz.func36, Tryz.ntmps36
    go_wp2
    go_ret
    exact ⟨by simp, rfl⟩


theorem begins_nil (w : World) (s : ByteArray) (h : s.size = 0) :
    Calls Tryz.prog 55 #[.string s] w fun e w' => e = .returned (.bool false) ∧ w' = w := by
  have hs : s = ⟨#[]⟩ := by
    have : s.data.toList = [] := List.eq_nil_of_length_eq_zero (by rw [← Lib.size_eq]; exact h)
    rw [← Lib.mk_data s, this]
  subst hs
  go_enter Tryz.func55, Tryz.ntmps55
  go_wp2
  go_ret
  exact ⟨rfl, rfl⟩
theorem begins_cons (w : World) (s : ByteArray) (h : 0 < s.size) :
    Calls Tryz.prog 55 #[.string s] w fun e w' => e = .returned (.bool (Lx.letter s[0])) ∧ w' = w := by
  have hne : s.toList.isEmpty = false := by
    rw [Lib.toList_data, List.isEmpty_eq_false_iff]
    intro e
    have := Lib.size_eq s
    rw [e] at this
    exact absurd (show s.size = 0 from this) (by omega)
  have HC := hideIt (fun w => letter_any s[0] w)
  go_enter Tryz.func55, Tryz.ntmps55
  go_wp2_with (go_at_call 85; refine (HC.out _).mono ?_; rintro e w' ⟨rfl, rfl⟩)
  go_ret
  exact ⟨rfl, rfl⟩
theorem begins_any (w : World) (s : ByteArray) :
    Calls Tryz.prog 55 #[.string s] w fun e w' => e = .returned (.bool (Lx.begins (bl s))) ∧ w' = w := by
  by_cases h : s.size = 0
  · have e : bl s = [] := List.eq_nil_of_length_eq_zero (by rw [bl_len]; exact h)
    rw [e]
    exact begins_nil w s h
  · have e : bl s = s[0] :: (bl s).drop 1 := by simpa using bl_at s 0 (by omega)
    rw [e]
    exact begins_cons w s (by omega)

theorem runN_yes {c : UInt8} (r : List UInt8) (h : Lx.alnum c = true) : Lx.runN (c :: r) = Lx.runN r + 1 := by simp [Lx.runN, h]
theorem runN_no {c : UInt8} (r : List UInt8) (h : Lx.alnum c = false) : Lx.runN (c :: r) = 0 := by simp [Lx.runN, h]
theorem digN_yes {c : UInt8} (r : List UInt8) (h : Lx.digit c = true) : Lx.digN (c :: r) = Lx.digN r + 1 := by simp [Lx.digN, h]
theorem digN_no {c : UInt8} (r : List UInt8) (h : Lx.digit c = false) : Lx.digN (c :: r) = 0 := by simp [Lx.digN, h]
theorem drop_all (s : ByteArray) : (bl s).drop s.size = [] := List.drop_eq_nil_of_le (by rw [bl_len]; exact Nat.le_refl _)

set_option maxHeartbeats 400000 in
theorem run_any (s : ByteArray) (w : World) (hs : s.size ≤ 9223372036854775807) :
    Calls Tryz.prog 56 #[.string s] w fun e w' => e = .returned (.int .i64 (Lx.runN (bl s))) ∧ w' = w := by
  go_enter Tryz.func56, Tryz.ntmps56
  go_wp2_with (fail)
  go_loop [6] (fun i => ∃ k : Nat, k ≤ s.size ∧ i = .int .i64 k ∧ Hid (Lx.runN (bl s) = k + Lx.runN ((bl s).drop k))) (fun i => s.size - (intOf i).toNat)
  case atStart => exact ⟨0, Nat.zero_le _, rfl, hideIt (by simp)⟩
  case round =>
    obtain ⟨k, hk, rfl, HR⟩ := hrel
    by_cases hlt : k < s.size
    · have HA := hideIt (bl_at s k hlt)
      have hki : (k : Int) < (s.size : Int) := by omega
      have HL := hideIt (fun w => letter_any s[k] w)
      have HD := hideIt (fun w => digit_any s[k] w)
      cases hl : Lx.letter s[k] with
      | true =>
        rw [hl] at HL
        have HN : Hid (Lx.runN (bl s) = k + 1 + Lx.runN ((bl s).drop (k + 1))) := by
          have := HR.out
          rw [HA.out, runN_yes _ (Lx.letter_alnum hl)] at this
          show _ = _
          omega
        clear hl HD HR HA
        go_wp2_with (first | (go_at_call 85; refine (HL.out _).mono ?_; rintro e w' ⟨rfl, rfl⟩) | (go_at_call 86; refine (HD.out _).mono ?_; rintro e w' ⟨rfl, rfl⟩))
        go_round
        case rel => exact ⟨k + 1, by omega, by go_num, HN⟩
        case measure => simp [intOf]; omega
      | false =>
        rw [hl] at HL
        cases hd : Lx.digit s[k] with
        | true =>
          rw [hd] at HD
          have HN : Hid (Lx.runN (bl s) = k + 1 + Lx.runN ((bl s).drop (k + 1))) := by
            have := HR.out
            rw [HA.out, runN_yes _ (Lx.digit_alnum hd)] at this
            show _ = _
            omega
          clear hl hd HR HA
          go_wp2_with (first | (go_at_call 85; refine (HL.out _).mono ?_; rintro e w' ⟨rfl, rfl⟩) | (go_at_call 86; refine (HD.out _).mono ?_; rintro e w' ⟨rfl, rfl⟩))
          go_round
          case rel => exact ⟨k + 1, by omega, by go_num, HN⟩
          case measure => simp [intOf]; omega
        | false =>
          rw [hd] at HD
          have HN : Hid (Lx.runN (bl s) = k) := by
            have := HR.out
            rw [HA.out, runN_no _ (by simp [Lx.alnum, hl, hd])] at this
            show _ = _
            omega
          clear hl hd HR HA
          go_wp2_with (first | (go_at_call 85; refine (HL.out _).mono ?_; rintro e w' ⟨rfl, rfl⟩) | (go_at_call 86; refine (HD.out _).mono ?_; rintro e w' ⟨rfl, rfl⟩))
          go_ret
          rw [HN.out]
          exact ⟨rfl, rfl⟩
    · have hki : ¬ (k : Int) < (s.size : Int) := by omega
      have e : k = s.size := by omega
      subst e
      have HN : Hid (Lx.runN (bl s) = s.size) := by
        have := HR.out
        rw [drop_all] at this
        exact this
      go_wp2_with (fail)
      go_ret
      rw [HN.out]
      exact ⟨rfl, rfl⟩

set_option maxHeartbeats 400000 in
theorem digits_any (s : ByteArray) (w : World) (hs : s.size ≤ 9223372036854775807) :
    Calls Tryz.prog 60 #[.string s] w fun e w' => e = .returned (.int .i64 (Lx.digN (bl s))) ∧ w' = w := by
  go_enter Tryz.func60, Tryz.ntmps60
  go_wp2_with (fail)
  go_loop [6] (fun i => ∃ k : Nat, k ≤ s.size ∧ i = .int .i64 k ∧ Hid (Lx.digN (bl s) = k + Lx.digN ((bl s).drop k))) (fun i => s.size - (intOf i).toNat)
  case atStart => exact ⟨0, Nat.zero_le _, rfl, hideIt (by simp)⟩
  case round =>
    obtain ⟨k, hk, rfl, HR⟩ := hrel
    by_cases hlt : k < s.size
    · have HA := hideIt (bl_at s k hlt)
      have hki : (k : Int) < (s.size : Int) := by omega
      have HD := hideIt (fun w => digit_any s[k] w)
      cases hd : Lx.digit s[k] with
      | true =>
        rw [hd] at HD
        have HN : Hid (Lx.digN (bl s) = k + 1 + Lx.digN ((bl s).drop (k + 1))) := by
          have := HR.out
          rw [HA.out, digN_yes _ hd] at this
          show _ = _
          omega
        clear hd HR HA
        go_wp2_with (go_at_call 86; refine (HD.out _).mono ?_; rintro e w' ⟨rfl, rfl⟩)
        go_round
        case rel => exact ⟨k + 1, by omega, by go_num, HN⟩
        case measure => simp [intOf]; omega
      | false =>
        rw [hd] at HD
        have HN : Hid (Lx.digN (bl s) = k) := by
          have := HR.out
          rw [HA.out, digN_no _ hd] at this
          show _ = _
          omega
        clear hd HR HA
        go_wp2_with (go_at_call 86; refine (HD.out _).mono ?_; rintro e w' ⟨rfl, rfl⟩)
        go_ret
        rw [HN.out]
        exact ⟨rfl, rfl⟩
    · have hki : ¬ (k : Int) < (s.size : Int) := by omega
      have e : k = s.size := by omega
      subst e
      have HN : Hid (Lx.digN (bl s) = s.size) := by
        have := HR.out
        rw [drop_all] at this
        exact this
      go_wp2_with (fail)
      go_ret
      rw [HN.out]
      exact ⟨rfl, rfl⟩

theorem val_snoc (l : List UInt8) (c : UInt8) : Lx.val (l ++ [c]) = Lx.val l * 10 + ((c.toNat : Int) - 48) := by simp [Lx.val]
theorem take_snoc (s : ByteArray) (k : Nat) (h : k < s.size) : (bl s).take (k + 1) = (bl s).take k ++ [s[k]] := by
  rw [List.take_succ_eq_append_getElem (by rw [bl_len]; exact h)]; rfl
theorem digit_num {c : UInt8} (h : Lx.digit c = true) : 48 ≤ c.toNat ∧ c.toNat ≤ 57 := by
  simpa [Lx.digit] using h
theorem val_from (l : List UInt8) : ∀ (a : Int), 0 ≤ a → (∀ c ∈ l, Lx.digit c = true) → 0 ≤ l.foldl (fun v c => v * 10 + ((c.toNat : Int) - 48)) a ∧ l.foldl (fun v c => v * 10 + ((c.toNat : Int) - 48)) a < (a + 1) * 10 ^ l.length := by
  induction l with
  | nil => intro a h _; simp; omega
  | cons c l ih =>
    intro a h hd
    have hc := digit_num (hd c (by simp))
    obtain ⟨i1, i2⟩ := ih (a * 10 + ((c.toNat : Int) - 48)) (by omega) (fun x hx => hd x (by simp [hx]))
    refine ⟨i1, ?_⟩
    have h10 : (0 : Int) < 10 ^ l.length := Int.pow_pos (by decide)
    have hle : (a * 10 + ((c.toNat : Int) - 48) + 1) * 10 ^ l.length ≤ ((a + 1) * 10) * 10 ^ l.length := Int.mul_le_mul_of_nonneg_right (by omega) (by omega)
    have e : (a + 1) * 10 ^ (c :: l).length = ((a + 1) * 10) * 10 ^ l.length := by
      rw [List.length_cons, Int.pow_succ, Int.mul_comm (10 ^ l.length) 10, Int.mul_assoc]
    rw [e]
    exact Int.lt_of_lt_of_le i2 hle
theorem val_bd (l : List UInt8) (h : ∀ c ∈ l, Lx.digit c = true) (hl : l.length ≤ 11) : 0 ≤ Lx.val l ∧ Lx.val l < 100000000000 := by
  obtain ⟨i1, i2⟩ := val_from l 0 (by omega) h
  refine ⟨i1, ?_⟩
  have : (0 + 1) * (10 : Int) ^ l.length ≤ 10 ^ 11 := by
    rw [Int.zero_add, Int.one_mul]
    have h := Nat.pow_le_pow_right (n := 10) (by decide) hl
    exact_mod_cast h
  have e : (10 : Int) ^ 11 = 100000000000 := by decide
  have : Lx.val l < (0 + 1) * (10 : Int) ^ l.length := i2
  omega

set_option maxHeartbeats 400000 in
theorem value_any (s : ByteArray) (w : World) (hs : s.size ≤ 10) (hd : ∀ c ∈ bl s, Lx.digit c = true) :
    Calls Tryz.prog 62 #[.string s] w fun e w' => e = .returned (.int .i64 (Lx.val (bl s))) ∧ w' = w := by
  have HD := hideIt hd
  clear hd
  go_enter Tryz.func62, Tryz.ntmps62
  go_wp2_with (fail)
  go_loop [3, 7] (fun v i => ∃ k : Nat, k ≤ s.size ∧ i = .int .i64 k ∧ v = .int .i64 (Lx.val ((bl s).take k))) (fun _ i => s.size - (intOf i).toNat)
  case atStart => exact ⟨0, Nat.zero_le _, rfl, rfl⟩
  case round =>
    obtain ⟨k, hk, rfl, rfl⟩ := hrel
    by_cases hlt : k < s.size
    · have hki : (k : Int) < (s.size : Int) := by omega
      have hm : s[k] ∈ bl s := by
        have : s[k] = (bl s)[k]'(by rw [bl_len]; exact hlt) := rfl
        rw [this]
        exact List.getElem_mem _
      have hc := digit_num (HD.out _ hm)
      have hb := val_bd ((bl s).take k) (fun c hc => HD.out c (List.mem_of_mem_take hc)) (by rw [List.length_take]; omega)
      have HT : Hid (Lx.val ((bl s).take (k + 1)) = Lx.val ((bl s).take k) * 10 + ((s[k].toNat : Int) - 48)) := by
        show _ = _
        rw [take_snoc s k hlt, val_snoc]
      obtain ⟨v, hv⟩ : ∃ v, Lx.val ((bl s).take k) = v := ⟨_, rfl⟩
      rw [hv] at HT hb ⊢
      have h1 : (48 : Int) ≤ (s[k].toNat : Int) := by omega
      have h2 : (s[k].toNat : Int) ≤ 57 := by omega
      clear hv hm hc
      go_wp2_with (fail)
      go_round
      case rel =>
        refine ⟨k + 1, by omega, by go_num, ?_⟩
        rw [HT.out]
        try rfl
      case measure => simp [intOf]; omega
    · have hki : ¬ (k : Int) < (s.size : Int) := by omega
      have e : k = s.size := by omega
      subst e
      have HN : Hid ((bl s).take s.size = bl s) := List.take_of_length_le (by rw [bl_len]; exact Nat.le_refl _)
      go_wp2_with (fail)
      go_ret
      rw [HN.out]
      exact ⟨rfl, rfl⟩
end Go.Proofs.YtoilhcklflmamaaGreatDoor

namespace Go.Proofs.YtoilhcklflmamaaGreatDoor
open Go.RowKit
set_option linter.unusedVariables false

/-- A list of texts as values. -/
abbrev strs (l : List (List UInt8)) : Array Value := (l.map fun x => Value.string ⟨x.toArray⟩).toArray
/-- The words and the signs, in the order in which the program has them. -/
def words : List (List UInt8) := Lx.keys ++ Lx.types
def signs : List (List UInt8) := Lx.twos ++ Lx.ones.map fun c => [c]
/-- The two lists lie in memory. -/
structure Laid (w : World) : Prop where
  words : ∃ t fr, w.heap[2]? = some (.cells (strs words) t fr)
  signs : ∃ t fr, w.heap[1]? = some (.cells (strs signs) t fr)
theorem lt_of_heap {w : World} {b : Nat} {o : Obj} (h : w.heap[b]? = some o) : b < w.heap.size := by
  by_cases hb : b < w.heap.size
  · exact hb
  · rw [Array.getElem?_eq_none (by omega)] at h; cases h
theorem Laid.keep {w w' : World} (h : Laid w) (q : Q w w') : Laid w' := by
  obtain ⟨⟨t, fr, h1⟩, ⟨t', fr', h2⟩⟩ := h
  exact ⟨⟨t, fr, (q.block _ (lt_of_heap h1)).trans h1⟩, ⟨t', fr', (q.block _ (lt_of_heap h2)).trans h2⟩⟩

set_option maxRecDepth 100000 in
theorem idx13 (k : Nat) (h : k < 13) (w : World) : (Instr.index 98 (.agg (strs words)) (.int .i64 (k : Int))).run Tryz.prog w = .ok (.string ⟨(words.getD k []).toArray⟩) w := by
  have hk : k = 0 ∨ k = 1 ∨ k = 2 ∨ k = 3 ∨ k = 4 ∨ k = 5 ∨ k = 6 ∨ k = 7 ∨ k = 8 ∨ k = 9 ∨ k = 10 ∨ k = 11 ∨ k = 12 := by omega
  clear h
  rcases hk with rfl | rfl | rfl | rfl | rfl | rfl | rfl | rfl | rfl | rfl | rfl | rfl | rfl <;> rfl
set_option maxRecDepth 100000 in
theorem idx32 (k : Nat) (h : k < 32) (w : World) : (Instr.index 87 (.agg (strs signs)) (.int .i64 (k : Int))).run Tryz.prog w = .ok (.string ⟨(signs.getD k []).toArray⟩) w := by
  have hk : k = 0 ∨ k = 1 ∨ k = 2 ∨ k = 3 ∨ k = 4 ∨ k = 5 ∨ k = 6 ∨ k = 7 ∨ k = 8 ∨ k = 9 ∨ k = 10 ∨ k = 11 ∨ k = 12 ∨ k = 13 ∨ k = 14 ∨ k = 15 ∨ k = 16 ∨ k = 17 ∨ k = 18 ∨ k = 19 ∨ k = 20 ∨ k = 21 ∨ k = 22 ∨ k = 23 ∨ k = 24 ∨ k = 25 ∨ k = 26 ∨ k = 27 ∨ k = 28 ∨ k = 29 ∨ k = 30 ∨ k = 31 := by omega
  clear h
  rcases hk with rfl | rfl | rfl | rfl | rfl | rfl | rfl | rfl | rfl | rfl | rfl | rfl | rfl | rfl | rfl | rfl | rfl | rfl | rfl | rfl | rfl | rfl | rfl | rfl | rfl | rfl | rfl | rfl | rfl | rfl | rfl | rfl <;> rfl
theorem words_len : words.length = 13 := rfl
theorem toList_eq_iff (a b : ByteArray) : (a.toList == b.toList) = (bl a == bl b) := by rw [Lib.toList_data, Lib.toList_data]

/-- Is a text one of a list from a place on? -/
def hasFrom (l : List (List UInt8)) (k : Nat) (x : List UInt8) : Bool := (l.drop k).contains x
theorem drop_getD {l : List (List UInt8)} {k : Nat} (h : k < l.length) : l.drop k = l.getD k [] :: l.drop (k + 1) := by
  rw [List.drop_eq_getElem_cons h, List.getD_eq_getElem?_getD, List.getElem?_eq_getElem h]
  rfl
theorem hasFrom_yes {l : List (List UInt8)} {k : Nat} {x : List UInt8} (h : k < l.length) (e : (x == l.getD k []) = true) : hasFrom l k x = true := by
  unfold hasFrom
  rw [drop_getD h, List.contains_cons, e, Bool.true_or]
theorem hasFrom_no {l : List (List UInt8)} {k : Nat} {x : List UInt8} (h : k < l.length) (e : (x == l.getD k []) = false) : hasFrom l k x = hasFrom l (k + 1) x := by
  unfold hasFrom
  rw [drop_getD h, List.contains_cons, e, Bool.false_or]
theorem hasFrom_end {l : List (List UInt8)} {x : List UInt8} : hasFrom l l.length x = false := by simp [hasFrom]

set_option maxHeartbeats 400000 in
theorem word_any (s : ByteArray) (w : World) (hL : Laid w) :
    Calls Tryz.prog 57 #[.string s] w fun e w' => e = .returned (.bool (Lx.wordB (bl s))) ∧ w' = w := by
  obtain ⟨⟨t, fr, hw⟩, _⟩ := hL
  have e0 : Lx.wordB (bl s) = hasFrom words 0 (bl s) := rfl
  rw [e0]
  have HW := hideIt hw
  clear hw e0
  go_enter Tryz.func57, Tryz.ntmps57
  go_wp2_with (refine wpList_load_row rfl 98 _ rfl 2 rfl _ _ _ _ HW.out Tryz.underlying98 rfl (by kernel_rfl) ?_)
  go_loop [6] (fun i => ∃ k : Nat, k ≤ 13 ∧ i = .int .i64 k ∧ Hid (hasFrom words 0 (bl s) = hasFrom words k (bl s))) (fun i => 13 - (intOf i).toNat)
  case atStart => exact ⟨0, Nat.zero_le _, rfl, rfl⟩
  case round =>
    obtain ⟨k, hk, rfl, HR⟩ := hrel
    by_cases hlt : k < 13
    · have hki : (k : Int) < 13 := by omega
      have hix := fun w => idx13 k hlt w
      obtain ⟨x, hx⟩ : ∃ x, words.getD k [] = x := ⟨_, rfl⟩
      rw [hx] at hix
      cases hb : bl s == x with
      | true =>
        have HN : Hid (hasFrom words 0 (bl s) = true) := by
          show _ = _
          rw [HR.out, hasFrom_yes (by rw [words_len]; exact hlt) (by rw [hx]; exact hb)]
        have hbb : (s.toList == x) = true := by rw [Lib.toList_data]; exact hb
        clear hb hx HR
        go_wp2_with (fail)
        go_ret
        rw [HN.out]
        exact ⟨rfl, rfl⟩
      | false =>
        have HN : Hid (hasFrom words 0 (bl s) = hasFrom words (k + 1) (bl s)) := by
          show _ = _
          rw [HR.out, hasFrom_no (by rw [words_len]; exact hlt) (by rw [hx]; exact hb)]
        have hbb : (s.toList == x) = false := by rw [Lib.toList_data]; exact hb
        clear hb hx HR
        go_wp2_with (fail)
        go_round
        case rel => exact ⟨k + 1, by omega, by go_num, HN⟩
        case measure => simp [intOf]; omega
    · have e : k = 13 := by omega
      subst e
      go_wp2_with (fail)
      go_ret
      have := HR.out
      rw [this]
      exact ⟨rfl, rfl⟩

/-- The place of a type's name from a place on. -/
def intFrom (j : Nat) (l : List UInt8) : Nat := (Lx.types.drop j).findIdx (· == l) + j
theorem intFrom_zero (l : List UInt8) : Lx.intT l = intFrom 0 l := rfl
theorem intFrom_yes {j : Nat} {l : List UInt8} (h : j < 6) (e : (l == Lx.types.getD j []) = true) : intFrom j l = j := by
  unfold intFrom
  rw [drop_getD (l := Lx.types) h]
  simp only [List.findIdx_cons]
  rw [BEq.comm] at e
  rw [e]
  simp
theorem intFrom_no {j : Nat} {l : List UInt8} (h : j < 6) (e : (l == Lx.types.getD j []) = false) : intFrom j l = intFrom (j + 1) l := by
  unfold intFrom
  rw [drop_getD (l := Lx.types) h]
  simp only [List.findIdx_cons]
  rw [BEq.comm] at e
  rw [e]
  simp only [cond_false]
  omega
theorem intFrom_end {l : List UInt8} : intFrom 6 l = 6 := rfl
theorem words_type (k : Nat) (h : 7 ≤ k) (h' : k < 13) : words.getD k [] = Lx.types.getD (k - 7) [] := by
  rcases (show k = 7 ∨ k = 8 ∨ k = 9 ∨ k = 10 ∨ k = 11 ∨ k = 12 by omega) with rfl | rfl | rfl | rfl | rfl | rfl <;> rfl
theorem intT_le (l : List UInt8) : Lx.intT l ≤ 6 := List.findIdx_le_length

/-- What Int answers. -/
def intV (l : List UInt8) : Int := if Lx.intT l < 6 then (Lx.intT l : Int) else 0
def intB (l : List UInt8) : Bool := decide (Lx.intT l < 6)
set_option maxHeartbeats 400000 in
theorem int_any (s : ByteArray) (w : World) (hL : Laid w) :
    Calls Tryz.prog 61 #[.string s] w fun e w' => e = .returned (.tuple #[.int .u8 (intV (bl s)), .bool (intB (bl s))]) ∧ w' = w := by
  obtain ⟨⟨t, fr, hw⟩, _⟩ := hL
  have HW := hideIt hw
  clear hw
  go_enter Tryz.func61, Tryz.ntmps61
  go_wp2_with (refine wpList_load_row rfl 98 _ rfl 2 rfl _ _ _ _ HW.out Tryz.underlying98 rfl (by kernel_rfl) ?_)
  go_loop [7] (fun i => ∃ k : Nat, k ≤ 13 ∧ i = .int .i64 k ∧ Hid (intFrom 0 (bl s) = intFrom (k - 7) (bl s))) (fun i => 13 - (intOf i).toNat)
  case atStart => exact ⟨0, Nat.zero_le _, rfl, rfl⟩
  case round =>
    obtain ⟨k, hk, rfl, HR⟩ := hrel
    by_cases hlt : k < 13
    · have hki : (k : Int) < 13 := by omega
      have hix := fun w => idx13 k hlt w
      obtain ⟨x, hx⟩ : ∃ x, words.getD k [] = x := ⟨_, rfl⟩
      rw [hx] at hix
      by_cases h7 : 7 ≤ k
      · have hd7 : decide ((7 : Int) ≤ (k : Int)) = true := by simp; omega
        rw [words_type k h7 hlt] at hx
        cases hb : bl s == x with
        | true =>
          have HN : Hid (intV (bl s) = (k : Int) - 7 ∧ intB (bl s) = true) := by
            have h0 : Lx.intT (bl s) = k - 7 := by rw [intFrom_zero, HR.out, intFrom_yes (by omega) (by rw [hx]; exact hb)]
            refine ⟨?_, ?_⟩
            · unfold intV; rw [h0, if_pos (by omega)]; omega
            · unfold intB; rw [h0]; simp; omega
          have hbb : (s.toList == x) = true := by rw [Lib.toList_data]; exact hb
          clear hb hx HR
          go_wp2_with (fail)
          go_ret2
          rw [HN.out.1, HN.out.2]
          exact ⟨rfl, rfl⟩
        | false =>
          have HN : Hid (intFrom 0 (bl s) = intFrom (k + 1 - 7) (bl s)) := by
            show _ = _
            rw [HR.out, intFrom_no (by omega) (by rw [hx]; exact hb), show k - 7 + 1 = k + 1 - 7 by omega]
          have hbb : (s.toList == x) = false := by rw [Lib.toList_data]; exact hb
          clear hb hx HR
          go_wp2_with (fail)
          go_round
          case rel => exact ⟨k + 1, by omega, by go_num, HN⟩
          case measure => simp [intOf]; omega
      · have hd7 : decide ((7 : Int) ≤ (k : Int)) = false := by simp; omega
        have HN : Hid (intFrom 0 (bl s) = intFrom (k + 1 - 7) (bl s)) := by
          show _ = _
          rw [HR.out, show k - 7 = k + 1 - 7 by omega]
        clear hx HR
        go_wp2_with (fail)
        go_round
        case rel => exact ⟨k + 1, by omega, by go_num, HN⟩
        case measure => simp [intOf]; omega
    · have e : k = 13 := by omega
      subst e
      have HN : Hid (intV (bl s) = 0 ∧ intB (bl s) = false) := by
        have h0 : Lx.intT (bl s) = 6 := by rw [intFrom_zero, HR.out]; rfl
        refine ⟨?_, ?_⟩
        · unfold intV; rw [h0]; rfl
        · unfold intB; rw [h0]; rfl
      clear HR
      go_wp2_with (fail)
      go_ret2
      rw [HN.out.1, HN.out.2]
      exact ⟨rfl, rfl⟩

set_option maxHeartbeats 400000 in
theorem name_any (s : ByteArray) (w : World) (hs : s.size ≤ 9223372036854775807) (hL : Laid w) :
    Calls Tryz.prog 58 #[.string s] w fun e w' => e = .returned (.bool (Lx.nameB (bl s))) ∧ w' = w := by
  have HB := hideIt (fun w => begins_any w s)
  have HR := hideIt (fun w => run_any s w hs)
  have HW := hideIt (word_any s w hL)
  have hr := Lx.runN_le (bl s)
  rw [bl_len] at hr
  unfold Lx.nameB
  rw [bl_len]
  generalize hb : Lx.begins (bl s) = b at HB ⊢
  generalize hn : Lx.runN (bl s) = n at HR hr ⊢
  generalize hwd : Lx.wordB (bl s) = wd at HW ⊢
  clear hb hn hwd
  by_cases h8 : s.size ≤ 8
  · have hd8 : decide ((s.size : Int) ≤ 8) = true := by simp; omega
    rw [decide_eq_true h8]
    cases b with
    | false =>
      go_enter Tryz.func58, Tryz.ntmps58
      go_wp2_with (first | (go_at_call 55; refine (HB.out _).mono ?_; rintro e w' ⟨rfl, rfl⟩))
      go_ret
      exact ⟨rfl, rfl⟩
    | true =>
      by_cases he : n = s.size
      · have hde : ((n : Int) == (s.size : Int)) = true := by simp; omega
        rw [decide_eq_true he]
        go_enter Tryz.func58, Tryz.ntmps58
        go_wp2_with (first | (go_at_call 55; refine (HB.out _).mono ?_; rintro e w' ⟨rfl, rfl⟩) | (go_at_call 56; refine (HR.out _).mono ?_; rintro e w' ⟨rfl, rfl⟩) | (go_at_call 57; refine HW.out.mono ?_; rintro e w' ⟨rfl, rfl⟩))
        go_ret
        exact ⟨rfl, rfl⟩
      · have hde : ((n : Int) == (s.size : Int)) = false := by simp; omega
        rw [decide_eq_false he]
        go_enter Tryz.func58, Tryz.ntmps58
        go_wp2_with (first | (go_at_call 55; refine (HB.out _).mono ?_; rintro e w' ⟨rfl, rfl⟩) | (go_at_call 56; refine (HR.out _).mono ?_; rintro e w' ⟨rfl, rfl⟩) | (go_at_call 57; refine HW.out.mono ?_; rintro e w' ⟨rfl, rfl⟩))
        go_ret
        exact ⟨rfl, rfl⟩
  · have hd8 : decide ((s.size : Int) ≤ 8) = false := by simp; omega
    rw [decide_eq_false h8]
    go_enter Tryz.func58, Tryz.ntmps58
    go_wp2_with (fail)
    go_ret
    exact ⟨rfl, rfl⟩

theorem cell_box {X : World} (cs : Array Value) (t : TypeId) (j : Nat) : (X.alloc (.cells cs t)).cell? ⟨X.heap.size, j, none⟩ = cs[j]? := by
  have h : (X.alloc (.cells cs t (0, 0))).heap[X.heap.size]? = some (.cells cs t (0, 0)) := heap_alloc_new X _
  unfold World.cell?
  rw [h]
  rfl
/-! ### The document's answer -/
def rwords : List (List UInt8) := Lx.types ++ Lx.keys
set_option maxHeartbeats 400000 in
theorem rwords_any (w : World) :
    Calls Tryz.prog 76 #[] w fun e w' => e = .returned (.slice (some ⟨w.heap.size, 0, none⟩) 13 13) ∧ (∀ k, k < 13 → w'.cell? ⟨w.heap.size, k, none⟩ = some (.string ⟨(rwords.getD k []).toArray⟩)) ∧ Q w w' := by
  go_enter Tryz.func76, Tryz.ntmps76
  go_wp2
  go_ret
  refine ⟨rfl, fun k hk => ?_, (Q.refl _).alloc _⟩
  rcases (show k = 0 ∨ k = 1 ∨ k = 2 ∨ k = 3 ∨ k = 4 ∨ k = 5 ∨ k = 6 ∨ k = 7 ∨ k = 8 ∨ k = 9 ∨ k = 10 ∨ k = 11 ∨ k = 12 by omega) with rfl | rfl | rfl | rfl | rfl | rfl | rfl | rfl | rfl | rfl | rfl | rfl | rfl <;> (rw [cell_box]; rfl)

set_option maxHeartbeats 400000 in
theorem rword_any (s : ByteArray) (w : World) :
    Calls Tryz.prog 40 #[.string s] w fun e w' => e = .returned (.bool (Lx.wordB (bl s))) ∧ Q w w' := by
  have HW := hideIt (rwords_any w)
  have e0 : Lx.wordB (bl s) = hasFrom rwords 0 (bl s) := by
    unfold Lx.wordB hasFrom rwords
    rw [List.drop_zero, Bool.eq_iff_iff]
    simp only [List.contains_iff_mem, List.mem_append]
    exact Or.comm
  rw [e0]
  clear e0
  go_enter Tryz.func40, Tryz.ntmps40
  go_wp2_with (go_at_call 76; refine HW.out.mono ?_; rintro e x ⟨rfl, hc, q⟩; have HC := hideIt hc; have HQ := hideIt q; clear hc q)
  clear HW
  go_loopw [4] (fun i wr => ∃ k : Nat, k ≤ 13 ∧ i = .int .i64 k ∧ Hid (hasFrom rwords 0 (bl s) = hasFrom rwords k (bl s)) ∧ wr = x) (fun i _ => 13 - (intOf i).toNat)
  case atStart => exact ⟨0, Nat.zero_le _, rfl, rfl, rfl⟩
  case round =>
    obtain ⟨k, hk, rfl, HR, rfl⟩ := hrel
    by_cases hlt : k < 13
    · have hki : (k : Int) < 13 := by omega
      have hcell := HC.out k hlt
      obtain ⟨x, hx⟩ : ∃ x, rwords.getD k [] = x := ⟨_, rfl⟩
      rw [hx] at hcell
      cases hb : bl s == x with
      | true =>
        have HN : Hid (hasFrom rwords 0 (bl s) = true) := by
          show _ = _
          rw [HR.out, hasFrom_yes (l := rwords) hlt (by rw [hx]; exact hb)]
        have hbb : (x == s.toList) = true := by rw [Lib.toList_data, BEq.comm]; exact hb
        clear hb hx HR
        go_wp2_with (fail)
        go_ret
        rw [HN.out]
        exact ⟨rfl, HQ.out⟩
      | false =>
        have HN : Hid (hasFrom rwords 0 (bl s) = hasFrom rwords (k + 1) (bl s)) := by
          show _ = _
          rw [HR.out, hasFrom_no (l := rwords) hlt (by rw [hx]; exact hb)]
        have hbb : (x == s.toList) = false := by rw [Lib.toList_data, BEq.comm]; exact hb
        clear hb hx HR
        go_wp2_with (fail)
        go_roundw
        case rel => exact ⟨k + 1, by omega, by go_num, HN, by first | rfl | trivial⟩
        case measure => simp [intOf]; omega
    · have e : k = 13 := by omega
      subst e
      go_wp2_with (fail)
      go_ret
      have := HR.out
      rw [this]
      exact ⟨rfl, HQ.out⟩

/-- What the document's Int answers. -/
def rintV (l : List UInt8) : Int := if Lx.intT l < 6 then (Lx.intT l : Int) else -1
set_option maxHeartbeats 400000 in
theorem rint_any (s : ByteArray) (w : World) :
    Calls Tryz.prog 74 #[.string s] w fun e w' => e = .returned (.int .i64 (rintV (bl s))) ∧ Q w w' := by
  have HW := hideIt (rwords_any w)
  go_enter Tryz.func74, Tryz.ntmps74
  go_wp2_with (go_at_call 76; refine HW.out.mono ?_; rintro e x ⟨rfl, hc, q⟩; have HC := hideIt hc; have HQ := hideIt q; clear hc q)
  clear HW
  go_loopw [4] (fun i wr => ∃ k : Nat, k ≤ 6 ∧ i = .int .i64 k ∧ Hid (intFrom 0 (bl s) = intFrom k (bl s)) ∧ wr = x) (fun i _ => 6 - (intOf i).toNat)
  case atStart => exact ⟨0, Nat.zero_le _, rfl, rfl, rfl⟩
  case round =>
    obtain ⟨k, hk, rfl, HR, rfl⟩ := hrel
    by_cases hlt : k < 6
    · have hki : (k : Int) < 6 := by omega
      have hcell := HC.out k (by omega)
      have hrt : rwords.getD k [] = Lx.types.getD k [] := by
        rcases (show k = 0 ∨ k = 1 ∨ k = 2 ∨ k = 3 ∨ k = 4 ∨ k = 5 by omega) with rfl | rfl | rfl | rfl | rfl | rfl <;> rfl
      rw [hrt] at hcell
      obtain ⟨x, hx⟩ : ∃ x, Lx.types.getD k [] = x := ⟨_, rfl⟩
      rw [hx] at hcell
      clear hrt
      cases hb : bl s == x with
      | true =>
        have HN : Hid (rintV (bl s) = (k : Int)) := by
          have h0 : Lx.intT (bl s) = k := by rw [intFrom_zero, HR.out, intFrom_yes hlt (by rw [hx]; exact hb)]
          show _ = _
          unfold rintV
          rw [h0, if_pos hlt]
        have hbb : (x == s.toList) = true := by rw [Lib.toList_data, BEq.comm]; exact hb
        clear hb hx HR
        go_wp2_with (fail)
        go_ret
        rw [HN.out]
        exact ⟨rfl, HQ.out⟩
      | false =>
        have HN : Hid (intFrom 0 (bl s) = intFrom (k + 1) (bl s)) := by
          show _ = _
          rw [HR.out, intFrom_no hlt (by rw [hx]; exact hb)]
        have hbb : (x == s.toList) = false := by rw [Lib.toList_data, BEq.comm]; exact hb
        clear hb hx HR
        go_wp2_with (fail)
        go_roundw
        case rel => exact ⟨k + 1, by omega, by go_num, HN, by first | rfl | trivial⟩
        case measure => simp [intOf]; omega
    · have e : k = 6 := by omega
      subst e
      have HN : Hid (rintV (bl s) = -1) := by
        have h0 : Lx.intT (bl s) = 6 := by rw [intFrom_zero, HR.out]; rfl
        show _ = _
        unfold rintV
        rw [h0]
        rfl
      clear HR
      go_wp2_with (fail)
      go_ret
      rw [HN.out]
      exact ⟨rfl, HQ.out⟩

set_option maxHeartbeats 400000 in
theorem rrun_any (s : ByteArray) (i : Nat) (w : World) (hs : s.size ≤ 9223372036854775806) (hi : i ≤ s.size) :
    Calls Tryz.prog 39 #[.string s, .int .i64 i] w fun e w' => e = .returned (.int .i64 ((i + Lx.runN ((bl s).drop i) : Nat) : Int)) ∧ w' = w := by
  obtain ⟨R, hR⟩ : ∃ R, i + Lx.runN ((bl s).drop i) = R := ⟨_, rfl⟩
  rw [hR]
  have HR0 := hideIt hR.symm
  clear hR
  go_enter Tryz.func39, Tryz.ntmps39
  go_wp2_with (fail)
  go_loop [1] (fun v => ∃ k : Nat, k ≤ s.size ∧ v = .int .i64 k ∧ Hid (R = k + Lx.runN ((bl s).drop k))) (fun v => s.size - (intOf v).toNat)
  case atStart => exact ⟨i, hi, rfl, HR0⟩
  case round =>
    obtain ⟨k, hk, rfl, HR⟩ := hrel
    by_cases hlt : k < s.size
    · have HA := hideIt (bl_at s k hlt)
      have hki : (k : Int) < (s.size : Int) := by omega
      have hkd : decide ((k : Int) < (s.size : Int)) = true := by simp; omega
      have HL := hideIt (fun w => rletter_any s[k] w)
      have HD := hideIt (fun w => rdigit_any s[k] w)
      have HN : Lx.alnum s[k] = true → Hid (R = k + 1 + Lx.runN ((bl s).drop (k + 1))) := by
        intro h
        have := HR.out
        rw [HA.out, runN_yes _ h] at this
        show _ = _
        omega
      have HM : Lx.alnum s[k] = false → Hid (R = k) := by
        intro h
        have := HR.out
        rw [HA.out, runN_no _ h] at this
        show _ = _
        omega
      have ea : Lx.alnum s[k] = (Lx.letter s[k] || Lx.digit s[k]) := rfl
      rw [ea] at HN HM
      clear HR HA ea
      generalize Lx.letter s[k] = b1 at HL HN HM
      generalize Lx.digit s[k] = b2 at HD HN HM
      cases b1 with
      | true =>
        have HX := HN rfl
        clear HN HM
        go_wp2_with (first | (go_at_call 38; refine (HL.out _).mono ?_; rintro e w' ⟨rfl, rfl⟩) | (go_at_call 36; refine (HD.out _).mono ?_; rintro e w' ⟨rfl, rfl⟩))
        go_round
        case rel => exact ⟨k + 1, by omega, by go_num, HX⟩
        case measure => simp [intOf]; omega
      | false =>
        cases b2 with
        | true =>
          have HX := HN rfl
          clear HN HM
          go_wp2_with (first | (go_at_call 38; refine (HL.out _).mono ?_; rintro e w' ⟨rfl, rfl⟩) | (go_at_call 36; refine (HD.out _).mono ?_; rintro e w' ⟨rfl, rfl⟩))
          go_round
          case rel => exact ⟨k + 1, by omega, by go_num, HX⟩
          case measure => simp [intOf]; omega
        | false =>
          have HX := HM rfl
          clear HN HM
          go_wp2_with (first | (go_at_call 38; refine (HL.out _).mono ?_; rintro e w' ⟨rfl, rfl⟩) | (go_at_call 36; refine (HD.out _).mono ?_; rintro e w' ⟨rfl, rfl⟩))
          go_ret
          rw [HX.out]
          exact ⟨rfl, rfl⟩
    · have e : k = s.size := by omega
      subst e
      have HN : Hid (R = s.size) := by
        have := HR.out
        rw [drop_all] at this
        exact this
      clear HR
      go_wp2_with (fail)
      go_ret
      rw [HN.out]
      exact ⟨rfl, rfl⟩
end Go.Proofs.YtoilhcklflmamaaGreatDoor

namespace Go.Proofs.YtoilhcklflmamaaGreatDoor
open Go.RowKit
set_option linter.unusedVariables false

theorem nonempty_toList {s : ByteArray} (h : 0 < s.size) : s.toList.isEmpty = false := by
  rw [Lib.toList_data, List.isEmpty_eq_false_iff]
  intro e
  have := Lib.size_eq s
  rw [e] at this
  exact absurd (show s.size = 0 from this) (by omega)

set_option maxHeartbeats 400000 in
theorem rname_any (s : ByteArray) (w : World) (hs : s.size ≤ 9223372036854775807) :
    Calls Tryz.prog 41 #[.string s] w fun e w' => e = .returned (.bool (Lx.nameB (bl s))) ∧ Q w w' := by
  by_cases h0 : s.size = 0
  · have e : bl s = [] := List.eq_nil_of_length_eq_zero (by rw [bl_len]; exact h0)
    have hd : ((s.size : Int) == 0) = true := beq_iff_eq.2 (by omega)
    rw [e]
    go_enter Tryz.func41, Tryz.ntmps41
    go_wp2_with (fail)
    go_ret
    exact ⟨rfl, Q.refl _⟩
  have hd0 : ((s.size : Int) == 0) = false := beq_eq_false_iff_ne.2 (by omega)
  by_cases h8 : s.size ≤ 8
  · have hd8 : decide ((8 : Int) < (s.size : Int)) = false := by simp; omega
    have HW := hideIt (rword_any s w)
    have hne : 0 < s.size := by omega
    have HL := hideIt (fun w => rletter_any s[0] w)
    have eb : Lx.begins (bl s) = Lx.letter s[0] := by
      have := bl_at s 0 hne
      simp only [List.drop_zero] at this
      rw [this]
      rfl
    have en : Lx.nameB (bl s) = (Lx.letter s[0] && decide (Lx.runN (bl s) = s.size) && !Lx.wordB (bl s)) := by
      unfold Lx.nameB
      rw [bl_len, decide_eq_true h8, eb, Bool.true_and]
    rw [en]
    clear en eb
    generalize Lx.wordB (bl s) = wd at HW ⊢
    generalize Lx.letter s[0] = b at HL ⊢
    have hz : (0 : Int) < (s.size : Int) := by omega
    cases wd with
    | true =>
      rw [show (b && decide (Lx.runN (bl s) = s.size) && !true) = false by simp]
      go_enter Tryz.func41, Tryz.ntmps41
      go_wp2_with (go_at_call 40; refine HW.out.mono ?_; rintro e x ⟨rfl, q⟩)
      go_ret
      exact ⟨rfl, q⟩
    | false =>
      cases b with
      | false =>
        rw [show (false && decide (Lx.runN (bl s) = s.size) && !false) = false by simp]
        go_enter Tryz.func41, Tryz.ntmps41
        go_wp2_with (first | (go_at_call 40; refine HW.out.mono ?_; rintro e x ⟨rfl, q⟩) | (go_at_call 38; refine (HL.out _).mono ?_; rintro e w' ⟨rfl, rfl⟩))
        go_ret
        exact ⟨rfl, q⟩
      | true =>
        rw [show (true && decide (Lx.runN (bl s) = s.size) && !false) = decide (Lx.runN (bl s) = s.size) by simp]
        go_enter Tryz.func41, Tryz.ntmps41
        go_wp2_with (first | (go_at_call 40; refine HW.out.mono ?_; rintro e x ⟨rfl, q⟩; have HQ := hideIt q; clear q) | (go_at_call 38; refine (HL.out _).mono ?_; rintro e w' ⟨rfl, rfl⟩))
        clear HW HL
        rename_i x _
        go_loop [3] (fun i => ∃ k : Nat, k ≤ s.size ∧ i = .int .i64 k ∧ Hid (Lx.runN (bl s) = k + Lx.runN ((bl s).drop k))) (fun i => s.size - (intOf i).toNat)
        case atStart => exact ⟨0, Nat.zero_le _, rfl, hideIt (by simp)⟩
        case round =>
          obtain ⟨k, hk, rfl, HR⟩ := hrel
          by_cases hlt : k < s.size
          · have HA := hideIt (bl_at s k hlt)
            have hki : (k : Int) < (s.size : Int) := by omega
            have HL := hideIt (fun w => rletter_any s[k] w)
            have HD := hideIt (fun w => rdigit_any s[k] w)
            have HN : Lx.alnum s[k] = true → Hid (Lx.runN (bl s) = k + 1 + Lx.runN ((bl s).drop (k + 1))) := by
              intro h
              have := HR.out
              rw [HA.out, runN_yes _ h] at this
              show _ = _
              omega
            have HM : Lx.alnum s[k] = false → Hid (decide (Lx.runN (bl s) = s.size) = false) := by
              intro h
              have := HR.out
              rw [HA.out, runN_no _ h] at this
              show _ = _
              simp
              omega
            have ea : Lx.alnum s[k] = (Lx.letter s[k] || Lx.digit s[k]) := rfl
            rw [ea] at HN HM
            clear HR HA ea
            generalize Lx.letter s[k] = b1 at HL HN HM
            generalize Lx.digit s[k] = b2 at HD HN HM
            cases b1 with
            | true =>
              have HX := HN rfl
              clear HN HM
              go_wp2_with (first | (go_at_call 38; refine (HL.out _).mono ?_; rintro e w' ⟨rfl, rfl⟩) | (go_at_call 36; refine (HD.out _).mono ?_; rintro e w' ⟨rfl, rfl⟩))
              go_round
              case rel => exact ⟨k + 1, by omega, by go_num, HX⟩
              case measure => simp [intOf]; omega
            | false =>
              cases b2 with
              | true =>
                have HX := HN rfl
                clear HN HM
                go_wp2_with (first | (go_at_call 38; refine (HL.out _).mono ?_; rintro e w' ⟨rfl, rfl⟩) | (go_at_call 36; refine (HD.out _).mono ?_; rintro e w' ⟨rfl, rfl⟩))
                go_round
                case rel => exact ⟨k + 1, by omega, by go_num, HX⟩
                case measure => simp [intOf]; omega
              | false =>
                have HX := HM rfl
                clear HN HM
                go_wp2_with (first | (go_at_call 38; refine (HL.out _).mono ?_; rintro e w' ⟨rfl, rfl⟩) | (go_at_call 36; refine (HD.out _).mono ?_; rintro e w' ⟨rfl, rfl⟩))
                go_ret
                rw [HX.out]
                exact ⟨rfl, HQ.out⟩
          · have e : k = s.size := by omega
            subst e
            have HN : Hid (decide (Lx.runN (bl s) = s.size) = true) := by
              have := HR.out
              rw [drop_all] at this
              show _ = _
              simp
              exact this
            clear HR
            go_wp2_with (fail)
            go_ret
            rw [HN.out]
            exact ⟨rfl, HQ.out⟩
  · have hd8 : decide ((8 : Int) < (s.size : Int)) = true := by simp; omega
    have en : Lx.nameB (bl s) = false := by
      unfold Lx.nameB
      rw [bl_len, decide_eq_false h8]
      rfl
    rw [en]
    clear en
    go_enter Tryz.func41, Tryz.ntmps41
    go_wp2_with (fail)
    go_ret
    exact ⟨rfl, Q.refl _⟩

theorem six {t : Nat} (h : t < 6) : t = 0 ∨ t = 1 ∨ t = 2 ∨ t = 3 ∨ t = 4 ∨ t = 5 := by omega
theorem fits_and (t : Nat) (v : Int) (ht : t < 6) : Lx.fits t v = (decide (Lx.lo t ≤ v) && decide (v ≤ Lx.hi t)) := by
  unfold Lx.fits; rw [decide_eq_true ht, Bool.true_and]
set_option maxHeartbeats 400000 in
theorem span_any (t : Nat) (w : World) (ht : t < 6) :
    Calls Tryz.prog 88 #[.int .u8 (t : Int)] w fun e w' => e = .returned (.agg #[.int .i64 (Lx.lo t), .int .i64 (Lx.hi t)]) ∧ Q w w' := by
  rcases six ht with rfl | rfl | rfl | rfl | rfl | rfl
  all_goals
    go_enter Tryz.func88, Tryz.ntmps88
    go_wp2
  · exact bodyPost_ret (v := .agg #[.int .i64 (-128), .int .i64 127]) (by simp [results, Tryz.results88, go_sem]) rfl ⟨rfl, (Q.refl _).alloc _⟩
  · exact bodyPost_ret (v := .agg #[.int .i64 0, .int .i64 255]) (by simp [results, Tryz.results88, go_sem]) rfl ⟨rfl, (Q.refl _).alloc _⟩
  · exact bodyPost_ret (v := .agg #[.int .i64 (-32768), .int .i64 32767]) (by simp [results, Tryz.results88, go_sem]) rfl ⟨rfl, (Q.refl _).alloc _⟩
  · exact bodyPost_ret (v := .agg #[.int .i64 0, .int .i64 65535]) (by simp [results, Tryz.results88, go_sem]) rfl ⟨rfl, (Q.refl _).alloc _⟩
  · exact bodyPost_ret (v := .agg #[.int .i64 (-2147483648), .int .i64 2147483647]) (by simp [results, Tryz.results88, go_sem]) rfl ⟨rfl, (Q.refl _).alloc _⟩
  · exact bodyPost_ret (v := .agg #[.int .i64 0, .int .i64 4294967295]) (by simp [results, Tryz.results88, go_sem]) rfl ⟨rfl, (Q.refl _).alloc _⟩
set_option maxHeartbeats 400000 in
theorem fits_any (t : Nat) (v : Int) (w : World) (ht : t < 6) :
    Calls Tryz.prog 63 #[.int .u8 (t : Int), .int .i64 v] w fun e w' => e = .returned (.bool (Lx.fits t v)) ∧ Q w w' := by
  rw [fits_and t v ht]
  have HS := hideIt (fun w => span_any t w ht)
  generalize Lx.lo t = a at HS ⊢
  generalize Lx.hi t = b at HS ⊢
  by_cases h1 : a ≤ v
  · have hd := decide_eq_true h1
    rw [hd]
    go_enter Tryz.func63, Tryz.ntmps63
    go_wp2_with (go_at_call 88; refine (HS.out _).mono ?_; rintro e x ⟨rfl, q⟩)
    go_ret
    exact ⟨by simp, Q.alloc q _⟩
  · have hd := decide_eq_false h1
    rw [hd]
    go_enter Tryz.func63, Tryz.ntmps63
    go_wp2_with (go_at_call 88; refine (HS.out _).mono ?_; rintro e x ⟨rfl, q⟩)
    go_ret
    exact ⟨by simp, Q.alloc q _⟩

set_option maxHeartbeats 400000 in
theorem rhigh_any (t : Nat) (w : World) (ht : t < 6) :
    Calls Tryz.prog 99 #[.int .i64 (t : Int)] w fun e w' => e = .returned (.int .i64 (Lx.hi t)) ∧ Q w w' := by
  rcases six ht with rfl | rfl | rfl | rfl | rfl | rfl
  all_goals
    go_enter Tryz.func99, Tryz.ntmps99
    go_wp2
    go_ret
    exact ⟨rfl, (Q.refl _).alloc _⟩
set_option maxHeartbeats 400000 in
theorem rwidth_any (t : Nat) (w : World) (ht : t < 6) :
    Calls Tryz.prog 97 #[.int .i64 (t : Int)] w fun e w' => ∃ v, e = .returned (.int .i64 v) ∧ 0 < v ∧ Q w w' := by
  rcases six ht with rfl | rfl | rfl | rfl | rfl | rfl
  all_goals
    go_enter Tryz.func97, Tryz.ntmps97
    go_wp2
    go_ret
    exact ⟨_, rfl, by decide, (Q.refl _).alloc _⟩
set_option maxHeartbeats 400000 in
theorem rlow_any (t : Nat) (w : World) (ht : t < 6) :
    Calls Tryz.prog 98 #[.int .i64 (t : Int)] w fun e w' => e = .returned (.int .i64 (Lx.lo t)) ∧ Q w w' := by
  have HH := hideIt (fun w => rhigh_any t w ht)
  rcases six ht with rfl | rfl | rfl | rfl | rfl | rfl
  all_goals
    simp only [Lx.hi] at HH
    go_enter Tryz.func98, Tryz.ntmps98
    go_wp2_with (first | (go_at_call 99; refine (HH.out _).mono ?_; rintro e x ⟨rfl, q⟩) | go_in)
    go_ret
    first | exact ⟨rfl, (Q.refl _).alloc _⟩ | exact ⟨rfl, ((Q.refl _).alloc _).trans q⟩
set_option maxHeartbeats 400000 in
theorem rfits_any (t : Nat) (v : Int) (w : World) (ht : t < 6) :
    Calls Tryz.prog 75 #[.int .i64 (t : Int), .int .i64 v] w fun e w' => e = .returned (.bool (Lx.fits t v)) ∧ Q w w' := by
  rw [fits_and t v ht]
  have HW := hideIt (fun w => rwidth_any t w ht)
  have HL := hideIt (fun w => rlow_any t w ht)
  have HH := hideIt (fun w => rhigh_any t w ht)
  generalize Lx.lo t = a at HL ⊢
  generalize Lx.hi t = b at HH ⊢
  by_cases h1 : a ≤ v
  · have hd := decide_eq_true h1
    rw [hd]
    go_enter Tryz.func75, Tryz.ntmps75
    go_wp2_with (first | (go_at_call 97; refine (HW.out _).mono ?_; rintro e x ⟨v1, rfl, hv1, q1⟩; have hdv := decide_eq_true hv1; have HQ1 := hideIt q1; clear q1) | (go_at_call 98; refine (HL.out _).mono ?_; rintro e y ⟨rfl, q2⟩; have HQ2 := hideIt (HQ1.out.trans q2); clear q2) | (go_at_call 99; refine (HH.out _).mono ?_; rintro e z ⟨rfl, q3⟩; have HQ3 := hideIt (HQ2.out.trans q3); clear q3))
    go_ret
    exact ⟨by simp, HQ3.out⟩
  · have hd := decide_eq_false h1
    rw [hd]
    go_enter Tryz.func75, Tryz.ntmps75
    go_wp2_with (first | (go_at_call 97; refine (HW.out _).mono ?_; rintro e x ⟨v1, rfl, hv1, q1⟩; have hdv := decide_eq_true hv1; have HQ1 := hideIt q1; clear q1) | (go_at_call 98; refine (HL.out _).mono ?_; rintro e y ⟨rfl, q2⟩; have HQ2 := hideIt (HQ1.out.trans q2); clear q2) | (go_at_call 99; refine (HH.out _).mono ?_; rintro e z ⟨rfl, q3⟩; have HQ3 := hideIt (HQ2.out.trans q3); clear q3))
    go_ret
    exact ⟨by simp, HQ2.out⟩

/-! ### The library on prefixes -/
set_option maxHeartbeats 400000 in
theorem hasPrefix_any (s p : ByteArray) (w : World) :
    Calls Tryz.prog 53 #[.string s, .string p] w fun e w' => e = .returned (.bool ((bl p).isPrefixOf (bl s))) ∧ w' = w := by
  have hr := Lib.hasPrefix_raw s p
  unfold Lib.hasPrefix at hr
  have HR := hideIt hr.symm
  clear hr
  by_cases h : p.size ≤ s.size
  · have hd : decide ((p.size : Int) ≤ (s.size : Int)) = true := by simp; omega
    go_enter Tryz.func53, Tryz.ntmps53
    go_wp2
    go_ret
    rw [HR.out, decide_eq_true h]
    exact ⟨by simp, rfl⟩
  · have hd : decide ((p.size : Int) ≤ (s.size : Int)) = false := by simp; omega
    go_enter Tryz.func53, Tryz.ntmps53
    go_wp2
    go_ret
    rw [HR.out, decide_eq_false h]
    exact ⟨by simp, rfl⟩
end Go.Proofs.YtoilhcklflmamaaGreatDoor
