/-
  What the functions on words, types' names and names return, in the program and in the document's answer: contracts over the program; the condition: the two lists of layer 4 lie as its text lays them.
-/
import Derived.Test.YtkjkobiliinneaaDoorBaseA
import Derived.Laws.Rows
namespace Go.Proofs.YtkjkobiliinneaaDoor
open Go.RowKit
set_option linter.unusedVariables false

/-- A list of texts as values. -/
abbrev strs (l : List (List UInt8)) : Array Value := (l.map fun x => Value.string ⟨x.toArray⟩).toArray
/-- The words and the signs, in the order in which the program has them. -/
def words : List (List UInt8) := Lx.keys ++ Lx.types
def signs : List (List UInt8) := Lx.twos ++ Lx.ones.map fun c => [c]
/-- The two lists lie in memory. -/
structure Laid (w : World) : Prop where
  words : ∃ t fr, w.heap[0]? = some (.cells (strs words) t fr)
  signs : ∃ t fr, w.heap[1]? = some (.cells (strs signs) t fr)
theorem lt_of_heap {w : World} {b : Nat} {o : Obj} (h : w.heap[b]? = some o) : b < w.heap.size := by
  by_cases hb : b < w.heap.size
  · exact hb
  · rw [Array.getElem?_eq_none (by omega)] at h; cases h
theorem Laid.keep {w w' : World} (h : Laid w) (q : Q w w') : Laid w' := by
  obtain ⟨⟨t, fr, h1⟩, ⟨t', fr', h2⟩⟩ := h
  exact ⟨⟨t, fr, (q.block _ (lt_of_heap h1)).trans h1⟩, ⟨t', fr', (q.block _ (lt_of_heap h2)).trans h2⟩⟩

theorem idx13 (k : Nat) (h : k < 13) (w : World) : (Instr.index 45 (.agg (strs words)) (.int .i64 (k : Int))).run Tryd.prog w = .ok (.string ⟨(words.getD k []).toArray⟩) w := by
  have hk : k = 0 ∨ k = 1 ∨ k = 2 ∨ k = 3 ∨ k = 4 ∨ k = 5 ∨ k = 6 ∨ k = 7 ∨ k = 8 ∨ k = 9 ∨ k = 10 ∨ k = 11 ∨ k = 12 := by omega
  clear h
  rcases hk with rfl | rfl | rfl | rfl | rfl | rfl | rfl | rfl | rfl | rfl | rfl | rfl | rfl <;> rfl
theorem idx32 (k : Nat) (h : k < 32) (w : World) : (Instr.index 52 (.agg (strs signs)) (.int .i64 (k : Int))).run Tryd.prog w = .ok (.string ⟨(signs.getD k []).toArray⟩) w := by
  have hk : k = 0 ∨ k = 1 ∨ k = 2 ∨ k = 3 ∨ k = 4 ∨ k = 5 ∨ k = 6 ∨ k = 7 ∨ k = 8 ∨ k = 9 ∨ k = 10 ∨ k = 11 ∨ k = 12 ∨ k = 13 ∨ k = 14 ∨ k = 15 ∨ k = 16 ∨ k = 17 ∨ k = 18 ∨ k = 19 ∨ k = 20 ∨ k = 21 ∨ k = 22 ∨ k = 23 ∨ k = 24 ∨ k = 25 ∨ k = 26 ∨ k = 27 ∨ k = 28 ∨ k = 29 ∨ k = 30 ∨ k = 31 := by omega
  clear h
  rcases hk with rfl | rfl | rfl | rfl | rfl | rfl | rfl | rfl | rfl | rfl | rfl | rfl | rfl | rfl | rfl | rfl | rfl | rfl | rfl | rfl | rfl | rfl | rfl | rfl | rfl | rfl | rfl | rfl | rfl | rfl | rfl | rfl <;> rfl
theorem words_len : words.length = 13 := rfl
theorem toList_eq_iff (a b : ByteArray) : (a.toList == b.toList) = (bl a == bl b) := by rw [Lib.toList_data, Lib.toList_data]

/-- Is a text one of a list from a place on? -/
def hasFrom (l : List (List UInt8)) (k : Nat) (x : List UInt8) : Bool := (l.drop k).contains x
theorem drop_getD {l : List (List UInt8)} {k : Nat} (h : k < l.length) : l.drop k = l.getD k [] :: l.drop (k + 1) := by
  rw [List.drop_eq_getElem_cons h, List.getD_eq_getElem?_getD, List.getElem?_eq_getElem h]
  rfl
theorem hasFrom_yes {l : List (List UInt8)} {k : Nat} {x : List UInt8} (h : k < l.length) (e : (x == l.getD k []) = true) : hasFrom l k x = true := by
  unfold hasFrom
  rw [drop_getD h, List.contains_cons, e, Bool.true_or]
theorem hasFrom_no {l : List (List UInt8)} {k : Nat} {x : List UInt8} (h : k < l.length) (e : (x == l.getD k []) = false) : hasFrom l k x = hasFrom l (k + 1) x := by
  unfold hasFrom
  rw [drop_getD h, List.contains_cons, e, Bool.false_or]
theorem hasFrom_end {l : List (List UInt8)} {x : List UInt8} : hasFrom l l.length x = false := by simp [hasFrom]

set_option maxHeartbeats 400000 in
theorem word_any (s : ByteArray) (w : World) (hL : Laid w) :
    Calls Tryd.prog 14 #[.string s] w fun e w' => e = .returned (.bool (Lx.wordB (bl s))) ∧ w' = w := by
  obtain ⟨⟨t, fr, hw⟩, _⟩ := hL
  have e0 : Lx.wordB (bl s) = hasFrom words 0 (bl s) := rfl
  rw [e0]
  have HW := hideIt hw
  clear hw e0
  go_enter Tryd.func14, Tryd.ntmps14
  go_wp2_with (refine wpList_load_row rfl 45 _ rfl 0 rfl _ _ _ _ HW.out Tryd.underlying45 rfl (by kernel_rfl) ?_)
  go_loop [6] (fun i => ∃ k : Nat, k ≤ 13 ∧ i = .int .i64 k ∧ Hid (hasFrom words 0 (bl s) = hasFrom words k (bl s))) (fun i => 13 - (intOf i).toNat)
  case atStart => exact ⟨0, Nat.zero_le _, rfl, rfl⟩
  case round =>
    obtain ⟨k, hk, rfl, HR⟩ := hrel
    by_cases hlt : k < 13
    · have hki : (k : Int) < 13 := by omega
      have hix := fun w => idx13 k hlt w
      obtain ⟨x, hx⟩ : ∃ x, words.getD k [] = x := ⟨_, rfl⟩
      rw [hx] at hix
      cases hb : bl s == x with
      | true =>
        have HN : Hid (hasFrom words 0 (bl s) = true) := by
          show _ = _
          rw [HR.out, hasFrom_yes (by rw [words_len]; exact hlt) (by rw [hx]; exact hb)]
        have hbb : (s.toList == x) = true := by rw [Lib.toList_data]; exact hb
        clear hb hx HR
        go_wp2_with (fail)
        go_ret
        rw [HN.out]
        exact ⟨rfl, rfl⟩
      | false =>
        have HN : Hid (hasFrom words 0 (bl s) = hasFrom words (k + 1) (bl s)) := by
          show _ = _
          rw [HR.out, hasFrom_no (by rw [words_len]; exact hlt) (by rw [hx]; exact hb)]
        have hbb : (s.toList == x) = false := by rw [Lib.toList_data]; exact hb
        clear hb hx HR
        go_wp2_with (fail)
        go_round
        case rel => exact ⟨k + 1, by omega, by go_num, HN⟩
        case measure => simp [intOf]; omega
    · have e : k = 13 := by omega
      subst e
      go_wp2_with (fail)
      go_ret
      have := HR.out
      rw [this]
      exact ⟨rfl, rfl⟩

/-- The place of a type's name from a place on. -/
def intFrom (j : Nat) (l : List UInt8) : Nat := (Lx.types.drop j).findIdx (· == l) + j
theorem intFrom_zero (l : List UInt8) : Lx.intT l = intFrom 0 l := rfl
theorem intFrom_yes {j : Nat} {l : List UInt8} (h : j < 6) (e : (l == Lx.types.getD j []) = true) : intFrom j l = j := by
  unfold intFrom
  rw [drop_getD (l := Lx.types) h]
  simp only [List.findIdx_cons]
  rw [BEq.comm] at e
  rw [e]
  simp
theorem intFrom_no {j : Nat} {l : List UInt8} (h : j < 6) (e : (l == Lx.types.getD j []) = false) : intFrom j l = intFrom (j + 1) l := by
  unfold intFrom
  rw [drop_getD (l := Lx.types) h]
  simp only [List.findIdx_cons]
  rw [BEq.comm] at e
  rw [e]
  simp only [cond_false]
  omega
theorem intFrom_end {l : List UInt8} : intFrom 6 l = 6 := rfl
theorem words_type (k : Nat) (h : 7 ≤ k) (h' : k < 13) : words.getD k [] = Lx.types.getD (k - 7) [] := by
  rcases (show k = 7 ∨ k = 8 ∨ k = 9 ∨ k = 10 ∨ k = 11 ∨ k = 12 by omega) with rfl | rfl | rfl | rfl | rfl | rfl <;> rfl
theorem intT_le (l : List UInt8) : Lx.intT l ≤ 6 := List.findIdx_le_length

/-- What Int answers. -/
def intV (l : List UInt8) : Int := if Lx.intT l < 6 then (Lx.intT l : Int) else 0
def intB (l : List UInt8) : Bool := decide (Lx.intT l < 6)
set_option maxHeartbeats 400000 in
theorem int_any (s : ByteArray) (w : World) (hL : Laid w) :
    Calls Tryd.prog 12 #[.string s] w fun e w' => e = .returned (.tuple #[.int .u8 (intV (bl s)), .bool (intB (bl s))]) ∧ w' = w := by
  obtain ⟨⟨t, fr, hw⟩, _⟩ := hL
  have HW := hideIt hw
  clear hw
  go_enter Tryd.func12, Tryd.ntmps12
  go_wp2_with (refine wpList_load_row rfl 45 _ rfl 0 rfl _ _ _ _ HW.out Tryd.underlying45 rfl (by kernel_rfl) ?_)
  go_loop [7] (fun i => ∃ k : Nat, k ≤ 13 ∧ i = .int .i64 k ∧ Hid (intFrom 0 (bl s) = intFrom (k - 7) (bl s))) (fun i => 13 - (intOf i).toNat)
  case atStart => exact ⟨0, Nat.zero_le _, rfl, rfl⟩
  case round =>
    obtain ⟨k, hk, rfl, HR⟩ := hrel
    by_cases hlt : k < 13
    · have hki : (k : Int) < 13 := by omega
      have hix := fun w => idx13 k hlt w
      obtain ⟨x, hx⟩ : ∃ x, words.getD k [] = x := ⟨_, rfl⟩
      rw [hx] at hix
      by_cases h7 : 7 ≤ k
      · have hd7 : decide ((7 : Int) ≤ (k : Int)) = true := by simp; omega
        rw [words_type k h7 hlt] at hx
        cases hb : bl s == x with
        | true =>
          have HN : Hid (intV (bl s) = (k : Int) - 7 ∧ intB (bl s) = true) := by
            have h0 : Lx.intT (bl s) = k - 7 := by rw [intFrom_zero, HR.out, intFrom_yes (by omega) (by rw [hx]; exact hb)]
            refine ⟨?_, ?_⟩
            · unfold intV; rw [h0, if_pos (by omega)]; omega
            · unfold intB; rw [h0]; simp; omega
          have hbb : (s.toList == x) = true := by rw [Lib.toList_data]; exact hb
          clear hb hx HR
          go_wp2_with (fail)
          go_ret2
          rw [HN.out.1, HN.out.2]
          exact ⟨rfl, rfl⟩
        | false =>
          have HN : Hid (intFrom 0 (bl s) = intFrom (k + 1 - 7) (bl s)) := by
            show _ = _
            rw [HR.out, intFrom_no (by omega) (by rw [hx]; exact hb), show k - 7 + 1 = k + 1 - 7 by omega]
          have hbb : (s.toList == x) = false := by rw [Lib.toList_data]; exact hb
          clear hb hx HR
          go_wp2_with (fail)
          go_round
          case rel => exact ⟨k + 1, by omega, by go_num, HN⟩
          case measure => simp [intOf]; omega
      · have hd7 : decide ((7 : Int) ≤ (k : Int)) = false := by simp; omega
        have HN : Hid (intFrom 0 (bl s) = intFrom (k + 1 - 7) (bl s)) := by
          show _ = _
          rw [HR.out, show k - 7 = k + 1 - 7 by omega]
        clear hx HR
        go_wp2_with (fail)
        go_round
        case rel => exact ⟨k + 1, by omega, by go_num, HN⟩
        case measure => simp [intOf]; omega
    · have e : k = 13 := by omega
      subst e
      have HN : Hid (intV (bl s) = 0 ∧ intB (bl s) = false) := by
        have h0 : Lx.intT (bl s) = 6 := by rw [intFrom_zero, HR.out]; rfl
        refine ⟨?_, ?_⟩
        · unfold intV; rw [h0]; rfl
        · unfold intB; rw [h0]; rfl
      clear HR
      go_wp2_with (fail)
      go_ret2
      rw [HN.out.1, HN.out.2]
      exact ⟨rfl, rfl⟩

set_option maxHeartbeats 400000 in
theorem name_any (s : ByteArray) (w : World) (hs : s.size ≤ 9223372036854775807) (hL : Laid w) :
    Calls Tryd.prog 16 #[.string s] w fun e w' => e = .returned (.bool (Lx.nameB (bl s))) ∧ w' = w := by
  have HB := hideIt (fun w => begins_any w s)
  have HR := hideIt (fun w => run_any s w hs)
  have HW := hideIt (word_any s w hL)
  have hr := Lx.runN_le (bl s)
  rw [bl_len] at hr
  unfold Lx.nameB
  rw [bl_len]
  generalize hb : Lx.begins (bl s) = b at HB ⊢
  generalize hn : Lx.runN (bl s) = n at HR hr ⊢
  generalize hwd : Lx.wordB (bl s) = wd at HW ⊢
  clear hb hn hwd
  by_cases h8 : s.size ≤ 8
  · have hd8 : decide ((s.size : Int) ≤ 8) = true := by simp; omega
    rw [decide_eq_true h8]
    cases b with
    | false =>
      go_enter Tryd.func16, Tryd.ntmps16
      go_wp2_with (first | (go_at_call 28; refine (HB.out _).mono ?_; rintro e w' ⟨rfl, rfl⟩))
      go_ret
      exact ⟨rfl, rfl⟩
    | true =>
      by_cases he : n = s.size
      · have hde : ((n : Int) == (s.size : Int)) = true := by simp; omega
        rw [decide_eq_true he]
        go_enter Tryd.func16, Tryd.ntmps16
        go_wp2_with (first | (go_at_call 28; refine (HB.out _).mono ?_; rintro e w' ⟨rfl, rfl⟩) | (go_at_call 29; refine (HR.out _).mono ?_; rintro e w' ⟨rfl, rfl⟩) | (go_at_call 14; refine HW.out.mono ?_; rintro e w' ⟨rfl, rfl⟩))
        go_ret
        exact ⟨rfl, rfl⟩
      · have hde : ((n : Int) == (s.size : Int)) = false := by simp; omega
        rw [decide_eq_false he]
        go_enter Tryd.func16, Tryd.ntmps16
        go_wp2_with (first | (go_at_call 28; refine (HB.out _).mono ?_; rintro e w' ⟨rfl, rfl⟩) | (go_at_call 29; refine (HR.out _).mono ?_; rintro e w' ⟨rfl, rfl⟩) | (go_at_call 14; refine HW.out.mono ?_; rintro e w' ⟨rfl, rfl⟩))
        go_ret
        exact ⟨rfl, rfl⟩
  · have hd8 : decide ((s.size : Int) ≤ 8) = false := by simp; omega
    rw [decide_eq_false h8]
    go_enter Tryd.func16, Tryd.ntmps16
    go_wp2_with (fail)
    go_ret
    exact ⟨rfl, rfl⟩

theorem cell_box {X : World} (cs : Array Value) (t : TypeId) (j : Nat) : (X.alloc (.cells cs t)).cell? ⟨X.heap.size, j, none⟩ = cs[j]? := by
  have h : (X.alloc (.cells cs t (0, 0))).heap[X.heap.size]? = some (.cells cs t (0, 0)) := heap_alloc_new X _
  unfold World.cell?
  rw [h]
  rfl
/-! ### The document's answer -/
def rwords : List (List UInt8) := Lx.types ++ Lx.keys
set_option maxHeartbeats 400000 in
theorem rwords_any (w : World) :
    Calls Tryd.prog 27 #[] w fun e w' => e = .returned (.slice (some ⟨w.heap.size, 0, none⟩) 13 13) ∧ (∀ k, k < 13 → w'.cell? ⟨w.heap.size, k, none⟩ = some (.string ⟨(rwords.getD k []).toArray⟩)) ∧ Q w w' := by
  go_enter Tryd.func27, Tryd.ntmps27
  go_wp2
  go_ret
  refine ⟨rfl, fun k hk => ?_, (Q.refl _).alloc _⟩
  rcases (show k = 0 ∨ k = 1 ∨ k = 2 ∨ k = 3 ∨ k = 4 ∨ k = 5 ∨ k = 6 ∨ k = 7 ∨ k = 8 ∨ k = 9 ∨ k = 10 ∨ k = 11 ∨ k = 12 by omega) with rfl | rfl | rfl | rfl | rfl | rfl | rfl | rfl | rfl | rfl | rfl | rfl | rfl <;> (rw [cell_box]; rfl)

set_option maxHeartbeats 400000 in
theorem rword_any (s : ByteArray) (w : World) :
    Calls Tryd.prog 15 #[.string s] w fun e w' => e = .returned (.bool (Lx.wordB (bl s))) ∧ Q w w' := by
  have HW := hideIt (rwords_any w)
  have e0 : Lx.wordB (bl s) = hasFrom rwords 0 (bl s) := by
    unfold Lx.wordB hasFrom rwords
    rw [List.drop_zero, Bool.eq_iff_iff]
    simp only [List.contains_iff_mem, List.mem_append]
    exact Or.comm
  rw [e0]
  clear e0
  go_enter Tryd.func15, Tryd.ntmps15
  go_wp2_with (go_at_call 27; refine HW.out.mono ?_; rintro e x ⟨rfl, hc, q⟩; have HC := hideIt hc; have HQ := hideIt q; clear hc q)
  clear HW
  go_loopw [4] (fun i wr => ∃ k : Nat, k ≤ 13 ∧ i = .int .i64 k ∧ Hid (hasFrom rwords 0 (bl s) = hasFrom rwords k (bl s)) ∧ wr = x) (fun i _ => 13 - (intOf i).toNat)
  case atStart => exact ⟨0, Nat.zero_le _, rfl, rfl, rfl⟩
  case round =>
    obtain ⟨k, hk, rfl, HR, rfl⟩ := hrel
    by_cases hlt : k < 13
    · have hki : (k : Int) < 13 := by omega
      have hcell := HC.out k hlt
      obtain ⟨x, hx⟩ : ∃ x, rwords.getD k [] = x := ⟨_, rfl⟩
      rw [hx] at hcell
      cases hb : bl s == x with
      | true =>
        have HN : Hid (hasFrom rwords 0 (bl s) = true) := by
          show _ = _
          rw [HR.out, hasFrom_yes (l := rwords) hlt (by rw [hx]; exact hb)]
        have hbb : (x == s.toList) = true := by rw [Lib.toList_data, BEq.comm]; exact hb
        clear hb hx HR
        go_wp2_with (fail)
        go_ret
        rw [HN.out]
        exact ⟨rfl, HQ.out⟩
      | false =>
        have HN : Hid (hasFrom rwords 0 (bl s) = hasFrom rwords (k + 1) (bl s)) := by
          show _ = _
          rw [HR.out, hasFrom_no (l := rwords) hlt (by rw [hx]; exact hb)]
        have hbb : (x == s.toList) = false := by rw [Lib.toList_data, BEq.comm]; exact hb
        clear hb hx HR
        go_wp2_with (fail)
        go_roundw
        case rel => exact ⟨k + 1, by omega, by go_num, HN, by first | rfl | trivial⟩
        case measure => simp [intOf]; omega
    · have e : k = 13 := by omega
      subst e
      go_wp2_with (fail)
      go_ret
      have := HR.out
      rw [this]
      exact ⟨rfl, HQ.out⟩

/-- What the document's Int answers. -/
def rintV (l : List UInt8) : Int := if Lx.intT l < 6 then (Lx.intT l : Int) else -1
set_option maxHeartbeats 400000 in
theorem rint_any (s : ByteArray) (w : World) :
    Calls Tryd.prog 13 #[.string s] w fun e w' => e = .returned (.int .i64 (rintV (bl s))) ∧ Q w w' := by
  have HW := hideIt (rwords_any w)
  go_enter Tryd.func13, Tryd.ntmps13
  go_wp2_with (go_at_call 27; refine HW.out.mono ?_; rintro e x ⟨rfl, hc, q⟩; have HC := hideIt hc; have HQ := hideIt q; clear hc q)
  clear HW
  go_loopw [4] (fun i wr => ∃ k : Nat, k ≤ 6 ∧ i = .int .i64 k ∧ Hid (intFrom 0 (bl s) = intFrom k (bl s)) ∧ wr = x) (fun i _ => 6 - (intOf i).toNat)
  case atStart => exact ⟨0, Nat.zero_le _, rfl, rfl, rfl⟩
  case round =>
    obtain ⟨k, hk, rfl, HR, rfl⟩ := hrel
    by_cases hlt : k < 6
    · have hki : (k : Int) < 6 := by omega
      have hcell := HC.out k (by omega)
      have hrt : rwords.getD k [] = Lx.types.getD k [] := by
        rcases (show k = 0 ∨ k = 1 ∨ k = 2 ∨ k = 3 ∨ k = 4 ∨ k = 5 by omega) with rfl | rfl | rfl | rfl | rfl | rfl <;> rfl
      rw [hrt] at hcell
      obtain ⟨x, hx⟩ : ∃ x, Lx.types.getD k [] = x := ⟨_, rfl⟩
      rw [hx] at hcell
      clear hrt
      cases hb : bl s == x with
      | true =>
        have HN : Hid (rintV (bl s) = (k : Int)) := by
          have h0 : Lx.intT (bl s) = k := by rw [intFrom_zero, HR.out, intFrom_yes hlt (by rw [hx]; exact hb)]
          show _ = _
          unfold rintV
          rw [h0, if_pos hlt]
        have hbb : (x == s.toList) = true := by rw [Lib.toList_data, BEq.comm]; exact hb
        clear hb hx HR
        go_wp2_with (fail)
        go_ret
        rw [HN.out]
        exact ⟨rfl, HQ.out⟩
      | false =>
        have HN : Hid (intFrom 0 (bl s) = intFrom (k + 1) (bl s)) := by
          show _ = _
          rw [HR.out, intFrom_no hlt (by rw [hx]; exact hb)]
        have hbb : (x == s.toList) = false := by rw [Lib.toList_data, BEq.comm]; exact hb
        clear hb hx HR
        go_wp2_with (fail)
        go_roundw
        case rel => exact ⟨k + 1, by omega, by go_num, HN, by first | rfl | trivial⟩
        case measure => simp [intOf]; omega
    · have e : k = 6 := by omega
      subst e
      have HN : Hid (rintV (bl s) = -1) := by
        have h0 : Lx.intT (bl s) = 6 := by rw [intFrom_zero, HR.out]; rfl
        show _ = _
        unfold rintV
        rw [h0]
        rfl
      clear HR
      go_wp2_with (fail)
      go_ret
      rw [HN.out]
      exact ⟨rfl, HQ.out⟩

set_option maxHeartbeats 400000 in
theorem rrun_any (s : ByteArray) (i : Nat) (w : World) (hs : s.size ≤ 9223372036854775806) (hi : i ≤ s.size) :
    Calls Tryd.prog 25 #[.string s, .int .i64 i] w fun e w' => e = .returned (.int .i64 ((i + Lx.runN ((bl s).drop i) : Nat) : Int)) ∧ w' = w := by
  obtain ⟨R, hR⟩ : ∃ R, i + Lx.runN ((bl s).drop i) = R := ⟨_, rfl⟩
  rw [hR]
  have HR0 := hideIt hR.symm
  clear hR
  go_enter Tryd.func25, Tryd.ntmps25
  go_wp2_with (fail)
  go_loop [1] (fun v => ∃ k : Nat, k ≤ s.size ∧ v = .int .i64 k ∧ Hid (R = k + Lx.runN ((bl s).drop k))) (fun v => s.size - (intOf v).toNat)
  case atStart => exact ⟨i, hi, rfl, HR0⟩
  case round =>
    obtain ⟨k, hk, rfl, HR⟩ := hrel
    by_cases hlt : k < s.size
    · have HA := hideIt (bl_at s k hlt)
      have hki : (k : Int) < (s.size : Int) := by omega
      have hkd : decide ((k : Int) < (s.size : Int)) = true := by simp; omega
      have HL := hideIt (fun w => rletter_any s[k] w)
      have HD := hideIt (fun w => rdigit_any s[k] w)
      have HN : Lx.alnum s[k] = true → Hid (R = k + 1 + Lx.runN ((bl s).drop (k + 1))) := by
        intro h
        have := HR.out
        rw [HA.out, runN_yes _ h] at this
        show _ = _
        omega
      have HM : Lx.alnum s[k] = false → Hid (R = k) := by
        intro h
        have := HR.out
        rw [HA.out, runN_no _ h] at this
        show _ = _
        omega
      have ea : Lx.alnum s[k] = (Lx.letter s[k] || Lx.digit s[k]) := rfl
      rw [ea] at HN HM
      clear HR HA ea
      generalize Lx.letter s[k] = b1 at HL HN HM
      generalize Lx.digit s[k] = b2 at HD HN HM
      cases b1 with
      | true =>
        have HX := HN rfl
        clear HN HM
        go_wp2_with (first | (go_at_call 24; refine (HL.out _).mono ?_; rintro e w' ⟨rfl, rfl⟩) | (go_at_call 22; refine (HD.out _).mono ?_; rintro e w' ⟨rfl, rfl⟩))
        go_round
        case rel => exact ⟨k + 1, by omega, by go_num, HX⟩
        case measure => simp [intOf]; omega
      | false =>
        cases b2 with
        | true =>
          have HX := HN rfl
          clear HN HM
          go_wp2_with (first | (go_at_call 24; refine (HL.out _).mono ?_; rintro e w' ⟨rfl, rfl⟩) | (go_at_call 22; refine (HD.out _).mono ?_; rintro e w' ⟨rfl, rfl⟩))
          go_round
          case rel => exact ⟨k + 1, by omega, by go_num, HX⟩
          case measure => simp [intOf]; omega
        | false =>
          have HX := HM rfl
          clear HN HM
          go_wp2_with (first | (go_at_call 24; refine (HL.out _).mono ?_; rintro e w' ⟨rfl, rfl⟩) | (go_at_call 22; refine (HD.out _).mono ?_; rintro e w' ⟨rfl, rfl⟩))
          go_ret
          rw [HX.out]
          exact ⟨rfl, rfl⟩
    · have e : k = s.size := by omega
      subst e
      have HN : Hid (R = s.size) := by
        have := HR.out
        rw [drop_all] at this
        exact this
      clear HR
      go_wp2_with (fail)
      go_ret
      rw [HN.out]
      exact ⟨rfl, rfl⟩
end Go.Proofs.YtkjkobiliinneaaDoor
