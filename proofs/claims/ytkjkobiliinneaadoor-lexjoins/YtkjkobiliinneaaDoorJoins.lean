/-
  For every two texts the statement LexJoins returns true, and its arguments read as they did; the two lists of layer 4 are tied to the program's text; no conditions.
-/
import Derived.Test.YtkjkobiliinneaaDoorLaw
import Derived.Deep.QuietTactic
import Derived.BigQuiet
import Derived.BigRegion
import Derived.Laws.Concat
import Derived.Deep.RegionWith
namespace Go.Proofs.YtkjkobiliinneaaDoor.lexJoins
open Go.ChangeShapes Go.WideShapes Go.ChangeAt Go.RowKit
open Go.ChangeMaps (open_string shut_string)
set_option linter.unusedVariables false

theorem toks_join (a b : List UInt8) (h : (Lx.lex 0 a).2 = none) : toks (a ++ 10 :: b) = (Lx.lex 0 a).1 ++ (toks b).map (fun q => (q.1, q.2 + (a.length + 1))) ∧ (Lx.lex 0 (a ++ 10 :: b)).2 = (Lx.lex 0 b).2.map (· + (a.length + 1)) := by
  have hj := (Lx.lex_join b a.length a (Nat.le_refl _) 0).1 h
  have hm := Lx.lex_moved (a.length + 1) b.length b (Nat.le_refl _) 0
  rw [Nat.zero_add] at hm
  rw [Nat.zero_add, hm] at hj
  refine ⟨?_, by rw [hj]⟩
  unfold toks
  rw [hj]
  simp only [List.map_append, List.map_cons, List.map_nil, List.append_assoc]
  congr 4
  simp only [List.length_append, List.length_cons]
  omega

set_option maxRecDepth 100000 in
set_option maxHeartbeats 1000000 in
theorem walk_long (s : ByteArray) (hs : s.size ≤ 140737488351232) (t : ByteArray) (ht : t.size ≤ 140737488351232) (w : World) (hL : Laid w) (h : 65536 ≤ s.size + t.size) :
    Calls Tryd.prog 6 #[.string s, .string t] w fun e w' => e = .returned (.bool true) ∧ Below w.heap.size w w' := by
  have HA : Hid (∀ x, Q w x → Calls Tryd.prog 8 #[] x fun e w' => e = .returned (.bool true) ∧ Q x w') := fun x q => awake_any x (hL.keep q)
  have hd : decide ((65536 : Int) ≤ (s.size : Int) + (t.size : Int)) = true := by simp; omega
  have Q1 := hideIt (Q.refl w)
  clear hL
  go_enter Tryd.func6, Tryd.ntmps6
  go_wp2_with (first | (go_at_call 8; refine (HA.out _ Q1.out).mono ?_; rintro e x1 ⟨rfl, q1⟩; have Q2 := hideIt (Q1.out.trans q1); clear Q1 q1; have Q1 := Q2; clear Q2) | fail)
  go_ret
  exact ⟨rfl, Q1.out⟩

theorem bl_join (s t : ByteArray) : bl (s ++ ⟨#[10]⟩ ++ t) = bl s ++ 10 :: bl t := by simp [bl]
theorem size_join (s t : ByteArray) : (s ++ ⟨#[10]⟩ ++ t).size = s.size + 1 + t.size := by rw [← bl_len, bl_join]; simp; omega

theorem cat_facts (s t : ByteArray) (h : s.size + t.size < 65536) : ∃ s1 st : ByteArray, (∀ w, (Op.stringOp .add s ⟨#[10]⟩).run Tryd.prog w = .ok (.string s1) w) ∧ (∀ w, (Op.stringOp .add s1 t).run Tryd.prog w = .ok (.string st) w) ∧ bl st = bl s ++ 10 :: bl t ∧ st.size = s.size + 1 + t.size := by
  have h1 : (⟨#[10]⟩ : ByteArray).size = 1 := rfl
  refine ⟨s ++ ⟨#[10]⟩, s ++ ⟨#[10]⟩ ++ t, fun w => run_string_add_sum w _ _ (by rw [h1]; omega), fun w => run_string_add_sum w _ _ ?_, bl_join s t, size_join s t⟩
  rw [ByteArray.size_append, h1]
  omega

set_option maxRecDepth 100000 in
set_option maxHeartbeats 1000000 in
theorem walk_first (s t : ByteArray) (w : World) (hL : Laid w) (h : s.size + t.size < 65536) (p : Nat) (hp : (Lx.lex 0 (bl s)).2 = some p) :
    Calls Tryd.prog 6 #[.string s, .string t] w fun e w' => e = .returned (.bool true) ∧ Below w.heap.size w w' := by
  have HA := hideIt (awake_any w hL)
  have hd : decide ((65536 : Int) ≤ (s.size : Int) + (t.size : Int)) = false := by simp; omega
  obtain ⟨s1, st, p1, p2, e1, e2⟩ := cat_facts s t h
  have hj := (Lx.lex_join (bl t) (bl s).length (bl s) (Nat.le_refl _) 0).2 p hp
  rw [bl_len] at hj
  have HS : Hid (∀ x, Q w x → Calls Tryd.prog 9 #[.string s] x fun e w' => e = .returned (.tuple #[.slice none 0 0, .int .i64 (p : Int), .int .i64 5]) ∧ Q x w') := fun x q => lex_bad s x (by omega) (hL.keep q) p hp
  have HC : Hid (∀ x, Q w x → Calls Tryd.prog 9 #[.string st] x fun e w' => e = .returned (.tuple #[.slice none 0 0, .int .i64 (p : Int), .int .i64 5]) ∧ Q x w') := fun x q => lex_bad st x (by omega) (hL.keep q) p (by rw [e1, hj.1])
  have hpd : decide (p ≤ s.size) = true := by simp; omega
  obtain ⟨v, av, ev, HT⟩ : ∃ v av ev, Hid (∀ x, Q w x → Calls Tryd.prog 9 #[.string t] x fun e w' => ∃ v av ev, e = .returned (.tuple #[v, .int .i64 av, .int .i64 ev]) ∧ Q x w') := ⟨(), (), (), by
    intro x q
    cases ht : (Lx.lex 0 (bl t)).2 with
    | none =>
      refine (lex_ok t x (by omega) (hL.keep q) ht).mono ?_
      rintro e w' ⟨g, cap, rfl, _, _, hq⟩
      exact ⟨_, _, _, rfl, hq⟩
    | some p' =>
      refine (lex_bad t x (by omega) (hL.keep q) p' ht).mono ?_
      rintro e w' ⟨rfl, hq⟩
      exact ⟨_, _, _, rfl, hq⟩⟩
  clear hL hj hp e1 e2
  go_enter Tryd.func6, Tryd.ntmps6
  go_wp2_with (first | (go_at_call 8; refine HA.out.mono ?_; rintro e x1 ⟨rfl, q1⟩; have Q1 := hideIt q1; clear q1) | (go_at_call_of 9 (Value.string s); refine (HS.out _ Q1.out).mono ?_; rintro e x2 ⟨rfl, q2⟩; have Q2 := hideIt (Q1.out.trans q2); clear q2) | (go_at_call_of 9 (Value.string t); refine (HT.out _ Q2.out).mono ?_; rintro e x3 ⟨v, av, ev, rfl, q3⟩; have Q3 := hideIt (Q2.out.trans q3); clear q3) | (go_at_call_of 9 (Value.string st); refine (HC.out _ Q3.out).mono ?_; rintro e x4 ⟨rfl, q4⟩; have Q4 := hideIt (Q3.out.trans q4); clear q4) | fail)
  go_ret
  exact ⟨rfl, Q4.out⟩

set_option maxRecDepth 100000 in
set_option maxHeartbeats 1000000 in
theorem walk_second (s t : ByteArray) (w : World) (hL : Laid w) (h : s.size + t.size < 65536) (hn : (Lx.lex 0 (bl s)).2 = none) (p : Nat) (hp : (Lx.lex 0 (bl t)).2 = some p) :
    Calls Tryd.prog 6 #[.string s, .string t] w fun e w' => e = .returned (.bool true) ∧ Below w.heap.size w w' := by
  have HA := hideIt (awake_any w hL)
  have hd : decide ((65536 : Int) ≤ (s.size : Int) + (t.size : Int)) = false := by simp; omega
  obtain ⟨s1, st, p1, p2, e1, e2⟩ := cat_facts s t h
  have hj := (toks_join (bl s) (bl t) hn).2
  rw [hp, bl_len, Option.map_some] at hj
  have HS : Hid (∀ x, Q w x → Calls Tryd.prog 9 #[.string s] x fun e w' => ∃ g cap, e = .returned (.tuple #[.slice (some ⟨g, 0, none⟩) (toks (bl s)).length cap, .int .i64 0, .int .i64 0]) ∧ Q x w') := by
    intro x q
    refine (lex_ok s x (by omega) (hL.keep q) hn).mono ?_
    rintro e w' ⟨g, cap, rfl, _, _, hq⟩
    exact ⟨g, cap, rfl, hq⟩
  have HT : Hid (∀ x, Q w x → Calls Tryd.prog 9 #[.string t] x fun e w' => e = .returned (.tuple #[.slice none 0 0, .int .i64 (p : Int), .int .i64 5]) ∧ Q x w') := fun x q => lex_bad t x (by omega) (hL.keep q) p hp
  have HC : Hid (∀ x, Q w x → Calls Tryd.prog 9 #[.string st] x fun e w' => e = .returned (.tuple #[.slice none 0 0, .int .i64 ((p + (s.size + 1) : Nat) : Int), .int .i64 5]) ∧ Q x w') := fun x q => lex_bad st x (by omega) (hL.keep q) _ (by rw [e1, hj])
  obtain ⟨r, hr⟩ : ∃ r, p + (s.size + 1) = r := ⟨_, rfl⟩
  rw [hr] at HC
  have hrd : decide (s.size < r) = true := by simp; omega
  clear hL hj hp hr hn e1 e2
  go_enter Tryd.func6, Tryd.ntmps6
  go_wp2_with (first | (go_at_call 8; refine HA.out.mono ?_; rintro e x1 ⟨rfl, q1⟩; have Q1 := hideIt q1; clear q1) | (go_at_call_of 9 (Value.string s); refine (HS.out _ Q1.out).mono ?_; rintro e x2 ⟨g, cap, rfl, q2⟩; have Q2 := hideIt (Q1.out.trans q2); clear q2) | (go_at_call_of 9 (Value.string t); refine (HT.out _ Q2.out).mono ?_; rintro e x3 ⟨rfl, q3⟩; have Q3 := hideIt (Q2.out.trans q3); clear q3) | (go_at_call_of 9 (Value.string st); refine (HC.out _ Q3.out).mono ?_; rintro e x4 ⟨rfl, q4⟩; have Q4 := hideIt (Q3.out.trans q4); clear q4) | fail)
  go_ret
  exact ⟨rfl, Q4.out⟩

theorem lex_count : ∀ (k : Nat) (l : List UInt8), l.length ≤ k → ∀ at_, (Lx.lex at_ l).1.length ≤ l.length := by
  intro k
  induction k with
  | zero =>
    intro l hk at_
    have : l = [] := List.eq_nil_of_length_eq_zero (by omega)
    subst this
    simp [Lx.lex_nil]
  | succ k ih =>
    intro l hk at_
    by_cases hl : l = []
    · subst hl
      simp [Lx.lex_nil]
    · have hl1 : 1 ≤ l.length := List.length_pos_iff.2 hl
      by_cases hb : Lx.blankN l = 0
      · cases ht : Lx.tok l with
        | none => rw [Lx.lex_none _ _ hb hl ht]; simp
        | some t =>
          have hn := Lx.tok_len ht
          have hd : (l.drop t.text.length).length = l.length - t.text.length := List.length_drop
          rw [Lx.lex_tok _ _ _ hb ht]
          have := ih (l.drop t.text.length) (by omega) (at_ + t.text.length)
          simp only [List.length_cons]
          omega
      · have hd : (l.drop (Lx.blankN l)).length = l.length - Lx.blankN l := List.length_drop
        rw [Lx.lex_blank _ _ hb]
        have := ih (l.drop (Lx.blankN l)) (by omega) (at_ + Lx.blankN l)
        omega
theorem lex_places : ∀ (k : Nat) (l : List UInt8), l.length ≤ k → ∀ at_ q, q ∈ (Lx.lex at_ l).1 → q.2 ≤ at_ + l.length := by
  intro k
  induction k with
  | zero =>
    intro l hk at_ q hq
    have : l = [] := List.eq_nil_of_length_eq_zero (by omega)
    subst this
    simp [Lx.lex_nil] at hq
  | succ k ih =>
    intro l hk at_ q hq
    by_cases hl : l = []
    · subst hl
      simp [Lx.lex_nil] at hq
    · have hl1 : 1 ≤ l.length := List.length_pos_iff.2 hl
      by_cases hb : Lx.blankN l = 0
      · cases ht : Lx.tok l with
        | none => rw [Lx.lex_none _ _ hb hl ht] at hq; cases hq
        | some t =>
          have hn := Lx.tok_len ht
          have hd : (l.drop t.text.length).length = l.length - t.text.length := List.length_drop
          rw [Lx.lex_tok _ _ _ hb ht] at hq
          rcases List.mem_cons.1 hq with e | e
          · subst e
            show at_ ≤ _
            omega
          · have := ih _ (by omega) _ q e
            omega
      · have hd : (l.drop (Lx.blankN l)).length = l.length - Lx.blankN l := List.length_drop
        have := Lx.blankN_le l
        rw [Lx.lex_blank _ _ hb] at hq
        have := ih _ (by omega) _ q hq
        omega
theorem below_drewN {B : Nat} {a b : World} (h : Below B a b) (n : Nat) : Below B a (b.drewN n) := ⟨h.os, h.tape, h.output, h.size, h.block⟩
theorem getElem_map {q : Lx.Tk × Nat} {L : List (Lx.Tk × Nat)} {i m : Nat} (h : L[i]? = some q) : (L.map fun q => (q.1, q.2 + m))[i]? = some (q.1, q.2 + m) := by
  rw [List.getElem?_map, h]; rfl

set_option maxRecDepth 100000 in
set_option maxHeartbeats 2000000 in
theorem walk_both (s t : ByteArray) (w : World) (hL : Laid w) (h : s.size + t.size < 65536) (hn : (Lx.lex 0 (bl s)).2 = none) (hn2 : (Lx.lex 0 (bl t)).2 = none) :
    Calls Tryd.prog 6 #[.string s, .string t] w fun e w' => e = .returned (.bool true) ∧ Below w.heap.size w w' := by
  have HA := hideIt (awake_any w hL)
  have hd : decide ((65536 : Int) ≤ (s.size : Int) + (t.size : Int)) = false := by simp; omega
  obtain ⟨s1, st, p1, p2, e1, e2⟩ := cat_facts s t h
  obtain ⟨hj1, hj2⟩ := toks_join (bl s) (bl t) hn
  rw [hn2, Option.map_none] at hj2
  rw [bl_len] at hj1
  have HS : Hid (∀ x, Q w x → Calls Tryd.prog 9 #[.string s] x fun e w' => ∃ g cap, e = .returned (.tuple #[.slice (some ⟨g, 0, none⟩) (toks (bl s)).length cap, .int .i64 0, .int .i64 0]) ∧ x.heap.size ≤ g ∧ Tks w' g cap (toks (bl s)) ∧ Q x w') := fun x q => lex_ok s x (by omega) (hL.keep q) hn
  have HT : Hid (∀ x, Q w x → Calls Tryd.prog 9 #[.string t] x fun e w' => ∃ g cap, e = .returned (.tuple #[.slice (some ⟨g, 0, none⟩) (toks (bl t)).length cap, .int .i64 0, .int .i64 0]) ∧ x.heap.size ≤ g ∧ Tks w' g cap (toks (bl t)) ∧ Q x w') := fun x q => lex_ok t x (by omega) (hL.keep q) hn2
  have HC : Hid (∀ x, Q w x → Calls Tryd.prog 9 #[.string st] x fun e w' => ∃ g cap, e = .returned (.tuple #[.slice (some ⟨g, 0, none⟩) (toks (bl st)).length cap, .int .i64 0, .int .i64 0]) ∧ x.heap.size ≤ g ∧ Tks w' g cap (toks (bl st)) ∧ Q x w') := fun x q => lex_ok st x (by omega) (hL.keep q) (by rw [e1]; exact hj2)
  have hA : toks (bl s) = (Lx.lex 0 (bl s)).1 ++ [(endTk, s.size)] := by unfold toks; rw [bl_len]
  obtain ⟨A, hAe⟩ : ∃ A, (Lx.lex 0 (bl s)).1 = A := ⟨_, rfl⟩
  obtain ⟨B, hBe⟩ : ∃ B, toks (bl t) = B := ⟨_, rfl⟩
  rw [e1, hj1, hAe, hBe] at HC
  rw [hA, hAe] at HS
  rw [hBe] at HT
  have hBl : 1 ≤ B.length := by rw [← hBe]; simp [toks]
  have hAl : A.length ≤ 65536 := by
    rw [← hAe]
    have := lex_count (bl s).length (bl s) (Nat.le_refl _) 0
    rw [bl_len] at this
    omega
  have hBm : B.length ≤ 65537 := by
    rw [← hBe]
    have := lex_count (bl t).length (bl t) (Nat.le_refl _) 0
    rw [bl_len] at this
    simp [toks]
    omega
  have HB : Hid (∀ q ∈ B, q.2 ≤ 65536) := by
    intro q hq
    rw [← hBe] at hq
    unfold toks at hq
    rcases List.mem_append.1 hq with hq | hq
    · have := lex_places (bl t).length (bl t) (Nat.le_refl _) 0 q hq
      rw [bl_len] at this
      omega
    · simp at hq
      rw [hq]
      show t.size ≤ 65536
      omega
  have l1 : (A ++ [(endTk, s.size)]).length = A.length + 1 := by simp
  have l2 : (A ++ B.map (fun q => (q.1, q.2 + (s.size + 1)))).length = A.length + B.length := by simp
  rw [l1] at HS
  rw [l2] at HC
  have ee : (((A.length + B.length : Nat) : Int) != ((A.length + 1 : Nat) : Int) + (B.length : Int) - 1) = false := by rw [bne_eq_false_iff_eq]; omega
  have ec1 : ((A.length + 1 : Nat) : Int) = (A.length : Int) + 1 := by omega
  have ec2 : ((A.length + B.length : Nat) : Int) = (A.length : Int) + (B.length : Int) := by omega
  rw [ec1, ec2] at ee
  clear hL hj1 hj2 hn hn2 e1 e2 hA hAe hBe l1 l2
  go_enter Tryd.func6, Tryd.ntmps6
  go_wp2_with (first | (go_at_call 8; refine HA.out.mono ?_; rintro e x1 ⟨rfl, q1⟩; have Q1 := hideIt q1; clear q1) | (go_at_call_of 9 (Value.string s); refine (HS.out _ Q1.out).mono ?_; rintro e x2 ⟨ga, ca, rfl, ba, ta, q2⟩; have TA := hideIt ta; have Q2 := hideIt (Q1.out.trans q2); clear q2 ta ba) | (go_at_call_of 9 (Value.string t); refine (HT.out _ Q2.out).mono ?_; rintro e x3 ⟨gb, cb, rfl, bb, tb, q3⟩; have TB := hideIt tb; have TA3 := hideIt (TA.out.keep q3); have Q3 := hideIt (Q2.out.trans q3); clear q3 tb bb) | (go_at_call_of 9 (Value.string st); refine (HC.out _ Q3.out).mono ?_; rintro e x4 ⟨gc, cc, rfl, bc, tc, q4⟩; have TC := hideIt tc; have TA4 := hideIt (TA3.out.keep q4); have TB4 := hideIt (TB.out.keep q4); have Q4 := hideIt (Q3.out.trans q4); clear q4 tc bc) | fail)
  clear HA HS HT HC Q1 Q2 Q3 TA TB TA3 p1 p2
  go_loopw [14] (fun i wr => ∃ k : Nat, i = .int .i64 k ∧ k ≤ A.length + B.length ∧ Q x4 wr) (fun i _ => A.length + B.length - (intOf i).toNat)
  case atStart => exact ⟨0, rfl, Nat.zero_le _, Q.refl _⟩
  case round =>
    obtain ⟨k, rfl, hk, hq⟩ := hrel
    by_cases hlt : k < A.length + B.length
    · have hki : (k : Int) < (A.length : Int) + (B.length : Int) := by omega
      have tc := TC.out.keep hq
      have hgc : gc < wr.heap.size := tc.lt
      by_cases hka : k < A.length
      · obtain ⟨q, hqa⟩ : ∃ q, A[k]? = some q := ⟨A[k], List.getElem?_eq_getElem hka⟩
        have ta := TA4.out.keep hq
        have hga : ga < wr.heap.size := ta.lt
        obtain ⟨a0, a1, a2, a3, a4⟩ := ta.five k q (by rw [List.getElem?_append_left hka]; exact hqa)
        obtain ⟨c0, c1, c2, c3, c4⟩ := tc.five k q (by rw [List.getElem?_append_left hka]; exact hqa)
        have hkd : decide ((k : Int) < (A.length : Int) + 1 - 1) = true := by simp; omega
        have HQ := hideIt hq
        clear ta tc hq hqa
        obtain ⟨⟨kd, tx, n, ty⟩, at_⟩ := q
        simp only at a0 a1 a2 a3 a4 c0 c1 c2 c3 c4
        go_wp2_with (fail)
        go_quiet (fail)
        go_wp2_with (fail)
        go_roundw
        case rel => exact ⟨k + 1, by go_num, by omega, below_drewN (HQ.out.alloc _) _⟩
        case measure => simp [intOf]; omega
      · have hJ : ((k : Int) - ((A.length : Int) + 1) + 1).toNat = k - A.length := by omega
        have hjB : k - A.length < B.length := by omega
        obtain ⟨q, hqb⟩ : ∃ q, B[k - A.length]? = some q := ⟨B[k - A.length], List.getElem?_eq_getElem hjB⟩
        have tb := TB4.out.keep hq
        have hgb : gb < wr.heap.size := tb.lt
        obtain ⟨a0, a1, a2, a3, a4⟩ := tb.five ((k : Int) - ((A.length : Int) + 1) + 1).toNat q (by rw [hJ]; exact hqb)
        obtain ⟨c0, c1, c2, c3, c4⟩ := tc.five k (q.1, q.2 + (s.size + 1)) (by rw [List.getElem?_append_right (by omega)]; exact getElem_map hqb)
        have hq2 : q.2 ≤ 65536 := HB.out q (List.mem_of_getElem? hqb)
        have hkd : decide ((k : Int) < (A.length : Int) + 1 - 1) = false := by simp; omega
        have hb1 : (0 : Int) ≤ (k : Int) - ((A.length : Int) + 1) + 1 := by omega
        have hb2 : (k : Int) - ((A.length : Int) + 1) + 1 < (B.length : Int) := by omega
        have HQ := hideIt hq
        clear tb tc hq hqb hJ hjB
        obtain ⟨⟨kd, tx, n, ty⟩, at_⟩ := q
        simp only at a0 a1 a2 a3 a4 c0 c1 c2 c3 c4 hq2
        have e5 : ((at_ + (s.size + 1) : Nat) : Int) = (at_ : Int) + ((s.size : Int) + 1) := by omega
        rw [e5] at c4
        clear e5
        go_wp2_with (fail)
        go_quiet (fail)
        go_wp2_with (fail)
        go_roundw
        case rel => exact ⟨k + 1, by go_num, by omega, below_drewN (HQ.out.alloc _) _⟩
        case measure => simp [intOf]; omega
    · have ek : k = A.length + B.length := by omega
      go_wp2_with (fail)
      go_ret
      exact ⟨rfl, Q4.out.trans hq⟩

theorem walk (s : ByteArray) (hs : s.size ≤ 140737488351232) (t : ByteArray) (ht : t.size ≤ 140737488351232) (w : World) (hL : Laid w) :
    Calls Tryd.prog 6 #[.string s, .string t] w fun e w' => e = .returned (.bool true) ∧ Below w.heap.size w w' := by
  by_cases h : s.size + t.size < 65536
  · cases h1 : (Lx.lex 0 (bl s)).2 with
    | some p => exact walk_first s t w hL h p h1
    | none =>
      cases h2 : (Lx.lex 0 (bl t)).2 with
      | some p => exact walk_second s t w hL h h1 p h2
      | none => exact walk_both s t w hL h h1 h2
  · exact walk_long s hs t ht w hL (by omega)

set_option maxRecDepth 100000 in
theorem lifted (os : Os) (started : os.Started) (H : Type) (enc : TypeId × Value → H) :
    ReturnsInHanded {} Tryd.checked os 6 .any (fun w args => (Rows.lexJoinsSpec.pre enc Tryd.prog Tryd.f6 [] false w args ∧ laidMetH Tryd.prog laidBoth w) ∧ sizedMet enc Tryd.prog Tryd.f6 (OpenSpec.ofChange Rows.lexJoinsSpec) false w args)
      (Rows.lexJoinsSpec.post enc Tryd.prog Tryd.f6 false true false false) := by
  refine returnsInHanded_of_change_and (C := Tryd.checked) (X := fun w _ => laidMetH Tryd.prog laidBoth w) (fun _ _ _ hh h => h.of_heap hh) own started (by kernel_rfl) Tryd.func6
    (ChangeSpec.witness_shaped (enc := enc) (C := Tryd.checked) (os := os) (X := fun w _ => laidMetH Tryd.prog laidBoth w) false (World.doorLaid Tryd.prog 19 os) #[.string ⟨#[]⟩, .string ⟨#[]⟩] 8 rfl (World.shaped_of_RefB (by kernel_rfl) (by kernel_rfl)) (by kernel_rfl) (by kernel_rfl) (by kernel_rfl) (door_met os _)) ?_
  intro W base args ds gs before hval0 hW _ hz hL _
  have hval : ∀ (j : Nat) t v, Tryd.f6.params[j]? = some t → args[j]? = some v → Value.okWide Tryd.prog W .any base t v := hval0
  have hW' := hW
  obtain ⟨p, q, hA0, hV, rfl, hfz, hnd⟩ := hW
  have hA : DataW.TrodAll enc Tryd.prog W 0 (fun _ => true) true Tryd.f6.params.toList args.toList ds p := hA0
  rw [Tryd.params6] at hA hval
  obtain ⟨v0, vs0, d0, ds0, p0, q0, hargs, rfl, rfl, h0, r0⟩ := trodAll_cons hA
  obtain ⟨v1, vs1, d1, ds1, p1, q1, rfl, rfl, rfl, h1, r1⟩ := trodAll_cons r0
  obtain ⟨rfl, rfl, rfl⟩ := trodAll_nil r1
  obtain rfl : args = #[v0, v1] := by cases args; simp_all
  obtain ⟨rfl, rfl⟩ := trodVars_none hV
  have k0 := h0
  have lt0 : ∀ x ∈ p0, x.block < W.heap.size := by obtain ⟨m, hm⟩ := k0; exact DataW.trod_lt m _ _ _ hm
  obtain ⟨s0, rfl, hd0, _, _⟩ := open_string Tryd.underlying9 (hval 0 9 v0 rfl rfl) h0
  have ws0 : s0.size ≤ 140737488351232 := by rw [Lib.size_eq]; exact sized_string hz (j := 0) (t := 9) (by rw [Tryd.params6]; rfl) (by rw [hd0]; rfl)
  have k1 := h1
  have lt1 : ∀ x ∈ p1, x.block < W.heap.size := by obtain ⟨m, hm⟩ := k1; exact DataW.trod_lt m _ _ _ hm
  obtain ⟨s1, rfl, hd1, _, _⟩ := open_string Tryd.underlying9 (hval 1 9 v1 rfl rfl) h1
  have ws1 : s1.size ≤ 140737488351232 := by rw [Lib.size_eq]; exact sized_string hz (j := 1) (t := 9) (by rw [Tryd.params6]; rfl) (by rw [hd1]; rfl)
  clear hA0 hval0
  refine (walk s0 ws0 s1 ws1 W (of_laid hL)).mono fun e W' ⟨he, bel⟩ => ?_
  subst he
  exact ⟨_, rfl, _, _, _, [], _, [], hW', trodAll_mk1 (shut_bool Tryd.underlying4 _), (trodAll_cons_mk (Below.trod laidOut (by kernel_rfl) (of_decide_eq_true (by kernel_rfl)) k0 bel lt0) (trodAll_cons_mk (Below.trod laidOut (by kernel_rfl) (of_decide_eq_true (by kernel_rfl)) k1 bel lt1) trodAll_mk0)), rfl, bel.frame _, fun h => by cases h⟩

theorem over : Rows.LexJoinsSaid :=
  OpenClaim.holds_of_wide 6 Tryd.f6 rfl rfl rfl rfl rfl rfl rfl ⟨rfl, rfl, rfl, rfl, rfl⟩ rfl rfl rfl rfl rfl (by kernel_rfl) Tryd.func6 (by kernel_rfl)
    (of_decide_eq_true (by kernel_rfl)) (by unfold Func.isWrapper; first | (rw [if_pos (by decide +kernel)]; kernel_rfl) | (rw [if_neg (by decide +kernel)]; exact ⟨rfl, rfl⟩))
    (fun os started H enc _ => lifted os started H enc)

/-- THE STATEMENT -/
theorem proved : Rows.LexJoinsCardSaid :=
  Claim7.holds_tied_plain_at .later [] [.data, .data] true (true, "7edcfb5183f7a76e7813729b5af2413060b9d536d70ba5983f0e804409762c21") false
    over (fun _ h => by cases h) (by kernel_rfl) (fun _ h => by cases h) lexJoins_row_tie rfl ⟨rfl, rfl⟩ (by kernel_rfl) rfl
    (fun f fn hf hfn => by
      obtain rfl : f = 6 := Option.some.inj ((show Tryd.prog.funcNamed "burin/burinlaw04.LexJoins" = some 6 by kernel_rfl).symm.trans hf) |>.symm
      obtain rfl : fn = Tryd.f6 := (Option.some.inj (Tryd.func6.symm.trans hfn)).symm
      exact ⟨by kernel_rfl, fun j t ht => by
        rw [Tryd.params6] at ht
        have hm : t ∈ [9, 9] := by simpa using Array.mem_of_getElem? ht
        have hall : ([9, 9].all fun u => !Tryd.prog.wantsStandIn u) = true := by kernel_rfl
        exact (show Tryd.prog.wantsStandIn t = false by simpa using List.all_eq_true.1 hall t hm)⟩)
    (by kernel_rfl)
#print axioms proved
end Go.Proofs.YtkjkobiliinneaaDoor.lexJoins
