/-
  For every text and every number of a blank the statement LexBlanks returns true, and its arguments read as they did; the two lists of layer 4 are tied to the program's text; no conditions.
-/
import Derived.Test.YtkjkobiliinneaaDoorLaw
import Derived.Deep.QuietTactic
import Derived.BigQuiet
import Derived.BigRegion
import Derived.Deep.RegionWith
import Derived.Laws.Concat
namespace Go.Proofs.YtkjkobiliinneaaDoor.lexBlanks
open Go.ChangeShapes Go.WideShapes Go.ChangeAt Go.RowKit
open Go.ChangeMaps (open_string shut_string)
set_option linter.unusedVariables false

theorem spread_snoc (b : List UInt8) (ts : List Lx.Tk) (t : Lx.Tk) : Lx.spread b (ts ++ [t]) = Lx.spread b ts ++ (b ++ t.text) := by
  induction ts with
  | nil => simp [Lx.spread]
  | cons x ts ih => simp [Lx.spread, ih]

theorem add_fact (a b : ByteArray) (h : a.size + b.size ≤ 1000000) : ∃ c : ByteArray, (∀ w, (Op.stringOp .add a b).run Tryd.prog w = .ok (.string c) w) ∧ bl c = bl a ++ bl b ∧ c.size = a.size + b.size :=
  ⟨a ++ b, fun w => run_string_add_sum w _ _ (by omega), by simp [bl], by simp [ByteArray.size_append]⟩

theorem lex_text {s : ByteArray} (hs : s.size ≤ 65536) {q : Lx.Tk × Nat} (hq : q ∈ toks (bl s)) : q.1.text.length ≤ 65536 := by
  unfold toks at hq
  rcases List.mem_append.1 hq with hq | hq
  · have : ∀ (k : Nat) (l : List UInt8), l.length ≤ k → ∀ at_ q, q ∈ (Lx.lex at_ l).1 → q.1.text.length ≤ l.length := by
      intro k
      induction k with
      | zero =>
        intro l hk at_ q hq
        have : l = [] := List.eq_nil_of_length_eq_zero (by omega)
        subst this
        simp [Lx.lex_nil] at hq
      | succ k ih =>
        intro l hk at_ q hq
        by_cases hl : l = []
        · subst hl
          simp [Lx.lex_nil] at hq
        · have hl1 : 1 ≤ l.length := List.length_pos_iff.2 hl
          by_cases hb : Lx.blankN l = 0
          · cases ht : Lx.tok l with
            | none => rw [Lx.lex_none _ _ hb hl ht] at hq; cases hq
            | some t =>
              have hn := Lx.tok_len ht
              have hd : (l.drop t.text.length).length = l.length - t.text.length := List.length_drop
              rw [Lx.lex_tok _ _ _ hb ht] at hq
              rcases List.mem_cons.1 hq with e | e
              · subst e
                exact hn.2.2.1
              · have := ih _ (by omega) _ q e
                omega
          · have hd : (l.drop (Lx.blankN l)).length = l.length - Lx.blankN l := List.length_drop
            rw [Lx.lex_blank _ _ hb] at hq
            have := ih _ (by omega) _ q hq
            omega
    have := this (bl s).length (bl s) (Nat.le_refl _) 0 q hq
    rw [bl_len] at this
    omega
  · simp at hq
    rw [hq]
    exact Nat.zero_le _

theorem lex_count : ∀ (k : Nat) (l : List UInt8), l.length ≤ k → ∀ at_, (Lx.lex at_ l).1.length ≤ l.length := by
  intro k
  induction k with
  | zero =>
    intro l hk at_
    have : l = [] := List.eq_nil_of_length_eq_zero (by omega)
    subst this
    simp [Lx.lex_nil]
  | succ k ih =>
    intro l hk at_
    by_cases hl : l = []
    · subst hl
      simp [Lx.lex_nil]
    · have hl1 : 1 ≤ l.length := List.length_pos_iff.2 hl
      by_cases hb : Lx.blankN l = 0
      · cases ht : Lx.tok l with
        | none => rw [Lx.lex_none _ _ hb hl ht]; simp
        | some t =>
          have hn := Lx.tok_len ht
          have hd : (l.drop t.text.length).length = l.length - t.text.length := List.length_drop
          rw [Lx.lex_tok _ _ _ hb ht]
          have := ih (l.drop t.text.length) (by omega) (at_ + t.text.length)
          simp only [List.length_cons]
          omega
      · have hd : (l.drop (Lx.blankN l)).length = l.length - Lx.blankN l := List.length_drop
        rw [Lx.lex_blank _ _ hb]
        have := ih (l.drop (Lx.blankN l)) (by omega) (at_ + Lx.blankN l)
        omega

/-- What comes of the text with blanks ahead of each token. -/
theorem spread_toks (b l : List UInt8) (hb : Lx.Passed b) (h : (Lx.lex 0 l).2 = none) (x : List UInt8) (hx : x = Lx.spread b ((toks l).map (·.1))) : (Lx.lex 0 x).2 = none ∧ (toks x).map (·.1) = (toks l).map (·.1) := by
  have e : x = Lx.spread b ((Lx.lex 0 l).1.map (·.1)) ++ b := by
    rw [hx]
    unfold toks
    rw [List.map_append, List.map_cons, List.map_nil, spread_snoc]
    simp [endTk]
  obtain ⟨m, h1, h2⟩ := Lx.lex_spread b hb ((Lx.lex 0 l).1.map (·.1)) 0 (fun t ht => by
    obtain ⟨q, hq, rfl⟩ := List.mem_map.1 ht
    exact Lx.lex_each l.length l (Nat.le_refl _) 0 q hq)
  rw [← e] at h1
  refine ⟨by rw [h1], ?_⟩
  unfold toks
  rw [h1, List.map_append, List.map_append, h2]
  rfl

set_option maxRecDepth 100000 in
set_option maxHeartbeats 1000000 in
theorem walk_long (s : ByteArray) (z : Int) (w : World) (hL : Laid w) (h : 65536 < s.size) :
    Calls Tryd.prog 7 #[.string s, .int .u8 z] w fun e w' => e = .returned (.bool true) ∧ Below w.heap.size w w' := by
  have HA := hideIt (awake_any w hL)
  have HS := hideIt (fun x => lex_long s x h)
  clear hL h
  go_enter Tryd.func7, Tryd.ntmps7
  go_wp2_with (first | (go_at_call 8; refine HA.out.mono ?_; rintro e x1 ⟨rfl, q1⟩; have Q1 := hideIt q1; clear q1) | (go_at_call 9; refine (HS.out _).mono ?_; rintro e x2 ⟨rfl, rfl⟩) | fail)
  go_ret
  exact ⟨rfl, Q1.out⟩

set_option maxRecDepth 100000 in
set_option maxHeartbeats 1000000 in
theorem walk_bad (s : ByteArray) (z : Int) (w : World) (hL : Laid w) (h : s.size ≤ 65536) (p : Nat) (hp : (Lx.lex 0 (bl s)).2 = some p) :
    Calls Tryd.prog 7 #[.string s, .int .u8 z] w fun e w' => e = .returned (.bool true) ∧ Below w.heap.size w w' := by
  have HA := hideIt (awake_any w hL)
  have HS : Hid (∀ x, Q w x → Calls Tryd.prog 9 #[.string s] x fun e w' => e = .returned (.tuple #[.slice none 0 0, .int .i64 (p : Int), .int .i64 5]) ∧ Q x w') := fun x q => lex_bad s x h (hL.keep q) p hp
  clear hL h hp
  go_enter Tryd.func7, Tryd.ntmps7
  go_wp2_with (first | (go_at_call 8; refine HA.out.mono ?_; rintro e x1 ⟨rfl, q1⟩; have Q1 := hideIt q1; clear q1) | (go_at_call 9; refine (HS.out _ Q1.out).mono ?_; rintro e x2 ⟨rfl, q2⟩; have Q2 := hideIt (Q1.out.trans q2); clear q2) | fail)
  go_ret
  exact ⟨rfl, Q2.out⟩

set_option maxRecDepth 100000 in
set_option maxHeartbeats 2000000 in
theorem walk_0 (s : ByteArray) (z : Int) (hz0 : 0 ≤ z) (hz1 : z ≤ 255) (w : World) (hL : Laid w) (h : s.size ≤ 65536) (hn : (Lx.lex 0 (bl s)).2 = none) (hz : z % 5 = 0) :
    Calls Tryd.prog 7 #[.string s, .int .u8 z] w fun e w' => e = .returned (.bool true) ∧ Below w.heap.size w w' := by
  have HA := hideIt (awake_any w hL)
  have HS : Hid (∀ x, Q w x → Calls Tryd.prog 9 #[.string s] x fun e w' => ∃ g cap, e = .returned (.tuple #[.slice (some ⟨g, 0, none⟩) (toks (bl s)).length cap, .int .i64 0, .int .i64 0]) ∧ x.heap.size ≤ g ∧ Tks w' g cap (toks (bl s)) ∧ Q x w') := fun x q => lex_ok s x h (hL.keep q) hn
  have HP : Hid (Lx.Passed [32]) := Lx.passed_one 32 (by decide)
  have HX := hideIt (fun x hx => spread_toks [32] (bl s) HP.out hn x hx)
  have HTX : Hid (∀ q ∈ toks (bl s), q.1.text.length ≤ 65536) := fun q hq => lex_text h hq
  have HLL := hideIt hL
  have hml : (toks (bl s)).length ≤ 65537 := by
    have := lex_count (bl s).length (bl s) (Nat.le_refl _) 0
    rw [bl_len] at this
    simp [toks]
    omega
  obtain ⟨L, hLe⟩ : ∃ L, toks (bl s) = L := ⟨_, rfl⟩
  rw [hLe] at HS HX HTX hml
  clear hL hn hLe
  go_enter Tryd.func7, Tryd.ntmps7
  go_wp2_with (first | (go_at_call 8; refine HA.out.mono ?_; rintro e x1 ⟨rfl, q1⟩; have Q1 := hideIt q1; clear q1) | (go_at_call 9; refine (HS.out _ Q1.out).mono ?_; rintro e x2 ⟨g, cap, rfl, bg, tk, q2⟩; have TK := hideIt tk; have Q2 := hideIt (Q1.out.trans q2); clear q2 tk bg) | fail)
  clear HA HS Q1
  go_loopw [9, 10] (fun v i wr => ∃ (k : Nat) (tt : ByteArray), v = .string tt ∧ i = .int .i64 k ∧ k ≤ L.length ∧ tt.size ≤ 3000 ∧ Hid (bl tt = Lx.spread [32] ((L.take k).map (·.1))) ∧ Q x2 wr) (fun _ i _ => L.length - (intOf i).toNat)
  case atStart => exact ⟨0, ⟨#[]⟩, rfl, rfl, Nat.zero_le _, by decide, rfl, (Q.refl _).alloc _⟩
  case round =>
    obtain ⟨k, tt, rfl, rfl, hk, htt, HT, hq⟩ := hrel
    have HQ := hideIt hq
    clear hq
    by_cases hlt : k < L.length
    · have hki : (k : Int) < (L.length : Int) := by omega
      obtain ⟨q, hqa⟩ : ∃ q, L[k]? = some q := ⟨L[k], List.getElem?_eq_getElem hlt⟩
      have tk := TK.out.keep HQ.out
      obtain ⟨a0, a1, a2, a3, a4⟩ := tk.five k q hqa
      have htx := HTX.out q (List.mem_of_getElem? hqa)
      have hts : (⟨q.1.text.toArray⟩ : ByteArray).size = q.1.text.length := by simp [ByteArray.size]
      have hbs : (⟨#[32]⟩ : ByteArray).size = 1 := rfl
      obtain ⟨y1, p1, e1, z1⟩ := add_fact ⟨#[32]⟩ ⟨q.1.text.toArray⟩ (by rw [hts, hbs]; omega)
      rw [hts, hbs] at z1
      obtain ⟨y2, p2, e2, z2⟩ := add_fact tt y1 (by omega)
      have HN : Hid (bl y2 = Lx.spread [32] ((L.take (k + 1)).map (·.1))) := by
        show _ = _
        rw [List.take_add_one, hqa, Option.toList_some, List.map_append, List.map_cons, List.map_nil, spread_snoc, e2, e1, HT.out, bl_mk]
      clear tk hts hbs e1 e2 z1 a0 a2 a3 a4 hqa HT
      by_cases h3 : 3000 < y2.size
      · have hd3 : decide ((3000 : Int) < (y2.size : Int)) = true := by simp; omega
        clear z2
        go_wp2_with (fail)
        go_ret
        exact ⟨rfl, Q2.out.trans HQ.out⟩
      · have hd3 : decide ((3000 : Int) < (y2.size : Int)) = false := by simp; omega
        clear z2
        go_wp2_with (fail)
        go_roundw
        case rel => exact ⟨k + 1, y2, rfl, by go_num, by omega, by omega, HN, HQ.out⟩
        case measure => simp [intOf]; omega
    · have hki : ¬ (k : Int) < (L.length : Int) := by omega
      have ek : k = L.length := by omega
      subst ek
      rw [List.take_length] at HT
      obtain ⟨hn2, hm2⟩ := HX.out (bl tt) HT.out
      have HC : Hid (∀ x, Q w x → Calls Tryd.prog 9 #[.string tt] x fun e w' => ∃ g cap, e = .returned (.tuple #[.slice (some ⟨g, 0, none⟩) (toks (bl tt)).length cap, .int .i64 0, .int .i64 0]) ∧ x.heap.size ≤ g ∧ Tks w' g cap (toks (bl tt)) ∧ Q x w') := fun x q => lex_ok tt x (by omega) (HLL.out.keep q) hn2
      obtain ⟨M, hMe⟩ : ∃ M, toks (bl tt) = M := ⟨_, rfl⟩
      rw [hMe] at HC hm2
      have hml2 : M.length = L.length := by have := congrArg List.length hm2; simpa using this
      rw [hml2] at HC
      have HM := hideIt hm2
      have HML := hideIt hml2
      have Q3 := hideIt (Q2.out.trans HQ.out)
      have TK3 := hideIt (TK.out.keep HQ.out)
      have hee : ((L.length : Int) != (L.length : Int)) = false := by simp
      clear hn2 hMe hm2 hml2 HT HX HTX HP
      go_wp2_with (first | (go_at_call 9; refine (HC.out _ Q3.out).mono ?_; rintro e x3 ⟨gc, cc, rfl, bc, tc, q3⟩; have TC := hideIt tc; have TK4 := hideIt (TK3.out.keep q3); have Q4 := hideIt (Q3.out.trans q3); clear q3 tc bc) | fail)
      clear HC Q3 TK3 HQ TK
      go_loopw [14] (fun i wr => ∃ k : Nat, i = .int .i64 k ∧ k ≤ L.length ∧ Q x3 wr) (fun i _ => L.length - (intOf i).toNat)
      case atStart => exact ⟨0, rfl, Nat.zero_le _, Q.refl _⟩
      case round =>
        obtain ⟨k, rfl, hk, hq⟩ := hrel
        by_cases hlt : k < L.length
        · have hki : (k : Int) < (L.length : Int) := by omega
          have tc := TC.out.keep hq
          have ta := TK4.out.keep hq
          have hgc : gc < wr.heap.size := tc.lt
          have hga : g < wr.heap.size := ta.lt
          obtain ⟨q, hqa⟩ : ∃ q, L[k]? = some q := ⟨L[k], List.getElem?_eq_getElem hlt⟩
          obtain ⟨q', hqb⟩ : ∃ q', M[k]? = some q' := ⟨M[k]'(by rw [HML.out]; exact hlt), List.getElem?_eq_getElem _⟩
          have e1 : q'.1 = q.1 := by
            have := congrArg (fun l => l[k]?) HM.out
            simp only [List.getElem?_map, hqa, hqb, Option.map_some, Option.some.injEq] at this
            exact this
          obtain ⟨a0, a1, a2, a3, a4⟩ := ta.five k q hqa
          obtain ⟨c0, c1, c2, c3, c4⟩ := tc.five k q' hqb
          rw [e1] at c0 c1 c2 c3
          have HQ := hideIt hq
          clear ta tc hq hqa hqb e1
          obtain ⟨⟨kd, tx, n, ty⟩, at_⟩ := q
          obtain ⟨tk', at2⟩ := q'
          simp only at a0 a1 a2 a3 a4 c0 c1 c2 c3 c4
          go_wp2_with (fail)
          go_roundw
          case rel => exact ⟨k + 1, by go_num, by omega, (HQ.out.alloc _).alloc _⟩
          case measure => simp [intOf]; omega
        · have hki : ¬ (k : Int) < (L.length : Int) := by omega
          go_wp2_with (fail)
          go_ret
          exact ⟨rfl, Q4.out.trans hq⟩

set_option maxRecDepth 100000 in
set_option maxHeartbeats 2000000 in
theorem walk_1 (s : ByteArray) (z : Int) (hz0 : 0 ≤ z) (hz1 : z ≤ 255) (w : World) (hL : Laid w) (h : s.size ≤ 65536) (hn : (Lx.lex 0 (bl s)).2 = none) (hz : z % 5 = 1) :
    Calls Tryd.prog 7 #[.string s, .int .u8 z] w fun e w' => e = .returned (.bool true) ∧ Below w.heap.size w w' := by
  have HA := hideIt (awake_any w hL)
  have HS : Hid (∀ x, Q w x → Calls Tryd.prog 9 #[.string s] x fun e w' => ∃ g cap, e = .returned (.tuple #[.slice (some ⟨g, 0, none⟩) (toks (bl s)).length cap, .int .i64 0, .int .i64 0]) ∧ x.heap.size ≤ g ∧ Tks w' g cap (toks (bl s)) ∧ Q x w') := fun x q => lex_ok s x h (hL.keep q) hn
  have HP : Hid (Lx.Passed [9]) := Lx.passed_one 9 (by decide)
  have HX := hideIt (fun x hx => spread_toks [9] (bl s) HP.out hn x hx)
  have HTX : Hid (∀ q ∈ toks (bl s), q.1.text.length ≤ 65536) := fun q hq => lex_text h hq
  have HLL := hideIt hL
  have hml : (toks (bl s)).length ≤ 65537 := by
    have := lex_count (bl s).length (bl s) (Nat.le_refl _) 0
    rw [bl_len] at this
    simp [toks]
    omega
  obtain ⟨L, hLe⟩ : ∃ L, toks (bl s) = L := ⟨_, rfl⟩
  rw [hLe] at HS HX HTX hml
  clear hL hn hLe
  go_enter Tryd.func7, Tryd.ntmps7
  go_wp2_with (first | (go_at_call 8; refine HA.out.mono ?_; rintro e x1 ⟨rfl, q1⟩; have Q1 := hideIt q1; clear q1) | (go_at_call 9; refine (HS.out _ Q1.out).mono ?_; rintro e x2 ⟨g, cap, rfl, bg, tk, q2⟩; have TK := hideIt tk; have Q2 := hideIt (Q1.out.trans q2); clear q2 tk bg) | fail)
  clear HA HS Q1
  go_loopw [9, 10] (fun v i wr => ∃ (k : Nat) (tt : ByteArray), v = .string tt ∧ i = .int .i64 k ∧ k ≤ L.length ∧ tt.size ≤ 3000 ∧ Hid (bl tt = Lx.spread [9] ((L.take k).map (·.1))) ∧ Q x2 wr) (fun _ i _ => L.length - (intOf i).toNat)
  case atStart => exact ⟨0, ⟨#[]⟩, rfl, rfl, Nat.zero_le _, by decide, rfl, (Q.refl _).alloc _⟩
  case round =>
    obtain ⟨k, tt, rfl, rfl, hk, htt, HT, hq⟩ := hrel
    have HQ := hideIt hq
    clear hq
    by_cases hlt : k < L.length
    · have hki : (k : Int) < (L.length : Int) := by omega
      obtain ⟨q, hqa⟩ : ∃ q, L[k]? = some q := ⟨L[k], List.getElem?_eq_getElem hlt⟩
      have tk := TK.out.keep HQ.out
      obtain ⟨a0, a1, a2, a3, a4⟩ := tk.five k q hqa
      have htx := HTX.out q (List.mem_of_getElem? hqa)
      have hts : (⟨q.1.text.toArray⟩ : ByteArray).size = q.1.text.length := by simp [ByteArray.size]
      have hbs : (⟨#[9]⟩ : ByteArray).size = 1 := rfl
      obtain ⟨y1, p1, e1, z1⟩ := add_fact ⟨#[9]⟩ ⟨q.1.text.toArray⟩ (by rw [hts, hbs]; omega)
      rw [hts, hbs] at z1
      obtain ⟨y2, p2, e2, z2⟩ := add_fact tt y1 (by omega)
      have HN : Hid (bl y2 = Lx.spread [9] ((L.take (k + 1)).map (·.1))) := by
        show _ = _
        rw [List.take_add_one, hqa, Option.toList_some, List.map_append, List.map_cons, List.map_nil, spread_snoc, e2, e1, HT.out, bl_mk]
      clear tk hts hbs e1 e2 z1 a0 a2 a3 a4 hqa HT
      by_cases h3 : 3000 < y2.size
      · have hd3 : decide ((3000 : Int) < (y2.size : Int)) = true := by simp; omega
        clear z2
        go_wp2_with (fail)
        go_ret
        exact ⟨rfl, Q2.out.trans HQ.out⟩
      · have hd3 : decide ((3000 : Int) < (y2.size : Int)) = false := by simp; omega
        clear z2
        go_wp2_with (fail)
        go_roundw
        case rel => exact ⟨k + 1, y2, rfl, by go_num, by omega, by omega, HN, HQ.out⟩
        case measure => simp [intOf]; omega
    · have hki : ¬ (k : Int) < (L.length : Int) := by omega
      have ek : k = L.length := by omega
      subst ek
      rw [List.take_length] at HT
      obtain ⟨hn2, hm2⟩ := HX.out (bl tt) HT.out
      have HC : Hid (∀ x, Q w x → Calls Tryd.prog 9 #[.string tt] x fun e w' => ∃ g cap, e = .returned (.tuple #[.slice (some ⟨g, 0, none⟩) (toks (bl tt)).length cap, .int .i64 0, .int .i64 0]) ∧ x.heap.size ≤ g ∧ Tks w' g cap (toks (bl tt)) ∧ Q x w') := fun x q => lex_ok tt x (by omega) (HLL.out.keep q) hn2
      obtain ⟨M, hMe⟩ : ∃ M, toks (bl tt) = M := ⟨_, rfl⟩
      rw [hMe] at HC hm2
      have hml2 : M.length = L.length := by have := congrArg List.length hm2; simpa using this
      rw [hml2] at HC
      have HM := hideIt hm2
      have HML := hideIt hml2
      have Q3 := hideIt (Q2.out.trans HQ.out)
      have TK3 := hideIt (TK.out.keep HQ.out)
      have hee : ((L.length : Int) != (L.length : Int)) = false := by simp
      clear hn2 hMe hm2 hml2 HT HX HTX HP
      go_wp2_with (first | (go_at_call 9; refine (HC.out _ Q3.out).mono ?_; rintro e x3 ⟨gc, cc, rfl, bc, tc, q3⟩; have TC := hideIt tc; have TK4 := hideIt (TK3.out.keep q3); have Q4 := hideIt (Q3.out.trans q3); clear q3 tc bc) | fail)
      clear HC Q3 TK3 HQ TK
      go_loopw [14] (fun i wr => ∃ k : Nat, i = .int .i64 k ∧ k ≤ L.length ∧ Q x3 wr) (fun i _ => L.length - (intOf i).toNat)
      case atStart => exact ⟨0, rfl, Nat.zero_le _, Q.refl _⟩
      case round =>
        obtain ⟨k, rfl, hk, hq⟩ := hrel
        by_cases hlt : k < L.length
        · have hki : (k : Int) < (L.length : Int) := by omega
          have tc := TC.out.keep hq
          have ta := TK4.out.keep hq
          have hgc : gc < wr.heap.size := tc.lt
          have hga : g < wr.heap.size := ta.lt
          obtain ⟨q, hqa⟩ : ∃ q, L[k]? = some q := ⟨L[k], List.getElem?_eq_getElem hlt⟩
          obtain ⟨q', hqb⟩ : ∃ q', M[k]? = some q' := ⟨M[k]'(by rw [HML.out]; exact hlt), List.getElem?_eq_getElem _⟩
          have e1 : q'.1 = q.1 := by
            have := congrArg (fun l => l[k]?) HM.out
            simp only [List.getElem?_map, hqa, hqb, Option.map_some, Option.some.injEq] at this
            exact this
          obtain ⟨a0, a1, a2, a3, a4⟩ := ta.five k q hqa
          obtain ⟨c0, c1, c2, c3, c4⟩ := tc.five k q' hqb
          rw [e1] at c0 c1 c2 c3
          have HQ := hideIt hq
          clear ta tc hq hqa hqb e1
          obtain ⟨⟨kd, tx, n, ty⟩, at_⟩ := q
          obtain ⟨tk', at2⟩ := q'
          simp only at a0 a1 a2 a3 a4 c0 c1 c2 c3 c4
          go_wp2_with (fail)
          go_roundw
          case rel => exact ⟨k + 1, by go_num, by omega, (HQ.out.alloc _).alloc _⟩
          case measure => simp [intOf]; omega
        · have hki : ¬ (k : Int) < (L.length : Int) := by omega
          go_wp2_with (fail)
          go_ret
          exact ⟨rfl, Q4.out.trans hq⟩

set_option maxRecDepth 100000 in
set_option maxHeartbeats 2000000 in
theorem walk_2 (s : ByteArray) (z : Int) (hz0 : 0 ≤ z) (hz1 : z ≤ 255) (w : World) (hL : Laid w) (h : s.size ≤ 65536) (hn : (Lx.lex 0 (bl s)).2 = none) (hz : z % 5 = 2) :
    Calls Tryd.prog 7 #[.string s, .int .u8 z] w fun e w' => e = .returned (.bool true) ∧ Below w.heap.size w w' := by
  have HA := hideIt (awake_any w hL)
  have HS : Hid (∀ x, Q w x → Calls Tryd.prog 9 #[.string s] x fun e w' => ∃ g cap, e = .returned (.tuple #[.slice (some ⟨g, 0, none⟩) (toks (bl s)).length cap, .int .i64 0, .int .i64 0]) ∧ x.heap.size ≤ g ∧ Tks w' g cap (toks (bl s)) ∧ Q x w') := fun x q => lex_ok s x h (hL.keep q) hn
  have HP : Hid (Lx.Passed [10]) := Lx.passed_one 10 (by decide)
  have HX := hideIt (fun x hx => spread_toks [10] (bl s) HP.out hn x hx)
  have HTX : Hid (∀ q ∈ toks (bl s), q.1.text.length ≤ 65536) := fun q hq => lex_text h hq
  have HLL := hideIt hL
  have hml : (toks (bl s)).length ≤ 65537 := by
    have := lex_count (bl s).length (bl s) (Nat.le_refl _) 0
    rw [bl_len] at this
    simp [toks]
    omega
  obtain ⟨L, hLe⟩ : ∃ L, toks (bl s) = L := ⟨_, rfl⟩
  rw [hLe] at HS HX HTX hml
  clear hL hn hLe
  go_enter Tryd.func7, Tryd.ntmps7
  go_wp2_with (first | (go_at_call 8; refine HA.out.mono ?_; rintro e x1 ⟨rfl, q1⟩; have Q1 := hideIt q1; clear q1) | (go_at_call 9; refine (HS.out _ Q1.out).mono ?_; rintro e x2 ⟨g, cap, rfl, bg, tk, q2⟩; have TK := hideIt tk; have Q2 := hideIt (Q1.out.trans q2); clear q2 tk bg) | fail)
  clear HA HS Q1
  go_loopw [9, 10] (fun v i wr => ∃ (k : Nat) (tt : ByteArray), v = .string tt ∧ i = .int .i64 k ∧ k ≤ L.length ∧ tt.size ≤ 3000 ∧ Hid (bl tt = Lx.spread [10] ((L.take k).map (·.1))) ∧ Q x2 wr) (fun _ i _ => L.length - (intOf i).toNat)
  case atStart => exact ⟨0, ⟨#[]⟩, rfl, rfl, Nat.zero_le _, by decide, rfl, (Q.refl _).alloc _⟩
  case round =>
    obtain ⟨k, tt, rfl, rfl, hk, htt, HT, hq⟩ := hrel
    have HQ := hideIt hq
    clear hq
    by_cases hlt : k < L.length
    · have hki : (k : Int) < (L.length : Int) := by omega
      obtain ⟨q, hqa⟩ : ∃ q, L[k]? = some q := ⟨L[k], List.getElem?_eq_getElem hlt⟩
      have tk := TK.out.keep HQ.out
      obtain ⟨a0, a1, a2, a3, a4⟩ := tk.five k q hqa
      have htx := HTX.out q (List.mem_of_getElem? hqa)
      have hts : (⟨q.1.text.toArray⟩ : ByteArray).size = q.1.text.length := by simp [ByteArray.size]
      have hbs : (⟨#[10]⟩ : ByteArray).size = 1 := rfl
      obtain ⟨y1, p1, e1, z1⟩ := add_fact ⟨#[10]⟩ ⟨q.1.text.toArray⟩ (by rw [hts, hbs]; omega)
      rw [hts, hbs] at z1
      obtain ⟨y2, p2, e2, z2⟩ := add_fact tt y1 (by omega)
      have HN : Hid (bl y2 = Lx.spread [10] ((L.take (k + 1)).map (·.1))) := by
        show _ = _
        rw [List.take_add_one, hqa, Option.toList_some, List.map_append, List.map_cons, List.map_nil, spread_snoc, e2, e1, HT.out, bl_mk]
      clear tk hts hbs e1 e2 z1 a0 a2 a3 a4 hqa HT
      by_cases h3 : 3000 < y2.size
      · have hd3 : decide ((3000 : Int) < (y2.size : Int)) = true := by simp; omega
        clear z2
        go_wp2_with (fail)
        go_ret
        exact ⟨rfl, Q2.out.trans HQ.out⟩
      · have hd3 : decide ((3000 : Int) < (y2.size : Int)) = false := by simp; omega
        clear z2
        go_wp2_with (fail)
        go_roundw
        case rel => exact ⟨k + 1, y2, rfl, by go_num, by omega, by omega, HN, HQ.out⟩
        case measure => simp [intOf]; omega
    · have hki : ¬ (k : Int) < (L.length : Int) := by omega
      have ek : k = L.length := by omega
      subst ek
      rw [List.take_length] at HT
      obtain ⟨hn2, hm2⟩ := HX.out (bl tt) HT.out
      have HC : Hid (∀ x, Q w x → Calls Tryd.prog 9 #[.string tt] x fun e w' => ∃ g cap, e = .returned (.tuple #[.slice (some ⟨g, 0, none⟩) (toks (bl tt)).length cap, .int .i64 0, .int .i64 0]) ∧ x.heap.size ≤ g ∧ Tks w' g cap (toks (bl tt)) ∧ Q x w') := fun x q => lex_ok tt x (by omega) (HLL.out.keep q) hn2
      obtain ⟨M, hMe⟩ : ∃ M, toks (bl tt) = M := ⟨_, rfl⟩
      rw [hMe] at HC hm2
      have hml2 : M.length = L.length := by have := congrArg List.length hm2; simpa using this
      rw [hml2] at HC
      have HM := hideIt hm2
      have HML := hideIt hml2
      have Q3 := hideIt (Q2.out.trans HQ.out)
      have TK3 := hideIt (TK.out.keep HQ.out)
      have hee : ((L.length : Int) != (L.length : Int)) = false := by simp
      clear hn2 hMe hm2 hml2 HT HX HTX HP
      go_wp2_with (first | (go_at_call 9; refine (HC.out _ Q3.out).mono ?_; rintro e x3 ⟨gc, cc, rfl, bc, tc, q3⟩; have TC := hideIt tc; have TK4 := hideIt (TK3.out.keep q3); have Q4 := hideIt (Q3.out.trans q3); clear q3 tc bc) | fail)
      clear HC Q3 TK3 HQ TK
      go_loopw [14] (fun i wr => ∃ k : Nat, i = .int .i64 k ∧ k ≤ L.length ∧ Q x3 wr) (fun i _ => L.length - (intOf i).toNat)
      case atStart => exact ⟨0, rfl, Nat.zero_le _, Q.refl _⟩
      case round =>
        obtain ⟨k, rfl, hk, hq⟩ := hrel
        by_cases hlt : k < L.length
        · have hki : (k : Int) < (L.length : Int) := by omega
          have tc := TC.out.keep hq
          have ta := TK4.out.keep hq
          have hgc : gc < wr.heap.size := tc.lt
          have hga : g < wr.heap.size := ta.lt
          obtain ⟨q, hqa⟩ : ∃ q, L[k]? = some q := ⟨L[k], List.getElem?_eq_getElem hlt⟩
          obtain ⟨q', hqb⟩ : ∃ q', M[k]? = some q' := ⟨M[k]'(by rw [HML.out]; exact hlt), List.getElem?_eq_getElem _⟩
          have e1 : q'.1 = q.1 := by
            have := congrArg (fun l => l[k]?) HM.out
            simp only [List.getElem?_map, hqa, hqb, Option.map_some, Option.some.injEq] at this
            exact this
          obtain ⟨a0, a1, a2, a3, a4⟩ := ta.five k q hqa
          obtain ⟨c0, c1, c2, c3, c4⟩ := tc.five k q' hqb
          rw [e1] at c0 c1 c2 c3
          have HQ := hideIt hq
          clear ta tc hq hqa hqb e1
          obtain ⟨⟨kd, tx, n, ty⟩, at_⟩ := q
          obtain ⟨tk', at2⟩ := q'
          simp only at a0 a1 a2 a3 a4 c0 c1 c2 c3 c4
          go_wp2_with (fail)
          go_roundw
          case rel => exact ⟨k + 1, by go_num, by omega, (HQ.out.alloc _).alloc _⟩
          case measure => simp [intOf]; omega
        · have hki : ¬ (k : Int) < (L.length : Int) := by omega
          go_wp2_with (fail)
          go_ret
          exact ⟨rfl, Q4.out.trans hq⟩

set_option maxRecDepth 100000 in
set_option maxHeartbeats 2000000 in
theorem walk_3 (s : ByteArray) (z : Int) (hz0 : 0 ≤ z) (hz1 : z ≤ 255) (w : World) (hL : Laid w) (h : s.size ≤ 65536) (hn : (Lx.lex 0 (bl s)).2 = none) (hz : z % 5 = 3) :
    Calls Tryd.prog 7 #[.string s, .int .u8 z] w fun e w' => e = .returned (.bool true) ∧ Below w.heap.size w w' := by
  have HA := hideIt (awake_any w hL)
  have HS : Hid (∀ x, Q w x → Calls Tryd.prog 9 #[.string s] x fun e w' => ∃ g cap, e = .returned (.tuple #[.slice (some ⟨g, 0, none⟩) (toks (bl s)).length cap, .int .i64 0, .int .i64 0]) ∧ x.heap.size ≤ g ∧ Tks w' g cap (toks (bl s)) ∧ Q x w') := fun x q => lex_ok s x h (hL.keep q) hn
  have HP : Hid (Lx.Passed [32, 47, 47, 32, 40, 43, 10]) := Lx.passed_remark
  have HX := hideIt (fun x hx => spread_toks [32, 47, 47, 32, 40, 43, 10] (bl s) HP.out hn x hx)
  have HTX : Hid (∀ q ∈ toks (bl s), q.1.text.length ≤ 65536) := fun q hq => lex_text h hq
  have HLL := hideIt hL
  have hml : (toks (bl s)).length ≤ 65537 := by
    have := lex_count (bl s).length (bl s) (Nat.le_refl _) 0
    rw [bl_len] at this
    simp [toks]
    omega
  obtain ⟨L, hLe⟩ : ∃ L, toks (bl s) = L := ⟨_, rfl⟩
  rw [hLe] at HS HX HTX hml
  clear hL hn hLe
  go_enter Tryd.func7, Tryd.ntmps7
  go_wp2_with (first | (go_at_call 8; refine HA.out.mono ?_; rintro e x1 ⟨rfl, q1⟩; have Q1 := hideIt q1; clear q1) | (go_at_call 9; refine (HS.out _ Q1.out).mono ?_; rintro e x2 ⟨g, cap, rfl, bg, tk, q2⟩; have TK := hideIt tk; have Q2 := hideIt (Q1.out.trans q2); clear q2 tk bg) | fail)
  clear HA HS Q1
  go_loopw [9, 10] (fun v i wr => ∃ (k : Nat) (tt : ByteArray), v = .string tt ∧ i = .int .i64 k ∧ k ≤ L.length ∧ tt.size ≤ 3000 ∧ Hid (bl tt = Lx.spread [32, 47, 47, 32, 40, 43, 10] ((L.take k).map (·.1))) ∧ Q x2 wr) (fun _ i _ => L.length - (intOf i).toNat)
  case atStart => exact ⟨0, ⟨#[]⟩, rfl, rfl, Nat.zero_le _, by decide, rfl, (Q.refl _).alloc _⟩
  case round =>
    obtain ⟨k, tt, rfl, rfl, hk, htt, HT, hq⟩ := hrel
    have HQ := hideIt hq
    clear hq
    by_cases hlt : k < L.length
    · have hki : (k : Int) < (L.length : Int) := by omega
      obtain ⟨q, hqa⟩ : ∃ q, L[k]? = some q := ⟨L[k], List.getElem?_eq_getElem hlt⟩
      have tk := TK.out.keep HQ.out
      obtain ⟨a0, a1, a2, a3, a4⟩ := tk.five k q hqa
      have htx := HTX.out q (List.mem_of_getElem? hqa)
      have hts : (⟨q.1.text.toArray⟩ : ByteArray).size = q.1.text.length := by simp [ByteArray.size]
      have hbs : (⟨#[32, 47, 47, 32, 40, 43, 10]⟩ : ByteArray).size = 7 := rfl
      obtain ⟨y1, p1, e1, z1⟩ := add_fact ⟨#[32, 47, 47, 32, 40, 43, 10]⟩ ⟨q.1.text.toArray⟩ (by rw [hts, hbs]; omega)
      rw [hts, hbs] at z1
      obtain ⟨y2, p2, e2, z2⟩ := add_fact tt y1 (by omega)
      have HN : Hid (bl y2 = Lx.spread [32, 47, 47, 32, 40, 43, 10] ((L.take (k + 1)).map (·.1))) := by
        show _ = _
        rw [List.take_add_one, hqa, Option.toList_some, List.map_append, List.map_cons, List.map_nil, spread_snoc, e2, e1, HT.out, bl_mk]
      clear tk hts hbs e1 e2 z1 a0 a2 a3 a4 hqa HT
      by_cases h3 : 3000 < y2.size
      · have hd3 : decide ((3000 : Int) < (y2.size : Int)) = true := by simp; omega
        clear z2
        go_wp2_with (fail)
        go_ret
        exact ⟨rfl, Q2.out.trans HQ.out⟩
      · have hd3 : decide ((3000 : Int) < (y2.size : Int)) = false := by simp; omega
        clear z2
        go_wp2_with (fail)
        go_roundw
        case rel => exact ⟨k + 1, y2, rfl, by go_num, by omega, by omega, HN, HQ.out⟩
        case measure => simp [intOf]; omega
    · have hki : ¬ (k : Int) < (L.length : Int) := by omega
      have ek : k = L.length := by omega
      subst ek
      rw [List.take_length] at HT
      obtain ⟨hn2, hm2⟩ := HX.out (bl tt) HT.out
      have HC : Hid (∀ x, Q w x → Calls Tryd.prog 9 #[.string tt] x fun e w' => ∃ g cap, e = .returned (.tuple #[.slice (some ⟨g, 0, none⟩) (toks (bl tt)).length cap, .int .i64 0, .int .i64 0]) ∧ x.heap.size ≤ g ∧ Tks w' g cap (toks (bl tt)) ∧ Q x w') := fun x q => lex_ok tt x (by omega) (HLL.out.keep q) hn2
      obtain ⟨M, hMe⟩ : ∃ M, toks (bl tt) = M := ⟨_, rfl⟩
      rw [hMe] at HC hm2
      have hml2 : M.length = L.length := by have := congrArg List.length hm2; simpa using this
      rw [hml2] at HC
      have HM := hideIt hm2
      have HML := hideIt hml2
      have Q3 := hideIt (Q2.out.trans HQ.out)
      have TK3 := hideIt (TK.out.keep HQ.out)
      have hee : ((L.length : Int) != (L.length : Int)) = false := by simp
      clear hn2 hMe hm2 hml2 HT HX HTX HP
      go_wp2_with (first | (go_at_call 9; refine (HC.out _ Q3.out).mono ?_; rintro e x3 ⟨gc, cc, rfl, bc, tc, q3⟩; have TC := hideIt tc; have TK4 := hideIt (TK3.out.keep q3); have Q4 := hideIt (Q3.out.trans q3); clear q3 tc bc) | fail)
      clear HC Q3 TK3 HQ TK
      go_loopw [14] (fun i wr => ∃ k : Nat, i = .int .i64 k ∧ k ≤ L.length ∧ Q x3 wr) (fun i _ => L.length - (intOf i).toNat)
      case atStart => exact ⟨0, rfl, Nat.zero_le _, Q.refl _⟩
      case round =>
        obtain ⟨k, rfl, hk, hq⟩ := hrel
        by_cases hlt : k < L.length
        · have hki : (k : Int) < (L.length : Int) := by omega
          have tc := TC.out.keep hq
          have ta := TK4.out.keep hq
          have hgc : gc < wr.heap.size := tc.lt
          have hga : g < wr.heap.size := ta.lt
          obtain ⟨q, hqa⟩ : ∃ q, L[k]? = some q := ⟨L[k], List.getElem?_eq_getElem hlt⟩
          obtain ⟨q', hqb⟩ : ∃ q', M[k]? = some q' := ⟨M[k]'(by rw [HML.out]; exact hlt), List.getElem?_eq_getElem _⟩
          have e1 : q'.1 = q.1 := by
            have := congrArg (fun l => l[k]?) HM.out
            simp only [List.getElem?_map, hqa, hqb, Option.map_some, Option.some.injEq] at this
            exact this
          obtain ⟨a0, a1, a2, a3, a4⟩ := ta.five k q hqa
          obtain ⟨c0, c1, c2, c3, c4⟩ := tc.five k q' hqb
          rw [e1] at c0 c1 c2 c3
          have HQ := hideIt hq
          clear ta tc hq hqa hqb e1
          obtain ⟨⟨kd, tx, n, ty⟩, at_⟩ := q
          obtain ⟨tk', at2⟩ := q'
          simp only at a0 a1 a2 a3 a4 c0 c1 c2 c3 c4
          go_wp2_with (fail)
          go_roundw
          case rel => exact ⟨k + 1, by go_num, by omega, (HQ.out.alloc _).alloc _⟩
          case measure => simp [intOf]; omega
        · have hki : ¬ (k : Int) < (L.length : Int) := by omega
          go_wp2_with (fail)
          go_ret
          exact ⟨rfl, Q4.out.trans hq⟩

set_option maxRecDepth 100000 in
set_option maxHeartbeats 2000000 in
theorem walk_4 (s : ByteArray) (z : Int) (hz0 : 0 ≤ z) (hz1 : z ≤ 255) (w : World) (hL : Laid w) (h : s.size ≤ 65536) (hn : (Lx.lex 0 (bl s)).2 = none) (hz : z % 5 = 4) :
    Calls Tryd.prog 7 #[.string s, .int .u8 z] w fun e w' => e = .returned (.bool true) ∧ Below w.heap.size w w' := by
  have HA := hideIt (awake_any w hL)
  have HS : Hid (∀ x, Q w x → Calls Tryd.prog 9 #[.string s] x fun e w' => ∃ g cap, e = .returned (.tuple #[.slice (some ⟨g, 0, none⟩) (toks (bl s)).length cap, .int .i64 0, .int .i64 0]) ∧ x.heap.size ≤ g ∧ Tks w' g cap (toks (bl s)) ∧ Q x w') := fun x q => lex_ok s x h (hL.keep q) hn
  have HP : Hid (Lx.Passed [32, 32, 10]) := Lx.passed_three
  have HX := hideIt (fun x hx => spread_toks [32, 32, 10] (bl s) HP.out hn x hx)
  have HTX : Hid (∀ q ∈ toks (bl s), q.1.text.length ≤ 65536) := fun q hq => lex_text h hq
  have HLL := hideIt hL
  have hml : (toks (bl s)).length ≤ 65537 := by
    have := lex_count (bl s).length (bl s) (Nat.le_refl _) 0
    rw [bl_len] at this
    simp [toks]
    omega
  obtain ⟨L, hLe⟩ : ∃ L, toks (bl s) = L := ⟨_, rfl⟩
  rw [hLe] at HS HX HTX hml
  clear hL hn hLe
  go_enter Tryd.func7, Tryd.ntmps7
  go_wp2_with (first | (go_at_call 8; refine HA.out.mono ?_; rintro e x1 ⟨rfl, q1⟩; have Q1 := hideIt q1; clear q1) | (go_at_call 9; refine (HS.out _ Q1.out).mono ?_; rintro e x2 ⟨g, cap, rfl, bg, tk, q2⟩; have TK := hideIt tk; have Q2 := hideIt (Q1.out.trans q2); clear q2 tk bg) | fail)
  clear HA HS Q1
  go_loopw [9, 10] (fun v i wr => ∃ (k : Nat) (tt : ByteArray), v = .string tt ∧ i = .int .i64 k ∧ k ≤ L.length ∧ tt.size ≤ 3000 ∧ Hid (bl tt = Lx.spread [32, 32, 10] ((L.take k).map (·.1))) ∧ Q x2 wr) (fun _ i _ => L.length - (intOf i).toNat)
  case atStart => exact ⟨0, ⟨#[]⟩, rfl, rfl, Nat.zero_le _, by decide, rfl, (Q.refl _).alloc _⟩
  case round =>
    obtain ⟨k, tt, rfl, rfl, hk, htt, HT, hq⟩ := hrel
    have HQ := hideIt hq
    clear hq
    by_cases hlt : k < L.length
    · have hki : (k : Int) < (L.length : Int) := by omega
      obtain ⟨q, hqa⟩ : ∃ q, L[k]? = some q := ⟨L[k], List.getElem?_eq_getElem hlt⟩
      have tk := TK.out.keep HQ.out
      obtain ⟨a0, a1, a2, a3, a4⟩ := tk.five k q hqa
      have htx := HTX.out q (List.mem_of_getElem? hqa)
      have hts : (⟨q.1.text.toArray⟩ : ByteArray).size = q.1.text.length := by simp [ByteArray.size]
      have hbs : (⟨#[32, 32, 10]⟩ : ByteArray).size = 3 := rfl
      obtain ⟨y1, p1, e1, z1⟩ := add_fact ⟨#[32, 32, 10]⟩ ⟨q.1.text.toArray⟩ (by rw [hts, hbs]; omega)
      rw [hts, hbs] at z1
      obtain ⟨y2, p2, e2, z2⟩ := add_fact tt y1 (by omega)
      have HN : Hid (bl y2 = Lx.spread [32, 32, 10] ((L.take (k + 1)).map (·.1))) := by
        show _ = _
        rw [List.take_add_one, hqa, Option.toList_some, List.map_append, List.map_cons, List.map_nil, spread_snoc, e2, e1, HT.out, bl_mk]
      clear tk hts hbs e1 e2 z1 a0 a2 a3 a4 hqa HT
      by_cases h3 : 3000 < y2.size
      · have hd3 : decide ((3000 : Int) < (y2.size : Int)) = true := by simp; omega
        clear z2
        go_wp2_with (fail)
        go_ret
        exact ⟨rfl, Q2.out.trans HQ.out⟩
      · have hd3 : decide ((3000 : Int) < (y2.size : Int)) = false := by simp; omega
        clear z2
        go_wp2_with (fail)
        go_roundw
        case rel => exact ⟨k + 1, y2, rfl, by go_num, by omega, by omega, HN, HQ.out⟩
        case measure => simp [intOf]; omega
    · have hki : ¬ (k : Int) < (L.length : Int) := by omega
      have ek : k = L.length := by omega
      subst ek
      rw [List.take_length] at HT
      obtain ⟨hn2, hm2⟩ := HX.out (bl tt) HT.out
      have HC : Hid (∀ x, Q w x → Calls Tryd.prog 9 #[.string tt] x fun e w' => ∃ g cap, e = .returned (.tuple #[.slice (some ⟨g, 0, none⟩) (toks (bl tt)).length cap, .int .i64 0, .int .i64 0]) ∧ x.heap.size ≤ g ∧ Tks w' g cap (toks (bl tt)) ∧ Q x w') := fun x q => lex_ok tt x (by omega) (HLL.out.keep q) hn2
      obtain ⟨M, hMe⟩ : ∃ M, toks (bl tt) = M := ⟨_, rfl⟩
      rw [hMe] at HC hm2
      have hml2 : M.length = L.length := by have := congrArg List.length hm2; simpa using this
      rw [hml2] at HC
      have HM := hideIt hm2
      have HML := hideIt hml2
      have Q3 := hideIt (Q2.out.trans HQ.out)
      have TK3 := hideIt (TK.out.keep HQ.out)
      have hee : ((L.length : Int) != (L.length : Int)) = false := by simp
      clear hn2 hMe hm2 hml2 HT HX HTX HP
      go_wp2_with (first | (go_at_call 9; refine (HC.out _ Q3.out).mono ?_; rintro e x3 ⟨gc, cc, rfl, bc, tc, q3⟩; have TC := hideIt tc; have TK4 := hideIt (TK3.out.keep q3); have Q4 := hideIt (Q3.out.trans q3); clear q3 tc bc) | fail)
      clear HC Q3 TK3 HQ TK
      go_loopw [14] (fun i wr => ∃ k : Nat, i = .int .i64 k ∧ k ≤ L.length ∧ Q x3 wr) (fun i _ => L.length - (intOf i).toNat)
      case atStart => exact ⟨0, rfl, Nat.zero_le _, Q.refl _⟩
      case round =>
        obtain ⟨k, rfl, hk, hq⟩ := hrel
        by_cases hlt : k < L.length
        · have hki : (k : Int) < (L.length : Int) := by omega
          have tc := TC.out.keep hq
          have ta := TK4.out.keep hq
          have hgc : gc < wr.heap.size := tc.lt
          have hga : g < wr.heap.size := ta.lt
          obtain ⟨q, hqa⟩ : ∃ q, L[k]? = some q := ⟨L[k], List.getElem?_eq_getElem hlt⟩
          obtain ⟨q', hqb⟩ : ∃ q', M[k]? = some q' := ⟨M[k]'(by rw [HML.out]; exact hlt), List.getElem?_eq_getElem _⟩
          have e1 : q'.1 = q.1 := by
            have := congrArg (fun l => l[k]?) HM.out
            simp only [List.getElem?_map, hqa, hqb, Option.map_some, Option.some.injEq] at this
            exact this
          obtain ⟨a0, a1, a2, a3, a4⟩ := ta.five k q hqa
          obtain ⟨c0, c1, c2, c3, c4⟩ := tc.five k q' hqb
          rw [e1] at c0 c1 c2 c3
          have HQ := hideIt hq
          clear ta tc hq hqa hqb e1
          obtain ⟨⟨kd, tx, n, ty⟩, at_⟩ := q
          obtain ⟨tk', at2⟩ := q'
          simp only at a0 a1 a2 a3 a4 c0 c1 c2 c3 c4
          go_wp2_with (fail)
          go_roundw
          case rel => exact ⟨k + 1, by go_num, by omega, (HQ.out.alloc _).alloc _⟩
          case measure => simp [intOf]; omega
        · have hki : ¬ (k : Int) < (L.length : Int) := by omega
          go_wp2_with (fail)
          go_ret
          exact ⟨rfl, Q4.out.trans hq⟩

theorem walk (s : ByteArray) (hs : s.size ≤ 140737488351232) (z : Int) (hz : (Lit.int .u8 z).wf = true) (w : World) (hL : Laid w) :
    Calls Tryd.prog 7 #[.string s, .int .u8 z] w fun e w' => e = .returned (.bool true) ∧ Below w.heap.size w w' := by
  have hz' : 0 ≤ z ∧ z ≤ 255 := by simpa [Lit.wf, IntKind.min, IntKind.max, IntKind.signed, IntKind.bits] using hz
  by_cases h : s.size ≤ 65536
  · cases h1 : (Lx.lex 0 (bl s)).2 with
    | some p => exact walk_bad s z w hL h p h1
    | none =>
      rcases (show z % 5 = 0 ∨ z % 5 = 1 ∨ z % 5 = 2 ∨ z % 5 = 3 ∨ z % 5 = 4 by omega) with e | e | e | e | e
      · exact walk_0 s z hz'.1 hz'.2 w hL h h1 e
      · exact walk_1 s z hz'.1 hz'.2 w hL h h1 e
      · exact walk_2 s z hz'.1 hz'.2 w hL h h1 e
      · exact walk_3 s z hz'.1 hz'.2 w hL h h1 e
      · exact walk_4 s z hz'.1 hz'.2 w hL h h1 e
  · exact walk_long s z w hL (by omega)

set_option maxRecDepth 100000 in
theorem lifted (os : Os) (started : os.Started) (H : Type) (enc : TypeId × Value → H) :
    ReturnsInHanded {} Tryd.checked os 7 .any (fun w args => (Rows.lexBlanksSpec.pre enc Tryd.prog Tryd.f7 [] false w args ∧ laidMetH Tryd.prog laidBoth w) ∧ sizedMet enc Tryd.prog Tryd.f7 (OpenSpec.ofChange Rows.lexBlanksSpec) false w args)
      (Rows.lexBlanksSpec.post enc Tryd.prog Tryd.f7 false true false false) := by
  refine returnsInHanded_of_change_and (C := Tryd.checked) (X := fun w _ => laidMetH Tryd.prog laidBoth w) (fun _ _ _ hh h => h.of_heap hh) own started (by kernel_rfl) Tryd.func7
    (ChangeSpec.witness_shaped (enc := enc) (C := Tryd.checked) (os := os) (X := fun w _ => laidMetH Tryd.prog laidBoth w) false (World.doorLaid Tryd.prog 19 os) #[.string ⟨#[]⟩, .int .u8 0] 8 rfl (World.shaped_of_RefB (by kernel_rfl) (by kernel_rfl)) (by kernel_rfl) (by kernel_rfl) (by kernel_rfl) (door_met os _)) ?_
  intro W base args ds gs before hval0 hW _ hz hL _
  have hval : ∀ (j : Nat) t v, Tryd.f7.params[j]? = some t → args[j]? = some v → Value.okWide Tryd.prog W .any base t v := hval0
  have hW' := hW
  obtain ⟨p, q, hA0, hV, rfl, hfz, hnd⟩ := hW
  have hA : DataW.TrodAll enc Tryd.prog W 0 (fun _ => true) true Tryd.f7.params.toList args.toList ds p := hA0
  rw [Tryd.params7] at hA hval
  obtain ⟨v0, vs0, d0, ds0, p0, q0, hargs, rfl, rfl, h0, r0⟩ := trodAll_cons hA
  obtain ⟨v1, vs1, d1, ds1, p1, q1, rfl, rfl, rfl, h1, r1⟩ := trodAll_cons r0
  obtain ⟨rfl, rfl, rfl⟩ := trodAll_nil r1
  obtain rfl : args = #[v0, v1] := by cases args; simp_all
  obtain ⟨rfl, rfl⟩ := trodVars_none hV
  have k0 := h0
  have lt0 : ∀ x ∈ p0, x.block < W.heap.size := by obtain ⟨m, hm⟩ := k0; exact DataW.trod_lt m _ _ _ hm
  obtain ⟨s0, rfl, hd0, _, _⟩ := open_string Tryd.underlying9 (hval 0 9 v0 rfl rfl) h0
  have ws0 : s0.size ≤ 140737488351232 := by rw [Lib.size_eq]; exact sized_string hz (j := 0) (t := 9) (by rw [Tryd.params7]; rfl) (by rw [hd0]; rfl)
  have k1 := h1
  have lt1 : ∀ x ∈ p1, x.block < W.heap.size := by obtain ⟨m, hm⟩ := k1; exact DataW.trod_lt m _ _ _ hm
  obtain ⟨z1, rfl, _, _, wz1⟩ := open_int Tryd.underlying5 (hval 1 5 v1 rfl rfl) h1
  clear hA0 hval0
  refine (walk s0 ws0 z1 wz1 W (of_laid hL)).mono fun e W' ⟨he, bel⟩ => ?_
  subst he
  exact ⟨_, rfl, _, _, _, [], _, [], hW', trodAll_mk1 (shut_bool Tryd.underlying4 _), (trodAll_cons_mk (Below.trod laidOut (by kernel_rfl) (of_decide_eq_true (by kernel_rfl)) k0 bel lt0) (trodAll_cons_mk (Below.trod laidOut (by kernel_rfl) (of_decide_eq_true (by kernel_rfl)) k1 bel lt1) trodAll_mk0)), rfl, bel.frame _, fun h => by cases h⟩

theorem over : Rows.LexBlanksSaid :=
  OpenClaim.holds_of_wide 7 Tryd.f7 rfl rfl rfl rfl rfl rfl rfl ⟨rfl, rfl, rfl, rfl, rfl⟩ rfl rfl rfl rfl rfl (by kernel_rfl) Tryd.func7 (by kernel_rfl)
    (of_decide_eq_true (by kernel_rfl)) (by unfold Func.isWrapper; first | (rw [if_pos (by decide +kernel)]; kernel_rfl) | (rw [if_neg (by decide +kernel)]; exact ⟨rfl, rfl⟩))
    (fun os started H enc _ => lifted os started H enc)

/-- THE STATEMENT -/
theorem proved : Rows.LexBlanksCardSaid :=
  Claim7.holds_tied_plain_at .later [] [.data, .data] true (true, "7edcfb5183f7a76e7813729b5af2413060b9d536d70ba5983f0e804409762c21") false
    over (fun _ h => by cases h) (by kernel_rfl) (fun _ h => by cases h) lexBlanks_row_tie rfl ⟨rfl, rfl⟩ (by kernel_rfl) rfl
    (fun f fn hf hfn => by
      obtain rfl : f = 7 := Option.some.inj ((show Tryd.prog.funcNamed "burin/burinlaw04.LexBlanks" = some 7 by kernel_rfl).symm.trans hf) |>.symm
      obtain rfl : fn = Tryd.f7 := (Option.some.inj (Tryd.func7.symm.trans hfn)).symm
      exact ⟨by kernel_rfl, fun j t ht => by
        rw [Tryd.params7] at ht
        have hm : t ∈ [9, 5] := by simpa using Array.mem_of_getElem? ht
        have hall : ([9, 5].all fun u => !Tryd.prog.wantsStandIn u) = true := by kernel_rfl
        exact (show Tryd.prog.wantsStandIn t = false by simpa using List.all_eq_true.1 hall t hm)⟩)
    (by kernel_rfl)
#print axioms proved
end Go.Proofs.YtkjkobiliinneaaDoor.lexBlanks
