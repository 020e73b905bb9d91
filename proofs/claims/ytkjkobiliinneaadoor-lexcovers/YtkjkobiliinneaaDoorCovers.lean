/-
  For every text the statement LexCovers returns true, and its argument reads as it did; the two lists of layer 4 are tied to the program's text; no conditions.
-/
import Derived.Test.YtkjkobiliinneaaDoorLaw
import Derived.Deep.QuietTactic
import Derived.BigQuiet
import Derived.BigRegion
import Derived.Deep.RegionWith
import Derived.Laws.BitsLemmas
namespace Go.Proofs.YtkjkobiliinneaaDoor.lexCovers
open Go.ChangeShapes Go.WideShapes Go.ChangeAt Go.RowKit
open Go.ChangeMaps (open_string shut_string)
set_option linter.unusedVariables false

theorem below_drewN {B : Nat} {a b : World} (h : Below B a b) (n : Nat) : Below B a (b.drewN n) := ⟨h.os, h.tape, h.output, h.size, h.block⟩

set_option maxRecDepth 100000 in
set_option maxHeartbeats 1000000 in
theorem walk_long (s : ByteArray) (w : World) (hL : Laid w) (h : 65536 < s.size) (hs : s.size ≤ 140737488351232) :
    Calls Tryd.prog 5 #[.string s] w fun e w' => e = .returned (.bool true) ∧ Below w.heap.size w w' := by
  have HA := hideIt (awake_any w hL)
  have HS := hideIt (fun x => lex_long s x h)
  have h0 : decide ((0 : Int) ≤ (s.size : Int)) = true := by simp
  clear hL h
  go_enter Tryd.func5, Tryd.ntmps5
  go_wp2_with (first | (go_at_call 8; refine HA.out.mono ?_; rintro e x1 ⟨rfl, q1⟩; have Q1 := hideIt q1; clear q1) | (go_at_call 9; refine (HS.out _).mono ?_; rintro e x2 ⟨rfl, rfl⟩) | fail)
  go_ret
  exact ⟨by simp, Q1.out⟩

set_option maxRecDepth 100000 in
set_option maxHeartbeats 1000000 in
theorem walk_bad (s : ByteArray) (w : World) (hL : Laid w) (h : s.size ≤ 65536) (p : Nat) (hp : (Lx.lex 0 (bl s)).2 = some p) :
    Calls Tryd.prog 5 #[.string s] w fun e w' => e = .returned (.bool true) ∧ Below w.heap.size w w' := by
  have HA := hideIt (awake_any w hL)
  have HS : Hid (∀ x, Q w x → Calls Tryd.prog 9 #[.string s] x fun e w' => e = .returned (.tuple #[.slice none 0 0, .int .i64 (p : Int), .int .i64 5]) ∧ Q x w') := fun x q => lex_bad s x h (hL.keep q) p hp
  have hpl := (Lx.lex_fault hp).2
  rw [bl_len, Nat.zero_add] at hpl
  have h0 : decide ((0 : Int) ≤ (p : Int)) = true := by simp
  have h1 : decide (p ≤ s.size) = true := by simp; omega
  clear hL hp
  go_enter Tryd.func5, Tryd.ntmps5
  go_wp2_with (first | (go_at_call 8; refine HA.out.mono ?_; rintro e x1 ⟨rfl, q1⟩; have Q1 := hideIt q1; clear q1) | (go_at_call 9; refine (HS.out _ Q1.out).mono ?_; rintro e x2 ⟨rfl, q2⟩; have Q2 := hideIt (Q1.out.trans q2); clear q2) | fail)
  go_ret
  exact ⟨rfl, Q2.out⟩

/-- What one byte of a gap says. -/
theorem gap_step {rem : Bool} {c : UInt8} {g : List UInt8} (h : Lx.gapGo rem (c :: g) = true) :
    (c.toNat = 47 ∧ rem = false ∧ g.head? = some 47 ∧ Lx.gapGo true g = true) ∨ (c.toNat = 10 ∧ Lx.gapGo false g = true) ∨ (c.toNat ≠ 10 ∧ rem = true ∧ Lx.gapGo true g = true) ∨ (rem = false ∧ (c.toNat = 32 ∨ c.toNat = 9) ∧ Lx.gapGo false g = true) := by
  simp only [Lx.gapGo] at h
  by_cases h10 : c.toNat = 10
  · right; left
    refine ⟨h10, ?_⟩
    simpa [h10, Lx.blankC] using h
  · cases rem with
    | true =>
      right; right; left
      refine ⟨h10, rfl, ?_⟩
      simpa [h10] using h
    | false =>
      by_cases h47 : c.toNat = 47
      · left
        by_cases hg : g.head? = some 47
        · refine ⟨h47, rfl, hg, ?_⟩
          simpa [h47, hg] using h
        · simp [h47, hg] at h
      · right; right; right
        by_cases hb : Lx.blankC c = true
        · refine ⟨rfl, ?_, ?_⟩
          · have := Lx.blank_num hb
            omega
          · simpa [h10, h47, hb] using h
        · simp [h10, h47, hb] at h

/-- Where the law's outer loop stands: behind k tokens, at the end E of the last. -/
def Stand (s : ByteArray) (L : List (Lx.Tk × Nat)) (k E : Nat) : Prop :=
  (E ≤ s.size ∧ k < L.length ∧ ∃ r, Lx.lex E ((bl s).drop E) = (r, none) ∧ L.drop k = r ++ [(endTk, s.size)]) ∨ (k = L.length ∧ E = s.size)

/-- The token at hand, and the gap ahead of it. -/
theorem stand_step {s : ByteArray} {L : List (Lx.Tk × Nat)} {k E : Nat} (h : Stand s L k E) (hk : k < L.length) : ∃ q, L[k]? = some q ∧ E ≤ q.2 ∧ q.2 + q.1.text.length ≤ s.size ∧
    ((bl s).drop q.2).take q.1.text.length = q.1.text ∧ Lx.gapGo false (((bl s).drop E).take (q.2 - E)) = true ∧ Stand s L (k + 1) (q.2 + q.1.text.length) ∧
    ((q.1.kind = 0 ∧ k + 1 = L.length ∧ q.1.text = []) ∨ (1 ≤ q.1.kind ∧ k + 1 ≠ L.length ∧ q.1.text ≠ [])) := by
  rcases h with ⟨hE, _, r, hr, hd⟩ | ⟨e, _⟩
  · have hlen : ((bl s).drop E).length = s.size - E := by rw [List.length_drop, bl_len]
    obtain ⟨g1, g2, g3, _, g5⟩ := Lx.lex_gap _ ((bl s).drop E) (Nat.le_refl _) E (by rw [hr])
    have hLk : L[k]? = (r ++ [(endTk, s.size)])[0]? := by
      rw [← hd]
      simp
    have hLl : L.length - k = r.length + 1 := by
      have := congrArg List.length hd
      simpa using this
    cases r with
    | nil =>
      have hp : Lx.firstAt E ((bl s).drop E) = s.size := by
        unfold Lx.firstAt
        rw [hr]
        simp only
        omega
      rw [hp] at g3
      refine ⟨(endTk, s.size), by rw [hLk]; rfl, hE, Nat.le_refl _, ?_, g3, Or.inr ⟨?_, rfl⟩, Or.inl ⟨rfl, ?_, rfl⟩⟩
      · show ((bl s).drop s.size).take 0 = []
        simp
      · simp at hLl; omega
      · simp at hLl; omega
    | cons q ts =>
      obtain ⟨j1, j2, j3, j4, j5, j6, j7⟩ := g5 q ts (by rw [hr])
      rw [← j1] at g1 g2 g3 j2 j3 j7
      rw [List.drop_drop] at j2 j7
      rw [show E + (q.2 - E) = q.2 by omega] at j2
      rw [show E + (q.2 - E + q.1.text.length) = q.2 + q.1.text.length by omega] at j7
      have hkl : k + 1 < L.length := by simp at hLl; omega
      refine ⟨q, by rw [hLk]; rfl, g1, by omega, j2.symm, g3, Or.inl ⟨by omega, hkl, ts, j7, ?_⟩, Or.inr ⟨j5, by omega, ?_⟩⟩
      · have := congrArg (List.drop 1) hd
        rw [List.drop_drop] at this
        simpa using this
      · intro e
        rw [e] at j4
        simp at j4
  · omega

theorem count_le {s : ByteArray} {L : List (Lx.Tk × Nat)} {k E : Nat} (h : Stand s L k E) : k ≤ L.length := by
  rcases h with ⟨_, h, _⟩ | ⟨h, _⟩ <;> omega

theorem lex_count : ∀ (k : Nat) (l : List UInt8), l.length ≤ k → ∀ at_, (Lx.lex at_ l).1.length ≤ l.length := by
  intro k
  induction k with
  | zero =>
    intro l hk at_
    have : l = [] := List.eq_nil_of_length_eq_zero (by omega)
    subst this
    simp [Lx.lex_nil]
  | succ k ih =>
    intro l hk at_
    by_cases hl : l = []
    · subst hl
      simp [Lx.lex_nil]
    · have hl1 : 1 ≤ l.length := List.length_pos_iff.2 hl
      by_cases hb : Lx.blankN l = 0
      · cases ht : Lx.tok l with
        | none => rw [Lx.lex_none _ _ hb hl ht]; simp
        | some t =>
          have hn := Lx.tok_len ht
          have hd : (l.drop t.text.length).length = l.length - t.text.length := List.length_drop
          rw [Lx.lex_tok _ _ _ hb ht]
          have := ih (l.drop t.text.length) (by omega) (at_ + t.text.length)
          simp only [List.length_cons]
          omega
      · have hd : (l.drop (Lx.blankN l)).length = l.length - Lx.blankN l := List.length_drop
        rw [Lx.lex_blank _ _ hb]
        have := ih (l.drop (Lx.blankN l)) (by omega) (at_ + Lx.blankN l)
        omega
theorem stand_zero (s : ByteArray) (h : (Lx.lex 0 (bl s)).2 = none) : Stand s (toks (bl s)) 0 0 := by
  refine Or.inl ⟨Nat.zero_le _, by simp [toks], (Lx.lex 0 (bl s)).1, Prod.ext rfl h, ?_⟩
  unfold toks
  rw [bl_len]
  rfl
theorem stand_end {s : ByteArray} {L : List (Lx.Tk × Nat)} {E : Nat} (h : Stand s L L.length E) : E = s.size := by
  rcases h with ⟨_, h, _⟩ | ⟨_, h⟩
  · omega
  · exact h
theorem wrap_small (n : Int) (h0 : 0 ≤ n) (h1 : n < 9223372036854775808) : IntKind.i64.wrap n = n := by
  rw [IntKind.wrap_i64]
  omega
theorem gap_at {s : ByteArray} {j P : Nat} (hj : j < P) (hP : P ≤ s.size) : ((bl s).drop j).take (P - j) = s[j]'(by omega) :: ((bl s).drop (j + 1)).take (P - (j + 1)) := by
  rw [bl_at s j (by omega), show P - j = (P - (j + 1)) + 1 by omega, List.take_succ_cons]

set_option maxRecDepth 100000 in
set_option maxHeartbeats 4000000 in
theorem walk_ok (s : ByteArray) (w : World) (hL : Laid w) (h : s.size ≤ 65536) (hn : (Lx.lex 0 (bl s)).2 = none) :
    Calls Tryd.prog 5 #[.string s] w fun e w' => e = .returned (.bool true) ∧ Below w.heap.size w w' := by
  have HA := hideIt (awake_any w hL)
  have HS : Hid (∀ x, Q w x → Calls Tryd.prog 9 #[.string s] x fun e w' => ∃ g cap, e = .returned (.tuple #[.slice (some ⟨g, 0, none⟩) (toks (bl s)).length cap, .int .i64 0, .int .i64 0]) ∧ x.heap.size ≤ g ∧ Tks w' g cap (toks (bl s)) ∧ Q x w') := fun x q => lex_ok s x h (hL.keep q) hn
  have HST := hideIt (stand_zero s hn)
  have hml : (toks (bl s)).length ≤ 65537 := by
    have := lex_count (bl s).length (bl s) (Nat.le_refl _) 0
    rw [bl_len] at this
    simp [toks]
    omega
  have hm1 : 1 ≤ (toks (bl s)).length := by simp [toks]
  obtain ⟨L, hLe⟩ : ∃ L, toks (bl s) = L := ⟨_, rfl⟩
  rw [hLe] at HS HST hml hm1
  clear hL hn hLe
  go_enter Tryd.func5, Tryd.ntmps5
  go_wp2_with (first | (go_at_call 8; refine HA.out.mono ?_; rintro e x1 ⟨rfl, q1⟩; have Q1 := hideIt q1; clear q1) | (go_at_call 9; refine (HS.out _ Q1.out).mono ?_; rintro e x2 ⟨g, cap, rfl, bg, tk, q2⟩; have TK := hideIt tk; have Q2 := hideIt (Q1.out.trans q2); clear q2 tk bg) | fail)
  clear HA HS Q1
  go_loopw [6, 7] (fun e i wr => ∃ (k E : Nat), e = .int .i64 E ∧ i = .int .i64 k ∧ k ≤ L.length ∧ E ≤ s.size ∧ Hid (Stand s L k E) ∧ Q x2 wr) (fun _ i _ => L.length - (intOf i).toNat)
  case atStart => exact ⟨0, 0, rfl, rfl, Nat.zero_le _, Nat.zero_le _, HST, Q.refl _⟩
  case round =>
    obtain ⟨k, E, rfl, rfl, hk, hE, HSt, hq⟩ := hrel
    clear HST
    by_cases hlt : k < L.length
    · have hki : (k : Int) < (L.length : Int) := by omega
      obtain ⟨q, hqa, f1, f2, f3, f4, f5, f6⟩ := stand_step HSt.out hlt
      have tk := TK.out.keep hq
      have hg : g < wr.heap.size := tk.lt
      obtain ⟨a0, a1, a2, a3, a4⟩ := tk.five k q hqa
      have HQ := hideIt hq
      have HG := hideIt f4
      have HN := hideIt f5
      obtain ⟨⟨kd, tx, n, ty⟩, P⟩ := q
      simp only at a0 a1 a2 a3 a4 f1 f2 f3 f6 HG HN
      obtain ⟨tb, htb⟩ : ∃ tb : ByteArray, (⟨tx.toArray⟩ : ByteArray) = tb := ⟨_, rfl⟩
      have htl : tb.size = tx.length := by rw [← htb]; simp [ByteArray.size]
      rw [htb] at a1
      have hcut : s.extract P (P + tb.size) = tb := by
        apply bl_inj
        rw [bl_extract, htl, Nat.add_sub_cancel_left, f3, ← htb, bl_mk]
      have b1 : decide (P < E) = false := by simp; omega
      have b2 : decide (s.size < P) = false := by simp; omega
      have b3 : decide ((s.size : Int) - (P : Int) < (tb.size : Int)) = false := by simp; omega
      obtain ⟨bK, hK⟩ : ∃ bK, ((kd : Int) == 0) = bK := ⟨_, rfl⟩
      have hK2 : ((k : Int) == (L.length : Int) - 1) = bK := by
        rw [← hK, Bool.eq_iff_iff, beq_iff_eq, beq_iff_eq]
        rcases f6 with ⟨e1, e2, _⟩ | ⟨e1, e2, _⟩ <;> omega
      have hK3 : tb.toList.isEmpty = bK := by
        rw [← hK, Bool.eq_iff_iff, beq_iff_eq, Lib.toList_data, List.isEmpty_iff]
        have : tb.data.toList = tx := by rw [← htb]
        rw [this]
        rcases f6 with ⟨e1, _, e3⟩ | ⟨e1, _, e3⟩
        · exact ⟨fun _ => by omega, fun _ => e3⟩
        · exact ⟨fun e => absurd e e3, fun e => by omega⟩
      have hK4 : (tb.toList == []) = bK := by
        rw [← hK3]
        cases tb.toList <;> rfl
      rw [← htl] at f2 HN
      clear tk hq hqa f3 f4 f5 f6 HSt htl htb
      have hpt : (P : Int) + (tb.size : Int) ≤ (s.size : Int) := by omega
      have hw1 : IntKind.i64.wrap ((s.size : Int) - (P : Int)) = (s.size : Int) - (P : Int) := wrap_small _ (by omega) (by omega)
      have hw2 : IntKind.i64.wrap ((P : Int) + (tb.size : Int)) = (P : Int) + (tb.size : Int) := wrap_small _ (by omega) (by omega)
      have hw3 : IntKind.i64.wrap ((L.length : Int) - 1) = (L.length : Int) - 1 := wrap_small _ (by omega) (by omega)
      have hsl : ∀ wx : World, (Instr.slice 9 (.string s) (some (.int .i64 (P : Int))) (some (.int .i64 ((P : Int) + (tb.size : Int)))) none).run Tryd.prog wx = .ok (.string tb) wx := by
        intro wx
        rw [run_slice_string wx 9 s .i64 .i64 _ _ Tryd.underlying9 (by omega) (by omega) (by omega)]
        rw [show ((P : Int)).toNat = P by omega, show ((P : Int) + (tb.size : Int)).toNat = P + tb.size by omega, hcut]
      clear hcut
      go_wp2_with (fail)
      go_quiet (fail)
      clear hsl hw1 hw2 hw3 b1 b2 b3 hK hK2 hK3 hK4 a0 a1 a2 a3 a4
      go_wp2_with (fail)
      go_loop [9, 10] (fun r j => ∃ (jj : Nat) (rem : Bool), r = .bool rem ∧ j = .int .i64 jj ∧ E ≤ jj ∧ jj ≤ P ∧ Hid (Lx.gapGo rem (((bl s).drop jj).take (P - jj)) = true)) (fun _ j => P - (intOf j).toNat)
      case atStart => exact ⟨E, false, rfl, rfl, Nat.le_refl _, f1, HG⟩
      case round =>
        obtain ⟨jj, rem, rfl, rfl, h1, h2, HR⟩ := hrel
        by_cases hjP : jj < P
        · have hjs : jj < s.size := by omega
          have hji : (jj : Int) < (s.size : Int) := by omega
          have hjp : decide (jj < P) = true := by simp; omega
          have hr := HR.out
          rw [gap_at hjP (by omega)] at hr
          clear HR HG
          rcases gap_step hr with ⟨c1, rfl, c2, c3⟩ | ⟨c1, c3⟩ | ⟨c1, rfl, c3⟩ | ⟨rfl, c1, c3⟩
          · have HN2 := hideIt c3
            have hj1 : jj + 1 < P := by
              by_cases hx : jj + 1 < P
              · exact hx
              · rw [show P - (jj + 1) = 0 by omega, List.take_zero] at c2
                cases c2
            rw [gap_at hj1 (by omega), List.head?_cons] at c2
            have c4 : s[jj + 1].toNat = 47 := by rw [Option.some.inj c2]; rfl
            have d1 : ((s[jj].toNat : Int) == 47) = true := by rw [beq_iff_eq]; omega
            have d2 : ((s[jj].toNat : Int) == 10) = false := by rw [beq_eq_false_iff_ne]; omega
            have d3 : decide ((jj : Int) + 1 < (P : Int)) = true := by simp; omega
            have d4 : ((s[jj + 1].toNat : Int) == 47) = true := by rw [beq_iff_eq]; omega
            have hji2 : (jj : Int) + 1 < (s.size : Int) := by omega
            have hjs2 : jj + 1 < s.size := by omega
            clear c1 c2 c3 c4 hr
            go_wp2_with (fail)
            go_round
            case rel => exact ⟨jj + 1, true, rfl, by go_num, by omega, by omega, HN2⟩
            case measure => simp [intOf]; omega
          · have HN2 := hideIt c3
            have d1 : ((s[jj].toNat : Int) == 47) = false := by rw [beq_eq_false_iff_ne]; omega
            have d2 : ((s[jj].toNat : Int) == 10) = true := by rw [beq_iff_eq]; omega
            have d3 : ((s[jj].toNat : Int) != 32) = true := by rw [bne_iff_ne]; omega
            have d4 : ((s[jj].toNat : Int) != 9) = true := by rw [bne_iff_ne]; omega
            have d5 : ((s[jj].toNat : Int) != 10) = false := by rw [bne_eq_false_iff_eq]; omega
            clear c1 c3 hr
            go_wp2_with (fail)
            go_round
            case rel => exact ⟨jj + 1, false, rfl, by go_num, by omega, by omega, HN2⟩
            case measure => simp [intOf]; omega
          · have HN2 := hideIt c3
            have d2 : ((s[jj].toNat : Int) == 10) = false := by rw [beq_eq_false_iff_ne]; omega
            clear c1 c3 hr
            cases d1 : ((s[jj].toNat : Int) == 47)
            all_goals
              go_wp2_with (fail)
              go_round
              case rel => exact ⟨jj + 1, true, rfl, by go_num, by omega, by omega, HN2⟩
              case measure => simp [intOf]; omega
          · have HN2 := hideIt c3
            have d1 : ((s[jj].toNat : Int) == 47) = false := by rw [beq_eq_false_iff_ne]; omega
            have d2 : ((s[jj].toNat : Int) == 10) = false := by rw [beq_eq_false_iff_ne]; omega
            rcases c1 with c1 | c1
            · have d3 : ((s[jj].toNat : Int) != 32) = false := by rw [bne_eq_false_iff_eq]; omega
              clear c1 c3 hr
              go_wp2_with (fail)
              go_round
              case rel => exact ⟨jj + 1, false, rfl, by go_num, by omega, by omega, HN2⟩
              case measure => simp [intOf]; omega
            · have d3 : ((s[jj].toNat : Int) != 32) = true := by rw [bne_iff_ne]; omega
              have d4 : ((s[jj].toNat : Int) != 9) = false := by rw [bne_eq_false_iff_eq]; omega
              clear c1 c3 hr
              go_wp2_with (fail)
              go_round
              case rel => exact ⟨jj + 1, false, rfl, by go_num, by omega, by omega, HN2⟩
              case measure => simp [intOf]; omega
        · have hjp : decide (jj < P) = false := by simp; omega
          clear HR HG
          go_wp2_with (fail)
          go_roundw
          case rel => exact ⟨k + 1, P + tb.size, by go_num, by go_num, by omega, by omega, HN, below_drewN (HQ.out.alloc _) _⟩
          case measure => simp [intOf]; omega
    · have ek : k = L.length := by omega
      subst ek
      have hEs := stand_end HSt.out
      have hee : ((E : Int) == (s.size : Int)) = true := by rw [hEs]; simp
      clear hEs
      go_wp2_with (fail)
      go_ret
      exact ⟨rfl, Q2.out.trans hq⟩

theorem walk (s : ByteArray) (hs : s.size ≤ 140737488351232) (w : World) (hL : Laid w) :
    Calls Tryd.prog 5 #[.string s] w fun e w' => e = .returned (.bool true) ∧ Below w.heap.size w w' := by
  by_cases h : s.size ≤ 65536
  · cases h1 : (Lx.lex 0 (bl s)).2 with
    | some p => exact walk_bad s w hL h p h1
    | none => exact walk_ok s w hL h h1
  · exact walk_long s w hL (by omega) hs

set_option maxRecDepth 100000 in
theorem lifted (os : Os) (started : os.Started) (H : Type) (enc : TypeId × Value → H) :
    ReturnsInHanded {} Tryd.checked os 5 .any (fun w args => (Rows.lexCoversSpec.pre enc Tryd.prog Tryd.f5 [] false w args ∧ laidMetH Tryd.prog laidBoth w) ∧ sizedMet enc Tryd.prog Tryd.f5 (OpenSpec.ofChange Rows.lexCoversSpec) false w args)
      (Rows.lexCoversSpec.post enc Tryd.prog Tryd.f5 false true false false) := by
  refine returnsInHanded_of_change_and (C := Tryd.checked) (X := fun w _ => laidMetH Tryd.prog laidBoth w) (fun _ _ _ hh h => h.of_heap hh) own started (by kernel_rfl) Tryd.func5
    (ChangeSpec.witness_shaped (enc := enc) (C := Tryd.checked) (os := os) (X := fun w _ => laidMetH Tryd.prog laidBoth w) false (World.doorLaid Tryd.prog 19 os) #[.string ⟨#[]⟩] 8 rfl (World.shaped_of_RefB (by kernel_rfl) (by kernel_rfl)) (by kernel_rfl) (by kernel_rfl) (by kernel_rfl) (door_met os _)) ?_
  intro W base args ds gs before hval0 hW _ hz hL _
  have hval : ∀ (j : Nat) t v, Tryd.f5.params[j]? = some t → args[j]? = some v → Value.okWide Tryd.prog W .any base t v := hval0
  have hW' := hW
  obtain ⟨p, q, hA0, hV, rfl, hfz, hnd⟩ := hW
  have hA : DataW.TrodAll enc Tryd.prog W 0 (fun _ => true) true Tryd.f5.params.toList args.toList ds p := hA0
  rw [Tryd.params5] at hA hval
  obtain ⟨v0, vs0, d0, ds0, p0, q0, hargs, rfl, rfl, h0, r0⟩ := trodAll_cons hA
  obtain ⟨rfl, rfl, rfl⟩ := trodAll_nil r0
  obtain rfl : args = #[v0] := by cases args; simp_all
  obtain ⟨rfl, rfl⟩ := trodVars_none hV
  have k0 := h0
  have lt0 : ∀ x ∈ p0, x.block < W.heap.size := by obtain ⟨m, hm⟩ := k0; exact DataW.trod_lt m _ _ _ hm
  obtain ⟨s0, rfl, hd0, _, _⟩ := open_string Tryd.underlying9 (hval 0 9 v0 rfl rfl) h0
  have ws0 : s0.size ≤ 140737488351232 := by rw [Lib.size_eq]; exact sized_string hz (j := 0) (t := 9) (by rw [Tryd.params5]; rfl) (by rw [hd0]; rfl)
  clear hA0 hval0
  refine (walk s0 ws0 W (of_laid hL)).mono fun e W' ⟨he, bel⟩ => ?_
  subst he
  exact ⟨_, rfl, _, _, _, [], _, [], hW', trodAll_mk1 (shut_bool Tryd.underlying4 _), (trodAll_cons_mk (Below.trod laidOut (by kernel_rfl) (of_decide_eq_true (by kernel_rfl)) k0 bel lt0) trodAll_mk0), rfl, bel.frame _, fun h => by cases h⟩

theorem over : Rows.LexCoversSaid :=
  OpenClaim.holds_of_wide 5 Tryd.f5 rfl rfl rfl rfl rfl rfl rfl ⟨rfl, rfl, rfl, rfl, rfl⟩ rfl rfl rfl rfl rfl (by kernel_rfl) Tryd.func5 (by kernel_rfl)
    (of_decide_eq_true (by kernel_rfl)) (by unfold Func.isWrapper; first | (rw [if_pos (by decide +kernel)]; kernel_rfl) | (rw [if_neg (by decide +kernel)]; exact ⟨rfl, rfl⟩))
    (fun os started H enc _ => lifted os started H enc)

/-- THE STATEMENT -/
theorem proved : Rows.LexCoversCardSaid :=
  Claim7.holds_tied_plain_at .later [] [.data, .data] true (true, "7edcfb5183f7a76e7813729b5af2413060b9d536d70ba5983f0e804409762c21") false
    over (fun _ h => by cases h) (by kernel_rfl) (fun _ h => by cases h) lexCovers_row_tie rfl ⟨rfl, rfl⟩ (by kernel_rfl) rfl
    (fun f fn hf hfn => by
      obtain rfl : f = 5 := Option.some.inj ((show Tryd.prog.funcNamed "burin/burinlaw04.LexCovers" = some 5 by kernel_rfl).symm.trans hf) |>.symm
      obtain rfl : fn = Tryd.f5 := (Option.some.inj (Tryd.func5.symm.trans hfn)).symm
      exact ⟨by kernel_rfl, fun j t ht => by
        rw [Tryd.params5] at ht
        have hm : t ∈ [9] := by simpa using Array.mem_of_getElem? ht
        have hall : ([9].all fun u => !Tryd.prog.wantsStandIn u) = true := by kernel_rfl
        exact (show Tryd.prog.wantsStandIn t = false by simpa using List.all_eq_true.1 hall t hm)⟩)
    (by kernel_rfl)
#print axioms proved
end Go.Proofs.YtkjkobiliinneaaDoor.lexCovers
