/-
  For every text the statement LexReads returns true, and its argument reads as it did; the two lists of layer 4 are tied to the program's text; no conditions.
-/
import Derived.Test.YtkjkobiliinneaaDoorLaw
import Derived.Test.YtkjkobiliinneaaDoorRefC
namespace Go.Proofs.YtkjkobiliinneaaDoor.lexReads
open Go.ChangeShapes Go.WideShapes Go.ChangeAt Go.RowKit
open Go.ChangeMaps (open_string shut_string)
set_option linter.unusedVariables false

theorem rlex_ok (s : ByteArray) (w : World) (hs : s.size ≤ 65536) (h : (Lx.lex 0 (bl s)).2 = none) :
    Calls Tryd.prog 10 #[.string s] w fun e w' => ∃ g cap, e = .returned (.tuple #[.slice (some ⟨g, 0, none⟩) (toks (bl s)).length cap, .int .i64 0, .int .i64 0]) ∧ Tks w' g cap (toks (bl s)) ∧ Q w w' := by
  refine (rlex_any s w hs).mono ?_
  rintro e w' ⟨hq, h1, _⟩
  obtain ⟨v, rfl, ho⟩ := h1 h
  have el : (toks (bl s)).length = (Lx.lex 0 (bl s)).1.length + 1 := by simp [toks]
  rw [← bl_len s] at ho
  have ho' : w'.ownsRow w.heap.size 35 5 v (toks (bl s)).length (tksC (toks (bl s))) := by rw [el]; exact ho
  obtain ⟨g, cap, rfl, hb, ht⟩ := tks_of ho' (by rw [el]; omega)
  exact ⟨g, cap, rfl, ht, hq⟩
theorem rlex_bad (s : ByteArray) (w : World) (hs : s.size ≤ 65536) (p : Nat) (h : (Lx.lex 0 (bl s)).2 = some p) :
    Calls Tryd.prog 10 #[.string s] w fun e w' => e = .returned (.tuple #[.slice none 0 0, .int .i64 (p : Int), .int .i64 5]) ∧ Q w w' := by
  refine (rlex_any s w hs).mono ?_
  rintro e w' ⟨hq, _, h1⟩
  exact ⟨h1 p h, hq⟩

set_option maxHeartbeats 400000 in
theorem same_nil (w : World) :
    Calls Tryd.prog 11 #[.slice none 0 0, .slice none 0 0] w fun e w' => e = .returned (.bool true) ∧ Q w w' := by
  go_enter Tryd.func11, Tryd.ntmps11
  go_wp2_with (fail)
  go_loop [5] (fun i => i = .int .i64 0) (fun _ => 0)
  case atStart => rfl
  case round =>
    subst hrel
    go_wp2_with (fail)
    go_ret
    exact ⟨rfl, Q.refl _⟩

set_option maxRecDepth 100000 in
set_option maxHeartbeats 1000000 in
theorem same_any (L : List (Lx.Tk × Nat)) (ga ca gb cb : Nat) (w : World) (ha : Tks w ga ca L) (hb : Tks w gb cb L) (hl : L.length ≤ 70000) :
    Calls Tryd.prog 11 #[.slice (some ⟨ga, 0, none⟩) L.length ca, .slice (some ⟨gb, 0, none⟩) L.length cb] w fun e w' => e = .returned (.bool true) ∧ Q w w' := by
  have HA := hideIt ha
  have HB := hideIt hb
  have hee : ((L.length : Int) != (L.length : Int)) = false := by simp
  clear ha hb
  go_enter Tryd.func11, Tryd.ntmps11
  go_wp2_with (fail)
  go_loopw [5] (fun i wr => ∃ k : Nat, i = .int .i64 k ∧ k ≤ L.length ∧ Q w wr) (fun i _ => L.length - (intOf i).toNat)
  case atStart => exact ⟨0, rfl, Nat.zero_le _, Q.refl _⟩
  case round =>
    obtain ⟨k, rfl, hk, hq⟩ := hrel
    by_cases hlt : k < L.length
    · have hki : (k : Int) < (L.length : Int) := by omega
      obtain ⟨q, hqa⟩ : ∃ q, L[k]? = some q := ⟨L[k], List.getElem?_eq_getElem hlt⟩
      obtain ⟨a0, a1, a2, a3, a4⟩ := (HA.out.keep hq).five k q hqa
      obtain ⟨c0, c1, c2, c3, c4⟩ := (HB.out.keep hq).five k q hqa
      have HQ := hideIt hq
      clear hq hqa
      obtain ⟨⟨kd, tx, n, ty⟩, at_⟩ := q
      simp only at a0 a1 a2 a3 a4 c0 c1 c2 c3 c4
      go_wp2_with (fail)
      go_quiet (fail)
      go_wp2_with (fail)
      go_roundw
      case rel => exact ⟨k + 1, by go_num, by omega, below_drewN HQ.out _⟩
      case measure => simp [intOf]; omega
    · have hki : ¬ (k : Int) < (L.length : Int) := by omega
      go_wp2_with (fail)
      go_ret
      exact ⟨rfl, hq⟩

theorem lex_count : ∀ (k : Nat) (l : List UInt8), l.length ≤ k → ∀ at_, (Lx.lex at_ l).1.length ≤ l.length := by
  intro k
  induction k with
  | zero =>
    intro l hk at_
    have : l = [] := List.eq_nil_of_length_eq_zero (by omega)
    subst this
    simp [Lx.lex_nil]
  | succ k ih =>
    intro l hk at_
    by_cases hl : l = []
    · subst hl
      simp [Lx.lex_nil]
    · have hl1 : 1 ≤ l.length := List.length_pos_iff.2 hl
      by_cases hb : Lx.blankN l = 0
      · cases ht : Lx.tok l with
        | none => rw [Lx.lex_none _ _ hb hl ht]; simp
        | some t =>
          have hn := Lx.tok_len ht
          have hd : (l.drop t.text.length).length = l.length - t.text.length := List.length_drop
          rw [Lx.lex_tok _ _ _ hb ht]
          have := ih (l.drop t.text.length) (by omega) (at_ + t.text.length)
          simp only [List.length_cons]
          omega
      · have hd : (l.drop (Lx.blankN l)).length = l.length - Lx.blankN l := List.length_drop
        rw [Lx.lex_blank _ _ hb]
        have := ih (l.drop (Lx.blankN l)) (by omega) (at_ + Lx.blankN l)
        omega

set_option maxRecDepth 100000 in
set_option maxHeartbeats 1000000 in
theorem walk (s : ByteArray) (hs : s.size ≤ 140737488351232) (w : World) (hL : Laid w) :
    Calls Tryd.prog 3 #[.string s] w fun e w' => e = .returned (.bool true) ∧ Below w.heap.size w w' := by
  have HA := hideIt (awake_any w hL)
  by_cases h : s.size ≤ 65536
  · cases h1 : (Lx.lex 0 (bl s)).2 with
    | some p =>
      have HS : Hid (∀ x, Q w x → Calls Tryd.prog 9 #[.string s] x fun e w' => e = .returned (.tuple #[.slice none 0 0, .int .i64 (p : Int), .int .i64 5]) ∧ Q x w') := fun x q => lex_bad s x h (hL.keep q) p h1
      have HT := hideIt (fun x => rlex_bad s x h p h1)
      have HM := hideIt (fun x => same_nil x)
      have hpp : ((p : Int) == (p : Int)) = true := by simp
      clear hL h h1
      go_enter Tryd.func3, Tryd.ntmps3
      go_wp2_with (first | (go_at_call 8; refine HA.out.mono ?_; rintro e x1 ⟨rfl, q1⟩; have Q1 := hideIt q1; clear q1) | (go_at_call 9; refine (HS.out _ Q1.out).mono ?_; rintro e x2 ⟨rfl, q2⟩; have Q2 := hideIt (Q1.out.trans q2); clear q2) | (go_at_call 10; refine (HT.out _).mono ?_; rintro e x3 ⟨rfl, q3⟩; have Q3 := hideIt (Q2.out.trans q3); clear q3) | (go_at_call 11; refine (HM.out _).mono ?_; rintro e x4 ⟨rfl, q4⟩; have Q4 := hideIt (Q3.out.trans q4); clear q4) | fail)
      go_ret
      exact ⟨rfl, Q4.out⟩
    | none =>
      have HS : Hid (∀ x, Q w x → Calls Tryd.prog 9 #[.string s] x fun e w' => ∃ g cap, e = .returned (.tuple #[.slice (some ⟨g, 0, none⟩) (toks (bl s)).length cap, .int .i64 0, .int .i64 0]) ∧ x.heap.size ≤ g ∧ Tks w' g cap (toks (bl s)) ∧ Q x w') := fun x q => lex_ok s x h (hL.keep q) h1
      have HT := hideIt (fun x => rlex_ok s x h h1)
      have hml : (toks (bl s)).length ≤ 65537 := by
        have := lex_count (bl s).length (bl s) (Nat.le_refl _) 0
        rw [bl_len] at this
        simp [toks]
        omega
      have HM := hideIt (fun ga ca gb cb x ha hb => same_any (toks (bl s)) ga ca gb cb x ha hb (by omega))
      generalize toks (bl s) = L at *
      clear hL h h1
      go_enter Tryd.func3, Tryd.ntmps3
      go_wp2_with (first | (go_at_call 8; refine HA.out.mono ?_; rintro e x1 ⟨rfl, q1⟩; have Q1 := hideIt q1; clear q1) | (go_at_call 9; refine (HS.out _ Q1.out).mono ?_; rintro e x2 ⟨ga, ca, rfl, _, ta, q2⟩; have TA := hideIt ta; have Q2 := hideIt (Q1.out.trans q2); clear q2 ta) | (go_at_call 10; refine (HT.out _).mono ?_; rintro e x3 ⟨gb, cb, rfl, tb, q3⟩; have TB := hideIt tb; have TA3 := hideIt (TA.out.keep q3); have Q3 := hideIt (Q2.out.trans q3); clear q3 tb) | (go_at_call 11; refine (HM.out _ _ _ _ _ TA3.out TB.out).mono ?_; rintro e x4 ⟨rfl, q4⟩; have Q4 := hideIt (Q3.out.trans q4); clear q4) | fail)
      go_ret
      exact ⟨rfl, Q4.out⟩
  · have HS := hideIt (fun x => lex_long s x (by omega))
    have HT := hideIt (fun x => rlex_long s x (by omega))
    have HM := hideIt (fun x => same_nil x)
    clear hL h
    go_enter Tryd.func3, Tryd.ntmps3
    go_wp2_with (first | (go_at_call 8; refine HA.out.mono ?_; rintro e x1 ⟨rfl, q1⟩; have Q1 := hideIt q1; clear q1) | (go_at_call 9; refine (HS.out _).mono ?_; rintro e x2 ⟨rfl, rfl⟩) | (go_at_call 10; refine (HT.out _).mono ?_; rintro e x3 ⟨rfl, rfl⟩) | (go_at_call 11; refine (HM.out _).mono ?_; rintro e x4 ⟨rfl, q4⟩; have Q4 := hideIt (Q1.out.trans q4); clear q4) | fail)
    go_ret
    exact ⟨rfl, Q4.out⟩

set_option maxRecDepth 100000 in
theorem lifted (os : Os) (started : os.Started) (H : Type) (enc : TypeId × Value → H) :
    ReturnsInHanded {} Tryd.checked os 3 .any (fun w args => (Rows.lexReadsSpec.pre enc Tryd.prog Tryd.f3 [] false w args ∧ laidMetH Tryd.prog laidBoth w) ∧ sizedMet enc Tryd.prog Tryd.f3 (OpenSpec.ofChange Rows.lexReadsSpec) false w args)
      (Rows.lexReadsSpec.post enc Tryd.prog Tryd.f3 false true false false) := by
  refine returnsInHanded_of_change_and (C := Tryd.checked) (X := fun w _ => laidMetH Tryd.prog laidBoth w) (fun _ _ _ hh h => h.of_heap hh) own started (by kernel_rfl) Tryd.func3
    (ChangeSpec.witness_shaped (enc := enc) (C := Tryd.checked) (os := os) (X := fun w _ => laidMetH Tryd.prog laidBoth w) false (World.doorLaid Tryd.prog 19 os) #[.string ⟨#[]⟩] 8 rfl (World.shaped_of_RefB (by kernel_rfl) (by kernel_rfl)) (by kernel_rfl) (by kernel_rfl) (by kernel_rfl) (door_met os _)) ?_
  intro W base args ds gs before hval0 hW _ hz hL _
  have hval : ∀ (j : Nat) t v, Tryd.f3.params[j]? = some t → args[j]? = some v → Value.okWide Tryd.prog W .any base t v := hval0
  have hW' := hW
  obtain ⟨p, q, hA0, hV, rfl, hfz, hnd⟩ := hW
  have hA : DataW.TrodAll enc Tryd.prog W 0 (fun _ => true) true Tryd.f3.params.toList args.toList ds p := hA0
  rw [Tryd.params3] at hA hval
  obtain ⟨v0, vs0, d0, ds0, p0, q0, hargs, rfl, rfl, h0, r0⟩ := trodAll_cons hA
  obtain ⟨rfl, rfl, rfl⟩ := trodAll_nil r0
  obtain rfl : args = #[v0] := by cases args; simp_all
  obtain ⟨rfl, rfl⟩ := trodVars_none hV
  have k0 := h0
  have lt0 : ∀ x ∈ p0, x.block < W.heap.size := by obtain ⟨m, hm⟩ := k0; exact DataW.trod_lt m _ _ _ hm
  obtain ⟨s0, rfl, hd0, _, _⟩ := open_string Tryd.underlying9 (hval 0 9 v0 rfl rfl) h0
  have ws0 : s0.size ≤ 140737488351232 := by rw [Lib.size_eq]; exact sized_string hz (j := 0) (t := 9) (by rw [Tryd.params3]; rfl) (by rw [hd0]; rfl)
  clear hA0 hval0
  refine (walk s0 ws0 W (of_laid hL)).mono fun e W' ⟨he, bel⟩ => ?_
  subst he
  exact ⟨_, rfl, _, _, _, [], _, [], hW', trodAll_mk1 (shut_bool Tryd.underlying4 _), (trodAll_cons_mk (Below.trod laidOut (by kernel_rfl) (of_decide_eq_true (by kernel_rfl)) k0 bel lt0) trodAll_mk0), rfl, bel.frame _, fun h => by cases h⟩

theorem over : Rows.LexReadsSaid :=
  OpenClaim.holds_of_wide 3 Tryd.f3 rfl rfl rfl rfl rfl rfl rfl ⟨rfl, rfl, rfl, rfl, rfl⟩ rfl rfl rfl rfl rfl (by kernel_rfl) Tryd.func3 (by kernel_rfl)
    (of_decide_eq_true (by kernel_rfl)) (by unfold Func.isWrapper; first | (rw [if_pos (by decide +kernel)]; kernel_rfl) | (rw [if_neg (by decide +kernel)]; exact ⟨rfl, rfl⟩))
    (fun os started H enc _ => lifted os started H enc)

/-- THE STATEMENT -/
theorem proved : Rows.LexReadsCardSaid :=
  Claim7.holds_tied_plain_at .later [] [.data, .data] true (true, "7edcfb5183f7a76e7813729b5af2413060b9d536d70ba5983f0e804409762c21") false
    over (fun _ h => by cases h) (by kernel_rfl) (fun _ h => by cases h) lexReads_row_tie rfl ⟨rfl, rfl⟩ (by kernel_rfl) rfl
    (fun f fn hf hfn => by
      obtain rfl : f = 3 := Option.some.inj ((show Tryd.prog.funcNamed "burin/burinlaw04.LexReads" = some 3 by kernel_rfl).symm.trans hf) |>.symm
      obtain rfl : fn = Tryd.f3 := (Option.some.inj (Tryd.func3.symm.trans hfn)).symm
      exact ⟨by kernel_rfl, fun j t ht => by
        rw [Tryd.params3] at ht
        have hm : t ∈ [9] := by simpa using Array.mem_of_getElem? ht
        have hall : ([9].all fun u => !Tryd.prog.wantsStandIn u) = true := by kernel_rfl
        exact (show Tryd.prog.wantsStandIn t = false by simpa using List.all_eq_true.1 hall t hm)⟩)
    (by kernel_rfl)
#print axioms proved
end Go.Proofs.YtkjkobiliinneaaDoor.lexReads
