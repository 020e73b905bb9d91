/-
  What the document's Lex returns: a contract over the program; the condition: a length that fits.
-/
import Derived.Test.YtoilhcklflmamaaGreatDoorKLxRefB
namespace Go.Proofs.YtoilhcklflmamaaGreatDoor
open Go.RowKit
set_option linter.unusedVariables false

theorem rlex_long (s : ByteArray) (w : World) (hs : 65536 < s.size) :
    Calls Tryz.prog 23 #[.string s] w fun e w' => e = .returned (.tuple #[.slice none 0 0, .int .i64 0, .int .i64 2]) ∧ w' = w := by
  have hd : decide ((65536 : Int) < (s.size : Int)) = true := by simp; omega
  go_enter Tryz.func23, Tryz.ntmps23
  go_wp2_with (fail)
  go_ret3
  exact ⟨rfl, rfl⟩

theorem rnumber_any (s : ByteArray) (a : Nat) (w : World) (ha : a < s.size) (hs : s.size ≤ 65536) :
    Calls Tryz.prog 37 #[.string s, .int .i64 a] w fun e w' => e = .returned (rnumV a (Lx.numberT ((bl s).drop a))) ∧ Q w w' := by
  by_cases h : s[a].toNat = 35
  · cases hm : Lx.minusB ((bl s).drop a) with
    | true => exact rnumber_minus s a w ha hs hm
    | false => exact rnumber_none s a w ha hs h hm
  · exact rnumber_plain s a w ha hs h

theorem blank_not {c : UInt8} {r : List UInt8} (h : Lx.blankC c = false) (hr : Lx.remarkB (c :: r) = false) : Lx.blankN (c :: r) = 0 := by
  unfold Lx.blankN
  rw [if_neg (by rw [hr]; decide)]
  simp only
  rw [if_neg (by rw [h]; decide)]
theorem blank_yes {c : UInt8} {r : List UInt8} (h : Lx.blankC c = true) : Lx.blankN (c :: r) = 1 := by
  have hx : ¬ Lx.remarkB (c :: r) = true := by
    intro hx
    have := (Lx.isPrefix_two _ _ _).1 hx
    have hc : c = 47 := by cases r <;> simp at this; exact this.1
    subst hc
    exact absurd h (by decide)
  unfold Lx.blankN
  rw [if_neg hx]
  simp only
  rw [if_pos h]
theorem line_no {c : UInt8} {r : List UInt8} (h : c.toNat ≠ 10) : Lx.lineN (c :: r) = Lx.lineN r + 1 := by simp [Lx.lineN, h]
theorem line_yes {c : UInt8} {r : List UInt8} (h : c.toNat = 10) : Lx.lineN (c :: r) = 0 := by simp [Lx.lineN, h]
theorem cut_text {s : ByteArray} {k : Nat} {t : Lx.Tk} (h : t.text = ((bl s).drop k).take t.text.length) : s.extract k (k + t.text.length) = ⟨t.text.toArray⟩ := by
  apply bl_inj
  rw [bl_extract, Nat.add_sub_cancel_left, bl_mk]
  exact h.symm

set_option maxRecDepth 100000 in
set_option maxHeartbeats 4000000 in
theorem rlex_any (s : ByteArray) (w : World) (hs : s.size ≤ 65536) :
    Calls Tryz.prog 23 #[.string s] w fun e w' => LexPost s w e w' := by
  have hd : decide ((65536 : Int) < (s.size : Int)) = false := by simp; omega
  obtain ⟨R, hR⟩ : ∃ R, Lx.lex 0 (bl s) = R := ⟨_, rfl⟩
  have HR := hideIt hR
  clear hR
  go_enter Tryz.func23, Tryz.ntmps23
  go_wp2_with (fail)
  go_loopw [5, 6] (fun v i wr => ∃ (k : Nat) (G : List (Lx.Tk × Nat)), i = .int .i64 k ∧ k ≤ s.size ∧ G.length ≤ k ∧ wr.ownsRow w.heap.size 58 5 v G.length (tksC G) ∧ Hid (R = (G ++ (Lx.lex k ((bl s).drop k)).1, (Lx.lex k ((bl s).drop k)).2)) ∧ Q w wr) (fun _ i _ => s.size - (intOf i).toNat)
  case atStart =>
    refine ⟨0, [], rfl, Nat.zero_le _, Nat.le_refl _, ⟨rfl, Or.inl ⟨rfl, rfl⟩⟩, ?_, Q.refl _⟩
    show R = _
    rw [← HR.out]
    simp
  case round =>
    obtain ⟨k, G, rfl, hk, hG, ho, HX, hq⟩ := hrel
    have HO := hideIt ho
    have HQ := hideIt hq
    clear ho hq
    by_cases hlt : k < s.size
    · have hki : (k : Int) < (s.size : Int) := by omega
      have HL := hideIt (bl_at s k hlt)
      have hld : ((bl s).drop k).length = s.size - k := by rw [List.length_drop, bl_len]
      have hnext : ∀ n, Lx.blankN ((bl s).drop k) = n → n ≠ 0 → Hid (R = (G ++ (Lx.lex (k + n) ((bl s).drop (k + n))).1, (Lx.lex (k + n) ((bl s).drop (k + n))).2)) := by
        intro n h1 h2
        have h5 := HX.out
        rw [Lx.lex_blank k _ (by rw [h1]; exact h2), h1, List.drop_drop] at h5
        exact h5
      by_cases hbl : Lx.blankC s[k] = true
      · have HN := hnext 1 (by rw [HL.out]; exact blank_yes hbl) (by decide)
        have hc := Lx.blank_num hbl
        clear hnext HX hbl hld
        have hc3 : ((s[k].toNat : Int) == 32) = true ∨ (((s[k].toNat : Int) == 32) = false ∧ ((s[k].toNat : Int) == 9) = true) ∨ (((s[k].toNat : Int) == 32) = false ∧ ((s[k].toNat : Int) == 9) = false ∧ ((s[k].toNat : Int) == 10) = true) := by
          rcases hc with e | e | e <;> rw [e] <;> decide
        clear hc
        rcases hc3 with d1 | ⟨d1, d2⟩ | ⟨d1, d2, d3⟩
        all_goals
          go_wp2_with (fail)
          go_roundw
          case rel => exact ⟨k + 1, G, by go_num, by omega, by omega, HO.out, HN, HQ.out⟩
          case measure => simp [intOf]; omega
      · have hbf : Lx.blankC s[k] = false := by simpa using hbl
        have hn3 : s[k].toNat ≠ 32 ∧ s[k].toNat ≠ 9 ∧ s[k].toNat ≠ 10 := by
          simp only [Lx.blankC, Bool.or_eq_false_iff, decide_eq_false_iff_not] at hbf
          omega
        have d1 : ((s[k].toNat : Int) == 32) = false := by rw [beq_eq_false_iff_ne]; omega
        have d2 : ((s[k].toNat : Int) == 9) = false := by rw [beq_eq_false_iff_ne]; omega
        have d3 : ((s[k].toNat : Int) == 10) = false := by rw [beq_eq_false_iff_ne]; omega
        by_cases hrem : Lx.remarkB ((bl s).drop k) = true
        · have ht2 := (Lx.isPrefix_two _ _ _).1 hrem
          have hl2 : k + 1 < s.size := by
            have := congrArg List.length ht2
            rw [List.length_take, hld] at this
            simp at this
            omega
          rw [HL.out, bl_at s (k + 1) hl2] at ht2
          simp only [List.take_succ_cons, List.take_zero, List.cons.injEq, and_true] at ht2
          have d4 : ((s[k].toNat : Int) == 47) = true := by rw [ht2.1]; rfl
          have d5 : decide ((k : Int) + 1 < (s.size : Int)) = true := by simp; omega
          have d6 : ((s[k + 1].toNat : Int) == 47) = true := by rw [ht2.2]; rfl
          have hki2 : (k : Int) + 1 < (s.size : Int) := by omega
          have ebn : Lx.blankN ((bl s).drop k) = Lx.lineN ((bl s).drop k) := by unfold Lx.blankN; rw [if_pos hrem]
          have hln : Lx.lineN ((bl s).drop k) ≠ 0 := by rw [HL.out, line_no (by omega)]; omega
          have HN := hnext _ ebn hln
          have hll := Lx.lineN_le ((bl s).drop k)
          obtain ⟨n, hn⟩ : ∃ n, Lx.lineN ((bl s).drop k) = n := ⟨_, rfl⟩
          rw [hn] at HN hln hll
          have HNN := hideIt hn
          clear hnext HX hbl hbf hrem ht2 ebn hn
          go_wp2_with (fail)
          go_loop [6] (fun i => ∃ j : Nat, i = .int .i64 j ∧ k ≤ j ∧ j ≤ s.size ∧ Hid (n = (j - k) + Lx.lineN ((bl s).drop j))) (fun i => s.size - (intOf i).toNat)
          case atStart => exact ⟨k, rfl, Nat.le_refl _, hk, hideIt (by rw [Nat.sub_self, Nat.zero_add]; exact HNN.out.symm)⟩
          case round =>
            obtain ⟨j, rfl, j1, j2, HJ⟩ := hrel
            by_cases hjs : j < s.size
            · have hji : (j : Int) < (s.size : Int) := by omega
              have hjd : decide ((j : Int) < (s.size : Int)) = true := by simp; omega
              have hja := bl_at s j hjs
              by_cases h10 : s[j].toNat = 10
              · have e10 : ((s[j].toNat : Int) != 10) = false := by rw [bne_eq_false_iff_eq]; omega
                have hjn : j = k + n := by
                  have := HJ.out
                  rw [hja, line_yes h10] at this
                  omega
                have HN2 : Hid (R = (G ++ (Lx.lex j ((bl s).drop j)).1, (Lx.lex j ((bl s).drop j)).2)) := by rw [hjn]; exact HN.out
                have hjk : k < j := by omega
                clear HJ hja h10 HN hjn
                go_wp2_with (fail)
                go_roundw
                case rel => exact ⟨j, G, rfl, by omega, by omega, HO.out, HN2, HQ.out⟩
                case measure => simp [intOf]; omega
              · have e10 : ((s[j].toNat : Int) != 10) = true := by rw [bne_iff_ne]; omega
                have HJ2 : Hid (n = (j + 1 - k) + Lx.lineN ((bl s).drop (j + 1))) := by
                  have := HJ.out
                  rw [hja, line_no h10] at this
                  show _ = _
                  omega
                clear HJ hja h10
                go_wp2_with (fail)
                go_round
                case rel => exact ⟨j + 1, by go_num, by omega, by omega, HJ2⟩
                case measure => simp [intOf]; omega
            · have hji : ¬ (j : Int) < (s.size : Int) := by omega
              have hjd : decide ((j : Int) < (s.size : Int)) = false := by simp; omega
              have hjn : j = k + n := by
                have := HJ.out
                rw [show j = s.size by omega, drop_all] at this
                simp [Lx.lineN] at this
                omega
              have HN2 : Hid (R = (G ++ (Lx.lex j ((bl s).drop j)).1, (Lx.lex j ((bl s).drop j)).2)) := by rw [hjn]; exact HN.out
              clear HJ HN hjn
              go_wp2_with (fail)
              go_roundw
              case rel => exact ⟨j, G, rfl, by omega, by omega, HO.out, HN2, HQ.out⟩
              case measure => simp [intOf]; omega
        · have hrf : Lx.remarkB ((bl s).drop k) = false := by simpa using hrem
          have hb0 : Lx.blankN ((bl s).drop k) = 0 := by rw [HL.out] at hrf ⊢; exact blank_not hbf hrf
          have hne : (bl s).drop k ≠ [] := by rw [HL.out]; simp
          have hnone : Lx.tok ((bl s).drop k) = none → Hid (R = (G, some k)) := by
            intro h1
            have h5 := HX.out
            rw [Lx.lex_none k _ hb0 hne h1] at h5
            show R = _
            rw [h5]
            simp
          have hsome : ∀ t, Lx.tok ((bl s).drop k) = some t → Hid (R = (G ++ [(t, k)] ++ (Lx.lex (k + t.text.length) ((bl s).drop (k + t.text.length))).1, (Lx.lex (k + t.text.length) ((bl s).drop (k + t.text.length))).2)) ∧ s.extract k (k + t.text.length) = ⟨t.text.toArray⟩ ∧ 1 ≤ t.text.length ∧ k + t.text.length ≤ s.size ∧ t.ty ≤ 5 := by
            intro t h1
            have hn := Lx.tok_len h1
            rw [hld] at hn
            refine ⟨?_, cut_text hn.2.1, hn.1, by omega, hn.2.2.2.2.2.1⟩
            have h5 := HX.out
            rw [Lx.lex_tok k _ t hb0 h1, List.drop_drop] at h5
            show R = _
            rw [h5]
            simp
          have htk : Lx.tok ((bl s).drop k) = if Lx.letter s[k] then Lx.lettersT ((bl s).drop k) else if Lx.numC s[k] then Lx.numberT ((bl s).drop k) else Lx.signT ((bl s).drop k) := by
            rw [HL.out]
            rfl
          have hr47 : ((s[k].toNat : Int) == 47) = false ∨ (((s[k].toNat : Int) == 47) = true ∧ decide ((k : Int) + 1 < (s.size : Int)) = false) ∨ (∃ h2 : k + 1 < s.size, ((s[k].toNat : Int) == 47) = true ∧ decide ((k : Int) + 1 < (s.size : Int)) = true ∧ (k : Int) + 1 < (s.size : Int) ∧ ((s[k + 1].toNat : Int) == 47) = false) := by
            cases h4 : ((s[k].toNat : Int) == 47) with
            | false => exact Or.inl rfl
            | true =>
              right
              by_cases h2 : k + 1 < s.size
              · right
                refine ⟨h2, rfl, by simp; omega, by omega, ?_⟩
                rw [beq_eq_false_iff_ne]
                intro e
                have : Lx.remarkB ((bl s).drop k) = true := by
                  apply (Lx.isPrefix_two _ _ _).2
                  rw [HL.out, bl_at s (k + 1) h2]
                  have e1 : s[k] = 47 := UInt8.toNat_inj.1 (by have := beq_iff_eq.1 h4; show s[k].toNat = 47; omega)
                  have e2 : s[k + 1] = 47 := UInt8.toNat_inj.1 (by show s[k + 1].toNat = 47; omega)
                  simp [e1, e2]
                rw [hrf] at this
                cases this
              · left
                exact ⟨rfl, by simp; omega⟩
          have HLT := hideIt (fun w => rletter_any s[k] w)
          have HDG := hideIt (fun w => rdigit_any s[k] w)
          clear HX hnext hbl hbf hrem hrf hb0 hne hn3
          cases hnc : Lx.numC s[k] with
          | true =>
            have hlf : Lx.letter s[k] = false := by
              cases h9 : Lx.letter s[k] with
              | false => rfl
              | true => rw [letter_numC h9] at hnc; cases hnc
            have d4 : ((s[k].toNat : Int) == 47) = false := by
              rw [beq_eq_false_iff_ne]
              intro e
              have : s[k] = 47 := UInt8.toNat_inj.1 (by show s[k].toNat = 47; omega)
              rw [this] at hnc
              exact absurd hnc (by decide)
            rw [hlf, hnc, if_neg (by decide), if_pos rfl] at htk
            have HNM := hideIt (rnumber_any s k wr hlt hs)
            have hdc : (Lx.digit s[k] = true) ∨ (Lx.digit s[k] = false ∧ ((s[k].toNat : Int) == 35) = true) := by
              cases h9 : Lx.digit s[k] with
              | true => exact Or.inl rfl
              | false =>
                right
                refine ⟨rfl, ?_⟩
                rw [beq_iff_eq]
                simp [Lx.numC, h9] at hnc
                omega
            cases hnt : Lx.numberT ((bl s).drop k) with
            | none =>
              rw [hnt] at HNM htk
              simp only [rnumV] at HNM
              have HN := hnone htk
              clear hnone hsome htk hnt hr47 hlf hnc
              rcases hdc with h9 | ⟨h9, h8⟩
              all_goals
                rw [h9] at HDG
                clear h9
                go_wp2_with (first | (go_at_call 36; refine (HDG.out _).mono ?_; rintro e w' ⟨rfl, rfl⟩) | (go_at_call 37; refine HNM.out.mono ?_; rintro e x ⟨rfl, q⟩; have HQ2 := hideIt (HQ.out.trans q); clear q) | fail)
                go_ret3
                refine ⟨HQ2.out, fun h => ?_, fun p hp => ?_⟩
                · rw [HR.out, HN.out] at h; cases h
                · rw [HR.out, HN.out] at hp
                  obtain rfl := Option.some.inj hp
                  rfl
            | some t =>
              rw [hnt] at HNM htk
              simp only [rnumV] at HNM
              have hkind : t.kind = 3 := by
                unfold Lx.numberT at hnt
                split at hnt
                · rw [← Option.some.inj hnt]
                · cases hnt
              obtain ⟨HN, hcut, t1, t2, t3⟩ := hsome t htk
              have hneg : decide (((k + t.text.length : Nat) : Int) < 0) = false := by simp; omega
              have HK := hideIt hkind
              clear hnone hsome htk hnt hr47 hlf hnc hkind
              rcases hdc with h9 | ⟨h9, h8⟩
              all_goals
                rw [h9] at HDG
                clear h9
                go_wp2_with (first | (go_at_call 36; refine (HDG.out _).mono ?_; rintro e w' ⟨rfl, rfl⟩) | (go_at_call 37; refine HNM.out.mono ?_; rintro e x ⟨rfl, q⟩; have HO2 := hideIt (ownsRow_q HO.out q); have HQ2 := hideIt (HQ.out.trans q); clear q) | (at_builtin; refine app_one (t, k) _ HQ2.out HO2.out rfl (by omega) rfl (.tmp 80) (.tmp 90) rfl rfl rfl 3 ⟨t.text.toArray⟩ t.n (t.ty : Int) (k : Int) (by simp [tkC, HK.out]) ?_; intro nv y r1 r2 r3; have R1 := hideIt r1; have R2 := hideIt r2; clear r1 r2 r3) | fail)
                go_roundw
                case rel =>
                  refine ⟨k + t.text.length, G ++ [(t, k)], by go_num, by omega, by simp; omega, ?_, HN, R2.out⟩
                  have h7 := R1.out
                  simpa using h7
                case measure => simp [intOf]; omega
          | false =>
            have hdf : Lx.digit s[k] = false := by simp [Lx.numC] at hnc; exact hnc.1
            have e35 : ((s[k].toNat : Int) == 35) = false := by
              rw [beq_eq_false_iff_ne]
              intro e
              simp [Lx.numC] at hnc
              omega
            rw [hdf] at HDG
            rw [hnc] at htk
            cases hlt2 : Lx.letter s[k] with
            | true =>
              have d4 : ((s[k].toNat : Int) == 47) = false := by
                rw [beq_eq_false_iff_ne]
                intro e
                have : s[k] = 47 := UInt8.toNat_inj.1 (by show s[k].toNat = 47; omega)
                rw [this] at hlt2
                exact absurd hlt2 (by decide)
              rw [hlt2] at HLT
              rw [hlt2, if_pos rfl] at htk
              have HRUN := hideIt (rrun_any s k wr (by omega) hk)
              have hrl := Lx.runN_le ((bl s).drop k)
              rw [hld] at hrl
              have hr1 : 1 ≤ Lx.runN ((bl s).drop k) := by rw [HL.out, runN_yes _ (Lx.letter_alnum hlt2)]; omega
              have hbg : Lx.begins ((bl s).drop k) = true := by rw [HL.out]; exact hlt2
              have hcutr : bl (s.extract k (k + Lx.runN ((bl s).drop k))) = ((bl s).drop k).take (Lx.runN ((bl s).drop k)) := by rw [bl_extract, Nat.add_sub_cancel_left]
              have HW := hideIt (fun w => rword_any (s.extract k (k + Lx.runN ((bl s).drop k))) w)
              have HNAME := hideIt (fun w => rname_any (s.extract k (k + Lx.runN ((bl s).drop k))) w (by rw [← bl_len, hcutr, List.length_take]; omega))
              rw [hcutr] at HW HNAME
              unfold Lx.lettersT at htk
              rw [hbg, if_pos rfl] at htk
              have htl : (((bl s).drop k).take (Lx.runN ((bl s).drop k))).length = Lx.runN ((bl s).drop k) := by rw [List.length_take]; omega
              generalize ((bl s).drop k).take (Lx.runN ((bl s).drop k)) = tx at *
              rw [← htl] at HRUN HW HNAME hrl hr1
              clear htl hcutr hbg hr47 hlt2 hnc hdf
              cases hwd : Lx.wordB tx with
              | true =>
                rw [hwd] at HW
                rw [hwd, if_pos rfl] at htk
                obtain ⟨HN, hcut, t1, t2, t3⟩ := hsome _ htk
                simp only at HN hcut t1 t2
                clear hnone hsome htk hwd HNAME
                rw [hcut] at HW
                go_wp2_with (first | (go_at_call 36; refine (HDG.out _).mono ?_; rintro e w' ⟨rfl, rfl⟩) | (go_at_call 38; refine (HLT.out _).mono ?_; rintro e w' ⟨rfl, rfl⟩) | (go_at_call 39; refine HRUN.out.mono ?_; rintro e w' ⟨rfl, rfl⟩) | (go_at_call 40; refine (HW.out _).mono ?_; rintro e x ⟨rfl, q⟩; have HO2 := hideIt (ownsRow_q HO.out q); have HQ2 := hideIt (HQ.out.trans q); clear q) | (at_builtin; refine app_one (⟨2, tx, 0, 0⟩, k) _ HQ2.out HO2.out rfl (by omega) rfl (.tmp 104) (.tmp 108) rfl rfl rfl 2 ⟨tx.toArray⟩ 0 0 (k : Int) rfl ?_; intro nv y r1 r2 r3; have R1 := hideIt r1; have R2 := hideIt r2; clear r1 r2 r3) | fail)
                go_roundw
                case rel =>
                  refine ⟨k + tx.length, G ++ [(⟨2, tx, 0, 0⟩, k)], by go_num, by omega, by simp; omega, ?_, HN, R2.out⟩
                  have h7 := R1.out
                  simpa using h7
                case measure => simp [intOf]; omega
              | false =>
                rw [hwd] at HW
                rw [hwd, if_neg (by decide)] at htk
                cases hnm : Lx.nameB tx with
                | true =>
                  rw [hnm] at HNAME
                  rw [hnm, if_pos rfl] at htk
                  obtain ⟨HN, hcut, t1, t2, t3⟩ := hsome _ htk
                  simp only at HN hcut t1 t2
                  clear hnone hsome htk hwd hnm
                  rw [hcut] at HW HNAME
                  go_wp2_with (first | (go_at_call 36; refine (HDG.out _).mono ?_; rintro e w' ⟨rfl, rfl⟩) | (go_at_call 38; refine (HLT.out _).mono ?_; rintro e w' ⟨rfl, rfl⟩) | (go_at_call 39; refine HRUN.out.mono ?_; rintro e w' ⟨rfl, rfl⟩) | (go_at_call 40; refine (HW.out _).mono ?_; rintro e x ⟨rfl, q⟩; have HO1 := hideIt (ownsRow_q HO.out q); have HQ1 := hideIt (HQ.out.trans q); clear q) | (go_at_call 41; refine (HNAME.out _).mono ?_; rintro e x2 ⟨rfl, q⟩; have HO2 := hideIt (ownsRow_q HO1.out q); have HQ2 := hideIt (HQ1.out.trans q); clear q) | (at_builtin; refine app_one (⟨1, tx, 0, 0⟩, k) _ HQ2.out HO2.out rfl (by omega) rfl (.tmp 112) (.tmp 116) rfl rfl rfl 1 ⟨tx.toArray⟩ 0 0 (k : Int) rfl ?_; intro nv y r1 r2 r3; have R1 := hideIt r1; have R2 := hideIt r2; clear r1 r2 r3) | fail)
                  go_roundw
                  case rel =>
                    refine ⟨k + tx.length, G ++ [(⟨1, tx, 0, 0⟩, k)], by go_num, by omega, by simp; omega, ?_, HN, R2.out⟩
                    have h7 := R1.out
                    simpa using h7
                  case measure => simp [intOf]; omega
                | false =>
                  rw [hnm] at HNAME
                  rw [hnm, if_neg (by decide)] at htk
                  have HN := hnone htk
                  clear hnone hsome htk hwd hnm
                  go_wp2_with (first | (go_at_call 36; refine (HDG.out _).mono ?_; rintro e w' ⟨rfl, rfl⟩) | (go_at_call 38; refine (HLT.out _).mono ?_; rintro e w' ⟨rfl, rfl⟩) | (go_at_call 39; refine HRUN.out.mono ?_; rintro e w' ⟨rfl, rfl⟩) | (go_at_call 40; refine (HW.out _).mono ?_; rintro e x ⟨rfl, q⟩; have HQ1 := hideIt (HQ.out.trans q); clear q) | (go_at_call 41; refine (HNAME.out _).mono ?_; rintro e x2 ⟨rfl, q⟩; have HQ2 := hideIt (HQ1.out.trans q); clear q) | fail)
                  go_ret3
                  refine ⟨HQ2.out, fun h => ?_, fun p hp => ?_⟩
                  · rw [HR.out, HN.out] at h; cases h
                  · rw [HR.out, HN.out] at hp
                    obtain rfl := Option.some.inj hp
                    rfl
            | false =>
              rw [hlt2] at HLT
              rw [hlt2, if_neg (by decide), if_neg (by decide)] at htk
              have HSG := hideIt (rsign_any s k wr hlt hs)
              clear hlt2 hnc hdf
              cases hst : Lx.signT ((bl s).drop k) with
              | none =>
                have e0 : signN ((bl s).drop k) = 0 := by unfold signN; rw [hst]
                rw [e0] at HSG
                rw [hst] at htk
                have HN := hnone htk
                clear hnone hsome htk hst e0
                rcases hr47 with d4 | ⟨d4, d5⟩ | ⟨h2, d4, d5, h3, d6⟩
                all_goals
                  go_wp2_with (first | (go_at_call 36; refine (HDG.out _).mono ?_; rintro e w' ⟨rfl, rfl⟩) | (go_at_call 38; refine (HLT.out _).mono ?_; rintro e w' ⟨rfl, rfl⟩) | (go_at_call 42; refine HSG.out.mono ?_; rintro e x ⟨rfl, q⟩; have HQ2 := hideIt (HQ.out.trans q); clear q) | fail)
                  go_ret3
                  refine ⟨HQ2.out, fun h => ?_, fun p hp => ?_⟩
                  · rw [HR.out, HN.out] at h; cases h
                  · rw [HR.out, HN.out] at hp
                    obtain rfl := Option.some.inj hp
                    rfl
              | some t =>
                have e0 : signN ((bl s).drop k) = t.text.length := by unfold signN; rw [hst]
                rw [e0] at HSG
                have htt : t = ⟨4, t.text, 0, 0⟩ := by
                  unfold Lx.signT at hst
                  split at hst
                  · rw [← Option.some.inj hst]
                  · split at hst
                    · rw [← Option.some.inj hst]
                    · cases hst
                rw [hst] at htk
                obtain ⟨HN, hcut, t1, t2, t3⟩ := hsome t htk
                obtain ⟨tx, htx⟩ : ∃ tx, t.text = tx := ⟨_, rfl⟩
                rw [htt] at HN
                rw [htx] at HN hcut t1 t2 HSG
                have hn0 : ((tx.length : Int) == 0) = false := by rw [beq_eq_false_iff_ne]; omega
                clear hnone hsome htk hst e0 htt htx t3
                rcases hr47 with d4 | ⟨d4, d5⟩ | ⟨h2, d4, d5, h3, d6⟩
                all_goals
                  go_wp2_with (first | (go_at_call 36; refine (HDG.out _).mono ?_; rintro e w' ⟨rfl, rfl⟩) | (go_at_call 38; refine (HLT.out _).mono ?_; rintro e w' ⟨rfl, rfl⟩) | (go_at_call 42; refine HSG.out.mono ?_; rintro e x ⟨rfl, q⟩; have HO2 := hideIt (ownsRow_q HO.out q); have HQ2 := hideIt (HQ.out.trans q); clear q) | (at_builtin; refine app_one (⟨4, tx, 0, 0⟩, k) _ HQ2.out HO2.out rfl (by omega) rfl (.tmp 126) (.tmp 135) rfl rfl rfl 4 ⟨tx.toArray⟩ 0 0 (k : Int) rfl ?_; intro nv y r1 r2 r3; have R1 := hideIt r1; have R2 := hideIt r2; clear r1 r2 r3) | fail)
                  go_roundw
                  case rel =>
                    refine ⟨k + tx.length, G ++ [(⟨4, tx, 0, 0⟩, k)], by go_num, by omega, by simp; omega, ?_, HN, R2.out⟩
                    have h7 := R1.out
                    simpa using h7
                  case measure => simp [intOf]; omega
    · have ek : k = s.size := by omega
      subst ek
      have HTN : Hid (R = (G, none)) := by
        have h5 := HX.out
        rw [drop_all, Lx.lex_nil] at h5
        show R = _
        rw [h5]
        simp
      clear HX
      go_wp2_with (first | (at_builtin; refine app_one (endTk, s.size) wr.heap.size HQ.out HO.out rfl (by omega) rfl (.tmp 140) (.tmp 144) rfl rfl rfl 0 ⟨#[]⟩ 0 0 (s.size : Int) rfl ?_; intro nv y r1 r2 r3; have R1 := hideIt r1; have R2 := hideIt r2; clear r1 r2 r3) | fail)
      go_ret3
      refine ⟨R2.out, fun h => ?_, fun p hp => ?_⟩
      · rw [HR.out, HTN.out]
        exact ⟨_, rfl, R1.out⟩
      · rw [HR.out, HTN.out] at hp; cases hp
end Go.Proofs.YtoilhcklflmamaaGreatDoor
