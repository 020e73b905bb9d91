/-
  What the document's number returns: contracts over the program; the conditions: a length that fits, and a place within the text.
-/
import Derived.Test.YtoilhcklflmamaaGreatDoorKLxRefA
namespace Go.Proofs.YtoilhcklflmamaaGreatDoor
open Go.RowKit
set_option linter.unusedVariables false

/-- What the document's number answers. -/
def rnumV (a : Nat) : Option Lx.Tk → Value
  | none => .tuple #[.int .i64 0, .int .i64 0, .int .i64 (-1)]
  | some t => .tuple #[.int .i64 t.n, .int .i64 t.ty, .int .i64 ((a + t.text.length : Nat) : Int)]

theorem digN_next (l : List UInt8) (c : UInt8) (r : List UInt8) (h : l.drop (Lx.digN l) = c :: r) (hc : Lx.digit c = true) : False := by
  induction l with
  | nil => simp [Lx.digN] at h
  | cons d l ih =>
    by_cases hd : Lx.digit d = true
    · rw [digN_yes _ hd] at h
      exact ih (by simpa using h)
    · have hd' : Lx.digit d = false := by simpa using hd
      rw [digN_no _ hd'] at h
      simp at h
      rw [h.1] at hd
      exact hd hc

/-- A number's parts, by the place at which its digits begin. -/
theorem num_parts (m : Bool) (l B : List UInt8) (a f d r : Nat) (hm : Lx.minusB l = m) (hb : Lx.body l = B) (hf : f - a = l.length - B.length) (haf : a ≤ f) (hBl : B.length ≤ l.length) (hd : Lx.digN B = d) (hr : Lx.runN (B.drop d) = r) (hdr : d + r ≤ B.length) :
    rnumV a (Lx.numberT l) = if Lx.numOk m B then .tuple #[.int .i64 (Lx.numV m B), .int .i64 (Lx.intT (Lx.tail B) : Int), .int .i64 ((f + d + r : Nat) : Int)] else .tuple #[.int .i64 0, .int .i64 0, .int .i64 (-1)] := by
  unfold Lx.numberT
  rw [hm, hb, hd, hr]
  split
  · simp only [rnumV, List.length_take]
    rw [show a + min (l.length - B.length + (d + r)) l.length = f + d + r by omega]
  · rfl

theorem rnumber_none (s : ByteArray) (a : Nat) (w : World) (ha : a < s.size) (hs : s.size ≤ 65536) (h35 : s[a].toNat = 35) (hm : Lx.minusB ((bl s).drop a) = false) :
    Calls Tryz.prog 37 #[.string s, .int .i64 a] w fun e w' => e = .returned (rnumV a (Lx.numberT ((bl s).drop a))) ∧ Q w w' := by
  have hl := bl_at s a ha
  have en : Lx.numberT ((bl s).drop a) = none := by
    have hc : s[a] = 35 := UInt8.toNat_inj.1 h35
    unfold Lx.numberT
    have hb : Lx.body ((bl s).drop a) = (bl s).drop a := by unfold Lx.body; rw [if_neg (by rw [hm]; decide)]
    rw [hb, if_neg]
    rw [hl]
    have hd : Lx.digN (s[a] :: (bl s).drop (a + 1)) = 0 := digN_no _ (by rw [hc]; decide)
    simp [Lx.numOk, Lx.digsOk, hd]
  rw [en]
  have hai : (a : Int) < (s.size : Int) := by omega
  have b0 : ((s[a].toNat : Int) == 35) = true := by rw [beq_iff_eq]; omega
  by_cases h1 : a + 1 < s.size
  · have b1 : decide ((s.size : Int) ≤ (a : Int) + 1) = false := by simp; omega
    have hai2 : (a : Int) + 1 < (s.size : Int) := by omega
    have b2 : ((s[a + 1].toNat : Int) != 45) = true := by
      rw [bne_iff_ne]
      intro e
      have : Lx.minusB ((bl s).drop a) = true := by
        apply (Lx.isPrefix_two _ _ _).2
        rw [hl, bl_at s (a + 1) h1]
        have e1 : s[a] = 35 := UInt8.toNat_inj.1 h35
        have e2 : s[a + 1] = 45 := UInt8.toNat_inj.1 (by show s[a + 1].toNat = 45; omega)
        simp [e1, e2]
      rw [hm] at this
      cases this
    clear hl en hm h35
    go_enter Tryz.func37, Tryz.ntmps37
    go_wp2_with (fail)
    go_ret3
    exact ⟨rfl, Q.refl _⟩
  · have b1 : decide ((s.size : Int) ≤ (a : Int) + 1) = true := by simp; omega
    clear hl en hm h35
    go_enter Tryz.func37, Tryz.ntmps37
    go_wp2_with (fail)
    go_ret3
    exact ⟨rfl, Q.refl _⟩

set_option maxRecDepth 100000 in
set_option maxHeartbeats 4000000 in
theorem rnumber_plain (s : ByteArray) (a : Nat) (w : World) (ha : a < s.size) (hs : s.size ≤ 65536) (h35 : s[a].toNat ≠ 35) :
    Calls Tryz.prog 37 #[.string s, .int .i64 a] w fun e w' => e = .returned (rnumV a (Lx.numberT ((bl s).drop a))) ∧ Q w w' := by
  have hai : (a : Int) < (s.size : Int) := by omega
  have b0 : ((s[a].toNat : Int) == 35) = false := by rw [beq_eq_false_iff_ne]; omega
  have hminus : Lx.minusB ((bl s).drop a) = false := by
    cases hx : Lx.minusB ((bl s).drop a) with
    | false => rfl
    | true =>
      have := (Lx.isPrefix_two _ _ _).1 hx
      rw [bl_at s a ha] at this
      have e1 : s[a] = 35 := by
        cases hy : (bl s).drop (a + 1) <;> rw [hy] at this <;> simp at this
        exact this.1
      exact absurd (by rw [e1]; rfl) h35
  obtain ⟨B, hB⟩ : ∃ B, (bl s).drop a = B := ⟨_, rfl⟩
  have hBl : B.length = s.size - a := by rw [← hB, List.length_drop, bl_len]
  have hbody : Lx.body ((bl s).drop a) = B := by
    unfold Lx.body
    rw [if_neg (by rw [hminus]; decide)]; exact hB
  have hll : ((bl s).drop a).length = s.size - a := by rw [List.length_drop, bl_len]
  have hd1 := Lx.digN_le B
  have HP := hideIt (fun r (hr : Lx.runN (B.drop (Lx.digN B)) = r) hdr => num_parts false ((bl s).drop a) B a a (Lx.digN B) r hminus hbody (by omega) (by omega) (by omega) rfl hr hdr)
  have HB := hideIt hB
  have HDA := hideIt (digs_all B)
  obtain ⟨R, hR⟩ : ∃ R, rnumV a (Lx.numberT ((bl s).drop a)) = R := ⟨_, rfl⟩
  rw [hR] at HP ⊢
  clear hB hbody hminus hll hR
  go_enter Tryz.func37, Tryz.ntmps37
  go_wp2_with (fail)
  go_loop [7, 10] (fun i v => ∃ p : Nat, i = .int .i64 p ∧ a ≤ p ∧ p ≤ s.size ∧ p - a ≤ 11 ∧ p - a ≤ Lx.digN B ∧ v = .int .i64 (Lx.val (B.take (p - a)))) (fun i _ => s.size - (intOf i).toNat)
  case atStart => exact ⟨a, by go_num, Nat.le_refl _, by omega, by omega, by omega, by rw [Nat.sub_self]; rfl⟩
  case round =>
    obtain ⟨p, rfl, p1, p2, p3, p4, rfl⟩ := hrel
    have htk : B.take (p - a) = (B.take (Lx.digN B)).take (p - a) := by rw [List.take_take, Nat.min_eq_left p4]
    have hvb := val_bd (B.take (p - a)) (fun c hc => HDA.out c (by rw [htk] at hc; exact List.mem_of_mem_take hc)) (by rw [List.length_take]; omega)
    clear htk
    by_cases hgo : p < s.size ∧ p - a < 11 ∧ p - a < Lx.digN B
    · obtain ⟨g1, g2, g3⟩ := hgo
      have hpi : (p : Int) < (s.size : Int) := by omega
      have hBp : B.drop (p - a) = s[p] :: (bl s).drop (p + 1) := by rw [← HB.out, List.drop_drop, show a + (p - a) = p by omega]; exact bl_at s p g1
      have hdg : Lx.digit s[p] = true := by
        apply HDA.out
        have : (B.take (Lx.digN B))[p - a]? = some s[p] := by
          rw [List.getElem?_take_of_lt g3, ← List.head?_drop, hBp]
          rfl
        exact List.mem_of_getElem? this
      have hc := digit_num hdg
      have HD := hideIt (fun w => rdigit_any s[p] w)
      rw [hdg] at HD
      have HV : Hid (Lx.val (B.take (p + 1 - a)) = Lx.val (B.take (p - a)) * 10 + ((s[p].toNat : Int) - 48)) := by
        show _ = _
        have hx : B[p - a]? = some s[p] := by rw [← List.head?_drop, hBp]; rfl
        rw [show p + 1 - a = p - a + 1 by omega, List.take_add_one, hx]
        exact val_snoc _ _
      have b11 : decide ((p : Int) - (a : Int) < 11) = true := by simp; omega
      have c1 : (48 : Int) ≤ (s[p].toNat : Int) := by omega
      have c2 : (s[p].toNat : Int) ≤ 57 := by omega
      obtain ⟨v, hv⟩ : ∃ v, Lx.val (B.take (p - a)) = v := ⟨_, rfl⟩
      rw [hv] at HV hvb ⊢
      clear hBp hdg hc hv
      go_wp2_with (first | (go_at_call 36; refine (HD.out _).mono ?_; rintro e w' ⟨rfl, rfl⟩) | fail)
      go_round
      case rel =>
        refine ⟨p + 1, by go_num, by omega, by omega, by omega, by omega, ?_⟩
        rw [HV.out]
        try rfl
      case measure => simp [intOf]; omega
    · -- out of the loop
      have hend : (p - a ≤ 10 → p - a = Lx.digN B) ∧ (p - a = 11 → 11 ≤ Lx.digN B) := by
        refine ⟨fun h => ?_, fun h => by omega⟩
        by_cases h2 : p < s.size
        · omega
        · omega
      have hex : (¬ (p : Int) < (s.size : Int)) ∨ ((p : Int) < (s.size : Int) ∧ p - a < 11 ∧ p < s.size) ∨ ((p : Int) < (s.size : Int) ∧ p - a = 11 ∧ p < s.size) := by omega
      obtain ⟨vv, hvv⟩ : ∃ v, Lx.val (B.take (p - a)) = v := ⟨_, rfl⟩
      rw [hvv] at hvb ⊢
      have HRUN := hideIt (fun w => rrun_any s p w (by omega) p2)
      have hrl := Lx.runN_le ((bl s).drop p)
      rw [List.length_drop, bl_len] at hrl
      obtain ⟨r, hr⟩ : ∃ r, Lx.runN ((bl s).drop p) = r := ⟨_, rfl⟩
      rw [hr] at HRUN hrl
      have hex2 : (¬ (p : Int) < (s.size : Int)) ∨ (∃ (hp : p < s.size) (b : Bool), (p : Int) < (s.size : Int) ∧ Hid (∀ w, Calls Tryz.prog 36 #[.int .u8 (s[p].toNat : Int)] w fun e w' => e = .returned (.bool b) ∧ w' = w) ∧ (b = false ∨ (b = true ∧ decide ((p : Int) - (a : Int) < 11) = false))) := by
        by_cases hp : p < s.size
        · right
          refine ⟨hp, Lx.digit s[p], by omega, fun w => rdigit_any s[p] w, ?_⟩
          by_cases h11 : p - a = 11
          · cases hdd : Lx.digit s[p] with
            | false => exact Or.inl rfl
            | true => exact Or.inr ⟨rfl, by simp; omega⟩
          · left
            cases hdd : Lx.digit s[p] with
            | false => rfl
            | true =>
              exfalso
              have hBp : B.drop (p - a) = s[p] :: (bl s).drop (p + 1) := by rw [← HB.out, List.drop_drop, show a + (p - a) = p by omega]; exact bl_at s p hp
              have hx := hend.1 (by omega)
              have h1 : B.drop (Lx.digN B) = s[p] :: (bl s).drop (p + 1) := by rw [← hx]; exact hBp
              exact digN_next B s[p] _ h1 hdd
        · left; omega
      have nR : (Lx.numOk false B = false) → Hid (R = .tuple #[.int .i64 0, .int .i64 0, .int .i64 (-1)]) := by
        intro h0
        obtain ⟨r0, hr0⟩ : ∃ r0, Lx.runN (B.drop (Lx.digN B)) = r0 := ⟨_, rfl⟩
        have h5 := Lx.runN_le (B.drop (Lx.digN B))
        rw [List.length_drop] at h5
        have := HP.out r0 hr0 (by omega)
        rw [h0, if_neg (by decide)] at this
        exact this
      by_cases hj1 : p - a < 1
      · have HN := nR (by have := hend.1 (by omega); simp [Lx.numOk, Lx.digsOk]; omega)
        have t1 : decide ((p : Int) - (a : Int) < 1) = true := by simp; omega
        clear nR HP hex hgo
        rcases hex2 with h9 | ⟨hp, b, h9, HD, rfl | ⟨rfl, h10⟩⟩
        all_goals
          go_wp2_with (first | (go_at_call 36; refine (HD.out _).mono ?_; rintro e w' ⟨rfl, rfl⟩) | (go_at_call 39; refine (HRUN.out _).mono ?_; rintro e w' ⟨rfl, rfl⟩) | fail)
          go_ret3
          rw [HN.out]
          exact ⟨rfl, Q.refl _⟩
      · have t1 : decide ((p : Int) - (a : Int) < 1) = false := by simp; omega
        by_cases hj2 : 10 < p - a
        · have HN := nR (by have := hend.2 (by omega); simp [Lx.numOk, Lx.digsOk]; omega)
          have t2 : decide ((10 : Int) < (p : Int) - (a : Int)) = true := by simp; omega
          clear nR HP hex hgo
          rcases hex2 with h9 | ⟨hp, b, h9, HD, rfl | ⟨rfl, h10⟩⟩
          all_goals
            go_wp2_with (first | (go_at_call 36; refine (HD.out _).mono ?_; rintro e w' ⟨rfl, rfl⟩) | (go_at_call 39; refine (HRUN.out _).mono ?_; rintro e w' ⟨rfl, rfl⟩) | fail)
            go_ret3
            rw [HN.out]
            exact ⟨rfl, Q.refl _⟩
        · have t2 : decide ((10 : Int) < (p : Int) - (a : Int)) = false := by simp; omega
          have hd := hend.1 (by omega)
          have hFs : a < s.size := by omega
          have hFi : (a : Int) < (s.size : Int) := by omega
          have hB0 : B.head? = some s[a] := by rw [← HB.out, bl_at s a hFs]; rfl
          have e48 : decide (B.head? = some 48) = ((s[a].toNat : Int) == 48) := by
            rw [hB0, Bool.eq_iff_iff]
            simp only [Option.some.injEq, decide_eq_true_eq, beq_iff_eq]
            constructor
            · intro e; rw [e]; rfl
            · intro e; exact UInt8.toNat_inj.1 (by show s[a].toNat = 48; omega)
          have edg : Lx.digsOk B = !(decide (1 < p - a) && ((s[a].toNat : Int) == 48)) := by
            unfold Lx.digsOk
            rw [e48, ← hd, decide_eq_true (by omega), decide_eq_true (by omega)]
            rfl
          have hrB : Lx.runN (B.drop (Lx.digN B)) = r := by rw [← hd, ← HB.out, List.drop_drop, show a + (p - a) = p by omega]; exact hr
          have hP := HP.out r hrB (by omega)
          have ett : bl (s.extract p (p + r)) = Lx.tail B := by
            rw [bl_extract, Nat.add_sub_cancel_left]
            unfold Lx.tail
            rw [hrB, ← hd, ← HB.out, List.drop_drop, show a + (p - a) = p by omega]
          have HI := hideIt (fun w => rint_any (s.extract p (p + r)) w)
          rw [ett] at HI
          unfold rintV at HI
          have hit := intT_le (Lx.tail B)
          have eno : Lx.numOk false B = (Lx.digsOk B && !(false && decide (vv = 0)) && Lx.fits (Lx.intT (Lx.tail B)) (if false then - vv else vv)) := by
            unfold Lx.numOk Lx.numV
            rw [← hd, hvv]
          have env : Lx.numV false B = if false then - vv else vv := by unfold Lx.numV; rw [← hd, hvv]
          rw [eno, env, edg, ← hd, show a + (p - a) + r = p + r by omega] at hP
          clear nR HP hex hgo hB0 e48 edg hrB ett eno env hvv hr hend
          generalize Lx.intT (Lx.tail B) = t at *
          have gcase : (decide ((1 : Int) < (p : Int) - (a : Int)) = true ∧ ((s[a].toNat : Int) == 48) = true ∧ (decide (1 < p - a) && ((s[a].toNat : Int) == 48)) = true) ∨ (((decide ((1 : Int) < (p : Int) - (a : Int)) = true ∧ ((s[a].toNat : Int) == 48) = false) ∨ decide ((1 : Int) < (p : Int) - (a : Int)) = false) ∧ (decide (1 < p - a) && ((s[a].toNat : Int) == 48)) = false) := by
            by_cases h1 : 1 < p - a
            · have h1' : decide ((1 : Int) < (p : Int) - (a : Int)) = true := by simp; omega
              cases hz : ((s[a].toNat : Int) == 48) with
              | true => left; exact ⟨h1', rfl, by simp [h1]⟩
              | false => right; exact ⟨Or.inl ⟨h1', rfl⟩, by simp⟩
            · right
              exact ⟨Or.inr (by simp; omega), by simp [h1]⟩
          rcases gcase with ⟨z1, z2, z3⟩ | ⟨zz, z3⟩
          · rw [z3, Bool.not_true, Bool.false_and, Bool.false_and, if_neg (by decide)] at hP
            have HN := hideIt hP
            clear hP z3
            rcases hex2 with h9 | ⟨hp, b, h9, HD, rfl | ⟨rfl, h10⟩⟩
            all_goals
              go_wp2_with (first | (go_at_call 36; refine (HD.out _).mono ?_; rintro e w' ⟨rfl, rfl⟩) | (go_at_call 39; refine (HRUN.out _).mono ?_; rintro e w' ⟨rfl, rfl⟩) | fail)
              go_ret3
              rw [HN.out]
              exact ⟨rfl, Q.refl _⟩
          · rw [z3, Bool.not_false, Bool.true_and] at hP
            clear z3
            by_cases ht : t < 6
            · rw [if_pos ht] at HI
              have bt : decide ((t : Int) < 0) = false := by simp
              have HF := hideIt (fun w => rfits_any t vv w ht)
              simp only [Bool.false_and, Bool.not_false, Bool.true_and, Bool.false_eq_true, if_false] at hP
              generalize Lx.fits t vv = f at *
              cases f with
              | true =>
                rw [if_pos rfl] at hP
                have HN := hideIt hP
                clear hP
                rcases zz with ⟨z1, z2⟩ | z1
                all_goals
                  rcases hex2 with h9 | ⟨hp, b, h9, HD, rfl | ⟨rfl, h10⟩⟩
                  all_goals
                    go_wp2_with (first | (go_at_call 36; refine (HD.out _).mono ?_; rintro e w' ⟨rfl, rfl⟩) | (go_at_call 39; refine (HRUN.out _).mono ?_; rintro e w' ⟨rfl, rfl⟩) | (go_at_call 74; refine (HI.out _).mono ?_; rintro e x ⟨rfl, q⟩; have HQ := hideIt q; clear q) | (go_at_call 75; refine (HF.out _).mono ?_; rintro e y ⟨rfl, q⟩; have HQ2 := hideIt (HQ.out.trans q); clear q) | fail)
                    go_ret3
                    rw [HN.out]
                    exact ⟨rfl, HQ2.out⟩
              | false =>
                rw [if_neg (by decide)] at hP
                have HN := hideIt hP
                clear hP
                rcases zz with ⟨z1, z2⟩ | z1
                all_goals
                  rcases hex2 with h9 | ⟨hp, b, h9, HD, rfl | ⟨rfl, h10⟩⟩
                  all_goals
                    go_wp2_with (first | (go_at_call 36; refine (HD.out _).mono ?_; rintro e w' ⟨rfl, rfl⟩) | (go_at_call 39; refine (HRUN.out _).mono ?_; rintro e w' ⟨rfl, rfl⟩) | (go_at_call 74; refine (HI.out _).mono ?_; rintro e x ⟨rfl, q⟩; have HQ := hideIt q; clear q) | (go_at_call 75; refine (HF.out _).mono ?_; rintro e y ⟨rfl, q⟩; have HQ2 := hideIt (HQ.out.trans q); clear q) | fail)
                    go_ret3
                    rw [HN.out]
                    exact ⟨rfl, HQ2.out⟩
            · rw [if_neg ht] at HI
              have e6 : t = 6 := by omega
              subst e6
              rw [fits_six, Bool.and_false, if_neg (by decide)] at hP
              have HN := hideIt hP
              clear hP
              rcases zz with ⟨z1, z2⟩ | z1
              all_goals
                rcases hex2 with h9 | ⟨hp, b, h9, HD, rfl | ⟨rfl, h10⟩⟩
                all_goals
                  go_wp2_with (first | (go_at_call 36; refine (HD.out _).mono ?_; rintro e w' ⟨rfl, rfl⟩) | (go_at_call 39; refine (HRUN.out _).mono ?_; rintro e w' ⟨rfl, rfl⟩) | (go_at_call 74; refine (HI.out _).mono ?_; rintro e x ⟨rfl, q⟩; have HQ := hideIt q; clear q) | (go_at_call 75; refine (HF.out _).mono ?_; rintro e y ⟨rfl, q⟩; have HQ2 := hideIt (HQ.out.trans q); clear q) | fail)
                  go_ret3
                  rw [HN.out]
                  exact ⟨rfl, HQ.out⟩

set_option maxRecDepth 100000 in
set_option maxHeartbeats 4000000 in
theorem rnumber_minus (s : ByteArray) (a : Nat) (w : World) (ha : a < s.size) (hs : s.size ≤ 65536) (hminus : Lx.minusB ((bl s).drop a) = true) :
    Calls Tryz.prog 37 #[.string s, .int .i64 a] w fun e w' => e = .returned (rnumV a (Lx.numberT ((bl s).drop a))) ∧ Q w w' := by
  have hai : (a : Int) < (s.size : Int) := by omega
  have h2 := Lx.minusB_two hminus
  rw [List.length_drop, bl_len] at h2
  have hm2 := (Lx.isPrefix_two _ _ _).1 hminus
  rw [bl_at s a ha, bl_at s (a + 1) (by omega)] at hm2
  simp only [List.take_succ_cons, List.take_zero, List.cons.injEq, and_true] at hm2
  have b0 : ((s[a].toNat : Int) == 35) = true := by rw [hm2.1]; rfl
  have b1 : decide ((s.size : Int) ≤ (a : Int) + 1) = false := by simp; omega
  have b2 : ((s[a + 1].toNat : Int) != 45) = false := by rw [hm2.2]; rfl
  have hai2 : (a : Int) + 1 < (s.size : Int) := by omega
  clear hm2
  obtain ⟨B, hB⟩ : ∃ B, (bl s).drop (a + 2) = B := ⟨_, rfl⟩
  have hBl : B.length = s.size - (a + 2) := by rw [← hB, List.length_drop, bl_len]
  have hbody : Lx.body ((bl s).drop a) = B := by
    unfold Lx.body
    rw [if_pos hminus, List.drop_drop]; exact hB
  have hll : ((bl s).drop a).length = s.size - a := by rw [List.length_drop, bl_len]
  have hd1 := Lx.digN_le B
  have HP := hideIt (fun r (hr : Lx.runN (B.drop (Lx.digN B)) = r) hdr => num_parts true ((bl s).drop a) B a (a + 2) (Lx.digN B) r hminus hbody (by omega) (by omega) (by omega) rfl hr hdr)
  have HB := hideIt hB
  have HDA := hideIt (digs_all B)
  obtain ⟨R, hR⟩ : ∃ R, rnumV a (Lx.numberT ((bl s).drop a)) = R := ⟨_, rfl⟩
  rw [hR] at HP ⊢
  clear hB hbody hminus hll hR
  go_enter Tryz.func37, Tryz.ntmps37
  go_wp2_with (fail)
  go_loop [7, 10] (fun i v => ∃ p : Nat, i = .int .i64 p ∧ (a + 2) ≤ p ∧ p ≤ s.size ∧ p - (a + 2) ≤ 11 ∧ p - (a + 2) ≤ Lx.digN B ∧ v = .int .i64 (Lx.val (B.take (p - (a + 2))))) (fun i _ => s.size - (intOf i).toNat)
  case atStart => exact ⟨(a + 2), by go_num, Nat.le_refl _, by omega, by omega, by omega, by rw [Nat.sub_self]; rfl⟩
  case round =>
    obtain ⟨p, rfl, p1, p2, p3, p4, rfl⟩ := hrel
    have htk : B.take (p - (a + 2)) = (B.take (Lx.digN B)).take (p - (a + 2)) := by rw [List.take_take, Nat.min_eq_left p4]
    have hvb := val_bd (B.take (p - (a + 2))) (fun c hc => HDA.out c (by rw [htk] at hc; exact List.mem_of_mem_take hc)) (by rw [List.length_take]; omega)
    clear htk
    by_cases hgo : p < s.size ∧ p - (a + 2) < 11 ∧ p - (a + 2) < Lx.digN B
    · obtain ⟨g1, g2, g3⟩ := hgo
      have hpi : (p : Int) < (s.size : Int) := by omega
      have hBp : B.drop (p - (a + 2)) = s[p] :: (bl s).drop (p + 1) := by rw [← HB.out, List.drop_drop, show (a + 2) + (p - (a + 2)) = p by omega]; exact bl_at s p g1
      have hdg : Lx.digit s[p] = true := by
        apply HDA.out
        have : (B.take (Lx.digN B))[p - (a + 2)]? = some s[p] := by
          rw [List.getElem?_take_of_lt g3, ← List.head?_drop, hBp]
          rfl
        exact List.mem_of_getElem? this
      have hc := digit_num hdg
      have HD := hideIt (fun w => rdigit_any s[p] w)
      rw [hdg] at HD
      have HV : Hid (Lx.val (B.take (p + 1 - (a + 2))) = Lx.val (B.take (p - (a + 2))) * 10 + ((s[p].toNat : Int) - 48)) := by
        show _ = _
        have hx : B[p - (a + 2)]? = some s[p] := by rw [← List.head?_drop, hBp]; rfl
        rw [show p + 1 - (a + 2) = p - (a + 2) + 1 by omega, List.take_add_one, hx]
        exact val_snoc _ _
      have b11 : decide ((p : Int) - ((a : Int) + 2) < 11) = true := by simp; omega
      have c1 : (48 : Int) ≤ (s[p].toNat : Int) := by omega
      have c2 : (s[p].toNat : Int) ≤ 57 := by omega
      obtain ⟨v, hv⟩ : ∃ v, Lx.val (B.take (p - (a + 2))) = v := ⟨_, rfl⟩
      rw [hv] at HV hvb ⊢
      clear hBp hdg hc hv
      go_wp2_with (first | (go_at_call 36; refine (HD.out _).mono ?_; rintro e w' ⟨rfl, rfl⟩) | fail)
      go_round
      case rel =>
        refine ⟨p + 1, by go_num, by omega, by omega, by omega, by omega, ?_⟩
        rw [HV.out]
        try rfl
      case measure => simp [intOf]; omega
    · -- out of the loop
      have hend : (p - (a + 2) ≤ 10 → p - (a + 2) = Lx.digN B) ∧ (p - (a + 2) = 11 → 11 ≤ Lx.digN B) := by
        refine ⟨fun h => ?_, fun h => by omega⟩
        by_cases h2 : p < s.size
        · omega
        · omega
      have hex : (¬ (p : Int) < (s.size : Int)) ∨ ((p : Int) < (s.size : Int) ∧ p - (a + 2) < 11 ∧ p < s.size) ∨ ((p : Int) < (s.size : Int) ∧ p - (a + 2) = 11 ∧ p < s.size) := by omega
      obtain ⟨vv, hvv⟩ : ∃ v, Lx.val (B.take (p - (a + 2))) = v := ⟨_, rfl⟩
      rw [hvv] at hvb ⊢
      have HRUN := hideIt (fun w => rrun_any s p w (by omega) p2)
      have hrl := Lx.runN_le ((bl s).drop p)
      rw [List.length_drop, bl_len] at hrl
      obtain ⟨r, hr⟩ : ∃ r, Lx.runN ((bl s).drop p) = r := ⟨_, rfl⟩
      rw [hr] at HRUN hrl
      have hex2 : (¬ (p : Int) < (s.size : Int)) ∨ (∃ (hp : p < s.size) (b : Bool), (p : Int) < (s.size : Int) ∧ Hid (∀ w, Calls Tryz.prog 36 #[.int .u8 (s[p].toNat : Int)] w fun e w' => e = .returned (.bool b) ∧ w' = w) ∧ (b = false ∨ (b = true ∧ decide ((p : Int) - ((a : Int) + 2) < 11) = false))) := by
        by_cases hp : p < s.size
        · right
          refine ⟨hp, Lx.digit s[p], by omega, fun w => rdigit_any s[p] w, ?_⟩
          by_cases h11 : p - (a + 2) = 11
          · cases hdd : Lx.digit s[p] with
            | false => exact Or.inl rfl
            | true => exact Or.inr ⟨rfl, by simp; omega⟩
          · left
            cases hdd : Lx.digit s[p] with
            | false => rfl
            | true =>
              exfalso
              have hBp : B.drop (p - (a + 2)) = s[p] :: (bl s).drop (p + 1) := by rw [← HB.out, List.drop_drop, show (a + 2) + (p - (a + 2)) = p by omega]; exact bl_at s p hp
              have hx := hend.1 (by omega)
              have h1 : B.drop (Lx.digN B) = s[p] :: (bl s).drop (p + 1) := by rw [← hx]; exact hBp
              exact digN_next B s[p] _ h1 hdd
        · left; omega
      have nR : (Lx.numOk true B = false) → Hid (R = .tuple #[.int .i64 0, .int .i64 0, .int .i64 (-1)]) := by
        intro h0
        obtain ⟨r0, hr0⟩ : ∃ r0, Lx.runN (B.drop (Lx.digN B)) = r0 := ⟨_, rfl⟩
        have h5 := Lx.runN_le (B.drop (Lx.digN B))
        rw [List.length_drop] at h5
        have := HP.out r0 hr0 (by omega)
        rw [h0, if_neg (by decide)] at this
        exact this
      by_cases hj1 : p - (a + 2) < 1
      · have HN := nR (by have := hend.1 (by omega); simp [Lx.numOk, Lx.digsOk]; omega)
        have t1 : decide ((p : Int) - ((a : Int) + 2) < 1) = true := by simp; omega
        clear nR HP hex hgo
        rcases hex2 with h9 | ⟨hp, b, h9, HD, rfl | ⟨rfl, h10⟩⟩
        all_goals
          go_wp2_with (first | (go_at_call 36; refine (HD.out _).mono ?_; rintro e w' ⟨rfl, rfl⟩) | (go_at_call 39; refine (HRUN.out _).mono ?_; rintro e w' ⟨rfl, rfl⟩) | fail)
          go_ret3
          rw [HN.out]
          exact ⟨rfl, Q.refl _⟩
      · have t1 : decide ((p : Int) - ((a : Int) + 2) < 1) = false := by simp; omega
        by_cases hj2 : 10 < p - (a + 2)
        · have HN := nR (by have := hend.2 (by omega); simp [Lx.numOk, Lx.digsOk]; omega)
          have t2 : decide ((10 : Int) < (p : Int) - ((a : Int) + 2)) = true := by simp; omega
          clear nR HP hex hgo
          rcases hex2 with h9 | ⟨hp, b, h9, HD, rfl | ⟨rfl, h10⟩⟩
          all_goals
            go_wp2_with (first | (go_at_call 36; refine (HD.out _).mono ?_; rintro e w' ⟨rfl, rfl⟩) | (go_at_call 39; refine (HRUN.out _).mono ?_; rintro e w' ⟨rfl, rfl⟩) | fail)
            go_ret3
            rw [HN.out]
            exact ⟨rfl, Q.refl _⟩
        · have t2 : decide ((10 : Int) < (p : Int) - ((a : Int) + 2)) = false := by simp; omega
          have hd := hend.1 (by omega)
          have hFs : (a + 2) < s.size := by omega
          have hFi : ((a : Int) + 2) < (s.size : Int) := by omega
          have hB0 : B.head? = some s[(a + 2)] := by rw [← HB.out, bl_at s (a + 2) hFs]; rfl
          have e48 : decide (B.head? = some 48) = ((s[(a + 2)].toNat : Int) == 48) := by
            rw [hB0, Bool.eq_iff_iff]
            simp only [Option.some.injEq, decide_eq_true_eq, beq_iff_eq]
            constructor
            · intro e; rw [e]; rfl
            · intro e; exact UInt8.toNat_inj.1 (by show s[(a + 2)].toNat = 48; omega)
          have edg : Lx.digsOk B = !(decide (1 < p - (a + 2)) && ((s[(a + 2)].toNat : Int) == 48)) := by
            unfold Lx.digsOk
            rw [e48, ← hd, decide_eq_true (by omega), decide_eq_true (by omega)]
            rfl
          have hrB : Lx.runN (B.drop (Lx.digN B)) = r := by rw [← hd, ← HB.out, List.drop_drop, show (a + 2) + (p - (a + 2)) = p by omega]; exact hr
          have hP := HP.out r hrB (by omega)
          have ett : bl (s.extract p (p + r)) = Lx.tail B := by
            rw [bl_extract, Nat.add_sub_cancel_left]
            unfold Lx.tail
            rw [hrB, ← hd, ← HB.out, List.drop_drop, show (a + 2) + (p - (a + 2)) = p by omega]
          have HI := hideIt (fun w => rint_any (s.extract p (p + r)) w)
          rw [ett] at HI
          unfold rintV at HI
          have hit := intT_le (Lx.tail B)
          have eno : Lx.numOk true B = (Lx.digsOk B && !(true && decide (vv = 0)) && Lx.fits (Lx.intT (Lx.tail B)) (if true then - vv else vv)) := by
            unfold Lx.numOk Lx.numV
            rw [← hd, hvv]
          have env : Lx.numV true B = if true then - vv else vv := by unfold Lx.numV; rw [← hd, hvv]
          rw [eno, env, edg, ← hd, show (a + 2) + (p - (a + 2)) + r = p + r by omega] at hP
          clear nR HP hex hgo hB0 e48 edg hrB ett eno env hvv hr hend
          generalize Lx.intT (Lx.tail B) = t at *
          have gcase : (decide ((1 : Int) < (p : Int) - ((a : Int) + 2)) = true ∧ ((s[(a + 2)].toNat : Int) == 48) = true ∧ (decide (1 < p - (a + 2)) && ((s[(a + 2)].toNat : Int) == 48)) = true) ∨ (((decide ((1 : Int) < (p : Int) - ((a : Int) + 2)) = true ∧ ((s[(a + 2)].toNat : Int) == 48) = false) ∨ decide ((1 : Int) < (p : Int) - ((a : Int) + 2)) = false) ∧ (decide (1 < p - (a + 2)) && ((s[(a + 2)].toNat : Int) == 48)) = false) := by
            by_cases h1 : 1 < p - (a + 2)
            · have h1' : decide ((1 : Int) < (p : Int) - ((a : Int) + 2)) = true := by simp; omega
              cases hz : ((s[(a + 2)].toNat : Int) == 48) with
              | true => left; exact ⟨h1', rfl, by simp [h1]⟩
              | false => right; exact ⟨Or.inl ⟨h1', rfl⟩, by simp⟩
            · right
              exact ⟨Or.inr (by simp; omega), by simp [h1]⟩
          rcases gcase with ⟨z1, z2, z3⟩ | ⟨zz, z3⟩
          · rw [z3, Bool.not_true, Bool.false_and, Bool.false_and, if_neg (by decide)] at hP
            have HN := hideIt hP
            clear hP z3
            rcases hex2 with h9 | ⟨hp, b, h9, HD, rfl | ⟨rfl, h10⟩⟩
            all_goals
              go_wp2_with (first | (go_at_call 36; refine (HD.out _).mono ?_; rintro e w' ⟨rfl, rfl⟩) | (go_at_call 39; refine (HRUN.out _).mono ?_; rintro e w' ⟨rfl, rfl⟩) | fail)
              go_ret3
              rw [HN.out]
              exact ⟨rfl, Q.refl _⟩
          · rw [z3, Bool.not_false, Bool.true_and] at hP
            clear z3
            by_cases hv0 : vv = 0
            · have y1 : (vv == 0) = true := by simp [hv0]
              have y2 : ((0 : Int) - vv == 0) = true := by simp [hv0]
              have y3 : (-vv == 0) = true := by simp [hv0]
              rw [decide_eq_true hv0, Bool.true_and, Bool.not_true, Bool.false_and, if_neg (by decide)] at hP
              clear hv0
              generalize (if t < 6 then (t : Int) else -1) = tv at HI
              have HN := hideIt hP
              clear hP
              rcases zz with ⟨z1, z2⟩ | z1
              all_goals
                rcases hex2 with h9 | ⟨hp, b, h9, HD, rfl | ⟨rfl, h10⟩⟩
                all_goals
                  go_wp2_with (first | (go_at_call 36; refine (HD.out _).mono ?_; rintro e w' ⟨rfl, rfl⟩) | (go_at_call 39; refine (HRUN.out _).mono ?_; rintro e w' ⟨rfl, rfl⟩) | (go_at_call 74; refine (HI.out _).mono ?_; rintro e x ⟨rfl, q⟩; have HQ := hideIt q; clear q) | (go_at_call 75; refine (HF.out _).mono ?_; rintro e y ⟨rfl, q⟩; have HQ2 := hideIt (HQ.out.trans q); clear q) | fail)
                  go_ret3
                  rw [HN.out]
                  exact ⟨rfl, HQ.out⟩
            · have y1 : (vv == 0) = false := by simp [hv0]
              have y2 : ((0 : Int) - vv == 0) = false := by rw [beq_eq_false_iff_ne]; omega
              have y3 : (-vv == 0) = false := by rw [beq_eq_false_iff_ne]; omega
              rw [decide_eq_false hv0, Bool.true_and, Bool.not_false, Bool.true_and] at hP
              clear hv0
              by_cases ht : t < 6
              · rw [if_pos ht] at HI
                have bt : decide ((t : Int) < 0) = false := by simp
                have HF := hideIt (fun w => rfits_any t (-vv) w ht)
                simp only [if_true] at hP
                generalize Lx.fits t (-vv) = f at *
                cases f with
                | true =>
                  rw [if_pos rfl] at hP
                  have HN := hideIt hP
                  clear hP
                  rcases zz with ⟨z1, z2⟩ | z1
                  all_goals
                    rcases hex2 with h9 | ⟨hp, b, h9, HD, rfl | ⟨rfl, h10⟩⟩
                    all_goals
                      go_wp2_with (first | (go_at_call 36; refine (HD.out _).mono ?_; rintro e w' ⟨rfl, rfl⟩) | (go_at_call 39; refine (HRUN.out _).mono ?_; rintro e w' ⟨rfl, rfl⟩) | (go_at_call 74; refine (HI.out _).mono ?_; rintro e x ⟨rfl, q⟩; have HQ := hideIt q; clear q) | (go_at_call 75; refine (HF.out _).mono ?_; rintro e y ⟨rfl, q⟩; have HQ2 := hideIt (HQ.out.trans q); clear q) | fail)
                      go_ret3
                      rw [HN.out]
                      exact ⟨rfl, HQ2.out⟩
                | false =>
                  rw [if_neg (by decide)] at hP
                  have HN := hideIt hP
                  clear hP
                  rcases zz with ⟨z1, z2⟩ | z1
                  all_goals
                    rcases hex2 with h9 | ⟨hp, b, h9, HD, rfl | ⟨rfl, h10⟩⟩
                    all_goals
                      go_wp2_with (first | (go_at_call 36; refine (HD.out _).mono ?_; rintro e w' ⟨rfl, rfl⟩) | (go_at_call 39; refine (HRUN.out _).mono ?_; rintro e w' ⟨rfl, rfl⟩) | (go_at_call 74; refine (HI.out _).mono ?_; rintro e x ⟨rfl, q⟩; have HQ := hideIt q; clear q) | (go_at_call 75; refine (HF.out _).mono ?_; rintro e y ⟨rfl, q⟩; have HQ2 := hideIt (HQ.out.trans q); clear q) | fail)
                      go_ret3
                      rw [HN.out]
                      exact ⟨rfl, HQ2.out⟩
              · rw [if_neg ht] at HI
                have e6 : t = 6 := by omega
                subst e6
                rw [fits_six, if_neg (by decide)] at hP
                have HN := hideIt hP
                clear hP
                rcases zz with ⟨z1, z2⟩ | z1
                all_goals
                  rcases hex2 with h9 | ⟨hp, b, h9, HD, rfl | ⟨rfl, h10⟩⟩
                  all_goals
                    go_wp2_with (first | (go_at_call 36; refine (HD.out _).mono ?_; rintro e w' ⟨rfl, rfl⟩) | (go_at_call 39; refine (HRUN.out _).mono ?_; rintro e w' ⟨rfl, rfl⟩) | (go_at_call 74; refine (HI.out _).mono ?_; rintro e x ⟨rfl, q⟩; have HQ := hideIt q; clear q) | (go_at_call 75; refine (HF.out _).mono ?_; rintro e y ⟨rfl, q⟩; have HQ2 := hideIt (HQ.out.trans q); clear q) | fail)
                    go_ret3
                    rw [HN.out]
                    exact ⟨rfl, HQ.out⟩
end Go.Proofs.YtoilhcklflmamaaGreatDoor
