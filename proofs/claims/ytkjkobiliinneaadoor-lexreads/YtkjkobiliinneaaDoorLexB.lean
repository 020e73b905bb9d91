/-
  What Lex returns: a contract over the program; the conditions: a length that fits, and the two lists of layer 4 lie as its text lays them.
-/
import Derived.Test.YtkjkobiliinneaaDoorLexA
import Derived.Shelf.Abstract
import Derived.WalkMore
import Derived.Deep.LoopGhost
namespace Go.Proofs.YtkjkobiliinneaaDoor
open Go.RowKit
set_option linter.unusedVariables false

def endTk : Lx.Tk := ⟨0, [], 0, 0⟩
/-- What Lex leaves. -/
def LexPost (s : ByteArray) (w : World) (e : Ending) (w' : World) : Prop :=
  Q w w' ∧ ((Lx.lex 0 (bl s)).2 = none → ∃ v, e = .returned (.tuple #[v, .int .i64 0, .int .i64 0]) ∧ w'.ownsRow w.heap.size 35 5 v ((Lx.lex 0 (bl s)).1.length + 1) (tksC ((Lx.lex 0 (bl s)).1 ++ [(endTk, s.size)]))) ∧
  (∀ p, (Lx.lex 0 (bl s)).2 = some p → e = .returned (.tuple #[.slice none 0 0, .int .i64 (p : Int), .int .i64 5]))

def nones (j : Int) (l : List UInt8) : Prop := (0 < j → Lx.lettersT l = none) ∧ (1 < j → Lx.numberT l = none) ∧ (2 < j → Lx.signT l = none)
theorem lex_long (s : ByteArray) (w : World) (hs : 65536 < s.size) :
    Calls Tryd.prog 9 #[.string s] w fun e w' => e = .returned (.tuple #[.slice none 0 0, .int .i64 0, .int .i64 2]) ∧ w' = w := by
  have hd : decide ((65536 : Int) < (s.size : Int)) = true := by simp; omega
  go_enter Tryd.func9, Tryd.ntmps9
  go_wp2_with (fail)
  go_step3
  go_wp2_with (fail)
  rw [Exit.noGoto_ret]
  go_ret3
  exact ⟨rfl, rfl⟩

set_option maxRecDepth 100000 in
set_option maxHeartbeats 1000000 in
theorem lex_any (s : ByteArray) (w : World) (hs : s.size ≤ 65536) (hL : Laid w) :
    Calls Tryd.prog 9 #[.string s] w fun e w' => LexPost s w e w' := by
  have hd : decide ((65536 : Int) < (s.size : Int)) = false := by simp; omega
  obtain ⟨i0, hi, hz0, hz1, hz2⟩ := info_parts Tryd.infoTok
  obtain ⟨R, hR⟩ : ∃ R, Lx.lex 0 (bl s) = R := ⟨_, rfl⟩
  have HR := hideIt hR
  have HL := hideIt hL
  clear hR hL
  go_enter Tryd.func9, Tryd.ntmps9
  go_wp2_with (fail)
  go_step3
  go_wp2_with (fail)
  go_step3
  go_wp2_with (fail)
  go_loopw [5, 6] (fun v i wr => ∃ (k : Nat) (G : List (Lx.Tk × Nat)), i = .int .i64 k ∧ k ≤ s.size ∧ G.length ≤ k ∧ wr.ownsRow w.heap.size 35 5 v G.length (tksC G) ∧ Hid (R = (G ++ (Lx.lex k ((bl s).drop k)).1, (Lx.lex k ((bl s).drop k)).2)) ∧ Q w wr) (fun _ i _ => s.size - (intOf i).toNat)
  case atStart =>
    refine ⟨0, [], rfl, Nat.zero_le _, Nat.le_refl _, ⟨rfl, Or.inl ⟨rfl, rfl⟩⟩, ?_, Q.refl _⟩
    show R = _
    rw [← HR.out]
    simp
  case round =>
    obtain ⟨k, G, rfl, hk, hG, ho, HX, hq⟩ := hrel
    have HO := hideIt ho
    have HQ := hideIt hq
    clear ho hq
    by_cases hlt : k < s.size
    · have hki : (k : Int) < (s.size : Int) := by omega
      have hkd : decide ((k : Int) < (s.size : Int)) = true := by simp; omega
      obtain ⟨b, hb⟩ : ∃ b, s.extract k s.size = b := ⟨_, rfl⟩
      have hbl : bl b = (bl s).drop k := by rw [← hb]; exact bl_from s k
      have hbs : b.size = s.size - k := by rw [← bl_len b, hbl, List.length_drop, bl_len]
      have HB := hideIt (fun w => blank_any b w (by omega) (by omega))
      have hbk := Lx.blankN_le (bl b)
      rw [bl_len] at hbk
      by_cases hn : Lx.blankN (bl b) = 0
      · have hne : bl b ≠ [] := by
          intro e
          have := congrArg List.length e
          rw [bl_len, hbs] at this
          exact absurd (show s.size - k = 0 from this) (by omega)
        have H3 := hideIt (three_kind hne)
        have H3n := hne
        clear hne
        have HN := hideIt hn
        rw [hn] at HB
        have HBL := hideIt hbl
        clear hn hbl
        go_wp2_with (first | (go_at_call 18; refine (HB.out _).mono ?_; rintro e w' ⟨rfl, rfl⟩) | fail)
        go_loopw [5, 6, 30] (fun v5 i j wr2 => ∃ jj : Int, v5 = u5 ∧ i = .int .i64 k ∧ j = .int .i64 jj ∧ 0 ≤ jj ∧ jj ≤ 3 ∧ Hid (nones jj (bl b)) ∧ Q w' wr2) (fun _ _ j _ => 3 - (intOf j).toNat)
        case atStart => exact ⟨0, rfl, rfl, rfl, by omega, by omega, ⟨fun h => by omega, fun h => by omega, fun h => by omega⟩, Q.refl _⟩
        case round =>
          obtain ⟨jj, rfl, rfl, rfl, hj0, hj, HJ, hq2⟩ := hrel
          clear hkd HB hbk
          have f0 : ∀ w, (Instr.index 40 (.agg #[.func (.func 19) #[] #[], .func (.func 20) #[] #[], .func (.func 21) #[] #[]]) (.int .i64 0)).run Tryd.prog w = .ok (.func (.func 19) #[] #[]) w := fun _ => by kernel_rfl
          have f1 : ∀ w, (Instr.index 40 (.agg #[.func (.func 19) #[] #[], .func (.func 20) #[] #[], .func (.func 21) #[] #[]]) (.int .i64 1)).run Tryd.prog w = .ok (.func (.func 20) #[] #[]) w := fun _ => by kernel_rfl
          have f2 : ∀ w, (Instr.index 40 (.agg #[.func (.func 19) #[] #[], .func (.func 20) #[] #[], .func (.func 21) #[] #[]]) (.int .i64 2)).run Tryd.prog w = .ok (.func (.func 21) #[] #[]) w := fun _ => by kernel_rfl
          have HLw := HL.out.keep (HQ.out.trans hq2)
          have HO2 := hideIt (ownsRow_q HO.out hq2)
          have HQ2 := hideIt (HQ.out.trans hq2)
          have HQ3 := hideIt hq2
          clear hq2
          rcases (show jj = 0 ∨ jj = 1 ∨ jj = 2 ∨ jj = 3 by omega) with rfl | rfl | rfl | rfl
          · have HC := hideIt (letters_any b wr (by omega) HLw)
            cases ht : Lx.lettersT (bl b) with
            | none =>
              rw [ht] at HC
              simp only [optV] at HC
              have HN1 : Hid (nones 1 (bl b)) := ⟨fun _ => ht, fun h => by omega, fun h => by omega⟩
              clear ht HLw
              go_wp2_with (first | (go_at_call 19; refine HC.out.mono ?_; rintro e x ⟨rfl, q⟩; have HP := hideIt q; clear q) | fail)
              go_roundw
              case rel => exact ⟨1, rfl, rfl, by go_num, by omega, by omega, HN1, (HQ3.out.trans HP.out).alloc _⟩
              case measure => simp [intOf]
            | some t =>
              rw [ht] at HC
              simp only [optV] at HC
              have HT := hideIt (H3.out.1 t ht)
              obtain ⟨l1, -, l2, l3, l4, l5, l6, l7⟩ := Lx.tok_len HT.out
              rw [bl_len] at l2
              have hkn : ((t.kind : Int) != 0) = true := by rw [bne_iff_ne]; omega
              have HNX : Hid (R = (G ++ [(t, k)] ++ (Lx.lex (k + t.text.length) ((bl s).drop (k + t.text.length))).1, (Lx.lex (k + t.text.length) ((bl s).drop (k + t.text.length))).2)) := by
                have h5 := HX.out
                rw [← HBL.out, Lx.lex_tok k _ t HN.out HT.out] at h5
                show R = _
                rw [h5, HBL.out, List.drop_drop]
                simp
              have HTX := hideIt (show (⟨t.text.toArray⟩ : ByteArray).size = t.text.length from by simp [ByteArray.size])
              have htx := HTX.out
              clear ht HLw
              go_wp2_with (first | (go_at_call 19; refine HC.out.mono ?_; rintro e x ⟨rfl, q⟩; have HP := hideIt q; clear q) | (at_builtin; refine app_two (t, k) (HQ2.out.trans HP.out) (ownsRow_q HO2.out HP.out) (by omega) rfl (.tmp 41) (.tmp 43) rfl rfl rfl (t.kind : Int) ⟨t.text.toArray⟩ t.n (t.ty : Int) (k : Int) rfl ?_; intro nv y r1 r2 r3; have R1 := hideIt r1; have R2 := hideIt r2; clear r1 r2) | fail)
              go_roundw
              case rel =>
                refine ⟨k + t.text.length, G ++ [(t, k)], by go_num, by omega, by simp; omega, ?_, HNX, R2.out⟩
                have h7 := R1.out
                simpa using h7
              case measure => simp [intOf]; omega
          · have HC := hideIt (number_any b wr (by omega) HLw)
            cases ht : Lx.numberT (bl b) with
            | none =>
              rw [ht] at HC
              simp only [optV] at HC
              have HN1 : Hid (nones 2 (bl b)) := ⟨fun _ => HJ.out.1 (by omega), fun _ => ht, fun h => by omega⟩
              clear ht HLw
              go_wp2_with (first | (go_at_call 20; refine HC.out.mono ?_; rintro e x ⟨rfl, q⟩; have HP := hideIt q; clear q) | fail)
              go_roundw
              case rel => exact ⟨2, rfl, rfl, by go_num, by omega, by omega, HN1, (HQ3.out.trans HP.out).alloc _⟩
              case measure => simp [intOf]
            | some t =>
              rw [ht] at HC
              simp only [optV] at HC
              have HT := hideIt (H3.out.2.1 t (HJ.out.1 (by omega)) ht)
              obtain ⟨l1, -, l2, l3, l4, l5, l6, l7⟩ := Lx.tok_len HT.out
              rw [bl_len] at l2
              have hkn : ((t.kind : Int) != 0) = true := by rw [bne_iff_ne]; omega
              have HNX : Hid (R = (G ++ [(t, k)] ++ (Lx.lex (k + t.text.length) ((bl s).drop (k + t.text.length))).1, (Lx.lex (k + t.text.length) ((bl s).drop (k + t.text.length))).2)) := by
                have h5 := HX.out
                rw [← HBL.out, Lx.lex_tok k _ t HN.out HT.out] at h5
                show R = _
                rw [h5, HBL.out, List.drop_drop]
                simp
              have HTX := hideIt (show (⟨t.text.toArray⟩ : ByteArray).size = t.text.length from by simp [ByteArray.size])
              have htx := HTX.out
              clear ht HLw
              go_wp2_with (first | (go_at_call 20; refine HC.out.mono ?_; rintro e x ⟨rfl, q⟩; have HP := hideIt q; clear q) | (at_builtin; refine app_two (t, k) (HQ2.out.trans HP.out) (ownsRow_q HO2.out HP.out) (by omega) rfl (.tmp 41) (.tmp 43) rfl rfl rfl (t.kind : Int) ⟨t.text.toArray⟩ t.n (t.ty : Int) (k : Int) rfl ?_; intro nv y r1 r2 r3; have R1 := hideIt r1; have R2 := hideIt r2; clear r1 r2) | fail)
              go_roundw
              case rel =>
                refine ⟨k + t.text.length, G ++ [(t, k)], by go_num, by omega, by simp; omega, ?_, HNX, R2.out⟩
                have h7 := R1.out
                simpa using h7
              case measure => simp [intOf]; omega
          · have HC := hideIt (sign_any b wr HLw)
            cases ht : Lx.signT (bl b) with
            | none =>
              rw [ht] at HC
              simp only [optV] at HC
              have HN1 : Hid (nones 3 (bl b)) := ⟨fun _ => HJ.out.1 (by omega), fun _ => HJ.out.2.1 (by omega), fun _ => ht⟩
              clear ht HLw
              go_wp2_with (first | (go_at_call 21; refine HC.out.mono ?_; rintro e x ⟨rfl, q⟩; have HP := hideIt q; clear q) | fail)
              go_roundw
              case rel => exact ⟨3, rfl, rfl, by go_num, by omega, by omega, HN1, (HQ3.out.trans HP.out).alloc _⟩
              case measure => simp [intOf]
            | some t =>
              rw [ht] at HC
              simp only [optV] at HC
              have HT := hideIt (H3.out.2.2.1 t (HJ.out.1 (by omega)) (HJ.out.2.1 (by omega)) ht)
              obtain ⟨l1, -, l2, l3, l4, l5, l6, l7⟩ := Lx.tok_len HT.out
              rw [bl_len] at l2
              have hkn : ((t.kind : Int) != 0) = true := by rw [bne_iff_ne]; omega
              have HNX : Hid (R = (G ++ [(t, k)] ++ (Lx.lex (k + t.text.length) ((bl s).drop (k + t.text.length))).1, (Lx.lex (k + t.text.length) ((bl s).drop (k + t.text.length))).2)) := by
                have h5 := HX.out
                rw [← HBL.out, Lx.lex_tok k _ t HN.out HT.out] at h5
                show R = _
                rw [h5, HBL.out, List.drop_drop]
                simp
              have HTX := hideIt (show (⟨t.text.toArray⟩ : ByteArray).size = t.text.length from by simp [ByteArray.size])
              have htx := HTX.out
              clear ht HLw
              go_wp2_with (first | (go_at_call 21; refine HC.out.mono ?_; rintro e x ⟨rfl, q⟩; have HP := hideIt q; clear q) | (at_builtin; refine app_two (t, k) (HQ2.out.trans HP.out) (ownsRow_q HO2.out HP.out) (by omega) rfl (.tmp 41) (.tmp 43) rfl rfl rfl (t.kind : Int) ⟨t.text.toArray⟩ t.n (t.ty : Int) (k : Int) rfl ?_; intro nv y r1 r2 r3; have R1 := hideIt r1; have R2 := hideIt r2; clear r1 r2) | fail)
              go_roundw
              case rel =>
                refine ⟨k + t.text.length, G ++ [(t, k)], by go_num, by omega, by simp; omega, ?_, HNX, R2.out⟩
                have h7 := R1.out
                simpa using h7
              case measure => simp [intOf]; omega
          · have HTN : Hid (R = (G, some k)) := by
              have h5 := HX.out
              rw [← HBL.out, Lx.lex_none k _ HN.out H3n (H3.out.2.2.2 (HJ.out.1 (by omega)) (HJ.out.2.1 (by omega)) (HJ.out.2.2 (by omega)))] at h5
              show R = _
              rw [h5]
              simp
            clear HLw
            go_wp2_with (fail)
            try rw [Exit.noGoto_ret]
            go_ret3
            refine ⟨HQ2.out, fun h => ?_, fun p hp => ?_⟩
            · rw [HR.out, HTN.out] at h; cases h
            · rw [HR.out, HTN.out] at hp
              obtain rfl := Option.some.inj hp
              rfl
      · have HN : Hid (R = (G ++ (Lx.lex (k + Lx.blankN (bl b)) ((bl s).drop (k + Lx.blankN (bl b)))).1, (Lx.lex (k + Lx.blankN (bl b)) ((bl s).drop (k + Lx.blankN (bl b)))).2)) := by
          have := HX.out
          rw [← hbl, Lx.lex_blank k _ hn] at this
          rw [this, hbl, List.drop_drop]
          rfl
        generalize Lx.blankN (bl b) = n at *
        have hn0 : decide ((0 : Int) < (n : Int)) = true := by simp; omega
        clear HX hbl
        go_wp2_with (first | (go_at_call 18; refine (HB.out _).mono ?_; rintro e w' ⟨rfl, rfl⟩) | fail)
        go_roundw
        case rel => exact ⟨k + n, G, by go_num, by omega, by omega, HO.out, HN, HQ.out⟩
        case measure => simp [intOf]; omega
    · have ek : k = s.size := by omega
      subst ek
      have HTN : Hid (R = (G, none)) := by
        have h5 := HX.out
        rw [drop_all, Lx.lex_nil] at h5
        show R = _
        rw [h5]
        simp
      clear HX
      go_wp2_with (first | (at_builtin; refine app_one (endTk, s.size) wr.heap.size HQ.out HO.out rfl (by omega) rfl (.tmp 52) (.tmp 56) rfl rfl rfl 0 ⟨#[]⟩ 0 0 (s.size : Int) rfl ?_; intro nv y r1 r2 r3; have R1 := hideIt r1; have R2 := hideIt r2; clear r1 r2 r3) | fail)
      try rw [Exit.noGoto_ret]
      go_ret3
      refine ⟨R2.out, fun h => ?_, fun p hp => ?_⟩
      · rw [HR.out, HTN.out]
        exact ⟨_, rfl, R1.out⟩
      · rw [HR.out, HTN.out] at hp; cases hp
end Go.Proofs.YtkjkobiliinneaaDoor
