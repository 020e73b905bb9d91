/-
  For every count of cells, list of numbers and count anew: a block that is got again has noughts alone, and one that is kept has what it had (the law MemClean returns true); no conditions.
-/
import Derived.Test.YtahhbehpgolinaaRows
import Derived.Test.YtahhbehpgolinaaMeN
import Derived.ShutString
import Derived.ChangeOld
import Derived.Below
namespace Go.Proofs.Ytahhbehpgolinaa.memClean
open Go.ChangeShapes Go.WideShapes Go.ChangeAt Go.RowKit Me
set_option linter.unusedVariables false

theorem laidOut : laidOutB Try.prog = true := by kernel_rfl
theorem own : ownKnob Try.prog.godebug = none := by kernel_rfl

theorem i64n (n : Nat) (h : n ≤ 1000000) : I64 (n : Int) := ⟨by omega, by omega⟩
theorem in2 {c d : Nat} (a : Nat) (i : Nat) (ha : a < 2) : inB [c, d] (a : Int) (i : Int) = decide (i < [c, d].getD a 0) := by
  have h1 : (a : Int) < (([c, d] : List Nat).length : Int) := by simp; omega
  have h2 : (0 : Int) ≤ (a : Int) := by omega
  have h3 : (0 : Int) ≤ (i : Int) := by omega
  have h4 : ((a : Int).toNat) = a := by omega
  simp only [inB, h1, h2, h3, h4, decide_true, Bool.true_and]
  congr 1
  exact propext (by omega)

theorem one_allocN {w0 w : World} {p n : Nat} {bs : List Nat} {f : Int → Int → Int} {t : Int} (h : One w0 w p n bs f t) (ht : 0 ≤ t) (ht2 : t ≤ 65536) (c : Nat) (hc2 : (c : Int) ≤ 65536 - t) (hl : bs.length ≤ 1000000) :
    Calls Try.prog 10 #[.pointer (some ⟨p, 0, none⟩), .int .i64 (c : Int)] w fun e w' => e = .returned (.tuple #[.int .i64 bs.length, .int .i64 0]) ∧ One w0 w' p n (bs ++ [c]) f (t + c) := by
  have := one_alloc h ht ht2 (c : Int) (by omega) hc2 hl
  simpa using this

/-- What is there behind i rounds. -/
def Sp (xs : List Int) (i : Nat) (f : Int → Int → Int) : Prop := ∀ b : Nat, f 0 (b : Int) = if b < i then xs.getD b 0 else 0
theorem sp_next {xs : List Int} {i : Nat} {f : Int → Int → Int} {v : Int} (h : Sp xs i f) (hv : xs.getD i 0 = v) : Sp xs (i + 1) (upd (upd f 0 (i : Int) v) 1 (i : Int) v) := by
  intro b
  simp only [upd]
  rw [if_neg (by omega)]
  by_cases e : b = i
  · subst e
    rw [if_pos (by simp), if_pos (by omega), hv]
  · rw [if_neg (by omega), h b]
    by_cases e2 : b < i
    · rw [if_pos e2, if_pos (by omega)]
    · rw [if_neg e2, if_neg (by omega)]

theorem l1 {w W : World} {p N c k : Nat} {f : Int → Int → Int} {t : Int} (h : One w W p N [c, k] (keepf f 1) t) (m : Nat) (hm : m < 60) {e1 : Int} (he : (if m < k then 0 else 12) = e1) :
    Calls Try.prog 14 #[.pointer (some ⟨p, 0, none⟩), .agg #[.int .i64 1, .int .i64 (m : Int)]] W fun e w' => e = .returned (.tuple #[.int .i64 0, .int .i64 e1]) ∧ One w w' p N [c, k] (keepf f 1) t := by
  have e2 : inB [c, k] 1 (m : Int) = decide (m < k) := in2 1 m (by omega)
  have := one_load h (a := 1) (b := (m : Int)) (i64 (by omega) (by omega)) (i64n m (by omega)) (by simp)
  rw [e2, show keepf f 1 1 (m : Int) = 0 by simp [keepf]] at this
  rw [← he]
  simpa using this
theorem l0 {w W : World} {p N c k len1 : Nat} {xs : List Int} {f : Int → Int → Int} {t : Int} (h : One w W p N [c, k] (keepf f 1) t) (hV : ∀ b : Nat, keepf f 1 0 (b : Int) = if b < c ∧ b < len1 then xs.getD b 0 else 0) (m : Nat) (hm : m < 60) {z e1 : Int}
    (hz : (if m < c ∧ m < len1 then xs.getD m 0 else 0) = z) (he : (if m < c then 0 else 12) = e1) :
    Calls Try.prog 14 #[.pointer (some ⟨p, 0, none⟩), .agg #[.int .i64 0, .int .i64 (m : Int)]] W fun e w' => e = .returned (.tuple #[.int .i64 z, .int .i64 e1]) ∧ One w w' p N [c, k] (keepf f 1) t := by
  have e2 : inB [c, k] 0 (m : Int) = decide (m < c) := in2 0 m (by omega)
  have := one_load h (a := 0) (b := (m : Int)) (i64 (by omega) (by omega)) (i64n m (by omega)) (by simp)
  rw [e2, hV m, hz] at this
  rw [← he]
  simpa using this

set_option maxRecDepth 100000 in
set_option maxHeartbeats 4000000 in
theorem walk (u0 u2 : Int) (h0 : 0 ≤ u0) (h0' : u0 ≤ 255) (h2 : 0 ≤ u2) (h2' : u2 ≤ 255) (a1 : Option Addr) (len1 cap1 : Nat) (xs : List Int) (w : World) (hx : xs.length = len1) (hm : len1 ≤ maxLen) (hR : Reads .i64 w a1 xs) (hw : ∀ n ∈ xs, I64 n) :
    Calls Try.prog 4 #[.int .u8 u0, .slice a1 len1 cap1, .int .u8 u2] w fun e w' => e = .returned (.bool true) ∧ Below w.heap.size w w' := by
  obtain ⟨c, hc⟩ : ∃ c : Nat, 1 + u0 % 50 = (c : Int) := ⟨(1 + u0 % 50).toNat, by omega⟩
  obtain ⟨k, hk⟩ : ∃ k : Nat, u2 % 60 = (k : Int) := ⟨(u2 % 60).toNat, by omega⟩
  have hc1 : 1 ≤ c := by omega
  have hc2 : c ≤ 50 := by omega
  have hk1 : k < 60 := by omega
  have hm' : len1 ≤ 9223372036854775807 := by unfold maxLen at hm; omega
  have HX := hideIt hx
  have HR := hideIt hR
  have HW := hideIt hw
  clear hx hm hR hw
  go_enter Try.func4, Try.ntmps4
  go_wp2_with (first
    | (go_at_call 8; refine (awake_any _).mono ?_; rintro e x0 ⟨rfl, hb⟩; have B0 := hideIt hb; clear hb)
    | (go_at_call 9; refine (one_new B0.out).mono ?_; rintro e x1 ⟨p, rfl, hM⟩; have H1 := hideIt hM; clear hM)
    | (go_at_call 10; refine (one_allocN H2.out (by omega) (by omega) c (by omega) (by simp)).mono ?_; rintro e x3 ⟨rfl, hM⟩; have H3 := hideIt (show One w x3 p 0 [c, c] (fun _ _ => 0) (c + c) by simpa using hM); clear hM H2)
    | (go_at_call 10; refine (one_allocN H1.out (by omega) (by omega) c (by omega) (by simp)).mono ?_; rintro e x2 ⟨rfl, hM⟩; have H2 := hideIt (show One w x2 p 0 [c] (fun _ _ => 0) c by simpa using hM); clear hM H1)
    | fail)
  have HC := hideIt (show ∀ d ∈ [c, c], d ≤ 100000 by intro d hd; simp at hd; omega)
  go_loopw [13] (fun o wr => ∃ (i : Nat) (f : Int → Int → Int), o = .int .i64 i ∧ i ≤ c ∧ i ≤ len1 ∧ One w wr p (2 * i) [c, c] f (c + c) ∧ Sp xs i f) (fun o _ => c - (intOf o).toNat)
  case atStart => exact ⟨0, _, rfl, Nat.zero_le _, Nat.zero_le _, H3.out, fun b => by simp⟩
  case round =>
    obtain ⟨i, f, rfl, hi, hil, hM, hS⟩ := hrel
    have H4 := hideIt hM
    have HS := hideIt hS
    clear hM hS H3
    by_cases hg : i < c ∧ i < len1
    · obtain ⟨g1, g2⟩ := hg
      obtain ⟨b1, o1, rfl, hcell⟩ := HR.out (by rw [HX.out]; omega)
      obtain ⟨v, hv⟩ : ∃ v, xs.getD i 0 = v := ⟨_, rfl⟩
      have c1 := hcell i (by rw [HX.out]; omega)
      have hb1 := World.block_lt_of_cell? w _ c1
      rw [hv] at c1
      have k1 : wr.cell? ⟨b1, o1 + i, none⟩ = some (.int .i64 v) := (H4.out.1.cell (p := ⟨b1, o1 + i, none⟩) hb1).trans c1
      have HV := hideIt (HW.out v (by rw [← hv]; exact getD_mem xs i (by rw [HX.out]; omega)))
      have HN := hideIt (sp_next HS.out hv)
      have IN0 := hideIt (show inB [c, c] 0 (i : Int) = true from inB_iff.2 ⟨0, i, c, rfl, rfl, rfl, g1⟩)
      have IN1 := hideIt (show inB [c, c] 1 (i : Int) = true from inB_iff.2 ⟨1, i, c, rfl, rfl, rfl, g1⟩)
      clear hcell hv
      go_wp2_with (first
        | (go_at_call 16; refine (one_store H5.out (a := 1) (b := (i : Int)) (v := v) (i64 (by omega) (by omega)) (i64n i (by omega)) HV.out (by simp) (by omega) HC.out IN1.out).mono ?_; rintro e x5 ⟨rfl, hM⟩; have H6 := hideIt hM; clear hM)
        | (go_at_call 16; refine (one_store H4.out (a := 0) (b := (i : Int)) (v := v) (i64 (by omega) (by omega)) (i64n i (by omega)) HV.out (by simp) (by omega) HC.out IN0.out).mono ?_; rintro e x4 ⟨rfl, hM⟩; have H5 := hideIt hM; have k2 : x4.cell? ⟨b1, o1 + i, none⟩ = some (.int .i64 v) := (hM.1.cell (p := ⟨b1, o1 + i, none⟩) hb1).trans c1; clear hM)
        | fail)
      go_roundw
      case rel => exact ⟨i + 1, _, by go_num, by omega, by omega, by have := H6.out; rw [show 2 * (i + 1) = 2 * i + 1 + 1 by omega]; exact this, HN.out⟩
      case measure => simp [intOf]; omega
    · have HV := hideIt (show ∀ b : Nat, keepf f 1 0 (b : Int) = if b < c ∧ b < len1 then xs.getD b 0 else 0 by
        intro b
        simp only [keepf]
        rw [if_pos (by omega), HS.out b]
        by_cases e : b < i
        · rw [if_pos e, if_pos (by omega)]
        · rw [if_neg e, if_neg (by omega)])
      have HS3 := hideIt (show (c : Int) + (c : Int) + 0 = ((([c, c, 0] : List Nat).sum : Nat) : Int) by simp)
      have HT3 := hideIt (show ([c, c, 0] : List Nat).sum ≤ 65536 by simp; omega)
      have hrest := hideIt (show ¬ (i < c ∧ i < len1) from hg)
      clear hg
      by_cases g1 : i < c
      all_goals try (have g2 : ¬ i < len1 := fun h => hrest.out ⟨g1, h⟩)
      all_goals go_wp2_with (first
        | (go_at_call 10; refine (one_allocN H6.out (by omega) (by omega) k (by omega) (by simp)).mono ?_; rintro e x7 ⟨rfl, hM⟩; have H7 := hideIt (show One w x7 p (2 * i) [c, k] (keepf f 1) (c + k) by simpa using hM); clear hM H6)
        | (go_at_call 12; refine (one_keep H5.out 1 (by omega) (by simp) HS3.out HT3.out (by simp)).mono ?_; rintro e x6 ⟨rfl, hM⟩; have H6 := hideIt (show One w x6 p (2 * i) [c] (keepf f 1) c by simpa using hM); clear hM H5)
        | (go_at_call 10; refine (one_alloc H4.out (by omega) (by omega) 0 (by omega) (by omega) (by simp)).mono ?_; rintro e x5 ⟨rfl, hM⟩; have H5 := hideIt (show One w x5 p (2 * i) [c, c, 0] f (c + c + 0) by simpa using hM); clear hM H4)
        | fail)
      all_goals (
        go_loopw [19] (fun o wr => ∃ m : Nat, o = .int .i64 m ∧ m ≤ 60 ∧ One w wr p (2 * i) [c, k] (keepf f 1) (c + k)) (fun o _ => 60 - (intOf o).toNat)
        case atStart => exact ⟨0, rfl, Nat.zero_le _, H7.out⟩
        case round =>
          obtain ⟨m, rfl, hm, hM⟩ := hrel
          have H8 := hideIt hM
          clear hM H7
          by_cases hm60 : m < 60
          · obtain ⟨e1, he1⟩ : ∃ e1 : Int, (if m < k then 0 else 12) = e1 := ⟨_, rfl⟩
            obtain ⟨e0, he0⟩ : ∃ e0 : Int, (if m < c then 0 else 12) = e0 := ⟨_, rfl⟩
            obtain ⟨z, hz⟩ : ∃ z : Int, (if m < c ∧ m < len1 then xs.getD m 0 else 0) = z := ⟨_, rfl⟩
            have L1 := hideIt (fun (W : World) (h : One w W p (2 * i) [c, k] (keepf f 1) (c + k)) => l1 h m hm60 he1)
            have L0 := hideIt (fun (W : World) (h : One w W p (2 * i) [c, k] (keepf f 1) (c + k)) => l0 h HV.out m hm60 hz he0)
            have D1 : (m < k ∧ e1 = 0) ∨ (¬ m < k ∧ e1 = 12) := by
              by_cases q : m < k
              · rw [if_pos q] at he1
                exact Or.inl ⟨q, he1.symm⟩
              · rw [if_neg q] at he1
                exact Or.inr ⟨q, he1.symm⟩
            by_cases q : m < c ∧ m < len1
            · obtain ⟨q2, q3⟩ := q
              obtain ⟨b1, o1, rfl, hcell⟩ := HR.out (by rw [HX.out]; omega)
              have c1 := hcell m (by rw [HX.out]; omega)
              have hb1 := World.block_lt_of_cell? w _ c1
              rw [if_pos ⟨q2, q3⟩] at hz
              rw [if_pos q2] at he0
              subst he0
              rw [hz] at c1
              clear he1 hz hcell
              rcases D1 with ⟨q1, rfl⟩ | ⟨q1, rfl⟩
              all_goals (
                go_wp2_with (first
                  | (go_at_call 14; have _ := M9.out; refine (L0.out _ H8.out).mono ?_; rintro e x9 ⟨rfl, hM⟩; have H9 := hideIt hM; have k9 : x9.cell? ⟨b1, o1 + m, none⟩ = some (.int .i64 z) := (hM.1.cell (p := ⟨b1, o1 + m, none⟩) hb1).trans c1; clear hM)
                  | (go_at_call 14; refine (L1.out _ H8.out).mono ?_; rintro e x8 ⟨rfl, hM⟩; clear H8; have H8 := hideIt hM; have M9 := hideIt trivial; clear hM)
                  | fail)
                go_roundw
                case rel => exact ⟨m + 1, by go_num, by omega, H9.out⟩
                case measure => simp [intOf]; omega)
            · rw [if_neg q] at hz
              subst hz
              have D0 : (m < c ∧ ¬ m < len1 ∧ e0 = 0) ∨ (¬ m < c ∧ e0 = 12) := by
                by_cases q' : m < c
                · rw [if_pos q'] at he0
                  exact Or.inl ⟨q', fun h => q ⟨q', h⟩, he0.symm⟩
                · rw [if_neg q'] at he0
                  exact Or.inr ⟨q', he0.symm⟩
              clear he1 he0 q
              rcases D1 with ⟨q1, rfl⟩ | ⟨q1, rfl⟩
              all_goals rcases D0 with ⟨q2, q3, rfl⟩ | ⟨q2, rfl⟩
              all_goals (
                go_wp2_with (first
                  | (go_at_call 14; have _ := M9.out; refine (L0.out _ H8.out).mono ?_; rintro e x9 ⟨rfl, hM⟩; have H9 := hideIt hM; clear hM)
                  | (go_at_call 14; refine (L1.out _ H8.out).mono ?_; rintro e x8 ⟨rfl, hM⟩; clear H8; have H8 := hideIt hM; have M9 := hideIt trivial; clear hM)
                  | fail)
                all_goals go_roundw
                all_goals first | exact ⟨m + 1, by go_num, by omega, H9.out⟩ | (simp [intOf]; omega))
          · go_wp2_with (fail)
            go_ret
            exact ⟨rfl, H8.out.1⟩)

set_option maxRecDepth 100000 in
set_option maxHeartbeats 400000 in
theorem lifted (os : Os) (started : os.Started) (H : Type) (enc : TypeId × Value → H) :
    ReturnsInHanded {} Try.checked os 4 .any (Rows.memCleanSpec.pre6 enc Try.prog Try.f4 Rows.memCleanRow.domain false) (Rows.memCleanSpec.post enc Try.prog Try.f4 false true false false) := by
  refine returnsInHanded_of_change (C := Try.checked) own started (by kernel_rfl) Try.func4
    (ChangeSpec.witness6 (enc := enc) (C := Try.checked) false ⟨#[], #[.int .u8 0, .slice none 0 0, .int .u8 0], []⟩ 8 (by kernel_rfl) (by kernel_rfl) (by kernel_rfl) (by kernel_rfl)) ?_
  intro W base args ds gs before hval0 hW hcnd _
  have hval : ∀ (j : Nat) t v, Try.f4.params[j]? = some t → args[j]? = some v → Value.okWide Try.prog W .any base t v := hval0
  have hW' := hW
  obtain ⟨p, q, hA0, hV, rfl, hfz, hnd⟩ := hW
  have hA : DataW.TrodAll enc Try.prog W 0 (fun _ => true) true Try.f4.params.toList args.toList ds p := hA0
  rw [Try.params4] at hA hval
  obtain ⟨v0, vs0, d0, ds0, p0, q0, hargs, rfl, rfl, h0, r0⟩ := trodAll_cons hA
  obtain ⟨v1, vs1, d1, ds1, p1, q1, rfl, rfl, rfl, h1, r1⟩ := trodAll_cons r0
  obtain ⟨v2, vs2, d2, ds2, p2, q2, rfl, rfl, rfl, h2, r2⟩ := trodAll_cons r1
  obtain ⟨rfl, rfl, rfl⟩ := trodAll_nil r2
  obtain rfl : args = #[v0, v1, v2] := by cases args; simp_all
  obtain ⟨rfl, rfl⟩ := trodVars_none hV
  obtain ⟨a0, rfl, rfl, rfl, w0⟩ := open_int Try.underlying5 (hval 0 5 v0 rfl rfl) h0
  have k1 := h1
  have lt1 : ∀ x ∈ p1, x.block < W.heap.size := by obtain ⟨m, hm⟩ := k1; exact DataW.trod_lt m _ _ _ hm
  obtain ⟨a1, len1, cap1, xs, rfl, hx, hm, hR, hwf⟩ := open_row Try.underlying44 Try.underlying2 (by kernel_rfl) (hval 1 44 v1 rfl rfl) h1
  obtain ⟨a2, rfl, rfl, rfl, w2⟩ := open_int Try.underlying5 (hval 2 5 v2 rfl rfl) h2
  clear hA0 hval0
  obtain ⟨b0, b0'⟩ := wf_u8 w0
  obtain ⟨b2, b2'⟩ := wf_u8 w2
  refine (walk a0 a2 b0 b0' b2 b2' a1 len1 cap1 xs W hx hm hR (fun n hn => I64.of_wf' (hwf n hn))).mono fun e W' ⟨he, bel⟩ => ?_
  subst he
  exact ⟨_, rfl, _, _, _, [], _, [], hW', trodAll_mk1 (shut_bool Try.underlying4 _), (trodAll_cons_mk (shut_int Try.underlying5 w0) (trodAll_cons_mk (Below.trod laidOut (by kernel_rfl) (of_decide_eq_true (by kernel_rfl)) k1 bel lt1) (trodAll_cons_mk (shut_int Try.underlying5 w2) trodAll_mk0))), rfl, bel.frame _, fun h => by cases h⟩

theorem over : Rows.memCleanRow.holds Try.pinned (OpenSpec.ofChange Rows.memCleanSpec) :=
  OpenClaim.holds_of_wide 4 Try.f4 rfl rfl rfl rfl rfl rfl rfl ⟨rfl, rfl, rfl, rfl, rfl⟩ rfl rfl rfl rfl rfl (by kernel_rfl) Try.func4 (by kernel_rfl)
    (of_decide_eq_true (by kernel_rfl)) (by unfold Func.isWrapper; first | (rw [if_pos (by decide +kernel)]; kernel_rfl) | (rw [if_neg (by decide +kernel)]; exact ⟨rfl, rfl⟩))
    (fun os started H enc _ => lifted os started H enc)

/-- The statement. -/
theorem proved : Rows.MemCleanSaid :=
  over
#print axioms proved
end Go.Proofs.Ytahhbehpgolinaa.memClean
