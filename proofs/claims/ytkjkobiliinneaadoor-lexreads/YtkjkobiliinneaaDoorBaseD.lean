/-
  What CutPrefix, IndexByte, blank, letters and sign return: contracts over the program; the conditions: lengths that fit, and the two lists of layer 4 lie as its text lays them.
-/
import Derived.Test.YtkjkobiliinneaaDoorBaseC
namespace Go.Proofs.YtkjkobiliinneaaDoor
open Go.RowKit
set_option linter.unusedVariables false

/-- A token as a value. -/
abbrev tkV (k : Int) (tx : ByteArray) (n : Int) (t : Int) (at_ : Int) : Value := .agg #[.int .u8 k, .string tx, .int .i64 n, .int .u8 t, .int .i64 at_]
/-- What a reader of tokens answers. -/
def optV : Option Lx.Tk → Value
  | none => tkV 0 ⟨#[]⟩ 0 0 0
  | some t => tkV t.kind ⟨t.text.toArray⟩ t.n t.ty 0

theorem bl_mk (l : List UInt8) : bl (⟨l.toArray⟩ : ByteArray) = l := by simp [bl]
theorem mk_bl (s : ByteArray) : (⟨(bl s).toArray⟩ : ByteArray) = s := Lib.mk_data s
theorem bl_inj {a b : ByteArray} (h : bl a = bl b) : a = b := by rw [← mk_bl a, ← mk_bl b, h]
theorem bl_extract (s : ByteArray) (a b : Nat) : bl (s.extract a b) = ((bl s).drop a).take (b - a) := Lib.extract_data s a b
theorem extract_take (s : ByteArray) (n : Nat) : s.extract 0 n = ⟨((bl s).take n).toArray⟩ := by rw [Lib.extract_eq]; simp [bl]
theorem bl_from (s : ByteArray) (a : Nat) : bl (s.extract a s.size) = (bl s).drop a := Lib.extract_to_end s a

set_option maxHeartbeats 400000 in
theorem cut_any (s : ByteArray) (w : World) :
    Calls Tryd.prog 32 #[.string s, .string ⟨#[35, 45]⟩] w fun e w' => (∃ b : ByteArray, bl b = Lx.body (bl s) ∧ e = .returned (.tuple #[.string b, .bool (Lx.minusB (bl s))])) ∧ w' = w := by
  have hr := Lib.hasPrefix_raw s ⟨#[35, 45]⟩
  unfold Lib.hasPrefix at hr
  have hm : Lx.minusB (bl s) = (decide (2 ≤ s.size) && ((s.extract 0 2).toList == [35, 45])) := by rw [Lib.toList_data ⟨#[35, 45]⟩] at hr; exact hr.symm
  by_cases h2 : 2 ≤ s.size
  · have hd : decide ((2 : Int) ≤ (s.size : Int)) = true := by simp; omega
    have hi : (2 : Int) ≤ (s.size : Int) := by omega
    rw [decide_eq_true h2, Bool.true_and] at hm
    cases hb : ((s.extract 0 2).toList == [35, 45]) with
    | true =>
      rw [hb] at hm
      have HB : Hid (bl (s.extract 2 s.size) = Lx.body (bl s)) := by
        show _ = _
        rw [bl_from]
        unfold Lx.body
        rw [if_pos hm]
      rw [hm]
      clear hr hm
      go_enter Tryd.func32, Tryd.ntmps32
      go_wp2
      go_ret2
      exact ⟨⟨_, HB.out, rfl⟩, rfl⟩
    | false =>
      rw [hb] at hm
      have HB : Hid (bl s = Lx.body (bl s)) := by
        show _ = _
        unfold Lx.body
        rw [if_neg (by rw [hm]; decide)]
      rw [hm]
      clear hr hm
      go_enter Tryd.func32, Tryd.ntmps32
      go_wp2
      go_ret2
      exact ⟨⟨_, HB.out, rfl⟩, rfl⟩
  · have hd : decide ((2 : Int) ≤ (s.size : Int)) = false := by simp; omega
    rw [decide_eq_false h2, Bool.false_and] at hm
    have HB : Hid (bl s = Lx.body (bl s)) := by
      show _ = _
      unfold Lx.body
      rw [if_neg (by rw [hm]; decide)]
    rw [hm]
    clear hr hm
    go_enter Tryd.func32, Tryd.ntmps32
    go_wp2
    go_ret2
    exact ⟨⟨_, HB.out, rfl⟩, rfl⟩

theorem indexByte_line (l : List UInt8) : (Lib.indexByte l 10 = -1 ∧ Lx.lineN l = l.length) ∨ (Lib.indexByte l 10 = (Lx.lineN l : Int)) := by
  induction l with
  | nil => left; exact ⟨rfl, rfl⟩
  | cons c l ih =>
    by_cases h : c = 10
    · right
      subst h
      simp [Lib.indexByte, Lx.lineN]
    · have hn : c.toNat ≠ 10 := fun e => h (UInt8.toNat_inj.1 e)
      have hl : Lx.lineN (c :: l) = Lx.lineN l + 1 := by simp [Lx.lineN, hn]
      have hb : (c == 10) = false := by simpa using h
      rcases ih with ⟨i1, i2⟩ | i
      · left
        refine ⟨?_, by rw [hl, i2, List.length_cons]⟩
        simp [Lib.indexByte, hb, i1]
      · right
        rw [hl]
        simp [Lib.indexByte, hb, i]
        try omega

set_option maxHeartbeats 400000 in
set_option maxRecDepth 100000 in
theorem indexByte_any (s : ByteArray) (w : World) :
    Calls Tryd.prog 31 #[.string s, .int .u8 10] w fun e w' => e = .returned (.int .i64 (Lib.indexByte (bl s) 10)) ∧ w' = w := by
  go_enter Tryd.func31, Tryd.ntmps31
  go_wp2
  rw [run_callFunc_extern Tryd.func46 (by kernel_rfl) (by kernel_rfl) (by kernel_rfl) (e := Extern.BytealgIndexByte.indexByte) (by kernel_rfl), Lib.run_indexByteString]
  simp only [Result.andThen]
  rw [Oper.upon_value]
  go_wp2
  go_ret
  exact ⟨rfl, rfl⟩

set_option maxHeartbeats 400000 in
theorem blank_any (s : ByteArray) (w : World) (h0 : 0 < s.size) (hs : s.size ≤ 9223372036854775807) :
    Calls Tryd.prog 18 #[.string s] w fun e w' => e = .returned (.int .i64 (Lx.blankN (bl s))) ∧ w' = w := by
  have HP := hideIt (hasPrefix_any s ⟨#[47, 47]⟩ w)
  have er : (bl (⟨#[47, 47]⟩ : ByteArray)).isPrefixOf (bl s) = Lx.remarkB (bl s) := rfl
  rw [er] at HP
  have HI := hideIt (indexByte_any s w)
  cases hr : Lx.remarkB (bl s) with
  | true =>
    rw [hr] at HP
    have eb : Lx.blankN (bl s) = Lx.lineN (bl s) := by unfold Lx.blankN; rw [if_pos hr]
    rw [eb]
    have hl := Lx.lineN_le (bl s)
    rw [bl_len] at hl
    rcases indexByte_line (bl s) with ⟨i1, i2⟩ | i1
    · rw [i1] at HI
      rw [bl_len] at i2
      rw [i2]
      clear er hr eb i1 i2 hl
      go_enter Tryd.func18, Tryd.ntmps18
      go_wp2_with (first | (go_at_call 30; refine HP.out.mono ?_; rintro e w' ⟨rfl, rfl⟩) | (go_at_call 31; refine HI.out.mono ?_; rintro e w' ⟨rfl, rfl⟩))
      go_ret
      exact ⟨rfl, rfl⟩
    · rw [i1] at HI
      generalize Lx.lineN (bl s) = n at HI hl ⊢
      have hn : decide ((0 : Int) ≤ (n : Int)) = true := by simp
      clear er hr eb i1
      go_enter Tryd.func18, Tryd.ntmps18
      go_wp2_with (first | (go_at_call 30; refine HP.out.mono ?_; rintro e w' ⟨rfl, rfl⟩) | (go_at_call 31; refine HI.out.mono ?_; rintro e w' ⟨rfl, rfl⟩))
      go_ret
      exact ⟨rfl, rfl⟩
  | false =>
    rw [hr] at HP
    have hz : (0 : Int) < (s.size : Int) := by omega
    have ec : Lx.blankN (bl s) = if Lx.blankC s[0] then 1 else 0 := by
      have := bl_at s 0 h0
      simp only [List.drop_zero] at this
      unfold Lx.blankN
      rw [if_neg (by rw [hr]; decide)]
      rw [this]
    have e32 : decide (s[0].toNat = 32) = ((s[0].toNat : Int) == 32) := by rw [Bool.eq_iff_iff]; simp; omega
    have e9 : decide (s[0].toNat = 9) = ((s[0].toNat : Int) == 9) := by rw [Bool.eq_iff_iff]; simp; omega
    have e10 : decide (s[0].toNat = 10) = ((s[0].toNat : Int) == 10) := by rw [Bool.eq_iff_iff]; simp; omega
    have eq : Lx.blankC s[0] = (((s[0].toNat : Int) == 32) || ((s[0].toNat : Int) == 9) || ((s[0].toNat : Int) == 10)) := by unfold Lx.blankC; rw [e32, e9, e10]
    rw [ec, eq]
    clear ec eq er hr HI e32 e9 e10
    cases b1 : ((s[0].toNat : Int) == 32) with
    | true =>
      go_enter Tryd.func18, Tryd.ntmps18
      go_wp2_with (first | (go_at_call 30; refine HP.out.mono ?_; rintro e w' ⟨rfl, rfl⟩))
      go_ret
      exact ⟨rfl, rfl⟩
    | false =>
      cases b2 : ((s[0].toNat : Int) == 9) with
      | true =>
        go_enter Tryd.func18, Tryd.ntmps18
        go_wp2_with (first | (go_at_call 30; refine HP.out.mono ?_; rintro e w' ⟨rfl, rfl⟩))
        go_ret
        exact ⟨rfl, rfl⟩
      | false =>
        cases b3 : ((s[0].toNat : Int) == 10) with
        | true =>
          go_enter Tryd.func18, Tryd.ntmps18
          go_wp2_with (first | (go_at_call 30; refine HP.out.mono ?_; rintro e w' ⟨rfl, rfl⟩))
          go_ret
          exact ⟨rfl, rfl⟩
        | false =>
          go_enter Tryd.func18, Tryd.ntmps18
          go_wp2_with (first | (go_at_call 30; refine HP.out.mono ?_; rintro e w' ⟨rfl, rfl⟩))
          go_ret
          exact ⟨rfl, rfl⟩

set_option maxHeartbeats 400000 in
theorem letters_any (s : ByteArray) (w : World) (hs : s.size ≤ 9223372036854775807) (hL : Laid w) :
    Calls Tryd.prog 19 #[.string s] w fun e w' => e = .returned (optV (Lx.lettersT (bl s))) ∧ Q w w' := by
  have HB := hideIt (fun w => begins_any w s)
  have HR := hideIt (fun w => run_any s w hs)
  have hr := Lx.runN_le (bl s)
  rw [bl_len] at hr
  have HL2 : Hid (Laid (w.alloc (.cells #[.int .u8 0, .string ⟨#[]⟩, .int .i64 0, .int .u8 0, .int .i64 0] 35))) := hL.keep ((Q.refl _).alloc _)
  have HT := hideIt (extract_take s (Lx.runN (bl s)))
  unfold Lx.lettersT
  cases hb : Lx.begins (bl s) with
  | false =>
    rw [hb] at HB
    rw [if_neg (by decide)]
    clear hb
    go_enter Tryd.func19, Tryd.ntmps19
    go_wp2_with (first | (go_at_call 28; refine (HB.out _).mono ?_; rintro e w' ⟨rfl, rfl⟩))
    exact bodyPost_ret (v := tkV 0 ⟨#[]⟩ 0 0 0) (by simp [results, Tryd.results19, go_sem]) rfl ⟨rfl, (Q.refl _).alloc _⟩
  | true =>
    rw [hb] at HB
    rw [if_pos rfl]
    clear hb
    have HW := hideIt (word_any (s.extract 0 (Lx.runN (bl s))) _ HL2.out)
    have HN := hideIt (name_any (s.extract 0 (Lx.runN (bl s))) _ (by rw [← bl_len, bl_extract]; simp; omega) HL2.out)
    rw [HT.out, bl_mk] at HW HN
    generalize Lx.runN (bl s) = n at *
    generalize (bl s).take n = tx at *
    cases hwd : Lx.wordB tx with
    | true =>
      rw [hwd] at HW
      rw [if_pos rfl]
      have hE := HT.out
      clear hwd HN
      go_enter Tryd.func19, Tryd.ntmps19
      go_wp2_with (first | (go_at_call 28; refine (HB.out _).mono ?_; rintro e w' ⟨rfl, rfl⟩) | (go_at_call 29; refine (HR.out _).mono ?_; rintro e w' ⟨rfl, rfl⟩) | (go_at_call 14; refine HW.out.mono ?_; rintro e w' ⟨rfl, rfl⟩))
      exact bodyPost_ret (v := tkV 2 ⟨tx.toArray⟩ 0 0 0) (by simp [results, Tryd.results19, go_sem]) rfl ⟨rfl, (Q.refl _).alloc _⟩
    | false =>
      rw [hwd] at HW
      rw [if_neg (by decide)]
      have hE := HT.out
      cases hnm : Lx.nameB tx with
      | true =>
        rw [hnm] at HN
        rw [if_pos rfl]
        clear hwd hnm
        go_enter Tryd.func19, Tryd.ntmps19
        go_wp2_with (first | (go_at_call 28; refine (HB.out _).mono ?_; rintro e w' ⟨rfl, rfl⟩) | (go_at_call 29; refine (HR.out _).mono ?_; rintro e w' ⟨rfl, rfl⟩) | (go_at_call 14; refine HW.out.mono ?_; rintro e w' ⟨rfl, rfl⟩) | (go_at_call 16; refine HN.out.mono ?_; rintro e w' ⟨rfl, rfl⟩))
        exact bodyPost_ret (v := tkV 1 ⟨tx.toArray⟩ 0 0 0) (by simp [results, Tryd.results19, go_sem]) rfl ⟨rfl, (Q.refl _).alloc _⟩
      | false =>
        rw [hnm] at HN
        rw [if_neg (by decide)]
        clear hwd hnm
        go_enter Tryd.func19, Tryd.ntmps19
        go_wp2_with (first | (go_at_call 28; refine (HB.out _).mono ?_; rintro e w' ⟨rfl, rfl⟩) | (go_at_call 29; refine (HR.out _).mono ?_; rintro e w' ⟨rfl, rfl⟩) | (go_at_call 14; refine HW.out.mono ?_; rintro e w' ⟨rfl, rfl⟩) | (go_at_call 16; refine HN.out.mono ?_; rintro e w' ⟨rfl, rfl⟩))
        exact bodyPost_ret (v := tkV 0 ⟨#[]⟩ 0 0 0) (by simp [results, Tryd.results19, go_sem]) rfl ⟨rfl, (Q.refl _).alloc _⟩

theorem find_twos (l : List UInt8) : ∀ L : List (List UInt8), (∀ x ∈ L, ∃ a b, x = [a, b]) → L.find? (fun x => x.isPrefixOf l) = if L.contains (l.take 2) then some (l.take 2) else none := by
  intro L
  induction L with
  | nil => intro _; rfl
  | cons x L ih =>
    intro h
    obtain ⟨a, b, rfl⟩ := h x (List.mem_cons_self)
    have hi := ih (fun y hy => h y (List.mem_cons_of_mem _ hy))
    rw [List.find?_cons, hi, List.contains_cons]
    cases hp : ([a, b] : List UInt8).isPrefixOf l with
    | true =>
      have := (Lx.isPrefix_two _ _ _).1 hp
      rw [this]
      simp
    | false =>
      have hne : (l.take 2 == [a, b]) = false := by
        rw [beq_eq_false_iff_ne]
        intro e
        rw [(Lx.isPrefix_two _ _ _).2 e] at hp
        cases hp
      rw [hne, Bool.false_or]
theorem find_ones (l : List UInt8) : ∀ L : List UInt8, (L.map fun c => [c]).find? (fun x => x.isPrefixOf l) = if (l.head?.map L.contains).getD false then some (l.take 1) else none := by
  intro L
  induction L with
  | nil => cases l <;> rfl
  | cons x L ih =>
    rw [List.map_cons, List.find?_cons, ih]
    cases l with
    | nil => rfl
    | cons c l =>
      simp only [List.isPrefixOf, List.head?_cons, Option.map_some, Option.getD_some, List.contains_cons, Bool.and_true, List.take_succ_cons, List.take_zero]
      cases hx : x == c with
      | true =>
        simp at hx
        subst hx
        simp
      | false =>
        have : (c == x) = false := by rw [BEq.comm]; exact hx
        rw [this, Bool.false_or]
        rfl
def signX (x : List UInt8) : Lx.Tk := ⟨4, x, 0, 0⟩
theorem signT_find (l : List UInt8) : Lx.signT l = (signs.find? (fun x => x.isPrefixOf l)).map signX := by
  unfold signs Lx.signT
  rw [List.find?_append, find_twos l Lx.twos (by simp [Lx.twos]), find_ones]
  split
  · rfl
  · split <;> rfl
theorem signs_len : signs.length = 32 := rfl

set_option maxHeartbeats 400000 in
theorem sign_any (s : ByteArray) (w : World) (hL : Laid w) :
    Calls Tryd.prog 21 #[.string s] w fun e w' => e = .returned (optV (Lx.signT (bl s))) ∧ Q w w' := by
  obtain ⟨t, fr, hw⟩ := (hL.keep ((Q.refl w).alloc (.cells #[.int .u8 0, .string ⟨#[]⟩, .int .i64 0, .int .u8 0, .int .i64 0] 35))).signs
  have HW := hideIt hw
  clear hw hL
  rw [signT_find]
  have e0 : signs.find? (fun x => x.isPrefixOf (bl s)) = (signs.drop 0).find? (fun x => x.isPrefixOf (bl s)) := rfl
  obtain ⟨R, hR⟩ : ∃ R, signs.find? (fun x => x.isPrefixOf (bl s)) = R := ⟨_, rfl⟩
  rw [hR]
  rw [hR] at e0
  have H0 := hideIt e0
  clear e0 hR
  go_enter Tryd.func21, Tryd.ntmps21
  go_wp2_with (refine wpList_load_row rfl 52 _ rfl 1 rfl _ _ _ _ HW.out Tryd.underlying52 rfl (by kernel_rfl) ?_)
  go_loop [6] (fun i => ∃ k : Nat, k ≤ 32 ∧ i = .int .i64 k ∧ Hid (R = (signs.drop k).find? (fun x => x.isPrefixOf (bl s)))) (fun i => 32 - (intOf i).toNat)
  case atStart => exact ⟨0, Nat.zero_le _, rfl, H0⟩
  case round =>
    obtain ⟨k, hk, rfl, HR⟩ := hrel
    clear H0
    by_cases hlt : k < 32
    · have hki : (k : Int) < 32 := by omega
      have hix := fun w => idx32 k hlt w
      have hdr := drop_getD (l := signs) (k := k) hlt
      obtain ⟨x, hx⟩ : ∃ x, signs.getD k [] = x := ⟨_, rfl⟩
      rw [hx] at hix hdr
      have HP := hideIt (fun w => hasPrefix_any s ⟨x.toArray⟩ w)
      rw [bl_mk] at HP
      cases hb : x.isPrefixOf (bl s) with
      | true =>
        rw [hb] at HP
        have HN : Hid (R = some x) := by
          have := HR.out
          rw [hdr, List.find?_cons, hb] at this
          exact this
        clear hb hx hdr HR
        go_wp2_with (go_at_call 30; refine (HP.out _).mono ?_; rintro e w' ⟨rfl, rfl⟩)
        rw [HN.out]
        exact bodyPost_ret (v := tkV 4 ⟨x.toArray⟩ 0 0 0) (by simp [results, Tryd.results21, go_sem]) rfl ⟨rfl, (Q.refl _).alloc _⟩
      | false =>
        rw [hb] at HP
        have HN : Hid (R = (signs.drop (k + 1)).find? (fun x => x.isPrefixOf (bl s))) := by
          have := HR.out
          rw [hdr, List.find?_cons, hb] at this
          exact this
        clear hb hx hdr HR
        go_wp2_with (go_at_call 30; refine (HP.out _).mono ?_; rintro e w' ⟨rfl, rfl⟩)
        go_round
        case rel => exact ⟨k + 1, by omega, by go_num, HN⟩
        case measure => simp [intOf]; omega
    · have e : k = 32 := by omega
      subst e
      have HN : Hid (R = none) := HR.out
      clear HR
      go_wp2_with (fail)
      rw [HN.out]
      exact bodyPost_ret (v := tkV 0 ⟨#[]⟩ 0 0 0) (by simp [results, Tryd.results21, go_sem]) rfl ⟨rfl, (Q.refl _).alloc _⟩
end Go.Proofs.YtkjkobiliinneaaDoor
