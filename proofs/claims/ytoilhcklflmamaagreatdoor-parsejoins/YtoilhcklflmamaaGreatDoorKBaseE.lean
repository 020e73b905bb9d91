/-
  What CutPrefix, IndexByte, blank, letters and sign return: contracts over the program; the conditions: lengths that fit, and the two lists of layer 4 lie as its text lays them.
  What number returns: a contract over the program; the conditions: a length that fits, and the two lists of layer 4 lie as its text lays them.
-/
import Derived.Test.YtoilhcklflmamaaGreatDoorKBaseC
namespace Go.Proofs.YtoilhcklflmamaaGreatDoor
open Go.RowKit
set_option linter.unusedVariables false

/-- A token as a value. -/
abbrev tkV (k : Int) (tx : ByteArray) (n : Int) (t : Int) (at_ : Int) : Value := .agg #[.int .u8 k, .string tx, .int .i64 n, .int .u8 t, .int .i64 at_]
/-- What a reader of tokens answers. -/
def optV : Option Lx.Tk → Value
  | none => tkV 0 ⟨#[]⟩ 0 0 0
  | some t => tkV t.kind ⟨t.text.toArray⟩ t.n t.ty 0

theorem bl_mk (l : List UInt8) : bl (⟨l.toArray⟩ : ByteArray) = l := by simp [bl]
theorem mk_bl (s : ByteArray) : (⟨(bl s).toArray⟩ : ByteArray) = s := Lib.mk_data s
theorem bl_inj {a b : ByteArray} (h : bl a = bl b) : a = b := by rw [← mk_bl a, ← mk_bl b, h]
theorem bl_extract (s : ByteArray) (a b : Nat) : bl (s.extract a b) = ((bl s).drop a).take (b - a) := Lib.extract_data s a b
theorem extract_take (s : ByteArray) (n : Nat) : s.extract 0 n = ⟨((bl s).take n).toArray⟩ := by rw [Lib.extract_eq]; simp [bl]
theorem bl_from (s : ByteArray) (a : Nat) : bl (s.extract a s.size) = (bl s).drop a := Lib.extract_to_end s a

set_option maxHeartbeats 400000 in
theorem cut_any (s : ByteArray) (w : World) :
    Calls Tryz.prog 59 #[.string s, .string ⟨#[35, 45]⟩] w fun e w' => (∃ b : ByteArray, bl b = Lx.body (bl s) ∧ e = .returned (.tuple #[.string b, .bool (Lx.minusB (bl s))])) ∧ w' = w := by
  have hr := Lib.hasPrefix_raw s ⟨#[35, 45]⟩
  unfold Lib.hasPrefix at hr
  have hm : Lx.minusB (bl s) = (decide (2 ≤ s.size) && ((s.extract 0 2).toList == [35, 45])) := by rw [Lib.toList_data ⟨#[35, 45]⟩] at hr; exact hr.symm
  by_cases h2 : 2 ≤ s.size
  · have hd : decide ((2 : Int) ≤ (s.size : Int)) = true := by simp; omega
    have hi : (2 : Int) ≤ (s.size : Int) := by omega
    rw [decide_eq_true h2, Bool.true_and] at hm
    cases hb : ((s.extract 0 2).toList == [35, 45]) with
    | true =>
      rw [hb] at hm
      have HB : Hid (bl (s.extract 2 s.size) = Lx.body (bl s)) := by
        show _ = _
        rw [bl_from]
        unfold Lx.body
        rw [if_pos hm]
      rw [hm]
      clear hr hm
      go_enter Tryz.func59, Tryz.ntmps59
      go_wp2
      go_ret2
      exact ⟨⟨_, HB.out, rfl⟩, rfl⟩
    | false =>
      rw [hb] at hm
      have HB : Hid (bl s = Lx.body (bl s)) := by
        show _ = _
        unfold Lx.body
        rw [if_neg (by rw [hm]; decide)]
      rw [hm]
      clear hr hm
      go_enter Tryz.func59, Tryz.ntmps59
      go_wp2
      go_ret2
      exact ⟨⟨_, HB.out, rfl⟩, rfl⟩
  · have hd : decide ((2 : Int) ≤ (s.size : Int)) = false := by simp; omega
    rw [decide_eq_false h2, Bool.false_and] at hm
    have HB : Hid (bl s = Lx.body (bl s)) := by
      show _ = _
      unfold Lx.body
      rw [if_neg (by rw [hm]; decide)]
    rw [hm]
    clear hr hm
    go_enter Tryz.func59, Tryz.ntmps59
    go_wp2
    go_ret2
    exact ⟨⟨_, HB.out, rfl⟩, rfl⟩

theorem indexByte_line (l : List UInt8) : (Lib.indexByte l 10 = -1 ∧ Lx.lineN l = l.length) ∨ (Lib.indexByte l 10 = (Lx.lineN l : Int)) := by
  induction l with
  | nil => left; exact ⟨rfl, rfl⟩
  | cons c l ih =>
    by_cases h : c = 10
    · right
      subst h
      simp [Lib.indexByte, Lx.lineN]
    · have hn : c.toNat ≠ 10 := fun e => h (UInt8.toNat_inj.1 e)
      have hl : Lx.lineN (c :: l) = Lx.lineN l + 1 := by simp [Lx.lineN, hn]
      have hb : (c == 10) = false := by simpa using h
      rcases ih with ⟨i1, i2⟩ | i
      · left
        refine ⟨?_, by rw [hl, i2, List.length_cons]⟩
        simp [Lib.indexByte, hb, i1]
      · right
        rw [hl]
        simp [Lib.indexByte, hb, i]
        try omega

set_option maxHeartbeats 400000 in
set_option maxRecDepth 100000 in
theorem indexByte_any (s : ByteArray) (w : World) :
    Calls Tryz.prog 54 #[.string s, .int .u8 10] w fun e w' => e = .returned (.int .i64 (Lib.indexByte (bl s) 10)) ∧ w' = w := by
  go_enter Tryz.func54, Tryz.ntmps54
  go_wp2
  rw [run_callFunc_extern Tryz.func104 (by kernel_rfl) (by kernel_rfl) (by kernel_rfl) (e := Extern.BytealgIndexByte.indexByte) (by kernel_rfl), Lib.run_indexByteString]
  simp only [Result.andThen]
  rw [Oper.upon_value]
  go_wp2
  go_ret
  exact ⟨rfl, rfl⟩

set_option maxHeartbeats 400000 in
theorem blank_any (s : ByteArray) (w : World) (h0 : 0 < s.size) (hs : s.size ≤ 9223372036854775807) :
    Calls Tryz.prog 27 #[.string s] w fun e w' => e = .returned (.int .i64 (Lx.blankN (bl s))) ∧ w' = w := by
  have HP := hideIt (hasPrefix_any s ⟨#[47, 47]⟩ w)
  have er : (bl (⟨#[47, 47]⟩ : ByteArray)).isPrefixOf (bl s) = Lx.remarkB (bl s) := rfl
  rw [er] at HP
  have HI := hideIt (indexByte_any s w)
  cases hr : Lx.remarkB (bl s) with
  | true =>
    rw [hr] at HP
    have eb : Lx.blankN (bl s) = Lx.lineN (bl s) := by unfold Lx.blankN; rw [if_pos hr]
    rw [eb]
    have hl := Lx.lineN_le (bl s)
    rw [bl_len] at hl
    rcases indexByte_line (bl s) with ⟨i1, i2⟩ | i1
    · rw [i1] at HI
      rw [bl_len] at i2
      rw [i2]
      clear er hr eb i1 i2 hl
      go_enter Tryz.func27, Tryz.ntmps27
      go_wp2_with (first | (go_at_call 53; refine HP.out.mono ?_; rintro e w' ⟨rfl, rfl⟩) | (go_at_call 54; refine HI.out.mono ?_; rintro e w' ⟨rfl, rfl⟩))
      go_ret
      exact ⟨rfl, rfl⟩
    · rw [i1] at HI
      generalize Lx.lineN (bl s) = n at HI hl ⊢
      have hn : decide ((0 : Int) ≤ (n : Int)) = true := by simp
      clear er hr eb i1
      go_enter Tryz.func27, Tryz.ntmps27
      go_wp2_with (first | (go_at_call 53; refine HP.out.mono ?_; rintro e w' ⟨rfl, rfl⟩) | (go_at_call 54; refine HI.out.mono ?_; rintro e w' ⟨rfl, rfl⟩))
      go_ret
      exact ⟨rfl, rfl⟩
  | false =>
    rw [hr] at HP
    have hz : (0 : Int) < (s.size : Int) := by omega
    have ec : Lx.blankN (bl s) = if Lx.blankC s[0] then 1 else 0 := by
      have := bl_at s 0 h0
      simp only [List.drop_zero] at this
      unfold Lx.blankN
      rw [if_neg (by rw [hr]; decide)]
      rw [this]
    have e32 : decide (s[0].toNat = 32) = ((s[0].toNat : Int) == 32) := by rw [Bool.eq_iff_iff]; simp; omega
    have e9 : decide (s[0].toNat = 9) = ((s[0].toNat : Int) == 9) := by rw [Bool.eq_iff_iff]; simp; omega
    have e10 : decide (s[0].toNat = 10) = ((s[0].toNat : Int) == 10) := by rw [Bool.eq_iff_iff]; simp; omega
    have eq : Lx.blankC s[0] = (((s[0].toNat : Int) == 32) || ((s[0].toNat : Int) == 9) || ((s[0].toNat : Int) == 10)) := by unfold Lx.blankC; rw [e32, e9, e10]
    rw [ec, eq]
    clear ec eq er hr HI e32 e9 e10
    cases b1 : ((s[0].toNat : Int) == 32) with
    | true =>
      go_enter Tryz.func27, Tryz.ntmps27
      go_wp2_with (first | (go_at_call 53; refine HP.out.mono ?_; rintro e w' ⟨rfl, rfl⟩))
      go_ret
      exact ⟨rfl, rfl⟩
    | false =>
      cases b2 : ((s[0].toNat : Int) == 9) with
      | true =>
        go_enter Tryz.func27, Tryz.ntmps27
        go_wp2_with (first | (go_at_call 53; refine HP.out.mono ?_; rintro e w' ⟨rfl, rfl⟩))
        go_ret
        exact ⟨rfl, rfl⟩
      | false =>
        cases b3 : ((s[0].toNat : Int) == 10) with
        | true =>
          go_enter Tryz.func27, Tryz.ntmps27
          go_wp2_with (first | (go_at_call 53; refine HP.out.mono ?_; rintro e w' ⟨rfl, rfl⟩))
          go_ret
          exact ⟨rfl, rfl⟩
        | false =>
          go_enter Tryz.func27, Tryz.ntmps27
          go_wp2_with (first | (go_at_call 53; refine HP.out.mono ?_; rintro e w' ⟨rfl, rfl⟩))
          go_ret
          exact ⟨rfl, rfl⟩

set_option maxHeartbeats 400000 in
theorem letters_any (s : ByteArray) (w : World) (hs : s.size ≤ 9223372036854775807) (hL : Laid w) :
    Calls Tryz.prog 28 #[.string s] w fun e w' => e = .returned (optV (Lx.lettersT (bl s))) ∧ Q w w' := by
  have HB := hideIt (fun w => begins_any w s)
  have HR := hideIt (fun w => run_any s w hs)
  have hr := Lx.runN_le (bl s)
  rw [bl_len] at hr
  have HL2 : Hid (Laid (w.alloc (.cells #[.int .u8 0, .string ⟨#[]⟩, .int .i64 0, .int .u8 0, .int .i64 0] 58))) := hL.keep ((Q.refl _).alloc _)
  have HT := hideIt (extract_take s (Lx.runN (bl s)))
  unfold Lx.lettersT
  cases hb : Lx.begins (bl s) with
  | false =>
    rw [hb] at HB
    rw [if_neg (by decide)]
    clear hb
    go_enter Tryz.func28, Tryz.ntmps28
    go_wp2_with (first | (go_at_call 55; refine (HB.out _).mono ?_; rintro e w' ⟨rfl, rfl⟩))
    exact bodyPost_ret (v := tkV 0 ⟨#[]⟩ 0 0 0) (by simp [results, Tryz.results28, go_sem]) rfl ⟨rfl, (Q.refl _).alloc _⟩
  | true =>
    rw [hb] at HB
    rw [if_pos rfl]
    clear hb
    have HW := hideIt (word_any (s.extract 0 (Lx.runN (bl s))) _ HL2.out)
    have HN := hideIt (name_any (s.extract 0 (Lx.runN (bl s))) _ (by rw [← bl_len, bl_extract]; simp; omega) HL2.out)
    rw [HT.out, bl_mk] at HW HN
    generalize Lx.runN (bl s) = n at *
    generalize (bl s).take n = tx at *
    cases hwd : Lx.wordB tx with
    | true =>
      rw [hwd] at HW
      rw [if_pos rfl]
      have hE := HT.out
      clear hwd HN
      go_enter Tryz.func28, Tryz.ntmps28
      go_wp2_with (first | (go_at_call 55; refine (HB.out _).mono ?_; rintro e w' ⟨rfl, rfl⟩) | (go_at_call 56; refine (HR.out _).mono ?_; rintro e w' ⟨rfl, rfl⟩) | (go_at_call 57; refine HW.out.mono ?_; rintro e w' ⟨rfl, rfl⟩))
      exact bodyPost_ret (v := tkV 2 ⟨tx.toArray⟩ 0 0 0) (by simp [results, Tryz.results28, go_sem]) rfl ⟨rfl, (Q.refl _).alloc _⟩
    | false =>
      rw [hwd] at HW
      rw [if_neg (by decide)]
      have hE := HT.out
      cases hnm : Lx.nameB tx with
      | true =>
        rw [hnm] at HN
        rw [if_pos rfl]
        clear hwd hnm
        go_enter Tryz.func28, Tryz.ntmps28
        go_wp2_with (first | (go_at_call 55; refine (HB.out _).mono ?_; rintro e w' ⟨rfl, rfl⟩) | (go_at_call 56; refine (HR.out _).mono ?_; rintro e w' ⟨rfl, rfl⟩) | (go_at_call 57; refine HW.out.mono ?_; rintro e w' ⟨rfl, rfl⟩) | (go_at_call 58; refine HN.out.mono ?_; rintro e w' ⟨rfl, rfl⟩))
        exact bodyPost_ret (v := tkV 1 ⟨tx.toArray⟩ 0 0 0) (by simp [results, Tryz.results28, go_sem]) rfl ⟨rfl, (Q.refl _).alloc _⟩
      | false =>
        rw [hnm] at HN
        rw [if_neg (by decide)]
        clear hwd hnm
        go_enter Tryz.func28, Tryz.ntmps28
        go_wp2_with (first | (go_at_call 55; refine (HB.out _).mono ?_; rintro e w' ⟨rfl, rfl⟩) | (go_at_call 56; refine (HR.out _).mono ?_; rintro e w' ⟨rfl, rfl⟩) | (go_at_call 57; refine HW.out.mono ?_; rintro e w' ⟨rfl, rfl⟩) | (go_at_call 58; refine HN.out.mono ?_; rintro e w' ⟨rfl, rfl⟩))
        exact bodyPost_ret (v := tkV 0 ⟨#[]⟩ 0 0 0) (by simp [results, Tryz.results28, go_sem]) rfl ⟨rfl, (Q.refl _).alloc _⟩

theorem find_twos (l : List UInt8) : ∀ L : List (List UInt8), (∀ x ∈ L, ∃ a b, x = [a, b]) → L.find? (fun x => x.isPrefixOf l) = if L.contains (l.take 2) then some (l.take 2) else none := by
  intro L
  induction L with
  | nil => intro _; rfl
  | cons x L ih =>
    intro h
    obtain ⟨a, b, rfl⟩ := h x (List.mem_cons_self)
    have hi := ih (fun y hy => h y (List.mem_cons_of_mem _ hy))
    rw [List.find?_cons, hi, List.contains_cons]
    cases hp : ([a, b] : List UInt8).isPrefixOf l with
    | true =>
      have := (Lx.isPrefix_two _ _ _).1 hp
      rw [this]
      simp
    | false =>
      have hne : (l.take 2 == [a, b]) = false := by
        rw [beq_eq_false_iff_ne]
        intro e
        rw [(Lx.isPrefix_two _ _ _).2 e] at hp
        cases hp
      rw [hne, Bool.false_or]
theorem find_ones (l : List UInt8) : ∀ L : List UInt8, (L.map fun c => [c]).find? (fun x => x.isPrefixOf l) = if (l.head?.map L.contains).getD false then some (l.take 1) else none := by
  intro L
  induction L with
  | nil => cases l <;> rfl
  | cons x L ih =>
    rw [List.map_cons, List.find?_cons, ih]
    cases l with
    | nil => rfl
    | cons c l =>
      simp only [List.isPrefixOf, List.head?_cons, Option.map_some, Option.getD_some, List.contains_cons, Bool.and_true, List.take_succ_cons, List.take_zero]
      cases hx : x == c with
      | true =>
        simp at hx
        subst hx
        simp
      | false =>
        have : (c == x) = false := by rw [BEq.comm]; exact hx
        rw [this, Bool.false_or]
        rfl
def signX (x : List UInt8) : Lx.Tk := ⟨4, x, 0, 0⟩
theorem signT_find (l : List UInt8) : Lx.signT l = (signs.find? (fun x => x.isPrefixOf l)).map signX := by
  unfold signs Lx.signT
  rw [List.find?_append, find_twos l Lx.twos (by simp [Lx.twos]), find_ones]
  split
  · rfl
  · split <;> rfl
theorem signs_len : signs.length = 32 := rfl

set_option maxHeartbeats 400000 in
theorem sign_any (s : ByteArray) (w : World) (hL : Laid w) :
    Calls Tryz.prog 30 #[.string s] w fun e w' => e = .returned (optV (Lx.signT (bl s))) ∧ Q w w' := by
  obtain ⟨t, fr, hw⟩ := (hL.keep ((Q.refl w).alloc (.cells #[.int .u8 0, .string ⟨#[]⟩, .int .i64 0, .int .u8 0, .int .i64 0] 58))).signs
  have HW := hideIt hw
  clear hw hL
  rw [signT_find]
  have e0 : signs.find? (fun x => x.isPrefixOf (bl s)) = (signs.drop 0).find? (fun x => x.isPrefixOf (bl s)) := rfl
  obtain ⟨R, hR⟩ : ∃ R, signs.find? (fun x => x.isPrefixOf (bl s)) = R := ⟨_, rfl⟩
  rw [hR]
  rw [hR] at e0
  have H0 := hideIt e0
  clear e0 hR
  go_enter Tryz.func30, Tryz.ntmps30
  go_wp2_with (refine wpList_load_row rfl 87 _ rfl 1 rfl _ _ _ _ HW.out Tryz.underlying87 rfl (by kernel_rfl) ?_)
  go_loop [6] (fun i => ∃ k : Nat, k ≤ 32 ∧ i = .int .i64 k ∧ Hid (R = (signs.drop k).find? (fun x => x.isPrefixOf (bl s)))) (fun i => 32 - (intOf i).toNat)
  case atStart => exact ⟨0, Nat.zero_le _, rfl, H0⟩
  case round =>
    obtain ⟨k, hk, rfl, HR⟩ := hrel
    clear H0
    by_cases hlt : k < 32
    · have hki : (k : Int) < 32 := by omega
      have hix := fun w => idx32 k hlt w
      have hdr := drop_getD (l := signs) (k := k) hlt
      obtain ⟨x, hx⟩ : ∃ x, signs.getD k [] = x := ⟨_, rfl⟩
      rw [hx] at hix hdr
      have HP := hideIt (fun w => hasPrefix_any s ⟨x.toArray⟩ w)
      rw [bl_mk] at HP
      cases hb : x.isPrefixOf (bl s) with
      | true =>
        rw [hb] at HP
        have HN : Hid (R = some x) := by
          have := HR.out
          rw [hdr, List.find?_cons, hb] at this
          exact this
        clear hb hx hdr HR
        go_wp2_with (go_at_call 53; refine (HP.out _).mono ?_; rintro e w' ⟨rfl, rfl⟩)
        rw [HN.out]
        exact bodyPost_ret (v := tkV 4 ⟨x.toArray⟩ 0 0 0) (by simp [results, Tryz.results30, go_sem]) rfl ⟨rfl, (Q.refl _).alloc _⟩
      | false =>
        rw [hb] at HP
        have HN : Hid (R = (signs.drop (k + 1)).find? (fun x => x.isPrefixOf (bl s))) := by
          have := HR.out
          rw [hdr, List.find?_cons, hb] at this
          exact this
        clear hb hx hdr HR
        go_wp2_with (go_at_call 53; refine (HP.out _).mono ?_; rintro e w' ⟨rfl, rfl⟩)
        go_round
        case rel => exact ⟨k + 1, by omega, by go_num, HN⟩
        case measure => simp [intOf]; omega
    · have e : k = 32 := by omega
      subst e
      have HN : Hid (R = none) := HR.out
      clear HR
      go_wp2_with (fail)
      rw [HN.out]
      exact bodyPost_ret (v := tkV 0 ⟨#[]⟩ 0 0 0) (by simp [results, Tryz.results30, go_sem]) rfl ⟨rfl, (Q.refl _).alloc _⟩
end Go.Proofs.YtoilhcklflmamaaGreatDoor

namespace Go.Proofs.YtoilhcklflmamaaGreatDoor
open Go.RowKit
set_option linter.unusedVariables false

/-- The world behind the making of an empty token. -/
abbrev tokd (w : World) : World := w.alloc (.cells #[.int .u8 0, .string ⟨#[]⟩, .int .i64 0, .int .u8 0, .int .i64 0] 58)
theorem tokd_q (w : World) : Q w (tokd w) := (Q.refl _).alloc _
theorem tok_cells {w x : World} (q : Q (tokd w) x) : x.cell? ⟨w.heap.size, 0, none⟩ = some (.int .u8 0) ∧ x.cell? ⟨w.heap.size, 1, none⟩ = some (.string ⟨#[]⟩) ∧ x.cell? ⟨w.heap.size, 2, none⟩ = some (.int .i64 0) ∧ x.cell? ⟨w.heap.size, 3, none⟩ = some (.int .u8 0) ∧ x.cell? ⟨w.heap.size, 4, none⟩ = some (.int .i64 0) ∧ x.frozen? ⟨w.heap.size, 0, none⟩ = false ∧ x.frozen? ⟨w.heap.size, 1, none⟩ = false ∧ x.frozen? ⟨w.heap.size, 2, none⟩ = false ∧ x.frozen? ⟨w.heap.size, 3, none⟩ = false ∧ x.frozen? ⟨w.heap.size, 4, none⟩ = false := by
  have h : x.heap[w.heap.size]? = some (.cells #[.int .u8 0, .string ⟨#[]⟩, .int .i64 0, .int .u8 0, .int .i64 0] 58 (0, 0)) := (q.block _ (by simp)).trans (heap_alloc_new w _)
  have hc : ∀ j, x.cell? ⟨w.heap.size, j, none⟩ = (#[.int .u8 0, .string ⟨#[]⟩, .int .i64 0, .int .u8 0, .int .i64 0] : Array Value)[j]? := fun j => by simp [World.cell?, h]
  have hf : ∀ j, x.frozen? ⟨w.heap.size, j, none⟩ = false := fun j => by simp [World.frozen?, h]
  exact ⟨hc 0, hc 1, hc 2, hc 3, hc 4, hf 0, hf 1, hf 2, hf 3, hf 4⟩

theorem digs_all (l : List UInt8) : ∀ c ∈ l.take (Lx.digN l), Lx.digit c = true := by
  intro c hc
  rw [Lx.take_dig] at hc
  induction l with
  | nil => simp at hc
  | cons d l ih =>
    by_cases h : Lx.digit d = true
    · simp [h] at hc
      rcases hc with rfl | hc
      · exact h
      · exact ih hc
    · simp [h] at hc

theorem fits_six (v : Int) : Lx.fits 6 v = false := by simp [Lx.fits]

set_option maxHeartbeats 1000000 in
set_option maxRecDepth 100000 in
theorem number_any (s : ByteArray) (w : World) (hs : s.size ≤ 65536) (hL : Laid w) :
    Calls Tryz.prog 29 #[.string s] w fun e w' => e = .returned (optV (Lx.numberT (bl s))) ∧ Q w w' := by
  have HC0 := hideIt (cut_any s (tokd w))
  have hbl := Lx.body_len (bl s)
  rw [bl_len] at hbl
  -- the body, by the contract of CutPrefix: it is the one text with those bytes
  obtain ⟨b, hb⟩ : ∃ b : ByteArray, bl b = Lx.body (bl s) := ⟨⟨(Lx.body (bl s)).toArray⟩, bl_mk _⟩
  have HC : Hid (Calls Tryz.prog 59 #[.string s, .string ⟨#[35, 45]⟩] (tokd w) fun e w' => e = .returned (.tuple #[.string b, .bool (Lx.minusB (bl s))]) ∧ w' = tokd w) := by
    refine HC0.out.mono ?_
    rintro e w' ⟨⟨b', h1, rfl⟩, rfl⟩
    rw [bl_inj (h1.trans hb.symm)]
    exact ⟨rfl, rfl⟩
  have hbs : b.size ≤ s.size := by rw [← bl_len b, hb]; exact hbl
  have HD := hideIt (fun w => digits_any b w (by omega))
  have hd1 := Lx.digN_le (bl b)
  rw [bl_len] at hd1
  have en : Lx.numberT (bl s) = if Lx.numOk (Lx.minusB (bl s)) (bl b) then some ⟨3, (bl s).take (s.size - b.size + (Lx.digN (bl b) + Lx.runN ((bl b).drop (Lx.digN (bl b))))), Lx.numV (Lx.minusB (bl s)) (bl b), Lx.intT (Lx.tail (bl b))⟩ else none := by
    unfold Lx.numberT
    rw [← hb, bl_len, bl_len]
  rw [en]
  clear en HC0 hbl
  have hE := extract_take b (Lx.digN (bl b))
  have HV0 : Lx.digN (bl b) ≤ 10 → Hid (∀ w, Calls Tryz.prog 62 #[.string (b.extract 0 (Lx.digN (bl b)))] w fun e w' => e = .returned (.int .i64 (Lx.val ((bl b).take (Lx.digN (bl b))))) ∧ w' = w) := by
    intro h w
    have := value_any (b.extract 0 (Lx.digN (bl b))) w (by rw [← bl_len, bl_extract]; simp; omega) (by rw [bl_extract]; simpa using digs_all (bl b))
    rw [bl_extract] at this
    simpa using this
  have hvb : Lx.digN (bl b) ≤ 10 → 0 ≤ Lx.val ((bl b).take (Lx.digN (bl b))) ∧ Lx.val ((bl b).take (Lx.digN (bl b))) < 100000000000 := fun h => val_bd _ (digs_all _) (by rw [List.length_take]; omega)
  have ed : Lx.digsOk (bl b) = (decide (1 ≤ Lx.digN (bl b)) && decide (Lx.digN (bl b) ≤ 10) && !(decide (1 < Lx.digN (bl b)) && decide ((bl b).head? = some 48))) := rfl
  have er := bl_from b (Lx.digN (bl b))
  have HRN0 := hideIt (fun w => run_any (b.extract (Lx.digN (bl b)) b.size) w (by rw [← bl_len, er, List.length_drop, bl_len]; omega))
  rw [er] at HRN0
  have hrl := Lx.runN_le ((bl b).drop (Lx.digN (bl b)))
  rw [List.length_drop, bl_len] at hrl
  have et : bl (b.extract (Lx.digN (bl b)) (Lx.digN (bl b) + Lx.runN ((bl b).drop (Lx.digN (bl b))))) = Lx.tail (bl b) := by
    rw [bl_extract]
    unfold Lx.tail
    rw [Nat.add_sub_cancel_left]
  have HI0 := hideIt (int_any (b.extract (Lx.digN (bl b)) (Lx.digN (bl b) + Lx.runN ((bl b).drop (Lx.digN (bl b))))) (tokd w) (hL.keep (tokd_q w)))
  rw [et] at HI0
  have eno : ∀ m, Lx.numOk m (bl b) = (Lx.digsOk (bl b) && !(m && decide (Lx.val ((bl b).take (Lx.digN (bl b))) = 0)) && Lx.fits (Lx.intT (Lx.tail (bl b))) (if m then - Lx.val ((bl b).take (Lx.digN (bl b))) else Lx.val ((bl b).take (Lx.digN (bl b))))) := fun m => rfl
  have env : ∀ m, Lx.numV m (bl b) = if m then - Lx.val ((bl b).take (Lx.digN (bl b))) else Lx.val ((bl b).take (Lx.digN (bl b))) := fun m => rfl
  rw [eno, env, ed]
  have hit := intT_le (Lx.tail (bl b))
  unfold intV intB at HI0
  have hh : ∀ h : 0 < b.size, decide ((bl b).head? = some 48) = ((b[0].toNat : Int) == 48) := by
    intro h
    have := bl_at b 0 h
    simp only [List.drop_zero] at this
    rw [this, List.head?_cons, Bool.eq_iff_iff]
    simp only [Option.some.injEq, decide_eq_true_eq, beq_iff_eq]
    constructor
    · intro e; rw [e]; rfl
    · intro e; exact UInt8.toNat_inj.1 (by show b[0].toNat = 48; omega)
  generalize Lx.val ((bl b).take (Lx.digN (bl b))) = v at *
  generalize Lx.intT (Lx.tail (bl b)) = t at *
  generalize Lx.runN ((bl b).drop (Lx.digN (bl b))) = r at *
  generalize Lx.digN (bl b) = d at *
  generalize Lx.minusB (bl s) = m at *
  have HT := hideIt (extract_take s (s.size - b.size + (d + r)))
  clear ed er et eno env hE
  have hdi : (0 : Int) ≤ (d : Int) := by omega
  by_cases h1 : 1 ≤ d
  · have g1 : decide ((d : Int) < 1) = false := by simp; omega
    rw [decide_eq_true h1]
    by_cases h10 : d ≤ 10
    · have g10 : decide ((10 : Int) < (d : Int)) = false := by simp; omega
      rw [decide_eq_true h10]
      have HV := HV0 h10
      have hvb := hvb h10
      have HRN := HRN0
      have hz : (0 : Int) < (b.size : Int) := by omega
      have hh' := hh (by omega)
      rw [hh']
      generalize hzz : ((b[0].toNat : Int) == 48) = z at *
      have two : (1 < d ∧ z = true) ∨ ((1 < d ∧ z = false) ∨ ¬ 1 < d) := by
        cases z <;> by_cases h : 1 < d <;> simp [h]
      rcases two with ⟨hone, rfl⟩ | two
      · have gone : decide ((1 : Int) < (d : Int)) = true := by simp; omega
        rw [decide_eq_true hone, if_neg (by simp)]
        clear HV0 HRN0 HI0 hh HT
        go_enter Tryz.func29, Tryz.ntmps29
        go_wp2_with (first | (go_at_call 59; refine HC.out.mono ?_; rintro e w' ⟨rfl, rfl⟩) | (go_at_call 60; refine (HD.out _).mono ?_; rintro e w' ⟨rfl, rfl⟩) | (go_at_call 56; refine (HRN.out _).mono ?_; rintro e w' ⟨rfl, rfl⟩) | (go_at_call 61; refine HI.out.mono ?_; rintro e w' ⟨rfl, rfl⟩) | (go_at_call 62; refine (HV.out _).mono ?_; rintro e w' ⟨rfl, rfl⟩) | (go_at_call 63; refine (HF.out _).mono ?_; rintro e x ⟨rfl, q⟩; obtain ⟨c0, c1, c2, c3, c4, z0, z1, z2, z3, z4⟩ := tok_cells q; have HQ := hideIt q; clear q))
        exact bodyPost_ret (v := tkV 0 ⟨#[]⟩ 0 0 0) (by simp [results, Tryz.results29, go_sem]) rfl ⟨rfl, (Q.refl _).alloc _⟩
      · have hok : (true && true && !(decide (1 < d) && z)) = true := by
          rcases two with ⟨h, rfl⟩ | h
          · rw [decide_eq_true h]; rfl
          · rw [decide_eq_false h]; rfl
        rw [hok, Bool.true_and]
        have gone : (decide ((1 : Int) < (d : Int)) = true ∧ ((b[0].toNat : Int) == 48) = false) ∨ decide ((1 : Int) < (d : Int)) = false := by
          rcases two with ⟨h, rfl⟩ | h
          · left; exact ⟨by simp; omega, hzz⟩
          · right; simp; omega
        have hdr : d + r ≤ b.size := by omega
        have hdri : (d : Int) + (r : Int) ≤ (b.size : Int) := by omega
        clear hok two hh hh' hzz HV0 HRN0 z
        by_cases ht : t < 6
        · rw [if_pos ht, decide_eq_true ht] at HI0
          have HI := HI0
          clear HI0
          cases m with
          | false =>
            have HF := hideIt (fun w => fits_any t v w ht)
            simp only [Bool.false_and, Bool.not_false, Bool.true_and, Bool.false_eq_true, if_false]
            generalize Lx.fits t v = f at *
            cases f with
            | true =>
              rw [if_pos rfl]
              rcases gone with ⟨g2, g3⟩ | g2
              all_goals
                go_enter Tryz.func29, Tryz.ntmps29
                go_wp2_with (first | (go_at_call 59; refine HC.out.mono ?_; rintro e w' ⟨rfl, rfl⟩) | (go_at_call 60; refine (HD.out _).mono ?_; rintro e w' ⟨rfl, rfl⟩) | (go_at_call 56; refine (HRN.out _).mono ?_; rintro e w' ⟨rfl, rfl⟩) | (go_at_call 61; refine HI.out.mono ?_; rintro e w' ⟨rfl, rfl⟩) | (go_at_call 62; refine (HV.out _).mono ?_; rintro e w' ⟨rfl, rfl⟩) | (go_at_call 63; refine (HF.out _).mono ?_; rintro e x ⟨rfl, q⟩; obtain ⟨c0, c1, c2, c3, c4, z0, z1, z2, z3, z4⟩ := tok_cells q; have HQ := hideIt q; clear q))
                refine bodyPost_ret (v := tkV 3 ⟨((bl s).take (s.size - b.size + (d + r))).toArray⟩ v t 0) (by simp [results, Tryz.results29, go_sem, *]; exact HT.out) rfl ⟨rfl, ?_⟩
                repeat (refine Below.setCell ?_ (by simp) _)
                exact (tokd_q w).trans HQ.out
            | false =>
              rw [if_neg (by decide)]
              rcases gone with ⟨g2, g3⟩ | g2
              all_goals
                go_enter Tryz.func29, Tryz.ntmps29
                go_wp2_with (first | (go_at_call 59; refine HC.out.mono ?_; rintro e w' ⟨rfl, rfl⟩) | (go_at_call 60; refine (HD.out _).mono ?_; rintro e w' ⟨rfl, rfl⟩) | (go_at_call 56; refine (HRN.out _).mono ?_; rintro e w' ⟨rfl, rfl⟩) | (go_at_call 61; refine HI.out.mono ?_; rintro e w' ⟨rfl, rfl⟩) | (go_at_call 62; refine (HV.out _).mono ?_; rintro e w' ⟨rfl, rfl⟩) | (go_at_call 63; refine (HF.out _).mono ?_; rintro e x ⟨rfl, q⟩; obtain ⟨c0, c1, c2, c3, c4, z0, z1, z2, z3, z4⟩ := tok_cells q; have HQ := hideIt q; clear q))
                refine bodyPost_ret (v := tkV 0 ⟨#[]⟩ 0 0 0) (by simp [results, Tryz.results29, go_sem, *]) rfl ⟨rfl, ?_⟩
                repeat (refine Below.setCell ?_ (by simp) _)
                exact (tokd_q w).trans HQ.out
          | true =>
            simp only [Bool.true_and, if_true]
            by_cases hv0 : v = 0
            · have gv : (v != 0) = false := by simp [hv0]
              rw [decide_eq_true hv0]
              simp only [Bool.not_true, Bool.false_and]
              rw [if_neg (by decide)]
              clear hv0
              rcases gone with ⟨g2, g3⟩ | g2
              all_goals
                go_enter Tryz.func29, Tryz.ntmps29
                go_wp2_with (first | (go_at_call 59; refine HC.out.mono ?_; rintro e w' ⟨rfl, rfl⟩) | (go_at_call 60; refine (HD.out _).mono ?_; rintro e w' ⟨rfl, rfl⟩) | (go_at_call 56; refine (HRN.out _).mono ?_; rintro e w' ⟨rfl, rfl⟩) | (go_at_call 61; refine HI.out.mono ?_; rintro e w' ⟨rfl, rfl⟩) | (go_at_call 62; refine (HV.out _).mono ?_; rintro e w' ⟨rfl, rfl⟩) | (go_at_call 63; refine (HF.out _).mono ?_; rintro e x ⟨rfl, q⟩; obtain ⟨c0, c1, c2, c3, c4, z0, z1, z2, z3, z4⟩ := tok_cells q; have HQ := hideIt q; clear q))
                exact bodyPost_ret (v := tkV 0 ⟨#[]⟩ 0 0 0) (by simp [results, Tryz.results29, go_sem]) rfl ⟨rfl, (Q.refl _).alloc _⟩
            · have gv : (v != 0) = true := by simp [hv0]
              rw [decide_eq_false hv0]
              simp only [Bool.not_false, Bool.true_and]
              have HF := hideIt (fun w => fits_any t (-v) w ht)
              generalize Lx.fits t (-v) = f at *
              clear hv0
              cases f with
              | true =>
                rw [if_pos rfl]
                rcases gone with ⟨g2, g3⟩ | g2
                all_goals
                  go_enter Tryz.func29, Tryz.ntmps29
                  go_wp2_with (first | (go_at_call 59; refine HC.out.mono ?_; rintro e w' ⟨rfl, rfl⟩) | (go_at_call 60; refine (HD.out _).mono ?_; rintro e w' ⟨rfl, rfl⟩) | (go_at_call 56; refine (HRN.out _).mono ?_; rintro e w' ⟨rfl, rfl⟩) | (go_at_call 61; refine HI.out.mono ?_; rintro e w' ⟨rfl, rfl⟩) | (go_at_call 62; refine (HV.out _).mono ?_; rintro e w' ⟨rfl, rfl⟩) | (go_at_call 63; refine (HF.out _).mono ?_; rintro e x ⟨rfl, q⟩; obtain ⟨c0, c1, c2, c3, c4, z0, z1, z2, z3, z4⟩ := tok_cells q; have HQ := hideIt q; clear q))
                  refine bodyPost_ret (v := tkV 3 ⟨((bl s).take (s.size - b.size + (d + r))).toArray⟩ (-v) t 0) (by simp [results, Tryz.results29, go_sem, *]; exact HT.out) rfl ⟨rfl, ?_⟩
                  repeat (refine Below.setCell ?_ (by simp) _)
                  exact (tokd_q w).trans HQ.out
              | false =>
                rw [if_neg (by decide)]
                rcases gone with ⟨g2, g3⟩ | g2
                all_goals
                  go_enter Tryz.func29, Tryz.ntmps29
                  go_wp2_with (first | (go_at_call 59; refine HC.out.mono ?_; rintro e w' ⟨rfl, rfl⟩) | (go_at_call 60; refine (HD.out _).mono ?_; rintro e w' ⟨rfl, rfl⟩) | (go_at_call 56; refine (HRN.out _).mono ?_; rintro e w' ⟨rfl, rfl⟩) | (go_at_call 61; refine HI.out.mono ?_; rintro e w' ⟨rfl, rfl⟩) | (go_at_call 62; refine (HV.out _).mono ?_; rintro e w' ⟨rfl, rfl⟩) | (go_at_call 63; refine (HF.out _).mono ?_; rintro e x ⟨rfl, q⟩; obtain ⟨c0, c1, c2, c3, c4, z0, z1, z2, z3, z4⟩ := tok_cells q; have HQ := hideIt q; clear q))
                  refine bodyPost_ret (v := tkV 0 ⟨#[]⟩ 0 0 0) (by simp [results, Tryz.results29, go_sem, *]) rfl ⟨rfl, ?_⟩
                  repeat (refine Below.setCell ?_ (by simp) _)
                  exact (tokd_q w).trans HQ.out
        · have e6 : t = 6 := by omega
          subst e6
          rw [if_neg (by decide), decide_eq_false (by decide)] at HI0
          have HI := HI0
          clear HI0
          rw [fits_six, Bool.and_false, if_neg (by decide)]
          cases m with
          | false =>
            rcases gone with ⟨g2, g3⟩ | g2
            all_goals
              go_enter Tryz.func29, Tryz.ntmps29
              go_wp2_with (first | (go_at_call 59; refine HC.out.mono ?_; rintro e w' ⟨rfl, rfl⟩) | (go_at_call 60; refine (HD.out _).mono ?_; rintro e w' ⟨rfl, rfl⟩) | (go_at_call 56; refine (HRN.out _).mono ?_; rintro e w' ⟨rfl, rfl⟩) | (go_at_call 61; refine HI.out.mono ?_; rintro e w' ⟨rfl, rfl⟩) | (go_at_call 62; refine (HV.out _).mono ?_; rintro e w' ⟨rfl, rfl⟩) | (go_at_call 63; refine (HF.out _).mono ?_; rintro e x ⟨rfl, q⟩; obtain ⟨c0, c1, c2, c3, c4, z0, z1, z2, z3, z4⟩ := tok_cells q; have HQ := hideIt q; clear q))
              exact bodyPost_ret (v := tkV 0 ⟨#[]⟩ 0 0 0) (by simp [results, Tryz.results29, go_sem]) rfl ⟨rfl, (Q.refl _).alloc _⟩
          | true =>
            rcases gone with ⟨g2, g3⟩ | g2
            all_goals
              go_enter Tryz.func29, Tryz.ntmps29
              go_wp2_with (first | (go_at_call 59; refine HC.out.mono ?_; rintro e w' ⟨rfl, rfl⟩) | (go_at_call 60; refine (HD.out _).mono ?_; rintro e w' ⟨rfl, rfl⟩) | (go_at_call 56; refine (HRN.out _).mono ?_; rintro e w' ⟨rfl, rfl⟩) | (go_at_call 61; refine HI.out.mono ?_; rintro e w' ⟨rfl, rfl⟩) | (go_at_call 62; refine (HV.out _).mono ?_; rintro e w' ⟨rfl, rfl⟩) | (go_at_call 63; refine (HF.out _).mono ?_; rintro e x ⟨rfl, q⟩; obtain ⟨c0, c1, c2, c3, c4, z0, z1, z2, z3, z4⟩ := tok_cells q; have HQ := hideIt q; clear q))
              exact bodyPost_ret (v := tkV 0 ⟨#[]⟩ 0 0 0) (by simp [results, Tryz.results29, go_sem]) rfl ⟨rfl, (Q.refl _).alloc _⟩
    · have g10 : decide ((10 : Int) < (d : Int)) = true := by simp; omega
      rw [decide_eq_false h10]
      rw [if_neg (by simp)]
      clear HV0 hvb HRN0 HI0 hh HT
      go_enter Tryz.func29, Tryz.ntmps29
      go_wp2_with (first | (go_at_call 59; refine HC.out.mono ?_; rintro e w' ⟨rfl, rfl⟩) | (go_at_call 60; refine (HD.out _).mono ?_; rintro e w' ⟨rfl, rfl⟩) | (go_at_call 56; refine (HRN.out _).mono ?_; rintro e w' ⟨rfl, rfl⟩) | (go_at_call 61; refine HI.out.mono ?_; rintro e w' ⟨rfl, rfl⟩) | (go_at_call 62; refine (HV.out _).mono ?_; rintro e w' ⟨rfl, rfl⟩) | (go_at_call 63; refine (HF.out _).mono ?_; rintro e x ⟨rfl, q⟩; obtain ⟨c0, c1, c2, c3, c4, z0, z1, z2, z3, z4⟩ := tok_cells q; have HQ := hideIt q; clear q))
      exact bodyPost_ret (v := tkV 0 ⟨#[]⟩ 0 0 0) (by simp [results, Tryz.results29, go_sem]) rfl ⟨rfl, (Q.refl _).alloc _⟩
  · have g1 : decide ((d : Int) < 1) = true := by simp; omega
    rw [decide_eq_false h1]
    rw [if_neg (by simp)]
    clear HV0 hvb HRN0 HI0 hh HT
    go_enter Tryz.func29, Tryz.ntmps29
    go_wp2_with (first | (go_at_call 59; refine HC.out.mono ?_; rintro e w' ⟨rfl, rfl⟩) | (go_at_call 60; refine (HD.out _).mono ?_; rintro e w' ⟨rfl, rfl⟩) | (go_at_call 56; refine (HRN.out _).mono ?_; rintro e w' ⟨rfl, rfl⟩) | (go_at_call 61; refine HI.out.mono ?_; rintro e w' ⟨rfl, rfl⟩) | (go_at_call 62; refine (HV.out _).mono ?_; rintro e w' ⟨rfl, rfl⟩) | (go_at_call 63; refine (HF.out _).mono ?_; rintro e x ⟨rfl, q⟩; obtain ⟨c0, c1, c2, c3, c4, z0, z1, z2, z3, z4⟩ := tok_cells q; have HQ := hideIt q; clear q))
    exact bodyPost_ret (v := tkV 0 ⟨#[]⟩ 0 0 0) (by simp [results, Tryz.results29, go_sem]) rfl ⟨rfl, (Q.refl _).alloc _⟩
end Go.Proofs.YtoilhcklflmamaaGreatDoor
