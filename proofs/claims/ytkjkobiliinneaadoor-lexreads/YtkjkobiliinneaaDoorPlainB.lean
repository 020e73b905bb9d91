/-
  Plain facts on how tokens depend on what stands behind them: a blank behind a token changes nothing; texts joined by a new line; blanks ahead of each token; what stands between tokens; no program.
-/
import Derived.Test.YtkjkobiliinneaaDoorPlainA
namespace Go.Proofs.YtkjkobiliinneaaDoor
set_option linter.unusedVariables false
namespace Lx

theorem isPrefix_two (a b : UInt8) (l : List UInt8) : ([a, b] : List UInt8).isPrefixOf l = true ↔ l.take 2 = [a, b] := by
  cases l with
  | nil => simp [List.isPrefixOf]
  | cons c l =>
    cases l with
    | nil => simp [List.isPrefixOf]
    | cons d l => simp [List.isPrefixOf]; constructor <;> (rintro ⟨rfl, rfl⟩; exact ⟨rfl, rfl⟩)

/-- A pair of which neither is a blank is not made by a blank behind. -/
theorem isPrefix_stop (a b d : UInt8) (l r : List UInt8) (h : d ≠ b) (h' : d ≠ a) : ([a, b] : List UInt8).isPrefixOf (l ++ d :: r) = ([a, b] : List UInt8).isPrefixOf l := by
  cases l with
  | nil => simp [List.isPrefixOf, Ne.symm h']
  | cons c l =>
    cases l with
    | nil => simp [List.isPrefixOf, Ne.symm h]
    | cons e l => simp [List.isPrefixOf]

theorem blank_ne {d : UInt8} (h : blankC d = true) (b : UInt8) (hb : blankC b = false) : d ≠ b := by
  rintro rfl; rw [h] at hb; cases hb

theorem minusB_stop (l r : List UInt8) (d : UInt8) (h : blankC d = true) : minusB (l ++ d :: r) = minusB l :=
  isPrefix_stop _ _ _ _ _ (blank_ne h _ (by decide)) (blank_ne h _ (by decide))
theorem remarkB_stop (l r : List UInt8) (d : UInt8) (h : blankC d = true) : remarkB (l ++ d :: r) = remarkB l :=
  isPrefix_stop _ _ _ _ _ (blank_ne h _ (by decide)) (blank_ne h _ (by decide))
theorem minusB_two {l : List UInt8} (h : minusB l = true) : 2 ≤ l.length := by
  have := (isPrefix_two _ _ _).1 h
  have e := congrArg List.length this
  rw [List.length_take] at e
  simp at e
  omega
theorem body_stop (l r : List UInt8) (d : UInt8) (h : blankC d = true) : body (l ++ d :: r) = body l ++ d :: r := by
  unfold body
  rw [minusB_stop l r d h]
  split
  · rename_i hm
    rw [List.drop_append_of_le_length (minusB_two hm)]
  · rfl
theorem drop_dig_stop (b r : List UInt8) (d : UInt8) (h : blankC d = true) : (b ++ d :: r).drop (digN (b ++ d :: r)) = b.drop (digN b) ++ d :: r := by
  rw [digN_stop b r d h, List.drop_append_of_le_length (digN_le b)]
theorem tail_stop (b r : List UInt8) (d : UInt8) (h : blankC d = true) : tail (b ++ d :: r) = tail b := by
  unfold tail
  rw [drop_dig_stop b r d h, runN_stop _ _ _ h, List.take_append_of_le_length (runN_le _)]
theorem digs_stop (b r : List UInt8) (d : UInt8) (h : blankC d = true) : (b ++ d :: r).take (digN (b ++ d :: r)) = b.take (digN b) := by
  rw [digN_stop b r d h, List.take_append_of_le_length (digN_le b)]
theorem digsOk_stop (b r : List UInt8) (d : UInt8) (h : blankC d = true) : digsOk (b ++ d :: r) = digsOk b := by
  unfold digsOk
  rw [digN_stop b r d h]
  cases b with
  | nil => simp [digN]
  | cons c b => simp
theorem numV_stop (m : Bool) (b r : List UInt8) (d : UInt8) (h : blankC d = true) : numV m (b ++ d :: r) = numV m b := by
  unfold numV; rw [digs_stop b r d h]
theorem numOk_stop (m : Bool) (b r : List UInt8) (d : UInt8) (h : blankC d = true) : numOk m (b ++ d :: r) = numOk m b := by
  unfold numOk; rw [digs_stop b r d h, digsOk_stop b r d h, tail_stop b r d h, numV_stop m b r d h]
theorem body_len (l : List UInt8) : (body l).length ≤ l.length := by
  unfold body; split <;> first | exact Nat.le_refl _ | (rw [List.length_drop]; omega)
theorem numberT_stop (l r : List UInt8) (d : UInt8) (h : blankC d = true) : numberT (l ++ d :: r) = numberT l := by
  unfold numberT
  rw [minusB_stop l r d h, body_stop l r d h, numOk_stop _ _ _ _ h, numV_stop _ _ _ _ h, tail_stop _ _ _ h, drop_dig_stop _ _ _ h, runN_stop _ _ _ h, digN_stop _ _ _ h]
  have h1 := body_len l
  have h2 := runN_le ((body l).drop (digN (body l)))
  have h3 := digN_le (body l)
  rw [List.length_drop] at h2
  have e : (l ++ d :: r).length - (body l ++ d :: r).length = l.length - (body l).length := by simp only [List.length_append]; omega
  rw [e, List.take_append_of_le_length (by omega)]
theorem take2_blank (c d : UInt8) (h : blankC d = true) : twos.contains [c, d] = false := by
  have hd : ∀ b : UInt8, blankC b = false → ¬ d = b := fun b hb => blank_ne h b hb
  simp [twos, hd 60 (by decide), hd 62 (by decide), hd 61 (by decide), hd 38 (by decide), hd 124 (by decide)]
theorem signT_stop (l r : List UInt8) (d : UInt8) (hl : l ≠ []) (h : blankC d = true) : signT (l ++ d :: r) = signT l := by
  cases l with
  | nil => exact absurd rfl hl
  | cons c l =>
    cases l with
    | nil =>
      have e1 : ([c] ++ d :: r).take 2 = [c, d] := rfl
      have e2 : ([c] : List UInt8).take 2 = [c] := rfl
      unfold signT
      rw [e1, e2, take2_blank c d h]
      simp [twos]
    | cons b l =>
      unfold signT
      simp
theorem lettersT_stop (l r : List UInt8) (d : UInt8) (hl : l ≠ []) (h : blankC d = true) : lettersT (l ++ d :: r) = lettersT l := by
  unfold lettersT
  rw [runN_stop l r d h, List.take_append_of_le_length (runN_le l)]
  cases l with
  | nil => exact absurd rfl hl
  | cons c l => rfl
theorem tok_stop (l r : List UInt8) (d : UInt8) (hl : l ≠ []) (h : blankC d = true) : tok (l ++ d :: r) = tok l := by
  cases l with
  | nil => exact absurd rfl hl
  | cons c l =>
    have e1 := lettersT_stop (c :: l) r d hl h
    have e2 := numberT_stop (c :: l) r d h
    have e3 := signT_stop (c :: l) r d hl h
    rw [List.cons_append] at e1 e2 e3 ⊢
    unfold tok
    simp only
    rw [e1, e2, e3]
theorem lineN_stop (l r : List UInt8) : lineN (l ++ 10 :: r) = lineN l := by
  unfold lineN
  rw [takeWhile_stop _ _ _ _ (by decide)]
/-- A new line behind a text changes no blank of it. -/
theorem blankN_line (l r : List UInt8) (hl : l ≠ []) : blankN (l ++ 10 :: r) = blankN l := by
  unfold blankN
  rw [remarkB_stop l r 10 (by decide), lineN_stop]
  cases l with
  | nil => exact absurd rfl hl
  | cons c l => rfl
/-- Where no blank stands, none stands with a blank behind. -/
theorem blankN_zero {l : List UInt8} (r : List UInt8) (d : UInt8) (hl : l ≠ []) (h : blankC d = true) (h0 : blankN l = 0) : blankN (l ++ d :: r) = 0 := by
  unfold blankN at h0 ⊢
  rw [remarkB_stop l r d h]
  cases l with
  | nil => exact absurd rfl hl
  | cons c l =>
    split at h0
    · rename_i hr
      exfalso
      have := (isPrefix_two _ _ _).1 hr
      have hc : c = 47 := by cases l <;> simp at this; exact this.1
      subst hc
      simp [lineN] at h0
    · rename_i hr
      rw [if_neg hr]
      exact h0

/-! ### Two texts with a new line between -/
theorem lex_line (at_ : Nat) (r : List UInt8) : lex at_ (10 :: r) = lex (at_ + 1) r := by
  have hb : blankN (10 :: r) = 1 := by
    unfold blankN
    rw [if_neg (by simp [remarkB, List.isPrefixOf])]
    rfl
  rw [lex_blank _ _ (by rw [hb]; decide), hb]
  rfl

theorem lex_join (r : List UInt8) : ∀ (k : Nat) (l : List UInt8), l.length ≤ k → ∀ at_ : Nat,
    ((lex at_ l).2 = none → lex at_ (l ++ 10 :: r) = ((lex at_ l).1 ++ (lex (at_ + l.length + 1) r).1, (lex (at_ + l.length + 1) r).2)) ∧
    (∀ p, (lex at_ l).2 = some p → lex at_ (l ++ 10 :: r) = ((lex at_ l).1, some p) ∧ at_ ≤ p ∧ p < at_ + l.length) := by
  intro k
  induction k with
  | zero =>
    intro l hk at_
    have : l = [] := List.eq_nil_of_length_eq_zero (by omega)
    subst this
    rw [lex_nil]
    exact ⟨fun _ => by rw [List.nil_append, lex_line]; rfl, fun p h => by cases h⟩
  | succ k ih =>
    intro l hk at_
    by_cases hl : l = []
    · subst hl
      rw [lex_nil]
      exact ⟨fun _ => by rw [List.nil_append, lex_line]; rfl, fun p h => by cases h⟩
    · have hl1 : 1 ≤ l.length := List.length_pos_iff.2 hl
      have hne : l ++ 10 :: r ≠ [] := by simp
      by_cases hb : blankN l = 0
      · have hb2 : blankN (l ++ 10 :: r) = 0 := by rw [blankN_line l r hl]; exact hb
        have ht2 : tok (l ++ 10 :: r) = tok l := tok_stop l r 10 hl (by decide)
        cases ht : tok l with
        | none =>
          rw [ht] at ht2
          rw [lex_none _ _ hb hl ht, lex_none _ _ hb2 hne ht2]
          refine ⟨fun h => (by cases h), fun p h => ?_⟩
          obtain rfl := Option.some.inj h
          exact ⟨rfl, Nat.le_refl _, by omega⟩
        | some t =>
          rw [ht] at ht2
          have hn := tok_len ht
          have hd : (l.drop t.text.length).length = l.length - t.text.length := List.length_drop
          obtain ⟨i1, i2⟩ := ih (l.drop t.text.length) (by omega) (at_ + t.text.length)
          have e : at_ + t.text.length + (l.drop t.text.length).length + 1 = at_ + l.length + 1 := by omega
          rw [e] at i1
          rw [lex_tok _ _ _ hb ht, lex_tok _ _ _ hb2 ht2, List.drop_append_of_le_length hn.2.2.1]
          refine ⟨fun h => ?_, fun p h => ?_⟩
          · rw [i1 h]
            rfl
          · obtain ⟨j1, j2, j3⟩ := i2 p h
            rw [j1]
            exact ⟨rfl, by omega, by omega⟩
      · have hb2 : blankN (l ++ 10 :: r) = blankN l := blankN_line l r hl
        have hle := blankN_le l
        have hd : (l.drop (blankN l)).length = l.length - blankN l := List.length_drop
        obtain ⟨i1, i2⟩ := ih (l.drop (blankN l)) (by omega) (at_ + blankN l)
        have e : at_ + blankN l + (l.drop (blankN l)).length + 1 = at_ + l.length + 1 := by omega
        rw [e] at i1
        rw [lex_blank _ _ hb, lex_blank at_ (l ++ 10 :: r) (by rw [hb2]; exact hb), hb2, List.drop_append_of_le_length hle]
        refine ⟨i1, fun p h => ?_⟩
        obtain ⟨j1, j2, j3⟩ := i2 p h
        exact ⟨j1, by omega, by omega⟩

theorem lex_fault {l : List UInt8} {at_ p : Nat} (h : (lex at_ l).2 = some p) : at_ ≤ p ∧ p < at_ + l.length := ((lex_join [] l.length l (Nat.le_refl _) at_).2 p h).2

/-! ### A place moved -/
theorem lex_moved (m : Nat) : ∀ (k : Nat) (l : List UInt8), l.length ≤ k → ∀ at_ : Nat, lex (at_ + m) l = ((lex at_ l).1.map (fun q => (q.1, q.2 + m)), (lex at_ l).2.map (· + m)) := by
  intro k
  induction k with
  | zero =>
    intro l hk at_
    have : l = [] := List.eq_nil_of_length_eq_zero (by omega)
    subst this
    simp [lex_nil]
  | succ k ih =>
    intro l hk at_
    by_cases hl : l = []
    · subst hl
      simp [lex_nil]
    · have hl1 : 1 ≤ l.length := List.length_pos_iff.2 hl
      by_cases hb : blankN l = 0
      · cases ht : tok l with
        | none => rw [lex_none _ _ hb hl ht, lex_none _ _ hb hl ht]; rfl
        | some t =>
          have hn := tok_len ht
          have hd : (l.drop t.text.length).length = l.length - t.text.length := List.length_drop
          rw [lex_tok _ _ _ hb ht, lex_tok _ _ _ hb ht, show at_ + m + t.text.length = at_ + t.text.length + m by omega, ih (l.drop t.text.length) (by omega)]
          rfl
      · have hd : (l.drop (blankN l)).length = l.length - blankN l := List.length_drop
        rw [lex_blank _ _ hb, lex_blank at_ _ hb, show at_ + m + blankN l = at_ + blankN l + m by omega, ih (l.drop (blankN l)) (by omega)]

/-! ### A token's own text is read as it -/
theorem types_alnum (l : List UInt8) (h : intT l < 6) : runN l = l.length ∧ l ∈ types := by
  have hm : l ∈ types := by
    unfold intT at h
    have := List.findIdx_lt_length.1 (show types.findIdx (· == l) < types.length from h)
    obtain ⟨x, hx, e⟩ := this
    simp at e
    subst e
    exact hx
  refine ⟨?_, hm⟩
  simp [types] at hm
  rcases hm with rfl | rfl | rfl | rfl | rfl | rfl <;> decide
theorem lettersT_own {l : List UInt8} {t : Tk} (hb : begins l = true) (h : lettersT l = some t) : t.text = l.take (runN l) ∧ lettersT t.text = some t := by
  have hb2 : begins (l.take (runN l)) = true := by
    cases l with
    | nil => simp [begins] at hb
    | cons c l =>
      simp only [begins] at hb
      have : 1 ≤ runN (c :: l) := by simp [runN, letter_alnum hb]
      obtain ⟨m, hm⟩ : ∃ m, runN (c :: l) = m + 1 := ⟨runN (c :: l) - 1, by omega⟩
      rw [hm]
      simpa [begins] using hb
  have hr : (l.take (runN l)).take (runN (l.take (runN l))) = l.take (runN l) := by rw [runN_take, List.take_take, Nat.min_self]
  have key : lettersT (l.take (runN l)) = lettersT l := by
    simp only [lettersT]
    rw [hb2, hb, hr]
  have ht : t.text = l.take (runN l) := by
    simp only [lettersT] at h
    rw [hb] at h
    simp only [if_true] at h
    split at h
    · obtain rfl := Option.some.inj h; rfl
    · split at h
      · obtain rfl := Option.some.inj h; rfl
      · cases h
  exact ⟨ht, by rw [ht, key, h]⟩

theorem takeWhile_take_more (p : UInt8 → Bool) (l : List UInt8) (n : Nat) (h : (l.takeWhile p).length ≤ n) : (l.take n).takeWhile p = l.takeWhile p := by
  induction l generalizing n with
  | nil => simp
  | cons c l ih =>
    by_cases hc : p c = true
    · simp only [List.takeWhile_cons, hc, if_true, List.length_cons] at h ⊢
      obtain ⟨m, rfl⟩ : ∃ m, n = m + 1 := ⟨n - 1, by omega⟩
      simp only [List.take_succ_cons, List.takeWhile_cons, hc, if_true]
      rw [ih m (by omega)]
    · cases n with
      | zero => simp [hc]
      | succ n => simp [hc]
/-- A number's body, cut behind its type. -/
theorem num_cut (b : List UInt8) : let e := digN b + runN (b.drop (digN b)); digN (b.take e) = digN b ∧ (b.take e).drop (digN b) = tail b ∧ tail (b.take e) = tail b ∧ (b.take e).take (digN b) = b.take (digN b) ∧ (b.take e).length = e := by
  intro e
  have h1 := digN_le b
  have h2 := runN_le (b.drop (digN b))
  rw [List.length_drop] at h2
  have hd : digN (b.take e) = digN b := by unfold digN; rw [takeWhile_take_more _ _ _ (by show digN b ≤ e; omega)]
  have hdr : (b.take e).drop (digN b) = tail b := by
    unfold tail
    rw [List.drop_take]
    congr 1
    omega
  refine ⟨hd, hdr, ?_, ?_, ?_⟩
  · have : tail (b.take e) = ((b.take e).drop (digN b)).take (runN ((b.take e).drop (digN b))) := by unfold tail; rw [hd]
    rw [this, hdr]
    unfold tail
    rw [runN_take, List.take_take, Nat.min_self]
  · rw [List.take_take]
    congr 1
    omega
  · rw [List.length_take]
    omega
theorem numberT_own {l : List UInt8} {t : Tk} (h : numberT l = some t) : numberT t.text = some t := by
  unfold numberT at h
  split at h
  · rename_i ho
    obtain ⟨b, hb⟩ : ∃ b, body l = b := ⟨_, rfl⟩
    rw [hb] at h ho
    obtain ⟨c1, c2, c3, c4, c5⟩ := num_cut b
    obtain ⟨e, he⟩ : ∃ e, digN b + runN (b.drop (digN b)) = e := ⟨_, rfl⟩
    rw [he] at h c1 c2 c3 c4 c5
    have hle : e ≤ b.length := by
      have h1 := digN_le b
      have h2 := runN_le (b.drop (digN b))
      rw [List.length_drop] at h2
      omega
    have hd1 : 1 ≤ digN b := by
      simp only [numOk, Bool.and_eq_true] at ho
      have := ho.1.1
      simp only [digsOk, Bool.and_eq_true, decide_eq_true_eq] at this
      exact this.1.1
    have hcut : l.take (l.length - b.length + e) = if minusB l then 35 :: 45 :: b.take e else b.take e := by
      rw [← hb]
      unfold body
      split
      · rename_i hm
        have h2 := minusB_two hm
        have ht := (isPrefix_two _ _ _).1 hm
        have hl : l = 35 :: 45 :: l.drop 2 := by
          have := (List.take_append_drop 2 l).symm
          rw [ht] at this
          exact this
        have e1 : l.length - (l.drop 2).length + e = e + 2 := by rw [List.length_drop]; omega
        rw [e1]
        have : (35 :: 45 :: l.drop 2).take (e + 2) = 35 :: 45 :: (l.drop 2).take e := by simp
        rw [← hl] at this
        exact this
      · rw [Nat.sub_self, Nat.zero_add]
    have hbd : minusB (l.take (l.length - b.length + e)) = minusB l ∧ body (l.take (l.length - b.length + e)) = b.take e := by
      rw [hcut]
      by_cases hm : minusB l = true
      · rw [if_pos hm, hm]
        exact ⟨rfl, rfl⟩
      · rw [if_neg hm]
        have hbl : b = l := by rw [← hb]; unfold body; rw [if_neg hm]
        have : minusB (b.take e) = false := by
          have hmf : minusB l = false := by simpa using hm
          rw [hbl]
          cases hx : minusB (l.take e) with
          | false => rfl
          | true =>
            exfalso
            have := (isPrefix_two _ _ _).1 hx
            have h2 := minusB_two hx
            rw [List.length_take] at h2
            rw [List.take_take, Nat.min_eq_left (by omega)] at this
            exact hm ((isPrefix_two _ _ _).2 this)
        rw [this]
        have hmf : minusB l = false := by simpa using hm
        refine ⟨hmf.symm, ?_⟩
        unfold body
        rw [if_neg (by rw [this]; decide)]
    obtain rfl := Option.some.inj h
    show numberT (l.take (l.length - b.length + e)) = _
    have hdo : digsOk (b.take e) = digsOk b := by
      unfold digsOk
      rw [c1]
      congr 3
      cases b with
      | nil => simp
      | cons x b =>
        obtain ⟨m, rfl⟩ : ∃ m, e = m + 1 := ⟨e - 1, by omega⟩
        simp
    have hv : numV (minusB l) (b.take e) = numV (minusB l) b := by unfold numV; rw [c1, c4]
    have hno : numOk (minusB l) (b.take e) = numOk (minusB l) b := by unfold numOk; rw [hdo, c1, c4, c3, hv]
    have hc2 : runN ((b.take e).drop (digN b)) = runN (b.drop (digN b)) := by rw [c2]; unfold tail; exact runN_take _
    unfold numberT
    rw [hbd.1, hbd.2, hno, if_pos ho, hv, c3, c1, hc2, he]
    congr 2
    rw [c5, List.length_take]
    have hbl := body_len l
    rw [hb] at hbl
    rw [List.take_take]
    congr 1
    omega
  · cases h
theorem tok_own {l : List UInt8} {t : Tk} (h : tok l = some t) : tok t.text = some t := by
  have hn := tok_len h
  cases l with
  | nil => simp [tok] at h
  | cons c l =>
    have hhead : ∃ r, t.text = c :: r := by
      obtain ⟨m, hm⟩ : ∃ m, t.text.length = m + 1 := ⟨t.text.length - 1, by omega⟩
      refine ⟨l.take m, ?_⟩
      have := hn.2.1
      rw [hm] at this
      simpa using this
    obtain ⟨r, hr⟩ := hhead
    have hu : tok t.text = if letter c then lettersT t.text else if numC c then numberT t.text else signT t.text := by rw [hr]; rfl
    rw [hu]
    simp only [tok] at h
    split at h
    · rename_i hc
      rw [if_pos hc]
      exact (lettersT_own (l := c :: l) hc h).2
    · rename_i hc1
      rw [if_neg hc1]
      split at h
      · rename_i hc2
        rw [if_pos hc2]
        exact numberT_own h
      · rename_i hc2
        rw [if_neg hc2]
        unfold signT at h
        split at h
        · rename_i h2
          have ht := Option.some.inj h
          have et : t.text = (c :: l).take 2 := by rw [← ht]
          have e2 : t.text.take 2 = t.text := by rw [et, List.take_take]; rfl
          rw [et] at hr
          unfold signT
          rw [e2, et, if_pos h2, ← ht]
        · rename_i h2
          split at h
          · rename_i h1
            have ht := Option.some.inj h
            have et : t.text = [c] := by rw [← ht]; rfl
            rw [et]
            unfold signT
            have e0 : twos.contains (([c] : List UInt8).take 2) = false := by simp [twos]
            rw [if_neg (by rw [e0]; decide), if_pos (by simpa using h1), ← ht]
            rfl
          · cases h
/-- A text in which a token stands at the head has no blank there; so of the token's text. -/
theorem tok_blank {l : List UInt8} {t : Tk} (h : tok l = some t) (h0 : blankN l = 0) : blankN t.text = 0 := by
  have hn := tok_len h
  cases l with
  | nil => simp [tok] at h
  | cons c l =>
    obtain ⟨m, hm⟩ : ∃ m, t.text.length = m + 1 := ⟨t.text.length - 1, by omega⟩
    have hr : t.text = c :: l.take m := by
      have := hn.2.1
      rw [hm] at this
      simpa using this
    have hnr : remarkB (c :: l) = false := by
      cases hx : remarkB (c :: l) with
      | false => rfl
      | true =>
        exfalso
        unfold blankN at h0
        rw [if_pos hx] at h0
        have := (isPrefix_two _ _ _).1 hx
        have hc : c = 47 := by cases l <;> simp at this; exact this.1
        subst hc
        simp [lineN] at h0
    have hnr2 : remarkB t.text = false := by
      cases hx : remarkB t.text with
      | false => rfl
      | true =>
        exfalso
        rw [hr] at hx
        have := (isPrefix_two _ _ _).1 hx
        have : remarkB (c :: l) = true := by
          apply (isPrefix_two _ _ _).2
          cases m with
          | zero => simp at this
          | succ m =>
            cases l with
            | nil => simp at this
            | cons d l => simpa using this
        rw [hnr] at this
        cases this
    unfold blankN at h0 ⊢
    rw [if_neg (by rw [hnr]; decide)] at h0
    rw [if_neg (by rw [hnr2]; decide), hr]
    exact h0

/-- A list of blanks, as LexBlanks puts them: whatever stands behind, they are passed. -/
def Passed (b : List UInt8) : Prop := (∃ d r, b = d :: r ∧ blankC d = true) ∧ ∀ at_ l, lex at_ (b ++ l) = lex (at_ + b.length) l
theorem lex_blankC (at_ : Nat) (d : UInt8) (l : List UInt8) (h : blankC d = true) : lex at_ (d :: l) = lex (at_ + 1) l := by
  have hb : blankN (d :: l) = 1 := by
    unfold blankN
    have hx : ¬ remarkB (d :: l) = true := by
      intro hx
      have := (isPrefix_two _ _ _).1 hx
      have hc : d = 47 := by cases l <;> simp at this; exact this.1
      subst hc
      exact absurd h (by decide)
    rw [if_neg hx]
    simp only
    rw [if_pos h]
  rw [lex_blank _ _ (by rw [hb]; decide), hb]
  rfl
theorem passed_one (d : UInt8) (h : blankC d = true) : Passed [d] := ⟨⟨d, [], rfl, h⟩, fun at_ l => lex_blankC at_ d l h⟩
theorem passed_three : Passed [32, 32, 10] := ⟨⟨32, _, rfl, by decide⟩, fun at_ l => by
  show lex at_ (32 :: 32 :: 10 :: l) = _
  rw [lex_blankC _ _ _ (by decide), lex_blankC _ _ _ (by decide), lex_blankC _ _ _ (by decide)]
  rfl⟩
theorem passed_remark : Passed [32, 47, 47, 32, 40, 43, 10] := ⟨⟨32, _, rfl, by decide⟩, fun at_ l => by
  show lex at_ (32 :: 47 :: 47 :: 32 :: 40 :: 43 :: 10 :: l) = _
  rw [lex_blankC _ _ _ (by decide)]
  have hb : blankN (47 :: 47 :: 32 :: 40 :: 43 :: 10 :: l) = 5 := by simp [blankN, remarkB, List.isPrefixOf, lineN]
  rw [lex_blank _ _ (by rw [hb]; decide), hb]
  show lex _ (10 :: l) = _
  rw [lex_blankC _ _ _ (by decide)]
  rfl⟩

/-- The text that LexBlanks makes. -/
def spread (b : List UInt8) : List Tk → List UInt8
  | [] => []
  | t :: ts => b ++ t.text ++ spread b ts
theorem lex_spread (b : List UInt8) (hb : Passed b) : ∀ (ts : List Tk) (at_ : Nat), (∀ t ∈ ts, ∃ l, tok l = some t ∧ blankN l = 0) →
    ∃ m, lex at_ (spread b ts ++ b) = (m, none) ∧ m.map (·.1) = ts := by
  intro ts
  induction ts with
  | nil =>
    intro at_ _
    refine ⟨[], ?_, rfl⟩
    have := hb.2 at_ []
    rw [List.append_nil] at this
    rw [spread, List.nil_append, this, lex_nil]
  | cons t ts ih =>
    intro at_ h
    obtain ⟨l, hl, h0⟩ := h t (List.mem_cons_self)
    obtain ⟨⟨d, r, rfl, hd⟩, hp⟩ := id hb
    have hrest : ∃ q, spread (d :: r) ts ++ (d :: r) = d :: q := by
      cases ts with
      | nil => exact ⟨r, rfl⟩
      | cons => exact ⟨_, rfl⟩
    obtain ⟨q, hq⟩ := hrest
    have hn := tok_len hl
    have hne : t.text ≠ [] := by intro e; rw [e] at hn; simp at hn
    have e1 : spread (d :: r) (t :: ts) ++ (d :: r) = (d :: r) ++ (t.text ++ d :: q) := by simp only [spread, List.append_assoc]; rw [← hq]
    have hb0 := blankN_zero q d hne hd (tok_blank hl h0)
    have ht : tok (t.text ++ d :: q) = some t := by rw [tok_stop _ _ _ hne hd]; exact tok_own hl
    obtain ⟨m, hm1, hm2⟩ := ih (at_ + (d :: r).length + t.text.length) (fun x hx => h x (List.mem_cons_of_mem _ hx))
    rw [e1, hp, lex_tok _ _ _ hb0 ht, List.drop_left, ← hq, hm1]
    exact ⟨_, rfl, by simp [hm2]⟩

/-- Each token of a text was read where no blank stood. -/
theorem lex_each : ∀ (k : Nat) (l : List UInt8), l.length ≤ k → ∀ at_ q, q ∈ (lex at_ l).1 → ∃ l', tok l' = some q.1 ∧ blankN l' = 0 := by
  intro k
  induction k with
  | zero =>
    intro l hk at_ q hq
    have : l = [] := List.eq_nil_of_length_eq_zero (by omega)
    subst this
    rw [lex_nil] at hq
    cases hq
  | succ k ih =>
    intro l hk at_ q hq
    by_cases hl : l = []
    · subst hl
      rw [lex_nil] at hq
      cases hq
    · have hl1 : 1 ≤ l.length := List.length_pos_iff.2 hl
      by_cases hb : blankN l = 0
      · cases ht : tok l with
        | none => rw [lex_none _ _ hb hl ht] at hq; cases hq
        | some t =>
          have hn := tok_len ht
          have hd : (l.drop t.text.length).length = l.length - t.text.length := List.length_drop
          rw [lex_tok _ _ _ hb ht] at hq
          rcases List.mem_cons.1 hq with e | e
          · subst e
            exact ⟨l, ht, hb⟩
          · exact ih _ (by omega) _ q e
      · have hd : (l.drop (blankN l)).length = l.length - blankN l := List.length_drop
        rw [lex_blank _ _ hb] at hq
        exact ih _ (by omega) _ q hq
end Lx
end Go.Proofs.YtkjkobiliinneaaDoor
