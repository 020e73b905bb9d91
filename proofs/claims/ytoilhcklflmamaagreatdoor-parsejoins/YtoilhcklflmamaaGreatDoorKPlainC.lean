/-
  Plain facts on bytes, tokens and texts: what a text's tokens are, by one function; no program; no conditions but those that each fact bears.
  Plain facts on how tokens depend on what stands behind them: a blank behind a token changes nothing; texts joined by a new line; blanks ahead of each token; what stands between tokens; no program.
  Plain facts on what stands between tokens: blanks and remarks alone, as the law goes through it; no program.
-/
import Derived.WalkKit
namespace Go.Proofs.YtoilhcklflmamaaGreatDoor
set_option linter.unusedVariables false
namespace Lx

def letter (c : UInt8) : Bool := decide (97 ≤ c.toNat) && decide (c.toNat ≤ 122)
def digit (c : UInt8) : Bool := decide (48 ≤ c.toNat) && decide (c.toNat ≤ 57)
def alnum (c : UInt8) : Bool := letter c || digit c
def blankC (c : UInt8) : Bool := decide (c.toNat = 32) || decide (c.toNat = 9) || decide (c.toNat = 10)
def runN (l : List UInt8) : Nat := (l.takeWhile alnum).length
def digN (l : List UInt8) : Nat := (l.takeWhile digit).length

/-- The names of the types, by their numbers. -/
def types : List (List UInt8) := [[105, 56], [117, 56], [105, 49, 54], [117, 49, 54], [105, 51, 50], [117, 51, 50]]
/-- The other words. -/
def keys : List (List UInt8) := [[115, 116, 114, 117, 99, 116], [105, 102], [101, 108, 115, 101], [102, 111, 114], [116, 111], [112, 114, 105, 110, 116], [114, 101, 116, 117, 114, 110]]
def wordB (l : List UInt8) : Bool := (keys ++ types).contains l
/-- The place of a type's name; 6: none. -/
def intT (l : List UInt8) : Nat := types.findIdx (· == l)
def begins : List UInt8 → Bool
  | [] => false
  | c :: _ => letter c
def nameB (l : List UInt8) : Bool := decide (l.length ≤ 8) && begins l && decide (runN l = l.length) && !wordB l

def lo (t : Nat) : Int := match t with | 0 => -128 | 1 => 0 | 2 => -32768 | 3 => 0 | 4 => -2147483648 | _ => 0
def hi (t : Nat) : Int := match t with | 0 => 127 | 1 => 255 | 2 => 32767 | 3 => 65535 | 4 => 2147483647 | _ => 4294967295
def fits (t : Nat) (v : Int) : Bool := decide (t < 6) && decide (lo t ≤ v) && decide (v ≤ hi t)
def val (l : List UInt8) : Int := l.foldl (fun v c => v * 10 + ((c.toNat : Int) - 48)) 0

/-- A token, without its place. -/
structure Tk where
  kind : Nat
  text : List UInt8
  n : Int
  ty : Nat

def lettersT (l : List UInt8) : Option Tk :=
  if begins l then
    if wordB (l.take (runN l)) then some ⟨2, l.take (runN l), 0, 0⟩
    else if nameB (l.take (runN l)) then some ⟨1, l.take (runN l), 0, 0⟩ else none
  else none

def minusB (l : List UInt8) : Bool := [35, 45].isPrefixOf l
def body (l : List UInt8) : List UInt8 := if minusB l then l.drop 2 else l
/-- Digits that may stand in a number. -/
def digsOk (b : List UInt8) : Bool := decide (1 ≤ digN b) && decide (digN b ≤ 10) && !(decide (1 < digN b) && decide (b.head? = some 48))
/-- The letters and digits behind the digits. -/
def tail (b : List UInt8) : List UInt8 := (b.drop (digN b)).take (runN (b.drop (digN b)))
def numV (m : Bool) (b : List UInt8) : Int := if m then - val (b.take (digN b)) else val (b.take (digN b))
def numOk (m : Bool) (b : List UInt8) : Bool := digsOk b && !(m && decide (val (b.take (digN b)) = 0)) && fits (intT (tail b)) (numV m b)
def numberT (l : List UInt8) : Option Tk :=
  if numOk (minusB l) (body l) then some ⟨3, l.take (l.length - (body l).length + (digN (body l) + runN ((body l).drop (digN (body l))))), numV (minusB l) (body l), intT (tail (body l))⟩ else none

def twos : List (List UInt8) := [[60, 60], [62, 62], [60, 61], [62, 61], [61, 61], [33, 61], [38, 38], [124, 124]]
def ones : List UInt8 := [40, 41, 123, 125, 91, 93, 59, 44, 46, 63, 58, 43, 45, 42, 47, 37, 38, 124, 94, 126, 33, 60, 62, 61]
def signT (l : List UInt8) : Option Tk :=
  if twos.contains (l.take 2) then some ⟨4, l.take 2, 0, 0⟩
  else if (l.head?.map ones.contains).getD false then some ⟨4, l.take 1, 0, 0⟩ else none

def numC (c : UInt8) : Bool := digit c || decide (c.toNat = 35)
/-- The token that stands at the head of a text. -/
def tok (l : List UInt8) : Option Tk :=
  match l with
  | [] => none
  | c :: _ => if letter c then lettersT l else if numC c then numberT l else signT l

def remarkB (l : List UInt8) : Bool := [47, 47].isPrefixOf l
/-- How many bytes ahead of the next new line, or of the end. -/
def lineN (l : List UInt8) : Nat := (l.takeWhile fun c => !decide (c.toNat = 10)).length
def blankN (l : List UInt8) : Nat :=
  if remarkB l then lineN l else
  match l with
  | [] => 0
  | c :: _ => if blankC c then 1 else 0

/-- The tokens of a text that begins at a place, with their places; the place at fault. -/
def lexF : Nat → Nat → List UInt8 → List (Tk × Nat) × Option Nat
  | 0, _, _ => ([], none)
  | _ + 1, _, [] => ([], none)
  | k + 1, at_, c :: l =>
    if blankN (c :: l) ≠ 0 then lexF k (at_ + blankN (c :: l)) ((c :: l).drop (blankN (c :: l)))
    else match tok (c :: l) with
      | none => ([], some at_)
      | some t => ((t, at_) :: (lexF k (at_ + t.text.length) ((c :: l).drop t.text.length)).1, (lexF k (at_ + t.text.length) ((c :: l).drop t.text.length)).2)
def lex (at_ : Nat) (l : List UInt8) : List (Tk × Nat) × Option Nat := lexF l.length at_ l

/-! ### Small facts -/
theorem takeWhile_len (p : UInt8 → Bool) (l : List UInt8) : (l.takeWhile p).length ≤ l.length := (List.takeWhile_prefix p).length_le
theorem takeWhile_take (p : UInt8 → Bool) (l : List UInt8) : l.take (l.takeWhile p).length = l.takeWhile p := by
  exact (List.prefix_iff_eq_take.1 (List.takeWhile_prefix p)).symm
theorem runN_le (l : List UInt8) : runN l ≤ l.length := takeWhile_len _ _
theorem digN_le (l : List UInt8) : digN l ≤ l.length := takeWhile_len _ _
theorem lineN_le (l : List UInt8) : lineN l ≤ l.length := takeWhile_len _ _
theorem take_run (l : List UInt8) : l.take (runN l) = l.takeWhile alnum := takeWhile_take _ _
theorem take_dig (l : List UInt8) : l.take (digN l) = l.takeWhile digit := takeWhile_take _ _
theorem takeWhile_idem (p : UInt8 → Bool) (l : List UInt8) : (l.takeWhile p).takeWhile p = l.takeWhile p := by
  induction l with
  | nil => rfl
  | cons c l ih =>
    by_cases h : p c = true
    · simp [h, ih]
    · simp [h]
theorem takeWhile_stop (p : UInt8 → Bool) (l r : List UInt8) (d : UInt8) (h : p d = false) : (l ++ d :: r).takeWhile p = l.takeWhile p := by
  induction l with
  | nil => simp [h]
  | cons c l ih =>
    by_cases hc : p c = true
    · simp [hc, ih]
    · simp [hc]
theorem blank_num {c : UInt8} (h : blankC c = true) : c.toNat = 32 ∨ c.toNat = 9 ∨ c.toNat = 10 := by
  simp only [blankC, Bool.or_eq_true, decide_eq_true_eq] at h; omega
theorem alnum_blank {c : UInt8} (h : blankC c = true) : alnum c = false := by
  rcases blank_num h with e | e | e <;> simp [alnum, letter, digit, e]
theorem digit_blank {c : UInt8} (h : blankC c = true) : digit c = false := by
  rcases blank_num h with e | e | e <;> simp [digit, e]
theorem letter_blank {c : UInt8} (h : blankC c = true) : letter c = false := by
  rcases blank_num h with e | e | e <;> simp [letter, e]
theorem runN_stop (l r : List UInt8) (d : UInt8) (h : blankC d = true) : runN (l ++ d :: r) = runN l := by
  unfold runN; rw [takeWhile_stop _ _ _ _ (alnum_blank h)]
theorem digN_stop (l r : List UInt8) (d : UInt8) (h : blankC d = true) : digN (l ++ d :: r) = digN l := by
  unfold digN; rw [takeWhile_stop _ _ _ _ (digit_blank h)]
theorem runN_take (l : List UInt8) : runN (l.take (runN l)) = runN l := by
  unfold runN; rw [takeWhile_take, takeWhile_idem]
theorem digN_take (l : List UInt8) : digN (l.take (digN l)) = digN l := by
  unfold digN; rw [takeWhile_take, takeWhile_idem]
theorem letter_alnum {c : UInt8} (h : letter c = true) : alnum c = true := by simp [alnum, h]
theorem digit_alnum {c : UInt8} (h : digit c = true) : alnum c = true := by simp [alnum, h]

theorem tok_len {l : List UInt8} {t : Tk} (h : tok l = some t) : 1 ≤ t.text.length ∧ t.text = l.take t.text.length ∧ t.text.length ≤ l.length ∧ 1 ≤ t.kind ∧ t.kind ≤ 4 ∧ t.ty ≤ 5 ∧ -4294967296 ≤ t.n ∧ t.n ≤ 4294967296 := by
  cases l with
  | nil => simp [tok] at h
  | cons c l =>
    simp only [tok] at h
    split at h
    · rename_i hc
      have h1 : 1 ≤ runN (c :: l) := by simp [runN, letter_alnum hc]
      have h2 := runN_le (c :: l)
      simp only [lettersT] at h
      have fin : ∀ k : Nat, 1 ≤ k → k ≤ 4 → some (⟨k, (c :: l).take (runN (c :: l)), 0, 0⟩ : Tk) = some t → 1 ≤ t.text.length ∧ t.text = (c :: l).take t.text.length ∧ t.text.length ≤ (c :: l).length ∧ 1 ≤ t.kind ∧ t.kind ≤ 4 ∧ t.ty ≤ 5 ∧ -4294967296 ≤ t.n ∧ t.n ≤ 4294967296 := by
        intro k k1 k2 e
        obtain rfl := Option.some.inj e
        have e1 : ((c :: l).take (runN (c :: l))).length = runN (c :: l) := by rw [List.length_take]; omega
        refine ⟨?_, ?_, ?_, k1, k2, ?_, ?_, ?_⟩
        · show 1 ≤ ((c :: l).take (runN (c :: l))).length
          omega
        · show (c :: l).take (runN (c :: l)) = (c :: l).take ((c :: l).take (runN (c :: l))).length
          rw [e1]
        · show ((c :: l).take (runN (c :: l))).length ≤ _
          omega
        · exact Nat.zero_le 5
        · show (-4294967296 : Int) ≤ 0
          omega
        · show (0 : Int) ≤ 4294967296
          omega
      split at h
      · split at h
        · exact fin 2 (by omega) (by omega) h
        · split at h
          · exact fin 1 (by omega) (by omega) h
          · cases h
      · cases h
    · split at h
      · simp only [numberT] at h
        split at h
        · rename_i ho
          have h2 := runN_le ((body (c :: l)).drop (digN (body (c :: l))))
          have h3 := digN_le (body (c :: l))
          rw [List.length_drop] at h2
          have hb : (body (c :: l)).length ≤ (c :: l).length := by unfold body; split <;> first | exact Nat.le_refl _ | (rw [List.length_drop]; omega)
          simp only [numOk, Bool.and_eq_true] at ho
          have h1 : 1 ≤ digN (body (c :: l)) := by
            have := ho.1.1
            simp only [digsOk, Bool.and_eq_true, decide_eq_true_eq] at this
            exact this.1.1
          have hf := ho.2
          simp only [fits, Bool.and_eq_true, decide_eq_true_eq] at hf
          obtain ⟨⟨f1, f2⟩, f3⟩ := hf
          have flo : -4294967296 ≤ lo (intT (tail (body (c :: l)))) := by unfold lo; split <;> omega
          have fhi : hi (intT (tail (body (c :: l)))) ≤ 4294967296 := by unfold hi; split <;> omega
          obtain rfl := Option.some.inj h
          have e1 : ((c :: l).take ((c :: l).length - (body (c :: l)).length + (digN (body (c :: l)) + runN ((body (c :: l)).drop (digN (body (c :: l))))))).length = (c :: l).length - (body (c :: l)).length + (digN (body (c :: l)) + runN ((body (c :: l)).drop (digN (body (c :: l))))) := by rw [List.length_take]; omega
          refine ⟨?_, ?_, ?_, by show 1 ≤ 3; omega, by show 3 ≤ 4; omega, ?_, ?_, ?_⟩
          · show 1 ≤ ((c :: l).take _).length
            rw [e1]; omega
          · show (c :: l).take _ = (c :: l).take ((c :: l).take _).length
            rw [e1]
          · show ((c :: l).take _).length ≤ _
            rw [e1]; omega
          · show intT _ ≤ 5
            omega
          · show _ ≤ numV _ _
            omega
          · show numV _ _ ≤ _
            omega
        · cases h
      · simp only [signT] at h
        split at h
        · rename_i ht
          obtain rfl := Option.some.inj h
          cases l with
          | nil => simp [twos] at ht
          | cons d l => refine ⟨?_, ?_, ?_, ?_, ?_, ?_, ?_, ?_⟩ <;> simp
        · split at h
          · obtain rfl := Option.some.inj h
            refine ⟨?_, ?_, ?_, ?_, ?_, ?_, ?_, ?_⟩ <;> simp
          · cases h

theorem blankN_le (l : List UInt8) : blankN l ≤ l.length := by
  unfold blankN
  split
  · exact lineN_le l
  · split
    · simp
    · split <;> simp

/-- Fuel that suffices makes no difference. -/
theorem lexF_more (k : Nat) : ∀ (m at_ : Nat) (l : List UInt8), l.length ≤ k → l.length ≤ m → lexF k at_ l = lexF m at_ l := by
  induction k with
  | zero =>
    intro m at_ l h1 h2
    have : l = [] := List.eq_nil_of_length_eq_zero (by omega)
    subst this
    cases m <;> simp [lexF]
  | succ k ih =>
    intro m at_ l h1 h2
    cases l with
    | nil => cases m <;> simp [lexF]
    | cons c l =>
      cases m with
      | zero => simp at h2
      | succ m =>
        simp only [List.length_cons] at h1 h2
        simp only [lexF]
        split
        · rename_i hb
          have hd : ((c :: l).drop (blankN (c :: l))).length ≤ l.length := by rw [List.length_drop, List.length_cons]; omega
          exact ih m _ _ (by omega) (by omega)
        · cases hk : tok (c :: l) with
          | none => rfl
          | some t =>
            have ht := tok_len hk
            have hd : ((c :: l).drop t.text.length).length ≤ l.length := by rw [List.length_drop, List.length_cons]; omega
            simp only
            rw [ih m (at_ + t.text.length) _ (by omega) (by omega)]

theorem lex_nil (at_ : Nat) : lex at_ [] = ([], none) := by simp [lex, lexF]
theorem lex_blank (at_ : Nat) (l : List UInt8) (h : blankN l ≠ 0) : lex at_ l = lex (at_ + blankN l) (l.drop (blankN l)) := by
  cases l with
  | nil => exact absurd rfl h
  | cons c l =>
    have hd : ((c :: l).drop (blankN (c :: l))).length ≤ l.length := by rw [List.length_drop, List.length_cons]; omega
    unfold lex
    simp only [List.length_cons, lexF]
    rw [if_pos h]
    exact lexF_more _ _ _ _ hd (Nat.le_refl _)
theorem lex_tok (at_ : Nat) (l : List UInt8) (t : Tk) (h : blankN l = 0) (ht : tok l = some t) : lex at_ l = ((t, at_) :: (lex (at_ + t.text.length) (l.drop t.text.length)).1, (lex (at_ + t.text.length) (l.drop t.text.length)).2) := by
  cases l with
  | nil => simp [tok] at ht
  | cons c l =>
    have hl := tok_len ht
    have hd : ((c :: l).drop t.text.length).length ≤ l.length := by rw [List.length_drop, List.length_cons]; omega
    unfold lex
    simp only [List.length_cons, lexF]
    rw [if_neg (by omega), ht]
    simp only
    rw [lexF_more l.length _ _ _ hd (Nat.le_refl _)]
theorem lex_none (at_ : Nat) (l : List UInt8) (h : blankN l = 0) (hl : l ≠ []) (ht : tok l = none) : lex at_ l = ([], some at_) := by
  cases l with
  | nil => exact absurd rfl hl
  | cons c l =>
    unfold lex
    simp only [List.length_cons, lexF]
    rw [if_neg (by omega), ht]
end Lx
end Go.Proofs.YtoilhcklflmamaaGreatDoor

namespace Go.Proofs.YtoilhcklflmamaaGreatDoor
set_option linter.unusedVariables false
namespace Lx

theorem isPrefix_two (a b : UInt8) (l : List UInt8) : ([a, b] : List UInt8).isPrefixOf l = true ↔ l.take 2 = [a, b] := by
  cases l with
  | nil => simp [List.isPrefixOf]
  | cons c l =>
    cases l with
    | nil => simp [List.isPrefixOf]
    | cons d l => simp [List.isPrefixOf]; constructor <;> (rintro ⟨rfl, rfl⟩; exact ⟨rfl, rfl⟩)

/-- A pair of which neither is a blank is not made by a blank behind. -/
theorem isPrefix_stop (a b d : UInt8) (l r : List UInt8) (h : d ≠ b) (h' : d ≠ a) : ([a, b] : List UInt8).isPrefixOf (l ++ d :: r) = ([a, b] : List UInt8).isPrefixOf l := by
  cases l with
  | nil => simp [List.isPrefixOf, Ne.symm h']
  | cons c l =>
    cases l with
    | nil => simp [List.isPrefixOf, Ne.symm h]
    | cons e l => simp [List.isPrefixOf]

theorem blank_ne {d : UInt8} (h : blankC d = true) (b : UInt8) (hb : blankC b = false) : d ≠ b := by
  rintro rfl; rw [h] at hb; cases hb

theorem minusB_stop (l r : List UInt8) (d : UInt8) (h : blankC d = true) : minusB (l ++ d :: r) = minusB l :=
  isPrefix_stop _ _ _ _ _ (blank_ne h _ (by decide)) (blank_ne h _ (by decide))
theorem remarkB_stop (l r : List UInt8) (d : UInt8) (h : blankC d = true) : remarkB (l ++ d :: r) = remarkB l :=
  isPrefix_stop _ _ _ _ _ (blank_ne h _ (by decide)) (blank_ne h _ (by decide))
theorem minusB_two {l : List UInt8} (h : minusB l = true) : 2 ≤ l.length := by
  have := (isPrefix_two _ _ _).1 h
  have e := congrArg List.length this
  rw [List.length_take] at e
  simp at e
  omega
theorem body_stop (l r : List UInt8) (d : UInt8) (h : blankC d = true) : body (l ++ d :: r) = body l ++ d :: r := by
  unfold body
  rw [minusB_stop l r d h]
  split
  · rename_i hm
    rw [List.drop_append_of_le_length (minusB_two hm)]
  · rfl
theorem drop_dig_stop (b r : List UInt8) (d : UInt8) (h : blankC d = true) : (b ++ d :: r).drop (digN (b ++ d :: r)) = b.drop (digN b) ++ d :: r := by
  rw [digN_stop b r d h, List.drop_append_of_le_length (digN_le b)]
theorem tail_stop (b r : List UInt8) (d : UInt8) (h : blankC d = true) : tail (b ++ d :: r) = tail b := by
  unfold tail
  rw [drop_dig_stop b r d h, runN_stop _ _ _ h, List.take_append_of_le_length (runN_le _)]
theorem digs_stop (b r : List UInt8) (d : UInt8) (h : blankC d = true) : (b ++ d :: r).take (digN (b ++ d :: r)) = b.take (digN b) := by
  rw [digN_stop b r d h, List.take_append_of_le_length (digN_le b)]
theorem digsOk_stop (b r : List UInt8) (d : UInt8) (h : blankC d = true) : digsOk (b ++ d :: r) = digsOk b := by
  unfold digsOk
  rw [digN_stop b r d h]
  cases b with
  | nil => simp [digN]
  | cons c b => simp
theorem numV_stop (m : Bool) (b r : List UInt8) (d : UInt8) (h : blankC d = true) : numV m (b ++ d :: r) = numV m b := by
  unfold numV; rw [digs_stop b r d h]
theorem numOk_stop (m : Bool) (b r : List UInt8) (d : UInt8) (h : blankC d = true) : numOk m (b ++ d :: r) = numOk m b := by
  unfold numOk; rw [digs_stop b r d h, digsOk_stop b r d h, tail_stop b r d h, numV_stop m b r d h]
theorem body_len (l : List UInt8) : (body l).length ≤ l.length := by
  unfold body; split <;> first | exact Nat.le_refl _ | (rw [List.length_drop]; omega)
theorem numberT_stop (l r : List UInt8) (d : UInt8) (h : blankC d = true) : numberT (l ++ d :: r) = numberT l := by
  unfold numberT
  rw [minusB_stop l r d h, body_stop l r d h, numOk_stop _ _ _ _ h, numV_stop _ _ _ _ h, tail_stop _ _ _ h, drop_dig_stop _ _ _ h, runN_stop _ _ _ h, digN_stop _ _ _ h]
  have h1 := body_len l
  have h2 := runN_le ((body l).drop (digN (body l)))
  have h3 := digN_le (body l)
  rw [List.length_drop] at h2
  have e : (l ++ d :: r).length - (body l ++ d :: r).length = l.length - (body l).length := by simp only [List.length_append]; omega
  rw [e, List.take_append_of_le_length (by omega)]
theorem take2_blank (c d : UInt8) (h : blankC d = true) : twos.contains [c, d] = false := by
  have hd : ∀ b : UInt8, blankC b = false → ¬ d = b := fun b hb => blank_ne h b hb
  simp [twos, hd 60 (by decide), hd 62 (by decide), hd 61 (by decide), hd 38 (by decide), hd 124 (by decide)]
theorem signT_stop (l r : List UInt8) (d : UInt8) (hl : l ≠ []) (h : blankC d = true) : signT (l ++ d :: r) = signT l := by
  cases l with
  | nil => exact absurd rfl hl
  | cons c l =>
    cases l with
    | nil =>
      have e1 : ([c] ++ d :: r).take 2 = [c, d] := rfl
      have e2 : ([c] : List UInt8).take 2 = [c] := rfl
      unfold signT
      rw [e1, e2, take2_blank c d h]
      simp [twos]
    | cons b l =>
      unfold signT
      simp
theorem lettersT_stop (l r : List UInt8) (d : UInt8) (hl : l ≠ []) (h : blankC d = true) : lettersT (l ++ d :: r) = lettersT l := by
  unfold lettersT
  rw [runN_stop l r d h, List.take_append_of_le_length (runN_le l)]
  cases l with
  | nil => exact absurd rfl hl
  | cons c l => rfl
theorem tok_stop (l r : List UInt8) (d : UInt8) (hl : l ≠ []) (h : blankC d = true) : tok (l ++ d :: r) = tok l := by
  cases l with
  | nil => exact absurd rfl hl
  | cons c l =>
    have e1 := lettersT_stop (c :: l) r d hl h
    have e2 := numberT_stop (c :: l) r d h
    have e3 := signT_stop (c :: l) r d hl h
    rw [List.cons_append] at e1 e2 e3 ⊢
    unfold tok
    simp only
    rw [e1, e2, e3]
theorem lineN_stop (l r : List UInt8) : lineN (l ++ 10 :: r) = lineN l := by
  unfold lineN
  rw [takeWhile_stop _ _ _ _ (by decide)]
/-- A new line behind a text changes no blank of it. -/
theorem blankN_line (l r : List UInt8) (hl : l ≠ []) : blankN (l ++ 10 :: r) = blankN l := by
  unfold blankN
  rw [remarkB_stop l r 10 (by decide), lineN_stop]
  cases l with
  | nil => exact absurd rfl hl
  | cons c l => rfl
/-- Where no blank stands, none stands with a blank behind. -/
theorem blankN_zero {l : List UInt8} (r : List UInt8) (d : UInt8) (hl : l ≠ []) (h : blankC d = true) (h0 : blankN l = 0) : blankN (l ++ d :: r) = 0 := by
  unfold blankN at h0 ⊢
  rw [remarkB_stop l r d h]
  cases l with
  | nil => exact absurd rfl hl
  | cons c l =>
    split at h0
    · rename_i hr
      exfalso
      have := (isPrefix_two _ _ _).1 hr
      have hc : c = 47 := by cases l <;> simp at this; exact this.1
      subst hc
      simp [lineN] at h0
    · rename_i hr
      rw [if_neg hr]
      exact h0

/-! ### Two texts with a new line between -/
theorem lex_line (at_ : Nat) (r : List UInt8) : lex at_ (10 :: r) = lex (at_ + 1) r := by
  have hb : blankN (10 :: r) = 1 := by
    unfold blankN
    rw [if_neg (by simp [remarkB, List.isPrefixOf])]
    rfl
  rw [lex_blank _ _ (by rw [hb]; decide), hb]
  rfl

theorem lex_join (r : List UInt8) : ∀ (k : Nat) (l : List UInt8), l.length ≤ k → ∀ at_ : Nat,
    ((lex at_ l).2 = none → lex at_ (l ++ 10 :: r) = ((lex at_ l).1 ++ (lex (at_ + l.length + 1) r).1, (lex (at_ + l.length + 1) r).2)) ∧
    (∀ p, (lex at_ l).2 = some p → lex at_ (l ++ 10 :: r) = ((lex at_ l).1, some p) ∧ at_ ≤ p ∧ p < at_ + l.length) := by
  intro k
  induction k with
  | zero =>
    intro l hk at_
    have : l = [] := List.eq_nil_of_length_eq_zero (by omega)
    subst this
    rw [lex_nil]
    exact ⟨fun _ => by rw [List.nil_append, lex_line]; rfl, fun p h => by cases h⟩
  | succ k ih =>
    intro l hk at_
    by_cases hl : l = []
    · subst hl
      rw [lex_nil]
      exact ⟨fun _ => by rw [List.nil_append, lex_line]; rfl, fun p h => by cases h⟩
    · have hl1 : 1 ≤ l.length := List.length_pos_iff.2 hl
      have hne : l ++ 10 :: r ≠ [] := by simp
      by_cases hb : blankN l = 0
      · have hb2 : blankN (l ++ 10 :: r) = 0 := by rw [blankN_line l r hl]; exact hb
        have ht2 : tok (l ++ 10 :: r) = tok l := tok_stop l r 10 hl (by decide)
        cases ht : tok l with
        | none =>
          rw [ht] at ht2
          rw [lex_none _ _ hb hl ht, lex_none _ _ hb2 hne ht2]
          refine ⟨fun h => (by cases h), fun p h => ?_⟩
          obtain rfl := Option.some.inj h
          exact ⟨rfl, Nat.le_refl _, by omega⟩
        | some t =>
          rw [ht] at ht2
          have hn := tok_len ht
          have hd : (l.drop t.text.length).length = l.length - t.text.length := List.length_drop
          obtain ⟨i1, i2⟩ := ih (l.drop t.text.length) (by omega) (at_ + t.text.length)
          have e : at_ + t.text.length + (l.drop t.text.length).length + 1 = at_ + l.length + 1 := by omega
          rw [e] at i1
          rw [lex_tok _ _ _ hb ht, lex_tok _ _ _ hb2 ht2, List.drop_append_of_le_length hn.2.2.1]
          refine ⟨fun h => ?_, fun p h => ?_⟩
          · rw [i1 h]
            rfl
          · obtain ⟨j1, j2, j3⟩ := i2 p h
            rw [j1]
            exact ⟨rfl, by omega, by omega⟩
      · have hb2 : blankN (l ++ 10 :: r) = blankN l := blankN_line l r hl
        have hle := blankN_le l
        have hd : (l.drop (blankN l)).length = l.length - blankN l := List.length_drop
        obtain ⟨i1, i2⟩ := ih (l.drop (blankN l)) (by omega) (at_ + blankN l)
        have e : at_ + blankN l + (l.drop (blankN l)).length + 1 = at_ + l.length + 1 := by omega
        rw [e] at i1
        rw [lex_blank _ _ hb, lex_blank at_ (l ++ 10 :: r) (by rw [hb2]; exact hb), hb2, List.drop_append_of_le_length hle]
        refine ⟨i1, fun p h => ?_⟩
        obtain ⟨j1, j2, j3⟩ := i2 p h
        exact ⟨j1, by omega, by omega⟩

theorem lex_fault {l : List UInt8} {at_ p : Nat} (h : (lex at_ l).2 = some p) : at_ ≤ p ∧ p < at_ + l.length := ((lex_join [] l.length l (Nat.le_refl _) at_).2 p h).2

/-! ### A place moved -/
theorem lex_moved (m : Nat) : ∀ (k : Nat) (l : List UInt8), l.length ≤ k → ∀ at_ : Nat, lex (at_ + m) l = ((lex at_ l).1.map (fun q => (q.1, q.2 + m)), (lex at_ l).2.map (· + m)) := by
  intro k
  induction k with
  | zero =>
    intro l hk at_
    have : l = [] := List.eq_nil_of_length_eq_zero (by omega)
    subst this
    simp [lex_nil]
  | succ k ih =>
    intro l hk at_
    by_cases hl : l = []
    · subst hl
      simp [lex_nil]
    · have hl1 : 1 ≤ l.length := List.length_pos_iff.2 hl
      by_cases hb : blankN l = 0
      · cases ht : tok l with
        | none => rw [lex_none _ _ hb hl ht, lex_none _ _ hb hl ht]; rfl
        | some t =>
          have hn := tok_len ht
          have hd : (l.drop t.text.length).length = l.length - t.text.length := List.length_drop
          rw [lex_tok _ _ _ hb ht, lex_tok _ _ _ hb ht, show at_ + m + t.text.length = at_ + t.text.length + m by omega, ih (l.drop t.text.length) (by omega)]
          rfl
      · have hd : (l.drop (blankN l)).length = l.length - blankN l := List.length_drop
        rw [lex_blank _ _ hb, lex_blank at_ _ hb, show at_ + m + blankN l = at_ + blankN l + m by omega, ih (l.drop (blankN l)) (by omega)]

/-! ### A token's own text is read as it -/
theorem types_alnum (l : List UInt8) (h : intT l < 6) : runN l = l.length ∧ l ∈ types := by
  have hm : l ∈ types := by
    unfold intT at h
    have := List.findIdx_lt_length.1 (show types.findIdx (· == l) < types.length from h)
    obtain ⟨x, hx, e⟩ := this
    simp at e
    subst e
    exact hx
  refine ⟨?_, hm⟩
  simp [types] at hm
  rcases hm with rfl | rfl | rfl | rfl | rfl | rfl <;> decide
theorem lettersT_own {l : List UInt8} {t : Tk} (hb : begins l = true) (h : lettersT l = some t) : t.text = l.take (runN l) ∧ lettersT t.text = some t := by
  have hb2 : begins (l.take (runN l)) = true := by
    cases l with
    | nil => simp [begins] at hb
    | cons c l =>
      simp only [begins] at hb
      have : 1 ≤ runN (c :: l) := by simp [runN, letter_alnum hb]
      obtain ⟨m, hm⟩ : ∃ m, runN (c :: l) = m + 1 := ⟨runN (c :: l) - 1, by omega⟩
      rw [hm]
      simpa [begins] using hb
  have hr : (l.take (runN l)).take (runN (l.take (runN l))) = l.take (runN l) := by rw [runN_take, List.take_take, Nat.min_self]
  have key : lettersT (l.take (runN l)) = lettersT l := by
    simp only [lettersT]
    rw [hb2, hb, hr]
  have ht : t.text = l.take (runN l) := by
    simp only [lettersT] at h
    rw [hb] at h
    simp only [if_true] at h
    split at h
    · obtain rfl := Option.some.inj h; rfl
    · split at h
      · obtain rfl := Option.some.inj h; rfl
      · cases h
  exact ⟨ht, by rw [ht, key, h]⟩

theorem takeWhile_take_more (p : UInt8 → Bool) (l : List UInt8) (n : Nat) (h : (l.takeWhile p).length ≤ n) : (l.take n).takeWhile p = l.takeWhile p := by
  induction l generalizing n with
  | nil => simp
  | cons c l ih =>
    by_cases hc : p c = true
    · simp only [List.takeWhile_cons, hc, if_true, List.length_cons] at h ⊢
      obtain ⟨m, rfl⟩ : ∃ m, n = m + 1 := ⟨n - 1, by omega⟩
      simp only [List.take_succ_cons, List.takeWhile_cons, hc, if_true]
      rw [ih m (by omega)]
    · cases n with
      | zero => simp [hc]
      | succ n => simp [hc]
/-- A number's body, cut behind its type. -/
theorem num_cut (b : List UInt8) : let e := digN b + runN (b.drop (digN b)); digN (b.take e) = digN b ∧ (b.take e).drop (digN b) = tail b ∧ tail (b.take e) = tail b ∧ (b.take e).take (digN b) = b.take (digN b) ∧ (b.take e).length = e := by
  intro e
  have h1 := digN_le b
  have h2 := runN_le (b.drop (digN b))
  rw [List.length_drop] at h2
  have hd : digN (b.take e) = digN b := by unfold digN; rw [takeWhile_take_more _ _ _ (by show digN b ≤ e; omega)]
  have hdr : (b.take e).drop (digN b) = tail b := by
    unfold tail
    rw [List.drop_take]
    congr 1
    omega
  refine ⟨hd, hdr, ?_, ?_, ?_⟩
  · have : tail (b.take e) = ((b.take e).drop (digN b)).take (runN ((b.take e).drop (digN b))) := by unfold tail; rw [hd]
    rw [this, hdr]
    unfold tail
    rw [runN_take, List.take_take, Nat.min_self]
  · rw [List.take_take]
    congr 1
    omega
  · rw [List.length_take]
    omega
theorem numberT_own {l : List UInt8} {t : Tk} (h : numberT l = some t) : numberT t.text = some t := by
  unfold numberT at h
  split at h
  · rename_i ho
    obtain ⟨b, hb⟩ : ∃ b, body l = b := ⟨_, rfl⟩
    rw [hb] at h ho
    obtain ⟨c1, c2, c3, c4, c5⟩ := num_cut b
    obtain ⟨e, he⟩ : ∃ e, digN b + runN (b.drop (digN b)) = e := ⟨_, rfl⟩
    rw [he] at h c1 c2 c3 c4 c5
    have hle : e ≤ b.length := by
      have h1 := digN_le b
      have h2 := runN_le (b.drop (digN b))
      rw [List.length_drop] at h2
      omega
    have hd1 : 1 ≤ digN b := by
      simp only [numOk, Bool.and_eq_true] at ho
      have := ho.1.1
      simp only [digsOk, Bool.and_eq_true, decide_eq_true_eq] at this
      exact this.1.1
    have hcut : l.take (l.length - b.length + e) = if minusB l then 35 :: 45 :: b.take e else b.take e := by
      rw [← hb]
      unfold body
      split
      · rename_i hm
        have h2 := minusB_two hm
        have ht := (isPrefix_two _ _ _).1 hm
        have hl : l = 35 :: 45 :: l.drop 2 := by
          have := (List.take_append_drop 2 l).symm
          rw [ht] at this
          exact this
        have e1 : l.length - (l.drop 2).length + e = e + 2 := by rw [List.length_drop]; omega
        rw [e1]
        have : (35 :: 45 :: l.drop 2).take (e + 2) = 35 :: 45 :: (l.drop 2).take e := by simp
        rw [← hl] at this
        exact this
      · rw [Nat.sub_self, Nat.zero_add]
    have hbd : minusB (l.take (l.length - b.length + e)) = minusB l ∧ body (l.take (l.length - b.length + e)) = b.take e := by
      rw [hcut]
      by_cases hm : minusB l = true
      · rw [if_pos hm, hm]
        exact ⟨rfl, rfl⟩
      · rw [if_neg hm]
        have hbl : b = l := by rw [← hb]; unfold body; rw [if_neg hm]
        have : minusB (b.take e) = false := by
          have hmf : minusB l = false := by simpa using hm
          rw [hbl]
          cases hx : minusB (l.take e) with
          | false => rfl
          | true =>
            exfalso
            have := (isPrefix_two _ _ _).1 hx
            have h2 := minusB_two hx
            rw [List.length_take] at h2
            rw [List.take_take, Nat.min_eq_left (by omega)] at this
            exact hm ((isPrefix_two _ _ _).2 this)
        rw [this]
        have hmf : minusB l = false := by simpa using hm
        refine ⟨hmf.symm, ?_⟩
        unfold body
        rw [if_neg (by rw [this]; decide)]
    obtain rfl := Option.some.inj h
    show numberT (l.take (l.length - b.length + e)) = _
    have hdo : digsOk (b.take e) = digsOk b := by
      unfold digsOk
      rw [c1]
      congr 3
      cases b with
      | nil => simp
      | cons x b =>
        obtain ⟨m, rfl⟩ : ∃ m, e = m + 1 := ⟨e - 1, by omega⟩
        simp
    have hv : numV (minusB l) (b.take e) = numV (minusB l) b := by unfold numV; rw [c1, c4]
    have hno : numOk (minusB l) (b.take e) = numOk (minusB l) b := by unfold numOk; rw [hdo, c1, c4, c3, hv]
    have hc2 : runN ((b.take e).drop (digN b)) = runN (b.drop (digN b)) := by rw [c2]; unfold tail; exact runN_take _
    unfold numberT
    rw [hbd.1, hbd.2, hno, if_pos ho, hv, c3, c1, hc2, he]
    congr 2
    rw [c5, List.length_take]
    have hbl := body_len l
    rw [hb] at hbl
    rw [List.take_take]
    congr 1
    omega
  · cases h
theorem tok_own {l : List UInt8} {t : Tk} (h : tok l = some t) : tok t.text = some t := by
  have hn := tok_len h
  cases l with
  | nil => simp [tok] at h
  | cons c l =>
    have hhead : ∃ r, t.text = c :: r := by
      obtain ⟨m, hm⟩ : ∃ m, t.text.length = m + 1 := ⟨t.text.length - 1, by omega⟩
      refine ⟨l.take m, ?_⟩
      have := hn.2.1
      rw [hm] at this
      simpa using this
    obtain ⟨r, hr⟩ := hhead
    have hu : tok t.text = if letter c then lettersT t.text else if numC c then numberT t.text else signT t.text := by rw [hr]; rfl
    rw [hu]
    simp only [tok] at h
    split at h
    · rename_i hc
      rw [if_pos hc]
      exact (lettersT_own (l := c :: l) hc h).2
    · rename_i hc1
      rw [if_neg hc1]
      split at h
      · rename_i hc2
        rw [if_pos hc2]
        exact numberT_own h
      · rename_i hc2
        rw [if_neg hc2]
        unfold signT at h
        split at h
        · rename_i h2
          have ht := Option.some.inj h
          have et : t.text = (c :: l).take 2 := by rw [← ht]
          have e2 : t.text.take 2 = t.text := by rw [et, List.take_take]; rfl
          rw [et] at hr
          unfold signT
          rw [e2, et, if_pos h2, ← ht]
        · rename_i h2
          split at h
          · rename_i h1
            have ht := Option.some.inj h
            have et : t.text = [c] := by rw [← ht]; rfl
            rw [et]
            unfold signT
            have e0 : twos.contains (([c] : List UInt8).take 2) = false := by simp [twos]
            rw [if_neg (by rw [e0]; decide), if_pos (by simpa using h1), ← ht]
            rfl
          · cases h
/-- A text in which a token stands at the head has no blank there; so of the token's text. -/
theorem tok_blank {l : List UInt8} {t : Tk} (h : tok l = some t) (h0 : blankN l = 0) : blankN t.text = 0 := by
  have hn := tok_len h
  cases l with
  | nil => simp [tok] at h
  | cons c l =>
    obtain ⟨m, hm⟩ : ∃ m, t.text.length = m + 1 := ⟨t.text.length - 1, by omega⟩
    have hr : t.text = c :: l.take m := by
      have := hn.2.1
      rw [hm] at this
      simpa using this
    have hnr : remarkB (c :: l) = false := by
      cases hx : remarkB (c :: l) with
      | false => rfl
      | true =>
        exfalso
        unfold blankN at h0
        rw [if_pos hx] at h0
        have := (isPrefix_two _ _ _).1 hx
        have hc : c = 47 := by cases l <;> simp at this; exact this.1
        subst hc
        simp [lineN] at h0
    have hnr2 : remarkB t.text = false := by
      cases hx : remarkB t.text with
      | false => rfl
      | true =>
        exfalso
        rw [hr] at hx
        have := (isPrefix_two _ _ _).1 hx
        have : remarkB (c :: l) = true := by
          apply (isPrefix_two _ _ _).2
          cases m with
          | zero => simp at this
          | succ m =>
            cases l with
            | nil => simp at this
            | cons d l => simpa using this
        rw [hnr] at this
        cases this
    unfold blankN at h0 ⊢
    rw [if_neg (by rw [hnr]; decide)] at h0
    rw [if_neg (by rw [hnr2]; decide), hr]
    exact h0

/-- A list of blanks, as LexBlanks puts them: whatever stands behind, they are passed. -/
def Passed (b : List UInt8) : Prop := (∃ d r, b = d :: r ∧ blankC d = true) ∧ ∀ at_ l, lex at_ (b ++ l) = lex (at_ + b.length) l
theorem lex_blankC (at_ : Nat) (d : UInt8) (l : List UInt8) (h : blankC d = true) : lex at_ (d :: l) = lex (at_ + 1) l := by
  have hb : blankN (d :: l) = 1 := by
    unfold blankN
    have hx : ¬ remarkB (d :: l) = true := by
      intro hx
      have := (isPrefix_two _ _ _).1 hx
      have hc : d = 47 := by cases l <;> simp at this; exact this.1
      subst hc
      exact absurd h (by decide)
    rw [if_neg hx]
    simp only
    rw [if_pos h]
  rw [lex_blank _ _ (by rw [hb]; decide), hb]
  rfl
theorem passed_one (d : UInt8) (h : blankC d = true) : Passed [d] := ⟨⟨d, [], rfl, h⟩, fun at_ l => lex_blankC at_ d l h⟩
theorem passed_three : Passed [32, 32, 10] := ⟨⟨32, _, rfl, by decide⟩, fun at_ l => by
  show lex at_ (32 :: 32 :: 10 :: l) = _
  rw [lex_blankC _ _ _ (by decide), lex_blankC _ _ _ (by decide), lex_blankC _ _ _ (by decide)]
  rfl⟩
theorem passed_remark : Passed [32, 47, 47, 32, 40, 43, 10] := ⟨⟨32, _, rfl, by decide⟩, fun at_ l => by
  show lex at_ (32 :: 47 :: 47 :: 32 :: 40 :: 43 :: 10 :: l) = _
  rw [lex_blankC _ _ _ (by decide)]
  have hb : blankN (47 :: 47 :: 32 :: 40 :: 43 :: 10 :: l) = 5 := by simp [blankN, remarkB, List.isPrefixOf, lineN]
  rw [lex_blank _ _ (by rw [hb]; decide), hb]
  show lex _ (10 :: l) = _
  rw [lex_blankC _ _ _ (by decide)]
  rfl⟩

/-- The text that LexBlanks makes. -/
def spread (b : List UInt8) : List Tk → List UInt8
  | [] => []
  | t :: ts => b ++ t.text ++ spread b ts
theorem lex_spread (b : List UInt8) (hb : Passed b) : ∀ (ts : List Tk) (at_ : Nat), (∀ t ∈ ts, ∃ l, tok l = some t ∧ blankN l = 0) →
    ∃ m, lex at_ (spread b ts ++ b) = (m, none) ∧ m.map (·.1) = ts := by
  intro ts
  induction ts with
  | nil =>
    intro at_ _
    refine ⟨[], ?_, rfl⟩
    have := hb.2 at_ []
    rw [List.append_nil] at this
    rw [spread, List.nil_append, this, lex_nil]
  | cons t ts ih =>
    intro at_ h
    obtain ⟨l, hl, h0⟩ := h t (List.mem_cons_self)
    obtain ⟨⟨d, r, rfl, hd⟩, hp⟩ := id hb
    have hrest : ∃ q, spread (d :: r) ts ++ (d :: r) = d :: q := by
      cases ts with
      | nil => exact ⟨r, rfl⟩
      | cons => exact ⟨_, rfl⟩
    obtain ⟨q, hq⟩ := hrest
    have hn := tok_len hl
    have hne : t.text ≠ [] := by intro e; rw [e] at hn; simp at hn
    have e1 : spread (d :: r) (t :: ts) ++ (d :: r) = (d :: r) ++ (t.text ++ d :: q) := by simp only [spread, List.append_assoc]; rw [← hq]
    have hb0 := blankN_zero q d hne hd (tok_blank hl h0)
    have ht : tok (t.text ++ d :: q) = some t := by rw [tok_stop _ _ _ hne hd]; exact tok_own hl
    obtain ⟨m, hm1, hm2⟩ := ih (at_ + (d :: r).length + t.text.length) (fun x hx => h x (List.mem_cons_of_mem _ hx))
    rw [e1, hp, lex_tok _ _ _ hb0 ht, List.drop_left, ← hq, hm1]
    exact ⟨_, rfl, by simp [hm2]⟩

/-- Each token of a text was read where no blank stood. -/
theorem lex_each : ∀ (k : Nat) (l : List UInt8), l.length ≤ k → ∀ at_ q, q ∈ (lex at_ l).1 → ∃ l', tok l' = some q.1 ∧ blankN l' = 0 := by
  intro k
  induction k with
  | zero =>
    intro l hk at_ q hq
    have : l = [] := List.eq_nil_of_length_eq_zero (by omega)
    subst this
    rw [lex_nil] at hq
    cases hq
  | succ k ih =>
    intro l hk at_ q hq
    by_cases hl : l = []
    · subst hl
      rw [lex_nil] at hq
      cases hq
    · have hl1 : 1 ≤ l.length := List.length_pos_iff.2 hl
      by_cases hb : blankN l = 0
      · cases ht : tok l with
        | none => rw [lex_none _ _ hb hl ht] at hq; cases hq
        | some t =>
          have hn := tok_len ht
          have hd : (l.drop t.text.length).length = l.length - t.text.length := List.length_drop
          rw [lex_tok _ _ _ hb ht] at hq
          rcases List.mem_cons.1 hq with e | e
          · subst e
            exact ⟨l, ht, hb⟩
          · exact ih _ (by omega) _ q e
      · have hd : (l.drop (blankN l)).length = l.length - blankN l := List.length_drop
        rw [lex_blank _ _ hb] at hq
        exact ih _ (by omega) _ q hq
end Lx
end Go.Proofs.YtoilhcklflmamaaGreatDoor

namespace Go.Proofs.YtoilhcklflmamaaGreatDoor
set_option linter.unusedVariables false
namespace Lx

/-- What the law's inner loop answers over what is left of a gap; the flag: a remark is open. -/
def gapGo : Bool → List UInt8 → Bool
  | _, [] => true
  | rem, c :: g =>
    if decide (c.toNat = 47) && !rem && !decide (g.head? = some 47) then false
    else if !(if decide (c.toNat = 10) then false else (rem || decide (c.toNat = 47))) && !blankC c then false
    else gapGo (if decide (c.toNat = 10) then false else (rem || decide (c.toNat = 47))) g

theorem gapGo_line : ∀ (u g : List UInt8), (∀ c ∈ u, c.toNat ≠ 10) → gapGo true (u ++ g) = gapGo true g := by
  intro u
  induction u with
  | nil => intro g _; rfl
  | cons c u ih =>
    intro g h
    have hc := h c (List.mem_cons_self)
    simp only [List.cons_append, gapGo]
    simp [hc, ih g (fun x hx => h x (List.mem_cons_of_mem _ hx))]
theorem gapGo_remark (u g : List UInt8) (h : ∀ c ∈ u, c.toNat ≠ 10) (hr : remarkB u = true) : gapGo false (u ++ g) = gapGo true g := by
  have ht := (isPrefix_two _ _ _).1 hr
  obtain ⟨v, hv⟩ : ∃ v, u = 47 :: 47 :: v := ⟨u.drop 2, by
    have := (List.take_append_drop 2 u).symm
    rw [ht] at this
    exact this⟩
  subst hv
  have := gapGo_line (47 :: v) g (fun c hc => h c (List.mem_cons_of_mem _ hc))
  rw [← this]
  simp [gapGo]
theorem gapGo_blank (c : UInt8) (g : List UInt8) (h : blankC c = true) : gapGo false (c :: g) = gapGo false g := by
  rcases blank_num h with e | e | e <;> simp [gapGo, e, h]
theorem gapGo_newline (g : List UInt8) : gapGo true (10 :: g) = gapGo false g := by
  simp [gapGo, blankC]

theorem lineN_mem (l : List UInt8) : ∀ c ∈ l.take (lineN l), c.toNat ≠ 10 := by
  intro c hc
  have e : l.take (lineN l) = l.takeWhile (fun c => !decide (c.toNat = 10)) := takeWhile_take _ _
  rw [e] at hc
  clear e
  induction l with
  | nil => simp at hc
  | cons d l ih =>
    by_cases h : d.toNat = 10
    · simp [h] at hc
    · simp [h] at hc
      rcases hc with rfl | hc
      · exact h
      · exact ih (by simpa using hc)
theorem lineN_next (l : List UInt8) : (l.drop (lineN l)).head? = some 10 ∨ l.drop (lineN l) = [] := by
  unfold lineN
  induction l with
  | nil => right; rfl
  | cons c l ih =>
    by_cases h : c.toNat = 10
    · left
      have : c = 10 := UInt8.toNat_inj.1 h
      simp [this]
    · simpa [h] using ih

/-- The first token behind a place, and the gap ahead of it. -/
def firstAt (at_ : Nat) (l : List UInt8) : Nat := match (lex at_ l).1 with
  | [] => at_ + l.length
  | q :: _ => q.2

theorem lex_gap : ∀ (k : Nat) (l : List UInt8), l.length ≤ k → ∀ at_ : Nat, (lex at_ l).2 = none →
    at_ ≤ firstAt at_ l ∧ firstAt at_ l ≤ at_ + l.length ∧ gapGo false (l.take (firstAt at_ l - at_)) = true ∧ ((l.head? = some 10 ∨ l = []) → gapGo true (l.take (firstAt at_ l - at_)) = true) ∧
    (∀ q ts, (lex at_ l).1 = q :: ts → q.2 = firstAt at_ l ∧ q.1.text = (l.drop (firstAt at_ l - at_)).take q.1.text.length ∧ firstAt at_ l - at_ + q.1.text.length ≤ l.length ∧ 1 ≤ q.1.text.length ∧ 1 ≤ q.1.kind ∧ q.1.kind ≤ 4 ∧
      lex (firstAt at_ l + q.1.text.length) (l.drop (firstAt at_ l - at_ + q.1.text.length)) = (ts, none)) := by
  intro k
  induction k with
  | zero =>
    intro l hk at_ h
    have : l = [] := List.eq_nil_of_length_eq_zero (by omega)
    subst this
    have e : firstAt at_ [] = at_ := by simp [firstAt, lex_nil]
    rw [e]
    refine ⟨Nat.le_refl _, by simp, by simp [gapGo], fun _ => by simp [gapGo], fun q ts h => ?_⟩
    rw [lex_nil] at h
    cases h
  | succ k ih =>
    intro l hk at_ h
    by_cases hl : l = []
    · subst hl
      have e : firstAt at_ [] = at_ := by simp [firstAt, lex_nil]
      rw [e]
      refine ⟨Nat.le_refl _, by simp, by simp [gapGo], fun _ => by simp [gapGo], fun q ts h => ?_⟩
      rw [lex_nil] at h
      cases h
    · have hl1 : 1 ≤ l.length := List.length_pos_iff.2 hl
      by_cases hb : blankN l = 0
      · cases ht : tok l with
        | none => rw [lex_none _ _ hb hl ht] at h; cases h
        | some t =>
          have hn := tok_len ht
          have hx := lex_tok at_ _ _ hb ht
          have e : firstAt at_ l = at_ := by unfold firstAt; rw [hx]
          rw [e]
          refine ⟨Nat.le_refl _, by omega, by simp [gapGo], fun _ => by simp [gapGo], fun q ts hq => ?_⟩
          rw [hx] at hq h
          simp only [List.cons.injEq] at hq
          obtain ⟨rfl, hts⟩ := hq
          refine ⟨rfl, ?_, ?_, hn.1, hn.2.2.2.1, hn.2.2.2.2.1, ?_⟩
          · rw [Nat.sub_self, List.drop_zero]; exact hn.2.1
          · have := hn.2.2.1; show at_ - at_ + t.text.length ≤ l.length; omega
          · rw [Nat.sub_self, Nat.zero_add]
            exact Prod.ext hts h
      · have hle := blankN_le l
        have hd : (l.drop (blankN l)).length = l.length - blankN l := List.length_drop
        have hx := lex_blank at_ _ hb
        rw [hx] at h
        obtain ⟨i1, i2, i3, i4, i5⟩ := ih (l.drop (blankN l)) (by omega) (at_ + blankN l) h
        have e : firstAt at_ l = firstAt (at_ + blankN l) (l.drop (blankN l)) := by
          unfold firstAt
          rw [hx]
          split
          · omega
          · rfl
        rw [← e] at i1 i2 i3 i4 i5
        obtain ⟨p, hp⟩ : ∃ p, firstAt at_ l = p := ⟨_, rfl⟩
        rw [hp] at i1 i2 i3 i4 i5 ⊢
        have hcut : l.take (p - at_) = l.take (blankN l) ++ (l.drop (blankN l)).take (p - (at_ + blankN l)) := by
          have h1 : (l.take (blankN l) ++ l.drop (blankN l)).take (p - at_) = l.take (blankN l) ++ (l.drop (blankN l)).take (p - at_ - (l.take (blankN l)).length) := by
            rw [List.take_append]
            congr 1
            exact List.take_of_length_le (by rw [List.length_take]; omega)
          rw [List.take_append_drop] at h1
          rw [h1, List.length_take, show p - at_ - min (blankN l) l.length = p - (at_ + blankN l) by omega]
        have both : gapGo false (l.take (p - at_)) = true ∧ ((l.head? = some 10 ∨ l = []) → gapGo true (l.take (p - at_)) = true) := by
          rw [hcut]
          by_cases hr : remarkB l = true
          · have hbl : blankN l = lineN l := by unfold blankN; rw [if_pos hr]
            rw [hbl] at i4 hb ⊢
            have hu := lineN_mem l
            have htk : 2 ≤ lineN l := by
              have := (isPrefix_two _ _ _).1 hr
              have h2 : l = 47 :: 47 :: l.drop 2 := by
                have h3 := (List.take_append_drop 2 l).symm
                rw [this] at h3
                exact h3
              rw [h2]
              simp [lineN]
            have hru : remarkB (l.take (lineN l)) = true := by
              apply (isPrefix_two _ _ _).2
              rw [List.take_take, Nat.min_eq_left htk]
              exact (isPrefix_two _ _ _).1 hr
            refine ⟨?_, fun hh => ?_⟩
            · rw [gapGo_remark _ _ hu hru]
              exact i4 (lineN_next l)
            · exfalso
              have := (isPrefix_two _ _ _).1 hr
              rcases hh with hh | hh
              · cases l with
                | nil => exact hl rfl
                | cons c l => cases l <;> simp at this hh; simp [hh] at this
              · exact hl hh
          · have hb1 : blankN l = 1 ∧ ∃ c r, l = c :: r ∧ blankC c = true := by
              unfold blankN at hb ⊢
              rw [if_neg hr] at hb ⊢
              cases l with
              | nil => exact absurd rfl hl
              | cons c r =>
                simp only at hb ⊢
                split at hb
                · rename_i hc
                  rw [if_pos hc]
                  exact ⟨rfl, c, r, rfl, hc⟩
                · exact absurd rfl hb
            obtain ⟨e1, c, r, rfl, hc⟩ := hb1
            rw [e1] at i3 ⊢
            refine ⟨?_, fun hh => ?_⟩
            · show gapGo false (c :: _) = true
              rw [gapGo_blank _ _ hc]
              exact i3
            · rcases hh with hh | hh
              · simp at hh
                subst hh
                show gapGo true (10 :: _) = true
                rw [gapGo_newline]
                exact i3
              · cases hh
        refine ⟨by omega, by omega, both.1, both.2, fun q ts hq => ?_⟩
        rw [hx] at hq
        obtain ⟨j1, j2, j3, j4, j5, j6, j7⟩ := i5 q ts hq
        rw [List.drop_drop] at j2 j7
        rw [show blankN l + (p - (at_ + blankN l)) = p - at_ by omega] at j2
        rw [show blankN l + (p - (at_ + blankN l) + q.1.text.length) = p - at_ + q.1.text.length by omega] at j7
        exact ⟨j1, j2, by omega, j4, j5, j6, j7⟩
end Lx
end Go.Proofs.YtoilhcklflmamaaGreatDoor
