/-
  Plain facts on bytes, tokens and texts: what a text's tokens are, by one function; no program; no conditions but those that each fact bears.
-/
import Derived.WalkKit
namespace Go.Proofs.YtkjkobiliinneaaDoor
set_option linter.unusedVariables false
namespace Lx

def letter (c : UInt8) : Bool := decide (97 ≤ c.toNat) && decide (c.toNat ≤ 122)
def digit (c : UInt8) : Bool := decide (48 ≤ c.toNat) && decide (c.toNat ≤ 57)
def alnum (c : UInt8) : Bool := letter c || digit c
def blankC (c : UInt8) : Bool := decide (c.toNat = 32) || decide (c.toNat = 9) || decide (c.toNat = 10)
def runN (l : List UInt8) : Nat := (l.takeWhile alnum).length
def digN (l : List UInt8) : Nat := (l.takeWhile digit).length

/-- The names of the types, by their numbers. -/
def types : List (List UInt8) := [[105, 56], [117, 56], [105, 49, 54], [117, 49, 54], [105, 51, 50], [117, 51, 50]]
/-- The other words. -/
def keys : List (List UInt8) := [[115, 116, 114, 117, 99, 116], [105, 102], [101, 108, 115, 101], [102, 111, 114], [116, 111], [112, 114, 105, 110, 116], [114, 101, 116, 117, 114, 110]]
def wordB (l : List UInt8) : Bool := (keys ++ types).contains l
/-- The place of a type's name; 6: none. -/
def intT (l : List UInt8) : Nat := types.findIdx (· == l)
def begins : List UInt8 → Bool
  | [] => false
  | c :: _ => letter c
def nameB (l : List UInt8) : Bool := decide (l.length ≤ 8) && begins l && decide (runN l = l.length) && !wordB l

def lo (t : Nat) : Int := match t with | 0 => -128 | 1 => 0 | 2 => -32768 | 3 => 0 | 4 => -2147483648 | _ => 0
def hi (t : Nat) : Int := match t with | 0 => 127 | 1 => 255 | 2 => 32767 | 3 => 65535 | 4 => 2147483647 | _ => 4294967295
def fits (t : Nat) (v : Int) : Bool := decide (t < 6) && decide (lo t ≤ v) && decide (v ≤ hi t)
def val (l : List UInt8) : Int := l.foldl (fun v c => v * 10 + ((c.toNat : Int) - 48)) 0

/-- A token, without its place. -/
structure Tk where
  kind : Nat
  text : List UInt8
  n : Int
  ty : Nat

def lettersT (l : List UInt8) : Option Tk :=
  if begins l then
    if wordB (l.take (runN l)) then some ⟨2, l.take (runN l), 0, 0⟩
    else if nameB (l.take (runN l)) then some ⟨1, l.take (runN l), 0, 0⟩ else none
  else none

def minusB (l : List UInt8) : Bool := [35, 45].isPrefixOf l
def body (l : List UInt8) : List UInt8 := if minusB l then l.drop 2 else l
/-- Digits that may stand in a number. -/
def digsOk (b : List UInt8) : Bool := decide (1 ≤ digN b) && decide (digN b ≤ 10) && !(decide (1 < digN b) && decide (b.head? = some 48))
/-- The letters and digits behind the digits. -/
def tail (b : List UInt8) : List UInt8 := (b.drop (digN b)).take (runN (b.drop (digN b)))
def numV (m : Bool) (b : List UInt8) : Int := if m then - val (b.take (digN b)) else val (b.take (digN b))
def numOk (m : Bool) (b : List UInt8) : Bool := digsOk b && !(m && decide (val (b.take (digN b)) = 0)) && fits (intT (tail b)) (numV m b)
def numberT (l : List UInt8) : Option Tk :=
  if numOk (minusB l) (body l) then some ⟨3, l.take (l.length - (body l).length + (digN (body l) + runN ((body l).drop (digN (body l))))), numV (minusB l) (body l), intT (tail (body l))⟩ else none

def twos : List (List UInt8) := [[60, 60], [62, 62], [60, 61], [62, 61], [61, 61], [33, 61], [38, 38], [124, 124]]
def ones : List UInt8 := [40, 41, 123, 125, 91, 93, 59, 44, 46, 63, 58, 43, 45, 42, 47, 37, 38, 124, 94, 126, 33, 60, 62, 61]
def signT (l : List UInt8) : Option Tk :=
  if twos.contains (l.take 2) then some ⟨4, l.take 2, 0, 0⟩
  else if (l.head?.map ones.contains).getD false then some ⟨4, l.take 1, 0, 0⟩ else none

def numC (c : UInt8) : Bool := digit c || decide (c.toNat = 35)
/-- The token that stands at the head of a text. -/
def tok (l : List UInt8) : Option Tk :=
  match l with
  | [] => none
  | c :: _ => if letter c then lettersT l else if numC c then numberT l else signT l

def remarkB (l : List UInt8) : Bool := [47, 47].isPrefixOf l
/-- How many bytes ahead of the next new line, or of the end. -/
def lineN (l : List UInt8) : Nat := (l.takeWhile fun c => !decide (c.toNat = 10)).length
def blankN (l : List UInt8) : Nat :=
  if remarkB l then lineN l else
  match l with
  | [] => 0
  | c :: _ => if blankC c then 1 else 0

/-- The tokens of a text that begins at a place, with their places; the place at fault. -/
def lexF : Nat → Nat → List UInt8 → List (Tk × Nat) × Option Nat
  | 0, _, _ => ([], none)
  | _ + 1, _, [] => ([], none)
  | k + 1, at_, c :: l =>
    if blankN (c :: l) ≠ 0 then lexF k (at_ + blankN (c :: l)) ((c :: l).drop (blankN (c :: l)))
    else match tok (c :: l) with
      | none => ([], some at_)
      | some t => ((t, at_) :: (lexF k (at_ + t.text.length) ((c :: l).drop t.text.length)).1, (lexF k (at_ + t.text.length) ((c :: l).drop t.text.length)).2)
def lex (at_ : Nat) (l : List UInt8) : List (Tk × Nat) × Option Nat := lexF l.length at_ l

/-! ### Small facts -/
theorem takeWhile_len (p : UInt8 → Bool) (l : List UInt8) : (l.takeWhile p).length ≤ l.length := (List.takeWhile_prefix p).length_le
theorem takeWhile_take (p : UInt8 → Bool) (l : List UInt8) : l.take (l.takeWhile p).length = l.takeWhile p := by
  exact (List.prefix_iff_eq_take.1 (List.takeWhile_prefix p)).symm
theorem runN_le (l : List UInt8) : runN l ≤ l.length := takeWhile_len _ _
theorem digN_le (l : List UInt8) : digN l ≤ l.length := takeWhile_len _ _
theorem lineN_le (l : List UInt8) : lineN l ≤ l.length := takeWhile_len _ _
theorem take_run (l : List UInt8) : l.take (runN l) = l.takeWhile alnum := takeWhile_take _ _
theorem take_dig (l : List UInt8) : l.take (digN l) = l.takeWhile digit := takeWhile_take _ _
theorem takeWhile_idem (p : UInt8 → Bool) (l : List UInt8) : (l.takeWhile p).takeWhile p = l.takeWhile p := by
  induction l with
  | nil => rfl
  | cons c l ih =>
    by_cases h : p c = true
    · simp [h, ih]
    · simp [h]
theorem takeWhile_stop (p : UInt8 → Bool) (l r : List UInt8) (d : UInt8) (h : p d = false) : (l ++ d :: r).takeWhile p = l.takeWhile p := by
  induction l with
  | nil => simp [h]
  | cons c l ih =>
    by_cases hc : p c = true
    · simp [hc, ih]
    · simp [hc]
theorem blank_num {c : UInt8} (h : blankC c = true) : c.toNat = 32 ∨ c.toNat = 9 ∨ c.toNat = 10 := by
  simp only [blankC, Bool.or_eq_true, decide_eq_true_eq] at h; omega
theorem alnum_blank {c : UInt8} (h : blankC c = true) : alnum c = false := by
  rcases blank_num h with e | e | e <;> simp [alnum, letter, digit, e]
theorem digit_blank {c : UInt8} (h : blankC c = true) : digit c = false := by
  rcases blank_num h with e | e | e <;> simp [digit, e]
theorem letter_blank {c : UInt8} (h : blankC c = true) : letter c = false := by
  rcases blank_num h with e | e | e <;> simp [letter, e]
theorem runN_stop (l r : List UInt8) (d : UInt8) (h : blankC d = true) : runN (l ++ d :: r) = runN l := by
  unfold runN; rw [takeWhile_stop _ _ _ _ (alnum_blank h)]
theorem digN_stop (l r : List UInt8) (d : UInt8) (h : blankC d = true) : digN (l ++ d :: r) = digN l := by
  unfold digN; rw [takeWhile_stop _ _ _ _ (digit_blank h)]
theorem runN_take (l : List UInt8) : runN (l.take (runN l)) = runN l := by
  unfold runN; rw [takeWhile_take, takeWhile_idem]
theorem digN_take (l : List UInt8) : digN (l.take (digN l)) = digN l := by
  unfold digN; rw [takeWhile_take, takeWhile_idem]
theorem letter_alnum {c : UInt8} (h : letter c = true) : alnum c = true := by simp [alnum, h]
theorem digit_alnum {c : UInt8} (h : digit c = true) : alnum c = true := by simp [alnum, h]

theorem tok_len {l : List UInt8} {t : Tk} (h : tok l = some t) : 1 ≤ t.text.length ∧ t.text = l.take t.text.length ∧ t.text.length ≤ l.length ∧ 1 ≤ t.kind ∧ t.kind ≤ 4 ∧ t.ty ≤ 5 ∧ -4294967296 ≤ t.n ∧ t.n ≤ 4294967296 := by
  cases l with
  | nil => simp [tok] at h
  | cons c l =>
    simp only [tok] at h
    split at h
    · rename_i hc
      have h1 : 1 ≤ runN (c :: l) := by simp [runN, letter_alnum hc]
      have h2 := runN_le (c :: l)
      simp only [lettersT] at h
      have fin : ∀ k : Nat, 1 ≤ k → k ≤ 4 → some (⟨k, (c :: l).take (runN (c :: l)), 0, 0⟩ : Tk) = some t → 1 ≤ t.text.length ∧ t.text = (c :: l).take t.text.length ∧ t.text.length ≤ (c :: l).length ∧ 1 ≤ t.kind ∧ t.kind ≤ 4 ∧ t.ty ≤ 5 ∧ -4294967296 ≤ t.n ∧ t.n ≤ 4294967296 := by
        intro k k1 k2 e
        obtain rfl := Option.some.inj e
        have e1 : ((c :: l).take (runN (c :: l))).length = runN (c :: l) := by rw [List.length_take]; omega
        refine ⟨?_, ?_, ?_, k1, k2, ?_, ?_, ?_⟩
        · show 1 ≤ ((c :: l).take (runN (c :: l))).length
          omega
        · show (c :: l).take (runN (c :: l)) = (c :: l).take ((c :: l).take (runN (c :: l))).length
          rw [e1]
        · show ((c :: l).take (runN (c :: l))).length ≤ _
          omega
        · exact Nat.zero_le 5
        · show (-4294967296 : Int) ≤ 0
          omega
        · show (0 : Int) ≤ 4294967296
          omega
      split at h
      · split at h
        · exact fin 2 (by omega) (by omega) h
        · split at h
          · exact fin 1 (by omega) (by omega) h
          · cases h
      · cases h
    · split at h
      · simp only [numberT] at h
        split at h
        · rename_i ho
          have h2 := runN_le ((body (c :: l)).drop (digN (body (c :: l))))
          have h3 := digN_le (body (c :: l))
          rw [List.length_drop] at h2
          have hb : (body (c :: l)).length ≤ (c :: l).length := by unfold body; split <;> first | exact Nat.le_refl _ | (rw [List.length_drop]; omega)
          simp only [numOk, Bool.and_eq_true] at ho
          have h1 : 1 ≤ digN (body (c :: l)) := by
            have := ho.1.1
            simp only [digsOk, Bool.and_eq_true, decide_eq_true_eq] at this
            exact this.1.1
          have hf := ho.2
          simp only [fits, Bool.and_eq_true, decide_eq_true_eq] at hf
          obtain ⟨⟨f1, f2⟩, f3⟩ := hf
          have flo : -4294967296 ≤ lo (intT (tail (body (c :: l)))) := by unfold lo; split <;> omega
          have fhi : hi (intT (tail (body (c :: l)))) ≤ 4294967296 := by unfold hi; split <;> omega
          obtain rfl := Option.some.inj h
          have e1 : ((c :: l).take ((c :: l).length - (body (c :: l)).length + (digN (body (c :: l)) + runN ((body (c :: l)).drop (digN (body (c :: l))))))).length = (c :: l).length - (body (c :: l)).length + (digN (body (c :: l)) + runN ((body (c :: l)).drop (digN (body (c :: l))))) := by rw [List.length_take]; omega
          refine ⟨?_, ?_, ?_, by show 1 ≤ 3; omega, by show 3 ≤ 4; omega, ?_, ?_, ?_⟩
          · show 1 ≤ ((c :: l).take _).length
            rw [e1]; omega
          · show (c :: l).take _ = (c :: l).take ((c :: l).take _).length
            rw [e1]
          · show ((c :: l).take _).length ≤ _
            rw [e1]; omega
          · show intT _ ≤ 5
            omega
          · show _ ≤ numV _ _
            omega
          · show numV _ _ ≤ _
            omega
        · cases h
      · simp only [signT] at h
        split at h
        · rename_i ht
          obtain rfl := Option.some.inj h
          cases l with
          | nil => simp [twos] at ht
          | cons d l => refine ⟨?_, ?_, ?_, ?_, ?_, ?_, ?_, ?_⟩ <;> simp
        · split at h
          · obtain rfl := Option.some.inj h
            refine ⟨?_, ?_, ?_, ?_, ?_, ?_, ?_, ?_⟩ <;> simp
          · cases h

theorem blankN_le (l : List UInt8) : blankN l ≤ l.length := by
  unfold blankN
  split
  · exact lineN_le l
  · split
    · simp
    · split <;> simp

/-- Fuel that suffices makes no difference. -/
theorem lexF_more (k : Nat) : ∀ (m at_ : Nat) (l : List UInt8), l.length ≤ k → l.length ≤ m → lexF k at_ l = lexF m at_ l := by
  induction k with
  | zero =>
    intro m at_ l h1 h2
    have : l = [] := List.eq_nil_of_length_eq_zero (by omega)
    subst this
    cases m <;> simp [lexF]
  | succ k ih =>
    intro m at_ l h1 h2
    cases l with
    | nil => cases m <;> simp [lexF]
    | cons c l =>
      cases m with
      | zero => simp at h2
      | succ m =>
        simp only [List.length_cons] at h1 h2
        simp only [lexF]
        split
        · rename_i hb
          have hd : ((c :: l).drop (blankN (c :: l))).length ≤ l.length := by rw [List.length_drop, List.length_cons]; omega
          exact ih m _ _ (by omega) (by omega)
        · cases hk : tok (c :: l) with
          | none => rfl
          | some t =>
            have ht := tok_len hk
            have hd : ((c :: l).drop t.text.length).length ≤ l.length := by rw [List.length_drop, List.length_cons]; omega
            simp only
            rw [ih m (at_ + t.text.length) _ (by omega) (by omega)]

theorem lex_nil (at_ : Nat) : lex at_ [] = ([], none) := by simp [lex, lexF]
theorem lex_blank (at_ : Nat) (l : List UInt8) (h : blankN l ≠ 0) : lex at_ l = lex (at_ + blankN l) (l.drop (blankN l)) := by
  cases l with
  | nil => exact absurd rfl h
  | cons c l =>
    have hd : ((c :: l).drop (blankN (c :: l))).length ≤ l.length := by rw [List.length_drop, List.length_cons]; omega
    unfold lex
    simp only [List.length_cons, lexF]
    rw [if_pos h]
    exact lexF_more _ _ _ _ hd (Nat.le_refl _)
theorem lex_tok (at_ : Nat) (l : List UInt8) (t : Tk) (h : blankN l = 0) (ht : tok l = some t) : lex at_ l = ((t, at_) :: (lex (at_ + t.text.length) (l.drop t.text.length)).1, (lex (at_ + t.text.length) (l.drop t.text.length)).2) := by
  cases l with
  | nil => simp [tok] at ht
  | cons c l =>
    have hl := tok_len ht
    have hd : ((c :: l).drop t.text.length).length ≤ l.length := by rw [List.length_drop, List.length_cons]; omega
    unfold lex
    simp only [List.length_cons, lexF]
    rw [if_neg (by omega), ht]
    simp only
    rw [lexF_more l.length _ _ _ hd (Nat.le_refl _)]
theorem lex_none (at_ : Nat) (l : List UInt8) (h : blankN l = 0) (hl : l ≠ []) (ht : tok l = none) : lex at_ l = ([], some at_) := by
  cases l with
  | nil => exact absurd rfl hl
  | cons c l =>
    unfold lex
    simp only [List.length_cons, lexF]
    rw [if_neg (by omega), ht]
end Lx
end Go.Proofs.YtkjkobiliinneaaDoor
