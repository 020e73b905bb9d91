/-
  Plain facts on what stands between tokens: blanks and remarks alone, as the law goes through it; no program.
-/
import Derived.Test.YtkjkobiliinneaaDoorPlainB
namespace Go.Proofs.YtkjkobiliinneaaDoor
set_option linter.unusedVariables false
namespace Lx

/-- What the law's inner loop answers over what is left of a gap; the flag: a remark is open. -/
def gapGo : Bool → List UInt8 → Bool
  | _, [] => true
  | rem, c :: g =>
    if decide (c.toNat = 47) && !rem && !decide (g.head? = some 47) then false
    else if !(if decide (c.toNat = 10) then false else (rem || decide (c.toNat = 47))) && !blankC c then false
    else gapGo (if decide (c.toNat = 10) then false else (rem || decide (c.toNat = 47))) g

theorem gapGo_line : ∀ (u g : List UInt8), (∀ c ∈ u, c.toNat ≠ 10) → gapGo true (u ++ g) = gapGo true g := by
  intro u
  induction u with
  | nil => intro g _; rfl
  | cons c u ih =>
    intro g h
    have hc := h c (List.mem_cons_self)
    simp only [List.cons_append, gapGo]
    simp [hc, ih g (fun x hx => h x (List.mem_cons_of_mem _ hx))]
theorem gapGo_remark (u g : List UInt8) (h : ∀ c ∈ u, c.toNat ≠ 10) (hr : remarkB u = true) : gapGo false (u ++ g) = gapGo true g := by
  have ht := (isPrefix_two _ _ _).1 hr
  obtain ⟨v, hv⟩ : ∃ v, u = 47 :: 47 :: v := ⟨u.drop 2, by
    have := (List.take_append_drop 2 u).symm
    rw [ht] at this
    exact this⟩
  subst hv
  have := gapGo_line (47 :: v) g (fun c hc => h c (List.mem_cons_of_mem _ hc))
  rw [← this]
  simp [gapGo]
theorem gapGo_blank (c : UInt8) (g : List UInt8) (h : blankC c = true) : gapGo false (c :: g) = gapGo false g := by
  rcases blank_num h with e | e | e <;> simp [gapGo, e, h]
theorem gapGo_newline (g : List UInt8) : gapGo true (10 :: g) = gapGo false g := by
  simp [gapGo, blankC]

theorem lineN_mem (l : List UInt8) : ∀ c ∈ l.take (lineN l), c.toNat ≠ 10 := by
  intro c hc
  have e : l.take (lineN l) = l.takeWhile (fun c => !decide (c.toNat = 10)) := takeWhile_take _ _
  rw [e] at hc
  clear e
  induction l with
  | nil => simp at hc
  | cons d l ih =>
    by_cases h : d.toNat = 10
    · simp [h] at hc
    · simp [h] at hc
      rcases hc with rfl | hc
      · exact h
      · exact ih (by simpa using hc)
theorem lineN_next (l : List UInt8) : (l.drop (lineN l)).head? = some 10 ∨ l.drop (lineN l) = [] := by
  unfold lineN
  induction l with
  | nil => right; rfl
  | cons c l ih =>
    by_cases h : c.toNat = 10
    · left
      have : c = 10 := UInt8.toNat_inj.1 h
      simp [this]
    · simpa [h] using ih

/-- The first token behind a place, and the gap ahead of it. -/
def firstAt (at_ : Nat) (l : List UInt8) : Nat := match (lex at_ l).1 with
  | [] => at_ + l.length
  | q :: _ => q.2

theorem lex_gap : ∀ (k : Nat) (l : List UInt8), l.length ≤ k → ∀ at_ : Nat, (lex at_ l).2 = none →
    at_ ≤ firstAt at_ l ∧ firstAt at_ l ≤ at_ + l.length ∧ gapGo false (l.take (firstAt at_ l - at_)) = true ∧ ((l.head? = some 10 ∨ l = []) → gapGo true (l.take (firstAt at_ l - at_)) = true) ∧
    (∀ q ts, (lex at_ l).1 = q :: ts → q.2 = firstAt at_ l ∧ q.1.text = (l.drop (firstAt at_ l - at_)).take q.1.text.length ∧ firstAt at_ l - at_ + q.1.text.length ≤ l.length ∧ 1 ≤ q.1.text.length ∧ 1 ≤ q.1.kind ∧ q.1.kind ≤ 4 ∧
      lex (firstAt at_ l + q.1.text.length) (l.drop (firstAt at_ l - at_ + q.1.text.length)) = (ts, none)) := by
  intro k
  induction k with
  | zero =>
    intro l hk at_ h
    have : l = [] := List.eq_nil_of_length_eq_zero (by omega)
    subst this
    have e : firstAt at_ [] = at_ := by simp [firstAt, lex_nil]
    rw [e]
    refine ⟨Nat.le_refl _, by simp, by simp [gapGo], fun _ => by simp [gapGo], fun q ts h => ?_⟩
    rw [lex_nil] at h
    cases h
  | succ k ih =>
    intro l hk at_ h
    by_cases hl : l = []
    · subst hl
      have e : firstAt at_ [] = at_ := by simp [firstAt, lex_nil]
      rw [e]
      refine ⟨Nat.le_refl _, by simp, by simp [gapGo], fun _ => by simp [gapGo], fun q ts h => ?_⟩
      rw [lex_nil] at h
      cases h
    · have hl1 : 1 ≤ l.length := List.length_pos_iff.2 hl
      by_cases hb : blankN l = 0
      · cases ht : tok l with
        | none => rw [lex_none _ _ hb hl ht] at h; cases h
        | some t =>
          have hn := tok_len ht
          have hx := lex_tok at_ _ _ hb ht
          have e : firstAt at_ l = at_ := by unfold firstAt; rw [hx]
          rw [e]
          refine ⟨Nat.le_refl _, by omega, by simp [gapGo], fun _ => by simp [gapGo], fun q ts hq => ?_⟩
          rw [hx] at hq h
          simp only [List.cons.injEq] at hq
          obtain ⟨rfl, hts⟩ := hq
          refine ⟨rfl, ?_, ?_, hn.1, hn.2.2.2.1, hn.2.2.2.2.1, ?_⟩
          · rw [Nat.sub_self, List.drop_zero]; exact hn.2.1
          · have := hn.2.2.1; show at_ - at_ + t.text.length ≤ l.length; omega
          · rw [Nat.sub_self, Nat.zero_add]
            exact Prod.ext hts h
      · have hle := blankN_le l
        have hd : (l.drop (blankN l)).length = l.length - blankN l := List.length_drop
        have hx := lex_blank at_ _ hb
        rw [hx] at h
        obtain ⟨i1, i2, i3, i4, i5⟩ := ih (l.drop (blankN l)) (by omega) (at_ + blankN l) h
        have e : firstAt at_ l = firstAt (at_ + blankN l) (l.drop (blankN l)) := by
          unfold firstAt
          rw [hx]
          split
          · omega
          · rfl
        rw [← e] at i1 i2 i3 i4 i5
        obtain ⟨p, hp⟩ : ∃ p, firstAt at_ l = p := ⟨_, rfl⟩
        rw [hp] at i1 i2 i3 i4 i5 ⊢
        have hcut : l.take (p - at_) = l.take (blankN l) ++ (l.drop (blankN l)).take (p - (at_ + blankN l)) := by
          have h1 : (l.take (blankN l) ++ l.drop (blankN l)).take (p - at_) = l.take (blankN l) ++ (l.drop (blankN l)).take (p - at_ - (l.take (blankN l)).length) := by
            rw [List.take_append]
            congr 1
            exact List.take_of_length_le (by rw [List.length_take]; omega)
          rw [List.take_append_drop] at h1
          rw [h1, List.length_take, show p - at_ - min (blankN l) l.length = p - (at_ + blankN l) by omega]
        have both : gapGo false (l.take (p - at_)) = true ∧ ((l.head? = some 10 ∨ l = []) → gapGo true (l.take (p - at_)) = true) := by
          rw [hcut]
          by_cases hr : remarkB l = true
          · have hbl : blankN l = lineN l := by unfold blankN; rw [if_pos hr]
            rw [hbl] at i4 hb ⊢
            have hu := lineN_mem l
            have htk : 2 ≤ lineN l := by
              have := (isPrefix_two _ _ _).1 hr
              have h2 : l = 47 :: 47 :: l.drop 2 := by
                have h3 := (List.take_append_drop 2 l).symm
                rw [this] at h3
                exact h3
              rw [h2]
              simp [lineN]
            have hru : remarkB (l.take (lineN l)) = true := by
              apply (isPrefix_two _ _ _).2
              rw [List.take_take, Nat.min_eq_left htk]
              exact (isPrefix_two _ _ _).1 hr
            refine ⟨?_, fun hh => ?_⟩
            · rw [gapGo_remark _ _ hu hru]
              exact i4 (lineN_next l)
            · exfalso
              have := (isPrefix_two _ _ _).1 hr
              rcases hh with hh | hh
              · cases l with
                | nil => exact hl rfl
                | cons c l => cases l <;> simp at this hh; simp [hh] at this
              · exact hl hh
          · have hb1 : blankN l = 1 ∧ ∃ c r, l = c :: r ∧ blankC c = true := by
              unfold blankN at hb ⊢
              rw [if_neg hr] at hb ⊢
              cases l with
              | nil => exact absurd rfl hl
              | cons c r =>
                simp only at hb ⊢
                split at hb
                · rename_i hc
                  rw [if_pos hc]
                  exact ⟨rfl, c, r, rfl, hc⟩
                · exact absurd rfl hb
            obtain ⟨e1, c, r, rfl, hc⟩ := hb1
            rw [e1] at i3 ⊢
            refine ⟨?_, fun hh => ?_⟩
            · show gapGo false (c :: _) = true
              rw [gapGo_blank _ _ hc]
              exact i3
            · rcases hh with hh | hh
              · simp at hh
                subst hh
                show gapGo true (10 :: _) = true
                rw [gapGo_newline]
                exact i3
              · cases hh
        refine ⟨by omega, by omega, both.1, both.2, fun q ts hq => ?_⟩
        rw [hx] at hq
        obtain ⟨j1, j2, j3, j4, j5, j6, j7⟩ := i5 q ts hq
        rw [List.drop_drop] at j2 j7
        rw [show blankN l + (p - (at_ + blankN l)) = p - at_ by omega] at j2
        rw [show blankN l + (p - (at_ + blankN l) + q.1.text.length) = p - at_ + q.1.text.length by omega] at j7
        exact ⟨j1, j2, by omega, j4, j5, j6, j7⟩
end Lx
end Go.Proofs.YtkjkobiliinneaaDoor
