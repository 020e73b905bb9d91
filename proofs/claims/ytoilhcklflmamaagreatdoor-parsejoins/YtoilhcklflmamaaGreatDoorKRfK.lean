/-
  Where a reader gives up, and what a program's first node is: facts on the plain reader; no program; no conditions but those that each fact bears.
-/
import Derived.Test.YtoilhcklflmamaaGreatDoorKPrZ
namespace Go.Proofs.YtoilhcklflmamaaGreatDoor
set_option linter.unusedVariables false
open Pr

def Bd (M : Nat) (s : St) : Prop := ∀ q ∈ s.t, q.2 ≤ M
def Pl {α : Type} (M : Nat) (r : Rs α) : Prop := match r with
  | .ok _ s => Bd M s
  | .bad _ p => p ≤ M
  | .out => True
theorem Pl.bnd {α β : Type} {M : Nat} {r : Rs α} {f : α → St → Rs β} (h : Pl M r) (k : ∀ a s, Bd M s → Pl M (f a s)) : Pl M (r.bnd f) := by
  cases r with
  | ok a s => exact k a s h
  | bad f p => exact h
  | out => trivial
theorem Bd.hd {M : Nat} {s : St} (h : Bd M s) : (hd s).2 ≤ M := by
  unfold Pr.hd
  cases hs : s.t with
  | nil => exact Nat.zero_le _
  | cons q l => exact h q (by rw [hs]; exact List.mem_cons_self)
theorem Bd.s1 {M : Nat} {s : St} (h : Bd M s) : Bd M (s1 s) := fun q hq => h q (List.mem_of_mem_tail hq)
theorem pl_take {M : Nat} {s : St} (h : Bd M s) : Pl M (takeM s) := by
  unfold takeM
  split
  · exact h.s1.hd
  · exact h.s1
theorem pl_fail {α : Type} {M : Nat} {s : St} (h : Bd M s) : Pl M (failM s : Rs α) := h.hd
theorem pl_ok {α : Type} {M : Nat} {s : St} {a : α} (h : Bd M s) : Pl M (Rs.ok a s) := h
theorem pl_try {M : Nat} {s : St} {x : List UInt8} (h : Bd M s) : Pl M (tryM x s) := by
  unfold tryM
  split
  · exact (pl_take h).bnd fun _ _ h => h
  · exact h
theorem pl_need {M : Nat} {s : St} {x : List UInt8} (h : Bd M s) : Pl M (needM x s) := by
  unfold needM
  split
  · exact pl_take h
  · exact h.hd
theorem pl_node {M : Nat} {s : St} (h : Bd M s) : Pl M (nodeM s) := by
  unfold nodeM
  split
  · exact h.hd
  · exact h
theorem pl_name {M : Nat} {s : St} (h : Bd M s) : Pl M (nameM s) := by
  unfold nameM
  split
  · exact (pl_take h).bnd fun _ _ h => h
  · exact h.hd
theorem pl_number {M : Nat} {s : St} (h : Bd M s) : Pl M (numberM s) := by
  unfold numberM
  split
  · exact (pl_take h).bnd fun _ _ h => h
  · exact h.hd
theorem pl_count {M : Nat} {s : St} (h : Bd M s) : Pl M (countM s) := by
  unfold countM
  split
  · exact (pl_take h).bnd fun _ _ h => h
  · exact h.hd
theorem pl_int {M : Nat} {s : St} (h : Bd M s) : Pl M (intM s) := by
  unfold intM
  split
  · exact (pl_take h).bnd fun _ _ h => h
  · exact h.hd

set_option maxHeartbeats 1000000 in
theorem pl_rd (M : Nat) : ∀ (n : Nat) (nt : NT) (s : St), Bd M s → Pl M (rd n nt s) := by
  intro n
  induction n with
  | zero => intro nt s h; trivial
  | succ n ih =>
    intro nt s h
    cases nt <;> unfold rd <;> dsimp only
    all_goals repeat' (first | exact h | assumption | (apply pl_ok; assumption) | (apply ih; assumption) | (apply pl_take; assumption) | (apply pl_try; assumption) | (apply pl_need; assumption) | (apply pl_node; assumption) | (apply pl_name; assumption) | (apply pl_number; assumption) | (apply pl_count; assumption) | (apply pl_int; assumption) | (apply pl_fail; assumption) | (refine Pl.bnd ?_ (fun _ _ _ => ?_)) | split)

theorem toks_bd (l : List UInt8) : Bd l.length ⟨toks l, 0, 0⟩ := by
  intro q hq
  simp only [toks, List.mem_append, List.mem_singleton] at hq
  rcases hq with hq | rfl
  · have := lex_place l.length l (Nat.le_refl _) 0 q hq
    omega
  · exact Nat.le_refl _
theorem prog_place {l : List UInt8} {k p : Nat} (h : prog (toks l) = .bad k p) : p ≤ l.length := by
  have : Pl l.length (prog (toks l)) := (pl_node (toks_bd l)).bnd fun _ s h => pl_rd _ _ _ _ h
  rw [h] at this
  exact this
theorem items_first : ∀ (n : Nat) (l : Fo) (s : St) (x : Nd) (s' : St), rd n (.items l) s = .ok x s' → x.1 = nk 1 := by
  intro n
  induction n with
  | zero => intro l s x s' h; cases h
  | succ n ih =>
    intro l s x s' h
    have e : rd (n + 1) (.items l) s = if (hd s).1.kind = 0 then .ok (nk 1, l) s else (rd n .item s).bnd fun x => rd n (.items (l.app (one x))) := rfl
    rw [e] at h
    split at h
    · cases h; rfl
    · cases h1 : rd n .item s with
      | ok y s2 => rw [h1] at h; exact ih _ _ _ _ h
      | bad k p => rw [h1] at h; cases h
      | out => rw [h1] at h; cases h
theorem prog_first {L : List Tok} {x : Nd} {s : St} (h : prog L = .ok x s) : x.1 = nk 1 := by
  unfold prog at h
  cases h1 : nodeM ⟨L, 0, 0⟩ with
  | ok y s2 => rw [h1] at h; exact items_first _ _ _ _ _ h
  | bad k p => rw [h1] at h; cases h
  | out => rw [h1] at h; cases h
theorem lex_fault : ∀ (k : Nat) (l : List UInt8), l.length ≤ k → ∀ at_ p, (Lx.lex at_ l).2 = some p → p ≤ at_ + l.length := by
  intro k
  induction k with
  | zero =>
    intro l hk at_ p hp
    have : l = [] := List.eq_nil_of_length_eq_zero (by omega)
    subst this
    simp [Lx.lex_nil] at hp
  | succ k ih =>
    intro l hk at_ p hp
    by_cases hl : l = []
    · subst hl
      simp [Lx.lex_nil] at hp
    · have hl1 : 1 ≤ l.length := List.length_pos_iff.2 hl
      by_cases hb : Lx.blankN l = 0
      · cases ht : Lx.tok l with
        | none =>
          rw [Lx.lex_none _ _ hb hl ht] at hp
          simp at hp
          omega
        | some t =>
          have hn := Lx.tok_len ht
          have hd : (l.drop t.text.length).length = l.length - t.text.length := List.length_drop
          rw [Lx.lex_tok _ _ _ hb ht] at hp
          have := ih (l.drop t.text.length) (by omega) (at_ + t.text.length) p hp
          omega
      · have hd : (l.drop (Lx.blankN l)).length = l.length - Lx.blankN l := List.length_drop
        rw [Lx.lex_blank _ _ hb] at hp
        have h0 := ih (l.drop (Lx.blankN l)) (by omega) (at_ + Lx.blankN l) p hp
        have hle : Lx.blankN l ≤ l.length := by
          unfold Lx.blankN
          split
          · exact Lx.lineN_le l
          · split
            · omega
            · split
              · simp
              · omega
        omega
theorem lex_count : ∀ (k : Nat) (l : List UInt8), l.length ≤ k → ∀ at_, (Lx.lex at_ l).1.length ≤ l.length := by
  intro k
  induction k with
  | zero =>
    intro l hk at_
    have : l = [] := List.eq_nil_of_length_eq_zero (by omega)
    subst this
    simp [Lx.lex_nil]
  | succ k ih =>
    intro l hk at_
    by_cases hl : l = []
    · subst hl
      simp [Lx.lex_nil]
    · have hl1 : 1 ≤ l.length := List.length_pos_iff.2 hl
      by_cases hb : Lx.blankN l = 0
      · cases ht : Lx.tok l with
        | none => rw [Lx.lex_none _ _ hb hl ht]; simp
        | some t =>
          have hn := Lx.tok_len ht
          have hd : (l.drop t.text.length).length = l.length - t.text.length := List.length_drop
          rw [Lx.lex_tok _ _ _ hb ht]
          have := ih (l.drop t.text.length) (by omega) (at_ + t.text.length)
          simp only [List.length_cons]
          omega
      · have hd : (l.drop (Lx.blankN l)).length = l.length - Lx.blankN l := List.length_drop
        rw [Lx.lex_blank _ _ hb]
        have := ih (l.drop (Lx.blankN l)) (by omega) (at_ + Lx.blankN l)
        omega
theorem toks_len (l : List UInt8) (h : l.length ≤ 65536) : (toks l).length ≤ 70000 := by
  have := lex_count l.length l (Nat.le_refl _) 0
  simp only [toks, List.length_append, List.length_singleton]
  omega

end Go.Proofs.YtoilhcklflmamaaGreatDoor
