/-
  Lists of tokens as they lie in memory, Lex's contract over them, and the law's own example; the conditions: the two lists of layer 4 lie as its text lays them.
-/
import Derived.Test.YtkjkobiliinneaaDoorLexB
namespace Go.Proofs.YtkjkobiliinneaaDoor
open Go.RowKit
set_option linter.unusedVariables false

/-- A list of tokens lies in memory. -/
structure Tks (w : World) (g cap : Nat) (L : List (Lx.Tk × Nat)) : Prop where
  lt : g < w.heap.size
  le : L.length ≤ cap
  max : cap ≤ maxLen
  cells : ∀ i q, L[i]? = some q → ∀ j u, (tkC q)[j]? = some u → w.cell? ⟨g, i * 5 + j, none⟩ = some u

theorem tksC_at (L : List (Lx.Tk × Nat)) : ∀ (i : Nat) (q : Lx.Tk × Nat), L[i]? = some q → ∀ j u, (tkC q)[j]? = some u → (tksC L)[i * 5 + j]? = some u := by
  induction L with
  | nil => intro i q h; simp at h
  | cons p L ih =>
    intro i q h j u hu
    have hl : (tkC p).length = 5 := rfl
    cases i with
    | zero =>
      simp at h
      subst h
      have hj : j < 5 := by
        obtain ⟨h1, _⟩ := List.getElem?_eq_some_iff.1 hu
        exact h1
      simp only [tksC, Nat.zero_mul, Nat.zero_add]
      rw [List.getElem?_append_left (by rw [hl]; exact hj)]
      exact hu
    | succ i =>
      simp only [tksC]
      rw [List.getElem?_append_right (by rw [hl]; omega), hl, show (i + 1) * 5 + j - 5 = i * 5 + j by omega]
      exact ih i q (by simpa using h) j u hu
theorem addr_add (g n : Nat) : (⟨g, 0, none⟩ : Addr).add n = ⟨g, n, none⟩ := by
  by_cases hz : n = 0
  · subst hz; rfl
  · simp [Addr.add, hz]
theorem tks_of {w : World} {base : Nat} {v : Value} {L : List (Lx.Tk × Nat)} (h : w.ownsRow base 35 5 v L.length (tksC L)) (hn : 0 < L.length) : ∃ g cap, v = .slice (some ⟨g, 0, none⟩) L.length cap ∧ base ≤ g ∧ Tks w g cap L := by
  have h0 := h
  rcases h.2 with ⟨_, h0⟩ | ⟨g, cap, cur, h1, h2, h3, h4, h5, _⟩
  · omega
  · subst h1
    refine ⟨g, cap, rfl, h2, lt_of_heap h3, h4, h5, fun i q hq j u hu => ?_⟩
    have := h0.cells rfl (i * 5 + j) u (tksC_at L i q hq j u hu)
    rw [addr_add] at this
    exact this
theorem Tks.keep {w w' : World} {g cap : Nat} {L : List (Lx.Tk × Nat)} (h : Tks w g cap L) (q : Q w w') : Tks w' g cap L :=
  ⟨Nat.lt_of_lt_of_le h.lt q.size, h.le, h.max, fun i p hp j u hu => (q.cell (p := ⟨g, i * 5 + j, none⟩) h.lt).trans (h.cells i p hp j u hu)⟩
theorem Tks.five {w : World} {g cap : Nat} {L : List (Lx.Tk × Nat)} (h : Tks w g cap L) (i : Nat) (q : Lx.Tk × Nat) (hq : L[i]? = some q) : w.cell? ⟨g, i * 5, none⟩ = some (.int .u8 q.1.kind) ∧ w.cell? ⟨g, i * 5 + 1, none⟩ = some (.string ⟨q.1.text.toArray⟩) ∧ w.cell? ⟨g, i * 5 + 2, none⟩ = some (.int .i64 q.1.n) ∧ w.cell? ⟨g, i * 5 + 3, none⟩ = some (.int .u8 q.1.ty) ∧ w.cell? ⟨g, i * 5 + 4, none⟩ = some (.int .i64 q.2) :=
  ⟨h.cells i q hq 0 _ rfl, h.cells i q hq 1 _ rfl, h.cells i q hq 2 _ rfl, h.cells i q hq 3 _ rfl, h.cells i q hq 4 _ rfl⟩

/-- All tokens of a text that has them, the end last. -/
def toks (l : List UInt8) : List (Lx.Tk × Nat) := (Lx.lex 0 l).1 ++ [(endTk, l.length)]
theorem lex_ok (s : ByteArray) (w : World) (hs : s.size ≤ 65536) (hL : Laid w) (h : (Lx.lex 0 (bl s)).2 = none) :
    Calls Tryd.prog 9 #[.string s] w fun e w' => ∃ g cap, e = .returned (.tuple #[.slice (some ⟨g, 0, none⟩) (toks (bl s)).length cap, .int .i64 0, .int .i64 0]) ∧ w.heap.size ≤ g ∧ Tks w' g cap (toks (bl s)) ∧ Q w w' := by
  refine (lex_any s w hs hL).mono ?_
  rintro e w' ⟨hq, h1, _⟩
  obtain ⟨v, rfl, ho⟩ := h1 h
  have el : (toks (bl s)).length = (Lx.lex 0 (bl s)).1.length + 1 := by simp [toks]
  rw [← bl_len s] at ho
  have ho' : w'.ownsRow w.heap.size 35 5 v (toks (bl s)).length (tksC (toks (bl s))) := by rw [el]; exact ho
  obtain ⟨g, cap, rfl, hb, ht⟩ := tks_of ho' (by rw [el]; omega)
  exact ⟨g, cap, rfl, hb, ht, hq⟩
theorem lex_bad (s : ByteArray) (w : World) (hs : s.size ≤ 65536) (hL : Laid w) (p : Nat) (h : (Lx.lex 0 (bl s)).2 = some p) :
    Calls Tryd.prog 9 #[.string s] w fun e w' => e = .returned (.tuple #[.slice none 0 0, .int .i64 (p : Int), .int .i64 5]) ∧ Q w w' := by
  refine (lex_any s w hs hL).mono ?_
  rintro e w' ⟨hq, _, h1⟩
  exact ⟨h1 p h, hq⟩

def sample : List UInt8 := [97, 49, 32, 61, 32, 53, 117, 56]
theorem sample_lex : Lx.lex 0 sample = ([(⟨1, [97, 49], 0, 0⟩, 0), (⟨4, [61], 0, 0⟩, 3), (⟨3, [53, 117, 56], 5, 1⟩, 5)], none) := by rfl

set_option maxHeartbeats 400000 in
theorem awake_any (w : World) (hL : Laid w) :
    Calls Tryd.prog 8 #[] w fun e w' => e = .returned (.bool true) ∧ Q w w' := by
  have HC := hideIt (lex_ok ⟨#[97, 49, 32, 61, 32, 53, 117, 56]⟩ w (by decide) hL (by show (Lx.lex 0 sample).2 = none; rw [sample_lex]))
  have et : toks (bl ⟨#[97, 49, 32, 61, 32, 53, 117, 56]⟩) = [(⟨1, [97, 49], 0, 0⟩, 0), (⟨4, [61], 0, 0⟩, 3), (⟨3, [53, 117, 56], 5, 1⟩, 5), (endTk, 8)] := by
    show (Lx.lex 0 sample).1 ++ [(endTk, sample.length)] = _
    rw [sample_lex]
    rfl
  rw [et] at HC
  clear et hL
  go_enter Tryd.func8, Tryd.ntmps8
  go_wp2_with (first | (go_at_call 9; refine HC.out.mono ?_; rintro e x ⟨g, cap, rfl, hb, ht, q⟩; obtain ⟨c0, c1, c2, c3, c4⟩ := ht.five 2 _ rfl; have HQ := hideIt q; clear q ht) | fail)
  go_ret
  exact ⟨rfl, HQ.out⟩
end Go.Proofs.YtkjkobiliinneaaDoor
