/-
  Keep, whole: a contract over the program; the conditions: a memory lies there, its sum is told as it is, and it has at most 65536 cells.
-/
import Derived.Test.YtbmkmllehppiiaaMemJ
namespace Go.Proofs.Ytbmkmllehppiiaa
open Go.RowKit
set_option linter.unusedVariables false

theorem out_nil {f : Int → Int → Int} (ho : ∀ a b, inB [] a b = false → f a b = 0) : keepf f 0 = f := keepf_all (bs := []) ho

set_option maxRecDepth 100000 in
set_option maxHeartbeats 1000000 in
theorem keep_none {w : World} {B : Nat} {bl : Nat → Prop} {p n : Nat} {f : Int → Int → Int} {t : Int} (h : MI w B bl p n [] f t) :
    Calls Try.prog 12 #[.pointer (some ⟨p, 0, none⟩), .int .i64 0] w fun e w' => e = .returned (.int .i64 0) ∧ MI w' B bl p n [] f t ∧ Fr bl w w' := by
  obtain ⟨M, la, lc, L, h1, h2, h3, h4, h5, h6, h7, h8⟩ := h.ex
  have c1 : w.cell? ⟨p, 1, none⟩ = some (.slice la 0 lc) := cell_of_block h6 1
  have k4 : w.frozen? ⟨p, 1, none⟩ = false := free_of_block h6 1
  have lcm : lc ≤ maxLen := by
    rcases h8.2 with ⟨e, _⟩ | ⟨g, cap, cur, hv, _, _, _, hc, _⟩
    · simp at e
      omega
    · simp at hv
      omega
  have HR := hideIt (show MI (w.setCell ⟨p, 1, none⟩ (.slice la 0 lc)) B bl p n [] f t ∧ Fr bl w (w.setCell ⟨p, 1, none⟩ (.slice la 0 lc)) by
    refine ⟨h.kept (fun b hb => ?_) (by simp), (Fr.refl bl w).setCell (Or.inl h.inp) _⟩
    by_cases e : b = p
    · subst e
      rw [block_setCell h6, h6]
      simp
    · exact Below.heap_setCell _ _ _ _ e)
  clear h h1 h2 h3 h4 h5 h6 h7 h8
  go_enter Try.func12, Try.ntmps12
  go_wp2_with (fail)
  go_loopw [5] (fun o wr => o = .int .i64 0 ∧ wr = w) (fun o _ => 0)
  case atStart => exact ⟨rfl, rfl⟩
  case round =>
    obtain ⟨rfl, rfl⟩ := hrel
    go_wp2_with (fail)
    go_ret
    exact ⟨rfl, HR.out⟩

theorem keep_ok {w : World} {B : Nat} {bl : Nat → Prop} {p n : Nat} {bs : List Nat} {f : Int → Int → Int} {t : Int} (h : MI w B bl p n bs f t) (k : Nat) (hk : k ≤ bs.length) (ht : t = ((bs.sum : Nat) : Int)) (hs : bs.sum ≤ 65536) (hl : bs.length ≤ 1000000) :
    Calls Try.prog 12 #[.pointer (some ⟨p, 0, none⟩), .int .i64 (k : Int)] w fun e w' => e = .returned (.int .i64 0) ∧ MI w' B bl p n (bs.take k) (keepf f k) (((bs.take k).sum : Nat) : Int) ∧ Fr bl w w' := by
  by_cases hb : bs = []
  · subst hb
    have : k = 0 := by simpa using hk
    subst this
    have e := out_nil h.out
    refine (keep_none h).mono ?_
    rintro e' w' ⟨rfl, h1, h2⟩
    refine ⟨rfl, ?_, h2⟩
    rw [e]
    rw [ht] at h1
    exact h1
  · obtain ⟨M, g, lc, hx⟩ := h.mx hb
    obtain ⟨L, h4, h5, h8⟩ := hx.ex
    have : bs.length ≤ lc ∧ lc ≤ maxLen := by
      rcases h8.2 with ⟨e, _⟩ | ⟨g', cap, cur, hv, _, _, hn, hc, _⟩
      · cases e
      · simp at hv
        obtain ⟨_, rfl⟩ := hv
        exact ⟨hn, hc⟩
    exact keep_some hx k hk this.1 (Nat.le_trans this.2 (by decide)) ht hs hl

#print axioms keep_ok
end Go.Proofs.Ytbmkmllehppiiaa
