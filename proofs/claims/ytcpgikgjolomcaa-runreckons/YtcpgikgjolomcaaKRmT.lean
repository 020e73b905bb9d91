/-
  A run of code: a block is got, blocks are given back: contracts over the program; what a call's begin and end leave; the conditions: a run lies there.
-/
import Derived.Test.YtcpgikgjolomcaaKRmS
import Derived.Test.YtcpgikgjolomcaaKRmR
import Derived.Test.YtcpgikgjolomcaaKMeD
namespace Go.Proofs.Ytcpgikgjolomcaa
open Go.RowKit
set_option linter.unusedVariables false

theorem alloc_bad {w w0 : World} {R p gb gc : Nat} {col : Col} {c : PC} {fuel : Nat} {s : St} {A : List Int} {G : GG} (h : RI w w0 R p gb gc col c fuel s A G) (x : Int) (h1 : 1 ≤ x) (hb : 65536 - ((s.bs.sum : Nat) : Int) < x) :
    Calls Try.prog 44 #[.pointer (some ⟨p, 0, none⟩), .int .i64 x] w fun e w' => e = .returned (.tuple #[.int .i64 0, .int .i64 11]) ∧ w' = w := by
  obtain ⟨bl, m, b1, b2, b3⟩ := h.mem
  have := h.sum
  exact Me.alloc_lim b3 (by omega) (by omega) x (by omega) hb
theorem alloc_good {w w0 : World} {R p gb gc : Nat} {col : Col} {c : PC} {fuel : Nat} {s : St} {A : List Int} {G : GG} (h : RI w w0 R p gb gc col c fuel s A G) (x : Int) (h1 : 1 ≤ x) (hb : ¬ 65536 - ((s.bs.sum : Nat) : Int) < x) :
    Calls Try.prog 44 #[.pointer (some ⟨p, 0, none⟩), .int .i64 x] w fun e w' => e = .returned (.tuple #[.int .i64 s.bs.length, .int .i64 0]) ∧ ∃ col', RI w' w0 R p gb gc col' c fuel { s with bs := s.bs ++ [x.toNat] } A G ∧ Ex col w col' w' := by
  obtain ⟨bl, m, b1, b2, b3⟩ := h.mem
  have hsum := h.sum
  have hl := (MemOk.bd h).1
  have := Me.alloc_ok b3 (by omega) (by omega) x.toNat (by omega) hl
  rw [show ((x.toNat : Nat) : Int) = x by omega] at this
  refine this.mono ?_
  rintro e w' ⟨rfl, ⟨bl', d1, d2, d3⟩, d4⟩
  have hs2 : ((s.bs.sum : Nat) : Int) + x = (((s.bs ++ [x.toNat]).sum : Nat) : Int) := by simp; omega
  rw [hs2] at d3
  obtain ⟨col', r1, r2⟩ := h.setM (f := s.f) (bs := s.bs ++ [x.toNat]) b1 d2 b2 d3 d4 (by simp; omega) (fun y hy => by
    rcases List.mem_append.1 hy with q | q
    · exact h.one y q
    · simp at q; omega)
  exact ⟨rfl, col', r1, r2⟩
theorem keep_ri {w w0 : World} {R p gb gc : Nat} {col : Col} {c : PC} {fuel : Nat} {s : St} {A : List Int} {G : GG} (h : RI w w0 R p gb gc col c fuel s A G) (hf : fuel ≤ 8388608) (n : Nat) (hn : n ≤ s.bs.length) :
    Calls Try.prog 50 #[.pointer (some ⟨p, 0, none⟩), .int .i64 (n : Int)] w fun e w' => e = .returned (.int .i64 0) ∧ ∃ col', RI w' w0 R p gb gc col' c fuel { s with bs := s.bs.take n, f := Me.keepf s.f n } A G ∧ Ex col w col' w' := by
  obtain ⟨bl, m, b1, b2, b3⟩ := h.mem
  have hsum := h.sum
  have hl := (MemOk.bd h).1
  have hnl := h.nle
  refine (Me.keep_any b3 n hn rfl hsum hl (by omega)).mono ?_
  rintro e w' ⟨rfl, d3, d4⟩
  have hle : (s.bs.take n).sum ≤ s.bs.sum := by
    have : (s.bs.take n).sum + (s.bs.drop n).sum = s.bs.sum := by rw [← List.sum_append, List.take_append_drop]
    omega
  obtain ⟨col', r1, r2⟩ := h.setM (f := Me.keepf s.f n) (bs := s.bs.take n) b1 (fun b hb => Or.inl hb) b2 d3 d4 (by omega) (fun y hy => h.one y (List.mem_of_mem_take hy))
  exact ⟨rfl, col', r1, r2⟩

theorem allocs_drop {l : List Int} {i : Nat} {x : Int} (h : l[i]? = some x) (bs : List Nat) : allocs (l.drop i) bs = if 65536 - ((bs.sum : Nat) : Int) < x then none else allocs (l.drop (i + 1)) (bs ++ [x.toNat]) := by
  obtain ⟨hl, e⟩ := List.getElem?_eq_some_iff.1 h
  rw [List.drop_eq_getElem_cons hl, e]
  rfl
theorem roomL_one : ∀ (l : List Int) (b : Int), roomL b l = true → ∀ x ∈ l, 1 ≤ x
  | [], b, _, x, hx => by cases hx
  | y :: l, b, h, x, hx => by
    simp [roomL] at h
    rcases List.mem_cons.1 hx with rfl | hx
    · omega
    · exact roomL_one l _ h.2 x hx
theorem roomL_len : ∀ (l : List Int) (b : Int), roomL b l = true → 0 ≤ b → (l.length : Int) ≤ b
  | [], b, _, hb => by simpa using hb
  | y :: l, b, h, hb => by
    simp [roomL] at h
    have := roomL_len l (b - y) h.2 (by omega)
    simp
    omega

theorem begin_opn {f : PF} {g : List Int × List Int} {A H' : List Int} (hi : idle f g) (hp : (A.length : Int) = f.params) (h : ∀ m, regAt H' m = if m < A.length then A.getD m 0 else regAt g.1 m) : opn f (argR A) (H', g.2) := by
  have h4 : ∀ m, regAt H' m = argR A m := fun m => by
    rw [h]
    unfold argR
    by_cases e : m < A.length
    · rw [if_pos e]
    · rw [if_neg e, hi.2 m (by omega), List.getD_eq_getElem?_getD, List.getElem?_eq_none (by omega)]; rfl
  refine ⟨h4, fun n hn hz => ?_⟩
  unfold argR at hz
  rw [List.getD_eq_getElem?_getD, List.getElem?_eq_none (by omega)] at hz
  exact absurd rfl hz
theorem end_idle {f : PF} {ρ : Rg} {g : List Int × List Int} {H' : List Int} (ho : opn f ρ g) (h : ∀ n : Nat, regAt H' n = if (n : Int) ∈ g.2 then 0 else regAt g.1 n) : idle f (H', []) := by
  refine ⟨rfl, fun n hn => ?_⟩
  show regAt H' n = 0
  rw [h]
  split
  · rfl
  · rename_i hm
    rw [ho.1]
    by_cases hz : ρ n = 0
    · exact hz
    · exact absurd (ho.2 n hn hz) hm

end Go.Proofs.Ytcpgikgjolomcaa
