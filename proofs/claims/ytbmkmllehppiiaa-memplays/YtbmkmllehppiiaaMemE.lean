/-
  Store: contracts over the program; the conditions: a memory lies there, or the pointer is nil.
-/
import Derived.Test.YtbmkmllehppiiaaMemD
namespace Go.Proofs.Ytbmkmllehppiiaa
open Go.RowKit
set_option linter.unusedVariables false

theorem store_nil (w : World) (a b v : Int) : Calls Try.prog 16 #[.pointer none, kv a b, .int .i64 v] w fun e w' => e = .returned (.int .i64 12) ∧ Below w.heap.size w w' := by
  have hk : kv a b = .agg #[.int .i64 a, .int .i64 b] := rfl
  rw [hk]
  go_enter Try.func16, Try.ntmps16
  go_wp2_with (first | (go_at_call 21; refine (has_nil _ a b).mono ?_; rintro e x1 ⟨rfl, hb⟩; have HB := hideIt hb; clear hb) | fail)
  go_ret
  exact ⟨rfl, ((Below.refl _ _).alloc (Nat.le_refl _) _).trans (HB.out.mono (by simp))⟩

set_option maxRecDepth 100000 in
theorem store_none {w : World} {B : Nat} {bl : Nat → Prop} {p n : Nat} {bs : List Nat} {f : Int → Int → Int} {t : Int} (h : MI w B bl p n bs f t) (a b v : Int) (hl : bs.length ≤ 1000000) (hin : inB bs a b = false) :
    Calls Try.prog 16 #[.pointer (some ⟨p, 0, none⟩), kv a b, .int .i64 v] w fun e w' => e = .returned (.int .i64 12) ∧ Below w.heap.size w w' := by
  have H := hideIt (h.below (((Below.refl w.heap.size w).alloc (Nat.le_refl _) (.cells #[.int .i64 a, .int .i64 b] 31))))
  have HL := hideIt hl
  clear h hl
  have hk : kv a b = .agg #[.int .i64 a, .int .i64 b] := rfl
  rw [hk]
  go_enter Try.func16, Try.ntmps16
  go_wp2_with (first | (go_at_call 21; refine (has_any H.out a b HL.out).mono ?_; rw [hin]; rintro e x1 ⟨rfl, hb⟩; have HB := hideIt hb; clear hb) | fail)
  go_ret
  exact ⟨rfl, ((Below.refl _ _).alloc (Nat.le_refl _) _).trans (HB.out.mono (by simp))⟩

theorem map_eql (M : Nat) (w : World) : (binOp .eql 55 (.map (some M)) (.map none)).run Try.prog w = .ok (.bool false) w := by
  kernel_rfl

theorem ownsRow_set {w : World} {base : Nat} {e : TypeId} {size g n cap : Nat} {xs : List Value} (h : w.ownsRow base e size (.slice (some ⟨g, 0, none⟩) n cap) n xs) {q : Nat} (hq : q < n * size) (u : Value) :
    (w.setCell ⟨g, q, none⟩ u).ownsRow base e size (.slice (some ⟨g, 0, none⟩) n cap) n (xs.set q u) := by
  obtain ⟨h1, h2⟩ := h
  refine ⟨by simpa using h1, ?_⟩
  rcases h2 with ⟨h2, _⟩ | ⟨g', cap', cur, hv, hg, hh, hn, hc, hs, ht⟩
  · cases h2
  · simp at hv
    obtain ⟨rfl, rfl⟩ := hv
    refine Or.inr ⟨_, _, cur.setIfInBounds q u, rfl, hg, block_setCell hh u, hn, hc, by simpa using hs, ?_⟩
    rw [← ht]
    simp [List.take_set]

theorem set_same {α : Type} {l : List α} {i : Nat} {x : α} (h : l[i]? = some x) : l.set i x = l := by
  refine List.ext_getElem? fun n => ?_
  rw [List.getElem?_set]
  by_cases e : i = n
  · subst e
    have := (List.getElem?_eq_some_iff.1 h).1
    rw [if_pos rfl, if_pos this, h]
  · rw [if_neg e]

/-- A memory behind a write. -/
theorem mi_stored {w x1 X Y : World} {B : Nat} {bl : Nat → Prop} {p n n' : Nat} {bs : List Nat} {f : Int → Int → Int} {t : Int} (h : MI w B bl p n bs f t) {M lc g i j c k k' : Nat} {L : List (Nat × Nat)} {v : Int}
    (h1 : bl M) (h2 : M ≠ p) (h3 : ∀ k, (Value.slice (some ⟨g, 0, none⟩) bs.length lc).ownBlock = some k → bl k ∧ k ≠ p ∧ k ≠ M) (h4 : L.map Prod.fst = bs) (h5 : ∀ i c h, L[i]? = some (c, h) → h = cnt f i 0 c)
    (h6 : w.heap[p]? = some (.cells #[.map (some M), .slice (some ⟨g, 0, none⟩) bs.length lc, .int .i64 t] 58 (0, 0))) (hi : L[i]? = some (c, k)) (hj : j < c)
    (hk : k' = cnt (upd f i j v) i 0 c) (hx : Below w.heap.size w x1) (hX : Fr (fun b => b = g) x1 X) (hr : X.ownsRow B 60 2 (.slice (some ⟨g, 0, none⟩) bs.length lc) bs.length (blkCells (L.set i (c, k'))))
    (hY : Mp Y M n' (upd f i j v)) (hg : X.grownBy Y (some M)) : MI Y B bl p n' bs (upd f i j v) t ∧ Fr bl w Y := by
  obtain ⟨hbg, hgp, hgM⟩ := h3 g rfl
  have hFX : Fr bl w X := ((Fr.of_below hx).mono (fun _ h => h.elim)).trans' hX (fun b e => Or.inl (by rw [e]; exact hbg))
  have hF : Fr bl w Y := hFX.grown hg (fun b e => by cases e; exact Or.inl h1)
  have hp := lt_of_some h6
  have hxs := hx.size
  have hgl := (h.rng g hbg).2
  have hil := (List.getElem?_eq_some_iff.1 hi).1
  have hbi : bs[i]? = some c := by rw [← h4]; simp [hi]
  refine ⟨⟨fun b hb => ?_, h.inp, fun a b e => ?_, M, some ⟨g, 0, none⟩, lc, L.set i (c, k'), h1, h2, h3, ?_, fun i' c' h' e => ?_, ?_, hY, ?_⟩, hF⟩
  · have := h.rng b hb
    have := hF.size
    omega
  · have e1 : ¬ (a = (i : Int) ∧ b = (j : Int)) := by
      rintro ⟨rfl, rfl⟩
      rw [inB_iff.2 ⟨i, j, c, rfl, rfl, hbi, hj⟩] at e
      cases e
    simp only [upd, e1, if_false]
    exact h.out a b e
  · rw [List.map_set, h4]
    exact set_same hbi
  · rw [List.getElem?_set] at e
    by_cases hi' : i = i'
    · subst hi'
      rw [if_pos rfl, if_pos hil] at e
      simp at e
      obtain ⟨rfl, rfl⟩ := e
      exact hk
    · rw [if_neg hi'] at e
      rw [cnt_upd_other f v (by omega)]
      exact h5 i' c' h' e
  · have e1 : Y.heap[p]? = X.heap[p]? := hg.block p (by have := hX.size; omega) (fun e => h2 (Option.some.inj e).symm)
    have e2 : X.heap[p]? = x1.heap[p]? := hX.block p (by omega) (fun e => hgp e.symm)
    rw [e1, e2, hx.block p hp]
    exact h6
  · refine ownsRow_block hr fun b hb => ?_
    simp [Value.ownBlock] at hb
    subst hb
    exact hg.block _ (by have := hX.size; omega) (fun e => hgM (Option.some.inj e))

/-- What Store reads, in whatever world behind 'has'. -/
structure SF (N : Nat) (x1 : World) (p M g q len lc : Nat) (a b old k : Int) : Prop where
  c0 : x1.cell? ⟨p, 0, none⟩ = some (.map (some M))
  c1 : x1.cell? ⟨p, 1, none⟩ = some (.slice (some ⟨g, 0, none⟩) len lc)
  lk : ∀ j, (Instr.lookup 55 (.map (some M)) (.agg #[.int .i64 a, .int .i64 b]) false).run Try.prog (x1.drewN j) = .ok (.int .i64 old) (x1.drewN j)
  b0 : x1.cell? ⟨N, 0, none⟩ = some (.int .i64 a)
  b1 : x1.cell? ⟨N, 1, none⟩ = some (.int .i64 b)
  h1 : x1.cell? ⟨g, q, none⟩ = some (.int .i64 k)
  h2 : x1.frozen? ⟨g, q, none⟩ = false
  s0 : ∀ j u, ((x1.drewN j).setCell ⟨g, q, none⟩ u).cell? ⟨p, 0, none⟩ = some (.map (some M))
  s1 : ∀ j u, ((x1.drewN j).setCell ⟨g, q, none⟩ u).cell? ⟨N, 0, none⟩ = some (.int .i64 a)
  s2 : ∀ j u, ((x1.drewN j).setCell ⟨g, q, none⟩ u).cell? ⟨N, 1, none⟩ = some (.int .i64 b)

set_option maxRecDepth 100000 in
theorem store_new {w : World} (p M g i len lc : Nat) (b v k : Int) (hl : len ≤ 1000000) (hi : i < len) (hv : v ≠ 0) (hk0 : 0 ≤ k) (hk1 : k ≤ 1000000)
    (hhas : Calls Try.prog 21 #[.pointer (some ⟨p, 0, none⟩), .agg #[.int .i64 (i : Int), .int .i64 b]] (w.alloc (.cells #[.int .i64 (i : Int), .int .i64 b] 31)) fun e x1 => e = .returned (.bool true) ∧ Below (w.alloc (.cells #[.int .i64 (i : Int), .int .i64 b] 31)).heap.size (w.alloc (.cells #[.int .i64 (i : Int), .int .i64 b] 31)) x1)
    (R : World → Prop)
    (hf : ∀ x1, Below (w.alloc (.cells #[.int .i64 (i : Int), .int .i64 b] 31)).heap.size (w.alloc (.cells #[.int .i64 (i : Int), .int .i64 b] 31)) x1 → SF w.heap.size x1 p M g (i * 2 + 1) len lc i b 0 k ∧
      ∀ j, ∃ Y, (Instr.mapUpdate 55 (.map (some M)) (.agg #[.int .i64 (i : Int), .int .i64 b]) (.int .i64 v)).run Try.prog ((x1.drewN j).setCell ⟨g, i * 2 + 1, none⟩ (.int .i64 (k + 1))).drew = .ok () Y ∧ R Y) :
    Calls Try.prog 16 #[.pointer (some ⟨p, 0, none⟩), .agg #[.int .i64 (i : Int), .int .i64 b], .int .i64 v] w fun e w' => e = .returned (.int .i64 0) ∧ R w' := by
  have HH := hideIt hhas
  have HF := hideIt hf
  clear hhas hf
  have he := map_eql M
  have i0 : (0 : Int) ≤ (i : Int) := by omega
  have i1 : (i : Int) < (len : Int) := by omega
  go_enter Try.func16, Try.ntmps16
  go_wp2_with (first | (go_at_call 21; refine HH.out.mono ?_; rintro e x1 ⟨rfl, hb⟩; obtain ⟨⟨c0, c1, lk, b0, b1, h1, h2, s0, s1, s2⟩, hup⟩ := HF.out x1 hb; obtain ⟨F, hF⟩ := Classical.skolem.1 hup; have up := fun j => (hF j).1; have HR := hideIt (fun j => (hF j).2); clear hb hF hup) | fail)
  go_quiet (fail)
  go_wp2
  go_region
  all_goals go_wp2
  all_goals go_region
  all_goals go_wp2
  all_goals go_ret
  all_goals exact ⟨rfl, HR.out _⟩

set_option maxRecDepth 100000 in
theorem store_over {w : World} (p M g i len lc : Nat) (b v k : Int) (hl : len ≤ 1000000) (hi : i < len) (hv : v ≠ 0) (old : Int) (ho : old ≠ 0)
    (hhas : Calls Try.prog 21 #[.pointer (some ⟨p, 0, none⟩), .agg #[.int .i64 (i : Int), .int .i64 b]] (w.alloc (.cells #[.int .i64 (i : Int), .int .i64 b] 31)) fun e x1 => e = .returned (.bool true) ∧ Below (w.alloc (.cells #[.int .i64 (i : Int), .int .i64 b] 31)).heap.size (w.alloc (.cells #[.int .i64 (i : Int), .int .i64 b] 31)) x1)
    (R : World → Prop)
    (hf : ∀ x1, Below (w.alloc (.cells #[.int .i64 (i : Int), .int .i64 b] 31)).heap.size (w.alloc (.cells #[.int .i64 (i : Int), .int .i64 b] 31)) x1 → SF w.heap.size x1 p M g (i * 2 + 1) len lc i b old k ∧
      ∀ j, ∃ Y, (Instr.mapUpdate 55 (.map (some M)) (.agg #[.int .i64 (i : Int), .int .i64 b]) (.int .i64 v)).run Try.prog (x1.drewN j) = .ok () Y ∧ R Y) :
    Calls Try.prog 16 #[.pointer (some ⟨p, 0, none⟩), .agg #[.int .i64 (i : Int), .int .i64 b], .int .i64 v] w fun e w' => e = .returned (.int .i64 0) ∧ R w' := by
  have HH := hideIt hhas
  have HF := hideIt hf
  clear hhas hf
  have he := map_eql M
  have ho2 : (old == 0) = false := by simp [ho]
  have hv2 : (v != 0) = true := by simp [hv]
  have hv3 : (v == 0) = false := by simp [hv]
  clear hv ho
  have i0 : (0 : Int) ≤ (i : Int) := by omega
  have i1 : (i : Int) < (len : Int) := by omega
  go_enter Try.func16, Try.ntmps16
  go_wp2_with (first | (go_at_call 21; refine HH.out.mono ?_; rintro e x1 ⟨rfl, hb⟩; obtain ⟨⟨c0, c1, lk, b0, b1, h1, h2, s0, s1, s2⟩, hup⟩ := HF.out x1 hb; obtain ⟨F, hF⟩ := Classical.skolem.1 hup; have up := fun j => (hF j).1; have HR := hideIt (fun j => (hF j).2); clear hb hF hup) | fail)
  go_quiet (fail)
  go_wp2
  go_region
  all_goals go_wp2
  all_goals go_ret
  all_goals exact ⟨rfl, HR.out _⟩

set_option maxRecDepth 100000 in
theorem store_gone {w : World} (p M g i len lc : Nat) (b k : Int) (hl : len ≤ 1000000) (hi : i < len) (old : Int) (ho : old ≠ 0) (hk0 : 1 ≤ k) (hk1 : k ≤ 1000000)
    (hhas : Calls Try.prog 21 #[.pointer (some ⟨p, 0, none⟩), .agg #[.int .i64 (i : Int), .int .i64 b]] (w.alloc (.cells #[.int .i64 (i : Int), .int .i64 b] 31)) fun e x1 => e = .returned (.bool true) ∧ Below (w.alloc (.cells #[.int .i64 (i : Int), .int .i64 b] 31)).heap.size (w.alloc (.cells #[.int .i64 (i : Int), .int .i64 b] 31)) x1)
    (R : World → Prop)
    (hf : ∀ x1, Below (w.alloc (.cells #[.int .i64 (i : Int), .int .i64 b] 31)).heap.size (w.alloc (.cells #[.int .i64 (i : Int), .int .i64 b] 31)) x1 → SF w.heap.size x1 p M g (i * 2 + 1) len lc i b old k ∧
      ∀ j, ∃ Y, (Builtin.delete_ #[55, 31] 0 #[.map (some M), .agg #[.int .i64 (i : Int), .int .i64 b]]).run Try.prog ((x1.drewN j).setCell ⟨g, i * 2 + 1, none⟩ (.int .i64 (k - 1))).drew = .ok (.tuple #[]) Y ∧ R Y) :
    Calls Try.prog 16 #[.pointer (some ⟨p, 0, none⟩), .agg #[.int .i64 (i : Int), .int .i64 b], .int .i64 0] w fun e w' => e = .returned (.int .i64 0) ∧ R w' := by
  have HH := hideIt hhas
  have HF := hideIt hf
  clear hhas hf
  have he := map_eql M
  have i0 : (0 : Int) ≤ (i : Int) := by omega
  have i1 : (i : Int) < (len : Int) := by omega
  go_enter Try.func16, Try.ntmps16
  go_wp2_with (first | (go_at_call 21; refine HH.out.mono ?_; rintro e x1 ⟨rfl, hb⟩; obtain ⟨⟨c0, c1, lk, b0, b1, h1, h2, s0, s1, s2⟩, hup⟩ := HF.out x1 hb; obtain ⟨F, hF⟩ := Classical.skolem.1 hup; have up := fun j => (hF j).1; have HR := hideIt (fun j => (hF j).2); clear hb hF hup) | fail)
  go_quiet (fail)
  go_wp2
  go_region
  all_goals go_wp2
  all_goals go_region
  all_goals go_wp2
  all_goals go_ret
  all_goals exact ⟨rfl, HR.out _⟩

set_option maxRecDepth 100000 in
theorem store_zero {w : World} (p M g i len lc : Nat) (b k : Int) (hl : len ≤ 1000000) (hi : i < len) 
    (hhas : Calls Try.prog 21 #[.pointer (some ⟨p, 0, none⟩), .agg #[.int .i64 (i : Int), .int .i64 b]] (w.alloc (.cells #[.int .i64 (i : Int), .int .i64 b] 31)) fun e x1 => e = .returned (.bool true) ∧ Below (w.alloc (.cells #[.int .i64 (i : Int), .int .i64 b] 31)).heap.size (w.alloc (.cells #[.int .i64 (i : Int), .int .i64 b] 31)) x1)
    (R : World → Prop)
    (hf : ∀ x1, Below (w.alloc (.cells #[.int .i64 (i : Int), .int .i64 b] 31)).heap.size (w.alloc (.cells #[.int .i64 (i : Int), .int .i64 b] 31)) x1 → SF w.heap.size x1 p M g (i * 2 + 1) len lc i b 0 k ∧
      ∀ j, ∃ Y, (Builtin.delete_ #[55, 31] 0 #[.map (some M), .agg #[.int .i64 (i : Int), .int .i64 b]]).run Try.prog (x1.drewN j) = .ok (.tuple #[]) Y ∧ R Y) :
    Calls Try.prog 16 #[.pointer (some ⟨p, 0, none⟩), .agg #[.int .i64 (i : Int), .int .i64 b], .int .i64 0] w fun e w' => e = .returned (.int .i64 0) ∧ R w' := by
  have HH := hideIt hhas
  have HF := hideIt hf
  clear hhas hf
  have he := map_eql M
  have i0 : (0 : Int) ≤ (i : Int) := by omega
  have i1 : (i : Int) < (len : Int) := by omega
  go_enter Try.func16, Try.ntmps16
  go_wp2_with (first | (go_at_call 21; refine HH.out.mono ?_; rintro e x1 ⟨rfl, hb⟩; obtain ⟨⟨c0, c1, lk, b0, b1, h1, h2, s0, s1, s2⟩, hup⟩ := HF.out x1 hb; obtain ⟨F, hF⟩ := Classical.skolem.1 hup; have up := fun j => (hF j).1; have HR := hideIt (fun j => (hF j).2); clear hb hF hup) | fail)
  go_quiet (fail)
  go_wp2
  go_region
  all_goals go_wp2
  all_goals go_ret
  all_goals exact ⟨rfl, HR.out _⟩

end Go.Proofs.Ytbmkmllehppiiaa
