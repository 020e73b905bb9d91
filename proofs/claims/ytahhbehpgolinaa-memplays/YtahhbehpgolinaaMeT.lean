/-
  A memory beside the document's, and an act in a box: the calls' contracts over all three; no conditions but those that each fact bears.
-/
import Derived.Test.YtahhbehpgolinaaMeS
namespace Go.Proofs.Ytahhbehpgolinaa.Me
open Go.RowKit
set_option linter.unusedVariables false

theorem keep_neg (w : World) (p : Nat) (c : Int) (hc : c < 0) : Calls Try.prog 12 #[.pointer (some ⟨p, 0, none⟩), .int .i64 c] w fun e w' => e = .returned (.int .i64 1) ∧ w' = w := by
  go_enter Try.func12, Try.ntmps12
  go_wp2
  go_ret
  exact ⟨rfl, rfl⟩
theorem keep_far {w : World} {B : Nat} {bl : Nat → Prop} {p n : Nat} {bs : List Nat} {f : Int → Int → Int} {t : Int} (h : MI w B bl p n bs f t) (c : Int) (hc : (bs.length : Int) < c) :
    Calls Try.prog 12 #[.pointer (some ⟨p, 0, none⟩), .int .i64 c] w fun e w' => e = .returned (.int .i64 1) ∧ w' = w := by
  obtain ⟨L, F, M, la, lc, h, -, hs⟩ := h
  have hl : bs.length = L.length := by rw [← hs]; simp [szs]
  have c1 : w.cell? ⟨p, 1, none⟩ = some (.slice la L.length lc) := cell_of_block h.cells 1
  have c0 : ¬ (c < 0) := by omega
  rw [hl] at hc
  clear h hs hl
  go_enter Try.func12, Try.ntmps12
  go_wp2
  go_ret
  exact ⟨rfl, rfl⟩

/-- All that was there at w0 is as it was; behind it lie a memory and, apart from it, the document's. -/
def Q2 (w0 w : World) (p q n : Nat) (bs : List Nat) (f : Int → Int → Int) (t : Int) (R : List (Nat × List Int)) : Prop :=
  Below w0.heap.size w0 w ∧ ∃ b1 b2, MI w w0.heap.size b1 p n bs f t ∧ RI w w0.heap.size b2 q R ∧ ∀ k, b1 k → ¬ b2 k
/-- .. and a box of its own. -/
def P2 (w0 w : World) (p q n : Nat) (bs : List Nat) (f : Int → Int → Int) (t : Int) (R : List (Nat × List Int)) (N : Nat) (cs : Array Value) : Prop :=
  Below w0.heap.size w0 w ∧ w.heap[N]? = some (.cells cs 33 (0, 0)) ∧ ∃ b1 b2, MI w w0.heap.size b1 p n bs f t ∧ RI w w0.heap.size b2 q R ∧ (∀ k, b1 k → ¬ b2 k) ∧ ¬ b1 N ∧ ¬ b2 N

section
variable {w0 w w' : World} {p q n : Nat} {bs : List Nat} {f : Int → Int → Int} {t : Int} {R : List (Nat × List Int)} {N : Nat} {cs : Array Value}

theorem Q2.boxed (h : Q2 w0 w p q n bs f t R) (cs : Array Value) : P2 w0 (w.alloc (.cells cs 33)) p q n bs f t R w.heap.size cs := by
  obtain ⟨h1, b1, b2, h2, h3, h4⟩ := h
  have hb : Below w.heap.size w (w.alloc (.cells cs 33)) := (Below.refl _ _).alloc (Nat.le_refl _) _
  refine ⟨h1.alloc h1.size _, heap_alloc_new _ _, b1, b2, h2.below hb, h3.kept (fun k hk => Below.heap_alloc _ _ _ (h3.rng k hk).2) (by simp), h4, fun h => ?_, fun h => ?_⟩
  · have := (h2.rng h).2
    omega
  · have := (h3.rng _ h).2
    omega
theorem P2.unbox (h : P2 w0 w p q n bs f t R N cs) : Q2 w0 w p q n bs f t R := by
  obtain ⟨h1, _, b1, b2, h2, h3, h4, _⟩ := h
  exact ⟨h1, b1, b2, h2, h3, h4⟩
theorem P2.same (h : P2 w0 w p q n bs f t R N cs) (k : Nat) : P2 w0 (w.drewN k) p q n bs f t R N cs := by
  obtain ⟨h1, h0, b1, b2, h2, h3, h4, h5, h6⟩ := h
  exact ⟨⟨h1.os, h1.tape, h1.output, h1.size, h1.block⟩, h0, b1, b2, h2.kept (fun _ _ => rfl) (Nat.le_refl _), h3.kept (fun _ _ => rfl) (Nat.le_refl _), h4, h5, h6⟩
theorem P2.out (h : P2 w0 w p q n bs f t R N cs) : ∀ a b, inB bs a b = false → f a b = 0 := by
  obtain ⟨_, _, _, _, h2, _⟩ := h
  exact fun a b hk => h2.out hk
theorem P2.cell (h : P2 w0 w p q n bs f t R N cs) (j : Nat) : w.cell? ⟨N, j, none⟩ = cs[j]? := cell_of_block h.2.1 j
/-- Behind a call of the memory. -/
theorem P2.mem {b1 b2 b1' : Nat → Prop} {n' : Nat} {bs' : List Nat} {f' : Int → Int → Int} {t' : Int} (h1 : Below w0.heap.size w0 w) (h0 : w.heap[N]? = some (.cells cs 33 (0, 0))) (h2 : MI w w0.heap.size b1 p n bs f t) (h3 : RI w w0.heap.size b2 q R)
    (h4 : ∀ k, b1 k → ¬ b2 k) (h5 : ¬ b1 N) (h6 : ¬ b2 N) (hF : Fr b1 w w') (hM : MI w' w0.heap.size b1' p n' bs' f' t') (hb : ∀ k, b1' k → b1 k ∨ w.heap.size ≤ k) : P2 w0 w' p q n' bs' f' t' R N cs := by
  have hN := lt_of_some h0
  refine ⟨h1.trans (hF.below h1.size (fun k hk => (h2.rng hk).1)), ?_, b1', b2, hM, h3.fr hF (fun k hk h => h4 k h hk), fun k hk hk2 => ?_, fun h => ?_, h6⟩
  · rw [hF.block N hN h5]
    exact h0
  · rcases hb k hk with h | h
    · exact h4 k h hk2
    · have := (h3.rng k hk2).2
      omega
  · rcases hb N h with h | h
    · exact h5 h
    · omega
/-- Behind a call of the document's. -/
theorem P2.ref {b1 b2 b2' : Nat → Prop} {R' : List (Nat × List Int)} (h1 : Below w0.heap.size w0 w) (h0 : w.heap[N]? = some (.cells cs 33 (0, 0))) (h2 : MI w w0.heap.size b1 p n bs f t) (h3 : RI w w0.heap.size b2 q R)
    (h4 : ∀ k, b1 k → ¬ b2 k) (h5 : ¬ b1 N) (h6 : ¬ b2 N) (hF : Fr b2 w w') (hR : RI w' w0.heap.size b2' q R') (hb : ∀ k, b2' k → b2 k ∨ w.heap.size ≤ k) : P2 w0 w' p q n bs f t R' N cs := by
  have hN := lt_of_some h0
  refine ⟨h1.trans (hF.below h1.size (fun k hk => (h3.rng k hk).1)), ?_, b1, b2', h2.fr hF (fun k hk h => h4 k hk h), hR, fun k hk hk2 => ?_, h5, fun h => ?_⟩
  · rw [hF.block N hN h6]
    exact h0
  · rcases hb k hk2 with h | h
    · exact h4 k hk h
    · have := (h2.rng hk).2
      omega
  · rcases hb N h with h | h
    · exact h6 h
    · omega

theorem p_alloc_neg (h : P2 w0 w p q n bs f t R N cs) (c : Int) (hc : c < 0) : Calls Try.prog 10 #[.pointer (some ⟨p, 0, none⟩), .int .i64 c] w fun e w' => e = .returned (.tuple #[.int .i64 0, .int .i64 1]) ∧ P2 w0 w' p q n bs f t R N cs :=
  (alloc_neg w p c hc).mono fun e w' ⟨h1, h2⟩ => ⟨h1, by rw [h2]; exact h⟩
theorem p_alloc_lim (h : P2 w0 w p q n bs f t R N cs) (ht : 0 ≤ t) (ht2 : t ≤ 65536) (c : Int) (hc : 0 ≤ c) (hc2 : 65536 - t < c) : Calls Try.prog 10 #[.pointer (some ⟨p, 0, none⟩), .int .i64 c] w fun e w' => e = .returned (.tuple #[.int .i64 0, .int .i64 11]) ∧ P2 w0 w' p q n bs f t R N cs := by
  have h' := h
  obtain ⟨h1, h0, b1, b2, h2, h3, h4, h5, h6⟩ := h
  exact (alloc_lim h2 ht ht2 c hc hc2).mono fun e w' ⟨e1, e2⟩ => ⟨e1, by rw [e2]; exact h'⟩
theorem p_alloc (h : P2 w0 w p q n bs f t R N cs) (ht : 0 ≤ t) (ht2 : t ≤ 65536) (c : Nat) (hc2 : (c : Int) ≤ 65536 - t) (hl : bs.length ≤ 1000000) : Calls Try.prog 10 #[.pointer (some ⟨p, 0, none⟩), .int .i64 (c : Int)] w fun e w' => e = .returned (.tuple #[.int .i64 bs.length, .int .i64 0]) ∧ P2 w0 w' p q n (bs ++ [c]) f (t + c) R N cs := by
  obtain ⟨h1, h0, b1, b2, h2, h3, h4, h5, h6⟩ := h
  refine (alloc_ok h2 ht ht2 c hc2 hl).mono ?_
  rintro e w' ⟨rfl, ⟨b1', -, hb, hM⟩, hF⟩
  exact ⟨rfl, P2.mem h1 h0 h2 h3 h4 h5 h6 hF hM hb⟩
theorem p_ralloc_neg (h : P2 w0 w p q n bs f t R N cs) (c : Int) (hc : c < 0) : Calls Try.prog 11 #[.pointer (some ⟨q, 0, none⟩), .int .i64 c] w fun e w' => e = .returned (.tuple #[.int .i64 0, .int .i64 1]) ∧ P2 w0 w' p q n bs f t R N cs :=
  (ralloc_neg w q c hc).mono fun e w' ⟨h1, h2⟩ => ⟨h1, by rw [h2]; exact h⟩
theorem p_ralloc_lim (h : P2 w0 w p q n bs f t R N cs) (hl : R.length ≤ 1000000) (ht : tot R ≤ 65536) (c : Int) (hc : 0 ≤ c) (hc2 : 65536 - (tot R : Int) < c) : Calls Try.prog 11 #[.pointer (some ⟨q, 0, none⟩), .int .i64 c] w fun e w' => e = .returned (.tuple #[.int .i64 0, .int .i64 11]) ∧ P2 w0 w' p q n bs f t R N cs := by
  have h' := h
  obtain ⟨h1, h0, b1, b2, h2, h3, h4, h5, h6⟩ := h
  exact (ralloc_lim h3 hl ht c hc hc2).mono fun e w' ⟨e1, e2⟩ => ⟨e1, by rw [e2]; exact h'⟩
theorem p_ralloc (h : P2 w0 w p q n bs f t R N cs) (hl : R.length ≤ 1000000) (ht : tot R ≤ 65536) (c : Nat) (hc2 : (c : Int) ≤ 65536 - (tot R : Int)) : Calls Try.prog 11 #[.pointer (some ⟨q, 0, none⟩), .int .i64 (c : Int)] w fun e w' => e = .returned (.tuple #[.int .i64 R.length, .int .i64 0]) ∧ ∃ g, P2 w0 w' p q n bs f t (R ++ [(g, List.replicate c 0)]) N cs := by
  obtain ⟨h1, h0, b1, b2, h2, h3, h4, h5, h6⟩ := h
  refine (ralloc_ok h3 hl ht c hc2).mono ?_
  rintro e w' ⟨rfl, ⟨b2', hb, hR⟩, hF⟩
  exact ⟨rfl, _, P2.ref h1 h0 h2 h3 h4 h5 h6 hF hR hb⟩
theorem p_keep_bad (h : P2 w0 w p q n bs f t R N cs) (c : Int) (hc : c < 0 ∨ (bs.length : Int) < c) : Calls Try.prog 12 #[.pointer (some ⟨p, 0, none⟩), .int .i64 c] w fun e w' => e = .returned (.int .i64 1) ∧ P2 w0 w' p q n bs f t R N cs := by
  have h' := h
  obtain ⟨h1, h0, b1, b2, h2, h3, h4, h5, h6⟩ := h
  rcases hc with hc | hc
  · exact (keep_neg w p c hc).mono fun e w' ⟨e1, e2⟩ => ⟨e1, by rw [e2]; exact h'⟩
  · exact (keep_far h2 c hc).mono fun e w' ⟨e1, e2⟩ => ⟨e1, by rw [e2]; exact h'⟩
theorem p_keep (h : P2 w0 w p q n bs f t R N cs) (k : Nat) (hk : k ≤ bs.length) (ht : t = ((bs.sum : Nat) : Int)) (hs : bs.sum ≤ 65536) (hl : bs.length ≤ 1000000) (hnn : n ≤ 100000000) : Calls Try.prog 12 #[.pointer (some ⟨p, 0, none⟩), .int .i64 (k : Int)] w fun e w' => e = .returned (.int .i64 0) ∧ P2 w0 w' p q n (bs.take k) (keepf f k) (((bs.take k).sum : Nat) : Int) R N cs := by
  obtain ⟨h1, h0, b1, b2, h2, h3, h4, h5, h6⟩ := h
  refine (keep_any h2 k hk ht hs hl hnn).mono ?_
  rintro e w' ⟨rfl, hM, hF⟩
  exact ⟨rfl, P2.mem h1 h0 h2 h3 h4 h5 h6 hF hM (fun k hk => Or.inl hk)⟩
theorem p_rkeep_bad (h : P2 w0 w p q n bs f t R N cs) (c : Int) (hc : c < 0 ∨ (R.length : Int) < c) : Calls Try.prog 13 #[.pointer (some ⟨q, 0, none⟩), .int .i64 c] w fun e w' => e = .returned (.int .i64 1) ∧ P2 w0 w' p q n bs f t R N cs := by
  have h' := h
  obtain ⟨h1, h0, b1, b2, h2, h3, h4, h5, h6⟩ := h
  rcases hc with hc | hc
  · exact (rkeep_neg w q c hc).mono fun e w' ⟨e1, e2⟩ => ⟨e1, by rw [e2]; exact h'⟩
  · exact (rkeep_far h3 c hc).mono fun e w' ⟨e1, e2⟩ => ⟨e1, by rw [e2]; exact h'⟩
theorem p_rkeep (h : P2 w0 w p q n bs f t R N cs) (k : Nat) (hk : k ≤ R.length) (hl : R.length ≤ 1000000) : Calls Try.prog 13 #[.pointer (some ⟨q, 0, none⟩), .int .i64 (k : Int)] w fun e w' => e = .returned (.int .i64 0) ∧ P2 w0 w' p q n bs f t (R.take k) N cs := by
  obtain ⟨h1, h0, b1, b2, h2, h3, h4, h5, h6⟩ := h
  refine (rkeep_ok h3 k hk hl).mono ?_
  rintro e w' ⟨rfl, hM, hF⟩
  exact ⟨rfl, P2.ref h1 h0 h2 h3 h4 h5 h6 hF hM (fun k hk => Or.inl hk)⟩
theorem p_load (h : P2 w0 w p q n bs f t R N cs) {a b : Int} (ha : I64 a) (hb : I64 b) (hl : bs.length ≤ 1000000) {e0 : Int} (he : (if inB bs a b then 0 else 12) = e0) :
    Calls Try.prog 14 #[.pointer (some ⟨p, 0, none⟩), .agg #[.int .i64 a, .int .i64 b]] w fun e w' => e = .returned (.tuple #[.int .i64 (f a b), .int .i64 e0]) ∧ P2 w0 w' p q n bs f t R N cs := by
  obtain ⟨h1, h0, b1, b2, h2, h3, h4, h5, h6⟩ := h
  have := load_any h2 ha hb hl
  rw [he] at this
  refine this.mono ?_
  rintro e w' ⟨rfl, hB⟩
  exact ⟨rfl, P2.mem h1 h0 h2 h3 h4 h5 h6 ((Fr.of_below hB).mono (fun _ h => h.elim)) (h2.below hB) (fun k hk => Or.inl hk)⟩
theorem p_store (h : P2 w0 w p q n bs f t R N cs) {a b v : Int} (ha : I64 a) (hb : I64 b) (hv : I64 v) (hl : bs.length ≤ 1000000) (hn : n ≤ 1000000) (hc : ∀ c ∈ bs, c ≤ 100000) (hin : inB bs a b = true) :
    Calls Try.prog 16 #[.pointer (some ⟨p, 0, none⟩), .agg #[.int .i64 a, .int .i64 b], .int .i64 v] w fun e w' => e = .returned (.int .i64 0) ∧ P2 w0 w' p q (n + 1) bs (upd f a b v) t R N cs := by
  obtain ⟨h1, h0, b1, b2, h2, h3, h4, h5, h6⟩ := h
  refine (store_ok h2 a b v hl hc (by omega) hin).mono ?_
  rintro e w' ⟨rfl, ⟨b1', -, hb1, hM⟩, hF⟩
  exact ⟨rfl, P2.mem h1 h0 h2 h3 h4 h5 h6 hF hM hb1⟩
theorem p_store_none (h : P2 w0 w p q n bs f t R N cs) (a b v : Int) (hl : bs.length ≤ 1000000) (hin : inB bs a b = false) :
    Calls Try.prog 16 #[.pointer (some ⟨p, 0, none⟩), .agg #[.int .i64 a, .int .i64 b], .int .i64 v] w fun e w' => e = .returned (.int .i64 12) ∧ P2 w0 w' p q n bs f t R N cs := by
  obtain ⟨h1, h0, b1, b2, h2, h3, h4, h5, h6⟩ := h
  refine (store_none h2 a b v hl hin).mono ?_
  rintro e w' ⟨rfl, hB⟩
  exact ⟨rfl, P2.mem h1 h0 h2 h3 h4 h5 h6 ((Fr.of_below hB).mono (fun _ h => h.elim)) (h2.below hB) (fun k hk => Or.inl hk)⟩
theorem p_there (h : P2 w0 w p q n bs f t R N cs) (a b : Int) (hl : R.length ≤ 1000000) (hc : ∀ r ∈ R, r.2.length ≤ 1000000) {x : Bool} (hx : inB (lens R) a b = x) :
    Calls Try.prog 15 #[.pointer (some ⟨q, 0, none⟩), .int .i64 a, .int .i64 b] w fun e w' => e = .returned (.bool x) ∧ w' = w := by
  obtain ⟨h1, h0, b1, b2, h2, h3, h4, h5, h6⟩ := h
  rw [← hx]
  exact there_any h3 a b hl hc
theorem p_blocks (h : P2 w0 w p q n bs f t R N cs) : Calls Try.prog 17 #[.pointer (some ⟨p, 0, none⟩)] w fun e w' => e = .returned (.int .i64 bs.length) ∧ w' = w := by
  obtain ⟨h1, h0, b1, b2, h2, h3, h4, h5, h6⟩ := h
  exact blocks_any h2
theorem p_total (h : P2 w0 w p q n bs f t R N cs) : Calls Try.prog 18 #[.pointer (some ⟨p, 0, none⟩)] w fun e w' => e = .returned (.int .i64 t) ∧ w' = w := by
  obtain ⟨h1, h0, b1, b2, h2, h3, h4, h5, h6⟩ := h
  exact total_any h2
theorem p_rtotal (h : P2 w0 w p q n bs f t R N cs) (hl : R.length ≤ 1000000) (ht : tot R ≤ 1000000) : Calls Try.prog 19 #[.pointer (some ⟨q, 0, none⟩)] w fun e w' => e = .returned (.int .i64 ((tot R : Nat) : Int)) ∧ w' = w := by
  obtain ⟨h1, h0, b1, b2, h2, h3, h4, h5, h6⟩ := h
  exact rtotal_any h3 hl ht
/-- The header of the document's list. -/
theorem p_head (h : P2 w0 w p q n bs f t R N cs) : ∃ la lc, w.cell? ⟨q, 0, none⟩ = some (.slice la R.length lc) := by
  obtain ⟨h1, h0, b1, b2, h2, h3, h4, h5, h6⟩ := h
  obtain ⟨la, lc, _, e, _⟩ := h3.ex
  exact ⟨la, lc, cell_of_block e 0⟩
/-- A cell of the document's. -/
theorem p_at (h : P2 w0 w p q n bs f t R N cs) {i j : Nat} (hi : i < R.length) (hj : j < R[i].2.length) : ∃ g lc, w.cell? ⟨q, 0, none⟩ = some (.slice (some ⟨g, 0, none⟩) R.length lc) ∧
    w.cell? ⟨g, i, none⟩ = some (.slice (some ⟨R[i].1, 0, none⟩) R[i].2.length R[i].2.length) ∧ w.cell? ⟨R[i].1, j, none⟩ = some (.int .i64 (R[i].2.getD j 0)) ∧ w.frozen? ⟨R[i].1, j, none⟩ = false := by
  obtain ⟨h1, h0, b1, b2, h2, h3, h4, h5, h6⟩ := h
  obtain ⟨la, lc, _, e, hr⟩ := h3.ex
  obtain ⟨g, rfl, hc⟩ := ri_at h3 hr hi
  obtain ⟨c1, c2⟩ := ri_cell h3 hi hj
  exact ⟨g, lc, cell_of_block e 0, hc, c1, c2⟩
/-- A cell of the document's is written. -/
theorem p_set (h : P2 w0 w p q n bs f t R N cs) {i j : Nat} (hi : i < R.length) (hj : j < R[i].2.length) (v : Int) (m : Nat) : P2 w0 ((w.drewN m).setCell ⟨R[i].1, j, none⟩ (.int .i64 v)) p q n bs f t (R.set i (R[i].1, R[i].2.set j v)) N cs := by
  obtain ⟨h1, h0, b1, b2, h2, h3, h4, h5, h6⟩ := (h.same m)
  generalize hW : w.drewN m = W at h1 h0 h2 h3
  obtain ⟨k1, k2, k3⟩ := h3.rows R[i] (List.getElem_mem hi)
  have hF : Fr b2 W (W.setCell ⟨R[i].1, j, none⟩ (.int .i64 v)) := (Fr.refl b2 W).setCell (Or.inl k1) _
  refine P2.ref h1 h0 h2 h3 h4 h5 h6 hF (b2' := b2) ?_ (fun k hk => Or.inl hk)
  obtain ⟨la, lc, e1, e2, e3⟩ := h3.ex
  have hmem : ∀ r ∈ R.set i (R[i].1, R[i].2.set j v), ∃ i', ∃ h : i' < R.length, r.1 = R[i'].1 ∧ (i' = i → r.2 = R[i].2.set j v) ∧ (i' ≠ i → r = R[i']) := by
    intro r hr
    obtain ⟨i', hi', rfl⟩ := List.mem_iff_getElem.1 hr
    simp at hi'
    refine ⟨i', hi', ?_⟩
    rw [List.getElem_set]
    by_cases e : i = i'
    · subst e
      simp
    · simp [e, Ne.symm e]
  have hfst : (R.set i (R[i].1, R[i].2.set j v)).map Prod.fst = R.map Prod.fst := by
    rw [List.map_set]
    exact set_same (by simp [hi])
  have hlen : ∀ r ∈ R, r.1 ≠ (q : Nat) := fun r hr => (h3.rows r hr).2.1
  refine ⟨fun k hk => by simpa using h3.rng k hk, h3.inq, fun r hr => ?_, by rw [hfst]; exact h3.nodup, la, lc, fun k hk => ?_, ?_, ?_⟩
  · obtain ⟨i', hi', r1, r2, r3⟩ := hmem r hr
    obtain ⟨l1, l2, l3⟩ := h3.rows R[i'] (List.getElem_mem hi')
    rw [r1]
    refine ⟨l1, l2, ?_⟩
    by_cases e : i' = i
    · subst e
      rw [r2 rfl, block_setCell k3]
      simp
    · have hne : R[i'].1 ≠ R[i].1 := by
        intro e'
        have hp := List.pairwise_iff_getElem.1 h3.nodup
        rcases Nat.lt_or_gt_of_ne e with hlt | hlt
        · exact hp i' i (by simpa using hi') (by simpa using hi) hlt (by simpa using e')
        · exact hp i i' (by simpa using hi) (by simpa using hi') hlt (by simpa using e'.symm)
      rw [Below.heap_setCell _ _ _ _ hne, r3 e]
      exact l3
  · simp at hk
    obtain ⟨l1, l2, l3⟩ := e1 k hk
    refine ⟨l1, l2, fun r hr => ?_⟩
    obtain ⟨i', hi', r1, _⟩ := hmem r hr
    rw [r1]
    exact l3 _ (List.getElem_mem hi')
  · rw [Below.heap_setCell _ _ _ _ (Ne.symm k2), List.length_set]
    exact e2
  · have er : rowC (R.set i (R[i].1, R[i].2.set j v)) = rowC R := by
      simp only [rowC, List.map_set]
      exact set_same (by simp [hi])
    rw [er, List.length_set]
    exact ownsRow_block e3 fun k hk => Below.heap_setCell _ _ _ _ (Ne.symm ((e1 k hk).2.2 _ (List.getElem_mem hi)))

end

/-- The memory holds what the document's does. -/
def Rel (f : Int → Int → Int) (R : List (Nat × List Int)) : Prop := ∀ i (h : i < R.length) j, j < R[i].2.length → f (i : Int) (j : Int) = R[i].2.getD j 0
theorem rel_snoc {f : Int → Int → Int} {R : List (Nat × List Int)} (h : Rel f R) (ho : ∀ a b, inB (lens R) a b = false → f a b = 0) (g c : Nat) : Rel f (R ++ [(g, List.replicate c 0)]) := by
  intro i hi j hj
  by_cases e : i < R.length
  · rw [List.getElem_append_left e] at hj ⊢
    exact h i e j hj
  · have e2 : i = R.length := by simp at hi; omega
    subst e2
    simp at hj ⊢
    rw [ho]
    · simp [hj]
    · have : ¬ ((R.length : Int) < ((lens R).length : Int)) := by simp [lens]
      simp [inB, this]
theorem rel_keep {f : Int → Int → Int} {R : List (Nat × List Int)} (h : Rel f R) (k : Nat) : Rel (keepf f k) (R.take k) := by
  intro i hi j hj
  simp at hi
  simp at hj ⊢
  simp only [keepf]
  rw [if_pos (by omega), h i (by omega) j hj]
  simp
theorem rel_set {f : Int → Int → Int} {R : List (Nat × List Int)} (h : Rel f R) {i j : Nat} (hi : i < R.length) (hj : j < R[i].2.length) (v : Int) : Rel (upd f i j v) (R.set i (R[i].1, R[i].2.set j v)) := by
  intro i' hi' j' hj'
  simp at hi'
  rw [List.getElem_set] at hj' ⊢
  by_cases e : i = i'
  · subst e
    simp at hj' ⊢
    by_cases e2 : j = j'
    · subst e2
      simp [upd, hj]
    · have : ¬ ((j' : Int) = (j : Int)) := by omega
      simp only [upd, this, and_false, if_false]
      rw [h i hi j' hj']
      simp [e2]
  · simp only [e, if_false] at hj' ⊢
    have : ¬ ((i' : Int) = (i : Int)) := by omega
    simp only [upd, this, false_and, if_false]
    exact h i' hi' j' hj'
theorem lens_snoc (R : List (Nat × List Int)) (g c : Nat) : lens (R ++ [(g, List.replicate c 0)]) = lens R ++ [c] := by simp [lens]
theorem lens_take (R : List (Nat × List Int)) (k : Nat) : lens (R.take k) = (lens R).take k := by simp [lens, List.map_take]
theorem lens_set {R : List (Nat × List Int)} {i j : Nat} (hi : i < R.length) (v : Int) : lens (R.set i (R[i].1, R[i].2.set j v)) = lens R := by
  simp only [lens, List.map_set]
  exact set_same (by simp [hi])
theorem lens_length (R : List (Nat × List Int)) : (lens R).length = R.length := by simp [lens]

theorem q2_new {w0 w : World} {p n : Nat} {f : Int → Int → Int} (h : One w0 w p n [] f 0) : Q2 w0 (w.alloc (.cells #[.slice none 0 0] 29)) p w.heap.size n [] f 0 [] := by
  obtain ⟨h1, -, b1, h2⟩ := h
  have hr := ri_new w
  have hr' : RI (w.alloc (.cells #[.slice none 0 0] 29)) w0.heap.size (fun k => k = w.heap.size) w.heap.size [] := by
    obtain ⟨la, lc, e1, e2, e3⟩ := hr.ex
    refine ⟨fun k hk => ?_, rfl, hr.rows, hr.nodup, la, lc, e1, e2, ownsRow_mono e3 h1.size⟩
    subst hk
    have := h1.size
    simp
    omega
  refine ⟨h1.alloc h1.size _, b1, _, h2.below ((Below.refl _ _).alloc (Nat.le_refl _) _), hr', fun k hk e => ?_⟩
  have := (h2.rng hk).2
  omega
theorem p_end {w0 w : World} {p q n : Nat} {f : Int → Int → Int} {R : List (Nat × List Int)} {N : Nat} {cs : Array Value} (h : P2 w0 w p q n (lens R) f ((tot R : Nat) : Int) R N cs) (hl : R.length ≤ 1000000) (ht : tot R ≤ 65536) :
    ∃ (L : Nat) (T : Int) (la : Option Addr) (lc : Nat), L ≤ 1000000 ∧ w.cell? ⟨q, 0, none⟩ = some (.slice la L lc) ∧ (∀ m, Calls Try.prog 17 #[.pointer (some ⟨p, 0, none⟩)] (w.drewN m) fun e w' => e = .returned (.int .i64 (L : Int)) ∧ w' = w.drewN m) ∧
      (∀ m, Calls Try.prog 18 #[.pointer (some ⟨p, 0, none⟩)] (w.drewN m) fun e w' => e = .returned (.int .i64 T) ∧ w' = w.drewN m) ∧ ∀ m, Calls Try.prog 19 #[.pointer (some ⟨q, 0, none⟩)] (w.drewN m) fun e w' => e = .returned (.int .i64 T) ∧ w' = w.drewN m := by
  obtain ⟨la, lc, e⟩ := p_head h
  refine ⟨R.length, _, la, lc, hl, e, fun m => ?_, fun m => p_total (h.same m), fun m => p_rtotal (h.same m) hl (by omega)⟩
  have := p_blocks (h.same m)
  rw [lens_length] at this
  exact this

end Go.Proofs.Ytahhbehpgolinaa.Me
