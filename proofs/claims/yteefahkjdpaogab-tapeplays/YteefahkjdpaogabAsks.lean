/-
  A list of questions that came in, and what asking them does to a tape: facts on worlds and contracts over the program; the conditions: the pointer leads to a tape, the slices came in.
-/
import Derived.Test.YteefahkjdpaogabLog
import Derived.Deep.SlicePairs
import Derived.ProofKit
namespace Go.Proofs.Yteefahkjdpaogab
open Go.RowKit
set_option linter.unusedVariables false

/-- A list of questions that came in: each a number and a slice of weights. -/
def Asks (w : World) (a : Option Addr) (len : Nat) : Prop :=
  len ≤ 9223372036854775807 ∧ (len = 0 ∨ ∃ b off, a = some ⟨b, off, none⟩ ∧ ∀ i, i < len → ∃ (N : Int) (wa : Option Addr) (wl wc : Nat) (ws : List Int),
    w.cell? ⟨b, off + i * 2, none⟩ = some (.int .i64 N) ∧ w.cell? ⟨b, off + i * 2 + 1, none⟩ = some (.slice wa wl wc) ∧ N ≤ 9223372036854775807 ∧ ws.length = wl ∧ wl ≤ 9223372036854775807 ∧ Reads .i64 w wa ws)

theorem add_none (b off j : Nat) : (⟨b, off, none⟩ : Addr).add j = ⟨b, off + j, none⟩ := by
  unfold Addr.add
  split
  · rename_i h; subst h; rfl
  · rfl

theorem asks_of {H : Type} {enc : TypeId × Value → H} {w : World} {base : Nat} {a : Option Addr} {len cap fuel : Nat} {x : DataW H × List MemPlace}
    (h : DataW.trod enc Try.prog w base (fun _ => true) true fuel 23 [.slice a len cap] = some x) : Asks w a len := by
  rcases Go.Deep.open_slice_pairs Try.underlying23 Try.underlying34 (by kernel_rfl) rfl rfl (by kernel_rfl) (by kernel_rfl) h with ⟨hcs, _⟩ | ⟨a', l, c, m, n, V0, V1, D0, D1, P0, P1, hcs, _, hl, hm, hmm, _, hx⟩
  · simp at hcs
    obtain ⟨rfl, rfl, rfl⟩ := hcs
    exact ⟨by omega, Or.inl rfl⟩
  · simp at hcs
    obtain ⟨rfl, rfl, rfl⟩ := hcs
    simp at hmm
    subst hmm
    refine ⟨by unfold maxLen at hm; omega, ?_⟩
    by_cases h0 : len = 0
    · exact Or.inl h0
    · right
      obtain ⟨b, off, spot⟩ := a'
      have hspot : spot = none := by
        have := (hx 0 (by omega)).1
        simpa [Addr.add] using World.cell?_spot this
      subst hspot
      refine ⟨b, off, rfl, fun i hi => ?_⟩
      obtain ⟨c0, c1, t0, t1⟩ := hx i (by omega)
      rw [add_none] at c0 c1
      rw [← Nat.add_assoc] at c1
      obtain ⟨N, e0, _, wN⟩ := DataW.trod_int Try.underlying3 t0
      rcases Go.ChangeShapes.open_ints Try.underlying30 Try.underlying3 (by kernel_rfl) t1 with ⟨e1, _⟩ | ⟨x', l', c', zs, e1, _, hl', hm', hz, _, hcell, hwz⟩
      · simp at e0 e1
        refine ⟨N, none, 0, 0, [], by rw [c0, e0], by rw [c1, e1], (wf_i64 wN).2, rfl, by omega, fun j hj => by simp at hj⟩
      · simp at e0 e1
        simp at hz
        have hrow : IsRow .i64 w (some x') l' c' zs := Or.inr ⟨x', rfl, hl', hm', hz, hcell, hwz⟩
        refine ⟨N, some x', l', c', zs.take l', by rw [c0, e0], by rw [c1, e1], (wf_i64 wN).2, row_len hrow, by unfold maxLen at hm'; omega, row_reads hrow⟩

/-- A log that says all of a tape's story. -/
def Good (ds : List Int) (lg : List (Int × Int)) : Prop :=
  ∀ k, k < lg.length → 1 ≤ (lg.getD k (0, 0)).1 ∧ (lg.getD k (0, 0)).1 ≤ 9223372036854775807 ∧ (lg.getD k (0, 0)).2 = val ds (min k ds.length) (lg.getD k (0, 0)).1

theorem good_nil (ds : List Int) : Good ds [] := fun k hk => by simp at hk
theorem good_step {ds : List Int} {lg : List (Int × Int)} (n : Int) (hn : n ≤ 9223372036854775807) (h : Good ds lg) : Good ds (logZ ds (min lg.length ds.length) n lg) := by
  unfold logZ
  split
  · exact h
  · intro k hk
    by_cases e : k < lg.length
    · have e2 : (lg ++ [(n, val ds (min lg.length ds.length) n)]).getD k (0, 0) = lg.getD k (0, 0) := by simp [List.getD, List.getElem?_append_left e]
      rw [e2]
      exact h k e
    · have e' : k = lg.length := by simp at hk; omega
      subst e'
      simp
      omega
theorem log_len {ds : List Int} {lg : List (Int × Int)} (n : Int) : nxtZ ds (min lg.length ds.length) n = min (logZ ds (min lg.length ds.length) n lg).length ds.length := by
  unfold nxtZ logZ nxt
  split
  · rfl
  · simp
    split <;> omega
theorem log_le {ds : List Int} {lg : List (Int × Int)} (u : Nat) (n : Int) : (logZ ds u n lg).length ≤ lg.length + 1 := by
  unfold logZ
  split <;> simp

/-- Two tapes of the same draws: one that is asked, one that is fresh. -/
structure LS (w0 w : World) (B p1 p2 : Nat) (ds : List Int) (i : Nat) : Prop where
  ex : ∃ (b1 b2 : Nat → Prop) (lg : List (Int × Int)), TP w B b1 p1 ds (min lg.length ds.length) lg ∧ TP w B b2 p2 ds 0 [] ∧ (∀ k, b1 k → ¬ b2 k) ∧ Good ds lg ∧ lg.length ≤ i
  bel : Below B w0 w

theorem ls_step {w0 w w' : World} {B p1 p2 : Nat} {ds : List Int} {i : Nat} {b1 b2 : Nat → Prop} {lg : List (Int × Int)} (n : Int) (hn : n ≤ 9223372036854775807) (t1 : TP w B b1 p1 ds (min lg.length ds.length) lg) (t2 : TP w B b2 p2 ds 0 []) (hap : ∀ k, b1 k → ¬ b2 k) (hg : Good ds lg) (hl : lg.length ≤ i) (hb : Below B w0 w)
    (hst : Step w w' B b1 p1 ds (nxtZ ds (min lg.length ds.length) n) (logZ ds (min lg.length ds.length) n lg)) : LS w0 w' B p1 p2 ds (i + 1) := by
  have hs : B ≤ w.heap.size := by have := t1.rng p1 t1.inp; omega
  obtain ⟨b1', r1, r2, r3⟩ := two_step (u1 := 0) (l1 := []) t2 hap hst.1 hst.2
  rw [log_len n] at r1
  have := log_le (ds := ds) (lg := lg) (min lg.length ds.length) n
  exact ⟨⟨b1', b2, _, r1, r2, r3, good_step n hn hg, by omega⟩, hb.trans (hst.2.below hs (fun k hk => (t1.rng k hk).1))⟩

theorem ls_below (w : World) {w0 : World} {B p1 p2 : Nat} {ds : List Int} {i : Nat} (n : Int) (h : LS w0 w B p1 p2 ds i) (hn : n ≤ 9223372036854775807) (hi : i ≤ 1000000) :
    Calls Try.prog 11 #[.pointer (some ⟨p1, 0, none⟩), .int .i64 n] w fun e w' => (∃ v : Int, e = .returned (.int .i64 v)) ∧ LS w0 w' B p1 p2 ds (i + 1) := by
  obtain ⟨b1, b2, lg, t1, t2, hap, hg, hl⟩ := h.ex
  have hs : B ≤ w.heap.size := by have := t1.rng p1 t1.inp; omega
  exact (below_all w n t1 hn (by omega) hs).mono fun e w' ⟨he, hst⟩ => ⟨⟨_, he⟩, ls_step n hn t1 t2 hap hg hl h.bel hst⟩
theorem askN_le (ws : List Int) : askN ws ≤ 9223372036854775807 := by
  unfold askN
  split <;> omega
theorem ls_pick (w : World) {w0 : World} {p1 p2 : Nat} {ds : List Int} {i : Nat} (wa : Option Addr) (wl wc : Nat) (ws : List Int) (h : LS w0 w w0.heap.size p1 p2 ds i) (hi : i ≤ 1000000) (hr : Reads .i64 w0 wa ws) (hl : ws.length = wl) (h0 : 0 < wl) (hm : wl ≤ 9223372036854775807) :
    Calls Try.prog 9 #[.pointer (some ⟨p1, 0, none⟩), .slice wa wl wc] w fun e w' => (∃ v : Int, e = .returned (.int .i64 v)) ∧ LS w0 w' w0.heap.size p1 p2 ds (i + 1) := by
  obtain ⟨b1, b2, lg, t1, t2, hap, hg, hll⟩ := h.ex
  have hs : w0.heap.size ≤ w.heap.size := by have := t1.rng p1 t1.inp; omega
  obtain ⟨b, off, rfl, hc⟩ := reads_at hr (by omega)
  have hb : b < w0.heap.size := World.block_lt_of_cell? w0 _ (hc 0 (by omega))
  have hc' : ∀ j, j < ws.length → w.cell? ⟨b, off + j, none⟩ = some (.int .i64 (ws.getD j 0)) := fun j hj => by
    rw [h.bel.cell (p := ⟨b, off + j, none⟩) hb]
    exact hc j hj
  exact (pick_any w b off wl wc ws t1 (by omega) hs hl h0 hm hc' (fun hbl => by have := (t1.rng b hbl).1; omega)).mono fun e w' ⟨he, hst⟩ => ⟨⟨_, he⟩, ls_step (askN ws) (askN_le ws) t1 t2 hap hg hll h.bel hst⟩

theorem ls_start {w x1 y1 y2 : World} {p1 p2 : Nat} {xs : List Int} {b1 b2 : Nat → Prop} (q1 : Below w.heap.size w x1)
    (t1 : TP y1 x1.heap.size b1 p1 xs 0 []) (f1 : Fr (fun _ => False) x1 y1) (t2 : TP y2 y1.heap.size b2 p2 xs 0 []) (f2 : Fr (fun _ => False) y1 y2) : LS w y2 w.heap.size p1 p2 xs 0 := by
  have s1 := q1.size
  have s3 := f1.size
  have s4 := f2.size
  have c2 := q1.trans ((f1.below (B := w.heap.size) (by omega) (fun k h => h.elim)))
  have c3 := c2.trans ((f2.below (B := w.heap.size) (by omega) (fun k h => h.elim)))
  refine ⟨⟨b1, b2, [], ?_, t2.base (by omega), ?_, good_nil _, Nat.le_refl _⟩, c3⟩
  · have := (t1.fr f2 (fun k _ h => h)).base (B' := w.heap.size) (by omega)
    simpa using this
  · intro k h1 h2
    have := (t1.rng k h1).2
    have := (t2.rng k h2).1
    omega

end Go.Proofs.Yteefahkjdpaogab
