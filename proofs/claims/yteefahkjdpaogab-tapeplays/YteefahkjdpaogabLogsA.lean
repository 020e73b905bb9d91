/-
  Steps of the statement TapeLogs, outside of its walk: two tapes of the same draws, and a copy of the first one's log; no conditions but those that each fact bears.
-/
import Derived.Test.YteefahkjdpaogabAsks
namespace Go.Proofs.Yteefahkjdpaogab
open Go.RowKit
set_option linter.unusedVariables false

def bd (lg : List (Int × Int)) (j : Nat) : Int := (lg.getD j (0, 0)).1
def vl (lg : List (Int × Int)) (j : Nat) : Int := (lg.getD j (0, 0)).2

theorem logCells_get (lg : List (Int × Int)) (j : Nat) (h : j < lg.length) : (logCells lg)[j * 2]? = some (.int .i64 (bd lg j)) ∧ (logCells lg)[j * 2 + 1]? = some (.int .i64 (vl lg j)) := by
  induction lg generalizing j with
  | nil => simp at h
  | cons x r ih =>
    have e : logCells (x :: r) = .int .i64 x.1 :: .int .i64 x.2 :: logCells r := rfl
    cases j with
    | zero => simp [e, bd, vl]
    | succ j =>
      have := ih j (by simpa using h)
      have e1 : (j + 1) * 2 = j * 2 + 1 + 1 := by omega
      rw [e, e1]
      simp [bd, vl] at this ⊢
      exact this
theorem vl_bd {ds : List Int} {lg : List (Int × Int)} (hg : Good ds lg) (j : Nat) (h : j < lg.length) : 1 ≤ bd lg j ∧ bd lg j ≤ 9223372036854775807 ∧ 0 ≤ vl lg j ∧ vl lg j < bd lg j := by
  obtain ⟨h1, h2, h3⟩ := hg j h
  have e : vl lg j = val ds (min j ds.length) (bd lg j) := h3
  have hb : 1 ≤ bd lg j := h1
  refine ⟨hb, h2, ?_⟩
  rw [e]
  unfold val
  split
  · exact ⟨Int.emod_nonneg _ (by omega), Int.emod_lt_of_pos _ (by omega)⟩
  · omega

theorem kept_at {w w' : World} {lb : Nat} (hk : w'.heap[lb]? = w.heap[lb]?) : (∀ j, w'.cell? ⟨lb, j, none⟩ = w.cell? ⟨lb, j, none⟩) ∧ ∀ j, w'.frozen? ⟨lb, j, none⟩ = w.frozen? ⟨lb, j, none⟩ :=
  ⟨fun j => World.cell?_of_block (a := ⟨lb, j, none⟩) hk, fun j => World.frozen?_of_block (a := ⟨lb, j, none⟩) hk⟩

/-- The state of the second loop: the log's copy at block lb is spoilt up to i, the second tape was asked k times. -/
structure L2 (w0 w : World) (B p1 p2 : Nat) (ds : List Int) (lg : List (Int × Int)) (lb i k : Nat) : Prop where
  ex : ∃ (b1 b2 : Nat → Prop) (lu : List (Int × Int)), TP w B b1 p1 ds (min lg.length ds.length) lg ∧ TP w B b2 p2 ds (min k ds.length) lu ∧ (∀ j, b1 j → ¬ b2 j) ∧ ¬ b1 lb ∧ ¬ b2 lb ∧ lu.length ≤ k
  cells : ∀ j, i ≤ j → j < lg.length → w.cell? ⟨lb, j * 2, none⟩ = some (.int .i64 (bd lg j)) ∧ w.cell? ⟨lb, j * 2 + 1, none⟩ = some (.int .i64 (vl lg j)) ∧ w.frozen? ⟨lb, j * 2 + 1, none⟩ = false
  good : Good ds lg
  lbB : B ≤ lb
  lbs : lb < w.heap.size
  bel : Below B w0 w

theorem L2.drewN {w0 w : World} {B p1 p2 : Nat} {ds : List Int} {lg : List (Int × Int)} {lb i k : Nat} (h : L2 w0 w B p1 p2 ds lg lb i k) (n : Nat) : L2 w0 (w.drewN n) B p1 p2 ds lg lb i k := by
  obtain ⟨b1, b2, lu, t1, t2, r⟩ := h.ex
  exact ⟨⟨b1, b2, lu, t1.kept (fun _ _ => rfl) (Nat.le_refl _), t2.kept (fun _ _ => rfl) (Nat.le_refl _), r⟩, h.cells, h.good, h.lbB, h.lbs, below_drewN h.bel n⟩

/-- The first loop is over: the log is told. -/
theorem l2_start (w : World) {w0 : World} {B p1 p2 : Nat} {ds : List Int} {i : Nat} (h : LS w0 w B p1 p2 ds i) (hi : i ≤ 1000000) :
    Calls Try.prog 13 #[.pointer (some ⟨p1, 0, none⟩)] w fun e w' => ∃ lg, e = .returned (.slice (some ⟨w.heap.size, 0, none⟩) lg.length lg.length) ∧ lg.length ≤ i ∧ L2 w0 w' B p1 p2 ds lg w.heap.size 0 0 := by
  obtain ⟨b1, b2, lg, t1, t2, hap, hg, hl⟩ := h.ex
  have hs : B ≤ w.heap.size := by have := t1.rng p1 t1.inp; omega
  refine (log_any w t1 (by omega)).mono fun e w' ⟨he, hc, hf⟩ => ⟨lg, he, hl, ?_⟩
  refine ⟨⟨b1, b2, [], t1.fr hf (fun _ _ h => h), ?_, hap, fun c => ?_, fun c => ?_, Nat.le_refl _⟩, fun j _ hj => ?_, hg, hs, lt_of_block hc, h.bel.trans (hf.below hs (fun _ h => h.elim))⟩
  · have := t2.fr hf (fun _ _ h => h)
    simpa using this
  · have := (t1.rng _ c).2; omega
  · have := (t2.rng _ c).2; omega
  · have := logCells_get lg j hj
    refine ⟨?_, ?_, free_of_block hc _⟩
    · rw [cell_of_block hc]
      simpa using this.1
    · rw [cell_of_block hc]
      simpa using this.2

/-- The second tape is asked what the first one was. -/
theorem l2_below (w : World) {w0 : World} {B p1 p2 : Nat} {ds : List Int} {lg : List (Int × Int)} {lb i : Nat} (h : L2 w0 w B p1 p2 ds lg lb i i) (hi : i < lg.length) (hl : i ≤ 1000000) :
    Calls Try.prog 11 #[.pointer (some ⟨p2, 0, none⟩), .int .i64 (bd lg i)] w fun e w' => e = .returned (.int .i64 (vl lg i)) ∧ L2 w0 w' B p1 p2 ds lg lb i (i + 1) := by
  obtain ⟨b1, b2, lu, t1, t2, hap, n1, n2, hlu⟩ := h.ex
  have hs : B ≤ w.heap.size := by have := t1.rng p1 t1.inp; omega
  obtain ⟨q1, q2, q3, q4⟩ := vl_bd h.good i hi
  have e3 : vl lg i = val ds (min i ds.length) (bd lg i) := (h.good i hi).2.2
  refine (below_any w (bd lg i) t2 q1 q2 (by omega) hs).mono fun e w' ⟨he, hb, hF⟩ => ⟨by rw [he, e3], ?_⟩
  obtain ⟨b2', r1, r2, r3⟩ := hb
  have en : nxt ds (min i ds.length) = min (i + 1) ds.length := by unfold nxt; split <;> omega
  rw [en] at r3
  have hlb := h.lbs
  refine ⟨⟨b1, b2', _, t1.fr hF (fun k a b => hap k a b), r3, fun k a b => ?_, n1, fun c => ?_, by simp; omega⟩, fun j hj1 hj2 => ?_, h.good, h.lbB, Nat.lt_of_lt_of_le hlb hF.size, h.bel.trans (hF.below hs (fun k hk => (t2.rng k hk).1))⟩
  · rcases r2 k b with c | c
    · exact hap k a c
    · have := (t1.rng k a).2; omega
  · rcases r2 lb c with c | c
    · exact n2 c
    · omega
  · have hk := hF.block lb hlb n2
    rw [(kept_at hk).1, (kept_at hk).1, (kept_at hk).2]
    exact h.cells j hj1 hj2

theorem l2_set {w0 w : World} {B p1 p2 : Nat} {ds : List Int} {lg : List (Int × Int)} {lb i : Nat} (h : L2 w0 w B p1 p2 ds lg lb i (i + 1)) (v : Value) : L2 w0 (w.setCell ⟨lb, i * 2 + 1, none⟩ v) B p1 p2 ds lg lb (i + 1) (i + 1) := by
  obtain ⟨b1, b2, lu, t1, t2, hap, n1, n2, hlu⟩ := h.ex
  have hf : Fr (fun k => k = lb) w (w.setCell ⟨lb, i * 2 + 1, none⟩ v) := (Fr.refl (fun k => k = lb) w).setCell (p := ⟨lb, i * 2 + 1, none⟩) (Or.inl rfl) _
  refine ⟨⟨b1, b2, lu, t1.fr hf (fun k a e => by subst e; exact n1 a), t2.fr hf (fun k a e => by subst e; exact n2 a), hap, n1, n2, hlu⟩, fun j hj1 hj2 => ?_, h.good, h.lbB, by simpa using h.lbs, h.bel.setCell h.lbB _⟩
  obtain ⟨c1, c2, c3⟩ := h.cells j (by omega) hj2
  refine ⟨?_, ?_, ?_⟩
  · rw [World.cell?_setCell_other _ _ _ _ (by simp <;> omega)]
    exact c1
  · rw [World.cell?_setCell_other _ _ _ _ (by simp <;> omega)]
    exact c2
  · rw [World.frozen?_setCell]
    exact c3

/-- The log is told again. -/
theorem l2_log (w : World) {w0 : World} {B p1 p2 : Nat} {ds : List Int} {lg : List (Int × Int)} {lb i k : Nat} (h : L2 w0 w B p1 p2 ds lg lb i k) (hl : lg.length ≤ 1000000) :
    Calls Try.prog 13 #[.pointer (some ⟨p1, 0, none⟩)] w fun e w' => e = .returned (.slice (some ⟨w.heap.size, 0, none⟩) lg.length lg.length) ∧ (∀ j, j < lg.length → w'.cell? ⟨w.heap.size, j * 2 + 1, none⟩ = some (.int .i64 (vl lg j))) ∧ L2 w0 w' B p1 p2 ds lg lb i k := by
  obtain ⟨b1, b2, lu, t1, t2, hap, n1, n2, hlu⟩ := h.ex
  have hs : B ≤ w.heap.size := by have := t1.rng p1 t1.inp; omega
  refine (log_any w t1 hl).mono fun e w' ⟨he, hc, hf⟩ => ⟨he, fun j hj => ?_, ?_⟩
  · rw [cell_of_block hc]
    simpa using (logCells_get lg j hj).2
  · have hk := hf.block lb h.lbs (fun h => h)
    refine ⟨⟨b1, b2, lu, t1.fr hf (fun _ _ h => h), t2.fr hf (fun _ _ h => h), hap, n1, n2, hlu⟩, fun j hj1 hj2 => ?_, h.good, h.lbB, Nat.lt_of_lt_of_le h.lbs hf.size, h.bel.trans (hf.below hs (fun _ h => h.elim))⟩
    rw [(kept_at hk).1, (kept_at hk).1, (kept_at hk).2]
    exact h.cells j hj1 hj2

theorem l2_used1 (w : World) {w0 : World} {B p1 p2 : Nat} {ds : List Int} {lg : List (Int × Int)} {lb i k : Nat} (h : L2 w0 w B p1 p2 ds lg lb i k) :
    Calls Try.prog 14 #[.pointer (some ⟨p1, 0, none⟩)] w fun e w' => e = .returned (.int .i64 ((min lg.length ds.length : Nat) : Int)) ∧ w' = w := by
  obtain ⟨b1, b2, lu, t1, t2, r⟩ := h.ex
  exact used_any w t1
theorem l2_used2 (w : World) {w0 : World} {B p1 p2 : Nat} {ds : List Int} {lg : List (Int × Int)} {lb i : Nat} (h : L2 w0 w B p1 p2 ds lg lb i lg.length) :
    Calls Try.prog 14 #[.pointer (some ⟨p2, 0, none⟩)] w fun e w' => e = .returned (.int .i64 ((min lg.length ds.length : Nat) : Int)) ∧ w' = w := by
  obtain ⟨b1, b2, lu, t1, t2, r⟩ := h.ex
  exact used_any w t2
theorem l2_left1 (w : World) {w0 : World} {B p1 p2 : Nat} {ds : List Int} {lg : List (Int × Int)} {lb i k : Nat} (h : L2 w0 w B p1 p2 ds lg lb i k) :
    Calls Try.prog 15 #[.pointer (some ⟨p1, 0, none⟩)] w fun e w' => e = .returned (.int .i64 ((ds.length : Int) - (min lg.length ds.length : Nat))) ∧ ∃ n, w' = w.drewN n := by
  obtain ⟨b1, b2, lu, t1, t2, r⟩ := h.ex
  exact left_any w t1
theorem l2_left2 (w : World) {w0 : World} {B p1 p2 : Nat} {ds : List Int} {lg : List (Int × Int)} {lb i : Nat} (h : L2 w0 w B p1 p2 ds lg lb i lg.length) :
    Calls Try.prog 15 #[.pointer (some ⟨p2, 0, none⟩)] w fun e w' => e = .returned (.int .i64 ((ds.length : Int) - (min lg.length ds.length : Nat))) ∧ ∃ n, w' = w.drewN n := by
  obtain ⟨b1, b2, lu, t1, t2, r⟩ := h.ex
  exact left_any w t2

end Go.Proofs.Yteefahkjdpaogab
