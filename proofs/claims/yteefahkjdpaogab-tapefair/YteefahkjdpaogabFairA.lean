/-
  Steps of the statement TapeFair, outside of its walk: facts on sums, places and counts, and on worlds; no conditions but those that each fact bears.
-/
import Derived.Test.YteefahkjdpaogabPick
namespace Go.Proofs.Yteefahkjdpaogab
open Go.RowKit
set_option linter.unusedVariables false

/-- The weights that the statement makes of its bytes. -/
def gsOf (xs : List Int) : List Int := (xs.take 8).map (· % 20)
theorem gs_len (xs : List Int) : (gsOf xs).length = min 8 xs.length := by simp [gsOf]
theorem gs_get (xs : List Int) (k : Nat) (h8 : k < 8) (hk : k < xs.length) : (gsOf xs).getD k 0 = xs.getD k 0 % 20 := by
  simp [gsOf, h8, hk]
theorem gs_bd (xs : List Int) (k : Nat) : 0 ≤ (gsOf xs).getD k 0 ∧ (gsOf xs).getD k 0 < 20 := by
  by_cases h : k < (gsOf xs).length
  · have hl := gs_len xs
    rw [gs_get xs k (by omega) (by omega)]
    omega
  · simp [List.getD, List.getElem?_eq_none (Nat.le_of_not_lt h)]
theorem cnt_small (x : Int) (h0 : 0 ≤ x) (h1 : x < 20) : cnt x = x := by
  unfold cnt
  rw [if_neg (by omega), if_neg (by omega)]
theorem sum_gs (xs : List Int) (k : Nat) : sumTo (gsOf xs) (k + 1) = sumTo (gsOf xs) k + (gsOf xs).getD k 0 := by
  rw [sumTo_succ, cnt_small _ (gs_bd xs k).1 (gs_bd xs k).2]
theorem sum_small (xs : List Int) (k : Nat) : sumTo (gsOf xs) k ≤ 20 * k := by
  induction k with
  | zero => exact Int.le_refl _
  | succ k ih => rw [sum_gs]; have := gs_bd xs k; omega
theorem take_gs (xs : List Int) (k : Nat) (h8 : k < 8) (hk : k < xs.length) : (gsOf xs).take (k + 1) = (gsOf xs).take k ++ [xs.getD k 0 % 20] := by
  have hl := gs_len xs
  have hlt : k < (gsOf xs).length := by omega
  rw [List.take_succ_eq_append_getElem hlt]
  congr 2
  have := gs_get xs k h8 hk
  rw [← this]
  simp [hlt]

/-- A number below the sum has its place. -/
theorem place_of (ws : List Int) (d : Int) (k n : Nat) (h0 : sumTo ws k ≤ d) (hn : k ≤ n) (h : d < sumTo ws n) : ∃ j : Nat, placeFrom ws d k (n - k) = j ∧ j < n ∧ sumTo ws j ≤ d ∧ d < sumTo ws (j + 1) := by
  obtain ⟨f, hf⟩ : ∃ f, n - k = f := ⟨_, rfl⟩
  induction f generalizing k with
  | zero =>
    have e : k = n := by omega
    subst e
    omega
  | succ f ih =>
    rw [hf, placeFrom]
    by_cases c : d < sumTo ws (k + 1)
    · rw [if_pos c]
      exact ⟨k, rfl, by omega, h0, c⟩
    · rw [if_neg c]
      have := ih (k + 1) (by omega) (by omega) (by omega)
      rwa [show n - (k + 1) = f by omega] at this

/-- How often each place came. -/
def hadL (gs : List Int) (i : Int) : List Int := (List.range gs.length).map fun k => max 0 (min (i - sumTo gs k) (gs.getD k 0))
theorem had_len (gs : List Int) (i : Int) : (hadL gs i).length = gs.length := by simp [hadL]
theorem had_get (gs : List Int) (i : Int) (k : Nat) (h : k < gs.length) : (hadL gs i).getD k 0 = max 0 (min (i - sumTo gs k) (gs.getD k 0)) := by
  simp [hadL, h]
theorem had_zero (xs : List Int) : hadL (gsOf xs) 0 = List.replicate (gsOf xs).length 0 := by
  apply List.ext_getElem
  · simp [hadL]
  · intro k h1 h2
    simp [hadL]
    have := sumTo_nonneg (gsOf xs) k
    have := gs_bd xs k
    simp at this
    omega
theorem had_step (xs : List Int) (i : Int) (j : Nat) (hi : 0 ≤ i) (hj : j < (gsOf xs).length) (h1 : sumTo (gsOf xs) j ≤ i) (h2 : i < sumTo (gsOf xs) (j + 1)) :
    hadL (gsOf xs) (i + 1) = (hadL (gsOf xs) i).set j ((hadL (gsOf xs) i).getD j 0 + 1) := by
  apply List.ext_getElem
  · simp [hadL]
  · intro k hk1 hk2
    have hk : k < (gsOf xs).length := by simpa [hadL] using hk1
    have e1 : (hadL (gsOf xs) (i + 1))[k] = max 0 (min (i + 1 - sumTo (gsOf xs) k) ((gsOf xs).getD k 0)) := by simp [hadL]
    rw [e1, List.getElem_set]
    have gk := gs_bd xs k
    have gj := gs_bd xs j
    have sj := sum_gs xs j
    split
    · rename_i e
      subst e
      rw [had_get _ _ _ hj]
      omega
    · rename_i e
      have e2 : (hadL (gsOf xs) i)[k]'(by simpa [hadL] using hk) = max 0 (min (i - sumTo (gsOf xs) k) ((gsOf xs).getD k 0)) := by simp [hadL]
      rw [e2]
      by_cases c : k < j
      · have := sumTo_mono (gsOf xs) (show k + 1 ≤ j by omega)
        have := sum_gs xs k
        omega
      · have := sumTo_mono (gsOf xs) (show j + 1 ≤ k by omega)
        omega
theorem had_all (xs : List Int) (k : Nat) (h : k < (gsOf xs).length) : (hadL (gsOf xs) (tot (gsOf xs))).getD k 0 = (gsOf xs).getD k 0 := by
  rw [had_get _ _ _ h]
  have := sumTo_mono (gsOf xs) (show k + 1 ≤ (gsOf xs).length by omega)
  have := sum_gs xs k
  have := gs_bd xs k
  unfold tot
  omega

/-- The draws one behind the other. -/
def upTo (n : Nat) : List Int := (List.range n).map fun k : Nat => (k : Int)
theorem up_len (n : Nat) : (upTo n).length = n := by simp [upTo]
theorem up_get (n k : Nat) (h : k < n) : (upTo n).getD k 0 = k := by simp [upTo, h]
theorem up_succ (n : Nat) : upTo (n + 1) = upTo n ++ [(n : Int)] := by simp [upTo, List.range_succ]
theorem up_wf (n : Nat) (h : n ≤ 4096) : ∀ d ∈ upTo n, 0 ≤ d ∧ d ≤ 18446744073709551615 := by
  intro d hd
  simp [upTo] at hd
  omega
theorem val_up (n i : Nat) (h : i < n) : valZ (upTo n) i n = i := by
  unfold valZ val
  rw [if_neg (by omega), if_pos (by rw [up_len]; exact h), up_get _ _ h]
  exact Int.emod_eq_of_lt (by omega) (by omega)
theorem nxt_up (n i : Nat) (h : i < n) : nxtZ (upTo n) i n = i + 1 := by
  unfold nxtZ nxt
  rw [if_neg (by omega), if_pos (by rw [up_len]; exact h)]

/-- The state of the third loop. -/
structure St3 (w0 w : World) (B p hb lb lc n S : Nat) (gs : List Int) (i : Nat) : Prop where
  ex : ∃ (bl : Nat → Prop) (lg : List (Int × Int)), TP w B bl p (upTo S) i lg ∧ lg.length ≤ i ∧ ¬ bl hb ∧ ¬ bl lb
  had : w.ownsRow B 3 1 (.slice (some ⟨hb, 0, none⟩) n n) n ((hadL gs i).map (Value.int .i64))
  row : w.ownsRow B 3 1 (.slice (some ⟨lb, 0, none⟩) n lc) n (gs.map (Value.int .i64))
  ne : hb ≠ lb
  bel : Below B w0 w

theorem st3_start {w0 w1 w2 : World} {B p lb lc n S : Nat} {gs : List Int} {bl : Nat → Prop} (hT : TP w1 B bl p (upTo S) 0 []) (hr : w1.ownsRow B 3 1 (.slice (some ⟨lb, 0, none⟩) n lc) n (gs.map (Value.int .i64))) (hlb : ¬ bl lb) (hb : Below B w0 w1)
    (hm : w2.ownsRow B 3 1 (.slice (some ⟨w1.heap.size, 0, none⟩) n n) n ((hadL gs 0).map (Value.int .i64))) (hg : w1.grownBy w2 none) (hB : B ≤ w1.heap.size) : St3 w0 w2 B p w1.heap.size lb lc n S gs 0 := by
  have hlt := (hr.lt lb rfl).2
  have hf : Fr (fun _ => False) w1 w2 := (Fr.refl _ w1).grown hg (fun k h => by cases h)
  refine ⟨⟨bl, [], hT.fr hf (fun _ _ h => h), Nat.le_refl _, fun h => ?_, hlb⟩, by simpa using hm, ?_, by omega, hb.grown hg hB (fun k h => by cases h)⟩
  · have := (hT.rng _ h).2
    omega
  · refine ownsRow_block hr fun k hk => ?_
    simp [Value.ownBlock] at hk
    subst hk
    exact hg.block lb hlt (by simp)

/-- A pick of the third loop. -/
theorem st3_pick (w : World) {w0 : World} {B p hb lb lc n S i : Nat} {gs : List Int} (h : St3 w0 w B p hb lb lc n S gs i) (hn : gs.length = n) (hi : i < S) (hS : S ≤ 4096) (ht : tot gs = S) (h0 : 0 < n) (hn8 : n ≤ 8) :
    Calls Try.prog 9 #[.pointer (some ⟨p, 0, none⟩), .slice (some ⟨lb, 0, none⟩) n lc] w fun e w' => ∃ j : Nat, e = .returned (.int .i64 j) ∧ j < n ∧ sumTo gs j ≤ i ∧ (i : Int) < sumTo gs (j + 1) ∧
      (w'.ownsRow B 3 1 (.slice (some ⟨hb, 0, none⟩) n n) n ((hadL gs i).map (Value.int .i64))) ∧
      ∀ v, (w'.setCell ⟨hb, j, none⟩ v).ownsRow B 3 1 (.slice (some ⟨hb, 0, none⟩) n n) n ((hadL gs (i + 1)).map (Value.int .i64)) → St3 w0 (w'.setCell ⟨hb, j, none⟩ v) B p hb lb lc n S gs (i + 1) := by
  obtain ⟨bl, lg, hT, hl, hnh, hnl⟩ := h.ex
  have hB : B ≤ w.heap.size := by have := hT.rng p hT.inp; omega
  have hcell : ∀ j, j < gs.length → w.cell? ⟨lb, 0 + j, none⟩ = some (.int .i64 (gs.getD j 0)) := by
    intro j hj
    rw [Nat.zero_add, h.row.cellAt j (by omega)]
    simp [hj]
  refine (pick_any w lb 0 n lc gs hT (by omega) hB hn h0 (by omega) hcell hnl).mono fun e w' ⟨he, hst, hF⟩ => ?_
  have ha : askN gs = S := by unfold askN; rw [if_neg (by omega), ht]
  obtain ⟨j, hj, hjn, j1, j2⟩ := place_of gs i 0 n (by show (0 : Int) ≤ _; omega) (Nat.zero_le _) (by unfold tot at ht; rw [hn] at ht; omega)
  have hv : pickV (upTo S) i gs = j := by
    unfold pickV
    rw [if_neg (by omega), ht, val_up _ _ hi, hn]
    exact hj
  rw [ha] at hst
  obtain ⟨bl', r1, r2, r3⟩ := hst
  rw [nxt_up _ _ hi] at r3
  have hhl := (h.had.lt hb rfl)
  have hrl := (h.row.lt lb rfl)
  refine ⟨j, by rw [he, hv], hjn, j1, j2, ?_, fun v hv' => ?_⟩
  · refine ownsRow_block h.had fun k hk => ?_
    simp [Value.ownBlock] at hk
    subst hk
    exact hF.block hb hhl.2 hnh
  · have hnh' : ¬ bl' hb := fun c => (r2 hb c).elim hnh (fun g => by omega)
    have hnl' : ¬ bl' lb := fun c => (r2 lb c).elim hnl (fun g => by omega)
    have hf : Fr (fun k => k = hb) w' (w'.setCell ⟨hb, j, none⟩ v) := (Fr.refl (fun k => k = hb) w').setCell (p := ⟨hb, j, none⟩) (Or.inl rfl) _
    refine ⟨⟨bl', _, r3.fr hf (fun k hk e => by subst e; exact hnh' hk), ?_, hnh', hnl'⟩, by simpa using hv', ?_, h.ne, ?_⟩
    · unfold logZ
      split
      · omega
      · simp; omega
    · refine ownsRow_block h.row fun k hk => ?_
      simp [Value.ownBlock] at hk
      subst hk
      rw [Below.heap_setCell _ _ _ _ (fun e => h.ne e.symm)]
      exact hF.block lb hrl.2 hnl
    · exact (h.bel.trans (hF.below hB (fun k hk => (hT.rng k hk).1))).setCell hhl.1 _

theorem rows_step {wr w' : World} {B : Nat} {v : Value} {m k lb lc : Nat} {o : Obj} {xs ys : List Value} (h1 : wr.ownsRow B 43 1 v m xs) (h2 : wr.ownsRow B 3 1 (.slice (some ⟨lb, 0, none⟩) k lc) k ys) (hg : (wr.alloc o).grownBy w' v.ownBlock) : w'.ownsRow B 3 1 (.slice (some ⟨lb, 0, none⟩) k lc) k ys := by
  have hl := (h2.lt lb rfl).2
  refine ownsRow_block h2 fun j hj => ?_
  simp [Value.ownBlock] at hj
  subst hj
  rw [hg.block lb (by simp; omega) (fun e => ?_), Below.heap_alloc _ _ _ hl]
  rcases h1.2 with ⟨h, _⟩ | ⟨g, cap, cur, h, _, hh, _⟩
  · rw [h] at e
    simp [Value.ownBlock] at e
  · rw [h] at e
    simp [Value.ownBlock] at e
    subst e
    rcases h2.2 with ⟨h', _⟩ | ⟨g', cap', cur', h', _, hh', _⟩
    · simp at h'
    · simp at h'
      obtain ⟨rfl, rfl⟩ := h'
      rw [hh] at hh'
      simp at hh'
theorem had_made (xs : List Int) (k : Nat) (hk : k = (gsOf xs).length) : (madeCells (Value.int .i64 0).cells (k * 1)).toList = (hadL (gsOf xs) 0).map (Value.int .i64) := by
  have e : (Value.int .i64 0).cells = #[.int .i64 0] := rfl
  rw [e, toList_madeCells_one, had_zero, ← hk]
  simp
theorem st3_cell {w0 w : World} {B p hb lb lc n S i : Nat} {gs : List Int} (ho : w.ownsRow B 3 1 (.slice (some ⟨hb, 0, none⟩) n n) n ((hadL gs i).map (Value.int .i64))) (hn : gs.length = n) (j : Nat) (hj : j < n) :
    w.cell? ⟨hb, j, none⟩ = some (.int .i64 ((hadL gs i).getD j 0)) ∧ w.frozen? ⟨hb, j, none⟩ = false := by
  refine ⟨?_, ho.frozenAt j⟩
  rw [ho.cellAt j (by omega)]
  have := had_len gs i
  simp [this, hn, hj]
theorem had_bd (xs : List Int) (i : Int) (j : Nat) : 0 ≤ (hadL (gsOf xs) i).getD j 0 ∧ (hadL (gsOf xs) i).getD j 0 ≤ 20 := by
  by_cases h : j < (gsOf xs).length
  · rw [had_get _ _ _ h]
    have := gs_bd xs j
    omega
  · have hl := had_len (gsOf xs) i
    simp [List.getD, List.getElem?_eq_none (show (hadL (gsOf xs) i).length ≤ j by omega)]
theorem st3_next {w0 w' : World} {B p hb lb lc n S m j : Nat} {xs : List Int} (hn : (gsOf xs).length = n) (ho : w'.ownsRow B 3 1 (.slice (some ⟨hb, 0, none⟩) n n) n ((hadL (gsOf xs) m).map (Value.int .i64))) (hjn : j < n) (j1 : sumTo (gsOf xs) j ≤ m) (j2 : (m : Int) < sumTo (gsOf xs) (j + 1))
    (h : ∀ v, (w'.setCell ⟨hb, j, none⟩ v).ownsRow B 3 1 (.slice (some ⟨hb, 0, none⟩) n n) n ((hadL (gsOf xs) (m + 1)).map (Value.int .i64)) → St3 w0 (w'.setCell ⟨hb, j, none⟩ v) B p hb lb lc n S (gsOf xs) (m + 1)) :
    St3 w0 (w'.setCell ⟨hb, j, none⟩ (.int .i64 ((hadL (gsOf xs) m).getD j 0 + 1))) B p hb lb lc n S (gsOf xs) (m + 1) := by
  apply h
  rw [had_step xs m j (by omega) (by omega) j1 j2, List.map_set]
  exact (ho.stored j _).1
theorem st3_end {w0 w : World} {B p hb lb lc n S : Nat} {xs : List Int} (h : St3 w0 w B p hb lb lc n S (gsOf xs) S) (hn : (gsOf xs).length = n) (ht : tot (gsOf xs) = S) (j : Nat) (hj : j < n) :
    w.cell? ⟨hb, j, none⟩ = some (.int .i64 ((gsOf xs).getD j 0)) ∧ w.cell? ⟨lb, j, none⟩ = some (.int .i64 ((gsOf xs).getD j 0)) := by
  refine ⟨?_, ?_⟩
  · have := (st3_cell (w0 := w0) (p := p) (lb := lb) (lc := lc) (S := S) h.had hn j hj).1
    rw [this, ← ht, had_all xs j (by omega)]
  · rw [h.row.cellAt j (by omega)]
    simp [hn, hj]

end Go.Proofs.Yteefahkjdpaogab
