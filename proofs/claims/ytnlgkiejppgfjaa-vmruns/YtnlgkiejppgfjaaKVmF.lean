/-
  The machine: one more call is open, where the calls' list must grow: a contract over the program; the conditions: the machine lies there.
-/
import Derived.Test.YtnlgkiejppgfjaaKVmE
namespace Go.Proofs.Ytnlgkiejppgfjaa
open Go.RowKit
set_option linter.unusedVariables false

theorem setCell_twice (w : World) (blk off : Nat) (v v' : Value) : (w.setCell ⟨blk, off, none⟩ v).setCell ⟨blk, off, none⟩ v' = w.setCell ⟨blk, off, none⟩ v' := by
  unfold World.setCell
  dsimp only
  congr 1
  apply Array.ext_getElem?
  intro k
  simp only [Array.getElem?_modify]
  by_cases hk : blk = k
  · simp only [hk, if_true]
    cases w.heap[k]? with
    | none => rfl
    | some o => cases o <;> simp
  · simp only [hk, if_false]
theorem zc_wrote (n k : Nat) (h : k < n) : (Builtin.zeroCells (Value.agg (cl0A (.slice none 0 0))).cells n)[k * 24 + 23]? = some (.slice none 0 0) := by
  have e : (Value.agg (cl0A (.slice none 0 0))).cells.size = 24 := rfl
  have e2 : ∀ m, m < (Value.agg (cl0A (.slice none 0 0))).cells.size * n → (Builtin.zeroCells (Value.agg (cl0A (.slice none 0 0))).cells n)[m]? = (Value.agg (cl0A (.slice none 0 0))).cells[m % 24]? := fun m hm => by
    rw [e] at hm
    have h24 : m % 24 < 24 := Nat.mod_lt _ (by omega)
    unfold Builtin.zeroCells
    simp [e]
    rw [Array.getElem?_eq_getElem (by simp; omega), Array.getElem?_eq_getElem (by rw [e]; exact h24)]
    simp
    rw [getElem!_pos _ _ (by rw [e]; exact h24)]
  rw [e2 _ (by rw [e]; omega), show (k * 24 + 23) % 24 = 23 by omega]
  rfl

def colK (col : Col) (n C' : Nat) : Col := fun b => if b = C' then some Tg.ca else if b < n then col b else none
section
variable {w w' w0 : World} {R : Nat} {col col' : Col} {im : PIm} {mn : Nat} {mem ce : List Int} {cls : List Cl} {W : Nat → List Int} {tr : List Int} {ex : Int} {cv kv tv : Value} {N : Nat}

/-- The calls lie in a block of their own, with more room. -/
theorem MX.moreK {X : World} {C' cap' : Nat} {ks' : Array Value} (h : MX w w0 R col im mn ce cls W tr ex cv kv tv) (hq : Q w X) (hC : w.heap.size ≤ C') (hb : X.heap[C']? = some (.cells ks' 86 (0, 0))) (hs : ks'.size = cap' * 24) (hm : cap' ≤ maxLen) (hle : cls.length ≤ cap')
    (hold : ∀ k c, cls[k]? = some c → ∀ j u, j < 23 → c.cs[j]? = some u → ks'[k * 24 + j]? = some u) (hw : ∀ k, k < cls.length → ∃ wv, ks'[k * 24 + 23]? = some wv ∧ w.ownsRow w0.heap.size 3 1 wv (W k).length (rowI (W k)) ∧ ∀ b, wv.ownBlock = some b → col b = some (.wr k))
    (hz : ∀ k, cls.length ≤ k → k < cap' → ks'[k * 24 + 23]? = some (.slice none 0 0)) :
    ∃ col', MX (X.setCell ⟨R, 6, none⟩ (.slice (some ⟨C', 0, none⟩) cls.length cap')) w0 R col' im mn ce cls (fun k => if k < cls.length then W k else []) tr ex cv (.slice (some ⟨C', 0, none⟩) cls.length cap') tv ∧ KS (X.setCell ⟨R, 6, none⟩ (.slice (some ⟨C', 0, none⟩) cls.length cap')) w0.heap.size C' cap' ks' col' cls (fun k => if k < cls.length then W k else []) ∧ Ex col w col' (X.setCell ⟨R, 6, none⟩ (.slice (some ⟨C', 0, none⟩) cls.length cap')) := by
  classical
  have ltR := h.ltR
  have ltC := lt_of_some hb
  have hcol : ∀ b, b < w.heap.size → colK col w.heap.size C' b = col b := fun b hb => by
    have : b ≠ C' := by omega
    simp [colK, this, hb]
  have hC2 : colK col w.heap.size C' C' = some Tg.ca := by simp [colK]
  have oth : ∀ b, b ≠ R → (X.setCell ⟨R, 6, none⟩ (.slice (some ⟨C', 0, none⟩) cls.length cap')).heap[b]? = X.heap[b]? := fun b hb => heap_setCell_other X _ b _ hb
  have neR : ∀ b τ, col b = some τ → τ ≠ .rn → b ≠ R := fun b τ e hτ q => by rw [q, h.colR] at e; exact hτ (Option.some.inj e).symm
  have kb : ∀ b τ, b < w.heap.size → col b = some τ → τ ≠ .rn → (X.setCell ⟨R, 6, none⟩ (.slice (some ⟨C', 0, none⟩) cls.length cap')).heap[b]? = w.heap[b]? := fun b τ hb e t => (oth b (neR b τ e t)).trans (hq.block b hb)
  have neC : C' ≠ R := by omega
  have bR : X.heap[R]? = _ := (hq.block R ltR).trans h.blk
  have K : KS (X.setCell ⟨R, 6, none⟩ (.slice (some ⟨C', 0, none⟩) cls.length cap')) w0.heap.size C' cap' ks' (colK col w.heap.size C') cls (fun k => if k < cls.length then W k else []) := by
    refine ⟨(oth C' neC).trans hb, hs, hm, hle, hC2, fun k hk => ?_, hold⟩
    by_cases e : k < cls.length
    · obtain ⟨wv, e1, e2, e3⟩ := hw k e
      simp only [e, if_true]
      exact ⟨wv, e1, row_keep e2 (fun b q => kb b _ (own_lt e2 q) (e3 b q) (by intro q; cases q)), fun b q => by rw [hcol b (own_lt e2 q)]; exact e3 b q⟩
    · simp only [e, if_false]
      exact ⟨_, hz k (by omega) hk, World.ownsRow_nil _ _ _ _, fun b q => by cases q⟩
  refine ⟨colK col w.heap.size C', ⟨Below.setCell ⟨hq.os.trans h.bel.os, hq.tape.trans h.bel.tape, hq.output.trans h.bel.output, Nat.le_trans h.bel.size hq.size, fun k hk => (hq.block k (Nat.lt_of_lt_of_le hk h.bel.size)).trans (h.bel.block k hk)⟩ (h.lt R _ h.colR).1 _, fun b τ e => ?_, (hcol R ltR).trans h.colR, ?_, row_keep h.ce (fun k q => kb k _ (own_lt h.ce q) (h.cec k q) (by intro q; cases q)), fun b q => by rw [hcol b (own_lt h.ce q)]; exact h.cec b q, row_keep h.tro (fun k q => kb k _ (own_lt h.tro q) (h.trc k q) (by intro q; cases q)), fun b q => by rw [hcol b (own_lt h.tro q)]; exact h.trc b q, .inr ⟨C', cap', ks', rfl, K⟩⟩, K, ⟨hq.os, hq.tape, hq.output, by rw [World.size_setCell]; exact hq.size, fun b hb e => (oth b (fun q => by rw [q, h.colR] at e; cases e)).trans (hq.block b hb), hcol⟩⟩
  · rw [World.size_setCell]
    have := h.bel.size
    have := hq.size
    by_cases e1 : b = C'
    · subst e1; omega
    · by_cases e2 : b < w.heap.size
      · rw [hcol b e2] at e
        have := h.lt b τ e; omega
      · simp [colK, e1, e2] at e
  · rw [heap_setCell_same X R 6 _ _ _ bR]
    simp

theorem one_cl0 : ∀ u ∈ (cl0A (.slice none 0 0)).toList, u.oneCell' = true := by
  intro u hu
  simp at hu
  rcases hu with rfl | rfl | rfl <;> rfl

/-- What append makes of a list of calls without room. -/
theorem grown_calls (h : MX w w0 R col im mn ce cls W tr ex cv kv tv) (hl : cls.length < 2000) {a : Option Addr} (hkv : kv = .slice a cls.length cls.length) :
    ∃ cap' ks' X, (Builtin.append_ #[74, 74] 74 #[kv, .slice (some ⟨w.heap.size, 0, none⟩) 1 1]).run Try.prog (w.alloc (.cells (cl0A (.slice none 0 0)) 86)) = .ok (.slice (some ⟨w.heap.size + 1, 0, none⟩) (cls.length + 1) cap') X ∧ Q w X ∧ cls.length + 1 ≤ cap' ∧ cap' ≤ maxLen ∧
      X.heap[w.heap.size + 1]? = some (.cells ks' 86 (0, 0)) ∧ ks'.size = cap' * 24 ∧ (∀ k c, cls[k]? = some c → ∀ j u, j < 23 → c.cs[j]? = some u → ks'[k * 24 + j]? = some u) ∧ (∀ k, k < cls.length → ∃ wv, ks'[k * 24 + 23]? = some wv ∧ w.ownsRow w0.heap.size 3 1 wv (W k).length (rowI (W k)) ∧ ∀ b, wv.ownBlock = some b → col b = some (.wr k)) ∧
      (∀ k, cls.length ≤ k → k < cap' → ks'[k * 24 + 23]? = some (.slice none 0 0)) := by
  obtain ⟨i0, hi, hz0, hz1, hz2⟩ := info_parts infoCall
  obtain ⟨olds, hol, hrun, hold, hw⟩ : ∃ olds : Array Value, olds.size = cls.length * 24 ∧ (Builtin.append_ #[74, 74] 74 #[kv, .slice (some ⟨w.heap.size, 0, none⟩) 1 1]).run Try.prog (w.alloc (.cells (cl0A (.slice none 0 0)) 86)) = .ok (.slice (some ⟨w.heap.size + 1, 0, none⟩) (cls.length + 1) (grownCap (w.alloc (.cells (cl0A (.slice none 0 0)) 86)) (cls.length + 1) cls.length 86)) ((w.alloc (.cells (cl0A (.slice none 0 0)) 86)).drew.alloc (.cells (olds ++ (cl0A (.slice none 0 0)) ++ Builtin.zeroCells (Value.agg (cl0A (.slice none 0 0))).cells (grownCap (w.alloc (.cells (cl0A (.slice none 0 0)) 86)) (cls.length + 1) cls.length 86 - (cls.length + 1))) 86)) ∧ (∀ k c, cls[k]? = some c → ∀ j u, j < 23 → c.cs[j]? = some u → olds[k * 24 + j]? = some u) ∧ (∀ k, k < cls.length → ∃ wv, olds[k * 24 + 23]? = some wv ∧ w.ownsRow w0.heap.size 3 1 wv (W k).length (rowI (W k)) ∧ ∀ b, wv.ownBlock = some b → col b = some (.wr k)) := by
    have hnews := World.news_of_block (heap_new w (.cells (cl0A (.slice none 0 0)) 86 (0, 0)))
    rcases h.kvo with ⟨e, e0⟩ | ⟨C, cap, ks, e, K⟩
    · subst e0
      rw [e]
      have := run_append_nil (P := Try.prog) (w.alloc (.cells (cl0A (.slice none 0 0)) 86)) 74 74 86 i0 _ Try.underlying74 hi hz0 ⟨w.heap.size, 0, none⟩ 1 1 (cl0A (.slice none 0 0)).toList (by rw [hz1]; rfl) hnews (by decide) (by decide) (by rw [hz2]; decide)
      refine ⟨#[], rfl, ?_, fun k c e => by simp at e, fun k e => by simp at e⟩
      rw [this]
      simp
    · rw [hkv] at e
      injection e with e1 e2 e3
      have hks : ks.size = cls.length * 24 := by have := K.size; rw [← e3] at this; exact this
      have hbC : (w.alloc (.cells (cl0A (.slice none 0 0)) 86)).heap[C]? = some (.cells ks 86 (0, 0)) := heap_old _ K.blk
      have := run_append_grow (P := Try.prog) (w.alloc (.cells (cl0A (.slice none 0 0)) 86)) 74 74 86 i0 _ Try.underlying74 hi hz0 ⟨C, 0, none⟩ cls.length cls.length ks.toList (by rw [hz1, Array.length_toList]; exact hks) (World.news_of_block hbC) ⟨w.heap.size, 0, none⟩ 1 1 (cl0A (.slice none 0 0)).toList (by rw [hz1]; rfl) hnews (by omega) (by omega) (growslice_fits (by omega) (by rw [hz2]; omega))
      refine ⟨ks, hks, ?_, K.call, fun k hk => K.slot k (by have := K.le; omega)⟩
      rw [hkv, e1, this]
      simp
  have hge := grownCap_ge (w.alloc (.cells (cl0A (.slice none 0 0)) 86)) (cls.length + 1) cls.length 86
  have hcm := grownCap_le_maxLen (w.alloc (.cells (cl0A (.slice none 0 0)) 86)) (cls.length + 1) cls.length 86 (by unfold maxLen; omega)
  generalize grownCap (w.alloc (.cells (cl0A (.slice none 0 0)) 86)) (cls.length + 1) cls.length 86 = cap' at *
  have hz24 : (Builtin.zeroCells (Value.agg (cl0A (.slice none 0 0))).cells (cap' - (cls.length + 1))).size = (cap' - (cls.length + 1)) * 24 := size_zeroCells _ _
  refine ⟨cap', _, _, hrun, (((Q.refl w).alloc _).drew).alloc _, hge, hcm, heap_at (by simp), ?_, fun k c hc j u h23 hu => ?_, fun k hk => ?_, fun k hk1 hk2 => ?_⟩
  · rw [Array.size_append, Array.size_append, hz24, hol, show (cl0A (.slice none 0 0)).size = 24 from rfl]
    omega
  · have hkl := (List.getElem?_eq_some_iff.1 hc).1
    have := hold k c hc j u h23 hu
    rw [Array.append_assoc, Array.getElem?_append_left (by rw [hol]; omega)]
    exact this
  · obtain ⟨wv, e1, e2⟩ := hw k hk
    refine ⟨wv, ?_, e2⟩
    rw [Array.append_assoc, Array.getElem?_append_left (by rw [hol]; omega)]
    exact e1
  · rw [Array.append_assoc, Array.getElem?_append_right (by rw [hol]; omega), hol]
    by_cases e : k = cls.length
    · subst e
      rw [show cls.length * 24 + 23 - cls.length * 24 = 23 by omega, Array.getElem?_append_left (by decide)]
      rfl
    · rw [Array.getElem?_append_right (by rw [show (cl0A (.slice none 0 0)).size = 24 from rfl]; omega), show (cl0A (.slice none 0 0)).size = 24 from rfl, show k * 24 + 23 - cls.length * 24 - 24 = (k - cls.length - 1) * 24 + 23 by omega]
      exact zc_wrote _ _ (by omega)

set_option maxHeartbeats 1000000 in
set_option maxRecDepth 100000 in
theorem open_full (h : MX w w0 R col im mn ce cls W tr ex cv kv tv) (hl : cls.length < 2000) {a : Option Addr} (hkv : kv = .slice a cls.length cls.length) :
    Calls Try.prog 37 #[.pointer (some ⟨R, 0, none⟩)] w fun e w' => ∃ C cap ks W' col', e = .returned (.pointer (some ⟨C, cls.length * 24, none⟩)) ∧ MX w' w0 R col' im mn ce (cls ++ [cl0]) W' tr ex cv (.slice (some ⟨C, 0, none⟩) (cls.length + 1) cap) tv ∧ KS w' w0.heap.size C cap ks col' (cls ++ [cl0]) W' ∧ Ex col w col' w' ∧ (∀ k, k < cls.length → W' k = W k) ∧ W' cls.length = [] ∧ (∀ k, (W' k).length ≤ (W k).length) := by
  obtain ⟨cap', ks', X, hrun, hq, hc1, hc2, hb, hs, hold, hw, hz⟩ := grown_calls h hl hkv
  have bR := (hq.block R h.ltR).trans h.blk
  have c6 := (h.c0).2.2.2.2.2.2.1
  have x6 : X.cell? ⟨R, 6, none⟩ = some kv := cell_of_block bR 6
  have g6 : X.frozen? ⟨R, 6, none⟩ = false := free_of_block bR 6
  have ltR := h.ltR
  obtain ⟨col1, m1, k1, ex1⟩ := h.moreK hq (Nat.le_succ _) hb hs hc2 (by omega) hold hw hz
  obtain ⟨wa, wc, e1, hwc, Y, hst, ks2, hX, hK, hE⟩ := m1.openAt k1 (by omega)
  rw [hz cls.length (Nat.le_refl _) (by omega)] at e1
  have e1' := Option.some.inj e1
  injection e1' with ea eb ec
  subst ea; subst ec
  rw [setCell_twice] at hst
  rw [← setCell_twice X R 6 (.slice (some ⟨w.heap.size + 1, 0, none⟩) (cls.length + 1) cap') (.slice (some ⟨w.heap.size + 1, 0, none⟩) (cls.length + 1) cap')] at hst
  have x23 : X.cell? ⟨w.heap.size + 1, cls.length * 24 + 23, none⟩ = some (.slice none 0 0) := (cell_of_block hb _).trans (hz cls.length (Nat.le_refl _) (by omega))
  have neRC : ¬ w.heap.size + 1 = R := by omega
  have neRC' : ¬ R = w.heap.size + 1 := by omega
  have hcm : cap' ≤ 9223372036854775807 := by unfold maxLen at hc2; omega
  have z1 : IntKind.i64.wrap ((cls.length : Int) + 1) = (cls.length : Int) + 1 := by rw [IntKind.wrap_i64]; omega
  have hlt : (cls.length : Int) + 1 ≤ (cap' : Int) := by omega
  have HST := hideIt hst
  have HX := hideIt hX
  have HK := hideIt hK
  have HE := hideIt (ex1.trans hE)
  have HRUN := hideIt hrun
  clear h hrun hq hb hs hold hw hz bR m1 k1 ex1 hst hX hK hE e1 eb hc2 hwc
  subst hkv
  generalize hnn : cls.length = n at *
  have HN := hideIt hnn
  clear hnn
  go_enter Try.func37, Try.ntmps37
  go_wp2_with (first | (at_builtin; refine wpList_append_run (by rfl) (.tmp 21) (.tmp 23) 74 74 (by rfl) _ _ (by rfl) (by rfl) _ _ HRUN.out ?_) | (refine wpList_store_run rfl 86 (.tmp 50) (.tmp 49) rfl _ _ rfl rfl _ HST.out ?_) | fail)
  go_ret
  refine ⟨_, cap', ks2, _, col1, rfl, HX.out, HK.out, HE.out, fun k hk => by rw [if_neg (by omega), if_pos hk], if_pos rfl, fun k => ?_⟩
  by_cases e : k = n
  · rw [if_pos e]; exact Nat.zero_le _
  · rw [if_neg e]
    split
    · exact Nat.le_refl _
    · exact Nat.zero_le _

theorem open_any (h : MX w w0 R col im mn ce cls W tr ex cv kv tv) (hl : cls.length < 2000) :
    Calls Try.prog 37 #[.pointer (some ⟨R, 0, none⟩)] w fun e w' => ∃ C cap ks W' col', e = .returned (.pointer (some ⟨C, cls.length * 24, none⟩)) ∧ MX w' w0 R col' im mn ce (cls ++ [cl0]) W' tr ex cv (.slice (some ⟨C, 0, none⟩) (cls.length + 1) cap) tv ∧ KS w' w0.heap.size C cap ks col' (cls ++ [cl0]) W' ∧ Ex col w col' w' ∧ (∀ k, k < cls.length → W' k = W k) ∧ W' cls.length = [] ∧ (∀ k, (W' k).length ≤ (W k).length) := by
  rcases h.kvo with ⟨e, e0⟩ | ⟨C, cap, ks, e, K⟩
  · exact open_full h hl (a := none) (by rw [e, e0]; rfl)
  · by_cases hr : cls.length < cap
    · subst e
      exact open_room h K hr
    · have : cap = cls.length := by have := K.le; omega
      exact open_full h hl (a := some ⟨C, 0, none⟩) (by rw [e, this])
end
end Go.Proofs.Ytnlgkiejppgfjaa
