/-
  Keep: contracts over the program; the conditions: a memory lies there, its sum is told as it is, and it has at most 65536 cells.
-/
import Derived.Test.YtahhbehpgolinaaMeJ
namespace Go.Proofs.Ytahhbehpgolinaa.Me
open Go.RowKit
set_option linter.unusedVariables false

/-- f, but 0 in the blocks from k on ahead of m. -/
def keepm (f : Int → Int → Int) (k m : Nat) : Int → Int → Int := fun a b => if (k : Int) ≤ a ∧ a < (m : Int) then 0 else f a b
def keepF (F : FF) (k m : Nat) : FF := fun a b => if (k : Int) ≤ a ∧ a < (m : Int) then none else F a b
theorem keepm_start (f : Int → Int → Int) (k : Nat) : keepm f k k = f := by
  funext a b
  simp only [keepm]
  rw [if_neg (by omega)]
theorem keepF_start (F : FF) (k : Nat) : keepF F k k = F := by
  funext a b
  simp only [keepF]
  rw [if_neg (by omega)]
theorem keepF_next (F : FF) {k m : Nat} (h : k ≤ m) : clrF (keepF F k m) m = keepF F k (m + 1) := by
  funext a b
  simp only [keepF, clrF]
  by_cases h1 : a = (m : Int)
  · rw [if_pos h1, if_pos (by omega)]
  · rw [if_neg h1]
    by_cases h2 : (k : Int) ≤ a ∧ a < (m : Int)
    · rw [if_pos h2, if_pos (by omega)]
    · rw [if_neg h2, if_neg (by omega)]
theorem keepm_end {bs : List Nat} {f : Int → Int → Int} (ho : ∀ a b, inB bs a b = false → f a b = 0) (k : Nat) : keepm f k bs.length = keepf f k := by
  funext a b
  simp only [keepm, keepf]
  by_cases h1 : a < (k : Int)
  · rw [if_neg (by omega), if_pos h1]
  · rw [if_neg h1]
    by_cases h2 : a < (bs.length : Int)
    · rw [if_pos (by omega)]
    · rw [if_neg (by omega)]
      refine ho a b ?_
      simp [inB, h2]
theorem sum_take {bs : List Nat} {m c : Nat} (h : bs[m]? = some c) : (bs.take (m + 1)).sum = (bs.take m).sum + c := by
  rw [List.take_add_one, h]
  simp
theorem mem_sum {bs : List Nat} {c : Nat} (h : c ∈ bs) : c ≤ bs.sum := by
  induction bs with
  | nil => cases h
  | cons x r ih =>
    rw [List.sum_cons]
    rcases List.mem_cons.1 h with rfl | h
    · omega
    · have := ih h
      omega

theorem keep_mf {n : Nat} {L : List Bk} {f : Int → Int → Int} {F : FF} (h : MF (fun _ => True) n L f F) {k m : Nat} (hk : k ≤ L.length) (hm : m = L.length) : MF (fun _ => True) n (L.take k) (keepf f k) (keepF F k m) := by
  have hs : szs (L.take k) = (szs L).take k := by simp [szs, List.map_take]
  have hFa : ∀ a b, keepF F k m a b = if a < (k : Int) then F a b else none := fun a b => by
    simp only [keepF]
    by_cases h1 : a < (k : Int)
    · rw [if_neg (by omega), if_pos h1]
    · rw [if_neg h1]
      by_cases h2 : a < (m : Int)
      · rw [if_pos (by omega)]
      · rw [if_neg (by omega)]
        refine h.none.2 (h.out a b ?_)
        have hl : (szs L).length = L.length := by simp [szs]
        simp [inB, hl, ← hm, h2]
  have hlt : ∀ (i : Nat) (d : Bk), (L.take k)[i]? = some d → i < k ∧ L[i]? = some d := fun i d e => by
    have := (List.getElem?_eq_some_iff.1 e).1
    simp at this
    rw [List.getElem?_take_of_lt (by omega)] at e
    exact ⟨by omega, e⟩
  refine ⟨fun a b => ?_, fun a b e => ?_, fun i d b v q e hq => ?_, fun i d q o _ e hq => ?_, fun i d e => h.len i d (hlt i d e).2⟩
  · rw [hFa]
    simp only [keepf]
    by_cases h1 : a < (k : Int)
    · simp only [h1, if_true]; exact h.val a b
    · simp only [h1, if_false]; simp
  · simp only [keepf]
    by_cases h1 : a < (k : Int)
    · rw [if_pos h1]
      refine h.out a b ?_
      cases e2 : inB (szs L) a b
      · rfl
      · obtain ⟨i, j, c, rfl, rfl, e3, e4⟩ := inB_iff.1 e2
        rw [inB_iff.2 ⟨i, j, c, rfl, rfl, by rw [hs, List.getElem?_take_of_lt (by omega)]; exact e3, e4⟩] at e
        cases e
    · rw [if_neg h1]
  · obtain ⟨e1, e2⟩ := hlt i d e
    rw [hFa, if_pos (by omega)] at hq
    exact h.pos i d b v q e2 hq
  · obtain ⟨e1, e2⟩ := hlt i d e
    rw [hFa, if_pos (by omega)]
    exact h.lst i d q o trivial e2 hq

theorem keep_mx {w : World} {B : Nat} {bl : Nat → Prop} {p n : Nat} {L : List Bk} {F : FF} {t : Int} {M g lc : Nat} (h : MX w B bl p n L F t M (some ⟨g, 0, none⟩) lc) {k : Nat} (hk : k ≤ L.length) :
    MX (w.setCell ⟨p, 1, none⟩ (.slice (some ⟨g, 0, none⟩) k lc)) B bl p n (L.take k) F t M (some ⟨g, 0, none⟩) lc ∧ Fr bl w (w.setCell ⟨p, 1, none⟩ (.slice (some ⟨g, 0, none⟩) k lc)) := by
  have hl : (L.take k).length = k := by simp; omega
  have hlt : ∀ (i : Nat) (d : Bk), (L.take k)[i]? = some d → i < k ∧ L[i]? = some d := fun i d e => by
    have := (List.getElem?_eq_some_iff.1 e).1
    simp at this
    rw [List.getElem?_take_of_lt (by omega)] at e
    exact ⟨by omega, e⟩
  obtain ⟨gb, gp, gM⟩ := h.own g rfl
  have oth : ∀ b, b ≠ p → (w.setCell ⟨p, 1, none⟩ (.slice (some ⟨g, 0, none⟩) k lc)).heap[b]? = w.heap[b]? := fun b hb => Below.heap_setCell _ _ _ _ hb
  refine ⟨⟨fun b hb => by simpa using h.rng b hb, h.inp, h.inM, h.Mnp, fun b hb => h.own b (by rw [← hb]; rfl), ?_, h.map.kept (oth M h.Mnp), ?_, fun i d e => ?_, fun i d q e hq => ?_, fun i j d e q h1 h2 h3 h4 => h.dif i j d e q (hlt i d h1).2 (hlt j e h2).2 h3 h4⟩, (Fr.refl bl w).setCell (Or.inl h.inp) _⟩
  · rw [block_setCell h.cells, hl]
    simp
  · rw [hl, ← bkCells_take]
    refine ownsRow_less (n := L.length) ?_ hk
    refine ownsRow_block h.row fun b e => ?_
    simp [Value.ownBlock] at e
    subst e
    exact oth _ gp
  · have e2 := (hlt i d e).2
    exact ownsRow_block (h.hld i d e2) fun q hq => oth q (h.hin i d q e2 hq).2.1
  · obtain ⟨a1, a2, a3, a4⟩ := h.hin i d q (hlt i d e).2 hq
    exact ⟨a1, a2, a3, fun e => a4 (by rw [← e]; rfl)⟩

/-- The sum is told anew. -/
theorem MX.told {w : World} {B : Nat} {bl : Nat → Prop} {p n : Nat} {L : List Bk} {F : FF} {t : Int} {M : Nat} {la : Option Addr} {lc : Nat} (h : MX w B bl p n L F t M la lc) (t' : Int) (j : Nat) :
    MX ((w.drewN j).setCell ⟨p, 2, none⟩ (.int .i64 t')) B bl p n L F t' M la lc ∧ Fr bl w ((w.drewN j).setCell ⟨p, 2, none⟩ (.int .i64 t')) := by
  have oth : ∀ b, b ≠ p → ((w.drewN j).setCell ⟨p, 2, none⟩ (.int .i64 t')).heap[b]? = w.heap[b]? := fun b hb => Below.heap_setCell (w.drewN j) _ _ _ hb
  refine ⟨⟨fun b hb => by simpa using h.rng b hb, h.inp, h.inM, h.Mnp, h.own, ?_, h.map.kept (oth M h.Mnp), ownsRow_block h.row fun b e => oth b (h.own b e).2.1, fun i d e => ownsRow_block (h.hld i d e) fun q hq => oth q (h.hin i d q e hq).2.1, h.hin, h.dif⟩, ?_⟩
  · rw [block_setCell (w := w.drewN j) h.cells]
    simp
  · exact (show Fr bl w (w.drewN j) from ⟨rfl, rfl, rfl, Nat.le_refl _, fun _ _ _ => rfl⟩).setCell (Or.inl h.inp) _

set_option maxRecDepth 100000 in
set_option maxHeartbeats 1000000 in
theorem keep_some {w : World} {B : Nat} {bl : Nat → Prop} {p n : Nat} {L : List Bk} {f : Int → Int → Int} {F : FF} {t : Int} {M g lc : Nat} (h : MX w B bl p n L F t M (some ⟨g, 0, none⟩) lc) (hf : MF (fun _ => True) n L f F) (k : Nat) (hk : k ≤ L.length) (ht : t = (((szs L).sum : Nat) : Int)) (hs : (szs L).sum ≤ 65536) (hl : L.length ≤ 1000000) (hn : n ≤ 100000000) :
    Calls Try.prog 12 #[.pointer (some ⟨p, 0, none⟩), .int .i64 (k : Int)] w fun e w' => e = .returned (.int .i64 0) ∧ MI w' B bl p n ((szs L).take k) (keepf f k) ((((szs L).take k).sum : Nat) : Int) ∧ Fr bl w w' := by
  have c1 : w.cell? ⟨p, 1, none⟩ = some (.slice (some ⟨g, 0, none⟩) L.length lc) := cell_of_block h.cells 1
  have hlc : L.length ≤ lc ∧ lc ≤ 9223372036854775807 := by
    obtain ⟨a, c, e, e1, e2⟩ := ownsRow_form h.row
    simp only [Value.slice.injEq] at e
    obtain ⟨-, -, rfl⟩ := e
    unfold maxLen at e2
    omega
  have i0 : (0 : Int) ≤ (k : Int) := by omega
  have i1 : (k : Int) ≤ (L.length : Int) := by omega
  have i2 : (k : Int) ≤ (lc : Int) := by omega
  have hsl : (szs L).length = L.length := by simp [szs]
  have hcb : Hid (∀ c ∈ szs L, c ≤ 65536) := fun c hc => by
    have := mem_sum hc
    omega
  have H := hideIt h
  have HF := hideIt hf
  have HS := hideIt hs
  have HT := hideIt ht
  have HSL := hideIt hsl
  clear h hs ht hf hsl
  have d1 : decide ((k : Int) < 0) = false := by simp
  have d2 : decide (L.length < k) = false := by simp; omega
  go_enter Try.func12, Try.ntmps12
  go_wp2_with (fail)
  go_loopw [5] (fun o wr => ∃ m : Nat, o = .int .i64 m ∧ k ≤ m ∧ m ≤ L.length ∧ MX wr B bl p n L (keepF F k m) (t - ((((szs L).take m).sum : Nat) : Int) + ((((szs L).take k).sum : Nat) : Int)) M (some ⟨g, 0, none⟩) lc ∧ Fr bl w wr) (fun o _ => L.length - (intOf o).toNat)
  case atStart => exact ⟨k, rfl, Nat.le_refl _, hk, by rw [keepF_start, Int.sub_add_cancel]; exact H.out, Fr.refl _ _⟩
  case round =>
    obtain ⟨m, rfl, hkm, hm, hx, hFr⟩ := hrel
    have c2 : wr.cell? ⟨p, 1, none⟩ = some (.slice (some ⟨g, 0, none⟩) L.length lc) := cell_of_block hx.cells 1
    have HX := hideIt hx
    have HFr := hideIt hFr
    by_cases hmm : m < L.length
    · obtain ⟨d, hd⟩ : ∃ d, L[m]? = some d := ⟨L[m], by simp [hmm]⟩
      have hc : (szs L)[m]? = some d.c := by simp [szs, hd]
      have hcm := hcb.out d.c (List.mem_of_getElem? hc)
      have HD := hideIt hd
      have st := sum_take hc
      have s1 : ((szs L).take m).sum + ((szs L).drop m).sum = (szs L).sum := by rw [← List.sum_append, List.take_append_drop]
      have s2 : ((szs L).take k).sum + ((szs L).drop k).sum = (szs L).sum := by rw [← List.sum_append, List.take_append_drop]
      have b1 : -100000 ≤ t - ((((szs L).take m).sum : Nat) : Int) + ((((szs L).take k).sum : Nat) : Int) := by have := HT.out; have := HS.out; omega
      have b2 : t - ((((szs L).take m).sum : Nat) : Int) + ((((szs L).take k).sum : Nat) : Int) ≤ 200000 := by have := HT.out; have := HS.out; omega
      have TE := hideIt (show (t - ((((szs L).take m).sum : Nat) : Int) + ((((szs L).take k).sum : Nat) : Int)) - (d.c : Int) = t - ((((szs L).take (m + 1)).sum : Nat) : Int) + ((((szs L).take k).sum : Nat) : Int) by rw [st]; omega)
      have EM := hideIt (empty_any hx hd (fun b o e => by
          simp only [keepF] at e
          rw [if_neg (by omega)] at e
          obtain ⟨v, q⟩ := o
          exact List.mem_of_getElem? (HF.out.pos m d b v q hd e).2) ⟨by omega, by omega⟩ (held_i64 HF.out trivial hd (fun c hc => by have := hcb.out c hc; omega)) hl (by have := HF.out.len m d hd; omega))
      clear hx hFr hd hc st s1 s2
      generalize t - ((((szs L).take m).sum : Nat) : Int) + ((((szs L).take k).sum : Nat) : Int) = T at HX EM TE b1 b2
      have m0 : (0 : Int) ≤ (m : Int) := by omega
      have m1 : (m : Int) < (L.length : Int) := by omega
      go_wp2_with (first | (go_at_call 20; refine EM.out.mono ?_; rintro e x1 ⟨rfl, hy, hF1⟩; have HY := hideIt hy; have HF1 := hideIt hF1; obtain ⟨g', eg, r1, -, -⟩ := hy.at HD.out; cases eg; have k1 : x1.cell? ⟨p, 1, none⟩ = some (.slice (some ⟨g, 0, none⟩) L.length lc) := cell_of_block hy.cells 1; have k2 : x1.cell? ⟨p, 2, none⟩ = some (.int .i64 T) := cell_of_block hy.cells 2; have k3 : x1.frozen? ⟨p, 2, none⟩ = false := free_of_block hy.cells 2; clear hy hF1) | fail)
      go_region
      all_goals go_wp2_with (fail)
      all_goals go_roundw
      case rel =>
        obtain ⟨z1, z2⟩ := HY.out.told (T - d.c) 1
        rw [keepF_next F hkm] at z1
        exact ⟨m + 1, by go_num, by omega, hmm, by rw [← TE.out]; exact z1, (HFr.out.trans HF1.out).trans z2⟩
      case measure => simp [intOf]; omega
    · have e1 : m = L.length := by omega
      have TE := hideIt (show t - ((((szs L).take m).sum : Nat) : Int) + ((((szs L).take k).sum : Nat) : Int) = ((((szs L).take k).sum : Nat) : Int) by rw [e1, ← HSL.out, List.take_length, HT.out]; omega)
      rw [TE.out] at HX
      have k4 : wr.frozen? ⟨p, 1, none⟩ = false := free_of_block HX.out.cells 1
      have HE := hideIt e1
      have d3 : decide ((m : Int) < (L.length : Int)) = false := by simp; omega
      clear hx hFr e1
      go_wp2_with (fail)
      go_ret
      obtain ⟨z1, z2⟩ := keep_mx HX.out hk
      refine ⟨rfl, ⟨_, _, _, _, _, z1, keep_mf HF.out hk HE.out, by simp [szs, List.map_take]⟩, HFr.out.trans z2⟩

set_option maxRecDepth 100000 in
theorem keep_nil {w : World} {B : Nat} {bl : Nat → Prop} {p n : Nat} {F : FF} {t : Int} {M : Nat} (h : MX w B bl p n [] F t M none 0) :
    Calls Try.prog 12 #[.pointer (some ⟨p, 0, none⟩), .int .i64 0] w fun e w' => e = .returned (.int .i64 0) ∧ w' = w.setCell ⟨p, 1, none⟩ (.slice none 0 0) := by
  have c1 : w.cell? ⟨p, 1, none⟩ = some (.slice none 0 0) := cell_of_block h.cells 1
  have c2 : w.frozen? ⟨p, 1, none⟩ = false := free_of_block h.cells 1
  clear h
  go_enter Try.func12, Try.ntmps12
  go_wp2_with (fail)
  go_loopw [5] (fun o wr => o = .int .i64 0 ∧ wr = w) (fun o _ => 0)
  case atStart => exact ⟨rfl, rfl⟩
  case round =>
    obtain ⟨rfl, rfl⟩ := hrel
    go_wp2_with (fail)
    go_ret
    exact ⟨rfl, rfl⟩

theorem setCell_same {w : World} {b j : Nat} {cs : Array Value} {T : TypeId} {u : Value} (h : w.heap[b]? = some (.cells cs T (0, 0))) (hu : cs[j]? = some u) : ∀ k : Nat, (w.setCell ⟨b, j, none⟩ u).heap[k]? = w.heap[k]? := fun k => by
  by_cases e : k = b
  · subst e
    rw [block_setCell h, h]
    congr 2
    apply Array.ext_getElem?
    intro q
    by_cases hq : q = j
    · subst hq; rw [hu]; simp [(Array.getElem?_eq_some_iff.1 hu).1]
    · rw [Array.getElem?_setIfInBounds_ne (by omega)]
  · exact Below.heap_setCell _ _ _ _ e

theorem keep_any {w : World} {B : Nat} {bl : Nat → Prop} {p n : Nat} {bs : List Nat} {f : Int → Int → Int} {t : Int} (h : MI w B bl p n bs f t) (k : Nat) (hk : k ≤ bs.length) (ht : t = ((bs.sum : Nat) : Int)) (hs : bs.sum ≤ 65536) (hl : bs.length ≤ 1000000) (hn : n ≤ 100000000) :
    Calls Try.prog 12 #[.pointer (some ⟨p, 0, none⟩), .int .i64 (k : Int)] w fun e w' => e = .returned (.int .i64 0) ∧ MI w' B bl p n (bs.take k) (keepf f k) (((bs.take k).sum : Nat) : Int) ∧ Fr bl w w' := by
  obtain ⟨L, F, M, la, lc, h, hf, rfl⟩ := h
  have hsl : (szs L).length = L.length := by simp [szs]
  rcases h.row.2 with ⟨e0, e1⟩ | ⟨g, cap, cur, e0, -⟩
  · simp only [Value.slice.injEq] at e0
    obtain ⟨rfl, -, rfl⟩ := e0
    obtain rfl : L = [] := List.length_eq_zero_iff.1 e1
    obtain rfl : k = 0 := by rw [hsl] at hk; exact Nat.le_zero.1 hk
    refine (keep_nil h).mono ?_
    rintro e w' ⟨rfl, rfl⟩
    have hsame := setCell_same (j := 1) h.cells (u := .slice none 0 0) rfl
    refine ⟨rfl, ⟨[], F, M, none, 0, ?_, ?_, rfl⟩, ?_⟩
    · rw [ht] at h
      exact h.kept (fun q _ => hsame q) (by simp)
    · have hz : keepf f 0 = f := by
        funext a b
        simp only [keepf]
        split
        · rfl
        · exact (hf.out a b (by simp [inB, szs])).symm
      rw [hz]; exact hf
    · exact (Fr.refl bl w).setCell (Or.inl h.inp) _
  · simp only [Value.slice.injEq] at e0
    obtain ⟨rfl, -, -⟩ := e0
    rw [hsl] at hk hl
    exact keep_some h hf k hk ht hs hl hn

end Go.Proofs.Ytahhbehpgolinaa.Me
