/-
  Keep: contracts over the program; the conditions: a memory lies there, its sum is told as it is, and it has at most 65536 cells.
-/
import Derived.Test.YtbmkmllehppiiaaMemI
namespace Go.Proofs.Ytbmkmllehppiiaa
open Go.RowKit
set_option linter.unusedVariables false

theorem keep_neg (w : World) (p : Nat) (c : Int) (hc : c < 0) : Calls Try.prog 12 #[.pointer (some ⟨p, 0, none⟩), .int .i64 c] w fun e w' => e = .returned (.int .i64 1) ∧ w' = w := by
  go_enter Try.func12, Try.ntmps12
  go_wp2
  go_ret
  exact ⟨rfl, rfl⟩
theorem keep_far {w : World} {B : Nat} {bl : Nat → Prop} {p n : Nat} {bs : List Nat} {f : Int → Int → Int} {t : Int} (h : MI w B bl p n bs f t) (c : Int) (hc : (bs.length : Int) < c) :
    Calls Try.prog 12 #[.pointer (some ⟨p, 0, none⟩), .int .i64 c] w fun e w' => e = .returned (.int .i64 1) ∧ w' = w := by
  obtain ⟨M, la, lc, L, h1, h2, h3, h4, h5, h6, h7, h8⟩ := h.ex
  have c1 : w.cell? ⟨p, 1, none⟩ = some (.slice la bs.length lc) := cell_of_block h6 1
  have c0 : ¬ (c < 0) := by omega
  clear h h3 h5 h6 h7 h8 h4 h1 h2
  go_enter Try.func12, Try.ntmps12
  go_wp2
  go_ret
  exact ⟨rfl, rfl⟩

/-- f, but 0 in the blocks from k on ahead of m. -/
def keepm (f : Int → Int → Int) (k m : Nat) : Int → Int → Int := fun a b => if (k : Int) ≤ a ∧ a < (m : Int) then 0 else f a b
/-- f, but 0 in the blocks from k on. -/
def keepf (f : Int → Int → Int) (k : Nat) : Int → Int → Int := fun a b => if a < (k : Int) then f a b else 0
theorem keepm_start (f : Int → Int → Int) (k : Nat) : keepm f k k = f := by
  funext a b
  simp only [keepm]
  rw [if_neg (by omega)]
theorem keepm_next (f : Int → Int → Int) {k m : Nat} (h : k ≤ m) : clr (keepm f k m) m = keepm f k (m + 1) := by
  funext a b
  simp only [keepm, clr]
  by_cases h1 : a = (m : Int)
  · rw [if_pos h1, if_pos (by omega)]
  · rw [if_neg h1]
    by_cases h2 : (k : Int) ≤ a ∧ a < (m : Int)
    · rw [if_pos h2, if_pos (by omega)]
    · rw [if_neg h2, if_neg (by omega)]
theorem keepm_end {bs : List Nat} {f : Int → Int → Int} (ho : ∀ a b, inB bs a b = false → f a b = 0) (k : Nat) : keepm f k bs.length = keepf f k := by
  funext a b
  simp only [keepm, keepf]
  by_cases h1 : a < (k : Int)
  · rw [if_neg (by omega), if_pos h1]
  · rw [if_neg h1]
    by_cases h2 : a < (bs.length : Int)
    · rw [if_pos (by omega)]
    · rw [if_neg (by omega)]
      refine ho a b ?_
      simp [inB, h2]
theorem keepf_all {bs : List Nat} {f : Int → Int → Int} (ho : ∀ a b, inB bs a b = false → f a b = 0) : keepf f bs.length = f := by
  rw [← keepm_end ho, keepm_start]
theorem sum_take {bs : List Nat} {m c : Nat} (h : bs[m]? = some c) : (bs.take (m + 1)).sum = (bs.take m).sum + c := by
  rw [List.take_add_one, h]
  simp

theorem mem_sum {bs : List Nat} {c : Nat} (h : c ∈ bs) : c ≤ bs.sum := by
  induction bs with
  | nil => cases h
  | cons x r ih =>
    rw [List.sum_cons]
    rcases List.mem_cons.1 h with rfl | h
    · omega
    · have := ih h
      omega

theorem ownsRow_less {w : World} {base : Nat} {e : TypeId} {size g n cap : Nat} {xs : List Value} (h : w.ownsRow base e size (.slice (some ⟨g, 0, none⟩) n cap) n xs) {k : Nat} (hk : k ≤ n) :
    w.ownsRow base e size (.slice (some ⟨g, 0, none⟩) k cap) k (xs.take (k * size)) := by
  obtain ⟨h1, h2⟩ := h
  have hle : k * size ≤ n * size := Nat.mul_le_mul_right _ hk
  refine ⟨by rw [List.length_take, h1, Nat.min_eq_left hle], ?_⟩
  rcases h2 with ⟨h2, _⟩ | ⟨g', cap', cur, hv, hg, hh, hn, hc, hs, ht⟩
  · cases h2
  · simp at hv
    obtain ⟨rfl, rfl⟩ := hv
    refine Or.inr ⟨_, _, cur, rfl, hg, hh, by omega, hc, hs, ?_⟩
    rw [← ht, List.take_take, Nat.min_eq_left hle]

theorem kept_mi {w : World} {B : Nat} {bl : Nat → Prop} {p n : Nat} {bs : List Nat} {f : Int → Int → Int} {t : Int} {M g lc k : Nat} (h : MX w B bl p n bs (keepf f k) t M g lc) (hk : k ≤ bs.length) :
    MI (w.setCell ⟨p, 1, none⟩ (.slice (some ⟨g, 0, none⟩) k lc)) B bl p n (bs.take k) (keepf f k) t ∧ Fr bl w (w.setCell ⟨p, 1, none⟩ (.slice (some ⟨g, 0, none⟩) k lc)) := by
  obtain ⟨L, h4, h5, h8⟩ := h.ex
  have hl : (bs.take k).length = k := by simp; omega
  refine ⟨⟨fun b hb => by simpa using h.rng b hb, h.inp, fun a b e => ?_, M, some ⟨g, 0, none⟩, lc, L.take k, h.inM, h.Mnp, fun b hb => ?_, by rw [List.map_take, h4], fun i c h' e => ?_, ?_, ?_, ?_⟩, (Fr.refl bl w).setCell (Or.inl h.inp) _⟩
  · by_cases ha : a < (k : Int)
    · refine h.out a b ?_
      cases e2 : inB bs a b
      · rfl
      · obtain ⟨i, j, d, rfl, rfl, e3, e4⟩ := inB_iff.1 e2
        rw [inB_iff.2 ⟨i, j, d, rfl, rfl, by rw [List.getElem?_take_of_lt (by omega)]; exact e3, e4⟩] at e
        cases e
    · simp only [keepf]
      rw [if_neg ha]
  · simp [Value.ownBlock] at hb
    subst hb
    exact ⟨h.ing, h.gp, h.gM⟩
  · have hi : i < k := by
      have := (List.getElem?_eq_some_iff.1 e).1
      simp at this
      omega
    rw [List.getElem?_take_of_lt hi] at e
    exact h5 i c h' e
  · rw [block_setCell h.cells, hl]
    simp
  · exact h.map.kept (Below.heap_setCell _ _ _ _ h.Mnp)
  · rw [hl, ← blkCells_take]
    refine ownsRow_less (n := bs.length) ?_ hk
    refine ownsRow_block h8 fun b e => ?_
    simp [Value.ownBlock] at e
    subst e
    exact Below.heap_setCell _ _ _ _ h.gp

/-- The sum is told anew. -/
theorem MX.told {w : World} {B : Nat} {bl : Nat → Prop} {p n : Nat} {bs : List Nat} {f : Int → Int → Int} {t : Int} {M g lc : Nat} (h : MX w B bl p n bs f t M g lc) (t' : Int) (j : Nat) :
    MX ((w.drewN j).setCell ⟨p, 2, none⟩ (.int .i64 t')) B bl p n bs f t' M g lc ∧ Fr bl w ((w.drewN j).setCell ⟨p, 2, none⟩ (.int .i64 t')) := by
  obtain ⟨L, h4, h5, h8⟩ := h.ex
  refine ⟨⟨fun b hb => by simpa using h.rng b hb, h.inp, h.out, h.inM, h.ing, h.Mnp, h.gp, h.gM, ?_, ?_, L, h4, h5, ?_⟩, ?_⟩
  · rw [block_setCell (w := w.drewN j) h.cells]
    simp
  · exact h.map.kept (Below.heap_setCell (w.drewN j) _ _ _ h.Mnp)
  · refine ownsRow_block h8 fun b e => ?_
    simp [Value.ownBlock] at e
    subst e
    exact Below.heap_setCell (w.drewN j) _ _ _ h.gp
  · exact (show Fr bl w (w.drewN j) from ⟨rfl, rfl, rfl, Nat.le_refl _, fun _ _ _ => rfl⟩).setCell (Or.inl h.inp) _

set_option maxRecDepth 100000 in
set_option maxHeartbeats 1000000 in
theorem keep_some {w : World} {B : Nat} {bl : Nat → Prop} {p n : Nat} {bs : List Nat} {f : Int → Int → Int} {t : Int} {M g lc : Nat} (h : MX w B bl p n bs f t M g lc) (k : Nat) (hk : k ≤ bs.length) (hlc : bs.length ≤ lc) (hlm : lc ≤ 9223372036854775807) (ht : t = ((bs.sum : Nat) : Int)) (hs : bs.sum ≤ 65536) (hl : bs.length ≤ 1000000) :
    Calls Try.prog 12 #[.pointer (some ⟨p, 0, none⟩), .int .i64 (k : Int)] w fun e w' => e = .returned (.int .i64 0) ∧ MI w' B bl p n (bs.take k) (keepf f k) (((bs.take k).sum : Nat) : Int) ∧ Fr bl w w' := by
  have c1 : w.cell? ⟨p, 1, none⟩ = some (.slice (some ⟨g, 0, none⟩) bs.length lc) := cell_of_block h.cells 1
  have i0 : (0 : Int) ≤ (k : Int) := by omega
  have i1 : (k : Int) ≤ (bs.length : Int) := by omega
  have hcb : Hid (∀ c ∈ bs, c ≤ 100000) := fun c hc => by
    have := mem_sum hc
    omega
  have H := hideIt h
  have HO := hideIt h.out
  have HS := hideIt hs
  have HT := hideIt ht
  clear h hs ht
  have d1 : decide ((k : Int) < 0) = false := by simp
  have d2 : decide (bs.length < k) = false := by simp; omega
  go_enter Try.func12, Try.ntmps12
  go_wp2_with (fail)
  go_loopw [5] (fun o wr => ∃ m : Nat, o = .int .i64 m ∧ k ≤ m ∧ m ≤ bs.length ∧ MX wr B bl p n bs (keepm f k m) (t - (((bs.take m).sum : Nat) : Int) + (((bs.take k).sum : Nat) : Int)) M g lc ∧ Fr bl w wr) (fun o _ => bs.length - (intOf o).toNat)
  case atStart => exact ⟨k, rfl, Nat.le_refl _, hk, by rw [keepm_start, Int.sub_add_cancel]; exact H.out, Fr.refl _ _⟩
  case round =>
    obtain ⟨m, rfl, hkm, hm, hx, hF⟩ := hrel
    have c2 : wr.cell? ⟨p, 1, none⟩ = some (.slice (some ⟨g, 0, none⟩) bs.length lc) := cell_of_block hx.cells 1
    have HX := hideIt hx
    have HF := hideIt hF
    by_cases hmm : m < bs.length
    · obtain ⟨c, hc⟩ : ∃ c, bs[m]? = some c := ⟨bs[m], by simp [hmm]⟩
      have hcm := hcb.out c (List.mem_of_getElem? hc)
      have HC := hideIt hc
      have st := sum_take hc
      have s1 : (bs.take m).sum + (bs.drop m).sum = bs.sum := by rw [← List.sum_append, List.take_append_drop]
      have s2 : (bs.take k).sum + (bs.drop k).sum = bs.sum := by rw [← List.sum_append, List.take_append_drop]
      have b1 : -100000 ≤ t - (((bs.take m).sum : Nat) : Int) + (((bs.take k).sum : Nat) : Int) := by have := HT.out; have := HS.out; omega
      have b2 : t - (((bs.take m).sum : Nat) : Int) + (((bs.take k).sum : Nat) : Int) ≤ 200000 := by have := HT.out; have := HS.out; omega
      have TE := hideIt (show (t - (((bs.take m).sum : Nat) : Int) + (((bs.take k).sum : Nat) : Int)) - (c : Int) = t - (((bs.take (m + 1)).sum : Nat) : Int) + (((bs.take k).sum : Nat) : Int) by rw [st]; omega)
      have EM := hideIt (empty_any hx hc hl hcm)
      clear hx hF hc st s1 s2
      generalize t - (((bs.take m).sum : Nat) : Int) + (((bs.take k).sum : Nat) : Int) = T at HX EM TE b1 b2
      have m0 : (0 : Int) ≤ (m : Int) := by omega
      have m1 : (m : Int) < (bs.length : Int) := by omega
      go_wp2_with (first | (go_at_call 20; refine EM.out.mono ?_; rintro e x1 ⟨rfl, hy, hF1⟩; have HY := hideIt hy; have HF1 := hideIt hF1; obtain ⟨r1, r2⟩ := mx_row hy HC.out; have k1 : x1.cell? ⟨p, 1, none⟩ = some (.slice (some ⟨g, 0, none⟩) bs.length lc) := cell_of_block hy.cells 1; have k2 : x1.cell? ⟨p, 2, none⟩ = some (.int .i64 T) := cell_of_block hy.cells 2; have k3 : x1.frozen? ⟨p, 2, none⟩ = false := free_of_block hy.cells 2; clear hy hF1 r2) | fail)
      go_region
      all_goals go_wp2_with (fail)
      all_goals go_roundw
      case rel =>
        obtain ⟨z1, z2⟩ := HY.out.told (T - c) 1
        rw [keepm_next f hkm] at z1
        exact ⟨m + 1, by go_num, by omega, hmm, by rw [← TE.out]; exact z1, (HF.out.trans HF1.out).trans z2⟩
      case measure => simp [intOf]; omega
    · have : m = bs.length := by omega
      subst this
      have TE := hideIt (show t - (((bs.take bs.length).sum : Nat) : Int) + (((bs.take k).sum : Nat) : Int) = (((bs.take k).sum : Nat) : Int) by rw [List.take_length, HT.out]; omega)
      rw [TE.out, keepm_end HO.out] at HX
      have k4 : wr.frozen? ⟨p, 1, none⟩ = false := free_of_block HX.out.cells 1
      clear hx hF
      go_wp2_with (fail)
      go_ret
      obtain ⟨z1, z2⟩ := kept_mi HX.out hk
      exact ⟨rfl, z1, HF.out.trans z2⟩

end Go.Proofs.Ytbmkmllehppiiaa
