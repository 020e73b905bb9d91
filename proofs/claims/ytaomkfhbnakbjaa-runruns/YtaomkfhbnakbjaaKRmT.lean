/-
  A call of a run begins (its arguments are moved into its registers), and ends (its registers are 0 again): contracts over the program; the conditions: a run lies there.
  A run of code: a block is got, blocks are given back: contracts over the program; what a call's begin and end leave; the conditions: a run lies there.
-/
import Derived.Test.YtaomkfhbnakbjaaKRmI
import Derived.Test.YtaomkfhbnakbjaaKRmR
import Derived.Test.YtaomkfhbnakbjaaKMeD
namespace Go.Proofs.Ytaomkfhbnakbjaa
open Go.RowKit
set_option linter.unusedVariables false

theorem row_over {w : World} {base g cap : Nat} {T : TypeId} {L A : List Int} (h : w.ownsRow base T 1 (.slice (some ⟨g, 0, none⟩) L.length cap) L.length (rowI L)) (hA : A.length ≤ L.length) :
    ∃ cur, w.heap[g]? = some (.cells cur T (0, 0)) ∧ A.length ≤ cur.size ∧ (w.setRow g (cur.toList.take 0 ++ (rowI A ++ cur.toList.drop (0 + (rowI A).length))).toArray).ownsRow base T 1 (.slice (some ⟨g, 0, none⟩) L.length cap) L.length (rowI (A ++ L.drop A.length)) := by
  rcases h.2 with ⟨e0, -⟩ | ⟨g', cap', cur, e0, hb, hg, hnc, hcm, hcs, ht⟩
  · injection e0 with e0; cases e0
  · injection e0 with e1 e2 e3
    injection e1 with e1
    injection e1 with e1
    subst e1; subst e3
    refine ⟨cur, hg, by omega, by simp [rowI_len]; omega, .inr ⟨g, cap, _, rfl, hb, setRow_heap w g cur _ T _ hg, hnc, hcm, by simp [rowI_len]; omega, ?_⟩⟩
    rw [rowI_app]
    simp only [List.take_zero, List.nil_append, Nat.zero_add, rowI_len]
    rw [List.take_append]
    simp only [rowI_len]
    rw [List.take_of_length_le (by rw [rowI_len]; omega)]
    congr 1
    rw [← List.drop_take]
    · have : rowI (L.drop A.length) = (rowI L).drop A.length := by simp [rowI, List.map_drop]
      rw [this, ← ht]

theorem regAt_over (A L : List Int) (m : Nat) : regAt (A ++ L.drop A.length) m = if m < A.length then A.getD m 0 else regAt L m := by
  unfold regAt
  by_cases h : m < A.length
  · rw [if_pos h, List.getD_eq_getElem?_getD, List.getD_eq_getElem?_getD, List.getElem?_append_left h]
  · rw [if_neg h, List.getD_eq_getElem?_getD, List.getD_eq_getElem?_getD, List.getElem?_append_right (by omega), List.getElem?_drop]
    congr 2
    omega
theorem regAt_reached (H : List Int) (n m : Nat) : regAt (reached H n) m = regAt H m := by
  unfold regAt reached
  rw [List.getD_eq_getElem?_getD, List.getD_eq_getElem?_getD]
  by_cases hm : m < H.length
  · rw [List.getElem?_append_left hm]
  · rw [List.getElem?_append_right (by omega), List.getElem?_eq_none (by omega : H.length ≤ m), List.getElem?_replicate]
    split <;> rfl

set_option maxRecDepth 100000 in
set_option maxHeartbeats 1000000 in
theorem begin_ri {w w0 : World} {R p gb gc : Nat} {col : Col} {c : PC} {fuel : Nat} {s : St} {A : List Int} {G : GG} (h : RI w w0 R p gb gc col c fuel s A G) {k : Nat} (hk : k < c.fns.length) {av : Value} (hav : w.cell? ⟨R, 8, none⟩ = some av) :
    Calls Try.prog 82 #[.pointer (some ⟨gb, k * 2, none⟩), av] w fun e w' => e = .returned (.tuple #[]) ∧ ∃ col' H', RI w' w0 R p gb gc col' c fuel s A (updG G k H' (G k).2) ∧ Ex col w col' w' ∧ ∀ m, regAt H' m = if m < A.length then A.getD m 0 else regAt (G k).1 m := by
  obtain ⟨tv, av0, h1, h2, h3, h4, h5⟩ := h.run
  have : w.cell? ⟨R, 8, none⟩ = some av0 := Me.cell_of_block h1 8
  rw [this] at hav
  obtain rfl : av0 = av := Option.some.inj hav
  obtain ⟨cs, hv, wv, hr, ch, cw⟩ := h.rg hk
  obtain ⟨hg1, hg2, hg3⟩ := h.gw k hk
  have hal := h.al
  obtain ⟨va, vc, ev, -, -⟩ := Me.ownsRow_form h3
  obtain ⟨ha, hc, eh, -, -⟩ := Me.ownsRow_form hr.oh
  by_cases hA : A.length = 0
  · have hcell : w.cell? ⟨gb, k * 2, none⟩ = some (.slice ha (G k).1.length hc) := by rw [← eh]; simp [World.cell?, hr.blk, hr.c0]
    rw [hA] at ev
    rw [ev]
    refine (begin_none w gb (k * 2) ha va (G k).1.length hc vc hcell).mono ?_
    rintro e w' ⟨rfl, rfl⟩
    refine ⟨rfl, col, (G k).1, ?_, Ex.refl _ _, fun m => by rw [hA]; simp⟩
    have : updG G k (G k).1 (G k).2 = G := by
      funext j
      simp only [updG]
      split
      · rename_i e; rw [e]
      · rfl
    rw [this]
    exact h
  · have HC := hideIt (reach_any w gb (k * 2) w0.heap.size hv (G k).1 cs _ hr.blk hr.c0 hr.oh hr.nh h.bel.size A.length (by omega))
    have HRG := hideIt (fun (y : World) (v' : Value) (b1 : y.heap[gb]? = some (.cells (cs.setIfInBounds (k * 2) v') 133 (0, 0))) (o1 : y.ownsRow w0.heap.size 2 1 v' (reached (G k).1 A.length).length (rowI (reached (G k).1 A.length))) (q1 : v'.ownBlock = hv.ownBlock ∨ ∃ g, v'.ownBlock = some g ∧ w.heap.size ≤ g) (f1 : Rf w y gb hv.ownBlock) => rg_reach hr b1 o1 q1 f1)
    have hrl : (reached (G k).1 A.length).length = max (G k).1.length A.length := reached_len _ _
    have AV := hideIt (show ∀ y, Rf w y gb hv.ownBlock → y.ownsRow w0.heap.size 2 1 av0 A.length (rowI A) from fun y f1 => row_keep h3 (fun b hb => f1.block b (own_lt h3 hb) (fun q => by have := h5 b hb; rw [q, h.colg] at this; cases this) (fun q => by have a1 := h5 b hb; rw [ch b q.symm] at a1; cases a1)))
    have FIN := hideIt (show ∀ (y z : World) (v' : Value), RG y gb (k * 2) w0.heap.size (reached (G k).1 A.length) (G k).2 (cs.setIfInBounds (k * 2) v') 133 v' wv → (v'.ownBlock = hv.ownBlock ∨ ∃ g, v'.ownBlock = some g ∧ w.heap.size ≤ g) → Rf w y gb hv.ownBlock → (∃ g cap cur, v' = .slice (some ⟨g, 0, none⟩) (reached (G k).1 A.length).length cap ∧ y.heap[g]? = some (.cells cur 2 (0, 0)) ∧ z = y.setRow g (cur.toList.take 0 ++ (rowI A ++ cur.toList.drop (0 + (rowI A).length))).toArray ∧ z.ownsRow w0.heap.size 2 1 v' (reached (G k).1 A.length).length (rowI (A ++ (reached (G k).1 A.length).drop A.length))) →
        ∃ col' H', RI z w0 R p gb gc col' c fuel s A (updG G k H' (G k).2) ∧ Ex col w col' z ∧ ∀ m, regAt H' m = if m < A.length then A.getD m 0 else regAt (G k).1 m from fun y z v' hy q1 f1 ⟨g, cap, cur, e1, e2, e3, e4⟩ => by
      have hzo : ∀ b, b ≠ g → z.heap[b]? = y.heap[b]? := fun b hb => by rw [e3]; exact setRow_other y g b _ hb
      have hzs : z.heap.size = y.heap.size := by rw [e3]; simp [World.setRow]
      have hvg : v'.ownBlock = some g := by rw [e1]; rfl
      have hgg : gb ≠ g := fun q => hy.nh (by rw [hvg, q])
      have hLl : (A ++ (reached (G k).1 A.length).drop A.length).length = (reached (G k).1 A.length).length := by simp; omega
      have hrz : RG z gb (k * 2) w0.heap.size (A ++ (reached (G k).1 A.length).drop A.length) (G k).2 (cs.setIfInBounds (k * 2) v') 133 v' wv :=
        ⟨by rw [hzo gb hgg]; exact hy.blk, hy.c0, hy.c1, by rw [hLl]; exact e4, row_keep hy.ow (fun b hb => hzo b (fun q => hy.hw g hvg (by rw [← q]; exact hb))), hy.nh, hy.nw, hy.hw, fun b hb => by rw [hzs]; exact hy.lw b hb⟩
      obtain ⟨col', a1, a2⟩ := h.setG hk hr.blk hr.c0 hr.c1 ch cw hrz (fun j j1 j2 => by rw [Array.getElem?_setIfInBounds_ne (by omega)]) q1 (Or.inl rfl) ⟨by rw [e3]; exact f1.os, by rw [e3]; exact f1.tape, by rw [e3]; exact f1.output, by rw [hzs]; exact f1.size, fun b b1 b2 b3 b4 => by
          rw [hzo b (fun q => ?_)]
          · exact f1.block b b1 b2 b3
          · rcases q1 with q1 | ⟨g', q1, q1'⟩
            · exact b3 (by rw [← q1, hvg, q])
            · rw [hvg] at q1; injection q1 with q1; omega⟩ (by rw [hLl, hrl]; omega) (fun m hm => by obtain ⟨n, e, hn⟩ := hg2 m hm; exact ⟨n, e, by rw [hLl, hrl]; omega⟩) hg3
      exact ⟨col', _, a1, a2, fun m => by rw [regAt_over, regAt_reached]⟩)
    have hpos : 0 < A.length := by omega
    have hr0 := hr.c0
    have hml : A.length ≤ (reached (G k).1 A.length).length := by rw [hrl]; omega
    have H1 := hideIt (show ∀ u ∈ rowI A, u.oneCell' = true from fun u hu => by obtain ⟨_, _, rfl⟩ := List.mem_map.1 hu; rfl)
    have EV := hideIt ev
    rw [ev]
    generalize hL : reached (G k).1 A.length = L at *
    clear h h1 h2 h3 h4 h5 hr ch cw hg1 hg2 hg3 eh hrl hA hal this hL
    go_enter Try.func82, Try.ntmps82
    go_wp2_with (fail)
    go_at_call 103
    refine HC.out.mono ?_
    rintro e y ⟨rfl, v', b1, o1, q1, f1⟩
    have hav := AV.out y f1
    rw [EV.out] at hav
    obtain ⟨g2, cap2, cur2, d1, d2, d3, -, -, -⟩ := Me.ownsRow_blk hav hpos
    simp only [Value.slice.injEq] at d1
    obtain ⟨rfl, -, rfl⟩ := d1
    obtain ⟨g, cap, cur0, rfl, -, -, -, -, -⟩ := Me.ownsRow_blk o1 (by omega)
    obtain ⟨cur, r1, r2, r3⟩ := row_over o1 hml
    have RY := hideIt (HRG.out y _ b1 o1 q1 f1)
    have c1 : y.cell? ⟨gb, k * 2, none⟩ = some (.slice (some ⟨g, 0, none⟩) L.length cap) := by simp [World.cell?, b1, (Array.getElem?_eq_some_iff.1 hr0).1]
    have HF := hideIt (FIN.out y _ _ RY.out q1 f1 ⟨g, cap, cur, rfl, r1, rfl, r3⟩)
    have R1 := hideIt r1
    have NN := hideIt (show (rowI A).length = Nat.min A.length L.length by rw [rowI_len]; exact (Nat.min_eq_left hml).symm)
    have SR := hideIt (show ∀ j v, (rowI A)[j]? = some v → y.cell? ((⟨g2, 0, none⟩ : Addr).add j) = some v from fun j v hj => by
      have := d3 j v hj
      have e : (⟨g2, 0, none⟩ : Addr).add j = ⟨g2, j, none⟩ := by unfold Addr.add; split <;> simp_all
      rw [e]
      simp [World.cell?, d2, this])
    have FT := hideIt (show 0 + (rowI A).length ≤ cur.size by rw [rowI_len]; omega)
    clear b1 o1 q1 f1 hav d2 d3 r1 r2 r3 RY
    go_wp2_with (first | (refine wpList_copy_own rfl (.tmp 11) (.tmp 12) 23 23 rfl 2 Try.underlying23 rg_sizeI64 g 0 L.length cap ⟨g2, 0, none⟩ A.length vc rfl rfl cur 2 R1.out (rowI A) NN.out SR.out FT.out H1.out ?_) | fail)
    go_end0
    refine ⟨rfl, ?_⟩
    have q := HF.out
    simp only [List.take_zero, List.nil_append, Nat.zero_add, List.getD_eq_getElem?_getD] at q ⊢
    exact q

theorem zeroed_at : ∀ (W H : List Int), (∀ m ∈ W, ∃ n : Nat, m = (n : Int) ∧ n < H.length) → ∀ n : Nat, regAt (zeroed H W) n = if (n : Int) ∈ W then 0 else regAt H n
  | [], H, _, n => by simp [zeroed]
  | m :: W, H, hW, n => by
    obtain ⟨q, rfl, hq⟩ := hW m (List.mem_cons_self ..)
    have e0 : zeroed H ((q : Int) :: W) = zeroed (H.set q 0) W := rfl
    have ih := zeroed_at W (H.set q 0) (fun m hm => by
      obtain ⟨z, e, hz⟩ := hW m (List.mem_cons_of_mem _ hm)
      exact ⟨z, e, by rw [List.length_set]; exact hz⟩) n
    rw [e0, ih]
    have e1 : regAt (H.set q 0) n = if n = q then 0 else regAt H n := by
      unfold regAt
      rw [List.getD_eq_getElem?_getD, List.getD_eq_getElem?_getD, List.getElem?_set]
      by_cases e : q = n
      · subst e; simp [hq]
      · rw [if_neg e, if_neg (fun x => e x.symm)]
    rw [e1]
    by_cases e : n = q
    · subst e; simp
    · have : ((n : Int) ∈ (q : Int) :: W) ↔ (n : Int) ∈ W := by
        simp only [List.mem_cons]
        constructor
        · rintro (x | x)
          · omega
          · exact x
        · exact Or.inr
      simp only [this, e, if_false]

theorem end_ri {w w0 : World} {R p gb gc : Nat} {col : Col} {c : PC} {fuel : Nat} {s : St} {A : List Int} {G : GG} (h : RI w w0 R p gb gc col c fuel s A G) {k : Nat} (hk : k < c.fns.length) (hf : fuel ≤ 8388608) :
    Calls Try.prog 84 #[.pointer (some ⟨gb, k * 2, none⟩)] w fun e w' => e = .returned (.tuple #[]) ∧ ∃ col' H', RI w' w0 R p gb gc col' c fuel s A (updG G k H' []) ∧ Ex col w col' w' ∧ ∀ n : Nat, regAt H' n = if (n : Int) ∈ (G k).2 then 0 else regAt (G k).1 n := by
  obtain ⟨cs, hv, wv, hr, ch, cw⟩ := h.rg hk
  obtain ⟨hg1, hg2, hg3⟩ := h.gw k hk
  have hnl := h.nle
  obtain ⟨ha, hc, eh, -, -⟩ := Me.ownsRow_form hr.oh
  obtain ⟨wa, wc, ew, -, -⟩ := Me.ownsRow_form hr.ow
  have hr' := hr
  rw [eh, ew] at hr'
  refine (rend_any w gb (k * 2) w0.heap.size (G k).1 (G k).2 cs _ ha wa hc wc hr' hg2 (by omega) (by omega)).mono ?_
  rintro e w' ⟨rfl, r1, r2⟩
  have hl := zeroed_len (G k).1 (G k).2
  rw [← eh] at r1 r2
  obtain ⟨col', a1, a2⟩ := h.setG hk hr.blk hr.c0 hr.c1 ch cw r1 (fun j j1 j2 => by rw [Array.getElem?_setIfInBounds_ne (by omega)]) (Or.inl rfl) (Or.inl (by rw [ew]; cases wa <;> rfl)) ⟨r2.os, r2.tape, r2.output, r2.size, fun b b1 b2 b3 b4 => r2.block b b1 b2 b3 (by intro q; cases q)⟩ (by omega) (fun m hm => by cases hm) (Nat.zero_le _)
  exact ⟨rfl, col', _, a1, a2, zeroed_at _ _ hg2⟩

end Go.Proofs.Ytaomkfhbnakbjaa

namespace Go.Proofs.Ytaomkfhbnakbjaa
open Go.RowKit
set_option linter.unusedVariables false

theorem alloc_bad {w w0 : World} {R p gb gc : Nat} {col : Col} {c : PC} {fuel : Nat} {s : St} {A : List Int} {G : GG} (h : RI w w0 R p gb gc col c fuel s A G) (x : Int) (h1 : 1 ≤ x) (hb : 65536 - ((s.bs.sum : Nat) : Int) < x) :
    Calls Try.prog 79 #[.pointer (some ⟨p, 0, none⟩), .int .i64 x] w fun e w' => e = .returned (.tuple #[.int .i64 0, .int .i64 11]) ∧ w' = w := by
  obtain ⟨bl, m, b1, b2, b3⟩ := h.mem
  have := h.sum
  exact Me.alloc_lim b3 (by omega) (by omega) x (by omega) hb
theorem alloc_good {w w0 : World} {R p gb gc : Nat} {col : Col} {c : PC} {fuel : Nat} {s : St} {A : List Int} {G : GG} (h : RI w w0 R p gb gc col c fuel s A G) (x : Int) (h1 : 1 ≤ x) (hb : ¬ 65536 - ((s.bs.sum : Nat) : Int) < x) :
    Calls Try.prog 79 #[.pointer (some ⟨p, 0, none⟩), .int .i64 x] w fun e w' => e = .returned (.tuple #[.int .i64 s.bs.length, .int .i64 0]) ∧ ∃ col', RI w' w0 R p gb gc col' c fuel { s with bs := s.bs ++ [x.toNat] } A G ∧ Ex col w col' w' := by
  obtain ⟨bl, m, b1, b2, b3⟩ := h.mem
  have hsum := h.sum
  have hl := (MemOk.bd h).1
  have := Me.alloc_ok b3 (by omega) (by omega) x.toNat (by omega) hl
  rw [show ((x.toNat : Nat) : Int) = x by omega] at this
  refine this.mono ?_
  rintro e w' ⟨rfl, ⟨bl', d1, d2, d3⟩, d4⟩
  have hs2 : ((s.bs.sum : Nat) : Int) + x = (((s.bs ++ [x.toNat]).sum : Nat) : Int) := by simp; omega
  rw [hs2] at d3
  obtain ⟨col', r1, r2⟩ := h.setM (f := s.f) (bs := s.bs ++ [x.toNat]) b1 d2 b2 d3 d4 (by simp; omega) (fun y hy => by
    rcases List.mem_append.1 hy with q | q
    · exact h.one y q
    · simp at q; omega)
  exact ⟨rfl, col', r1, r2⟩
theorem keep_ri {w w0 : World} {R p gb gc : Nat} {col : Col} {c : PC} {fuel : Nat} {s : St} {A : List Int} {G : GG} (h : RI w w0 R p gb gc col c fuel s A G) (hf : fuel ≤ 8388608) (n : Nat) (hn : n ≤ s.bs.length) :
    Calls Try.prog 85 #[.pointer (some ⟨p, 0, none⟩), .int .i64 (n : Int)] w fun e w' => e = .returned (.int .i64 0) ∧ ∃ col', RI w' w0 R p gb gc col' c fuel { s with bs := s.bs.take n, f := Me.keepf s.f n } A G ∧ Ex col w col' w' := by
  obtain ⟨bl, m, b1, b2, b3⟩ := h.mem
  have hsum := h.sum
  have hl := (MemOk.bd h).1
  have hnl := h.nle
  refine (Me.keep_any b3 n hn rfl hsum hl (by omega)).mono ?_
  rintro e w' ⟨rfl, d3, d4⟩
  have hle : (s.bs.take n).sum ≤ s.bs.sum := by
    have : (s.bs.take n).sum + (s.bs.drop n).sum = s.bs.sum := by rw [← List.sum_append, List.take_append_drop]
    omega
  obtain ⟨col', r1, r2⟩ := h.setM (f := Me.keepf s.f n) (bs := s.bs.take n) b1 (fun b hb => Or.inl hb) b2 d3 d4 (by omega) (fun y hy => h.one y (List.mem_of_mem_take hy))
  exact ⟨rfl, col', r1, r2⟩

theorem allocs_drop {l : List Int} {i : Nat} {x : Int} (h : l[i]? = some x) (bs : List Nat) : allocs (l.drop i) bs = if 65536 - ((bs.sum : Nat) : Int) < x then none else allocs (l.drop (i + 1)) (bs ++ [x.toNat]) := by
  obtain ⟨hl, e⟩ := List.getElem?_eq_some_iff.1 h
  rw [List.drop_eq_getElem_cons hl, e]
  rfl
theorem roomL_one : ∀ (l : List Int) (b : Int), roomL b l = true → ∀ x ∈ l, 1 ≤ x
  | [], b, _, x, hx => by cases hx
  | y :: l, b, h, x, hx => by
    simp [roomL] at h
    rcases List.mem_cons.1 hx with rfl | hx
    · omega
    · exact roomL_one l _ h.2 x hx
theorem roomL_len : ∀ (l : List Int) (b : Int), roomL b l = true → 0 ≤ b → (l.length : Int) ≤ b
  | [], b, _, hb => by simpa using hb
  | y :: l, b, h, hb => by
    simp [roomL] at h
    have := roomL_len l (b - y) h.2 (by omega)
    simp
    omega

theorem begin_opn {f : PF} {g : List Int × List Int} {A H' : List Int} (hi : idle f g) (hp : (A.length : Int) = f.params) (h : ∀ m, regAt H' m = if m < A.length then A.getD m 0 else regAt g.1 m) : opn f (argR A) (H', g.2) := by
  have h4 : ∀ m, regAt H' m = argR A m := fun m => by
    rw [h]
    unfold argR
    by_cases e : m < A.length
    · rw [if_pos e]
    · rw [if_neg e, hi.2 m (by omega), List.getD_eq_getElem?_getD, List.getElem?_eq_none (by omega)]; rfl
  refine ⟨h4, fun n hn hz => ?_⟩
  unfold argR at hz
  rw [List.getD_eq_getElem?_getD, List.getElem?_eq_none (by omega)] at hz
  exact absurd rfl hz
theorem end_idle {f : PF} {ρ : Rg} {g : List Int × List Int} {H' : List Int} (ho : opn f ρ g) (h : ∀ n : Nat, regAt H' n = if (n : Int) ∈ g.2 then 0 else regAt g.1 n) : idle f (H', []) := by
  refine ⟨rfl, fun n hn => ?_⟩
  show regAt H' n = 0
  rw [h]
  split
  · rfl
  · rename_i hm
    rw [ho.1]
    by_cases hz : ρ n = 0
    · exact hz
    · exact absurd (ho.2 n hn hz) hm

end Go.Proofs.Ytaomkfhbnakbjaa
