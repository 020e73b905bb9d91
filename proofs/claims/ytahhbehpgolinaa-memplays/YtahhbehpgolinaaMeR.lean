/-
  The document's memory: Alloc: contracts over the program; no conditions but those that each fact bears.
-/
import Derived.Test.YtahhbehpgolinaaMeQ
import Derived.Deep.RegionLaw
namespace Go.Proofs.Ytahhbehpgolinaa.Me
open Go.RowKit
set_option linter.unusedVariables false

theorem ralloc_neg (w : World) (q : Nat) (c : Int) (hc : c < 0) : Calls Try.prog 11 #[.pointer (some ⟨q, 0, none⟩), .int .i64 c] w fun e w' => e = .returned (.tuple #[.int .i64 0, .int .i64 1]) ∧ w' = w := by
  go_enter Try.func11, Try.ntmps11
  go_wp2
  go_ret2
  exact ⟨rfl, rfl⟩
theorem ralloc_lim {w : World} {B : Nat} {bl : Nat → Prop} {q : Nat} {R : List (Nat × List Int)} (h : RI w B bl q R) (hl : R.length ≤ 1000000) (ht : tot R ≤ 65536) (c : Int) (hc : 0 ≤ c) (hc2 : 65536 - (tot R : Int) < c) :
    Calls Try.prog 11 #[.pointer (some ⟨q, 0, none⟩), .int .i64 c] w fun e w' => e = .returned (.tuple #[.int .i64 0, .int .i64 11]) ∧ w' = w := by
  have HC := hideIt (rtotal_any h hl (by omega))
  clear h
  generalize tot R = T at HC hc2 ht
  go_enter Try.func11, Try.ntmps11
  go_wp2_with (first | (go_at_call 19; refine HC.out.mono ?_; rintro e x1 ⟨rfl, rfl⟩) | fail)
  all_goals first | (exfalso; omega) | (go_ret2; exact ⟨rfl, rfl⟩)

theorem Try.info44 : (Try.prog.info? 44).map (fun i => (i.zero, i.size, i.bytes)) = some (some (.slice none 0 0), 1, 24) := by kernel_rfl
theorem Try.info2 : (Try.prog.info? 2).map (fun i => (i.zero, i.size, i.bytes)) = some (some (.int .i64 0), 1, 8) := by kernel_rfl

theorem made_row (c : Nat) : madeCells #[Value.int .i64 0] c = ((List.replicate c (0 : Int)).map (Value.int .i64)).toArray := by
  apply Array.ext
  · simp [size_madeCells]
  · intro i h1 h2
    simp [madeCells, Nat.mod_one]

theorem gr_drew {w w' : World} {row : Option Nat} (h : w.drew.grownBy w' row) : w.grownBy w' row := ⟨h.os, h.tape, h.output, h.size, h.block⟩
theorem ralloc_ri {w w1 : World} {B : Nat} {bl : Nat → Prop} {q : Nat} {R : List (Nat × List Int)} (h : RI w B bl q R) {la : Option Addr} {lc g cap c : Nat} {o : Obj} (h1 : ∀ k, (Value.slice la R.length lc).ownBlock = some k → bl k ∧ k ≠ q ∧ ∀ r ∈ R, r.1 ≠ k)
    (h2 : w.heap[q]? = some (.cells #[.slice la R.length lc] 29 (0, 0))) 
    (ho : w1.ownsRow B 44 1 (.slice (some ⟨g, 0, none⟩) (R.length + 1) cap) (R.length + 1) (rowC R ++ [.slice (some ⟨w.heap.size, 0, none⟩) c c]))
    (hg : ((w.alloc (.cells (madeCells #[.int .i64 0] c) 2)).alloc o).grownBy w1 (Value.slice la R.length lc).ownBlock) (hat : (Value.slice la R.length lc).ownBlock = some g ∨ g = w.heap.size + 2) :
    (∃ bl' : Nat → Prop, (∀ k, bl' k → bl k ∨ w.heap.size ≤ k) ∧ RI (w1.setCell ⟨q, 0, none⟩ (.slice (some ⟨g, 0, none⟩) (R.length + 1) cap)) B bl' q (R ++ [(w.heap.size, List.replicate c 0)])) ∧ Fr bl w (w1.setCell ⟨q, 0, none⟩ (.slice (some ⟨g, 0, none⟩) (R.length + 1) cap)) := by
  have hgl := ho.lt g rfl
  have hq : q < w.heap.size := lt_of_some h2
  have hBq := (h.rng q h.inq).1
  have hgq : g ≠ q := by
    rcases hat with e | e
    · exact (h1 g e).2.1
    · omega
  have hgn : g ≠ w.heap.size := by
    rcases hat with e | e
    · have := (h.rng g (h1 g e).1).2
      omega
    · omega
  have hF1 : Fr bl w w1 := (((Fr.refl bl w).alloc _).alloc o).grown hg (fun k hk => Or.inl (h1 k hk).1)
  have blk : ∀ k, k < w.heap.size → (Value.slice la R.length lc).ownBlock ≠ some k → w1.heap[k]? = w.heap[k]? := fun k hk hne => by
    rw [hg.block k (by simp; omega) (fun e => hne e.symm), Below.heap_alloc _ _ _ (by simp; omega)]
    exact Below.heap_alloc _ _ _ hk
  have hnew : w1.heap[w.heap.size]? = some (.cells (madeCells #[.int .i64 0] c) 2 (0, 0)) := by
    rw [hg.block w.heap.size (by simp; omega) (fun e => by have := (h.rng _ (h1 _ e.symm).1).2; omega), Below.heap_alloc _ _ _ (by simp)]
    exact heap_alloc_new w _
  have hsz := hg.size
  simp at hsz
  refine ⟨⟨fun k => bl k ∨ k = g ∨ k = w.heap.size, fun k hk => ?_, ?_⟩, hF1.setCell (Or.inl h.inq) _⟩
  · rcases hk with hk | rfl | rfl
    · exact Or.inl hk
    · rcases hat with e | e
      · exact Or.inl (h1 k e).1
      · exact Or.inr (by omega)
    · exact Or.inr (Nat.le_refl _)
  · refine ⟨fun k hk => ?_, Or.inl h.inq, fun r hr => ?_, ?_, some ⟨g, 0, none⟩, cap, fun k hk => ?_, ?_, ?_⟩
    · rcases hk with hk | rfl | rfl
      · have := h.rng k hk
        simp
        omega
      · simp
        omega
      · simp
        omega
    · rcases List.mem_append.1 hr with hr | hr
      · obtain ⟨e1, e2, e3⟩ := h.rows r hr
        refine ⟨Or.inl e1, e2, ?_⟩
        rw [Below.heap_setCell _ _ _ _ e2, blk r.1 (h.rng _ e1).2 (fun e => (h1 _ e).2.2 r hr rfl)]
        exact e3
      · simp at hr
        subst hr
        refine ⟨Or.inr (Or.inr rfl), by simp; omega, ?_⟩
        rw [Below.heap_setCell _ _ _ _ (by simp; omega), hnew, made_row]
    · rw [List.map_append, List.nodup_append]
      refine ⟨h.nodup, by simp, fun a ha b hb e => ?_⟩
      simp at hb
      obtain ⟨r, hr, rfl⟩ := List.mem_map.1 ha
      have := (h.rng _ (h.rows r hr).1).2
      omega
    · simp [Value.ownBlock] at hk
      subst hk
      refine ⟨Or.inr (Or.inl rfl), hgq, fun r hr => ?_⟩
      rcases List.mem_append.1 hr with hr | hr
      · rcases hat with e | e
        · exact (h1 g e).2.2 r hr
        · have := (h.rng _ (h.rows r hr).1).2
          omega
      · simp at hr
        subst hr
        simp
        omega
    · rw [block_setCell ((blk q hq (fun e => (h1 q e).2.1 rfl)).trans h2)]
      simp
    · rw [List.length_append]
      have e : rowC (R ++ [(w.heap.size, List.replicate c 0)]) = rowC R ++ [.slice (some ⟨w.heap.size, 0, none⟩) c c] := by simp [rowC]
      rw [e]
      refine ownsRow_block ho fun k hk => ?_
      simp [Value.ownBlock] at hk
      subst hk
      exact Below.heap_setCell _ _ _ _ hgq

set_option maxRecDepth 100000 in
set_option maxHeartbeats 1000000 in
theorem ralloc_ok {w : World} {B : Nat} {bl : Nat → Prop} {q : Nat} {R : List (Nat × List Int)} (h : RI w B bl q R) (hl : R.length ≤ 1000000) (ht : tot R ≤ 65536) (c : Nat) (hc2 : (c : Int) ≤ 65536 - (tot R : Int)) :
    Calls Try.prog 11 #[.pointer (some ⟨q, 0, none⟩), .int .i64 (c : Int)] w fun e w' => e = .returned (.tuple #[.int .i64 R.length, .int .i64 0]) ∧
      (∃ bl' : Nat → Prop, (∀ k, bl' k → bl k ∨ w.heap.size ≤ k) ∧ RI w' B bl' q (R ++ [(w.heap.size, List.replicate c 0)])) ∧ Fr bl w w' := by
  obtain ⟨la, lc, h1, h2, h3⟩ := h.ex
  obtain ⟨i0, hi, hz0, hz1, hz2⟩ := info_parts Try.info44
  have HC := hideIt (rtotal_any h hl (by omega))
  have c0 : w.cell? ⟨q, 0, none⟩ = some (.slice la R.length lc) := cell_of_block h2 0
  have hc3 : c ≤ 65536 := by omega
  have hmk := fun (x : World) => run_make_row' (P := Try.prog) 44 2 (.int .i64 0) 8 Try.underlying44 Try.info2 rfl .i64 .i64 c (by omega) (by omega) x
  have hBq := hideIt (show B ≤ w.heap.size by have := h.rng q h.inq; omega)
  have HO := hideIt (show ∀ x : World, x.heap = ((w.alloc (.cells (madeCells #[.int .i64 0] c) 2)).alloc (.cells #[.slice (some ⟨w.heap.size, 0, none⟩) c c] 44)).heap → x.ownsRow B 44 1 (.slice la R.length lc) R.length (rowC R) from fun x hx => ownsRow_block h3 (fun k hk => by
    have hk' := (h.rng k (h1 k hk).1).2
    rw [hx, Below.heap_alloc _ _ _ (by simp; omega)]
    exact Below.heap_alloc _ _ _ hk'))
  have HN := hideIt (show ∀ x : World, x.heap = ((w.alloc (.cells (madeCells #[.int .i64 0] c) 2)).alloc (.cells #[.slice (some ⟨w.heap.size, 0, none⟩) c c] 44)).heap → (∀ j u, [Value.slice (some ⟨w.heap.size, 0, none⟩) c c][j]? = some u → x.cell? ((⟨w.heap.size + 1, 0, none⟩ : Addr).add j) = some u) ∧ B ≤ x.heap.size ∧ x.heap.size = w.heap.size + 2 from fun x hx => by
    have e : x.heap[w.heap.size + 1]? = some (.cells #[.slice (some ⟨w.heap.size, 0, none⟩) c c] 44 (0, 0)) := by
      rw [hx]
      have := heap_alloc_new (w.alloc (.cells (madeCells #[.int .i64 0] c) 2)) (.cells #[.slice (some ⟨w.heap.size, 0, none⟩) c c] 44)
      simpa using this
    have e2 : x.heap.size = w.heap.size + 2 := by rw [hx]; simp
    exact ⟨World.news_of_block e, by have := h.rng q h.inq; omega, e2⟩)
  have H1 := hideIt (show ∀ u ∈ [Value.slice (some ⟨w.heap.size, 0, none⟩) c c], u.oneCell' = true from fun u hu => by simp at hu; subst hu; rfl)
  have HM := hideIt (show R.length + 1 ≤ maxLen by unfold maxLen; omega)
  have HA := hideIt (fun (w1 : World) (g cap : Nat) => ralloc_ri (w1 := w1) (g := g) (cap := cap) (c := c) (o := .cells #[.slice (some ⟨w.heap.size, 0, none⟩) c c] 44) h h1 h2)
  have HP := hideIt (show ∀ w1, ((w.alloc (.cells (madeCells #[.int .i64 0] c) 2)).alloc (.cells #[.slice (some ⟨w.heap.size, 0, none⟩) c c] 44)).grownBy w1 (Value.slice la R.length lc).ownBlock → w1.cell? ⟨q, 0, none⟩ = some (.slice la R.length lc) ∧ w1.frozen? ⟨q, 0, none⟩ = false from fun w1 hg => by
    have hq := lt_of_some h2
    have e : w1.heap[q]? = some (.cells #[.slice la R.length lc] 29 (0, 0)) := by
      rw [hg.block q (by simp; omega) (fun e => (h1 q e.symm).2.1 rfl), Below.heap_alloc _ _ _ (by simp; omega), Below.heap_alloc _ _ _ hq]
      exact h2
    exact ⟨cell_of_block e 0, free_of_block e 0⟩)
  have c2 := cell_box c0 (.cells (madeCells #[.int .i64 0] c) 2)
  have c3 := cell_box c2 (.cells #[.slice (some ⟨w.heap.size, 0, none⟩) c c] 44)
  have hrl : Hid ((rowC R).length = R.length) := rowC_length R
  clear h h1 h2 h3
  generalize tot R = T at HC hc2 ht
  go_enter Try.func11, Try.ntmps11
  go_wp2_with (first | (go_at_call 19; refine HC.out.mono ?_; rintro e x1 ⟨rfl, hx1⟩; have hx2 := hx1.symm; clear hx1; subst hx2) | fail)
  all_goals try (exfalso; omega)
  go_region_law ((refine step_append_lies _ (by rfl) _ _ 27 (by rfl) B 44 i0 (.slice none 0 0) 1 24 Try.underlying27 hi hz0 hz1 hz2 rfl (by decide) (.slice la R.length lc) R.length (rowC R) (by rfl) (HO.out _ rfl) ⟨w.heap.size + 1, 0, none⟩ 1 1 [.slice (some ⟨w.heap.size, 0, none⟩) c c] (by rfl) rfl (HN.out _ rfl).1 H1.out (by decide) HM.out (by omega) (HN.out _ rfl).2.1 (w.heap.size + 2) (HN.out _ rfl).2.2 ?_; intro g cap w1 hown hgrow hat hlt; have hg2 := gr_drew hgrow; obtain ⟨k1, k2⟩ := HP.out w1 hg2; have HO2 := hideIt hown; have HG2 := hideIt hg2; have HT2 := hideIt hat; clear hown hgrow hat hg2))
  all_goals go_wp2_with (fail)
  all_goals go_ret2
  all_goals exact ⟨rfl, HA.out w1 g cap HO2.out HG2.out HT2.out⟩

end Go.Proofs.Ytahhbehpgolinaa.Me
