/-
  The statement LiveLoops: its walk over the program; the condition: the library's table is laid.
-/
import Derived.Test.YtkcniahpkcdhoaaDoorKLoB
namespace Go.Proofs.YtkcniahpkcdhoaaDoor.Lv
open Go.RowKit
set_option linter.unusedVariables false

set_option maxRecDepth 100000 in
set_option maxHeartbeats 40000000 in
theorem loops_walk (a b : Int) (w : World) (hT : Tab w) (ha : 0 ≤ a ∧ a ≤ 255) (hb : 0 ≤ b ∧ b ≤ 255) : Calls Tryd.prog 7 #[.int .u8 a, .int .u8 b] w fun e w' => e = .returned (.bool true) ∧ Below w.heap.size w w' := by
  obtain ⟨m, hm, hm20⟩ : ∃ m : Nat, a.tmod 20 = (m : Int) ∧ m < 20 := ⟨(a.tmod 20).toNat, by rw [Int.tmod_eq_emod_of_nonneg (by omega)]; omega, by rw [Int.tmod_eq_emod_of_nonneg (by omega)]; omega⟩
  obtain ⟨n, hn⟩ : ∃ n : Nat, n = 2 + m := ⟨_, rfl⟩
  have hn2 : (2 : Int) + (m : Int) = (n : Int) := by omega
  obtain ⟨k', hk', hkn⟩ : ∃ k' : Nat, b.tmod (n : Int) = (k' : Int) ∧ k' < n := by
    rw [Int.tmod_eq_emod_of_nonneg (by omega)]
    have h1 := Int.emod_nonneg b (show (n : Int) ≠ 0 by omega)
    have h2 := Int.emod_lt_of_pos b (show (0 : Int) < (n : Int) by omega)
    exact ⟨(b % (n : Int)).toNat, by omega, by omega⟩
  obtain ⟨k, hk⟩ : ∃ k : Nat, k = 1 + k' := ⟨_, rfl⟩
  have hk2 : (1 : Int) + (k' : Int) = (k : Int) := by omega
  have hne : ((n : Int) == 0) = false := by rw [beq_eq_false_iff_ne]; omega
  have hne2 : ((n : Int) = 0) = False := eq_false (by omega)
  have CA := hideIt (awake_any w hT)
  have HT := hideIt hT
  obtain ⟨i0, ti, tz0, tz1, tz2⟩ := infoP
  have HTI := hideIt (And.intro ti (And.intro tz0 (And.intro tz1 tz2)))
  have hnb : 2 ≤ n ∧ n ≤ 21 := by omega
  have hkb : 1 ≤ k ∧ k ≤ n := by omega
  clear hT ti tz0 tz1 tz2 hn hk
  go_enter Tryd.func7, Tryd.ntmps7
  go_wp2_with (first
    | (go_at_call 8; refine Calls.mono CA.out ?_; rintro e x1 ⟨rfl, q1⟩; have HX := hideIt q1; clear q1)
    | (at_builtin; refine wpList_append_lies _ rfl _ _ 37 rfl (x1.heap.size + 1) 49 i0 (.agg #[.slice none 0 0, .bool false, .int .i64 0, .int .i64 0, .int .i64 0]) 5 56 Tryd.underlying37 HTI.out.1 HTI.out.2.1 HTI.out.2.2.1 HTI.out.2.2.2 rfl (by decide) (.slice none 0 0) 0 [] rfl ⟨rfl, Or.inl ⟨rfl, rfl⟩⟩ ⟨x1.heap.size + 2, 0, none⟩ 1 1 (pFirst (x1.heap.size + 1)).cells rfl rfl ?_ ?_ (by decide) (by decide) (by decide) ?_ _ rfl ?_)
    | fail)
  · have hb : (((x1.alloc (.cells #[.int .i64 0, .int .i64 3, .slice none 0 0, .slice none 0 0] 39)).alloc (.cells #[.int .u8 20, .int .u8 0, .int .i64 0, .int .i64 0, .int .i64 0, .int .i64 3, .slice none 0 0] 57)).alloc (.cells #[.slice (some ⟨x1.heap.size + 1, 0, none⟩) 1 1, .bool false, .int .i64 (-1), .int .i64 1, .int .i64 0] 49)).heap[x1.heap.size + 2]? = some (.cells #[.slice (some ⟨x1.heap.size + 1, 0, none⟩) 1 1, .bool false, .int .i64 (-1), .int .i64 1, .int .i64 0] 49 (0, 0)) := heap_at (by simp)
    exact World.news_of_block hb
  · exact one_pp _
  · simp
  intro g cap w1 hown hgrow hat hlt
  have HL : Hid (w1.cell? ⟨x1.heap.size, 3, none⟩ = some (.slice none 0 0) ∧ w1.frozen? ⟨x1.heap.size, 3, none⟩ = false ∧ LpI x1 (w1.setCell ⟨x1.heap.size, 3, none⟩ (.slice (some ⟨g, 0, none⟩) 1 cap)) x1.heap.size k (x1.heap.size + 1) 0 (.slice (some ⟨g, 0, none⟩) 1 cap) (loopL n k (x1.heap.size + 1) 0 1)) := by
    have st : LpI x1 ((x1.alloc (.cells #[.int .i64 0, .int .i64 3, .slice none 0 0, .slice none 0 0] 39)).alloc (.cells #[.int .u8 20, .int .u8 0, .int .i64 0, .int .i64 0, .int .i64 0, .int .i64 3, .slice none 0 0] 57)) x1.heap.size k (x1.heap.size + 1) 0 (.slice none 0 0) [] := ⟨((Q.refl x1).alloc _).alloc _, Nat.le_refl _, heap_old _ (heap_at rfl), ⟨rfl, Or.inl ⟨rfl, rfl⟩⟩, ⟨by omega, heap_at (by simp), fun e => by cases e⟩, fun h => by simp at h⟩
    exact st.app (p := pFirst (x1.heap.size + 1)) (bk' := 0) ((Q.refl _).alloc _) hgrow hown (by simpa using hat) (fun h => by simp at h; omega)
  obtain ⟨t1, t2, -⟩ := HL.out
  have HL1 := hideIt HL.out.2.2
  generalize hbf : x1.heap.size = bf at *
  have HBF := hideIt hbf
  clear hown hgrow hat hlt HL hbf
  go_wp2_with (fail)
  clear t1 t2
  generalize w1.setCell ⟨bf, 3, none⟩ (.slice (some ⟨g, 0, none⟩) 1 cap) = w2 at *
  have hI64 : (n : Int) ≤ 21 := by omega
  go_loopg [8] (n + 2) (fun kx iv z => ∃ (i bk : Nat) (v : Value), iv = .int .i64 (i : Int) ∧ 1 ≤ i ∧ i ≤ n + 1 ∧ n + 1 - i + 1 ≤ kx ∧ Hid (LpI x1 z bf k (bf + 1) bk v (loopL n k (bf + 1) bk i)))
  case atStart => exact ⟨1, 0, _, rfl, by omega, by omega, by omega, HL1⟩
  case round =>
    obtain ⟨i, bk, v, rfl, hi1, hi2, hik, HI⟩ := hrel
    generalize wr = z at *
    by_cases hil : i ≤ n
    · have hil2 : (i : Int) ≤ (n : Int) := by omega
      have HLL := hideIt (loopL_len n k (bf + 1) bk i)
      have hrow := HI.out.row
      rw [HLL.out] at hrow
      obtain ⟨va, vc, rfl⟩ := own_form hrow
      clear hrow
      have bfz : bf < z.heap.size := (Array.getElem?_eq_some_iff.1 HI.out.box).1
      obtain ⟨c0, c1, c2, c3⟩ := HI.out.cells
      have c3' := fun (o : Obj) => cell_keep ((Q.refl z).alloc o) c3
      have c3'' := fun (o o' : Obj) => cell_keep (((Q.refl z).alloc o).alloc o') c3
      have c3''' := fun (o o' o3 : Obj) => cell_keep ((((Q.refl z).alloc o).alloc o').alloc o3) c3
      have HROW : Hid (z.ownsRow (bf + 1) 49 5 (.slice va i vc) i ((loopL n k (bf + 1) bk i).flatMap PP.cells)) := by
        show z.ownsRow (bf + 1) 49 5 (.slice va i vc) i ((loopL n k (bf + 1) bk i).flatMap PP.cells)
        have := HI.out.row
        rw [HLL.out] at this
        exact this
      have HAPP : Hid (∀ (p : PP) (Z w3 : World) (bk' g2 cap2 : Nat), Q z Z → Z.grownBy w3 (Value.slice va i vc).ownBlock → w3.ownsRow (bf + 1) 49 5 (.slice (some ⟨g2, 0, none⟩) (i + 1) cap2) (i + 1) ((loopL n k (bf + 1) bk i).flatMap PP.cells ++ p.cells) → ((Value.slice va i vc).ownBlock = some g2 ∨ g2 = Z.heap.size) → (k < (loopL n k (bf + 1) bk i).length + 1 → bf < bk' ∧ Z.heap[bk']? = some (blkI lpIk) ∧ (Value.slice va i vc).ownBlock ≠ some bk') → w3.cell? ⟨bf, 3, none⟩ = some (.slice va i vc) ∧ w3.frozen? ⟨bf, 3, none⟩ = false ∧ LpI x1 (w3.setCell ⟨bf, 3, none⟩ (.slice (some ⟨g2, 0, none⟩) (i + 1) cap2)) bf k (bf + 1) bk' (.slice (some ⟨g2, 0, none⟩) (i + 1) cap2) (loopL n k (bf + 1) bk i ++ [p])) := fun p Z w3 bk' g2 cap2 q hg ho ha hk3 => by
        have h := HI.out.app (p := p) (bk' := bk') (g := g2) (cap := cap2) q hg (by rw [HLL.out]; exact ho) ha hk3
        rw [HLL.out] at h
        exact h
      have HM := hideIt (show i + 1 ≤ maxLen by unfold maxLen; omega)
      have HM2 := hideIt (show (i + 1) * 56 ≤ 140737488355328 by omega)
      clear c0 c1 c2
      by_cases hik' : i = k
      · subst hik'
        by_cases hin : i = n
        · subst hin
          have EP : Hid (loopL i i (bf + 1) (z.heap.size + 1) (i + 1) = loopL i i (bf + 1) bk i ++ [(⟨lpIk, false, 2, 1, ((i : Int) + 1), some ⟨z.heap.size + 1, 0, none⟩, 2⟩ : PP)]) := by
            show loopL i i (bf + 1) (z.heap.size + 1) (i + 1) = loopL i i (bf + 1) bk i ++ [(⟨lpIk, false, 2, 1, ((i : Int) + 1), some ⟨z.heap.size + 1, 0, none⟩, 2⟩ : PP)]
            rw [loopL_snoc, loopP_mid (by omega) (by omega), loopL_far (bk' := bk) (by omega)]
            unfold pMid
            rw [if_pos rfl, if_pos rfl, if_pos rfl, if_pos rfl, if_pos rfl, if_pos rfl]
          have HKN : Hid (∀ Z : World, Z.heap[z.heap.size + 1]? = some (blkI lpIk) → i < (loopL i i (bf + 1) bk i).length + 1 → bf < z.heap.size + 1 ∧ Z.heap[z.heap.size + 1]? = some (blkI lpIk) ∧ (Value.slice va i vc).ownBlock ≠ some (z.heap.size + 1)) := fun Z hZ _ => ⟨by omega, hZ, fun e => by have := (HROW.out.lt _ e).2; omega⟩
          go_wp2_with (first
            | (at_builtin; refine wpList_append_lies _ rfl _ _ 37 rfl (bf + 1) 49 i0 (.agg #[.slice none 0 0, .bool false, .int .i64 0, .int .i64 0, .int .i64 0]) 5 56 Tryd.underlying37 HTI.out.1 HTI.out.2.1 HTI.out.2.2.1 HTI.out.2.2.2 rfl (by decide) (.slice va i vc) i ((loopL i i (bf + 1) bk i).flatMap PP.cells) rfl (row_q HROW.out (fun b hb => ((((Q.refl z).alloc _).alloc _).alloc _).block b (HROW.out.lt b hb).2)) ⟨z.heap.size + 2, 0, none⟩ 1 1 [.slice (some ⟨z.heap.size + 1, 0, none⟩) 2 2, .bool false, .int .i64 2, .int .i64 1, .int .i64 ((i : Int) + 1)] rfl rfl ?_ (one_pp (⟨lpIk, false, 2, 1, ((i : Int) + 1), some ⟨z.heap.size + 1, 0, none⟩, 2⟩ : PP)) (by decide) HM.out HM2.out ?_ _ rfl ?_)
            | fail)
          · exact World.news_of_block (heap_at (by simp))
          · simp
            omega
          intro g2 cap2 w3 hown hgrow hat hlt
          have HL := hideIt (HAPP.out (⟨lpIk, false, 2, 1, ((i : Int) + 1), some ⟨z.heap.size + 1, 0, none⟩, 2⟩ : PP) _ w3 (z.heap.size + 1) g2 cap2 ((((Q.refl z).alloc _).alloc _).alloc _) hgrow hown (by simpa using hat) (fun h => HKN.out _ (heap_old _ (heap_at (by simp))) h))
          obtain ⟨t1, t2, -⟩ := HL.out
          clear hown hgrow hat hlt
          go_wp2_with (fail)
          go_roundg (i + 1 - (i + 1) + 1)
          case measure => omega
          case rel => exact ⟨i + 1, (z.heap.size + 1), _, by first | rfl | go_num, by omega, by omega, Nat.le_refl _, hideIt (by rw [EP.out]; exact HL.out.2.2)⟩
        · have hin2 : ((i : Int) == (n : Int)) = false := by rw [beq_eq_false_iff_ne]; omega
          have hin3 : ¬ (i : Int) = (n : Int) := by omega
          have EP : Hid (loopL n i (bf + 1) (z.heap.size + 1) (i + 1) = loopL n i (bf + 1) bk i ++ [(⟨lpIk, false, (-1), ((i : Int) + 1), 0, some ⟨z.heap.size + 1, 0, none⟩, 2⟩ : PP)]) := by
            show loopL n i (bf + 1) (z.heap.size + 1) (i + 1) = loopL n i (bf + 1) bk i ++ [(⟨lpIk, false, (-1), ((i : Int) + 1), 0, some ⟨z.heap.size + 1, 0, none⟩, 2⟩ : PP)]
            rw [loopL_snoc, loopP_mid (by omega) (by omega), loopL_far (bk' := bk) (by omega)]
            unfold pMid
            rw [if_pos rfl, if_neg hin, if_neg hin, if_neg hin, if_pos rfl, if_pos rfl]
          have HKN : Hid (∀ Z : World, Z.heap[z.heap.size + 1]? = some (blkI lpIk) → i < (loopL n i (bf + 1) bk i).length + 1 → bf < z.heap.size + 1 ∧ Z.heap[z.heap.size + 1]? = some (blkI lpIk) ∧ (Value.slice va i vc).ownBlock ≠ some (z.heap.size + 1)) := fun Z hZ _ => ⟨by omega, hZ, fun e => by have := (HROW.out.lt _ e).2; omega⟩
          go_wp2_with (first
            | (at_builtin; refine wpList_append_lies _ rfl _ _ 37 rfl (bf + 1) 49 i0 (.agg #[.slice none 0 0, .bool false, .int .i64 0, .int .i64 0, .int .i64 0]) 5 56 Tryd.underlying37 HTI.out.1 HTI.out.2.1 HTI.out.2.2.1 HTI.out.2.2.2 rfl (by decide) (.slice va i vc) i ((loopL n i (bf + 1) bk i).flatMap PP.cells) rfl (row_q HROW.out (fun b hb => ((((Q.refl z).alloc _).alloc _).alloc _).block b (HROW.out.lt b hb).2)) ⟨z.heap.size + 2, 0, none⟩ 1 1 [.slice (some ⟨z.heap.size + 1, 0, none⟩) 2 2, .bool false, .int .i64 (-1), .int .i64 ((i : Int) + 1), .int .i64 0] rfl rfl ?_ (one_pp (⟨lpIk, false, (-1), ((i : Int) + 1), 0, some ⟨z.heap.size + 1, 0, none⟩, 2⟩ : PP)) (by decide) HM.out HM2.out ?_ _ rfl ?_)
            | fail)
          · exact World.news_of_block (heap_at (by simp))
          · simp
            omega
          intro g2 cap2 w3 hown hgrow hat hlt
          have HL := hideIt (HAPP.out (⟨lpIk, false, (-1), ((i : Int) + 1), 0, some ⟨z.heap.size + 1, 0, none⟩, 2⟩ : PP) _ w3 (z.heap.size + 1) g2 cap2 ((((Q.refl z).alloc _).alloc _).alloc _) hgrow hown (by simpa using hat) (fun h => HKN.out _ (heap_old _ (heap_at (by simp))) h))
          obtain ⟨t1, t2, -⟩ := HL.out
          clear hown hgrow hat hlt
          go_wp2_with (fail)
          go_roundg (n + 1 - (i + 1) + 1)
          case measure => omega
          case rel => exact ⟨i + 1, (z.heap.size + 1), _, by first | rfl | go_num, by omega, by omega, Nat.le_refl _, hideIt (by rw [EP.out]; exact HL.out.2.2)⟩
      · have hik2 : ((i : Int) == (k : Int)) = false := by rw [beq_eq_false_iff_ne]; omega
        have hik3 : ¬ (i : Int) = (k : Int) := by omega
        by_cases hin : i = n
        · subst hin
          have EP : Hid (loopL i k (bf + 1) bk (i + 1) = loopL i k (bf + 1) bk i ++ [(⟨[], false, 2, 1, ((i : Int) + 1), none, 0⟩ : PP)]) := by
            show loopL i k (bf + 1) bk (i + 1) = loopL i k (bf + 1) bk i ++ [(⟨[], false, 2, 1, ((i : Int) + 1), none, 0⟩ : PP)]
            rw [loopL_snoc, loopP_mid (by omega) (by omega)]
            unfold pMid
            rw [if_neg hik', if_pos rfl, if_pos rfl, if_pos rfl, if_neg hik', if_neg hik']
          have HKN : Hid (∀ Z : World, Q z Z → k < (loopL i k (bf + 1) bk i).length + 1 → bf < bk ∧ Z.heap[bk]? = some (blkI lpIk) ∧ (Value.slice va i vc).ownBlock ≠ some bk) := fun Z q h => by
            obtain ⟨h1, h2, h3⟩ := HI.out.hk (by rw [HLL.out] at h ⊢; omega)
            exact ⟨h1, (q.block bk (Array.getElem?_eq_some_iff.1 h2).1).trans h2, h3⟩
          go_wp2_with (first
            | (at_builtin; refine wpList_append_lies _ rfl _ _ 37 rfl (bf + 1) 49 i0 (.agg #[.slice none 0 0, .bool false, .int .i64 0, .int .i64 0, .int .i64 0]) 5 56 Tryd.underlying37 HTI.out.1 HTI.out.2.1 HTI.out.2.2.1 HTI.out.2.2.2 rfl (by decide) (.slice va i vc) i ((loopL i k (bf + 1) bk i).flatMap PP.cells) rfl (row_q HROW.out (fun b hb => (((Q.refl z).alloc _).alloc _).block b (HROW.out.lt b hb).2)) ⟨z.heap.size + 1, 0, none⟩ 1 1 [.slice none 0 0, .bool false, .int .i64 2, .int .i64 1, .int .i64 ((i : Int) + 1)] rfl rfl ?_ (one_pp (⟨[], false, 2, 1, ((i : Int) + 1), none, 0⟩ : PP)) (by decide) HM.out HM2.out ?_ _ rfl ?_)
            | fail)
          · exact World.news_of_block (heap_at (by simp))
          · simp
            omega
          intro g2 cap2 w3 hown hgrow hat hlt
          have HL := hideIt (HAPP.out (⟨[], false, 2, 1, ((i : Int) + 1), none, 0⟩ : PP) _ w3 bk g2 cap2 (((Q.refl z).alloc _).alloc _) hgrow hown (by simpa using hat) (fun h => HKN.out _ (((Q.refl z).alloc _).alloc _) h))
          obtain ⟨t1, t2, -⟩ := HL.out
          clear hown hgrow hat hlt
          go_wp2_with (fail)
          go_roundg (i + 1 - (i + 1) + 1)
          case measure => omega
          case rel => exact ⟨i + 1, bk, _, by first | rfl | go_num, by omega, by omega, Nat.le_refl _, hideIt (by rw [EP.out]; exact HL.out.2.2)⟩
        · have hin2 : ((i : Int) == (n : Int)) = false := by rw [beq_eq_false_iff_ne]; omega
          have hin3 : ¬ (i : Int) = (n : Int) := by omega
          have EP : Hid (loopL n k (bf + 1) bk (i + 1) = loopL n k (bf + 1) bk i ++ [(⟨[], false, (-1), ((i : Int) + 1), 0, none, 0⟩ : PP)]) := by
            show loopL n k (bf + 1) bk (i + 1) = loopL n k (bf + 1) bk i ++ [(⟨[], false, (-1), ((i : Int) + 1), 0, none, 0⟩ : PP)]
            rw [loopL_snoc, loopP_mid (by omega) (by omega)]
            unfold pMid
            rw [if_neg hik', if_neg hin, if_neg hin, if_neg hin, if_neg hik', if_neg hik']
          have HKN : Hid (∀ Z : World, Q z Z → k < (loopL n k (bf + 1) bk i).length + 1 → bf < bk ∧ Z.heap[bk]? = some (blkI lpIk) ∧ (Value.slice va i vc).ownBlock ≠ some bk) := fun Z q h => by
            obtain ⟨h1, h2, h3⟩ := HI.out.hk (by rw [HLL.out] at h ⊢; omega)
            exact ⟨h1, (q.block bk (Array.getElem?_eq_some_iff.1 h2).1).trans h2, h3⟩
          go_wp2_with (first
            | (at_builtin; refine wpList_append_lies _ rfl _ _ 37 rfl (bf + 1) 49 i0 (.agg #[.slice none 0 0, .bool false, .int .i64 0, .int .i64 0, .int .i64 0]) 5 56 Tryd.underlying37 HTI.out.1 HTI.out.2.1 HTI.out.2.2.1 HTI.out.2.2.2 rfl (by decide) (.slice va i vc) i ((loopL n k (bf + 1) bk i).flatMap PP.cells) rfl (row_q HROW.out (fun b hb => (((Q.refl z).alloc _).alloc _).block b (HROW.out.lt b hb).2)) ⟨z.heap.size + 1, 0, none⟩ 1 1 [.slice none 0 0, .bool false, .int .i64 (-1), .int .i64 ((i : Int) + 1), .int .i64 0] rfl rfl ?_ (one_pp (⟨[], false, (-1), ((i : Int) + 1), 0, none, 0⟩ : PP)) (by decide) HM.out HM2.out ?_ _ rfl ?_)
            | fail)
          · exact World.news_of_block (heap_at (by simp))
          · simp
            omega
          intro g2 cap2 w3 hown hgrow hat hlt
          have HL := hideIt (HAPP.out (⟨[], false, (-1), ((i : Int) + 1), 0, none, 0⟩ : PP) _ w3 bk g2 cap2 (((Q.refl z).alloc _).alloc _) hgrow hown (by simpa using hat) (fun h => HKN.out _ (((Q.refl z).alloc _).alloc _) h))
          obtain ⟨t1, t2, -⟩ := HL.out
          clear hown hgrow hat hlt
          go_wp2_with (fail)
          go_roundg (n + 1 - (i + 1) + 1)
          case measure => omega
          case rel => exact ⟨i + 1, bk, _, by first | rfl | go_num, by omega, by omega, Nat.le_refl _, hideIt (by rw [EP.out]; exact HL.out.2.2)⟩
    · obtain rfl : i = n + 1 := by omega
      have hil2 : ¬ ((n + 1 : Nat) : Int) ≤ (n : Int) := by omega
      have hil3 : ¬ ((n : Int) + 1) ≤ (n : Int) := by omega
      have HLL := hideIt (loopL_len n k (bf + 1) bk (n + 1))
      have hrow := HI.out.row
      rw [HLL.out] at hrow
      obtain ⟨va, vc, rfl⟩ := own_form hrow
      have bfz : bf < z.heap.size := (Array.getElem?_eq_some_iff.1 HI.out.box).1
      obtain ⟨c0, c1, c2, c3⟩ := HI.out.cells
      have c3' := fun (o : Obj) => cell_keep ((Q.refl z).alloc o) c3
      have HROW := hideIt hrow
      have HM := hideIt (show n + 1 + 1 ≤ maxLen by unfold maxLen; omega)
      have HM2 := hideIt (show (n + 1 + 1) * 56 ≤ 140737488355328 by omega)
      have HAPP : Hid (∀ (Z w3 : World) (g2 cap2 : Nat), Q z Z → Z.grownBy w3 (Value.slice va (n + 1) vc).ownBlock → w3.ownsRow (bf + 1) 49 5 (.slice (some ⟨g2, 0, none⟩) (n + 1 + 1) cap2) (n + 1 + 1) ((loopL n k (bf + 1) bk (n + 1)).flatMap PP.cells ++ pLast.cells) → ((Value.slice va (n + 1) vc).ownBlock = some g2 ∨ g2 = Z.heap.size) → w3.cell? ⟨bf, 3, none⟩ = some (.slice va (n + 1) vc) ∧ w3.frozen? ⟨bf, 3, none⟩ = false ∧ LpI x1 (w3.setCell ⟨bf, 3, none⟩ (.slice (some ⟨g2, 0, none⟩) (n + 2) cap2)) bf k (bf + 1) bk (.slice (some ⟨g2, 0, none⟩) (n + 2) cap2) (lL n k (bf + 1) bk)) := fun Z w3 g2 cap2 q hg ho ha => by
        have h := HI.out.app (p := pLast) (bk' := bk) (g := g2) (cap := cap2) q hg (by rw [HLL.out]; exact ho) ha (fun h => by
          obtain ⟨h1, h2, h3⟩ := HI.out.hk (by rw [HLL.out] at h ⊢; omega)
          exact ⟨h1, (q.block bk (Array.getElem?_eq_some_iff.1 h2).1).trans h2, h3⟩)
        rw [HLL.out] at h
        have e : lL n k (bf + 1) bk = loopL n k (bf + 1) bk (n + 1) ++ [pLast] := by
          show loopL n k (bf + 1) bk (n + 1 + 1) = _
          rw [loopL_snoc, loopP_last]
        rw [e]
        exact h
      clear hrow c0 c1 c2
      go_wp2_with (first
        | (at_builtin; refine wpList_append_lies _ rfl _ _ 37 rfl (bf + 1) 49 i0 (.agg #[.slice none 0 0, .bool false, .int .i64 0, .int .i64 0, .int .i64 0]) 5 56 Tryd.underlying37 HTI.out.1 HTI.out.2.1 HTI.out.2.2.1 HTI.out.2.2.2 rfl (by decide) (.slice va (n + 1) vc) (n + 1) ((loopL n k (bf + 1) bk (n + 1)).flatMap PP.cells) rfl (row_q HROW.out (fun b hb => ((Q.refl z).alloc _).block b (HROW.out.lt b hb).2)) ⟨z.heap.size, 0, none⟩ 1 1 [.slice none 0 0, .bool true, .int .i64 2, .int .i64 0, .int .i64 0] rfl rfl ?_ (one_pp pLast) (by decide) HM.out HM2.out ?_ _ rfl ?_)
        | fail)
      · omega
      intro g2 cap2 w3 hown hgrow hat hlt
      have HL := hideIt (HAPP.out _ w3 g2 cap2 ((Q.refl z).alloc _) hgrow hown (by simpa using hat))
      obtain ⟨t1, t2, -⟩ := HL.out
      have HL4 := hideIt HL.out.2.2
      obtain ⟨d0, d1, d2, d3⟩ := HL4.out.cells
      generalize hz4 : w3.setCell ⟨bf, 3, none⟩ (.slice (some ⟨g2, 0, none⟩) (n + 2) cap2) = z4 at *
      have hz4' : w3.setCell ⟨bf, 3, none⟩ (.slice (some ⟨g2, 0, none⟩) (n + 1 + 1) cap2) = z4 := hz4
      obtain ⟨Y, hY⟩ : ∃ Y, z4.alloc (.cells #[.int .i64 0, .int .i64 3, .slice none 0 0, .slice (some ⟨g2, 0, none⟩) (n + 2) cap2] 39) = Y := ⟨_, rfl⟩
      obtain ⟨Y2, hY2⟩ : ∃ Y2, Y.alloc (.cells #[.slice none 0 0, .slice none 0 0, .slice (some ⟨z4.heap.size, 0, none⟩) 1 1] 26) = Y2 := ⟨_, rfl⟩
      have q42 : Q z4 Y2 := by rw [← hY2, ← hY]; exact ((Q.refl z4).alloc _).alloc _
      have hys : Y.heap.size = z4.heap.size + 1 := by rw [← hY]; simp
      have hgb : Y2.heap[z4.heap.size]? = some (.cells ([loF n k (bf + 1) bk (some ⟨g2, 0, none⟩) cap2].flatMap PF.cells).toArray 39 (0, 0)) := by
        have e : ([loF n k (bf + 1) bk (some ⟨g2, 0, none⟩) cap2].flatMap PF.cells).toArray = #[.int .i64 0, .int .i64 3, .slice none 0 0, .slice (some ⟨g2, 0, none⟩) (n + 2) cap2] := by
          simp [loF, PF.cells, loopL_len]
        rw [e, ← hY2, ← hY]
        exact heap_old _ (heap_at rfl)
      have bc : Y2.heap[z4.heap.size + 1]? = some (.cells #[.slice none 0 0, .slice none 0 0, .slice (some ⟨z4.heap.size, 0, none⟩) 1 1] 26 (0, 0)) := by
        rw [← hY2]
        exact heap_at (by rw [hys])
      have e0 : Y2.cell? ⟨z4.heap.size + 1, 0, none⟩ = some (.slice none 0 0) := (cell_of_block bc 0).trans rfl
      have e1 : Y2.cell? ⟨z4.heap.size + 1, 1, none⟩ = some (.slice none 0 0) := (cell_of_block bc 1).trans rfl
      have e2 : Y2.cell? ⟨z4.heap.size + 1, 2, none⟩ = some (.slice (some ⟨z4.heap.size, 0, none⟩) 1 1) := (cell_of_block bc 2).trans rfl
      have CP : Hid (Calls Tryd.prog 10 #[.agg #[.slice none 0 0, .slice none 0 0, .slice (some ⟨z4.heap.size, 0, none⟩) 1 1], .int .i64 0] Y2 fun e w' => ∃ bi bo : Nat, e = .returned (.tuple #[.slice (some ⟨bi, 0, none⟩) (n + 2) (n + 2), .slice (some ⟨bo, 0, none⟩) (n + 2) (n + 2), .int .i64 0]) ∧ Q Y2 w' ∧ (∀ j, j < n + 2 → ∃ v, w'.cell? ⟨bi, j, none⟩ = some v ∧ SetIs w' v (liB (lL n k (bf + 1) bk) j) 3) ∧ (∀ j, j < n + 2 → ∃ v, w'.cell? ⟨bo, j, none⟩ = some v ∧ SetIs w' v (ouB (lL n k (bf + 1) bk) j) 3)) := by
        have hlen : (loF n k (bf + 1) bk (some ⟨g2, 0, none⟩) cap2).parts.length = n + 2 := loopL_len _ _ _ _ _
        have h := parts_is Y2 (loC n k (bf + 1) bk (some ⟨g2, 0, none⟩) cap2 z4.heap.size) (loC_ok (by omega) (by omega) HL4.out q42 hgb) (loC_valid _ _ _ _ _ _ _ (by omega) (by omega)) 0 (loF n k (bf + 1) bk (some ⟨g2, 0, none⟩) cap2) rfl (by have := (loC_N n k (bf + 1) bk (some ⟨g2, 0, none⟩) cap2 z4.heap.size).1; omega)
        refine h.mono ?_
        rintro e w' ⟨bi, bo, rfl, q, h1, h2⟩
        rw [hlen] at h1 h2 ⊢
        exact ⟨bi, bo, rfl, q, h1, h2⟩
      have HQ2 : Hid (Q x1 Y2) := HL4.out.q.trans q42
      have f00 : liB (lL n k (bf + 1) bk) 0 0 = false := by
        cases h : liB (lL n k (bf + 1) bk) 0 0 with
        | false => rfl
        | true => exact absurd ((liB_iff _ _ _).1 h) not_first
      have f02 : liB (lL n k (bf + 1) bk) 0 2 = true := (liB_iff _ _ _).2 (live_two (by omega) 0 (by omega))
      have fn0 : liB (lL n k (bf + 1) bk) (n + 1) 0 = false := by
        cases h : liB (lL n k (bf + 1) bk) (n + 1) 0 with
        | false => rfl
        | true => exact absurd ((liB_iff _ _ _).1 h) not_last
      have gn2 : ouB (lL n k (bf + 1) bk) (n + 1) 2 = false := by
        cases h : ouB (lL n k (bf + 1) bk) (n + 1) 2 with
        | false => rfl
        | true => exact absurd ((ouB_iff _ _ _).1 h) not_out
      have HIN : Hid (∀ j, 1 ≤ j → j ≤ n → liB (lL n k (bf + 1) bk) j 0 = true ∧ ouB (lL n k (bf + 1) bk) j 0 = true ∧ liB (lL n k (bf + 1) bk) j 1 = false ∧ liB (lL n k (bf + 1) bk) j 2 = true) := fun j h1 h2 => by
        refine ⟨(liB_iff _ _ _).2 (live_zero (by omega) (by omega) j h1 h2), (ouB_iff _ _ _).2 (out_zero (by omega) (by omega) j h1 h2), ?_, (liB_iff _ _ _).2 (live_two (by omega) j h2)⟩
        cases h : liB (lL n k (bf + 1) bk) j 1 with
        | false => rfl
        | true => exact absurd ((liB_iff _ _ _).1 h) not_one
      have HF := hideIt (And.intro f00 (And.intro f02 (And.intro fn0 gn2)))
      have hz5 : Y.heap.size = z4.heap.size + 1 := hys
      generalize lL n k (bf + 1) bk = lst at *
      clear hown hgrow hat hlt HL hz4 q42 hgb bc f00 f02 fn0 gn2 hys HAPP
      go_wp2_with (first
        | (go_at_call 10; refine Calls.mono CP.out ?_; rintro e y5 ⟨bi, bo, rfl, q1, h1, h2⟩; have HQ5 := hideIt (HQ2.out.trans q1); have H1 := hideIt h1; have H2 := hideIt h2; obtain ⟨v0, k0, s0⟩ := h1 0 (by omega); obtain ⟨aa, an, ac, rfl⟩ := s0.form; obtain ⟨v1, k1, s1⟩ := h1 (n + 1) (by omega); obtain ⟨ba, bn, bc, rfl⟩ := s1.form; obtain ⟨v2, k2, s2⟩ := h2 (n + 1) (by omega); obtain ⟨ca, cn, cc, rfl⟩ := s2.form; have S0 := hideIt s0; have S1 := hideIt s1; have S2 := hideIt s2; have CC : Hid (∀ Y, Q y5 Y → Y.cell? ⟨bi, 0, none⟩ = some (.slice aa an ac) ∧ Y.cell? ⟨bi, n + 1, none⟩ = some (.slice ba bn bc) ∧ Y.cell? ⟨bo, n + 1, none⟩ = some (.slice ca cn cc)) := (fun Y q => ⟨cell_keep q k0, cell_keep q k1, cell_keep q k2⟩); clear q1 h1 h2 s0 s1 s2)
        | fail)
      have C00 : Hid (∀ Y, Q y5 Y → Calls Tryd.prog 17 #[.agg #[.slice aa an ac], .int .i64 0] Y fun e w' => e = .returned (.bool false) ∧ Q Y w') := fun Y q => by
        have h := set_has (S0.out.keep q) 0 (by unfold I64; omega)
        rw [show (0 : Int).toNat = 0 from rfl, HF.out.1, Bool.and_false] at h
        exact h
      have C02 : Hid (∀ Y, Q y5 Y → Calls Tryd.prog 17 #[.agg #[.slice aa an ac], .int .i64 2] Y fun e w' => e = .returned (.bool true) ∧ Q Y w') := fun Y q => by
        have h := set_has (S0.out.keep q) 2 (by unfold I64; omega)
        rw [show (2 : Int).toNat = 2 from rfl, HF.out.2.1] at h
        exact h
      have CN0 : Hid (∀ Y, Q y5 Y → Calls Tryd.prog 17 #[.agg #[.slice ba bn bc], .int .i64 0] Y fun e w' => e = .returned (.bool false) ∧ Q Y w') := fun Y q => by
        have h := set_has (S1.out.keep q) 0 (by unfold I64; omega)
        rw [show (0 : Int).toNat = 0 from rfl, HF.out.2.2.1, Bool.and_false] at h
        exact h
      have GN2 : Hid (∀ Y, Q y5 Y → Calls Tryd.prog 17 #[.agg #[.slice ca cn cc], .int .i64 2] Y fun e w' => e = .returned (.bool false) ∧ Q Y w') := fun Y q => by
        have h := set_has (S2.out.keep q) 2 (by unfold I64; omega)
        rw [show (2 : Int).toNat = 2 from rfl, HF.out.2.2.2, Bool.and_false] at h
        exact h
      refine Calls.mono (C00.out _ (Q.refl _)) ?_
      rintro e y6 ⟨rfl, q1⟩
      have Qy6 : Hid (Q y5 y6) := Q.trans (Q.refl _) q1
      clear q1 k0 k1 k2
      obtain ⟨k0, k1, k2⟩ := CC.out y6 Qy6.out
      go_wp2_with (fail)
      refine Calls.mono (C02.out _ Qy6.out) ?_
      rintro e y7 ⟨rfl, q1⟩
      have Qy7 : Hid (Q y5 y7) := (Qy6.out).trans q1
      clear q1 k0 k1 k2
      obtain ⟨k0, k1, k2⟩ := CC.out y7 Qy7.out
      go_wp2_with (fail)
      refine Calls.mono (CN0.out _ Qy7.out) ?_
      rintro e y8 ⟨rfl, q1⟩
      have Qy8 : Hid (Q y5 y8) := (Qy7.out).trans q1
      clear q1 k0 k1 k2
      obtain ⟨k0, k1, k2⟩ := CC.out y8 Qy8.out
      go_wp2_with (fail)
      refine Calls.mono (GN2.out _ Qy8.out) ?_
      rintro e y9 ⟨rfl, q1⟩
      have Qy9 : Hid (Q y5 y9) := (Qy8.out).trans q1
      clear q1 k0 k1 k2
      obtain ⟨k0, k1, k2⟩ := CC.out y9 Qy9.out
      go_wp2_with (fail)
      clear k0 k1 k2 C00 C02 CN0 GN2 CC S0 S1 S2
      go_loopg [14] (n + 2) (fun kx iv z' => ∃ j : Nat, iv = .int .i64 (j : Int) ∧ 1 ≤ j ∧ j ≤ n + 1 ∧ n + 1 - j + 1 ≤ kx ∧ Hid (Q y5 z'))
      case atStart => exact ⟨1, rfl, by omega, by omega, by omega, Qy9⟩
      case round =>
        obtain ⟨j, rfl, hj1, hj2, hjk, HQ⟩ := hrel
        generalize wr = u at *
        by_cases hjl : j ≤ n
        · have hjl2 : (j : Int) ≤ (n : Int) := by omega
          have hjl3 : (j : Int) < (n : Int) + 2 := by omega
          obtain ⟨v0, k0, s0⟩ := H1.out j (by omega)
          obtain ⟨aa, an, ac, rfl⟩ := s0.form
          obtain ⟨v1, k1, s1⟩ := H2.out j (by omega)
          obtain ⟨ba, bn, bc, rfl⟩ := s1.form
          obtain ⟨m1, m2, m3, m4⟩ := HIN.out j hj1 hjl
          have CC : Hid (∀ Y, Q u Y → Y.cell? ⟨bi, j, none⟩ = some (.slice aa an ac) ∧ Y.cell? ⟨bo, j, none⟩ = some (.slice ba bn bc)) := fun Y q => ⟨cell_keep (HQ.out.trans q) k0, cell_keep (HQ.out.trans q) k1⟩
          have D0 : Hid (∀ Y, Q u Y → Calls Tryd.prog 17 #[.agg #[.slice aa an ac], .int .i64 0] Y fun e w' => e = .returned (.bool true) ∧ Q Y w') := fun Y q => by
            have h := set_has (s0.keep (HQ.out.trans q)) 0 (by unfold I64; omega)
            rw [show (0 : Int).toNat = 0 from rfl, m1] at h
            exact h
          have E0 : Hid (∀ Y, Q u Y → Calls Tryd.prog 17 #[.agg #[.slice ba bn bc], .int .i64 0] Y fun e w' => e = .returned (.bool true) ∧ Q Y w') := fun Y q => by
            have h := set_has (s1.keep (HQ.out.trans q)) 0 (by unfold I64; omega)
            rw [show (0 : Int).toNat = 0 from rfl, m2] at h
            exact h
          have D1 : Hid (∀ Y, Q u Y → Calls Tryd.prog 17 #[.agg #[.slice aa an ac], .int .i64 1] Y fun e w' => e = .returned (.bool false) ∧ Q Y w') := fun Y q => by
            have h := set_has (s0.keep (HQ.out.trans q)) 1 (by unfold I64; omega)
            rw [show (1 : Int).toNat = 1 from rfl, m3, Bool.and_false] at h
            exact h
          have D2 : Hid (∀ Y, Q u Y → Calls Tryd.prog 17 #[.agg #[.slice aa an ac], .int .i64 2] Y fun e w' => e = .returned (.bool true) ∧ Q Y w') := fun Y q => by
            have h := set_has (s0.keep (HQ.out.trans q)) 2 (by unfold I64; omega)
            rw [show (2 : Int).toNat = 2 from rfl, m4] at h
            exact h
          clear k0 k1 s0 s1 m1 m2 m3 m4
          obtain ⟨k0, k1⟩ := CC.out u (Q.refl _)
          go_wp2_with (fail)
          refine Calls.mono (D0.out _ (Q.refl _)) ?_
          rintro e r1 ⟨rfl, q1⟩
          have Qr1 : Hid (Q u r1) := Q.trans (Q.refl _) q1
          clear q1 k0 k1
          obtain ⟨k0, k1⟩ := CC.out r1 Qr1.out
          go_wp2_with (fail)
          refine Calls.mono (E0.out _ (Qr1.out)) ?_
          rintro e r2 ⟨rfl, q1⟩
          have Qr2 : Hid (Q u r2) := Q.trans (Qr1.out) q1
          clear q1 k0 k1
          obtain ⟨k0, k1⟩ := CC.out r2 Qr2.out
          go_wp2_with (fail)
          refine Calls.mono (D1.out _ (Qr2.out)) ?_
          rintro e r3 ⟨rfl, q1⟩
          have Qr3 : Hid (Q u r3) := Q.trans (Qr2.out) q1
          clear q1 k0 k1
          obtain ⟨k0, k1⟩ := CC.out r3 Qr3.out
          go_wp2_with (fail)
          refine Calls.mono (D2.out _ (Qr3.out)) ?_
          rintro e r4 ⟨rfl, q1⟩
          have Qr4 : Hid (Q u r4) := Q.trans (Qr3.out) q1
          clear q1 k0 k1
          obtain ⟨k0, k1⟩ := CC.out r4 Qr4.out
          go_wp2_with (fail)
          go_roundg (n + 1 - (j + 1) + 1)
          case measure => omega
          case rel => exact ⟨j + 1, by first | rfl | go_num, by omega, by omega, Nat.le_refl _, hideIt (HQ.out.trans Qr4.out)⟩
        · have hjl2 : ¬ (j : Int) ≤ (n : Int) := by omega
          go_wp2_with (fail)
          go_ret
          exact ⟨rfl, HX.out.trans (HQ5.out.trans HQ.out)⟩

end Go.Proofs.YtkcniahpkcdhoaaDoor.Lv
