/-
 The document's run: whether it is over, a step, a new block, blocks that are kept, where a number leads: contracts over the program; the conditions: a run lies there.
 The document's run: a new block, blocks that are kept, where a number leads: contracts over the program; the conditions: a run lies there.
-/
import Derived.Test.YtphknepblchkdaaKDnB
import Derived.Deep.OwnRows
import Derived.Deep.RegionLaw
import Derived.BigRegion
import Derived.BigQuiet
namespace Go.Proofs.Ytphknepblchkdaa.Dn
open Go.RowKit
set_option linter.unusedVariables false

theorem over_any (w : World) (R : Nat) (t : Int) (sp : Bool) (c6 : w.cell? ⟨R, 6, none⟩ = some (.int .i64 t)) (c7 : w.cell? ⟨R, 7, none⟩ = some (.bool sp)) :
  Calls Try.prog 30 #[.pointer (some ⟨R, 0, none⟩)] w fun e w' => e = .returned (.bool (t != 0 || sp)) ∧ w' = w := by
 by_cases h : t = 0
 ·subst h
  go_enter Try.func30, Try.ntmps30
  go_wp2
  go_ret
  exact ⟨by simp, rfl⟩
 ·have e : (t != 0) = true := by simpa using h
  rw [e, Bool.true_or]
  go_enter Try.func30, Try.ntmps30
  go_wp2
  go_ret
  exact ⟨rfl, rfl⟩

section
variable {w w' w0 : World} {R : Nat} {col : Col} {c : PC} {fuel : Nat} {s : St} {t : Int} {sp : Bool} {lv tv : Value} {gs : List Nat}

theorem DX.cs (h : DX w w0 R col c fuel s t sp lv tv gs) : w.cell? ⟨R, 2, none⟩ = some (.slice c.fa c.fns.length c.fc) ∧ w.cell? ⟨R, 3, none⟩ = some lv ∧ w.cell? ⟨R, 4, none⟩ = some (.int .i64 (fuel : Int)) ∧ w.cell? ⟨R, 5, none⟩ = some (.int .i64 (s.n : Int)) ∧ w.cell? ⟨R, 6, none⟩ = some (.int .i64 t) ∧ w.cell? ⟨R, 7, none⟩ = some (.bool sp) ∧ w.cell? ⟨R, 8, none⟩ = some tv :=
 ⟨cell_blk h.run 2, cell_blk h.run 3, cell_blk h.run 4, cell_blk h.run 5, cell_blk h.run 6, cell_blk h.run 7, cell_blk h.run 8⟩
theorem DX.fz (h : DX w w0 R col c fuel s t sp lv tv gs) (j : Nat) : w.frozen? ⟨R, j, Option.none⟩ = false := free_blk h.run j

theorem over_di (h : DI w w0 R col c fuel s t sp) : Calls Try.prog 30 #[.pointer (some ⟨R, 0, none⟩)] w fun e w' => e = .returned (.bool (t != 0 || sp)) ∧ w' = w := by
 obtain ⟨lv, tv, gs, h⟩ := h
 obtain ⟨-, -, -, -, c6, c7, -⟩ := h.cs
 exact over_any w R t sp c6 c7

theorem step_over (h : DI w w0 R col c fuel s t sp) (ho : t ≠ 0 ∨ sp = true) : Calls Try.prog 55 #[.pointer (some ⟨R, 0, none⟩)] w fun e w' => e = .returned (.bool false) ∧ w' = w := by
 have CO := hideIt (over_di h)
 have e : (t != 0 || sp) = true := by
  rcases ho with q | q
  ·have : (t != 0) = true := by simpa using q
   rw [this]; rfl
  ·rw [q]; simp
 rw [e] at CO
 clear h ho e
 go_enter Try.func55, Try.ntmps55
 go_wp2_with (first | (go_at_call 30; refine CO.out.mono ?_; rintro e x ⟨rfl, rfl⟩) | fail)
 go_ret
 exact ⟨rfl, rfl⟩

theorem DX.spent (h : DX w w0 R col c fuel s t false lv tv gs) (m : Nat) : DX ((w.setCell ⟨R, 7, Option.none⟩ (.bool true)).drewN m) w0 R col c fuel s t true lv tv gs ∧ Ex noX col w col ((w.setCell ⟨R, 7, Option.none⟩ (.bool true)).drewN m) := by
 have := h.setR (w' := (w.setCell ⟨R, 7, Option.none⟩ (.bool true)).drewN m) (n := s.n) (t' := t) (sp' := true) ((set_blk h.run _).trans (by simp)) rfl rfl rfl (by show (w.setCell _ _).heap.size = _; simp) (fun b hb => Below.heap_setCell _ _ _ _ hb) h.nle h.trl h.tb
 exact this
theorem DX.up (h : DX w w0 R col c fuel s t sp lv tv gs) (hn : ¬ s.n = fuel) (m : Nat) : DX ((w.setCell ⟨R, 5, Option.none⟩ (.int .i64 ((s.n : Int) + 1))).drewN m) w0 R col c fuel s.up t sp lv tv gs ∧ Ex noX col w col ((w.setCell ⟨R, 5, Option.none⟩ (.int .i64 ((s.n : Int) + 1))).drewN m) := by
 have h1 := h.nle
 have h2 := h.trl
 exact h.setR (w' := (w.setCell ⟨R, 5, Option.none⟩ (.int .i64 ((s.n : Int) + 1))).drewN m) (n := s.n + 1) (t' := t) (sp' := sp) ((set_blk h.run _).trans (by simp)) rfl rfl rfl (by show (w.setCell _ _).heap.size = _; simp) (fun b hb => Below.heap_setCell _ _ _ _ hb) (by omega) (by omega) h.tb
theorem DX.trap (h : DX w w0 R col c fuel s t sp lv tv gs) {t' : Int} (ht : 0 ≤ t' ∧ t' ≤ 255) (m : Nat) : DX ((w.setCell ⟨R, 6, Option.none⟩ (.int .i64 t')).drewN m) w0 R col c fuel s t' sp lv tv gs ∧ Ex noX col w col ((w.setCell ⟨R, 6, Option.none⟩ (.int .i64 t')).drewN m) :=
 h.setR (w' := (w.setCell ⟨R, 6, Option.none⟩ (.int .i64 t')).drewN m) (n := s.n) (t' := t') (sp' := sp) ((set_blk h.run _).trans (by simp)) rfl rfl rfl (by show (w.setCell _ _).heap.size = _; simp) (fun b hb => Below.heap_setCell _ _ _ _ hb) h.nle h.trl ht

theorem step_end (h : DI w w0 R col c fuel s 0 false) (hn : s.n = fuel) : Calls Try.prog 55 #[.pointer (some ⟨R, 0, none⟩)] w fun e w' => e = .returned (.bool false) ∧ DI w' w0 R col c fuel s 0 true ∧ Ex noX col w col w' := by
 have CO := hideIt (over_di h)
 obtain ⟨lv, tv, gs, h⟩ := h
 have HS := hideIt (fun m => h.spent m)
 obtain ⟨-, -, c4, c5, -, c7, -⟩ := h.cs
 rw [hn] at c5
 have f7 := h.fz 7
 clear h hn
 go_enter Try.func55, Try.ntmps55
 go_wp2_with (first | (go_at_call 30; refine CO.out.mono ?_; rintro e x ⟨rfl, hx⟩; have hx2 := hx.symm; clear hx; subst hx2) | fail)
 go_quiet (fail)
 go_wp2
 go_ret
 exact ⟨rfl, ⟨lv, tv, gs, (HS.out _).1⟩, (HS.out _).2⟩
theorem step_go (h : DI w w0 R col c fuel s 0 false) (hn : ¬ s.n = fuel) (hf : fuel ≤ 8388608) : Calls Try.prog 55 #[.pointer (some ⟨R, 0, none⟩)] w fun e w' => e = .returned (.bool true) ∧ DI w' w0 R col c fuel s.up 0 false ∧ Ex noX col w col w' := by
 have CO := hideIt (over_di h)
 obtain ⟨lv, tv, gs, h⟩ := h
 have HS := hideIt (fun m => h.up hn m)
 obtain ⟨-, -, c4, c5, -, c7, -⟩ := h.cs
 have f5 := h.fz 5
 have hnl := h.nle
 have hb : ((s.n : Int) == (fuel : Int)) = false := by simp; omega
 have hb0 : (0 : Int) ≤ (s.n : Int) := by omega
 have hb1 : (s.n : Int) ≤ 8388608 := by omega
 clear h hn hnl
 generalize hN : (s.n : Int) = N at *
 generalize hF : (fuel : Int) = F at *
 clear hN hF
 go_enter Try.func55, Try.ntmps55
 go_wp2_with (first | (go_at_call 30; refine CO.out.mono ?_; rintro e x ⟨rfl, hx⟩; have hx2 := hx.symm; clear hx; subst hx2) | fail)
 go_quiet (fail)
 go_wp2
 go_ret
 exact ⟨rfl, ⟨lv, tv, gs, (HS.out _).1⟩, (HS.out _).2⟩

/-- How many cells there are. -/
theorem sum_take1 {bs : List Nat} {i n : Nat} (h : bs[i]? = some n) : (bs.take (i + 1)).sum = (bs.take i).sum + n := by
 rw [List.take_add_one, h]; simp
theorem len_sum : ∀ (bs : List Nat), (∀ x ∈ bs, 1 ≤ x) → bs.length ≤ bs.sum
 | [], _ => Nat.le_refl _
 | x :: r, h => by
  have := len_sum r (fun y hy => h y (List.mem_cons_of_mem _ hy))
  have := h x (List.mem_cons_self ..)
  simp; omega
theorem DX.len (h : DX w w0 R col c fuel s t sp lv tv gs) : s.bs.length ≤ 65536 := Nat.le_trans (len_sum _ h.one) h.sum
theorem DX.row (h : DX w w0 R col c fuel s t sp lv tv gs) {i n : Nat} (hi : s.bs[i]? = some n) : ∃ g gl cap, lv = .slice (some ⟨gl, 0, Option.none⟩) s.bs.length cap ∧ gs[i]? = some g ∧ w.cell? ⟨gl, i, Option.none⟩ = some (.slice (some ⟨g, 0, Option.none⟩) n n) ∧ cap ≤ maxLen := by
 have hil := (List.getElem?_eq_some_iff.1 hi).1
 obtain ⟨g, hg⟩ : ∃ g, gs[i]? = some g := ⟨gs[i]'(by rw [h.gl]; exact hil), List.getElem?_eq_getElem (by rw [h.gl]; exact hil)⟩
 obtain ⟨gl, cap, cur, e1, e2, e3, -, e5, -⟩ := row_at h.rows (rowsV_at hg hi)
 exact ⟨g, gl, cap, e1, hg, by rw [cell_blk e2]; exact e3, e5⟩

set_option maxRecDepth 100000 in
set_option maxHeartbeats 1000000 in
theorem total_dx (h : DX w w0 R col c fuel s t sp lv tv gs) : Calls Try.prog 71 #[.pointer (some ⟨R, 3, none⟩)] w fun e w' => e = .returned (.int .i64 ((s.bs.sum : Nat) : Int)) ∧ w' = w := by
 obtain ⟨la, lc, e0⟩ := row_form h.rows
 have c3 : w.cell? ⟨R, 3, Option.none⟩ = some (.slice la s.bs.length lc) := by rw [← e0]; exact h.cs.2.1
 have H := hideIt (fun (i n : Nat) (hi : s.bs[i]? = some n) => h.row hi)
 have hl := h.len
 have hs := h.sum
 have HE := hideIt e0
 clear h e0
 go_enter Try.func71, Try.ntmps71
 go_wp2_with (fail)
 go_loopw [3, 4] (fun a o wr => ∃ i : Nat, o = .int .i64 i ∧ i ≤ s.bs.length ∧ a = .int .i64 (((s.bs.take i).sum : Nat) : Int) ∧ wr = w) (fun _ o _ => s.bs.length - (intOf o).toNat)
 case atStart => exact ⟨0, rfl, Nat.zero_le _, rfl, rfl⟩
 case round =>
  obtain ⟨i, rfl, hi, rfl, rfl⟩ := hrel
  by_cases hil : i < s.bs.length
  ·obtain ⟨n, hn⟩ := get_of_lt hil
   obtain ⟨g, gl, cap, e1, e2, e3, -⟩ := H.out i n hn
   rw [HE.out] at e1
   injection e1 with e1 e4 e5
   subst e1
   have q1 := sum_take1 hn
   have q2 := sum_take s.bs (i + 1)
   have q3 : (((s.bs.take (i + 1)).sum : Nat) : Int) = (((s.bs.take i).sum : Nat) : Int) + (n : Int) := by rw [q1]; omega
   have HQ := hideIt q3
   have b1 : (((s.bs.take i).sum : Nat) : Int) + (n : Int) ≤ 65536 := by omega
   have b0 : (0 : Int) ≤ (((s.bs.take i).sum : Nat) : Int) := by omega
   clear q1 q2 q3 e2 e4 e5 hn
   generalize (((s.bs.take i).sum : Nat) : Int) = T at HQ b1 b0
   go_wp2_with (fail)
   go_roundw
   case rel => exact ⟨i + 1, by go_num, by omega, by rw [HQ.out], by trivial⟩
   case measure => simp [intOf]; omega
  ·have : i = s.bs.length := by omega
   subst this
   rw [List.take_length]
   go_wp2_with (fail)
   go_ret
   exact ⟨rfl, rfl⟩

theorem alloc_lim (h : DX w w0 R col c fuel s t sp lv tv gs) (x : Int) (h0 : 1 ≤ x) (hx : 65536 - ((s.bs.sum : Nat) : Int) < x) :
  Calls Try.prog 54 #[.pointer (some ⟨R, 3, none⟩), .int .i64 x] w fun e w' => e = .returned (.tuple #[.int .i64 0, .int .i64 11]) ∧ w' = w := by
 have HC := hideIt (total_dx h)
 have hs := h.sum
 have b0 : (0 : Int) ≤ ((s.bs.sum : Nat) : Int) := by omega
 have b1 : ((s.bs.sum : Nat) : Int) ≤ 65536 := by omega
 clear h hs
 generalize ((s.bs.sum : Nat) : Int) = T at HC hx b0 b1
 go_enter Try.func54, Try.ntmps54
 go_wp2_with (first | (go_at_call 71; refine HC.out.mono ?_; rintro e x1 ⟨rfl, rfl⟩) | fail)
 all_goals first | (exfalso; omega) | (go_ret2; exact ⟨rfl, rfl⟩)

theorem Try.infoRow : (Try.prog.info? 23).map (fun i => (i.zero, i.size, i.bytes)) = some (some (.slice none 0 0), 1, 24) := by kernel_rfl
theorem Try.infoI64 : (Try.prog.info? 2).map (fun i => (i.zero, i.size, i.bytes)) = some (some (.int .i64 0), 1, 8) := by kernel_rfl
theorem made_nums {W : World} {g n : Nat} (h : W.heap[g]? = some (.cells (madeCells #[Value.int .i64 0] n) 2 (0, 0))) : Nums W g n (fun _ => 0) := by
 refine ⟨_, h, by simp [size_madeCells], fun j hj => ?_⟩
 simp [madeCells, Nat.mod_one, hj]
theorem gr_drew {w w' : World} {row : Option Nat} (h : w.drew.grownBy w' row) : w.grownBy w' row := ⟨h.os, h.tape, h.output, h.size, h.block⟩

/-- What an added block leaves. -/
theorem alloc_dx (h : DX w w0 R col c fuel s t sp lv tv gs) {w1 : World} {g cap n : Nat} {o : Obj}
  (ho : w1.ownsRow w0.heap.size 23 1 (.slice (some ⟨g, 0, none⟩) (s.bs.length + 1) cap) (s.bs.length + 1) (rowsV gs s.bs ++ [.slice (some ⟨w.heap.size, 0, none⟩) n n]))
  (hg : ((w.alloc (.cells (madeCells #[.int .i64 0] n) 2)).alloc o).grownBy w1 lv.ownBlock) (hat : lv.ownBlock = some g ∨ g = w.heap.size + 2) (h1 : 1 ≤ n) (h2 : s.bs.sum + n ≤ 65536) :
  ∃ col', DX (w1.setCell ⟨R, 3, none⟩ (.slice (some ⟨g, 0, none⟩) (s.bs.length + 1) cap)) w0 R col' c fuel { s with bs := s.bs ++ [n] } t sp (.slice (some ⟨g, 0, none⟩) (s.bs.length + 1) cap) tv (gs ++ [w.heap.size]) ∧ Ex noX col w col' (w1.setCell ⟨R, 3, none⟩ (.slice (some ⟨g, 0, none⟩) (s.bs.length + 1) cap)) := by
 have hRl := h.ltR
 have hlR : lv.ownBlock ≠ some R := fun e => by have := h.cl R e; rw [h.colR] at this; cases this
 have hgR : g ≠ R := by
  rcases hat with e | e
  ·exact fun q => hlR (by rw [e, q])
  ·omega
 have hgn : g ≠ w.heap.size := by
  rcases hat with e | e
  ·have := (h.lt g _ (h.cl g e)).2; omega
  ·omega
 have blk : ∀ k, k < w.heap.size → lv.ownBlock ≠ some k → w1.heap[k]? = w.heap[k]? := fun k hk hne => by
  rw [hg.block k (by simp; omega) (fun e => hne e.symm), Below.heap_alloc _ _ _ (by simp; omega)]
  exact Below.heap_alloc _ _ _ hk
 have hnew : w1.heap[w.heap.size]? = some (.cells (madeCells #[.int .i64 0] n) 2 (0, 0)) := by
  rw [hg.block w.heap.size (by simp; omega) (fun e => by have := (h.lt _ _ (h.cl _ e.symm)).2; omega), Below.heap_alloc _ _ _ (by simp)]
  exact heap_alloc_new w _
 have hsz := hg.size
 simp at hsz
 have oth : ∀ b, b ≠ R → (w1.setCell ⟨R, 3, none⟩ (.slice (some ⟨g, 0, none⟩) (s.bs.length + 1) cap)).heap[b]? = w1.heap[b]? := fun b hb => Below.heap_setCell _ _ _ _ hb
 refine h.add ((set_blk ((blk R hRl hlR).trans h.run) _).trans (by simp)) (row_keep ho (fun k hk => oth k (by simp [Value.ownBlock] at hk; omega))) ?_ (by simpa [Value.ownBlock] using hgn) (Nat.le_refl _) ((made_nums hnew).keep (oth _ (by omega))) hg.os hg.tape hg.output (by simp; omega) (fun b hb h3 h4 => (oth b h3).trans (blk b hb h4)) h1 h2
 rcases hat with e | e
 ·exact Or.inl (by rw [e]; rfl)
 ·exact Or.inr ⟨g, rfl, by omega⟩

set_option maxRecDepth 100000 in
set_option maxHeartbeats 2000000 in
theorem alloc_ok (h : DX w w0 R col c fuel s t sp lv tv gs) (n : Nat) (h1 : 1 ≤ n) (hx : (n : Int) ≤ 65536 - ((s.bs.sum : Nat) : Int)) :
  Calls Try.prog 54 #[.pointer (some ⟨R, 3, none⟩), .int .i64 (n : Int)] w fun e w' => e = .returned (.tuple #[.int .i64 s.bs.length, .int .i64 0]) ∧ ∃ col', DI w' w0 R col' c fuel { s with bs := s.bs ++ [n] } t sp ∧ Ex noX col w col' w' := by
 obtain ⟨i0, hi, hz0, hz1, hz2⟩ := info_parts Try.infoRow
 have HT := hideIt (And.intro hi (And.intro hz0 (And.intro hz1 hz2)))
 clear hi hz0 hz1 hz2
 obtain ⟨la, lc, e0⟩ := row_form h.rows
 subst e0
 have HC := hideIt (total_dx h)
 have c3 : w.cell? ⟨R, 3, Option.none⟩ = some (.slice la s.bs.length lc) := h.cs.2.1
 have hs := h.sum
 have hl := h.len
 have hc3 : n ≤ 65536 := by omega
 have hmk := fun (x : World) => run_make_row' (P := Try.prog) 23 2 (.int .i64 0) 8 Try.underlying23 Try.infoI64 rfl .i64 .i64 n (by omega) (by omega) x
 have hBq : w0.heap.size ≤ w.heap.size := h.bel.size
 have HO := hideIt (show ∀ x : World, x.heap = ((w.alloc (.cells (madeCells #[.int .i64 0] n) 2)).alloc (.cells #[.slice (some ⟨w.heap.size, 0, none⟩) n n] 23)).heap → x.ownsRow w0.heap.size 23 1 (.slice la s.bs.length lc) s.bs.length (rowsV gs s.bs) from fun x hx => row_keep h.rows (fun k hk => by
  have hk' := own_lt h.rows hk
  rw [hx, Below.heap_alloc _ _ _ (by simp; omega)]
  exact Below.heap_alloc _ _ _ hk'))
 have HN := hideIt (show ∀ x : World, x.heap = ((w.alloc (.cells (madeCells #[.int .i64 0] n) 2)).alloc (.cells #[.slice (some ⟨w.heap.size, 0, none⟩) n n] 23)).heap → (∀ j u, [Value.slice (some ⟨w.heap.size, 0, none⟩) n n][j]? = some u → x.cell? ((⟨w.heap.size + 1, 0, none⟩ : Addr).add j) = some u) ∧ w0.heap.size ≤ x.heap.size ∧ x.heap.size = w.heap.size + 2 from fun x hx => by
  have e : x.heap[w.heap.size + 1]? = some (.cells #[.slice (some ⟨w.heap.size, 0, none⟩) n n] 23 (0, 0)) := by
   rw [hx]
   have := heap_alloc_new (w.alloc (.cells (madeCells #[.int .i64 0] n) 2)) (.cells #[.slice (some ⟨w.heap.size, 0, none⟩) n n] 23)
   simpa using this
  have e2 : x.heap.size = w.heap.size + 2 := by rw [hx]; simp
  exact ⟨World.news_of_block e, by omega, e2⟩)
 have H1 := hideIt (show ∀ u ∈ [Value.slice (some ⟨w.heap.size, 0, none⟩) n n], u.oneCell' = true from fun u hu => by simp at hu; subst hu; rfl)
 have HM := hideIt (show s.bs.length + 1 ≤ maxLen by unfold maxLen; omega)
 have HA := hideIt (fun (w1 : World) (g cap : Nat) ho hg hat => alloc_dx (w1 := w1) (g := g) (cap := cap) (n := n) (o := .cells #[.slice (some ⟨w.heap.size, 0, none⟩) n n] 23) h ho hg hat h1 (by omega))
 have HP := hideIt (show ∀ w1, ((w.alloc (.cells (madeCells #[.int .i64 0] n) 2)).alloc (.cells #[.slice (some ⟨w.heap.size, 0, none⟩) n n] 23)).grownBy w1 (Value.slice la s.bs.length lc).ownBlock → w1.cell? ⟨R, 3, none⟩ = some (.slice la s.bs.length lc) ∧ w1.frozen? ⟨R, 3, none⟩ = false from fun w1 hg => by
  have hq := h.ltR
  have e : w1.heap[R]? = w.heap[R]? := by
   rw [hg.block R (by simp; omega) (fun e => by have := h.cl R e.symm; rw [h.colR] at this; cases this), Below.heap_alloc _ _ _ (by simp; omega), Below.heap_alloc _ _ _ hq]
  exact ⟨cell_blk (e.trans h.run) 3, free_blk (e.trans h.run) 3⟩)
 have c2 := cell_bx c3 (.cells (madeCells #[.int .i64 0] n) 2)
 have c4 := cell_bx c2 (.cells #[.slice (some ⟨w.heap.size, 0, none⟩) n n] 23)
 have hrl : Hid ((rowsV gs s.bs).length = s.bs.length) := rowsV_len h.gl
 have b0 : (0 : Int) ≤ ((s.bs.sum : Nat) : Int) := by omega
 have b1 : ((s.bs.sum : Nat) : Int) ≤ 65536 := by omega
 clear h hs
 generalize ((s.bs.sum : Nat) : Int) = T at HC hx b0 b1
 go_enter Try.func54, Try.ntmps54
 go_wp2_with (first | (go_at_call 71; refine HC.out.mono ?_; rintro e x1 ⟨rfl, hx1⟩; have hx2 := hx1.symm; clear hx1; subst hx2) | fail)
 all_goals try (exfalso; omega)
 go_region_law ((refine step_append_lies _ (by rfl) _ _ 69 (by rfl) w0.heap.size 23 i0 (.slice none 0 0) 1 24 Try.underlying69 HT.out.1 HT.out.2.1 HT.out.2.2.1 HT.out.2.2.2 rfl (by decide) (.slice la s.bs.length lc) s.bs.length (rowsV gs s.bs) (by rfl) (HO.out _ rfl) ⟨w.heap.size + 1, 0, none⟩ 1 1 [.slice (some ⟨w.heap.size, 0, none⟩) n n] (by rfl) rfl (HN.out _ rfl).1 H1.out (by decide) HM.out (by omega) (HN.out _ rfl).2.1 (w.heap.size + 2) (HN.out _ rfl).2.2 ?_; intro g cap w1 hown hgrow hat hlt; have hg2 := gr_drew hgrow; obtain ⟨k1, k2⟩ := HP.out w1 hg2; have HO2 := hideIt hown; have HG2 := hideIt hg2; have HT2 := hideIt hat; clear hown hgrow hat hg2))
 all_goals go_wp2_with (fail)
 all_goals go_ret2
 all_goals
  obtain ⟨col', a1, a2⟩ := HA.out w1 g cap HO2.out HG2.out HT2.out
  exact ⟨rfl, col', ⟨_, _, _, a1⟩, a2⟩

end
end Go.Proofs.Ytphknepblchkdaa.Dn

namespace Go.Proofs.Ytphknepblchkdaa.Dn
open Go.RowKit
set_option linter.unusedVariables false

section
variable {w w' w0 : World} {R : Nat} {col : Col} {c : PC} {fuel : Nat} {s : St} {t : Int} {sp : Bool} {lv tv : Value} {gs : List Nat}

theorem block_bad (h : DI w w0 R col c fuel s t sp) (x : Int) (h0 : 1 ≤ x) (hx : 65536 - ((s.bs.sum : Nat) : Int) < x) :
  Calls Try.prog 28 #[.pointer (some ⟨R, 0, none⟩), .int .i64 x] w fun e w' => e = .returned (.int .i64 0) ∧ DI w' w0 R col c fuel s 5 sp ∧ Ex noX col w col w' := by
 obtain ⟨lv, tv, gs, h⟩ := h
 have HC := hideIt (alloc_lim h x h0 hx)
 have HS := hideIt (h.trap (t' := 5) (by decide) 0)
 have c6 := h.cs.2.2.2.2.1
 have f6 := h.fz 6
 clear h hx
 go_enter Try.func28, Try.ntmps28
 go_wp2_with (first | (go_at_call 54; refine HC.out.mono ?_; rintro e x1 ⟨rfl, hx1⟩; have hx2 := hx1.symm; clear hx1; subst hx2) | fail)
 go_ret
 exact ⟨rfl, ⟨lv, tv, gs, HS.out.1⟩, HS.out.2⟩
theorem block_ok (h : DI w w0 R col c fuel s t sp) (n : Nat) (h1 : 1 ≤ n) (hx : (n : Int) ≤ 65536 - ((s.bs.sum : Nat) : Int)) :
  Calls Try.prog 28 #[.pointer (some ⟨R, 0, none⟩), .int .i64 (n : Int)] w fun e w' => e = .returned (.int .i64 s.bs.length) ∧ ∃ col', DI w' w0 R col' c fuel { s with bs := s.bs ++ [n] } t sp ∧ Ex noX col w col' w' := by
 obtain ⟨lv, tv, gs, h⟩ := h
 have HC := hideIt (alloc_ok h n h1 hx)
 clear h hx
 go_enter Try.func28, Try.ntmps28
 go_wp2_with (first | (go_at_call 54; refine HC.out.mono ?_; rintro e x1 ⟨rfl, hx1⟩; have HX := hideIt hx1; clear hx1) | fail)
 go_ret
 exact ⟨rfl, HX.out⟩

set_option maxRecDepth 100000 in
set_option maxHeartbeats 1000000 in
theorem keep_di (h : DI w w0 R col c fuel s t sp) (k : Nat) (hk : k ≤ s.bs.length) :
  Calls Try.prog 57 #[.pointer (some ⟨R, 3, none⟩), .int .i64 (k : Int)] w fun e w' => e = .returned (.int .i64 0) ∧ DI w' w0 R col c fuel { s with bs := s.bs.take k, f := Me.keepf s.f k } t sp ∧ Ex noX col w col w' := by
 obtain ⟨lv, tv, gs, h⟩ := h
 obtain ⟨la, lc, e0⟩ := row_form h.rows
 subst e0
 have c3 : w.cell? ⟨R, 3, Option.none⟩ = some (.slice la s.bs.length lc) := h.cs.2.1
 have f3 := h.fz 3
 have HR := hideIt (h.cut hk)
 have hlc : s.bs.length ≤ lc ∧ lc ≤ maxLen := by
  rcases h.rows.2 with ⟨e, h0⟩ | ⟨g, cap, cur, hv, _, _, hn, hc, _⟩
  ·simp at e
   omega
  ·simp at hv
   omega
 obtain ⟨l1, l2⟩ := hlc
 unfold maxLen at l2
 have hl := h.len
 have i0 : (0 : Int) ≤ (k : Int) := by omega
 have i1 : (k : Int) ≤ (lc : Int) := by omega
 have d1 : decide ((k : Int) < 0) = false := by simp
 have d2 : decide (s.bs.length < k) = false := by simp; omega
 clear h
 go_enter Try.func57, Try.ntmps57
 go_wp2
 go_ret
 exact ⟨rfl, ⟨_, _, _, HR.out.1⟩, HR.out.2⟩

theorem and20 (z : Int) : bits .and .i64 z 1048575 = z % 1048576 := by
 have d : bits .and .i64 z 1048575 = IntKind.i64.wrap (((BitVec.ofInt 64 z &&& BitVec.ofInt 64 1048575).toNat : Nat) : Int) := rfl
 have e : (BitVec.ofInt 64 1048575).toNat = 1048575 := by decide
 have e2 : ∀ x : Nat, x &&& 1048575 = x % 1048576 := fun x => Nat.and_two_pow_sub_one_eq_mod x 20
 rw [d, BitVec.toNat_and, e, e2, BitVec.toNat_ofInt, IntKind.wrap_i64]
 omega

set_option maxRecDepth 100000 in
set_option maxHeartbeats 1000000 in
theorem cell_out (h : DI w w0 R col c fuel s t sp) (a : Int) (hin : Me.inB s.bs (hiA a) (loA a) = false) :
  Calls Try.prog 74 #[.pointer (some ⟨R, 0, none⟩), .int .i64 a] w fun e w' => e = .returned (.tuple #[.int .i64 (-1), .int .i64 0]) ∧ w' = w := by
 obtain ⟨lv, tv, gs, h⟩ := h
 by_cases ha : a < 0
 ·clear h hin
  go_enter Try.func74, Try.ntmps74
  go_wp2
  go_ret2
  exact ⟨rfl, rfl⟩
 ·have e20 := and20 a
  obtain ⟨la, lc, e0⟩ := row_form h.rows
  subst e0
  have c3 : w.cell? ⟨R, 3, Option.none⟩ = some (.slice la s.bs.length lc) := h.cs.2.1
  have hlen := h.len
  have ha' : decide (a < 0) = false := by simpa using ha
  by_cases hb : (s.bs.length : Int) ≤ hiA a
  ·have hb' : decide ((s.bs.length : Int) ≤ a / 1048576) = true := by simpa using hb
   clear h hin hb
   go_enter Try.func74, Try.ntmps74
   go_wp2
   go_ret2
   exact ⟨rfl, rfl⟩
  ·obtain ⟨i, hi⟩ : ∃ i : Nat, hiA a = (i : Int) := ⟨(hiA a).toNat, by unfold hiA at *; omega⟩
   have hil : i < s.bs.length := by omega
   obtain ⟨n, hn⟩ := get_of_lt hil
   obtain ⟨g, gl, cap, e1, e2, e3, -⟩ := h.row hn
   injection e1 with e1 e4 e5
   subst e1
   have ho : (n : Int) ≤ loA a := by
    refine Int.not_lt.1 fun q => ?_
    have : Me.inB s.bs (hiA a) (loA a) = true := Me.inB_iff.2 ⟨i, (loA a).toNat, n, hi, by unfold loA at *; omega, hn, by unfold loA at *; omega⟩
    rw [this] at hin; cases hin
   have hb' : decide ((s.bs.length : Int) ≤ (i : Int)) = false := by simp; omega
   have ho' : decide ((n : Int) ≤ loA a) = true := by simpa using ho
   have hil' : (i : Int) < (s.bs.length : Int) := by omega
   have hi0 : a / 1048576 = (i : Int) := hi
   have hlo : a % 1048576 = loA a := rfl
   generalize loA a = lo at *
   clear h hin hb hn ho
   go_enter Try.func74, Try.ntmps74
   go_wp2
   go_ret2
   exact ⟨rfl, rfl⟩

set_option maxRecDepth 100000 in
set_option maxHeartbeats 1000000 in
theorem cell_in (h : DI w w0 R col c fuel s t sp) (a : Int) (i j n : Nat) (hi : hiA a = (i : Int)) (hj : loA a = (j : Int)) (hn : s.bs[i]? = some n) (hjn : j < n) :
  Calls Try.prog 74 #[.pointer (some ⟨R, 0, none⟩), .int .i64 a] w fun e w' => e = .returned (.tuple #[.int .i64 (i : Int), .int .i64 (j : Int)]) ∧ w' = w := by
 obtain ⟨lv, tv, gs, h⟩ := h
 have e20 := and20 a
 obtain ⟨la, lc, e0⟩ := row_form h.rows
 subst e0
 have c3 : w.cell? ⟨R, 3, Option.none⟩ = some (.slice la s.bs.length lc) := h.cs.2.1
 have hlen := h.len
 have hil := (List.getElem?_eq_some_iff.1 hn).1
 have ha : ¬ a < 0 := by unfold hiA at hi; omega
 have ha' : decide (a < 0) = false := by simpa using ha
 obtain ⟨g, gl, cap, e1, e2, e3, -⟩ := h.row hn
 injection e1 with e1 e4 e5
 subst e1
 have hb' : decide ((s.bs.length : Int) ≤ (i : Int)) = false := by simp; omega
 have ho' : decide ((n : Int) ≤ (j : Int)) = false := by simp; omega
 have hil' : (i : Int) < (s.bs.length : Int) := by omega
 have hi0 : a / 1048576 = (i : Int) := hi
 have hlo : a % 1048576 = (j : Int) := hj
 clear h hn hi hj
 go_enter Try.func74, Try.ntmps74
 go_wp2
 go_ret2
 exact ⟨rfl, rfl⟩
end
end Go.Proofs.Ytphknepblchkdaa.Dn
