/-
  Run of layer 25: contracts over the program; the conditions: the program lies in memory.
-/
import Derived.Test.YtejkblbhnbbjaaaVmU
import Derived.Test.YtejkblbhnbbjaaaVmV
namespace Go.Proofs.Ytejkblbhnbbjaaa
open Go.RowKit
set_option linter.unusedVariables false

section
variable {w w' w0 : World} {R : Nat} {col col' : Col} {im : PIm}

theorem own_mono {X : World} {b b' : Nat} {T : TypeId} {v : Value} {n z : Nat} {xs : List Value} (h : X.ownsRow b' T z v n xs) (hb : b ≤ b') : X.ownsRow b T z v n xs := by
  refine ⟨h.1, ?_⟩
  rcases h.2 with q | ⟨g, cap, cur, e, hg, r⟩
  · exact .inl q
  · exact .inr ⟨g, cap, cur, e, Nat.le_trans hb hg, r⟩
theorem clone_any (hok : im.ok w) (X : World) (hX : Q w X) : Calls Try.prog 28 #[.slice im.ea im.da.length im.ec] X fun e y => ∃ a c, e = .returned (.slice a im.da.length c) ∧ y.ownsRow X.heap.size 2 1 (.slice a im.da.length c) im.da.length (rowI im.da) ∧ Q X y := by
  obtain ⟨h1, h2, h3, h4⟩ := hok.dsok
  have hda := hok.da
  cases ea : im.ea with
  | none =>
    rw [ea] at h3
    have hc := h3 rfl
    have hn : im.da = [] := List.eq_nil_of_length_eq_zero (by omega)
    rw [hc, hn]
    refine (clone_none X).mono ?_
    rintro e y ⟨rfl, rfl⟩
    exact ⟨none, 0, rfl, World.ownsRow_nil _ _ _ _, Q.refl _⟩
  | some a =>
    refine (clone_some X a im.ec im.da (fun j x hx => ?_) h4 (by omega)).mono ?_
    · obtain ⟨b, o, e, c⟩ := Ints.at hda hx
      rw [ea] at e
      injection e with e
      subst e
      have := cell_keep hX c
      rw [Addr.add_mid]
      exact this
    · rintro e y ⟨v, rfl, h5, h6⟩
      obtain ⟨a', c', rfl, -, -⟩ := own_form h5
      exact ⟨a', c', rfl, h5, h6⟩

set_option maxRecDepth 100000 in
theorem newm_any (w : World) (hok : im.ok w) (hl : im.da.length ≤ 65536) : Calls Try.prog 15 #[im.v] w fun e X => ∃ R col, e = .returned (.pointer (some ⟨R, 0, none⟩)) ∧ MV X w R col im im.da [] [] 0 0 := by
  have hq : Q w (bxI w im) := (Q.refl w).alloc _
  have HB := hideIt (fun X (h : Q (bxI w im) X) => bxI_at (im := im) h)
  obtain ⟨c0, c1, c2, c3⟩ := HB.out _ (Q.refl _)
  have CC := hideIt (clone_any hok (bxI w im) hq)
  have FIN := hideIt (show ∀ y a c, y.ownsRow (bxI w im).heap.size 2 1 (.slice a im.da.length c) im.da.length (rowI im.da) → Q (bxI w im) y → ∃ R col, (Ending.returned (.pointer (some ⟨y.heap.size, 0, none⟩))) = .returned (.pointer (some ⟨R, 0, none⟩)) ∧ MV (y.alloc (.cells (mcells im im.da.length 0 (.slice a im.da.length c) (.slice none 0 0) (.slice none 0 0)) 76)) w R col im im.da [] [] 0 0 from fun y a c ho hy => by
    have hqy := hq.trans hy
    obtain ⟨col, hm⟩ := mv_new (w := w) (im := im) (X := y.alloc (.cells (mcells im im.da.length 0 (.slice a im.da.length c) (.slice none 0 0) (.slice none 0 0)) 76)) (R := y.heap.size) (hqy.alloc _) (own_mono (row_keep ho (fun b q => Below.heap_alloc y _ b (own_lt ho q))) hq.size) (heap_new y _) hqy.size (fun e => by have := own_lt ho e; omega) hl
    exact ⟨_, col, rfl, hm⟩)
  clear hq hok
  go_enter Try.func15, Try.ntmps15
  go_wp2_with (first | (go_at_call 28; refine CC.out.mono ?_; rintro e y ⟨a, c, rfl, h1, h2⟩; clear c0 c1 c2 c3; obtain ⟨c0, c1, c2, c3⟩ := HB.out y h2; have HF := hideIt (FIN.out y a c h1 h2); clear h1 h2) | fail)
  go_ret
  exact HF.out

abbrev zeroO : Value := .agg z0A
theorem bxR {X : World} (h : Q ((bxI w im).alloc (.cells z0A 31)) X) : X.heap[w.heap.size + 1]? = some (.cells z0A 31 (0, 0)) ∧ Q (bxI w im) X := by
  refine ⟨(h.block _ (by simp)).trans (heap_at (by simp)), ((Q.refl (bxI w im)).alloc _).trans h⟩

set_option maxRecDepth 100000 in
set_option maxHeartbeats 1000000 in
theorem run_fuel (w : World) (im : PIm) (fuel : Int) (hf : fuel < 0 ∨ 8388608 < fuel) : Calls Try.prog 9 #[im.v, .int .i64 fuel] w fun e w' => e = .returned (.tuple #[zeroO, .int .i64 1]) ∧ Q w w' := by
  have hq : Q w ((bxI w im).alloc (.cells z0A 31)) := ((Q.refl w).alloc _).alloc _
  by_cases h1 : fuel < 0
  · have hd : decide (fuel < 0) = true := by simpa using h1
    clear hf h1
    go_enter Try.func9, Try.ntmps9
    go_wp2_with (fail)
    exact bodyPost_ret (v := .tuple #[zeroO, .int .i64 1]) (by simp [results, Try.results9, go_sem]) rfl ⟨rfl, hq⟩
  · have hd : decide (fuel < 0) = false := by simpa using h1
    have hd2 : decide (8388608 < fuel) = true := by simpa using hf.resolve_left h1
    clear hf h1
    go_enter Try.func9, Try.ntmps9
    go_wp2_with (fail)
    exact bodyPost_ret (v := .tuple #[zeroO, .int .i64 1]) (by simp [results, Try.results9, go_sem]) rfl ⟨rfl, hq⟩

theorem bxR2 {X : World} (h : Q ((bxI w im).alloc (.cells z0A 31)) X) : (X.cell? ⟨w.heap.size + 1, 0, none⟩ = some (.bool false) ∧ X.cell? ⟨w.heap.size + 1, 1, none⟩ = some (.int .i64 0) ∧ X.cell? ⟨w.heap.size + 1, 2, none⟩ = some (.int .u8 0) ∧ X.cell? ⟨w.heap.size + 1, 3, none⟩ = some (.bool false) ∧ X.cell? ⟨w.heap.size + 1, 4, none⟩ = some (.int .i64 0) ∧ X.cell? ⟨w.heap.size + 1, 5, none⟩ = some (.slice none 0 0)) ∧ (X.frozen? ⟨w.heap.size + 1, 0, none⟩ = false ∧ X.frozen? ⟨w.heap.size + 1, 1, none⟩ = false ∧ X.frozen? ⟨w.heap.size + 1, 2, none⟩ = false ∧ X.frozen? ⟨w.heap.size + 1, 3, none⟩ = false ∧ X.frozen? ⟨w.heap.size + 1, 4, none⟩ = false ∧ X.frozen? ⟨w.heap.size + 1, 5, none⟩ = false) :=
  ⟨six_cells (bxR h).1, six_free (bxR h).1⟩

set_option maxRecDepth 100000 in
set_option maxHeartbeats 2000000 in
theorem run_bad (w : World) (hok : im.ok w) (fuel : Nat) (hf : fuel ≤ 8388608) (hF : formP im = false) : Calls Try.prog 9 #[im.v, .int .i64 (fuel : Int)] w fun e w' => e = .returned (.tuple #[zeroO, .int .i64 3]) ∧ Q w w' := by
  have hq : Q w ((bxI w im).alloc (.cells z0A 31)) := ((Q.refl w).alloc _).alloc _
  have CF := hideIt (form_any _ (hok.keep hq))
  rw [hF] at CF
  have d1 : decide ((fuel : Int) < 0) = false := by simp
  have d2 : decide (8388608 < (fuel : Int)) = false := by simp; omega
  obtain ⟨c0, c1, c2, c3⟩ := bxI_at (bxR (Q.refl ((bxI w im).alloc (.cells z0A 31)))).2
  have HX := hideIt (fun X (h : Q ((bxI w im).alloc (.cells z0A 31)) X) => bxR2 h)
  have FIN := hideIt (show ∀ y, Q ((bxI w im).alloc (.cells z0A 31)) y → (six y (w.heap.size + 1) (.bool false) (.int .i64 0) (.int .u8 0) (.bool false) (.int .i64 0) (.slice none 0 0)).heap[w.heap.size + 1]? = some (.cells z0A 31 (0, 0)) ∧ Q w (six y (w.heap.size + 1) (.bool false) (.int .i64 0) (.int .u8 0) (.bool false) (.int .i64 0) (.slice none 0 0)) from fun y hy => ⟨six_blk (bxR hy).1 _ _ _ _ _ _, six_q (hq.trans hy) (Nat.le_succ _) _ _ _ _ _ _⟩)
  clear hq hok hF
  go_enter Try.func9, Try.ntmps9
  go_wp2_with (first | (go_at_call 14; refine CF.out.mono ?_; rintro e y ⟨rfl, qy⟩; clear c0 c1 c2 c3; obtain ⟨⟨a0, a1, a2, a3, a4, a5⟩, b0, b1, b2, b3, b4, b5⟩ := HX.out y qy; have HF := hideIt (FIN.out y qy); clear qy) | fail)
  obtain ⟨bz, qz⟩ := HF.out
  dsimp only [six] at bz qz
  generalize hZ : ((((((y.setCell ⟨w.heap.size + 1, 0, none⟩ (.bool false)).setCell ⟨w.heap.size + 1, 1, none⟩ (.int .i64 0)).setCell ⟨w.heap.size + 1, 2, none⟩ (.int .u8 0)).setCell ⟨w.heap.size + 1, 3, none⟩ (.bool false)).setCell ⟨w.heap.size + 1, 4, none⟩ (.int .i64 0)).setCell ⟨w.heap.size + 1, 5, none⟩ (.slice none 0 0)) = Z at *
  obtain ⟨y0, y1, y2, y3, y4, y5⟩ := six_cells bz
  exact bodyPost_ret (v := .tuple #[zeroO, .int .i64 3]) (by simp [results, Try.results9, go_sem, y0, y1, y2, y3, y4, y5]) rfl ⟨rfl, qz⟩

set_option maxRecDepth 100000 in
set_option maxHeartbeats 2000000 in
theorem run_good (w : World) (hok : im.ok w) (fuel : Nat) (hf : fuel ≤ 8388608) (hF : formP im = true) : Calls Try.prog 9 #[im.v, .int .i64 (fuel : Int)] w fun e w' => ∃ v, e = .returned (.tuple #[v, .int .i64 0]) ∧ OutPost w (runP im fuel) v w' := by
  have hq : Q w ((bxI w im).alloc (.cells z0A 31)) := ((Q.refl w).alloc _).alloc _
  have CF := hideIt (form_any _ (hok.keep hq))
  rw [hF] at CF
  have d1 : decide ((fuel : Int) < 0) = false := by simp
  have d2 : decide (8388608 < (fuel : Int)) = false := by simp; omega
  obtain ⟨c0, c1, c2, c3⟩ := bxI_at (bxR (Q.refl ((bxI w im).alloc (.cells z0A 31)))).2
  have HX := hideIt (fun X (h : Q ((bxI w im).alloc (.cells z0A 31)) X) => bxR2 h)
  have HI := hideIt (fun X (h : Q ((bxI w im).alloc (.cells z0A 31)) X) => bxI_at (im := im) (bxR h).2)
  have hda : im.da.length ≤ 65536 := by unfold formP at hF; simp only [Bool.and_eq_true, decide_eq_true_eq] at hF; exact hF.1.2
  have CM := hideIt (show ∀ y, Q ((bxI w im).alloc (.cells z0A 31)) y → Calls Try.prog 15 #[im.v] y fun e X => ∃ R, e = .returned (.pointer (some ⟨R, 0, none⟩)) ∧ Calls Try.prog 16 #[.pointer (some ⟨R, 0, none⟩), .int .i64 (fuel : Int)] X fun e z => ∃ ta tc, e = .returned (.agg (ocA (runP im fuel).h (runP im fuel).x (runP im fuel).t (runP im fuel).sp (runP im fuel).n (.slice ta (runP im fuel).tr.length tc))) ∧ Q ((bxI w im).alloc (.cells z0A 31)) z ∧ z.ownsRow ((bxI w im).alloc (.cells z0A 31)).heap.size 2 1 (.slice ta (runP im fuel).tr.length tc) (runP im fuel).tr.length (rowI (runP im fuel).tr) from fun y hy => by
    have hok1 := hok.keep (hq.trans hy)
    refine (newm_any y hok1 hda).mono ?_
    rintro e X ⟨R, col, rfl, hm⟩
    refine ⟨R, rfl, (run_any hm hok1 hF fuel hf).mono ?_⟩
    rintro e z ⟨v, rfl, ta, tc, rfl, h5, h6⟩
    exact ⟨ta, tc, rfl, hy.trans h6, own_mono h5 hy.size⟩)
  have FIN := hideIt (show ∀ z (oh : Bool) (ox ot : Int) (os : Bool) (on : Nat) (otr : List Int) (ta : Option Addr) (tc : Nat), Q ((bxI w im).alloc (.cells z0A 31)) z → z.ownsRow ((bxI w im).alloc (.cells z0A 31)).heap.size 2 1 (.slice ta otr.length tc) otr.length (rowI otr) → (six z (w.heap.size + 1) (.bool oh) (.int .i64 ox) (.int .u8 ot) (.bool os) (.int .i64 (on : Int)) (.slice ta otr.length tc)).heap[w.heap.size + 1]? = some (.cells (ocA oh ox ot os on (.slice ta otr.length tc)) 31 (0, 0)) ∧ OutPost w ⟨oh, ox, ot, os, on, otr⟩ (.agg (ocA oh ox ot os on (.slice ta otr.length tc))) (six z (w.heap.size + 1) (.bool oh) (.int .i64 ox) (.int .u8 ot) (.bool os) (.int .i64 (on : Int)) (.slice ta otr.length tc)) from fun z oh ox ot os on otr ta tc hz ho => by
    refine ⟨six_blk (bxR hz).1 _ _ _ _ _ _, ta, tc, rfl, own_mono (row_keep ho (fun b q => six_oth z (fun e => ?_) _ _ _ _ _ _)) hq.size, six_q (hq.trans hz) (Nat.le_succ _) _ _ _ _ _ _⟩
    rcases ho.2 with ⟨e0, -⟩ | ⟨g, cap, cur, e0, hb, -⟩
    · rw [e0] at q; cases q
    · rw [e0] at q
      injection q with q
      have hs : ((bxI w im).alloc (.cells z0A 31)).heap.size = w.heap.size + 1 + 1 := by simp
      have q' : g = b := q
      omega)
  generalize runP im fuel = RES at *
  obtain ⟨oh, ox, ot, os, on, otr⟩ := RES
  dsimp only at *
  clear hq hok hF
  go_enter Try.func9, Try.ntmps9
  go_wp2_with (first | (go_at_call 14; refine CF.out.mono ?_; rintro e y ⟨rfl, qy⟩; have HY := hideIt qy; clear c0 c1 c2 c3; obtain ⟨c0, c1, c2, c3⟩ := HI.out y qy; clear qy) | (go_at_call 15; refine (CM.out y HY.out).mono ?_; rintro e X ⟨R, rfl, cr⟩; have CR := hideIt cr; clear cr c0 c1 c2 c3) | (go_at_call 16; refine CR.out.mono ?_; rintro e z ⟨ta, tc, rfl, qz, oz⟩; obtain ⟨⟨a0, a1, a2, a3, a4, a5⟩, b0, b1, b2, b3, b4, b5⟩ := HX.out z qz; have HF := hideIt (FIN.out z oh ox ot os on otr ta tc qz oz); clear qz oz) | fail)
  obtain ⟨bz, qz⟩ := HF.out
  dsimp only [six] at bz qz
  generalize hZ : ((((((z.setCell ⟨w.heap.size + 1, 0, none⟩ (.bool oh)).setCell ⟨w.heap.size + 1, 1, none⟩ (.int .i64 ox)).setCell ⟨w.heap.size + 1, 2, none⟩ (.int .u8 ot)).setCell ⟨w.heap.size + 1, 3, none⟩ (.bool os)).setCell ⟨w.heap.size + 1, 4, none⟩ (.int .i64 (on : Int))).setCell ⟨w.heap.size + 1, 5, none⟩ (.slice ta otr.length tc)) = Z at *
  obtain ⟨y0, y1, y2, y3, y4, y5⟩ := six_cells bz
  exact bodyPost_ret (v := .tuple #[.agg (ocA oh ox ot os on (.slice ta otr.length tc)), .int .i64 0]) (by simp [results, Try.results9, go_sem, y0, y1, y2, y3, y4, y5]) rfl ⟨_, rfl, qz⟩
end
end Go.Proofs.Ytejkblbhnbbjaaa
