/-
  What replace makes of a tree: a contract over the program; the conditions: the tree and the list lie in memory, the tree has at most 4000 nodes below its root, and the number is one of theirs.
-/
import Derived.Test.YtioeoillogpdoaaPutsG
import Derived.Deep.RegionWith
namespace Go.Proofs.Ytioeoillogpdoaa
open Go.RowKit
set_option linter.unusedVariables false

theorem kid_far {y1 : World} {p q j : Nat} {u s : Value} (h : p + 2 ≤ q) (hc : y1.cell? ⟨q, j, none⟩ = some s) : (y1.setCell ⟨p, 9, none⟩ u).cell? ⟨q, j, none⟩ = some s := by
  rw [World.cell?_of_block (Below.heap_setCell y1 ⟨p, 9, none⟩ u q (by simp; omega))]
  exact hc

set_option maxRecDepth 100000 in
set_option maxHeartbeats 16000000 in
theorem replace_any (N : Nat) : ∀ (f : Fo), f.size < N → ∀ (v : NF) (a : Option Addr) (c : Nat) (id : Int) (F : Fo) (la : Option Addr) (lc : Nat) (w : World) (W0 : Nat), In w a f → sok a f.len c → In w la F → sok la F.len lc → Av (fun b => b < W0) a f → Av (fun b => b < W0) la F → W0 ≤ w.heap.size →
    1 ≤ id → id ≤ f.size → f.size ≤ 4000 → F.len ≤ 7000 → Calls Try.prog 43 #[nodeV v (.slice a f.len c), .int .i64 id, .slice la F.len lc] w (Rpl w W0 v (putS F (id - 1) f)) := by
  induction N with
  | zero => intro f h; omega
  | succ N ih =>
    intro f hf v a c id F la lc w W0 hin hs hinF hsF hav havF hW id1 id2 hz hFl
    have HIN := hideIt hin
    have HS := hideIt hs
    have hlen : f.len ≤ 4000 := by have := f.len_le_size; omega
    have hc1 : f.len ≤ c := hs.1
    have hc2 : c ≤ 9223372036854775807 := by have := hs.2.1; unfold maxLen at this; omega
    clear hin hs
    go_enter Try.func43, Try.ntmps43
    go_wp2_with (fail)
    go_loopw [1, 15] (fun m i wr => ∃ (k : Nat) (r : Int), m = .int .i64 r ∧ i = .int .i64 k ∧ k ≤ f.len ∧ 0 ≤ r ∧ r < ((f.drop k).size : Int) ∧ r = id - 1 - (f.take k).size ∧ Q (boxed2 w v (.slice a f.len c) (nf 0 0) (.slice none 0 0)) wr) (fun _ i _ => f.len - (intOf i).toNat)
    case atStart => exact ⟨0, id - 1, by go_num, rfl, Nat.zero_le _, by omega, by simp [Fo.drop]; omega, by simp [Fo.take, Fo.size], Below.refl _ _⟩
    case round =>
      obtain ⟨k, r, rfl, rfl, hk, r0, r1, r2, hq⟩ := hrel
      have HQ := hideIt hq
      have HR2 := hideIt r2
      have hlt : k < f.len := by
        rcases Nat.lt_or_ge k f.len with h | h
        · exact h
        · have : k = f.len := by omega
          subst this
          rw [Fo.drop_all] at r1
          simp [Fo.size] at r1
          omega
      obtain ⟨b, o, v', ka, kc, ks, rfl, e, hat, hv', hs', hin'⟩ := HIN.out.elem k hlt
      have hat' : At wr b (o + k * 10) (cellsN v' (.slice ka ks.len kc)) := hat.keep (Nat.le_refl _) ((boxed2_q _ _ _ _ _).trans HQ.out)
      obtain ⟨c0, c1, c2, c3, c4, c5, c6, c7, c8, c9⟩ := hat'.ten
      have hkl : (k : Int) < (f.len : Int) := by omega
      clear hat' hq r2
      have HQw := hideIt ((boxed2_q w v (.slice (some ⟨b, o, none⟩) f.len c) (nf 0 0) (.slice none 0 0)).trans HQ.out)
      have hwr : w.heap.size + 2 ≤ wr.heap.size := by have := HQ.out.size; simp at this; omega
      have x9 := boxed2_a HQ.out 9 _ rfl
      by_cases hr : r = 0
      · subst hr
        have n9 : (wr.alloc (.cells #[.int .u8 v'.k, .int .u8 v'.op, .int .u8 v'.tk, .int .u8 v'.ti, .int .i64 v'.tn, .int .i64 v'.n, .int .i64 v'.m, .string v'.nm, .string v'.fd, .slice ka ks.len kc] 26)).cell? ⟨w.heap.size, 9, none⟩ = some (.slice (some ⟨b, o, none⟩) f.len c) := ((boxed_q wr v' _).cell (p := ⟨w.heap.size, 9, none⟩) (World.block_lt_of_cell? _ _ x9)).trans x9
        have k1l : (k : Int) + 1 ≤ (f.len : Int) := by omega
        have k1c : (f.len : Int) ≤ (c : Int) := by omega
        have hwk : IntKind.i64.wrap ((k : Int) + 1) = (k : Int) + 1 := wrap_small _ (by omega) (by omega)
        have HP := hideIt (show putS F (id - 1) f = (f.take k).app (F.app (f.drop (k + 1))) by
          have := HR2.out
          rw [putS_at F f k (id - 1) (by omega), show id - 1 - ((f.take k).size : Int) = 0 by omega, e, putS_here])
        have CAT := hideIt (fun (A3 : Option Addr) (C3 : Nat) (h3 : In w A3 (f.drop (k + 1))) (s3 : sok A3 (f.drop (k + 1)).len C3) => cat_at (.cells #[.int .u8 v'.k, .int .u8 v'.op, .int .u8 v'.tk, .int .u8 v'.ti, .int .i64 v'.tn, .int .i64 v'.n, .int .i64 v'.m, .string v'.nm, .string v'.fd, .slice ka ks.len kc] 26) HQw.out HIN.out HS.out hlt hinF hsF h3 s3 hav havF hlen hFl (w.heap.size + 2) hwr)
        have D3 := hideIt (HIN.out.drop (k + 1))
        have L3 := hideIt (Fo.drop_len f (k + 1))
        have hN : Hid (f.len = k + 1 → f.drop (k + 1) = .nil) := fun h => by rw [← h, Fo.drop_all]
        have hsc := hideIt HS.out.2.1
        clear e hat hv' hs' hin' ih hav havF hinF hsF x9
        by_cases hcap : c = k + 1
        · have hl1 : f.len = k + 1 := by omega
          have C1 := hideIt (CAT.out (some ⟨b, o, none⟩) (c - (k + 1)) (by rw [hN.out hl1]; trivial) (by rw [hN.out hl1]; exact ⟨Nat.zero_le _, by unfold maxLen; omega, fun h => by cases h⟩))
          clear CAT
          rw [hcap, hl1, Nat.sub_self] at C1
          go_wp2_with (fail)
          go_region_with (go_at_call 48; refine C1.out.mono ?_; rintro e y ⟨a', c', G, rfl, hG, p2, p3, p4, p5⟩; have hqy := HQ.out.trans p5; have x0 := boxed2_a hqy 0 _ rfl; have x1 := boxed2_a hqy 1 _ rfl; have x2 := boxed2_a hqy 2 _ rfl; have x3 := boxed2_a hqy 3 _ rfl; have x4 := boxed2_a hqy 4 _ rfl; have x5 := boxed2_a hqy 5 _ rfl; have x6 := boxed2_a hqy 6 _ rfl; have x7 := boxed2_a hqy 7 _ rfl; have x8 := boxed2_a hqy 8 _ rfl; have x9 := boxed2_a hqy 9 _ rfl; have y0 := boxed2_b hqy 0 _ rfl; have y1 := boxed2_b hqy 1 _ rfl; have y2 := boxed2_b hqy 2 _ rfl; have y3 := boxed2_b hqy 3 _ rfl; have y4 := boxed2_b hqy 4 _ rfl; have y5 := boxed2_b hqy 5 _ rfl; have y6 := boxed2_b hqy 6 _ rfl; have y7 := boxed2_b hqy 7 _ rfl; have y8 := boxed2_b hqy 8 _ rfl; have y9 := boxed2_b hqy 9 _ rfl; have fz : ∀ j, y.frozen? ⟨w.heap.size, j, none⟩ = false ∧ y.frozen? ⟨w.heap.size + 1, j, none⟩ = false := boxed2_free hqy; have fz9 := (fz 9).1; have g0 := (fz 0).2; have g1 := (fz 1).2; have g2 := (fz 2).2; have g3 := (fz 3).2; have g4 := (fz 4).2; have g5 := (fz 5).2; have g6 := (fz 6).2; have g7 := (fz 7).2; have g8 := (fz 8).2; have g9 := (fz 9).2; clear fz; have HE := hideIt (And.intro hG (And.intro p2 (And.intro p3 (And.intro p4 hqy)))); clear hG p2 p3 p4 p5 hqy)
          all_goals go_wp2_with (fail)
          all_goals (
            obtain ⟨hG, p2, p3, p4, hqy⟩ := HE.out
            refine bodyPost_ret (v := nodeV v (.slice a' G.len c')) (by simp [results, Try.results43, go_sem, *]) rfl ?_
            exact rpl_end hW hqy (by rw [HP.out, hG]; exact Cp.refl _) p2 p3 p4 _ ⟨_, _, _, _, _, _, _, _, _, _, _, rfl⟩)
        · have hcap' : ¬ ((c : Int) = (k : Int) + 1) := by omega
          have C1 := hideIt (CAT.out (some ⟨b, o + (k + 1) * 10, none⟩) (c - (k + 1)) D3.out ⟨by rw [L3.out]; omega, Nat.le_trans (Nat.sub_le _ _) hsc.out, fun h => by cases h⟩)
          clear CAT
          go_wp2_with (fail)
          go_region_with (go_at_call 48; refine C1.out.mono ?_; rintro e y ⟨a', c', G, rfl, hG, p2, p3, p4, p5⟩; have hqy := HQ.out.trans p5; have x0 := boxed2_a hqy 0 _ rfl; have x1 := boxed2_a hqy 1 _ rfl; have x2 := boxed2_a hqy 2 _ rfl; have x3 := boxed2_a hqy 3 _ rfl; have x4 := boxed2_a hqy 4 _ rfl; have x5 := boxed2_a hqy 5 _ rfl; have x6 := boxed2_a hqy 6 _ rfl; have x7 := boxed2_a hqy 7 _ rfl; have x8 := boxed2_a hqy 8 _ rfl; have x9 := boxed2_a hqy 9 _ rfl; have y0 := boxed2_b hqy 0 _ rfl; have y1 := boxed2_b hqy 1 _ rfl; have y2 := boxed2_b hqy 2 _ rfl; have y3 := boxed2_b hqy 3 _ rfl; have y4 := boxed2_b hqy 4 _ rfl; have y5 := boxed2_b hqy 5 _ rfl; have y6 := boxed2_b hqy 6 _ rfl; have y7 := boxed2_b hqy 7 _ rfl; have y8 := boxed2_b hqy 8 _ rfl; have y9 := boxed2_b hqy 9 _ rfl; have fz : ∀ j, y.frozen? ⟨w.heap.size, j, none⟩ = false ∧ y.frozen? ⟨w.heap.size + 1, j, none⟩ = false := boxed2_free hqy; have fz9 := (fz 9).1; have g0 := (fz 0).2; have g1 := (fz 1).2; have g2 := (fz 2).2; have g3 := (fz 3).2; have g4 := (fz 4).2; have g5 := (fz 5).2; have g6 := (fz 6).2; have g7 := (fz 7).2; have g8 := (fz 8).2; have g9 := (fz 9).2; clear fz; have HE := hideIt (And.intro hG (And.intro p2 (And.intro p3 (And.intro p4 hqy)))); clear hG p2 p3 p4 p5 hqy)
          all_goals go_wp2_with (fail)
          all_goals (
            obtain ⟨hG, p2, p3, p4, hqy⟩ := HE.out
            refine bodyPost_ret (v := nodeV v (.slice a' G.len c')) (by simp [results, Try.results43, go_sem, *]) rfl ?_
            exact rpl_end hW hqy (by rw [HP.out, hG]; exact Cp.refl _) p2 p3 p4 _ ⟨_, _, _, _, _, _, _, _, _, _, _, rfl⟩)
      · have hrp : 0 < r := by omega
        have hr0 : (r == 0) = false := by simp [hr]
        have hksz : (f.drop k).size = ks.size + 1 + (f.drop (k + 1)).size := by rw [e]; rfl
        have hks : ks.size + 1 ≤ f.size := by have := f.size_drop k; omega
        have hsm : Hid (((min (ks.size + 1) 4001 : Nat) : Int) = (ks.size : Int) + 1) := by show _ = _; omega
        have SZ := hideIt (size_any ks v' ka kc (wr.alloc (.cells #[.int .u8 v'.k, .int .u8 v'.op, .int .u8 v'.tk, .int .u8 v'.ti, .int .i64 v'.tn, .int .i64 v'.n, .int .i64 v'.m, .string v'.nm, .string v'.fd, .slice ka ks.len kc] 26)) hv' (hin'.keep (Nat.le_refl _) (HQw.out.trans (boxed_q wr v' _))) hs' (by omega))
        have T10 := hideIt (show ∀ x, Q (wr.alloc (.cells #[.int .u8 v'.k, .int .u8 v'.op, .int .u8 v'.tk, .int .u8 v'.ti, .int .i64 v'.tn, .int .i64 v'.n, .int .i64 v'.m, .string v'.nm, .string v'.fd, .slice ka ks.len kc] 26)) x → x.cell? ⟨wr.heap.size, 0, none⟩ = some (.int .u8 v'.k) ∧ x.cell? ⟨wr.heap.size, 1, none⟩ = some (.int .u8 v'.op) ∧ x.cell? ⟨wr.heap.size, 2, none⟩ = some (.int .u8 v'.tk) ∧ x.cell? ⟨wr.heap.size, 3, none⟩ = some (.int .u8 v'.ti) ∧ x.cell? ⟨wr.heap.size, 4, none⟩ = some (.int .i64 v'.tn) ∧ x.cell? ⟨wr.heap.size, 5, none⟩ = some (.int .i64 v'.n) ∧ x.cell? ⟨wr.heap.size, 6, none⟩ = some (.int .i64 v'.m) ∧ x.cell? ⟨wr.heap.size, 7, none⟩ = some (.string v'.nm) ∧ x.cell? ⟨wr.heap.size, 8, none⟩ = some (.string v'.fd) ∧ x.cell? ⟨wr.heap.size, 9, none⟩ = some (.slice ka ks.len kc) from fun x hx => ⟨boxed_cell hx 0 _ rfl, boxed_cell hx 1 _ rfl, boxed_cell hx 2 _ rfl, boxed_cell hx 3 _ rfl, boxed_cell hx 4 _ rfl, boxed_cell hx 5 _ rfl, boxed_cell hx 6 _ rfl, boxed_cell hx 7 _ rfl, boxed_cell hx 8 _ rfl, boxed_cell hx 9 _ rfl⟩)
        have QB := hideIt (boxed_q wr v' (.slice ka ks.len kc))
        by_cases hrk : r < (ks.size : Int) + 1
        · have HPT := hideIt (show putS F (id - 1) f = (f.take k).app (.cons v' ka kc (putS F (r - 1) ks) (f.drop (k + 1))) by
            have := HR2.out
            rw [putS_at F f k (id - 1) (by omega), show id - 1 - ((f.take k).size : Int) = r by omega, e, putS_within _ _ _ _ _ _ _ hrp hrk])
          have CL := hideIt (fun (y0 : World) (h : Q w y0) => clone_at h HIN.out HS.out (by omega) hlen)
          have RC := hideIt (fun (x : World) (h : Q w x) => ih ks (by omega) v' ka kc r F la lc x W0 (hin'.keep (Nat.le_refl _) h) hs' (hinF.keep (Nat.le_refl _) h) hsF (by have := hav.kids.drop k; rw [e] at this; exact this.1) havF (Nat.le_trans hW h.size) (by omega) (by omega) (by omega) hFl)
          have ZF := hideIt (fun (y1 z : World) (vv : Value) (g : Nat) (cur : Array Value) (hq : Q (boxed2 w v (.slice (some ⟨b, o, none⟩) f.len c) (nf 0 0) (.slice none 0 0)) y1) (hz : Q (y1.setCell ⟨w.heap.size, 9, none⟩ vv).drew z) (hg : w.heap.size + 2 ≤ g) (hh : y1.heap[g]? = some (.cells cur 26 (0, 0))) (ht : cur.toList.take (f.len * 10) = cellsF f) => z_facts (c1 := 0) hq hz hg hh ht e hlt)
          have CS := hideIt (fun (z : World) (G2 : Fo) (g c1 c2 : Nat) (cur : Array Value) (a2 : Option Addr) (hg : w.heap.size + 2 ≤ g) (hz : z.heap[g]? = some (.cells cur 26 (0, 0))) (ht : cur.toList.take (f.len * 10) = cellsF f) (hcs : cur.size = c1 * 10) (hfc : f.len ≤ c1) (hqz : Q w z) (hi2 : In z a2 G2) (hs2 : sok a2 G2.len c2) (ha2 : Av (fun b => b < W0 ∨ g < b) a2 G2) => clone_set (y1 := w) hW HIN.out hav e hlt hg hz ht hcs hfc hqz hi2 hs2 hv' ha2)
          have kk0 : (0 : Int) ≤ (k : Int) := by omega
          clear ih hav havF hinF hsF hat hv' hs' hin' e r1
          go_wp2_with (first
            | (go_at_call 10; refine SZ.out.mono ?_; rw [hsm.out]; rintro e y0 ⟨rfl, q1⟩; have QX := hideIt (HQ.out.trans (QB.out.trans q1)); have QW := hideIt ((boxed2_q _ _ _ _ _).trans QX.out); have n9 := boxed2_a QX.out 9 _ rfl; have T1 := hideIt (T10.out y0 q1); clear q1 x9)
            | (go_at_call 49; refine (CL.out _ QW.out).mono ?_; rintro e y1 ⟨g, cc, cur, rfl, s1, hg, hh, ht, hcs, q2⟩; have QX1 := hideIt (QX.out.trans q2); have f9 := (boxed2_free QX1.out 9).1; have m9 := boxed2_a QX1.out 9 _ rfl; have QW2 := hideIt (show Q w (y1.setCell ⟨w.heap.size, 9, none⟩ (.slice (some ⟨g, 0, none⟩) f.len cc)).drew from q_drew (Below.setCell ((boxed2_q _ _ _ _ _).trans QX1.out) (Nat.le_refl _) _)); have HG := hideIt (show w.heap.size + 2 ≤ g by have := QX.out.size; simp at this; omega); have HHH := hideIt (And.intro hh (And.intro ht (And.intro hcs (And.intro s1 q2)))); have d0 : (y1.setCell ⟨w.heap.size, 9, none⟩ (.slice (some ⟨g, 0, none⟩) f.len cc)).cell? ⟨wr.heap.size, 0, none⟩ = some (.int .u8 v'.k) := kid_far hwr (q2.cell (p := ⟨wr.heap.size, 0, none⟩) (World.block_lt_of_cell? _ _ T1.out.1) |>.trans T1.out.1); have d1 : (y1.setCell ⟨w.heap.size, 9, none⟩ (.slice (some ⟨g, 0, none⟩) f.len cc)).cell? ⟨wr.heap.size, 1, none⟩ = some (.int .u8 v'.op) := kid_far hwr (q2.cell (p := ⟨wr.heap.size, 1, none⟩) (World.block_lt_of_cell? _ _ T1.out.2.1) |>.trans T1.out.2.1); have d2 : (y1.setCell ⟨w.heap.size, 9, none⟩ (.slice (some ⟨g, 0, none⟩) f.len cc)).cell? ⟨wr.heap.size, 2, none⟩ = some (.int .u8 v'.tk) := kid_far hwr (q2.cell (p := ⟨wr.heap.size, 2, none⟩) (World.block_lt_of_cell? _ _ T1.out.2.2.1) |>.trans T1.out.2.2.1); have d3 : (y1.setCell ⟨w.heap.size, 9, none⟩ (.slice (some ⟨g, 0, none⟩) f.len cc)).cell? ⟨wr.heap.size, 3, none⟩ = some (.int .u8 v'.ti) := kid_far hwr (q2.cell (p := ⟨wr.heap.size, 3, none⟩) (World.block_lt_of_cell? _ _ T1.out.2.2.2.1) |>.trans T1.out.2.2.2.1); have d4 : (y1.setCell ⟨w.heap.size, 9, none⟩ (.slice (some ⟨g, 0, none⟩) f.len cc)).cell? ⟨wr.heap.size, 4, none⟩ = some (.int .i64 v'.tn) := kid_far hwr (q2.cell (p := ⟨wr.heap.size, 4, none⟩) (World.block_lt_of_cell? _ _ T1.out.2.2.2.2.1) |>.trans T1.out.2.2.2.2.1); have d5 : (y1.setCell ⟨w.heap.size, 9, none⟩ (.slice (some ⟨g, 0, none⟩) f.len cc)).cell? ⟨wr.heap.size, 5, none⟩ = some (.int .i64 v'.n) := kid_far hwr (q2.cell (p := ⟨wr.heap.size, 5, none⟩) (World.block_lt_of_cell? _ _ T1.out.2.2.2.2.2.1) |>.trans T1.out.2.2.2.2.2.1); have d6 : (y1.setCell ⟨w.heap.size, 9, none⟩ (.slice (some ⟨g, 0, none⟩) f.len cc)).cell? ⟨wr.heap.size, 6, none⟩ = some (.int .i64 v'.m) := kid_far hwr (q2.cell (p := ⟨wr.heap.size, 6, none⟩) (World.block_lt_of_cell? _ _ T1.out.2.2.2.2.2.2.1) |>.trans T1.out.2.2.2.2.2.2.1); have d7 : (y1.setCell ⟨w.heap.size, 9, none⟩ (.slice (some ⟨g, 0, none⟩) f.len cc)).cell? ⟨wr.heap.size, 7, none⟩ = some (.string v'.nm) := kid_far hwr (q2.cell (p := ⟨wr.heap.size, 7, none⟩) (World.block_lt_of_cell? _ _ T1.out.2.2.2.2.2.2.2.1) |>.trans T1.out.2.2.2.2.2.2.2.1); have d8 : (y1.setCell ⟨w.heap.size, 9, none⟩ (.slice (some ⟨g, 0, none⟩) f.len cc)).cell? ⟨wr.heap.size, 8, none⟩ = some (.string v'.fd) := kid_far hwr (q2.cell (p := ⟨wr.heap.size, 8, none⟩) (World.block_lt_of_cell? _ _ T1.out.2.2.2.2.2.2.2.2.1) |>.trans T1.out.2.2.2.2.2.2.2.2.1); have d9 : (y1.setCell ⟨w.heap.size, 9, none⟩ (.slice (some ⟨g, 0, none⟩) f.len cc)).cell? ⟨wr.heap.size, 9, none⟩ = some (.slice ka ks.len kc) := kid_far hwr (q2.cell (p := ⟨wr.heap.size, 9, none⟩) (World.block_lt_of_cell? _ _ T1.out.2.2.2.2.2.2.2.2.2) |>.trans T1.out.2.2.2.2.2.2.2.2.2); clear s1 hh ht hcs q2 n9)
            | fail)
          go_region_with (go_at_call 43; refine (RC.out _ QW2.out).mono ?_; rintro e z ⟨a2, c2, G2, rfl, p1, p2, p3, p4, p5⟩; obtain ⟨zg, ze, zb⟩ := ZF.out y1 z _ g cur QX1.out p5 HG.out HHH.out.1 HHH.out.2.1; have ec0 : z.cell? ⟨g, k * 10, none⟩ = some (.int .u8 v'.k) := (ze 0 _ (by decide) rfl).1; have ef0 : z.frozen? ⟨g, k * 10, none⟩ = false := (ze 0 _ (by decide) rfl).2.1; have es0 : z.setCell ⟨g, k * 10, none⟩ (.int .u8 v'.k) = z := (ze 0 _ (by decide) rfl).2.2; have ec1 : z.cell? ⟨g, k * 10 + 1, none⟩ = some (.int .u8 v'.op) := (ze 1 _ (by decide) rfl).1; have ef1 : z.frozen? ⟨g, k * 10 + 1, none⟩ = false := (ze 1 _ (by decide) rfl).2.1; have es1 : z.setCell ⟨g, k * 10 + 1, none⟩ (.int .u8 v'.op) = z := (ze 1 _ (by decide) rfl).2.2; have ec2 : z.cell? ⟨g, k * 10 + 2, none⟩ = some (.int .u8 v'.tk) := (ze 2 _ (by decide) rfl).1; have ef2 : z.frozen? ⟨g, k * 10 + 2, none⟩ = false := (ze 2 _ (by decide) rfl).2.1; have es2 : z.setCell ⟨g, k * 10 + 2, none⟩ (.int .u8 v'.tk) = z := (ze 2 _ (by decide) rfl).2.2; have ec3 : z.cell? ⟨g, k * 10 + 3, none⟩ = some (.int .u8 v'.ti) := (ze 3 _ (by decide) rfl).1; have ef3 : z.frozen? ⟨g, k * 10 + 3, none⟩ = false := (ze 3 _ (by decide) rfl).2.1; have es3 : z.setCell ⟨g, k * 10 + 3, none⟩ (.int .u8 v'.ti) = z := (ze 3 _ (by decide) rfl).2.2; have ec4 : z.cell? ⟨g, k * 10 + 4, none⟩ = some (.int .i64 v'.tn) := (ze 4 _ (by decide) rfl).1; have ef4 : z.frozen? ⟨g, k * 10 + 4, none⟩ = false := (ze 4 _ (by decide) rfl).2.1; have es4 : z.setCell ⟨g, k * 10 + 4, none⟩ (.int .i64 v'.tn) = z := (ze 4 _ (by decide) rfl).2.2; have ec5 : z.cell? ⟨g, k * 10 + 5, none⟩ = some (.int .i64 v'.n) := (ze 5 _ (by decide) rfl).1; have ef5 : z.frozen? ⟨g, k * 10 + 5, none⟩ = false := (ze 5 _ (by decide) rfl).2.1; have es5 : z.setCell ⟨g, k * 10 + 5, none⟩ (.int .i64 v'.n) = z := (ze 5 _ (by decide) rfl).2.2; have ec6 : z.cell? ⟨g, k * 10 + 6, none⟩ = some (.int .i64 v'.m) := (ze 6 _ (by decide) rfl).1; have ef6 : z.frozen? ⟨g, k * 10 + 6, none⟩ = false := (ze 6 _ (by decide) rfl).2.1; have es6 : z.setCell ⟨g, k * 10 + 6, none⟩ (.int .i64 v'.m) = z := (ze 6 _ (by decide) rfl).2.2; have ec7 : z.cell? ⟨g, k * 10 + 7, none⟩ = some (.string v'.nm) := (ze 7 _ (by decide) rfl).1; have ef7 : z.frozen? ⟨g, k * 10 + 7, none⟩ = false := (ze 7 _ (by decide) rfl).2.1; have es7 : z.setCell ⟨g, k * 10 + 7, none⟩ (.string v'.nm) = z := (ze 7 _ (by decide) rfl).2.2; have ec8 : z.cell? ⟨g, k * 10 + 8, none⟩ = some (.string v'.fd) := (ze 8 _ (by decide) rfl).1; have ef8 : z.frozen? ⟨g, k * 10 + 8, none⟩ = false := (ze 8 _ (by decide) rfl).2.1; have es8 : z.setCell ⟨g, k * 10 + 8, none⟩ (.string v'.fd) = z := (ze 8 _ (by decide) rfl).2.2; have ec9 : z.cell? ⟨g, k * 10 + 9, none⟩ = some (.slice ka ks.len kc) := (ze 9 _ (by decide) rfl).1; have ef9 : z.frozen? ⟨g, k * 10 + 9, none⟩ = false := (ze 9 _ (by decide) rfl).2.1; have xz9 : z.cell? ⟨w.heap.size, 9, none⟩ = some (.slice (some ⟨g, 0, none⟩) f.len cc) := (box_facts QX1.out (show Q (y1.setCell ⟨w.heap.size, 9, none⟩ (.slice (some ⟨g, 0, none⟩) f.len cc)) z from ⟨p5.os, p5.tape, p5.output, p5.size, p5.block⟩)).2.1; obtain ⟨t1, t2, t3, t4⟩ := zb (k * 10 + 9) (.slice a2 G2.len c2); have x0 := t1 0 _ (by decide) rfl; have x1 := t1 1 _ (by decide) rfl; have x2 := t1 2 _ (by decide) rfl; have x3 := t1 3 _ (by decide) rfl; have x4 := t1 4 _ (by decide) rfl; have x5 := t1 5 _ (by decide) rfl; have x6 := t1 6 _ (by decide) rfl; have x7 := t1 7 _ (by decide) rfl; have x8 := t1 8 _ (by decide) rfl; have ry0 := t3 0 _ rfl; have g0 := t4 0; have ry1 := t3 1 _ rfl; have g1 := t4 1; have ry2 := t3 2 _ rfl; have g2 := t4 2; have ry3 := t3 3 _ rfl; have g3 := t4 3; have ry4 := t3 4 _ rfl; have g4 := t4 4; have ry5 := t3 5 _ rfl; have g5 := t4 5; have ry6 := t3 6 _ rfl; have g6 := t4 6; have ry7 := t3 7 _ rfl; have g7 := t4 7; have ry8 := t3 8 _ rfl; have g8 := t4 8; have ry9 := t3 9 _ rfl; have g9 := t4 9; have HE := hideIt (And.intro p1 (And.intro p2 (And.intro p3 (And.intro p4 (And.intro p5 zg))))); clear ze zb t1 t3 t4 p1 p2 p3 p4 p5 zg)
          all_goals go_wp2_with (fail)
          all_goals (
            obtain ⟨p1, p2, p3, p4, p5, zg⟩ := HE.out
            obtain ⟨hh, ht, hcs, s1, q2⟩ := HHH.out
            have hgl : g < y1.heap.size := lt_of_block hh
            obtain ⟨r1', r2', r3'⟩ := CS.out z G2 g cc c2 cur a2 HG.out zg ht hcs s1.1 (QW2.out.trans p5) p3 p2 (p4.mono (fun b hb => by simp at hb; omega))
            have hGl : ((f.take k).app (.cons v' a2 c2 G2 (f.drop (k + 1)))).len = f.len := by
              rw [app_len, take_len f k (by omega)]
              simp only [Fo.len, Fo.drop_len]
              omega
            refine bodyPost_ret (v := nodeV v (.slice (some ⟨g, 0, none⟩) f.len cc)) (by simp [results, Try.results43, go_sem, *]) rfl ?_
            have key := rpl_fin (v := v) (c' := cc) hW r3' (show Cp (putS F (id - 1) f) _ by rw [HPT.out]; exact Cp.app (Cp.refl _) ⟨rfl, p1, Cp.refl _⟩) (by rw [hGl]; exact s1) r1' r2'
            simp only [hGl] at key
            exact key _ ⟨_, _, _, _, _, _, _, _, _, _, rfl⟩)
        · have HT := hideIt (show r - ((ks.size : Int) + 1) = id - 1 - ((f.take (k + 1)).size : Int) by
            have h1 := size_take_drop f k
            have h2 := size_take_drop f (k + 1)
            have := HR2.out
            omega)
          have HS2 := hideIt (show r - ((ks.size : Int) + 1) < ((f.drop (k + 1)).size : Int) by omega)
          have b1 : 0 ≤ r - ((ks.size : Int) + 1) := by omega
          have b2 : r ≤ 4000 := by have := f.size_drop k; omega
          clear ih hav havF hinF hsF hat hv' hs' hin' e r1
          go_wp2_with (first | (go_at_call 10; refine SZ.out.mono ?_; rw [hsm.out]; rintro e y ⟨rfl, q1⟩; have Q1 := hideIt q1; clear q1) | fail)
          go_roundw
          case rel => exact ⟨k + 1, r - ((ks.size : Int) + 1), by go_num, by go_num, by omega, b1, HS2.out, HT.out, HQ.out.trans (QB.out.trans Q1.out)⟩
          case measure => simp [intOf]; omega

end Go.Proofs.Ytioeoillogpdoaa
