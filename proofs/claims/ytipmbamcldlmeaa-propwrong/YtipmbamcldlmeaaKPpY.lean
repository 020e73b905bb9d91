/-
  The example with another number, in memory, and what comes of it with the fault; the statement PropWrong: its walk over the program; the conditions: the number is in range.
-/
import Derived.Test.YtipmbamcldlmeaaKPpQ
import Derived.Deep.Cut
import Derived.Deep.RegionWith
namespace Go.Proofs.Ytipmbamcldlmeaa.Pp
open Go.RowKit
set_option linter.unusedVariables false

def lP (L : List PI) (g0 : Nat) : PP := ⟨L, true, 0, 0, 0, some ⟨g0, 0, none⟩, 4⟩
def lF (L : List PI) (g0 g1 : Nat) : PF := ⟨0, 4, [], [lP L g0], none, 0, some ⟨g1, 0, none⟩, 1⟩
def lC (L : List PI) (g0 g1 g2 : Nat) : PC := ⟨[], [], [lF L g0 g1], none, 0, none, 0, some ⟨g2, 0, none⟩, 1⟩
/-- What comes of the example with the fault. -/
def ys (m : Int) : List PI := [⟨21, 0, 1, 0, 0, 0, [], none, 0⟩, ⟨33, 0, 0, 0, 0, 0, [], none, 0⟩, ⟨20, 0, 0, 0, 0, m, [], none, 0⟩, ⟨33, 0, 0, 0, 0, 0, [], none, 0⟩]
theorem wrong_c (m : Int) (g0 g1 g2 : Nat) : propC true (eC m g0 g1 g2) = lC (ys m) g0 g1 g2 := rfl
theorem still_c (m : Int) (g0 g1 g2 : Nat) : propC false (lC (ys m) g0 g1 g2) = lC (ys m) g0 g1 g2 := rfl
theorem valid_c (m : Int) (g0 g1 g2 : Nat) : validP (lC (ys m) g0 g1 g2) = 0 := rfl
theorem run_c (m : Int) (g0 g1 g2 : Nat) : ocP (runP (lC (ys m) g0 g1 g2) 9) = ⟨true, m, 0, false, 5, [0, m]⟩ := rfl

/-- The example's blocks. -/
structure EB (w : World) (L : List PI) (g0 g1 g2 : Nat) : Prop where
  h0 : w.heap[g0]? = some (.cells (L.flatMap PI.cells).toArray 49 (0, 0))
  h1 : w.heap[g1]? = some (.cells ([lP L g0].flatMap PP.cells).toArray 47 (0, 0))
  h2 : w.heap[g2]? = some (.cells ([lF L g0 g1].flatMap PF.cells).toArray 44 (0, 0))
  n1 : g1 ≠ g0
  n2 : g2 ≠ g0
theorem EB.ok {w : World} {L : List PI} {g0 g1 g2 : Nat} (h : EB w L g0 g1 g2) (hl : L.length = 4) (hx : ∀ x ∈ L, x.ok w) : (lC L g0 g1 g2).ok w := by
  have z := i64_zero
  have z4 : I64 4 := by unfold I64; omega
  have s1 : ∀ g z k, k ≤ 4 → z ≤ 64 → sok z (some ⟨g, 0, none⟩) k k := fun g z k hk hz => ⟨Nat.le_refl _, by unfold maxLen; omega, (fun h => by cases h), by have : k * z ≤ 4 * 64 := Nat.mul_le_mul hk hz; omega⟩
  refine ⟨sok_no _, lst_no, sok_no _, lst_no, s1 _ _ _ (show 1 ≤ 4 by decide) (by decide), lst_blk fun k f hf => ⟨flat_block PF.len h.h2 hf, ?_⟩⟩
  have hf' := List.mem_of_getElem? hf
  simp [lC] at hf'
  subst hf'
  refine ⟨z, z4, sok_no _, lst_no, s1 _ _ _ (show 1 ≤ 4 by decide) (by decide), lst_blk fun k p hp => ⟨flat_block PP.len h.h1 hp, ?_⟩⟩
  have hp' := List.mem_of_getElem? hp
  simp [lF] at hp'
  subst hp'
  refine ⟨z, z, z, by show sok 64 (some ⟨g0, 0, none⟩) L.length 4; rw [hl]; exact s1 _ _ _ (show 4 ≤ 4 by decide) (by decide), lst_blk fun k x hx' => ⟨flat_block PI.len h.h0 hx', hx x (List.mem_of_getElem? hx')⟩⟩
theorem EB.q {w w' : World} {L : List PI} {g0 g1 g2 : Nat} (h : EB w L g0 g1 g2) (q : Q w w') : EB w' L g0 g1 g2 := ⟨heap_keep q h.h0, heap_keep q h.h1, heap_keep q h.h2, h.n1, h.n2⟩
theorem EB.set {w : World} {L M : List PI} {g0 g1 g2 : Nat} (h : EB w L g0 g1 g2) (hl : M.length = L.length) (j : Nat) (u : Value) (e : ((L.flatMap PI.cells).toArray).setIfInBounds j u = (M.flatMap PI.cells).toArray) : EB (w.setCell ⟨g0, j, none⟩ u) M g0 g1 g2 := by
  refine ⟨?_, ?_, ?_, h.n1, h.n2⟩
  · rw [block_setCell h.h0 u, e]
  · rw [Below.heap_setCell w ⟨g0, j, none⟩ u g1 h.n1, h.h1]; simp [lP, PP.cells, hl]
  · rw [Below.heap_setCell w ⟨g0, j, none⟩ u g2 h.n2, h.h2]; simp [lF, PF.cells]
theorem xs_ok {w : World} {m : Int} (hm : I64 m) : ∀ x ∈ xs m, x.ok w := fun x hx => by
  have z := i64_zero
  have z1 : I64 1 := by unfold I64; omega
  simp [xs] at hx
  rcases hx with rfl | rfl | rfl | rfl
  · exact ⟨by simp, by simp, z1, z, z, z, sok_no _, lst_no⟩
  · exact ⟨by simp, by simp, z, z1, z, z, sok_no _, lst_no⟩
  · exact ⟨by simp, by simp, z, z, z, hm, sok_no _, lst_no⟩
  · exact ⟨by simp, by simp, z, z1, z, z, sok_no _, lst_no⟩
theorem ys_ok {w : World} {m : Int} (hm : I64 m) : ∀ x ∈ ys m, x.ok w := fun x hx => by
  have z := i64_zero
  have z1 : I64 1 := by unfold I64; omega
  simp [ys] at hx
  rcases hx with rfl | rfl | rfl | rfl
  · exact ⟨by simp, by simp, z1, z, z, z, sok_no _, lst_no⟩
  · exact ⟨by simp, by simp, z, z, z, z, sok_no _, lst_no⟩
  · exact ⟨by simp, by simp, z, z, z, hm, sok_no _, lst_no⟩
  · exact ⟨by simp, by simp, z, z, z, z, sok_no _, lst_no⟩
/-- Some memory in which what comes of it lies. -/
theorem ys_in {w : World} {m : Int} (hm : I64 m) {g0 g1 g2 : Nat} (h : EB w (xs m) g0 g1 g2) : ∃ w0, (lC (ys m) g0 g1 g2).ok w0 := by
  have h1 := h.set (M := [⟨21, 0, 1, 0, 0, 0, [], none, 0⟩, ⟨33, 0, 0, 0, 0, 0, [], none, 0⟩, ⟨20, 0, 0, 0, 0, m, [], none, 0⟩, ⟨33, 0, 0, 1, 0, 0, [], none, 0⟩]) rfl 10 (.int .i64 0) rfl
  have h2 := h1.set (M := ys m) rfl 24 (.int .i64 0) rfl
  exact ⟨_, h2.ok rfl (ys_ok hm)⟩

theorem example_blk (w : World) : Calls Try.prog 18 #[] w fun e w' => ∃ g0 g1 g2, e = .returned (lC (xs 9) g0 g1 g2).v ∧ EB w' (xs 9) g0 g1 g2 ∧ w.heap.size ≤ g0 ∧ g0 < w'.heap.size ∧ Q w w' := by
  go_enter Try.func18, Try.ntmps18
  go_wp2
  refine bodyPost_ret (v := (lC (xs 9) (w.heap.size + 1) (w.heap.size + 1 + 1 + 1) (w.heap.size + 1 + 1 + 1 + 1)).v) (by simp [results, Try.results18, go_sem, lC]) rfl ?_
  exact ⟨_, _, _, rfl, ⟨heap_old _ (heap_old _ (heap_old _ (heap_at (by simp)))), heap_old _ (heap_at (by simp)), heap_at (by simp), by omega, by omega⟩, by omega, by simp, ((((Q.refl w).alloc _).alloc _).alloc _).alloc _ |>.alloc _⟩

/-- The example, run through with the fault, and what its run answers. -/
theorem wrun (w : World) (m : Int) (hm : I64 m) (g0 g1 g2 : Nat) (h : EB w (xs m) g0 g1 g2) : Calls Try.prog 9 #[.agg #[.slice none 0 0, .slice none 0 0, .slice (some ⟨g2, 0, none⟩) 1 1], .bool true] w fun e w' => ∃ (A : PC) (f : PF) (p : PP) (ib io : Nat), e = .returned (.tuple #[A.v, .int .i64 0]) ∧ A.ok w' ∧ A.fns = [f] ∧ f.parts = [p] ∧ p.ins.length = 4 ∧ p.ia = some ⟨ib, io, none⟩ ∧ w'.cell? ⟨ib, io + 21 + 3, none⟩ = some (.int .i64 0) ∧ (∀ X, A.ok X → Does X A 9 true m 0 false 5 [0, m]) ∧ Q w w' := by
  refine (erun_any w m true g0 g1 g2 (h.ok rfl (xs_ok hm))).mono ?_
  rintro e w' ⟨A, rfl, hev, hl, hb⟩
  have hev2 : EvC A (propC false (lC (ys m) g0 g1 g2)) := by rw [still_c, ← wrong_c]; exact hev
  obtain ⟨w0, hw0⟩ := ys_in hm h
  obtain ⟨f, p, e1, e2, h5⟩ := e_form hev
  rw [eC_wrong] at h5
  have hle := h5.len
  obtain ⟨x3, hx3⟩ := get_of_lt (l := p.ins) (k := 3) (by rw [hle]; simp)
  have a3 := (h5.each 3 x3 _ hx3 rfl).a
  obtain ⟨fb, fo, efa, hfat⟩ := hl.ok.fns 0 f (by rw [e1]; rfl)
  obtain ⟨pb, po, epa, hpat⟩ := hfat.2.parts 0 p (by rw [e2]; rfl)
  obtain ⟨ib, io, eia, hi3⟩ := hpat.2.ins 3 x3 hx3
  refine ⟨A, f, p, ib, io, rfl, hl.ok, e1, e2, hle, eia, ?_, fun X hX => ?_, hb⟩
  · have := hi3.1.seven.2.2.2.1
    rw [this, a3]
  · refine does_of hX (by decide) (valid_ev hw0 hev2 (valid_c m g0 g1 g2)) (o := ⟨true, m, 0, false, 5, [0, m]⟩) ?_
    rw [run_eq hev2 (Dn.valid_vc hw0 (valid_c m g0 g1 g2)).1.fn]
    exact run_c m g0 g1 g2

/-- The example in memory, boxed at b. -/
structure WS (w W : World) (b : Nat) (L : List PI) (g0 g1 g2 : Nat) : Prop where
  eb : EB W L g0 g1 g2
  bx : W.heap[b]? = some (.cells #[.slice none 0 0, .slice none 0 0, .slice (some ⟨g2, 0, none⟩) 1 1] 26 (0, 0))
  nb : b ≠ g0
  lo : w.heap.size ≤ g0
  q : Q w W
theorem ws_box {w x : World} {g0 g1 g2 : Nat} (h : EB x (xs 9) g0 g1 g2) (lo : w.heap.size ≤ g0) (hi : g0 < x.heap.size) (q : Q w x) : WS w (x.alloc (.cells #[.slice (lC (xs 9) g0 g1 g2).ga (lC (xs 9) g0 g1 g2).gl.length (lC (xs 9) g0 g1 g2).gc, .slice (lC (xs 9) g0 g1 g2).na (lC (xs 9) g0 g1 g2).ini.length (lC (xs 9) g0 g1 g2).nc, .slice (lC (xs 9) g0 g1 g2).fa (lC (xs 9) g0 g1 g2).fns.length (lC (xs 9) g0 g1 g2).fc] 26)) x.heap.size (xs 9) g0 g1 g2 :=
  ⟨h.q ((Q.refl x).alloc _), heap_new _ _, by omega, lo, q.alloc _⟩
theorem ws_put {w W : World} {b g0 g1 g2 : Nat} (h : WS w W b (xs 9) g0 g1 g2) (m : Int) : WS w (W.setCell ⟨g0, 19, none⟩ (.int .i64 m)) b (xs m) g0 g1 g2 :=
  ⟨h.eb.set (M := xs m) rfl 19 (.int .i64 m) rfl, by rw [Below.heap_setCell W ⟨g0, 19, none⟩ _ b h.nb]; exact h.bx, h.nb, h.lo, h.q.set h.lo _⟩
theorem trc_two {w : World} {ta : Option Addr} {a b : Int} (h : Dn.Trc w ta [a, b]) : ∃ tb to', ta = some ⟨tb, to', none⟩ ∧ w.cell? ⟨tb, to', none⟩ = some (.int .i64 a) ∧ w.cell? ⟨tb, to' + 1, none⟩ = some (.int .i64 b) := by
  obtain ⟨tb, to', e, h0⟩ := h 0 a rfl
  obtain ⟨tb2, to2, e2, h1⟩ := h 1 b rfl
  rw [e] at e2
  simp at e2
  obtain ⟨rfl, rfl⟩ := e2
  exact ⟨tb, to', e, by simpa using h0, by simpa using h1⟩

set_option maxRecDepth 100000 in
set_option maxHeartbeats 4000000 in
theorem wrong_walk (m : Int) (w : World) (hm : I64 m) : Calls Try.prog 6 #[.int .i64 m] w fun e w' => e = .returned (.bool true) ∧ Below w.heap.size w w' := by
  have CA : Hid (∀ X, Calls Try.prog 7 #[] X fun e w' => e = .returned (.bool true) ∧ Q X w') := fun X => awake_any X
  have CE := hideIt (fun X => example_blk X)
  go_enter Try.func6, Try.ntmps6
  go_upto_region 4 with (first
    | (go_at_call 7; refine Calls.mono (CA.out _) ?_; rintro e x1 ⟨rfl, q1⟩; have HX := hideIt q1; clear q1)
    | (go_at_call 18; refine Calls.mono (CE.out _) ?_; rintro e z ⟨g0, g1, g2, rfl, eb, lo, hi, q1⟩; have HS := hideIt (ws_box eb (Nat.le_trans HX.out.size lo) hi (HX.out.trans q1)); clear eb lo hi q1)
    | fail)
  have HS1 := HS.out
  generalize z.alloc (.cells #[.slice (lC (xs 9) g0 g1 g2).ga (lC (xs 9) g0 g1 g2).gl.length (lC (xs 9) g0 g1 g2).gc, .slice (lC (xs 9) g0 g1 g2).na (lC (xs 9) g0 g1 g2).ini.length (lC (xs 9) g0 g1 g2).nc, .slice (lC (xs 9) g0 g1 g2).fa (lC (xs 9) g0 g1 g2).fns.length (lC (xs 9) g0 g1 g2).fc] 26) = W at HS1 ⊢
  generalize z.heap.size = b at HS1 ⊢
  clear HS HX CE
  have S0 := hideIt HS1
  clear HS1
  have c1 : W.cell? ⟨b, 2, none⟩ = some (.slice (some ⟨g2, 0, none⟩) 1 1) := (cell_of_block S0.out.bx 2).trans rfl
  have c2 : W.cell? ⟨g2, 3, none⟩ = some (.slice (some ⟨g1, 0, none⟩) 1 1) := (cell_of_block S0.out.eb.h2 3).trans rfl
  have c3 : W.cell? ⟨g1, 0, none⟩ = some (.slice (some ⟨g0, 0, none⟩) 4 4) := (cell_of_block S0.out.eb.h1 0).trans rfl
  have c4 : W.cell? ⟨g0, 19, none⟩ = some (.int .i64 9) := (cell_of_block S0.out.eb.h0 19).trans rfl
  have fz : W.frozen? ⟨g0, 19, none⟩ = false := free_of_block S0.out.eb.h0 19
  go_upto_region 5 with (fail)
  clear c1 c2 c3 c4 fz
  have S1 := hideIt (ws_put S0.out m)
  generalize W.setCell ⟨g0, 19, none⟩ (.int .i64 m) = W4 at S1 ⊢
  clear S0
  have b0 : W4.cell? ⟨b, 0, none⟩ = some (.slice none 0 0) := (cell_of_block S1.out.bx 0).trans rfl
  have b1 : W4.cell? ⟨b, 1, none⟩ = some (.slice none 0 0) := (cell_of_block S1.out.bx 1).trans rfl
  have b2 : W4.cell? ⟨b, 2, none⟩ = some (.slice (some ⟨g2, 0, none⟩) 1 1) := (cell_of_block S1.out.bx 2).trans rfl
  have CR := hideIt (wrun W4 m hm g0 g1 g2 S1.out.eb)
  have CO := hideIt (fun X c f p h h1 h2 => one_any X c f p h h1 h2)
  have mm : (m == m) = true := by simp
  go_wp2_with (first
    | (go_at_call 9; refine Calls.mono CR.out ?_; rintro e y5 ⟨A, f, p, ib, io, rfl, a1, a2, a3, a4, a5, a6, a7, q2⟩; have A1 := hideIt a1; have A2 := hideIt a2; have A3 := hideIt a3; have A6 := hideIt a6; have A7 : Hid (∀ X, A.ok X → Calls Try.prog 11 #[A.v, .int .i64 (9 : Int)] X (DoA X true m 0 false 5 [0, m])) := a7; have H5 := hideIt (S1.out.q.trans q2); clear q2 a1 a2 a3 a6 a7 b0 b1 b2; have D5 := hideIt (cds_box y5 A))
    | (go_at_call 11; refine Calls.mono (A7.out _ (A1.out.keep ((Q.refl y5).alloc _))) ?_; rintro e y6 ⟨ta, tc, rfl, ht, hl, q3⟩; obtain ⟨tb, to', eta, t0, t1⟩ := trc_two ht; subst eta; have T0 := hideIt t0; have T1 := hideIt t1; have Q6 := hideIt (((Q.refl y5).alloc _).trans q3); have D6 := hideIt (D5.out.keep q3); clear ht hl q3 t0 t1; have s1 := fun ob => cell_keep ((Q.refl y6).alloc ob) D6.out.1; have s2 := fun ob => cell_keep ((Q.refl y6).alloc ob) D6.out.2.1; have s3 := fun ob => cell_keep ((Q.refl y6).alloc ob) D6.out.2.2)
    | (go_at_call 19; first
        | (have hh := Q8; clear hh; refine Calls.mono (CO.out y8 A f p (A1.out.keep (Q6.out.trans Q8.out)) A2.out A3.out) ?_; rw [a4, a5]; rintro e y9 ⟨rfl, q3⟩; have Q9 := hideIt (Q8.out.trans q3); have bk := (q3.block y6.heap.size (Array.getElem?_eq_some_iff.1 B8.out).1).trans B8.out; clear q3 s1 s2 s3; have r0 : y9.cell? ⟨y6.heap.size, 0, none⟩ = some (.bool true) := (cell_of_block bk 0).trans rfl; have r5 : y9.cell? ⟨y6.heap.size, 5, none⟩ = some (.slice (some ⟨tb, to', none⟩) 2 tc) := (cell_of_block bk 5).trans rfl; have n3 := cell_keep (Q6.out.trans Q9.out) A6.out; have t0 := cell_keep Q9.out T0.out; have t1 := cell_keep Q9.out T1.out; clear bk)
        | (refine Calls.mono (CO.out _ A f p (A1.out.keep (Q6.out.alloc _)) A2.out A3.out) ?_; rw [a4, a5]; rintro e y8 ⟨rfl, q3⟩; have Q8 := hideIt (((Q.refl y6).alloc _).trans q3); have B8 := hideIt ((q3.block y6.heap.size (by simp)).trans (heap_new y6 _)); have D8 := hideIt (D6.out.keep (((Q.refl y6).alloc _).trans q3)); clear q3 s1 s2 s3; obtain ⟨s1, s2, s3⟩ := D8.out))
    | fail)
  go_ret
  exact ⟨rfl, H5.out.trans (Q6.out.trans Q9.out)⟩

end Go.Proofs.Ytipmbamcldlmeaa.Pp
