/-
  The outcome of a run (outcome): a contract over the program; the conditions: a run lies there, and the code is right.
-/
import Derived.Test.YtcpgikgjolomcaaKRmW
namespace Go.Proofs.Ytcpgikgjolomcaa
open Go.RowKit
set_option linter.unusedVariables false

abbrev ocA (o : Oc) (tv : Value) : Array Value := #[.bool o.h, .int .i64 o.x, .int .u8 o.t, .bool o.sp, .int .i64 (o.n : Int), tv]
/-- An outcome as a value: its trace lies in a row of its own. -/
def OutPost (w0 : World) (B : Nat) (o : Oc) (v : Value) (w' : World) : Prop :=
  ∃ ta tc, v = .agg (ocA o (.slice ta o.tr.length tc)) ∧ w'.ownsRow B 2 1 (.slice ta o.tr.length tc) o.tr.length (rowI o.tr) ∧ Below w0.heap.size w0 w'

/-- What a call's end says of the outcome. -/
theorem out_call {w w0 : World} {R p gb gc : Nat} {col : Col} {c : PC} {fuel : Nat} {s : St} {G : GG} {k : Nat} {r : Rs Int} {e : Ending} {z : World} (h : CallPost w w0 R p gb gc col c fuel s G k r e z) :
    ∃ (v t : Int) (sp : Bool) (col' : Col) (A' : List Int) (G' : GG) (s' : St), e = .returned (.tuple #[.int .i64 v, .agg #[.int .u8 t, .bool sp]]) ∧ RI z w0 R p gb gc col' c fuel s' A' G' ∧ Ex col w col' z ∧ ((t = 0 ∧ sp = false ∧ ocP r = ⟨true, v, 0, false, s'.n, s'.tr⟩) ∨ ((t ≠ 0 ∨ sp = true) ∧ ocP r = ⟨false, 0, t, sp, s'.n, s'.tr⟩)) := by
  cases r with
  | ok v s' =>
    obtain ⟨rfl, col', A', G', a1, a2, -⟩ := h
    exact ⟨v, 0, false, col', A', G', s', rfl, a1, a2, Or.inl ⟨rfl, rfl, rfl⟩⟩
  | over t sp s' =>
    obtain ⟨rfl, hne, col', A', G', s'', a1, a2, -, a4, a5, -⟩ := h
    exact ⟨0, t, sp, col', A', G', s'', rfl, a1, a2, Or.inr ⟨hne, by simp [ocP, a4, a5]⟩⟩

abbrev bxO (w : World) : World := w.alloc (.cells #[.bool false, .int .i64 0, .int .u8 0, .bool false, .int .i64 0, .slice none 0 0] 31)

/-- What is somebody's is as it was. -/
structure SO (w0 z W : World) (col : Col) : Prop where
  blk : ∀ b τ, col b = some τ → W.heap[b]? = z.heap[b]?
  sz : z.heap.size ≤ W.heap.size
  bel : Below w0.heap.size w0 W
  lt : ∀ b τ, col b = some τ → b < z.heap.size
theorem SO.alloc {w0 z W : World} {col : Col} (h : SO w0 z W col) (o : Obj) : SO w0 z (W.alloc o) col :=
  ⟨fun b τ e => (Below.heap_alloc W o b (Nat.lt_of_lt_of_le (h.lt b τ e) h.sz)).trans (h.blk b τ e), by have := h.sz; simp; omega, Below.alloc h.bel h.bel.size o, h.lt⟩
theorem SO.drew {w0 z W : World} {col : Col} (h : SO w0 z W col) : SO w0 z W.drew col := ⟨h.blk, h.sz, Below.drew h.bel, h.lt⟩
theorem SO.set {w0 z W : World} {col : Col} (h : SO w0 z W col) {b : Nat} (hc : col b = none) (hB : w0.heap.size ≤ b) (j : Nat) (u : Value) : SO w0 z (W.setCell ⟨b, j, none⟩ u) col :=
  ⟨fun q τ e => (Below.heap_setCell W ⟨b, j, none⟩ u q (fun x => by rw [x, hc] at e; cases e)).trans (h.blk q τ e), by have := h.sz; simpa using this, Below.setCell h.bel hB u, h.lt⟩

set_option maxRecDepth 100000 in
set_option maxHeartbeats 4000000 in
theorem outcome_ri {w w0 : World} {R p gb gc : Nat} {col : Col} {c : PC} {fuel : Nat} {G : GG} (h : GS w w w0 R p gb gc col col c fuel G 0) (hf : fuel ≤ 8388608) (hv : VC c w0) (hr : roomL 65536 c.gl = true) (hli : c.ini.length = c.gl.length) (hid : idles c c.fns.length G) {f : PF} (hk : c.fns[c.fns.length - 1]? = some f) (hp : f.params = 0) :
    Calls Try.prog 16 #[.pointer (some ⟨R, 0, none⟩)] w fun e w' => ∃ v, e = .returned v ∧ OutPost w0 w0.heap.size (ocP (runP c fuel)) v w' := by
  have hkl := (List.getElem?_eq_some_iff.1 hk).1
  have HG := hideIt (globals_ri (w := bxO w) (col := col) (c := c) (G := G) (R := R) (p := p) (gb := gb) (gc := gc) (fuel := fuel) (w0 := w0) ⟨h.ri.alloc _, Ex.refl _ _, by obtain ⟨bl, m, z1, z2, z3⟩ := h.me; exact ⟨bl, m, z1, z2, z3.below ((Q.refl w).alloc _)⟩⟩ hv.ok hr hli)
  have hgs : glS c c.gl.length = start c := by
    unfold glS start
    rw [List.take_length, ← hli, List.take_length]
  have CL := hideIt (fun (y : World) (col2 : Col) (hy : RI y w0 R p gb gc col2 c fuel (start c) [] G) => call_all hf hv c.fns.length (c.fns.length - 1) f (by omega) hk y col2 (start c) [] G hy (fun j fj hj hfj => hid j fj (by omega) hfj) (by rw [hp]; rfl))
  have hn : ((c.fns.length - 1 : Nat) : Int) = (c.fns.length : Int) - 1 := by omega
  rw [hn] at CL
  have hfl : c.fns.length ≤ 9223372036854775807 := hv.ok.fsok.len
  have hn0 : col w.heap.size = none := h.ri.none (Nat.le_refl _)
  have hlw := h.ri.lew
  have HGS := hideIt hgs
  have N0 := hideIt hn0
  have LW := hideIt hlw
  have FIN := hideIt (show ∀ (W z : World) (col' : Col) (s' : St) (o : Oc) (ta : Option Addr) (tc : Nat), z.ownsRow w0.heap.size 2 1 (.slice ta s'.tr.length tc) s'.tr.length (rowI s'.tr) → (∀ b, (Value.slice ta s'.tr.length tc).ownBlock = some b → col' b = some .tr) → o.tr = s'.tr → ocP (runP c fuel) = o → SO w0 z W col' → OutPost w0 w0.heap.size (ocP (runP c fuel)) (.agg (ocA o (.slice ta s'.tr.length tc))) W from fun W z col' s' o ta tc h2 h4 ho hoc hW => by
    rw [hoc]
    refine ⟨ta, tc, by rw [ho], ?_, hW.bel⟩
    rw [ho]
    exact row_keep h2 (fun b hb => hW.blk b _ (h4 b hb)))
  have RP := hideIt (show runP c fuel = callR c fuel c.fns.length (c.fns.length - 1) [] (start c) from rfl)
  generalize hOO : w.heap.size = O at *
  clear h hf hv hr hli hid hk hp hgs hn0 hlw hn
  go_enter Try.func16, Try.ntmps16
  go_wp2_with (first
    | (go_at_call 31; refine HG.out.mono ?_; rintro e y ⟨rfl, col2, g1⟩; have GR := g1.ri; rw [HGS.out] at GR; have CY := hideIt (CL.out y col2 GR); have y2 := GR.c1.2.2; have b1 := Ex.blk g1.ex N0.out (by rw [← hOO]; exact heap_alloc_new w _); have NY := hideIt ((g1.ex.col O (by rw [← hOO]; simp)).trans N0.out); have B1 := hideIt b1; clear g1 GR b1)
    | (go_at_call 32; refine CY.out.mono ?_; intro e z hz; obtain ⟨v, t, sp, col3, A3, G3, s3, rfl, a1, a2, a3⟩ := out_call hz; have b1 := Ex.blk a2 NY.out B1.out; have NZ := hideIt ((a2.col O (Array.getElem?_eq_some_iff.1 B1.out).1).trans NY.out); have HZ := hideIt (And.intro a1 (And.intro a3 b1)); clear hz a1 a2 a3 b1)
    | fail)
  obtain ⟨hri, hoc, hb1⟩ := HZ.out
  obtain ⟨tv, av, z1, z2, -, z4, -⟩ := hri.run
  obtain ⟨ta, tc, ez, -, -⟩ := Me.ownsRow_form z2
  subst ez
  have S0 := hideIt (show SO w0 z z col3 from ⟨fun _ _ _ => rfl, Nat.le_refl _, hri.bel, fun b τ e => (hri.lt b τ e).2⟩)
  have NB := hideIt (show ∀ b, z.heap.size ≤ b → col3 b = none ∧ w0.heap.size ≤ b from fun b hb => ⟨hri.none hb, Nat.le_trans hri.lew hb⟩)
  have Z2 := hideIt z2
  have Z4 := hideIt z4
  rw [← RP.out] at hoc
  have r4 := Me.cell_of_block z1 4
  have r5 := Me.cell_of_block z1 5
  have r4' := fun ob => Me.cell_box r4 ob
  have r5' := fun ob => Me.cell_box r5 ob
  have r4'' := fun ob ob2 => Me.cell_box (r4' ob) ob2
  have r5'' := fun ob ob2 => Me.cell_box (r5' ob) ob2
  have LO := hideIt (show w0.heap.size ≤ O from LW.out)
  have hOz : O < z.heap.size := (Array.getElem?_eq_some_iff.1 hb1).1
  have oc0 : ∀ j : Nat, z.cell? ⟨O, j, none⟩ = _ := fun j => Me.cell_of_block hb1 j
  have of0 : ∀ j : Nat, z.frozen? ⟨O, j, none⟩ = false := fun j => Me.free_of_block hb1 j
  rcases hoc with ⟨rfl, rfl, hoc⟩ | ⟨hne, hoc⟩
  · have HOC := hideIt hoc
    clear hri z1 z2 z4 hoc y2
    go_region
    go_wp2_with (fail)
    exact bodyPost_ret (v := .agg #[.bool true, .int .i64 v, .int .u8 0, .bool false, .int .i64 (s3.n : Int), .slice ta s3.tr.length tc]) (by simp [results, Try.results16, go_sem, oc0, hOz, World.cell?_alloc_past]) rfl ⟨_, rfl, FIN.out _ z col3 s3 ⟨true, v, 0, false, s3.n, s3.tr⟩ ta tc Z2.out Z4.out rfl HOC.out (((((((((S0.out.set NZ.out LO.out _ _).set NZ.out LO.out _ _).set NZ.out LO.out _ _).set NZ.out LO.out _ _).set NZ.out LO.out _ _).set NZ.out LO.out _ _).alloc _).alloc _).drew)⟩
  · by_cases ht : t = 0
    · subst ht
      cases sp
      · exact absurd hne (by simp)
      · have HOC := hideIt hoc
        clear hri z1 z2 z4 hoc y2 hne
        go_region
        go_wp2_with (fail)
        exact bodyPost_ret (v := .agg #[.bool false, .int .i64 0, .int .u8 0, .bool true, .int .i64 (s3.n : Int), .slice ta s3.tr.length tc]) (by simp [results, Try.results16, go_sem, oc0, hOz, World.cell?_alloc_past]) rfl ⟨_, rfl, FIN.out _ z col3 s3 ⟨false, 0, 0, true, s3.n, s3.tr⟩ ta tc Z2.out Z4.out rfl HOC.out (((((((((S0.out.set NZ.out LO.out _ _).set NZ.out LO.out _ _).set NZ.out LO.out _ _).set NZ.out LO.out _ _).set NZ.out LO.out _ _).set NZ.out LO.out _ _).alloc _).alloc _).drew)⟩
    · have HOC := hideIt hoc
      have ht1 : (t == 0) = false := by simpa using ht
      have ht2 : decide (t = 0) = false := by simpa using ht
      clear hri z1 z2 z4 hoc y2 hne
      go_region
      go_wp2_with (fail)
      exact bodyPost_ret (v := .agg #[.bool false, .int .i64 0, .int .u8 t, .bool sp, .int .i64 (s3.n : Int), .slice ta s3.tr.length tc]) (by simp [results, Try.results16, go_sem, oc0, hOz, World.cell?_alloc_past]) rfl ⟨_, rfl, FIN.out _ z col3 s3 ⟨false, 0, t, sp, s3.n, s3.tr⟩ ta tc Z2.out Z4.out rfl HOC.out (((((((((S0.out.set NZ.out LO.out _ _).set NZ.out LO.out _ _).set NZ.out LO.out _ _).set NZ.out LO.out _ _).set NZ.out LO.out _ _).set NZ.out LO.out _ _).alloc _).alloc _).drew)⟩

end Go.Proofs.Ytcpgikgjolomcaa
