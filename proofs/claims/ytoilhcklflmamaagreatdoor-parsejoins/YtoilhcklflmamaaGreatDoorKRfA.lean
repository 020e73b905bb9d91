/-
  The document's reader of layer 5 in memory, and its small functions, where what they ask for is there: contracts over the program; the conditions: the reader lies in memory, without a fault so far.
-/
import Derived.Test.YtoilhcklflmamaaGreatDoorKPrG
import Derived.Deep.QuietTactic
namespace Go.Proofs.YtoilhcklflmamaaGreatDoor
open Go.RowKit
open Pr
set_option linter.unusedVariables false

/-- The document's reader's own block, and its tokens. -/
structure RR (w : World) (R g cap : Nat) (L : List Tok) (i : Nat) (o : Int) : Prop where
  blk : w.heap[R]? = some (.cells #[.slice (some ⟨g, 0, none⟩) L.length cap, .int .i64 (i : Int), .int .i64 o, .int .i64 0, .int .i64 0] 56 (0, 0))
  tks : Tks w g cap L
  lt : g < R
theorem RR.far {w w' : World} {R g cap : Nat} {L : List Tok} {i : Nat} {o : Int} (h : RR w R g cap L i o) (hs : w.heap.size ≤ w'.heap.size) (hk : ∀ k, k ≤ R → w'.heap[k]? = w.heap[k]?) : RR w' R g cap L i o :=
  ⟨(hk R (Nat.le_refl _)).trans h.blk, h.tks.far hs (hk g (Nat.le_of_lt h.lt)), h.lt⟩
theorem RR.lt_size {w : World} {R g cap : Nat} {L : List Tok} {i : Nat} {o : Int} (h : RR w R g cap L i o) : R < w.heap.size := lt_of_block h.blk
theorem RR.q {w w' : World} {R g cap : Nat} {L : List Tok} {i : Nat} {o : Int} (h : RR w R g cap L i o) (q : Q w w') : RR w' R g cap L i o :=
  h.far q.size (fun k hk => q.block k (Nat.lt_of_le_of_lt hk h.lt_size))
theorem RR.alloc {w : World} {R g cap : Nat} {L : List Tok} {i : Nat} {o : Int} (h : RR w R g cap L i o) (ob : Obj) : RR (w.alloc ob) R g cap L i o := h.q ((Q.refl w).alloc ob)
theorem RR.drew {w : World} {R g cap : Nat} {L : List Tok} {i : Nat} {o : Int} (h : RR w R g cap L i o) : RR w.drew R g cap L i o := h.q (Q.refl w).drew
theorem Fr.drewN {R : Nat} {a b : World} (h : Fr R a b) (n : Nat) : Fr R a (b.drewN n) := ⟨h.os, h.tape, h.output, h.size, h.block⟩
theorem RR.drewN {w : World} {R g cap : Nat} {L : List Tok} {i : Nat} {o : Int} (h : RR w R g cap L i o) (n : Nat) : RR (w.drewN n) R g cap L i o := h.far (Nat.le_refl _) (fun _ _ => rfl)
theorem RR.setCell {w : World} {R g cap : Nat} {L : List Tok} {i : Nat} {o : Int} (h : RR w R g cap L i o) {p : Addr} (hp : R < p.block) (u : Value) : RR (w.setCell p u) R g cap L i o :=
  h.far (by simp) (fun k hk => Below.heap_setCell w p u k (by omega))
theorem RR.set1 {w : World} {R g cap : Nat} {L : List Tok} {i : Nat} {o : Int} (h : RR w R g cap L i o) : RR (w.setCell ⟨R, 1, none⟩ (.int .i64 ((i : Int) + 1))) R g cap L (i + 1) o :=
  ⟨by rw [block_setCell h.blk]; rfl, h.tks.far (by simp) (Below.heap_setCell w _ _ g (by show g ≠ R; have := h.lt; omega)), h.lt⟩
theorem RR.set2 {w : World} {R g cap : Nat} {L : List Tok} {i : Nat} {o : Int} (h : RR w R g cap L i o) (o' : Int) : RR (w.setCell ⟨R, 2, none⟩ (.int .i64 o')) R g cap L i o' :=
  ⟨by rw [block_setCell h.blk]; rfl, h.tks.far (by simp) (Below.heap_setCell w _ _ g (by show g ≠ R; have := h.lt; omega)), h.lt⟩
theorem RR.five {w : World} {R g cap : Nat} {L : List Tok} {i : Nat} {o : Int} (h : RR w R g cap L i o) : w.cell? ⟨R, 0, none⟩ = some (.slice (some ⟨g, 0, none⟩) L.length cap) ∧ w.cell? ⟨R, 1, none⟩ = some (.int .i64 (i : Int)) ∧ w.cell? ⟨R, 2, none⟩ = some (.int .i64 o) ∧ w.cell? ⟨R, 3, none⟩ = some (.int .i64 0) ∧ w.cell? ⟨R, 4, none⟩ = some (.int .i64 0) :=
  ⟨cell_of_block h.blk 0, cell_of_block h.blk 1, cell_of_block h.blk 2, cell_of_block h.blk 3, cell_of_block h.blk 4⟩
theorem RR.free {w : World} {R g cap : Nat} {L : List Tok} {i : Nat} {o : Int} (h : RR w R g cap L i o) (j : Nat) : w.frozen? ⟨R, j, none⟩ = false := free_of_block h.blk j
theorem RR.grown {X w' : World} {R g cap : Nat} {L : List Tok} {i : Nat} {o : Int} {row : Option Nat} (h : RR X R g cap L i o) (k : X.grownBy w' row) (hr : ∀ j, row = some j → R < j) : RR w' R g cap L i o :=
  h.far k.size (fun j hj => k.block j (Nat.lt_of_le_of_lt hj h.lt_size) (fun e => by have := hr j e.symm; omega))

/-- Is a token that word or sign? -/
def isB (q : Tok) (x : List UInt8) : Bool := (q.1.kind == 2 || q.1.kind == 4) && decide (q.1.text = x)
/-- How a call ends that answers nothing. -/
def PU (R g cap : Nat) (L : List Tok) (i : Nat) (o : Int) (X : World) (e : Ending) (w' : World) : Prop := e = .returned (.tuple #[]) ∧ Fr R X w' ∧ RR w' R g cap L i o
/-- How one ends that answers a value. -/
def PV (v : Value) (R g cap : Nat) (L : List Tok) (i : Nat) (o : Int) (X : World) (e : Ending) (w' : World) : Prop := e = .returned v ∧ Fr R X w' ∧ RR w' R g cap L i o
/-- How one ends that answers a node. -/
def PN (x : Nd) (R g cap : Nat) (L : List Tok) (i : Nat) (o : Int) (X : World) (e : Ending) (w' : World) : Prop := ∃ v, e = .returned v ∧ NV X.heap.size x v w' ∧ Fr R X w' ∧ RR w' R g cap L i o

set_option maxRecDepth 100000 in
set_option maxHeartbeats 1000000 in
theorem ris_any (R g cap : Nat) (L : List Tok) (i : Nat) (o : Int) (q : Tok) (hq : L[i]? = some q) (x : List UInt8) (w : World) (h : RR w R g cap L i o) :
    Calls Tryz.prog 45 #[rp R, .string (bs x)] w fun e w' => e = .returned (.bool (isB q x)) ∧ Q w w' := by
  obtain ⟨r0, r1, r2, r3, r4⟩ := h.five
  obtain ⟨t0, t1, t2, t3, t4⟩ := h.tks.five _ _ hq
  have hlt : (i : Int) < (L.length : Int) := by have := (List.getElem?_eq_some_iff.1 hq).1; omega
  have hR := h.lt_size
  have hg := h.tks.lt
  clear h hq
  unfold isB
  by_cases hx : q.1.text = x
  · subst hx
    by_cases h1 : q.1.kind = 2
    · rw [h1] at t0 ⊢
      go_enter Tryz.func45, Tryz.ntmps45
      go_wp2_with (fail)
      go_region
      go_wp2_with (fail)
      go_ret
      exact ⟨by simp [*], ((Q.refl w).alloc _).drew⟩
    · by_cases h2 : q.1.kind = 4
      · rw [h2] at t0 ⊢
        go_enter Tryz.func45, Tryz.ntmps45
        go_wp2_with (fail)
        go_region
        go_wp2_with (fail)
        go_ret
        exact ⟨by simp [*], ((Q.refl w).alloc _).drew⟩
      · have e1 : ((q.1.kind : Int) == 2) = false := by simp; omega
        have e2 : ((q.1.kind : Int) == 4) = false := by simp; omega
        go_enter Tryz.func45, Tryz.ntmps45
        go_wp2_with (fail)
        go_region
        go_wp2_with (fail)
        go_ret
        exact ⟨by simp [*], ((Q.refl w).alloc _).drew⟩
  · by_cases h1 : q.1.kind = 2
    · rw [h1] at t0 ⊢
      go_enter Tryz.func45, Tryz.ntmps45
      go_wp2_with (fail)
      go_region
      go_wp2_with (fail)
      go_ret
      exact ⟨by simp [*], ((Q.refl w).alloc _).drew⟩
    · by_cases h2 : q.1.kind = 4
      · rw [h2] at t0 ⊢
        go_enter Tryz.func45, Tryz.ntmps45
        go_wp2_with (fail)
        go_region
        go_wp2_with (fail)
        go_ret
        exact ⟨by simp [*], ((Q.refl w).alloc _).drew⟩
      · have e1 : ((q.1.kind : Int) == 2) = false := by simp; omega
        have e2 : ((q.1.kind : Int) == 4) = false := by simp; omega
        go_enter Tryz.func45, Tryz.ntmps45
        go_wp2_with (fail)
        go_region
        go_wp2_with (fail)
        go_ret
        exact ⟨by simp [*], ((Q.refl w).alloc _).drew⟩

set_option maxRecDepth 100000 in
set_option maxHeartbeats 1000000 in
theorem rnext_any (R g cap : Nat) (L : List Tok) (i : Nat) (o : Int) (hi : i + 1 < L.length) (hL : L.length ≤ 70000) (w : World) (h : RR w R g cap L i o) :
    Calls Tryz.prog 77 #[rp R] w (PU R g cap L (i + 1) o w) := by
  have HD := hideIt h
  obtain ⟨r0, r1, r2, r3, r4⟩ := h.five
  have f1 := h.free 1
  have hR := h.lt_size
  have hlt : decide ((i : Int) < (L.length : Int) - 1) = true := by simp; omega
  clear h
  go_enter Tryz.func77, Tryz.ntmps77
  go_wp2_with (fail)
  go_quiet (fail)
  go_wp2_with (fail)
  first | go_end0 | refine bodyPost_ret (results_none rfl _ _ _) rfl ?_
  exact ⟨rfl, (Fr.drewN (Fr.refl R w) _).setR 1 _, (RR.drewN HD.out _).set1⟩

set_option maxRecDepth 100000 in
set_option maxHeartbeats 1000000 in
theorem rtake_yes (R g cap : Nat) (L : List Tok) (i : Nat) (o : Int) (q : Tok) (hq : L[i]? = some q) (x : List UInt8) (hx : isB q x = true) (hi : i + 1 < L.length) (hL : L.length ≤ 70000) (w : World) (h : RR w R g cap L i o) :
    Calls Tryz.prog 43 #[rp R, .string (bs x)] w (PV (.bool true) R g cap L (i + 1) o w) := by
  have HI := hideIt (ris_any R g cap L i o q hq x w h)
  rw [hx] at HI
  have HN := hideIt (fun X => rnext_any R g cap L i o hi hL X)
  have HD := hideIt h
  clear h hq hx
  go_enter Tryz.func43, Tryz.ntmps43
  go_wp2_with (first | (go_at_call 45; refine Calls.mono HI.out ?_; rintro e x1 ⟨rfl, q1⟩; have D1 := hideIt (HD.out.q q1); have F1 := hideIt (Fr.of_q (R := R) q1); clear q1) | (go_at_call 77; refine Calls.mono (HN.out _ D1.out) ?_; rintro e x2 ⟨rfl, f2, d2⟩; have D2 := hideIt d2; have F2 := hideIt (F1.out.trans f2); clear f2 d2) | fail)
  go_ret
  exact ⟨rfl, F2.out, D2.out⟩

set_option maxRecDepth 100000 in
set_option maxHeartbeats 1000000 in
theorem rtake_no (R g cap : Nat) (L : List Tok) (i : Nat) (o : Int) (q : Tok) (hq : L[i]? = some q) (x : List UInt8) (hx : isB q x = false) (w : World) (h : RR w R g cap L i o) :
    Calls Tryz.prog 43 #[rp R, .string (bs x)] w (PV (.bool false) R g cap L i o w) := by
  have HI := hideIt (ris_any R g cap L i o q hq x w h)
  rw [hx] at HI
  have HD := hideIt h
  clear h hq hx
  go_enter Tryz.func43, Tryz.ntmps43
  go_wp2_with (first | (go_at_call 45; refine Calls.mono HI.out ?_; rintro e x1 ⟨rfl, q1⟩; have D1 := hideIt (HD.out.q q1); have F1 := hideIt (Fr.of_q (R := R) q1); clear q1) | fail)
  go_ret
  exact ⟨rfl, F1.out, D1.out⟩

set_option maxRecDepth 100000 in
set_option maxHeartbeats 1000000 in
theorem rwant_any (R g cap : Nat) (L : List Tok) (i : Nat) (o : Int) (q : Tok) (hq : L[i]? = some q) (x : List UInt8) (hx : isB q x = true) (hi : i + 1 < L.length) (hL : L.length ≤ 70000) (w : World) (h : RR w R g cap L i o) :
    Calls Tryz.prog 46 #[rp R, .string (bs x)] w (PU R g cap L (i + 1) o w) := by
  have HT := hideIt (rtake_yes R g cap L i o q hq x hx hi hL w h)
  clear h hq hx
  go_enter Tryz.func46, Tryz.ntmps46
  go_wp2_with (first | (go_at_call 43; refine Calls.mono HT.out ?_; rintro e x2 ⟨rfl, f2, d2⟩; have D2 := hideIt d2; have F2 := hideIt f2; clear f2 d2) | fail)
  first | go_end0 | refine bodyPost_ret (results_none rfl _ _ _) rfl ?_
  exact ⟨rfl, F2.out, D2.out⟩

set_option maxRecDepth 100000 in
set_option maxHeartbeats 1000000 in
theorem ropens_any (R g cap : Nat) (L : List Tok) (i : Nat) (o : Int) (ho : 0 ≤ o ∧ o < 40) (q : Tok) (hq : L[i]? = some q) (x : List UInt8) (hx : isB q x = true) (hi : i + 1 < L.length) (hL : L.length ≤ 70000) (w : World) (h : RR w R g cap L i o) :
    Calls Tryz.prog 47 #[rp R, .string (bs x)] w (PU R g cap L (i + 1) (o + 1) w) := by
  have HI := hideIt (ris_any R g cap L i o q hq x w h)
  rw [hx] at HI
  have HT := hideIt (fun X => rwant_any R g cap L i o q hq x hx hi hL X)
  have HD := hideIt h
  have ho4 : (o == 40) = false := by simp; omega
  obtain ⟨ho1, ho2⟩ := ho
  clear h hq hx
  go_enter Tryz.func47, Tryz.ntmps47
  go_wp2_with (first | (go_at_call 45; refine Calls.mono HI.out ?_; rintro e x1 ⟨rfl, q1⟩; have D1 := hideIt (HD.out.q q1); have F1 := hideIt (Fr.of_q (R := R) q1); obtain ⟨r0, r1, r2, r3, r4⟩ := D1.out.five; have hR := D1.out.lt_size; clear q1) | (go_at_call 46; refine Calls.mono (HT.out _ D1.out) ?_; rintro e x2 ⟨rfl, f2, d2⟩; have D2 := hideIt d2; have F2 := hideIt (F1.out.trans f2); clear r0 r1 r2 r3 r4 hR; obtain ⟨r0, r1, r2, r3, r4⟩ := D2.out.five; have hR := D2.out.lt_size; have fz := D2.out.free 2; clear f2 d2) | fail)
  first | go_end0 | refine bodyPost_ret (results_none rfl _ _ _) rfl ?_
  exact ⟨rfl, F2.out.setR 2 _, D2.out.set2 _⟩

set_option maxRecDepth 100000 in
set_option maxHeartbeats 1000000 in
theorem rshuts_any (R g cap : Nat) (L : List Tok) (i : Nat) (o : Int) (ho : 0 ≤ o ∧ o ≤ 41) (q : Tok) (hq : L[i]? = some q) (x : List UInt8) (hx : isB q x = true) (hi : i + 1 < L.length) (hL : L.length ≤ 70000) (w : World) (h : RR w R g cap L i o) :
    Calls Tryz.prog 49 #[rp R, .string (bs x)] w (PU R g cap L (i + 1) (o - 1) w) := by
  have HT := hideIt (rwant_any R g cap L i o q hq x hx hi hL w h)
  obtain ⟨ho1, ho2⟩ := ho
  clear h hq hx
  go_enter Tryz.func49, Tryz.ntmps49
  go_wp2_with (first | (go_at_call 46; refine Calls.mono HT.out ?_; rintro e x2 ⟨rfl, f2, d2⟩; have D2 := hideIt d2; have F2 := hideIt f2; obtain ⟨r0, r1, r2, r3, r4⟩ := D2.out.five; have hR := D2.out.lt_size; have fz := D2.out.free 2; clear f2 d2) | fail)
  first | go_end0 | refine bodyPost_ret (results_none rfl _ _ _) rfl ?_
  exact ⟨rfl, F2.out.setR 2 _, D2.out.set2 _⟩

set_option maxRecDepth 100000 in
set_option maxHeartbeats 1000000 in
theorem rname_rd (R g cap : Nat) (L : List Tok) (i : Nat) (o : Int) (q : Tok) (hq : L[i]? = some q) (hk : q.1.kind = 1) (hi : i + 1 < L.length) (hL : L.length ≤ 70000) (w : World) (h : RR w R g cap L i o) :
    Calls Tryz.prog 44 #[rp R] w (PV (.string (bs q.1.text)) R g cap L (i + 1) o w) := by
  have HD := hideIt h
  have HN := hideIt (fun X => rnext_any R g cap L i o hi hL X)
  obtain ⟨r0, r1, r2, r3, r4⟩ := h.five
  obtain ⟨t0, t1, t2, t3, t4⟩ := h.tks.five _ _ hq
  rw [hk] at t0
  have hlt : (i : Int) < (L.length : Int) := by omega
  have hR := h.lt_size
  have hg := h.tks.lt
  clear h hq
  go_enter Tryz.func44, Tryz.ntmps44
  go_wp2_with (fail)
  go_region
  go_wp2_with (first | (go_at_call 77; refine Calls.mono (HN.out _ (HD.out.alloc _).drew) ?_; rintro e x2 ⟨rfl, f2, d2⟩; have D2 := hideIt d2; have F2 := hideIt (((Fr.refl R w).alloc _).drew.trans f2); have B2 := hideIt (Fr.keptD (R := R) (heap_alloc_new w _) (by omega) f2); have c1 := cell_of_block B2.out 1; clear f2 d2) | fail)
  go_ret
  exact ⟨rfl, F2.out, D2.out⟩

theorem rintV_yes {l : List UInt8} {t : Nat} (h : Lx.intT l = t) (ht : t < 6) : rintV l = (t : Int) := by unfold rintV; rw [h, if_pos ht]
theorem rintV_no {l : List UInt8} (h : ¬ Lx.intT l < 6) : rintV l = -1 := by unfold rintV; rw [if_neg h]
theorem bl_bs (l : List UInt8) : bl (bs l) = l := by simp [bl]

set_option maxRecDepth 100000 in
set_option maxHeartbeats 1000000 in
theorem rtyped_yes (R g cap : Nat) (L : List Tok) (i : Nat) (o : Int) (q : Tok) (hq : L[i]? = some q) (hk : q.1.kind = 2) (t : Nat) (hy : Lx.intT q.1.text = t) (ht : t < 6) (hi : i + 1 < L.length) (hL : L.length ≤ 70000) (w : World) (h : RR w R g cap L i o) :
    Calls Tryz.prog 79 #[rp R] w (PV (.int .i64 (t : Int)) R g cap L (i + 1) o w) := by
  have HD := hideIt h
  have HN := hideIt (fun X => rnext_any R g cap L i o hi hL X)
  have HT := hideIt (fun X => rint_any (bs q.1.text) X)
  rw [bl_bs, rintV_yes hy ht] at HT
  obtain ⟨r0, r1, r2, r3, r4⟩ := h.five
  obtain ⟨t0, t1, t2, t3, t4⟩ := h.tks.five _ _ hq
  rw [hk] at t0
  have hlt : (i : Int) < (L.length : Int) := by omega
  have hR := h.lt_size
  have hg := h.tks.lt
  clear h hq hy
  go_enter Tryz.func79, Tryz.ntmps79
  go_wp2_with (fail)
  go_region
  go_wp2_with (first | (go_at_call 77; refine Calls.mono (HN.out _ D1.out) ?_; rintro e x2 ⟨rfl, f2, d2⟩; have D2 := hideIt d2; have F2 := hideIt (F1.out.trans f2); have B2 := hideIt (Fr.kept (R := R) B1.out (by omega) f2); have c1 := cell_of_block B2.out 1; have DN := hideIt trivial; clear D1 F1 f2 d2) | (go_at_call 74; have DN2 := DN.out; refine Calls.mono (HT.out _) ?_; rintro e x3 ⟨rfl, q3⟩; have Q3 := hideIt q3; clear q3) | (go_at_call 74; refine Calls.mono (HT.out _) ?_; rintro e x1 ⟨rfl, q1⟩; have D1 := hideIt ((HD.out.alloc _).drew.q q1); have F1 := hideIt (((Fr.refl R w).alloc _).drew.q q1); have B1 := hideIt ((q1.block w.heap.size (by simp)).trans (heap_alloc_new w _)); clear q1) | fail)
  go_ret
  exact ⟨rfl, F2.out.q Q3.out, D2.out.q Q3.out⟩

set_option maxRecDepth 100000 in
set_option maxHeartbeats 1000000 in
theorem rtyped_no (R g cap : Nat) (L : List Tok) (i : Nat) (o : Int) (q : Tok) (hq : L[i]? = some q) (hk : q.1.kind = 2) (hy : ¬ Lx.intT q.1.text < 6) (w : World) (h : RR w R g cap L i o) :
    Calls Tryz.prog 79 #[rp R] w (PV (.int .i64 (-1)) R g cap L i o w) := by
  have HD := hideIt h
  have HT := hideIt (fun X => rint_any (bs q.1.text) X)
  rw [bl_bs, rintV_no hy] at HT
  obtain ⟨r0, r1, r2, r3, r4⟩ := h.five
  obtain ⟨t0, t1, t2, t3, t4⟩ := h.tks.five _ _ hq
  rw [hk] at t0
  have hlt : (i : Int) < (L.length : Int) := by have := (List.getElem?_eq_some_iff.1 hq).1; omega
  have hR := h.lt_size
  have hg := h.tks.lt
  clear h hq hy
  go_enter Tryz.func79, Tryz.ntmps79
  go_wp2_with (fail)
  go_region
  go_wp2_with (first | (go_at_call 74; refine Calls.mono (HT.out _) ?_; rintro e x1 ⟨rfl, q1⟩; have D1 := hideIt ((HD.out.alloc _).drew.q q1); have F1 := hideIt (((Fr.refl R w).alloc _).drew.q q1); clear q1) | fail)
  go_ret
  exact ⟨rfl, F1.out, D1.out⟩

set_option maxRecDepth 100000 in
set_option maxHeartbeats 1000000 in
theorem rint_rd (R g cap : Nat) (L : List Tok) (i : Nat) (o : Int) (q : Tok) (hq : L[i]? = some q) (hk : q.1.kind = 2) (t : Nat) (hy : Lx.intT q.1.text = t) (ht : t < 6) (hi : i + 1 < L.length) (hL : L.length ≤ 70000) (w : World) (h : RR w R g cap L i o) :
    Calls Tryz.prog 48 #[rp R] w (PV (.int .u8 (t : Int)) R g cap L (i + 1) o w) := by
  have HT := hideIt (rtyped_yes R g cap L i o q hq hk t hy ht hi hL w h)
  have hz : decide ((t : Int) < 0) = false := by simp
  clear h hq hy
  go_enter Tryz.func48, Tryz.ntmps48
  go_wp2_with (first | (go_at_call 79; refine Calls.mono HT.out ?_; rintro e x2 ⟨rfl, f2, d2⟩; have D2 := hideIt d2; have F2 := hideIt f2; clear f2 d2) | fail)
  go_ret
  exact ⟨rfl, F2.out, D2.out⟩

end Go.Proofs.YtoilhcklflmamaaGreatDoor
