/-
 The document's run of code, whole (Do): contracts over the program; the conditions: the code lies in memory, and the steps are in range.
-/
import Derived.Test.YtphknepblchkdaaKDnM
import Derived.Test.YtphknepblchkdaaKIrW
namespace Go.Proofs.Ytphknepblchkdaa.Dn
open Go.RowKit
set_option linter.unusedVariables false

theorem call_all {w0 : World} {R : Nat} {c : PC} {fuel : Nat} (hf : fuel ≤ 8388608) (hv : VC c w0) : ∀ g, CallC w0 R c fuel (callR c fuel g) g
 | 0, j, f, hj, hf', W, col, s, A, aa, ac, hd, hA, hc, hl => by omega
 | g + 1, j, f, hj, hfj, W, col, s, A, aa, ac, hd, hA, hc, hl => by
  have ih := call_all (R := R) hf hv g
  have ih' : CallC w0 R c fuel (callR c fuel g) j := fun i fi hi hfi => ih i fi (by omega) hfi
  have e := callR_at (fuel := fuel) (g := g) hfj A s
  cases hal : allocs f.slots s.bs with
  | none =>
   rw [hal] at e
   exact call_none hd hf hv hfj hA hc hl hal e
  | some bs' =>
   rw [hal] at e
   exact call_some hd hf hv hfj hA hc hl ih' hal rfl e.symm

theorem roomL_take : ∀ (l : List Int) (b : Int), roomL b l = true → ∀ i x, l[i]? = some x → x ≤ b - ((((l.take i).map Int.toNat).sum : Nat) : Int)
 | [], b, _, i, x, hx => by simp at hx
 | y :: l, b, h, 0, x, hx => by
  simp [roomL] at h hx
  subst hx
  simp; omega
 | y :: l, b, h, i + 1, x, hx => by
  simp [roomL] at h
  have := roomL_take l (b - y) h.2 i x (by simpa using hx)
  rw [List.take_succ_cons, List.map_cons, List.sum_cons]
  omega
theorem glF_step {ini : List Int} {i : Nat} {v : Int} (h : ini[i]? = some v) : Me.upd (glF (ini.take i)) (i : Int) 0 v = glF (ini.take (i + 1)) := by
 have hl := (List.getElem?_eq_some_iff.1 h).1
 funext a b
 simp only [Me.upd, glF]
 by_cases e : a = (i : Int) ∧ b = 0
 ·rw [if_pos e, if_pos ⟨by omega, e.2⟩, e.1, Int.toNat_natCast, List.getD_eq_getElem?_getD, List.getElem?_take_of_lt (by omega), h]; rfl
 ·rw [if_neg e]
  by_cases e2 : 0 ≤ a ∧ b = 0
  ·rw [if_pos e2, if_pos e2, List.getD_eq_getElem?_getD, List.getD_eq_getElem?_getD]
   by_cases h3 : a.toNat < i
   ·rw [List.getElem?_take_of_lt h3, List.getElem?_take_of_lt (by omega)]
   ·have : a.toNat ≠ i := fun q => e ⟨by omega, e2.2⟩
    rw [List.getElem?_eq_none (by simp; omega), List.getElem?_eq_none (by simp; omega)]
  ·rw [if_neg e2, if_neg e2]

def glS (c : PC) (i : Nat) : St := ⟨0, [], (c.gl.take i).map Int.toNat, glF (c.ini.take i)⟩
theorem glS_end {c : PC} (h : c.ini.length = c.gl.length) : glS c c.gl.length = start c := by
 unfold glS start
 rw [List.take_length, ← h, List.take_length]
theorem glS_bs {c : PC} {i : Nat} {x : Int} (h : c.gl[i]? = some x) : (glS c i).bs ++ [x.toNat] = (glS c (i + 1)).bs := by
 simp only [glS]
 rw [List.take_add_one, h]
 simp

/-- What is right. -/
theorem valid_vc {c : PC} {w0 : World} (hok : c.ok w0) (hv : validP c = 0) : VC c w0 ∧ roomL 65536 c.gl = true ∧ c.ini.length = c.gl.length ∧ ∃ f, c.fns[c.fns.length - 1]? = some f ∧ f.params = 0 := by
 unfold validP at hv
 split at hv
 ·cases hv
 ·split at hv
  ·rename_i hr
   unfold rightP hdP at hr
   simp only [Bool.and_eq_true] at hr
   obtain ⟨⟨l1, l2, l3⟩, l4⟩ := hr
   refine ⟨⟨hok, fun k f hk => ?_, by have := roomL_len c.gl 65536 l3 (by decide); omega⟩, l3, by simpa using l2, ?_⟩
   ·have : ∀ (l : List PF) (k0 : Nat), fnsP c k0 l = true → ∀ i f, l[i]? = some f → fnP c (k0 + i) f = true := by
     intro l
     induction l with
     | nil => intro k0 _ i f e; simp at e
     | cons x r ih =>
      intro k0 h i f e
      simp only [fnsP, Bool.and_eq_true] at h
      cases i with
      | zero => simp at e; subst e; exact h.1
      | succ i => have := ih (k0 + 1) h.2 i f (by simpa using e); rw [show k0 + 1 + i = k0 + (i + 1) by omega] at this; exact this
    have := this c.fns 0 l4 k f hk
    rwa [Nat.zero_add] at this
   ·unfold lastP at l1
    cases hl : c.fns[c.fns.length - 1]? with
    | none => rw [hl] at l1; cases l1
    | some f => rw [hl] at l1; exact ⟨f, rfl, by simpa using l1⟩
  ·cases hv

/-- A run begins. -/
theorem di_start {y : World} {c : PC} {fuel : Nat} : DI (y.alloc (.cells (rcs c (.slice none 0 0) fuel 0 0 false (.slice none 0 0)) 73)) y y.heap.size (fun b => if b = y.heap.size then some Tg.rn else none) c fuel (glS c 0) 0 false := by
 refine ⟨.slice none 0 0, .slice none 0 0, [], ⟨?_, fun b τ e => ?_, by simp, heap_alloc_new y _, World.ownsRow_nil _ _ _ _, World.ownsRow_nil _ _ _ _, rfl, fun b e => by simp [Value.ownBlock] at e, fun b e => by simp [Value.ownBlock] at e, fun i g e => by simp at e, fun i g n e => by simp at e, by simp [glS], fun x hx => by simp [glS] at hx, Nat.zero_le _, Nat.zero_le _, fun a b _ => by simp [glS, glF], by decide⟩⟩
 ·exact (Below.refl y.heap.size y).alloc (Nat.le_refl _) _
 ·by_cases q : b = y.heap.size
  ·subst q; simp
  ·rw [if_neg q] at e; cases e

/-- A global's first cell is written. -/
theorem di_put {w w0 : World} {R : Nat} {col : Col} {c : PC} {fuel : Nat} {s : St} {t : Int} {sp : Bool} (h : DI w w0 R col c fuel s t sp) {i n : Nat} (hn : s.bs[i]? = some n) (h1 : 1 ≤ n) : ∃ (g gl cap : Nat) (u : Value), w.cell? ⟨R, 3, none⟩ = some (.slice (some ⟨gl, 0, none⟩) s.bs.length cap) ∧ w.cell? ⟨gl, i, none⟩ = some (.slice (some ⟨g, 0, none⟩) n n) ∧ w.cell? ⟨g, 0, none⟩ = some u ∧ w.frozen? ⟨g, 0, none⟩ = false ∧ s.bs.length ≤ 65536 ∧ ∀ (x : Int) (m : Nat), DI ((w.setCell ⟨g, 0, none⟩ (.int .i64 x)).drewN m) w0 R col c fuel { s with f := Me.upd s.f (i : Int) 0 x } t sp := by
 obtain ⟨lv, tv, gs, d⟩ := h
 obtain ⟨g, gl, cap, e1, e2, e3, -⟩ := d.row hn
 have c3 := d.cs.2.1
 rw [e1] at c3
 refine ⟨g, gl, cap, _, c3, e3, (d.nums i g n e2 hn).cell (j := 0) (by omega), (d.nums i g n e2 hn).free 0, d.len, fun x m => ?_⟩
 obtain ⟨a1, a2⟩ := d.put e2 hn (j := 0) (by omega) x
 exact ⟨_, _, _, a1.keep ((Q.refl _).drewN m)⟩

abbrev ocA (o : Oc) (tv : Value) : Array Value := #[.bool o.h, .int .i64 o.x, .int .u8 o.t, .bool o.sp, .int .i64 (o.n : Int), tv]
abbrev zeroA : Array Value := #[.bool false, .int .i64 0, .int .u8 0, .bool false, .int .i64 0, .slice none 0 0]
/-- An outcome as a value: its trace lies in memory. -/
def OutPost (w : World) (o : Oc) (v : Value) (w' : World) : Prop := ∃ ta tc, v = .agg (ocA o (.slice ta o.tr.length tc)) ∧ Trc w' ta o.tr ∧ o.tr.length ≤ 8388608 ∧ Q w w'


/-- What an outcome's trace lives through. -/
structure SE (w z W : World) (ta : Option Addr) (tr : List Int) : Prop where
 q : Q w W
 t : Trc W ta tr
theorem SE.alloc {w z W : World} {ta : Option Addr} {tr : List Int} (h : SE w z W ta tr) (o : Obj) : SE w z (W.alloc o) ta tr := ⟨h.q.alloc o, h.t.keep ((Q.refl W).alloc o)⟩
theorem SE.drew {w z W : World} {ta : Option Addr} {tr : List Int} (h : SE w z W ta tr) : SE w z W.drew ta tr := ⟨h.q.drew, h.t.keep (Q.refl W).drew⟩
theorem SE.drewN {w z W : World} {ta : Option Addr} {tr : List Int} (h : SE w z W ta tr) (m : Nat) : SE w z (W.drewN m) ta tr := ⟨h.q.drewN m, h.t.keep ((Q.refl W).drewN m)⟩
theorem SE.set {w z W : World} {ta : Option Addr} {tr : List Int} (h : SE w z W ta tr) {b : Nat} (hb : w.heap.size ≤ b) (hne : ∀ b' o, ta = some ⟨b', o, none⟩ → b' ≠ b) (j : Nat) (u : Value) : SE w z (W.setCell ⟨b, j, none⟩ u) ta tr :=
 ⟨h.q.set hb u, fun k x e => by
  obtain ⟨b', o, e1, e2⟩ := h.t k x e
  refine ⟨b', o, e1, ?_⟩
  rw [← e2]
  have := Below.heap_setCell W ⟨b, j, none⟩ u b' (hne b' o e1)
  simp [World.cell?, this]⟩

/-- How a call of the last function ends. -/
theorem out_call {w w0 z : World} {R : Nat} {col : Col} {c : PC} {fuel : Nat} {s : St} {r : Rs Int} {e : Ending} (h : CallPost w w0 R col c fuel s r e z) :
  ∃ (v t : Int) (sp : Bool) (col' : Col) (s' : St), e = .returned (.int .i64 v) ∧ DI z w0 R col' c fuel s' t sp ∧ (((t != 0 || sp) = false ∧ ocP r = ⟨true, v, t, sp, s'.n, s'.tr⟩) ∨ ((t != 0 || sp) = true ∧ ocP r = ⟨false, 0, t, sp, s'.n, s'.tr⟩)) := by
 cases r with
 | ok v s' =>
  obtain ⟨rfl, col', a1, a2, -⟩ := h
  exact ⟨v, 0, false, col', s', rfl, a1, Or.inl ⟨rfl, rfl⟩⟩
 | over t sp s' =>
  obtain ⟨rfl, hne, col', s'', a1, a2, a4, a5⟩ := h
  refine ⟨0, t, sp, col', s'', rfl, a1, Or.inr ⟨?_, by simp [ocP, a4, a5]⟩⟩
  rcases hne with q | q
  ·have : (t != 0) = true := by simpa using q
   rw [this]; rfl
  ·rw [q]; simp

end Go.Proofs.Ytphknepblchkdaa.Dn

namespace Go.Proofs.Ytphknepblchkdaa.Dn
open Go.RowKit
set_option linter.unusedVariables false

abbrev bxO (w : World) : World := w.alloc (.cells zeroA 36)
theorem bx_out (w : World) (c : PC) : (bxO (bxC w c)).heap[w.heap.size + 1]? = some (.cells zeroA 36 (0, 0)) := by
 have := heap_alloc_new (bxC w c) (.cells zeroA 36)
 simpa using this
theorem bx_code (w : World) (c : PC) : (bxO (bxC w c)).heap[w.heap.size]? = some (.cells #[.slice c.ga c.gl.length c.gc, .slice c.na c.ini.length c.nc, .slice c.fa c.fns.length c.fc] 26 (0, 0)) := by
 rw [Below.heap_alloc _ _ _ (by simp)]
 exact heap_alloc_new w _

set_option maxRecDepth 100000 in
set_option maxHeartbeats 8000000 in
theorem do_good (w : World) (c : PC) (hcok : c.ok w) (fuel : Nat) (hf : fuel ≤ 8388608) (hv : validP c = 0) : Calls Try.prog 11 #[c.v, .int .i64 (fuel : Int)] w fun e w' => ∃ v, e = .returned (.tuple #[v, .int .i64 0]) ∧ OutPost w (ocP (runP c fuel)) v w' := by
 have VA := hideIt (rvalid_any (bxO (bxC w c)) c (hcok.keep (((Q.refl w).alloc _).alloc _)))
 rw [hv] at VA
 have HKO := hideIt (fun (y : World) (hy : Q (bxO (bxC w c)) y) => hcok.keep ((((Q.refl w).alloc _).alloc _).trans hy))
 have HVV := hideIt (fun (y : World) (hy : c.ok y) => valid_vc hy hv)
 have B1 : Hid (∀ y, Q (bxO (bxC w c)) y → y.heap[w.heap.size + 1]? = some (.cells zeroA 36 (0, 0))) := fun y hy => (hy.block _ (by simp)).trans (bx_out w c)
 have B0 : Hid (∀ y, Q (bxO (bxC w c)) y → y.heap[w.heap.size]? = some (.cells #[.slice c.ga c.gl.length c.gc, .slice c.na c.ini.length c.nc, .slice c.fa c.fns.length c.fc] 26 (0, 0))) := fun y hy => (hy.block _ (by simp; omega)).trans (bx_code w c)
 have qB : Hid (Q w (bxO (bxC w c))) := ((Q.refl w).alloc _).alloc _
 have k1 : decide ((fuel : Int) < 0) = false := by simp
 have k2 : decide (8388608 < (fuel : Int)) = false := by simp; omega
 have hgl : c.gl.length ≤ 9223372036854775807 := hcok.gsok.len
 have hfl : c.fns.length ≤ 9223372036854775807 := hcok.fsok.len
 have HF := hideIt hf
 clear hcok hv hf
 go_enter Try.func11, Try.ntmps11
 go_wp2_with (first | (go_at_call 10; refine VA.out.mono ?_; rintro e y ⟨rfl, q⟩; have HQ := hideIt q; have b0 := B0.out y q; have v0 := cell_blk b0 0; have v1 := cell_blk b0 1; have v2 := cell_blk b0 2; clear q b0) | fail)
 have HY := hideIt (HKO.out y HQ.out)
 obtain ⟨vc, hroom, hli, f, hlast, hpar⟩ := HVV.out y HY.out
 have VC' := hideIt vc
 have HRM := hideIt hroom
 have HLI := hideIt hli
 have HLA := hideIt hlast
 have HPA := hideIt hpar
 have D0 := hideIt (di_start (y := y) (c := c) (fuel := fuel))
 clear VA HKO HVV v0 v1 v2 vc hroom hli hlast hpar
 dsimp only [rcs] at D0
 have HBY : Hid (∀ x, Below y.heap.size y x → x.heap[w.heap.size + 1]? = some (.cells zeroA 36 (0, 0)) ∧ x.heap[w.heap.size]? = some (.cells #[.slice c.ga c.gl.length c.gc, .slice c.na c.ini.length c.nc, .slice c.fa c.fns.length c.fc] 26 (0, 0))) := fun x hx => by
  have a1 := B1.out y HQ.out
  have a0 := B0.out y HQ.out
  exact ⟨(hx.block _ (lt_blk a1)).trans a1, (hx.block _ (lt_blk a0)).trans a0⟩
 have HQY : Hid (∀ x, Below y.heap.size y x → Q w x) := fun x hx => (qB.out.trans HQ.out).trans hx
 have HNY : Hid (w.heap.size + 1 < y.heap.size) := lt_blk (B1.out y HQ.out)
 clear B0 B1 qB HQ
 generalize hR : y.heap.size = R at *
 generalize hCol : (fun b => if b = R then some Tg.rn else none) = col0 at *
 go_loopw [8] (fun o wr => ∃ (i : Nat) (col : Col), o = .int .i64 i ∧ i ≤ c.gl.length ∧ Hid (DI wr y R col c fuel (glS c i) 0 false)) (fun o _ => c.gl.length - (intOf o).toNat)
 case atStart => exact ⟨0, col0, rfl, Nat.zero_le _, D0⟩
 case round =>
  obtain ⟨i, col, rfl, hi, DD⟩ := hrel
  generalize wr = w1 at *
  clear D0 hCol
  have hbel := DD.out.bel
  rw [hR] at hbel
  have b0 := (HBY.out w1 hbel).2
  have u0 : w1.cell? ⟨w.heap.size, 0, none⟩ = some (.slice c.ga c.gl.length c.gc) := cell_blk b0 0
  have u2 : w1.cell? ⟨w.heap.size, 2, none⟩ = some (.slice c.fa c.fns.length c.fc) := cell_blk b0 2
  by_cases hic : i < c.gl.length
  ·obtain ⟨x, hx⟩ := get_of_lt hic
   obtain ⟨z, hz⟩ := get_of_lt (l := c.ini) (k := i) (by rw [HLI.out]; exact hic)
   obtain ⟨gb, go, ega, hgx, -⟩ := HY.out.gl i x hx
   obtain ⟨nb, no, ena, hnz, -⟩ := HY.out.ini i z hz
   rw [Nat.mul_one] at hgx hnz
   have h1 := roomL_one _ _ HRM.out x (List.mem_of_getElem? hx)
   have h2 := roomL_take _ _ HRM.out i x hx
   obtain ⟨n, rfl⟩ : ∃ n : Nat, x = (n : Int) := ⟨x.toNat, by omega⟩
   have hlen : (glS c i).bs.length = i := by simp [glS]; omega
   have hbs : (glS c i).bs ++ [n] = (glS c (i + 1)).bs := by have := glS_bs hx; simpa using this
   have BB := hideIt (block_ok DD.out n (by omega) (by show (n : Int) ≤ 65536 - ((((c.gl.take i).map Int.toNat).sum : Nat) : Int); exact h2))
   rw [hlen] at BB
   rw [ega] at u0
   have c1 : w1.cell? ⟨gb, go + i, none⟩ = some (.int .i64 (n : Int)) := by
    have := hbel.cell (p := ⟨gb, go + i, none⟩) (by rw [← hR]; exact World.block_lt_of_cell? y _ hgx)
    exact this.trans hgx
   have PT := hideIt (fun (x1 : World) (col2 : Col) (hd : DI x1 y R col2 c fuel { glS c i with bs := (glS c i).bs ++ [n] } 0 false) => di_put hd (i := i) (n := n) (by show ((glS c i).bs ++ [n])[i]? = some n; rw [List.getElem?_append_right (by omega), hlen]; simp) (by omega))
   have hl1 : ((glS c i).bs ++ [n]).length = i + 1 := by simp [hlen]
   have FX : Hid (∀ x1 : World, Below R y x1 → x1.cell? ⟨w.heap.size, 1, none⟩ = some (.slice (some ⟨nb, no, none⟩) c.ini.length c.nc) ∧ x1.cell? ⟨nb, no + i, none⟩ = some (.int .i64 z)) := fun x1 hb => by
    have a0 := (HBY.out x1 hb).2
    refine ⟨by rw [cell_blk a0]; show some (Value.slice c.na c.ini.length c.nc) = _; rw [ena], ?_⟩
    have := hb.cell (p := ⟨nb, no + i, none⟩) (by rw [← hR]; exact World.block_lt_of_cell? y _ hnz)
    exact this.trans hnz
   have NX : Hid (∀ (x1 : World) (col2 : Col), DI x1 y R col2 c fuel { glS c i with bs := (glS c i).bs ++ [n], f := Me.upd (glS c i).f (i : Int) 0 z } 0 false → DI x1 y R col2 c fuel (glS c (i + 1)) 0 false) := fun x1 col2 hd => by
    have e : ({ glS c i with bs := (glS c i).bs ++ [n], f := Me.upd (glS c i).f (i : Int) 0 z } : St) = glS c (i + 1) := by
     rw [hbs]
     show St.mk 0 [] _ (Me.upd (glF (c.ini.take i)) (i : Int) 0 z) = _
     rw [glF_step hz]
     rfl
    rw [e] at hd
    exact hd
   have k3 : (i : Int) < (c.gl.length : Int) := by omega
   have k4 : (i : Int) < (c.ini.length : Int) := by have := HLI.out; omega
   have k5 : (i : Int) < (i : Int) + 1 := by omega
   have k6 : (0 : Int) < (n : Int) := by omega
   have k7 : c.ini.length ≤ 9223372036854775807 := by have := HLI.out; omega
   have HL1 := hideIt hl1
   clear hx hz hgx hnz h2 hlen hbs ega ena b0 u2 hl1
   go_wp2_with (first | (go_at_call 28; refine BB.out.mono ?_; rintro e x1 ⟨rfl, col2, a1, a2⟩; have hb1 := a1.bel; rw [hR] at hb1; obtain ⟨m1, m2⟩ := FX.out x1 hb1; obtain ⟨g, gl, cap, u, t1, t2, t3, t4, t5, t6⟩ := PT.out x1 col2 a1; have T6 := hideIt t6; have t1' := t1; rw [show ({ glS c i with bs := (glS c i).bs ++ [n] } : St).bs.length = i + 1 from HL1.out] at t1'; clear a1 a2 hb1 t1 t5 t6 u0 c1 hbel) | fail)
   go_region
   go_wp2_with (fail)
   go_roundw
   case rel => exact ⟨i + 1, col2, by go_num, hic, hideIt (NX.out _ col2 (T6.out z _))⟩
   case measure => simp [intOf]; omega
  ·have ei : i = c.gl.length := by omega
   subst ei
   have e1 := glS_end HLI.out
   rw [e1] at DD
   have hk1 := (List.getElem?_eq_some_iff.1 HLA.out).1
   have CL := hideIt (call_all (R := R) HF.out VC'.out c.fns.length (c.fns.length - 1) f (by omega) HLA.out w1 col (start c) [] none 0 DD.out (fun k x e => by simp at e) (fun b o e => by cases e) (by rw [HPA.out]; rfl))
   have hn : ((c.fns.length - 1 : Nat) : Int) = (c.fns.length : Int) - 1 := by omega
   rw [hn] at CL
   dsimp only [List.length_nil] at CL
   have k3 : decide ((c.gl.length : Int) < (c.gl.length : Int)) = false := by simp
   have OC : Hid (∀ e z, CallPost w1 y R col c fuel (start c) (callR c fuel c.fns.length (c.fns.length - 1) [] (start c)) e z → ∃ (v t : Int) (sp : Bool) (n : Nat) (tr : List Int) (ta : Option Addr) (tc : Nat), e = .returned (.int .i64 v) ∧ z.cell? ⟨R, 5, none⟩ = some (.int .i64 (n : Int)) ∧ z.cell? ⟨R, 6, none⟩ = some (.int .i64 t) ∧ z.cell? ⟨R, 7, none⟩ = some (.bool sp) ∧ z.cell? ⟨R, 8, none⟩ = some (.slice ta tr.length tc) ∧ 0 ≤ t ∧ t ≤ 255 ∧ z.heap[w.heap.size + 1]? = some (.cells zeroA 36 (0, 0)) ∧ w.heap.size + 1 < z.heap.size ∧ SE w z z ta tr ∧ tr.length ≤ 8388608 ∧ (∀ b o, ta = some ⟨b, o, none⟩ → b ≠ w.heap.size + 1 ∧ b < z.heap.size) ∧ (((t != 0 || sp) = false ∧ ocP (runP c fuel) = ⟨true, v, t, sp, n, tr⟩) ∨ ((t != 0 || sp) = true ∧ ocP (runP c fuel) = ⟨false, 0, t, sp, n, tr⟩))) := fun e z hp => by
    obtain ⟨v, t, sp, col', s', e1, hd, ho⟩ := out_call hp
    have hb := hd.bel
    rw [hR] at hb
    obtain ⟨lv, tv, gs, d⟩ := hd
    obtain ⟨ta, tc, ez⟩ := row_form d.trc
    subst ez
    obtain ⟨-, -, -, c5, c6, c7, c8⟩ := d.cs
    have a1 := (HBY.out z hb).1
    have h3 := d.trl
    have h4 := d.nle
    have h5 := HF.out
    refine ⟨v, t, sp, s'.n, s'.tr, ta, tc, e1, c5, c6, c7, c8, d.tb.1, d.tb.2, a1, lt_blk a1, ⟨HQY.out z hb, own_trc d.trc⟩, by omega, fun b o e => ?_, ho⟩
    have := d.ct b (by rw [e]; rfl)
    have := d.lt b _ this
    have := HNY.out
    omega
   clear DD e1 hbel b0 HBY
   go_wp2_with (first | (go_at_call 29; refine CL.out.mono ?_; intro e z hp; obtain ⟨v, t, sp, n, tr, ta, tc, rfl, c5, c6, c7, c8, t0, t1, hb, hzl, hse, htl, hta, ho⟩ := OC.out e z hp; have HB := hideIt hb; have HSE := hideIt hse; have HTA := hideIt hta; have HO := hideIt ho; have HTL := hideIt htl; clear hp hb hse hta ho htl u0 u2) | fail)
   have hw8 : IntKind.u8.wrap t = t := by simp [IntKind.wrap, IntKind.bits, IntKind.signed]; omega
   have CO := hideIt (fun X (hX : Q z X) => over_any X R t sp (cell_keep hX c6) (cell_keep hX c7))
   have V0 : Hid (∀ X, Q z X → (X.cell? ⟨w.heap.size + 1, 0, none⟩ = some (.bool false) ∧ X.cell? ⟨w.heap.size + 1, 1, none⟩ = some (.int .i64 0) ∧ X.cell? ⟨w.heap.size + 1, 2, none⟩ = some (.int .u8 0) ∧ X.cell? ⟨w.heap.size + 1, 3, none⟩ = some (.bool false) ∧ X.cell? ⟨w.heap.size + 1, 4, none⟩ = some (.int .i64 0) ∧ X.cell? ⟨w.heap.size + 1, 5, none⟩ = some (.slice none 0 0)) ∧ ∀ j, X.frozen? ⟨w.heap.size + 1, j, none⟩ = false) := fun X hX => by
    have b1 := (hX.block _ hzl).trans HB.out
    exact ⟨⟨cell_blk b1 0, cell_blk b1 1, cell_blk b1 2, cell_blk b1 3, cell_blk b1 4, cell_blk b1 5⟩, fun j => free_blk b1 j⟩
   have c5' := fun ob => cell_bx c5 ob
   have c6' := fun ob => cell_bx c6 ob
   have c7' := fun ob => cell_bx c7 ob
   have c8' := fun ob => cell_bx c8 ob
   have VB : Hid (∀ ob, Q z (z.alloc ob).drew) := fun ob => ((Q.refl z).alloc ob).drew
   have ne1 : ¬ z.heap.size = w.heap.size + 1 := by omega
   have ne2 : ¬ w.heap.size + 1 = z.heap.size := by omega
   have HSZ : Hid (w.heap.size ≤ z.heap.size) := by show w.heap.size ≤ z.heap.size; omega
   have SS : Hid (∀ W j u, SE w z W ta tr → SE w z (W.setCell ⟨w.heap.size + 1, j, none⟩ u) ta tr) := fun W j u h => h.set (Nat.le_succ _) (fun b o e => (HTA.out b o e).1) j u
   have SZ : Hid (∀ W j u, SE w z W ta tr → SE w z (W.setCell ⟨z.heap.size, j, none⟩ u) ta tr) := fun W j u h => h.set HSZ.out (fun b o e => Nat.ne_of_lt (HTA.out b o e).2) j u
   have FO : Hid (∀ (o : Oc) W, ocP (runP c fuel) = o → o.tr = tr → SE w z W ta tr → OutPost w (ocP (runP c fuel)) (.agg (ocA o (.slice ta tr.length tc))) W) := fun o W h1 h2 h3 => by
    rw [h1]
    subst h2
    exact ⟨ta, tc, rfl, h3.t, HTL.out, h3.q⟩
   clear hzl
   rcases HO.out with ⟨o1, o2⟩ | ⟨o1, o2⟩
   ·rw [o1] at CO
    have O2 := hideIt o2
    clear o1 o2 HO
    have v0 := fun ob => (V0.out _ ((Q.refl z).alloc ob)).1.1
    have v1 := fun ob => (V0.out _ ((Q.refl z).alloc ob)).1.2.1
    have v2 := fun ob => (V0.out _ ((Q.refl z).alloc ob)).1.2.2.1
    have v3 := fun ob => (V0.out _ ((Q.refl z).alloc ob)).1.2.2.2.1
    have v4 := fun ob => (V0.out _ ((Q.refl z).alloc ob)).1.2.2.2.2.1
    have v5 := fun ob => (V0.out _ ((Q.refl z).alloc ob)).1.2.2.2.2.2
    have vf := fun ob => (V0.out _ ((Q.refl z).alloc ob)).2
    have S0 : Hid (∀ ob, SE w z (z.alloc ob) ta tr) := fun ob => HSE.out.alloc ob
    go_region
    clear c5 c6 c7 c8 c5' c6' c7' c8'
    go_wp2_with (first | (go_at_call 30; refine Calls.mono (CO.out _ (VB.out _)) ?_; rintro e x ⟨rfl, hx⟩; have hx2 := hx.symm; clear hx; subst hx2) | fail)
    refine bodyPost_ret (v := .tuple #[.agg (ocA ⟨true, v, t, sp, n, tr⟩ (.slice ta tr.length tc)), .int .i64 0]) (by simp [results, Try.results11, go_sem, v0, v1, v2, v3, v4, v5]) rfl ⟨_, rfl, FO.out _ _ O2.out rfl ?_⟩
    refine SE.drew ?_
    exact SS.out _ _ _ (SS.out _ _ _ (SS.out _ _ _ (SS.out _ _ _ (SS.out _ _ _ (SS.out _ _ _ (S0.out _))))))
   ·rw [o1] at CO
    have O2 := hideIt o2
    clear o1 o2 HO
    have v0 := fun ob => (V0.out _ ((Q.refl z).alloc ob)).1.1
    have v1 := fun ob => (V0.out _ ((Q.refl z).alloc ob)).1.2.1
    have v2 := fun ob => (V0.out _ ((Q.refl z).alloc ob)).1.2.2.1
    have v3 := fun ob => (V0.out _ ((Q.refl z).alloc ob)).1.2.2.2.1
    have v4 := fun ob => (V0.out _ ((Q.refl z).alloc ob)).1.2.2.2.2.1
    have v5 := fun ob => (V0.out _ ((Q.refl z).alloc ob)).1.2.2.2.2.2
    have vf := fun ob => (V0.out _ ((Q.refl z).alloc ob)).2
    have S0 : Hid (∀ ob, SE w z (z.alloc ob) ta tr) := fun ob => HSE.out.alloc ob
    go_region
    clear c5 c6 c7 c8 c5' c6' c7' c8'
    go_wp2_with (first | (go_at_call 30; refine Calls.mono (CO.out _ (VB.out _)) ?_; rintro e x ⟨rfl, hx⟩; have hx2 := hx.symm; clear hx; subst hx2) | fail)
    refine bodyPost_ret (v := .tuple #[.agg (ocA ⟨false, 0, t, sp, n, tr⟩ (.slice ta tr.length tc)), .int .i64 0]) (by simp [results, Try.results11, go_sem, v0, v1, v2, v3, v4, v5]) rfl ⟨_, rfl, FO.out _ _ O2.out rfl ?_⟩
    refine SE.drew ?_
    exact SS.out _ _ _ (SS.out _ _ _ (SS.out _ _ _ (SS.out _ _ _ (SS.out _ _ _ (SS.out _ _ _ (S0.out _))))))

end Go.Proofs.Ytphknepblchkdaa.Dn
