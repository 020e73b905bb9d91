/-
 A call of the document's run whose slots have room: a contract over the program; the conditions: a run lies there, the code is right, the arguments lie there, and the functions ahead keep their contract.
-/
import Derived.Test.YtphknepblchkdaaKDnL
namespace Go.Proofs.Ytphknepblchkdaa.Dn
open Go.RowKit
set_option linter.unusedVariables false

theorem allocs_len : ∀ (l : List Int) (bs bs' : List Nat), allocs l bs = some bs' → bs.length ≤ bs'.length
 | [], bs, bs', h => by simp only [allocs, Option.some.injEq] at h; rw [h]; exact Nat.le_refl _
 | x :: l, bs, bs', h => by
  simp only [allocs] at h
  split at h
  ·cases h
  ·have := allocs_len l _ _ h
   simp at this
   omega

set_option maxRecDepth 100000 in
set_option maxHeartbeats 8000000 in
theorem call_some {w w0 : World} {R : Nat} {col : Col} {c : PC} {fuel : Nat} {s : St} (h : DI w w0 R col c fuel s 0 false) (hf : fuel ≤ 8388608) (hv : VC c w0) {k : Nat} {f : PF} (hk : c.fns[k]? = some f) {A : List Int} {aa : Option Addr} {ac : Nat} (hA : Trc w aa A) (hAc : ∀ b o, aa = some ⟨b, o, none⟩ → col b = none) (hAl : (A.length : Int) = f.params) {g : Nat} (hcc : CallC w0 R c fuel (callR c fuel g) k) {bs' : List Nat} (hal : allocs f.slots s.bs = some bs') {ans0 ans : Rs Int} (hans0 : partsR (callR c fuel g) fuel s.bs.length f (fuel + 1) 0 (argR A) { s with bs := bs' } = ans0)
  (hans : cutA s.bs.length ans0 = ans) :
  Calls Try.prog 29 #[.pointer (some ⟨R, 0, none⟩), .int .i64 (k : Int), .slice aa A.length ac] w fun e w' => CallPost w w0 R col c fuel s ans e w' := by
 obtain ⟨h1, h2, h3, h4, h5, h6, h7⟩ := hv.hd hk
 obtain ⟨rn, hrn⟩ : ∃ rn : Nat, f.regs = (rn : Int) := ⟨f.regs.toNat, by omega⟩
 have hrl : rn ≤ 20000 := by omega
 have hAr : A.length ≤ rn := by omega
 obtain ⟨fb, fo, efa, hfat, hfok⟩ := hv.ok.fns k f hk
 have hkl : k < c.fns.length := (List.getElem?_eq_some_iff.1 hk).1
 have hkl' : (k : Int) < (c.fns.length : Int) := by omega
 have hfl : c.fns.length ≤ 9223372036854775807 := hv.ok.fsok.len
 obtain ⟨g0, g1, g2, g3⟩ := (At.low hfat h.bel).four
 have DIh := hideIt h
 obtain ⟨lv, tv, gs, d⟩ := h
 obtain ⟨la, lc, e0⟩ := row_form d.rows
 subst e0
 have c2 := d.cs.1
 rw [efa] at c2
 have c3 := d.cs.2.1
 have hbl := d.len
 obtain ⟨B, hB⟩ : ∃ B, w.alloc (.cells (fnA f) 44) = B := ⟨_, rfl⟩
 have qB : Q w B := by rw [← hB]; exact (Q.refl w).alloc _
 have hBs : B.heap.size = w.heap.size + 1 := by rw [← hB]; simp
 have c3' : B.cell? ⟨R, 3, none⟩ = some (.slice la s.bs.length lc) := cell_keep qB c3
 have HC0 : Hid (C1 w B col col w.heap.size f) := ⟨Ex.q qB, by rw [← hB]; exact heap_alloc_new w _, d.nobody (Nat.le_refl _), Nat.le_refl _⟩
 have HD0 : Hid (DI B w0 R col c fuel s 0 false) := DIh.out.keep qB
 have HAT := hideIt (fun (wr : World) (col' : Col) (X : Nat → Prop) (hx : Ex X col w col' wr) (hX : ∀ k, X k → w.heap.size ≤ k) => hA.ex hAc hx hX)
 have HSL : Hid (∀ wr : World, Below w0.heap.size w0 wr → ∀ (i : Nat) (x : Int), f.slots[i]? = some x → ∃ sb so, f.sa = some ⟨sb, so, none⟩ ∧ wr.cell? ⟨sb, so + i, none⟩ = some (.int .i64 x) ∧ 1 ≤ x) := fun wr hb i x hx => by
  obtain ⟨sb, so, e1, e2, -⟩ := hfok.slots i x hx
  rw [Nat.mul_one] at e2
  exact ⟨sb, so, e1, (hb.cell (p := ⟨sb, so + i, none⟩) (World.block_lt_of_cell? w0 _ e2)).trans e2, h6 x (List.mem_of_getElem? hx)⟩
 have hmk := fun (x : World) => run_make_row' (P := Try.prog) 23 2 (.int .i64 0) 8 Try.underlying23 Try.infoI64 rfl .i64 .i64 rn (by omega) (by omega) x
 obtain ⟨q0, hq0⟩ := get_of_lt (l := f.parts) (k := 0) h7
 obtain ⟨pb, po, epa, -, -⟩ := hfok.parts 0 q0 hq0
 have hfn := hv.fn k f hk
 unfold fnP at hfn
 simp only [Bool.and_eq_true] at hfn
 have HPT := hideIt (fun (at' : Nat) (q : PP) (hq : f.parts[at']? = some q) => show At w0 pb (po + at' * 5) q.cells ∧ q.ok w0 ∧ endP f q = true ∧ ∀ x ∈ q.ins, insP c k f x = true from by
  obtain ⟨b, o, e1, e2, e3⟩ := hfok.parts at' q hq
  rw [epa] at e1
  simp only [Option.some.injEq, Addr.mk.injEq] at e1
  obtain ⟨rfl, rfl, -⟩ := e1
  have := List.all_eq_true.1 hfn.2 q (List.mem_of_getElem? hq)
  unfold ptP at this
  simp only [Bool.and_eq_true] at this
  exact ⟨e2, e3, this.1, fun x hx => List.all_eq_true.1 this.2 x hx⟩)
 have hplen : f.parts.length ≤ 9223372036854775807 := hfok.psok.len
 have HB0 : Hid (w0.heap.size ≤ w.heap.size) := d.bel.size
 have HGL := hideIt hv.gl
 have HPR : Hid (∀ (j : Nat) (g : PF), c.fns[j]? = some g → g.params ≤ 20000) := fun j g hj => (hv.hd hj).2.1
 have HEP := hideIt epa
 have HRN := hideIt hrn
 have HQ0 := hideIt hq0
 have HH7 := hideIt h7
 have HAN := hideIt hans
 have HA0 := hideIt hans0
 have HAL := hideIt hal
 have HCC := hideIt hcc
 have HMN := hideIt (callR_n c fuel g)
 have HB1 := hideIt (allocs_len _ _ _ hal)
 clear hans hans0 hal hcc
 clear hfat hfok hA hAc hv hk epa hfn DIh d hrn hq0 h1 h2 h3 h4 h7 hAl qB
 go_enter Try.func29, Try.ntmps29
 go_wp2_with (fail)
 clear g0 g1 g2 g3 c2 c3 c3'
 go_loopw [9] (fun o wr => ∃ (i : Nat) (bs1 : List Nat) (col1 : Col), o = .int .i64 i ∧ i ≤ f.slots.length ∧ Hid (DI wr w0 R col1 c fuel { s with bs := bs1 } 0 false) ∧ Hid (C1 w wr col col1 w.heap.size f) ∧ Hid (allocs (f.slots.drop i) bs1 = some bs')) (fun o _ => f.slots.length - (intOf o).toNat)
 case atStart => exact ⟨0, s.bs, col, rfl, Nat.zero_le _, HD0, HC0, by rw [List.drop_zero]; exact HAL⟩
 case round =>
  obtain ⟨i, bs1, col1, rfl, hi, DD, CC, EA⟩ := hrel
  generalize wr = w1 at *
  clear HD0 HC0 HAL
  obtain ⟨-, y2, -⟩ := CC.out.cell
  obtain ⟨sa, hsa⟩ : ∃ sa, f.sa = sa := ⟨_, rfl⟩
  rw [hsa] at y2
  have HSA := hideIt hsa
  clear hsa
  have CO := hideIt (over_no DD.out)
  by_cases hic : i < f.slots.length
  ·obtain ⟨x, hx⟩ := get_of_lt hic
   obtain ⟨sb, so, e1, e2, hx1⟩ := HSL.out w1 DD.out.bel i x hx
   rw [HSA.out] at e1
   subst e1
   have ED := hideIt (allocs_drop hx bs1)
   have k1 : decide ((i : Int) < (f.slots.length : Int)) = true := by simp; omega
   have k2 : (i : Int) < (f.slots.length : Int) := by omega
   have k3 : IntKind.i64.wrap ((i : Int) + 1) = (i : Int) + 1 := by rw [IntKind.wrap_i64]; omega
   have hb : ¬ 65536 - ((bs1.sum : Nat) : Int) < x := fun hb => by
    have h1 := EA.out
    rw [ED.out, if_pos hb] at h1
    cases h1
   clear hx
   obtain ⟨n, rfl⟩ : ∃ n : Nat, x = (n : Int) := ⟨x.toNat, by omega⟩
   have BB := hideIt (block_ok DD.out n (by omega) (by show (n : Int) ≤ 65536 - ((bs1.sum : Nat) : Int); omega))
   have EB := hideIt (show allocs (f.slots.drop (i + 1)) (bs1 ++ [n]) = some bs' by have h1 := EA.out; rw [ED.out, if_neg hb] at h1; simpa using h1)
   clear hb
   go_wp2_with (first | (go_at_call 30; refine CO.out.mono ?_; rintro e y ⟨rfl, hy⟩; have hy2 := hy.symm; clear hy; subst hy2) | (go_at_call 28; refine BB.out.mono ?_; rintro e z ⟨rfl, col2, a1, a2⟩; have HA1 := hideIt a1; have HA2 := hideIt a2; clear a1 a2) | fail)
   go_roundw
   case rel => exact ⟨i + 1, bs1 ++ [n], col2, by go_num, hic, HA1, hideIt (CC.out.step HA2.out (fun _ q => q.elim) (fun q => q)), EB⟩
   case measure => simp [intOf]; omega
  ·have e1 : i = f.slots.length := by omega
   subst e1
   have e2 : bs1 = bs' := by
    have := EA.out
    rw [List.drop_length] at this
    simpa [allocs] using this
   subst e2
   have k1 : decide ((f.slots.length : Int) < (f.slots.length : Int)) = false := by simp
   have hG0 := CC.out.ol
   obtain ⟨x1, -, x3⟩ := CC.out.cell
   rw [HRN.out] at x1
   have HCG : Hid (∀ x, Q w1 x → C1 w x col col1 w.heap.size f ∧ DI x w0 R col1 c fuel { s with bs := bs1 } 0 false) := fun x hx => ⟨CC.out.q hx, DD.out.keep hx⟩
   have HNG : Hid (col1 w1.heap.size = none) := by
    obtain ⟨lv, tv, gs, d⟩ := DD.out
    exact d.nobody (Nat.le_refl _)
   have HAT2 := hideIt (fun (x : World) (hx : Q w1 x) => HAT.out x col1 noX (CC.out.ex.trans (Ex.q hx)) (fun _ q => q.elim))
   have HLO : Hid (w.heap.size < w1.heap.size) := lt_blk CC.out.fb
   have HN0 : Hid (Nums (w1.alloc (.cells (madeCells #[.int .i64 0] rn) 2)) w1.heap.size rn (argP A 0)) := by
    refine (made_nums (W := w1.alloc (.cells (madeCells #[.int .i64 0] rn) 2)) (g := w1.heap.size) (n := rn) (heap_alloc_new w1 _)).ext fun m _ => ?_
    simp [argP]
   have HQ1 : Hid (Q w1 (w1.alloc (.cells (madeCells #[.int .i64 0] rn) 2))) := (Q.refl w1).alloc _
   go_wp2_with (fail)
   clear x1 x3
   generalize hGG : w1.heap.size = G at *
   generalize hW1 : w1.alloc (.cells (madeCells #[.int .i64 0] rn) 2) = W1 at *
   go_loopw [11] (fun o wa => ∃ (i : Nat), o = .int .i64 i ∧ i ≤ A.length ∧ Hid (Nums wa G rn (argP A i)) ∧ Hid (Q w1 wa)) (fun o _ => A.length - (intOf o).toNat)
   case atStart => exact ⟨0, rfl, Nat.zero_le _, HN0, HQ1⟩
   case round =>
    obtain ⟨i, rfl, hi, HN, HQA⟩ := hrel
    generalize wr = wa at *
    clear HN0 HQ1 hW1
    by_cases hic : i < A.length
    ·obtain ⟨x, hx⟩ := get_of_lt hic
     obtain ⟨bb, oo, e1, e2⟩ := HAT2.out wa HQA.out i x hx
     subst e1
     have k1 : (i : Int) < (A.length : Int) := by omega
     have k2 : (i : Int) < (rn : Int) := by omega
     have n1 := HN.out.cell (show i < rn by omega)
     have n2 := HN.out.free i
     have HX := hideIt hx
     clear hx
     go_wp2_with (fail)
     go_roundw
     case rel =>
      refine ⟨i + 1, by go_num, by omega, ?_, hideIt (HQA.out.set (by show w1.heap.size ≤ G; omega) _)⟩
      have := HN.out.set (j := i) x
      rw [argP_step HX.out] at this
      exact this
     case measure => simp [intOf]; omega
    ·have e1 : i = A.length := by omega
     subst e1
     rw [argP_end] at HN
     have CA := hideIt (HCG.out wa HQA.out).1
     have DA := hideIt (HCG.out wa HQA.out).2
     have k0 : decide ((A.length : Int) < (A.length : Int)) = false := by simp
     clear HCG HAT2 HQA
     go_wp2_with (fail)
     have IA0 : Hid (IA wa w0 R col1 c fuel { s with bs := bs1 } G rn (argR A)) := ⟨DA.out, HN.out, HNG.out, by show w0.heap.size ≤ G; have := HB0.out; have := HLO.out; omega⟩
     have hGw : w.heap.size < G := HLO.out
     clear HN DA HLO
     generalize hcf : callR c fuel g = cf at *
     go_loopg [12] (fuel + 1) (fun gk o wp => ∃ (at' : Nat) (q : PP) (ρ' : Rg) (s' : St) (col' : Col), o = .int .i64 at' ∧ f.parts[at']? = some q ∧ Hid (partsR cf fuel s.bs.length f gk at' ρ' s' = ans0) ∧ fuel < s'.n + gk ∧ s'.bs.length = bs1.length ∧ Hid (IA wp w0 R col' c fuel s' G rn ρ') ∧ Hid (C1 w wp col col' w.heap.size f))
     case atStart => exact ⟨0, q0, argR A, { s with bs := bs1 }, col1, by simp, HQ0.out, HA0, by omega, rfl, IA0, CA⟩
     case round =>
      obtain ⟨at', q, ρ', s', col', rfl, hq, EE, hg, hbl', IP, CP⟩ := hrel
      generalize wr = wp at *
      clear IA0 CA HA0 HQ0
      cases gk with
      | zero =>
       obtain ⟨lv, tv, gs, d⟩ := IP.out.di
       exact absurd d.nle (by omega)
      | succ g' =>
       obtain ⟨e1, e2, e3, e4⟩ := HPT.out at' q hq
       have EN := hideIt e3
       have EI := hideIt e4
       have EO := hideIt e2
       have hal' : (at' : Int) < (f.parts.length : Int) := by have := (List.getElem?_eq_some_iff.1 hq).1; omega
       have E2 : Hid ((match insR cf fuel s.bs.length q.ins ρ' s' with | .over t sp s2 => .over t sp s2 | .ok ρ2 s2 => if s2.n = fuel then .over 0 true s2 else if q.e then .ok (rg ρ2 q.cond) s2.up else partsR cf fuel s.bs.length f g' (nextP q ρ2).toNat ρ2 s2.up) = ans0) := by
        have := EE.out
        unfold partsR at this
        rw [hq] at this
        exact this
       obtain ⟨ri, hri⟩ : ∃ ri, insR cf fuel s.bs.length q.ins ρ' s' = ri := ⟨_, rfl⟩
       rw [hri] at E2
       obtain ⟨-, -, x3⟩ := CP.out.cell
       rw [HEP.out] at x3
       obtain ⟨p0, p1, p2, p3, p4⟩ := (At.low e1 IP.out.di.bel).five
       have hil : q.ins.length ≤ 9223372036854775807 := e2.sok.len
       have HWl : Hid (G < wp.heap.size) := IP.out.nums.lt
       have HI0 : Hid (Inn w (wp.alloc (.cells (ptA q) 47)) w0 R col c fuel w.heap.size f G rn wp.heap.size q ri (fun ρ s1 => insR cf fuel s.bs.length (q.ins.drop 0) ρ s1) s'.n bs1.length) := by
        have hq1 : Q wp (wp.alloc (.cells (ptA q) 47)) := (Q.refl wp).alloc _
        have IK := IP.out.keep hq1
        have hno : col' wp.heap.size = none := by
         obtain ⟨lv, tv, gs, d⟩ := IP.out.di
         exact d.nobody (Nat.le_refl _)
        refine ⟨col', CP.out.q hq1, heap_alloc_new wp _, hno, Or.inl ⟨ρ', s', by rw [List.drop_zero]; exact hri, IK, Nat.le_refl _, hbl', ?_⟩⟩
        obtain ⟨lv, tv, gs, d⟩ := IP.out.di
        exact d.trl
       have hPG : Hid (wp.heap.size ≠ G) := by have := HWl.out; show wp.heap.size ≠ G; omega
       clear e1 e2 e3 e4 hq EE hri CP IP
       dsimp only [ptA] at HI0
       go_wp2_with (fail)
       clear x3 p0 p1 p2 p3 p4 HWl
       generalize wp.heap.size = PB at *
       go_loopw [14] (fun o wq => ∃ i : Nat, o = .int .i64 i ∧ i ≤ q.ins.length ∧ Hid (Inn w wq w0 R col c fuel w.heap.size f G rn PB q ri (fun ρ s1 => insR cf fuel s.bs.length (q.ins.drop i) ρ s1) s'.n bs1.length)) (fun o _ => q.ins.length - (intOf o).toNat)
       case atStart => exact ⟨0, rfl, Nat.zero_le _, HI0⟩
       case round =>
        obtain ⟨i, rfl, hi, HI⟩ := hrel
        generalize wr = wq at *
        clear HI0
        obtain ⟨col2, C1q, hPb, hPc, hw⟩ := HI.out
        have C2 := hideIt (And.intro C1q (And.intro hPb hPc))
        have b0 := (pt_cells hPb).1
        clear HI C1q hPb hPc
        rcases hw with ⟨ρ2, s2, r1, r2, r3, r4, r5⟩ | ⟨t, sp, s3, s4, t1, t2, t3, t4, t5⟩
        ·have R1 := hideIt r1
         have R2 := hideIt r2
         have R5 := hideIt r5
         clear r1 r2 r5
         by_cases hn : s2.n = fuel
         ·have ST := hideIt (step_end R2.out.di hn)
          have FO : Hid (∀ y, DI y w0 R col2 c fuel s2 0 true → Ex noX col2 wq col2 y → ans0 = .over 0 true s2 → CallPost w w0 R col c fuel s ans (.returned (.int .i64 0)) y) := fun y a1 a2 a3 => by
           have := HAN.out
           rw [a3] at this
           exact over_post (C2.out.1.step a2 (fun _ q => q.elim) (fun q => q)) (Or.inr rfl) this.symm a1 rfl rfl
          have HN2 := hideIt hn
          clear hn
          by_cases hic : i < q.ins.length
          ·obtain ⟨x, hx⟩ := get_of_lt hic
           have EF : Hid (ans0 = .over 0 true s2) := by
            have h1 := insR_drop (cf := cf) (fuel := fuel) (keep := s.bs.length) hx ρ2 s2
            rw [exI_B, if_pos HN2.out, show insR cf fuel s.bs.length (q.ins.drop i) ρ2 s2 = ri from R1.out] at h1
            have h2 := E2.out
            rw [h1] at h2
            exact h2.symm
           have k1 : decide ((i : Int) < (q.ins.length : Int)) = true := by simp; omega
           clear hx
           go_wp2_with (first | (go_at_call 55; refine ST.out.mono ?_; rintro e y ⟨rfl, d1, d2⟩; have HU := hideIt (And.intro d1 d2); clear d1 d2) | fail)
           go_ret
           exact FO.out _ HU.out.1 HU.out.2 EF.out
          ·have ei : i = q.ins.length := by omega
           subst ei
           have EF : Hid (ans0 = .over 0 true s2) := by
            have h1 := R1.out
            dsimp only at h1
            rw [List.drop_length] at h1
            have h2 := E2.out
            rw [← h1] at h2
            have h3 : (if s2.n = fuel then Rs.over 0 true s2 else if q.e then .ok (rg ρ2 q.cond) s2.up else partsR cf fuel s.bs.length f g' (nextP q ρ2).toNat ρ2 s2.up) = ans0 := h2
            rw [if_pos HN2.out] at h3
            exact h3.symm
           have k1 : decide ((q.ins.length : Int) < (q.ins.length : Int)) = false := by simp
           go_wp2_with (first | (go_at_call 55; refine ST.out.mono ?_; rintro e y ⟨rfl, d1, d2⟩; have HU := hideIt (And.intro d1 d2); clear d1 d2) | fail)
           go_ret
           exact FO.out _ HU.out.1 HU.out.2 EF.out
         ·have ST := hideIt (step_go R2.out.di hn hf)
          have HN2 := hideIt hn
          have HNL : Hid (s2.n + 1 ≤ fuel) := by
           obtain ⟨lv, tv, gs, d⟩ := R2.out.di
           have := d.nle
           show s2.n + 1 ≤ fuel
           omega
          clear hn
          by_cases hic : i < q.ins.length
          ·obtain ⟨x, hx⟩ := get_of_lt hic
           obtain ⟨ib, io, eia, hxa, hxok⟩ := EO.out.ins i x hx
           have HXI := hideIt (EI.out x (List.mem_of_getElem? hx))
           have IX := hideIt (fun (y : World) (d1 : DI y w0 R col2 c fuel s2.up 0 false) (d2 : Ex noX col2 wq col2 y) => inst_any (R2.out.di' d1 d2) hf hrl (by show s2.tr.length + 1 ≤ s2.n + 1; have := R5.out; omega) (keep := s.bs.length) hbl (k := k) (f := f) HRN.out h5 HGL.out HPR.out HCC.out x (ok_low hxok d1.bel) HXI.out)
           have FX := hideIt (fun (y : World) (d1 : DI y w0 R col2 c fuel s2.up 0 false) => (At.low hxa d1.bel).seven)
           have NS := hideIt (fun (y z : World) (e : Ending) (d2 : Ex noX col2 wq col2 y) (hp : InsPost y w0 R col2 c fuel s2.up G rn (exB cf s.bs.length x ρ2 s2.up) e z) => inn_step (w := w) (col := col) (O := w.heap.size) (f := f) (P := PB) (q := q) (ri := ri) (n1 := s'.n) (bl := bs1.length) HMN.out (Nat.le_of_lt hGw) (Nat.ne_of_lt hGw) hPG.out hx R1.out HN2.out (C2.out.1.step d2 (fun _ q => q.elim) (fun q => q)) (d2.blk C2.out.2.2 (fun q => q) C2.out.2.1) ((d2.col PB (lt_blk C2.out.2.1)).trans C2.out.2.2) r3 r4 hp)
           have k1 : decide ((i : Int) < (q.ins.length : Int)) = true := by simp; omega
           have k2 : (i : Int) < (q.ins.length : Int) := by omega
           have HEIA := hideIt eia
           clear hx hxa hxok eia
           rw [HEIA.out] at b0
           go_wp2_with (first
            | (go_at_call 55; refine ST.out.mono ?_; rintro e y ⟨rfl, d1, d2⟩; obtain ⟨v0, v1, v2, v3, v4, v5, v6⟩ := FX.out y d1; have HU := hideIt (And.intro d1 d2); have b5 := d2.blk C2.out.2.2 (fun q => q) C2.out.2.1; obtain ⟨z0, z1, z2, z3, z4⟩ := pt_cells b5; clear d1 d2 b5 b0; rw [HEIA.out] at z0)
            | (go_at_call 56; refine Calls.mono (IX.out _ HU.out.1 HU.out.2) ?_; intro e z hp; have he := hp.e; subst he; have HP := hideIt hp; clear hp v0 v1 v2 v3 v4 v5 v6 z0 z1 z2 z3 z4)
            | fail)
           go_roundw
           case rel => exact ⟨i + 1, by go_num, hic, hideIt (NS.out _ _ _ HU.out.2 HP.out)⟩
           case measure => simp [intOf]; omega
          ·have ei : i = q.ins.length := by omega
           subst ei
           have E3 : Hid ((if q.e then Rs.ok (rg ρ2 q.cond) s2.up else partsR cf fuel s.bs.length f g' (nextP q ρ2).toNat ρ2 s2.up) = ans0) := by
            have h1 := R1.out
            dsimp only at h1
            rw [List.drop_length] at h1
            have h2 := E2.out
            rw [← h1] at h2
            have h3 : (if s2.n = fuel then Rs.over 0 true s2 else if q.e then .ok (rg ρ2 q.cond) s2.up else partsR cf fuel s.bs.length f g' (nextP q ρ2).toNat ρ2 s2.up) = ans0 := h2
            rw [if_neg HN2.out] at h3
            exact h3
           have k1 : decide ((q.ins.length : Int) < (q.ins.length : Int)) = false := by simp
           have IY := hideIt (fun (y : World) (d1 : DI y w0 R col2 c fuel s2.up 0 false) (d2 : Ex noX col2 wq col2 y) => R2.out.di' d1 d2)
           have CY := hideIt (fun (y : World) (d2 : Ex noX col2 wq col2 y) => C2.out.1.step d2 (fun _ q => q.elim) (fun q => q))
           cases he : q.e
           ·have nl := next_lt (ρ := ρ2) EN.out he
            rw [he] at E3
            simp only [Bool.false_eq_true, if_false] at E3
            obtain ⟨q2, hq2⟩ := get_of_lt (l := f.parts) (k := (nextP q ρ2).toNat) (by omega)
            have HQ2 := hideIt hq2
            have HE := hideIt he
            have NR : Hid (∀ (y : World), DI y w0 R col2 c fuel s2.up 0 false → Ex noX col2 wq col2 y → ∀ n : Int, n = nextP q ρ2 → ∃ (at2 : Nat) (q3 : PP) (ρ3 : Rg) (s3 : St) (col3 : Col), (Value.int .i64 n) = .int .i64 at2 ∧ f.parts[at2]? = some q3 ∧ Hid (partsR cf fuel s.bs.length f g' at2 ρ3 s3 = ans0) ∧ fuel < s3.n + g' ∧ s3.bs.length = bs1.length ∧ Hid (IA y w0 R col3 c fuel s3 G rn ρ3) ∧ Hid (C1 w y col col3 w.heap.size f)) := fun y d1 d2 n hn => by
             subst hn
             exact ⟨(nextP q ρ2).toNat, q2, ρ2, s2.up, col2, by congr 1; omega, HQ2.out, E3, by show fuel < s2.n + 1 + g'; have := HNL.out; omega, r4, hideIt (IY.out y d1 d2), hideIt (CY.out y d2)⟩
            by_cases hc0 : q.cond < 0
            ·have hc0' : decide (0 ≤ q.cond) = false := by simp; omega
             have hnx : Hid (q.next = nextP q ρ2) := by
              show q.next = nextP q ρ2
              unfold nextP
              rw [if_neg (fun h => by omega)]
             clear he hq2 nl
             go_wp2_with (first | (go_at_call 55; refine ST.out.mono ?_; rintro e y ⟨rfl, d1, d2⟩; have HU := hideIt (And.intro d1 d2); have b5 := d2.blk C2.out.2.2 (fun q => q) C2.out.2.1; obtain ⟨z0, z1, z2, z3, z4⟩ := pt_cells b5; clear d1 d2 b5 b0; rw [HE.out] at z1) | fail)
             go_roundg g'
             all_goals first | exact Nat.lt_succ_self g' | exact NR.out _ HU.out.1 HU.out.2 _ hnx.out
            ·have hcr : 0 ≤ q.cond ∧ q.cond < (rn : Int) := by
              have := EN.out
              unfold endP at this
              rw [he] at this
              have hcn : ¬ q.cond < 0 := hc0
              simp [blP, hcn] at this
              rw [HRN.out] at this
              omega
             obtain ⟨m, hm⟩ : ∃ m : Nat, q.cond = (m : Int) := ⟨q.cond.toNat, by omega⟩
             have HM := hideIt hm
             have GN := hideIt (fun (y : World) (d1 : DI y w0 R col2 c fuel s2.up 0 false) (d2 : Ex noX col2 wq col2 y) => (IY.out y d1 d2).nums.cell (show m < rn by omega))
             have hml : (m : Int) < (rn : Int) := by omega
             have hm0 : decide (0 ≤ (m : Int)) = true := by simp
             by_cases hz : ρ2 m = 0
             ·have hnx : Hid (q.els = nextP q ρ2) := by
               show q.els = nextP q ρ2
               unfold nextP
               rw [if_pos ⟨by omega, by rw [hm, rg_nat]; exact hz⟩]
              rw [hz] at GN
              clear he hq2 nl hc0 hcr hm hz
              go_wp2_with (first | (go_at_call 55; refine ST.out.mono ?_; rintro e y ⟨rfl, d1, d2⟩; have gn := GN.out y d1 d2; have HU := hideIt (And.intro d1 d2); have b5 := d2.blk C2.out.2.2 (fun q => q) C2.out.2.1; obtain ⟨z0, z1, z2, z3, z4⟩ := pt_cells b5; clear d1 d2 b5 b0; rw [HE.out] at z1; rw [HM.out] at z2) | fail)
              go_roundg g'
              all_goals first | exact Nat.lt_succ_self g' | exact NR.out _ HU.out.1 HU.out.2 _ hnx.out
             ·have hnx : Hid (q.next = nextP q ρ2) := by
               show q.next = nextP q ρ2
               unfold nextP
               rw [if_neg (fun h => hz (by have := h.2; rw [hm, rg_nat] at this; exact this))]
              have hz' : (ρ2 m == 0) = false := by simpa using hz
              generalize ρ2 m = rv at *
              clear he hq2 nl hc0 hcr hm hz
              go_wp2_with (first | (go_at_call 55; refine ST.out.mono ?_; rintro e y ⟨rfl, d1, d2⟩; have gn := GN.out y d1 d2; have HU := hideIt (And.intro d1 d2); have b5 := d2.blk C2.out.2.2 (fun q => q) C2.out.2.1; obtain ⟨z0, z1, z2, z3, z4⟩ := pt_cells b5; clear d1 d2 b5 b0; rw [HE.out] at z1; rw [HM.out] at z2) | fail)
              go_roundg g'
              all_goals first | exact Nat.lt_succ_self g' | exact NR.out _ HU.out.1 HU.out.2 _ hnx.out
           ·rw [he] at E3
            simp only [if_true] at E3
            have hcr : 0 ≤ q.cond ∧ q.cond < (rn : Int) := by
             have := EN.out
             unfold endP at this
             rw [he] at this
             simp [blP] at this
             rw [HRN.out] at this
             omega
            obtain ⟨m, hm⟩ : ∃ m : Nat, q.cond = (m : Int) := ⟨q.cond.toNat, by omega⟩
            have HM := hideIt hm
            have HE := hideIt he
            have hml : (m : Int) < (rn : Int) := by omega
            have HBL : Hid (s.bs.length ≤ s2.up.bs.length) := by show s.bs.length ≤ s2.bs.length; rw [r4]; exact HB1.out
            have KP := hideIt (fun (y : World) (d1 : DI y w0 R col2 c fuel s2.up 0 false) => keep_di d1 s.bs.length HBL.out)
            have GN := hideIt (fun (y z : World) (d1 : DI y w0 R col2 c fuel s2.up 0 false) (d2 : Ex noX col2 wq col2 y) (d3 : Ex noX col2 y col2 z) => And.intro (((IY.out y d1 d2).nums.keep (d3.block G (IY.out y d1 d2).nums.lt (IY.out y d1 d2).hg (fun q => q))).cell (show m < rn by omega)) (d3.blk ((d2.col PB (lt_blk C2.out.2.1)).trans C2.out.2.2) (fun q => q) (d2.blk C2.out.2.2 (fun q => q) C2.out.2.1)))
            have FO : Hid (∀ y z, Ex noX col2 wq col2 y → DI z w0 R col2 c fuel { s2.up with bs := s2.up.bs.take s.bs.length, f := Me.keepf s2.up.f s.bs.length } 0 false → Ex noX col2 y col2 z → CallPost w w0 R col c fuel s ans (.returned (.int .i64 (ρ2 m))) z) := fun y z a1 a2 a3 => by
             have h1 := HAN.out
             rw [← E3.out] at h1
             rw [← h1]
             refine ⟨by rw [hm, rg_nat], col2, a2, ((CY.out y a1).step a3 (fun _ q => q.elim) (fun q => q)).ex, ?_⟩
             show (s2.up.bs.take s.bs.length).length = s.bs.length
             rw [List.length_take]
             exact Nat.min_eq_left HBL.out
            generalize ρ2 m = rv at *
            clear he hcr hm
            go_wp2_with (first
             | (go_at_call 55; refine ST.out.mono ?_; rintro e y ⟨rfl, d1, d2⟩; have HU := hideIt (And.intro d1 d2); have b5 := d2.blk C2.out.2.2 (fun q => q) C2.out.2.1; obtain ⟨z0, z1, z2, z3, z4⟩ := pt_cells b5; clear d1 d2 b5 b0; rw [HE.out] at z1; rw [HM.out] at z2)
             | (go_at_call 57; refine Calls.mono (KP.out _ HU.out.1) ?_; rintro e z ⟨rfl, a1, a2⟩; obtain ⟨gn, gb⟩ := GN.out _ z HU.out.1 HU.out.2 a2; have y2 := (pt_cells gb).2.2.1; rw [HM.out] at y2; have HK := hideIt (And.intro a1 a2); clear a1 a2 gb z0 z1 z2 z3 z4)
             | fail)
            go_ret
            exact FO.out _ _ HU.out.2 HK.out.1 HK.out.2
        ·have ST := hideIt (step_over t3 t1)
         have FO : Hid (CallPost w w0 R col c fuel s ans (.returned (.int .i64 0)) wq) := by
          have h2 := E2.out
          rw [t2] at h2
          have h3 : Rs.over t sp s3 = ans0 := h2
          have := HAN.out
          rw [← h3] at this
          exact over_post C2.out.1 t1 this.symm t3 t4 t5
         clear t1 t2 t3 t4 t5
         by_cases hic : i < q.ins.length
         ·have k1 : decide ((i : Int) < (q.ins.length : Int)) = true := by simp; omega
          go_wp2_with (first | (go_at_call 55; refine ST.out.mono ?_; rintro e y ⟨rfl, hy⟩; have hy2 := hy.symm; clear hy; subst hy2) | fail)
          go_ret
          exact FO.out
         ·have k1 : decide ((i : Int) < (q.ins.length : Int)) = false := by simp; omega
          go_wp2_with (first | (go_at_call 55; refine ST.out.mono ?_; rintro e y ⟨rfl, hy⟩; have hy2 := hy.symm; clear hy; subst hy2) | fail)
          go_ret
          exact FO.out

end Go.Proofs.Ytphknepblchkdaa.Dn
