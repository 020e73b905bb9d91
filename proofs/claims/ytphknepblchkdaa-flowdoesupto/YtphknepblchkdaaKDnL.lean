/-
 A call of the document's run: contracts over the program; the conditions: a run lies there, the code is right, the arguments lie there, and the functions ahead keep their contract.
-/
import Derived.Test.YtphknepblchkdaaKDnK
namespace Go.Proofs.Ytphknepblchkdaa.Dn
open Go.RowKit
set_option linter.unusedVariables false

theorem InsPost.e {w w0 w' : World} {R : Nat} {col : Col} {c : PC} {fuel : Nat} {s : St} {G rn : Nat} {r : Rs Rg} {e : Ending} (h : InsPost w w0 R col c fuel s G rn r e w') : e = .returned (.tuple #[]) := by
 cases r with
 | ok ρ s' => exact h.1
 | over t sp s' => exact h.1
theorem IA.di' {w w' w0 : World} {R : Nat} {col col' : Col} {c : PC} {fuel : Nat} {s s' : St} {G rn : Nat} {ρ : Rg} (h : IA w w0 R col c fuel s G rn ρ) (hd : DI w' w0 R col' c fuel s' 0 false) (hx : Ex noX col w col' w') : IA w' w0 R col' c fuel s' G rn ρ :=
 ⟨hd, h.nums.keep (hx.block G h.nums.lt h.hg (fun q => q)), (hx.col G h.nums.lt).trans h.hg, h.hb⟩

/-- The instructions of a part are under way: it goes on, or it is over. -/
def Inn (w wq w0 : World) (R : Nat) (col : Col) (c : PC) (fuel : Nat) (O : Nat) (f : PF) (G rn P : Nat) (q : PP) (ri : Rs Rg) (rest : Rg → St → Rs Rg) (n1 bl : Nat) : Prop :=
 ∃ col2, C1 w wq col col2 O f ∧ wq.heap[P]? = some (.cells (ptA q) 47 (0, 0)) ∧ col2 P = none ∧
  ((∃ ρ2 s2, rest ρ2 s2 = ri ∧ IA wq w0 R col2 c fuel s2 G rn ρ2 ∧ n1 ≤ s2.n ∧ s2.bs.length = bl ∧ s2.tr.length ≤ s2.n) ∨
   (∃ t sp s3 s4, (t ≠ 0 ∨ sp = true) ∧ ri = .over t sp s3 ∧ DI wq w0 R col2 c fuel s4 t sp ∧ s4.n = s3.n ∧ s4.tr = s3.tr))

theorem pt_cells {w : World} {P : Nat} {q : PP} (h : w.heap[P]? = some (.cells (ptA q) 47 (0, 0))) : w.cell? ⟨P, 0, none⟩ = some (.slice q.ia q.ins.length q.ic) ∧ w.cell? ⟨P, 1, none⟩ = some (.bool q.e) ∧ w.cell? ⟨P, 2, none⟩ = some (.int .i64 q.cond) ∧ w.cell? ⟨P, 3, none⟩ = some (.int .i64 q.next) ∧ w.cell? ⟨P, 4, none⟩ = some (.int .i64 q.els) := ⟨cell_blk h 0, cell_blk h 1, cell_blk h 2, cell_blk h 3, cell_blk h 4⟩

/-- One instruction more. -/
theorem inn_step {w y z w0 : World} {R : Nat} {col col2 : Col} {c : PC} {fuel : Nat} {O : Nat} {f : PF} {G rn P : Nat} {q : PP} {ri : Rs Rg} {cf : CallT} {keep : Nat} {i : Nat} {x : PI} {ρ2 : Rg} {s2 : St} {n1 bl : Nat} {e : Ending} (hmon : MonC cf) (hGw : w.heap.size ≤ G) (hOG : O ≠ G) (hPG : P ≠ G)
  (hx : q.ins[i]? = some x) (hri : insR cf fuel keep (q.ins.drop i) ρ2 s2 = ri) (hn : ¬ s2.n = fuel) (hc : C1 w y col col2 O f) (hP : y.heap[P]? = some (.cells (ptA q) 47 (0, 0))) (hPc : col2 P = none) (hn1 : n1 ≤ s2.n) (hbl : s2.bs.length = bl)
  (hp : InsPost y w0 R col2 c fuel s2.up G rn (exB cf keep x ρ2 s2.up) e z) : Inn w z w0 R col c fuel O f G rn P q ri (fun ρ s => insR cf fuel keep (q.ins.drop (i + 1)) ρ s) n1 bl := by
 have hd := insR_drop (cf := cf) (fuel := fuel) (keep := keep) hx ρ2 s2
 rw [hri] at hd
 have he : exI cf fuel keep x ρ2 s2 = exB cf keep x ρ2 s2.up := by rw [exI_B, if_neg hn]
 have hX : ∀ b, atG G b → w.heap.size ≤ b := fun b hb => by rw [show b = G from hb]; exact hGw
 have hm := fun ρ' s' => exI_n hmon (fuel := fuel) (keep := keep) (x := x) (ρ := ρ2) (ρ' := ρ') (s := s2) (s' := s')
 rw [he] at hd hm
 cases hr : exB cf keep x ρ2 s2.up with
 | ok ρ3 s3 =>
  rw [hr] at hp hd hm
  obtain ⟨-, col3, a1, a2, a3⟩ := hp
  have h3 := hm ρ3 s3 rfl
  refine ⟨col3, hc.step a2 hX (fun q => hOG q), a2.blk hPc (fun q => hPG q) hP, (a2.col P (lt_blk hP)).trans hPc, Or.inl ⟨ρ3, s3, hd.symm, a1, by omega, a3.trans hbl, ?_⟩⟩
  obtain ⟨lv, tv, gs, d⟩ := a1.di
  exact d.trl
 | over t sp s3 =>
  rw [hr] at hp hd
  obtain ⟨-, ht, col3, s4, a1, a2, a3, a4⟩ := hp
  exact ⟨col3, hc.step a2 hX (fun q => hOG q), a2.blk hPc (fun q => hPG q) hP, (a2.col P (lt_blk hP)).trans hPc, Or.inr ⟨t, sp, s3, s4, ht, hd, a1, a3, a4⟩⟩

/-- A call's answer, the blocks behind the first n cut off. -/
def cutA (n : Nat) : Rs Int → Rs Int
 | .ok v s2 => .ok v { s2 with bs := s2.bs.take n, f := Me.keepf s2.f n }
 | .over t sp s2 => .over t sp s2
theorem callR_at {c : PC} {fuel g k : Nat} {f : PF} (hk : c.fns[k]? = some f) (A : List Int) (s : St) : callR c fuel (g + 1) k A s = match allocs f.slots s.bs with | none => .over 5 false s | some bs' => cutA s.bs.length (partsR (callR c fuel g) fuel s.bs.length f (fuel + 1) 0 (argR A) { s with bs := bs' }) := by
 rw [callR, hk]
 dsimp only
 cases allocs f.slots s.bs with
 | none => rfl
 | some bs' =>
  dsimp only
  cases partsR (callR c fuel g) fuel s.bs.length f (fuel + 1) 0 (argR A) { s with bs := bs' } <;> rfl

set_option maxRecDepth 100000 in
set_option maxHeartbeats 4000000 in
theorem call_none {w w0 : World} {R : Nat} {col : Col} {c : PC} {fuel : Nat} {s : St} (h : DI w w0 R col c fuel s 0 false) (hf : fuel ≤ 8388608) (hv : VC c w0) {k : Nat} {f : PF} (hk : c.fns[k]? = some f) {A : List Int} {aa : Option Addr} {ac : Nat} (hA : Trc w aa A) (hAc : ∀ b o, aa = some ⟨b, o, none⟩ → col b = none) (hAl : (A.length : Int) = f.params) (hal : allocs f.slots s.bs = none) {ans : Rs Int} (hans : ans = .over 5 false s) :
  Calls Try.prog 29 #[.pointer (some ⟨R, 0, none⟩), .int .i64 (k : Int), .slice aa A.length ac] w fun e w' => CallPost w w0 R col c fuel s ans e w' := by
 obtain ⟨h1, h2, h3, h4, h5, h6, h7⟩ := hv.hd hk
 obtain ⟨rn, hrn⟩ : ∃ rn : Nat, f.regs = (rn : Int) := ⟨f.regs.toNat, by omega⟩
 have hrl : rn ≤ 20000 := by omega
 have hAr : A.length ≤ rn := by omega
 obtain ⟨fb, fo, efa, hfat, hfok⟩ := hv.ok.fns k f hk
 have hkl : k < c.fns.length := (List.getElem?_eq_some_iff.1 hk).1
 have hkl' : (k : Int) < (c.fns.length : Int) := by omega
 have hfl : c.fns.length ≤ 9223372036854775807 := hv.ok.fsok.len
 obtain ⟨g0, g1, g2, g3⟩ := (At.low hfat h.bel).four
 have DIh := hideIt h
 obtain ⟨lv, tv, gs, d⟩ := h
 obtain ⟨la, lc, e0⟩ := row_form d.rows
 subst e0
 have c2 := d.cs.1
 rw [efa] at c2
 have c3 := d.cs.2.1
 have hbl := d.len
 obtain ⟨B, hB⟩ : ∃ B, w.alloc (.cells (fnA f) 44) = B := ⟨_, rfl⟩
 have qB : Q w B := by rw [← hB]; exact (Q.refl w).alloc _
 have hBs : B.heap.size = w.heap.size + 1 := by rw [← hB]; simp
 have c3' : B.cell? ⟨R, 3, none⟩ = some (.slice la s.bs.length lc) := cell_keep qB c3
 have HC0 : Hid (C1 w B col col w.heap.size f) := ⟨Ex.q qB, by rw [← hB]; exact heap_alloc_new w _, d.nobody (Nat.le_refl _), Nat.le_refl _⟩
 have HD0 : Hid (DI B w0 R col c fuel s 0 false) := DIh.out.keep qB
 have HAT := hideIt (fun (wr : World) (col' : Col) (X : Nat → Prop) (hx : Ex X col w col' wr) (hX : ∀ k, X k → w.heap.size ≤ k) => hA.ex hAc hx hX)
 have HSL : Hid (∀ wr : World, Below w0.heap.size w0 wr → ∀ (i : Nat) (x : Int), f.slots[i]? = some x → ∃ sb so, f.sa = some ⟨sb, so, none⟩ ∧ wr.cell? ⟨sb, so + i, none⟩ = some (.int .i64 x) ∧ 1 ≤ x) := fun wr hb i x hx => by
  obtain ⟨sb, so, e1, e2, -⟩ := hfok.slots i x hx
  rw [Nat.mul_one] at e2
  exact ⟨sb, so, e1, (hb.cell (p := ⟨sb, so + i, none⟩) (World.block_lt_of_cell? w0 _ e2)).trans e2, h6 x (List.mem_of_getElem? hx)⟩
 have hmk := fun (x : World) => run_make_row' (P := Try.prog) 23 2 (.int .i64 0) 8 Try.underlying23 Try.infoI64 rfl .i64 .i64 rn (by omega) (by omega) x
 obtain ⟨q0, hq0⟩ := get_of_lt (l := f.parts) (k := 0) h7
 obtain ⟨pb, po, epa, -, -⟩ := hfok.parts 0 q0 hq0
 have hfn := hv.fn k f hk
 unfold fnP at hfn
 simp only [Bool.and_eq_true] at hfn
 have HPT := hideIt (fun (at' : Nat) (q : PP) (hq : f.parts[at']? = some q) => show At w0 pb (po + at' * 5) q.cells ∧ q.ok w0 ∧ endP f q = true ∧ ∀ x ∈ q.ins, insP c k f x = true from by
  obtain ⟨b, o, e1, e2, e3⟩ := hfok.parts at' q hq
  rw [epa] at e1
  simp only [Option.some.injEq, Addr.mk.injEq] at e1
  obtain ⟨rfl, rfl, -⟩ := e1
  have := List.all_eq_true.1 hfn.2 q (List.mem_of_getElem? hq)
  unfold ptP at this
  simp only [Bool.and_eq_true] at this
  exact ⟨e2, e3, this.1, fun x hx => List.all_eq_true.1 this.2 x hx⟩)
 have hplen : f.parts.length ≤ 9223372036854775807 := hfok.psok.len
 have HB0 : Hid (w0.heap.size ≤ w.heap.size) := d.bel.size
 have HGL := hideIt hv.gl
 have HPR : Hid (∀ (j : Nat) (g : PF), c.fns[j]? = some g → g.params ≤ 20000) := fun j g hj => (hv.hd hj).2.1
 have HEP := hideIt epa
 have HRN := hideIt hrn
 have HQ0 := hideIt hq0
 have HH7 := hideIt h7
 have HAN := hideIt hans
 have HAL := hideIt hal
 clear hans hal
 clear hfat hfok hA hAc hv hk epa hfn DIh d hrn hq0 h1 h2 h3 h4 h7 hAl qB
 go_enter Try.func29, Try.ntmps29
 go_wp2_with (fail)
 clear g0 g1 g2 g3 c2 c3 c3'
 go_loopw [9] (fun o wr => ∃ (i : Nat) (bs1 : List Nat) (t : Int) (col1 : Col), o = .int .i64 i ∧ i ≤ f.slots.length ∧ Hid (DI wr w0 R col1 c fuel { s with bs := bs1 } t false) ∧ Hid (C1 w wr col col1 w.heap.size f) ∧ ((t = 0 ∧ Hid (allocs (f.slots.drop i) bs1 = none)) ∨ t = 5)) (fun o _ => f.slots.length - (intOf o).toNat)
 case atStart => exact ⟨0, s.bs, 0, col, rfl, Nat.zero_le _, HD0, HC0, Or.inl ⟨rfl, by rw [List.drop_zero]; exact HAL⟩⟩
 case round =>
  obtain ⟨i, bs1, t, col1, rfl, hi, DD, CC, hw⟩ := hrel
  generalize wr = w1 at *
  clear HD0 HC0 HAL
  obtain ⟨-, y2, -⟩ := CC.out.cell
  obtain ⟨sa, hsa⟩ : ∃ sa, f.sa = sa := ⟨_, rfl⟩
  rw [hsa] at y2
  have HSA := hideIt hsa
  clear hsa
  rcases hw with ⟨rfl, EA⟩ | rfl
  ·have CO := hideIt (over_no DD.out)
   by_cases hic : i < f.slots.length
   ·obtain ⟨x, hx⟩ := get_of_lt hic
    obtain ⟨sb, so, e1, e2, hx1⟩ := HSL.out w1 DD.out.bel i x hx
    rw [HSA.out] at e1
    subst e1
    have ED := hideIt (allocs_drop hx bs1)
    have k1 : decide ((i : Int) < (f.slots.length : Int)) = true := by simp; omega
    have k2 : (i : Int) < (f.slots.length : Int) := by omega
    have k3 : IntKind.i64.wrap ((i : Int) + 1) = (i : Int) + 1 := by rw [IntKind.wrap_i64]; omega
    clear hx
    by_cases hb : 65536 - ((bs1.sum : Nat) : Int) < x
    ·have BB := hideIt (block_bad DD.out x hx1 hb)
     clear hb
     go_wp2_with (first | (go_at_call 30; refine CO.out.mono ?_; rintro e y ⟨rfl, hy⟩; have hy2 := hy.symm; clear hy; subst hy2) | (go_at_call 28; refine BB.out.mono ?_; rintro e z ⟨rfl, a1, a2⟩; have HA1 := hideIt a1; have HA2 := hideIt a2; clear a1 a2) | fail)
     go_roundw
     case rel => exact ⟨i + 1, bs1, 5, col1, by go_num, hic, HA1, hideIt (CC.out.step HA2.out (fun _ q => q.elim) (fun q => q)), Or.inr rfl⟩
     case measure => simp [intOf]; omega
    ·obtain ⟨n, rfl⟩ : ∃ n : Nat, x = (n : Int) := ⟨x.toNat, by omega⟩
     have BB := hideIt (block_ok DD.out n (by omega) (by show (n : Int) ≤ 65536 - ((bs1.sum : Nat) : Int); omega))
     have EB := hideIt (show allocs (f.slots.drop (i + 1)) (bs1 ++ [n]) = none by have h1 := EA.out; rw [ED.out, if_neg hb] at h1; simpa using h1)
     clear hb
     go_wp2_with (first | (go_at_call 30; refine CO.out.mono ?_; rintro e y ⟨rfl, hy⟩; have hy2 := hy.symm; clear hy; subst hy2) | (go_at_call 28; refine BB.out.mono ?_; rintro e z ⟨rfl, col2, a1, a2⟩; have HA1 := hideIt a1; have HA2 := hideIt a2; clear a1 a2) | fail)
     go_roundw
     case rel => exact ⟨i + 1, bs1 ++ [n], 0, col2, by go_num, hic, HA1, hideIt (CC.out.step HA2.out (fun _ q => q.elim) (fun q => q)), Or.inl ⟨rfl, EB⟩⟩
     case measure => simp [intOf]; omega
   ·have e1 : i = f.slots.length := by omega
    subst e1
    have := EA.out
    rw [List.drop_length] at this
    cases this
  ·have CO := hideIt (over_di DD.out)
   by_cases hic : i < f.slots.length
   ·have k1 : decide ((i : Int) < (f.slots.length : Int)) = true := by simp; omega
    have hG0 := CC.out.ol
    obtain ⟨x1, -, x3⟩ := CC.out.cell
    rw [HRN.out] at x1
    have HCG : Hid (∀ x, Q w1 x → C1 w x col col1 w.heap.size f ∧ DI x w0 R col1 c fuel { s with bs := bs1 } 5 false) := fun x hx => ⟨CC.out.q hx, DD.out.keep hx⟩
    have HNG : Hid (col1 w1.heap.size = none) := by
     obtain ⟨lv, tv, gs, d⟩ := DD.out
     exact d.nobody (Nat.le_refl _)
    have HAT2 := hideIt (fun (x : World) (hx : Q w1 x) => HAT.out x col1 noX (CC.out.ex.trans (Ex.q hx)) (fun _ q => q.elim))
    have HLO : Hid (w.heap.size < w1.heap.size) := lt_blk CC.out.fb
    have HN0 : Hid (Nums (w1.alloc (.cells (madeCells #[.int .i64 0] rn) 2)) w1.heap.size rn (argP A 0)) := by
     refine (made_nums (W := w1.alloc (.cells (madeCells #[.int .i64 0] rn) 2)) (g := w1.heap.size) (n := rn) (heap_alloc_new w1 _)).ext fun m _ => ?_
     simp [argP]
    have HQ1 : Hid (Q w1 (w1.alloc (.cells (madeCells #[.int .i64 0] rn) 2))) := (Q.refl w1).alloc _
    go_wp2_with (first | (go_at_call 30; refine CO.out.mono ?_; rintro e y ⟨rfl, hy⟩; have hy2 := hy.symm; clear hy; subst hy2) | fail)
    clear x1 x3
    generalize hGG : w1.heap.size = G at *
    generalize hW1 : w1.alloc (.cells (madeCells #[.int .i64 0] rn) 2) = W1 at *
    go_loopw [11] (fun o wa => ∃ (i : Nat), o = .int .i64 i ∧ i ≤ A.length ∧ Hid (Nums wa G rn (argP A i)) ∧ Hid (Q w1 wa)) (fun o _ => A.length - (intOf o).toNat)
    case atStart => exact ⟨0, rfl, Nat.zero_le _, HN0, HQ1⟩
    case round =>
     obtain ⟨i, rfl, hi, HN, HQA⟩ := hrel
     generalize wr = wa at *
     clear HN0 HQ1 hW1
     by_cases hic : i < A.length
     ·obtain ⟨x, hx⟩ := get_of_lt hic
      obtain ⟨bb, oo, e1, e2⟩ := HAT2.out wa HQA.out i x hx
      subst e1
      have k1 : (i : Int) < (A.length : Int) := by omega
      have k2 : (i : Int) < (rn : Int) := by omega
      have n1 := HN.out.cell (show i < rn by omega)
      have n2 := HN.out.free i
      have HX := hideIt hx
      clear hx
      go_wp2_with (fail)
      go_roundw
      case rel =>
       refine ⟨i + 1, by go_num, by omega, ?_, hideIt (HQA.out.set (by show w1.heap.size ≤ G; omega) _)⟩
       have := HN.out.set (j := i) x
       rw [argP_step HX.out] at this
       exact this
      case measure => simp [intOf]; omega
     ·have e1 : i = A.length := by omega
      subst e1
      rw [argP_end] at HN
      have CA := hideIt (HCG.out wa HQA.out).1
      have DA := hideIt (HCG.out wa HQA.out).2
      have k0 : decide ((A.length : Int) < (A.length : Int)) = false := by simp
      clear HCG HAT2 HQA
      go_wp2_with (fail)
      go_loopw [12] (fun o wp => o = .int .i64 0 ∧ Hid (C1 w wp col col1 w.heap.size f) ∧ Hid (DI wp w0 R col1 c fuel { s with bs := bs1 } 5 false)) (fun _ _ => 0)
      case atStart => exact ⟨rfl, CA, DA⟩
      case round =>
       obtain ⟨rfl, CP, DP⟩ := hrel
       generalize wr = wp at *
       clear CA DA
       obtain ⟨-, -, x3⟩ := CP.out.cell
       rw [HEP.out] at x3
       obtain ⟨e1, -, -, -⟩ := HPT.out 0 q0 HQ0.out
       obtain ⟨p0, p1, p2, p3, p4⟩ := (At.low e1 DP.out.bel).five
       simp only [Nat.zero_mul, Nat.add_zero] at p0 p1 p2 p3 p4
       have hpl0 : (0 : Int) < (f.parts.length : Int) := by have := HH7.out; omega
       have DP2 : Hid (∀ x, Q wp x → DI x w0 R col1 c fuel { s with bs := bs1 } 5 false ∧ C1 w x col col1 w.heap.size f) := fun x hx => ⟨DP.out.keep hx, CP.out.q hx⟩
       clear e1
       go_wp2_with (fail)
       have HP0 : Hid ((wp.alloc (.cells (ptA q0) 47)).heap[wp.heap.size]? = some (.cells (ptA q0) 47 (0, 0))) := heap_alloc_new wp _
       have HP1 : Hid (Q wp (wp.alloc (.cells (ptA q0) 47))) := (Q.refl wp).alloc _
       dsimp only [ptA] at HP0 HP1
       generalize wp.heap.size = PB at *
       go_loopw [14] (fun o wq => o = .int .i64 0 ∧ Hid (Q wp wq) ∧ Hid (wq.heap[PB]? = some (.cells (ptA q0) 47 (0, 0)))) (fun _ _ => 0)
       case atStart => exact ⟨rfl, HP1, HP0⟩
       case round =>
        obtain ⟨rfl, HW, HP⟩ := hrel
        generalize wr = wq at *
        have b0 := cell_blk HP.out 0
        have ST := hideIt (step_over (DP2.out wq HW.out).1 (Or.inl (by decide)))
        by_cases hz : q0.ins.length = 0
        ·have hz' : decide ((0 : Int) < (q0.ins.length : Int)) = false := by rw [hz]; rfl
         go_wp2_with (first | (go_at_call 55; refine ST.out.mono ?_; rintro e y ⟨rfl, hy⟩; have hy2 := hy.symm; clear hy; subst hy2) | fail)
         go_ret
         exact over_post (DP2.out wq HW.out).2 (Or.inl (by decide)) HAN.out (DP2.out wq HW.out).1 rfl rfl
        ·have hz' : decide ((0 : Int) < (q0.ins.length : Int)) = true := decide_eq_true (by omega)
         go_wp2_with (first | (go_at_call 55; refine ST.out.mono ?_; rintro e y ⟨rfl, hy⟩; have hy2 := hy.symm; clear hy; subst hy2) | fail)
         go_ret
         exact over_post (DP2.out wq HW.out).2 (Or.inl (by decide)) HAN.out (DP2.out wq HW.out).1 rfl rfl
   ·have k1 : decide ((i : Int) < (f.slots.length : Int)) = false := by simp; omega
    have hG0 := CC.out.ol
    obtain ⟨x1, -, x3⟩ := CC.out.cell
    rw [HRN.out] at x1
    have HCG : Hid (∀ x, Q w1 x → C1 w x col col1 w.heap.size f ∧ DI x w0 R col1 c fuel { s with bs := bs1 } 5 false) := fun x hx => ⟨CC.out.q hx, DD.out.keep hx⟩
    have HNG : Hid (col1 w1.heap.size = none) := by
     obtain ⟨lv, tv, gs, d⟩ := DD.out
     exact d.nobody (Nat.le_refl _)
    have HAT2 := hideIt (fun (x : World) (hx : Q w1 x) => HAT.out x col1 noX (CC.out.ex.trans (Ex.q hx)) (fun _ q => q.elim))
    have HLO : Hid (w.heap.size < w1.heap.size) := lt_blk CC.out.fb
    have HN0 : Hid (Nums (w1.alloc (.cells (madeCells #[.int .i64 0] rn) 2)) w1.heap.size rn (argP A 0)) := by
     refine (made_nums (W := w1.alloc (.cells (madeCells #[.int .i64 0] rn) 2)) (g := w1.heap.size) (n := rn) (heap_alloc_new w1 _)).ext fun m _ => ?_
     simp [argP]
    have HQ1 : Hid (Q w1 (w1.alloc (.cells (madeCells #[.int .i64 0] rn) 2))) := (Q.refl w1).alloc _
    go_wp2_with (fail)
    clear x1 x3
    generalize hGG : w1.heap.size = G at *
    generalize hW1 : w1.alloc (.cells (madeCells #[.int .i64 0] rn) 2) = W1 at *
    go_loopw [11] (fun o wa => ∃ (i : Nat), o = .int .i64 i ∧ i ≤ A.length ∧ Hid (Nums wa G rn (argP A i)) ∧ Hid (Q w1 wa)) (fun o _ => A.length - (intOf o).toNat)
    case atStart => exact ⟨0, rfl, Nat.zero_le _, HN0, HQ1⟩
    case round =>
     obtain ⟨i, rfl, hi, HN, HQA⟩ := hrel
     generalize wr = wa at *
     clear HN0 HQ1 hW1
     by_cases hic : i < A.length
     ·obtain ⟨x, hx⟩ := get_of_lt hic
      obtain ⟨bb, oo, e1, e2⟩ := HAT2.out wa HQA.out i x hx
      subst e1
      have k1 : (i : Int) < (A.length : Int) := by omega
      have k2 : (i : Int) < (rn : Int) := by omega
      have n1 := HN.out.cell (show i < rn by omega)
      have n2 := HN.out.free i
      have HX := hideIt hx
      clear hx
      go_wp2_with (fail)
      go_roundw
      case rel =>
       refine ⟨i + 1, by go_num, by omega, ?_, hideIt (HQA.out.set (by show w1.heap.size ≤ G; omega) _)⟩
       have := HN.out.set (j := i) x
       rw [argP_step HX.out] at this
       exact this
      case measure => simp [intOf]; omega
     ·have e1 : i = A.length := by omega
      subst e1
      rw [argP_end] at HN
      have CA := hideIt (HCG.out wa HQA.out).1
      have DA := hideIt (HCG.out wa HQA.out).2
      have k0 : decide ((A.length : Int) < (A.length : Int)) = false := by simp
      clear HCG HAT2 HQA
      go_wp2_with (fail)
      go_loopw [12] (fun o wp => o = .int .i64 0 ∧ Hid (C1 w wp col col1 w.heap.size f) ∧ Hid (DI wp w0 R col1 c fuel { s with bs := bs1 } 5 false)) (fun _ _ => 0)
      case atStart => exact ⟨rfl, CA, DA⟩
      case round =>
       obtain ⟨rfl, CP, DP⟩ := hrel
       generalize wr = wp at *
       clear CA DA
       obtain ⟨-, -, x3⟩ := CP.out.cell
       rw [HEP.out] at x3
       obtain ⟨e1, -, -, -⟩ := HPT.out 0 q0 HQ0.out
       obtain ⟨p0, p1, p2, p3, p4⟩ := (At.low e1 DP.out.bel).five
       simp only [Nat.zero_mul, Nat.add_zero] at p0 p1 p2 p3 p4
       have hpl0 : (0 : Int) < (f.parts.length : Int) := by have := HH7.out; omega
       have DP2 : Hid (∀ x, Q wp x → DI x w0 R col1 c fuel { s with bs := bs1 } 5 false ∧ C1 w x col col1 w.heap.size f) := fun x hx => ⟨DP.out.keep hx, CP.out.q hx⟩
       clear e1
       go_wp2_with (fail)
       have HP0 : Hid ((wp.alloc (.cells (ptA q0) 47)).heap[wp.heap.size]? = some (.cells (ptA q0) 47 (0, 0))) := heap_alloc_new wp _
       have HP1 : Hid (Q wp (wp.alloc (.cells (ptA q0) 47))) := (Q.refl wp).alloc _
       dsimp only [ptA] at HP0 HP1
       generalize wp.heap.size = PB at *
       go_loopw [14] (fun o wq => o = .int .i64 0 ∧ Hid (Q wp wq) ∧ Hid (wq.heap[PB]? = some (.cells (ptA q0) 47 (0, 0)))) (fun _ _ => 0)
       case atStart => exact ⟨rfl, HP1, HP0⟩
       case round =>
        obtain ⟨rfl, HW, HP⟩ := hrel
        generalize wr = wq at *
        have b0 := cell_blk HP.out 0
        have ST := hideIt (step_over (DP2.out wq HW.out).1 (Or.inl (by decide)))
        by_cases hz : q0.ins.length = 0
        ·have hz' : decide ((0 : Int) < (q0.ins.length : Int)) = false := by rw [hz]; rfl
         go_wp2_with (first | (go_at_call 55; refine ST.out.mono ?_; rintro e y ⟨rfl, hy⟩; have hy2 := hy.symm; clear hy; subst hy2) | fail)
         go_ret
         exact over_post (DP2.out wq HW.out).2 (Or.inl (by decide)) HAN.out (DP2.out wq HW.out).1 rfl rfl
        ·have hz' : decide ((0 : Int) < (q0.ins.length : Int)) = true := decide_eq_true (by omega)
         go_wp2_with (first | (go_at_call 55; refine ST.out.mono ?_; rintro e y ⟨rfl, hy⟩; have hy2 := hy.symm; clear hy; subst hy2) | fail)
         go_ret
         exact over_post (DP2.out wq HW.out).2 (Or.inl (by decide)) HAN.out (DP2.out wq HW.out).1 rfl rfl

end Go.Proofs.Ytphknepblchkdaa.Dn
