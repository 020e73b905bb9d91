/-
  Run of prop where the code is right: a contract over the program; the conditions: the code lies in memory, and is of a size that is looked at.
  Run of prop where the code is right, the walk: a contract over the program; the conditions: the code lies in memory, and is of a size that is looked at.
-/
import Derived.Test.YtipmbamcldlmeaaKPpK
import Derived.Laws.MakeOwn
namespace Go.Proofs.Ytipmbamcldlmeaa.Pp
open Go.RowKit
set_option linter.unusedVariables false

/-- What holds while code is read: the code, the reader, and how much is left. -/
structure RS (lo hi R Wb N : Nat) (fault : Bool) (B : Nat) (A : PC) (rest : Nat) (wr : World) : Prop where
  cl : CodeL lo wr A
  un : Und hi A
  rd : ∃ (first : Int) (ia : Option Addr) (n ic : Nat) (ws : List Int), RD wr R Wb fault first ia n ic ws ∧ ws.length = N ∧ (∀ v ∈ ws, v < first) ∧ 0 ≤ first ∧ first + rest ≤ 1 + B
theorem CodeL.q {lo : Nat} {W W' : World} {A : PC} (h : CodeL lo W A) (hlo : 0 < lo) (q : Q W W') : CodeL lo W' A := h.frx hlo (FrX.of_q q)
theorem RS.q {lo hi R Wb N : Nat} {fault : Bool} {B : Nat} {A : PC} {rest : Nat} {W W' : World} (h : RS lo hi R Wb N fault B A rest W) (hlo : 0 < lo) (q : Q W W') : RS lo hi R Wb N fault B A rest W' := by
  obtain ⟨first, ia, n, ic, ws, h1, h2, h3, h4, h5⟩ := h.rd
  exact ⟨CodeL.q h.cl hlo q, h.un, first, ia, n, ic, ws, h1.q q, h2, h3, h4, h5⟩

/-- A part is read. -/
theorem part_step {lo hi R Wb N : Nat} {fault : Bool} {B : Nat} {wr : World} {a : PC} {i j rest : Nat} {f : PF} {p : PP} (h : RS lo hi R Wb N fault B (stF fault a i f j) (p.ins.length + rest) wr) (hRg : RgC N a) (hlh : lo ≤ hi) (hR : hi ≤ R) (hW : hi ≤ Wb) (hRW : R ≠ Wb) (hB : B ≤ 1099511627776) (hN : N ≤ 1099511627776) (hf : a.fns[i]? = some f) (hp : f.parts[j]? = some p) {Pb : Nat} (hPa : f.pa = some ⟨Pb, 0, none⟩) :
    Calls Try.prog 24 #[.pointer (some ⟨R, 0, none⟩), .pointer (some ⟨Pb, j * 5, none⟩)] wr fun e z => e = .returned (.tuple #[]) ∧ RS lo hi R Wb N fault B (stF fault a i f (j + 1)) rest z ∧ Fs (fun b => lo ≤ b ∧ b < hi ∨ b = R ∨ b = Wb) wr z := by
  have hp2 := upTo_at (propP fault) hp
  have hk := stF_get (fault := fault) hf j
  have hfn := h.cl.fn.each _ (List.mem_of_getElem? hk)
  have hip := hfn.parts.each p (List.mem_of_getElem? hp2)
  obtain ⟨_, _, -, -, hfo⟩ := h.cl.fn.at' i _ hk
  obtain ⟨b0, o0, e0, hpat, hpo⟩ := hfo.parts j p hp2
  have e0' : f.pa = some ⟨b0, o0, none⟩ := e0
  rw [hPa] at e0'
  simp at e0'
  obtain ⟨rfl, rfl⟩ := e0'
  rw [Nat.zero_add] at hpat
  obtain ⟨first, ia, n, ic, ws, h1, h2, h3, h4, h5⟩ := h.rd
  obtain ⟨cs, t, hPb, hPlo⟩ : ∃ cs t, wr.heap[Pb]? = some (.cells cs t (0, 0)) ∧ lo ≤ Pb := by
    rcases hfn.parts.nb with q | ⟨g, cs, t, e, hl, hh⟩
    · have := (List.getElem?_eq_some_iff.1 hp2).1
      have q' : (upTo (propP fault) f.parts j).length = 0 := q
      omega
    · have e' : f.pa = some ⟨g, 0, none⟩ := e
      rw [hPa] at e'
      simp at e'
      subst e'
      exact ⟨cs, t, hh, hl⟩
  have hfm := List.mem_of_getElem? hk
  have bP : paB (PF.wp f (upTo (propP fault) f.parts j)) Pb := ⟨fun e => (by have e' : upTo (propP fault) f.parts j = [] := e; rw [e'] at hp2; simp at hp2), hPa⟩
  have hPh : Pb < hi := h.un.f _ hfm Pb (Or.inr (Or.inl bP))
  have hpt : ∀ b, ptB p b → b < hi ∧ Pb < b ∧ lo ≤ b := fun b hb => ⟨h.un.f _ hfm b (Or.inr (Or.inr ⟨p, List.mem_of_getElem? hp2, hb⟩)), hfn.so.pt Pb b bP ⟨p, List.mem_of_getElem? hp2, hb⟩, (InsL.lb hip hb).1⟩
  have hrp := hRg f (List.mem_of_getElem? hf) p (List.mem_of_getElem? hp)
  refine (part_any wr lo R Wb Pb j fault first p N cs t ws ia n ic hpat hPb hip (by omega) h1 h2 h3 h4 (by omega) (by omega) hrp.1 hrp.2 (fun b hb => ?_) ⟨hRW, by omega, by omega⟩).mono ?_
  · obtain ⟨q1, q2, q3⟩ := hpt b hb
    exact ⟨by omega, by omega, by omega⟩
  · rintro e z ⟨rfl, ws', hpp⟩
    have fx : Fs (fun b => ptB p b ∨ b = Pb ∨ hi ≤ b) wr z := hpp.fs.less fun b hb => Or.inl (by
      rcases hb with q | q | q | q
      · exact Or.inl q
      · exact Or.inr (Or.inr (by omega))
      · exact Or.inr (Or.inr (by omega))
      · exact Or.inr (Or.inl q))
    have hal := alp_of (fault := fault) hrp (by omega) hpo.cond
    obtain ⟨c1, c2⟩ := codel_put h.cl h.un hk hp2 hPa hPb hal fx hpp.blk hpp.il
    rw [stF_step hf hp] at c1 c2
    refine ⟨rfl, ⟨c1, c2, first + p.ins.length, p.ia, p.ins.length, p.ic, ws', hpp.rd, hpp.wl, hpp.all, by omega, by omega⟩, hpp.fs.less fun b hb => Or.inl ?_⟩
    rcases hb with q | q | q | q
    · exact Or.inl ⟨(hpt b q).2.2, (hpt b q).1⟩
    · exact Or.inr (Or.inl q)
    · exact Or.inr (Or.inr q)
    · exact Or.inl (by omega)

end Go.Proofs.Ytipmbamcldlmeaa.Pp

namespace Go.Proofs.Ytipmbamcldlmeaa.Pp
open Go.RowKit
set_option linter.unusedVariables false

/-- Where the code of a boxed argument is read. -/
def Cds (X : World) (b : Nat) (c : PC) : Prop := X.cell? ⟨b, 0, none⟩ = some (.slice c.ga c.gl.length c.gc) ∧ X.cell? ⟨b, 1, none⟩ = some (.slice c.na c.ini.length c.nc) ∧ X.cell? ⟨b, 2, none⟩ = some (.slice c.fa c.fns.length c.fc)
theorem Cds.keep {X Y : World} {b : Nat} {c : PC} (h : Cds X b c) (q : Q X Y) : Cds Y b c := ⟨cell_keep q h.1, cell_keep q h.2.1, cell_keep q h.2.2⟩
theorem cds_box (w : World) (c : PC) : Cds (bxC w c) w.heap.size c := (bxC_at (Q.refl _)).three
/-- The box of the code behind the copy. -/
abbrev st3 (z : World) (b : Nat) (a : PC) : World := ((z.setCell ⟨b, 0, none⟩ (.slice a.ga a.gl.length a.gc)).setCell ⟨b, 1, none⟩ (.slice a.na a.ini.length a.nc)).setCell ⟨b, 2, none⟩ (.slice a.fa a.fns.length a.fc)
theorem st3_frx (z : World) (b : Nat) (a : PC) : FrX b z (st3 z b a) := FrX.set (p := ⟨b, 2, none⟩) (FrX.set (p := ⟨b, 1, none⟩) (FrX.set (p := ⟨b, 0, none⟩) (FrX.of_q (Q.refl z)) (Or.inl rfl) _) (Or.inl rfl) _) (Or.inl rfl) _

theorem Try.infoInt : (Try.prog.info? 3).map (fun i => (i.zero, i.size, i.bytes)) = some (some (.int .i64 0), 1, 8) := by kernel_rfl
theorem made_one (z : Value) (n : Nat) : madeCells #[z] n = (List.replicate n z).toArray := by
  refine Array.ext (by simp [madeCells]) (fun i h1 h2 => ?_)
  simp [madeCells, Nat.mod_one]
theorem make_ints (N : Nat) (hN : N ≤ 1099511627776) (X : World) : (Instr.makeSlice 22 (.int .i64 (N : Int)) (.int .i64 (N : Int))).run Try.prog X = .ok (.slice (some ⟨X.heap.size, 0, none⟩) N N) (X.alloc (.cells ((List.replicate N (0 : Int)).map (Value.int .i64)).toArray 3)) := by
  obtain ⟨i, hi, hzz⟩ := Option.map_eq_some_iff.1 Try.infoInt
  simp only [Prod.mk.injEq] at hzz
  obtain ⟨hz0, hz1, hz2⟩ := hzz
  have := run_make (P := Try.prog) X 22 3 i _ Try.underlying22 hi hz0 .i64 .i64 (N : Int) (N : Int) (by omega) (Int.le_refl _) (by rw [hz2]; omega) (by omega)
  rw [hz1] at this
  simp only [Value.cells, Int.toNat_natCast, Nat.mul_one, made_one] at this
  rw [List.map_replicate]
  exact this

set_option maxRecDepth 100000 in
set_option maxHeartbeats 8000000 in
theorem run_good (w : World) (c : PC) (fault : Bool) (hcok : c.ok w) (hv : validP c = 0) (hvc : ∀ (k : Nat) (f : PF), c.fns[k]? = some f → fnP c k f = true) (M B : Nat) (hM : ∀ f ∈ c.fns, f.regs ≤ M) (hMb : M ≤ 1099511627776) (hB : cntF c.fns ≤ B) (hBb : B ≤ 1099511627776) : Calls Try.prog 9 #[c.v, .bool fault] w fun e w' => ∃ A : PC, e = .returned (.tuple #[A.v, .int .i64 0]) ∧ EvC A (propC fault c) ∧ CodeL w.heap.size w' A ∧ Q w w' := by
  have VA := hideIt (valid_any (bxZ (bxC w c)) c (hcok.keep (((Q.refl w).alloc _).alloc _)))
  rw [hv] at VA
  have CP := hideIt (fun (y : World) (hy : Q (bxZ (bxC w c)) y) => copy_any y c (hcok.keep ((((Q.refl w).alloc _).alloc _).trans hy)))
  have B1 : Hid (∀ y, Q (bxZ (bxC w c)) y → y.heap[w.heap.size + 1]? = some (.cells zeroC 26 (0, 0))) := fun y hy => (hy.block _ (by simp)).trans (bz_out w c)
  have B0 : Hid (∀ y, Q (bxZ (bxC w c)) y → y.heap[w.heap.size]? = some (.cells #[.slice c.ga c.gl.length c.gc, .slice c.na c.ini.length c.nc, .slice c.fa c.fns.length c.fc] 26 (0, 0))) := fun y hy => (hy.block _ (by simp; omega)).trans (bz_code w c)
  have qB : Hid (Q w (bxZ (bxC w c))) := ((Q.refl w).alloc _).alloc _
  have CM : Hid (∀ (y z : World) (a : PC), Q (bxZ (bxC w c)) y → EvC a c → CodeL y.heap.size z a → Calls Try.prog 23 #[a.v] (st3 z w.heap.size a) fun e w' => ∃ N : Nat, e = .returned (.int .i64 (N : Int)) ∧ N ≤ M ∧ (∀ f ∈ a.fns, f.regs ≤ N) ∧ Q (st3 z w.heap.size a) w') := fun y z a hy ev cl => by
    have hol : w.heap.size + 1 < y.heap.size := (Array.getElem?_eq_some_iff.1 (B1.out y hy)).1
    refine most_any _ a M (cl.frx (by omega) (st3_frx z w.heap.size a)).ok (fun f hf => ?_)
    obtain ⟨g, hg, e⟩ := evl_mem ev.fns hf
    rw [e.regs]
    exact hM g hg
  have RGC : Hid (∀ (N : Nat) (a : PC), EvC a c → (∀ f ∈ a.fns, f.regs ≤ N) → RgC N a) := fun N a ev hN => rgc_ev ev (rgc_of hvc fun f hf => by
    obtain ⟨k, hk⟩ := List.mem_iff_getElem?.1 hf
    rcases evl_get ev.fns k with ⟨h1, h2⟩ | ⟨x, y, h1, h2, h3⟩
    · rw [h2] at hk; cases hk
    · rw [h2] at hk
      injection hk with hk
      subst hk
      rw [← h3.regs]
      exact hN x (List.mem_of_getElem? h1))
  have CNT : Hid (∀ a : PC, EvC a c → cntF a.fns ≤ B) := fun a ev => by rw [ev_cntF _ _ ev.fns]; exact hB
  have BX : Hid (∀ (y z v : World) (a : PC), Q (bxZ (bxC w c)) y → Q y z → Q (st3 z w.heap.size a) v → Cds v w.heap.size a) := fun y z v a hy hz hv => by
    have e : (st3 z w.heap.size a).heap[w.heap.size]? = some (.cells #[.slice a.ga a.gl.length a.gc, .slice a.na a.ini.length a.nc, .slice a.fa a.fns.length a.fc] 26 (0, 0)) := (block_setCell (block_setCell (block_setCell (B0.out z (hy.trans hz)) _) _) _).trans (by simp)
    have e2 := heap_keep hv e
    exact ⟨(cell_of_block e2 0).trans rfl, (cell_of_block e2 1).trans rfl, (cell_of_block e2 2).trans rfl⟩
  clear hcok hv hvc hM hB
  go_enter Try.func9, Try.ntmps9
  go_wp2_with (first
    | (go_at_call 21; refine VA.out.mono ?_; rintro e y ⟨rfl, q⟩; have HQ := hideIt q; have b0 := B0.out y q; have v0 := cell_of_block b0 0; have v1 := cell_of_block b0 1; have v2 := cell_of_block b0 2; clear q b0)
    | (go_at_call 22; refine Calls.mono (CP.out _ HQ.out) ?_; rintro e z ⟨a, rfl, ev, cl, q⟩; have HE := hideIt ev; have HC := hideIt cl; have HZ := hideIt (HQ.out.trans q); have HYZ := hideIt q; have b0 := B0.out z (HQ.out.trans q); have u0 := cell_of_block b0 0; have u1 := cell_of_block b0 1; have u2 := cell_of_block b0 2; have uf := fun j : Nat => free_of_block b0 j; clear ev cl q b0 v0 v1 v2)
    | (go_at_call 23; refine Calls.mono (CM.out y z a HQ.out HE.out HC.out) ?_; rintro e v ⟨N, rfl, n1, n2, q⟩; have HN2 := hideIt n2; have HV := hideIt q; have hmk := make_ints N (Nat.le_trans n1 hMb) v; clear n2 q u0 u1 u2 uf; have u2 := fun o1 o2 => cell_keep (((Q.refl v).alloc o1).alloc o2) (BX.out y z v a HQ.out HYZ.out HV.out).2.2)
    | fail)
  clear u2 hmk
  have HOL : Hid (w.heap.size + 1 < y.heap.size) := (Array.getElem?_eq_some_iff.1 (B1.out y HQ.out)).1
  obtain ⟨W0, hW0⟩ : ∃ W0, (v.alloc (.cells (Array.replicate N (Value.int .i64 0)) 3)).alloc (.cells #[.bool fault, .int .i64 1, .slice none 0 0, .slice (some ⟨v.heap.size, 0, none⟩) N N] 60) = W0 := ⟨_, rfl⟩
  rw [hW0]
  have qvW : Hid (Q v W0) := by show Q v W0; rw [← hW0]; exact ((Q.refl v).alloc _).alloc _
  have HSZ : Hid (y.heap.size ≤ v.heap.size) := Nat.le_trans HYZ.out.size (Nat.le_trans (st3_frx z w.heap.size a).size HV.out.size)
  have CL0 : Hid (CodeL y.heap.size W0 a) := CodeL.q (CodeL.q (HC.out.frx (by have := HOL.out; omega) (st3_frx z w.heap.size a)) (by have := HOL.out; omega) HV.out) (by have := HOL.out; omega) qvW.out
  have UN0 : Hid (Und v.heap.size a) := CodeL.und (CodeL.q (HC.out.frx (by have := HOL.out; omega) (st3_frx z w.heap.size a)) (by have := HOL.out; omega) HV.out)
  have RS0 : Hid (RS y.heap.size v.heap.size (v.heap.size + 1) v.heap.size N fault B (stC fault a 0) (cntF (a.fns.drop 0)) W0) := by
    have e0 : stC fault a 0 = a := by unfold stC; rw [upTo_zero]
    rw [e0]
    refine ⟨CL0.out, UN0.out, 1, none, 0, 0, List.replicate N 0, ⟨?_, ?_⟩, by simp, fun u hu => by have := (List.mem_replicate.1 hu).2; omega, by omega, ?_⟩
    · rw [← hW0]
      have := heap_alloc_new (v.alloc (.cells (Array.replicate N (Value.int .i64 0)) 3)) (.cells #[.bool fault, .int .i64 1, .slice none 0 0, .slice (some ⟨v.heap.size, 0, none⟩) N N] 60)
      simpa using this
    · rw [← hW0, Below.heap_alloc _ _ _ (by simp)]
      have := heap_alloc_new v (.cells (Array.replicate N (Value.int .i64 0)) 3)
      simpa using this
    · have := CNT.out a HE.out
      rw [List.drop_zero]
      omega
  have HQ0 : Hid (Q w W0) := by
    have h1 : Q w z := qB.out.trans (HQ.out.trans HYZ.out)
    exact (((st3_frx z w.heap.size a).q h1 (Nat.le_refl _)).trans HV.out).trans qvW.out
  have HX0 : Hid (Cds W0 w.heap.size a) := (BX.out y z v a HQ.out HYZ.out HV.out).keep qvW.out
  have HP0 : Hid (W0.heap[w.heap.size + 1]? = some (.cells zeroC 26 (0, 0))) := heap_keep qvW.out (heap_keep HV.out ((st3_frx z w.heap.size a).heap (B1.out z HZ.out) (by omega)))
  have HRG := hideIt (RGC.out N a HE.out HN2.out)
  have hfl : a.fns.length ≤ 9223372036854775807 := HC.out.ok.fsok.len
  have hN : N ≤ 1099511627776 := Nat.le_trans n1 hMb
  have HLE : Hid (Q v W0 ∧ v.heap.size + 1 < W0.heap.size) := ⟨qvW.out, by rw [← hW0]; simp⟩
  clear CL0 UN0 HC B0 B1 CP VA HZ HYZ qB CM BX RGC CNT HV HN2 hW0 qvW n1 hMb
  generalize hlo : y.heap.size = lo at *
  generalize hhi : v.heap.size = hi at *
  clear hlo hhi HQ
  have hh0 := HLE.out.2
  go_loopw [27] (fun o w9 => ∃ i : Nat, o = .int .i64 (i : Int) ∧ i ≤ a.fns.length ∧ Hid (RS lo hi (hi + 1) hi N fault B (stC fault a i) (cntF (a.fns.drop i)) w9) ∧ Hid (Q w w9) ∧ Hid (Cds w9 w.heap.size a) ∧ Hid (w9.heap[w.heap.size + 1]? = some (.cells zeroC 26 (0, 0))) ∧ Hid (hi + 1 < w9.heap.size)) (fun o _ => a.fns.length - (intOf o).toNat)
  case atStart => exact ⟨0, rfl, Nat.zero_le _, RS0, HQ0, HX0, HP0, hideIt HLE.out.2⟩
  case round =>
    obtain ⟨i, rfl, hi', R1, Q1, X1, P1, S1⟩ := hrel
    generalize wr = w1 at *
    clear RS0 HQ0 HX0 HP0 HLE hh0
    by_cases hic : i < a.fns.length
    · obtain ⟨f, hf⟩ := get_of_lt hic
      have RF : Hid (RS lo hi (hi + 1) hi N fault B (stF fault a i f 0) (cntP (f.parts.drop 0) + cntF (a.fns.drop (i + 1))) w1) := by
        show RS _ _ _ _ _ _ _ (stF fault a i f 0) _ _
        rw [stF_zero hf, List.drop_zero, ← cntF_drop hf]
        exact R1.out
      obtain ⟨fb, fo, efa, hfat, hfok⟩ := R1.out.cl.fn.at' i f (upTo_at _ hf)
      have efa' : a.fa = some ⟨fb, fo, none⟩ := efa
      obtain ⟨f0, f1, f2, f3⟩ := hfat.four
      have k1 : (i : Int) < (a.fns.length : Int) := by omega
      have hpl : f.parts.length ≤ 9223372036854775807 := hfok.psok.len
      have HF := hideIt hf
      have HEFA := hideIt efa'
      rw [show (Value.slice a.fa a.fns.length a.fc) = .slice (some ⟨fb, fo, none⟩) a.fns.length a.fc by rw [efa']]
      clear hf hfat hfok efa efa' R1
      have BF : Hid (Q w1 (w1.alloc (.cells #[.int .i64 f.params, .int .i64 f.regs, .slice f.sa f.slots.length f.sc, .slice f.pa f.parts.length f.pc] 44))) := (Q.refl w1).alloc _
      have XB0 : Hid ((w1.alloc (.cells #[.int .i64 f.params, .int .i64 f.regs, .slice f.sa f.slots.length f.sc, .slice f.pa f.parts.length f.pc] 44)).heap[w1.heap.size]? = some (.cells #[.int .i64 f.params, .int .i64 f.regs, .slice f.sa f.slots.length f.sc, .slice f.pa f.parts.length f.pc] 44 (0, 0))) := heap_alloc_new w1 _
      go_wp2_with (fail)
      clear f0 f1 f2 f3
      generalize hWB : w1.alloc (.cells #[.int .i64 f.params, .int .i64 f.regs, .slice f.sa f.slots.length f.sc, .slice f.pa f.parts.length f.pc] 44) = WB at *
      have RB : Hid (RS lo hi (hi + 1) hi N fault B (stF fault a i f 0) (cntP (f.parts.drop 0) + cntF (a.fns.drop (i + 1))) WB) := RF.out.q (by have := HOL.out; omega) BF.out
      have QB : Hid (Q w WB) := Q1.out.trans BF.out
      have XB : Hid (Cds WB w.heap.size a) := X1.out.keep BF.out
      have PB : Hid (WB.heap[w.heap.size + 1]? = some (.cells zeroC 26 (0, 0))) := heap_keep BF.out P1.out
      have SB : Hid (hi + 1 < WB.heap.size) := Nat.lt_of_lt_of_le S1.out BF.out.size
      have hfx : hi + 1 < w1.heap.size := S1.out
      generalize w1.heap.size = fx at *
      clear hWB RF BF Q1 X1 P1 S1
      go_loopw [34] (fun o w9 => ∃ j : Nat, o = .int .i64 (j : Int) ∧ j ≤ f.parts.length ∧ Hid (RS lo hi (hi + 1) hi N fault B (stF fault a i f j) (cntP (f.parts.drop j) + cntF (a.fns.drop (i + 1))) w9) ∧ Hid (Q w w9) ∧ Hid (Cds w9 w.heap.size a) ∧ Hid (w9.heap[w.heap.size + 1]? = some (.cells zeroC 26 (0, 0))) ∧ Hid (hi + 1 < w9.heap.size) ∧ Hid (w9.heap[fx]? = some (.cells #[.int .i64 f.params, .int .i64 f.regs, .slice f.sa f.slots.length f.sc, .slice f.pa f.parts.length f.pc] 44 (0, 0)))) (fun o _ => f.parts.length - (intOf o).toNat)
      case atStart => exact ⟨0, rfl, Nat.zero_le _, RB, QB, XB, PB, SB, XB0⟩
      case round =>
        obtain ⟨j, rfl, hj, R2, Q2, X2, P2, S2, F2⟩ := hrel
        generalize wr = w2 at *
        clear RB QB XB PB SB XB0
        by_cases hjc : j < f.parts.length
        · obtain ⟨p, hp⟩ := get_of_lt hjc
          have hfn := R2.out.cl.fn.each _ (List.mem_of_getElem? (stF_get HF.out j))
          obtain ⟨Pb, hPb⟩ : ∃ Pb, f.pa = some ⟨Pb, 0, none⟩ := by
            rcases hfn.parts.nb with q | ⟨g, cs, t, e, hl, hh⟩
            · have q' : (upTo (propP fault) f.parts j).length = 0 := q
              rw [upTo_len _ _ hj] at q'
              omega
            · exact ⟨g, e⟩
          have f3 := (cell_of_block F2.out 3).trans rfl
          have f3' : w2.cell? ⟨fx, 3, none⟩ = some (.slice (some ⟨Pb, 0, none⟩) f.parts.length f.pc) := by rw [f3]; rw [← hPb]; rfl
          have PS : Hid (Calls Try.prog 24 #[.pointer (some ⟨hi + 1, 0, none⟩), .pointer (some ⟨Pb, j * 5, none⟩)] w2 fun e z => e = .returned (.tuple #[]) ∧ RS lo hi (hi + 1) hi N fault B (stF fault a i f (j + 1)) (cntP (f.parts.drop (j + 1)) + cntF (a.fns.drop (i + 1))) z ∧ Fs (fun b => lo ≤ b ∧ b < hi ∨ b = hi + 1 ∨ b = hi) w2 z) := by
            have h := R2.out
            rw [cntP_drop hp, Nat.add_assoc] at h
            exact part_step h HRG.out HSZ.out (by omega) (by omega) (by omega) hBb hN HF.out hp hPb
          have NX : Hid (∀ z, Fs (fun b => lo ≤ b ∧ b < hi ∨ b = hi + 1 ∨ b = hi) w2 z → Q w z ∧ Cds z w.heap.size a ∧ z.heap[w.heap.size + 1]? = some (.cells zeroC 26 (0, 0)) ∧ hi + 1 < z.heap.size ∧ z.heap[fx]? = some (.cells #[.int .i64 f.params, .int .i64 f.regs, .slice f.sa f.slots.length f.sc, .slice f.pa f.parts.length f.pc] 44 (0, 0))) := fun z hz => by
            have hol := HOL.out
            have hs := HSZ.out
            have hn : ∀ b, b < lo → ¬ (lo ≤ b ∧ b < hi ∨ b = hi + 1 ∨ b = hi) := fun b hb q => by omega
            refine ⟨⟨hz.os.trans Q2.out.os, hz.tape.trans Q2.out.tape, hz.output.trans Q2.out.output, Nat.le_trans Q2.out.size hz.size, fun b hb => (hz.block b (Nat.lt_of_lt_of_le hb Q2.out.size) (hn b (by omega))).trans (Q2.out.block b hb)⟩, ⟨hz.cell X2.out.1 (hn _ (by show w.heap.size < lo; omega)), hz.cell X2.out.2.1 (hn _ (by show w.heap.size < lo; omega)), hz.cell X2.out.2.2 (hn _ (by show w.heap.size < lo; omega))⟩, hz.heap P2.out (hn _ (by omega)), Nat.lt_of_lt_of_le S2.out hz.size, hz.heap F2.out (fun q => by omega)⟩
          have k2 : (j : Int) < (f.parts.length : Int) := by omega
          clear hp hfn f3 hPb
          go_wp2_with (first | (go_at_call 24; refine PS.out.mono ?_; rintro e z ⟨rfl, c1, c2⟩; have HC1 := hideIt c1; have HN := hideIt (NX.out z c2); clear c1 c2 f3') | fail)
          go_roundw
          case rel => exact ⟨j + 1, by go_num, hjc, HC1, hideIt HN.out.1, hideIt HN.out.2.1, hideIt HN.out.2.2.1, hideIt HN.out.2.2.2.1, hideIt HN.out.2.2.2.2⟩
          case measure => simp [intOf]; omega
        · have ej : j = f.parts.length := by omega
          subst ej
          have k2 : decide ((f.parts.length : Int) < (f.parts.length : Int)) = false := by simp
          have RN : Hid (RS lo hi (hi + 1) hi N fault B (stC fault a (i + 1)) (cntF (a.fns.drop (i + 1))) w2) := by
            have := R2.out
            rw [stF_all HF.out, List.drop_length] at this
            have h2 : RS lo hi (hi + 1) hi N fault B (stC fault a (i + 1)) (cntF (a.fns.drop (i + 1))) w2 := by simpa [cntP] using this
            exact h2
          go_wp2_with (fail)
          go_roundw
          case rel => exact ⟨i + 1, by go_num, hic, RN, Q2, (by have h := X2.out; unfold Cds at h ⊢; rw [HEFA.out] at h; rw [HEFA.out]; exact h), P2, S2⟩
          case measure => simp [intOf]; omega
    · have ei : i = a.fns.length := by omega
      subst ei
      have k1 : decide ((a.fns.length : Int) < (a.fns.length : Int)) = false := by simp
      obtain ⟨u0, u1, u2⟩ := X1.out
      have z0 := cell_of_block P1.out 0
      have z1 := cell_of_block P1.out 1
      have z2 := cell_of_block P1.out 2
      have zf := fun j : Nat => free_of_block P1.out j
      have FIN : Hid (∀ W, W = st3 w1 (w.heap.size + 1) a → ∃ A : PC, Ending.returned (.tuple #[.agg #[.slice a.ga a.gl.length a.gc, .slice a.na a.ini.length a.nc, .slice a.fa a.fns.length a.fc], .int .i64 0]) = .returned (.tuple #[A.v, .int .i64 0]) ∧ EvC A (propC fault c) ∧ CodeL w.heap.size W A ∧ Q w W) := fun W hW => by
        have hol := HOL.out
        have fx : FrX (w.heap.size + 1) w1 W := by rw [hW]; exact st3_frx _ _ _
        have hc : CodeL lo w1 (propC fault a) := by
          have := R1.out.cl
          unfold stC at this
          rw [upTo_all] at this
          exact this
        refine ⟨propC fault a, ?_, ev_propC HE.out, (hc.frx (by omega) fx).mono (by omega), fx.q Q1.out (by omega)⟩
        show _ = Ending.returned (.tuple #[.agg #[.slice a.ga a.gl.length a.gc, .slice a.na a.ini.length a.nc, .slice a.fa (a.fns.map (propF fault)).length a.fc], .int .i64 0])
        rw [List.length_map]
      go_wp2_with (fail)
      exact bodyPost_ret (v := .tuple #[.agg #[.slice a.ga a.gl.length a.gc, .slice a.na a.ini.length a.nc, .slice a.fa a.fns.length a.fc], .int .i64 0]) (by simp [results, Try.results9, go_sem, z0, z1, z2]) rfl (FIN.out _ rfl)

end Go.Proofs.Ytipmbamcldlmeaa.Pp
