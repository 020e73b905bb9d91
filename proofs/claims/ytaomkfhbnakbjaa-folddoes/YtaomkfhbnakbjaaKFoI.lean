/-
  Run of fold where the code is right: a contract over the program; the conditions: the code lies in memory.
-/
import Derived.Test.YtaomkfhbnakbjaaKFoH
namespace Go.Proofs.Ytaomkfhbnakbjaa.Fo
open Go.RowKit
set_option linter.unusedVariables false

/-! ### Codes that are alike are folded alike -/
theorem ev_reck {fault : Bool} {F : KF} {x y : PI} (h : EvI x y) : reckP fault F x = reckP fault F y := by
  unfold reckP un two
  rw [h.op, h.ty, h.a, h.b]
theorem ev_fold {fault : Bool} {F : KF} {x y : PI} (h : EvI x y) : EvI (foldI fault F x) (foldI fault F y) := by
  unfold foldI
  rw [ev_reck h]
  cases reckP fault F y with
  | none => exact h
  | some v => exact ⟨rfl, rfl, h.dst, rfl, rfl, rfl, rfl⟩
theorem ev_learn {F : KF} {x y : PI} (h : EvI x y) : learn F x = learn F y := by unfold learn; rw [h.op, h.dst, h.imm]
theorem evl_nil {α : Type} {R : α → α → Prop} : EvL R [] [] := ⟨rfl, fun k x y h => by simp at h⟩
theorem evl_cons {α : Type} {R : α → α → Prop} {x y : α} {l m : List α} (h : R x y) (t : EvL R l m) : EvL R (x :: l) (y :: m) := ⟨by simp [t.len], fun k a b ha hb => by
  cases k with
  | zero => simp at ha hb; subst ha hb; exact h
  | succ k => exact t.each k a b (by simpa using ha) (by simpa using hb)⟩
theorem evl_head {α : Type} {R : α → α → Prop} {x y : α} {l m : List α} (h : EvL R (x :: l) (y :: m)) : R x y ∧ EvL R l m := ⟨h.each 0 x y rfl rfl, by have := h.len; simpa using this, fun k a b ha hb => h.each (k + 1) a b (by simpa using ha) (by simpa using hb)⟩
theorem ev_foldL {fault : Bool} : ∀ (l m : List PI) (F : KF), EvL EvI l m → EvL EvI (foldL fault F l) (foldL fault F m)
  | [], [], F, _ => evl_nil
  | [], y :: m, F, h => by have := h.len; simp at this
  | x :: l, [], F, h => by have := h.len; simp at this
  | x :: l, y :: m, F, h => by
    obtain ⟨h1, h2⟩ := evl_head h
    have h3 := ev_fold (fault := fault) (F := F) h1
    simp only [foldL]
    rw [ev_learn h3]
    exact evl_cons h3 (ev_foldL l m _ h2)
theorem evl_map {α : Type} {R : α → α → Prop} {φ : α → α} (hφ : ∀ x y, R x y → R (φ x) (φ y)) {l m : List α} (h : EvL R l m) : EvL R (l.map φ) (m.map φ) := ⟨by simp [h.len], fun k x y hx hy => by
  rw [List.getElem?_map] at hx hy
  cases ha : l[k]? with
  | none => rw [ha] at hx; cases hx
  | some a =>
    cases hb : m[k]? with
    | none => rw [hb] at hy; cases hy
    | some b =>
      rw [ha] at hx
      rw [hb] at hy
      simp at hx hy
      subst hx hy
      exact hφ a b (h.each k a b ha hb)⟩
theorem ev_foldC {fault : Bool} {a c : PC} (h : EvC a c) : EvC (foldC fault a) (foldC fault c) :=
  ⟨h.gl, h.ini, evl_map (fun f g hf => ⟨hf.params, hf.regs, hf.slots, evl_map (fun p q hp => ⟨hp.e, hp.cond, hp.next, hp.els, ev_foldL _ _ _ hp.ins⟩) hf.parts⟩) h.fns⟩

/-- A part is folded, or has nothing to be folded. -/
theorem part_step {lo : Nat} {wr W1 : World} {fault : Bool} {a : PC} {i j : Nat} {f : PF} {p : PP} (hC : CodeL lo wr (stF fault a i f j)) (hlo : 0 < lo) (hf : a.fns[i]? = some f) (hp : f.parts[j]? = some p) (hq : Q wr W1) {kb M : Nat} (hM : wr.heap.size ≤ M) (hlw : lo ≤ wr.heap.size) (hk : KN W1 kb M 0 fault (fun _ => none)) :
    Calls Try.prog 38 #[.pointer (some ⟨kb, 0, none⟩), .slice p.ia p.ins.length p.ic] W1 fun e z => e = .returned (.tuple #[]) ∧ CodeL lo z (stF fault a i f (j + 1)) ∧ Below lo wr z := by
  have hp2 := upTo_at (foldP fault) hp
  have hfn := hC.fn.each _ (List.mem_of_getElem? (stF_get hf j))
  have hip := hfn.parts.each p (List.mem_of_getElem? hp2)
  obtain ⟨_, _, -, -, hfo⟩ := hC.fn.at' i _ (stF_get hf j)
  obtain ⟨_, _, -, -, hpo⟩ := hfo.parts j p hp2
  by_cases h0 : p.ins = []
  · have e0 : foldP fault p = p := by unfold foldP; rw [h0]; cases p; simp_all [foldL]
    have e1 : stF fault a i f (j + 1) = stF fault a i f j := by
      rw [← stF_step hf hp]
      have : PP.wi p (foldL fault (fun _ => none) p.ins) = p := e0
      rw [this]
      simp only [PC.wf, PF.wp]
      rw [set_same hp2]
      have := set_same (stF_get (fault := fault) hf j)
      simp only [PF.wp] at this
      rw [this]
    rw [e1, h0]
    refine (fold_nil W1 p.ia p.ic kb).mono ?_
    rintro e z ⟨rfl, rfl⟩
    exact ⟨rfl, CodeL.q hC hlo hq, Below.mono hq hlw⟩
  · obtain ⟨g, hg⟩ : ∃ g, iaB p g := by
      rcases hip.nb with q | ⟨b, cs, t, e, hl, hh⟩
      · exact absurd (List.eq_nil_of_length_eq_zero q) h0
      · exact ⟨b, h0, e⟩
    have hil := insl_il hip hg
    have hilW : IL lo W1 g p.ins := by
      obtain ⟨cs, t, hb⟩ := hil.blk
      exact hil.ne hq.size (hq.block g (Array.getElem?_eq_some_iff.1 hb).1) (fun b u hu hbl => hq.block b hbl)
    have hsl := hpo.sok.2.2.2
    have := fold_any W1 lo g kb M fault p.ins p.ic (by omega) hilW hk
    rw [← hg.2] at this
    refine this.mono ?_
    rintro e z ⟨rfl, h1, h2⟩
    have fx := fs_frx hq h2 hM
    have hs := codel_set hC (stF_get hf j) hp2 hg (foldL_len fault p.ins _) fx h1
    rw [stF_step hf hp] at hs
    have hgl := (InsL.lb hip hg).1
    exact ⟨rfl, hs, fx.os, fx.tape, fx.output, fx.size, fun b hb => fx.block b (by omega) (by omega)⟩

set_option maxRecDepth 100000 in
set_option maxHeartbeats 8000000 in
theorem run_good (w : World) (c : PC) (fault : Bool) (hcok : c.ok w) (hv : validP c = 0) : Calls Try.prog 15 #[c.v, .bool fault] w fun e w' => ∃ A : PC, e = .returned (.tuple #[A.v, .int .i64 0]) ∧ EvC A (foldC fault c) ∧ CodeL w.heap.size w' A ∧ Q w w' := by
  have VA := hideIt (valid_any (bxZ (bxC w c)) c (hcok.keep (((Q.refl w).alloc _).alloc _)))
  rw [hv] at VA
  have CP := hideIt (fun (y : World) (hy : Q (bxZ (bxC w c)) y) => copy_any y c (hcok.keep ((((Q.refl w).alloc _).alloc _).trans hy)))
  have B1 : Hid (∀ y, Q (bxZ (bxC w c)) y → y.heap[w.heap.size + 1]? = some (.cells zeroC 26 (0, 0))) := fun y hy => (hy.block _ (by simp)).trans (bz_out w c)
  have B0 : Hid (∀ y, Q (bxZ (bxC w c)) y → y.heap[w.heap.size]? = some (.cells #[.slice c.ga c.gl.length c.gc, .slice c.na c.ini.length c.nc, .slice c.fa c.fns.length c.fc] 26 (0, 0))) := fun y hy => (hy.block _ (by simp; omega)).trans (bz_code w c)
  have qB : Hid (Q w (bxZ (bxC w c))) := ((Q.refl w).alloc _).alloc _
  clear hcok hv
  go_enter Try.func15, Try.ntmps15
  go_wp2_with (first
    | (go_at_call 30; refine VA.out.mono ?_; rintro e y ⟨rfl, q⟩; have HQ := hideIt q; have b0 := B0.out y q; have v0 := cell_of_block b0 0; have v1 := cell_of_block b0 1; have v2 := cell_of_block b0 2; clear q b0)
    | (go_at_call 37; refine Calls.mono (CP.out _ HQ.out) ?_; rintro e z ⟨a, rfl, ev, cl, q⟩; have HE := hideIt ev; have HC := hideIt cl; have HZ := hideIt (HQ.out.trans q); have HYZ := hideIt q; have b0 := B0.out z (HQ.out.trans q); have u0 := cell_of_block b0 0; have u1 := cell_of_block b0 1; have u2 := cell_of_block b0 2; have uf := fun j : Nat => free_of_block b0 j; clear ev cl q b0 v0 v1 v2)
    | fail)
  have HOL : Hid (w.heap.size + 1 < y.heap.size) := (Array.getElem?_eq_some_iff.1 (B1.out y HQ.out)).1
  have FX : Hid (FrX w.heap.size z (((z.setCell ⟨w.heap.size, 0, none⟩ (.slice a.ga a.gl.length a.gc)).setCell ⟨w.heap.size, 1, none⟩ (.slice a.na a.ini.length a.nc)).setCell ⟨w.heap.size, 2, none⟩ (.slice a.fa a.fns.length a.fc))) := FrX.set (p := ⟨w.heap.size, 2, none⟩) (FrX.set (p := ⟨w.heap.size, 1, none⟩) (FrX.set (p := ⟨w.heap.size, 0, none⟩) (FrX.of_q (Q.refl z)) (Or.inl rfl) _) (Or.inl rfl) _) (Or.inl rfl) _
  have HC0 : Hid (CodeL y.heap.size (((z.setCell ⟨w.heap.size, 0, none⟩ (.slice a.ga a.gl.length a.gc)).setCell ⟨w.heap.size, 1, none⟩ (.slice a.na a.ini.length a.nc)).setCell ⟨w.heap.size, 2, none⟩ (.slice a.fa a.fns.length a.fc)) (stC fault a 0)) := by
    show CodeL _ _ (stC fault a 0)
    unfold stC
    rw [upTo_zero]
    exact HC.out.frx (by have := HOL.out; omega) FX.out
  have HQ0 : Hid (Q w (((z.setCell ⟨w.heap.size, 0, none⟩ (.slice a.ga a.gl.length a.gc)).setCell ⟨w.heap.size, 1, none⟩ (.slice a.na a.ini.length a.nc)).setCell ⟨w.heap.size, 2, none⟩ (.slice a.fa a.fns.length a.fc))) := ((((qB.out.trans HZ.out).set (p := ⟨w.heap.size, 0, none⟩) (Nat.le_refl _) _).set (p := ⟨w.heap.size, 1, none⟩) (Nat.le_refl _) _).set (p := ⟨w.heap.size, 2, none⟩) (Nat.le_refl _) _)
  have HO0 : Hid ((((z.setCell ⟨w.heap.size, 0, none⟩ (.slice a.ga a.gl.length a.gc)).setCell ⟨w.heap.size, 1, none⟩ (.slice a.na a.ini.length a.nc)).setCell ⟨w.heap.size, 2, none⟩ (.slice a.fa a.fns.length a.fc)).heap[w.heap.size]? = some (.cells #[.slice a.ga a.gl.length a.gc, .slice a.na a.ini.length a.nc, .slice a.fa a.fns.length a.fc] 26 (0, 0))) := (block_setCell (block_setCell (block_setCell (B0.out z HZ.out) _) _) _).trans (by simp)
  have HO1 : Hid ((((z.setCell ⟨w.heap.size, 0, none⟩ (.slice a.ga a.gl.length a.gc)).setCell ⟨w.heap.size, 1, none⟩ (.slice a.na a.ini.length a.nc)).setCell ⟨w.heap.size, 2, none⟩ (.slice a.fa a.fns.length a.fc)).heap[w.heap.size + 1]? = some (.cells zeroC 26 (0, 0))) := FX.out.heap (B1.out z HZ.out) (by omega)
  have HS0 : Hid (y.heap.size ≤ (((z.setCell ⟨w.heap.size, 0, none⟩ (.slice a.ga a.gl.length a.gc)).setCell ⟨w.heap.size, 1, none⟩ (.slice a.na a.ini.length a.nc)).setCell ⟨w.heap.size, 2, none⟩ (.slice a.fa a.fns.length a.fc)).heap.size) := Nat.le_trans HYZ.out.size FX.out.size
  have hfl : a.fns.length ≤ 9223372036854775807 := HC.out.ok.fsok.len
  have hmk := run_makeMap (P := Try.prog) 76
  clear FX HC B0 B1 CP VA HZ HYZ HQ qB u0 u1 u2 uf
  generalize hW0 : ((z.setCell ⟨w.heap.size, 0, none⟩ (.slice a.ga a.gl.length a.gc)).setCell ⟨w.heap.size, 1, none⟩ (.slice a.na a.ini.length a.nc)).setCell ⟨w.heap.size, 2, none⟩ (.slice a.fa a.fns.length a.fc) = W0 at *
  clear hW0
  generalize y.heap.size = lo at *
  go_loopw [23] (fun o wr => ∃ i : Nat, o = .int .i64 i ∧ i ≤ a.fns.length ∧ Hid (CodeL lo wr (stC fault a i)) ∧ Hid (Q w wr) ∧ Hid (wr.heap[w.heap.size]? = some (.cells #[.slice a.ga a.gl.length a.gc, .slice a.na a.ini.length a.nc, .slice a.fa a.fns.length a.fc] 26 (0, 0))) ∧ Hid (wr.heap[w.heap.size + 1]? = some (.cells zeroC 26 (0, 0))) ∧ Hid (lo ≤ wr.heap.size)) (fun o _ => a.fns.length - (intOf o).toNat)
  case atStart => exact ⟨0, rfl, Nat.zero_le _, HC0, HQ0, HO0, HO1, HS0⟩
  case round =>
    obtain ⟨i, rfl, hi, C1, Q1, O1, P1, S1⟩ := hrel
    generalize wr = w1 at *
    clear HC0 HQ0 HO0 HO1 HS0
    by_cases hic : i < a.fns.length
    · obtain ⟨f, hf⟩ := get_of_lt hic
      have CF : Hid (CodeL lo w1 (stF fault a i f 0)) := by
        show CodeL lo w1 (stF fault a i f 0)
        rw [stF_zero hf]
        exact C1.out
      obtain ⟨fb, fo, efa, hfat, hfok⟩ := C1.out.fn.at' i f (upTo_at _ hf)
      have efa' : a.fa = some ⟨fb, fo, none⟩ := efa
      obtain ⟨f0, f1, f2, f3⟩ := hfat.four
      have k1 : (i : Int) < (a.fns.length : Int) := by omega
      have hpl : f.parts.length ≤ 9223372036854775807 := hfok.psok.len
      have HF := hideIt hf
      have HEFA := hideIt efa'
      rw [show (Value.slice a.fa a.fns.length a.fc) = .slice (some ⟨fb, fo, none⟩) a.fns.length a.fc by rw [efa']]
      clear hf hfat hfok efa efa' C1
      have BF : Hid (Q w1 (w1.alloc (.cells #[.int .i64 f.params, .int .i64 f.regs, .slice f.sa f.slots.length f.sc, .slice f.pa f.parts.length f.pc] 46))) := (Q.refl w1).alloc _
      go_wp2_with (fail)
      clear f0 f1 f2 f3
      generalize hWB : w1.alloc (.cells #[.int .i64 f.params, .int .i64 f.regs, .slice f.sa f.slots.length f.sc, .slice f.pa f.parts.length f.pc] 46) = WB at *
      have CB : Hid (CodeL lo WB (stF fault a i f 0)) := CodeL.q CF.out (by have := HOL.out; omega) BF.out
      have QB : Hid (Q w WB) := Q1.out.trans BF.out
      have OB : Hid (WB.heap[w.heap.size]? = some (.cells #[.slice a.ga a.gl.length a.gc, .slice a.na a.ini.length a.nc, .slice a.fa a.fns.length a.fc] 26 (0, 0))) := heap_keep BF.out O1.out
      have PB : Hid (WB.heap[w.heap.size + 1]? = some (.cells zeroC 26 (0, 0))) := heap_keep BF.out P1.out
      have SB : Hid (lo ≤ WB.heap.size) := Nat.le_trans S1.out BF.out.size
      clear hWB CF BF Q1 O1 P1 S1
      go_loopw [30] (fun o wr => ∃ j : Nat, o = .int .i64 j ∧ j ≤ f.parts.length ∧ Hid (CodeL lo wr (stF fault a i f j)) ∧ Hid (Q w wr) ∧ Hid (wr.heap[w.heap.size]? = some (.cells #[.slice a.ga a.gl.length a.gc, .slice a.na a.ini.length a.nc, .slice a.fa a.fns.length a.fc] 26 (0, 0))) ∧ Hid (wr.heap[w.heap.size + 1]? = some (.cells zeroC 26 (0, 0))) ∧ Hid (lo ≤ wr.heap.size)) (fun o _ => f.parts.length - (intOf o).toNat)
      case atStart => exact ⟨0, rfl, Nat.zero_le _, CB, QB, OB, PB, SB⟩
      case round =>
        obtain ⟨j, rfl, hj, C2, Q2, O2, P2, S2⟩ := hrel
        generalize wr = w2 at *
        clear CB QB OB PB SB
        by_cases hjc : j < f.parts.length
        · obtain ⟨p, hp⟩ := get_of_lt hjc
          obtain ⟨_, _, -, -, hfok⟩ := C2.out.fn.at' i _ (stF_get HF.out j)
          obtain ⟨pb, po, epa, hpat, -⟩ := hfok.parts j p (upTo_at _ hp)
          have epa' : f.pa = some ⟨pb, po, none⟩ := epa
          obtain ⟨p0, p1, p2, p3, p4⟩ := hpat.five
          have k2 : (j : Int) < (f.parts.length : Int) := by omega
          have HP := hideIt hp
          have KNW : Hid (∀ (W1 : World), W1 = ((w2.alloc (.cells #[.slice p.ia p.ins.length p.ic, .bool p.e, .int .i64 p.cond, .int .i64 p.next, .int .i64 p.els] 49)).alloc (.map #[] 0)).alloc (.cells #[.map (some (w2.heap.size + 1)), .bool fault] 78) → Calls Try.prog 38 #[.pointer (some ⟨w2.heap.size + 1 + 1, 0, none⟩), .slice p.ia p.ins.length p.ic] W1 fun e z => e = .returned (.tuple #[]) ∧ CodeL lo z (stF fault a i f (j + 1)) ∧ Below lo w2 z) := fun W1 hW1 => by
            have hm := mi_made (w2.alloc (.cells #[.slice p.ia p.ins.length p.ic, .bool p.e, .int .i64 p.cond, .int .i64 p.next, .int .i64 p.els] 49))
            have e1 : (w2.alloc (.cells #[.slice p.ia p.ins.length p.ic, .bool p.e, .int .i64 p.cond, .int .i64 p.next, .int .i64 p.els] 49)).heap.size = w2.heap.size + 1 := by simp
            rw [e1] at hm
            have hkn : KN W1 (w2.heap.size + 1 + 1) (w2.heap.size + 1) 0 fault (fun _ => none) := by
              refine ⟨?_, ?_⟩
              · rw [hW1]
                have := heap_alloc_new ((w2.alloc (.cells #[.slice p.ia p.ins.length p.ic, .bool p.e, .int .i64 p.cond, .int .i64 p.next, .int .i64 p.els] 49)).alloc (.map #[] 0)) (.cells #[.map (some (w2.heap.size + 1)), .bool fault] 78)
                simpa using this
              · rw [hW1]
                exact hm.kept (Below.heap_alloc _ _ _ (by simp))
            have hq1 : Q w2 W1 := by rw [hW1]; exact (((Q.refl w2).alloc _).alloc _).alloc _
            exact part_step C2.out (by have := HOL.out; omega) HF.out hp hq1 (by omega) S2.out hkn
          have NX : Hid (∀ z, Below lo w2 z → Q w z ∧ z.heap[w.heap.size]? = some (.cells #[.slice a.ga a.gl.length a.gc, .slice a.na a.ini.length a.nc, .slice a.fa a.fns.length a.fc] 26 (0, 0)) ∧ z.heap[w.heap.size + 1]? = some (.cells zeroC 26 (0, 0)) ∧ lo ≤ z.heap.size) := fun z hz => by
            have hol := HOL.out
            exact ⟨Below.trans Q2.out (Below.mono hz (by omega)), (hz.block _ (by omega)).trans O2.out, (hz.block _ (by omega)).trans P2.out, Nat.le_trans S2.out hz.size⟩
          rw [show (Value.slice f.pa f.parts.length f.pc) = .slice (some ⟨pb, po, none⟩) f.parts.length f.pc by rw [epa']]
          clear hp hfok hpat epa epa'
          go_wp2_with (first | (go_at_call 38; refine Calls.mono (KNW.out _ rfl) ?_; rintro e z ⟨rfl, c1, c2⟩; have HC1 := hideIt c1; have HN := hideIt (NX.out z c2); clear c1 c2 p0 p1 p2 p3 p4) | fail)
          go_roundw
          case rel => exact ⟨j + 1, by go_num, hjc, HC1, hideIt HN.out.1, hideIt HN.out.2.1, hideIt HN.out.2.2.1, hideIt HN.out.2.2.2⟩
          case measure => simp [intOf]; omega
        · have ej : j = f.parts.length := by omega
          subst ej
          have k2 : decide ((f.parts.length : Int) < (f.parts.length : Int)) = false := by simp
          have CN : Hid (CodeL lo w2 (stC fault a (i + 1))) := by
            have := C2.out
            rw [stF_all HF.out] at this
            exact this
          go_wp2_with (fail)
          go_roundw
          case rel => exact ⟨i + 1, by go_num, hic, CN, Q2, by have h := O2.out; rw [HEFA.out] at h; exact h, P2, S2⟩
          case measure => simp [intOf]; omega
    · have ei : i = a.fns.length := by omega
      subst ei
      have k1 : decide ((a.fns.length : Int) < (a.fns.length : Int)) = false := by simp
      have u0 := cell_of_block O1.out 0
      have u1 := cell_of_block O1.out 1
      have u2 := cell_of_block O1.out 2
      have z0 := cell_of_block P1.out 0
      have z1 := cell_of_block P1.out 1
      have z2 := cell_of_block P1.out 2
      have zf := fun j : Nat => free_of_block P1.out j
      have FIN : Hid (∀ W, W = ((w1.setCell ⟨w.heap.size + 1, 0, none⟩ (.slice a.ga a.gl.length a.gc)).setCell ⟨w.heap.size + 1, 1, none⟩ (.slice a.na a.ini.length a.nc)).setCell ⟨w.heap.size + 1, 2, none⟩ (.slice a.fa a.fns.length a.fc) → ∃ A : PC, Ending.returned (.tuple #[.agg #[.slice a.ga a.gl.length a.gc, .slice a.na a.ini.length a.nc, .slice a.fa a.fns.length a.fc], .int .i64 0]) = .returned (.tuple #[A.v, .int .i64 0]) ∧ EvC A (foldC fault c) ∧ CodeL w.heap.size W A ∧ Q w W) := fun W hW => by
        have hol := HOL.out
        have fx : FrX (w.heap.size + 1) w1 W := by rw [hW]; exact FrX.set (p := ⟨w.heap.size + 1, 2, none⟩) (FrX.set (p := ⟨w.heap.size + 1, 1, none⟩) (FrX.set (p := ⟨w.heap.size + 1, 0, none⟩) (FrX.of_q (Q.refl w1)) (Or.inl rfl) _) (Or.inl rfl) _) (Or.inl rfl) _
        have hc : CodeL lo w1 (foldC fault a) := by
          have := C1.out
          unfold stC at this
          rw [upTo_all] at this
          exact this
        refine ⟨foldC fault a, ?_, ev_foldC HE.out, (hc.frx (by omega) fx).mono (by omega), fx.q Q1.out (by omega)⟩
        show _ = Ending.returned (.tuple #[.agg #[.slice a.ga a.gl.length a.gc, .slice a.na a.ini.length a.nc, .slice a.fa (a.fns.map (foldF fault)).length a.fc], .int .i64 0])
        rw [List.length_map]
      go_wp2_with (fail)
      exact bodyPost_ret (v := .tuple #[.agg #[.slice a.ga a.gl.length a.gc, .slice a.na a.ini.length a.nc, .slice a.fa a.fns.length a.fc], .int .i64 0]) (by simp [results, Try.results15, go_sem, z0, z1, z2]) rfl (FIN.out _ rfl)

end Go.Proofs.Ytaomkfhbnakbjaa.Fo
