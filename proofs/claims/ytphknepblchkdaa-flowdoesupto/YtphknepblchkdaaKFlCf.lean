/-
 Ways through functions are made straight (Run of flow): a contract over the program; the conditions: the code lies in memory, and is of a size that is looked at.
-/
import Derived.Test.YtphknepblchkdaaKFlCe
namespace Go.Proofs.Ytphknepblchkdaa.Fl
open Go.RowKit
open Go.Proofs.Ytphknepblchkdaa.In (zI zP zF zI_zI zP_zP cntS cntS_fnN len_cnt)
set_option linter.unusedVariables false

abbrev zeroC : Array Value := #[.slice none 0 0, .slice none 0 0, .slice none 0 0]
abbrev bxZ (w : World) : World := w.alloc (.cells zeroC 26)
theorem bz_out (w : World) (c : PC) : (bxZ (bxC w c)).heap[w.heap.size + 1]? = some (.cells zeroC 26 (0, 0)) := by
 have := heap_alloc_new (bxC w c) (.cells zeroC 26)
 simpa using this
theorem bz_code (w : World) (c : PC) : (bxZ (bxC w c)).heap[w.heap.size]? = some (.cells #[.slice c.ga c.gl.length c.gc, .slice c.na c.ini.length c.nc, .slice c.fa c.fns.length c.fc] 26 (0, 0)) := by
 rw [Below.heap_alloc _ _ _ (by simp)]
 exact heap_alloc_new w _
def Cds (X : World) (b : Nat) (c : PC) : Prop := X.cell? ⟨b, 0, none⟩ = some (.slice c.ga c.gl.length c.gc) ∧ X.cell? ⟨b, 1, none⟩ = some (.slice c.na c.ini.length c.nc) ∧ X.cell? ⟨b, 2, none⟩ = some (.slice c.fa c.fns.length c.fc)
abbrev st3 (z : World) (b : Nat) (a : PC) : World := ((z.setCell ⟨b, 0, none⟩ (.slice a.ga a.gl.length a.gc)).setCell ⟨b, 1, none⟩ (.slice a.na a.ini.length a.nc)).setCell ⟨b, 2, none⟩ (.slice a.fa a.fns.length a.fc)
theorem st3_frx (z : World) (b : Nat) (a : PC) : FrX b z (st3 z b a) := FrX.set (p := ⟨b, 2, none⟩) (FrX.set (p := ⟨b, 1, none⟩) (FrX.set (p := ⟨b, 0, none⟩) (FrX.of_q (Q.refl z)) (Or.inl rfl) _) (Or.inl rfl) _) (Or.inl rfl) _

set_option maxRecDepth 100000 in
set_option maxHeartbeats 8000000 in
theorem run_good (w : World) (c : PC) (fault : Bool) (hcok : c.ok w) (hv : validP c = 0) (hn : codeN c ≤ 400) :
  Calls Try.prog 9 #[c.v, .bool fault] w fun e w' => ∃ A : PC, e = .returned (.tuple #[A.v, .int .i64 0]) ∧ EvC A (floC fault c) ∧ CodeM w.heap.size w' A ∧ Q w w' := by
 have VA := hideIt (valid_any (bxZ (bxC w c)) c (hcok.keep (((Q.refl w).alloc _).alloc _)))
 obtain ⟨hvc, -, -, fl, hfl, -⟩ := Dn.valid_vc hcok hv
 rw [hv] at VA
 have CP := hideIt (fun (y : World) (hy : Q (bxZ (bxC w c)) y) => Fc.copy_any y c (hcok.keep ((((Q.refl w).alloc _).alloc _).trans hy)))
 have B1 : Hid (∀ y, Q (bxZ (bxC w c)) y → y.heap[w.heap.size + 1]? = some (.cells zeroC 26 (0, 0))) := fun y hy => (hy.block _ (by simp)).trans (bz_out w c)
 have B0 : Hid (∀ y, Q (bxZ (bxC w c)) y → y.heap[w.heap.size]? = some (.cells #[.slice c.ga c.gl.length c.gc, .slice c.na c.ini.length c.nc, .slice c.fa c.fns.length c.fc] 26 (0, 0))) := fun y hy => (hy.block _ (by simp; omega)).trans (bz_code w c)
 have qB : Hid (Q w (bxZ (bxC w c))) := ((Q.refl w).alloc _).alloc _
 have HFN : Hid (∀ k f, c.fns[k]? = some f → fnP c k f = true) := hvc.fn
 have HCL : Hid (∀ f ∈ c.fns, cntS f.parts ≤ 400) := fun f hf => by have := cnt_le hf; omega
 have HNE : Hid (c.fns ≠ []) := fun e => by rw [e] at hfl; cases hfl
 have HFS : Hid (c.fns.length ≤ 9223372036854775807) := hcok.fsok.len
 clear hcok hv hvc hn hfl
 go_enter Try.func9, Try.ntmps9
 go_upto_region 5 with (first
  | (go_at_call 20; refine VA.out.mono ?_; rintro e y ⟨rfl, q⟩; have HQ := hideIt q; have b0 := B0.out y q; have v0 := cell_of_block b0 0; have v1 := cell_of_block b0 1; have v2 := cell_of_block b0 2; clear q b0)
  | (go_at_call 21; refine Calls.mono (CP.out _ HQ.out) ?_; rintro e z ⟨a, rfl, ev, cl, q⟩; have HE := hideIt ev; have HC := hideIt cl; have HYZ := hideIt q; have b0 := B0.out z (HQ.out.trans q); have u0 := cell_of_block b0 0; have u1 := cell_of_block b0 1; have u2 := cell_of_block b0 2; have uf := fun j : Nat => free_of_block b0 j; clear ev cl q b0 v0 v1 v2)
  | fail)
 have hol : w.heap.size + 1 < y.heap.size := (Array.getElem?_eq_some_iff.1 (B1.out y HQ.out)).1
 have hne : a.fns ≠ [] := fun e => by
  have := HE.out.fns.len
  rw [e] at this
  exact HNE.out (List.eq_nil_of_length_eq_zero this.symm)
 have hzm : a.fns.map zF = c.fns.map zF := evl_map (g := zF) (fun _ _ => evf_z) HE.out.fns
 have hfna : ∀ k f, a.fns[k]? = some f → fnP a k f = true := fun k f hk => by
  obtain ⟨f0, hf0⟩ := get_of_lt (l := c.fns) (k := k) (by rw [← HE.out.fns.len]; exact (List.getElem?_eq_some_iff.1 hk).1)
  rw [fnP_z (c := c) (d := a) HE.out.gl hzm k (evf_z (HE.out.fns.each k f f0 hk hf0))]
  exact HFN.out k f0 hf0
 have hpne : ∀ f ∈ a.fns, f.parts ≠ [] := fun f hf => by
  obtain ⟨k, hk⟩ := List.getElem?_of_mem hf
  exact (fn_head (hfna k f hk)).2.2.2
 have hca : ∀ f ∈ a.fns, cntS f.parts ≤ 400 := fun f hf => by
  obtain ⟨k, hk⟩ := List.getElem?_of_mem hf
  obtain ⟨f0, hf0⟩ := get_of_lt (l := c.fns) (k := k) (by rw [← HE.out.fns.len]; exact (List.getElem?_eq_some_iff.1 hk).1)
  have e := parts_z (evf_z (HE.out.fns.each k f f0 hk hf0))
  have := HCL.out f0 (List.mem_of_getElem? hf0)
  rw [← cntS_zP, e, cntS_zP]
  exact this
 have hlen : a.fns.length ≤ 9223372036854775807 := by rw [HE.out.fns.len]; exact HFS.out
 have CL : Fc.CodeL y.heap.size (st3 z w.heap.size a) a := HC.out.frx (by omega) (st3_frx z w.heap.size a)
 have HBX : Hid (Cds (st3 z w.heap.size a) w.heap.size a) := by
  have e : (st3 z w.heap.size a).heap[w.heap.size]? = some (.cells #[.slice a.ga a.gl.length a.gc, .slice a.na a.ini.length a.nc, .slice a.fa a.fns.length a.fc] 26 (0, 0)) := (block_setCell (block_setCell (block_setCell (B0.out z (HQ.out.trans HYZ.out)) _) _) _).trans (by simp)
  exact ⟨(cell_of_block e 0).trans rfl, (cell_of_block e 1).trans rfl, (cell_of_block e 2).trans rfl⟩
 have HP1 : Hid ((st3 z w.heap.size a).heap[w.heap.size + 1]? = some (.cells zeroC 26 (0, 0))) := (st3_frx z w.heap.size a).heap (B1.out z (HQ.out.trans HYZ.out)) (by omega)
 have HQV : Hid (Q w (st3 z w.heap.size a)) := (st3_frx z w.heap.size a).q (qB.out.trans (HQ.out.trans HYZ.out)) (Nat.le_refl _)
 obtain ⟨V, hV⟩ : ∃ V, ((z.setCell ⟨w.heap.size, 0, none⟩ (.slice a.ga a.gl.length a.gc)).setCell ⟨w.heap.size, 1, none⟩ (.slice a.na a.ini.length a.nc)).setCell ⟨w.heap.size, 2, none⟩ (.slice a.fa a.fns.length a.fc) = V := ⟨_, rfl⟩
 have hV2 : st3 z w.heap.size a = V := hV
 rw [hV2] at CL HBX HP1 HQV
 rw [hV]
 clear hV hV2
 obtain ⟨FA, efa, hFlo, hFsz, hC⟩ := cpy_of CL (Q.refl V) hne hpne
 have HCP := hideIt hC
 have HCLv := hideIt CL
 have HFNA := hideIt hfna
 have HPN := hideIt hpne
 have HCA := hideIt hca
 have HEF := hideIt efa
 have HNA := hideIt hne
 have HFLO : Hid (y.heap.size ≤ FA) := hFlo
 clear u0 u1 u2 uf hzm hfna hpne hca efa hne CL hC hFlo hFsz VA CP B1 B0 qB HFN HCL HNE HC HYZ HQ HFS
 generalize hlo : y.heap.size = lo at *
 clear hlo
 have HCD3 : Hid (∀ k G W, RS' V lo FA a.fns fault k G W → W.cell? ⟨w.heap.size, 0, none⟩ = some (.slice a.ga a.gl.length a.gc) ∧ W.cell? ⟨w.heap.size, 1, none⟩ = some (.slice a.na a.ini.length a.nc) ∧ W.cell? ⟨w.heap.size, 2, none⟩ = some (.slice (some ⟨FA, 0, none⟩) a.fns.length a.fc) ∧ W.heap[w.heap.size + 1]? = some (.cells zeroC 26 (0, 0))) := fun k G W h => by
  have hno : ∀ b, b < lo → ¬ SB FA a.fns k b := fun b hb hS => by
   rcases hS with e | ⟨i, f, -, hi, hf⟩
   ·have := HFLO.out; omega
   ·rcases hf with hf | ⟨p, hp, hf⟩
    ·obtain ⟨P, e, -, h2, -⟩ := HCP.out.pb i f hi
     rw [hf] at e; injection e with e; injection e with e
     omega
    ·have := (HCP.out.rb i f hi p hp b hf).2.1; omega
  have h1 := HBX.out
  have h2 := h1.2.2
  rw [HEF.out] at h2
  exact ⟨h.fs.cell h1.1 (hno _ (by dsimp only; omega)), h.fs.cell h1.2.1 (hno _ (by dsimp only; omega)), h.fs.cell h2 (hno _ (by dsimp only; omega)), h.fs.heap HP1.out (hno _ hol)⟩
 have R0 : Hid (RS' V lo FA a.fns fault 0 a.fns V) := RS'.start HCP.out
 have t2 := (HCD3.out _ _ _ R0.out).2.2.1
 go_wp2_with (fail)
 go_loopw [22] (fun i wr => ∃ (k : Nat) (G : List PF), i = .int .i64 (k : Int) ∧ k ≤ a.fns.length ∧ Hid (RS' V lo FA a.fns fault k G wr)) (fun i _ => a.fns.length - (intOf i).toNat)
 case atStart => exact ⟨0, a.fns, rfl, Nat.zero_le _, R0⟩
 case round =>
  obtain ⟨k, G, rfl, hk, HR⟩ := hrel
  have t2 := (HCD3.out _ _ _ HR.out).2.2.1
  by_cases hlt : k < a.fns.length
  ·obtain ⟨f, hf⟩ := get_of_lt hlt
   obtain ⟨Pb, epa, -⟩ := HCP.out.pb k f hf
   have hfm := List.mem_of_getElem? hf
   have hcf := HCA.out f hfm
   have hle := len_cnt f.parts
   have h0 : 0 < f.parts.length := List.length_pos_iff.2 (HPN.out f hfm)
   have hwy := wyL_of (HFNA.out k f hf)
   have hN : f.parts.length ≤ 1000 := by omega
   have T0 : Hid (TL wr Pb fault f.parts 0 wr) := TL.start HCP.out HR.out hf epa
   have HCT : Hid (∀ j p, f.parts[j]? = some p → ∀ z, TL wr Pb fault f.parts j z → Calls Try.prog 22 #[.pointer (some ⟨Pb, j * 5, none⟩), .bool fault] z fun e w' => e = .returned (.tuple #[]) ∧ TL wr Pb fault f.parts (j + 1) w') := fun j p hp z hz => CT HCP.out HR.out hf epa hp hz
   have HPC : Hid (∀ z, Fs (fB f) wr z → z.cell? ⟨FA, k * 4 + 3, none⟩ = some (.slice (some ⟨Pb, 0, none⟩) f.parts.length f.parts.length) ∧ z.frozen? ⟨FA, k * 4 + 3, none⟩ = false) := fun z hz => pc_cell HCP.out HR.out hf epa hz
   have HFP : Hid (∀ z, Fs (fun b => b = Pb) wr z → Fs (fB f) wr z) := fun z hz => fsP epa hz
   have HJF : Hid (∀ z, J1 wr lo Pb f fault z → Fs (fB f) wr z) := fun z hz => hz.fs epa
   have HPB : Hid (∀ z, TL wr Pb fault f.parts f.parts.length z → Calls Try.prog 23 #[.slice (some ⟨Pb, 0, none⟩) f.parts.length f.parts.length] z fun e w' => e = .returned (.int .i64 (fstL (tkL fault f.parts) : Int)) ∧ BL wr Pb (pasL (tkL fault f.parts)) w') := fun z hz => CPB HCP.out hf epa hwy hN h0 hz
   have HJ : Hid (∀ z, BL wr Pb (pasL (tkL fault f.parts)) z → Calls Try.prog 24 #[.slice (some ⟨Pb, 0, none⟩) f.parts.length f.parts.length, .int .i64 (fstL (tkL fault f.parts) : Int)] z fun e w' => e = .returned (.tuple #[]) ∧ J1 wr lo Pb f fault w') := fun z hz => CJ HCP.out HR.out hf epa hwy (by omega) h0 hz
   have HO : Hid (∀ z, J1 wr lo Pb f fault z → Calls Try.prog 25 #[.slice (some ⟨Pb, 0, none⟩) f.parts.length f.parts.length, .int .i64 (fstL (tkL fault f.parts) : Int)] z fun e w' => ∃ K n G', e = .returned (.slice (some ⟨K, 0, none⟩) n n) ∧ Q z w' ∧ RS' V lo FA a.fns fault (k + 1) G' (w'.setCell ⟨FA, k * 4 + 3, none⟩ (.slice (some ⟨K, 0, none⟩) n n))) := fun z hz => CO HCP.out HR.out hf epa hwy hN h0 hz
   have hkl : (k : Int) < (a.fns.length : Int) := by omega
   obtain ⟨p3, -⟩ := HPC.out wr (Fs.refl _ _)
   clear hf hfm hcf hle hwy h0 epa
   generalize hL : f.parts.length = N at *
   go_wp2_with (fail)
   clear p3 t2
   go_loopw [34] (fun jv z => ∃ j : Nat, jv = .int .i64 (j : Int) ∧ j ≤ N ∧ Hid (TL wr Pb fault f.parts j z)) (fun jv _ => N - (intOf jv).toNat)
   case atStart => exact ⟨0, rfl, Nat.zero_le _, T0⟩
   case round =>
    obtain ⟨j, rfl, hj, HZ⟩ := hrel
    rename_i z2
    obtain ⟨p3, -⟩ := HPC.out _ (HFP.out _ HZ.out.fs)
    by_cases hlt2 : j < N
    ·obtain ⟨p, hp⟩ := get_of_lt (l := f.parts) (k := j) (by omega)
     have HC1 := hideIt (HCT.out j p hp _ HZ.out)
     have hjl : (j : Int) < (N : Int) := by omega
     clear hp
     go_wp2_with (first | (go_at_call 22; refine Calls.mono HC1.out ?_; rintro e z3 ⟨rfl, h⟩; have HZ3 := hideIt h; clear h) | fail)
     go_roundw
     case rel => exact ⟨j + 1, by go_num, hlt2, HZ3⟩
     case measure => simp [intOf]; omega
    ·have hje : j = N := by omega
     rw [hje] at HZ ⊢
     clear hje hj hlt2
     have HB1 := hideIt (HPB.out _ HZ.out)
     go_wp2_with (first
      | (go_at_call 23; refine Calls.mono HB1.out ?_; rintro e z3 ⟨rfl, h⟩; have HZ3 := hideIt h; have HJ2 := hideIt (HJ.out _ h); obtain ⟨p4, -⟩ := HPC.out _ (HFP.out _ h.fs); clear h p3)
      | (go_at_call 24; refine Calls.mono HJ2.out ?_; rintro e z4 ⟨rfl, h⟩; have HZ4 := hideIt h; have HO2 := hideIt (HO.out _ h); obtain ⟨p5, -⟩ := HPC.out _ (HJF.out _ h); clear h p4)
      | (go_at_call 25; refine Calls.mono HO2.out ?_; rintro e z5 ⟨K, n, G', rfl, q5, h⟩; have HZ5 := hideIt h; obtain ⟨p6, f6⟩ := HPC.out _ ((HJF.out _ HZ4.out).trans (Fs.of_q q5)); clear h p5 q5)
      | fail)
     go_roundw
     case rel => exact ⟨k + 1, G', by go_num, hlt, HZ5⟩
     case measure => simp [intOf]; omega
  ·have hke : k = a.fns.length := by omega
   rw [hke] at HR ⊢
   clear hke hk hlt
   obtain ⟨s0, s1, s2, p1⟩ := HCD3.out _ _ _ HR.out
   clear t2
   have z0 := cell_of_block p1 0
   have z1 := cell_of_block p1 1
   have z2 := cell_of_block p1 2
   have zf := fun j : Nat => free_of_block p1 j
   have hrc := RS'.code HR.out HCLv.out (Q.refl V) HNA.out HPN.out HEF.out HFLO.out
   have hev := floC_z (fault := fault) HE.out hrc.2
   have FIN : Hid (∀ W, W = ((wr.setCell ⟨w.heap.size + 1, 0, none⟩ (.slice a.ga a.gl.length a.gc)).setCell ⟨w.heap.size + 1, 1, none⟩ (.slice a.na a.ini.length a.nc)).setCell ⟨w.heap.size + 1, 2, none⟩ (.slice (some ⟨FA, 0, none⟩) a.fns.length a.fc) → ∃ A : PC, Ending.returned (.tuple #[.agg #[.slice a.ga a.gl.length a.gc, .slice a.na a.ini.length a.nc, .slice (some ⟨FA, 0, none⟩) a.fns.length a.fc], .int .i64 0]) = .returned (.tuple #[A.v, .int .i64 0]) ∧ EvC A (floC fault c) ∧ CodeM w.heap.size W A ∧ Q w W) := fun W hW => by
    have q0 : Q w V := HQV.out
    have fr : Fs (fun b => b = w.heap.size + 1) wr W := by
     rw [hW]
     refine ⟨rfl, rfl, rfl, by simp, fun b hb hn => ?_⟩
     rw [Below.heap_setCell _ _ _ _ hn, Below.heap_setCell _ _ _ _ hn, Below.heap_setCell _ _ _ _ hn]
    refine ⟨⟨a.gl, a.ini, G, a.ga, a.gc, a.na, a.nc, a.fa, a.fc⟩, ?_, hev, (hrc.1.low fr (fun b hb e => by omega)).mono (by omega), ?_⟩
    ·show _ = Ending.returned (.tuple #[.agg #[.slice a.ga a.gl.length a.gc, .slice a.na a.ini.length a.nc, .slice a.fa G.length a.fc], .int .i64 0])
     rw [HR.out.len, HEF.out]
    ·have f1 := HR.out.fs
     refine ⟨fr.os.trans (f1.os.trans q0.os), fr.tape.trans (f1.tape.trans q0.tape), fr.output.trans (f1.output.trans q0.output), Nat.le_trans q0.size (Nat.le_trans f1.size fr.size), fun b hb => ?_⟩
     have hbV := Nat.lt_of_lt_of_le hb q0.size
     rw [fr.block b (Nat.lt_of_lt_of_le hbV f1.size) (by omega), f1.block b hbV (fun hS => ?_), q0.block b hb]
     rcases hS with e | ⟨i, f, -, hi, hf⟩
     ·have := HFLO.out; omega
     ·rcases hf with hf | ⟨p, hp, hf⟩
      ·obtain ⟨P, e, -, h2, -⟩ := HCP.out.pb i f hi
       rw [hf] at e; injection e with e; injection e with e
       omega
      ·have := (HCP.out.rb i f hi p hp b hf).2.1; omega
   clear hrc hev p1
   go_wp2_with (fail)
   exact bodyPost_ret (v := .tuple #[.agg #[.slice a.ga a.gl.length a.gc, .slice a.na a.ini.length a.nc, .slice (some ⟨FA, 0, none⟩) a.fns.length a.fc], .int .i64 0]) (by simp [results, Try.results9, go_sem, z0, z1, z2]) rfl (FIN.out _ rfl)
end Go.Proofs.Ytphknepblchkdaa.Fl
