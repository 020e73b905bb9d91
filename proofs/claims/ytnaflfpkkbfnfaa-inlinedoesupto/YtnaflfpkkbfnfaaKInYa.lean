/-
  Calls of small functions are done where they stand (Run of inline): a contract over the program; the conditions: the code lies in memory, and is of a size that is looked at.
  The document's example of layer 22: in memory (example), what the program makes of it, and what that does when it runs.
  What the document's example of layer 22 does when it runs, with calls done where they stand; that a run hangs on no address.
-/
import Derived.Test.YtnaflfpkkbfnfaaKInW
import Derived.Test.YtnaflfpkkbfnfaaKDnO
namespace Go.Proofs.Ytnaflfpkkbfnfaa.In
open Go.RowKit
set_option linter.unusedVariables false

abbrev zeroC : Array Value := #[.slice none 0 0, .slice none 0 0, .slice none 0 0]
abbrev bxZ (w : World) : World := w.alloc (.cells zeroC 26)
theorem bz_out (w : World) (c : PC) : (bxZ (bxC w c)).heap[w.heap.size + 1]? = some (.cells zeroC 26 (0, 0)) := by
  have := heap_alloc_new (bxC w c) (.cells zeroC 26)
  simpa using this
theorem bz_code (w : World) (c : PC) : (bxZ (bxC w c)).heap[w.heap.size]? = some (.cells #[.slice c.ga c.gl.length c.gc, .slice c.na c.ini.length c.nc, .slice c.fa c.fns.length c.fc] 26 (0, 0)) := by
  rw [Below.heap_alloc _ _ _ (by simp)]
  exact heap_alloc_new w _
def Cds (X : World) (b : Nat) (c : PC) : Prop := X.cell? ⟨b, 0, none⟩ = some (.slice c.ga c.gl.length c.gc) ∧ X.cell? ⟨b, 1, none⟩ = some (.slice c.na c.ini.length c.nc) ∧ X.cell? ⟨b, 2, none⟩ = some (.slice c.fa c.fns.length c.fc)
theorem Cds.keep {X Y : World} {b : Nat} {c : PC} (h : Cds X b c) (q : Q X Y) : Cds Y b c := ⟨cell_keep q h.1, cell_keep q h.2.1, cell_keep q h.2.2⟩
theorem cds_box (w : World) (c : PC) : Cds (bxC w c) w.heap.size c := (bxC_at (Q.refl _)).three
abbrev st3 (z : World) (b : Nat) (a : PC) : World := ((z.setCell ⟨b, 0, none⟩ (.slice a.ga a.gl.length a.gc)).setCell ⟨b, 1, none⟩ (.slice a.na a.ini.length a.nc)).setCell ⟨b, 2, none⟩ (.slice a.fa a.fns.length a.fc)
theorem st3_frx (z : World) (b : Nat) (a : PC) : FrX b z (st3 z b a) := FrX.set (p := ⟨b, 2, none⟩) (FrX.set (p := ⟨b, 1, none⟩) (FrX.set (p := ⟨b, 0, none⟩) (FrX.of_q (Q.refl z)) (Or.inl rfl) _) (Or.inl rfl) _) (Or.inl rfl) _

set_option maxRecDepth 100000 in
theorem run_bad (w : World) (c : PC) (fault : Bool) (hcok : c.ok w) (hv : ¬ validP c = 0) : Calls Try.prog 8 #[c.v, .bool fault] w fun e w' => e = .returned (.tuple #[.agg zeroC, .int .i64 (validP c)]) ∧ Q w w' := by
  have VA := hideIt (valid_any (bxZ (bxC w c)) c (hcok.keep (((Q.refl w).alloc _).alloc _)))
  have B1 := hideIt (bz_out w c)
  have d2 : (validP c != 0) = true := by simpa using hv
  generalize validP c = v at *
  clear hcok hv
  go_enter Try.func8, Try.ntmps8
  go_wp2_with (first | (go_at_call 16; refine VA.out.mono ?_; rintro e x ⟨rfl, q⟩; have HQ := hideIt q; have b1 := (q.block (w.heap.size + 1) (by simp)).trans B1.out; have v0 := cell_of_block b1 0; have v1 := cell_of_block b1 1; have v2 := cell_of_block b1 2; have f0 := fun j : Nat => free_of_block b1 j; clear q b1) | fail)
  exact bodyPost_ret (v := .tuple #[.agg zeroC, .int .i64 v]) (by simp [results, Try.results8, go_sem, v0, v1, v2]) rfl ⟨rfl, by
    have hq := (((Q.refl w).alloc _).alloc _).trans HQ.out
    have hle : w.heap.size ≤ w.heap.size + 1 := Nat.le_succ _
    exact ((hq.set hle _).set hle _).set hle _⟩

set_option maxRecDepth 100000 in
set_option maxHeartbeats 4000000 in
theorem run_good (w : World) (c : PC) (fault : Bool) (hcok : c.ok w) (hv : validP c = 0) (hl : c.fns.length ≤ 20) (hn : codeN c ≤ 400) :
    Calls Try.prog 8 #[c.v, .bool fault] w fun e w' => ∃ A : PC, e = .returned (.tuple #[A.v, .int .i64 0]) ∧ EvC A (inlC fault c) ∧ CodeM w.heap.size w' A ∧ Q w w' := by
  have VA := hideIt (valid_any (bxZ (bxC w c)) c (hcok.keep (((Q.refl w).alloc _).alloc _)))
  obtain ⟨hvc, -, -, fl, hfl, -⟩ := Dn.valid_vc hcok hv
  rw [hv] at VA
  have CP := hideIt (fun (y : World) (hy : Q (bxZ (bxC w c)) y) => copy_any y c (hcok.keep ((((Q.refl w).alloc _).alloc _).trans hy)))
  have B1 : Hid (∀ y, Q (bxZ (bxC w c)) y → y.heap[w.heap.size + 1]? = some (.cells zeroC 26 (0, 0))) := fun y hy => (hy.block _ (by simp)).trans (bz_out w c)
  have B0 : Hid (∀ y, Q (bxZ (bxC w c)) y → y.heap[w.heap.size]? = some (.cells #[.slice c.ga c.gl.length c.gc, .slice c.na c.ini.length c.nc, .slice c.fa c.fns.length c.fc] 26 (0, 0))) := fun y hy => (hy.block _ (by simp; omega)).trans (bz_code w c)
  have qB : Hid (Q w (bxZ (bxC w c))) := ((Q.refl w).alloc _).alloc _
  have HLN : Hid (∀ a : PC, EvC a c → decide ((20 : Int) < (a.fns.length : Int)) = false ∧ IntKind.i64.wrap (codeN a) = codeN c ∧ decide ((10000 : Int) < codeN c) = false) := fun a ev => by
    have h0 : 0 ≤ codeN c := by have := cnt_le (List.mem_of_getElem? hfl); omega
    rw [codeN_z ev, ev.fns.len]
    exact ⟨decide_eq_false (by omega), by rw [IntKind.wrap_i64]; omega, decide_eq_false (by omega)⟩
  have CNT : Hid (∀ (y z : World) (a : PC), Q (bxZ (bxC w c)) y → EvC a c → CodeL y.heap.size z a → Calls Try.prog 18 #[a.v] (st3 z w.heap.size a) fun e w' => e = .returned (.int .i64 (codeN c)) ∧ Q (st3 z w.heap.size a) w') := fun y z a hy ev cl => by
    have hol : w.heap.size + 1 < y.heap.size := (Array.getElem?_eq_some_iff.1 (B1.out y hy)).1
    have := count_any _ a (cl.frx (by omega) (st3_frx z w.heap.size a)).ok
    rw [(HLN.out a ev).2.1] at this
    exact this
  have BX : Hid (∀ (y z v : World) (a : PC), Q (bxZ (bxC w c)) y → Q y z → Q (st3 z w.heap.size a) v → Cds v w.heap.size a) := fun y z v a hy hz hv => by
    have e : (st3 z w.heap.size a).heap[w.heap.size]? = some (.cells #[.slice a.ga a.gl.length a.gc, .slice a.na a.ini.length a.nc, .slice a.fa a.fns.length a.fc] 26 (0, 0)) := (block_setCell (block_setCell (block_setCell (B0.out z (hy.trans hz)) _) _) _).trans (by simp)
    have e2 := heap_keep hv e
    exact ⟨(cell_of_block e2 0).trans rfl, (cell_of_block e2 1).trans rfl, (cell_of_block e2 2).trans rfl⟩
  have HFN : Hid (∀ k f, c.fns[k]? = some f → fnP c k f = true) := hvc.fn
  have HCL : Hid (∀ f ∈ c.fns, cntS f.parts ≤ 400) := fun f hf => by have := cnt_le hf; omega
  have HNE : Hid (c.fns ≠ []) := fun e => by rw [e] at hfl; cases hfl
  have HL := hideIt hl
  clear hcok hv hvc hl hn hfl
  go_enter Try.func8, Try.ntmps8
  go_wp2_with (first
    | (go_at_call 16; refine VA.out.mono ?_; rintro e y ⟨rfl, q⟩; have HQ := hideIt q; have b0 := B0.out y q; have v0 := cell_of_block b0 0; have v1 := cell_of_block b0 1; have v2 := cell_of_block b0 2; clear q b0)
    | (go_at_call 17; refine Calls.mono (CP.out _ HQ.out) ?_; rintro e z ⟨a, rfl, ev, cl, q⟩; have HE := hideIt ev; have HC := hideIt cl; have HZ := hideIt (HQ.out.trans q); have HYZ := hideIt q; obtain ⟨hd1, -, hd2⟩ := HLN.out a ev; have b0 := B0.out z (HQ.out.trans q); have u0 := cell_of_block b0 0; have u1 := cell_of_block b0 1; have u2 := cell_of_block b0 2; have uf := fun j : Nat => free_of_block b0 j; clear ev cl q b0 v0 v1 v2)
    | (go_at_call 18; refine Calls.mono (CNT.out y z a HQ.out HE.out HC.out) ?_; rintro e v ⟨rfl, q⟩; have HV := hideIt q; obtain ⟨t0, t1, t2⟩ := BX.out y z v a HQ.out HYZ.out q; clear q u0 u1 u2 uf)
    | fail)
  have hol : w.heap.size + 1 < y.heap.size := (Array.getElem?_eq_some_iff.1 (B1.out y HQ.out)).1
  have CL : CodeL y.heap.size v a := (HC.out.frx (by omega) (st3_frx z w.heap.size a)).frx (G := w.heap.size) (by omega) (FrX.of_q HV.out)
  have hne : a.fns ≠ [] := fun e => by
    have := HE.out.fns.len
    rw [e] at this
    exact HNE.out (List.eq_nil_of_length_eq_zero this.symm)
  have hzm : a.fns.map zF = c.fns.map zF := evl_map (g := zF) (fun _ _ => evf_z) HE.out.fns
  have hfna : ∀ k f, a.fns[k]? = some f → fnP a k f = true := fun k f hk => by
    obtain ⟨f0, hf0⟩ := get_of_lt (l := c.fns) (k := k) (by rw [← HE.out.fns.len]; exact (List.getElem?_eq_some_iff.1 hk).1)
    rw [fnP_z (c := c) (d := a) HE.out.gl hzm k (evf_z (HE.out.fns.each k f f0 hk hf0))]
    exact HFN.out k f0 hf0
  have hpne : ∀ f ∈ a.fns, f.parts ≠ [] := fun f hf => by
    obtain ⟨k, hk⟩ := List.getElem?_of_mem hf
    exact (fn_head (hfna k f hk)).2.2.2
  have hpnc : ∀ f ∈ c.fns, f.parts ≠ [] := fun f hf => by
    obtain ⟨k, hk⟩ := List.getElem?_of_mem hf
    exact (fn_head (HFN.out k f hk)).2.2.2
  have hca : ∀ f ∈ a.fns, cntS f.parts ≤ 400 := fun f hf => by
    obtain ⟨k, hk⟩ := List.getElem?_of_mem hf
    obtain ⟨f0, hf0⟩ := get_of_lt (l := c.fns) (k := k) (by rw [← HE.out.fns.len]; exact (List.getElem?_eq_some_iff.1 hk).1)
    have e := parts_z (evf_z (HE.out.fns.each k f f0 hk hf0))
    have := HCL.out f0 (List.mem_of_getElem? hf0)
    rw [← cntS_zP, e, cntS_zP]
    exact this
  have hla : a.fns.length ≤ 20 := by rw [HE.out.fns.len]; exact HL.out
  obtain ⟨FA, efa, hFlo, hFsz, hc0⟩ := cpy_of CL (Q.refl v) hne hpne
  have hfns : Fns v (some ⟨FA, 0, none⟩) a.fns := by rw [← efa]; exact CL.fn.at'
  have HBD := hideIt (bodies_any v FA 0 a.fc a.fns hfns (by omega) (fun f hf => by have := hca f hf; omega) (fun f hf hs => by
    obtain ⟨k, hk⟩ := List.getElem?_of_mem hf
    exact small_rp (hfna k f hk) hs))
  have HSL : Hid (∀ b, SA FA a.fns 0 b → b < v.heap.size) := fun b hb => SA.lt hc0 hb
  have HCLv := hideIt CL
  have HFNA := hideIt hfna
  have HPN := hideIt hpne
  have HPC := hideIt hpnc
  have HCA := hideIt hca
  have HEF := hideIt efa
  have HNA := hideIt hne
  have HBXv : Hid (Cds v w.heap.size a) := BX.out y z v a HQ.out HYZ.out HV.out
  have HP1v : Hid (v.heap[w.heap.size + 1]? = some (.cells zeroC 26 (0, 0))) := heap_keep HV.out ((st3_frx z w.heap.size a).heap (B1.out z HZ.out) (by omega))
  have HQV : Hid (Q w v) := ((st3_frx z w.heap.size a).q (qB.out.trans (HQ.out.trans HYZ.out)) (Nat.le_refl _)).trans HV.out
  have HFLO : Hid (y.heap.size ≤ FA) := hFlo
  rw [efa]
  clear t0 t1 t2 hd1 hd2 hzm hfna hpne hpnc hca hfns efa hne CL hc0 VA CP B1 B0 qB HLN CNT BX HFN HCL HNE HL HC HZ HYZ HV HQ
  generalize hlo : y.heap.size = lo at *
  clear hlo
  refine HBD.out.mono ?_
  rintro e V ⟨pv, rfl, hB⟩
  obtain ⟨FA', efa', -, -, hcV⟩ := cpy_of HCLv.out hB.q HNA.out HPN.out
  rw [HEF.out] at efa'
  injection efa' with efa'
  injection efa' with efa'
  subst efa'
  have HBI := hideIt hB
  have HCV := hideIt hcV
  have HCds : Hid (∀ k G W, RS V lo FA a.fns fault k G W → W.cell? ⟨w.heap.size, 2, none⟩ = some (.slice (some ⟨FA, 0, none⟩) a.fns.length a.fc)) := fun k G W h => by
    have h1 := (HBXv.out.keep HBI.out.q).2.2
    rw [HEF.out] at h1
    refine h.fs.cell h1 (fun hS => ?_)
    rcases hS with e | ⟨i, f, -, hi, hf⟩
    · have := HFLO.out; dsimp only at e; omega
    · obtain ⟨P, e, -, h2, -⟩ := HCV.out.pb i f hi
      rw [hf] at e; injection e with e; injection e with e
      dsimp only at e; omega
  have HCD3 : Hid (∀ k G W, RS V lo FA a.fns fault k G W → W.cell? ⟨w.heap.size, 0, none⟩ = some (.slice a.ga a.gl.length a.gc) ∧ W.cell? ⟨w.heap.size, 1, none⟩ = some (.slice a.na a.ini.length a.nc) ∧ W.cell? ⟨w.heap.size, 2, none⟩ = some (.slice (some ⟨FA, 0, none⟩) a.fns.length a.fc) ∧ W.heap[w.heap.size + 1]? = some (.cells zeroC 26 (0, 0))) := fun k G W h => by
    have hno : ∀ b, b < lo → ¬ SB FA a.fns k b := fun b hb hS => by
      rcases hS with e | ⟨i, f, -, hi, hf⟩
      · have := HFLO.out; omega
      · obtain ⟨P, e, -, h2, -⟩ := HCV.out.pb i f hi
        rw [hf] at e; injection e with e; injection e with e
        omega
    have h1 := HBXv.out.keep HBI.out.q
    exact ⟨h.fs.cell h1.1 (hno _ (by dsimp only; omega)), h.fs.cell h1.2.1 (hno _ (by dsimp only; omega)), HCds.out k G W h, h.fs.heap (heap_keep HBI.out.q HP1v.out) (hno _ hol)⟩
  have R0 : Hid (RS V lo FA a.fns fault 0 a.fns V) := RS.start HCV.out
  have t2 := HCds.out _ _ _ R0.out
  have hlen : a.fns.length ≤ 9223372036854775807 := by omega
  clear hB hcV
  go_wp2_with (fail)
  go_loopw [34] (fun i wr => ∃ (k : Nat) (G : List PF), i = .int .i64 (k : Int) ∧ k ≤ a.fns.length ∧ Hid (RS V lo FA a.fns fault k G wr)) (fun i _ => a.fns.length - (intOf i).toNat)
  case atStart => exact ⟨0, a.fns, rfl, Nat.zero_le _, R0⟩
  case round =>
    obtain ⟨k, G, rfl, hk, HR⟩ := hrel
    have t2 := HCds.out _ _ _ HR.out
    by_cases hlt : k < a.fns.length
    · obtain ⟨f, hf⟩ := get_of_lt hlt
      obtain ⟨Pb, epa, hb1, hb2, hb3, hb4, hb5, hb6, hb7⟩ := HCV.out.pb k f hf
      have hfm := List.mem_of_getElem? hf
      have hcf := HCA.out f hfm
      have hhd := fn_head (HFNA.out k f hf)
      have hle := len_cnt f.parts
      have hfok := (HCV.out.fn k f hf _ (HR.out.fs.sub fun _ => SB.sx)).ok
      have HTK := hideIt (takes_any _ FA (k * 4) f (HR.out.at' ((HR.out.old k (Nat.le_refl _)).trans hf)) hfok (by omega))
      have HDO : Hid (∀ yy, Q wr yy → Calls Try.prog 21 #[.pointer (some ⟨FA, k * 4, none⟩), .slice (some ⟨v.heap.size, 0, none⟩) a.fns.length a.fns.length, .bool fault] yy fun e w' => e = .returned (.tuple #[]) ∧ (takesP f = true → ∃ G', RS V lo FA a.fns fault (k + 1) G' w')) := fun yy q => by
        have hR := HR.out.q q
        have hbb := RS.bods (W := yy) hR HCV.out hf epa HBI.out HSL.out (by omega)
        have hx := RS.cx (bod := .slice (some ⟨v.heap.size, 0, none⟩) a.fns.length a.fns.length) hR HCV.out hf epa hhd.2.2.2
        refine (doCalls_any (cxOf yy lo FA k Pb f (.slice (some ⟨v.heap.size, 0, none⟩) a.fns.length a.fns.length) fault a.fns) hx rfl (hR.f0 HCV.out hf epa) (hR.beg HCV.out hf epa (by omega)) k (bsP a.fns) hbb (fun p hp => bsP_rdy HFNA.out hf hp) (by dsimp only; omega) (by dsimp only; omega)).mono ?_
        rintro e w' ⟨rfl, h1, h2, h3, h4⟩
        refine ⟨rfl, fun ht => hR.take HCV.out hf epa hhd.2.2.2 ht ?_ h1 ?_ ?_⟩
        · have := HBI.out.q.size; have := HFLO.out; omega
        · dsimp only at h2; omega
        · dsimp only at h3 h4; exact ⟨h3, by omega⟩
      have HSK := hideIt (fun yy (q : Q wr yy) (ht : takesP f = false) => (HR.out.q q).skip HCV.out hf ht)
      have hkl : (k : Int) < (a.fns.length : Int) := by omega
      obtain ⟨tk, htk⟩ : ∃ tk, takesP f = tk := ⟨_, rfl⟩
      rw [htk] at HTK HDO HSK
      clear hf hfm hcf hhd hle hfok htk epa hb1 hb2 hb3 hb4 hb5 hb6 hb7
      cases tk with
      | false =>
        have HSK2 := hideIt (fun yy (q : Q wr yy) => HSK.out yy q rfl)
        clear HSK HDO
        go_wp2_with (first | (go_at_call 20; refine HTK.out.mono ?_; rintro e y ⟨rfl, qy⟩; have QY := hideIt qy; clear qy) | fail)
        go_roundw
        case rel => exact ⟨k + 1, G, by go_num, hlt, hideIt (HSK2.out _ QY.out)⟩
        case measure => simp [intOf]; omega
      | true =>
        have HDO2 := hideIt (fun yy (q : Q wr yy) => (HDO.out yy q).mono (fun e w' h => And.intro h.1 (h.2 rfl)))
        clear HSK HDO
        go_wp2_with (first | (go_at_call 20; refine HTK.out.mono ?_; rintro e y ⟨rfl, qy⟩; have QY := hideIt qy; clear qy) | (go_at_call 21; refine (HDO2.out _ QY.out).mono ?_; rintro e u ⟨rfl, G2, hg2⟩; have HG2 := hideIt hg2; clear hg2) | fail)
        go_roundw
        case rel => exact ⟨k + 1, G2, by go_num, hlt, HG2⟩
        case measure => simp [intOf]; omega
    · have hke : k = a.fns.length := by omega
      rw [hke] at HR ⊢
      clear hke hk hlt
      obtain ⟨s0, s1, s2, p1⟩ := HCD3.out _ _ _ HR.out
      clear t2
      have z0 := cell_of_block p1 0
      have z1 := cell_of_block p1 1
      have z2 := cell_of_block p1 2
      have zf := fun j : Nat => free_of_block p1 j
      have hrc := RS.code HR.out HCLv.out HBI.out.q HNA.out HPN.out HEF.out HFLO.out
      have hev := inlC_z HE.out HPN.out HPC.out hrc.2
      have FIN : Hid (∀ W, W = ((wr.setCell ⟨w.heap.size + 1, 0, none⟩ (.slice a.ga a.gl.length a.gc)).setCell ⟨w.heap.size + 1, 1, none⟩ (.slice a.na a.ini.length a.nc)).setCell ⟨w.heap.size + 1, 2, none⟩ (.slice (some ⟨FA, 0, none⟩) a.fns.length a.fc) → ∃ A : PC, Ending.returned (.tuple #[.agg #[.slice a.ga a.gl.length a.gc, .slice a.na a.ini.length a.nc, .slice (some ⟨FA, 0, none⟩) a.fns.length a.fc], .int .i64 0]) = .returned (.tuple #[A.v, .int .i64 0]) ∧ EvC A (inlC fault c) ∧ CodeM w.heap.size W A ∧ Q w W) := fun W hW => by
        have q0 : Q w V := HQV.out.trans HBI.out.q
        have fr : Fs (fun b => b = w.heap.size + 1) wr W := by
          rw [hW]
          refine ⟨rfl, rfl, rfl, by simp, fun b hb hn => ?_⟩
          rw [Below.heap_setCell _ _ _ _ hn, Below.heap_setCell _ _ _ _ hn, Below.heap_setCell _ _ _ _ hn]
        refine ⟨⟨a.gl, a.ini, G, a.ga, a.gc, a.na, a.nc, a.fa, a.fc⟩, ?_, hev, (hrc.1.low fr (fun b hb e => by omega)).mono (by omega), ?_⟩
        · show _ = Ending.returned (.tuple #[.agg #[.slice a.ga a.gl.length a.gc, .slice a.na a.ini.length a.nc, .slice a.fa G.length a.fc], .int .i64 0])
          rw [HR.out.len, HEF.out]
        · have f1 := HR.out.fs
          refine ⟨fr.os.trans (f1.os.trans q0.os), fr.tape.trans (f1.tape.trans q0.tape), fr.output.trans (f1.output.trans q0.output), Nat.le_trans q0.size (Nat.le_trans f1.size fr.size), fun b hb => ?_⟩
          have hbV := Nat.lt_of_lt_of_le hb q0.size
          rw [fr.block b (Nat.lt_of_lt_of_le hbV f1.size) (by omega), f1.block b hbV (fun hS => ?_), q0.block b hb]
          rcases hS with e | ⟨i, f, -, hi, hf⟩
          · have := HFLO.out; omega
          · obtain ⟨P, e, -, h2, -⟩ := HCV.out.pb i f hi
            rw [hf] at e; injection e with e; injection e with e
            omega
      clear hrc hev p1
      go_wp2_with (fail)
      exact bodyPost_ret (v := .tuple #[.agg #[.slice a.ga a.gl.length a.gc, .slice a.na a.ini.length a.nc, .slice (some ⟨FA, 0, none⟩) a.fns.length a.fc], .int .i64 0]) (by simp [results, Try.results8, go_sem, z0, z1, z2]) rfl (FIN.out _ rfl)
end Go.Proofs.Ytnaflfpkkbfnfaa.In

namespace Go.Proofs.Ytnaflfpkkbfnfaa.In
open Go.RowKit
set_option linter.unusedVariables false

theorem heap_new (X : World) (o : Obj) : (X.alloc o).heap[X.heap.size]? = some o := heap_alloc_new X _
theorem heap_at {X : World} {o : Obj} {k : Nat} (h : k = X.heap.size) : (X.alloc o).heap[k]? = some o := by rw [h]; exact heap_new X o
theorem heap_old {X : World} {k : Nat} {o : Obj} (o' : Obj) (h : X.heap[k]? = some o) : (X.alloc o').heap[k]? = some o := by
  rw [Below.heap_alloc X o' k ((Array.getElem?_eq_some_iff.1 h).1)]
  exact h
theorem sok_no (z : Nat) : sok z none 0 0 := ⟨Nat.le_refl _, by decide, fun _ => rfl, by omega⟩
theorem lst_no {α : Type} {sz : Nat} {P : Nat → Nat → α → Prop} {a : Option Addr} : Lst sz P a [] := fun k x e => by simp at e
theorem lst_blk {α : Type} {sz g : Nat} {P : Nat → Nat → α → Prop} {l : List α} (h : ∀ k x, l[k]? = some x → P g (k * sz) x) : Lst sz P (some ⟨g, 0, none⟩) l := fun k x e => ⟨g, 0, rfl, by rw [Nat.zero_add]; exact h k x e⟩
theorem i64_zero : I64 0 := by unfold I64; omega

/-! ### The example -/
def xi : List PI := [⟨2, 4, 2, 0, 1, 0, [], none, 0⟩]
def yi (x y : Int) (g : Nat) : List PI := [⟨20, 0, 0, 0, 0, x, [], none, 0⟩, ⟨20, 0, 1, 0, 0, y, [], none, 0⟩, ⟨32, 0, 2, 0, 0, 0, [0, 1], some ⟨g, 0, none⟩, 2⟩, ⟨33, 0, 0, 2, 0, 0, [], none, 0⟩]
def xP (b : Nat) : PP := ⟨xi, true, 2, 0, 0, some ⟨b + 1, 0, none⟩, 1⟩
def yP (x y : Int) (b : Nat) : PP := ⟨yi x y (b + 3), true, 2, 0, 0, some ⟨b + 4, 0, none⟩, 4⟩
def xF (b : Nat) : PF := ⟨2, 3, [], [xP b], none, 0, some ⟨b + 6, 0, none⟩, 1⟩
def yF (x y : Int) (b : Nat) : PF := ⟨0, 3, [], [yP x y b], none, 0, some ⟨b + 7, 0, none⟩, 1⟩
def eC (x y : Int) (b : Nat) : PC := ⟨[], [], [xF b, yF x y b], none, 0, none, 0, some ⟨b + 8, 0, none⟩, 2⟩
theorem eC_valid (x y : Int) (b : Nat) : validP (eC x y b) = 0 := rfl
theorem eC_ok {w : World} {x y : Int} {b : Nat} (hx : I64 x) (hy : I64 y)
    (h1 : w.heap[b + 1]? = some (.cells (xi.flatMap PI.cells).toArray 41 (0, 0)))
    (h3 : w.heap[b + 3]? = some (.cells (([0, 1] : List Int).map (Value.int .i64)).toArray 3 (0, 0)))
    (h4 : w.heap[b + 4]? = some (.cells ((yi x y (b + 3)).flatMap PI.cells).toArray 41 (0, 0)))
    (h6 : w.heap[b + 6]? = some (.cells ([xP b].flatMap PP.cells).toArray 39 (0, 0)))
    (h7 : w.heap[b + 7]? = some (.cells ([yP x y b].flatMap PP.cells).toArray 39 (0, 0)))
    (h8 : w.heap[b + 8]? = some (.cells ([xF b, yF x y b].flatMap PF.cells).toArray 35 (0, 0))) : (eC x y b).ok w := by
  have z := i64_zero
  have z1 : I64 1 := by unfold I64; omega
  have z2 : I64 2 := by unfold I64; omega
  have z3 : I64 3 := by unfold I64; omega
  have z4 : I64 4 := by unfold I64; omega
  have s1 : ∀ g z k, k ≤ 4 → z ≤ 64 → sok z (some ⟨g, 0, none⟩) k k := fun g z k hk hz => ⟨Nat.le_refl _, by unfold maxLen; omega, (fun h => by cases h), by have : k * z ≤ 4 * 64 := Nat.mul_le_mul hk hz; omega⟩
  refine ⟨sok_no _, lst_no, sok_no _, lst_no, s1 _ _ _ (show 2 ≤ 4 by decide) (by decide), lst_blk fun k f hf => ⟨flat_block PF.len h8 hf, ?_⟩⟩
  have hf' := List.mem_of_getElem? hf
  simp [eC] at hf'
  rcases hf' with rfl | rfl
  · refine ⟨z2, z3, sok_no _, lst_no, s1 _ _ _ (show 1 ≤ 4 by decide) (by decide), lst_blk fun k p hp => ⟨flat_block PP.len h6 hp, ?_⟩⟩
    have hp' := List.mem_of_getElem? hp
    simp [xF] at hp'
    subst hp'
    refine ⟨z2, z, z, s1 _ _ _ (show 1 ≤ 4 by decide) (by decide), lst_blk fun k i hi => ⟨flat_block PI.len h1 hi, ?_⟩⟩
    have hi' := List.mem_of_getElem? hi
    simp [xP, xi] at hi'
    subst hi'
    exact ⟨by simp, by simp, z2, z, z1, z, sok_no _, lst_no⟩
  · refine ⟨z, z3, sok_no _, lst_no, s1 _ _ _ (show 1 ≤ 4 by decide) (by decide), lst_blk fun k p hp => ⟨flat_block PP.len h7 hp, ?_⟩⟩
    have hp' := List.mem_of_getElem? hp
    simp [yF] at hp'
    subst hp'
    refine ⟨z2, z, z, s1 _ _ _ (show 4 ≤ 4 by decide) (by decide), lst_blk fun k i hi => ⟨flat_block PI.len h4 hi, ?_⟩⟩
    have hi' := List.mem_of_getElem? hi
    simp [yP, yi] at hi'
    rcases hi' with rfl | rfl | rfl | rfl
    · exact ⟨by simp, by simp, z, z, z, hx, sok_no _, lst_no⟩
    · exact ⟨by simp, by simp, z1, z, z, hy, sok_no _, lst_no⟩
    · exact ⟨by simp, by simp, z2, z, z, z, s1 _ _ _ (show 2 ≤ 4 by decide) (by decide), ints_block h3 (fun n hn => by simp at hn; rcases hn with rfl | rfl; exact z; exact z1)⟩
    · exact ⟨by simp, by simp, z, z2, z, z, sok_no _, lst_no⟩
set_option maxRecDepth 100000 in
set_option maxHeartbeats 1000000 in
theorem example_any (x y : Int) (hx : I64 x) (hy : I64 y) (w : World) : Calls Try.prog 13 #[.int .i64 x, .int .i64 y] w fun e w' => ∃ b, e = .returned (eC x y b).v ∧ (eC x y b).ok w' ∧ Q w w' := by
  go_enter Try.func13, Try.ntmps13
  go_wp2
  refine bodyPost_ret (v := (eC x y w.heap.size).v) (by simp [results, Try.results13, go_sem, eC]) rfl ?_
  refine ⟨_, rfl, eC_ok hx hy (heap_old _ (heap_old _ (heap_old _ (heap_old _ (heap_old _ (heap_old _ (heap_old _ (heap_at (by simp)))))))))
    (heap_old _ (heap_old _ (heap_old _ (heap_old _ (heap_old _ (heap_at (by simp)))))))
    (heap_old _ (heap_old _ (heap_old _ (heap_old _ (heap_at (by simp))))))
    (heap_old _ (heap_old _ (heap_at (by simp))))
    (heap_old _ (heap_at (by simp)))
    (heap_at (by simp)), ?_⟩
  exact (((((((((Q.refl w).alloc _).alloc _).alloc _).alloc _).alloc _).alloc _).alloc _).alloc _).alloc _

/-! ### What comes of it -/
theorem x_read (b : Nat) (c : Nat → Int) : readP (xP b) c = 3 := by
  have h : readP (xP b) c = bits .or .u32 (bits .or .u32 (bits .andNot .u32 (bits .or .u32 0 4) 4) 1) 2 := by
    kernel_rfl
  rw [h]; decide
theorem x_lfp (b : Nat) : Lfp (xF b).parts (fun n => if n = 0 then 3 else 0) := by
  refine ⟨fun n => ?_, fun k p hk => ?_, fun c hc hs k hk => ?_⟩
  · show U32 (if n = 0 then 3 else 0)
    split
    · exact ⟨by decide, by decide⟩
    · exact U32.zero
  · match k, hk with
    | 0, hk => injection hk with hk; subst hk; exact x_read _ _
    | k + 1, hk => simp [xF] at hk
  · have : k = 0 := by simp [xF] at hk; exact hk
    subst this
    have h := hs 0 (xP b) rfl
    have e : readP (xP b) c = 3 := x_read _ _
    rw [e] at h
    exact h
theorem x_un (b : Nat) : unP (xF b) = [] := by
  rw [unP_eq (x_lfp b) (by simp [xF])]
  rfl
theorem x_bs (x y : Int) (b : Nat) : bsP (eC x y b).fns = [some ⟨zF (xF b), []⟩, none] := by
  have h1 : smallP (xF b) = true := rfl
  have h2 : smallP (yF x y b) = false := rfl
  show [bdOf (xF b), bdOf (yF x y b)] = _
  unfold bdOf
  rw [h1, h2, x_un]
  rfl
def yo (fault : Bool) (x y : Int) : List PI := [⟨20, 0, 0, 0, 0, x, [], none, 0⟩, ⟨20, 0, 1, 0, 0, y, [], none, 0⟩, mvI 3 (if fault then 1 else 0), mvI 4 (if fault then 0 else 1), ⟨2, 4, 5, 3, 4, 0, [], none, 0⟩, mvI 2 5, ⟨33, 0, 0, 2, 0, 0, [], none, 0⟩]
def oC (fault : Bool) (x y : Int) : PC := ⟨[], [], [⟨2, 3, [], [⟨xi, true, 2, 0, 0, none, 0⟩], none, 0, none, 0⟩, ⟨0, 6, [], [⟨yo fault x y, true, 2, 0, 0, none, 0⟩], none, 0, none, 0⟩], none, 0, none, 0, none, 0⟩
theorem e_out (fault : Bool) (x y : Int) (b : Nat) : inlC fault (eC x y b) = oC fault x y := by
  unfold inlC
  rw [x_bs]
  cases fault <;> kernel_rfl
end Go.Proofs.Ytnaflfpkkbfnfaa.In

namespace Go.Proofs.Ytnaflfpkkbfnfaa.In
open Go.RowKit
set_option linter.unusedVariables false

/-! ### A run hangs on no address -/
theorem insR_z (cf : CallT) (fuel keep : Nat) : ∀ (l : List PI) (ρ : Rg) (s : St), insR cf fuel keep (l.map zI) ρ s = insR cf fuel keep l ρ s
  | [], _, _ => rfl
  | x :: l, ρ, s => by
    have e : exI cf fuel keep (zI x) ρ s = exI cf fuel keep x ρ s := rfl
    rw [List.map_cons]
    unfold insR
    rw [e]
    cases exI cf fuel keep x ρ s with
    | ok ρ' s' => exact insR_z cf fuel keep l ρ' s'
    | over t sp s' => rfl
theorem partsR_z (cf : CallT) (fuel keep : Nat) (f : PF) : ∀ (g at' : Nat) (ρ : Rg) (s : St), partsR cf fuel keep (zF f) g at' ρ s = partsR cf fuel keep f g at' ρ s
  | 0, _, _, _ => rfl
  | g + 1, at', ρ, s => by
    unfold partsR
    have e : (zF f).parts[at']? = (f.parts[at']?).map zP := by show (f.parts.map zP)[at']? = _; rw [List.getElem?_map]
    rw [e]
    cases f.parts[at']? with
    | none => rfl
    | some p =>
      have hi : insR cf fuel keep (zP p).ins ρ s = insR cf fuel keep p.ins ρ s := insR_z cf fuel keep p.ins ρ s
      simp only [Option.map_some]
      rw [hi]
      cases insR cf fuel keep p.ins ρ s with
      | over t sp s' => rfl
      | ok ρ' s' =>
        dsimp only
        rw [partsR_z cf fuel keep f g]
        rfl
theorem callR_z (c d : PC) (h : d.fns.map zF = c.fns.map zF) (fuel : Nat) : ∀ g, callR d fuel g = callR c fuel g
  | 0 => rfl
  | g + 1 => by
    funext k ar s
    have ih := callR_z c d h fuel g
    unfold callR
    rw [ih]
    have e : (d.fns[k]?).map zF = (c.fns[k]?).map zF := by
      have := congrArg (·[k]?) h
      simpa [List.getElem?_map] using this
    cases h1 : d.fns[k]? with
    | none => cases h2 : c.fns[k]? with
      | none => rfl
      | some f => rw [h1, h2] at e; cases e
    | some f' => cases h2 : c.fns[k]? with
      | none => rw [h1, h2] at e; cases e
      | some f =>
        rw [h1, h2] at e
        injection e with e
        have es : f'.slots = f.slots := (z_evf e).slots
        dsimp only
        rw [es]
        cases allocs f.slots s.bs with
        | none => rfl
        | some bs' =>
          dsimp only
          rw [← partsR_z _ _ _ f', e, partsR_z]
theorem runP_ev {c d : PC} (h : EvC d c) (fuel : Nat) : runP d fuel = runP c fuel := by
  have hz : d.fns.map zF = c.fns.map zF := evl_map (g := zF) (fun _ _ => evf_z) h.fns
  unfold runP start
  rw [callR_z c d hz, h.gl, h.ini, h.fns.len]

/-! ### The example's -/
theorem sub8 {a b : Int} (ha : -128 ≤ a ∧ a ≤ 127) (hb : -128 ≤ b ∧ b ≤ 127) : Burin.do1 2 4 a b = a - b ∧ Burin.do2 2 4 a b = 0 := by
  have h1 : Burin.wr 4 a = a := by unfold Burin.wr; simp; omega
  have h2 : Burin.wr 4 b = b := by unfold Burin.wr; simp; omega
  have h3 : Burin.wr 4 (a - b) = a - b := by unfold Burin.wr; simp; omega
  have h4 : Burin.fit 4 (a - b) = true := by unfold Burin.fit; rw [show Burin.low 4 = -2147483648 from rfl, show Burin.high 4 = 2147483647 from rfl]; simp; omega
  unfold Burin.do1 Burin.do2 Burin.keep1 Burin.keep2
  simp [h1, h2, h3, h4]
theorem o_runs (fault : Bool) (k : Nat) {x y : Int} (hx : -128 ≤ x ∧ x ≤ 127) (hy : -128 ≤ y ∧ y ≤ 127) : ocP (runP (oC fault x y) (k + 9)) = ⟨true, if fault then y - x else x - y, 0, false, 8, [if fault then y - x else x - y]⟩ := by
  obtain ⟨a1, a2⟩ := sub8 hx hy
  obtain ⟨b1, b2⟩ := sub8 hy hx
  cases fault
  · simp [runP, callR, oC, start, allocs, partsR, insR, exI, yo, mvI, reck1, reck2, rg, setR, St.up, a1, a2, ocP]
  · simp [runP, callR, oC, start, allocs, partsR, insR, exI, yo, mvI, reck1, reck2, rg, setR, St.up, b1, b2, ocP]
theorem o_run (fault : Bool) {x y : Int} (hx : -128 ≤ x ∧ x ≤ 127) (hy : -128 ≤ y ∧ y ≤ 127) : ocP (runP (oC fault x y) 2000) = ⟨true, if fault then y - x else x - y, 0, false, 8, [if fault then y - x else x - y]⟩ := o_runs fault 1991 hx hy
theorem o_valid (fault : Bool) (x y : Int) : validP (oC fault x y) = 0 := by
  cases fault <;> kernel_rfl
end Go.Proofs.Ytnaflfpkkbfnfaa.In
