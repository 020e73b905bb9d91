/-
 The statement FlowDoes where the code is great or not right: its walk over the program; what is asked of what comes of right code; the conditions: the code lies in memory.
 The statement FlowDoes where the code is right: its walk over the program; the conditions: the code lies in memory, and is of a size that is looked at.
-/
import Derived.Test.YtphknepblchkdaaKFlMc
import Derived.Test.YtphknepblchkdaaKFlKb
import Derived.BigQuiet
namespace Go.Proofs.Ytphknepblchkdaa.Fl
open Go.RowKit
open Go.Proofs.Ytphknepblchkdaa.In (zI zP zF zI_zI zP_zP cntS cntS_fnN len_cnt)
set_option linter.unusedVariables false

set_option maxRecDepth 100000 in
set_option maxHeartbeats 1000000 in
theorem does_few (c : PC) (w : World) (hcok : c.ok w) (hf : fewP c = false) : Calls Try.prog 5 #[c.v] w fun e w' => e = .returned (.bool true) ∧ Below w.heap.size w w' := by
 have HB : Hid (∀ X, Q (bxC w c) X → Cds X w.heap.size c) := fun X h => (cds_box w c).keep h
 have qB := hideIt (bxC_q w c)
 have CA : Hid (∀ X, Calls Try.prog 7 #[] X fun e w' => e = .returned (.bool true) ∧ Q X w') := fun X => awake_any X
 have CF : Hid (∀ X, Q (bxC w c) X → Calls Try.prog 8 #[c.v] X fun e w' => e = .returned (.bool false) ∧ Q X w') := fun X h => by have := few_any X c (hcok.keep ((bxC_q w c).trans h)); rw [hf] at this; exact this
 generalize hBB : bxC w c = B at *
 have HBB := hideIt hBB
 clear hcok hBB hf
 go_enter Try.func5, Try.ntmps5
 go_wp2_with (fail)
 rw [show w.alloc (.cells #[.slice c.ga c.gl.length c.gc, .slice c.na c.ini.length c.nc, .slice c.fa c.fns.length c.fc] 26) = B from HBB.out]
 go_wp2_with (first
  | (go_at_call 7; first
    | (refine Calls.mono (CA.out y) ?_; rintro e z ⟨rfl, q1⟩; have HZ := hideIt (HY.out.trans q1); clear q1)
    | (refine Calls.mono (CA.out _) ?_; rintro e x ⟨rfl, q1⟩; have HX := hideIt q1; obtain ⟨s1, s2, s3⟩ := HB.out x q1; clear q1))
  | (go_at_call 8; refine Calls.mono (CF.out _ HX.out) ?_; rintro e y ⟨rfl, q1⟩; have HY := hideIt (HX.out.trans q1); clear q1 s1 s2 s3)
  | fail)
 go_ret
 exact ⟨rfl, qB.out.trans HZ.out⟩

set_option maxRecDepth 100000 in
set_option maxHeartbeats 1000000 in
theorem does_bad (c : PC) (w : World) (hcok : c.ok w) (hf : fewP c = true) (hv : ¬ validP c = 0) : Calls Try.prog 5 #[c.v] w fun e w' => e = .returned (.bool true) ∧ Below w.heap.size w w' := by
 have HB : Hid (∀ X, Q (bxC w c) X → Cds X w.heap.size c) := fun X h => (cds_box w c).keep h
 have qB := hideIt (bxC_q w c)
 have CA : Hid (∀ X, Calls Try.prog 7 #[] X fun e w' => e = .returned (.bool true) ∧ Q X w') := fun X => awake_any X
 have CF : Hid (∀ X, Q (bxC w c) X → Calls Try.prog 8 #[c.v] X fun e w' => e = .returned (.bool true) ∧ Q X w') := fun X h => by have := few_any X c (hcok.keep ((bxC_q w c).trans h)); rw [hf] at this; exact this
 have CV : Hid (∀ X, Q (bxC w c) X → Calls Try.prog 10 #[c.v] X fun e w' => e = .returned (.int .i64 (validP c)) ∧ Q X w') := fun X h => rvalid_any X c (hcok.keep ((bxC_q w c).trans h))
 have d2 : (validP c != 0) = true := by simpa using hv
 generalize validP c = v at *
 generalize hBB : bxC w c = B at *
 have HBB := hideIt hBB
 clear hcok hBB hf hv
 go_enter Try.func5, Try.ntmps5
 go_wp2_with (fail)
 rw [show w.alloc (.cells #[.slice c.ga c.gl.length c.gc, .slice c.na c.ini.length c.nc, .slice c.fa c.fns.length c.fc] 26) = B from HBB.out]
 go_wp2_with (first
  | (go_at_call 7; first
    | (have hh := HZ; clear hh; refine Calls.mono (CA.out z) ?_; rintro e u ⟨rfl, q1⟩; have HU := hideIt (HZ.out.trans q1); clear q1)
    | (refine Calls.mono (CA.out _) ?_; rintro e x ⟨rfl, q1⟩; have HX := hideIt q1; obtain ⟨s1, s2, s3⟩ := HB.out x q1; clear q1))
  | (go_at_call 8; refine Calls.mono (CF.out _ HX.out) ?_; rintro e y ⟨rfl, q1⟩; have HY := hideIt (HX.out.trans q1); clear q1 s1 s2 s3; obtain ⟨s1, s2, s3⟩ := HB.out y HY.out)
  | (go_at_call 10; refine Calls.mono (CV.out _ HY.out) ?_; rintro e z ⟨rfl, q1⟩; have HZ := hideIt (HY.out.trans q1); clear q1 s1 s2 s3)
  | fail)
 go_ret
 exact ⟨rfl, qB.out.trans HU.out⟩

theorem knwP_z (p : PP) : knwP (zP p) = knwP p := by
 unfold knwP
 have e : lastI (zP p).ins (zP p).cond = (lastI p.ins p.cond).map zI := lastI_z p.ins p.cond
 rw [e]
 cases lastI p.ins p.cond <;> rfl
theorem DoesP.ev {G H : List PP} (h : DoesP G) (e : H.map zP = G.map zP) : DoesP H := by
 have hl : H.length = G.length := by simpa using congrArg List.length e
 have at' : ∀ (j : Nat) (p : PP), H[j]? = some p → ∃ q, G[j]? = some q ∧ zP p = zP q := fun j p hp => by
  have := congrArg (·[j]?) e
  simp only [List.getElem?_map, hp] at this
  cases hq : G[j]? with
  | none => rw [hq] at this; cases this
  | some q => rw [hq] at this; exact ⟨q, rfl, Option.some.inj this⟩
 have mem : ∀ p ∈ H, ∃ q ∈ G, zP p = zP q := fun p hp => by
  obtain ⟨j, hj⟩ := List.getElem?_of_mem hp
  obtain ⟨q, hq, e⟩ := at' j p hj
  exact ⟨q, List.mem_of_getElem? hq, e⟩
 refine ⟨fun p hp => ?_, fun j hj => ?_, fun p hp hb => ?_, fun p hp hb => ?_, fun j p hp he hc hi => ?_⟩
 ·obtain ⟨q, hq, e⟩ := mem p hp
  have ev := z_evp e
  have := h.wy q hq
  rw [hl]
  exact ⟨fun h1 => by rw [ev.next]; exact this.nx (by rw [← ev.e]; exact h1), fun h1 h2 => by rw [ev.els]; exact this.el (by rw [← ev.e]; exact h1) (by rw [← ev.cond]; exact h2)⟩
 ·have := rch_z.2 (h.rch j (by omega))
  rw [← e] at this
  exact rch_z.1 this
 ·obtain ⟨q, hq, e⟩ := mem p hp
  have ev := z_evp e
  rw [ev.next, ev.els]
  refine h.br q hq ?_
  unfold brP at hb ⊢
  rw [← ev.e, ← ev.cond]; exact hb
 ·obtain ⟨q, hq, e⟩ := mem p hp
  have ev := z_evp e
  rw [← knwP_z, e, knwP_z]
  refine h.kn q hq ?_
  unfold brP at hb ⊢
  rw [← ev.e, ← ev.cond]; exact hb
 ·obtain ⟨q, hq, e⟩ := at' j p hp
  have ev := z_evp e
  rw [ev.next]
  refine h.rd j q hq (by rw [← ev.e]; exact he) (by rw [← ev.cond]; exact hc) ?_
  have : p.ins.map zI = q.ins.map zI := congrArg PP.ins e
  rw [hi] at this
  exact List.map_eq_nil_iff.1 this.symm
/-- What is asked of a function of what comes of right, small code. -/
structure DF (f f0 : PF) : Prop where
 params : f.params = f0.params
 regs : f.regs = f0.regs
 slots : f.slots.length = f0.slots.length
 len : f.parts.length ≤ f0.parts.length
 pos : 0 < f.parts.length
 small : f0.parts.length ≤ 400
 does : DoesP f.parts
theorem does_fact {c A : PC} {w : World} (hok : c.ok w) (hv : validP c = 0) (hn : codeN c ≤ 400) (ev : EvC A (floC false c)) {i : Nat} {f f0 : PF} (h1 : A.fns[i]? = some f) (h0 : c.fns[i]? = some f0) : DF f f0 := by
 have hfn := (Dn.valid_vc hok hv).1.fn i f0 h0
 have h2 : (floC false c).fns[i]? = some (floF false f0) := by
  show (c.fns.map _)[i]? = _
  rw [List.getElem?_map, h0]; rfl
 have e := ev.fns.each i f _ h1 h2
 have ez := evf_z e
 have ep : f.parts.map zP = (floL false (f0.parts.map zP)).map zP := congrArg PF.parts ez
 have hne := (fn_head hfn).2.2.2
 have hw : WyL (f0.parts.map zP) := fun p hp => by
  obtain ⟨p0, h0, rfl⟩ := List.mem_map.1 hp
  rw [List.length_map]
  have := wyL_of hfn p0 h0
  exact ⟨this.nx, this.el⟩
 obtain ⟨d1, d2, d3⟩ := flo_does hw (by rw [List.length_map]; exact List.length_pos_iff.2 hne)
 have hl : f.parts.length = (floL false (f0.parts.map zP)).length := by simpa using congrArg List.length ep
 have hc := cnt_le (List.mem_of_getElem? h0)
 have hlc := len_cnt f0.parts
 rw [List.length_map] at d3
 exact ⟨e.params, e.regs, by rw [e.slots]; rfl, by omega, by omega, by omega, d1.ev ep⟩
end Go.Proofs.Ytphknepblchkdaa.Fl

namespace Go.Proofs.Ytphknepblchkdaa.Fl
open Go.RowKit
open Go.Proofs.Ytphknepblchkdaa.In (zI zP zF zI_zI zP_zP cntS cntS_fnN len_cnt)
set_option linter.unusedVariables false

set_option maxRecDepth 100000 in
set_option maxHeartbeats 8000000 in
theorem does_good (c : PC) (w : World) (hcok : c.ok w) (hf : fewP c = true) (hsz : codeN c ≤ 1099511627776) (hv : validP c = 0) : Calls Try.prog 5 #[c.v] w fun e w' => e = .returned (.bool true) ∧ Below w.heap.size w w' := by
 have HB : Hid (∀ X, Q (bxC w c) X → Cds X w.heap.size c) := fun X h => (cds_box w c).keep h
 have HC : Hid (∀ X, Q (bxC w c) X → c.ok X) := fun X h => hcok.keep ((bxC_q w c).trans h)
 have qB := hideIt (bxC_q w c)
 have hfit := few_fit hf hsz
 have CA : Hid (∀ X, Calls Try.prog 7 #[] X fun e w' => e = .returned (.bool true) ∧ Q X w') := fun X => awake_any X
 have CF : Hid (∀ X, Q (bxC w c) X → Calls Try.prog 8 #[c.v] X fun e w' => e = .returned (.bool true) ∧ Q X w') := fun X h => by have := few_any X c (hcok.keep ((bxC_q w c).trans h)); rw [hf] at this; exact this
 have CV : Hid (∀ X, Q (bxC w c) X → Calls Try.prog 10 #[c.v] X fun e w' => e = .returned (.int .i64 0) ∧ Q X w') := fun X h => by have := rvalid_any X c (hcok.keep ((bxC_q w c).trans h)); rw [hv] at this; exact this
 have CR : Hid (∀ X, Q (bxC w c) X → Calls Try.prog 9 #[c.v, .bool false] X fun e w' => ∃ A : PC, e = .returned (.tuple #[A.v, .int .i64 0]) ∧ EvC A (floC false c) ∧ A.ok w' ∧ Q X w') := fun X h => (run_good X c false (hcok.keep ((bxC_q w c).trans h)) hv hfit).mono fun e w' ⟨A, a1, a2, a3, a4⟩ => ⟨A, a1, a2, a3.ok, a4⟩
 have CW2 : Hid (∀ (X : World) (A : PC), EvC A (floC false c) → A.ok X → Calls Try.prog 10 #[A.v] X fun e w' => e = .returned (.int .i64 0) ∧ Q X w') := fun X A h1 h2 => by
  have := rvalid_any X A h2
  rw [valid_ev hcok h1 hv hfit] at this
  exact this
 have DFF : Hid (∀ (A : PC), EvC A (floC false c) → ∀ (i : Nat) (f f0 : PF), A.fns[i]? = some f → c.fns[i]? = some f0 → DF f f0) := fun A ev i f f0 h1 h0 => does_fact hcok hv hfit ev h1 h0
 have LEN : Hid (∀ A : PC, EvC A (floC false c) → A.fns.length = c.fns.length) := fun A ev => by rw [ev.fns.len]; show (c.fns.map _).length = _; simp
 generalize hBB : bxC w c = B at *
 have HBB := hideIt hBB
 clear hcok hBB hf hv hfit
 go_enter Try.func5, Try.ntmps5
 go_wp2_with (fail)
 rw [show w.alloc (.cells #[.slice c.ga c.gl.length c.gc, .slice c.na c.ini.length c.nc, .slice c.fa c.fns.length c.fc] 26) = B from HBB.out]
 go_wp2_with (first
  | (go_at_call 7; refine Calls.mono (CA.out _) ?_; rintro e x ⟨rfl, q1⟩; have HX := hideIt q1; obtain ⟨s1, s2, s3⟩ := HB.out x q1; clear q1)
  | (go_at_call 8; refine Calls.mono (CF.out _ HX.out) ?_; rintro e y0 ⟨rfl, q1⟩; have HY0 := hideIt (HX.out.trans q1); clear q1 s1 s2 s3; obtain ⟨s1, s2, s3⟩ := HB.out y0 HY0.out)
  | (go_at_call 9; refine Calls.mono (CR.out _ HY.out) ?_; rintro e y1 ⟨A, rfl, a1, a2, q1⟩; have EV := hideIt a1; have OK := hideIt a2; have HY1 := hideIt (HY.out.trans q1); have hln := hideIt ((LEN.out A a1).symm); have dl : ((A.fns.length : Int) != (c.fns.length : Int)) = false := (by rw [LEN.out A a1]; simp); clear q1 a1 a2 s1 s2 s3; have HD1 := hideIt (cds_box y1 A); have r3 := fun ob => cell_keep ((Q.refl y1).alloc ob) (HB.out y1 HY1.out).2.2)
  | (go_at_call 10; first
    | (have hh := HY1; clear hh; refine Calls.mono (CW2.out _ A EV.out (OK.out.keep ((Q.refl y1).alloc _))) ?_; rintro e W0 ⟨rfl, q1⟩; have HW := hideIt ((HY1.out.alloc _).trans q1); have DW := hideIt (HD1.out.keep q1); have OW := hideIt ((OK.out.keep ((Q.refl y1).alloc _)).keep q1); obtain ⟨t1, t2, t3⟩ := DW.out; clear q1 r3)
    | (refine Calls.mono (CV.out _ HY0.out) ?_; rintro e y ⟨rfl, q1⟩; have HY := hideIt (HY0.out.trans q1); clear q1 s1 s2 s3; obtain ⟨s1, s2, s3⟩ := HB.out y HY.out))
  | fail)
 have HCz : Hid (∀ z, Q W0 z → Cds z w.heap.size c ∧ c.ok z) := fun z h => ⟨HB.out z (HW.out.trans h), HC.out z (HW.out.trans h)⟩
 have hflen : A.fns.length ≤ 9223372036854775807 := OW.out.fsok.len
 have QF : Hid (Q w W0) := qB.out.trans HW.out
 have DFA : Hid (∀ (i : Nat) (f f0 : PF), A.fns[i]? = some f → c.fns[i]? = some f0 → DF f f0) := fun i f f0 h1 h0 => DFF.out A EV.out i f f0 h1 h0
 clear HB HC qB CA CF CV CR CW2 DFF EV HBB HX HY HY0 HY1 OK HW LEN t1 t2 t3 dl HD1
 go_loopw [5] (fun iv z => ∃ (i : Nat), iv = .int .i64 i ∧ i ≤ A.fns.length ∧ Hid (Q W0 z)) (fun iv _ => A.fns.length - (intOf iv).toNat)
 case atStart => exact ⟨0, rfl, by omega, Q.refl _⟩
 case round =>
  obtain ⟨i, rfl, hi, Q1⟩ := hrel
  generalize wr = z1 at *
  by_cases hlt1 : i < A.fns.length
  ·obtain ⟨f, hf⟩ := get_of_lt hlt1
   obtain ⟨f0, hf0⟩ := get_of_lt (l := c.fns) (k := i) (by rw [hln.out]; exact hlt1)
   obtain ⟨G, Go', hG, hfat⟩ := OW.out.fns i f hf
   obtain ⟨G0, Go0, hG0, hfat0⟩ := (HCz.out W0 (Q.refl _)).2.fns i f0 hf0
   have HD := hideIt (DFA.out i f f0 hf hf0)
   obtain ⟨pz, hpz⟩ := get_of_lt HD.out.pos
   obtain ⟨P, Po, epa, -⟩ := hfat.2.parts 0 pz hpz
   have DB : Hid (∀ z, Q W0 z → z.cell? ⟨y1.heap.size, 2, none⟩ = some (.slice (some ⟨G, Go', none⟩) A.fns.length A.fc) ∧ z.cell? ⟨w.heap.size, 2, none⟩ = some (.slice (some ⟨G0, Go0, none⟩) c.fns.length c.fc)) := fun z h => by
    have h1 := (DW.out.keep h).2.2
    have h2 := (HCz.out z h).1.2.2
    rw [hG] at h1
    rw [hG0] at h2
    exact ⟨h1, h2⟩
   have FF : Hid (∀ z, Q W0 z → (z.cell? ⟨G, Go' + i * 4, none⟩ = some (.int .i64 f.params) ∧ z.cell? ⟨G, Go' + i * 4 + 1, none⟩ = some (.int .i64 f.regs) ∧ z.cell? ⟨G, Go' + i * 4 + 2, none⟩ = some (.slice f.sa f.slots.length f.sc) ∧ z.cell? ⟨G, Go' + i * 4 + 3, none⟩ = some (.slice (some ⟨P, Po, none⟩) f.parts.length f.pc)) ∧ At z G0 (Go0 + i * 4) f0.cells) := fun z h => ⟨by have := (hfat.1.keep h).four; rw [epa] at this; exact this, hfat0.1.keep h⟩
   have FOK : Hid (∀ X, Q W0 X → f.ok X) := fun X h => hfat.2.keep h
   have RC : Hid (∀ X, Q W0 X → Calls Try.prog 14 #[.agg #[.int .i64 f.params, .int .i64 f.regs, .slice f.sa f.slots.length f.sc, .slice (some ⟨P, Po, none⟩) f.parts.length f.pc]] X fun e w' => ∃ I, e = .returned (.slice (some ⟨I, 0, none⟩) f.parts.length f.parts.length) ∧ w'.heap[I]? = some (.cells (Array.replicate f.parts.length (Value.bool true)) 4 (0, 0)) ∧ Q X w') := fun X h => by
    have := reached_law X f (hfat.2.keep h) HD.out.does.wy HD.out.pos (by have := HD.out.len; have := HD.out.small; omega) HD.out.does.rch
    rw [epa] at this
    exact this
   have RA : Hid (∀ (j : Nat) (p : PP), f.parts[j]? = some p → p.e = false → p.cond < 0 → p.ins = [] → ∀ X, Q W0 X → Calls Try.prog 16 #[.agg #[.int .i64 f.params, .int .i64 f.regs, .slice f.sa f.slots.length f.sc, .slice (some ⟨P, Po, none⟩) f.parts.length f.pc], .int .i64 (j : Int)] X fun e w' => e = .returned (.bool true) ∧ Q X w') := fun j p hj h1 h2 h3 X h => by
    have := round_any X f (hfat.2.keep h) j p hj h1 h2 h3 (HD.out.does.rd j p hj h1 h2 h3) (by have := HD.out.len; have := HD.out.small; omega)
    rw [epa] at this
    exact this
   have FP : Hid (∀ (j : Nat) (p : PP), f.parts[j]? = some p → ∀ z, Q W0 z → At z P (Po + j * 5) p.cells ∧ p.ok z) := fun j p hj z hz => by
    obtain ⟨P2, Po2, e2, h2⟩ := hfat.2.parts j p hj
    rw [epa] at e2
    injection e2 with e2
    injection e2 with e2 e3
    subst e2; subst e3
    exact ⟨h2.1.keep hz, h2.2.keep hz⟩
   have hplen : f.parts.length ≤ 9223372036854775807 := hfat.2.psok.len
   have hplen0 : f0.parts.length ≤ 9223372036854775807 := hfat0.2.psok.len
   have hslen : f.slots.length ≤ 9223372036854775807 := hfat.2.ssok.len
   have hslen0 : f0.slots.length ≤ 9223372036854775807 := hfat0.2.ssok.len
   have hil : (i : Int) < (A.fns.length : Int) := by omega
   have hil0 : (i : Int) < (c.fns.length : Int) := by rw [hln.out]; exact hil
   have dA : decide (f0.parts.length < f.parts.length) = false := decide_eq_false (by have := HD.out.len; omega)
   have dB : (f.regs != f0.regs) = false := by rw [HD.out.regs]; simp
   have dC : (f.params != f0.params) = false := by rw [HD.out.params]; simp
   have dD : ((f.slots.length : Int) != (f0.slots.length : Int)) = false := by rw [HD.out.slots]; simp
   have dE : ((f.parts.length : Int) == 0) = false := by have := HD.out.pos; rw [beq_eq_false_iff_ne]; omega
   obtain ⟨sl0, sl1⟩ := DB.out z1 Q1.out
   obtain ⟨⟨a0, a1, a2, a3⟩, -⟩ := FF.out z1 Q1.out
   clear hf hf0 hfat hfat0 hG hG0 hpz epa
   go_upto_region 10 with (fail)
   have BX1 : Hid ((z1.alloc (.cells #[.int .i64 f.params, .int .i64 f.regs, .slice f.sa f.slots.length f.sc, .slice (some ⟨P, Po, none⟩) f.parts.length f.pc] 44)).heap[z1.heap.size]? = some (.cells #[.int .i64 f.params, .int .i64 f.regs, .slice f.sa f.slots.length f.sc, .slice (some ⟨P, Po, none⟩) f.parts.length f.pc] 44 (0, 0))) := heap_alloc_new z1 _
   have Q2 : Hid (Q W0 (z1.alloc (.cells #[.int .i64 f.params, .int .i64 f.regs, .slice f.sa f.slots.length f.sc, .slice (some ⟨P, Po, none⟩) f.parts.length f.pc] 44))) := Q1.out.alloc _
   clear sl0 sl1 a0 a1 a2 a3
   generalize z1.alloc (.cells #[.int .i64 f.params, .int .i64 f.regs, .slice f.sa f.slots.length f.sc, .slice (some ⟨P, Po, none⟩) f.parts.length f.pc] 44) = z2 at BX1 Q2 ⊢
   generalize z1.heap.size = fb at BX1 ⊢
   have FX : Hid (∀ z, Q z2 z → z.cell? ⟨fb, 0, none⟩ = some (.int .i64 f.params) ∧ z.cell? ⟨fb, 1, none⟩ = some (.int .i64 f.regs) ∧ z.cell? ⟨fb, 2, none⟩ = some (.slice f.sa f.slots.length f.sc) ∧ z.cell? ⟨fb, 3, none⟩ = some (.slice (some ⟨P, Po, none⟩) f.parts.length f.pc)) := fun z h => by
    have hb := heap_keep h BX1.out
    exact ⟨(cell_of_block hb 0).trans rfl, (cell_of_block hb 1).trans rfl, (cell_of_block hb 2).trans rfl, (cell_of_block hb 3).trans rfl⟩
   obtain ⟨-, sl1⟩ := DB.out z2 Q2.out
   obtain ⟨b0, b1, b2, b3⟩ := (FF.out z2 Q2.out).2.four
   obtain ⟨e0, e1, e2, e3⟩ := FX.out z2 (Q.refl _)
   go_quiet (fail)
   clear sl1 b0 b1 b2 b3 e0 e1 e2 e3 dA dB dC dD dE
   have Q3 : Hid (Q W0 (z2.drewN nq)) := Q2.out.drewN _
   have QZ3 : Hid (Q z2 (z2.drewN nq)) := (Q.refl z2).drewN _
   generalize z2.drewN nq = z3 at Q3 QZ3 ⊢
   obtain ⟨e0, e1, e2, e3⟩ := FX.out z3 QZ3.out
   go_wp2_with (first | (go_at_call 14; refine Calls.mono (RC.out _ Q3.out) ?_; rintro e z4 ⟨I, rfl, hI, q4⟩; have HI := hideIt hI; have Q4 := hideIt (Q3.out.trans q4); have QZ4 := hideIt (QZ3.out.trans q4); clear hI q4 e0 e1 e2 e3) | fail)
   go_loopw [8] (fun jv z => ∃ (j : Nat), jv = .int .i64 j ∧ j ≤ f.parts.length ∧ Hid (Q z4 z)) (fun jv _ => f.parts.length - (intOf jv).toNat)
   case atStart => exact ⟨0, rfl, by omega, Q.refl _⟩
   case round =>
    obtain ⟨j, rfl, hj, Q5⟩ := hrel
    generalize wr = z5 at *
    obtain ⟨e0, e1, e2, e3⟩ := FX.out z5 (QZ4.out.trans Q5.out)
    by_cases hlt2 : j < f.parts.length
    ·obtain ⟨p, hp⟩ := get_of_lt hlt2
     obtain ⟨hpat, hpok⟩ := FP.out j p hp z5 (Q4.out.trans Q5.out)
     obtain ⟨c0, c1, c2, c3, c4⟩ := hpat.five
     have POK : Hid (∀ X, Q z5 X → p.ok X) := fun X h => hpok.keep h
     have hilen : p.ins.length ≤ 9223372036854775807 := hpok.sok.len
     have hjl : (j : Int) < (f.parts.length : Int) := by omega
     have hj0 : (0 : Int) ≤ (j : Int) := by omega
     have HPJ := hideIt hp
     clear hp hpat hpok
     go_upto_region 17 with (fail)
     have BX2 : Hid ((z5.alloc (.cells #[.slice p.ia p.ins.length p.ic, .bool p.e, .int .i64 p.cond, .int .i64 p.next, .int .i64 p.els] 47)).heap[z5.heap.size]? = some (.cells #[.slice p.ia p.ins.length p.ic, .bool p.e, .int .i64 p.cond, .int .i64 p.next, .int .i64 p.els] 47 (0, 0))) := heap_alloc_new z5 _
     have Q6 : Hid (Q z5 (z5.alloc (.cells #[.slice p.ia p.ins.length p.ic, .bool p.e, .int .i64 p.cond, .int .i64 p.next, .int .i64 p.els] 47))) := (Q.refl z5).alloc _
     clear c0 c1 c2 c3 c4 e0 e1 e2 e3
     generalize z5.alloc (.cells #[.slice p.ia p.ins.length p.ic, .bool p.e, .int .i64 p.cond, .int .i64 p.next, .int .i64 p.els] 47) = z6 at BX2 Q6 ⊢
     generalize z5.heap.size = pb at BX2 ⊢
     have PX : Hid (∀ z, Q z6 z → (z.cell? ⟨pb, 0, none⟩ = some (.slice p.ia p.ins.length p.ic) ∧ z.cell? ⟨pb, 1, none⟩ = some (.bool p.e) ∧ z.cell? ⟨pb, 2, none⟩ = some (.int .i64 p.cond) ∧ z.cell? ⟨pb, 3, none⟩ = some (.int .i64 p.next) ∧ z.cell? ⟨pb, 4, none⟩ = some (.int .i64 p.els)) ∧ z.cell? ⟨I, j, none⟩ = some (.bool true)) := fun z h => by
      have hb := heap_keep h BX2.out
      have hi := heap_keep (Q5.out.trans (Q6.out.trans h)) HI.out
      refine ⟨⟨(cell_of_block hb 0).trans rfl, (cell_of_block hb 1).trans rfl, (cell_of_block hb 2).trans rfl, (cell_of_block hb 3).trans rfl, (cell_of_block hb 4).trans rfl⟩, ?_⟩
      rw [cell_of_block hi j, Array.getElem?_replicate, if_pos hlt2]
     have KA : Hid (∀ X, Q z6 X → Calls Try.prog 15 #[.agg #[.slice p.ia p.ins.length p.ic, .bool p.e, .int .i64 p.cond, .int .i64 p.next, .int .i64 p.els]] X fun e w' => e = .returned (.bool (knwP p)) ∧ Q X w') := fun X h => known_any X p (POK.out X (Q6.out.trans h))
     have FXj : Hid (∀ z, Q z6 z → z.cell? ⟨fb, 0, none⟩ = some (.int .i64 f.params) ∧ z.cell? ⟨fb, 1, none⟩ = some (.int .i64 f.regs) ∧ z.cell? ⟨fb, 2, none⟩ = some (.slice f.sa f.slots.length f.sc) ∧ z.cell? ⟨fb, 3, none⟩ = some (.slice (some ⟨P, Po, none⟩) f.parts.length f.pc)) := fun z h => FX.out z (QZ4.out.trans (Q5.out.trans (Q6.out.trans h)))
     have RAj : Hid (p.e = false → p.cond < 0 → p.ins = [] → ∀ X, Q z6 X → Calls Try.prog 16 #[.agg #[.int .i64 f.params, .int .i64 f.regs, .slice f.sa f.slots.length f.sc, .slice (some ⟨P, Po, none⟩) f.parts.length f.pc], .int .i64 (j : Int)] X fun e w' => e = .returned (.bool true) ∧ Q X w') := fun h1 h2 h3 X h => RA.out j p HPJ.out h1 h2 h3 X (Q4.out.trans (Q5.out.trans (Q6.out.trans h)))
     have BR : Hid (brP p = true → p.next ≠ p.els ∧ knwP p = false) := fun h => ⟨HD.out.does.br p (List.mem_of_getElem? HPJ.out) h, HD.out.does.kn p (List.mem_of_getElem? HPJ.out) h⟩
     have FIN : Hid (∀ z, Q z6 z → Q z4 z) := fun z h => Q5.out.trans (Q6.out.trans h)
     obtain ⟨⟨q0, q1, q2, q3, q4⟩, qi⟩ := PX.out z6 (Q.refl _)
     obtain ⟨e0, e1, e2, e3⟩ := FXj.out z6 (Q.refl _)
     clear RA HPJ POK
     obtain ⟨jb, hjb⟩ : ∃ jb, decide ((0 : Int) < (j : Int)) = jb := ⟨_, rfl⟩
     have hjb2 : decide (0 < j) = jb := by rw [← hjb]; simp
     cases he : p.e with
     | true =>
      rw [he] at q1 KA PX
      clear BR RAj he
      cases jb
      all_goals go_wp2_with (fail)
      all_goals go_roundw
      all_goals first | exact ⟨j + 1, by go_num, by omega, hideIt (FIN.out _ (Q.refl _))⟩ | (simp [intOf] <;> omega)
     | false =>
      rw [he] at q1 KA PX RAj
      by_cases hc : p.cond < 0
      ·have hcd : decide ((0 : Int) ≤ p.cond) = false := decide_eq_false (by omega)
       have RB := hideIt (RAj.out rfl hc)
       clear BR RAj he hc
       cases jb with
       | false =>
        go_wp2_with (fail)
        go_roundw
        case rel => exact ⟨j + 1, by go_num, by omega, hideIt (FIN.out _ (Q.refl _))⟩
        case measure => simp [intOf] <;> omega
       | true =>
        cases hin : p.ins with
        | nil =>
         have RC2 := hideIt (RB.out hin)
         rw [hin] at q0 PX
         clear RB hin
         go_wp2_with (first | (go_at_call 16; refine Calls.mono (RC2.out _ (Q.refl _)) ?_; rintro e z7 ⟨rfl, q7⟩; have Q7 := hideIt q7; clear q7) | fail)
         go_roundw
         case rel => exact ⟨j + 1, by go_num, by omega, hideIt (FIN.out _ Q7.out)⟩
         case measure => simp [intOf] <;> omega
        | cons x l =>
         have hlen : ((p.ins.length : Int) == 0) = false := by rw [beq_eq_false_iff_ne, hin]; simp; omega
         have hlen2 : (p.ins.length == 0) = false := by rw [hin]; rfl
         clear RB hin
         go_wp2_with (fail)
         go_roundw
         case rel => exact ⟨j + 1, by go_num, by omega, hideIt (FIN.out _ (Q.refl _))⟩
         case measure => simp [intOf] <;> omega
      ·have hcd : decide ((0 : Int) ≤ p.cond) = true := decide_eq_true (by omega)
       obtain ⟨b1, b2⟩ := BR.out (by unfold brP; rw [he]; simp; omega)
       rw [b2] at KA
       have hne : (p.next == p.els) = false := by simpa using b1
       clear BR RAj he hc b1 b2
       cases jb
       all_goals go_wp2_with (first | (go_at_call 15; refine Calls.mono (KA.out _ (Q.refl _)) ?_; rintro e z7 ⟨rfl, q7⟩; have Q7 := hideIt q7; clear q0 q1 q2 q3 q4 qi; obtain ⟨⟨q0, q1, q2, q3, q4⟩, qi⟩ := PX.out z7 q7; clear q7) | fail)
       all_goals go_roundw
       all_goals first | exact ⟨j + 1, by go_num, by omega, hideIt (FIN.out _ Q7.out)⟩ | (simp [intOf] <;> omega)
    ·have hjl : ¬ (j : Int) < (f.parts.length : Int) := by omega
     go_wp2_with (fail)
     go_roundw
     case rel => exact ⟨i + 1, by go_num, by omega, hideIt (Q4.out.trans Q5.out)⟩
     case measure => simp [intOf] <;> omega
  ·have hil : ¬ (i : Int) < (A.fns.length : Int) := by omega
   have sl0 := (DW.out.keep Q1.out).2.2
   go_wp2_with (fail)
   go_ret
   exact ⟨rfl, QF.out.trans Q1.out⟩

theorem does_walk (c : PC) (w : World) (hcok : c.ok w) (hsz : codeN c ≤ 1099511627776) : Calls Try.prog 5 #[c.v] w fun e w' => e = .returned (.bool true) ∧ Below w.heap.size w w' := by
 cases hf : fewP c with
 | false => exact does_few c w hcok hf
 | true =>
  by_cases hv : validP c = 0
  ·exact does_good c w hcok hf hsz hv
  ·exact does_bad c w hcok hf hv
end Go.Proofs.Ytphknepblchkdaa.Fl
