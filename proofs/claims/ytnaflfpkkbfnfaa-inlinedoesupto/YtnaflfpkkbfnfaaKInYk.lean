/-
  Whether a function is small (small of the statements of layer 22): a contract over the program; the conditions: it lies in memory, and isn't too long to be counted.
  The statement InlineDoes: its walk over the program; the conditions: the code lies in memory.
  The statement InlineDoes: its walk over the program where the code is right; the conditions: the code lies in memory, and is of a size that is looked at.
-/
import Derived.Test.YtnaflfpkkbfnfaaKInYc
import Derived.Test.YtnaflfpkkbfnfaaKInYh
import Derived.BigQuiet
namespace Go.Proofs.Ytnaflfpkkbfnfaa.In
open Go.RowKit
set_option linter.unusedVariables false

def nTo (l : List PP) (k : Nat) : Nat := ((l.take k).map fun p => 1 + p.ins.length).sum
theorem nTo_succ {l : List PP} {k : Nat} {p : PP} (h : l[k]? = some p) : nTo l (k + 1) = nTo l k + (1 + p.ins.length) := by unfold nTo; rw [List.take_add_one, h]; simp
theorem nTo_all (l : List PP) : nTo l l.length = cntS l := by unfold nTo cntS; rw [List.take_length]
theorem nTo_le (l : List PP) : ∀ k, nTo l k ≤ cntS l := fun k => by
  unfold nTo cntS
  induction l generalizing k with
  | nil => simp
  | cons a l ih =>
    cases k with
    | zero => simp
    | succ k =>
      have := ih k
      simp only [List.take_succ_cons, List.map_cons, List.sum_cons]
      omega
set_option maxRecDepth 100000 in
set_option maxHeartbeats 4000000 in
theorem small22_any (w : World) (f : PF) (hok : f.ok w) (hs : cntS f.parts ≤ 2000000000000) : Calls Try.prog 11 #[.agg #[.int .i64 f.params, .int .i64 f.regs, .slice f.sa f.slots.length f.sc, .slice f.pa f.parts.length f.pc]] w fun e w' => e = .returned (.bool (smallP f)) ∧ Q w w' := by
  obtain ⟨B, hB⟩ : ∃ B, w.alloc (.cells #[.int .i64 f.params, .int .i64 f.regs, .slice f.sa f.slots.length f.sc, .slice f.pa f.parts.length f.pc] 35) = B := ⟨_, rfl⟩
  have qB : Q w B := by rw [← hB]; exact (Q.refl w).alloc _
  have bx : B.heap[w.heap.size]? = some (.cells #[.int .i64 f.params, .int .i64 f.regs, .slice f.sa f.slots.length f.sc, .slice f.pa f.parts.length f.pc] 35 (0, 0)) := by rw [← hB]; exact heap_alloc_new w _
  have HC := hideIt (fun (y : World) (hy : Q B y) => At.four (At.block (cs := f.cells) (heap_keep hy bx)))
  have hl := hok.psok.len
  have HSL : Hid (f.slots.length ≤ 9223372036854775807) := hok.ssok.len
  have HP := hideIt (fun (y : World) (hy : Q B y) => ((hok.keep qB).keep hy).parts)
  have CC := hideIt (fun (y : World) (hy : Q B y) => calls22_any y f ((hok.keep qB).keep hy) hs)
  have HQ := hideIt qB
  have HBB := hideIt hB
  have HN := hideIt (nTo_le f.parts)
  have HNA := hideIt (nTo_all f.parts)
  have e1 : (callsP f == 0) = ((callsP f : Int) == 0) := by
    by_cases e : callsP f = 0
    · rw [e]; rfl
    · have h1 : (callsP f == 0) = false := beq_false_of_ne e
      have h2 : ((callsP f : Int) == 0) = false := beq_false_of_ne (by omega)
      rw [h1, h2]
  have e2 : (f.slots.length == 0) = ((f.slots.length : Int) == 0) := by
    by_cases e : f.slots.length = 0
    · rw [e]; rfl
    · have h1 : (f.slots.length == 0) = false := beq_false_of_ne e
      have h2 : ((f.slots.length : Int) == 0) = false := beq_false_of_ne (by omega)
      rw [h1, h2]
  unfold smallP
  rw [e1, e2, cntS_fnN]
  obtain ⟨c0, c1, c2, c3⟩ := HC.out B (Q.refl B)
  have HS := hideIt hs
  clear e1 e2 hok qB bx hB
  go_enter Try.func11, Try.ntmps11
  go_wp2_with (fail)
  rw [HBB.out]
  clear c0 c1 c2 c3
  go_loopw [3, 4] (fun n i wr => ∃ (k : Nat), n = .int .i64 (nTo f.parts k : Int) ∧ i = .int .i64 k ∧ k ≤ f.parts.length ∧ Hid (Q B wr)) (fun _ i _ => f.parts.length - (intOf i).toNat)
  case atStart => exact ⟨0, rfl, rfl, Nat.zero_le _, hideIt (Q.refl B)⟩
  case round =>
    obtain ⟨k, rfl, rfl, hk, HQ1⟩ := hrel
    generalize wr = y at *
    obtain ⟨c0, c1, c2, c3⟩ := HC.out y HQ1.out
    by_cases hlt : k < f.parts.length
    · obtain ⟨p, hp⟩ := get_of_lt hlt
      obtain ⟨pb, po, ea, hat, hpo⟩ := HP.out y HQ1.out k p hp
      obtain ⟨p0, -, -, -, -⟩ := hat.five
      have hkl : (k : Int) < (f.parts.length : Int) := by omega
      have hn1 := HN.out (k + 1)
      have hns := nTo_succ hp
      have HNS := hideIt hns
      have hil := hpo.sok.len
      have c3' : y.cell? ⟨w.heap.size, 3, none⟩ = some (.slice (some ⟨pb, po, none⟩) f.parts.length f.pc) := by rw [← ea]; exact c3
      have hw1 : wrap64 (1 + (p.ins.length : Int)) = 1 + (p.ins.length : Int) := by unfold wrap64; omega
      have hw2 : wrap64 ((nTo f.parts k : Int) + (1 + (p.ins.length : Int))) = (nTo f.parts k : Int) + (1 + (p.ins.length : Int)) := by unfold wrap64; omega
      clear c0 c1 c2 c3 ea hat hpo hp hn1 hns
      generalize hcn : nTo f.parts k = cn at *
      go_wp2_with (fail)
      go_roundw
      case rel => exact ⟨k + 1, by rw [HNS.out]; go_num, by go_num, hlt, HQ1⟩
      case measure => simp [intOf]; omega
    · have ek : k = f.parts.length := by omega
      rw [ek, HNA.out]
      have hlt3 : ¬ (f.parts.length : Int) < (f.parts.length : Int) := by omega
      obtain ⟨b1, hb1⟩ : ∃ b1, ((callsP f : Int) == 0) = b1 := ⟨_, rfl⟩
      obtain ⟨b2, hb2⟩ : ∃ b2, decide ((cntS f.parts : Int) ≤ 10) = b2 := ⟨_, rfl⟩
      obtain ⟨b3, hb3⟩ : ∃ b3, decide (f.regs ≤ 20) = b3 := ⟨_, rfl⟩
      obtain ⟨b4, hb4⟩ : ∃ b4, ((f.slots.length : Int) == 0) = b4 := ⟨_, rfl⟩
      have HB1 := hideIt hb1
      have HB2 := hideIt hb2
      have HB3 := hideIt hb3
      have HB4 := hideIt hb4
      have CY := hideIt (CC.out y HQ1.out)
      clear HP HN CC ek hk hlt
      cases b1 <;> cases b2 <;> cases b3 <;> cases b4
      all_goals go_wp2_with (first | (go_at_call 10; refine CY.out.mono ?_; rintro e z ⟨rfl, qz⟩; have QZ := hideIt qz; obtain ⟨d0, d1, d2, d3⟩ := HC.out z (HQ1.out.trans qz); clear qz c0 c1 c2 c3) | fail)
      all_goals go_ret
      all_goals exact ⟨by rw [HB1.out, HB2.out, HB3.out, HB4.out]; rfl, HQ.out.trans (HQ1.out.trans QZ.out)⟩
end Go.Proofs.Ytnaflfpkkbfnfaa.In

namespace Go.Proofs.Ytnaflfpkkbfnfaa.In
open Go.RowKit
set_option linter.unusedVariables false

set_option maxRecDepth 100000 in
set_option maxHeartbeats 4000000 in
theorem does_few (c : PC) (w : World) (hcok : c.ok w) (hf : fewP c = false) : Calls Try.prog 3 #[c.v] w fun e w' => e = .returned (.bool true) ∧ Below w.heap.size w w' := by
  have HB : Hid (∀ X, Q (bxC w c) X → Cds X w.heap.size c) := fun X h => (cds_box w c).keep h
  have qB := hideIt (bxC_q w c)
  have CA : Hid (∀ X, Calls Try.prog 6 #[] X fun e w' => e = .returned (.bool true) ∧ Q X w') := fun X => awake_any X
  have CF : Hid (∀ X, Q (bxC w c) X → Calls Try.prog 7 #[c.v] X fun e w' => e = .returned (.bool false) ∧ Q X w') := fun X h => by have := few_any X c (hcok.keep ((bxC_q w c).trans h)); rw [hf] at this; exact this
  generalize hBB : bxC w c = B at *
  have HBB := hideIt hBB
  clear hcok hBB hf
  go_enter Try.func3, Try.ntmps3
  go_wp2_with (fail)
  rw [show w.alloc (.cells #[.slice c.ga c.gl.length c.gc, .slice c.na c.ini.length c.nc, .slice c.fa c.fns.length c.fc] 26) = B from HBB.out]
  go_wp2_with (first
    | (go_at_call 6; first
        | (refine Calls.mono (CA.out y) ?_; rintro e z ⟨rfl, q1⟩; have HZ := hideIt (HY.out.trans q1); clear q1)
        | (refine Calls.mono (CA.out _) ?_; rintro e x ⟨rfl, q1⟩; have HX := hideIt q1; obtain ⟨s1, s2, s3⟩ := HB.out x q1; clear q1))
    | (go_at_call 7; refine Calls.mono (CF.out _ HX.out) ?_; rintro e y ⟨rfl, q1⟩; have HY := hideIt (HX.out.trans q1); clear q1 s1 s2 s3)
    | fail)
  go_ret
  exact ⟨rfl, qB.out.trans HZ.out⟩

set_option maxRecDepth 100000 in
set_option maxHeartbeats 1000000 in
theorem does_bad (c : PC) (w : World) (hcok : c.ok w) (hf : fewP c = true) (hv : ¬ validP c = 0) : Calls Try.prog 3 #[c.v] w fun e w' => e = .returned (.bool true) ∧ Below w.heap.size w w' := by
  have HB : Hid (∀ X, Q (bxC w c) X → Cds X w.heap.size c) := fun X h => (cds_box w c).keep h
  have qB := hideIt (bxC_q w c)
  have CA : Hid (∀ X, Calls Try.prog 6 #[] X fun e w' => e = .returned (.bool true) ∧ Q X w') := fun X => awake_any X
  have CF : Hid (∀ X, Q (bxC w c) X → Calls Try.prog 7 #[c.v] X fun e w' => e = .returned (.bool true) ∧ Q X w') := fun X h => by have := few_any X c (hcok.keep ((bxC_q w c).trans h)); rw [hf] at this; exact this
  have CR : Hid (∀ X, Q (bxC w c) X → Calls Try.prog 8 #[c.v, .bool false] X fun e w' => e = .returned (.tuple #[.agg zeroC, .int .i64 (validP c)]) ∧ Q X w') := fun X h => run_bad X c false (hcok.keep ((bxC_q w c).trans h)) hv
  have CV : Hid (∀ X, Q (bxC w c) X → Calls Try.prog 9 #[c.v] X fun e w' => e = .returned (.int .i64 (validP c)) ∧ Q X w') := fun X h => rvalid_any X c (hcok.keep ((bxC_q w c).trans h))
  have d2 : (validP c != 0) = true := by simpa using hv
  have d3 : (validP c == validP c) = true := by simp
  generalize validP c = v at *
  generalize hBB : bxC w c = B at *
  have HBB := hideIt hBB
  clear hcok hBB hf hv
  go_enter Try.func3, Try.ntmps3
  go_wp2_with (fail)
  rw [show w.alloc (.cells #[.slice c.ga c.gl.length c.gc, .slice c.na c.ini.length c.nc, .slice c.fa c.fns.length c.fc] 26) = B from HBB.out]
  go_wp2_with (first
    | (go_at_call 6; refine Calls.mono (CA.out _) ?_; rintro e x ⟨rfl, q1⟩; have HX := hideIt q1; obtain ⟨s1, s2, s3⟩ := HB.out x q1; clear q1)
    | (go_at_call 7; refine Calls.mono (CF.out _ HX.out) ?_; rintro e y ⟨rfl, q1⟩; have HY := hideIt (HX.out.trans q1); clear q1 s1 s2 s3; obtain ⟨s1, s2, s3⟩ := HB.out y HY.out)
    | (go_at_call 8; refine Calls.mono (CR.out _ HY.out) ?_; rintro e z ⟨rfl, q1⟩; have HZ := hideIt (HY.out.trans q1); clear q1 s1 s2 s3; obtain ⟨s1, s2, s3⟩ := HB.out z HZ.out; have r1 := fun ob => cell_keep ((Q.refl z).alloc ob) s1; have r2 := fun ob => cell_keep ((Q.refl z).alloc ob) s2; have r3 := fun ob => cell_keep ((Q.refl z).alloc ob) s3; clear s1 s2 s3)
    | (go_at_call 9; first
        | (have hh := HU; clear hh; refine Calls.mono (CV.out _ HU.out) ?_; rintro e u2 ⟨rfl, q1⟩; have HU2 := hideIt (HU.out.trans q1); have b2 := heap_keep q1 BK.out; have t2' := cell_of_block b2 2; clear q1 b2 r1 r2 r3 t1)
        | (refine Calls.mono (CV.out _ (HZ.out.alloc _)) ?_; rintro e u ⟨rfl, q1⟩; have HU := hideIt ((HZ.out.alloc _).trans q1); have BK := hideIt ((q1.block z.heap.size (by simp)).trans (heap_new z _)); have t1 := cell_of_block BK.out 2; clear q1 r1 r2 r3; obtain ⟨r1, r2, r3⟩ := HB.out u HU.out))
    | fail)
  go_ret
  exact ⟨rfl, qB.out.trans HU2.out⟩

end Go.Proofs.Ytnaflfpkkbfnfaa.In

namespace Go.Proofs.Ytnaflfpkkbfnfaa.In
open Go.RowKit
set_option linter.unusedVariables false

/-- What is asked of what comes of right, small code. -/
theorem does_fact {c A : PC} {w : World} (hok : c.ok w) (hv : validP c = 0) (hf : fewP c = true) (hn : codeN c ≤ 400) (ev : EvC A (inlC false c)) {i : Nat} {f f0 : PF} (h1 : A.fns[i]? = some f) (h0 : c.fns[i]? = some f0) :
    f.params = f0.params ∧ (callsP f0 ≤ 10 → f0.parts.length ≤ 100 → ∀ p ∈ f.parts, ∀ x ∈ p.ins, x.op = 32 → 0 ≤ x.imm ∧ ∃ h, c.fns[x.imm.toNat]? = some h ∧ smallP h = false) := by
  have h2 : (inlC false c).fns[i]? = some (outF (bsP c.fns) false f0) := by
    show (c.fns.map _)[i]? = _
    rw [List.getElem?_map, h0]; rfl
  have e := evf_z (ev.fns.each i f _ h1 h2)
  refine ⟨(z_evf e).params.trans (by unfold outF; split <;> rfl), fun hc hp p hpm x hx ho => ?_⟩
  have hr : f0.regs ≤ 1000 := by
    unfold fewP at hf
    simp only [Bool.and_eq_true, List.all_eq_true, decide_eq_true_eq] at hf
    exact hf.1 f0 (List.mem_of_getElem? h0)
  have ht : takesP f0 = true := by
    unfold takesP
    rw [decide_eq_true hc, decide_eq_true hp, decide_eq_true hr]; rfl
  have ep : f.parts.map zP = (outF (bsP c.fns) false f0).parts.map zP := congrArg PF.parts e
  obtain ⟨q, hq, eq⟩ := List.mem_map.1 (show zP p ∈ (outF (bsP c.fns) false f0).parts.map zP by rw [← ep]; exact List.mem_map.2 ⟨p, hpm, rfl⟩)
  have ei : q.ins.map zI = p.ins.map zI := congrArg PP.ins eq
  obtain ⟨y, hy, ey⟩ := List.mem_map.1 (show zI x ∈ q.ins.map zI by rw [ei]; exact List.mem_map.2 ⟨x, hx, rfl⟩)
  have eo : y.op = x.op := by have := congrArg (fun z : PI => z.op) ey; exact this
  have em : y.imm = x.imm := by have := congrArg (fun z : PI => z.imm) ey; exact this
  have := inl_small hok hv hn h0 ht hq hy (by rw [eo]; exact ho)
  rwa [em] at this

set_option maxRecDepth 100000 in
set_option maxHeartbeats 8000000 in
theorem does_good (c : PC) (w : World) (hcok : c.ok w) (hf : fewP c = true) (hsz : codeN c ≤ 1099511627776) (hv : validP c = 0) : Calls Try.prog 3 #[c.v] w fun e w' => e = .returned (.bool true) ∧ Below w.heap.size w w' := by
  have HB : Hid (∀ X, Q (bxC w c) X → Cds X w.heap.size c) := fun X h => (cds_box w c).keep h
  have HC : Hid (∀ X, Q (bxC w c) X → c.ok X) := fun X h => hcok.keep ((bxC_q w c).trans h)
  have qB := hideIt (bxC_q w c)
  have hfit := few_fit hf hsz
  have CA : Hid (∀ X, Calls Try.prog 6 #[] X fun e w' => e = .returned (.bool true) ∧ Q X w') := fun X => awake_any X
  have CF : Hid (∀ X, Q (bxC w c) X → Calls Try.prog 7 #[c.v] X fun e w' => e = .returned (.bool true) ∧ Q X w') := fun X h => by have := few_any X c (hcok.keep ((bxC_q w c).trans h)); rw [hf] at this; exact this
  have CV : Hid (∀ X, Q (bxC w c) X → Calls Try.prog 9 #[c.v] X fun e w' => e = .returned (.int .i64 0) ∧ Q X w') := fun X h => by have := rvalid_any X c (hcok.keep ((bxC_q w c).trans h)); rw [hv] at this; exact this
  have CR : Hid (∀ X, Q (bxC w c) X → Calls Try.prog 8 #[c.v, .bool false] X fun e w' => ∃ A : PC, e = .returned (.tuple #[A.v, .int .i64 0]) ∧ EvC A (inlC false c) ∧ A.ok w' ∧ Q X w') := fun X h => (run_good X c false (hcok.keep ((bxC_q w c).trans h)) hv hfit.1 hfit.2).mono fun e w' ⟨A, a1, a2, a3, a4⟩ => ⟨A, a1, a2, a3.ok, a4⟩
  have CW2 : Hid (∀ (X : World) (A : PC), EvC A (inlC false c) → A.ok X → Calls Try.prog 9 #[A.v] X fun e w' => e = .returned (.int .i64 0) ∧ Q X w') := fun X A h1 h2 => by
    have := rvalid_any X A h2
    rw [(validP_ev h1).trans (inl_valid hcok hv hfit.2 false)] at this
    exact this
  have DF : Hid (∀ (A : PC), EvC A (inlC false c) → ∀ (i : Nat) (f f0 : PF), A.fns[i]? = some f → c.fns[i]? = some f0 → f.params = f0.params ∧ (callsP f0 ≤ 10 → f0.parts.length ≤ 100 → ∀ p ∈ f.parts, ∀ x ∈ p.ins, x.op = 32 → 0 ≤ x.imm ∧ ∃ h, c.fns[x.imm.toNat]? = some h ∧ smallP h = false)) := fun A ev i f f0 h1 h0 => does_fact hcok hv hf hfit.2 ev h1 h0
  have CN : Hid (∀ f ∈ c.fns, cntS f.parts ≤ 2000000000000) := fun f hf => by have := cnt_le hf; omega
  have LEN : Hid (∀ A : PC, EvC A (inlC false c) → A.fns.length = c.fns.length) := fun A ev => by rw [ev.fns.len]; show (c.fns.map _).length = _; simp
  generalize hBB : bxC w c = B at *
  have HBB := hideIt hBB
  clear hcok hBB hf hv hfit
  go_enter Try.func3, Try.ntmps3
  go_wp2_with (fail)
  rw [show w.alloc (.cells #[.slice c.ga c.gl.length c.gc, .slice c.na c.ini.length c.nc, .slice c.fa c.fns.length c.fc] 26) = B from HBB.out]
  go_wp2_with (first
    | (go_at_call 6; refine Calls.mono (CA.out _) ?_; rintro e x ⟨rfl, q1⟩; have HX := hideIt q1; obtain ⟨s1, s2, s3⟩ := HB.out x q1; clear q1)
    | (go_at_call 7; refine Calls.mono (CF.out _ HX.out) ?_; rintro e y ⟨rfl, q1⟩; have HY := hideIt (HX.out.trans q1); clear q1 s1 s2 s3; obtain ⟨s1, s2, s3⟩ := HB.out y HY.out)
    | (go_at_call 8; refine Calls.mono (CR.out _ HY.out) ?_; rintro e y1 ⟨A, rfl, a1, a2, q1⟩; have EV := hideIt a1; have OK := hideIt a2; have HY1 := hideIt (HY.out.trans q1); have hln := hideIt ((LEN.out A a1).symm); have dl : ((A.fns.length : Int) != (c.fns.length : Int)) = false := (by rw [LEN.out A a1]; simp); clear q1 a1 a2 s1 s2 s3; obtain ⟨s1, s2, s3⟩ := HB.out y1 HY1.out; have r1 := fun ob => cell_keep ((Q.refl y1).alloc ob) s1; have r2 := fun ob => cell_keep ((Q.refl y1).alloc ob) s2; have r3 := fun ob => cell_keep ((Q.refl y1).alloc ob) s3; clear s1 s2 s3)
    | (go_at_call 9; first
        | (have hh := HU; clear hh; refine Calls.mono (CW2.out _ A EV.out (OK.out.keep (((Q.refl y1).alloc _).trans QU.out))) ?_; rintro e W0 ⟨rfl, q1⟩; have HW := hideIt (HU.out.trans q1); have DW := hideIt (((cds_box y1 A).keep QU.out).keep q1); have OW := hideIt ((OK.out.keep (((Q.refl y1).alloc _).trans QU.out)).keep q1); clear t1 t2 t3; obtain ⟨t1, t2, t3⟩ := DW.out; obtain ⟨r1, r2, r3⟩ := HB.out W0 HW.out; clear q1)
        | (refine Calls.mono (CV.out _ (HY1.out.alloc _)) ?_; rintro e u ⟨rfl, q1⟩; have HU := hideIt ((HY1.out.alloc _).trans q1); have QU := hideIt q1; obtain ⟨t1, t2, t3⟩ := (cds_box y1 A).keep q1; clear q1 r1 r2 r3))
    | fail)
  have HCz : Hid (∀ z, Q W0 z → Cds z w.heap.size c ∧ c.ok z) := fun z h => ⟨HB.out z (HW.out.trans h), HC.out z (HW.out.trans h)⟩
  have hflen : A.fns.length ≤ 9223372036854775807 := OW.out.fsok.len
  have QF : Hid (Q w W0) := qB.out.trans HW.out
  have DFA : Hid (∀ (i : Nat) (f f0 : PF), A.fns[i]? = some f → c.fns[i]? = some f0 → f.params = f0.params ∧ (callsP f0 ≤ 10 → f0.parts.length ≤ 100 → ∀ p ∈ f.parts, ∀ x ∈ p.ins, x.op = 32 → 0 ≤ x.imm ∧ ∃ h, c.fns[x.imm.toNat]? = some h ∧ smallP h = false)) := fun i f f0 h1 h0 => DF.out A EV.out i f f0 h1 h0
  clear HB HC qB CA CF CV CR CW2 DF EV HBB HX HY HY1 OK HU QU HW LEN t1 t2 t3 r1 r2 r3 dl
  go_loopw [5] (fun iv z => ∃ (i : Nat), iv = .int .i64 i ∧ i ≤ A.fns.length ∧ Hid (Q W0 z)) (fun iv _ => A.fns.length - (intOf iv).toNat)
  case atStart => exact ⟨0, rfl, by omega, Q.refl _⟩
  case round =>
    obtain ⟨i, rfl, hi, Q1⟩ := hrel
    generalize wr = z1 at *
    by_cases hlt1 : i < A.fns.length
    · obtain ⟨f, hf⟩ := get_of_lt hlt1
      obtain ⟨f0, hf0⟩ := get_of_lt (l := c.fns) (k := i) (by rw [hln.out]; exact hlt1)
      obtain ⟨G, Go', hG, hfat⟩ := OW.out.fns i f hf
      obtain ⟨G0, Go0, hG0, hfat0⟩ := (HCz.out W0 (Q.refl _)).2.fns i f0 hf0
      obtain ⟨hpn, hsm⟩ := DFA.out i f f0 hf hf0
      have HSM := hideIt hsm
      have pn : (f.params != f0.params) = false := by rw [hpn]; simp
      have DB : Hid (∀ z, Q W0 z → z.cell? ⟨y1.heap.size, 2, none⟩ = some (.slice (some ⟨G, Go', none⟩) A.fns.length A.fc) ∧ z.cell? ⟨w.heap.size, 2, none⟩ = some (.slice (some ⟨G0, Go0, none⟩) c.fns.length c.fc)) := fun z h => by
        have h1 := (DW.out.keep h).2.2
        have h2 := (HCz.out z h).1.2.2
        rw [hG] at h1
        rw [hG0] at h2
        exact ⟨h1, h2⟩
      have FF : Hid (∀ z, Q W0 z → At z G (Go' + i * 4) f.cells ∧ At z G0 (Go0 + i * 4) f0.cells) := fun z h => ⟨hfat.1.keep h, hfat0.1.keep h⟩
      have CCf : Hid (∀ X, Q W0 X → Calls Try.prog 10 #[.agg #[.int .i64 f0.params, .int .i64 f0.regs, .slice f0.sa f0.slots.length f0.sc, .slice f0.pa f0.parts.length f0.pc]] X fun e w' => e = .returned (.int .i64 (callsP f0)) ∧ Q X w') := fun X h => calls22_any X f0 (hfat0.2.keep h) (CN.out f0 (List.mem_of_getElem? hf0))
      have FP := hideIt hfat.2.parts
      have hplen : f.parts.length ≤ 9223372036854775807 := hfat.2.psok.len
      have hplen0 : f0.parts.length ≤ 9223372036854775807 := hfat0.2.psok.len
      have hil : (i : Int) < (A.fns.length : Int) := by omega
      have hil0 : (i : Int) < (c.fns.length : Int) := by rw [hln.out]; exact hil
      have hFN : Hid (∀ (m : Nat) (h : PF), c.fns[m]? = some h → c.fa = some ⟨G0, Go0, none⟩ ∧ ∀ z, Q W0 z → At z G0 (Go0 + m * 4) h.cells ∧ h.ok z) := fun m h hm => by
        obtain ⟨G1, Go1, e1, h1⟩ := (HCz.out W0 (Q.refl _)).2.fns m h hm
        rw [hG0] at e1
        injection e1 with e1
        injection e1 with e1 e2
        subst e1; subst e2
        exact ⟨hG0, fun z hz => ⟨h1.1.keep hz, h1.2.keep hz⟩⟩
      obtain ⟨sl0, sl1⟩ := DB.out z1 Q1.out
      obtain ⟨a0, -, -, -⟩ := (FF.out z1 Q1.out).1.four
      obtain ⟨b0, -, -, -⟩ := (FF.out z1 Q1.out).2.four
      clear hf hf0 hfat hfat0 hG hG0 hpn hsm
      go_wp2_with (fail)
      go_quiet (fail)
      generalize hX1 : z1.drewN nq = z2 at *
      have Q2 : Hid (Q W0 z2) := by show Q W0 z2; rw [← hX1]; exact Q1.out.drewN _
      clear hX1 sl0 sl1 a0 b0
      obtain ⟨sl0, sl1⟩ := DB.out z2 Q2.out
      obtain ⟨b0, b1, b2, b3⟩ := (FF.out z2 Q2.out).2.four
      by_cases h10 : (10 : Int) < (callsP f0 : Int)
      · go_wp2_with (first | (go_at_call 10; refine Calls.mono (CCf.out _ Q2.out) ?_; rintro e z3 ⟨rfl, q3⟩; have Q3 := hideIt (Q2.out.trans q3); clear q3) | fail)
        go_roundw
        case rel => exact ⟨i + 1, by go_num, by omega, Q3⟩
        case measure => simp [intOf]; omega
      · by_cases h100 : (100 : Int) < (f0.parts.length : Int)
        · go_wp2_with (first | (go_at_call 10; refine Calls.mono (CCf.out _ Q2.out) ?_; rintro e z3 ⟨rfl, q3⟩; have Q3 := hideIt (Q2.out.trans q3); clear q3 sl0 sl1 b0 b1 b2 b3; obtain ⟨sl0, sl1⟩ := DB.out z3 Q3.out; obtain ⟨-, -, -, b3⟩ := (FF.out z3 Q3.out).2.four) | fail)
          go_roundw
          case rel => exact ⟨i + 1, by go_num, by omega, Q3⟩
          case measure => simp [intOf]; omega
        · have HS2 := hideIt (HSM.out (by omega) (by omega))
          go_wp2_with (first | (go_at_call 10; refine Calls.mono (CCf.out _ Q2.out) ?_; rintro e z3 ⟨rfl, q3⟩; have Q3 := hideIt (Q2.out.trans q3); clear q3 sl0 sl1 b0 b1 b2 b3; obtain ⟨sl0, sl1⟩ := DB.out z3 Q3.out; obtain ⟨-, -, -, b3⟩ := (FF.out z3 Q3.out).2.four) | fail)
          clear sl0 sl1 b3
          go_loopw [6] (fun jv z => ∃ (j : Nat), jv = .int .i64 j ∧ j ≤ f.parts.length ∧ Hid (Q W0 z)) (fun jv _ => f.parts.length - (intOf jv).toNat)
          case atStart => exact ⟨0, rfl, by omega, Q3⟩
          case round =>
            obtain ⟨j, rfl, hj, Q4⟩ := hrel
            generalize wr = z4 at *
            obtain ⟨sl0, -⟩ := DB.out z4 Q4.out
            obtain ⟨-, -, -, a3⟩ := (FF.out z4 Q4.out).1.four
            by_cases hlt2 : j < f.parts.length
            · obtain ⟨p, hp⟩ := get_of_lt hlt2
              obtain ⟨P, Po, hP, hpat⟩ := FP.out j p hp
              have HS3 := hideIt (HS2.out p (List.mem_of_getElem? hp))
              rw [hP] at a3
              obtain ⟨c0, c1, c2, c3, c4⟩ := (hpat.1.keep Q4.out).five
              have POK := hideIt hpat.2
              have hilen : p.ins.length ≤ 9223372036854775807 := hpat.2.sok.len
              have hjl : (j : Int) < (f.parts.length : Int) := by omega
              obtain ⟨z5, hz5⟩ : ∃ z5, z4.alloc (.cells #[.slice p.ia p.ins.length p.ic, .bool p.e, .int .i64 p.cond, .int .i64 p.next, .int .i64 p.els] 39) = z5 := ⟨_, rfl⟩
              have Q5 : Hid (Q W0 z5) := by show Q W0 z5; rw [← hz5]; exact Q4.out.alloc _
              have PX : Hid (∀ X, Q z5 X → X.heap[z4.heap.size]? = some (.cells #[.slice p.ia p.ins.length p.ic, .bool p.e, .int .i64 p.cond, .int .i64 p.next, .int .i64 p.els] 39 (0, 0))) := fun X h => by
                rw [← hz5] at h
                exact heap_keep h (heap_new _ _)
              have HZ5 := hideIt hz5
              clear hp hP hpat hz5
              go_wp2_with (fail)
              rw [HZ5.out]
              clear sl0 a3 c0 c1 c2 c3 c4
              go_loopw [8] (fun kv z => ∃ k : Nat, kv = .int .i64 k ∧ k ≤ p.ins.length ∧ Hid (Q z5 z)) (fun kv _ => p.ins.length - (intOf kv).toNat)
              case atStart => exact ⟨0, rfl, by omega, Q.refl _⟩
              case round =>
                obtain ⟨k, rfl, hk, Q6⟩ := hrel
                generalize wr = z6 at *
                have hb1 := PX.out _ Q6.out
                have d0 : z6.cell? ⟨z4.heap.size, 0, none⟩ = some (.slice p.ia p.ins.length p.ic) := (cell_of_block hb1 0).trans rfl
                by_cases hlt3 : k < p.ins.length
                · obtain ⟨x, hx⟩ := get_of_lt hlt3
                  obtain ⟨ib, io, eia, hiat, hxok⟩ := (POK.out.keep (Q5.out.trans Q6.out)).ins k x hx
                  have HX4 := hideIt (HS3.out x (List.mem_of_getElem? hx))
                  obtain ⟨x0, -, -, -, -, x5, -⟩ := hiat.seven
                  have hkl : (k : Int) < (p.ins.length : Int) := by omega
                  rw [eia] at d0
                  by_cases ho : x.op = 32
                  · obtain ⟨i1, h, hh, hsm⟩ := HX4.out ho
                    obtain ⟨m, hm⟩ := Int.eq_ofNat_of_zero_le i1
                    rw [hm, Int.toNat_natCast] at hh
                    rw [hm] at x5
                    rw [ho] at x0
                    obtain ⟨hfa, hha⟩ := hFN.out m h hh
                    obtain ⟨-, sl1⟩ := DB.out z6 (Q5.out.trans Q6.out)
                    obtain ⟨h0, h1, h2, h3⟩ := (hha z6 (Q5.out.trans Q6.out)).1.four
                    have hml : (m : Int) < (c.fns.length : Int) := by have := (List.getElem?_eq_some_iff.1 hh).1; omega
                    have hcl : c.fns.length ≤ 9223372036854775807 := by rw [hln.out]; exact hflen
                    have CS : Hid (∀ X, Q z6 X → Calls Try.prog 11 #[.agg #[.int .i64 h.params, .int .i64 h.regs, .slice h.sa h.slots.length h.sc, .slice h.pa h.parts.length h.pc]] X fun e w' => e = .returned (.bool false) ∧ Q X w') := fun X hX => by
                      have := small22_any X h (hha X (Q5.out.trans (Q6.out.trans hX))).2 (CN.out h (List.mem_of_getElem? hh))
                      rw [hsm] at this
                      exact this
                    clear hx eia hiat hxok hb1 hh hsm hm i1 hfa hha ho
                    go_wp2_with (fail)
                    go_region_with (go_at_call 11; refine Calls.mono (CS.out _ (by first | exact Q.refl _ | exact (Q.refl z6).drew | exact (Q.refl z6).drewN _)) ?_; rintro e v ⟨rfl, qv⟩; have QV : Hid (Q z6 v) := (by first | exact qv | exact (Q.refl z6).drew.trans qv | exact ((Q.refl z6).drewN _).trans qv); clear qv)
                    all_goals go_wp2_with (fail)
                    all_goals go_roundw
                    all_goals first | exact ⟨k + 1, by go_num, by omega, hideIt (Q6.out.trans QV.out)⟩ | (simp [intOf]; omega)
                  · have e32 : (x.op == 32) = false := by simpa using ho
                    clear hx eia hiat hxok hb1
                    go_wp2_with (fail)
                    go_quiet (fail)
                    go_wp2_with (fail)
                    go_roundw
                    case rel => exact ⟨k + 1, by go_num, by omega, hideIt (Q6.out.drewN _)⟩
                    case measure => simp [intOf]; omega
                · have hkl : ¬ (k : Int) < (p.ins.length : Int) := by omega
                  clear hb1
                  go_wp2_with (fail)
                  go_roundw
                  case rel => exact ⟨j + 1, by go_num, by omega, hideIt (Q5.out.trans Q6.out)⟩
                  case measure => simp [intOf]; omega
            · have hjl : ¬ (j : Int) < (f.parts.length : Int) := by omega
              go_wp2_with (fail)
              go_roundw
              case rel => exact ⟨i + 1, by go_num, by omega, Q4⟩
              case measure => simp [intOf]; omega
    · have hil : ¬ (i : Int) < (A.fns.length : Int) := by omega
      have sl0 := (DW.out.keep Q1.out).2.2
      go_wp2_with (fail)
      go_ret
      exact ⟨rfl, QF.out.trans Q1.out⟩

theorem does_walk (c : PC) (w : World) (hcok : c.ok w) (hsz : codeN c ≤ 1099511627776) : Calls Try.prog 3 #[c.v] w fun e w' => e = .returned (.bool true) ∧ Below w.heap.size w w' := by
  cases hf : fewP c with
  | false => exact does_few c w hcok hf
  | true =>
    by_cases hv : validP c = 0
    · exact does_good c w hcok hf hsz hv
    · exact does_bad c w hcok hf hv

end Go.Proofs.Ytnaflfpkkbfnfaa.In
