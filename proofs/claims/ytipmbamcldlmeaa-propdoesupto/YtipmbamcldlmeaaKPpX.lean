/-
  The statement PropDoes: its walk over the program; the conditions: the code lies in memory, and is of a size that is looked at.
-/
import Derived.Test.YtipmbamcldlmeaaKPpW
import Derived.Test.YtipmbamcldlmeaaKPpQ
namespace Go.Proofs.Ytipmbamcldlmeaa.Pp
open Go.RowKit
set_option linter.unusedVariables false

theorem propL_at {fault : Bool} : ∀ (l P : List PI) (k : Nat) (y : PI), (propL fault P l)[k]? = some y → ∃ x, l[k]? = some x ∧ y = readI (src fault (P ++ (propL fault P l).take k)) x
  | [], P, k, y, h => by simp [propL] at h
  | x :: l, P, 0, y, h => by
    simp [propL] at h
    subst h
    exact ⟨x, rfl, by simp⟩
  | x :: l, P, k + 1, y, h => by
    simp only [propL, List.getElem?_cons_succ] at h
    obtain ⟨z, hz, e⟩ := propL_at l _ k y h
    refine ⟨z, by simpa using hz, ?_⟩
    rw [e]
    simp [propL]
theorem uses_read {s : Int → Int} {x : PI} {r : Int} (h : r ∈ usesP (readI s x)) : ∃ q, r = s q := by
  unfold usesP at h
  rw [readI_op] at h
  unfold readI at h
  by_cases ho : x.op = 32
  · rw [if_pos ho, if_pos ho] at h
    obtain ⟨q, -, e⟩ := List.mem_map.1 h
    exact ⟨q, e.symm⟩
  · rw [if_neg ho, if_neg ho] at h
    have hl := rdP_le x.op
    by_cases h2 : rdP x.op = 2
    · rw [h2] at h
      simp at h
      rcases h with h | h
      · exact ⟨_, h⟩
      · exact ⟨_, h⟩
    · by_cases h1 : rdP x.op = 1
      · rw [h1] at h
        simp at h
        exact ⟨_, h⟩
      · have h0 : rdP x.op = 0 := by omega
        rw [h0] at h
        simp at h
theorem evl_take {α : Type} {R : α → α → Prop} {l m : List α} (h : EvL R l m) (k : Nat) : EvL R (l.take k) (m.take k) := ⟨by simp [h.len], fun i x y hx hy => by
  have hi := (List.getElem?_eq_some_iff.1 hx).1
  simp at hi
  rw [List.getElem?_take_of_lt (by omega)] at hx hy
  exact h.each i x y hx hy⟩
theorem uses_ev {x y : PI} (h : EvI x y) : usesP x = usesP y := by unfold usesP; rw [h.op, h.args, h.a, h.b]
theorem rf_pre {fault : Bool} : ∀ (l P : List PI) (k : Nat), RF fault P → RF fault (P ++ (propL fault P l).take k)
  | l, P, 0, h => by simpa using h
  | [], P, k + 1, h => by simpa [propL] using h
  | x :: l, P, k + 1, h => by
    have := rf_pre l _ k (rf_step h x)
    simpa [propL] using this
theorem rf_prefix {fault : Bool} (l : List PI) (k : Nat) : RF fault ((propL fault [] l).take k) := by
  have := rf_pre (fault := fault) l [] k (rf_nil _)
  rwa [List.nil_append] at this
/-- What is read at a place is no copy there. -/
theorem no_copy {l l0 : List PI} (h : EvL EvI l (propL false [] l0)) {k : Nat} {x y : PI} (hx : l[k]? = some x) (hy : l0[k]? = some y) : x.op = y.op ∧ x.ty = y.ty ∧ x.imm = y.imm ∧ x.dst = y.dst ∧ ∀ r ∈ usesP x, cp false (l.take k) r = none := by
  have hk := (List.getElem?_eq_some_iff.1 hx).1
  obtain ⟨z, hz⟩ := get_of_lt (l := propL false [] l0) (k := k) (by rw [← h.len]; exact hk)
  have he := h.each k x z hx hz
  obtain ⟨y', hy', e⟩ := propL_at l0 [] k z hz
  rw [hy] at hy'
  injection hy' with hy'
  subst hy'
  subst e
  refine ⟨he.op.trans (readI_op _ _), he.ty.trans (readI_ty _ _), he.imm.trans (readI_imm _ _), he.dst.trans (readI_dst _ _), fun r hr => ?_⟩
  rw [uses_ev he] at hr
  obtain ⟨q, rfl⟩ := uses_read hr
  rw [ev_cp (evl_take h k)]
  rw [List.nil_append]
  refine src_stop (rf_prefix l0 k) q
theorem cond_no {p p0 : PP} (h : EvP p (propP false p0)) (hc : 0 ≤ p.cond) : cp false (p.ins.take p.ins.length) p.cond = none := by
  have e : p.cond = if 0 ≤ p0.cond then src false (propL false [] p0.ins) p0.cond else p0.cond := h.cond
  rw [List.take_length]
  rw [ev_cp (show EvL EvI p.ins (propL false [] p0.ins) from h.ins)]
  split at e
  · rw [e]
    have := rf_all (fault := false) p0.ins [] (rf_nil _)
    rw [List.nil_append] at this
    exact src_stop this _
  · omega

set_option maxRecDepth 100000 in
set_option maxHeartbeats 4000000 in
theorem does_few (c : PC) (w : World) (hcok : c.ok w) (hf : fewP c = false) : Calls Try.prog 5 #[c.v] w fun e w' => e = .returned (.bool true) ∧ Below w.heap.size w w' := by
  have HB : Hid (∀ X, Q (bxC w c) X → Cds X w.heap.size c) := fun X h => (cds_box w c).keep h
  have qB := hideIt (bxC_q w c)
  have CA : Hid (∀ X, Calls Try.prog 7 #[] X fun e w' => e = .returned (.bool true) ∧ Q X w') := fun X => awake_any X
  have CF : Hid (∀ X, Q (bxC w c) X → Calls Try.prog 8 #[c.v] X fun e w' => e = .returned (.bool false) ∧ Q X w') := fun X h => by have := few_any X c (hcok.keep ((bxC_q w c).trans h)); rw [hf] at this; exact this
  generalize hBB : bxC w c = B at *
  have HBB := hideIt hBB
  clear hcok hBB hf
  go_enter Try.func5, Try.ntmps5
  go_wp2_with (fail)
  rw [show w.alloc (.cells #[.slice c.ga c.gl.length c.gc, .slice c.na c.ini.length c.nc, .slice c.fa c.fns.length c.fc] 26) = B from HBB.out]
  go_wp2_with (first
    | (go_at_call 7; first
        | (refine Calls.mono (CA.out y) ?_; rintro e z ⟨rfl, q1⟩; have HZ := hideIt (HY.out.trans q1); clear q1)
        | (refine Calls.mono (CA.out _) ?_; rintro e x ⟨rfl, q1⟩; have HX := hideIt q1; obtain ⟨s1, s2, s3⟩ := HB.out x q1; clear q1))
    | (go_at_call 8; refine Calls.mono (CF.out _ HX.out) ?_; rintro e y ⟨rfl, q1⟩; have HY := hideIt (HX.out.trans q1); clear q1 s1 s2 s3)
    | fail)
  go_ret
  exact ⟨rfl, qB.out.trans HZ.out⟩

set_option maxRecDepth 100000 in
set_option maxHeartbeats 1000000 in
theorem does_bad (c : PC) (w : World) (hcok : c.ok w) (hf : fewP c = true) (hv : ¬ validP c = 0) : Calls Try.prog 5 #[c.v] w fun e w' => e = .returned (.bool true) ∧ Below w.heap.size w w' := by
  have HB : Hid (∀ X, Q (bxC w c) X → Cds X w.heap.size c) := fun X h => (cds_box w c).keep h
  have qB := hideIt (bxC_q w c)
  have CA : Hid (∀ X, Calls Try.prog 7 #[] X fun e w' => e = .returned (.bool true) ∧ Q X w') := fun X => awake_any X
  have CF : Hid (∀ X, Q (bxC w c) X → Calls Try.prog 8 #[c.v] X fun e w' => e = .returned (.bool true) ∧ Q X w') := fun X h => by have := few_any X c (hcok.keep ((bxC_q w c).trans h)); rw [hf] at this; exact this
  have CV : Hid (∀ X, Q (bxC w c) X → Calls Try.prog 10 #[c.v] X fun e w' => e = .returned (.int .i64 (validP c)) ∧ Q X w') := fun X h => rvalid_any X c (hcok.keep ((bxC_q w c).trans h))
  have d2 : (validP c != 0) = true := by simpa using hv
  generalize validP c = v at *
  generalize hBB : bxC w c = B at *
  have HBB := hideIt hBB
  clear hcok hBB hf hv
  go_enter Try.func5, Try.ntmps5
  go_wp2_with (fail)
  rw [show w.alloc (.cells #[.slice c.ga c.gl.length c.gc, .slice c.na c.ini.length c.nc, .slice c.fa c.fns.length c.fc] 26) = B from HBB.out]
  go_wp2_with (first
    | (go_at_call 7; first
        | (refine Calls.mono (CA.out z) ?_; rintro e u ⟨rfl, q1⟩; have HU := hideIt (HZ.out.trans q1); clear q1)
        | (refine Calls.mono (CA.out _) ?_; rintro e x ⟨rfl, q1⟩; have HX := hideIt q1; obtain ⟨s1, s2, s3⟩ := HB.out x q1; clear q1))
    | (go_at_call 8; refine Calls.mono (CF.out _ HX.out) ?_; rintro e y ⟨rfl, q1⟩; have HY := hideIt (HX.out.trans q1); clear q1 s1 s2 s3; obtain ⟨s1, s2, s3⟩ := HB.out y HY.out)
    | (go_at_call 10; refine Calls.mono (CV.out _ HY.out) ?_; rintro e z ⟨rfl, q1⟩; have HZ := hideIt (HY.out.trans q1); clear q1 s1 s2 s3)
    | fail)
  go_ret
  exact ⟨rfl, qB.out.trans HU.out⟩

set_option maxRecDepth 100000 in
set_option maxHeartbeats 8000000 in
theorem does_good (c : PC) (w : World) (hcok : c.ok w) (hf : fewP c = true) (hsz : codeN c ≤ 1099511627776) (hv : validP c = 0) : Calls Try.prog 5 #[c.v] w fun e w' => e = .returned (.bool true) ∧ Below w.heap.size w w' := by
  have HB : Hid (∀ X, Q (bxC w c) X → Cds X w.heap.size c) := fun X h => (cds_box w c).keep h
  have HC : Hid (∀ X, Q (bxC w c) X → c.ok X) := fun X h => hcok.keep ((bxC_q w c).trans h)
  have qB := hideIt (bxC_q w c)
  have CA : Hid (∀ X, Calls Try.prog 7 #[] X fun e w' => e = .returned (.bool true) ∧ Q X w') := fun X => awake_any X
  have CF : Hid (∀ X, Q (bxC w c) X → Calls Try.prog 8 #[c.v] X fun e w' => e = .returned (.bool true) ∧ Q X w') := fun X h => by have := few_any X c (hcok.keep ((bxC_q w c).trans h)); rw [hf] at this; exact this
  have CV : Hid (∀ X, Q (bxC w c) X → Calls Try.prog 10 #[c.v] X fun e w' => e = .returned (.int .i64 0) ∧ Q X w') := fun X h => by have := rvalid_any X c (hcok.keep ((bxC_q w c).trans h)); rw [hv] at this; exact this
  have CR : Hid (∀ X, Q (bxC w c) X → Calls Try.prog 9 #[c.v, .bool false] X fun e w' => ∃ A : PC, e = .returned (.tuple #[A.v, .int .i64 0]) ∧ EvC A (propC false c) ∧ A.ok w' ∧ Q X w') := fun X h => (run_few X c false (hcok.keep ((bxC_q w c).trans h)) hv hf hsz).mono fun e w' ⟨A, a1, a2, a3, a4⟩ => ⟨A, a1, a2, a3.ok, a4⟩
  have RG : Hid (RgC (300 : Nat) c) := rgc_of (Dn.valid_vc hcok hv).1.fn (few_fit hf hsz).1
  generalize hBB : bxC w c = B at *
  have HBB := hideIt hBB
  clear hcok hBB hf hv
  go_enter Try.func5, Try.ntmps5
  go_wp2_with (fail)
  rw [show w.alloc (.cells #[.slice c.ga c.gl.length c.gc, .slice c.na c.ini.length c.nc, .slice c.fa c.fns.length c.fc] 26) = B from HBB.out]
  go_wp2_with (first
    | (go_at_call 7; refine Calls.mono (CA.out _) ?_; rintro e x ⟨rfl, q1⟩; have HX := hideIt q1; obtain ⟨s1, s2, s3⟩ := HB.out x q1; clear q1)
    | (go_at_call 8; refine Calls.mono (CF.out _ HX.out) ?_; rintro e y ⟨rfl, q1⟩; have HY := hideIt (HX.out.trans q1); clear q1 s1 s2 s3; obtain ⟨s1, s2, s3⟩ := HB.out y HY.out)
    | (go_at_call 10; refine Calls.mono (CV.out _ HY.out) ?_; rintro e x3 ⟨rfl, q1⟩; have H3 := hideIt (HY.out.trans q1); clear q1 s1 s2 s3; obtain ⟨s1, s2, s3⟩ := HB.out x3 H3.out)
    | (go_at_call 9; refine Calls.mono (CR.out _ H3.out) ?_; rintro e y1 ⟨A, rfl, a1, a2, q1⟩; have EV := hideIt a1; have OK := hideIt a2; have HY1 := hideIt (H3.out.trans q1); clear q1 a1 a2 s1 s2 s3; obtain ⟨s1, s2, s3⟩ := HB.out y1 HY1.out; have r1 := fun ob => cell_keep ((Q.refl y1).alloc ob) s1; have r2 := fun ob => cell_keep ((Q.refl y1).alloc ob) s2; have r3 := fun ob => cell_keep ((Q.refl y1).alloc ob) s3; clear s1 s2 s3)
    | (go_at_call 14; refine Calls.mono (alike_any _ c A (HC.out _ (HY1.out.alloc _)) (OK.out.keep ((Q.refl y1).alloc _)) (ak_prop EV.out RG.out)) ?_; rintro e W0 ⟨rfl, q1⟩; have HW := hideIt ((HY1.out.alloc _).trans q1); have DW := hideIt ((cds_box y1 A).keep q1); have OW := hideIt (OK.out.keep (((Q.refl y1).alloc _).trans q1)); clear q1 r1 r2 r3)
    | fail)
  have CW : Hid (Cds W0 w.heap.size c) := HB.out W0 HW.out
  have COW : Hid (c.ok W0) := HC.out W0 HW.out
  have AK := hideIt (ak_prop EV.out RG.out)
  have hflen : A.fns.length ≤ 9223372036854775807 := OW.out.fsok.len
  have QF : Hid (Q w W0) := qB.out.trans HW.out
  clear HB HC qB CA CF CV CR HBB HX HY H3 HY1 OK HW
  go_loopw [5] (fun iv z => ∃ (i : Nat), iv = .int .i64 i ∧ i ≤ A.fns.length ∧ Hid (Q W0 z)) (fun iv _ => A.fns.length - (intOf iv).toNat)
  case atStart => exact ⟨0, rfl, by omega, Q.refl _⟩
  case round =>
    obtain ⟨i, rfl, hi, Q1⟩ := hrel
    generalize wr = z1 at *
    obtain ⟨-, -, sl0⟩ := DW.out.keep Q1.out
    by_cases hlt1 : i < A.fns.length
    · obtain ⟨f, hf⟩ := get_of_lt hlt1
      obtain ⟨f0, hf0⟩ := get_of_lt (l := c.fns) (k := i) (by rw [AK.out.len]; exact hlt1)
      obtain ⟨G, Go', hG, hfat⟩ := OW.out.fns i f hf
      obtain ⟨G0, Go0, hG0, hfat0⟩ := COW.out.fns i f0 hf0
      have AF := hideIt (AK.out.each i f0 f hf0 hf)
      have EF : Hid (EvF f (propF false f0)) := EV.out.fns.each i f _ hf (by simp [propC, hf0])
      have DB : Hid (W0.cell? ⟨y1.heap.size, 2, none⟩ = some (.slice (some ⟨G, Go', none⟩) A.fns.length A.fc)) := by have := DW.out.2.2; rw [hG] at this; exact this
      have CB : Hid (W0.cell? ⟨w.heap.size, 2, none⟩ = some (.slice (some ⟨G0, Go0, none⟩) A.fns.length c.fc)) := by have := CW.out.2.2; rw [hG0, AK.out.len] at this; exact this
      have FC : Hid (W0.cell? ⟨G, Go' + i * 4 + 3, none⟩ = some (.slice f.pa f.parts.length f.pc)) := hfat.1.four.2.2.2
      have FC0 : Hid (W0.cell? ⟨G0, Go0 + i * 4 + 3, none⟩ = some (.slice f0.pa f.parts.length f0.pc)) := by have := hfat0.1.four.2.2.2; rw [AF.out.parts.len] at this; exact this
      have FP := hideIt hfat.2.parts
      have FP0 := hideIt hfat0.2.parts
      have hplen : f.parts.length ≤ 9223372036854775807 := hfat.2.psok.len
      have hil : (i : Int) < (A.fns.length : Int) := by omega
      clear sl0 hf hf0 hfat hfat0 hG hG0
      have sl0 := cell_keep Q1.out DB.out
      go_wp2_with (fail)
      clear sl0
      go_loopw [6] (fun jv z => ∃ (j : Nat), jv = .int .i64 j ∧ j ≤ f.parts.length ∧ Hid (Q W0 z)) (fun jv _ => f.parts.length - (intOf jv).toNat)
      case atStart => exact ⟨0, rfl, by omega, Q1⟩
      case round =>
        obtain ⟨j, rfl, hj, Q2⟩ := hrel
        generalize wr = z2 at *
        have sl0 := cell_keep Q2.out DB.out
        by_cases hlt2 : j < f.parts.length
        · obtain ⟨p, hp⟩ := get_of_lt hlt2
          obtain ⟨q, hq⟩ := get_of_lt (l := f0.parts) (k := j) (by rw [AF.out.parts.len]; exact hlt2)
          obtain ⟨P, Po, hP, hpat⟩ := FP.out j p hp
          obtain ⟨P0, Po0, hP0, hqat⟩ := FP0.out j q hq
          have AP := AF.out.parts.each j q p hq hp
          have EP : Hid (EvP p (propP false q)) := EF.out.parts.each j p _ hp (by simp [propF, hq])
          have FC' : Hid (W0.cell? ⟨G, Go' + i * 4 + 3, none⟩ = some (.slice (some ⟨P, Po, none⟩) f.parts.length f.pc)) := by have := FC.out; rw [hP] at this; exact this
          have FC0' : Hid (W0.cell? ⟨G0, Go0 + i * 4 + 3, none⟩ = some (.slice (some ⟨P0, Po0, none⟩) f.parts.length f0.pc)) := by have := FC0.out; rw [hP0] at this; exact this
          obtain ⟨c0, c1, c2, c3, c4⟩ := (hpat.1.keep Q2.out).five
          have QC : Hid (∀ X, Q W0 X → X.cell? ⟨P0, Po0 + j * 5, none⟩ = some (.slice q.ia p.ins.length q.ic) ∧ X.cell? ⟨P0, Po0 + j * 5 + 1, none⟩ = some (.bool q.e) ∧ X.cell? ⟨P0, Po0 + j * 5 + 2, none⟩ = some (.int .i64 q.cond) ∧ X.cell? ⟨P0, Po0 + j * 5 + 3, none⟩ = some (.int .i64 q.next) ∧ X.cell? ⟨P0, Po0 + j * 5 + 4, none⟩ = some (.int .i64 q.els)) := fun X h => by
            have := (hqat.1.keep h).five
            rw [AP.len] at this
            exact this
          have POK := hideIt hpat.2
          have QOK := hideIt hqat.2
          have hql := hideIt AP.len
          have hilen : p.ins.length ≤ 9223372036854775807 := hpat.2.sok.len
          have hjl : (j : Int) < (f.parts.length : Int) := by omega
          have sl1 := cell_keep Q2.out FC'.out
          have u1 := fun ob => cell_keep ((Q.refl z2).alloc ob) (cell_keep Q2.out CB.out)
          have u2 := fun ob => cell_keep ((Q.refl z2).alloc ob) (cell_keep Q2.out FC0'.out)
          have v0 := fun ob => (QC.out _ (Q2.out.alloc ob)).1
          have v1 := fun ob => (QC.out _ (Q2.out.alloc ob)).2.1
          have v2 := fun ob => (QC.out _ (Q2.out.alloc ob)).2.2.1
          have v3 := fun ob => (QC.out _ (Q2.out.alloc ob)).2.2.2.1
          have v4 := fun ob => (QC.out _ (Q2.out.alloc ob)).2.2.2.2
          obtain ⟨z3, hz3⟩ : ∃ z3, (z2.alloc (.cells #[.slice p.ia p.ins.length p.ic, .bool p.e, .int .i64 p.cond, .int .i64 p.next, .int .i64 p.els] 47)).alloc (.cells #[.slice q.ia p.ins.length q.ic, .bool q.e, .int .i64 q.cond, .int .i64 q.next, .int .i64 q.els] 47) = z3 := ⟨_, rfl⟩
          have Q3 : Hid (Q W0 z3) := by show Q W0 z3; rw [← hz3]; exact (Q2.out.alloc _).alloc _
          have PX : Hid (∀ X, Q z3 X → X.heap[z2.heap.size]? = some (.cells #[.slice p.ia p.ins.length p.ic, .bool p.e, .int .i64 p.cond, .int .i64 p.next, .int .i64 p.els] 47 (0, 0)) ∧ X.heap[z2.heap.size + 1]? = some (.cells #[.slice q.ia p.ins.length q.ic, .bool q.e, .int .i64 q.cond, .int .i64 q.next, .int .i64 q.els] 47 (0, 0))) := fun X h => by
            rw [← hz3] at h
            exact ⟨heap_keep h (heap_old _ (heap_new _ _)), heap_keep h (heap_at (by simp))⟩
          have HZ3 := hideIt hz3
          have CC : Hid (0 ≤ p.cond → ∀ X, Q z3 X → Calls Try.prog 15 #[ptV p, .int .i64 p.cond, .int .i64 (p.ins.length : Int)] X fun e w' => e = .returned (.bool false) ∧ Q X w') := fun h0 X h => by
            have := copied_law X p p.cond p.ins.length (POK.out.keep (Q3.out.trans h)) (Nat.le_refl _)
            rw [cond_no EP.out h0] at this
            exact this
          have NC : Hid (∀ (k : Nat) (x y : PI), p.ins[k]? = some x → q.ins[k]? = some y → x.op = y.op ∧ x.ty = y.ty ∧ x.imm = y.imm ∧ x.dst = y.dst ∧ ∀ r ∈ usesP x, cp false (p.ins.take k) r = none) := fun k x y hx hy => no_copy EP.out.ins hx hy
          clear hp hq hP hP0 hpat hqat AP hz3 QC
          have FIN : Hid (∀ z, Q z3 z → Q W0 z) := fun z h => Q3.out.trans h
          by_cases hcd : 0 ≤ p.cond
          · have CCx := hideIt (CC.out hcd)
            go_wp2_with (first | (go_at_call 15; refine Calls.mono (CCx.out _ (by rw [HZ3.out]; exact Q.refl _)) ?_; rintro e z4 ⟨rfl, q4⟩; have Q4 : Hid (Q z3 z4) := (by rw [HZ3.out] at q4; exact q4); clear q4) | fail)
            clear sl0 sl1 c0 c1 c2 c3 c4 u1 u2 v0 v1 v2 v3 v4 CC CCx HZ3
            go_loopw [9] (fun kv z => ∃ k : Nat, kv = .int .i64 k ∧ k ≤ p.ins.length ∧ Hid (Q z3 z)) (fun kv _ => p.ins.length - (intOf kv).toNat)
            case atStart => exact ⟨0, rfl, by omega, Q4⟩
            case round =>
              obtain ⟨k, rfl, hk, Q5⟩ := hrel
              generalize wr = z5 at *
              obtain ⟨hb1, hb2⟩ := PX.out _ Q5.out
              have b0 : z5.cell? ⟨z2.heap.size, 0, none⟩ = some (.slice p.ia p.ins.length p.ic) := (cell_of_block hb1 0).trans rfl
              have d0 : z5.cell? ⟨z2.heap.size + 1, 0, none⟩ = some (.slice q.ia p.ins.length q.ic) := (cell_of_block hb2 0).trans rfl
              clear Q4
              by_cases hlt3 : k < p.ins.length
              · obtain ⟨x, hx⟩ := get_of_lt hlt3
                obtain ⟨y, hy⟩ := get_of_lt (l := q.ins) (k := k) (by rw [hql.out]; exact hlt3)
                obtain ⟨n1, n2, n3, n4, n5⟩ := NC.out k x y hx hy
                obtain ⟨ib, io, eia, hiat, hxok⟩ := (POK.out.keep (Q3.out.trans Q5.out)).ins k x hx
                obtain ⟨jb, jo, eja, hjat, hyok⟩ := (QOK.out.keep (Q3.out.trans Q5.out)).ins k y hy
                obtain ⟨x0, x1, x2, x3', x4, x5, x6⟩ := hiat.seven
                have hys := hjat.seven
                rw [← n1, ← n2, ← n3, ← n4] at hys
                have y0 := fun ob => cell_keep ((Q.refl z5).alloc ob) hys.1
                have y1' := fun ob => cell_keep ((Q.refl z5).alloc ob) hys.2.1
                have y2 := fun ob => cell_keep ((Q.refl z5).alloc ob) hys.2.2.1
                have y3 := fun ob => cell_keep ((Q.refl z5).alloc ob) hys.2.2.2.1
                have y4 := fun ob => cell_keep ((Q.refl z5).alloc ob) hys.2.2.2.2.1
                have y5 := fun ob => cell_keep ((Q.refl z5).alloc ob) hys.2.2.2.2.2.1
                have y6 := fun ob => cell_keep ((Q.refl z5).alloc ob) hys.2.2.2.2.2.2
                have b0' : z5.cell? ⟨z2.heap.size, 0, none⟩ = some (.slice (some ⟨ib, io, none⟩) p.ins.length p.ic) := by rw [← eia]; exact b0
                have d0' : z5.cell? ⟨z2.heap.size + 1, 0, none⟩ = some (.slice (some ⟨jb, jo, none⟩) p.ins.length q.ic) := by rw [← eja]; exact d0
                have d0'' := fun ob => cell_keep ((Q.refl z5).alloc ob) d0'
                have UC : Hid (∀ X, Q z5 X → Calls Try.prog 17 #[x.v] X fun e w' => ∃ ao cc, e = .returned (.slice ao (usesP x).length cc) ∧ Ints w' ao (usesP x) ∧ Q X w') := fun X h => ruses_any x X (hxok.keep h)
                have CP : Hid (∀ (m : Nat) (r : Int), (usesP x)[m]? = some r → ∀ X, Q z5 X → Calls Try.prog 15 #[ptV p, .int .i64 r, .int .i64 (k : Int)] X fun e w' => e = .returned (.bool false) ∧ Q X w') := fun m r hr X h => by
                  have := copied_law X p r k (POK.out.keep (Q3.out.trans (Q5.out.trans h))) hk
                  rw [n5 r (List.mem_of_getElem? hr)] at this
                  exact this
                have hul : (usesP x).length ≤ 9223372036854775807 := by
                  unfold usesP
                  split
                  · exact hxok.sok.len
                  · have := rdP_le x.op; simp; omega
                have hkl : (k : Int) < (p.ins.length : Int) := by omega
                have ne1 : (x.op != x.op) = false := by simp
                have ne2 : (x.ty != x.ty) = false := by simp
                have ne3 : (x.imm != x.imm) = false := by simp
                have ne4 : (x.dst != x.dst) = false := by simp
                clear hx hy n1 n2 n3 n4 n5 hiat hjat hxok hyok hys b0 d0 d0' hb1 hb2 eia eja
                cases hw : wrP x.op
                all_goals
                  have WA := hideIt (fun X => writes_any x.op X)
                  rw [hw] at WA
                  clear hw
                  go_wp2_with (first
                    | (go_at_call 16; refine (WA.out _).mono ?_; rintro e u0 ⟨rfl, rfl⟩)
                    | (go_at_call 17; refine Calls.mono (UC.out _ (((Q.refl z5).alloc _).alloc _)) ?_; rintro e u ⟨ao, cc, rfl, hu, qu⟩; have HU := hideIt hu; have QU := hideIt ((((Q.refl z5).alloc _).alloc _).trans qu); clear hu qu x0 x1 x2 x3' x4 x5 x6 y0 y1' y2 y3 y4 y5 y6 b0' d0'')
                    | fail)
                  go_loopw [13] (fun mv z => ∃ m : Nat, mv = .int .i64 m ∧ m ≤ (usesP x).length ∧ Hid (Q u z)) (fun mv _ => (usesP x).length - (intOf mv).toNat)
                  case atStart => exact ⟨0, rfl, by omega, Q.refl _⟩
                  case round =>
                    obtain ⟨m, rfl, hm, Q6⟩ := hrel
                    generalize wr = z6 at *
                    by_cases hlt4 : m < (usesP x).length
                    · obtain ⟨r, hr⟩ := get_of_lt hlt4
                      obtain ⟨lb, lo, elo, hlc, -⟩ := (Ints.keep Q6.out HU.out) m r hr
                      rw [Nat.mul_one] at hlc
                      subst elo
                      obtain ⟨hb1, -⟩ := PX.out _ (Q5.out.trans (QU.out.trans Q6.out))
                      have t0 : z6.cell? ⟨z2.heap.size, 0, none⟩ = some (.slice p.ia p.ins.length p.ic) := (cell_of_block hb1 0).trans rfl
                      have t1 : z6.cell? ⟨z2.heap.size, 1, none⟩ = some (.bool p.e) := (cell_of_block hb1 1).trans rfl
                      have t2 : z6.cell? ⟨z2.heap.size, 2, none⟩ = some (.int .i64 p.cond) := (cell_of_block hb1 2).trans rfl
                      have t3 : z6.cell? ⟨z2.heap.size, 3, none⟩ = some (.int .i64 p.next) := (cell_of_block hb1 3).trans rfl
                      have t4 : z6.cell? ⟨z2.heap.size, 4, none⟩ = some (.int .i64 p.els) := (cell_of_block hb1 4).trans rfl
                      have CM := hideIt (CP.out m r hr)
                      have hml : (m : Int) < ((usesP x).length : Int) := by omega
                      clear hr hb1
                      go_wp2_with (fail)
                      go_region_with (go_at_call 15; refine Calls.mono (CM.out _ (by first | exact QU.out.trans Q6.out | exact (QU.out.trans Q6.out).drew | exact (QU.out.trans Q6.out).drewN _)) ?_; rintro e v ⟨rfl, qv⟩; have QV : Hid (Q u v) := (by first | exact Q6.out.trans qv | exact Q6.out.drew.trans qv | exact (Q6.out.drewN _).trans qv); clear qv)
                      all_goals go_wp2_with (fail)
                      all_goals go_roundw
                      all_goals first | exact ⟨m + 1, by go_num, by omega, QV⟩ | (simp [intOf]; omega)
                    · have hml : ¬ (m : Int) < ((usesP x).length : Int) := by omega
                      go_wp2_with (fail)
                      go_roundw
                      case rel => exact ⟨k + 1, by go_num, by omega, hideIt (Q5.out.trans (QU.out.trans Q6.out))⟩
                      case measure => simp [intOf]; omega
              · have hkl : ¬ (k : Int) < (p.ins.length : Int) := by omega
                clear hb1 hb2 d0
                go_wp2_with (fail)
                go_roundw
                case rel => exact ⟨j + 1, by go_num, by omega, hideIt (FIN.out _ Q5.out)⟩
                case measure => simp [intOf]; omega
          · go_wp2_with (fail)
            have Q4 : Hid (Q z3 z3) := Q.refl _
            rw [HZ3.out]
            clear sl0 sl1 c0 c1 c2 c3 c4 u1 u2 v0 v1 v2 v3 v4 CC HZ3
            go_loopw [9] (fun kv z => ∃ k : Nat, kv = .int .i64 k ∧ k ≤ p.ins.length ∧ Hid (Q z3 z)) (fun kv _ => p.ins.length - (intOf kv).toNat)
            case atStart => exact ⟨0, rfl, by omega, Q4⟩
            case round =>
              obtain ⟨k, rfl, hk, Q5⟩ := hrel
              generalize wr = z5 at *
              obtain ⟨hb1, hb2⟩ := PX.out _ Q5.out
              have b0 : z5.cell? ⟨z2.heap.size, 0, none⟩ = some (.slice p.ia p.ins.length p.ic) := (cell_of_block hb1 0).trans rfl
              have d0 : z5.cell? ⟨z2.heap.size + 1, 0, none⟩ = some (.slice q.ia p.ins.length q.ic) := (cell_of_block hb2 0).trans rfl
              clear Q4
              by_cases hlt3 : k < p.ins.length
              · obtain ⟨x, hx⟩ := get_of_lt hlt3
                obtain ⟨y, hy⟩ := get_of_lt (l := q.ins) (k := k) (by rw [hql.out]; exact hlt3)
                obtain ⟨n1, n2, n3, n4, n5⟩ := NC.out k x y hx hy
                obtain ⟨ib, io, eia, hiat, hxok⟩ := (POK.out.keep (Q3.out.trans Q5.out)).ins k x hx
                obtain ⟨jb, jo, eja, hjat, hyok⟩ := (QOK.out.keep (Q3.out.trans Q5.out)).ins k y hy
                obtain ⟨x0, x1, x2, x3', x4, x5, x6⟩ := hiat.seven
                have hys := hjat.seven
                rw [← n1, ← n2, ← n3, ← n4] at hys
                have y0 := fun ob => cell_keep ((Q.refl z5).alloc ob) hys.1
                have y1' := fun ob => cell_keep ((Q.refl z5).alloc ob) hys.2.1
                have y2 := fun ob => cell_keep ((Q.refl z5).alloc ob) hys.2.2.1
                have y3 := fun ob => cell_keep ((Q.refl z5).alloc ob) hys.2.2.2.1
                have y4 := fun ob => cell_keep ((Q.refl z5).alloc ob) hys.2.2.2.2.1
                have y5 := fun ob => cell_keep ((Q.refl z5).alloc ob) hys.2.2.2.2.2.1
                have y6 := fun ob => cell_keep ((Q.refl z5).alloc ob) hys.2.2.2.2.2.2
                have b0' : z5.cell? ⟨z2.heap.size, 0, none⟩ = some (.slice (some ⟨ib, io, none⟩) p.ins.length p.ic) := by rw [← eia]; exact b0
                have d0' : z5.cell? ⟨z2.heap.size + 1, 0, none⟩ = some (.slice (some ⟨jb, jo, none⟩) p.ins.length q.ic) := by rw [← eja]; exact d0
                have d0'' := fun ob => cell_keep ((Q.refl z5).alloc ob) d0'
                have UC : Hid (∀ X, Q z5 X → Calls Try.prog 17 #[x.v] X fun e w' => ∃ ao cc, e = .returned (.slice ao (usesP x).length cc) ∧ Ints w' ao (usesP x) ∧ Q X w') := fun X h => ruses_any x X (hxok.keep h)
                have CP : Hid (∀ (m : Nat) (r : Int), (usesP x)[m]? = some r → ∀ X, Q z5 X → Calls Try.prog 15 #[ptV p, .int .i64 r, .int .i64 (k : Int)] X fun e w' => e = .returned (.bool false) ∧ Q X w') := fun m r hr X h => by
                  have := copied_law X p r k (POK.out.keep (Q3.out.trans (Q5.out.trans h))) hk
                  rw [n5 r (List.mem_of_getElem? hr)] at this
                  exact this
                have hul : (usesP x).length ≤ 9223372036854775807 := by
                  unfold usesP
                  split
                  · exact hxok.sok.len
                  · have := rdP_le x.op; simp; omega
                have hkl : (k : Int) < (p.ins.length : Int) := by omega
                have ne1 : (x.op != x.op) = false := by simp
                have ne2 : (x.ty != x.ty) = false := by simp
                have ne3 : (x.imm != x.imm) = false := by simp
                have ne4 : (x.dst != x.dst) = false := by simp
                clear hx hy n1 n2 n3 n4 n5 hiat hjat hxok hyok hys b0 d0 d0' hb1 hb2 eia eja
                cases hw : wrP x.op
                all_goals
                  have WA := hideIt (fun X => writes_any x.op X)
                  rw [hw] at WA
                  clear hw
                  go_wp2_with (first
                    | (go_at_call 16; refine (WA.out _).mono ?_; rintro e u0 ⟨rfl, rfl⟩)
                    | (go_at_call 17; refine Calls.mono (UC.out _ (((Q.refl z5).alloc _).alloc _)) ?_; rintro e u ⟨ao, cc, rfl, hu, qu⟩; have HU := hideIt hu; have QU := hideIt ((((Q.refl z5).alloc _).alloc _).trans qu); clear hu qu x0 x1 x2 x3' x4 x5 x6 y0 y1' y2 y3 y4 y5 y6 b0' d0'')
                    | fail)
                  go_loopw [13] (fun mv z => ∃ m : Nat, mv = .int .i64 m ∧ m ≤ (usesP x).length ∧ Hid (Q u z)) (fun mv _ => (usesP x).length - (intOf mv).toNat)
                  case atStart => exact ⟨0, rfl, by omega, Q.refl _⟩
                  case round =>
                    obtain ⟨m, rfl, hm, Q6⟩ := hrel
                    generalize wr = z6 at *
                    by_cases hlt4 : m < (usesP x).length
                    · obtain ⟨r, hr⟩ := get_of_lt hlt4
                      obtain ⟨lb, lo, elo, hlc, -⟩ := (Ints.keep Q6.out HU.out) m r hr
                      rw [Nat.mul_one] at hlc
                      subst elo
                      obtain ⟨hb1, -⟩ := PX.out _ (Q5.out.trans (QU.out.trans Q6.out))
                      have t0 : z6.cell? ⟨z2.heap.size, 0, none⟩ = some (.slice p.ia p.ins.length p.ic) := (cell_of_block hb1 0).trans rfl
                      have t1 : z6.cell? ⟨z2.heap.size, 1, none⟩ = some (.bool p.e) := (cell_of_block hb1 1).trans rfl
                      have t2 : z6.cell? ⟨z2.heap.size, 2, none⟩ = some (.int .i64 p.cond) := (cell_of_block hb1 2).trans rfl
                      have t3 : z6.cell? ⟨z2.heap.size, 3, none⟩ = some (.int .i64 p.next) := (cell_of_block hb1 3).trans rfl
                      have t4 : z6.cell? ⟨z2.heap.size, 4, none⟩ = some (.int .i64 p.els) := (cell_of_block hb1 4).trans rfl
                      have CM := hideIt (CP.out m r hr)
                      have hml : (m : Int) < ((usesP x).length : Int) := by omega
                      clear hr hb1
                      go_wp2_with (fail)
                      go_region_with (go_at_call 15; refine Calls.mono (CM.out _ (by first | exact QU.out.trans Q6.out | exact (QU.out.trans Q6.out).drew | exact (QU.out.trans Q6.out).drewN _)) ?_; rintro e v ⟨rfl, qv⟩; have QV : Hid (Q u v) := (by first | exact Q6.out.trans qv | exact Q6.out.drew.trans qv | exact (Q6.out.drewN _).trans qv); clear qv)
                      all_goals go_wp2_with (fail)
                      all_goals go_roundw
                      all_goals first | exact ⟨m + 1, by go_num, by omega, QV⟩ | (simp [intOf]; omega)
                    · have hml : ¬ (m : Int) < ((usesP x).length : Int) := by omega
                      go_wp2_with (fail)
                      go_roundw
                      case rel => exact ⟨k + 1, by go_num, by omega, hideIt (Q5.out.trans (QU.out.trans Q6.out))⟩
                      case measure => simp [intOf]; omega
              · have hkl : ¬ (k : Int) < (p.ins.length : Int) := by omega
                clear hb1 hb2 d0
                go_wp2_with (fail)
                go_roundw
                case rel => exact ⟨j + 1, by go_num, by omega, hideIt (FIN.out _ Q5.out)⟩
                case measure => simp [intOf]; omega
        · have hjl : ¬ (j : Int) < (f.parts.length : Int) := by omega
          have sl1 := cell_keep Q2.out FC.out
          go_wp2_with (fail)
          go_roundw
          case rel => exact ⟨i + 1, by go_num, by omega, Q2⟩
          case measure => simp [intOf]; omega
    · have hil : ¬ (i : Int) < (A.fns.length : Int) := by omega
      go_wp2_with (fail)
      go_ret
      exact ⟨rfl, QF.out.trans Q1.out⟩

theorem does_walk (c : PC) (w : World) (hcok : c.ok w) (hsz : codeN c ≤ 1099511627776) : Calls Try.prog 5 #[c.v] w fun e w' => e = .returned (.bool true) ∧ Below w.heap.size w w' := by
  cases hf : fewP c with
  | false => exact does_few c w hcok hf
  | true =>
    by_cases hv : validP c = 0
    · exact does_good c w hcok hf hsz hv
    · exact does_bad c w hcok hf hv

end Go.Proofs.Ytipmbamcldlmeaa.Pp
