/-
  The statement LiveReads: its walk over the program; the conditions: the code lies in memory and is small, the library's table is laid.
-/
import Derived.Test.YtkcniahpkcdhoaaDoorKLvZj
namespace Go.Proofs.YtkcniahpkcdhoaaDoor.Lv
open Go.RowKit
set_option linter.unusedVariables false

/-- Right code that is small has few instructions. -/
theorem few_count {c : PC} (hv : validP c = 0) (hs : codeN c ≤ 1099511627776) : codeN c ≤ 60000 := by
  have h0 : 0 ≤ codeN c := by
    unfold codeN
    induction c.fns with
    | nil => simp
    | cons g l ih => have := fnN_nonneg g; simp only [List.map_cons, List.sum_cons]; omega
  have hw : IntKind.i64.wrap (codeN c) = codeN c := by rw [IntKind.wrap_i64]; omega
  unfold validP at hv
  split at hv
  · omega
  · rename_i h
    rw [hw] at h
    omega
theorem right_some {c : PC} (hv : validP c = 0) : 0 < c.fns.length := by
  cases hl : c.fns with
  | cons f l => simp
  | nil =>
    exfalso
    unfold validP at hv
    split at hv
    · omega
    · split at hv
      · rename_i hr
        unfold rightP hdP at hr
        simp [hl, lastP] at hr
      · omega
/-- What a part's first instruction reads is live at its beginning. -/
theorem first_live {l : List PP} {k : Nat} {p : PP} (hp : l[k]? = some p) {x : PI} (hx : p.ins[0]? = some x) {u : Int} (hu : u ∈ usesP x) : liB l k u.toNat = true :=
  (liB_iff _ _ _).2 (LiveR.read hp (Or.inl ⟨0, x, hx, ⟨u, hu, rfl⟩, by simp [WtL]⟩))
theorem cond_live {l : List PP} {k : Nat} {p : PP} (hp : l[k]? = some p) (hi : p.ins = []) (hc : 0 ≤ p.cond) : liB l k p.cond.toNat = true :=
  (liB_iff _ _ _).2 (LiveR.read hp (Or.inr ⟨by omega, rfl, by simp [WtL, hi]⟩))
theorem uses_right {c : PC} (hv : validP c = 0) {fn : Nat} {f : PF} (hf : c.fns[fn]? = some f) {p : PP} (hp : p ∈ f.parts) {x : PI} (hx : x ∈ p.ins) {u : Int} (hu : u ∈ usesP x) : 0 ≤ u ∧ u < f.regs := by
  have hfn := right_fn hv hf
  unfold fnP at hfn
  rw [Bool.and_eq_true] at hfn
  have h2 := List.all_eq_true.1 hfn.2 p hp
  unfold ptP at h2
  rw [Bool.and_eq_true] at h2
  have h4 := List.all_eq_true.1 h2.2 x hx
  rw [insP_eq] at h4
  simp only [Bool.and_eq_true] at h4
  exact blP_iff.1 (List.all_eq_true.1 h4.2.1 u hu)

set_option maxRecDepth 100000 in
set_option maxHeartbeats 16000000 in
theorem reads_good (c : PC) (n : Int) (w : World) (hcok : c.ok w) (hT : Tab w) (hf : fewP c = true) (hv : validP c = 0) (hs : codeN c ≤ 1099511627776) (hn : 0 ≤ n ∧ n ≤ 255) : Calls Tryd.prog 6 #[c.v, .int .u8 n] w fun e w' => e = .returned (.bool true) ∧ Below w.heap.size w w' := by
  have hlen0 := right_some hv
  have hlen1 : c.fns.length ≤ 9223372036854775807 := hcok.fsok.len
  obtain ⟨k, hk, hkl⟩ : ∃ k : Nat, n.tmod (c.fns.length : Int) = (k : Int) ∧ k < c.fns.length := by
    rw [Int.tmod_eq_emod_of_nonneg (by omega)]
    have h1 := Int.emod_nonneg n (show (c.fns.length : Int) ≠ 0 by omega)
    have h2 := Int.emod_lt_of_pos n (show (0 : Int) < (c.fns.length : Int) by omega)
    exact ⟨(n % (c.fns.length : Int)).toNat, by omega, by omega⟩
  obtain ⟨f, hfk⟩ := get_of_lt hkl
  have h60 := few_count hv hs
  have HB : Hid (∀ X, Q (bxC w c) X → Cds X w.heap.size c) := fun X h => (cds_box w c).keep h
  have qB := hideIt (bxC_q w c)
  have HFN : Hid (∀ X, Q (bxC w c) X → Fns X c.fa c.fns) := fun X h => Fns.keep ((bxC_q w c).trans h) hcok.fns
  have CA : Hid (∀ X, Q (bxC w c) X → Calls Tryd.prog 8 #[] X fun e w' => e = .returned (.bool true) ∧ Q X w') := fun X h => awake_any X (hT.keep ((bxC_q w c).trans h))
  have CF : Hid (∀ X, Q (bxC w c) X → Calls Tryd.prog 9 #[c.v] X fun e w' => e = .returned (.bool true) ∧ Q X w') := fun X h => by have := few_any X c (hcok.keep ((bxC_q w c).trans h)); rw [hf] at this; exact this
  have CV : Hid (∀ X, Q (bxC w c) X → Calls Tryd.prog 11 #[c.v] X fun e w' => e = .returned (.int .i64 0) ∧ Q X w') := fun X h => by have := rvalid_any X c (hcok.keep ((bxC_q w c).trans h)); rw [hv] at this; exact this
  have CP : Hid (∀ X, Q (bxC w c) X → Calls Tryd.prog 10 #[c.v, .int .i64 (k : Int)] X (PartsP f X)) := fun X h => parts_is X c (hcok.keep ((bxC_q w c).trans h)) hv k f hfk h60
  have HU : Hid (∀ (p : PP) (x : PI) (u : Int), p ∈ f.parts → x ∈ p.ins → u ∈ usesP x → 0 ≤ u ∧ I64 u) := fun p x u h1 h2 h3 => by
    have h4 := uses_right hv hfk h1 h2 h3
    have h5 : f.regs ≤ 20000 := by
      have hfn := right_fn hv hfk
      unfold fnP headP at hfn
      simp only [Bool.and_eq_true, Bool.not_eq_true', decide_eq_false_iff_not] at hfn
      obtain ⟨⟨h1, h2, h3, -⟩, -⟩ := hfn
      omega
    exact ⟨h4.1, by unfold I64; omega⟩
  obtain ⟨fb, fo, efa, hfat⟩ := hcok.fns k f hfk
  have hpl : f.parts.length ≤ 9223372036854775807 := hfat.2.psok.len
  have FAT : Hid (∀ X, Q (bxC w c) X → FnAt X fb (fo + k * 4) f) := fun X h => hfat.keep ((bxC_q w c).trans h)
  have hkl2 : (k : Int) < (c.fns.length : Int) := by omega
  have hne : ((c.fns.length : Int) == 0) = false := by rw [beq_eq_false_iff_ne]; omega
  have hne2 : (((c.fns.length : Int)) = 0) = False := eq_false (by omega)
  generalize hBB : bxC w c = B at *
  have HBB := hideIt hBB
  clear hcok hBB hf hv hfk hT h60 hs hfat HFN
  rcases c with ⟨gl, ini, fns, ga, gc, na, nc, fa, fc⟩
  dsimp only [PC.v] at *
  subst efa
  go_enter Tryd.func6, Tryd.ntmps6
  go_wp2_with (fail)
  rw [show w.alloc (.cells #[.slice ga gl.length gc, .slice na ini.length nc, .slice (some ⟨fb, fo, none⟩) fns.length fc] 26) = B from HBB.out]
  go_wp2_with (first
    | (go_at_call 8; refine Calls.mono (CA.out _ (Q.refl _)) ?_; rintro e x1 ⟨rfl, q1⟩; have HX := hideIt q1; obtain ⟨s1, s2, s3⟩ := HB.out x1 q1; clear q1)
    | (go_at_call 9; refine Calls.mono (CF.out _ HX.out) ?_; rintro e y ⟨rfl, q1⟩; have HW := hideIt (HX.out.trans q1); clear q1 s1 s2 s3; obtain ⟨s1, s2, s3⟩ := HB.out y HW.out)
    | (go_at_call 11; refine Calls.mono (CV.out _ HW.out) ?_; rintro e y2 ⟨rfl, q1⟩; have HY := hideIt (HW.out.trans q1); clear q1 s1 s2 s3; obtain ⟨s1, s2, s3⟩ := HB.out y2 HY.out)
    | (go_at_call 10; refine Calls.mono (CP.out _ HY.out) ?_; rintro e y3 ⟨bi, bo, rfl, q1, h1, h2⟩; have HZ := hideIt (HY.out.trans q1); have HI := hideIt h1; clear q1 s1 s2 s3 h1 h2; obtain ⟨s1, s2, s3⟩ := HB.out y3 HZ.out; obtain ⟨f0, f1, f2, f3⟩ := (FAT.out y3 HZ.out).1.four)
    | fail)
  go_loopw [9] (fun iv z => ∃ i : Nat, iv = .int .i64 (i : Int) ∧ i ≤ f.parts.length ∧ Hid (Q y3 z)) (fun iv _ => f.parts.length - (intOf iv).toNat)
  case atStart => exact ⟨0, rfl, Nat.zero_le _, hideIt (Q.refl _)⟩
  case round =>
    obtain ⟨i, rfl, hi, HQ⟩ := hrel
    generalize wr = z at *
    clear s1 s2 s3 f0 f1 f2 f3
    have HZZ := hideIt (HZ.out.trans HQ.out)
    by_cases hil : i < f.parts.length
    · have hil2 : (i : Int) < (f.parts.length : Int) := by omega
      obtain ⟨p, hp⟩ := get_of_lt hil
      obtain ⟨s1, s2, s3⟩ := HB.out z HZZ.out
      obtain ⟨-, -, -, f3⟩ := (FAT.out z HZZ.out).1.four
      obtain ⟨pb, po, epa, hpat⟩ := (FAT.out z HZZ.out).2.parts i p hp
      rw [epa] at f3
      obtain ⟨a0, a1, a2, a3, a4⟩ := hpat.1.five
      obtain ⟨v, cv, sv⟩ := HI.out i hil
      obtain ⟨va, vn, vc, rfl⟩ := sv.form
      replace cv := cell_keep HQ.out cv
      have SV := hideIt (sv.keep HQ.out)
      have HP := hideIt hp
      have POK := hideIt hpat.2
      have hci := hpat.2.cond
      have hpn : p.ins.length ≤ 9223372036854775807 := hpat.2.sok.len
      obtain ⟨X, hX⟩ : ∃ X, z.alloc (.cells #[.slice p.ia p.ins.length p.ic, .bool p.e, .int .i64 p.cond, .int .i64 p.next, .int .i64 p.els] 49) = X := ⟨_, rfl⟩
      have qX : Q z X := by rw [← hX]; exact (Q.refl z).alloc _
      have bx : X.heap[z.heap.size]? = some (.cells #[.slice p.ia p.ins.length p.ic, .bool p.e, .int .i64 p.cond, .int .i64 p.next, .int .i64 p.els] 49 (0, 0)) := by rw [← hX]; exact heap_alloc_new z _
      have b0 : X.cell? ⟨z.heap.size, 0, none⟩ = some (.slice p.ia p.ins.length p.ic) := (cell_of_block bx 0).trans rfl
      have b2 : X.cell? ⟨z.heap.size, 2, none⟩ = some (.int .i64 p.cond) := (cell_of_block bx 2).trans rfl
      have QX := hideIt qX
      have cvX := cell_keep qX cv
      clear hp epa hpat sv qX bx
      by_cases hin : p.ins.length = 0
      · have hin1 : ((p.ins.length : Int) == 0) = true := by rw [beq_iff_eq]; omega
        have hinl : Hid (p.ins = []) := List.length_eq_zero_iff.1 hin
        clear hin
        by_cases hc : 0 ≤ p.cond
        · have CH := hideIt (fun Y (q : Q X Y) => set_has ((SV.out.keep QX.out).keep q) p.cond hci)
          rw [cond_live HP.out hinl.out hc, show decide (0 ≤ p.cond) = true from decide_eq_true hc] at CH
          have hc1 : decide (p.cond ≥ 0) = true := decide_eq_true hc
          go_wp2_with (fail)
          go_region_with (first | (go_at_call 17; refine Calls.mono (CH.out _ (by first | exact Q.refl _ | exact (Q.refl X).drew | exact (Q.refl X).drewN _)) ?_; rintro e y ⟨rfl, q1⟩; have QY : Hid (Q X y) := (by first | exact q1 | exact (Q.refl X).drew.trans q1 | exact ((Q.refl X).drewN _).trans q1); clear q1))
          all_goals go_wp2_with (fail)
          all_goals exact ⟨⟨i + 1, by go_num, by omega, hideIt ((HQ.out.trans QX.out).trans QY.out)⟩, by simp [intOf]; omega⟩
        · have hc1 : decide (p.cond ≥ 0) = false := decide_eq_false hc
          have hc2 : ¬ p.cond ≥ 0 := hc
          have hc3 : p.cond < 0 := by omega
          go_wp2_with (fail)
          go_quiet (fail)
          go_wp2_with (fail)
          exact ⟨⟨i + 1, by go_num, by omega, hideIt ((HQ.out.trans QX.out).drewN _)⟩, by simp [intOf]; omega⟩
      · have hin1 : ((p.ins.length : Int) == 0) = false := by rw [beq_eq_false_iff_ne]; omega
        have hin2 : (0 : Int) < (p.ins.length : Int) := by omega
        obtain ⟨x, hx⟩ := get_of_lt (l := p.ins) (k := 0) (by omega)
        obtain ⟨ib, io, eia, hiat⟩ := POK.out.ins 0 x hx
        rw [eia] at b0
        have hiX := hiat.keep QX.out
        obtain ⟨c0, c1, c2, c3, c4, c5, c6⟩ := hiX.1.seven
        simp only [Nat.zero_mul, Nat.add_zero] at c0 c1 c2 c3 c4 c5 c6
        have CU := hideIt (ruses_any x X hiX.2)
        have HX0 := hideIt hx
        have hub : Hid ((usesP x).length ≤ 9223372036854775807) := by
          show (usesP x).length ≤ 9223372036854775807
          unfold usesP
          split
          · exact hiX.2.sok.len
          · simp; omega
        have CH : Hid (∀ Y, Q X Y → ∀ (j : Nat) (u : Int), (usesP x)[j]? = some u → Calls Tryd.prog 17 #[.agg #[.slice va vn vc], .int .i64 u] Y fun e w' => e = .returned (.bool true) ∧ Q Y w') := fun Y q j u hu => by
          have hm := List.mem_of_getElem? hu
          obtain ⟨h0, h1⟩ := HU.out p x u (List.mem_of_getElem? HP.out) (List.mem_of_getElem? hx) hm
          have := set_has ((SV.out.keep QX.out).keep q) u h1
          rw [first_live HP.out hx hm, show decide (0 ≤ u) = true from decide_eq_true h0] at this
          exact this
        have HCV := hideIt cvX
        clear hin eia hiat hiX hx cvX
        rcases x with ⟨op, ty, dst, xa, xb, imm, args, aa, ac⟩
        dsimp only [PI.v] at *
        go_wp2_with (first | (go_at_call 18; refine Calls.mono CU.out ?_; rintro e y ⟨ao, cc, rfl, hints, q1⟩; have HIN := hideIt hints; have QY := hideIt q1; clear q1 hints) | fail)
        generalize usesP ⟨op, ty, dst, xa, xb, imm, args, aa, ac⟩ = L at *
        clear c0 c1 c2 c3 c4 c5 c6 b0 b2 hX a0 a1 a2 a3 a4 s1 s2 s3 f3 cv
        have hub2 := hub.out
        go_loopw [12] (fun jv z' => ∃ j : Nat, jv = .int .i64 (j : Int) ∧ j ≤ L.length ∧ Hid (Q y z')) (fun jv _ => L.length - (intOf jv).toNat)
        case atStart => exact ⟨0, rfl, Nat.zero_le _, hideIt (Q.refl _)⟩
        case round =>
          obtain ⟨j, rfl, hj, HJ⟩ := hrel
          generalize wr = z2 at *
          by_cases hjl : j < L.length
          · have hjl2 : (j : Int) < (L.length : Int) := by omega
            obtain ⟨u, hu⟩ := get_of_lt hjl
            obtain ⟨ub, uo, eao, hcu, -⟩ := HIN.out j u hu
            subst eao
            replace hcu := cell_keep HJ.out hcu
            have cv2 := cell_keep (QY.out.trans HJ.out) HCV.out
            have HCC : Hid (∀ Y, Q z2 Y → Y.cell? ⟨bi, i, none⟩ = some (.slice va vn vc) ∧ Y.cell? ⟨ub, uo + j, none⟩ = some (.int .i64 u)) := fun Y q => ⟨cell_keep (QY.out.trans (HJ.out.trans q)) HCV.out, by have := cell_keep q hcu; simpa using this⟩
            have CHJ : Hid (∀ Y, Q z2 Y → Calls Tryd.prog 17 #[.agg #[.slice va vn vc], .int .i64 u] Y fun e w' => e = .returned (.bool true) ∧ Q z2 w' ∧ w'.cell? ⟨bi, i, none⟩ = some (.slice va vn vc) ∧ w'.cell? ⟨ub, uo + j, none⟩ = some (.int .i64 u)) := fun Y q => (CH.out Y ((QY.out.trans HJ.out).trans q) j u hu).mono fun e w' ⟨e1, q1⟩ => ⟨e1, q.trans q1, HCC.out w' (q.trans q1)⟩
            clear hu hcu cv2
            obtain ⟨cv2, hcu⟩ := HCC.out z2 (Q.refl _)
            go_wp2_with (fail)
            first | go_region_held3 (fun y : World => Q z2 y ∧ y.cell? ⟨bi, i, none⟩ = some (.slice va vn vc) ∧ y.cell? ⟨ub, uo + j, none⟩ = some (.int .i64 u)) (first | exact ⟨(Q.refl _).drew, HCC.out _ (Q.refl _).drew⟩ | go_keep) (first | (go_at_call 17; refine Calls.mono (CHJ.out _ (by first | assumption | exact (Q.refl _).drew)) ?_; rintro e y4 ⟨rfl, t0, t1, t2⟩)) | fail
            all_goals rename_i hHeld
            all_goals have Q4 := hideIt hHeld.1
            all_goals clear hHeld
            all_goals go_wp2_with (fail)
            all_goals exact ⟨⟨j + 1, by go_num, by omega, hideIt (HJ.out.trans Q4.out)⟩, by simp [intOf]; omega⟩
          · have hjl2 : ¬ (j : Int) < (L.length : Int) := by omega
            go_wp2_with (fail)
            exact ⟨⟨i + 1, by go_num, by omega, hideIt (HQ.out.trans (QX.out.trans (QY.out.trans HJ.out)))⟩, by simp [intOf]; omega⟩
    · have hil2 : ¬ (i : Int) < (f.parts.length : Int) := by omega
      go_wp2_with (fail)
      go_ret
      exact ⟨rfl, qB.out.trans HZZ.out⟩

theorem reads_walk (c : PC) (n : Int) (w : World) (hcok : c.ok w) (hT : Tab w) (hs : codeN c ≤ 1099511627776) (hn : 0 ≤ n ∧ n ≤ 255) : Calls Tryd.prog 6 #[c.v, .int .u8 n] w fun e w' => e = .returned (.bool true) ∧ Below w.heap.size w w' := by
  cases hf : fewP c with
  | false => exact reads_few c n w hcok hT hf
  | true =>
    by_cases hv : validP c = 0
    · exact reads_good c n w hcok hT hf hv hs hn
    · exact reads_bad c n w hcok hT hf hv

end Go.Proofs.YtkcniahpkcdhoaaDoor.Lv
