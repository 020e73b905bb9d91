/-
  The statement LiveReads: its walk over the program; the conditions: the code lies in memory and is small, the library's table is laid.
  The statement LiveKeeps: its walk over the program; the conditions: the code lies in memory and is small, the library's table is laid.
-/
import Derived.Test.YtdiidmmmemmjjaaDoorKLvZj
namespace Go.Proofs.YtdiidmmmemmjjaaDoor.Lv
open Go.RowKit
set_option linter.unusedVariables false

/-- Right code that is small has few instructions. -/
theorem few_count {c : PC} (hv : validP c = 0) (hs : codeN c ≤ 1099511627776) : codeN c ≤ 60000 := by
  have h0 : 0 ≤ codeN c := by
    unfold codeN
    induction c.fns with
    | nil => simp
    | cons g l ih => have := fnN_nonneg g; simp only [List.map_cons, List.sum_cons]; omega
  have hw : IntKind.i64.wrap (codeN c) = codeN c := by rw [IntKind.wrap_i64]; omega
  unfold validP at hv
  split at hv
  · omega
  · rename_i h
    rw [hw] at h
    omega
theorem right_some {c : PC} (hv : validP c = 0) : 0 < c.fns.length := by
  cases hl : c.fns with
  | cons f l => simp
  | nil =>
    exfalso
    unfold validP at hv
    split at hv
    · omega
    · split at hv
      · rename_i hr
        unfold rightP hdP at hr
        simp [hl, lastP] at hr
      · omega
/-- What a part's first instruction reads is live at its beginning. -/
theorem first_live {l : List PP} {k : Nat} {p : PP} (hp : l[k]? = some p) {x : PI} (hx : p.ins[0]? = some x) {u : Int} (hu : u ∈ usesP x) : liB l k u.toNat = true :=
  (liB_iff _ _ _).2 (LiveR.read hp (Or.inl ⟨0, x, hx, ⟨u, hu, rfl⟩, by simp [WtL]⟩))
theorem cond_live {l : List PP} {k : Nat} {p : PP} (hp : l[k]? = some p) (hi : p.ins = []) (hc : 0 ≤ p.cond) : liB l k p.cond.toNat = true :=
  (liB_iff _ _ _).2 (LiveR.read hp (Or.inr ⟨by omega, rfl, by simp [WtL, hi]⟩))
theorem uses_right {c : PC} (hv : validP c = 0) {fn : Nat} {f : PF} (hf : c.fns[fn]? = some f) {p : PP} (hp : p ∈ f.parts) {x : PI} (hx : x ∈ p.ins) {u : Int} (hu : u ∈ usesP x) : 0 ≤ u ∧ u < f.regs := by
  have hfn := right_fn hv hf
  unfold fnP at hfn
  rw [Bool.and_eq_true] at hfn
  have h2 := List.all_eq_true.1 hfn.2 p hp
  unfold ptP at h2
  rw [Bool.and_eq_true] at h2
  have h4 := List.all_eq_true.1 h2.2 x hx
  rw [insP_eq] at h4
  simp only [Bool.and_eq_true] at h4
  exact blP_iff.1 (List.all_eq_true.1 h4.2.1 u hu)

set_option maxRecDepth 100000 in
set_option maxHeartbeats 16000000 in
theorem reads_good (c : PC) (n : Int) (w : World) (hcok : c.ok w) (hT : Tab w) (hf : fewP c = true) (hv : validP c = 0) (hs : codeN c ≤ 1099511627776) (hn : 0 ≤ n ∧ n ≤ 255) : Calls Tryd.prog 6 #[c.v, .int .u8 n] w fun e w' => e = .returned (.bool true) ∧ Below w.heap.size w w' := by
  have hlen0 := right_some hv
  have hlen1 : c.fns.length ≤ 9223372036854775807 := hcok.fsok.len
  obtain ⟨k, hk, hkl⟩ : ∃ k : Nat, n.tmod (c.fns.length : Int) = (k : Int) ∧ k < c.fns.length := by
    rw [Int.tmod_eq_emod_of_nonneg (by omega)]
    have h1 := Int.emod_nonneg n (show (c.fns.length : Int) ≠ 0 by omega)
    have h2 := Int.emod_lt_of_pos n (show (0 : Int) < (c.fns.length : Int) by omega)
    exact ⟨(n % (c.fns.length : Int)).toNat, by omega, by omega⟩
  obtain ⟨f, hfk⟩ := get_of_lt hkl
  have h60 := few_count hv hs
  have HB : Hid (∀ X, Q (bxC w c) X → Cds X w.heap.size c) := fun X h => (cds_box w c).keep h
  have qB := hideIt (bxC_q w c)
  have HFN : Hid (∀ X, Q (bxC w c) X → Fns X c.fa c.fns) := fun X h => Fns.keep ((bxC_q w c).trans h) hcok.fns
  have CA : Hid (∀ X, Q (bxC w c) X → Calls Tryd.prog 8 #[] X fun e w' => e = .returned (.bool true) ∧ Q X w') := fun X h => awake_any X (hT.keep ((bxC_q w c).trans h))
  have CF : Hid (∀ X, Q (bxC w c) X → Calls Tryd.prog 9 #[c.v] X fun e w' => e = .returned (.bool true) ∧ Q X w') := fun X h => by have := few_any X c (hcok.keep ((bxC_q w c).trans h)); rw [hf] at this; exact this
  have CV : Hid (∀ X, Q (bxC w c) X → Calls Tryd.prog 11 #[c.v] X fun e w' => e = .returned (.int .i64 0) ∧ Q X w') := fun X h => by have := rvalid_any X c (hcok.keep ((bxC_q w c).trans h)); rw [hv] at this; exact this
  have CP : Hid (∀ X, Q (bxC w c) X → Calls Tryd.prog 10 #[c.v, .int .i64 (k : Int)] X (PartsP f X)) := fun X h => parts_is X c (hcok.keep ((bxC_q w c).trans h)) hv k f hfk h60
  have HU : Hid (∀ (p : PP) (x : PI) (u : Int), p ∈ f.parts → x ∈ p.ins → u ∈ usesP x → 0 ≤ u ∧ I64 u) := fun p x u h1 h2 h3 => by
    have h4 := uses_right hv hfk h1 h2 h3
    have h5 : f.regs ≤ 20000 := by
      have hfn := right_fn hv hfk
      unfold fnP headP at hfn
      simp only [Bool.and_eq_true, Bool.not_eq_true', decide_eq_false_iff_not] at hfn
      obtain ⟨⟨h1, h2, h3, -⟩, -⟩ := hfn
      omega
    exact ⟨h4.1, by unfold I64; omega⟩
  obtain ⟨fb, fo, efa, hfat⟩ := hcok.fns k f hfk
  have hpl : f.parts.length ≤ 9223372036854775807 := hfat.2.psok.len
  have FAT : Hid (∀ X, Q (bxC w c) X → FnAt X fb (fo + k * 4) f) := fun X h => hfat.keep ((bxC_q w c).trans h)
  have hkl2 : (k : Int) < (c.fns.length : Int) := by omega
  have hne : ((c.fns.length : Int) == 0) = false := by rw [beq_eq_false_iff_ne]; omega
  have hne2 : (((c.fns.length : Int)) = 0) = False := eq_false (by omega)
  generalize hBB : bxC w c = B at *
  have HBB := hideIt hBB
  clear hcok hBB hf hv hfk hT h60 hs hfat HFN
  rcases c with ⟨gl, ini, fns, ga, gc, na, nc, fa, fc⟩
  dsimp only [PC.v] at *
  subst efa
  go_enter Tryd.func6, Tryd.ntmps6
  go_wp2_with (fail)
  rw [show w.alloc (.cells #[.slice ga gl.length gc, .slice na ini.length nc, .slice (some ⟨fb, fo, none⟩) fns.length fc] 26) = B from HBB.out]
  go_wp2_with (first
    | (go_at_call 8; refine Calls.mono (CA.out _ (Q.refl _)) ?_; rintro e x1 ⟨rfl, q1⟩; have HX := hideIt q1; obtain ⟨s1, s2, s3⟩ := HB.out x1 q1; clear q1)
    | (go_at_call 9; refine Calls.mono (CF.out _ HX.out) ?_; rintro e y ⟨rfl, q1⟩; have HW := hideIt (HX.out.trans q1); clear q1 s1 s2 s3; obtain ⟨s1, s2, s3⟩ := HB.out y HW.out)
    | (go_at_call 11; refine Calls.mono (CV.out _ HW.out) ?_; rintro e y2 ⟨rfl, q1⟩; have HY := hideIt (HW.out.trans q1); clear q1 s1 s2 s3; obtain ⟨s1, s2, s3⟩ := HB.out y2 HY.out)
    | (go_at_call 10; refine Calls.mono (CP.out _ HY.out) ?_; rintro e y3 ⟨bi, bo, rfl, q1, h1, h2⟩; have HZ := hideIt (HY.out.trans q1); have HI := hideIt h1; clear q1 s1 s2 s3 h1 h2; obtain ⟨s1, s2, s3⟩ := HB.out y3 HZ.out; obtain ⟨f0, f1, f2, f3⟩ := (FAT.out y3 HZ.out).1.four)
    | fail)
  go_loopw [9] (fun iv z => ∃ i : Nat, iv = .int .i64 (i : Int) ∧ i ≤ f.parts.length ∧ Hid (Q y3 z)) (fun iv _ => f.parts.length - (intOf iv).toNat)
  case atStart => exact ⟨0, rfl, Nat.zero_le _, hideIt (Q.refl _)⟩
  case round =>
    obtain ⟨i, rfl, hi, HQ⟩ := hrel
    generalize wr = z at *
    clear s1 s2 s3 f0 f1 f2 f3
    have HZZ := hideIt (HZ.out.trans HQ.out)
    by_cases hil : i < f.parts.length
    · have hil2 : (i : Int) < (f.parts.length : Int) := by omega
      obtain ⟨p, hp⟩ := get_of_lt hil
      obtain ⟨s1, s2, s3⟩ := HB.out z HZZ.out
      obtain ⟨-, -, -, f3⟩ := (FAT.out z HZZ.out).1.four
      obtain ⟨pb, po, epa, hpat⟩ := (FAT.out z HZZ.out).2.parts i p hp
      rw [epa] at f3
      obtain ⟨a0, a1, a2, a3, a4⟩ := hpat.1.five
      obtain ⟨v, cv, sv⟩ := HI.out i hil
      obtain ⟨va, vn, vc, rfl⟩ := sv.form
      replace cv := cell_keep HQ.out cv
      have SV := hideIt (sv.keep HQ.out)
      have HP := hideIt hp
      have POK := hideIt hpat.2
      have hci := hpat.2.cond
      have hpn : p.ins.length ≤ 9223372036854775807 := hpat.2.sok.len
      obtain ⟨X, hX⟩ : ∃ X, z.alloc (.cells #[.slice p.ia p.ins.length p.ic, .bool p.e, .int .i64 p.cond, .int .i64 p.next, .int .i64 p.els] 49) = X := ⟨_, rfl⟩
      have qX : Q z X := by rw [← hX]; exact (Q.refl z).alloc _
      have bx : X.heap[z.heap.size]? = some (.cells #[.slice p.ia p.ins.length p.ic, .bool p.e, .int .i64 p.cond, .int .i64 p.next, .int .i64 p.els] 49 (0, 0)) := by rw [← hX]; exact heap_alloc_new z _
      have b0 : X.cell? ⟨z.heap.size, 0, none⟩ = some (.slice p.ia p.ins.length p.ic) := (cell_of_block bx 0).trans rfl
      have b2 : X.cell? ⟨z.heap.size, 2, none⟩ = some (.int .i64 p.cond) := (cell_of_block bx 2).trans rfl
      have QX := hideIt qX
      have cvX := cell_keep qX cv
      clear hp epa hpat sv qX bx
      by_cases hin : p.ins.length = 0
      · have hin1 : ((p.ins.length : Int) == 0) = true := by rw [beq_iff_eq]; omega
        have hinl : Hid (p.ins = []) := List.length_eq_zero_iff.1 hin
        clear hin
        by_cases hc : 0 ≤ p.cond
        · have CH := hideIt (fun Y (q : Q X Y) => set_has ((SV.out.keep QX.out).keep q) p.cond hci)
          rw [cond_live HP.out hinl.out hc, show decide (0 ≤ p.cond) = true from decide_eq_true hc] at CH
          have hc1 : decide (p.cond ≥ 0) = true := decide_eq_true hc
          go_wp2_with (fail)
          go_region_with (first | (go_at_call 17; refine Calls.mono (CH.out _ (by first | exact Q.refl _ | exact (Q.refl X).drew | exact (Q.refl X).drewN _)) ?_; rintro e y ⟨rfl, q1⟩; have QY : Hid (Q X y) := (by first | exact q1 | exact (Q.refl X).drew.trans q1 | exact ((Q.refl X).drewN _).trans q1); clear q1))
          all_goals go_wp2_with (fail)
          all_goals exact ⟨⟨i + 1, by go_num, by omega, hideIt ((HQ.out.trans QX.out).trans QY.out)⟩, by simp [intOf]; omega⟩
        · have hc1 : decide (p.cond ≥ 0) = false := decide_eq_false hc
          have hc2 : ¬ p.cond ≥ 0 := hc
          have hc3 : p.cond < 0 := by omega
          go_wp2_with (fail)
          go_quiet (fail)
          go_wp2_with (fail)
          exact ⟨⟨i + 1, by go_num, by omega, hideIt ((HQ.out.trans QX.out).drewN _)⟩, by simp [intOf]; omega⟩
      · have hin1 : ((p.ins.length : Int) == 0) = false := by rw [beq_eq_false_iff_ne]; omega
        have hin2 : (0 : Int) < (p.ins.length : Int) := by omega
        obtain ⟨x, hx⟩ := get_of_lt (l := p.ins) (k := 0) (by omega)
        obtain ⟨ib, io, eia, hiat⟩ := POK.out.ins 0 x hx
        rw [eia] at b0
        have hiX := hiat.keep QX.out
        obtain ⟨c0, c1, c2, c3, c4, c5, c6⟩ := hiX.1.seven
        simp only [Nat.zero_mul, Nat.add_zero] at c0 c1 c2 c3 c4 c5 c6
        have CU := hideIt (ruses_any x X hiX.2)
        have HX0 := hideIt hx
        have hub : Hid ((usesP x).length ≤ 9223372036854775807) := by
          show (usesP x).length ≤ 9223372036854775807
          unfold usesP
          split
          · exact hiX.2.sok.len
          · simp; omega
        have CH : Hid (∀ Y, Q X Y → ∀ (j : Nat) (u : Int), (usesP x)[j]? = some u → Calls Tryd.prog 17 #[.agg #[.slice va vn vc], .int .i64 u] Y fun e w' => e = .returned (.bool true) ∧ Q Y w') := fun Y q j u hu => by
          have hm := List.mem_of_getElem? hu
          obtain ⟨h0, h1⟩ := HU.out p x u (List.mem_of_getElem? HP.out) (List.mem_of_getElem? hx) hm
          have := set_has ((SV.out.keep QX.out).keep q) u h1
          rw [first_live HP.out hx hm, show decide (0 ≤ u) = true from decide_eq_true h0] at this
          exact this
        have HCV := hideIt cvX
        clear hin eia hiat hiX hx cvX
        rcases x with ⟨op, ty, dst, xa, xb, imm, args, aa, ac⟩
        dsimp only [PI.v] at *
        go_wp2_with (first | (go_at_call 18; refine Calls.mono CU.out ?_; rintro e y ⟨ao, cc, rfl, hints, q1⟩; have HIN := hideIt hints; have QY := hideIt q1; clear q1 hints) | fail)
        generalize usesP ⟨op, ty, dst, xa, xb, imm, args, aa, ac⟩ = L at *
        clear c0 c1 c2 c3 c4 c5 c6 b0 b2 hX a0 a1 a2 a3 a4 s1 s2 s3 f3 cv
        have hub2 := hub.out
        go_loopw [12] (fun jv z' => ∃ j : Nat, jv = .int .i64 (j : Int) ∧ j ≤ L.length ∧ Hid (Q y z')) (fun jv _ => L.length - (intOf jv).toNat)
        case atStart => exact ⟨0, rfl, Nat.zero_le _, hideIt (Q.refl _)⟩
        case round =>
          obtain ⟨j, rfl, hj, HJ⟩ := hrel
          generalize wr = z2 at *
          by_cases hjl : j < L.length
          · have hjl2 : (j : Int) < (L.length : Int) := by omega
            obtain ⟨u, hu⟩ := get_of_lt hjl
            obtain ⟨ub, uo, eao, hcu, -⟩ := HIN.out j u hu
            subst eao
            replace hcu := cell_keep HJ.out hcu
            have cv2 := cell_keep (QY.out.trans HJ.out) HCV.out
            have HCC : Hid (∀ Y, Q z2 Y → Y.cell? ⟨bi, i, none⟩ = some (.slice va vn vc) ∧ Y.cell? ⟨ub, uo + j, none⟩ = some (.int .i64 u)) := fun Y q => ⟨cell_keep (QY.out.trans (HJ.out.trans q)) HCV.out, by have := cell_keep q hcu; simpa using this⟩
            have CHJ : Hid (∀ Y, Q z2 Y → Calls Tryd.prog 17 #[.agg #[.slice va vn vc], .int .i64 u] Y fun e w' => e = .returned (.bool true) ∧ Q z2 w' ∧ w'.cell? ⟨bi, i, none⟩ = some (.slice va vn vc) ∧ w'.cell? ⟨ub, uo + j, none⟩ = some (.int .i64 u)) := fun Y q => (CH.out Y ((QY.out.trans HJ.out).trans q) j u hu).mono fun e w' ⟨e1, q1⟩ => ⟨e1, q.trans q1, HCC.out w' (q.trans q1)⟩
            clear hu hcu cv2
            obtain ⟨cv2, hcu⟩ := HCC.out z2 (Q.refl _)
            go_wp2_with (fail)
            first | go_region_held3 (fun y : World => Q z2 y ∧ y.cell? ⟨bi, i, none⟩ = some (.slice va vn vc) ∧ y.cell? ⟨ub, uo + j, none⟩ = some (.int .i64 u)) (first | exact ⟨(Q.refl _).drew, HCC.out _ (Q.refl _).drew⟩ | go_keep) (first | (go_at_call 17; refine Calls.mono (CHJ.out _ (by first | assumption | exact (Q.refl _).drew)) ?_; rintro e y4 ⟨rfl, t0, t1, t2⟩)) | fail
            all_goals rename_i hHeld
            all_goals have Q4 := hideIt hHeld.1
            all_goals clear hHeld
            all_goals go_wp2_with (fail)
            all_goals exact ⟨⟨j + 1, by go_num, by omega, hideIt (HJ.out.trans Q4.out)⟩, by simp [intOf]; omega⟩
          · have hjl2 : ¬ (j : Int) < (L.length : Int) := by omega
            go_wp2_with (fail)
            exact ⟨⟨i + 1, by go_num, by omega, hideIt (HQ.out.trans (QX.out.trans (QY.out.trans HJ.out)))⟩, by simp [intOf]; omega⟩
    · have hil2 : ¬ (i : Int) < (f.parts.length : Int) := by omega
      go_wp2_with (fail)
      go_ret
      exact ⟨rfl, qB.out.trans HZZ.out⟩

theorem reads_walk (c : PC) (n : Int) (w : World) (hcok : c.ok w) (hT : Tab w) (hs : codeN c ≤ 1099511627776) (hn : 0 ≤ n ∧ n ≤ 255) : Calls Tryd.prog 6 #[c.v, .int .u8 n] w fun e w' => e = .returned (.bool true) ∧ Below w.heap.size w w' := by
  cases hf : fewP c with
  | false => exact reads_few c n w hcok hT hf
  | true =>
    by_cases hv : validP c = 0
    · exact reads_good c n w hcok hT hf hv hs hn
    · exact reads_bad c n w hcok hT hf hv

end Go.Proofs.YtdiidmmmemmjjaaDoor.Lv

namespace Go.Proofs.YtdiidmmmemmjjaaDoor.Lv
open Go.RowKit
set_option linter.unusedVariables false

/-- A number of one's own list is written over. -/
theorem own_set {w z : World} {g c : Nat} {M : List Int} (hq : Q w z) (h : OwnI w.heap.size z (.slice (some ⟨g, 0, none⟩) M.length c) M) {j : Nat} (hj : j < M.length) (u : Int) : (∃ u0, z.cell? ⟨g, j, none⟩ = some (.int .i64 u0)) ∧ z.frozen? ⟨g, j, none⟩ = false ∧ Q w (z.setCell ⟨g, j, none⟩ (.int .i64 u)) ∧ OwnI w.heap.size (z.setCell ⟨g, j, none⟩ (.int .i64 u)) (.slice (some ⟨g, 0, none⟩) (M.set j u).length c) (M.set j u) := by
  have hc : z.cell? ⟨g, j, none⟩ = some (.int .i64 (M[j]'hj)) := by
    rw [h.cellAt j (by omega)]
    simp [mapI, hj]
  have hg : w.heap.size ≤ g := (h.lt g rfl).1
  refine ⟨⟨_, hc⟩, h.frozenAt j, ⟨hq.os, hq.tape, hq.output, by have := hq.size; simpa using this, fun b hb => ?_⟩, ?_⟩
  · rw [Below.heap_setCell z ⟨g, j, none⟩ _ b (by show b ≠ g; omega)]
    exact hq.block b hb
  · obtain ⟨h1, h2 | ⟨g', cap, cur, e1, e2, e3, e4, e5, e6, e7⟩⟩ := h
    · cases h2.1
    · injection e1 with e1 _ e8
      injection e1 with e1
      injection e1 with e1 _
      subst e1
      subst e8
      refine ⟨by simp [mapI], Or.inr ⟨g, c, cur.setIfInBounds j (.int .i64 u), rfl, e2, block_set e3 _, by simpa using e4, e5, by simpa using e6, ?_⟩⟩
      have hjc : j < cur.size := by omega
      rw [Array.toList_setIfInBounds, List.take_set]
      simp only [List.length_set]
      rw [e7]
      simp [mapI, List.map_set]
noncomputable def Ls (f : PF) : List Int := (List.range f.parts.length).map (fun k => ((cnt (liB f.parts k) f.regs.toNat : Nat) : Int))
theorem Ls_len (f : PF) : (Ls f).length = f.parts.length := by simp [Ls]
theorem Ls_get (f : PF) {i : Nat} (h : i < f.parts.length) : (Ls f)[i]? = some ((cnt (liB f.parts i) f.regs.toNat : Nat) : Int) := by simp [Ls, h]
theorem Ls_take (f : PF) {i : Nat} (h : i < f.parts.length) : (Ls f).take (i + 1) = (Ls f).take i ++ [((cnt (liB f.parts i) f.regs.toNat : Nat) : Int)] := take_snoc (Ls_get f h)
theorem set_none (X : World) : SetIs X (.slice none 0 0) (fun _ => false) 0 := by
  refine ⟨[], ⟨by simp, Or.inl ⟨rfl, rfl⟩⟩, ⟨fun i j x y hi => by simp at hi, fun x hx => by simp at hx, fun x hx => by simp at hx⟩, by simp, fun r => ?_, rfl⟩
  rw [Bool.and_false]
  exact hasB_false _ _ (by rintro ⟨x, hx, -⟩; simp at hx)
theorem cnt_le (p : Nat → Bool) (n : Nat) : cnt p n ≤ n := by
  unfold cnt
  have := List.length_filter_le p (List.range n)
  simpa using this

set_option maxRecDepth 100000 in
set_option maxHeartbeats 40000000 in
theorem keeps_good (c : PC) (n r : Int) (w : World) (hcok : c.ok w) (hT : Tab w) (hf : fewP c = true) (hv : validP c = 0) (hs : codeN c ≤ 1099511627776) (hn : 0 ≤ n ∧ n ≤ 255) (hr : I64 r) : Calls Tryd.prog 5 #[c.v, .int .u8 n, .int .i64 r] w fun e w' => e = .returned (.bool true) ∧ Below w.heap.size w w' := by
  have hlen0 := right_some hv
  have hlen1 : c.fns.length ≤ 9223372036854775807 := hcok.fsok.len
  obtain ⟨k, hk, hkl⟩ : ∃ k : Nat, n.tmod (c.fns.length : Int) = (k : Int) ∧ k < c.fns.length := by
    rw [Int.tmod_eq_emod_of_nonneg (by omega)]
    have h1 := Int.emod_nonneg n (show (c.fns.length : Int) ≠ 0 by omega)
    have h2 := Int.emod_lt_of_pos n (show (0 : Int) < (c.fns.length : Int) by omega)
    exact ⟨(n % (c.fns.length : Int)).toNat, by omega, by omega⟩
  obtain ⟨f, hfk⟩ := get_of_lt hkl
  have h60 := few_count hv hs
  have hmany : f.parts.length ≤ 60000 := by
    have h1 := (fnN_le hfk).1
    have h2 := (wF_le (l := f.parts) (fun p hp x hx => by
      have hfn := right_fn hv hfk
      unfold fnP at hfn
      rw [Bool.and_eq_true] at hfn
      have hpt := List.all_eq_true.1 hfn.2 p hp
      unfold ptP at hpt
      rw [Bool.and_eq_true] at hpt
      have := List.all_eq_true.1 hpt.2 x hx
      unfold insP at this
      simp only [Bool.and_eq_true] at this
      exact wI_le hv this.2.2.2.2)).2
    have h3 : (f.parts.map partN).sum = fnN f := rfl
    rw [h3] at h2
    have h4 : codeN c = (c.fns.map fnN).sum := rfl
    omega
  have hregs : f.regs.toNat ≤ 20000 := by
    have hfn := right_fn hv hfk
    unfold fnP headP at hfn
    simp only [Bool.and_eq_true, Bool.not_eq_true', decide_eq_false_iff_not] at hfn
    obtain ⟨⟨h1, h2, h3, -⟩, -⟩ := hfn
    omega
  have HB : Hid (∀ X, Q (bxC w c) X → Cds X w.heap.size c) := fun X h => (cds_box w c).keep h
  have qB := hideIt (bxC_q w c)
  have CA : Hid (∀ X, Q (bxC w c) X → Calls Tryd.prog 8 #[] X fun e w' => e = .returned (.bool true) ∧ Q X w') := fun X h => awake_any X (hT.keep ((bxC_q w c).trans h))
  have CF : Hid (∀ X, Q (bxC w c) X → Calls Tryd.prog 9 #[c.v] X fun e w' => e = .returned (.bool true) ∧ Q X w') := fun X h => by have := few_any X c (hcok.keep ((bxC_q w c).trans h)); rw [hf] at this; exact this
  have CV : Hid (∀ X, Q (bxC w c) X → Calls Tryd.prog 11 #[c.v] X fun e w' => e = .returned (.int .i64 0) ∧ Q X w') := fun X h => by have := rvalid_any X c (hcok.keep ((bxC_q w c).trans h)); rw [hv] at this; exact this
  have CP : Hid (∀ X, Q (bxC w c) X → Calls Tryd.prog 10 #[c.v, .int .i64 (k : Int)] X (PartsP f X)) := fun X h => parts_is X c (hcok.keep ((bxC_q w c).trans h)) hv k f hfk h60
  have HT : Hid (∀ X, Q (bxC w c) X → Tab X) := fun X h => hT.keep ((bxC_q w c).trans h)
  have hkl2 : (k : Int) < (c.fns.length : Int) := by omega
  have hne : ((c.fns.length : Int) == 0) = false := by rw [beq_eq_false_iff_ne]; omega
  have hne2 : (((c.fns.length : Int)) = 0) = False := eq_false (by omega)
  generalize hBB : bxC w c = B at *
  have HBB := hideIt hBB
  clear hcok hBB hf hv hfk hT h60 hs
  rcases c with ⟨gl, ini, fns, ga, gc, na, nc, fa, fc⟩
  dsimp only [PC.v] at *
  obtain ⟨i0, ti, tz0, tz1, tz2⟩ := info_int
  have HTI := hideIt (And.intro ti (And.intro tz0 (And.intro tz1 tz2)))
  clear ti tz0 tz1 tz2
  go_enter Tryd.func5, Tryd.ntmps5
  go_wp2_with (fail)
  rw [show w.alloc (.cells #[.slice ga gl.length gc, .slice na ini.length nc, .slice fa fns.length fc] 26) = B from HBB.out]
  go_wp2_with (first
    | (go_at_call 8; refine Calls.mono (CA.out _ (Q.refl _)) ?_; rintro e x1 ⟨rfl, q1⟩; have HX := hideIt q1; obtain ⟨s1, s2, s3⟩ := HB.out x1 q1; clear q1)
    | (go_at_call 9; refine Calls.mono (CF.out _ HX.out) ?_; rintro e y ⟨rfl, q1⟩; have HW := hideIt (HX.out.trans q1); clear q1 s1 s2 s3; obtain ⟨s1, s2, s3⟩ := HB.out y HW.out)
    | (go_at_call 11; refine Calls.mono (CV.out _ HW.out) ?_; rintro e y2 ⟨rfl, q1⟩; have HY := hideIt (HW.out.trans q1); clear q1 s1 s2 s3; obtain ⟨s1, s2, s3⟩ := HB.out y2 HY.out)
    | (go_at_call 10; refine Calls.mono (CP.out _ HY.out) ?_; rintro e y3 ⟨bi, bo, rfl, q1, h1, h2⟩; have HZ := hideIt (HY.out.trans q1); have HI := hideIt h1; clear q1 s1 s2 s3 h1 h2)
    | fail)
  clear CA CF CV
  go_loopw [11, 12] (fun lv iv z => ∃ i : Nat, iv = .int .i64 (i : Int) ∧ i ≤ f.parts.length ∧ Hid (Q y3 z ∧ OwnI y3.heap.size z lv ((Ls f).take i))) (fun _ iv _ => f.parts.length - (intOf iv).toNat)
  case atStart => exact ⟨0, rfl, Nat.zero_le _, Q.refl _, by simpa using own_start y3.heap.size y3⟩
  case round =>
    obtain ⟨i, rfl, hi, HQ⟩ := hrel
    generalize wr = z at *
    by_cases hil : i < f.parts.length
    · have hil2 : (i : Int) < (f.parts.length : Int) := by omega
      obtain ⟨v, cv, sv⟩ := HI.out i hil
      obtain ⟨va, vn, vc, rfl⟩ := sv.form
      replace cv := cell_keep HQ.out.1 cv
      have CL := hideIt (set_list (sv.keep HQ.out.1) (HT.out z (HZ.out.trans HQ.out.1)))
      have HE := hideIt (Ls_take f hil)
      have hcn : cnt (liB f.parts i) f.regs.toNat ≤ 20000 := Nat.le_trans (cnt_le _ _) hregs
      have hml : ((Ls f).take i).length = i := by rw [List.length_take, Ls_len]; omega
      obtain ⟨la, lc, rfl⟩ := own_form HQ.out.2
      generalize cnt (liB f.parts i) f.regs.toNat = cn at *
      generalize (Ls f).take i = M at *
      have HM := hideIt (show M.length + 1 ≤ maxLen by unfold maxLen; omega)
      have HM2 := hideIt (show (M.length + 1) * 8 ≤ 140737488355328 by omega)
      clear sv hml
      go_wp2_with (first
        | (go_at_call 16; refine Calls.mono CL.out ?_; rintro e z1 ⟨ao, cc, rfl, -, q1⟩; have HQ1 := hideIt (HQ.out.1.trans q1); have HR1 := hideIt (OwnI.q HQ.out.2 q1); clear q1)
        | (at_builtin; refine wpList_append_lies _ rfl _ _ 22 rfl y3.heap.size 3 i0 (.int .i64 0) 1 8 Tryd.underlying22 HTI.out.1 HTI.out.2.1 HTI.out.2.2.1 HTI.out.2.2.2 rfl (by decide) (.slice la M.length lc) M.length (mapI M) rfl (OwnI.q HR1.out ((Q.refl z1).alloc _)) ⟨z1.heap.size, 0, none⟩ 1 1 [.int .i64 (cn : Int)] rfl rfl (World.news_of_block (heap_alloc_new z1 _)) (fun u hu => by simp at hu; subst hu; rfl) (by decide) HM.out HM2.out (by have := HQ1.out.size; simp; omega) (z1.heap.size + 1) (by simp) ?_; intro g2 cap2 w1 hown hgrow hat hlt; have HO := hideIt hown; have HG := hideIt (own_app HQ1.out HR1.out rfl rfl rfl rfl hgrow).1; clear hown hgrow hat)
        | fail)
      refine ⟨⟨i + 1, by go_num, by omega, HG.out, ?_⟩, by simp [intOf]; omega⟩
      rw [HE.out]
      show w1.ownsRow _ _ _ _ (M ++ [(cn : Int)]).length (mapI (M ++ [(cn : Int)]))
      simpa [mapI] using HO.out
    · have hil2 : ¬ (i : Int) < (f.parts.length : Int) := by omega
      have HE : Hid ((Ls f).take i = Ls f) := by
        show (Ls f).take i = Ls f
        rw [List.take_of_length_le]
        rw [Ls_len]
        omega
      have HO := hideIt HQ.out.2
      rw [HE.out] at HO
      have HQ0 := hideIt HQ.out.1
      obtain ⟨la, lc, rfl⟩ := own_form HO.out
      rw [Ls_len] at *
      obtain ⟨s1, s2, s3⟩ := HB.out z (HZ.out.trans HQ0.out)
      clear HQ HE
      go_wp2_with (first
        | (go_at_call 10; refine Calls.mono (CP.out z (HZ.out.trans HQ0.out)) ?_; rintro e y5 ⟨bj, bp, rfl, q1, h1, h2⟩; have HZ5 := hideIt (HQ0.out.trans q1); have HI5 := hideIt h1; have HO5 := hideIt (OwnI.q HO.out q1); clear q1 s1 s2 s3 h1 h2)
        | fail)
      go_loopw [16] (fun iv z' => ∃ i : Nat, iv = .int .i64 (i : Int) ∧ i ≤ f.parts.length ∧ Hid (Q y5 z')) (fun iv _ => f.parts.length - (intOf iv).toNat)
      case atStart => exact ⟨0, rfl, Nat.zero_le _, hideIt (Q.refl _)⟩
      case round =>
        obtain ⟨i2, rfl, hi2, HQ2⟩ := hrel
        generalize wr = z2 at *
        by_cases hjl : i2 < f.parts.length
        · have hjl2 : (i2 : Int) < (f.parts.length : Int) := by omega
          obtain ⟨v, cv, sv⟩ := HI.out i2 hjl
          obtain ⟨va, vn, vc, rfl⟩ := sv.form
          obtain ⟨v', cv', sv'⟩ := HI5.out i2 hjl
          obtain ⟨wa, wn, wc, rfl⟩ := sv'.form
          have Q32 : Q y3 z2 := HZ5.out.trans HQ2.out
          have HBQ : Hid (Q B z2) := HZ.out.trans Q32
          have HS1 := hideIt (sv.keep Q32)
          have HS2 := hideIt (sv'.keep HQ2.out)
          have HCV := hideIt (cell_keep Q32 cv)
          have HCV' := hideIt (cell_keep HQ2.out cv')
          obtain ⟨lg, hla, hlc⟩ : ∃ lg, la = some ⟨lg, 0, none⟩ ∧ z2.cell? ⟨lg, i2, none⟩ = some (.int .i64 ((cnt (liB f.parts i2) f.regs.toNat : Nat) : Int)) := by
            have ho := OwnI.q HO5.out HQ2.out
            obtain ⟨g, cap, e, -, -⟩ := ho.form (by rw [Ls_len]; omega)
            injection e with e _ _
            subst e
            refine ⟨g, rfl, ?_⟩
            have h1 : i2 < (Ls f).length := by rw [Ls_len]; exact hjl
            have ho2 : OwnI y3.heap.size z2 (.slice (some ⟨g, 0, none⟩) (Ls f).length lc) (Ls f) := by
              rw [Ls_len f]
              exact ho
            have := World.ownsRow.cellAt ho2 i2 (by rw [Nat.mul_one]; exact h1)
            rw [this]
            simp only [mapI, List.getElem?_map, Ls_get f hjl]
            rfl
          subst hla
          have HLC := hideIt hlc
          have hcn : cnt (liB f.parts i2) f.regs.toNat ≤ 20000 := Nat.le_trans (cnt_le _ _) hregs
          have CL := hideIt (set_list HS1.out (HT.out z2 HBQ.out))
          have cz := HCV.out
          have HML : Hid ((((List.range f.regs.toNat).filter (liB f.parts i2)).map (fun r : Nat => (r : Int))).length = cnt (liB f.parts i2) f.regs.toNat) := by
            show (((List.range f.regs.toNat).filter (liB f.parts i2)).map (fun r : Nat => (r : Int))).length = cnt (liB f.parts i2) f.regs.toNat
            rw [List.length_map]
            rfl
          generalize ((List.range f.regs.toNat).filter (liB f.parts i2)).map (fun r : Nat => (r : Int)) = M0 at *
          generalize hcnn : cnt (liB f.parts i2) f.regs.toNat = cn at *
          have HCN := hideIt hcnn
          clear sv sv' cv cv' Q32 hlc hcnn
          go_wp2_with (first
            | (go_at_call 16; refine Calls.mono CL.out ?_; rintro e u1 ⟨ao, cc, rfl, ho, q1⟩; have HU1 := hideIt q1; have HOM := hideIt ho; clear q1 ho cz)
            | fail)
          go_loopw [18] (fun jv z' => ∃ j : Nat, jv = .int .i64 (j : Int) ∧ j ≤ cn ∧ Hid (Q z2 z' ∧ ∃ M : List Int, M.length = cn ∧ OwnI z2.heap.size z' (.slice ao cn cc) M)) (fun jv _ => cn - (intOf jv).toNat)
          case atStart => exact ⟨0, rfl, Nat.zero_le _, HU1.out, M0, HML.out, HOM.out⟩
          case round =>
            obtain ⟨j, rfl, hj, HJ⟩ := hrel
            generalize wr = z3 at *
            by_cases hjc : j < cn
            · have hjc2 : (j : Int) < (cn : Int) := by omega
              obtain ⟨q3, M, hM, ho⟩ := HJ.out
              obtain ⟨g, cap, e, -, -⟩ := ho.form (by omega)
              injection e with e _ _
              subst e
              rw [← hM] at ho
              obtain ⟨⟨u0, t1⟩, t2, t3, t4⟩ := own_set q3 ho (by omega : j < M.length) (-1)
              have H3 := hideIt t3
              have H4 := hideIt t4
              have HM' := hideIt hM
              clear q3 ho t3 t4 hM
              go_wp2_with (fail)
              refine ⟨⟨j + 1, by go_num, by omega, H3.out, M.set j (-1), by rw [List.length_set]; exact HM'.out, ?_⟩, by simp [intOf]; omega⟩
              have := H4.out
              rw [List.length_set, HM'.out] at this
              show World.ownsRow _ _ _ _ _ (M.set j (-1)).length _
              rw [List.length_set, HM'.out]
              have h5 : (z3.setCell ⟨g, j, none⟩ (.int .i64 (-1))).ownsRow z2.heap.size 3 1 (.slice (some ⟨g, 0, none⟩) cn cc) (M.set j (-1)).length (mapI (M.set j (-1))) := this
              rw [List.length_set, HM'.out] at h5
              exact h5
            · have hjc2 : ¬ (j : Int) < (cn : Int) := by omega
              have Q3 := hideIt HJ.out.1
              have HCC : Hid (∀ Y, Q z3 Y → Y.cell? ⟨bi, i2, none⟩ = some (.slice va vn vc) ∧ Y.cell? ⟨bj, i2, none⟩ = some (.slice wa wn wc) ∧ Y.cell? ⟨lg, i2, none⟩ = some (.int .i64 (cn : Int))) := fun Y q => ⟨cell_keep (Q3.out.trans q) HCV.out, cell_keep (Q3.out.trans q) HCV'.out, cell_keep (Q3.out.trans q) HLC.out⟩
              have CL2 : Hid (∀ Y, Q z3 Y → ∀ v, (v = .slice va vn vc ∨ v = .slice wa wn wc) → Calls Tryd.prog 16 #[.agg #[v]] Y fun e w' => (∃ ao c, e = .returned (.slice ao cn c)) ∧ Q z3 w' ∧ w'.cell? ⟨bi, i2, none⟩ = some (.slice va vn vc) ∧ w'.cell? ⟨bj, i2, none⟩ = some (.slice wa wn wc) ∧ w'.cell? ⟨lg, i2, none⟩ = some (.int .i64 (cn : Int))) := fun Y q v hv => by
                have ht := HT.out Y (HBQ.out.trans (Q3.out.trans q))
                rcases hv with rfl | rfl
                · refine (set_list (HS1.out.keep (Q3.out.trans q)) ht).mono ?_
                  rintro e w' ⟨ao, c, rfl, -, q1⟩
                  rw [HCN.out]
                  exact ⟨⟨ao, c, rfl⟩, q.trans q1, HCC.out w' (q.trans q1)⟩
                · refine (set_list (HS2.out.keep (Q3.out.trans q)) ht).mono ?_
                  rintro e w' ⟨ao, c, rfl, -, q1⟩
                  rw [HCN.out]
                  exact ⟨⟨ao, c, rfl⟩, q.trans q1, HCC.out w' (q.trans q1)⟩
              obtain ⟨d1, d2, d3⟩ := HCC.out z3 (Q.refl _)
              clear HJ
              go_wp2_with (fail)
              first | go_region_held3 (fun y : World => Q z3 y ∧ y.cell? ⟨bi, i2, none⟩ = some (.slice va vn vc) ∧ y.cell? ⟨bj, i2, none⟩ = some (.slice wa wn wc) ∧ y.cell? ⟨lg, i2, none⟩ = some (.int .i64 (cn : Int))) (first | exact ⟨(Q.refl _).drew, HCC.out _ (Q.refl _).drew⟩ | go_keep) (first | (go_at_call 16; refine Calls.mono (CL2.out _ (by first | assumption | exact (Q.refl _).drew) _ (by first | exact Or.inl rfl | exact Or.inr rfl)) ?_; rintro e y7 ⟨⟨ao7, c7, rfl⟩, t0, t1, t2, t3⟩)) | fail
              all_goals rename_i hHeld
              all_goals have Q4 := hideIt hHeld.1
              all_goals clear hHeld
              all_goals go_wp2_with (fail)
              all_goals exact ⟨⟨i2 + 1, by go_num, by omega, hideIt (HQ2.out.trans (Q3.out.trans Q4.out))⟩, by simp [intOf]; omega⟩
        · have hjl2 : ¬ (i2 : Int) < (f.parts.length : Int) := by omega
          have CH := hideIt (fun X => set_has (set_none X) r hr)
          have CL := hideIt (fun X (h : Tab X) => set_list (set_none X) h)
          have HBQ : Hid (Q B z2) := HZ.out.trans (HZ5.out.trans HQ2.out)
          obtain ⟨X, hX⟩ : ∃ X, z2.alloc (.cells #[.slice none 0 0] 43) = X := ⟨_, rfl⟩
          have qX : Q z2 X := by rw [← hX]; exact (Q.refl z2).alloc _
          have bx : X.cell? ⟨z2.heap.size, 0, none⟩ = some (.slice none 0 0) := by rw [← hX]; exact (cell_of_block (heap_alloc_new z2 _) 0).trans rfl
          have QX := hideIt qX
          have BX := hideIt bx
          clear qX
          simp only [Bool.and_false] at CH
          have ec : cnt (fun _ => false) 0 = 0 := rfl
          rw [ec] at CL
          go_wp2_with (first
            | (go_at_call 17; refine Calls.mono (CH.out _) ?_; rintro e x5 ⟨rfl, q1⟩; have HX5 := hideIt (QX.out.trans q1); have cx := cell_keep q1 BX.out; clear q1 bx)
            | (go_at_call 16; refine Calls.mono (CL.out _ (HT.out _ (HBQ.out.trans HX5.out))) ?_; rintro e x6 ⟨ao6, c6, rfl, -, q1⟩; have HX6 := hideIt q1; clear q1)
            | fail)
          go_ret
          exact ⟨rfl, qB.out.trans (HBQ.out.trans (HX5.out.trans HX6.out))⟩

theorem keeps_walk (c : PC) (n r : Int) (w : World) (hcok : c.ok w) (hT : Tab w) (hs : codeN c ≤ 1099511627776) (hn : 0 ≤ n ∧ n ≤ 255) (hr : I64 r) : Calls Tryd.prog 5 #[c.v, .int .u8 n, .int .i64 r] w fun e w' => e = .returned (.bool true) ∧ Below w.heap.size w w' := by
  cases hf : fewP c with
  | false => exact keeps_few c n r w hcok hT hf
  | true =>
    by_cases hv : validP c = 0
    · exact keeps_good c n r w hcok hT hf hv hs hn hr
    · exact keeps_bad c n r w hcok hT hf hv

end Go.Proofs.YtdiidmmmemmjjaaDoor.Lv
