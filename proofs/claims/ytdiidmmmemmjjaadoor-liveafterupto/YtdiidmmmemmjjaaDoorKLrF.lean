/-
  The registers of a list of yes and no (List of the document's layer 19); is a set the document's (same of the statements): contracts over the program; the conditions: both lie in memory.
  The statement LiveParts: its walk over the program; the conditions: the code lies in memory and is small, the library's table is laid.
-/
import Derived.Test.YtdiidmmmemmjjaaDoorKLrD
import Derived.Deep.RegionWith
namespace Go.Proofs.YtdiidmmmemmjjaaDoor.Lv
open Go.RowKit
set_option linter.unusedVariables false

def regsB (G : Nat → Bool) (n : Nat) : List Int := ((List.range n).filter G).map (fun r : Nat => (r : Int))
theorem regsB_yes {G : Nat → Bool} {i : Nat} (h : G i = true) : regsB G (i + 1) = regsB G i ++ [(i : Int)] := by
  unfold regsB
  rw [List.range_succ, List.filter_append, List.map_append]
  simp [h]
theorem regsB_no {G : Nat → Bool} {i : Nat} (h : G i = false) : regsB G (i + 1) = regsB G i := by
  unfold regsB
  rw [List.range_succ, List.filter_append, List.map_append]
  simp [h]
theorem regsB_len (G : Nat → Bool) (i : Nat) : (regsB G i).length = cnt G i := by
  unfold regsB cnt
  rw [List.length_map]

set_option maxRecDepth 100000 in
set_option maxHeartbeats 8000000 in
theorem rlist_any (w : World) (v : Value) (n : Nat) (hn : n ≤ 20000) (G : Nat → Bool) (hv : RdB w v n G) :
    Calls Tryd.prog 28 #[v] w fun e w' => ∃ ao c, e = .returned (.slice ao (cnt G n) c) ∧ OwnI w.heap.size w' (.slice ao (cnt G n) c) (regsB G n) ∧ Q w w' := by
  obtain ⟨ao, cc, rfl, hrd⟩ := hv
  have HRD := hideIt hrd
  obtain ⟨i0, ti, tz0, tz1, tz2⟩ := info_int
  have HTI := hideIt (And.intro ti (And.intro tz0 (And.intro tz1 tz2)))
  clear hrd ti tz0 tz1 tz2
  go_enter Tryd.func28, Tryd.ntmps28
  go_wp2_with (fail)
  go_loopg [3, 4] (n + 1) (fun kx lv iv z => ∃ i : Nat, iv = .int .i64 (i : Int) ∧ i ≤ n ∧ n - i + 1 ≤ kx ∧ Hid (Q w z ∧ OwnI w.heap.size z lv (regsB G i)))
  case atStart => exact ⟨0, rfl, Nat.zero_le _, by omega, Q.refl _, own_start _ _⟩
  case round =>
    obtain ⟨i, rfl, hi, hik, HI⟩ := hrel
    generalize wr = z at *
    obtain ⟨la, lc, rfl⟩ := own_form HI.out.2
    by_cases hil : i < n
    · have hil2 : (i : Int) < (n : Int) := by omega
      obtain ⟨g0, eao, cg⟩ := HRD.out i hil
      replace cg := cell_keep HI.out.1 cg
      have hlen : (regsB G i).length ≤ i := by rw [regsB_len]; exact cnt_le _ _
      cases hg : G i with
      | false =>
        rw [hg] at cg
        have HE := hideIt (regsB_no hg)
        subst eao
        clear hg
        go_wp2_with (fail)
        go_roundg (n - (i + 1) + 1)
        case measure => omega
        case rel => exact ⟨i + 1, by first | rfl | go_num, by omega, Nat.le_refl _, HI.out.1, by rw [HE.out]; exact HI.out.2⟩
      | true =>
        rw [hg] at cg
        have HE := hideIt (regsB_yes hg)
        generalize regsB G i = M at *
        have HM := hideIt (show M.length + 1 ≤ maxLen by unfold maxLen; omega)
        have HM2 := hideIt (show (M.length + 1) * 8 ≤ 140737488355328 by omega)
        subst eao
        clear hg
        go_wp2_with (first
          | (at_builtin; refine wpList_append_lies _ rfl _ _ 22 rfl w.heap.size 3 i0 (.int .i64 0) 1 8 Tryd.underlying22 HTI.out.1 HTI.out.2.1 HTI.out.2.2.1 HTI.out.2.2.2 rfl (by decide) (.slice la M.length lc) M.length (mapI M) rfl (OwnI.q HI.out.2 ((Q.refl z).alloc _)) ⟨z.heap.size, 0, none⟩ 1 1 [.int .i64 (i : Int)] rfl rfl (World.news_of_block (heap_alloc_new z _)) (fun u hu => by simp at hu; subst hu; rfl) (by decide) HM.out HM2.out (by have := HI.out.1.size; simp; omega) (z.heap.size + 1) (by simp) ?_; intro g2 cap2 w1 hown hgrow hat hlt; have HO := hideIt hown; have HG := hideIt (own_app HI.out.1 HI.out.2 rfl rfl rfl rfl hgrow).1; clear hown hgrow hat)
          | fail)
        go_roundg (n - (i + 1) + 1)
        case measure => omega
        case rel =>
          refine ⟨i + 1, by first | rfl | go_num, by omega, Nat.le_refl _, HG.out, ?_⟩
          rw [HE.out]
          show w1.ownsRow _ _ _ _ (M ++ [(i : Int)]).length (mapI (M ++ [(i : Int)]))
          simpa [mapI] using HO.out
    · have hil2 : ¬ (i : Int) < (n : Int) := by omega
      obtain rfl : i = n := by omega
      go_wp2_with (fail)
      go_ret
      have H2 := HI.out.2
      rw [regsB_len] at H2
      exact ⟨la, lc, by rw [← regsB_len]; rfl, H2, HI.out.1⟩

/-- A number of one's own list. -/
theorem own_cell {base : Nat} {z : World} {ao : Option Addr} {m c : Nat} {M : List Int} (h : OwnI base z (.slice ao m c) M) {i : Nat} {u : Int} (hu : M[i]? = some u) : ∃ g, ao = some ⟨g, 0, none⟩ ∧ z.cell? ⟨g, i, none⟩ = some (.int .i64 u) := by
  have hl := (List.getElem?_eq_some_iff.1 hu).1
  obtain ⟨g, cap, e, -, -⟩ := h.form (by omega)
  injection e with e1 e2 e3
  subst e1
  subst e2
  refine ⟨g, rfl, ?_⟩
  rw [World.ownsRow.cellAt h i (by omega)]
  simp [mapI, hu]

set_option maxRecDepth 100000 in
set_option maxHeartbeats 16000000 in
theorem same_any (w : World) (v vb : Value) (p : Nat → Bool) (n : Nat) (hn : n ≤ 20000) (hs : SetIs w v p n) (hb : RdB w vb n p) (hp : ∀ r, p r = true → r < n) (hT : Tab w) :
    Calls Tryd.prog 13 #[.agg #[v], vb] w fun e w' => e = .returned (.bool true) ∧ Q w w' := by
  obtain ⟨va, vn, vc, rfl⟩ := hs.form
  obtain ⟨X, hX⟩ : ∃ X, bxS w (.slice va vn vc) = X := ⟨_, rfl⟩
  have qX : Q w X := by rw [← hX]; exact (Q.refl w).alloc _
  have b0 : X.cell? ⟨w.heap.size, 0, none⟩ = some (.slice va vn vc) := by rw [← hX]; exact (cell_of_block (heap_alloc_new w _) 0).trans rfl
  have HX : Hid (∀ Y, Q X Y → Y.cell? ⟨w.heap.size, 0, none⟩ = some (.slice va vn vc)) := fun Y q => cell_keep q b0
  have QX := hideIt qX
  have CL := hideIt (set_list (hs.keep qX) (hT.keep qX))
  have CB : Hid (∀ Y, Q X Y → Calls Tryd.prog 28 #[vb] Y fun e w' => ∃ ao c, e = .returned (.slice ao (cnt p n) c) ∧ OwnI Y.heap.size w' (.slice ao (cnt p n) c) (regsB p n) ∧ Q Y w') := fun Y q => rlist_any Y vb n hn p (hb.keep (qX.trans q))
  have CH : Hid (∀ Y, Q X Y → ∀ r : Int, I64 r → Calls Tryd.prog 17 #[.agg #[.slice va vn vc], .int .i64 r] Y fun e w' => e = .returned (.bool (decide (0 ≤ r) && p r.toNat)) ∧ Q Y w') := fun Y q r hr => set_has (hs.keep (qX.trans q)) r hr
  have hX' : w.alloc (.cells #[.slice va vn vc] 43) = X := hX
  have hcn : cnt p n ≤ 20000 := Nat.le_trans (cnt_le _ _) hn
  have HRL := hideIt (regsB_len p n)
  have HB := hideIt hb
  have hpn : p n = false := by
    cases h : p n with
    | false => rfl
    | true => have := hp n h; omega
  obtain ⟨ab, cb, rfl, -⟩ := hb
  have HPN := hideIt hpn
  clear hs hT hp hX qX hpn
  go_enter Tryd.func13, Tryd.ntmps13
  go_wp2_with (first
    | (go_at_call 16; refine Calls.mono CL.out ?_; rintro e y ⟨ao, c, rfl, ho, q1⟩; have QY := hideIt q1; have HO1 : Hid (OwnI X.heap.size y (.slice ao (cnt p n) c) (regsB p n)) := hideIt ho; clear q1 ho)
    | (go_at_call 28; refine Calls.mono (CB.out _ QY.out) ?_; rintro e y2 ⟨ao2, c2, rfl, ho, q1⟩; have QY2 := hideIt (QY.out.trans q1); have HO2 := hideIt ho; have HO1' := hideIt (OwnI.q HO1.out q1); clear q1 ho)
    | fail)
  generalize hcc : cnt p n = cn at *
  clear hX' b0 hcc
  go_loopg [7] (cn + 1) (fun kx iv z => ∃ i : Nat, iv = .int .i64 (i : Int) ∧ i ≤ cn ∧ cn - i + 1 ≤ kx ∧ Hid (Q y2 z))
  case atStart => exact ⟨0, rfl, Nat.zero_le _, by omega, hideIt (Q.refl _)⟩
  case round =>
    obtain ⟨i, rfl, hi, hik, HQ⟩ := hrel
    generalize wr = z at *
    by_cases hil : i < cn
    · have hil2 : (i : Int) < (cn : Int) := by omega
      obtain ⟨u, hu⟩ := get_of_lt (l := regsB p n) (k := i) (by rw [HRL.out]; exact hil)
      obtain ⟨g1, e1, k1⟩ := own_cell (OwnI.q HO1'.out HQ.out) hu
      obtain ⟨g2, e2, k2⟩ := own_cell (OwnI.q HO2.out HQ.out) hu
      subst e1
      subst e2
      clear hu
      go_wp2_with (fail)
      go_quiet (fail)
      go_wp2_with (fail)
      go_roundg (cn - (i + 1) + 1)
      case measure => omega
      case rel => exact ⟨i + 1, by first | rfl | go_num, by omega, Nat.le_refl _, hideIt (HQ.out.drewN _)⟩
    · have hil2 : ¬ (i : Int) < (cn : Int) := by omega
      have QZ := hideIt (QY2.out.trans HQ.out)
      clear HQ
      go_wp2_with (fail)
      go_loopg [8] (n + 1) (fun kx iv z' => ∃ r : Nat, iv = .int .i64 (r : Int) ∧ r ≤ n ∧ n - r + 1 ≤ kx ∧ Hid (Q X z'))
      case atStart => exact ⟨0, rfl, Nat.zero_le _, by omega, QZ⟩
      case round =>
        obtain ⟨r, rfl, hr1, hr2, HR⟩ := hrel
        generalize wr = z2 at *
        by_cases hrl : r < n
        · have hrl2 : (r : Int) < (n : Int) := by omega
          have HCC : Hid (∀ Y, Q z2 Y → ∃ g, ab = some ⟨g, 0, none⟩ ∧ Y.cell? ⟨w.heap.size, 0, none⟩ = some (.slice va vn vc) ∧ Y.cell? ⟨g, r, none⟩ = some (.bool (p r))) := fun Y q => by
            obtain ⟨ab', cb', e, h1⟩ := HB.out.keep (QX.out.trans (HR.out.trans q))
            injection e with e _ _
            subst e
            obtain ⟨g, e, hc⟩ := h1 r hrl
            exact ⟨g, e, HX.out Y (HR.out.trans q), hc⟩
          obtain ⟨gb, eab, d1, d2⟩ := HCC.out z2 (Q.refl _)
          subst eab
          have HCC' : Hid (∀ Y, Q z2 Y → Y.cell? ⟨w.heap.size, 0, none⟩ = some (.slice va vn vc) ∧ Y.cell? ⟨gb, r, none⟩ = some (.bool (p r))) := fun Y q => by
            obtain ⟨g, e, c1, c2⟩ := HCC.out Y q
            injection e with e
            injection e with e _
            subst e
            exact ⟨c1, c2⟩
          have CHR : Hid (∀ Y, Q z2 Y → Calls Tryd.prog 17 #[.agg #[.slice va vn vc], .int .i64 (r : Int)] Y fun e w' => e = .returned (.bool (p r)) ∧ Q z2 w' ∧ w'.cell? ⟨w.heap.size, 0, none⟩ = some (.slice va vn vc) ∧ w'.cell? ⟨gb, r, none⟩ = some (.bool (p r))) := fun Y q => by
            have h1 := CH.out Y (HR.out.trans q) (r : Int) (by unfold I64; omega)
            rw [show decide (0 ≤ (r : Int)) = true from decide_eq_true (by omega), Bool.true_and, Int.toNat_natCast] at h1
            exact h1.mono fun e w' ⟨e1, q1⟩ => ⟨e1, q.trans q1, HCC'.out w' (q.trans q1)⟩
          clear HCC
          generalize p r = pr at *
          go_wp2_with (fail)
          first | go_region_held3 (fun y : World => Q z2 y ∧ y.cell? ⟨w.heap.size, 0, none⟩ = some (.slice va vn vc) ∧ y.cell? ⟨gb, r, none⟩ = some (.bool pr)) (first | exact ⟨(Q.refl _).drew, HCC'.out _ (Q.refl _).drew⟩ | go_keep) (first | (go_at_call 17; refine Calls.mono (CHR.out _ (by first | assumption | exact (Q.refl _).drew)) ?_; rintro e y4 ⟨rfl, t0, t1, t2⟩)) | fail
          all_goals rename_i hHeld
          all_goals have Q4 := hideIt hHeld.1
          all_goals clear hHeld
          all_goals go_wp2_with (fail)
          all_goals (go_roundg (n - (r + 1) + 1); (case measure => omega); (case rel => exact ⟨r + 1, by first | rfl | go_num, by omega, Nat.le_refl _, hideIt (HR.out.trans Q4.out)⟩))
        · have hrl2 : ¬ (r : Int) < (n : Int) := by omega
          have C1 := hideIt (fun Y (q : Q X Y) => CH.out Y q (-1) (by unfold I64; omega))
          have C2 := hideIt (fun Y (q : Q X Y) => CH.out Y q (n : Int) (by unfold I64; omega))
          have f1 : (decide ((0 : Int) ≤ -1) && p (-1 : Int).toNat) = false := rfl
          have f2 : (decide ((0 : Int) ≤ (n : Int)) && p (n : Int).toNat) = false := by rw [Int.toNat_natCast, HPN.out, Bool.and_false]
          rw [f1] at C1
          rw [f2] at C2
          clear f1 f2
          have d1 := HX.out z2 HR.out
          go_wp2_with (fail)
          refine Calls.mono (C1.out _ HR.out) ?_
          rintro e y5 ⟨rfl, q1⟩
          have Q5 := hideIt (HR.out.trans q1)
          have d2 := HX.out y5 (HR.out.trans q1)
          clear q1 d1
          go_wp2_with (fail)
          refine Calls.mono (C2.out _ Q5.out) ?_
          rintro e y6 ⟨rfl, q1⟩
          have Q6 := hideIt (Q5.out.trans q1)
          clear q1
          go_wp2_with (fail)
          go_ret
          exact ⟨rfl, QX.out.trans Q6.out⟩

end Go.Proofs.YtdiidmmmemmjjaaDoor.Lv

namespace Go.Proofs.YtdiidmmmemmjjaaDoor.Lv
open Go.RowKit
set_option linter.unusedVariables false

theorem fn_small {c : PC} (hv : validP c = 0) (h60 : codeN c ≤ 60000) {k : Nat} {f : PF} (hfk : c.fns[k]? = some f) : f.parts.length ≤ 60000 ∧ 0 < f.parts.length ∧ ∃ n : Nat, f.regs = (n : Int) ∧ n ≤ 20000 := by
  have hfn := right_fn hv hfk
  have hfn' := hfn
  unfold fnP headP at hfn'
  simp only [Bool.and_eq_true, Bool.not_eq_true', decide_eq_false_iff_not] at hfn'
  obtain ⟨⟨h1, h2, h3, h4, -⟩, -⟩ := hfn'
  refine ⟨?_, ?_, f.regs.toNat, by omega, by omega⟩
  · have h1 := (fnN_le hfk).1
    have h2 := (wF_le (l := f.parts) (fun p hp x hx => by
      unfold fnP at hfn
      rw [Bool.and_eq_true] at hfn
      have hpt := List.all_eq_true.1 hfn.2 p hp
      unfold ptP at hpt
      rw [Bool.and_eq_true] at hpt
      have := List.all_eq_true.1 hpt.2 x hx
      unfold insP at this
      simp only [Bool.and_eq_true] at this
      exact wI_le hv this.2.2.2.2)).2
    have h3 : (f.parts.map partN).sum = fnN f := rfl
    rw [h3] at h2
    have h4 : codeN c = (c.fns.map fnN).sum := rfl
    omega
  · cases hp : f.parts with
    | nil => rw [hp] at h4; simp at h4
    | cons p l => simp

set_option maxRecDepth 100000 in
set_option maxHeartbeats 8000000 in
theorem parts_few (c : PC) (fn : Int) (w : World) (hcok : c.ok w) (hT : Tab w) (hf : fewP c = false) : Calls Tryd.prog 3 #[c.v, .int .i64 fn] w fun e w' => e = .returned (.bool true) ∧ Below w.heap.size w w' := by
  have HB : Hid (∀ X, Q (bxC w c) X → Cds X w.heap.size c) := fun X h => (cds_box w c).keep h
  have qB := hideIt (bxC_q w c)
  have CA : Hid (∀ X, Q (bxC w c) X → Calls Tryd.prog 8 #[] X fun e w' => e = .returned (.bool true) ∧ Q X w') := fun X h => awake_any X (hT.keep ((bxC_q w c).trans h))
  have CF : Hid (∀ X, Q (bxC w c) X → Calls Tryd.prog 9 #[c.v] X fun e w' => e = .returned (.bool false) ∧ Q X w') := fun X h => by have := few_any X c (hcok.keep ((bxC_q w c).trans h)); rw [hf] at this; exact this
  generalize hBB : bxC w c = B at *
  have HBB := hideIt hBB
  clear hcok hBB hf hT
  go_enter Tryd.func3, Tryd.ntmps3
  go_wp2_with (fail)
  rw [show w.alloc (.cells #[.slice c.ga c.gl.length c.gc, .slice c.na c.ini.length c.nc, .slice c.fa c.fns.length c.fc] 26) = B from HBB.out]
  go_wp2_with (first
    | (go_at_call 8; first
        | (have hh := HY; clear hh; refine Calls.mono (CA.out _ HY.out) ?_; rintro e z ⟨rfl, q1⟩; have HZ := hideIt (HY.out.trans q1); clear q1)
        | (refine Calls.mono (CA.out _ (Q.refl _)) ?_; rintro e x1 ⟨rfl, q1⟩; have HX := hideIt q1; obtain ⟨s1, s2, s3⟩ := HB.out x1 q1; clear q1))
    | (go_at_call 9; refine Calls.mono (CF.out _ HX.out) ?_; rintro e y ⟨rfl, q1⟩; have HY := hideIt (HX.out.trans q1); clear q1 s1 s2 s3; obtain ⟨s1, s2, s3⟩ := HB.out y HY.out)
    | fail)
  go_ret
  exact ⟨rfl, qB.out.trans HZ.out⟩

set_option maxRecDepth 100000 in
set_option maxHeartbeats 8000000 in
theorem parts_bad (c : PC) (fn : Int) (w : World) (hcok : c.ok w) (hT : Tab w) (hf : fewP c = true) (hv : validP c ≠ 0) : Calls Tryd.prog 3 #[c.v, .int .i64 fn] w fun e w' => e = .returned (.bool true) ∧ Below w.heap.size w w' := by
  have HB : Hid (∀ X, Q (bxC w c) X → Cds X w.heap.size c) := fun X h => (cds_box w c).keep h
  have qB := hideIt (bxC_q w c)
  have CA : Hid (∀ X, Q (bxC w c) X → Calls Tryd.prog 8 #[] X fun e w' => e = .returned (.bool true) ∧ Q X w') := fun X h => awake_any X (hT.keep ((bxC_q w c).trans h))
  have CF : Hid (∀ X, Q (bxC w c) X → Calls Tryd.prog 9 #[c.v] X fun e w' => e = .returned (.bool true) ∧ Q X w') := fun X h => by have := few_any X c (hcok.keep ((bxC_q w c).trans h)); rw [hf] at this; exact this
  have CV : Hid (∀ X, Q (bxC w c) X → Calls Tryd.prog 11 #[c.v] X fun e w' => e = .returned (.int .i64 (validP c)) ∧ Q X w') := fun X h => rvalid_any X c (hcok.keep ((bxC_q w c).trans h))
  have CP : Hid (∀ X, Q (bxC w c) X → Calls Tryd.prog 10 #[c.v, .int .i64 fn] X fun e w' => e = .returned (.tuple #[.slice none 0 0, .slice none 0 0, .int .i64 (validP c)]) ∧ Q X w') := fun X h => parts_wrong X c (hcok.keep ((bxC_q w c).trans h)) hv fn
  generalize validP c = vv at *
  have hv1 : (vv != 0) = true := by simpa using hv
  have hv2 : (vv == 0) = false := by simpa using hv
  generalize hBB : bxC w c = B at *
  have HBB := hideIt hBB
  clear hcok hBB hf hT hv
  go_enter Tryd.func3, Tryd.ntmps3
  go_wp2_with (fail)
  rw [show w.alloc (.cells #[.slice c.ga c.gl.length c.gc, .slice c.na c.ini.length c.nc, .slice c.fa c.fns.length c.fc] 26) = B from HBB.out]
  go_wp2_with (first
    | (go_at_call 8; refine Calls.mono (CA.out _ (Q.refl _)) ?_; rintro e x1 ⟨rfl, q1⟩; have HX := hideIt q1; obtain ⟨s1, s2, s3⟩ := HB.out x1 q1; clear q1)
    | (go_at_call 9; refine Calls.mono (CF.out _ HX.out) ?_; rintro e y ⟨rfl, q1⟩; have HW := hideIt (HX.out.trans q1); clear q1 s1 s2 s3; obtain ⟨s1, s2, s3⟩ := HB.out y HW.out)
    | (go_at_call 10; refine Calls.mono (CP.out _ HW.out) ?_; rintro e y2 ⟨rfl, q1⟩; have HY := hideIt (HW.out.trans q1); clear q1 s1 s2 s3; obtain ⟨s1, s2, s3⟩ := HB.out y2 HY.out)
    | (go_at_call 11; refine Calls.mono (CV.out _ HY.out) ?_; rintro e y3 ⟨rfl, q1⟩; have HZ := hideIt (HY.out.trans q1); clear q1 s1 s2 s3)
    | fail)
  go_ret
  exact ⟨rfl, qB.out.trans HZ.out⟩

set_option maxRecDepth 100000 in
set_option maxHeartbeats 8000000 in
theorem parts_out (c : PC) (fn : Int) (w : World) (hcok : c.ok w) (hT : Tab w) (hf : fewP c = true) (hv : validP c = 0) (ho : fn < 0 ∨ (c.fns.length : Int) ≤ fn) : Calls Tryd.prog 3 #[c.v, .int .i64 fn] w fun e w' => e = .returned (.bool true) ∧ Below w.heap.size w w' := by
  have HB : Hid (∀ X, Q (bxC w c) X → Cds X w.heap.size c) := fun X h => (cds_box w c).keep h
  have qB := hideIt (bxC_q w c)
  have CA : Hid (∀ X, Q (bxC w c) X → Calls Tryd.prog 8 #[] X fun e w' => e = .returned (.bool true) ∧ Q X w') := fun X h => awake_any X (hT.keep ((bxC_q w c).trans h))
  have CF : Hid (∀ X, Q (bxC w c) X → Calls Tryd.prog 9 #[c.v] X fun e w' => e = .returned (.bool true) ∧ Q X w') := fun X h => by have := few_any X c (hcok.keep ((bxC_q w c).trans h)); rw [hf] at this; exact this
  have CV : Hid (∀ X, Q (bxC w c) X → Calls Tryd.prog 11 #[c.v] X fun e w' => e = .returned (.int .i64 0) ∧ Q X w') := fun X h => by have := rvalid_any X c (hcok.keep ((bxC_q w c).trans h)); rw [hv] at this; exact this
  have CP : Hid (∀ X, Q (bxC w c) X → Calls Tryd.prog 10 #[c.v, .int .i64 fn] X fun e w' => e = .returned (.tuple #[.slice none 0 0, .slice none 0 0, .int .i64 12]) ∧ Q X w') := fun X h => parts_none X c (hcok.keep ((bxC_q w c).trans h)) hv fn ho
  have hlen1 : c.fns.length ≤ 9223372036854775807 := hcok.fsok.len
  generalize hBB : bxC w c = B at *
  have HBB := hideIt hBB
  clear hcok hBB hf hT hv
  by_cases h1 : fn < 0
  · clear ho
    go_enter Tryd.func3, Tryd.ntmps3
    go_wp2_with (fail)
    rw [show w.alloc (.cells #[.slice c.ga c.gl.length c.gc, .slice c.na c.ini.length c.nc, .slice c.fa c.fns.length c.fc] 26) = B from HBB.out]
    go_wp2_with (first
      | (go_at_call 8; refine Calls.mono (CA.out _ (Q.refl _)) ?_; rintro e x1 ⟨rfl, q1⟩; have HX := hideIt q1; obtain ⟨s1, s2, s3⟩ := HB.out x1 q1; clear q1)
      | (go_at_call 9; refine Calls.mono (CF.out _ HX.out) ?_; rintro e y ⟨rfl, q1⟩; have HW := hideIt (HX.out.trans q1); clear q1 s1 s2 s3; obtain ⟨s1, s2, s3⟩ := HB.out y HW.out)
      | (go_at_call 10; refine Calls.mono (CP.out _ HW.out) ?_; rintro e y2 ⟨rfl, q1⟩; have HY := hideIt (HW.out.trans q1); clear q1 s1 s2 s3; obtain ⟨s1, s2, s3⟩ := HB.out y2 HY.out)
      | (go_at_call 11; refine Calls.mono (CV.out _ HY.out) ?_; rintro e y3 ⟨rfl, q1⟩; have HZ := hideIt (HY.out.trans q1); clear q1 s1 s2 s3; obtain ⟨s1, s2, s3⟩ := HB.out y3 HZ.out)
      | fail)
    go_ret
    exact ⟨rfl, qB.out.trans HZ.out⟩
  · have h2 : (c.fns.length : Int) ≤ fn := by rcases ho with q | q; exact absurd q h1; exact q
    have h3 : fn ≥ (c.fns.length : Int) := h2
    clear ho
    go_enter Tryd.func3, Tryd.ntmps3
    go_wp2_with (fail)
    rw [show w.alloc (.cells #[.slice c.ga c.gl.length c.gc, .slice c.na c.ini.length c.nc, .slice c.fa c.fns.length c.fc] 26) = B from HBB.out]
    go_wp2_with (first
      | (go_at_call 8; refine Calls.mono (CA.out _ (Q.refl _)) ?_; rintro e x1 ⟨rfl, q1⟩; have HX := hideIt q1; obtain ⟨s1, s2, s3⟩ := HB.out x1 q1; clear q1)
      | (go_at_call 9; refine Calls.mono (CF.out _ HX.out) ?_; rintro e y ⟨rfl, q1⟩; have HW := hideIt (HX.out.trans q1); clear q1 s1 s2 s3; obtain ⟨s1, s2, s3⟩ := HB.out y HW.out)
      | (go_at_call 10; refine Calls.mono (CP.out _ HW.out) ?_; rintro e y2 ⟨rfl, q1⟩; have HY := hideIt (HW.out.trans q1); clear q1 s1 s2 s3; obtain ⟨s1, s2, s3⟩ := HB.out y2 HY.out)
      | (go_at_call 11; refine Calls.mono (CV.out _ HY.out) ?_; rintro e y3 ⟨rfl, q1⟩; have HZ := hideIt (HY.out.trans q1); clear q1 s1 s2 s3; obtain ⟨s1, s2, s3⟩ := HB.out y3 HZ.out)
      | fail)
    go_ret
    exact ⟨rfl, qB.out.trans HZ.out⟩

set_option maxRecDepth 100000 in
set_option maxHeartbeats 16000000 in
theorem parts_fine (c : PC) (k : Nat) (w : World) (hcok : c.ok w) (hT : Tab w) (hf : fewP c = true) (hv : validP c = 0) (hs : codeN c ≤ 1099511627776) (hkl : k < c.fns.length) : Calls Tryd.prog 3 #[c.v, .int .i64 (k : Int)] w fun e w' => e = .returned (.bool true) ∧ Below w.heap.size w w' := by
  have hlen1 : c.fns.length ≤ 9223372036854775807 := hcok.fsok.len
  obtain ⟨f, hfk⟩ := get_of_lt hkl
  have h60 := few_count hv hs
  obtain ⟨hm, hm0, n, hr, hn⟩ := fn_small hv h60 hfk
  have hrn : f.regs.toNat = n := by omega
  have HB : Hid (∀ X, Q (bxC w c) X → Cds X w.heap.size c) := fun X h => (cds_box w c).keep h
  have qB := hideIt (bxC_q w c)
  have CA : Hid (∀ X, Q (bxC w c) X → Calls Tryd.prog 8 #[] X fun e w' => e = .returned (.bool true) ∧ Q X w') := fun X h => awake_any X (hT.keep ((bxC_q w c).trans h))
  have CF : Hid (∀ X, Q (bxC w c) X → Calls Tryd.prog 9 #[c.v] X fun e w' => e = .returned (.bool true) ∧ Q X w') := fun X h => by have := few_any X c (hcok.keep ((bxC_q w c).trans h)); rw [hf] at this; exact this
  have CV : Hid (∀ X, Q (bxC w c) X → Calls Tryd.prog 11 #[c.v] X fun e w' => e = .returned (.int .i64 0) ∧ Q X w') := fun X h => by have := rvalid_any X c (hcok.keep ((bxC_q w c).trans h)); rw [hv] at this; exact this
  have CP : Hid (∀ X, Q (bxC w c) X → Calls Tryd.prog 10 #[c.v, .int .i64 (k : Int)] X (PartsP f X)) := fun X h => parts_is X c (hcok.keep ((bxC_q w c).trans h)) hv k f hfk h60
  obtain ⟨fb, fo, efa, hfat⟩ := hcok.fns k f hfk
  have FAT : Hid (∀ X, Q (bxC w c) X → FnAt X fb (fo + k * 4) f) := fun X h => hfat.keep ((bxC_q w c).trans h)
  have CR : Hid (∀ X, Q (bxC w c) X → Calls Tryd.prog 12 #[f.v] X (RPartsP f.parts n X)) := fun X h => rparts_any X f (hfat.keep ((bxC_q w c).trans h)).2 n hn hr hm0 hm (fun p hp => okB_of hv hfk hr h60 hp) (fun k r hl => by have := reads_lt hv hfk hl; omega)
  have HT : Hid (∀ X, Q (bxC w c) X → Tab X) := fun X h => hT.keep ((bxC_q w c).trans h)
  have HL1 : Hid (∀ j r, liB f.parts j r = true → r < n) := fun j r h => by have := reads_lt hv hfk ((liB_iff _ _ _).1 h); omega
  have HL2 : Hid (∀ j r, ouB f.parts j r = true → r < n) := fun j r h => by
    obtain ⟨p, -, x, -, hl⟩ := (ouB_iff _ _ _).1 h
    have := reads_lt hv hfk hl
    omega
  have hkl2 : (k : Int) < (c.fns.length : Int) := by omega
  have hkl3 : ¬ (k : Int) ≥ (c.fns.length : Int) := by omega
  have hk0 : ¬ (k : Int) < 0 := by omega
  generalize hBB : bxC w c = B at *
  have HBB := hideIt hBB
  clear hcok hBB hf hv hfk hT h60 hs hfat
  rcases c with ⟨gl, ini, fns, ga, gc, na, nc, fa, fc⟩
  dsimp only [PC.v] at *
  subst efa
  go_enter Tryd.func3, Tryd.ntmps3
  go_wp2_with (fail)
  rw [show w.alloc (.cells #[.slice ga gl.length gc, .slice na ini.length nc, .slice (some ⟨fb, fo, none⟩) fns.length fc] 26) = B from HBB.out]
  rcases f with ⟨params, regs, slots, parts, sa, sc, pa, pc⟩
  dsimp only [PF.v] at *
  subst hr
  go_wp2_with (first
    | (go_at_call 8; refine Calls.mono (CA.out _ (Q.refl _)) ?_; rintro e x1 ⟨rfl, q1⟩; have HX := hideIt q1; obtain ⟨s1, s2, s3⟩ := HB.out x1 q1; clear q1)
    | (go_at_call 9; refine Calls.mono (CF.out _ HX.out) ?_; rintro e y ⟨rfl, q1⟩; have HW := hideIt (HX.out.trans q1); clear q1 s1 s2 s3; obtain ⟨s1, s2, s3⟩ := HB.out y HW.out)
    | (go_at_call 10; refine Calls.mono (CP.out _ HW.out) ?_; rintro e y2 ⟨bi, bo, rfl, q1, h1, h2⟩; have HY := hideIt (HW.out.trans q1); have HI := hideIt h1; have HO := hideIt h2; clear q1 s1 s2 s3 h1 h2; obtain ⟨s1, s2, s3⟩ := HB.out y2 HY.out)
    | (go_at_call 11; refine Calls.mono (CV.out _ HY.out) ?_; rintro e y3 ⟨rfl, q1⟩; have HZ := hideIt (HY.out.trans q1); have HZ2 := hideIt q1; clear q1 s1 s2 s3; obtain ⟨s1, s2, s3⟩ := HB.out y3 HZ.out; obtain ⟨f0, f1, f2, f3⟩ := (FAT.out y3 HZ.out).1.four)
    | (go_at_call 12; refine Calls.mono (CR.out _ HZ.out) ?_; rintro e y4 ⟨ra, ca, rb, cb, rfl, h1, h2, q1⟩; have HQ4 := hideIt (HZ.out.trans q1); have HQ4' := hideIt (HZ2.out.trans q1); have HA := hideIt h1; have HBo := hideIt h2; clear q1 h1 h2 s1 s2 s3 f0 f1 f2 f3)
    | fail)
  go_loopg [11] (parts.length + 1) (fun kx jv z => ∃ j : Nat, jv = .int .i64 (j : Int) ∧ j ≤ parts.length ∧ parts.length - j + 1 ≤ kx ∧ Hid (Q y4 z))
  case atStart => exact ⟨0, rfl, Nat.zero_le _, by omega, hideIt (Q.refl _)⟩
  case round =>
    obtain ⟨j, rfl, hj, hjk, HQ⟩ := hrel
    generalize wr = z at *
    by_cases hjl : j < parts.length
    · have hjl2 : (j : Int) < (parts.length : Int) := by omega
      have q2z : Hid (Q y2 z) := HQ4'.out.trans HQ.out
      obtain ⟨v1, c1, sv1⟩ := HI.out j hjl
      obtain ⟨v2, c2, sv2⟩ := HO.out j hjl
      obtain ⟨va, vn, vc, rfl⟩ := sv1.form
      obtain ⟨ua, un, uc, rfl⟩ := sv2.form
      obtain ⟨ga', ca', e1, hA⟩ := HA.out
      injection e1 with e1 _ e1c
      injection e1 with e1
      injection e1 with e1 _
      subst e1
      subst e1c
      obtain ⟨gb', cb', e2, hB⟩ := HBo.out
      injection e2 with e2 _ e2c
      injection e2 with e2
      injection e2 with e2 _
      subst e2
      subst e2c
      obtain ⟨w1, d1, r1⟩ := hA j hjl
      obtain ⟨w2, d2, r2⟩ := hB j hjl
      obtain ⟨wa, wc, rfl, -⟩ := id r1
      obtain ⟨xa, xc, rfl, -⟩ := id r2
      simp only [Int.toNat_natCast] at sv1 sv2
      have HCC : Hid (∀ Y, Q z Y → Y.cell? ⟨bi, j, none⟩ = some (.slice va vn vc) ∧ Y.cell? ⟨bo, j, none⟩ = some (.slice ua un uc) ∧ Y.cell? ⟨ra, j, none⟩ = some (.slice wa n wc) ∧ Y.cell? ⟨rb, j, none⟩ = some (.slice xa n xc)) := fun Y q => ⟨cell_keep (q2z.out.trans q) c1, cell_keep (q2z.out.trans q) c2, cell_keep (HQ.out.trans q) d1, cell_keep (HQ.out.trans q) d2⟩
      have CS : Hid (∀ Y, Q z Y → ∀ v vb, ((v = .slice va vn vc ∧ vb = .slice wa n wc) ∨ (v = .slice ua un uc ∧ vb = .slice xa n xc)) → Calls Tryd.prog 13 #[.agg #[v], vb] Y fun e w' => e = .returned (.bool true) ∧ Q z w' ∧ w'.cell? ⟨bi, j, none⟩ = some (.slice va vn vc) ∧ w'.cell? ⟨bo, j, none⟩ = some (.slice ua un uc) ∧ w'.cell? ⟨ra, j, none⟩ = some (.slice wa n wc) ∧ w'.cell? ⟨rb, j, none⟩ = some (.slice xa n xc)) := fun Y q v vb hvb => by
        have ht := HT.out Y (HQ4.out.trans (HQ.out.trans q))
        rcases hvb with ⟨rfl, rfl⟩ | ⟨rfl, rfl⟩
        · exact (same_any Y _ _ (liB parts j) n hn (sv1.keep (q2z.out.trans q)) (r1.keep (HQ.out.trans q)) (HL1.out j) ht).mono fun e w' ⟨e1, q1⟩ => ⟨e1, q.trans q1, HCC.out w' (q.trans q1)⟩
        · exact (same_any Y _ _ (ouB parts j) n hn (sv2.keep (q2z.out.trans q)) (r2.keep (HQ.out.trans q)) (HL2.out j) ht).mono fun e w' ⟨e1, q1⟩ => ⟨e1, q.trans q1, HCC.out w' (q.trans q1)⟩
      clear c1 c2 d1 d2 sv1 sv2 r1 r2 hA hB
      obtain ⟨k1, k2, k3, k4⟩ := HCC.out z (Q.refl _)
      go_wp2_with (fail)
      first | go_region_held3 (fun y : World => Q z y ∧ y.cell? ⟨bi, j, none⟩ = some (.slice va vn vc) ∧ y.cell? ⟨bo, j, none⟩ = some (.slice ua un uc) ∧ y.cell? ⟨ra, j, none⟩ = some (.slice wa n wc) ∧ y.cell? ⟨rb, j, none⟩ = some (.slice xa n xc)) (first | exact ⟨(Q.refl _).drew, HCC.out _ (Q.refl _).drew⟩ | go_keep) (first | (go_at_call 13; refine Calls.mono (CS.out _ (by first | assumption | exact (Q.refl _).drew) _ _ (by first | exact Or.inl ⟨rfl, rfl⟩ | exact Or.inr ⟨rfl, rfl⟩)) ?_; rintro e y7 ⟨rfl, t0, t1, t2, t3, t4⟩)) | fail
      all_goals rename_i hHeld
      all_goals have Q4 := hideIt hHeld.1
      all_goals clear hHeld
      all_goals go_wp2_with (fail)
      all_goals (go_roundg (parts.length - (j + 1) + 1); (case measure => omega); (case rel => exact ⟨j + 1, by first | rfl | go_num, by omega, Nat.le_refl _, hideIt (HQ.out.trans Q4.out)⟩))
    · have hjl2 : ¬ (j : Int) < (parts.length : Int) := by omega
      go_wp2_with (fail)
      go_ret
      exact ⟨rfl, qB.out.trans (HQ4.out.trans HQ.out)⟩

theorem parts_walk (c : PC) (fn : Int) (w : World) (hcok : c.ok w) (hT : Tab w) (hs : codeN c ≤ 1099511627776) (hn : I64 fn) : Calls Tryd.prog 3 #[c.v, .int .i64 fn] w fun e w' => e = .returned (.bool true) ∧ Below w.heap.size w w' := by
  cases hf : fewP c with
  | false => exact parts_few c fn w hcok hT hf
  | true =>
    by_cases hv : validP c = 0
    · by_cases ho : fn < 0 ∨ (c.fns.length : Int) ≤ fn
      · exact parts_out c fn w hcok hT hf hv ho
      · obtain ⟨k, rfl⟩ : ∃ k : Nat, fn = (k : Int) := ⟨fn.toNat, by omega⟩
        exact parts_fine c k w hcok hT hf hv hs (by omega)
    · exact parts_bad c fn w hcok hT hf hv

end Go.Proofs.YtdiidmmmemmjjaaDoor.Lv
