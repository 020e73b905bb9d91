/-
  The statement LiveParts: its walk over the program; the conditions: the code lies in memory and is small, the library's table is laid.
-/
import Derived.Test.YtkcniahpkcdhoaaDoorKLrE
namespace Go.Proofs.YtkcniahpkcdhoaaDoor.Lv
open Go.RowKit
set_option linter.unusedVariables false

theorem fn_small {c : PC} (hv : validP c = 0) (h60 : codeN c ≤ 60000) {k : Nat} {f : PF} (hfk : c.fns[k]? = some f) : f.parts.length ≤ 60000 ∧ 0 < f.parts.length ∧ ∃ n : Nat, f.regs = (n : Int) ∧ n ≤ 20000 := by
  have hfn := right_fn hv hfk
  have hfn' := hfn
  unfold fnP headP at hfn'
  simp only [Bool.and_eq_true, Bool.not_eq_true', decide_eq_false_iff_not] at hfn'
  obtain ⟨⟨h1, h2, h3, h4, -⟩, -⟩ := hfn'
  refine ⟨?_, ?_, f.regs.toNat, by omega, by omega⟩
  · have h1 := (fnN_le hfk).1
    have h2 := (wF_le (l := f.parts) (fun p hp x hx => by
      unfold fnP at hfn
      rw [Bool.and_eq_true] at hfn
      have hpt := List.all_eq_true.1 hfn.2 p hp
      unfold ptP at hpt
      rw [Bool.and_eq_true] at hpt
      have := List.all_eq_true.1 hpt.2 x hx
      unfold insP at this
      simp only [Bool.and_eq_true] at this
      exact wI_le hv this.2.2.2.2)).2
    have h3 : (f.parts.map partN).sum = fnN f := rfl
    rw [h3] at h2
    have h4 : codeN c = (c.fns.map fnN).sum := rfl
    omega
  · cases hp : f.parts with
    | nil => rw [hp] at h4; simp at h4
    | cons p l => simp

set_option maxRecDepth 100000 in
set_option maxHeartbeats 8000000 in
theorem parts_few (c : PC) (fn : Int) (w : World) (hcok : c.ok w) (hT : Tab w) (hf : fewP c = false) : Calls Tryd.prog 3 #[c.v, .int .i64 fn] w fun e w' => e = .returned (.bool true) ∧ Below w.heap.size w w' := by
  have HB : Hid (∀ X, Q (bxC w c) X → Cds X w.heap.size c) := fun X h => (cds_box w c).keep h
  have qB := hideIt (bxC_q w c)
  have CA : Hid (∀ X, Q (bxC w c) X → Calls Tryd.prog 8 #[] X fun e w' => e = .returned (.bool true) ∧ Q X w') := fun X h => awake_any X (hT.keep ((bxC_q w c).trans h))
  have CF : Hid (∀ X, Q (bxC w c) X → Calls Tryd.prog 9 #[c.v] X fun e w' => e = .returned (.bool false) ∧ Q X w') := fun X h => by have := few_any X c (hcok.keep ((bxC_q w c).trans h)); rw [hf] at this; exact this
  generalize hBB : bxC w c = B at *
  have HBB := hideIt hBB
  clear hcok hBB hf hT
  go_enter Tryd.func3, Tryd.ntmps3
  go_wp2_with (fail)
  rw [show w.alloc (.cells #[.slice c.ga c.gl.length c.gc, .slice c.na c.ini.length c.nc, .slice c.fa c.fns.length c.fc] 26) = B from HBB.out]
  go_wp2_with (first
    | (go_at_call 8; first
        | (have hh := HY; clear hh; refine Calls.mono (CA.out _ HY.out) ?_; rintro e z ⟨rfl, q1⟩; have HZ := hideIt (HY.out.trans q1); clear q1)
        | (refine Calls.mono (CA.out _ (Q.refl _)) ?_; rintro e x1 ⟨rfl, q1⟩; have HX := hideIt q1; obtain ⟨s1, s2, s3⟩ := HB.out x1 q1; clear q1))
    | (go_at_call 9; refine Calls.mono (CF.out _ HX.out) ?_; rintro e y ⟨rfl, q1⟩; have HY := hideIt (HX.out.trans q1); clear q1 s1 s2 s3; obtain ⟨s1, s2, s3⟩ := HB.out y HY.out)
    | fail)
  go_ret
  exact ⟨rfl, qB.out.trans HZ.out⟩

set_option maxRecDepth 100000 in
set_option maxHeartbeats 8000000 in
theorem parts_bad (c : PC) (fn : Int) (w : World) (hcok : c.ok w) (hT : Tab w) (hf : fewP c = true) (hv : validP c ≠ 0) : Calls Tryd.prog 3 #[c.v, .int .i64 fn] w fun e w' => e = .returned (.bool true) ∧ Below w.heap.size w w' := by
  have HB : Hid (∀ X, Q (bxC w c) X → Cds X w.heap.size c) := fun X h => (cds_box w c).keep h
  have qB := hideIt (bxC_q w c)
  have CA : Hid (∀ X, Q (bxC w c) X → Calls Tryd.prog 8 #[] X fun e w' => e = .returned (.bool true) ∧ Q X w') := fun X h => awake_any X (hT.keep ((bxC_q w c).trans h))
  have CF : Hid (∀ X, Q (bxC w c) X → Calls Tryd.prog 9 #[c.v] X fun e w' => e = .returned (.bool true) ∧ Q X w') := fun X h => by have := few_any X c (hcok.keep ((bxC_q w c).trans h)); rw [hf] at this; exact this
  have CV : Hid (∀ X, Q (bxC w c) X → Calls Tryd.prog 11 #[c.v] X fun e w' => e = .returned (.int .i64 (validP c)) ∧ Q X w') := fun X h => rvalid_any X c (hcok.keep ((bxC_q w c).trans h))
  have CP : Hid (∀ X, Q (bxC w c) X → Calls Tryd.prog 10 #[c.v, .int .i64 fn] X fun e w' => e = .returned (.tuple #[.slice none 0 0, .slice none 0 0, .int .i64 (validP c)]) ∧ Q X w') := fun X h => parts_wrong X c (hcok.keep ((bxC_q w c).trans h)) hv fn
  generalize validP c = vv at *
  have hv1 : (vv != 0) = true := by simpa using hv
  have hv2 : (vv == 0) = false := by simpa using hv
  generalize hBB : bxC w c = B at *
  have HBB := hideIt hBB
  clear hcok hBB hf hT hv
  go_enter Tryd.func3, Tryd.ntmps3
  go_wp2_with (fail)
  rw [show w.alloc (.cells #[.slice c.ga c.gl.length c.gc, .slice c.na c.ini.length c.nc, .slice c.fa c.fns.length c.fc] 26) = B from HBB.out]
  go_wp2_with (first
    | (go_at_call 8; refine Calls.mono (CA.out _ (Q.refl _)) ?_; rintro e x1 ⟨rfl, q1⟩; have HX := hideIt q1; obtain ⟨s1, s2, s3⟩ := HB.out x1 q1; clear q1)
    | (go_at_call 9; refine Calls.mono (CF.out _ HX.out) ?_; rintro e y ⟨rfl, q1⟩; have HW := hideIt (HX.out.trans q1); clear q1 s1 s2 s3; obtain ⟨s1, s2, s3⟩ := HB.out y HW.out)
    | (go_at_call 10; refine Calls.mono (CP.out _ HW.out) ?_; rintro e y2 ⟨rfl, q1⟩; have HY := hideIt (HW.out.trans q1); clear q1 s1 s2 s3; obtain ⟨s1, s2, s3⟩ := HB.out y2 HY.out)
    | (go_at_call 11; refine Calls.mono (CV.out _ HY.out) ?_; rintro e y3 ⟨rfl, q1⟩; have HZ := hideIt (HY.out.trans q1); clear q1 s1 s2 s3)
    | fail)
  go_ret
  exact ⟨rfl, qB.out.trans HZ.out⟩

set_option maxRecDepth 100000 in
set_option maxHeartbeats 8000000 in
theorem parts_out (c : PC) (fn : Int) (w : World) (hcok : c.ok w) (hT : Tab w) (hf : fewP c = true) (hv : validP c = 0) (ho : fn < 0 ∨ (c.fns.length : Int) ≤ fn) : Calls Tryd.prog 3 #[c.v, .int .i64 fn] w fun e w' => e = .returned (.bool true) ∧ Below w.heap.size w w' := by
  have HB : Hid (∀ X, Q (bxC w c) X → Cds X w.heap.size c) := fun X h => (cds_box w c).keep h
  have qB := hideIt (bxC_q w c)
  have CA : Hid (∀ X, Q (bxC w c) X → Calls Tryd.prog 8 #[] X fun e w' => e = .returned (.bool true) ∧ Q X w') := fun X h => awake_any X (hT.keep ((bxC_q w c).trans h))
  have CF : Hid (∀ X, Q (bxC w c) X → Calls Tryd.prog 9 #[c.v] X fun e w' => e = .returned (.bool true) ∧ Q X w') := fun X h => by have := few_any X c (hcok.keep ((bxC_q w c).trans h)); rw [hf] at this; exact this
  have CV : Hid (∀ X, Q (bxC w c) X → Calls Tryd.prog 11 #[c.v] X fun e w' => e = .returned (.int .i64 0) ∧ Q X w') := fun X h => by have := rvalid_any X c (hcok.keep ((bxC_q w c).trans h)); rw [hv] at this; exact this
  have CP : Hid (∀ X, Q (bxC w c) X → Calls Tryd.prog 10 #[c.v, .int .i64 fn] X fun e w' => e = .returned (.tuple #[.slice none 0 0, .slice none 0 0, .int .i64 12]) ∧ Q X w') := fun X h => parts_none X c (hcok.keep ((bxC_q w c).trans h)) hv fn ho
  have hlen1 : c.fns.length ≤ 9223372036854775807 := hcok.fsok.len
  generalize hBB : bxC w c = B at *
  have HBB := hideIt hBB
  clear hcok hBB hf hT hv
  by_cases h1 : fn < 0
  · clear ho
    go_enter Tryd.func3, Tryd.ntmps3
    go_wp2_with (fail)
    rw [show w.alloc (.cells #[.slice c.ga c.gl.length c.gc, .slice c.na c.ini.length c.nc, .slice c.fa c.fns.length c.fc] 26) = B from HBB.out]
    go_wp2_with (first
      | (go_at_call 8; refine Calls.mono (CA.out _ (Q.refl _)) ?_; rintro e x1 ⟨rfl, q1⟩; have HX := hideIt q1; obtain ⟨s1, s2, s3⟩ := HB.out x1 q1; clear q1)
      | (go_at_call 9; refine Calls.mono (CF.out _ HX.out) ?_; rintro e y ⟨rfl, q1⟩; have HW := hideIt (HX.out.trans q1); clear q1 s1 s2 s3; obtain ⟨s1, s2, s3⟩ := HB.out y HW.out)
      | (go_at_call 10; refine Calls.mono (CP.out _ HW.out) ?_; rintro e y2 ⟨rfl, q1⟩; have HY := hideIt (HW.out.trans q1); clear q1 s1 s2 s3; obtain ⟨s1, s2, s3⟩ := HB.out y2 HY.out)
      | (go_at_call 11; refine Calls.mono (CV.out _ HY.out) ?_; rintro e y3 ⟨rfl, q1⟩; have HZ := hideIt (HY.out.trans q1); clear q1 s1 s2 s3; obtain ⟨s1, s2, s3⟩ := HB.out y3 HZ.out)
      | fail)
    go_ret
    exact ⟨rfl, qB.out.trans HZ.out⟩
  · have h2 : (c.fns.length : Int) ≤ fn := by rcases ho with q | q; exact absurd q h1; exact q
    have h3 : fn ≥ (c.fns.length : Int) := h2
    clear ho
    go_enter Tryd.func3, Tryd.ntmps3
    go_wp2_with (fail)
    rw [show w.alloc (.cells #[.slice c.ga c.gl.length c.gc, .slice c.na c.ini.length c.nc, .slice c.fa c.fns.length c.fc] 26) = B from HBB.out]
    go_wp2_with (first
      | (go_at_call 8; refine Calls.mono (CA.out _ (Q.refl _)) ?_; rintro e x1 ⟨rfl, q1⟩; have HX := hideIt q1; obtain ⟨s1, s2, s3⟩ := HB.out x1 q1; clear q1)
      | (go_at_call 9; refine Calls.mono (CF.out _ HX.out) ?_; rintro e y ⟨rfl, q1⟩; have HW := hideIt (HX.out.trans q1); clear q1 s1 s2 s3; obtain ⟨s1, s2, s3⟩ := HB.out y HW.out)
      | (go_at_call 10; refine Calls.mono (CP.out _ HW.out) ?_; rintro e y2 ⟨rfl, q1⟩; have HY := hideIt (HW.out.trans q1); clear q1 s1 s2 s3; obtain ⟨s1, s2, s3⟩ := HB.out y2 HY.out)
      | (go_at_call 11; refine Calls.mono (CV.out _ HY.out) ?_; rintro e y3 ⟨rfl, q1⟩; have HZ := hideIt (HY.out.trans q1); clear q1 s1 s2 s3; obtain ⟨s1, s2, s3⟩ := HB.out y3 HZ.out)
      | fail)
    go_ret
    exact ⟨rfl, qB.out.trans HZ.out⟩

set_option maxRecDepth 100000 in
set_option maxHeartbeats 16000000 in
theorem parts_fine (c : PC) (k : Nat) (w : World) (hcok : c.ok w) (hT : Tab w) (hf : fewP c = true) (hv : validP c = 0) (hs : codeN c ≤ 1099511627776) (hkl : k < c.fns.length) : Calls Tryd.prog 3 #[c.v, .int .i64 (k : Int)] w fun e w' => e = .returned (.bool true) ∧ Below w.heap.size w w' := by
  have hlen1 : c.fns.length ≤ 9223372036854775807 := hcok.fsok.len
  obtain ⟨f, hfk⟩ := get_of_lt hkl
  have h60 := few_count hv hs
  obtain ⟨hm, hm0, n, hr, hn⟩ := fn_small hv h60 hfk
  have hrn : f.regs.toNat = n := by omega
  have HB : Hid (∀ X, Q (bxC w c) X → Cds X w.heap.size c) := fun X h => (cds_box w c).keep h
  have qB := hideIt (bxC_q w c)
  have CA : Hid (∀ X, Q (bxC w c) X → Calls Tryd.prog 8 #[] X fun e w' => e = .returned (.bool true) ∧ Q X w') := fun X h => awake_any X (hT.keep ((bxC_q w c).trans h))
  have CF : Hid (∀ X, Q (bxC w c) X → Calls Tryd.prog 9 #[c.v] X fun e w' => e = .returned (.bool true) ∧ Q X w') := fun X h => by have := few_any X c (hcok.keep ((bxC_q w c).trans h)); rw [hf] at this; exact this
  have CV : Hid (∀ X, Q (bxC w c) X → Calls Tryd.prog 11 #[c.v] X fun e w' => e = .returned (.int .i64 0) ∧ Q X w') := fun X h => by have := rvalid_any X c (hcok.keep ((bxC_q w c).trans h)); rw [hv] at this; exact this
  have CP : Hid (∀ X, Q (bxC w c) X → Calls Tryd.prog 10 #[c.v, .int .i64 (k : Int)] X (PartsP f X)) := fun X h => parts_is X c (hcok.keep ((bxC_q w c).trans h)) hv k f hfk h60
  obtain ⟨fb, fo, efa, hfat⟩ := hcok.fns k f hfk
  have FAT : Hid (∀ X, Q (bxC w c) X → FnAt X fb (fo + k * 4) f) := fun X h => hfat.keep ((bxC_q w c).trans h)
  have CR : Hid (∀ X, Q (bxC w c) X → Calls Tryd.prog 12 #[f.v] X (RPartsP f.parts n X)) := fun X h => rparts_any X f (hfat.keep ((bxC_q w c).trans h)).2 n hn hr hm0 hm (fun p hp => okB_of hv hfk hr h60 hp) (fun k r hl => by have := reads_lt hv hfk hl; omega)
  have HT : Hid (∀ X, Q (bxC w c) X → Tab X) := fun X h => hT.keep ((bxC_q w c).trans h)
  have HL1 : Hid (∀ j r, liB f.parts j r = true → r < n) := fun j r h => by have := reads_lt hv hfk ((liB_iff _ _ _).1 h); omega
  have HL2 : Hid (∀ j r, ouB f.parts j r = true → r < n) := fun j r h => by
    obtain ⟨p, -, x, -, hl⟩ := (ouB_iff _ _ _).1 h
    have := reads_lt hv hfk hl
    omega
  have hkl2 : (k : Int) < (c.fns.length : Int) := by omega
  have hkl3 : ¬ (k : Int) ≥ (c.fns.length : Int) := by omega
  have hk0 : ¬ (k : Int) < 0 := by omega
  generalize hBB : bxC w c = B at *
  have HBB := hideIt hBB
  clear hcok hBB hf hv hfk hT h60 hs hfat
  rcases c with ⟨gl, ini, fns, ga, gc, na, nc, fa, fc⟩
  dsimp only [PC.v] at *
  subst efa
  go_enter Tryd.func3, Tryd.ntmps3
  go_wp2_with (fail)
  rw [show w.alloc (.cells #[.slice ga gl.length gc, .slice na ini.length nc, .slice (some ⟨fb, fo, none⟩) fns.length fc] 26) = B from HBB.out]
  rcases f with ⟨params, regs, slots, parts, sa, sc, pa, pc⟩
  dsimp only [PF.v] at *
  subst hr
  go_wp2_with (first
    | (go_at_call 8; refine Calls.mono (CA.out _ (Q.refl _)) ?_; rintro e x1 ⟨rfl, q1⟩; have HX := hideIt q1; obtain ⟨s1, s2, s3⟩ := HB.out x1 q1; clear q1)
    | (go_at_call 9; refine Calls.mono (CF.out _ HX.out) ?_; rintro e y ⟨rfl, q1⟩; have HW := hideIt (HX.out.trans q1); clear q1 s1 s2 s3; obtain ⟨s1, s2, s3⟩ := HB.out y HW.out)
    | (go_at_call 10; refine Calls.mono (CP.out _ HW.out) ?_; rintro e y2 ⟨bi, bo, rfl, q1, h1, h2⟩; have HY := hideIt (HW.out.trans q1); have HI := hideIt h1; have HO := hideIt h2; clear q1 s1 s2 s3 h1 h2; obtain ⟨s1, s2, s3⟩ := HB.out y2 HY.out)
    | (go_at_call 11; refine Calls.mono (CV.out _ HY.out) ?_; rintro e y3 ⟨rfl, q1⟩; have HZ := hideIt (HY.out.trans q1); have HZ2 := hideIt q1; clear q1 s1 s2 s3; obtain ⟨s1, s2, s3⟩ := HB.out y3 HZ.out; obtain ⟨f0, f1, f2, f3⟩ := (FAT.out y3 HZ.out).1.four)
    | (go_at_call 12; refine Calls.mono (CR.out _ HZ.out) ?_; rintro e y4 ⟨ra, ca, rb, cb, rfl, h1, h2, q1⟩; have HQ4 := hideIt (HZ.out.trans q1); have HQ4' := hideIt (HZ2.out.trans q1); have HA := hideIt h1; have HBo := hideIt h2; clear q1 h1 h2 s1 s2 s3 f0 f1 f2 f3)
    | fail)
  go_loopg [11] (parts.length + 1) (fun kx jv z => ∃ j : Nat, jv = .int .i64 (j : Int) ∧ j ≤ parts.length ∧ parts.length - j + 1 ≤ kx ∧ Hid (Q y4 z))
  case atStart => exact ⟨0, rfl, Nat.zero_le _, by omega, hideIt (Q.refl _)⟩
  case round =>
    obtain ⟨j, rfl, hj, hjk, HQ⟩ := hrel
    generalize wr = z at *
    by_cases hjl : j < parts.length
    · have hjl2 : (j : Int) < (parts.length : Int) := by omega
      have q2z : Hid (Q y2 z) := HQ4'.out.trans HQ.out
      obtain ⟨v1, c1, sv1⟩ := HI.out j hjl
      obtain ⟨v2, c2, sv2⟩ := HO.out j hjl
      obtain ⟨va, vn, vc, rfl⟩ := sv1.form
      obtain ⟨ua, un, uc, rfl⟩ := sv2.form
      obtain ⟨ga', ca', e1, hA⟩ := HA.out
      injection e1 with e1 _ e1c
      injection e1 with e1
      injection e1 with e1 _
      subst e1
      subst e1c
      obtain ⟨gb', cb', e2, hB⟩ := HBo.out
      injection e2 with e2 _ e2c
      injection e2 with e2
      injection e2 with e2 _
      subst e2
      subst e2c
      obtain ⟨w1, d1, r1⟩ := hA j hjl
      obtain ⟨w2, d2, r2⟩ := hB j hjl
      obtain ⟨wa, wc, rfl, -⟩ := id r1
      obtain ⟨xa, xc, rfl, -⟩ := id r2
      simp only [Int.toNat_natCast] at sv1 sv2
      have HCC : Hid (∀ Y, Q z Y → Y.cell? ⟨bi, j, none⟩ = some (.slice va vn vc) ∧ Y.cell? ⟨bo, j, none⟩ = some (.slice ua un uc) ∧ Y.cell? ⟨ra, j, none⟩ = some (.slice wa n wc) ∧ Y.cell? ⟨rb, j, none⟩ = some (.slice xa n xc)) := fun Y q => ⟨cell_keep (q2z.out.trans q) c1, cell_keep (q2z.out.trans q) c2, cell_keep (HQ.out.trans q) d1, cell_keep (HQ.out.trans q) d2⟩
      have CS : Hid (∀ Y, Q z Y → ∀ v vb, ((v = .slice va vn vc ∧ vb = .slice wa n wc) ∨ (v = .slice ua un uc ∧ vb = .slice xa n xc)) → Calls Tryd.prog 13 #[.agg #[v], vb] Y fun e w' => e = .returned (.bool true) ∧ Q z w' ∧ w'.cell? ⟨bi, j, none⟩ = some (.slice va vn vc) ∧ w'.cell? ⟨bo, j, none⟩ = some (.slice ua un uc) ∧ w'.cell? ⟨ra, j, none⟩ = some (.slice wa n wc) ∧ w'.cell? ⟨rb, j, none⟩ = some (.slice xa n xc)) := fun Y q v vb hvb => by
        have ht := HT.out Y (HQ4.out.trans (HQ.out.trans q))
        rcases hvb with ⟨rfl, rfl⟩ | ⟨rfl, rfl⟩
        · exact (same_any Y _ _ (liB parts j) n hn (sv1.keep (q2z.out.trans q)) (r1.keep (HQ.out.trans q)) (HL1.out j) ht).mono fun e w' ⟨e1, q1⟩ => ⟨e1, q.trans q1, HCC.out w' (q.trans q1)⟩
        · exact (same_any Y _ _ (ouB parts j) n hn (sv2.keep (q2z.out.trans q)) (r2.keep (HQ.out.trans q)) (HL2.out j) ht).mono fun e w' ⟨e1, q1⟩ => ⟨e1, q.trans q1, HCC.out w' (q.trans q1)⟩
      clear c1 c2 d1 d2 sv1 sv2 r1 r2 hA hB
      obtain ⟨k1, k2, k3, k4⟩ := HCC.out z (Q.refl _)
      go_wp2_with (fail)
      first | go_region_held3 (fun y : World => Q z y ∧ y.cell? ⟨bi, j, none⟩ = some (.slice va vn vc) ∧ y.cell? ⟨bo, j, none⟩ = some (.slice ua un uc) ∧ y.cell? ⟨ra, j, none⟩ = some (.slice wa n wc) ∧ y.cell? ⟨rb, j, none⟩ = some (.slice xa n xc)) (first | exact ⟨(Q.refl _).drew, HCC.out _ (Q.refl _).drew⟩ | go_keep) (first | (go_at_call 13; refine Calls.mono (CS.out _ (by first | assumption | exact (Q.refl _).drew) _ _ (by first | exact Or.inl ⟨rfl, rfl⟩ | exact Or.inr ⟨rfl, rfl⟩)) ?_; rintro e y7 ⟨rfl, t0, t1, t2, t3, t4⟩)) | fail
      all_goals rename_i hHeld
      all_goals have Q4 := hideIt hHeld.1
      all_goals clear hHeld
      all_goals go_wp2_with (fail)
      all_goals (go_roundg (parts.length - (j + 1) + 1); (case measure => omega); (case rel => exact ⟨j + 1, by first | rfl | go_num, by omega, Nat.le_refl _, hideIt (HQ.out.trans Q4.out)⟩))
    · have hjl2 : ¬ (j : Int) < (parts.length : Int) := by omega
      go_wp2_with (fail)
      go_ret
      exact ⟨rfl, qB.out.trans (HQ4.out.trans HQ.out)⟩

theorem parts_walk (c : PC) (fn : Int) (w : World) (hcok : c.ok w) (hT : Tab w) (hs : codeN c ≤ 1099511627776) (hn : I64 fn) : Calls Tryd.prog 3 #[c.v, .int .i64 fn] w fun e w' => e = .returned (.bool true) ∧ Below w.heap.size w w' := by
  cases hf : fewP c with
  | false => exact parts_few c fn w hcok hT hf
  | true =>
    by_cases hv : validP c = 0
    · by_cases ho : fn < 0 ∨ (c.fns.length : Int) ≤ fn
      · exact parts_out c fn w hcok hT hf hv ho
      · obtain ⟨k, rfl⟩ : ∃ k : Nat, fn = (k : Int) := ⟨fn.toNat, by omega⟩
        exact parts_fine c k w hcok hT hf hv hs (by omega)
    · exact parts_bad c fn w hcok hT hf hv

end Go.Proofs.YtkcniahpkcdhoaaDoor.Lv
