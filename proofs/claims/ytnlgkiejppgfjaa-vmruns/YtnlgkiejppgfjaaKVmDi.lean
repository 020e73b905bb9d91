/-
  The document's machine (burinref25): a step: an operation of layer 1: contracts over the program; the conditions: the machine lies there, its word is in the program.
-/
import Derived.Test.YtnlgkiejppgfjaaKVmDg
import Derived.Deep.DeepCutAuto
namespace Go.Proofs.Ytnlgkiejppgfjaa
open Go.RowKit Go.Deep
set_option linter.unusedVariables false

namespace Da
section
variable {w w' w0 : World} {R : Nat} {col col' : Col} {im : PIm} {mem : List Int} {l : List Dc} {tr : List Int} {n : Nat} {cv kv tv : Value} {k : Nat} {y : Dc} {v tt : Int} {d a b : Nat} {i xa xb o : Int}
set_option maxRecDepth 100000 in
set_option maxHeartbeats 4000000 in
theorem st_20 (h : DX w w0 R col im mem l tr false 0 0 false n cv kv tv) (hal : allok l) (hok : im.ok w0) (hlw : im.ws.length ≤ 240000) (hk : k + 1 = l.length) (hkm : k < 2000) (hy : l[k]? = some y) (hv : im.ws[y.c.pl]? = some v) (P : Pts v 20 tt d a b i) (ht0 : 0 ≤ tt) (ht5 : tt ≤ 5) (hd8 : d < 8) (ha8 : a < 8) (hb8 : b < 8) (hi0 : 0 ≤ i) (hi1 : i ≤ 4294967295) (hxa : y.c.rg[a]? = some xa) (hxb : y.c.rg[b]? = some xb) :
    Calls Try.prog 19 #[.pointer (some ⟨R, 0, none⟩)] w fun e w' => e = .returned (.tuple #[]) ∧ ∃ kv', DX w' w0 R col im mem (l.set k { y with c := { y.c with pl := y.c.pl + 1, rg := y.c.rg.set d (Burin.wr tt i) } }) tr false 0 0 false n cv kv' tv ∧ Ex col w col w' := by
  obtain ⟨C, cap, rfl, HL0, HS0, HM0⟩ := h.copy hal hy
  have c5 : w.cell? ⟨R, 5, none⟩ = some (.slice (some ⟨C, 0, none⟩) (k + 1) cap) := by rw [hk]; exact h.c0.2.2.2.2.2.1
  have HL := hideIt HL0
  have HS := hideIt HS0
  have hyo := hal y (List.mem_of_getElem? hy)
  have hpl := (List.getElem?_eq_some_iff.1 hv).1
  obtain ⟨wb, wo, ewa, hwc, -⟩ := Wds.at (hok.ws.keep (show Q w0 (w.alloc (.cells y.cs.toArray 61)) from HM0.dx.bel)) hv
  have r0 : (w.alloc (.cells y.cs.toArray 61)).cell? ⟨R, 0, none⟩ = some (.slice (some ⟨wb, wo, none⟩) im.ws.length im.wc) := by rw [← ewa]; exact HM0.dx.c0.1
  have b0 : (w.alloc (.cells y.cs.toArray 61)).cell? ⟨w.heap.size, 0, none⟩ = some (.int .i64 (y.c.pl : Int)) := HM0.cell (j := 0) rfl
  have g0 := HM0.fz 0
  have HY := hideIt (And.intro hy (And.intro hyo (And.intro hk (And.intro hal (And.intro hpl hlw)))))
  have HOK := hideIt hok
  have z1 : IntKind.i64.wrap ((k : Int) + 1 - 1) = (k : Int) := by rw [IntKind.wrap_i64]; omega
  have zk : IntKind.i64.wrap (k : Int) = (k : Int) := by rw [IntKind.wrap_i64]; omega
  have z3 : IntKind.i64.wrap ((y.c.pl : Int) + 1) = (y.c.pl : Int) + 1 := by rw [IntKind.wrap_i64]; omega
  have p1 : decide ((y.c.pl : Int) < 0) = false := by simp
  have p2 : decide ((im.ws.length : Int) ≤ (y.c.pl : Int)) = false := by simp; omega
  have hpi : (y.c.pl : Int) < (im.ws.length : Int) := by omega
  have HI := hideIt (And.intro hi0 (And.intro hi1 (And.intro ht0 ht5)))
  have p3 : decide (5 < tt) = false := by simp; omega
  have p4 : decide (7 < (d : Int)) = false := by simp; omega
  have p5 : decide (7 < (a : Int)) = false := by simp; omega
  have p6 : decide (7 < (b : Int)) = false := by simp; omega
  have HX := hideIt (And.intro hxa hxb)
  have HM1 : Hid (∀ X, Q (w.alloc (.cells y.cs.toArray 61)) X → Mid X w w0 R col im mem l tr false 0 0 false n cv C cap tv w.heap.size y) := fun X q => HM0.keep q
  have HP := hideIt P
  clear h hal hok hlw hk hkm hy hv P HL0 HS0 HM0 hyo hpl ewa hxa hxb hi0 hi1 ht0 ht5
  go_enter Try.func19, Try.ntmps19
  go_wp2_with (first | (refine wpList_load_run (by rfl) 61 _ (by rfl) _ (by rfl) _ HL.out ?_) | (refine wpList_store_run (by rfl) 61 _ _ (by rfl) _ _ (by rfl) (by rfl) _ HS.out ?_) | fail)
  generalize w.alloc (.cells y.cs.toArray 61) = z at *
  go_quiet (fail)
  go_wp2_with (fail)
  go_quiet (fail)
  go_wp2_with (fail)
  go_at_call 32; refine Calls.mono (HP.out.po _) ?_; rintro e y1 ⟨rfl, m1, rfl⟩
  go_wp2_with (fail)
  go_at_call 32; refine Calls.mono (HP.out.pt _) ?_; rintro e y2 ⟨rfl, m2, rfl⟩
  go_wp2_with (fail)
  go_at_call 32; refine Calls.mono (HP.out.pd _) ?_; rintro e y3 ⟨rfl, m3, rfl⟩
  go_wp2_with (fail)
  go_at_call 32; refine Calls.mono (HP.out.pa _) ?_; rintro e y4 ⟨rfl, m4, rfl⟩
  go_wp2_with (fail)
  go_at_call 32; refine Calls.mono (HP.out.pb _) ?_; rintro e y5 ⟨rfl, m5, rfl⟩
  go_wp2_with (fail)
  go_at_call 32; refine Calls.mono (HP.out.p0 _) ?_; rintro e y6 ⟨rfl, m6, rfl⟩
  go_wp2_with (fail)
  go_at_call 32; refine Calls.mono (HP.out.pi _) ?_; rintro e y7 ⟨rfl, m7, rfl⟩
  obtain ⟨y1, hy1⟩ : ∃ y1 : Dc, y1 = { y with c := { y.c with pl := y.c.pl + 1 } } := ⟨_, rfl⟩
  have HY1 := hideIt hy1
  have HO1 := hideIt (show y1.c.ok from by have := HY.out.2.1; rw [hy1]; exact ⟨this.rg, this.gt, this.rd, by show y.c.pl + 1 ≤ _; have := HY.out.2.2.2.2; omega, this.ba, this.an⟩)
  clear hy1
  go_upto_region 14 with (fail)
  refine abs_world (M := fun W9 => Mid W9 w w0 R col im mem l tr false 0 0 false n cv C cap tv w.heap.size y1) ((HM1.out _ (Q.drewN (Q.refl _) _)).box (y' := y1) (j := 0) (by rw [HY1.out]; exact Dc.setPl y (y.c.pl + 1)) HO1.out) ?_
  intro z2 hm2
  have HM2 := hideIt hm2
  clear hm2
  have ea : y1.c.rg = y.c.rg := by rw [HY1.out]
  have ra := HM2.out.cell (Dc.rgAt HO1.out (by rw [ea]; exact HX.out.1))
  have rb := HM2.out.cell (Dc.rgAt HO1.out (by rw [ea]; exact HX.out.2))
  have ia : (a : Int) < 8 := by omega
  have ib : (b : Int) < 8 := by omega
  have id' : (d : Int) < 8 := by omega
  clear c5 hwc r0 b0 g0 z1 zk z3 p1 p2 hpi p3 p4 p5 p6 HM1 HP HL HS ea
  have GD := hideIt (show ∀ X, Q z2 X → X.frozen? ⟨w.heap.size, 4 + d, none⟩ = false ∧ ∃ u, X.cell? ⟨w.heap.size, 4 + d, none⟩ = some u from fun X q => ⟨(HM2.out.keep q).fz _, by
    obtain ⟨xd, hxd⟩ := get_of_lt (l := y1.c.rg) (k := d) (by rw [HO1.out.rg]; exact hd8)
    exact ⟨_, (HM2.out.keep q).cell (Dc.rgAt HO1.out hxd)⟩⟩)
  have CW := hideIt (fun X => Nu.rwrap_any tt i X HI.out.2.2.1)
  obtain ⟨y2, hy2⟩ : ∃ y2 : Dc, y2 = { y1 with c := { y1.c with rg := y1.c.rg.set d (Burin.wr tt i) } } := ⟨_, rfl⟩
  have HY2 := hideIt hy2
  have HO2 := hideIt (show y2.c.ok from by have := HO1.out; rw [hy2]; exact ⟨by rw [List.length_set]; exact this.rg, this.gt, this.rd, this.pl, this.ba, this.an⟩)
  have HM3 : Hid (∀ X, Q z2 X → Mid (X.setCell ⟨w.heap.size, 4 + d, none⟩ (.int .i64 (Burin.wr tt i))) w w0 R col im mem l tr false 0 0 false n cv C cap tv w.heap.size y2) := fun X q => (HM2.out.keep q).box (y' := y2) (j := 4 + d) (u := .int .i64 (Burin.wr tt i)) (by rw [hy2]; exact Dc.setRg HO1.out hd8 _) HO2.out
  clear hy2 
  go_wp2_with (fail)
  go_at_call 21; refine Calls.mono (CW.out _) ?_
  rintro e y9 ⟨rfl, q9⟩
  have HQ9 := hideIt (show Q z2 y9 from q9)
  clear q9
  obtain ⟨gd, u0, rd0⟩ := GD.out y9 HQ9.out
  go_wp2_with (fail)
  refine abs_world (M := fun W9 => Mid W9 w w0 R col im mem l tr false 0 0 false n cv C cap tv w.heap.size y2) (HM3.out _ (by first | exact Q.refl _ | exact HQ9.out | exact Q.drewN (Q.refl _) _ | exact Q.drewN HQ9.out _ | assumption)) ?_
  intro z4 hm4
  obtain ⟨BS, Z, st, sz, mz⟩ := hm4.back (k := k) HY.out.2.2.1
  have BK := hideIt (And.intro BS True.intro)
  have ST := hideIt st
  have SZ := hideIt sz
  have MZ := hideIt mz
  clear BS st sz mz hm4
  have hkl : (k : Int) < (k : Int) + 1 := by omega
  refine wp_region_held_drew (S := BackS R C cap w.heap.size k y2) (by kernel_rfl) BK.out.1 (fun hHeld => ?_)
  refine wpAnyH_take (i := 0) (oi := ⟨_, _, _, _, _, _⟩) (v := ?_) rfl (by kernel_rfl) (by kernel_rfl) (by kernel_rfl) (fun _ _ _ h => h) (Or.inl ⟨by rfl, ?_⟩) (by assumption) ?_
  rotate_left 1
  · intro w hSw; obtain ⟨hSw, -⟩ := hSw; (try dsimp only at hSw); go_simp; all_goals with_reducible rfl
  try simp only [Act.put, List.setIfInBounds_toArray, List.set_cons_zero, List.set_cons_succ]
  refine wpAnyH_take (i := 1) (oi := ⟨_, _, _, _, _, _⟩) (v := ?_) rfl (by kernel_rfl) (by kernel_rfl) (by kernel_rfl) (fun _ _ _ h => h) (Or.inl ⟨by rfl, ?_⟩) (by assumption) ?_
  rotate_left 1
  · intro w hSw; obtain ⟨hSw, -⟩ := hSw; (try dsimp only at hSw); go_simp; all_goals with_reducible rfl
  try simp only [Act.put, List.setIfInBounds_toArray, List.set_cons_zero, List.set_cons_succ]
  refine wpAnyH_take (i := 2) (oi := ⟨_, _, _, _, _, _⟩) (v := ?_) rfl (by kernel_rfl) (by kernel_rfl) (by kernel_rfl) (fun _ _ _ h => h) (Or.inl ⟨by rfl, ?_⟩) (by assumption) ?_
  rotate_left 1
  · intro w hSw; obtain ⟨hSw, -⟩ := hSw; (try dsimp only at hSw); go_simp; all_goals with_reducible rfl
  try simp only [Act.put, List.setIfInBounds_toArray, List.set_cons_zero, List.set_cons_succ]
  refine wpAnyH_take (i := 3) (oi := ⟨_, _, _, _, _, _⟩) (v := ?_) rfl (by kernel_rfl) (by kernel_rfl) (by kernel_rfl) (fun _ _ _ h => h) (Or.inl ⟨by rfl, ?_⟩) (by assumption) ?_
  rotate_left 1
  · intro w hSw; obtain ⟨hSw, -⟩ := hSw; (try dsimp only at hSw); go_simp; all_goals with_reducible rfl
  try simp only [Act.put, List.setIfInBounds_toArray, List.set_cons_zero, List.set_cons_succ]
  refine wpAnyH_take (i := 4) (oi := ⟨_, _, _, _, _, _⟩) (v := ?_) rfl (by kernel_rfl) (by kernel_rfl) (by kernel_rfl) (fun _ _ _ h => h) (Or.inl ⟨by rfl, ?_⟩) (by assumption) ?_
  rotate_left 1
  · intro w hSw; obtain ⟨hSw, -⟩ := hSw; (try dsimp only at hSw); go_simp; all_goals with_reducible rfl
  try simp only [Act.put, List.setIfInBounds_toArray, List.set_cons_zero, List.set_cons_succ]
  refine wpAnyH_take (i := 5) (oi := ⟨_, _, _, _, _, _⟩) (v := .agg y2.cs.toArray) rfl (by kernel_rfl) (by kernel_rfl) (by kernel_rfl) (fun _ _ _ h => h) (Or.inl ⟨by rfl, ?_⟩) (by assumption) ?_
  · intro w9 hSw; exact exec_load 61 _ (by rfl) (.pointer (some ⟨w.heap.size, 0, none⟩)) (by rfl) _ hSw.2
  try simp only [Act.put, List.setIfInBounds_toArray, List.set_cons_zero, List.set_cons_succ]
  refine wpAnyH_take (i := 6) (oi := ⟨_, _, _, _, _, _⟩) (v := ?_) rfl (by kernel_rfl) (by kernel_rfl) (by kernel_rfl) (fun _ _ _ h => h) (Or.inl ⟨by rfl, ?_⟩) (by assumption) ?_
  rotate_left 1
  · intro w hSw; obtain ⟨hSw, -⟩ := hSw; (try dsimp only at hSw); go_simp; all_goals with_reducible rfl
  try simp only [Act.put, List.setIfInBounds_toArray, List.set_cons_zero, List.set_cons_succ]
  refine wpAnyH_ready (rs := [7]) (by kernel_rfl) (by simp) (AllReadyH.cons (o := ⟨_, _, _, _, _, _⟩) rfl (fun K hK => ?_) AllReadyH.nil)
  refine step_store_run (by rfl) 61 _ _ (by rfl) (.pointer (some ⟨C, k * 24, none⟩)) (.agg y2.cs.toArray) (by rfl) (by rfl) _ ST.out ?_
  refine hK.out _ _ ?_ (fun hHeld => ?_)
  · exact SZ.out
  clear hK K
  try simp only [Act.put]
  refine wpAnyH_done (by kernel_rfl) ?_ _
  go_wp2_with (fail)
  first | go_end0 | refine bodyPost_ret (v := .tuple #[]) (results_none rfl _ _ _) rfl ?_
  have FX := MZ.out.dx
  have e2 : y2 = { y with c := { y.c with pl := y.c.pl + 1, rg := y.c.rg.set d (Burin.wr tt i) } } := by rw [HY2.out, HY1.out]
  rw [e2] at FX
  exact ⟨rfl, _, FX, MZ.out.ex⟩
set_option maxRecDepth 100000 in
set_option maxHeartbeats 4000000 in
theorem st_25 (h : DX w w0 R col im mem l tr false 0 0 false n cv kv tv) (hal : allok l) (hok : im.ok w0) (hlw : im.ws.length ≤ 240000) (hk : k + 1 = l.length) (hkm : k < 2000) (hy : l[k]? = some y) (hv : im.ws[y.c.pl]? = some v) (P : Pts v 25 tt d a b i) (ht0 : 0 ≤ tt) (ht5 : tt ≤ 5) (hd8 : d < 8) (ha8 : a < 8) (hb8 : b < 8) (hi0 : 0 ≤ i) (hi1 : i ≤ 4294967295) (hxa : y.c.rg[a]? = some xa) (hxb : y.c.rg[b]? = some xb) :
    Calls Try.prog 19 #[.pointer (some ⟨R, 0, none⟩)] w fun e w' => e = .returned (.tuple #[]) ∧ ∃ kv', DX w' w0 R col im mem (l.set k { y with c := { y.c with pl := y.c.pl + 1, rg := y.c.rg.set d (Burin.wr tt xa) } }) tr false 0 0 false n cv kv' tv ∧ Ex col w col w' := by
  obtain ⟨C, cap, rfl, HL0, HS0, HM0⟩ := h.copy hal hy
  have c5 : w.cell? ⟨R, 5, none⟩ = some (.slice (some ⟨C, 0, none⟩) (k + 1) cap) := by rw [hk]; exact h.c0.2.2.2.2.2.1
  have HL := hideIt HL0
  have HS := hideIt HS0
  have hyo := hal y (List.mem_of_getElem? hy)
  have hpl := (List.getElem?_eq_some_iff.1 hv).1
  obtain ⟨wb, wo, ewa, hwc, -⟩ := Wds.at (hok.ws.keep (show Q w0 (w.alloc (.cells y.cs.toArray 61)) from HM0.dx.bel)) hv
  have r0 : (w.alloc (.cells y.cs.toArray 61)).cell? ⟨R, 0, none⟩ = some (.slice (some ⟨wb, wo, none⟩) im.ws.length im.wc) := by rw [← ewa]; exact HM0.dx.c0.1
  have b0 : (w.alloc (.cells y.cs.toArray 61)).cell? ⟨w.heap.size, 0, none⟩ = some (.int .i64 (y.c.pl : Int)) := HM0.cell (j := 0) rfl
  have g0 := HM0.fz 0
  have HY := hideIt (And.intro hy (And.intro hyo (And.intro hk (And.intro hal (And.intro hpl hlw)))))
  have HOK := hideIt hok
  have z1 : IntKind.i64.wrap ((k : Int) + 1 - 1) = (k : Int) := by rw [IntKind.wrap_i64]; omega
  have zk : IntKind.i64.wrap (k : Int) = (k : Int) := by rw [IntKind.wrap_i64]; omega
  have z3 : IntKind.i64.wrap ((y.c.pl : Int) + 1) = (y.c.pl : Int) + 1 := by rw [IntKind.wrap_i64]; omega
  have p1 : decide ((y.c.pl : Int) < 0) = false := by simp
  have p2 : decide ((im.ws.length : Int) ≤ (y.c.pl : Int)) = false := by simp; omega
  have hpi : (y.c.pl : Int) < (im.ws.length : Int) := by omega
  have HI := hideIt (And.intro hi0 (And.intro hi1 (And.intro ht0 ht5)))
  have p3 : decide (5 < tt) = false := by simp; omega
  have p4 : decide (7 < (d : Int)) = false := by simp; omega
  have p5 : decide (7 < (a : Int)) = false := by simp; omega
  have p6 : decide (7 < (b : Int)) = false := by simp; omega
  have HX := hideIt (And.intro hxa hxb)
  have HM1 : Hid (∀ X, Q (w.alloc (.cells y.cs.toArray 61)) X → Mid X w w0 R col im mem l tr false 0 0 false n cv C cap tv w.heap.size y) := fun X q => HM0.keep q
  have HP := hideIt P
  clear h hal hok hlw hk hkm hy hv P HL0 HS0 HM0 hyo hpl ewa hxa hxb hi0 hi1 ht0 ht5
  go_enter Try.func19, Try.ntmps19
  go_wp2_with (first | (refine wpList_load_run (by rfl) 61 _ (by rfl) _ (by rfl) _ HL.out ?_) | (refine wpList_store_run (by rfl) 61 _ _ (by rfl) _ _ (by rfl) (by rfl) _ HS.out ?_) | fail)
  generalize w.alloc (.cells y.cs.toArray 61) = z at *
  go_quiet (fail)
  go_wp2_with (fail)
  go_quiet (fail)
  go_wp2_with (fail)
  go_at_call 32; refine Calls.mono (HP.out.po _) ?_; rintro e y1 ⟨rfl, m1, rfl⟩
  go_wp2_with (fail)
  go_at_call 32; refine Calls.mono (HP.out.pt _) ?_; rintro e y2 ⟨rfl, m2, rfl⟩
  go_wp2_with (fail)
  go_at_call 32; refine Calls.mono (HP.out.pd _) ?_; rintro e y3 ⟨rfl, m3, rfl⟩
  go_wp2_with (fail)
  go_at_call 32; refine Calls.mono (HP.out.pa _) ?_; rintro e y4 ⟨rfl, m4, rfl⟩
  go_wp2_with (fail)
  go_at_call 32; refine Calls.mono (HP.out.pb _) ?_; rintro e y5 ⟨rfl, m5, rfl⟩
  go_wp2_with (fail)
  go_at_call 32; refine Calls.mono (HP.out.p0 _) ?_; rintro e y6 ⟨rfl, m6, rfl⟩
  go_wp2_with (fail)
  go_at_call 32; refine Calls.mono (HP.out.pi _) ?_; rintro e y7 ⟨rfl, m7, rfl⟩
  obtain ⟨y1, hy1⟩ : ∃ y1 : Dc, y1 = { y with c := { y.c with pl := y.c.pl + 1 } } := ⟨_, rfl⟩
  have HY1 := hideIt hy1
  have HO1 := hideIt (show y1.c.ok from by have := HY.out.2.1; rw [hy1]; exact ⟨this.rg, this.gt, this.rd, by show y.c.pl + 1 ≤ _; have := HY.out.2.2.2.2; omega, this.ba, this.an⟩)
  clear hy1
  go_upto_region 14 with (fail)
  refine abs_world (M := fun W9 => Mid W9 w w0 R col im mem l tr false 0 0 false n cv C cap tv w.heap.size y1) ((HM1.out _ (Q.drewN (Q.refl _) _)).box (y' := y1) (j := 0) (by rw [HY1.out]; exact Dc.setPl y (y.c.pl + 1)) HO1.out) ?_
  intro z2 hm2
  have HM2 := hideIt hm2
  clear hm2
  have ea : y1.c.rg = y.c.rg := by rw [HY1.out]
  have ra := HM2.out.cell (Dc.rgAt HO1.out (by rw [ea]; exact HX.out.1))
  have rb := HM2.out.cell (Dc.rgAt HO1.out (by rw [ea]; exact HX.out.2))
  have ia : (a : Int) < 8 := by omega
  have ib : (b : Int) < 8 := by omega
  have id' : (d : Int) < 8 := by omega
  clear c5 hwc r0 b0 g0 z1 zk z3 p1 p2 hpi p3 p4 p5 p6 HM1 HP HL HS ea
  have GD := hideIt (show ∀ X, Q z2 X → X.frozen? ⟨w.heap.size, 4 + d, none⟩ = false ∧ ∃ u, X.cell? ⟨w.heap.size, 4 + d, none⟩ = some u from fun X q => ⟨(HM2.out.keep q).fz _, by
    obtain ⟨xd, hxd⟩ := get_of_lt (l := y1.c.rg) (k := d) (by rw [HO1.out.rg]; exact hd8)
    exact ⟨_, (HM2.out.keep q).cell (Dc.rgAt HO1.out hxd)⟩⟩)
  have CW := hideIt (fun X => Nu.rwrap_any tt xa X HI.out.2.2.1)
  obtain ⟨y2, hy2⟩ : ∃ y2 : Dc, y2 = { y1 with c := { y1.c with rg := y1.c.rg.set d (Burin.wr tt xa) } } := ⟨_, rfl⟩
  have HY2 := hideIt hy2
  have HO2 := hideIt (show y2.c.ok from by have := HO1.out; rw [hy2]; exact ⟨by rw [List.length_set]; exact this.rg, this.gt, this.rd, this.pl, this.ba, this.an⟩)
  have HM3 : Hid (∀ X, Q z2 X → Mid (X.setCell ⟨w.heap.size, 4 + d, none⟩ (.int .i64 (Burin.wr tt xa))) w w0 R col im mem l tr false 0 0 false n cv C cap tv w.heap.size y2) := fun X q => (HM2.out.keep q).box (y' := y2) (j := 4 + d) (u := .int .i64 (Burin.wr tt xa)) (by rw [hy2]; exact Dc.setRg HO1.out hd8 _) HO2.out
  clear hy2 
  go_wp2_with (fail)
  go_at_call 21; refine Calls.mono (CW.out _) ?_
  rintro e y9 ⟨rfl, q9⟩
  have HQ9 := hideIt (show Q z2 y9 from q9)
  clear q9
  obtain ⟨gd, u0, rd0⟩ := GD.out y9 HQ9.out
  go_wp2_with (fail)
  refine abs_world (M := fun W9 => Mid W9 w w0 R col im mem l tr false 0 0 false n cv C cap tv w.heap.size y2) (HM3.out _ (by first | exact Q.refl _ | exact HQ9.out | exact Q.drewN (Q.refl _) _ | exact Q.drewN HQ9.out _ | assumption)) ?_
  intro z4 hm4
  obtain ⟨BS, Z, st, sz, mz⟩ := hm4.back (k := k) HY.out.2.2.1
  have BK := hideIt (And.intro BS True.intro)
  have ST := hideIt st
  have SZ := hideIt sz
  have MZ := hideIt mz
  clear BS st sz mz hm4
  have hkl : (k : Int) < (k : Int) + 1 := by omega
  refine wp_region_held_drew (S := BackS R C cap w.heap.size k y2) (by kernel_rfl) BK.out.1 (fun hHeld => ?_)
  refine wpAnyH_take (i := 0) (oi := ⟨_, _, _, _, _, _⟩) (v := ?_) rfl (by kernel_rfl) (by kernel_rfl) (by kernel_rfl) (fun _ _ _ h => h) (Or.inl ⟨by rfl, ?_⟩) (by assumption) ?_
  rotate_left 1
  · intro w hSw; obtain ⟨hSw, -⟩ := hSw; (try dsimp only at hSw); go_simp; all_goals with_reducible rfl
  try simp only [Act.put, List.setIfInBounds_toArray, List.set_cons_zero, List.set_cons_succ]
  refine wpAnyH_take (i := 1) (oi := ⟨_, _, _, _, _, _⟩) (v := ?_) rfl (by kernel_rfl) (by kernel_rfl) (by kernel_rfl) (fun _ _ _ h => h) (Or.inl ⟨by rfl, ?_⟩) (by assumption) ?_
  rotate_left 1
  · intro w hSw; obtain ⟨hSw, -⟩ := hSw; (try dsimp only at hSw); go_simp; all_goals with_reducible rfl
  try simp only [Act.put, List.setIfInBounds_toArray, List.set_cons_zero, List.set_cons_succ]
  refine wpAnyH_take (i := 2) (oi := ⟨_, _, _, _, _, _⟩) (v := ?_) rfl (by kernel_rfl) (by kernel_rfl) (by kernel_rfl) (fun _ _ _ h => h) (Or.inl ⟨by rfl, ?_⟩) (by assumption) ?_
  rotate_left 1
  · intro w hSw; obtain ⟨hSw, -⟩ := hSw; (try dsimp only at hSw); go_simp; all_goals with_reducible rfl
  try simp only [Act.put, List.setIfInBounds_toArray, List.set_cons_zero, List.set_cons_succ]
  refine wpAnyH_take (i := 3) (oi := ⟨_, _, _, _, _, _⟩) (v := ?_) rfl (by kernel_rfl) (by kernel_rfl) (by kernel_rfl) (fun _ _ _ h => h) (Or.inl ⟨by rfl, ?_⟩) (by assumption) ?_
  rotate_left 1
  · intro w hSw; obtain ⟨hSw, -⟩ := hSw; (try dsimp only at hSw); go_simp; all_goals with_reducible rfl
  try simp only [Act.put, List.setIfInBounds_toArray, List.set_cons_zero, List.set_cons_succ]
  refine wpAnyH_take (i := 4) (oi := ⟨_, _, _, _, _, _⟩) (v := ?_) rfl (by kernel_rfl) (by kernel_rfl) (by kernel_rfl) (fun _ _ _ h => h) (Or.inl ⟨by rfl, ?_⟩) (by assumption) ?_
  rotate_left 1
  · intro w hSw; obtain ⟨hSw, -⟩ := hSw; (try dsimp only at hSw); go_simp; all_goals with_reducible rfl
  try simp only [Act.put, List.setIfInBounds_toArray, List.set_cons_zero, List.set_cons_succ]
  refine wpAnyH_take (i := 5) (oi := ⟨_, _, _, _, _, _⟩) (v := .agg y2.cs.toArray) rfl (by kernel_rfl) (by kernel_rfl) (by kernel_rfl) (fun _ _ _ h => h) (Or.inl ⟨by rfl, ?_⟩) (by assumption) ?_
  · intro w9 hSw; exact exec_load 61 _ (by rfl) (.pointer (some ⟨w.heap.size, 0, none⟩)) (by rfl) _ hSw.2
  try simp only [Act.put, List.setIfInBounds_toArray, List.set_cons_zero, List.set_cons_succ]
  refine wpAnyH_take (i := 6) (oi := ⟨_, _, _, _, _, _⟩) (v := ?_) rfl (by kernel_rfl) (by kernel_rfl) (by kernel_rfl) (fun _ _ _ h => h) (Or.inl ⟨by rfl, ?_⟩) (by assumption) ?_
  rotate_left 1
  · intro w hSw; obtain ⟨hSw, -⟩ := hSw; (try dsimp only at hSw); go_simp; all_goals with_reducible rfl
  try simp only [Act.put, List.setIfInBounds_toArray, List.set_cons_zero, List.set_cons_succ]
  refine wpAnyH_ready (rs := [7]) (by kernel_rfl) (by simp) (AllReadyH.cons (o := ⟨_, _, _, _, _, _⟩) rfl (fun K hK => ?_) AllReadyH.nil)
  refine step_store_run (by rfl) 61 _ _ (by rfl) (.pointer (some ⟨C, k * 24, none⟩)) (.agg y2.cs.toArray) (by rfl) (by rfl) _ ST.out ?_
  refine hK.out _ _ ?_ (fun hHeld => ?_)
  · exact SZ.out
  clear hK K
  try simp only [Act.put]
  refine wpAnyH_done (by kernel_rfl) ?_ _
  go_wp2_with (fail)
  first | go_end0 | refine bodyPost_ret (v := .tuple #[]) (results_none rfl _ _ _) rfl ?_
  have FX := MZ.out.dx
  have e2 : y2 = { y with c := { y.c with pl := y.c.pl + 1, rg := y.c.rg.set d (Burin.wr tt xa) } } := by rw [HY2.out, HY1.out]
  rw [e2] at FX
  exact ⟨rfl, _, FX, MZ.out.ex⟩
set_option maxRecDepth 100000 in
set_option maxHeartbeats 4000000 in
theorem st_22 (h : DX w w0 R col im mem l tr false 0 0 false n cv kv tv) (hal : allok l) (hok : im.ok w0) (hlw : im.ws.length ≤ 240000) (hk : k + 1 = l.length) (hkm : k < 2000) (hy : l[k]? = some y) (hv : im.ws[y.c.pl]? = some v) (P : Pts v 22 tt d a b i) (ht0 : 0 ≤ tt) (ht5 : tt ≤ 5) (hd8 : d < 8) (ha8 : a < 8) (hb8 : b < 8) (hi0 : 0 ≤ i) (hi1 : i ≤ 4294967295) (hxa : y.c.rg[a]? = some xa) (hxb : y.c.rg[b]? = some xb) (hz : Burin.un2 1 tt xa = 0) :
    Calls Try.prog 19 #[.pointer (some ⟨R, 0, none⟩)] w fun e w' => e = .returned (.tuple #[]) ∧ ∃ kv', DX w' w0 R col im mem (l.set k { y with c := { y.c with pl := y.c.pl + 1, rg := y.c.rg.set d (Burin.un1 1 tt xa) } }) tr false 0 0 false n cv kv' tv ∧ Ex col w col w' := by
  obtain ⟨C, cap, rfl, HL0, HS0, HM0⟩ := h.copy hal hy
  have c5 : w.cell? ⟨R, 5, none⟩ = some (.slice (some ⟨C, 0, none⟩) (k + 1) cap) := by rw [hk]; exact h.c0.2.2.2.2.2.1
  have HL := hideIt HL0
  have HS := hideIt HS0
  have hyo := hal y (List.mem_of_getElem? hy)
  have hpl := (List.getElem?_eq_some_iff.1 hv).1
  obtain ⟨wb, wo, ewa, hwc, -⟩ := Wds.at (hok.ws.keep (show Q w0 (w.alloc (.cells y.cs.toArray 61)) from HM0.dx.bel)) hv
  have r0 : (w.alloc (.cells y.cs.toArray 61)).cell? ⟨R, 0, none⟩ = some (.slice (some ⟨wb, wo, none⟩) im.ws.length im.wc) := by rw [← ewa]; exact HM0.dx.c0.1
  have b0 : (w.alloc (.cells y.cs.toArray 61)).cell? ⟨w.heap.size, 0, none⟩ = some (.int .i64 (y.c.pl : Int)) := HM0.cell (j := 0) rfl
  have g0 := HM0.fz 0
  have HY := hideIt (And.intro hy (And.intro hyo (And.intro hk (And.intro hal (And.intro hpl hlw)))))
  have HOK := hideIt hok
  have z1 : IntKind.i64.wrap ((k : Int) + 1 - 1) = (k : Int) := by rw [IntKind.wrap_i64]; omega
  have zk : IntKind.i64.wrap (k : Int) = (k : Int) := by rw [IntKind.wrap_i64]; omega
  have z3 : IntKind.i64.wrap ((y.c.pl : Int) + 1) = (y.c.pl : Int) + 1 := by rw [IntKind.wrap_i64]; omega
  have p1 : decide ((y.c.pl : Int) < 0) = false := by simp
  have p2 : decide ((im.ws.length : Int) ≤ (y.c.pl : Int)) = false := by simp; omega
  have hpi : (y.c.pl : Int) < (im.ws.length : Int) := by omega
  have HI := hideIt (And.intro hi0 (And.intro hi1 (And.intro ht0 ht5)))
  have p3 : decide (5 < tt) = false := by simp; omega
  have p4 : decide (7 < (d : Int)) = false := by simp; omega
  have p5 : decide (7 < (a : Int)) = false := by simp; omega
  have p6 : decide (7 < (b : Int)) = false := by simp; omega
  have HX := hideIt (And.intro hxa hxb)
  have HM1 : Hid (∀ X, Q (w.alloc (.cells y.cs.toArray 61)) X → Mid X w w0 R col im mem l tr false 0 0 false n cv C cap tv w.heap.size y) := fun X q => HM0.keep q
  have HP := hideIt P
  clear h hal hok hlw hk hkm hy hv P HL0 HS0 HM0 hyo hpl ewa hxa hxb hi0 hi1 ht0 ht5
  go_enter Try.func19, Try.ntmps19
  go_wp2_with (first | (refine wpList_load_run (by rfl) 61 _ (by rfl) _ (by rfl) _ HL.out ?_) | (refine wpList_store_run (by rfl) 61 _ _ (by rfl) _ _ (by rfl) (by rfl) _ HS.out ?_) | fail)
  generalize w.alloc (.cells y.cs.toArray 61) = z at *
  go_quiet (fail)
  go_wp2_with (fail)
  go_quiet (fail)
  go_wp2_with (fail)
  go_at_call 32; refine Calls.mono (HP.out.po _) ?_; rintro e y1 ⟨rfl, m1, rfl⟩
  go_wp2_with (fail)
  go_at_call 32; refine Calls.mono (HP.out.pt _) ?_; rintro e y2 ⟨rfl, m2, rfl⟩
  go_wp2_with (fail)
  go_at_call 32; refine Calls.mono (HP.out.pd _) ?_; rintro e y3 ⟨rfl, m3, rfl⟩
  go_wp2_with (fail)
  go_at_call 32; refine Calls.mono (HP.out.pa _) ?_; rintro e y4 ⟨rfl, m4, rfl⟩
  go_wp2_with (fail)
  go_at_call 32; refine Calls.mono (HP.out.pb _) ?_; rintro e y5 ⟨rfl, m5, rfl⟩
  go_wp2_with (fail)
  go_at_call 32; refine Calls.mono (HP.out.p0 _) ?_; rintro e y6 ⟨rfl, m6, rfl⟩
  go_wp2_with (fail)
  go_at_call 32; refine Calls.mono (HP.out.pi _) ?_; rintro e y7 ⟨rfl, m7, rfl⟩
  obtain ⟨y1, hy1⟩ : ∃ y1 : Dc, y1 = { y with c := { y.c with pl := y.c.pl + 1 } } := ⟨_, rfl⟩
  have HY1 := hideIt hy1
  have HO1 := hideIt (show y1.c.ok from by have := HY.out.2.1; rw [hy1]; exact ⟨this.rg, this.gt, this.rd, by show y.c.pl + 1 ≤ _; have := HY.out.2.2.2.2; omega, this.ba, this.an⟩)
  clear hy1
  go_upto_region 14 with (fail)
  refine abs_world (M := fun W9 => Mid W9 w w0 R col im mem l tr false 0 0 false n cv C cap tv w.heap.size y1) ((HM1.out _ (Q.drewN (Q.refl _) _)).box (y' := y1) (j := 0) (by rw [HY1.out]; exact Dc.setPl y (y.c.pl + 1)) HO1.out) ?_
  intro z2 hm2
  have HM2 := hideIt hm2
  clear hm2
  have ea : y1.c.rg = y.c.rg := by rw [HY1.out]
  have ra := HM2.out.cell (Dc.rgAt HO1.out (by rw [ea]; exact HX.out.1))
  have rb := HM2.out.cell (Dc.rgAt HO1.out (by rw [ea]; exact HX.out.2))
  have ia : (a : Int) < 8 := by omega
  have ib : (b : Int) < 8 := by omega
  have id' : (d : Int) < 8 := by omega
  clear c5 hwc r0 b0 g0 z1 zk z3 p1 p2 hpi p3 p4 p5 p6 HM1 HP HL HS ea
  have GD := hideIt (show ∀ X, Q z2 X → X.frozen? ⟨w.heap.size, 4 + d, none⟩ = false ∧ ∃ u, X.cell? ⟨w.heap.size, 4 + d, none⟩ = some u from fun X q => ⟨(HM2.out.keep q).fz _, by
    obtain ⟨xd, hxd⟩ := get_of_lt (l := y1.c.rg) (k := d) (by rw [HO1.out.rg]; exact hd8)
    exact ⟨_, (HM2.out.keep q).cell (Dc.rgAt HO1.out hxd)⟩⟩)
  have CW := hideIt (fun X => Nu.run_any 1 tt xa X HI.out.2.2.1)
  rw [hz] at CW
  obtain ⟨y2, hy2⟩ : ∃ y2 : Dc, y2 = { y1 with c := { y1.c with rg := y1.c.rg.set d (Burin.un1 1 tt xa) } } := ⟨_, rfl⟩
  have HY2 := hideIt hy2
  have HO2 := hideIt (show y2.c.ok from by have := HO1.out; rw [hy2]; exact ⟨by rw [List.length_set]; exact this.rg, this.gt, this.rd, this.pl, this.ba, this.an⟩)
  have HM3 : Hid (∀ X, Q z2 X → Mid (X.setCell ⟨w.heap.size, 4 + d, none⟩ (.int .i64 (Burin.un1 1 tt xa))) w w0 R col im mem l tr false 0 0 false n cv C cap tv w.heap.size y2) := fun X q => (HM2.out.keep q).box (y' := y2) (j := 4 + d) (u := .int .i64 (Burin.un1 1 tt xa)) (by rw [hy2]; exact Dc.setRg HO1.out hd8 _) HO2.out
  clear hy2 hz
  go_wp2_with (fail)
  go_at_call 33; refine Calls.mono (CW.out _) ?_
  rintro e y9 ⟨rfl, q9⟩
  have HQ9 := hideIt (show Q z2 y9 from q9)
  clear q9
  obtain ⟨gd, u0, rd0⟩ := GD.out y9 HQ9.out
  go_wp2_with (fail)
  refine abs_world (M := fun W9 => Mid W9 w w0 R col im mem l tr false 0 0 false n cv C cap tv w.heap.size y2) (HM3.out _ (by first | exact Q.refl _ | exact HQ9.out | exact Q.drewN (Q.refl _) _ | exact Q.drewN HQ9.out _ | assumption)) ?_
  intro z4 hm4
  obtain ⟨BS, Z, st, sz, mz⟩ := hm4.back (k := k) HY.out.2.2.1
  have BK := hideIt (And.intro BS True.intro)
  have ST := hideIt st
  have SZ := hideIt sz
  have MZ := hideIt mz
  clear BS st sz mz hm4
  have hkl : (k : Int) < (k : Int) + 1 := by omega
  refine wp_region_held_drew (S := BackS R C cap w.heap.size k y2) (by kernel_rfl) BK.out.1 (fun hHeld => ?_)
  refine wpAnyH_take (i := 0) (oi := ⟨_, _, _, _, _, _⟩) (v := ?_) rfl (by kernel_rfl) (by kernel_rfl) (by kernel_rfl) (fun _ _ _ h => h) (Or.inl ⟨by rfl, ?_⟩) (by assumption) ?_
  rotate_left 1
  · intro w hSw; obtain ⟨hSw, -⟩ := hSw; (try dsimp only at hSw); go_simp; all_goals with_reducible rfl
  try simp only [Act.put, List.setIfInBounds_toArray, List.set_cons_zero, List.set_cons_succ]
  refine wpAnyH_take (i := 1) (oi := ⟨_, _, _, _, _, _⟩) (v := ?_) rfl (by kernel_rfl) (by kernel_rfl) (by kernel_rfl) (fun _ _ _ h => h) (Or.inl ⟨by rfl, ?_⟩) (by assumption) ?_
  rotate_left 1
  · intro w hSw; obtain ⟨hSw, -⟩ := hSw; (try dsimp only at hSw); go_simp; all_goals with_reducible rfl
  try simp only [Act.put, List.setIfInBounds_toArray, List.set_cons_zero, List.set_cons_succ]
  refine wpAnyH_take (i := 2) (oi := ⟨_, _, _, _, _, _⟩) (v := ?_) rfl (by kernel_rfl) (by kernel_rfl) (by kernel_rfl) (fun _ _ _ h => h) (Or.inl ⟨by rfl, ?_⟩) (by assumption) ?_
  rotate_left 1
  · intro w hSw; obtain ⟨hSw, -⟩ := hSw; (try dsimp only at hSw); go_simp; all_goals with_reducible rfl
  try simp only [Act.put, List.setIfInBounds_toArray, List.set_cons_zero, List.set_cons_succ]
  refine wpAnyH_take (i := 3) (oi := ⟨_, _, _, _, _, _⟩) (v := ?_) rfl (by kernel_rfl) (by kernel_rfl) (by kernel_rfl) (fun _ _ _ h => h) (Or.inl ⟨by rfl, ?_⟩) (by assumption) ?_
  rotate_left 1
  · intro w hSw; obtain ⟨hSw, -⟩ := hSw; (try dsimp only at hSw); go_simp; all_goals with_reducible rfl
  try simp only [Act.put, List.setIfInBounds_toArray, List.set_cons_zero, List.set_cons_succ]
  refine wpAnyH_take (i := 4) (oi := ⟨_, _, _, _, _, _⟩) (v := ?_) rfl (by kernel_rfl) (by kernel_rfl) (by kernel_rfl) (fun _ _ _ h => h) (Or.inl ⟨by rfl, ?_⟩) (by assumption) ?_
  rotate_left 1
  · intro w hSw; obtain ⟨hSw, -⟩ := hSw; (try dsimp only at hSw); go_simp; all_goals with_reducible rfl
  try simp only [Act.put, List.setIfInBounds_toArray, List.set_cons_zero, List.set_cons_succ]
  refine wpAnyH_take (i := 5) (oi := ⟨_, _, _, _, _, _⟩) (v := .agg y2.cs.toArray) rfl (by kernel_rfl) (by kernel_rfl) (by kernel_rfl) (fun _ _ _ h => h) (Or.inl ⟨by rfl, ?_⟩) (by assumption) ?_
  · intro w9 hSw; exact exec_load 61 _ (by rfl) (.pointer (some ⟨w.heap.size, 0, none⟩)) (by rfl) _ hSw.2
  try simp only [Act.put, List.setIfInBounds_toArray, List.set_cons_zero, List.set_cons_succ]
  refine wpAnyH_take (i := 6) (oi := ⟨_, _, _, _, _, _⟩) (v := ?_) rfl (by kernel_rfl) (by kernel_rfl) (by kernel_rfl) (fun _ _ _ h => h) (Or.inl ⟨by rfl, ?_⟩) (by assumption) ?_
  rotate_left 1
  · intro w hSw; obtain ⟨hSw, -⟩ := hSw; (try dsimp only at hSw); go_simp; all_goals with_reducible rfl
  try simp only [Act.put, List.setIfInBounds_toArray, List.set_cons_zero, List.set_cons_succ]
  refine wpAnyH_ready (rs := [7]) (by kernel_rfl) (by simp) (AllReadyH.cons (o := ⟨_, _, _, _, _, _⟩) rfl (fun K hK => ?_) AllReadyH.nil)
  refine step_store_run (by rfl) 61 _ _ (by rfl) (.pointer (some ⟨C, k * 24, none⟩)) (.agg y2.cs.toArray) (by rfl) (by rfl) _ ST.out ?_
  refine hK.out _ _ ?_ (fun hHeld => ?_)
  · exact SZ.out
  clear hK K
  try simp only [Act.put]
  refine wpAnyH_done (by kernel_rfl) ?_ _
  go_wp2_with (fail)
  first | go_end0 | refine bodyPost_ret (v := .tuple #[]) (results_none rfl _ _ _) rfl ?_
  have FX := MZ.out.dx
  have e2 : y2 = { y with c := { y.c with pl := y.c.pl + 1, rg := y.c.rg.set d (Burin.un1 1 tt xa) } } := by rw [HY2.out, HY1.out]
  rw [e2] at FX
  exact ⟨rfl, _, FX, MZ.out.ex⟩
set_option maxRecDepth 100000 in
set_option maxHeartbeats 4000000 in
theorem tp_22 (h : DX w w0 R col im mem l tr false 0 0 false n cv kv tv) (hal : allok l) (hok : im.ok w0) (hlw : im.ws.length ≤ 240000) (hk : k + 1 = l.length) (hkm : k < 2000) (hy : l[k]? = some y) (hv : im.ws[y.c.pl]? = some v) (P : Pts v 22 tt d a b i) (ht0 : 0 ≤ tt) (ht5 : tt ≤ 5) (hd8 : d < 8) (ha8 : a < 8) (hb8 : b < 8) (hi0 : 0 ≤ i) (hi1 : i ≤ 4294967295) (hxa : y.c.rg[a]? = some xa) (hxb : y.c.rg[b]? = some xb) (q : Int) (hz : Burin.un2 1 tt xa = q) (hq0 : q ≠ 0) :
    Calls Try.prog 19 #[.pointer (some ⟨R, 0, none⟩)] w fun e w' => e = .returned (.tuple #[]) ∧ ∃ kv', DX w' w0 R col im mem l tr false 0 (q) false n cv kv' tv ∧ Ex col w col w' := by
  obtain ⟨C, cap, rfl, HL0, HS0, HM0⟩ := h.copy hal hy
  have c5 : w.cell? ⟨R, 5, none⟩ = some (.slice (some ⟨C, 0, none⟩) (k + 1) cap) := by rw [hk]; exact h.c0.2.2.2.2.2.1
  have HL := hideIt HL0
  have HS := hideIt HS0
  have hyo := hal y (List.mem_of_getElem? hy)
  have hpl := (List.getElem?_eq_some_iff.1 hv).1
  obtain ⟨wb, wo, ewa, hwc, -⟩ := Wds.at (hok.ws.keep (show Q w0 (w.alloc (.cells y.cs.toArray 61)) from HM0.dx.bel)) hv
  have r0 : (w.alloc (.cells y.cs.toArray 61)).cell? ⟨R, 0, none⟩ = some (.slice (some ⟨wb, wo, none⟩) im.ws.length im.wc) := by rw [← ewa]; exact HM0.dx.c0.1
  have b0 : (w.alloc (.cells y.cs.toArray 61)).cell? ⟨w.heap.size, 0, none⟩ = some (.int .i64 (y.c.pl : Int)) := HM0.cell (j := 0) rfl
  have g0 := HM0.fz 0
  have HY := hideIt (And.intro hy (And.intro hyo (And.intro hk (And.intro hal (And.intro hpl hlw)))))
  have HOK := hideIt hok
  have z1 : IntKind.i64.wrap ((k : Int) + 1 - 1) = (k : Int) := by rw [IntKind.wrap_i64]; omega
  have zk : IntKind.i64.wrap (k : Int) = (k : Int) := by rw [IntKind.wrap_i64]; omega
  have z3 : IntKind.i64.wrap ((y.c.pl : Int) + 1) = (y.c.pl : Int) + 1 := by rw [IntKind.wrap_i64]; omega
  have p1 : decide ((y.c.pl : Int) < 0) = false := by simp
  have p2 : decide ((im.ws.length : Int) ≤ (y.c.pl : Int)) = false := by simp; omega
  have hpi : (y.c.pl : Int) < (im.ws.length : Int) := by omega
  have HI := hideIt (And.intro hi0 (And.intro hi1 (And.intro ht0 ht5)))
  have p3 : decide (5 < tt) = false := by simp; omega
  have p4 : decide (7 < (d : Int)) = false := by simp; omega
  have p5 : decide (7 < (a : Int)) = false := by simp; omega
  have p6 : decide (7 < (b : Int)) = false := by simp; omega
  have HX := hideIt (And.intro hxa hxb)
  have HM1 : Hid (∀ X, Q (w.alloc (.cells y.cs.toArray 61)) X → Mid X w w0 R col im mem l tr false 0 0 false n cv C cap tv w.heap.size y) := fun X q => HM0.keep q
  have HP := hideIt P
  clear h hal hok hlw hk hkm hy hv P HL0 HS0 HM0 hyo hpl ewa hxa hxb hi0 hi1 ht0 ht5
  go_enter Try.func19, Try.ntmps19
  go_wp2_with (first | (refine wpList_load_run (by rfl) 61 _ (by rfl) _ (by rfl) _ HL.out ?_) | (refine wpList_store_run (by rfl) 61 _ _ (by rfl) _ _ (by rfl) (by rfl) _ HS.out ?_) | fail)
  generalize w.alloc (.cells y.cs.toArray 61) = z at *
  go_quiet (fail)
  go_wp2_with (fail)
  go_quiet (fail)
  go_wp2_with (fail)
  go_at_call 32; refine Calls.mono (HP.out.po _) ?_; rintro e y1 ⟨rfl, m1, rfl⟩
  go_wp2_with (fail)
  go_at_call 32; refine Calls.mono (HP.out.pt _) ?_; rintro e y2 ⟨rfl, m2, rfl⟩
  go_wp2_with (fail)
  go_at_call 32; refine Calls.mono (HP.out.pd _) ?_; rintro e y3 ⟨rfl, m3, rfl⟩
  go_wp2_with (fail)
  go_at_call 32; refine Calls.mono (HP.out.pa _) ?_; rintro e y4 ⟨rfl, m4, rfl⟩
  go_wp2_with (fail)
  go_at_call 32; refine Calls.mono (HP.out.pb _) ?_; rintro e y5 ⟨rfl, m5, rfl⟩
  go_wp2_with (fail)
  go_at_call 32; refine Calls.mono (HP.out.p0 _) ?_; rintro e y6 ⟨rfl, m6, rfl⟩
  go_wp2_with (fail)
  go_at_call 32; refine Calls.mono (HP.out.pi _) ?_; rintro e y7 ⟨rfl, m7, rfl⟩
  obtain ⟨y1, hy1⟩ : ∃ y1 : Dc, y1 = { y with c := { y.c with pl := y.c.pl + 1 } } := ⟨_, rfl⟩
  have HY1 := hideIt hy1
  have HO1 := hideIt (show y1.c.ok from by have := HY.out.2.1; rw [hy1]; exact ⟨this.rg, this.gt, this.rd, by show y.c.pl + 1 ≤ _; have := HY.out.2.2.2.2; omega, this.ba, this.an⟩)
  clear hy1
  go_upto_region 14 with (fail)
  refine abs_world (M := fun W9 => Mid W9 w w0 R col im mem l tr false 0 0 false n cv C cap tv w.heap.size y1) ((HM1.out _ (Q.drewN (Q.refl _) _)).box (y' := y1) (j := 0) (by rw [HY1.out]; exact Dc.setPl y (y.c.pl + 1)) HO1.out) ?_
  intro z2 hm2
  have HM2 := hideIt hm2
  clear hm2
  have ea : y1.c.rg = y.c.rg := by rw [HY1.out]
  have ra := HM2.out.cell (Dc.rgAt HO1.out (by rw [ea]; exact HX.out.1))
  have rb := HM2.out.cell (Dc.rgAt HO1.out (by rw [ea]; exact HX.out.2))
  have ia : (a : Int) < 8 := by omega
  have ib : (b : Int) < 8 := by omega
  have id' : (d : Int) < 8 := by omega
  clear c5 hwc r0 b0 g0 z1 zk z3 p1 p2 hpi p3 p4 p5 p6 HM1 HP HL HS ea
  have CT := hideIt (show ∀ X, Q z2 X → Calls Try.prog 31 #[.pointer (some ⟨R, 0, none⟩), .int .i64 (q)] X fun e w' => e = .returned (.tuple #[]) ∧ DX w' w0 R col im mem l tr false 0 (q) false n cv (.slice (some ⟨C, 0, none⟩) l.length cap) tv ∧ Ex col w col w' from fun X qX => (trap_any (HM2.out.keep qX).dx (q) (by rw [← hz]; exact (Burin.un2_bd _ _ _).1) (by have := (Burin.un2_bd 1 tt xa).2; rw [hz] at this; omega)).mono (fun e w' => fun ⟨h1, h2, h3⟩ => ⟨h1, h2, (HM2.out.keep qX).ex.trans h3⟩))
  have CW := hideIt (fun X => Nu.run_any 1 tt xa X HI.out.2.2.1)
  rw [hz] at CW
  have hqz : (q == 0) = false := by simpa using hq0
  go_wp2_with (fail)
  go_at_call 33; refine Calls.mono (CW.out _) ?_
  rintro e y9 ⟨rfl, q9⟩
  have HQ9 := hideIt (show Q z2 y9 from q9)
  clear q9
  go_wp2_with (first |  (go_at_call 31; refine Calls.mono (CT.out _ (by first | exact Q.refl _ | exact HQ9.out | exact Q.drewN (Q.refl _) _ | exact Q.drewN HQ9.out _ | assumption)) ?_; rintro e y8 ⟨rfl, t8⟩; have HT8 := hideIt t8; clear t8) | fail)
  refine bodyPost_ret (v := .tuple #[]) (results_none rfl _ _ _) rfl ?_
  exact ⟨rfl, _, HT8.out⟩
set_option maxRecDepth 100000 in
set_option maxHeartbeats 4000000 in
theorem st_23 (h : DX w w0 R col im mem l tr false 0 0 false n cv kv tv) (hal : allok l) (hok : im.ok w0) (hlw : im.ws.length ≤ 240000) (hk : k + 1 = l.length) (hkm : k < 2000) (hy : l[k]? = some y) (hv : im.ws[y.c.pl]? = some v) (P : Pts v 23 tt d a b i) (ht0 : 0 ≤ tt) (ht5 : tt ≤ 5) (hd8 : d < 8) (ha8 : a < 8) (hb8 : b < 8) (hi0 : 0 ≤ i) (hi1 : i ≤ 4294967295) (hxa : y.c.rg[a]? = some xa) (hxb : y.c.rg[b]? = some xb) (hz : Burin.un2 2 tt xa = 0) :
    Calls Try.prog 19 #[.pointer (some ⟨R, 0, none⟩)] w fun e w' => e = .returned (.tuple #[]) ∧ ∃ kv', DX w' w0 R col im mem (l.set k { y with c := { y.c with pl := y.c.pl + 1, rg := y.c.rg.set d (Burin.un1 2 tt xa) } }) tr false 0 0 false n cv kv' tv ∧ Ex col w col w' := by
  obtain ⟨C, cap, rfl, HL0, HS0, HM0⟩ := h.copy hal hy
  have c5 : w.cell? ⟨R, 5, none⟩ = some (.slice (some ⟨C, 0, none⟩) (k + 1) cap) := by rw [hk]; exact h.c0.2.2.2.2.2.1
  have HL := hideIt HL0
  have HS := hideIt HS0
  have hyo := hal y (List.mem_of_getElem? hy)
  have hpl := (List.getElem?_eq_some_iff.1 hv).1
  obtain ⟨wb, wo, ewa, hwc, -⟩ := Wds.at (hok.ws.keep (show Q w0 (w.alloc (.cells y.cs.toArray 61)) from HM0.dx.bel)) hv
  have r0 : (w.alloc (.cells y.cs.toArray 61)).cell? ⟨R, 0, none⟩ = some (.slice (some ⟨wb, wo, none⟩) im.ws.length im.wc) := by rw [← ewa]; exact HM0.dx.c0.1
  have b0 : (w.alloc (.cells y.cs.toArray 61)).cell? ⟨w.heap.size, 0, none⟩ = some (.int .i64 (y.c.pl : Int)) := HM0.cell (j := 0) rfl
  have g0 := HM0.fz 0
  have HY := hideIt (And.intro hy (And.intro hyo (And.intro hk (And.intro hal (And.intro hpl hlw)))))
  have HOK := hideIt hok
  have z1 : IntKind.i64.wrap ((k : Int) + 1 - 1) = (k : Int) := by rw [IntKind.wrap_i64]; omega
  have zk : IntKind.i64.wrap (k : Int) = (k : Int) := by rw [IntKind.wrap_i64]; omega
  have z3 : IntKind.i64.wrap ((y.c.pl : Int) + 1) = (y.c.pl : Int) + 1 := by rw [IntKind.wrap_i64]; omega
  have p1 : decide ((y.c.pl : Int) < 0) = false := by simp
  have p2 : decide ((im.ws.length : Int) ≤ (y.c.pl : Int)) = false := by simp; omega
  have hpi : (y.c.pl : Int) < (im.ws.length : Int) := by omega
  have HI := hideIt (And.intro hi0 (And.intro hi1 (And.intro ht0 ht5)))
  have p3 : decide (5 < tt) = false := by simp; omega
  have p4 : decide (7 < (d : Int)) = false := by simp; omega
  have p5 : decide (7 < (a : Int)) = false := by simp; omega
  have p6 : decide (7 < (b : Int)) = false := by simp; omega
  have HX := hideIt (And.intro hxa hxb)
  have HM1 : Hid (∀ X, Q (w.alloc (.cells y.cs.toArray 61)) X → Mid X w w0 R col im mem l tr false 0 0 false n cv C cap tv w.heap.size y) := fun X q => HM0.keep q
  have HP := hideIt P
  clear h hal hok hlw hk hkm hy hv P HL0 HS0 HM0 hyo hpl ewa hxa hxb hi0 hi1 ht0 ht5
  go_enter Try.func19, Try.ntmps19
  go_wp2_with (first | (refine wpList_load_run (by rfl) 61 _ (by rfl) _ (by rfl) _ HL.out ?_) | (refine wpList_store_run (by rfl) 61 _ _ (by rfl) _ _ (by rfl) (by rfl) _ HS.out ?_) | fail)
  generalize w.alloc (.cells y.cs.toArray 61) = z at *
  go_quiet (fail)
  go_wp2_with (fail)
  go_quiet (fail)
  go_wp2_with (fail)
  go_at_call 32; refine Calls.mono (HP.out.po _) ?_; rintro e y1 ⟨rfl, m1, rfl⟩
  go_wp2_with (fail)
  go_at_call 32; refine Calls.mono (HP.out.pt _) ?_; rintro e y2 ⟨rfl, m2, rfl⟩
  go_wp2_with (fail)
  go_at_call 32; refine Calls.mono (HP.out.pd _) ?_; rintro e y3 ⟨rfl, m3, rfl⟩
  go_wp2_with (fail)
  go_at_call 32; refine Calls.mono (HP.out.pa _) ?_; rintro e y4 ⟨rfl, m4, rfl⟩
  go_wp2_with (fail)
  go_at_call 32; refine Calls.mono (HP.out.pb _) ?_; rintro e y5 ⟨rfl, m5, rfl⟩
  go_wp2_with (fail)
  go_at_call 32; refine Calls.mono (HP.out.p0 _) ?_; rintro e y6 ⟨rfl, m6, rfl⟩
  go_wp2_with (fail)
  go_at_call 32; refine Calls.mono (HP.out.pi _) ?_; rintro e y7 ⟨rfl, m7, rfl⟩
  obtain ⟨y1, hy1⟩ : ∃ y1 : Dc, y1 = { y with c := { y.c with pl := y.c.pl + 1 } } := ⟨_, rfl⟩
  have HY1 := hideIt hy1
  have HO1 := hideIt (show y1.c.ok from by have := HY.out.2.1; rw [hy1]; exact ⟨this.rg, this.gt, this.rd, by show y.c.pl + 1 ≤ _; have := HY.out.2.2.2.2; omega, this.ba, this.an⟩)
  clear hy1
  go_upto_region 14 with (fail)
  refine abs_world (M := fun W9 => Mid W9 w w0 R col im mem l tr false 0 0 false n cv C cap tv w.heap.size y1) ((HM1.out _ (Q.drewN (Q.refl _) _)).box (y' := y1) (j := 0) (by rw [HY1.out]; exact Dc.setPl y (y.c.pl + 1)) HO1.out) ?_
  intro z2 hm2
  have HM2 := hideIt hm2
  clear hm2
  have ea : y1.c.rg = y.c.rg := by rw [HY1.out]
  have ra := HM2.out.cell (Dc.rgAt HO1.out (by rw [ea]; exact HX.out.1))
  have rb := HM2.out.cell (Dc.rgAt HO1.out (by rw [ea]; exact HX.out.2))
  have ia : (a : Int) < 8 := by omega
  have ib : (b : Int) < 8 := by omega
  have id' : (d : Int) < 8 := by omega
  clear c5 hwc r0 b0 g0 z1 zk z3 p1 p2 hpi p3 p4 p5 p6 HM1 HP HL HS ea
  have GD := hideIt (show ∀ X, Q z2 X → X.frozen? ⟨w.heap.size, 4 + d, none⟩ = false ∧ ∃ u, X.cell? ⟨w.heap.size, 4 + d, none⟩ = some u from fun X q => ⟨(HM2.out.keep q).fz _, by
    obtain ⟨xd, hxd⟩ := get_of_lt (l := y1.c.rg) (k := d) (by rw [HO1.out.rg]; exact hd8)
    exact ⟨_, (HM2.out.keep q).cell (Dc.rgAt HO1.out hxd)⟩⟩)
  have CW := hideIt (fun X => Nu.run_any 2 tt xa X HI.out.2.2.1)
  rw [hz] at CW
  obtain ⟨y2, hy2⟩ : ∃ y2 : Dc, y2 = { y1 with c := { y1.c with rg := y1.c.rg.set d (Burin.un1 2 tt xa) } } := ⟨_, rfl⟩
  have HY2 := hideIt hy2
  have HO2 := hideIt (show y2.c.ok from by have := HO1.out; rw [hy2]; exact ⟨by rw [List.length_set]; exact this.rg, this.gt, this.rd, this.pl, this.ba, this.an⟩)
  have HM3 : Hid (∀ X, Q z2 X → Mid (X.setCell ⟨w.heap.size, 4 + d, none⟩ (.int .i64 (Burin.un1 2 tt xa))) w w0 R col im mem l tr false 0 0 false n cv C cap tv w.heap.size y2) := fun X q => (HM2.out.keep q).box (y' := y2) (j := 4 + d) (u := .int .i64 (Burin.un1 2 tt xa)) (by rw [hy2]; exact Dc.setRg HO1.out hd8 _) HO2.out
  clear hy2 hz
  go_wp2_with (fail)
  go_at_call 33; refine Calls.mono (CW.out _) ?_
  rintro e y9 ⟨rfl, q9⟩
  have HQ9 := hideIt (show Q z2 y9 from q9)
  clear q9
  obtain ⟨gd, u0, rd0⟩ := GD.out y9 HQ9.out
  go_wp2_with (fail)
  refine abs_world (M := fun W9 => Mid W9 w w0 R col im mem l tr false 0 0 false n cv C cap tv w.heap.size y2) (HM3.out _ (by first | exact Q.refl _ | exact HQ9.out | exact Q.drewN (Q.refl _) _ | exact Q.drewN HQ9.out _ | assumption)) ?_
  intro z4 hm4
  obtain ⟨BS, Z, st, sz, mz⟩ := hm4.back (k := k) HY.out.2.2.1
  have BK := hideIt (And.intro BS True.intro)
  have ST := hideIt st
  have SZ := hideIt sz
  have MZ := hideIt mz
  clear BS st sz mz hm4
  have hkl : (k : Int) < (k : Int) + 1 := by omega
  refine wp_region_held_drew (S := BackS R C cap w.heap.size k y2) (by kernel_rfl) BK.out.1 (fun hHeld => ?_)
  refine wpAnyH_take (i := 0) (oi := ⟨_, _, _, _, _, _⟩) (v := ?_) rfl (by kernel_rfl) (by kernel_rfl) (by kernel_rfl) (fun _ _ _ h => h) (Or.inl ⟨by rfl, ?_⟩) (by assumption) ?_
  rotate_left 1
  · intro w hSw; obtain ⟨hSw, -⟩ := hSw; (try dsimp only at hSw); go_simp; all_goals with_reducible rfl
  try simp only [Act.put, List.setIfInBounds_toArray, List.set_cons_zero, List.set_cons_succ]
  refine wpAnyH_take (i := 1) (oi := ⟨_, _, _, _, _, _⟩) (v := ?_) rfl (by kernel_rfl) (by kernel_rfl) (by kernel_rfl) (fun _ _ _ h => h) (Or.inl ⟨by rfl, ?_⟩) (by assumption) ?_
  rotate_left 1
  · intro w hSw; obtain ⟨hSw, -⟩ := hSw; (try dsimp only at hSw); go_simp; all_goals with_reducible rfl
  try simp only [Act.put, List.setIfInBounds_toArray, List.set_cons_zero, List.set_cons_succ]
  refine wpAnyH_take (i := 2) (oi := ⟨_, _, _, _, _, _⟩) (v := ?_) rfl (by kernel_rfl) (by kernel_rfl) (by kernel_rfl) (fun _ _ _ h => h) (Or.inl ⟨by rfl, ?_⟩) (by assumption) ?_
  rotate_left 1
  · intro w hSw; obtain ⟨hSw, -⟩ := hSw; (try dsimp only at hSw); go_simp; all_goals with_reducible rfl
  try simp only [Act.put, List.setIfInBounds_toArray, List.set_cons_zero, List.set_cons_succ]
  refine wpAnyH_take (i := 3) (oi := ⟨_, _, _, _, _, _⟩) (v := ?_) rfl (by kernel_rfl) (by kernel_rfl) (by kernel_rfl) (fun _ _ _ h => h) (Or.inl ⟨by rfl, ?_⟩) (by assumption) ?_
  rotate_left 1
  · intro w hSw; obtain ⟨hSw, -⟩ := hSw; (try dsimp only at hSw); go_simp; all_goals with_reducible rfl
  try simp only [Act.put, List.setIfInBounds_toArray, List.set_cons_zero, List.set_cons_succ]
  refine wpAnyH_take (i := 4) (oi := ⟨_, _, _, _, _, _⟩) (v := ?_) rfl (by kernel_rfl) (by kernel_rfl) (by kernel_rfl) (fun _ _ _ h => h) (Or.inl ⟨by rfl, ?_⟩) (by assumption) ?_
  rotate_left 1
  · intro w hSw; obtain ⟨hSw, -⟩ := hSw; (try dsimp only at hSw); go_simp; all_goals with_reducible rfl
  try simp only [Act.put, List.setIfInBounds_toArray, List.set_cons_zero, List.set_cons_succ]
  refine wpAnyH_take (i := 5) (oi := ⟨_, _, _, _, _, _⟩) (v := .agg y2.cs.toArray) rfl (by kernel_rfl) (by kernel_rfl) (by kernel_rfl) (fun _ _ _ h => h) (Or.inl ⟨by rfl, ?_⟩) (by assumption) ?_
  · intro w9 hSw; exact exec_load 61 _ (by rfl) (.pointer (some ⟨w.heap.size, 0, none⟩)) (by rfl) _ hSw.2
  try simp only [Act.put, List.setIfInBounds_toArray, List.set_cons_zero, List.set_cons_succ]
  refine wpAnyH_take (i := 6) (oi := ⟨_, _, _, _, _, _⟩) (v := ?_) rfl (by kernel_rfl) (by kernel_rfl) (by kernel_rfl) (fun _ _ _ h => h) (Or.inl ⟨by rfl, ?_⟩) (by assumption) ?_
  rotate_left 1
  · intro w hSw; obtain ⟨hSw, -⟩ := hSw; (try dsimp only at hSw); go_simp; all_goals with_reducible rfl
  try simp only [Act.put, List.setIfInBounds_toArray, List.set_cons_zero, List.set_cons_succ]
  refine wpAnyH_ready (rs := [7]) (by kernel_rfl) (by simp) (AllReadyH.cons (o := ⟨_, _, _, _, _, _⟩) rfl (fun K hK => ?_) AllReadyH.nil)
  refine step_store_run (by rfl) 61 _ _ (by rfl) (.pointer (some ⟨C, k * 24, none⟩)) (.agg y2.cs.toArray) (by rfl) (by rfl) _ ST.out ?_
  refine hK.out _ _ ?_ (fun hHeld => ?_)
  · exact SZ.out
  clear hK K
  try simp only [Act.put]
  refine wpAnyH_done (by kernel_rfl) ?_ _
  go_wp2_with (fail)
  first | go_end0 | refine bodyPost_ret (v := .tuple #[]) (results_none rfl _ _ _) rfl ?_
  have FX := MZ.out.dx
  have e2 : y2 = { y with c := { y.c with pl := y.c.pl + 1, rg := y.c.rg.set d (Burin.un1 2 tt xa) } } := by rw [HY2.out, HY1.out]
  rw [e2] at FX
  exact ⟨rfl, _, FX, MZ.out.ex⟩
set_option maxRecDepth 100000 in
set_option maxHeartbeats 4000000 in
theorem tp_23 (h : DX w w0 R col im mem l tr false 0 0 false n cv kv tv) (hal : allok l) (hok : im.ok w0) (hlw : im.ws.length ≤ 240000) (hk : k + 1 = l.length) (hkm : k < 2000) (hy : l[k]? = some y) (hv : im.ws[y.c.pl]? = some v) (P : Pts v 23 tt d a b i) (ht0 : 0 ≤ tt) (ht5 : tt ≤ 5) (hd8 : d < 8) (ha8 : a < 8) (hb8 : b < 8) (hi0 : 0 ≤ i) (hi1 : i ≤ 4294967295) (hxa : y.c.rg[a]? = some xa) (hxb : y.c.rg[b]? = some xb) (q : Int) (hz : Burin.un2 2 tt xa = q) (hq0 : q ≠ 0) :
    Calls Try.prog 19 #[.pointer (some ⟨R, 0, none⟩)] w fun e w' => e = .returned (.tuple #[]) ∧ ∃ kv', DX w' w0 R col im mem l tr false 0 (q) false n cv kv' tv ∧ Ex col w col w' := by
  obtain ⟨C, cap, rfl, HL0, HS0, HM0⟩ := h.copy hal hy
  have c5 : w.cell? ⟨R, 5, none⟩ = some (.slice (some ⟨C, 0, none⟩) (k + 1) cap) := by rw [hk]; exact h.c0.2.2.2.2.2.1
  have HL := hideIt HL0
  have HS := hideIt HS0
  have hyo := hal y (List.mem_of_getElem? hy)
  have hpl := (List.getElem?_eq_some_iff.1 hv).1
  obtain ⟨wb, wo, ewa, hwc, -⟩ := Wds.at (hok.ws.keep (show Q w0 (w.alloc (.cells y.cs.toArray 61)) from HM0.dx.bel)) hv
  have r0 : (w.alloc (.cells y.cs.toArray 61)).cell? ⟨R, 0, none⟩ = some (.slice (some ⟨wb, wo, none⟩) im.ws.length im.wc) := by rw [← ewa]; exact HM0.dx.c0.1
  have b0 : (w.alloc (.cells y.cs.toArray 61)).cell? ⟨w.heap.size, 0, none⟩ = some (.int .i64 (y.c.pl : Int)) := HM0.cell (j := 0) rfl
  have g0 := HM0.fz 0
  have HY := hideIt (And.intro hy (And.intro hyo (And.intro hk (And.intro hal (And.intro hpl hlw)))))
  have HOK := hideIt hok
  have z1 : IntKind.i64.wrap ((k : Int) + 1 - 1) = (k : Int) := by rw [IntKind.wrap_i64]; omega
  have zk : IntKind.i64.wrap (k : Int) = (k : Int) := by rw [IntKind.wrap_i64]; omega
  have z3 : IntKind.i64.wrap ((y.c.pl : Int) + 1) = (y.c.pl : Int) + 1 := by rw [IntKind.wrap_i64]; omega
  have p1 : decide ((y.c.pl : Int) < 0) = false := by simp
  have p2 : decide ((im.ws.length : Int) ≤ (y.c.pl : Int)) = false := by simp; omega
  have hpi : (y.c.pl : Int) < (im.ws.length : Int) := by omega
  have HI := hideIt (And.intro hi0 (And.intro hi1 (And.intro ht0 ht5)))
  have p3 : decide (5 < tt) = false := by simp; omega
  have p4 : decide (7 < (d : Int)) = false := by simp; omega
  have p5 : decide (7 < (a : Int)) = false := by simp; omega
  have p6 : decide (7 < (b : Int)) = false := by simp; omega
  have HX := hideIt (And.intro hxa hxb)
  have HM1 : Hid (∀ X, Q (w.alloc (.cells y.cs.toArray 61)) X → Mid X w w0 R col im mem l tr false 0 0 false n cv C cap tv w.heap.size y) := fun X q => HM0.keep q
  have HP := hideIt P
  clear h hal hok hlw hk hkm hy hv P HL0 HS0 HM0 hyo hpl ewa hxa hxb hi0 hi1 ht0 ht5
  go_enter Try.func19, Try.ntmps19
  go_wp2_with (first | (refine wpList_load_run (by rfl) 61 _ (by rfl) _ (by rfl) _ HL.out ?_) | (refine wpList_store_run (by rfl) 61 _ _ (by rfl) _ _ (by rfl) (by rfl) _ HS.out ?_) | fail)
  generalize w.alloc (.cells y.cs.toArray 61) = z at *
  go_quiet (fail)
  go_wp2_with (fail)
  go_quiet (fail)
  go_wp2_with (fail)
  go_at_call 32; refine Calls.mono (HP.out.po _) ?_; rintro e y1 ⟨rfl, m1, rfl⟩
  go_wp2_with (fail)
  go_at_call 32; refine Calls.mono (HP.out.pt _) ?_; rintro e y2 ⟨rfl, m2, rfl⟩
  go_wp2_with (fail)
  go_at_call 32; refine Calls.mono (HP.out.pd _) ?_; rintro e y3 ⟨rfl, m3, rfl⟩
  go_wp2_with (fail)
  go_at_call 32; refine Calls.mono (HP.out.pa _) ?_; rintro e y4 ⟨rfl, m4, rfl⟩
  go_wp2_with (fail)
  go_at_call 32; refine Calls.mono (HP.out.pb _) ?_; rintro e y5 ⟨rfl, m5, rfl⟩
  go_wp2_with (fail)
  go_at_call 32; refine Calls.mono (HP.out.p0 _) ?_; rintro e y6 ⟨rfl, m6, rfl⟩
  go_wp2_with (fail)
  go_at_call 32; refine Calls.mono (HP.out.pi _) ?_; rintro e y7 ⟨rfl, m7, rfl⟩
  obtain ⟨y1, hy1⟩ : ∃ y1 : Dc, y1 = { y with c := { y.c with pl := y.c.pl + 1 } } := ⟨_, rfl⟩
  have HY1 := hideIt hy1
  have HO1 := hideIt (show y1.c.ok from by have := HY.out.2.1; rw [hy1]; exact ⟨this.rg, this.gt, this.rd, by show y.c.pl + 1 ≤ _; have := HY.out.2.2.2.2; omega, this.ba, this.an⟩)
  clear hy1
  go_upto_region 14 with (fail)
  refine abs_world (M := fun W9 => Mid W9 w w0 R col im mem l tr false 0 0 false n cv C cap tv w.heap.size y1) ((HM1.out _ (Q.drewN (Q.refl _) _)).box (y' := y1) (j := 0) (by rw [HY1.out]; exact Dc.setPl y (y.c.pl + 1)) HO1.out) ?_
  intro z2 hm2
  have HM2 := hideIt hm2
  clear hm2
  have ea : y1.c.rg = y.c.rg := by rw [HY1.out]
  have ra := HM2.out.cell (Dc.rgAt HO1.out (by rw [ea]; exact HX.out.1))
  have rb := HM2.out.cell (Dc.rgAt HO1.out (by rw [ea]; exact HX.out.2))
  have ia : (a : Int) < 8 := by omega
  have ib : (b : Int) < 8 := by omega
  have id' : (d : Int) < 8 := by omega
  clear c5 hwc r0 b0 g0 z1 zk z3 p1 p2 hpi p3 p4 p5 p6 HM1 HP HL HS ea
  have CT := hideIt (show ∀ X, Q z2 X → Calls Try.prog 31 #[.pointer (some ⟨R, 0, none⟩), .int .i64 (q)] X fun e w' => e = .returned (.tuple #[]) ∧ DX w' w0 R col im mem l tr false 0 (q) false n cv (.slice (some ⟨C, 0, none⟩) l.length cap) tv ∧ Ex col w col w' from fun X qX => (trap_any (HM2.out.keep qX).dx (q) (by rw [← hz]; exact (Burin.un2_bd _ _ _).1) (by have := (Burin.un2_bd 2 tt xa).2; rw [hz] at this; omega)).mono (fun e w' => fun ⟨h1, h2, h3⟩ => ⟨h1, h2, (HM2.out.keep qX).ex.trans h3⟩))
  have CW := hideIt (fun X => Nu.run_any 2 tt xa X HI.out.2.2.1)
  rw [hz] at CW
  have hqz : (q == 0) = false := by simpa using hq0
  go_wp2_with (fail)
  go_at_call 33; refine Calls.mono (CW.out _) ?_
  rintro e y9 ⟨rfl, q9⟩
  have HQ9 := hideIt (show Q z2 y9 from q9)
  clear q9
  go_wp2_with (first |  (go_at_call 31; refine Calls.mono (CT.out _ (by first | exact Q.refl _ | exact HQ9.out | exact Q.drewN (Q.refl _) _ | exact Q.drewN HQ9.out _ | assumption)) ?_; rintro e y8 ⟨rfl, t8⟩; have HT8 := hideIt t8; clear t8) | fail)
  refine bodyPost_ret (v := .tuple #[]) (results_none rfl _ _ _) rfl ?_
  exact ⟨rfl, _, HT8.out⟩
set_option maxRecDepth 100000 in
set_option maxHeartbeats 4000000 in
theorem st_24 (h : DX w w0 R col im mem l tr false 0 0 false n cv kv tv) (hal : allok l) (hok : im.ok w0) (hlw : im.ws.length ≤ 240000) (hk : k + 1 = l.length) (hkm : k < 2000) (hy : l[k]? = some y) (hv : im.ws[y.c.pl]? = some v) (P : Pts v 24 tt d a b i) (ht0 : 0 ≤ tt) (ht5 : tt ≤ 5) (hd8 : d < 8) (ha8 : a < 8) (hb8 : b < 8) (hi0 : 0 ≤ i) (hi1 : i ≤ 4294967295) (hxa : y.c.rg[a]? = some xa) (hxb : y.c.rg[b]? = some xb) (hz : Burin.un2 3 tt xa = 0) :
    Calls Try.prog 19 #[.pointer (some ⟨R, 0, none⟩)] w fun e w' => e = .returned (.tuple #[]) ∧ ∃ kv', DX w' w0 R col im mem (l.set k { y with c := { y.c with pl := y.c.pl + 1, rg := y.c.rg.set d (Burin.un1 3 tt xa) } }) tr false 0 0 false n cv kv' tv ∧ Ex col w col w' := by
  obtain ⟨C, cap, rfl, HL0, HS0, HM0⟩ := h.copy hal hy
  have c5 : w.cell? ⟨R, 5, none⟩ = some (.slice (some ⟨C, 0, none⟩) (k + 1) cap) := by rw [hk]; exact h.c0.2.2.2.2.2.1
  have HL := hideIt HL0
  have HS := hideIt HS0
  have hyo := hal y (List.mem_of_getElem? hy)
  have hpl := (List.getElem?_eq_some_iff.1 hv).1
  obtain ⟨wb, wo, ewa, hwc, -⟩ := Wds.at (hok.ws.keep (show Q w0 (w.alloc (.cells y.cs.toArray 61)) from HM0.dx.bel)) hv
  have r0 : (w.alloc (.cells y.cs.toArray 61)).cell? ⟨R, 0, none⟩ = some (.slice (some ⟨wb, wo, none⟩) im.ws.length im.wc) := by rw [← ewa]; exact HM0.dx.c0.1
  have b0 : (w.alloc (.cells y.cs.toArray 61)).cell? ⟨w.heap.size, 0, none⟩ = some (.int .i64 (y.c.pl : Int)) := HM0.cell (j := 0) rfl
  have g0 := HM0.fz 0
  have HY := hideIt (And.intro hy (And.intro hyo (And.intro hk (And.intro hal (And.intro hpl hlw)))))
  have HOK := hideIt hok
  have z1 : IntKind.i64.wrap ((k : Int) + 1 - 1) = (k : Int) := by rw [IntKind.wrap_i64]; omega
  have zk : IntKind.i64.wrap (k : Int) = (k : Int) := by rw [IntKind.wrap_i64]; omega
  have z3 : IntKind.i64.wrap ((y.c.pl : Int) + 1) = (y.c.pl : Int) + 1 := by rw [IntKind.wrap_i64]; omega
  have p1 : decide ((y.c.pl : Int) < 0) = false := by simp
  have p2 : decide ((im.ws.length : Int) ≤ (y.c.pl : Int)) = false := by simp; omega
  have hpi : (y.c.pl : Int) < (im.ws.length : Int) := by omega
  have HI := hideIt (And.intro hi0 (And.intro hi1 (And.intro ht0 ht5)))
  have p3 : decide (5 < tt) = false := by simp; omega
  have p4 : decide (7 < (d : Int)) = false := by simp; omega
  have p5 : decide (7 < (a : Int)) = false := by simp; omega
  have p6 : decide (7 < (b : Int)) = false := by simp; omega
  have HX := hideIt (And.intro hxa hxb)
  have HM1 : Hid (∀ X, Q (w.alloc (.cells y.cs.toArray 61)) X → Mid X w w0 R col im mem l tr false 0 0 false n cv C cap tv w.heap.size y) := fun X q => HM0.keep q
  have HP := hideIt P
  clear h hal hok hlw hk hkm hy hv P HL0 HS0 HM0 hyo hpl ewa hxa hxb hi0 hi1 ht0 ht5
  go_enter Try.func19, Try.ntmps19
  go_wp2_with (first | (refine wpList_load_run (by rfl) 61 _ (by rfl) _ (by rfl) _ HL.out ?_) | (refine wpList_store_run (by rfl) 61 _ _ (by rfl) _ _ (by rfl) (by rfl) _ HS.out ?_) | fail)
  generalize w.alloc (.cells y.cs.toArray 61) = z at *
  go_quiet (fail)
  go_wp2_with (fail)
  go_quiet (fail)
  go_wp2_with (fail)
  go_at_call 32; refine Calls.mono (HP.out.po _) ?_; rintro e y1 ⟨rfl, m1, rfl⟩
  go_wp2_with (fail)
  go_at_call 32; refine Calls.mono (HP.out.pt _) ?_; rintro e y2 ⟨rfl, m2, rfl⟩
  go_wp2_with (fail)
  go_at_call 32; refine Calls.mono (HP.out.pd _) ?_; rintro e y3 ⟨rfl, m3, rfl⟩
  go_wp2_with (fail)
  go_at_call 32; refine Calls.mono (HP.out.pa _) ?_; rintro e y4 ⟨rfl, m4, rfl⟩
  go_wp2_with (fail)
  go_at_call 32; refine Calls.mono (HP.out.pb _) ?_; rintro e y5 ⟨rfl, m5, rfl⟩
  go_wp2_with (fail)
  go_at_call 32; refine Calls.mono (HP.out.p0 _) ?_; rintro e y6 ⟨rfl, m6, rfl⟩
  go_wp2_with (fail)
  go_at_call 32; refine Calls.mono (HP.out.pi _) ?_; rintro e y7 ⟨rfl, m7, rfl⟩
  obtain ⟨y1, hy1⟩ : ∃ y1 : Dc, y1 = { y with c := { y.c with pl := y.c.pl + 1 } } := ⟨_, rfl⟩
  have HY1 := hideIt hy1
  have HO1 := hideIt (show y1.c.ok from by have := HY.out.2.1; rw [hy1]; exact ⟨this.rg, this.gt, this.rd, by show y.c.pl + 1 ≤ _; have := HY.out.2.2.2.2; omega, this.ba, this.an⟩)
  clear hy1
  go_upto_region 14 with (fail)
  refine abs_world (M := fun W9 => Mid W9 w w0 R col im mem l tr false 0 0 false n cv C cap tv w.heap.size y1) ((HM1.out _ (Q.drewN (Q.refl _) _)).box (y' := y1) (j := 0) (by rw [HY1.out]; exact Dc.setPl y (y.c.pl + 1)) HO1.out) ?_
  intro z2 hm2
  have HM2 := hideIt hm2
  clear hm2
  have ea : y1.c.rg = y.c.rg := by rw [HY1.out]
  have ra := HM2.out.cell (Dc.rgAt HO1.out (by rw [ea]; exact HX.out.1))
  have rb := HM2.out.cell (Dc.rgAt HO1.out (by rw [ea]; exact HX.out.2))
  have ia : (a : Int) < 8 := by omega
  have ib : (b : Int) < 8 := by omega
  have id' : (d : Int) < 8 := by omega
  clear c5 hwc r0 b0 g0 z1 zk z3 p1 p2 hpi p3 p4 p5 p6 HM1 HP HL HS ea
  have GD := hideIt (show ∀ X, Q z2 X → X.frozen? ⟨w.heap.size, 4 + d, none⟩ = false ∧ ∃ u, X.cell? ⟨w.heap.size, 4 + d, none⟩ = some u from fun X q => ⟨(HM2.out.keep q).fz _, by
    obtain ⟨xd, hxd⟩ := get_of_lt (l := y1.c.rg) (k := d) (by rw [HO1.out.rg]; exact hd8)
    exact ⟨_, (HM2.out.keep q).cell (Dc.rgAt HO1.out hxd)⟩⟩)
  have CW := hideIt (fun X => Nu.run_any 3 tt xa X HI.out.2.2.1)
  rw [hz] at CW
  obtain ⟨y2, hy2⟩ : ∃ y2 : Dc, y2 = { y1 with c := { y1.c with rg := y1.c.rg.set d (Burin.un1 3 tt xa) } } := ⟨_, rfl⟩
  have HY2 := hideIt hy2
  have HO2 := hideIt (show y2.c.ok from by have := HO1.out; rw [hy2]; exact ⟨by rw [List.length_set]; exact this.rg, this.gt, this.rd, this.pl, this.ba, this.an⟩)
  have HM3 : Hid (∀ X, Q z2 X → Mid (X.setCell ⟨w.heap.size, 4 + d, none⟩ (.int .i64 (Burin.un1 3 tt xa))) w w0 R col im mem l tr false 0 0 false n cv C cap tv w.heap.size y2) := fun X q => (HM2.out.keep q).box (y' := y2) (j := 4 + d) (u := .int .i64 (Burin.un1 3 tt xa)) (by rw [hy2]; exact Dc.setRg HO1.out hd8 _) HO2.out
  clear hy2 hz
  go_wp2_with (fail)
  go_at_call 33; refine Calls.mono (CW.out _) ?_
  rintro e y9 ⟨rfl, q9⟩
  have HQ9 := hideIt (show Q z2 y9 from q9)
  clear q9
  obtain ⟨gd, u0, rd0⟩ := GD.out y9 HQ9.out
  go_wp2_with (fail)
  refine abs_world (M := fun W9 => Mid W9 w w0 R col im mem l tr false 0 0 false n cv C cap tv w.heap.size y2) (HM3.out _ (by first | exact Q.refl _ | exact HQ9.out | exact Q.drewN (Q.refl _) _ | exact Q.drewN HQ9.out _ | assumption)) ?_
  intro z4 hm4
  obtain ⟨BS, Z, st, sz, mz⟩ := hm4.back (k := k) HY.out.2.2.1
  have BK := hideIt (And.intro BS True.intro)
  have ST := hideIt st
  have SZ := hideIt sz
  have MZ := hideIt mz
  clear BS st sz mz hm4
  have hkl : (k : Int) < (k : Int) + 1 := by omega
  refine wp_region_held_drew (S := BackS R C cap w.heap.size k y2) (by kernel_rfl) BK.out.1 (fun hHeld => ?_)
  refine wpAnyH_take (i := 0) (oi := ⟨_, _, _, _, _, _⟩) (v := ?_) rfl (by kernel_rfl) (by kernel_rfl) (by kernel_rfl) (fun _ _ _ h => h) (Or.inl ⟨by rfl, ?_⟩) (by assumption) ?_
  rotate_left 1
  · intro w hSw; obtain ⟨hSw, -⟩ := hSw; (try dsimp only at hSw); go_simp; all_goals with_reducible rfl
  try simp only [Act.put, List.setIfInBounds_toArray, List.set_cons_zero, List.set_cons_succ]
  refine wpAnyH_take (i := 1) (oi := ⟨_, _, _, _, _, _⟩) (v := ?_) rfl (by kernel_rfl) (by kernel_rfl) (by kernel_rfl) (fun _ _ _ h => h) (Or.inl ⟨by rfl, ?_⟩) (by assumption) ?_
  rotate_left 1
  · intro w hSw; obtain ⟨hSw, -⟩ := hSw; (try dsimp only at hSw); go_simp; all_goals with_reducible rfl
  try simp only [Act.put, List.setIfInBounds_toArray, List.set_cons_zero, List.set_cons_succ]
  refine wpAnyH_take (i := 2) (oi := ⟨_, _, _, _, _, _⟩) (v := ?_) rfl (by kernel_rfl) (by kernel_rfl) (by kernel_rfl) (fun _ _ _ h => h) (Or.inl ⟨by rfl, ?_⟩) (by assumption) ?_
  rotate_left 1
  · intro w hSw; obtain ⟨hSw, -⟩ := hSw; (try dsimp only at hSw); go_simp; all_goals with_reducible rfl
  try simp only [Act.put, List.setIfInBounds_toArray, List.set_cons_zero, List.set_cons_succ]
  refine wpAnyH_take (i := 3) (oi := ⟨_, _, _, _, _, _⟩) (v := ?_) rfl (by kernel_rfl) (by kernel_rfl) (by kernel_rfl) (fun _ _ _ h => h) (Or.inl ⟨by rfl, ?_⟩) (by assumption) ?_
  rotate_left 1
  · intro w hSw; obtain ⟨hSw, -⟩ := hSw; (try dsimp only at hSw); go_simp; all_goals with_reducible rfl
  try simp only [Act.put, List.setIfInBounds_toArray, List.set_cons_zero, List.set_cons_succ]
  refine wpAnyH_take (i := 4) (oi := ⟨_, _, _, _, _, _⟩) (v := ?_) rfl (by kernel_rfl) (by kernel_rfl) (by kernel_rfl) (fun _ _ _ h => h) (Or.inl ⟨by rfl, ?_⟩) (by assumption) ?_
  rotate_left 1
  · intro w hSw; obtain ⟨hSw, -⟩ := hSw; (try dsimp only at hSw); go_simp; all_goals with_reducible rfl
  try simp only [Act.put, List.setIfInBounds_toArray, List.set_cons_zero, List.set_cons_succ]
  refine wpAnyH_take (i := 5) (oi := ⟨_, _, _, _, _, _⟩) (v := .agg y2.cs.toArray) rfl (by kernel_rfl) (by kernel_rfl) (by kernel_rfl) (fun _ _ _ h => h) (Or.inl ⟨by rfl, ?_⟩) (by assumption) ?_
  · intro w9 hSw; exact exec_load 61 _ (by rfl) (.pointer (some ⟨w.heap.size, 0, none⟩)) (by rfl) _ hSw.2
  try simp only [Act.put, List.setIfInBounds_toArray, List.set_cons_zero, List.set_cons_succ]
  refine wpAnyH_take (i := 6) (oi := ⟨_, _, _, _, _, _⟩) (v := ?_) rfl (by kernel_rfl) (by kernel_rfl) (by kernel_rfl) (fun _ _ _ h => h) (Or.inl ⟨by rfl, ?_⟩) (by assumption) ?_
  rotate_left 1
  · intro w hSw; obtain ⟨hSw, -⟩ := hSw; (try dsimp only at hSw); go_simp; all_goals with_reducible rfl
  try simp only [Act.put, List.setIfInBounds_toArray, List.set_cons_zero, List.set_cons_succ]
  refine wpAnyH_ready (rs := [7]) (by kernel_rfl) (by simp) (AllReadyH.cons (o := ⟨_, _, _, _, _, _⟩) rfl (fun K hK => ?_) AllReadyH.nil)
  refine step_store_run (by rfl) 61 _ _ (by rfl) (.pointer (some ⟨C, k * 24, none⟩)) (.agg y2.cs.toArray) (by rfl) (by rfl) _ ST.out ?_
  refine hK.out _ _ ?_ (fun hHeld => ?_)
  · exact SZ.out
  clear hK K
  try simp only [Act.put]
  refine wpAnyH_done (by kernel_rfl) ?_ _
  go_wp2_with (fail)
  first | go_end0 | refine bodyPost_ret (v := .tuple #[]) (results_none rfl _ _ _) rfl ?_
  have FX := MZ.out.dx
  have e2 : y2 = { y with c := { y.c with pl := y.c.pl + 1, rg := y.c.rg.set d (Burin.un1 3 tt xa) } } := by rw [HY2.out, HY1.out]
  rw [e2] at FX
  exact ⟨rfl, _, FX, MZ.out.ex⟩
set_option maxRecDepth 100000 in
set_option maxHeartbeats 4000000 in
theorem tp_24 (h : DX w w0 R col im mem l tr false 0 0 false n cv kv tv) (hal : allok l) (hok : im.ok w0) (hlw : im.ws.length ≤ 240000) (hk : k + 1 = l.length) (hkm : k < 2000) (hy : l[k]? = some y) (hv : im.ws[y.c.pl]? = some v) (P : Pts v 24 tt d a b i) (ht0 : 0 ≤ tt) (ht5 : tt ≤ 5) (hd8 : d < 8) (ha8 : a < 8) (hb8 : b < 8) (hi0 : 0 ≤ i) (hi1 : i ≤ 4294967295) (hxa : y.c.rg[a]? = some xa) (hxb : y.c.rg[b]? = some xb) (q : Int) (hz : Burin.un2 3 tt xa = q) (hq0 : q ≠ 0) :
    Calls Try.prog 19 #[.pointer (some ⟨R, 0, none⟩)] w fun e w' => e = .returned (.tuple #[]) ∧ ∃ kv', DX w' w0 R col im mem l tr false 0 (q) false n cv kv' tv ∧ Ex col w col w' := by
  obtain ⟨C, cap, rfl, HL0, HS0, HM0⟩ := h.copy hal hy
  have c5 : w.cell? ⟨R, 5, none⟩ = some (.slice (some ⟨C, 0, none⟩) (k + 1) cap) := by rw [hk]; exact h.c0.2.2.2.2.2.1
  have HL := hideIt HL0
  have HS := hideIt HS0
  have hyo := hal y (List.mem_of_getElem? hy)
  have hpl := (List.getElem?_eq_some_iff.1 hv).1
  obtain ⟨wb, wo, ewa, hwc, -⟩ := Wds.at (hok.ws.keep (show Q w0 (w.alloc (.cells y.cs.toArray 61)) from HM0.dx.bel)) hv
  have r0 : (w.alloc (.cells y.cs.toArray 61)).cell? ⟨R, 0, none⟩ = some (.slice (some ⟨wb, wo, none⟩) im.ws.length im.wc) := by rw [← ewa]; exact HM0.dx.c0.1
  have b0 : (w.alloc (.cells y.cs.toArray 61)).cell? ⟨w.heap.size, 0, none⟩ = some (.int .i64 (y.c.pl : Int)) := HM0.cell (j := 0) rfl
  have g0 := HM0.fz 0
  have HY := hideIt (And.intro hy (And.intro hyo (And.intro hk (And.intro hal (And.intro hpl hlw)))))
  have HOK := hideIt hok
  have z1 : IntKind.i64.wrap ((k : Int) + 1 - 1) = (k : Int) := by rw [IntKind.wrap_i64]; omega
  have zk : IntKind.i64.wrap (k : Int) = (k : Int) := by rw [IntKind.wrap_i64]; omega
  have z3 : IntKind.i64.wrap ((y.c.pl : Int) + 1) = (y.c.pl : Int) + 1 := by rw [IntKind.wrap_i64]; omega
  have p1 : decide ((y.c.pl : Int) < 0) = false := by simp
  have p2 : decide ((im.ws.length : Int) ≤ (y.c.pl : Int)) = false := by simp; omega
  have hpi : (y.c.pl : Int) < (im.ws.length : Int) := by omega
  have HI := hideIt (And.intro hi0 (And.intro hi1 (And.intro ht0 ht5)))
  have p3 : decide (5 < tt) = false := by simp; omega
  have p4 : decide (7 < (d : Int)) = false := by simp; omega
  have p5 : decide (7 < (a : Int)) = false := by simp; omega
  have p6 : decide (7 < (b : Int)) = false := by simp; omega
  have HX := hideIt (And.intro hxa hxb)
  have HM1 : Hid (∀ X, Q (w.alloc (.cells y.cs.toArray 61)) X → Mid X w w0 R col im mem l tr false 0 0 false n cv C cap tv w.heap.size y) := fun X q => HM0.keep q
  have HP := hideIt P
  clear h hal hok hlw hk hkm hy hv P HL0 HS0 HM0 hyo hpl ewa hxa hxb hi0 hi1 ht0 ht5
  go_enter Try.func19, Try.ntmps19
  go_wp2_with (first | (refine wpList_load_run (by rfl) 61 _ (by rfl) _ (by rfl) _ HL.out ?_) | (refine wpList_store_run (by rfl) 61 _ _ (by rfl) _ _ (by rfl) (by rfl) _ HS.out ?_) | fail)
  generalize w.alloc (.cells y.cs.toArray 61) = z at *
  go_quiet (fail)
  go_wp2_with (fail)
  go_quiet (fail)
  go_wp2_with (fail)
  go_at_call 32; refine Calls.mono (HP.out.po _) ?_; rintro e y1 ⟨rfl, m1, rfl⟩
  go_wp2_with (fail)
  go_at_call 32; refine Calls.mono (HP.out.pt _) ?_; rintro e y2 ⟨rfl, m2, rfl⟩
  go_wp2_with (fail)
  go_at_call 32; refine Calls.mono (HP.out.pd _) ?_; rintro e y3 ⟨rfl, m3, rfl⟩
  go_wp2_with (fail)
  go_at_call 32; refine Calls.mono (HP.out.pa _) ?_; rintro e y4 ⟨rfl, m4, rfl⟩
  go_wp2_with (fail)
  go_at_call 32; refine Calls.mono (HP.out.pb _) ?_; rintro e y5 ⟨rfl, m5, rfl⟩
  go_wp2_with (fail)
  go_at_call 32; refine Calls.mono (HP.out.p0 _) ?_; rintro e y6 ⟨rfl, m6, rfl⟩
  go_wp2_with (fail)
  go_at_call 32; refine Calls.mono (HP.out.pi _) ?_; rintro e y7 ⟨rfl, m7, rfl⟩
  obtain ⟨y1, hy1⟩ : ∃ y1 : Dc, y1 = { y with c := { y.c with pl := y.c.pl + 1 } } := ⟨_, rfl⟩
  have HY1 := hideIt hy1
  have HO1 := hideIt (show y1.c.ok from by have := HY.out.2.1; rw [hy1]; exact ⟨this.rg, this.gt, this.rd, by show y.c.pl + 1 ≤ _; have := HY.out.2.2.2.2; omega, this.ba, this.an⟩)
  clear hy1
  go_upto_region 14 with (fail)
  refine abs_world (M := fun W9 => Mid W9 w w0 R col im mem l tr false 0 0 false n cv C cap tv w.heap.size y1) ((HM1.out _ (Q.drewN (Q.refl _) _)).box (y' := y1) (j := 0) (by rw [HY1.out]; exact Dc.setPl y (y.c.pl + 1)) HO1.out) ?_
  intro z2 hm2
  have HM2 := hideIt hm2
  clear hm2
  have ea : y1.c.rg = y.c.rg := by rw [HY1.out]
  have ra := HM2.out.cell (Dc.rgAt HO1.out (by rw [ea]; exact HX.out.1))
  have rb := HM2.out.cell (Dc.rgAt HO1.out (by rw [ea]; exact HX.out.2))
  have ia : (a : Int) < 8 := by omega
  have ib : (b : Int) < 8 := by omega
  have id' : (d : Int) < 8 := by omega
  clear c5 hwc r0 b0 g0 z1 zk z3 p1 p2 hpi p3 p4 p5 p6 HM1 HP HL HS ea
  have CT := hideIt (show ∀ X, Q z2 X → Calls Try.prog 31 #[.pointer (some ⟨R, 0, none⟩), .int .i64 (q)] X fun e w' => e = .returned (.tuple #[]) ∧ DX w' w0 R col im mem l tr false 0 (q) false n cv (.slice (some ⟨C, 0, none⟩) l.length cap) tv ∧ Ex col w col w' from fun X qX => (trap_any (HM2.out.keep qX).dx (q) (by rw [← hz]; exact (Burin.un2_bd _ _ _).1) (by have := (Burin.un2_bd 3 tt xa).2; rw [hz] at this; omega)).mono (fun e w' => fun ⟨h1, h2, h3⟩ => ⟨h1, h2, (HM2.out.keep qX).ex.trans h3⟩))
  have CW := hideIt (fun X => Nu.run_any 3 tt xa X HI.out.2.2.1)
  rw [hz] at CW
  have hqz : (q == 0) = false := by simpa using hq0
  go_wp2_with (fail)
  go_at_call 33; refine Calls.mono (CW.out _) ?_
  rintro e y9 ⟨rfl, q9⟩
  have HQ9 := hideIt (show Q z2 y9 from q9)
  clear q9
  go_wp2_with (first |  (go_at_call 31; refine Calls.mono (CT.out _ (by first | exact Q.refl _ | exact HQ9.out | exact Q.drewN (Q.refl _) _ | exact Q.drewN HQ9.out _ | assumption)) ?_; rintro e y8 ⟨rfl, t8⟩; have HT8 := hideIt t8; clear t8) | fail)
  refine bodyPost_ret (v := .tuple #[]) (results_none rfl _ _ _) rfl ?_
  exact ⟨rfl, _, HT8.out⟩
end
end Da
end Go.Proofs.Ytnlgkiejppgfjaa
