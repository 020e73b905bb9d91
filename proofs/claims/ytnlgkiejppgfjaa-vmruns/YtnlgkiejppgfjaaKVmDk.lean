/-
  The document's machine (burinref25): a step: loads, what was got, traps of them: contracts over the program; the conditions: the machine lies there, its word is in the program.
-/
import Derived.Test.YtnlgkiejppgfjaaKVmDh
import Derived.Deep.DeepCutAuto
namespace Go.Proofs.Ytnlgkiejppgfjaa
open Go.RowKit Go.Deep
set_option linter.unusedVariables false

namespace Da
section
variable {w w' w0 : World} {R : Nat} {col col' : Col} {im : PIm} {mem : List Int} {l : List Dc} {tr : List Int} {n : Nat} {cv kv tv : Value} {k : Nat} {y : Dc} {v tt : Int} {d a b : Nat} {i xa xb o : Int}
set_option maxRecDepth 100000 in
set_option maxHeartbeats 4000000 in
theorem st_30 (h : DX w w0 R col im mem l tr false 0 0 false n cv kv tv) (hal : allok l) (hok : im.ok w0) (hlw : im.ws.length ≤ 240000) (hk : k + 1 = l.length) (hkm : k < 2000) (hy : l[k]? = some y) (hv : im.ws[y.c.pl]? = some v) (P : Pts v 30 tt d a b i) (ht0 : 0 ≤ tt) (ht5 : tt ≤ 5) (hd8 : d < 8) (ha8 : a < 8) (hb8 : b < 8) (hi0 : 0 ≤ i) (hi1 : i ≤ 4294967295) (hxa : y.c.rg[a]? = some xa) (hxb : y.c.rg[b]? = some xb) (m : Nat) (u : Int) (hxm : xa = (m : Int)) (hu : mem[m]? = some u) :
    Calls Try.prog 19 #[.pointer (some ⟨R, 0, none⟩)] w fun e w' => e = .returned (.tuple #[]) ∧ ∃ kv', DX w' w0 R col im mem (l.set k { y with c := { y.c with pl := y.c.pl + 1, rg := y.c.rg.set d (u) } }) tr false 0 0 false n cv kv' tv ∧ Ex col w col w' := by
  subst hxm
  obtain ⟨C, cap, rfl, HL0, HS0, HM0⟩ := h.copy hal hy
  have c5 : w.cell? ⟨R, 5, none⟩ = some (.slice (some ⟨C, 0, none⟩) (k + 1) cap) := by rw [hk]; exact h.c0.2.2.2.2.2.1
  have HL := hideIt HL0
  have HS := hideIt HS0
  have hyo := hal y (List.mem_of_getElem? hy)
  have hpl := (List.getElem?_eq_some_iff.1 hv).1
  obtain ⟨wb, wo, ewa, hwc, -⟩ := Wds.at (hok.ws.keep (show Q w0 (w.alloc (.cells y.cs.toArray 61)) from HM0.dx.bel)) hv
  have r0 : (w.alloc (.cells y.cs.toArray 61)).cell? ⟨R, 0, none⟩ = some (.slice (some ⟨wb, wo, none⟩) im.ws.length im.wc) := by rw [← ewa]; exact HM0.dx.c0.1
  have b0 : (w.alloc (.cells y.cs.toArray 61)).cell? ⟨w.heap.size, 0, none⟩ = some (.int .i64 (y.c.pl : Int)) := HM0.cell (j := 0) rfl
  have g0 := HM0.fz 0
  have HY := hideIt (And.intro hy (And.intro hyo (And.intro hk (And.intro hal (And.intro hpl hlw)))))
  have HOK := hideIt hok
  have z1 : IntKind.i64.wrap ((k : Int) + 1 - 1) = (k : Int) := by rw [IntKind.wrap_i64]; omega
  have zk : IntKind.i64.wrap (k : Int) = (k : Int) := by rw [IntKind.wrap_i64]; omega
  have z3 : IntKind.i64.wrap ((y.c.pl : Int) + 1) = (y.c.pl : Int) + 1 := by rw [IntKind.wrap_i64]; omega
  have p1 : decide ((y.c.pl : Int) < 0) = false := by simp
  have p2 : decide ((im.ws.length : Int) ≤ (y.c.pl : Int)) = false := by simp; omega
  have hpi : (y.c.pl : Int) < (im.ws.length : Int) := by omega
  have HI := hideIt (And.intro hi0 (And.intro hi1 (And.intro ht0 ht5)))
  have p3 : decide (5 < tt) = false := by simp; omega
  have p4 : decide (7 < (d : Int)) = false := by simp; omega
  have p5 : decide (7 < (a : Int)) = false := by simp; omega
  have p6 : decide (7 < (b : Int)) = false := by simp; omega
  have HX := hideIt (And.intro hxa hxb)
  have HM1 : Hid (∀ X, Q (w.alloc (.cells y.cs.toArray 61)) X → Mid X w w0 R col im mem l tr false 0 0 false n cv C cap tv w.heap.size y) := fun X q => HM0.keep q
  have HP := hideIt P
  clear h hal hok hlw hk hkm hy hv P HL0 HS0 HM0 hyo hpl ewa hxa hxb hi0 hi1 ht0 ht5
  go_enter Try.func19, Try.ntmps19
  go_wp2_with (first | (refine wpList_load_run (by rfl) 61 _ (by rfl) _ (by rfl) _ HL.out ?_) | (refine wpList_store_run (by rfl) 61 _ _ (by rfl) _ _ (by rfl) (by rfl) _ HS.out ?_) | fail)
  generalize w.alloc (.cells y.cs.toArray 61) = z at *
  go_quiet (fail)
  go_wp2_with (fail)
  go_quiet (fail)
  go_wp2_with (fail)
  go_at_call 32; refine Calls.mono (HP.out.po _) ?_; rintro e y1 ⟨rfl, m1, rfl⟩
  go_wp2_with (fail)
  go_at_call 32; refine Calls.mono (HP.out.pt _) ?_; rintro e y2 ⟨rfl, m2, rfl⟩
  go_wp2_with (fail)
  go_at_call 32; refine Calls.mono (HP.out.pd _) ?_; rintro e y3 ⟨rfl, m3, rfl⟩
  go_wp2_with (fail)
  go_at_call 32; refine Calls.mono (HP.out.pa _) ?_; rintro e y4 ⟨rfl, m4, rfl⟩
  go_wp2_with (fail)
  go_at_call 32; refine Calls.mono (HP.out.pb _) ?_; rintro e y5 ⟨rfl, m5, rfl⟩
  go_wp2_with (fail)
  go_at_call 32; refine Calls.mono (HP.out.p0 _) ?_; rintro e y6 ⟨rfl, m6, rfl⟩
  go_wp2_with (fail)
  go_at_call 32; refine Calls.mono (HP.out.pi _) ?_; rintro e y7 ⟨rfl, m7, rfl⟩
  obtain ⟨y1, hy1⟩ : ∃ y1 : Dc, y1 = { y with c := { y.c with pl := y.c.pl + 1 } } := ⟨_, rfl⟩
  have HY1 := hideIt hy1
  have HO1 := hideIt (show y1.c.ok from by have := HY.out.2.1; rw [hy1]; exact ⟨this.rg, this.gt, this.rd, by show y.c.pl + 1 ≤ _; have := HY.out.2.2.2.2; omega, this.ba, this.an⟩)
  clear hy1
  go_upto_region 14 with (fail)
  refine abs_world (M := fun W9 => Mid W9 w w0 R col im mem l tr false 0 0 false n cv C cap tv w.heap.size y1) ((HM1.out _ (Q.drewN (Q.refl _) _)).box (y' := y1) (j := 0) (by rw [HY1.out]; exact Dc.setPl y (y.c.pl + 1)) HO1.out) ?_
  intro z2 hm2
  have HM2 := hideIt hm2
  clear hm2
  have ea : y1.c.rg = y.c.rg := by rw [HY1.out]
  have ra := HM2.out.cell (Dc.rgAt HO1.out (by rw [ea]; exact HX.out.1))
  have rb := HM2.out.cell (Dc.rgAt HO1.out (by rw [ea]; exact HX.out.2))
  have ia : (a : Int) < 8 := by omega
  have ib : (b : Int) < 8 := by omega
  have id' : (d : Int) < 8 := by omega
  clear c5 hwc r0 b0 g0 z1 zk z3 p1 p2 hpi p3 p4 p5 p6 HM1 HP HL HS ea
  have GD := hideIt (show ∀ X, Q z2 X → X.frozen? ⟨w.heap.size, 4 + d, none⟩ = false ∧ ∃ u, X.cell? ⟨w.heap.size, 4 + d, none⟩ = some u from fun X q => ⟨(HM2.out.keep q).fz _, by
    obtain ⟨xd, hxd⟩ := get_of_lt (l := y1.c.rg) (k := d) (by rw [HO1.out.rg]; exact hd8)
    exact ⟨_, (HM2.out.keep q).cell (Dc.rgAt HO1.out hxd)⟩⟩)
  obtain ⟨g, cm, cur, ecv, hg, hcu, hmc, hmx⟩ := row_at HM2.out.dx.mo hu
  have rm4 : z2.cell? ⟨R, 4, none⟩ = some (.slice (some ⟨g, 0, none⟩) mem.length cm) := by rw [← ecv]; exact HM2.out.dx.c0.2.2.2.2.1
  clear ecv
  have rmc : z2.cell? ⟨g, m, none⟩ = some (.int .i64 u) := (cell_of_block hg m).trans hcu
  have rmf : z2.frozen? ⟨g, m, none⟩ = false := free_of_block hg m
  unfold maxLen at hmx
  have hml : (m : Int) < (mem.length : Int) := by have := (List.getElem?_eq_some_iff.1 hu).1; omega
  have q2 : decide ((mem.length : Int) ≤ (m : Int)) = false := by simp; omega
  have q1 : decide ((m : Int) < 0) = false := by simp
  have zm : IntKind.i64.wrap (m : Int) = (m : Int) := by rw [IntKind.wrap_i64]; omega
  obtain ⟨y2, hy2⟩ : ∃ y2 : Dc, y2 = { y1 with c := { y1.c with rg := y1.c.rg.set d (u) } } := ⟨_, rfl⟩
  have HY2 := hideIt hy2
  have HO2 := hideIt (show y2.c.ok from by have := HO1.out; rw [hy2]; exact ⟨by rw [List.length_set]; exact this.rg, this.gt, this.rd, this.pl, this.ba, this.an⟩)
  have HM3 : Hid (∀ X, Q z2 X → Mid (X.setCell ⟨w.heap.size, 4 + d, none⟩ (.int .i64 (u))) w w0 R col im mem l tr false 0 0 false n cv C cap tv w.heap.size y2) := fun X q => (HM2.out.keep q).box (y' := y2) (j := 4 + d) (u := .int .i64 (u)) (by rw [hy2]; exact Dc.setRg HO1.out hd8 _) HO2.out
  clear hy2 hu hg hcu hmc hmx
  obtain ⟨gd, u0, rd0⟩ := GD.out z2 (Q.refl z2)
  go_wp2_with (fail)
  refine abs_world (M := fun W9 => Mid W9 w w0 R col im mem l tr false 0 0 false n cv C cap tv w.heap.size y2) (HM3.out _ (by first | exact Q.refl _ | exact HQ9.out | exact Q.drewN (Q.refl _) _ | exact Q.drewN HQ9.out _ | assumption)) ?_
  intro z4 hm4
  obtain ⟨BS, Z, st, sz, mz⟩ := hm4.back (k := k) HY.out.2.2.1
  have BK := hideIt (And.intro BS True.intro)
  have ST := hideIt st
  have SZ := hideIt sz
  have MZ := hideIt mz
  clear BS st sz mz hm4
  have hkl : (k : Int) < (k : Int) + 1 := by omega
  refine wp_region_held_drew (S := BackS R C cap w.heap.size k y2) (by kernel_rfl) BK.out.1 (fun hHeld => ?_)
  refine wpAnyH_take (i := 0) (oi := ⟨_, _, _, _, _, _⟩) (v := ?_) rfl (by kernel_rfl) (by kernel_rfl) (by kernel_rfl) (fun _ _ _ h => h) (Or.inl ⟨by rfl, ?_⟩) (by assumption) ?_
  rotate_left 1
  · intro w hSw; obtain ⟨hSw, -⟩ := hSw; (try dsimp only at hSw); go_simp; all_goals with_reducible rfl
  try simp only [Act.put, List.setIfInBounds_toArray, List.set_cons_zero, List.set_cons_succ]
  refine wpAnyH_take (i := 1) (oi := ⟨_, _, _, _, _, _⟩) (v := ?_) rfl (by kernel_rfl) (by kernel_rfl) (by kernel_rfl) (fun _ _ _ h => h) (Or.inl ⟨by rfl, ?_⟩) (by assumption) ?_
  rotate_left 1
  · intro w hSw; obtain ⟨hSw, -⟩ := hSw; (try dsimp only at hSw); go_simp; all_goals with_reducible rfl
  try simp only [Act.put, List.setIfInBounds_toArray, List.set_cons_zero, List.set_cons_succ]
  refine wpAnyH_take (i := 2) (oi := ⟨_, _, _, _, _, _⟩) (v := ?_) rfl (by kernel_rfl) (by kernel_rfl) (by kernel_rfl) (fun _ _ _ h => h) (Or.inl ⟨by rfl, ?_⟩) (by assumption) ?_
  rotate_left 1
  · intro w hSw; obtain ⟨hSw, -⟩ := hSw; (try dsimp only at hSw); go_simp; all_goals with_reducible rfl
  try simp only [Act.put, List.setIfInBounds_toArray, List.set_cons_zero, List.set_cons_succ]
  refine wpAnyH_take (i := 3) (oi := ⟨_, _, _, _, _, _⟩) (v := ?_) rfl (by kernel_rfl) (by kernel_rfl) (by kernel_rfl) (fun _ _ _ h => h) (Or.inl ⟨by rfl, ?_⟩) (by assumption) ?_
  rotate_left 1
  · intro w hSw; obtain ⟨hSw, -⟩ := hSw; (try dsimp only at hSw); go_simp; all_goals with_reducible rfl
  try simp only [Act.put, List.setIfInBounds_toArray, List.set_cons_zero, List.set_cons_succ]
  refine wpAnyH_take (i := 4) (oi := ⟨_, _, _, _, _, _⟩) (v := ?_) rfl (by kernel_rfl) (by kernel_rfl) (by kernel_rfl) (fun _ _ _ h => h) (Or.inl ⟨by rfl, ?_⟩) (by assumption) ?_
  rotate_left 1
  · intro w hSw; obtain ⟨hSw, -⟩ := hSw; (try dsimp only at hSw); go_simp; all_goals with_reducible rfl
  try simp only [Act.put, List.setIfInBounds_toArray, List.set_cons_zero, List.set_cons_succ]
  refine wpAnyH_take (i := 5) (oi := ⟨_, _, _, _, _, _⟩) (v := .agg y2.cs.toArray) rfl (by kernel_rfl) (by kernel_rfl) (by kernel_rfl) (fun _ _ _ h => h) (Or.inl ⟨by rfl, ?_⟩) (by assumption) ?_
  · intro w9 hSw; exact exec_load 61 _ (by rfl) (.pointer (some ⟨w.heap.size, 0, none⟩)) (by rfl) _ hSw.2
  try simp only [Act.put, List.setIfInBounds_toArray, List.set_cons_zero, List.set_cons_succ]
  refine wpAnyH_take (i := 6) (oi := ⟨_, _, _, _, _, _⟩) (v := ?_) rfl (by kernel_rfl) (by kernel_rfl) (by kernel_rfl) (fun _ _ _ h => h) (Or.inl ⟨by rfl, ?_⟩) (by assumption) ?_
  rotate_left 1
  · intro w hSw; obtain ⟨hSw, -⟩ := hSw; (try dsimp only at hSw); go_simp; all_goals with_reducible rfl
  try simp only [Act.put, List.setIfInBounds_toArray, List.set_cons_zero, List.set_cons_succ]
  refine wpAnyH_ready (rs := [7]) (by kernel_rfl) (by simp) (AllReadyH.cons (o := ⟨_, _, _, _, _, _⟩) rfl (fun K hK => ?_) AllReadyH.nil)
  refine step_store_run (by rfl) 61 _ _ (by rfl) (.pointer (some ⟨C, k * 24, none⟩)) (.agg y2.cs.toArray) (by rfl) (by rfl) _ ST.out ?_
  refine hK.out _ _ ?_ (fun hHeld => ?_)
  · exact SZ.out
  clear hK K
  try simp only [Act.put]
  refine wpAnyH_done (by kernel_rfl) ?_ _
  go_wp2_with (fail)
  first | go_end0 | refine bodyPost_ret (v := .tuple #[]) (results_none rfl _ _ _) rfl ?_
  have FX := MZ.out.dx
  have e2 : y2 = { y with c := { y.c with pl := y.c.pl + 1, rg := y.c.rg.set d (u) } } := by rw [HY2.out, HY1.out]
  rw [e2] at FX
  exact ⟨rfl, _, FX, MZ.out.ex⟩
set_option maxRecDepth 100000 in
set_option maxHeartbeats 4000000 in
theorem st_38 (h : DX w w0 R col im mem l tr false 0 0 false n cv kv tv) (hal : allok l) (hok : im.ok w0) (hlw : im.ws.length ≤ 240000) (hk : k + 1 = l.length) (hkm : k < 2000) (hy : l[k]? = some y) (hv : im.ws[y.c.pl]? = some v) (P : Pts v 38 tt d a b i) (ht0 : 0 ≤ tt) (ht5 : tt ≤ 5) (hd8 : d < 8) (ha8 : a < 8) (hb8 : b < 8) (hi0 : 0 ≤ i) (hi1 : i ≤ 4294967295) (hxa : y.c.rg[a]? = some xa) (hxb : y.c.rg[b]? = some xb) (m : Nat) (u : Int) (hxm : (y.c.ba : Int) + i = (m : Int)) (hu : mem[m]? = some u) :
    Calls Try.prog 19 #[.pointer (some ⟨R, 0, none⟩)] w fun e w' => e = .returned (.tuple #[]) ∧ ∃ kv', DX w' w0 R col im mem (l.set k { y with c := { y.c with pl := y.c.pl + 1, rg := y.c.rg.set d (u) } }) tr false 0 0 false n cv kv' tv ∧ Ex col w col w' := by
  obtain ⟨C, cap, rfl, HL0, HS0, HM0⟩ := h.copy hal hy
  have c5 : w.cell? ⟨R, 5, none⟩ = some (.slice (some ⟨C, 0, none⟩) (k + 1) cap) := by rw [hk]; exact h.c0.2.2.2.2.2.1
  have HL := hideIt HL0
  have HS := hideIt HS0
  have hyo := hal y (List.mem_of_getElem? hy)
  have hpl := (List.getElem?_eq_some_iff.1 hv).1
  obtain ⟨wb, wo, ewa, hwc, -⟩ := Wds.at (hok.ws.keep (show Q w0 (w.alloc (.cells y.cs.toArray 61)) from HM0.dx.bel)) hv
  have r0 : (w.alloc (.cells y.cs.toArray 61)).cell? ⟨R, 0, none⟩ = some (.slice (some ⟨wb, wo, none⟩) im.ws.length im.wc) := by rw [← ewa]; exact HM0.dx.c0.1
  have b0 : (w.alloc (.cells y.cs.toArray 61)).cell? ⟨w.heap.size, 0, none⟩ = some (.int .i64 (y.c.pl : Int)) := HM0.cell (j := 0) rfl
  have g0 := HM0.fz 0
  have HY := hideIt (And.intro hy (And.intro hyo (And.intro hk (And.intro hal (And.intro hpl hlw)))))
  have HOK := hideIt hok
  have z1 : IntKind.i64.wrap ((k : Int) + 1 - 1) = (k : Int) := by rw [IntKind.wrap_i64]; omega
  have zk : IntKind.i64.wrap (k : Int) = (k : Int) := by rw [IntKind.wrap_i64]; omega
  have z3 : IntKind.i64.wrap ((y.c.pl : Int) + 1) = (y.c.pl : Int) + 1 := by rw [IntKind.wrap_i64]; omega
  have p1 : decide ((y.c.pl : Int) < 0) = false := by simp
  have p2 : decide ((im.ws.length : Int) ≤ (y.c.pl : Int)) = false := by simp; omega
  have hpi : (y.c.pl : Int) < (im.ws.length : Int) := by omega
  have HI := hideIt (And.intro hi0 (And.intro hi1 (And.intro ht0 ht5)))
  have p3 : decide (5 < tt) = false := by simp; omega
  have p4 : decide (7 < (d : Int)) = false := by simp; omega
  have p5 : decide (7 < (a : Int)) = false := by simp; omega
  have p6 : decide (7 < (b : Int)) = false := by simp; omega
  have HX := hideIt (And.intro hxa hxb)
  have HM1 : Hid (∀ X, Q (w.alloc (.cells y.cs.toArray 61)) X → Mid X w w0 R col im mem l tr false 0 0 false n cv C cap tv w.heap.size y) := fun X q => HM0.keep q
  have HP := hideIt P
  clear h hal hok hlw hk hkm hy hv P HL0 HS0 HM0 hyo hpl ewa hxa hxb hi0 hi1 ht0 ht5
  go_enter Try.func19, Try.ntmps19
  go_wp2_with (first | (refine wpList_load_run (by rfl) 61 _ (by rfl) _ (by rfl) _ HL.out ?_) | (refine wpList_store_run (by rfl) 61 _ _ (by rfl) _ _ (by rfl) (by rfl) _ HS.out ?_) | fail)
  generalize w.alloc (.cells y.cs.toArray 61) = z at *
  go_quiet (fail)
  go_wp2_with (fail)
  go_quiet (fail)
  go_wp2_with (fail)
  go_at_call 32; refine Calls.mono (HP.out.po _) ?_; rintro e y1 ⟨rfl, m1, rfl⟩
  go_wp2_with (fail)
  go_at_call 32; refine Calls.mono (HP.out.pt _) ?_; rintro e y2 ⟨rfl, m2, rfl⟩
  go_wp2_with (fail)
  go_at_call 32; refine Calls.mono (HP.out.pd _) ?_; rintro e y3 ⟨rfl, m3, rfl⟩
  go_wp2_with (fail)
  go_at_call 32; refine Calls.mono (HP.out.pa _) ?_; rintro e y4 ⟨rfl, m4, rfl⟩
  go_wp2_with (fail)
  go_at_call 32; refine Calls.mono (HP.out.pb _) ?_; rintro e y5 ⟨rfl, m5, rfl⟩
  go_wp2_with (fail)
  go_at_call 32; refine Calls.mono (HP.out.p0 _) ?_; rintro e y6 ⟨rfl, m6, rfl⟩
  go_wp2_with (fail)
  go_at_call 32; refine Calls.mono (HP.out.pi _) ?_; rintro e y7 ⟨rfl, m7, rfl⟩
  obtain ⟨y1, hy1⟩ : ∃ y1 : Dc, y1 = { y with c := { y.c with pl := y.c.pl + 1 } } := ⟨_, rfl⟩
  have HY1 := hideIt hy1
  have HO1 := hideIt (show y1.c.ok from by have := HY.out.2.1; rw [hy1]; exact ⟨this.rg, this.gt, this.rd, by show y.c.pl + 1 ≤ _; have := HY.out.2.2.2.2; omega, this.ba, this.an⟩)
  clear hy1
  go_upto_region 14 with (fail)
  refine abs_world (M := fun W9 => Mid W9 w w0 R col im mem l tr false 0 0 false n cv C cap tv w.heap.size y1) ((HM1.out _ (Q.drewN (Q.refl _) _)).box (y' := y1) (j := 0) (by rw [HY1.out]; exact Dc.setPl y (y.c.pl + 1)) HO1.out) ?_
  intro z2 hm2
  have HM2 := hideIt hm2
  clear hm2
  have ea : y1.c.rg = y.c.rg := by rw [HY1.out]
  have ra := HM2.out.cell (Dc.rgAt HO1.out (by rw [ea]; exact HX.out.1))
  have rb := HM2.out.cell (Dc.rgAt HO1.out (by rw [ea]; exact HX.out.2))
  have ia : (a : Int) < 8 := by omega
  have ib : (b : Int) < 8 := by omega
  have id' : (d : Int) < 8 := by omega
  clear c5 hwc r0 b0 g0 z1 zk z3 p1 p2 hpi p3 p4 p5 p6 HM1 HP HL HS ea
  have GD := hideIt (show ∀ X, Q z2 X → X.frozen? ⟨w.heap.size, 4 + d, none⟩ = false ∧ ∃ u, X.cell? ⟨w.heap.size, 4 + d, none⟩ = some u from fun X q => ⟨(HM2.out.keep q).fz _, by
    obtain ⟨xd, hxd⟩ := get_of_lt (l := y1.c.rg) (k := d) (by rw [HO1.out.rg]; exact hd8)
    exact ⟨_, (HM2.out.keep q).cell (Dc.rgAt HO1.out hxd)⟩⟩)
  have rb1 : z2.cell? ⟨w.heap.size, 1, none⟩ = some (.int .i64 (y.c.ba : Int)) := HM2.out.cell (j := 1) (by rw [HY1.out]; rfl)
  have hba := HY.out.2.1.ba
  obtain ⟨g, cm, cur, ecv, hg, hcu, hmc, hmx⟩ := row_at HM2.out.dx.mo hu
  have rm4 : z2.cell? ⟨R, 4, none⟩ = some (.slice (some ⟨g, 0, none⟩) mem.length cm) := by rw [← ecv]; exact HM2.out.dx.c0.2.2.2.2.1
  clear ecv
  have rmc : z2.cell? ⟨g, m, none⟩ = some (.int .i64 u) := (cell_of_block hg m).trans hcu
  have rmf : z2.frozen? ⟨g, m, none⟩ = false := free_of_block hg m
  unfold maxLen at hmx
  have hml : (m : Int) < (mem.length : Int) := by have := (List.getElem?_eq_some_iff.1 hu).1; omega
  have q2 : decide ((mem.length : Int) ≤ (m : Int)) = false := by simp; omega
  have q1 : decide ((m : Int) < 0) = false := by simp
  have zm : IntKind.i64.wrap (m : Int) = (m : Int) := by rw [IntKind.wrap_i64]; omega
  have zb : IntKind.i64.wrap ((y.c.ba : Int) + i) = (m : Int) := by rw [hxm]; exact zm
  clear hxm
  obtain ⟨y2, hy2⟩ : ∃ y2 : Dc, y2 = { y1 with c := { y1.c with rg := y1.c.rg.set d (u) } } := ⟨_, rfl⟩
  have HY2 := hideIt hy2
  have HO2 := hideIt (show y2.c.ok from by have := HO1.out; rw [hy2]; exact ⟨by rw [List.length_set]; exact this.rg, this.gt, this.rd, this.pl, this.ba, this.an⟩)
  have HM3 : Hid (∀ X, Q z2 X → Mid (X.setCell ⟨w.heap.size, 4 + d, none⟩ (.int .i64 (u))) w w0 R col im mem l tr false 0 0 false n cv C cap tv w.heap.size y2) := fun X q => (HM2.out.keep q).box (y' := y2) (j := 4 + d) (u := .int .i64 (u)) (by rw [hy2]; exact Dc.setRg HO1.out hd8 _) HO2.out
  clear hy2 hu hg hcu hmc hmx
  obtain ⟨gd, u0, rd0⟩ := GD.out z2 (Q.refl z2)
  go_wp2_with (fail)
  refine abs_world (M := fun W9 => Mid W9 w w0 R col im mem l tr false 0 0 false n cv C cap tv w.heap.size y2) (HM3.out _ (by first | exact Q.refl _ | exact HQ9.out | exact Q.drewN (Q.refl _) _ | exact Q.drewN HQ9.out _ | assumption)) ?_
  intro z4 hm4
  obtain ⟨BS, Z, st, sz, mz⟩ := hm4.back (k := k) HY.out.2.2.1
  have BK := hideIt (And.intro BS True.intro)
  have ST := hideIt st
  have SZ := hideIt sz
  have MZ := hideIt mz
  clear BS st sz mz hm4
  have hkl : (k : Int) < (k : Int) + 1 := by omega
  refine wp_region_held_drew (S := BackS R C cap w.heap.size k y2) (by kernel_rfl) BK.out.1 (fun hHeld => ?_)
  refine wpAnyH_take (i := 0) (oi := ⟨_, _, _, _, _, _⟩) (v := ?_) rfl (by kernel_rfl) (by kernel_rfl) (by kernel_rfl) (fun _ _ _ h => h) (Or.inl ⟨by rfl, ?_⟩) (by assumption) ?_
  rotate_left 1
  · intro w hSw; obtain ⟨hSw, -⟩ := hSw; (try dsimp only at hSw); go_simp; all_goals with_reducible rfl
  try simp only [Act.put, List.setIfInBounds_toArray, List.set_cons_zero, List.set_cons_succ]
  refine wpAnyH_take (i := 1) (oi := ⟨_, _, _, _, _, _⟩) (v := ?_) rfl (by kernel_rfl) (by kernel_rfl) (by kernel_rfl) (fun _ _ _ h => h) (Or.inl ⟨by rfl, ?_⟩) (by assumption) ?_
  rotate_left 1
  · intro w hSw; obtain ⟨hSw, -⟩ := hSw; (try dsimp only at hSw); go_simp; all_goals with_reducible rfl
  try simp only [Act.put, List.setIfInBounds_toArray, List.set_cons_zero, List.set_cons_succ]
  refine wpAnyH_take (i := 2) (oi := ⟨_, _, _, _, _, _⟩) (v := ?_) rfl (by kernel_rfl) (by kernel_rfl) (by kernel_rfl) (fun _ _ _ h => h) (Or.inl ⟨by rfl, ?_⟩) (by assumption) ?_
  rotate_left 1
  · intro w hSw; obtain ⟨hSw, -⟩ := hSw; (try dsimp only at hSw); go_simp; all_goals with_reducible rfl
  try simp only [Act.put, List.setIfInBounds_toArray, List.set_cons_zero, List.set_cons_succ]
  refine wpAnyH_take (i := 3) (oi := ⟨_, _, _, _, _, _⟩) (v := ?_) rfl (by kernel_rfl) (by kernel_rfl) (by kernel_rfl) (fun _ _ _ h => h) (Or.inl ⟨by rfl, ?_⟩) (by assumption) ?_
  rotate_left 1
  · intro w hSw; obtain ⟨hSw, -⟩ := hSw; (try dsimp only at hSw); go_simp; all_goals with_reducible rfl
  try simp only [Act.put, List.setIfInBounds_toArray, List.set_cons_zero, List.set_cons_succ]
  refine wpAnyH_take (i := 4) (oi := ⟨_, _, _, _, _, _⟩) (v := ?_) rfl (by kernel_rfl) (by kernel_rfl) (by kernel_rfl) (fun _ _ _ h => h) (Or.inl ⟨by rfl, ?_⟩) (by assumption) ?_
  rotate_left 1
  · intro w hSw; obtain ⟨hSw, -⟩ := hSw; (try dsimp only at hSw); go_simp; all_goals with_reducible rfl
  try simp only [Act.put, List.setIfInBounds_toArray, List.set_cons_zero, List.set_cons_succ]
  refine wpAnyH_take (i := 5) (oi := ⟨_, _, _, _, _, _⟩) (v := .agg y2.cs.toArray) rfl (by kernel_rfl) (by kernel_rfl) (by kernel_rfl) (fun _ _ _ h => h) (Or.inl ⟨by rfl, ?_⟩) (by assumption) ?_
  · intro w9 hSw; exact exec_load 61 _ (by rfl) (.pointer (some ⟨w.heap.size, 0, none⟩)) (by rfl) _ hSw.2
  try simp only [Act.put, List.setIfInBounds_toArray, List.set_cons_zero, List.set_cons_succ]
  refine wpAnyH_take (i := 6) (oi := ⟨_, _, _, _, _, _⟩) (v := ?_) rfl (by kernel_rfl) (by kernel_rfl) (by kernel_rfl) (fun _ _ _ h => h) (Or.inl ⟨by rfl, ?_⟩) (by assumption) ?_
  rotate_left 1
  · intro w hSw; obtain ⟨hSw, -⟩ := hSw; (try dsimp only at hSw); go_simp; all_goals with_reducible rfl
  try simp only [Act.put, List.setIfInBounds_toArray, List.set_cons_zero, List.set_cons_succ]
  refine wpAnyH_ready (rs := [7]) (by kernel_rfl) (by simp) (AllReadyH.cons (o := ⟨_, _, _, _, _, _⟩) rfl (fun K hK => ?_) AllReadyH.nil)
  refine step_store_run (by rfl) 61 _ _ (by rfl) (.pointer (some ⟨C, k * 24, none⟩)) (.agg y2.cs.toArray) (by rfl) (by rfl) _ ST.out ?_
  refine hK.out _ _ ?_ (fun hHeld => ?_)
  · exact SZ.out
  clear hK K
  try simp only [Act.put]
  refine wpAnyH_done (by kernel_rfl) ?_ _
  go_wp2_with (fail)
  first | go_end0 | refine bodyPost_ret (v := .tuple #[]) (results_none rfl _ _ _) rfl ?_
  have FX := MZ.out.dx
  have e2 : y2 = { y with c := { y.c with pl := y.c.pl + 1, rg := y.c.rg.set d (u) } } := by rw [HY2.out, HY1.out]
  rw [e2] at FX
  exact ⟨rfl, _, FX, MZ.out.ex⟩
set_option maxRecDepth 100000 in
set_option maxHeartbeats 4000000 in
theorem st_40 (h : DX w w0 R col im mem l tr false 0 0 false n cv kv tv) (hal : allok l) (hok : im.ok w0) (hlw : im.ws.length ≤ 240000) (hk : k + 1 = l.length) (hkm : k < 2000) (hy : l[k]? = some y) (hv : im.ws[y.c.pl]? = some v) (P : Pts v 40 tt d a b i) (ht0 : 0 ≤ tt) (ht5 : tt ≤ 5) (hd8 : d < 8) (ha8 : a < 8) (hb8 : b < 8) (hi0 : 0 ≤ i) (hi1 : i ≤ 4294967295) (hxa : y.c.rg[a]? = some xa) (hxb : y.c.rg[b]? = some xb) (m : Nat) (u : Int) (hxm : i = (m : Int)) (hu : y.c.gt[m]? = some u) :
    Calls Try.prog 19 #[.pointer (some ⟨R, 0, none⟩)] w fun e w' => e = .returned (.tuple #[]) ∧ ∃ kv', DX w' w0 R col im mem (l.set k { y with c := { y.c with pl := y.c.pl + 1, rg := y.c.rg.set d (u) } }) tr false 0 0 false n cv kv' tv ∧ Ex col w col w' := by
  subst hxm
  obtain ⟨C, cap, rfl, HL0, HS0, HM0⟩ := h.copy hal hy
  have c5 : w.cell? ⟨R, 5, none⟩ = some (.slice (some ⟨C, 0, none⟩) (k + 1) cap) := by rw [hk]; exact h.c0.2.2.2.2.2.1
  have HL := hideIt HL0
  have HS := hideIt HS0
  have hyo := hal y (List.mem_of_getElem? hy)
  have hpl := (List.getElem?_eq_some_iff.1 hv).1
  obtain ⟨wb, wo, ewa, hwc, -⟩ := Wds.at (hok.ws.keep (show Q w0 (w.alloc (.cells y.cs.toArray 61)) from HM0.dx.bel)) hv
  have r0 : (w.alloc (.cells y.cs.toArray 61)).cell? ⟨R, 0, none⟩ = some (.slice (some ⟨wb, wo, none⟩) im.ws.length im.wc) := by rw [← ewa]; exact HM0.dx.c0.1
  have b0 : (w.alloc (.cells y.cs.toArray 61)).cell? ⟨w.heap.size, 0, none⟩ = some (.int .i64 (y.c.pl : Int)) := HM0.cell (j := 0) rfl
  have g0 := HM0.fz 0
  have HY := hideIt (And.intro hy (And.intro hyo (And.intro hk (And.intro hal (And.intro hpl hlw)))))
  have HOK := hideIt hok
  have z1 : IntKind.i64.wrap ((k : Int) + 1 - 1) = (k : Int) := by rw [IntKind.wrap_i64]; omega
  have zk : IntKind.i64.wrap (k : Int) = (k : Int) := by rw [IntKind.wrap_i64]; omega
  have z3 : IntKind.i64.wrap ((y.c.pl : Int) + 1) = (y.c.pl : Int) + 1 := by rw [IntKind.wrap_i64]; omega
  have p1 : decide ((y.c.pl : Int) < 0) = false := by simp
  have p2 : decide ((im.ws.length : Int) ≤ (y.c.pl : Int)) = false := by simp; omega
  have hpi : (y.c.pl : Int) < (im.ws.length : Int) := by omega
  have HI := hideIt (And.intro hi0 (And.intro hi1 (And.intro ht0 ht5)))
  have p3 : decide (5 < tt) = false := by simp; omega
  have p4 : decide (7 < (d : Int)) = false := by simp; omega
  have p5 : decide (7 < (a : Int)) = false := by simp; omega
  have p6 : decide (7 < (b : Int)) = false := by simp; omega
  have HX := hideIt (And.intro hxa hxb)
  have HM1 : Hid (∀ X, Q (w.alloc (.cells y.cs.toArray 61)) X → Mid X w w0 R col im mem l tr false 0 0 false n cv C cap tv w.heap.size y) := fun X q => HM0.keep q
  have HP := hideIt P
  clear h hal hok hlw hk hkm hy hv P HL0 HS0 HM0 hyo hpl ewa hxa hxb hi0 hi1 ht0 ht5
  go_enter Try.func19, Try.ntmps19
  go_wp2_with (first | (refine wpList_load_run (by rfl) 61 _ (by rfl) _ (by rfl) _ HL.out ?_) | (refine wpList_store_run (by rfl) 61 _ _ (by rfl) _ _ (by rfl) (by rfl) _ HS.out ?_) | fail)
  generalize w.alloc (.cells y.cs.toArray 61) = z at *
  go_quiet (fail)
  go_wp2_with (fail)
  go_quiet (fail)
  go_wp2_with (fail)
  go_at_call 32; refine Calls.mono (HP.out.po _) ?_; rintro e y1 ⟨rfl, m1, rfl⟩
  go_wp2_with (fail)
  go_at_call 32; refine Calls.mono (HP.out.pt _) ?_; rintro e y2 ⟨rfl, m2, rfl⟩
  go_wp2_with (fail)
  go_at_call 32; refine Calls.mono (HP.out.pd _) ?_; rintro e y3 ⟨rfl, m3, rfl⟩
  go_wp2_with (fail)
  go_at_call 32; refine Calls.mono (HP.out.pa _) ?_; rintro e y4 ⟨rfl, m4, rfl⟩
  go_wp2_with (fail)
  go_at_call 32; refine Calls.mono (HP.out.pb _) ?_; rintro e y5 ⟨rfl, m5, rfl⟩
  go_wp2_with (fail)
  go_at_call 32; refine Calls.mono (HP.out.p0 _) ?_; rintro e y6 ⟨rfl, m6, rfl⟩
  go_wp2_with (fail)
  go_at_call 32; refine Calls.mono (HP.out.pi _) ?_; rintro e y7 ⟨rfl, m7, rfl⟩
  obtain ⟨y1, hy1⟩ : ∃ y1 : Dc, y1 = { y with c := { y.c with pl := y.c.pl + 1 } } := ⟨_, rfl⟩
  have HY1 := hideIt hy1
  have HO1 := hideIt (show y1.c.ok from by have := HY.out.2.1; rw [hy1]; exact ⟨this.rg, this.gt, this.rd, by show y.c.pl + 1 ≤ _; have := HY.out.2.2.2.2; omega, this.ba, this.an⟩)
  clear hy1
  go_upto_region 14 with (fail)
  refine abs_world (M := fun W9 => Mid W9 w w0 R col im mem l tr false 0 0 false n cv C cap tv w.heap.size y1) ((HM1.out _ (Q.drewN (Q.refl _) _)).box (y' := y1) (j := 0) (by rw [HY1.out]; exact Dc.setPl y (y.c.pl + 1)) HO1.out) ?_
  intro z2 hm2
  have HM2 := hideIt hm2
  clear hm2
  have ea : y1.c.rg = y.c.rg := by rw [HY1.out]
  have ra := HM2.out.cell (Dc.rgAt HO1.out (by rw [ea]; exact HX.out.1))
  have rb := HM2.out.cell (Dc.rgAt HO1.out (by rw [ea]; exact HX.out.2))
  have ia : (a : Int) < 8 := by omega
  have ib : (b : Int) < 8 := by omega
  have id' : (d : Int) < 8 := by omega
  clear c5 hwc r0 b0 g0 z1 zk z3 p1 p2 hpi p3 p4 p5 p6 HM1 HP HL HS ea
  have GD := hideIt (show ∀ X, Q z2 X → X.frozen? ⟨w.heap.size, 4 + d, none⟩ = false ∧ ∃ u, X.cell? ⟨w.heap.size, 4 + d, none⟩ = some u from fun X q => ⟨(HM2.out.keep q).fz _, by
    obtain ⟨xd, hxd⟩ := get_of_lt (l := y1.c.rg) (k := d) (by rw [HO1.out.rg]; exact hd8)
    exact ⟨_, (HM2.out.keep q).cell (Dc.rgAt HO1.out hxd)⟩⟩)
  have hm6 := (List.getElem?_eq_some_iff.1 hu).1
  have hgl := HY.out.2.1.gt
  have q5 : decide (5 < (m : Int)) = false := by simp; omega
  have hm6' : (m : Int) < 6 := by omega
  have rg0 : z2.cell? ⟨w.heap.size, 12 + m, none⟩ = some (.int .i64 u) := HM2.out.cell (Dc.gtAt HO1.out (by rw [HY1.out]; exact hu))
  obtain ⟨y2, hy2⟩ : ∃ y2 : Dc, y2 = { y1 with c := { y1.c with rg := y1.c.rg.set d (u) } } := ⟨_, rfl⟩
  have HY2 := hideIt hy2
  have HO2 := hideIt (show y2.c.ok from by have := HO1.out; rw [hy2]; exact ⟨by rw [List.length_set]; exact this.rg, this.gt, this.rd, this.pl, this.ba, this.an⟩)
  have HM3 : Hid (∀ X, Q z2 X → Mid (X.setCell ⟨w.heap.size, 4 + d, none⟩ (.int .i64 (u))) w w0 R col im mem l tr false 0 0 false n cv C cap tv w.heap.size y2) := fun X q => (HM2.out.keep q).box (y' := y2) (j := 4 + d) (u := .int .i64 (u)) (by rw [hy2]; exact Dc.setRg HO1.out hd8 _) HO2.out
  clear hy2 hu hgl hm6
  obtain ⟨gd, u0, rd0⟩ := GD.out z2 (Q.refl z2)
  go_wp2_with (fail)
  refine abs_world (M := fun W9 => Mid W9 w w0 R col im mem l tr false 0 0 false n cv C cap tv w.heap.size y2) (HM3.out _ (by first | exact Q.refl _ | exact HQ9.out | exact Q.drewN (Q.refl _) _ | exact Q.drewN HQ9.out _ | assumption)) ?_
  intro z4 hm4
  obtain ⟨BS, Z, st, sz, mz⟩ := hm4.back (k := k) HY.out.2.2.1
  have BK := hideIt (And.intro BS True.intro)
  have ST := hideIt st
  have SZ := hideIt sz
  have MZ := hideIt mz
  clear BS st sz mz hm4
  have hkl : (k : Int) < (k : Int) + 1 := by omega
  refine wp_region_held_drew (S := BackS R C cap w.heap.size k y2) (by kernel_rfl) BK.out.1 (fun hHeld => ?_)
  refine wpAnyH_take (i := 0) (oi := ⟨_, _, _, _, _, _⟩) (v := ?_) rfl (by kernel_rfl) (by kernel_rfl) (by kernel_rfl) (fun _ _ _ h => h) (Or.inl ⟨by rfl, ?_⟩) (by assumption) ?_
  rotate_left 1
  · intro w hSw; obtain ⟨hSw, -⟩ := hSw; (try dsimp only at hSw); go_simp; all_goals with_reducible rfl
  try simp only [Act.put, List.setIfInBounds_toArray, List.set_cons_zero, List.set_cons_succ]
  refine wpAnyH_take (i := 1) (oi := ⟨_, _, _, _, _, _⟩) (v := ?_) rfl (by kernel_rfl) (by kernel_rfl) (by kernel_rfl) (fun _ _ _ h => h) (Or.inl ⟨by rfl, ?_⟩) (by assumption) ?_
  rotate_left 1
  · intro w hSw; obtain ⟨hSw, -⟩ := hSw; (try dsimp only at hSw); go_simp; all_goals with_reducible rfl
  try simp only [Act.put, List.setIfInBounds_toArray, List.set_cons_zero, List.set_cons_succ]
  refine wpAnyH_take (i := 2) (oi := ⟨_, _, _, _, _, _⟩) (v := ?_) rfl (by kernel_rfl) (by kernel_rfl) (by kernel_rfl) (fun _ _ _ h => h) (Or.inl ⟨by rfl, ?_⟩) (by assumption) ?_
  rotate_left 1
  · intro w hSw; obtain ⟨hSw, -⟩ := hSw; (try dsimp only at hSw); go_simp; all_goals with_reducible rfl
  try simp only [Act.put, List.setIfInBounds_toArray, List.set_cons_zero, List.set_cons_succ]
  refine wpAnyH_take (i := 3) (oi := ⟨_, _, _, _, _, _⟩) (v := ?_) rfl (by kernel_rfl) (by kernel_rfl) (by kernel_rfl) (fun _ _ _ h => h) (Or.inl ⟨by rfl, ?_⟩) (by assumption) ?_
  rotate_left 1
  · intro w hSw; obtain ⟨hSw, -⟩ := hSw; (try dsimp only at hSw); go_simp; all_goals with_reducible rfl
  try simp only [Act.put, List.setIfInBounds_toArray, List.set_cons_zero, List.set_cons_succ]
  refine wpAnyH_take (i := 4) (oi := ⟨_, _, _, _, _, _⟩) (v := ?_) rfl (by kernel_rfl) (by kernel_rfl) (by kernel_rfl) (fun _ _ _ h => h) (Or.inl ⟨by rfl, ?_⟩) (by assumption) ?_
  rotate_left 1
  · intro w hSw; obtain ⟨hSw, -⟩ := hSw; (try dsimp only at hSw); go_simp; all_goals with_reducible rfl
  try simp only [Act.put, List.setIfInBounds_toArray, List.set_cons_zero, List.set_cons_succ]
  refine wpAnyH_take (i := 5) (oi := ⟨_, _, _, _, _, _⟩) (v := .agg y2.cs.toArray) rfl (by kernel_rfl) (by kernel_rfl) (by kernel_rfl) (fun _ _ _ h => h) (Or.inl ⟨by rfl, ?_⟩) (by assumption) ?_
  · intro w9 hSw; exact exec_load 61 _ (by rfl) (.pointer (some ⟨w.heap.size, 0, none⟩)) (by rfl) _ hSw.2
  try simp only [Act.put, List.setIfInBounds_toArray, List.set_cons_zero, List.set_cons_succ]
  refine wpAnyH_take (i := 6) (oi := ⟨_, _, _, _, _, _⟩) (v := ?_) rfl (by kernel_rfl) (by kernel_rfl) (by kernel_rfl) (fun _ _ _ h => h) (Or.inl ⟨by rfl, ?_⟩) (by assumption) ?_
  rotate_left 1
  · intro w hSw; obtain ⟨hSw, -⟩ := hSw; (try dsimp only at hSw); go_simp; all_goals with_reducible rfl
  try simp only [Act.put, List.setIfInBounds_toArray, List.set_cons_zero, List.set_cons_succ]
  refine wpAnyH_ready (rs := [7]) (by kernel_rfl) (by simp) (AllReadyH.cons (o := ⟨_, _, _, _, _, _⟩) rfl (fun K hK => ?_) AllReadyH.nil)
  refine step_store_run (by rfl) 61 _ _ (by rfl) (.pointer (some ⟨C, k * 24, none⟩)) (.agg y2.cs.toArray) (by rfl) (by rfl) _ ST.out ?_
  refine hK.out _ _ ?_ (fun hHeld => ?_)
  · exact SZ.out
  clear hK K
  try simp only [Act.put]
  refine wpAnyH_done (by kernel_rfl) ?_ _
  go_wp2_with (fail)
  first | go_end0 | refine bodyPost_ret (v := .tuple #[]) (results_none rfl _ _ _) rfl ?_
  have FX := MZ.out.dx
  have e2 : y2 = { y with c := { y.c with pl := y.c.pl + 1, rg := y.c.rg.set d (u) } } := by rw [HY2.out, HY1.out]
  rw [e2] at FX
  exact ⟨rfl, _, FX, MZ.out.ex⟩
set_option maxRecDepth 100000 in
set_option maxHeartbeats 4000000 in
theorem tp_40 (h : DX w w0 R col im mem l tr false 0 0 false n cv kv tv) (hal : allok l) (hok : im.ok w0) (hlw : im.ws.length ≤ 240000) (hk : k + 1 = l.length) (hkm : k < 2000) (hy : l[k]? = some y) (hv : im.ws[y.c.pl]? = some v) (P : Pts v 40 tt d a b i) (ht0 : 0 ≤ tt) (ht5 : tt ≤ 5) (hd8 : d < 8) (ha8 : a < 8) (hb8 : b < 8) (hi0 : 0 ≤ i) (hi1 : i ≤ 4294967295) (hxa : y.c.rg[a]? = some xa) (hxb : y.c.rg[b]? = some xb) (hi5 : 5 < i) :
    Calls Try.prog 19 #[.pointer (some ⟨R, 0, none⟩)] w fun e w' => e = .returned (.tuple #[]) ∧ ∃ kv', DX w' w0 R col im mem l tr false 0 (5) false n cv kv' tv ∧ Ex col w col w' := by
  obtain ⟨C, cap, rfl, HL0, HS0, HM0⟩ := h.copy hal hy
  have c5 : w.cell? ⟨R, 5, none⟩ = some (.slice (some ⟨C, 0, none⟩) (k + 1) cap) := by rw [hk]; exact h.c0.2.2.2.2.2.1
  have HL := hideIt HL0
  have HS := hideIt HS0
  have hyo := hal y (List.mem_of_getElem? hy)
  have hpl := (List.getElem?_eq_some_iff.1 hv).1
  obtain ⟨wb, wo, ewa, hwc, -⟩ := Wds.at (hok.ws.keep (show Q w0 (w.alloc (.cells y.cs.toArray 61)) from HM0.dx.bel)) hv
  have r0 : (w.alloc (.cells y.cs.toArray 61)).cell? ⟨R, 0, none⟩ = some (.slice (some ⟨wb, wo, none⟩) im.ws.length im.wc) := by rw [← ewa]; exact HM0.dx.c0.1
  have b0 : (w.alloc (.cells y.cs.toArray 61)).cell? ⟨w.heap.size, 0, none⟩ = some (.int .i64 (y.c.pl : Int)) := HM0.cell (j := 0) rfl
  have g0 := HM0.fz 0
  have HY := hideIt (And.intro hy (And.intro hyo (And.intro hk (And.intro hal (And.intro hpl hlw)))))
  have HOK := hideIt hok
  have z1 : IntKind.i64.wrap ((k : Int) + 1 - 1) = (k : Int) := by rw [IntKind.wrap_i64]; omega
  have zk : IntKind.i64.wrap (k : Int) = (k : Int) := by rw [IntKind.wrap_i64]; omega
  have z3 : IntKind.i64.wrap ((y.c.pl : Int) + 1) = (y.c.pl : Int) + 1 := by rw [IntKind.wrap_i64]; omega
  have p1 : decide ((y.c.pl : Int) < 0) = false := by simp
  have p2 : decide ((im.ws.length : Int) ≤ (y.c.pl : Int)) = false := by simp; omega
  have hpi : (y.c.pl : Int) < (im.ws.length : Int) := by omega
  have HI := hideIt (And.intro hi0 (And.intro hi1 (And.intro ht0 ht5)))
  have p3 : decide (5 < tt) = false := by simp; omega
  have p4 : decide (7 < (d : Int)) = false := by simp; omega
  have p5 : decide (7 < (a : Int)) = false := by simp; omega
  have p6 : decide (7 < (b : Int)) = false := by simp; omega
  have HX := hideIt (And.intro hxa hxb)
  have HM1 : Hid (∀ X, Q (w.alloc (.cells y.cs.toArray 61)) X → Mid X w w0 R col im mem l tr false 0 0 false n cv C cap tv w.heap.size y) := fun X q => HM0.keep q
  have HP := hideIt P
  clear h hal hok hlw hk hkm hy hv P HL0 HS0 HM0 hyo hpl ewa hxa hxb hi0 hi1 ht0 ht5
  go_enter Try.func19, Try.ntmps19
  go_wp2_with (first | (refine wpList_load_run (by rfl) 61 _ (by rfl) _ (by rfl) _ HL.out ?_) | (refine wpList_store_run (by rfl) 61 _ _ (by rfl) _ _ (by rfl) (by rfl) _ HS.out ?_) | fail)
  generalize w.alloc (.cells y.cs.toArray 61) = z at *
  go_quiet (fail)
  go_wp2_with (fail)
  go_quiet (fail)
  go_wp2_with (fail)
  go_at_call 32; refine Calls.mono (HP.out.po _) ?_; rintro e y1 ⟨rfl, m1, rfl⟩
  go_wp2_with (fail)
  go_at_call 32; refine Calls.mono (HP.out.pt _) ?_; rintro e y2 ⟨rfl, m2, rfl⟩
  go_wp2_with (fail)
  go_at_call 32; refine Calls.mono (HP.out.pd _) ?_; rintro e y3 ⟨rfl, m3, rfl⟩
  go_wp2_with (fail)
  go_at_call 32; refine Calls.mono (HP.out.pa _) ?_; rintro e y4 ⟨rfl, m4, rfl⟩
  go_wp2_with (fail)
  go_at_call 32; refine Calls.mono (HP.out.pb _) ?_; rintro e y5 ⟨rfl, m5, rfl⟩
  go_wp2_with (fail)
  go_at_call 32; refine Calls.mono (HP.out.p0 _) ?_; rintro e y6 ⟨rfl, m6, rfl⟩
  go_wp2_with (fail)
  go_at_call 32; refine Calls.mono (HP.out.pi _) ?_; rintro e y7 ⟨rfl, m7, rfl⟩
  obtain ⟨y1, hy1⟩ : ∃ y1 : Dc, y1 = { y with c := { y.c with pl := y.c.pl + 1 } } := ⟨_, rfl⟩
  have HY1 := hideIt hy1
  have HO1 := hideIt (show y1.c.ok from by have := HY.out.2.1; rw [hy1]; exact ⟨this.rg, this.gt, this.rd, by show y.c.pl + 1 ≤ _; have := HY.out.2.2.2.2; omega, this.ba, this.an⟩)
  clear hy1
  go_upto_region 14 with (fail)
  refine abs_world (M := fun W9 => Mid W9 w w0 R col im mem l tr false 0 0 false n cv C cap tv w.heap.size y1) ((HM1.out _ (Q.drewN (Q.refl _) _)).box (y' := y1) (j := 0) (by rw [HY1.out]; exact Dc.setPl y (y.c.pl + 1)) HO1.out) ?_
  intro z2 hm2
  have HM2 := hideIt hm2
  clear hm2
  have ea : y1.c.rg = y.c.rg := by rw [HY1.out]
  have ra := HM2.out.cell (Dc.rgAt HO1.out (by rw [ea]; exact HX.out.1))
  have rb := HM2.out.cell (Dc.rgAt HO1.out (by rw [ea]; exact HX.out.2))
  have ia : (a : Int) < 8 := by omega
  have ib : (b : Int) < 8 := by omega
  have id' : (d : Int) < 8 := by omega
  clear c5 hwc r0 b0 g0 z1 zk z3 p1 p2 hpi p3 p4 p5 p6 HM1 HP HL HS ea
  have CT := hideIt (show ∀ X, Q z2 X → Calls Try.prog 31 #[.pointer (some ⟨R, 0, none⟩), .int .i64 (5)] X fun e w' => e = .returned (.tuple #[]) ∧ DX w' w0 R col im mem l tr false 0 (5) false n cv (.slice (some ⟨C, 0, none⟩) l.length cap) tv ∧ Ex col w col w' from fun X qX => (trap_any (HM2.out.keep qX).dx (5) (by omega) (by omega)).mono (fun e w' => fun ⟨h1, h2, h3⟩ => ⟨h1, h2, (HM2.out.keep qX).ex.trans h3⟩))
  have q5 : decide (5 < i) = true := by simpa using hi5
  clear hi5
  go_wp2_with (first |  (go_at_call 31; refine Calls.mono (CT.out _ (by first | exact Q.refl _ | exact HQ9.out | exact Q.drewN (Q.refl _) _ | exact Q.drewN HQ9.out _ | assumption)) ?_; rintro e y8 ⟨rfl, t8⟩; have HT8 := hideIt t8; clear t8) | fail)
  refine bodyPost_ret (v := .tuple #[]) (results_none rfl _ _ _) rfl ?_
  exact ⟨rfl, _, HT8.out⟩
set_option maxRecDepth 100000 in
set_option maxHeartbeats 4000000 in
theorem tp_32 (h : DX w w0 R col im mem l tr false 0 0 false n cv kv tv) (hal : allok l) (hok : im.ok w0) (hlw : im.ws.length ≤ 240000) (hk : k + 1 = l.length) (hkm : k < 2000) (hy : l[k]? = some y) (hv : im.ws[y.c.pl]? = some v) (P : Pts v 32 tt d a b i) (ht0 : 0 ≤ tt) (ht5 : tt ≤ 5) (hd8 : d < 8) (ha8 : a < 8) (hb8 : b < 8) (hi0 : 0 ≤ i) (hi1 : i ≤ 4294967295) (hxa : y.c.rg[a]? = some xa) (hxb : y.c.rg[b]? = some xb) (hi5 : 5 < i) :
    Calls Try.prog 19 #[.pointer (some ⟨R, 0, none⟩)] w fun e w' => e = .returned (.tuple #[]) ∧ ∃ kv', DX w' w0 R col im mem l tr false 0 (5) false n cv kv' tv ∧ Ex col w col w' := by
  obtain ⟨C, cap, rfl, HL0, HS0, HM0⟩ := h.copy hal hy
  have c5 : w.cell? ⟨R, 5, none⟩ = some (.slice (some ⟨C, 0, none⟩) (k + 1) cap) := by rw [hk]; exact h.c0.2.2.2.2.2.1
  have HL := hideIt HL0
  have HS := hideIt HS0
  have hyo := hal y (List.mem_of_getElem? hy)
  have hpl := (List.getElem?_eq_some_iff.1 hv).1
  obtain ⟨wb, wo, ewa, hwc, -⟩ := Wds.at (hok.ws.keep (show Q w0 (w.alloc (.cells y.cs.toArray 61)) from HM0.dx.bel)) hv
  have r0 : (w.alloc (.cells y.cs.toArray 61)).cell? ⟨R, 0, none⟩ = some (.slice (some ⟨wb, wo, none⟩) im.ws.length im.wc) := by rw [← ewa]; exact HM0.dx.c0.1
  have b0 : (w.alloc (.cells y.cs.toArray 61)).cell? ⟨w.heap.size, 0, none⟩ = some (.int .i64 (y.c.pl : Int)) := HM0.cell (j := 0) rfl
  have g0 := HM0.fz 0
  have HY := hideIt (And.intro hy (And.intro hyo (And.intro hk (And.intro hal (And.intro hpl hlw)))))
  have HOK := hideIt hok
  have z1 : IntKind.i64.wrap ((k : Int) + 1 - 1) = (k : Int) := by rw [IntKind.wrap_i64]; omega
  have zk : IntKind.i64.wrap (k : Int) = (k : Int) := by rw [IntKind.wrap_i64]; omega
  have z3 : IntKind.i64.wrap ((y.c.pl : Int) + 1) = (y.c.pl : Int) + 1 := by rw [IntKind.wrap_i64]; omega
  have p1 : decide ((y.c.pl : Int) < 0) = false := by simp
  have p2 : decide ((im.ws.length : Int) ≤ (y.c.pl : Int)) = false := by simp; omega
  have hpi : (y.c.pl : Int) < (im.ws.length : Int) := by omega
  have HI := hideIt (And.intro hi0 (And.intro hi1 (And.intro ht0 ht5)))
  have p3 : decide (5 < tt) = false := by simp; omega
  have p4 : decide (7 < (d : Int)) = false := by simp; omega
  have p5 : decide (7 < (a : Int)) = false := by simp; omega
  have p6 : decide (7 < (b : Int)) = false := by simp; omega
  have HX := hideIt (And.intro hxa hxb)
  have HM1 : Hid (∀ X, Q (w.alloc (.cells y.cs.toArray 61)) X → Mid X w w0 R col im mem l tr false 0 0 false n cv C cap tv w.heap.size y) := fun X q => HM0.keep q
  have HP := hideIt P
  clear h hal hok hlw hk hkm hy hv P HL0 HS0 HM0 hyo hpl ewa hxa hxb hi0 hi1 ht0 ht5
  go_enter Try.func19, Try.ntmps19
  go_wp2_with (first | (refine wpList_load_run (by rfl) 61 _ (by rfl) _ (by rfl) _ HL.out ?_) | (refine wpList_store_run (by rfl) 61 _ _ (by rfl) _ _ (by rfl) (by rfl) _ HS.out ?_) | fail)
  generalize w.alloc (.cells y.cs.toArray 61) = z at *
  go_quiet (fail)
  go_wp2_with (fail)
  go_quiet (fail)
  go_wp2_with (fail)
  go_at_call 32; refine Calls.mono (HP.out.po _) ?_; rintro e y1 ⟨rfl, m1, rfl⟩
  go_wp2_with (fail)
  go_at_call 32; refine Calls.mono (HP.out.pt _) ?_; rintro e y2 ⟨rfl, m2, rfl⟩
  go_wp2_with (fail)
  go_at_call 32; refine Calls.mono (HP.out.pd _) ?_; rintro e y3 ⟨rfl, m3, rfl⟩
  go_wp2_with (fail)
  go_at_call 32; refine Calls.mono (HP.out.pa _) ?_; rintro e y4 ⟨rfl, m4, rfl⟩
  go_wp2_with (fail)
  go_at_call 32; refine Calls.mono (HP.out.pb _) ?_; rintro e y5 ⟨rfl, m5, rfl⟩
  go_wp2_with (fail)
  go_at_call 32; refine Calls.mono (HP.out.p0 _) ?_; rintro e y6 ⟨rfl, m6, rfl⟩
  go_wp2_with (fail)
  go_at_call 32; refine Calls.mono (HP.out.pi _) ?_; rintro e y7 ⟨rfl, m7, rfl⟩
  obtain ⟨y1, hy1⟩ : ∃ y1 : Dc, y1 = { y with c := { y.c with pl := y.c.pl + 1 } } := ⟨_, rfl⟩
  have HY1 := hideIt hy1
  have HO1 := hideIt (show y1.c.ok from by have := HY.out.2.1; rw [hy1]; exact ⟨this.rg, this.gt, this.rd, by show y.c.pl + 1 ≤ _; have := HY.out.2.2.2.2; omega, this.ba, this.an⟩)
  clear hy1
  go_upto_region 14 with (fail)
  refine abs_world (M := fun W9 => Mid W9 w w0 R col im mem l tr false 0 0 false n cv C cap tv w.heap.size y1) ((HM1.out _ (Q.drewN (Q.refl _) _)).box (y' := y1) (j := 0) (by rw [HY1.out]; exact Dc.setPl y (y.c.pl + 1)) HO1.out) ?_
  intro z2 hm2
  have HM2 := hideIt hm2
  clear hm2
  have ea : y1.c.rg = y.c.rg := by rw [HY1.out]
  have ra := HM2.out.cell (Dc.rgAt HO1.out (by rw [ea]; exact HX.out.1))
  have rb := HM2.out.cell (Dc.rgAt HO1.out (by rw [ea]; exact HX.out.2))
  have ia : (a : Int) < 8 := by omega
  have ib : (b : Int) < 8 := by omega
  have id' : (d : Int) < 8 := by omega
  clear c5 hwc r0 b0 g0 z1 zk z3 p1 p2 hpi p3 p4 p5 p6 HM1 HP HL HS ea
  have CT := hideIt (show ∀ X, Q z2 X → Calls Try.prog 31 #[.pointer (some ⟨R, 0, none⟩), .int .i64 (5)] X fun e w' => e = .returned (.tuple #[]) ∧ DX w' w0 R col im mem l tr false 0 (5) false n cv (.slice (some ⟨C, 0, none⟩) l.length cap) tv ∧ Ex col w col w' from fun X qX => (trap_any (HM2.out.keep qX).dx (5) (by omega) (by omega)).mono (fun e w' => fun ⟨h1, h2, h3⟩ => ⟨h1, h2, (HM2.out.keep qX).ex.trans h3⟩))
  have q5 : decide (5 < i) = true := by simpa using hi5
  clear hi5
  go_wp2_with (first |  (go_at_call 31; refine Calls.mono (CT.out _ (by first | exact Q.refl _ | exact HQ9.out | exact Q.drewN (Q.refl _) _ | exact Q.drewN HQ9.out _ | assumption)) ?_; rintro e y8 ⟨rfl, t8⟩; have HT8 := hideIt t8; clear t8) | fail)
  refine bodyPost_ret (v := .tuple #[]) (results_none rfl _ _ _) rfl ?_
  exact ⟨rfl, _, HT8.out⟩
set_option maxRecDepth 100000 in
set_option maxHeartbeats 4000000 in
theorem tp_30n (h : DX w w0 R col im mem l tr false 0 0 false n cv kv tv) (hal : allok l) (hok : im.ok w0) (hlw : im.ws.length ≤ 240000) (hk : k + 1 = l.length) (hkm : k < 2000) (hy : l[k]? = some y) (hv : im.ws[y.c.pl]? = some v) (P : Pts v 30 tt d a b i) (ht0 : 0 ≤ tt) (ht5 : tt ≤ 5) (hd8 : d < 8) (ha8 : a < 8) (hb8 : b < 8) (hi0 : 0 ≤ i) (hi1 : i ≤ 4294967295) (hxa : y.c.rg[a]? = some xa) (hxb : y.c.rg[b]? = some xb) (hn0 : xa < 0) :
    Calls Try.prog 19 #[.pointer (some ⟨R, 0, none⟩)] w fun e w' => e = .returned (.tuple #[]) ∧ ∃ kv', DX w' w0 R col im mem l tr false 0 (5) false n cv kv' tv ∧ Ex col w col w' := by
  obtain ⟨C, cap, rfl, HL0, HS0, HM0⟩ := h.copy hal hy
  have c5 : w.cell? ⟨R, 5, none⟩ = some (.slice (some ⟨C, 0, none⟩) (k + 1) cap) := by rw [hk]; exact h.c0.2.2.2.2.2.1
  have HL := hideIt HL0
  have HS := hideIt HS0
  have hyo := hal y (List.mem_of_getElem? hy)
  have hpl := (List.getElem?_eq_some_iff.1 hv).1
  obtain ⟨wb, wo, ewa, hwc, -⟩ := Wds.at (hok.ws.keep (show Q w0 (w.alloc (.cells y.cs.toArray 61)) from HM0.dx.bel)) hv
  have r0 : (w.alloc (.cells y.cs.toArray 61)).cell? ⟨R, 0, none⟩ = some (.slice (some ⟨wb, wo, none⟩) im.ws.length im.wc) := by rw [← ewa]; exact HM0.dx.c0.1
  have b0 : (w.alloc (.cells y.cs.toArray 61)).cell? ⟨w.heap.size, 0, none⟩ = some (.int .i64 (y.c.pl : Int)) := HM0.cell (j := 0) rfl
  have g0 := HM0.fz 0
  have HY := hideIt (And.intro hy (And.intro hyo (And.intro hk (And.intro hal (And.intro hpl hlw)))))
  have HOK := hideIt hok
  have z1 : IntKind.i64.wrap ((k : Int) + 1 - 1) = (k : Int) := by rw [IntKind.wrap_i64]; omega
  have zk : IntKind.i64.wrap (k : Int) = (k : Int) := by rw [IntKind.wrap_i64]; omega
  have z3 : IntKind.i64.wrap ((y.c.pl : Int) + 1) = (y.c.pl : Int) + 1 := by rw [IntKind.wrap_i64]; omega
  have p1 : decide ((y.c.pl : Int) < 0) = false := by simp
  have p2 : decide ((im.ws.length : Int) ≤ (y.c.pl : Int)) = false := by simp; omega
  have hpi : (y.c.pl : Int) < (im.ws.length : Int) := by omega
  have HI := hideIt (And.intro hi0 (And.intro hi1 (And.intro ht0 ht5)))
  have p3 : decide (5 < tt) = false := by simp; omega
  have p4 : decide (7 < (d : Int)) = false := by simp; omega
  have p5 : decide (7 < (a : Int)) = false := by simp; omega
  have p6 : decide (7 < (b : Int)) = false := by simp; omega
  have HX := hideIt (And.intro hxa hxb)
  have HM1 : Hid (∀ X, Q (w.alloc (.cells y.cs.toArray 61)) X → Mid X w w0 R col im mem l tr false 0 0 false n cv C cap tv w.heap.size y) := fun X q => HM0.keep q
  have HP := hideIt P
  clear h hal hok hlw hk hkm hy hv P HL0 HS0 HM0 hyo hpl ewa hxa hxb hi0 hi1 ht0 ht5
  go_enter Try.func19, Try.ntmps19
  go_wp2_with (first | (refine wpList_load_run (by rfl) 61 _ (by rfl) _ (by rfl) _ HL.out ?_) | (refine wpList_store_run (by rfl) 61 _ _ (by rfl) _ _ (by rfl) (by rfl) _ HS.out ?_) | fail)
  generalize w.alloc (.cells y.cs.toArray 61) = z at *
  go_quiet (fail)
  go_wp2_with (fail)
  go_quiet (fail)
  go_wp2_with (fail)
  go_at_call 32; refine Calls.mono (HP.out.po _) ?_; rintro e y1 ⟨rfl, m1, rfl⟩
  go_wp2_with (fail)
  go_at_call 32; refine Calls.mono (HP.out.pt _) ?_; rintro e y2 ⟨rfl, m2, rfl⟩
  go_wp2_with (fail)
  go_at_call 32; refine Calls.mono (HP.out.pd _) ?_; rintro e y3 ⟨rfl, m3, rfl⟩
  go_wp2_with (fail)
  go_at_call 32; refine Calls.mono (HP.out.pa _) ?_; rintro e y4 ⟨rfl, m4, rfl⟩
  go_wp2_with (fail)
  go_at_call 32; refine Calls.mono (HP.out.pb _) ?_; rintro e y5 ⟨rfl, m5, rfl⟩
  go_wp2_with (fail)
  go_at_call 32; refine Calls.mono (HP.out.p0 _) ?_; rintro e y6 ⟨rfl, m6, rfl⟩
  go_wp2_with (fail)
  go_at_call 32; refine Calls.mono (HP.out.pi _) ?_; rintro e y7 ⟨rfl, m7, rfl⟩
  obtain ⟨y1, hy1⟩ : ∃ y1 : Dc, y1 = { y with c := { y.c with pl := y.c.pl + 1 } } := ⟨_, rfl⟩
  have HY1 := hideIt hy1
  have HO1 := hideIt (show y1.c.ok from by have := HY.out.2.1; rw [hy1]; exact ⟨this.rg, this.gt, this.rd, by show y.c.pl + 1 ≤ _; have := HY.out.2.2.2.2; omega, this.ba, this.an⟩)
  clear hy1
  go_upto_region 14 with (fail)
  refine abs_world (M := fun W9 => Mid W9 w w0 R col im mem l tr false 0 0 false n cv C cap tv w.heap.size y1) ((HM1.out _ (Q.drewN (Q.refl _) _)).box (y' := y1) (j := 0) (by rw [HY1.out]; exact Dc.setPl y (y.c.pl + 1)) HO1.out) ?_
  intro z2 hm2
  have HM2 := hideIt hm2
  clear hm2
  have ea : y1.c.rg = y.c.rg := by rw [HY1.out]
  have ra := HM2.out.cell (Dc.rgAt HO1.out (by rw [ea]; exact HX.out.1))
  have rb := HM2.out.cell (Dc.rgAt HO1.out (by rw [ea]; exact HX.out.2))
  have ia : (a : Int) < 8 := by omega
  have ib : (b : Int) < 8 := by omega
  have id' : (d : Int) < 8 := by omega
  clear c5 hwc r0 b0 g0 z1 zk z3 p1 p2 hpi p3 p4 p5 p6 HM1 HP HL HS ea
  have CT := hideIt (show ∀ X, Q z2 X → Calls Try.prog 31 #[.pointer (some ⟨R, 0, none⟩), .int .i64 (5)] X fun e w' => e = .returned (.tuple #[]) ∧ DX w' w0 R col im mem l tr false 0 (5) false n cv (.slice (some ⟨C, 0, none⟩) l.length cap) tv ∧ Ex col w col w' from fun X qX => (trap_any (HM2.out.keep qX).dx (5) (by omega) (by omega)).mono (fun e w' => fun ⟨h1, h2, h3⟩ => ⟨h1, h2, (HM2.out.keep qX).ex.trans h3⟩))
  have q1 : decide (xa < 0) = true := by simpa using hn0
  clear hn0
  go_wp2_with (first |  (go_at_call 31; refine Calls.mono (CT.out _ (by first | exact Q.refl _ | exact HQ9.out | exact Q.drewN (Q.refl _) _ | exact Q.drewN HQ9.out _ | assumption)) ?_; rintro e y8 ⟨rfl, t8⟩; have HT8 := hideIt t8; clear t8) | fail)
  refine bodyPost_ret (v := .tuple #[]) (results_none rfl _ _ _) rfl ?_
  exact ⟨rfl, _, HT8.out⟩
set_option maxRecDepth 100000 in
set_option maxHeartbeats 4000000 in
theorem tp_30g (h : DX w w0 R col im mem l tr false 0 0 false n cv kv tv) (hal : allok l) (hok : im.ok w0) (hlw : im.ws.length ≤ 240000) (hk : k + 1 = l.length) (hkm : k < 2000) (hy : l[k]? = some y) (hv : im.ws[y.c.pl]? = some v) (P : Pts v 30 tt d a b i) (ht0 : 0 ≤ tt) (ht5 : tt ≤ 5) (hd8 : d < 8) (ha8 : a < 8) (hb8 : b < 8) (hi0 : 0 ≤ i) (hi1 : i ≤ 4294967295) (hxa : y.c.rg[a]? = some xa) (hxb : y.c.rg[b]? = some xb) (hn0 : ¬ xa < 0) (hng : (mem.length : Int) ≤ xa) :
    Calls Try.prog 19 #[.pointer (some ⟨R, 0, none⟩)] w fun e w' => e = .returned (.tuple #[]) ∧ ∃ kv', DX w' w0 R col im mem l tr false 0 (5) false n cv kv' tv ∧ Ex col w col w' := by
  obtain ⟨C, cap, rfl, HL0, HS0, HM0⟩ := h.copy hal hy
  have c5 : w.cell? ⟨R, 5, none⟩ = some (.slice (some ⟨C, 0, none⟩) (k + 1) cap) := by rw [hk]; exact h.c0.2.2.2.2.2.1
  have HL := hideIt HL0
  have HS := hideIt HS0
  have hyo := hal y (List.mem_of_getElem? hy)
  have hpl := (List.getElem?_eq_some_iff.1 hv).1
  obtain ⟨wb, wo, ewa, hwc, -⟩ := Wds.at (hok.ws.keep (show Q w0 (w.alloc (.cells y.cs.toArray 61)) from HM0.dx.bel)) hv
  have r0 : (w.alloc (.cells y.cs.toArray 61)).cell? ⟨R, 0, none⟩ = some (.slice (some ⟨wb, wo, none⟩) im.ws.length im.wc) := by rw [← ewa]; exact HM0.dx.c0.1
  have b0 : (w.alloc (.cells y.cs.toArray 61)).cell? ⟨w.heap.size, 0, none⟩ = some (.int .i64 (y.c.pl : Int)) := HM0.cell (j := 0) rfl
  have g0 := HM0.fz 0
  have HY := hideIt (And.intro hy (And.intro hyo (And.intro hk (And.intro hal (And.intro hpl hlw)))))
  have HOK := hideIt hok
  have z1 : IntKind.i64.wrap ((k : Int) + 1 - 1) = (k : Int) := by rw [IntKind.wrap_i64]; omega
  have zk : IntKind.i64.wrap (k : Int) = (k : Int) := by rw [IntKind.wrap_i64]; omega
  have z3 : IntKind.i64.wrap ((y.c.pl : Int) + 1) = (y.c.pl : Int) + 1 := by rw [IntKind.wrap_i64]; omega
  have p1 : decide ((y.c.pl : Int) < 0) = false := by simp
  have p2 : decide ((im.ws.length : Int) ≤ (y.c.pl : Int)) = false := by simp; omega
  have hpi : (y.c.pl : Int) < (im.ws.length : Int) := by omega
  have HI := hideIt (And.intro hi0 (And.intro hi1 (And.intro ht0 ht5)))
  have p3 : decide (5 < tt) = false := by simp; omega
  have p4 : decide (7 < (d : Int)) = false := by simp; omega
  have p5 : decide (7 < (a : Int)) = false := by simp; omega
  have p6 : decide (7 < (b : Int)) = false := by simp; omega
  have HX := hideIt (And.intro hxa hxb)
  have HM1 : Hid (∀ X, Q (w.alloc (.cells y.cs.toArray 61)) X → Mid X w w0 R col im mem l tr false 0 0 false n cv C cap tv w.heap.size y) := fun X q => HM0.keep q
  have HP := hideIt P
  clear h hal hok hlw hk hkm hy hv P HL0 HS0 HM0 hyo hpl ewa hxa hxb hi0 hi1 ht0 ht5
  go_enter Try.func19, Try.ntmps19
  go_wp2_with (first | (refine wpList_load_run (by rfl) 61 _ (by rfl) _ (by rfl) _ HL.out ?_) | (refine wpList_store_run (by rfl) 61 _ _ (by rfl) _ _ (by rfl) (by rfl) _ HS.out ?_) | fail)
  generalize w.alloc (.cells y.cs.toArray 61) = z at *
  go_quiet (fail)
  go_wp2_with (fail)
  go_quiet (fail)
  go_wp2_with (fail)
  go_at_call 32; refine Calls.mono (HP.out.po _) ?_; rintro e y1 ⟨rfl, m1, rfl⟩
  go_wp2_with (fail)
  go_at_call 32; refine Calls.mono (HP.out.pt _) ?_; rintro e y2 ⟨rfl, m2, rfl⟩
  go_wp2_with (fail)
  go_at_call 32; refine Calls.mono (HP.out.pd _) ?_; rintro e y3 ⟨rfl, m3, rfl⟩
  go_wp2_with (fail)
  go_at_call 32; refine Calls.mono (HP.out.pa _) ?_; rintro e y4 ⟨rfl, m4, rfl⟩
  go_wp2_with (fail)
  go_at_call 32; refine Calls.mono (HP.out.pb _) ?_; rintro e y5 ⟨rfl, m5, rfl⟩
  go_wp2_with (fail)
  go_at_call 32; refine Calls.mono (HP.out.p0 _) ?_; rintro e y6 ⟨rfl, m6, rfl⟩
  go_wp2_with (fail)
  go_at_call 32; refine Calls.mono (HP.out.pi _) ?_; rintro e y7 ⟨rfl, m7, rfl⟩
  obtain ⟨y1, hy1⟩ : ∃ y1 : Dc, y1 = { y with c := { y.c with pl := y.c.pl + 1 } } := ⟨_, rfl⟩
  have HY1 := hideIt hy1
  have HO1 := hideIt (show y1.c.ok from by have := HY.out.2.1; rw [hy1]; exact ⟨this.rg, this.gt, this.rd, by show y.c.pl + 1 ≤ _; have := HY.out.2.2.2.2; omega, this.ba, this.an⟩)
  clear hy1
  go_upto_region 14 with (fail)
  refine abs_world (M := fun W9 => Mid W9 w w0 R col im mem l tr false 0 0 false n cv C cap tv w.heap.size y1) ((HM1.out _ (Q.drewN (Q.refl _) _)).box (y' := y1) (j := 0) (by rw [HY1.out]; exact Dc.setPl y (y.c.pl + 1)) HO1.out) ?_
  intro z2 hm2
  have HM2 := hideIt hm2
  clear hm2
  have ea : y1.c.rg = y.c.rg := by rw [HY1.out]
  have ra := HM2.out.cell (Dc.rgAt HO1.out (by rw [ea]; exact HX.out.1))
  have rb := HM2.out.cell (Dc.rgAt HO1.out (by rw [ea]; exact HX.out.2))
  have ia : (a : Int) < 8 := by omega
  have ib : (b : Int) < 8 := by omega
  have id' : (d : Int) < 8 := by omega
  clear c5 hwc r0 b0 g0 z1 zk z3 p1 p2 hpi p3 p4 p5 p6 HM1 HP HL HS ea
  have CT := hideIt (show ∀ X, Q z2 X → Calls Try.prog 31 #[.pointer (some ⟨R, 0, none⟩), .int .i64 (5)] X fun e w' => e = .returned (.tuple #[]) ∧ DX w' w0 R col im mem l tr false 0 (5) false n cv (.slice (some ⟨C, 0, none⟩) l.length cap) tv ∧ Ex col w col w' from fun X qX => (trap_any (HM2.out.keep qX).dx (5) (by omega) (by omega)).mono (fun e w' => fun ⟨h1, h2, h3⟩ => ⟨h1, h2, (HM2.out.keep qX).ex.trans h3⟩))
  obtain ⟨ca9, cc9, ecv, -, -⟩ := own_form HM2.out.dx.mo
  have rm4 : z2.cell? ⟨R, 4, none⟩ = some (.slice ca9 mem.length cc9) := by rw [← ecv]; exact HM2.out.dx.c0.2.2.2.2.1
  have q1 : decide (xa < 0) = false := by simpa using hn0
  have q2 : decide ((mem.length : Int) ≤ xa) = true := by simpa using hng
  clear hn0 hng ecv
  go_wp2_with (first |  (go_at_call 31; refine Calls.mono (CT.out _ (by first | exact Q.refl _ | exact HQ9.out | exact Q.drewN (Q.refl _) _ | exact Q.drewN HQ9.out _ | assumption)) ?_; rintro e y8 ⟨rfl, t8⟩; have HT8 := hideIt t8; clear t8) | fail)
  refine bodyPost_ret (v := .tuple #[]) (results_none rfl _ _ _) rfl ?_
  exact ⟨rfl, _, HT8.out⟩
set_option maxRecDepth 100000 in
set_option maxHeartbeats 4000000 in
theorem tp_31n (h : DX w w0 R col im mem l tr false 0 0 false n cv kv tv) (hal : allok l) (hok : im.ok w0) (hlw : im.ws.length ≤ 240000) (hk : k + 1 = l.length) (hkm : k < 2000) (hy : l[k]? = some y) (hv : im.ws[y.c.pl]? = some v) (P : Pts v 31 tt d a b i) (ht0 : 0 ≤ tt) (ht5 : tt ≤ 5) (hd8 : d < 8) (ha8 : a < 8) (hb8 : b < 8) (hi0 : 0 ≤ i) (hi1 : i ≤ 4294967295) (hxa : y.c.rg[a]? = some xa) (hxb : y.c.rg[b]? = some xb) (hn0 : xa < 0) :
    Calls Try.prog 19 #[.pointer (some ⟨R, 0, none⟩)] w fun e w' => e = .returned (.tuple #[]) ∧ ∃ kv', DX w' w0 R col im mem l tr false 0 (5) false n cv kv' tv ∧ Ex col w col w' := by
  obtain ⟨C, cap, rfl, HL0, HS0, HM0⟩ := h.copy hal hy
  have c5 : w.cell? ⟨R, 5, none⟩ = some (.slice (some ⟨C, 0, none⟩) (k + 1) cap) := by rw [hk]; exact h.c0.2.2.2.2.2.1
  have HL := hideIt HL0
  have HS := hideIt HS0
  have hyo := hal y (List.mem_of_getElem? hy)
  have hpl := (List.getElem?_eq_some_iff.1 hv).1
  obtain ⟨wb, wo, ewa, hwc, -⟩ := Wds.at (hok.ws.keep (show Q w0 (w.alloc (.cells y.cs.toArray 61)) from HM0.dx.bel)) hv
  have r0 : (w.alloc (.cells y.cs.toArray 61)).cell? ⟨R, 0, none⟩ = some (.slice (some ⟨wb, wo, none⟩) im.ws.length im.wc) := by rw [← ewa]; exact HM0.dx.c0.1
  have b0 : (w.alloc (.cells y.cs.toArray 61)).cell? ⟨w.heap.size, 0, none⟩ = some (.int .i64 (y.c.pl : Int)) := HM0.cell (j := 0) rfl
  have g0 := HM0.fz 0
  have HY := hideIt (And.intro hy (And.intro hyo (And.intro hk (And.intro hal (And.intro hpl hlw)))))
  have HOK := hideIt hok
  have z1 : IntKind.i64.wrap ((k : Int) + 1 - 1) = (k : Int) := by rw [IntKind.wrap_i64]; omega
  have zk : IntKind.i64.wrap (k : Int) = (k : Int) := by rw [IntKind.wrap_i64]; omega
  have z3 : IntKind.i64.wrap ((y.c.pl : Int) + 1) = (y.c.pl : Int) + 1 := by rw [IntKind.wrap_i64]; omega
  have p1 : decide ((y.c.pl : Int) < 0) = false := by simp
  have p2 : decide ((im.ws.length : Int) ≤ (y.c.pl : Int)) = false := by simp; omega
  have hpi : (y.c.pl : Int) < (im.ws.length : Int) := by omega
  have HI := hideIt (And.intro hi0 (And.intro hi1 (And.intro ht0 ht5)))
  have p3 : decide (5 < tt) = false := by simp; omega
  have p4 : decide (7 < (d : Int)) = false := by simp; omega
  have p5 : decide (7 < (a : Int)) = false := by simp; omega
  have p6 : decide (7 < (b : Int)) = false := by simp; omega
  have HX := hideIt (And.intro hxa hxb)
  have HM1 : Hid (∀ X, Q (w.alloc (.cells y.cs.toArray 61)) X → Mid X w w0 R col im mem l tr false 0 0 false n cv C cap tv w.heap.size y) := fun X q => HM0.keep q
  have HP := hideIt P
  clear h hal hok hlw hk hkm hy hv P HL0 HS0 HM0 hyo hpl ewa hxa hxb hi0 hi1 ht0 ht5
  go_enter Try.func19, Try.ntmps19
  go_wp2_with (first | (refine wpList_load_run (by rfl) 61 _ (by rfl) _ (by rfl) _ HL.out ?_) | (refine wpList_store_run (by rfl) 61 _ _ (by rfl) _ _ (by rfl) (by rfl) _ HS.out ?_) | fail)
  generalize w.alloc (.cells y.cs.toArray 61) = z at *
  go_quiet (fail)
  go_wp2_with (fail)
  go_quiet (fail)
  go_wp2_with (fail)
  go_at_call 32; refine Calls.mono (HP.out.po _) ?_; rintro e y1 ⟨rfl, m1, rfl⟩
  go_wp2_with (fail)
  go_at_call 32; refine Calls.mono (HP.out.pt _) ?_; rintro e y2 ⟨rfl, m2, rfl⟩
  go_wp2_with (fail)
  go_at_call 32; refine Calls.mono (HP.out.pd _) ?_; rintro e y3 ⟨rfl, m3, rfl⟩
  go_wp2_with (fail)
  go_at_call 32; refine Calls.mono (HP.out.pa _) ?_; rintro e y4 ⟨rfl, m4, rfl⟩
  go_wp2_with (fail)
  go_at_call 32; refine Calls.mono (HP.out.pb _) ?_; rintro e y5 ⟨rfl, m5, rfl⟩
  go_wp2_with (fail)
  go_at_call 32; refine Calls.mono (HP.out.p0 _) ?_; rintro e y6 ⟨rfl, m6, rfl⟩
  go_wp2_with (fail)
  go_at_call 32; refine Calls.mono (HP.out.pi _) ?_; rintro e y7 ⟨rfl, m7, rfl⟩
  obtain ⟨y1, hy1⟩ : ∃ y1 : Dc, y1 = { y with c := { y.c with pl := y.c.pl + 1 } } := ⟨_, rfl⟩
  have HY1 := hideIt hy1
  have HO1 := hideIt (show y1.c.ok from by have := HY.out.2.1; rw [hy1]; exact ⟨this.rg, this.gt, this.rd, by show y.c.pl + 1 ≤ _; have := HY.out.2.2.2.2; omega, this.ba, this.an⟩)
  clear hy1
  go_upto_region 14 with (fail)
  refine abs_world (M := fun W9 => Mid W9 w w0 R col im mem l tr false 0 0 false n cv C cap tv w.heap.size y1) ((HM1.out _ (Q.drewN (Q.refl _) _)).box (y' := y1) (j := 0) (by rw [HY1.out]; exact Dc.setPl y (y.c.pl + 1)) HO1.out) ?_
  intro z2 hm2
  have HM2 := hideIt hm2
  clear hm2
  have ea : y1.c.rg = y.c.rg := by rw [HY1.out]
  have ra := HM2.out.cell (Dc.rgAt HO1.out (by rw [ea]; exact HX.out.1))
  have rb := HM2.out.cell (Dc.rgAt HO1.out (by rw [ea]; exact HX.out.2))
  have ia : (a : Int) < 8 := by omega
  have ib : (b : Int) < 8 := by omega
  have id' : (d : Int) < 8 := by omega
  clear c5 hwc r0 b0 g0 z1 zk z3 p1 p2 hpi p3 p4 p5 p6 HM1 HP HL HS ea
  have CT := hideIt (show ∀ X, Q z2 X → Calls Try.prog 31 #[.pointer (some ⟨R, 0, none⟩), .int .i64 (5)] X fun e w' => e = .returned (.tuple #[]) ∧ DX w' w0 R col im mem l tr false 0 (5) false n cv (.slice (some ⟨C, 0, none⟩) l.length cap) tv ∧ Ex col w col w' from fun X qX => (trap_any (HM2.out.keep qX).dx (5) (by omega) (by omega)).mono (fun e w' => fun ⟨h1, h2, h3⟩ => ⟨h1, h2, (HM2.out.keep qX).ex.trans h3⟩))
  have q1 : decide (xa < 0) = true := by simpa using hn0
  clear hn0
  go_wp2_with (first |  (go_at_call 31; refine Calls.mono (CT.out _ (by first | exact Q.refl _ | exact HQ9.out | exact Q.drewN (Q.refl _) _ | exact Q.drewN HQ9.out _ | assumption)) ?_; rintro e y8 ⟨rfl, t8⟩; have HT8 := hideIt t8; clear t8) | fail)
  refine bodyPost_ret (v := .tuple #[]) (results_none rfl _ _ _) rfl ?_
  exact ⟨rfl, _, HT8.out⟩
set_option maxRecDepth 100000 in
set_option maxHeartbeats 4000000 in
theorem tp_31g (h : DX w w0 R col im mem l tr false 0 0 false n cv kv tv) (hal : allok l) (hok : im.ok w0) (hlw : im.ws.length ≤ 240000) (hk : k + 1 = l.length) (hkm : k < 2000) (hy : l[k]? = some y) (hv : im.ws[y.c.pl]? = some v) (P : Pts v 31 tt d a b i) (ht0 : 0 ≤ tt) (ht5 : tt ≤ 5) (hd8 : d < 8) (ha8 : a < 8) (hb8 : b < 8) (hi0 : 0 ≤ i) (hi1 : i ≤ 4294967295) (hxa : y.c.rg[a]? = some xa) (hxb : y.c.rg[b]? = some xb) (hn0 : ¬ xa < 0) (hng : (mem.length : Int) ≤ xa) :
    Calls Try.prog 19 #[.pointer (some ⟨R, 0, none⟩)] w fun e w' => e = .returned (.tuple #[]) ∧ ∃ kv', DX w' w0 R col im mem l tr false 0 (5) false n cv kv' tv ∧ Ex col w col w' := by
  obtain ⟨C, cap, rfl, HL0, HS0, HM0⟩ := h.copy hal hy
  have c5 : w.cell? ⟨R, 5, none⟩ = some (.slice (some ⟨C, 0, none⟩) (k + 1) cap) := by rw [hk]; exact h.c0.2.2.2.2.2.1
  have HL := hideIt HL0
  have HS := hideIt HS0
  have hyo := hal y (List.mem_of_getElem? hy)
  have hpl := (List.getElem?_eq_some_iff.1 hv).1
  obtain ⟨wb, wo, ewa, hwc, -⟩ := Wds.at (hok.ws.keep (show Q w0 (w.alloc (.cells y.cs.toArray 61)) from HM0.dx.bel)) hv
  have r0 : (w.alloc (.cells y.cs.toArray 61)).cell? ⟨R, 0, none⟩ = some (.slice (some ⟨wb, wo, none⟩) im.ws.length im.wc) := by rw [← ewa]; exact HM0.dx.c0.1
  have b0 : (w.alloc (.cells y.cs.toArray 61)).cell? ⟨w.heap.size, 0, none⟩ = some (.int .i64 (y.c.pl : Int)) := HM0.cell (j := 0) rfl
  have g0 := HM0.fz 0
  have HY := hideIt (And.intro hy (And.intro hyo (And.intro hk (And.intro hal (And.intro hpl hlw)))))
  have HOK := hideIt hok
  have z1 : IntKind.i64.wrap ((k : Int) + 1 - 1) = (k : Int) := by rw [IntKind.wrap_i64]; omega
  have zk : IntKind.i64.wrap (k : Int) = (k : Int) := by rw [IntKind.wrap_i64]; omega
  have z3 : IntKind.i64.wrap ((y.c.pl : Int) + 1) = (y.c.pl : Int) + 1 := by rw [IntKind.wrap_i64]; omega
  have p1 : decide ((y.c.pl : Int) < 0) = false := by simp
  have p2 : decide ((im.ws.length : Int) ≤ (y.c.pl : Int)) = false := by simp; omega
  have hpi : (y.c.pl : Int) < (im.ws.length : Int) := by omega
  have HI := hideIt (And.intro hi0 (And.intro hi1 (And.intro ht0 ht5)))
  have p3 : decide (5 < tt) = false := by simp; omega
  have p4 : decide (7 < (d : Int)) = false := by simp; omega
  have p5 : decide (7 < (a : Int)) = false := by simp; omega
  have p6 : decide (7 < (b : Int)) = false := by simp; omega
  have HX := hideIt (And.intro hxa hxb)
  have HM1 : Hid (∀ X, Q (w.alloc (.cells y.cs.toArray 61)) X → Mid X w w0 R col im mem l tr false 0 0 false n cv C cap tv w.heap.size y) := fun X q => HM0.keep q
  have HP := hideIt P
  clear h hal hok hlw hk hkm hy hv P HL0 HS0 HM0 hyo hpl ewa hxa hxb hi0 hi1 ht0 ht5
  go_enter Try.func19, Try.ntmps19
  go_wp2_with (first | (refine wpList_load_run (by rfl) 61 _ (by rfl) _ (by rfl) _ HL.out ?_) | (refine wpList_store_run (by rfl) 61 _ _ (by rfl) _ _ (by rfl) (by rfl) _ HS.out ?_) | fail)
  generalize w.alloc (.cells y.cs.toArray 61) = z at *
  go_quiet (fail)
  go_wp2_with (fail)
  go_quiet (fail)
  go_wp2_with (fail)
  go_at_call 32; refine Calls.mono (HP.out.po _) ?_; rintro e y1 ⟨rfl, m1, rfl⟩
  go_wp2_with (fail)
  go_at_call 32; refine Calls.mono (HP.out.pt _) ?_; rintro e y2 ⟨rfl, m2, rfl⟩
  go_wp2_with (fail)
  go_at_call 32; refine Calls.mono (HP.out.pd _) ?_; rintro e y3 ⟨rfl, m3, rfl⟩
  go_wp2_with (fail)
  go_at_call 32; refine Calls.mono (HP.out.pa _) ?_; rintro e y4 ⟨rfl, m4, rfl⟩
  go_wp2_with (fail)
  go_at_call 32; refine Calls.mono (HP.out.pb _) ?_; rintro e y5 ⟨rfl, m5, rfl⟩
  go_wp2_with (fail)
  go_at_call 32; refine Calls.mono (HP.out.p0 _) ?_; rintro e y6 ⟨rfl, m6, rfl⟩
  go_wp2_with (fail)
  go_at_call 32; refine Calls.mono (HP.out.pi _) ?_; rintro e y7 ⟨rfl, m7, rfl⟩
  obtain ⟨y1, hy1⟩ : ∃ y1 : Dc, y1 = { y with c := { y.c with pl := y.c.pl + 1 } } := ⟨_, rfl⟩
  have HY1 := hideIt hy1
  have HO1 := hideIt (show y1.c.ok from by have := HY.out.2.1; rw [hy1]; exact ⟨this.rg, this.gt, this.rd, by show y.c.pl + 1 ≤ _; have := HY.out.2.2.2.2; omega, this.ba, this.an⟩)
  clear hy1
  go_upto_region 14 with (fail)
  refine abs_world (M := fun W9 => Mid W9 w w0 R col im mem l tr false 0 0 false n cv C cap tv w.heap.size y1) ((HM1.out _ (Q.drewN (Q.refl _) _)).box (y' := y1) (j := 0) (by rw [HY1.out]; exact Dc.setPl y (y.c.pl + 1)) HO1.out) ?_
  intro z2 hm2
  have HM2 := hideIt hm2
  clear hm2
  have ea : y1.c.rg = y.c.rg := by rw [HY1.out]
  have ra := HM2.out.cell (Dc.rgAt HO1.out (by rw [ea]; exact HX.out.1))
  have rb := HM2.out.cell (Dc.rgAt HO1.out (by rw [ea]; exact HX.out.2))
  have ia : (a : Int) < 8 := by omega
  have ib : (b : Int) < 8 := by omega
  have id' : (d : Int) < 8 := by omega
  clear c5 hwc r0 b0 g0 z1 zk z3 p1 p2 hpi p3 p4 p5 p6 HM1 HP HL HS ea
  have CT := hideIt (show ∀ X, Q z2 X → Calls Try.prog 31 #[.pointer (some ⟨R, 0, none⟩), .int .i64 (5)] X fun e w' => e = .returned (.tuple #[]) ∧ DX w' w0 R col im mem l tr false 0 (5) false n cv (.slice (some ⟨C, 0, none⟩) l.length cap) tv ∧ Ex col w col w' from fun X qX => (trap_any (HM2.out.keep qX).dx (5) (by omega) (by omega)).mono (fun e w' => fun ⟨h1, h2, h3⟩ => ⟨h1, h2, (HM2.out.keep qX).ex.trans h3⟩))
  obtain ⟨ca9, cc9, ecv, -, -⟩ := own_form HM2.out.dx.mo
  have rm4 : z2.cell? ⟨R, 4, none⟩ = some (.slice ca9 mem.length cc9) := by rw [← ecv]; exact HM2.out.dx.c0.2.2.2.2.1
  have q1 : decide (xa < 0) = false := by simpa using hn0
  have q2 : decide ((mem.length : Int) ≤ xa) = true := by simpa using hng
  clear hn0 hng ecv
  go_wp2_with (first |  (go_at_call 31; refine Calls.mono (CT.out _ (by first | exact Q.refl _ | exact HQ9.out | exact Q.drewN (Q.refl _) _ | exact Q.drewN HQ9.out _ | assumption)) ?_; rintro e y8 ⟨rfl, t8⟩; have HT8 := hideIt t8; clear t8) | fail)
  refine bodyPost_ret (v := .tuple #[]) (results_none rfl _ _ _) rfl ?_
  exact ⟨rfl, _, HT8.out⟩
set_option maxRecDepth 100000 in
set_option maxHeartbeats 4000000 in
theorem tp_38g (h : DX w w0 R col im mem l tr false 0 0 false n cv kv tv) (hal : allok l) (hok : im.ok w0) (hlw : im.ws.length ≤ 240000) (hk : k + 1 = l.length) (hkm : k < 2000) (hy : l[k]? = some y) (hv : im.ws[y.c.pl]? = some v) (P : Pts v 38 tt d a b i) (ht0 : 0 ≤ tt) (ht5 : tt ≤ 5) (hd8 : d < 8) (ha8 : a < 8) (hb8 : b < 8) (hi0 : 0 ≤ i) (hi1 : i ≤ 4294967295) (hxa : y.c.rg[a]? = some xa) (hxb : y.c.rg[b]? = some xb) (hng : (mem.length : Int) ≤ (y.c.ba : Int) + i) :
    Calls Try.prog 19 #[.pointer (some ⟨R, 0, none⟩)] w fun e w' => e = .returned (.tuple #[]) ∧ ∃ kv', DX w' w0 R col im mem l tr false 0 (5) false n cv kv' tv ∧ Ex col w col w' := by
  obtain ⟨C, cap, rfl, HL0, HS0, HM0⟩ := h.copy hal hy
  have c5 : w.cell? ⟨R, 5, none⟩ = some (.slice (some ⟨C, 0, none⟩) (k + 1) cap) := by rw [hk]; exact h.c0.2.2.2.2.2.1
  have HL := hideIt HL0
  have HS := hideIt HS0
  have hyo := hal y (List.mem_of_getElem? hy)
  have hpl := (List.getElem?_eq_some_iff.1 hv).1
  obtain ⟨wb, wo, ewa, hwc, -⟩ := Wds.at (hok.ws.keep (show Q w0 (w.alloc (.cells y.cs.toArray 61)) from HM0.dx.bel)) hv
  have r0 : (w.alloc (.cells y.cs.toArray 61)).cell? ⟨R, 0, none⟩ = some (.slice (some ⟨wb, wo, none⟩) im.ws.length im.wc) := by rw [← ewa]; exact HM0.dx.c0.1
  have b0 : (w.alloc (.cells y.cs.toArray 61)).cell? ⟨w.heap.size, 0, none⟩ = some (.int .i64 (y.c.pl : Int)) := HM0.cell (j := 0) rfl
  have g0 := HM0.fz 0
  have HY := hideIt (And.intro hy (And.intro hyo (And.intro hk (And.intro hal (And.intro hpl hlw)))))
  have HOK := hideIt hok
  have z1 : IntKind.i64.wrap ((k : Int) + 1 - 1) = (k : Int) := by rw [IntKind.wrap_i64]; omega
  have zk : IntKind.i64.wrap (k : Int) = (k : Int) := by rw [IntKind.wrap_i64]; omega
  have z3 : IntKind.i64.wrap ((y.c.pl : Int) + 1) = (y.c.pl : Int) + 1 := by rw [IntKind.wrap_i64]; omega
  have p1 : decide ((y.c.pl : Int) < 0) = false := by simp
  have p2 : decide ((im.ws.length : Int) ≤ (y.c.pl : Int)) = false := by simp; omega
  have hpi : (y.c.pl : Int) < (im.ws.length : Int) := by omega
  have HI := hideIt (And.intro hi0 (And.intro hi1 (And.intro ht0 ht5)))
  have p3 : decide (5 < tt) = false := by simp; omega
  have p4 : decide (7 < (d : Int)) = false := by simp; omega
  have p5 : decide (7 < (a : Int)) = false := by simp; omega
  have p6 : decide (7 < (b : Int)) = false := by simp; omega
  have HX := hideIt (And.intro hxa hxb)
  have HM1 : Hid (∀ X, Q (w.alloc (.cells y.cs.toArray 61)) X → Mid X w w0 R col im mem l tr false 0 0 false n cv C cap tv w.heap.size y) := fun X q => HM0.keep q
  have HP := hideIt P
  clear h hal hok hlw hk hkm hy hv P HL0 HS0 HM0 hyo hpl ewa hxa hxb hi0 hi1 ht0 ht5
  go_enter Try.func19, Try.ntmps19
  go_wp2_with (first | (refine wpList_load_run (by rfl) 61 _ (by rfl) _ (by rfl) _ HL.out ?_) | (refine wpList_store_run (by rfl) 61 _ _ (by rfl) _ _ (by rfl) (by rfl) _ HS.out ?_) | fail)
  generalize w.alloc (.cells y.cs.toArray 61) = z at *
  go_quiet (fail)
  go_wp2_with (fail)
  go_quiet (fail)
  go_wp2_with (fail)
  go_at_call 32; refine Calls.mono (HP.out.po _) ?_; rintro e y1 ⟨rfl, m1, rfl⟩
  go_wp2_with (fail)
  go_at_call 32; refine Calls.mono (HP.out.pt _) ?_; rintro e y2 ⟨rfl, m2, rfl⟩
  go_wp2_with (fail)
  go_at_call 32; refine Calls.mono (HP.out.pd _) ?_; rintro e y3 ⟨rfl, m3, rfl⟩
  go_wp2_with (fail)
  go_at_call 32; refine Calls.mono (HP.out.pa _) ?_; rintro e y4 ⟨rfl, m4, rfl⟩
  go_wp2_with (fail)
  go_at_call 32; refine Calls.mono (HP.out.pb _) ?_; rintro e y5 ⟨rfl, m5, rfl⟩
  go_wp2_with (fail)
  go_at_call 32; refine Calls.mono (HP.out.p0 _) ?_; rintro e y6 ⟨rfl, m6, rfl⟩
  go_wp2_with (fail)
  go_at_call 32; refine Calls.mono (HP.out.pi _) ?_; rintro e y7 ⟨rfl, m7, rfl⟩
  obtain ⟨y1, hy1⟩ : ∃ y1 : Dc, y1 = { y with c := { y.c with pl := y.c.pl + 1 } } := ⟨_, rfl⟩
  have HY1 := hideIt hy1
  have HO1 := hideIt (show y1.c.ok from by have := HY.out.2.1; rw [hy1]; exact ⟨this.rg, this.gt, this.rd, by show y.c.pl + 1 ≤ _; have := HY.out.2.2.2.2; omega, this.ba, this.an⟩)
  clear hy1
  go_upto_region 14 with (fail)
  refine abs_world (M := fun W9 => Mid W9 w w0 R col im mem l tr false 0 0 false n cv C cap tv w.heap.size y1) ((HM1.out _ (Q.drewN (Q.refl _) _)).box (y' := y1) (j := 0) (by rw [HY1.out]; exact Dc.setPl y (y.c.pl + 1)) HO1.out) ?_
  intro z2 hm2
  have HM2 := hideIt hm2
  clear hm2
  have ea : y1.c.rg = y.c.rg := by rw [HY1.out]
  have ra := HM2.out.cell (Dc.rgAt HO1.out (by rw [ea]; exact HX.out.1))
  have rb := HM2.out.cell (Dc.rgAt HO1.out (by rw [ea]; exact HX.out.2))
  have ia : (a : Int) < 8 := by omega
  have ib : (b : Int) < 8 := by omega
  have id' : (d : Int) < 8 := by omega
  clear c5 hwc r0 b0 g0 z1 zk z3 p1 p2 hpi p3 p4 p5 p6 HM1 HP HL HS ea
  have CT := hideIt (show ∀ X, Q z2 X → Calls Try.prog 31 #[.pointer (some ⟨R, 0, none⟩), .int .i64 (5)] X fun e w' => e = .returned (.tuple #[]) ∧ DX w' w0 R col im mem l tr false 0 (5) false n cv (.slice (some ⟨C, 0, none⟩) l.length cap) tv ∧ Ex col w col w' from fun X qX => (trap_any (HM2.out.keep qX).dx (5) (by omega) (by omega)).mono (fun e w' => fun ⟨h1, h2, h3⟩ => ⟨h1, h2, (HM2.out.keep qX).ex.trans h3⟩))
  obtain ⟨ca9, cc9, ecv, -, -⟩ := own_form HM2.out.dx.mo
  have rm4 : z2.cell? ⟨R, 4, none⟩ = some (.slice ca9 mem.length cc9) := by rw [← ecv]; exact HM2.out.dx.c0.2.2.2.2.1
  have rb1 : z2.cell? ⟨w.heap.size, 1, none⟩ = some (.int .i64 (y.c.ba : Int)) := HM2.out.cell (j := 1) (by rw [HY1.out]; rfl)
  have hba := HY.out.2.1.ba
  have zb : IntKind.i64.wrap ((y.c.ba : Int) + i) = (y.c.ba : Int) + i := by have := HI.out; rw [IntKind.wrap_i64]; omega
  have q1 : decide ((y.c.ba : Int) + i < 0) = false := by have := HI.out; simp; omega
  have q2 : decide ((mem.length : Int) ≤ (y.c.ba : Int) + i) = true := by simpa using hng
  clear hng ecv
  go_wp2_with (first |  (go_at_call 31; refine Calls.mono (CT.out _ (by first | exact Q.refl _ | exact HQ9.out | exact Q.drewN (Q.refl _) _ | exact Q.drewN HQ9.out _ | assumption)) ?_; rintro e y8 ⟨rfl, t8⟩; have HT8 := hideIt t8; clear t8) | fail)
  refine bodyPost_ret (v := .tuple #[]) (results_none rfl _ _ _) rfl ?_
  exact ⟨rfl, _, HT8.out⟩
set_option maxRecDepth 100000 in
set_option maxHeartbeats 4000000 in
theorem tp_39g (h : DX w w0 R col im mem l tr false 0 0 false n cv kv tv) (hal : allok l) (hok : im.ok w0) (hlw : im.ws.length ≤ 240000) (hk : k + 1 = l.length) (hkm : k < 2000) (hy : l[k]? = some y) (hv : im.ws[y.c.pl]? = some v) (P : Pts v 39 tt d a b i) (ht0 : 0 ≤ tt) (ht5 : tt ≤ 5) (hd8 : d < 8) (ha8 : a < 8) (hb8 : b < 8) (hi0 : 0 ≤ i) (hi1 : i ≤ 4294967295) (hxa : y.c.rg[a]? = some xa) (hxb : y.c.rg[b]? = some xb) (hng : (mem.length : Int) ≤ (y.c.ba : Int) + i) :
    Calls Try.prog 19 #[.pointer (some ⟨R, 0, none⟩)] w fun e w' => e = .returned (.tuple #[]) ∧ ∃ kv', DX w' w0 R col im mem l tr false 0 (5) false n cv kv' tv ∧ Ex col w col w' := by
  obtain ⟨C, cap, rfl, HL0, HS0, HM0⟩ := h.copy hal hy
  have c5 : w.cell? ⟨R, 5, none⟩ = some (.slice (some ⟨C, 0, none⟩) (k + 1) cap) := by rw [hk]; exact h.c0.2.2.2.2.2.1
  have HL := hideIt HL0
  have HS := hideIt HS0
  have hyo := hal y (List.mem_of_getElem? hy)
  have hpl := (List.getElem?_eq_some_iff.1 hv).1
  obtain ⟨wb, wo, ewa, hwc, -⟩ := Wds.at (hok.ws.keep (show Q w0 (w.alloc (.cells y.cs.toArray 61)) from HM0.dx.bel)) hv
  have r0 : (w.alloc (.cells y.cs.toArray 61)).cell? ⟨R, 0, none⟩ = some (.slice (some ⟨wb, wo, none⟩) im.ws.length im.wc) := by rw [← ewa]; exact HM0.dx.c0.1
  have b0 : (w.alloc (.cells y.cs.toArray 61)).cell? ⟨w.heap.size, 0, none⟩ = some (.int .i64 (y.c.pl : Int)) := HM0.cell (j := 0) rfl
  have g0 := HM0.fz 0
  have HY := hideIt (And.intro hy (And.intro hyo (And.intro hk (And.intro hal (And.intro hpl hlw)))))
  have HOK := hideIt hok
  have z1 : IntKind.i64.wrap ((k : Int) + 1 - 1) = (k : Int) := by rw [IntKind.wrap_i64]; omega
  have zk : IntKind.i64.wrap (k : Int) = (k : Int) := by rw [IntKind.wrap_i64]; omega
  have z3 : IntKind.i64.wrap ((y.c.pl : Int) + 1) = (y.c.pl : Int) + 1 := by rw [IntKind.wrap_i64]; omega
  have p1 : decide ((y.c.pl : Int) < 0) = false := by simp
  have p2 : decide ((im.ws.length : Int) ≤ (y.c.pl : Int)) = false := by simp; omega
  have hpi : (y.c.pl : Int) < (im.ws.length : Int) := by omega
  have HI := hideIt (And.intro hi0 (And.intro hi1 (And.intro ht0 ht5)))
  have p3 : decide (5 < tt) = false := by simp; omega
  have p4 : decide (7 < (d : Int)) = false := by simp; omega
  have p5 : decide (7 < (a : Int)) = false := by simp; omega
  have p6 : decide (7 < (b : Int)) = false := by simp; omega
  have HX := hideIt (And.intro hxa hxb)
  have HM1 : Hid (∀ X, Q (w.alloc (.cells y.cs.toArray 61)) X → Mid X w w0 R col im mem l tr false 0 0 false n cv C cap tv w.heap.size y) := fun X q => HM0.keep q
  have HP := hideIt P
  clear h hal hok hlw hk hkm hy hv P HL0 HS0 HM0 hyo hpl ewa hxa hxb hi0 hi1 ht0 ht5
  go_enter Try.func19, Try.ntmps19
  go_wp2_with (first | (refine wpList_load_run (by rfl) 61 _ (by rfl) _ (by rfl) _ HL.out ?_) | (refine wpList_store_run (by rfl) 61 _ _ (by rfl) _ _ (by rfl) (by rfl) _ HS.out ?_) | fail)
  generalize w.alloc (.cells y.cs.toArray 61) = z at *
  go_quiet (fail)
  go_wp2_with (fail)
  go_quiet (fail)
  go_wp2_with (fail)
  go_at_call 32; refine Calls.mono (HP.out.po _) ?_; rintro e y1 ⟨rfl, m1, rfl⟩
  go_wp2_with (fail)
  go_at_call 32; refine Calls.mono (HP.out.pt _) ?_; rintro e y2 ⟨rfl, m2, rfl⟩
  go_wp2_with (fail)
  go_at_call 32; refine Calls.mono (HP.out.pd _) ?_; rintro e y3 ⟨rfl, m3, rfl⟩
  go_wp2_with (fail)
  go_at_call 32; refine Calls.mono (HP.out.pa _) ?_; rintro e y4 ⟨rfl, m4, rfl⟩
  go_wp2_with (fail)
  go_at_call 32; refine Calls.mono (HP.out.pb _) ?_; rintro e y5 ⟨rfl, m5, rfl⟩
  go_wp2_with (fail)
  go_at_call 32; refine Calls.mono (HP.out.p0 _) ?_; rintro e y6 ⟨rfl, m6, rfl⟩
  go_wp2_with (fail)
  go_at_call 32; refine Calls.mono (HP.out.pi _) ?_; rintro e y7 ⟨rfl, m7, rfl⟩
  obtain ⟨y1, hy1⟩ : ∃ y1 : Dc, y1 = { y with c := { y.c with pl := y.c.pl + 1 } } := ⟨_, rfl⟩
  have HY1 := hideIt hy1
  have HO1 := hideIt (show y1.c.ok from by have := HY.out.2.1; rw [hy1]; exact ⟨this.rg, this.gt, this.rd, by show y.c.pl + 1 ≤ _; have := HY.out.2.2.2.2; omega, this.ba, this.an⟩)
  clear hy1
  go_upto_region 14 with (fail)
  refine abs_world (M := fun W9 => Mid W9 w w0 R col im mem l tr false 0 0 false n cv C cap tv w.heap.size y1) ((HM1.out _ (Q.drewN (Q.refl _) _)).box (y' := y1) (j := 0) (by rw [HY1.out]; exact Dc.setPl y (y.c.pl + 1)) HO1.out) ?_
  intro z2 hm2
  have HM2 := hideIt hm2
  clear hm2
  have ea : y1.c.rg = y.c.rg := by rw [HY1.out]
  have ra := HM2.out.cell (Dc.rgAt HO1.out (by rw [ea]; exact HX.out.1))
  have rb := HM2.out.cell (Dc.rgAt HO1.out (by rw [ea]; exact HX.out.2))
  have ia : (a : Int) < 8 := by omega
  have ib : (b : Int) < 8 := by omega
  have id' : (d : Int) < 8 := by omega
  clear c5 hwc r0 b0 g0 z1 zk z3 p1 p2 hpi p3 p4 p5 p6 HM1 HP HL HS ea
  have CT := hideIt (show ∀ X, Q z2 X → Calls Try.prog 31 #[.pointer (some ⟨R, 0, none⟩), .int .i64 (5)] X fun e w' => e = .returned (.tuple #[]) ∧ DX w' w0 R col im mem l tr false 0 (5) false n cv (.slice (some ⟨C, 0, none⟩) l.length cap) tv ∧ Ex col w col w' from fun X qX => (trap_any (HM2.out.keep qX).dx (5) (by omega) (by omega)).mono (fun e w' => fun ⟨h1, h2, h3⟩ => ⟨h1, h2, (HM2.out.keep qX).ex.trans h3⟩))
  obtain ⟨ca9, cc9, ecv, -, -⟩ := own_form HM2.out.dx.mo
  have rm4 : z2.cell? ⟨R, 4, none⟩ = some (.slice ca9 mem.length cc9) := by rw [← ecv]; exact HM2.out.dx.c0.2.2.2.2.1
  have rb1 : z2.cell? ⟨w.heap.size, 1, none⟩ = some (.int .i64 (y.c.ba : Int)) := HM2.out.cell (j := 1) (by rw [HY1.out]; rfl)
  have hba := HY.out.2.1.ba
  have zb : IntKind.i64.wrap ((y.c.ba : Int) + i) = (y.c.ba : Int) + i := by have := HI.out; rw [IntKind.wrap_i64]; omega
  have q1 : decide ((y.c.ba : Int) + i < 0) = false := by have := HI.out; simp; omega
  have q2 : decide ((mem.length : Int) ≤ (y.c.ba : Int) + i) = true := by simpa using hng
  clear hng ecv
  go_wp2_with (first |  (go_at_call 31; refine Calls.mono (CT.out _ (by first | exact Q.refl _ | exact HQ9.out | exact Q.drewN (Q.refl _) _ | exact Q.drewN HQ9.out _ | assumption)) ?_; rintro e y8 ⟨rfl, t8⟩; have HT8 := hideIt t8; clear t8) | fail)
  refine bodyPost_ret (v := .tuple #[]) (results_none rfl _ _ _) rfl ?_
  exact ⟨rfl, _, HT8.out⟩
end
end Da
end Go.Proofs.Ytnlgkiejppgfjaa
