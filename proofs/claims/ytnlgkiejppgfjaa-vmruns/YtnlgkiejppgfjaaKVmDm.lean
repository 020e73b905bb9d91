/-
  The document's machine (burinref25): a step: a call, what is printed: contracts over the program; the conditions: the machine lies there, its word is in the program.
-/
import Derived.Test.YtnlgkiejppgfjaaKVmDh
import Derived.Deep.DeepCutAuto
namespace Go.Proofs.Ytnlgkiejppgfjaa
open Go.RowKit Go.Deep
set_option linter.unusedVariables false

namespace Da
section
variable {w w' w0 : World} {R : Nat} {col col' : Col} {im : PIm} {mem : List Int} {l : List Dc} {tr : List Int} {n : Nat} {cv kv tv : Value} {k : Nat} {y : Dc} {v tt : Int} {d a b : Nat} {i xa xb o : Int}
theorem ex_self {c0 c1 : Col} {a b : World} (h : Ex c0 a c1 b) : Ex c1 a c1 b := ⟨h.os, h.tape, h.output, h.size, fun k hk e => h.block k hk ((h.col k hk).symm.trans e), fun _ _ => rfl⟩
theorem ex_back {c0 c1 : Col} {a b d : World} (h : Ex c0 a c1 b) (f : Ex c1 a c1 d) : Ex c0 a c1 d := ⟨f.os, f.tape, f.output, f.size, fun k hk e => f.block k hk ((h.col k hk).trans e), h.col⟩
set_option maxRecDepth 100000 in
set_option maxHeartbeats 4000000 in
theorem st_34 (h : DX w w0 R col im mem l tr false 0 0 false n cv kv tv) (hal : allok l) (hok : im.ok w0) (hlw : im.ws.length ≤ 240000) (hk : k + 1 = l.length) (hkm : k < 2000) (hy : l[k]? = some y) (hv : im.ws[y.c.pl]? = some v) (P : Pts v 34 tt d a b i) (ht0 : 0 ≤ tt) (ht5 : tt ≤ 5) (hd8 : d < 8) (ha8 : a < 8) (hb8 : b < 8) (hi0 : 0 ≤ i) (hi1 : i ≤ 4294967295) (hxa : y.c.rg[a]? = some xa) (hxb : y.c.rg[b]? = some xb) (htn : tr.length ≤ n) (hnn : n ≤ 8388608) :
    Calls Try.prog 19 #[.pointer (some ⟨R, 0, none⟩)] w fun e w' => e = .returned (.tuple #[]) ∧ ∃ col' cv' kv' tv', DX w' w0 R col' im mem (l.set k { y with c := { y.c with pl := y.c.pl + 1 } }) (tr ++ [xa]) false 0 0 false n cv' kv' tv' ∧ Ex col w col' w' := by
  obtain ⟨C, cap, rfl, HL0, HS0, HM0⟩ := h.copy hal hy
  have c5 : w.cell? ⟨R, 5, none⟩ = some (.slice (some ⟨C, 0, none⟩) (k + 1) cap) := by rw [hk]; exact h.c0.2.2.2.2.2.1
  have HL := hideIt HL0
  have HS := hideIt HS0
  have hyo := hal y (List.mem_of_getElem? hy)
  have hpl := (List.getElem?_eq_some_iff.1 hv).1
  obtain ⟨wb, wo, ewa, hwc, -⟩ := Wds.at (hok.ws.keep (show Q w0 (w.alloc (.cells y.cs.toArray 61)) from HM0.dx.bel)) hv
  have r0 : (w.alloc (.cells y.cs.toArray 61)).cell? ⟨R, 0, none⟩ = some (.slice (some ⟨wb, wo, none⟩) im.ws.length im.wc) := by rw [← ewa]; exact HM0.dx.c0.1
  have b0 : (w.alloc (.cells y.cs.toArray 61)).cell? ⟨w.heap.size, 0, none⟩ = some (.int .i64 (y.c.pl : Int)) := HM0.cell (j := 0) rfl
  have g0 := HM0.fz 0
  have HY := hideIt (And.intro hy (And.intro hyo (And.intro hk (And.intro hal (And.intro hpl hlw)))))
  have HOK := hideIt hok
  have z1 : IntKind.i64.wrap ((k : Int) + 1 - 1) = (k : Int) := by rw [IntKind.wrap_i64]; omega
  have zk : IntKind.i64.wrap (k : Int) = (k : Int) := by rw [IntKind.wrap_i64]; omega
  have z3 : IntKind.i64.wrap ((y.c.pl : Int) + 1) = (y.c.pl : Int) + 1 := by rw [IntKind.wrap_i64]; omega
  have p1 : decide ((y.c.pl : Int) < 0) = false := by simp
  have p2 : decide ((im.ws.length : Int) ≤ (y.c.pl : Int)) = false := by simp; omega
  have hpi : (y.c.pl : Int) < (im.ws.length : Int) := by omega
  have HI := hideIt (And.intro hi0 (And.intro hi1 (And.intro ht0 ht5)))
  have p3 : decide (5 < tt) = false := by simp; omega
  have p4 : decide (7 < (d : Int)) = false := by simp; omega
  have p5 : decide (7 < (a : Int)) = false := by simp; omega
  have p6 : decide (7 < (b : Int)) = false := by simp; omega
  have HX := hideIt (And.intro hxa hxb)
  have HM1 : Hid (∀ X, Q (w.alloc (.cells y.cs.toArray 61)) X → Mid X w w0 R col im mem l tr false 0 0 false n cv C cap tv w.heap.size y) := fun X q => HM0.keep q
  have HP := hideIt P
  clear h hal hok hlw hk hkm hy hv P HL0 HS0 HM0 hyo hpl ewa hxa hxb hi0 hi1 ht0 ht5
  go_enter Try.func19, Try.ntmps19
  go_wp2_with (first | (refine wpList_load_run (by rfl) 61 _ (by rfl) _ (by rfl) _ HL.out ?_) | (refine wpList_store_run (by rfl) 61 _ _ (by rfl) _ _ (by rfl) (by rfl) _ HS.out ?_) | fail)
  generalize w.alloc (.cells y.cs.toArray 61) = z at *
  go_quiet (fail)
  go_wp2_with (fail)
  go_quiet (fail)
  go_wp2_with (fail)
  go_at_call 32; refine Calls.mono (HP.out.po _) ?_; rintro e y1 ⟨rfl, m1, rfl⟩
  go_wp2_with (fail)
  go_at_call 32; refine Calls.mono (HP.out.pt _) ?_; rintro e y2 ⟨rfl, m2, rfl⟩
  go_wp2_with (fail)
  go_at_call 32; refine Calls.mono (HP.out.pd _) ?_; rintro e y3 ⟨rfl, m3, rfl⟩
  go_wp2_with (fail)
  go_at_call 32; refine Calls.mono (HP.out.pa _) ?_; rintro e y4 ⟨rfl, m4, rfl⟩
  go_wp2_with (fail)
  go_at_call 32; refine Calls.mono (HP.out.pb _) ?_; rintro e y5 ⟨rfl, m5, rfl⟩
  go_wp2_with (fail)
  go_at_call 32; refine Calls.mono (HP.out.p0 _) ?_; rintro e y6 ⟨rfl, m6, rfl⟩
  go_wp2_with (fail)
  go_at_call 32; refine Calls.mono (HP.out.pi _) ?_; rintro e y7 ⟨rfl, m7, rfl⟩
  obtain ⟨y1, hy1⟩ : ∃ y1 : Dc, y1 = { y with c := { y.c with pl := y.c.pl + 1 } } := ⟨_, rfl⟩
  have HY1 := hideIt hy1
  have HO1 := hideIt (show y1.c.ok from by have := HY.out.2.1; rw [hy1]; exact ⟨this.rg, this.gt, this.rd, by show y.c.pl + 1 ≤ _; have := HY.out.2.2.2.2; omega, this.ba, this.an⟩)
  clear hy1
  go_upto_region 14 with (fail)
  refine abs_world (M := fun W9 => Mid W9 w w0 R col im mem l tr false 0 0 false n cv C cap tv w.heap.size y1) ((HM1.out _ (Q.drewN (Q.refl _) _)).box (y' := y1) (j := 0) (by rw [HY1.out]; exact Dc.setPl y (y.c.pl + 1)) HO1.out) ?_
  intro z2 hm2
  have HM2 := hideIt hm2
  clear hm2
  have ea : y1.c.rg = y.c.rg := by rw [HY1.out]
  have ra := HM2.out.cell (Dc.rgAt HO1.out (by rw [ea]; exact HX.out.1))
  have rb := HM2.out.cell (Dc.rgAt HO1.out (by rw [ea]; exact HX.out.2))
  have ia : (a : Int) < 8 := by omega
  have ib : (b : Int) < 8 := by omega
  have id' : (d : Int) < 8 := by omega
  clear c5 hwc r0 b0 g0 z1 zk z3 p1 p2 hpi p3 p4 p5 p6 HM1 HP HL HS ea
  obtain ⟨i0, hi9, hz0, hz1, hz2⟩ := info_parts infoI64
  obtain ⟨ta, tc, etv, -, -⟩ := own_form HM2.out.dx.tro
  subst etv
  have rt := HM2.out.dx.c0.2.2.2.2.2.2.2.2.2.2.2
  have qz := ((Q.refl z2).alloc (.cells #[.int .i64 xa] 2))
  have h4 := HM2.out.keep qz
  obtain ⟨g, cap2, X, r1, r2, r3, r4, r5⟩ := run_append_lies (P := Try.prog) (z2.alloc (.cells #[.int .i64 xa] 2)) 24 24 w0.heap.size 2 i0 (.int .i64 0) 1 8 Try.underlying24 hi9 hz0 hz1 hz2 rfl (by decide) _ tr.length (rowI tr) h4.dx.tro ⟨z2.heap.size, 0, none⟩ 1 1 [.int .i64 xa] rfl (World.news_of_block (heap_new z2 _)) (one_i64 _) (by decide) (by unfold maxLen; omega) (by omega) h4.dx.bel.size _ rfl
  have r2' : X.ownsRow w0.heap.size 2 1 (.slice (some ⟨g, 0, none⟩) (tr.length + 1) cap2) (tr ++ [xa]).length (rowI (tr ++ [xa])) := by rw [rowI_app, List.length_append]; exact r2
  obtain ⟨bR, col', m1, e1⟩ := h4.dx.growT r3 r2' ⟨g, rfl, r4.imp id (fun e => by rw [e]; exact Nat.le_refl _)⟩
  have x11 := cell_of_block bR 11
  have f11 := free_of_block bR 11
  have E1 := HM2.out.ex.trans ((Ex.q qz).trans e1)
  have HE1 := hideIt E1
  have hBlt : w.heap.size < z2.heap.size := lt_of_some HM2.out.bx
  have HM3 := hideIt (show Mid (X.setCell ⟨R, 11, none⟩ (.slice (some ⟨g, 0, none⟩) (tr.length + 1) cap2)) w w0 R col' im mem l (tr ++ [xa]) false 0 0 false n cv C cap (.slice (some ⟨g, 0, none⟩) (tr.length + 1) cap2) w.heap.size y1 from
    ⟨m1, (e1.block _ (by simpa using Nat.lt_succ_of_lt hBlt) HM2.out.bn).trans h4.bx, (e1.col _ (by simpa using Nat.lt_succ_of_lt hBlt)).trans HM2.out.bn, HM2.out.ge, HM2.out.bw, ex_self E1, HM2.out.all, HM2.out.ok⟩)
  have HR := hideIt r1
  clear hi9 hz0 hz1 hz2 qz h4 r1 r2 r3 r4 r5 r2' bR m1 e1 E1 htn hnn hBlt
  go_wp2_with (first | (at_builtin; refine wpList_append_run (by rfl) (.tmp 270) (.tmp 272) 24 24 (by rfl) _ _ (by rfl) (by rfl) _ _ HR.out ?_) | fail)
  refine abs_world (M := fun W9 => Mid W9 w w0 R col' im mem l (tr ++ [xa]) false 0 0 false n cv C cap (.slice (some ⟨g, 0, none⟩) (tr.length + 1) cap2) w.heap.size y1) HM3.out ?_
  intro z4 hm4
  obtain ⟨BS, Z, st, sz, mz⟩ := hm4.back (k := k) HY.out.2.2.1
  have BK := hideIt (And.intro BS True.intro)
  have ST := hideIt st
  have SZ := hideIt sz
  have MZ := hideIt mz
  clear BS st sz mz hm4
  have hkl : (k : Int) < (k : Int) + 1 := by omega
  refine wp_region_held_drew (S := BackS R C cap w.heap.size k y1) (by kernel_rfl) BK.out.1 (fun hHeld => ?_)
  refine wpAnyH_take (i := 0) (oi := ⟨_, _, _, _, _, _⟩) (v := ?_) rfl (by kernel_rfl) (by kernel_rfl) (by kernel_rfl) (fun _ _ _ h => h) (Or.inl ⟨by rfl, ?_⟩) (by assumption) ?_
  rotate_left 1
  · intro w hSw; obtain ⟨hSw, -⟩ := hSw; (try dsimp only at hSw); go_simp; all_goals with_reducible rfl
  try simp only [Act.put, List.setIfInBounds_toArray, List.set_cons_zero, List.set_cons_succ]
  refine wpAnyH_take (i := 1) (oi := ⟨_, _, _, _, _, _⟩) (v := ?_) rfl (by kernel_rfl) (by kernel_rfl) (by kernel_rfl) (fun _ _ _ h => h) (Or.inl ⟨by rfl, ?_⟩) (by assumption) ?_
  rotate_left 1
  · intro w hSw; obtain ⟨hSw, -⟩ := hSw; (try dsimp only at hSw); go_simp; all_goals with_reducible rfl
  try simp only [Act.put, List.setIfInBounds_toArray, List.set_cons_zero, List.set_cons_succ]
  refine wpAnyH_take (i := 2) (oi := ⟨_, _, _, _, _, _⟩) (v := ?_) rfl (by kernel_rfl) (by kernel_rfl) (by kernel_rfl) (fun _ _ _ h => h) (Or.inl ⟨by rfl, ?_⟩) (by assumption) ?_
  rotate_left 1
  · intro w hSw; obtain ⟨hSw, -⟩ := hSw; (try dsimp only at hSw); go_simp; all_goals with_reducible rfl
  try simp only [Act.put, List.setIfInBounds_toArray, List.set_cons_zero, List.set_cons_succ]
  refine wpAnyH_take (i := 3) (oi := ⟨_, _, _, _, _, _⟩) (v := ?_) rfl (by kernel_rfl) (by kernel_rfl) (by kernel_rfl) (fun _ _ _ h => h) (Or.inl ⟨by rfl, ?_⟩) (by assumption) ?_
  rotate_left 1
  · intro w hSw; obtain ⟨hSw, -⟩ := hSw; (try dsimp only at hSw); go_simp; all_goals with_reducible rfl
  try simp only [Act.put, List.setIfInBounds_toArray, List.set_cons_zero, List.set_cons_succ]
  refine wpAnyH_take (i := 4) (oi := ⟨_, _, _, _, _, _⟩) (v := ?_) rfl (by kernel_rfl) (by kernel_rfl) (by kernel_rfl) (fun _ _ _ h => h) (Or.inl ⟨by rfl, ?_⟩) (by assumption) ?_
  rotate_left 1
  · intro w hSw; obtain ⟨hSw, -⟩ := hSw; (try dsimp only at hSw); go_simp; all_goals with_reducible rfl
  try simp only [Act.put, List.setIfInBounds_toArray, List.set_cons_zero, List.set_cons_succ]
  refine wpAnyH_take (i := 5) (oi := ⟨_, _, _, _, _, _⟩) (v := .agg y1.cs.toArray) rfl (by kernel_rfl) (by kernel_rfl) (by kernel_rfl) (fun _ _ _ h => h) (Or.inl ⟨by rfl, ?_⟩) (by assumption) ?_
  · intro w9 hSw; exact exec_load 61 _ (by rfl) (.pointer (some ⟨w.heap.size, 0, none⟩)) (by rfl) _ hSw.2
  try simp only [Act.put, List.setIfInBounds_toArray, List.set_cons_zero, List.set_cons_succ]
  refine wpAnyH_take (i := 6) (oi := ⟨_, _, _, _, _, _⟩) (v := ?_) rfl (by kernel_rfl) (by kernel_rfl) (by kernel_rfl) (fun _ _ _ h => h) (Or.inl ⟨by rfl, ?_⟩) (by assumption) ?_
  rotate_left 1
  · intro w hSw; obtain ⟨hSw, -⟩ := hSw; (try dsimp only at hSw); go_simp; all_goals with_reducible rfl
  try simp only [Act.put, List.setIfInBounds_toArray, List.set_cons_zero, List.set_cons_succ]
  refine wpAnyH_ready (rs := [7]) (by kernel_rfl) (by simp) (AllReadyH.cons (o := ⟨_, _, _, _, _, _⟩) rfl (fun K hK => ?_) AllReadyH.nil)
  refine step_store_run (by rfl) 61 _ _ (by rfl) (.pointer (some ⟨C, k * 24, none⟩)) (.agg y1.cs.toArray) (by rfl) (by rfl) _ ST.out ?_
  refine hK.out _ _ ?_ (fun hHeld => ?_)
  · exact SZ.out
  clear hK K
  try simp only [Act.put]
  refine wpAnyH_done (by kernel_rfl) ?_ _
  go_wp2_with (fail)
  first | go_end0 | refine bodyPost_ret (v := .tuple #[]) (results_none rfl _ _ _) rfl ?_
  have FX := MZ.out.dx
  rw [HY1.out] at FX
  exact ⟨rfl, col', _, _, _, FX, ex_back HE1.out MZ.out.ex⟩
set_option maxRecDepth 100000 in
set_option maxHeartbeats 4000000 in
theorem tp_33 (h : DX w w0 R col im mem l tr false 0 0 false n cv kv tv) (hal : allok l) (hok : im.ok w0) (hlw : im.ws.length ≤ 240000) (hk : k + 1 = l.length) (hkm : k < 2000) (hy : l[k]? = some y) (hv : im.ws[y.c.pl]? = some v) (P : Pts v 33 tt d a b i) (ht0 : 0 ≤ tt) (ht5 : tt ≤ 5) (hd8 : d < 8) (ha8 : a < 8) (hb8 : b < 8) (hi0 : 0 ≤ i) (hi1 : i ≤ 4294967295) (hxa : y.c.rg[a]? = some xa) (hxb : y.c.rg[b]? = some xb) (hng : (im.st.length : Int) ≤ i) :
    Calls Try.prog 19 #[.pointer (some ⟨R, 0, none⟩)] w fun e w' => e = .returned (.tuple #[]) ∧ ∃ kv', DX w' w0 R col im mem l tr false 0 (5) false n cv kv' tv ∧ Ex col w col w' := by
  obtain ⟨C, cap, rfl, HL0, HS0, HM0⟩ := h.copy hal hy
  have c5 : w.cell? ⟨R, 5, none⟩ = some (.slice (some ⟨C, 0, none⟩) (k + 1) cap) := by rw [hk]; exact h.c0.2.2.2.2.2.1
  have HL := hideIt HL0
  have HS := hideIt HS0
  have hyo := hal y (List.mem_of_getElem? hy)
  have hpl := (List.getElem?_eq_some_iff.1 hv).1
  obtain ⟨wb, wo, ewa, hwc, -⟩ := Wds.at (hok.ws.keep (show Q w0 (w.alloc (.cells y.cs.toArray 61)) from HM0.dx.bel)) hv
  have r0 : (w.alloc (.cells y.cs.toArray 61)).cell? ⟨R, 0, none⟩ = some (.slice (some ⟨wb, wo, none⟩) im.ws.length im.wc) := by rw [← ewa]; exact HM0.dx.c0.1
  have b0 : (w.alloc (.cells y.cs.toArray 61)).cell? ⟨w.heap.size, 0, none⟩ = some (.int .i64 (y.c.pl : Int)) := HM0.cell (j := 0) rfl
  have g0 := HM0.fz 0
  have HY := hideIt (And.intro hy (And.intro hyo (And.intro hk (And.intro hal (And.intro hpl hlw)))))
  have HOK := hideIt hok
  have z1 : IntKind.i64.wrap ((k : Int) + 1 - 1) = (k : Int) := by rw [IntKind.wrap_i64]; omega
  have zk : IntKind.i64.wrap (k : Int) = (k : Int) := by rw [IntKind.wrap_i64]; omega
  have z3 : IntKind.i64.wrap ((y.c.pl : Int) + 1) = (y.c.pl : Int) + 1 := by rw [IntKind.wrap_i64]; omega
  have p1 : decide ((y.c.pl : Int) < 0) = false := by simp
  have p2 : decide ((im.ws.length : Int) ≤ (y.c.pl : Int)) = false := by simp; omega
  have hpi : (y.c.pl : Int) < (im.ws.length : Int) := by omega
  have HI := hideIt (And.intro hi0 (And.intro hi1 (And.intro ht0 ht5)))
  have p3 : decide (5 < tt) = false := by simp; omega
  have p4 : decide (7 < (d : Int)) = false := by simp; omega
  have p5 : decide (7 < (a : Int)) = false := by simp; omega
  have p6 : decide (7 < (b : Int)) = false := by simp; omega
  have HX := hideIt (And.intro hxa hxb)
  have HM1 : Hid (∀ X, Q (w.alloc (.cells y.cs.toArray 61)) X → Mid X w w0 R col im mem l tr false 0 0 false n cv C cap tv w.heap.size y) := fun X q => HM0.keep q
  have HP := hideIt P
  clear h hal hok hlw hk hkm hy hv P HL0 HS0 HM0 hyo hpl ewa hxa hxb hi0 hi1 ht0 ht5
  go_enter Try.func19, Try.ntmps19
  go_wp2_with (first | (refine wpList_load_run (by rfl) 61 _ (by rfl) _ (by rfl) _ HL.out ?_) | (refine wpList_store_run (by rfl) 61 _ _ (by rfl) _ _ (by rfl) (by rfl) _ HS.out ?_) | fail)
  generalize w.alloc (.cells y.cs.toArray 61) = z at *
  go_quiet (fail)
  go_wp2_with (fail)
  go_quiet (fail)
  go_wp2_with (fail)
  go_at_call 32; refine Calls.mono (HP.out.po _) ?_; rintro e y1 ⟨rfl, m1, rfl⟩
  go_wp2_with (fail)
  go_at_call 32; refine Calls.mono (HP.out.pt _) ?_; rintro e y2 ⟨rfl, m2, rfl⟩
  go_wp2_with (fail)
  go_at_call 32; refine Calls.mono (HP.out.pd _) ?_; rintro e y3 ⟨rfl, m3, rfl⟩
  go_wp2_with (fail)
  go_at_call 32; refine Calls.mono (HP.out.pa _) ?_; rintro e y4 ⟨rfl, m4, rfl⟩
  go_wp2_with (fail)
  go_at_call 32; refine Calls.mono (HP.out.pb _) ?_; rintro e y5 ⟨rfl, m5, rfl⟩
  go_wp2_with (fail)
  go_at_call 32; refine Calls.mono (HP.out.p0 _) ?_; rintro e y6 ⟨rfl, m6, rfl⟩
  go_wp2_with (fail)
  go_at_call 32; refine Calls.mono (HP.out.pi _) ?_; rintro e y7 ⟨rfl, m7, rfl⟩
  obtain ⟨y1, hy1⟩ : ∃ y1 : Dc, y1 = { y with c := { y.c with pl := y.c.pl + 1 } } := ⟨_, rfl⟩
  have HY1 := hideIt hy1
  have HO1 := hideIt (show y1.c.ok from by have := HY.out.2.1; rw [hy1]; exact ⟨this.rg, this.gt, this.rd, by show y.c.pl + 1 ≤ _; have := HY.out.2.2.2.2; omega, this.ba, this.an⟩)
  clear hy1
  go_upto_region 14 with (fail)
  refine abs_world (M := fun W9 => Mid W9 w w0 R col im mem l tr false 0 0 false n cv C cap tv w.heap.size y1) ((HM1.out _ (Q.drewN (Q.refl _) _)).box (y' := y1) (j := 0) (by rw [HY1.out]; exact Dc.setPl y (y.c.pl + 1)) HO1.out) ?_
  intro z2 hm2
  have HM2 := hideIt hm2
  clear hm2
  have ea : y1.c.rg = y.c.rg := by rw [HY1.out]
  have ra := HM2.out.cell (Dc.rgAt HO1.out (by rw [ea]; exact HX.out.1))
  have rb := HM2.out.cell (Dc.rgAt HO1.out (by rw [ea]; exact HX.out.2))
  have ia : (a : Int) < 8 := by omega
  have ib : (b : Int) < 8 := by omega
  have id' : (d : Int) < 8 := by omega
  clear c5 hwc r0 b0 g0 z1 zk z3 p1 p2 hpi p3 p4 p5 p6 HM1 HP HL HS ea
  have CT := hideIt (show ∀ X, Q z2 X → Calls Try.prog 31 #[.pointer (some ⟨R, 0, none⟩), .int .i64 (5)] X fun e w' => e = .returned (.tuple #[]) ∧ DX w' w0 R col im mem l tr false 0 (5) false n cv (.slice (some ⟨C, 0, none⟩) l.length cap) tv ∧ Ex col w col w' from fun X qX => (trap_any (HM2.out.keep qX).dx (5) (by omega) (by omega)).mono (fun e w' => fun ⟨h1, h2, h3⟩ => ⟨h1, h2, (HM2.out.keep qX).ex.trans h3⟩))
  have rs1 : z2.cell? ⟨R, 1, none⟩ = some (.slice im.sa im.st.length im.sc) := HM2.out.dx.c0.2.1
  have q3 : decide ((im.st.length : Int) ≤ i) = true := by simpa using hng
  clear hng
  go_wp2_with (first |  (go_at_call 31; refine Calls.mono (CT.out _ (by first | exact Q.refl _ | exact HQ9.out | exact Q.drewN (Q.refl _) _ | exact Q.drewN HQ9.out _ | assumption)) ?_; rintro e y8 ⟨rfl, t8⟩; have HT8 := hideIt t8; clear t8) | fail)
  refine bodyPost_ret (v := .tuple #[]) (results_none rfl _ _ _) rfl ?_
  exact ⟨rfl, _, HT8.out⟩
set_option maxRecDepth 100000 in
set_option maxHeartbeats 4000000 in
theorem st_33 (h : DX w w0 R col im mem l tr false 0 0 false n cv kv tv) (hal : allok l) (hok : im.ok w0) (hlw : im.ws.length ≤ 240000) (hk : k + 1 = l.length) (hkm : k < 2000) (hy : l[k]? = some y) (hv : im.ws[y.c.pl]? = some v) (P : Pts v 33 tt d a b i) (ht0 : 0 ≤ tt) (ht5 : tt ≤ 5) (hd8 : d < 8) (ha8 : a < 8) (hb8 : b < 8) (hi0 : 0 ≤ i) (hi1 : i ≤ 4294967295) (hxa : y.c.rg[a]? = some xa) (hxb : y.c.rg[b]? = some xb) (m f pl : Nat) (hxm : i = (m : Int)) (hf : im.fr[m]? = some (f : Int)) (hs : im.st[m]? = some (pl : Int)) (hmm : mem.length ≤ 65536) (hb : ¬ 65536 - (mem.length : Int) < (f : Int)) (hl2 : l.length < 2000) :
    Calls Try.prog 19 #[.pointer (some ⟨R, 0, none⟩)] w fun e w' => e = .returned (.tuple #[]) ∧ ∃ col' cv' kv', DX w' w0 R col' im (mem ++ List.replicate f 0) (l.set k { y with c := { y.c with pl := y.c.pl + 1 }, d := (d : Int) } ++ [newC pl mem.length m d y.c.rd]) tr false 0 0 false n cv' kv' tv ∧ Ex col w col' w' := by
  subst hxm
  obtain ⟨C, cap, rfl, HL0, HS0, HM0⟩ := h.copy hal hy
  have c5 : w.cell? ⟨R, 5, none⟩ = some (.slice (some ⟨C, 0, none⟩) (k + 1) cap) := by rw [hk]; exact h.c0.2.2.2.2.2.1
  have HL := hideIt HL0
  have HS := hideIt HS0
  have hyo := hal y (List.mem_of_getElem? hy)
  have hpl := (List.getElem?_eq_some_iff.1 hv).1
  obtain ⟨wb, wo, ewa, hwc, -⟩ := Wds.at (hok.ws.keep (show Q w0 (w.alloc (.cells y.cs.toArray 61)) from HM0.dx.bel)) hv
  have r0 : (w.alloc (.cells y.cs.toArray 61)).cell? ⟨R, 0, none⟩ = some (.slice (some ⟨wb, wo, none⟩) im.ws.length im.wc) := by rw [← ewa]; exact HM0.dx.c0.1
  have b0 : (w.alloc (.cells y.cs.toArray 61)).cell? ⟨w.heap.size, 0, none⟩ = some (.int .i64 (y.c.pl : Int)) := HM0.cell (j := 0) rfl
  have g0 := HM0.fz 0
  have HY := hideIt (And.intro hy (And.intro hyo (And.intro hk (And.intro hal (And.intro hpl hlw)))))
  have HOK := hideIt hok
  have z1 : IntKind.i64.wrap ((k : Int) + 1 - 1) = (k : Int) := by rw [IntKind.wrap_i64]; omega
  have zk : IntKind.i64.wrap (k : Int) = (k : Int) := by rw [IntKind.wrap_i64]; omega
  have z3 : IntKind.i64.wrap ((y.c.pl : Int) + 1) = (y.c.pl : Int) + 1 := by rw [IntKind.wrap_i64]; omega
  have p1 : decide ((y.c.pl : Int) < 0) = false := by simp
  have p2 : decide ((im.ws.length : Int) ≤ (y.c.pl : Int)) = false := by simp; omega
  have hpi : (y.c.pl : Int) < (im.ws.length : Int) := by omega
  have HI := hideIt (And.intro hi0 (And.intro hi1 (And.intro ht0 ht5)))
  have p3 : decide (5 < tt) = false := by simp; omega
  have p4 : decide (7 < (d : Int)) = false := by simp; omega
  have p5 : decide (7 < (a : Int)) = false := by simp; omega
  have p6 : decide (7 < (b : Int)) = false := by simp; omega
  have HX := hideIt (And.intro hxa hxb)
  have HM1 : Hid (∀ X, Q (w.alloc (.cells y.cs.toArray 61)) X → Mid X w w0 R col im mem l tr false 0 0 false n cv C cap tv w.heap.size y) := fun X q => HM0.keep q
  have HP := hideIt P
  clear h hal hok hlw hk hkm hy hv P HL0 HS0 HM0 hyo hpl ewa hxa hxb hi0 hi1 ht0 ht5
  go_enter Try.func19, Try.ntmps19
  go_wp2_with (first | (refine wpList_load_run (by rfl) 61 _ (by rfl) _ (by rfl) _ HL.out ?_) | (refine wpList_store_run (by rfl) 61 _ _ (by rfl) _ _ (by rfl) (by rfl) _ HS.out ?_) | fail)
  generalize w.alloc (.cells y.cs.toArray 61) = z at *
  go_quiet (fail)
  go_wp2_with (fail)
  go_quiet (fail)
  go_wp2_with (fail)
  go_at_call 32; refine Calls.mono (HP.out.po _) ?_; rintro e y1 ⟨rfl, m1, rfl⟩
  go_wp2_with (fail)
  go_at_call 32; refine Calls.mono (HP.out.pt _) ?_; rintro e y2 ⟨rfl, m2, rfl⟩
  go_wp2_with (fail)
  go_at_call 32; refine Calls.mono (HP.out.pd _) ?_; rintro e y3 ⟨rfl, m3, rfl⟩
  go_wp2_with (fail)
  go_at_call 32; refine Calls.mono (HP.out.pa _) ?_; rintro e y4 ⟨rfl, m4, rfl⟩
  go_wp2_with (fail)
  go_at_call 32; refine Calls.mono (HP.out.pb _) ?_; rintro e y5 ⟨rfl, m5, rfl⟩
  go_wp2_with (fail)
  go_at_call 32; refine Calls.mono (HP.out.p0 _) ?_; rintro e y6 ⟨rfl, m6, rfl⟩
  go_wp2_with (fail)
  go_at_call 32; refine Calls.mono (HP.out.pi _) ?_; rintro e y7 ⟨rfl, m7, rfl⟩
  obtain ⟨y1, hy1⟩ : ∃ y1 : Dc, y1 = { y with c := { y.c with pl := y.c.pl + 1 } } := ⟨_, rfl⟩
  have HY1 := hideIt hy1
  have HO1 := hideIt (show y1.c.ok from by have := HY.out.2.1; rw [hy1]; exact ⟨this.rg, this.gt, this.rd, by show y.c.pl + 1 ≤ _; have := HY.out.2.2.2.2; omega, this.ba, this.an⟩)
  clear hy1
  go_upto_region 14 with (fail)
  refine abs_world (M := fun W9 => Mid W9 w w0 R col im mem l tr false 0 0 false n cv C cap tv w.heap.size y1) ((HM1.out _ (Q.drewN (Q.refl _) _)).box (y' := y1) (j := 0) (by rw [HY1.out]; exact Dc.setPl y (y.c.pl + 1)) HO1.out) ?_
  intro z2 hm2
  have HM2 := hideIt hm2
  clear hm2
  have ea : y1.c.rg = y.c.rg := by rw [HY1.out]
  have ra := HM2.out.cell (Dc.rgAt HO1.out (by rw [ea]; exact HX.out.1))
  have rb := HM2.out.cell (Dc.rgAt HO1.out (by rw [ea]; exact HX.out.2))
  have ia : (a : Int) < 8 := by omega
  have ib : (b : Int) < 8 := by omega
  have id' : (d : Int) < 8 := by omega
  clear c5 hwc r0 b0 g0 z1 zk z3 p1 p2 hpi p3 p4 p5 p6 HM1 HP HL HS ea
  have rs1 : z2.cell? ⟨R, 1, none⟩ = some (.slice im.sa im.st.length im.sc) := HM2.out.dx.c0.2.1
  have hmst := (List.getElem?_eq_some_iff.1 hs).1
  have q3 : decide ((im.st.length : Int) ≤ (m : Int)) = false := by simp; omega
  have q3n : decide (im.st.length ≤ m) = false := by simp; omega
  have q3l : (m : Int) < (im.st.length : Int) := by omega
  have zm : IntKind.i64.wrap (m : Int) = (m : Int) := by have := HI.out; rw [IntKind.wrap_i64]; omega
  have rd0 := HM2.out.cell (j := 3) (u := .int .i64 y1.d) rfl
  obtain ⟨y2, hy2⟩ : ∃ y2 : Dc, y2 = { y1 with d := (d : Int) } := ⟨_, rfl⟩
  have HY2 := hideIt hy2
  have HO2 := hideIt (show y2.c.ok from by have := HO1.out; rw [hy2]; exact this)
  have gd := HM2.out.fz 3
  have HM3 : Hid (∀ X, Q z2 X → Mid (X.setCell ⟨w.heap.size, 3, none⟩ (.int .i64 (d : Int))) w w0 R col im mem l tr false 0 0 false n cv C cap tv w.heap.size y2) := fun X q => (HM2.out.keep q).box (y' := y2) (j := 3) (u := .int .i64 (d : Int)) (by rw [hy2]; exact Dc.setD y1 _) HO2.out
  clear hy2
  have HF := hideIt (And.intro hf (And.intro hs hmm))
  clear hf hs hmm hmst
  go_wp2_with (fail)
  refine abs_world (M := fun W9 => Mid W9 w w0 R col im mem l tr false 0 0 false n cv C cap tv w.heap.size y2) (HM3.out _ (by first | exact Q.refl _ | exact HQ9.out | exact Q.drewN (Q.refl _) _ | exact Q.drewN HQ9.out _ | assumption)) ?_
  intro z4 hm4
  obtain ⟨BS, Z, st, sz, mz⟩ := hm4.back (k := k) HY.out.2.2.1
  have BK := hideIt (And.intro BS True.intro)
  have ST := hideIt st
  have SZ := hideIt sz
  have MZ := hideIt mz
  clear BS st sz mz hm4
  have hkl : (k : Int) < (k : Int) + 1 := by omega
  refine wp_region_held_drew (S := BackS R C cap w.heap.size k y2) (by kernel_rfl) BK.out.1 (fun hHeld => ?_)
  refine wpAnyH_take (i := 0) (oi := ⟨_, _, _, _, _, _⟩) (v := ?_) rfl (by kernel_rfl) (by kernel_rfl) (by kernel_rfl) (fun _ _ _ h => h) (Or.inl ⟨by rfl, ?_⟩) (by assumption) ?_
  rotate_left 1
  · intro w hSw; obtain ⟨hSw, -⟩ := hSw; (try dsimp only at hSw); go_simp; all_goals with_reducible rfl
  try simp only [Act.put, List.setIfInBounds_toArray, List.set_cons_zero, List.set_cons_succ]
  refine wpAnyH_take (i := 1) (oi := ⟨_, _, _, _, _, _⟩) (v := ?_) rfl (by kernel_rfl) (by kernel_rfl) (by kernel_rfl) (fun _ _ _ h => h) (Or.inl ⟨by rfl, ?_⟩) (by assumption) ?_
  rotate_left 1
  · intro w hSw; obtain ⟨hSw, -⟩ := hSw; (try dsimp only at hSw); go_simp; all_goals with_reducible rfl
  try simp only [Act.put, List.setIfInBounds_toArray, List.set_cons_zero, List.set_cons_succ]
  refine wpAnyH_take (i := 2) (oi := ⟨_, _, _, _, _, _⟩) (v := ?_) rfl (by kernel_rfl) (by kernel_rfl) (by kernel_rfl) (fun _ _ _ h => h) (Or.inl ⟨by rfl, ?_⟩) (by assumption) ?_
  rotate_left 1
  · intro w hSw; obtain ⟨hSw, -⟩ := hSw; (try dsimp only at hSw); go_simp; all_goals with_reducible rfl
  try simp only [Act.put, List.setIfInBounds_toArray, List.set_cons_zero, List.set_cons_succ]
  refine wpAnyH_take (i := 3) (oi := ⟨_, _, _, _, _, _⟩) (v := ?_) rfl (by kernel_rfl) (by kernel_rfl) (by kernel_rfl) (fun _ _ _ h => h) (Or.inl ⟨by rfl, ?_⟩) (by assumption) ?_
  rotate_left 1
  · intro w hSw; obtain ⟨hSw, -⟩ := hSw; (try dsimp only at hSw); go_simp; all_goals with_reducible rfl
  try simp only [Act.put, List.setIfInBounds_toArray, List.set_cons_zero, List.set_cons_succ]
  refine wpAnyH_take (i := 4) (oi := ⟨_, _, _, _, _, _⟩) (v := ?_) rfl (by kernel_rfl) (by kernel_rfl) (by kernel_rfl) (fun _ _ _ h => h) (Or.inl ⟨by rfl, ?_⟩) (by assumption) ?_
  rotate_left 1
  · intro w hSw; obtain ⟨hSw, -⟩ := hSw; (try dsimp only at hSw); go_simp; all_goals with_reducible rfl
  try simp only [Act.put, List.setIfInBounds_toArray, List.set_cons_zero, List.set_cons_succ]
  refine wpAnyH_take (i := 5) (oi := ⟨_, _, _, _, _, _⟩) (v := .agg y2.cs.toArray) rfl (by kernel_rfl) (by kernel_rfl) (by kernel_rfl) (fun _ _ _ h => h) (Or.inl ⟨by rfl, ?_⟩) (by assumption) ?_
  · intro w9 hSw; exact exec_load 61 _ (by rfl) (.pointer (some ⟨w.heap.size, 0, none⟩)) (by rfl) _ hSw.2
  try simp only [Act.put, List.setIfInBounds_toArray, List.set_cons_zero, List.set_cons_succ]
  refine wpAnyH_take (i := 6) (oi := ⟨_, _, _, _, _, _⟩) (v := ?_) rfl (by kernel_rfl) (by kernel_rfl) (by kernel_rfl) (fun _ _ _ h => h) (Or.inl ⟨by rfl, ?_⟩) (by assumption) ?_
  rotate_left 1
  · intro w hSw; obtain ⟨hSw, -⟩ := hSw; (try dsimp only at hSw); go_simp; all_goals with_reducible rfl
  try simp only [Act.put, List.setIfInBounds_toArray, List.set_cons_zero, List.set_cons_succ]
  refine wpAnyH_ready (rs := [7]) (by kernel_rfl) (by simp) (AllReadyH.cons (o := ⟨_, _, _, _, _, _⟩) rfl (fun K hK => ?_) AllReadyH.nil)
  refine step_store_run (by rfl) 61 _ _ (by rfl) (.pointer (some ⟨C, k * 24, none⟩)) (.agg y2.cs.toArray) (by rfl) (by rfl) _ ST.out ?_
  refine hK.out _ _ ?_ (fun hHeld => ?_)
  · exact SZ.out
  clear hK K
  try simp only [Act.put]
  refine wpAnyH_done (by kernel_rfl) ?_ _
  have CC := hideIt (call_ok MZ.out.dx HOK.out HF.out.2.2 m f pl d HF.out.1 HF.out.2.1 y2 HO2.out (by omega) (by rw [List.length_set]; exact hl2))
  go_wp2_with (first | (refine wpList_load_run (by rfl) 61 _ (by rfl) _ (by rfl) _ SZ.out.2 ?_) | (go_at_call 18; refine Calls.mono CC.out ?_; rintro e w9 ⟨rfl, h9⟩; have H9 := hideIt h9; clear h9) | fail)
  refine bodyPost_ret (v := .tuple #[]) (results_none rfl _ _ _) rfl ?_
  have e2 : y2 = { y with c := { y.c with pl := y.c.pl + 1 }, d := (d : Int) } := by rw [HY2.out, HY1.out]
  obtain ⟨col', cv', kv', h1, h2⟩ := H9.out
  rw [e2] at h1
  exact ⟨rfl, col', cv', kv', h1, MZ.out.ex.trans h2⟩
set_option maxRecDepth 100000 in
set_option maxHeartbeats 4000000 in
theorem tp_33t (h : DX w w0 R col im mem l tr false 0 0 false n cv kv tv) (hal : allok l) (hok : im.ok w0) (hlw : im.ws.length ≤ 240000) (hk : k + 1 = l.length) (hkm : k < 2000) (hy : l[k]? = some y) (hv : im.ws[y.c.pl]? = some v) (P : Pts v 33 tt d a b i) (ht0 : 0 ≤ tt) (ht5 : tt ≤ 5) (hd8 : d < 8) (ha8 : a < 8) (hb8 : b < 8) (hi0 : 0 ≤ i) (hi1 : i ≤ 4294967295) (hxa : y.c.rg[a]? = some xa) (hxb : y.c.rg[b]? = some xb) (m f pl : Nat) (hxm : i = (m : Int)) (hf : im.fr[m]? = some (f : Int)) (hs : im.st[m]? = some (pl : Int)) (hmm : mem.length ≤ 65536) (hb : 65536 - (mem.length : Int) < (f : Int)) :
    Calls Try.prog 19 #[.pointer (some ⟨R, 0, none⟩)] w fun e w' => e = .returned (.tuple #[]) ∧ ∃ kv', DX w' w0 R col im mem (l.set k { y with c := { y.c with pl := y.c.pl + 1 }, d := (d : Int) }) tr false 0 5 false n cv kv' tv ∧ Ex col w col w' := by
  subst hxm
  obtain ⟨C, cap, rfl, HL0, HS0, HM0⟩ := h.copy hal hy
  have c5 : w.cell? ⟨R, 5, none⟩ = some (.slice (some ⟨C, 0, none⟩) (k + 1) cap) := by rw [hk]; exact h.c0.2.2.2.2.2.1
  have HL := hideIt HL0
  have HS := hideIt HS0
  have hyo := hal y (List.mem_of_getElem? hy)
  have hpl := (List.getElem?_eq_some_iff.1 hv).1
  obtain ⟨wb, wo, ewa, hwc, -⟩ := Wds.at (hok.ws.keep (show Q w0 (w.alloc (.cells y.cs.toArray 61)) from HM0.dx.bel)) hv
  have r0 : (w.alloc (.cells y.cs.toArray 61)).cell? ⟨R, 0, none⟩ = some (.slice (some ⟨wb, wo, none⟩) im.ws.length im.wc) := by rw [← ewa]; exact HM0.dx.c0.1
  have b0 : (w.alloc (.cells y.cs.toArray 61)).cell? ⟨w.heap.size, 0, none⟩ = some (.int .i64 (y.c.pl : Int)) := HM0.cell (j := 0) rfl
  have g0 := HM0.fz 0
  have HY := hideIt (And.intro hy (And.intro hyo (And.intro hk (And.intro hal (And.intro hpl hlw)))))
  have HOK := hideIt hok
  have z1 : IntKind.i64.wrap ((k : Int) + 1 - 1) = (k : Int) := by rw [IntKind.wrap_i64]; omega
  have zk : IntKind.i64.wrap (k : Int) = (k : Int) := by rw [IntKind.wrap_i64]; omega
  have z3 : IntKind.i64.wrap ((y.c.pl : Int) + 1) = (y.c.pl : Int) + 1 := by rw [IntKind.wrap_i64]; omega
  have p1 : decide ((y.c.pl : Int) < 0) = false := by simp
  have p2 : decide ((im.ws.length : Int) ≤ (y.c.pl : Int)) = false := by simp; omega
  have hpi : (y.c.pl : Int) < (im.ws.length : Int) := by omega
  have HI := hideIt (And.intro hi0 (And.intro hi1 (And.intro ht0 ht5)))
  have p3 : decide (5 < tt) = false := by simp; omega
  have p4 : decide (7 < (d : Int)) = false := by simp; omega
  have p5 : decide (7 < (a : Int)) = false := by simp; omega
  have p6 : decide (7 < (b : Int)) = false := by simp; omega
  have HX := hideIt (And.intro hxa hxb)
  have HM1 : Hid (∀ X, Q (w.alloc (.cells y.cs.toArray 61)) X → Mid X w w0 R col im mem l tr false 0 0 false n cv C cap tv w.heap.size y) := fun X q => HM0.keep q
  have HP := hideIt P
  clear h hal hok hlw hk hkm hy hv P HL0 HS0 HM0 hyo hpl ewa hxa hxb hi0 hi1 ht0 ht5
  go_enter Try.func19, Try.ntmps19
  go_wp2_with (first | (refine wpList_load_run (by rfl) 61 _ (by rfl) _ (by rfl) _ HL.out ?_) | (refine wpList_store_run (by rfl) 61 _ _ (by rfl) _ _ (by rfl) (by rfl) _ HS.out ?_) | fail)
  generalize w.alloc (.cells y.cs.toArray 61) = z at *
  go_quiet (fail)
  go_wp2_with (fail)
  go_quiet (fail)
  go_wp2_with (fail)
  go_at_call 32; refine Calls.mono (HP.out.po _) ?_; rintro e y1 ⟨rfl, m1, rfl⟩
  go_wp2_with (fail)
  go_at_call 32; refine Calls.mono (HP.out.pt _) ?_; rintro e y2 ⟨rfl, m2, rfl⟩
  go_wp2_with (fail)
  go_at_call 32; refine Calls.mono (HP.out.pd _) ?_; rintro e y3 ⟨rfl, m3, rfl⟩
  go_wp2_with (fail)
  go_at_call 32; refine Calls.mono (HP.out.pa _) ?_; rintro e y4 ⟨rfl, m4, rfl⟩
  go_wp2_with (fail)
  go_at_call 32; refine Calls.mono (HP.out.pb _) ?_; rintro e y5 ⟨rfl, m5, rfl⟩
  go_wp2_with (fail)
  go_at_call 32; refine Calls.mono (HP.out.p0 _) ?_; rintro e y6 ⟨rfl, m6, rfl⟩
  go_wp2_with (fail)
  go_at_call 32; refine Calls.mono (HP.out.pi _) ?_; rintro e y7 ⟨rfl, m7, rfl⟩
  obtain ⟨y1, hy1⟩ : ∃ y1 : Dc, y1 = { y with c := { y.c with pl := y.c.pl + 1 } } := ⟨_, rfl⟩
  have HY1 := hideIt hy1
  have HO1 := hideIt (show y1.c.ok from by have := HY.out.2.1; rw [hy1]; exact ⟨this.rg, this.gt, this.rd, by show y.c.pl + 1 ≤ _; have := HY.out.2.2.2.2; omega, this.ba, this.an⟩)
  clear hy1
  go_upto_region 14 with (fail)
  refine abs_world (M := fun W9 => Mid W9 w w0 R col im mem l tr false 0 0 false n cv C cap tv w.heap.size y1) ((HM1.out _ (Q.drewN (Q.refl _) _)).box (y' := y1) (j := 0) (by rw [HY1.out]; exact Dc.setPl y (y.c.pl + 1)) HO1.out) ?_
  intro z2 hm2
  have HM2 := hideIt hm2
  clear hm2
  have ea : y1.c.rg = y.c.rg := by rw [HY1.out]
  have ra := HM2.out.cell (Dc.rgAt HO1.out (by rw [ea]; exact HX.out.1))
  have rb := HM2.out.cell (Dc.rgAt HO1.out (by rw [ea]; exact HX.out.2))
  have ia : (a : Int) < 8 := by omega
  have ib : (b : Int) < 8 := by omega
  have id' : (d : Int) < 8 := by omega
  clear c5 hwc r0 b0 g0 z1 zk z3 p1 p2 hpi p3 p4 p5 p6 HM1 HP HL HS ea
  have rs1 : z2.cell? ⟨R, 1, none⟩ = some (.slice im.sa im.st.length im.sc) := HM2.out.dx.c0.2.1
  have hmst := (List.getElem?_eq_some_iff.1 hs).1
  have q3 : decide ((im.st.length : Int) ≤ (m : Int)) = false := by simp; omega
  have q3n : decide (im.st.length ≤ m) = false := by simp; omega
  have q3l : (m : Int) < (im.st.length : Int) := by omega
  have zm : IntKind.i64.wrap (m : Int) = (m : Int) := by have := HI.out; rw [IntKind.wrap_i64]; omega
  have rd0 := HM2.out.cell (j := 3) (u := .int .i64 y1.d) rfl
  obtain ⟨y2, hy2⟩ : ∃ y2 : Dc, y2 = { y1 with d := (d : Int) } := ⟨_, rfl⟩
  have HY2 := hideIt hy2
  have HO2 := hideIt (show y2.c.ok from by have := HO1.out; rw [hy2]; exact this)
  have gd := HM2.out.fz 3
  have HM3 : Hid (∀ X, Q z2 X → Mid (X.setCell ⟨w.heap.size, 3, none⟩ (.int .i64 (d : Int))) w w0 R col im mem l tr false 0 0 false n cv C cap tv w.heap.size y2) := fun X q => (HM2.out.keep q).box (y' := y2) (j := 3) (u := .int .i64 (d : Int)) (by rw [hy2]; exact Dc.setD y1 _) HO2.out
  clear hy2
  have HF := hideIt (And.intro hf (And.intro hs hmm))
  clear hf hs hmm hmst
  go_wp2_with (fail)
  refine abs_world (M := fun W9 => Mid W9 w w0 R col im mem l tr false 0 0 false n cv C cap tv w.heap.size y2) (HM3.out _ (by first | exact Q.refl _ | exact HQ9.out | exact Q.drewN (Q.refl _) _ | exact Q.drewN HQ9.out _ | assumption)) ?_
  intro z4 hm4
  obtain ⟨BS, Z, st, sz, mz⟩ := hm4.back (k := k) HY.out.2.2.1
  have BK := hideIt (And.intro BS True.intro)
  have ST := hideIt st
  have SZ := hideIt sz
  have MZ := hideIt mz
  clear BS st sz mz hm4
  have hkl : (k : Int) < (k : Int) + 1 := by omega
  refine wp_region_held_drew (S := BackS R C cap w.heap.size k y2) (by kernel_rfl) BK.out.1 (fun hHeld => ?_)
  refine wpAnyH_take (i := 0) (oi := ⟨_, _, _, _, _, _⟩) (v := ?_) rfl (by kernel_rfl) (by kernel_rfl) (by kernel_rfl) (fun _ _ _ h => h) (Or.inl ⟨by rfl, ?_⟩) (by assumption) ?_
  rotate_left 1
  · intro w hSw; obtain ⟨hSw, -⟩ := hSw; (try dsimp only at hSw); go_simp; all_goals with_reducible rfl
  try simp only [Act.put, List.setIfInBounds_toArray, List.set_cons_zero, List.set_cons_succ]
  refine wpAnyH_take (i := 1) (oi := ⟨_, _, _, _, _, _⟩) (v := ?_) rfl (by kernel_rfl) (by kernel_rfl) (by kernel_rfl) (fun _ _ _ h => h) (Or.inl ⟨by rfl, ?_⟩) (by assumption) ?_
  rotate_left 1
  · intro w hSw; obtain ⟨hSw, -⟩ := hSw; (try dsimp only at hSw); go_simp; all_goals with_reducible rfl
  try simp only [Act.put, List.setIfInBounds_toArray, List.set_cons_zero, List.set_cons_succ]
  refine wpAnyH_take (i := 2) (oi := ⟨_, _, _, _, _, _⟩) (v := ?_) rfl (by kernel_rfl) (by kernel_rfl) (by kernel_rfl) (fun _ _ _ h => h) (Or.inl ⟨by rfl, ?_⟩) (by assumption) ?_
  rotate_left 1
  · intro w hSw; obtain ⟨hSw, -⟩ := hSw; (try dsimp only at hSw); go_simp; all_goals with_reducible rfl
  try simp only [Act.put, List.setIfInBounds_toArray, List.set_cons_zero, List.set_cons_succ]
  refine wpAnyH_take (i := 3) (oi := ⟨_, _, _, _, _, _⟩) (v := ?_) rfl (by kernel_rfl) (by kernel_rfl) (by kernel_rfl) (fun _ _ _ h => h) (Or.inl ⟨by rfl, ?_⟩) (by assumption) ?_
  rotate_left 1
  · intro w hSw; obtain ⟨hSw, -⟩ := hSw; (try dsimp only at hSw); go_simp; all_goals with_reducible rfl
  try simp only [Act.put, List.setIfInBounds_toArray, List.set_cons_zero, List.set_cons_succ]
  refine wpAnyH_take (i := 4) (oi := ⟨_, _, _, _, _, _⟩) (v := ?_) rfl (by kernel_rfl) (by kernel_rfl) (by kernel_rfl) (fun _ _ _ h => h) (Or.inl ⟨by rfl, ?_⟩) (by assumption) ?_
  rotate_left 1
  · intro w hSw; obtain ⟨hSw, -⟩ := hSw; (try dsimp only at hSw); go_simp; all_goals with_reducible rfl
  try simp only [Act.put, List.setIfInBounds_toArray, List.set_cons_zero, List.set_cons_succ]
  refine wpAnyH_take (i := 5) (oi := ⟨_, _, _, _, _, _⟩) (v := .agg y2.cs.toArray) rfl (by kernel_rfl) (by kernel_rfl) (by kernel_rfl) (fun _ _ _ h => h) (Or.inl ⟨by rfl, ?_⟩) (by assumption) ?_
  · intro w9 hSw; exact exec_load 61 _ (by rfl) (.pointer (some ⟨w.heap.size, 0, none⟩)) (by rfl) _ hSw.2
  try simp only [Act.put, List.setIfInBounds_toArray, List.set_cons_zero, List.set_cons_succ]
  refine wpAnyH_take (i := 6) (oi := ⟨_, _, _, _, _, _⟩) (v := ?_) rfl (by kernel_rfl) (by kernel_rfl) (by kernel_rfl) (fun _ _ _ h => h) (Or.inl ⟨by rfl, ?_⟩) (by assumption) ?_
  rotate_left 1
  · intro w hSw; obtain ⟨hSw, -⟩ := hSw; (try dsimp only at hSw); go_simp; all_goals with_reducible rfl
  try simp only [Act.put, List.setIfInBounds_toArray, List.set_cons_zero, List.set_cons_succ]
  refine wpAnyH_ready (rs := [7]) (by kernel_rfl) (by simp) (AllReadyH.cons (o := ⟨_, _, _, _, _, _⟩) rfl (fun K hK => ?_) AllReadyH.nil)
  refine step_store_run (by rfl) 61 _ _ (by rfl) (.pointer (some ⟨C, k * 24, none⟩)) (.agg y2.cs.toArray) (by rfl) (by rfl) _ ST.out ?_
  refine hK.out _ _ ?_ (fun hHeld => ?_)
  · exact SZ.out
  clear hK K
  try simp only [Act.put]
  refine wpAnyH_done (by kernel_rfl) ?_ _
  have CC := hideIt (call_tight MZ.out.dx HOK.out HF.out.2.2 m f HF.out.1 y2 (by omega))
  go_wp2_with (first | (refine wpList_load_run (by rfl) 61 _ (by rfl) _ (by rfl) _ SZ.out.2 ?_) | (go_at_call 18; refine Calls.mono CC.out ?_; rintro e w9 ⟨rfl, h9⟩; have H9 := hideIt h9; clear h9) | fail)
  refine bodyPost_ret (v := .tuple #[]) (results_none rfl _ _ _) rfl ?_
  have e2 : y2 = { y with c := { y.c with pl := y.c.pl + 1 }, d := (d : Int) } := by rw [HY2.out, HY1.out]
  have FX := H9.out.1
  rw [e2] at FX
  exact ⟨rfl, _, FX, MZ.out.ex.trans H9.out.2⟩
set_option maxRecDepth 100000 in
set_option maxHeartbeats 4000000 in
theorem tp_33d (h : DX w w0 R col im mem l tr false 0 0 false n cv kv tv) (hal : allok l) (hok : im.ok w0) (hlw : im.ws.length ≤ 240000) (hk : k + 1 = l.length) (hkm : k < 2000) (hy : l[k]? = some y) (hv : im.ws[y.c.pl]? = some v) (P : Pts v 33 tt d a b i) (ht0 : 0 ≤ tt) (ht5 : tt ≤ 5) (hd8 : d < 8) (ha8 : a < 8) (hb8 : b < 8) (hi0 : 0 ≤ i) (hi1 : i ≤ 4294967295) (hxa : y.c.rg[a]? = some xa) (hxb : y.c.rg[b]? = some xb) (m f pl : Nat) (hxm : i = (m : Int)) (hf : im.fr[m]? = some (f : Int)) (hs : im.st[m]? = some (pl : Int)) (hmm : mem.length ≤ 65536) (hb : ¬ 65536 - (mem.length : Int) < (f : Int)) (hl2 : 2000 ≤ l.length) :
    Calls Try.prog 19 #[.pointer (some ⟨R, 0, none⟩)] w fun e w' => e = .returned (.tuple #[]) ∧ ∃ kv', DX w' w0 R col im mem (l.set k { y with c := { y.c with pl := y.c.pl + 1 }, d := (d : Int) }) tr false 0 5 false n cv kv' tv ∧ Ex col w col w' := by
  subst hxm
  obtain ⟨C, cap, rfl, HL0, HS0, HM0⟩ := h.copy hal hy
  have c5 : w.cell? ⟨R, 5, none⟩ = some (.slice (some ⟨C, 0, none⟩) (k + 1) cap) := by rw [hk]; exact h.c0.2.2.2.2.2.1
  have HL := hideIt HL0
  have HS := hideIt HS0
  have hyo := hal y (List.mem_of_getElem? hy)
  have hpl := (List.getElem?_eq_some_iff.1 hv).1
  obtain ⟨wb, wo, ewa, hwc, -⟩ := Wds.at (hok.ws.keep (show Q w0 (w.alloc (.cells y.cs.toArray 61)) from HM0.dx.bel)) hv
  have r0 : (w.alloc (.cells y.cs.toArray 61)).cell? ⟨R, 0, none⟩ = some (.slice (some ⟨wb, wo, none⟩) im.ws.length im.wc) := by rw [← ewa]; exact HM0.dx.c0.1
  have b0 : (w.alloc (.cells y.cs.toArray 61)).cell? ⟨w.heap.size, 0, none⟩ = some (.int .i64 (y.c.pl : Int)) := HM0.cell (j := 0) rfl
  have g0 := HM0.fz 0
  have HY := hideIt (And.intro hy (And.intro hyo (And.intro hk (And.intro hal (And.intro hpl hlw)))))
  have HOK := hideIt hok
  have z1 : IntKind.i64.wrap ((k : Int) + 1 - 1) = (k : Int) := by rw [IntKind.wrap_i64]; omega
  have zk : IntKind.i64.wrap (k : Int) = (k : Int) := by rw [IntKind.wrap_i64]; omega
  have z3 : IntKind.i64.wrap ((y.c.pl : Int) + 1) = (y.c.pl : Int) + 1 := by rw [IntKind.wrap_i64]; omega
  have p1 : decide ((y.c.pl : Int) < 0) = false := by simp
  have p2 : decide ((im.ws.length : Int) ≤ (y.c.pl : Int)) = false := by simp; omega
  have hpi : (y.c.pl : Int) < (im.ws.length : Int) := by omega
  have HI := hideIt (And.intro hi0 (And.intro hi1 (And.intro ht0 ht5)))
  have p3 : decide (5 < tt) = false := by simp; omega
  have p4 : decide (7 < (d : Int)) = false := by simp; omega
  have p5 : decide (7 < (a : Int)) = false := by simp; omega
  have p6 : decide (7 < (b : Int)) = false := by simp; omega
  have HX := hideIt (And.intro hxa hxb)
  have HM1 : Hid (∀ X, Q (w.alloc (.cells y.cs.toArray 61)) X → Mid X w w0 R col im mem l tr false 0 0 false n cv C cap tv w.heap.size y) := fun X q => HM0.keep q
  have HP := hideIt P
  clear h hal hok hlw hk hkm hy hv P HL0 HS0 HM0 hyo hpl ewa hxa hxb hi0 hi1 ht0 ht5
  go_enter Try.func19, Try.ntmps19
  go_wp2_with (first | (refine wpList_load_run (by rfl) 61 _ (by rfl) _ (by rfl) _ HL.out ?_) | (refine wpList_store_run (by rfl) 61 _ _ (by rfl) _ _ (by rfl) (by rfl) _ HS.out ?_) | fail)
  generalize w.alloc (.cells y.cs.toArray 61) = z at *
  go_quiet (fail)
  go_wp2_with (fail)
  go_quiet (fail)
  go_wp2_with (fail)
  go_at_call 32; refine Calls.mono (HP.out.po _) ?_; rintro e y1 ⟨rfl, m1, rfl⟩
  go_wp2_with (fail)
  go_at_call 32; refine Calls.mono (HP.out.pt _) ?_; rintro e y2 ⟨rfl, m2, rfl⟩
  go_wp2_with (fail)
  go_at_call 32; refine Calls.mono (HP.out.pd _) ?_; rintro e y3 ⟨rfl, m3, rfl⟩
  go_wp2_with (fail)
  go_at_call 32; refine Calls.mono (HP.out.pa _) ?_; rintro e y4 ⟨rfl, m4, rfl⟩
  go_wp2_with (fail)
  go_at_call 32; refine Calls.mono (HP.out.pb _) ?_; rintro e y5 ⟨rfl, m5, rfl⟩
  go_wp2_with (fail)
  go_at_call 32; refine Calls.mono (HP.out.p0 _) ?_; rintro e y6 ⟨rfl, m6, rfl⟩
  go_wp2_with (fail)
  go_at_call 32; refine Calls.mono (HP.out.pi _) ?_; rintro e y7 ⟨rfl, m7, rfl⟩
  obtain ⟨y1, hy1⟩ : ∃ y1 : Dc, y1 = { y with c := { y.c with pl := y.c.pl + 1 } } := ⟨_, rfl⟩
  have HY1 := hideIt hy1
  have HO1 := hideIt (show y1.c.ok from by have := HY.out.2.1; rw [hy1]; exact ⟨this.rg, this.gt, this.rd, by show y.c.pl + 1 ≤ _; have := HY.out.2.2.2.2; omega, this.ba, this.an⟩)
  clear hy1
  go_upto_region 14 with (fail)
  refine abs_world (M := fun W9 => Mid W9 w w0 R col im mem l tr false 0 0 false n cv C cap tv w.heap.size y1) ((HM1.out _ (Q.drewN (Q.refl _) _)).box (y' := y1) (j := 0) (by rw [HY1.out]; exact Dc.setPl y (y.c.pl + 1)) HO1.out) ?_
  intro z2 hm2
  have HM2 := hideIt hm2
  clear hm2
  have ea : y1.c.rg = y.c.rg := by rw [HY1.out]
  have ra := HM2.out.cell (Dc.rgAt HO1.out (by rw [ea]; exact HX.out.1))
  have rb := HM2.out.cell (Dc.rgAt HO1.out (by rw [ea]; exact HX.out.2))
  have ia : (a : Int) < 8 := by omega
  have ib : (b : Int) < 8 := by omega
  have id' : (d : Int) < 8 := by omega
  clear c5 hwc r0 b0 g0 z1 zk z3 p1 p2 hpi p3 p4 p5 p6 HM1 HP HL HS ea
  have rs1 : z2.cell? ⟨R, 1, none⟩ = some (.slice im.sa im.st.length im.sc) := HM2.out.dx.c0.2.1
  have hmst := (List.getElem?_eq_some_iff.1 hs).1
  have q3 : decide ((im.st.length : Int) ≤ (m : Int)) = false := by simp; omega
  have q3n : decide (im.st.length ≤ m) = false := by simp; omega
  have q3l : (m : Int) < (im.st.length : Int) := by omega
  have zm : IntKind.i64.wrap (m : Int) = (m : Int) := by have := HI.out; rw [IntKind.wrap_i64]; omega
  have rd0 := HM2.out.cell (j := 3) (u := .int .i64 y1.d) rfl
  obtain ⟨y2, hy2⟩ : ∃ y2 : Dc, y2 = { y1 with d := (d : Int) } := ⟨_, rfl⟩
  have HY2 := hideIt hy2
  have HO2 := hideIt (show y2.c.ok from by have := HO1.out; rw [hy2]; exact this)
  have gd := HM2.out.fz 3
  have HM3 : Hid (∀ X, Q z2 X → Mid (X.setCell ⟨w.heap.size, 3, none⟩ (.int .i64 (d : Int))) w w0 R col im mem l tr false 0 0 false n cv C cap tv w.heap.size y2) := fun X q => (HM2.out.keep q).box (y' := y2) (j := 3) (u := .int .i64 (d : Int)) (by rw [hy2]; exact Dc.setD y1 _) HO2.out
  clear hy2
  have HF := hideIt (And.intro hf (And.intro hs hmm))
  clear hf hs hmm hmst
  go_wp2_with (fail)
  refine abs_world (M := fun W9 => Mid W9 w w0 R col im mem l tr false 0 0 false n cv C cap tv w.heap.size y2) (HM3.out _ (by first | exact Q.refl _ | exact HQ9.out | exact Q.drewN (Q.refl _) _ | exact Q.drewN HQ9.out _ | assumption)) ?_
  intro z4 hm4
  obtain ⟨BS, Z, st, sz, mz⟩ := hm4.back (k := k) HY.out.2.2.1
  have BK := hideIt (And.intro BS True.intro)
  have ST := hideIt st
  have SZ := hideIt sz
  have MZ := hideIt mz
  clear BS st sz mz hm4
  have hkl : (k : Int) < (k : Int) + 1 := by omega
  refine wp_region_held_drew (S := BackS R C cap w.heap.size k y2) (by kernel_rfl) BK.out.1 (fun hHeld => ?_)
  refine wpAnyH_take (i := 0) (oi := ⟨_, _, _, _, _, _⟩) (v := ?_) rfl (by kernel_rfl) (by kernel_rfl) (by kernel_rfl) (fun _ _ _ h => h) (Or.inl ⟨by rfl, ?_⟩) (by assumption) ?_
  rotate_left 1
  · intro w hSw; obtain ⟨hSw, -⟩ := hSw; (try dsimp only at hSw); go_simp; all_goals with_reducible rfl
  try simp only [Act.put, List.setIfInBounds_toArray, List.set_cons_zero, List.set_cons_succ]
  refine wpAnyH_take (i := 1) (oi := ⟨_, _, _, _, _, _⟩) (v := ?_) rfl (by kernel_rfl) (by kernel_rfl) (by kernel_rfl) (fun _ _ _ h => h) (Or.inl ⟨by rfl, ?_⟩) (by assumption) ?_
  rotate_left 1
  · intro w hSw; obtain ⟨hSw, -⟩ := hSw; (try dsimp only at hSw); go_simp; all_goals with_reducible rfl
  try simp only [Act.put, List.setIfInBounds_toArray, List.set_cons_zero, List.set_cons_succ]
  refine wpAnyH_take (i := 2) (oi := ⟨_, _, _, _, _, _⟩) (v := ?_) rfl (by kernel_rfl) (by kernel_rfl) (by kernel_rfl) (fun _ _ _ h => h) (Or.inl ⟨by rfl, ?_⟩) (by assumption) ?_
  rotate_left 1
  · intro w hSw; obtain ⟨hSw, -⟩ := hSw; (try dsimp only at hSw); go_simp; all_goals with_reducible rfl
  try simp only [Act.put, List.setIfInBounds_toArray, List.set_cons_zero, List.set_cons_succ]
  refine wpAnyH_take (i := 3) (oi := ⟨_, _, _, _, _, _⟩) (v := ?_) rfl (by kernel_rfl) (by kernel_rfl) (by kernel_rfl) (fun _ _ _ h => h) (Or.inl ⟨by rfl, ?_⟩) (by assumption) ?_
  rotate_left 1
  · intro w hSw; obtain ⟨hSw, -⟩ := hSw; (try dsimp only at hSw); go_simp; all_goals with_reducible rfl
  try simp only [Act.put, List.setIfInBounds_toArray, List.set_cons_zero, List.set_cons_succ]
  refine wpAnyH_take (i := 4) (oi := ⟨_, _, _, _, _, _⟩) (v := ?_) rfl (by kernel_rfl) (by kernel_rfl) (by kernel_rfl) (fun _ _ _ h => h) (Or.inl ⟨by rfl, ?_⟩) (by assumption) ?_
  rotate_left 1
  · intro w hSw; obtain ⟨hSw, -⟩ := hSw; (try dsimp only at hSw); go_simp; all_goals with_reducible rfl
  try simp only [Act.put, List.setIfInBounds_toArray, List.set_cons_zero, List.set_cons_succ]
  refine wpAnyH_take (i := 5) (oi := ⟨_, _, _, _, _, _⟩) (v := .agg y2.cs.toArray) rfl (by kernel_rfl) (by kernel_rfl) (by kernel_rfl) (fun _ _ _ h => h) (Or.inl ⟨by rfl, ?_⟩) (by assumption) ?_
  · intro w9 hSw; exact exec_load 61 _ (by rfl) (.pointer (some ⟨w.heap.size, 0, none⟩)) (by rfl) _ hSw.2
  try simp only [Act.put, List.setIfInBounds_toArray, List.set_cons_zero, List.set_cons_succ]
  refine wpAnyH_take (i := 6) (oi := ⟨_, _, _, _, _, _⟩) (v := ?_) rfl (by kernel_rfl) (by kernel_rfl) (by kernel_rfl) (fun _ _ _ h => h) (Or.inl ⟨by rfl, ?_⟩) (by assumption) ?_
  rotate_left 1
  · intro w hSw; obtain ⟨hSw, -⟩ := hSw; (try dsimp only at hSw); go_simp; all_goals with_reducible rfl
  try simp only [Act.put, List.setIfInBounds_toArray, List.set_cons_zero, List.set_cons_succ]
  refine wpAnyH_ready (rs := [7]) (by kernel_rfl) (by simp) (AllReadyH.cons (o := ⟨_, _, _, _, _, _⟩) rfl (fun K hK => ?_) AllReadyH.nil)
  refine step_store_run (by rfl) 61 _ _ (by rfl) (.pointer (some ⟨C, k * 24, none⟩)) (.agg y2.cs.toArray) (by rfl) (by rfl) _ ST.out ?_
  refine hK.out _ _ ?_ (fun hHeld => ?_)
  · exact SZ.out
  clear hK K
  try simp only [Act.put]
  refine wpAnyH_done (by kernel_rfl) ?_ _
  have CC := hideIt (call_deep MZ.out.dx HOK.out HF.out.2.2 m f HF.out.1 y2 (by omega) (by rw [List.length_set]; exact hl2))
  go_wp2_with (first | (refine wpList_load_run (by rfl) 61 _ (by rfl) _ (by rfl) _ SZ.out.2 ?_) | (go_at_call 18; refine Calls.mono CC.out ?_; rintro e w9 ⟨rfl, h9⟩; have H9 := hideIt h9; clear h9) | fail)
  refine bodyPost_ret (v := .tuple #[]) (results_none rfl _ _ _) rfl ?_
  have e2 : y2 = { y with c := { y.c with pl := y.c.pl + 1 }, d := (d : Int) } := by rw [HY2.out, HY1.out]
  have FX := H9.out.1
  rw [e2] at FX
  exact ⟨rfl, _, FX, MZ.out.ex.trans H9.out.2⟩
end
end Da
end Go.Proofs.Ytnlgkiejppgfjaa
