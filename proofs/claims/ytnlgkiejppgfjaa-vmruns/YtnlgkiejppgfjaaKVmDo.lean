/-
  The document's machine (burinref25): a step: what is no word, a place that is none: contracts over the program; the conditions: the machine lies there, its word is in the program.
  The document's machine (burinref25): a step: a call ends: contracts over the program; the conditions: the machine lies there, its word is in the program.
-/
import Derived.Test.YtnlgkiejppgfjaaKVmDg
import Derived.Deep.DeepCutAuto
import Derived.BigRegion
namespace Go.Proofs.Ytnlgkiejppgfjaa
open Go.RowKit Go.Deep
set_option linter.unusedVariables false

namespace Da
section
variable {w w' w0 : World} {R : Nat} {col col' : Col} {im : PIm} {mem : List Int} {l : List Dc} {tr : List Int} {n : Nat} {cv kv tv : Value} {k : Nat} {y : Dc} {v tt : Int} {d a b : Nat} {i xa xb o : Int}
set_option maxRecDepth 100000 in
set_option maxHeartbeats 4000000 in
theorem none_any (h : DX w w0 R col im mem l tr false 0 0 false n cv kv tv) (hal : allok l) (hok : im.ok w0) (hlw : im.ws.length ≤ 240000) (hk : k + 1 = l.length) (hkm : k < 2000) (hy : l[k]? = some y) (hv : im.ws[y.c.pl]? = none) :
    Calls Try.prog 19 #[.pointer (some ⟨R, 0, none⟩)] w fun e w' => e = .returned (.tuple #[]) ∧ ∃ kv', DX w' w0 R col im mem l tr false 0 (5) false n cv kv' tv ∧ Ex col w col w' := by
  obtain ⟨C, cap, rfl, HL0, HS0, HM0⟩ := h.copy hal hy
  have c5 : w.cell? ⟨R, 5, none⟩ = some (.slice (some ⟨C, 0, none⟩) (k + 1) cap) := by rw [hk]; exact h.c0.2.2.2.2.2.1
  have HL := hideIt HL0
  have HS := hideIt HS0
  have hyo := hal y (List.mem_of_getElem? hy)
  have CT := hideIt (show ∀ X, Q (w.alloc (.cells y.cs.toArray 61)) X → Calls Try.prog 31 #[.pointer (some ⟨R, 0, none⟩), .int .i64 5] X fun e w' => e = .returned (.tuple #[]) ∧ DX w' w0 R col im mem l tr false 0 5 false n cv (.slice (some ⟨C, 0, none⟩) l.length cap) tv ∧ Ex col w col w' from fun X q => (trap_any (HM0.keep q).dx 5 (by omega) (by omega)).mono (fun e w' => fun ⟨h1, h2, h3⟩ => ⟨h1, h2, (HM0.keep q).ex.trans h3⟩))
  have hpl : im.ws.length ≤ y.c.pl := by rw [List.getElem?_eq_none_iff] at hv; exact hv
  have r0 : (w.alloc (.cells y.cs.toArray 61)).cell? ⟨R, 0, none⟩ = some (.slice im.wa im.ws.length im.wc) := HM0.dx.c0.1
  have b0 : (w.alloc (.cells y.cs.toArray 61)).cell? ⟨w.heap.size, 0, none⟩ = some (.int .i64 (y.c.pl : Int)) := HM0.cell (j := 0) rfl
  have z1 : IntKind.i64.wrap ((k : Int) + 1 - 1) = (k : Int) := by rw [IntKind.wrap_i64]; omega
  have zk : IntKind.i64.wrap (k : Int) = (k : Int) := by rw [IntKind.wrap_i64]; omega
  have p1 : decide ((y.c.pl : Int) < 0) = false := by simp
  have p2 : decide (im.ws.length ≤ y.c.pl) = true := by simpa using hpl
  clear h hal hok hlw hk hkm hy hv HL0 HS0 HM0 hyo
  go_enter Try.func19, Try.ntmps19
  go_wp2_with (first | (refine wpList_load_run (by rfl) 61 _ (by rfl) _ (by rfl) _ HL.out ?_) | (refine wpList_store_run (by rfl) 61 _ _ (by rfl) _ _ (by rfl) (by rfl) _ HS.out ?_) | fail)
  generalize w.alloc (.cells y.cs.toArray 61) = z at *
  go_quiet (fail)
  go_wp2_with (first |  (go_at_call 31; refine Calls.mono (CT.out _ (Q.drewN (Q.refl _) _)) ?_; rintro e y8 ⟨rfl, t8⟩; have HT8 := hideIt t8; clear t8) | fail)
  refine bodyPost_ret (v := .tuple #[]) (results_none rfl _ _ _) rfl ?_
  exact ⟨rfl, _, HT8.out⟩
set_option maxRecDepth 100000 in
set_option maxHeartbeats 4000000 in
theorem bad_0 (h : DX w w0 R col im mem l tr false 0 0 false n cv kv tv) (hal : allok l) (hok : im.ok w0) (hlw : im.ws.length ≤ 240000) (hk : k + 1 = l.length) (hkm : k < 2000) (hy : l[k]? = some y) (hv : im.ws[y.c.pl]? = some v) (hU : Cd.U64 v) (hc0 : f0 v ≠ 0) :
    Calls Try.prog 19 #[.pointer (some ⟨R, 0, none⟩)] w fun e w' => e = .returned (.tuple #[]) ∧ ∃ kv', DX w' w0 R col im mem l tr false 0 (5) false n cv kv' tv ∧ Ex col w col w' := by
  obtain ⟨C, cap, rfl, HL0, HS0, HM0⟩ := h.copy hal hy
  have c5 : w.cell? ⟨R, 5, none⟩ = some (.slice (some ⟨C, 0, none⟩) (k + 1) cap) := by rw [hk]; exact h.c0.2.2.2.2.2.1
  have HL := hideIt HL0
  have HS := hideIt HS0
  have hyo := hal y (List.mem_of_getElem? hy)
  have hpl := (List.getElem?_eq_some_iff.1 hv).1
  obtain ⟨wb, wo, ewa, hwc, -⟩ := Wds.at (hok.ws.keep (show Q w0 (w.alloc (.cells y.cs.toArray 61)) from HM0.dx.bel)) hv
  have r0 : (w.alloc (.cells y.cs.toArray 61)).cell? ⟨R, 0, none⟩ = some (.slice (some ⟨wb, wo, none⟩) im.ws.length im.wc) := by rw [← ewa]; exact HM0.dx.c0.1
  have b0 : (w.alloc (.cells y.cs.toArray 61)).cell? ⟨w.heap.size, 0, none⟩ = some (.int .i64 (y.c.pl : Int)) := HM0.cell (j := 0) rfl
  have g0 := HM0.fz 0
  have HY := hideIt (And.intro hy (And.intro hyo (And.intro hk (And.intro hal (And.intro hpl hlw)))))
  have HOK := hideIt hok
  have z1 : IntKind.i64.wrap ((k : Int) + 1 - 1) = (k : Int) := by rw [IntKind.wrap_i64]; omega
  have zk : IntKind.i64.wrap (k : Int) = (k : Int) := by rw [IntKind.wrap_i64]; omega
  have z3 : IntKind.i64.wrap ((y.c.pl : Int) + 1) = (y.c.pl : Int) + 1 := by rw [IntKind.wrap_i64]; omega
  have p1 : decide ((y.c.pl : Int) < 0) = false := by simp
  have p2 : decide ((im.ws.length : Int) ≤ (y.c.pl : Int)) = false := by simp; omega
  have hpi : (y.c.pl : Int) < (im.ws.length : Int) := by omega
  have CT := hideIt (show ∀ X, Q (w.alloc (.cells y.cs.toArray 61)) X → Calls Try.prog 31 #[.pointer (some ⟨R, 0, none⟩), .int .i64 5] X fun e w' => e = .returned (.tuple #[]) ∧ DX w' w0 R col im mem l tr false 0 5 false n cv (.slice (some ⟨C, 0, none⟩) l.length cap) tv ∧ Ex col w col w' from fun X q => (trap_any (HM0.keep q).dx 5 (by omega) (by omega)).mono (fun e w' => fun ⟨h1, h2, h3⟩ => ⟨h1, h2, (HM0.keep q).ex.trans h3⟩))
  have k0 : (f0 v == 0) = false := by simpa using hc0
  have C_fo := hideIt (fun X => part_fo v hU X)
  have C_ft := hideIt (fun X => part_ft v hU X)
  have C_fd := hideIt (fun X => part_fd v hU X)
  have C_fa := hideIt (fun X => part_fa v hU X)
  have C_fb := hideIt (fun X => part_fb v hU X)
  have C_f0 := hideIt (fun X => part_f0 v hU X)
  clear h hal hok hlw hk hkm hy hv hU HL0 HS0 HM0 hyo hpl ewa
  have e0 : (IntKind.i64.wrap (f0 v)) = f0 v := by rw [IntKind.wrap_i64]; unfold f0; omega
  go_enter Try.func19, Try.ntmps19
  go_wp2_with (first | (refine wpList_load_run (by rfl) 61 _ (by rfl) _ (by rfl) _ HL.out ?_) | (refine wpList_store_run (by rfl) 61 _ _ (by rfl) _ _ (by rfl) (by rfl) _ HS.out ?_) | fail)
  generalize w.alloc (.cells y.cs.toArray 61) = z at *
  go_quiet (fail)
  go_wp2_with (fail)
  go_quiet (fail)
  go_wp2_with (fail)
  go_at_call 32; refine Calls.mono (C_fo.out _) ?_; rintro e y1 ⟨rfl, m1, rfl⟩
  go_wp2_with (fail)
  go_at_call 32; refine Calls.mono (C_ft.out _) ?_; rintro e y2 ⟨rfl, m2, rfl⟩
  go_wp2_with (fail)
  go_at_call 32; refine Calls.mono (C_fd.out _) ?_; rintro e y3 ⟨rfl, m3, rfl⟩
  go_wp2_with (fail)
  go_at_call 32; refine Calls.mono (C_fa.out _) ?_; rintro e y4 ⟨rfl, m4, rfl⟩
  go_wp2_with (fail)
  go_at_call 32; refine Calls.mono (C_fb.out _) ?_; rintro e y5 ⟨rfl, m5, rfl⟩
  go_wp2_with (fail)
  go_at_call 32; refine Calls.mono (C_f0.out _) ?_; rintro e y6 ⟨rfl, m6, rfl⟩
  go_wp2_with (first |  (go_at_call 31; refine Calls.mono (CT.out _ (Q.drewN (Q.refl _) _)) ?_; rintro e y8 ⟨rfl, t8⟩; have HT8 := hideIt t8; clear t8) | fail)
  refine bodyPost_ret (v := .tuple #[]) (results_none rfl _ _ _) rfl ?_
  exact ⟨rfl, _, HT8.out⟩
set_option maxRecDepth 100000 in
set_option maxHeartbeats 4000000 in
theorem bad_1 (h : DX w w0 R col im mem l tr false 0 0 false n cv kv tv) (hal : allok l) (hok : im.ok w0) (hlw : im.ws.length ≤ 240000) (hk : k + 1 = l.length) (hkm : k < 2000) (hy : l[k]? = some y) (hv : im.ws[y.c.pl]? = some v) (hU : Cd.U64 v) (hc0 : f0 v = 0) (hc1 : 5 < ft v) :
    Calls Try.prog 19 #[.pointer (some ⟨R, 0, none⟩)] w fun e w' => e = .returned (.tuple #[]) ∧ ∃ kv', DX w' w0 R col im mem l tr false 0 (5) false n cv kv' tv ∧ Ex col w col w' := by
  obtain ⟨C, cap, rfl, HL0, HS0, HM0⟩ := h.copy hal hy
  have c5 : w.cell? ⟨R, 5, none⟩ = some (.slice (some ⟨C, 0, none⟩) (k + 1) cap) := by rw [hk]; exact h.c0.2.2.2.2.2.1
  have HL := hideIt HL0
  have HS := hideIt HS0
  have hyo := hal y (List.mem_of_getElem? hy)
  have hpl := (List.getElem?_eq_some_iff.1 hv).1
  obtain ⟨wb, wo, ewa, hwc, -⟩ := Wds.at (hok.ws.keep (show Q w0 (w.alloc (.cells y.cs.toArray 61)) from HM0.dx.bel)) hv
  have r0 : (w.alloc (.cells y.cs.toArray 61)).cell? ⟨R, 0, none⟩ = some (.slice (some ⟨wb, wo, none⟩) im.ws.length im.wc) := by rw [← ewa]; exact HM0.dx.c0.1
  have b0 : (w.alloc (.cells y.cs.toArray 61)).cell? ⟨w.heap.size, 0, none⟩ = some (.int .i64 (y.c.pl : Int)) := HM0.cell (j := 0) rfl
  have g0 := HM0.fz 0
  have HY := hideIt (And.intro hy (And.intro hyo (And.intro hk (And.intro hal (And.intro hpl hlw)))))
  have HOK := hideIt hok
  have z1 : IntKind.i64.wrap ((k : Int) + 1 - 1) = (k : Int) := by rw [IntKind.wrap_i64]; omega
  have zk : IntKind.i64.wrap (k : Int) = (k : Int) := by rw [IntKind.wrap_i64]; omega
  have z3 : IntKind.i64.wrap ((y.c.pl : Int) + 1) = (y.c.pl : Int) + 1 := by rw [IntKind.wrap_i64]; omega
  have p1 : decide ((y.c.pl : Int) < 0) = false := by simp
  have p2 : decide ((im.ws.length : Int) ≤ (y.c.pl : Int)) = false := by simp; omega
  have hpi : (y.c.pl : Int) < (im.ws.length : Int) := by omega
  have CT := hideIt (show ∀ X, Q (w.alloc (.cells y.cs.toArray 61)) X → Calls Try.prog 31 #[.pointer (some ⟨R, 0, none⟩), .int .i64 5] X fun e w' => e = .returned (.tuple #[]) ∧ DX w' w0 R col im mem l tr false 0 5 false n cv (.slice (some ⟨C, 0, none⟩) l.length cap) tv ∧ Ex col w col w' from fun X q => (trap_any (HM0.keep q).dx 5 (by omega) (by omega)).mono (fun e w' => fun ⟨h1, h2, h3⟩ => ⟨h1, h2, (HM0.keep q).ex.trans h3⟩))
  have k0 : (f0 v == 0) = true := by simpa using hc0
  have k1 : decide (5 < ft v) = true := by simpa using hc1
  have C_fo := hideIt (fun X => part_fo v hU X)
  have C_ft := hideIt (fun X => part_ft v hU X)
  have C_fd := hideIt (fun X => part_fd v hU X)
  have C_fa := hideIt (fun X => part_fa v hU X)
  have C_fb := hideIt (fun X => part_fb v hU X)
  have C_f0 := hideIt (fun X => part_f0 v hU X)
  clear h hal hok hlw hk hkm hy hv hU HL0 HS0 HM0 hyo hpl ewa
  go_enter Try.func19, Try.ntmps19
  go_wp2_with (first | (refine wpList_load_run (by rfl) 61 _ (by rfl) _ (by rfl) _ HL.out ?_) | (refine wpList_store_run (by rfl) 61 _ _ (by rfl) _ _ (by rfl) (by rfl) _ HS.out ?_) | fail)
  generalize w.alloc (.cells y.cs.toArray 61) = z at *
  go_quiet (fail)
  go_wp2_with (fail)
  go_quiet (fail)
  go_wp2_with (fail)
  go_at_call 32; refine Calls.mono (C_fo.out _) ?_; rintro e y1 ⟨rfl, m1, rfl⟩
  go_wp2_with (fail)
  go_at_call 32; refine Calls.mono (C_ft.out _) ?_; rintro e y2 ⟨rfl, m2, rfl⟩
  go_wp2_with (fail)
  go_at_call 32; refine Calls.mono (C_fd.out _) ?_; rintro e y3 ⟨rfl, m3, rfl⟩
  go_wp2_with (fail)
  go_at_call 32; refine Calls.mono (C_fa.out _) ?_; rintro e y4 ⟨rfl, m4, rfl⟩
  go_wp2_with (fail)
  go_at_call 32; refine Calls.mono (C_fb.out _) ?_; rintro e y5 ⟨rfl, m5, rfl⟩
  go_wp2_with (fail)
  go_at_call 32; refine Calls.mono (C_f0.out _) ?_; rintro e y6 ⟨rfl, m6, rfl⟩
  go_wp2_with (first |  (go_at_call 31; refine Calls.mono (CT.out _ (Q.drewN (Q.refl _) _)) ?_; rintro e y8 ⟨rfl, t8⟩; have HT8 := hideIt t8; clear t8) | fail)
  refine bodyPost_ret (v := .tuple #[]) (results_none rfl _ _ _) rfl ?_
  exact ⟨rfl, _, HT8.out⟩
set_option maxRecDepth 100000 in
set_option maxHeartbeats 4000000 in
theorem bad_2 (h : DX w w0 R col im mem l tr false 0 0 false n cv kv tv) (hal : allok l) (hok : im.ok w0) (hlw : im.ws.length ≤ 240000) (hk : k + 1 = l.length) (hkm : k < 2000) (hy : l[k]? = some y) (hv : im.ws[y.c.pl]? = some v) (hU : Cd.U64 v) (hc0 : f0 v = 0) (hc1 : ¬ 5 < ft v) (hc2 : 7 < fd v) :
    Calls Try.prog 19 #[.pointer (some ⟨R, 0, none⟩)] w fun e w' => e = .returned (.tuple #[]) ∧ ∃ kv', DX w' w0 R col im mem l tr false 0 (5) false n cv kv' tv ∧ Ex col w col w' := by
  obtain ⟨C, cap, rfl, HL0, HS0, HM0⟩ := h.copy hal hy
  have c5 : w.cell? ⟨R, 5, none⟩ = some (.slice (some ⟨C, 0, none⟩) (k + 1) cap) := by rw [hk]; exact h.c0.2.2.2.2.2.1
  have HL := hideIt HL0
  have HS := hideIt HS0
  have hyo := hal y (List.mem_of_getElem? hy)
  have hpl := (List.getElem?_eq_some_iff.1 hv).1
  obtain ⟨wb, wo, ewa, hwc, -⟩ := Wds.at (hok.ws.keep (show Q w0 (w.alloc (.cells y.cs.toArray 61)) from HM0.dx.bel)) hv
  have r0 : (w.alloc (.cells y.cs.toArray 61)).cell? ⟨R, 0, none⟩ = some (.slice (some ⟨wb, wo, none⟩) im.ws.length im.wc) := by rw [← ewa]; exact HM0.dx.c0.1
  have b0 : (w.alloc (.cells y.cs.toArray 61)).cell? ⟨w.heap.size, 0, none⟩ = some (.int .i64 (y.c.pl : Int)) := HM0.cell (j := 0) rfl
  have g0 := HM0.fz 0
  have HY := hideIt (And.intro hy (And.intro hyo (And.intro hk (And.intro hal (And.intro hpl hlw)))))
  have HOK := hideIt hok
  have z1 : IntKind.i64.wrap ((k : Int) + 1 - 1) = (k : Int) := by rw [IntKind.wrap_i64]; omega
  have zk : IntKind.i64.wrap (k : Int) = (k : Int) := by rw [IntKind.wrap_i64]; omega
  have z3 : IntKind.i64.wrap ((y.c.pl : Int) + 1) = (y.c.pl : Int) + 1 := by rw [IntKind.wrap_i64]; omega
  have p1 : decide ((y.c.pl : Int) < 0) = false := by simp
  have p2 : decide ((im.ws.length : Int) ≤ (y.c.pl : Int)) = false := by simp; omega
  have hpi : (y.c.pl : Int) < (im.ws.length : Int) := by omega
  have CT := hideIt (show ∀ X, Q (w.alloc (.cells y.cs.toArray 61)) X → Calls Try.prog 31 #[.pointer (some ⟨R, 0, none⟩), .int .i64 5] X fun e w' => e = .returned (.tuple #[]) ∧ DX w' w0 R col im mem l tr false 0 5 false n cv (.slice (some ⟨C, 0, none⟩) l.length cap) tv ∧ Ex col w col w' from fun X q => (trap_any (HM0.keep q).dx 5 (by omega) (by omega)).mono (fun e w' => fun ⟨h1, h2, h3⟩ => ⟨h1, h2, (HM0.keep q).ex.trans h3⟩))
  have k0 : (f0 v == 0) = true := by simpa using hc0
  have k1 : decide (5 < ft v) = false := by simpa using hc1
  have k2 : decide (7 < fd v) = true := by simpa using hc2
  have C_fo := hideIt (fun X => part_fo v hU X)
  have C_ft := hideIt (fun X => part_ft v hU X)
  have C_fd := hideIt (fun X => part_fd v hU X)
  have C_fa := hideIt (fun X => part_fa v hU X)
  have C_fb := hideIt (fun X => part_fb v hU X)
  have C_f0 := hideIt (fun X => part_f0 v hU X)
  clear h hal hok hlw hk hkm hy hv hU HL0 HS0 HM0 hyo hpl ewa
  go_enter Try.func19, Try.ntmps19
  go_wp2_with (first | (refine wpList_load_run (by rfl) 61 _ (by rfl) _ (by rfl) _ HL.out ?_) | (refine wpList_store_run (by rfl) 61 _ _ (by rfl) _ _ (by rfl) (by rfl) _ HS.out ?_) | fail)
  generalize w.alloc (.cells y.cs.toArray 61) = z at *
  go_quiet (fail)
  go_wp2_with (fail)
  go_quiet (fail)
  go_wp2_with (fail)
  go_at_call 32; refine Calls.mono (C_fo.out _) ?_; rintro e y1 ⟨rfl, m1, rfl⟩
  go_wp2_with (fail)
  go_at_call 32; refine Calls.mono (C_ft.out _) ?_; rintro e y2 ⟨rfl, m2, rfl⟩
  go_wp2_with (fail)
  go_at_call 32; refine Calls.mono (C_fd.out _) ?_; rintro e y3 ⟨rfl, m3, rfl⟩
  go_wp2_with (fail)
  go_at_call 32; refine Calls.mono (C_fa.out _) ?_; rintro e y4 ⟨rfl, m4, rfl⟩
  go_wp2_with (fail)
  go_at_call 32; refine Calls.mono (C_fb.out _) ?_; rintro e y5 ⟨rfl, m5, rfl⟩
  go_wp2_with (fail)
  go_at_call 32; refine Calls.mono (C_f0.out _) ?_; rintro e y6 ⟨rfl, m6, rfl⟩
  go_wp2_with (first |  (go_at_call 31; refine Calls.mono (CT.out _ (Q.drewN (Q.refl _) _)) ?_; rintro e y8 ⟨rfl, t8⟩; have HT8 := hideIt t8; clear t8) | fail)
  refine bodyPost_ret (v := .tuple #[]) (results_none rfl _ _ _) rfl ?_
  exact ⟨rfl, _, HT8.out⟩
set_option maxRecDepth 100000 in
set_option maxHeartbeats 4000000 in
theorem bad_3 (h : DX w w0 R col im mem l tr false 0 0 false n cv kv tv) (hal : allok l) (hok : im.ok w0) (hlw : im.ws.length ≤ 240000) (hk : k + 1 = l.length) (hkm : k < 2000) (hy : l[k]? = some y) (hv : im.ws[y.c.pl]? = some v) (hU : Cd.U64 v) (hc0 : f0 v = 0) (hc1 : ¬ 5 < ft v) (hc2 : ¬ 7 < fd v) (hc3 : 7 < fa v) :
    Calls Try.prog 19 #[.pointer (some ⟨R, 0, none⟩)] w fun e w' => e = .returned (.tuple #[]) ∧ ∃ kv', DX w' w0 R col im mem l tr false 0 (5) false n cv kv' tv ∧ Ex col w col w' := by
  obtain ⟨C, cap, rfl, HL0, HS0, HM0⟩ := h.copy hal hy
  have c5 : w.cell? ⟨R, 5, none⟩ = some (.slice (some ⟨C, 0, none⟩) (k + 1) cap) := by rw [hk]; exact h.c0.2.2.2.2.2.1
  have HL := hideIt HL0
  have HS := hideIt HS0
  have hyo := hal y (List.mem_of_getElem? hy)
  have hpl := (List.getElem?_eq_some_iff.1 hv).1
  obtain ⟨wb, wo, ewa, hwc, -⟩ := Wds.at (hok.ws.keep (show Q w0 (w.alloc (.cells y.cs.toArray 61)) from HM0.dx.bel)) hv
  have r0 : (w.alloc (.cells y.cs.toArray 61)).cell? ⟨R, 0, none⟩ = some (.slice (some ⟨wb, wo, none⟩) im.ws.length im.wc) := by rw [← ewa]; exact HM0.dx.c0.1
  have b0 : (w.alloc (.cells y.cs.toArray 61)).cell? ⟨w.heap.size, 0, none⟩ = some (.int .i64 (y.c.pl : Int)) := HM0.cell (j := 0) rfl
  have g0 := HM0.fz 0
  have HY := hideIt (And.intro hy (And.intro hyo (And.intro hk (And.intro hal (And.intro hpl hlw)))))
  have HOK := hideIt hok
  have z1 : IntKind.i64.wrap ((k : Int) + 1 - 1) = (k : Int) := by rw [IntKind.wrap_i64]; omega
  have zk : IntKind.i64.wrap (k : Int) = (k : Int) := by rw [IntKind.wrap_i64]; omega
  have z3 : IntKind.i64.wrap ((y.c.pl : Int) + 1) = (y.c.pl : Int) + 1 := by rw [IntKind.wrap_i64]; omega
  have p1 : decide ((y.c.pl : Int) < 0) = false := by simp
  have p2 : decide ((im.ws.length : Int) ≤ (y.c.pl : Int)) = false := by simp; omega
  have hpi : (y.c.pl : Int) < (im.ws.length : Int) := by omega
  have CT := hideIt (show ∀ X, Q (w.alloc (.cells y.cs.toArray 61)) X → Calls Try.prog 31 #[.pointer (some ⟨R, 0, none⟩), .int .i64 5] X fun e w' => e = .returned (.tuple #[]) ∧ DX w' w0 R col im mem l tr false 0 5 false n cv (.slice (some ⟨C, 0, none⟩) l.length cap) tv ∧ Ex col w col w' from fun X q => (trap_any (HM0.keep q).dx 5 (by omega) (by omega)).mono (fun e w' => fun ⟨h1, h2, h3⟩ => ⟨h1, h2, (HM0.keep q).ex.trans h3⟩))
  have k0 : (f0 v == 0) = true := by simpa using hc0
  have k1 : decide (5 < ft v) = false := by simpa using hc1
  have k2 : decide (7 < fd v) = false := by simpa using hc2
  have k3 : decide (7 < fa v) = true := by simpa using hc3
  have C_fo := hideIt (fun X => part_fo v hU X)
  have C_ft := hideIt (fun X => part_ft v hU X)
  have C_fd := hideIt (fun X => part_fd v hU X)
  have C_fa := hideIt (fun X => part_fa v hU X)
  have C_fb := hideIt (fun X => part_fb v hU X)
  have C_f0 := hideIt (fun X => part_f0 v hU X)
  clear h hal hok hlw hk hkm hy hv hU HL0 HS0 HM0 hyo hpl ewa
  go_enter Try.func19, Try.ntmps19
  go_wp2_with (first | (refine wpList_load_run (by rfl) 61 _ (by rfl) _ (by rfl) _ HL.out ?_) | (refine wpList_store_run (by rfl) 61 _ _ (by rfl) _ _ (by rfl) (by rfl) _ HS.out ?_) | fail)
  generalize w.alloc (.cells y.cs.toArray 61) = z at *
  go_quiet (fail)
  go_wp2_with (fail)
  go_quiet (fail)
  go_wp2_with (fail)
  go_at_call 32; refine Calls.mono (C_fo.out _) ?_; rintro e y1 ⟨rfl, m1, rfl⟩
  go_wp2_with (fail)
  go_at_call 32; refine Calls.mono (C_ft.out _) ?_; rintro e y2 ⟨rfl, m2, rfl⟩
  go_wp2_with (fail)
  go_at_call 32; refine Calls.mono (C_fd.out _) ?_; rintro e y3 ⟨rfl, m3, rfl⟩
  go_wp2_with (fail)
  go_at_call 32; refine Calls.mono (C_fa.out _) ?_; rintro e y4 ⟨rfl, m4, rfl⟩
  go_wp2_with (fail)
  go_at_call 32; refine Calls.mono (C_fb.out _) ?_; rintro e y5 ⟨rfl, m5, rfl⟩
  go_wp2_with (fail)
  go_at_call 32; refine Calls.mono (C_f0.out _) ?_; rintro e y6 ⟨rfl, m6, rfl⟩
  go_wp2_with (first |  (go_at_call 31; refine Calls.mono (CT.out _ (Q.drewN (Q.refl _) _)) ?_; rintro e y8 ⟨rfl, t8⟩; have HT8 := hideIt t8; clear t8) | fail)
  refine bodyPost_ret (v := .tuple #[]) (results_none rfl _ _ _) rfl ?_
  exact ⟨rfl, _, HT8.out⟩
set_option maxRecDepth 100000 in
set_option maxHeartbeats 4000000 in
theorem bad_4 (h : DX w w0 R col im mem l tr false 0 0 false n cv kv tv) (hal : allok l) (hok : im.ok w0) (hlw : im.ws.length ≤ 240000) (hk : k + 1 = l.length) (hkm : k < 2000) (hy : l[k]? = some y) (hv : im.ws[y.c.pl]? = some v) (hU : Cd.U64 v) (hc0 : f0 v = 0) (hc1 : ¬ 5 < ft v) (hc2 : ¬ 7 < fd v) (hc3 : ¬ 7 < fa v) (hc4 : 7 < fb v) :
    Calls Try.prog 19 #[.pointer (some ⟨R, 0, none⟩)] w fun e w' => e = .returned (.tuple #[]) ∧ ∃ kv', DX w' w0 R col im mem l tr false 0 (5) false n cv kv' tv ∧ Ex col w col w' := by
  obtain ⟨C, cap, rfl, HL0, HS0, HM0⟩ := h.copy hal hy
  have c5 : w.cell? ⟨R, 5, none⟩ = some (.slice (some ⟨C, 0, none⟩) (k + 1) cap) := by rw [hk]; exact h.c0.2.2.2.2.2.1
  have HL := hideIt HL0
  have HS := hideIt HS0
  have hyo := hal y (List.mem_of_getElem? hy)
  have hpl := (List.getElem?_eq_some_iff.1 hv).1
  obtain ⟨wb, wo, ewa, hwc, -⟩ := Wds.at (hok.ws.keep (show Q w0 (w.alloc (.cells y.cs.toArray 61)) from HM0.dx.bel)) hv
  have r0 : (w.alloc (.cells y.cs.toArray 61)).cell? ⟨R, 0, none⟩ = some (.slice (some ⟨wb, wo, none⟩) im.ws.length im.wc) := by rw [← ewa]; exact HM0.dx.c0.1
  have b0 : (w.alloc (.cells y.cs.toArray 61)).cell? ⟨w.heap.size, 0, none⟩ = some (.int .i64 (y.c.pl : Int)) := HM0.cell (j := 0) rfl
  have g0 := HM0.fz 0
  have HY := hideIt (And.intro hy (And.intro hyo (And.intro hk (And.intro hal (And.intro hpl hlw)))))
  have HOK := hideIt hok
  have z1 : IntKind.i64.wrap ((k : Int) + 1 - 1) = (k : Int) := by rw [IntKind.wrap_i64]; omega
  have zk : IntKind.i64.wrap (k : Int) = (k : Int) := by rw [IntKind.wrap_i64]; omega
  have z3 : IntKind.i64.wrap ((y.c.pl : Int) + 1) = (y.c.pl : Int) + 1 := by rw [IntKind.wrap_i64]; omega
  have p1 : decide ((y.c.pl : Int) < 0) = false := by simp
  have p2 : decide ((im.ws.length : Int) ≤ (y.c.pl : Int)) = false := by simp; omega
  have hpi : (y.c.pl : Int) < (im.ws.length : Int) := by omega
  have CT := hideIt (show ∀ X, Q (w.alloc (.cells y.cs.toArray 61)) X → Calls Try.prog 31 #[.pointer (some ⟨R, 0, none⟩), .int .i64 5] X fun e w' => e = .returned (.tuple #[]) ∧ DX w' w0 R col im mem l tr false 0 5 false n cv (.slice (some ⟨C, 0, none⟩) l.length cap) tv ∧ Ex col w col w' from fun X q => (trap_any (HM0.keep q).dx 5 (by omega) (by omega)).mono (fun e w' => fun ⟨h1, h2, h3⟩ => ⟨h1, h2, (HM0.keep q).ex.trans h3⟩))
  have k0 : (f0 v == 0) = true := by simpa using hc0
  have k1 : decide (5 < ft v) = false := by simpa using hc1
  have k2 : decide (7 < fd v) = false := by simpa using hc2
  have k3 : decide (7 < fa v) = false := by simpa using hc3
  have k4 : decide (7 < fb v) = true := by simpa using hc4
  have C_fo := hideIt (fun X => part_fo v hU X)
  have C_ft := hideIt (fun X => part_ft v hU X)
  have C_fd := hideIt (fun X => part_fd v hU X)
  have C_fa := hideIt (fun X => part_fa v hU X)
  have C_fb := hideIt (fun X => part_fb v hU X)
  have C_f0 := hideIt (fun X => part_f0 v hU X)
  clear h hal hok hlw hk hkm hy hv hU HL0 HS0 HM0 hyo hpl ewa
  go_enter Try.func19, Try.ntmps19
  go_wp2_with (first | (refine wpList_load_run (by rfl) 61 _ (by rfl) _ (by rfl) _ HL.out ?_) | (refine wpList_store_run (by rfl) 61 _ _ (by rfl) _ _ (by rfl) (by rfl) _ HS.out ?_) | fail)
  generalize w.alloc (.cells y.cs.toArray 61) = z at *
  go_quiet (fail)
  go_wp2_with (fail)
  go_quiet (fail)
  go_wp2_with (fail)
  go_at_call 32; refine Calls.mono (C_fo.out _) ?_; rintro e y1 ⟨rfl, m1, rfl⟩
  go_wp2_with (fail)
  go_at_call 32; refine Calls.mono (C_ft.out _) ?_; rintro e y2 ⟨rfl, m2, rfl⟩
  go_wp2_with (fail)
  go_at_call 32; refine Calls.mono (C_fd.out _) ?_; rintro e y3 ⟨rfl, m3, rfl⟩
  go_wp2_with (fail)
  go_at_call 32; refine Calls.mono (C_fa.out _) ?_; rintro e y4 ⟨rfl, m4, rfl⟩
  go_wp2_with (fail)
  go_at_call 32; refine Calls.mono (C_fb.out _) ?_; rintro e y5 ⟨rfl, m5, rfl⟩
  go_wp2_with (fail)
  go_at_call 32; refine Calls.mono (C_f0.out _) ?_; rintro e y6 ⟨rfl, m6, rfl⟩
  go_wp2_with (first |  (go_at_call 31; refine Calls.mono (CT.out _ (Q.drewN (Q.refl _) _)) ?_; rintro e y8 ⟨rfl, t8⟩; have HT8 := hideIt t8; clear t8) | fail)
  refine bodyPost_ret (v := .tuple #[]) (results_none rfl _ _ _) rfl ?_
  exact ⟨rfl, _, HT8.out⟩
end
end Da
end Go.Proofs.Ytnlgkiejppgfjaa

namespace Go.Proofs.Ytnlgkiejppgfjaa
open Go.RowKit Go.Deep
set_option linter.unusedVariables false

namespace Da
section
variable {w w' w0 : World} {R : Nat} {col col' : Col} {im : PIm} {mem : List Int} {l : List Dc} {tr : List Int} {n : Nat} {cv kv tv : Value} {k : Nat} {y : Dc} {v tt : Int} {d a b : Nat} {i xa xb o : Int}
theorem rowK_take {l : List Dc} (hal : allok l) (k : Nat) (hk : k ≤ l.length) : rowK (l.take k) = (rowK l).take (k * 24) := by
  have hl : (rowK (l.take k)).length = k * 24 := by rw [rowK_len _ (allok_take hal k), List.length_take, Nat.min_eq_left hk]
  have e : rowK l = rowK (l.take k) ++ rowK (l.drop k) := by rw [← rowK_app, List.take_append_drop]
  rw [e]
  rw [List.take_append_of_le_length (by omega)]
  exact (List.take_of_length_le (by omega)).symm
theorem row_cutK {w : World} {base : Nat} {T : TypeId} {a : Option Addr} {c : Nat} {l : List Dc} (hal : allok l) (h : w.ownsRow base T 24 (.slice a l.length c) l.length (rowK l)) (k : Nat) (hk : k ≤ l.length) :
    w.ownsRow base T 24 (.slice a k c) (l.take k).length (rowK (l.take k)) := by
  have hlk : (l.take k).length = k := by rw [List.length_take]; omega
  rw [hlk]
  refine ⟨by rw [rowK_len _ (allok_take hal k), hlk], ?_⟩
  rcases h.2 with ⟨e0, e1⟩ | ⟨g, cap, cur, e0, hb, hg, hnc, hcm, hcs, ht⟩
  · injection e0 with e0 e2 e3
    subst e0; subst e3
    exact .inl ⟨by rw [show k = 0 by omega], by omega⟩
  · injection e0 with e0 e2 e3
    subst e0; subst e3
    refine .inr ⟨g, c, cur, rfl, hb, hg, by omega, hcm, hcs, ?_⟩
    rw [rowK_take hal k hk, ← ht, List.take_take, Nat.min_eq_left (Nat.mul_le_mul_right 24 hk)]
theorem rowK_put {l : List Dc} (hal : allok l) {k : Nat} {p p' : Dc} (hp : l[k]? = some p) {j : Nat} (hj : j < 24) {u : Value} (he : p'.cs = p.cs.set j u) : rowK (l.set k p') = (rowK l).set (k * 24 + j) u := by
  have hk := (List.getElem?_eq_some_iff.1 hp).1
  have hl : (rowK (l.take k)).length = k * 24 := by rw [rowK_len _ (allok_take hal k), List.length_take]; congr 1; omega
  have h2 : p.cs.length = 24 := Dc.len (hal p (List.mem_of_getElem? hp))
  rw [rowK_set hk, rowK_split hp, he, List.set_append_right _ _ (by omega), hl, Nat.add_sub_cancel_left, List.set_append_left _ _ (by omega)]
/-- Memory is cut, the calls' box stays. -/
theorem Mid.cutm {z : World} {hh sp : Bool} {x t : Int} {C cap B : Nat} {ca : Option Addr} {cc : Nat} (h : Mid z w w0 R col im mem l tr hh x t sp n (.slice ca mem.length cc) C cap tv B y) (q : Nat) (hq : q ≤ mem.length) :
    Mid (z.setCell ⟨R, 4, none⟩ (.slice ca q cc)) w w0 R col im (mem.take q) l tr hh x t sp n (.slice ca q cc) C cap tv B y := by
  have hlq : (mem.take q).length = q := by rw [List.length_take]; omega
  obtain ⟨m1, m2⟩ := h.dx.setR (j := 4) (u := .slice ca q cc) (mem' := mem.take q) (l' := l) (hh' := hh) (x' := x) (t' := t) (sp' := sp) (n' := n) (cv' := .slice ca q cc) (kv' := .slice (some ⟨C, 0, none⟩) l.length cap) (by simp) (by rw [hlq]; exact row_cut h.dx.mo q hq) (fun b e => h.dx.moc b (by cases ca <;> exact e)) h.dx.ko h.dx.koc
  have hB : B ≠ R := fun e => by have := h.bn; rw [e, h.dx.colR] at this; cases this
  exact ⟨m1, (heap_setCell_other z _ B _ hB).trans h.bx, h.bn, h.ge, h.bw, h.ex.trans m2, h.all, h.ok⟩
/-- The list of calls is cut. -/
theorem DX.cutk {z : World} {hh sp : Bool} {x t : Int} {C cap : Nat} (h : DX z w0 R col im mem l tr hh x t sp n cv (.slice (some ⟨C, 0, none⟩) l.length cap) tv) (hal : allok l) (q : Nat) (hq : q ≤ l.length) :
    DX (z.setCell ⟨R, 5, none⟩ (.slice (some ⟨C, 0, none⟩) q cap)) w0 R col im mem (l.take q) tr hh x t sp n cv (.slice (some ⟨C, 0, none⟩) q cap) tv ∧ Ex col z col (z.setCell ⟨R, 5, none⟩ (.slice (some ⟨C, 0, none⟩) q cap)) :=
  h.setR (j := 5) (u := .slice (some ⟨C, 0, none⟩) q cap) (mem' := mem) (l' := l.take q) (hh' := hh) (x' := x) (t' := t) (sp' := sp) (n' := n) (cv' := cv) (kv' := .slice (some ⟨C, 0, none⟩) q cap) (by simp) h.mo h.moc (row_cutK hal h.ko q hq) (fun b e => h.koc b e)
/-- A register of a call in the list is written. -/
theorem DX.putk {z : World} {hh sp : Bool} {x t : Int} {C cap : Nat} (h : DX z w0 R col im mem l tr hh x t sp n cv (.slice (some ⟨C, 0, none⟩) l.length cap) tv) (hal : allok l) {k : Nat} {p : Dc} (hp : l[k]? = some p) {q : Nat} (hq : q < 8) (u : Int) :
    (∃ u0, z.cell? ⟨C, k * 24 + 4 + q, none⟩ = some u0) ∧ z.frozen? ⟨C, k * 24 + 4 + q, none⟩ = false ∧ z.cell? ⟨C, k * 24 + 3, none⟩ = some (.int .i64 p.d) ∧
    DX (z.setCell ⟨C, k * 24 + 4 + q, none⟩ (.int .i64 u)) w0 R col im mem (l.set k { p with c := { p.c with rg := p.c.rg.set q u } }) tr hh x t sp n cv (.slice (some ⟨C, 0, none⟩) (l.set k { p with c := { p.c with rg := p.c.rg.set q u } }).length cap) tv ∧ Ex col z col (z.setCell ⟨C, k * 24 + 4 + q, none⟩ (.int .i64 u)) := by
  rw [show k * 24 + 4 + q = k * 24 + (4 + q) from Nat.add_assoc _ _ _]
  have hk := (List.getElem?_eq_some_iff.1 hp).1
  have hpo := hal p (List.mem_of_getElem? hp)
  have hr8 := hpo.rg
  obtain ⟨r, hr⟩ := get_of_lt (l := p.c.rg) (k := q) (by omega)
  have at3 : (rowK l)[k * 24 + 3]? = some (.int .i64 p.d) := (rowK_at hal hp (by omega)).trans rfl
  have atr : (rowK l)[k * 24 + (4 + q)]? = some (.int .i64 r) := (rowK_at hal hp (by omega)).trans (Dc.rgAt hpo hr)
  have ho := h.ko
  rcases ho.2 with ⟨e0, -⟩ | ⟨g, cp, ks, e0, hb, hg, hnc, hcm, hcs, ht⟩
  · injection e0 with e0; cases e0
  · injection e0 with e1 e2 e3
    injection e1 with e1
    injection e1 with e1
    subst e1; subst e3
    have cell : ∀ (j : Nat) (v : Value), j < l.length * 24 → (rowK l)[j]? = some v → z.cell? ⟨C, j, none⟩ = some v := fun j v hj hv => by
      rw [cell_of_block hg, ← Array.getElem?_toList]
      rw [← ht, List.getElem?_take, if_pos hj] at hv
      exact hv
    have hle : (k + 1) * 24 ≤ l.length * 24 := Nat.mul_le_mul_right 24 hk
    have b0 := heap_setCell_same z C (k * 24 + (4 + q)) ks 61 (.int .i64 u) hg
    obtain ⟨m1, m2⟩ := h.setK (w' := z.setCell ⟨C, k * 24 + (4 + q), none⟩ (.int .i64 u)) (ks' := ks.setIfInBounds (k * 24 + (4 + q)) (.int .i64 u)) (l' := l.set k { p with c := { p.c with rg := p.c.rg.set q u } }) (by simp) (by simp) rfl rfl rfl (fun b hb => heap_setCell_other z _ b _ hb) b0 (by simpa using hcs)
      (by rw [List.length_set, rowK_put hal hp (p' := { p with c := { p.c with rg := p.c.rg.set q u } }) (by omega) (Dc.setRg hpo hq u), Array.toList_setIfInBounds, List.take_set, ht])
      (fun x hx => by
        rcases List.mem_or_eq_of_mem_set hx with q' | rfl
        · exact hal x q'
        · exact ⟨by rw [List.length_set]; exact hpo.rg, hpo.gt, hpo.rd, hpo.pl, hpo.ba, hpo.an⟩)
    exact ⟨⟨_, cell _ _ (by omega) atr⟩, free_of_block hg _, cell _ _ (by omega) at3, m1, m2⟩
set_option maxRecDepth 100000 in
set_option maxHeartbeats 4000000 in
theorem st_37l (h : DX w w0 R col im mem l tr false 0 0 false n cv kv tv) (hal : allok l) (hok : im.ok w0) (hlw : im.ws.length ≤ 240000) (hk : k + 1 = l.length) (hkm : k < 2000) (hy : l[k]? = some y) (hv : im.ws[y.c.pl]? = some v) (P : Pts v 37 tt d a b i) (ht0 : 0 ≤ tt) (ht5 : tt ≤ 5) (hd8 : d < 8) (ha8 : a < 8) (hb8 : b < 8) (hi0 : 0 ≤ i) (hi1 : i ≤ 4294967295) (hxa : y.c.rg[a]? = some xa) (hxb : y.c.rg[b]? = some xb) (htop : y.c.ba ≤ mem.length) (hk0 : k = 0) :
    Calls Try.prog 19 #[.pointer (some ⟨R, 0, none⟩)] w fun e w' => e = .returned (.tuple #[]) ∧ ∃ m' l' cv' kv', DX w' w0 R col im m' l' tr true xa 0 false n cv' kv' tv ∧ Ex col w col w' := by
  have HK0 := hideIt hk0
  clear hk0
  obtain ⟨C, cap, rfl, HL0, HS0, HM0⟩ := h.copy hal hy
  have c5 : w.cell? ⟨R, 5, none⟩ = some (.slice (some ⟨C, 0, none⟩) (k + 1) cap) := by rw [hk]; exact h.c0.2.2.2.2.2.1
  have HL := hideIt HL0
  have HS := hideIt HS0
  have hyo := hal y (List.mem_of_getElem? hy)
  have hpl := (List.getElem?_eq_some_iff.1 hv).1
  obtain ⟨wb, wo, ewa, hwc, -⟩ := Wds.at (hok.ws.keep (show Q w0 (w.alloc (.cells y.cs.toArray 61)) from HM0.dx.bel)) hv
  have r0 : (w.alloc (.cells y.cs.toArray 61)).cell? ⟨R, 0, none⟩ = some (.slice (some ⟨wb, wo, none⟩) im.ws.length im.wc) := by rw [← ewa]; exact HM0.dx.c0.1
  have b0 : (w.alloc (.cells y.cs.toArray 61)).cell? ⟨w.heap.size, 0, none⟩ = some (.int .i64 (y.c.pl : Int)) := HM0.cell (j := 0) rfl
  have g0 := HM0.fz 0
  have HY := hideIt (And.intro hy (And.intro hyo (And.intro hk (And.intro hal (And.intro hpl hlw)))))
  have HOK := hideIt hok
  have z1 : IntKind.i64.wrap ((k : Int) + 1 - 1) = (k : Int) := by rw [IntKind.wrap_i64]; omega
  have zk : IntKind.i64.wrap (k : Int) = (k : Int) := by rw [IntKind.wrap_i64]; omega
  have z3 : IntKind.i64.wrap ((y.c.pl : Int) + 1) = (y.c.pl : Int) + 1 := by rw [IntKind.wrap_i64]; omega
  have p1 : decide ((y.c.pl : Int) < 0) = false := by simp
  have p2 : decide ((im.ws.length : Int) ≤ (y.c.pl : Int)) = false := by simp; omega
  have hpi : (y.c.pl : Int) < (im.ws.length : Int) := by omega
  have HI := hideIt (And.intro hi0 (And.intro hi1 (And.intro ht0 ht5)))
  have p3 : decide (5 < tt) = false := by simp; omega
  have p4 : decide (7 < (d : Int)) = false := by simp; omega
  have p5 : decide (7 < (a : Int)) = false := by simp; omega
  have p6 : decide (7 < (b : Int)) = false := by simp; omega
  have HX := hideIt (And.intro hxa hxb)
  have HM1 : Hid (∀ X, Q (w.alloc (.cells y.cs.toArray 61)) X → Mid X w w0 R col im mem l tr false 0 0 false n cv C cap tv w.heap.size y) := fun X q => HM0.keep q
  have HP := hideIt P
  clear h hal hok hlw hk hkm hy hv P HL0 HS0 HM0 hyo hpl ewa hxa hxb hi0 hi1 ht0 ht5
  go_enter Try.func19, Try.ntmps19
  go_wp2_with (first | (refine wpList_load_run (by rfl) 61 _ (by rfl) _ (by rfl) _ HL.out ?_) | (refine wpList_store_run (by rfl) 61 _ _ (by rfl) _ _ (by rfl) (by rfl) _ HS.out ?_) | fail)
  generalize w.alloc (.cells y.cs.toArray 61) = z at *
  go_quiet (fail)
  go_wp2_with (fail)
  go_quiet (fail)
  go_wp2_with (fail)
  go_at_call 32; refine Calls.mono (HP.out.po _) ?_; rintro e y1 ⟨rfl, m1, rfl⟩
  go_wp2_with (fail)
  go_at_call 32; refine Calls.mono (HP.out.pt _) ?_; rintro e y2 ⟨rfl, m2, rfl⟩
  go_wp2_with (fail)
  go_at_call 32; refine Calls.mono (HP.out.pd _) ?_; rintro e y3 ⟨rfl, m3, rfl⟩
  go_wp2_with (fail)
  go_at_call 32; refine Calls.mono (HP.out.pa _) ?_; rintro e y4 ⟨rfl, m4, rfl⟩
  go_wp2_with (fail)
  go_at_call 32; refine Calls.mono (HP.out.pb _) ?_; rintro e y5 ⟨rfl, m5, rfl⟩
  go_wp2_with (fail)
  go_at_call 32; refine Calls.mono (HP.out.p0 _) ?_; rintro e y6 ⟨rfl, m6, rfl⟩
  go_wp2_with (fail)
  go_at_call 32; refine Calls.mono (HP.out.pi _) ?_; rintro e y7 ⟨rfl, m7, rfl⟩
  obtain ⟨y1, hy1⟩ : ∃ y1 : Dc, y1 = { y with c := { y.c with pl := y.c.pl + 1 } } := ⟨_, rfl⟩
  have HY1 := hideIt hy1
  have HO1 := hideIt (show y1.c.ok from by have := HY.out.2.1; rw [hy1]; exact ⟨this.rg, this.gt, this.rd, by show y.c.pl + 1 ≤ _; have := HY.out.2.2.2.2; omega, this.ba, this.an⟩)
  clear hy1
  go_upto_region 14 with (fail)
  refine abs_world (M := fun W9 => Mid W9 w w0 R col im mem l tr false 0 0 false n cv C cap tv w.heap.size y1) ((HM1.out _ (Q.drewN (Q.refl _) _)).box (y' := y1) (j := 0) (by rw [HY1.out]; exact Dc.setPl y (y.c.pl + 1)) HO1.out) ?_
  intro z2 hm2
  have HM2 := hideIt hm2
  clear hm2
  have ea : y1.c.rg = y.c.rg := by rw [HY1.out]
  have ra := HM2.out.cell (Dc.rgAt HO1.out (by rw [ea]; exact HX.out.1))
  have rb := HM2.out.cell (Dc.rgAt HO1.out (by rw [ea]; exact HX.out.2))
  have ia : (a : Int) < 8 := by omega
  have ib : (b : Int) < 8 := by omega
  have id' : (d : Int) < 8 := by omega
  clear c5 hwc r0 b0 g0 z1 zk z3 p1 p2 hpi p3 p4 p5 p6 HM1 HP HL HS ea
  obtain ⟨ca9, cc9, ecv, hmc, hmx⟩ := own_form HM2.out.dx.mo
  subst ecv
  have rm4 : z2.cell? ⟨R, 4, none⟩ = some (.slice ca9 mem.length cc9) := HM2.out.dx.c0.2.2.2.2.1
  have f4 := HM2.out.dx.fz 4
  have rb1 : z2.cell? ⟨w.heap.size, 1, none⟩ = some (.int .i64 (y.c.ba : Int)) := HM2.out.cell (j := 1) (by rw [HY1.out]; rfl)
  have hba := HY.out.2.1.ba
  have hbc : y.c.ba ≤ cc9 := by omega
  have hbc' : (y.c.ba : Int) ≤ (cc9 : Int) := by omega
  have HCUT : Hid (∀ X, Q z2 X → Mid (X.setCell ⟨R, 4, none⟩ (.slice ca9 y.c.ba cc9)) w w0 R col im (mem.take y.c.ba) l tr false 0 0 false n (.slice ca9 y.c.ba cc9) C cap tv w.heap.size y1) := fun X q => (HM2.out.keep q).cutm _ htop
  have HKC : Hid (k < cap ∧ cap ≤ 9223372036854775807) := by
    obtain ⟨a', c', e', q1, q2⟩ := own_form HM2.out.dx.ko
    injection e' with e1 e2 e3
    subst e3
    have := HY.out.2.2.1
    unfold maxLen at q2
    exact ⟨by omega, q2⟩
  clear htop hmc
  go_wp2_with (fail)
  go_region
  go_upto_region 79 with (fail)
  refine abs_world (M := fun W9 => Mid W9 w w0 R col im (mem.take y.c.ba) l tr false 0 0 false n (.slice ca9 y.c.ba cc9) C cap tv w.heap.size y1) ((HCUT.out z2 (Q.refl _)).keep (by first | exact Q.refl _ | exact (Q.refl _).drew | exact Q.drewN (Q.refl _) _)) ?_
  intro z3 hm3
  have HM4 := hideIt hm3
  clear hm3 rm4 f4 rb1 ra rb HM2 hmx
  have c5 : z3.cell? ⟨R, 5, none⟩ = some (.slice (some ⟨C, 0, none⟩) (k + 1) cap) := by rw [HY.out.2.2.1]; exact HM4.out.dx.c0.2.2.2.2.2.1
  have f5 := HM4.out.dx.fz 5
  have hkc : k < cap := HKC.out.1
  have hkc' : (k : Int) ≤ (cap : Int) := by omega
  have f6 := HM4.out.dx.fz 6
  have f7 := HM4.out.dx.fz 7
  have c6 := HM4.out.dx.c0.2.2.2.2.2.2.1
  have c7 := HM4.out.dx.c0.2.2.2.2.2.2.2.1
  have FIN := hideIt (show DX (((z3.setCell ⟨R, 5, none⟩ (.slice (some ⟨C, 0, none⟩) 0 cap)).setCell ⟨R, 6, none⟩ (.bool true)).setCell ⟨R, 7, none⟩ (.int .i64 xa)) w0 R col im (mem.take y.c.ba) (l.take 0) tr true xa 0 false n (.slice ca9 y.c.ba cc9) (.slice (some ⟨C, 0, none⟩) 0 cap) tv ∧ Ex col w col (((z3.setCell ⟨R, 5, none⟩ (.slice (some ⟨C, 0, none⟩) 0 cap)).setCell ⟨R, 6, none⟩ (.bool true)).setCell ⟨R, 7, none⟩ (.int .i64 xa)) from by
    obtain ⟨m1, e1⟩ := HM4.out.dx.cutk HM4.out.all 0 (Nat.zero_le _)
    obtain ⟨m2, e2⟩ := m1.setO (j := 6) (u := .bool true) (hh' := true) (x' := 0) (t' := 0) (sp' := false) (n' := n) (by simp)
    obtain ⟨m3, e3⟩ := m2.setO (j := 7) (u := .int .i64 xa) (hh' := true) (x' := xa) (t' := 0) (sp' := false) (n' := n) (by simp)
    exact ⟨m3, ((HM4.out.ex.trans e1).trans e2).trans e3⟩)
  go_upto_region 80 with (fail)
  obtain rfl := HK0.out
  go_wp2_with (fail)
  first | go_end0 | refine bodyPost_ret (v := .tuple #[]) (results_none rfl _ _ _) rfl ?_
  first | exact ⟨rfl, _, _, _, _, FIN.out⟩ | exact ⟨rfl, ⟨_, _, _, _, FIN.out.1⟩, FIN.out.2⟩
set_option maxRecDepth 100000 in
set_option maxHeartbeats 4000000 in
theorem st_37m (h : DX w w0 R col im mem l tr false 0 0 false n cv kv tv) (hal : allok l) (hok : im.ok w0) (hlw : im.ws.length ≤ 240000) (hk : k + 1 = l.length) (hkm : k < 2000) (hy : l[k]? = some y) (hv : im.ws[y.c.pl]? = some v) (P : Pts v 37 tt d a b i) (ht0 : 0 ≤ tt) (ht5 : tt ≤ 5) (hd8 : d < 8) (ha8 : a < 8) (hb8 : b < 8) (hi0 : 0 ≤ i) (hi1 : i ≤ 4294967295) (hxa : y.c.rg[a]? = some xa) (hxb : y.c.rg[b]? = some xb) (htop : y.c.ba ≤ mem.length) {k1 q8 : Nat} {p : Dc} (hk1 : k = k1 + 1) (hp : l[k1]? = some p) (hq8 : q8 < 8) (hpd : p.d = (q8 : Int)) :
    Calls Try.prog 19 #[.pointer (some ⟨R, 0, none⟩)] w fun e w' => e = .returned (.tuple #[]) ∧ ∃ cv' kv', DX w' w0 R col im (mem.take y.c.ba) ((l.take k).set k1 { p with c := { p.c with rg := p.c.rg.set q8 xa } }) tr false 0 0 false n cv' kv' tv ∧ Ex col w col w' := by
  have HK1 := hideIt hk1
  clear hk1
  obtain ⟨C, cap, rfl, HL0, HS0, HM0⟩ := h.copy hal hy
  have c5 : w.cell? ⟨R, 5, none⟩ = some (.slice (some ⟨C, 0, none⟩) (k + 1) cap) := by rw [hk]; exact h.c0.2.2.2.2.2.1
  have HL := hideIt HL0
  have HS := hideIt HS0
  have hyo := hal y (List.mem_of_getElem? hy)
  have hpl := (List.getElem?_eq_some_iff.1 hv).1
  obtain ⟨wb, wo, ewa, hwc, -⟩ := Wds.at (hok.ws.keep (show Q w0 (w.alloc (.cells y.cs.toArray 61)) from HM0.dx.bel)) hv
  have r0 : (w.alloc (.cells y.cs.toArray 61)).cell? ⟨R, 0, none⟩ = some (.slice (some ⟨wb, wo, none⟩) im.ws.length im.wc) := by rw [← ewa]; exact HM0.dx.c0.1
  have b0 : (w.alloc (.cells y.cs.toArray 61)).cell? ⟨w.heap.size, 0, none⟩ = some (.int .i64 (y.c.pl : Int)) := HM0.cell (j := 0) rfl
  have g0 := HM0.fz 0
  have HY := hideIt (And.intro hy (And.intro hyo (And.intro hk (And.intro hal (And.intro hpl hlw)))))
  have HOK := hideIt hok
  have z1 : IntKind.i64.wrap ((k : Int) + 1 - 1) = (k : Int) := by rw [IntKind.wrap_i64]; omega
  have zk : IntKind.i64.wrap (k : Int) = (k : Int) := by rw [IntKind.wrap_i64]; omega
  have z3 : IntKind.i64.wrap ((y.c.pl : Int) + 1) = (y.c.pl : Int) + 1 := by rw [IntKind.wrap_i64]; omega
  have p1 : decide ((y.c.pl : Int) < 0) = false := by simp
  have p2 : decide ((im.ws.length : Int) ≤ (y.c.pl : Int)) = false := by simp; omega
  have hpi : (y.c.pl : Int) < (im.ws.length : Int) := by omega
  have HI := hideIt (And.intro hi0 (And.intro hi1 (And.intro ht0 ht5)))
  have p3 : decide (5 < tt) = false := by simp; omega
  have p4 : decide (7 < (d : Int)) = false := by simp; omega
  have p5 : decide (7 < (a : Int)) = false := by simp; omega
  have p6 : decide (7 < (b : Int)) = false := by simp; omega
  have HX := hideIt (And.intro hxa hxb)
  have HM1 : Hid (∀ X, Q (w.alloc (.cells y.cs.toArray 61)) X → Mid X w w0 R col im mem l tr false 0 0 false n cv C cap tv w.heap.size y) := fun X q => HM0.keep q
  have HP := hideIt P
  clear h hal hok hlw hk hkm hy hv P HL0 HS0 HM0 hyo hpl ewa hxa hxb hi0 hi1 ht0 ht5
  go_enter Try.func19, Try.ntmps19
  go_wp2_with (first | (refine wpList_load_run (by rfl) 61 _ (by rfl) _ (by rfl) _ HL.out ?_) | (refine wpList_store_run (by rfl) 61 _ _ (by rfl) _ _ (by rfl) (by rfl) _ HS.out ?_) | fail)
  generalize w.alloc (.cells y.cs.toArray 61) = z at *
  go_quiet (fail)
  go_wp2_with (fail)
  go_quiet (fail)
  go_wp2_with (fail)
  go_at_call 32; refine Calls.mono (HP.out.po _) ?_; rintro e y1 ⟨rfl, m1, rfl⟩
  go_wp2_with (fail)
  go_at_call 32; refine Calls.mono (HP.out.pt _) ?_; rintro e y2 ⟨rfl, m2, rfl⟩
  go_wp2_with (fail)
  go_at_call 32; refine Calls.mono (HP.out.pd _) ?_; rintro e y3 ⟨rfl, m3, rfl⟩
  go_wp2_with (fail)
  go_at_call 32; refine Calls.mono (HP.out.pa _) ?_; rintro e y4 ⟨rfl, m4, rfl⟩
  go_wp2_with (fail)
  go_at_call 32; refine Calls.mono (HP.out.pb _) ?_; rintro e y5 ⟨rfl, m5, rfl⟩
  go_wp2_with (fail)
  go_at_call 32; refine Calls.mono (HP.out.p0 _) ?_; rintro e y6 ⟨rfl, m6, rfl⟩
  go_wp2_with (fail)
  go_at_call 32; refine Calls.mono (HP.out.pi _) ?_; rintro e y7 ⟨rfl, m7, rfl⟩
  obtain ⟨y1, hy1⟩ : ∃ y1 : Dc, y1 = { y with c := { y.c with pl := y.c.pl + 1 } } := ⟨_, rfl⟩
  have HY1 := hideIt hy1
  have HO1 := hideIt (show y1.c.ok from by have := HY.out.2.1; rw [hy1]; exact ⟨this.rg, this.gt, this.rd, by show y.c.pl + 1 ≤ _; have := HY.out.2.2.2.2; omega, this.ba, this.an⟩)
  clear hy1
  go_upto_region 14 with (fail)
  refine abs_world (M := fun W9 => Mid W9 w w0 R col im mem l tr false 0 0 false n cv C cap tv w.heap.size y1) ((HM1.out _ (Q.drewN (Q.refl _) _)).box (y' := y1) (j := 0) (by rw [HY1.out]; exact Dc.setPl y (y.c.pl + 1)) HO1.out) ?_
  intro z2 hm2
  have HM2 := hideIt hm2
  clear hm2
  have ea : y1.c.rg = y.c.rg := by rw [HY1.out]
  have ra := HM2.out.cell (Dc.rgAt HO1.out (by rw [ea]; exact HX.out.1))
  have rb := HM2.out.cell (Dc.rgAt HO1.out (by rw [ea]; exact HX.out.2))
  have ia : (a : Int) < 8 := by omega
  have ib : (b : Int) < 8 := by omega
  have id' : (d : Int) < 8 := by omega
  clear c5 hwc r0 b0 g0 z1 zk z3 p1 p2 hpi p3 p4 p5 p6 HM1 HP HL HS ea
  obtain ⟨ca9, cc9, ecv, hmc, hmx⟩ := own_form HM2.out.dx.mo
  subst ecv
  have rm4 : z2.cell? ⟨R, 4, none⟩ = some (.slice ca9 mem.length cc9) := HM2.out.dx.c0.2.2.2.2.1
  have f4 := HM2.out.dx.fz 4
  have rb1 : z2.cell? ⟨w.heap.size, 1, none⟩ = some (.int .i64 (y.c.ba : Int)) := HM2.out.cell (j := 1) (by rw [HY1.out]; rfl)
  have hba := HY.out.2.1.ba
  have hbc : y.c.ba ≤ cc9 := by omega
  have hbc' : (y.c.ba : Int) ≤ (cc9 : Int) := by omega
  have HCUT : Hid (∀ X, Q z2 X → Mid (X.setCell ⟨R, 4, none⟩ (.slice ca9 y.c.ba cc9)) w w0 R col im (mem.take y.c.ba) l tr false 0 0 false n (.slice ca9 y.c.ba cc9) C cap tv w.heap.size y1) := fun X q => (HM2.out.keep q).cutm _ htop
  have HKC : Hid (k < cap ∧ cap ≤ 9223372036854775807) := by
    obtain ⟨a', c', e', q1, q2⟩ := own_form HM2.out.dx.ko
    injection e' with e1 e2 e3
    subst e3
    have := HY.out.2.2.1
    unfold maxLen at q2
    exact ⟨by omega, q2⟩
  clear htop hmc
  go_wp2_with (fail)
  go_region
  go_upto_region 79 with (fail)
  refine abs_world (M := fun W9 => Mid W9 w w0 R col im (mem.take y.c.ba) l tr false 0 0 false n (.slice ca9 y.c.ba cc9) C cap tv w.heap.size y1) ((HCUT.out z2 (Q.refl _)).keep (by first | exact Q.refl _ | exact (Q.refl _).drew | exact Q.drewN (Q.refl _) _)) ?_
  intro z3 hm3
  have HM4 := hideIt hm3
  clear hm3 rm4 f4 rb1 ra rb HM2 hmx
  have c5 : z3.cell? ⟨R, 5, none⟩ = some (.slice (some ⟨C, 0, none⟩) (k + 1) cap) := by rw [HY.out.2.2.1]; exact HM4.out.dx.c0.2.2.2.2.2.1
  have f5 := HM4.out.dx.fz 5
  have hkc : k < cap := HKC.out.1
  have hkc' : (k : Int) ≤ (cap : Int) := by omega
  have DXC := hideIt (HM4.out.dx.cutk HM4.out.all k (by have := HY.out.2.2.1; omega))
  have hkn : ¬ k = 0 := by have := HK1.out; omega
  go_upto_region 83 with (fail)
  refine abs_world (M := fun W9 => DX W9 w0 R col im (mem.take y.c.ba) (l.take k) tr false 0 0 false n (.slice ca9 y.c.ba cc9) (.slice (some ⟨C, 0, none⟩) k cap) tv ∧ Ex col w col W9) ⟨DXC.out.1, HM4.out.ex.trans DXC.out.2⟩ ?_
  rintro z5 ⟨hd5, he5⟩
  have hlk : (l.take k).length = k := by rw [List.length_take]; have := HY.out.2.2.1; omega
  have hd5' : DX z5 w0 R col im (mem.take y.c.ba) (l.take k) tr false 0 0 false n (.slice ca9 y.c.ba cc9) (.slice (some ⟨C, 0, none⟩) (l.take k).length cap) tv := by rw [hlk]; exact hd5
  have hpt : (l.take k)[k1]? = some p := by rw [List.getElem?_take, if_pos (by have := HK1.out; omega)]; exact hp
  have HPK := hideIt (fun X (q : Q z5 X) => (hd5'.keep q).putk (allok_take HM4.out.all _) hpt hq8 xa)
  have HE5 := hideIt he5
  obtain ⟨⟨u0, k0⟩, k1f, kd, -⟩ := HPK.out z5 (Q.refl _)
  rw [hpd] at kd
  have c5b : z5.cell? ⟨R, 5, none⟩ = some (.slice (some ⟨C, 0, none⟩) k cap) := hd5.c0.2.2.2.2.2.1
  have zz : IntKind.i64.wrap ((k : Int) - 1) = (k1 : Int) := by have := HKC.out; have := HK1.out; rw [IntKind.wrap_i64]; omega
  have kb : (k1 : Int) < (k : Int) := by have := HK1.out; omega
  have qb : (q8 : Int) < 8 := by omega
  have HHP := hideIt (And.intro hp (And.intro hpd hlk))
  clear hd5 he5 hd5' hpt hp hpd hlk c5 f5 hkc hkc' hkn
  go_region
  go_wp2_with (fail)
  first | go_end0 | refine bodyPost_ret (v := .tuple #[]) (results_none rfl _ _ _) rfl ?_
  have FIN := HPK.out z5 (Q.refl _)
  have FD := FIN.2.2.2.1.keep (w' := (z5.setCell ⟨C, k1 * 24 + 4 + q8, none⟩ (.int .i64 xa)).drew) (Q.refl _).drew
  have FE := HE5.out.trans (FIN.2.2.2.2.trans (Ex.q (b := (z5.setCell ⟨C, k1 * 24 + 4 + q8, none⟩ (.int .i64 xa)).drew) (Q.refl _).drew))
  first | exact ⟨rfl, _, _, FD, FE⟩ | exact ⟨rfl, ⟨_, _, FD⟩, FE⟩
end
end Da
end Go.Proofs.Ytnlgkiejppgfjaa
