/-
  The machine: a call ends: a contract over the program; the conditions: the machine lies there.
-/
import Derived.Test.YtnlgkiejppgfjaaKVmG
import Derived.Test.YtnlgkiejppgfjaaKVmH
namespace Go.Proofs.Ytnlgkiejppgfjaa
open Go.RowKit
set_option linter.unusedVariables false

section
variable {w w' w0 : World} {R : Nat} {col col' : Col} {im : PIm} {mn : Nat} {mem ce : List Int} {cls : List Cl} {W : Nat → List Int} {tr : List Int} {ex : Int} {cv kv tv : Value} {N : Nat}

theorem MX.kopen (h : MX w w0 R col im mn ce cls W tr ex cv kv tv) (hn : cls.length ≠ 0) : ∃ C cap ks, kv = .slice (some ⟨C, 0, none⟩) cls.length cap ∧ KS w w0.heap.size C cap ks col cls W ∧ ¬ C = R := by
  rcases h.kvo with ⟨e, e0⟩ | ⟨C, cap, ks, e, K⟩
  · subst e0; exact absurd rfl hn
  · exact ⟨C, cap, ks, e, K, fun q => by have := K.colC; rw [q, h.colR] at this; cases this⟩
theorem KS.cell {C cap B : Nat} {ks : Array Value} (h : KS w B C cap ks col cls W) {k j : Nat} {c : Cl} {u : Value} (hc : cls[k]? = some c) (hj : j < 23) (hu : c.cs[j]? = some u) : w.cell? ⟨C, k * 24 + j, none⟩ = some u := (cell_of_block h.blk _).trans (h.call k c hc j u hj hu)

/-- Behind the frame: the calls' list is cut. -/
theorem MX.ended {C cap k : Nat} (h : MX w w0 R col im mn ce cls W tr ex cv (.slice (some ⟨C, 0, none⟩) cls.length cap) tv) {ks : Array Value} (hk : KS w w0.heap.size C cap ks col cls W) (hl : k ≤ cls.length) :
    MX (w.setCell ⟨R, 6, none⟩ (.slice (some ⟨C, 0, none⟩) k cap)) w0 R col im mn ce (cls.take k) W tr ex cv (.slice (some ⟨C, 0, none⟩) k cap) tv ∧ KS (w.setCell ⟨R, 6, none⟩ (.slice (some ⟨C, 0, none⟩) k cap)) w0.heap.size C cap ks col (cls.take k) W ∧ Ex col w col (w.setCell ⟨R, 6, none⟩ (.slice (some ⟨C, 0, none⟩) k cap)) := by
  have hlen : (cls.take k).length = k := by rw [List.length_take]; omega
  have neC : ¬ C = R := fun q => by have := hk.colC; rw [q, h.colR] at this; cases this
  obtain ⟨m1, m2⟩ := h.setR (j := 6) (u := .slice (some ⟨C, 0, none⟩) k cap) (mn' := mn) (ex' := ex) (kv' := .slice (some ⟨C, 0, none⟩) k cap) (cls' := cls.take k) (by simp) (.inr ⟨C, cap, ks, by rw [hlen], hk.cut k⟩)
  refine ⟨m1, (hk.cut k).keep (heap_setCell_other w _ C _ neC) (fun b k' hb e => heap_setCell_other w _ b _ (fun q => ?_)) (fun _ _ => rfl), m2⟩
  rw [q, h.colR] at e
  cases e

set_option maxRecDepth 100000 in
set_option maxHeartbeats 1000000 in
theorem end_last (hm : MV w w0 R col im mem cls tr ex N) {c : Cl} (hl : cls.length = 1) (hc : cls[0]? = some c) (x : Int) :
    Calls Try.prog 39 #[.pointer (some ⟨R, 0, none⟩), .int .i64 x] w fun e w' => e = .returned (.tuple #[]) ∧ ∃ col', MV w' w0 R col' im (mem.take c.ba) [] tr x N ∧ Ex col w col' w' := by
  obtain ⟨ce, W, cv, kv, tv, h, p⟩ := hm
  obtain ⟨C, cap, ks, rfl, K, neC⟩ := h.kopen (by omega)
  have neC' : ¬ R = C := fun q => neC q.symm
  have c6 := h.c0.2.2.2.2.2.2.1
  have hcc := p.ok 0 c hc
  obtain ⟨-, q21, -⟩ := Cl.cs_pl hcc
  have c21 : w.cell? ⟨C, 21, none⟩ = some (.int .i64 (c.ba : Int)) := by have := K.cell hc (by omega) q21; simpa using this
  obtain ⟨wv, s1, s2, s3⟩ := K.slot 0 (by have := K.le; omega)
  obtain ⟨wa, wc, rfl, -, -⟩ := own_form s2
  have c23 : w.cell? ⟨C, 23, none⟩ = some (.slice wa (W 0).length wc) := by have := (cell_of_block K.blk _).trans s1; simpa using this
  have hcap : 1 ≤ cap := by have := K.le; omega
  have hcapm : cap ≤ 9223372036854775807 := by have := K.capm; unfold maxLen at this; omega
  have CS := hideIt (fun m => shrink_any (h.keep ((Q.refl w).drewN m)) (L := W 0) s2 s3 (fun y hy => by obtain ⟨n, a, b, d⟩ := p.inn 0 c hc y hy; exact ⟨n, a, d⟩) (Nat.le_trans (p.len 0) p.nle) p.cel c.ba)
  have HP := hideIt (p.cut (k := 0) (by omega) hc)
  have FIN := hideIt (show ∀ y, MX y w0 R col im c.ba (zer ce (W 0)) cls W tr ex cv (.slice (some ⟨C, 0, none⟩) cls.length cap) tv → Ex col w col y → y.cell? ⟨R, 6, none⟩ = some (.slice (some ⟨C, 0, none⟩) 1 cap) ∧ y.frozen? ⟨R, 6, none⟩ = false ∧ y.cell? ⟨R, 7, none⟩ = some (.int .i64 ex) ∧ y.frozen? ⟨R, 7, none⟩ = false ∧ ∃ col', MV ((y.setCell ⟨R, 6, none⟩ (.slice (some ⟨C, 0, none⟩) 0 cap)).setCell ⟨R, 7, none⟩ (.int .i64 x)) w0 R col' im (mem.take c.ba) [] tr x N ∧ Ex col w col' ((y.setCell ⟨R, 6, none⟩ (.slice (some ⟨C, 0, none⟩) 0 cap)).setCell ⟨R, 7, none⟩ (.int .i64 x)) from fun y hy hey => by
    have y6 := hy.c0.2.2.2.2.2.2.1
    have y7 := hy.c0.2.2.2.2.2.2.2.1
    rw [hl] at y6
    obtain ⟨C', cap', ks', e', K', -⟩ := hy.kopen (by omega)
    injection e' with e1 _ e2
    injection e1 with e1
    injection e1 with e1
    subst e1; subst e2
    obtain ⟨m1, k1, x1⟩ := hy.ended K' (k := 0) (by omega)
    obtain ⟨m2, x2⟩ := m1.setR (j := 7) (u := .int .i64 x) (mn' := c.ba) (ex' := x) (kv' := .slice (some ⟨C, 0, none⟩) 0 cap) (cls' := []) (by simp) (by have := m1.kvo; rw [List.take_zero] at this; exact this)
    have hp := HP.out
    rw [List.take_zero] at hp
    refine ⟨y6, hy.fz 6, y7, hy.fz 7, col, ⟨zer ce (W 0), W, cv, .slice (some ⟨C, 0, none⟩) 0 cap, tv, ?_, hp⟩, (hey.trans x1).trans x2⟩
    have : (mem.take c.ba).length = c.ba := by rw [List.length_take]; exact Nat.min_eq_left (p.top 0 c hc)
    rw [this]
    exact m2)
  rw [hl] at c6
  clear h p K s1 s2 s3 HP q21 hcc
  go_enter Try.func39, Try.ntmps39
  go_wp2_with (fail)
  go_region_with (first | (go_at_call 46; refine (CS.out 1).mono ?_; rintro e y ⟨rfl, q1, q2⟩; obtain ⟨y6, g6, y7, g7, fin⟩ := FIN.out y q1 ((Ex.refl col w).drewN 1 |>.trans q2); have HF := hideIt fin; clear q1 q2 fin))
  all_goals go_wp2_with (fail)
  all_goals exact bodyPost_ret (v := .tuple #[]) (by simp [results, Try.results39, go_sem]) rfl ⟨rfl, HF.out⟩

theorem Cl.cs_setr {c : Cl} (h : c.ok) {r : Nat} (hr : r < 8) (x : Int) : ({ c with rg := c.rg.set r x } : Cl).cs = c.cs.set r (.int .i64 x) := by
  unfold Cl.cs
  have e : rowI (c.rg.set r x) = (rowI c.rg).set r (.int .i64 x) := by simp [rowI, List.map_set]
  rw [e, List.set_append_left _ _ (by rw [rowI_len, h.rg]; exact hr)]
theorem Cl.ok_setr {c : Cl} (h : c.ok) (r : Nat) (x : Int) : ({ c with rg := c.rg.set r x } : Cl).ok := ⟨by rw [List.length_set]; exact h.rg, h.gt, h.rd, h.pl, h.ba, h.an⟩

set_option maxRecDepth 100000 in
set_option maxHeartbeats 1000000 in
theorem end_more (hm : MV w w0 R col im mem cls tr ex N) {c pp : Cl} {k : Nat} (hl : cls.length = k + 2) (hc : cls[k + 1]? = some c) (hpp : cls[k]? = some pp) (x : Int) :
    Calls Try.prog 39 #[.pointer (some ⟨R, 0, none⟩), .int .i64 x] w fun e w' => e = .returned (.tuple #[]) ∧ ∃ col', MV w' w0 R col' im (mem.take c.ba) ((cls.take (k + 1)).set k { pp with rg := pp.rg.set c.an x }) tr ex N ∧ Ex col w col' w' := by
  obtain ⟨ce, W, cv, kv, tv, h, p⟩ := hm
  obtain ⟨C, cap, ks, rfl, K, neC⟩ := h.kopen (by omega)
  have neC' : ¬ R = C := fun q => neC q.symm
  have c6 := h.c0.2.2.2.2.2.2.1
  have hcc := p.ok _ c hc
  have hpc := p.ok _ pp hpp
  obtain ⟨-, q21, q22⟩ := Cl.cs_pl hcc
  have c21 : w.cell? ⟨C, (k + 1) * 24 + 21, none⟩ = some (.int .i64 (c.ba : Int)) := K.cell hc (by omega) q21
  obtain ⟨wv, s1, s2, s3⟩ := K.slot (k + 1) (by have := K.le; omega)
  obtain ⟨wa, wc, rfl, -, -⟩ := own_form s2
  have c23 : w.cell? ⟨C, (k + 1) * 24 + 23, none⟩ = some (.slice wa (W (k + 1)).length wc) := (cell_of_block K.blk _).trans s1
  have hcap : k + 2 ≤ cap := by have := K.le; omega
  have hcap' : (k : Int) + 1 ≤ (cap : Int) := by omega
  have hcapm : cap ≤ 9223372036854775807 := by have := K.capm; unfold maxLen at this; omega
  have han := hcc.an
  have han' : (c.an : Int) < 8 := by omega
  have hk2 := p.cll
  have z1 : IntKind.i64.wrap ((k : Int) + 1) = (k : Int) + 1 := by rw [IntKind.wrap_i64]; omega
  have z2 : IntKind.i64.wrap (k : Int) = (k : Int) := by rw [IntKind.wrap_i64]; omega
  have z3 : IntKind.i64.wrap ((k : Int) + 2 - 1) = (k : Int) + 1 := by rw [IntKind.wrap_i64]; omega
  have z4 : IntKind.i64.wrap ((k : Int) + 1 - 1) = (k : Int) := by rw [IntKind.wrap_i64]; omega
  have hne : ((k : Int) + 1 == 0) = false := by simp; omega
  have CS := hideIt (fun m => shrink_any (h.keep ((Q.refl w).drewN m)) (L := W (k + 1)) s2 s3 (fun y hy => by obtain ⟨n, a, b, d⟩ := p.inn _ c hc y hy; exact ⟨n, a, d⟩) (Nat.le_trans (p.len _) p.nle) p.cel c.ba)
  have hpt : (cls.take (k + 1))[k]? = some pp := by rw [List.getElem?_take, if_pos (by omega)]; exact hpp
  have HP := hideIt ((p.cut (k := k + 1) (by omega) hc).set (k := k) (c' := { pp with rg := pp.rg.set c.an x }) hpt rfl (Cl.ok_setr hpc c.an x))
  have FIN := hideIt (show ∀ y, MX y w0 R col im c.ba (zer ce (W (k + 1))) cls W tr ex cv (.slice (some ⟨C, 0, none⟩) cls.length cap) tv → Ex col w col y → y.cell? ⟨R, 6, none⟩ = some (.slice (some ⟨C, 0, none⟩) (k + 2) cap) ∧ y.frozen? ⟨R, 6, none⟩ = false ∧ y.cell? ⟨C, (k + 1) * 24 + 22, none⟩ = some (.int .u8 (c.an : Int)) ∧ (∃ u, y.cell? ⟨C, k * 24 + c.an, none⟩ = some u) ∧ y.frozen? ⟨C, k * 24 + c.an, none⟩ = false ∧ ∀ m, ∃ col', MV (((y.setCell ⟨R, 6, none⟩ (.slice (some ⟨C, 0, none⟩) (k + 1) cap)).setCell ⟨C, k * 24 + c.an, none⟩ (.int .i64 x)).drewN m) w0 R col' im (mem.take c.ba) ((cls.take (k + 1)).set k { pp with rg := pp.rg.set c.an x }) tr ex N ∧ Ex col w col' (((y.setCell ⟨R, 6, none⟩ (.slice (some ⟨C, 0, none⟩) (k + 1) cap)).setCell ⟨C, k * 24 + c.an, none⟩ (.int .i64 x)).drewN m) from fun y hy hey => by
    have y6 := hy.c0.2.2.2.2.2.2.1
    rw [hl] at y6
    obtain ⟨C', cap', ks', e', K', -⟩ := hy.kopen (by omega)
    injection e' with e1 _ e2
    injection e1 with e1
    injection e1 with e1
    subst e1; subst e2
    obtain ⟨m1, k1, x1⟩ := hy.ended K' (k := k + 1) (by omega)
    obtain ⟨ks2, m2, k2, x2⟩ := m1.put (by rw [List.length_take]; omega) k1 (k := k) (j := c.an) (c' := { pp with rg := pp.rg.set c.an x }) (u := .int .i64 x) hpt (by omega) (Cl.cs_setr hpc han x)
    obtain ⟨r, hr⟩ := get_of_lt (l := pp.rg) (k := c.an) (by rw [hpc.rg]; exact han)
    refine ⟨y6, hy.fz 6, K'.cell hc (by omega) q22, ⟨_, K'.cell hpp (by omega) (Cl.cs_rg hpc hr)⟩, free_of_block K'.blk _, fun m => ⟨col, MV.keep ⟨zer ce (W (k + 1)), W, cv, .slice (some ⟨C, 0, none⟩) (k + 1) cap, tv, ?_, HP.out⟩ ((Q.refl _).drewN m), ((hey.trans x1).trans x2).drewN m⟩⟩
    have : (mem.take c.ba).length = c.ba := by rw [List.length_take]; exact Nat.min_eq_left (p.top _ c hc)
    rw [this]
    exact m2)
  rw [hl] at c6
  clear h p K s1 s2 s3 HP q21 q22 hcc hpc
  go_enter Try.func39, Try.ntmps39
  go_wp2_with (fail)
  go_region_with (first | (go_at_call 46; refine (CS.out 1).mono ?_; rintro e y ⟨rfl, q1, q2⟩; obtain ⟨y6, g6, y22, ⟨u, yu⟩, yf, fin⟩ := FIN.out y q1 ((Ex.refl col w).drewN 1 |>.trans q2); have HF := hideIt fin; clear q1 q2 fin))
  all_goals go_wp2_with (fail)
  all_goals go_region_with (fail)
  all_goals go_wp2_with (fail)
  all_goals go_end0
  all_goals exact ⟨rfl, HF.out 1⟩
end
end Go.Proofs.Ytnlgkiejppgfjaa
