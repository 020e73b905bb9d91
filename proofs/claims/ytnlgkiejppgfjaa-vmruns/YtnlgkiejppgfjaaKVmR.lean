/-
  The machine: a step: what is reckoned, and what can't be done: contracts over the program; the conditions: the machine lies there.
-/
import Derived.Test.YtnlgkiejppgfjaaKVmP
namespace Go.Proofs.Ytnlgkiejppgfjaa
open Go.RowKit
set_option linter.unusedVariables false

section
variable {w w' w0 : World} {R : Nat} {col col' : Col} {im : PIm} {mn : Nat} {mem ce : List Int} {cls D : List Cl} {W : Nat → List Int} {tr : List Int} {ex : Int} {cv kv tv : Value} {N C k : Nat} {c : Cl}

set_option maxRecDepth 100000 in
set_option maxHeartbeats 4000000 in
theorem st_vt (h : MK w w0 R C col im mem cls tr ex N) (hk : k + 1 = cls.length) (hkD : k + 1 = D.length) (hc : D[k]? = some c) (hcok : c.ok) (hN : N + 1 ≤ 8388608) {op t i x y0 : Int} {d a b : Nat} (ht0 : 0 ≤ t) (hi0 : 0 ≤ i) (hi1 : i ≤ 4294967295) (hd : d < 8) (ha : a < 8) (hb : b < 8) (hx : c.rg[a]? = some x) (hy : c.rg[b]? = some y0) (n33 : op ≠ 33) (n37 : op ≠ 37) (n35 : op ≠ 35) (n36 : op ≠ 36) (n34 : op ≠ 34) (n32 : op ≠ 32) (n31 : op ≠ 31) (n39 : op ≠ 39) {r1 r2 : Int} (VA : ∀ X, MK X w0 R C col im mem D tr ex N → Calls Try.prog 43 #[.pointer (some ⟨R, 0, none⟩), .pointer (some ⟨C, k * 24, none⟩), .agg #[.int .u8 op, .int .u8 t, .int .u8 (d : Int), .int .u8 (a : Int), .int .u8 (b : Int), .int .u32 i], .int .i64 x, .int .i64 y0] X fun e w' => e = .returned (.tuple #[.int .i64 r1, .int .u8 r2]) ∧ Q X w') (hr2 : r2 ≠ 0)
    (NX : ∀ m, Calls Try.prog 38 #[.pointer (some ⟨R, 0, none⟩), .pointer (some ⟨C, k * 24, none⟩)] (w.drewN m) fun e y => e = .returned (.tuple #[.agg #[.int .u8 op, .int .u8 t, .int .u8 (d : Int), .int .u8 (a : Int), .int .u8 (b : Int), .int .u32 i], .bool true]) ∧ MK y w0 R C col im mem D tr ex N ∧ Ex col w col y) :
    Calls Try.prog 30 #[.pointer (some ⟨R, 0, none⟩)] w (StepEnd w w0 R col im tr N (.stop r2)) := by
  obtain ⟨cap, c6⟩ := h.c6
  rw [← hk] at c6
  have hcl : cls.length ≤ 2000 := by obtain ⟨_, _, _, _, _, _, _, _, p⟩ := h; exact p.cll
  have z1 : IntKind.i64.wrap ((k : Int) + 1 - 1) = (k : Int) := by rw [IntKind.wrap_i64]; omega
  have z2 : IntKind.i64.wrap (k : Int) = (k : Int) := by rw [IntKind.wrap_i64]; omega
  have z3 : IntKind.i64.wrap i = i := by rw [IntKind.wrap_i64]; omega
  have hkl : (k : Int) < (k : Int) + 1 := by omega
  have ha' : (a : Int) < 8 := by omega
  have hb' : (b : Int) < 8 := by omega
  have hd' : (d : Int) < 8 := by omega
  have CN := hideIt NX
  have HX := hideIt (And.intro hx hy)
  have HD := hideIt (And.intro hc hcok)
  have e33 : (op == 33) = false := by simpa using n33
  have e37 : (op == 37) = false := by simpa using n37
  have e35 : (op == 35) = false := by simpa using n35
  have e36 : (op == 36) = false := by simpa using n36
  have e34 : (op == 34) = false := by simpa using n34
  have e32 : (op == 32) = false := by simpa using n32
  have e31 : (op == 31) = false := by simpa using n31
  have e39 : (op == 39) = false := by simpa using n39
  clear n33 n37 n35 n36 n34 n32 n31 n39
  have hr2b : (r2 == 0) = false := by simpa using hr2
  have FIN := hideIt (show ∀ y, MK y w0 R C col im mem D tr ex N → Ex col w col y → ∀ m, Calls Try.prog 43 #[.pointer (some ⟨R, 0, none⟩), .pointer (some ⟨C, k * 24, none⟩), .agg #[.int .u8 op, .int .u8 t, .int .u8 (d : Int), .int .u8 (a : Int), .int .u8 (b : Int), .int .u32 i], .int .i64 x, .int .i64 y0] ((y.alloc (.cells #[.int .u8 op, .int .u8 t, .int .u8 (d : Int), .int .u8 (a : Int), .int .u8 (b : Int), .int .u32 i] 88)).drewN m) fun e z => e = .returned (.tuple #[.int .i64 r1, .int .u8 r2]) ∧ StepEnd w w0 R col im tr N (.stop r2) (.returned (.int .u8 r2)) z from fun y hM hE m => by
    have h1 := hM.keep (w' := ((y.alloc (.cells #[.int .u8 op, .int .u8 t, .int .u8 (d : Int), .int .u8 (a : Int), .int .u8 (b : Int), .int .u32 i] 88)).drewN m)) (((Q.refl y).alloc _).drewN m)
    refine (VA _ h1).mono ?_
    rintro e z ⟨rfl, qz⟩
    exact ⟨rfl, r2, col, _, _, _, _, rfl, (h1.keep qz).mv.mono (Nat.le_succ N) hN, (hE.trans (Ex.q (((Q.refl y).alloc _).drewN m))).trans (Ex.q qz), by unfold StepPost; exact ⟨rfl, hr2, rfl⟩⟩)
  clear hr2 VA
  have HK := hideIt (And.intro hk hkD)
  clear NX h hx hy hc hcok hk hkD hcl
  go_enter Try.func30, Try.ntmps30
  go_wp2_with (fail)
  go_quiet (fail)
  go_wp2_with (first | (go_at_call 38; refine (CN.out nq).mono ?_; rintro e y ⟨rfl, hM, hE⟩; have HM := hideIt (And.intro hM hE); have xa := fun ob => cell_keep ((Q.refl y).alloc ob) (hM.cell HD.out.1 (by omega) (Cl.cs_rg HD.out.2 HX.out.1)); have xb := fun ob => cell_keep ((Q.refl y).alloc ob) (hM.cell HD.out.1 (by omega) (Cl.cs_rg HD.out.2 HX.out.2)); have sC := hM.size.1; have FY := hideIt (FIN.out y HM.out.1 HM.out.2); clear hM hE) | fail)
  go_quiet (fail)
  go_wp2_with (first | (go_at_call 43; refine (FY.out nq).mono ?_; rintro e z ⟨rfl, q9⟩; have HZ := hideIt q9; clear q9) | fail)
  go_ret
  exact HZ.out

set_option maxRecDepth 100000 in
set_option maxHeartbeats 4000000 in
theorem st_v0 (h : MK w w0 R C col im mem cls tr ex N) (hk : k + 1 = cls.length) (hkD : k + 1 = D.length) (hc : D[k]? = some c) (hcok : c.ok) (hN : N + 1 ≤ 8388608) {op t i x y0 : Int} {d a b : Nat} (ht0 : 0 ≤ t) (hi0 : 0 ≤ i) (hi1 : i ≤ 4294967295) (hd : d < 8) (ha : a < 8) (hb : b < 8) (hx : c.rg[a]? = some x) (hy : c.rg[b]? = some y0) (n33 : op ≠ 33) (n37 : op ≠ 37) (n35 : op ≠ 35) (n36 : op ≠ 36) (n34 : op ≠ 34) (n32 : op ≠ 32) (n31 : op ≠ 31) (n39 : op ≠ 39) {r1 r2 : Int} (VA : ∀ X, MK X w0 R C col im mem D tr ex N → Calls Try.prog 43 #[.pointer (some ⟨R, 0, none⟩), .pointer (some ⟨C, k * 24, none⟩), .agg #[.int .u8 op, .int .u8 t, .int .u8 (d : Int), .int .u8 (a : Int), .int .u8 (b : Int), .int .u32 i], .int .i64 x, .int .i64 y0] X fun e w' => e = .returned (.tuple #[.int .i64 r1, .int .u8 r2]) ∧ Q X w') (hr2 : r2 = 0)
    (NX : ∀ m, Calls Try.prog 38 #[.pointer (some ⟨R, 0, none⟩), .pointer (some ⟨C, k * 24, none⟩)] (w.drewN m) fun e y => e = .returned (.tuple #[.agg #[.int .u8 op, .int .u8 t, .int .u8 (d : Int), .int .u8 (a : Int), .int .u8 (b : Int), .int .u32 i], .bool true]) ∧ MK y w0 R C col im mem D tr ex N ∧ Ex col w col y) :
    Calls Try.prog 30 #[.pointer (some ⟨R, 0, none⟩)] w (StepEnd w w0 R col im tr N (.go mem (D.set k { c with rg := c.rg.set d r1 }) tr)) := by
  obtain ⟨cap, c6⟩ := h.c6
  rw [← hk] at c6
  have hcl : cls.length ≤ 2000 := by obtain ⟨_, _, _, _, _, _, _, _, p⟩ := h; exact p.cll
  have z1 : IntKind.i64.wrap ((k : Int) + 1 - 1) = (k : Int) := by rw [IntKind.wrap_i64]; omega
  have z2 : IntKind.i64.wrap (k : Int) = (k : Int) := by rw [IntKind.wrap_i64]; omega
  have z3 : IntKind.i64.wrap i = i := by rw [IntKind.wrap_i64]; omega
  have hkl : (k : Int) < (k : Int) + 1 := by omega
  have ha' : (a : Int) < 8 := by omega
  have hb' : (b : Int) < 8 := by omega
  have hd' : (d : Int) < 8 := by omega
  have CN := hideIt NX
  have HX := hideIt (And.intro hx hy)
  have HD := hideIt (And.intro hc hcok)
  subst hr2
  have e33 : (op == 33) = false := by simpa using n33
  have e37 : (op == 37) = false := by simpa using n37
  have e35 : (op == 35) = false := by simpa using n35
  have e36 : (op == 36) = false := by simpa using n36
  have e34 : (op == 34) = false := by simpa using n34
  have e32 : (op == 32) = false := by simpa using n32
  have e31 : (op == 31) = false := by simpa using n31
  have e39 : (op == 39) = false := by simpa using n39
  clear n33 n37 n35 n36 n34 n32 n31 n39
  have FIN := hideIt (show ∀ y, MK y w0 R C col im mem D tr ex N → Ex col w col y → ∀ m, Calls Try.prog 43 #[.pointer (some ⟨R, 0, none⟩), .pointer (some ⟨C, k * 24, none⟩), .agg #[.int .u8 op, .int .u8 t, .int .u8 (d : Int), .int .u8 (a : Int), .int .u8 (b : Int), .int .u32 i], .int .i64 x, .int .i64 y0] ((y.alloc (.cells #[.int .u8 op, .int .u8 t, .int .u8 (d : Int), .int .u8 (a : Int), .int .u8 (b : Int), .int .u32 i] 88)).drewN m) fun e z => e = .returned (.tuple #[.int .i64 r1, .int .u8 0]) ∧ (∃ g, z.cell? ⟨C, k * 24 + d, none⟩ = some g) ∧ z.frozen? ⟨C, k * 24 + d, none⟩ = false ∧ z.cell? ⟨y.heap.size, 2, none⟩ = some (.int .u8 (d : Int)) ∧ ¬ C = y.heap.size ∧ ∀ m2, StepEnd w w0 R col im tr N (.go mem (D.set k { c with rg := c.rg.set d r1 }) tr) (.returned (.int .u8 0)) ((z.setCell ⟨C, k * 24 + d, none⟩ (.int .i64 r1)).drewN m2) from fun y hM hE m => by
    have h1 := hM.keep (w' := ((y.alloc (.cells #[.int .u8 op, .int .u8 t, .int .u8 (d : Int), .int .u8 (a : Int), .int .u8 (b : Int), .int .u32 i] 88)).drewN m)) (((Q.refl y).alloc _).drewN m)
    refine (VA _ h1).mono ?_
    rintro e z ⟨rfl, qz⟩
    have h2 := h1.keep qz
    obtain ⟨m1, e1⟩ := h2.put (j := d) (c' := { c with rg := c.rg.set d r1 }) (u := .int .i64 r1) hc (by omega) (Cl.cs_setr hcok hd r1) rfl (Cl.ok_setr hcok d r1)
    obtain ⟨g, hg⟩ := get_of_lt (l := c.rg) (k := d) (by rw [hcok.rg]; exact hd)
    have hbx : (((y.alloc (.cells #[.int .u8 op, .int .u8 t, .int .u8 (d : Int), .int .u8 (a : Int), .int .u8 (b : Int), .int .u32 i] 88)).drewN m)).heap[y.heap.size]? = _ := heap_new y _
    have sC := hM.size.1
    exact ⟨rfl, ⟨_, h2.cell hc (by omega) (Cl.cs_rg hcok hg)⟩, h2.free _, cell_keep qz ((cell_of_block hbx 2).trans rfl), by omega, fun m2 => ⟨0, col, _, _, _, _, rfl, (m1.keep ((Q.refl _).drewN m2)).mv.mono (Nat.le_succ N) hN, (((hE.trans (Ex.q (((Q.refl y).alloc _).drewN m))).trans (Ex.q qz)).trans e1).drewN m2, by unfold StepPost; exact ⟨rfl, rfl, rfl, rfl, by rw [List.length_set]; omega⟩⟩⟩)
  clear VA
  have HK := hideIt (And.intro hk hkD)
  clear NX h hx hy hc hcok hk hkD hcl
  go_enter Try.func30, Try.ntmps30
  go_wp2_with (fail)
  go_quiet (fail)
  go_wp2_with (first | (go_at_call 38; refine (CN.out nq).mono ?_; rintro e y ⟨rfl, hM, hE⟩; have HM := hideIt (And.intro hM hE); have xa := fun ob => cell_keep ((Q.refl y).alloc ob) (hM.cell HD.out.1 (by omega) (Cl.cs_rg HD.out.2 HX.out.1)); have xb := fun ob => cell_keep ((Q.refl y).alloc ob) (hM.cell HD.out.1 (by omega) (Cl.cs_rg HD.out.2 HX.out.2)); have sC := hM.size.1; have FY := hideIt (FIN.out y HM.out.1 HM.out.2); clear hM hE) | fail)
  go_quiet (fail)
  go_wp2_with (first | (go_at_call 43; refine (FY.out nq).mono ?_; rintro e z ⟨rfl, ⟨g, k1⟩, k2, k3, k4, q9⟩; have HZ := hideIt q9; clear q9) | fail)
  go_region_with (fail)
  all_goals go_wp2_with (fail)
  all_goals go_ret
  all_goals exact HZ.out 1

set_option maxRecDepth 100000 in
set_option maxHeartbeats 4000000 in
/-- There is no word, or it is none. -/
theorem st_off (h : MK w w0 R C col im mem cls tr ex N) (hk : k + 1 = cls.length) (hN : N + 1 ≤ 8388608)
    (NX : ∀ m, Calls Try.prog 38 #[.pointer (some ⟨R, 0, none⟩), .pointer (some ⟨C, k * 24, none⟩)] (w.drewN m) fun e y => ∃ a0 a1 a2 a3 a4 a5 : Int, e = .returned (.tuple #[Cd.wv a0 a1 a2 a3 a4 a5, .bool false]) ∧ (∃ cls', MV y w0 R col im mem cls' tr ex N) ∧ Ex col w col y) :
    Calls Try.prog 30 #[.pointer (some ⟨R, 0, none⟩)] w (StepEnd w w0 R col im tr N (.stop 5)) := by
  obtain ⟨cap, c6⟩ := h.c6
  rw [← hk] at c6
  have hcl : cls.length ≤ 2000 := by obtain ⟨_, _, _, _, _, _, _, _, p⟩ := h; exact p.cll
  have z1 : IntKind.i64.wrap ((k : Int) + 1 - 1) = (k : Int) := by rw [IntKind.wrap_i64]; omega
  have z2 : IntKind.i64.wrap (k : Int) = (k : Int) := by rw [IntKind.wrap_i64]; omega
  have hkl : (k : Int) < (k : Int) + 1 := by omega
  have CN := hideIt NX
  have FIN := hideIt (show ∀ y cls', MV y w0 R col im mem cls' tr ex N → Ex col w col y → ∀ ob, StepEnd w w0 R col im tr N (.stop 5) (.returned (.int .u8 5)) (y.alloc ob) from fun y cls' hM hE ob => ⟨5, col, _, _, _, _, rfl, (hM.keep ((Q.refl y).alloc ob)).mono (Nat.le_succ N) hN, hE.trans (Ex.q ((Q.refl y).alloc ob)), by unfold StepPost; simp⟩)
  clear NX h hk hcl
  go_enter Try.func30, Try.ntmps30
  go_wp2_with (fail)
  go_quiet (fail)
  go_wp2_with (first | (go_at_call 38; refine (CN.out nq).mono ?_; rintro e y ⟨a0, a1, a2, a3, a4, a5, rfl, ⟨cls', hM⟩, hE⟩; have HM := hideIt (FIN.out y cls' hM hE); clear hM hE) | fail)
  go_ret
  exact HM.out _
end
end Go.Proofs.Ytnlgkiejppgfjaa
