/-
  The machine: a step, by kinds of instruction: contracts over the program; the conditions: the machine lies there.
-/
import Derived.Test.YtnlgkiejppgfjaaKVmO
namespace Go.Proofs.Ytnlgkiejppgfjaa
open Go.RowKit
set_option linter.unusedVariables false

section
variable {w w' w0 : World} {R : Nat} {col col' : Col} {im : PIm} {mn : Nat} {mem ce : List Int} {cls D : List Cl} {W : Nat → List Int} {tr : List Int} {ex : Int} {cv kv tv : Value} {N C k : Nat} {c : Cl}

theorem store_any (hm : MV w w0 R col im mem cls tr ex N) (hn : cls.length ≠ 0) (hN : N + 1 ≤ 8388608) (a x : Int) :
    Calls Try.prog 41 #[.pointer (some ⟨R, 0, none⟩), .int .i64 a, .int .i64 x] w (StepEnd w w0 R col im tr N (storeP mem cls tr a x)) := by
  unfold storeP
  cases hin : inM mem a with
  | false =>
    refine (store_bad hm a x hin).mono ?_
    rintro e y ⟨rfl, rfl⟩
    exact ⟨5, col, mem, cls, tr, ex, rfl, hm.mono (Nat.le_succ N) hN, Ex.refl _ _, by unfold StepPost; simp⟩
  | true =>
    have h2 := hin
    unfold inM at h2
    simp only [Bool.and_eq_true, decide_eq_true_eq] at h2
    obtain ⟨n, rfl⟩ : ∃ n : Nat, a = (n : Int) := ⟨a.toNat, by omega⟩
    obtain ⟨o, ho⟩ := get_of_lt (l := mem) (k := n) (by omega)
    by_cases hw : x = 0 ∨ o ≠ 0
    · refine (store_plain hm n x o ho hw).mono ?_
      rintro e y ⟨rfl, m1, e1⟩
      exact ⟨0, col, _, _, _, _, rfl, m1.mono (Nat.le_succ N) hN, e1, by unfold StepPost; exact ⟨rfl, rfl, rfl, rfl, hn⟩⟩
    · have ho0 : o = 0 := by omega
      subst ho0
      refine (store_new hm hn hN n x ho (by omega)).mono ?_
      rintro e y ⟨rfl, col', m1, e1⟩
      exact ⟨0, col', _, _, _, _, rfl, m1, e1, by unfold StepPost; exact ⟨rfl, rfl, rfl, rfl, hn⟩⟩
theorem StepEnd.of {a : World} {r : Rs} {e : Ending} {w' : World} (h : StepEnd a w0 R col im tr N r e w') (hE : Ex col w col a) : StepEnd w w0 R col im tr N r e w' := by
  obtain ⟨t, col', m, c, s, x, h1, h2, h3, h4⟩ := h
  exact ⟨t, col', m, c, s, x, h1, h2, hE.trans h3, h4⟩
theorem Cl.cs_setd {c : Cl} (h : c.ok) {n : Nat} (hn : n < 6) (x : Int) : ({ c with rd := c.rd.set n x } : Cl).cs = c.cs.set (14 + n) (.int .i64 x) := by
  unfold Cl.cs
  have h1 := h.rg
  have h2 := h.gt
  have h3 := h.rd
  have e : rowI (c.rd.set n x) = (rowI c.rd).set n (.int .i64 x) := by simp [rowI, List.map_set]
  rw [e, List.set_append_right _ _ (by rw [rowI_len]; omega), rowI_len, h1, List.set_append_right _ _ (by rw [rowI_len]; omega), rowI_len, h2, show 14 + n - 8 - 6 = n by omega, List.set_append_left _ _ (by rw [rowI_len]; omega)]

set_option maxRecDepth 100000 in
set_option maxHeartbeats 4000000 in
theorem st_35 (h : MK w w0 R C col im mem cls tr ex N) (hk : k + 1 = cls.length) (hkD : k + 1 = D.length) (hc : D[k]? = some c) (hcok : c.ok) (hN : N + 1 ≤ 8388608) {t i x y0 : Int} {d a b : Nat} (ht0 : 0 ≤ t) (hi0 : 0 ≤ i) (hi1 : i ≤ 4294967295) (hd : d < 8) (ha : a < 8) (hb : b < 8) (hx : c.rg[a]? = some x) (hy : c.rg[b]? = some y0)
    (NX : ∀ m, Calls Try.prog 38 #[.pointer (some ⟨R, 0, none⟩), .pointer (some ⟨C, k * 24, none⟩)] (w.drewN m) fun e y => e = .returned (.tuple #[.agg #[.int .u8 35, .int .u8 t, .int .u8 (d : Int), .int .u8 (a : Int), .int .u8 (b : Int), .int .u32 i], .bool true]) ∧ MK y w0 R C col im mem D tr ex N ∧ Ex col w col y) :
    Calls Try.prog 30 #[.pointer (some ⟨R, 0, none⟩)] w (StepEnd w w0 R col im tr N (.go mem (D.set k { c with pl := i.toNat }) tr)) := by
  obtain ⟨cap, c6⟩ := h.c6
  rw [← hk] at c6
  have hcl : cls.length ≤ 2000 := by obtain ⟨_, _, _, _, _, _, _, _, p⟩ := h; exact p.cll
  have z1 : IntKind.i64.wrap ((k : Int) + 1 - 1) = (k : Int) := by rw [IntKind.wrap_i64]; omega
  have z2 : IntKind.i64.wrap (k : Int) = (k : Int) := by rw [IntKind.wrap_i64]; omega
  have z3 : IntKind.i64.wrap i = i := by rw [IntKind.wrap_i64]; omega
  have hkl : (k : Int) < (k : Int) + 1 := by omega
  have ha' : (a : Int) < 8 := by omega
  have hb' : (b : Int) < 8 := by omega
  have hd' : (d : Int) < 8 := by omega
  have CN := hideIt NX
  have HX := hideIt (And.intro hx hy)
  have HD := hideIt (And.intro hc hcok)
  have FIN := hideIt (show ∀ y, MK y w0 R C col im mem D tr ex N → Ex col w col y → ∀ ob m, ((y.alloc ob).drewN m).cell? ⟨C, k * 24 + 20, none⟩ = some (.int .i64 (c.pl : Int)) ∧ ((y.alloc ob).drewN m).frozen? ⟨C, k * 24 + 20, none⟩ = false ∧ StepEnd w w0 R col im tr N (.go mem (D.set k { c with pl := i.toNat }) tr) (.returned (.int .u8 0)) (((y.alloc ob).drewN m).setCell ⟨C, k * 24 + 20, none⟩ (.int .i64 i)) from fun y hM hE ob m => by
    have h1 := hM.keep (w' := (y.alloc ob).drewN m) (((Q.refl y).alloc ob).drewN m)
    obtain ⟨m1, e1⟩ := h1.put (j := 20) (c' := { c with pl := i.toNat }) (u := .int .i64 i) hc (by omega) (by rw [Cl.cs_setp hcok]; congr 2; omega) rfl (Cl.ok_pl hcok (by omega))
    exact ⟨h1.cell hc (by omega) (Cl.cs_pl hcok).1, h1.free _, 0, col, _, _, _, _, rfl, m1.mv.mono (Nat.le_succ N) hN, (hE.trans ((Ex.q (((Q.refl y).alloc ob).drewN m)))).trans e1, by unfold StepPost; exact ⟨rfl, rfl, rfl, rfl, by rw [List.length_set]; omega⟩⟩)
  have HK := hideIt (And.intro hk hkD)
  clear NX h hx hy hc hcok hk hkD hcl
  go_enter Try.func30, Try.ntmps30
  go_wp2_with (fail)
  go_quiet (fail)
  go_wp2_with (first | (go_at_call 38; refine (CN.out nq).mono ?_; rintro e y ⟨rfl, hM, hE⟩; have HM := hideIt (And.intro hM hE); have xa := fun ob => cell_keep ((Q.refl y).alloc ob) (hM.cell HD.out.1 (by omega) (Cl.cs_rg HD.out.2 HX.out.1)); have xb := fun ob => cell_keep ((Q.refl y).alloc ob) (hM.cell HD.out.1 (by omega) (Cl.cs_rg HD.out.2 HX.out.2)); have sC := hM.size.1; have FY := hideIt (FIN.out y HM.out.1 HM.out.2); have p20 := fun ob m => (FY.out ob m).1; have pf20 := fun ob m => (FY.out ob m).2.1; clear hM hE) | fail)
  go_quiet (fail)
  go_wp2_with (first | fail)
  go_ret
  exact (FY.out _ _).2.2

set_option maxRecDepth 100000 in
set_option maxHeartbeats 4000000 in
theorem st_36z (h : MK w w0 R C col im mem cls tr ex N) (hk : k + 1 = cls.length) (hkD : k + 1 = D.length) (hc : D[k]? = some c) (hcok : c.ok) (hN : N + 1 ≤ 8388608) {t i x y0 : Int} {d a b : Nat} (ht0 : 0 ≤ t) (hi0 : 0 ≤ i) (hi1 : i ≤ 4294967295) (hd : d < 8) (ha : a < 8) (hb : b < 8) (hx : c.rg[a]? = some x) (hy : c.rg[b]? = some y0) (hz : x = 0)
    (NX : ∀ m, Calls Try.prog 38 #[.pointer (some ⟨R, 0, none⟩), .pointer (some ⟨C, k * 24, none⟩)] (w.drewN m) fun e y => e = .returned (.tuple #[.agg #[.int .u8 36, .int .u8 t, .int .u8 (d : Int), .int .u8 (a : Int), .int .u8 (b : Int), .int .u32 i], .bool true]) ∧ MK y w0 R C col im mem D tr ex N ∧ Ex col w col y) :
    Calls Try.prog 30 #[.pointer (some ⟨R, 0, none⟩)] w (StepEnd w w0 R col im tr N (.go mem (D.set k { c with pl := i.toNat }) tr)) := by
  obtain ⟨cap, c6⟩ := h.c6
  rw [← hk] at c6
  have hcl : cls.length ≤ 2000 := by obtain ⟨_, _, _, _, _, _, _, _, p⟩ := h; exact p.cll
  have z1 : IntKind.i64.wrap ((k : Int) + 1 - 1) = (k : Int) := by rw [IntKind.wrap_i64]; omega
  have z2 : IntKind.i64.wrap (k : Int) = (k : Int) := by rw [IntKind.wrap_i64]; omega
  have z3 : IntKind.i64.wrap i = i := by rw [IntKind.wrap_i64]; omega
  have hkl : (k : Int) < (k : Int) + 1 := by omega
  have ha' : (a : Int) < 8 := by omega
  have hb' : (b : Int) < 8 := by omega
  have hd' : (d : Int) < 8 := by omega
  have CN := hideIt NX
  have HX := hideIt (And.intro hx hy)
  have HD := hideIt (And.intro hc hcok)
  subst hz
  have FIN := hideIt (show ∀ y, MK y w0 R C col im mem D tr ex N → Ex col w col y → ∀ ob m, ((y.alloc ob).drewN m).cell? ⟨C, k * 24 + 20, none⟩ = some (.int .i64 (c.pl : Int)) ∧ ((y.alloc ob).drewN m).frozen? ⟨C, k * 24 + 20, none⟩ = false ∧ StepEnd w w0 R col im tr N (.go mem (D.set k { c with pl := i.toNat }) tr) (.returned (.int .u8 0)) (((y.alloc ob).drewN m).setCell ⟨C, k * 24 + 20, none⟩ (.int .i64 i)) from fun y hM hE ob m => by
    have h1 := hM.keep (w' := (y.alloc ob).drewN m) (((Q.refl y).alloc ob).drewN m)
    obtain ⟨m1, e1⟩ := h1.put (j := 20) (c' := { c with pl := i.toNat }) (u := .int .i64 i) hc (by omega) (by rw [Cl.cs_setp hcok]; congr 2; omega) rfl (Cl.ok_pl hcok (by omega))
    exact ⟨h1.cell hc (by omega) (Cl.cs_pl hcok).1, h1.free _, 0, col, _, _, _, _, rfl, m1.mv.mono (Nat.le_succ N) hN, (hE.trans ((Ex.q (((Q.refl y).alloc ob).drewN m)))).trans e1, by unfold StepPost; exact ⟨rfl, rfl, rfl, rfl, by rw [List.length_set]; omega⟩⟩)
  have HK := hideIt (And.intro hk hkD)
  clear NX h hx hy hc hcok hk hkD hcl
  go_enter Try.func30, Try.ntmps30
  go_wp2_with (fail)
  go_quiet (fail)
  go_wp2_with (first | (go_at_call 38; refine (CN.out nq).mono ?_; rintro e y ⟨rfl, hM, hE⟩; have HM := hideIt (And.intro hM hE); have xa := fun ob => cell_keep ((Q.refl y).alloc ob) (hM.cell HD.out.1 (by omega) (Cl.cs_rg HD.out.2 HX.out.1)); have xb := fun ob => cell_keep ((Q.refl y).alloc ob) (hM.cell HD.out.1 (by omega) (Cl.cs_rg HD.out.2 HX.out.2)); have sC := hM.size.1; have FY := hideIt (FIN.out y HM.out.1 HM.out.2); have p20 := fun ob m => (FY.out ob m).1; have pf20 := fun ob m => (FY.out ob m).2.1; clear hM hE) | fail)
  go_quiet (fail)
  go_wp2_with (first | fail)
  go_ret
  exact (FY.out _ _).2.2

set_option maxRecDepth 100000 in
set_option maxHeartbeats 4000000 in
theorem st_36n (h : MK w w0 R C col im mem cls tr ex N) (hk : k + 1 = cls.length) (hkD : k + 1 = D.length) (hc : D[k]? = some c) (hcok : c.ok) (hN : N + 1 ≤ 8388608) {t i x y0 : Int} {d a b : Nat} (ht0 : 0 ≤ t) (hi0 : 0 ≤ i) (hi1 : i ≤ 4294967295) (hd : d < 8) (ha : a < 8) (hb : b < 8) (hx : c.rg[a]? = some x) (hy : c.rg[b]? = some y0) (hz : x ≠ 0)
    (NX : ∀ m, Calls Try.prog 38 #[.pointer (some ⟨R, 0, none⟩), .pointer (some ⟨C, k * 24, none⟩)] (w.drewN m) fun e y => e = .returned (.tuple #[.agg #[.int .u8 36, .int .u8 t, .int .u8 (d : Int), .int .u8 (a : Int), .int .u8 (b : Int), .int .u32 i], .bool true]) ∧ MK y w0 R C col im mem D tr ex N ∧ Ex col w col y) :
    Calls Try.prog 30 #[.pointer (some ⟨R, 0, none⟩)] w (StepEnd w w0 R col im tr N (.go mem D tr)) := by
  obtain ⟨cap, c6⟩ := h.c6
  rw [← hk] at c6
  have hcl : cls.length ≤ 2000 := by obtain ⟨_, _, _, _, _, _, _, _, p⟩ := h; exact p.cll
  have z1 : IntKind.i64.wrap ((k : Int) + 1 - 1) = (k : Int) := by rw [IntKind.wrap_i64]; omega
  have z2 : IntKind.i64.wrap (k : Int) = (k : Int) := by rw [IntKind.wrap_i64]; omega
  have z3 : IntKind.i64.wrap i = i := by rw [IntKind.wrap_i64]; omega
  have hkl : (k : Int) < (k : Int) + 1 := by omega
  have ha' : (a : Int) < 8 := by omega
  have hb' : (b : Int) < 8 := by omega
  have hd' : (d : Int) < 8 := by omega
  have CN := hideIt NX
  have HX := hideIt (And.intro hx hy)
  have HD := hideIt (And.intro hc hcok)
  have hzb : (x == 0) = false := by simpa using hz
  have FIN := hideIt (show ∀ y, MK y w0 R C col im mem D tr ex N → Ex col w col y → ∀ ob m, StepEnd w w0 R col im tr N (.go mem D tr) (.returned (.int .u8 0)) ((y.alloc ob).drewN m) from fun y hM hE ob m => ⟨0, col, _, _, _, _, rfl, (hM.keep (((Q.refl y).alloc ob).drewN m)).mv.mono (Nat.le_succ N) hN, hE.trans (Ex.q (((Q.refl y).alloc ob).drewN m)), by unfold StepPost; exact ⟨rfl, rfl, rfl, rfl, by omega⟩⟩)
  clear hz
  have HK := hideIt (And.intro hk hkD)
  clear NX h hx hy hc hcok hk hkD hcl
  go_enter Try.func30, Try.ntmps30
  go_wp2_with (fail)
  go_quiet (fail)
  go_wp2_with (first | (go_at_call 38; refine (CN.out nq).mono ?_; rintro e y ⟨rfl, hM, hE⟩; have HM := hideIt (And.intro hM hE); have xa := fun ob => cell_keep ((Q.refl y).alloc ob) (hM.cell HD.out.1 (by omega) (Cl.cs_rg HD.out.2 HX.out.1)); have xb := fun ob => cell_keep ((Q.refl y).alloc ob) (hM.cell HD.out.1 (by omega) (Cl.cs_rg HD.out.2 HX.out.2)); have sC := hM.size.1; have FY := hideIt (FIN.out y HM.out.1 HM.out.2); clear hM hE) | fail)
  go_quiet (fail)
  go_wp2_with (first | fail)
  go_ret
  exact FY.out _ _

set_option maxRecDepth 100000 in
set_option maxHeartbeats 4000000 in
theorem st_32b (h : MK w w0 R C col im mem cls tr ex N) (hk : k + 1 = cls.length) (hkD : k + 1 = D.length) (hc : D[k]? = some c) (hcok : c.ok) (hN : N + 1 ≤ 8388608) {t i x y0 : Int} {d a b : Nat} (ht0 : 0 ≤ t) (hi0 : 0 ≤ i) (hi1 : i ≤ 4294967295) (hd : d < 8) (ha : a < 8) (hb : b < 8) (hx : c.rg[a]? = some x) (hy : c.rg[b]? = some y0) (h6 : 6 ≤ i)
    (NX : ∀ m, Calls Try.prog 38 #[.pointer (some ⟨R, 0, none⟩), .pointer (some ⟨C, k * 24, none⟩)] (w.drewN m) fun e y => e = .returned (.tuple #[.agg #[.int .u8 32, .int .u8 t, .int .u8 (d : Int), .int .u8 (a : Int), .int .u8 (b : Int), .int .u32 i], .bool true]) ∧ MK y w0 R C col im mem D tr ex N ∧ Ex col w col y) :
    Calls Try.prog 30 #[.pointer (some ⟨R, 0, none⟩)] w (StepEnd w w0 R col im tr N (.stop 5)) := by
  obtain ⟨cap, c6⟩ := h.c6
  rw [← hk] at c6
  have hcl : cls.length ≤ 2000 := by obtain ⟨_, _, _, _, _, _, _, _, p⟩ := h; exact p.cll
  have z1 : IntKind.i64.wrap ((k : Int) + 1 - 1) = (k : Int) := by rw [IntKind.wrap_i64]; omega
  have z2 : IntKind.i64.wrap (k : Int) = (k : Int) := by rw [IntKind.wrap_i64]; omega
  have z3 : IntKind.i64.wrap i = i := by rw [IntKind.wrap_i64]; omega
  have hkl : (k : Int) < (k : Int) + 1 := by omega
  have ha' : (a : Int) < 8 := by omega
  have hb' : (b : Int) < 8 := by omega
  have hd' : (d : Int) < 8 := by omega
  have CN := hideIt NX
  have HX := hideIt (And.intro hx hy)
  have HD := hideIt (And.intro hc hcok)
  have FIN := hideIt (show ∀ y, MK y w0 R C col im mem D tr ex N → Ex col w col y → ∀ m, Calls Try.prog 40 #[.pointer (some ⟨C, k * 24, none⟩), .int .u32 i, .int .i64 x] ((y.alloc (.cells #[.int .u8 32, .int .u8 t, .int .u8 (d : Int), .int .u8 (a : Int), .int .u8 (b : Int), .int .u32 i] 88)).drewN m) (StepEnd w w0 R col im tr N (.stop 5)) from fun y hM hE m => (prepare_bad _ C (k * 24) i x h6).mono (by rintro e z ⟨rfl, rfl⟩; exact ⟨5, col, _, _, _, _, rfl, (hM.keep (((Q.refl y).alloc _).drewN m)).mv.mono (Nat.le_succ N) hN, hE.trans (Ex.q (((Q.refl y).alloc _).drewN m)), by unfold StepPost; simp⟩))
  have HK := hideIt (And.intro hk hkD)
  clear NX h hx hy hc hcok hk hkD hcl
  go_enter Try.func30, Try.ntmps30
  go_wp2_with (fail)
  go_quiet (fail)
  go_wp2_with (first | (go_at_call 38; refine (CN.out nq).mono ?_; rintro e y ⟨rfl, hM, hE⟩; have HM := hideIt (And.intro hM hE); have xa := fun ob => cell_keep ((Q.refl y).alloc ob) (hM.cell HD.out.1 (by omega) (Cl.cs_rg HD.out.2 HX.out.1)); have xb := fun ob => cell_keep ((Q.refl y).alloc ob) (hM.cell HD.out.1 (by omega) (Cl.cs_rg HD.out.2 HX.out.2)); have sC := hM.size.1; have FY := hideIt (FIN.out y HM.out.1 HM.out.2); clear hM hE) | fail)
  go_quiet (fail)
  go_wp2_with (first | (go_at_call 40; refine (FY.out nq).mono ?_; rintro e z hz; obtain ⟨tt, c9, m9, l9, s9, x9, rfl, q9⟩ := hz; have HZ := hideIt q9; clear q9) | fail)
  go_ret
  exact ⟨tt, c9, m9, l9, s9, x9, rfl, HZ.out⟩

set_option maxRecDepth 100000 in
set_option maxHeartbeats 4000000 in
theorem st_32 (h : MK w w0 R C col im mem cls tr ex N) (hk : k + 1 = cls.length) (hkD : k + 1 = D.length) (hc : D[k]? = some c) (hcok : c.ok) (hN : N + 1 ≤ 8388608) {t i x y0 : Int} {d a b : Nat} (ht0 : 0 ≤ t) (hi0 : 0 ≤ i) (hi1 : i ≤ 4294967295) (hd : d < 8) (ha : a < 8) (hb : b < 8) (hx : c.rg[a]? = some x) (hy : c.rg[b]? = some y0) (h6 : ¬ 6 ≤ i)
    (NX : ∀ m, Calls Try.prog 38 #[.pointer (some ⟨R, 0, none⟩), .pointer (some ⟨C, k * 24, none⟩)] (w.drewN m) fun e y => e = .returned (.tuple #[.agg #[.int .u8 32, .int .u8 t, .int .u8 (d : Int), .int .u8 (a : Int), .int .u8 (b : Int), .int .u32 i], .bool true]) ∧ MK y w0 R C col im mem D tr ex N ∧ Ex col w col y) :
    Calls Try.prog 30 #[.pointer (some ⟨R, 0, none⟩)] w (StepEnd w w0 R col im tr N (.go mem (D.set k { c with rd := c.rd.set i.toNat x }) tr)) := by
  obtain ⟨cap, c6⟩ := h.c6
  rw [← hk] at c6
  have hcl : cls.length ≤ 2000 := by obtain ⟨_, _, _, _, _, _, _, _, p⟩ := h; exact p.cll
  have z1 : IntKind.i64.wrap ((k : Int) + 1 - 1) = (k : Int) := by rw [IntKind.wrap_i64]; omega
  have z2 : IntKind.i64.wrap (k : Int) = (k : Int) := by rw [IntKind.wrap_i64]; omega
  have z3 : IntKind.i64.wrap i = i := by rw [IntKind.wrap_i64]; omega
  have hkl : (k : Int) < (k : Int) + 1 := by omega
  have ha' : (a : Int) < 8 := by omega
  have hb' : (b : Int) < 8 := by omega
  have hd' : (d : Int) < 8 := by omega
  have CN := hideIt NX
  have HX := hideIt (And.intro hx hy)
  have HD := hideIt (And.intro hc hcok)
  have FIN := hideIt (show ∀ y, MK y w0 R C col im mem D tr ex N → Ex col w col y → ∀ m, Calls Try.prog 40 #[.pointer (some ⟨C, k * 24, none⟩), .int .u32 i, .int .i64 x] ((y.alloc (.cells #[.int .u8 32, .int .u8 t, .int .u8 (d : Int), .int .u8 (a : Int), .int .u8 (b : Int), .int .u32 i] 88)).drewN m) (StepEnd w w0 R col im tr N (.go mem (D.set k { c with rd := c.rd.set i.toNat x }) tr)) from fun y hM hE m => by
    have h1 := hM.keep (w' := ((y.alloc (.cells #[.int .u8 32, .int .u8 t, .int .u8 (d : Int), .int .u8 (a : Int), .int .u8 (b : Int), .int .u32 i] 88)).drewN m)) (((Q.refl y).alloc _).drewN m)
    obtain ⟨n, hn⟩ : ∃ n : Nat, i = (n : Int) := ⟨i.toNat, by omega⟩
    have hn6 : n < 6 := by omega
    have e0 : i.toNat = n := by omega
    obtain ⟨m1, e1⟩ := h1.put (j := 14 + n) (c' := { c with rd := c.rd.set n x }) (u := .int .i64 x) hc (by omega) (Cl.cs_setd hcok hn6 x) rfl ⟨hcok.rg, hcok.gt, by rw [List.length_set]; exact hcok.rd, hcok.pl, hcok.ba, hcok.an⟩
    obtain ⟨g, hg⟩ := get_of_lt (l := c.rd) (k := n) (by rw [hcok.rd]; exact hn6)
    have c9 := h1.cell hc (by omega) (Cl.cs_rd hcok hg)
    rw [← Nat.add_assoc] at c9 m1 e1
    rw [e0]
    have CP := prepare_ok ((y.alloc (.cells #[.int .u8 32, .int .u8 t, .int .u8 (d : Int), .int .u8 (a : Int), .int .u8 (b : Int), .int .u32 i] 88)).drewN m) C (k * 24) n x hn6 _ c9 (h1.free _)
    rw [← hn] at CP
    refine CP.mono ?_
    rintro e z ⟨rfl, rfl⟩
    exact ⟨0, col, _, _, _, _, rfl, m1.mv.mono (Nat.le_succ N) hN, (hE.trans (Ex.q (((Q.refl y).alloc _).drewN m))).trans e1, by unfold StepPost; exact ⟨rfl, rfl, rfl, rfl, by rw [List.length_set]; omega⟩⟩)
  have HK := hideIt (And.intro hk hkD)
  clear NX h hx hy hc hcok hk hkD hcl
  go_enter Try.func30, Try.ntmps30
  go_wp2_with (fail)
  go_quiet (fail)
  go_wp2_with (first | (go_at_call 38; refine (CN.out nq).mono ?_; rintro e y ⟨rfl, hM, hE⟩; have HM := hideIt (And.intro hM hE); have xa := fun ob => cell_keep ((Q.refl y).alloc ob) (hM.cell HD.out.1 (by omega) (Cl.cs_rg HD.out.2 HX.out.1)); have xb := fun ob => cell_keep ((Q.refl y).alloc ob) (hM.cell HD.out.1 (by omega) (Cl.cs_rg HD.out.2 HX.out.2)); have sC := hM.size.1; have FY := hideIt (FIN.out y HM.out.1 HM.out.2); clear hM hE) | fail)
  go_quiet (fail)
  go_wp2_with (first | (go_at_call 40; refine (FY.out nq).mono ?_; rintro e z hz; obtain ⟨tt, c9, m9, l9, s9, x9, rfl, q9⟩ := hz; have HZ := hideIt q9; clear q9) | fail)
  go_ret
  exact ⟨tt, c9, m9, l9, s9, x9, rfl, HZ.out⟩

set_option maxRecDepth 100000 in
set_option maxHeartbeats 4000000 in
theorem st_31 (h : MK w w0 R C col im mem cls tr ex N) (hk : k + 1 = cls.length) (hkD : k + 1 = D.length) (hc : D[k]? = some c) (hcok : c.ok) (hN : N + 1 ≤ 8388608) {t i x y0 : Int} {d a b : Nat} (ht0 : 0 ≤ t) (hi0 : 0 ≤ i) (hi1 : i ≤ 4294967295) (hd : d < 8) (ha : a < 8) (hb : b < 8) (hx : c.rg[a]? = some x) (hy : c.rg[b]? = some y0)
    (NX : ∀ m, Calls Try.prog 38 #[.pointer (some ⟨R, 0, none⟩), .pointer (some ⟨C, k * 24, none⟩)] (w.drewN m) fun e y => e = .returned (.tuple #[.agg #[.int .u8 31, .int .u8 t, .int .u8 (d : Int), .int .u8 (a : Int), .int .u8 (b : Int), .int .u32 i], .bool true]) ∧ MK y w0 R C col im mem D tr ex N ∧ Ex col w col y) :
    Calls Try.prog 30 #[.pointer (some ⟨R, 0, none⟩)] w (StepEnd w w0 R col im tr N (storeP mem D tr x y0)) := by
  obtain ⟨cap, c6⟩ := h.c6
  rw [← hk] at c6
  have hcl : cls.length ≤ 2000 := by obtain ⟨_, _, _, _, _, _, _, _, p⟩ := h; exact p.cll
  have z1 : IntKind.i64.wrap ((k : Int) + 1 - 1) = (k : Int) := by rw [IntKind.wrap_i64]; omega
  have z2 : IntKind.i64.wrap (k : Int) = (k : Int) := by rw [IntKind.wrap_i64]; omega
  have z3 : IntKind.i64.wrap i = i := by rw [IntKind.wrap_i64]; omega
  have hkl : (k : Int) < (k : Int) + 1 := by omega
  have ha' : (a : Int) < 8 := by omega
  have hb' : (b : Int) < 8 := by omega
  have hd' : (d : Int) < 8 := by omega
  have CN := hideIt NX
  have HX := hideIt (And.intro hx hy)
  have HD := hideIt (And.intro hc hcok)
  have FIN := hideIt (show ∀ y, MK y w0 R C col im mem D tr ex N → Ex col w col y → ∀ m, Calls Try.prog 41 #[.pointer (some ⟨R, 0, none⟩), .int .i64 x, .int .i64 y0] ((y.alloc (.cells #[.int .u8 31, .int .u8 t, .int .u8 (d : Int), .int .u8 (a : Int), .int .u8 (b : Int), .int .u32 i] 88)).drewN m) (StepEnd w w0 R col im tr N (storeP mem D tr x y0)) from fun y hM hE m => (store_any (hM.keep (((Q.refl y).alloc _).drewN m)).mv (by omega) hN x y0).mono (fun e z hz => hz.of (hE.trans (Ex.q (((Q.refl y).alloc _).drewN m)))))
  have HK := hideIt (And.intro hk hkD)
  clear NX h hx hy hc hcok hk hkD hcl
  go_enter Try.func30, Try.ntmps30
  go_wp2_with (fail)
  go_quiet (fail)
  go_wp2_with (first | (go_at_call 38; refine (CN.out nq).mono ?_; rintro e y ⟨rfl, hM, hE⟩; have HM := hideIt (And.intro hM hE); have xa := fun ob => cell_keep ((Q.refl y).alloc ob) (hM.cell HD.out.1 (by omega) (Cl.cs_rg HD.out.2 HX.out.1)); have xb := fun ob => cell_keep ((Q.refl y).alloc ob) (hM.cell HD.out.1 (by omega) (Cl.cs_rg HD.out.2 HX.out.2)); have sC := hM.size.1; have FY := hideIt (FIN.out y HM.out.1 HM.out.2); clear hM hE) | fail)
  go_quiet (fail)
  go_wp2_with (first | (go_at_call 41; refine (FY.out nq).mono ?_; rintro e z hz; obtain ⟨tt, c9, m9, l9, s9, x9, rfl, q9⟩ := hz; have HZ := hideIt q9; clear q9) | fail)
  go_ret
  exact ⟨tt, c9, m9, l9, s9, x9, rfl, HZ.out⟩

set_option maxRecDepth 100000 in
set_option maxHeartbeats 4000000 in
theorem st_39 (h : MK w w0 R C col im mem cls tr ex N) (hk : k + 1 = cls.length) (hkD : k + 1 = D.length) (hc : D[k]? = some c) (hcok : c.ok) (hN : N + 1 ≤ 8388608) {t i x y0 : Int} {d a b : Nat} (ht0 : 0 ≤ t) (hi0 : 0 ≤ i) (hi1 : i ≤ 4294967295) (hd : d < 8) (ha : a < 8) (hb : b < 8) (hx : c.rg[a]? = some x) (hy : c.rg[b]? = some y0)
    (NX : ∀ m, Calls Try.prog 38 #[.pointer (some ⟨R, 0, none⟩), .pointer (some ⟨C, k * 24, none⟩)] (w.drewN m) fun e y => e = .returned (.tuple #[.agg #[.int .u8 39, .int .u8 t, .int .u8 (d : Int), .int .u8 (a : Int), .int .u8 (b : Int), .int .u32 i], .bool true]) ∧ MK y w0 R C col im mem D tr ex N ∧ Ex col w col y) :
    Calls Try.prog 30 #[.pointer (some ⟨R, 0, none⟩)] w (StepEnd w w0 R col im tr N (storeP mem D tr ((c.ba : Int) + i) x)) := by
  obtain ⟨cap, c6⟩ := h.c6
  rw [← hk] at c6
  have hcl : cls.length ≤ 2000 := by obtain ⟨_, _, _, _, _, _, _, _, p⟩ := h; exact p.cll
  have z1 : IntKind.i64.wrap ((k : Int) + 1 - 1) = (k : Int) := by rw [IntKind.wrap_i64]; omega
  have z2 : IntKind.i64.wrap (k : Int) = (k : Int) := by rw [IntKind.wrap_i64]; omega
  have z3 : IntKind.i64.wrap i = i := by rw [IntKind.wrap_i64]; omega
  have hkl : (k : Int) < (k : Int) + 1 := by omega
  have ha' : (a : Int) < 8 := by omega
  have hb' : (b : Int) < 8 := by omega
  have hd' : (d : Int) < 8 := by omega
  have CN := hideIt NX
  have HX := hideIt (And.intro hx hy)
  have HD := hideIt (And.intro hc hcok)
  have FIN := hideIt (show ∀ y, MK y w0 R C col im mem D tr ex N → Ex col w col y → ∀ m, Calls Try.prog 41 #[.pointer (some ⟨R, 0, none⟩), .int .i64 ((c.ba : Int) + i), .int .i64 x] ((y.alloc (.cells #[.int .u8 39, .int .u8 t, .int .u8 (d : Int), .int .u8 (a : Int), .int .u8 (b : Int), .int .u32 i] 88)).drewN m) (StepEnd w w0 R col im tr N (storeP mem D tr ((c.ba : Int) + i) x)) from fun y hM hE m => (store_any (hM.keep (((Q.refl y).alloc _).drewN m)).mv (by omega) hN _ x).mono (fun e z hz => hz.of (hE.trans (Ex.q (((Q.refl y).alloc _).drewN m)))))
  have FC := hideIt (show ∀ y, MK y w0 R C col im mem D tr ex N → ∀ m, Calls Try.prog 42 #[.pointer (some ⟨C, k * 24, none⟩), .int .u32 i] ((y.alloc (.cells #[.int .u8 39, .int .u8 t, .int .u8 (d : Int), .int .u8 (a : Int), .int .u8 (b : Int), .int .u32 i] 88)).drewN m) fun e w' => e = .returned (.int .i64 ((c.ba : Int) + i)) ∧ w' = ((y.alloc (.cells #[.int .u8 39, .int .u8 t, .int .u8 (d : Int), .int .u8 (a : Int), .int .u8 (b : Int), .int .u32 i] 88)).drewN m) from fun y hM m => fcell_any _ C (k * 24) c.ba i ((hM.keep (((Q.refl y).alloc _).drewN m)).cell hc (by omega) (Cl.cs_pl hcok).2.1) hcok.ba hi0 hi1)
  have HK := hideIt (And.intro hk hkD)
  clear NX h hx hy hc hcok hk hkD hcl
  go_enter Try.func30, Try.ntmps30
  go_wp2_with (fail)
  go_quiet (fail)
  go_wp2_with (first | (go_at_call 38; refine (CN.out nq).mono ?_; rintro e y ⟨rfl, hM, hE⟩; have HM := hideIt (And.intro hM hE); have xa := fun ob => cell_keep ((Q.refl y).alloc ob) (hM.cell HD.out.1 (by omega) (Cl.cs_rg HD.out.2 HX.out.1)); have xb := fun ob => cell_keep ((Q.refl y).alloc ob) (hM.cell HD.out.1 (by omega) (Cl.cs_rg HD.out.2 HX.out.2)); have sC := hM.size.1; have FY := hideIt (FIN.out y HM.out.1 HM.out.2); have FD := hideIt (FC.out y HM.out.1); clear hM hE) | fail)
  go_quiet (fail)
  go_wp2_with (first | (go_at_call 42; refine (FD.out nq).mono ?_; rintro e z1 ⟨rfl, rfl⟩) | (go_at_call 41; refine (FY.out nq).mono ?_; rintro e z hz; obtain ⟨tt, c9, m9, l9, s9, x9, rfl, q9⟩ := hz; have HZ := hideIt q9; clear q9) | fail)
  go_ret
  exact ⟨tt, c9, m9, l9, s9, x9, rfl, HZ.out⟩

set_option maxRecDepth 100000 in
set_option maxHeartbeats 4000000 in
theorem st_37l (h : MK w w0 R C col im mem cls tr ex N) (hk : k + 1 = cls.length) (hkD : k + 1 = D.length) (hc : D[k]? = some c) (hcok : c.ok) (hN : N + 1 ≤ 8388608) {t i x y0 : Int} {d a b : Nat} (ht0 : 0 ≤ t) (hi0 : 0 ≤ i) (hi1 : i ≤ 4294967295) (hd : d < 8) (ha : a < 8) (hb : b < 8) (hx : c.rg[a]? = some x) (hy : c.rg[b]? = some y0) (hk0 : k = 0)
    (NX : ∀ m, Calls Try.prog 38 #[.pointer (some ⟨R, 0, none⟩), .pointer (some ⟨C, k * 24, none⟩)] (w.drewN m) fun e y => e = .returned (.tuple #[.agg #[.int .u8 37, .int .u8 t, .int .u8 (d : Int), .int .u8 (a : Int), .int .u8 (b : Int), .int .u32 i], .bool true]) ∧ MK y w0 R C col im mem D tr ex N ∧ Ex col w col y) :
    Calls Try.prog 30 #[.pointer (some ⟨R, 0, none⟩)] w (StepEnd w w0 R col im tr N (.halt x)) := by
  obtain ⟨cap, c6⟩ := h.c6
  rw [← hk] at c6
  have hcl : cls.length ≤ 2000 := by obtain ⟨_, _, _, _, _, _, _, _, p⟩ := h; exact p.cll
  have z1 : IntKind.i64.wrap ((k : Int) + 1 - 1) = (k : Int) := by rw [IntKind.wrap_i64]; omega
  have z2 : IntKind.i64.wrap (k : Int) = (k : Int) := by rw [IntKind.wrap_i64]; omega
  have z3 : IntKind.i64.wrap i = i := by rw [IntKind.wrap_i64]; omega
  have hkl : (k : Int) < (k : Int) + 1 := by omega
  have ha' : (a : Int) < 8 := by omega
  have hb' : (b : Int) < 8 := by omega
  have hd' : (d : Int) < 8 := by omega
  have CN := hideIt NX
  have HX := hideIt (And.intro hx hy)
  have HD := hideIt (And.intro hc hcok)
  have FIN := hideIt (show ∀ y, MK y w0 R C col im mem D tr ex N → Ex col w col y → ∀ m, Calls Try.prog 39 #[.pointer (some ⟨R, 0, none⟩), .int .i64 x] ((y.alloc (.cells #[.int .u8 37, .int .u8 t, .int .u8 (d : Int), .int .u8 (a : Int), .int .u8 (b : Int), .int .u32 i] 88)).drewN m) fun e z => e = .returned (.tuple #[]) ∧ StepEnd w w0 R col im tr N (.halt x) (.returned (.int .u8 0)) z from fun y hM hE m => (end_last (hM.keep (((Q.refl y).alloc _).drewN m)).mv (by omega) (by rw [hk0] at hc; exact hc) x).mono (by
    rintro e z ⟨rfl, col', m1, e1⟩
    exact ⟨rfl, 0, col', _, _, _, _, rfl, m1.mono (Nat.le_succ N) hN, (hE.trans (Ex.q (((Q.refl y).alloc _).drewN m))).trans e1, by unfold StepPost; exact ⟨rfl, rfl, rfl, rfl⟩⟩))
  clear hk0
  have HK := hideIt (And.intro hk hkD)
  clear NX h hx hy hc hcok hk hkD hcl
  go_enter Try.func30, Try.ntmps30
  go_wp2_with (fail)
  go_quiet (fail)
  go_wp2_with (first | (go_at_call 38; refine (CN.out nq).mono ?_; rintro e y ⟨rfl, hM, hE⟩; have HM := hideIt (And.intro hM hE); have xa := fun ob => cell_keep ((Q.refl y).alloc ob) (hM.cell HD.out.1 (by omega) (Cl.cs_rg HD.out.2 HX.out.1)); have xb := fun ob => cell_keep ((Q.refl y).alloc ob) (hM.cell HD.out.1 (by omega) (Cl.cs_rg HD.out.2 HX.out.2)); have sC := hM.size.1; have FY := hideIt (FIN.out y HM.out.1 HM.out.2); clear hM hE) | fail)
  go_quiet (fail)
  go_wp2_with (first | (go_at_call 39; refine (FY.out nq).mono ?_; rintro e z ⟨rfl, q9⟩; have HZ := hideIt q9; clear q9) | fail)
  go_ret
  exact HZ.out

set_option maxRecDepth 100000 in
set_option maxHeartbeats 4000000 in
theorem st_37m (h : MK w w0 R C col im mem cls tr ex N) (hk : k + 1 = cls.length) (hkD : k + 1 = D.length) (hc : D[k]? = some c) (hcok : c.ok) (hN : N + 1 ≤ 8388608) {t i x y0 : Int} {d a b : Nat} (ht0 : 0 ≤ t) (hi0 : 0 ≤ i) (hi1 : i ≤ 4294967295) (hd : d < 8) (ha : a < 8) (hb : b < 8) (hx : c.rg[a]? = some x) (hy : c.rg[b]? = some y0) {k1 : Nat} {pp : Cl} (hk0 : k = k1 + 1) (hpp : D[k1]? = some pp)
    (NX : ∀ m, Calls Try.prog 38 #[.pointer (some ⟨R, 0, none⟩), .pointer (some ⟨C, k * 24, none⟩)] (w.drewN m) fun e y => e = .returned (.tuple #[.agg #[.int .u8 37, .int .u8 t, .int .u8 (d : Int), .int .u8 (a : Int), .int .u8 (b : Int), .int .u32 i], .bool true]) ∧ MK y w0 R C col im mem D tr ex N ∧ Ex col w col y) :
    Calls Try.prog 30 #[.pointer (some ⟨R, 0, none⟩)] w (StepEnd w w0 R col im tr N (.go (mem.take c.ba) ((D.take (k1 + 1)).set k1 { pp with rg := pp.rg.set c.an x }) tr)) := by
  obtain ⟨cap, c6⟩ := h.c6
  rw [← hk] at c6
  have hcl : cls.length ≤ 2000 := by obtain ⟨_, _, _, _, _, _, _, _, p⟩ := h; exact p.cll
  have z1 : IntKind.i64.wrap ((k : Int) + 1 - 1) = (k : Int) := by rw [IntKind.wrap_i64]; omega
  have z2 : IntKind.i64.wrap (k : Int) = (k : Int) := by rw [IntKind.wrap_i64]; omega
  have z3 : IntKind.i64.wrap i = i := by rw [IntKind.wrap_i64]; omega
  have hkl : (k : Int) < (k : Int) + 1 := by omega
  have ha' : (a : Int) < 8 := by omega
  have hb' : (b : Int) < 8 := by omega
  have hd' : (d : Int) < 8 := by omega
  have CN := hideIt NX
  have HX := hideIt (And.intro hx hy)
  have HD := hideIt (And.intro hc hcok)
  have FIN := hideIt (show ∀ y, MK y w0 R C col im mem D tr ex N → Ex col w col y → ∀ m, Calls Try.prog 39 #[.pointer (some ⟨R, 0, none⟩), .int .i64 x] ((y.alloc (.cells #[.int .u8 37, .int .u8 t, .int .u8 (d : Int), .int .u8 (a : Int), .int .u8 (b : Int), .int .u32 i] 88)).drewN m) fun e z => e = .returned (.tuple #[]) ∧ StepEnd w w0 R col im tr N (.go (mem.take c.ba) ((D.take (k1 + 1)).set k1 { pp with rg := pp.rg.set c.an x }) tr) (.returned (.int .u8 0)) z from fun y hM hE m => (end_more (hM.keep (((Q.refl y).alloc _).drewN m)).mv (k := k1) (by omega) (by rw [hk0] at hc; exact hc) hpp x).mono (by
    rintro e z ⟨rfl, col', m1, e1⟩
    exact ⟨rfl, 0, col', _, _, _, _, rfl, m1.mono (Nat.le_succ N) hN, (hE.trans (Ex.q (((Q.refl y).alloc _).drewN m))).trans e1, by unfold StepPost; exact ⟨rfl, rfl, rfl, rfl, by rw [List.length_set, List.length_take]; omega⟩⟩))
  clear hpp hk0
  have HK := hideIt (And.intro hk hkD)
  clear NX h hx hy hc hcok hk hkD hcl
  go_enter Try.func30, Try.ntmps30
  go_wp2_with (fail)
  go_quiet (fail)
  go_wp2_with (first | (go_at_call 38; refine (CN.out nq).mono ?_; rintro e y ⟨rfl, hM, hE⟩; have HM := hideIt (And.intro hM hE); have xa := fun ob => cell_keep ((Q.refl y).alloc ob) (hM.cell HD.out.1 (by omega) (Cl.cs_rg HD.out.2 HX.out.1)); have xb := fun ob => cell_keep ((Q.refl y).alloc ob) (hM.cell HD.out.1 (by omega) (Cl.cs_rg HD.out.2 HX.out.2)); have sC := hM.size.1; have FY := hideIt (FIN.out y HM.out.1 HM.out.2); clear hM hE) | fail)
  go_quiet (fail)
  go_wp2_with (first | (go_at_call 39; refine (FY.out nq).mono ?_; rintro e z ⟨rfl, q9⟩; have HZ := hideIt q9; clear q9) | fail)
  go_ret
  exact HZ.out
end
end Go.Proofs.Ytnlgkiejppgfjaa
