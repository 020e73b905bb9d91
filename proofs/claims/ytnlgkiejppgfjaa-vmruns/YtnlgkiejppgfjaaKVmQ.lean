/-
  The machine: a step: what is printed, a call, what is reckoned: contracts over the program; the conditions: the machine lies there.
-/
import Derived.Test.YtnlgkiejppgfjaaKVmP
namespace Go.Proofs.Ytnlgkiejppgfjaa
open Go.RowKit
set_option linter.unusedVariables false

section
variable {w w' w0 : World} {R : Nat} {col col' : Col} {im : PIm} {mn : Nat} {mem ce : List Int} {cls D : List Cl} {W : Nat → List Int} {tr : List Int} {ex : Int} {cv kv tv : Value} {N C k : Nat} {c : Cl}

theorem PL.trace (p : PL mem cls W ce tr N) (x : Int) (hN : N + 1 ≤ 8388608) : PL mem cls W ce (tr ++ [x]) (N + 1) :=
  ⟨p.cez, p.cel, p.inn, p.own, fun k => Nat.le_succ_of_le (p.len k), p.ok, p.up, p.top, by rw [List.length_append]; exact Nat.succ_le_succ p.trl, hN, p.cll⟩
theorem allP_at : ∀ (l m : List Int) (n k : Nat) (s f : Int), allP n l m = true → l[k]? = some s → m[k]? = some f → oneP n s f = true
  | [], m, n, k, s, f, _, h, _ => by simp at h
  | a :: l, [], n, k, s, f, _, _, h => by simp at h
  | a :: l, b :: m, n, 0, s, f, h, h1, h2 => by
    simp only [List.getElem?_cons_zero, Option.some.injEq] at h1 h2
    subst h1; subst h2
    simp only [allP, Bool.and_eq_true] at h
    exact h.1
  | a :: l, b :: m, n, k + 1, s, f, h, h1, h2 => by
    simp only [List.getElem?_cons_succ] at h1 h2
    simp only [allP, Bool.and_eq_true] at h
    exact allP_at l m n k s f h.2 h1 h2
/-- What can be run. -/
theorem form_at {n : Nat} (hF : formP im = true) (hn : n < im.st.length) : ∃ pl kf : Nat, im.st[n]? = some (pl : Int) ∧ im.fr[n]? = some (kf : Int) ∧ pl < im.ws.length ∧ im.ws.length ≤ 240000 := by
  unfold formP at hF
  simp only [Bool.and_eq_true, decide_eq_true_eq] at hF
  obtain ⟨⟨⟨⟨h1, h2⟩, h3⟩, h4⟩, h5⟩ := hF
  obtain ⟨s, hs⟩ := get_of_lt hn
  obtain ⟨f, hf⟩ := get_of_lt (l := im.fr) (k := n) (by omega)
  have := allP_at _ _ _ _ _ _ h5 hs hf
  unfold oneP at this
  simp only [Bool.and_eq_true, decide_eq_true_eq] at this
  obtain ⟨⟨⟨g1, g2⟩, g3⟩, g4⟩ := this
  exact ⟨s.toNat, f.toNat, by rw [hs]; congr 1; omega, by rw [hf]; congr 1; omega, by omega, h3⟩
/-- A call, every way. -/
theorem begin_any (hm : MV w w0 R col im mem cls tr ex N) (hok : im.ok w0) (hF : formP im = true) (n : Nat) (g0 g1 g2 g3 g4 g5 : Int) (an : Nat) (han : an < 8) :
    Calls Try.prog 29 #[.pointer (some ⟨R, 0, none⟩), .int .i64 (n : Int), .agg #[.int .i64 g0, .int .i64 g1, .int .i64 g2, .int .i64 g3, .int .i64 g4, .int .i64 g5], .int .u8 (an : Int)] w fun e w' => match beginP im n [g0, g1, g2, g3, g4, g5] an mem cls with
      | none => e = .returned (.int .u8 5) ∧ Q w w'
      | some (m, cl) => e = .returned (.int .u8 0) ∧ (∃ col', MV w' w0 R col' im m cl tr ex N ∧ Ex col w col' w') ∧ cl.length ≠ 0 := by
  unfold beginP
  by_cases h1 : im.st.length ≤ n ∨ cls.length = 2000
  · rw [if_pos h1]
    exact begin_none hm n g0 g1 g2 g3 g4 g5 an h1
  · rw [if_neg h1]
    obtain ⟨pl, kf, hs, hf, hp, hw⟩ := form_at hF (show n < im.st.length by omega)
    have hcl : cls.length ≤ 2000 := by obtain ⟨_, _, _, _, _, _, p⟩ := hm; exact p.cll
    have ef : im.fr.getD n 0 = (kf : Int) := by rw [List.getD_eq_getElem?_getD, hf]; rfl
    have es : im.st.getD n 0 = (pl : Int) := by rw [List.getD_eq_getElem?_getD, hs]; rfl
    rw [ef, es]
    by_cases h2 : 65536 - (mem.length : Int) < (kf : Int)
    · rw [if_pos h2]
      exact begin_tight hm hok n kf g0 g1 g2 g3 g4 g5 an (by omega) (by omega) hf h2
    · rw [if_neg h2]
      refine (begin_ok hm hok n kf pl g0 g1 g2 g3 g4 g5 an (by omega) (by omega) hf hs h2 (by omega) han).mono ?_
      rintro e y ⟨rfl, h3⟩
      rw [Int.toNat_natCast, Int.toNat_natCast]
      exact ⟨rfl, h3, by simp⟩
theorem begin_step (hm : MV w w0 R col im mem cls tr ex N) (hN : N + 1 ≤ 8388608) (hok : im.ok w0) (hF : formP im = true) (n : Nat) (g0 g1 g2 g3 g4 g5 : Int) (an : Nat) (han : an < 8) :
    Calls Try.prog 29 #[.pointer (some ⟨R, 0, none⟩), .int .i64 (n : Int), .agg #[.int .i64 g0, .int .i64 g1, .int .i64 g2, .int .i64 g3, .int .i64 g4, .int .i64 g5], .int .u8 (an : Int)] w (StepEnd w w0 R col im tr N (match beginP im n [g0, g1, g2, g3, g4, g5] an mem cls with | none => .stop 5 | some (m, cl) => .go m cl tr)) := by
  refine (begin_any hm hok hF n g0 g1 g2 g3 g4 g5 an han).mono ?_
  intro e y hy
  cases hb : beginP im n [g0, g1, g2, g3, g4, g5] an mem cls with
  | none =>
    rw [hb] at hy
    obtain ⟨rfl, qy⟩ := hy
    exact ⟨5, col, mem, cls, tr, ex, rfl, (hm.keep qy).mono (Nat.le_succ N) hN, Ex.q qy, by unfold StepPost; simp⟩
  | some mc =>
    obtain ⟨m, cl⟩ := mc
    rw [hb] at hy
    obtain ⟨rfl, ⟨col', m1, e1⟩, hl⟩ := hy
    exact ⟨0, col', m, cl, tr, ex, rfl, m1.mono (Nat.le_succ N) hN, e1, by unfold StepPost; exact ⟨rfl, rfl, rfl, rfl, hl⟩⟩

set_option maxRecDepth 100000 in
set_option maxHeartbeats 4000000 in
theorem st_34 (h : MK w w0 R C col im mem cls tr ex N) (hk : k + 1 = cls.length) (hkD : k + 1 = D.length) (hc : D[k]? = some c) (hcok : c.ok) (hN : N + 1 ≤ 8388608) {t i x y0 : Int} {d a b : Nat} (ht0 : 0 ≤ t) (hi0 : 0 ≤ i) (hi1 : i ≤ 4294967295) (hd : d < 8) (ha : a < 8) (hb : b < 8) (hx : c.rg[a]? = some x) (hy : c.rg[b]? = some y0)
    (NX : ∀ m, Calls Try.prog 38 #[.pointer (some ⟨R, 0, none⟩), .pointer (some ⟨C, k * 24, none⟩)] (w.drewN m) fun e y => e = .returned (.tuple #[.agg #[.int .u8 34, .int .u8 t, .int .u8 (d : Int), .int .u8 (a : Int), .int .u8 (b : Int), .int .u32 i], .bool true]) ∧ MK y w0 R C col im mem D tr ex N ∧ Ex col w col y) :
    Calls Try.prog 30 #[.pointer (some ⟨R, 0, none⟩)] w (StepEnd w w0 R col im tr N (.go mem D (tr ++ [x]))) := by
  obtain ⟨cap, c6⟩ := h.c6
  rw [← hk] at c6
  have hcl : cls.length ≤ 2000 := by obtain ⟨_, _, _, _, _, _, _, _, p⟩ := h; exact p.cll
  have z1 : IntKind.i64.wrap ((k : Int) + 1 - 1) = (k : Int) := by rw [IntKind.wrap_i64]; omega
  have z2 : IntKind.i64.wrap (k : Int) = (k : Int) := by rw [IntKind.wrap_i64]; omega
  have z3 : IntKind.i64.wrap i = i := by rw [IntKind.wrap_i64]; omega
  have hkl : (k : Int) < (k : Int) + 1 := by omega
  have ha' : (a : Int) < 8 := by omega
  have hb' : (b : Int) < 8 := by omega
  have hd' : (d : Int) < 8 := by omega
  have CN := hideIt NX
  have HX := hideIt (And.intro hx hy)
  have HD := hideIt (And.intro hc hcok)
  obtain ⟨i0, hi9, hz0, hz1, hz2⟩ := info_parts infoI64
  have FIN := hideIt (show ∀ y, MK y w0 R C col im mem D tr ex N → Ex col w col y → ∃ ta tc, ∀ ob m, ((y.alloc ob).drewN m).cell? ⟨R, 8, none⟩ = some (.slice ta tr.length tc) ∧ ∃ g cap X, (Builtin.append_ #[24, 24] 24 #[.slice ta tr.length tc, .slice (some ⟨y.heap.size + 1, 0, none⟩) 1 1]).run Try.prog (((y.alloc ob).drewN m).alloc (.cells #[.int .i64 x] 2)) = .ok (.slice (some ⟨g, 0, none⟩) (tr.length + 1) cap) X ∧ X.cell? ⟨R, 8, none⟩ = some (.slice ta tr.length tc) ∧ X.frozen? ⟨R, 8, none⟩ = false ∧ StepEnd w w0 R col im tr N (.go mem D (tr ++ [x])) (.returned (.int .u8 0)) (X.setCell ⟨R, 8, none⟩ (.slice (some ⟨g, 0, none⟩) (tr.length + 1) cap)) from fun y hM hE => by
    obtain ⟨ce, W, cv, cap0, tv, ks, h1, h2, h3⟩ := hM
    obtain ⟨ta, tc, rfl, -, -⟩ := own_form h1.tro
    refine ⟨ta, tc, fun ob m => ?_⟩
    have hq : Q y ((y.alloc ob).drewN m) := ((Q.refl y).alloc ob).drewN m
    have hq2 : Q y (((y.alloc ob).drewN m).alloc (.cells #[.int .i64 x] 2)) := hq.alloc _
    have h4 := h1.keep hq2
    have hsz : ((y.alloc ob).drewN m).heap.size = y.heap.size + 1 := by show (y.alloc ob).heap.size = _; simp
    have htl := h3.trl
    have hnl := h3.nle
    have hn : ∀ j u, ([.int .i64 x] : List Value)[j]? = some u → (((y.alloc ob).drewN m).alloc (.cells #[.int .i64 x] 2)).cell? ((⟨y.heap.size + 1, 0, none⟩ : Addr).add j) = some u := by
      have := World.news_of_block (heap_new ((y.alloc ob).drewN m) (.cells #[.int .i64 x] 2 (0, 0)))
      rw [hsz] at this
      exact this
    obtain ⟨g, cap, X, r1, r2, r3, r4, r5⟩ := run_append_lies (P := Try.prog) (((y.alloc ob).drewN m).alloc (.cells #[.int .i64 x] 2)) 24 24 w0.heap.size 2 i0 (.int .i64 0) 1 8 Try.underlying24 hi9 hz0 hz1 hz2 rfl (by decide) _ tr.length (rowI tr) h4.tro ⟨y.heap.size + 1, 0, none⟩ 1 1 [.int .i64 x] rfl hn (one_i64 _) (by decide) (by unfold maxLen; omega) (by omega) h4.bel.size _ rfl
    have r2' : X.ownsRow w0.heap.size 2 1 (.slice (some ⟨g, 0, none⟩) (tr.length + 1) cap) (tr ++ [x]).length (rowI (tr ++ [x])) := by rw [rowI_app, List.length_append]; exact r2
    obtain ⟨b0, col', m1, e1⟩ := h4.growT r3 r2' ⟨g, rfl, r4.imp id (fun e => by rw [e]; exact Nat.le_refl _)⟩
    refine ⟨cell_keep hq h1.c0.2.2.2.2.2.2.2.2, g, cap, X, r1, cell_of_block b0 8, free_of_block b0 8, 0, col', _, _, _, _, rfl, ⟨ce, W, cv, _, _, m1, h3.trace x hN⟩, (hE.trans (Ex.q hq2)).trans e1, by unfold StepPost; exact ⟨rfl, rfl, rfl, rfl, by omega⟩⟩)
  clear hi9 hz0 hz1 hz2
  have HK := hideIt (And.intro hk hkD)
  clear NX h hx hy hc hcok hk hkD hcl
  go_enter Try.func30, Try.ntmps30
  go_wp2_with (fail)
  go_quiet (fail)
  go_wp2_with (first | (go_at_call 38; refine (CN.out nq).mono ?_; rintro e y ⟨rfl, hM, hE⟩; have HM := hideIt (And.intro hM hE); have xa := fun ob => cell_keep ((Q.refl y).alloc ob) (hM.cell HD.out.1 (by omega) (Cl.cs_rg HD.out.2 HX.out.1)); have xb := fun ob => cell_keep ((Q.refl y).alloc ob) (hM.cell HD.out.1 (by omega) (Cl.cs_rg HD.out.2 HX.out.2)); have sC := hM.size.1; obtain ⟨ta, tc, fy⟩ := FIN.out y HM.out.1 HM.out.2; have r8 := fun ob m => (fy ob m).1; have FY := hideIt (fun ob m => (fy ob m).2); clear fy; clear hM hE) | fail)
  go_quiet (fail)
  go_wp2_with (first | (at_builtin; obtain ⟨g, cap2, X, hrun, k8, f8, fin⟩ := FY.out (.cells #[.int .u8 34, .int .u8 t, .int .u8 (d : Int), .int .u8 (a : Int), .int .u8 (b : Int), .int .u32 i] 88) nq; have HF := hideIt fin; refine wpList_append_run (by rfl) (.tmp 106) (.tmp 108) 24 24 (by rfl) _ _ (by rfl) (by rfl) _ _ hrun ?_; clear fin hrun) | fail)
  go_ret
  exact HF.out

set_option maxRecDepth 100000 in
set_option maxHeartbeats 4000000 in
theorem st_33 (h : MK w w0 R C col im mem cls tr ex N) (hk : k + 1 = cls.length) (hkD : k + 1 = D.length) (hc : D[k]? = some c) (hcok : c.ok) (hN : N + 1 ≤ 8388608) {t i x y0 : Int} {d a b : Nat} (ht0 : 0 ≤ t) (hi0 : 0 ≤ i) (hi1 : i ≤ 4294967295) (hd : d < 8) (ha : a < 8) (hb : b < 8) (hx : c.rg[a]? = some x) (hy : c.rg[b]? = some y0) (hok : im.ok w0) (hF : formP im = true) {n : Nat} {r0 r1 r2 r3 r4 r5 : Int} (hn : i = (n : Int)) (hrd : c.rd = [r0, r1, r2, r3, r4, r5])
    (NX : ∀ m, Calls Try.prog 38 #[.pointer (some ⟨R, 0, none⟩), .pointer (some ⟨C, k * 24, none⟩)] (w.drewN m) fun e y => e = .returned (.tuple #[.agg #[.int .u8 33, .int .u8 t, .int .u8 (d : Int), .int .u8 (a : Int), .int .u8 (b : Int), .int .u32 i], .bool true]) ∧ MK y w0 R C col im mem D tr ex N ∧ Ex col w col y) :
    Calls Try.prog 30 #[.pointer (some ⟨R, 0, none⟩)] w (StepEnd w w0 R col im tr N (match beginP im n [r0, r1, r2, r3, r4, r5] d mem D with | none => .stop 5 | some (m, cl) => .go m cl tr)) := by
  obtain ⟨cap, c6⟩ := h.c6
  rw [← hk] at c6
  have hcl : cls.length ≤ 2000 := by obtain ⟨_, _, _, _, _, _, _, _, p⟩ := h; exact p.cll
  have z1 : IntKind.i64.wrap ((k : Int) + 1 - 1) = (k : Int) := by rw [IntKind.wrap_i64]; omega
  have z2 : IntKind.i64.wrap (k : Int) = (k : Int) := by rw [IntKind.wrap_i64]; omega
  have z3 : IntKind.i64.wrap i = i := by rw [IntKind.wrap_i64]; omega
  have hkl : (k : Int) < (k : Int) + 1 := by omega
  have ha' : (a : Int) < 8 := by omega
  have hb' : (b : Int) < 8 := by omega
  have hd' : (d : Int) < 8 := by omega
  have CN := hideIt NX
  have HX := hideIt (And.intro hx hy)
  have HD := hideIt (And.intro hc hcok)
  subst hn
  have FIN := hideIt (show ∀ y, MK y w0 R C col im mem D tr ex N → Ex col w col y → ∀ ob m, Calls Try.prog 29 #[.pointer (some ⟨R, 0, none⟩), .int .i64 (n : Int), .agg #[.int .i64 r0, .int .i64 r1, .int .i64 r2, .int .i64 r3, .int .i64 r4, .int .i64 r5], .int .u8 (d : Int)] ((y.alloc ob).drewN m) (StepEnd w w0 R col im tr N (match beginP im n [r0, r1, r2, r3, r4, r5] d mem D with | none => .stop 5 | some (m, cl) => .go m cl tr)) from fun y hM hE ob m => (begin_step (hM.keep (((Q.refl y).alloc ob).drewN m)).mv hN hok hF n r0 r1 r2 r3 r4 r5 d hd).mono (fun e z hz => hz.of (hE.trans (Ex.q (((Q.refl y).alloc ob).drewN m)))))
  have FR := hideIt (show ∀ y, MK y w0 R C col im mem D tr ex N → ∀ (j : Nat) (g : Int), c.rd[j]? = some g → y.cell? ⟨C, k * 24 + (14 + j), none⟩ = some (.int .i64 g) from fun y hM j g hg => hM.cell hc (by have := (List.getElem?_eq_some_iff.1 hg).1; rw [hcok.rd] at this; omega) (Cl.cs_rd hcok hg))
  rw [hrd] at FR
  generalize (match beginP im n [r0, r1, r2, r3, r4, r5] d mem D with | none => Rs.stop 5 | some (m, cl) => Rs.go m cl tr) = RR at *
  clear hrd hok hF
  have HK := hideIt (And.intro hk hkD)
  clear NX h hx hy hc hcok hk hkD hcl
  go_enter Try.func30, Try.ntmps30
  go_wp2_with (fail)
  go_quiet (fail)
  go_wp2_with (first | (go_at_call 38; refine (CN.out nq).mono ?_; rintro e y ⟨rfl, hM, hE⟩; have HM := hideIt (And.intro hM hE); have xa := fun ob => cell_keep ((Q.refl y).alloc ob) (hM.cell HD.out.1 (by omega) (Cl.cs_rg HD.out.2 HX.out.1)); have xb := fun ob => cell_keep ((Q.refl y).alloc ob) (hM.cell HD.out.1 (by omega) (Cl.cs_rg HD.out.2 HX.out.2)); have sC := hM.size.1; have FY := hideIt (FIN.out y HM.out.1 HM.out.2); have q0 := fun ob m => cell_keep (((Q.refl y).alloc ob).drewN m) (FR.out y HM.out.1 0 r0 rfl); have q1 := fun ob m => cell_keep (((Q.refl y).alloc ob).drewN m) (FR.out y HM.out.1 1 r1 rfl); have q2 := fun ob m => cell_keep (((Q.refl y).alloc ob).drewN m) (FR.out y HM.out.1 2 r2 rfl); have q3 := fun ob m => cell_keep (((Q.refl y).alloc ob).drewN m) (FR.out y HM.out.1 3 r3 rfl); have q4 := fun ob m => cell_keep (((Q.refl y).alloc ob).drewN m) (FR.out y HM.out.1 4 r4 rfl); have q5 := fun ob m => cell_keep (((Q.refl y).alloc ob).drewN m) (FR.out y HM.out.1 5 r5 rfl); clear hM hE) | fail)
  go_quiet (fail)
  go_wp2_with (first | fail)
  go_region_with (first | (go_at_call 29; refine (FY.out _ (nq + 1)).mono ?_; rintro e z hz; obtain ⟨tt, c9, m9, l9, s9, x9, rfl, q9⟩ := hz; have HZ := hideIt q9; clear q9))
  all_goals go_wp2_with (fail)
  all_goals go_ret
  all_goals exact ⟨tt, c9, m9, l9, s9, x9, rfl, HZ.out⟩
end
end Go.Proofs.Ytnlgkiejppgfjaa
