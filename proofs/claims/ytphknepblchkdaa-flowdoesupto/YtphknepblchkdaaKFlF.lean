/-
 The classes of parts in memory, and the part at a class's root (root, ends of flow): contracts over the program; the conditions: the classes lie in memory.
 Rows of numbers that grow, and what writes into the classes' lists make of them: facts on worlds; the conditions: the classes lie in memory.
 Two classes become one (unite, look of flow): contracts over the program; the conditions: the classes lie in memory.
-/
import Derived.Test.YtphknepblchkdaaKFlC
import Derived.Deep.AppendLies
import Derived.Lib.AppendZeros
import Derived.Laws.AppendOwnNone
import Derived.Deep.RegionLawGrows
import Derived.Deep.RegionLaw
import Derived.BigQuiet
import Derived.Deep.Cut
namespace Go.Proofs.Ytphknepblchkdaa.Fl
open Go.RowKit
set_option linter.unusedVariables false

/-- What stands fast: the world in which the parts are gone through, where the parts lie, how many. -/
structure Fx where
 w0 : World
 lo : Nat
 P : Nat
 pc : Nat
 N : Nat
structure Fx.ok (X : Fx) : Prop where
 pos : 0 < X.N
 N : X.N ≤ 1000000
 P : X.P < X.w0.heap.size
def Fx.l (X : Fx) (k : Nat) : Nat := if k = 0 then X.lo else X.w0.heap.size
/-- The rows: the parts, up, head, from, todo, the classes' own cells; of each class those that lead to it. -/
def kD (N : Nat) (k : Nat) : Prop := k < 6 ∨ (8 ≤ k ∧ k < 8 + N)
structure CR (N cb : Nat) (L : List PP) (up : List Nat) (s : Cs) (R : Nat → Rw) : Prop where
 p : (R 0).is 47 5 N (L.flatMap PP.cells)
 u : (R 1).is 3 1 N (NV up)
 h : (R 2).is 3 1 N (NV s.hd)
 f : (R 3).is 22 1 N ((List.range N).map fun j => (R (8 + j)).v)
 t : (R 4).is 3 1 s.td.length (NV s.td)
 b : (R 5).is 96 5 1 [(R 0).v, (R 1).v, (R 2).v, (R 3).v, (R 4).v]
 ba : (R 5).a = some ⟨cb, 0, none⟩
 fr : ∀ (j : Nat) (l : List Nat), s.fr[j]? = some l → (R (8 + j)).is 3 1 l.length (NV l)
 nl : L.length = N
 nf : s.fr.length = N
/-- What up may hold: it leads to the roots. -/
structure Up (N : Nat) (up : List Nat) (rt d : Nat → Nat) : Prop where
 len : up.length = N
 lt : ∀ x y : Nat, up[x]? = some y → y < N
 sm : ∀ x y : Nat, up[x]? = some y → rt y = rt x
 ds : ∀ x y : Nat, up[x]? = some y → y = x ∨ d y < d x
 fx : ∀ x : Nat, up[x]? = some x → rt x = x
 rr : ∀ x : Nat, x < N → rt x < N ∧ up[rt x]? = some (rt x)
structure CMx (X : Fx) (cb : Nat) (L : List PP) (s : Cs) (up : List Nat) (d : Nat → Nat) (R : Nat → Rw) (w : World) : Prop where
 sep : Sep w X.l (kD X.N) R
 cr : CR X.N cb L up s R
 up : Up X.N up s.rt d
 fs : Fs (fun b => b = X.P) X.w0 w
 pv : (R 0).v = .slice (some ⟨X.P, 0, none⟩) X.N X.pc
def CM (X : Fx) (cb : Nat) (L : List PP) (s : Cs) (w : World) : Prop := ∃ up d R, CMx X cb L s up d R w
section
variable {X : Fx} {cb : Nat} {L : List PP} {s : Cs} {up : List Nat} {d : Nat → Nat} {R : Nat → Rw} {w w' : World}
theorem CMx.q (h : CMx X cb L s up d R w) (q : Q w w') : CMx X cb L s up d R w' := ⟨h.sep.q q, h.cr, h.up, h.fs.trans (Fs.of_q q), h.pv⟩
theorem CM.q (h : CM X cb L s w) (q : Q w w') : CM X cb L s w' := by obtain ⟨up, d, R, h⟩ := h; exact ⟨up, d, R, h.q q⟩
theorem kD_lt {N k : Nat} (h : k < 6) : kD N k := .inl h
theorem CMx.bx (h : CMx X cb L s up d R w) : w.cell? ⟨cb, 0, none⟩ = some (R 0).v ∧ w.cell? ⟨cb, 1, none⟩ = some (R 1).v ∧ w.cell? ⟨cb, 2, none⟩ = some (R 2).v ∧ w.cell? ⟨cb, 3, none⟩ = some (R 3).v ∧ w.cell? ⟨cb, 4, none⟩ = some (R 4).v ∧ ∀ j, w.frozen? ⟨cb, j, none⟩ = false := by
 have ho := h.sep.own 5 (kD_lt (by omega))
 have hc : ∀ j, j < 5 → w.cell? ⟨cb, j, none⟩ = (R 5).xs[j]? := fun j hj => at_cell ho h.cr.ba (by rw [h.cr.b.n, h.cr.b.sz]; omega)
 rw [h.cr.b.xs] at hc
 exact ⟨hc 0 (by omega), hc 1 (by omega), hc 2 (by omega), hc 3 (by omega), hc 4 (by omega), fun j => at_froz ho h.cr.ba j⟩
/-- A row of numbers. -/
theorem CMx.nums (h : CMx X cb L s up d R w) {k : Nat} (hk : kD X.N k) {l : List Nat} {n : Nat} (hi : (R k).is 3 1 n (NV l)) (hn : 0 < n) (hl : l.length = n) : ∃ g, (R k).a = some ⟨g, 0, none⟩ ∧ (R k).v = .slice (some ⟨g, 0, none⟩) n (R k).c ∧ (∀ m y : Nat, l[m]? = some y → w.cell? ⟨g, m, none⟩ = some (.int .i64 (y : Int))) ∧ ∀ j, w.frozen? ⟨g, j, none⟩ = false := by
 have ho := h.sep.own k hk
 obtain ⟨g, e, -, -⟩ := at_ex ho (by rw [hi.n]; exact hn)
 refine ⟨g, e, by unfold Rw.v; rw [e, hi.n], fun m y hm => ?_, fun j => at_froz ho e j⟩
 have hml := (List.getElem?_eq_some_iff.1 hm).1
 rw [at_cell ho e (by rw [hi.n, hi.sz]; omega), hi.xs, NV_get hm]
/-- A part in its row. -/
theorem row_part {w : World} {lo g n : Nat} {r : Rw} {L : List PP} (ho : r.at w lo) (hi : r.is 47 5 n (L.flatMap PP.cells)) (ha : r.a = some ⟨g, 0, none⟩) (hn : L.length = n) {k : Nat} {p : PP} (hp : L[k]? = some p) : At w g (k * 5) p.cells ∧ ∀ j, w.frozen? ⟨g, j, none⟩ = false := by
 refine ⟨fun j hj => ?_, fun j => at_froz ho ha j⟩
 have hj5 : j < 5 := hj
 have hkl := (List.getElem?_eq_some_iff.1 hp).1
 rw [at_cell ho ha (by rw [hi.n, hi.sz]; have := Nat.mul_le_mul_right 5 (show k + 1 ≤ n by omega); omega), hi.xs, flat_at PP.cells 5 PP.len L k p j hp hj5]
theorem CMx.pa (h : CMx X cb L s up d R w) : (R 0).a = some ⟨X.P, 0, none⟩ := by have := h.pv; unfold Rw.v at this; injection this
theorem CMx.part (h : CMx X cb L s up d R w) {k : Nat} {p : PP} (hp : L[k]? = some p) : At w X.P (k * 5) p.cells := (row_part (h.sep.own 0 (kD_lt (by omega))) h.cr.p h.pa h.cr.nl hp).1
theorem CMx.ups (h : CMx X cb L s up d R w) (hX : X.ok) : ∃ g, (R 1).a = some ⟨g, 0, none⟩ ∧ (R 1).v = .slice (some ⟨g, 0, none⟩) X.N (R 1).c ∧ (∀ m y : Nat, up[m]? = some y → w.cell? ⟨g, m, none⟩ = some (.int .i64 (y : Int))) ∧ ∀ j, w.frozen? ⟨g, j, none⟩ = false := h.nums (kD_lt (k := 1) (by omega)) h.cr.u hX.pos h.up.len
theorem Up.get (h : Up X.N up s.rt d) {x : Nat} (hx : x < X.N) : ∃ y, up[x]? = some y ∧ y < X.N := by
 obtain ⟨y, hy⟩ := get_of_lt (l := up) (k := x) (by rw [h.len]; exact hx)
 exact ⟨y, hy, h.lt x y hy⟩
/-- The way is half as long the next time. -/
theorem Up.half (h : Up X.N up s.rt d) {x y z : Nat} (hx : up[x]? = some y) (hy : up[y]? = some z) (hne : y ≠ x) : Up X.N (up.set x z) s.rt d := by
 have hxl := (List.getElem?_eq_some_iff.1 hx).1
 have get : ∀ a b : Nat, (up.set x z)[a]? = some b → (a = x ∧ b = z) ∨ (a ≠ x ∧ up[a]? = some b) := fun a b hab => by
  by_cases e : a = x
  ·subst e
   rw [List.getElem?_set_self hxl] at hab
   injection hab with hab
   exact .inl ⟨rfl, hab.symm⟩
  ·rw [List.getElem?_set_ne (fun q => e q.symm)] at hab
   exact .inr ⟨e, hab⟩
 have dd : d y < d x := (h.ds x y hx).resolve_left hne
 refine ⟨by simp [h.len], fun a b hab => ?_, fun a b hab => ?_, fun a b hab => ?_, fun a ha => ?_, fun a ha => ⟨(h.rr a ha).1, ?_⟩⟩
 ·rcases get a b hab with ⟨rfl, rfl⟩ | ⟨-, e⟩
  ·exact h.lt y b hy
  ·exact h.lt a b e
 ·rcases get a b hab with ⟨rfl, rfl⟩ | ⟨-, e⟩
  ·rw [h.sm y b hy, h.sm a y hx]
  ·exact h.sm a b e
 ·rcases get a b hab with ⟨rfl, rfl⟩ | ⟨-, e⟩
  ·right
   rcases h.ds y b hy with q | q
   ·rw [q]; exact dd
   ·omega
  ·exact h.ds a b e
 ·rcases get a a ha with ⟨rfl, q⟩ | ⟨-, e⟩
  ·rw [← q] at hy
   rcases h.ds y a hy with q2 | q2
   ·exact absurd q2.symm hne
   ·omega
  ·exact h.fx a e
 ·have hr := (h.rr a ha).2
  by_cases e : s.rt a = x
  ·rw [e, hx] at hr
   injection hr with hr
   exact absurd hr hne
  ·rw [List.getElem?_set_ne (fun q => e q.symm)]
   exact hr
theorem CMx.half (h : CMx X cb L s up d R w) (hX : X.ok) {U x y z : Nat} (hU : (R 1).a = some ⟨U, 0, none⟩) (hx : up[x]? = some y) (hy : up[y]? = some z) (hne : y ≠ x) : ∃ R', CMx X cb L s (up.set x z) d R' (w.setCell ⟨U, x, none⟩ (.int .i64 (z : Int))) := by
 have hk : kD X.N 1 := kD_lt (by omega)
 have hs := h.sep.set hk hU x (.int .i64 (z : Int))
 have hlo := (at_lt (h.sep.own 1 hk) hU).2.1
 have e0 : ∀ k, k ≠ 1 → upR R 1 { R 1 with xs := (R 1).xs.set x (.int .i64 (z : Int)) } k = R k := fun k hk => upR_other hk
 have e1 : (upR R 1 { R 1 with xs := (R 1).xs.set x (.int .i64 (z : Int)) } 1).v = (R 1).v := by rw [upR_same]
 refine ⟨_, hs, ⟨?_, ?_, ?_, ?_, ?_, ?_, ?_, fun j l hl => ?_, h.cr.nl, h.cr.nf⟩, h.up.half hx hy hne, h.fs.grown (row := some U) (h.sep.own 1 hk |> fun ho => by unfold Rw.at Rw.v at ho; rw [hU] at ho; exact (ho.stored x _).2) (fun g e => by injection e with e; subst e; exact .inr hlo), ?_⟩
 ·rw [e0 0 (by omega)]; exact h.cr.p
 ·rw [upR_same]; exact ⟨h.cr.u.ty, h.cr.u.sz, h.cr.u.n, by show (R 1).xs.set _ _ = _; rw [h.cr.u.xs, NV_set]⟩
 ·rw [e0 2 (by omega)]; exact h.cr.h
 ·rw [e0 3 (by omega)]
  refine ⟨h.cr.f.ty, h.cr.f.sz, h.cr.f.n, h.cr.f.xs.trans (List.map_congr_left fun j _ => ?_)⟩
  rw [e0 (8 + j) (by omega)]
 ·rw [e0 4 (by omega)]; exact h.cr.t
 ·rw [e0 5 (by omega), e1, e0 0 (by omega), e0 2 (by omega), e0 3 (by omega), e0 4 (by omega)]; exact h.cr.b
 ·rw [e0 5 (by omega)]; exact h.cr.ba
 ·rw [e0 (8 + j) (by omega)]; exact h.cr.fr j l hl
 ·rw [e0 0 (by omega)]; exact h.pv
end

set_option maxRecDepth 100000 in
set_option maxHeartbeats 1000000 in
theorem root_any (X : Fx) (hX : X.ok) (cb : Nat) (L : List PP) (s : Cs) (w : World) (h : CM X cb L s w) (n : Nat) (hn : n < X.N) : Calls Try.prog 48 #[.pointer (some ⟨cb, 0, none⟩), .int .i64 (n : Int)] w fun e w' => e = .returned (.int .i64 (s.rt n : Int)) ∧ CM X cb L s w' := by
 obtain ⟨up, d, R, h⟩ := h
 have hN : X.N ≤ 1000000 := hX.N
 have hUp : ∀ (up : List Nat), X.N ≤ 1000000 := fun _ => hN
 go_enter Try.func48, Try.ntmps48
 go_wp2_with (fail)
 go_loopw [1] (fun v z => ∃ (m : Nat) (up : List Nat) (R : Nat → Rw), v = .int .i64 m ∧ m < X.N ∧ s.rt m = s.rt n ∧ Hid (CMx X cb L s up d R z)) (fun v _ => d (intOf v).toNat)
 case atStart => exact ⟨n, up, R, rfl, hn, rfl, h⟩
 case round =>
  obtain ⟨m, up, R, rfl, hm, hrt, H1⟩ := hrel
  generalize wr = z at *
  obtain ⟨U, hU, hUv, huc, huf⟩ := H1.out.ups hX
  obtain ⟨-, b1, -, -, -, -⟩ := H1.out.bx
  rw [hUv] at b1
  generalize (R 1).c = uc at *
  obtain ⟨y, hy, hyN⟩ := H1.out.up.get hm
  obtain ⟨x, hx, hxN⟩ := H1.out.up.get hyN
  have u1 := huc m y hy
  have u2 := huc y x hx
  have f1 := huf m
  have hmi : (m : Int) < (X.N : Int) := by omega
  have hyi : (y : Int) < (X.N : Int) := by omega
  have HY := hideIt hy
  have HX2 := hideIt hx
  have HU := hideIt hU
  by_cases e : y = m
  ·subst e
   have e1 : ((y : Int) != (y : Int)) = false := by simp
   have er := H1.out.up.fx y hy
   have HE := hideIt (show s.rt n = y by omega)
   clear huc huf hUv hU hy hx h hUp hrt er u2 HX2
   go_wp2_with (fail)
   go_ret
   exact ⟨by rw [HE.out]; rfl, ⟨up, d, R, H1.out⟩⟩
  ·have e1 : ((y : Int) != (m : Int)) = true := by simp; omega
   obtain ⟨R', hR'⟩ := H1.out.half hX hU hy hx e
   have H2 := hideIt hR'
   have hd : d x < d m := by
    have h1 := (H1.out.up.ds m y hy).resolve_left e
    rcases H1.out.up.ds y x hx with q | q
    ·rw [q]; exact h1
    ·omega
   have HD := hideIt hd
   have HRT := hideIt (show s.rt x = s.rt n by rw [H1.out.up.sm y x hx, H1.out.up.sm m y hy]; exact hrt)
   have hNE : Hid (cb ≠ U) := fun q => H1.out.sep.apart 5 1 (kD_lt (by omega)) (kD_lt (by omega)) (by omega) _ _ H1.out.cr.ba hU q
   have b1' : (z.setCell ⟨U, m, none⟩ (.int .i64 (x : Int))).cell? ⟨cb, 1, none⟩ = some (.slice (some ⟨U, 0, none⟩) X.N uc) := set_cell_ne b1 (fun q => hNE.out (by injection q with q1))
   have u1' : (z.setCell ⟨U, m, none⟩ (.int .i64 (x : Int))).cell? ⟨U, m, none⟩ = some (.int .i64 (x : Int)) := World.cell?_setCell_same _ _ _ u1
   clear huc huf hUv hU hy hx h hUp hR' hd
   go_wp2_with (fail)
   go_region
   all_goals go_wp2_with (fail)
   all_goals exact ⟨⟨x, up.set m x, R', rfl, hxN, HRT.out, hideIt (H2.out.q (Q.refl _).drew)⟩, by simpa [intOf] using HD.out⟩

set_option maxRecDepth 100000 in
set_option maxHeartbeats 1000000 in
theorem ends_any (X : Fx) (hX : X.ok) (cb : Nat) (L : List PP) (s : Cs) (w : World) (h : CM X cb L s w) (k : Nat) (p : PP) (hp : L[k]? = some p) (hw : Wy X.N p) (he : p.e = false) : Calls Try.prog 47 #[.pointer (some ⟨cb, 0, none⟩), .pointer (some ⟨X.P, k * 5, none⟩)] w fun e w' => e = .returned (.tuple #[.int .i64 ((s.ends p).1 : Int), .int .i64 ((s.ends p).2 : Int)]) ∧ CM X cb L s w' := by
 have HC : Hid (∀ y, CM X cb L s y → At y X.P (k * 5) p.cells) := fun y hy => by
  obtain ⟨up, d, R, h⟩ := hy
  exact h.part hp
 have CR : Hid (∀ y, CM X cb L s y → ∀ n : Nat, n < X.N → Calls Try.prog 48 #[.pointer (some ⟨cb, 0, none⟩), .int .i64 (n : Int)] y fun e w' => e = .returned (.int .i64 (s.rt n : Int)) ∧ CM X cb L s w') := fun y hy n hn => root_any X hX cb L s y hy n hn
 obtain ⟨n1, n2⟩ := hw.nx he
 obtain ⟨nx, hnx⟩ : ∃ nx : Nat, p.next = (nx : Int) := ⟨p.next.toNat, by omega⟩
 obtain ⟨c0, c1, c2, c3, c4⟩ := (HC.out w h).five
 rw [hnx] at c3
 have HW := hideIt h
 have hnN : nx < X.N := by omega
 unfold Cs.ends
 rw [hnx, Int.toNat_natCast]
 by_cases hc : p.cond < 0
 ·have hd : decide (p.cond < 0) = true := by simpa using hc
  rw [if_pos hc]
  have c2' : Hid (∀ y, CM X cb L s y → y.cell? ⟨X.P, k * 5 + 2, none⟩ = some (.int .i64 p.cond)) := fun y hy => (HC.out y hy).five.2.2.1
  clear hc hw n1 n2 hnx h hp
  go_enter Try.func47, Try.ntmps47
  go_wp2_with (first | (go_at_call 48; refine Calls.mono (CR.out _ HW.out nx hnN) ?_; rintro e y ⟨rfl, hy⟩; have HY := hideIt hy; clear c0 c1 c2 c3 c4; have c2 := c2'.out y hy; clear hy) | fail)
  exact bodyPost_ret (v := .tuple #[.int .i64 (s.rt nx : Int), .int .i64 (s.rt nx : Int)]) (by simp [results, Try.results47, go_sem]) rfl ⟨rfl, HY.out⟩
 ·have hd : decide (p.cond < 0) = false := by simpa using hc
  rw [if_neg hc]
  obtain ⟨m1, m2⟩ := hw.el he (by omega)
  obtain ⟨el, hel⟩ : ∃ el : Nat, p.els = (el : Int) := ⟨p.els.toNat, by omega⟩
  rw [hel, Int.toNat_natCast]
  have heN : el < X.N := by omega
  have c2' : Hid (∀ y, CM X cb L s y → y.cell? ⟨X.P, k * 5 + 2, none⟩ = some (.int .i64 p.cond) ∧ y.cell? ⟨X.P, k * 5 + 4, none⟩ = some (.int .i64 (el : Int))) := fun y hy => by
   obtain ⟨-, -, q2, -, q4⟩ := (HC.out y hy).five
   rw [hel] at q4
   exact ⟨q2, q4⟩
  clear hc hw n1 n2 m1 m2 hnx hel h hp
  go_enter Try.func47, Try.ntmps47
  go_wp2_with (first
   | (go_at_call 48; first
     | (have hh := HY; clear hh; refine Calls.mono (CR.out _ HY.out el heN) ?_; rintro e z ⟨rfl, hz⟩; have HZ := hideIt hz; clear hz)
     | (refine Calls.mono (CR.out _ HW.out nx hnN) ?_; rintro e y ⟨rfl, hy⟩; have HY := hideIt hy; clear c0 c1 c2 c3 c4; obtain ⟨c2, c4⟩ := c2'.out y hy; clear hy))
   | fail)
  exact bodyPost_ret (v := .tuple #[.int .i64 (s.rt nx : Int), .int .i64 (s.rt el : Int)]) (by simp [results, Try.results47, go_sem]) rfl ⟨rfl, HZ.out⟩
end Go.Proofs.Ytphknepblchkdaa.Fl

namespace Go.Proofs.Ytphknepblchkdaa.Fl
open Go.RowKit
set_option linter.unusedVariables false

theorem info_int : ∃ i0, Try.prog.info? 3 = some i0 ∧ i0.zero = some (.int .i64 0) ∧ i0.size = 1 ∧ i0.bytes = 8 := by
 obtain ⟨i, hi, hzz⟩ := Option.map_eq_some_iff.1 Try.infoInt
 simp only [Prod.mk.injEq] at hzz
 exact ⟨i, hi, hzz.1, hzz.2.1, hzz.2.2⟩
/-- An append whose run is known, at a step of a region that draws its order. -/
theorem step_append_run {P : Program} {ops : Array Oper} {o : Oper} {a : Act} {w : World} {K : Act → World → Prop} {Q : Exit → Act → World → Prop} {E : Prop} (hgd : o.guard = none) (s x : Operand) (t tn : TypeId)
  (ho : o.op = .call { callee := .builtin .append, args := #[s, x], argTypes := #[t, tn] }) (vs vx : Value) (hs : a.eval s = vs) (hx : a.eval x = vx) (v' : Value) (w' : World)
  (hr : (Builtin.append_ #[t, tn] o.type #[vs, vx]).run P w = .ok v' w') (h : K (a.put o.dst v') w') : if Region.wanted o (yielded ops a.tmps) = true then Oper.wp P o a w K Q else E := by
 have hw : Region.wanted o (yielded ops a.tmps) = true := by simp [Region.wanted, hgd]
 rw [if_pos hw]
 exact Lib.wp_append_run w s x t tn ho vs vx hs hx v' w' hr h
theorem wpList_append_run {P : Program} {ops : Array Oper} {rest : List Oper} {o : Oper} {a : Act} {w : World} {Q : Exit → Act → World → Prop} (hgd : o.guard = none) (s x : Operand) (t tn : TypeId)
  (ho : o.op = .call { callee := .builtin .append, args := #[s, x], argTypes := #[t, tn] }) (vs vx : Value) (hs : a.eval s = vs) (hx : a.eval x = vx)
  (v' : Value) (w' : World) (hr : (Builtin.append_ #[t, tn] o.type #[vs, vx]).run P w = .ok v' w') (h : wpList P ops Q rest (a.put o.dst v') w') : wpList P ops Q (o :: rest) a w :=
 wpList_plain hgd fun _ hK => Lib.wp_append_run w s x t tn ho vs vx hs hx v' w' hr (hK _ _ h)
/-- The same, where there is such a run. -/
theorem step_append_ex {P : Program} {ops : Array Oper} {o : Oper} {a : Act} {w : World} {K : Act → World → Prop} {Q : Exit → Act → World → Prop} {E : Prop} (hgd : o.guard = none) (s x : Operand) (t tn : TypeId)
  (ho : o.op = .call { callee := .builtin .append, args := #[s, x], argTypes := #[t, tn] }) (vs vx : Value) (hs : a.eval s = vs) (hx : a.eval x = vx) (m : Nat) (Pp : Option Addr → Nat → World → Prop)
  (hr : ∃ a5 c5 w5, (Builtin.append_ #[t, tn] o.type #[vs, vx]).run P w = .ok (.slice a5 m c5) w5 ∧ Pp a5 c5 w5) (h : ∀ a5 c5 w5, Pp a5 c5 w5 → K (a.put o.dst (.slice a5 m c5)) w5) : if Region.wanted o (yielded ops a.tmps) = true then Oper.wp P o a w K Q else E := by
 obtain ⟨a5, c5, w5, h1, h2⟩ := hr
 exact step_append_run hgd s x t tn ho vs vx hs hx _ w5 h1 (h a5 c5 w5 h2)
theorem wpList_append_ex {P : Program} {ops : Array Oper} {rest : List Oper} {o : Oper} {a : Act} {w : World} {Q : Exit → Act → World → Prop} (hgd : o.guard = none) (s x : Operand) (t tn : TypeId)
  (ho : o.op = .call { callee := .builtin .append, args := #[s, x], argTypes := #[t, tn] }) (vs vx : Value) (hs : a.eval s = vs) (hx : a.eval x = vx) (m : Nat) (Pp : Option Addr → Nat → World → Prop)
  (hr : ∃ a5 c5 w5, (Builtin.append_ #[t, tn] o.type #[vs, vx]).run P w = .ok (.slice a5 m c5) w5 ∧ Pp a5 c5 w5) (h : ∀ a5 c5 w5, Pp a5 c5 w5 → wpList P ops Q rest (a.put o.dst (.slice a5 m c5)) w5) : wpList P ops Q (o :: rest) a w := by
 obtain ⟨a5, c5, w5, h1, h2⟩ := hr
 exact wpList_append_run hgd s x t tn ho vs vx hs hx _ w5 h1 (h a5 c5 w5 h2)
theorem nv_one (l : List Nat) : ∀ u ∈ NV l, u.oneCell' = true := fun u hu => by
 unfold NV at hu
 obtain ⟨n, -, rfl⟩ := List.mem_map.1 hu
 rfl
/-- A row after an append. -/
structure Grown (w : World) (lo : Nat) (r : Rw) (l : List Nat) (a : Option Addr) (c : Nat) (w1 : World) : Prop where
 own : w1.ownsRow lo 3 1 (.slice a (r.n + l.length) c) (r.n + l.length) (r.xs ++ NV l)
 g : w.grownBy w1 r.v.ownBlock
 at' : ∀ b, a = some b → r.v.ownBlock = some b.block ∨ w.heap.size ≤ b.block
theorem app_any {w : World} {lo : Nat} {r : Rw} (h : r.at w lo) (ht : r.ty = 3) (hz : r.sz = 1) (l : List Nat) (na : Option Addr) (nc : Nat) (hl : (l = [] ∧ na = none ∧ nc = 0) ∨ (∃ g, na = some ⟨g, 0, none⟩ ∧ ∀ j u, (NV l)[j]? = some u → w.cell? ⟨g, j, none⟩ = some u)) (hb : r.n + l.length ≤ 100000000) (hlo : lo ≤ w.heap.size) (ty : TypeId) :
  ∃ a c w1, (Builtin.append_ #[22, 22] ty #[r.v, .slice na l.length nc]).run Try.prog w = .ok (.slice a (r.n + l.length) c) w1 ∧ Grown w lo r l a c w1 := by
 unfold Rw.at at h
 rw [ht, hz] at h
 obtain ⟨i0, hi, hz0, hsz, hby⟩ := info_int
 rcases hl with ⟨rfl, rfl, rfl⟩ | ⟨g, rfl, hc⟩
 ·have := run_append_owned_none (P := Try.prog) w lo 22 ty 3 i0 1 Try.underlying22 hi _ _ _ h
  refine ⟨r.a, r.c, w, this, ?_, ⟨rfl, rfl, rfl, Nat.le_refl _, fun _ _ _ => rfl⟩, fun b e => .inl (by unfold Rw.v; rw [e]; rfl)⟩
  show World.ownsRow w lo 3 1 (.slice r.a (r.n + 0) r.c) (r.n + 0) (r.xs ++ [])
  rw [List.append_nil]
  exact h
 ·obtain ⟨v', w1, h1, h2, h3, -, h5⟩ := run_append_own_at (P := Try.prog) w lo 22 ty 3 i0 (.int .i64 0) 1 8 Try.underlying22 hi hz0 hsz hby rfl (by decide) r.v r.n r.xs h ⟨g, 0, none⟩ l.length nc (NV l) (by rw [NV_len, Nat.mul_one]) (fun j u hj => by rw [show ((⟨g, 0, none⟩ : Addr).add j) = ⟨g, j, none⟩ by unfold Addr.add; split <;> simp_all]; exact hc j u hj) (nv_one l) (by unfold maxLen; omega) (by omega) hlo
  have hat : ∀ b, v'.ownBlock = some b → r.v.ownBlock = some b ∨ w.heap.size ≤ b := fun b hb => by
   rcases h5 with h5 | h5
   ·exact .inl (by rw [← h5]; exact hb)
   ·rw [h5] at hb; injection hb with hb; right; omega
  rcases h2.2 with ⟨rfl, h0⟩ | ⟨g2, cap, cur, rfl, -⟩
  ·have e : Value.slice none (r.n + l.length) 0 = .slice none 0 0 := by rw [h0]
   refine ⟨none, 0, w1, by rw [e]; exact h1, ⟨by rw [e]; exact h2, h3, fun b e => by cases e⟩⟩
  ·have hat2 : ∀ b : Addr, (some (⟨g2, 0, none⟩ : Addr)) = some b → r.v.ownBlock = some b.block ∨ w.heap.size ≤ b.block := fun b e => by
    have e2 : (⟨g2, 0, none⟩ : Addr) = b := Option.some.inj e
    rw [← e2]
    exact hat g2 (by unfold Value.ownBlock; rfl)
   exact ⟨some ⟨g2, 0, none⟩, cap, w1, h1, h2, h3, hat2⟩

section
variable {w w1 : World} {lo : Nat → Nat} {D : Nat → Prop} {R : Nat → Rw} {k h0 G : Nat}
/-- A row has grown, and its header is written into another row. -/
theorem Sep.growSet (h : Sep w lo D R) (hk : D k) (hh : D h0) (hne : h0 ≠ k) {a : Option Addr} {n c : Nat} {xs : List Value} (hg : w.grownBy w1 (R k).v.ownBlock) (hr : w1.ownsRow (lo k) (R k).ty (R k).sz (.slice a n c) n xs) (hat : ∀ b, a = some b → (R k).v.ownBlock = some b.block ∨ w.heap.size ≤ b.block) (ha : (R h0).a = some ⟨G, 0, none⟩) (j : Nat) :
  Sep (w1.setCell ⟨G, j, none⟩ (.slice a n c)) lo D (upR (upR R k ⟨a, n, c, (R k).ty, (R k).sz, xs⟩) h0 { R h0 with xs := (R h0).xs.set j (.slice a n c) }) ∧ w1.heap[G]? = w.heap[G]? := by
 have ex : ∀ b, (R k).v.ownBlock = some b → ∃ a, (R k).a = some a ∧ a.block = b := fun b hb => by
  unfold Rw.v at hb
  cases e : (R k).a with
  | none => rw [e] at hb; cases hb
  | some a => rw [e] at hb; injection hb with hb; exact ⟨a, rfl, hb⟩
 have h1 := h.chg hk (r := ⟨a, n, c, (R k).ty, (R k).sz, xs⟩) hg ex hr (fun b hb => (hat b hb).imp (ex _) id)
 have e0 : upR R k ⟨a, n, c, (R k).ty, (R k).sz, xs⟩ h0 = R h0 := upR_other hne
 refine ⟨?_, hg.block G (at_lt (h.own h0 hh) ha).2.2 fun q => ?_⟩
 ·have := h1.set hh (g := G) (by rw [e0]; exact ha) j (.slice a n c)
  rw [e0] at this
  exact this
 ·obtain ⟨a2, q1, q2⟩ := ex G q.symm
  exact h.apart h0 k hh hk hne _ _ ha q1 q2.symm
end

/-- As CMx, but what up holds. -/
structure CMy (X : Fx) (cb : Nat) (L : List PP) (s : Cs) (up : List Nat) (R : Nat → Rw) (w : World) : Prop where
 sep : Sep w X.l (kD X.N) R
 cr : CR X.N cb L up s R
 fs : Fs (fun b => b = X.P) X.w0 w
 pv : (R 0).v = .slice (some ⟨X.P, 0, none⟩) X.N X.pc
section
variable {X : Fx} {cb : Nat} {L : List PP} {s : Cs} {up : List Nat} {d : Nat → Nat} {R : Nat → Rw} {w w1 w' : World}
theorem CMx.y (h : CMx X cb L s up d R w) : CMy X cb L s up R w := ⟨h.sep, h.cr, h.fs, h.pv⟩
theorem CMy.x (h : CMy X cb L s up R w) (u : Up X.N up s.rt d) : CMx X cb L s up d R w := ⟨h.sep, h.cr, u, h.fs, h.pv⟩
theorem CMy.q (h : CMy X cb L s up R w) (q : Q w w') : CMy X cb L s up R w' := ⟨h.sep.q q, h.cr, h.fs.trans (Fs.of_q q), h.pv⟩
theorem CMy.bx (h : CMy X cb L s up R w) : w.cell? ⟨cb, 0, none⟩ = some (R 0).v ∧ w.cell? ⟨cb, 1, none⟩ = some (R 1).v ∧ w.cell? ⟨cb, 2, none⟩ = some (R 2).v ∧ w.cell? ⟨cb, 3, none⟩ = some (R 3).v ∧ w.cell? ⟨cb, 4, none⟩ = some (R 4).v ∧ ∀ j, w.frozen? ⟨cb, j, none⟩ = false := by
 have ho := h.sep.own 5 (kD_lt (by omega))
 have hc : ∀ j, j < 5 → w.cell? ⟨cb, j, none⟩ = (R 5).xs[j]? := fun j hj => at_cell ho h.cr.ba (by rw [h.cr.b.n, h.cr.b.sz]; omega)
 rw [h.cr.b.xs] at hc
 exact ⟨hc 0 (by omega), hc 1 (by omega), hc 2 (by omega), hc 3 (by omega), hc 4 (by omega), fun j => at_froz ho h.cr.ba j⟩
theorem CMy.pa (h : CMy X cb L s up R w) : (R 0).a = some ⟨X.P, 0, none⟩ := by have := h.pv; unfold Rw.v at this; injection this
theorem CMy.part (h : CMy X cb L s up R w) {k : Nat} {p : PP} (hp : L[k]? = some p) : At w X.P (k * 5) p.cells ∧ ∀ j, w.frozen? ⟨X.P, j, none⟩ = false := row_part (h.sep.own 0 (kD_lt (by omega))) h.cr.p h.pa h.cr.nl hp
theorem CMy.nums (h : CMy X cb L s up R w) {k : Nat} (hk : kD X.N k) {l : List Nat} {n : Nat} (hi : (R k).is 3 1 n (NV l)) (hn : 0 < n) (hl : l.length = n) : ∃ g, (R k).a = some ⟨g, 0, none⟩ ∧ (R k).v = .slice (some ⟨g, 0, none⟩) n (R k).c ∧ (∀ m y : Nat, l[m]? = some y → w.cell? ⟨g, m, none⟩ = some (.int .i64 (y : Int))) ∧ ∀ j, w.frozen? ⟨g, j, none⟩ = false := by
 have ho := h.sep.own k hk
 obtain ⟨g, e, -, -⟩ := at_ex ho (by rw [hi.n]; exact hn)
 refine ⟨g, e, by unfold Rw.v; rw [e, hi.n], fun m y hm => ?_, fun j => at_froz ho e j⟩
 have hml := (List.getElem?_eq_some_iff.1 hm).1
 rw [at_cell ho e (by rw [hi.n, hi.sz]; omega), hi.xs, NV_get hm]
/-- The lists of those that lead to a class. -/
theorem CMy.froms (h : CMy X cb L s up R w) (hX : X.ok) : ∃ F, (R 3).a = some ⟨F, 0, none⟩ ∧ (R 3).v = .slice (some ⟨F, 0, none⟩) X.N (R 3).c ∧ (∀ j, j < X.N → w.cell? ⟨F, j, none⟩ = some (R (8 + j)).v) ∧ ∀ j, w.frozen? ⟨F, j, none⟩ = false := by
 have ho := h.sep.own 3 (kD_lt (by omega))
 obtain ⟨g, e, -, -⟩ := at_ex ho (by rw [h.cr.f.n]; exact hX.pos)
 refine ⟨g, e, by unfold Rw.v; rw [e, h.cr.f.n], fun j hj => ?_, fun j => at_froz ho e j⟩
 rw [at_cell ho e (by rw [h.cr.f.n, h.cr.f.sz]; omega), h.cr.f.xs]
 simp [hj]
theorem fr_get (h : CMy X cb L s up R w) {j : Nat} (hj : j < X.N) : ∃ l, s.fr[j]? = some l ∧ (R (8 + j)).is 3 1 l.length (NV l) := by
 obtain ⟨l, hl⟩ := get_of_lt (l := s.fr) (k := j) (by rw [h.cr.nf]; exact hj)
 exact ⟨l, hl, h.cr.fr j l hl⟩
theorem kD_fr {N j : Nat} (h : j < N) : kD N (8 + j) := .inr ⟨by omega, by omega⟩
theorem l_new {k : Nat} (hk : k ≠ 0) : X.l k = X.w0.heap.size := by unfold Fx.l; rw [if_neg hk]
theorem map_keep {N : Nat} {R R' : Nat → Rw} (h : ∀ j, j < N → R' (8 + j) = R (8 + j)) : ((List.range N).map fun j => (R' (8 + j)).v) = (List.range N).map fun j => (R (8 + j)).v := List.map_congr_left fun j hj => by rw [h j (List.mem_range.1 hj)]
/-- A number of up is written. -/
theorem CMy.setU (h : CMy X cb L s up R w) {U : Nat} (hU : (R 1).a = some ⟨U, 0, none⟩) (x z : Nat) : ∃ R', CMy X cb L s (up.set x z) R' (w.setCell ⟨U, x, none⟩ (.int .i64 (z : Int))) ∧ ∀ k, k ≠ 1 → R' k = R k := by
 have hk : kD X.N 1 := kD_lt (by omega)
 have ho := h.sep.own 1 hk
 have hlo := (at_lt ho hU).2.1
 unfold Rw.at Rw.v at ho; rw [hU] at ho
 have hg := (ho.stored x (.int .i64 (z : Int))).2
 have e0 : ∀ k, k ≠ 1 → upR R 1 { R 1 with xs := (R 1).xs.set x (.int .i64 (z : Int)) } k = R k := fun k hk => upR_other hk
 refine ⟨_, ⟨h.sep.set hk hU x (.int .i64 (z : Int)), ⟨?_, ?_, ?_, ?_, ?_, ?_, ?_, fun j l hl => ?_, h.cr.nl, h.cr.nf⟩, h.fs.grown (row := some U) hg (fun g e => by injection e with e; subst e; exact .inr hlo), ?_⟩, e0⟩
 ·rw [e0 0 (by omega)]; exact h.cr.p
 ·rw [upR_same]; exact ⟨h.cr.u.ty, h.cr.u.sz, h.cr.u.n, by show (R 1).xs.set _ _ = _; rw [h.cr.u.xs, NV_set]⟩
 ·rw [e0 2 (by omega)]; exact h.cr.h
 ·rw [e0 3 (by omega)]
  exact ⟨h.cr.f.ty, h.cr.f.sz, h.cr.f.n, h.cr.f.xs.trans (map_keep fun j _ => e0 (8 + j) (by omega)).symm⟩
 ·rw [e0 4 (by omega)]; exact h.cr.t
 ·rw [e0 5 (by omega), e0 0 (by omega), e0 2 (by omega), e0 3 (by omega), e0 4 (by omega), upR_same]; exact h.cr.b
 ·rw [e0 5 (by omega)]; exact h.cr.ba
 ·rw [e0 (8 + j) (by omega)]; exact h.cr.fr j l hl
 ·rw [e0 0 (by omega)]; exact h.pv
/-- A number of head is written. -/
theorem CMy.setH (h : CMy X cb L s up R w) {U : Nat} (hU : (R 2).a = some ⟨U, 0, none⟩) (x z : Nat) : ∃ R', CMy X cb L { s with hd := s.hd.set x z } up R' (w.setCell ⟨U, x, none⟩ (.int .i64 (z : Int))) ∧ ∀ k, k ≠ 2 → R' k = R k := by
 have hk : kD X.N 2 := kD_lt (by omega)
 have ho := h.sep.own 2 hk
 have hlo := (at_lt ho hU).2.1
 unfold Rw.at Rw.v at ho; rw [hU] at ho
 have hg := (ho.stored x (.int .i64 (z : Int))).2
 have e0 : ∀ k, k ≠ 2 → upR R 2 { R 2 with xs := (R 2).xs.set x (.int .i64 (z : Int)) } k = R k := fun k hk => upR_other hk
 refine ⟨_, ⟨h.sep.set hk hU x (.int .i64 (z : Int)), ⟨?_, ?_, ?_, ?_, ?_, ?_, ?_, fun j l hl => ?_, h.cr.nl, h.cr.nf⟩, h.fs.grown (row := some U) hg (fun g e => by injection e with e; subst e; exact .inr hlo), ?_⟩, e0⟩
 ·rw [e0 0 (by omega)]; exact h.cr.p
 ·rw [e0 1 (by omega)]; exact h.cr.u
 ·rw [upR_same]; exact ⟨h.cr.h.ty, h.cr.h.sz, h.cr.h.n, by show (R 2).xs.set _ _ = _; rw [h.cr.h.xs, NV_set]⟩
 ·rw [e0 3 (by omega)]
  exact ⟨h.cr.f.ty, h.cr.f.sz, h.cr.f.n, h.cr.f.xs.trans (map_keep fun j _ => e0 (8 + j) (by omega)).symm⟩
 ·rw [e0 4 (by omega)]; exact h.cr.t
 ·rw [e0 5 (by omega), e0 0 (by omega), e0 1 (by omega), e0 3 (by omega), e0 4 (by omega), upR_same]; exact h.cr.b
 ·rw [e0 5 (by omega)]; exact h.cr.ba
 ·rw [e0 (8 + j) (by omega)]; exact h.cr.fr j l hl
 ·rw [e0 0 (by omega)]; exact h.pv
/-- Numbers are put behind todo. -/
theorem CMy.td (h : CMy X cb L s up R w) {l : List Nat} {a : Option Addr} {c : Nat} (hg : Grown w (X.l 4) (R 4) l a c w1) : (∃ R', CMy X cb L { s with td := s.td ++ l } up R' (w1.setCell ⟨cb, 4, none⟩ (.slice a ((R 4).n + l.length) c)) ∧ ∀ k, k ≠ 4 → k ≠ 5 → R' k = R k) ∧ w1.heap[cb]? = w.heap[cb]? := by
 have k4 : kD X.N 4 := kD_lt (by omega)
 have k5 : kD X.N 5 := kD_lt (by omega)
 have ho := h.sep.own 4 k4
 obtain ⟨s1, s2⟩ := h.sep.growSet k4 k5 (by omega) hg.g (by rw [h.cr.t.ty, h.cr.t.sz]; exact hg.own) hg.at' h.cr.ba 4
 have e0 : ∀ k, k ≠ 4 → k ≠ 5 → upR (upR R 4 ⟨a, (R 4).n + l.length, c, (R 4).ty, (R 4).sz, (R 4).xs ++ NV l⟩) 5 { R 5 with xs := (R 5).xs.set 4 (.slice a ((R 4).n + l.length) c) } k = R k := fun k h1 h2 => by rw [upR_other h2, upR_other h1]
 have e4 : upR (upR R 4 ⟨a, (R 4).n + l.length, c, (R 4).ty, (R 4).sz, (R 4).xs ++ NV l⟩) 5 { R 5 with xs := (R 5).xs.set 4 (.slice a ((R 4).n + l.length) c) } 4 = ⟨a, (R 4).n + l.length, c, (R 4).ty, (R 4).sz, (R 4).xs ++ NV l⟩ := by rw [upR_other (by omega), upR_same]
 have hlo : ∀ g, (R 4).v.ownBlock = some g → X.w0.heap.size ≤ g := fun g hg' => by have := (ho.lt g hg').1; rwa [l_new (by omega)] at this
 have hcb := (at_lt (h.sep.own 5 k5) h.cr.ba).2.1
 rw [l_new (by omega)] at hcb
 have fs1 : Fs (fun b => b = X.P) X.w0 w1 := h.fs.grown hg.g (fun g e => .inr (hlo g e))
 refine ⟨⟨_, ⟨s1, ⟨?_, ?_, ?_, ?_, ?_, ?_, ?_, fun j l' hl => ?_, h.cr.nl, h.cr.nf⟩, ?_, ?_⟩, e0⟩, s2⟩
 ·rw [e0 0 (by omega) (by omega)]; exact h.cr.p
 ·rw [e0 1 (by omega) (by omega)]; exact h.cr.u
 ·rw [e0 2 (by omega) (by omega)]; exact h.cr.h
 ·rw [e0 3 (by omega) (by omega)]
  exact ⟨h.cr.f.ty, h.cr.f.sz, h.cr.f.n, h.cr.f.xs.trans (map_keep fun j _ => e0 (8 + j) (by omega) (by omega)).symm⟩
 ·rw [e4]
  exact ⟨h.cr.t.ty, h.cr.t.sz, by show (R 4).n + l.length = (s.td ++ l).length; rw [h.cr.t.n, List.length_append], by show (R 4).xs ++ NV l = NV (s.td ++ l); rw [h.cr.t.xs, NV_app]⟩
 ·rw [e4, e0 0 (by omega) (by omega), e0 1 (by omega) (by omega), e0 2 (by omega) (by omega), e0 3 (by omega) (by omega), upR_same]
  exact ⟨h.cr.b.ty, h.cr.b.sz, h.cr.b.n, by show (R 5).xs.set 4 _ = _; rw [h.cr.b.xs]; rfl⟩
 ·rw [upR_same]; exact h.cr.ba
 ·rw [e0 (8 + j) (by omega) (by omega)]; exact h.cr.fr j l' hl
 ·exact fs1.grown (row := some cb) (C := w1.setCell ⟨cb, 4, none⟩ (.slice a ((R 4).n + l.length) c)) ⟨rfl, rfl, rfl, by simp, fun k _ hk => Below.heap_setCell _ _ _ _ (fun e => hk (by rw [e]))⟩ (fun g e => by injection e with e; subst e; exact .inr hcb)
 ·rw [e0 0 (by omega) (by omega)]; exact h.pv
/-- Numbers are put behind those that lead to a class. -/
theorem CMy.fro (h : CMy X cb L s up R w) (hX : X.ok) {j : Nat} (hj : j < X.N) {l lj : List Nat} (hlj : s.fr[j]? = some lj) {F : Nat} (hF : (R 3).a = some ⟨F, 0, none⟩) {a : Option Addr} {c : Nat} (hg : Grown w (X.l (8 + j)) (R (8 + j)) l a c w1) : (∃ R', CMy X cb L { s with fr := s.fr.set j (lj ++ l) } up R' (w1.setCell ⟨F, j, none⟩ (.slice a ((R (8 + j)).n + l.length) c)) ∧ (∀ k, k ≠ 3 → k ≠ 8 + j → R' k = R k) ∧ (R' 3).a = some ⟨F, 0, none⟩ ∧ (R' 3).v = (R 3).v) ∧ w1.heap[F]? = w.heap[F]? ∧ w1.heap[cb]? = w.heap[cb]? := by
 have k8 := kD_fr hj
 have k3 : kD X.N 3 := kD_lt (by omega)
 have ho := h.sep.own (8 + j) k8
 have hi := h.cr.fr j lj hlj
 obtain ⟨s1, s2⟩ := h.sep.growSet k8 k3 (by omega) hg.g (by rw [hi.ty, hi.sz]; exact hg.own) hg.at' hF j
 generalize hnv : Value.slice a ((R (8 + j)).n + l.length) c = nv' at *
 obtain ⟨R', hR'⟩ : ∃ R', R' = upR (upR R (8 + j) ⟨a, (R (8 + j)).n + l.length, c, (R (8 + j)).ty, (R (8 + j)).sz, (R (8 + j)).xs ++ NV l⟩) 3 ⟨(R 3).a, (R 3).n, (R 3).c, (R 3).ty, (R 3).sz, (R 3).xs.set j nv'⟩ := ⟨_, rfl⟩
 have s3 : Sep (w1.setCell ⟨F, j, Option.none⟩ nv') X.l (kD X.N) R' := by rw [hR']; exact s1
 have e0 : ∀ k, k ≠ 3 → k ≠ 8 + j → R' k = R k := fun k h1 h2 => by rw [hR', upR_other h1, upR_other h2]
 have e8 : R' (8 + j) = ⟨a, (R (8 + j)).n + l.length, c, (R (8 + j)).ty, (R (8 + j)).sz, (R (8 + j)).xs ++ NV l⟩ := by rw [hR', upR_other (by omega), upR_same]
 have e3 : R' 3 = ⟨(R 3).a, (R 3).n, (R 3).c, (R 3).ty, (R 3).sz, (R 3).xs.set j nv'⟩ := by rw [hR', upR_same]
 have e3v : (R' 3).v = (R 3).v := by rw [e3]
 clear hR' s1
 have hlo : ∀ g, (R (8 + j)).v.ownBlock = some g → X.w0.heap.size ≤ g := fun g hg' => by have := (ho.lt g hg').1; rwa [l_new (by omega)] at this
 have hFl := (at_lt (h.sep.own 3 k3) hF).2.1
 rw [l_new (by omega)] at hFl
 have fs1 : Fs (fun b => b = X.P) X.w0 w1 := h.fs.grown hg.g (fun g e => .inr (hlo g e))
 have ex : ∀ b, (R (8 + j)).v.ownBlock = some b → ∃ a, (R (8 + j)).a = some a ∧ a.block = b := fun b hb => by
  unfold Rw.v at hb
  cases e : (R (8 + j)).a with
  | none => rw [e] at hb; cases hb
  | some a => rw [e] at hb; injection hb with hb; exact ⟨a, rfl, hb⟩
 refine ⟨⟨R', ⟨s3, ⟨?_, ?_, ?_, ?_, ?_, ?_, ?_, fun i l' hl => ?_, h.cr.nl, by simp [h.cr.nf]⟩, ?_, ?_⟩, e0, by rw [e3]; exact hF, e3v⟩, s2, hg.g.block cb (at_lt (h.sep.own 5 (kD_lt (by omega))) h.cr.ba).2.2 fun q => ?_⟩
 ·rw [e0 0 (by omega) (by omega)]; exact h.cr.p
 ·rw [e0 1 (by omega) (by omega)]; exact h.cr.u
 ·rw [e0 2 (by omega) (by omega)]; exact h.cr.h
 ·refine ⟨by rw [e3]; exact h.cr.f.ty, by rw [e3]; exact h.cr.f.sz, by rw [e3]; exact h.cr.f.n, ?_⟩
  rw [e3]
  show (R 3).xs.set j nv' = _
  rw [h.cr.f.xs]
  refine List.ext_getElem? fun i => ?_
  rw [List.getElem?_set]
  by_cases e : j = i
  ·subst e
   rw [if_pos rfl]
   simp only [List.length_map, List.length_range, hj, if_true, List.getElem?_map, List.getElem?_range hj, Option.map_some]
   rw [e8, ← hnv]
  ·rw [if_neg e, List.getElem?_map, List.getElem?_map]
   cases hr : (List.range X.N)[i]? with
   | none => rfl
   | some i2 =>
    have : i2 = i := by
     have := (List.getElem?_eq_some_iff.1 hr).2
     simpa using this.symm
    subst this
    simp only [Option.map_some]
    rw [e0 (8 + i2) (by omega) (by omega)]
 ·rw [e0 4 (by omega) (by omega)]; exact h.cr.t
 ·rw [e3v, e0 0 (by omega) (by omega), e0 1 (by omega) (by omega), e0 2 (by omega) (by omega), e0 4 (by omega) (by omega), e0 5 (by omega) (by omega)]; exact h.cr.b
 ·rw [e0 5 (by omega) (by omega)]; exact h.cr.ba
 ·by_cases e : i = j
  ·subst e
   rw [List.getElem?_set_self (by rw [h.cr.nf]; exact hj)] at hl
   injection hl with hl
   subst hl
   rw [e8]
   exact ⟨hi.ty, hi.sz, by show (R (8 + i)).n + l.length = (lj ++ l).length; rw [hi.n, List.length_append], by show (R (8 + i)).xs ++ NV l = NV (lj ++ l); rw [hi.xs, NV_app]⟩
  ·rw [List.getElem?_set_ne (fun q => e q.symm)] at hl
   rw [e0 (8 + i) (by omega) (by omega)]
   exact h.cr.fr i l' hl
 ·exact fs1.grown (row := some F) (C := w1.setCell ⟨F, j, none⟩ nv') ⟨rfl, rfl, rfl, by simp, fun k _ hk => Below.heap_setCell _ _ _ _ (fun e => hk (by rw [e]))⟩ (fun g e => by injection e with e; subst e; exact .inr hFl)
 ·rw [e0 0 (by omega) (by omega)]; exact h.pv
 ·obtain ⟨a2, q1, q2⟩ := ex cb q.symm
  exact h.sep.apart 5 (8 + j) (kD_lt (by omega)) k8 (by omega) _ _ h.cr.ba q1 q2.symm
/-- None leads to a class any more. -/
theorem CMy.nil (h : CMy X cb L s up R w) (hX : X.ok) {j : Nat} (hj : j < X.N) {F : Nat} (hF : (R 3).a = some ⟨F, 0, none⟩) : ∃ R', CMy X cb L { s with fr := s.fr.set j [] } up R' (w.setCell ⟨F, j, none⟩ (.slice none 0 0)) := by
 have k8 := kD_fr hj
 have k3 : kD X.N 3 := kD_lt (by omega)
 obtain ⟨lj, hlj, hi⟩ := fr_get h hj
 have s0 : Sep w X.l (kD X.N) (upR R (8 + j) ⟨none, 0, 0, 3, 1, []⟩) := h.sep.chg k8 (row := none) ⟨rfl, rfl, rfl, Nat.le_refl _, fun _ _ _ => rfl⟩ (fun b hb => by cases hb) (World.ownsRow_nil w _ _ _) (fun b hb => by cases hb)
 have e3 : upR R (8 + j) ⟨none, 0, 0, 3, 1, []⟩ 3 = R 3 := upR_other (by omega)
 have s1 := s0.set k3 (g := F) (by rw [e3]; exact hF) j (.slice none 0 0)
 rw [e3] at s1
 obtain ⟨R', hR'⟩ : ∃ R', R' = upR (upR R (8 + j) ⟨none, 0, 0, 3, 1, []⟩) 3 ⟨(R 3).a, (R 3).n, (R 3).c, (R 3).ty, (R 3).sz, (R 3).xs.set j (.slice none 0 0)⟩ := ⟨_, rfl⟩
 have s2 : Sep (w.setCell ⟨F, j, Option.none⟩ (.slice none 0 0)) X.l (kD X.N) R' := by rw [hR']; exact s1
 have e0 : ∀ k, k ≠ 3 → k ≠ 8 + j → R' k = R k := fun k h1 h2 => by rw [hR', upR_other h1, upR_other h2]
 have e8 : R' (8 + j) = ⟨none, 0, 0, 3, 1, []⟩ := by rw [hR', upR_other (by omega), upR_same]
 have e3 : R' 3 = ⟨(R 3).a, (R 3).n, (R 3).c, (R 3).ty, (R 3).sz, (R 3).xs.set j (.slice none 0 0)⟩ := by rw [hR', upR_same]
 have e3v : (R' 3).v = (R 3).v := by rw [e3]
 clear hR' s1
 have hFl := (at_lt (h.sep.own 3 k3) hF).2.1
 rw [l_new (by omega)] at hFl
 refine ⟨R', s2, ⟨?_, ?_, ?_, ?_, ?_, ?_, ?_, fun i l' hl => ?_, h.cr.nl, by simp [h.cr.nf]⟩, ?_, ?_⟩
 ·rw [e0 0 (by omega) (by omega)]; exact h.cr.p
 ·rw [e0 1 (by omega) (by omega)]; exact h.cr.u
 ·rw [e0 2 (by omega) (by omega)]; exact h.cr.h
 ·refine ⟨by rw [e3]; exact h.cr.f.ty, by rw [e3]; exact h.cr.f.sz, by rw [e3]; exact h.cr.f.n, ?_⟩
  rw [e3]
  show (R 3).xs.set j _ = _
  rw [h.cr.f.xs]
  refine List.ext_getElem? fun i => ?_
  rw [List.getElem?_set]
  by_cases e : j = i
  ·subst e
   rw [if_pos rfl]
   simp only [List.length_map, List.length_range, hj, if_true, List.getElem?_map, List.getElem?_range hj, Option.map_some]
   rw [e8]
  ·rw [if_neg e, List.getElem?_map, List.getElem?_map]
   cases hr : (List.range X.N)[i]? with
   | none => rfl
   | some i2 =>
    have : i2 = i := by
     have := (List.getElem?_eq_some_iff.1 hr).2
     simpa using this.symm
    subst this
    simp only [Option.map_some]
    rw [e0 (8 + i2) (by omega) (by omega)]
 ·rw [e0 4 (by omega) (by omega)]; exact h.cr.t
 ·rw [e3v, e0 0 (by omega) (by omega), e0 1 (by omega) (by omega), e0 2 (by omega) (by omega), e0 4 (by omega) (by omega), e0 5 (by omega) (by omega)]; exact h.cr.b
 ·rw [e0 5 (by omega) (by omega)]; exact h.cr.ba
 ·by_cases e : i = j
  ·subst e
   rw [List.getElem?_set_self (by rw [h.cr.nf]; exact hj)] at hl
   injection hl with hl
   subst hl
   rw [e8]
   exact ⟨rfl, rfl, rfl, rfl⟩
  ·rw [List.getElem?_set_ne (fun q => e q.symm)] at hl
   rw [e0 (8 + i) (by omega) (by omega)]
   exact h.cr.fr i l' hl
 ·exact h.fs.grown (row := some F) ⟨rfl, rfl, rfl, by simp, fun k _ hk => Below.heap_setCell _ _ _ _ (fun e => hk (by rw [e]))⟩ (fun g e => by injection e with e; subst e; exact .inr hFl)
 ·rw [e0 0 (by omega) (by omega)]; exact h.pv
end
end Go.Proofs.Ytphknepblchkdaa.Fl

namespace Go.Proofs.Ytphknepblchkdaa.Fl
open Go.RowKit
set_option linter.unusedVariables false

theorem CR.st {N cb : Nat} {L : List PP} {up : List Nat} {s s' : Cs} {R : Nat → Rw} (h : CR N cb L up s R) (h1 : s'.hd = s.hd) (h2 : s'.fr = s.fr) (h3 : s'.td = s.td) : CR N cb L up s' R :=
 ⟨h.p, h.u, by rw [h1]; exact h.h, h.f, by rw [h3]; exact h.t, h.b, h.ba, by rw [h2]; exact h.fr, h.nl, by rw [h2]; exact h.nf⟩
section
variable {X : Fx} {cb : Nat} {L : List PP} {s : Cs} {up : List Nat} {d : Nat → Nat} {R : Nat → Rw} {w w' : World}
/-- One class leads to another one. -/
theorem Up.one (h : Up X.N up s.rt d) {a b : Nat} (hne : a ≠ b) (ha : a < X.N) (hb : b < X.N) (ra : s.rt a = a) (rb : s.rt b = b) : Up X.N (up.set a b) (fun x => if s.rt x = a then b else s.rt x) (fun x => if s.rt x = a then d x + d b + 1 else d x) := by
 have hal : a < up.length := by rw [h.len]; exact ha
 have get : ∀ x y : Nat, (up.set a b)[x]? = some y → (x = a ∧ y = b) ∨ (x ≠ a ∧ up[x]? = some y) := fun x y hxy => by
  by_cases e : x = a
  ·subst e
   rw [List.getElem?_set_self hal] at hxy
   injection hxy with hxy
   exact .inl ⟨rfl, hxy.symm⟩
  ·rw [List.getElem?_set_ne (fun q => e q.symm)] at hxy
   exact .inr ⟨e, hxy⟩
 have nb : ¬ s.rt b = a := fun q => hne (by rw [← q]; exact rb)
 refine ⟨by simp [h.len], fun x y hxy => ?_, fun x y hxy => ?_, fun x y hxy => ?_, fun x hx => ?_, fun x hx => ?_⟩
 ·rcases get x y hxy with ⟨rfl, rfl⟩ | ⟨-, e⟩
  ·exact hb
  ·exact h.lt x y e
 ·rcases get x y hxy with ⟨rfl, rfl⟩ | ⟨-, e⟩
  ·rw [if_neg nb, if_pos ra]; exact rb
  ·rw [h.sm x y e]
 ·rcases get x y hxy with ⟨rfl, rfl⟩ | ⟨-, e⟩
  ·right
   rw [if_neg nb, if_pos ra]; omega
  ·rcases h.ds x y e with q | q
   ·exact .inl q
   ·right
    rw [h.sm x y e]
    split <;> omega
 ·rcases get x x hx with ⟨rfl, rfl⟩ | ⟨e1, e⟩
  ·exact absurd rfl hne
  ·have := h.fx x e
   rw [this, if_neg e1]
 ·split
  ·exact ⟨hb, by rw [List.getElem?_set_ne hne]; have := (h.rr b hb).2; rwa [rb] at this⟩
  ·rename_i q
   exact ⟨(h.rr x hx).1, by rw [List.getElem?_set_ne (fun e => q e.symm)]; exact (h.rr x hx).2⟩
theorem q_of {z Y : World} (h0 : Y.heap = z.heap) (h1 : Y.os = z.os) (h2 : Y.tape = z.tape) (h3 : Y.output = z.output) : Q z Y := ⟨h1, h2, h3, by rw [h0]; exact Nat.le_refl _, fun k _ => by rw [h0]⟩
/-- A class's list, as what is put behind another one. -/
theorem news_of (h : CMy X cb L s up R w) {j : Nat} (hj : j < X.N) {l : List Nat} (hl : s.fr[j]? = some l) : (l = [] ∧ (R (8 + j)).a = none ∧ (R (8 + j)).c = 0) ∨ (∃ g, (R (8 + j)).a = some ⟨g, 0, none⟩ ∧ ∀ j' u, (NV l)[j']? = some u → w.cell? ⟨g, j', none⟩ = some u) := by
 have ho := h.sep.own (8 + j) (kD_fr hj)
 have hi := h.cr.fr j l hl
 cases e : (R (8 + j)).a with
 | none =>
  unfold Rw.at Rw.v at ho
  rw [e] at ho
  obtain ⟨h1, h2, h3⟩ := own_none ho
  left
  rw [hi.n] at h1
  exact ⟨List.eq_nil_of_length_eq_zero h1, rfl, h3⟩
 | some a =>
  obtain ⟨e1, -, -⟩ := at_lt ho e
  right
  refine ⟨a.block, by rw [← e1], fun j' u hu => ?_⟩
  have hjl := (List.getElem?_eq_some_iff.1 hu).1
  rw [NV_len] at hjl
  rw [at_cell ho (by rw [e, ← e1]) (by rw [hi.n, hi.sz]; omega), hi.xs, hu]
end


set_option maxRecDepth 100000 in
set_option maxHeartbeats 2000000 in
theorem unite_any (X : Fx) (hX : X.ok) (cb : Nat) (L : List PP) (s : Cs) (w : World) (h : CM X cb L s w) (a b : Nat) (ha : a < X.N) (hb : b < X.N) (hne : a ≠ b) (ra : s.rt a = a) (rb : s.rt b = b) (hsz : s.td.length + s.fr.flatten.length ≤ 50000000) (hhd : s.hd.length = X.N) :
  Calls Try.prog 64 #[.pointer (some ⟨cb, 0, none⟩), .int .i64 (a : Int), .int .i64 (b : Int)] w fun e w' => e = .returned (.tuple #[]) ∧ CM X cb L (s.unite a b) w' := by
 obtain ⟨up, d, R, h⟩ := h
 obtain ⟨hd0, hhd0⟩ := get_of_lt (l := s.hd) (k := b) (by rw [hhd]; exact hb)
 obtain ⟨la, hla, hia⟩ := fr_get h.y ha
 obtain ⟨lb, hlb, hib⟩ := fr_get h.y hb
 have hNN : X.N ≤ 1000000 := hX.N
 obtain ⟨Hd, hHd, hHdv, hHdc, hHdf⟩ := h.y.nums (kD_lt (k := 2) (by omega)) h.cr.h hX.pos hhd
 obtain ⟨F, hF, hFv, hFc, hFf⟩ := h.y.froms hX
 obtain ⟨-, -, b2, b3, -, -⟩ := h.y.bx
 rw [hHdv] at b2
 rw [hFv] at b3
 generalize (R 2).c = hc at *
 generalize hfc : (R 3).c = fc at *
 have c1 := hHdc b hd0 hhd0
 have d1 := hFc a ha
 have d2 := hFc b hb
 have v1 : (R (8 + a)).v = .slice (R (8 + a)).a la.length (R (8 + a)).c := by unfold Rw.v; rw [hia.n]
 have v2 : (R (8 + b)).v = .slice (R (8 + b)).a lb.length (R (8 + b)).c := by unfold Rw.v; rw [hib.n]
 rw [v1] at d1
 rw [v2] at d2
 have flat : ∀ (j : Nat) (l : List Nat), s.fr[j]? = some l → l.length ≤ s.fr.flatten.length := fun j l hl => by
  have : l ∈ s.fr := List.mem_of_getElem? hl
  exact (List.sublist_flatten_of_mem this).length_le
 have hal := flat a la hla
 have hbl := flat b lb hlb
 have hai : (a : Int) < (X.N : Int) := by omega
 have hbi : (b : Int) < (X.N : Int) := by omega
 have HUN : Hid (s.unite a b = if lb.length < la.length then s.one b a hd0 else s.one a b hd0) := by show s.unite a b = _; unfold Cs.unite; rw [hla, hlb, hhd0]; rfl
 have HLA := hideIt hla
 have HLB := hideIt hlb
 have H := hideIt h
 have HSZ := hideIt hsz
 have HHD := hideIt hhd
 have HRA := hideIt ra
 have HRB := hideIt rb
 have HNE := hideIt hne
 have HNE2 : Hid (b ≠ a) := fun q => hne q.symm
 have HTD := hideIt h.cr.t
 clear h hhd0 hia hib hHd hHdv hHdc hHdf hF hFv hFc hFf hla hlb v1 v2 flat hsz hhd ra rb hne hfc
 by_cases hlt : lb.length < la.length
 ·have hcmp : decide ((lb.length : Int) < (la.length : Int)) = true := by simpa using hlt
  rw [if_pos hlt] at HUN
  go_enter Try.func64, Try.ntmps64
  go_wp2_with (fail)
  go_quiet (fail)
  clear hcmp c1 d1 d2 b2 b3 hlt
  generalize hw0 : w.drewN nq = z0 at *
  have M0 : Hid (CMx X cb L s up d R z0) := by show CMx X cb L s up d R z0; rw [← hw0]; exact H.out.q ((Q.refl w).drewN _)
  clear hw0 H
  obtain ⟨U, hU, hUv, hUc, hUf⟩ := M0.out.ups hX
  obtain ⟨-, b1, -, -, -, -⟩ := M0.out.bx
  rw [hUv] at b1
  obtain ⟨ua, hua, -⟩ := M0.out.up.get hb
  have u1 := hUc b ua hua
  have uf := hUf b
  obtain ⟨R1, m1, k1⟩ := M0.out.y.setU hU b a
  have M1 := hideIt m1
  have K1 := hideIt k1
  have UP := hideIt (M0.out.up.one HNE2.out hb ha HRB.out HRA.out)
  generalize (R 1).c = uc at *
  clear hU hUv hUc hUf hua m1 k1
  obtain ⟨Hd1, hHd, hHdv, hHdc, hHdf⟩ := M1.out.nums (kD_lt (k := 2) (by omega)) M1.out.cr.h hX.pos HHD.out
  obtain ⟨-, -, b2, -, -, -⟩ := M1.out.bx
  rw [hHdv] at b2
  obtain ⟨hv, hhv⟩ := get_of_lt (l := s.hd) (k := a) (by rw [HHD.out]; exact ha)
  have c2 := hHdc a hv hhv
  have cf := hHdf a
  obtain ⟨R2, m2, k2⟩ := M1.out.setH hHd a hd0
  have M2 := hideIt m2
  generalize (R1 2).c = hc1 at *
  clear hhv m2 k2 K1 hHd hHdv hHdc hHdf
  go_upto_region 5 with (fail)
  clear u1 uf b1 b2 c2 cf
  obtain ⟨z2, hz2⟩ : ∃ z2, (z0.setCell ⟨U, b, none⟩ (.int .i64 (a : Int))).setCell ⟨Hd1, a, none⟩ (.int .i64 (hd0 : Int)) = z2 := ⟨_, rfl⟩
  rw [hz2] at M2 ⊢
  clear hz2 M1 M0
  obtain ⟨F, hF, hFv, hFc, hFf⟩ := M2.out.froms hX
  obtain ⟨-, -, -, b3, b4, bf⟩ := M2.out.bx
  rw [hFv] at b3
  have bf4 := bf 4
  have hin := (M2.out.cr.fr b lb HLB.out).n
  have d1 : z2.cell? ⟨F, b, none⟩ = some (.slice (R2 (8 + b)).a lb.length (R2 (8 + b)).c) := by rw [hFc b hb]; unfold Rw.v; rw [hin]
  have hT := M2.out.cr.t.n
  have NX5 : Hid (∀ Y : World, Y.heap = z2.heap → Y.os = z2.os → Y.tape = z2.tape → Y.output = z2.output → ∀ ty, ∃ a5 c5 w5, (Builtin.append_ #[22, 22] ty #[.slice (R2 4).a (R2 4).n (R2 4).c, .slice (R2 (8 + b)).a lb.length (R2 (8 + b)).c]).run Try.prog Y = .ok (.slice a5 ((R2 4).n + lb.length) c5) w5 ∧ w5.cell? ⟨cb, 4, none⟩ = some (.slice (R2 4).a (R2 4).n (R2 4).c) ∧ w5.frozen? ⟨cb, 4, none⟩ = false ∧ ∃ R3, CMy X cb L { s with hd := s.hd.set a hd0, td := s.td ++ lb } (up.set b a) R3 (w5.setCell ⟨cb, 4, none⟩ (.slice a5 ((R2 4).n + lb.length) c5))) := fun Y y0 y1 y2 y3 ty => by
   have mY := M2.out.q (q_of y0 y1 y2 y3)
   have hlo : X.l 4 ≤ Y.heap.size := by rw [l_new (by omega)]; exact mY.fs.size
   obtain ⟨a5, c5, w5, r5, g5⟩ := app_any (mY.sep.own 4 (kD_lt (by omega))) mY.cr.t.ty mY.cr.t.sz lb _ _ (news_of mY hb HLB.out) (by have := HSZ.out; have := hal; have := hbl; rw [hT]; show s.td.length + _ ≤ _; omega) hlo ty
   obtain ⟨⟨R3, m3, -⟩, e5⟩ := mY.td g5
   obtain ⟨-, -, -, -, q4, qf⟩ := mY.bx
   exact ⟨a5, c5, w5, r5, (World.cell?_of_block (a := ⟨cb, 4, none⟩) e5).trans q4, (World.frozen?_of_block (a := ⟨cb, 4, none⟩) e5).trans (qf 4), R3, m3⟩
  have b4' : z2.cell? ⟨cb, 4, none⟩ = some (.slice (R2 4).a (R2 4).n (R2 4).c) := b4
  generalize (R2 3).c = fc2 at *
  clear hF hFv hFc hFf hin b4 bf M2 hT
  generalize (R2 4).a = ta at *
  generalize (R2 4).n = tl at *
  generalize (R2 4).c = tc at *
  generalize (R2 (8 + b)).a = fa2 at *
  generalize (R2 (8 + b)).c = fac2 at *
  go_cut [] from 47 (fun W9 => ∃ R3, Hid (CMy X cb L { s with hd := s.hd.set a hd0, td := s.td ++ lb } (up.set b a) R3 W9))
  case first =>
   go_region_law (refine step_append_ex (by rfl) _ _ 22 22 (by rfl) _ _ (by rfl) (by rfl) _ _ (NX5.out _ (by rfl) (by rfl) (by rfl) (by rfl) _) ?_; rintro a5 c5 w5 ⟨t1, t2, hm⟩; have M3 := hideIt hm; clear hm)
   all_goals go_wp2_with (fail)
   all_goals go_meet
   all_goals exact M3.out
  case rest =>
   obtain ⟨R3, M3⟩ := hcut
   clear NX5 d1 b3 b4' bf4
   generalize wc = z3 at *
   obtain ⟨F, hF, hFv, hFc, hFf⟩ := M3.out.froms hX
   obtain ⟨-, -, -, b3, -, -⟩ := M3.out.bx
   rw [hFv] at b3
   have hin := (M3.out.cr.fr b lb HLB.out).n
   have hib := (M3.out.cr.fr a la HLA.out)
   have d1 : z3.cell? ⟨F, b, none⟩ = some (.slice (R3 (8 + b)).a lb.length (R3 (8 + b)).c) := by rw [hFc b hb]; unfold Rw.v; rw [hin]
   have d2 : z3.cell? ⟨F, a, none⟩ = some (.slice (R3 (8 + a)).a (R3 (8 + a)).n (R3 (8 + a)).c) := hFc a ha
   have df := hFf a
   obtain ⟨fc3, hfc3⟩ : ∃ c, (R3 3).c = c := ⟨_, rfl⟩
   have NX6 : Hid (∀ Y : World, Y.heap = z3.heap → Y.os = z3.os → Y.tape = z3.tape → Y.output = z3.output → ∀ ty, ∃ a5 c5 w5, (Builtin.append_ #[22, 22] ty #[.slice (R3 (8 + a)).a (R3 (8 + a)).n (R3 (8 + a)).c, .slice (R3 (8 + b)).a lb.length (R3 (8 + b)).c]).run Try.prog Y = .ok (.slice a5 ((R3 (8 + a)).n + lb.length) c5) w5 ∧ (w5.cell? ⟨F, a, none⟩ = some (.slice (R3 (8 + a)).a (R3 (8 + a)).n (R3 (8 + a)).c) ∧ w5.frozen? ⟨F, a, none⟩ = false ∧ w5.cell? ⟨cb, 3, none⟩ = some (.slice (some ⟨F, 0, none⟩) X.N fc3)) ∧ ((w5.setCell ⟨F, a, none⟩ (.slice a5 ((R3 (8 + a)).n + lb.length) c5)).cell? ⟨cb, 3, none⟩ = some (.slice (some ⟨F, 0, none⟩) X.N fc3) ∧ (∃ v : Option Addr × Nat × Nat, (w5.setCell ⟨F, a, none⟩ (.slice a5 ((R3 (8 + a)).n + lb.length) c5)).cell? ⟨F, b, none⟩ = some (.slice v.1 v.2.1 v.2.2)) ∧ (w5.setCell ⟨F, a, none⟩ (.slice a5 ((R3 (8 + a)).n + lb.length) c5)).frozen? ⟨F, b, none⟩ = false) ∧ (∃ R5, CMy X cb L (s.one b a hd0) (up.set b a) R5 ((w5.setCell ⟨F, a, none⟩ (.slice a5 ((R3 (8 + a)).n + lb.length) c5)).setCell ⟨F, b, none⟩ (.slice none 0 0)))) := fun Y y0 y1 y2 y3 ty => by
    have mY := M3.out.q (q_of y0 y1 y2 y3)
    have hlo : X.l (8 + a) ≤ Y.heap.size := by rw [l_new (by omega)]; exact mY.fs.size
    obtain ⟨a5, c5, w5, r5, g5⟩ := app_any (mY.sep.own (8 + a) (kD_fr ha)) hib.ty hib.sz lb _ _ (news_of mY hb HLB.out) (by have := HSZ.out; have := hal; have := hbl; rw [hib.n]; omega) hlo ty
    obtain ⟨⟨R4, m4, k4, k5, k6⟩, e5, e6⟩ := mY.fro hX ha (s := { s with hd := s.hd.set a hd0, td := s.td ++ lb }) HLA.out hF g5
    obtain ⟨R5, m5⟩ := m4.nil hX hb k5
    obtain ⟨-, -, -, q3, -, -⟩ := m4.bx
    obtain ⟨F2, hF2, hFv2, hFc2, hFf2⟩ := m4.froms hX
    rw [k5] at hF2
    injection hF2 with hF2
    injection hF2 with hF2
    subst hF2
    refine ⟨a5, c5, w5, r5, ⟨(World.cell?_of_block (a := ⟨F, a, none⟩) e5).trans (cell_keep (q_of y0 y1 y2 y3) d2), (World.frozen?_of_block (a := ⟨F, a, none⟩) e5).trans ((World.frozen?_of_block (a := ⟨F, a, none⟩) (by rw [y0])).trans df), (World.cell?_of_block (a := ⟨cb, 3, none⟩) e6).trans (by have := cell_keep (q_of y0 y1 y2 y3) b3; rw [hfc3] at this; exact this)⟩, ⟨?_, ⟨((R4 (8 + b)).a, (R4 (8 + b)).n, (R4 (8 + b)).c), hFc2 b hb⟩, hFf2 b⟩, R5, ?_⟩
    ·rw [q3, k6, hFv, hfc3]
    ·refine ⟨m5.sep, m5.cr.st rfl ?_ ?_, m5.fs, m5.pv⟩
     ·show _ = (s.fr.set a (la ++ lb)).set b []
      unfold Cs.one
      simp only [HLB.out, HLA.out, Option.getD_some]
     ·show _ = s.td ++ lb
      unfold Cs.one
      simp only [HLB.out, Option.getD_some]
   rw [hfc3] at b3
   clear hF hFv hFc hFf hin hib M3 hfc3
   generalize (R3 (8 + b)).a = xa at *
   generalize (R3 (8 + b)).c = xc at *
   generalize (R3 (8 + a)).a = ya at *
   generalize (R3 (8 + a)).n = yn at *
   generalize (R3 (8 + a)).c = yc at *
   go_wp2_with (fail)
   go_region_law (refine step_append_ex (by rfl) _ _ 22 22 (by rfl) _ _ (by rfl) (by rfl) _ _ (NX6.out _ (by rfl) (by rfl) (by rfl) (by rfl) _) ?_; rintro a5 c5 w5 ⟨⟨t1, t2, t6⟩, ⟨t3, ⟨v, t4⟩, t5⟩, hm⟩; have M5 := hideIt hm; clear hm)
   all_goals go_wp2_with (fail)
   all_goals go_end0
   all_goals (obtain ⟨R5, m5⟩ := M5.out; rw [HUN.out]; exact ⟨rfl, _, _, R5, m5.x UP.out⟩)
 ·have hcmp : decide ((lb.length : Int) < (la.length : Int)) = false := by simpa using hlt
  rw [if_neg hlt] at HUN
  go_enter Try.func64, Try.ntmps64
  go_wp2_with (fail)
  go_quiet (fail)
  clear hcmp c1 d1 d2 b2 b3 hlt
  generalize hw0 : w.drewN nq = z0 at *
  have M0 : Hid (CMx X cb L s up d R z0) := by show CMx X cb L s up d R z0; rw [← hw0]; exact H.out.q ((Q.refl w).drewN _)
  clear hw0 H
  obtain ⟨U, hU, hUv, hUc, hUf⟩ := M0.out.ups hX
  obtain ⟨-, b1, -, -, -, -⟩ := M0.out.bx
  rw [hUv] at b1
  obtain ⟨ua, hua, -⟩ := M0.out.up.get ha
  have u1 := hUc a ua hua
  have uf := hUf a
  obtain ⟨R1, m1, k1⟩ := M0.out.y.setU hU a b
  have M1 := hideIt m1
  have K1 := hideIt k1
  have UP := hideIt (M0.out.up.one HNE.out ha hb HRA.out HRB.out)
  generalize (R 1).c = uc at *
  clear hU hUv hUc hUf hua m1 k1
  obtain ⟨Hd1, hHd, hHdv, hHdc, hHdf⟩ := M1.out.nums (kD_lt (k := 2) (by omega)) M1.out.cr.h hX.pos HHD.out
  obtain ⟨-, -, b2, -, -, -⟩ := M1.out.bx
  rw [hHdv] at b2
  obtain ⟨hv, hhv⟩ := get_of_lt (l := s.hd) (k := b) (by rw [HHD.out]; exact hb)
  have c2 := hHdc b hv hhv
  have cf := hHdf b
  obtain ⟨R2, m2, k2⟩ := M1.out.setH hHd b hd0
  have M2 := hideIt m2
  generalize (R1 2).c = hc1 at *
  clear hhv m2 k2 K1 hHd hHdv hHdc hHdf
  go_upto_region 5 with (fail)
  clear u1 uf b1 b2 c2 cf
  obtain ⟨z2, hz2⟩ : ∃ z2, (z0.setCell ⟨U, a, none⟩ (.int .i64 (b : Int))).setCell ⟨Hd1, b, none⟩ (.int .i64 (hd0 : Int)) = z2 := ⟨_, rfl⟩
  rw [hz2] at M2 ⊢
  clear hz2 M1 M0
  obtain ⟨F, hF, hFv, hFc, hFf⟩ := M2.out.froms hX
  obtain ⟨-, -, -, b3, b4, bf⟩ := M2.out.bx
  rw [hFv] at b3
  have bf4 := bf 4
  have hin := (M2.out.cr.fr a la HLA.out).n
  have d1 : z2.cell? ⟨F, a, none⟩ = some (.slice (R2 (8 + a)).a la.length (R2 (8 + a)).c) := by rw [hFc a ha]; unfold Rw.v; rw [hin]
  have hT := M2.out.cr.t.n
  have NX5 : Hid (∀ Y : World, Y.heap = z2.heap → Y.os = z2.os → Y.tape = z2.tape → Y.output = z2.output → ∀ ty, ∃ a5 c5 w5, (Builtin.append_ #[22, 22] ty #[.slice (R2 4).a (R2 4).n (R2 4).c, .slice (R2 (8 + a)).a la.length (R2 (8 + a)).c]).run Try.prog Y = .ok (.slice a5 ((R2 4).n + la.length) c5) w5 ∧ w5.cell? ⟨cb, 4, none⟩ = some (.slice (R2 4).a (R2 4).n (R2 4).c) ∧ w5.frozen? ⟨cb, 4, none⟩ = false ∧ ∃ R3, CMy X cb L { s with hd := s.hd.set b hd0, td := s.td ++ la } (up.set a b) R3 (w5.setCell ⟨cb, 4, none⟩ (.slice a5 ((R2 4).n + la.length) c5))) := fun Y y0 y1 y2 y3 ty => by
   have mY := M2.out.q (q_of y0 y1 y2 y3)
   have hlo : X.l 4 ≤ Y.heap.size := by rw [l_new (by omega)]; exact mY.fs.size
   obtain ⟨a5, c5, w5, r5, g5⟩ := app_any (mY.sep.own 4 (kD_lt (by omega))) mY.cr.t.ty mY.cr.t.sz la _ _ (news_of mY ha HLA.out) (by have := HSZ.out; have := hal; have := hbl; rw [hT]; show s.td.length + _ ≤ _; omega) hlo ty
   obtain ⟨⟨R3, m3, -⟩, e5⟩ := mY.td g5
   obtain ⟨-, -, -, -, q4, qf⟩ := mY.bx
   exact ⟨a5, c5, w5, r5, (World.cell?_of_block (a := ⟨cb, 4, none⟩) e5).trans q4, (World.frozen?_of_block (a := ⟨cb, 4, none⟩) e5).trans (qf 4), R3, m3⟩
  have b4' : z2.cell? ⟨cb, 4, none⟩ = some (.slice (R2 4).a (R2 4).n (R2 4).c) := b4
  generalize (R2 3).c = fc2 at *
  clear hF hFv hFc hFf hin b4 bf M2 hT
  generalize (R2 4).a = ta at *
  generalize (R2 4).n = tl at *
  generalize (R2 4).c = tc at *
  generalize (R2 (8 + a)).a = fa2 at *
  generalize (R2 (8 + a)).c = fac2 at *
  go_cut [] from 47 (fun W9 => ∃ R3, Hid (CMy X cb L { s with hd := s.hd.set b hd0, td := s.td ++ la } (up.set a b) R3 W9))
  case first =>
   go_region_law (refine step_append_ex (by rfl) _ _ 22 22 (by rfl) _ _ (by rfl) (by rfl) _ _ (NX5.out _ (by rfl) (by rfl) (by rfl) (by rfl) _) ?_; rintro a5 c5 w5 ⟨t1, t2, hm⟩; have M3 := hideIt hm; clear hm)
   all_goals go_wp2_with (fail)
   all_goals go_meet
   all_goals exact M3.out
  case rest =>
   obtain ⟨R3, M3⟩ := hcut
   clear NX5 d1 b3 b4' bf4
   generalize wc = z3 at *
   obtain ⟨F, hF, hFv, hFc, hFf⟩ := M3.out.froms hX
   obtain ⟨-, -, -, b3, -, -⟩ := M3.out.bx
   rw [hFv] at b3
   have hin := (M3.out.cr.fr a la HLA.out).n
   have hib := (M3.out.cr.fr b lb HLB.out)
   have d1 : z3.cell? ⟨F, a, none⟩ = some (.slice (R3 (8 + a)).a la.length (R3 (8 + a)).c) := by rw [hFc a ha]; unfold Rw.v; rw [hin]
   have d2 : z3.cell? ⟨F, b, none⟩ = some (.slice (R3 (8 + b)).a (R3 (8 + b)).n (R3 (8 + b)).c) := hFc b hb
   have df := hFf b
   obtain ⟨fc3, hfc3⟩ : ∃ c, (R3 3).c = c := ⟨_, rfl⟩
   have NX6 : Hid (∀ Y : World, Y.heap = z3.heap → Y.os = z3.os → Y.tape = z3.tape → Y.output = z3.output → ∀ ty, ∃ a5 c5 w5, (Builtin.append_ #[22, 22] ty #[.slice (R3 (8 + b)).a (R3 (8 + b)).n (R3 (8 + b)).c, .slice (R3 (8 + a)).a la.length (R3 (8 + a)).c]).run Try.prog Y = .ok (.slice a5 ((R3 (8 + b)).n + la.length) c5) w5 ∧ (w5.cell? ⟨F, b, none⟩ = some (.slice (R3 (8 + b)).a (R3 (8 + b)).n (R3 (8 + b)).c) ∧ w5.frozen? ⟨F, b, none⟩ = false ∧ w5.cell? ⟨cb, 3, none⟩ = some (.slice (some ⟨F, 0, none⟩) X.N fc3)) ∧ ((w5.setCell ⟨F, b, none⟩ (.slice a5 ((R3 (8 + b)).n + la.length) c5)).cell? ⟨cb, 3, none⟩ = some (.slice (some ⟨F, 0, none⟩) X.N fc3) ∧ (∃ v : Option Addr × Nat × Nat, (w5.setCell ⟨F, b, none⟩ (.slice a5 ((R3 (8 + b)).n + la.length) c5)).cell? ⟨F, a, none⟩ = some (.slice v.1 v.2.1 v.2.2)) ∧ (w5.setCell ⟨F, b, none⟩ (.slice a5 ((R3 (8 + b)).n + la.length) c5)).frozen? ⟨F, a, none⟩ = false) ∧ (∃ R5, CMy X cb L (s.one a b hd0) (up.set a b) R5 ((w5.setCell ⟨F, b, none⟩ (.slice a5 ((R3 (8 + b)).n + la.length) c5)).setCell ⟨F, a, none⟩ (.slice none 0 0)))) := fun Y y0 y1 y2 y3 ty => by
    have mY := M3.out.q (q_of y0 y1 y2 y3)
    have hlo : X.l (8 + b) ≤ Y.heap.size := by rw [l_new (by omega)]; exact mY.fs.size
    obtain ⟨a5, c5, w5, r5, g5⟩ := app_any (mY.sep.own (8 + b) (kD_fr hb)) hib.ty hib.sz la _ _ (news_of mY ha HLA.out) (by have := HSZ.out; have := hal; have := hbl; rw [hib.n]; omega) hlo ty
    obtain ⟨⟨R4, m4, k4, k5, k6⟩, e5, e6⟩ := mY.fro hX hb (s := { s with hd := s.hd.set b hd0, td := s.td ++ la }) HLB.out hF g5
    obtain ⟨R5, m5⟩ := m4.nil hX ha k5
    obtain ⟨-, -, -, q3, -, -⟩ := m4.bx
    obtain ⟨F2, hF2, hFv2, hFc2, hFf2⟩ := m4.froms hX
    rw [k5] at hF2
    injection hF2 with hF2
    injection hF2 with hF2
    subst hF2
    refine ⟨a5, c5, w5, r5, ⟨(World.cell?_of_block (a := ⟨F, b, none⟩) e5).trans (cell_keep (q_of y0 y1 y2 y3) d2), (World.frozen?_of_block (a := ⟨F, b, none⟩) e5).trans ((World.frozen?_of_block (a := ⟨F, b, none⟩) (by rw [y0])).trans df), (World.cell?_of_block (a := ⟨cb, 3, none⟩) e6).trans (by have := cell_keep (q_of y0 y1 y2 y3) b3; rw [hfc3] at this; exact this)⟩, ⟨?_, ⟨((R4 (8 + a)).a, (R4 (8 + a)).n, (R4 (8 + a)).c), hFc2 a ha⟩, hFf2 a⟩, R5, ?_⟩
    ·rw [q3, k6, hFv, hfc3]
    ·refine ⟨m5.sep, m5.cr.st rfl ?_ ?_, m5.fs, m5.pv⟩
     ·show _ = (s.fr.set b (lb ++ la)).set a []
      unfold Cs.one
      simp only [HLA.out, HLB.out, Option.getD_some]
     ·show _ = s.td ++ la
      unfold Cs.one
      simp only [HLA.out, Option.getD_some]
   rw [hfc3] at b3
   clear hF hFv hFc hFf hin hib M3 hfc3
   generalize (R3 (8 + a)).a = xa at *
   generalize (R3 (8 + a)).c = xc at *
   generalize (R3 (8 + b)).a = ya at *
   generalize (R3 (8 + b)).n = yn at *
   generalize (R3 (8 + b)).c = yc at *
   go_wp2_with (fail)
   go_region_law (refine step_append_ex (by rfl) _ _ 22 22 (by rfl) _ _ (by rfl) (by rfl) _ _ (NX6.out _ (by rfl) (by rfl) (by rfl) (by rfl) _) ?_; rintro a5 c5 w5 ⟨⟨t1, t2, t6⟩, ⟨t3, ⟨v, t4⟩, t5⟩, hm⟩; have M5 := hideIt hm; clear hm)
   all_goals go_wp2_with (fail)
   all_goals go_end0
   all_goals (obtain ⟨R5, m5⟩ := M5.out; rw [HUN.out]; exact ⟨rfl, _, _, R5, m5.x UP.out⟩)
end Go.Proofs.Ytphknepblchkdaa.Fl
