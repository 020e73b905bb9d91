/-
 Parts that are put together, in memory: the parts' and the ways' own blocks, a row of one's own for the instructions of each part; an append to one of them: facts on worlds; no conditions but those that each fact bears.
 A part is put behind another one (put of flow): a contract over the program; the conditions: the joiner lies in memory, the ways are counted.
 What put makes in memory, and plainly; how many instructions live parts have: no program in sight.
-/
import Derived.Test.YtphknepblchkdaaKFlP
import Derived.Test.YtphknepblchkdaaKFlK
namespace Go.Proofs.Ytphknepblchkdaa.Fl
open Go.RowKit
open Go.Proofs.Ytphknepblchkdaa.In (zI zP zF zI_zI zP_zP cntS)
set_option linter.unusedVariables false

theorem info_ins : ∃ i0, Try.prog.info? 49 = some i0 ∧ i0.zero = some (.agg #[.int .u8 0, .int .u8 0, .int .i64 0, .int .i64 0, .int .i64 0, .int .i64 0, .slice none 0 0]) ∧ i0.size = 7 ∧ i0.bytes = 64 := by
 obtain ⟨i, hi, hzz⟩ := Option.map_eq_some_iff.1 Try.infoInst
 simp only [Prod.mk.injEq] at hzz
 exact ⟨i, hi, hzz.1, hzz.2.1, hzz.2.2⟩
abbrev insC (l : List PI) : List Value := l.flatMap PI.cells
theorem insC_len (l : List PI) : (insC l).length = l.length * 7 := flat_len _ 7 (fun _ => rfl) l
theorem add0 (g j : Nat) : ((⟨g, 0, none⟩ : Addr).add j) = ⟨g, j, none⟩ := by unfold Addr.add; split <;> simp_all
/-- A row of instructions after an append. -/
structure GrownI (w : World) (lo : Nat) (r : Rw) (l : List PI) (a : Option Addr) (c : Nat) (w1 : World) : Prop where
 own : w1.ownsRow lo 49 7 (.slice a (r.n + l.length) c) (r.n + l.length) (r.xs ++ insC l)
 g : w.grownBy w1 r.v.ownBlock
 at' : ∀ b, a = some b → r.v.ownBlock = some b.block ∨ w.heap.size ≤ b.block
theorem app_ins {w : World} {lo : Nat} {r : Rw} (h : r.at w lo) (ht : r.ty = 49) (hz : r.sz = 7) (l : List PI) {q : Rw} (hq : q.at w lo) (hqt : q.is 49 7 l.length (insC l)) (hb : r.n + l.length ≤ 1000000) (hlo : lo ≤ w.heap.size) (ty : TypeId) :
  ∃ a c w1, (Builtin.append_ #[45, 45] ty #[r.v, .slice q.a l.length q.c]).run Try.prog w = .ok (.slice a (r.n + l.length) c) w1 ∧ GrownI w lo r l a c w1 := by
 unfold Rw.at at h
 rw [ht, hz] at h
 obtain ⟨i0, hi, hz0, hsz, hby⟩ := info_ins
 cases hqa : q.a with
 | none =>
  have hq0 := hq
  unfold Rw.at Rw.v at hq0
  rw [hqa] at hq0
  obtain ⟨n0, -, hc0⟩ := own_none hq0
  have hl0 : l = [] := List.eq_nil_of_length_eq_zero (by rw [← hqt.n]; exact n0)
  subst hl0
  rw [hc0]
  have := run_append_owned_none (P := Try.prog) w lo 45 ty 49 i0 7 Try.underlying45 hi _ _ _ h
  refine ⟨r.a, r.c, w, this, ?_, ⟨rfl, rfl, rfl, Nat.le_refl _, fun _ _ _ => rfl⟩, fun b e => .inl (by unfold Rw.v; rw [e]; rfl)⟩
  show World.ownsRow w lo 49 7 (.slice r.a (r.n + 0) r.c) (r.n + 0) (r.xs ++ [])
  rw [List.append_nil]
  exact h
 | some ad =>
  have hg := (at_lt hq hqa).1
  rw [hg] at hqa
  rw [hg]
  obtain ⟨v', w1, h1, h2, h3, -, h5⟩ := run_append_own_at (P := Try.prog) w lo 45 ty 49 i0 (.agg #[.int .u8 0, .int .u8 0, .int .i64 0, .int .i64 0, .int .i64 0, .int .i64 0, .slice none 0 0]) 7 64 Try.underlying45 hi hz0 hsz hby rfl (by decide) r.v r.n r.xs h ⟨ad.block, 0, none⟩ l.length q.c (insC l) (insC_len l) (fun j u hj => by
   have hjl := (List.getElem?_eq_some_iff.1 hj).1
   rw [insC_len] at hjl
   rw [add0]
   rw [at_cell hq hqa (by rw [hqt.n, hqt.sz]; exact hjl), hqt.xs]
   exact hj) (fun u hu => by
   obtain ⟨x, -, hx⟩ := List.mem_flatMap.1 hu
   exact cells_one x u hx) (by unfold maxLen; omega) (by omega) hlo
  have hat : ∀ b, v'.ownBlock = some b → r.v.ownBlock = some b ∨ w.heap.size ≤ b := fun b hb => by
   rcases h5 with h5 | h5
   ·exact .inl (by rw [← h5]; exact hb)
   ·rw [h5] at hb; injection hb with hb; right; omega
  rcases h2.2 with ⟨rfl, h0⟩ | ⟨g2, cap, cur, rfl, -⟩
  ·have e : Value.slice none (r.n + l.length) 0 = .slice none 0 0 := by rw [h0]
   refine ⟨none, 0, w1, by rw [e]; exact h1, ⟨by rw [e]; exact h2, h3, fun b e => by cases e⟩⟩
  ·have hat2 : ∀ b : Addr, (some (⟨g2, 0, none⟩ : Addr)) = some b → r.v.ownBlock = some b.block ∨ w.heap.size ≤ b.block := fun b e => by
    have e2 : (⟨g2, 0, none⟩ : Addr) = b := Option.some.inj e
    rw [← e2]
    exact hat g2 (by unfold Value.ownBlock; rfl)
   exact ⟨some ⟨g2, 0, none⟩, cap, w1, h1, h2, h3, hat2⟩

/-! ### The joiner -/
structure Jx where
 lo : Nat
 P : Nat
 pc : Nat
 I : Nat
 ic : Nat
 jb : Nat
 M : Nat
 N : Nat
/-- The joiner's blocks, the rows of instructions; cs: the parts' cells. -/
structure JC (X : Jx) (cs : List Value) (ws : List Nat) (R : Nat → Rw) (z : World) : Prop where
 pb : z.heap[X.P]? = some (.cells cs.toArray 47 (0, 0))
 wb : z.heap[X.I]? = some (.cells (NV ws).toArray 3 (0, 0))
 jb : z.heap[X.jb]? = some (.cells #[.slice (some ⟨X.P, 0, none⟩) X.N X.pc, .slice (some ⟨X.I, 0, none⟩) X.N X.ic, .map (some X.M)] 103 (0, 0))
 sep : Sep z (fun _ => X.lo) (fun k => k < X.N) R
 ty : ∀ k, k < X.N → (R k).ty = 49 ∧ (R k).sz = 7
/-- The parts stand with their headers. -/
structure JP (X : Jx) (pp : List PP) (R : Nat → Rw) : Prop where
 len : pp.length = X.N
 rw : ∀ (k : Nat) (p : PP), pp[k]? = some p → (R k).n = p.ins.length ∧ (R k).xs = insC p.ins ∧ p.ia = (R k).a ∧ p.ic = (R k).c
section
variable {X : Jx} {cs : List Value} {ws : List Nat} {R : Nat → Rw} {z z' : World} {pp : List PP}
/-- A row lies apart from what is of another type. -/
theorem JC.ne (h : JC X cs ws R z) {k : Nat} (hk : k < X.N) {a : Addr} (ha : (R k).a = some a) {b : Nat} {xs : Array Value} {t : TypeId} {f : Nat × Nat} (hb : z.heap[b]? = some (.cells xs t f)) (ht : t ≠ 49) : a.block ≠ b := fun e => by
 have ho := h.sep.own k hk
 obtain ⟨-, -, -, -, -, -, cur, e7, -⟩ := own_addr ho ha
 rw [e, hb] at e7
 injection e7 with e7
 injection e7 with _ e8
 exact ht (e8.trans (h.ty k hk).1)
theorem JC.q (h : JC X cs ws R z) (q : Q z z') : JC X cs ws R z' := ⟨heap_keep q h.pb, heap_keep q h.wb, heap_keep q h.jb, h.sep.q q, h.ty⟩
/-- The map has grown. -/
theorem JC.map (h : JC X cs ws R z) {n : Nat} {F : KF} (hm : Mi z X.M n F) (f : Fs (· = X.M) z z') : JC X cs ws R z' := by
 have nb : ∀ {b : Nat} {xs : Array Value} {t : TypeId} {g : Nat × Nat}, z.heap[b]? = some (.cells xs t g) → b ≠ X.M := fun {b xs t g} hb e => by
  obtain ⟨D, ⟨es, c, h1, -⟩, -, -⟩ := hm
  rw [e, h1] at hb
  cases hb
 refine ⟨f.heap h.pb (nb h.pb), f.heap h.wb (nb h.wb), f.heap h.jb (nb h.jb), ⟨fun k hk => at_keep (h.sep.own k hk) fun a ha => ?_, h.sep.apart⟩, h.ty⟩
 obtain ⟨-, -, hlt, -, -, -, cur, e7, -⟩ := own_addr (h.sep.own k hk) ha
 exact f.block _ hlt (nb e7)
/-- A cell of a part is written. -/
theorem JC.setP (h : JC X cs ws R z) (j : Nat) (u : Value) : JC X (cs.set j u) ws R (z.setCell ⟨X.P, j, none⟩ u) := by
 have hPI : X.I ≠ X.P := fun e => by have := h.wb; rw [e, h.pb] at this; injection this with this; injection this with _ q; revert q; decide
 have hPj : X.jb ≠ X.P := fun e => by have := h.jb; rw [e, h.pb] at this; injection this with this; injection this with _ q; revert q; decide
 refine ⟨?_, (Below.heap_setCell _ _ _ _ hPI).trans h.wb, (Below.heap_setCell _ _ _ _ hPj).trans h.jb, ⟨fun k hk => at_keep (h.sep.own k hk) fun a ha => Below.heap_setCell _ _ _ _ (h.ne hk ha h.pb (by decide)), h.sep.apart⟩, h.ty⟩
 rw [block_setCell h.pb]
 simp only [List.setIfInBounds_toArray]
/-- A number of ways is written. -/
theorem JC.setW (h : JC X cs ws R z) (m v : Nat) : JC X cs (ws.set m v) R (z.setCell ⟨X.I, m, none⟩ (.int .i64 (v : Int))) := by
 have hPI : X.P ≠ X.I := fun e => by have := h.wb; rw [← e, h.pb] at this; injection this with this; injection this with _ q; revert q; decide
 have hPj : X.jb ≠ X.I := fun e => by have := h.jb; rw [e, h.wb] at this; injection this with this; injection this with _ q; revert q; decide
 refine ⟨(Below.heap_setCell _ _ _ _ hPI).trans h.pb, ?_, (Below.heap_setCell _ _ _ _ hPj).trans h.jb, ⟨fun k hk => at_keep (h.sep.own k hk) fun a ha => Below.heap_setCell _ _ _ _ (h.ne hk ha h.wb (by decide)), h.sep.apart⟩, h.ty⟩
 rw [block_setCell h.wb, ← NV_set]
 simp only [List.setIfInBounds_toArray]
/-- The ways alone are other ones. -/
theorem JC.ways (h : JC X cs ws R z) (f : Fs (· = X.I) z z') {us : List Nat} (hb : z'.heap[X.I]? = some (.cells (NV us).toArray 3 (0, 0))) : JC X cs us R z' := by
 have hPI : X.P ≠ X.I := fun e => by have := h.wb; rw [← e, h.pb] at this; injection this with this; injection this with _ q; revert q; decide
 have hPj : X.jb ≠ X.I := fun e => by have := h.jb; rw [e, h.wb] at this; injection this with this; injection this with _ q; revert q; decide
 exact ⟨f.heap h.pb hPI, hb, f.heap h.jb hPj, ⟨fun k hk => at_keep (h.sep.own k hk) fun a ha => f.block _ (at_lt (h.sep.own k hk) ha).2.2 (h.ne hk ha h.wb (by decide)), h.sep.apart⟩, h.ty⟩
/-- A part's instructions are put behind those of another one. -/
theorem JC.app (h : JC X cs ws R z) {k n : Nat} (hk : k < X.N) (hn : n < X.N) (l : List PI) (hl : (R n).n = l.length) (hx : (R n).xs = insC l) (hb : (R k).n + l.length ≤ 1000000) (hlo : X.lo ≤ z.heap.size) (ty : TypeId) :
  ∃ a c w1, (Builtin.append_ #[45, 45] ty #[.slice (R k).a (R k).n (R k).c, .slice (R n).a l.length (R n).c]).run Try.prog z = .ok (.slice a ((R k).n + l.length) c) w1 ∧ JC X cs ws (upR R k ⟨a, (R k).n + l.length, c, 49, 7, (R k).xs ++ insC l⟩) w1 ∧ z.grownBy w1 (R k).v.ownBlock ∧ ∀ b, a = some b → (R k).v.ownBlock = some b.block ∨ z.heap.size ≤ b.block := by
 obtain ⟨a, c, w1, h1, h2⟩ := app_ins (h.sep.own k hk) (h.ty k hk).1 (h.ty k hk).2 l (h.sep.own n hn) ⟨(h.ty n hn).1, (h.ty n hn).2, hl, hx⟩ hb hlo ty
 refine ⟨a, c, w1, h1, ?_, h2.g, h2.at'⟩
 have ex : ∀ b, (R k).v.ownBlock = some b → ∃ a, (R k).a = some a ∧ a.block = b := fun b hb => by
  unfold Rw.v at hb
  cases e : (R k).a with
  | none => rw [e] at hb; cases hb
  | some a => rw [e] at hb; injection hb with hb; exact ⟨a, rfl, hb⟩
 have far : ∀ {b : Nat} {xs : Array Value} {t : TypeId} {f : Nat × Nat}, z.heap[b]? = some (.cells xs t f) → t ≠ 49 → w1.heap[b]? = some (.cells xs t f) := fun {b xs t f} hb ht =>
  (h2.g.block b (Array.getElem?_eq_some_iff.1 hb).1 (fun e => by obtain ⟨a2, q1, q2⟩ := ex b e.symm; exact h.ne hk q1 hb ht q2)).trans hb
 refine ⟨far h.pb (by decide), far h.wb (by decide), far h.jb (by decide), h.sep.chg hk (r := ⟨a, (R k).n + l.length, c, 49, 7, (R k).xs ++ insC l⟩) h2.g ex h2.own (fun b hb => (h2.at' b hb).imp (ex _) id), fun j hj => ?_⟩
 by_cases e : j = k
 ·subst e; rw [upR_same]; exact ⟨rfl, rfl⟩
 ·rw [upR_other e]; exact h.ty j hj
theorem JP.cat (h : JP X pp R) {k : Nat} {p q : PP} {a : Option Addr} {c : Nat} (hp : pp[k]? = some p) (r : PP) (hr : r.ins = p.ins ++ q.ins ∧ r.ia = a ∧ r.ic = c) : JP X (pp.set k r) (upR R k ⟨a, (R k).n + q.ins.length, c, 49, 7, (R k).xs ++ insC q.ins⟩) := by
 have hkl := (List.getElem?_eq_some_iff.1 hp).1
 refine ⟨by simp [h.len], fun j p' hj => ?_⟩
 rw [List.getElem?_set] at hj
 split at hj
 ·rename_i e
  subst e
  try rw [if_pos hkl] at hj
  injection hj with hj
  subst hj
  rw [upR_same]
  obtain ⟨h1, h2, -⟩ := h.rw k p hp
  obtain ⟨r1, r2, r3⟩ := hr
  refine ⟨by rw [r1, List.length_append, h1], ?_, r2, r3⟩
  show (R k).xs ++ insC q.ins = insC r.ins
  rw [h2, r1]
  simp [insC]
 ·rename_i e
  rw [upR_other (fun q => e q.symm)]
  exact h.rw j p' hj
theorem JC.part (h : JC X (pp.flatMap PP.cells) ws R z) {k : Nat} {p : PP} (hp : pp[k]? = some p) : At z X.P (k * 5) p.cells ∧ ∀ j, z.frozen? ⟨X.P, j, none⟩ = false := by
 refine ⟨fun j hj => ?_, fun j => free_of_block h.pb j⟩
 rw [PP.len] at hj
 rw [cell_of_block h.pb (k * 5 + j)]
 simpa using flat_at PP.cells 5 PP.len pp k p j hp hj
end
end Go.Proofs.Ytphknepblchkdaa.Fl

namespace Go.Proofs.Ytphknepblchkdaa.Fl
open Go.RowKit
open Go.Proofs.Ytphknepblchkdaa.In (zI zP zF zI_zI zP_zP cntS)
set_option linter.unusedVariables false

def hdP (p : PP) (a : Option Addr) (c : Nat) : PP := { p with ia := a, ic := c }
theorem insL_of {w : World} {lo : Nat} {r : Rw} (h : r.at w lo) {l : List PI} (hi : r.is 49 7 l.length (insC l)) (hd : ∀ x ∈ l, I64 x.dst) : InL w r.a l := fun k x hx => by
 have hkl := (List.getElem?_eq_some_iff.1 hx).1
 obtain ⟨g, e, -, -⟩ := at_ex h (by rw [hi.n]; omega)
 refine ⟨g, e, fun j hj => ?_, hd x (List.mem_of_getElem? hx)⟩
 have hj7 : j < 7 := hj
 rw [at_cell h e (by rw [hi.n, hi.sz]; omega), hi.xs]
 exact flat_at PI.cells 7 (fun _ => rfl) l k x j hx hj7
abbrev put4 (W : World) (K o : Nat) (v1 v2 v3 v4 : Value) : World := (((W.setCell ⟨K, o + 1, none⟩ v1).setCell ⟨K, o + 2, none⟩ v2).setCell ⟨K, o + 3, none⟩ v3).setCell ⟨K, o + 4, none⟩ v4

/-! ### All of it at once -/
structure JL (X : Jx) (S : Nat → Prop) (z0 : World) (nM : Nat) (F : KF) (cs : List Value) (ws : List Nat) (R : Nat → Rw) (W : World) : Prop where
 jc : JC X cs ws R W
 mi : Mi W X.M nM F
 fs : Fs S z0 W
 lo : X.lo ≤ W.heap.size
section
variable {X : Jx} {S : Nat → Prop} {z0 W W' : World} {nM : Nat} {F : KF} {cs : List Value} {ws : List Nat} {R : Nat → Rw}
theorem mi_far {w : World} {M n : Nat} {F : KF} (h : Mi w M n F) {b : Nat} {xs : Array Value} {t : TypeId} {g : Nat × Nat} (hb : w.heap[b]? = some (.cells xs t g)) : M ≠ b := fun e => by
 obtain ⟨D, ⟨es, c, h1, -⟩, -, -⟩ := h
 rw [← e, h1] at hb
 cases hb
theorem JL.q (h : JL X S z0 nM F cs ws R W) (q : Q W W') : JL X S z0 nM F cs ws R W' := ⟨h.jc.q q, h.mi.q q, h.fs.trans (Fs.of_q q), Nat.le_trans h.lo q.size⟩
theorem fs_set {S : Nat → Prop} {z0 W : World} (h : Fs S z0 W) {b : Nat} (hb : S b) (j : Nat) (u : Value) : Fs S z0 (W.setCell ⟨b, j, none⟩ u) :=
 ⟨h.os, h.tape, h.output, by rw [World.size_setCell]; exact h.size, fun k hk hn => (Below.heap_setCell _ _ _ _ (fun e => hn (by rw [e]; exact hb))).trans (h.block k hk hn)⟩
theorem JL.setP (h : JL X S z0 nM F cs ws R W) (hS : S X.P) (j : Nat) (u : Value) : JL X S z0 nM F (cs.set j u) ws R (W.setCell ⟨X.P, j, none⟩ u) :=
 ⟨h.jc.setP j u, h.mi.kept (Below.heap_setCell _ _ _ _ (mi_far h.mi h.jc.pb)), fs_set h.fs hS j u, by rw [World.size_setCell]; exact h.lo⟩
theorem JL.setW (h : JL X S z0 nM F cs ws R W) (hS : S X.I) (m v : Nat) : JL X S z0 nM F cs (ws.set m v) R (W.setCell ⟨X.I, m, none⟩ (.int .i64 (v : Int))) :=
 ⟨h.jc.setW m v, h.mi.kept (Below.heap_setCell _ _ _ _ (mi_far h.mi h.jc.wb)), fs_set h.fs hS m _, by rw [World.size_setCell]; exact h.lo⟩
theorem JL.ways (h : JL X S z0 nM F cs ws R W) (hS : S X.I) (f : Fs (· = X.I) W W') {us : List Nat} (hb : W'.heap[X.I]? = some (.cells (NV us).toArray 3 (0, 0))) : JL X S z0 nM F cs us R W' :=
 ⟨h.jc.ways f hb, h.mi.kept (f.block _ h.mi.lt (mi_far h.mi h.jc.wb)), h.fs.trans (f.less (T := S) fun k hk => .inl (by rw [hk]; exact hS)), Nat.le_trans h.lo f.size⟩
theorem JL.map (h : JL X S z0 nM F cs ws R W) (hS : S X.M) {n' : Nat} {F' : KF} (f : Fs (· = X.M) W W') (hm : Mi W' X.M n' F') : JL X S z0 n' F' cs ws R W' :=
 ⟨h.jc.map h.mi f, hm, h.fs.trans (f.less (T := S) fun k hk => .inl (by rw [hk]; exact hS)), Nat.le_trans h.lo f.size⟩
theorem JL.app (h : JL X S z0 nM F cs ws R W) {k n : Nat} (hk : k < X.N) (hn : n < X.N) (hS : ∀ b, (R k).v.ownBlock = some b → S b ∨ z0.heap.size ≤ b) (l : List PI) (hl : (R n).n = l.length) (hx : (R n).xs = insC l) (hb : (R k).n + l.length ≤ 1000000) (ty : TypeId) :
  ∃ a c w1, (Builtin.append_ #[45, 45] ty #[.slice (R k).a (R k).n (R k).c, .slice (R n).a l.length (R n).c]).run Try.prog W = .ok (.slice a ((R k).n + l.length) c) w1 ∧ JL X S z0 nM F cs ws (upR R k ⟨a, (R k).n + l.length, c, 49, 7, (R k).xs ++ insC l⟩) w1 ∧ ∀ b, a = some b → S b.block ∨ z0.heap.size ≤ b.block := by
 obtain ⟨a, c, w1, h1, h2, h3, h4⟩ := h.jc.app hk hn l hl hx hb h.lo ty
 have hM : ∀ b, (R k).v.ownBlock = some b → X.M ≠ b := fun b hb => by
  unfold Rw.v at hb
  cases e : (R k).a with
  | none => rw [e] at hb; cases hb
  | some a =>
   rw [e] at hb
   injection hb with hb
   subst hb
   obtain ⟨-, -, -, -, -, -, cur, e7, -⟩ := own_addr (h.jc.sep.own k hk) e
   exact mi_far h.mi e7
 refine ⟨a, c, w1, h1, ⟨h2, h.mi.kept (h3.block _ h.mi.lt fun e => hM _ e.symm rfl), h.fs.grown h3 hS, Nat.le_trans h.lo h3.size⟩, fun b hb => ?_⟩
 rcases h4 b hb with q | q
 ·exact hS _ q
 ·exact .inr (Nat.le_trans h.fs.size q)
end
/-- A part with four cells written behind its header. -/
theorem put4_blk {X : Jx} {S : Nat → Prop} {z0 W : World} {nM : Nat} {F : KF} {pp : List PP} {ws : List Nat} {R : Nat → Rw} {k : Nat} {p r : PP} {v0 v1 v2 v3 v4 : Value} (hS : S X.P) (hp : pp[k]? = some p) (hr : r.cells = [v0, v1, v2, v3, v4]) (h : JL X S z0 nM F ((pp.flatMap PP.cells).set (k * 5) v0) ws R W) :
  JL X S z0 nM F ((pp.set k r).flatMap PP.cells) ws R (put4 W X.P (k * 5) v1 v2 v3 v4) := by
 rw [flat_put5 pp k p r hp v0 v1 v2 v3 v4 hr]
 exact (((h.setP hS (k * 5 + 1) v1).setP hS (k * 5 + 2) v2).setP hS (k * 5 + 3) v3).setP hS (k * 5 + 4) v4

theorem JL.setP1 {X : Jx} {S : Nat → Prop} {z0 W : World} {nM : Nat} {F : KF} {pp : List PP} {ws : List Nat} {R : Nat → Rw} {k : Nat} {p p' : PP} (h : JL X S z0 nM F (pp.flatMap PP.cells) ws R W) (hS : S X.P) (hp : pp[k]? = some p) {j : Nat} (hj : j < 5) {v : Value} (hc : p'.cells = p.cells.set j v) : JL X S z0 nM F ((pp.set k p').flatMap PP.cells) ws R (W.setCell ⟨X.P, k * 5 + j, none⟩ v) := by
 rw [flat_set PP.cells 5 PP.len pp k p p' j v hp hj hc]
 exact h.setP hS _ _
theorem JL.goW {X : Jx} {S : Nat → Prop} {z0 W : World} {nM : Nat} {F : KF} {pp : List PP} {ws : List Nat} {R : Nat → Rw} {k : Nat} {p : PP} (h : JL X S z0 nM F (pp.flatMap PP.cells) ws R W) (hS : S X.P) (hp : pp[k]? = some p) (t : Int) : JL X S z0 nM F ((pp.set k (goP p t)).flatMap PP.cells) ws R (goW W X.P (k * 5) t) := by
 have hkl := (List.getElem?_eq_some_iff.1 hp).1
 have a1 := h.setP1 hS hp (p' := { p with cond := -1 }) (j := 2) (by omega) (v := .int .i64 (-1)) rfl
 have a2 := a1.setP1 hS (List.getElem?_set_self hkl) (p' := { p with cond := -1, next := t }) (j := 3) (by omega) (v := .int .i64 t) rfl
 rw [List.set_set] at a2
 have a3 := a2.setP1 hS (List.getElem?_set_self hkl) (p' := goP p t) (j := 4) (by omega) (v := .int .i64 0) rfl
 rw [List.set_set] at a3
 exact a3
/-- What put makes of the part at k and of the ways. -/
def PutR (pp : List PP) (ws : List Nat) (F : KF) (k n : Nat) (p q r : PP) (ws' : List Nat) : Prop :=
 (brP q = true ∧ ∃ v, F q.cond = some v ∧ hdP r none 0 = goP (catP p q) (wayP q (v != 0)) ∧ ws' = losP (pp.set k r) (ws.set n 0) [(wayP q (v == 0)).toNat]) ∨
 ((brP q = false ∨ F q.cond = none) ∧ hdP r none 0 = catP p q ∧ ws' = ws.set n 0)
/-- What stands in memory behind it. -/
def PutZ (X : Jx) (S : Nat → Prop) (z0 : World) (nM : Nat) (F : KF) (pp : List PP) (ws : List Nat) (R : Nat → Rw) (k n : Nat) (p q : PP) (z' : World) : Prop :=
 ∃ (a : Option Addr) (c : Nat) (r : PP) (ws' : List Nat), JL X S z0 nM F ((pp.set k r).flatMap PP.cells) ws' (upR R k ⟨a, (R k).n + q.ins.length, c, 49, 7, (R k).xs ++ insC q.ins⟩) z' ∧ r.ins = p.ins ++ q.ins ∧ r.ia = a ∧ r.ic = c ∧ (∀ b, a = some b → S b.block ∨ z0.heap.size ≤ b.block) ∧ PutR pp ws F k n p q r ws'

set_option maxRecDepth 100000 in
set_option maxHeartbeats 8000000 in
theorem put_any (z0 z : World) (X : Jx) (S : Nat → Prop) (hSP : S X.P) (hSI : S X.I) (hSM : S X.M) (pp : List PP) (ws : List Nat) (R : Nat → Rw) (nM : Nat) (F0 : KF) (h : JL X S z0 nM F0 (pp.flatMap PP.cells) ws R z) (hjp : JP X pp R) (k n : Nat) (hSR : ∀ b, (R k).v.ownBlock = some b → S b ∨ z0.heap.size ≤ b) (p q : PP) (hp : pp[k]? = some p) (hq : pp[n]? = some q) (hkn : k ≠ n) (hws : ws.length = X.N) (hN : X.N ≤ 1000)
  (hd : ∀ x ∈ q.ins, I64 x.dst) (hcd : I64 q.cond) (hwy : WyL pp) (hb : p.ins.length + q.ins.length ≤ 1000000) (hnb : nM + q.ins.length ≤ 100000000) (first : Nat) (hWI : WI pp first ws []) (ha : aloP pp ws k = some n) (hsum : ws.sum ≤ 3000000) :
  Calls Try.prog 68 #[.pointer (some ⟨X.jb, 0, none⟩), .int .i64 (n : Int), .pointer (some ⟨X.P, k * 5, none⟩)] z fun e z' => e = .returned (.tuple #[]) ∧ PutZ X S z0 (nM + q.ins.length) (lrnL F0 q.ins) pp ws R k n p q z' := by
 have hkN : k < X.N := by rw [← hjp.len]; exact (List.getElem?_eq_some_iff.1 hp).1
 have hnN : n < X.N := by rw [← hjp.len]; exact (List.getElem?_eq_some_iff.1 hq).1
 obtain ⟨k1, k2, k3, k4⟩ := hjp.rw k p hp
 obtain ⟨n1, n2, n3, n4⟩ := hjp.rw n q hq
 have CL := hideIt (learn_any z X.jb X.M nM F0 h.mi ((cell_of_block h.jc.jb 2).trans rfl) (R n).a (R n).c q.ins (insL_of (h.jc.sep.own n hnN) ⟨(h.jc.ty n hnN).1, (h.jc.ty n hnN).2, n1, n2⟩ hd) (by
  have := h.jc.sep.own n hnN
  unfold Rw.at Rw.v at this
  cases e : (R n).a with
  | none => rw [e] at this; have := (own_none this).1; omega
  | some a => obtain ⟨-, -, -, -, h5, -⟩ := own_addr this e; omega) hnb)
 have c0 : z.cell? ⟨X.jb, 0, none⟩ = some (.slice (some ⟨X.P, 0, none⟩) X.N X.pc) := (cell_of_block h.jc.jb 0).trans rfl
 obtain ⟨q0, -⟩ := (h.jc.part hq).1.five
 have hni : (n : Int) < (X.N : Int) := by omega
 have HY := hideIt (fun (y : World) (l : LnW z X.jb X.M (nM + q.ins.length) (lrnL F0 q.ins) y) => h.map hSM l.fs l.mi)
 rw [n3, n4] at q0
 have HK := hideIt (And.intro hp (And.intro hq (And.intro (And.intro k1 (And.intro k2 (And.intro k3 k4))) (And.intro n1 (And.intro n2 (And.intro n3 n4))))))
 have HJ := hideIt hjp
 have HW := hideIt hwy
 have HD := hideIt hd
 have HCD := hideIt hcd
 have HWI := hideIt hWI
 have HA := hideIt ha
 have HSUM := hideIt hsum
 have HSP := hideIt hSP
 have HSI := hideIt hSI
 have HSR := hideIt hSR
 clear h hjp hp hq k1 k2 k3 k4 n1 n2 n3 n4 hwy hd hcd hSP hSI hSM hSR hWI ha hsum
 go_enter Try.func68, Try.ntmps68
 go_wp2_with (first | (go_at_call 67; refine Calls.mono CL.out ?_; rintro e y ⟨rfl, hl⟩; have JY := hideIt (HY.out y hl); clear hl) | fail)
 clear CL HY c0 q0
 have NX : Hid (∀ Y : World, Y.heap = y.heap → Y.os = y.os → Y.tape = y.tape → Y.output = y.output → ∀ ty : TypeId, ∃ a5 c5 w5, (Builtin.append_ #[45, 45] ty #[.slice p.ia p.ins.length p.ic, .slice q.ia q.ins.length q.ic]).run Try.prog Y = .ok (.slice a5 (p.ins.length + q.ins.length) c5) w5 ∧ (w5.cell? ⟨X.P, k * 5, none⟩ = some (.slice p.ia p.ins.length p.ic) ∧ w5.frozen? ⟨X.P, k * 5, none⟩ = false) ∧ JL X S z0 (nM + q.ins.length) (lrnL F0 q.ins) (pp.flatMap PP.cells) ws (upR R k ⟨a5, (R k).n + q.ins.length, c5, 49, 7, (R k).xs ++ insC q.ins⟩) w5 ∧ ∀ b, a5 = some b → S b.block ∨ z0.heap.size ≤ b.block) := fun Y y0 y1 y2 y3 ty => by
  obtain ⟨hp, hq, ⟨k1, k2, k3, k4⟩, n1, n2, n3, n4⟩ := HK.out
  have qy : Q y Y := ⟨y1, y2, y3, by rw [y0]; exact Nat.le_refl _, fun b _ => by rw [y0]⟩
  obtain ⟨a5, c5, w5, r5, j5, t5⟩ := (JY.out.q qy).app hkN hnN HSR.out q.ins n1 n2 (by rw [k1]; exact hb) ty
  have u := (j5.jc.part hp).1.five.1
  have f := (j5.jc.part hp).2 (k * 5)
  rw [k1] at r5
  rw [← k3, ← k4, ← n3, ← n4] at r5
  exact ⟨a5, c5, w5, r5, ⟨u, f⟩, j5, t5⟩
 obtain ⟨q0, q1, q2, q3, q4⟩ := (JY.out.jc.part HK.out.2.1).1.five
 obtain ⟨p0, p1, p2, p3, p4⟩ := (JY.out.jc.part HK.out.1).1.five
 clear q1 q2 q3 q4 p1 p2 p3 p4
 go_cut [] from 22 (fun W => ∃ a c, Hid (JL X S z0 (nM + q.ins.length) (lrnL F0 q.ins) ((pp.flatMap PP.cells).set (k * 5) (.slice a (p.ins.length + q.ins.length) c)) ws (upR R k ⟨a, (R k).n + q.ins.length, c, 49, 7, (R k).xs ++ insC q.ins⟩) W ∧ ∀ b, a = some b → S b.block ∨ z0.heap.size ≤ b.block))
 case first =>
  go_region_law (refine step_append_ex (by rfl) _ _ 45 45 (by rfl) _ _ (by rfl) (by rfl) _ _ (NX.out _ (by rfl) (by rfl) (by rfl) (by rfl) _) ?_; rintro a5 c5 w5 ⟨⟨u0, f0⟩, j5, t5⟩; have J5 := hideIt j5; have T5 := hideIt t5; clear j5 t5)
  all_goals go_wp2_with (fail)
  all_goals go_meet
  all_goals exact ⟨a5, c5, J5.out.setP HSP.out _ _, T5.out⟩
 case rest =>
  obtain ⟨a5, c5, J6⟩ := hcut
  generalize wc = w6 at *
  clear q0 p0 NX JY
  have AT : ∀ (j : Nat) (r : PP) (i : Nat), pp[j]? = some r → i < 5 → (j * 5 + i ≠ k * 5) → w6.cell? ⟨X.P, j * 5 + i, none⟩ = r.cells[i]? := fun j r i hj hi hne => by
   rw [cell_of_block J6.out.1.jc.pb (j * 5 + i)]
   simp only [List.getElem?_toArray]
   rw [List.getElem?_set_ne (by omega)]
   exact flat_at PP.cells 5 PP.len pp j r i hj hi
  have q1 : w6.cell? ⟨X.P, n * 5 + 1, none⟩ = some (.bool q.e) := (AT n q 1 HK.out.2.1 (by omega) (by omega)).trans rfl
  have q2 : w6.cell? ⟨X.P, n * 5 + 2, none⟩ = some (.int .i64 q.cond) := (AT n q 2 HK.out.2.1 (by omega) (by omega)).trans rfl
  have q3 : w6.cell? ⟨X.P, n * 5 + 3, none⟩ = some (.int .i64 q.next) := (AT n q 3 HK.out.2.1 (by omega) (by omega)).trans rfl
  have q4 : w6.cell? ⟨X.P, n * 5 + 4, none⟩ = some (.int .i64 q.els) := (AT n q 4 HK.out.2.1 (by omega) (by omega)).trans rfl
  have p1 : w6.cell? ⟨X.P, k * 5 + 1, none⟩ = some (.bool p.e) := (AT k p 1 HK.out.1 (by omega) (by omega)).trans rfl
  have p2 : w6.cell? ⟨X.P, k * 5 + 2, none⟩ = some (.int .i64 p.cond) := (AT k p 2 HK.out.1 (by omega) (by omega)).trans rfl
  have p3 : w6.cell? ⟨X.P, k * 5 + 3, none⟩ = some (.int .i64 p.next) := (AT k p 3 HK.out.1 (by omega) (by omega)).trans rfl
  have p4 : w6.cell? ⟨X.P, k * 5 + 4, none⟩ = some (.int .i64 p.els) := (AT k p 4 HK.out.1 (by omega) (by omega)).trans rfl
  have f1 := free_of_block J6.out.1.jc.pb (k * 5 + 1)
  have f2 := free_of_block J6.out.1.jc.pb (k * 5 + 2)
  have f3 := free_of_block J6.out.1.jc.pb (k * 5 + 3)
  have f4 := free_of_block J6.out.1.jc.pb (k * 5 + 4)
  clear AT
  have P4 : Hid (∀ W, Q w6 W → JL X S z0 (nM + q.ins.length) (lrnL F0 q.ins) ((pp.set k (hdP (catP p q) a5 c5)).flatMap PP.cells) ws (upR R k ⟨a5, (R k).n + q.ins.length, c5, 49, 7, (R k).xs ++ insC q.ins⟩) (put4 W X.P (k * 5) (.bool q.e) (.int .i64 q.cond) (.int .i64 q.next) (.int .i64 q.els))) := fun W qW => put4_blk HSP.out HK.out.1 (by simp [PP.cells, hdP, catP]) (J6.out.1.q qW)
  go_upto_region 3 with (fail)
  go_cut [] from 34 (fun W => Hid (JL X S z0 (nM + q.ins.length) (lrnL F0 q.ins) ((pp.set k (hdP (catP p q) a5 c5)).flatMap PP.cells) ws (upR R k ⟨a5, (R k).n + q.ins.length, c5, 49, 7, (R k).xs ++ insC q.ins⟩) W))
  case first =>
   go_region
   all_goals go_wp2_with (fail)
   all_goals go_meet
   all_goals exact P4.out _ (Q.refl w6).drew
  case rest =>
   have T6 := hideIt J6.out.2
   have J7 := hcut
   generalize wc = w7 at *
   clear q1 q2 q3 q4 p1 p2 p3 p4 f1 f2 f3 f4 P4 J6
   generalize hF : lrnL F0 q.ins = F at *
   generalize hR' : upR R k ⟨a5, (R k).n + q.ins.length, c5, 49, 7, (R k).xs ++ insC q.ins⟩ = R' at *
   have hkl : k < pp.length := (List.getElem?_eq_some_iff.1 HK.out.1).1
   have hnw : n < ws.length := by rw [hws]; exact hnN
   obtain ⟨vn, hvn⟩ := get_of_lt hnw
   have i1 : w7.cell? ⟨X.jb, 1, none⟩ = some (.slice (some ⟨X.I, 0, none⟩) X.N X.ic) := (cell_of_block J7.out.jc.jb 1).trans rfl
   have i2 : w7.cell? ⟨X.I, n, none⟩ = some (.int .i64 (vn : Int)) := by
    rw [cell_of_block J7.out.jc.wb n]
    simpa using NV_get hvn
   have i3 := free_of_block J7.out.jc.wb n
   have J8 : Hid (JL X S z0 (nM + q.ins.length) F ((pp.set k (hdP (catP p q) a5 c5)).flatMap PP.cells) (ws.set n 0) R' (w7.setCell ⟨X.I, n, none⟩ (.int .i64 0))) := J7.out.setW HSI.out n 0
   have HR0 : Hid ((pp.set k (hdP (catP p q) a5 c5))[k]? = some (hdP (catP p q) a5 c5)) := List.getElem?_set_self hkl
   go_upto_region 5 with (fail)
   generalize w7.setCell ⟨X.I, n, none⟩ (.int .i64 0) = w8 at *
   clear i1 i2 i3 J7 hvn
   have i1 : w8.cell? ⟨X.jb, 2, none⟩ = some (.map (some X.M)) := (cell_of_block J8.out.jc.jb 2).trans rfl
   have HAT := hideIt (fun (y : World) (hy : Q w8 y) => (J8.out.q hy).jc.part HR0.out)
   have i2 : w8.cell? ⟨X.P, k * 5 + 2, none⟩ = some (.int .i64 q.cond) := (HAT.out w8 (Q.refl _)).1.five.2.2.1
   have LA : ∀ j, (Instr.lookup 101 (.map (some X.M)) (.int .i64 q.cond) true).run Try.prog (w8.drewN j) = .ok (.tuple #[.int .i64 ((F q.cond).getD 0), .bool (F q.cond).isSome]) (w8.drewN j) := fun j => (J8.out.mi.q ((Q.refl w8).drewN j)).look HCD.out
   have CB : Hid (∀ y, Q w8 y → Calls Try.prog 40 #[.pointer (some ⟨X.P, k * 5, none⟩)] y fun e w' => e = .returned (.bool (brP q)) ∧ w' = y) := fun y hy => branches_any y X.P (k * 5) (hdP (catP p q) a5 c5) (HAT.out y hy).1
   have PZ : Hid ((brP q = false ∨ F q.cond = none) → ∀ y, Q w8 y → PutZ X S z0 (nM + q.ins.length) F pp ws R k n p q y) := fun hc y hy => ⟨a5, c5, hdP (catP p q) a5 c5, ws.set n 0, by rw [hR']; exact J8.out.q hy, rfl, rfl, rfl, T6.out, .inr ⟨hc, rfl, rfl⟩⟩
   cases hFc : F q.cond with
   | none =>
    rw [hFc] at LA
    dsimp only [Option.getD, Option.isSome] at LA
    have PZ2 := hideIt (PZ.out (.inr hFc))
    go_quiet (fail)
    go_wp2_with (fail)
    go_end0
    refine ⟨rfl, ?_⟩
    rw [hF]
    exact PZ2.out _ ((Q.refl w8).drewN nq)
   | some v =>
    rw [hFc] at LA
    dsimp only [Option.getD, Option.isSome] at LA
    go_quiet (fail)
    have QD := hideIt ((Q.refl w8).drewN nq)
    generalize w8.drewN nq = w9 at *
    clear LA i1 i2
    cases hbr : brP q with
    | false =>
     rw [hbr] at CB
     have PZ2 := hideIt (PZ.out (.inl hbr))
     go_wp2_with (first | (go_at_call 40; refine Calls.mono (CB.out _ QD.out) ?_; rintro e y ⟨rfl, rfl⟩) | fail)
     go_end0
     refine ⟨rfl, ?_⟩
     rw [hF]
     exact PZ2.out _ QD.out
    | true =>
     rw [hbr] at CB
     have hqN := HW.out q (List.mem_of_getElem? HK.out.2.1)
     have hg := hqN.way hbr (v == 0)
     have ht := hqN.way hbr (v != 0)
     have hqe : q.e = false := by unfold brP at hbr; simp at hbr; exact hbr.1
     obtain ⟨gn, hgn⟩ : ∃ gn : Nat, wayP q (v == 0) = (gn : Int) := ⟨(wayP q (v == 0)).toNat, by omega⟩
     have HLEN := hideIt HJ.out.len
     have JG : Hid (JL X S z0 (nM + q.ins.length) F ((pp.set k (goP (hdP (catP p q) a5 c5) (wayP q (v != 0)))).flatMap PP.cells) (ws.set n 0) R' (Fl.goW w9 X.P (k * 5) (wayP q (v != 0)))) := by
      have := (J8.out.q QD.out).goW HSP.out HR0.out (wayP q (v != 0))
      rw [List.set_set] at this
      exact this
     have hWc := HWI.out.cat HA.out (hdP (catP p q) a5 c5) (by rw [ptN_get HK.out.2.1]; rfl)
     have hWk := hWc.known (k := k) (gone := gn) (by simpa using hkl) (by
      rw [wsN_set (by rw [hws]; exact hnN), if_neg hkn]
      obtain ⟨-, -, -, -, h5, -⟩ := aloP_inv HA.out
      exact h5) (by rw [List.length_set]; omega) (goP (hdP (catP p q) a5 c5) (wayP q (v != 0))) (by
      rw [ptN_set _ hkl, if_pos rfl]
      have := ways_two (q := hdP (catP p q) a5 c5) (n := pp.length) hbr ⟨hqN.nx, hqN.el⟩ v (ways_go (hdP (catP p q) a5 c5) (wayP q (v != 0)) hqe)
      rw [show wayP (hdP (catP p q) a5 c5) (v == 0) = (gn : Int) from hgn, Int.toNat_natCast] at this
      exact this)
     rw [List.set_set] at hWk
     have hne1 : X.P ≠ X.I := fun e => by have := JG.out.jc.wb; rw [← e, JG.out.jc.pb] at this; injection this with this; injection this with _ q; revert q; decide
     have hne2 : X.jb ≠ X.I := fun e => by have := JG.out.jc.jb; rw [e, JG.out.jc.wb] at this; injection this with this; injection this with _ q; revert q; decide
     have CLS := hideIt (lose_any (Fl.goW w9 X.P (k * 5) (wayP q (v != 0))) X.jb X.P X.pc X.I X.ic X.N (pp.set k (goP (hdP (catP p q) a5 c5) (wayP q (v != 0)))) (ws.set n 0) first gn (by rw [List.length_set]; exact HLEN.out) hN (HW.out.set (Wy.go ht)) (fun j r hj => (JG.out.jc.part hj).1) hne1 hne2 ((cell_of_block JG.out.jc.jb 0).trans rfl) ((cell_of_block JG.out.jc.jb 1).trans rfl) JG.out.jc.wb hWk (by have := sum_set ws n 0 (by rw [hws]; exact hnN); have := HSUM.out; omega))
     have PZ2 : Hid (∀ y, Fs (· = X.I) (Fl.goW w9 X.P (k * 5) (wayP q (v != 0))) y → y.heap[X.I]? = some (.cells (NV (losP (pp.set k (goP (hdP (catP p q) a5 c5) (wayP q (v != 0)))) (ws.set n 0) [gn])).toArray 3 (0, 0)) → PutZ X S z0 (nM + q.ins.length) F pp ws R k n p q y) := fun y f hy => ⟨a5, c5, goP (hdP (catP p q) a5 c5) (wayP q (v != 0)), _, by rw [hR']; exact JG.out.ways HSI.out f hy, rfl, rfl, rfl, T6.out, .inl ⟨hbr, v, hFc, rfl, by rw [hgn, Int.toNat_natCast]⟩⟩
     have CW : Hid (∀ b : Bool, Calls Try.prog 44 #[.pointer (some ⟨X.P, k * 5, none⟩), .bool b] w9 fun e w' => e = .returned (.int .i64 (wayP q b)) ∧ w' = w9) := fun b => way_any w9 X.P (k * 5) (hdP (catP p q) a5 c5) (HAT.out w9 QD.out).1 b
     have CG : Hid (∀ t : Int, Calls Try.prog 43 #[.pointer (some ⟨X.P, k * 5, none⟩), .int .i64 t] w9 fun e w' => e = .returned (.tuple #[]) ∧ w' = Fl.goW w9 X.P (k * 5) t) := fun t => goOn_any w9 X.P (k * 5) (hdP (catP p q) a5 c5) (HAT.out w9 QD.out).1 (HAT.out w9 QD.out).2 t
     have HGN := hideIt hgn
     clear hWc hWk hqN hg ht hqe hgn hne1 hne2 PZ JG
     go_wp2_with (first
      | (go_at_call 40; refine Calls.mono (CB.out _ QD.out) ?_; rintro e y ⟨rfl, rfl⟩)
      | (go_at_call 44; refine Calls.mono (CW.out _) ?_; rintro e y ⟨rfl, rfl⟩; try rw [show wayP q (v == 0) = (gn : Int) from HGN.out])
      | (go_at_call 43; refine Calls.mono (CG.out _) ?_; rintro e y ⟨rfl, rfl⟩)
      | (go_at_call 79; refine Calls.mono CLS.out ?_; rintro e y ⟨rfl, f, hy⟩; have PZ3 := hideIt (PZ2.out y f hy); clear f hy)
      | fail)
     go_end0
     refine ⟨rfl, ?_⟩
     rw [hF]
     exact PZ3.out
end Go.Proofs.Ytphknepblchkdaa.Fl

namespace Go.Proofs.Ytphknepblchkdaa.Fl
open Go.RowKit
open Go.Proofs.Ytphknepblchkdaa.In (zI zP zF zI_zI zP_zP cntS)
set_option linter.unusedVariables false

theorem ptN_map (pp : List PP) (n : Nat) : ptN (pp.map zP) n = zP (ptN pp n) := by
 unfold ptN
 rw [List.getElem?_map]
 cases pp[n]? <;> rfl
theorem losP_congr {L L' : List PP} (h : ∀ n, waysN (ptN L n) = waysN (ptN L' n)) : ∀ (s : Nat) (ws wk : List Nat), ws.sum ≤ s → losP L ws wk = losP L' ws wk := fun s => by
 induction s with
 | zero =>
  intro ws wk hs
  rw [losP, losP]
  cases wk.getLast? with
  | none => rfl
  | some n =>
   dsimp only
   rw [dif_neg (by omega), dif_neg (by omega)]
 | succ s ih =>
  intro ws wk hs
  rw [losP, losP]
  cases wk.getLast? with
  | none => rfl
  | some n =>
   dsimp only
   by_cases hlt : (ws.set n ((ws[n]?).getD 0 - 1)).sum < ws.sum
   ·rw [dif_pos hlt, dif_pos hlt, show waysN ((L[n]?).getD zeroP) = waysN ((L'[n]?).getD zeroP) from h n]
    exact ih _ _ (by omega)
   ·rw [dif_neg hlt, dif_neg hlt]
theorem losP_z (pp : List PP) (ws wk : List Nat) : losP (pp.map zP) ws wk = losP pp ws wk := losP_congr (fun n => by rw [ptN_map]; rfl) _ ws wk (Nat.le_refl _)
theorem lrnL_z (F : KF) (l : List PI) : lrnL F (l.map zI) = lrnL F l := by
 unfold lrnL
 rw [List.foldl_map]
 rfl
theorem zP_hd (r : PP) (a : Option Addr) (c : Nat) : zP (hdP r a c) = zP r := rfl
theorem zP_cat (p q : PP) : zP (catP p q) = catP (zP p) (zP q) := by simp [zP, catP]
theorem PutR.eq {pp : List PP} {s : Jn} {F : KF} {k n : Nat} {p q r : PP} {ws' : List Nat} (hz : pp.map zP = s.ps) (hp : pp[k]? = some p) (hq : pp[n]? = some q) (h : PutR pp s.ws F k n p q r ws') :
  (pp.set k r).map zP = (s.put F k n).ps ∧ ws' = (s.put F k n).ws := by
 have hp' : s.ps[k]? = some (zP p) := by rw [← hz, List.getElem?_map, hp]; rfl
 have hq' : s.ps[n]? = some (zP q) := by rw [← hz, List.getElem?_map, hq]; rfl
 have hset : (pp.set k r).map zP = s.ps.set k (zP r) := by rw [List.map_set, hz]
 unfold Jn.put
 rw [hp', hq']
 dsimp only
 have hc : (zP q).cond = q.cond := rfl
 have hbq : brP (zP q) = brP q := rfl
 rcases h with ⟨hb, v, hv, hr, hw⟩ | ⟨hb, hr, hw⟩
 ·have er : zP r = goP (catP (zP p) (zP q)) (wayP (zP q) (v != 0)) := by
   rw [← zP_hd r none 0, hr]
   show goP (zP (catP p q)) _ = _
   rw [zP_cat]; rfl
  rw [hc, hv]
  dsimp only
  rw [hbq, if_pos hb, ← er]
  refine ⟨hset, ?_⟩
  rw [hw, ← hset, losP_z]
  rfl
 ·have er : zP r = catP (zP p) (zP q) := by rw [← zP_hd r none 0, hr, zP_cat]
  rw [hc, hbq]
  cases hF : F q.cond with
  | none => exact ⟨by rw [hset, er], hw⟩
  | some v =>
   dsimp only
   rcases hb with hb | hb
   ·rw [hb, if_neg (by simp)]
    exact ⟨by rw [hset, er], hw⟩
   ·rw [hF] at hb; cases hb

/-! ### Live instructions -/
def lvI (L : List PP) (ws : List Nat) (n : Nat) : Nat := if wsN ws n ≠ 0 then (ptN L n).ins.length else 0
def lvL (L : List PP) (ws : List Nat) : Nat := ((List.range L.length).map (lvI L ws)).sum
theorem sum_le (f g : Nat → Nat) : ∀ N, (∀ j, j < N → g j ≤ f j) → ((List.range N).map g).sum ≤ ((List.range N).map f).sum
 | 0, _ => Nat.le_refl _
 | N + 1, h => by
  rw [List.range_succ, List.map_append, List.map_append, List.sum_append, List.sum_append]
  have h1 := sum_le f g N fun j hj => h j (by omega)
  have h2 := h N (by omega)
  simp; omega
theorem sum_two (f : Nat → Nat) {k n N : Nat} (hk : k < N) (hn : n < N) (hne : k ≠ n) : f k + f n ≤ ((List.range N).map f).sum := by
 have s1 := sum_one f (fun j => if j = k then 0 else f j) k N hk (fun j hj => if_neg hj)
 have s2 := sum_one (fun j => if j = k then 0 else f j) (fun j => if j = n then 0 else (if j = k then 0 else f j)) n N hn (fun j hj => if_neg hj)
 simp only [if_pos, if_neg (fun e => hne e.symm : ¬ n = k)] at s1 s2
 omega
theorem losP_le (L : List PP) (m : Nat) : ∀ (s : Nat) (ws wk : List Nat), ws.sum ≤ s → wsN (losP L ws wk) m ≤ wsN ws m := fun s => by
 have set_le : ∀ (ws : List Nat) (n : Nat), wsN (ws.set n ((ws[n]?).getD 0 - 1)) m ≤ wsN ws m := fun ws n => by
  by_cases hn : n < ws.length
  ·rw [wsN_set hn]
   split
   ·rename_i e; subst e; unfold wsN; omega
   ·exact Nat.le_refl _
  ·rw [List.set_eq_of_length_le (by omega)]; exact Nat.le_refl _
 induction s with
 | zero =>
  intro ws wk hs
  rw [losP]
  cases wk.getLast? with
  | none => exact Nat.le_refl _
  | some n => dsimp only; rw [dif_neg (by omega)]; exact Nat.le_refl _
 | succ s ih =>
  intro ws wk hs
  rw [losP]
  cases wk.getLast? with
  | none => exact Nat.le_refl _
  | some n =>
   dsimp only
   by_cases hlt : (ws.set n ((ws[n]?).getD 0 - 1)).sum < ws.sum
   ·rw [dif_pos hlt]
    exact Nat.le_trans (ih _ _ (by omega)) (set_le ws n)
   ·rw [dif_neg hlt]; exact Nat.le_refl _
/-- What put makes has no more live instructions. -/
theorem put_lv {L : List PP} {ws ws' : List Nat} {k n : Nat} {p q r : PP} (hp : L[k]? = some p) (hq : L[n]? = some q) (hne : k ≠ n) (hk : wsN ws k ≠ 0) (hn1 : wsN ws n = 1) (hr : r.ins.length = p.ins.length + q.ins.length) (hw : ∀ m, wsN ws' m ≤ wsN (ws.set n 0) m) : lvL (L.set k r) ws' ≤ lvL L ws := by
 have hkl := (List.getElem?_eq_some_iff.1 hp).1
 have hnl := (List.getElem?_eq_some_iff.1 hq).1
 have hnw : n < ws.length := by
  by_cases e : n < ws.length
  ·exact e
  ·unfold wsN at hn1; rw [List.getElem?_eq_none (by omega)] at hn1; simp at hn1
 have f1 : lvI L ws k = p.ins.length := by unfold lvI; rw [if_pos hk, ptN_get hp]
 have f2 : lvI L ws n = q.ins.length := by unfold lvI; rw [if_pos (by omega), ptN_get hq]
 have s1 := sum_one (lvI L ws) (fun j => if j = k then p.ins.length + q.ins.length else lvI L ws j) k L.length hkl (fun j hj => if_neg hj)
 have s2 := sum_one (fun j => if j = k then p.ins.length + q.ins.length else lvI L ws j) (fun j => if j = n then 0 else (if j = k then p.ins.length + q.ins.length else lvI L ws j)) n L.length hnl (fun j hj => if_neg hj)
 simp only [if_pos, if_neg (fun e => hne e.symm : ¬ n = k)] at s1 s2
 have s3 := sum_le (fun j => if j = n then 0 else (if j = k then p.ins.length + q.ins.length else lvI L ws j)) (lvI (L.set k r) ws') L.length fun j hj => by
  have hj' := hw j
  rw [wsN_set hnw] at hj'
  show lvI (L.set k r) ws' j ≤ (if j = n then 0 else (if j = k then p.ins.length + q.ins.length else lvI L ws j))
  unfold lvI
  by_cases e1 : j = n
  ·rw [if_pos e1] at hj' ⊢
   rw [if_neg (by omega)]; exact Nat.le_refl _
  ·rw [if_neg e1] at hj' ⊢
   rw [ptN_set r hkl]
   by_cases e2 : j = k
   ·rw [if_pos e2, if_pos e2, hr]
    split <;> omega
   ·rw [if_neg e2, if_neg e2]
    split
    ·rw [if_pos (by omega)]; exact Nat.le_refl _
    ·omega
 unfold lvL
 rw [List.length_set]
 omega
end Go.Proofs.Ytphknepblchkdaa.Fl
