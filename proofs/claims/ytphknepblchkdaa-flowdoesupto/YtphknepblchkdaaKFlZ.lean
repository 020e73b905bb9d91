/-
 A row of parts is put together (lengthen of flow): a contract over the program; the conditions: the joiner lies in memory, the ways are counted.
 A row of parts is put together, in memory (lengthen of flow): a contract over the program; the conditions: the joiner lies in memory, the ways are counted.
 The ways are counted from the start; what is reached bears no headers: no program in sight.
 Parts that follow one another alone are put together (join of flow): a contract over the program; the conditions: the parts lie in memory, a row of its own for the instructions of each, their ways lead to parts.
 Parts that follow one another alone are put together, in memory (join of flow): a contract over the program; the conditions are FlY's.
-/
import Derived.Test.YtphknepblchkdaaKFlS
import Derived.Deep.LoopGhost
namespace Go.Proofs.Ytphknepblchkdaa.Fl
open Go.RowKit
open Go.Proofs.Ytphknepblchkdaa.In (zI zP zF zI_zI zP_zP cntS)
set_option linter.unusedVariables false

/-! ### What holds from put to put -/
theorem WI.z {pp : List PP} {first : Nat} {ws wk : List Nat} (h : WI (pp.map zP) first ws wk) : WI pp first ws wk := by
 have e : ∀ m n, lvF (pp.map zP) ws m n = lvF pp ws m n := fun m n => by unfold lvF; rw [ptN_map]; rfl
 refine ⟨by simpa using h.len, fun n hn => by simpa using h.wb n hn, fun m hm => ?_⟩
 rw [h.eq m (by simpa using hm)]
 unfold lvS
 rw [List.length_map]
 congr 3
 exact List.map_congr_left fun j _ => e m j
theorem WyL.z {pp : List PP} (h : WyL (pp.map zP)) : WyL pp := fun p hp => by
 have := h (zP p) (List.mem_map_of_mem hp)
 rw [List.length_map] at this
 exact ⟨this.nx, this.el⟩
theorem aloP_z (pp : List PP) (ws : List Nat) (k : Nat) : aloP (pp.map zP) ws k = aloP pp ws k := by
 unfold aloP
 rw [List.getElem?_map]
 cases pp[k]? <;> rfl
structure JI (pp : List PP) (s : Jn) (first B : Nat) (T : PI → Prop) : Prop where
 z : pp.map zP = s.ps
 wi : WI s.ps first s.ws []
 wy : WyL s.ps
 sum : s.ws.sum ≤ 3000000
 gd : ∀ p ∈ pp, I64 p.cond ∧ ∀ x ∈ p.ins, I64 x.dst ∧ T x
 lv : lvL s.ps s.ws ≤ B
 ml : ∀ p ∈ pp, p.ins.length ≤ B
theorem JI.wi' {pp : List PP} {s : Jn} {first B : Nat} {T : PI → Prop} (h : JI pp s first B T) : WI pp first s.ws [] := by have := h.wi; rw [← h.z] at this; exact this.z
theorem JI.wy' {pp : List PP} {s : Jn} {first B : Nat} {T : PI → Prop} (h : JI pp s first B T) : WyL pp := by have := h.wy; rw [← h.z] at this; exact this.z
theorem JI.al {pp : List PP} {s : Jn} {first B : Nat} {T : PI → Prop} (h : JI pp s first B T) (k : Nat) : aloP s.ps s.ws k = aloP pp s.ws k := by rw [← h.z, aloP_z]
theorem lvL_z (pp : List PP) (ws : List Nat) : lvL (pp.map zP) ws = lvL pp ws := by
 unfold lvL
 rw [List.length_map]
 congr 1
 refine List.map_congr_left fun j _ => ?_
 unfold lvI
 rw [ptN_map]
 simp [zP]
theorem PutR.le {pp : List PP} {ws : List Nat} {F : KF} {k n : Nat} {p q r : PP} {ws' : List Nat} (h : PutR pp ws F k n p q r ws') (m : Nat) : wsN ws' m ≤ wsN (ws.set n 0) m := by
 rcases h with ⟨-, v, -, -, rfl⟩ | ⟨-, -, rfl⟩
 ·exact losP_le _ m _ _ _ (Nat.le_refl _)
 ·exact Nat.le_refl _
theorem JI.put {pp : List PP} {s : Jn} {first B k n : Nat} {T : PI → Prop} {F : KF} {p q r : PP} {ws' : List Nat} (h : JI pp s first B T) (ha : aloP s.ps s.ws k = some n) (hp : pp[k]? = some p) (hq : pp[n]? = some q) (hr : r.ins = p.ins ++ q.ins) (hR : PutR pp s.ws F k n p q r ws') :
  JI (pp.set k r) (s.put F k n) first B T ∧ ws' = (s.put F k n).ws := by
 obtain ⟨e1, e2⟩ := hR.eq h.z hp hq
 obtain ⟨a, b, c, d⟩ := Jn.put_WI (F := F) h.wi h.wy ha
 obtain ⟨-, -, -, hne, hk, hn1⟩ := aloP_inv ha
 refine ⟨⟨e1, a, b, by have := h.sum; omega, fun x hx => ?_, ?_, fun x hx => ?_⟩, e2⟩
 ·obtain ⟨j, hj⟩ := List.getElem?_of_mem hx
  rw [List.getElem?_set] at hj
  split at hj
  ·rename_i e
   have hxr : r = x := by
    split at hj
    ·exact Option.some.inj hj
    ·cases hj
   subst hxr
   have gq := h.gd q (List.mem_of_getElem? hq)
   have gp := h.gd p (List.mem_of_getElem? hp)
   refine ⟨?_, fun y hy => ?_⟩
   ·rcases hR with ⟨-, v, -, hh, -⟩ | ⟨-, hh, -⟩
    ·have : r.cond = -1 := by have := congrArg PP.cond hh; exact this
     rw [this]; unfold I64; omega
    ·have : r.cond = q.cond := by have := congrArg PP.cond hh; exact this
     rw [this]; exact gq.1
   ·rw [hr] at hy
    rcases List.mem_append.1 hy with hy | hy
    ·exact gp.2 y hy
    ·exact gq.2 y hy
  ·exact h.gd x (List.mem_of_getElem? hj)
 ·have := put_lv (L := pp) hp hq (fun e => hne e.symm) hk hn1 (by rw [hr, List.length_append]) hR.le
  rw [← e1, ← e2, lvL_z]
  have h2 := h.lv
  rw [← h.z, lvL_z] at h2
  omega
 ·obtain ⟨j, hj⟩ := List.getElem?_of_mem hx
  rw [List.getElem?_set] at hj
  split at hj
  ·have hxr : r = x := by
    split at hj
    ·exact Option.some.inj hj
    ·cases hj
   subst hxr
   have hl := h.lv
   rw [← h.z, lvL_z] at hl
   have h2 := sum_two (lvI pp s.ws) (List.getElem?_eq_some_iff.1 hp).1 (List.getElem?_eq_some_iff.1 hq).1 (fun e => hne e.symm)
   have f1 : lvI pp s.ws k = p.ins.length := by unfold lvI; rw [if_pos hk, ptN_get hp]
   have f2 : lvI pp s.ws n = q.ins.length := by unfold lvI; rw [if_pos (by omega), ptN_get hq]
   have hl' : ((List.range pp.length).map (lvI pp s.ws)).sum ≤ B := hl
   rw [hr, List.length_append]
   omega
  ·exact h.ml x (List.mem_of_getElem? hj)

/-! ### Before the map is made -/
structure JK (X : Jx) (S : Nat → Prop) (z0 : World) (cs : List Value) (ws : List Nat) (R : Nat → Rw) (W : World) : Prop where
 pb : W.heap[X.P]? = some (.cells cs.toArray 47 (0, 0))
 wb : W.heap[X.I]? = some (.cells (NV ws).toArray 3 (0, 0))
 jb : ∃ mv : Option Nat, W.heap[X.jb]? = some (.cells #[.slice (some ⟨X.P, 0, none⟩) X.N X.pc, .slice (some ⟨X.I, 0, none⟩) X.N X.ic, .map mv] 103 (0, 0))
 sep : Sep W (fun _ => X.lo) (fun k => k < X.N) R
 ty : ∀ k, k < X.N → (R k).ty = 49 ∧ (R k).sz = 7
 fs : Fs S z0 W
 lo : X.lo ≤ W.heap.size
section
variable {X : Jx} {S : Nat → Prop} {z0 W W' : World} {nM : Nat} {F : KF} {cs : List Value} {ws : List Nat} {R : Nat → Rw}
theorem JL.k (h : JL X S z0 nM F cs ws R W) (M : Nat) : JK { X with M := M } S z0 cs ws R W := ⟨h.jc.pb, h.jc.wb, ⟨_, h.jc.jb⟩, h.jc.sep, h.jc.ty, h.fs, h.lo⟩
theorem JK.q (h : JK X S z0 cs ws R W) (q : Q W W') : JK X S z0 cs ws R W' := ⟨heap_keep q h.pb, heap_keep q h.wb, by obtain ⟨mv, h1⟩ := h.jb; exact ⟨mv, heap_keep q h1⟩, h.sep.q q, h.ty, h.fs.trans (Fs.of_q q), Nat.le_trans h.lo q.size⟩
theorem JK.far (h : JK X S z0 cs ws R W) {k : Nat} (hk : k < X.N) {a : Addr} (ha : (R k).a = some a) {b : Nat} {xs : Array Value} {t : TypeId} {f : Nat × Nat} (hb : W.heap[b]? = some (.cells xs t f)) (ht : t ≠ 49) : a.block ≠ b := fun e => by
 have ho := h.sep.own k hk
 obtain ⟨-, -, -, -, -, -, cur, e7, -⟩ := own_addr ho ha
 rw [e, hb] at e7
 injection e7 with e7
 injection e7 with _ e8
 exact ht (e8.trans (h.ty k hk).1)
/-- A map is made. -/
theorem JK.made (h : JK X S z0 cs ws R W) (hS : S X.jb) : JL { X with M := W.heap.size } S z0 0 (fun _ => none) cs ws R ((W.alloc (.map #[] 0)).setCell ⟨X.jb, 2, none⟩ (.map (some W.heap.size))) := by
 have q : Q W (W.alloc (.map #[] 0)) := (Q.refl W).alloc _
 have h1 := h.q q
 obtain ⟨mv, hj⟩ := h1.jb
 have hjl := (Array.getElem?_eq_some_iff.1 (h.jb.choose_spec)).1
 have hPj : X.P ≠ X.jb := fun e => by have := h1.pb; rw [e, hj] at this; injection this with this; injection this with _ q; revert q; decide
 have hIj : X.I ≠ X.jb := fun e => by have := h1.wb; rw [e, hj] at this; injection this with this; injection this with _ q; revert q; decide
 refine ⟨⟨(Below.heap_setCell _ _ _ _ hPj).trans h1.pb, (Below.heap_setCell _ _ _ _ hIj).trans h1.wb, ?_, ⟨fun k hk => at_keep (h1.sep.own k hk) fun a ha => Below.heap_setCell _ _ _ _ (h1.far hk ha hj (by decide)), h1.sep.apart⟩, h.ty⟩, (mi_made W).kept (Below.heap_setCell _ _ _ _ (by dsimp only; omega)), fs_set h1.fs hS 2 _, by rw [World.size_setCell]; exact h1.lo⟩
 show ((W.alloc (.map #[] 0)).setCell ⟨X.jb, 2, none⟩ (.map (some W.heap.size))).heap[X.jb]? = _
 rw [block_setCell hj]
 rfl
end
end Go.Proofs.Ytphknepblchkdaa.Fl

namespace Go.Proofs.Ytphknepblchkdaa.Fl
open Go.RowKit
open Go.Proofs.Ytphknepblchkdaa.In (zI zP zF zI_zI zP_zP cntS)
set_option linter.unusedVariables false

/-- Rows lie where they may. -/
def RS (X : Jx) (S : Nat → Prop) (z0 : World) (R : Nat → Rw) : Prop := ∀ j, j < X.N → ∀ b, (R j).v.ownBlock = some b → S b ∨ z0.heap.size ≤ b
/-- What lengthen leaves. -/
def LnZ (X : Jx) (S : Nat → Prop) (z0 : World) (first B : Nat) (T : PI → Prop) (s : Jn) (z' : World) : Prop :=
 ∃ pp R, JK X S z0 (pp.flatMap PP.cells) s.ws R z' ∧ JP X pp R ∧ RS X S z0 R ∧ JI pp s first B T
/-- In a round of lengthening. -/
structure LW (X : Jx) (S : Nat → Prop) (z0 : World) (first B k : Nat) (T : PI → Prop) (pp : List PP) (s : Jn) (F : KF) (nM : Nat) (R : Nat → Rw) (W : World) : Prop where
 jl : JL X S z0 nM F (pp.flatMap PP.cells) s.ws R W
 jp : JP X pp R
 rs : RS X S z0 R
 ji : JI pp s first B T
 nm : nM = (ptN pp k).ins.length
theorem LW.q {X : Jx} {S : Nat → Prop} {z0 W W' : World} {first B k nM : Nat} {T : PI → Prop} {pp : List PP} {s : Jn} {F : KF} {R : Nat → Rw} (h : LW X S z0 first B k T pp s F nM R W) (q : Q W W') : LW X S z0 first B k T pp s F nM R W' := ⟨h.jl.q q, h.jp, h.rs, h.ji, h.nm⟩
theorem LW.alone {X : Jx} {S : Nat → Prop} {z0 W : World} {first B k nM : Nat} {T : PI → Prop} {pp : List PP} {s : Jn} {F : KF} {R : Nat → Rw} (h : LW X S z0 first B k T pp s F nM R W) (hN : X.N ≤ 1000) (hk : k < X.N) :
  Calls Try.prog 50 #[.pointer (some ⟨X.jb, 0, none⟩), .int .i64 (k : Int)] W fun e w' => e = .returned (.tuple #[.int .i64 (((aloP s.ps s.ws k).getD 0 : Nat) : Int), .bool (aloP s.ps s.ws k).isSome]) ∧ Q W w' := by
 obtain ⟨p, hp⟩ := get_of_lt (l := pp) (k := k) (by rw [h.jp.len]; exact hk)
 rw [h.ji.al k, alo1_P hp]
 have hw : Wy X.N p := by have := h.ji.wy' p (List.mem_of_getElem? hp); rwa [h.jp.len] at this
 exact alone_any W X.jb X.P X.pc X.I X.ic X.N k s.ws p hk (by rw [h.ji.wi'.len, h.jp.len]) hN hw (h.jl.jc.part hp).1 ((cell_of_block h.jl.jc.jb 0).trans rfl) ((cell_of_block h.jl.jc.jb 1).trans rfl) (fun m v hm => by
  rw [cell_of_block h.jl.jc.wb m]
  simpa using NV_get hm)
/-- The next part is put behind. -/
theorem LW.step {X : Jx} {S : Nat → Prop} {z0 W : World} {first B k n nM : Nat} {T : PI → Prop} {pp : List PP} {s : Jn} {F : KF} {R : Nat → Rw} (h : LW X S z0 first B k T pp s F nM R W) (hS : ∀ b, z0.heap.size ≤ b → S b) (hSP : S X.P) (hSI : S X.I) (hSM : S X.M) (hN : X.N ≤ 1000) (hB : B ≤ 1000000) (hk : k < X.N) (ha : aloP s.ps s.ws k = some n) :
  Calls Try.prog 68 #[.pointer (some ⟨X.jb, 0, none⟩), .int .i64 (n : Int), .pointer (some ⟨X.P, k * 5, none⟩)] W fun e z' => e = .returned (.tuple #[]) ∧ ∃ pp' R' nM', LW X S z0 first B k T pp' (s.put (lrnL F (ptN s.ps n).ins) k n) (lrnL F (ptN s.ps n).ins) nM' R' z' := by
 obtain ⟨p, hp, -, hne, hkw, hn1⟩ := aloP_inv (by rw [← h.ji.al k]; exact ha)
 have hnw : n < pp.length := by
  rw [← h.ji.wi'.len]
  by_cases e : n < s.ws.length
  ·exact e
  ·unfold wsN at hn1; rw [List.getElem?_eq_none (by omega)] at hn1; simp at hn1
 obtain ⟨q, hq⟩ := get_of_lt hnw
 have hkl := (List.getElem?_eq_some_iff.1 hp).1
 have hl := h.ji.lv
 rw [← h.ji.z, lvL_z] at hl
 have h2 := sum_two (lvI pp s.ws) hkl hnw (fun e => hne e.symm)
 have f1 : lvI pp s.ws k = p.ins.length := by unfold lvI; rw [if_pos hkw, ptN_get hp]
 have f2 : lvI pp s.ws n = q.ins.length := by unfold lvI; rw [if_pos (by omega), ptN_get hq]
 have hl' : ((List.range pp.length).map (lvI pp s.ws)).sum ≤ B := hl
 have hnm := h.nm
 rw [ptN_get hp] at hnm
 have hF : lrnL F (ptN s.ps n).ins = lrnL F q.ins := by
  rw [← h.ji.z, ptN_map, ptN_get hq]
  exact lrnL_z F q.ins
 rw [hF]
 refine Calls.mono (put_any z0 W X S hSP hSI hSM pp s.ws R nM F h.jl h.jp k n (h.rs k hk) p q hp hq (fun e => hne e.symm) (by rw [h.ji.wi'.len, h.jp.len]) hN (fun x hx => ((h.ji.gd q (List.mem_of_getElem? hq)).2 x hx).1) (h.ji.gd q (List.mem_of_getElem? hq)).1 h.ji.wy' (by omega) (by omega) first h.ji.wi' (by rw [← h.ji.al k]; exact ha) h.ji.sum) ?_
 rintro e z' ⟨rfl, a, c, r, ws', hJ, r1, r2, r3, hat, hR⟩
 obtain ⟨j1, j2⟩ := h.ji.put ha hp hq r1 hR
 rw [j2] at hJ
 refine ⟨rfl, pp.set k r, _, _, hJ, h.jp.cat hp r ⟨r1, r2, r3⟩, fun j hj b hb => ?_, j1, ?_⟩
 ·by_cases e : j = k
  ·subst e
   rw [upR_same] at hb
   unfold Rw.v at hb
   cases ea : a with
   | none => rw [ea] at hb; cases hb
   | some a0 => rw [ea] at hb; injection hb with hb; subst hb; exact hat a0 ea
  ·rw [upR_other e] at hb
   exact h.rs j hj b hb
 ·rw [ptN_set r hkl, if_pos rfl, r1, List.length_append]
  omega

set_option maxRecDepth 100000 in
set_option maxHeartbeats 8000000 in
theorem lengthen_any (z0 z : World) (X : Jx) (S : Nat → Prop) (hS : ∀ b, z0.heap.size ≤ b → S b) (hSP : S X.P) (hSI : S X.I) (hSj : S X.jb) (first B k : Nat) (T : PI → Prop) (hN : X.N ≤ 1000) (hB : B ≤ 1000000) (hk : k < X.N) (pp : List PP) (s : Jn) (R : Nat → Rw) (hJ : JK X S z0 (pp.flatMap PP.cells) s.ws R z) (hjp : JP X pp R) (hrs : RS X S z0 R) (hji : JI pp s first B T) :
  Calls Try.prog 51 #[.pointer (some ⟨X.jb, 0, none⟩), .int .i64 (k : Int)] z fun e z' => e = .returned (.tuple #[]) ∧ LnZ X S z0 first B T (lngP s k) z' := by
 rcases X with ⟨lo, P, pc, I, ic, jb, M0, N⟩
 dsimp only at hSP hSI hSj hN hk ⊢
 obtain ⟨p, hp⟩ := get_of_lt (l := pp) (k := k) (by rw [hjp.len]; exact hk)
 have hki : (k : Int) < (N : Int) := by omega
 have HS := hideIt hS
 have HSP := hideIt hSP
 have HSI := hideIt hSI
 have HSJ := hideIt hSj
 have hw : Wy N p := by have := hji.wy' p (List.mem_of_getElem? hp); rwa [hjp.len] at this
 have hpt : ∀ y, Q z y → At y P (k * 5) p.cells := fun y q => by
  have h := hJ.q q
  intro j hj
  rw [PP.len] at hj
  rw [cell_of_block h.pb (k * 5 + j)]
  simpa using flat_at PP.cells 5 PP.len pp k p j hp hj
 have CA : Hid (Calls Try.prog 50 #[.pointer (some ⟨jb, 0, none⟩), .int .i64 (k : Int)] z fun e w' => e = .returned (.tuple #[.int .i64 (((aloP s.ps s.ws k).getD 0 : Nat) : Int), .bool (aloP s.ps s.ws k).isSome]) ∧ Q z w') := by
  show Calls _ _ _ _ _
  rw [hji.al k, alo1_P hp]
  obtain ⟨mv, hjb⟩ := hJ.jb
  exact alone_any z jb P pc I ic N k s.ws p hk (by rw [hji.wi'.len, hjp.len]) hN hw (hpt z (Q.refl z)) ((cell_of_block hjb 0).trans rfl) ((cell_of_block hjb 1).trans rfl) (fun m v hm => by
   rw [cell_of_block hJ.wb m]
   simpa using NV_get hm)
 have HJ := hideIt (And.intro hJ (And.intro hjp (And.intro hrs hji)))
 have HPK := hideIt hp
 clear hJ hjp hrs hji hw hpt hp hS hSP hSI hSj
 cases ha : aloP s.ps s.ws k with
 | none =>
  rw [ha] at CA
  dsimp only [Option.getD, Option.isSome] at CA
  have E9 : Hid (lngP s k = s) := by show lngP s k = s; unfold lngP; exact lenP_none ha
  clear ha
  go_enter Try.func51, Try.ntmps51
  go_wp2_with (first | (go_at_call 50; refine Calls.mono CA.out ?_; rintro e y ⟨rfl, q⟩; have QY := hideIt q; clear q) | fail)
  refine bodyPost_ret (results_none rfl _ _ _) rfl ⟨rfl, ?_⟩
  rw [E9.out]
  exact ⟨pp, R, HJ.out.1.q QY.out, HJ.out.2.1, HJ.out.2.2.1, HJ.out.2.2.2⟩
 | some n =>
  rw [ha] at CA
  dsimp only [Option.getD, Option.isSome] at CA
  have HA := hideIt ha
  clear ha
  go_enter Try.func51, Try.ntmps51
  go_upto_region 2 with (first | (go_at_call 50; refine Calls.mono CA.out ?_; rintro e y ⟨rfl, q⟩; have JY := hideIt (HJ.out.1.q q); clear q) | fail)
  have HM0 := hideIt (JY.out.made HSJ.out)
  obtain ⟨mv, hjb⟩ := JY.out.jb
  have i0 : y.cell? ⟨jb, 2, none⟩ = some (.map mv) := (cell_of_block hjb 2).trans rfl
  have i1 := free_of_block hjb 2
  have hjl := (Array.getElem?_eq_some_iff.1 hjb).1
  have i2 : (y.alloc (.map #[] 0)).cell? ⟨jb, 2, none⟩ = some (.map mv) := cell_keep ((Q.refl y).alloc _) i0
  have i3 : (y.alloc (.map #[] 0)).frozen? ⟨jb, 2, none⟩ = false := free_of_block (heap_keep ((Q.refl y).alloc _) hjb) 2
  clear hjb
  have hmk := run_makeMap (P := Try.prog) 101
  go_upto_region 3 with (fail)
  clear hmk i0 i1 i2 i3 CA
  dsimp only at HM0
  have hcomm : (y.alloc (.map #[] 0)).setCell ⟨jb, 2, none⟩ (.map (some y.heap.size)) = (y.setCell ⟨jb, 2, none⟩ (.map (some y.heap.size))).alloc (.map #[] 0) := World.setCell_alloc_past _ _ _ _ hjl
  rw [hcomm] at HM0
  clear hcomm
  generalize hM : y.heap.size = M at *
  generalize (y.setCell ⟨jb, 2, none⟩ (.map (some M))).alloc (.map #[] 0) = z1 at *
  have CL := hideIt (learn_any z1 jb M 0 (fun _ => none) HM0.out.mi ((cell_of_block HM0.out.jc.jb 2).trans rfl) p.ia p.ic p.ins (by
   obtain ⟨a1, a2, a3, a4⟩ := HJ.out.2.1.rw k p HPK.out
   rw [a3]
   exact insL_of (HM0.out.jc.sep.own k hk) ⟨(HM0.out.jc.ty k hk).1, (HM0.out.jc.ty k hk).2, a1, a2⟩ (fun x hx => ((HJ.out.2.2.2.gd p (List.mem_of_getElem? HPK.out)).2 x hx).1)) (by
   obtain ⟨a1, a2, a3, a4⟩ := HJ.out.2.1.rw k p HPK.out
   have := HM0.out.jc.sep.own k hk
   unfold Rw.at Rw.v at this
   rw [← a3, ← a4] at this
   cases e : p.ia with
   | none => rw [e] at this; have := (own_none this).1; omega
   | some a => obtain ⟨-, -, -, -, h5, -⟩ := own_addr this e; omega) (by
   have := HJ.out.2.2.2.lv
   obtain ⟨-, -, -, -, hkw, -⟩ := aloP_inv HA.out
   rw [← HJ.out.2.2.2.z, lvL_z] at this
   have h2 : lvI pp s.ws k ≤ lvL pp s.ws := by
    unfold lvL
    have := sum_one (lvI pp s.ws) (fun j => if j = k then 0 else lvI pp s.ws j) k pp.length (List.getElem?_eq_some_iff.1 HPK.out).1 (fun j hj => if_neg hj)
    simp only [if_pos] at this
    omega
   have f1 : lvI pp s.ws k = p.ins.length := by unfold lvI; rw [if_pos hkw, ptN_get HPK.out]
   omega))
  obtain ⟨c0, -⟩ := And.intro ((cell_of_block HM0.out.jc.jb 0).trans rfl : z1.cell? ⟨jb, 0, none⟩ = some (.slice (some ⟨P, 0, none⟩) N pc)) trivial
  obtain ⟨p0, -⟩ := (HM0.out.jc.part HPK.out).1.five
  go_wp2_with (first | (go_at_call 67; refine Calls.mono CL.out ?_; rintro e y2 ⟨rfl, hl⟩; have L0 : Hid (LW ⟨lo, P, pc, I, ic, jb, M, N⟩ S z0 first B k T pp s (lrnL (fun _ => none) p.ins) (0 + p.ins.length) R y2) := ⟨HM0.out.map (HS.out M (by have := JY.out.fs.size; omega)) hl.fs hl.mi, ⟨HJ.out.2.1.len, HJ.out.2.1.rw⟩, HJ.out.2.2.1, HJ.out.2.2.2, by rw [ptN_get HPK.out]; omega⟩; clear hl) | fail)
  clear CL c0 p0
  have hlP : Hid (lngP s k = lenP s (lrnL (fun _ => none) p.ins) k) := by
   show lngP s k = _
   unfold lngP
   congr 1
   show lrnL _ (ptN s.ps k).ins = _
   rw [← HJ.out.2.2.2.z, ptN_map, ptN_get HPK.out]
   exact lrnL_z _ _
  have HSM : Hid (S M) := HS.out M (by have := JY.out.fs.size; omega)
  have hsum := HJ.out.2.2.2.sum
  go_loopg [4, 5] (s.ws.sum + 1) (fun kx v4 v5 z => ∃ (pp' : List PP) (s' : Jn) (F' : KF) (nM : Nat) (R' : Nat → Rw), v4 = .int .i64 (((aloP s'.ps s'.ws k).getD 0 : Nat) : Int) ∧ v5 = .bool (aloP s'.ps s'.ws k).isSome ∧ s'.ws.sum < kx ∧ kx ≤ s.ws.sum + 1 ∧ Hid (LW ⟨lo, P, pc, I, ic, jb, M, N⟩ S z0 first B k T pp' s' F' nM R' z) ∧ Hid (lngP s k = lenP s' F' k))
  case atStart => exact ⟨pp, s, _, _, R, by rw [show aloP s.ps s.ws k = some n from HA.out]; rfl, by rw [show aloP s.ps s.ws k = some n from HA.out]; rfl, by omega, by omega, L0, hlP⟩
  case round =>
   obtain ⟨pp', s', F', nM, R', rfl, rfl, hmu, hkx, L1, E1⟩ := hrel
   generalize wr = z3 at *
   clear L0 hlP HM0
   cases ha : aloP s'.ps s'.ws k with
   | none =>
    have e9 := E1.out
    rw [lenP_none ha] at e9
    have E9 := hideIt e9
    clear e9 ha
    dsimp only [Option.getD, Option.isSome]
    go_wp2_with (fail)
    go_end0
    refine ⟨rfl, ?_⟩
    rw [E9.out]
    exact ⟨pp', R', L1.out.jl.k M0, ⟨L1.out.jp.len, L1.out.jp.rw⟩, L1.out.rs, L1.out.ji⟩
   | some m =>
    have e9 := E1.out
    rw [lenP_some L1.out.ji.wi L1.out.ji.wy ha] at e9
    have E9 := hideIt e9
    have CP := hideIt (L1.out.step HS.out HSP.out HSI.out HSM.out hN hB hk ha)
    have hlt := (Jn.put_WI (F := lrnL F' (ptN s'.ps m).ins) L1.out.ji.wi L1.out.ji.wy ha).2.2.1
    have c0 : z3.cell? ⟨jb, 0, none⟩ = some (.slice (some ⟨P, 0, none⟩) N pc) := (cell_of_block L1.out.jl.jc.jb 0).trans rfl
    dsimp only at CP
    generalize hs2 : s'.put (lrnL F' (ptN s'.ps m).ins) k m = s2 at *
    clear e9 ha E1 hs2
    dsimp only [Option.getD, Option.isSome]
    go_wp2_with (first
     | (go_at_call 68; refine Calls.mono CP.out ?_; rintro e y3 ⟨rfl, pp2, R2, nM2, h2⟩; have L2 := hideIt h2; have CA2 := hideIt (h2.alone hN hk); clear h2)
     | (go_at_call 50; refine Calls.mono CA2.out ?_; rintro e y4 ⟨rfl, q4⟩; have L3 := hideIt (L2.out.q q4); clear q4)
     | fail)
    go_roundg (s2.ws.sum + 1)
    case measure => omega
    case rel => exact ⟨pp2, s2, _, nM2, R2, rfl, rfl, by omega, by omega, L3, E9⟩
end Go.Proofs.Ytphknepblchkdaa.Fl

namespace Go.Proofs.Ytphknepblchkdaa.Fl
open Go.RowKit
open Go.Proofs.Ytphknepblchkdaa.In (zI zP zF zI_zI zP_zP cntS)
set_option linter.unusedVariables false

theorem rch_z {pp : List PP} {first n : Nat} : Rch (pp.map zP) first n ↔ Rch pp first n := by
 constructor
 ·intro h
  induction h with
  | base => exact .base
  | step r hp hm ih =>
   rw [List.getElem?_map] at hp
   obtain ⟨p, h1, h2⟩ := Option.map_eq_some_iff.1 hp
   subst h2
   exact ih.step h1 hm
 ·intro h
  induction h with
  | base => exact .base
  | step r hp hm ih => exact Rch.step (p := zP _) ih (by rw [List.getElem?_map, hp]; rfl) hm
theorem rchB_z (pp : List PP) (first n : Nat) : rchB (pp.map zP) first n = rchB pp first n := by
 rw [Bool.eq_iff_iff, rchB_iff, rchB_iff]
 exact rch_z
theorem cntL_z (pp : List PP) (first : Nat) : cntL (pp.map zP) first = cntL pp first := by
 unfold cntL
 rw [List.length_map]
 refine List.map_congr_left fun m _ => ?_
 unfold cntTo
 congr 2
 refine List.map_congr_left fun n _ => ?_
 rw [rchB_z, show (((pp.map zP)[n]?).getD zeroP) = zP ((pp[n]?).getD zeroP) from ptN_map pp n]
 rfl
theorem wsN_cnt {L : List PP} {first m : Nat} (h : m < L.length) : wsN (cntL L first) m = cntTo L first L.length m := by
 unfold wsN cntL
 rw [List.getElem?_map, List.getElem?_range h]; rfl
theorem sum_pos {f : Nat → Nat} {k : Nat} : ∀ {N : Nat}, k < N → f k ≤ ((List.range N).map f).sum
 | 0, h => by omega
 | N + 1, h => by
  rw [List.range_succ, List.map_append, List.sum_append]
  by_cases e : k = N
  ·subst e; simp
  ·have := sum_pos (f := f) (k := k) (N := N) (by omega)
   omega
theorem sum_ex {f : Nat → Nat} : ∀ {N : Nat}, ((List.range N).map f).sum ≠ 0 → ∃ k, k < N ∧ f k ≠ 0
 | 0, h => by simp at h
 | N + 1, h => by
  rw [List.range_succ, List.map_append, List.sum_append] at h
  by_cases e : ((List.range N).map f).sum = 0
  ·exact ⟨N, by omega, by simp at h; omega⟩
  ·obtain ⟨k, a, b⟩ := sum_ex e
   exact ⟨k, by omega, b⟩
theorem cnt_rch {L : List PP} {first n : Nat} (hw : WyL L) (hf : first < L.length) (hn : n < L.length) : wsN (cntL L first) n ≠ 0 ↔ rchB L first n = true := by
 rw [wsN_cnt hn, rchB_iff]
 unfold cntTo
 constructor
 ·intro h
  by_cases e : n = first
  ·subst e; exact .base
  ·rw [if_neg e, Nat.zero_add] at h
   obtain ⟨k, hk, h2⟩ := sum_ex h
   by_cases hr : rchB L first k = true
   ·rw [if_pos hr] at h2
    obtain ⟨p, hp⟩ := get_of_lt hk
    rw [hp] at h2
    exact (rchB_iff.1 hr).step hp (List.count_pos_iff.1 (Nat.pos_of_ne_zero h2))
   ·rw [if_neg hr] at h2; exact absurd rfl h2
 ·intro h
  cases h with
  | base => rw [if_pos rfl]; omega
  | step r hp hm =>
   rename_i k p
   have hk := (List.getElem?_eq_some_iff.1 hp).1
   have := sum_pos (f := fun n' => if rchB L first n' = true then (waysN ((L[n']?).getD zeroP)).count n else 0) hk
   rw [if_pos (rchB_iff.2 r), hp] at this
   have h2 := List.count_pos_iff.2 hm
   simp only [Option.getD_some] at this
   omega
theorem WI_cnt {L : List PP} {first : Nat} (hw : WyL L) (hf : first < L.length) : WI L first (cntL L first) [] := by
 refine ⟨by simp [cntL], fun n hn => absurd hn (by simp), fun m hm => ?_⟩
 rw [wsN_cnt hm]
 unfold cntTo lvS
 rw [List.count_nil, Nat.add_zero]
 congr 2
 refine List.map_congr_left fun n hn => ?_
 have hnl := List.mem_range.1 hn
 unfold lvF ptN
 by_cases h : rchB L first n = true
 ·rw [if_pos h, if_pos ((cnt_rch hw hf hnl).2 h)]
 ·rw [if_neg h, if_neg (fun q => h ((cnt_rch hw hf hnl).1 q))]
theorem sum_bd {l : List Nat} {c : Nat} (h : ∀ x ∈ l, x ≤ c) : l.sum ≤ l.length * c := by
 induction l with
 | nil => simp
 | cons a l ih =>
  have h1 := h a (by simp)
  have h2 := ih fun x hx => h x (List.mem_cons_of_mem _ hx)
  rw [List.sum_cons, List.length_cons, Nat.succ_mul]
  omega
theorem cnt_sum {L : List PP} {first : Nat} (hL : L.length ≤ 1000) : (cntL L first).sum ≤ 3000000 := by
 have h := sum_bd (l := cntL L first) (c := 2001) fun x hx => by
  unfold cntL at hx
  obtain ⟨m, -, rfl⟩ := List.mem_map.1 hx
  have := cntTo_le L first m L.length
  omega
 have hl : (cntL L first).length = L.length := by simp [cntL]
 rw [hl] at h
 have := Nat.mul_le_mul_right 2001 hL
 omega
end Go.Proofs.Ytphknepblchkdaa.Fl

namespace Go.Proofs.Ytphknepblchkdaa.Fl
open Go.RowKit
open Go.Proofs.Ytphknepblchkdaa.In (zI zP zF zI_zI zP_zP cntS)
set_option linter.unusedVariables false

/-- lengthen, and what it leaves of blocks of another kind. -/
theorem lengthen2 (z0 z : World) (X : Jx) (S : Nat → Prop) (hS : ∀ b, z0.heap.size ≤ b → S b) (hSP : S X.P) (hSI : S X.I) (hSj : S X.jb) (first B k : Nat) (T : PI → Prop) (hN : X.N ≤ 1000) (hB : B ≤ 1000000) (hk : k < X.N) (pp : List PP) (s : Jn) (R : Nat → Rw) (hJ : JK X S z0 (pp.flatMap PP.cells) s.ws R z) (hjp : JP X pp R) (hrs : RS X S z0 R) (hji : JI pp s first B T) :
  Calls Try.prog 51 #[.pointer (some ⟨X.jb, 0, none⟩), .int .i64 (k : Int)] z fun e z' => e = .returned (.tuple #[]) ∧ LnZ X S z0 first B T (lngP s k) z' ∧ ∀ (b : Nat) (xs : Array Value) (f : Nat × Nat), z.heap[b]? = some (.cells xs 4 f) → z'.heap[b]? = some (.cells xs 4 f) := by
 have hz := hJ.fs.size
 have up : ∀ b, (b = X.P ∨ b = X.I ∨ b = X.jb ∨ (∃ j, j < X.N ∧ (R j).v.ownBlock = some b) ∨ z.heap.size ≤ b) → S b := fun b hb => by
  rcases hb with rfl | rfl | rfl | ⟨j, hj, hb⟩ | hb
  ·exact hSP
  ·exact hSI
  ·exact hSj
  ·rcases hrs j hj b hb with q | q
   ·exact q
   ·exact hS b q
  ·exact hS b (by omega)
 refine Calls.mono (lengthen_any z z X (fun b => b = X.P ∨ b = X.I ∨ b = X.jb ∨ (∃ j, j < X.N ∧ (R j).v.ownBlock = some b) ∨ z.heap.size ≤ b) (fun b hb => .inr (.inr (.inr (.inr hb)))) (.inl rfl) (.inr (.inl rfl)) (.inr (.inr (.inl rfl))) first B k T hN hB hk pp s R ⟨hJ.pb, hJ.wb, hJ.jb, hJ.sep, hJ.ty, Fs.refl _ _, hJ.lo⟩ hjp (fun j hj b hb => .inl (.inr (.inr (.inr (.inl ⟨j, hj, hb⟩))))) hji) ?_
 rintro e z' ⟨rfl, pp', R', j1, j2, j3, j4⟩
 refine ⟨rfl, ⟨pp', R', ⟨j1.pb, j1.wb, j1.jb, j1.sep, j1.ty, hJ.fs.trans (j1.fs.less (T := S) fun b hb => .inl (up b hb)), j1.lo⟩, j2, fun j hj b hb => ?_, j4⟩, fun b xs f hb => j1.fs.heap hb fun q => ?_⟩
 ·rcases j3 j hj b hb with q | q
  ·exact .inl (up b q)
  ·exact .inr (by omega)
 ·have hlt := (Array.getElem?_eq_some_iff.1 hb).1
  obtain ⟨mv, hjb⟩ := hJ.jb
  rcases q with rfl | rfl | rfl | ⟨j, hj, hb2⟩ | q
  ·rw [hJ.pb] at hb; injection hb with hb; injection hb with _ q; revert q; decide
  ·rw [hJ.wb] at hb; injection hb with hb; injection hb with _ q; revert q; decide
  ·rw [hjb] at hb; injection hb with hb; injection hb with _ q; revert q; decide
  ·unfold Rw.v at hb2
   cases e : (R j).a with
   | none => rw [e] at hb2; cases hb2
   | some a => rw [e] at hb2; injection hb2 with hb2; exact hJ.far hj e hb (by decide) hb2
  ·omega
theorem behB_succ (s : Jn) (k m : Nat) : behB s (k + 1) m = (behB s k m || (aloP s.ps s.ws k == some m)) := by
 unfold behB
 rw [List.range_succ, List.any_append]
 simp
def behL (s : Jn) (N k : Nat) : List Bool := (List.range N).map (behB s k)
theorem behL_get {s : Jn} {N k m : Nat} (h : m < N) : (behL s N k)[m]? = some (behB s k m) := by
 unfold behL
 rw [List.getElem?_map, List.getElem?_range h]; rfl
theorem behL_none {s : Jn} {N k : Nat} (h : aloP s.ps s.ws k = none) : behL s N k = behL s N (k + 1) := by
 unfold behL
 refine List.map_congr_left fun m _ => ?_
 rw [behB_succ, h]; simp
theorem behL_some {s : Jn} {N k n : Nat} (h : aloP s.ps s.ws k = some n) : (behL s N k).set n true = behL s N (k + 1) := by
 refine List.ext_getElem? fun m => ?_
 rw [List.getElem?_set]
 by_cases hm : m < N
 ·rw [behL_get hm, behL_get hm, behB_succ, h]
  split
  ·rename_i e; subst e; simp [behL, hm]
  ·rename_i e; simp [e]
 ·rw [List.getElem?_eq_none (l := behL s N (k + 1)) (by simp [behL]; omega)]
  split
  ·rename_i e; subst e; rw [if_neg (by simp [behL]; omega)]
  ·rw [List.getElem?_eq_none (by simp [behL]; omega)]
theorem behL_zero (s : Jn) (N : Nat) : behL s N 0 = List.replicate N false := by
 refine List.ext_getElem? fun m => ?_
 by_cases hm : m < N
 ·rw [behL_get hm, List.getElem?_replicate, if_pos hm]; rfl
 ·rw [List.getElem?_eq_none (by simp [behL]; omega), List.getElem?_eq_none (by simp; omega)]
end Go.Proofs.Ytphknepblchkdaa.Fl

namespace Go.Proofs.Ytphknepblchkdaa.Fl
open Go.RowKit
open Go.Proofs.Ytphknepblchkdaa.In (zI zP zF zI_zI zP_zP cntS)
set_option linter.unusedVariables false

theorem JK.alone {X : Jx} {S : Nat → Prop} {z0 W : World} {first B k : Nat} {T : PI → Prop} {pp : List PP} {s : Jn} {R : Nat → Rw} (h : JK X S z0 (pp.flatMap PP.cells) s.ws R W) (hjp : JP X pp R) (hji : JI pp s first B T) (hN : X.N ≤ 1000) (hk : k < X.N) :
  Calls Try.prog 50 #[.pointer (some ⟨X.jb, 0, none⟩), .int .i64 (k : Int)] W fun e w' => e = .returned (.tuple #[.int .i64 (((aloP s.ps s.ws k).getD 0 : Nat) : Int), .bool (aloP s.ps s.ws k).isSome]) ∧ Q W w' := by
 obtain ⟨p, hp⟩ := get_of_lt (l := pp) (k := k) (by rw [hjp.len]; exact hk)
 rw [hji.al k, alo1_P hp]
 obtain ⟨mv, hjb⟩ := h.jb
 have hw : Wy X.N p := by have := hji.wy' p (List.mem_of_getElem? hp); rwa [hjp.len] at this
 have hat : At W X.P (k * 5) p.cells := fun j hj => by
  rw [PP.len] at hj
  rw [cell_of_block h.pb (k * 5 + j)]
  simpa using flat_at PP.cells 5 PP.len pp k p j hp hj
 exact alone_any W X.jb X.P X.pc X.I X.ic X.N k s.ws p hk (by rw [hji.wi'.len, hjp.len]) hN hw hat ((cell_of_block hjb 0).trans rfl) ((cell_of_block hjb 1).trans rfl) (fun m v hm => by
  rw [cell_of_block h.wb m]
  simpa using NV_get hm)
/-- What join leaves. -/
def JoZ (P lo N : Nat) (S : Nat → Prop) (T : PI → Prop) (z0 : World) (L : List PP) (z' : World) : Prop :=
 ∃ (pp : List PP) (R : Nat → Rw), pp.map zP = L ∧ pp.length = N ∧ z'.heap[P]? = some (.cells (pp.flatMap PP.cells).toArray 47 (0, 0)) ∧ Sep z' (fun _ => lo) (fun k => k < N) R ∧ (∀ (k : Nat) (p : PP), pp[k]? = some p → (R k).ty = 49 ∧ (R k).sz = 7 ∧ (R k).n = p.ins.length ∧ (R k).xs = insC p.ins ∧ p.ia = (R k).a ∧ p.ic = (R k).c) ∧ (∀ j, j < N → ∀ b, (R j).v.ownBlock = some b → S b ∨ z0.heap.size ≤ b) ∧ Fs S z0 z' ∧ WyL pp ∧ ∀ p ∈ pp, p.ins.length ≤ 1000000 ∧ I64 p.cond ∧ ∀ x ∈ p.ins, I64 x.dst ∧ T x

set_option maxRecDepth 100000 in
set_option maxHeartbeats 8000000 in
theorem join_any (z0 : World) (lo P pc N B first : Nat) (S : Nat → Prop) (T : PI → Prop) (hSP : S P) (hN : N ≤ 1000) (hB : B ≤ 1000000) (pp : List PP) (R : Nat → Rw) (hL : pp.length = N) (hb : z0.heap[P]? = some (.cells (pp.flatMap PP.cells).toArray 47 (0, 0))) (hsep : Sep z0 (fun _ => lo) (fun k => k < N) R) (hty : ∀ k, k < N → (R k).ty = 49 ∧ (R k).sz = 7) (hrw : ∀ (k : Nat) (p : PP), pp[k]? = some p → (R k).n = p.ins.length ∧ (R k).xs = insC p.ins ∧ p.ia = (R k).a ∧ p.ic = (R k).c) (hlo : lo ≤ z0.heap.size) (hrs : ∀ j, j < N → ∀ b, (R j).v.ownBlock = some b → S b) (hgd : ∀ p ∈ pp, I64 p.cond ∧ ∀ x ∈ p.ins, I64 x.dst ∧ T x) (hml : ∀ p ∈ pp, p.ins.length ≤ B) (hwy : WyL pp) (hlv : lvL pp (cntL pp first) ≤ B) (hf : first < N) :
  Calls Try.prog 24 #[.slice (some ⟨P, 0, none⟩) N pc, .int .i64 (first : Int)] z0 fun e z' => e = .returned (.tuple #[]) ∧ JoZ P lo N S T z0 (joiL (pp.map zP) first) z' := by
 have hAt : ∀ (k : Nat) (p : PP), pp[k]? = some p → At z0 P (k * 5) p.cells := fun k p hp j hj => by
  rw [PP.len] at hj
  rw [cell_of_block hb (k * 5 + j)]
  simpa using flat_at PP.cells 5 PP.len pp k p j hp hj
 have CC := hideIt (countWays_any z0 P pc N pp hL hN hwy hAt first hf)
 have hmb := fun W => make_bool N (by omega) W
 have HI : Hid (JI pp ⟨pp.map zP, cntL (pp.map zP) first⟩ first B T) := by
  have hw' : WyL (pp.map zP) := fun p hp => by
   obtain ⟨p0, h0, rfl⟩ := List.mem_map.1 hp
   rw [List.length_map]
   exact ⟨(hwy p0 h0).nx, (hwy p0 h0).el⟩
  exact ⟨rfl, WI_cnt hw' (by simpa [hL] using hf), hw', cnt_sum (by simpa [hL] using hN), hgd, by rw [lvL_z, cntL_z]; exact hlv, hml⟩
 have HJ0 : Hid (∀ y I, Q z0 y → z0.heap.size ≤ I → y.heap[I]? = some (.cells (NV (cntL pp first)).toArray 3 (0, 0)) → ∀ y', Q (y.alloc (.cells #[.slice (some ⟨P, 0, none⟩) N pc, .slice (some ⟨I, 0, none⟩) N N, .map none] 103)) y' → JK ⟨lo, P, pc, I, N, y.heap.size, 0, N⟩ (fun b => S b ∨ z0.heap.size ≤ b) z0 (pp.flatMap PP.cells) (cntL (pp.map zP) first) R y') := fun y I q hI hc y' q2 => by
  have q3 := q.trans (((Q.refl y).alloc (.cells #[.slice (some ⟨P, 0, none⟩) N pc, .slice (some ⟨I, 0, none⟩) N N, .map none] 103)).trans q2)
  refine ⟨heap_keep q3 hb, ?_, ⟨none, heap_keep q2 (heap_alloc_new y _)⟩, hsep.q q3, hty, Fs.of_q q3, Nat.le_trans hlo q3.size⟩
  rw [cntL_z]
  exact heap_keep (((Q.refl y).alloc _).trans q2) hc
 have HP : Hid (JP ⟨lo, P, pc, 0, N, 0, 0, N⟩ pp R) := ⟨hL, hrw⟩
 have HR := hideIt hrs
 have HSP := hideIt hSP
 clear hb hsep hrw hrs hgd hml hwy hlv hAt hty hSP
 go_enter Try.func24, Try.ntmps24
 go_upto_region 2 with (first | (go_at_call 49; refine Calls.mono CC.out ?_; rintro e y ⟨I, rfl, hI, hc, hq⟩; have JQ := hideIt (HJ0.out y I hq hI hc); have HQ := hideIt hq; clear hc hq) | fail)
 clear hmb CC
 generalize hs : (⟨pp.map zP, cntL (pp.map zP) first⟩ : Jn) = s at *
 have hsw : cntL (pp.map zP) first = s.ws := by rw [← hs]
 have hjo : Hid (joiL (pp.map zP) first = (joiTo s N).ps) := by
  show joiL (pp.map zP) first = _
  unfold joiL
  rw [hs, List.length_map, hL]
 have hsl : Hid (s.ps.length = N) := by show s.ps.length = N; rw [← hs]; simpa using hL
 have J0 : Hid (∀ y', Q (y.alloc (.cells #[.slice (some ⟨P, 0, none⟩) N pc, .slice (some ⟨I, 0, none⟩) N N, .map none] 103)) y' → JK ⟨lo, P, pc, I, N, y.heap.size, 0, N⟩ (fun b => S b ∨ z0.heap.size ≤ b) z0 (pp.flatMap PP.cells) s.ws R y') := by
  have h := JQ
  rw [hsw] at h
  exact h
 clear JQ hsw HJ0
 generalize hj : y.heap.size = jb at *
 have hjl : z0.heap.size ≤ jb := by rw [← hj]; exact HQ.out.size
 have hzs : (y.alloc (.cells #[.slice (some ⟨P, 0, none⟩) N pc, .slice (some ⟨I, 0, none⟩) N N, .map none] 103)).heap.size = jb + 1 := by simp [hj]
 generalize y.alloc (.cells #[.slice (some ⟨P, 0, none⟩) N pc, .slice (some ⟨I, 0, none⟩) N N, .map none] 103) = z1 at *
 have hbz : (z1.alloc (.cells (Array.replicate N (.bool false)) 4)).heap[jb + 1]? = some (.cells ((behL s N 0).map Value.bool).toArray 4 (0, 0)) := by
  rw [← hzs, heap_alloc_new, behL_zero]
  congr 3
  simp
 have B0 : Hid (Q z1 (z1.alloc (.cells (Array.replicate N (.bool false)) 4)) ∧ (z1.alloc (.cells (Array.replicate N (.bool false)) 4)).heap[jb + 1]? = some (.cells ((behL s N 0).map Value.bool).toArray 4 (0, 0))) := ⟨(Q.refl z1).alloc _, hbz⟩
 generalize z1.alloc (.cells (Array.replicate N (.bool false)) 4) = z2 at *
 have hz1l : z1.heap.size ≤ jb + 1 := by omega
 clear hbz
 go_wp2_with (fail)
 go_loopw [6, 7, 8, 20] (fun v6 v7 v8 v z => ∃ k : Nat, v = .int .i64 k ∧ k ≤ N ∧ Hid (Q z1 z ∧ z.heap[jb + 1]? = some (.cells ((behL s N k).map Value.bool).toArray 4 (0, 0)))) (fun v6 v7 v8 v _ => N - (intOf v).toNat)
 case atStart => exact ⟨0, rfl, by omega, B0⟩
 case round =>
  obtain ⟨k, rfl, hk, B1⟩ := hrel
  generalize wr = z at *
  clear B0
  by_cases hlt : k < N
  ·have hki : (k : Int) < (N : Int) := by omega
   have CA := hideIt ((J0.out z B1.out.1).alone (k := k) ⟨HP.out.len, HP.out.rw⟩ HI.out hN hlt)
   dsimp only at CA
   cases ha : aloP s.ps s.ws k with
   | none =>
    rw [ha] at CA
    dsimp only [Option.getD, Option.isSome] at CA
    have E9 := hideIt (behL_none (N := N) ha)
    clear ha
    go_wp2_with (first | (go_at_call 50; refine Calls.mono CA.out ?_; rintro e y2 ⟨rfl, q⟩; have B2 : Hid (Q z1 y2 ∧ y2.heap[jb + 1]? = some (.cells ((behL s N (k + 1)).map Value.bool).toArray 4 (0, 0))) := ⟨B1.out.1.trans q, by rw [← E9.out]; exact heap_keep q B1.out.2⟩; clear q) | fail)
    go_roundw
    case rel => exact ⟨k + 1, by go_num, by omega, B2⟩
    case measure => simp [intOf]; omega
   | some n =>
    rw [ha] at CA
    dsimp only [Option.getD, Option.isSome] at CA
    have E9 := hideIt (behL_some (N := N) ha)
    have hnN : n < N := by
     obtain ⟨-, -, -, -, -, h1⟩ := aloP_inv ha
     have hl := HI.out.wi.len
     rw [hsl.out] at hl
     by_cases e : n < s.ws.length
     ·omega
     ·unfold wsN at h1; rw [List.getElem?_eq_none (by omega)] at h1; simp at h1
    have hni : (n : Int) < (N : Int) := by omega
    clear ha
    go_wp2_with (first | (go_at_call 50; refine Calls.mono CA.out ?_; rintro e y2 ⟨rfl, q⟩; have b3 := heap_keep q B1.out.2; have c3 : y2.cell? ⟨jb + 1, n, none⟩ = some (.bool (behB s k n)) := (by rw [cell_of_block b3 n]; simpa using behL_get (s := s) (k := k) hnN); have f3 := free_of_block b3 n; have B2 : Hid (Q z1 (y2.setCell ⟨jb + 1, n, none⟩ (.bool true)) ∧ (y2.setCell ⟨jb + 1, n, none⟩ (.bool true)).heap[jb + 1]? = some (.cells ((behL s N (k + 1)).map Value.bool).toArray 4 (0, 0))) := ⟨(B1.out.1.trans q).set (p := ⟨jb + 1, n, none⟩) hz1l _, by rw [block_setCell b3, ← E9.out, List.map_set]; simp only [List.setIfInBounds_toArray]⟩; clear q b3) | fail)
    go_roundw
    case rel => exact ⟨k + 1, by go_num, by omega, B2⟩
    case measure => simp [intOf]; omega
  ·have hki : ¬ (k : Int) < (N : Int) := by omega
   have hkN : k = N := by omega
   rw [hkN] at B1
   have L0 : Hid (LnZ ⟨lo, P, pc, I, N, jb, 0, N⟩ (fun b => S b ∨ z0.heap.size ≤ b) z0 first B T (joiTo s 0) z ∧ z.heap[jb + 1]? = some (.cells ((behL s N N).map Value.bool).toArray 4 (0, 0))) := ⟨⟨pp, R, J0.out z B1.out.1, ⟨HP.out.len, HP.out.rw⟩, fun j hj b hb => .inl (.inl (HR.out j hj b hb)), HI.out⟩, B1.out.2⟩
   go_wp2_with (fail)
   go_loopw [9, 35] (fun v9 v z => ∃ i : Nat, v = .int .i64 i ∧ i ≤ N ∧ Hid (LnZ ⟨lo, P, pc, I, N, jb, 0, N⟩ (fun b => S b ∨ z0.heap.size ≤ b) z0 first B T (joiTo s i) z ∧ z.heap[jb + 1]? = some (.cells ((behL s N N).map Value.bool).toArray 4 (0, 0)))) (fun v9 v _ => N - (intOf v).toNat)
   case atStart => exact ⟨0, rfl, by omega, L0⟩
   case round =>
    obtain ⟨i, rfl, hi, L1⟩ := hrel
    generalize wr = z3 at *
    clear L0 B1
    by_cases hlt2 : i < N
    ·have hii : (i : Int) < (N : Int) := by omega
     have cb : z3.cell? ⟨jb + 1, i, none⟩ = some (.bool (behB s N i)) := by
      rw [cell_of_block L1.out.2 i]
      simpa using behL_get (s := s) (k := N) hlt2
     have HT : Hid (joiTo s (i + 1) = if behB s N i = true then joiTo s i else lngP (joiTo s i) i) := by
      show joiTo s (i + 1) = _
      rw [← hsl.out]; rfl
     cases hbi : behB s N i with
     | true =>
      rw [hbi] at cb
      have e9 := HT.out
      rw [hbi, if_pos rfl] at e9
      have L2 := L1
      rw [← e9] at L2
      clear e9 HT hbi
      go_wp2_with (fail)
      go_roundw
      case rel => exact ⟨i + 1, by go_num, by omega, L2⟩
      case measure => simp [intOf]; omega
     | false =>
      rw [hbi] at cb
      have e9 := HT.out
      rw [hbi, if_neg (by simp)] at e9
      have CLn : Hid (Calls Try.prog 51 #[.pointer (some ⟨jb, 0, none⟩), .int .i64 (i : Int)] z3 fun e z' => e = .returned (.tuple #[]) ∧ LnZ ⟨lo, P, pc, I, N, jb, 0, N⟩ (fun b => S b ∨ z0.heap.size ≤ b) z0 first B T (joiTo s (i + 1)) z' ∧ ∀ (b : Nat) (xs : Array Value) (f : Nat × Nat), z3.heap[b]? = some (.cells xs 4 f) → z'.heap[b]? = some (.cells xs 4 f)) := by
       obtain ⟨pp1, R1, a1, a2, a3, a4⟩ := L1.out.1
       show Calls _ _ _ _ _
       rw [e9]
       exact lengthen2 z0 z3 ⟨lo, P, pc, I, N, jb, 0, N⟩ (fun b => S b ∨ z0.heap.size ≤ b) (fun b hb => .inr hb) (.inl HSP.out) (.inr hI) (.inr hjl) first B i T hN hB hlt2 pp1 (joiTo s i) R1 a1 a2 a3 a4
      clear e9 HT hbi
      go_wp2_with (first | (go_at_call 51; refine Calls.mono CLn.out ?_; rintro e y2 ⟨rfl, h1, h2⟩; have L2 : Hid (LnZ ⟨lo, P, pc, I, N, jb, 0, N⟩ (fun b => S b ∨ z0.heap.size ≤ b) z0 first B T (joiTo s (i + 1)) y2 ∧ y2.heap[jb + 1]? = some (.cells ((behL s N N).map Value.bool).toArray 4 (0, 0))) := ⟨h1, h2 _ _ _ L1.out.2⟩; clear h1 h2) | fail)
      go_roundw
      case rel => exact ⟨i + 1, by go_num, by omega, L2⟩
      case measure => simp [intOf]; omega
    ·have hii : ¬ (i : Int) < (N : Int) := by omega
     have hiN : i = N := by omega
     rw [hiN] at L1
     go_wp2_with (fail)
     go_end0
     refine ⟨rfl, ?_⟩
     obtain ⟨pp1, R1, a1, a2, a3, a4⟩ := L1.out.1
     rw [hjo.out]
     exact ⟨pp1, R1, a4.z, a2.len, a1.pb, a1.sep, fun k p hp => by
      have hk := (List.getElem?_eq_some_iff.1 hp).1
      rw [a2.len] at hk
      obtain ⟨r1, r2, r3, r4⟩ := a2.rw k p hp
      exact ⟨(a1.ty k hk).1, (a1.ty k hk).2, r1, r2, r3, r4⟩, fun j hj b hb => by
      rcases a3 j hj b hb with (q | q) | q
      ·exact .inl q
      ·exact .inr q
      ·exact .inr q, a1.fs.less (T := S) fun b hb => hb, a4.wy', fun p hp => ⟨Nat.le_trans (a4.ml p hp) hB, a4.gd p hp⟩⟩
end Go.Proofs.Ytphknepblchkdaa.Fl
