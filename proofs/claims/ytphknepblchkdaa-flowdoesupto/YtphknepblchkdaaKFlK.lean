/-
 Which parts are reached (reached of flow): a contract over the program; the conditions: the parts lie in memory, their ways lead to parts, there are a thousand at most.
 The parts that are reached, in order (inOrder of flow): a contract over the program; the conditions: the parts lie in memory, their ways lead to parts, there are a thousand at most.
-/
import Derived.Test.YtphknepblchkdaaKFlH
import Derived.Deep.LoopGhost
import Derived.Deep.Cut
namespace Go.Proofs.Ytphknepblchkdaa.Fl
open Go.RowKit
set_option linter.unusedVariables false

/-! ### Plainly -/
structure RI (L : List PP) (first : Nat) (B : List Bool) (W : List Nat) (op : Nat → Nat → Prop) : Prop where
 len : B.length = L.length
 r : ∀ n : Nat, B[n]? = some true → Rch L first n
 f : B[first]? = some true
 w : ∀ n ∈ W, B[n]? = some true
 c : ∀ (n m : Nat) (p : PP), B[n]? = some true → L[n]? = some p → m ∈ waysN p → B[m]? = some true ∨ n ∈ W ∨ op n m
theorem RI.done {L : List PP} {first : Nat} {B : List Bool} (h : RI L first B [] (fun _ _ => False)) (hw : WyL L) (hf : first < L.length) : B = rchL L first := by
 have key : ∀ n, Rch L first n → B[n]? = some true := fun n hn => by
  induction hn with
  | base => exact h.f
  | step r hp hm ih =>
   rcases h.c _ _ _ ih hp hm with q | q | q
   ·exact q
   ·cases q
   ·exact q.elim
 refine List.ext_getElem? fun n => ?_
 unfold rchL
 rw [List.getElem?_map]
 by_cases hn : n < L.length
 ·rw [List.getElem?_range hn, Option.map_some]
  obtain ⟨b, hb⟩ := get_of_lt (l := B) (k := n) (by rw [h.len]; exact hn)
  rw [hb]
  cases b with
  | true => rw [rchB_iff.2 (h.r n hb)]
  | false =>
   cases e : rchB L first n with
   | false => rfl
   | true => have := key n (rchB_iff.1 e); rw [hb] at this; cases this
 ·rw [List.getElem?_eq_none (by rw [h.len]; omega), List.getElem?_eq_none (by simp; omega)]; rfl
def cntF (B : List Bool) : Nat := B.countP (· == false)
theorem cntF_set : ∀ (B : List Bool) (m : Nat), B[m]? = some false → cntF (B.set m true) + 1 = cntF B
 | [], m, h => by simp at h
 | b :: B, 0, h => by simp at h; subst h; simp [cntF]
 | b :: B, m + 1, h => by
  have := cntF_set B m (by simpa using h)
  unfold cntF at this ⊢
  simp only [List.set_cons_succ, List.countP_cons] at this ⊢
  omega
theorem RI.pop {L : List PP} {first n : Nat} {B : List Bool} {W : List Nat} (h : RI L first B (W ++ [n]) (fun _ _ => False)) : RI L first B W (fun k m => k = n) :=
 ⟨h.len, h.r, h.f, fun k hk => h.w k (List.mem_append_left _ hk), fun k m p h1 h2 h3 => by
  rcases h.c k m p h1 h2 h3 with q | q | q
  ·exact .inl q
  ·rcases List.mem_append.1 q with q | q
   ·exact .inr (.inl q)
   ·simp at q; exact .inr (.inr q)
  ·exact q.elim⟩
/-- Of the ways of n the first j are reached. -/
theorem RI.push {L : List PP} {first n j m : Nat} {p : PP} {B : List Bool} {W : List Nat} (h : RI L first B W (fun k x => k = n ∧ x ∈ (waysN p).drop j)) (hb : B[n]? = some true) (hp : L[n]? = some p) (hj : (waysN p)[j]? = some m) (hm : B[m]? = some false) : RI L first (B.set m true) (W ++ [m]) (fun k x => k = n ∧ x ∈ (waysN p).drop (j + 1)) := by
 have hml := (List.getElem?_eq_some_iff.1 hm).1
 have up : ∀ k : Nat, B[k]? = some true → (B.set m true)[k]? = some true := fun k hk => by
  rw [List.getElem?_set]
  split
  ·rename_i e; subst e; first | rfl | rw [if_pos hml]
  ·exact hk
 have dn : ∀ k : Nat, (B.set m true)[k]? = some true → k = m ∨ B[k]? = some true := fun k hk => by
  rw [List.getElem?_set] at hk
  split at hk
  ·rename_i e; exact .inl e.symm
  ·exact .inr hk
 have hr : Rch L first m := (h.r n hb).step hp (List.mem_of_getElem? hj)
 refine ⟨by simp [h.len], fun k hk => ?_, up _ h.f, fun k hk => ?_, fun k x q h1 h2 h3 => ?_⟩
 ·rcases dn k hk with rfl | e
  ·exact hr
  ·exact h.r k e
 ·rcases List.mem_append.1 hk with hk | hk
  ·exact up _ (h.w k hk)
  ·simp at hk; subst hk; rw [List.getElem?_set_self hml]
 ·rcases dn k h1 with rfl | e
  ·exact .inr (.inl (by simp))
  ·rcases h.c k x q e h2 h3 with q1 | q1 | ⟨q1, q2⟩
   ·exact .inl (up _ q1)
   ·exact .inr (.inl (List.mem_append_left _ q1))
   ·rw [List.drop_eq_getElem_cons (List.getElem?_eq_some_iff.1 hj).1] at q2
    rcases List.mem_cons.1 q2 with q3 | q3
    ·rw [(List.getElem?_eq_some_iff.1 hj).2] at q3
     subst q3
     exact .inl (List.getElem?_set_self hml)
    ·exact .inr (.inr ⟨q1, q3⟩)
theorem RI.skip {L : List PP} {first n j m : Nat} {p : PP} {B : List Bool} {W : List Nat} (h : RI L first B W (fun k x => k = n ∧ x ∈ (waysN p).drop j)) (hj : (waysN p)[j]? = some m) (hm : B[m]? = some true) : RI L first B W (fun k x => k = n ∧ x ∈ (waysN p).drop (j + 1)) :=
 ⟨h.len, h.r, h.f, h.w, fun k x q h1 h2 h3 => by
  rcases h.c k x q h1 h2 h3 with q1 | q1 | ⟨q1, q2⟩
  ·exact .inl q1
  ·exact .inr (.inl q1)
  ·rw [List.drop_eq_getElem_cons (List.getElem?_eq_some_iff.1 hj).1] at q2
   rcases List.mem_cons.1 q2 with q3 | q3
   ·rw [(List.getElem?_eq_some_iff.1 hj).2] at q3
    subst q3
    exact .inl hm
   ·exact .inr (.inr ⟨q1, q3⟩)⟩
theorem RI.op {L : List PP} {first : Nat} {B : List Bool} {W : List Nat} {o o' : Nat → Nat → Prop} (h : RI L first B W o) (ho : ∀ k m p, L[k]? = some p → m ∈ waysN p → o k m → o' k m) : RI L first B W o' :=
 ⟨h.len, h.r, h.f, h.w, fun k x q h1 h2 h3 => (h.c k x q h1 h2 h3).imp id (fun e => e.imp id (ho k x q h2 h3))⟩

/-! ### In memory -/
theorem infoBool : (Try.prog.info? 4).map (fun i => (i.zero, i.size, i.bytes)) = some (some (.bool false), 1, 1) := by kernel_rfl
theorem uBool : Try.prog.underlying 51 = some (.slice 4) := by kernel_rfl
theorem make_bool (N : Nat) (hN : N ≤ 1000000) (X : World) : (Instr.makeSlice 51 (.int .i64 (N : Int)) (.int .i64 (N : Int))).run Try.prog X = .ok (.slice (some ⟨X.heap.size, 0, none⟩) N N) (X.alloc (.cells (Array.replicate N (.bool false)) 4)) := make_one uBool infoBool rfl (by omega) N hN X
structure RcW (w : World) (I : Nat) (B : List Bool) (wa : Option Addr) (wc : Nat) (W : List Nat) (z : World) : Prop where
 q : Q w z
 hI : w.heap.size ≤ I
 is : z.heap[I]? = some (.cells (B.map Value.bool).toArray 4 (0, 0))
 wk : z.ownsRow w.heap.size 3 1 (.slice wa W.length wc) W.length (NV W)
 ne : ∀ a, wa = some a → a.block ≠ I
section
variable {w z z' : World} {I : Nat} {B : List Bool} {wa : Option Addr} {wc : Nat} {W : List Nat}
theorem RcW.keep (h : RcW w I B wa wc W z) (q : Q z z') : RcW w I B wa wc W z' :=
 ⟨h.q.trans q, h.hI, heap_keep q h.is, row_kp h.wk fun k hk => q.block k (h.wk.lt k hk).2, h.ne⟩
theorem RcW.cell (h : RcW w I B wa wc W z) {m : Nat} {b : Bool} (hm : B[m]? = some b) : z.cell? ⟨I, m, none⟩ = some (.bool b) ∧ z.frozen? ⟨I, m, none⟩ = false := by
 refine ⟨?_, free_of_block h.is m⟩
 rw [cell_of_block h.is m]
 simp [hm]
theorem RcW.set (h : RcW w I B wa wc W z) (m : Nat) : RcW w I (B.set m true) wa wc W (z.setCell ⟨I, m, none⟩ (.bool true)) := by
 refine ⟨h.q.set (p := ⟨I, m, none⟩) h.hI _, h.hI, ?_, row_kp h.wk fun k hk => Below.heap_setCell _ _ _ _ fun e => ?_, h.ne⟩
 ·rw [block_setCell h.is]
  congr 2
  simp [List.map_set]
 ·cases ea : wa with
  | none => rw [ea] at hk; cases hk
  | some a => rw [ea] at hk; injection hk with hk; exact h.ne a ea (hk.trans e)
theorem RcW.last {m : Nat} {V : List Nat} (h : RcW w I B wa wc (V ++ [m]) z) : ∃ g, wa = some ⟨g, 0, none⟩ ∧ z.cell? ⟨g, V.length, none⟩ = some (.int .i64 (m : Int)) ∧ V.length + 1 ≤ wc ∧ RcW w I B wa wc V z := by
 have hl : (V ++ [m]).length = V.length + 1 := by simp
 cases ea : wa with
 | none =>
  have := h.wk
  rw [ea] at this
  have := (own_none this).1
  omega
 | some a =>
  obtain ⟨e1, e2, e3, -, e5, e6, cur, e7, e8, e9⟩ := own_addr h.wk ea
  have h1 := h.wk
  rw [ea, e1] at h1
  refine ⟨a.block, by rw [← e1], ?_, by omega, ⟨h.q, h.hI, h.is, ?_, by rw [← ea]; exact h.ne⟩⟩
  ·rw [h1.cellAt V.length (by omega), NV_app]
   rw [List.getElem?_append_right (by rw [NV_len]; exact Nat.le_refl _), NV_len, Nat.sub_self]; rfl
  ·refine ⟨by rw [NV_len, Nat.mul_one], .inr ⟨a.block, wc, cur, by rw [← e1], e2, e7, by omega, e6, e8, ?_⟩⟩
   have h3 : (cur.toList.take ((V ++ [m]).length * 1)).take (V.length * 1) = (NV (V ++ [m])).take (V.length * 1) := by rw [e9]
   rw [List.take_take, Nat.min_eq_left (by omega)] at h3
   rw [h3, NV_app, Nat.mul_one, ← NV_len V, List.take_left]
theorem RcW.app (h : RcW w I B wa wc W z) (hW : W.length ≤ 10000000) {Y : World} (q : Q z Y) (l : List Nat) (hl10 : l.length ≤ 1000) {na : Option Addr} {nc : Nat} (hl : (l = [] ∧ na = none ∧ nc = 0) ∨ (∃ g, na = some ⟨g, 0, none⟩ ∧ ∀ j u, (NV l)[j]? = some u → Y.cell? ⟨g, j, none⟩ = some u)) (ty : TypeId) :
  ∃ a5 c5 w5, (Builtin.append_ #[22, 22] ty #[.slice wa W.length wc, .slice na l.length nc]).run Try.prog Y = .ok (.slice a5 (W.length + l.length) c5) w5 ∧ RcW w I B a5 c5 (W ++ l) w5 := by
 have hY := h.keep q
 obtain ⟨a5, c5, w5, r5, g5⟩ := app_any (r := ⟨wa, W.length, wc, 3, 1, NV W⟩) hY.wk rfl rfl l na nc hl (by show W.length + _ ≤ _; omega) hY.q.size ty
 have hIl : I < Y.heap.size := (Array.getElem?_eq_some_iff.1 hY.is).1
 have own : ∀ b, (Value.slice wa W.length wc).ownBlock = some b → b ≠ I ∧ w.heap.size ≤ b := fun b hb => by
  refine ⟨fun e => ?_, (hY.wk.lt b hb).1⟩
  cases ea : wa with
  | none => rw [ea] at hb; cases hb
  | some a => rw [ea] at hb; injection hb with hb; exact h.ne a ea (hb.trans e)
 have hg := g5.g
 refine ⟨a5, c5, w5, r5, ⟨⟨hg.os.trans hY.q.os, hg.tape.trans hY.q.tape, hg.output.trans hY.q.output, Nat.le_trans hY.q.size hg.size, fun k hk => (hg.block k (Nat.lt_of_lt_of_le hk hY.q.size) (fun e => by have := (own k e.symm).2; omega)).trans (hY.q.block k hk)⟩, h.hI, (hg.block I hIl (fun e => (own I e.symm).1 rfl)).trans hY.is, ?_, fun a ha e => ?_⟩⟩
 ·have := g5.own
  rw [List.length_append, NV_app]
  exact this
 ·rcases g5.at' a ha with q1 | q1
  ·exact (own _ q1).1 e
  ·omega
end

/-- What ways has answered lies apart from the work. -/
structure NsA (wy wa : Option Addr) (I : Nat) (l : List Nat) (z : World) : Prop where
 ns : Ns z wy l
 ap : ∀ g, wy = some ⟨g, 0, none⟩ → (∀ a, wa = some a → a.block ≠ g) ∧ g ≠ I
theorem ns_a {wy wa : Option Addr} {I : Nat} {l : List Nat} {z : World} (h : Ns z wy l) (ha : ∀ g, wy = some ⟨g, 0, none⟩ → (∀ a, wa = some a → a.block ≠ g) ∧ g ≠ I) : NsA wy wa I l z := ⟨h, ha⟩
theorem NsA.ex {wy wa : Option Addr} {I : Nat} {l : List Nat} {z : World} (h : NsA wy wa I l z) (hl : l ≠ []) : ∃ g, wy = some ⟨g, 0, none⟩ ∧ ∀ j u, (NV l)[j]? = some u → z.cell? ⟨g, j, none⟩ = some u := by
 rcases h.ns with ⟨e, -⟩ | ⟨-, g, e, h⟩
 ·exact absurd e hl
 ·exact ⟨g, e, h⟩
theorem RcW.app2 {w z0 z : World} {I : Nat} {B : List Bool} {wa wy : Option Addr} {wc : Nat} {W l : List Nat} (h : RcW w I B wa wc W z) (hW : W.length ≤ 10000000) (hN : NsA wy wa I l z0) {Y : World} (q : Q z Y) (m : Nat) {t : Nat} (ht : Y.cell? ⟨t, 0, none⟩ = some (.int .i64 (m : Int))) (hz : ∀ k, k < z0.heap.size → k ≠ I → z.heap[k]? = z0.heap[k]?) (hzs : z0.heap.size ≤ z.heap.size) (ty : TypeId) :
  ∃ a5 c5 w5, (Builtin.append_ #[22, 22] ty #[.slice wa W.length wc, .slice (some ⟨t, 0, none⟩) 1 1]).run Try.prog Y = .ok (.slice a5 (W.length + 1) c5) w5 ∧ RcW w I B a5 c5 (W ++ [m]) w5 ∧ NsA wy a5 I l w5 := by
 have hY := h.keep q
 obtain ⟨a5, c5, w5, r5, g5⟩ := app_any (r := ⟨wa, W.length, wc, 3, 1, NV W⟩) hY.wk rfl rfl [m] (some ⟨t, 0, none⟩) 1 (.inr ⟨t, rfl, one_new ht⟩) (by show W.length + 1 ≤ _; omega) hY.q.size ty
 obtain ⟨b5, d5, v5, r6, h6⟩ := h.app hW q [m] (by simp) (na := some ⟨t, 0, none⟩) (nc := 1) (.inr ⟨t, rfl, one_new ht⟩) ty
 have e : (Result.ok (.slice a5 (W.length + 1) c5) w5 : Result Value) = .ok (.slice b5 (W.length + 1) d5) v5 := r5.symm.trans r6
 injection e with e1 e2
 injection e1 with e1 _ e3
 subst e1; subst e2; subst e3
 refine ⟨a5, c5, w5, r5, h6, ?_, fun g hg => ⟨fun a ha => ?_, (hN.ap g hg).2⟩⟩
 ·rcases hN.ns with ⟨e, e'⟩ | ⟨e, g, e', hc⟩
  ·exact .inl ⟨e, e'⟩
  ·refine .inr ⟨e, g, e', fun j u hu => ?_⟩
   have h0 := hc j u hu
   have hgl : g < z0.heap.size := World.block_lt_of_cell? z0 _ h0
   obtain ⟨p1, p2⟩ := hN.ap g e'
   have h1 : z.cell? ⟨g, j, none⟩ = some u := (World.cell?_of_block (a := ⟨g, j, none⟩) (hz g hgl p2)).trans h0
   refine g5.g.cell (cell_keep q h1) fun e9 => ?_
   cases ea : wa with
   | none => rw [ea] at e9; cases e9
   | some a => rw [ea] at e9; injection e9 with e9; exact p1 a ea e9.symm
 ·rcases g5.at' a ha with q1 | q1
  ·cases ea : wa with
   | none => rw [ea] at q1; cases q1
   | some b =>
    rw [ea] at q1
    have q2 : b.block = a.block := by injection q1
    rw [← q2]
    exact (hN.ap g hg).1 b ea
  ·rcases hN.ns with ⟨e, e'⟩ | ⟨e, g', e', hc⟩
   ·rw [e'] at hg; cases hg
   ·rw [e'] at hg
    injection hg with hg
    injection hg with hg
    subst hg
    obtain ⟨n, hn⟩ : ∃ n, l[0]? = some n := get_of_lt (List.length_pos_iff.2 e)
    have := World.block_lt_of_cell? z0 _ (hc 0 _ (NV_get hn))
    have h2 := q.size
    dsimp only at this
    omega

set_option maxRecDepth 100000 in
theorem ways_any2 (w : World) (b o n : Nat) (p : PP) (h : At w b o p.cells) (hw : Wy n p) : Calls Try.prog 65 #[.pointer (some ⟨b, o, none⟩)] w fun e w' => ∃ a, e = .returned (.slice a (waysN p).length (waysN p).length) ∧ Ns w' a (waysN p) ∧ Q w w' ∧ ∀ g, a = some ⟨g, 0, none⟩ → w.heap.size ≤ g := by
 obtain ⟨c0, c1, c2, c3, c4⟩ := h.five
 unfold waysN
 clear h
 cases he : p.e
 ·obtain ⟨n1, n2⟩ := hw.nx he
  obtain ⟨nx, hnx⟩ : ∃ nx : Nat, p.next = (nx : Int) := ⟨p.next.toNat, by omega⟩
  rw [hnx, Int.toNat_natCast]
  rw [hnx] at c3
  rw [he] at c1
  by_cases hc : p.cond < 0
  ·have hd : decide (p.cond < 0) = true := by simpa using hc
   rw [if_neg (by simp), if_pos hc]
   clear hw n1 n2 hnx hc
   go_enter Try.func65, Try.ntmps65
   go_wp2_with (fail)
   go_ret
   refine ⟨_, rfl, .inr ⟨by simp, w.heap.size, rfl, fun j u hj => ?_⟩, (Q.refl w).alloc _, fun g e => by injection e with e; injection e with e; omega⟩
   have e := cell_of_block (heap_alloc_new w (.cells #[.int .i64 (nx : Int)] 3)) j
   rw [e]
   simpa [NV, nv] using hj
  ·have hd : decide (p.cond < 0) = false := by simpa using hc
   obtain ⟨m1, m2⟩ := hw.el he (by omega)
   obtain ⟨el, hel⟩ : ∃ el : Nat, p.els = (el : Int) := ⟨p.els.toNat, by omega⟩
   rw [hel, Int.toNat_natCast, if_neg (by simp), if_neg hc]
   rw [hel] at c4
   clear hw n1 n2 m1 m2 hnx hel hc
   have HL : Hid (∀ X : World, X.heap = w.heap → X.os = w.os → X.tape = w.tape → X.output = w.output → Ns (X.alloc (.cells #[.int .i64 (nx : Int), .int .i64 (el : Int)] 3)) (some ⟨X.heap.size, 0, none⟩) [nx, el] ∧ Q w (X.alloc (.cells #[.int .i64 (nx : Int), .int .i64 (el : Int)] 3))) := fun X x0 x1 x2 x3 => ⟨.inr ⟨by simp, X.heap.size, rfl, fun j u hj => by
    have e := cell_of_block (heap_alloc_new X (.cells #[.int .i64 (nx : Int), .int .i64 (el : Int)] 3)) j
    rw [e]
    simpa [NV, nv] using hj⟩, (show Q w X from ⟨x1, x2, x3, by rw [x0]; exact Nat.le_refl _, fun k _ => by rw [x0]⟩).alloc _⟩
   go_enter Try.func65, Try.ntmps65
   go_wp2_with (fail)
   go_region
   all_goals go_wp2_with (fail)
   all_goals go_ret
   all_goals (obtain ⟨k1, k2⟩ := HL.out w.drew rfl rfl rfl rfl; exact ⟨_, rfl, k1, k2, fun g e => by injection e with e; injection e with e; rw [← e]; exact Nat.le_refl _⟩)
 ·rw [he] at c1
  rw [if_pos rfl]
  clear hw
  go_enter Try.func65, Try.ntmps65
  go_wp2_with (fail)
  go_ret
  exact ⟨_, rfl, .inl ⟨rfl, rfl⟩, Q.refl w, fun g e => by cases e⟩

set_option maxRecDepth 100000 in
set_option maxHeartbeats 4000000 in
theorem reached_any (w : World) (P pc N : Nat) (L : List PP) (hL : L.length = N) (hN : N ≤ 1000) (hw : WyL L) (hP : ∀ (k : Nat) (p : PP), L[k]? = some p → At w P (k * 5) p.cells) (first : Nat) (hf : first < N) :
  Calls Try.prog 52 #[.slice (some ⟨P, 0, none⟩) N pc, .int .i64 (first : Int)] w fun e w' => ∃ I, e = .returned (.slice (some ⟨I, 0, none⟩) N N) ∧ w.heap.size ≤ I ∧ w'.heap[I]? = some (.cells ((rchL L first).map Value.bool).toArray 4 (0, 0)) ∧ Q w w' := by
 have hmb := fun W => make_bool N (by omega) W
 have HP := hideIt hP
 have HL := hideIt hL
 have HW := hideIt hw
 have hfi : (first : Int) < (N : Int) := by omega
 have hfN : N ≤ 1000000 := by omega
 obtain ⟨w1, hw1⟩ : ∃ w1, w.alloc (.cells (Array.replicate N (.bool false)) 4) = w1 := ⟨_, rfl⟩
 have hz1 : w1.heap.size = w.heap.size + 1 := by rw [← hw1]; simp
 have b1 : w1.heap[w.heap.size]? = some (.cells ((List.replicate N false).map Value.bool).toArray 4 (0, 0)) := by
  rw [← hw1, heap_alloc_new]
  congr 3
  simp
 have R0 : Hid (RcW w w.heap.size (List.replicate N false) none 0 [] w1) := ⟨by rw [← hw1]; exact (Q.refl w).alloc _, Nat.le_refl _, b1, World.ownsRow_nil _ _ _ _, fun a e => by cases e⟩
 obtain ⟨c1, f1⟩ := R0.out.cell (m := first) (b := false) (by rw [List.getElem?_replicate, if_pos hf])
 have S1 := hideIt (R0.out.set first)
 have HF := hideIt hf
 have HW1 := hideIt hw1
 clear hP hL hw b1 hw1 hf
 go_enter Try.func52, Try.ntmps52
 go_upto_region 2 with (fail)
 rw [show w.alloc (.cells (Array.replicate N (.bool false)) 4) = w1 from HW1.out]
 clear hmb
 go_wp2_with (fail)
 obtain ⟨w2, hw2⟩ : ∃ w2, w1.setCell ⟨w.heap.size, first, none⟩ (.bool true) = w2 := ⟨_, rfl⟩
 rw [hw2] at S1 ⊢
 have hs2 : w2.heap.size = w.heap.size + 1 := by rw [← hw2, World.size_setCell, hz1]
 have R1 : Hid (RcW w w.heap.size ((List.replicate N false).set first true) (some ⟨w.heap.size + 1, 0, none⟩) 1 [first] (w2.alloc (.cells #[.int .i64 (first : Int)] 3))) := by
  have h := S1.out.keep ((Q.refl w2).alloc (.cells #[.int .i64 (first : Int)] 3))
  refine ⟨h.q, h.hI, h.is, own_blk (n := 1) (sz := 1) (by rw [← hs2]; exact heap_alloc_new w2 _) (by omega) rfl (by omega), fun a e q => ?_⟩
  injection e with e; subst e
  have := (Array.getElem?_eq_some_iff.1 S1.out.is).1
  dsimp only at q
  omega
 have I1 : Hid (RI L first ((List.replicate N false).set first true) [first] (fun _ _ => False)) := by
  have hg : ∀ n : Nat, ((List.replicate N false).set first true)[n]? = some true → n = first := fun n hn => by
   rw [List.getElem?_set] at hn
   split at hn
   ·rename_i e; exact e.symm
   ·rw [List.getElem?_replicate] at hn
    split at hn <;> simp at hn
  exact ⟨by simp [HL.out], fun n hn => by rw [hg n hn]; exact Rch.base, List.getElem?_set_self (by simpa using HF.out), fun n hn => by simp at hn; subst hn; exact List.getElem?_set_self (by simpa using HF.out), fun n m p h1 _ _ => .inr (.inl (by rw [hg n h1]; simp))⟩
 have hB0 : cntF ((List.replicate N false).set first true) ≤ N := by
  unfold cntF
  have := List.countP_le_length (p := (· == false)) (l := (List.replicate N false).set first true)
  simpa using this
 generalize hz2 : w2.alloc (.cells #[.int .i64 (first : Int)] 3) = z0 at *
 generalize (List.replicate N false).set first true = B0 at *
 clear S1 hw2 hz2 c1 f1 R0 HW1 hz1 hs2
 go_loopg [6] (3 * N + 2) (fun kx v z => ∃ (B : List Bool) (W : List Nat) (wa : Option Addr) (wc : Nat), v = .slice wa W.length wc ∧ 3 * cntF B + W.length < kx ∧ kx ≤ 3 * N + 2 ∧ Hid (RcW w w.heap.size B wa wc W z) ∧ Hid (RI L first B W (fun _ _ => False)))
 case atStart => exact ⟨B0, [first], _, 1, rfl, by simp; omega, by omega, R1.out, I1.out⟩
 case round =>
  obtain ⟨B, W, wa, wc, rfl, hmu, hkx, R2, I2⟩ := hrel
  generalize wr = z at *
  clear R1 I1 hB0
  rcases List.eq_nil_or_concat W with rfl | ⟨V, n, hW⟩
  ·have e9 := I2.out.done HW.out (by rw [HL.out]; exact HF.out)
   go_wp2_with (fail)
   go_ret
   exact ⟨w.heap.size, rfl, Nat.le_refl _, by rw [← e9]; exact R2.out.is, R2.out.q⟩
  ·rw [List.concat_eq_append] at hW
   subst hW
   obtain ⟨g, rfl, hl, hwc, R3⟩ := R2.out.last
   have R3' := hideIt R3
   have hbn := I2.out.w n (by simp)
   have hnN : n < N := by have := (List.getElem?_eq_some_iff.1 hbn).1; rw [I2.out.len, HL.out] at this; exact this
   obtain ⟨p, hp⟩ := get_of_lt (l := L) (k := n) (by rw [HL.out]; exact hnN)
   have hwy : Wy N p := by have := HW.out p (List.mem_of_getElem? hp); rwa [HL.out] at this
   have CW := hideIt (fun (y : World) (hy : Q w y) => ways_any2 y P (n * 5) N p ((HP.out n p hp).keep hy) hwy)
   have HWm := hideIt hwy.ways
   have I3 := hideIt (I2.out.pop)
   have hlen : (V ++ [n]).length = V.length + 1 := by simp
   have hvb : V.length + 1 ≤ 10000 := by omega
   have hni : (n : Int) < (N : Int) := by omega
   have hvi : (V.length : Int) ≤ (wc : Int) := by omega
   have HMU := hideIt (show 3 * cntF B + (V.length + 1) < gk by rw [hlen] at hmu; exact hmu)
   have HKX := hideIt hkx
   have HB := hideIt hbn
   have HPn := hideIt hp
   rw [hlen]
   clear R2 I2 R3 hbn hp hwy hmu hkx hlen
   go_wp2_with (first | (go_at_call 65; refine Calls.mono (CW.out _ R3'.out.q) ?_; rintro e y ⟨wy, rfl, hn, hq, hgn⟩; have HN : Hid (NsA wy (some ⟨g, 0, none⟩) w.heap.size (waysN p) y) := (ns_a hn (fun g2 e2 => by have := hgn g2 e2; have h5 := R3'.out.wk.lt g rfl; have h6 := (Array.getElem?_eq_some_iff.1 R3'.out.is).1; exact ⟨fun a ea => (by injection ea with ea; subst ea; dsimp only; omega), by omega⟩)); have R4 := hideIt (R3'.out.keep hq); clear hn hq hgn) | fail)
   have hwl : (waysN p).length ≤ 2 := by unfold waysN; split; simp; split <;> simp
   have I4 : Hid (RI L first B V (fun k x => k = n ∧ x ∈ (waysN p).drop 0)) := I3.out.op fun k x q h1 h2 h3 => by
    subst h3
    rw [show L[k]? = some p from HPn.out] at h1
    injection h1 with h1
    subst h1
    exact ⟨rfl, by simpa using h2⟩
   clear I3
   go_loopw [6, 9, 37] (fun v6 v9 v37 z => ∃ (j : Nat) (B' : List Bool) (W' : List Nat) (wa' : Option Addr) (wc' : Nat), v37 = .int .i64 j ∧ v6 = .slice wa' W'.length wc' ∧ j ≤ (waysN p).length ∧ 3 * cntF B' + W'.length ≤ 3 * cntF B + V.length ∧ Hid (RcW w w.heap.size B' wa' wc' W' z) ∧ Hid (RI L first B' W' (fun k x => k = n ∧ x ∈ (waysN p).drop j)) ∧ Hid (B'[n]? = some true) ∧ Hid (NsA wy wa' w.heap.size (waysN p) z)) (fun v6 v9 v37 _ => (waysN p).length - (intOf v37).toNat)
   case atStart => exact ⟨0, B, V, _, wc, rfl, rfl, by omega, by omega, R4, I4, HB, HN⟩
   case round =>
    obtain ⟨j, B', W', wa', wc', rfl, rfl, hj, hmu2, R5, I5, HB5, HN5⟩ := hrel
    generalize wr = z5 at *
    clear R4 I4 HN
    by_cases hlt : j < (waysN p).length
    ·obtain ⟨m, hm⟩ := get_of_lt hlt
     have hmN : m < N := HWm.out m (List.mem_of_getElem? hm)
     obtain ⟨gy, hgy, hcy⟩ : ∃ gy, wy = some ⟨gy, 0, none⟩ ∧ z5.cell? ⟨gy, j, none⟩ = some (.int .i64 (m : Int)) := by
      obtain ⟨gy, e, h⟩ := HN5.out.ex (fun e => by rw [e] at hlt; simp at hlt)
      exact ⟨gy, e, h j _ (NV_get hm)⟩
     obtain ⟨b, hb⟩ := get_of_lt (l := B') (k := m) (by rw [I5.out.len, HL.out]; exact hmN)
     obtain ⟨cb, fb⟩ := R5.out.cell hb
     have hji : (j : Int) < ((waysN p).length : Int) := by omega
     have hmi : (m : Int) < (N : Int) := by omega
     have HM := hideIt hm
     have HBm := hideIt hb
     subst hgy
     clear hm hb
     cases b with
     | true =>
      have I6 := hideIt (I5.out.skip HM.out HBm.out)
      go_wp2_with (fail)
      go_roundw
      case rel => exact ⟨j + 1, B', W', wa', wc', by go_num, rfl, by omega, hmu2, R5, I6, HB5, HN5⟩
      case measure => simp [intOf]; omega
     | false =>
      have I6 := hideIt (I5.out.push HB5.out HPn.out HM.out HBm.out)
      have R6 := hideIt (R5.out.set m)
      have hcf := cntF_set B' m HBm.out
      have HB6 : Hid ((B'.set m true)[n]? = some true) := by
       show (B'.set m true)[n]? = some true
       rw [List.getElem?_set]
       split
       ·rename_i e; subst e; rw [show B'[m]? = some false from HBm.out] at HB5; exact absurd HB5.out (by simp)
       ·exact HB5.out
      have hWb : W'.length ≤ 10000000 := by have := HMU.out; have := HKX.out; omega
      have NXA := hideIt (fun ty => R6.out.app2 hWb HN5.out (Y := (z5.setCell ⟨w.heap.size, m, none⟩ (.bool true)).alloc (.cells #[.int .i64 (m : Int)] 3)) ((Q.refl _).alloc _) m (t := z5.heap.size) (by rw [← World.size_setCell z5 ⟨w.heap.size, m, none⟩ (.bool true)]; exact (cell_of_block (heap_alloc_new _ _) 0).trans rfl) (fun k h1 h2 => Below.heap_setCell _ _ _ _ h2) (by rw [World.size_setCell]; exact Nat.le_refl _) ty)
      go_wp2_with (first | (at_builtin; refine wpList_append_ex (by rfl) _ _ 22 22 (by rfl) _ _ (by rfl) (by rfl) _ _ (NXA.out _) ?_; rintro a5 c5 w5 ⟨h7, h8⟩; have R7 := hideIt h7; have N7 := hideIt h8; clear h7 h8) | fail)
      go_roundw
      case rel => exact ⟨j + 1, B'.set m true, W' ++ [m], a5, c5, by go_num, by simp, by omega, by simp; omega, R7, I6, HB6, N7⟩
      case measure => simp [intOf]; omega
    ·have hji : ¬ (j : Int) < ((waysN p).length : Int) := by omega
     have I6 : Hid (RI L first B' W' (fun _ _ => False)) := I5.out.op fun k x q h1 h2 h3 => by
      rw [List.drop_eq_nil_of_le (by omega)] at h3
      cases h3.2
     go_wp2_with (fail)
     go_roundg (3 * cntF B' + W'.length + 1)
     case measure => have := HMU.out; omega
     case rel => exact ⟨B', W', wa', wc', rfl, by omega, by have := HMU.out; have := HKX.out; omega, R5, I6⟩
end Go.Proofs.Ytphknepblchkdaa.Fl

namespace Go.Proofs.Ytphknepblchkdaa.Fl
open Go.RowKit
set_option linter.unusedVariables false

/-! ### Plainly -/
theorem ordTo_succ (L : List PP) (first k : Nat) : ordTo L first (k + 1) = if rchB L first k = true ∧ k ≠ first then ordTo L first k ++ [k] else ordTo L first k := by
 unfold ordTo
 rw [List.range_succ, List.filter_append]
 by_cases h : rchB L first k = true ∧ k ≠ first
 ·rw [if_pos h, List.filter_cons_of_pos (by simp [h.1, h.2])]; rfl
 ·rw [if_neg h, List.filter_cons_of_neg (by simpa using h)]; simp
theorem ordTo_len (L : List PP) (first k : Nat) : (ordTo L first k).length ≤ k + 1 := by
 unfold ordTo
 have := List.length_filter_le (fun n => rchB L first n && n != first) (List.range k)
 simp at this ⊢
 exact this
theorem ordL_nodup (L : List PP) (first : Nat) : (ordL L first).Nodup := by
 unfold ordL ordTo
 refine List.nodup_cons.2 ⟨fun h => ?_, List.Pairwise.filter _ List.nodup_range⟩
 have := (List.mem_filter.1 h).2
 simp at this
theorem ordL_mem {L : List PP} {first : Nat} (hf : first < L.length) {n : Nat} (h : n ∈ ordL L first) : n < L.length ∧ Rch L first n := by
 unfold ordL ordTo at h
 rcases List.mem_cons.1 h with rfl | h
 ·exact ⟨hf, Rch.base⟩
 ·obtain ⟨h1, h2⟩ := List.mem_filter.1 h
  simp at h2
  exact ⟨by simpa using h1, rchB_iff.1 h2.1⟩
def numTo (N : Nat) (l : List Nat) : Nat → List Nat
 | 0 => List.replicate N 0
 | k + 1 => match l[k]? with | some o => (numTo N l k).set o k | none => numTo N l k
theorem numTo_len (N : Nat) (l : List Nat) : ∀ k, (numTo N l k).length = N
 | 0 => by simp [numTo]
 | k + 1 => by
  unfold numTo
  split
  ·simp [numTo_len N l k]
  ·exact numTo_len N l k
theorem numTo_succ {N : Nat} {l : List Nat} {k o : Nat} (h : l[k]? = some o) : numTo N l (k + 1) = (numTo N l k).set o k := by
 show (match l[k]? with | some o => (numTo N l k).set o k | none => numTo N l k) = _
 rw [h]
theorem numTo_at {N : Nat} {l : List Nat} (hd : l.Nodup) (hl : ∀ n ∈ l, n < N) : ∀ k, k ≤ l.length → (∀ i o : Nat, i < k → l[i]? = some o → (numTo N l k)[o]? = some i) ∧ ∀ m, m < N → m ∉ l.take k → (numTo N l k)[m]? = some 0
 | 0, _ => ⟨fun i o h => absurd h (Nat.not_lt_zero _), fun m hm _ => by simp [numTo, hm]⟩
 | k + 1, hk => by
  obtain ⟨h1, h2⟩ := numTo_at hd hl k (by omega)
  obtain ⟨o, ho⟩ := get_of_lt (l := l) (k := k) (by omega)
  rw [numTo_succ ho]
  have hoN := hl o (List.mem_of_getElem? ho)
  refine ⟨fun i x hi hx => ?_, fun m hm hn => ?_⟩
  ·rw [List.getElem?_set]
   by_cases e : i = k
   ·subst e
    rw [ho] at hx
    injection hx with hx
    subst hx
    rw [if_pos rfl, if_pos (by rw [numTo_len]; exact hoN)]
   ·rw [if_neg (fun q => ?_)]
    ·exact h1 i x (by omega) hx
    ·subst q
     have a1 := (List.getElem?_eq_some_iff.1 hx)
     have a2 := (List.getElem?_eq_some_iff.1 ho)
     exact (List.pairwise_iff_getElem.1 hd) i k a1.1 a2.1 (by omega) (by rw [a1.2, a2.2])
  ·rw [List.take_add_one, ho] at hn
   simp at hn
   rw [List.getElem?_set, if_neg (fun q => hn.2 q.symm)]
   exact h2 m hm (by simpa using hn.1)
theorem numTo_all {N : Nat} {l : List Nat} (hd : l.Nodup) (hl : ∀ n ∈ l, n < N) {m : Nat} (hm : m < N) : (numTo N l l.length)[m]? = some (numL l m) := by
 obtain ⟨h1, h2⟩ := numTo_at hd hl l.length (Nat.le_refl _)
 unfold numL
 by_cases e : m ∈ l
 ·rw [if_pos e]
  have hi := List.idxOf_lt_length_of_mem e
  exact h1 _ m hi (by rw [List.getElem?_eq_getElem hi, List.getElem_idxOf])
 ·rw [if_neg e]
  exact h2 m hm (by rw [List.take_length]; exact e)

/-! ### In memory -/
theorem grow_set {X : List PP} {k : Nat} {x : PP} (h : X[k]? = some x) : X.take (k + 1) ++ List.replicate (X.length - (k + 1)) zeroP = (X.take k ++ List.replicate (X.length - k) zeroP).set k x := by
 have hk := (List.getElem?_eq_some_iff.1 h).1
 rw [List.set_append_right _ _ (by simp; omega), List.take_add_one, h]
 rw [show X.length - k = (X.length - (k + 1)) + 1 by omega, List.replicate_succ]
 simp only [List.length_take, show min k X.length = k by omega, Nat.sub_self, List.set_cons_zero, Option.toList_some, List.append_assoc, List.cons_append, List.nil_append]
theorem grow_at {X : List PP} {j : Nat} (h : j < X.length) : (X.take j ++ List.replicate (X.length - j) zeroP)[j]? = some zeroP := by
 have e : (X.take j).length = j := by rw [List.length_take]; omega
 rw [List.getElem?_append_right (by rw [e]; exact Nat.le_refl _), e, Nat.sub_self, List.getElem?_replicate, if_pos (by omega)]
/-- Five cells are written side by side. -/
theorem flat_put5 (M : List PP) (j : Nat) (p q : PP) (hp : M[j]? = some p) (v0 v1 v2 v3 v4 : Value) (hq : q.cells = [v0, v1, v2, v3, v4]) : (M.set j q).flatMap PP.cells = (((((M.flatMap PP.cells).set (j * 5) v0).set (j * 5 + 1) v1).set (j * 5 + 2) v2).set (j * 5 + 3) v3).set (j * 5 + 4) v4 := by
 have hkl := (List.getElem?_eq_some_iff.1 hp).1
 have hl1 : (M.flatMap PP.cells).length = M.length * 5 := flat_len _ 5 PP.len _
 have hl2 : ((M.set j q).flatMap PP.cells).length = M.length * 5 := by rw [flat_len _ 5 PP.len, List.length_set]
 refine List.ext_getElem? fun i => ?_
 by_cases hi : i < M.length * 5
 ·obtain ⟨a, b, e, hb⟩ : ∃ a b, i = a * 5 + b ∧ b < 5 := ⟨i / 5, i % 5, by omega, Nat.mod_lt _ (by omega)⟩
  subst e
  have ha : a < M.length := by omega
  by_cases ea : a = j
  ·subst ea
   rw [flat_at PP.cells 5 PP.len (M.set a q) a q b (by rw [List.getElem?_set_self hkl]) hb, hq]
   have hlt : ∀ c, c < 5 → a * 5 + c < (M.flatMap PP.cells).length := fun c hc => by rw [hl1]; omega
   obtain rfl | rfl | rfl | rfl | rfl : b = 0 ∨ b = 1 ∨ b = 2 ∨ b = 3 ∨ b = 4 := by omega
   ·rw [List.getElem?_set_ne (by omega), List.getElem?_set_ne (by omega), List.getElem?_set_ne (by omega), List.getElem?_set_ne (by omega), Nat.add_zero, List.getElem?_set_self (by have := hlt 0 (by omega); simpa using this)]; rfl
   ·rw [List.getElem?_set_ne (by omega), List.getElem?_set_ne (by omega), List.getElem?_set_ne (by omega), List.getElem?_set_self (by simp only [List.length_set]; exact hlt 1 (by omega))]; rfl
   ·rw [List.getElem?_set_ne (by omega), List.getElem?_set_ne (by omega), List.getElem?_set_self (by simp only [List.length_set]; exact hlt 2 (by omega))]; rfl
   ·rw [List.getElem?_set_ne (by omega), List.getElem?_set_self (by simp only [List.length_set]; exact hlt 3 (by omega))]; rfl
   ·rw [List.getElem?_set_self (by simp only [List.length_set]; exact hlt 4 (by omega))]; rfl
  ·obtain ⟨r, hr⟩ := get_of_lt ha
   rw [flat_at PP.cells 5 PP.len (M.set j q) a r b (by rw [List.getElem?_set_ne (fun q => ea q.symm)]; exact hr) hb, List.getElem?_set_ne (by omega), List.getElem?_set_ne (by omega), List.getElem?_set_ne (by omega), List.getElem?_set_ne (by omega), List.getElem?_set_ne (by omega), flat_at PP.cells 5 PP.len M a r b hr hb]
 ·rw [List.getElem?_eq_none (by rw [hl2]; omega), List.getElem?_eq_none (by simp only [List.length_set]; rw [hl1]; omega)]
structure LsW (w : World) (ex : List (Nat × Obj)) (la : Option Addr) (lc : Nat) (l : List Nat) (z : World) : Prop where
 q : Q w z
 xs : ∀ e ∈ ex, z.heap[e.1]? = some e.2
 wk : z.ownsRow w.heap.size 3 1 (.slice la l.length lc) l.length (NV l)
 ne : ∀ e ∈ ex, ∀ a, la = some a → a.block ≠ e.1
section
variable {w z : World} {ex : List (Nat × Obj)} {la : Option Addr} {lc : Nat} {l : List Nat}
theorem LsW.keep {z' : World} (h : LsW w ex la lc l z) (q : Q z z') : LsW w ex la lc l z' := ⟨h.q.trans q, fun e he => heap_keep q (h.xs e he), row_kp h.wk fun k hk => q.block k (h.wk.lt k hk).2, h.ne⟩
theorem LsW.app (h : LsW w ex la lc l z) (hW : l.length ≤ 10000000) (m : Nat) {Y : World} (q : Q z Y) {t : Nat} (ht : Y.cell? ⟨t, 0, none⟩ = some (.int .i64 (m : Int))) (ty : TypeId) :
  ∃ a5 c5 w5, (Builtin.append_ #[22, 22] ty #[.slice la l.length lc, .slice (some ⟨t, 0, none⟩) 1 1]).run Try.prog Y = .ok (.slice a5 (l.length + 1) c5) w5 ∧ LsW w ex a5 c5 (l ++ [m]) w5 := by
 have hY := h.keep q
 obtain ⟨a5, c5, w5, r5, g5⟩ := app_any (r := ⟨la, l.length, lc, 3, 1, NV l⟩) hY.wk rfl rfl [m] (some ⟨t, 0, none⟩) 1 (.inr ⟨t, rfl, one_new ht⟩) (by show l.length + 1 ≤ _; omega) hY.q.size ty
 have own : ∀ b, (Value.slice la l.length lc).ownBlock = some b → (∀ e ∈ ex, b ≠ e.1) ∧ w.heap.size ≤ b := fun b hb => by
  refine ⟨fun e he q => ?_, (hY.wk.lt b hb).1⟩
  cases ea : la with
  | none => rw [ea] at hb; cases hb
  | some a => rw [ea] at hb; injection hb with hb; exact h.ne e he a ea (hb.trans q)
 have hg := g5.g
 refine ⟨a5, c5, w5, r5, ⟨⟨hg.os.trans hY.q.os, hg.tape.trans hY.q.tape, hg.output.trans hY.q.output, Nat.le_trans hY.q.size hg.size, fun k hk => (hg.block k (Nat.lt_of_lt_of_le hk hY.q.size) (fun e => by have := (own k e.symm).2; omega)).trans (hY.q.block k hk)⟩, fun e he => ?_, ?_, fun e he a ha q => ?_⟩⟩
 ·have hl := (Array.getElem?_eq_some_iff.1 (hY.xs e he)).1
  exact (hg.block e.1 hl (fun q => (own _ q.symm).1 e he rfl)).trans (hY.xs e he)
 ·have := g5.own
  rw [List.length_append, NV_app]
  exact this
 ·rcases g5.at' a ha with q1 | q1
  ·exact (own _ q1).1 e he q
  ·have hl := (Array.getElem?_eq_some_iff.1 (hY.xs e he)).1
   omega
theorem ls_add (h : LsW w ex la lc l z) {I : Nat} {o : Obj} (hb : z.heap[I]? = some o) (hn : ∀ a, la = some a → a.block ≠ I) : LsW w (ex ++ [(I, o)]) la lc l z := by
 refine ⟨h.q, fun e he => ?_, h.wk, fun e he a ha => ?_⟩
 ·rcases List.mem_append.1 he with he | he
  ·exact h.xs e he
  ·simp at he; subst he; exact hb
 ·rcases List.mem_append.1 he with he | he
  ·exact h.ne e he a ha
  ·simp at he; subst he; exact hn a ha
end
abbrev put5 (W : World) (K o : Nat) (v0 v1 v2 v3 v4 : Value) : World := ((((W.setCell ⟨K, o, none⟩ v0).setCell ⟨K, o + 1, none⟩ v1).setCell ⟨K, o + 2, none⟩ v2).setCell ⟨K, o + 3, none⟩ v3).setCell ⟨K, o + 4, none⟩ v4
theorem put5_q {w W : World} {K o : Nat} {v0 v1 v2 v3 v4 : Value} (q : Q w W) (h : w.heap.size ≤ K) : Q w (put5 W K o v0 v1 v2 v3 v4) := ((((q.set (p := ⟨K, o, none⟩) h v0).set (p := ⟨K, o + 1, none⟩) h v1).set (p := ⟨K, o + 2, none⟩) h v2).set (p := ⟨K, o + 3, none⟩) h v3).set (p := ⟨K, o + 4, none⟩) h v4
theorem put5_other (W : World) (K o : Nat) (v0 v1 v2 v3 v4 : Value) {b : Nat} (hb : b ≠ K) : (put5 W K o v0 v1 v2 v3 v4).heap[b]? = W.heap[b]? :=
 (Below.heap_setCell _ ⟨K, o + 4, none⟩ v4 b hb).trans ((Below.heap_setCell _ ⟨K, o + 3, none⟩ v3 b hb).trans ((Below.heap_setCell _ ⟨K, o + 2, none⟩ v2 b hb).trans ((Below.heap_setCell _ ⟨K, o + 1, none⟩ v1 b hb).trans (Below.heap_setCell _ ⟨K, o, none⟩ v0 b hb))))
theorem put5_blk {W : World} {K j : Nat} {M : List PP} {p q : PP} {v0 v1 v2 v3 v4 : Value} (hb : W.heap[K]? = some (.cells (M.flatMap PP.cells).toArray 47 (0, 0))) (hp : M[j]? = some p) (hq : q.cells = [v0, v1, v2, v3, v4]) : (put5 W K (j * 5) v0 v1 v2 v3 v4).heap[K]? = some (.cells ((M.set j q).flatMap PP.cells).toArray 47 (0, 0)) := by
 rw [flat_put5 M j p q hp v0 v1 v2 v3 v4 hq]
 generalize M.flatMap PP.cells = cs at *
 have h1 := block_setCell (b := K) (j := j * 5) hb v0
 have h2 := block_setCell (b := K) (j := j * 5 + 1) h1 v1
 have h3 := block_setCell (b := K) (j := j * 5 + 2) h2 v2
 have h4 := block_setCell (b := K) (j := j * 5 + 3) h3 v3
 have h5 := block_setCell (b := K) (j := j * 5 + 4) h4 v4
 refine h5.trans ?_
 simp only [List.setIfInBounds_toArray]
theorem drew_k {w W : World} {g n K : Nat} {a b c : Option Obj} (h : Q w W ∧ W.heap[g]? = a ∧ W.heap[n]? = b ∧ W.heap[K]? = c) : Q w W.drew ∧ W.drew.heap[g]? = a ∧ W.drew.heap[n]? = b ∧ W.drew.heap[K]? = c := ⟨h.1.drew, h.2⟩
theorem made_parts (n : Nat) : madeCells #[.slice none 0 0, .bool false, .int .i64 0, .int .i64 0, .int .i64 0] (n * 5) = ((List.replicate n zeroP).flatMap PP.cells).toArray := by
 refine Array.ext' (List.ext_getElem? fun j => ?_)
 have hl : ((List.replicate n zeroP).flatMap PP.cells).length = n * 5 := by rw [flat_len _ 5 PP.len, List.length_replicate]
 by_cases hj : j < n * 5
 ·obtain ⟨a, b, e, hb⟩ : ∃ a b, j = a * 5 + b ∧ b < 5 := ⟨j / 5, j % 5, by omega, Nat.mod_lt _ (by omega)⟩
  subst e
  rw [show ((List.replicate n zeroP).flatMap PP.cells).toArray.toList[a * 5 + b]? = (PP.cells zeroP)[b]? from flat_at PP.cells 5 PP.len _ a zeroP b (by rw [List.getElem?_replicate, if_pos (by omega)]) hb]
  have : (madeCells #[.slice none 0 0, .bool false, .int .i64 0, .int .i64 0, .int .i64 0] (n * 5)).toList[a * 5 + b]? = some (#[(.slice none 0 0 : Value), .bool false, .int .i64 0, .int .i64 0, .int .i64 0][(a * 5 + b) % 5]!) := by
   unfold madeCells
   simp [hj]
  rw [this, show (a * 5 + b) % 5 = b by omega]
  obtain rfl | rfl | rfl | rfl | rfl : b = 0 ∨ b = 1 ∨ b = 2 ∨ b = 3 ∨ b = 4 := by omega
  all_goals rfl
 ·rw [List.getElem?_eq_none (by simp [size_madeCells]; omega)]
  exact (List.getElem?_eq_none (by show ((List.replicate n zeroP).flatMap PP.cells).length ≤ j; omega)).symm
theorem make_part (N : Nat) (hN : N ≤ 1000000) (X : World) : (Instr.makeSlice 42 (.int .i64 (N : Int)) (.int .i64 (N : Int))).run Try.prog X = .ok (.slice (some ⟨X.heap.size, 0, none⟩) N N) (X.alloc (.cells ((List.replicate N zeroP).flatMap PP.cells).toArray 47)) := by
 obtain ⟨i, hi, hzz⟩ := Option.map_eq_some_iff.1 Try.infoPart
 simp only [Prod.mk.injEq] at hzz
 obtain ⟨hz0, hz1, hz2⟩ := hzz
 have h2 : (i.bytes : Int) * (N : Int) ≤ 281474976710656 := by
  rw [hz2]
  omega
 have := run_make (P := Try.prog) X 42 47 i _ Try.underlying42 hi hz0 .i64 .i64 (N : Int) (N : Int) (by omega) (Int.le_refl _) h2 (by omega)
 rw [hz1] at this
 simp only [Int.toNat_natCast] at this
 rw [← made_parts]
 exact this

set_option maxRecDepth 100000 in
set_option maxHeartbeats 4000000 in
theorem inOrder_any (w : World) (P pc N : Nat) (L : List PP) (hL : L.length = N) (hN : N ≤ 1000) (hw : WyL L) (hP : ∀ (k : Nat) (p : PP), L[k]? = some p → At w P (k * 5) p.cells) (first : Nat) (hf : first < N) :
  Calls Try.prog 25 #[.slice (some ⟨P, 0, none⟩) N pc, .int .i64 (first : Int)] w fun e w' => ∃ K n, e = .returned (.slice (some ⟨K, 0, none⟩) n n) ∧ n = (inoP L first).length ∧ w.heap.size ≤ K ∧ w'.heap[K]? = some (.cells ((inoP L first).flatMap PP.cells).toArray 47 (0, 0)) ∧ Q w w' := by
 have hmi := fun W => make_int N (by omega) W
 have CRC : Hid (∀ y, Q w y → Calls Try.prog 52 #[.slice (some ⟨P, 0, none⟩) N pc, .int .i64 (first : Int)] y fun e w' => ∃ I, e = .returned (.slice (some ⟨I, 0, none⟩) N N) ∧ y.heap.size ≤ I ∧ w'.heap[I]? = some (.cells ((rchL L first).map Value.bool).toArray 4 (0, 0)) ∧ Q y w') := fun y hy => reached_any y P pc N L hL hN hw (fun k p hp => (hP k p hp).keep hy) first hf
 have HP := hideIt hP
 have HL := hideIt hL
 have HW := hideIt hw
 have HF := hideIt hf
 clear hP hL hw hf
 go_enter Try.func25, Try.ntmps25
 go_upto_region 3 with (fail)
 clear hmi
 have L0 : Hid (LsW w [(w.heap.size, .cells (NV (List.replicate N 0)).toArray 3 (0, 0))] (some ⟨w.heap.size + 1, 0, none⟩) 1 [first] ((w.alloc (.cells (Array.replicate N (.int .i64 0)) 3)).alloc (.cells #[.int .i64 (first : Int)] 3))) := by
  obtain ⟨z1, hz1⟩ : ∃ z1, w.alloc (.cells (Array.replicate N (.int .i64 0)) 3) = z1 := ⟨_, rfl⟩
  have hs : z1.heap.size = w.heap.size + 1 := by rw [← hz1]; simp
  have hb : z1.heap[w.heap.size]? = some (.cells (NV (List.replicate N 0)).toArray 3 (0, 0)) := by
   rw [← hz1, heap_alloc_new, ← NV_rep]
   congr 3
   try simp
  rw [hz1]
  refine ⟨by rw [← hz1]; exact ((Q.refl w).alloc _).alloc _, fun e he => ?_, own_blk (n := 1) (sz := 1) (by rw [← hs]; exact heap_alloc_new z1 _) (by omega) rfl (by omega), fun e he a ha => ?_⟩
  ·simp at he; subst he; exact heap_keep ((Q.refl z1).alloc _) hb
  ·simp at he; subst he; injection ha with ha; subst ha; dsimp only; omega
 generalize hz0 : (w.alloc (.cells (Array.replicate N (.int .i64 0)) 3)).alloc (.cells #[.int .i64 (first : Int)] 3) = z0 at *
 have hz0s : z0.heap.size = w.heap.size + 2 := by rw [← hz0]; simp
 clear hz0
 go_wp2_with (first | (go_at_call 52; refine Calls.mono (CRC.out _ L0.out.q) ?_; rintro e y ⟨I, rfl, hI, hb, hq⟩; have HB := hideIt hb; have L1 : Hid (LsW w [(w.heap.size, .cells (NV (List.replicate N 0)).toArray 3 (0, 0)), (I, .cells ((rchL L first).map Value.bool).toArray 4 (0, 0))] (some ⟨w.heap.size + 1, 0, none⟩) 1 [first] y) := (ls_add (L0.out.keep hq) hb (fun a ha => by injection ha with ha; subst ha; dsimp only; omega)); clear hb hq) | fail)
 clear CRC
 have hbl : ∀ (k : Nat), k < N → y.cell? ⟨I, k, none⟩ = some (.bool (rchB L first k)) := fun k hk => by
  rw [cell_of_block HB.out k]
  unfold rchL
  simp [HL.out, hk]
 have HBL := hideIt hbl
 clear hbl hz0s L0
 have O0 : Hid (LsW w [(w.heap.size, .cells (NV (List.replicate N 0)).toArray 3 (0, 0)), (I, .cells ((rchL L first).map Value.bool).toArray 4 (0, 0))] (some ⟨w.heap.size + 1, 0, none⟩) 1 (ordTo L first 0) y) := L1.out
 go_loopw [6, 7, 8, 24] (fun v6 v7 v8 v z => ∃ (k : Nat) (la : Option Addr) (lc : Nat), v = .int .i64 k ∧ v6 = .slice la (ordTo L first k).length lc ∧ k ≤ N ∧ Hid (LsW w [(w.heap.size, .cells (NV (List.replicate N 0)).toArray 3 (0, 0)), (I, .cells ((rchL L first).map Value.bool).toArray 4 (0, 0))] la lc (ordTo L first k) z)) (fun v6 v7 v8 v _ => N - (intOf v).toNat)
 case atStart => exact ⟨0, _, 1, rfl, rfl, by omega, O0⟩
 case round =>
  obtain ⟨k, la, lc, rfl, rfl, hk, L2⟩ := hrel
  generalize wr = z at *
  clear O0 L1
  by_cases hlt : k < N
  ·have hki : (k : Int) < (N : Int) := by omega
   have cb : z.cell? ⟨I, k, none⟩ = some (.bool (rchB L first k)) := by
    rw [cell_of_block (L2.out.xs _ (List.mem_cons_of_mem _ (List.mem_cons_self ..))) k]
    unfold rchL
    simp [HL.out, hlt]
   have HS := hideIt (ordTo_succ L first k)
   have hol := ordTo_len L first k
   by_cases hc : rchB L first k = true ∧ k ≠ first
   ·obtain ⟨c1, c2⟩ := hc
    rw [c1] at cb
    have dk : ((k : Int) != (first : Int)) = true := by simp; omega
    have e9 := HS.out
    rw [if_pos ⟨c1, c2⟩] at e9
    have E9 := hideIt e9
    have NXA := hideIt (fun ty => L2.out.app (by omega) k (Y := z.alloc (.cells #[.int .i64 (k : Int)] 3)) ((Q.refl z).alloc _) (t := z.heap.size) ((cell_of_block (heap_alloc_new z _) 0).trans rfl) ty)
    clear e9 HS c1 c2
    go_wp2_with (first | (at_builtin; refine wpList_append_ex (by rfl) _ _ 22 22 (by rfl) _ _ (by rfl) (by rfl) _ _ (NXA.out _) ?_; rintro a5 c5 w5 h7; have L3 := hideIt h7; clear h7) | fail)
    go_roundw
    case rel => exact ⟨k + 1, a5, c5, by go_num, by rw [E9.out]; simp, by omega, by show LsW w _ a5 c5 _ _; rw [E9.out]; exact L3.out⟩
    case measure => simp [intOf]; omega
   ·have e9 := HS.out
    rw [if_neg hc] at e9
    have E9 := hideIt e9
    cases hb : rchB L first k with
    | false =>
     rw [hb] at cb
     clear e9 HS hc hb
     go_wp2_with (fail)
     go_roundw
     case rel => exact ⟨k + 1, la, lc, by go_num, by rw [E9.out], by omega, by show LsW w _ la lc _ _; rw [E9.out]; exact L2.out⟩
     case measure => simp [intOf]; omega
    | true =>
     rw [hb] at cb
     have hkf : k = first := Classical.byContradiction fun q => hc ⟨hb, q⟩
     have dk : ((k : Int) != (first : Int)) = false := by simp [hkf]
     clear e9 HS hc hb
     subst hkf
     have dk : ((k : Int) != (k : Int)) = false := by simp
     go_wp2_with (fail)
     go_roundw
     case rel => exact ⟨k + 1, la, lc, by go_num, by rw [E9.out], by omega, by show LsW w _ la lc _ _; rw [E9.out]; exact L2.out⟩
     case measure => simp [intOf]; omega
  ·have hki : ¬ (k : Int) < (N : Int) := by omega
   obtain rfl : k = N := by omega
   have eo : ordTo L first k = ordL L first := by unfold ordL; rw [HL.out]
   rw [eo] at L2 ⊢
   have hln : (ordL L first).length ≤ k + 1 := by rw [← eo]; exact ordTo_len L first k
   have hl0 : 0 < (ordL L first).length := by unfold ordL ordTo; simp
   have HM := hideIt (fun (m : Nat) (hm : m ∈ ordL L first) => ordL_mem (L := L) (first := first) (by rw [HL.out]; exact HF.out) hm)
   obtain ⟨g, rfl, hgc⟩ : ∃ g, la = some ⟨g, 0, none⟩ ∧ ∀ j m : Nat, (ordL L first)[j]? = some m → z.cell? ⟨g, j, none⟩ = some (.int .i64 (m : Int)) := by
    have hwk := L2.out.wk
    cases ea : la with
    | none => rw [ea] at hwk; have := (own_none hwk).1; omega
    | some a =>
     obtain ⟨e1, -⟩ := own_addr hwk ea
     rw [ea, e1] at hwk
     refine ⟨a.block, by rw [← e1], fun j m hj => ?_⟩
     have hjl := (List.getElem?_eq_some_iff.1 hj).1
     rw [hwk.cellAt j (by omega), NV_get hj]
   have hgw : g ≠ w.heap.size := L2.out.ne _ (List.mem_cons_self ..) _ rfl
   have HGW := hideIt hgw
   have hgl : g < z.heap.size := by
    obtain ⟨m, hm⟩ := get_of_lt (l := ordL L first) (k := 0) hl0
    exact World.block_lt_of_cell? z _ (hgc 0 m hm)
   have HGC := hideIt (fun (z' : World) (h : z'.heap[g]? = z.heap[g]?) (j m : Nat) (hm : (ordL L first)[j]? = some m) => (World.cell?_of_block (a := ⟨g, j, none⟩) h).trans (hgc j m hm))
   have HND := hideIt (ordL_nodup L first)
   have N0 : Hid (Q w z ∧ z.heap[g]? = z.heap[g]? ∧ z.heap[w.heap.size]? = some (.cells (NV (numTo k (ordL L first) 0)).toArray 3 (0, 0))) := ⟨L2.out.q, Eq.refl _, L2.out.xs _ (List.mem_cons_self ..)⟩
   have HIN : Hid (∀ (j m : Nat) (p : PP), (ordL L first)[j]? = some m → L[m]? = some p → (inoP L first)[j]? = some (renP (ordL L first) p)) := fun j m p h1 h2 => by
    unfold inoP
    rw [List.getElem?_map, h1]
    simp [h2]
   have hil : (inoP L first).length = (ordL L first).length := by unfold inoP; simp
   have HNUM := hideIt (fun (m : Nat) (hm : m < k) => numTo_all (N := k) (ordL_nodup L first) (fun n hn => by have := (HM.out n hn).1; rw [HL.out] at this; exact this) hm)
   clear hgc L2 eo hki
   generalize ordL L first = l at *
   go_wp2_with (fail)
   go_loopw [9, 10, 42] (fun v9 v10 v z' => ∃ j : Nat, v = .int .i64 j ∧ j ≤ l.length ∧ Hid (Q w z' ∧ z'.heap[g]? = z.heap[g]? ∧ z'.heap[w.heap.size]? = some (.cells (NV (numTo k l j)).toArray 3 (0, 0)))) (fun v9 v10 v _ => l.length - (intOf v).toNat)
   case atStart => exact ⟨0, rfl, by omega, ⟨N0.out.1, rfl, N0.out.2.2⟩⟩
   case round =>
    obtain ⟨j, rfl, hj, N1⟩ := hrel
    generalize wr = z1 at *
    clear N0
    by_cases hlt2 : j < l.length
    ·obtain ⟨o, ho⟩ := get_of_lt hlt2
     have hoN : o < k := by have := (HM.out o (List.mem_of_getElem? ho)).1; rwa [HL.out] at this
     have c1 := HGC.out z1 N1.out.2.1 j o ho
     have hji : (j : Int) < (l.length : Int) := by omega
     have hoi : (o : Int) < (k : Int) := by omega
     obtain ⟨v0, hv0⟩ := get_of_lt (l := numTo k l j) (k := o) (by rw [numTo_len]; exact hoN)
     have c2 : z1.cell? ⟨w.heap.size, o, none⟩ = some (.int .i64 (v0 : Int)) := by rw [cell_of_block N1.out.2.2 o]; simp [NV, nv, hv0]
     have f2 : z1.frozen? ⟨w.heap.size, o, none⟩ = false := free_of_block N1.out.2.2 o
     have N2 : Hid (Q w (z1.setCell ⟨w.heap.size, o, none⟩ (.int .i64 (j : Int))) ∧ (z1.setCell ⟨w.heap.size, o, none⟩ (.int .i64 (j : Int))).heap[g]? = z.heap[g]? ∧ (z1.setCell ⟨w.heap.size, o, none⟩ (.int .i64 (j : Int))).heap[w.heap.size]? = some (.cells (NV (numTo k l (j + 1))).toArray 3 (0, 0))) := by
      refine ⟨N1.out.1.set (p := ⟨w.heap.size, o, none⟩) (Nat.le_refl _) _, (Below.heap_setCell _ _ _ _ HGW.out).trans N1.out.2.1, ?_⟩
      rw [block_setCell N1.out.2.2, numTo_succ ho, ← NV_set]
      congr 2
      simp
     clear ho hv0
     go_wp2_with (fail)
     go_roundw
     case rel => exact ⟨j + 1, by go_num, by omega, N2⟩
     case measure => simp [intOf]; omega
    ·have hji : ¬ (j : Int) < (l.length : Int) := by omega
     obtain rfl : j = l.length := by omega
     have hmp := fun W => make_part l.length (by omega) W
     go_wp2_with (fail)
     obtain ⟨z2, hz2⟩ : ∃ z2, z1.alloc (.cells ((List.replicate l.length zeroP).flatMap PP.cells).toArray 47) = z2 := ⟨_, rfl⟩
     rw [hz2]
     obtain ⟨K, hK⟩ : ∃ K, z1.heap.size = K := ⟨_, rfl⟩
     have hg1 : g < z1.heap.size := by
      have h1 := N1.out.2.1
      have h2 : z.heap[g]? ≠ none := fun e => by have := Array.getElem?_eq_none_iff.1 e; omega
      rw [← h1] at h2
      rcases Nat.lt_or_ge g z1.heap.size with q | q
      ·exact q
      ·exact absurd (Array.getElem?_eq_none_iff.2 q) h2
     have hKg : g ≠ K := by omega
     have hKw : w.heap.size ≠ K := by have := (Array.getElem?_eq_some_iff.1 N1.out.2.2).1; omega
     have K0 : Hid (Q w z2 ∧ z2.heap[g]? = z.heap[g]? ∧ z2.heap[w.heap.size]? = some (.cells (NV (numTo k l l.length)).toArray 3 (0, 0)) ∧ z2.heap[K]? = some (.cells (((inoP L first).take 0 ++ List.replicate ((inoP L first).length - 0) zeroP).flatMap PP.cells).toArray 47 (0, 0))) := by
      refine ⟨by rw [← hz2]; exact N1.out.1.alloc _, by rw [← hz2]; exact (heap_alloc_old z1 _ hg1).trans N1.out.2.1, by rw [← hz2]; exact heap_keep ((Q.refl z1).alloc _) N1.out.2.2, ?_⟩
      rw [← hz2, ← hK, heap_alloc_new, hil]
      rfl
     have HKG := hideIt hKg
     have HKW := hideIt hKw
     have HK1 : Hid (w.heap.size ≤ K) := by rw [← hK]; exact N1.out.1.size
     rw [hK]
     clear hmp hKg hKw hK hz2 N1 hji
     go_loopw [12, 13, 14, 57] (fun v12 v13 v14 v z' => ∃ j : Nat, v = .int .i64 j ∧ j ≤ l.length ∧ Hid (Q w z' ∧ z'.heap[g]? = z.heap[g]? ∧ z'.heap[w.heap.size]? = some (.cells (NV (numTo k l l.length)).toArray 3 (0, 0)) ∧ z'.heap[K]? = some (.cells (((inoP L first).take j ++ List.replicate ((inoP L first).length - j) zeroP).flatMap PP.cells).toArray 47 (0, 0)))) (fun v12 v13 v14 v _ => l.length - (intOf v).toNat)
     case atStart => exact ⟨0, rfl, by omega, K0⟩
     case round =>
      obtain ⟨j, rfl, hj, K1⟩ := hrel
      generalize wr = z3 at *
      clear K0
      by_cases hlt3 : j < l.length
      ·obtain ⟨o, ho⟩ := get_of_lt hlt3
       have hoN : o < k := by have := (HM.out o (List.mem_of_getElem? ho)).1; rwa [HL.out] at this
       obtain ⟨p, hp⟩ := get_of_lt (l := L) (k := o) (by rw [HL.out]; exact hoN)
       have c1 := HGC.out z3 K1.out.2.1 j o ho
       have hji : (j : Int) < (l.length : Int) := by omega
       have hoi : (o : Int) < (k : Int) := by omega
       obtain ⟨d0, d1, d2, d3, d4⟩ := ((HP.out o p hp).keep K1.out.1).five
       have hwy : Wy k p := by have := HW.out p (List.mem_of_getElem? hp); rwa [HL.out] at this
       have HIJ := hideIt (HIN.out j o p ho hp)
       have hilj : j < (inoP L first).length := by rw [hil]; exact hlt3
       have K5 : Hid (∀ zX, Q z3 zX → (zX.cell? ⟨K, j * 5, none⟩ = some (.slice none 0 0) ∧ zX.cell? ⟨K, j * 5 + 1, none⟩ = some (.bool false) ∧ zX.cell? ⟨K, j * 5 + 2, none⟩ = some (.int .i64 0) ∧ zX.cell? ⟨K, j * 5 + 3, none⟩ = some (.int .i64 0) ∧ zX.cell? ⟨K, j * 5 + 4, none⟩ = some (.int .i64 0)) ∧ ∀ i, zX.frozen? ⟨K, i, none⟩ = false) := fun zX q => by
        have hb := heap_keep q K1.out.2.2.2
        refine ⟨(show At zX K (j * 5) zeroP.cells from fun i hi => ?_).five, fun i => free_of_block hb i⟩
        rw [cell_of_block hb (j * 5 + i)]
        have hi5 : i < 5 := hi
        have := flat_at PP.cells 5 PP.len ((inoP L first).take j ++ List.replicate ((inoP L first).length - j) zeroP) j zeroP i (grow_at hilj) hi5
        simpa using this
       have hg3 : g < z3.heap.size := by
        have h1 := K1.out.2.1
        have h2 : z.heap[g]? ≠ none := fun e => by have := Array.getElem?_eq_none_iff.1 e; omega
        rw [← h1] at h2
        rcases Nat.lt_or_ge g z3.heap.size with q | q
        ·exact q
        ·exact absurd (Array.getElem?_eq_none_iff.2 q) h2
       have ST : Hid (∀ zX, Q z3 zX → ∀ v0 v1 v2 v3 v4, (renP l p).cells = [v0, v1, v2, v3, v4] → Q w (put5 zX K (j * 5) v0 v1 v2 v3 v4) ∧ (put5 zX K (j * 5) v0 v1 v2 v3 v4).heap[g]? = z.heap[g]? ∧ (put5 zX K (j * 5) v0 v1 v2 v3 v4).heap[w.heap.size]? = some (.cells (NV (numTo k l l.length)).toArray 3 (0, 0)) ∧ (put5 zX K (j * 5) v0 v1 v2 v3 v4).heap[K]? = some (.cells (((inoP L first).take (j + 1) ++ List.replicate ((inoP L first).length - (j + 1)) zeroP).flatMap PP.cells).toArray 47 (0, 0))) := fun zX q v0 v1 v2 v3 v4 hc => by
        refine ⟨put5_q (K1.out.1.trans q) HK1.out, ?_, ?_, ?_⟩
        ·rw [put5_other _ _ _ _ _ _ _ _ HKG.out, q.block g hg3]; exact K1.out.2.1
        ·rw [put5_other _ _ _ _ _ _ _ _ HKW.out]; exact heap_keep q K1.out.2.2.1
        ·rw [grow_set HIJ.out]
         exact put5_blk (heap_keep q K1.out.2.2.2) (grow_at hilj) hc
       have NUM : Hid (∀ zX, Q z3 zX → ∀ m : Nat, m < k → zX.cell? ⟨w.heap.size, m, none⟩ = some (.int .i64 (numL l m : Int))) := fun zX q m hm => by
        rw [cell_of_block (heap_keep q K1.out.2.2.1) m]
        simp [NV, nv, HNUM.out m hm]
       obtain ⟨zb, hzb⟩ : ∃ zb, z3.alloc (.cells #[.slice p.ia p.ins.length p.ic, .bool p.e, .int .i64 p.cond, .int .i64 p.next, .int .i64 p.els] 47) = zb := ⟨_, rfl⟩
       have QB : Hid (Q z3 zb) := by show Q z3 zb; rw [← hzb]; exact (Q.refl z3).alloc _
       have hbx : zb.heap[z3.heap.size]? = some (.cells p.cells.toArray 47 (0, 0)) := by rw [← hzb]; exact heap_alloc_new z3 _
       have HBX := hideIt hbx
       have HZB := hideIt hzb
       obtain ⟨bx, hbxe⟩ : ∃ bx, z3.heap.size = bx := ⟨_, rfl⟩
       rw [hbxe] at HBX
       have HBL : Hid (z3.heap.size ≤ bx) := by show z3.heap.size ≤ bx; omega
       obtain ⟨b0, b1, b2, b3, b4⟩ := (At.block HBX.out).five
       have fb3 := free_of_block HBX.out 3
       have fb4 := free_of_block HBX.out 4
       have HRN : Hid (renP l p = if p.e then { p with next := 0, els := 0 } else if p.cond < 0 then goP p (numL l p.next.toNat) else { p with next := numL l p.next.toNat, els := numL l p.els.toNat }) := rfl
       have SEQ : Hid (z3.alloc (.cells #[.slice p.ia p.ins.length p.ic, .bool p.e, .int .i64 p.cond, .int .i64 p.next, .int .i64 p.els] 47) = zb) := hzb
       clear ho hp hbx hzb hilj HIJ
       have QG : Hid (∀ Y, Q z3 Y → ∀ v, Q z3 (Y.setCell ⟨bx, 3, none⟩ v)) := fun Y q v => q.set (p := ⟨bx, 3, none⟩) HBL.out v
       cases he : p.e with
       | true =>
        have hrn : (renP l p).cells = [.slice p.ia p.ins.length p.ic, .bool true, .int .i64 p.cond, .int .i64 0, .int .i64 0] := by rw [HRN.out, if_pos he]; show [_, Value.bool p.e, _, _, _] = _; rw [he]
        rw [he] at d1 b1 SEQ
        have QX : Hid (Q z3 ((zb.setCell ⟨bx, 3, none⟩ (.int .i64 0)).setCell ⟨bx, 4, none⟩ (.int .i64 0))) := ((QB.out.set (p := ⟨bx, 3, none⟩) HBL.out _).set (p := ⟨bx, 4, none⟩) HBL.out _)
        obtain ⟨⟨k0, k1, k2, k3, k4⟩, kf⟩ := K5.out _ QX.out
        have kf0 := kf (j * 5)
        have kf1 := kf (j * 5 + 1)
        have kf2 := kf (j * 5 + 2)
        have kf3 := kf (j * 5 + 3)
        have kf4 := kf (j * 5 + 4)
        have SF := hideIt (ST.out _ QX.out _ _ _ _ _ hrn)
        have HHB := hideIt hbxe
        clear kf hrn he hbxe hwy
        go_upto_region 20 with (fail)
        rw [SEQ.out, HHB.out]
        go_wp2_with (fail)
        go_roundw
        case rel => exact ⟨j + 1, by go_num, by omega, SF⟩
        case measure => simp [intOf]; omega
       | false =>
        rw [he] at d1 b1 SEQ
        obtain ⟨n1, n2⟩ := hwy.nx he
        obtain ⟨nx, hnx⟩ : ∃ nx : Nat, p.next = (nx : Int) := ⟨p.next.toNat, by omega⟩
        have hni : (nx : Int) < (k : Int) := by omega
        rw [hnx] at d3 b3 SEQ
        by_cases hc : p.cond < 0
        ·have hd : decide (p.cond < 0) = true := by simpa using hc
         have hrn : (renP l p).cells = [.slice p.ia p.ins.length p.ic, .bool false, .int .i64 (-1), .int .i64 (numL l nx : Int), .int .i64 0] := by rw [HRN.out, if_neg (by simp [he]), if_pos hc, hnx, Int.toNat_natCast]; show [_, Value.bool p.e, _, _, _] = _; rw [he]; rfl
         have hatb : At zb bx 0 p.cells := At.block HBX.out
         have CG : Hid (Calls Try.prog 43 #[.pointer (some ⟨bx, 0, none⟩), .int .i64 (numL l nx : Int)] zb fun e w' => e = .returned (.tuple #[]) ∧ w' = goW zb bx 0 (numL l nx : Int)) := goOn_any zb bx 0 p hatb (fun j => free_of_block HBX.out j) _
         have QX : Hid (Q z3 (goW zb bx 0 (numL l nx : Int))) := (((QB.out.set (p := ⟨bx, 0 + 2, none⟩) HBL.out _).set (p := ⟨bx, 0 + 3, none⟩) HBL.out _).set (p := ⟨bx, 0 + 4, none⟩) HBL.out _)
         obtain ⟨⟨k0, k1, k2, k3, k4⟩, kf⟩ := K5.out _ QX.out
         have kf0 := kf (j * 5)
         have kf1 := kf (j * 5 + 1)
         have kf2 := kf (j * 5 + 2)
         have kf3 := kf (j * 5 + 3)
         have kf4 := kf (j * 5 + 4)
         have SF := hideIt (ST.out _ QX.out _ _ _ _ _ hrn)
         have HHB := hideIt hbxe
         have nm := NUM.out zb QB.out nx (by omega)
         clear kf hrn he hbxe hwy hnx n1 n2 hc hatb
         go_upto_region 20 with (fail)
         rw [SEQ.out, HHB.out]
         go_wp2_with (first | (go_at_call 43; refine CG.out.mono ?_; rintro e y ⟨rfl, rfl⟩) | fail)
         go_roundw
         case rel => exact ⟨j + 1, by go_num, by omega, SF⟩
         case measure => simp [intOf]; omega
        ·have hd : decide (p.cond < 0) = false := by simpa using hc
         obtain ⟨m1, m2⟩ := hwy.el he (by omega)
         obtain ⟨el, hel⟩ : ∃ el : Nat, p.els = (el : Int) := ⟨p.els.toNat, by omega⟩
         have hei : (el : Int) < (k : Int) := by omega
         rw [hel] at d4 b4 SEQ
         have hrn : (renP l p).cells = [.slice p.ia p.ins.length p.ic, .bool false, .int .i64 p.cond, .int .i64 (numL l nx : Int), .int .i64 (numL l el : Int)] := by rw [HRN.out, if_neg (by simp [he]), if_neg hc, hnx, hel, Int.toNat_natCast, Int.toNat_natCast]; show [_, Value.bool p.e, _, _, _] = _; rw [he]
         have QX0 : Hid (Q z3 ((zb.setCell ⟨bx, 3, none⟩ (.int .i64 (numL l nx : Int))).setCell ⟨bx, 4, none⟩ (.int .i64 (numL l el : Int)))) := ((QB.out.set (p := ⟨bx, 3, none⟩) HBL.out _).set (p := ⟨bx, 4, none⟩) HBL.out _)
         have QX : Hid (Q z3 ((zb.setCell ⟨bx, 3, none⟩ (.int .i64 (numL l nx : Int))).setCell ⟨bx, 4, none⟩ (.int .i64 (numL l el : Int))).drew) := QX0.out.drew
         obtain ⟨⟨k0, k1, k2, k3, k4⟩, kf⟩ := K5.out _ QX0.out
         have kf0 := kf (j * 5)
         have kf1 := kf (j * 5 + 1)
         have kf2 := kf (j * 5 + 2)
         have kf3 := kf (j * 5 + 3)
         have kf4 := kf (j * 5 + 4)
         have SF := hideIt (ST.out _ QX0.out _ _ _ _ _ hrn)
         have HHB := hideIt hbxe
         have nm := NUM.out zb QB.out nx (by omega)
         have nm2 := NUM.out zb QB.out el (by omega)
         clear kf hrn he hbxe hwy hnx hel n1 n2 m1 m2 hc
         go_upto_region 20 with (fail)
         rw [SEQ.out, HHB.out]
         go_wp2_with (fail)
         go_region
         all_goals go_wp2_with (fail)
         all_goals go_roundw
         case rel => exact ⟨j + 1, by go_num, by omega, drew_k SF.out⟩
         case measure => simp [intOf]; omega
      ·have hji : ¬ (j : Int) < (l.length : Int) := by omega
       obtain rfl : j = l.length := by omega
       go_wp2_with (fail)
       go_ret
       have h := K1.out.2.2.2
       rw [← hil, Nat.sub_self, List.replicate_zero, List.append_nil, List.take_length] at h
       exact ⟨K, l.length, rfl, rfl, HK1.out, h, K1.out.1⟩
end Go.Proofs.Ytphknepblchkdaa.Fl
