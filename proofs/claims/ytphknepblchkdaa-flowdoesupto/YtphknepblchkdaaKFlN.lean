/-
 How many ways lead to each part (countWays of flow): a contract over the program; the conditions are reached's.
 What is known of registers while parts are put together: a map, in memory (learn of flow); which part follows alone (alone): contracts over the program; the conditions: what they read lies in memory.
 Which part follows alone (alone of flow): a contract over the program; the conditions: the joiner, its parts, its ways lie in memory.
-/
import Derived.Test.YtphknepblchkdaaKFlK
import Derived.Maps.OwnOps
import Derived.Maps.OwnSet
import Derived.Maps.Views
import Derived.Maps.Keyed
import Derived.BigRegion
import Derived.Deep.QuietTactic
import Derived.BigQuiet
namespace Go.Proofs.Ytphknepblchkdaa.Fl
open Go.RowKit
set_option linter.unusedVariables false

/-! ### Plainly -/
noncomputable def cnV (L : List PP) (first k : Nat) (T : List Nat) : List Nat := (List.range L.length).map fun m => cntTo L first k m + T.count m
theorem cnV_len (L : List PP) (first k : Nat) (T : List Nat) : (cnV L first k T).length = L.length := by simp [cnV]
theorem cnV_get {L : List PP} {first k m : Nat} {T : List Nat} (h : m < L.length) : (cnV L first k T)[m]? = some (cntTo L first k m + T.count m) := by
 unfold cnV
 rw [List.getElem?_map, List.getElem?_range h]; rfl
theorem cnV_push {L : List PP} {first k m : Nat} {T : List Nat} (h : m < L.length) : (cnV L first k T).set m (cntTo L first k m + T.count m + 1) = cnV L first k (T ++ [m]) := by
 refine List.ext_getElem? fun n => ?_
 rw [List.getElem?_set]
 by_cases hn : n < L.length
 ·rw [cnV_get hn]
  split
  ·rename_i e
   subst e
   rw [if_pos (by rw [cnV_len]; exact h), cnV_get h, List.count_append]
   simp; omega
  ·rename_i e
   rw [cnV_get hn, List.count_append]
   have : List.count n [m] = 0 := List.count_eq_zero.2 (by simp; omega)
   rw [this]; rfl
 ·rw [List.getElem?_eq_none (by rw [cnV_len]; omega)]
  split
  ·rename_i e; omega
  ·rw [List.getElem?_eq_none (by rw [cnV_len]; omega)]
theorem cntTo_succ (L : List PP) (first k m : Nat) : cntTo L first (k + 1) m = cntTo L first k m + (if rchB L first k = true then (waysN ((L[k]?).getD zeroP)).count m else 0) := by
 unfold cntTo
 rw [List.range_succ, List.map_append, List.sum_append]
 simp; omega
theorem cnV_in {L : List PP} {first k : Nat} {p : PP} (hp : L[k]? = some p) (h : rchB L first k = true) : cnV L first k (waysN p) = cnV L first (k + 1) [] := by
 unfold cnV
 refine List.map_congr_left fun m _ => ?_
 rw [cntTo_succ, if_pos h, hp]
 simp
theorem cnV_out {L : List PP} {first k : Nat} (h : rchB L first k = false) : cnV L first k [] = cnV L first (k + 1) [] := by
 unfold cnV
 refine List.map_congr_left fun m _ => ?_
 rw [cntTo_succ, h]
 simp
theorem cnV_zero {L : List PP} {first : Nat} : (List.replicate L.length 0).set first 1 = cnV L first 0 [] := by
 refine List.ext_getElem? fun n => ?_
 rw [List.getElem?_set]
 by_cases hn : n < L.length
 ·rw [cnV_get hn]
  unfold cntTo
  split
  ·rename_i e; subst e; rw [if_pos (by simpa using hn)]; simp
  ·rename_i e
   rw [List.getElem?_replicate, if_pos hn, if_neg (by omega)]
   simp
 ·rw [List.getElem?_eq_none (l := cnV L first 0 []) (by rw [cnV_len]; omega)]
  split
  ·rename_i e; subst e; rw [if_neg (by simpa using hn)]
  ·rw [List.getElem?_eq_none (by simp; omega)]
theorem waysN_two (p : PP) : (waysN p).length ≤ 2 := by unfold waysN; split; simp; split <;> simp
theorem cntTo_le (L : List PP) (first m : Nat) : ∀ k, cntTo L first k m ≤ 1 + 2 * k
 | 0 => by unfold cntTo; simp; split <;> omega
 | k + 1 => by
  rw [cntTo_succ]
  have h1 := cntTo_le L first m k
  have h2 := waysN_two ((L[k]?).getD zeroP)
  have h3 := List.count_le_length (a := m) (l := waysN ((L[k]?).getD zeroP))
  split <;> omega
theorem cnV_last (L : List PP) (first : Nat) : cnV L first L.length [] = cntL L first := by
 unfold cnV cntL
 refine List.map_congr_left fun m _ => by simp

/-! ### In memory -/
structure CwW (w : World) (I J : Nat) (B : List Bool) (M : List Nat) (z : World) : Prop where
 q : Q w z
 hI : w.heap.size ≤ I
 ne : J ≠ I
 im : z.heap[I]? = some (.cells (NV M).toArray 3 (0, 0))
 jb : z.heap[J]? = some (.cells (B.map Value.bool).toArray 4 (0, 0))
section
variable {w z z' : World} {I J : Nat} {B : List Bool} {M : List Nat}
theorem CwW.keep (h : CwW w I J B M z) (q : Q z z') : CwW w I J B M z' := ⟨h.q.trans q, h.hI, h.ne, heap_keep q h.im, heap_keep q h.jb⟩
theorem CwW.cell (h : CwW w I J B M z) {m v : Nat} (hm : M[m]? = some v) : z.cell? ⟨I, m, none⟩ = some (.int .i64 (v : Int)) ∧ z.frozen? ⟨I, m, none⟩ = false := by
 refine ⟨?_, free_of_block h.im m⟩
 rw [cell_of_block h.im m]
 simpa using NV_get hm
theorem CwW.bit (h : CwW w I J B M z) {m : Nat} {b : Bool} (hm : B[m]? = some b) : z.cell? ⟨J, m, none⟩ = some (.bool b) := by
 rw [cell_of_block h.jb m]
 simp [hm]
theorem CwW.set (h : CwW w I J B M z) (m v : Nat) : CwW w I J B (M.set m v) (z.setCell ⟨I, m, none⟩ (.int .i64 (v : Int))) := by
 refine ⟨h.q.set (p := ⟨I, m, none⟩) h.hI _, h.hI, h.ne, ?_, (Below.heap_setCell _ _ _ _ h.ne).trans h.jb⟩
 rw [block_setCell h.im]
 congr 2
 rw [← NV_set]
 simp
end
theorem ns_set {w0 z : World} {wy : Option Addr} {l : List Nat} {I m : Nat} {v : Value} (h : Ns z wy l) (ha : ∀ g, wy = some ⟨g, 0, none⟩ → g ≠ I) : Ns (z.setCell ⟨I, m, none⟩ v) wy l := by
 rcases h with ⟨e, e'⟩ | ⟨e, g, e', hc⟩
 ·exact .inl ⟨e, e'⟩
 ·exact .inr ⟨e, g, e', fun j u hu => (World.cell?_of_block (a := ⟨g, j, none⟩) (Below.heap_setCell _ _ _ _ (ha g e'))).trans (hc j u hu)⟩

set_option maxRecDepth 100000 in
set_option maxHeartbeats 4000000 in
theorem countWays_any (w : World) (P pc N : Nat) (L : List PP) (hL : L.length = N) (hN : N ≤ 1000) (hw : WyL L) (hP : ∀ (k : Nat) (p : PP), L[k]? = some p → At w P (k * 5) p.cells) (first : Nat) (hf : first < N) :
  Calls Try.prog 49 #[.slice (some ⟨P, 0, none⟩) N pc, .int .i64 (first : Int)] w fun e w' => ∃ I, e = .returned (.slice (some ⟨I, 0, none⟩) N N) ∧ w.heap.size ≤ I ∧ w'.heap[I]? = some (.cells (NV (cntL L first)).toArray 3 (0, 0)) ∧ Q w w' := by
 have hmi := fun W => make_int N (by omega) W
 have CRC : Hid (∀ y, Q w y → Calls Try.prog 52 #[.slice (some ⟨P, 0, none⟩) N pc, .int .i64 (first : Int)] y fun e w' => ∃ I, e = .returned (.slice (some ⟨I, 0, none⟩) N N) ∧ y.heap.size ≤ I ∧ w'.heap[I]? = some (.cells ((rchL L first).map Value.bool).toArray 4 (0, 0)) ∧ Q y w') := fun y hy => reached_any y P pc N L hL hN hw (fun k p hp => (hP k p hp).keep hy) first hf
 obtain ⟨w1, hw1⟩ : ∃ w1, w.alloc (.cells (Array.replicate N (.int .i64 0)) 3) = w1 := ⟨_, rfl⟩
 have hz1 : w1.heap.size = w.heap.size + 1 := by rw [← hw1]; simp
 have q1 : Q w w1 := by rw [← hw1]; exact (Q.refl w).alloc _
 have b1 : w1.heap[w.heap.size]? = some (.cells (NV (List.replicate N 0)).toArray 3 (0, 0)) := by
  rw [← hw1, heap_alloc_new, ← NV_rep]
  congr 3
  try simp
 have f1 := free_of_block b1 first
 have c1 : w1.cell? ⟨w.heap.size, first, none⟩ = some (.int .i64 0) := by
  rw [cell_of_block b1 first]
  simp [NV, nv, hf]
 have b2 : (w1.setCell ⟨w.heap.size, first, none⟩ (.int .i64 1)).heap[w.heap.size]? = some (.cells (NV (cnV L first 0 [])).toArray 3 (0, 0)) := by
  rw [block_setCell b1]
  congr 2
  rw [← cnV_zero, hL, ← NV_set]
  simp
 have q2 : Hid (Q w (w1.setCell ⟨w.heap.size, first, none⟩ (.int .i64 1))) := q1.set (p := ⟨w.heap.size, first, none⟩) (Nat.le_refl _) _
 have s2 : (w1.setCell ⟨w.heap.size, first, none⟩ (.int .i64 1)).heap.size = w.heap.size + 1 := by rw [World.size_setCell, hz1]
 have B2 := hideIt b2
 have S2 := hideIt s2
 have hfi : (first : Int) < (N : Int) := by omega
 have HP := hideIt hP
 have HL := hideIt hL
 have HW := hideIt hw
 have HW1 := hideIt hw1
 clear hP hL hw b1 b2 s2 q1 hw1
 go_enter Try.func49, Try.ntmps49
 go_upto_region 2 with (fail)
 rw [show w.alloc (.cells (Array.replicate N (.int .i64 0)) 3) = w1 from HW1.out]
 clear hmi HW1
 go_wp2_with (first | (go_at_call 52; refine Calls.mono (CRC.out _ q2.out) ?_; rintro e y ⟨J, rfl, hJ, hb, hq⟩; have C0 : Hid (CwW w w.heap.size J (rchL L first) (cnV L first 0 []) y) := ⟨q2.out.trans hq, Nat.le_refl _, by have := S2.out; omega, heap_keep hq B2.out, hb⟩; clear hb hq hJ) | fail)
 clear CRC q2 B2 S2 c1 f1
 go_loopw [6, 7, 9, 20] (fun v6 v7 v9 v z => ∃ k : Nat, v = .int .i64 k ∧ k ≤ N ∧ Hid (CwW w w.heap.size J (rchL L first) (cnV L first k []) z)) (fun v6 v7 v9 v _ => N - (intOf v).toNat)
 case atStart => exact ⟨0, rfl, by omega, C0⟩
 case round =>
  obtain ⟨k, rfl, hk, C1⟩ := hrel
  generalize wr = z at *
  clear C0
  by_cases hlt : k < N
  ·have hki : (k : Int) < (N : Int) := by omega
   have hbk : (rchL L first)[k]? = some (rchB L first k) := by unfold rchL; simp [HL.out, hlt]
   have cb := C1.out.bit hbk
   clear hbk
   cases hr : rchB L first k with
   | false =>
    rw [hr] at cb
    have C2 : Hid (CwW w w.heap.size J (rchL L first) (cnV L first (k + 1) []) z) := by
     show CwW w w.heap.size J (rchL L first) (cnV L first (k + 1) []) z
     rw [← cnV_out hr]; exact C1.out
    clear hr
    go_wp2_with (fail)
    go_roundw
    case rel => exact ⟨k + 1, by go_num, by omega, C2⟩
    case measure => simp [intOf]; omega
   | true =>
    rw [hr] at cb
    obtain ⟨p, hp⟩ := get_of_lt (l := L) (k := k) (by rw [HL.out]; exact hlt)
    have hwy : Wy N p := by have := HW.out p (List.mem_of_getElem? hp); rwa [HL.out] at this
    have CW := hideIt (fun (y : World) (hy : Q w y) => ways_any2 y P (k * 5) N p ((HP.out k p hp).keep hy) hwy)
    have HWm := hideIt hwy.ways
    have HE := hideIt (cnV_in hp hr)
    have hwl := waysN_two p
    clear hr hwy hp
    go_wp2_with (first | (go_at_call 65; refine Calls.mono (CW.out _ C1.out.q) ?_; rintro e y ⟨wy, rfl, hn, hq, hgn⟩; have HN := hideIt hn; have C2 := hideIt (C1.out.keep hq); have HG : Hid (∀ g, wy = some ⟨g, 0, none⟩ → g ≠ w.heap.size) := (fun g e => by have h1 := hgn g e; have h2 := (Array.getElem?_eq_some_iff.1 C1.out.im).1; omega); clear hn hq hgn) | fail)
    clear CW C1 cb
    have C3 : Hid (CwW w w.heap.size J (rchL L first) (cnV L first k ((waysN p).take 0)) y) := C2
    clear C2
    go_loopw [9, 32] (fun v9 v32 z => ∃ j : Nat, v32 = .int .i64 j ∧ j ≤ (waysN p).length ∧ Hid (CwW w w.heap.size J (rchL L first) (cnV L first k ((waysN p).take j)) z) ∧ Hid (Ns z wy (waysN p))) (fun v9 v32 _ => (waysN p).length - (intOf v32).toNat)
    case atStart => exact ⟨0, rfl, by omega, C3, HN⟩
    case round =>
     obtain ⟨j, rfl, hj, C4, HN4⟩ := hrel
     generalize wr = z4 at *
     clear C3 HN
     by_cases hjl : j < (waysN p).length
     ·obtain ⟨m, hm⟩ := get_of_lt hjl
      have hmN : m < N := HWm.out m (List.mem_of_getElem? hm)
      obtain ⟨gy, hgy, hcy⟩ : ∃ gy, wy = some ⟨gy, 0, none⟩ ∧ z4.cell? ⟨gy, j, none⟩ = some (.int .i64 (m : Int)) := by
       rcases HN4.out with ⟨e, -⟩ | ⟨-, gy, e, h⟩
       ·rw [e] at hjl; simp at hjl
       ·exact ⟨gy, e, h j _ (NV_get hm)⟩
      obtain ⟨cm, fm⟩ := C4.out.cell (cnV_get (L := L) (first := first) (k := k) (m := m) (T := (waysN p).take j) (by rw [HL.out]; exact hmN))
      have hb1 := cntTo_le L first m k
      have hb2 := List.count_le_length (a := m) (l := (waysN p).take j)
      have hb3 : ((waysN p).take j).length ≤ 2 := by rw [List.length_take]; omega
      have C5 := hideIt (C4.out.set m (cntTo L first k m + ((waysN p).take j).count m + 1))
      rw [cnV_push (by rw [HL.out]; exact hmN), show (waysN p).take j ++ [m] = (waysN p).take (j + 1) from by rw [List.take_add_one, hm]; rfl] at C5
      have HN5 := hideIt (ns_set (w0 := z4) (I := w.heap.size) (m := m) (v := .int .i64 ((cntTo L first k m + ((waysN p).take j).count m + 1 : Nat) : Int)) HN4.out HG.out)
      have hcv : cntTo L first k m + ((waysN p).take j).count m ≤ 3000 := by omega
      generalize cntTo L first k m + ((waysN p).take j).count m = cv at *
      have hji : (j : Int) < ((waysN p).length : Int) := by omega
      have hmi : (m : Int) < (N : Int) := by omega
      have hce : ((cv + 1 : Nat) : Int) = (cv : Int) + 1 := by omega
      rw [hce] at C5 HN5
      subst hgy
      clear hm hb1 hb2 hb3
      go_wp2_with (fail)
      go_roundw
      case rel => exact ⟨j + 1, by go_num, by omega, C5, HN5⟩
      case measure => simp [intOf]; omega
     ·have hji : ¬ (j : Int) < ((waysN p).length : Int) := by omega
      have C5 : Hid (CwW w w.heap.size J (rchL L first) (cnV L first (k + 1) []) z4) := by
       show CwW w w.heap.size J (rchL L first) (cnV L first (k + 1) []) z4
       rw [← HE.out, ← List.take_length (l := waysN p), show (waysN p).length = j by omega]; exact C4.out
      go_wp2_with (fail)
      go_roundw
      case rel => exact ⟨k + 1, by go_num, by omega, C5⟩
      case measure => simp [intOf]; omega
  ·have hki : ¬ (k : Int) < (N : Int) := by omega
   obtain rfl : k = N := by omega
   go_wp2_with (fail)
   go_ret
   exact ⟨w.heap.size, rfl, Nat.le_refl _, by rw [← cnV_last, HL.out]; exact C1.out.im, C1.out.q⟩
end Go.Proofs.Ytphknepblchkdaa.Fl

namespace Go.Proofs.Ytphknepblchkdaa.Fl
open Go.RowKit
open Go.Maps (Keyed IsMap)
set_option linter.unusedVariables false

theorem lawK : Keyed Try.prog 3 := Go.Maps.int_keyed Try.underlying3
theorem zeroE (w : World) : (zeroValue 2).run Try.prog w = .ok (.int .i64 0) w := by kernel_rfl
theorem i64_wf {a : Int} (h : I64 a) : (Lit.int .i64 a).wf = true := by
 obtain ⟨h1, h2⟩ := h
 simp only [Lit.wf, Bool.and_eq_true, decide_eq_true_eq]
 exact ⟨h1, h2⟩
theorem kv_key {a : Int} (ha : I64 a) : keyOf Try.prog 3 (.int .i64 a) = some (.int .i64 a) := Go.Maps.keyOf_int_mk Try.underlying3 (i64_wf ha)
def cellR (v : Value) : Option (DataW Unit × List MemPlace) := match v with | .int .i64 a => some (.lit (.int .i64 a), []) | _ => none
theorem cellR_inv {v : Value} {z : DataW Unit × List MemPlace} (h : cellR v = some z) : ∃ a, v = .int .i64 a ∧ z = (.lit (.int .i64 a), []) := by
 unfold cellR at h
 split at h
 ·exact ⟨_, rfl, (Option.some.inj h).symm⟩
 ·cases h
def encD (o : Option Int) : DataW Unit := .lit (.int .i64 (o.getD 0))
/-- Block M is a map of at most n entries, that holds F. -/
def Mi (w : World) (M n : Nat) (F : KF) : Prop :=
 ∃ D : DataW Unit, w.ownsMap Try.prog 3 cellR M n D ∧ IsMap D ∧ ∀ a, I64 a → D.atKey (.int .i64 a) (encD none) = encD (F a) ∧ Maps.has D (.int .i64 a) = (F a).isSome
theorem mi_made (w : World) : Mi (w.alloc (.map #[] 0)) w.heap.size 0 (fun _ => none) :=
 ⟨_, World.ownsMap_made w _ _ _, Maps.isMap_empty, fun a _ => ⟨rfl, rfl⟩⟩
theorem Mi.kept {w w' : World} {M n : Nat} {F : KF} (h : Mi w M n F) (hb : w'.heap[M]? = w.heap[M]?) : Mi w' M n F := by
 obtain ⟨D, ⟨es, c, h1, h⟩, h2, h3⟩ := h
 exact ⟨D, ⟨es, c, hb.trans h1, h⟩, h2, h3⟩
theorem Mi.lt {w : World} {M n : Nat} {F : KF} (h : Mi w M n F) : M < w.heap.size := by
 obtain ⟨D, h1, _⟩ := h
 exact h1.lt
theorem Mi.q {w w' : World} {M n : Nat} {F : KF} (h : Mi w M n F) (q : Q w w') : Mi w' M n F := h.kept (q.block M h.lt)
theorem Mi.mono {w : World} {M n n' : Nat} {F : KF} (h : Mi w M n F) (hn : n ≤ n') : Mi w M n' F := by
 obtain ⟨D, h1, h2, h3⟩ := h
 exact ⟨D, h1.mono hn, h2, h3⟩
/-- What lies in cells lies apart from the map. -/
theorem Mi.ne {w : World} {M n : Nat} {F : KF} (h : Mi w M n F) {q : Addr} {v : Value} (hq : w.cell? q = some v) : q.block ≠ M := fun e => by
 obtain ⟨D, ⟨es, c, h1, h⟩, h2, h3⟩ := h
 unfold World.cell? at hq
 rw [e, h1] at hq
 simp at hq
theorem Mi.look {w : World} {M n : Nat} {F : KF} (h : Mi w M n F) {a : Int} (ha : I64 a) :
  (Instr.lookup 101 (.map (some M)) (.int .i64 a) true).run Try.prog w = .ok (.tuple #[.int .i64 ((F a).getD 0), .bool (F a).isSome]) w := by
 obtain ⟨D, h1, h2, h3⟩ := h
 obtain ⟨v, ps, hr, hv⟩ := h1.look_ok lawK Try.underlying101 (zeroE w) (zd := encD none) (zp := []) rfl (kv_key ha)
 rw [(h3 a ha).1] at hv
 rw [(h3 a ha).2] at hr
 obtain ⟨x, rfl, e⟩ := cellR_inv hv
 simp only [encD, Prod.mk.injEq, DataW.lit.injEq, Lit.int.injEq] at e
 rw [e.1.2]
 exact hr
theorem upd_at {D : DataW Unit} {F : KF} {a : Int} {o : Option Int} {D' : DataW Unit} (h1 : D'.atKey (.int .i64 a) (encD none) = encD o ∧ Maps.has D' (.int .i64 a) = o.isSome)
  (h2 : ∀ kl', kl' ≠ Lit.int .i64 a → D'.atKey kl' (encD none) = D.atKey kl' (encD none) ∧ Maps.has D' kl' = Maps.has D kl') (h3 : ∀ a, I64 a → D.atKey (.int .i64 a) (encD none) = encD (F a) ∧ Maps.has D (.int .i64 a) = (F a).isSome) :
  ∀ b, I64 b → D'.atKey (.int .i64 b) (encD none) = encD (updK F a o b) ∧ Maps.has D' (.int .i64 b) = (updK F a o b).isSome := by
 intro b hb
 by_cases e : b = a
 ·subst e
  simp only [updK, if_true]
  exact h1
 ·have : Lit.int .i64 b ≠ Lit.int .i64 a := fun q => e (by injection q)
  rw [(h2 _ this).1, (h2 _ this).2]
  simp only [updK, e, if_false]
  exact h3 _ hb
theorem Mi.store {w : World} {M n : Nat} {F : KF} (h : Mi w M n F) (hn : n < maxLen) {a : Int} (ha : I64 a) (v : Int) :
  ∃ w', (Instr.mapUpdate 101 (.map (some M)) (.int .i64 a) (.int .i64 v)).run Try.prog w = .ok () w' ∧ Mi w' M (n + 1) (updK F a (some v)) ∧ w.grownBy w' (some M) := by
 obtain ⟨D, h1, h2, h3⟩ := h
 obtain ⟨w', hr, ho, hg⟩ := h1.update lawK Try.underlying101 hn (kv_key ha) (val := .int .i64 v) (d := encD (some v)) (ps := []) rfl
 exact ⟨w', hr, ⟨_, ho, h2.put _ _, upd_at ⟨Maps.atKey_put_same h2 (lawK.key (kv_key ha)) _ _, Maps.has_put_same h2 (lawK.key (kv_key ha)) _⟩ (fun kl' e => ⟨Maps.atKey_put_other e _ _, Maps.has_put_other e _⟩) h3⟩, hg⟩
theorem Mi.drop {w : World} {M n : Nat} {F : KF} (h : Mi w M n F) {a : Int} (ha : I64 a) (ty : TypeId) :
  ∃ w', (Builtin.delete_ #[101, 3] ty #[.map (some M), .int .i64 a]).run Try.prog w = .ok (.tuple #[]) w' ∧ Mi w' M n (updK F a none) ∧ w.grownBy w' (some M) := by
 obtain ⟨D, h1, h2, h3⟩ := h
 obtain ⟨w', hr, ho, hg⟩ := h1.drop lawK Try.underlying101 (kv_key ha) ty
 exact ⟨w', hr, ⟨_, ho, h2.del _, upd_at ⟨Maps.atKey_del_same _, Maps.has_del_same⟩ (fun kl' e => ⟨Maps.atKey_del_other e _, Maps.has_del_other e⟩) h3⟩, hg.grown⟩
theorem fs_grown {w w' : World} {M : Nat} (h : w.grownBy w' (some M)) : Fs (· = M) w w' := ⟨h.os, h.tape, h.output, h.size, fun k hk hn => h.block k hk (fun e => hn (by injection e))⟩

/-! ### Instructions side by side -/
def InL (w : World) (a : Option Addr) (l : List PI) : Prop := ∀ k x, l[k]? = some x → ∃ g, a = some ⟨g, 0, none⟩ ∧ At w g (k * 7) x.cells ∧ I64 x.dst
theorem lrnL_take {F : KF} {l : List PI} {k : Nat} {x : PI} (h : l[k]? = some x) : lrnL F (l.take (k + 1)) = lrnI (lrnL F (l.take k)) x := by
 rw [List.take_add_one, h]
 unfold lrnL
 rw [List.foldl_append]; rfl
/-- In a round of learning: the map at M, all else as it was. -/
structure LnW (w : World) (jb M n : Nat) (F : KF) (z : World) : Prop where
 fs : Fs (· = M) w z
 mi : Mi z M n F
 jc : z.cell? ⟨jb, 2, none⟩ = some (.map (some M))
theorem LnW.keep {w z z' : World} {jb M n : Nat} {F : KF} (h : LnW w jb M n F z) (q : Q z z') : LnW w jb M n F z' := ⟨h.fs.trans (Fs.of_q q), h.mi.q q, cell_keep q h.jc⟩
theorem LnW.grown {w z z' : World} {jb M n n' : Nat} {F F' : KF} (h : LnW w jb M n F z) (hg : z.grownBy z' (some M)) (hm : Mi z' M n' F') : LnW w jb M n' F' z' :=
 ⟨h.fs.trans (fs_grown hg), hm, (fs_grown hg).cell h.jc (h.mi.ne h.jc)⟩
theorem LnW.at {w z : World} {jb M n : Nat} {F : KF} (h : LnW w jb M n F z) (hw : w.heap[M]? = none ∨ ∃ n0 F0, Mi w M n0 F0) {b o : Nat} {cs : List Value} (hc : At w b o cs) : At z b o cs := fun j hj => by
 have h1 := hc j hj
 obtain ⟨u, hu⟩ : ∃ u, cs[j]? = some u := ⟨cs[j], List.getElem?_eq_getElem hj⟩
 rw [hu] at h1 ⊢
 refine h.fs.cell h1 fun e => ?_
 dsimp only at e
 rcases hw with hw | ⟨n0, F0, hw⟩
 ·have := World.block_lt_of_cell? w _ h1
  dsimp only at this
  rw [e] at this
  rw [Array.getElem?_eq_none_iff] at hw
  omega
 ·exact hw.ne h1 e

set_option maxRecDepth 100000 in
set_option maxHeartbeats 4000000 in
theorem learn_any (w : World) (jb M n : Nat) (F : KF) (hm : Mi w M n F) (hj : w.cell? ⟨jb, 2, none⟩ = some (.map (some M))) (a : Option Addr) (c : Nat) (l : List PI) (hl : InL w a l) (hc : l.length ≤ c) (hb : n + l.length ≤ 100000000) :
  Calls Try.prog 67 #[.pointer (some ⟨jb, 0, none⟩), .slice a l.length c] w fun e w' => e = .returned (.tuple #[]) ∧ LnW w jb M (n + l.length) (lrnL F l) w' := by
 have L0 : Hid (LnW w jb M (n + 0) (lrnL F (l.take 0)) w) := ⟨Fs.refl _ _, hm, hj⟩
 have HM : Hid (w.heap[M]? = none ∨ ∃ n0 F0, Mi w M n0 F0) := .inr ⟨n, F, hm⟩
 have HL := hideIt hl
 have hbm : maxLen = 1152921504606846975 ∨ True := .inr trivial
 clear hm hj hl
 go_enter Try.func67, Try.ntmps67
 go_wp2_with (fail)
 go_loopw [5, 8] (fun v5 v z => ∃ k : Nat, v = .int .i64 k ∧ k ≤ l.length ∧ Hid (LnW w jb M (n + k) (lrnL F (l.take k)) z)) (fun v5 v _ => l.length - (intOf v).toNat)
 case atStart => exact ⟨0, rfl, by omega, L0⟩
 case round =>
  obtain ⟨k, rfl, hk, L1⟩ := hrel
  generalize wr = z at *
  clear L0
  by_cases hlt : k < l.length
  ·have hki : (k : Int) < (l.length : Int) := by omega
   obtain ⟨x, hx⟩ := get_of_lt hlt
   obtain ⟨g, rfl, hat, hdi⟩ := HL.out k x hx
   obtain ⟨x0, x1, x2, x3, x4, x5, x6⟩ := (L1.out.at HM.out hat).seven
   have HT := hideIt (lrnL_take (F := F) hx)
   have QA := hideIt ((Q.refl z).alloc (.cells #[.int .u8 x.op, .int .u8 x.ty, .int .i64 x.dst, .int .i64 x.a, .int .i64 x.b, .int .i64 x.imm, .slice x.aa x.args.length x.ac] 49))
   have RF : Hid (∀ y, Q (z.alloc (.cells #[.int .u8 x.op, .int .u8 x.ty, .int .i64 x.dst, .int .i64 x.a, .int .i64 x.b, .int .i64 x.imm, .slice x.aa x.args.length x.ac] 49)) y → Q z y ∧ y.cell? ⟨jb, 2, none⟩ = some (.map (some M)) ∧ y.cell? ⟨z.heap.size, 0, none⟩ = some (.int .u8 x.op) ∧ y.cell? ⟨z.heap.size, 2, none⟩ = some (.int .i64 x.dst) ∧ y.cell? ⟨z.heap.size, 5, none⟩ = some (.int .i64 x.imm)) := fun y q => by
    have hbx := heap_keep q (heap_alloc_new z (.cells #[.int .u8 x.op, .int .u8 x.ty, .int .i64 x.dst, .int .i64 x.a, .int .i64 x.b, .int .i64 x.imm, .slice x.aa x.args.length x.ac] 49))
    exact ⟨QA.out.trans q, (L1.out.keep (QA.out.trans q)).jc, (cell_of_block hbx 0).trans rfl, (cell_of_block hbx 2).trans rfl, (cell_of_block hbx 5).trans rfl⟩
   have CD := hideIt (fun (X : World) => dst_any x X)
   have hkb : n + k < maxLen := by unfold maxLen; omega
   cases hw : wrP x.op with
   | false =>
    have L2 : Hid (∀ y, Q z y → LnW w jb M (n + (k + 1)) (lrnL F (l.take (k + 1))) y) := fun y q => by
     have h := L1.out.keep q
     rw [HT.out]
     unfold lrnI
     rw [hw, if_neg (by simp)]
     exact ⟨h.fs, h.mi.mono (by omega), h.jc⟩
    rw [hw] at CD
    clear hw hx hat hdi
    go_wp2_with (first | (go_at_call 42; refine Calls.mono (CD.out _) ?_; rintro e y ⟨rfl, q⟩; have L3 := hideIt (L2.out _ (RF.out _ q).1); clear q) | fail)
    go_roundw
    case rel => exact ⟨k + 1, by go_num, by omega, L3⟩
    case measure => simp [intOf]; omega
   | true =>
    rw [hw] at CD
    by_cases h20 : x.op = 20
    ·have L2 : Hid (∀ y, Q (z.alloc (.cells #[.int .u8 x.op, .int .u8 x.ty, .int .i64 x.dst, .int .i64 x.a, .int .i64 x.b, .int .i64 x.imm, .slice x.aa x.args.length x.ac] 49)) y → ∃ Y, (Instr.mapUpdate 101 (.map (some M)) (.int .i64 x.dst) (.int .i64 x.imm)).run Try.prog y.drew = .ok () Y ∧ LnW w jb M (n + (k + 1)) (lrnL F (l.take (k + 1))) Y) := fun y q => by
      have h := L1.out.keep ((RF.out y q).1.drew)
      obtain ⟨Y, hr, hm, hg⟩ := h.mi.store hkb hdi x.imm
      refine ⟨Y, hr, ?_⟩
      rw [HT.out]
      unfold lrnI
      rw [hw, if_pos rfl, if_pos h20]
      exact h.grown hg hm
     have H20 := hideIt h20
     clear hw hx hat hdi h20
     go_wp2_with (first | (go_at_call 42; refine Calls.mono (CD.out _) ?_; rintro e y ⟨rfl, q⟩; obtain ⟨Y, hr, h2⟩ := L2.out _ q; obtain ⟨-, y1, y2, y3, y4⟩ := RF.out _ q; rw [show x.op = 20 from H20.out] at y2; have L3 := hideIt h2; clear q h2) | fail)
     go_region
     go_wp2_with (fail)
     go_roundw
     case rel => exact ⟨k + 1, by go_num, by omega, L3⟩
     case measure => simp [intOf]; omega
    ·have e20 : (x.op == 20) = false := by simpa using h20
     have L2 : Hid (∀ y, Q (z.alloc (.cells #[.int .u8 x.op, .int .u8 x.ty, .int .i64 x.dst, .int .i64 x.a, .int .i64 x.b, .int .i64 x.imm, .slice x.aa x.args.length x.ac] 49)) y → ∃ Y, (Builtin.delete_ #[101, 3] 0 #[.map (some M), .int .i64 x.dst]).run Try.prog y.drew = .ok (.tuple #[]) Y ∧ LnW w jb M (n + (k + 1)) (lrnL F (l.take (k + 1))) Y) := fun y q => by
      have h := L1.out.keep ((RF.out y q).1.drew)
      obtain ⟨Y, hr, hm, hg⟩ := h.mi.drop hdi 0
      refine ⟨Y, hr, ?_⟩
      rw [HT.out]
      unfold lrnI
      rw [hw, if_pos rfl, if_neg h20]
      exact h.grown hg (hm.mono (by omega))
     clear hw hx hat hdi h20
     go_wp2_with (first | (go_at_call 42; refine Calls.mono (CD.out _) ?_; rintro e y ⟨rfl, q⟩; obtain ⟨Y, hr, h2⟩ := L2.out _ q; obtain ⟨-, y1, y2, y3, y4⟩ := RF.out _ q; have L3 := hideIt h2; clear q h2) | fail)
     go_region
     go_wp2_with (fail)
     go_roundw
     case rel => exact ⟨k + 1, by go_num, by omega, L3⟩
     case measure => simp [intOf]; omega
  ·have hki : ¬ (k : Int) < (l.length : Int) := by omega
   obtain rfl : k = l.length := by omega
   go_wp2_with (fail)
   go_end0
   have h := L1.out
   rw [List.take_length] at h
   exact ⟨rfl, h⟩
end Go.Proofs.Ytphknepblchkdaa.Fl

namespace Go.Proofs.Ytphknepblchkdaa.Fl
open Go.RowKit
set_option linter.unusedVariables false

/-- What alone says of a part. -/
def alo1 (ws : List Nat) (n : Nat) (p : PP) : Option Nat := if onP p = true ∧ p.next.toNat ≠ n ∧ (ws[n]?).getD 0 ≠ 0 ∧ (ws[p.next.toNat]?).getD 0 = 1 then some p.next.toNat else none
theorem alo1_P {L : List PP} {ws : List Nat} {n : Nat} {p : PP} (hp : L[n]? = some p) : aloP L ws n = alo1 ws n p := by
 unfold aloP alo1
 rw [hp]

set_option maxRecDepth 100000 in
set_option maxHeartbeats 4000000 in
theorem alone_any (w : World) (jb P pc I ic N n : Nat) (ws : List Nat) (p : PP) (hn : n < N) (hws : ws.length = N) (hN : N ≤ 1000) (hwy : Wy N p) (hp : At w P (n * 5) p.cells) (c0 : w.cell? ⟨jb, 0, none⟩ = some (.slice (some ⟨P, 0, none⟩) N pc)) (c1 : w.cell? ⟨jb, 1, none⟩ = some (.slice (some ⟨I, 0, none⟩) N ic)) (hI : ∀ m v : Nat, ws[m]? = some v → w.cell? ⟨I, m, none⟩ = some (.int .i64 (v : Int))) :
  Calls Try.prog 50 #[.pointer (some ⟨jb, 0, none⟩), .int .i64 (n : Int)] w fun e w' => e = .returned (.tuple #[.int .i64 (((alo1 ws n p).getD 0 : Nat) : Int), .bool (alo1 ws n p).isSome]) ∧ Q w w' := by
 have CO := hideIt (fun (y : World) (hy : Q w y) => on_any y P (n * 5) p (hp.keep hy))
 obtain ⟨p0, p1, p2, p3, p4⟩ := hp.five
 have hni : (n : Int) < (N : Int) := by omega
 clear hp
 unfold alo1
 by_cases h1 : onP p = true
 ·obtain ⟨n1, n2⟩ := hwy.nx (by unfold onP at h1; simp at h1; exact h1.1)
  obtain ⟨nx, hnx⟩ : ∃ nx : Nat, p.next = (nx : Int) := ⟨p.next.toNat, by omega⟩
  rw [hnx] at p3 n1 n2
  rw [hnx, Int.toNat_natCast]
  rw [h1] at CO ⊢
  by_cases h2 : nx = n
  ·have d2 : ((nx : Int) == (n : Int)) = true := by simp [h2]
   rw [if_neg (fun q => q.2.1 h2)]
   clear h1 h2 hwy hnx hI
   go_enter Try.func50, Try.ntmps50
   go_wp2_with (fail)
   go_quiet (first | (go_at_call 66; exact Calls.quiet_of_same (CO.out _ ((Q.refl w).drewN _))) | fail)
   go_wp2_with (fail)
   go_ret2
   exact ⟨rfl, (Q.refl w).drewN _⟩
  ·obtain ⟨v, hv⟩ := get_of_lt (l := ws) (k := n) (by omega)
   have cv := hI n v hv
   have d2 : ((nx : Int) == (n : Int)) = false := by simp; omega
   rw [hv]
   by_cases h3 : v = 0
   ·have d3 : ((v : Int) == 0) = true := by simp [h3]
    rw [if_neg (fun q => q.2.2.1 h3)]
    clear h1 h2 h3 hwy hnx hI hv
    go_enter Try.func50, Try.ntmps50
    go_wp2_with (fail)
    go_quiet (first | (go_at_call 66; exact Calls.quiet_of_same (CO.out _ ((Q.refl w).drewN _))) | fail)
    go_wp2_with (fail)
    go_ret2
    exact ⟨rfl, (Q.refl w).drewN _⟩
   ·obtain ⟨u, hu⟩ := get_of_lt (l := ws) (k := nx) (by omega)
    have cu := hI nx u hu
    have d3 : ((v : Int) == 0) = false := by simp; omega
    rw [hu]
    by_cases h4 : u = 1
    ·have d4 : ((u : Int) != 1) = false := by simp [h4]
     rw [if_pos ⟨rfl, h2, h3, h4⟩]
     clear h1 h2 h3 h4 hwy hnx hI hv hu
     go_enter Try.func50, Try.ntmps50
     go_wp2_with (fail)
     go_quiet (first | (go_at_call 66; exact Calls.quiet_of_same (CO.out _ ((Q.refl w).drewN _))) | fail)
     go_wp2_with (fail)
     go_ret2
     exact ⟨rfl, (Q.refl w).drewN _⟩
    ·have d4 : ((u : Int) != 1) = true := by simp; omega
     rw [if_neg (fun q => h4 q.2.2.2)]
     clear h1 h2 h3 h4 hwy hnx hI hv hu
     go_enter Try.func50, Try.ntmps50
     go_wp2_with (fail)
     go_quiet (first | (go_at_call 66; exact Calls.quiet_of_same (CO.out _ ((Q.refl w).drewN _))) | fail)
     go_wp2_with (fail)
     go_ret2
     exact ⟨rfl, (Q.refl w).drewN _⟩
 ·have h1' : onP p = false := by simpa using h1
  rw [if_neg (fun q => h1 q.1)]
  rw [h1'] at CO
  clear h1 h1' hwy hI
  go_enter Try.func50, Try.ntmps50
  go_wp2_with (fail)
  go_quiet (first | (go_at_call 66; exact Calls.quiet_of_same (CO.out _ ((Q.refl w).drewN _))) | fail)
  go_wp2_with (fail)
  go_ret2
  exact ⟨rfl, (Q.refl w).drewN _⟩
end Go.Proofs.Ytphknepblchkdaa.Fl
