/-
  How many calls a function has, whether calls are done in it, whether it is small (calls, takesCalls, isSmall of inline): contracts over the program; the conditions: the function lies in memory, and isn't too long to be counted.
  The bodies that are done in the place of calls (bodiesOf of inline): a contract over the program.
-/
import Derived.Test.YtnaflfpkkbfnfaaKInC
import Derived.Test.YtnaflfpkkbfnfaaKIrX
import Derived.Test.YtnaflfpkkbfnfaaKIrZc
import Derived.BigQuiet
import Derived.BigRegion
import Derived.Deep.RegionHeld3
import Derived.Test.YtnaflfpkkbfnfaaKInP
namespace Go.Proofs.Ytnaflfpkkbfnfaa.In
open Go.RowKit
set_option linter.unusedVariables false

def cTo (l : List PP) (k : Nat) : Nat := ((l.take k).map fun p => callsL p.ins).sum
theorem cTo_succ {l : List PP} {k : Nat} {p : PP} (h : l[k]? = some p) : cTo l (k + 1) = cTo l k + callsL p.ins := by unfold cTo; rw [List.take_add_one, h]; simp
theorem cTo_all (f : PF) : cTo f.parts f.parts.length = callsP f := by unfold cTo callsP; rw [List.take_length]
theorem callsL_succ {l : List PI} {k : Nat} {x : PI} (h : l[k]? = some x) : callsL (l.take (k + 1)) = callsL (l.take k) + (if x.op = 32 then 1 else 0) := by
  unfold callsL
  rw [List.take_add_one, h, List.countP_append]
  by_cases e : x.op = 32 <;> simp [e]
theorem callsL_le (l : List PI) : callsL l ≤ l.length := List.countP_le_length
theorem cTo_le (l : List PP) : ∀ k, cTo l k ≤ cntS l := fun k => by
  unfold cTo cntS
  induction l generalizing k with
  | nil => simp
  | cons a l ih =>
    cases k with
    | zero => simp
    | succ k =>
      have := ih k
      have h2 := callsL_le a.ins
      simp only [List.take_succ_cons, List.map_cons, List.sum_cons]
      omega
theorem cTo_le2 {l : List PP} {k : Nat} {p : PP} (h : l[k]? = some p) : cTo l k + p.ins.length ≤ cntS l := by
  unfold cTo cntS
  induction l generalizing k with
  | nil => simp at h
  | cons a l ih =>
    cases k with
    | zero => simp at h; subst h; simp; omega
    | succ k =>
      have := ih (k := k) (by simpa using h)
      have h2 := callsL_le a.ins
      simp only [List.take_succ_cons, List.map_cons, List.sum_cons]
      omega

set_option maxRecDepth 100000 in
set_option maxHeartbeats 4000000 in
theorem calls_any (w : World) (fb fo : Nat) (f : PF) (hf : At w fb fo f.cells) (hok : f.ok w) (hs : cntS f.parts ≤ 2000000000000) : Calls Try.prog 36 #[.pointer (some ⟨fb, fo, none⟩)] w fun e w' => e = .returned (.int .i64 (callsP f : Int)) ∧ Q w w' := by
  obtain ⟨f0, f1, f2, f3⟩ := hf.four
  have hl := hok.psok.len
  have HP := hideIt (fun (y : World) (hy : Q w y) => (hok.keep hy).parts)
  have HA := hideIt (cTo_all f)
  clear hf hok
  go_enter Try.func36, Try.ntmps36
  go_wp2_with (fail)
  go_loopw [3, 5, 7, 13] (fun n d5 d7 i wr => ∃ (k : Nat), n = .int .i64 (cTo f.parts k : Int) ∧ i = .int .i64 k ∧ k ≤ f.parts.length ∧ Hid (Q w wr)) (fun _ _ _ i _ => f.parts.length - (intOf i).toNat)
  case atStart => exact ⟨0, rfl, rfl, Nat.zero_le _, hideIt (Q.refl w)⟩
  case round =>
    obtain ⟨k, rfl, rfl, hk, HQ⟩ := hrel
    generalize wr = y at *
    clear f0 f1 f2 f3
    by_cases hlt : k < f.parts.length
    · obtain ⟨p, hp⟩ := get_of_lt hlt
      obtain ⟨pb, po, ea, hat, hpo⟩ := HP.out y HQ.out k p hp
      obtain ⟨p0, p1, p2, p3, p4⟩ := hat.five
      have hkl : (k : Int) < (f.parts.length : Int) := by omega
      have hc2 := cTo_le2 hp
      have HS := hideIt (cTo_succ hp)
      have hil := hpo.sok.len
      rw [show (Value.slice f.pa f.parts.length f.pc) = .slice (some ⟨pb, po, none⟩) f.parts.length f.pc by rw [ea]]
      have HI := hideIt (fun (z : World) (hz : Q y z) => (hpo.keep hz).ins)
      clear ea hat hpo hp
      generalize hcn : cTo f.parts k = cn at *
      go_wp2_with (fail)
      clear p0 p1 p2 p3 p4
      have QB : Hid (Q y (y.alloc (.cells #[.slice p.ia p.ins.length p.ic, .bool p.e, .int .i64 p.cond, .int .i64 p.next, .int .i64 p.els] 39))) := (Q.refl y).alloc _
      generalize y.alloc (.cells #[.slice p.ia p.ins.length p.ic, .bool p.e, .int .i64 p.cond, .int .i64 p.next, .int .i64 p.els] 39) = y1 at QB ⊢
      go_loopw [3, 7, 20] (fun n d7 i wr => ∃ (j : Nat), n = .int .i64 ((cn + callsL (p.ins.take j) : Nat) : Int) ∧ i = .int .i64 j ∧ j ≤ p.ins.length ∧ Hid (Q y wr)) (fun _ _ i _ => p.ins.length - (intOf i).toNat)
      case atStart => exact ⟨0, by simp [callsL], rfl, Nat.zero_le _, QB⟩
      case round =>
        obtain ⟨j, rfl, rfl, hj, HQ2⟩ := hrel
        generalize wr = y2 at *
        clear QB
        by_cases hlt2 : j < p.ins.length
        · obtain ⟨x, hxj⟩ := get_of_lt hlt2
          obtain ⟨ib, io, ei, hat2, hxo⟩ := HI.out y2 HQ2.out j x hxj
          obtain ⟨k0, k1, k2, k3, k4, k5, k6⟩ := hat2.seven
          have hjl : (j : Int) < (p.ins.length : Int) := by omega
          have HS2 := hideIt (callsL_succ hxj)
          have hle : callsL (p.ins.take j) ≤ j := Nat.le_trans (callsL_le _) (by rw [List.length_take]; omega)
          rw [show (Value.slice p.ia p.ins.length p.ic) = .slice (some ⟨ib, io, none⟩) p.ins.length p.ic by rw [ei]]
          clear ei hat2 hxo hxj
          have QC : Hid (Q y (y2.alloc (.cells #[.int .u8 x.op, .int .u8 x.ty, .int .i64 x.dst, .int .i64 x.a, .int .i64 x.b, .int .i64 x.imm, .slice x.aa x.args.length x.ac] 41))) := HQ2.out.alloc _
          generalize callsL (p.ins.take j) = cj at *
          by_cases h32 : x.op = 32
          · have e1 : (x.op == 32) = true := by simpa using h32
            have e2 := HS2.out
            rw [if_pos h32] at e2
            have E2 := hideIt e2
            clear e2 h32
            go_wp2_with (fail)
            go_roundw
            case rel => exact ⟨j + 1, by rw [E2.out]; go_num, by go_num, by omega, QC⟩
            case measure => simp [intOf]; omega
          · have e1 : (x.op == 32) = false := by simpa using h32
            have e2 := HS2.out
            rw [if_neg h32] at e2
            have E2 := hideIt e2
            clear e2 h32
            go_wp2_with (fail)
            go_roundw
            case rel => exact ⟨j + 1, by rw [E2.out]; rfl, by go_num, by omega, QC⟩
            case measure => simp [intOf]; omega
        · have ej : j = p.ins.length := by omega
          subst ej
          have hlt3 : ¬ (p.ins.length : Int) < (p.ins.length : Int) := by omega
          go_wp2_with (fail)
          go_roundw
          case rel =>
            refine ⟨k + 1, ?_, by go_num, by omega, hideIt (HQ.out.trans HQ2.out)⟩
            have := HS.out
            rw [List.take_length, this]
          case measure => simp [intOf]; omega
    · have ek : k = f.parts.length := by omega
      subst ek
      have hlt3 : ¬ (f.parts.length : Int) < (f.parts.length : Int) := by omega
      go_wp2_with (fail)
      go_ret
      exact ⟨by rw [HA.out]; rfl, HQ.out⟩

set_option maxRecDepth 100000 in
set_option maxHeartbeats 4000000 in
theorem takes_any (w : World) (fb fo : Nat) (f : PF) (hf : At w fb fo f.cells) (hok : f.ok w) (hs : cntS f.parts ≤ 2000000000000) : Calls Try.prog 20 #[.pointer (some ⟨fb, fo, none⟩)] w fun e w' => e = .returned (.bool (takesP f)) ∧ Q w w' := by
  have CC := hideIt (calls_any w fb fo f hf hok hs)
  have HF := hideIt (fun (y : World) (hy : Q w y) => (hf.keep hy).four)
  unfold takesP
  have e1 : decide (callsP f ≤ 10) = decide ((callsP f : Int) ≤ 10) := by simp; omega
  have e2 : decide (f.parts.length ≤ 100) = decide ((f.parts.length : Int) ≤ 100) := by simp; omega
  rw [e1, e2]
  have E1 := hideIt e1
  clear hf hok hs e1 e2
  go_enter Try.func20, Try.ntmps20
  generalize hb1 : decide ((callsP f : Int) ≤ 10) = b1 at *
  generalize hb2 : decide ((f.parts.length : Int) ≤ 100) = b2 at *
  generalize hb3 : decide (f.regs ≤ 1000) = b3 at *
  cases b1 <;> cases b2 <;> cases b3 <;>
  · go_wp2_with (first | (go_at_call 36; refine CC.out.mono ?_; rintro e y ⟨rfl, q⟩; have HQ := hideIt q; obtain ⟨f0, f1, f2, f3⟩ := HF.out y q; clear q) | fail)
    go_ret
    exact ⟨rfl, HQ.out⟩

/-- The code of one function alone. -/
def alone (f : PF) (g : Nat) : PC := ⟨[], [], [f], none, 0, none, 0, some ⟨g, 0, none⟩, 1⟩
theorem alone_ok {w : World} {f : PF} {g : Nat} (hok : f.ok w) (hg : At w g 0 f.cells) : (alone f g).ok w :=
  ⟨sok_none _, Lst.nil, sok_none _, Lst.nil, ⟨Nat.le_refl _, (by show 1 ≤ maxLen; decide), (fun e => by cases e), (by show 1 * 64 ≤ 140737488351232; omega)⟩, Lst.one ⟨hg, hok⟩⟩
theorem alone_n (f : PF) (g : Nat) : codeN (alone f g) = fnN f := by simp [codeN, alone]

set_option maxRecDepth 100000 in
set_option maxHeartbeats 4000000 in
theorem small_any (w : World) (fb fo : Nat) (f : PF) (hf : At w fb fo f.cells) (hok : f.ok w) (hs : cntS f.parts ≤ 2000000000000) : Calls Try.prog 34 #[.pointer (some ⟨fb, fo, none⟩)] w fun e w' => e = .returned (.bool (smallP f)) ∧ Q w w' := by
  obtain ⟨f0, f1, f2, f3⟩ := hf.four
  have HF := hideIt (fun (y : World) (hy : Q w y) => (hf.keep hy).four)
  have CC := hideIt (fun (y : World) (hy : Q w y) => calls_any y fb fo f (hf.keep hy) (hok.keep hy) hs)
  have hw : IntKind.i64.wrap (fnN f) = fnN f := by rw [cntS_fnN, IntKind.wrap_i64]; omega
  have CN : Hid (∀ y g, Q w y → At y g 0 f.cells → Calls Try.prog 18 #[.agg #[.slice none 0 0, .slice none 0 0, .slice (some ⟨g, 0, none⟩) 1 1]] y fun e w' => e = .returned (.int .i64 (fnN f)) ∧ Q y w') := fun y g hy hg => by
    have := count_any y (alone f g) (alone_ok (hok.keep hy) hg)
    rw [alone_n, hw] at this
    exact this
  have HSL : Hid (f.slots.length ≤ 9223372036854775807) := hok.ssok.len
  obtain ⟨W1, hW1⟩ : ∃ W1, (w.alloc (.cells #[.int .i64 f.params, .int .i64 f.regs, .slice f.sa f.slots.length f.sc, .slice f.pa f.parts.length f.pc] 35)).alloc (.cells #[.slice none 0 0, .slice none 0 0, .slice (some ⟨w.heap.size, 0, none⟩) 1 1] 26) = W1 := ⟨_, rfl⟩
  have q1 : Q w W1 := by rw [← hW1]; exact ((Q.refl w).alloc _).alloc _
  have B1 : W1.heap[w.heap.size]? = some (.cells #[.int .i64 f.params, .int .i64 f.regs, .slice f.sa f.slots.length f.sc, .slice f.pa f.parts.length f.pc] 35 (0, 0)) := by rw [← hW1]; exact heap_old _ (heap_new _ _)
  have B2 : W1.heap[w.heap.size + 1]? = some (.cells #[.slice none 0 0, .slice none 0 0, .slice (some ⟨w.heap.size, 0, none⟩) 1 1] 26 (0, 0)) := by rw [← hW1]; exact heap_new2 _ _ _
  have HB1 := hideIt B1
  have HB2 := hideIt B2
  have HQ1 := hideIt q1
  have HW := hideIt hW1
  have e1 : (callsP f == 0) = ((callsP f : Int) == 0) := by
    by_cases e : callsP f = 0
    · rw [e]; rfl
    · have h1 : (callsP f == 0) = false := beq_false_of_ne e
      have h2 : ((callsP f : Int) == 0) = false := beq_false_of_ne (by omega)
      rw [h1, h2]
  have e2 : (f.slots.length == 0) = ((f.slots.length : Int) == 0) := by
    by_cases e : f.slots.length = 0
    · rw [e]; rfl
    · have h1 : (f.slots.length == 0) = false := beq_false_of_ne e
      have h2 : ((f.slots.length : Int) == 0) = false := beq_false_of_ne (by omega)
      rw [h1, h2]
  unfold smallP
  rw [e1, e2]
  clear e1 e2 hf hok hs hw hW1 B1 B2 q1
  generalize hb1 : ((callsP f : Int) == 0) = b1 at *
  generalize hb2 : decide (fnN f ≤ 10) = b2 at *
  generalize hb3 : decide (f.regs ≤ 20) = b3 at *
  generalize hb4 : ((f.slots.length : Int) == 0) = b4 at *
  go_enter Try.func34, Try.ntmps34
  go_wp2_with (fail)
  rw [show (w.alloc (.cells #[.int .i64 f.params, .int .i64 f.regs, .slice f.sa f.slots.length f.sc, .slice f.pa f.parts.length f.pc] 35)).alloc (.cells #[.slice none 0 0, .slice none 0 0, .slice (some ⟨w.heap.size, 0, none⟩) 1 1] 26) = W1 from HW.out]
  clear f0 f1 f2 f3
  go_at_call 36
  refine Calls.mono (CC.out W1 HQ1.out) ?_
  rintro e y ⟨rfl, q⟩
  have HQ := hideIt (HQ1.out.trans q)
  have HY := hideIt q
  clear q
  obtain ⟨f0, f1, f2, f3⟩ := HF.out y HQ.out
  have b2 := heap_keep HY.out HB2.out
  have k0 : y.cell? ⟨w.heap.size + 1, 0, none⟩ = some (.slice none 0 0) := (cell_of_block b2 0).trans rfl
  have k1 : y.cell? ⟨w.heap.size + 1, 1, none⟩ = some (.slice none 0 0) := (cell_of_block b2 1).trans rfl
  have k2 : y.cell? ⟨w.heap.size + 1, 2, none⟩ = some (.slice (some ⟨w.heap.size, 0, none⟩) 1 1) := (cell_of_block b2 2).trans rfl
  clear b2
  have CN1 := hideIt (CN.out y w.heap.size HQ.out (At.block (cs := f.cells) (heap_keep HY.out HB1.out)))
  clear CN CC
  have hsl := HSL.out
  cases b1
  · clear k0 k1 k2
    cases b2 <;> cases b3 <;> cases b4 <;>
    · go_wp2_with (fail)
      go_ret
      exact ⟨rfl, HQ.out⟩
  · cases b2 <;> cases b3 <;> cases b4 <;>
    · go_wp2_with (first | (go_at_call 18; refine Calls.mono CN1.out ?_; rintro e z ⟨rfl, q⟩; have HZ := hideIt (HQ.out.trans q); clear k0 k1 k2 f0 f1 f2 f3; obtain ⟨f0, f1, f2, f3⟩ := HF.out z HZ.out; clear q) | fail)
      go_ret
      exact ⟨rfl, HZ.out⟩

end Go.Proofs.Ytnaflfpkkbfnfaa.In

namespace Go.Proofs.Ytnaflfpkkbfnfaa.In
open Go.RowKit Go.Deep Go.Shelf
set_option linter.unusedVariables false
attribute [local go_sem] Oper.semAt_some

theorem uBodT : Try.prog.underlying 55 = some (.slice 78) := by kernel_rfl
theorem infoBodT : (Try.prog.info? 78).map (fun i => (i.zero, i.size, i.bytes)) = some (some (.pointer none), 1, 8) := by kernel_rfl

/-- What stands for a function: nothing, or its body. -/
def GotB (w : World) (fb fo : Nat) (f : PF) (m : Nat) (pv : Value) (W : World) : Prop :=
  (smallP f = false ∧ pv = .pointer none) ∨ (smallP f = true ∧ ∃ q ua uc, w.heap.size < q ∧ pv = .pointer (some ⟨q, 0, none⟩) ∧ W.heap[q]? = some (.cells #[.pointer (some ⟨fb, fo + m * 4, none⟩), .slice ua (unP f).length uc] 81 (0, 0)) ∧ Ints W ua (unP f) ∧ ∀ b o, ua = some ⟨b, o, none⟩ → w.heap.size < b)
theorem GotB.keep {w W V : World} {fb fo m : Nat} {f : PF} {pv : Value} (h : GotB w fb fo f m pv W) (q : Q W V) : GotB w fb fo f m pv V := by
  rcases h with h | ⟨h1, p, ua, uc, h2, h3, h4, h5, h6⟩
  · exact .inl h
  · exact .inr ⟨h1, p, ua, uc, h2, h3, heap_keep q h4, h5.keep q, h6⟩
theorem GotB.set {w W : World} {fb fo m k : Nat} {f : PF} {pv u : Value} (h : GotB w fb fo f m pv W) : GotB w fb fo f m pv (W.setCell ⟨w.heap.size, k, none⟩ u) := by
  rcases h with h | ⟨h1, p, ua, uc, h2, h3, h4, h5, h6⟩
  · exact .inl h
  · refine .inr ⟨h1, p, ua, uc, h2, h3, (Below.heap_setCell _ _ _ _ (by show p ≠ w.heap.size; omega)).trans h4, fun j z hj => ?_, h6⟩
    obtain ⟨b, o, e1, e2, e3⟩ := h5 j z hj
    have := h6 b o e1
    exact ⟨b, o, e1, set_cell_ne e2 (fun e => by have := congrArg Addr.block e; dsimp only at this; omega), e3⟩
/-- The bodies of the first k. -/
structure BI (w : World) (fb fo : Nat) (l : List PF) (k : Nat) (pv : Nat → Value) (W : World) : Prop where
  q : Q w W
  at_ : W.heap[w.heap.size]? = some (.cells ((List.range l.length).map pv).toArray 78 (0, 0))
  got : ∀ m f, l[m]? = some f → m < k → GotB w fb fo f m (pv m) W
  rest : ∀ m, k ≤ m → pv m = .pointer none
theorem BI.keep {w W V : World} {fb fo k : Nat} {l : List PF} {pv : Nat → Value} (h : BI w fb fo l k pv W) (q : Q W V) : BI w fb fo l k pv V :=
  ⟨h.q.trans q, heap_keep q h.at_, fun m f h1 h2 => (h.got m f h1 h2).keep q, h.rest⟩
theorem BI.cellk {w W : World} {fb fo k0 k : Nat} {l : List PF} {pv : Nat → Value} (h : BI w fb fo l k0 pv W) (hk : k < l.length) : W.cell? ⟨w.heap.size, k, none⟩ = some (pv k) := by
  rw [cell_of_block h.at_]
  simp [hk]
theorem BI.none {w W : World} {fb fo k : Nat} {l : List PF} {pv : Nat → Value} (h : BI w fb fo l k pv W) {f : PF} (hk : l[k]? = some f) (hs : smallP f = false) : BI w fb fo l (k + 1) pv W :=
  ⟨h.q, h.at_, fun m g h1 h2 => by
    by_cases e : m = k
    · subst e; rw [hk] at h1; injection h1 with h1; subst h1
      exact .inl ⟨hs, h.rest m (Nat.le_refl _)⟩
    · exact h.got m g h1 (by omega), fun m hm => h.rest m (by omega)⟩
def updV (b : Nat → Value) (k : Nat) (x : Value) : Nat → Value := fun j => if j = k then x else b j
theorem BI.some {w W : World} {fb fo k : Nat} {l : List PF} {pv : Nat → Value} (h : BI w fb fo l k pv W) {f : PF} (hk : l[k]? = some f) (hs : smallP f = true) {q uc : Nat} {ua : Option Addr} (hq : w.heap.size < q)
    (h1 : W.heap[q]? = Option.some (.cells #[.pointer (Option.some ⟨fb, fo + k * 4, Option.none⟩), .slice ua (unP f).length uc] 81 (0, 0))) (h2 : Ints W ua (unP f)) (h3 : ∀ b o, ua = Option.some ⟨b, o, Option.none⟩ → w.heap.size < b) :
    BI w fb fo l (k + 1) (updV pv k (.pointer (Option.some ⟨q, 0, Option.none⟩))) (W.setCell ⟨w.heap.size, k, Option.none⟩ (.pointer (Option.some ⟨q, 0, Option.none⟩))) := by
  have hkl := (List.getElem?_eq_some_iff.1 hk).1
  refine ⟨h.q.set (p := ⟨w.heap.size, k, Option.none⟩) (Nat.le_refl _) _, (block_setCell h.at_ _).trans ?_, fun m g hm hlt => ?_, fun m hm => ?_⟩
  · congr 2
    refine Array.ext' ?_
    refine List.ext_getElem? fun j => ?_
    rw [Array.toList_setIfInBounds, List.getElem?_set]
    show (if k = j then _ else ((List.range l.length).map pv)[j]?) = ((List.range l.length).map (updV pv k _))[j]?
    rw [List.getElem?_map, List.getElem?_map]
    by_cases e : k = j
    · subst e
      simp [hkl, updV]
    · rw [if_neg e]
      by_cases hj : j < l.length
      · simp [hj, updV, Ne.symm e]
      · simp [hj]
  · by_cases e : m = k
    · subst e; rw [hk] at hm; injection hm with hm; subst hm
      have e2 : updV pv m (.pointer (Option.some ⟨q, 0, Option.none⟩)) m = .pointer (Option.some ⟨q, 0, Option.none⟩) := if_pos rfl
      rw [e2]
      exact GotB.set (.inr ⟨hs, q, ua, uc, hq, rfl, h1, h2, h3⟩)
    · have e2 : updV pv k (.pointer (Option.some ⟨q, 0, Option.none⟩)) m = pv m := if_neg e
      rw [e2]
      exact (h.got m g hm (by omega)).set
  · have e2 : updV pv k (.pointer (Option.some ⟨q, 0, Option.none⟩)) m = pv m := if_neg (by omega)
    rw [e2]; exact h.rest m (by omega)

set_option maxRecDepth 100000 in
set_option maxHeartbeats 4000000 in
theorem bodies_any (w : World) (fb fo : Nat) (cc : Nat) (l : List PF) (hf : Fns w (some ⟨fb, fo, none⟩) l) (hl : l.length ≤ 1000) (hcs : ∀ f ∈ l, cntS f.parts ≤ 2000000000000)
    (hv : ∀ f ∈ l, smallP f = true → f.parts ≠ [] ∧ f.parts.length ≤ 10 ∧ (0 ≤ f.regs ∧ f.regs ≤ 20) ∧ 0 ≤ f.params ∧ ∀ p ∈ f.parts, RP f.parts.length p) :
    Calls Try.prog 19 #[.slice (some ⟨fb, fo, none⟩) l.length cc] w fun e w' => ∃ pv, e = .returned (.slice (some ⟨w.heap.size, 0, none⟩) l.length l.length) ∧ BI w fb fo l l.length pv w' := by
  obtain ⟨N, hN⟩ : ∃ N, l.length = N := ⟨_, rfl⟩
  rw [hN] at hl ⊢
  have hmk := run_make_row' (P := Try.prog) 55 78 (.pointer none) 8 uBodT infoBodT rfl .i64 .i64 N (by omega) (by omega) w
  go_enter Try.func19, Try.ntmps19
  go_wp2_with (fail)
  obtain ⟨W0, hW0⟩ : ∃ W0, w.alloc (.cells (madeCells #[.pointer none] N) 78) = W0 := ⟨_, rfl⟩
  have HB0 : Hid (BI w fb fo l 0 (fun _ => .pointer none) W0) := by
    rw [← hW0]
    refine ⟨(Q.refl w).alloc _, (heap_alloc_new w _).trans ?_, fun m f _ h => absurd h (Nat.not_lt_zero _), fun _ _ => rfl⟩
    congr 2
    refine Array.ext (by simp [madeCells, hN]) (fun i h1 h2 => ?_)
    simp [madeCells, Nat.mod_one]
  have HS0 : Hid (w.heap.size < W0.heap.size) := by show w.heap.size < W0.heap.size; rw [← hW0]; simp
  rw [hW0]
  clear hmk hW0
  have HF := hideIt hf
  clear hf
  go_loopw [11] (fun i wr => ∃ (k : Nat) (pv : Nat → Value), i = .int .i64 (k : Int) ∧ k ≤ N ∧ Hid (BI w fb fo l k pv wr))
    (fun i _ => N - (intOf i).toNat)
  case atStart => exact ⟨0, _, rfl, Nat.zero_le _, HB0⟩
  case round =>
    obtain ⟨k, pv, rfl, hk, HB⟩ := hrel
    by_cases hlt : k < N
    · obtain ⟨f, hfk⟩ := get_of_lt (show k < l.length by omega)
      obtain ⟨fb', fo', epa, hfat, hfok⟩ := HF.out.keep HB.out.q k f hfk
      injection epa with epa
      injection epa with epa1 epa2
      subst epa1 epa2
      have hfm := List.mem_of_getElem? hfk
      have HSM := hideIt (small_any wr fb (fo + k * 4) f hfat hfok (hcs f hfm))
      have HV := hideIt (hv f hfm)
      have HUN := hideIt (fun (y : World) (q : Q wr y) (hs : smallP f = true) => unset_any y fb (fo + k * 4) f (hfat.keep q) (hfok.keep q) (HV.out hs).1 (HV.out hs).2.1 (HV.out hs).2.2.1 (HV.out hs).2.2.2.1 (HV.out hs).2.2.2.2)
      have HK := hideIt hfk
      have hkN : (k : Int) < (N : Int) := by omega
      clear hfk hfat hfok hfm
      obtain ⟨sm, hsm⟩ : ∃ sm, smallP f = sm := ⟨_, rfl⟩
      rw [hsm] at HSM HUN
      have HSE := hideIt hsm
      clear hsm
      cases sm with
      | false =>
        go_wp2_with (first | (go_at_call 34; refine HSM.out.mono ?_; rintro e y ⟨rfl, qy⟩; have QY := hideIt qy; clear qy) | fail)
        go_roundw
        case rel => exact ⟨k + 1, pv, by go_num, hlt, hideIt ((HB.out.keep QY.out).none HK.out HSE.out)⟩
        case measure => simp [intOf]; omega
      | true =>
        have HUN2 := hideIt (fun (y : World) (q : Q wr y) => HUN.out y q rfl)
        clear HUN
        go_wp2_with (first | (go_at_call 34; refine HSM.out.mono ?_; rintro e y ⟨rfl, qy⟩; have QY := hideIt qy; clear qy) | (go_at_call 35; refine (HUN2.out _ QY.out).mono ?_; rintro e z ⟨ua, uc, rfl, hi, qz, hnw⟩; have HI := hideIt hi; have QZ := hideIt qz; have HNW := hideIt hnw; have HB2 := hideIt ((HB.out.keep QY.out).keep qz); have cz := fun ob => BI.cellk (HB2.out.keep ((Q.refl z).alloc ob)) (k := k) (by omega); have fz := fun ob => free_of_block (HB2.out.keep ((Q.refl z).alloc ob)).at_ k; clear hi qz hnw) | fail)
        go_roundw
        case rel =>
          have hz : w.heap.size < z.heap.size := (Array.getElem?_eq_some_iff.1 HB2.out.at_).1
          have qa := (Q.refl z).alloc (.cells #[.pointer (some ⟨fb, fo + k * 4, none⟩), .slice ua (unP f).length uc] 81)
          refine ⟨k + 1, _, by go_num, hlt, hideIt ((HB2.out.keep qa).some HK.out HSE.out hz (heap_alloc_new z _) (HI.out.keep qa) (fun b o e => ?_))⟩
          have := HNW.out b o e
          have := QY.out.size
          have h3 := (Array.getElem?_eq_some_iff.1 HB.out.at_).1
          omega
        case measure => simp [intOf]; omega
    · obtain rfl : k = N := by omega
      go_wp2_with (fail)
      go_ret
      exact ⟨pv, rfl, by rw [← hN]; rw [← hN] at HB; exact HB.out⟩
end Go.Proofs.Ytnaflfpkkbfnfaa.In
