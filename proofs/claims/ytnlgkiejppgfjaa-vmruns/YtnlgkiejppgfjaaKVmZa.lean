/-
  The statements of layer 25: a word, the document's example, two outcomes alike: contracts over the program; no conditions but those that each bears.
  The statements of layer 25: the document's example, two outcomes alike: contracts over the program; no conditions but those that each bears.
  Two outcomes that are alike are told to be; an argument that is a program of the machine opens: facts over the program and over readings; the conditions: the traces lie in memory.
-/
import Derived.Test.YtnlgkiejppgfjaaKVmW
namespace Go.Proofs.Ytnlgkiejppgfjaa
open Go.RowKit
set_option linter.unusedVariables false

theorem and8 : ∀ t : Nat, t < 16 → bits .and .u8 (t : Int) 15 = (t : Int) := by decide
theorem word_any (o : Int) (t d a b : Nat) (i : Int) (w : World) (ho : 0 ≤ o ∧ o ≤ 255) (ht : t < 16) (hd : d < 16) (ha : a < 16) (hb : b < 16) (hi : 0 ≤ i ∧ i ≤ 4294967295) :
    Calls Try.prog 12 #[.int .u8 o, .int .u8 (t : Int), .int .u8 (d : Int), .int .u8 (a : Int), .int .u8 (b : Int), .int .u32 i] w fun e w' => e = .returned (.int .u64 (Cd.pk o t d a b i)) ∧ w' = w := by
  have e1 := hideIt (Cd.wrap_u (v := o) ⟨by omega, by omega⟩)
  have e2 := hideIt (Cd.wrap_u (v := (t : Int)) ⟨by omega, by omega⟩)
  have e3 := hideIt (Cd.wrap_u (v := (d : Int)) ⟨by omega, by omega⟩)
  have e4 := hideIt (Cd.wrap_u (v := (a : Int)) ⟨by omega, by omega⟩)
  have e5 := hideIt (Cd.wrap_u (v := (b : Int)) ⟨by omega, by omega⟩)
  have e6 := hideIt (Cd.wrap_u (v := i) ⟨by omega, by omega⟩)
  have f1 := hideIt (Cd.wrap_u (v := o * 72057594037927936) ⟨by omega, by omega⟩)
  have f2 := hideIt (Cd.wrap_u (v := (t : Int) * 4503599627370496) ⟨by omega, by omega⟩)
  have f3 := hideIt (Cd.wrap_u (v := (d : Int) * 281474976710656) ⟨by omega, by omega⟩)
  have f4 := hideIt (Cd.wrap_u (v := (a : Int) * 17592186044416) ⟨by omega, by omega⟩)
  have f5 := hideIt (Cd.wrap_u (v := (b : Int) * 1099511627776) ⟨by omega, by omega⟩)
  have g2 := and8 t ht
  have g3 := and8 d hd
  have g4 := and8 a ha
  have g5 := and8 b hb
  have r := hideIt (Cd.or_pk o t d a b i ho (by omega) (by omega) (by omega) (by omega) hi)
  clear ho ht hd ha hb hi
  go_enter Try.func12, Try.ntmps12
  go_wp2_with (fail)
  first | (go_ret; refine ⟨?_, rfl⟩; rw [e1.out, e2.out, e3.out, e4.out, e5.out, e6.out, f1.out, f2.out, f3.out, f4.out, f5.out, r.out]; rfl) | trace_state
end Go.Proofs.Ytnlgkiejppgfjaa

namespace Go.Proofs.Ytnlgkiejppgfjaa
open Go.RowKit
set_option linter.unusedVariables false

abbrev exI (n : Nat) : PIm := ⟨[Cd.pk 20 4 0 0 0 7, Cd.pk 34 0 0 0 0 0, Cd.pk 37 0 0 0 0 0], [0], [0], [], some ⟨n, 0, none⟩, 3, some ⟨n + 1, 0, none⟩, 1, some ⟨n + 2, 0, none⟩, 1, none, 0⟩
set_option maxRecDepth 100000 in
theorem ex_form (n : Nat) : formP (exI n) = true := by rfl
set_option maxRecDepth 100000 in
theorem ex_run (n : Nat) : runP (exI n) 9 = ⟨true, 7, 0, false, 3, [7]⟩ := by kernel_rfl
abbrev exW (w : World) : World := ((w.alloc (.cells #[.int .u64 (Cd.pk 20 4 0 0 0 7), .int .u64 (Cd.pk 34 0 0 0 0 0), .int .u64 (Cd.pk 37 0 0 0 0 0)] 41)).alloc (.cells #[.int .i64 0] 3)).alloc (.cells #[.int .i64 0] 3)
theorem one_lst {α : Type} {P : Nat → Nat → α → Prop} {b : Nat} {x : α} (h : P b 0 x) : Lst 1 P (some ⟨b, 0, none⟩) [x] := fun k y e => by
  cases k with
  | zero => simp at e; subst e; exact ⟨b, 0, rfl, h⟩
  | succ k => simp at e
theorem s3 (a : Addr) : sok 8 (some a) 3 3 := ⟨by decide, by decide, (fun e => by cases e), by decide⟩
theorem s1 (a : Addr) : sok 8 (some a) 1 1 := ⟨by decide, by decide, (fun e => by cases e), by decide⟩
theorem s0 : sok 8 none 0 0 := ⟨by decide, by decide, (fun _ => rfl), by decide⟩
theorem ex_ok {w X : World} (h : Q (exW w) X) : (exI w.heap.size).ok X := by
  have b0 : X.heap[w.heap.size]? = _ := (h.block _ (by simp; omega)).trans (heap_old _ (heap_old _ (heap_new w _)))
  have b1 : X.heap[w.heap.size + 1]? = some (.cells #[.int .i64 0] 3 (0, 0)) := (h.block _ (by simp)).trans (heap_old _ (heap_at (by simp)))
  have b2 : X.heap[w.heap.size + 2]? = some (.cells #[.int .i64 0] 3 (0, 0)) := (h.block _ (by simp)).trans (heap_at (by simp))
  refine ⟨s3 _, fun k x e => ?_, s1 _, one_lst ⟨cell_of_block b1 0, by unfold I64; omega⟩, s1 _, one_lst ⟨cell_of_block b2 0, by unfold I64; omega⟩, s0, fun k x e => by simp at e⟩
  match k, e with
  | 0, e => obtain rfl := Option.some.inj e; exact ⟨_, _, rfl, cell_of_block b0 0, by unfold Cd.U64 Cd.pk; omega⟩
  | 1, e => obtain rfl := Option.some.inj e; exact ⟨_, _, rfl, cell_of_block b0 1, by unfold Cd.U64 Cd.pk; omega⟩
  | 2, e => obtain rfl := Option.some.inj e; exact ⟨_, _, rfl, cell_of_block b0 2, by unfold Cd.U64 Cd.pk; omega⟩
  | k + 3, e => simp at e

set_option maxRecDepth 100000 in
set_option maxHeartbeats 2000000 in
theorem awake_any (w : World) : Calls Try.prog 8 #[] w fun e w' => e = .returned (.bool true) ∧ Q w w' := by
  have hq : Q w (exW w) := (((Q.refl w).alloc _).alloc _).alloc _
  have CW1 := hideIt (fun X => word_any 20 4 0 0 0 7 X (by decide) (by decide) (by decide) (by decide) (by decide) (by decide))
  have CW2 := hideIt (fun X => word_any 34 0 0 0 0 0 X (by decide) (by decide) (by decide) (by decide) (by decide) (by decide))
  have CW3 := hideIt (fun X => word_any 37 0 0 0 0 0 X (by decide) (by decide) (by decide) (by decide) (by decide) (by decide))
  have CR := hideIt (show ∀ X, Q (exW w) X → Calls Try.prog 9 #[.agg #[.slice (some ⟨w.heap.size, 0, none⟩) 3 3, .slice (some ⟨w.heap.size + 1, 0, none⟩) 1 1, .slice (some ⟨w.heap.size + 2, 0, none⟩) 1 1, .slice none 0 0], .int .i64 9] X fun e y => ∃ ta tc, e = .returned (.tuple #[.agg #[.bool true, .int .i64 7, .int .u8 0, .bool false, .int .i64 3, .slice ta 1 tc], .int .i64 0]) ∧ Q w y from fun X hX => by
    refine (run_good (im := exI w.heap.size) X (ex_ok hX) 9 (by omega) (ex_form _)).mono ?_
    rintro e y ⟨v, rfl, h⟩
    rw [ex_run] at h
    obtain ⟨ta, tc, rfl, -, hb⟩ := h
    exact ⟨ta, tc, rfl, (hq.trans hX).trans hb⟩)
  clear hq
  go_enter Try.func8, Try.ntmps8
  go_wp2_with (first | (go_at_call_of 12 (Value.int IntKind.u8 20); refine (CW1.out _).mono ?_; rintro e y1 ⟨rfl, rfl⟩) | (go_at_call_of 12 (Value.int IntKind.u8 34); refine (CW2.out _).mono ?_; rintro e y2 ⟨rfl, rfl⟩) | (go_at_call_of 12 (Value.int IntKind.u8 37); refine (CW3.out _).mono ?_; rintro e y3 ⟨rfl, rfl⟩) | (go_at_call 9; refine (CR.out _ ((Q.refl _).alloc _)).mono ?_; rintro e y4 ⟨ta, tc, rfl, qy⟩) | fail)
  go_ret
  exact ⟨rfl, qy.alloc _⟩
end Go.Proofs.Ytnlgkiejppgfjaa

namespace Go.Proofs.Ytnlgkiejppgfjaa
open Go.RowKit Go.Deep
set_option linter.unusedVariables false

/-- A trace lies in memory. -/
def Trc (w : World) (a : Option Addr) (l : List Int) : Prop := ∀ k x, l[k]? = some x → ∃ b o, a = some ⟨b, o, none⟩ ∧ w.cell? ⟨b, o + k, none⟩ = some (.int .i64 x)
theorem Trc.keep {w w' : World} {a : Option Addr} {l : List Int} (h : Trc w a l) (hq : Q w w') : Trc w' a l := fun k x e => by
  obtain ⟨b, o, e1, e2⟩ := h k x e
  exact ⟨b, o, e1, cell_keep hq e2⟩
theorem Trc.nil (w : World) (a : Option Addr) : Trc w a [] := fun k x e => by simp at e

set_option maxRecDepth 100000 in
set_option maxHeartbeats 2000000 in
theorem same_eq (w : World) (h : Bool) (x t : Int) (sp : Bool) (n : Nat) (l : List Int) (a b : Option Addr) (ca cb : Nat) (hlen : l.length ≤ 9223372036854775807) (ha : Trc w a l) (hb : Trc w b l) :
    Calls Try.prog 11 #[.agg #[.bool h, .int .i64 x, .int .u8 t, .bool sp, .int .i64 (n : Int), .slice a l.length ca], .agg #[.bool h, .int .i64 x, .int .u8 t, .bool sp, .int .i64 (n : Int), .slice b l.length cb]] w fun e w' => e = .returned (.bool true) ∧ Q w w' := by
  have hq0 : Q w ((w.alloc (.cells #[.bool h, .int .i64 x, .int .u8 t, .bool sp, .int .i64 (n : Int), .slice a l.length ca] 31)).alloc (.cells #[.bool h, .int .i64 x, .int .u8 t, .bool sp, .int .i64 (n : Int), .slice b l.length cb] 31)) := ((Q.refl w).alloc _).alloc _
  have HA := hideIt (ha.keep hq0)
  have HB := hideIt (hb.keep hq0)
  have HQ0 := hideIt hq0
  have KA : Hid (∀ X, Q ((w.alloc (.cells #[.bool h, .int .i64 x, .int .u8 t, .bool sp, .int .i64 (n : Int), .slice a l.length ca] 31)).alloc (.cells #[.bool h, .int .i64 x, .int .u8 t, .bool sp, .int .i64 (n : Int), .slice b l.length cb] 31)) X → X.cell? ⟨w.heap.size, 5, none⟩ = some (.slice a l.length ca) ∧ X.cell? ⟨w.heap.size + 1, 5, none⟩ = some (.slice b l.length cb)) := fun X hX => by
    constructor
    · exact cell_keep hX ((cell_of_block (heap_old _ (heap_at rfl)) 5).trans rfl)
    · exact cell_keep hX ((cell_of_block (heap_at (by simp)) 5).trans rfl)
  have e1 : (h != h) = false := by simp
  have e2 : (sp != sp) = false := by simp
  clear ha hb hq0
  go_enter Try.func11, Try.ntmps11
  go_wp2_with (fail)
  go_loopw [5] (fun i wr => ∃ (k : Nat), i = .int .i64 k ∧ k ≤ l.length ∧ Q ((w.alloc (.cells #[.bool h, .int .i64 x, .int .u8 t, .bool sp, .int .i64 (n : Int), .slice a l.length ca] 31)).alloc (.cells #[.bool h, .int .i64 x, .int .u8 t, .bool sp, .int .i64 (n : Int), .slice b l.length cb] 31)) wr) (fun i _ => l.length - (intOf i).toNat)
  case atStart => exact ⟨0, rfl, by omega, Q.refl _⟩
  case round =>
    obtain ⟨k, rfl, hk, hq⟩ := hrel
    have HQ := hideIt hq
    obtain ⟨k1, k2⟩ := KA.out _ hq
    clear hq
    by_cases hlt : k < l.length
    · obtain ⟨z, hz⟩ := get_of_lt hlt
      obtain ⟨b1, o1, e3, hc1⟩ := (Trc.keep HA.out HQ.out) k z hz
      obtain ⟨b2, o2, e4, hc2⟩ := (Trc.keep HB.out HQ.out) k z hz
      subst e3 e4
      have hkl : (k : Int) < (l.length : Int) := by omega
      clear hz
      go_wp2_with (fail)
      go_quiet (fail)
      go_wp2
      go_roundw
      case rel => exact ⟨k + 1, by go_num, by omega, Q.drewN HQ.out _⟩
      case measure => simp [intOf]; omega
    · go_wp2_with (fail)
      go_ret
      exact ⟨rfl, HQ0.out.trans HQ.out⟩

theorem same_zero (w : World) : Calls Try.prog 11 #[zeroO, zeroO] w fun e w' => e = .returned (.bool true) ∧ Q w w' :=
  same_eq w false 0 0 false 0 [] none none 0 0 (by decide) (Trc.nil _ _) (Trc.nil _ _)

theorem wf16 {z : Int} (h : (Lit.int .u16 z).wf = true) : 0 ≤ z ∧ z ≤ 65535 := by
  simp [Lit.wf, IntKind.min, IntKind.max, IntKind.bits, IntKind.signed] at h; omega

theorem own_trc {w : World} {B : Nat} {T : TypeId} {ta : Option Addr} {tc : Nat} {L : List Int} (h : w.ownsRow B T 1 (.slice ta L.length tc) L.length (rowI L)) : Trc w ta L := fun k x e => by
  obtain ⟨g, cap, cur, e0, e1, e2, -, -⟩ := row_at h e
  injection e0 with e0
  subst e0
  refine ⟨g, 0, rfl, ?_⟩
  rw [cell_of_block e1, Nat.zero_add]
  exact e2
theorem own_len {w : World} {B : Nat} {T : TypeId} {ta : Option Addr} {tc : Nat} {L : List Int} (h : w.ownsRow B T 1 (.slice ta L.length tc) L.length (rowI L)) : L.length ≤ 9223372036854775807 := by
  rcases h.2 with ⟨-, e1⟩ | ⟨g, cap, cur, e0, hb, hg, hnc, hcm, hcs, ht⟩
  · omega
  · unfold maxLen at hcm; omega
/-- The block of a trace that is one's own. -/
theorem own_blk {w : World} {B : Nat} {T : TypeId} {ta : Option Addr} {tc : Nat} {L : List Int} (h : w.ownsRow B T 1 (.slice ta L.length tc) L.length (rowI L)) : (ta = none ∧ L = []) ∨ ∃ g, ta = some ⟨g, 0, none⟩ ∧ B ≤ g ∧ g < w.heap.size := by
  rcases h.2 with ⟨e0, e1⟩ | ⟨g, cap, cur, e0, hb, hg, hnc, hcm, hcs, ht⟩
  · injection e0 with e0 e2 e3
    exact .inl ⟨e0, List.eq_nil_of_length_eq_zero e2⟩
  · injection e0 with e0
    exact .inr ⟨g, e0, hb, (Array.getElem?_eq_some_iff.1 hg).1⟩
theorem Trc.other {W z : World} {g : Nat} {a : Option Addr} {l : List Int} (h : Trc W a l) (hb : ∀ b o, a = some ⟨b, o, none⟩ → b ≠ g) (hz : ∀ b, b ≠ g → z.heap[b]? = W.heap[b]?) : Trc z a l := fun k x e => by
  obtain ⟨b, o, e1, e2⟩ := h k x e
  refine ⟨b, o, e1, ?_⟩
  have := hz b (hb b o e1)
  rw [← e2]
  simp [World.cell?, this]


def zeroP : Oc := ⟨false, 0, 0, false, 0, []⟩
/-- How a run ends, or the zero outcome; the error. -/
def resO (im : PIm) (k : Nat) : Oc := if formP im then runP im k else zeroP
def resE (im : PIm) : Int := if formP im then 0 else 3
theorem run_every (X : World) (im : PIm) (hok : im.ok X) (k : Nat) (hk : k ≤ 8388608) : Calls Try.prog 9 #[im.v, .int .i64 (k : Int)] X fun e w' => ∃ ta tc, e = .returned (.tuple #[.agg (ocA (resO im k).h (resO im k).x (resO im k).t (resO im k).sp (resO im k).n (.slice ta (resO im k).tr.length tc)), .int .i64 (resE im)]) ∧ w'.ownsRow X.heap.size 2 1 (.slice ta (resO im k).tr.length tc) (resO im k).tr.length (rowI (resO im k).tr) ∧ Q X w' := by
  unfold resO resE
  cases hF : formP im with
  | true =>
    rw [if_pos rfl, if_pos rfl]
    refine (run_good X hok k hk hF).mono ?_
    rintro e y ⟨v, rfl, ta, tc, rfl, h1, h2⟩
    exact ⟨ta, tc, rfl, h1, h2⟩
  | false =>
    rw [if_neg (by simp), if_neg (by simp)]
    refine (run_bad X hok k hk hF).mono ?_
    rintro e y ⟨rfl, h2⟩
    exact ⟨none, 0, rfl, World.ownsRow_nil _ _ _ _, h2⟩

/-! ### An argument opens -/
variable {H : Type} {enc : TypeId × Value → H} {w : World} {base : Nat} {spare : Nat → Bool} {held : Bool}
theorem Try.cellsInt : Try.prog.cellsOf 3 = 1 := by kernel_rfl
theorem Try.cellsI64 : Try.prog.cellsOf 2 = 1 := by kernel_rfl
theorem Try.cellsU64 : Try.prog.cellsOf 41 = 1 := by kernel_rfl
theorem Try.cellsInts : Try.prog.cellsOf 23 = 1 := by kernel_rfl
theorem Try.cellsI64s : Try.prog.cellsOf 24 = 1 := by kernel_rfl
theorem Try.cellsU64s : Try.prog.cellsOf 22 = 1 := by kernel_rfl
theorem Try.cellsImage : Try.prog.cellsOf 26 = 4 := by kernel_rfl
theorem Try.bytesInt : Try.prog.bytesOf 3 = 8 := by kernel_rfl
theorem Try.bytesI64 : Try.prog.bytesOf 2 = 8 := by kernel_rfl
theorem Try.bytesU64 : Try.prog.bytesOf 41 = 8 := by kernel_rfl
theorem wfu64 {z : Int} (h : (Lit.int .u64 z).wf = true) : Cd.U64 z := by
  have : 0 ≤ z ∧ z ≤ 18446744073709551615 := by simpa [Lit.wf, IntKind.min, IntKind.max, IntKind.signed, IntKind.bits] using h
  exact ⟨this.1, by omega⟩
theorem At.one {cs : List Value} {b o : Nat} {u : Value} (h : At w b o cs) (e : cs = [u]) : w.cell? ⟨b, o, none⟩ = some u := by
  subst e
  exact h.cell 0 _ rfl
theorem open_ints {fuel : Nat} {u : Value} {x : DataW H × List MemPlace} (h : DataW.trod enc Try.prog w base spare held fuel 23 [u] = some x) (hw : Light 23 x.1) : ∃ a c l, u = .slice a (List.length l) c ∧ sok 8 a l.length c ∧ Ints w a l :=
  open_lst Try.underlying23 Try.cellsInt Try.bytesInt h hw fun n cs y b o hn ht hy hat => by
    obtain ⟨z, c, _, wz⟩ := DataW.trod_int Try.underlying3 ht
    exact ⟨z, hat.one c, wf64 wz⟩
theorem open_i64s {fuel : Nat} {u : Value} {x : DataW H × List MemPlace} (h : DataW.trod enc Try.prog w base spare held fuel 24 [u] = some x) (hw : Light 24 x.1) : ∃ a c l, u = .slice a (List.length l) c ∧ sok 8 a l.length c ∧ Ints w a l :=
  open_lst Try.underlying24 Try.cellsI64 Try.bytesI64 h hw fun n cs y b o hn ht hy hat => by
    obtain ⟨z, c, _, wz⟩ := DataW.trod_int Try.underlying2 ht
    exact ⟨z, hat.one c, wf64 wz⟩
theorem open_u64s {fuel : Nat} {u : Value} {x : DataW H × List MemPlace} (h : DataW.trod enc Try.prog w base spare held fuel 22 [u] = some x) (hw : Light 22 x.1) : ∃ a c l, u = .slice a (List.length l) c ∧ sok 8 a l.length c ∧ Wds w a l :=
  open_lst Try.underlying22 Try.cellsU64 Try.bytesU64 h hw fun n cs y b o hn ht hy hat => by
    obtain ⟨z, c, _, wz⟩ := DataW.trod_int Try.underlying41 ht
    exact ⟨z, hat.one c, wfu64 wz⟩
set_option maxRecDepth 100000 in
theorem open_image {fuel : Nat} {cs : List Value} {x : DataW H × List MemPlace} (h : DataW.trod enc Try.prog w base spare held fuel 26 cs = some x) (hw : Light 26 x.1) : ∃ v : PIm, cs = v.cells ∧ v.ok w := by
  obtain ⟨xs, n, rfl, rfl, hl, hxl, hf⟩ := DataW.trod_struct Try.underlying26 h
  have hp := @Light.part H 26 _ Try.underlying26 xs [] hw
  rw [Try.cellsImage] at hl
  have g0 : DataW.trod enc Try.prog w base spare held n 22 ((cs.drop 0).take (Try.prog.cellsOf 22)) = xs[0]? := hf 0 _ rfl
  have g1 : DataW.trod enc Try.prog w base spare held n 23 ((cs.drop 1).take (Try.prog.cellsOf 23)) = xs[1]? := hf 1 _ rfl
  have g2 : DataW.trod enc Try.prog w base spare held n 23 ((cs.drop 2).take (Try.prog.cellsOf 23)) = xs[2]? := hf 2 _ rfl
  have g3 : DataW.trod enc Try.prog w base spare held n 24 ((cs.drop 3).take (Try.prog.cellsOf 24)) = xs[3]? := hf 3 _ rfl
  simp only [Try.cellsInts, Try.cellsI64s, Try.cellsU64s] at g0 g1 g2 g3
  have ex : ∀ i, i < 4 → ∃ y, xs[i]? = some y := fun i hi => ⟨_, List.getElem?_eq_getElem (by rw [hxl]; exact hi)⟩
  obtain ⟨y0, e0⟩ := ex 0 (by decide)
  obtain ⟨y1, e1⟩ := ex 1 (by decide)
  obtain ⟨y2, e2⟩ := ex 2 (by decide)
  obtain ⟨y3, e3⟩ := ex 3 (by decide)
  rw [e0] at g0
  rw [e1] at g1
  rw [e2] at g2
  rw [e3] at g3
  match cs, hl with
  | [a0, a1, a2, a3], _ =>
    simp at g0 g1 g2 g3
    obtain ⟨wa, wc, wl, rfl, hs0, hi0⟩ := open_u64s g0 (hp (j := 0) rfl e0)
    obtain ⟨sa, sc, sl, rfl, hs1, hi1⟩ := open_ints g1 (hp (j := 1) rfl e1)
    obtain ⟨fa, fc, fl, rfl, hs2, hi2⟩ := open_ints g2 (hp (j := 2) rfl e2)
    obtain ⟨ea, ec, el, rfl, hs3, hi3⟩ := open_i64s g3 (hp (j := 3) rfl e3)
    exact ⟨⟨wl, sl, fl, el, wa, wc, sa, sc, fa, fc, ea, ec⟩, rfl, ⟨hs0, hi0, hs1, hi1, hs2, hi2, hs3, hi3⟩⟩
/-- An argument that is a program of the machine. -/
theorem open_arg_image {v0 : Value} {d : DataW H} {ps : List MemPlace} (h : DataW.Trod enc Try.prog w base spare held 26 v0 d ps) (hw : Light 26 d) : ∃ v : PIm, v0 = v.v ∧ v.ok w := by
  obtain ⟨fuel, h⟩ := h
  obtain ⟨v, e, hv⟩ := open_image h hw
  refine ⟨v, ?_, hv⟩
  have e' := congrArg List.toArray e
  rw [Array.toArray_toList] at e'
  cases v0 with
  | agg cs => simpa [Value.cells, PIm.cells] using e'
  | _ => simp [Value.cells, PIm.cells] at e'

end Go.Proofs.Ytnlgkiejppgfjaa
