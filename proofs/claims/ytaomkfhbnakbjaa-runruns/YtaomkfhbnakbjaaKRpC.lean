/-
  The document's little code and its run (little, awake of the statements of layer 14): contracts over the program; no conditions.
  Two outcomes that are alike are told to be (same of the statements of layer 14): a contract over the program; the conditions: the traces lie in memory.
  Run of layer 14, every way at once; traces of outcomes in memory: facts over the program and over worlds; the conditions: the code lies in memory.
-/
import Derived.Test.YtaomkfhbnakbjaaKRmZ
namespace Go.Proofs.Ytaomkfhbnakbjaa
open Go.RowKit
set_option linter.unusedVariables false

theorem At.block' {w : World} {b : Nat} {cs : List Value} {t : TypeId} (o : Nat) (all : Array Value) (h : w.heap[b]? = some (.cells all t (0, 0))) (ha : ∀ j, j < cs.length → all[o + j]? = cs[j]?) : At w b o cs := fun j hj => by rw [Me.cell_of_block h]; exact ha j hj
theorem Lst.nil {α : Type} {sz : Nat} {P : Nat → Nat → α → Prop} {a : Option Addr} : Lst sz P a [] := fun k x e => by simp at e
theorem Lst.one {α : Type} {sz : Nat} {P : Nat → Nat → α → Prop} {b o : Nat} {x : α} (h : P b o x) : Lst sz P (some ⟨b, o, none⟩) [x] := fun k y e => by
  cases k with
  | zero => simp at e; subst e; exact ⟨b, o, rfl, by simpa using h⟩
  | succ k => simp at e
theorem Lst.two {α : Type} {sz : Nat} {P : Nat → Nat → α → Prop} {b o : Nat} {x y : α} (h : P b o x) (h' : P b (o + sz) y) : Lst sz P (some ⟨b, o, none⟩) [x, y] := fun k u e => by
  match k with
  | 0 => simp at e; subst e; exact ⟨b, o, rfl, by simpa using h⟩
  | 1 => simp at e; subst e; exact ⟨b, o, rfl, by simpa using h'⟩
  | k + 2 => simp at e
theorem sok_none (z : Nat) : sok z none 0 0 := ⟨Nat.le_refl _, by decide, fun _ => rfl, by omega⟩
theorem heap_new (X : World) (o : Obj) : (X.alloc o).heap[X.heap.size]? = some o := heap_alloc_new X _
theorem heap_at {X : World} {o : Obj} {k : Nat} (h : k = X.heap.size) : (X.alloc o).heap[k]? = some o := by rw [h]; exact heap_new X o
theorem heap_old {X : World} {k : Nat} {o : Obj} (o' : Obj) (h : X.heap[k]? = some o) : (X.alloc o').heap[k]? = some o := by
  rw [Below.heap_alloc X o' k ((Array.getElem?_eq_some_iff.1 h).1)]
  exact h

def i1 : PI := ⟨20, 0, 0, 0, 0, 5, [], none, 0⟩
def i2 : PI := ⟨33, 0, 0, 0, 0, 0, [], none, 0⟩
def lP (g0 : Nat) : PP := ⟨[i1, i2], true, 0, 0, 0, some ⟨g0, 0, none⟩, 2⟩
def lF (g0 g1 : Nat) : PF := ⟨0, 2, [], [lP g0], none, 0, some ⟨g1, 0, none⟩, 1⟩
def lC (g0 g1 g2 : Nat) : PC := ⟨[], [], [lF g0 g1], none, 0, none, 0, some ⟨g2, 0, none⟩, 1⟩
theorem lC_valid (g0 g1 g2 : Nat) : validP (lC g0 g1 g2) = 0 := rfl
theorem lC_run (g0 g1 g2 : Nat) : ocP (runP (lC g0 g1 g2) 9) = ⟨true, 5, 0, false, 3, [5]⟩ := rfl

theorem lC_ok {w : World} {g0 g1 g2 : Nat}
    (h0 : w.heap[g0]? = some (.cells #[.int .u8 20, .int .u8 0, .int .i64 0, .int .i64 0, .int .i64 0, .int .i64 5, .slice none 0 0, .int .u8 33, .int .u8 0, .int .i64 0, .int .i64 0, .int .i64 0, .int .i64 0, .slice none 0 0] 51 (0, 0)))
    (h1 : w.heap[g1]? = some (.cells #[.slice (some ⟨g0, 0, none⟩) 2 2, .bool true, .int .i64 0, .int .i64 0, .int .i64 0] 49 (0, 0)))
    (h2 : w.heap[g2]? = some (.cells #[.int .i64 0, .int .i64 2, .slice none 0 0, .slice (some ⟨g1, 0, none⟩) 1 1] 46 (0, 0))) : (lC g0 g1 g2).ok w := by
  have z : I64 0 := by unfold I64; omega
  have s1 : ∀ g z k, k ≤ 2 → z ≤ 64 → sok z (some ⟨g, 0, none⟩) k k := fun g z k hk hz => ⟨Nat.le_refl _, by unfold maxLen; omega, (fun h => by cases h), by have : k * z ≤ 2 * 64 := Nat.mul_le_mul hk hz; omega⟩
  have hj : ∀ n m : Nat, n < m → n < m := fun _ _ h => h
  refine ⟨sok_none _, Lst.nil, sok_none _, Lst.nil, s1 _ _ _ (show 1 ≤ 2 by decide) (by decide), Lst.one ⟨At.block' 0 _ h2 ?_, ⟨z, by unfold I64 lF; simp, sok_none _, Lst.nil, s1 _ _ _ (show 1 ≤ 2 by decide) (by decide), Lst.one ⟨At.block' 0 _ h1 ?_, ⟨z, z, z, s1 _ _ _ (show 2 ≤ 2 by decide) (by decide), Lst.two ⟨At.block' 0 _ h0 ?_, ?_⟩ ⟨At.block' 7 _ h0 ?_, ?_⟩⟩⟩⟩⟩⟩
  · intro j hj
    have : j < 4 := hj
    match j, this with
    | 0, _ => rfl
    | 1, _ => rfl
    | 2, _ => rfl
    | 3, _ => rfl
  · intro j hj
    have : j < 5 := hj
    match j, this with
    | 0, _ => rfl
    | 1, _ => rfl
    | 2, _ => rfl
    | 3, _ => rfl
    | 4, _ => rfl
  · intro j hj
    have : j < 7 := hj
    match j, this with
    | 0, _ => rfl
    | 1, _ => rfl
    | 2, _ => rfl
    | 3, _ => rfl
    | 4, _ => rfl
    | 5, _ => rfl
    | 6, _ => rfl
  · exact ⟨by unfold i1; simp, by unfold i1; simp, z, z, z, by unfold I64 i1; simp, sok_none _, Lst.nil⟩
  · intro j hj
    have : j < 7 := hj
    match j, this with
    | 0, _ => rfl
    | 1, _ => rfl
    | 2, _ => rfl
    | 3, _ => rfl
    | 4, _ => rfl
    | 5, _ => rfl
    | 6, _ => rfl
  · exact ⟨by unfold i2; simp, by unfold i2; simp, z, z, z, z, sok_none _, Lst.nil⟩

theorem little_any (w : World) : Calls Try.prog 29 #[] w fun e w' => ∃ g0 g1 g2, e = .returned (lC g0 g1 g2).v ∧ (lC g0 g1 g2).ok w' ∧ Q w w' := by
  go_enter Try.func29, Try.ntmps29
  go_wp2
  refine bodyPost_ret (v := (lC (w.heap.size + 1) (w.heap.size + 1 + 1 + 1) (w.heap.size + 1 + 1 + 1 + 1)).v) (by simp [results, Try.results29, go_sem, lC]) rfl ?_
  refine ⟨_, _, _, rfl, lC_ok (heap_old _ (heap_old _ (heap_old _ (heap_at (by simp))))) (heap_old _ (heap_at (by simp))) (heap_at (by simp)), ((((Q.refl w).alloc _).alloc _).alloc _).alloc _ |>.alloc _⟩

theorem lrun (w : World) (g0 g1 g2 : Nat) (h : (lC g0 g1 g2).ok w) : Calls Try.prog 10 #[(lC g0 g1 g2).v, .int .i64 9] w fun e w' => ∃ ta tc, e = .returned (.tuple #[.agg #[.bool true, .int .i64 5, .int .u8 0, .bool false, .int .i64 3, .slice ta 1 tc], .int .i64 0]) ∧ Q w w' := by
  refine (run_good w _ h 9 (by decide) (lC_valid _ _ _)).mono ?_
  rintro e w' ⟨v, rfl, ta, tc, hv, -, hb⟩
  rw [lC_run] at hv
  exact ⟨ta, tc, by rw [hv]; rfl, hb⟩

set_option maxRecDepth 100000 in
theorem awake_any (w : World) : Calls Try.prog 9 #[] w fun e w' => e = .returned (.bool true) ∧ Q w w' := by
  have CL := hideIt (fun X => little_any X)
  have CR := hideIt (fun X g0 g1 g2 h => lrun X g0 g1 g2 h)
  go_enter Try.func9, Try.ntmps9
  go_wp2_with (first
    | (go_at_call 29; refine (CL.out _).mono ?_; rintro e x ⟨g0, g1, g2, rfl, hok, q1⟩; have HK := hideIt hok; have HQ1 := hideIt q1; clear hok q1)
    | (go_at_call 10; refine (CR.out _ _ _ _ HK.out).mono ?_; rintro e y ⟨ta, tc, rfl, q2⟩; have HQ2 := hideIt (HQ1.out.trans q2); clear q2)
    | fail)
  go_ret
  exact ⟨rfl, HQ2.out.alloc _⟩

end Go.Proofs.Ytaomkfhbnakbjaa

namespace Go.Proofs.Ytaomkfhbnakbjaa
open Go.RowKit
set_option linter.unusedVariables false

/-- A trace lies in memory. -/
def Trc (w : World) (a : Option Addr) (l : List Int) : Prop := ∀ k x, l[k]? = some x → ∃ b o, a = some ⟨b, o, none⟩ ∧ w.cell? ⟨b, o + k, none⟩ = some (.int .i64 x)
theorem Trc.keep {w w' : World} {a : Option Addr} {l : List Int} (h : Trc w a l) (hq : Q w w') : Trc w' a l := fun k x e => by
  obtain ⟨b, o, e1, e2⟩ := h k x e
  exact ⟨b, o, e1, cell_keep hq e2⟩
theorem Trc.nil (w : World) (a : Option Addr) : Trc w a [] := fun k x e => by simp at e

abbrev bxA (w : World) (o : Oc) (a : Option Addr) (ca : Nat) : World := w.alloc (.cells (ocA o (.slice a o.tr.length ca)) 31)

set_option maxRecDepth 100000 in
set_option maxHeartbeats 2000000 in
theorem same_eq (w : World) (h : Bool) (x t : Int) (sp : Bool) (n : Nat) (l : List Int) (a b : Option Addr) (ca cb : Nat) (hlen : l.length ≤ 9223372036854775807) (ha : Trc w a l) (hb : Trc w b l) :
    Calls Try.prog 12 #[.agg #[.bool h, .int .i64 x, .int .u8 t, .bool sp, .int .i64 (n : Int), .slice a l.length ca], .agg #[.bool h, .int .i64 x, .int .u8 t, .bool sp, .int .i64 (n : Int), .slice b l.length cb]] w fun e w' => e = .returned (.bool true) ∧ Q w w' := by
  have hq0 : Q w ((w.alloc (.cells #[.bool h, .int .i64 x, .int .u8 t, .bool sp, .int .i64 (n : Int), .slice a l.length ca] 31)).alloc (.cells #[.bool h, .int .i64 x, .int .u8 t, .bool sp, .int .i64 (n : Int), .slice b l.length cb] 31)) := ((Q.refl w).alloc _).alloc _
  have HA := hideIt (ha.keep hq0)
  have HB := hideIt (hb.keep hq0)
  have HQ0 := hideIt hq0
  have KA : Hid (∀ X, Q ((w.alloc (.cells #[.bool h, .int .i64 x, .int .u8 t, .bool sp, .int .i64 (n : Int), .slice a l.length ca] 31)).alloc (.cells #[.bool h, .int .i64 x, .int .u8 t, .bool sp, .int .i64 (n : Int), .slice b l.length cb] 31)) X → X.cell? ⟨w.heap.size, 5, none⟩ = some (.slice a l.length ca) ∧ X.cell? ⟨w.heap.size + 1, 5, none⟩ = some (.slice b l.length cb)) := fun X hX => by
    constructor
    · exact cell_keep hX ((Me.cell_of_block (heap_old _ (heap_at rfl)) 5).trans rfl)
    · exact cell_keep hX ((Me.cell_of_block (heap_at (by simp)) 5).trans rfl)
  have e1 : (h != h) = false := by simp
  have e2 : (sp != sp) = false := by simp
  clear ha hb hq0
  go_enter Try.func12, Try.ntmps12
  go_wp2_with (fail)
  go_loopw [5] (fun i wr => ∃ (k : Nat), i = .int .i64 k ∧ k ≤ l.length ∧ Q ((w.alloc (.cells #[.bool h, .int .i64 x, .int .u8 t, .bool sp, .int .i64 (n : Int), .slice a l.length ca] 31)).alloc (.cells #[.bool h, .int .i64 x, .int .u8 t, .bool sp, .int .i64 (n : Int), .slice b l.length cb] 31)) wr) (fun i _ => l.length - (intOf i).toNat)
  case atStart => exact ⟨0, rfl, by omega, Q.refl _⟩
  case round =>
    obtain ⟨k, rfl, hk, hq⟩ := hrel
    have HQ := hideIt hq
    obtain ⟨k1, k2⟩ := KA.out _ hq
    clear hq
    by_cases hlt : k < l.length
    · obtain ⟨z, hz⟩ := get_of_lt hlt
      obtain ⟨b1, o1, e3, hc1⟩ := (Trc.keep HA.out HQ.out) k z hz
      obtain ⟨b2, o2, e4, hc2⟩ := (Trc.keep HB.out HQ.out) k z hz
      subst e3 e4
      have hkl : (k : Int) < (l.length : Int) := by omega
      clear hz
      go_wp2_with (fail)
      go_quiet (fail)
      go_wp2
      go_roundw
      case rel => exact ⟨k + 1, by go_num, by omega, Q.drewN HQ.out _⟩
      case measure => simp [intOf]; omega
    · go_wp2_with (fail)
      go_ret
      exact ⟨rfl, HQ0.out.trans HQ.out⟩

theorem same_zero (w : World) : Calls Try.prog 12 #[zeroO, zeroO] w fun e w' => e = .returned (.bool true) ∧ Q w w' :=
  same_eq w false 0 0 false 0 [] none none 0 0 (by decide) (Trc.nil _ _) (Trc.nil _ _)

end Go.Proofs.Ytaomkfhbnakbjaa

namespace Go.Proofs.Ytaomkfhbnakbjaa
open Go.RowKit
set_option linter.unusedVariables false

theorem wf16 {z : Int} (h : (Lit.int .u16 z).wf = true) : 0 ≤ z ∧ z ≤ 65535 := by
  simp [Lit.wf, IntKind.min, IntKind.max, IntKind.bits, IntKind.signed] at h; omega

def zeroP : Oc := ⟨false, 0, 0, false, 0, []⟩
/-- How a run ends, or the zero outcome. -/
def resO (c : PC) (k : Nat) : Oc := if validP c = 0 then ocP (runP c k) else zeroP

theorem run_any (w : World) (c : PC) (hcok : c.ok w) (k : Nat) (hk : k ≤ 8388608) : Calls Try.prog 10 #[c.v, .int .i64 (k : Int)] w fun e w' => ∃ v, e = .returned (.tuple #[v, .int .i64 (validP c)]) ∧ OutPost w w.heap.size (resO c k) v w' := by
  by_cases hv : validP c = 0
  · have := run_good w c hcok k hk hv
    unfold resO
    rw [if_pos hv, hv]
    exact this
  · refine (run_bad w c hcok (k : Int) (by omega) (by omega) hv).mono ?_
    rintro e w' ⟨rfl, hq⟩
    unfold resO
    rw [if_neg hv]
    exact ⟨_, rfl, none, 0, rfl, ⟨rfl, .inl ⟨rfl, rfl⟩⟩, hq⟩

theorem own_trc {w : World} {B : Nat} {T : TypeId} {ta : Option Addr} {tc : Nat} {L : List Int} (h : w.ownsRow B T 1 (.slice ta L.length tc) L.length (rowI L)) : Trc w ta L := fun k x e => by
  obtain ⟨g, cap, cur, e0, e1, e2, -, -⟩ := row_at h e
  injection e0 with e0
  subst e0
  refine ⟨g, 0, rfl, ?_⟩
  rw [Me.cell_of_block e1, Nat.zero_add]
  exact e2
theorem own_len {w : World} {B : Nat} {T : TypeId} {ta : Option Addr} {tc : Nat} {L : List Int} (h : w.ownsRow B T 1 (.slice ta L.length tc) L.length (rowI L)) : L.length ≤ 9223372036854775807 := by
  rcases h.2 with ⟨-, e1⟩ | ⟨g, cap, cur, e0, hb, hg, hnc, hcm, hcs, ht⟩
  · omega
  · unfold maxLen at hcm; omega
/-- The block of a trace that is one's own. -/
theorem own_blk {w : World} {B : Nat} {T : TypeId} {ta : Option Addr} {tc : Nat} {L : List Int} (h : w.ownsRow B T 1 (.slice ta L.length tc) L.length (rowI L)) : (ta = none ∧ L = []) ∨ ∃ g, ta = some ⟨g, 0, none⟩ ∧ B ≤ g ∧ g < w.heap.size := by
  rcases h.2 with ⟨e0, e1⟩ | ⟨g, cap, cur, e0, hb, hg, hnc, hcm, hcs, ht⟩
  · injection e0 with e0 e2 e3
    exact .inl ⟨e0, List.eq_nil_of_length_eq_zero e2⟩
  · injection e0 with e0
    exact .inr ⟨g, e0, hb, (Array.getElem?_eq_some_iff.1 hg).1⟩
theorem Trc.other {W z : World} {g : Nat} {a : Option Addr} {l : List Int} (h : Trc W a l) (hb : ∀ b o, a = some ⟨b, o, none⟩ → b ≠ g) (hz : ∀ b, b ≠ g → z.heap[b]? = W.heap[b]?) : Trc z a l := fun k x e => by
  obtain ⟨b, o, e1, e2⟩ := h k x e
  refine ⟨b, o, e1, ?_⟩
  have := hz b (hb b o e1)
  rw [← e2]
  simp [World.cell?, this]

end Go.Proofs.Ytaomkfhbnakbjaa
