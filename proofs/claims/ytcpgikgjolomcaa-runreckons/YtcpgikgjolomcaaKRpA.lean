/-
  The document's little code and its run (little, awake of the statements of layer 14): contracts over the program; no conditions.
-/
import Derived.Test.YtcpgikgjolomcaaKRmZ
namespace Go.Proofs.Ytcpgikgjolomcaa
open Go.RowKit
set_option linter.unusedVariables false

theorem At.block' {w : World} {b : Nat} {cs : List Value} {t : TypeId} (o : Nat) (all : Array Value) (h : w.heap[b]? = some (.cells all t (0, 0))) (ha : ∀ j, j < cs.length → all[o + j]? = cs[j]?) : At w b o cs := fun j hj => by rw [Me.cell_of_block h]; exact ha j hj
theorem Lst.nil {α : Type} {sz : Nat} {P : Nat → Nat → α → Prop} {a : Option Addr} : Lst sz P a [] := fun k x e => by simp at e
theorem Lst.one {α : Type} {sz : Nat} {P : Nat → Nat → α → Prop} {b o : Nat} {x : α} (h : P b o x) : Lst sz P (some ⟨b, o, none⟩) [x] := fun k y e => by
  cases k with
  | zero => simp at e; subst e; exact ⟨b, o, rfl, by simpa using h⟩
  | succ k => simp at e
theorem Lst.two {α : Type} {sz : Nat} {P : Nat → Nat → α → Prop} {b o : Nat} {x y : α} (h : P b o x) (h' : P b (o + sz) y) : Lst sz P (some ⟨b, o, none⟩) [x, y] := fun k u e => by
  match k with
  | 0 => simp at e; subst e; exact ⟨b, o, rfl, by simpa using h⟩
  | 1 => simp at e; subst e; exact ⟨b, o, rfl, by simpa using h'⟩
  | k + 2 => simp at e
theorem sok_none (z : Nat) : sok z none 0 0 := ⟨Nat.le_refl _, by decide, fun _ => rfl, by omega⟩
theorem heap_new (X : World) (o : Obj) : (X.alloc o).heap[X.heap.size]? = some o := heap_alloc_new X _
theorem heap_at {X : World} {o : Obj} {k : Nat} (h : k = X.heap.size) : (X.alloc o).heap[k]? = some o := by rw [h]; exact heap_new X o
theorem heap_old {X : World} {k : Nat} {o : Obj} (o' : Obj) (h : X.heap[k]? = some o) : (X.alloc o').heap[k]? = some o := by
  rw [Below.heap_alloc X o' k ((Array.getElem?_eq_some_iff.1 h).1)]
  exact h

def i1 : PI := ⟨20, 0, 0, 0, 0, 5, [], none, 0⟩
def i2 : PI := ⟨33, 0, 0, 0, 0, 0, [], none, 0⟩
def lP (g0 : Nat) : PP := ⟨[i1, i2], true, 0, 0, 0, some ⟨g0, 0, none⟩, 2⟩
def lF (g0 g1 : Nat) : PF := ⟨0, 2, [], [lP g0], none, 0, some ⟨g1, 0, none⟩, 1⟩
def lC (g0 g1 g2 : Nat) : PC := ⟨[], [], [lF g0 g1], none, 0, none, 0, some ⟨g2, 0, none⟩, 1⟩
theorem lC_valid (g0 g1 g2 : Nat) : validP (lC g0 g1 g2) = 0 := rfl
theorem lC_run (g0 g1 g2 : Nat) : ocP (runP (lC g0 g1 g2) 9) = ⟨true, 5, 0, false, 3, [5]⟩ := rfl

theorem lC_ok {w : World} {g0 g1 g2 : Nat}
    (h0 : w.heap[g0]? = some (.cells #[.int .u8 20, .int .u8 0, .int .i64 0, .int .i64 0, .int .i64 0, .int .i64 5, .slice none 0 0, .int .u8 33, .int .u8 0, .int .i64 0, .int .i64 0, .int .i64 0, .int .i64 0, .slice none 0 0] 42 (0, 0)))
    (h1 : w.heap[g1]? = some (.cells #[.slice (some ⟨g0, 0, none⟩) 2 2, .bool true, .int .i64 0, .int .i64 0, .int .i64 0] 45 (0, 0)))
    (h2 : w.heap[g2]? = some (.cells #[.int .i64 0, .int .i64 2, .slice none 0 0, .slice (some ⟨g1, 0, none⟩) 1 1] 48 (0, 0))) : (lC g0 g1 g2).ok w := by
  have z : I64 0 := by unfold I64; omega
  have s1 : ∀ g z k, k ≤ 2 → z ≤ 64 → sok z (some ⟨g, 0, none⟩) k k := fun g z k hk hz => ⟨Nat.le_refl _, by unfold maxLen; omega, (fun h => by cases h), by have : k * z ≤ 2 * 64 := Nat.mul_le_mul hk hz; omega⟩
  have hj : ∀ n m : Nat, n < m → n < m := fun _ _ h => h
  refine ⟨sok_none _, Lst.nil, sok_none _, Lst.nil, s1 _ _ _ (show 1 ≤ 2 by decide) (by decide), Lst.one ⟨At.block' 0 _ h2 ?_, ⟨z, by unfold I64 lF; simp, sok_none _, Lst.nil, s1 _ _ _ (show 1 ≤ 2 by decide) (by decide), Lst.one ⟨At.block' 0 _ h1 ?_, ⟨z, z, z, s1 _ _ _ (show 2 ≤ 2 by decide) (by decide), Lst.two ⟨At.block' 0 _ h0 ?_, ?_⟩ ⟨At.block' 7 _ h0 ?_, ?_⟩⟩⟩⟩⟩⟩
  · intro j hj
    have : j < 4 := hj
    match j, this with
    | 0, _ => rfl
    | 1, _ => rfl
    | 2, _ => rfl
    | 3, _ => rfl
  · intro j hj
    have : j < 5 := hj
    match j, this with
    | 0, _ => rfl
    | 1, _ => rfl
    | 2, _ => rfl
    | 3, _ => rfl
    | 4, _ => rfl
  · intro j hj
    have : j < 7 := hj
    match j, this with
    | 0, _ => rfl
    | 1, _ => rfl
    | 2, _ => rfl
    | 3, _ => rfl
    | 4, _ => rfl
    | 5, _ => rfl
    | 6, _ => rfl
  · exact ⟨by unfold i1; simp, by unfold i1; simp, z, z, z, by unfold I64 i1; simp, sok_none _, Lst.nil⟩
  · intro j hj
    have : j < 7 := hj
    match j, this with
    | 0, _ => rfl
    | 1, _ => rfl
    | 2, _ => rfl
    | 3, _ => rfl
    | 4, _ => rfl
    | 5, _ => rfl
    | 6, _ => rfl
  · exact ⟨by unfold i2; simp, by unfold i2; simp, z, z, z, z, sok_none _, Lst.nil⟩

theorem little_any (w : World) : Calls Try.prog 13 #[] w fun e w' => ∃ g0 g1 g2, e = .returned (lC g0 g1 g2).v ∧ (lC g0 g1 g2).ok w' ∧ Q w w' := by
  go_enter Try.func13, Try.ntmps13
  go_wp2
  refine bodyPost_ret (v := (lC (w.heap.size + 1) (w.heap.size + 1 + 1 + 1) (w.heap.size + 1 + 1 + 1 + 1)).v) (by simp [results, Try.results13, go_sem, lC]) rfl ?_
  refine ⟨_, _, _, rfl, lC_ok (heap_old _ (heap_old _ (heap_old _ (heap_at (by simp))))) (heap_old _ (heap_at (by simp))) (heap_at (by simp)), ((((Q.refl w).alloc _).alloc _).alloc _).alloc _ |>.alloc _⟩

theorem lrun (w : World) (g0 g1 g2 : Nat) (h : (lC g0 g1 g2).ok w) : Calls Try.prog 9 #[(lC g0 g1 g2).v, .int .i64 9] w fun e w' => ∃ ta tc, e = .returned (.tuple #[.agg #[.bool true, .int .i64 5, .int .u8 0, .bool false, .int .i64 3, .slice ta 1 tc], .int .i64 0]) ∧ Q w w' := by
  refine (run_good w _ h 9 (by decide) (lC_valid _ _ _)).mono ?_
  rintro e w' ⟨v, rfl, ta, tc, hv, -, hb⟩
  rw [lC_run] at hv
  exact ⟨ta, tc, by rw [hv]; rfl, hb⟩

set_option maxRecDepth 100000 in
theorem awake_any (w : World) : Calls Try.prog 8 #[] w fun e w' => e = .returned (.bool true) ∧ Q w w' := by
  have CL := hideIt (fun X => little_any X)
  have CR := hideIt (fun X g0 g1 g2 h => lrun X g0 g1 g2 h)
  go_enter Try.func8, Try.ntmps8
  go_wp2_with (first
    | (go_at_call 13; refine (CL.out _).mono ?_; rintro e x ⟨g0, g1, g2, rfl, hok, q1⟩; have HK := hideIt hok; have HQ1 := hideIt q1; clear hok q1)
    | (go_at_call 9; refine (CR.out _ _ _ _ HK.out).mono ?_; rintro e y ⟨ta, tc, rfl, q2⟩; have HQ2 := hideIt (HQ1.out.trans q2); clear q2)
    | fail)
  go_ret
  exact ⟨rfl, HQ2.out.alloc _⟩

end Go.Proofs.Ytcpgikgjolomcaa
