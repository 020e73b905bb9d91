/-
  The document's signs, and its expressions of numbers: contracts over the program; the conditions: the reader lies in memory, and what stands there is such an expression.
  The document's  expressions of numbers: contracts over the program; the conditions: the reader lies in memory, and what stands there is such an expression.
-/
import Derived.Test.YtoilhcklflmamaaGreatDoorKRfA
namespace Go.Proofs.YtoilhcklflmamaaGreatDoor
open Go.RowKit
open Pr
set_option linter.unusedVariables false

def sgnT (k : Nat) : List UInt8 := ((ops[k]?).map (·.1)).getD []
set_option maxRecDepth 100000 in
set_option maxHeartbeats 4000000 in
theorem rpower_any (k : Nat) (h1 : 1 ≤ k) (h2 : k ≤ 18) (w : World) :
    Calls Tryz.prog 14 #[.int .i64 (k : Int)] w fun e w' => e = .returned (.int .i64 (powT k : Int)) ∧ Q w w' := by
  rcases (show k = 1 ∨ k = 2 ∨ k = 3 ∨ k = 4 ∨ k = 5 ∨ k = 6 ∨ k = 7 ∨ k = 8 ∨ k = 9 ∨ k = 10 ∨ k = 11 ∨ k = 12 ∨ k = 13 ∨ k = 14 ∨ k = 15 ∨ k = 16 ∨ k = 17 ∨ k = 18 by omega) with rfl | rfl | rfl | rfl | rfl | rfl | rfl | rfl | rfl | rfl | rfl | rfl | rfl | rfl | rfl | rfl | rfl | rfl
  all_goals
    go_enter Tryz.func14, Tryz.ntmps14
    go_wp2_with (fail)
    go_ret
    exact ⟨rfl, (Q.refl w).alloc _⟩

set_option maxRecDepth 100000 in
set_option maxHeartbeats 4000000 in
theorem rsign_any' (k : Nat) (h1 : 1 ≤ k) (h2 : k ≤ 18) (w : World) :
    Calls Tryz.prog 13 #[.int .i64 (k : Int)] w fun e w' => e = .returned (.string (bs (sgnT k))) ∧ Q w w' := by
  rcases (show k = 1 ∨ k = 2 ∨ k = 3 ∨ k = 4 ∨ k = 5 ∨ k = 6 ∨ k = 7 ∨ k = 8 ∨ k = 9 ∨ k = 10 ∨ k = 11 ∨ k = 12 ∨ k = 13 ∨ k = 14 ∨ k = 15 ∨ k = 16 ∨ k = 17 ∨ k = 18 by omega) with rfl | rfl | rfl | rfl | rfl | rfl | rfl | rfl | rfl | rfl | rfl | rfl | rfl | rfl | rfl | rfl | rfl | rfl
  all_goals
    go_enter Tryz.func13, Tryz.ntmps13
    go_wp2_with (fail)
    go_ret
    exact ⟨rfl, (Q.refl w).alloc _⟩

end Go.Proofs.YtoilhcklflmamaaGreatDoor

namespace Go.Proofs.YtoilhcklflmamaaGreatDoor
open Go.RowKit
open Pr
set_option linter.unusedVariables false

/-- A number as a node. -/
def litN (q : Tok) : Nd := (⟨15, 0, 0, q.1.ty, 0, q.1.n, 0, ⟨#[]⟩, ⟨#[]⟩⟩, .nil)
def binN (k : Nat) (a b : Nd) : Nd := ({ nk 21 with op := k }, (one a).app (one b))
/-- The operation of a strength whose sign a token is, among the first n; 0: none. -/
def opTo (q : Tok) (p : Nat) : Nat → Nat
  | 0 => 0
  | n + 1 => if powT (n + 1) = p ∧ isB q (sgnT (n + 1)) = true then n + 1 else opTo q p n
theorem opTo_le (q : Tok) (p n : Nat) : opTo q p n ≤ n := by
  induction n with
  | zero => exact Nat.le_refl _
  | succ n ih => unfold opTo; split <;> omega
/-- What an expression of numbers is. -/
def lv (L : List Tok) : Nat → Nat → Option Nd → Nat → Option (Nd × Nat)
  | 0, _, _, _ => none
  | n + 1, p, none, i => if 10 < p then (match L[i]? with
      | some q => if q.1.kind = 3 ∧ i + 1 < L.length ∧ q.1.ty ≤ 5 ∧ -4294967296 ≤ q.1.n ∧ q.1.n ≤ 4294967296 then some (litN q, i + 1) else none
      | none => none) else (lv L n (p + 1) none i).bind fun r => lv L n p (some r.1) r.2
  | n + 1, p, some a, i => match L[i]? with
    | none => none
    | some q => if opTo q p 18 = 0 then some (a, i) else if i + 1 < L.length then (lv L n (p + 1) none (i + 1)).bind fun r => lv L n p (some (binN (opTo q p 18) a r.1)) r.2 else none

theorem heap_new_at {w : World} {b : Nat} (h : w.heap.size = b) (o : Obj) : (w.alloc o).heap[b]? = some o := by subst h; exact heap_alloc_new w o
theorem bx_tok {w x : World} {R : Nat} {ob : Obj} (hR : R < w.heap.size) (f : Fr R (w.alloc ob).drew x) : x.heap[w.heap.size]? = some ob := Fr.keptD (R := R) (heap_alloc_new w _) (by omega) f

set_option maxRecDepth 100000 in
set_option maxHeartbeats 4000000 in
theorem runary_num (R g cap : Nat) (L : List Tok) (i : Nat) (o : Int) (q : Tok) (hq : L[i]? = some q) (hk : q.1.kind = 3) (hi : i + 1 < L.length) (hL : L.length ≤ 70000) (hb : q.1.ty ≤ 5 ∧ -4294967296 ≤ q.1.n ∧ q.1.n ≤ 4294967296) (w : World) (h : RR w R g cap L i o) :
    Calls Tryz.prog 112 #[rp R] w (PN (litN q) R g cap L (i + 1) o w) := by
  have HD := hideIt h
  have HN := hideIt (fun X => rnext_any R g cap L i o hi hL X)
  have HT := hideIt (fun x X => rtake_no R g cap L i o q hq x (by unfold isB; rw [hk]; rfl) X)
  have HQ := hideIt hq
  have HB := hideIt hb
  have hR := h.lt_size
  have hlt : (i : Int) < (L.length : Int) := by omega
  clear h hq hb
  go_enter Tryz.func112, Tryz.ntmps112
  go_wp2_with (fail)
  go_loopw [4] (fun k wr => ∃ (j : Nat), k = .int .i64 j ∧ j ≤ 3 ∧ Hid (Bx wr w.heap.size (nk 0) (.slice none 0 0)) ∧ Hid (wr.heap[w.heap.size + 1]? = some (.cells #[.string (bs [45]), .string (bs [126]), .string (bs [33])] 9 (0, 0))) ∧ Hid (RR wr R g cap L i o) ∧ Hid (Fr R w wr)) (fun k _ => 3 - (intOf k).toNat)
  case atStart => exact ⟨0, rfl, by omega, (Bx.new w (nk 0) (.slice none 0 0)).alloc _, heap_new_at (by simp) _, (HD.out.alloc _).alloc _, ((Fr.refl R w).alloc _).alloc _⟩
  case round =>
    obtain ⟨j, rfl, hj, B0, S0, D0, F0⟩ := hrel
    clear HD
    have y0 := B0.out.lt
    have y1 := lt_of_heap S0.out
    by_cases h3 : j < 3
    · obtain ⟨x, hx⟩ : ∃ x, wr.cell? ⟨w.heap.size + 1, j, none⟩ = some (.string (bs x)) := by
        rcases (show j = 0 ∨ j = 1 ∨ j = 2 by omega) with rfl | rfl | rfl
        · exact ⟨_, cell_of_block S0.out 0⟩
        · exact ⟨_, cell_of_block S0.out 1⟩
        · exact ⟨_, cell_of_block S0.out 2⟩
      have hji : (j : Int) < 3 := by omega
      go_wp2_with (first | (go_at_call 43; refine Calls.mono (HT.out _ _ D0.out) ?_; rintro e x2 ⟨rfl, f2, d2⟩; have D2 := hideIt d2; have F2 := hideIt (F0.out.trans f2); have B2 := hideIt (Bx.fr B0.out (by omega) f2); have S2 := hideIt (Fr.kept (R := R) S0.out (by omega) f2); clear f2 d2) | fail)
      go_roundw
      case rel => exact ⟨j + 1, by go_num, by omega, B2, S2, D2, F2⟩
      case measure => simp [intOf]; omega
    · obtain rfl : j = 3 := by omega
      obtain ⟨r0, r1, r2, r3, r4⟩ := D0.out.five
      obtain ⟨t0, t1, t2, t3, t4⟩ := D0.out.tks.five _ _ HQ.out
      rw [hk] at t0
      have hRw := D0.out.lt_size
      have hg := D0.out.tks.lt
      go_wp2_with (fail)
      go_region
      clear r0 r1 r2 t0 t1 t2 t3 t4
      have D1 := hideIt ((D0.out.alloc (.cells #[.int .u8 3, .string ⟨q.1.text.toArray⟩, .int .i64 q.1.n, .int .u8 q.1.ty, .int .i64 q.2] 58)).drew)
      obtain ⟨r0, r1, r2, r3', r4'⟩ := D1.out.five
      go_wp2_with (first | (go_at_call 77; refine Calls.mono (HN.out _ D1.out) ?_; rintro e x2 ⟨rfl, f2, d2⟩; have D2 := hideIt d2; have F2 := hideIt ((F0.out.alloc _).drew.trans f2); have tb := bx_tok (by omega) f2; have c2 := cell_of_block tb 2; have c3 := cell_of_block tb 3; have B2 := hideIt (Bx.fr (B0.out.alloc _).drew (by omega) f2); obtain ⟨n0, n1, n2, n3, n4, n5, n6, n7, n8, n9⟩ := B2.out.ten; have nf := B2.out.free; have y2 := B2.out.lt; clear tb f2 d2) | fail)
      have BW := hideIt (B2.out.whole (litN q).1 (.slice none 0 0))
      refine bodyPost_ret (v := nodeV (litN q).1 (.slice none 0 0)) (by simp [results, Tryz.results112, go_sem, litN, *]) rfl ⟨_, rfl, NV.leaf (by have := HB.out; refine nf_ok ?_ ?_ ?_ ?_ ?_ ?_ ?_ ?_ ?_ <;> first | omega | decide | exact Nat.zero_le _), (by repeat with_reducible first | exact F2.out | apply Fr.alloc | apply Fr.drew | refine Fr.setNew ?_ (by (try dsimp only); omega) _), (by repeat with_reducible first | exact D2.out | apply RR.alloc | apply RR.drew | refine RR.setCell ?_ (by (try dsimp only); omega) _)⟩

end Go.Proofs.YtoilhcklflmamaaGreatDoor
