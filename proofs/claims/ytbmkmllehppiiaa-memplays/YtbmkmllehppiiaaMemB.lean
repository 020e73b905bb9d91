/-
  New, Blocks, Total, has and Load: contracts over the program; the conditions: a memory lies there, or the pointer is nil.
-/
import Derived.Test.YtbmkmllehppiiaaMemA
import Derived.Deep.QuietTactic
import Derived.BigQuiet
import Derived.BigRegion
import Derived.Deep.RegionHeld3
namespace Go.Proofs.Ytbmkmllehppiiaa
open Go.RowKit
set_option linter.unusedVariables false

theorem new_mi (w : World) : MI ((w.alloc (.map #[] 0)).alloc (.cells #[.map (some w.heap.size), .slice none 0 0, .int .i64 0] 58)) w.heap.size (fun k => w.heap.size ≤ k ∧ k < ((w.alloc (.map #[] 0)).alloc (.cells #[.map (some w.heap.size), .slice none 0 0, .int .i64 0] 58)).heap.size) (w.heap.size + 1) 0 [] (fun _ _ => 0) 0 := by
  refine ⟨fun k hk => hk, ⟨by omega, by simp⟩, fun _ _ _ => rfl, w.heap.size, none, 0, [], ⟨Nat.le_refl _, by simp; omega⟩, by omega, fun k hk => by simp [Value.ownBlock] at hk, rfl, fun i c h e => by simp at e, ?_, ?_, ?_⟩
  · have := heap_alloc_new (w.alloc (.map #[] 0)) (.cells #[.map (some w.heap.size), .slice none 0 0, .int .i64 0] 58)
    simpa using this
  · refine (mp_made w).kept ?_
    exact Below.heap_alloc _ _ _ (by simp)
  · exact World.ownsRow_nil _ _ _ _

set_option maxRecDepth 100000 in
theorem new_any (w : World) : Calls Try.prog 9 #[] w fun e w' => ∃ p, e = .returned (.pointer (some ⟨p, 0, none⟩)) ∧ MI w' w.heap.size (fun k => w.heap.size ≤ k ∧ k < w'.heap.size) p 0 [] (fun _ _ => 0) 0 ∧ Fr (fun _ => False) w w' := by
  have hmk := run_makeMap (P := Try.prog) 55
  go_enter Try.func9, Try.ntmps9
  go_wp2
  go_ret
  refine ⟨_, rfl, new_mi w, ?_⟩
  exact ((Fr.refl _ w).alloc _).alloc _

theorem blocks_nil (w : World) : Calls Try.prog 17 #[.pointer none] w fun e w' => e = .returned (.int .i64 0) ∧ w' = w := by
  go_enter Try.func17, Try.ntmps17
  go_wp2
  go_ret
  exact ⟨rfl, rfl⟩
theorem total_nil (w : World) : Calls Try.prog 18 #[.pointer none] w fun e w' => e = .returned (.int .i64 0) ∧ w' = w := by
  go_enter Try.func18, Try.ntmps18
  go_wp2
  go_ret
  exact ⟨rfl, rfl⟩

theorem blocks_any {w : World} {B : Nat} {bl : Nat → Prop} {p n : Nat} {bs : List Nat} {f : Int → Int → Int} {t : Int} (h : MI w B bl p n bs f t) :
    Calls Try.prog 17 #[.pointer (some ⟨p, 0, none⟩)] w fun e w' => e = .returned (.int .i64 bs.length) ∧ w' = w := by
  obtain ⟨M, la, lc, L, h1, h2, h3, h4, h5, h6, h7, h8⟩ := h.ex
  have c1 : w.cell? ⟨p, 1, none⟩ = some (.slice la bs.length lc) := cell_of_block h6 1
  have H := hideIt h
  clear h h3 h5 h6 h7 h8 h4
  go_enter Try.func17, Try.ntmps17
  go_wp2
  go_ret
  exact ⟨rfl, rfl⟩
theorem total_any {w : World} {B : Nat} {bl : Nat → Prop} {p n : Nat} {bs : List Nat} {f : Int → Int → Int} {t : Int} (h : MI w B bl p n bs f t) :
    Calls Try.prog 18 #[.pointer (some ⟨p, 0, none⟩)] w fun e w' => e = .returned (.int .i64 t) ∧ w' = w := by
  obtain ⟨M, la, lc, L, h1, h2, h3, h4, h5, h6, h7, h8⟩ := h.ex
  have c1 : w.cell? ⟨p, 2, none⟩ = some (.int .i64 t) := cell_of_block h6 2
  have H := hideIt h
  clear h h3 h5 h6 h7 h8 h4
  go_enter Try.func18, Try.ntmps18
  go_wp2
  go_ret
  exact ⟨rfl, rfl⟩

theorem below_box (w : World) (o : Obj) (k : Nat) : Below w.heap.size w ((w.alloc o).drewN k) := by
  have h := (Below.refl w.heap.size w).alloc (Nat.le_refl _) o
  exact ⟨h.os, h.tape, h.output, h.size, h.block⟩
theorem cell_box {w : World} {ad : Addr} {v : Value} (h : w.cell? ad = some v) (o : Obj) : (w.alloc o).cell? ad = some v := by
  obtain ⟨b, j, x⟩ := ad
  cases x
  · rw [World.cell?_alloc_past _ _ _ (World.block_lt_of_cell? w _ h)]
    exact h
  · exact ((Below.refl w.heap.size w).alloc (Nat.le_refl _) o).cell (World.block_lt_of_cell? w _ h) |>.trans h

theorem has_nil (w : World) (a b : Int) : Calls Try.prog 21 #[.pointer none, kv a b] w fun e w' => e = .returned (.bool false) ∧ Below w.heap.size w w' := by
  unfold kv
  go_enter Try.func21, Try.ntmps21
  go_wp2
  go_quiet (fail)
  go_wp2
  go_ret
  exact ⟨rfl, below_box _ _ _⟩

set_option maxRecDepth 100000 in
set_option maxHeartbeats 2000000 in
theorem has_yes {w : World} (p g len lc i : Nat) (b c : Int) (hlen : len ≤ 9223372036854775807) (hi : i < len) (hb : 0 ≤ b)
    (c1 : w.cell? ⟨p, 1, none⟩ = some (.slice (some ⟨g, 0, none⟩) len lc)) (c2 : w.cell? ⟨g, i * 2, none⟩ = some (.int .i64 c)) :
    Calls Try.prog 21 #[.pointer (some ⟨p, 0, none⟩), kv i b] w fun e w' => e = .returned (.bool (decide (b < c))) ∧ Below w.heap.size w w' := by
  unfold kv
  have d1 := cell_box c1 (.cells #[.int .i64 i, .int .i64 b] 31)
  have d2 := cell_box c2 (.cells #[.int .i64 i, .int .i64 b] 31)
  clear c1 c2
  have i0 : (0 : Int) ≤ (i : Int) := by omega
  have i1 : (i : Int) < (len : Int) := by omega
  go_enter Try.func21, Try.ntmps21
  go_wp2
  go_quiet (fail)
  go_wp2
  go_ret
  exact ⟨rfl, below_box _ _ _⟩

theorem has_low {w : World} (p : Nat) (a b : Int) (hn : ¬ 0 ≤ a) : Calls Try.prog 21 #[.pointer (some ⟨p, 0, none⟩), kv a b] w fun e w' => e = .returned (.bool false) ∧ Below w.heap.size w w' := by
  unfold kv
  have g1 : decide (0 ≤ a) = false := by simpa using hn
  clear hn
  go_enter Try.func21, Try.ntmps21
  go_wp2
  go_quiet (fail)
  go_wp2
  go_ret
  exact ⟨rfl, below_box _ _ _⟩
theorem has_far {w : World} (p len lc : Nat) (la : Option Addr) (a b : Int) (ha : 0 ≤ a) (hn : ¬ a < (len : Int)) (c1 : w.cell? ⟨p, 1, none⟩ = some (.slice la len lc)) :
    Calls Try.prog 21 #[.pointer (some ⟨p, 0, none⟩), kv a b] w fun e w' => e = .returned (.bool false) ∧ Below w.heap.size w w' := by
  unfold kv
  have d1 := cell_box c1 (.cells #[.int .i64 a, .int .i64 b] 31)
  have g1 : decide (a < (len : Int)) = false := by simpa using hn
  clear c1 hn
  go_enter Try.func21, Try.ntmps21
  go_wp2
  go_quiet (fail)
  go_wp2
  go_ret
  exact ⟨rfl, below_box _ _ _⟩
theorem has_neg {w : World} (p len lc : Nat) (la : Option Addr) (a b : Int) (ha : 0 ≤ a) (hi : a < (len : Int)) (hn : ¬ 0 ≤ b) (c1 : w.cell? ⟨p, 1, none⟩ = some (.slice la len lc)) :
    Calls Try.prog 21 #[.pointer (some ⟨p, 0, none⟩), kv a b] w fun e w' => e = .returned (.bool false) ∧ Below w.heap.size w w' := by
  unfold kv
  have d1 := cell_box c1 (.cells #[.int .i64 a, .int .i64 b] 31)
  have g1 : decide (0 ≤ b) = false := by simpa using hn
  clear c1 hn
  go_enter Try.func21, Try.ntmps21
  go_wp2
  go_quiet (fail)
  go_wp2
  go_ret
  exact ⟨rfl, below_box _ _ _⟩

theorem has_any {w : World} {B : Nat} {bl : Nat → Prop} {p n : Nat} {bs : List Nat} {f : Int → Int → Int} {t : Int} (h : MI w B bl p n bs f t) (a b : Int) (hl : bs.length ≤ 1000000) :
    Calls Try.prog 21 #[.pointer (some ⟨p, 0, none⟩), kv a b] w fun e w' => e = .returned (.bool (inB bs a b)) ∧ Below w.heap.size w w' := by
  obtain ⟨M, la, lc, L, h1, h2, h3, h4, h5, h6, h7, h8⟩ := h.ex
  have c1 : w.cell? ⟨p, 1, none⟩ = some (.slice la bs.length lc) := cell_of_block h6 1
  by_cases ha : 0 ≤ a
  · by_cases hi : a < (bs.length : Int)
    · by_cases hb : 0 ≤ b
      · have hL : L.length = bs.length := by rw [← h4]; simp
        have hlt : a.toNat < L.length := by omega
        obtain ⟨g, rfl, c2, -, -⟩ := row_at h8 (i := a.toNat) (c := (L[a.toNat]).1) (k := (L[a.toNat]).2) (by simp [hlt])
        have := has_yes p g bs.length lc a.toNat b _ (by omega) (by omega) hb c1 c2
        rw [show ((a.toNat : Nat) : Int) = a by omega] at this
        refine this.mono ?_
        rintro e w' ⟨rfl, hw⟩
        refine ⟨?_, hw⟩
        have e1 : bs.getD a.toNat 0 = (L[a.toNat]).1 := by
          subst h4
          simp [List.getD, hlt]
        simp only [inB, ha, hi, hb, e1, decide_true, Bool.true_and]
      · refine (has_neg p bs.length lc la a b ha hi hb c1).mono ?_
        rintro e w' ⟨rfl, hw⟩
        exact ⟨by simp [inB, hb], hw⟩
    · refine (has_far p bs.length lc la a b ha hi c1).mono ?_
      rintro e w' ⟨rfl, hw⟩
      exact ⟨by simp [inB, hi], hw⟩
  · refine (has_low p a b ha).mono ?_
    rintro e w' ⟨rfl, hw⟩
    exact ⟨by simp [inB, ha], hw⟩

theorem load_nil (w : World) (a b : Int) : Calls Try.prog 14 #[.pointer none, kv a b] w fun e w' => e = .returned (.tuple #[.int .i64 0, .int .i64 12]) ∧ Below w.heap.size w w' := by
  have hk : kv a b = .agg #[.int .i64 a, .int .i64 b] := rfl
  rw [hk]
  go_enter Try.func14, Try.ntmps14
  go_wp2_with (first | (go_at_call 21; refine (has_nil _ a b).mono ?_; rintro e x1 ⟨rfl, hb⟩; have HB := hideIt hb; clear hb) | fail)
  go_ret2
  exact ⟨rfl, ((Below.refl _ _).alloc (Nat.le_refl _) _).trans (HB.out.mono (by simp))⟩

end Go.Proofs.Ytbmkmllehppiiaa
