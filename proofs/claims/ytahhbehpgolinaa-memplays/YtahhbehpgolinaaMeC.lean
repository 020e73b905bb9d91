/-
  New, Blocks, has and Load: contracts over the program; the conditions: a memory lies there.
-/
import Derived.Test.YtahhbehpgolinaaMeB
import Derived.Deep.QuietTactic
import Derived.BigQuiet
import Derived.BigRegion
import Derived.Deep.RegionHeld3
import Derived.Deep.AppendLies
namespace Go.Proofs.Ytahhbehpgolinaa.Me
open Go.RowKit
set_option linter.unusedVariables false

theorem new_mi (w : World) : MI ((w.alloc (.map #[] 0)).alloc (.cells #[.map (some w.heap.size), .slice none 0 0, .int .i64 0] 58)) w.heap.size (fun k => w.heap.size ≤ k ∧ k < ((w.alloc (.map #[] 0)).alloc (.cells #[.map (some w.heap.size), .slice none 0 0, .int .i64 0] 58)).heap.size) (w.heap.size + 1) 0 [] (fun _ _ => 0) 0 := by
  refine ⟨[], fun _ _ => none, w.heap.size, none, 0, ⟨fun k hk => hk, ⟨by omega, by simp⟩, ⟨Nat.le_refl _, by simp; omega⟩, by omega, fun k hk => by simp [Value.ownBlock] at hk, ?_, ?_, ?_, fun i d e => by simp at e, fun i d k e => by simp at e, fun i j d e k h1 => by simp at h1⟩, ⟨fun a b => rfl, fun _ _ _ => rfl, fun i d b v k e => by simp at e, fun i d k o _ e => by simp at e, fun i d e => by simp at e⟩, rfl⟩
  · have := heap_alloc_new (w.alloc (.map #[] 0)) (.cells #[.map (some w.heap.size), .slice none 0 0, .int .i64 0] 58)
    simpa using this
  · refine (mc_made w).kept ?_
    exact Below.heap_alloc _ _ _ (by simp)
  · exact World.ownsRow_nil _ _ _ _

set_option maxRecDepth 100000 in
theorem new_any (w : World) : Calls Try.prog 9 #[] w fun e w' => ∃ p, e = .returned (.pointer (some ⟨p, 0, none⟩)) ∧ MI w' w.heap.size (fun k => w.heap.size ≤ k ∧ k < w'.heap.size) p 0 [] (fun _ _ => 0) 0 ∧ Fr (fun _ => False) w w' := by
  have hmk := run_makeMap (P := Try.prog) 55
  go_enter Try.func9, Try.ntmps9
  go_wp2
  go_ret
  refine ⟨_, rfl, new_mi w, ?_⟩
  exact ((Fr.refl _ w).alloc _).alloc _

theorem blocks_any {w : World} {B : Nat} {bl : Nat → Prop} {p n : Nat} {bs : List Nat} {f : Int → Int → Int} {t : Int} (h : MI w B bl p n bs f t) :
    Calls Try.prog 17 #[.pointer (some ⟨p, 0, none⟩)] w fun e w' => e = .returned (.int .i64 bs.length) ∧ w' = w := by
  obtain ⟨L, F, M, la, lc, h, -, hs⟩ := h
  have hl : bs.length = L.length := by rw [← hs]; simp [szs]
  have c1 : w.cell? ⟨p, 1, none⟩ = some (.slice la L.length lc) := cell_of_block h.cells 1
  rw [hl]
  clear h hs hl
  go_enter Try.func17, Try.ntmps17
  go_wp2
  go_ret
  exact ⟨rfl, rfl⟩

theorem below_box (w : World) (o : Obj) (k : Nat) : Below w.heap.size w ((w.alloc o).drewN k) := by
  have h := (Below.refl w.heap.size w).alloc (Nat.le_refl _) o
  exact ⟨h.os, h.tape, h.output, h.size, h.block⟩
theorem cell_box {w : World} {ad : Addr} {v : Value} (h : w.cell? ad = some v) (o : Obj) : (w.alloc o).cell? ad = some v := by
  obtain ⟨b, j, x⟩ := ad
  cases x
  · rw [World.cell?_alloc_past _ _ _ (World.block_lt_of_cell? w _ h)]
    exact h
  · exact ((Below.refl w.heap.size w).alloc (Nat.le_refl _) o).cell (World.block_lt_of_cell? w _ h) |>.trans h

set_option maxRecDepth 100000 in
set_option maxHeartbeats 2000000 in
theorem has_yes {w : World} (p g len lc i : Nat) (b c : Int) (hlen : len ≤ 9223372036854775807) (hi : i < len) (hb : 0 ≤ b)
    (c1 : w.cell? ⟨p, 1, none⟩ = some (.slice (some ⟨g, 0, none⟩) len lc)) (c2 : w.cell? ⟨g, i * 2, none⟩ = some (.int .i64 c)) :
    Calls Try.prog 21 #[.pointer (some ⟨p, 0, none⟩), kv i b] w fun e w' => e = .returned (.bool (decide (b < c))) ∧ Below w.heap.size w w' := by
  unfold kv
  have d1 := cell_box c1 (.cells #[.int .i64 i, .int .i64 b] 31)
  have d2 := cell_box c2 (.cells #[.int .i64 i, .int .i64 b] 31)
  clear c1 c2
  have i0 : (0 : Int) ≤ (i : Int) := by omega
  have i1 : (i : Int) < (len : Int) := by omega
  go_enter Try.func21, Try.ntmps21
  go_wp2
  go_quiet (fail)
  go_wp2
  go_ret
  exact ⟨rfl, below_box _ _ _⟩

theorem has_low {w : World} (p : Nat) (a b : Int) (hn : ¬ 0 ≤ a) : Calls Try.prog 21 #[.pointer (some ⟨p, 0, none⟩), kv a b] w fun e w' => e = .returned (.bool false) ∧ Below w.heap.size w w' := by
  unfold kv
  have g1 : decide (0 ≤ a) = false := by simpa using hn
  clear hn
  go_enter Try.func21, Try.ntmps21
  go_wp2
  go_quiet (fail)
  go_wp2
  go_ret
  exact ⟨rfl, below_box _ _ _⟩
theorem has_far {w : World} (p len lc : Nat) (la : Option Addr) (a b : Int) (ha : 0 ≤ a) (hn : ¬ a < (len : Int)) (c1 : w.cell? ⟨p, 1, none⟩ = some (.slice la len lc)) :
    Calls Try.prog 21 #[.pointer (some ⟨p, 0, none⟩), kv a b] w fun e w' => e = .returned (.bool false) ∧ Below w.heap.size w w' := by
  unfold kv
  have d1 := cell_box c1 (.cells #[.int .i64 a, .int .i64 b] 31)
  have g1 : decide (a < (len : Int)) = false := by simpa using hn
  clear c1 hn
  go_enter Try.func21, Try.ntmps21
  go_wp2
  go_quiet (fail)
  go_wp2
  go_ret
  exact ⟨rfl, below_box _ _ _⟩
theorem has_neg {w : World} (p len lc : Nat) (la : Option Addr) (a b : Int) (ha : 0 ≤ a) (hi : a < (len : Int)) (hn : ¬ 0 ≤ b) (c1 : w.cell? ⟨p, 1, none⟩ = some (.slice la len lc)) :
    Calls Try.prog 21 #[.pointer (some ⟨p, 0, none⟩), kv a b] w fun e w' => e = .returned (.bool false) ∧ Below w.heap.size w w' := by
  unfold kv
  have d1 := cell_box c1 (.cells #[.int .i64 a, .int .i64 b] 31)
  have g1 : decide (0 ≤ b) = false := by simpa using hn
  clear c1 hn
  go_enter Try.func21, Try.ntmps21
  go_wp2
  go_quiet (fail)
  go_wp2
  go_ret
  exact ⟨rfl, below_box _ _ _⟩

theorem has_mx {w : World} {B : Nat} {bl : Nat → Prop} {p n : Nat} {L : List Bk} {F : FF} {t : Int} {M : Nat} {la : Option Addr} {lc : Nat} (h : MX w B bl p n L F t M la lc) (a b : Int) (hl : L.length ≤ 1000000) :
    Calls Try.prog 21 #[.pointer (some ⟨p, 0, none⟩), kv a b] w fun e w' => e = .returned (.bool (inB (szs L) a b)) ∧ Below w.heap.size w w' := by
  have c1 : w.cell? ⟨p, 1, none⟩ = some (.slice la L.length lc) := cell_of_block h.cells 1
  have hsz : (szs L).length = L.length := by simp [szs]
  by_cases ha : 0 ≤ a
  · by_cases hi : a < (L.length : Int)
    · by_cases hb : 0 ≤ b
      · have hlt : a.toNat < L.length := by omega
        obtain ⟨g, rfl, c2, -, -⟩ := h.at (i := a.toNat) (d := L[a.toNat]) (by simp [hlt])
        have := has_yes p g L.length lc a.toNat b _ (by omega) (by omega) hb c1 c2
        rw [show ((a.toNat : Nat) : Int) = a by omega] at this
        refine this.mono ?_
        rintro e w' ⟨rfl, hw⟩
        refine ⟨?_, hw⟩
        have e1 : (szs L).getD a.toNat 0 = (L[a.toNat]).c := by simp [szs, List.getD, hlt]
        simp only [inB, hsz, ha, hi, hb, e1, decide_true, Bool.true_and]
      · refine (has_neg p L.length lc la a b ha hi hb c1).mono ?_
        rintro e w' ⟨rfl, hw⟩
        exact ⟨by simp [inB, hb], hw⟩
    · refine (has_far p L.length lc la a b ha hi c1).mono ?_
      rintro e w' ⟨rfl, hw⟩
      exact ⟨by simp [inB, hsz, hi], hw⟩
  · refine (has_low p a b ha).mono ?_
    rintro e w' ⟨rfl, hw⟩
    exact ⟨by simp [inB, ha], hw⟩

theorem run_fld0 (w : World) (a b : Int) : (Instr.field 65 (.agg #[.int .i64 a, .int .i64 b]) 0).run Try.prog w = .ok (.int .i64 a) w := by
  simp [Instr.field, go_sem, asAgg]
theorem run_fld1 (w : World) (a b : Int) : (Instr.field 65 (.agg #[.int .i64 a, .int .i64 b]) 1).run Try.prog w = .ok (.int .i64 b) w := by
  simp [Instr.field, go_sem, asAgg]
attribute [local go_sem ↓] run_fld0 run_fld1

theorem load_facts {w : World} {B : Nat} {bl : Nat → Prop} {p n : Nat} {L : List Bk} {F : FF} {t : Int} {M : Nat} {la : Option Addr} {lc : Nat} (h : MX w B bl p n L F t M la lc) {a b : Int} (ha : I64 a) (hb : I64 b) :
    ∀ x1, Below (w.heap.size + 1) (w.alloc (.cells #[.int .i64 a, .int .i64 b] 31)) x1 → x1.cell? ⟨p, 0, none⟩ = some (.map (some M)) ∧
      (∀ j, (Instr.lookup 55 (.map (some M)) (.agg #[.int .i64 a, .int .i64 b]) false).run Try.prog (x1.drewN j) = .ok (.agg #[.int .i64 (c1 (F a b)), .int .i64 (c2 (F a b))]) (x1.drewN j)) ∧ x1.cell? ⟨w.heap.size, 0, none⟩ = some (.int .i64 a) ∧ x1.cell? ⟨w.heap.size, 1, none⟩ = some (.int .i64 b) := by
  intro x1 hx
  have c0 : w.cell? ⟨p, 0, none⟩ = some (.map (some M)) := cell_of_block h.cells 0
  have hlt := lt_of_some h.cells
  have hM := h.map.lt
  refine ⟨?_, ?_, ?_, ?_⟩
  · rw [hx.cell (p := ⟨p, 0, none⟩) (by simp; omega)]
    exact cell_box c0 _
  · have e : x1.heap[M]? = w.heap[M]? := by rw [hx.block M (by omega)]; exact Below.heap_alloc _ _ _ hM
    exact fun j => (h.map.kept (w' := x1.drewN j) e).look ha hb
  · rw [hx.cell (p := ⟨w.heap.size, 0, none⟩) (by simp)]
    exact cell_new rfl _ _ 0
  · rw [hx.cell (p := ⟨w.heap.size, 1, none⟩) (by simp)]
    exact cell_new rfl _ _ 1

set_option maxRecDepth 100000 in
theorem load_any {w : World} {B : Nat} {bl : Nat → Prop} {p n : Nat} {bs : List Nat} {f : Int → Int → Int} {t : Int} (h : MI w B bl p n bs f t) {a b : Int} (ha : I64 a) (hb : I64 b) (hl : bs.length ≤ 1000000) :
    Calls Try.prog 14 #[.pointer (some ⟨p, 0, none⟩), kv a b] w fun e w' => e = .returned (.tuple #[.int .i64 (f a b), .int .i64 (if inB bs a b then 0 else 12)]) ∧ Below w.heap.size w w' := by
  obtain ⟨L, F, M, la, lc, h, hf, hs⟩ := h
  have hF := load_facts h ha hb
  have hll : L.length ≤ 1000000 := by rw [← hs] at hl; simpa [szs] using hl
  have H := hideIt (h.kept (w' := w.alloc (.cells #[.int .i64 a, .int .i64 b] 31)) (fun k hk => Below.heap_alloc _ _ _ (h.rng k hk).2) (by simp))
  have HO := hideIt hf.out
  have hv := hf.c1 a b
  have HF := hideIt hF
  have HL := hideIt hll
  subst hs
  clear h hF ha hb hl hll hf
  rw [← hv]
  have HV := hideIt hv
  clear hv
  have hk : kv a b = .agg #[.int .i64 a, .int .i64 b] := rfl
  rw [hk]
  cases hin : inB (szs L) a b
  · have hz := hideIt (HO.out a b hin)
    go_enter Try.func14, Try.ntmps14
    go_wp2_with (first | (go_at_call 21; refine (has_mx H.out a b HL.out).mono ?_; rw [hin]; rintro e x1 ⟨rfl, hb⟩; have HB := hideIt hb; clear hb) | fail)
    go_ret2
    rw [HV.out, hz.out]
    exact ⟨rfl, ((Below.refl _ _).alloc (Nat.le_refl _) _).trans (HB.out.mono (by simp))⟩
  · go_enter Try.func14, Try.ntmps14
    go_wp2_with (first | (go_at_call 21; refine (has_mx H.out a b HL.out).mono ?_; rw [hin]; rintro e x1 ⟨rfl, hb⟩; have HB := hideIt hb; obtain ⟨k1, k2, k3, k4⟩ := HF.out x1 (by simpa using hb); clear hb) | fail)
    go_quiet (fail)
    go_wp2
    go_ret2
    refine ⟨rfl, ?_⟩
    have := ((Below.refl w.heap.size w).alloc (Nat.le_refl _) (.cells #[.int .i64 a, .int .i64 b] 31)).trans (HB.out.mono (by simp))
    exact ⟨this.os, this.tape, this.output, this.size, this.block⟩

end Go.Proofs.Ytahhbehpgolinaa.Me
