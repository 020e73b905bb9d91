/-
  What New makes of a list of draws: a contract over the program; the conditions: the slice reads as these draws, each a number of 64 bits without sign.
-/
import Derived.Test.YteefahkjdpaogabBelow
import Derived.Laws.CopyOwn
namespace Go.Proofs.Yteefahkjdpaogab
open Go.RowKit
set_option linter.unusedVariables false

theorem Try.info43 : (Try.prog.info? 43).map (fun i => (i.zero, i.size, i.bytes)) = some (some (.int .u64 0), 1, 8) := by kernel_rfl
theorem Try.size43 : (Try.prog.info? 43).map (·.size) = some 1 := by kernel_rfl

/-- A slice of numbers that reads as xs. -/
def Reads (k : IntKind) (w : World) (a : Option Addr) (xs : List Int) : Prop :=
  ∀ j, j < xs.length → ∃ ad, a = some ad ∧ w.cell? (ad.add j) = some (.int k (xs.getD j 0))

theorem TP.base {w : World} {B B' : Nat} {bl : Nat → Prop} {p : Nat} {ds : List Int} {u : Nat} {lg : List (Int × Int)} (h : TP w B bl p ds u lg) (hb : B' ≤ B) : TP w B' bl p ds u lg := by
  obtain ⟨db, la, lc, h1, h2, h3, h4, h5⟩ := h.ex
  exact ⟨fun k hk => ⟨Nat.le_trans hb (h.rng k hk).1, (h.rng k hk).2⟩, h.inp, h.ule, h.dlen, h.dwf, db, la, lc, h1, h2, h3, h4, ownsRow_mono h5 hb⟩

theorem made_block {w : World} {base g n : Nat} {e : TypeId} {xs : List Value} (h : w.ownsRow base e 1 (.slice (some ⟨g, 0, none⟩) n n) n xs) : w.heap[g]? = some (.cells xs.toArray e (0, 0)) := by
  rcases h.2 with ⟨h, _⟩ | ⟨g', cap, cur, h, _, hh, _, _, hs, ht⟩
  · simp at h
  · simp at h
    obtain ⟨rfl, rfl⟩ := h
    rw [hh]
    have : cur.toList.take (n * 1) = cur.toList := List.take_of_length_le (by simp; omega)
    rw [this] at ht
    rw [← ht]

theorem new_tp {w w2 : World} {xs : List Int} {cur : List Value} (hlen : xs.length ≤ 4096) (hwf : ∀ d ∈ xs, 0 ≤ d ∧ d ≤ 18446744073709551615) (hc : cur = xs.map (Value.int .u64))
    (hb : w2.heap[w.heap.size]? = some (.cells cur.toArray 43 (0, 0))) (hbel : Below w.heap.size w w2) :
    TP (w2.alloc (.cells #[.slice (some ⟨w.heap.size, 0, none⟩) xs.length xs.length, .int .i64 0, .slice none 0 0] 48)) w.heap.size (fun k => w.heap.size ≤ k ∧ k < (w2.alloc (.cells #[.slice (some ⟨w.heap.size, 0, none⟩) xs.length xs.length, .int .i64 0, .slice none 0 0] 48)).heap.size) w2.heap.size xs 0 [] := by
  have hs := hbel.size
  have hlt := lt_of_block hb
  refine ⟨fun k hk => hk, ⟨by omega, by simp⟩, Nat.zero_le _, hlen, hwf, w.heap.size, none, 0, ⟨Nat.le_refl _, by simp; omega⟩, fun k hk => by simp [Value.ownBlock] at hk, ?_, ?_, ?_⟩
  · exact heap_alloc_new _ _
  · rw [Below.heap_alloc _ _ _ hlt, hb, hc]
  · exact World.ownsRow_nil _ _ _ _

theorem Fr.of_below {w w' : World} (h : Below w.heap.size w w') : Fr (fun _ => False) w w' := ⟨h.os, h.tape, h.output, h.size, fun k hk _ => h.block k hk⟩
theorem splice_all (cur cs : List Value) (h : cs.length = cur.length) : splice cur 0 cs = cs := by
  simp [splice, h]

theorem copy_pos {w : World} {a : Option Addr} {k : IntKind} {xs : List Int} {g : Nat} (hS : Reads k w a xs) : ∀ w1, Below w.heap.size w w1 → 0 < (xs.map (Value.int k)).length →
    some (⟨g, 0, none⟩ : Addr) = some ⟨g, 0, none⟩ ∧ ∃ ad, a = some ad ∧ ∀ j v, (xs.map (Value.int k))[j]? = some v → w1.cell? (ad.add j) = some v := by
  intro w1 hb1 h0
  refine ⟨rfl, ?_⟩
  have h0' : 0 < xs.length := by simpa using h0
  obtain ⟨ad, rfl, _⟩ := hS 0 h0'
  refine ⟨ad, rfl, fun j v hj => ?_⟩
  have hj' : j < xs.length := by
    have := (List.getElem?_eq_some_iff.1 hj).1
    simpa using this
  obtain ⟨ad', e, hc⟩ := hS j hj'
  cases e
  rw [hb1.cell (p := ad.add j) (World.block_lt_of_cell? w _ hc), hc]
  rw [← hj]
  simp [hj']

set_option maxRecDepth 100000 in
set_option maxHeartbeats 1000000 in
theorem new_any (w : World) (a : Option Addr) (len cap : Nat) (xs : List Int) (hx : xs.length = len) (hlen : len ≤ 4096) (hsrc : Reads .u64 w a xs) (hwf : ∀ d ∈ xs, 0 ≤ d ∧ d ≤ 18446744073709551615) :
    Calls Try.prog 8 #[.slice a len cap] w fun e w' => ∃ p, e = .returned (.tuple #[.pointer (some ⟨p, 0, none⟩), .int .i64 0]) ∧ TP w' w.heap.size (fun k => w.heap.size ≤ k ∧ k < w'.heap.size) p xs 0 [] ∧ Fr (fun _ => False) w w' := by
  obtain ⟨i0, hi, hz0, hz1, hz2⟩ := info_parts Try.info43
  have hS := hideIt hsrc
  have hW := hideIt hwf
  have hX := hideIt hx
  have cpos := hideIt (copy_pos (g := w.heap.size) hsrc)
  clear hsrc hwf hx
  go_enter Try.func8, Try.ntmps8
  go_wp2_with (first | (at_make; refine wpList_make_full _ rfl (.tmp 9) (.tmp 9) 22 rfl w.heap.size 43 i0 (.int .u64 0) 1 Try.underlying22 hi hz0 hz1 .i64 .i64 (len : Int) (len : Int) len rfl rfl rfl rfl (by rw [hz2]; omega) (by unfold maxLen; omega) (Nat.le_refl _) ?_; intro w1 ho1 hg1; have hm := hideIt (made_block ho1); have hb1 := hideIt (Below.grown (Below.refl w.heap.size w) hg1 (Nat.le_refl _) (fun k h => by cases h)); clear ho1 hg1) | (refine wpList_copy_splice rfl (.tmp 11) (.tmp 12) 22 22 rfl 43 Try.underlying22 Try.size43 (some ⟨w.heap.size, 0, none⟩) a len len len cap rfl rfl w.heap.size 0 _ 43 hm.out (xs.map (Value.int .u64)) (by simp [hX.out]) (cpos.out _ hb1.out) (by simp [size_madeCells, hX.out]) (by intro v hv; simp at hv; obtain ⟨x, _, rfl⟩ := hv; rfl) w.heap.size w hb1.out (Nat.le_refl _) ?_))
  · intro w2 hw2 hbel2
    have hn : Hid (w2.heap[w.heap.size]? = some (.cells (xs.map (Value.int .u64)).toArray 43 (0, 0))) := by
      have := hw2.out
      rw [splice_all _ _ (by simp [size_madeCells, hX.out])] at this
      exact this
    have hbel := hideIt hbel2
    clear hw2 hbel2
    go_wp2
    go_ret2
    have hr := new_tp (by rw [hX.out]; exact hlen) hW.out rfl hn.out hbel.out
    rw [hX.out] at hr
    refine ⟨_, rfl, ?_, (Fr.of_below hbel.out).alloc _⟩
    exact hr

theorem two_step {w w' : World} {B : Nat} {b1 b2 : Nat → Prop} {p1 p2 : Nat} {d1 d2 : List Int} {u1 u2 u1' : Nat} {l1 l2 l1' : List (Int × Int)} (h2 : TP w B b2 p2 d2 u2 l2) (hap : ∀ k, b1 k → ¬ b2 k)
    (hb : ∃ b1', (∀ k, b1 k → b1' k) ∧ (∀ k, b1' k → b1 k ∨ w.heap.size ≤ k) ∧ TP w' B b1' p1 d1 u1' l1') (hF : Fr b1 w w') :
    ∃ b1', TP w' B b1' p1 d1 u1' l1' ∧ TP w' B b2 p2 d2 u2 l2 ∧ ∀ k, b1' k → ¬ b2 k := by
  obtain ⟨b1', _, r2, r3⟩ := hb
  refine ⟨b1', r3, h2.fr hF (fun k hk h => hap k h hk), fun k hk h => ?_⟩
  rcases r2 k hk with h' | h'
  · exact hap k h' h
  · have := (h2.rng k h).2
    omega

theorem reads_lit (w : World) : Reads .u64 (w.alloc (.cells #[.int .u64 7] 43)) (some ⟨w.heap.size, 0, none⟩) [7] := by
  intro j hj
  have e : j = 0 := by simpa using hj
  subst e
  exact ⟨_, rfl, cell_new rfl _ _ 0⟩

set_option maxRecDepth 100000 in
set_option maxHeartbeats 1000000 in
theorem awake_any (w : World) : Calls Try.prog 7 #[] w fun e w' => e = .returned (.bool true) ∧ Below w.heap.size w w' := by
  have hS := hideIt (reads_lit w)
  have h7 := hideIt (show ∀ d ∈ [(7 : Int)], 0 ≤ d ∧ d ≤ 18446744073709551615 by intro d hd; simp at hd; omega)
  have v7 : val [7] 0 4 = 3 := rfl
  have n7 : nxt [7] 0 = 1 := rfl
  go_enter Try.func7, Try.ntmps7
  go_wp2_with (first | (go_at_call 8; refine (new_any _ _ _ _ [7] rfl (by decide) hS.out h7.out).mono ?_; rintro e x1 ⟨p, rfl, hT, hF⟩; have HT := hideIt hT; have HF := hideIt hF; clear hT hF) | (go_at_call 11; refine (below_any _ 4 HT.out (by omega) (by omega) (by decide) HF.out.size).mono ?_; rw [v7, n7]; rintro e x2 ⟨rfl, ⟨bl, _, _, hT2⟩, hF2⟩; have HT2 := hideIt hT2; have HF2 := hideIt hF2; clear hT2 hF2) | (go_at_call 14; refine (used_any _ HT2.out).mono ?_; rintro e x3 ⟨rfl, rfl⟩))
  go_ret
  refine ⟨rfl, ?_⟩
  have a1 := (HF.out.below (B := w.heap.size) (by simp) (fun k h => h.elim))
  have a2 := (HF2.out.below (B := w.heap.size) (by have := HF.out.size; simp at this; omega) (fun k h => by have := h.1; simp at this; omega))
  exact (((Below.refl _ _).alloc (Nat.le_refl _) _).trans a1).trans a2

end Go.Proofs.Yteefahkjdpaogab
