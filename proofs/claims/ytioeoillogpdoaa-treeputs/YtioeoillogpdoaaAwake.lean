/-
  The document's example is answered as it says; the document's weight: contracts over the program; no conditions but that the argument is a tree of at most 6000 nodes that lies in memory.
-/
import Derived.Test.YtioeoillogpdoaaWeightsB
namespace Go.Proofs.Ytioeoillogpdoaa
open Go.RowKit
set_option linter.unusedVariables false

theorem rWeight_any (f : Fo) (v : NF) (a : Option Addr) (c : Nat) (w : World) (hv : v.ok) (hin : In w a f) (hs : sok a f.len c) (hz : f.size ≤ 7000) :
    Calls Try.prog 17 #[nodeV v (.slice a f.len c)] w fun e w' => e = .returned (.int .i64 ((if f.fine then 1 + nb v + f.weight else 0 : Nat) : Int)) ∧ Q w w' := by
  have HF := hideIt (rFine_any f v a c (boxed w v (.slice a f.len c)) (hin.keep (Nat.le_refl _) (boxed_q _ _ _)) hs)
  have HC : Hid (∀ X, Q (boxed w v (.slice a f.len c)) X → Calls Try.prog 37 #[nodeV v (.slice a f.len c)] X fun e w' => e = .returned (.int .i64 ((1 + nb v + f.weight : Nat) : Int)) ∧ Q X w') := fun X hX => rweight_any (f.size + 1) f (by omega) v a c X hv (hin.keep (Nat.le_refl _) ((boxed_q _ _ _).trans hX)) hs hz
  cases hfi : f.fine with
  | false =>
    rw [hfi] at HF
    rw [if_neg (by simp)]
    clear hin hs hfi
    go_enter Try.func17, Try.ntmps17
    go_wp2_with (go_at_call 15; refine HF.out.mono ?_; rintro e x ⟨rfl, q1⟩)
    go_ret
    exact ⟨rfl, (boxed_q _ _ _).trans q1⟩
  | true =>
    rw [hfi] at HF
    rw [if_pos rfl]
    clear hin hs hfi
    generalize 1 + nb v + f.weight = M at *
    go_enter Try.func17, Try.ntmps17
    go_wp2_with (first | (go_at_call 15; refine HF.out.mono ?_; rintro e x ⟨rfl, q1⟩; obtain ⟨c0, c1, c2, c3, c4, c5, c6, c7, c8, c9⟩ := boxed_ten q1; have HX := hideIt q1; clear q1) | (go_at_call 37; refine (HC.out x HX.out).mono ?_; rintro e y ⟨rfl, h2⟩; have HH := hideIt h2; clear h2))
    go_ret
    exact ⟨rfl, (boxed_q _ _ _).trans (HX.out.trans HH.out)⟩

def nf (k n : Int) : NF := ⟨k, 0, 0, 0, 0, n, 0, ⟨#[]⟩, ⟨#[]⟩⟩
theorem nf_ok (k n : Int) (h : 0 ≤ k ∧ k ≤ 255) (h2 : 0 ≤ n ∧ n ≤ 10) : (nf k n).ok := ⟨h, by show (0 : Int) ≤ 0 ∧ (0 : Int) ≤ 255; omega, by show (0 : Int) ≤ 0 ∧ (0 : Int) ≤ 255; omega, by show (0 : Int) ≤ 0 ∧ (0 : Int) ≤ 255; omega, by show _ ≤ (0 : Int) ∧ (0 : Int) ≤ _; omega, by show _ ≤ n ∧ n ≤ _; omega, by show _ ≤ (0 : Int) ∧ (0 : Int) ≤ _; omega, by show 0 ≤ maxLen; omega, by show 0 ≤ maxLen; omega⟩
/-- The kids of the document's example, from block B on. -/
def sampleF (B : Nat) : Fo := .cons (nf 14 0) (some ⟨B, 0, none⟩) 1 (.cons (nf 15 5) none 0 .nil .nil) (.cons (nf 14 0) (some ⟨B + 1, 0, none⟩) 1 (.cons (nf 15 0) none 0 .nil .nil) .nil)

theorem at_block {w : World} {b : Nat} {cs : Array Value} {t : TypeId} (h : w.heap[b]? = some (.cells cs t (0, 0))) (o : Nat) (ds : List Value) (e : ∀ j, j < ds.length → cs[o + j]? = ds[j]?) : At w b o ds := fun j hj => by
  rw [cell_of_block h, e j hj]

theorem four (w : World) (A B C D : Obj) : ((((w.alloc A).alloc B).alloc C).alloc D).heap[w.heap.size + 1]? = some B ∧ ((((w.alloc A).alloc B).alloc C).alloc D).heap[w.heap.size + 1 + 1]? = some C ∧ ((((w.alloc A).alloc B).alloc C).alloc D).heap[w.heap.size + 1 + 1 + 1]? = some D := by
  refine ⟨?_, ?_, ?_⟩
  · rw [Below.heap_alloc _ D _ (by simp), Below.heap_alloc _ C _ (by simp)]
    simpa using heap_alloc_new (w.alloc A) B
  · rw [Below.heap_alloc _ D _ (by simp)]
    simpa using heap_alloc_new ((w.alloc A).alloc B) C
  · simpa using heap_alloc_new (((w.alloc A).alloc B).alloc C) D
theorem sampleF_weight (B : Nat) : 1 + nb (nf 7 0) + (sampleF B).weight = 8 := by
  simp only [sampleF, Fo.weight]
  decide +kernel

set_option maxRecDepth 100000 in
theorem sample_any (w : World) :
    Calls Try.prog 28 #[] w fun e w' => ∃ v a c f, e = .returned (nodeV v (.slice a (Fo.len f) c)) ∧ v.ok ∧ sok a f.len c ∧ In w' a f ∧ f.size = 4 ∧ f.depth = 2 ∧ 1 + nb v + f.weight = 8 ∧ Q w w' := by
  go_enter Try.func28, Try.ntmps28
  go_wp2_with (fail)
  refine bodyPost_ret (v := nodeV (nf 7 0) (.slice (some ⟨w.heap.size + 1 + 1 + 1, 0, none⟩) 2 2)) (by simp [results, Try.results28, go_sem, nf]) rfl ⟨nf 7 0, some ⟨w.heap.size + 1 + 1 + 1, 0, none⟩, 2, sampleF (w.heap.size + 1), rfl, nf_ok 7 0 (by decide) (by decide), ⟨Nat.le_refl 2, by decide, fun h => by cases h⟩, ?_, rfl, rfl, sampleF_weight _, ?_⟩
  · have s1 : sok (some ⟨w.heap.size + 1, 0, none⟩) (Fo.len (.cons (nf 15 5) none 0 .nil .nil)) 1 := ⟨by decide, by decide, fun h => by cases h⟩
    have s2 : sok (some ⟨w.heap.size + 1 + 1, 0, none⟩) (Fo.len (.cons (nf 15 0) none 0 .nil .nil)) 1 := ⟨by decide, by decide, fun h => by cases h⟩
    have s0 : sok none 0 0 := ⟨by decide, by decide, fun _ => rfl⟩
    obtain ⟨f1, f2, f3⟩ := four w _ _ _ _
    refine ⟨w.heap.size + 1 + 1 + 1, 0, rfl, at_block f3 0 _ ?_, nf_ok 14 0 (by decide) (by decide), s1, ⟨w.heap.size + 1, 0, rfl, at_block f1 0 _ ?_, nf_ok 15 5 (by decide) (by decide), s0, trivial, trivial⟩, ⟨w.heap.size + 1 + 1 + 1, 10, rfl, at_block f3 10 _ ?_, nf_ok 14 0 (by decide) (by decide), s2, ⟨w.heap.size + 1 + 1, 0, rfl, at_block f2 0 _ ?_, nf_ok 15 0 (by decide) (by decide), s0, trivial, trivial⟩, trivial⟩⟩
    all_goals intro j hj
    all_goals (match j, hj with
      | 0, _ => rfl
      | 1, _ => rfl
      | 2, _ => rfl
      | 3, _ => rfl
      | 4, _ => rfl
      | 5, _ => rfl
      | 6, _ => rfl
      | 7, _ => rfl
      | 8, _ => rfl
      | 9, _ => rfl)
  · exact Below.alloc (Below.alloc (Below.alloc (Below.alloc (Below.refl _ _) (Nat.le_refl _) _) (by simp) _) (by simp; omega) _) (by simp; omega) _

theorem awake_calls {w x : World} {v : NF} {a : Option Addr} {c : Nat} {f : Fo} (h : v.ok ∧ sok a f.len c ∧ In x a f ∧ f.size = 4 ∧ f.depth = 2 ∧ 1 + nb v + f.weight = 8 ∧ Q w x) :
    (∀ X, Q (boxed x v (.slice a f.len c)) X → Calls Try.prog 10 #[nodeV v (.slice a f.len c)] X fun e w' => e = .returned (.int .i64 5) ∧ Q X w') ∧
    (∀ X, Q (boxed x v (.slice a f.len c)) X → Calls Try.prog 12 #[nodeV v (.slice a f.len c)] X fun e w' => e = .returned (.int .i64 3) ∧ Q X w') ∧
    (∀ X, Q (boxed x v (.slice a f.len c)) X → Calls Try.prog 16 #[nodeV v (.slice a f.len c)] X fun e w' => e = .returned (.int .i64 8) ∧ Q X w') := by
  obtain ⟨hv, hs, hin, z1, z2, z3, _⟩ := h
  refine ⟨fun X hX => ?_, fun X hX => ?_, fun X hX => ?_⟩
  · have := size_any f v a c X hv (hin.keep (Nat.le_refl _) ((boxed_q _ _ _).trans hX)) hs (by omega)
    rw [z1] at this
    exact this
  · have := depth_any f v a c X hv (hin.keep (Nat.le_refl _) ((boxed_q _ _ _).trans hX)) hs (by omega)
    rw [z2] at this
    exact this
  · have := weight_any f v a c X hv (hin.keep (Nat.le_refl _) ((boxed_q _ _ _).trans hX)) hs (by omega)
    have hf : f.fine = true := by unfold Fo.fine; rw [z1, z2]; decide
    rw [hf, if_pos rfl, z3] at this
    exact this

set_option maxRecDepth 100000 in
set_option maxHeartbeats 1000000 in
theorem awake_any (w : World) : Calls Try.prog 9 #[] w fun e w' => e = .returned (.bool true) ∧ Q w w' := by
  go_enter Try.func9, Try.ntmps9
  go_wp2_with (first | (go_at_call 28; refine (sample_any _).mono ?_; rintro e x ⟨v, a, c, f, rfl, hz⟩; have HC := hideIt (awake_calls hz); have HZ := hideIt hz.2.2.2.2.2.2; clear hz) | (go_at_call 10; refine (HC.out.1 _ (Below.refl _ _)).mono ?_; rintro e y ⟨rfl, q1⟩; obtain ⟨c0, c1, c2, c3, c4, c5, c6, c7, c8, c9⟩ := boxed_ten q1; have H1 := hideIt q1; clear q1) | (go_at_call 12; refine (HC.out.2.1 _ H1.out).mono ?_; rintro e z ⟨rfl, q2⟩; obtain ⟨d0, d1, d2, d3, d4, d5, d6, d7, d8, d9⟩ := boxed_ten (H1.out.trans q2); have H2 := hideIt (H1.out.trans q2); clear q2) | (go_at_call 16; refine (HC.out.2.2 _ H2.out).mono ?_; rintro e u ⟨rfl, q3⟩; have H3 := hideIt (H2.out.trans q3); clear q3))
  go_ret
  exact ⟨rfl, HZ.out.trans ((boxed_q _ _ _).trans H3.out)⟩

end Go.Proofs.Ytioeoillogpdoaa
