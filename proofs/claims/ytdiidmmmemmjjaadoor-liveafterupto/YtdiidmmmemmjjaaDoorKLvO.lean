/-
  A new walk in memory; one more part ahead of a part: facts on worlds; no conditions but those that each fact bears.
-/
import Derived.Test.YtdiidmmmemmjjaaDoorKLvM
namespace Go.Proofs.YtdiidmmmemmjjaaDoor.Lv
open Go.RowKit
set_option linter.unusedVariables false

theorem rep_cell {w : World} {b n k : Nat} {u : Value} {t : TypeId} (h : w.heap[b]? = some (.cells (Array.replicate n u) t (0, 0))) (hk : k < n) : w.cell? ⟨b, k, none⟩ = some u := by
  rw [cell_of_block h]
  simp [hk]

/-- A new walk. -/
theorem WM.new {w0 w1 w : World} {many words b18 b20 b22 b24 b26 b28 : Nat} (hq : w0.heap.size ≤ w1.heap.size) (h : Mk w1 w [(b18, .cells (Array.replicate many (.slice none 0 0)) 22 (0, 0)), (b20, .cells (Array.replicate words (.slice none 0 0)) 41 (0, 0)), (b22, .cells (Array.replicate words (.slice none 0 0)) 41 (0, 0)), (b24, .cells (Array.replicate many (.slice none 0 0)) 43 (0, 0)), (b26, .cells (Array.replicate many (.slice none 0 0)) 43 (0, 0)), (b28, .cells (Array.replicate many (.int .u64 0)) 78 (0, 0))]) :
    WM (w.alloc (.cells #[.slice (some ⟨b18, 0, none⟩) many many, .slice (some ⟨b20, 0, none⟩) words words, .slice (some ⟨b22, 0, none⟩) words words, .slice (some ⟨b24, 0, none⟩) many many, .slice (some ⟨b26, 0, none⟩) many many, .slice (some ⟨b28, 0, none⟩) many many, .slice none 0 0] 67)) w0.heap.size ⟨b18, b20, b22, b24, b26, b28, w.heap.size⟩ many words (fun _ => .slice none 0 0) (fun _ => []) (List.replicate many 0) := by
  obtain ⟨hQ, hat, hne⟩ := h
  simp only [List.mem_cons, List.not_mem_nil, or_false, forall_eq_or_imp, forall_eq] at hat
  obtain ⟨⟨l1, e1⟩, ⟨l2, e2⟩, ⟨l3, e3⟩, ⟨l4, e4⟩, ⟨l5, e5⟩, ⟨l6, e6⟩⟩ := hat
  simp only [List.pairwise_cons, List.mem_cons, List.not_mem_nil, or_false, forall_eq_or_imp, forall_eq, false_implies, implies_true, List.Pairwise.nil, and_true] at hne
  have s1 := (Array.getElem?_eq_some_iff.1 e1).1
  have s2 := (Array.getElem?_eq_some_iff.1 e2).1
  have s3 := (Array.getElem?_eq_some_iff.1 e3).1
  have s4 := (Array.getElem?_eq_some_iff.1 e4).1
  have s5 := (Array.getElem?_eq_some_iff.1 e5).1
  have s6 := (Array.getElem?_eq_some_iff.1 e6).1
  obtain ⟨⟨f1, f2, f3, f4, f5⟩, ⟨r1, r2, r3, r4⟩, ⟨t1, t2, t3⟩, ⟨i1, i2⟩, o1⟩ := hne
  have q : Q w (w.alloc (.cells #[.slice (some ⟨b18, 0, none⟩) many many, .slice (some ⟨b20, 0, none⟩) words words, .slice (some ⟨b22, 0, none⟩) words words, .slice (some ⟨b24, 0, none⟩) many many, .slice (some ⟨b26, 0, none⟩) many many, .slice (some ⟨b28, 0, none⟩) many many, .slice none 0 0] 67)) := (Q.refl w).alloc _
  have hx := heap_alloc_new w (.cells #[.slice (some ⟨b18, 0, none⟩) many many, .slice (some ⟨b20, 0, none⟩) words words, .slice (some ⟨b22, 0, none⟩) words words, .slice (some ⟨b24, 0, none⟩) many many, .slice (some ⟨b26, 0, none⟩) many many, .slice (some ⟨b28, 0, none⟩) many many, .slice none 0 0] 67)
  have sz : (w.alloc (.cells #[.slice (some ⟨b18, 0, none⟩) many many, .slice (some ⟨b20, 0, none⟩) words words, .slice (some ⟨b22, 0, none⟩) words words, .slice (some ⟨b24, 0, none⟩) many many, .slice (some ⟨b26, 0, none⟩) many many, .slice (some ⟨b28, 0, none⟩) many many, .slice none 0 0] 67)).heap.size = w.heap.size + 1 := by simp
  generalize w.alloc (.cells #[.slice (some ⟨b18, 0, none⟩) many many, .slice (some ⟨b20, 0, none⟩) words words, .slice (some ⟨b22, 0, none⟩) words words, .slice (some ⟨b24, 0, none⟩) many many, .slice (some ⟨b26, 0, none⟩) many many, .slice (some ⟨b28, 0, none⟩) many many, .slice none 0 0] 67) = W at *
  have e1 := heap_keep q e1
  have e2 := heap_keep q e2
  have e3 := heap_keep q e3
  have e4 := heap_keep q e4
  have e5 := heap_keep q e5
  have e6 := heap_keep q e6
  have hs := hQ.size
  refine ⟨⟨⟨⟨f1, f2, f3, f4, f5, by dsimp only; omega⟩, ⟨r1, r2, r3, r4, by dsimp only; omega⟩, ⟨t1, t2, t3, by dsimp only; omega⟩, ⟨i1, i2, by dsimp only; omega⟩, ⟨o1, by dsimp only; omega⟩, by dsimp only; omega⟩, fun m hm => ?_, fun m hm => ⟨by simp [rowN], Or.inl ⟨rfl, rfl⟩⟩, fun m m' _ _ _ b hb => by simp [Value.ownBlock] at hb, fun m _ b hb => by simp [Value.ownBlock] at hb, fun b hb => ?_⟩, fun b hb => ?_, (cell_of_block hx 0).trans rfl, (cell_of_block hx 1).trans rfl, (cell_of_block hx 2).trans rfl, (cell_of_block hx 3).trans rfl, (cell_of_block hx 4).trans rfl, (cell_of_block hx 5).trans rfl, by simp, ?_⟩
  · cases m with
    | fr k => exact ⟨rep_cell e1 hm, free_of_block e1 _⟩
    | rd k => exact ⟨rep_cell e2 hm, free_of_block e2 _⟩
    | wt k => exact ⟨rep_cell e3 hm, free_of_block e3 _⟩
    | inn k => exact ⟨rep_cell e4 hm, free_of_block e4 _⟩
    | out k => exact ⟨rep_cell e5 hm, free_of_block e5 _⟩
    | work => exact ⟨(cell_of_block hx 6).trans rfl, free_of_block hx _⟩
  · simp only [Bl.isB] at hb
    omega
  · simp only [Bl.isB] at hb
    omega
  · rw [e6]
    simp

/-- What there is ahead of the append to a list of parts. -/
theorem fr_facts {w : World} {base : Nat} {B : Bl} {many words : Nat} {v : Vs} {es : Es} {wo : List Int} (h : WM w base B many words v es wo) (hb : base ≤ w.heap.size) (z : Int) : ∀ X : World, X.heap = (w.alloc (.cells #[.int .i64 z] 3)).heap → X.os = w.os → X.tape = w.tape → X.output = w.output → WM X base B many words v es wo ∧ Q w X ∧ (∀ j u, [Value.int .i64 z][j]? = some u → X.cell? ((⟨w.heap.size, 0, none⟩ : Addr).add j) = some u) ∧ base ≤ X.heap.size ∧ X.heap.size = w.heap.size + 1 := fun X hX x1 x2 x3 => by
  have hs : X.heap.size = w.heap.size + 1 := by rw [hX]; simp
  have hb' : X.heap[w.heap.size]? = some (.cells #[.int .i64 z] 3 (0, 0)) := by rw [hX]; exact heap_alloc_new w _
  have q : Q w X := ⟨x1, x2, x3, by omega, fun k hk => by rw [hX]; exact heap_alloc_old w _ hk⟩
  exact ⟨h.q q, q, World.news_of_block hb', by omega, hs⟩

/-- One part more is ahead of a part. -/
theorem WM.fapp {w X w1 : World} {base : Nat} {B : Bl} {many words : Nat} {v : Vs} {es : Es} {wo : List Int} (f1 : WM X base B many words v es wo) (hbase : base ≤ X.heap.size) (q : Q w X) (hs : w.heap.size ≤ X.heap.size) (k : Nat) (hk : k < many) {z : Int} {g cap : Nat} {va : Option Addr} {vc : Nat} (hb0 : base ≤ w.heap.size) (ev : v (.fr k) = .slice va (es (.fr k)).length vc) (hown : w1.ownsRow base 3 1 (.slice (some ⟨g, 0, none⟩) ((es (.fr k)).length + 1) cap) ((es (.fr k)).length + 1) (rowN (.fr k) (es (.fr k)) ++ [.int .i64 z])) (hg : X.grownBy w1 (Value.slice va (es (.fr k)).length vc).ownBlock) (hat : (Value.slice va (es (.fr k)).length vc).ownBlock = some g ∨ g = X.heap.size) :
    w1.cell? ⟨B.F, k, none⟩ = some (.slice va (es (.fr k)).length vc) ∧ w1.frozen? ⟨B.F, k, none⟩ = false ∧ w1.cell? ⟨B.Wk, 0, none⟩ = some (.slice (some ⟨B.F, 0, none⟩) many many) ∧ (∃ v', WM (w1.setCell ⟨B.F, k, none⟩ (.slice (some ⟨g, 0, none⟩) ((es (.fr k)).length + 1) cap)) base B many words v' (upd es (.fr k) (es (.fr k) ++ [(z, 0)])) wo ∧ Kp B many words w v (w1.setCell ⟨B.F, k, none⟩ (.slice (some ⟨g, 0, none⟩) ((es (.fr k)).length + 1) cap)) v') ∧ Below base w (w1.setCell ⟨B.F, k, none⟩ (.slice (some ⟨g, 0, none⟩) ((es (.fr k)).length + 1) cap)) := by
  have hm : okN many words (.fr k) := hk
  rw [← ev] at hg hat
  have hnb : (v (.fr k)).ownBlock ≠ some B.F := fun e => f1.fm.far (.fr k) hm _ e (hb_is B (.fr k))
  have hnw : (v (.fr k)).ownBlock ≠ some B.Wk := fun e => f1.fm.far (.fr k) hm _ e (isB_Wk B)
  obtain ⟨hh1, hh2⟩ := f1.fm.head (.fr k) hm
  have hrow : w1.ownsRow base (tyN (.fr k)) (szN (.fr k)) (.slice (some ⟨g, 0, none⟩) ((es (.fr k)).length + 1) cap) (es (.fr k) ++ [(z, 0)]).length (rowN (.fr k) (es (.fr k) ++ [(z, 0)])) := by
    rw [rowN_app, List.length_append]
    exact hown
  obtain ⟨r1, r2⟩ := f1.fm.next hm hg hrow (by
    rcases hat with e | e
    · exact Or.inl e.symm
    · exact Or.inr ⟨g, rfl, by omega⟩)
  refine ⟨by rw [← ev]; exact hg.cell hh1 (fun e => hnb e.symm), (World.frozen?_of_block (hg.block _ (World.block_lt_of_cell? _ _ hh1) (fun e => hnb e.symm))).trans hh2, hg.cell f1.c0 (fun e => hnw e.symm), ⟨_, f1.fc hm r1 r2, (Kp.q q).trans (Kp.push hm r2 fun b hb' => ?_)⟩, Below.trans ⟨q.os, q.tape, q.output, q.size, fun b hb' => q.block b (by omega)⟩ (f1.below hm r2 hbase)⟩
  have e9 : g = b := by simpa [Value.ownBlock] using hb'
  rcases hat with e | e
  · exact Or.inl (by rw [e, e9])
  · exact Or.inr (by omega)

end Go.Proofs.YtdiidmmmemmjjaaDoor.Lv
