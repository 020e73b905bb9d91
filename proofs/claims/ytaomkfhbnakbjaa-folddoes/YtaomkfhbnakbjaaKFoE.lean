/-
  The instructions of a part are folded where they lie (fold of fold): a contract over the program; the conditions: what is known and the instructions lie in memory.
-/
import Derived.Test.YtaomkfhbnakbjaaKFoD
namespace Go.Proofs.Ytaomkfhbnakbjaa.Fo
open Go.RowKit
set_option linter.unusedVariables false

/-- All but the blocks S, and new ones, is as it was. -/
structure Fs (S : Nat → Prop) (W W' : World) : Prop where
  os : W'.os = W.os
  tape : W'.tape = W.tape
  output : W'.output = W.output
  size : W.heap.size ≤ W'.heap.size
  block : ∀ k, k < W.heap.size → ¬ S k → W'.heap[k]? = W.heap[k]?
theorem Fs.refl (S : Nat → Prop) (W : World) : Fs S W W := ⟨rfl, rfl, rfl, Nat.le_refl _, fun _ _ _ => rfl⟩
theorem Fs.trans {S : Nat → Prop} {A B C : World} (h : Fs S A B) (k : Fs S B C) : Fs S A C := ⟨k.os.trans h.os, k.tape.trans h.tape, k.output.trans h.output, Nat.le_trans h.size k.size, fun j hj hn => (k.block j (Nat.lt_of_lt_of_le hj h.size) hn).trans (h.block j hj hn)⟩
theorem Fs.of_q {S : Nat → Prop} {W W' : World} (q : Q W W') : Fs S W W' := ⟨q.os, q.tape, q.output, q.size, fun k hk _ => q.block k hk⟩
theorem Fs.of_frx {S : Nat → Prop} {G : Nat} {W W' : World} (q : FrX G W W') (h : S G) : Fs S W W' := ⟨q.os, q.tape, q.output, q.size, fun k hk hn => q.block k hk (fun e => hn (by rw [e]; exact h))⟩
theorem Fs.set {S : Nat → Prop} {A B : World} (h : Fs S A B) {p : Addr} (hp : S p.block ∨ A.heap.size ≤ p.block) (u : Value) : Fs S A (B.setCell p u) :=
  ⟨h.os, h.tape, h.output, by have := h.size; simpa using this, fun j hj hn => (Below.heap_setCell B p u j (fun e => by rcases hp with hp | hp; exact hn (by rw [e]; exact hp); omega)).trans (h.block j hj hn)⟩
/-- What is new doesn't count. -/
theorem Fs.less {S T : Nat → Prop} {A B : World} (h : Fs S A B) (hs : ∀ k, S k → T k ∨ A.heap.size ≤ k) : Fs T A B := ⟨h.os, h.tape, h.output, h.size, fun k hk hn => h.block k hk (fun q => (hs k q).elim hn (fun e => by omega))⟩

/-- Instructions at block g. -/
structure IL (lo : Nat) (W : World) (g : Nat) (L : List PI) : Prop where
  blk : ∃ cs t, W.heap[g]? = some (.cells cs t (0, 0))
  at' : ∀ (k : Nat) (x : PI), L[k]? = some x → At W g (k * 7) x.cells ∧ x.ok W ∧ NB lo W x.aa x.args.length
theorem IL.first {lo : Nat} {W : World} {g : Nat} {L : List PI} (h : IL lo W g L) {n : Nat} {x : PI} (hx : L[n]? = some x) : ∃ o, W.cell? ⟨g, 0, none⟩ = some (.int .u8 o) := by
  have hl := (List.getElem?_eq_some_iff.1 hx).1
  obtain ⟨y, hy⟩ := get_of_lt (l := L) (k := 0) (by omega)
  have := (h.at' 0 y hy).1.seven.1
  rw [Nat.zero_mul] at this
  exact ⟨_, this⟩
/-- Arguments lie elsewhere. -/
theorem args_ne {lo : Nat} {W : World} {g : Nat} {u : Int} (hu : W.cell? ⟨g, 0, none⟩ = some (.int .u8 u)) {aa : Option Addr} {l : List Int} (hi : Ints W aa l) (hn : NB lo W aa l.length) : l = [] ∨ ∃ b, aa = some ⟨b, 0, none⟩ ∧ b ≠ g := by
  rcases hn with h0 | ⟨b, cs, t, e, hl, hh⟩
  · exact Or.inl (List.eq_nil_of_length_eq_zero h0)
  · by_cases h0 : l = []
    · exact Or.inl h0
    · refine Or.inr ⟨b, e, fun q => ?_⟩
      obtain ⟨y, hy⟩ := get_of_lt (l := l) (k := 0) (by have : l.length ≠ 0 := fun h => h0 (List.eq_nil_of_length_eq_zero h); omega)
      obtain ⟨b', o', e', hc⟩ := hi 0 y hy
      rw [e] at e'
      simp at e'
      obtain ⟨rfl, rfl⟩ := e'
      have := hc.1
      simp at this
      rw [q, hu] at this
      simp at this
theorem ok_ne {lo : Nat} {W W' : World} {g : Nat} {u : Int} (hu : W.cell? ⟨g, 0, none⟩ = some (.int .u8 u)) {x : PI} (h : x.ok W) (hn : NB lo W x.aa x.args.length) (f : ∀ k, k < W.heap.size → k ≠ g → W'.heap[k]? = W.heap[k]?) : x.ok W' ∧ NB lo W' x.aa x.args.length := by
  rcases args_ne hu h.args hn with h0 | ⟨b, e, hb⟩
  · refine ⟨⟨h.op, h.ty, h.dst, h.a, h.b, h.imm, h.sok, by rw [h0]; exact Lst.nil⟩, Or.inl (by rw [h0]; rfl)⟩
  · refine ⟨⟨h.op, h.ty, h.dst, h.a, h.b, h.imm, h.sok, fun k y hy => ?_⟩, ?_⟩
    · obtain ⟨b', o', e', hc⟩ := h.args k y hy
      have eb : b' = b := by rw [e] at e'; simp at e'; exact e'.1.symm
      refine ⟨b', o', e', ?_, hc.2⟩
      have hlt : b' < W.heap.size := World.block_lt_of_cell? W _ hc.1
      rw [← hc.1]
      simp only [World.cell?]
      rw [f b' hlt (by rw [eb]; exact hb)]
    · rcases hn with q | ⟨b', cs, t, e', hl, hh⟩
      · exact Or.inl q
      · have eb : b' = b := by rw [e] at e'; simp at e'; exact e'.symm
        exact Or.inr ⟨b', cs, t, e', hl, (f b' (Array.getElem?_eq_some_iff.1 hh).1 (by rw [eb]; exact hb)).trans hh⟩
theorem at_ne {W W' : World} {g o : Nat} {cs : List Value} (h : At W g o cs) (f : ∀ j, o ≤ j → j < o + cs.length → W'.cell? ⟨g, j, none⟩ = W.cell? ⟨g, j, none⟩) : At W' g o cs := fun j hj => by rw [f (o + j) (by omega) (by omega)]; exact h j hj

/-- Seven cells are written. -/
abbrev put7 (W : World) (g o : Nat) (a b c d e f h : Value) : World := ((((((W.setCell ⟨g, o, none⟩ a).setCell ⟨g, o + 1, none⟩ b).setCell ⟨g, o + 2, none⟩ c).setCell ⟨g, o + 3, none⟩ d).setCell ⟨g, o + 4, none⟩ e).setCell ⟨g, o + 5, none⟩ f).setCell ⟨g, o + 6, none⟩ h
theorem put7_other (W : World) (g o : Nat) (a b c d e f h : Value) (k : Nat) (hk : k ≠ g) : (put7 W g o a b c d e f h).heap[k]? = W.heap[k]? := by
  simp only [put7]
  rw [Below.heap_setCell _ _ _ _ hk, Below.heap_setCell _ _ _ _ hk, Below.heap_setCell _ _ _ _ hk, Below.heap_setCell _ _ _ _ hk, Below.heap_setCell _ _ _ _ hk, Below.heap_setCell _ _ _ _ hk, Below.heap_setCell _ _ _ _ hk]
theorem put7_size (W : World) (g o : Nat) (a b c d e f h : Value) : (put7 W g o a b c d e f h).heap.size = W.heap.size := by simp [put7]
theorem put7_blk {W : World} {g o : Nat} {cs : Array Value} {t : TypeId} (hb : W.heap[g]? = some (.cells cs t (0, 0))) (a b c d e f h : Value) : (put7 W g o a b c d e f h).heap[g]? = some (.cells (((((((cs.setIfInBounds o a).setIfInBounds (o + 1) b).setIfInBounds (o + 2) c).setIfInBounds (o + 3) d).setIfInBounds (o + 4) e).setIfInBounds (o + 5) f).setIfInBounds (o + 6) h) t (0, 0)) :=
  block_setCell (block_setCell (block_setCell (block_setCell (block_setCell (block_setCell (block_setCell hb a) b) c) d) e) f) h

theorem IL.put {lo : Nat} {W : World} {g : Nat} {L : List PI} (h : IL lo W g L) {n : Nat} {x y : PI} (hx : L[n]? = some x) (hy : ∀ W', y.ok W' ∧ NB lo W' y.aa y.args.length) :
    IL lo (put7 W g (n * 7) (.int .u8 y.op) (.int .u8 y.ty) (.int .i64 y.dst) (.int .i64 y.a) (.int .i64 y.b) (.int .i64 y.imm) (.slice y.aa y.args.length y.ac)) g (L.set n y) := by
  obtain ⟨cs, t, hb⟩ := h.blk
  obtain ⟨u, hu⟩ := h.first hx
  have hb' := put7_blk (o := n * 7) hb (.int .u8 y.op) (.int .u8 y.ty) (.int .i64 y.dst) (.int .i64 y.a) (.int .i64 y.b) (.int .i64 y.imm) (.slice y.aa y.args.length y.ac)
  have hnl := (List.getElem?_eq_some_iff.1 hx).1
  have h6 : n * 7 + 6 < cs.size := by
    have := (h.at' n x hx).1.seven.2.2.2.2.2.2
    rw [cell_of_block hb] at this
    exact (Array.getElem?_eq_some_iff.1 this).1
  refine ⟨⟨_, _, hb'⟩, fun k z hz => ?_⟩
  rw [List.getElem?_set] at hz
  split at hz
  · rename_i e
    subst e
    simp at hz
    subst hz
    refine ⟨fun j hj => ?_, hy _⟩
    rw [cell_of_block hb']
    have hj7 : j < 7 := hj
    match j, hj7 with
    | 0, _ => simp [PI.cells, Array.getElem?_setIfInBounds]; omega
    | 1, _ => simp [PI.cells, Array.getElem?_setIfInBounds]; omega
    | 2, _ => simp [PI.cells, Array.getElem?_setIfInBounds]; omega
    | 3, _ => simp [PI.cells, Array.getElem?_setIfInBounds]; omega
    | 4, _ => simp [PI.cells, Array.getElem?_setIfInBounds]; omega
    | 5, _ => simp [PI.cells, Array.getElem?_setIfInBounds]; omega
    | 6, _ => simp [PI.cells, Array.getElem?_setIfInBounds]; omega
  · rename_i e
    obtain ⟨z1, z2, z3⟩ := h.at' k z hz
    obtain ⟨w1, w2⟩ := ok_ne hu z2 z3 (W' := put7 W g (n * 7) (.int .u8 y.op) (.int .u8 y.ty) (.int .i64 y.dst) (.int .i64 y.a) (.int .i64 y.b) (.int .i64 y.imm) (.slice y.aa y.args.length y.ac)) (fun j _ hj => put7_other _ _ _ _ _ _ _ _ _ _ _ hj)
    refine ⟨at_ne z1 (fun j j1 j2 => ?_), w1, w2⟩
    have hcl : z.cells.length = 7 := rfl
    rw [hcl] at j2
    rw [cell_of_block hb', cell_of_block hb]
    rw [Array.getElem?_setIfInBounds_ne (by omega), Array.getElem?_setIfInBounds_ne (by omega), Array.getElem?_setIfInBounds_ne (by omega), Array.getElem?_setIfInBounds_ne (by omega), Array.getElem?_setIfInBounds_ne (by omega), Array.getElem?_setIfInBounds_ne (by omega), Array.getElem?_setIfInBounds_ne (by omega)]

theorem IL.ne {lo : Nat} {W W' : World} {g : Nat} {L : List PI} (h : IL lo W g L) (hs : W.heap.size ≤ W'.heap.size) (hg : W'.heap[g]? = W.heap[g]?) (hf : ∀ (b : Nat), (∀ u, W.cell? ⟨b, 0, none⟩ = some (.int .i64 u) → b < W.heap.size → W'.heap[b]? = W.heap[b]?)) : IL lo W' g L := by
  obtain ⟨cs, t, hb⟩ := h.blk
  refine ⟨⟨cs, t, hg.trans hb⟩, fun k x hx => ?_⟩
  obtain ⟨z1, z2, z3⟩ := h.at' k x hx
  refine ⟨at_ne z1 (fun j _ _ => by simp only [World.cell?]; rw [hg]), ?_⟩
  by_cases h0 : x.args = []
  · exact ⟨⟨z2.op, z2.ty, z2.dst, z2.a, z2.b, z2.imm, z2.sok, by rw [h0]; exact Lst.nil⟩, Or.inl (by rw [h0]; rfl)⟩
  · have hlen : x.args.length ≠ 0 := fun q => h0 (List.eq_nil_of_length_eq_zero q)
    rcases z3 with q | ⟨b, cs', t', e, hl, hh⟩
    · exact absurd q hlen
    · obtain ⟨y, hy⟩ := get_of_lt (l := x.args) (k := 0) (by omega)
      obtain ⟨b', o', e', hc⟩ := z2.args 0 y hy
      have e2 := e'
      rw [e] at e2
      simp at e2
      obtain ⟨rfl, rfl⟩ := e2
      have hc0 := hc.1
      simp at hc0
      have hk := hf b y hc0 (Array.getElem?_eq_some_iff.1 hh).1
      refine ⟨⟨z2.op, z2.ty, z2.dst, z2.a, z2.b, z2.imm, z2.sok, fun i y' hy' => ?_⟩, Or.inr ⟨b, cs', t', e, hl, hk.trans hh⟩⟩
      obtain ⟨b3, o3, e3, hc3⟩ := z2.args i y' hy'
      have e4 := e3
      rw [e] at e4
      simp at e4
      refine ⟨b3, o3, e3, ?_, hc3.2⟩
      rw [← hc3.1]
      simp only [World.cell?]
      rw [← e4.1, hk]

end Go.Proofs.Ytaomkfhbnakbjaa.Fo
