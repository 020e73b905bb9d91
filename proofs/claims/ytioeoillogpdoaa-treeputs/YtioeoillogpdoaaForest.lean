/-
  What a tree of nodes is in memory: a forest, its measures, where it lies, and how an argument opens into one; facts on worlds and readings alone; no conditions but those that each fact bears.
-/
import Derived.Test.YtioeoillogpdoaaChecked
import Derived.WalkKit
import Derived.WalkSpells
import Derived.WalkLawsBesides
import Derived.OpenShut
import Derived.Deep.Slices
namespace Go.Proofs.Ytioeoillogpdoaa
open Go.RowKit Go.Deep
set_option linter.unusedVariables false

/-- The fields of a node, but for its kids. -/
structure NF where
  k : Int
  op : Int
  tk : Int
  ti : Int
  tn : Int
  n : Int
  m : Int
  nm : ByteArray
  fd : ByteArray

/-- Nodes side by side, each with where its kids' slice leads. -/
inductive Fo where
  | nil : Fo
  | cons (v : NF) (a : Option Addr) (c : Nat) (kids rest : Fo) : Fo

namespace Fo
def len : Fo → Nat
  | nil => 0
  | cons _ _ _ _ r => r.len + 1
def size : Fo → Nat
  | nil => 0
  | cons _ _ _ k r => k.size + 1 + r.size
def depth : Fo → Nat
  | nil => 0
  | cons _ _ _ k r => max (k.depth + 1) r.depth
def drop : Nat → Fo → Fo
  | 0, f => f
  | _ + 1, nil => nil
  | i + 1, cons _ _ _ _ r => r.drop i
end Fo

/-- Bounds of a node's numbers. -/
structure NF.ok (v : NF) : Prop where
  k : 0 ≤ v.k ∧ v.k ≤ 255
  op : 0 ≤ v.op ∧ v.op ≤ 255
  tk : 0 ≤ v.tk ∧ v.tk ≤ 255
  ti : 0 ≤ v.ti ∧ v.ti ≤ 255
  tn : -9223372036854775808 ≤ v.tn ∧ v.tn ≤ 9223372036854775807
  n : -9223372036854775808 ≤ v.n ∧ v.n ≤ 9223372036854775807
  m : -9223372036854775808 ≤ v.m ∧ v.m ≤ 9223372036854775807
  nm : v.nm.size ≤ maxLen
  fd : v.fd.size ≤ maxLen

def cellsN (v : NF) (s : Value) : List Value := [.int .u8 v.k, .int .u8 v.op, .int .u8 v.tk, .int .u8 v.ti, .int .i64 v.tn, .int .i64 v.n, .int .i64 v.m, .string v.nm, .string v.fd, s]
/-- The node as a value. -/
abbrev nodeV (v : NF) (s : Value) : Value := .agg #[.int .u8 v.k, .int .u8 v.op, .int .u8 v.tk, .int .u8 v.ti, .int .i64 v.tn, .int .i64 v.n, .int .i64 v.m, .string v.nm, .string v.fd, s]

def sok (a : Option Addr) (n c : Nat) : Prop := n ≤ c ∧ c ≤ maxLen ∧ (a = none → c = 0)

def At (w : World) (b o : Nat) (cs : List Value) : Prop := ∀ j, j < cs.length → w.cell? ⟨b, o + j, none⟩ = cs[j]?

/-- The forest lies in w from a on. -/
def In (w : World) : Option Addr → Fo → Prop
  | _, .nil => True
  | a, .cons v ka kc kids rest => ∃ b o, a = some ⟨b, o, none⟩ ∧ At w b o (cellsN v (.slice ka kids.len kc)) ∧ v.ok ∧ sok ka kids.len kc ∧ In w ka kids ∧ In w (some ⟨b, o + 10, none⟩) rest

theorem Fo.drop_len (f : Fo) : ∀ i, (f.drop i).len = f.len - i := by
  induction f with
  | nil => intro i; cases i <;> simp [Fo.drop, Fo.len]
  | cons v a c k r _ ih =>
    intro i
    cases i with
    | zero => simp [Fo.drop]
    | succ i => simp only [Fo.drop, Fo.len]; rw [ih i]; omega
theorem Fo.drop_succ (f : Fo) : ∀ i, i < f.len → ∃ v a c k, f.drop i = .cons v a c k (f.drop (i + 1)) := by
  induction f with
  | nil => intro i h; simp [Fo.len] at h
  | cons v a c k r _ ih =>
    intro i h
    cases i with
    | zero => exact ⟨v, a, c, k, by simp [Fo.drop]⟩
    | succ i =>
      simp only [Fo.len] at h
      obtain ⟨v', a', c', k', e⟩ := ih i (by omega)
      exact ⟨v', a', c', k', by simpa [Fo.drop] using e⟩
theorem Fo.drop_all (f : Fo) : f.drop f.len = .nil := by
  induction f with
  | nil => rfl
  | cons v a c k r _ ih => simpa [Fo.drop, Fo.len] using ih
theorem Fo.size_drop (f : Fo) (i : Nat) : (f.drop i).size ≤ f.size := by
  induction f generalizing i with
  | nil => cases i <;> simp [Fo.drop]
  | cons v a c k r _ ih =>
    cases i with
    | zero => simp [Fo.drop]
    | succ i => have := ih i; simp only [Fo.drop, Fo.size]; omega
theorem Fo.len_le_size (f : Fo) : f.len ≤ f.size := by
  induction f with
  | nil => simp [Fo.len]
  | cons v a c k r _ ih => simp only [Fo.len, Fo.size]; omega

theorem In.drop {w : World} {b o : Nat} {f : Fo} (h : In w (some ⟨b, o, none⟩) f) (i : Nat) : In w (some ⟨b, o + i * 10, none⟩) (f.drop i) := by
  induction f generalizing i o with
  | nil => cases i <;> simp [Fo.drop, In]
  | cons v a c k r _ ih =>
    cases i with
    | zero => simpa [Fo.drop] using h
    | succ i =>
      obtain ⟨b', o', e, _, _, _, _, hr⟩ := h
      simp at e
      obtain ⟨rfl, rfl⟩ := e
      have := ih hr i
      rw [show o + (i + 1) * 10 = o + 10 + i * 10 by omega]
      exact this
/-- An element of a forest that lies in memory. -/
theorem In.elem {w : World} {a : Option Addr} {f : Fo} (h : In w a f) (i : Nat) (hi : i < f.len) : ∃ b o v ka kc k, a = some ⟨b, o, none⟩ ∧ f.drop i = .cons v ka kc k (f.drop (i + 1)) ∧ At w b (o + i * 10) (cellsN v (.slice ka k.len kc)) ∧ v.ok ∧ sok ka k.len kc ∧ In w ka k := by
  obtain ⟨b, o, rfl⟩ : ∃ b o, a = some ⟨b, o, none⟩ := by
    cases f with
    | nil => simp [Fo.len] at hi
    | cons => obtain ⟨b, o, e, _⟩ := h; exact ⟨b, o, e⟩
  obtain ⟨v, ka, kc, k, e⟩ := f.drop_succ i hi
  have hd := h.drop i
  rw [e] at hd
  obtain ⟨b', o', e', h1, h2, h3, h4, _⟩ := hd
  simp at e'
  obtain ⟨rfl, rfl⟩ := e'
  exact ⟨b, o, v, ka, kc, k, rfl, e, h1, h2, h3, h4⟩

theorem At.cell {w : World} {b o : Nat} {cs : List Value} (h : At w b o cs) (j : Nat) (u : Value) (hj : cs[j]? = some u) : w.cell? ⟨b, o + j, none⟩ = some u := by
  obtain ⟨hlt, _⟩ := List.getElem?_eq_some_iff.1 hj
  rw [h j hlt, hj]
theorem At.keep {w w' : World} {b o : Nat} {cs : List Value} {B : Nat} (h : At w b o cs) (hB : w.heap.size ≤ B) (hb : Below B w w') : At w' b o cs := fun j hj => by
  have hj' := h j hj
  obtain ⟨u, hu⟩ : ∃ u, cs[j]? = some u := ⟨cs[j], List.getElem?_eq_getElem hj⟩
  rw [hu] at hj' ⊢
  have hlt : b < w.heap.size := World.block_lt_of_cell? w _ hj'
  exact (hb.cell (p := ⟨b, o + j, none⟩) (Nat.lt_of_lt_of_le hlt hB)).trans hj'
theorem In.keep {w w' : World} {B : Nat} (hB : w.heap.size ≤ B) (hb : Below B w w') : ∀ {a : Option Addr} {f : Fo}, In w a f → In w' a f := by
  intro a f
  induction f generalizing a with
  | nil => intro _; trivial
  | cons v ka kc k r ihk ihr =>
    rintro ⟨b, o, e, h1, h2, h3, h4, h5⟩
    exact ⟨b, o, e, h1.keep hB hb, h2, h3, ihk h4, ihr h5⟩

/-! ### An argument opens into a forest -/
variable {H : Type} {enc : TypeId × Value → H} {w : World} {base : Nat} {spare : Nat → Bool} {held : Bool}

theorem Try.cells26 : Try.prog.cellsOf 26 = 10 := by kernel_rfl
theorem Try.cells24 : Try.prog.cellsOf 24 = 1 := by kernel_rfl
theorem Try.cells23 : Try.prog.cellsOf 23 = 3 := by kernel_rfl
theorem Try.cells5 : Try.prog.cellsOf 5 = 1 := by kernel_rfl
theorem Try.cells2 : Try.prog.cellsOf 2 = 1 := by kernel_rfl
theorem Try.cells3 : Try.prog.cellsOf 3 = 1 := by kernel_rfl
theorem Try.cells9 : Try.prog.cellsOf 9 = 1 := by kernel_rfl

theorem wf8 {z : Int} (h : (Lit.int .u8 z).wf = true) : 0 ≤ z ∧ z ≤ 255 := by
  simpa [Lit.wf, IntKind.min, IntKind.max, IntKind.signed, IntKind.bits] using h
theorem wf64 {z : Int} (h : (Lit.int .i64 z).wf = true) : -9223372036854775808 ≤ z ∧ z ≤ 9223372036854775807 := by
  simpa [Lit.wf, IntKind.min, IntKind.max, IntKind.signed, IntKind.bits] using h

theorem take1 {cs : List Value} {o : Nat} {u : Value} (h : (cs.drop o).take 1 = [u]) : cs[o]? = some u := by
  have : ((cs.drop o).take 1)[0]? = some u := by rw [h]; rfl
  simpa using this

/-- A node's cells, as they are read. -/
theorem open_node {fuel : Nat} {cs : List Value} {x : DataW H × List MemPlace} (h : DataW.trod enc Try.prog w base spare held fuel 26 cs = some x) :
    ∃ v u y n, cs = cellsN v u ∧ v.ok ∧ n < fuel ∧ DataW.trod enc Try.prog w base spare held n 24 [u] = some y := by
  obtain ⟨xs, n, rfl, rfl, hl, hxl, hf⟩ := DataW.trod_struct Try.underlying26 h
  rw [Try.cells26] at hl
  have g0 : DataW.trod enc Try.prog w base spare held n 5 ((cs.drop 0).take (Try.prog.cellsOf 5)) = xs[0]? := hf 0 _ rfl
  have g1 : DataW.trod enc Try.prog w base spare held n 5 ((cs.drop 1).take (Try.prog.cellsOf 5)) = xs[1]? := hf 1 _ rfl
  have g2 : DataW.trod enc Try.prog w base spare held n 23 ((cs.drop 2).take (Try.prog.cellsOf 23)) = xs[2]? := hf 2 _ rfl
  have g3 : DataW.trod enc Try.prog w base spare held n 2 ((cs.drop 5).take (Try.prog.cellsOf 2)) = xs[3]? := hf 3 _ rfl
  have g4 : DataW.trod enc Try.prog w base spare held n 2 ((cs.drop 6).take (Try.prog.cellsOf 2)) = xs[4]? := hf 4 _ rfl
  have g5 : DataW.trod enc Try.prog w base spare held n 9 ((cs.drop 7).take (Try.prog.cellsOf 9)) = xs[5]? := hf 5 _ rfl
  have g6 : DataW.trod enc Try.prog w base spare held n 9 ((cs.drop 8).take (Try.prog.cellsOf 9)) = xs[6]? := hf 6 _ rfl
  have g7 : DataW.trod enc Try.prog w base spare held n 24 ((cs.drop 9).take (Try.prog.cellsOf 24)) = xs[7]? := hf 7 _ rfl
  simp only [Try.cells5, Try.cells2, Try.cells9, Try.cells24, Try.cells23] at g0 g1 g2 g3 g4 g5 g6 g7
  obtain ⟨y0, e0⟩ : ∃ y, xs[0]? = some y := ⟨_, List.getElem?_eq_getElem (by rw [hxl]; decide)⟩
  obtain ⟨y1, e1⟩ : ∃ y, xs[1]? = some y := ⟨_, List.getElem?_eq_getElem (by rw [hxl]; decide)⟩
  obtain ⟨y2, e2⟩ : ∃ y, xs[2]? = some y := ⟨_, List.getElem?_eq_getElem (by rw [hxl]; decide)⟩
  obtain ⟨y3, e3⟩ : ∃ y, xs[3]? = some y := ⟨_, List.getElem?_eq_getElem (by rw [hxl]; decide)⟩
  obtain ⟨y4, e4⟩ : ∃ y, xs[4]? = some y := ⟨_, List.getElem?_eq_getElem (by rw [hxl]; decide)⟩
  obtain ⟨y5, e5⟩ : ∃ y, xs[5]? = some y := ⟨_, List.getElem?_eq_getElem (by rw [hxl]; decide)⟩
  obtain ⟨y6, e6⟩ : ∃ y, xs[6]? = some y := ⟨_, List.getElem?_eq_getElem (by rw [hxl]; decide)⟩
  obtain ⟨y7, e7⟩ : ∃ y, xs[7]? = some y := ⟨_, List.getElem?_eq_getElem (by rw [hxl]; decide)⟩
  rw [e0] at g0
  rw [e1] at g1
  rw [e2] at g2
  rw [e3] at g3
  rw [e4] at g4
  rw [e5] at g5
  rw [e6] at g6
  rw [e7] at g7
  obtain ⟨k, c0, _, w0⟩ := DataW.trod_int Try.underlying5 g0
  obtain ⟨op, c1, _, w1⟩ := DataW.trod_int Try.underlying5 g1
  obtain ⟨zs, n2, _, _, hl2, hxl2, hf2⟩ := DataW.trod_struct Try.underlying23 g2
  have j0 : DataW.trod enc Try.prog w base spare held n2 5 ((((cs.drop 2).take 3).drop 0).take (Try.prog.cellsOf 5)) = zs[0]? := hf2 0 _ rfl
  have j1 : DataW.trod enc Try.prog w base spare held n2 5 ((((cs.drop 2).take 3).drop 1).take (Try.prog.cellsOf 5)) = zs[1]? := hf2 1 _ rfl
  have j2 : DataW.trod enc Try.prog w base spare held n2 3 ((((cs.drop 2).take 3).drop 2).take (Try.prog.cellsOf 3)) = zs[2]? := hf2 2 _ rfl
  simp only [Try.cells5, Try.cells3] at j0 j1 j2
  obtain ⟨z0, f0⟩ : ∃ y, zs[0]? = some y := ⟨_, List.getElem?_eq_getElem (by rw [hxl2]; decide)⟩
  obtain ⟨z1, f1⟩ : ∃ y, zs[1]? = some y := ⟨_, List.getElem?_eq_getElem (by rw [hxl2]; decide)⟩
  obtain ⟨z2, f2⟩ : ∃ y, zs[2]? = some y := ⟨_, List.getElem?_eq_getElem (by rw [hxl2]; decide)⟩
  rw [f0] at j0
  rw [f1] at j1
  rw [f2] at j2
  obtain ⟨tk, c2, _, w2⟩ := DataW.trod_int Try.underlying5 j0
  obtain ⟨ti, c3, _, w3⟩ := DataW.trod_int Try.underlying5 j1
  obtain ⟨tn, c4, _, w4⟩ := DataW.trod_int Try.underlying3 j2
  obtain ⟨N, c5, _, w5⟩ := DataW.trod_int Try.underlying2 g3
  obtain ⟨M, c6, _, w6⟩ := DataW.trod_int Try.underlying2 g4
  obtain ⟨nm, c7, _, w7⟩ := DataW.trod_string Try.underlying9 g5
  obtain ⟨fd, c8, _, w8⟩ := DataW.trod_string Try.underlying9 g6
  match cs, hl with
  | [a0, a1, a2, a3, a4, a5, a6, a7, a8, a9], _ =>
    simp at c0 c1 c2 c3 c4 c5 c6 c7 c8
    subst c0 c1 c2 c3 c4 c5 c6 c7 c8
    exact ⟨⟨k, op, tk, ti, tn, N, M, nm, fd⟩, a9, y7, n, rfl, ⟨wf8 w0, wf8 w1, wf8 w2, wf8 w3, wf64 w4, wf64 w5, wf64 w6, w7, w8⟩, Nat.lt_succ_self n, g7⟩

theorem At.of_cells {a : Addr} {cs : List Value} {v : NF} {u : Value} (h : w.cells? base a 10 = some cs) (e : cs = cellsN v u) : a.spot = none ∧ At w a.block a.off (cellsN v u) := by
  obtain ⟨_, hl, hc⟩ := World.cells?_some h
  subst e
  have h0 := hc 0 (by decide)
  have hs : a.spot = none := by
    have : w.cell? a = some (.int .u8 v.k) := by simpa [Addr.add, cellsN] using h0
    exact World.cell?_spot this
  obtain ⟨b, o, s⟩ := a
  subst hs
  refine ⟨rfl, fun j hj => ?_⟩
  have := hc j (by simpa [cellsN] using hj)
  rw [← this]
  by_cases hz : j = 0
  · subst hz; rfl
  · simp [Addr.add, hz]

/-- A list of elements that each lie as a node make a forest. -/
theorem In.build (n : Nat) {b o : Nat} (h : ∀ i, i < n → ∃ v ka kc k, At w b (o + i * 10) (cellsN v (.slice ka k.len kc)) ∧ v.ok ∧ sok ka k.len kc ∧ In w ka k) : ∃ f : Fo, f.len = n ∧ In w (some ⟨b, o, none⟩) f := by
  induction n generalizing o with
  | zero => exact ⟨.nil, rfl, trivial⟩
  | succ n ih =>
    obtain ⟨f, e, hf⟩ := ih (o := o + 10) (fun i hi => by
      have := h (i + 1) (by omega)
      rw [show o + (i + 1) * 10 = o + 10 + i * 10 by omega] at this
      exact this)
    obtain ⟨v, ka, kc, k, h1, h2, h3, h4⟩ := h 0 (by omega)
    refine ⟨.cons v ka kc k f, by simp [Fo.len, e], b, o, rfl, by simpa using h1, h2, h3, h4, hf⟩

/-- A slice of nodes, as it is read: a forest. -/
theorem open_kids : ∀ (fuel : Nat) {u : Value} {x : DataW H × List MemPlace}, DataW.trod enc Try.prog w base spare held fuel 24 [u] = some x → ∃ a c f, u = .slice a (Fo.len f) c ∧ sok a (Fo.len f) c ∧ In w a f := by
  intro fuel
  induction fuel using Nat.strongRecOn with
  | ind fuel ih =>
    intro u x h
    rcases DataW.trod_slice Try.underlying24 h with ⟨h0, _⟩ | ⟨a, len, cap, elems, rest, n, hn, h0, rfl, hb, hl, hm, hlen, hel, _, _⟩
    · simp at h0
      exact ⟨none, 0, .nil, h0, ⟨Nat.zero_le _, by decide, fun _ => rfl⟩, trivial⟩
    · simp at h0
      subst h0
      subst hn
      rw [Try.cells26] at hel
      have each : ∀ i, i < len → ∃ v ka kc k, (a.add (i * 10)).spot = none ∧ At w a.block ((a.add (i * 10)).off) (cellsN v (.slice ka (Fo.len k) kc)) ∧ v.ok ∧ sok ka k.len kc ∧ In w ka k := by
        intro i hi
        have := hel i hi
        rw [List.getElem?_eq_getElem (by omega), Option.bind_eq_some_iff] at this
        obtain ⟨cs, hc, ht⟩ := this
        obtain ⟨v, u, y, m, e, hv, hm', hy⟩ := open_node ht
        obtain ⟨ka, kc, k, rfl, hs, hk⟩ := ih m (by omega) hy
        obtain ⟨q1, q2⟩ := At.of_cells hc e
        have hbl : (a.add (i * 10)).block = a.block := by unfold Addr.add; split <;> rfl
        rw [hbl] at q2
        exact ⟨v, ka, kc, k, q1, q2, hv, hs, hk⟩
      by_cases hz : len = 0
      · subst hz
        exact ⟨some a, cap, .nil, rfl, ⟨hl, hm, fun h => by cases h⟩, trivial⟩
      · have hs : a.spot = none := by
          obtain ⟨_, _, _, _, q, _⟩ := each 0 (by omega)
          simpa [Addr.add] using q
        obtain ⟨b, o, s⟩ := a
        dsimp at hs
        subst hs
        obtain ⟨f, e, hf⟩ := In.build (w := w) len (b := b) (o := o) (fun i hi => by
          obtain ⟨v, ka, kc, k, _, q2, q3, q4, q5⟩ := each i hi
          refine ⟨v, ka, kc, k, ?_, q3, q4, q5⟩
          have ho : ((⟨b, o, none⟩ : Addr).add (i * 10)).off = o + i * 10 := by unfold Addr.add; split <;> simp_all
          rw [ho] at q2
          exact q2)
        subst e
        exact ⟨_, cap, f, rfl, ⟨hl, hm, fun h => by cases h⟩, hf⟩

/-- An argument that is a node. -/
theorem open_tree {v0 : Value} {d : DataW H} {ps : List MemPlace} (h : DataW.Trod enc Try.prog w base spare held 26 v0 d ps) : ∃ v a c f, v0 = nodeV v (.slice a (Fo.len f) c) ∧ v.ok ∧ sok a f.len c ∧ In w a f := by
  obtain ⟨fuel, h⟩ := h
  obtain ⟨v, u, y, n, e, hv, _, hy⟩ := open_node h
  obtain ⟨a, c, f, rfl, hs, hf⟩ := open_kids n hy
  refine ⟨v, a, c, f, ?_, hv, hs, hf⟩
  have e' := congrArg List.toArray e
  rw [Array.toArray_toList] at e'
  cases v0 with
  | agg cs => simpa [Value.cells, cellsN] using e'
  | _ => simp [Value.cells, cellsN] at e'

/-- An argument that is a list of nodes. -/
theorem open_list {a : Option Addr} {n c : Nat} {d : DataW H} {ps : List MemPlace} (h : DataW.Trod enc Try.prog w base spare held 24 (.slice a n c) d ps) : ∃ f : Fo, n = f.len ∧ sok a n c ∧ In w a f := by
  obtain ⟨fuel, h⟩ := h
  obtain ⟨a', c', f, e, hs, hf⟩ := open_kids fuel (u := .slice a n c) h
  simp at e
  obtain ⟨rfl, rfl, rfl⟩ := e
  exact ⟨f, rfl, hs, hf⟩

end Go.Proofs.Ytioeoillogpdoaa
