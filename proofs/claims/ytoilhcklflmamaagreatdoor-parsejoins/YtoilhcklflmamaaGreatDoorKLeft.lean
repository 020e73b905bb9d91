/-
  Nodes and trees as plain data: a forest, its measures, when two are the same; no program; no conditions but those that each fact bears.
  What a tree of nodes is in memory: a forest, its measures, where it lies, and how an argument opens into one; facts on worlds and readings alone; no conditions but those that each fact bears.
  Whether a tree is great: a contract over the program; the conditions: the argument is a tree that lies in memory.
-/
import Derived.WalkKit
import Derived.Test.YtoilhcklflmamaaGreatDoorKBaseC
import Derived.WalkSpells
import Derived.WalkLawsBesides
import Derived.OpenShut
import Derived.Deep.Slices
import Derived.Below
namespace Go.Proofs.YtoilhcklflmamaaGreatDoor
open Go.RowKit
set_option linter.unusedVariables false

/-- The fields of a node, but for its kids. -/
structure NF where
  k : Int
  op : Int
  tk : Int
  ti : Int
  tn : Int
  n : Int
  m : Int
  nm : ByteArray
  fd : ByteArray

/-- Nodes side by side, each with where its kids' slice leads. -/
inductive Fo where
  | nil : Fo
  | cons (v : NF) (a : Option Addr) (c : Nat) (kids rest : Fo) : Fo

namespace Fo
def len : Fo → Nat
  | nil => 0
  | cons _ _ _ _ r => r.len + 1
def size : Fo → Nat
  | nil => 0
  | cons _ _ _ k r => k.size + 1 + r.size
def depth : Fo → Nat
  | nil => 0
  | cons _ _ _ k r => max (k.depth + 1) r.depth
def drop : Nat → Fo → Fo
  | 0, f => f
  | _ + 1, nil => nil
  | i + 1, cons _ _ _ _ r => r.drop i
end Fo

/-- Bounds of a node's numbers. -/
structure NF.ok (v : NF) : Prop where
  k : 0 ≤ v.k ∧ v.k ≤ 255
  op : 0 ≤ v.op ∧ v.op ≤ 255
  tk : 0 ≤ v.tk ∧ v.tk ≤ 255
  ti : 0 ≤ v.ti ∧ v.ti ≤ 255
  tn : -9223372036854775808 ≤ v.tn ∧ v.tn ≤ 9223372036854775807
  n : -9223372036854775808 ≤ v.n ∧ v.n ≤ 9223372036854775807
  m : -9223372036854775808 ≤ v.m ∧ v.m ≤ 9223372036854775807
  nm : v.nm.size ≤ maxLen
  fd : v.fd.size ≤ maxLen

theorem Fo.drop_len (f : Fo) : ∀ i, (f.drop i).len = f.len - i := by
  induction f with
  | nil => intro i; cases i <;> simp [Fo.drop, Fo.len]
  | cons v a c k r _ ih =>
    intro i
    cases i with
    | zero => simp [Fo.drop]
    | succ i => simp only [Fo.drop, Fo.len]; rw [ih i]; omega
theorem Fo.drop_succ (f : Fo) : ∀ i, i < f.len → ∃ v a c k, f.drop i = .cons v a c k (f.drop (i + 1)) := by
  induction f with
  | nil => intro i h; simp [Fo.len] at h
  | cons v a c k r _ ih =>
    intro i h
    cases i with
    | zero => exact ⟨v, a, c, k, by simp [Fo.drop]⟩
    | succ i =>
      simp only [Fo.len] at h
      obtain ⟨v', a', c', k', e⟩ := ih i (by omega)
      exact ⟨v', a', c', k', by simpa [Fo.drop] using e⟩
theorem Fo.drop_all (f : Fo) : f.drop f.len = .nil := by
  induction f with
  | nil => rfl
  | cons v a c k r _ ih => simpa [Fo.drop, Fo.len] using ih
theorem Fo.size_drop (f : Fo) (i : Nat) : (f.drop i).size ≤ f.size := by
  induction f generalizing i with
  | nil => cases i <;> simp [Fo.drop]
  | cons v a c k r _ ih =>
    cases i with
    | zero => simp [Fo.drop]
    | succ i => have := ih i; simp only [Fo.drop, Fo.size]; omega
theorem Fo.len_le_size (f : Fo) : f.len ≤ f.size := by
  induction f with
  | nil => simp [Fo.len]
  | cons v a c k r _ ih => simp only [Fo.len, Fo.size]; omega

/-- Two nodes are alike but for their kids. -/
def eqN (x y : NF) : Bool := (x.k == y.k) && ((x.op == y.op) && (((x.tk == y.tk) && (x.ti == y.ti) && (x.tn == y.tn)) && ((x.n == y.n) && ((x.m == y.m) && ((x.nm.toList == y.nm.toList) && (x.fd.toList == y.fd.toList))))))
def Fo.same : Fo → Fo → Bool
  | nil, nil => true
  | cons v _ _ k r, cons v' _ _ k' r' => (eqN v v' && k.same k') && r.same r'
  | _, _ => false

namespace Fo
def app : Fo → Fo → Fo
  | nil, g => g
  | cons v a c k r, g => cons v a c k (app r g)
def take : Nat → Fo → Fo
  | 0, _ => nil
  | _ + 1, nil => nil
  | i + 1, cons v a c k r => cons v a c k (r.take i)
end Fo

/-- The same nodes, wherever they lie. -/
def Cp : Fo → Fo → Prop
  | .nil, .nil => True
  | .cons v _ _ k r, .cons v' _ _ k' r' => v' = v ∧ Cp k k' ∧ Cp r r'
  | _, _ => False
theorem app_len (f g : Fo) : (f.app g).len = f.len + g.len := by
  induction f with
  | nil => simp [Fo.app, Fo.len]
  | cons v a c k r _ ih => simp only [Fo.app, Fo.len, ih]; omega
theorem take_drop (f : Fo) : ∀ i, (f.take i).app (f.drop i) = f := by
  induction f with
  | nil => intro i; cases i <;> rfl
  | cons v a c k r _ ih =>
    intro i
    cases i with
    | zero => rfl
    | succ i => simp only [Fo.take, Fo.drop, Fo.app, ih i]

theorem Cp.refl : ∀ (f : Fo), Cp f f := by
  intro f
  induction f with
  | nil => trivial
  | cons v a c k r ihk ihr => exact ⟨rfl, ihk, ihr⟩
theorem Cp.len : ∀ {f g : Fo}, Cp f g → g.len = f.len := by
  intro f
  induction f with
  | nil => intro g h; cases g with
    | nil => rfl
    | cons => exact h.elim
  | cons v a c k r ihk ihr =>
    intro g h
    cases g with
    | nil => exact h.elim
    | cons v' a' c' k' r' => simp only [Fo.len, ihr h.2.2]
theorem Cp.size : ∀ {f g : Fo}, Cp f g → g.size = f.size := by
  intro f
  induction f with
  | nil => intro g h; cases g with
    | nil => rfl
    | cons => exact h.elim
  | cons v a c k r ihk ihr =>
    intro g h
    cases g with
    | nil => exact h.elim
    | cons v' a' c' k' r' => simp only [Fo.size, ihk h.2.1, ihr h.2.2]
theorem eqN_refl (v : NF) : eqN v v = true := by unfold eqN; simp
theorem Cp.same : ∀ {f g : Fo}, Cp f g → f.same g = true := by
  intro f
  induction f with
  | nil => intro g h; cases g with
    | nil => rfl
    | cons => exact h.elim
  | cons v a c k r ihk ihr =>
    intro g h
    cases g with
    | nil => exact h.elim
    | cons v' a' c' k' r' =>
      obtain ⟨rfl, h2, h3⟩ := h
      simp only [Fo.same, ihk h2, ihr h3, eqN_refl, Bool.and_self]
theorem Cp.app : ∀ {f g f' g' : Fo}, Cp f f' → Cp g g' → Cp (f.app g) (f'.app g') := by
  intro f
  induction f with
  | nil => intro g f' g' h h'; cases f' with
    | nil => exact h'
    | cons => exact h.elim
  | cons v a c k r ihk ihr =>
    intro g f' g' h h'
    cases f' with
    | nil => exact h.elim
    | cons => exact ⟨h.1, h.2.1, ihr h.2.2 h'⟩

end Go.Proofs.YtoilhcklflmamaaGreatDoor

namespace Go.Proofs.YtoilhcklflmamaaGreatDoor
open Go.RowKit Go.Deep
set_option linter.unusedVariables false

def cellsN (v : NF) (s : Value) : List Value := [.int .u8 v.k, .int .u8 v.op, .int .u8 v.tk, .int .u8 v.ti, .int .i64 v.tn, .int .i64 v.n, .int .i64 v.m, .string v.nm, .string v.fd, s]
/-- The node as a value. -/
abbrev nodeV (v : NF) (s : Value) : Value := .agg #[.int .u8 v.k, .int .u8 v.op, .int .u8 v.tk, .int .u8 v.ti, .int .i64 v.tn, .int .i64 v.n, .int .i64 v.m, .string v.nm, .string v.fd, s]

def sok (a : Option Addr) (n c : Nat) : Prop := n ≤ c ∧ c ≤ maxLen ∧ (a = none → c = 0)

def At (w : World) (b o : Nat) (cs : List Value) : Prop := ∀ j, j < cs.length → w.cell? ⟨b, o + j, none⟩ = cs[j]?

/-- The forest lies in w from a on. -/
def In (w : World) : Option Addr → Fo → Prop
  | _, .nil => True
  | a, .cons v ka kc kids rest => ∃ b o, a = some ⟨b, o, none⟩ ∧ At w b o (cellsN v (.slice ka kids.len kc)) ∧ v.ok ∧ sok ka kids.len kc ∧ In w ka kids ∧ In w (some ⟨b, o + 10, none⟩) rest

theorem In.drop {w : World} {b o : Nat} {f : Fo} (h : In w (some ⟨b, o, none⟩) f) (i : Nat) : In w (some ⟨b, o + i * 10, none⟩) (f.drop i) := by
  induction f generalizing i o with
  | nil => cases i <;> simp [Fo.drop, In]
  | cons v a c k r _ ih =>
    cases i with
    | zero => simpa [Fo.drop] using h
    | succ i =>
      obtain ⟨b', o', e, _, _, _, _, hr⟩ := h
      simp at e
      obtain ⟨rfl, rfl⟩ := e
      have := ih hr i
      rw [show o + (i + 1) * 10 = o + 10 + i * 10 by omega]
      exact this
/-- An element of a forest that lies in memory. -/
theorem In.elem {w : World} {a : Option Addr} {f : Fo} (h : In w a f) (i : Nat) (hi : i < f.len) : ∃ b o v ka kc k, a = some ⟨b, o, none⟩ ∧ f.drop i = .cons v ka kc k (f.drop (i + 1)) ∧ At w b (o + i * 10) (cellsN v (.slice ka k.len kc)) ∧ v.ok ∧ sok ka k.len kc ∧ In w ka k := by
  obtain ⟨b, o, rfl⟩ : ∃ b o, a = some ⟨b, o, none⟩ := by
    cases f with
    | nil => simp [Fo.len] at hi
    | cons => obtain ⟨b, o, e, _⟩ := h; exact ⟨b, o, e⟩
  obtain ⟨v, ka, kc, k, e⟩ := f.drop_succ i hi
  have hd := h.drop i
  rw [e] at hd
  obtain ⟨b', o', e', h1, h2, h3, h4, _⟩ := hd
  simp at e'
  obtain ⟨rfl, rfl⟩ := e'
  exact ⟨b, o, v, ka, kc, k, rfl, e, h1, h2, h3, h4⟩

theorem At.cell {w : World} {b o : Nat} {cs : List Value} (h : At w b o cs) (j : Nat) (u : Value) (hj : cs[j]? = some u) : w.cell? ⟨b, o + j, none⟩ = some u := by
  obtain ⟨hlt, _⟩ := List.getElem?_eq_some_iff.1 hj
  rw [h j hlt, hj]
theorem At.keep {w w' : World} {b o : Nat} {cs : List Value} {B : Nat} (h : At w b o cs) (hB : w.heap.size ≤ B) (hb : Below B w w') : At w' b o cs := fun j hj => by
  have hj' := h j hj
  obtain ⟨u, hu⟩ : ∃ u, cs[j]? = some u := ⟨cs[j], List.getElem?_eq_getElem hj⟩
  rw [hu] at hj' ⊢
  have hlt : b < w.heap.size := World.block_lt_of_cell? w _ hj'
  exact (hb.cell (p := ⟨b, o + j, none⟩) (Nat.lt_of_lt_of_le hlt hB)).trans hj'
theorem In.keep {w w' : World} {B : Nat} (hB : w.heap.size ≤ B) (hb : Below B w w') : ∀ {a : Option Addr} {f : Fo}, In w a f → In w' a f := by
  intro a f
  induction f generalizing a with
  | nil => intro _; trivial
  | cons v ka kc k r ihk ihr =>
    rintro ⟨b, o, e, h1, h2, h3, h4, h5⟩
    exact ⟨b, o, e, h1.keep hB hb, h2, h3, ihk h4, ihr h5⟩

/-! ### An argument opens into a forest -/
variable {H : Type} {enc : TypeId × Value → H} {w : World} {base : Nat} {spare : Nat → Bool} {held : Bool}

theorem Tryz.cells27 : Tryz.prog.cellsOf 27 = 10 := by kernel_rfl
theorem Tryz.cells25 : Tryz.prog.cellsOf 25 = 1 := by kernel_rfl
theorem Tryz.cells24 : Tryz.prog.cellsOf 24 = 3 := by kernel_rfl
theorem Tryz.cells5 : Tryz.prog.cellsOf 5 = 1 := by kernel_rfl
theorem Tryz.cells2 : Tryz.prog.cellsOf 2 = 1 := by kernel_rfl
theorem Tryz.cells3 : Tryz.prog.cellsOf 3 = 1 := by kernel_rfl
theorem Tryz.cells9 : Tryz.prog.cellsOf 9 = 1 := by kernel_rfl

theorem wf8 {z : Int} (h : (Lit.int .u8 z).wf = true) : 0 ≤ z ∧ z ≤ 255 := by
  simpa [Lit.wf, IntKind.min, IntKind.max, IntKind.signed, IntKind.bits] using h
theorem wf64 {z : Int} (h : (Lit.int .i64 z).wf = true) : -9223372036854775808 ≤ z ∧ z ≤ 9223372036854775807 := by
  simpa [Lit.wf, IntKind.min, IntKind.max, IntKind.signed, IntKind.bits] using h

theorem take1 {cs : List Value} {o : Nat} {u : Value} (h : (cs.drop o).take 1 = [u]) : cs[o]? = some u := by
  have : ((cs.drop o).take 1)[0]? = some u := by rw [h]; rfl
  simpa using this

set_option maxRecDepth 100000 in
/-- A node's cells, as they are read. -/
theorem open_node {fuel : Nat} {cs : List Value} {x : DataW H × List MemPlace} (h : DataW.trod enc Tryz.prog w base spare held fuel 27 cs = some x) :
    ∃ v u y n, cs = cellsN v u ∧ v.ok ∧ n < fuel ∧ DataW.trod enc Tryz.prog w base spare held n 25 [u] = some y := by
  obtain ⟨xs, n, rfl, rfl, hl, hxl, hf⟩ := DataW.trod_struct Tryz.underlying27 h
  rw [Tryz.cells27] at hl
  have g0 : DataW.trod enc Tryz.prog w base spare held n 5 ((cs.drop 0).take (Tryz.prog.cellsOf 5)) = xs[0]? := hf 0 _ rfl
  have g1 : DataW.trod enc Tryz.prog w base spare held n 5 ((cs.drop 1).take (Tryz.prog.cellsOf 5)) = xs[1]? := hf 1 _ rfl
  have g2 : DataW.trod enc Tryz.prog w base spare held n 24 ((cs.drop 2).take (Tryz.prog.cellsOf 24)) = xs[2]? := hf 2 _ rfl
  have g3 : DataW.trod enc Tryz.prog w base spare held n 2 ((cs.drop 5).take (Tryz.prog.cellsOf 2)) = xs[3]? := hf 3 _ rfl
  have g4 : DataW.trod enc Tryz.prog w base spare held n 2 ((cs.drop 6).take (Tryz.prog.cellsOf 2)) = xs[4]? := hf 4 _ rfl
  have g5 : DataW.trod enc Tryz.prog w base spare held n 9 ((cs.drop 7).take (Tryz.prog.cellsOf 9)) = xs[5]? := hf 5 _ rfl
  have g6 : DataW.trod enc Tryz.prog w base spare held n 9 ((cs.drop 8).take (Tryz.prog.cellsOf 9)) = xs[6]? := hf 6 _ rfl
  have g7 : DataW.trod enc Tryz.prog w base spare held n 25 ((cs.drop 9).take (Tryz.prog.cellsOf 25)) = xs[7]? := hf 7 _ rfl
  simp only [Tryz.cells5, Tryz.cells2, Tryz.cells9, Tryz.cells25, Tryz.cells24] at g0 g1 g2 g3 g4 g5 g6 g7
  obtain ⟨y0, e0⟩ : ∃ y, xs[0]? = some y := ⟨_, List.getElem?_eq_getElem (by rw [hxl]; decide)⟩
  obtain ⟨y1, e1⟩ : ∃ y, xs[1]? = some y := ⟨_, List.getElem?_eq_getElem (by rw [hxl]; decide)⟩
  obtain ⟨y2, e2⟩ : ∃ y, xs[2]? = some y := ⟨_, List.getElem?_eq_getElem (by rw [hxl]; decide)⟩
  obtain ⟨y3, e3⟩ : ∃ y, xs[3]? = some y := ⟨_, List.getElem?_eq_getElem (by rw [hxl]; decide)⟩
  obtain ⟨y4, e4⟩ : ∃ y, xs[4]? = some y := ⟨_, List.getElem?_eq_getElem (by rw [hxl]; decide)⟩
  obtain ⟨y5, e5⟩ : ∃ y, xs[5]? = some y := ⟨_, List.getElem?_eq_getElem (by rw [hxl]; decide)⟩
  obtain ⟨y6, e6⟩ : ∃ y, xs[6]? = some y := ⟨_, List.getElem?_eq_getElem (by rw [hxl]; decide)⟩
  obtain ⟨y7, e7⟩ : ∃ y, xs[7]? = some y := ⟨_, List.getElem?_eq_getElem (by rw [hxl]; decide)⟩
  rw [e0] at g0
  rw [e1] at g1
  rw [e2] at g2
  rw [e3] at g3
  rw [e4] at g4
  rw [e5] at g5
  rw [e6] at g6
  rw [e7] at g7
  obtain ⟨k, c0, _, w0⟩ := DataW.trod_int Tryz.underlying5 g0
  obtain ⟨op, c1, _, w1⟩ := DataW.trod_int Tryz.underlying5 g1
  obtain ⟨zs, n2, _, _, hl2, hxl2, hf2⟩ := DataW.trod_struct Tryz.underlying24 g2
  have j0 : DataW.trod enc Tryz.prog w base spare held n2 5 ((((cs.drop 2).take 3).drop 0).take (Tryz.prog.cellsOf 5)) = zs[0]? := hf2 0 _ rfl
  have j1 : DataW.trod enc Tryz.prog w base spare held n2 5 ((((cs.drop 2).take 3).drop 1).take (Tryz.prog.cellsOf 5)) = zs[1]? := hf2 1 _ rfl
  have j2 : DataW.trod enc Tryz.prog w base spare held n2 3 ((((cs.drop 2).take 3).drop 2).take (Tryz.prog.cellsOf 3)) = zs[2]? := hf2 2 _ rfl
  simp only [Tryz.cells5, Tryz.cells3] at j0 j1 j2
  obtain ⟨z0, f0⟩ : ∃ y, zs[0]? = some y := ⟨_, List.getElem?_eq_getElem (by rw [hxl2]; decide)⟩
  obtain ⟨z1, f1⟩ : ∃ y, zs[1]? = some y := ⟨_, List.getElem?_eq_getElem (by rw [hxl2]; decide)⟩
  obtain ⟨z2, f2⟩ : ∃ y, zs[2]? = some y := ⟨_, List.getElem?_eq_getElem (by rw [hxl2]; decide)⟩
  rw [f0] at j0
  rw [f1] at j1
  rw [f2] at j2
  obtain ⟨tk, c2, _, w2⟩ := DataW.trod_int Tryz.underlying5 j0
  obtain ⟨ti, c3, _, w3⟩ := DataW.trod_int Tryz.underlying5 j1
  obtain ⟨tn, c4, _, w4⟩ := DataW.trod_int Tryz.underlying3 j2
  obtain ⟨N, c5, _, w5⟩ := DataW.trod_int Tryz.underlying2 g3
  obtain ⟨M, c6, _, w6⟩ := DataW.trod_int Tryz.underlying2 g4
  obtain ⟨nm, c7, _, w7⟩ := DataW.trod_string Tryz.underlying9 g5
  obtain ⟨fd, c8, _, w8⟩ := DataW.trod_string Tryz.underlying9 g6
  match cs, hl with
  | [a0, a1, a2, a3, a4, a5, a6, a7, a8, a9], _ =>
    simp at c0 c1 c2 c3 c4 c5 c6 c7 c8
    subst c0 c1 c2 c3 c4 c5 c6 c7 c8
    exact ⟨⟨k, op, tk, ti, tn, N, M, nm, fd⟩, a9, y7, n, rfl, ⟨wf8 w0, wf8 w1, wf8 w2, wf8 w3, wf64 w4, wf64 w5, wf64 w6, w7, w8⟩, Nat.lt_succ_self n, g7⟩

set_option maxRecDepth 100000 in
theorem At.of_cells {a : Addr} {cs : List Value} {v : NF} {u : Value} (h : w.cells? base a 10 = some cs) (e : cs = cellsN v u) : a.spot = none ∧ At w a.block a.off (cellsN v u) := by
  obtain ⟨_, hl, hc⟩ := World.cells?_some h
  subst e
  have h0 := hc 0 (by decide)
  have hs : a.spot = none := by
    have : w.cell? a = some (.int .u8 v.k) := by simpa [Addr.add, cellsN] using h0
    exact World.cell?_spot this
  obtain ⟨b, o, s⟩ := a
  subst hs
  refine ⟨rfl, fun j hj => ?_⟩
  have := hc j (by simpa [cellsN] using hj)
  rw [← this]
  by_cases hz : j = 0
  · subst hz; rfl
  · simp [Addr.add, hz]

/-- A list of elements that each lie as a node make a forest. -/
theorem In.build (n : Nat) {b o : Nat} (h : ∀ i, i < n → ∃ v ka kc k, At w b (o + i * 10) (cellsN v (.slice ka k.len kc)) ∧ v.ok ∧ sok ka k.len kc ∧ In w ka k) : ∃ f : Fo, f.len = n ∧ In w (some ⟨b, o, none⟩) f := by
  induction n generalizing o with
  | zero => exact ⟨.nil, rfl, trivial⟩
  | succ n ih =>
    obtain ⟨f, e, hf⟩ := ih (o := o + 10) (fun i hi => by
      have := h (i + 1) (by omega)
      rw [show o + (i + 1) * 10 = o + 10 + i * 10 by omega] at this
      exact this)
    obtain ⟨v, ka, kc, k, h1, h2, h3, h4⟩ := h 0 (by omega)
    refine ⟨.cons v ka kc k f, by simp [Fo.len, e], b, o, rfl, by simpa using h1, h2, h3, h4, hf⟩

set_option maxRecDepth 100000 in
/-- A slice of nodes, as it is read: a forest. -/
theorem open_kids : ∀ (fuel : Nat) {u : Value} {x : DataW H × List MemPlace}, DataW.trod enc Tryz.prog w base spare held fuel 25 [u] = some x → ∃ a c f, u = .slice a (Fo.len f) c ∧ sok a (Fo.len f) c ∧ In w a f := by
  intro fuel
  induction fuel using Nat.strongRecOn with
  | ind fuel ih =>
    intro u x h
    rcases DataW.trod_slice Tryz.underlying25 h with ⟨h0, _⟩ | ⟨a, len, cap, elems, rest, n, hn, h0, rfl, hb, hl, hm, hlen, hel, _, _⟩
    · simp at h0
      exact ⟨none, 0, .nil, h0, ⟨Nat.zero_le _, by decide, fun _ => rfl⟩, trivial⟩
    · simp at h0
      subst h0
      subst hn
      rw [Tryz.cells27] at hel
      have each : ∀ i, i < len → ∃ v ka kc k, (a.add (i * 10)).spot = none ∧ At w a.block ((a.add (i * 10)).off) (cellsN v (.slice ka (Fo.len k) kc)) ∧ v.ok ∧ sok ka k.len kc ∧ In w ka k := by
        intro i hi
        have := hel i hi
        rw [List.getElem?_eq_getElem (by omega), Option.bind_eq_some_iff] at this
        obtain ⟨cs, hc, ht⟩ := this
        obtain ⟨v, u, y, m, e, hv, hm', hy⟩ := open_node ht
        obtain ⟨ka, kc, k, rfl, hs, hk⟩ := ih m (by omega) hy
        obtain ⟨q1, q2⟩ := At.of_cells hc e
        have hbl : (a.add (i * 10)).block = a.block := by unfold Addr.add; split <;> rfl
        rw [hbl] at q2
        exact ⟨v, ka, kc, k, q1, q2, hv, hs, hk⟩
      by_cases hz : len = 0
      · subst hz
        exact ⟨some a, cap, .nil, rfl, ⟨hl, hm, fun h => by cases h⟩, trivial⟩
      · have hs : a.spot = none := by
          obtain ⟨_, _, _, _, q, _⟩ := each 0 (by omega)
          simpa [Addr.add] using q
        obtain ⟨b, o, s⟩ := a
        dsimp at hs
        subst hs
        obtain ⟨f, e, hf⟩ := In.build (w := w) len (b := b) (o := o) (fun i hi => by
          obtain ⟨v, ka, kc, k, _, q2, q3, q4, q5⟩ := each i hi
          refine ⟨v, ka, kc, k, ?_, q3, q4, q5⟩
          have ho : ((⟨b, o, none⟩ : Addr).add (i * 10)).off = o + i * 10 := by unfold Addr.add; split <;> simp_all
          rw [ho] at q2
          exact q2)
        subst e
        exact ⟨_, cap, f, rfl, ⟨hl, hm, fun h => by cases h⟩, hf⟩

set_option maxRecDepth 100000 in
/-- An argument that is a node. -/
theorem open_tree {v0 : Value} {d : DataW H} {ps : List MemPlace} (h : DataW.Trod enc Tryz.prog w base spare held 27 v0 d ps) : ∃ v a c f, v0 = nodeV v (.slice a (Fo.len f) c) ∧ v.ok ∧ sok a f.len c ∧ In w a f := by
  obtain ⟨fuel, h⟩ := h
  obtain ⟨v, u, y, n, e, hv, _, hy⟩ := open_node h
  obtain ⟨a, c, f, rfl, hs, hf⟩ := open_kids n hy
  refine ⟨v, a, c, f, ?_, hv, hs, hf⟩
  have e' := congrArg List.toArray e
  rw [Array.toArray_toList] at e'
  cases v0 with
  | agg cs => simpa [Value.cells, cellsN] using e'
  | _ => simp [Value.cells, cellsN] at e'

/-- An argument that is a list of nodes. -/
theorem open_list {a : Option Addr} {n c : Nat} {d : DataW H} {ps : List MemPlace} (h : DataW.Trod enc Tryz.prog w base spare held 25 (.slice a n c) d ps) : ∃ f : Fo, n = f.len ∧ sok a n c ∧ In w a f := by
  obtain ⟨fuel, h⟩ := h
  obtain ⟨a', c', f, e, hs, hf⟩ := open_kids fuel (u := .slice a n c) h
  simp at e
  obtain ⟨rfl, rfl, rfl⟩ := e
  exact ⟨f, rfl, hs, hf⟩

end Go.Proofs.YtoilhcklflmamaaGreatDoor

namespace Go.Proofs.YtoilhcklflmamaaGreatDoor
open Go.RowKit
set_option linter.unusedVariables false


/-- The world behind the boxing of a node. -/
abbrev boxed (w : World) (v : NF) (s : Value) : World := w.alloc (.cells (cellsN v s).toArray 27)
theorem boxed_q (w : World) (v : NF) (s : Value) : Q w (boxed w v s) := (Below.refl _ _).alloc (Nat.le_refl _) _
theorem boxed_cell {w w' : World} {v : NF} {s : Value} (h : Q (boxed w v s) w') (j : Nat) (u : Value) (e : (cellsN v s)[j]? = some u) : w'.cell? ⟨w.heap.size, j, none⟩ = some u := by
  have h1 : (boxed w v s).cell? ⟨w.heap.size, j, none⟩ = some u := by
    rw [cell_box]
    simpa using e
  exact (h.cell (p := ⟨w.heap.size, j, none⟩) (by simp)).trans h1

/-- The ten cells of a node. -/
theorem At.ten {w : World} {b o : Nat} {v : NF} {s : Value} (h : At w b o (cellsN v s)) : w.cell? ⟨b, o, none⟩ = some (.int .u8 v.k) ∧ w.cell? ⟨b, o + 1, none⟩ = some (.int .u8 v.op) ∧ w.cell? ⟨b, o + 2, none⟩ = some (.int .u8 v.tk) ∧ w.cell? ⟨b, o + 3, none⟩ = some (.int .u8 v.ti) ∧ w.cell? ⟨b, o + 4, none⟩ = some (.int .i64 v.tn) ∧ w.cell? ⟨b, o + 5, none⟩ = some (.int .i64 v.n) ∧ w.cell? ⟨b, o + 6, none⟩ = some (.int .i64 v.m) ∧ w.cell? ⟨b, o + 7, none⟩ = some (.string v.nm) ∧ w.cell? ⟨b, o + 8, none⟩ = some (.string v.fd) ∧ w.cell? ⟨b, o + 9, none⟩ = some s :=
  ⟨h.cell 0 _ rfl, h.cell 1 _ rfl, h.cell 2 _ rfl, h.cell 3 _ rfl, h.cell 4 _ rfl, h.cell 5 _ rfl, h.cell 6 _ rfl, h.cell 7 _ rfl, h.cell 8 _ rfl, h.cell 9 _ rfl⟩