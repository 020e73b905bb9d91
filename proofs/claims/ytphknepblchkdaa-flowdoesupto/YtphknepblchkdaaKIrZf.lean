/-
 A copy of code: a contract over the program.
-/
import Derived.Test.YtphknepblchkdaaKIrZe
namespace Go.Proofs.Ytphknepblchkdaa
open Go.RowKit
set_option linter.unusedVariables false

theorem flat_congr {α : Type} {f : α → List Value} (l : List α) (i : Nat) {x y : α} (h : f x = f y) : (l.set i x).flatMap f = (l.set i y).flatMap f := by
 induction l generalizing i with
 | nil => rfl
 | cons a r ih =>
  cases i with
  | zero => simp [List.flatMap_cons, h]
  | succ i => simp only [List.set_cons_succ, List.flatMap_cons, ih i]

theorem listFns_new (w : World) (ao : Option Addr) (c : Nat) (l : List PF) (hs : sok 64 ao l.length c) (hl : Fns w ao l) : Calls Try.prog 37 #[.slice ao l.length c] w fun e w' => ∃ ao' c', e = .returned (.slice ao' l.length c') ∧ sok 64 ao' l.length c' ∧ (l = [] ∨ ao' = some ⟨w.heap.size, 0, none⟩ ∧ w'.heap[w.heap.size]? = some (.cells (l.flatMap PF.cells).toArray 44 (0, 0))) ∧ Q w w' := by
 refine (listFn_any w ao l.length c (l.flatMap PF.cells) hs (by rw [flat_len _ 4 PF.len]) (lst_src PF.len (by omega) (fun _ _ _ h => h.1) hl) (fun v hv => by
  obtain ⟨x, _, hx⟩ := List.mem_flatMap.1 hv
  exact cells_oneF x v hx)).mono fun e w' h => ?_
 rcases h with ⟨rfl, rfl, rfl⟩ | ⟨_, rfl, hh, q⟩
 ·have h0 : l.length = 0 := by have := hs.1; have := hs.2.2.1 rfl; omega
  exact ⟨none, 0, by rw [h0], by rw [h0]; exact sok_none _, Or.inl (List.eq_nil_of_length_eq_zero h0), Q.refl _⟩
 ·exact ⟨_, _, rfl, ⟨Nat.le_refl _, by have := hs.1; have := hs.2.1; omega, (fun h => by cases h), hs.2.2.2⟩, Or.inr ⟨rfl, hh⟩, q⟩
theorem listPrts_new (w : World) (ao : Option Addr) (c : Nat) (l : List PP) (hs : sok 56 ao l.length c) (hl : Prts w ao l) : Calls Try.prog 38 #[.slice ao l.length c] w fun e w' => ∃ ao' c', e = .returned (.slice ao' l.length c') ∧ (sok 56 ao' l.length c' ∧ c' = l.length) ∧ (l = [] ∨ ao' = some ⟨w.heap.size, 0, none⟩ ∧ w'.heap[w.heap.size]? = some (.cells (l.flatMap PP.cells).toArray 47 (0, 0))) ∧ Q w w' := by
 refine (listPart_any w ao l.length c (l.flatMap PP.cells) hs (by rw [flat_len _ 5 PP.len]) (lst_src PP.len (by omega) (fun _ _ _ h => h.1) hl) (fun v hv => by
  obtain ⟨x, _, hx⟩ := List.mem_flatMap.1 hv
  exact cells_oneP x v hx)).mono fun e w' h => ?_
 rcases h with ⟨rfl, rfl, rfl⟩ | ⟨_, rfl, hh, q⟩
 ·have h0 : l.length = 0 := by have := hs.1; have := hs.2.2.1 rfl; omega
  exact ⟨none, 0, by rw [h0], ⟨by rw [h0]; exact sok_none _, h0.symm⟩, Or.inl (List.eq_nil_of_length_eq_zero h0), Q.refl _⟩
 ·exact ⟨_, _, rfl, ⟨⟨Nat.le_refl _, by have := hs.1; have := hs.2.1; omega, (fun h => by cases h), hs.2.2.2⟩, rfl⟩, Or.inr ⟨rfl, hh⟩, q⟩

/-- What holds of Copy's own memory, from where its first lists are copied on: its box, its answer's box, and what was copied so far lies in Y. -/
structure CS (w Y : World) (c : PC) (ga : Option Addr) (gc : Nat) (na : Option Addr) (nc : Nat) (fa : Option Addr) (fc : Nat) (W : World) : Prop where
 box : W.heap[w.heap.size]? = some (.cells #[.slice ga c.gl.length gc, .slice na c.ini.length nc, .slice fa c.fns.length fc] 26 (0, 0))
 fr : FrX w.heap.size Y W
/-- .. and of Y. -/
structure CY (w Y : World) (c : PC) (ga : Option Addr) (gc : Nat) (na : Option Addr) (nc : Nat) : Prop where
 q : Q w Y
 sz : w.heap.size + 1 < Y.heap.size
 r : ∃ cs, Y.heap[w.heap.size + 1]? = some (.cells cs 26 (0, 0)) ∧ cs.size = 3
 gi : Ints Y ga c.gl
 gs : sok 8 ga c.gl.length gc
 gn : NB (w.heap.size + 2) Y ga c.gl.length
 ni : Ints Y na c.ini
 ns : sok 8 na c.ini.length nc
 nn : NB (w.heap.size + 2) Y na c.ini.length

/-- The blocks ahead of the functions' own. -/
def gB (a : PC) (g : Nat) : Prop := (a.gl ≠ [] ∧ a.ga = some ⟨g, 0, none⟩) ∨ (a.ini ≠ [] ∧ a.na = some ⟨g, 0, none⟩) ∨ (a.fns ≠ [] ∧ a.fa = some ⟨g, 0, none⟩)
/-- Code in memory of its own. -/
structure CodeL (lo : Nat) (W : World) (a : PC) : Prop where
 ok : a.ok W
 gn : NB lo W a.ga a.gl.length
 nn : NB lo W a.na a.ini.length
 fn : FnL lo W a.fa a.fns
 go : (∀ g, gB a g → ∀ f ∈ a.fns, ∀ b, fnB f b → g < b) ∧ ∀ g, (a.gl ≠ [] ∧ a.ga = some ⟨g, 0, none⟩) ∨ (a.ini ≠ [] ∧ a.na = some ⟨g, 0, none⟩) → a.fns ≠ [] → ∀ h, a.fa = some ⟨h, 0, none⟩ → g < h

theorem CS.start {w Y y3 : World} {c : PC} {ga na fa : Option Addr} {gc nc fc : Nat} {cs : Array Value} (hY : CY w Y c ga gc na nc) (q3 : Q Y y3) (hb : y3.heap[w.heap.size]? = some (.cells cs 26 (0, 0))) (hs : cs.size = 3) :
  CS w Y c ga gc na nc fa fc (((y3.setCell ⟨w.heap.size, 0, none⟩ (.slice ga c.gl.length gc)).setCell ⟨w.heap.size, 1, none⟩ (.slice na c.ini.length nc)).setCell ⟨w.heap.size, 2, none⟩ (.slice fa c.fns.length fc)) := by
 refine ⟨?_, FrX.set (p := ⟨w.heap.size, 2, none⟩) (FrX.set (p := ⟨w.heap.size, 1, none⟩) (FrX.set (p := ⟨w.heap.size, 0, none⟩) (FrX.of_q q3) (Or.inl rfl) _) (Or.inl rfl) _) (Or.inl rfl) _⟩
 have := block_setCell (j := 2) (block_setCell (j := 1) (block_setCell (j := 0) hb (.slice ga c.gl.length gc)) (.slice na c.ini.length nc)) (.slice fa c.fns.length fc)
 rw [this]
 match cs, hs with
 | ⟨[a, b, d]⟩, _ => rfl

theorem FnL.frx {G lo : Nat} {W W' : World} {a : Option Addr} {l : List PF} (h : FnL lo W a l) (hg : G < lo) (f : FrX G W W') : FnL lo W' a l := by
 refine ⟨fun k x hx => ?_, h.nb.frx hg f, fun x hx => (h.each x hx).frx hg f, h.ord, (Classical.em (l = [])).imp id fun hl0 => (h.row.resolve_left hl0).imp fun g ⟨e, hh⟩ => ⟨e, f.heap hh (by have := (h.nb.lb (len_ne hl0) e).1; omega)⟩⟩
 obtain ⟨b, o, e, hat, hok⟩ := h.at' k x hx
 exact ⟨b, o, e, hat.frx (lst_ne (sz := 4) (P := FnAt W) h.nb hg hx e) f, hok.frx (h.each x (List.mem_of_getElem? hx)) hg f⟩
theorem CodeL.frx {G lo : Nat} {W W' : World} {a : PC} (h : CodeL lo W a) (hg : G < lo) (f : FrX G W W') : CodeL lo W' a :=
 ⟨⟨h.ok.gsok, h.ok.gl.frx h.gn hg f, h.ok.nsok, h.ok.ini.frx h.nn hg f, h.ok.fsok, (h.fn.frx hg f).at'⟩, h.gn.frx hg f, h.nn.frx hg f, h.fn.frx hg f, h.go⟩
theorem CodeL.mono {lo lo' : Nat} {W : World} {a : PC} (h : CodeL lo W a) (hl : lo' ≤ lo) : CodeL lo' W a := ⟨h.ok, h.gn.mono hl, h.nn.mono hl, ⟨h.fn.at', h.fn.nb.mono hl, fun f hf => (h.fn.each f hf).mono hl, h.fn.ord, h.fn.row⟩, h.go⟩

theorem go_of {w Y W : World} {c : PC} {ga na : Option Addr} {gc nc fc G : Nat} {L : List PF} (hY : CY w Y c ga gc na nc) (hG : Y.heap.size ≤ G) (h : CpF G c.fns c.fns.length L W) : (∀ g, gB ⟨c.gl, c.ini, L, ga, gc, na, nc, some ⟨G, 0, none⟩, fc⟩ g → ∀ f ∈ L, ∀ b, fnB f b → g < b) ∧ ∀ g, (c.gl ≠ [] ∧ ga = some ⟨g, 0, none⟩) ∨ (c.ini ≠ [] ∧ na = some ⟨g, 0, none⟩) → L ≠ [] → ∀ h, (some ⟨G, 0, none⟩ : Option Addr) = some ⟨h, 0, none⟩ → g < h := by
 constructor
 ·intro g hg f hf b hb
  have h1 := h.above f hf b hb
  rcases hg with hg | hg | hg
  ·have := (hY.gn.lb (len_ne hg.1) hg.2).2; omega
  ·have := (hY.nn.lb (len_ne hg.1) hg.2).2; omega
  ·have e := hg.2
   simp at e
   omega
 ·intro g hg _ h e
  injection e with e
  injection e with e
  rcases hg with hg | hg
  ·have := (hY.gn.lb (len_ne hg.1) hg.2).2; omega
  ·have := (hY.nn.lb (len_ne hg.1) hg.2).2; omega
/-- The answer. -/
theorem CS.done {w Y W : World} {c : PC} {ga na fa : Option Addr} {gc nc fc : Nat} {L : List PF} (hY : CY w Y c ga gc na nc) (h : CS w Y c ga gc na nc fa fc W) (hs : sok 64 fa c.fns.length fc) (hL : FnL (w.heap.size + 2) W fa L ∧ EvL EvF L c.fns) (hgo : (∀ g, gB ⟨c.gl, c.ini, L, ga, gc, na, nc, fa, fc⟩ g → ∀ f ∈ L, ∀ b, fnB f b → g < b) ∧ ∀ g, (c.gl ≠ [] ∧ ga = some ⟨g, 0, none⟩) ∨ (c.ini ≠ [] ∧ na = some ⟨g, 0, none⟩) → L ≠ [] → ∀ h, fa = some ⟨h, 0, none⟩ → g < h) :
  CodeL (w.heap.size + 2) W ⟨c.gl, c.ini, L, ga, gc, na, nc, fa, fc⟩ ∧ EvC ⟨c.gl, c.ini, L, ga, gc, na, nc, fa, fc⟩ c := by
 refine ⟨⟨⟨hY.gs, hY.gi.frx hY.gn (by omega) h.fr, hY.ns, hY.ni.frx hY.nn (by omega) h.fr, ?_, hL.1.at'⟩, hY.gn.frx (by omega) h.fr, hY.nn.frx (by omega) h.fr, hL.1, hgo⟩, rfl, rfl, hL.2⟩
 show sok 64 fa L.length fc
 rw [hL.2.len]
 exact hs
theorem CS.keep {w Y W W' : World} {c : PC} {ga na fa : Option Addr} {gc nc fc : Nat} (h : CS w Y c ga gc na nc fa fc W) (f : FrX w.heap.size Y W') (hb : W'.heap[w.heap.size]? = W.heap[w.heap.size]?) : CS w Y c ga gc na nc fa fc W' := ⟨hb.trans h.box, f⟩

/-- A function's lists are copied, its parts not yet. -/
theorem fn_step {G : Nat} {l L : List PF} {i : Nat} {W y : World} (h : CpF G l i L W) {x : PF} (hx : L[i]? = some x) (q : Q W y) (sa : Option Addr) (sc : Nat) (pa : Option Addr) (pc : Nat) :
  ((y.setCell ⟨G, i * 4 + 2, none⟩ (.slice sa x.slots.length sc)).setCell ⟨G, i * 4 + 3, none⟩ (.slice pa x.parts.length pc)).heap[G]? = some (.cells ((L.set i { x with sa := sa, sc := sc, pa := pa, pc := pc }).flatMap PF.cells).toArray 44 (0, 0)) := by
 have hil : i < L.length := (List.getElem?_eq_some_iff.1 hx).1
 have h1 := flat_step PF.len (heap_keep q h.blk) (x' := { x with sa := sa, sc := sc }) (j := 2) (u := .slice sa x.slots.length sc) hx (by omega) rfl
 have h2 := flat_step PF.len h1 (x := { x with sa := sa, sc := sc }) (x' := { x with sa := sa, sc := sc, pa := pa, pc := pc }) (k := i) (j := 3) (u := .slice pa x.parts.length pc) (by simp [hil]) (by omega) rfl
 rw [List.set_set] at h2
 exact h2

end Go.Proofs.Ytphknepblchkdaa
