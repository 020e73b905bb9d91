/-
  Code in memory of its own, one part of which is changed where it lies: facts on worlds; no conditions but those that each fact bears.
  What comes of code by reading registers elsewhere, part by part; its registers and its size: plain facts; no conditions but those that each fact bears.
  How many registers there are at most, and Run of prop where the code isn't right: contracts over the program; the conditions: the code lies in memory.
-/
import Derived.Test.YtipmbamcldlmeaaKPpH
import Derived.Test.YtipmbamcldlmeaaKIrZi
import Derived.Test.YtipmbamcldlmeaaKDnO
namespace Go.Proofs.Ytipmbamcldlmeaa.Pp
open Go.RowKit
set_option linter.unusedVariables false

abbrev PF.wp (f : PF) (L : List PP) : PF := { f with parts := L }
abbrev PC.wf (c : PC) (L : List PF) : PC := { c with fns := L }
/-- All blocks lie below hi. -/
structure Und (hi : Nat) (A : PC) : Prop where
  g : ∀ b, gB A b → b < hi
  f : ∀ f ∈ A.fns, ∀ b, fnB f b → b < hi

section
variable {lo : Nat} {W W' : World} {S : Nat → Prop}
theorem CodeL.und {A : PC} (h : CodeL lo W A) : Und W.heap.size A := by
  refine ⟨fun b hb => ?_, fun f hf b hb => (FnN.lb (h.fn.each f hf) hb).2⟩
  rcases hb with q | q | q
  · exact (h.gn.lb (len_ne q.1) q.2).2
  · exact (h.nn.lb (len_ne q.1) q.2).2
  · exact (h.fn.nb.lb (len_ne q.1) q.2).2
theorem insl_p {p : PP} (h : InsL lo W p.ia p.ins) (f : Fs S W W') (hs : ∀ b, ptB p b → ¬ S b) : InsL lo W' p.ia p.ins := InsL.fs h f (fun b h1 h2 => hs b (Or.inl ⟨h1, h2⟩)) (fun x hx b hb => hs b (Or.inr ⟨x, hx, hb⟩))
theorem prtl_fs {a : Option Addr} {l : List PP} (h : PrtL lo W a l) (f : Fs S W W') (h1 : ∀ b, l ≠ [] → a = some ⟨b, 0, none⟩ → ¬ S b) (h2 : ∀ p ∈ l, ∀ b, ptB p b → ¬ S b) : PrtL lo W' a l := by
  refine ⟨fun k x hx => ?_, NB.fs h.nb f fun b q => h1 b (fun e => q (by rw [e]; rfl)), fun x hx => insl_p (h.each x hx) f (h2 x hx), h.ord⟩
  obtain ⟨b, o, e, hat, hok⟩ := h.at' k x hx
  have eo := nb_addr h.nb rfl hx e
  subst eo
  have hm := List.mem_of_getElem? hx
  exact ⟨b, 0, e, at_fs hat f (h1 b (fun q => by rw [q] at hx; simp at hx) e), ⟨hok.cond, hok.next, hok.els, hok.sok, (insl_p (h.each x hm) f (h2 x hm)).at'⟩⟩
theorem fn_fs {g : PF} (h : FnN lo W g) (hok : g.ok W) (f : Fs S W W') (hs : ∀ b, fnB g b → ¬ S b) : FnN lo W' g ∧ g.ok W' := by
  have hp := prtl_fs h.parts f (fun b h1 h2 => hs b (Or.inr (Or.inl ⟨h1, h2⟩))) (fun p hp b hb => hs b (Or.inr (Or.inr ⟨p, hp, hb⟩)))
  exact ⟨⟨NB.fs h.slots f fun b q e => hs b (Or.inl ⟨fun e => q (by rw [e]; rfl), e⟩), hp, h.so⟩, ⟨hok.params, hok.regs, hok.ssok, ints_fs hok.slots h.slots f (fun b h1 h2 => hs b (Or.inl ⟨h1, h2⟩)), hok.psok, hp.at'⟩⟩

/-- A part that is another but for its instructions and its Cond. -/
structure Alp (p q : PP) : Prop where
  ia : q.ia = p.ia
  ic : q.ic = p.ic
  e : q.e = p.e
  next : q.next = p.next
  els : q.els = p.els
  len : q.ins.length = p.ins.length
  blk : ∀ b, ptB q b → ptB p b
  i64 : I64 q.cond
theorem prtl_put {Pb m : Nat} {l : List PP} {p q : PP} {cs : Array Value} {t : TypeId} (h : PrtL lo W (some ⟨Pb, 0, none⟩) l) (hm : l[m]? = some p) (hq : Alp p q) (f : Fs S W W') (hS : ∀ (k : Nat) (x : PP), k ≠ m → l[k]? = some x → ∀ b, ptB x b → ¬ S b) (hb : W.heap[Pb]? = some (.cells cs t (0, 0))) (hb' : W'.heap[Pb]? = some (.cells (cs.setIfInBounds (m * 5 + 2) (.int .i64 q.cond)) t (0, 0))) (hil : InsL lo W' q.ia q.ins) : PrtL lo W' (some ⟨Pb, 0, none⟩) (l.set m q) := by
  have hml := (List.getElem?_eq_some_iff.1 hm).1
  refine ⟨fun k x hx => ?_, ?_, fun x hx => ?_, fun k1 k2 x1 x2 g1 g2 e1 e2 h12 b1 b2 => ?_⟩
  · rcases set_get hm hx with ⟨rfl, rfl⟩ | ⟨h1, h2⟩
    · obtain ⟨b, o, e, hat, hok⟩ := h.at' k p hm
      simp at e
      obtain ⟨rfl, rfl⟩ := e
      refine ⟨Pb, 0, rfl, fun j hj => ?_, ⟨hq.i64, by rw [hq.next]; exact hok.next, by rw [hq.els]; exact hok.els, by rw [hq.ia, hq.ic, hq.len]; exact hok.sok, hil.at'⟩⟩
      have hj5 : j < 5 := hj
      have h0 := hat j hj5
      rw [Nat.zero_add, cell_of_block hb] at h0
      rw [Nat.zero_add, cell_of_block hb']
      have hec : x.cells = p.cells.set 2 (.int .i64 x.cond) := by simp [PP.cells, hq.ia, hq.ic, hq.e, hq.next, hq.els, hq.len]
      rw [hec, Array.getElem?_setIfInBounds]
      by_cases e : j = 2
      · subst e
        have hlt : k * 5 + 2 < cs.size := by
          have h5 : (p.cells)[2]? = some (.int .i64 p.cond) := rfl
          rw [h5] at h0
          exact (Array.getElem?_eq_some_iff.1 h0).1
        rw [if_pos rfl, if_pos hlt]
        rfl
      · rw [if_neg (by omega), List.getElem?_set_ne (fun q => e q.symm)]
        exact h0
    · obtain ⟨b, o, e, hat, hok⟩ := h.at' k x h2
      simp at e
      obtain ⟨rfl, rfl⟩ := e
      have hmx := List.mem_of_getElem? h2
      refine ⟨Pb, 0, rfl, fun j hj => ?_, ⟨hok.cond, hok.next, hok.els, hok.sok, (insl_p (h.each x hmx) f (hS k x h1 h2)).at'⟩⟩
      have hj5 : j < 5 := hj
      have h0 := hat j hj5
      rw [Nat.zero_add, cell_of_block hb] at h0
      rw [Nat.zero_add, cell_of_block hb', Array.getElem?_setIfInBounds_ne (by omega)]
      exact h0
  · rw [List.length_set]
    rcases h.nb with h0 | ⟨g, _, _, e, hg, -⟩
    · exact Or.inl h0
    · simp at e
      subst e
      exact Or.inr ⟨Pb, _, _, rfl, hg, hb'⟩
  · obtain ⟨k, hk⟩ := List.mem_iff_getElem?.1 hx
    rcases set_get hm hk with ⟨rfl, rfl⟩ | ⟨h1, h2⟩
    · exact hil
    · exact insl_p (h.each x (List.mem_of_getElem? h2)) f (hS k x h1 h2)
  · have get : ∀ k x b, (l.set m q)[k]? = some x → ptB x b → ∃ x', l[k]? = some x' ∧ ptB x' b := fun k x b hx hb => by
      rcases set_get hm hx with ⟨rfl, rfl⟩ | ⟨-, h2⟩
      · exact ⟨p, hm, hq.blk b hb⟩
      · exact ⟨x, h2, hb⟩
    obtain ⟨y1, f1, f2⟩ := get k1 x1 g1 e1 b1
    obtain ⟨y2, f3, f4⟩ := get k2 x2 g2 e2 b2
    exact h.ord k1 k2 y1 y2 g1 g2 f1 f3 h12 f2 f4

theorem fnB_put {fn : PF} {m : Nat} {p q : PP} (hm : fn.parts[m]? = some p) (hq : Alp p q) {b : Nat} (h : fnB (PF.wp fn (fn.parts.set m q)) b) : fnB fn b := by
  rcases h with h | h | ⟨x, hx, h⟩
  · exact Or.inl h
  · exact Or.inr (Or.inl ⟨fun e => (by rw [e] at hm; simp at hm), h.2⟩)
  · obtain ⟨k, hk⟩ := List.mem_iff_getElem?.1 hx
    rcases set_get hm hk with ⟨rfl, rfl⟩ | ⟨-, h2⟩
    · exact Or.inr (Or.inr ⟨p, List.mem_of_getElem? hm, hq.blk b h⟩)
    · exact Or.inr (Or.inr ⟨x, List.mem_of_getElem? h2, h⟩)
/-- Code, one part changed where it lies. -/
theorem codel_put {hi : Nat} {A : PC} (h : CodeL lo W A) (hu : Und hi A) {k : Nat} {fn : PF} (hk : A.fns[k]? = some fn) {m : Nat} {p q : PP} (hm : fn.parts[m]? = some p) {Pb : Nat} (hPa : fn.pa = some ⟨Pb, 0, none⟩) {cs : Array Value} {t : TypeId} (hb : W.heap[Pb]? = some (.cells cs t (0, 0))) (hq : Alp p q) (f : Fs (fun b => ptB p b ∨ b = Pb ∨ hi ≤ b) W W') (hb' : W'.heap[Pb]? = some (.cells (cs.setIfInBounds (m * 5 + 2) (.int .i64 q.cond)) t (0, 0))) (hil : InsL lo W' q.ia q.ins) :
    CodeL lo W' (PC.wf A (A.fns.set k (PF.wp fn (fn.parts.set m q)))) ∧ Und hi (PC.wf A (A.fns.set k (PF.wp fn (fn.parts.set m q)))) := by
  have hfm := List.mem_of_getElem? hk
  have hpm := List.mem_of_getElem? hm
  have hfn := h.fn.each fn hfm
  have hpne : fn.parts ≠ [] := fun e => by rw [e] at hm; simp at hm
  have bP : paB fn Pb := ⟨hpne, hPa⟩
  have hkl := (List.getElem?_eq_some_iff.1 hk).1
  -- what is of the code, but not of this part, stays
  have far : ∀ b, b < hi → (∀ b', fnB fn b' → b ≠ b') → ¬ (ptB p b ∨ b = Pb ∨ hi ≤ b) := fun b h1 h2 q => by
    rcases q with q | q | q
    · exact h2 b (Or.inr (Or.inr ⟨p, hpm, q⟩)) rfl
    · exact h2 b (Or.inr (Or.inl (by rw [q]; exact bP))) rfl
    · omega
  have farG : ∀ b, gB A b → ¬ (ptB p b ∨ b = Pb ∨ hi ≤ b) := fun b hb0 => far b (hu.g b hb0) (fun b' hb1 e => by have := h.go b hb0 fn hfm b' hb1; omega)
  have farF : ∀ j x, j ≠ k → A.fns[j]? = some x → ∀ b, fnB x b → ¬ (ptB p b ∨ b = Pb ∨ hi ≤ b) := fun j x hj hx b hb0 => far b (hu.f x (List.mem_of_getElem? hx) b hb0) (fun b' hb1 e => by
    subst e
    rcases Nat.lt_or_gt_of_ne hj with q | q
    · have := h.fn.ord j k x fn hx hk q b b hb0 hb1; omega
    · have := h.fn.ord k j fn x hk hx q b b hb1 hb0; omega)
  have farS : ∀ b, sB fn b → ¬ (ptB p b ∨ b = Pb ∨ hi ≤ b) := fun b hb0 q => by
    rcases q with q | q | q
    · have := hfn.so.st b b hb0 ⟨p, hpm, q⟩; omega
    · have := hfn.so.sp b Pb hb0 bP; omega
    · have := hu.f fn hfm b (Or.inl hb0); omega
  have farP : ∀ (j : Nat) (x : PP), j ≠ m → fn.parts[j]? = some x → ∀ b, ptB x b → ¬ (ptB p b ∨ b = Pb ∨ hi ≤ b) := fun j x hj hx b hb0 q => by
    have hxm := List.mem_of_getElem? hx
    rcases q with q | q | q
    · rcases Nat.lt_or_gt_of_ne hj with r | r
      · have := hfn.parts.ord j m x p b b hx hm r hb0 q; omega
      · have := hfn.parts.ord m j p x b b hm hx r q hb0; omega
    · have := hfn.so.pt Pb b bP ⟨x, hxm, hb0⟩; omega
    · have := hu.f fn hfm b (Or.inr (Or.inr ⟨x, hxm, hb0⟩)); omega
  have hparts := hfn.parts
  rw [hPa] at hparts
  have newp := prtl_put hparts hm hq f farP hb hb' hil
  obtain ⟨fb, fo, efa, hfat, hfok⟩ := h.fn.at' k fn hk
  have newF : FnN lo W' (PF.wp fn (fn.parts.set m q)) := by
    refine ⟨NB.fs hfn.slots f fun b q0 e => farS b ⟨fun e => q0 (by rw [e]; rfl), e⟩, by show PrtL lo W' fn.pa _; rw [hPa]; exact newp, ⟨fun g1 g2 b1 b2 => hfn.so.sp g1 g2 b1 ⟨hpne, b2.2⟩, fun g1 g2 b1 ⟨x, hx, b2⟩ => ?_, fun g1 g2 b1 ⟨x, hx, b2⟩ => ?_⟩⟩
    · obtain ⟨j, hj⟩ := List.mem_iff_getElem?.1 hx
      rcases set_get hm hj with ⟨rfl, rfl⟩ | ⟨-, h2⟩
      · exact hfn.so.st g1 g2 b1 ⟨p, hpm, hq.blk g2 b2⟩
      · exact hfn.so.st g1 g2 b1 ⟨x, List.mem_of_getElem? h2, b2⟩
    · obtain ⟨j, hj⟩ := List.mem_iff_getElem?.1 hx
      rcases set_get hm hj with ⟨rfl, rfl⟩ | ⟨-, h2⟩
      · exact hfn.so.pt g1 g2 ⟨hpne, b1.2⟩ ⟨p, hpm, hq.blk g2 b2⟩
      · exact hfn.so.pt g1 g2 ⟨hpne, b1.2⟩ ⟨x, List.mem_of_getElem? h2, b2⟩
  have newO : (PF.wp fn (fn.parts.set m q)).ok W' := ⟨hfok.params, hfok.regs, hfok.ssok, ints_fs hfok.slots hfn.slots f (fun b h1 h2 => farS b ⟨h1, h2⟩), by show sok 56 fn.pa (fn.parts.set m q).length fn.pc; rw [List.length_set]; exact hfok.psok, newF.parts.at'⟩
  have fne : A.fns ≠ [] := fun e => by rw [e] at hk; simp at hk
  have farA : ∀ b, A.fa = some ⟨b, 0, none⟩ → ¬ (ptB p b ∨ b = Pb ∨ hi ≤ b) := fun b e => farG b (Or.inr (Or.inr ⟨fne, e⟩))
  have all : ∀ j x, (A.fns.set k (PF.wp fn (fn.parts.set m q)))[j]? = some x → FnN lo W' x ∧ x.ok W' ∧ ∃ x', A.fns[j]? = some x' ∧ x.cells = x'.cells ∧ ∀ b, fnB x b → fnB x' b := fun j x hx => by
    rcases set_get hk hx with ⟨rfl, rfl⟩ | ⟨h1, h2⟩
    · exact ⟨newF, newO, fn, hk, by simp [PF.cells], fun b hb0 => fnB_put hm hq hb0⟩
    · obtain ⟨_, _, -, -, hxo⟩ := h.fn.at' j x h2
      obtain ⟨a1, a2⟩ := fn_fs (h.fn.each x (List.mem_of_getElem? h2)) hxo f (farF j x h1 h2)
      exact ⟨a1, a2, x, h2, rfl, fun b hb0 => hb0⟩
  have hfns : FnL lo W' A.fa (A.fns.set k (PF.wp fn (fn.parts.set m q))) := by
    refine ⟨fun j x hx => ?_, by rw [List.length_set]; exact NB.fs h.fn.nb f fun b _ e => farA b e, fun x hx => ?_, fun k1 k2 f1 f2 e1 e2 h12 g1 g2 b1 b2 => ?_⟩
    · obtain ⟨a1, a2, x', hx', ec, -⟩ := all j x hx
      obtain ⟨b, o, e, hat, -⟩ := h.fn.at' j x' hx'
      have eo := nb_addr h.fn.nb rfl hx' e
      subst eo
      exact ⟨b, 0, e, by rw [ec]; exact at_fs hat f (farA b e), a2⟩
    · obtain ⟨j, hj⟩ := List.mem_iff_getElem?.1 hx
      exact (all j x hj).1
    · obtain ⟨-, -, y1, q1, -, q2⟩ := all k1 f1 e1
      obtain ⟨-, -, y2, q3, -, q4⟩ := all k2 f2 e2
      exact h.fn.ord k1 k2 y1 y2 q1 q3 h12 g1 g2 (q2 g1 b1) (q4 g2 b2)
  have hgB : ∀ b, gB (PC.wf A (A.fns.set k (PF.wp fn (fn.parts.set m q)))) b → gB A b := fun b hb0 => by
    rcases hb0 with q0 | q0 | q0
    · exact Or.inl q0
    · exact Or.inr (Or.inl q0)
    · exact Or.inr (Or.inr ⟨fne, q0.2⟩)
  refine ⟨⟨⟨h.ok.gsok, ints_fs h.ok.gl h.gn f (fun b h1 h2 => farG b (Or.inl ⟨h1, h2⟩)), h.ok.nsok, ints_fs h.ok.ini h.nn f (fun b h1 h2 => farG b (Or.inr (Or.inl ⟨h1, h2⟩))), by show sok 64 A.fa (A.fns.set k _).length A.fc; rw [List.length_set]; exact h.ok.fsok, hfns.at'⟩, NB.fs h.gn f fun b q0 e => farG b (Or.inl ⟨fun e => q0 (by rw [e]; rfl), e⟩), NB.fs h.nn f fun b q0 e => farG b (Or.inr (Or.inl ⟨fun e => q0 (by rw [e]; rfl), e⟩)), hfns, fun g hg x hx b hb0 => ?_⟩, ⟨fun b hb0 => hu.g b (hgB b hb0), fun x hx b hb0 => ?_⟩⟩
  · obtain ⟨j, hj⟩ := List.mem_iff_getElem?.1 hx
    obtain ⟨-, -, x', hx', -, hb1⟩ := all j x hj
    exact h.go g (hgB g hg) x' (List.mem_of_getElem? hx') b (hb1 b hb0)
  · obtain ⟨j, hj⟩ := List.mem_iff_getElem?.1 hx
    obtain ⟨-, -, x', hx', -, hb1⟩ := all j x hj
    exact hu.f x' (List.mem_of_getElem? hx') b (hb1 b hb0)
end

end Go.Proofs.Ytipmbamcldlmeaa.Pp

namespace Go.Proofs.Ytipmbamcldlmeaa.Pp
open Go.RowKit
set_option linter.unusedVariables false

/-- The first i of a list changed. -/
def upTo {α : Type} (φ : α → α) (l : List α) (i : Nat) : List α := (l.take i).map φ ++ l.drop i
theorem upTo_zero {α : Type} (φ : α → α) (l : List α) : upTo φ l 0 = l := by simp [upTo]
theorem upTo_all {α : Type} (φ : α → α) (l : List α) : upTo φ l l.length = l.map φ := by simp [upTo]
theorem upTo_len {α : Type} (φ : α → α) (l : List α) {i : Nat} (h : i ≤ l.length) : (upTo φ l i).length = l.length := by simp [upTo]; omega
theorem upTo_at {α : Type} (φ : α → α) {l : List α} {i : Nat} {x : α} (h : l[i]? = some x) : (upTo φ l i)[i]? = some x := mid_get (by have := (List.getElem?_eq_some_iff.1 h).1; simp; omega) h
theorem upTo_set {α : Type} (φ : α → α) {l : List α} {i : Nat} {x : α} (h : l[i]? = some x) : (upTo φ l i).set i (φ x) = upTo φ l (i + 1) := by
  have hl := (List.getElem?_eq_some_iff.1 h).1
  unfold upTo
  rw [mid_set (by simp; omega) h, List.take_add_one, h]
  simp
theorem set_same {α : Type} {l : List α} {i : Nat} {x : α} (h : l[i]? = some x) : l.set i x = l := by
  obtain ⟨hl, e⟩ := List.getElem?_eq_some_iff.1 h
  rw [← e]; exact List.set_getElem_self hl

/-- The code while it is read. -/
def stC (fault : Bool) (a : PC) (i : Nat) : PC := PC.wf a (upTo (propF fault) a.fns i)
def stF (fault : Bool) (a : PC) (i : Nat) (f : PF) (j : Nat) : PC := PC.wf a ((upTo (propF fault) a.fns i).set i (PF.wp f (upTo (propP fault) f.parts j)))
theorem stF_zero {fault : Bool} {a : PC} {i : Nat} {f : PF} (h : a.fns[i]? = some f) : stF fault a i f 0 = stC fault a i := by
  unfold stF stC
  rw [upTo_zero, set_same (upTo_at _ h)]
theorem stF_all {fault : Bool} {a : PC} {i : Nat} {f : PF} (h : a.fns[i]? = some f) : stF fault a i f f.parts.length = stC fault a (i + 1) := by
  unfold stF stC
  rw [upTo_all, ← upTo_set (propF fault) h]
  rfl
theorem stF_get {fault : Bool} {a : PC} {i : Nat} {f : PF} (h : a.fns[i]? = some f) (j : Nat) : (stF fault a i f j).fns[i]? = some (PF.wp f (upTo (propP fault) f.parts j)) := by
  unfold stF
  have hl := (List.getElem?_eq_some_iff.1 h).1
  show ((upTo (propF fault) a.fns i).set i _)[i]? = _
  rw [List.getElem?_set_self (by rw [upTo_len _ _ (by omega)]; exact hl)]
theorem stF_step {fault : Bool} {a : PC} {i : Nat} {f : PF} (h : a.fns[i]? = some f) {j : Nat} {p : PP} (hp : f.parts[j]? = some p) :
    PC.wf (stF fault a i f j) ((stF fault a i f j).fns.set i (PF.wp (PF.wp f (upTo (propP fault) f.parts j)) ((PF.wp f (upTo (propP fault) f.parts j)).parts.set j (propP fault p)))) = stF fault a i f (j + 1) := by
  unfold stF
  simp only [PC.wf, PF.wp, List.set_set]
  rw [upTo_set _ hp]

/-! ### Codes that are alike are read alike -/
theorem evl_nil {α : Type} {R : α → α → Prop} : EvL R [] [] := ⟨rfl, fun k x y h => by simp at h⟩
theorem evl_cons {α : Type} {R : α → α → Prop} {x y : α} {l m : List α} (h : R x y) (t : EvL R l m) : EvL R (x :: l) (y :: m) := ⟨by simp [t.len], fun k a b ha hb => by
  cases k with
  | zero => simp at ha hb; subst ha hb; exact h
  | succ k => exact t.each k a b (by simpa using ha) (by simpa using hb)⟩
theorem evl_head {α : Type} {R : α → α → Prop} {x y : α} {l m : List α} (h : EvL R (x :: l) (y :: m)) : R x y ∧ EvL R l m := ⟨h.each 0 x y rfl rfl, by have := h.len; simpa using this, fun k a b ha hb => h.each (k + 1) a b (by simpa using ha) (by simpa using hb)⟩
theorem evl_map {α : Type} {R : α → α → Prop} {φ : α → α} (hφ : ∀ x y, R x y → R (φ x) (φ y)) {l m : List α} (h : EvL R l m) : EvL R (l.map φ) (m.map φ) := ⟨by simp [h.len], fun k x y hx hy => by
  rw [List.getElem?_map] at hx hy
  cases ha : l[k]? with
  | none => rw [ha] at hx; cases hx
  | some a =>
    cases hb : m[k]? with
    | none => rw [hb] at hy; cases hy
    | some b =>
      rw [ha] at hx
      rw [hb] at hy
      simp at hx hy
      subst hx hy
      exact hφ a b (h.each k a b ha hb)⟩
theorem evl_get {α : Type} {R : α → α → Prop} {l m : List α} (h : EvL R l m) (k : Nat) : (l[k]? = none ∧ m[k]? = none) ∨ ∃ x y, l[k]? = some x ∧ m[k]? = some y ∧ R x y := by
  have hl := h.len
  cases ha : l[k]? with
  | none =>
    have := List.getElem?_eq_none_iff.1 ha
    exact Or.inl ⟨rfl, List.getElem?_eq_none (by omega)⟩
  | some x =>
    have := (List.getElem?_eq_some_iff.1 ha).1
    obtain ⟨y, hy⟩ := get_of_lt (l := m) (k := k) (by omega)
    exact Or.inr ⟨x, y, rfl, hy, h.each k x y ha hy⟩
theorem evl_mem {α : Type} {R : α → α → Prop} {l m : List α} (h : EvL R l m) {x : α} (hx : x ∈ l) : ∃ y ∈ m, R x y := by
  obtain ⟨k, hk⟩ := List.mem_iff_getElem?.1 hx
  rcases evl_get h k with ⟨h1, h2⟩ | ⟨a, b, h1, h2, h3⟩
  · rw [h1] at hk; cases hk
  · rw [h1] at hk
    injection hk with hk
    subst hk
    exact ⟨b, List.mem_of_getElem? h2, h3⟩
theorem evl_snoc {α : Type} {R : α → α → Prop} {x y : α} {l m : List α} (h : R x y) (t : EvL R l m) : EvL R (l ++ [x]) (m ++ [y]) := ⟨by simp [t.len], fun k a b ha hb => by
  have hl := t.len
  rcases Nat.lt_or_ge k l.length with q | q
  · rw [List.getElem?_append_left q] at ha
    rw [List.getElem?_append_left (by omega)] at hb
    exact t.each k a b ha hb
  · have hk := (List.getElem?_eq_some_iff.1 ha).1
    simp at hk
    have ek : k = l.length := by omega
    subst ek
    rw [List.getElem?_append_right (Nat.le_refl _), Nat.sub_self] at ha
    rw [List.getElem?_append_right (by omega), hl, Nat.sub_self] at hb
    simp at ha hb
    subst ha hb
    exact h⟩
theorem ev_lastG : ∀ (l m : List PI) (n : Nat) (F : WF), EvL EvI l m → lastG l n F = lastG m n F
  | [], [], n, F, _ => rfl
  | [], y :: m, n, F, h => by have := h.len; simp at this
  | x :: l, [], n, F, h => by have := h.len; simp at this
  | x :: l, y :: m, n, F, h => by
    obtain ⟨h1, h2⟩ := evl_head h
    simp only [lastG]
    have e : stpW F n x = stpW F n y := by unfold stpW; rw [h1.op, h1.dst]
    rw [e]
    exact ev_lastG l m _ _ h2
theorem ev_last {P P' : List PI} (h : EvL EvI P P') : lastW P = lastW P' := ev_lastG P P' 0 _ h
theorem ev_cp {fault : Bool} {P P' : List PI} (h : EvL EvI P P') (r : Int) : cp fault P r = cp fault P' r := by
  unfold cp
  rw [ev_last h]
  cases lastW P' r with
  | none => rfl
  | some k =>
    dsimp only
    rcases evl_get h k with ⟨h1, h2⟩ | ⟨x, y, h1, h2, h3⟩
    · rw [h1, h2]
    · rw [h1, h2]
      dsimp only
      rw [h3.op, h3.a]
theorem ev_srcN {fault : Bool} {P P' : List PI} (h : EvL EvI P P') : ∀ (n : Nat) (r : Int), srcN fault P n r = srcN fault P' n r
  | 0, r => rfl
  | n + 1, r => by
    simp only [srcN]
    rw [ev_cp h]
    cases cp fault P' r with
    | none => rfl
    | some a => exact ev_srcN h n a
theorem ev_src {fault : Bool} {P P' : List PI} (h : EvL EvI P P') : src fault P = src fault P' := by
  funext r
  unfold src
  rw [h.len]
  exact ev_srcN h _ r
theorem ev_read {s : Int → Int} {x y : PI} (h : EvI x y) : EvI (readI s x) (readI s y) := by
  unfold readI
  rw [h.op]
  split
  · exact ⟨rfl, h.ty, h.dst, h.a, h.b, h.imm, by show x.args.map s = y.args.map s; rw [h.args]⟩
  · split
    · exact ⟨rfl, h.ty, h.dst, by show s x.a = s y.a; rw [h.a], by show s x.b = s y.b; rw [h.b], h.imm, h.args⟩
    · split
      · exact ⟨rfl, h.ty, h.dst, by show s x.a = s y.a; rw [h.a], h.b, h.imm, h.args⟩
      · exact h
theorem ev_propL {fault : Bool} : ∀ (l m P P' : List PI), EvL EvI P P' → EvL EvI l m → EvL EvI (propL fault P l) (propL fault P' m)
  | [], [], P, P', _, _ => evl_nil
  | [], y :: m, P, P', _, h => by have := h.len; simp at this
  | x :: l, [], P, P', _, h => by have := h.len; simp at this
  | x :: l, y :: m, P, P', hP, h => by
    obtain ⟨h1, h2⟩ := evl_head h
    have h3 := ev_read (s := src fault P) h1
    simp only [propL]
    rw [← ev_src (fault := fault) hP]
    exact evl_cons h3 (ev_propL l m _ _ (evl_snoc h3 hP) h2)
theorem ev_propP {fault : Bool} {p q : PP} (h : EvP p q) : EvP (propP fault p) (propP fault q) := by
  have h1 := ev_propL (fault := fault) p.ins q.ins [] [] evl_nil h.ins
  refine ⟨h.e, ?_, h.next, h.els, h1⟩
  show (if 0 ≤ p.cond then src fault (propL fault [] p.ins) p.cond else p.cond) = if 0 ≤ q.cond then src fault (propL fault [] q.ins) q.cond else q.cond
  rw [h.cond, ev_src h1]
theorem ev_propC {fault : Bool} {a c : PC} (h : EvC a c) : EvC (propC fault a) (propC fault c) :=
  ⟨h.gl, h.ini, evl_map (fun f g hf => ⟨hf.params, hf.regs, hf.slots, evl_map (fun p q hp => ev_propP hp) hf.parts⟩) h.fns⟩

/-! ### Registers -/
/-- All registers lie below N. -/
def RgP (N : Int) (p : PP) : Prop := (∀ x ∈ p.ins, InR N x) ∧ (0 ≤ p.cond → inN N p.cond)
def RgC (N : Int) (c : PC) : Prop := ∀ f ∈ c.fns, ∀ p ∈ f.parts, RgP N p
theorem bl_in {r m N : Int} (h : blP r m = true) (hm : m ≤ N) : inN N r := by
  unfold blP at h
  simp at h
  exact ⟨h.1, by omega⟩
theorem inr_of {c : PC} {k : Nat} {f : PF} {x : PI} {N : Int} (h : insP c k f x = true) (hN : f.regs ≤ N) : InR N x := by
  unfold insP at h
  simp only [Bool.and_eq_true] at h
  obtain ⟨-, -, hw, hr, -⟩ := h
  unfold wtP at hw
  unfold rdsP at hr
  simp only [Bool.and_eq_true, Bool.or_eq_true, Bool.not_eq_true'] at hw hr
  obtain ⟨⟨r1, r2⟩, r3⟩ := hr
  refine ⟨fun q => ?_, fun q => ?_, fun q => ?_, fun q => ?_⟩
  · rcases hw with hw | hw
    · rw [q] at hw; cases hw
    · exact bl_in hw hN
  · rcases r1 with r1 | r1
    · simp at r1; omega
    · exact bl_in r1 hN
  · rcases r2 with r2 | r2
    · simp at r2; omega
    · exact bl_in r2 hN
  · intro r hr
    rcases r3 with r3 | r3
    · simp at r3; omega
    · exact bl_in (List.all_eq_true.1 r3 r hr) hN
theorem rgp_of {c : PC} {k : Nat} {f : PF} {p : PP} {N : Int} (h : ptP c k f p = true) (hN : f.regs ≤ N) : RgP N p := by
  unfold ptP at h
  simp only [Bool.and_eq_true] at h
  refine ⟨fun x hx => inr_of (List.all_eq_true.1 h.2 x hx) hN, fun hc => ?_⟩
  have he := h.1
  unfold endP at he
  split at he
  · exact bl_in he hN
  · split at he
    · omega
    · simp only [Bool.and_eq_true] at he
      exact bl_in he.1 hN
theorem rgc_of {c : PC} (hv : ∀ (k : Nat) (f : PF), c.fns[k]? = some f → fnP c k f = true) {N : Int} (hN : ∀ f ∈ c.fns, f.regs ≤ N) : RgC N c := fun f hf p hp => by
  obtain ⟨k, hk⟩ := List.mem_iff_getElem?.1 hf
  have := hv k f hk
  unfold fnP at this
  simp only [Bool.and_eq_true] at this
  exact rgp_of (List.all_eq_true.1 this.2 p hp) (hN f hf)
theorem rgc_ev {a c : PC} (h : EvC a c) {N : Int} (hc : RgC N c) : RgC N a := fun f hf p hp => by
  obtain ⟨g, hg, e⟩ := evl_mem h.fns hf
  obtain ⟨q, hq, e2⟩ := evl_mem e.parts hp
  obtain ⟨h1, h2⟩ := hc g hg q hq
  refine ⟨fun x hx => ?_, fun hc => by rw [e2.cond] at hc ⊢; exact h2 hc⟩
  obtain ⟨y, hy, e3⟩ := evl_mem e2.ins hx
  have h3 := h1 y hy
  exact ⟨fun q => by rw [e3.op] at q; rw [e3.dst]; exact h3.dst q, fun q => by rw [e3.op] at q; rw [e3.a]; exact h3.a q, fun q => by rw [e3.op] at q; rw [e3.b]; exact h3.b q, fun q => by rw [e3.op] at q; rw [e3.args]; exact h3.args q⟩

/-! ### Sizes -/
def cntP (l : List PP) : Nat := (l.map fun p => p.ins.length).sum
def cntF (l : List PF) : Nat := (l.map fun f => cntP f.parts).sum
theorem cntP_drop {l : List PP} {i : Nat} {p : PP} (h : l[i]? = some p) : cntP (l.drop i) = p.ins.length + cntP (l.drop (i + 1)) := by
  obtain ⟨hl, e⟩ := List.getElem?_eq_some_iff.1 h
  rw [List.drop_eq_getElem_cons hl, e]
  simp [cntP]
theorem cntF_drop {l : List PF} {i : Nat} {f : PF} (h : l[i]? = some f) : cntF (l.drop i) = cntP f.parts + cntF (l.drop (i + 1)) := by
  obtain ⟨hl, e⟩ := List.getElem?_eq_some_iff.1 h
  rw [List.drop_eq_getElem_cons hl, e]
  simp [cntF]
theorem ev_cntP : ∀ (l m : List PP), EvL EvP l m → cntP l = cntP m
  | [], [], _ => rfl
  | [], y :: m, h => by have := h.len; simp at this
  | x :: l, [], h => by have := h.len; simp at this
  | x :: l, y :: m, h => by
    obtain ⟨h1, h2⟩ := evl_head h
    have := ev_cntP l m h2
    simp only [cntP, List.map_cons, List.sum_cons] at this ⊢
    rw [this, h1.ins.len]
theorem ev_cntF : ∀ (l m : List PF), EvL EvF l m → cntF l = cntF m
  | [], [], _ => rfl
  | [], y :: m, h => by have := h.len; simp at this
  | x :: l, [], h => by have := h.len; simp at this
  | x :: l, y :: m, h => by
    obtain ⟨h1, h2⟩ := evl_head h
    have := ev_cntF l m h2
    simp only [cntF, List.map_cons, List.sum_cons] at this ⊢
    rw [this, ev_cntP _ _ h1.parts]
theorem cntP_le (l : List PP) : (cntP l : Int) ≤ (l.map partN).sum := by
  induction l with
  | nil => simp [cntP]
  | cons p l ih =>
    simp only [cntP, List.map_cons, List.sum_cons, partN] at ih ⊢
    omega
theorem cntF_le (l : List PF) : (cntF l : Int) ≤ (l.map fnN).sum := by
  induction l with
  | nil => simp [cntF]
  | cons f l ih =>
    have := cntP_le f.parts
    simp only [cntF, List.map_cons, List.sum_cons, fnN] at ih ⊢
    omega
theorem cnt_code (c : PC) : (cntF c.fns : Int) ≤ codeN c := cntF_le c.fns
theorem len_cntP {l : List PP} {p : PP} (h : p ∈ l) : p.ins.length ≤ cntP l := by
  induction l with
  | nil => simp at h
  | cons q l ih =>
    simp only [cntP, List.map_cons, List.sum_cons] at ih ⊢
    rcases List.mem_cons.1 h with e | e
    · subst e; omega
    · have := ih e; omega

/-- What comes of a part is like it. -/
theorem alp_of {N : Int} {fault : Bool} {p : PP} (h : RgP N p) (hN : N ≤ 9223372036854775807) (hc : I64 p.cond) : Alp p (propP fault p) := by
  have hlk : ∀ (l P : List PI) (k : Nat) (y : PI), (propL fault P l)[k]? = some y → ∃ x, l[k]? = some x ∧ Alk x y := fun l => by
    induction l with
    | nil => intro P k y hy; simp [propL] at hy
    | cons x l ih =>
      intro P k y hy
      simp only [propL] at hy
      cases k with
      | zero => simp at hy; subst hy; exact ⟨x, rfl, Alk.of_read _ _⟩
      | succ k => simp at hy; obtain ⟨z, hz, a⟩ := ih _ k y hy; exact ⟨z, by simpa using hz, a⟩
  refine ⟨rfl, rfl, rfl, rfl, rfl, propL_len _ _ _, fun b hb => ?_, ?_⟩
  · rcases hb with hb | ⟨y, hy, hb⟩
    · exact Or.inl ⟨fun e => hb.1 (by show propL fault [] p.ins = []; rw [e]; rfl), hb.2⟩
    · obtain ⟨k, hk⟩ := List.mem_iff_getElem?.1 hy
      obtain ⟨x, hx, a⟩ := hlk p.ins [] k y hk
      exact Or.inr ⟨x, List.mem_of_getElem? hx, a.aaB hb⟩
  · show I64 (if 0 ≤ p.cond then src fault (propL fault [] p.ins) p.cond else p.cond)
    split
    · rename_i h0
      have hin : ∀ (l P : List PI), (∀ i ∈ P, InR N i) → (∀ i ∈ l, InR N i) → ∀ i ∈ propL fault P l, InR N i := fun l => by
        induction l with
        | nil => intro P _ _ i hi; simp [propL] at hi
        | cons x l ih =>
          intro P hP hl i hi
          have h1 : InR N (readI (src fault P) x) := (hl x (List.mem_cons_self ..)).read fun r hr => src_in hP hr
          simp only [propL] at hi
          rcases List.mem_cons.1 hi with e | e
          · subst e; exact h1
          · exact ih _ (fun z hz => by rcases List.mem_append.1 hz with q | q; exact hP z q; simp at q; subst q; exact h1) (fun z hz => hl z (List.mem_cons_of_mem _ hz)) i e
      exact i64_in (src_in (hin p.ins [] (fun i hi => by simp at hi) h.1) (h.2 h0)) hN
    · exact hc

end Go.Proofs.Ytipmbamcldlmeaa.Pp

namespace Go.Proofs.Ytipmbamcldlmeaa.Pp
open Go.RowKit
set_option linter.unusedVariables false

set_option maxRecDepth 100000 in
set_option maxHeartbeats 2000000 in
theorem most_any (w : World) (c : PC) (M : Nat) (hcok : c.ok w) (hM : ∀ f ∈ c.fns, f.regs ≤ M) : Calls Try.prog 23 #[c.v] w fun e w' => ∃ N : Nat, e = .returned (.int .i64 (N : Int)) ∧ N ≤ M ∧ (∀ f ∈ c.fns, f.regs ≤ N) ∧ Q w w' := by
  have HF := hideIt (fun X (h : Q (bxC w c) X) => Fns.keep ((bxC_q w c).trans h) hcok.fns)
  have HB := hideIt (fun X (h : Q (bxC w c) X) => (bxC_at h).three)
  have hlen : c.fns.length ≤ 9223372036854775807 := hcok.fsok.len
  have HM := hideIt hM
  have HQ := hideIt (bxC_q w c)
  generalize hBB : bxC w c = B at *
  have HBB := hideIt hBB
  clear hcok hM hBB
  go_enter Try.func23, Try.ntmps23
  go_wp2_with (fail)
  rw [show w.alloc (.cells #[.slice c.ga c.gl.length c.gc, .slice c.na c.ini.length c.nc, .slice c.fa c.fns.length c.fc] 26) = B from HBB.out]
  obtain ⟨b0, b1, b2⟩ := HB.out B (Q.refl _)
  go_wp2_with (fail)
  clear b0 b1 b2
  go_loopw [3, 5, 9] (fun mv d5 iv w9 => ∃ (N i : Nat), mv = .int .i64 (N : Int) ∧ iv = .int .i64 (i : Int) ∧ i ≤ c.fns.length ∧ Hid (N ≤ M ∧ (∀ (j : Nat) (f : PF), j < i → c.fns[j]? = some f → f.regs ≤ N) ∧ Q B w9)) (fun _ _ iv _ => c.fns.length - (intOf iv).toNat)
  case atStart => exact ⟨0, 0, rfl, rfl, by omega, Nat.zero_le _, fun j f h => by omega, Q.refl _⟩
  case round =>
    obtain ⟨N, i, rfl, rfl, hi, HI⟩ := hrel
    generalize wr = w1 at *
    by_cases hlt : i < c.fns.length
    · obtain ⟨f, hf⟩ := get_of_lt hlt
      obtain ⟨fb, fo, efa, hfat, -⟩ := HF.out w1 HI.out.2.2 i f hf
      obtain ⟨f0, f1, f2, f3⟩ := hfat.four
      have hil : (i : Int) < (c.fns.length : Int) := by omega
      have hfM := HM.out f (List.mem_of_getElem? hf)
      have QA : Hid (Q B (w1.alloc (.cells #[.int .i64 f.params, .int .i64 f.regs, .slice f.sa f.slots.length f.sc, .slice f.pa f.parts.length f.pc] 44))) := HI.out.2.2.alloc _
      have FF := hideIt hf
      rw [show (Value.slice c.fa c.fns.length c.fc) = .slice (some ⟨fb, fo, none⟩) c.fns.length c.fc by rw [efa]]
      clear hf hfat efa
      go_wp2_with (fail)
      refine ⟨⟨if (N : Int) < f.regs then f.regs.toNat else N, i + 1, ?_, by go_num, by omega, ?_, fun j g hj hg => ?_, QA.out⟩, by simp [intOf]; omega⟩
      · split
        · rw [Int.toNat_of_nonneg (by omega)]
        · rfl
      · split
        · omega
        · exact HI.out.1
      · by_cases e : j = i
        · subst e
          rw [FF.out] at hg
          injection hg with hg
          subst hg
          split <;> omega
        · have := HI.out.2.1 j g (by omega) hg
          split <;> omega
    · have hil : ¬ (i : Int) < (c.fns.length : Int) := by omega
      go_wp2_with (fail)
      go_ret
      refine ⟨N, rfl, HI.out.1, fun f hf => ?_, HQ.out.trans HI.out.2.2⟩
      obtain ⟨j, hj⟩ := List.mem_iff_getElem?.1 hf
      exact HI.out.2.1 j f (by have := (List.getElem?_eq_some_iff.1 hj).1; omega) hj

abbrev zeroC : Array Value := #[.slice none 0 0, .slice none 0 0, .slice none 0 0]
abbrev bxZ (w : World) : World := w.alloc (.cells zeroC 26)
theorem bz_out (w : World) (c : PC) : (bxZ (bxC w c)).heap[w.heap.size + 1]? = some (.cells zeroC 26 (0, 0)) := by
  have := heap_alloc_new (bxC w c) (.cells zeroC 26)
  simpa using this
theorem bz_code (w : World) (c : PC) : (bxZ (bxC w c)).heap[w.heap.size]? = some (.cells #[.slice c.ga c.gl.length c.gc, .slice c.na c.ini.length c.nc, .slice c.fa c.fns.length c.fc] 26 (0, 0)) := by
  rw [Below.heap_alloc _ _ _ (by simp)]
  exact heap_alloc_new w _

set_option maxRecDepth 100000 in
theorem run_bad (w : World) (c : PC) (fault : Bool) (hcok : c.ok w) (hv : ¬ validP c = 0) : Calls Try.prog 9 #[c.v, .bool fault] w fun e w' => e = .returned (.tuple #[.agg zeroC, .int .i64 (validP c)]) ∧ Q w w' := by
  have VA := hideIt (valid_any (bxZ (bxC w c)) c (hcok.keep (((Q.refl w).alloc _).alloc _)))
  have B1 := hideIt (bz_out w c)
  have d2 : (validP c != 0) = true := by simpa using hv
  generalize validP c = v at *
  clear hcok hv
  go_enter Try.func9, Try.ntmps9
  go_wp2_with (first | (go_at_call 21; refine VA.out.mono ?_; rintro e x ⟨rfl, q⟩; have HQ := hideIt q; have b1 := (q.block (w.heap.size + 1) (by simp)).trans B1.out; have v0 := cell_of_block b1 0; have v1 := cell_of_block b1 1; have v2 := cell_of_block b1 2; have f0 := fun j : Nat => free_of_block b1 j; clear q b1) | fail)
  exact bodyPost_ret (v := .tuple #[.agg zeroC, .int .i64 v]) (by simp [results, Try.results9, go_sem, v0, v1, v2]) rfl ⟨rfl, by
    have hq := (((Q.refl w).alloc _).alloc _).trans HQ.out
    have hle : w.heap.size ≤ w.heap.size + 1 := Nat.le_succ _
    exact ((hq.set hle _).set hle _).set hle _⟩

end Go.Proofs.Ytipmbamcldlmeaa.Pp
