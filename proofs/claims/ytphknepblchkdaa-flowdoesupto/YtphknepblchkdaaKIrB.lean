/-
 What code of layer 13 is in memory: plain instructions, parts, functions, where their lists lie, and how an argument opens into them; facts on worlds and readings alone; no conditions but those that each fact bears.
 An argument that is an instruction, or code, opens; the least functions of layer 13 and of the document's answer for it: contracts over the program, for every number.
-/
import Derived.Test.YtphknepblchkdaaChecked
import Derived.WalkKit
import Derived.WalkSpells
import Derived.WalkLawsBesides
import Derived.OpenShut
import Derived.Deep.Slices
import Derived.Below
import Derived.SizedLaws
namespace Go.Proofs.Ytphknepblchkdaa
open Go.RowKit Go.Deep
set_option linter.unusedVariables false

theorem hideIt {q : Prop} (h : q) : Hid q := h
abbrev Q (w w' : World) : Prop := Below w.heap.size w w'
theorem Q.refl (w : World) : Q w w := Below.refl _ _
theorem Q.trans {a b c : World} (h : Q a b) (k : Q b c) : Q a c := Below.trans h (Below.mono k h.size)
theorem Q.alloc {a w : World} (h : Q a w) (o : Obj) : Q a (w.alloc o) := Below.alloc h h.size o
theorem Q.drew {a w : World} (h : Q a w) : Q a w.drew := Below.drew h
theorem Q.set {a w : World} (h : Q a w) {p : Addr} (hp : a.heap.size ≤ p.block) (u : Value) : Q a (w.setCell p u) := Below.setCell h hp u

/-- An instruction. -/
structure PI where
 op : Int
 ty : Int
 dst : Int
 a : Int
 b : Int
 imm : Int
 args : List Int
 aa : Option Addr
 ac : Nat
/-- A part. -/
structure PP where
 ins : List PI
 e : Bool
 cond : Int
 next : Int
 els : Int
 ia : Option Addr
 ic : Nat
/-- A function. -/
structure PF where
 params : Int
 regs : Int
 slots : List Int
 parts : List PP
 sa : Option Addr
 sc : Nat
 pa : Option Addr
 pc : Nat
/-- Code. -/
structure PC where
 gl : List Int
 ini : List Int
 fns : List PF
 ga : Option Addr
 gc : Nat
 na : Option Addr
 nc : Nat
 fa : Option Addr
 fc : Nat

def I64 (z : Int) : Prop := -9223372036854775808 ≤ z ∧ z ≤ 9223372036854775807
def sok (z : Nat) (a : Option Addr) (n c : Nat) : Prop := n ≤ c ∧ c ≤ maxLen ∧ (a = none → c = 0) ∧ n * z ≤ 140737488351232
theorem sok.len {z : Nat} {a : Option Addr} {n c : Nat} (h : sok z a n c) : n ≤ 9223372036854775807 := by have := h.1; have := h.2.1; unfold maxLen at this; omega

def At (w : World) (b o : Nat) (cs : List Value) : Prop := ∀ j, j < cs.length → w.cell? ⟨b, o + j, none⟩ = cs[j]?
theorem At.cell {w : World} {b o : Nat} {cs : List Value} (h : At w b o cs) (j : Nat) (u : Value) (hj : cs[j]? = some u) : w.cell? ⟨b, o + j, none⟩ = some u := by
 obtain ⟨hlt, _⟩ := List.getElem?_eq_some_iff.1 hj
 rw [h j hlt, hj]
theorem cell_keep {w w' : World} (hb : Q w w') {p : Addr} {u : Value} (h : w.cell? p = some u) : w'.cell? p = some u :=
 (hb.cell (p := p) (World.block_lt_of_cell? w _ h)).trans h
theorem At.keep {w w' : World} {b o : Nat} {cs : List Value} (h : At w b o cs) (hb : Q w w') : At w' b o cs := fun j hj => by
 have hj' := h j hj
 obtain ⟨u, hu⟩ : ∃ u, cs[j]? = some u := ⟨cs[j], List.getElem?_eq_getElem hj⟩
 rw [hu] at hj' ⊢
 exact cell_keep hb hj'

/-- A list lies from a on, sz cells each; P says what an element is there. -/
def Lst {α : Type} (sz : Nat) (P : Nat → Nat → α → Prop) (a : Option Addr) (l : List α) : Prop := ∀ k x, l[k]? = some x → ∃ b o, a = some ⟨b, o, none⟩ ∧ P b (o + k * sz) x
theorem Lst.mono {α : Type} {sz : Nat} {P R : Nat → Nat → α → Prop} {a : Option Addr} {l : List α} (h : Lst sz P a l) (hm : ∀ b o x, P b o x → R b o x) : Lst sz R a l := fun k x e => by
 obtain ⟨b, o, ea, hp⟩ := h k x e
 exact ⟨b, o, ea, hm _ _ _ hp⟩

def IntAt (w : World) (b o : Nat) (x : Int) : Prop := w.cell? ⟨b, o, none⟩ = some (.int .i64 x) ∧ I64 x
abbrev Ints (w : World) (a : Option Addr) (l : List Int) : Prop := Lst 1 (IntAt w) a l
theorem Ints.keep {w w' : World} (hb : Q w w') {a : Option Addr} {l : List Int} (h : Ints w a l) : Ints w' a l := h.mono fun _ _ _ hp => ⟨cell_keep hb hp.1, hp.2⟩

def PI.cells (x : PI) : List Value := [.int .u8 x.op, .int .u8 x.ty, .int .i64 x.dst, .int .i64 x.a, .int .i64 x.b, .int .i64 x.imm, .slice x.aa x.args.length x.ac]
abbrev PI.v (x : PI) : Value := .agg #[.int .u8 x.op, .int .u8 x.ty, .int .i64 x.dst, .int .i64 x.a, .int .i64 x.b, .int .i64 x.imm, .slice x.aa x.args.length x.ac]
structure PI.ok (w : World) (x : PI) : Prop where
 op : 0 ≤ x.op ∧ x.op ≤ 255
 ty : 0 ≤ x.ty ∧ x.ty ≤ 255
 dst : I64 x.dst
 a : I64 x.a
 b : I64 x.b
 imm : I64 x.imm
 sok : sok 8 x.aa x.args.length x.ac
 args : Ints w x.aa x.args
theorem PI.ok.keep {w w' : World} (hb : Q w w') {x : PI} (h : x.ok w) : x.ok w' := ⟨h.op, h.ty, h.dst, h.a, h.b, h.imm, h.sok, h.args.keep hb⟩
def InsAt (w : World) (b o : Nat) (x : PI) : Prop := At w b o x.cells ∧ x.ok w
abbrev Insts (w : World) (a : Option Addr) (l : List PI) : Prop := Lst 7 (InsAt w) a l
theorem InsAt.keep {w w' : World} (hb : Q w w') {b o : Nat} {x : PI} (h : InsAt w b o x) : InsAt w' b o x := ⟨h.1.keep hb, h.2.keep hb⟩
theorem Insts.keep {w w' : World} (hb : Q w w') {a : Option Addr} {l : List PI} (h : Insts w a l) : Insts w' a l := h.mono fun _ _ _ hp => InsAt.keep hb hp
theorem At.seven {w : World} {b o : Nat} {x : PI} (h : At w b o x.cells) : w.cell? ⟨b, o, none⟩ = some (.int .u8 x.op) ∧ w.cell? ⟨b, o + 1, none⟩ = some (.int .u8 x.ty) ∧ w.cell? ⟨b, o + 2, none⟩ = some (.int .i64 x.dst) ∧ w.cell? ⟨b, o + 3, none⟩ = some (.int .i64 x.a) ∧ w.cell? ⟨b, o + 4, none⟩ = some (.int .i64 x.b) ∧ w.cell? ⟨b, o + 5, none⟩ = some (.int .i64 x.imm) ∧ w.cell? ⟨b, o + 6, none⟩ = some (.slice x.aa x.args.length x.ac) :=
 ⟨h.cell 0 _ rfl, h.cell 1 _ rfl, h.cell 2 _ rfl, h.cell 3 _ rfl, h.cell 4 _ rfl, h.cell 5 _ rfl, h.cell 6 _ rfl⟩

def PP.cells (x : PP) : List Value := [.slice x.ia x.ins.length x.ic, .bool x.e, .int .i64 x.cond, .int .i64 x.next, .int .i64 x.els]
abbrev PP.v (x : PP) : Value := .agg #[.slice x.ia x.ins.length x.ic, .bool x.e, .int .i64 x.cond, .int .i64 x.next, .int .i64 x.els]
structure PP.ok (w : World) (x : PP) : Prop where
 cond : I64 x.cond
 next : I64 x.next
 els : I64 x.els
 sok : sok 64 x.ia x.ins.length x.ic
 ins : Insts w x.ia x.ins
theorem PP.ok.keep {w w' : World} (hb : Q w w') {x : PP} (h : x.ok w) : x.ok w' := ⟨h.cond, h.next, h.els, h.sok, h.ins.keep hb⟩
def PrtAt (w : World) (b o : Nat) (x : PP) : Prop := At w b o x.cells ∧ x.ok w
abbrev Prts (w : World) (a : Option Addr) (l : List PP) : Prop := Lst 5 (PrtAt w) a l
theorem PrtAt.keep {w w' : World} (hb : Q w w') {b o : Nat} {x : PP} (h : PrtAt w b o x) : PrtAt w' b o x := ⟨h.1.keep hb, h.2.keep hb⟩
theorem Prts.keep {w w' : World} (hb : Q w w') {a : Option Addr} {l : List PP} (h : Prts w a l) : Prts w' a l := h.mono fun _ _ _ hp => PrtAt.keep hb hp
theorem At.five {w : World} {b o : Nat} {x : PP} (h : At w b o x.cells) : w.cell? ⟨b, o, none⟩ = some (.slice x.ia x.ins.length x.ic) ∧ w.cell? ⟨b, o + 1, none⟩ = some (.bool x.e) ∧ w.cell? ⟨b, o + 2, none⟩ = some (.int .i64 x.cond) ∧ w.cell? ⟨b, o + 3, none⟩ = some (.int .i64 x.next) ∧ w.cell? ⟨b, o + 4, none⟩ = some (.int .i64 x.els) :=
 ⟨h.cell 0 _ rfl, h.cell 1 _ rfl, h.cell 2 _ rfl, h.cell 3 _ rfl, h.cell 4 _ rfl⟩

def PF.cells (x : PF) : List Value := [.int .i64 x.params, .int .i64 x.regs, .slice x.sa x.slots.length x.sc, .slice x.pa x.parts.length x.pc]
abbrev PF.v (x : PF) : Value := .agg #[.int .i64 x.params, .int .i64 x.regs, .slice x.sa x.slots.length x.sc, .slice x.pa x.parts.length x.pc]
structure PF.ok (w : World) (x : PF) : Prop where
 params : I64 x.params
 regs : I64 x.regs
 ssok : sok 8 x.sa x.slots.length x.sc
 slots : Ints w x.sa x.slots
 psok : sok 56 x.pa x.parts.length x.pc
 parts : Prts w x.pa x.parts
theorem PF.ok.keep {w w' : World} (hb : Q w w') {x : PF} (h : x.ok w) : x.ok w' := ⟨h.params, h.regs, h.ssok, h.slots.keep hb, h.psok, h.parts.keep hb⟩
def FnAt (w : World) (b o : Nat) (x : PF) : Prop := At w b o x.cells ∧ x.ok w
abbrev Fns (w : World) (a : Option Addr) (l : List PF) : Prop := Lst 4 (FnAt w) a l
theorem FnAt.keep {w w' : World} (hb : Q w w') {b o : Nat} {x : PF} (h : FnAt w b o x) : FnAt w' b o x := ⟨h.1.keep hb, h.2.keep hb⟩
theorem Fns.keep {w w' : World} (hb : Q w w') {a : Option Addr} {l : List PF} (h : Fns w a l) : Fns w' a l := h.mono fun _ _ _ hp => FnAt.keep hb hp
theorem At.four {w : World} {b o : Nat} {x : PF} (h : At w b o x.cells) : w.cell? ⟨b, o, none⟩ = some (.int .i64 x.params) ∧ w.cell? ⟨b, o + 1, none⟩ = some (.int .i64 x.regs) ∧ w.cell? ⟨b, o + 2, none⟩ = some (.slice x.sa x.slots.length x.sc) ∧ w.cell? ⟨b, o + 3, none⟩ = some (.slice x.pa x.parts.length x.pc) :=
 ⟨h.cell 0 _ rfl, h.cell 1 _ rfl, h.cell 2 _ rfl, h.cell 3 _ rfl⟩

def PC.cells (x : PC) : List Value := [.slice x.ga x.gl.length x.gc, .slice x.na x.ini.length x.nc, .slice x.fa x.fns.length x.fc]
abbrev PC.v (x : PC) : Value := .agg #[.slice x.ga x.gl.length x.gc, .slice x.na x.ini.length x.nc, .slice x.fa x.fns.length x.fc]
structure PC.ok (w : World) (x : PC) : Prop where
 gsok : sok 8 x.ga x.gl.length x.gc
 gl : Ints w x.ga x.gl
 nsok : sok 8 x.na x.ini.length x.nc
 ini : Ints w x.na x.ini
 fsok : sok 64 x.fa x.fns.length x.fc
 fns : Fns w x.fa x.fns
theorem PC.ok.keep {w w' : World} (hb : Q w w') {x : PC} (h : x.ok w) : x.ok w' := ⟨h.gsok, h.gl.keep hb, h.nsok, h.ini.keep hb, h.fsok, h.fns.keep hb⟩
theorem At.three {w : World} {b o : Nat} {x : PC} (h : At w b o x.cells) : w.cell? ⟨b, o, none⟩ = some (.slice x.ga x.gl.length x.gc) ∧ w.cell? ⟨b, o + 1, none⟩ = some (.slice x.na x.ini.length x.nc) ∧ w.cell? ⟨b, o + 2, none⟩ = some (.slice x.fa x.fns.length x.fc) :=
 ⟨h.cell 0 _ rfl, h.cell 1 _ rfl, h.cell 2 _ rfl⟩

/-! ### boxes -/
theorem cell_box {X : World} (cs : Array Value) (t : TypeId) (j : Nat) : (X.alloc (.cells cs t)).cell? ⟨X.heap.size, j, none⟩ = cs[j]? := by
 have h : (X.alloc (.cells cs t (0, 0))).heap[X.heap.size]? = some (.cells cs t (0, 0)) := heap_alloc_new X _
 unfold World.cell?
 rw [h]
 rfl
theorem At.box {X w' : World} {cs : Array Value} {t : TypeId} (h : Q (X.alloc (.cells cs t)) w') : At w' X.heap.size 0 cs.toList := fun j hj => by
 have e : (X.alloc (.cells cs t)).cell? ⟨X.heap.size, 0 + j, none⟩ = cs.toList[j]? := by rw [cell_box]; simp
 obtain ⟨u, hu⟩ : ∃ u, cs.toList[j]? = some u := ⟨cs.toList[j], List.getElem?_eq_getElem hj⟩
 rw [hu] at e ⊢
 exact cell_keep h e

/-! ### An argument opens -/
variable {H : Type} {enc : TypeId × Value → H} {w : World} {base : Nat} {spare : Nat → Bool} {held : Bool}

theorem wf8 {z : Int} (h : (Lit.int .u8 z).wf = true) : 0 ≤ z ∧ z ≤ 255 := by
 simpa [Lit.wf, IntKind.min, IntKind.max, IntKind.signed, IntKind.bits] using h
theorem wf64 {z : Int} (h : (Lit.int .i64 z).wf = true) : I64 z := by
 simpa [I64, Lit.wf, IntKind.min, IntKind.max, IntKind.signed, IntKind.bits] using h

theorem Lst.build {α : Type} {sz : Nat} {P : Nat → Nat → α → Prop} (n : Nat) {b o : Nat} (h : ∀ i, i < n → ∃ x, P b (o + i * sz) x) : ∃ l : List α, l.length = n ∧ Lst sz P (some ⟨b, o, none⟩) l := by
 classical
 obtain ⟨f, hf⟩ := Classical.skolem.1 (fun i : Fin n => h i.1 i.2)
 refine ⟨List.ofFn f, by simp, fun k x e => ⟨b, o, rfl, ?_⟩⟩
 obtain ⟨hk, e'⟩ := List.getElem?_eq_some_iff.1 e
 simp at hk e'
 subst e'
 exact hf ⟨k, hk⟩

def Light {H : Type} (t : TypeId) (d : DataW H) : Prop := ∀ n ∈ d.weights Try.prog t, n ≤ reachBytes
theorem weights_mem_all {e : TypeId} : ∀ {ds : List (DataW H)} {j : Nat} {d : DataW H}, ds[j]? = some d → ∀ n ∈ d.weights Try.prog e, n ∈ DataW.weightsAll Try.prog e ds
 | d0 :: ds, 0, d, hd, n, hn => by
  simp only [List.getElem?_cons_zero, Option.some.injEq] at hd
  subst hd
  simp only [DataW.weightsAll, List.mem_append]
  exact Or.inl hn
 | d0 :: ds, j + 1, d, hd, n, hn => by
  simp only [List.getElem?_cons_succ] at hd
  simp only [DataW.weightsAll, List.mem_append]
  exact Or.inr (weights_mem_all hd n hn)
 | [], _, _, hd, _, _ => by simp at hd
theorem Light.part {t : TypeId} {fs : Array Field} (hu : Try.prog.underlying t = some (.struct fs)) {xs : List (DataW H × List MemPlace)} {ps : List MemPlace} (h : Light t (DataW.agg (xs.map (·.1)))) {j : Nat} {f : Field} {y : DataW H × List MemPlace} (hf : fs[j]? = some f) (hy : xs[j]? = some y) : Light f.type y.1 := fun n hn => by
 refine h n ?_
 simp only [DataW.weights, hu]
 exact DataW.weights_mem_each (j := j) (by simp [hf]) (by simp [hy]) n hn

theorem open_lst {α : Type} {P : Nat → Nat → α → Prop} {t et : TypeId} {sz : Nat} (hu : Try.prog.underlying t = some (.slice et)) (hc : Try.prog.cellsOf et = sz + 1) {bz : Nat} (hbz : Try.prog.bytesOf et = bz) {fuel : Nat} {u : Value} {x : DataW H × List MemPlace}
  (h : DataW.trod enc Try.prog w base spare held fuel t [u] = some x) (hw : Light t x.1)
  (each : ∀ (n : Nat) (cs : List Value) (y : DataW H × List MemPlace) (b o : Nat), n < fuel → DataW.trod enc Try.prog w base spare held n et cs = some y → Light et y.1 → At w b o cs → ∃ x, P b o x) :
  ∃ a c l, u = .slice a (List.length l) c ∧ sok bz a l.length c ∧ Lst (sz + 1) P a l := by
 rcases DataW.trod_slice hu h with ⟨h0, _⟩ | ⟨a, len, cap, elems, rest, n, hn, h0, rfl, hb, hl, hm, hlen, hel, _, _⟩
 ·simp at h0
  exact ⟨none, 0, [], h0, ⟨Nat.zero_le _, by decide, fun _ => rfl, by simp⟩, fun k x e => by simp at e⟩
 ·simp at h0
  subst h0
  subst hn
  rw [hc] at hel
  have hwl : len * bz ≤ 140737488351232 := by
   have := hw ((elems.length + rest.length) * Try.prog.bytesOf et) (by simp [DataW.weights, hu])
   rw [hbz, hlen] at this
   refine Nat.le_trans (Nat.mul_le_mul_right bz (Nat.le_add_right len rest.length)) ?_
   simpa [reachBytes] using this
  have hwe : ∀ (i : Nat) (y : DataW H × List MemPlace), elems[i]? = some y → Light et y.1 := fun i y hy n hn => by
   refine hw n ?_
   simp only [DataW.weights, hu]
   exact List.mem_cons_of_mem _ (List.mem_append_left _ (weights_mem_all (j := i) (d := y.1) (by simp [hy]) n hn))
  have each' : ∀ i, i < len → (a.add (i * (sz + 1))).spot = none ∧ ∃ x, P a.block (a.add (i * (sz + 1))).off x := by
   intro i hi
   have := hel i hi
   rw [List.getElem?_eq_getElem (by omega), Option.bind_eq_some_iff] at this
   obtain ⟨cs, hcs, ht⟩ := this
   have hbl : (a.add (i * (sz + 1))).block = a.block := by unfold Addr.add; split <;> rfl
   obtain ⟨_, hl', hc'⟩ := World.cells?_some hcs
   have h0 := hc' 0 (by omega)
   obtain ⟨u0, hu0⟩ : ∃ u, cs[0]? = some u := ⟨cs[0]'(by omega), List.getElem?_eq_getElem (by omega)⟩
   have hs : (a.add (i * (sz + 1))).spot = none := by
    rw [hu0] at h0
    refine World.cell?_spot (w := w) (v := u0) ?_
    simpa [Addr.add] using h0
   refine ⟨hs, ?_⟩
   rw [← hbl]
   refine each _ cs _ _ _ (by omega) ht (hwe i _ (List.getElem?_eq_getElem (by omega))) ?_
   intro j hj
   have hj' := hc' j (by omega)
   rw [← hj']
   generalize a.add (i * (sz + 1)) = z at *
   obtain ⟨zb, zo, zs⟩ := z
   dsimp at hs
   subst hs
   by_cases hz : j = 0
   ·subst hz; rfl
   ·simp [Addr.add, hz]
  by_cases hz : len = 0
  ·subst hz
   exact ⟨some a, cap, [], rfl, ⟨hl, hm, (fun h => by cases h), hwl⟩, fun k x e => by simp at e⟩
  ·have hs : a.spot = none := by
    obtain ⟨q, _⟩ := each' 0 (by omega)
    simpa [Addr.add] using q
   obtain ⟨b, o, s⟩ := a
   dsimp at hs
   subst hs
   obtain ⟨l, e, hf⟩ := Lst.build (sz := sz + 1) (P := P) len (b := b) (o := o) (fun i hi => by
    obtain ⟨_, x, q2⟩ := each' i hi
    have ho : ((⟨b, o, none⟩ : Addr).add (i * (sz + 1))).off = o + i * (sz + 1) := by unfold Addr.add; split <;> simp_all
    rw [ho] at q2
    exact ⟨x, q2⟩)
   subst e
   exact ⟨_, cap, l, rfl, ⟨hl, hm, (fun h => by cases h), hwl⟩, hf⟩

end Go.Proofs.Ytphknepblchkdaa

namespace Go.Proofs.Ytphknepblchkdaa
open Go.RowKit Go.Deep
set_option linter.unusedVariables false

variable {H : Type} {enc : TypeId × Value → H} {w : World} {base : Nat} {spare : Nat → Bool} {held : Bool}

theorem Try.cellsInt : Try.prog.cellsOf 3 = 1 := by kernel_rfl
theorem Try.cellsI64 : Try.prog.cellsOf 2 = 1 := by kernel_rfl
theorem Try.cellsU8 : Try.prog.cellsOf 5 = 1 := by kernel_rfl
theorem Try.cellsBool : Try.prog.cellsOf 4 = 1 := by kernel_rfl
theorem Try.cellsInts : Try.prog.cellsOf 22 = 1 := by kernel_rfl
theorem Try.cellsI64s : Try.prog.cellsOf 23 = 1 := by kernel_rfl
theorem Try.cellsInsts : Try.prog.cellsOf 45 = 1 := by kernel_rfl
theorem Try.cellsParts : Try.prog.cellsOf 42 = 1 := by kernel_rfl
theorem Try.cellsFns : Try.prog.cellsOf 24 = 1 := by kernel_rfl
theorem Try.cellsInst : Try.prog.cellsOf 49 = 7 := by kernel_rfl
theorem Try.cellsPart : Try.prog.cellsOf 47 = 5 := by kernel_rfl
theorem Try.cellsFn : Try.prog.cellsOf 44 = 4 := by kernel_rfl
theorem Try.cellsCode : Try.prog.cellsOf 26 = 3 := by kernel_rfl

theorem Try.bytesInt : Try.prog.bytesOf 3 = 8 := by kernel_rfl
theorem Try.bytesI64 : Try.prog.bytesOf 2 = 8 := by kernel_rfl
theorem Try.bytesInst : Try.prog.bytesOf 49 = 64 := by kernel_rfl
theorem Try.bytesPart : Try.prog.bytesOf 47 = 56 := by kernel_rfl
theorem Try.bytesFn : Try.prog.bytesOf 44 = 64 := by kernel_rfl

theorem At.one {cs : List Value} {b o : Nat} {u : Value} (h : At w b o cs) (e : cs = [u]) : w.cell? ⟨b, o, none⟩ = some u := by
 subst e
 exact h.cell 0 _ rfl

theorem open_ints {fuel : Nat} {u : Value} {x : DataW H × List MemPlace} (h : DataW.trod enc Try.prog w base spare held fuel 22 [u] = some x) (hw : Light 22 x.1) : ∃ a c l, u = .slice a (List.length l) c ∧ sok 8 a l.length c ∧ Ints w a l :=
 open_lst Try.underlying22 Try.cellsInt Try.bytesInt h hw fun n cs y b o hn ht hy hat => by
  obtain ⟨z, c, _, wz⟩ := DataW.trod_int Try.underlying3 ht
  exact ⟨z, hat.one c, wf64 wz⟩
theorem open_i64s {fuel : Nat} {u : Value} {x : DataW H × List MemPlace} (h : DataW.trod enc Try.prog w base spare held fuel 23 [u] = some x) (hw : Light 23 x.1) : ∃ a c l, u = .slice a (List.length l) c ∧ sok 8 a l.length c ∧ Ints w a l :=
 open_lst Try.underlying23 Try.cellsI64 Try.bytesI64 h hw fun n cs y b o hn ht hy hat => by
  obtain ⟨z, c, _, wz⟩ := DataW.trod_int Try.underlying2 ht
  exact ⟨z, hat.one c, wf64 wz⟩

set_option maxRecDepth 100000 in
theorem open_inst {fuel : Nat} {cs : List Value} {x : DataW H × List MemPlace} (h : DataW.trod enc Try.prog w base spare held fuel 49 cs = some x) (hw : Light 49 x.1) : ∃ v : PI, cs = v.cells ∧ v.ok w := by
 obtain ⟨xs, n, rfl, rfl, hl, hxl, hf⟩ := DataW.trod_struct Try.underlying49 h
 have hp := @Light.part H 49 _ Try.underlying49 xs [] hw
 rw [Try.cellsInst] at hl
 have g0 : DataW.trod enc Try.prog w base spare held n 5 ((cs.drop 0).take (Try.prog.cellsOf 5)) = xs[0]? := hf 0 _ rfl
 have g1 : DataW.trod enc Try.prog w base spare held n 5 ((cs.drop 1).take (Try.prog.cellsOf 5)) = xs[1]? := hf 1 _ rfl
 have g2 : DataW.trod enc Try.prog w base spare held n 3 ((cs.drop 2).take (Try.prog.cellsOf 3)) = xs[2]? := hf 2 _ rfl
 have g3 : DataW.trod enc Try.prog w base spare held n 3 ((cs.drop 3).take (Try.prog.cellsOf 3)) = xs[3]? := hf 3 _ rfl
 have g4 : DataW.trod enc Try.prog w base spare held n 3 ((cs.drop 4).take (Try.prog.cellsOf 3)) = xs[4]? := hf 4 _ rfl
 have g5 : DataW.trod enc Try.prog w base spare held n 2 ((cs.drop 5).take (Try.prog.cellsOf 2)) = xs[5]? := hf 5 _ rfl
 have g6 : DataW.trod enc Try.prog w base spare held n 22 ((cs.drop 6).take (Try.prog.cellsOf 22)) = xs[6]? := hf 6 _ rfl
 simp only [Try.cellsU8, Try.cellsInt, Try.cellsI64, Try.cellsInts] at g0 g1 g2 g3 g4 g5 g6
 have ex : ∀ i, i < 7 → ∃ y, xs[i]? = some y := fun i hi => ⟨_, List.getElem?_eq_getElem (by rw [hxl]; exact hi)⟩
 obtain ⟨y0, e0⟩ := ex 0 (by decide)
 obtain ⟨y1, e1⟩ := ex 1 (by decide)
 obtain ⟨y2, e2⟩ := ex 2 (by decide)
 obtain ⟨y3, e3⟩ := ex 3 (by decide)
 obtain ⟨y4, e4⟩ := ex 4 (by decide)
 obtain ⟨y5, e5⟩ := ex 5 (by decide)
 obtain ⟨y6, e6⟩ := ex 6 (by decide)
 rw [e0] at g0
 rw [e1] at g1
 rw [e2] at g2
 rw [e3] at g3
 rw [e4] at g4
 rw [e5] at g5
 rw [e6] at g6
 obtain ⟨z0, c0, _, w0⟩ := DataW.trod_int Try.underlying5 g0
 obtain ⟨z1, c1, _, w1⟩ := DataW.trod_int Try.underlying5 g1
 obtain ⟨z2, c2, _, w2⟩ := DataW.trod_int Try.underlying3 g2
 obtain ⟨z3, c3, _, w3⟩ := DataW.trod_int Try.underlying3 g3
 obtain ⟨z4, c4, _, w4⟩ := DataW.trod_int Try.underlying3 g4
 obtain ⟨z5, c5, _, w5⟩ := DataW.trod_int Try.underlying2 g5
 match cs, hl with
 | [a0, a1, a2, a3, a4, a5, a6], _ =>
  simp at c0 c1 c2 c3 c4 c5 g6
  obtain ⟨aa, ac, l, rfl, hs, hi⟩   := open_ints g6 (hp (j := 6) rfl e6)
  subst c0 c1 c2 c3 c4 c5
  exact ⟨⟨z0, z1, z2, z3, z4, z5, l, aa, ac⟩, rfl, ⟨wf8 w0, wf8 w1, wf64 w2, wf64 w3, wf64 w4, wf64 w5, hs, hi⟩⟩

end Go.Proofs.Ytphknepblchkdaa
