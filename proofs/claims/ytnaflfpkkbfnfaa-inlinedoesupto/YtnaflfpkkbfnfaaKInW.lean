/-
  What the program's code of inline answers, as a plain function of code; what right code allows it: plain facts.
  Functions in memory while the calls of one after another are done (Run of inline): facts on worlds; no conditions but those that each fact bears.
  The calls of one function after another are done (Run of inline): what holds on the way; facts on worlds; no conditions but those that each fact bears.
  Code in memory of its own, in whatever order; what comes of the functions, when all of them have been gone through; facts on worlds; the code that is alike: plain facts.
-/
import Derived.Test.YtnaflfpkkbfnfaaKInM
import Derived.Test.YtnaflfpkkbfnfaaKIrZf
import Derived.Test.YtnaflfpkkbfnfaaKInQ
import Derived.Test.YtnaflfpkkbfnfaaKInV
import Derived.Test.YtnaflfpkkbfnfaaKDnO
import Derived.Test.YtnaflfpkkbfnfaaKIrZh
import Derived.Test.YtnaflfpkkbfnfaaKIrZi
namespace Go.Proofs.Ytnaflfpkkbfnfaa.In
open Go.RowKit
set_option linter.unusedVariables false

/-! ### Alike but for where it lies -/
def zC (c : PC) : PC := ⟨c.gl, c.ini, c.fns.map zF, none, 0, none, 0, none, 0⟩
theorem zF_zF (f : PF) : zF (zF f) = zF f := by simp [zF, zP_zP, Function.comp_def]
theorem evl_map {α β : Type} {R : α → α → Prop} {g : α → β} (hR : ∀ x y, R x y → g x = g y) {l m : List α} (h : EvL R l m) : l.map g = m.map g := by
  refine List.ext_getElem? fun k => ?_
  rw [List.getElem?_map, List.getElem?_map]
  cases hx : l[k]? with
  | none =>
    have h1 := List.getElem?_eq_none_iff.1 hx
    rw [List.getElem?_eq_none (by rw [← h.len]; exact h1)]
  | some x =>
    have h1 := (List.getElem?_eq_some_iff.1 hx).1
    obtain ⟨y, hy⟩ := get_of_lt (l := m) (k := k) (by rw [← h.len]; exact h1)
    rw [hy]
    show some (g x) = some (g y)
    rw [hR x y (h.each k x y hx hy)]
theorem map_evl {α β : Type} {R : α → α → Prop} {g : α → β} (hR : ∀ x y, g x = g y → R x y) {l m : List α} (h : l.map g = m.map g) : EvL R l m := by
  refine ⟨by simpa using congrArg List.length h, fun k x y hx hy => hR x y ?_⟩
  have := congrArg (·[k]?) h
  simp only [List.getElem?_map, hx, hy] at this
  simpa using this
theorem evi_z {x y : PI} : EvI x y → zI x = zI y := fun h => by
  obtain ⟨h1, h2, h3, h4, h5, h6, h7⟩ := h
  unfold zI
  rw [h1, h2, h3, h4, h5, h6, h7]
theorem z_evi {x y : PI} (h : zI x = zI y) : EvI x y := by
  unfold zI at h
  injection h with h1 h2 h3 h4 h5 h6 h7
  exact ⟨h1, h2, h3, h4, h5, h6, h7⟩
theorem evp_z {x y : PP} (h : EvP x y) : zP x = zP y := by
  unfold zP
  rw [h.e, h.cond, h.next, h.els, evl_map (g := zI) (fun _ _ => evi_z) h.ins]
theorem z_evp {x y : PP} (h : zP x = zP y) : EvP x y := by
  unfold zP at h
  injection h with h1 h2 h3 h4 h5
  exact ⟨h2, h3, h4, h5, map_evl (fun _ _ => z_evi) h1⟩
theorem evf_z {x y : PF} (h : EvF x y) : zF x = zF y := by
  unfold zF
  rw [h.params, h.regs, h.slots, evl_map (g := zP) (fun _ _ => evp_z) h.parts]
theorem z_evf {x y : PF} (h : zF x = zF y) : EvF x y := by
  unfold zF at h
  injection h with h1 h2 h3 h4
  exact ⟨h1, h2, h3, map_evl (fun _ _ => z_evp) h4⟩
theorem evc_z {a c : PC} (h : EvC a c) : zC a = zC c := by
  unfold zC
  rw [h.gl, h.ini, evl_map (g := zF) (fun _ _ => evf_z) h.fns]
theorem z_evc {a c : PC} (h : zC a = zC c) : EvC a c := by
  unfold zC at h
  injection h with h1 h2 h3
  exact ⟨h1, h2, map_evl (fun _ _ => z_evf) h3⟩

/-! ### What is right hangs on no address -/
theorem insP_z {c d : PC} (hg : d.gl = c.gl) (hp : d.fns.map zF = c.fns.map zF) (k : Nat) {f f' : PF} {x x' : PI} (hf : zF f' = zF f) (hx : zI x' = zI x) : insP d k f' x' = insP c k f x := by
  have e1 := z_evf hf
  have e2 := z_evi hx
  have e3 : f'.slots = f.slots := e1.slots
  have e5 : ∀ j : Nat, (d.fns[j]?).map (fun g : PF => g.params) = (c.fns[j]?).map (fun g : PF => g.params) := fun j => by
    have := congrArg (fun l => (l[j]?).map (fun g : PF => g.params)) hp
    simpa [List.getElem?_map, Function.comp_def, zF] using this
  have e6 : immP d k f' x' = immP c k f x := by
    unfold immP
    rw [e2.op, e2.imm, e2.args, e3, hg]
    have h5 := e5 x.imm.toNat
    cases h1 : d.fns[x.imm.toNat]? with
    | none => cases h2 : c.fns[x.imm.toNat]? with
      | none => rfl
      | some g => rw [h1, h2] at h5; cases h5
    | some g' => cases h2 : c.fns[x.imm.toNat]? with
      | none => rw [h1, h2] at h5; cases h5
      | some g => rw [h1, h2] at h5; simp at h5; dsimp only; rw [h5]
  unfold insP wtP rdsP
  rw [e6, e2.op, e2.ty, e2.dst, e2.a, e2.b, e2.args, e1.regs]
theorem all_z {α β : Type} {g : α → β} {P P' : α → Bool} : ∀ {l m : List α}, l.map g = m.map g → (∀ x y, g x = g y → P' x = P y) → l.all P' = m.all P
  | [], [], _, _ => rfl
  | [], _ :: _, h, _ => by cases h
  | _ :: _, [], h, _ => by cases h
  | x :: l, y :: m, h, hh => by
    rw [List.map_cons, List.map_cons] at h
    injection h with h1 h2
    rw [List.all_cons, List.all_cons, hh x y h1, all_z h2 hh]
theorem len_z {α β : Type} {g : α → β} {l m : List α} (h : l.map g = m.map g) : l.length = m.length := by simpa using congrArg List.length h
theorem endP_z {f f' : PF} {p p' : PP} (hr : f'.regs = f.regs) (hl : f'.parts.length = f.parts.length) (hp : zP p' = zP p) : endP f' p' = endP f p := by
  have e := z_evp hp
  unfold endP
  rw [e.e, e.cond, e.next, e.els, hr, hl]
theorem parts_z {f f' : PF} (hf : zF f' = zF f) : f'.parts.map zP = f.parts.map zP := by
  unfold zF at hf; injection hf
theorem fnP_z {c d : PC} (hg : d.gl = c.gl) (hp : d.fns.map zF = c.fns.map zF) (k : Nat) {f f' : PF} (hf : zF f' = zF f) : fnP d k f' = fnP c k f := by
  have e1 := z_evf hf
  have e2 := parts_z hf
  have e3 := len_z e2
  unfold fnP headP
  rw [e1.params, e1.regs, e1.slots, e3]
  congr 1
  refine all_z e2 fun p' p h => ?_
  unfold ptP
  rw [endP_z e1.regs e3 h]
  congr 1
  have e4 := z_evp h
  exact all_z (by unfold zP at h; injection h) (fun x' x hx => insP_z hg hp k hf hx)

/-! ### What right functions have -/
section
variable {c : PC} {k : Nat} {f : PF} (h : fnP c k f = true)
include h
theorem fn_head : 0 ≤ f.params ∧ f.params ≤ f.regs ∧ f.regs ≤ 20000 ∧ f.parts ≠ [] := by
  unfold fnP headP at h
  simp only [Bool.and_eq_true, Bool.not_eq_true', decide_eq_false_iff_not] at h
  obtain ⟨⟨h1, h2, h3, h4, -⟩, -⟩ := h
  exact ⟨by omega, by omega, by omega, fun e => h4 (by rw [e]; rfl)⟩
theorem fn_part {p : PP} (hp : p ∈ f.parts) : endP f p = true ∧ ∀ x ∈ p.ins, insP c k f x = true := by
  unfold fnP at h
  rw [Bool.and_eq_true, List.all_eq_true] at h
  have := h.2 p hp
  unfold ptP at this
  rw [Bool.and_eq_true, List.all_eq_true] at this
  exact this
theorem fn_end {p : PP} (hp : p ∈ f.parts) : (p.e = true ∨ 0 ≤ p.cond → 0 ≤ p.cond ∧ p.cond < f.regs) ∧ (p.e = false → 0 ≤ p.next ∧ p.next < f.parts.length) ∧ (p.e = false → 0 ≤ p.cond → 0 ≤ p.els ∧ p.els < f.parts.length) := by
  have := (fn_part h hp).1
  unfold endP blP at this
  cases he : p.e with
  | true =>
    rw [he] at this
    simp at this
    exact ⟨fun _ => this, fun q => by simp at q, fun q => by simp at q⟩
  | false =>
    rw [he] at this
    simp only [Bool.false_eq_true, if_false] at this
    split at this
    · simp at this
      exact ⟨fun q => by simp at q; omega, fun _ => this, fun _ q => by omega⟩
    · simp at this
      exact ⟨fun _ => this.1, fun _ => this.2.1, fun _ _ => this.2.2⟩
theorem fn_ins {p : PP} (hp : p ∈ f.parts) {x : PI} (hx : x ∈ p.ins) : (wrP x.op = true → 0 ≤ x.dst ∧ x.dst < f.regs) ∧ (0 < rdP x.op → 0 ≤ x.a ∧ x.a < f.regs) ∧ (1 < rdP x.op → 0 ≤ x.b ∧ x.b < f.regs) ∧ (x.op = 32 → (0 ≤ x.imm ∧ x.imm < k) ∧ ∃ g, c.fns[x.imm.toNat]? = some g ∧ (x.args.length : Int) = g.params) := by
  have := (fn_part h hp).2 x hx
  unfold insP wtP rdsP blP at this
  simp only [Bool.and_eq_true] at this
  obtain ⟨-, -, h3, ⟨⟨h4, h5⟩, -⟩, h7⟩ := this
  refine ⟨fun q => ?_, fun q => ?_, fun q => ?_, fun q => ?_⟩
  · rw [q] at h3; simpa using h3
  · rw [decide_eq_true q] at h4; simpa using h4
  · rw [decide_eq_true q] at h5; simpa using h5
  · unfold immP blP at h7
    rw [q] at h7
    simp only [show ¬ (32 : Int) = 26 by decide, show ¬ (32 : Int) = 27 by decide, show ¬ (32 : Int) = 28 by decide, show ¬ (32 : Int) = 29 by decide, if_false, if_true, Bool.and_eq_true, decide_eq_true_eq] at h7
    refine ⟨h7.1, ?_⟩
    cases hg : c.fns[x.imm.toNat]? with
    | none => rw [hg] at h7; cases h7.2
    | some g => rw [hg] at h7; exact ⟨g, rfl, by simpa using h7.2⟩
end

/-! ### Small functions -/
theorem callsL_zero {l : List PI} (h : callsL l = 0) : ∀ x ∈ l, x.op ≠ 32 := fun x hx e => by
  unfold callsL at h
  have := (List.countP_eq_zero.1 h) x hx
  rw [e] at this
  simp at this
theorem callsP_zero {f : PF} (h : callsP f = 0) : ∀ p ∈ f.parts, ∀ x ∈ p.ins, x.op ≠ 32 := fun p hp => callsL_zero (by
  unfold callsP at h
  have h1 := (List.sum_eq_zero_iff_forall_eq_nat.1 h) (callsL p.ins) (List.mem_map.2 ⟨p, hp, rfl⟩)
  exact h1)
theorem small_has {f : PF} (hs : smallP f = true) : callsP f = 0 ∧ cntS f.parts ≤ 10 ∧ f.regs ≤ 20 ∧ f.slots = [] := by
  unfold smallP at hs
  simp only [Bool.and_eq_true, decide_eq_true_eq, beq_iff_eq] at hs
  obtain ⟨h1, h2, h3, h4⟩ := hs
  rw [cntS_fnN] at h2
  exact ⟨h1, by omega, h3, List.eq_nil_of_length_eq_zero h4⟩
theorem small_rp {c : PC} {k : Nat} {f : PF} (h : fnP c k f = true) (hs : smallP f = true) : f.parts ≠ [] ∧ f.parts.length ≤ 10 ∧ (0 ≤ f.regs ∧ f.regs ≤ 20) ∧ 0 ≤ f.params ∧ ∀ p ∈ f.parts, RP f.parts.length p := by
  obtain ⟨h1, h2, h3, h4⟩ := fn_head h
  obtain ⟨s1, s2, s3, s4⟩ := small_has hs
  have := len_cnt f.parts
  refine ⟨h4, by omega, ⟨by omega, s3⟩, h1, fun p hp => ?_⟩
  obtain ⟨e1, e2, e3⟩ := fn_end h hp
  refine ⟨fun x hx => ?_, fun q => by have := e1 (.inr q); omega, e2, e3⟩
  obtain ⟨i1, i2, i3, -⟩ := fn_ins h hp hx
  have ho := callsP_zero s1 p hp x hx
  refine ⟨ho, fun q => by have := i1 q; omega, fun r hr => ?_⟩
  unfold usesP at hr
  rw [if_neg ho] at hr
  have hc := rdP_le x.op
  obtain e | e | e : rdP x.op = 0 ∨ rdP x.op = 1 ∨ rdP x.op = 2 := by omega
  · rw [e] at hr; simp at hr
  · rw [e] at hr; simp at hr
    have := i2 (by omega)
    omega
  · rw [e] at hr; simp at hr
    have := i2 (by omega)
    have := i3 (by omega)
    rcases hr with rfl | rfl <;> omega
/-- What stands for a function. -/
noncomputable def bdOf (f : PF) : Option Bd := if smallP f then some ⟨zF f, unP f⟩ else none
theorem small_bd {c : PC} {k : Nat} {f : PF} (h : fnP c k f = true) (hs : smallP f = true) : BdOk ⟨zF f, unP f⟩ := by
  obtain ⟨r1, r2, r3, r4, r5⟩ := small_rp h hs
  obtain ⟨s1, s2, s3, s4⟩ := small_has hs
  have hz : ∀ p ∈ (zF f).parts, ∃ q ∈ f.parts, p = zP q := fun p hp => by
    obtain ⟨q, h1, h2⟩ := List.mem_map.1 hp
    exact ⟨q, h1, h2.symm⟩
  have hl : (zF f).parts.length = f.parts.length := by show (f.parts.map zP).length = _; simp
  refine ⟨?_, ?_, r3, ?_, fun r hr => ?_, fun p hp x hx => ?_, fun p hp q => ?_, fun p hp q => ?_, fun p hp q1 q2 => ?_⟩
  · show f.parts.map zP ≠ []
    simpa using r1
  · show cntS (f.parts.map zP) ≤ 10
    have : cntS (f.parts.map zP) = cntS f.parts := by
      unfold cntS; rw [List.map_map]; congr 1; exact List.map_congr_left (fun p _ => by simp [zP])
    omega
  · have := unP_len f; dsimp only; omega
  · have := unP_mem hr; omega
  · obtain ⟨q, hq, rfl⟩ := hz p hp
    obtain ⟨y, hy, rfl⟩ := List.mem_map.1 (show x ∈ q.ins.map zI from hx)
    obtain ⟨i1, i2, i3, -⟩ := fn_ins h hq hy
    refine ⟨callsP_zero s1 q hq y hy, fun e => ?_, fun e => ?_, fun e => ?_⟩
    · have := i1 e; exact ⟨this.1, Int.lt_of_lt_of_le this.2 s3⟩
    · have := i2 e; exact ⟨this.1, Int.lt_of_lt_of_le this.2 s3⟩
    · have := i3 e; exact ⟨this.1, Int.lt_of_lt_of_le this.2 s3⟩
  · obtain ⟨y, hy, rfl⟩ := hz p hp
    have := (fn_end h hy).1 q
    exact ⟨this.1, Int.lt_of_lt_of_le this.2 s3⟩
  · obtain ⟨y, hy, rfl⟩ := hz p hp
    dsimp only
    rw [hl]; exact (fn_end h hy).2.1 q
  · obtain ⟨y, hy, rfl⟩ := hz p hp
    dsimp only
    rw [hl]; exact (fn_end h hy).2.2 q1 q2
/-- What stands for the functions of code. -/
noncomputable def bsP (l : List PF) : List (Option Bd) := l.map bdOf
theorem bsP_rdy {c : PC} (hv : ∀ k f, c.fns[k]? = some f → fnP c k f = true) {k : Nat} {f : PF} (hk : c.fns[k]? = some f) {p : PP} (hp : p ∈ f.parts) : Rdy k (bsP c.fns) p.ins := by
  have hbd : ∀ b, some b ∈ bsP c.fns → ∃ j g, c.fns[j]? = some g ∧ smallP g = true ∧ b = ⟨zF g, unP g⟩ := fun b hb => by
    obtain ⟨g, hg, e⟩ := List.mem_map.1 hb
    obtain ⟨j, hj⟩ := List.getElem?_of_mem hg
    unfold bdOf at e
    split at e
    · rename_i hs
      injection e with e
      exact ⟨j, g, hj, hs, e.symm⟩
    · cases e
  refine ⟨fun b hb => ?_, fun x hx e => ((fn_ins (hv k f hk) hp hx).2.2.2 e).1, fun x hx b hb => ?_⟩
  · obtain ⟨j, g, hj, hs, rfl⟩ := hbd b hb
    exact small_bd (hv j g hj) hs
  · unfold bodyP at hb
    split at hb
    · rename_i e
      obtain ⟨-, g, hg, hl⟩ := (fn_ins (hv k f hk) hp hx).2.2.2 e
      have e2 : (bsP c.fns)[x.imm.toNat]? = some (bdOf g) := by unfold bsP; rw [List.getElem?_map, hg]; rfl
      rw [e2] at hb
      dsimp only at hb
      unfold bdOf at hb
      split at hb
      · rename_i hs
        have h1 := small_rp (hv _ g hg) hs
        have h2 := fn_head (hv _ g hg)
        omega
      · cases hb
    · cases hb

/-! ### The answer -/
def outF (bs : List (Option Bd)) (fault : Bool) (f : PF) : PF := if takesP f then doneF bs fault f else zF f
noncomputable def inlC (fault : Bool) (c : PC) : PC := ⟨c.gl, c.ini, c.fns.map (outF (bsP c.fns) fault), none, 0, none, 0, none, 0⟩
end Go.Proofs.Ytnaflfpkkbfnfaa.In

namespace Go.Proofs.Ytnaflfpkkbfnfaa.In
open Go.RowKit
set_option linter.unusedVariables false

/-! ### What stays, whatever else is written -/
theorem at_fs {S : Nat → Prop} {V y : World} {b o : Nat} {cs : List Value} (h : At V b o cs) (f : Fs S V y) (hb : ¬ S b) : At y b o cs := fun j hj => by
  have hj' := h j hj
  obtain ⟨v, hv⟩ : ∃ v, cs[j]? = some v := ⟨cs[j], List.getElem?_eq_getElem hj⟩
  rw [hv] at hj' ⊢
  exact f.cell hj' hb
theorem nb_fs {S : Nat → Prop} {V y : World} {lo n : Nat} {a : Option Addr} (h : NB lo V a n) (f : Fs S V y) (hb : ∀ g, n ≠ 0 → a = some ⟨g, 0, none⟩ → ¬ S g) : NB lo y a n := by
  rcases h with h | ⟨g, cs, t, e, hg, hh⟩
  · exact .inl h
  · by_cases h0 : n = 0
    · exact .inl h0
    · exact .inr ⟨g, cs, t, e, hg, f.heap hh (hb g h0 e)⟩
theorem lst_fs {α : Type} {sz lo : Nat} {V y : World} {P R : Nat → Nat → α → Prop} {a : Option Addr} {l : List α} (h : Lst sz P a l) (hn : NB lo V a l.length) (hR : ∀ g k x, l[k]? = some x → a = some ⟨g, 0, none⟩ → P g (k * sz) x → R g (k * sz) x) : Lst sz R a l := fun k x hx => by
  obtain ⟨g, cs, t, e, hg, hp, -⟩ := own_at h hn hx
  exact ⟨g, 0, e, by rw [Nat.zero_add]; exact hR g k x hx e hp⟩
theorem ints_fs {S : Nat → Prop} {V y : World} {lo : Nat} {a : Option Addr} {l : List Int} (h : Ints V a l) (hn : NB lo V a l.length) (f : Fs S V y) (hb : ∀ g, l ≠ [] → a = some ⟨g, 0, none⟩ → ¬ S g) : Ints y a l :=
  lst_fs (y := y) h hn fun g k x hx e hp => ⟨f.cell hp.1 (hb g (fun q => by rw [q] at hx; cases hx) e), hp.2⟩
/-- A part's lists are its own. -/
structure PM (lo : Nat) (y : World) (p : PP) : Prop where
  ok : p.ok y
  nb : NB lo y p.ia p.ins.length
  ab : ∀ x ∈ p.ins, NB lo y x.aa x.args.length
/-- A function's lists are its own. -/
structure FM (lo : Nat) (y : World) (g : PF) : Prop where
  ok : g.ok y
  sb : NB lo y g.sa g.slots.length
  pb : NB lo y g.pa g.parts.length
  ps : ∀ p ∈ g.parts, PM lo y p
theorem ne_of_len {α : Type} {l : List α} (h : l.length ≠ 0) : l ≠ [] := fun e => h (by rw [e]; rfl)
theorem pm_fs {S : Nat → Prop} {V y : World} {lo : Nat} {p : PP} (h : p.ok V) (hi : InsL lo V p.ia p.ins) (f : Fs S V y) (hb : ∀ g, ptB p g → ¬ S g) : PM lo y p := by
  have hx : ∀ x ∈ p.ins, x.ok V → x.ok y ∧ NB lo y x.aa x.args.length := fun x hx ho => by
    have hn := hi.each x hx
    have hb' : ∀ g, x.args ≠ [] → x.aa = some ⟨g, 0, none⟩ → ¬ S g := fun g h1 h2 => hb g (.inr ⟨x, hx, h1, h2⟩)
    exact ⟨⟨ho.op, ho.ty, ho.dst, ho.a, ho.b, ho.imm, ho.sok, ints_fs ho.args hn f hb'⟩, nb_fs hn f (fun g h1 h2 => hb' g (ne_of_len h1) h2)⟩
  refine ⟨⟨h.cond, h.next, h.els, h.sok, lst_fs (y := y) h.ins hi.nb fun g k x hk e hp => ⟨at_fs hp.1 f (hb g (.inl ⟨fun q => by rw [q] at hk; (cases hk), e⟩)), (hx x (List.mem_of_getElem? hk) hp.2).1⟩⟩, nb_fs hi.nb f (fun g h1 h2 => hb g (.inl ⟨ne_of_len h1, h2⟩)), fun x hxm => ?_⟩
  obtain ⟨k, hk⟩ := List.getElem?_of_mem hxm
  obtain ⟨b, o, e, hat, hok⟩ := h.ins k x hk
  exact (hx x hxm hok).2

/-! ### The functions' blocks -/
/-- Those that may be written from function k on. -/
def SA (FA : Nat) (l : List PF) (k : Nat) (b : Nat) : Prop := b = FA ∨ ∃ i f, k ≤ i ∧ l[i]? = some f ∧ f.pa = some ⟨b, 0, none⟩
/-- Those that were, up to it. -/
def SB (FA : Nat) (l : List PF) (k : Nat) (b : Nat) : Prop := b = FA ∨ ∃ i f, i < k ∧ l[i]? = some f ∧ f.pa = some ⟨b, 0, none⟩
/-- Those of the others. -/
def SX (FA : Nat) (l : List PF) (k : Nat) (b : Nat) : Prop := b = FA ∨ ∃ i f, i ≠ k ∧ l[i]? = some f ∧ f.pa = some ⟨b, 0, none⟩
/-- What the copy has left. -/
structure Cpy (lo FA : Nat) (l : List PF) (V : World) : Prop where
  blk : V.heap[FA]? = some (.cells (l.flatMap PF.cells).toArray 35 (0, 0))
  pt : ∀ (k : Nat) (f : PF), l[k]? = some f → ∀ p ∈ f.parts, ∀ y, Fs (SA FA l 0) V y → PM lo y p
  fn : ∀ (k : Nat) (f : PF), l[k]? = some f → ∀ y, Fs (SX FA l k) V y → FM lo y f
  sl : ∀ (k : Nat) (f : PF), l[k]? = some f → ∀ y, Fs (SA FA l 0) V y → Ints y f.sa f.slots ∧ NB lo y f.sa f.slots.length
  pb : ∀ (k : Nat) (f : PF), l[k]? = some f → ∃ Pb, f.pa = some ⟨Pb, 0, none⟩ ∧ Pb < V.heap.size ∧ lo ≤ Pb ∧ FA ≠ Pb ∧ ¬ SA FA l (k + 1) Pb ∧ ¬ SB FA l k Pb ∧ V.heap[Pb]? = some (.cells (f.parts.flatMap PP.cells).toArray 39 (0, 0)) ∧ f.pc = f.parts.length
theorem cpy_of {lo : Nat} {W V : World} {A : PC} (h : CodeL lo W A) (q : Q W V) (hne : A.fns ≠ []) (hp : ∀ f ∈ A.fns, f.parts ≠ []) : ∃ FA, A.fa = some ⟨FA, 0, none⟩ ∧ lo ≤ FA ∧ FA < W.heap.size ∧ Cpy lo FA A.fns V := by
  obtain ⟨FA, efa, hrow⟩ := h.fn.row.resolve_left hne
  obtain ⟨hlo, hsz⟩ := h.fn.nb.lb (len_ne hne) efa
  have hgo := h.go.1 FA (.inr (.inr ⟨hne, efa⟩))
  -- a block of a function's is none of the parts' own but the function's
  have notS : ∀ (k : Nat) (f : PF), A.fns[k]? = some f → ∀ b, fnB f b → (paB f b → False) → ¬ SA FA A.fns 0 b := fun k f hk b hb hnp hS => by
    have hfm := List.mem_of_getElem? hk
    rcases hS with e | ⟨i, g, -, hi, hg⟩
    · have := hgo f hfm b hb; omega
    · have hgb : paB g b := ⟨hp g (List.mem_of_getElem? hi), hg⟩
      rcases Nat.lt_trichotomy i k with c | c | c
      · have := h.fn.ord i k g f hi hk c b b (.inr (.inl hgb)) hb; omega
      · subst c; rw [hk] at hi; injection hi with hi; subst hi; exact hnp hgb
      · have := h.fn.ord k i f g hk hi c b b hb (.inr (.inl hgb)); omega
  have notX : ∀ (k : Nat) (f : PF), A.fns[k]? = some f → ∀ b, fnB f b → ¬ SX FA A.fns k b := fun k f hk b hb hS => by
    have hfm := List.mem_of_getElem? hk
    rcases hS with e | ⟨i, g, hne', hi, hg⟩
    · have := hgo f hfm b hb; omega
    · have hgb : paB g b := ⟨hp g (List.mem_of_getElem? hi), hg⟩
      rcases Nat.lt_trichotomy i k with c | c | c
      · have := h.fn.ord i k g f hi hk c b b (.inr (.inl hgb)) hb; omega
      · exact hne' c
      · have := h.fn.ord k i f g hk hi c b b hb (.inr (.inl hgb)); omega
  have ptN : ∀ (k : Nat) (f : PF), A.fns[k]? = some f → ∀ p ∈ f.parts, ∀ b, ptB p b → ¬ SA FA A.fns 0 b := fun k f hk p hpm b hb => notS k f hk b (.inr (.inr ⟨p, hpm, hb⟩)) (fun hpa => by
    have := (h.fn.each f (List.mem_of_getElem? hk)).so.pt b b hpa ⟨p, hpm, hb⟩; omega)
  have sN : ∀ (k : Nat) (f : PF), A.fns[k]? = some f → ∀ b, sB f b → ¬ SA FA A.fns 0 b := fun k f hk b hb => notS k f hk b (.inl hb) (fun hpa => by
    have := (h.fn.each f (List.mem_of_getElem? hk)).so.sp b b hb hpa; omega)
  refine ⟨FA, efa, hlo, hsz, heap_keep q hrow, fun k f hk p hpm y hy => ?_, fun k f hk y hy => ?_, fun k f hk y hy => ?_, fun k f hk => ?_⟩
  · obtain ⟨b, o, e, hat, hok⟩ := h.fn.at' k f hk
    obtain ⟨j, hj⟩ := List.getElem?_of_mem hpm
    obtain ⟨b2, o2, e2, hat2, hok2⟩ := hok.parts j p hj
    have hi := (h.fn.each f (List.mem_of_getElem? hk)).parts.each p hpm
    exact pm_fs hok2 hi ((Fs.of_q q).trans hy) (ptN k f hk p hpm)
  · obtain ⟨b, o, e, hat, hok⟩ := h.fn.at' k f hk
    have hfm := List.mem_of_getElem? hk
    have hn := h.fn.each f hfm
    have hy2 : Fs (SX FA A.fns k) W y := (Fs.of_q q).trans hy
    have hpm : ∀ j p, f.parts[j]? = some p → p.ok W → PM lo y p := fun j p hj ho => pm_fs ho (hn.parts.each p (List.mem_of_getElem? hj)) hy2 (fun g hg => notX k f hk g (.inr (.inr ⟨p, List.mem_of_getElem? hj, hg⟩)))
    refine ⟨⟨hok.params, hok.regs, hok.ssok, ints_fs hok.slots hn.slots hy2 (fun g h1 h2 => notX k f hk g (.inl ⟨h1, h2⟩)), hok.psok, lst_fs (y := y) hok.parts hn.parts.nb fun g j p hj e hpp => ⟨at_fs hpp.1 hy2 (notX k f hk g (.inr (.inl ⟨hp f hfm, e⟩))), (hpm j p hj hpp.2).ok⟩⟩, nb_fs hn.slots hy2 (fun g h1 h2 => notX k f hk g (.inl ⟨ne_of_len h1, h2⟩)), nb_fs hn.parts.nb hy2 (fun g h1 h2 => notX k f hk g (.inr (.inl ⟨hp f hfm, h2⟩))), fun p hpm' => ?_⟩
    obtain ⟨j, hj⟩ := List.getElem?_of_mem hpm'
    obtain ⟨b2, o2, e2, hat2, hok2⟩ := hok.parts j p hj
    exact hpm j p hj hok2
  · obtain ⟨b, o, e, hat, hok⟩ := h.fn.at' k f hk
    have hn := h.fn.each f (List.mem_of_getElem? hk)
    have hy2 : Fs (SA FA A.fns 0) W y := (Fs.of_q q).trans hy
    exact ⟨ints_fs hok.slots hn.slots hy2 (fun g h1 h2 => sN k f hk g ⟨h1, h2⟩), nb_fs hn.slots hy2 (fun g h1 h2 => sN k f hk g ⟨ne_of_len h1, h2⟩)⟩
  · have hfm := List.mem_of_getElem? hk
    have hn := h.fn.each f hfm
    obtain ⟨Pb, epa, hrp⟩ := hn.parts.row.resolve_left (hp f hfm)
    obtain ⟨h1, h2⟩ := hn.parts.nb.lb (len_ne (hp f hfm)) epa
    have hb : fnB f Pb := .inr (.inl ⟨hp f hfm, epa⟩)
    have hX := notX k f hk Pb hb
    refine ⟨Pb, epa, Nat.lt_of_lt_of_le h2 q.size, h1, fun e => hX (.inl e.symm), fun hS => hX ?_, fun hS => hX ?_, heap_keep q hrp, hn.cap⟩
    · rcases hS with e | ⟨i, g, hi, hg⟩
      · exact .inl e
      · exact .inr ⟨i, g, by omega, hg⟩
    · rcases hS with e | ⟨i, g, hi, hg⟩
      · exact .inl e
      · exact .inr ⟨i, g, by omega, hg⟩

end Go.Proofs.Ytnaflfpkkbfnfaa.In

namespace Go.Proofs.Ytnaflfpkkbfnfaa.In
open Go.RowKit
set_option linter.unusedVariables false

/-! ### A function that calls nobody stays as it is -/
theorem fold_plain (bs : List (Option Bd)) (fault : Bool) : ∀ (l : List PI), (∀ x ∈ l, x.op ≠ 32) → ∀ (s : Cl) (p : PP), s.ps[s.here]? = some p → (l.foldl (stepI bs fault) s) = { s with ps := s.ps.set s.here { p with ins := p.ins ++ l.map zI } }
  | [], _, s, p, hp => by
    rw [List.foldl_nil, List.map_nil, List.append_nil]
    have e : s.ps.set s.here p = s.ps := by
      refine List.ext_getElem? fun j => ?_
      rw [List.getElem?_set]
      split
      · rename_i e; subst e
        rw [hp]; simp [(List.getElem?_eq_some_iff.1 hp).1]
      · rfl
    show s = { s with ps := s.ps.set s.here p }
    rw [e]
  | x :: l, h, s, p, hp => by
    have hb : bodyP bs x = none := by unfold bodyP; rw [if_neg (h x (List.mem_cons_self ..))]
    have h1 : stepI bs fault s x = { s with ps := s.ps.set s.here { p with ins := p.ins ++ [zI x] } } := by
      unfold stepI
      rw [hb]
      show s.put (zI x) = _
      unfold Cl.put
      rw [hp]
    have hl := (List.getElem?_eq_some_iff.1 hp).1
    rw [List.foldl_cons, h1, fold_plain bs fault l (fun y hy => h y (List.mem_cons_of_mem _ hy)) _ { p with ins := p.ins ++ [zI x] } (by simp [hl])]
    simp
theorem done_plain (bs : List (Option Bd)) (fault : Bool) (f : PF) (h : ∀ p ∈ f.parts, ∀ x ∈ p.ins, x.op ≠ 32) : ∀ n, n ≤ f.parts.length → (doneC bs fault f n).ps = f.parts.map zP ∧ (doneC bs fault f n).regs = f.regs
  | 0, _ => ⟨rfl, rfl⟩
  | n + 1, hn => by
    obtain ⟨h1, h2⟩ := done_plain bs fault f h n (by omega)
    obtain ⟨p, hp⟩ := get_of_lt (l := f.parts) (k := n) (by omega)
    have hz : (doneC bs fault f n).ps[n]? = some (zP p) := by rw [h1, List.getElem?_map, hp]; rfl
    have hl := (List.getElem?_eq_some_iff.1 hz).1
    rw [doneC_succ]
    unfold stepP
    rw [hz]
    dsimp only
    rw [show (zP p).ins = p.ins.map zI from rfl, foldI_z, fold_plain bs fault p.ins (h p (List.mem_of_getElem? hp)) _ { zP p with ins := [] } (by simp [hl])]
    unfold Cl.goOn
    simp only [List.nil_append, List.set_set]
    rw [List.getElem?_set]
    simp only [if_true, hl]
    refine ⟨?_, h2⟩
    rw [← h1]
    refine List.ext_getElem? fun j => ?_
    rw [List.getElem?_set]
    split
    · rename_i e; subst e
      rw [hz]; rfl
    · rfl
theorem small_out {fault : Bool} {bs : List (Option Bd)} {f : PF} (hs : smallP f = true) : outF bs fault f = zF f := by
  obtain ⟨s1, s2, s3, s4⟩ := small_has hs
  have hl := len_cnt f.parts
  have ht : takesP f = true := by
    unfold takesP
    rw [s1, decide_eq_true (by omega), decide_eq_true (by omega), decide_eq_true (by omega)]; rfl
  unfold outF
  rw [if_pos ht]
  obtain ⟨h1, h2⟩ := done_plain bs fault f (callsP_zero s1) _ (Nat.le_refl _)
  unfold doneF
  rw [h1, h2]
  rfl

/-! ### On the way -/
structure RS (V : World) (lo FA : Nat) (l : List PF) (fault : Bool) (k : Nat) (G : List PF) (W : World) : Prop where
  fs : Fs (SB FA l k) V W
  blk : W.heap[FA]? = some (.cells (G.flatMap PF.cells).toArray 35 (0, 0))
  len : G.length = l.length
  old : ∀ i, k ≤ i → G[i]? = l[i]?
  done : ∀ (i : Nat) (f g : PF), i < k → l[i]? = some f → G[i]? = some g → zF g = outF (bsP l) fault f ∧ ∀ y, Fs (SA FA l k) W y → FM lo y g
section
variable {V W W' : World} {lo FA k : Nat} {l G : List PF} {fault : Bool} {f : PF}
theorem SB.sx {b : Nat} (h : SB FA l k b) : SX FA l k b := h.imp id fun ⟨i, f, h1, h2⟩ => ⟨i, f, by omega, h2⟩
theorem SA.sx {b : Nat} (h : SA FA l (k + 1) b) : SX FA l k b := h.imp id fun ⟨i, f, h1, h2⟩ => ⟨i, f, by omega, h2⟩
theorem SB.up {b : Nat} (h : SB FA l k b) : SB FA l (k + 1) b := h.imp id fun ⟨i, f, h1, h2⟩ => ⟨i, f, by omega, h2⟩
theorem SA.dn {b : Nat} (h : SA FA l (k + 1) b) : SA FA l k b := h.imp id fun ⟨i, f, h1, h2⟩ => ⟨i, f, by omega, h2⟩
theorem SA.all {b : Nat} (h : SA FA l k b) : SA FA l 0 b := h.imp id fun ⟨i, f, h1, h2⟩ => ⟨i, f, by omega, h2⟩
theorem SB.all {b : Nat} (h : SB FA l k b) : SA FA l 0 b := h.imp id fun ⟨i, f, h1, h2⟩ => ⟨i, f, by omega, h2⟩
theorem Fs.sub {S T : Nat → Prop} {A B : World} (h : Fs S A B) (hs : ∀ k, S k → T k) : Fs T A B := h.less fun k q => .inl (hs k q)
theorem RS.start (h : Cpy lo FA l V) : RS V lo FA l fault 0 l V := ⟨Fs.refl _ _, h.blk, rfl, fun _ _ => rfl, fun i f g h => absurd h (Nat.not_lt_zero _)⟩
theorem RS.q (h : RS V lo FA l fault k G W) (q : Q W W') : RS V lo FA l fault k G W' :=
  ⟨h.fs.trans (Fs.of_q q), heap_keep q h.blk, h.len, h.old, fun i f g h1 h2 h3 => ⟨(h.done i f g h1 h2 h3).1, fun y hy => (h.done i f g h1 h2 h3).2 y ((Fs.of_q q).trans hy)⟩⟩
theorem RS.skip (h : RS V lo FA l fault k G W) (hc : Cpy lo FA l V) (hk : l[k]? = some f) (ht : takesP f = false) : RS V lo FA l fault (k + 1) G W := by
  refine ⟨h.fs.sub fun _ => SB.up, h.blk, h.len, fun i hi => h.old i (by omega), fun i f' g h1 h2 h3 => ?_⟩
  by_cases e : i = k
  · subst e
    rw [hk] at h2; injection h2 with h2; subst h2
    rw [h.old i (Nat.le_refl _), hk] at h3; injection h3 with h3; subst h3
    refine ⟨?_, fun y hy => hc.fn i f hk y ((h.fs.sub fun _ => SB.sx).trans (hy.sub fun _ => SA.sx))⟩
    unfold outF
    rw [ht]; simp
  · obtain ⟨d1, d2⟩ := h.done i f' g (by omega) h2 h3
    exact ⟨d1, fun y hy => d2 y (hy.sub fun _ => SA.dn)⟩

/-- The frame of the function of now. -/
abbrev cxOf (W : World) (lo FA k Pb : Nat) (f : PF) (bod : Value) (fault : Bool) (l : List PF) : Cx := ⟨W, lo, FA, k * 4, Pb, f, bod, fault, [], SA FA l 0⟩
variable {Pb : Nat} {bod : Value}
theorem RS.all (h : RS V lo FA l fault k G W) {y : World} (hy : Fs (SA FA l 0) W y) : Fs (SA FA l 0) V y := (h.fs.sub fun _ => SB.all).trans hy
theorem RS.fr (hk : l[k]? = some f) (epa : f.pa = some ⟨Pb, 0, none⟩) {y : World} (hy : (cxOf W lo FA k Pb f bod fault l).Fr y) : Fs (SA FA l k) W y := Fk.fs hy (.inl rfl) (.inr ⟨k, f, Nat.le_refl _, hk, epa⟩)
theorem RS.cx (h : RS V lo FA l fault k G W) (hc : Cpy lo FA l V) (hk : l[k]? = some f) (epa : f.pa = some ⟨Pb, 0, none⟩) (hne : f.parts ≠ []) : (cxOf W lo FA k Pb f bod fault l).ok := by
  obtain ⟨P, e, h1, h2, h3, h4, h5, h6, h7⟩ := hc.pb k f hk
  rw [epa] at e; injection e with e; injection e with e; subst e
  exact ⟨(Array.getElem?_eq_some_iff.1 h.blk).1, Nat.lt_of_lt_of_le h1 h.fs.size, h3, h2, hne, .inl rfl, .inr ⟨k, f, Nat.zero_le _, hk, epa⟩⟩
theorem RS.f0 (h : RS V lo FA l fault k G W) (hc : Cpy lo FA l V) (hk : l[k]? = some f) (epa : f.pa = some ⟨Pb, 0, none⟩) : F0Ok (cxOf W lo FA k Pb f bod fault l) := by
  refine ⟨fun p hp y hy => (hc.pt k f hk p hp y (h.all ((RS.fr hk epa hy).sub fun _ => SA.all))).ok, fun p hp x hx y hy => ?_⟩
  have hm := hc.pt k f hk p hp y (h.all hy)
  obtain ⟨j, hj⟩ := List.getElem?_of_mem hx
  obtain ⟨b, o, e, hat, hok⟩ := hm.ok.ins j x hj
  exact ⟨hok, hm.ab x hx⟩
theorem RS.at' (h : RS V lo FA l fault k G W) {i : Nat} {g : PF} (hg : G[i]? = some g) : At W FA (i * 4) g.cells := flat_block PF.len h.blk hg
theorem RS.beg (h : RS V lo FA l fault k G W) (hc : Cpy lo FA l V) (hk : l[k]? = some f) (epa : f.pa = some ⟨Pb, 0, none⟩) (hl : f.parts.length ≤ 1000000) : Beg (cxOf W lo FA k Pb f bod fault l) := by
  obtain ⟨P, e, h1, h2, h3, h4, h5, h6, h7⟩ := hc.pb k f hk
  rw [epa] at e; injection e with e; injection e with e; subst e
  exact ⟨h.at' ((h.old k (Nat.le_refl _)).trans hk), ⟨_, _, h.blk⟩, epa, h.fs.heap h6 h5, h7, hl⟩
theorem RS.bods (h : RS V lo FA l fault k G W) (hc : Cpy lo FA l V) (hk : l[k]? = some f) (epa : f.pa = some ⟨Pb, 0, none⟩) {w1 : World} {pv : Nat → Value} (B : BI w1 FA 0 l l.length pv V) (hS : ∀ b, SA FA l 0 b → b < w1.heap.size) (hl : l.length ≤ 100000) :
    BodsIn (cxOf W lo FA k Pb f (.slice (some ⟨w1.heap.size, 0, none⟩) l.length l.length) fault l) k (bsP l) := by
  have hbl : (bsP l).length = l.length := by unfold bsP; simp
  have hkl := (List.getElem?_eq_some_iff.1 hk).1
  refine ⟨w1.heap.size, 0, l.length, by rw [hbl], by omega, by omega, fun m b hm hb => ?_⟩
  obtain ⟨fm, hfm⟩ := get_of_lt (l := l) (k := m) (by omega)
  obtain ⟨gm, hgm⟩ := get_of_lt (l := G) (k := m) (by rw [h.len]; omega)
  have eb : b = bdOf fm := by
    unfold bsP at hb
    rw [List.getElem?_map, hfm] at hb
    simpa using hb.symm
  have hV : ∀ y, (cxOf W lo FA k Pb f (.slice (some ⟨w1.heap.size, 0, none⟩) l.length l.length) fault l).Fr y → Fs (SA FA l 0) V y := fun y hy => h.all ((RS.fr hk epa hy).sub fun _ => SA.all)
  have hcell : ∀ y, (cxOf W lo FA k Pb f (.slice (some ⟨w1.heap.size, 0, none⟩) l.length l.length) fault l).Fr y → y.cell? ⟨w1.heap.size, 0 + m, none⟩ = some (pv m) := fun y hy => by
    rw [Nat.zero_add]
    exact (hV y hy).cell (B.cellk (by omega)) (fun q => by have := hS _ q; dsimp only at this; omega)
  rcases B.got m fm hfm (by omega) with ⟨h1, h2⟩ | ⟨h1, q, ua, uc, h2, h3, h4, h5, h6⟩
  · left
    rw [h2] at hcell
    refine ⟨?_, hcell⟩
    rw [eb]; unfold bdOf; rw [h1]; rfl
  · right
    rw [h3] at hcell
    refine ⟨q, ⟨zF fm, unP fm⟩, ?_, hcell, FA, m * 4, gm, ua, uc, fun y hy => ?_⟩
    · rw [eb]; unfold bdOf; rw [if_pos h1]
    · obtain ⟨d1, d2⟩ := h.done m fm gm hm hfm hgm
      rw [small_out h1] at d1
      have hVy := hV y hy
      have hq : y.heap[q]? = _ := hVy.heap h4 (fun e => by have := hS _ e; omega)
      refine ⟨?_, (cell_of_block hq 1).trans rfl, fun j z hj => ?_, fun j hj => ?_, (d2 y (RS.fr hk epa hy)).ok, ?_, ?_⟩
      · rw [cell_of_block hq 0]; simp
      · obtain ⟨b2, o2, e1, e2, e3⟩ := h5 j z hj
        exact ⟨b2, o2, e1, hVy.cell e2 (fun e => by have := hS _ e; have := h6 b2 o2 e1; dsimp only at *; omega), e3⟩
      · have hj4 : j < 4 := hj
        rw [hy.fbc (m * 4 + j) (.inl (by dsimp only; omega))]
        exact h.at' hgm j hj
      · exact parts_z d1
      · exact (z_evf d1).regs
theorem SA.lt (hc : Cpy lo FA l V) {b : Nat} (h : SA FA l 0 b) : b < V.heap.size := by
  rcases h with e | ⟨i, f, -, hi, hf⟩
  · rw [e]; exact (Array.getElem?_eq_some_iff.1 hc.blk).1
  · obtain ⟨P, e, h1, -⟩ := hc.pb i f hi
    rw [hf] at e; injection e with e; injection e with e; rw [e]; exact h1
theorem part_pm {y : World} {p : PP} (n : Nat) (hbk : ∀ b, V.heap.size ≤ b → ¬ SA FA l n b) (hy : Fs (SA FA l n) W' y) {C : Nat} (hC : V.heap.size ≤ C) (hlo : lo ≤ C)
    (own : W'.ownsRow (C + 1) 41 7 (.slice p.ia p.ins.length p.ic) p.ins.length (p.ins.flatMap PI.cells)) (xf : ∀ x ∈ p.ins, x.ok y ∧ NB lo y x.aa x.args.length) (num : I64 p.cond ∧ I64 p.next ∧ I64 p.els) (hb : p.ins.length ≤ 2000000000) : PM lo y p := by
  cases ea : p.ia with
  | none =>
    rw [ea] at own
    obtain ⟨o1, -, o3⟩ := own_none own
    have e0 : p.ins = [] := List.eq_nil_of_length_eq_zero o1
    refine ⟨⟨num.1, num.2.1, num.2.2, ?_, ?_⟩, .inl o1, fun x hx => (xf x hx).2⟩
    · rw [ea, o1, o3]; exact sok_none _
    · rw [e0]; exact Lst.nil
  | some a =>
    obtain ⟨e1, o2, o3, -, o5, o6, cur, o7, o8⟩ := own_addr own ea
    have hne : ¬ SA FA l n a.block := hbk _ (by omega)
    rw [ea, e1] at own
    refine ⟨⟨num.1, num.2.1, num.2.2, ?_, fun k x hk => ⟨a.block, 0, by rw [ea]; rw [← e1], ?_, (xf x (List.mem_of_getElem? hk)).1⟩⟩, .inr ⟨a.block, _, _, by rw [ea]; rw [← e1], by omega, hy.heap o7 hne⟩, fun x hx => (xf x hx).2⟩
    · rw [ea]; exact ⟨o5, o6, (fun q => by cases q), by omega⟩
    · rw [Nat.zero_add]
      refine at_fs (fun j hj => ?_) hy hne
      have hj7 : j < 7 := hj
      have hkl := (List.getElem?_eq_some_iff.1 hk).1
      rw [own.cellAt (k * 7 + j) (by have := Nat.mul_le_mul_right 7 (show k + 1 ≤ p.ins.length by omega); omega), flat_at PI.cells 7 PI.len p.ins k x j hk hj7]
theorem fa_row {s : Cl} {L : List PP} {pa : Option Addr} {pc : Nat} (h : RS V lo FA l fault k G W) (hk : l[k]? = some f) (hm : MW (cxOf W lo FA k Pb f bod fault l) f.parts.length s W' L pa pc) :
    W'.heap[FA]? = some (.cells ((G.set k { f with regs := s.regs, parts := L, pa := pa, pc := pc }).flatMap PF.cells).toArray 35 (0, 0)) := by
  obtain ⟨cs', hb', hsz⟩ := hm.fk.fbh _ _ h.blk
  have hkG : k < G.length := by rw [h.len]; exact (List.getElem?_eq_some_iff.1 hk).1
  dsimp only at hb'
  rw [hb']
  congr 2
  refine Array.ext' (List.ext_getElem? fun j => ?_)
  have hz : cs'.size = G.length * 4 := by rw [hsz, List.size_toArray, flat_len _ 4 PF.len]
  have hc : W'.cell? ⟨FA, j, none⟩ = cs'.toList[j]? := by rw [cell_of_block hb' j]; simp
  rw [← hc]
  by_cases hj : j < G.length * 4
  · have hd : j = (j / 4) * 4 + j % 4 := by omega
    have hi : j / 4 < G.length := by omega
    have hr : j % 4 < 4 := Nat.mod_lt _ (by omega)
    obtain ⟨g, hg⟩ := get_of_lt hi
    generalize j / 4 = i at *
    generalize j % 4 = r at *
    subst hd
    by_cases e : i = k
    · subst e
      rw [show ((G.set i { f with regs := s.regs, parts := L, pa := pa, pc := pc }).flatMap PF.cells).toArray.toList[i * 4 + r]? = (PF.cells { f with regs := s.regs, parts := L, pa := pa, pc := pc })[r]? from flat_at PF.cells 4 PF.len _ i _ r (by rw [List.getElem?_set]; simp [hkG]) hr]
      obtain ⟨f0, f1, f2, f3⟩ := And.intro hm.f0 (And.intro hm.f1 (And.intro hm.f2 hm.f3))
      dsimp only at f0 f1 f2 f3
      obtain rfl | rfl | rfl | rfl : r = 0 ∨ r = 1 ∨ r = 2 ∨ r = 3 := by omega
      · exact f0
      · exact f1
      · exact f2
      · exact f3
    · rw [show ((G.set k { f with regs := s.regs, parts := L, pa := pa, pc := pc }).flatMap PF.cells).toArray.toList[i * 4 + r]? = (PF.cells g)[r]? from flat_at PF.cells 4 PF.len _ i g r (by rw [List.getElem?_set, if_neg (Ne.symm e)]; exact hg) hr]
      rw [hm.fk.fbc (i * 4 + r) (by dsimp only; omega)]
      exact h.at' hg r hr
  · have h1 : ((G.set k { f with regs := s.regs, parts := L, pa := pa, pc := pc }).flatMap PF.cells).length = G.length * 4 := by rw [flat_len _ 4 PF.len]; simp
    rw [hc, List.getElem?_eq_none (by simp; omega)]
    exact (List.getElem?_eq_none (by simpa using (by omega : ((G.set k { f with regs := s.regs, parts := L, pa := pa, pc := pc }).flatMap PF.cells).length ≤ j))).symm
theorem RS.take (h : RS V lo FA l fault k G W) (hc : Cpy lo FA l V) (hk : l[k]? = some f) (epa : f.pa = some ⟨Pb, 0, none⟩) (hne : f.parts ≠ []) (ht : takesP f = true) (hlo : lo ≤ V.heap.size)
    (hw : CW (cxOf W lo FA k Pb f bod fault l) f.parts.length (doneC (bsP l) fault f f.parts.length) W') (hb : cntS (doneC (bsP l) fault f f.parts.length).ps ≤ 2000000000) (hr : 0 ≤ (doneC (bsP l) fault f f.parts.length).regs ∧ (doneC (bsP l) fault f f.parts.length).regs ≤ 1000000000) :
    ∃ G', RS V lo FA l fault (k + 1) G' W' := by
  obtain ⟨s, hs⟩ : ∃ s, doneC (bsP l) fault f f.parts.length = s := ⟨_, rfl⟩
  rw [hs] at hw hb hr
  obtain ⟨L, pa, pc, hm⟩ := hw
  have hx := h.cx (bod := bod) hc hk epa hne
  have hkG : k < G.length := by rw [h.len]; exact (List.getElem?_eq_some_iff.1 hk).1
  refine ⟨G.set k { f with regs := s.regs, parts := L, pa := pa, pc := pc }, (h.fs.sub fun _ => SB.up).trans (Fk.fs hm.fk (.inl rfl) (.inr ⟨k, f, Nat.lt_succ_self k, hk, epa⟩)), fa_row h hk hm, by simp [h.len], fun i hi => by rw [List.getElem?_set, if_neg (by omega)]; exact h.old i (by omega), fun i f' g h1 h2 h3 => ?_⟩
  have hWW : Fs (SA FA l k) W W' := RS.fr hk epa hm.fk
  by_cases e : i = k
  · subst e
    rw [hk] at h2; injection h2 with h2; subst h2
    rw [List.getElem?_set, if_pos rfl, if_pos hkG] at h3
    injection h3 with h3
    refine ⟨?_, fun y hy => ?_⟩
    · rw [← h3]
      unfold outF
      rw [if_pos ht]
      unfold doneF
      rw [hs]
      unfold zF
      dsimp only
      rw [hm.z]
    · have hWy : Fs (SA FA l 0) W y := (hWW.sub fun _ => SA.all).trans (hy.sub fun _ => SA.all)
      obtain ⟨sl1, sl2⟩ := hc.sl i f hk y (h.all hWy)
      have fok := (hc.fn i f hk V (Fs.refl _ _)).ok
      obtain ⟨P, rfl, hP1, hP2, hP3, hP4⟩ := hm.par hx
      have hnew : ∀ b, V.heap.size ≤ b → ¬ SA FA l (i + 1) b := fun b hb hS => by have := SA.lt hc hS.all; omega
      have hPS : ¬ SA FA l (i + 1) P := by
        rcases hP1 with e | e
        · obtain ⟨P', e2, q1, q2, q3, q4, q5, q6, q7⟩ := hc.pb i f hk
          rw [epa] at e2; injection e2 with e2; injection e2 with e2; subst e2
          rw [e]; exact q4
        · exact hnew P (by have := h.fs.size; have e2 : W.heap.size < P := e; omega)
      obtain ⟨-, -, -, -, o5, o6, cur, o7, o8⟩ := own_addr hm.prow rfl
      have hll : L.length = s.ps.length := by rw [← hm.z]; simp
      have hlc := len_cnt s.ps
      have hpm : ∀ j p, L[j]? = some p → PM lo y p := fun j p hj => by
        have hr := hm.rows j p hj (by unfold opn; first | omega | (dsimp only; omega))
        have hil := ins_le (hm.at_z hj)
        have hil2 : p.ins.length + 1 ≤ cntS s.ps := by simpa [zP] using hil
        exact part_pm (i + 1) hnew hy (C := W.heap.size) h.fs.size (Nat.le_trans hlo h.fs.size) hr.own (fun x hx' => hr.xf x hx' y hWy) (hm.num p (List.mem_of_getElem? hj)) (by omega)
      rw [← h3]
      refine ⟨⟨fok.params, ⟨by first | omega | (dsimp only; omega), by first | omega | (dsimp only; omega)⟩, fok.ssok, sl1, ⟨o5, o6, (fun q => by cases q), by first | omega | (dsimp only; omega)⟩, fun j p hj => ⟨P, 0, rfl, ?_, (hpm j p hj).ok⟩⟩, sl2, .inr ⟨P, _, _, rfl, hP4, hy.heap o7 hPS⟩, fun p hp => ?_⟩
      · rw [Nat.zero_add]
        exact at_fs (hm.cells rfl hj).1 hy hPS
      · obtain ⟨j, hj⟩ := List.getElem?_of_mem hp
        exact hpm j p hj
  · rw [List.getElem?_set, if_neg (Ne.symm e)] at h3
    obtain ⟨d1, d2⟩ := h.done i f' g (by omega) h2 h3
    exact ⟨d1, fun y hy => d2 y (hWW.trans (hy.sub fun _ => SA.dn))⟩
end
end Go.Proofs.Ytnaflfpkkbfnfaa.In

namespace Go.Proofs.Ytnaflfpkkbfnfaa.In
open Go.RowKit
set_option linter.unusedVariables false

theorem pm_low {S : Nat → Prop} {V y : World} {lo : Nat} {p : PP} (h : PM lo V p) (f : Fs S V y) (hS : ∀ b, lo ≤ b → ¬ S b) : PM lo y p := by
  have hx : ∀ x ∈ p.ins, x.ok V → x.ok y ∧ NB lo y x.aa x.args.length := fun x hx ho => by
    have hn := h.ab x hx
    have hb' : ∀ g, x.args ≠ [] → x.aa = some ⟨g, 0, none⟩ → ¬ S g := fun g h1 h2 => hS g (hn.lb (len_ne h1) h2).1
    exact ⟨⟨ho.op, ho.ty, ho.dst, ho.a, ho.b, ho.imm, ho.sok, ints_fs ho.args hn f hb'⟩, nb_fs hn f (fun g h1 h2 => hb' g (ne_of_len h1) h2)⟩
  have hb : ∀ g, p.ins ≠ [] → p.ia = some ⟨g, 0, none⟩ → ¬ S g := fun g h1 h2 => hS g (h.nb.lb (len_ne h1) h2).1
  refine ⟨⟨h.ok.cond, h.ok.next, h.ok.els, h.ok.sok, lst_fs (y := y) h.ok.ins h.nb fun g k x hk e hp => ⟨at_fs hp.1 f (hb g (fun q => by rw [q] at hk; (cases hk)) e), (hx x (List.mem_of_getElem? hk) hp.2).1⟩⟩, nb_fs h.nb f (fun g h1 h2 => hb g (ne_of_len h1) h2), fun x hxm => ?_⟩
  obtain ⟨k, hk⟩ := List.getElem?_of_mem hxm
  obtain ⟨b, o, e, hat, hok⟩ := h.ok.ins k x hk
  exact (hx x hxm hok).2
theorem fm_low {S : Nat → Prop} {V y : World} {lo : Nat} {g : PF} (h : FM lo V g) (f : Fs S V y) (hS : ∀ b, lo ≤ b → ¬ S b) : FM lo y g := by
  have hps : ∀ p ∈ g.parts, PM lo y p := fun p hp => pm_low (h.ps p hp) f hS
  refine ⟨⟨h.ok.params, h.ok.regs, h.ok.ssok, ints_fs h.ok.slots h.sb f (fun b h1 h2 => hS b (h.sb.lb (len_ne h1) h2).1), h.ok.psok, lst_fs (y := y) h.ok.parts h.pb fun b j p hj e hpp => ⟨at_fs hpp.1 f (hS b (h.pb.lb (fun q => ?_) e).1), (hps p (List.mem_of_getElem? hj)).ok⟩⟩, nb_fs h.sb f (fun b h1 h2 => hS b (h.sb.lb h1 h2).1), nb_fs h.pb f (fun b h1 h2 => hS b (h.pb.lb h1 h2).1), hps⟩
  have := (List.getElem?_eq_some_iff.1 hj).1
  omega
/-- Code in memory of its own, in whatever order. -/
structure CodeM (lo : Nat) (W : World) (a : PC) : Prop where
  ok : a.ok W
  gn : NB lo W a.ga a.gl.length
  nn : NB lo W a.na a.ini.length
  fb : NB lo W a.fa a.fns.length
  fn : ∀ f ∈ a.fns, FM lo W f
theorem CodeM.low {S : Nat → Prop} {V y : World} {lo : Nat} {a : PC} (h : CodeM lo V a) (f : Fs S V y) (hS : ∀ b, lo ≤ b → ¬ S b) : CodeM lo y a := by
  have hfn : ∀ g ∈ a.fns, FM lo y g := fun g hg => fm_low (h.fn g hg) f hS
  refine ⟨⟨h.ok.gsok, ints_fs h.ok.gl h.gn f (fun b h1 h2 => hS b (h.gn.lb (len_ne h1) h2).1), h.ok.nsok, ints_fs h.ok.ini h.nn f (fun b h1 h2 => hS b (h.nn.lb (len_ne h1) h2).1), h.ok.fsok, lst_fs (y := y) h.ok.fns h.fb fun b j p hj e hpp => ⟨at_fs hpp.1 f (hS b (h.fb.lb (fun q => ?_) e).1), (hfn p (List.mem_of_getElem? hj)).ok⟩⟩, nb_fs h.gn f (fun b h1 h2 => hS b (h.gn.lb h1 h2).1), nb_fs h.nn f (fun b h1 h2 => hS b (h.nn.lb h1 h2).1), nb_fs h.fb f (fun b h1 h2 => hS b (h.fb.lb h1 h2).1), hfn⟩
  have := (List.getElem?_eq_some_iff.1 hj).1
  omega
theorem NB.mono' {lo lo' : Nat} {W : World} {a : Option Addr} {n : Nat} (h : NB lo W a n) (hl : lo' ≤ lo) : NB lo' W a n := by
  rcases h with h | ⟨g, cs, t, e, hg, hh⟩
  · exact .inl h
  · exact .inr ⟨g, cs, t, e, Nat.le_trans hl hg, hh⟩
theorem CodeM.mono {lo lo' : Nat} {W : World} {a : PC} (h : CodeM lo W a) (hl : lo' ≤ lo) : CodeM lo' W a :=
  ⟨h.ok, NB.mono' h.gn hl, NB.mono' h.nn hl, NB.mono' h.fb hl, fun f hf => ⟨(h.fn f hf).ok, NB.mono' (h.fn f hf).sb hl, NB.mono' (h.fn f hf).pb hl, fun p hp => ⟨((h.fn f hf).ps p hp).ok, NB.mono' ((h.fn f hf).ps p hp).nb hl, fun x hx => NB.mono' (((h.fn f hf).ps p hp).ab x hx) hl⟩⟩⟩
theorem CodeM.keep {lo : Nat} {W W' : World} {a : PC} (h : CodeM lo W a) (q : Q W W') : CodeM lo W' a := h.low (S := fun _ => False) (Fs.of_q q) (fun _ _ h => h)

/-- All functions have been gone through. -/
theorem RS.code {V W W1 : World} {lo FA : Nat} {fault : Bool} {G : List PF} {a : PC} (h : RS V lo FA a.fns fault a.fns.length G W) (hl : CodeL lo W1 a) (q : Q W1 V) (hne : a.fns ≠ []) (hp : ∀ f ∈ a.fns, f.parts ≠ []) (efa : a.fa = some ⟨FA, 0, none⟩) (hlo : lo ≤ FA) : CodeM lo W ⟨a.gl, a.ini, G, a.ga, a.gc, a.na, a.nc, a.fa, a.fc⟩ ∧ G.map zF = a.fns.map (outF (bsP a.fns) fault) := by
  have hf : Fs (SB FA a.fns a.fns.length) W1 W := (Fs.of_q q).trans h.fs
  have hG : ∀ i g, G[i]? = some g → ∃ f, a.fns[i]? = some f ∧ zF g = outF (bsP a.fns) fault f ∧ FM lo W g := fun i g hg => by
    have hi : i < a.fns.length := by have := (List.getElem?_eq_some_iff.1 hg).1; rw [h.len] at this; exact this
    obtain ⟨f, hfi⟩ := get_of_lt hi
    obtain ⟨d1, d2⟩ := h.done i f g hi hfi hg
    exact ⟨f, hfi, d1, d2 W (Fs.refl _ _)⟩
  have hno : ∀ g, (a.gl ≠ [] ∧ a.ga = some ⟨g, 0, none⟩) ∨ (a.ini ≠ [] ∧ a.na = some ⟨g, 0, none⟩) → ¬ SB FA a.fns a.fns.length g := fun g hg hS => by
    rcases hS with e | ⟨i, f, -, hi, hpa⟩
    · have := hl.go.2 g hg hne FA efa; omega
    · have hm := List.mem_of_getElem? hi
      have := hl.go.1 g (hg.elim .inl (fun q => .inr (.inl q))) f hm g (.inr (.inl ⟨hp f hm, hpa⟩))
      omega
  refine ⟨⟨⟨hl.ok.gsok, ints_fs hl.ok.gl hl.gn hf (fun b h1 h2 => hno b (.inl ⟨h1, h2⟩)), hl.ok.nsok, ints_fs hl.ok.ini hl.nn hf (fun b h1 h2 => hno b (.inr ⟨h1, h2⟩)), ?_, fun i g hg => ?_⟩, nb_fs hl.gn hf (fun b h1 h2 => hno b (.inl ⟨ne_of_len h1, h2⟩)), nb_fs hl.nn hf (fun b h1 h2 => hno b (.inr ⟨ne_of_len h1, h2⟩)), .inr ⟨FA, _, _, efa, hlo, h.blk⟩, fun g hg => ?_⟩, ?_⟩
  · show sok 64 a.fa G.length a.fc
    rw [h.len]; exact hl.ok.fsok
  · obtain ⟨f, e1, e2, e3⟩ := hG i g hg
    exact ⟨FA, 0, efa, by rw [Nat.zero_add]; exact h.at' hg, e3.ok⟩
  · obtain ⟨i, hi⟩ := List.getElem?_of_mem hg
    obtain ⟨f, e1, e2, e3⟩ := hG i g hi
    exact e3
  · refine List.ext_getElem? fun i => ?_
    rw [List.getElem?_map, List.getElem?_map]
    cases hg : G[i]? with
    | none =>
      have := List.getElem?_eq_none_iff.1 hg
      rw [List.getElem?_eq_none (by rw [← h.len]; exact this)]; rfl
    | some g =>
      obtain ⟨f, e1, e2, e3⟩ := hG i g hg
      rw [e1]
      show some (zF g) = some _
      rw [e2]

/-! ### What comes of code that is alike -/
theorem callsL_z (l : List PI) : callsL (l.map zI) = callsL l := by unfold callsL; rw [List.countP_map]; rfl
theorem callsP_zF (f : PF) : callsP (zF f) = callsP f := by
  unfold callsP zF
  dsimp only
  rw [List.map_map]
  congr 1
  exact List.map_congr_left (fun p _ => callsL_z p.ins)
theorem fnN_zF (f : PF) : fnN (zF f) = fnN f := by
  rw [cntS_fnN, cntS_fnN]
  show ((cntS (f.parts.map zP) : Nat) : Int) = _
  rw [cntS_zP]
theorem smallP_zF (f : PF) : smallP (zF f) = smallP f := by unfold smallP; rw [callsP_zF, fnN_zF]; rfl
theorem takesP_zF (f : PF) : takesP (zF f) = takesP f := by
  unfold takesP
  rw [callsP_zF]
  show (_ && (decide ((f.parts.map zP).length ≤ 100) && _)) = _
  rw [List.length_map]; rfl
theorem doneC_zF (bs : List (Option Bd)) (fault : Bool) (f : PF) (n : Nat) : doneC bs fault (zF f) n = doneC bs fault f n := by
  unfold doneC
  have : (zF f).parts.map zP = f.parts.map zP := by show (f.parts.map zP).map zP = _; simp [zP_zP, Function.comp_def]
  rw [this]; rfl
theorem outF_zF (bs : List (Option Bd)) (fault : Bool) (f : PF) : outF bs fault (zF f) = outF bs fault f := by
  unfold outF doneF
  have hl : (zF f).parts.length = f.parts.length := by show (f.parts.map zP).length = _; simp
  rw [takesP_zF, zF_zF, hl, doneC_zF]
theorem bdOf_zF {f : PF} (h : f.parts ≠ []) : bdOf (zF f) = bdOf f := by unfold bdOf; rw [smallP_zF, zF_zF, unP_z f h]
theorem bsP_z {l m : List PF} (h : l.map zF = m.map zF) (hl : ∀ f ∈ l, f.parts ≠ []) (hm : ∀ f ∈ m, f.parts ≠ []) : bsP l = bsP m := by
  have e : ∀ l : List PF, (∀ f ∈ l, f.parts ≠ []) → bsP l = (l.map zF).map bdOf := fun l hl => by
    rw [List.map_map]; exact List.map_congr_left (fun f hf => (bdOf_zF (hl f hf)).symm)
  rw [e l hl, e m hm, h]
theorem inlC_z {fault : Bool} {a c : PC} {G : List PF} (h : EvC a c) (ha : ∀ f ∈ a.fns, f.parts ≠ []) (hc : ∀ f ∈ c.fns, f.parts ≠ []) (hG : G.map zF = a.fns.map (outF (bsP a.fns) fault)) : EvC ⟨a.gl, a.ini, G, a.ga, a.gc, a.na, a.nc, a.fa, a.fc⟩ (inlC fault c) := by
  have hz : a.fns.map zF = c.fns.map zF := evl_map (g := zF) (fun _ _ => evf_z) h.fns
  have hb := bsP_z hz ha hc
  refine ⟨h.gl, h.ini, map_evl (g := zF) (fun _ _ => z_evf) ?_⟩
  show G.map zF = (c.fns.map (outF (bsP c.fns) fault)).map zF
  have e : ∀ l : List PF, l.map (outF (bsP c.fns) fault) = (l.map zF).map (outF (bsP c.fns) fault) := fun l => by
    rw [List.map_map]; exact List.map_congr_left (fun f _ => (outF_zF _ _ _).symm)
  have h1 : G.map zF = c.fns.map (outF (bsP c.fns) fault) := by rw [hG, hb, e, hz, ← e]
  have h2 : (G.map zF).map zF = G.map zF := by rw [List.map_map]; exact List.map_congr_left (fun f _ => zF_zF f)
  rw [← h1, h2]
theorem codeN_z {a c : PC} (h : EvC a c) : codeN a = codeN c := by
  have hz : a.fns.map zF = c.fns.map zF := evl_map (g := zF) (fun _ _ => evf_z) h.fns
  have e : ∀ l : List PF, l.map fnN = (l.map zF).map fnN := fun l => by rw [List.map_map]; exact List.map_congr_left (fun f _ => (fnN_zF f).symm)
  unfold codeN
  rw [e, hz, ← e]
theorem cnt_le {c : PC} {f : PF} (hf : f ∈ c.fns) : (cntS f.parts : Int) ≤ codeN c := by
  unfold codeN
  have : ∀ l : List PF, f ∈ l → (cntS f.parts : Int) ≤ (l.map fnN).sum ∧ True := by
    intro l
    induction l with
    | nil => intro h; cases h
    | cons g l ih =>
      intro h
      have h0 : ∀ m : List PF, 0 ≤ (m.map fnN).sum := fun m => by
        induction m with
        | nil => simp
        | cons g m ih => rw [List.map_cons, List.sum_cons, cntS_fnN]; omega
      rw [List.map_cons, List.sum_cons]
      rcases List.mem_cons.1 h with rfl | h
      · have := h0 l; rw [cntS_fnN]; exact ⟨by omega, trivial⟩
      · have := (ih h).1; rw [cntS_fnN g]; exact ⟨by omega, trivial⟩
  exact (this c.fns hf).1
end Go.Proofs.Ytnaflfpkkbfnfaa.In
