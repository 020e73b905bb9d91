/-
 Code alike but for where it lies; what right functions have; code in memory of its own, in whatever order: facts on worlds; no conditions but those that each fact bears.
 Making a function straight hangs on no address; what comes of parts leads to parts again: plain facts, no program in sight; no conditions but those that each fact bears.
 Functions in memory while one after another is made straight (Run of flow): what the copy has left, and what holds on the way; facts on worlds; no conditions but those that each fact bears.
 A function that is made straight, in memory (Run of flow): what holds behind each of its steps; facts on worlds; no conditions but those that each fact bears.
 All functions have been made straight (Run of flow): the code that comes of it, alike to the plain answer; facts on worlds; no conditions but those that each fact bears.
-/
import Derived.Test.YtphknepblchkdaaKFlC
import Derived.Test.YtphknepblchkdaaKFcI
import Derived.Test.YtphknepblchkdaaKIrZh
import Derived.Test.YtphknepblchkdaaKDnO
import Derived.Test.YtphknepblchkdaaKFlI
import Derived.Test.YtphknepblchkdaaKFlZ
import Derived.Test.YtphknepblchkdaaKFlT
import Derived.Test.YtphknepblchkdaaKFlK
namespace Go.Proofs.Ytphknepblchkdaa.Fl
open Go.RowKit
open Go.Proofs.Ytphknepblchkdaa.In (zI zP zF zI_zI zP_zP cntS cntS_fnN len_cnt)
set_option linter.unusedVariables false

/-! ### Alike but for where it lies -/
def zC (c : PC) : PC := ⟨c.gl, c.ini, c.fns.map zF, none, 0, none, 0, none, 0⟩
theorem zF_zF (f : PF) : zF (zF f) = zF f := by simp [zF, zP_zP, Function.comp_def]
theorem evl_map {α β : Type} {R : α → α → Prop} {g : α → β} (hR : ∀ x y, R x y → g x = g y) {l m : List α} (h : EvL R l m) : l.map g = m.map g := by
 refine List.ext_getElem? fun k => ?_
 rw [List.getElem?_map, List.getElem?_map]
 cases hx : l[k]? with
 | none =>
  have h1 := List.getElem?_eq_none_iff.1 hx
  rw [List.getElem?_eq_none (by rw [← h.len]; exact h1)]
 | some x =>
  have h1 := (List.getElem?_eq_some_iff.1 hx).1
  obtain ⟨y, hy⟩ := get_of_lt (l := m) (k := k) (by rw [← h.len]; exact h1)
  rw [hy]
  show some (g x) = some (g y)
  rw [hR x y (h.each k x y hx hy)]
theorem map_evl {α β : Type} {R : α → α → Prop} {g : α → β} (hR : ∀ x y, g x = g y → R x y) {l m : List α} (h : l.map g = m.map g) : EvL R l m := by
 refine ⟨by simpa using congrArg List.length h, fun k x y hx hy => hR x y ?_⟩
 have := congrArg (·[k]?) h
 simp only [List.getElem?_map, hx, hy] at this
 simpa using this
theorem evi_z {x y : PI} : EvI x y → zI x = zI y := fun h => by
 obtain ⟨h1, h2, h3, h4, h5, h6, h7⟩ := h
 unfold zI
 rw [h1, h2, h3, h4, h5, h6, h7]
theorem z_evi {x y : PI} (h : zI x = zI y) : EvI x y := by
 unfold zI at h
 injection h with h1 h2 h3 h4 h5 h6 h7
 exact ⟨h1, h2, h3, h4, h5, h6, h7⟩
theorem evp_z {x y : PP} (h : EvP x y) : zP x = zP y := by
 unfold zP
 rw [h.e, h.cond, h.next, h.els, evl_map (g := zI) (fun _ _ => evi_z) h.ins]
theorem z_evp {x y : PP} (h : zP x = zP y) : EvP x y := by
 unfold zP at h
 injection h with h1 h2 h3 h4 h5
 exact ⟨h2, h3, h4, h5, map_evl (fun _ _ => z_evi) h1⟩
theorem evf_z {x y : PF} (h : EvF x y) : zF x = zF y := by
 unfold zF
 rw [h.params, h.regs, h.slots, evl_map (g := zP) (fun _ _ => evp_z) h.parts]
theorem z_evf {x y : PF} (h : zF x = zF y) : EvF x y := by
 unfold zF at h
 injection h with h1 h2 h3 h4
 exact ⟨h1, h2, h3, map_evl (fun _ _ => z_evp) h4⟩
theorem evc_z {a c : PC} (h : EvC a c) : zC a = zC c := by
 unfold zC
 rw [h.gl, h.ini, evl_map (g := zF) (fun _ _ => evf_z) h.fns]
theorem z_evc {a c : PC} (h : zC a = zC c) : EvC a c := by
 unfold zC at h
 injection h with h1 h2 h3
 exact ⟨h1, h2, map_evl (fun _ _ => z_evf) h3⟩

/-! ### What is right hangs on no address -/
theorem insP_z {c d : PC} (hg : d.gl = c.gl) (hp : d.fns.map zF = c.fns.map zF) (k : Nat) {f f' : PF} {x x' : PI} (hf : zF f' = zF f) (hx : zI x' = zI x) : insP d k f' x' = insP c k f x := by
 have e1 := z_evf hf
 have e2 := z_evi hx
 have e3 : f'.slots = f.slots := e1.slots
 have e5 : ∀ j : Nat, (d.fns[j]?).map (fun g : PF => g.params) = (c.fns[j]?).map (fun g : PF => g.params) := fun j => by
  have := congrArg (fun l => (l[j]?).map (fun g : PF => g.params)) hp
  simpa [List.getElem?_map, Function.comp_def, zF] using this
 have e6 : immP d k f' x' = immP c k f x := by
  unfold immP
  rw [e2.op, e2.imm, e2.args, e3, hg]
  have h5 := e5 x.imm.toNat
  cases h1 : d.fns[x.imm.toNat]? with
  | none => cases h2 : c.fns[x.imm.toNat]? with
   | none => rfl
   | some g => rw [h1, h2] at h5; cases h5
  | some g' => cases h2 : c.fns[x.imm.toNat]? with
   | none => rw [h1, h2] at h5; cases h5
   | some g => rw [h1, h2] at h5; simp at h5; dsimp only; rw [h5]
 unfold insP wtP rdsP
 rw [e6, e2.op, e2.ty, e2.dst, e2.a, e2.b, e2.args, e1.regs]
theorem all_z {α β : Type} {g : α → β} {P P' : α → Bool} : ∀ {l m : List α}, l.map g = m.map g → (∀ x y, g x = g y → P' x = P y) → l.all P' = m.all P
 | [], [], _, _ => rfl
 | [], _ :: _, h, _ => by cases h
 | _ :: _, [], h, _ => by cases h
 | x :: l, y :: m, h, hh => by
  rw [List.map_cons, List.map_cons] at h
  injection h with h1 h2
  rw [List.all_cons, List.all_cons, hh x y h1, all_z h2 hh]
theorem len_z {α β : Type} {g : α → β} {l m : List α} (h : l.map g = m.map g) : l.length = m.length := by simpa using congrArg List.length h
theorem endP_z {f f' : PF} {p p' : PP} (hr : f'.regs = f.regs) (hl : f'.parts.length = f.parts.length) (hp : zP p' = zP p) : endP f' p' = endP f p := by
 have e := z_evp hp
 unfold endP
 rw [e.e, e.cond, e.next, e.els, hr, hl]
theorem parts_z {f f' : PF} (hf : zF f' = zF f) : f'.parts.map zP = f.parts.map zP := by
 unfold zF at hf; injection hf
theorem fnP_z {c d : PC} (hg : d.gl = c.gl) (hp : d.fns.map zF = c.fns.map zF) (k : Nat) {f f' : PF} (hf : zF f' = zF f) : fnP d k f' = fnP c k f := by
 have e1 := z_evf hf
 have e2 := parts_z hf
 have e3 := len_z e2
 unfold fnP headP
 rw [e1.params, e1.regs, e1.slots, e3]
 congr 1
 refine all_z e2 fun p' p h => ?_
 unfold ptP
 rw [endP_z e1.regs e3 h]
 congr 1
 have e4 := z_evp h
 exact all_z (by unfold zP at h; injection h) (fun x' x hx => insP_z hg hp k hf hx)

/-! ### What right functions have -/
section
variable {c : PC} {k : Nat} {f : PF} (h : fnP c k f = true)
include h
theorem fn_head : 0 ≤ f.params ∧ f.params ≤ f.regs ∧ f.regs ≤ 20000 ∧ f.parts ≠ [] := by
 unfold fnP headP at h
 simp only [Bool.and_eq_true, Bool.not_eq_true', decide_eq_false_iff_not] at h
 obtain ⟨⟨h1, h2, h3, h4, -⟩, -⟩ := h
 exact ⟨by omega, by omega, by omega, fun e => h4 (by rw [e]; rfl)⟩
theorem fn_part {p : PP} (hp : p ∈ f.parts) : endP f p = true ∧ ∀ x ∈ p.ins, insP c k f x = true := by
 unfold fnP at h
 rw [Bool.and_eq_true, List.all_eq_true] at h
 have := h.2 p hp
 unfold ptP at this
 rw [Bool.and_eq_true, List.all_eq_true] at this
 exact this
theorem fn_end {p : PP} (hp : p ∈ f.parts) : (p.e = true ∨ 0 ≤ p.cond → 0 ≤ p.cond ∧ p.cond < f.regs) ∧ (p.e = false → 0 ≤ p.next ∧ p.next < f.parts.length) ∧ (p.e = false → 0 ≤ p.cond → 0 ≤ p.els ∧ p.els < f.parts.length) := by
 have := (fn_part h hp).1
 unfold endP blP at this
 cases he : p.e with
 | true =>
  rw [he] at this
  simp at this
  exact ⟨fun _ => this, fun q => by simp at q, fun q => by simp at q⟩
 | false =>
  rw [he] at this
  simp only [Bool.false_eq_true, if_false] at this
  split at this
  ·simp at this
   exact ⟨fun q => by simp at q; omega, fun _ => this, fun _ q => by omega⟩
  ·simp at this
   exact ⟨fun _ => this.1, fun _ => this.2.1, fun _ _ => this.2.2⟩
end

theorem cntS_zP (l : List PP) : cntS (l.map zP) = cntS l := by
 unfold cntS; rw [List.map_map]; congr 1; exact List.map_congr_left (fun p _ => by simp [zP])
/-! ### What stays, whatever else is written -/
theorem at_fs {S : Nat → Prop} {V y : World} {b o : Nat} {cs : List Value} (h : At V b o cs) (f : Fs S V y) (hb : ¬ S b) : At y b o cs := fun j hj => by
 have hj' := h j hj
 obtain ⟨v, hv⟩ : ∃ v, cs[j]? = some v := ⟨cs[j], List.getElem?_eq_getElem hj⟩
 rw [hv] at hj' ⊢
 exact f.cell hj' hb
theorem nb_fs {S : Nat → Prop} {V y : World} {lo n : Nat} {a : Option Addr} (h : NB lo V a n) (f : Fs S V y) (hb : ∀ g, n ≠ 0 → a = some ⟨g, 0, none⟩ → ¬ S g) : NB lo y a n := by
 rcases h with h | ⟨g, cs, t, e, hg, hh⟩
 ·exact .inl h
 ·by_cases h0 : n = 0
  ·exact .inl h0
  ·exact .inr ⟨g, cs, t, e, hg, f.heap hh (hb g h0 e)⟩
theorem lst_fs {α : Type} {sz lo : Nat} {V y : World} {P R : Nat → Nat → α → Prop} {a : Option Addr} {l : List α} (h : Lst sz P a l) (hn : NB lo V a l.length) (hR : ∀ g k x, l[k]? = some x → a = some ⟨g, 0, none⟩ → P g (k * sz) x → R g (k * sz) x) : Lst sz R a l := fun k x hx => by
 obtain ⟨g, cs, t, e, hg, hp, -⟩ := own_at h hn hx
 exact ⟨g, 0, e, by rw [Nat.zero_add]; exact hR g k x hx e hp⟩
theorem ints_fs {S : Nat → Prop} {V y : World} {lo : Nat} {a : Option Addr} {l : List Int} (h : Ints V a l) (hn : NB lo V a l.length) (f : Fs S V y) (hb : ∀ g, l ≠ [] → a = some ⟨g, 0, none⟩ → ¬ S g) : Ints y a l :=
 lst_fs (y := y) h hn fun g k x hx e hp => ⟨f.cell hp.1 (hb g (fun q => by rw [q] at hx; cases hx) e), hp.2⟩
/-- A part's lists are its own. -/
structure PM (lo : Nat) (y : World) (p : PP) : Prop where
 ok : p.ok y
 nb : NB lo y p.ia p.ins.length
 ab : ∀ x ∈ p.ins, NB lo y x.aa x.args.length
/-- A function's lists are its own. -/
structure FM (lo : Nat) (y : World) (g : PF) : Prop where
 ok : g.ok y
 sb : NB lo y g.sa g.slots.length
 pb : NB lo y g.pa g.parts.length
 ps : ∀ p ∈ g.parts, PM lo y p
theorem ne_of_len {α : Type} {l : List α} (h : l.length ≠ 0) : l ≠ [] := fun e => h (by rw [e]; rfl)
theorem pm_low {S : Nat → Prop} {V y : World} {lo : Nat} {p : PP} (h : PM lo V p) (f : Fs S V y) (hS : ∀ b, lo ≤ b → ¬ S b) : PM lo y p := by
 have hx : ∀ x ∈ p.ins, x.ok V → x.ok y ∧ NB lo y x.aa x.args.length := fun x hx ho => by
  have hn := h.ab x hx
  have hb' : ∀ g, x.args ≠ [] → x.aa = some ⟨g, 0, none⟩ → ¬ S g := fun g h1 h2 => hS g (hn.lb (len_ne h1) h2).1
  exact ⟨⟨ho.op, ho.ty, ho.dst, ho.a, ho.b, ho.imm, ho.sok, ints_fs ho.args hn f hb'⟩, nb_fs hn f (fun g h1 h2 => hb' g (ne_of_len h1) h2)⟩
 have hb : ∀ g, p.ins ≠ [] → p.ia = some ⟨g, 0, none⟩ → ¬ S g := fun g h1 h2 => hS g (h.nb.lb (len_ne h1) h2).1
 refine ⟨⟨h.ok.cond, h.ok.next, h.ok.els, h.ok.sok, lst_fs (y := y) h.ok.ins h.nb fun g k x hk e hp => ⟨at_fs hp.1 f (hb g (fun q => by rw [q] at hk; (cases hk)) e), (hx x (List.mem_of_getElem? hk) hp.2).1⟩⟩, nb_fs h.nb f (fun g h1 h2 => hb g (ne_of_len h1) h2), fun x hxm => ?_⟩
 obtain ⟨k, hk⟩ := List.getElem?_of_mem hxm
 obtain ⟨b, o, e, hat, hok⟩ := h.ok.ins k x hk
 exact (hx x hxm hok).2
theorem fm_low {S : Nat → Prop} {V y : World} {lo : Nat} {g : PF} (h : FM lo V g) (f : Fs S V y) (hS : ∀ b, lo ≤ b → ¬ S b) : FM lo y g := by
 have hps : ∀ p ∈ g.parts, PM lo y p := fun p hp => pm_low (h.ps p hp) f hS
 refine ⟨⟨h.ok.params, h.ok.regs, h.ok.ssok, ints_fs h.ok.slots h.sb f (fun b h1 h2 => hS b (h.sb.lb (len_ne h1) h2).1), h.ok.psok, lst_fs (y := y) h.ok.parts h.pb fun b j p hj e hpp => ⟨at_fs hpp.1 f (hS b (h.pb.lb (fun q => ?_) e).1), (hps p (List.mem_of_getElem? hj)).ok⟩⟩, nb_fs h.sb f (fun b h1 h2 => hS b (h.sb.lb h1 h2).1), nb_fs h.pb f (fun b h1 h2 => hS b (h.pb.lb h1 h2).1), hps⟩
 have := (List.getElem?_eq_some_iff.1 hj).1
 omega
/-- Code in memory of its own, in whatever order. -/
structure CodeM (lo : Nat) (W : World) (a : PC) : Prop where
 ok : a.ok W
 gn : NB lo W a.ga a.gl.length
 nn : NB lo W a.na a.ini.length
 fb : NB lo W a.fa a.fns.length
 fn : ∀ f ∈ a.fns, FM lo W f
theorem CodeM.low {S : Nat → Prop} {V y : World} {lo : Nat} {a : PC} (h : CodeM lo V a) (f : Fs S V y) (hS : ∀ b, lo ≤ b → ¬ S b) : CodeM lo y a := by
 have hfn : ∀ g ∈ a.fns, FM lo y g := fun g hg => fm_low (h.fn g hg) f hS
 refine ⟨⟨h.ok.gsok, ints_fs h.ok.gl h.gn f (fun b h1 h2 => hS b (h.gn.lb (len_ne h1) h2).1), h.ok.nsok, ints_fs h.ok.ini h.nn f (fun b h1 h2 => hS b (h.nn.lb (len_ne h1) h2).1), h.ok.fsok, lst_fs (y := y) h.ok.fns h.fb fun b j p hj e hpp => ⟨at_fs hpp.1 f (hS b (h.fb.lb (fun q => ?_) e).1), (hfn p (List.mem_of_getElem? hj)).ok⟩⟩, nb_fs h.gn f (fun b h1 h2 => hS b (h.gn.lb h1 h2).1), nb_fs h.nn f (fun b h1 h2 => hS b (h.nn.lb h1 h2).1), nb_fs h.fb f (fun b h1 h2 => hS b (h.fb.lb h1 h2).1), hfn⟩
 have := (List.getElem?_eq_some_iff.1 hj).1
 omega
theorem NB.mono' {lo lo' : Nat} {W : World} {a : Option Addr} {n : Nat} (h : NB lo W a n) (hl : lo' ≤ lo) : NB lo' W a n := by
 rcases h with h | ⟨g, cs, t, e, hg, hh⟩
 ·exact .inl h
 ·exact .inr ⟨g, cs, t, e, Nat.le_trans hl hg, hh⟩
theorem CodeM.mono {lo lo' : Nat} {W : World} {a : PC} (h : CodeM lo W a) (hl : lo' ≤ lo) : CodeM lo' W a :=
 ⟨h.ok, NB.mono' h.gn hl, NB.mono' h.nn hl, NB.mono' h.fb hl, fun f hf => ⟨(h.fn f hf).ok, NB.mono' (h.fn f hf).sb hl, NB.mono' (h.fn f hf).pb hl, fun p hp => ⟨((h.fn f hf).ps p hp).ok, NB.mono' ((h.fn f hf).ps p hp).nb hl, fun x hx => NB.mono' (((h.fn f hf).ps p hp).ab x hx) hl⟩⟩⟩
theorem CodeM.keep {lo : Nat} {W W' : World} {a : PC} (h : CodeM lo W a) (q : Q W W') : CodeM lo W' a := h.low (S := fun _ => False) (Fs.of_q q) (fun _ _ h => h)

theorem fnN_zF (f : PF) : fnN (zF f) = fnN f := by
 rw [cntS_fnN, cntS_fnN]
 show ((cntS (f.parts.map zP) : Nat) : Int) = _
 rw [cntS_zP]
theorem codeN_z {a c : PC} (h : EvC a c) : codeN a = codeN c := by
 have hz : a.fns.map zF = c.fns.map zF := evl_map (g := zF) (fun _ _ => evf_z) h.fns
 have e : ∀ l : List PF, l.map fnN = (l.map zF).map fnN := fun l => by rw [List.map_map]; exact List.map_congr_left (fun f _ => (fnN_zF f).symm)
 unfold codeN
 rw [e, hz, ← e]
theorem cnt_le {c : PC} {f : PF} (hf : f ∈ c.fns) : (cntS f.parts : Int) ≤ codeN c := by
 unfold codeN
 have : ∀ l : List PF, f ∈ l → (cntS f.parts : Int) ≤ (l.map fnN).sum ∧ True := by
  intro l
  induction l with
  | nil => intro h; cases h
  | cons g l ih =>
   intro h
   have h0 : ∀ m : List PF, 0 ≤ (m.map fnN).sum := fun m => by
    induction m with
    | nil => simp
    | cons g m ih => rw [List.map_cons, List.sum_cons, cntS_fnN]; omega
   rw [List.map_cons, List.sum_cons]
   rcases List.mem_cons.1 h with rfl | h
   ·have := h0 l; rw [cntS_fnN]; exact ⟨by omega, trivial⟩
   ·have := (ih h).1; rw [cntS_fnN g]; exact ⟨by omega, trivial⟩
 exact (this c.fns hf).1
end Go.Proofs.Ytphknepblchkdaa.Fl

namespace Go.Proofs.Ytphknepblchkdaa.Fl
open Go.RowKit
open Go.Proofs.Ytphknepblchkdaa.In (zI zP zF zI_zI zP_zP cntS cntS_fnN len_cnt)
set_option linter.unusedVariables false

/-! ### Alike -/
theorem lastI_z (l : List PI) (r : Int) : lastI (l.map zI) r = (lastI l r).map zI := by
 unfold lastI
 rw [← List.map_reverse, List.find?_map]
 rfl
theorem takeP_z (fault : Bool) (p : PP) : takeP fault (zP p) = zP (takeP fault p) := by
 unfold takeP
 show (if brP p = true then _ else _) = _
 by_cases hb : brP p = true
 ·rw [if_pos hb, if_pos hb]
  show (match lastI (p.ins.map zI) p.cond with | some x => _ | none => _) = _
  rw [lastI_z]
  cases lastI p.ins p.cond with
  | none => rfl
  | some x =>
   show (if x.op = 20 then _ else _) = zP (if x.op = 20 then _ else _)
   by_cases h : x.op = 20
   ·rw [if_pos h, if_pos h]; rfl
   ·rw [if_neg h, if_neg h]
 ·rw [if_neg hb, if_neg hb]
theorem tkL_z (fault : Bool) (L : List PP) : tkL fault (L.map zP) = (tkL fault L).map zP := by
 unfold tkL
 rw [List.map_map, List.map_map]
 exact List.map_congr_left fun p _ => takeP_z fault p
theorem begS_z (s : Cs) (n : Nat) (p : PP) : s.begS n (zP p) = s.begS n p := by
 unfold Cs.begS
 have e : (zP p).ins.length = p.ins.length := by simp [zP]
 rw [e]; rfl
theorem begTo_z (L : List PP) : ∀ k, Cs.begTo (L.map zP) k = Cs.begTo L k
 | 0 => by unfold Cs.begTo; rw [List.length_map]
 | k + 1 => by
  unfold Cs.begTo
  rw [begTo_z L k, List.getElem?_map]
  cases L[k]? with
  | none => rfl
  | some p => exact begS_z _ k p
theorem look_z (L : List PP) (s : Cs) (n : Nat) : s.look (L.map zP) n = s.look L n := by
 unfold Cs.look
 rw [List.getElem?_map]
 cases L[n]? <;> rfl
theorem loop_z (L : List PP) : ∀ (m : Nat) (s : Cs), s.mu ≤ m → s.loop (L.map zP) = s.loop L
 | m, s, hm => by
  rw [Cs.loop, Cs.loop]
  cases s.td.getLast? with
  | none => rfl
  | some n =>
   dsimp only
   rw [look_z]
   by_cases h : (s.pop.look L n).mu < s.mu
   ·rw [dif_pos h, dif_pos h]
    match m, hm with
    | 0, hm => omega
    | m + 1, hm => exact loop_z L m _ (by omega)
   ·rw [dif_neg h, dif_neg h]
theorem endC_z (L : List PP) : endC (L.map zP) = endC L := by
 unfold endC
 rw [List.length_map, begTo_z]
 exact loop_z L _ _ (Nat.le_refl _)
theorem pasP_z (s : Cs) (p : PP) : pasP s (zP p) = zP (pasP s p) := by
 unfold pasP
 show (if p.e = true then _ else if (s.ends p).1 = (s.ends p).2 then _ else _) = _
 by_cases h : p.e = true
 ·rw [if_pos h, if_pos h]
 ·rw [if_neg h, if_neg h]
  by_cases h2 : (s.ends p).1 = (s.ends p).2
  ·rw [if_pos h2, if_pos h2]; rfl
  ·rw [if_neg h2, if_neg h2]; rfl
theorem pasL_z (L : List PP) : pasL (L.map zP) = (pasL L).map zP := by
 unfold pasL
 rw [endC_z, List.map_map, List.map_map]
 exact List.map_congr_left fun p _ => pasP_z _ p
theorem fstL_z (L : List PP) : fstL (L.map zP) = fstL L := by unfold fstL; rw [endC_z]
theorem ordL_z (L : List PP) (first : Nat) : ordL (L.map zP) first = ordL L first := by
 unfold ordL ordTo
 rw [List.length_map]
 congr 1
 refine List.filter_congr fun n _ => ?_
 rw [rchB_z]
theorem renP_z (l : List Nat) (p : PP) : renP l (zP p) = zP (renP l p) := by
 unfold renP
 show (if p.e then _ else if p.cond < 0 then _ else _) = _
 by_cases h : p.e = true
 ·rw [if_pos h, if_pos h]; rfl
 ·rw [if_neg h, if_neg h]
  by_cases h2 : p.cond < 0
  ·rw [if_pos h2, if_pos h2]; rfl
  ·rw [if_neg h2, if_neg h2]; rfl
theorem inoP_z (L : List PP) (first : Nat) : inoP (L.map zP) first = (inoP L first).map zP := by
 unfold inoP
 rw [ordL_z, List.map_map]
 refine List.map_congr_left fun n _ => ?_
 have : (((L.map zP)[n]?).getD zeroP) = zP ((L[n]?).getD zeroP) := by
  rw [List.getElem?_map]
  cases L[n]? <;> rfl
 show renP _ _ = zP (renP _ _)
 rw [this, renP_z]

/-! ### Parts lead to parts -/
def Hl (N : Nat) (s : Cs) : Prop := ∀ x ∈ s.hd, x < N
theorem hl_get {N : Nat} {s : Cs} (h : Hl N s) (hN : 0 < N) (k : Nat) : (s.hd[k]?).getD 0 < N := by
 cases e : s.hd[k]? with
 | none => exact hN
 | some x => exact h x (List.mem_of_getElem? e)
theorem hl_set {N : Nat} {l : List Nat} (h : ∀ x ∈ l, x < N) {k v : Nat} (hv : v < N) : ∀ x ∈ l.set k v, x < N := fun x hx => by
 rcases List.mem_or_eq_of_mem_set hx with q | q
 ·exact h x q
 ·rw [q]; exact hv
theorem hl_one {N : Nat} {s : Cs} (h : Hl N s) {a b d : Nat} (hd : d < N) : Hl N (s.one a b d) := hl_set h hd
theorem hl_look {N : Nat} {s : Cs} (h : Hl N s) (hN : 0 < N) (L : List PP) (n : Nat) : Hl N (s.look L n) := by
 unfold Cs.look
 split
 ·split
  ·unfold Cs.unite
   split
   ·exact hl_one h (hl_get h hN _)
   ·exact hl_one h (hl_get h hN _)
  ·exact h
 ·exact h
theorem loop_gd {L : List PP} {N : Nat} (hL : L.length = N) (hw : WyL L) (hN : 0 < N) : ∀ (m : Nat) (s : Cs), s.mu ≤ m → Gd L N s → Hl N s → Gd L N (s.loop L) ∧ Hl N (s.loop L)
 | m, s, hm, g, h => by
  cases htd : s.td.getLast? with
  | none => rw [loop_end L s htd]; exact ⟨g, h⟩
  | some n =>
   obtain ⟨-, g1, m1, l1⟩ := g.step hL hw htd
   rw [l1]
   match m, hm with
   | 0, hm => omega
   | m + 1, hm => exact loop_gd hL hw hN m _ (by omega) g1 (hl_look (s := s.pop) h hN L n)
theorem begTo_hl {L : List PP} : ∀ k, k ≤ L.length → 0 < L.length → Hl L.length (Cs.begTo L k)
 | 0, _, hN => fun x hx => by
  have : x = 0 := List.eq_of_mem_replicate hx
  omega
 | k + 1, hk, hN => by
  have ih := begTo_hl (L := L) k (by omega) hN
  unfold Cs.begTo
  split
  ·unfold Cs.begS
   split
   ·exact hl_set ih (by omega)
   ·exact hl_set ih (by omega)
  ·exact ih
theorem endC_gd {L : List PP} (hw : WyL L) (hN : 0 < L.length) : Gd L L.length (endC L) ∧ Hl L.length (endC L) :=
 loop_gd rfl hw hN _ _ (Nat.le_refl _) (begTo_gd hw L.length (Nat.le_refl _)).1 (begTo_hl L.length (Nat.le_refl _) hN)
theorem fstL_lt {L : List PP} (hw : WyL L) (hN : 0 < L.length) : fstL L < L.length := hl_get (endC_gd hw hN).2 hN _
theorem pasL_wy {L : List PP} (hw : WyL L) (hN : 0 < L.length) : WyL (pasL L) := fun q hq => by
 obtain ⟨p, hp, rfl⟩ := List.mem_map.1 hq
 have h := hw p hp
 obtain ⟨-, hl⟩ := endC_gd hw hN
 rw [show (pasL L).length = L.length by unfold pasL; simp]
 unfold pasP
 split
 ·exact h
 ·split
  ·have := hl_get hl hN ((endC L).ends p).1
   exact Wy.go ⟨by omega, by omega⟩
  ·have h1 := hl_get hl hN ((endC L).ends p).1
   have h2 := hl_get hl hN ((endC L).ends p).2
   exact ⟨fun _ => ⟨by dsimp only; omega, by dsimp only; omega⟩, fun _ _ => ⟨by dsimp only; omega, by dsimp only; omega⟩⟩
theorem tkL_wy {L : List PP} (hw : WyL L) (fault : Bool) : WyL (tkL fault L) := fun q hq => by
 obtain ⟨p, hp, rfl⟩ := List.mem_map.1 hq
 rw [show (tkL fault L).length = L.length by unfold tkL; simp]
 exact (hw p hp).take fault
theorem takeP_ins (fault : Bool) (p : PP) : (takeP fault p).ins = p.ins ∧ (takeP fault p).ia = p.ia ∧ (takeP fault p).ic = p.ic ∧ ((takeP fault p).cond = p.cond ∨ (takeP fault p).cond = -1) := by
 unfold takeP
 split
 ·split
  ·split
   ·exact ⟨rfl, rfl, rfl, .inr rfl⟩
   ·exact ⟨rfl, rfl, rfl, .inl rfl⟩
  ·exact ⟨rfl, rfl, rfl, .inl rfl⟩
 ·exact ⟨rfl, rfl, rfl, .inl rfl⟩
theorem pasP_ins (s : Cs) (p : PP) : (pasP s p).ins = p.ins ∧ (pasP s p).ia = p.ia ∧ (pasP s p).ic = p.ic ∧ ((pasP s p).cond = p.cond ∨ (pasP s p).cond = -1) := by
 unfold pasP
 split
 ·exact ⟨rfl, rfl, rfl, .inl rfl⟩
 ·split
  ·exact ⟨rfl, rfl, rfl, .inr rfl⟩
  ·exact ⟨rfl, rfl, rfl, .inl rfl⟩
/-- What take and passBy leave of a part. -/
structure Lft (p q : PP) : Prop where
 ins : q.ins = p.ins
 ia : q.ia = p.ia
 ic : q.ic = p.ic
 cond : q.cond = p.cond ∨ q.cond = -1
theorem Lft.refl (p : PP) : Lft p p := ⟨rfl, rfl, rfl, .inl rfl⟩
theorem lft_all (fault : Bool) (L : List PP) {k : Nat} {q : PP} (h : (pasL (tkL fault L))[k]? = some q) : ∃ p, L[k]? = some p ∧ Lft p q := by
 unfold pasL tkL at h
 rw [List.getElem?_map, List.getElem?_map] at h
 cases hp : L[k]? with
 | none => rw [hp] at h; cases h
 | some p =>
  rw [hp] at h
  injection h with h
  obtain ⟨a1, a2, a3, a4⟩ := takeP_ins fault p
  obtain ⟨b1, b2, b3, b4⟩ := pasP_ins (endC (L.map (takeP fault))) (takeP fault p)
  refine ⟨p, rfl, ?_, ?_, ?_, ?_⟩
  ·rw [← h]; exact b1.trans a1
  ·rw [← h]; exact b2.trans a2
  ·rw [← h]; exact b3.trans a3
  ·rw [← h]
   rcases b4 with b4 | b4
   ·rw [b4]; exact a4
   ·exact .inr b4
theorem sum_le' {α : Type} {f g : α → Nat} : ∀ {l : List α}, (∀ x ∈ l, f x ≤ g x) → (l.map f).sum ≤ (l.map g).sum
 | [], _ => Nat.le_refl _
 | x :: l, h => by
  have h1 := h x (List.mem_cons_self ..)
  have h2 := sum_le' (f := f) (g := g) (l := l) fun y hy => h y (List.mem_cons_of_mem _ hy)
  simp only [List.map_cons, List.sum_cons]
  omega
theorem range_map {α β : Type} (l : List α) (d : α) (g : α → β) : (List.range l.length).map (fun j => g ((l[j]?).getD d)) = l.map g := by
 refine List.ext_getElem? fun k => ?_
 rw [List.getElem?_map, List.getElem?_map]
 by_cases hk : k < l.length
 ·rw [List.getElem?_range hk]
  obtain ⟨x, hx⟩ := get_of_lt hk
  rw [hx]
  show some (g ((l[k]?).getD d)) = _
  rw [hx]; rfl
 ·rw [List.getElem?_eq_none (by simpa using hk), List.getElem?_eq_none (by simpa using hk)]; rfl
theorem lvL_cnt (L : List PP) (ws : List Nat) : lvL L ws ≤ cntS L := by
 unfold lvL cntS
 rw [← range_map L zeroP]
 refine sum_le' fun j _ => ?_
 unfold lvI
 split
 ·show (ptN L j).ins.length ≤ 1 + (ptN L j).ins.length
  omega
 ·omega
end Go.Proofs.Ytphknepblchkdaa.Fl

namespace Go.Proofs.Ytphknepblchkdaa.Fl
open Go.RowKit
open Go.Proofs.Ytphknepblchkdaa.In (zI zP zF zI_zI zP_zP cntS cntS_fnN len_cnt)
open Go.Proofs.Ytphknepblchkdaa.Fc (RwI)
set_option linter.unusedVariables false

/-- A function's blocks that may be written: that of its parts, those of their instructions. -/
def fB (f : PF) (b : Nat) : Prop := f.pa = some ⟨b, 0, none⟩ ∨ ∃ p ∈ f.parts, p.ia = some ⟨b, 0, none⟩
def SA (FA : Nat) (l : List PF) (k : Nat) (b : Nat) : Prop := b = FA ∨ ∃ i f, k ≤ i ∧ l[i]? = some f ∧ fB f b
def SB (FA : Nat) (l : List PF) (k : Nat) (b : Nat) : Prop := b = FA ∨ ∃ i f, i < k ∧ l[i]? = some f ∧ fB f b
/-- Those of the others. -/
def SX (FA : Nat) (l : List PF) (k : Nat) (b : Nat) : Prop := b = FA ∨ ∃ i f, i ≠ k ∧ l[i]? = some f ∧ fB f b
/-- .. and the one of the parts. -/
def SY (FA : Nat) (l : List PF) (k : Nat) (b : Nat) : Prop := SX FA l k b ∨ ∃ f, l[k]? = some f ∧ f.pa = some ⟨b, 0, none⟩
/-- What the copy has left. -/
structure Cpy (lo FA : Nat) (l : List PF) (V : World) : Prop where
 blk : V.heap[FA]? = some (.cells (l.flatMap PF.cells).toArray 44 (0, 0))
 lof : lo ≤ FA
 hd : ∀ (k : Nat) (f : PF), l[k]? = some f → I64 f.params ∧ I64 f.regs ∧ sok 8 f.sa f.slots.length f.sc ∧ sok 56 f.pa f.parts.length f.pc
 nu : ∀ (k : Nat) (f : PF), l[k]? = some f → ∀ p ∈ f.parts, I64 p.cond ∧ I64 p.next ∧ I64 p.els ∧ sok 64 p.ia p.ins.length p.ic ∧ p.ic = p.ins.length
 rw : ∀ (k : Nat) (f : PF), l[k]? = some f → ∀ p ∈ f.parts, ∀ y, Fs (SY FA l k) V y → RwI lo y p.ia p.ins
 sep : ∀ (k : Nat) (f : PF), l[k]? = some f → ∀ (i j : Nat) (p q : PP) (g h : Nat), f.parts[i]? = some p → f.parts[j]? = some q → i ≠ j → p.ia = some ⟨g, 0, none⟩ → q.ia = some ⟨h, 0, none⟩ → g ≠ h
 ab : ∀ (k : Nat) (f : PF), l[k]? = some f → ∀ p ∈ f.parts, ∀ x ∈ p.ins, ∀ y, Fs (SA FA l 0) V y → x.ok y ∧ NB lo y x.aa x.args.length
 sl : ∀ (k : Nat) (f : PF), l[k]? = some f → ∀ y, Fs (SA FA l 0) V y → Ints y f.sa f.slots ∧ NB lo y f.sa f.slots.length
 pb : ∀ (k : Nat) (f : PF), l[k]? = some f → ∃ Pb, f.pa = some ⟨Pb, 0, none⟩ ∧ Pb < V.heap.size ∧ lo ≤ Pb ∧ (∀ p ∈ f.parts, p.ia ≠ some ⟨Pb, 0, none⟩) ∧ ¬ SX FA l k Pb ∧ V.heap[Pb]? = some (.cells (f.parts.flatMap PP.cells).toArray 47 (0, 0)) ∧ f.pc = f.parts.length
 rb : ∀ (k : Nat) (f : PF), l[k]? = some f → ∀ p ∈ f.parts, ∀ g, p.ia = some ⟨g, 0, none⟩ → g < V.heap.size ∧ lo ≤ g ∧ ¬ SX FA l k g
theorem rwi_fs {S : Nat → Prop} {lo : Nat} {V y : World} {a : Option Addr} {l : List PI} (h : RwI lo V a l) (f : Fs S V y) (hb : ∀ g, a = some ⟨g, 0, none⟩ → ¬ S g) : RwI lo y a l := h.imp id fun ⟨g, e, hg, hh⟩ => ⟨g, e, hg, f.heap hh (hb g e)⟩
theorem cpy_of {lo : Nat} {W V : World} {A : PC} (h : Fc.CodeL lo W A) (q : Q W V) (hne : A.fns ≠ []) (hp : ∀ f ∈ A.fns, f.parts ≠ []) : ∃ FA, A.fa = some ⟨FA, 0, none⟩ ∧ lo ≤ FA ∧ FA < W.heap.size ∧ Cpy lo FA A.fns V := by
 obtain ⟨FA, efa, hrow⟩ := h.fn.row.resolve_left hne
 obtain ⟨hlo, hsz⟩ := h.fn.nb.lb (len_ne hne) efa
 have hgo := h.go.1 FA (.inr (.inr ⟨hne, efa⟩))
 have toB : ∀ (k : Nat) (f : PF), A.fns[k]? = some f → ∀ b, fB f b → Fc.fnB f b := fun k f hk b hb => by
  rcases hb with hb | ⟨p, hpm, hb⟩
  ·exact .inr (.inl ⟨hp f (List.mem_of_getElem? hk), hb⟩)
  ·exact .inr (.inr ⟨p, hpm, .inl hb⟩)
 have notX : ∀ (k : Nat) (f : PF), A.fns[k]? = some f → ∀ b, Fc.fnB f b → ¬ SX FA A.fns k b := fun k f hk b hb hS => by
  have hfm := List.mem_of_getElem? hk
  rcases hS with e | ⟨i, g, hne', hi, hg⟩
  ·have := hgo f hfm b hb; omega
  ·have hgb := toB i g hi b hg
   rcases Nat.lt_trichotomy i k with c | c | c
   ·have := h.fn.ord i k g f hi hk c b b hgb hb; omega
   ·exact hne' c
   ·have := h.fn.ord k i f g hk hi c b b hb hgb; omega
 -- a block that is none of the function's own to be written
 have notA : ∀ (k : Nat) (f : PF), A.fns[k]? = some f → ∀ b, Fc.fnB f b → ¬ fB f b → ¬ SA FA A.fns 0 b := fun k f hk b hb hnb hS => by
  rcases hS with e | ⟨i, g, -, hi, hg⟩
  ·exact notX k f hk b hb (.inl e)
  ·by_cases c : i = k
   ·subst c
    rw [hk] at hi; injection hi with hi; subst hi
    exact hnb hg
   ·exact notX k f hk b hb (.inr ⟨i, g, c, hi, hg⟩)
 have sN : ∀ (k : Nat) (f : PF), A.fns[k]? = some f → ∀ b, sB f b → ¬ SA FA A.fns 0 b := fun k f hk b hb => notA k f hk b (.inl hb) (fun hf => by
  have hso := (h.fn.each f (List.mem_of_getElem? hk)).so
  rcases hf with hf | ⟨p, hpm, hf⟩
  ·have := hso.sp b b hb ⟨hp f (List.mem_of_getElem? hk), hf⟩; omega
  ·have := hso.st b b hb ⟨p, hpm, .inl hf⟩; omega)
 have aN : ∀ (k : Nat) (f : PF), A.fns[k]? = some f → ∀ p ∈ f.parts, ∀ x ∈ p.ins, ∀ b, aaB x b → ¬ SA FA A.fns 0 b := fun k f hk p hpm x hx b hb => notA k f hk b (.inr (.inr ⟨p, hpm, .inr ⟨x, hx, hb⟩⟩)) (fun hf => by
  have hfm := List.mem_of_getElem? hk
  have hn := h.fn.each f hfm
  rcases hf with hf | ⟨p2, hpm2, hf⟩
  ·have := hn.so.pt b b ⟨hp f hfm, hf⟩ ⟨p, hpm, .inr ⟨x, hx, hb⟩⟩; omega
  ·obtain ⟨i, hi⟩ := List.getElem?_of_mem hpm
   obtain ⟨j, hj⟩ := List.getElem?_of_mem hpm2
   rcases Nat.lt_trichotomy i j with c | c | c
   ·have := hn.parts.ord i j p p2 b b hi hj c (.inr ⟨x, hx, hb⟩) (.inl hf); omega
   ·subst c
    rw [hi] at hj; injection hj with hj; subst hj
    have := (hn.parts.each p hpm).ord.beh x hx b hb b hf; omega
   ·have := hn.parts.ord j i p2 p b b hj hi c (.inl hf) (.inr ⟨x, hx, hb⟩); omega)
 refine ⟨FA, efa, hlo, hsz, heap_keep q hrow, hlo, fun k f hk => ?_, fun k f hk p hpm => ?_, fun k f hk p hpm y hy => ?_, fun k f hk i j p1 p2 g1 g2 hi hj hij e1 e2 e => ?_, fun k f hk p hpm x hx y hy => ?_, fun k f hk y hy => ?_, fun k f hk => ?_, fun k f hk p hpm g hg => ?_⟩
 ·obtain ⟨b, o, e, hat, hok⟩ := h.fn.at' k f hk
  exact ⟨hok.params, hok.regs, hok.ssok, hok.psok⟩
 ·obtain ⟨b, o, e, hat, hok⟩ := h.fn.at' k f hk
  obtain ⟨j, hj⟩ := List.getElem?_of_mem hpm
  obtain ⟨b2, o2, e2, hat2, hok2⟩ := hok.parts j p hj
  exact ⟨hok2.cond, hok2.next, hok2.els, hok2.sok, (h.fn.each f (List.mem_of_getElem? hk)).parts.ic p hpm⟩
 ·have hfm := List.mem_of_getElem? hk
  refine rwi_fs ((h.fn.each f hfm).parts.each p hpm).rw0 ((Fs.of_q q).trans hy) (fun g hg hS => ?_)
  have hb : Fc.fnB f g := .inr (.inr ⟨p, hpm, .inl hg⟩)
  rcases hS with hS | ⟨f2, hk2, hS⟩
  ·exact notX k f hk g hb hS
  ·rw [hk] at hk2; injection hk2 with hk2; subst hk2
   have := (h.fn.each f hfm).so.pt g g ⟨hp f hfm, hS⟩ ⟨p, hpm, .inl hg⟩; omega
 ·have hn := h.fn.each f (List.mem_of_getElem? hk)
  rcases Nat.lt_trichotomy i j with c | c | c
  ·have := hn.parts.ord i j p1 p2 g1 g2 hi hj c (.inl e1) (.inl e2); omega
  ·exact hij c
  ·have := hn.parts.ord j i p2 p1 g2 g1 hj hi c (.inl e2) (.inl e1); omega
 ·obtain ⟨b, o, e, hat, hok⟩ := h.fn.at' k f hk
  obtain ⟨j, hj⟩ := List.getElem?_of_mem hpm
  obtain ⟨b2, o2, e2, hat2, hok2⟩ := hok.parts j p hj
  obtain ⟨i, hi⟩ := List.getElem?_of_mem hx
  obtain ⟨b3, o3, e3, hat3, ho⟩ := hok2.ins i x hi
  have hn := ((h.fn.each f (List.mem_of_getElem? hk)).parts.each p hpm).each x hx
  have hy2 := (Fs.of_q q).trans hy
  have hb' : ∀ g, x.args ≠ [] → x.aa = some ⟨g, 0, none⟩ → ¬ SA FA A.fns 0 g := fun g h1 h2 => aN k f hk p hpm x hx g ⟨h1, h2⟩
  exact ⟨⟨ho.op, ho.ty, ho.dst, ho.a, ho.b, ho.imm, ho.sok, ints_fs ho.args hn hy2 hb'⟩, nb_fs hn hy2 (fun g h1 h2 => hb' g (ne_of_len h1) h2)⟩
 ·obtain ⟨b, o, e, hat, hok⟩ := h.fn.at' k f hk
  have hn := h.fn.each f (List.mem_of_getElem? hk)
  have hy2 : Fs (SA FA A.fns 0) W y := (Fs.of_q q).trans hy
  exact ⟨ints_fs hok.slots hn.slots hy2 (fun g h1 h2 => sN k f hk g ⟨h1, h2⟩), nb_fs hn.slots hy2 (fun g h1 h2 => sN k f hk g ⟨ne_of_len h1, h2⟩)⟩
 ·have hfm := List.mem_of_getElem? hk
  have hn := h.fn.each f hfm
  obtain ⟨Pb, epa, hrp⟩ := hn.parts.row.resolve_left (hp f hfm)
  obtain ⟨h1, h2⟩ := hn.parts.nb.lb (len_ne (hp f hfm)) epa
  refine ⟨Pb, epa, Nat.lt_of_lt_of_le h2 q.size, h1, fun p hpm e => ?_, notX k f hk Pb (.inr (.inl ⟨hp f hfm, epa⟩)), heap_keep q hrp, hn.cap⟩
  have := hn.so.pt Pb Pb ⟨hp f hfm, epa⟩ ⟨p, hpm, .inl e⟩; omega
 ·have hfm := List.mem_of_getElem? hk
  have hn := h.fn.each f hfm
  obtain ⟨h1, h2⟩ := ((hn.parts.each p hpm).rw0).lb hg
  exact ⟨Nat.lt_of_lt_of_le h2 q.size, h1, notX k f hk g (.inr (.inr ⟨p, hpm, .inl hg⟩))⟩

/-! ### On the way -/
structure RS' (V : World) (lo FA : Nat) (l : List PF) (fault : Bool) (k : Nat) (G : List PF) (W : World) : Prop where
 fs : Fs (SB FA l k) V W
 blk : W.heap[FA]? = some (.cells (G.flatMap PF.cells).toArray 44 (0, 0))
 len : G.length = l.length
 old : ∀ i, k ≤ i → G[i]? = l[i]?
 done : ∀ (i : Nat) (f g : PF), i < k → l[i]? = some f → G[i]? = some g → zF g = floF fault f ∧ ∀ y, Fs (SA FA l k) W y → FM lo y g
section
variable {V W W' : World} {lo FA k : Nat} {l G : List PF} {fault : Bool} {f : PF}
theorem SB.sx {b : Nat} (h : SB FA l k b) : SX FA l k b := h.imp id fun ⟨i, f, h1, h2⟩ => ⟨i, f, by omega, h2⟩
theorem SA.sx {b : Nat} (h : SA FA l (k + 1) b) : SX FA l k b := h.imp id fun ⟨i, f, h1, h2⟩ => ⟨i, f, by omega, h2⟩
theorem SB.up {b : Nat} (h : SB FA l k b) : SB FA l (k + 1) b := h.imp id fun ⟨i, f, h1, h2⟩ => ⟨i, f, by omega, h2⟩
theorem SA.dn {b : Nat} (h : SA FA l (k + 1) b) : SA FA l k b := h.imp id fun ⟨i, f, h1, h2⟩ => ⟨i, f, by omega, h2⟩
theorem SA.all {b : Nat} (h : SA FA l k b) : SA FA l 0 b := h.imp id fun ⟨i, f, h1, h2⟩ => ⟨i, f, by omega, h2⟩
theorem SB.all {b : Nat} (h : SB FA l k b) : SA FA l 0 b := h.imp id fun ⟨i, f, h1, h2⟩ => ⟨i, f, by omega, h2⟩
theorem Fs.sub {S T : Nat → Prop} {A B : World} (h : Fs S A B) (hs : ∀ k, S k → T k) : Fs T A B := h.less fun k q => .inl (hs k q)
theorem RS'.start (h : Cpy lo FA l V) : RS' V lo FA l fault 0 l V := ⟨Fs.refl _ _, h.blk, rfl, fun _ _ => rfl, fun i f g h => absurd h (Nat.not_lt_zero _)⟩
theorem RS'.q (h : RS' V lo FA l fault k G W) (q : Q W W') : RS' V lo FA l fault k G W' :=
 ⟨h.fs.trans (Fs.of_q q), heap_keep q h.blk, h.len, h.old, fun i f g h1 h2 h3 => ⟨(h.done i f g h1 h2 h3).1, fun y hy => (h.done i f g h1 h2 h3).2 y ((Fs.of_q q).trans hy)⟩⟩
theorem RS'.at' (h : RS' V lo FA l fault k G W) {i : Nat} {g : PF} (hg : G[i]? = some g) : At W FA (i * 4) g.cells := flat_block PF.len h.blk hg
/-- One more. -/
theorem RS'.next (h : RS' V lo FA l fault k G W) (hk : l[k]? = some f) {g : PF} (hfs : Fs (fun b => b = FA ∨ fB f b) W W') (hblk : W'.heap[FA]? = some (.cells ((G.set k g).flatMap PF.cells).toArray 44 (0, 0))) (hz : zF g = floF fault f) (hm : ∀ y, Fs (SA FA l (k + 1)) W' y → FM lo y g) : RS' V lo FA l fault (k + 1) (G.set k g) W' := by
 refine ⟨(h.fs.sub fun _ => SB.up).trans (hfs.sub fun b hb => ?_), hblk, by simp [h.len], fun i hi => ?_, fun i f2 g2 h1 h2 h3 => ?_⟩
 ·rcases hb with hb | hb
  ·exact .inl hb
  ·exact .inr ⟨k, f, by omega, hk, hb⟩
 ·rw [List.getElem?_set_ne (by omega)]
  exact h.old i (by omega)
 ·rw [List.getElem?_set] at h3
  split at h3
  ·rename_i e
   subst e
   rw [hk] at h2; injection h2 with h2; subst h2
   split at h3
   ·injection h3 with h3; subst h3
    exact ⟨hz, hm⟩
   ·cases h3
  ·obtain ⟨d1, d2⟩ := h.done i f2 g2 (by omega) h2 h3
   refine ⟨d1, fun y hy => d2 y ((hfs.sub fun b hb => ?_).trans (hy.sub fun _ => SA.dn))⟩
   rcases hb with hb | hb
   ·exact .inl hb
   ·exact .inr ⟨k, f, Nat.le_refl _, hk, hb⟩
/-- The parts of the function of now. -/
theorem Cpy.pok (h : Cpy lo FA l V) (hk : l[k]? = some f) {y : World} (hy : Fs (SY FA l k) V y) {p : PP} (hp : p ∈ f.parts) : p.ok y := by
 obtain ⟨n1, n2, n3, n4, n5⟩ := h.nu k f hk p hp
 refine ⟨n1, n2, n3, n4, fun i x hi => ?_⟩
 have hy0 : Fs (SA FA l 0) V y := hy.sub fun b hb => by
  rcases hb with (hb | ⟨i, g, -, h1, h2⟩) | ⟨g, h1, h2⟩
  ·exact .inl hb
  ·exact .inr ⟨i, g, Nat.zero_le _, h1, h2⟩
  ·exact .inr ⟨k, g, Nat.zero_le _, h1, .inl h2⟩
 have hx := (h.ab k f hk p hp x (List.mem_of_getElem? hi) y hy0).1
 rcases h.rw k f hk p hp y hy with ⟨e, -⟩ | ⟨g, e, -, hh⟩
 ·rw [e] at hi; cases hi
 ·exact ⟨g, 0, e, by rw [Nat.zero_add]; exact flat_block (f := PI.cells) (n := 7) (fun _ => rfl) hh hi, hx⟩
end
end Go.Proofs.Ytphknepblchkdaa.Fl

namespace Go.Proofs.Ytphknepblchkdaa.Fl
open Go.RowKit
open Go.Proofs.Ytphknepblchkdaa.In (zI zP zF zI_zI zP_zP cntS cntS_fnN len_cnt)
open Go.Proofs.Ytphknepblchkdaa.Fc (RwI)
set_option linter.unusedVariables false

/-! ### Plainly -/
theorem ordL_lt {L : List PP} {first j : Nat} (hf : first < L.length) (h : j ∈ ordL L first) : j < L.length := by
 unfold ordL ordTo at h
 rcases List.mem_cons.1 h with rfl | h
 ·exact hf
 ·exact List.mem_range.1 (List.mem_filter.1 h).1
theorem ordL_len (L : List PP) (first : Nat) : (ordL L first).length ≤ L.length + 1 := by
 unfold ordL ordTo
 rw [List.length_cons]
 have := List.length_filter_le (fun n => rchB L first n && n != first) (List.range L.length)
 rw [List.length_range] at this
 omega
theorem numL_le (l : List Nat) (n : Nat) : numL l n ≤ l.length := by
 unfold numL
 split
 ·exact List.idxOf_le_length
 ·omega
theorem inoP_len (L : List PP) (first : Nat) : (inoP L first).length ≤ L.length + 1 := by unfold inoP; rw [List.length_map]; exact ordL_len L first
theorem inoP_mem {L : List PP} {first : Nat} {p : PP} (hf : first < L.length) (h : p ∈ inoP L first) : ∃ (j : Nat) (q : PP), L[j]? = some q ∧ p = renP (ordL L first) q := by
 unfold inoP at h
 obtain ⟨j, hj, rfl⟩ := List.mem_map.1 h
 obtain ⟨q, hq⟩ := get_of_lt (ordL_lt hf hj)
 exact ⟨j, q, hq, by rw [hq]; rfl⟩
theorem renP_has (l : List Nat) (q : PP) : (renP l q).ins = q.ins ∧ (renP l q).ia = q.ia ∧ (renP l q).ic = q.ic ∧ ((renP l q).cond = q.cond ∨ (renP l q).cond = -1) ∧ (0 ≤ (renP l q).next ∧ (renP l q).next ≤ l.length) ∧ (0 ≤ (renP l q).els ∧ (renP l q).els ≤ l.length) := by
 have h1 := numL_le l q.next.toNat
 have h2 := numL_le l q.els.toNat
 unfold renP
 split
 ·exact ⟨rfl, rfl, rfl, .inl rfl, ⟨by dsimp only; omega, by dsimp only; omega⟩, ⟨by dsimp only; omega, by dsimp only; omega⟩⟩
 ·split
  ·exact ⟨rfl, rfl, rfl, .inr rfl, ⟨by show (0 : Int) ≤ (numL l q.next.toNat : Int); omega, by show (numL l q.next.toNat : Int) ≤ l.length; omega⟩, ⟨by show (0 : Int) ≤ 0; omega, by show (0 : Int) ≤ l.length; omega⟩⟩
  ·exact ⟨rfl, rfl, rfl, .inl rfl, ⟨by dsimp only; omega, by dsimp only; omega⟩, ⟨by dsimp only; omega, by dsimp only; omega⟩⟩
theorem flo_eq {fault : Bool} {L pp : List PP} (h : pp.map zP = joiL ((pasL (tkL fault L)).map zP) (fstL (tkL fault L))) : (inoP pp (fstL (tkL fault L))).map zP = floL fault (L.map zP) := by
 unfold floL
 dsimp only
 rw [tkL_z, pasL_z, fstL_z, ← h, inoP_z]

/-! ### take -/
theorem fs_setA (W : World) (p : Addr) (u : Value) : Fs (fun b => b = p.block) W (W.setCell p u) :=
 ⟨rfl, rfl, rfl, by simp, fun b _ hn => Below.heap_setCell W p u b hn⟩
theorem go_step {W : World} {P k : Nat} {L : List PP} {p : PP} {t : Int} (hb : W.heap[P]? = some (.cells (L.flatMap PP.cells).toArray 47 (0, 0))) (hp : L[k]? = some p) : (goW W P (k * 5) t).heap[P]? = some (.cells ((L.set k (goP p t)).flatMap PP.cells).toArray 47 (0, 0)) := by
 have hkl := (List.getElem?_eq_some_iff.1 hp).1
 have h1 := flat_step PP.len hb (x' := { p with cond := -1 }) (j := 2) (u := .int .i64 (-1)) hp (by omega) rfl
 have h2 := flat_step PP.len h1 (x := { p with cond := -1 }) (x' := { p with cond := -1, next := t }) (k := k) (j := 3) (u := .int .i64 t) (by simp [hkl]) (by omega) rfl
 rw [List.set_set] at h2
 have h3 := flat_step PP.len h2 (x := { p with cond := -1, next := t }) (x' := goP p t) (k := k) (j := 4) (u := .int .i64 0) (by simp [hkl]) (by omega) rfl
 rw [List.set_set] at h3
 exact h3
/-- While the parts in block P are gone through. -/
structure TL (W : World) (P : Nat) (fault : Bool) (L : List PP) (j : Nat) (z : World) : Prop where
 fs : Fs (fun b => b = P) W z
 blk : z.heap[P]? = some (.cells ((upTo (takeP fault) L j).flatMap PP.cells).toArray 47 (0, 0))
theorem TL.q {W z z' : World} {P j : Nat} {fault : Bool} {L : List PP} (h : TL W P fault L j z) (q : Q z z') : TL W P fault L j z' := ⟨h.fs.trans (Fs.of_q q), heap_keep q h.blk⟩
theorem TL.step {W z z' : World} {P j : Nat} {fault : Bool} {L : List PP} {p : PP} (h : TL W P fault L j z) (hp : L[j]? = some p) (hr : (takeP fault p = p ∧ Q z z') ∨ ∃ t, takeP fault p = goP p t ∧ Q (goW z P (j * 5) t) z') : TL W P fault L (j + 1) z' := by
 have hg := upTo_get (f := takeP fault) hp
 have hs := upTo_succ (f := takeP fault) hp
 rcases hr with ⟨e, q⟩ | ⟨t, e, q⟩
 ·refine ⟨h.fs.trans (Fs.of_q q), ?_⟩
  have e2 : (upTo (takeP fault) L j).set j p = upTo (takeP fault) L j := by
   refine List.ext_getElem? fun i => ?_
   rw [List.getElem?_set]
   split
   ·rename_i hij
    subst hij
    rw [if_pos (List.getElem?_eq_some_iff.1 hg).1, hg]
   ·rfl
  rw [hs, e, e2]
  exact heap_keep q h.blk
 ·refine ⟨?_, ?_⟩
  ·refine h.fs.trans (Fs.trans ?_ (Fs.of_q q))
   exact ((fs_setA z ⟨P, j * 5 + 2, none⟩ _).trans (fs_setA _ ⟨P, j * 5 + 3, none⟩ _)).trans (fs_setA _ ⟨P, j * 5 + 4, none⟩ _)
  ·rw [hs, e]
   exact heap_keep q (go_step h.blk hg)

/-! ### join -/
section
variable {V W : World} {lo FA k : Nat} {l G : List PF} {fault : Bool} {f : PF}
/-- The rows of a function's instructions. -/
def rwK (L : List PP) (k : Nat) : Rw := ⟨(ptN L k).ia, (ptN L k).ins.length, (ptN L k).ic, 49, 7, insC (ptN L k).ins⟩
theorem rwi_at {lo : Nat} {y : World} {p : PP} (h : RwI lo y p.ia p.ins) (hc : p.ic = p.ins.length) (hn : p.ins.length ≤ 1000000) : y.ownsRow lo 49 7 (.slice p.ia p.ins.length p.ic) p.ins.length (insC p.ins) := by
 refine ⟨by rw [insC_len], ?_⟩
 rcases h with ⟨e1, e2⟩ | ⟨g, e, hg, hh⟩
 ·exact .inl ⟨by rw [e2, hc, e1]; rfl, by rw [e1]; rfl⟩
 ·refine .inr ⟨g, p.ic, _, by rw [e], hg, hh, by omega, by rw [hc]; unfold maxLen; omega, ?_, ?_⟩
  ·rw [List.size_toArray, hc]; exact insC_len _
  ·rw [List.take_of_length_le]
   show (insC p.ins).length ≤ _
   rw [insC_len]; omega
/-- What join wants. -/
theorem sep_of (hC : Cpy lo FA l V) (hk : l[k]? = some f) {y : World} (hy : Fs (SY FA l k) V y) (hc : cntS f.parts ≤ 1000000) : Sep y (fun _ => lo) (fun j => j < f.parts.length) (rwK (pasL (tkL fault f.parts))) := by
 have hlen : (pasL (tkL fault f.parts)).length = f.parts.length := by unfold pasL tkL; simp
 have get : ∀ j, j < f.parts.length → ∃ p, f.parts[j]? = some p ∧ Lft p (ptN (pasL (tkL fault f.parts)) j) := fun j hj => by
  obtain ⟨q, hq⟩ := get_of_lt (l := pasL (tkL fault f.parts)) (k := j) (by omega)
  obtain ⟨p, hp, hl⟩ := lft_all fault f.parts hq
  exact ⟨p, hp, by rw [ptN_get hq]; exact hl⟩
 have hle : ∀ p ∈ f.parts, p.ins.length ≤ 1000000 := fun p hp => by
  have : ∀ l : List PP, p ∈ l → p.ins.length ≤ cntS l := by
   intro l
   induction l with
   | nil => intro h; cases h
   | cons a l ih =>
    intro h
    unfold cntS at ih ⊢
    rw [List.map_cons, List.sum_cons]
    rcases List.mem_cons.1 h with rfl | h
    ·omega
    ·have := ih h; omega
  have := this _ hp
  omega
 refine ⟨fun j hj => ?_, fun i j hi hj hij a b ha hb => ?_⟩
 ·obtain ⟨p, hp, hl⟩ := get j hj
  have hpm := List.mem_of_getElem? hp
  have h1 := rwi_at (hC.rw k f hk p hpm y hy) (hC.nu k f hk p hpm).2.2.2.2 (hle p hpm)
  show y.ownsRow lo 49 7 (.slice (ptN _ j).ia (ptN _ j).ins.length (ptN _ j).ic) (ptN _ j).ins.length (insC (ptN _ j).ins)
  rw [hl.ins, hl.ia, hl.ic]
  exact h1
 ·obtain ⟨p, hp, hl⟩ := get i hi
  obtain ⟨q, hq, hm⟩ := get j hj
  have ha' : p.ia = some a := by rw [← hl.ia]; exact ha
  have hb' : q.ia = some b := by rw [← hm.ia]; exact hb
  rcases hC.rw k f hk p (List.mem_of_getElem? hp) y hy with ⟨-, e⟩ | ⟨g, e, -⟩
  ·rw [e] at ha'; cases ha'
  ·rcases hC.rw k f hk q (List.mem_of_getElem? hq) y hy with ⟨-, e2⟩ | ⟨g2, e2, -⟩
   ·rw [e2] at hb'; cases hb'
   ·rw [e] at ha'; rw [e2] at hb'
    injection ha' with ha'; injection hb' with hb'
    subst ha'; subst hb'
    exact hC.sep k f hk i j p q g g2 hp hq hij e e2

/-! ### All of it -/
theorem SA.lt (hC : Cpy lo FA l V) {b : Nat} (h : SA FA l 0 b) : b < V.heap.size := by
 rcases h with rfl | ⟨i, g, -, hi, hg⟩
 ·exact (Array.getElem?_eq_some_iff.1 hC.blk).1
 ·rcases hg with hg | ⟨p, hp, hg⟩
  ·obtain ⟨P, e, h1, -⟩ := hC.pb i g hi
   rw [e] at hg; injection hg with hg; injection hg with hg; omega
  ·exact (hC.rb i g hi p hp b hg).1
theorem fB_not (hC : Cpy lo FA l V) (hk : l[k]? = some f) {b : Nat} (h : fB f b) : ¬ SX FA l k b := by
 rcases h with h | ⟨p, hp, h⟩
 ·obtain ⟨P, e, -, -, -, h1, -⟩ := hC.pb k f hk
  rw [e] at h; injection h with h; injection h with h
  subst h; exact h1
 ·exact (hC.rb k f hk p hp b h).2.2
theorem fn_fin (hC : Cpy lo FA l V) (hR : RS' V lo FA l fault k G W) (hk : l[k]? = some f) {Pb : Nat} (epa : f.pa = some ⟨Pb, 0, none⟩) (hN : f.parts.length ≤ 1000) (hf : fstL (tkL fault f.parts) < f.parts.length)
  {y z' w' : World} {pp : List PP} {R : Nat → Rw} (hy : Fs (fun b => b = Pb) W y) (e1 : pp.map zP = joiL ((pasL (tkL fault f.parts)).map zP) (fstL (tkL fault f.parts))) (hl : pp.length = f.parts.length) (hsep : Sep z' (fun _ => lo) (fun j => j < f.parts.length) R)
  (hrw : ∀ (j : Nat) (p : PP), pp[j]? = some p → (R j).ty = 49 ∧ (R j).sz = 7 ∧ (R j).n = p.ins.length ∧ (R j).xs = insC p.ins ∧ p.ia = (R j).a ∧ p.ic = (R j).c) (hrs : ∀ j, j < f.parts.length → ∀ b, (R j).v.ownBlock = some b → fB f b ∨ y.heap.size ≤ b) (hfs : Fs (fB f) y z')
  (hgd : ∀ p ∈ pp, p.ins.length ≤ 1000000 ∧ I64 p.cond ∧ ∀ x ∈ p.ins, I64 x.dst ∧ ∃ p0 ∈ f.parts, x ∈ p0.ins)
  {K : Nat} (hK : z'.heap.size ≤ K) (hb : w'.heap[K]? = some (.cells ((inoP pp (fstL (tkL fault f.parts))).flatMap PP.cells).toArray 47 (0, 0))) (q : Q z' w') :
  RS' V lo FA l fault (k + 1) (G.set k { f with parts := inoP pp (fstL (tkL fault f.parts)), pa := some ⟨K, 0, none⟩, pc := (inoP pp (fstL (tkL fault f.parts))).length }) (w'.setCell ⟨FA, k * 4 + 3, none⟩ (.slice (some ⟨K, 0, none⟩) (inoP pp (fstL (tkL fault f.parts))).length (inoP pp (fstL (tkL fault f.parts))).length)) := by
 generalize hfi : fstL (tkL fault f.parts) = first at *
 have hFA : ¬ fB f FA := fun h => fB_not hC hk h (.inl rfl)
 have hVW := hR.fs.size
 have hWy := hy.size
 have hyz := hfs.size
 have hzw := q.size
 have fW : Fs (fB f) W w' := ((hy.sub (T := fB f) fun b hb => .inl (by rw [hb]; exact epa)).trans hfs).trans (Fs.of_q q)
 have hblk := fW.heap hR.blk hFA
 have hg : G[k]? = some f := (hR.old k (Nat.le_refl _)).trans hk
 have fE : Fs (fun b => b = FA ∨ fB f b) W (w'.setCell ⟨FA, k * 4 + 3, none⟩ (.slice (some ⟨K, 0, none⟩) (inoP pp first).length (inoP pp first).length)) := (fW.sub fun b hb => .inr hb).trans ((fs_setA w' ⟨FA, k * 4 + 3, none⟩ _).sub fun b hb => .inl hb)
 have hFV : FA < V.heap.size := (Array.getElem?_eq_some_iff.1 hC.blk).1
 refine hR.next hk fE (flat_step PF.len hblk (j := 3) hg (by omega) rfl) ?_ (fun y2 hy2 => ?_)
 ·unfold zF floF zF
  have := flo_eq (by rw [hfi]; exact e1 : pp.map zP = joiL ((pasL (tkL fault f.parts)).map zP) (fstL (tkL fault f.parts)))
  rw [hfi] at this
  rw [this]
 ·have hV : Fs (SA FA l 0) V y2 := (hR.fs.sub fun _ => SB.all).trans ((fE.sub fun b hb => by
   rcases hb with hb | hb
   ·exact .inl hb
   ·exact .inr ⟨k, f, Nat.zero_le _, hk, hb⟩).trans (hy2.sub fun _ => SA.all))
  obtain ⟨hd1, hd2, hd3, -⟩ := hC.hd k f hk
  obtain ⟨hs1, hs2⟩ := hC.sl k f hk y2 hV
  have hKV : V.heap.size ≤ K := by omega
  -- what is neither FA nor a block of the functions behind stays
  have stay : ∀ (b : Nat) (o : Obj), w'.heap[b]? = some o → (fB f b ∨ V.heap.size ≤ b) → y2.heap[b]? = some o := fun b o ho hn => by
   refine hy2.heap ?_ (fun hS => ?_)
   ·rw [Below.heap_setCell _ _ _ _ (fun e => ?_)]
    ·exact ho
    ·rcases hn with hn | hn
     ·exact fB_not hC hk hn (.inl e)
     ·dsimp only at e; omega
   ·rcases hn with hn | hn
    ·exact fB_not hC hk hn hS.sx
    ·have := SA.lt hC hS.all; omega
  have hKb := stay K _ hb (.inr hKV)
  have hil := inoP_len pp first
  have hsz : (inoP pp first).length ≤ 1001 := by omega
  have pm : ∀ p ∈ inoP pp first, PM lo y2 p := fun p hp => by
   obtain ⟨j, q0, hq0, rfl⟩ := inoP_mem (by omega) hp
   have hj : j < f.parts.length := by have := (List.getElem?_eq_some_iff.1 hq0).1; omega
   obtain ⟨r1, r2, r3, r4, r5, r6⟩ := renP_has (ordL pp first) q0
   obtain ⟨t1, t2, t3, t4, t5, t6⟩ := hrw j q0 hq0
   obtain ⟨g1, g2, g3⟩ := hgd q0 (List.mem_of_getElem? hq0)
   have hol := ordL_len pp first
   have hrow : (R j).at y2 lo := at_keep (hsep.own j hj) fun a ha => by
    obtain ⟨-, -, hlt⟩ := at_lt (hsep.own j hj) ha
    have hz := (Array.getElem?_eq_getElem hlt)
    have hn : fB f a.block ∨ V.heap.size ≤ a.block := by
     rcases hrs j hj a.block (by unfold Rw.v; rw [ha]; rfl) with h | h
     ·exact .inl h
     ·exact .inr (by omega)
    rw [hz]
    exact stay a.block _ (heap_keep q hz) hn
   have hxo : ∀ x ∈ q0.ins, x.ok y2 ∧ NB lo y2 x.aa x.args.length := fun x hx => by
    obtain ⟨-, p0, hp0, hx0⟩ := g3 x hx
    exact hC.ab k f hk p0 hp0 x hx0 y2 hV
   have hins : Insts y2 (R j).a q0.ins := fun i x hx => by
    have hil2 := (List.getElem?_eq_some_iff.1 hx).1
    obtain ⟨g, e, -, -⟩ := at_ex hrow (by rw [t3]; omega)
    refine ⟨g, 0, e, fun m hm => ?_, (hxo x (List.mem_of_getElem? hx)).1⟩
    have hm7 : m < 7 := hm
    rw [Nat.zero_add, at_cell hrow e (by rw [t3, t2]; omega), t4]
    exact flat_at PI.cells 7 (fun _ => rfl) q0.ins i x m hx hm7
   have hsok : sok 64 (R j).a q0.ins.length (R j).c := by
    rw [← t3] at g1 ⊢
    cases ha : (R j).a with
    | none =>
     have hr := hrow
     unfold Rw.at Rw.v at hr
     rw [ha] at hr
     obtain ⟨-, o2, o3⟩ := own_none hr
     rw [o2, o3]
     exact sok_none _
    | some a =>
     have hr := hrow
     unfold Rw.at Rw.v at hr
     obtain ⟨-, -, -, -, o5, o6, -⟩ := own_addr hr ha
     exact ⟨o5, o6, (fun e => by cases e), by omega⟩
   have hnb : NB lo y2 (R j).a q0.ins.length := by
    by_cases h0 : q0.ins.length = 0
    ·exact .inl h0
    ·obtain ⟨g, e, hlg, -⟩ := at_ex hrow (by rw [t3]; omega)
     have hr := hrow
     unfold Rw.at Rw.v at hr
     obtain ⟨-, -, -, -, -, -, cur, o7, -⟩ := own_addr hr e
     exact .inr ⟨g, cur, _, e, hlg, o7⟩
   refine ⟨⟨?_, ?_, ?_, ?_, ?_⟩, ?_, fun x hx => ?_⟩
   ·rcases r4 with r | r
    ·rw [r]; exact g2
    ·rw [r]; unfold I64; omega
   ·unfold I64; omega
   ·unfold I64; omega
   ·rw [r2, r1, r3, t5, t6]; exact hsok
   ·rw [r2, r1, t5]; exact hins
   ·rw [r2, r1, t5]; exact hnb
   ·rw [r1] at hx; exact (hxo x hx).2
  refine ⟨⟨hd1, hd2, hd3, hs1, ⟨Nat.le_refl _, by unfold maxLen; dsimp only; omega, (fun e => by cases e), by dsimp only; omega⟩, fun j p hj => ⟨K, 0, rfl, ?_, (pm p (List.mem_of_getElem? hj)).ok⟩⟩, hs2, .inr ⟨K, _, _, rfl, by have := hC.lof; omega, hKb⟩, pm⟩
  rw [Nat.zero_add]
  exact flat_block PP.len hKb hj
end
end Go.Proofs.Ytphknepblchkdaa.Fl

namespace Go.Proofs.Ytphknepblchkdaa.Fl
open Go.RowKit
open Go.Proofs.Ytphknepblchkdaa.In (zI zP zF zI_zI zP_zP cntS cntS_fnN len_cnt)
open Go.Proofs.Ytphknepblchkdaa.Fc (RwI)
set_option linter.unusedVariables false

theorem RS'.code {V W W1 : World} {lo FA : Nat} {fault : Bool} {G : List PF} {a : PC} (h : RS' V lo FA a.fns fault a.fns.length G W) (hl : Fc.CodeL lo W1 a) (q : Q W1 V) (hne : a.fns ≠ []) (hp : ∀ f ∈ a.fns, f.parts ≠ []) (efa : a.fa = some ⟨FA, 0, none⟩) (hlo : lo ≤ FA) : CodeM lo W ⟨a.gl, a.ini, G, a.ga, a.gc, a.na, a.nc, a.fa, a.fc⟩ ∧ G.map zF = a.fns.map (floF fault) := by
 have hf : Fs (SB FA a.fns a.fns.length) W1 W := (Fs.of_q q).trans h.fs
 have hG : ∀ i g, G[i]? = some g → ∃ f, a.fns[i]? = some f ∧ zF g = floF fault f ∧ FM lo W g := fun i g hg => by
  have hi : i < a.fns.length := by have := (List.getElem?_eq_some_iff.1 hg).1; rw [h.len] at this; exact this
  obtain ⟨f, hfi⟩ := get_of_lt hi
  obtain ⟨d1, d2⟩ := h.done i f g hi hfi hg
  exact ⟨f, hfi, d1, d2 W (Fs.refl _ _)⟩
 have hno : ∀ g, (a.gl ≠ [] ∧ a.ga = some ⟨g, 0, none⟩) ∨ (a.ini ≠ [] ∧ a.na = some ⟨g, 0, none⟩) → ¬ SB FA a.fns a.fns.length g := fun g hg hS => by
  rcases hS with e | ⟨i, f, -, hi, hpa⟩
  ·have := hl.go.2 g hg hne FA efa; omega
  ·have hm := List.mem_of_getElem? hi
   have hfb : Fc.fnB f g := by
    rcases hpa with hpa | ⟨p, hpm, hpa⟩
    ·exact .inr (.inl ⟨hp f hm, hpa⟩)
    ·exact .inr (.inr ⟨p, hpm, .inl hpa⟩)
   have := hl.go.1 g (hg.elim .inl (fun q => .inr (.inl q))) f hm g hfb
   omega
 refine ⟨⟨⟨hl.ok.gsok, ints_fs hl.ok.gl hl.gn hf (fun b h1 h2 => hno b (.inl ⟨h1, h2⟩)), hl.ok.nsok, ints_fs hl.ok.ini hl.nn hf (fun b h1 h2 => hno b (.inr ⟨h1, h2⟩)), ?_, fun i g hg => ?_⟩, nb_fs hl.gn hf (fun b h1 h2 => hno b (.inl ⟨ne_of_len h1, h2⟩)), nb_fs hl.nn hf (fun b h1 h2 => hno b (.inr ⟨ne_of_len h1, h2⟩)), .inr ⟨FA, _, _, efa, hlo, h.blk⟩, fun g hg => ?_⟩, ?_⟩
 ·show sok 64 a.fa G.length a.fc
  rw [h.len]; exact hl.ok.fsok
 ·obtain ⟨f, e1, e2, e3⟩ := hG i g hg
  exact ⟨FA, 0, efa, by rw [Nat.zero_add]; exact h.at' hg, e3.ok⟩
 ·obtain ⟨i, hi⟩ := List.getElem?_of_mem hg
  obtain ⟨f, e1, e2, e3⟩ := hG i g hi
  exact e3
 ·refine List.ext_getElem? fun i => ?_
  rw [List.getElem?_map, List.getElem?_map]
  cases hg : G[i]? with
  | none =>
   have := List.getElem?_eq_none_iff.1 hg
   rw [List.getElem?_eq_none (by rw [← h.len]; exact this)]; rfl
  | some g =>
   obtain ⟨f, e1, e2, e3⟩ := hG i g hg
   rw [e1]
   show some (zF g) = some _
   rw [e2]
theorem floF_zF (fault : Bool) (f : PF) : floF fault (zF f) = floF fault f := by
 unfold floF
 have : (zF f).parts.map zP = f.parts.map zP := by show (f.parts.map zP).map zP = _; simp [zP_zP, Function.comp_def]
 rw [this, zF_zF]
theorem floC_z {fault : Bool} {a c : PC} {G : List PF} (h : EvC a c) (hG : G.map zF = a.fns.map (floF fault)) : EvC ⟨a.gl, a.ini, G, a.ga, a.gc, a.na, a.nc, a.fa, a.fc⟩ (floC fault c) := by
 have hz : a.fns.map zF = c.fns.map zF := evl_map (g := zF) (fun _ _ => evf_z) h.fns
 refine ⟨h.gl, h.ini, map_evl (g := zF) (fun _ _ => z_evf) ?_⟩
 show G.map zF = (c.fns.map (floF fault)).map zF
 have e : ∀ l : List PF, l.map (floF fault) = (l.map zF).map (floF fault) := fun l => by
  rw [List.map_map]; exact List.map_congr_left (fun f _ => (floF_zF _ _).symm)
 have h1 : G.map zF = c.fns.map (floF fault) := by rw [hG, e, hz, ← e]
 have h2 : (G.map zF).map zF = G.map zF := by rw [List.map_map]; exact List.map_congr_left (fun f _ => zF_zF f)
 rw [← h1, h2]
theorem wyL_of {c : PC} {k : Nat} {f : PF} (h : fnP c k f = true) : WyL f.parts := fun p hp => by
 obtain ⟨-, h2, h3⟩ := fn_end h hp
 exact ⟨h2, h3⟩
/-- What passBy leaves. -/
structure BL (W : World) (P : Nat) (L : List PP) (y : World) : Prop where
 fs : Fs (fun b => b = P) W y
 blk : y.heap[P]? = some (.cells (L.flatMap PP.cells).toArray 47 (0, 0))
theorem BL.q {W y y' : World} {P : Nat} {L : List PP} (h : BL W P L y) (q : Q y y') : BL W P L y' := ⟨h.fs.trans (Fs.of_q q), heap_keep q h.blk⟩
/-- What join leaves of a function. -/
def J1 (W : World) (lo P : Nat) (f : PF) (fault : Bool) (z : World) : Prop :=
 ∃ y z0, BL W P (pasL (tkL fault f.parts)) y ∧ JoZ P lo f.parts.length (fB f) (fun x => ∃ p0 ∈ f.parts, x ∈ p0.ins) y (joiL ((pasL (tkL fault f.parts)).map zP) (fstL (tkL fault f.parts))) z0 ∧ Q z0 z
theorem J1.q {W z z' : World} {lo P : Nat} {f : PF} {fault : Bool} (h : J1 W lo P f fault z) (q : Q z z') : J1 W lo P f fault z' := by
 obtain ⟨y, z0, h1, h2, h3⟩ := h
 exact ⟨y, z0, h1, h2, h3.trans q⟩
theorem own_all {w : World} {base : Nat} {e : TypeId} {size g n : Nat} {xs : List Value} (h : w.ownsRow base e size (.slice (some ⟨g, 0, none⟩) n n) n xs) : w.heap[g]? = some (.cells xs.toArray e (0, 0)) := by
 obtain ⟨-, -, -, -, -, -, cur, h7, h8, h9⟩ := own_addr h rfl
 have : cur.toList = xs := by
  rw [← h9, List.take_of_length_le]
  rw [Array.length_toList, h8]
  exact Nat.le_refl _
 rw [h7, ← this]
section
variable {V W : World} {lo FA k : Nat} {l G : List PF} {fault : Bool} {f : PF} {Pb : Nat}
theorem RS'.sy (h : RS' V lo FA l fault k G W) (hk : l[k]? = some f) (epa : f.pa = some ⟨Pb, 0, none⟩) {y : World} (hy : Fs (fun b => b = Pb) W y) : Fs (SY FA l k) V y := (h.fs.sub fun _ hb => .inl hb.sx).trans (hy.sub fun b hb => .inr ⟨f, hk, by rw [hb]; exact epa⟩)
theorem Cpy.len (h : Cpy lo FA l V) (hk : l[k]? = some f) (epa : f.pa = some ⟨Pb, 0, none⟩) : V.heap[Pb]? = some (.cells (f.parts.flatMap PP.cells).toArray 47 (0, 0)) ∧ f.pc = f.parts.length ∧ lo ≤ Pb ∧ FA ≠ Pb ∧ ¬ SX FA l k Pb := by
 obtain ⟨P, e, h1, h2, h3, h4, h5, h6⟩ := h.pb k f hk
 rw [epa] at e; injection e with e; injection e with e; subst e
 exact ⟨h5, h6, h2, fun e => h4 (.inl e.symm), h4⟩
/-- As the parts begin to be gone through. -/
theorem TL.start (hC : Cpy lo FA l V) (hR : RS' V lo FA l fault k G W) (hk : l[k]? = some f) (epa : f.pa = some ⟨Pb, 0, none⟩) : TL W Pb fault f.parts 0 W := by
 obtain ⟨h1, h2, h3, h4, h5⟩ := hC.len hk epa
 refine ⟨Fs.refl _ _, ?_⟩
 rw [upTo_zero]
 exact hR.fs.heap h1 fun hS => h5 hS.sx
theorem CT (hC : Cpy lo FA l V) (hR : RS' V lo FA l fault k G W) (hk : l[k]? = some f) (epa : f.pa = some ⟨Pb, 0, none⟩) {j : Nat} {p : PP} (hp : f.parts[j]? = some p) {z : World} (hz : TL W Pb fault f.parts j z) :
  Calls Try.prog 22 #[.pointer (some ⟨Pb, j * 5, none⟩), .bool fault] z fun e w' => e = .returned (.tuple #[]) ∧ TL W Pb fault f.parts (j + 1) w' := by
 refine Calls.mono (take_any z Pb (j * 5) p (flat_block PP.len hz.blk (upTo_get hp)) ⟨_, hz.blk⟩ (hC.pok hk (hR.sy hk epa hz.fs) (List.mem_of_getElem? hp)) fault) ?_
 rintro e w' ⟨rfl, h⟩
 exact ⟨rfl, hz.step hp h⟩
theorem CPB (hC : Cpy lo FA l V) (hk : l[k]? = some f) (epa : f.pa = some ⟨Pb, 0, none⟩) (hw : WyL f.parts) (hN : f.parts.length ≤ 1000) (h0 : 0 < f.parts.length) {z : World} (hz : TL W Pb fault f.parts f.parts.length z) :
  Calls Try.prog 23 #[.slice (some ⟨Pb, 0, none⟩) f.parts.length f.parts.length] z fun e w' => e = .returned (.int .i64 (fstL (tkL fault f.parts) : Int)) ∧ BL W Pb (pasL (tkL fault f.parts)) w' := by
 obtain ⟨h1, h2, h3, h4, h5⟩ := hC.len hk epa
 have hb := hz.blk
 rw [upTo_all] at hb
 have hl : (tkL fault f.parts).length = f.parts.length := by unfold tkL; simp
 have how : z.ownsRow lo 47 5 (.slice (some ⟨Pb, 0, none⟩) f.parts.length f.parts.length) f.parts.length ((tkL fault f.parts).flatMap PP.cells) := by
  have := own_blk (n := f.parts.length) (sz := 5) (base := lo) hb h3 (by
   rw [List.size_toArray]
   show (((tkL fault f.parts)).flatMap PP.cells).length = _
   rw [flat_len PP.cells 5 PP.len, hl]) (by omega)
  exact this
 refine Calls.mono (passBy_any ⟨z, lo, Pb, f.parts.length, f.parts.length⟩ ⟨h0, by dsimp only; omega, (Array.getElem?_eq_some_iff.1 hb).1⟩ (tkL fault f.parts) hl (tkL_wy hw fault) hN how) ?_
 rintro e w' ⟨rfl, h6, h7⟩
 exact ⟨rfl, hz.fs.trans h7, own_all h6⟩
theorem CJ (hC : Cpy lo FA l V) (hR : RS' V lo FA l fault k G W) (hk : l[k]? = some f) (epa : f.pa = some ⟨Pb, 0, none⟩) (hw : WyL f.parts) (hc : cntS f.parts ≤ 1000) (h0 : 0 < f.parts.length) {y : World} (hy : BL W Pb (pasL (tkL fault f.parts)) y) :
  Calls Try.prog 24 #[.slice (some ⟨Pb, 0, none⟩) f.parts.length f.parts.length, .int .i64 (fstL (tkL fault f.parts) : Int)] y fun e w' => e = .returned (.tuple #[]) ∧ J1 W lo Pb f fault w' := by
 obtain ⟨h1, h2, h3, h4, h5⟩ := hC.len hk epa
 have hcl := len_cnt f.parts
 have hl : (pasL (tkL fault f.parts)).length = f.parts.length := by unfold pasL tkL; simp
 have hlt : (tkL fault f.parts).length = f.parts.length := by unfold tkL; simp
 have hsy := hR.sy hk epa hy.fs
 have hin : ∀ p ∈ pasL (tkL fault f.parts), ∃ p0 ∈ f.parts, Lft p0 p := fun p hp => by
  obtain ⟨j, hj⟩ := List.getElem?_of_mem hp
  obtain ⟨p0, e, hlf⟩ := lft_all fault f.parts hj
  exact ⟨p0, List.mem_of_getElem? e, hlf⟩
 have hcc : cntS (pasL (tkL fault f.parts)) = cntS f.parts := by
  unfold cntS
  congr 1
  refine List.ext_getElem? fun j => ?_
  rw [List.getElem?_map, List.getElem?_map]
  cases hj : (pasL (tkL fault f.parts))[j]? with
  | none => rw [List.getElem?_eq_none (by rw [← hl]; exact List.getElem?_eq_none_iff.1 hj)]
  | some q =>
   obtain ⟨p0, e, hlf⟩ := lft_all fault f.parts hj
   rw [e]
   show some (1 + q.ins.length) = some (1 + p0.ins.length)
   rw [hlf.ins]
 have hle : ∀ p ∈ f.parts, p.ins.length ≤ cntS f.parts := fun p hp => by
  have : ∀ l : List PP, p ∈ l → p.ins.length ≤ cntS l := by
   intro l
   induction l with
   | nil => intro h; cases h
   | cons a l ih =>
    intro h
    unfold cntS at ih ⊢
    rw [List.map_cons, List.sum_cons]
    rcases List.mem_cons.1 h with rfl | h
    ·omega
    ·have := ih h; omega
  exact this _ hp
 have hxd : ∀ p0 ∈ f.parts, ∀ x ∈ p0.ins, I64 x.dst := fun p0 hp0 x hx => ((hC.ab k f hk p0 hp0 x hx V (Fs.refl _ _)).1).dst
 refine Calls.mono (join_any y lo Pb f.parts.length f.parts.length 1000000 (fstL (tkL fault f.parts)) (fB f) (fun x => ∃ p0 ∈ f.parts, x ∈ p0.ins) (.inl epa) (by omega) (Nat.le_refl _) (pasL (tkL fault f.parts)) (rwK (pasL (tkL fault f.parts))) hl hy.blk (sep_of hC hk hsy (by omega)) (fun j _ => ⟨rfl, rfl⟩) (fun j p hp => ?_) ?_ (fun j hj b hb => ?_) (fun p hp => ?_) (fun p hp => ?_) (pasL_wy (tkL_wy hw fault) (by omega)) (Nat.le_trans (lvL_cnt _ _) (by omega)) (by rw [← hlt]; exact fstL_lt (tkL_wy hw fault) (by omega))) ?_
 ·unfold rwK
  rw [ptN_get hp]
  exact ⟨rfl, rfl, rfl, rfl⟩
 ·have := (Array.getElem?_eq_some_iff.1 hy.blk).1; omega
 ·obtain ⟨q, hq⟩ := get_of_lt (l := pasL (tkL fault f.parts)) (k := j) (by omega)
  obtain ⟨p0, e, hlf⟩ := lft_all fault f.parts hq
  unfold rwK Rw.v at hb
  dsimp only at hb
  rw [ptN_get hq, hlf.ia] at hb
  rcases hC.rw k f hk p0 (List.mem_of_getElem? e) y hsy with ⟨-, e2⟩ | ⟨g, e2, -⟩
  ·rw [e2] at hb; cases hb
  ·rw [e2] at hb
   injection hb with hb
   subst hb
   exact .inr ⟨p0, List.mem_of_getElem? e, e2⟩
 ·obtain ⟨p0, hp0, hlf⟩ := hin p hp
  refine ⟨?_, fun x hx => ?_⟩
  ·rcases hlf.cond with r | r
   ·rw [r]; exact (hC.nu k f hk p0 hp0).1
   ·rw [r]; unfold I64; omega
  ·rw [hlf.ins] at hx
   exact ⟨hxd p0 hp0 x hx, p0, hp0, hx⟩
 ·obtain ⟨p0, hp0, hlf⟩ := hin p hp
  rw [hlf.ins]
  have := hle p0 hp0
  omega
 ·rintro e w' ⟨rfl, hj⟩
  exact ⟨rfl, y, w', hy, hj, Q.refl _⟩
theorem CO (hC : Cpy lo FA l V) (hR : RS' V lo FA l fault k G W) (hk : l[k]? = some f) (epa : f.pa = some ⟨Pb, 0, none⟩) (hw : WyL f.parts) (hN : f.parts.length ≤ 1000) (h0 : 0 < f.parts.length) {z : World} (hz : J1 W lo Pb f fault z) :
  Calls Try.prog 25 #[.slice (some ⟨Pb, 0, none⟩) f.parts.length f.parts.length, .int .i64 (fstL (tkL fault f.parts) : Int)] z fun e w' => ∃ K n G', e = .returned (.slice (some ⟨K, 0, none⟩) n n) ∧ Q z w' ∧ RS' V lo FA l fault (k + 1) G' (w'.setCell ⟨FA, k * 4 + 3, none⟩ (.slice (some ⟨K, 0, none⟩) n n)) := by
 obtain ⟨y, z0, hB, ⟨pp, R, j1, j2, j3, j4, j5, j6, j7, j8, j9⟩, q0⟩ := hz
 have hlt : (tkL fault f.parts).length = f.parts.length := by unfold tkL; simp
 have hf : fstL (tkL fault f.parts) < f.parts.length := by rw [← hlt]; exact fstL_lt (tkL_wy hw fault) (by omega)
 have hb := heap_keep q0 j3
 refine Calls.mono (inOrder_any z Pb f.parts.length f.parts.length pp j2 hN j8 (fun j p hp => flat_block PP.len hb hp) _ hf) ?_
 rintro e w' ⟨K, n, rfl, rfl, hK, hKb, q⟩
 exact ⟨K, _, _, rfl, q, fn_fin hC hR hk epa hN hf hB.fs j1 j2 j4 j5 j6 j7 j9 (by have := q0.size; omega) hKb (q0.trans q)⟩
/-- The cell of a function's parts stays meanwhile. -/
theorem pc_cell (hC : Cpy lo FA l V) (hR : RS' V lo FA l fault k G W) (hk : l[k]? = some f) (epa : f.pa = some ⟨Pb, 0, none⟩) {z : World} (hz : Fs (fB f) W z) : z.cell? ⟨FA, k * 4 + 3, none⟩ = some (.slice (some ⟨Pb, 0, none⟩) f.parts.length f.parts.length) ∧ z.frozen? ⟨FA, k * 4 + 3, none⟩ = false := by
 have hFA : ¬ fB f FA := fun h => fB_not hC hk h (.inl rfl)
 obtain ⟨h1, h2, h3, h4, h5⟩ := hC.len hk epa
 have hb := hz.heap hR.blk hFA
 have := flat_block PF.len hb ((hR.old k (Nat.le_refl _)).trans hk)
 have hc := this.cell 3 (.slice f.pa f.parts.length f.pc) rfl
 rw [epa, h2] at hc
 exact ⟨hc, free_of_block hb _⟩
theorem J1.fs (epa : f.pa = some ⟨Pb, 0, none⟩) {z : World} (h : J1 W lo Pb f fault z) : Fs (fB f) W z := by
 obtain ⟨y, z0, hB, ⟨pp, R, j1, j2, j3, j4, j5, j6, j7, j8, j9⟩, q0⟩ := h
 exact ((hB.fs.sub fun b hb => .inl (by rw [hb]; exact epa)).trans j7).trans (Fs.of_q q0)
theorem fsP (epa : f.pa = some ⟨Pb, 0, none⟩) {z : World} (h : Fs (fun b => b = Pb) W z) : Fs (fB f) W z := h.sub fun b hb => .inl (by rw [hb]; exact epa)
end
end Go.Proofs.Ytphknepblchkdaa.Fl
