/-
 Is code of a size that is looked at (few of the statements of layer 21)? A contract over the program; the condition: the code lies in memory.
 The document's example of layer 21, plainly: what is made of it, and what that does when it runs; no conditions.
 The document's example of layer 21 in memory, what the program makes of it, what that prints; awake: contracts over the program; the conditions: the number is in range.
-/
import Derived.Test.YtphknepblchkdaaKFlCf
import Derived.Test.YtphknepblchkdaaKIrN
import Derived.Test.YtphknepblchkdaaKFlCe
import Derived.Test.YtphknepblchkdaaKDnO
namespace Go.Proofs.Ytphknepblchkdaa.Fl
open Go.RowKit
open Go.Proofs.Ytphknepblchkdaa.In (zI zP zF zI_zI zP_zP cntS cntS_fnN len_cnt)
set_option linter.unusedVariables false

/-- Is code of a size that is looked at? -/
def fewP (c : PC) : Bool := c.fns.all (fun f => decide (f.regs ≤ 300)) && decide (IntKind.i64.wrap (codeN c) ≤ 400)

set_option maxRecDepth 100000 in
set_option maxHeartbeats 1000000 in
theorem few_any (w : World) (c : PC) (hcok : c.ok w) : Calls Try.prog 8 #[c.v] w fun e w' => e = .returned (.bool (fewP c)) ∧ Q w w' := by
 have FN : Hid (∀ (k : Nat) (f : PF), c.fns[k]? = some f → 300 < f.regs → fewP c = false) := fun k f hk hr => by
  unfold fewP
  have : c.fns.all (fun f => decide (f.regs ≤ 300)) = false := by
   rw [List.all_eq_false]
   exact ⟨f, List.mem_of_getElem? hk, by simp; omega⟩
  rw [this]; rfl
 have FY : Hid ((∀ (j : Nat) (g : PF), c.fns[j]? = some g → g.regs ≤ 300) → fewP c = decide (IntKind.i64.wrap (codeN c) ≤ 400)) := fun h => by
  unfold fewP
  have : c.fns.all (fun f => decide (f.regs ≤ 300)) = true := by
   rw [List.all_eq_true]
   intro x hx
   obtain ⟨j, hj, e⟩ := List.mem_iff_getElem.1 hx
   exact decide_eq_true (h j x (by rw [List.getElem?_eq_getElem hj, e]))
  rw [this]; rfl
 have HC := hideIt (fun X (h : Q (bxC w c) X) => bxC_at h)
 have HF := hideIt (fun X (h : Q (bxC w c) X) => Fns.keep ((bxC_q w c).trans h) hcok.fns)
 have CC := hideIt (rcount_any (bxC w c) c (hcok.keep (bxC_q w c)))
 have HQ := hideIt (bxC_q w c)
 have hlen : c.fns.length ≤ 9223372036854775807 := hcok.fsok.len
 generalize IntKind.i64.wrap (codeN c) = n at *
 generalize fewP c = fp at *
 clear hcok
 go_enter Try.func8, Try.ntmps8
 go_wp2_with (fail)
 go_loopw [3] (fun i wr => ∃ (k : Nat), i = .int .i64 k ∧ k ≤ c.fns.length ∧ Hid (∀ (j : Nat) (g : PF), j < k → c.fns[j]? = some g → g.regs ≤ 300) ∧ wr = bxC w c) (fun i _ => c.fns.length - (intOf i).toNat)
 case atStart => exact ⟨0, rfl, by omega, fun j g h => by omega, rfl⟩
 case round =>
  obtain ⟨k, rfl, hk, HA, hq⟩ := hrel
  obtain ⟨c0, c1, c2⟩ := (HC.out wr (by rw [hq]; exact Q.refl _)).three
  by_cases hlt : k < c.fns.length
  ·obtain ⟨f, hf⟩ := get_of_lt hlt
   obtain ⟨fb, fo, efa, hfat⟩ := (HF.out wr (by rw [hq]; exact Q.refl _)) k f hf
   have hkl : (k : Int) < (c.fns.length : Int) := by omega
   rw [efa] at c2
   obtain ⟨f0, f1, f2, f3⟩ := hfat.1.four
   have HW := hideIt hq
   have FF := hideIt hf
   clear hf efa hfat hq
   by_cases h3 : 300 < f.regs
   ·go_wp2_with (fail)
    go_ret
    exact ⟨by rw [FN.out k f FF.out h3]; rfl, by rw [HW.out]; exact HQ.out⟩
   ·go_wp2_with (fail)
    go_roundw
    case rel => exact ⟨k + 1, by go_num, by omega, fun j g hj hg => by
     by_cases e : j = k
     ·subst e; rw [FF.out] at hg; injection hg with hg; subst hg; omega
     ·exact HA.out j g (by omega) hg, HW.out⟩
    case measure => simp [intOf]; omega
  ·have hkl : ¬ (k : Int) < (c.fns.length : Int) := by omega
   subst hq
   go_wp2_with (first | (go_at_call 19; refine CC.out.mono ?_; rintro e x ⟨rfl, q1⟩; have HX := hideIt (HQ.out.trans q1); clear q1) | fail)
   go_ret
   exact ⟨by rw [FY.out fun j g hg => HA.out j g (by have := (List.getElem?_eq_some_iff.1 hg).1; omega) hg]; rfl, HX.out⟩

theorem few_fit {c : PC} (hf : fewP c = true) (hsz : codeN c ≤ 1099511627776) : codeN c ≤ 400 := by
 unfold fewP at hf
 simp only [Bool.and_eq_true, decide_eq_true_eq] at hf
 obtain ⟨-, h1⟩ := hf
 have h0 : 0 ≤ codeN c := by
  unfold codeN
  generalize c.fns = m
  induction m with
  | nil => simp
  | cons g m ih => rw [List.map_cons, List.sum_cons, cntS_fnN]; omega
 rw [IntKind.wrap_i64] at h1
 omega
end Go.Proofs.Ytphknepblchkdaa.Fl

namespace Go.Proofs.Ytphknepblchkdaa.Fl
open Go.RowKit
open Go.Proofs.Ytphknepblchkdaa.In (zI zP zF zI_zI zP_zP cntS cntS_fnN len_cnt)
set_option linter.unusedVariables false

theorem rch_end {L : List PP} {first n : Nat} (h : ∀ p, L[first]? = some p → waysN p = []) (r : Rch L first n) : n = first := by
 induction r with
 | base => rfl
 | step r hp hm ih =>
  subst ih
  rw [h _ hp] at hm
  cases hm
theorem rchB_end {L : List PP} {first n : Nat} (h : ∀ p, L[first]? = some p → waysN p = []) : rchB L first n = (n == first) := by
 rw [Bool.eq_iff_iff, rchB_iff, beq_iff_eq]
 exact ⟨rch_end h, fun e => by rw [e]; exact .base⟩
def x0 (imm : Int) : PP := ⟨[⟨20, 0, 0, 0, 0, imm, [], none, 0⟩], false, 0, 1, 2, none, 0⟩
def xq (v : Int) : PP := ⟨[⟨20, 0, 1, 0, 0, v, [], none, 0⟩, ⟨33, 0, 0, 1, 0, 0, [], none, 0⟩], true, 0, 0, 0, none, 0⟩
def xL (imm : Int) : List PP := [x0 imm, xq 1, xq 2]
/-- What is printed. -/
def vOf (d : Bool) : Int := if d then 1 else 2
def yo (imm v : Int) : PP := ⟨[⟨20, 0, 0, 0, 0, imm, [], none, 0⟩, ⟨20, 0, 1, 0, 0, v, [], none, 0⟩, ⟨33, 0, 0, 1, 0, 0, [], none, 0⟩], true, 0, 0, 0, none, 0⟩
def x1 (imm : Int) (d : Bool) : PP := goP (x0 imm) (vOf d)
theorem take_x (imm : Int) (fault : Bool) : tkL fault (xL imm) = [x1 imm ((imm != 0) != fault), xq 1, xq 2] := by
 show [takeP fault (x0 imm), takeP fault (xq 1), takeP fault (xq 2)] = _
 have h0 : takeP fault (x0 imm) = x1 imm ((imm != 0) != fault) := by
  unfold takeP
  rw [if_pos (show brP (x0 imm) = true from rfl)]
  show (if (20 : Int) = 20 then goP (x0 imm) (wayP (x0 imm) ((imm != 0) != fault)) else x0 imm) = _
  rw [if_pos rfl]
  rfl
 rw [h0]
 rfl
theorem end_x (imm : Int) (d : Bool) : endC [x1 imm d, xq 1, xq 2] = ⟨id, [0, 1, 2], [[], [], []], []⟩ := by
 have e : Cs.begTo [x1 imm d, xq 1, xq 2] [x1 imm d, xq 1, xq 2].length = ⟨id, [0, 1, 2], [[], [], []], []⟩ := by
  cases d <;> rfl
 unfold endC
 rw [e]
 exact loop_end _ _ rfl
theorem pas_x (imm : Int) (d : Bool) : pasL [x1 imm d, xq 1, xq 2] = [x1 imm d, xq 1, xq 2] ∧ fstL [x1 imm d, xq 1, xq 2] = 0 := by
 unfold pasL fstL
 rw [end_x]
 cases d <;> exact ⟨rfl, rfl⟩
theorem cnt_x (imm : Int) (d : Bool) : cntL [x1 imm d, xq 1, xq 2] 0 = [1, if d then 1 else 0, if d then 0 else 1] := by
 have h0 : rchB [x1 imm d, xq 1, xq 2] 0 0 = true := rchB_iff.2 .base
 have w0 : waysN (x1 imm d) = [if d then 1 else 2] := by cases d <;> rfl
 have w1 : ∀ v, waysN (xq v) = [] := fun v => rfl
 unfold cntL cntTo
 simp only [List.length_cons, List.length_nil, Nat.zero_add, Nat.reduceAdd, List.range_succ, List.range_zero, List.nil_append, List.cons_append, List.map_cons, List.map_nil, List.sum_cons, List.sum_nil, List.getElem?_cons_zero, List.getElem?_cons_succ, Option.getD_some, h0, w0, w1, List.count_nil, ite_self, if_true, Nat.add_zero]
 cases d <;> rfl
theorem joi_x (imm : Int) (d : Bool) : (joiL [x1 imm d, xq 1, xq 2] 0)[0]? = some (yo imm (vOf d)) ∧ (joiL [x1 imm d, xq 1, xq 2] 0).length = 3 := by
 unfold joiL
 rw [cnt_x]
 cases d with
 | true =>
  have s1 : joiTo ⟨[x1 imm true, xq 1, xq 2], [1, 1, 0]⟩ 1 = ⟨[yo imm 1, xq 1, xq 2], [1, 0, 0]⟩ := by
   show lngP ⟨[x1 imm true, xq 1, xq 2], [1, 1, 0]⟩ 0 = _
   unfold lngP
   rw [lenP]
   show (if h : _ then _ else _) = _
   rw [dif_pos (by show 1 < 2; omega)]
   rw [lenP_none rfl]
   rfl
  have s2 : joiTo ⟨[x1 imm true, xq 1, xq 2], [1, 1, 0]⟩ 2 = ⟨[yo imm 1, xq 1, xq 2], [1, 0, 0]⟩ := s1
  have s3 : joiTo ⟨[x1 imm true, xq 1, xq 2], [1, 1, 0]⟩ 3 = ⟨[yo imm 1, xq 1, xq 2], [1, 0, 0]⟩ := by
   show lngP (joiTo ⟨[x1 imm true, xq 1, xq 2], [1, 1, 0]⟩ 2) 2 = _
   rw [s2]
   unfold lngP
   rw [lenP_none rfl]
  show (joiTo ⟨[x1 imm true, xq 1, xq 2], [1, 1, 0]⟩ 3).ps[0]? = _ ∧ (joiTo ⟨[x1 imm true, xq 1, xq 2], [1, 1, 0]⟩ 3).ps.length = 3
  rw [s3]
  exact ⟨rfl, rfl⟩
 | false =>
  have s1 : joiTo ⟨[x1 imm false, xq 1, xq 2], [1, 0, 1]⟩ 1 = ⟨[yo imm 2, xq 1, xq 2], [1, 0, 0]⟩ := by
   show lngP ⟨[x1 imm false, xq 1, xq 2], [1, 0, 1]⟩ 0 = _
   unfold lngP
   rw [lenP]
   show (if h : _ then _ else _) = _
   rw [dif_pos (by show 1 < 2; omega)]
   rw [lenP_none rfl]
   rfl
  have s2 : joiTo ⟨[x1 imm false, xq 1, xq 2], [1, 0, 1]⟩ 2 = ⟨[yo imm 2, xq 1, xq 2], [1, 0, 0]⟩ := by
   show lngP (joiTo ⟨[x1 imm false, xq 1, xq 2], [1, 0, 1]⟩ 1) 1 = _
   rw [s1]
   unfold lngP
   rw [lenP_none rfl]
  have s3 : joiTo ⟨[x1 imm false, xq 1, xq 2], [1, 0, 1]⟩ 3 = ⟨[yo imm 2, xq 1, xq 2], [1, 0, 0]⟩ := s2
  show (joiTo ⟨[x1 imm false, xq 1, xq 2], [1, 0, 1]⟩ 3).ps[0]? = _ ∧ (joiTo ⟨[x1 imm false, xq 1, xq 2], [1, 0, 1]⟩ 3).ps.length = 3
  rw [s3]
  exact ⟨rfl, rfl⟩
theorem ino_x {L : List PP} {imm v : Int} (h0 : L[0]? = some (yo imm v)) : inoP L 0 = [yo imm v] := by
 have hw : ∀ p, L[0]? = some p → waysN p = [] := fun p hp => by rw [h0] at hp; injection hp with hp; subst hp; rfl
 have ho : ordL L 0 = [0] := by
  unfold ordL ordTo
  congr 1
  rw [List.filter_eq_nil_iff]
  intro n _
  rw [rchB_end hw]
  cases h : n == 0 with
  | true => rw [beq_iff_eq] at h; subst h; simp
  | false => simp
 unfold inoP
 rw [ho]
 show [renP [0] ((L[0]?).getD zeroP)] = _
 rw [h0]
 rfl
theorem flo_x (imm : Int) (fault : Bool) : floL fault (xL imm) = [yo imm (vOf ((imm != 0) != fault))] := by
 unfold floL
 dsimp only
 rw [take_x, (pas_x _ _).1, (pas_x _ _).2]
 exact ino_x (joi_x _ _).1

/-! ### In memory, and run -/
def eP (imm : Int) (b : Nat) : List PP := [⟨[⟨20, 0, 0, 0, 0, imm, [], none, 0⟩], false, 0, 1, 2, some ⟨b + 1, 0, none⟩, 1⟩, ⟨(xq 1).ins, true, 0, 0, 0, some ⟨b + 3, 0, none⟩, 2⟩, ⟨(xq 2).ins, true, 0, 0, 0, some ⟨b + 5, 0, none⟩, 2⟩]
def eF (imm : Int) (b : Nat) : PF := ⟨0, 2, [], eP imm b, none, 0, some ⟨b + 7, 0, none⟩, 3⟩
def eC (imm : Int) (b : Nat) : PC := ⟨[], [], [eF imm b], none, 0, none, 0, some ⟨b + 8, 0, none⟩, 1⟩
def oC (imm v : Int) : PC := ⟨[], [], [⟨0, 2, [], [yo imm v], none, 0, none, 0⟩], none, 0, none, 0, none, 0⟩
theorem eC_valid (imm : Int) (b : Nat) : validP (eC imm b) = 0 := rfl
theorem e_out (fault : Bool) (imm : Int) (b : Nat) : EvC (floC fault (eC imm b)) (oC imm (vOf ((imm != 0) != fault))) := by
 refine z_evc ?_
 show (⟨[], [], [zF (floF fault (eF imm b))], none, 0, none, 0, none, 0⟩ : PC) = ⟨[], [], [zF ⟨0, 2, [], [yo imm (vOf ((imm != 0) != fault))], none, 0, none, 0⟩], none, 0, none, 0, none, 0⟩
 congr 2
 have : floL fault ((eF imm b).parts.map zP) = [yo imm (vOf ((imm != 0) != fault))] := flo_x imm fault
 unfold floF
 rw [this]
 rfl
theorem o_valid (imm v : Int) : validP (oC imm v) = 0 := rfl
theorem o_runs (imm v : Int) (k : Nat) : ocP (runP (oC imm v) (k + 9)) = ⟨true, imm, 0, false, 4, [v]⟩ := by
 simp [runP, callR, oC, start, allocs, partsR, insR, exI, yo, reck1, reck2, rg, setR, St.up, ocP]
theorem o_run (imm v : Int) : ocP (runP (oC imm v) 99) = ⟨true, imm, 0, false, 4, [v]⟩ := o_runs imm v 90
end Go.Proofs.Ytphknepblchkdaa.Fl

namespace Go.Proofs.Ytphknepblchkdaa.Fl
open Go.RowKit
open Go.Proofs.Ytphknepblchkdaa.In (zI zP zF zI_zI zP_zP cntS cntS_fnN len_cnt)
set_option linter.unusedVariables false

/-! ### A run hangs on no address -/
theorem insR_z (cf : CallT) (fuel keep : Nat) : ∀ (l : List PI) (ρ : Rg) (s : St), insR cf fuel keep (l.map zI) ρ s = insR cf fuel keep l ρ s
 | [], _, _ => rfl
 | x :: l, ρ, s => by
  have e : exI cf fuel keep (zI x) ρ s = exI cf fuel keep x ρ s := rfl
  rw [List.map_cons]
  unfold insR
  rw [e]
  cases exI cf fuel keep x ρ s with
  | ok ρ' s' => exact insR_z cf fuel keep l ρ' s'
  | over t sp s' => rfl
theorem partsR_z (cf : CallT) (fuel keep : Nat) (f : PF) : ∀ (g at' : Nat) (ρ : Rg) (s : St), partsR cf fuel keep (zF f) g at' ρ s = partsR cf fuel keep f g at' ρ s
 | 0, _, _, _ => rfl
 | g + 1, at', ρ, s => by
  unfold partsR
  have e : (zF f).parts[at']? = (f.parts[at']?).map zP := by show (f.parts.map zP)[at']? = _; rw [List.getElem?_map]
  rw [e]
  cases f.parts[at']? with
  | none => rfl
  | some p =>
   have hi : insR cf fuel keep (zP p).ins ρ s = insR cf fuel keep p.ins ρ s := insR_z cf fuel keep p.ins ρ s
   simp only [Option.map_some]
   rw [hi]
   cases insR cf fuel keep p.ins ρ s with
   | over t sp s' => rfl
   | ok ρ' s' =>
    dsimp only
    rw [partsR_z cf fuel keep f g]
    rfl
theorem callR_z (c d : PC) (h : d.fns.map zF = c.fns.map zF) (fuel : Nat) : ∀ g, callR d fuel g = callR c fuel g
 | 0 => rfl
 | g + 1 => by
  funext k ar s
  have ih := callR_z c d h fuel g
  unfold callR
  rw [ih]
  have e : (d.fns[k]?).map zF = (c.fns[k]?).map zF := by
   have := congrArg (·[k]?) h
   simpa [List.getElem?_map] using this
  cases h1 : d.fns[k]? with
  | none => cases h2 : c.fns[k]? with
   | none => rfl
   | some f => rw [h1, h2] at e; cases e
  | some f' => cases h2 : c.fns[k]? with
   | none => rw [h1, h2] at e; cases e
   | some f =>
    rw [h1, h2] at e
    injection e with e
    have es : f'.slots = f.slots := (z_evf e).slots
    dsimp only
    rw [es]
    cases allocs f.slots s.bs with
    | none => rfl
    | some bs' =>
     dsimp only
     rw [← partsR_z _ _ _ f', e, partsR_z]
theorem runP_ev {c d : PC} (h : EvC d c) (fuel : Nat) : runP d fuel = runP c fuel := by
 have hz : d.fns.map zF = c.fns.map zF := evl_map (g := zF) (fun _ _ => evf_z) h.fns
 unfold runP start
 rw [callR_z c d hz, h.gl, h.ini, h.fns.len]

theorem validP_ev {a c : PC} (h : EvC a c) : validP a = validP c := by
 have hz : a.fns.map zF = c.fns.map zF := evl_map (g := zF) (fun _ _ => evf_z) h.fns
 have hl : lastP a = lastP c := by
  unfold lastP
  rw [h.fns.len]
  have e : (a.fns[c.fns.length - 1]?).map zF = (c.fns[c.fns.length - 1]?).map zF := by
   have := congrArg (·[c.fns.length - 1]?) hz
   simpa [List.getElem?_map] using this
  cases h1 : a.fns[c.fns.length - 1]? with
  | none => cases h2 : c.fns[c.fns.length - 1]? with
   | none => rfl
   | some g => rw [h1, h2] at e; cases e
  | some f => cases h2 : c.fns[c.fns.length - 1]? with
   | none => rw [h1, h2] at e; cases e
   | some g =>
    rw [h1, h2] at e
    injection e with e
    dsimp only
    rw [(z_evf e).params]
 have hf : ∀ (l m : List PF) (k : Nat), l.map zF = m.map zF → fnsP a k l = fnsP c k m := by
  intro l
  induction l with
  | nil => intro m k h; cases m with
   | nil => rfl
   | cons a m => cases h
  | cons x l ih => intro m k h'; cases m with
   | nil => cases h'
   | cons y m =>
    rw [List.map_cons, List.map_cons] at h'
    injection h' with h1 h2
    unfold fnsP
    rw [fnP_z (c := c) (d := a) h.gl hz k h1, ih m (k + 1) h2]
 unfold validP rightP Go.Proofs.Ytphknepblchkdaa.hdP
 rw [codeN_z h, hl, hf _ _ 0 hz, h.gl, h.ini]
theorem heap_new (X : World) (o : Obj) : (X.alloc o).heap[X.heap.size]? = some o := heap_alloc_new X _
theorem heap_at {X : World} {o : Obj} {k : Nat} (h : k = X.heap.size) : (X.alloc o).heap[k]? = some o := by rw [h]; exact heap_new X o
theorem heap_old {X : World} {k : Nat} {o : Obj} (o' : Obj) (h : X.heap[k]? = some o) : (X.alloc o').heap[k]? = some o := by
 rw [Below.heap_alloc X o' k ((Array.getElem?_eq_some_iff.1 h).1)]
 exact h
theorem sok_no (z : Nat) : sok z none 0 0 := ⟨Nat.le_refl _, by decide, fun _ => rfl, by omega⟩
theorem lst_no {α : Type} {sz : Nat} {P : Nat → Nat → α → Prop} {a : Option Addr} : Lst sz P a [] := fun k x e => by simp at e
theorem lst_blk {α : Type} {sz g : Nat} {P : Nat → Nat → α → Prop} {l : List α} (h : ∀ k x, l[k]? = some x → P g (k * sz) x) : Lst sz P (some ⟨g, 0, none⟩) l := fun k x e => ⟨g, 0, rfl, by rw [Nat.zero_add]; exact h k x e⟩
theorem i64_zero : I64 0 := by unfold I64; omega

/-! ### The example's blocks -/
structure EB (imm : Int) (b : Nat) (w : World) : Prop where
 h1 : w.heap[b + 1]? = some (.cells (((x0 imm).ins).flatMap PI.cells).toArray 49 (0, 0))
 h3 : w.heap[b + 3]? = some (.cells (((xq 1).ins).flatMap PI.cells).toArray 49 (0, 0))
 h5 : w.heap[b + 5]? = some (.cells (((xq 2).ins).flatMap PI.cells).toArray 49 (0, 0))
 h7 : w.heap[b + 7]? = some (.cells ((eP imm b).flatMap PP.cells).toArray 47 (0, 0))
 h8 : w.heap[b + 8]? = some (.cells ([eF imm b].flatMap PF.cells).toArray 44 (0, 0))
theorem EB.q {imm : Int} {b : Nat} {w w' : World} (h : EB imm b w) (q : Q w w') : EB imm b w' := ⟨heap_keep q h.h1, heap_keep q h.h3, heap_keep q h.h5, heap_keep q h.h7, heap_keep q h.h8⟩
theorem EB.set {imm : Int} {b : Nat} {w : World} (h : EB 0 b w) : EB imm b (w.setCell ⟨b + 1, 5, none⟩ (.int .i64 imm)) := by
 refine ⟨?_, ?_, ?_, ?_, ?_⟩
 ·rw [block_setCell h.h1]; rfl
 ·rw [Below.heap_setCell _ _ _ _ (by show b + 3 ≠ b + 1; omega)]; exact h.h3
 ·rw [Below.heap_setCell _ _ _ _ (by show b + 5 ≠ b + 1; omega)]; exact h.h5
 ·rw [Below.heap_setCell _ _ _ _ (by show b + 7 ≠ b + 1; omega)]; exact h.h7
 ·rw [Below.heap_setCell _ _ _ _ (by show b + 8 ≠ b + 1; omega)]; exact h.h8
theorem EB.ok {imm : Int} {b : Nat} {w : World} (h : EB imm b w) (hm : I64 imm) : (eC imm b).ok w := by
 have z := i64_zero
 have z1 : I64 1 := by unfold I64; omega
 have z2 : I64 2 := by unfold I64; omega
 have s1 : ∀ g z k, k ≤ 4 → z ≤ 64 → sok z (some ⟨g, 0, none⟩) k k := fun g z k hk hz => ⟨Nat.le_refl _, by unfold maxLen; omega, (fun h => by cases h), by have : k * z ≤ 4 * 64 := Nat.mul_le_mul hk hz; omega⟩
 refine ⟨sok_no _, lst_no, sok_no _, lst_no, s1 _ _ _ (show 1 ≤ 4 by decide) (by decide), lst_blk fun k f hf => ⟨flat_block PF.len h.h8 hf, ?_⟩⟩
 have hf' := List.mem_of_getElem? hf
 simp [eC] at hf'
 subst hf'
 refine ⟨z, z2, sok_no _, lst_no, s1 _ _ _ (show 3 ≤ 4 by decide) (by decide), lst_blk fun k p hp => ⟨flat_block PP.len h.h7 hp, ?_⟩⟩
 have hp' := List.mem_of_getElem? hp
 simp [eF, eP] at hp'
 rcases hp' with rfl | rfl | rfl
 ·refine ⟨z, z1, z2, s1 _ _ _ (show 1 ≤ 4 by decide) (by decide), lst_blk fun k i hi => ⟨flat_block PI.len h.h1 hi, ?_⟩⟩
  have hi' := List.mem_of_getElem? hi
  simp at hi'
  subst hi'
  exact ⟨by simp, by simp, z, z, z, hm, sok_no _, lst_no⟩
 ·refine ⟨z, z, z, s1 _ _ _ (show 2 ≤ 4 by decide) (by decide), lst_blk fun k i hi => ⟨flat_block PI.len h.h3 hi, ?_⟩⟩
  have hi' := List.mem_of_getElem? hi
  simp [xq] at hi'
  rcases hi' with rfl | rfl
  ·exact ⟨by simp, by simp, z1, z, z, z1, sok_no _, lst_no⟩
  ·exact ⟨by simp, by simp, z, z1, z, z, sok_no _, lst_no⟩
 ·refine ⟨z, z, z, s1 _ _ _ (show 2 ≤ 4 by decide) (by decide), lst_blk fun k i hi => ⟨flat_block PI.len h.h5 hi, ?_⟩⟩
  have hi' := List.mem_of_getElem? hi
  simp [xq] at hi'
  rcases hi' with rfl | rfl
  ·exact ⟨by simp, by simp, z1, z, z, z2, sok_no _, lst_no⟩
  ·exact ⟨by simp, by simp, z, z1, z, z, sok_no _, lst_no⟩
set_option maxRecDepth 100000 in
set_option maxHeartbeats 2000000 in
theorem example_any (w : World) : Calls Try.prog 17 #[] w fun e w' => e = .returned (eC 0 w.heap.size).v ∧ EB 0 w.heap.size w' ∧ w.heap.size + 8 < w'.heap.size ∧ Q w w' := by
 go_enter Try.func17, Try.ntmps17
 go_wp2
 refine bodyPost_ret (v := (eC 0 w.heap.size).v) (by simp [results, Try.results17, go_sem, eC]) rfl ?_
 refine ⟨rfl, ⟨heap_old _ (heap_old _ (heap_old _ (heap_old _ (heap_old _ (heap_old _ (heap_old _ (heap_at (by simp)))))))), heap_old _ (heap_old _ (heap_old _ (heap_old _ (heap_old _ (heap_at (by simp)))))), heap_old _ (heap_old _ (heap_old _ (heap_at (by simp)))), heap_old _ (heap_at (by simp)), heap_at (by simp)⟩, by simp, ?_⟩
 exact (((((((((Q.refl w).alloc _).alloc _).alloc _).alloc _).alloc _).alloc _).alloc _).alloc _).alloc _
/-- What the program makes of the example. -/
structure ER (imm v : Int) (A : PC) (w' : World) : Prop where
 ev : EvC A (oC imm v)
 ok : A.ok w'
theorem ER.keep {imm v : Int} {A : PC} {w w' : World} (h : ER imm v A w) (q : Q w w') : ER imm v A w' := ⟨h.ev, h.ok.keep q⟩
theorem codeN_e (imm : Int) (b : Nat) : codeN (eC imm b) = 8 := rfl
theorem evc_trans {a b c : PC} (h : EvC a b) (h' : EvC b c) : EvC a c := z_evc ((evc_z h).trans (evc_z h'))
theorem erun (w : World) (fault : Bool) (imm : Int) (b : Nat) (hok : (eC imm b).ok w) : Calls Try.prog 9 #[.agg #[.slice none 0 0, .slice none 0 0, .slice (some ⟨b + 8, 0, none⟩) 1 1], .bool fault] w fun e w' => ∃ A : PC, e = .returned (.tuple #[A.v, .int .i64 0]) ∧ ER imm (vOf ((imm != 0) != fault)) A w' ∧ Q w w' := by
 refine (run_good w _ fault hok (eC_valid imm b) (by rw [codeN_e]; omega)).mono ?_
 rintro e w' ⟨A, rfl, h1, h2, h3⟩
 exact ⟨A, rfl, ⟨evc_trans h1 (e_out fault imm b), h2.ok⟩, h3⟩
theorem ER.f {imm v : Int} {A : PC} {w' : World} (h : ER imm v A w') : ∃ f fb fo, A.fns.length = 1 ∧ A.fns[0]? = some f ∧ A.fa = some ⟨fb, fo, none⟩ ∧ At w' fb fo f.cells ∧ f.parts.length = 1 := by
 have hl : A.fns.length = 1 := h.ev.fns.len
 obtain ⟨f, hf⟩ := get_of_lt (l := A.fns) (k := 0) (by omega)
 obtain ⟨fb, fo, e, hat, hok⟩ := h.ok.fns 0 f hf
 have := (h.ev.fns.each 0 f _ hf rfl).parts.len
 refine ⟨f, fb, fo, hl, hf, e, ?_, this⟩
 rw [Nat.zero_mul, Nat.add_zero] at hat
 exact hat

/-! ### What it prints -/
set_option maxRecDepth 100000 in
set_option maxHeartbeats 2000000 in
theorem prints_any (w : World) (A : PC) (imm v : Int) (h : ER imm v A w) : Calls Try.prog 18 #[A.v] w fun e w' => e = .returned (.int .i64 v) ∧ Q w w' := by
 have hv : validP A = 0 := by rw [validP_ev h.ev]; exact o_valid imm v
 have HO := hideIt ((h.ok).keep (bxC_q w A))
 have CD : Hid (∀ X, Q (bxC w A) X → Calls Try.prog 11 #[A.v, .int .i64 99] X fun e w' => ∃ ta tc tb to', e = .returned (.tuple #[.agg #[.bool true, .int .i64 imm, .int .u8 0, .bool false, .int .i64 4, .slice ta 1 tc], .int .i64 0]) ∧ ta = some ⟨tb, to', none⟩ ∧ w'.cell? ⟨tb, to', none⟩ = some (.int .i64 v) ∧ Q X w') := fun X hX => by
  refine (Dn.do_good X A (HO.out.keep hX) 99 (by omega) hv).mono ?_
  rintro e v' ⟨u, rfl, ta, tc, rfl, ht, hl, hq⟩
  rw [runP_ev h.ev, o_run imm v] at ht ⊢
  obtain ⟨tb, to', e1, e2⟩ := ht 0 v rfl
  exact ⟨ta, tc, tb, to', rfl, e1, by simpa using e2, hq⟩
 have HB : Hid (Q w (bxC w A)) := bxC_q w A
 clear h hv HO
 go_enter Try.func18, Try.ntmps18
 go_wp2_with (first
  | (go_at_call 11; refine Calls.mono (CD.out _ (Q.refl _)) ?_; rintro e z ⟨ta, tc, tb, to', rfl, rfl, hc, q1⟩; have HQ := hideIt (HB.out.trans q1); have c0 := fun ob => cell_keep ((Q.refl z).alloc ob) hc; clear hc q1)
  | fail)
 go_ret
 exact ⟨rfl, HQ.out.alloc _⟩

/-! ### awake -/
set_option maxRecDepth 100000 in
set_option maxHeartbeats 2000000 in
theorem awake_any (w : World) : Calls Try.prog 7 #[] w fun e w' => e = .returned (.bool true) ∧ Q w w' := by
 have CE := hideIt (fun X => example_any X)
 have CR : Hid (∀ X b, EB 0 b X → Calls Try.prog 9 #[.agg #[.slice none 0 0, .slice none 0 0, .slice (some ⟨b + 8, 0, none⟩) 1 1], .bool false] X fun e w' => ∃ A f fb fo, e = .returned (.tuple #[.agg #[.slice A.ga A.gl.length A.gc, .slice A.na A.ini.length A.nc, .slice (some ⟨fb, fo, none⟩) 1 A.fc], .int .i64 0]) ∧ A.v = .agg #[.slice A.ga A.gl.length A.gc, .slice A.na A.ini.length A.nc, .slice (some ⟨fb, fo, none⟩) 1 A.fc] ∧ ER 0 2 A w' ∧ w'.cell? ⟨fb, fo + 3, none⟩ = some (.slice (PF.pa f) 1 (PF.pc f)) ∧ Q X w') := fun X b h => by
  refine (erun X false 0 b (h.ok i64_zero)).mono ?_
  rintro e w' ⟨A, rfl, er, q⟩
  obtain ⟨f, fb, fo, e1, e2, e3, e4, e5⟩ := er.f
  have hv : A.v = .agg #[.slice A.ga A.gl.length A.gc, .slice A.na A.ini.length A.nc, .slice (some ⟨fb, fo, none⟩) 1 A.fc] := by
   unfold PC.v
   rw [e3, e1]
  have c3 := e4.cell 3 (.slice f.pa f.parts.length f.pc) rfl
  rw [e5] at c3
  exact ⟨A, f, fb, fo, by rw [hv], hv, er, c3, q⟩
 have CP := hideIt (fun X A h => prints_any X A 0 2 h)
 go_enter Try.func7, Try.ntmps7
 go_wp2_with (first
  | (go_at_call 17; refine (CE.out _).mono ?_; rintro e x ⟨rfl, eb, -, q1⟩; have HK := hideIt eb; have HQ1 := hideIt q1; clear eb q1; dsimp only [eC, PC.v, List.length_nil, List.length_cons])
  | (go_at_call 9; refine Calls.mono (CR.out _ _ HK.out) ?_; rintro e y ⟨A, f, fb, fo, rfl, hv, er, hc, q2⟩; have HV := hideIt hv; have HER := hideIt er; have HQ2 := hideIt (HQ1.out.trans q2); have c3 := fun ob => cell_keep ((Q.refl y).alloc ob) hc; clear hv er hc q2)
  | (go_at_call 18; rw [← HV.out]; refine Calls.mono (CP.out _ A (HER.out.keep ((Q.refl y).alloc _))) ?_; rintro e z ⟨rfl, q3⟩; have HQ3 := hideIt q3; clear q3)
  | fail)
 go_ret
 exact ⟨rfl, (HQ2.out.alloc _).trans HQ3.out⟩
end Go.Proofs.Ytphknepblchkdaa.Fl
