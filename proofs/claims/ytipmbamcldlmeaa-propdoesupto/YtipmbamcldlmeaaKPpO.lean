/-
  What is read elsewhere does what it did: plain laws; no program in sight; no conditions but those that each fact bears.
  What comes of right code by reading elsewhere is right; a run that halts halts in just its steps: plain laws; no conditions but those that each fact bears.
-/
import Derived.Test.YtipmbamcldlmeaaKPpM
import Derived.Test.YtipmbamcldlmeaaKPmA
import Derived.Test.YtipmbamcldlmeaaKDnK
import Derived.Test.YtipmbamcldlmeaaKDnO
namespace Go.Proofs.Ytipmbamcldlmeaa.Pp
open Go.RowKit
set_option linter.unusedVariables false

/-- A copy holds what it was copied from. -/
def Knows (P : List PI) (ρ : Rg) : Prop := ∀ r a, cp false P r = some a → rg ρ r = rg ρ a
theorem knows_nil (ρ : Rg) : Knows [] ρ := fun r a h => by rw [cp_none (last_nil r)] at h; cases h
theorem src_rg {P : List PI} {ρ : Rg} (hK : Knows P ρ) (hR : RF false P) (r : Int) : rg ρ (src false P r) = rg ρ r := by
  cases hc : cp false P r with
  | none => rw [src_none hc]
  | some a => rw [src_some hR hc, src_none (rf_one hR hc)]; exact (hK r a hc).symm
theorem rg_set (ρ : Rg) (r d v : Int) (hr : 0 ≤ r) (hd : 0 ≤ d) : rg (setR ρ d.toNat v) r = if r = d then v else rg ρ r := by
  unfold rg setR
  by_cases e : r = d
  · rw [if_pos e, e, if_pos rfl]
  · rw [if_neg e, if_neg (fun q => e (by omega))]

/-- An instruction that reads the same numbers does the same. -/
theorem ex_alike {cf : CallT} {fuel keep : Nat} {ρ : Rg} {x y : PI} (h1 : y.op = x.op) (h2 : y.ty = x.ty) (h3 : y.dst = x.dst) (h4 : y.imm = x.imm) (h5 : rg ρ y.a = rg ρ x.a) (h6 : rg ρ y.b = rg ρ x.b) (h7 : y.args.map (rg ρ) = x.args.map (rg ρ)) (s : St) : exI cf fuel keep y ρ s = exI cf fuel keep x ρ s := by
  have r1 : reck1 keep ρ y = reck1 keep ρ x := by unfold reck1; rw [h1, h2, h4, h5, h6]
  have r2 : reck2 ρ y = reck2 ρ x := by unfold reck2; rw [h1, h2, h4, h5, h6]
  unfold exI
  rw [r1, r2, h1, h3, h4, h5, h6, h7]
theorem ex_read {cf : CallT} {fuel keep : Nat} {ρ : Rg} {s : Int → Int} (hs : ∀ r, rg ρ (s r) = rg ρ r) (x : PI) (st : St) : exI cf fuel keep (readI s x) ρ st = exI cf fuel keep x ρ st := by
  refine ex_alike (readI_op s x) (readI_ty s x) (readI_dst s x) (readI_imm s x) ?_ ?_ ?_ st
  · unfold readI
    split
    · rfl
    · split
      · exact hs _
      · split
        · exact hs _
        · rfl
  · unfold readI
    split
    · rfl
    · split
      · exact hs _
      · split <;> rfl
  · unfold readI
    split
    · show (x.args.map s).map (rg ρ) = x.args.map (rg ρ)
      rw [List.map_map]
      exact List.map_congr_left fun r _ => hs r
    · split
      · rfl
      · split <;> rfl
/-- An instruction that is alike does the same. -/
theorem ex_ev {cf cf' : CallT} {fuel keep : Nat} {ρ : Rg} {x y : PI} (h : EvI y x) (hc : x.op = 32 → ∀ A s, cf' x.imm.toNat A s = cf x.imm.toNat A s) (s : St) : exI cf' fuel keep y ρ s = exI cf fuel keep x ρ s := by
  have r1 : reck1 keep ρ y = reck1 keep ρ x := by unfold reck1; rw [h.op, h.ty, h.a, h.b, h.imm]
  have r2 : reck2 ρ y = reck2 ρ x := by unfold reck2; rw [h.op, h.ty, h.a, h.b, h.imm]
  unfold exI
  rw [r1, r2, h.op, h.a, h.b, h.dst, h.imm, h.args]
  by_cases n32 : x.op = 32
  · rw [hc n32]
  · simp only [n32, if_false]

theorem ex_dst {cf : CallT} {fuel keep : Nat} {ρ ρ' : Rg} {x : PI} {s s' : St} (h : exI cf fuel keep x ρ s = .ok ρ' s') : (wrP x.op = false ∧ ρ' = ρ) ∨ (x.op ≠ 31 ∧ x.op ≠ 33 ∧ ∃ v, ρ' = setR ρ x.dst.toNat v ∧ (x.op = 21 → v = rg ρ x.a)) := by
  unfold exI at h
  by_cases hn : s.n = fuel
  · rw [if_pos hn] at h; cases h
  rw [if_neg hn] at h
  by_cases h33 : x.op = 33
  · rw [if_pos h33] at h
    injection h with h1 h2
    exact Or.inl ⟨by rw [h33]; rfl, h1.symm⟩
  rw [if_neg h33] at h
  by_cases h31 : x.op = 31
  · rw [if_pos h31] at h
    split at h
    · injection h with h1 h2; exact Or.inl ⟨by rw [h31]; rfl, h1.symm⟩
    · cases h
  rw [if_neg h31] at h
  refine Or.inr ⟨h31, h33, ?_⟩
  by_cases h30 : x.op = 30
  · rw [if_pos h30] at h
    split at h
    · injection h with h1 h2; exact ⟨_, h1.symm, fun q => by omega⟩
    · cases h
  rw [if_neg h30] at h
  by_cases h32 : x.op = 32
  · rw [if_pos h32] at h
    split at h
    · injection h with h1 h2; exact ⟨_, h1.symm, fun q => by omega⟩
    · cases h
  rw [if_neg h32] at h
  split at h
  · injection h with h1 h2
    refine ⟨_, h1.symm, fun q => ?_⟩
    unfold reck1; rw [if_neg (by omega), if_pos q]
  · cases h
/-- What is known behind an instruction. -/
theorem knows_next {cf : CallT} {fuel keep : Nat} {N : Int} {P : List PI} {ρ ρ' : Rg} (hK : Knows P ρ) {y : PI} {s s' : St} (hkn : knP y.op = true) (hP : ∀ i ∈ P, InR N i) (hy : InR N y) (h : exI cf fuel keep y ρ s = .ok ρ' s') : Knows (P ++ [y]) ρ' := by
  have pos : ∀ r a, cp false P r = some a → 0 ≤ r ∧ 0 ≤ a := fun r a hc => by
    obtain ⟨k, i, k1, k2, k3, k4, k5, -⟩ := cp_inv hc
    have hi := hP i (List.mem_of_getElem? k2)
    exact ⟨by rw [← k3.2]; exact (hi.dst k3.1).1, by rw [← k5]; exact (hi.move k4).1⟩
  rcases ex_dst h with ⟨hw, rfl⟩ | ⟨n31, n33, v, rfl, h21⟩
  · intro r a hc
    have hr : ¬ wrs y r := fun q => by have := q.1; rw [hw] at this; cases this
    exact hK r a (cp_back hr hc).1
  · have hw : wrP y.op = true := by unfold wrP; rw [hkn]; simp [n31, n33]
    have hd := (hy.dst hw).1
    intro r a hc
    rcases wrs_dec y r with q | q
    · obtain ⟨h1, h2, h3, h4⟩ := cp_new q hc
      have ha : 0 ≤ a := by rw [← h2]; exact (hy.move h1).1
      have er : r = y.dst := q.2.symm
      rw [rg_set _ _ _ _ (by omega) hd, if_pos er, rg_set _ _ _ _ ha hd, if_neg (fun e => h3 (by rw [er, e])), h21 h1, h2]
    · obtain ⟨h1, h2⟩ := cp_back q hc
      obtain ⟨p1, p2⟩ := pos r a h1
      have n1 : ¬ r = y.dst := fun e => q ⟨hw, e.symm⟩
      have n2 : ¬ a = y.dst := fun e => h2 rfl ⟨hw, e.symm⟩
      rw [rg_set _ _ _ _ p1 hd, if_neg n1, rg_set _ _ _ _ p2 hd, if_neg n2]
      exact hK r a h1

theorem ins_imm {c : PC} {k : Nat} {f : PF} {x : PI} (h : insP c k f x = true) (h32 : x.op = 32) : x.imm.toNat < k := by
  unfold insP immP at h
  simp only [Bool.and_eq_true] at h
  have := h.2.2.2.2
  simp [h32, blP] at this
  omega
theorem ins_kn {c : PC} {k : Nat} {f : PF} {x : PI} (h : insP c k f x = true) : knP x.op = true := by
  unfold insP at h
  simp only [Bool.and_eq_true] at h
  exact h.1
theorem bl_iff {r m : Int} : blP r m = true ↔ inN m r := by unfold blP inN; simp
/-- What is read elsewhere is right still. -/
theorem ins_read {c : PC} {k : Nat} {f : PF} {x : PI} (h : insP c k f x = true) {s : Int → Int} (hs : ∀ r, inN f.regs r → inN f.regs (s r)) : insP c k f (readI s x) = true := by
  have hr : InR f.regs (readI s x) := (inr_of h (Int.le_refl _)).read hs
  have eo := readI_op s x
  unfold insP at h ⊢
  simp only [Bool.and_eq_true] at h ⊢
  obtain ⟨i1, i2, i3, -, i5⟩ := h
  refine ⟨by rw [eo]; exact i1, by rw [readI_ty]; exact i2, ?_, ?_, ?_⟩
  · unfold wtP at i3 ⊢
    rw [eo, readI_dst]
    exact i3
  · unfold rdsP
    have hl := rdP_le (readI s x).op
    simp only [Bool.and_eq_true, Bool.or_eq_true, Bool.not_eq_true', decide_eq_false_iff_not]
    refine ⟨⟨?_, ?_⟩, ?_⟩
    · by_cases q : 0 < rdP (readI s x).op
      · exact Or.inr (bl_iff.2 (hr.a (by omega)))
      · exact Or.inl q
    · by_cases q : 1 < rdP (readI s x).op
      · exact Or.inr (bl_iff.2 (hr.b (by omega)))
      · exact Or.inl q
    · by_cases q : (readI s x).op = 32
      · exact Or.inr (List.all_eq_true.2 fun r hr' => bl_iff.2 (hr.args q r hr'))
      · exact Or.inl (by simpa using q)
  · unfold immP at i5 ⊢
    rw [eo, readI_imm, readI_len]
    exact i5

/-- Instructions that are read so do what they did. -/
theorem ins_eq {c : PC} {k : Nat} {f : PF} {cf cf' : CallT} (hc : ∀ j, j < k → ∀ A s, cf' j A s = cf j A s) {fuel keep : Nat} : ∀ (l m P : List PI) (ρ : Rg) (s : St), EvL EvI m (propL false P l) → Knows P ρ → RF false P → (∀ i ∈ P, InR f.regs i) → (∀ x ∈ l, insP c k f x = true) → insR cf' fuel keep m ρ s = insR cf fuel keep l ρ s ∧ ∀ ρ' s', insR cf fuel keep l ρ s = .ok ρ' s' → Knows (P ++ propL false P l) ρ'
  | [], m, P, ρ, s, he, hK, hR, hP, hi => by
    have : m = [] := List.eq_nil_of_length_eq_zero he.len
    subst this
    refine ⟨rfl, fun ρ' s' h => ?_⟩
    simp only [insR] at h
    injection h with h1 h2
    subst h1
    simpa [propL] using hK
  | x :: l, [], P, ρ, s, he, hK, hR, hP, hi => by have := he.len; simp [propL] at this
  | x :: l, y :: m, P, ρ, s, he, hK, hR, hP, hi => by
    obtain ⟨h1, h2⟩ := evl_head he
    have hx := hi x (List.mem_cons_self ..)
    have hsr := src_rg hK hR
    have hs : ∀ r, inN f.regs r → inN f.regs (src false P r) := fun r hr => src_in hP hr
    have hxr := ins_read hx hs
    have e1 : exI cf' fuel keep y ρ s = exI cf fuel keep (readI (src false P) x) ρ s := ex_ev h1 (fun q A s => hc _ (by rw [readI_imm]; exact ins_imm hx (by rw [readI_op] at q; exact q)) A s) s
    have e2 : exI cf fuel keep (readI (src false P) x) ρ s = exI cf fuel keep x ρ s := ex_read hsr x s
    simp only [insR]
    rw [e1, e2]
    cases hr : exI cf fuel keep x ρ s with
    | over t sp s' => exact ⟨rfl, fun ρ' s' h => by cases h⟩
    | ok ρ' s' =>
      have hN : InR f.regs (readI (src false P) x) := inr_of hxr (Int.le_refl _)
      have hP' : ∀ i ∈ P ++ [readI (src false P) x], InR f.regs i := fun i hi => by
        rcases List.mem_append.1 hi with q | q
        · exact hP i q
        · simp at q; subst q; exact hN
      obtain ⟨g1, g2⟩ := ins_eq hc l m _ ρ' s' h2 (knows_next hK (by rw [readI_op]; exact ins_kn hx) hP hN (e2.trans hr)) (rf_step hR x) hP' (fun z hz => hi z (List.mem_cons_of_mem _ hz))
      refine ⟨g1, fun ρ2 s2 h => ?_⟩
      have := g2 ρ2 s2 h
      simpa [propL] using this

theorem propL_inr {fault : Bool} {N : Int} : ∀ (l P : List PI), (∀ i ∈ P, InR N i) → (∀ i ∈ l, InR N i) → ∀ i ∈ propL fault P l, InR N i
  | [], P, _, _, i, hi => by simp [propL] at hi
  | x :: l, P, hP, hl, i, hi => by
    have h1 : InR N (readI (src fault P) x) := (hl x (List.mem_cons_self ..)).read fun r hr => src_in hP hr
    simp only [propL] at hi
    rcases List.mem_cons.1 hi with e | e
    · subst e; exact h1
    · exact propL_inr l _ (fun z hz => by rcases List.mem_append.1 hz with q | q; exact hP z q; simp at q; subst q; exact h1) (fun z hz => hl z (List.mem_cons_of_mem _ hz)) i e

theorem parts_eq {c : PC} {k : Nat} {f f' : PF} {cf cf' : CallT} (hc : ∀ j, j < k → ∀ A s, cf' j A s = cf j A s) (hf : EvF f' (propF false f)) (hv : ∀ p ∈ f.parts, ∀ x ∈ p.ins, insP c k f x = true) (hvc : ∀ p ∈ f.parts, 0 ≤ p.cond → inN f.regs p.cond) {fuel keep : Nat} : ∀ (g at' : Nat) (ρ : Rg) (s : St), partsR cf' fuel keep f' g at' ρ s = partsR cf fuel keep f g at' ρ s
  | 0, at', ρ, s => rfl
  | g + 1, at', ρ, s => by
    simp only [partsR]
    rcases evl_get hf.parts at' with ⟨h1, h2⟩ | ⟨p', q, h1, h2, h3⟩
    · have h4 : f.parts[at']? = none := by
        have : (f.parts.map (propP false))[at']? = none := h2
        rw [List.getElem?_map] at this
        cases hh : f.parts[at']? with
        | none => rfl
        | some z => rw [hh] at this; cases this
      rw [h1, h4]
    · obtain ⟨p, hp, rfl⟩ : ∃ p, f.parts[at']? = some p ∧ propP false p = q := by
        have : (f.parts.map (propP false))[at']? = some q := h2
        rw [List.getElem?_map] at this
        cases hh : f.parts[at']? with
        | none => rw [hh] at this; cases this
        | some z => rw [hh] at this; exact ⟨z, rfl, by simpa using this⟩
      rw [h1, hp]
      dsimp only
      obtain ⟨g1, g2⟩ := ins_eq (c := c) (k := k) (f := f) hc (fuel := fuel) (keep := keep) p.ins p'.ins [] ρ s h3.ins (knows_nil ρ) (rf_nil _) (fun i hi => by simp at hi) (hv p (List.mem_of_getElem? hp))
      rw [g1]
      have e1 : p'.e = p.e := h3.e
      have e2 : p'.cond = if 0 ≤ p.cond then src false (propL false [] p.ins) p.cond else p.cond := h3.cond
      have e3 : p'.next = p.next := h3.next
      have e4 : p'.els = p.els := h3.els
      cases hr : insR cf fuel keep p.ins ρ s with
      | over t sp s' => rfl
      | ok ρ' s' =>
        dsimp only
        have hK := g2 ρ' s' hr
        rw [List.nil_append] at hK
        have hRF : RF false (propL false [] p.ins) := by have := rf_all (fault := false) p.ins [] (rf_nil _); rwa [List.nil_append] at this
        have er : rg ρ' p'.cond = rg ρ' p.cond := by
          rw [e2]
          split
          · exact src_rg hK hRF _
          · rfl
        have ez : 0 ≤ p'.cond ↔ 0 ≤ p.cond := by
          rw [e2]
          split
          · rename_i h0
            have hin : ∀ i ∈ propL false [] p.ins, InR f.regs i := propL_inr p.ins [] (fun i hi => by simp at hi) fun x hx => inr_of (hv p (List.mem_of_getElem? hp) x hx) (Int.le_refl _)
            exact ⟨fun _ => h0, fun _ => (src_in hin (hvc p (List.mem_of_getElem? hp) h0)).1⟩
          · exact Iff.rfl
        have en : nextP p' ρ' = nextP p ρ' := by unfold nextP; rw [er, e3, e4]; simp only [ez]
        rw [e1, er, en, parts_eq hc hf hv hvc g _ ρ' s'.up]

theorem call_eq {c d : PC} (hd : EvC d (propC false c)) (hv : ∀ (k : Nat) (f : PF), c.fns[k]? = some f → fnP c k f = true) (fuel : Nat) : ∀ (g k : Nat) (A : List Int) (s : St), callR d fuel g k A s = callR c fuel g k A s
  | 0, k, A, s => rfl
  | g + 1, k, A, s => by
    rw [callR, callR]
    rcases evl_get hd.fns k with ⟨h1, h2⟩ | ⟨f', q, h1, h2, h3⟩
    · have h4 : c.fns[k]? = none := by
        have : (c.fns.map (propF false))[k]? = none := h2
        rw [List.getElem?_map] at this
        cases hh : c.fns[k]? with
        | none => rfl
        | some z => rw [hh] at this; cases this
      rw [h1, h4]
    · obtain ⟨f, hf, rfl⟩ : ∃ f, c.fns[k]? = some f ∧ propF false f = q := by
        have : (c.fns.map (propF false))[k]? = some q := h2
        rw [List.getElem?_map] at this
        cases hh : c.fns[k]? with
        | none => rw [hh] at this; cases this
        | some z => rw [hh] at this; exact ⟨z, rfl, by simpa using this⟩
      rw [h1, hf]
      dsimp only
      have e1 : f'.slots = f.slots := h3.slots
      rw [e1]
      cases allocs f.slots s.bs with
      | none => rfl
      | some bs' =>
        dsimp only
        have hins : ∀ p ∈ f.parts, ∀ x ∈ p.ins, insP c k f x = true := fun p hp x hx => by
          have := hv k f hf
          unfold fnP at this
          simp only [Bool.and_eq_true] at this
          have := List.all_eq_true.1 this.2 p hp
          unfold ptP at this
          simp only [Bool.and_eq_true] at this
          exact List.all_eq_true.1 this.2 x hx
        have hcon : ∀ p ∈ f.parts, 0 ≤ p.cond → inN f.regs p.cond := fun p hp h0 => by
          have := hv k f hf
          unfold fnP at this
          simp only [Bool.and_eq_true] at this
          exact (rgp_of (List.all_eq_true.1 this.2 p hp) (Int.le_refl _)).2 h0
        rw [parts_eq (c := c) (k := k) (f := f) (f' := f') (cf := callR c fuel g) (cf' := callR d fuel g) (fun j _ A s => call_eq hd hv fuel g j A s) h3 hins hcon]
theorem run_eq {c d : PC} (hd : EvC d (propC false c)) (hv : ∀ (k : Nat) (f : PF), c.fns[k]? = some f → fnP c k f = true) (fuel : Nat) : runP d fuel = runP c fuel := by
  unfold runP
  have e1 : d.fns.length = c.fns.length := by rw [hd.fns.len]; simp [propC]
  have e2 : start d = start c := by unfold start; rw [hd.gl, hd.ini]; rfl
  rw [e1, e2, call_eq hd hv]

end Go.Proofs.Ytipmbamcldlmeaa.Pp

namespace Go.Proofs.Ytipmbamcldlmeaa.Pp
open Go.RowKit
set_option linter.unusedVariables false

theorem all_ev {α : Type} {R : α → α → Prop} {l m : List α} (h : EvL R l m) {P P' : α → Bool} (hp : ∀ (k : Nat) x y, l[k]? = some x → m[k]? = some y → R x y → P y = true → P' x = true) (hm : m.all P = true) : l.all P' = true := by
  rw [List.all_eq_true] at hm ⊢
  intro x hx
  obtain ⟨k, hk⟩ := List.mem_iff_getElem?.1 hx
  have hl := (List.getElem?_eq_some_iff.1 hk).1
  have := h.len
  obtain ⟨y, hy⟩ := get_of_lt (l := m) (k := k) (by omega)
  exact hp k x y hk hy (h.each k x y hk hy) (hm y (List.mem_of_getElem? hy))
theorem ins_ev {c d : PC} {k : Nat} {f f' : PF} (hg : d.gl = c.gl) (hs : f'.slots = f.slots) (hr : f'.regs = f.regs) (hfn : ∀ j : Nat, (d.fns[j]?).map (fun g => g.params) = (c.fns[j]?).map (fun g => g.params)) {x y : PI} (h : EvI x y) (hi : insP c k f y = true) : insP d k f' x = true := by
  have e1 : wtP f' x = wtP f y := by unfold wtP; rw [h.op, h.dst, hr]
  have e2 : rdsP f' x = rdsP f y := by unfold rdsP; rw [h.op, h.a, h.b, h.args, hr]
  have e3 : immP d k f' x = immP c k f y := by
    unfold immP
    rw [h.op, h.imm, h.args, hs, hg]
    have := hfn y.imm.toNat
    cases h1 : d.fns[y.imm.toNat]? with
    | none =>
      cases h2 : c.fns[y.imm.toNat]? with
      | none => rfl
      | some g => rw [h1, h2] at this; cases this
    | some g' =>
      cases h2 : c.fns[y.imm.toNat]? with
      | none => rw [h1, h2] at this; cases this
      | some g =>
        rw [h1, h2] at this
        simp at this
        dsimp only
        rw [this]
  unfold insP at hi ⊢
  rw [h.op, h.ty, e1, e2, e3]
  exact hi
theorem propL_all {c : PC} {k : Nat} {f : PF} : ∀ (l P : List PI), (∀ i ∈ P, InR f.regs i) → l.all (insP c k f) = true → (propL false P l).all (insP c k f) = true
  | [], P, _, h => rfl
  | x :: l, P, hP, h => by
    simp only [propL, List.all_cons, Bool.and_eq_true] at h ⊢
    have h1 := ins_read h.1 (s := src false P) fun r hr => src_in hP hr
    exact ⟨h1, propL_all l _ (fun i hi => by rcases List.mem_append.1 hi with q | q; exact hP i q; simp at q; subst q; exact inr_of h1 (Int.le_refl _)) h.2⟩

theorem prm_ev {c d : PC} (hd : EvC d (propC false c)) (j : Nat) : (d.fns[j]?).map (fun g => g.params) = (c.fns[j]?).map (fun g => g.params) := by
  rcases evl_get hd.fns j with ⟨h1, h2⟩ | ⟨f', q, h1, h2, h3⟩
  · have : (c.fns.map (propF false))[j]? = none := h2
    rw [List.getElem?_map] at this
    cases hh : c.fns[j]? with
    | none => rw [h1]
    | some z => rw [hh] at this; cases this
  · have : (c.fns.map (propF false))[j]? = some q := h2
    rw [List.getElem?_map] at this
    cases hh : c.fns[j]? with
    | none => rw [hh] at this; cases this
    | some z =>
      rw [hh] at this
      simp at this
      rw [h1]
      simp
      rw [h3.params, ← this]
      rfl
theorem fn_ev {c d : PC} (hd : EvC d (propC false c)) {k : Nat} {f f' : PF} (hf : EvF f' (propF false f)) (h : fnP c k f = true) : fnP d k f' = true := by
  have r1 : f'.params = f.params := hf.params
  have r2 : f'.regs = f.regs := hf.regs
  have r3 : f'.slots = f.slots := hf.slots
  have r4 : f'.parts.length = f.parts.length := by rw [hf.parts.len]; simp [propF]
  unfold fnP at h ⊢
  simp only [Bool.and_eq_true] at h ⊢
  refine ⟨?_, ?_⟩
  · have := h.1
    unfold headP at this ⊢
    rw [r1, r2, r3, r4]
    exact this
  · refine all_ev hf.parts (P := ptP c k f) (fun j p' q hp hq he hh => ?_) ?_
    · unfold ptP at hh ⊢
      simp only [Bool.and_eq_true] at hh ⊢
      refine ⟨?_, ?_⟩
      · have := hh.1
        unfold endP at this ⊢
        rw [he.e, he.cond, he.next, he.els, r2, r4]
        exact this
      · exact all_ev he.ins (P := insP c k f) (fun i x y _ _ hxy hy => ins_ev (c := c) (show d.gl = c.gl from hd.gl) r3 r2 (prm_ev hd) hxy hy) hh.2
    · rw [List.all_eq_true] at *
      intro q hq
      obtain ⟨p, hp, rfl⟩ := List.mem_map.1 (show q ∈ f.parts.map (propP false) from hq)
      have := h.2 p hp
      unfold ptP at this ⊢
      simp only [Bool.and_eq_true] at this ⊢
      have hg := rgp_of (N := f.regs) (h.2 p hp) (Int.le_refl _)
      refine ⟨?_, propL_all p.ins [] (fun i hi => by simp at hi) this.2⟩
      have he := this.1
      have hin := propL_inr (fault := false) p.ins [] (fun i hi => by simp at hi) hg.1
      have hco : (propP false p).cond = if 0 ≤ p.cond then src false (propL false [] p.ins) p.cond else p.cond := rfl
      unfold endP at he ⊢
      rw [hco]
      show (if p.e then _ else _) = true
      by_cases hc : 0 ≤ p.cond
      · rw [if_pos hc]
        have hs := bl_iff.2 (src_in (fault := false) hin (hg.2 hc))
        have hs0 := (bl_iff.1 hs).1
        by_cases pe : p.e = true
        · rw [if_pos pe]; exact hs
        · rw [if_neg pe] at he ⊢
          rw [if_neg (by omega)] at he ⊢
          simp only [Bool.and_eq_true] at he ⊢
          exact ⟨hs, he.2⟩
      · rw [if_neg hc]; exact he

theorem map_ev {α : Type} {R : α → α → Prop} {l m : List α} (h : EvL R l m) (φ : α → Int) (hφ : ∀ x y, R x y → φ x = φ y) : l.map φ = m.map φ := by
  refine List.ext_getElem? fun k => ?_
  rw [List.getElem?_map, List.getElem?_map]
  rcases evl_get h k with ⟨h1, h2⟩ | ⟨x, y, h1, h2, h3⟩
  · rw [h1, h2]
  · rw [h1, h2]
    simp [hφ x y h3]
theorem codeN_ev {c d : PC} (hd : EvC d (propC false c)) : codeN d = codeN c := by
  have hp : ∀ p q : PP, EvP p q → partN p = partN q := fun p q h => by unfold partN; rw [h.ins.len]
  have hf : ∀ f g : PF, EvF f g → fnN f = fnN g := fun f g h => by unfold fnN; rw [map_ev h.parts partN hp]
  unfold codeN
  rw [map_ev hd.fns fnN hf]
  show ((c.fns.map (propF false)).map fnN).sum = _
  rw [List.map_map]
  congr 1
  refine List.map_congr_left fun f _ => ?_
  show fnN (propF false f) = fnN f
  unfold fnN propF
  dsimp only
  rw [List.map_map]
  congr 1
  refine List.map_congr_left fun p _ => ?_
  show partN (propP false p) = partN p
  unfold partN propP
  dsimp only
  rw [propL_len]
theorem fnsP_at {c : PC} : ∀ (l : List PF) (k0 : Nat), (∀ (i : Nat) (f : PF), l[i]? = some f → fnP c (k0 + i) f = true) → fnsP c k0 l = true
  | [], k0, h => rfl
  | x :: l, k0, h => by
    simp only [fnsP, Bool.and_eq_true]
    refine ⟨h 0 x rfl, fnsP_at l (k0 + 1) fun i f hf => ?_⟩
    have := h (i + 1) f (by simpa using hf)
    rwa [show k0 + (i + 1) = k0 + 1 + i by omega] at this
theorem valid_ev {c d : PC} {w0 : World} (hok : c.ok w0) (hd : EvC d (propC false c)) (hv : validP c = 0) : validP d = 0 := by
  obtain ⟨vc, hroom, hli, f, hf, hp⟩ := Dn.valid_vc hok hv
  have hn : ¬ 60000 < IntKind.i64.wrap (codeN c) := fun h => by unfold validP at hv; rw [if_pos h] at hv; cases hv
  have e1 : d.fns.length = c.fns.length := by rw [hd.fns.len]; simp [propC]
  unfold validP
  rw [codeN_ev hd, if_neg hn]
  have hr : rightP d = true := by
    unfold rightP hdP
    simp only [Bool.and_eq_true]
    refine ⟨⟨?_, ?_, ?_⟩, fnsP_at _ _ fun i f' hf' => ?_⟩
    · unfold lastP
      rw [e1]
      have := prm_ev hd (c.fns.length - 1)
      rw [hf] at this
      cases h1 : d.fns[c.fns.length - 1]? with
      | none => rw [h1] at this; cases this
      | some g =>
        rw [h1] at this
        simp at this
        dsimp only
        rw [this, hp]
        rfl
    · rw [hd.gl, hd.ini]; exact decide_eq_true hli
    · rw [hd.gl]; exact hroom
    · rw [Nat.zero_add]
      rcases evl_get hd.fns i with ⟨h1, h2⟩ | ⟨f2, q, h1, h2, h3⟩
      · rw [h1] at hf'; cases hf'
      · rw [h1] at hf'
        injection hf' with hf'
        subst hf'
        have : (c.fns.map (propF false))[i]? = some q := h2
        rw [List.getElem?_map] at this
        cases hh : c.fns[i]? with
        | none => rw [hh] at this; cases this
        | some z =>
          rw [hh] at this
          simp at this
          rw [← this] at h3
          exact fn_ev hd h3 (vc.fn i z hh)
  rw [hr]
  rfl

/-! ### A run that halts halts in just its steps -/
def FitC (cf cf' : CallT) (n : Nat) : Prop := ∀ j A s v s', cf j A s = .ok v s' → s'.n ≤ n → cf' j A s = .ok v s'
theorem ex_fit {cf cf' : CallT} {k n keep : Nat} (hm : Dn.MonC cf) (hc : FitC cf cf' n) {x : PI} {ρ ρ' : Rg} {s s' : St} (h : exI cf k keep x ρ s = .ok ρ' s') (hn : s'.n ≤ n) : exI cf' n keep x ρ s = .ok ρ' s' := by
  have hlt := Dn.exI_n hm h
  rw [Dn.exI_B] at h ⊢
  have h1 : ¬ s.n = k := fun q => by rw [if_pos q] at h; cases h
  rw [if_neg h1] at h
  rw [if_neg (by omega)]
  unfold Dn.exB at h ⊢
  by_cases n33 : x.op = 33
  · rw [if_pos n33] at h ⊢; exact h
  rw [if_neg n33] at h ⊢
  by_cases n31 : x.op = 31
  · rw [if_pos n31] at h ⊢; exact h
  rw [if_neg n31] at h ⊢
  by_cases n30 : x.op = 30
  · rw [if_pos n30] at h ⊢; exact h
  rw [if_neg n30] at h ⊢
  by_cases n32 : x.op = 32
  · rw [if_pos n32] at h ⊢
    cases hr : cf x.imm.toNat (x.args.map (rg ρ)) s.up with
    | over t sp s2 => rw [hr] at h; cases h
    | ok v s2 =>
      rw [hr] at h
      have e2 : s2 = s' := by injection h
      rw [hc _ _ _ _ _ hr (by rw [e2]; exact hn)]
      exact h
  rw [if_neg n32] at h ⊢
  exact h
theorem ins_fit {cf cf' : CallT} {k n keep : Nat} (hm : Dn.MonC cf) (hc : FitC cf cf' n) : ∀ (l : List PI) {ρ ρ' : Rg} {s s' : St}, insR cf k keep l ρ s = .ok ρ' s' → s'.n ≤ n → insR cf' n keep l ρ s = .ok ρ' s'
  | [], ρ, ρ', s, s', h, hn => h
  | x :: l, ρ, ρ', s, s', h, hn => by
    simp only [insR] at h ⊢
    cases hr : exI cf k keep x ρ s with
    | over t sp s2 => rw [hr] at h; cases h
    | ok ρ2 s2 =>
      rw [hr] at h
      dsimp only at h
      have h2 := Dn.insR_n hm l h
      rw [ex_fit hm hc hr (by omega)]
      exact ins_fit hm hc l h hn
theorem parts_fit {cf cf' : CallT} {k n keep : Nat} (hm : Dn.MonC cf) (hc : FitC cf cf' n) {f : PF} : ∀ (g g' at' : Nat) {ρ : Rg} {s : St} {v : Int} {s' : St}, partsR cf k keep f g at' ρ s = .ok v s' → s'.n ≤ n → n < s.n + g' → partsR cf' n keep f g' at' ρ s = .ok v s'
  | 0, g', at', ρ, s, v, s', h, hn, hg => by cases h
  | g + 1, 0, at', ρ, s, v, s', h, hn, hg => by
    have := Dn.partsR_n hm _ _ h
    omega
  | g + 1, g' + 1, at', ρ, s, v, s', h, hn, hg => by
    simp only [partsR] at h ⊢
    cases hp : f.parts[at']? with
    | none => rw [hp] at h; cases h
    | some p =>
      rw [hp] at h
      dsimp only at h ⊢
      cases hr : insR cf k keep p.ins ρ s with
      | over t sp s2 => rw [hr] at h; cases h
      | ok ρ2 s2 =>
        rw [hr] at h
        dsimp only at h
        have h0 := Dn.insR_n hm _ hr
        by_cases q : s2.n = k
        · rw [if_pos q] at h; cases h
        rw [if_neg q] at h
        by_cases pe : p.e = true
        · rw [if_pos pe] at h
          injection h with h1 h2
          subst h2
          have hn' : s2.n + 1 ≤ n := hn
          rw [ins_fit hm hc _ hr (by omega)]
          dsimp only
          rw [if_neg (by omega), if_pos pe, h1]
        · rw [if_neg pe] at h
          have h3 := Dn.partsR_n hm _ _ h
          have h3' : s2.n + 1 ≤ s'.n := h3
          rw [ins_fit hm hc _ hr (by omega)]
          dsimp only
          rw [if_neg (by omega), if_neg pe]
          exact parts_fit hm hc g g' _ h hn (by show n < s2.n + 1 + g'; omega)
theorem call_fit (c : PC) (k n : Nat) : ∀ g, FitC (callR c k g) (callR c n g) n
  | 0, j, A, s, v, s', h, hn => by cases h
  | g + 1, j, A, s, v, s', h, hn => by
    cases hf : c.fns[j]? with
    | none => rw [callR, hf] at h; cases h
    | some f =>
      rw [Dn.callR_at hf] at h ⊢
      cases ha : allocs f.slots s.bs with
      | none => rw [ha] at h; cases h
      | some bs' =>
        rw [ha] at h
        dsimp only at h ⊢
        cases hr : partsR (callR c k g) k s.bs.length f (k + 1) 0 (argR A) { s with bs := bs' } with
        | over t sp s2 => rw [hr] at h; cases h
        | ok v2 s2 =>
          rw [hr] at h
          have hs : s2.n = s'.n ∧ v2 = v := by
            simp only [Dn.cutA] at h
            injection h with h1 h2
            rw [← h2]; exact ⟨rfl, h1⟩
          have := parts_fit (Dn.callR_n c k g) (call_fit c k n g) (k + 1) (n + 1) 0 hr (by omega) (by show n < s.n + (n + 1); omega)
          rw [this]
          exact h
/-- Run with just the steps that it took. -/
theorem run_fit {c : PC} {k : Nat} {v : Int} {s : St} (h : runP c k = .ok v s) : runP c s.n = .ok v s := call_fit c k s.n c.fns.length (c.fns.length - 1) [] (start c) v s h (Nat.le_refl _)

/-! ### A run takes no more steps than it may -/
def LeC (cf : CallT) (k : Nat) : Prop := ∀ j A s v s', cf j A s = .ok v s' → s.n ≤ k → s'.n ≤ k
theorem exI_le {cf : CallT} {k keep : Nat} (hm : LeC cf k) {x : PI} {ρ ρ' : Rg} {s s' : St} (h : exI cf k keep x ρ s = .ok ρ' s') (hs : s.n ≤ k) : s'.n ≤ k := by
  rw [Dn.exI_B] at h
  by_cases hn : s.n = k
  · rw [if_pos hn] at h; cases h
  · rw [if_neg hn] at h
    unfold Dn.exB at h
    have hup : s.up.n = s.n + 1 := rfl
    split at h
    · injection h with h1 h2; subst h2; show s.n + 1 ≤ k; omega
    · split at h
      · split at h
        · injection h with h1 h2; subst h2; show s.n + 1 ≤ k; omega
        · cases h
      · split at h
        · split at h
          · injection h with h1 h2; subst h2; show s.n + 1 ≤ k; omega
          · cases h
        · split at h
          · cases hc : cf x.imm.toNat (x.args.map (rg ρ)) s.up with
            | ok v s2 => rw [hc] at h; injection h with h1 h2; subst h2; exact hm _ _ _ _ _ hc (by omega)
            | over t sp s2 => rw [hc] at h; cases h
          · split at h
            · injection h with h1 h2; subst h2; show s.n + 1 ≤ k; omega
            · cases h
theorem insR_le {cf : CallT} {k keep : Nat} (hc : LeC cf k) : ∀ (l : List PI) {ρ ρ' : Rg} {s s' : St}, insR cf k keep l ρ s = .ok ρ' s' → s.n ≤ k → s'.n ≤ k
  | [], ρ, ρ', s, s', h, hs => by unfold insR at h; injection h with _ h; subst h; exact hs
  | i :: l, ρ, ρ', s, s', h, hs => by
    unfold insR at h
    split at h
    · rename_i hq
      exact insR_le hc l h (exI_le hc hq hs)
    · cases h
theorem partsR_le {cf : CallT} {k keep : Nat} (hc : LeC cf k) {f : PF} : ∀ (g at' : Nat) {ρ : Rg} {s : St} {v : Int} {s' : St}, partsR cf k keep f g at' ρ s = .ok v s' → s.n ≤ k → s'.n ≤ k
  | 0, at', ρ, s, v, s', h, hs => by unfold partsR at h; cases h
  | g + 1, at', ρ, s, v, s', h, hs => by
    unfold partsR at h
    split at h
    · cases h
    · split at h
      · cases h
      · rename_i s2 hq
        have h1 := insR_le hc _ hq hs
        split at h
        · cases h
        · rename_i hne
          have h2 : s2.n + 1 ≤ k := by omega
          split at h
          · injection h with _ h; subst h; exact h2
          · exact partsR_le hc g _ h h2
theorem callR_le (c : PC) (k : Nat) : ∀ g, LeC (callR c k g) k
  | 0, j, a, s, v, s', h, hs => by unfold callR at h; cases h
  | g + 1, j, a, s, v, s', h, hs => by
    unfold callR at h
    split at h
    · cases h
    · split at h
      · cases h
      · split at h
        · rename_i hq
          injection h with _ h; subst h
          have := partsR_le (callR_le c k g) _ _ hq hs
          exact this
        · cases h
theorem run_le {c : PC} {k : Nat} {v : Int} {s : St} (h : runP c k = .ok v s) : s.n ≤ k := callR_le c k c.fns.length (c.fns.length - 1) [] (start c) v s h (Nat.zero_le _)

/-! ### Runs of right code and of what comes of it -/
/-- A call of the document's run answers an outcome. -/
def Does (X : World) (c : PC) (k : Nat) (h : Bool) (x t : Int) (sp : Bool) (n : Nat) (tr : List Int) : Prop := Calls Try.prog 11 #[c.v, .int .i64 (k : Int)] X fun e w' => ∃ ta tc, e = .returned (.tuple #[.agg #[.bool h, .int .i64 x, .int .u8 t, .bool sp, .int .i64 (n : Int), .slice ta tr.length tc], .int .i64 0]) ∧ Dn.Trc w' ta tr ∧ tr.length ≤ 8388608 ∧ Q X w'
theorem does_of {X : World} {c : PC} {k : Nat} {o : Oc} (hok : c.ok X) (hk : k ≤ 8388608) (hv : validP c = 0) (ho : ocP (runP c k) = o) : Does X c k o.h o.x o.t o.sp o.n o.tr :=
  (Dn.do_good X c hok k hk hv).mono fun e w' ⟨v, e1, ta, tc, e2, e3, e5, e4⟩ => by
    rw [ho] at e2 e3 e5
    exact ⟨ta, tc, by rw [e1, e2], e3, e5, e4⟩
theorem two_runs {c : PC} {w0 : World} (hok : c.ok w0) (hv : validP c = 0) (k : Nat) (hk : k ≤ 8388608) :
    (∃ (x : Int) (n : Nat) (tr : List Int), (∀ X, c.ok X → Does X c k true x 0 false n tr) ∧ ∀ A, EvC A (propC false c) → ∀ X, A.ok X → Does X A n true x 0 false n tr) ∨
    (∃ (t : Int) (sp : Bool) (n : Nat) (tr : List Int), ∀ X, c.ok X → Does X c k false 0 t sp n tr) := by
  cases hr : runP c k with
  | ok v s =>
    refine .inl ⟨v, s.n, s.tr, fun X hX => does_of hX hk hv (o := ⟨true, v, 0, false, s.n, s.tr⟩) (by rw [hr]; rfl), fun A hA X hX => does_of hX (Nat.le_trans (run_le hr) hk) (valid_ev hok hA hv) (o := ⟨true, v, 0, false, s.n, s.tr⟩) ?_⟩
    rw [run_eq hA (Dn.valid_vc hok hv).1.fn, run_fit hr]
    rfl
  | over t sp s => exact .inr ⟨t, sp, s.n, s.tr, fun X hX => does_of hX hk hv (o := ⟨false, 0, t, sp, s.n, s.tr⟩) (by rw [hr]; rfl)⟩

end Go.Proofs.Ytipmbamcldlmeaa.Pp
