/-
  What is folded does what it did, and a run that halts halts in just its steps: plain laws; no program in sight; no conditions but those that each fact bears.
-/
import Derived.Test.YtaomkfhbnakbjaaKFoI
import Derived.Test.YtaomkfhbnakbjaaKPmA
import Derived.Test.YtaomkfhbnakbjaaKDnK
namespace Go.Proofs.Ytaomkfhbnakbjaa.Fo
open Go.RowKit
set_option linter.unusedVariables false

/-- What is known is so. -/
def Knows (F : KF) (ρ : Rg) : Prop := ∀ r v, F r = some v → 0 ≤ r ∧ rg ρ r = v
theorem knows_none (ρ : Rg) : Knows (fun _ => none) ρ := fun r v h => by cases h
theorem rg_set (ρ : Rg) (r d v : Int) (hr : 0 ≤ r) (hd : 0 ≤ d) : rg (setR ρ d.toNat v) r = if r = d then v else rg ρ r := by
  unfold rg setR
  by_cases e : r = d
  · rw [if_pos e, e, if_pos rfl]
  · rw [if_neg e, if_neg (fun q => e (by omega))]

theorem reck_op {F : KF} {x : PI} {v : Int} (h : reckP false F x = some v) : (1 ≤ x.op ∧ x.op ≤ 16) ∨ (21 ≤ x.op ∧ x.op ≤ 25) := by
  unfold reckP at h
  cases ha : F x.a with
  | none => rw [ha] at h; cases h
  | some a =>
    rw [ha] at h
    dsimp only at h
    by_cases n21 : x.op = 21
    · omega
    by_cases n22 : x.op = 22
    · omega
    by_cases n23 : x.op = 23
    · omega
    by_cases n24 : x.op = 24
    · omega
    by_cases n25 : x.op = 25
    · omega
    rw [if_neg n21, if_neg n22, if_neg n23, if_neg n24, if_neg n25] at h
    cases hb : F x.b with
    | none => rw [hb] at h; cases h
    | some b =>
      rw [hb] at h
      dsimp only at h
      split at h
      · cases h
      · omega
/-- What is reckoned ahead is what would be reckoned. -/
theorem reck_run {F : KF} {ρ : Rg} (hK : Knows F ρ) {x : PI} {v : Int} (h : reckP false F x = some v) (keep : Nat) : reck1 keep ρ x = v ∧ reck2 ρ x = 0 := by
  have hop := reck_op h
  unfold reckP at h
  cases ha : F x.a with
  | none => rw [ha] at h; cases h
  | some a =>
    rw [ha] at h
    dsimp only at h
    have ea := (hK _ _ ha).2
    unfold reck1 reck2
    rw [ea]
    have hun : ∀ k, un k x a = some v → Burin.un1 k x.ty a = v ∧ Burin.un2 k x.ty a = 0 := fun k hk => by
      unfold un at hk
      split at hk
      · rename_i hz; injection hk with hk; exact ⟨hk, hz⟩
      · cases hk
    by_cases n21 : x.op = 21
    · rw [if_pos n21] at h; injection h with h; simp [n21, h]
    by_cases n22 : x.op = 22
    · rw [if_neg n21, if_pos n22] at h; have := hun 1 h; simp [n22, this]
    by_cases n23 : x.op = 23
    · rw [if_neg n21, if_neg n22, if_pos n23] at h; have := hun 2 h; simp [n23, this]
    by_cases n24 : x.op = 24
    · rw [if_neg n21, if_neg n22, if_neg n23, if_pos n24] at h; have := hun 3 h; simp [n24, this]
    by_cases n25 : x.op = 25
    · rw [if_neg n21, if_neg n22, if_neg n23, if_neg n24, if_pos n25] at h; injection h with h; simp [n25, h]
    rw [if_neg n21, if_neg n22, if_neg n23, if_neg n24, if_neg n25] at h
    cases hb : F x.b with
    | none => rw [hb] at h; cases h
    | some b =>
      rw [hb] at h
      dsimp only at h
      have eb := (hK _ _ hb).2
      rw [eb]
      split at h
      · cases h
      · unfold two at h
        split at h
        · rename_i hz
          injection h with h
          simp only [Bool.false_eq_true, false_and, if_false] at h
          have n20 : ¬ x.op = 20 := by omega
          have n26 : ¬ x.op = 26 := by omega
          have n27 : ¬ x.op = 27 := by omega
          have n28 : ¬ x.op = 28 := by omega
          have n29 : ¬ x.op = 29 := by omega
          simp only [n20, n21, n22, n23, n24, n25, n26, n27, n28, n29, if_false]
          exact ⟨h, hz⟩
        · cases h

/-- An instruction that is reckoned ahead does what it did. -/
theorem ex_cst {cf cf' : CallT} {fuel keep : Nat} {F : KF} {ρ : Rg} (hK : Knows F ρ) {x y : PI} {v : Int} (h : reckP false F x = some v) (hy : EvI y (cst x v)) (s : St) : exI cf' fuel keep y ρ s = exI cf fuel keep x ρ s := by
  have hop := reck_op h
  obtain ⟨h1, h2⟩ := reck_run hK h keep
  have n33 : ¬ x.op = 33 := by omega
  have n31 : ¬ x.op = 31 := by omega
  have n30 : ¬ x.op = 30 := by omega
  have n32 : ¬ x.op = 32 := by omega
  have oy : y.op = 20 := hy.op
  have dy : y.dst = x.dst := hy.dst
  have iy : y.imm = v := hy.imm
  unfold exI
  simp only [n33, n31, n30, n32, if_false, h2, if_true, h1, oy]
  have e1 : reck1 keep ρ y = v := by unfold reck1; rw [if_pos oy, iy]
  have e2 : reck2 ρ y = 0 := by unfold reck2; rw [if_pos oy]
  rw [e1, e2, dy]
  simp
/-- An instruction that is alike does the same. -/
theorem ex_ev {cf cf' : CallT} {fuel keep : Nat} {ρ : Rg} {x y : PI} (h : EvI y x) (hc : x.op = 32 → ∀ A s, cf' x.imm.toNat A s = cf x.imm.toNat A s) (s : St) : exI cf' fuel keep y ρ s = exI cf fuel keep x ρ s := by
  have r1 : reck1 keep ρ y = reck1 keep ρ x := by unfold reck1; rw [h.op, h.ty, h.a, h.b, h.imm]
  have r2 : reck2 ρ y = reck2 ρ x := by unfold reck2; rw [h.op, h.ty, h.a, h.b, h.imm]
  unfold exI
  rw [r1, r2, h.op, h.a, h.b, h.dst, h.imm, h.args]
  by_cases n32 : x.op = 32
  · rw [hc n32]
  · simp only [n32, if_false]

theorem ex_dst {cf : CallT} {fuel keep : Nat} {ρ ρ' : Rg} {x : PI} {s s' : St} (h : exI cf fuel keep x ρ s = .ok ρ' s') : (wrP x.op = false ∧ ρ' = ρ) ∨ (x.op ≠ 31 ∧ x.op ≠ 33 ∧ ∃ v, ρ' = setR ρ x.dst.toNat v ∧ (x.op = 20 → v = x.imm)) := by
  unfold exI at h
  by_cases hn : s.n = fuel
  · rw [if_pos hn] at h; cases h
  rw [if_neg hn] at h
  by_cases h33 : x.op = 33
  · rw [if_pos h33] at h
    injection h with h1 h2
    exact Or.inl ⟨by rw [h33]; rfl, h1.symm⟩
  rw [if_neg h33] at h
  by_cases h31 : x.op = 31
  · rw [if_pos h31] at h
    split at h
    · injection h with h1 h2; exact Or.inl ⟨by rw [h31]; rfl, h1.symm⟩
    · cases h
  rw [if_neg h31] at h
  refine Or.inr ⟨h31, h33, ?_⟩
  by_cases h30 : x.op = 30
  · rw [if_pos h30] at h
    split at h
    · injection h with h1 h2; exact ⟨_, h1.symm, fun q => by omega⟩
    · cases h
  rw [if_neg h30] at h
  by_cases h32 : x.op = 32
  · rw [if_pos h32] at h
    split at h
    · injection h with h1 h2; exact ⟨_, h1.symm, fun q => by omega⟩
    · cases h
  rw [if_neg h32] at h
  split at h
  · injection h with h1 h2
    refine ⟨_, h1.symm, fun q => ?_⟩
    unfold reck1; rw [if_pos q]
  · cases h
/-- What is learnt is so. -/
theorem knows_learn {cf : CallT} {fuel keep : Nat} {F : KF} {ρ ρ' : Rg} (hK : Knows F ρ) {y : PI} {s s' : St} (hkn : knP y.op = true) (hd : wrP y.op = true → 0 ≤ y.dst) (h : exI cf fuel keep y ρ s = .ok ρ' s') : Knows (learn F y) ρ' := by
  rcases ex_dst h with ⟨hw, rfl⟩ | ⟨n31, n33, v, rfl, h20⟩
  · have n20 : ¬ y.op = 20 := fun q => by rw [q] at hw; cases hw
    unfold learn
    rw [if_neg n20, hw]
    simpa using hK
  · intro r u hr
    unfold learn at hr
    by_cases n20 : y.op = 20
    · have hd0 := hd (by rw [n20]; rfl)
      rw [if_pos n20] at hr
      unfold updK at hr
      by_cases e : r = y.dst
      · rw [if_pos e] at hr
        injection hr with hr
        refine ⟨by omega, ?_⟩
        rw [rg_set _ _ _ _ (by omega) hd0, if_pos e, h20 n20, hr]
      · rw [if_neg e] at hr
        obtain ⟨q1, q2⟩ := hK r u hr
        refine ⟨q1, ?_⟩
        rw [rg_set _ _ _ _ q1 hd0, if_neg e, q2]
    · rw [if_neg n20] at hr
      by_cases hw : wrP y.op = true
      · have hd0 := hd hw
        rw [if_pos hw] at hr
        unfold updK at hr
        by_cases e : r = y.dst
        · rw [if_pos e] at hr; cases hr
        · rw [if_neg e] at hr
          obtain ⟨q1, q2⟩ := hK r u hr
          refine ⟨q1, ?_⟩
          rw [rg_set _ _ _ _ q1 hd0, if_neg e, q2]
      · exact absurd (show wrP y.op = true by unfold wrP; rw [hkn]; simp [n31, n33]) hw

theorem ins_dst {c : PC} {k : Nat} {f : PF} {x : PI} (h : insP c k f x = true) : knP x.op = true ∧ (wrP x.op = true → 0 ≤ x.dst) := by
  unfold insP at h
  simp only [Bool.and_eq_true] at h
  obtain ⟨i1, i2, i3, -⟩ := h
  refine ⟨i1, fun hw => ?_⟩
  unfold wtP at i3
  simp [hw, blP] at i3
  omega
theorem ins_imm {c : PC} {k : Nat} {f : PF} {x : PI} (h : insP c k f x = true) (h32 : x.op = 32) : x.imm.toNat < k := by
  unfold insP immP at h
  simp only [Bool.and_eq_true] at h
  have := h.2.2.2.2
  simp [h32, blP] at this
  omega
theorem foldI_ins {c : PC} {k : Nat} {f : PF} {F : KF} {x : PI} (h : insP c k f x = true) : insP c k f (foldI false F x) = true := by
  unfold foldI
  cases hr : reckP false F x with
  | none => exact h
  | some v =>
    have hop := reck_op hr
    unfold insP at h
    simp only [Bool.and_eq_true] at h
    obtain ⟨i1, i2, i3, -⟩ := h
    have hw : wrP x.op = true := by
      unfold wrP
      rw [i1]
      have n31 : ¬ x.op = 31 := by omega
      have n33 : ¬ x.op = 33 := by omega
      simp [n31, n33]
    unfold wtP at i3
    rw [hw] at i3
    have i3' : blP x.dst f.regs = true := by simpa using i3
    unfold insP
    simp only [Bool.and_eq_true]
    refine ⟨rfl, by simp [cst], ?_, ?_, ?_⟩
    · unfold wtP
      show (!wrP 20 || blP x.dst f.regs) = true
      rw [i3']; simp
    · unfold rdsP cst
      simp [show rdP 20 = 0 by decide]
    · unfold immP cst
      simp

/-- Instructions that are folded do what they did. -/
theorem ins_eq {c : PC} {k : Nat} {f : PF} {cf cf' : CallT} (hc : ∀ j, j < k → ∀ A s, cf' j A s = cf j A s) {fuel keep : Nat} : ∀ (l m : List PI) (F : KF) (ρ : Rg) (s : St), EvL EvI m (foldL false F l) → Knows F ρ → (∀ x ∈ l, insP c k f x = true) → insR cf' fuel keep m ρ s = insR cf fuel keep l ρ s
  | [], m, F, ρ, s, he, hK, hi => by
    have : m = [] := List.eq_nil_of_length_eq_zero he.len
    subst this; rfl
  | x :: l, [], F, ρ, s, he, hK, hi => by have := he.len; simp [foldL] at this
  | x :: l, y :: m, F, ρ, s, he, hK, hi => by
    obtain ⟨h1, h2⟩ := evl_head he
    have hx := hi x (List.mem_cons_self ..)
    have e1 : exI cf' fuel keep y ρ s = exI cf fuel keep x ρ s ∧ exI cf fuel keep (foldI false F x) ρ s = exI cf fuel keep x ρ s := by
      cases hr : reckP false F x with
      | none =>
        have ef : foldI false F x = x := by unfold foldI; rw [hr]
        rw [ef] at h1 ⊢
        exact ⟨ex_ev h1 (fun q A s => hc _ (ins_imm hx q) A s) s, rfl⟩
      | some v =>
        have ef : foldI false F x = cst x v := by unfold foldI; rw [hr]
        rw [ef] at h1 ⊢
        exact ⟨ex_cst hK hr h1 s, ex_cst hK hr ⟨rfl, rfl, rfl, rfl, rfl, rfl, rfl⟩ s⟩
    simp only [insR]
    rw [e1.1]
    cases hr : exI cf fuel keep x ρ s with
    | over t sp s' => rfl
    | ok ρ' s' =>
      obtain ⟨q1, q2⟩ := ins_dst (foldI_ins (F := F) hx)
      exact ins_eq hc l m _ ρ' s' h2 (knows_learn hK q1 q2 (e1.2.trans hr)) (fun z hz => hi z (List.mem_cons_of_mem _ hz))

theorem evl_get {α : Type} {R : α → α → Prop} {l m : List α} (h : EvL R l m) (k : Nat) : (l[k]? = none ∧ m[k]? = none) ∨ ∃ x y, l[k]? = some x ∧ m[k]? = some y ∧ R x y := by
  have hl := h.len
  cases ha : l[k]? with
  | none =>
    have := List.getElem?_eq_none_iff.1 ha
    exact Or.inl ⟨rfl, List.getElem?_eq_none (by omega)⟩
  | some x =>
    have := (List.getElem?_eq_some_iff.1 ha).1
    obtain ⟨y, hy⟩ := get_of_lt (l := m) (k := k) (by omega)
    exact Or.inr ⟨x, y, rfl, hy, h.each k x y ha hy⟩

theorem parts_eq {c : PC} {k : Nat} {f f' : PF} {cf cf' : CallT} (hc : ∀ j, j < k → ∀ A s, cf' j A s = cf j A s) (hf : EvF f' (foldF false f)) (hv : ∀ p ∈ f.parts, ∀ x ∈ p.ins, insP c k f x = true) {fuel keep : Nat} : ∀ (g at' : Nat) (ρ : Rg) (s : St), partsR cf' fuel keep f' g at' ρ s = partsR cf fuel keep f g at' ρ s
  | 0, at', ρ, s => rfl
  | g + 1, at', ρ, s => by
    simp only [partsR]
    rcases evl_get hf.parts at' with ⟨h1, h2⟩ | ⟨p', q, h1, h2, h3⟩
    · have h4 : f.parts[at']? = none := by
        have : (f.parts.map (foldP false))[at']? = none := h2
        rw [List.getElem?_map] at this
        cases hh : f.parts[at']? with
        | none => rfl
        | some z => rw [hh] at this; cases this
      rw [h1, h4]
    · obtain ⟨p, hp, rfl⟩ : ∃ p, f.parts[at']? = some p ∧ foldP false p = q := by
        have : (f.parts.map (foldP false))[at']? = some q := h2
        rw [List.getElem?_map] at this
        cases hh : f.parts[at']? with
        | none => rw [hh] at this; cases this
        | some z => rw [hh] at this; exact ⟨z, rfl, by simpa using this⟩
      rw [h1, hp]
      dsimp only
      rw [ins_eq hc p.ins p'.ins (fun _ => none) ρ s h3.ins (knows_none ρ) (hv p (List.mem_of_getElem? hp))]
      have e1 : p'.e = p.e := h3.e
      have e2 : p'.cond = p.cond := h3.cond
      have e3 : p'.next = p.next := h3.next
      have e4 : p'.els = p.els := h3.els
      cases insR cf fuel keep p.ins ρ s with
      | over t sp s' => rfl
      | ok ρ' s' =>
        dsimp only
        have en : nextP p' ρ' = nextP p ρ' := by unfold nextP; rw [e2, e3, e4]
        rw [e1, e2, en, parts_eq hc hf hv g _ ρ' s'.up]

theorem call_eq {c d : PC} (hd : EvC d (foldC false c)) (hv : ∀ (k : Nat) (f : PF), c.fns[k]? = some f → fnP c k f = true) (fuel : Nat) : ∀ (g k : Nat) (A : List Int) (s : St), callR d fuel g k A s = callR c fuel g k A s
  | 0, k, A, s => rfl
  | g + 1, k, A, s => by
    rw [callR, callR]
    rcases evl_get hd.fns k with ⟨h1, h2⟩ | ⟨f', q, h1, h2, h3⟩
    · have h4 : c.fns[k]? = none := by
        have : (c.fns.map (foldF false))[k]? = none := h2
        rw [List.getElem?_map] at this
        cases hh : c.fns[k]? with
        | none => rfl
        | some z => rw [hh] at this; cases this
      rw [h1, h4]
    · obtain ⟨f, hf, rfl⟩ : ∃ f, c.fns[k]? = some f ∧ foldF false f = q := by
        have : (c.fns.map (foldF false))[k]? = some q := h2
        rw [List.getElem?_map] at this
        cases hh : c.fns[k]? with
        | none => rw [hh] at this; cases this
        | some z => rw [hh] at this; exact ⟨z, rfl, by simpa using this⟩
      rw [h1, hf]
      dsimp only
      have e1 : f'.slots = f.slots := h3.slots
      rw [e1]
      cases allocs f.slots s.bs with
      | none => rfl
      | some bs' =>
        dsimp only
        have hins : ∀ p ∈ f.parts, ∀ x ∈ p.ins, insP c k f x = true := fun p hp x hx => by
          have := hv k f hf
          unfold fnP at this
          simp only [Bool.and_eq_true] at this
          have := List.all_eq_true.1 this.2 p hp
          unfold ptP at this
          simp only [Bool.and_eq_true] at this
          exact List.all_eq_true.1 this.2 x hx
        rw [parts_eq (c := c) (k := k) (f := f) (f' := f') (cf := callR c fuel g) (cf' := callR d fuel g) (fun j _ A s => call_eq hd hv fuel g j A s) h3 hins]
theorem run_eq {c d : PC} (hd : EvC d (foldC false c)) (hv : ∀ (k : Nat) (f : PF), c.fns[k]? = some f → fnP c k f = true) (fuel : Nat) : runP d fuel = runP c fuel := by
  unfold runP
  have e1 : d.fns.length = c.fns.length := by rw [hd.fns.len]; simp [foldC]
  have e2 : start d = start c := by unfold start; rw [hd.gl, hd.ini]; rfl
  rw [e1, e2, call_eq hd hv]

end Go.Proofs.Ytaomkfhbnakbjaa.Fo
