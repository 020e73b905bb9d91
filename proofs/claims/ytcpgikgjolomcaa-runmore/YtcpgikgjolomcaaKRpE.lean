/-
  More steps: a plain run that isn't cut off is the same with more, one that is has the beginning of the trace; no program in sight; the conditions: the code is right.
-/
import Derived.Test.YtcpgikgjolomcaaKRpC
namespace Go.Proofs.Ytcpgikgjolomcaa
open Go.RowKit
set_option linter.unusedVariables false

def trOf {α : Type} : Rs α → List Int
  | .ok _ s => s.tr
  | .over _ _ s => s.tr
def TrM (cf : CallT) : Prop := ∀ j a s, s.tr <+: trOf (cf j a s)

theorem exI_tr {cf : CallT} (hc : TrM cf) (fuel keep : Nat) (i : PI) (ρ : Rg) (s : St) : s.tr <+: trOf (exI cf fuel keep i ρ s) := by
  unfold exI
  by_cases h0 : s.n = fuel
  · rw [if_pos h0]; exact List.prefix_refl _
  rw [if_neg h0]
  by_cases h1 : i.op = 33
  · rw [if_pos h1]; exact List.prefix_append _ _
  rw [if_neg h1]
  by_cases h2 : i.op = 31
  · rw [if_pos h2]; split <;> exact List.prefix_refl _
  rw [if_neg h2]
  by_cases h3 : i.op = 30
  · rw [if_pos h3]; split <;> exact List.prefix_refl _
  rw [if_neg h3]
  by_cases h4 : i.op = 32
  · rw [if_pos h4]
    have := hc i.imm.toNat (i.args.map (rg ρ)) s.up
    cases hr : cf i.imm.toNat (i.args.map (rg ρ)) s.up with
    | ok v s2 => rw [hr] at this; exact this
    | over t sp s2 => rw [hr] at this; exact this
  rw [if_neg h4]
  split <;> exact List.prefix_refl _

theorem insR_tr {cf : CallT} (hc : TrM cf) (fuel keep : Nat) : ∀ (l : List PI) (ρ : Rg) (s : St), s.tr <+: trOf (insR cf fuel keep l ρ s)
  | [], ρ, s => List.prefix_refl _
  | i :: l, ρ, s => by
    have h := exI_tr hc fuel keep i ρ s
    unfold insR
    cases hr : exI cf fuel keep i ρ s with
    | ok ρ' s' => rw [hr] at h; exact List.IsPrefix.trans h (insR_tr hc fuel keep l ρ' s')
    | over t sp s' => rw [hr] at h; exact h

theorem partsR_tr {cf : CallT} (hc : TrM cf) (fuel keep : Nat) (f : PF) : ∀ (g at' : Nat) (ρ : Rg) (s : St), s.tr <+: trOf (partsR cf fuel keep f g at' ρ s)
  | 0, _, _, s => List.prefix_refl _
  | g + 1, at', ρ, s => by
    unfold partsR
    cases hp : f.parts[at']? with
    | none => exact List.prefix_refl _
    | some p =>
      have h := insR_tr hc fuel keep p.ins ρ s
      cases hr : insR cf fuel keep p.ins ρ s with
      | over t sp s' => rw [hr] at h; simp only [hr]; exact h
      | ok ρ' s' =>
        rw [hr] at h
        simp only [hr]
        by_cases h0 : s'.n = fuel
        · rw [if_pos h0]; exact h
        rw [if_neg h0]
        cases he : p.e with
        | true => exact h
        | false => exact List.IsPrefix.trans h (partsR_tr hc fuel keep f g _ ρ' s'.up)

theorem callR_tr (c : PC) (fuel : Nat) : ∀ g, TrM (callR c fuel g)
  | 0, _, _, s => List.prefix_refl _
  | g + 1, k, ar, s => by
    unfold callR
    cases hk : c.fns[k]? with
    | none => exact List.prefix_refl _
    | some f =>
      cases ha : allocs f.slots s.bs with
      | none => simp only [ha]; exact List.prefix_refl _
      | some bs' =>
        have h := partsR_tr (callR_tr c fuel g) fuel s.bs.length f (fuel + 1) 0 (argR ar) { s with bs := bs' }
        simp only [ha]
        cases hr : partsR (callR c fuel g) fuel s.bs.length f (fuel + 1) 0 (argR ar) { s with bs := bs' } with
        | ok v s2 => rw [hr] at h; exact h
        | over t sp s2 => rw [hr] at h; exact h

/-- How a run with k steps lies to one with more. -/
def Rel {α : Type} (k : Nat) : Rs α → Rs α → Prop
  | .ok a s, r' => r' = .ok a s ∧ s.n ≤ k
  | .over t false s, r' => r' = .over t false s
  | .over t true s, r' => s.n = k ∧ s.tr <+: trOf r'
def RelC (k kk : Nat) (cf cf' : CallT) : Prop := ∀ j a s, j < kk → s.n ≤ k → Rel k (cf j a s) (cf' j a s)

theorem exI_rel {k k' kk : Nat} {cf cf' : CallT} (hk : k ≤ k') (hc : RelC k kk cf cf') (ht : TrM cf') (keep : Nat) (i : PI) (ρ : Rg) (s : St) (hs : s.n ≤ k) (hi : i.op = 32 → i.imm.toNat < kk) : Rel k (exI cf k keep i ρ s) (exI cf' k' keep i ρ s) := by
  by_cases h0 : s.n = k
  · have : exI cf k keep i ρ s = .over 0 true s := by unfold exI; rw [if_pos h0]
    rw [this]
    exact ⟨h0, exI_tr ht k' keep i ρ s⟩
  have h0' : ¬ s.n = k' := by omega
  have hu : s.up.n ≤ k := by show s.n + 1 ≤ k; omega
  unfold exI
  rw [if_neg h0, if_neg h0']
  by_cases h1 : i.op = 33
  · rw [if_pos h1, if_pos h1]; exact ⟨rfl, hu⟩
  rw [if_neg h1, if_neg h1]
  by_cases h2 : i.op = 31
  · rw [if_pos h2, if_pos h2]
    split
    · exact ⟨rfl, hu⟩
    · exact rfl
  rw [if_neg h2, if_neg h2]
  by_cases h3 : i.op = 30
  · rw [if_pos h3, if_pos h3]
    split
    · exact ⟨rfl, hu⟩
    · exact rfl
  rw [if_neg h3, if_neg h3]
  by_cases h4 : i.op = 32
  · rw [if_pos h4, if_pos h4]
    have := hc i.imm.toNat (i.args.map (rg ρ)) s.up (hi h4) hu
    cases hr : cf i.imm.toNat (i.args.map (rg ρ)) s.up with
    | ok v s2 =>
      rw [hr] at this
      obtain ⟨e, hn⟩ := this
      simp only [e]
      exact ⟨rfl, hn⟩
    | over t sp s2 =>
      rw [hr] at this
      cases sp with
      | false => rw [show cf' i.imm.toNat (i.args.map (rg ρ)) s.up = .over t false s2 from this]; exact rfl
      | true =>
        refine ⟨this.1, List.IsPrefix.trans this.2 ?_⟩
        cases cf' i.imm.toNat (i.args.map (rg ρ)) s.up <;> exact List.prefix_refl _
  rw [if_neg h4, if_neg h4]
  split
  · exact ⟨rfl, hu⟩
  · exact rfl

theorem insR_rel {k k' kk : Nat} {cf cf' : CallT} (hk : k ≤ k') (hc : RelC k kk cf cf') (ht : TrM cf') (keep : Nat) : ∀ (l : List PI) (ρ : Rg) (s : St), s.n ≤ k → (∀ i ∈ l, i.op = 32 → i.imm.toNat < kk) → Rel k (insR cf k keep l ρ s) (insR cf' k' keep l ρ s)
  | [], ρ, s, hs, _ => ⟨rfl, hs⟩
  | i :: l, ρ, s, hs, hl => by
    have h := exI_rel hk hc ht keep i ρ s hs (hl i (List.mem_cons_self ..))
    unfold insR
    cases hr : exI cf k keep i ρ s with
    | ok ρ' s' =>
      rw [hr] at h
      obtain ⟨e, hn⟩ := h
      simp only [e]
      exact insR_rel hk hc ht keep l ρ' s' hn fun j hj => hl j (List.mem_cons_of_mem _ hj)
    | over t sp s' =>
      rw [hr] at h
      cases sp with
      | false => rw [show exI cf' k' keep i ρ s = .over t false s' from h]; exact rfl
      | true =>
        refine ⟨h.1, List.IsPrefix.trans h.2 ?_⟩
        cases exI cf' k' keep i ρ s with
        | ok ρ2 s2 => exact insR_tr ht k' keep l ρ2 s2
        | over t2 sp2 s2 => exact List.prefix_refl _

theorem ins_imm {c : PC} {k : Nat} {f : PF} {x : PI} (h : insP c k f x = true) (hop : x.op = 32) : x.imm.toNat < k := by
  unfold insP at h
  simp only [Bool.and_eq_true] at h
  obtain ⟨-, -, -, -, h5⟩ := h
  unfold immP at h5
  rw [hop] at h5
  simp [blP] at h5
  omega

theorem partsR_rel {k k' kk : Nat} {cf cf' : CallT} (hk : k ≤ k') (hm : MonC cf) (hc : RelC k kk cf cf') (ht : TrM cf') (keep : Nat) {c : PC} {f : PF} (hf : fnP c kk f = true) : ∀ (g g' at' : Nat) (ρ : Rg) (s : St), s.n ≤ k → k < g + s.n → k' < g' + s.n → at' < f.parts.length → Rel k (partsR cf k keep f g at' ρ s) (partsR cf' k' keep f g' at' ρ s)
  | 0, g', at', ρ, s, hs, hg, _, _ => by omega
  | g + 1, 0, at', ρ, s, hs, hg, hg', _ => by omega
  | g + 1, g' + 1, at', ρ, s, hs, hg, hg', hat => by
    obtain ⟨p, hp⟩ : ∃ p, f.parts[at']? = some p := ⟨f.parts[at'], List.getElem?_eq_getElem hat⟩
    have hpt : ptP c kk f p = true := by
      unfold fnP at hf
      simp only [Bool.and_eq_true] at hf
      exact List.all_eq_true.1 hf.2 p (List.mem_of_getElem? hp)
    unfold ptP at hpt
    simp only [Bool.and_eq_true] at hpt
    have h := insR_rel hk hc ht keep p.ins ρ s hs fun i hi => ins_imm (List.all_eq_true.1 hpt.2 i hi)
    unfold partsR
    simp only [hp]
    cases hr : insR cf k keep p.ins ρ s with
    | over t sp s' =>
      rw [hr] at h
      cases sp with
      | false => rw [show insR cf' k' keep p.ins ρ s = .over t false s' from h]; exact rfl
      | true =>
        refine ⟨h.1, List.IsPrefix.trans h.2 ?_⟩
        cases insR cf' k' keep p.ins ρ s with
        | over t2 sp2 s2 => exact List.prefix_refl _
        | ok ρ2 s2 =>
          dsimp only
          by_cases h0 : s2.n = k'
          · rw [if_pos h0]; exact List.prefix_refl _
          rw [if_neg h0]
          cases he : p.e with
          | true => exact List.prefix_refl _
          | false => exact partsR_tr ht k' keep f g' _ ρ2 s2.up
    | ok ρ' s' =>
      have hmn := insR_n hm p.ins hr
      rw [hr] at h
      obtain ⟨e, hn⟩ := h
      simp only [e]
      by_cases h0 : s'.n = k
      · rw [if_pos h0]
        refine ⟨h0, ?_⟩
        by_cases h1 : s'.n = k'
        · rw [if_pos h1]; exact List.prefix_refl _
        rw [if_neg h1]
        cases he : p.e with
        | true => exact List.prefix_refl _
        | false => exact partsR_tr ht k' keep f g' _ ρ' s'.up
      rw [if_neg h0, if_neg (by omega : ¬ s'.n = k')]
      cases he : p.e with
      | true => exact ⟨rfl, by show s'.n + 1 ≤ k; omega⟩
      | false =>
        have hnx := next_lt (ρ := ρ') hpt.1 he
        exact partsR_rel hk hm hc ht keep hf g g' _ ρ' s'.up (by show s'.n + 1 ≤ k; omega) (by show k < g + (s'.n + 1); omega) (by show k' < g' + (s'.n + 1); omega) (by omega)

theorem callR_rel {c : PC} {w0 : World} (hv : VC c w0) {k k' : Nat} (hk : k ≤ k') : ∀ g, g ≤ c.fns.length → RelC k g (callR c k g) (callR c k' g)
  | 0, _ => fun j a s hj => by omega
  | g + 1, hg => fun j a s hj hs => by
    have ih := callR_rel hv hk g (by omega)
    have hj' : RelC k j (callR c k g) (callR c k' g) := fun i a s hi hs => ih i a s (by omega) hs
    obtain ⟨f, hf⟩ : ∃ f, c.fns[j]? = some f := ⟨c.fns[j]'(by omega), List.getElem?_eq_getElem (by omega)⟩
    have hfn := hv.fn j f hf
    have hpl : 0 < f.parts.length := by
      unfold fnP at hfn
      simp only [Bool.and_eq_true] at hfn
      obtain ⟨-, -, -, h4, -⟩ := headP_iff hfn.1
      omega
    unfold callR
    simp only [hf]
    cases ha : allocs f.slots s.bs with
    | none => exact rfl
    | some bs' =>
      have h := partsR_rel hk (callR_n c k g) hj' (callR_tr c k' g) s.bs.length hfn (k + 1) (k' + 1) 0 (argR a) { s with bs := bs' } hs (by show k < k + 1 + s.n; omega) (by show k' < k' + 1 + s.n; omega) hpl
      dsimp only
      cases hr : partsR (callR c k g) k s.bs.length f (k + 1) 0 (argR a) { s with bs := bs' } with
      | ok v s2 =>
        rw [hr] at h
        obtain ⟨e, hn⟩ := h
        rw [e]
        exact ⟨rfl, hn⟩
      | over t sp s2 =>
        rw [hr] at h
        cases sp with
        | false => rw [show partsR (callR c k' g) k' s.bs.length f (k' + 1) 0 (argR a) { s with bs := bs' } = .over t false s2 from h]; exact rfl
        | true =>
          refine ⟨h.1, List.IsPrefix.trans h.2 ?_⟩
          cases partsR (callR c k' g) k' s.bs.length f (k' + 1) 0 (argR a) { s with bs := bs' } <;> exact List.prefix_refl _

/-- The law of more steps. -/
theorem more_law {c : PC} {w0 : World} (hok : c.ok w0) (hv : validP c = 0) {k k' : Nat} (hk : k ≤ k') : ((ocP (runP c k)).sp = false → ocP (runP c k') = ocP (runP c k)) ∧ ((ocP (runP c k)).sp = true → (ocP (runP c k)).n = k ∧ (ocP (runP c k)).tr <+: (ocP (runP c k')).tr) := by
  obtain ⟨vc, -, -, f, hf, -⟩ := right_vc hok hv
  have hl : c.fns.length - 1 < c.fns.length := by have := (List.getElem?_eq_some_iff.1 hf).1; exact this
  have h := callR_rel vc hk c.fns.length (Nat.le_refl _) (c.fns.length - 1) [] (start c) hl (Nat.zero_le _)
  unfold runP
  cases hr : callR c k c.fns.length (c.fns.length - 1) [] (start c) with
  | ok v s =>
    rw [hr] at h
    rw [h.1]
    exact ⟨fun _ => rfl, fun e => by cases e⟩
  | over t sp s =>
    rw [hr] at h
    cases sp with
    | false =>
      rw [show callR c k' c.fns.length (c.fns.length - 1) [] (start c) = .over t false s from h]
      exact ⟨fun _ => rfl, fun e => by cases e⟩
    | true =>
      refine ⟨fun e => (by cases e), fun _ => ⟨h.1, ?_⟩⟩
      have h2 := h.2
      cases hr' : callR c k' c.fns.length (c.fns.length - 1) [] (start c) with
      | ok v s => rw [hr'] at h2; exact h2
      | over t sp s => rw [hr'] at h2; exact h2

end Go.Proofs.Ytcpgikgjolomcaa
