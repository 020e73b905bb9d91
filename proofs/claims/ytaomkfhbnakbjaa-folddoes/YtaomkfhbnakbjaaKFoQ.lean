/-
  What comes of right code by folding is right; a run that halts halts in just its steps: plain laws; no conditions but those that each fact bears.
-/
import Derived.Test.YtaomkfhbnakbjaaKFoP
import Derived.Test.YtaomkfhbnakbjaaKDnO
namespace Go.Proofs.Ytaomkfhbnakbjaa.Fo
open Go.RowKit
set_option linter.unusedVariables false

theorem all_ev {α : Type} {R : α → α → Prop} {l m : List α} (h : EvL R l m) {P P' : α → Bool} (hp : ∀ (k : Nat) x y, l[k]? = some x → m[k]? = some y → R x y → P y = true → P' x = true) (hm : m.all P = true) : l.all P' = true := by
  rw [List.all_eq_true] at hm ⊢
  intro x hx
  obtain ⟨k, hk⟩ := List.mem_iff_getElem?.1 hx
  have hl := (List.getElem?_eq_some_iff.1 hk).1
  have := h.len
  obtain ⟨y, hy⟩ := get_of_lt (l := m) (k := k) (by omega)
  exact hp k x y hk hy (h.each k x y hk hy) (hm y (List.mem_of_getElem? hy))
theorem ins_ev {c d : PC} {k : Nat} {f f' : PF} (hg : d.gl = c.gl) (hs : f'.slots = f.slots) (hr : f'.regs = f.regs) (hfn : ∀ j : Nat, (d.fns[j]?).map (fun g => g.params) = (c.fns[j]?).map (fun g => g.params)) {x y : PI} (h : EvI x y) (hi : insP c k f y = true) : insP d k f' x = true := by
  have e1 : wtP f' x = wtP f y := by unfold wtP; rw [h.op, h.dst, hr]
  have e2 : rdsP f' x = rdsP f y := by unfold rdsP; rw [h.op, h.a, h.b, h.args, hr]
  have e3 : immP d k f' x = immP c k f y := by
    unfold immP
    rw [h.op, h.imm, h.args, hs, hg]
    have := hfn y.imm.toNat
    cases h1 : d.fns[y.imm.toNat]? with
    | none =>
      cases h2 : c.fns[y.imm.toNat]? with
      | none => rfl
      | some g => rw [h1, h2] at this; cases this
    | some g' =>
      cases h2 : c.fns[y.imm.toNat]? with
      | none => rw [h1, h2] at this; cases this
      | some g =>
        rw [h1, h2] at this
        simp at this
        dsimp only
        rw [this]
  unfold insP at hi ⊢
  rw [h.op, h.ty, e1, e2, e3]
  exact hi
theorem foldL_all {c : PC} {k : Nat} {f : PF} : ∀ (l : List PI) (F : KF), l.all (insP c k f) = true → (foldL false F l).all (insP c k f) = true
  | [], F, h => rfl
  | x :: l, F, h => by
    simp only [foldL, List.all_cons, Bool.and_eq_true] at h ⊢
    exact ⟨foldI_ins h.1, foldL_all l _ h.2⟩

theorem prm_ev {c d : PC} (hd : EvC d (foldC false c)) (j : Nat) : (d.fns[j]?).map (fun g => g.params) = (c.fns[j]?).map (fun g => g.params) := by
  rcases evl_get hd.fns j with ⟨h1, h2⟩ | ⟨f', q, h1, h2, h3⟩
  · have : (c.fns.map (foldF false))[j]? = none := h2
    rw [List.getElem?_map] at this
    cases hh : c.fns[j]? with
    | none => rw [h1]
    | some z => rw [hh] at this; cases this
  · have : (c.fns.map (foldF false))[j]? = some q := h2
    rw [List.getElem?_map] at this
    cases hh : c.fns[j]? with
    | none => rw [hh] at this; cases this
    | some z =>
      rw [hh] at this
      simp at this
      rw [h1]
      simp
      rw [h3.params, ← this]
      rfl
theorem fn_ev {c d : PC} (hd : EvC d (foldC false c)) {k : Nat} {f f' : PF} (hf : EvF f' (foldF false f)) (h : fnP c k f = true) : fnP d k f' = true := by
  have r1 : f'.params = f.params := hf.params
  have r2 : f'.regs = f.regs := hf.regs
  have r3 : f'.slots = f.slots := hf.slots
  have r4 : f'.parts.length = f.parts.length := by rw [hf.parts.len]; simp [foldF]
  unfold fnP at h ⊢
  simp only [Bool.and_eq_true] at h ⊢
  refine ⟨?_, ?_⟩
  · have := h.1
    unfold headP at this ⊢
    rw [r1, r2, r3, r4]
    exact this
  · refine all_ev hf.parts (P := ptP c k f) (fun j p' q hp hq he hh => ?_) ?_
    · unfold ptP at hh ⊢
      simp only [Bool.and_eq_true] at hh ⊢
      refine ⟨?_, ?_⟩
      · have := hh.1
        unfold endP at this ⊢
        rw [he.e, he.cond, he.next, he.els, r2, r4]
        exact this
      · exact all_ev he.ins (P := insP c k f) (fun i x y _ _ hxy hy => ins_ev (c := c) (show d.gl = c.gl from hd.gl) r3 r2 (prm_ev hd) hxy hy) hh.2
    · rw [List.all_eq_true] at *
      intro q hq
      obtain ⟨p, hp, rfl⟩ := List.mem_map.1 (show q ∈ f.parts.map (foldP false) from hq)
      have := h.2 p hp
      unfold ptP at this ⊢
      simp only [Bool.and_eq_true] at this ⊢
      exact ⟨this.1, foldL_all p.ins _ this.2⟩

theorem map_ev {α : Type} {R : α → α → Prop} {l m : List α} (h : EvL R l m) (φ : α → Int) (hφ : ∀ x y, R x y → φ x = φ y) : l.map φ = m.map φ := by
  refine List.ext_getElem? fun k => ?_
  rw [List.getElem?_map, List.getElem?_map]
  rcases evl_get h k with ⟨h1, h2⟩ | ⟨x, y, h1, h2, h3⟩
  · rw [h1, h2]
  · rw [h1, h2]
    simp [hφ x y h3]
theorem codeN_ev {c d : PC} (hd : EvC d (foldC false c)) : codeN d = codeN c := by
  have hp : ∀ p q : PP, EvP p q → partN p = partN q := fun p q h => by unfold partN; rw [h.ins.len]
  have hf : ∀ f g : PF, EvF f g → fnN f = fnN g := fun f g h => by unfold fnN; rw [map_ev h.parts partN hp]
  unfold codeN
  rw [map_ev hd.fns fnN hf]
  show ((c.fns.map (foldF false)).map fnN).sum = _
  rw [List.map_map]
  congr 1
  refine List.map_congr_left fun f _ => ?_
  show fnN (foldF false f) = fnN f
  unfold fnN foldF
  dsimp only
  rw [List.map_map]
  congr 1
  refine List.map_congr_left fun p _ => ?_
  show partN (foldP false p) = partN p
  unfold partN foldP
  dsimp only
  rw [foldL_len]
theorem fnsP_at {c : PC} : ∀ (l : List PF) (k0 : Nat), (∀ (i : Nat) (f : PF), l[i]? = some f → fnP c (k0 + i) f = true) → fnsP c k0 l = true
  | [], k0, h => rfl
  | x :: l, k0, h => by
    simp only [fnsP, Bool.and_eq_true]
    refine ⟨h 0 x rfl, fnsP_at l (k0 + 1) fun i f hf => ?_⟩
    have := h (i + 1) f (by simpa using hf)
    rwa [show k0 + (i + 1) = k0 + 1 + i by omega] at this
theorem valid_ev {c d : PC} {w0 : World} (hok : c.ok w0) (hd : EvC d (foldC false c)) (hv : validP c = 0) : validP d = 0 := by
  obtain ⟨vc, hroom, hli, f, hf, hp⟩ := Dn.valid_vc hok hv
  have hn : ¬ 60000 < IntKind.i64.wrap (codeN c) := fun h => by unfold validP at hv; rw [if_pos h] at hv; cases hv
  have e1 : d.fns.length = c.fns.length := by rw [hd.fns.len]; simp [foldC]
  unfold validP
  rw [codeN_ev hd, if_neg hn]
  have hr : rightP d = true := by
    unfold rightP hdP
    simp only [Bool.and_eq_true]
    refine ⟨⟨?_, ?_, ?_⟩, fnsP_at _ _ fun i f' hf' => ?_⟩
    · unfold lastP
      rw [e1]
      have := prm_ev hd (c.fns.length - 1)
      rw [hf] at this
      cases h1 : d.fns[c.fns.length - 1]? with
      | none => rw [h1] at this; cases this
      | some g =>
        rw [h1] at this
        simp at this
        dsimp only
        rw [this, hp]
        rfl
    · rw [hd.gl, hd.ini]; exact decide_eq_true hli
    · rw [hd.gl]; exact hroom
    · rw [Nat.zero_add]
      rcases evl_get hd.fns i with ⟨h1, h2⟩ | ⟨f2, q, h1, h2, h3⟩
      · rw [h1] at hf'; cases hf'
      · rw [h1] at hf'
        injection hf' with hf'
        subst hf'
        have : (c.fns.map (foldF false))[i]? = some q := h2
        rw [List.getElem?_map] at this
        cases hh : c.fns[i]? with
        | none => rw [hh] at this; cases this
        | some z =>
          rw [hh] at this
          simp at this
          rw [← this] at h3
          exact fn_ev hd h3 (vc.fn i z hh)
  rw [hr]
  rfl

/-! ### A run that halts halts in just its steps -/
def FitC (cf cf' : CallT) (n : Nat) : Prop := ∀ j A s v s', cf j A s = .ok v s' → s'.n ≤ n → cf' j A s = .ok v s'
theorem ex_fit {cf cf' : CallT} {k n keep : Nat} (hm : Dn.MonC cf) (hc : FitC cf cf' n) {x : PI} {ρ ρ' : Rg} {s s' : St} (h : exI cf k keep x ρ s = .ok ρ' s') (hn : s'.n ≤ n) : exI cf' n keep x ρ s = .ok ρ' s' := by
  have hlt := Dn.exI_n hm h
  rw [Dn.exI_B] at h ⊢
  have h1 : ¬ s.n = k := fun q => by rw [if_pos q] at h; cases h
  rw [if_neg h1] at h
  rw [if_neg (by omega)]
  unfold Dn.exB at h ⊢
  by_cases n33 : x.op = 33
  · rw [if_pos n33] at h ⊢; exact h
  rw [if_neg n33] at h ⊢
  by_cases n31 : x.op = 31
  · rw [if_pos n31] at h ⊢; exact h
  rw [if_neg n31] at h ⊢
  by_cases n30 : x.op = 30
  · rw [if_pos n30] at h ⊢; exact h
  rw [if_neg n30] at h ⊢
  by_cases n32 : x.op = 32
  · rw [if_pos n32] at h ⊢
    cases hr : cf x.imm.toNat (x.args.map (rg ρ)) s.up with
    | over t sp s2 => rw [hr] at h; cases h
    | ok v s2 =>
      rw [hr] at h
      have e2 : s2 = s' := by injection h
      rw [hc _ _ _ _ _ hr (by rw [e2]; exact hn)]
      exact h
  rw [if_neg n32] at h ⊢
  exact h
theorem ins_fit {cf cf' : CallT} {k n keep : Nat} (hm : Dn.MonC cf) (hc : FitC cf cf' n) : ∀ (l : List PI) {ρ ρ' : Rg} {s s' : St}, insR cf k keep l ρ s = .ok ρ' s' → s'.n ≤ n → insR cf' n keep l ρ s = .ok ρ' s'
  | [], ρ, ρ', s, s', h, hn => h
  | x :: l, ρ, ρ', s, s', h, hn => by
    simp only [insR] at h ⊢
    cases hr : exI cf k keep x ρ s with
    | over t sp s2 => rw [hr] at h; cases h
    | ok ρ2 s2 =>
      rw [hr] at h
      dsimp only at h
      have h2 := Dn.insR_n hm l h
      rw [ex_fit hm hc hr (by omega)]
      exact ins_fit hm hc l h hn
theorem parts_fit {cf cf' : CallT} {k n keep : Nat} (hm : Dn.MonC cf) (hc : FitC cf cf' n) {f : PF} : ∀ (g g' at' : Nat) {ρ : Rg} {s : St} {v : Int} {s' : St}, partsR cf k keep f g at' ρ s = .ok v s' → s'.n ≤ n → n < s.n + g' → partsR cf' n keep f g' at' ρ s = .ok v s'
  | 0, g', at', ρ, s, v, s', h, hn, hg => by cases h
  | g + 1, 0, at', ρ, s, v, s', h, hn, hg => by
    have := Dn.partsR_n hm _ _ h
    omega
  | g + 1, g' + 1, at', ρ, s, v, s', h, hn, hg => by
    simp only [partsR] at h ⊢
    cases hp : f.parts[at']? with
    | none => rw [hp] at h; cases h
    | some p =>
      rw [hp] at h
      dsimp only at h ⊢
      cases hr : insR cf k keep p.ins ρ s with
      | over t sp s2 => rw [hr] at h; cases h
      | ok ρ2 s2 =>
        rw [hr] at h
        dsimp only at h
        have h0 := Dn.insR_n hm _ hr
        by_cases q : s2.n = k
        · rw [if_pos q] at h; cases h
        rw [if_neg q] at h
        by_cases pe : p.e = true
        · rw [if_pos pe] at h
          injection h with h1 h2
          subst h2
          have hn' : s2.n + 1 ≤ n := hn
          rw [ins_fit hm hc _ hr (by omega)]
          dsimp only
          rw [if_neg (by omega), if_pos pe, h1]
        · rw [if_neg pe] at h
          have h3 := Dn.partsR_n hm _ _ h
          have h3' : s2.n + 1 ≤ s'.n := h3
          rw [ins_fit hm hc _ hr (by omega)]
          dsimp only
          rw [if_neg (by omega), if_neg pe]
          exact parts_fit hm hc g g' _ h hn (by show n < s2.n + 1 + g'; omega)
theorem call_fit (c : PC) (k n : Nat) : ∀ g, FitC (callR c k g) (callR c n g) n
  | 0, j, A, s, v, s', h, hn => by cases h
  | g + 1, j, A, s, v, s', h, hn => by
    cases hf : c.fns[j]? with
    | none => rw [callR, hf] at h; cases h
    | some f =>
      rw [Dn.callR_at hf] at h ⊢
      cases ha : allocs f.slots s.bs with
      | none => rw [ha] at h; cases h
      | some bs' =>
        rw [ha] at h
        dsimp only at h ⊢
        cases hr : partsR (callR c k g) k s.bs.length f (k + 1) 0 (argR A) { s with bs := bs' } with
        | over t sp s2 => rw [hr] at h; cases h
        | ok v2 s2 =>
          rw [hr] at h
          have hs : s2.n = s'.n ∧ v2 = v := by
            simp only [Dn.cutA] at h
            injection h with h1 h2
            rw [← h2]; exact ⟨rfl, h1⟩
          have := parts_fit (Dn.callR_n c k g) (call_fit c k n g) (k + 1) (n + 1) 0 hr (by omega) (by show n < s.n + (n + 1); omega)
          rw [this]
          exact h
/-- Run with just the steps that it took. -/
theorem run_fit {c : PC} {k : Nat} {v : Int} {s : St} (h : runP c k = .ok v s) : runP c s.n = .ok v s := call_fit c k s.n c.fns.length (c.fns.length - 1) [] (start c) v s h (Nat.le_refl _)

end Go.Proofs.Ytaomkfhbnakbjaa.Fo
