/-
 A run of a function's parts is followed, in no more steps, by one of other parts: plain facts, no program in sight; no conditions but those that each fact bears.
 What holds of the classes when all have been looked at: a part leads to the one that stands for it; plain facts, no program in sight; no conditions but those that each fact bears.
 A function that is made straight does what it did, in no more steps: plain facts, no program in sight; no conditions but those that each fact bears.
-/
import Derived.Test.YtphknepblchkdaaKFlCi
import Derived.Test.YtphknepblchkdaaKFlCe
namespace Go.Proofs.Ytphknepblchkdaa.Fl
open Go.RowKit
open Go.Proofs.Ytphknepblchkdaa.In (zI zP zF zI_zI zP_zP cntS cntS_fnN len_cnt)
set_option linter.unusedVariables false

/-- The same, after no more steps. -/
structure SE (s1 s2 : St) : Prop where
 tr : s2.tr = s1.tr
 bs : s2.bs = s1.bs
 f : s2.f = s1.f
 n : s2.n ≤ s1.n
theorem SE.refl (s : St) : SE s s := ⟨rfl, rfl, rfl, Nat.le_refl _⟩
theorem SE.trans {a b c : St} (h : SE a b) (k : SE b c) : SE a c := ⟨k.tr.trans h.tr, k.bs.trans h.bs, k.f.trans h.f, Nat.le_trans k.n h.n⟩
theorem SE.up {a b : St} (h : SE a b) : SE a.up b.up := ⟨h.tr, h.bs, h.f, Nat.succ_le_succ h.n⟩
theorem SE.up1 {a b : St} (h : SE a b) : SE a.up b := ⟨h.tr, h.bs, h.f, Nat.le_succ_of_le h.n⟩
/-- What a call does on the one side is done on the other, in no more steps. -/
def SimC (fu : Nat) (cf1 cf2 : CallT) : Prop := ∀ k ar s1 s2 v t, SE s1 s2 → cf1 k ar s1 = .ok v t → t.n ≤ fu → s1.n ≤ t.n ∧ ∃ t2, cf2 k ar s2 = .ok v t2 ∧ SE t t2
theorem exI_sim {fu fuel1 keep : Nat} {cf1 cf2 : CallT} (h : SimC fu cf1 cf2) {i : PI} {ρ ρ' : Rg} {s1 s2 t : St} (e : SE s1 s2) (hx : exI cf1 fuel1 keep i ρ s1 = .ok ρ' t) (hn : t.n ≤ fu) : s1.n + 1 ≤ t.n ∧ ∃ t2, exI cf2 fu keep i ρ s2 = .ok ρ' t2 ∧ SE t t2 := by
 have hs : s1.n + 1 ≤ t.n → ¬ s2.n = fu := fun q => by have := e.n; omega
 unfold exI at hx
 unfold exI
 split at hx
 ·cases hx
 ·split at hx
  ·rename_i h33
   injection hx with h1 h2
   subst h1; subst h2
   have h3 : s1.n + 1 ≤ s1.up.n := Nat.le_refl _
   refine ⟨h3, { s2.up with tr := s2.tr ++ [rg ρ i.a] }, by rw [if_neg (hs h3), if_pos h33], ⟨?_, e.bs, e.f, Nat.succ_le_succ e.n⟩⟩
   show s2.tr ++ _ = s1.tr ++ _
   rw [e.tr]
  ·rename_i h33
   split at hx
   ·rename_i h31
    split at hx
    ·rename_i hin
     injection hx with h1 h2
     subst h1; subst h2
     have h3 : s1.n + 1 ≤ s1.up.n := Nat.le_refl _
     refine ⟨h3, { s2.up with f := Me.upd s2.f (hiA (rg ρ i.a)) (loA (rg ρ i.a)) (rg ρ i.b) }, by rw [if_neg (hs h3), if_neg h33, if_pos h31, e.bs, if_pos hin], ⟨e.tr, e.bs, ?_, Nat.succ_le_succ e.n⟩⟩
     show Me.upd s2.f _ _ _ = Me.upd s1.f _ _ _
     rw [e.f]
    ·cases hx
   ·rename_i h31
    split at hx
    ·rename_i h30
     split at hx
     ·rename_i hin
      injection hx with h1 h2
      subst h1; subst h2
      have h3 : s1.n + 1 ≤ s1.up.n := Nat.le_refl _
      exact ⟨h3, _, by rw [if_neg (hs h3), if_neg h33, if_neg h31, if_pos h30, e.bs, if_pos hin, e.f], e.up⟩
     ·cases hx
    ·rename_i h30
     split at hx
     ·rename_i h32
      split at hx
      ·rename_i v s3 hc
       injection hx with h1 h2
       subst h1; subst h2
       obtain ⟨h4, t2, h5, h6⟩ := h _ _ _ _ _ _ e.up hc hn
       have h3 : s1.n + 1 ≤ s3.n := h4
       exact ⟨h3, t2, by rw [if_neg (hs h3), if_neg h33, if_neg h31, if_neg h30, if_pos h32, h5], h6⟩
      ·cases hx
     ·rename_i h32
      split at hx
      ·rename_i hr
       injection hx with h1 h2
       subst h1; subst h2
       have h3 : s1.n + 1 ≤ s1.up.n := Nat.le_refl _
       exact ⟨h3, _, by rw [if_neg (hs h3), if_neg h33, if_neg h31, if_neg h30, if_neg h32, if_pos hr], e.up⟩
      ·cases hx
theorem insR_sim {fu fuel1 keep : Nat} {cf1 cf2 : CallT} (h : SimC fu cf1 cf2) : ∀ (l : List PI) {ρ ρ' : Rg} {s1 s2 t : St}, SE s1 s2 → insR cf1 fuel1 keep l ρ s1 = .ok ρ' t → t.n ≤ fu → s1.n ≤ t.n ∧ ∃ t2, insR cf2 fu keep l ρ s2 = .ok ρ' t2 ∧ SE t t2
 | [], ρ, ρ', s1, s2, t, e, hx, hn => by
  injection hx with h1 h2
  subst h1; subst h2
  exact ⟨Nat.le_refl _, s2, rfl, e⟩
 | i :: l, ρ, ρ', s1, s2, t, e, hx, hn => by
  unfold insR at hx
  split at hx
  ·rename_i ρ1 s3 hi
   have hm : s3.n ≤ t.n := by
    -- steps only grow
    have : ∀ (l : List PI) {ρ ρ' : Rg} {s t : St}, insR cf1 fuel1 keep l ρ s = .ok ρ' t → t.n ≤ fu → s.n ≤ t.n := by
     intro l
     induction l with
     | nil => intro ρ ρ' s t hx _; injection hx with h1 h2; subst h2; exact Nat.le_refl _
     | cons i l ih =>
      intro ρ ρ' s t hx hn
      unfold insR at hx
      split at hx
      ·rename_i ρ2 s4 hi2
       have h5 := ih hx hn
       have h6 := (exI_sim h (SE.refl s) hi2 (by omega)).1
       omega
      ·cases hx
    exact this l hx hn
   obtain ⟨h3, t2, h4, h5⟩ := exI_sim h e hi (by omega)
   obtain ⟨h6, t3, h7, h8⟩ := insR_sim h l h5 hx hn
   refine ⟨by omega, t3, ?_, h8⟩
   unfold insR
   rw [h4]
   exact h7
  ·cases hx
theorem insR_app (cf : CallT) (fuel keep : Nat) : ∀ (l m : List PI) (ρ : Rg) (s : St), insR cf fuel keep (l ++ m) ρ s = match insR cf fuel keep l ρ s with | .ok ρ' s' => insR cf fuel keep m ρ' s' | .over t sp s' => .over t sp s'
 | [], m, ρ, s => rfl
 | i :: l, m, ρ, s => by
  rw [List.cons_append]
  have e1 : ∀ l : List PI, insR cf fuel keep (i :: l) ρ s = match exI cf fuel keep i ρ s with | .ok ρ' s' => insR cf fuel keep l ρ' s' | .over t sp s' => .over t sp s' := fun l => rfl
  rw [e1, e1]
  cases exI cf fuel keep i ρ s with
  | ok ρ' s' => exact insR_app cf fuel keep l m ρ' s'
  | over t sp s' => rfl

/-! ### What is known behind instructions -/
def IX (x : PI) : Prop := knP x.op = true ∧ (wrP x.op = true → 0 ≤ x.dst)
theorem exI_known {cf : CallT} {fuel keep : Nat} {i : PI} (hi : IX i) {ρ ρ' : Rg} {s t : St} (hx : exI cf fuel keep i ρ s = .ok ρ' t) {F : KF} (hF : ∀ r v, 0 ≤ r → F r = some v → ρ r.toNat = v) : ∀ r v, 0 ≤ r → lrnI F i r = some v → ρ' r.toNat = v := by
 have hset : ∀ (x : Int) (o : Option Int), wrP i.op = true → (∀ v, o = some v → x = v) → ∀ r v, 0 ≤ r → updK F i.dst o r = some v → setR ρ i.dst.toNat x r.toNat = v := fun x o hw ho r v hr hv => by
  have hd := hi.2 hw
  unfold updK at hv
  unfold setR
  by_cases e : r = i.dst
  ·rw [if_pos e] at hv
   rw [if_pos (by rw [e])]
   exact ho v hv
  ·rw [if_neg e] at hv
   rw [if_neg (by omega)]
   exact hF r v hr hv
 unfold exI at hx
 split at hx
 ·cases hx
 ·split at hx
  ·rename_i h33
   injection hx with h1 h2
   subst h1
   have hw : ¬ wrP i.op = true := by rw [h33]; decide
   intro r v hr hv
   unfold lrnI at hv
   rw [if_neg hw] at hv
   exact hF r v hr hv
  ·rename_i h33
   split at hx
   ·rename_i h31
    split at hx
    ·injection hx with h1 h2
     subst h1
     have hw : ¬ wrP i.op = true := by rw [h31]; decide
     intro r v hr hv
     unfold lrnI at hv
     rw [if_neg hw] at hv
     exact hF r v hr hv
    ·cases hx
   ·rename_i h31
    have hw : wrP i.op = true := by unfold wrP; rw [hi.1]; simp [h31, h33]
    split at hx
    ·rename_i h30
     split at hx
     ·injection hx with h1 h2
      subst h1
      intro r v hr hv
      unfold lrnI at hv
      rw [if_pos hw, if_neg (by omega)] at hv
      exact hset _ none hw (fun v q => by cases q) r v hr hv
     ·cases hx
    ·rename_i h30
     split at hx
     ·rename_i h32
      split at hx
      ·injection hx with h1 h2
       subst h1
       intro r v hr hv
       unfold lrnI at hv
       rw [if_pos hw, if_neg (by omega)] at hv
       exact hset _ none hw (fun v q => by cases q) r v hr hv
      ·cases hx
     ·rename_i h32
      split at hx
      ·injection hx with h1 h2
       subst h1
       intro r v hr hv
       unfold lrnI at hv
       rw [if_pos hw] at hv
       by_cases h20 : i.op = 20
       ·rw [if_pos h20] at hv
        refine hset _ (some i.imm) hw (fun v q => ?_) r v hr hv
        injection q with q
        subst q
        unfold reck1
        rw [if_pos h20]
       ·rw [if_neg h20] at hv
        exact hset _ none hw (fun v q => by cases q) r v hr hv
      ·cases hx
theorem insR_known {cf : CallT} {fuel keep : Nat} : ∀ (l : List PI) (hl : ∀ x ∈ l, IX x) {ρ ρ' : Rg} {s t : St} (hx : insR cf fuel keep l ρ s = .ok ρ' t) {F : KF} (hF : ∀ r v, 0 ≤ r → F r = some v → ρ r.toNat = v), ∀ r v, 0 ≤ r → lrnL F l r = some v → ρ' r.toNat = v
 | [], hl, ρ, ρ', s, t, hx, F, hF => by
  injection hx with h1 h2
  subst h1
  exact hF
 | i :: l, hl, ρ, ρ', s, t, hx, F, hF => by
  unfold insR at hx
  split at hx
  ·rename_i ρ1 s3 hi
   have h1 := exI_known (hl i (List.mem_cons_self ..)) hi hF
   exact insR_known l (fun x hx => hl x (List.mem_cons_of_mem _ hx)) hx h1
  ·cases hx
/-- Some run comes behind the instructions with these registers. -/
def Aft (l : List PI) (ρ' : Rg) : Prop := ∃ (cf : CallT) (fuel keep : Nat) (ρ : Rg) (s s' : St), insR cf fuel keep l ρ s = .ok ρ' s'
theorem Aft.known {l : List PI} {ρ' : Rg} (h : Aft l ρ') (hl : ∀ x ∈ l, IX x) {r v : Int} (hr : 0 ≤ r) (hv : lrnL (fun _ => none) l r = some v) : rg ρ' r = v := by
 obtain ⟨cf, fuel, keep, ρ, s, s', hx⟩ := h
 exact insR_known l hl hx (F := fun _ => none) (fun r v _ q => by cases q) r v hr hv

/-! ### Parts -/
def PR (cf : CallT) (fuel keep : Nat) (L : List PP) : Nat → Nat → Rg → St → Rs Int := partsR cf fuel keep ⟨0, 0, [], L, none, 0, none, 0⟩
theorem partsR_PR (cf : CallT) (fuel keep : Nat) (f : PF) : ∀ (g at' : Nat) (ρ : Rg) (s : St), partsR cf fuel keep f g at' ρ s = PR cf fuel keep f.parts g at' ρ s
 | 0, _, _, _ => rfl
 | g + 1, at', ρ, s => by
  unfold PR partsR
  cases f.parts[at']? with
  | none => rfl
  | some p =>
   dsimp only
   cases insR cf fuel keep p.ins ρ s with
   | over t sp s' => rfl
   | ok ρ' s' =>
    dsimp only
    rw [partsR_PR cf fuel keep f g]
    rfl
theorem PR_ok {cf : CallT} {fuel keep : Nat} {L : List PP} {g a : Nat} {ρ : Rg} {s t : St} {v : Int} (h : PR cf fuel keep L g a ρ s = .ok v t) : ∃ g0 p ρ' s', g = g0 + 1 ∧ L[a]? = some p ∧ insR cf fuel keep p.ins ρ s = .ok ρ' s' ∧ ((p.e = true ∧ v = rg ρ' p.cond ∧ t = s'.up) ∨ (p.e = false ∧ PR cf fuel keep L g0 (nextP p ρ').toNat ρ' s'.up = .ok v t)) := by
 unfold PR at h
 match g, h with
 | g0 + 1, h =>
  unfold partsR at h
  dsimp only at h
  cases hp : L[a]? with
  | none => rw [hp] at h; cases h
  | some p =>
   rw [hp] at h
   dsimp only at h
   cases hi : insR cf fuel keep p.ins ρ s with
   | over t' sp s' => rw [hi] at h; cases h
   | ok ρ' s' =>
    rw [hi] at h
    dsimp only at h
    split at h
    ·cases h
    ·split at h
     ·rename_i he
      injection h with h1 h2
      exact ⟨g0, p, ρ', s', rfl, rfl, hi, .inl ⟨he, h1.symm, h2.symm⟩⟩
     ·rename_i he
      exact ⟨g0, p, ρ', s', rfl, rfl, hi, .inr ⟨by simpa using he, h⟩⟩
theorem PR_end {cf : CallT} {fuel keep : Nat} {L : List PP} {g a : Nat} {ρ ρ' : Rg} {s s' : St} {p : PP} (hp : L[a]? = some p) (hi : insR cf fuel keep p.ins ρ s = .ok ρ' s') (hn : s'.n ≠ fuel) (he : p.e = true) : PR cf fuel keep L (g + 1) a ρ s = .ok (rg ρ' p.cond) s'.up := by
 unfold PR partsR
 dsimp only
 rw [hp]
 dsimp only
 rw [hi]
 dsimp only
 rw [if_neg hn, if_pos he]
theorem PR_go {cf : CallT} {fuel keep : Nat} {L : List PP} {g a : Nat} {ρ ρ' : Rg} {s s' : St} {p : PP} (hp : L[a]? = some p) (hi : insR cf fuel keep p.ins ρ s = .ok ρ' s') (hn : s'.n ≠ fuel) (he : p.e = false) : PR cf fuel keep L (g + 1) a ρ s = PR cf fuel keep L g (nextP p ρ').toNat ρ' s'.up := by
 show partsR cf fuel keep ⟨0, 0, [], L, none, 0, none, 0⟩ (g + 1) a ρ s = _
 rw [partsR]
 dsimp only
 rw [hp]
 dsimp only
 rw [hi]
 dsimp only
 rw [if_neg hn, he]
 rfl
/-- One list's run from one place is followed by another one's from another. -/
def PK (L : List PP) (a : Nat) (L' : List PP) (a' : Nat) : Prop :=
 ∀ (fu fuel1 keep : Nat) (cf1 cf2 : CallT), SimC fu cf1 cf2 → SimC fu cf2 cf2 → ∀ (g1 : Nat) (ρ : Rg) (s1 s2 : St) (v : Int) (t : St), PR cf1 fuel1 keep L g1 a ρ s1 = .ok v t → SE s1 s2 → t.n ≤ fu → ∀ g2, fu + 1 ≤ g2 + s2.n → s1.n + 1 ≤ t.n ∧ ∃ t2, PR cf2 fu keep L' g2 a' ρ s2 = .ok v t2 ∧ SE t t2
theorem PK.trans {L M N : List PP} {a b c : Nat} (h : PK L a M b) (k : PK M b N c) : PK L a N c := fun fu fuel1 keep cf1 cf2 h1 h2 g1 ρ s1 s2 v t hr he hn g2 hg => by
 obtain ⟨e1, t2, e2, e3⟩ := h fu fuel1 keep cf1 cf2 h1 h2 g1 ρ s1 s2 v t hr he hn (fu + 1) (by omega)
 obtain ⟨e4, t3, e5, e6⟩ := k fu fu keep cf2 cf2 h2 h2 (fu + 1) ρ s2 s2 v t2 e2 (SE.refl _) (by have := e3.n; omega) g2 hg
 exact ⟨e1, t3, e5, e3.trans e6⟩
/-- How a part is followed. -/
inductive Alt (L L' : List PP) (φ : Nat → Nat) (Live : Nat → Prop) (x : Nat) (p : PP) : Prop
 | skip (he : p.e = false) (hi : p.ins = []) (h : ∀ ρ, φ (nextP p ρ).toNat = φ x ∧ Live (nextP p ρ).toNat) : Alt L L' φ Live x p
 | exec (p' : PP) (hp : L'[φ x]? = some p') (hi : p'.ins = p.ins) (he : p'.e = p.e) (hc : p.e = true → p'.cond = p.cond) (hx : p.e = false → ∀ ρ', Aft p.ins ρ' → (nextP p' ρ').toNat = φ (nextP p ρ').toNat ∧ Live (nextP p ρ').toNat) : Alt L L' φ Live x p
 | two (n : Nat) (q p' : PP) (he0 : p.e = false) (h0 : ∀ ρ, (nextP p ρ).toNat = n) (hq : L[n]? = some q) (hp : L'[φ x]? = some p') (hi : p'.ins = p.ins ++ q.ins) (he : p'.e = q.e) (hc : q.e = true → p'.cond = q.cond) (hx : q.e = false → ∀ ρ', Aft (p.ins ++ q.ins) ρ' → (nextP p' ρ').toNat = φ (nextP q ρ').toNat ∧ Live (nextP q ρ').toNat) : Alt L L' φ Live x p
theorem PK_gen {L L' : List PP} {φ : Nat → Nat} {Live : Nat → Prop} (hA : ∀ x p, Live x → L[x]? = some p → Alt L L' φ Live x p) {a : Nat} (ha : Live a) : PK L a L' (φ a) := by
 intro fu fuel1 keep cf1 cf2 h1 h2
 have key : ∀ (g1 a : Nat) (ρ : Rg) (s1 s2 : St) (v : Int) (t : St), Live a → PR cf1 fuel1 keep L g1 a ρ s1 = .ok v t → SE s1 s2 → t.n ≤ fu → ∀ g2, fu + 1 ≤ g2 + s2.n → s1.n + 1 ≤ t.n ∧ ∃ t2, PR cf2 fu keep L' g2 (φ a) ρ s2 = .ok v t2 ∧ SE t t2 := by
  intro g1
  induction g1 using Nat.strongRecOn with
  | _ g1 ih =>
   intro a ρ s1 s2 v t ha hr he hn g2 hg
   obtain ⟨g0, p, ρ1, s3, rfl, hp, hi, hor⟩ := PR_ok hr
   -- the steps grow, whatever comes
   have hmono : ∀ (g a : Nat) (ρ : Rg) (s t : St) (v : Int), PR cf1 fuel1 keep L g a ρ s = .ok v t → t.n ≤ fu → s.n + 1 ≤ t.n := by
    intro g
    induction g with
    | zero => intro a ρ s t v h; cases h
    | succ g ih =>
     intro a ρ s t v h hn
     obtain ⟨g0, p, ρ1, s3, e, hp, hi, hor⟩ := PR_ok h
     have e : g = g0 := by omega
     subst e
     rcases hor with ⟨-, -, rfl⟩ | ⟨-, h⟩
     ·have := (insR_sim h1 _ (SE.refl s) hi (by show s3.n ≤ fu; have : s3.up.n = s3.n + 1 := rfl; omega)).1
      show s.n + 1 ≤ s3.n + 1
      omega
     ·have h5 := ih _ _ _ _ _ h hn
      have h6 : s3.up.n = s3.n + 1 := rfl
      have := (insR_sim h1 _ (SE.refl s) hi (by omega)).1
      omega
   have h3 : s3.n + 1 ≤ t.n := by
    rcases hor with ⟨-, -, rfl⟩ | ⟨-, h⟩
    ·exact Nat.le_refl _
    ·have := hmono _ _ _ _ _ _ h hn
     have h6 : s3.up.n = s3.n + 1 := rfl
     omega
   rcases hA a p ha hp with ⟨he0, hi0, hl⟩ | ⟨p', hp', hi', he', hc', hx'⟩ | ⟨n, q, p', he0, h0, hq, hp', hi', he', hc', hx'⟩
   ·rcases hor with ⟨q, -⟩ | ⟨-, h⟩
    ·rw [he0] at q; cases q
    ·rw [hi0] at hi
     injection hi with e1 e2
     subst e1; subst e2
     obtain ⟨l1, l2⟩ := hl ρ
     obtain ⟨e3, t2, e4, e5⟩ := ih g0 (Nat.lt_succ_self _) _ ρ s1.up s2 v t l2 h he.up1 hn g2 hg
     rw [l1] at e4
     exact ⟨by have : s1.up.n = s1.n + 1 := rfl; omega, t2, e4, e5⟩
   ·obtain ⟨e1, t2, e2, e3⟩ := insR_sim h1 p.ins he hi (by omega)
    have hg2 : ∃ g, g2 = g + 1 := ⟨g2 - 1, by have := he.n; omega⟩
    obtain ⟨g, rfl⟩ := hg2
    have hi2 : insR cf2 fu keep p'.ins ρ s2 = .ok ρ1 t2 := by rw [hi']; exact e2
    have hm2 : s2.n ≤ t2.n := (insR_sim h2 p.ins (SE.refl s2) e2 (by have := e3.n; omega)).1
    have hne : t2.n ≠ fu := by have := e3.n; omega
    rcases hor with ⟨q, rfl, rfl⟩ | ⟨q, h⟩
    ·refine ⟨by show s1.n + 1 ≤ s3.n + 1; omega, _, PR_end hp' hi2 hne (by rw [he']; exact q) |>.trans ?_, e3.up⟩
     rw [hc' q]
    ·obtain ⟨x1, x2⟩ := hx' q ρ1 ⟨cf1, fuel1, keep, ρ, s1, s3, hi⟩
     obtain ⟨e4, t3, e5, e6⟩ := ih g0 (Nat.lt_succ_self _) _ ρ1 s3.up t2.up v t x2 h e3.up hn g (by show fu + 1 ≤ g + (t2.n + 1); omega)
     refine ⟨by omega, t3, ?_, e6⟩
     rw [PR_go hp' hi2 hne (by rw [he']; exact q), x1]
     exact e5
   ·rcases hor with ⟨q, -⟩ | ⟨-, h⟩
    ·rw [he0] at q; cases q
    ·rw [h0 ρ1] at h
     obtain ⟨g9, q9, ρ2, s4, e9, hq9, hi9, hor9⟩ := PR_ok h
     rw [hq] at hq9
     injection hq9 with hq9
     subst hq9
     have h4 : s4.n + 1 ≤ t.n := by
      rcases hor9 with ⟨-, -, rfl⟩ | ⟨-, h⟩
      ·exact Nat.le_refl _
      ·have := hmono _ _ _ _ _ _ h hn
       have h6 : s4.up.n = s4.n + 1 := rfl
       omega
     obtain ⟨e1, t2, e2, e3⟩ := insR_sim h1 p.ins he hi (by omega)
     obtain ⟨f1, t3, f2, f3⟩ := insR_sim h1 q.ins e3.up1 hi9 (by omega)
     have hii : insR cf2 fu keep p'.ins ρ s2 = .ok ρ2 t3 := by
      rw [hi', insR_app, e2]
      exact f2
     have hm2 : s2.n ≤ t3.n := (insR_sim h2 _ (SE.refl s2) hii (by have := f3.n; omega)).1
     have hne : t3.n ≠ fu := by have := f3.n; omega
     have hs3 : s3.up.n = s3.n + 1 := rfl
     have hg2 : ∃ g, g2 = g + 1 := ⟨g2 - 1, by have := he.n; omega⟩
     obtain ⟨g, rfl⟩ := hg2
     rcases hor9 with ⟨qe, rfl, rfl⟩ | ⟨qe, h⟩
     ·refine ⟨by show s1.n + 1 ≤ s4.n + 1; omega, _, PR_end hp' hii hne (by rw [he']; exact qe) |>.trans ?_, f3.up⟩
      rw [hc' qe]
     ·obtain ⟨x1, x2⟩ := hx' qe ρ2 ⟨cf2, fu, keep, ρ, s2, t3, by rw [← hi']; exact hii⟩
      obtain ⟨e4, t4, e5, e6⟩ := ih g9 (by omega) _ ρ2 s4.up t3.up v t x2 h f3.up hn g (by show fu + 1 ≤ g + (t3.n + 1); omega)
      refine ⟨by omega, t4, ?_, e6⟩
      rw [PR_go hp' hii hne (by rw [he']; exact qe), x1]
      exact e5
 intro g1 ρ s1 s2 v t hr he hn g2 hg
 exact key g1 a ρ s1 s2 v t ha hr he hn g2 hg
theorem PK.refl (L : List PP) (a : Nat) : PK L a L a :=
 PK_gen (φ := id) (Live := fun _ => True) (fun x p _ hp => .exec p hp rfl rfl (fun _ => rfl) (fun _ ρ' _ => ⟨rfl, trivial⟩)) trivial
end Go.Proofs.Ytphknepblchkdaa.Fl

namespace Go.Proofs.Ytphknepblchkdaa.Fl
open Go.RowKit
set_option linter.unusedVariables false

def hdA (s : Cs) (r : Nat) : Nat := (s.hd[r]?).getD 0
def frA (s : Cs) (r : Nat) : List Nat := (s.fr[r]?).getD []
theorem hdOf_A (s : Cs) (x : Nat) : hdOf s x = hdA s (s.rt x) := rfl
theorem next_ways {p : PP} (he : p.e = false) : p.next.toNat ∈ waysN p := by
 unfold waysN
 rw [he]
 by_cases h : p.cond < 0 <;> simp [h]
theorem ends_ways {s : Cs} {p : PP} {r : Nat} (h1 : (s.ends p).1 = r) (h2 : (s.ends p).2 = r) : ∀ y ∈ waysN p, s.rt y = r := fun y hy => by
 unfold waysN at hy
 unfold Cs.ends at h1 h2
 dsimp only at h1 h2
 split at hy
 ·cases hy
 ·split at hy
  ·have e := List.mem_singleton.1 hy
   rw [e]; exact h1
  ·rename_i hc
   rw [if_neg hc] at h2
   simp at hy
   rcases hy with rfl | rfl
   ·exact h1
   ·exact h2
theorem ways_ends {s : Cs} {p : PP} {r : Nat} (he : p.e = false) (h : ∀ y ∈ waysN p, s.rt y = r) : (s.ends p).1 = r ∧ (s.ends p).2 = r := by
 have h1 : s.rt p.next.toNat = r := h _ (next_ways he)
 unfold Cs.ends
 refine ⟨h1, ?_⟩
 dsimp only
 split
 ·exact h1
 ·rename_i hc
  refine h _ ?_
  unfold waysN
  rw [he]
  simp [hc]
/-- What holds of classes; T: those that are still to be looked at. -/
structure CI (L : List PP) (N : Nat) (T : Nat → Prop) (s : Cs) : Prop where
 hr : ∀ x, x < N → s.rt (hdA s (s.rt x)) = s.rt x
 ld : ∀ x, x < N → x ≠ hdOf s x → ∃ p, L[x]? = some p ∧ p.e = false ∧ p.ins = [] ∧ ∀ y ∈ waysN p, s.rt y = s.rt x
 td : ∀ n p, L[n]? = some p → p.e = false → p.ins = [] → T n ∨ (s.ends p).1 ≠ (s.ends p).2 ∨ (s.ends p).1 = s.rt n
 fr : ∀ n p, L[n]? = some p → p.e = false → p.ins = [] → (s.ends p).1 ≠ (s.ends p).2 → n ∈ frA s (s.rt p.next.toNat) ∧ n ∈ frA s (s.rt p.els.toNat)
theorem CI.one {L : List PP} {N : Nat} {s : Cs} {a b own nx n : Nat} {p : PP} (h : CI L N (fun m => m ∈ s.td ∨ m = n) s) (g : Gd L N s) (hab : (a = own ∧ b = nx) ∨ (a = nx ∧ b = own)) (hne : own ≠ nx) (ho : own < N) (hx : nx < N) (ro : s.rt own = own) (rx : s.rt nx = nx)
  (hn : n < N) (rn : s.rt n = own) (hp : L[n]? = some p) (he : p.e = false) (hi : p.ins = []) (e1 : (s.ends p).1 = nx) (e2 : (s.ends p).2 = nx) : CI L N (fun m => m ∈ (s.one a b (hdA s nx)).td) (s.one a b (hdA s nx)) := by
 have hnab : a ≠ b := by rcases hab with ⟨rfl, rfl⟩ | ⟨rfl, rfl⟩; exact hne; exact fun e => hne e.symm
 have hb : b < N := by rcases hab with ⟨rfl, rfl⟩ | ⟨rfl, rfl⟩ <;> assumption
 have ha : a < N := by rcases hab with ⟨rfl, rfl⟩ | ⟨rfl, rfl⟩ <;> assumption
 have rt' : ∀ x, (s.one a b (hdA s nx)).rt x = if s.rt x = a then b else s.rt x := fun x => rfl
 have inM : ∀ x, s.rt x = own ∨ s.rt x = nx → (s.one a b (hdA s nx)).rt x = b := fun x hx => by
  rw [rt']
  rcases hab with ⟨rfl, rfl⟩ | ⟨rfl, rfl⟩
  ·rcases hx with e | e
   ·rw [if_pos e]
   ·rw [if_neg (by rw [e]; exact fun q => hne q.symm), e]
  ·rcases hx with e | e
   ·rw [if_neg (by rw [e]; exact hne), e]
   ·rw [if_pos e]
 have outM : ∀ x, ¬ (s.rt x = own ∨ s.rt x = nx) → (s.one a b (hdA s nx)).rt x = s.rt x ∧ s.rt x ≠ a ∧ s.rt x ≠ b := fun x hx => by
  have h1 : s.rt x ≠ a := fun e => hx (by rcases hab with ⟨rfl, rfl⟩ | ⟨rfl, rfl⟩; exact .inl e; exact .inr e)
  have h2 : s.rt x ≠ b := fun e => hx (by rcases hab with ⟨rfl, rfl⟩ | ⟨rfl, rfl⟩; exact .inr e; exact .inl e)
  exact ⟨by rw [rt', if_neg h1], h1, h2⟩
 have same : ∀ x y, s.rt x = s.rt y → (s.one a b (hdA s nx)).rt x = (s.one a b (hdA s nx)).rt y := fun x y e => by rw [rt', rt', e]
 have hdb : hdA (s.one a b (hdA s nx)) b = hdA s nx := by
  show (((s.hd.set b (hdA s nx))[b]?).getD 0) = _
  rw [List.getElem?_set_self (by rw [g.hd]; exact hb)]
  rfl
 have hdo : ∀ r, r ≠ b → hdA (s.one a b (hdA s nx)) r = hdA s r := fun r hr => by
  show (((s.hd.set b (hdA s nx))[r]?).getD 0) = _
  rw [List.getElem?_set_ne (fun e => hr e.symm)]
  rfl
 have hend : ∀ q : PP, (s.ends q).1 = (s.ends q).2 → ((s.one a b (hdA s nx)).ends q).1 = ((s.one a b (hdA s nx)).ends q).2 := fun q hq => by
  unfold Cs.ends at hq ⊢
  dsimp only at hq ⊢
  split
  ·rfl
  ·rename_i hc
   rw [if_neg hc] at hq
   exact same _ _ hq
 have hnh : n = hdOf s n := Classical.byContradiction fun q => by
  obtain ⟨p2, hp2, -, -, hw⟩ := h.ld n hn q
  rw [hp] at hp2; injection hp2 with hp2; subst hp2
  have := hw _ (next_ways he)
  rw [rn] at this
  exact hne (this.symm.trans e1)
 obtain ⟨la, hla⟩ := flat_get (l := s.fr) (i := a) (by rw [g.fr]; exact ha)
 obtain ⟨lb, hlb⟩ := flat_get (l := s.fr) (i := b) (by rw [g.fr]; exact hb)
 have fa : frA s a = la := by unfold frA; rw [hla]; rfl
 have fb : frA s b = lb := by unfold frA; rw [hlb]; rfl
 have ef : (s.one a b (hdA s nx)).fr = (s.fr.set b (lb ++ la)).set a [] := by unfold Cs.one; simp only [hla, hlb, Option.getD_some]
 have et : (s.one a b (hdA s nx)).td = s.td ++ la := by unfold Cs.one; simp only [hla, Option.getD_some]
 have frb : frA (s.one a b (hdA s nx)) b = lb ++ la := by
  unfold frA
  rw [ef, List.getElem?_set_ne hnab, List.getElem?_set_self (by rw [g.fr]; exact hb)]
  rfl
 have fro : ∀ r, r ≠ a → r ≠ b → frA (s.one a b (hdA s nx)) r = frA s r := fun r h1 h2 => by
  unfold frA
  rw [ef, List.getElem?_set_ne (fun e => h1 e.symm), List.getElem?_set_ne (fun e => h2 e.symm)]
 refine ⟨fun x hxN => ?_, fun x hxN hxh => ?_, fun m q hq hqe hqi => ?_, fun m q hq hqe hqi hd => ?_⟩
 ·by_cases hm : s.rt x = own ∨ s.rt x = nx
  ·rw [inM x hm, hdb]
   have := h.hr nx hx
   rw [rx] at this
   exact inM _ (.inr this)
  ·obtain ⟨o1, o2, o3⟩ := outM x hm
   rw [o1, hdo _ o3]
   have := h.hr x hxN
   obtain ⟨o4, -, -⟩ := outM (hdA s (s.rt x)) (by rw [this]; exact hm)
   rw [o4, this]
 ·by_cases hm : s.rt x = own ∨ s.rt x = nx
  ·rw [hdOf_A, inM x hm, hdb] at hxh
   by_cases hxo : x = hdOf s x
   ·rcases hm with e | e
    ·have hxn : x = n := by
      rw [hxo, hdOf_A, e, ← rn, ← hdOf_A, ← hnh]
     subst hxn
     refine ⟨p, hp, he, hi, fun y hy => ?_⟩
     rw [inM y (.inr (ends_ways e1 e2 y hy)), inM x (.inl rn)]
    ·rw [hdOf_A, e] at hxo
     exact absurd hxo hxh
   ·obtain ⟨p2, hp2, h3, h4, h5⟩ := h.ld x hxN hxo
    exact ⟨p2, hp2, h3, h4, fun y hy => same _ _ (h5 y hy)⟩
  ·obtain ⟨o1, o2, o3⟩ := outM x hm
   rw [hdOf_A, o1, hdo _ o3] at hxh
   obtain ⟨p2, hp2, h3, h4, h5⟩ := h.ld x hxN hxh
   exact ⟨p2, hp2, h3, h4, fun y hy => same _ _ (h5 y hy)⟩
 ·by_cases hmn : m = n
  ·subst hmn
   rw [hp] at hq; injection hq with hq; subst hq
   refine .inr (.inr ?_)
   have hw : ∀ y ∈ waysN p, (s.one a b (hdA s nx)).rt y = b := fun y hy => inM y (.inr (ends_ways e1 e2 y hy))
   rw [(ways_ends he hw).1, inM m (.inl rn)]
  ·rcases h.td m q hq hqe hqi with (ht | ht) | ht | ht
   ·exact .inl (by rw [et]; exact List.mem_append_left _ ht)
   ·exact absurd ht hmn
   ·by_cases hs : ((s.one a b (hdA s nx)).ends q).1 = ((s.one a b (hdA s nx)).ends q).2
    ·-- they have become one
     obtain ⟨f1, f2⟩ := h.fr m q hq hqe hqi ht
     refine .inl ?_
     rw [et]
     refine List.mem_append_right _ ?_
     have hc : ¬ q.cond < 0 := fun hc => ht (by unfold Cs.ends; simp [hc])
     unfold Cs.ends at hs ht
     dsimp only at hs ht
     rw [if_neg hc] at hs ht
     rw [rt', rt'] at hs
     by_cases ha1 : s.rt q.next.toNat = a
     ·rw [ha1, fa] at f1; exact f1
     ·by_cases ha2 : s.rt q.els.toNat = a
      ·rw [ha2, fa] at f2; exact f2
      ·rw [if_neg ha1, if_neg ha2] at hs
       exact absurd hs ht
    ·exact .inr (.inl hs)
   ·exact .inr (.inr (same _ _ ht))
 ·have hd0 : (s.ends q).1 ≠ (s.ends q).2 := fun e => hd (hend q e)
  obtain ⟨f1, f2⟩ := h.fr m q hq hqe hqi hd0
  have mv : ∀ x, m ∈ frA s (s.rt x) → m ∈ frA (s.one a b (hdA s nx)) ((s.one a b (hdA s nx)).rt x) := fun x hf => by
   by_cases ha1 : s.rt x = a
   ·rw [rt', if_pos ha1, frb]
    rw [ha1, fa] at hf
    exact List.mem_append_right _ hf
   ·rw [rt', if_neg ha1]
    by_cases hb1 : s.rt x = b
    ·rw [hb1, frb]
     rw [hb1, fb] at hf
     exact List.mem_append_left _ hf
    ·rw [fro _ ha1 hb1]
     exact hf
  exact ⟨mv _ f1, mv _ f2⟩
theorem dropLast_mem {l : List Nat} {n m : Nat} (h : l.getLast? = some n) (hm : m ∈ l) : m ∈ l.dropLast ∨ m = n := by
 obtain ⟨ys, rfl⟩ := List.getLast?_eq_some_iff.1 h
 rw [List.dropLast_concat]
 rcases List.mem_append.1 hm with h | h
 ·exact .inl h
 ·exact .inr (List.mem_singleton.1 h)
theorem CI.step {L : List PP} {N : Nat} {s : Cs} (h : CI L N (fun m => m ∈ s.td) s) (g : Gd L N s) (hL : L.length = N) (hw : WyL L) {n : Nat} (hn : s.td.getLast? = some n) : CI L N (fun m => m ∈ (s.pop.look L n).td) (s.pop.look L n) := by
 obtain ⟨p, hp, he, hi0⟩ := g.td n (List.mem_of_getLast? hn)
 have hi : p.ins = [] := List.eq_nil_of_length_eq_zero hi0
 have hnl : n < N := by have := (List.getElem?_eq_some_iff.1 hp).1; omega
 have hp0 : CI L N (fun m => m ∈ s.pop.td ∨ m = n) s.pop := ⟨h.hr, h.ld, fun m q a b c => (h.td m q a b c).imp (fun d => dropLast_mem hn d) id, h.fr⟩
 have hwy := hw p (List.mem_of_getElem? hp)
 have hnx := hwy.nx he
 have b1 : (s.ends p).1 < N := g.rl p.next.toNat (by omega)
 have b2 : s.rt (s.ends p).1 = (s.ends p).1 := g.rr p.next.toNat (by omega)
 unfold Cs.look
 rw [hp]
 dsimp only
 split
 ·rename_i q
  obtain ⟨q1, q2⟩ := q
  have a1 := g.rl n hnl
  have a2 := g.rr n hnl
  unfold Cs.unite
  split
  ·exact CI.one (s := s.pop) hp0 g.pop (.inr ⟨rfl, rfl⟩) (fun e => q2 e.symm) a1 b1 a2 b2 hnl rfl hp he hi rfl q1.symm
  ·exact CI.one (s := s.pop) hp0 g.pop (.inl ⟨rfl, rfl⟩) (fun e => q2 e.symm) a1 b1 a2 b2 hnl rfl hp he hi rfl q1.symm
 ·rename_i q
  refine ⟨h.hr, h.ld, fun m r a b c => ?_, h.fr⟩
  rcases hp0.td m r a b c with (d | d) | d
  ·exact .inl d
  ·subst d
   rw [hp] at a; injection a with a; subst a
   by_cases e : (s.ends p).1 = (s.ends p).2
   ·refine .inr (.inr ?_)
    exact Classical.byContradiction fun f => q ⟨e, f⟩
   ·exact .inr (.inl e)
  ·exact .inr d
theorem loop_ci {L : List PP} {N : Nat} (hL : L.length = N) (hw : WyL L) : ∀ (m : Nat) (s : Cs), s.mu ≤ m → Gd L N s → CI L N (fun m => m ∈ s.td) s → CI L N (fun _ => False) (s.loop L)
 | m, s, hm, g, h => by
  cases htd : s.td.getLast? with
  | none =>
   rw [loop_end L s htd]
   have e : s.td = [] := List.getLast?_eq_none_iff.1 htd
   exact ⟨h.hr, h.ld, fun n p a b c => (h.td n p a b c).imp (fun d => by rw [e] at d; cases d) id, h.fr⟩
  | some n =>
   obtain ⟨-, g1, m1, l1⟩ := g.step hL hw htd
   rw [l1]
   match m, hm with
   | 0, hm => omega
   | m + 1, hm => exact loop_ci hL hw m _ (by omega) g1 (h.step g hL hw htd)
theorem updL_mem {l : List (List Nat)} {m k r n : Nat} (h : n ∈ (l[r]?).getD []) : n ∈ ((updL l m k)[r]?).getD [] := by
 unfold updL
 by_cases e : r = m
 ·subst e
  by_cases hr : r < l.length
  ·rw [List.getElem?_set_self hr]
   exact List.mem_append_left _ h
  ·rw [List.getElem?_eq_none (by omega)] at h; cases h
 ·rw [List.getElem?_set_ne (fun q => e q.symm)]
  exact h
theorem updL_new {l : List (List Nat)} {m k : Nat} (h : m < l.length) : k ∈ ((updL l m k)[m]?).getD [] := by
 unfold updL
 rw [List.getElem?_set_self h]
 exact List.mem_append_right _ (List.mem_singleton.2 rfl)
structure BI (L : List PP) (k : Nat) (s : Cs) : Prop where
 hd : ∀ x, x < k → s.hd[x]? = some x
 td : ∀ n p, n < k → L[n]? = some p → p.e = false → p.ins = [] → n ∈ s.td
 fr : ∀ n p, n < k → L[n]? = some p → p.e = false → p.ins = [] → ¬ p.cond < 0 → n ∈ frA s p.next.toNat ∧ n ∈ frA s p.els.toNat
theorem begTo_bi {L : List PP} (hw : WyL L) : ∀ k, k ≤ L.length → BI L k (Cs.begTo L k)
 | 0, _ => ⟨fun x h => absurd h (Nat.not_lt_zero _), fun n p h => absurd h (Nat.not_lt_zero _), fun n p h => absurd h (Nat.not_lt_zero _)⟩
 | k + 1, hk => by
  have ih := begTo_bi hw k (by omega)
  obtain ⟨g, -, -, -⟩ := begTo_gd hw k (by omega)
  obtain ⟨p, hp⟩ := get_of_lt (l := L) (k := k) (by omega)
  have e : Cs.begTo L (k + 1) = (Cs.begTo L k).begS k p := by
   show (match L[k]? with | some p => (Cs.begTo L k).begS k p | none => Cs.begTo L k) = _
   rw [hp]
  rw [e]
  generalize Cs.begTo L k = s at *
  have hhd : ∀ x, x < k + 1 → (s.hd.set k k)[x]? = some x := fun x hx => by
   by_cases e : x = k
   ·subst e
    rw [List.getElem?_set_self (by rw [g.hd]; omega)]
   ·rw [List.getElem?_set_ne (fun q => e q.symm)]
    exact ih.hd x (by omega)
  unfold Cs.begS
  split
  ·rename_i q
   have hno : ∀ n (p' : PP), n < k + 1 → L[n]? = some p' → p'.e = false → p'.ins = [] → n < k := fun n p' h1 h2 h3 h4 => by
    by_cases e : n = k
    ·subst e
     rw [hp] at h2; injection h2 with h2; subst h2
     rcases q with q | q
     ·rw [h3] at q; cases q
     ·rw [h4] at q; cases q
    ·omega
   exact ⟨hhd, fun n p' h1 h2 h3 h4 => ih.td n p' (hno n p' h1 h2 h3 h4) h2 h3 h4, fun n p' h1 h2 h3 h4 => ih.fr n p' (hno n p' h1 h2 h3 h4) h2 h3 h4⟩
  ·refine ⟨hhd, fun n p' h1 h2 h3 h4 => ?_, fun n p' h1 h2 h3 h4 h5 => ?_⟩
   ·by_cases e : n = k
    ·subst e; exact List.mem_append_right _ (List.mem_singleton.2 rfl)
    ·exact List.mem_append_left _ (ih.td n p' (by omega) h2 h3 h4)
   ·unfold frA
    dsimp only
    by_cases e : n = k
    ·subst e
     rw [hp] at h2; injection h2 with h2; subst h2
     have hb : brP p = true := by unfold brP; rw [h3]; simp; omega
     rw [if_pos hb]
     have hwy := hw p (List.mem_of_getElem? hp)
     have n1 := hwy.nx h3
     have n2 := hwy.el h3 (by omega)
     refine ⟨updL_mem (updL_new (by rw [g.fr]; omega)), updL_new ?_⟩
     show _ < (updL s.fr p.next.toNat n).length
     unfold updL
     rw [List.length_set, g.fr]
     omega
    ·obtain ⟨f1, f2⟩ := ih.fr n p' (by omega) h2 h3 h4 h5
     split
     ·exact ⟨updL_mem (updL_mem f1), updL_mem (updL_mem f2)⟩
     ·exact ⟨f1, f2⟩
/-- At the end. -/
theorem endC_ci {L : List PP} (hw : WyL L) : CI L L.length (fun _ => False) (endC L) := by
 obtain ⟨g, hrt, -, -⟩ := begTo_gd hw L.length (Nat.le_refl _)
 have hb := begTo_bi hw L.length (Nat.le_refl _)
 refine loop_ci rfl hw _ _ (Nat.le_refl _) g ⟨fun x hx => ?_, fun x hx hxh => ?_, fun n p h1 h2 h3 => .inl (hb.td n p (List.getElem?_eq_some_iff.1 h1).1 h1 h2 h3), fun n p h1 h2 h3 h4 => ?_⟩
 ·rw [hrt]
  show hdA _ x = x
  unfold hdA
  rw [hb.hd x hx]; rfl
 ·refine absurd ?_ hxh
  rw [hdOf_A, hrt]
  show x = hdA _ x
  unfold hdA
  rw [hb.hd x hx]; rfl
 ·have hc : ¬ p.cond < 0 := fun hc => h4 (by unfold Cs.ends; simp [hc])
  rw [hrt]
  exact hb.fr n p (List.getElem?_eq_some_iff.1 h1).1 h1 h2 h3 hc
end Go.Proofs.Ytphknepblchkdaa.Fl

namespace Go.Proofs.Ytphknepblchkdaa.Fl
open Go.RowKit
open Go.Proofs.Ytphknepblchkdaa.In (zI zP zF zI_zI zP_zP cntS cntS_fnN len_cnt)
set_option linter.unusedVariables false

/-! ### One part is put behind another one, again and again -/
def putP (F : KF) (p q : PP) : PP := match F q.cond with | some v => if brP q = true then goP (catP p q) (wayP q (v != 0)) else catP p q | none => catP p q
theorem putP_ins (F : KF) (p q : PP) : (putP F p q).ins = p.ins ++ q.ins := by
 unfold putP
 split
 ·split <;> rfl
 ·rfl
theorem put_ps {s : Jn} {F : KF} {k n : Nat} {p q : PP} (hp : s.ps[k]? = some p) (hq : s.ps[n]? = some q) : (s.put F k n).ps = s.ps.set k (putP F p q) ∧ ∀ m, wsN (s.put F k n).ws m ≤ wsN (s.ws.set n 0) m := by
 unfold Jn.put putP
 rw [hp, hq]
 dsimp only
 cases F q.cond with
 | none => exact ⟨rfl, fun m => Nat.le_refl _⟩
 | some v =>
  dsimp only
  split
  ·exact ⟨rfl, fun m => losP_le _ m _ _ _ (Nat.le_refl _)⟩
  ·exact ⟨rfl, fun m => Nat.le_refl _⟩
theorem lrnL_app (F : KF) (l m : List PI) : lrnL F (l ++ m) = lrnL (lrnL F l) m := by unfold lrnL; rw [List.foldl_append]
theorem len_ind {P : Jn → Prop} {first k : Nat} (hstep : ∀ s n p q, P s → WI s.ps first s.ws [] → WyL s.ps → aloP s.ps s.ws k = some n → s.ps[k]? = some p → s.ps[n]? = some q → P (s.put (lrnL (fun _ => none) (p.ins ++ q.ins)) k n)) :
  ∀ (m : Nat) (s : Jn) (F : KF), s.ws.sum ≤ m → P s → WI s.ps first s.ws [] → WyL s.ps → (∀ p, s.ps[k]? = some p → F = lrnL (fun _ => none) p.ins) → P (lenP s F k) ∧ WI (lenP s F k).ps first (lenP s F k).ws [] ∧ WyL (lenP s F k).ps
 | m, s, F, hm, hP, hw, hy, hF => by
  cases ha : aloP s.ps s.ws k with
  | none => rw [lenP_none ha]; exact ⟨hP, hw, hy⟩
  | some n =>
   rw [lenP_some hw hy ha]
   obtain ⟨p, hp, -, hne, hkw, hn1⟩ := aloP_inv ha
   have hnl : n < s.ps.length := by
    rw [← hw.len]
    by_cases e : n < s.ws.length
    ·exact e
    ·unfold wsN at hn1; rw [List.getElem?_eq_none (by omega)] at hn1; simp at hn1
   obtain ⟨q, hq⟩ := get_of_lt hnl
   have hkl := (List.getElem?_eq_some_iff.1 hp).1
   have e1 : lrnL F (ptN s.ps n).ins = lrnL (fun _ => none) (p.ins ++ q.ins) := by rw [ptN_get hq, hF p hp, lrnL_app]
   rw [e1]
   obtain ⟨w1, w2, w3, w4⟩ := Jn.put_WI (F := lrnL (fun _ => none) (p.ins ++ q.ins)) hw hy ha
   have hP2 := hstep s n p q hP hw hy ha hp hq
   match m, hm with
   | 0, hm => omega
   | m + 1, hm =>
    refine len_ind hstep m _ _ (by omega) hP2 w1 w2 (fun r hr => ?_)
    rw [(put_ps hp hq).1, List.getElem?_set_self hkl] at hr
    injection hr with hr
    rw [← hr, putP_ins]
theorem joi_ind {P : Jn → Prop} {first : Nat} (hstep : ∀ s k n p q, P s → WI s.ps first s.ws [] → WyL s.ps → aloP s.ps s.ws k = some n → s.ps[k]? = some p → s.ps[n]? = some q → P (s.put (lrnL (fun _ => none) (p.ins ++ q.ins)) k n)) {s : Jn} (hP : P s) (hw : WI s.ps first s.ws []) (hy : WyL s.ps) :
  ∀ k, P (joiTo s k) ∧ WI (joiTo s k).ps first (joiTo s k).ws [] ∧ WyL (joiTo s k).ps
 | 0 => ⟨hP, hw, hy⟩
 | k + 1 => by
  obtain ⟨h1, h2, h3⟩ := joi_ind hstep hP hw hy k
  unfold joiTo
  split
  ·exact ⟨h1, h2, h3⟩
  ·unfold lngP
   refine len_ind (fun s n p q => hstep s k n p q) _ _ _ (Nat.le_refl _) h1 h2 h3 (fun p hp => ?_)
   rw [hp]; rfl

/-! ### Ways are counted -/
section
variable {L : List PP} {ws : List Nat} {first : Nat}
theorem lvF_pos {x y : Nat} {p : PP} (hx : wsN ws x ≠ 0) (hp : L[x]? = some p) (hy : y ∈ waysN p) : 1 ≤ lvF L ws y x := by
 unfold lvF
 rw [if_pos hx, ptN_get hp]
 exact List.count_pos_iff.2 hy
theorem live_way (h : WI L first ws []) (hw : WyL L) {x y : Nat} {p : PP} (hx : wsN ws x ≠ 0) (hp : L[x]? = some p) (hy : y ∈ waysN p) : wsN ws y ≠ 0 := by
 have hyl := (hw p (List.mem_of_getElem? hp)).ways y hy
 have h1 := lvF_pos hx hp hy
 have h2 : lvF L ws y x ≤ lvS L ws y := sum_pos (f := lvF L ws y) (List.getElem?_eq_some_iff.1 hp).1
 have := h.eq y hyl
 omega
theorem live_first (h : WI L first ws []) (hf : first < L.length) : wsN ws first ≠ 0 := by
 have := h.eq first hf
 rw [if_pos rfl] at this
 omega
end
theorem aloP_on {L : List PP} {ws : List Nat} {k n : Nat} {p : PP} (ha : aloP L ws k = some n) (hp : L[k]? = some p) : p.e = false ∧ p.cond < 0 ∧ p.next.toNat = n ∧ n ≠ k := by
 unfold aloP at ha
 rw [hp] at ha
 dsimp only at ha
 split at ha
 ·rename_i q
  injection ha with ha
  have h1 := q.1
  unfold onP at h1
  simp at h1
  exact ⟨h1.1, h1.2, ha, by rw [← ha]; exact q.2.1⟩
 ·cases ha

/-! ### Each pass -/
theorem lrn_last (r : Int) : ∀ (l : List PI), lrnL (fun _ => none) l r = match lastI l r with | some x => if x.op = 20 then some x.imm else none | none => none := by
 have key : ∀ (l : List PI), lrnL (fun _ => none) l.reverse r = match lastI l.reverse r with | some x => if x.op = 20 then some x.imm else none | none => none := by
  intro l
  induction l with
  | nil => rfl
  | cons x l ih =>
   rw [List.reverse_cons, lrnL_app]
   have e1 : lastI (l.reverse ++ [x]) r = if wrP x.op = true ∧ x.dst = r then some x else lastI l.reverse r := by
    unfold lastI
    rw [List.reverse_append, List.reverse_reverse, List.reverse_singleton, List.singleton_append, List.find?_cons]
    by_cases h : wrP x.op = true ∧ x.dst = r
    ·rw [if_pos h]
     have : (wrP x.op && x.dst == r) = true := by simp [h.1, h.2]
     rw [this]
    ·rw [if_neg h]
     have : (wrP x.op && x.dst == r) = false := by
      cases hw : wrP x.op with
      | false => rfl
      | true => simp; exact fun e => h ⟨hw, e⟩
     rw [this]
   rw [e1]
   show lrnI (lrnL (fun _ => none) l.reverse) x r = _
   unfold lrnI
   by_cases hw : wrP x.op = true
   ·rw [if_pos hw]
    by_cases h20 : x.op = 20
    ·rw [if_pos h20]
     unfold updK
     by_cases hd : r = x.dst
     ·rw [if_pos hd, if_pos ⟨hw, hd.symm⟩]
      dsimp only
      rw [if_pos h20]
     ·rw [if_neg hd, if_neg (fun q => hd q.2.symm)]
      exact ih
    ·rw [if_neg h20]
     unfold updK
     by_cases hd : r = x.dst
     ·rw [if_pos hd, if_pos ⟨hw, hd.symm⟩]
      dsimp only
      rw [if_neg h20]
     ·rw [if_neg hd, if_neg (fun q => hd q.2.symm)]
      exact ih
   ·rw [if_neg hw, if_neg (fun q => hw q.1)]
    exact ih
 intro l
 have := key l.reverse
 rw [List.reverse_reverse] at this
 exact this
theorem brP_on {p : PP} (h : brP p = true) : p.e = false ∧ 0 ≤ p.cond := by
 unfold brP at h
 simpa using h
theorem mem_ord {L : List PP} {first x : Nat} (hx : x < L.length) (h : Rch L first x) : x ∈ ordL L first := by
 unfold ordL ordTo
 by_cases e : x = first
 ·subst e; exact List.mem_cons_self ..
 ·refine List.mem_cons_of_mem _ (List.mem_filter.2 ⟨List.mem_range.2 hx, ?_⟩)
  rw [rchB_iff.2 h]
  simpa using e
theorem idx_get {l : List Nat} {x : Nat} (h : x ∈ l) : l[numL l x]? = some x := by
 unfold numL
 rw [if_pos h]
 have h1 := List.idxOf_lt_length_iff.2 h
 rw [List.getElem?_eq_getElem h1]
 congr 1
 exact List.getElem_idxOf h1
theorem ino_get {L : List PP} {first x : Nat} {p : PP} (hw : WyL L) (hf : first < L.length) (h : Rch L first x) (hp : L[x]? = some p) : (inoP L first)[numL (ordL L first) x]? = some (renP (ordL L first) p) := by
 unfold inoP
 rw [List.getElem?_map, idx_get (mem_ord (h.lt hw hf) h)]
 show some (renP (ordL L first) ((L[x]?).getD zeroP)) = _
 rw [hp]; rfl
theorem num_first (L : List PP) (first : Nat) : numL (ordL L first) first = 0 := by
 unfold numL ordL ordTo
 rw [if_pos (List.mem_cons_self ..), List.idxOf_cons_self]
end Go.Proofs.Ytphknepblchkdaa.Fl
