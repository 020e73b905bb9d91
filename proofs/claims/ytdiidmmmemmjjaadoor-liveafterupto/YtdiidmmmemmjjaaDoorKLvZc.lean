/-
  A function of right code: its registers and parts are some of its own: facts on code; the conditions: the code is right.
  A function of right code that is small: how long its lists may be: facts on code; the conditions: the code is right and small.
  What the lists of a new walk say of the parts: what each reads ahead of writing it, what it writes, whence it is come to: facts on lists; no conditions but those that each fact bears.
-/
import Derived.Test.YtdiidmmmemmjjaaDoorKLvZ
import Derived.Test.YtdiidmmmemmjjaaDoorKIrS
namespace Go.Proofs.YtdiidmmmemmjjaaDoor.Lv
open Go.RowKit
set_option linter.unusedVariables false

theorem fnsP_get {c : PC} : ∀ {l : List PF} {k j : Nat} {f : PF}, fnsP c k l = true → l[j]? = some f → fnP c (k + j) f = true := fun {l} => by
  induction l with
  | nil => intro k j f _ hj; simp at hj
  | cons g l ih =>
    intro k j f h hj
    simp only [fnsP, Bool.and_eq_true] at h
    cases j with
    | zero => simp at hj; subst hj; exact h.1
    | succ j =>
      have := ih (k := k + 1) (j := j) h.2 (by simpa using hj)
      rw [show k + (j + 1) = k + 1 + j by omega]
      exact this
theorem blP_iff {n m : Int} : blP n m = true ↔ 0 ≤ n ∧ n < m := by simp [blP]
theorem okR_of {r : Int} {regs : Int} (h : blP r regs = true) (hr : regs ≤ 20000) : okR (regs.toNat / 64 + 1) r := by
  obtain ⟨h1, h2⟩ := blP_iff.1 h
  exact ⟨h1, by omega, by omega⟩
theorem okF_of {c : PC} (hv : validP c = 0) {fn : Nat} {f : PF} (hf : c.fns[fn]? = some f) (hs : wF f.parts ≤ 1099511627000) : okF f f.parts.length (f.regs.toNat / 64 + 1) := by
  have hr : rightP c = true := by
    unfold validP at hv
    split at hv
    · omega
    · split at hv
      · assumption
      · omega
  unfold rightP at hr
  rw [Bool.and_eq_true] at hr
  have hfn := fnsP_get hr.2 hf
  unfold fnP headP at hfn
  simp only [Bool.and_eq_true, Bool.not_eq_true', decide_eq_false_iff_not] at hfn
  obtain ⟨⟨h1, h2, h3, h4, -⟩, h5⟩ := hfn
  refine ⟨rfl, ⟨by omega, by omega, rfl⟩, fun p hp => ?_, hs⟩
  have hpt := List.all_eq_true.1 h5 p hp
  unfold ptP at hpt
  rw [Bool.and_eq_true] at hpt
  obtain ⟨he, hi⟩ := hpt
  have hi := List.all_eq_true.1 hi
  refine ⟨⟨fun x hx r hr => ?_, fun x hx hw => ?_, fun hc => ?_⟩, fun r hr => ?_⟩
  · have := hi x hx
    rw [insP_eq] at this
    simp only [Bool.and_eq_true] at this
    exact okR_of (List.all_eq_true.1 this.2.1 r hr) (by omega)
  · have := hi x hx
    unfold insP wtP at this
    simp only [Bool.and_eq_true] at this
    have h6 := this.2.2.1
    rw [hw] at h6
    exact okR_of (by simpa using h6) (by omega)
  · unfold endP at he
    split at he
    · exact okR_of he (by omega)
    · simp only [Bool.and_eq_true] at he
      exact okR_of he.1 (by omega)
  · unfold waysP at hr
    unfold endP at he
    split at hr
    · simp at hr
    · rename_i hne
      rw [if_neg hne] at he
      split at hr
      · rename_i hc
        rw [if_pos hc] at he
        simp at hr
        subst hr
        exact blP_iff.1 he
      · rename_i hc
        rw [if_neg hc] at he
        simp only [Bool.and_eq_true] at he
        simp at hr
        rcases hr with rfl | rfl
        · exact blP_iff.1 he.2.1
        · exact blP_iff.1 he.2.2

end Go.Proofs.YtdiidmmmemmjjaaDoor.Lv

namespace Go.Proofs.YtdiidmmmemmjjaaDoor.Lv
open Go.RowKit
set_option linter.unusedVariables false

theorem right_fn {c : PC} (hv : validP c = 0) {fn : Nat} {f : PF} (hf : c.fns[fn]? = some f) : fnP c fn f = true := by
  have hr : rightP c = true := by
    unfold validP at hv
    split at hv
    · omega
    · split at hv
      · assumption
      · omega
  unfold rightP at hr
  rw [Bool.and_eq_true] at hr
  have := fnsP_get hr.2 hf
  rwa [Nat.zero_add] at this
theorem right_params {c : PC} (hv : validP c = 0) {fn : Nat} {f : PF} (hf : c.fns[fn]? = some f) : f.params ≤ 20000 := by
  have hfn := right_fn hv hf
  unfold fnP headP at hfn
  simp only [Bool.and_eq_true, Bool.not_eq_true', decide_eq_false_iff_not] at hfn
  obtain ⟨⟨h1, h2, h3, -⟩, -⟩ := hfn
  omega
theorem wI_le {c : PC} (hv : validP c = 0) {fn : Nat} {f : PF} {x : PI} (h : immP c fn f x = true) : wI x ≤ 20001 := by
  unfold wI usesP
  by_cases h32 : x.op = 32
  · rw [if_pos h32]
    unfold immP at h
    rw [if_neg (by omega), if_neg (by omega), if_neg (by omega), if_neg (by omega), if_pos h32, Bool.and_eq_true] at h
    have h2 := h.2
    split at h2
    · rename_i g hg
      have := right_params hv hg
      have h3 : (x.args.length : Int) = g.params := by simpa using h2
      omega
    · cases h2
  · rw [if_neg h32]
    simp
    omega
theorem wL_le {l : List PI} (h : ∀ x ∈ l, wI x ≤ 20001) : wL l ≤ 20001 * l.length := by
  induction l with
  | nil => simp [wL]
  | cons x l ih =>
    have h1 := ih (fun y hy => h y (List.mem_cons_of_mem _ hy))
    have h2 := h x (List.mem_cons_self ..)
    simp [wL] at h1 ⊢
    omega
theorem wF_le {l : List PP} (h : ∀ p ∈ l, ∀ x ∈ p.ins, wI x ≤ 20001) : (wF l : Int) ≤ 20001 * (l.map partN).sum ∧ (l.length : Int) ≤ (l.map partN).sum := by
  induction l with
  | nil => simp [wF]
  | cons p l ih =>
    obtain ⟨h1, h3⟩ := ih (fun y hy => h y (List.mem_cons_of_mem _ hy))
    have h2 := wL_le (h p (List.mem_cons_self ..))
    simp only [wF, wP, List.map_cons, List.sum_cons, partN, List.length_cons] at h1 h3 ⊢
    generalize (l.map partN).sum = s at *
    generalize (l.map wP).sum = t at *
    constructor
    · push_cast
      omega
    · push_cast
      omega
theorem fnN_nonneg (f : PF) : 0 ≤ fnN f := by
  unfold fnN
  induction f.parts with
  | nil => simp
  | cons p l ih => simp only [List.map_cons, List.sum_cons, partN]; omega
theorem fnN_le : ∀ {l : List PF} {fn : Nat} {f : PF}, l[fn]? = some f → fnN f ≤ (l.map fnN).sum ∧ 0 ≤ (l.map fnN).sum := fun {l} => by
  have hn : ∀ l : List PF, 0 ≤ (l.map fnN).sum := fun l => by
    induction l with
    | nil => simp
    | cons g l ih => have := fnN_nonneg g; simp only [List.map_cons, List.sum_cons]; omega
  induction l with
  | nil => intro fn f h; simp at h
  | cons g l ih =>
    intro fn f h
    refine ⟨?_, hn _⟩
    have hg := fnN_nonneg g
    have hl := hn l
    simp only [List.map_cons, List.sum_cons]
    cases fn with
    | zero => simp at h; subst h; omega
    | succ n => have := (ih (fn := n) (by simpa using h)).1; omega
/-- All that is asked of a function of small right code. -/
theorem okF_few {c : PC} (hv : validP c = 0) {fn : Nat} {f : PF} (hf : c.fns[fn]? = some f) (hn : codeN c ≤ 60000) : okF f f.parts.length (f.regs.toNat / 64 + 1) ∧ f.parts.length * 192 ≤ 1099511627775 := by
  have hfn := right_fn hv hf
  unfold fnP at hfn
  rw [Bool.and_eq_true] at hfn
  have hI : ∀ p ∈ f.parts, ∀ x ∈ p.ins, wI x ≤ 20001 := fun p hp x hx => by
    have hpt := List.all_eq_true.1 hfn.2 p hp
    unfold ptP at hpt
    rw [Bool.and_eq_true] at hpt
    have := List.all_eq_true.1 hpt.2 x hx
    unfold insP at this
    simp only [Bool.and_eq_true] at this
    exact wI_le hv this.2.2.2.2
  obtain ⟨h1, h2⟩ := wF_le hI
  have h3 := (fnN_le hf).1
  unfold codeN at hn
  have h4 : (f.parts.map partN).sum = fnN f := rfl
  rw [h4] at h1 h2
  exact ⟨okF_of hv hf (by omega), by omega⟩

end Go.Proofs.YtdiidmmmemmjjaaDoor.Lv

namespace Go.Proofs.YtdiidmmmemmjjaaDoor.Lv
open Go.RowKit
set_option linter.unusedVariables false

/-- What instructions write. -/
def WtL (l : List PI) (r : Nat) : Prop := ∃ x ∈ l, wrP x.op = true ∧ x.dst.toNat = r
/-- What they read ahead of writing it. -/
def RdL (l : List PI) (r : Nat) : Prop := ∃ i x, l[i]? = some x ∧ (∃ u ∈ usesP x, u.toNat = r) ∧ ¬ WtL (l.take i) r
/-- What a part reads ahead of writing it. -/
def RdQ (p : PP) (r : Nat) : Prop := RdL p.ins r ∨ (¬ p.cond < 0 ∧ p.cond.toNat = r ∧ ¬ WtL p.ins r)
theorem WtL_snoc (l : List PI) (x : PI) (r : Nat) : WtL (l ++ [x]) r ↔ WtL l r ∨ (wrP x.op = true ∧ x.dst.toNat = r) := by
  unfold WtL
  constructor
  · rintro ⟨y, hy, h⟩
    rcases List.mem_append.1 hy with q | q
    · exact Or.inl ⟨y, q, h⟩
    · simp at q; subst q; exact Or.inr h
  · rintro (⟨y, hy, h⟩ | h)
    · exact ⟨y, List.mem_append_left _ hy, h⟩
    · exact ⟨x, by simp, h⟩
theorem RdL_snoc (l : List PI) (x : PI) (r : Nat) : RdL (l ++ [x]) r ↔ RdL l r ∨ ((∃ u ∈ usesP x, u.toNat = r) ∧ ¬ WtL l r) := by
  unfold RdL
  constructor
  · rintro ⟨i, y, hi, h1, h2⟩
    by_cases hl : i < l.length
    · rw [List.getElem?_append_left hl] at hi
      rw [List.take_append_of_le_length (by omega)] at h2
      exact Or.inl ⟨i, y, hi, h1, h2⟩
    · have hb := (List.getElem?_eq_some_iff.1 hi).1
      have e : i = l.length := by simp at hb; omega
      subst e
      rw [List.getElem?_append_right (Nat.le_refl _)] at hi
      simp at hi
      subst hi
      rw [List.take_left' rfl] at h2
      exact Or.inr ⟨h1, h2⟩
  · rintro (⟨i, y, hi, h1, h2⟩ | ⟨h1, h2⟩)
    · have hl := (List.getElem?_eq_some_iff.1 hi).1
      refine ⟨i, y, ?_, h1, ?_⟩
      · rw [List.getElem?_append_left hl]; exact hi
      · rw [List.take_append_of_le_length (by omega)]; exact h2
    · refine ⟨l.length, x, ?_, h1, ?_⟩
      · rw [List.getElem?_append_right (Nat.le_refl _)]; simp
      · rw [List.take_left' rfl]; exact h2

theorem tb_bit (r b : Nat) : tb (bitN r) b = true ↔ r % 64 = b := by
  unfold tb bitN
  rw [Int.toNat_natCast, Nat.testBit_two_pow]
  simp
open Classical in
theorem upd_eq {es : Es} {m m' : Nm} {l : List (Int × Int)} : upd es m l m' = if m' = m then l else es m' := by
  split
  · rename_i e; subst e; exact upd_same _ _ _
  · rename_i e; exact upd_other _ _ e

/-- What holds while a part is looked at. -/
structure Lk (k : Nat) (e0 es : Es) (R W : Nat → Prop) : Prop where
  rd : ∀ c, Sh k (e0 (.rd c)) (es (.rd c))
  wt : ∀ c, Sh k (e0 (.wt c)) (es (.wt c))
  fr : ∀ c, es (.fr c) = e0 (.fr c)
  r : ∀ r, tb (lastOf (es (.rd (r / 64))) k) (r % 64) = true ↔ R r
  w : ∀ r, tb (lastOf (es (.wt (r / 64))) k) (r % 64) = true ↔ W r
theorem Lk.congr {k : Nat} {e0 es : Es} {R W R' W' : Nat → Prop} (h : Lk k e0 es R W) (hr : ∀ r, R r ↔ R' r) (hw : ∀ r, W r ↔ W' r) : Lk k e0 es R' W' := ⟨h.rd, h.wt, h.fr, fun r => (h.r r).trans (hr r), fun r => (h.w r).trans (hw r)⟩
theorem tb_push {k : Nat} {e0 l : List (Int × Int)} (h : Sh k e0 l) (r b : Nat) : tb (lastOf (pushL l ((k : Int), bitN r)) k) b = true ↔ tb (lastOf l k) b = true ∨ r % 64 = b := by
  rw [(h.push (bitN_good r).1 (bitN_good r).2).2.1 b, Bool.or_eq_true, tb_bit]
theorem Lk.writ {k : Nat} {e0 es : Es} {R W : Nat → Prop} (h : Lk k e0 es R W) (r : Nat) : Lk k e0 (writE es k r) R (fun q => W q ∨ q = r) := by
  unfold writE
  refine ⟨fun c => ?_, fun c => ?_, fun c => ?_, fun q => ?_, fun q => ?_⟩
  · rw [upd_other _ _ (fun p => by cases p)]; exact h.rd c
  · rw [upd_eq]
    split
    · rename_i e
      injection e with e
      subst e
      exact ((h.wt (r / 64)).push (bitN_good r).1 (bitN_good r).2).1
    · exact h.wt c
  · rw [upd_other _ _ (fun p => by cases p)]; exact h.fr c
  · rw [upd_other _ _ (fun p => by cases p)]; exact h.r q
  · rw [upd_eq]
    split
    · rename_i e
      injection e with e
      rw [tb_push (h.wt (r / 64)), ← e, h.w q]
      constructor
      · rintro (a | a)
        · exact Or.inl a
        · exact Or.inr (by omega)
      · rintro (a | a)
        · exact Or.inl a
        · exact Or.inr (by omega)
    · rename_i e
      rw [h.w q]
      constructor
      · exact Or.inl
      · rintro (a | a)
        · exact a
        · subst a; exact absurd rfl e
theorem Lk.read {k : Nat} {e0 es : Es} {R W : Nat → Prop} (h : Lk k e0 es R W) (r : Nat) : Lk k e0 (readE es k r) (fun q => R q ∨ (q = r ∧ ¬ W q)) W := by
  have hu := (h.wt (r / 64)).u
  have hb := bitN_good r
  have hand := fun b => tb_and hu hb.1 b
  unfold readE
  split
  · rename_i hz
    have hw : ¬ W r := fun hW => by
      have h1 := (h.w r).2 hW
      have h2 := hand (r % 64)
      rw [hz, tb_zero, h1, (tb_bit r (r % 64)).2 rfl] at h2
      cases h2
    refine ⟨fun c => ?_, fun c => ?_, fun c => ?_, fun q => ?_, fun q => ?_⟩
    · rw [upd_eq]
      split
      · rename_i e
        injection e with e
        subst e
        exact ((h.rd (r / 64)).push hb.1 hb.2).1
      · exact h.rd c
    · rw [upd_other _ _ (fun p => by cases p)]; exact h.wt c
    · rw [upd_other _ _ (fun p => by cases p)]; exact h.fr c
    · rw [upd_eq]
      split
      · rename_i e
        injection e with e
        rw [tb_push (h.rd (r / 64)), ← e, h.r q]
        constructor
        · rintro (a | a)
          · exact Or.inl a
          · have e2 : q = r := by omega
            exact Or.inr ⟨e2, by rw [e2]; exact hw⟩
        · rintro (a | ⟨a, -⟩)
          · exact Or.inl a
          · exact Or.inr (by omega)
      · rename_i e
        rw [h.r q]
        constructor
        · exact Or.inl
        · rintro (a | ⟨a, -⟩)
          · exact a
          · subst a; exact absurd rfl e
    · rw [upd_other _ _ (fun p => by cases p)]; exact h.w q
  · rename_i hz
    have hW : W r := by
      obtain ⟨b, -, hb2⟩ := ne_zero_tb (hu.and hb.1) hz
      rw [hand b, Bool.and_eq_true] at hb2
      have e := (tb_bit r b).1 hb2.2
      subst e
      exact (h.w r).1 hb2.1
    refine h.congr (fun q => ⟨Or.inl, ?_⟩) (fun _ => Iff.rfl)
    rintro (a | ⟨a, b⟩)
    · exact a
    · subst a; exact absurd hW b
theorem Lk.readL {k : Nat} {e0 : Es} {W : Nat → Prop} : ∀ (L : List Int) {es : Es} {R : Nat → Prop}, Lk k e0 es R W → Lk k e0 (readL es k L) (fun q => R q ∨ ((∃ u ∈ L, u.toNat = q) ∧ ¬ W q)) W := fun L => by
  induction L with
  | nil => intro es R h; exact h.congr (fun q => ⟨Or.inl, by rintro (a | ⟨⟨u, hu, -⟩, -⟩); exact a; simp at hu⟩) (fun _ => Iff.rfl)
  | cons u L ih =>
    intro es R h
    have := ih (h.read u.toNat)
    refine this.congr (fun q => ?_) (fun _ => Iff.rfl)
    constructor
    · rintro ((a | ⟨a, b⟩) | ⟨⟨v, hv, e⟩, b⟩)
      · exact Or.inl a
      · exact Or.inr ⟨⟨u, by simp, a.symm⟩, b⟩
      · exact Or.inr ⟨⟨v, List.mem_cons_of_mem _ hv, e⟩, b⟩
    · rintro (a | ⟨⟨v, hv, e⟩, b⟩)
      · exact Or.inl (Or.inl a)
      · rcases List.mem_cons.1 hv with q | q
        · subst q; exact Or.inl (Or.inr ⟨e.symm, b⟩)
        · exact Or.inr ⟨⟨v, q, e⟩, b⟩
theorem Lk.inst {k : Nat} {e0 es : Es} {l : List PI} (h : Lk k e0 es (RdL l) (WtL l)) (x : PI) : Lk k e0 (lookI es k x) (RdL (l ++ [x])) (WtL (l ++ [x])) := by
  unfold lookI
  split
  · rename_i hw
    refine ((Lk.readL _ h).writ x.dst.toNat).congr (fun q => (RdL_snoc l x q).symm) (fun q => ?_)
    rw [WtL_snoc]
    constructor
    · rintro (a | a)
      · exact Or.inl a
      · exact Or.inr ⟨hw, a.symm⟩
    · rintro (a | ⟨-, a⟩)
      · exact Or.inl a
      · exact Or.inr a.symm
  · rename_i hw
    refine (Lk.readL _ h).congr (fun q => (RdL_snoc l x q).symm) (fun q => ?_)
    rw [WtL_snoc]
    exact ⟨Or.inl, by rintro (a | ⟨a, -⟩); exact a; exact absurd a hw⟩
theorem Lk.insts {k : Nat} {e0 es : Es} (l : List PI) (h : Lk k e0 es (fun _ => False) (fun _ => False)) : Lk k e0 (lookL es k l) (RdL l) (WtL l) := by
  have hn : ∀ n, n ≤ l.length → Lk k e0 (lookL es k (l.take n)) (RdL (l.take n)) (WtL (l.take n)) := fun n => by
    induction n with
    | zero =>
      intro _
      refine h.congr (fun q => ⟨False.elim, ?_⟩) (fun q => ⟨False.elim, ?_⟩)
      · rintro ⟨i, x, hi, -⟩; simp at hi
      · rintro ⟨x, hx, -⟩; simp at hx
    | succ n ih =>
      intro hn
      obtain ⟨x, hx⟩ := get_of_lt (l := l) (k := n) (by omega)
      rw [take_snoc hx, lookL_snoc]
      exact (ih (by omega)).inst x
  have := hn l.length (Nat.le_refl _)
  rwa [List.take_length] at this
theorem Lk.part {k : Nat} {e0 es : Es} (p : PP) (h : Lk k e0 es (fun _ => False) (fun _ => False)) : Lk k e0 (lookP es k p) (RdQ p) (WtL p.ins) := by
  have hi := h.insts p.ins
  unfold lookP
  split
  · rename_i hc
    exact hi.congr (fun q => ⟨Or.inl, by rintro (a | ⟨a, -⟩); exact a; exact absurd hc a⟩) (fun _ => Iff.rfl)
  · rename_i hc
    refine (hi.read p.cond.toNat).congr (fun q => ?_) (fun _ => Iff.rfl)
    constructor
    · rintro (a | ⟨a, b⟩)
      · exact Or.inl a
      · exact Or.inr ⟨hc, a.symm, b⟩
    · rintro (a | ⟨-, a, b⟩)
      · exact Or.inl a
      · exact Or.inr ⟨a.symm, b⟩
theorem last_far {l : List (Int × Int)} {k : Nat} (h : ∀ e ∈ l, e.1 < (k : Int)) : lastOf l k = 0 := by
  unfold lastOf
  split
  · rename_i e he
    have := h e (List.mem_of_getLast? he)
    rw [if_neg (by omega)]
  · rfl
theorem Lk.start {k : Nat} {e0 : Es} (hr : ∀ c, ∀ e ∈ e0 (.rd c), e.1 < (k : Int)) (hw : ∀ c, ∀ e ∈ e0 (.wt c), e.1 < (k : Int)) : Lk k e0 e0 (fun _ => False) (fun _ => False) := by
  refine ⟨fun c => ⟨last_far (hr c), Or.inl rfl⟩, fun c => ⟨last_far (hw c), Or.inl rfl⟩, fun _ => rfl, fun r => ?_, fun r => ?_⟩
  · rw [last_far (hr _), tb_zero]; simp
  · rw [last_far (hw _), tb_zero]; simp

/-- Whence a part is come to. -/
theorem from_says (n : Nat) : ∀ (L : List Int) (es : Es), (∀ m, (∀ c, m ≠ .fr c) → fromE es n L m = es m) ∧ ∀ s x, x ∈ fromE es n L (.fr s) ↔ x ∈ es (.fr s) ∨ (x = ((n : Int), 0) ∧ ∃ r ∈ L, r.toNat = s) := fun L => by
  induction L with
  | nil => intro es; exact ⟨fun m _ => rfl, fun s x => ⟨Or.inl, by rintro (a | ⟨-, r, hr, -⟩); exact a; simp at hr⟩⟩
  | cons r L ih =>
    intro es
    obtain ⟨h1, h2⟩ := ih (upd es (.fr r.toNat) (es (.fr r.toNat) ++ [((n : Int), 0)]))
    refine ⟨fun m hm => ?_, fun s x => ?_⟩
    · show fromE (upd es (.fr r.toNat) (es (.fr r.toNat) ++ [((n : Int), 0)])) n L m = _
      rw [h1 m hm, upd_other _ _ (hm _)]
    · show x ∈ fromE (upd es (.fr r.toNat) (es (.fr r.toNat) ++ [((n : Int), 0)])) n L (.fr s) ↔ _
      rw [h2 s x, upd_eq]
      split
      · rename_i e
        injection e with e
        subst e
        constructor
        · rintro (a | ⟨a, v, hv, e⟩)
          · rcases List.mem_append.1 a with q | q
            · exact Or.inl q
            · simp at q; exact Or.inr ⟨q, r, by simp, rfl⟩
          · exact Or.inr ⟨a, v, List.mem_cons_of_mem _ hv, e⟩
        · rintro (a | ⟨a, -⟩)
          · exact Or.inl (List.mem_append_left _ a)
          · exact Or.inl (by subst a; simp)
      · rename_i hne
        constructor
        · rintro (a | ⟨a, v, hv, e⟩)
          · exact Or.inl a
          · exact Or.inr ⟨a, v, List.mem_cons_of_mem _ hv, e⟩
        · rintro (a | ⟨a, v, hv, e⟩)
          · exact Or.inl a
          · rcases List.mem_cons.1 hv with q | q
            · subst q; subst e; exact absurd rfl hne
            · exact Or.inr ⟨a, v, q, e⟩

/-- What a new walk's lists say. -/
structure Says (l : List PP) (es : Es) : Prop where
  rd : ∀ c k b, b < 64 → (tR (es (.rd c)) k b ↔ ∃ p, l[k]? = some p ∧ RdQ p (64 * c + b))
  wt : ∀ many, l.length ≤ many → ∀ c k b, b < 64 → (tW (setW (List.replicate many 0) (es (.wt c))) k b ↔ ∃ p, l[k]? = some p ∧ WtL p.ins (64 * c + b))
  fr : ∀ s k, tF es s k ↔ ∃ p, l[k]? = some p ∧ ∃ r ∈ waysP p, r.toNat = s
theorem get_snoc {α : Type} {l : List α} {x : α} {P : α → Prop} (k : Nat) : (∃ p, (l ++ [x])[k]? = some p ∧ P p) ↔ (∃ p, l[k]? = some p ∧ P p) ∨ (k = l.length ∧ P x) := by
  constructor
  · rintro ⟨p, hp, h⟩
    by_cases hl : k < l.length
    · rw [List.getElem?_append_left hl] at hp
      exact Or.inl ⟨p, hp, h⟩
    · have hb := (List.getElem?_eq_some_iff.1 hp).1
      have e : k = l.length := by simp at hb; omega
      subst e
      rw [List.getElem?_append_right (Nat.le_refl _)] at hp
      simp at hp
      subst hp
      exact Or.inr ⟨rfl, h⟩
  · rintro (⟨p, hp, h⟩ | ⟨e, h⟩)
    · exact ⟨p, by rw [List.getElem?_append_left (List.getElem?_eq_some_iff.1 hp).1]; exact hp, h⟩
    · subst e
      exact ⟨x, by rw [List.getElem?_append_right (Nat.le_refl _)]; simp, h⟩
theorem Says.step {l : List PP} {es : Es} (g : Gd l.length es) (h : Says l es) (p : PP) : Says (l ++ [p]) (stepE es l.length p) := by
  unfold stepE
  obtain ⟨f1, f2⟩ := from_says l.length (waysP p) es
  generalize fromE es l.length (waysP p) = e0 at *
  have er : ∀ c, e0 (.rd c) = es (.rd c) := fun c => f1 _ (fun _ e => by cases e)
  have ew : ∀ c, e0 (.wt c) = es (.wt c) := fun c => f1 _ (fun _ e => by cases e)
  have gr : ∀ c, ∀ e ∈ es (.rd c), e.1 < (l.length : Int) := fun c e he => ((g.rd c e he).1).2
  have gw : ∀ c, ∀ e ∈ es (.wt c), e.1 < (l.length : Int) := fun c e he => ((g.wt c e he).1).2
  have lk := (Lk.start (k := l.length) (e0 := e0) (fun c => by rw [er]; exact gr c) (fun c => by rw [ew]; exact gw c)).part p
  generalize lookP e0 l.length p = e1 at *
  refine ⟨fun c k b hb => ?_, fun many hm c k b hb => ?_, fun s k => ?_⟩
  · rw [get_snoc, ← h.rd c k b hb]
    have hs := lk.rd c
    have hr := lk.r (64 * c + b)
    rw [show (64 * c + b) / 64 = c by omega, show (64 * c + b) % 64 = b by omega] at hr
    rw [er] at hs
    unfold tR
    obtain ⟨h0, e | ⟨x, hx, hn, e⟩⟩ := hs
    · rw [e, h0, tb_zero] at hr
      rw [e]
      refine ⟨Or.inl, ?_⟩
      rintro (a | ⟨-, a⟩)
      · exact a
      · have := hr.2 a; cases this
    · rw [e, last_snoc] at hr
      rw [e]
      constructor
      · rintro ⟨y, hy, e1, e2⟩
        rcases List.mem_append.1 hy with q | q
        · exact Or.inl ⟨y, q, e1, e2⟩
        · simp at q
          subst q
          exact Or.inr ⟨by omega, hr.1 e2⟩
      · rintro (⟨y, hy, e1, e2⟩ | ⟨e1, e2⟩)
        · exact ⟨y, List.mem_append_left _ hy, e1, e2⟩
        · exact ⟨((l.length : Int), x), by simp, by rw [e1], hr.2 e2⟩
  · have hm' : l.length < many := by simp at hm; omega
    rw [get_snoc, ← h.wt many (by omega) c k b hb]
    have hs := lk.wt c
    have hr := lk.w (64 * c + b)
    rw [show (64 * c + b) / 64 = c by omega, show (64 * c + b) % 64 = b by omega] at hr
    rw [ew] at hs
    have hz : ¬ tW (setW (List.replicate many 0) (es (.wt c))) l.length b := fun q => by
      obtain ⟨p', hp', -⟩ := (h.wt many (by omega) c l.length b hb).1 q
      have := (List.getElem?_eq_some_iff.1 hp').1
      omega
    obtain ⟨h0, e | ⟨x, hx, hn, e⟩⟩ := hs
    · rw [e, h0, tb_zero] at hr
      rw [e]
      refine ⟨Or.inl, ?_⟩
      rintro (a | ⟨-, a⟩)
      · exact a
      · have := hr.2 a; cases this
    · rw [e, last_snoc] at hr
      rw [e, setW_snoc]
      dsimp only
      rw [Int.toNat_natCast]
      by_cases ek : k = l.length
      · subst ek
        have ht : tW ((setW (List.replicate many 0) (es (.wt c))).set l.length x) l.length b ↔ tb x b = true := by
          unfold tW
          rw [List.getElem?_set_self (by rw [setW_len]; simpa using hm')]
          rfl
        rw [ht, hr]
        constructor
        · exact fun a => Or.inr ⟨rfl, a⟩
        · rintro (a | ⟨-, a⟩)
          · exact absurd a hz
          · exact a
      · have ht : tW ((setW (List.replicate many 0) (es (.wt c))).set l.length x) k b ↔ tW (setW (List.replicate many 0) (es (.wt c))) k b := by
          unfold tW
          rw [List.getElem?_set_ne (fun q => ek q.symm)]
        rw [ht]
        refine ⟨Or.inl, ?_⟩
        rintro (a | ⟨a, -⟩)
        · exact a
        · exact absurd a ek
  · rw [get_snoc, ← h.fr s k]
    unfold tF
    rw [lk.fr]
    constructor
    · rintro ⟨x, hx, e⟩
      rcases (f2 s x).1 hx with q | ⟨q, r⟩
      · exact Or.inl ⟨x, q, e⟩
      · subst q
        exact Or.inr ⟨by have : ((l.length : Nat) : Int) = (k : Int) := e; omega, r⟩
    · rintro (⟨x, hx, e⟩ | ⟨e, r⟩)
      · exact ⟨x, (f2 s x).2 (Or.inl hx), e⟩
      · exact ⟨((l.length : Int), 0), (f2 s _).2 (Or.inr ⟨rfl, r⟩), by rw [e]⟩
theorem walk_says (l : List PP) : Says l (walkE l) := by
  have h : ∀ n, n ≤ l.length → Says (l.take n) (walkE (l.take n)) := fun n => by
    induction n with
    | zero =>
      intro _
      have hz : ∀ many c k b, ¬ tW (setW (List.replicate many 0) (walkE [] (.wt c))) k b := fun many c k b q => by
        unfold tW at q
        have e : ((setW (List.replicate many 0) (walkE [] (.wt c)))[k]?).getD 0 = 0 := by
          show ((List.replicate many (0 : Int))[k]?).getD 0 = 0
          rw [List.getElem?_replicate]
          split <;> rfl
        rw [e, tb_zero] at q
        cases q
      refine ⟨fun c k b _ => ?_, fun many _ c k b _ => ?_, fun s k => ?_⟩
      · simp [walkE, tR]
      · simp only [List.take_zero]
        exact ⟨fun q => absurd q (hz many c k b), by simp⟩
      · simp [walkE, tF]
    | succ n ih =>
      intro hn
      obtain ⟨p, hp⟩ := get_of_lt (l := l) (k := n) (by omega)
      rw [take_snoc hp, walkE_snoc]
      exact (ih (by omega)).step (walk_good _) p
  have := h l.length (Nat.le_refl _)
  rwa [List.take_length] at this

end Go.Proofs.YtdiidmmmemmjjaaDoor.Lv
