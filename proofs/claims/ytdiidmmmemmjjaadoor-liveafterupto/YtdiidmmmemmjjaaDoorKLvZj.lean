/-
  What Parts of live answers, as sets: which registers are live at each part's beginning and behind its end: a contract over the program; the conditions: the code is right and small.
  The document's example of layer 19, whether code is of a size that is looked at (little, few, awake of the statements of layer 19), sets: contracts over the program; the conditions: the code lies in memory, the library's table is laid.
  The statements of layer 19 where the code is not of a size that is looked at, or is not right: their walks over the program; the conditions: the code lies in memory, the library's table is laid.
-/
import Derived.Test.YtdiidmmmemmjjaaDoorKLvZc
import Derived.Test.YtdiidmmmemmjjaaDoorKLvZg
import Derived.Test.YtdiidmmmemmjjaaDoorKIrW
namespace Go.Proofs.YtdiidmmmemmjjaaDoor.Lv
open Go.RowKit
set_option linter.unusedVariables false

/-- Which registers are live at a part's beginning: the least that there is. -/
inductive LiveR (l : List PP) : Nat → Nat → Prop where
  | read {k r : Nat} {p : PP} : l[k]? = some p → RdQ p r → LiveR l k r
  | thru {k r : Nat} {p : PP} {x : Int} : l[k]? = some p → x ∈ waysP p → LiveR l x.toNat r → ¬ WtL p.ins r → LiveR l k r
/-- Behind its end. -/
def OutR (l : List PP) (k r : Nat) : Prop := ∃ p, l[k]? = some p ∧ ∃ x ∈ waysP p, LiveR l x.toNat r

theorem LV_live (l : List PP) (c : Nat) {k b : Nat} (hb : b < 64) : LV c (Wv l.length (walkE l) c) (walkE l) k b ↔ LiveR l k (64 * c + b) := by
  have sy := walk_says l
  constructor
  · intro h
    induction h with
    | read hr =>
      obtain ⟨p, hp, h1⟩ := (sy.rd c _ _ hb).1 hr
      exact LiveR.read hp h1
    | thru hF _ hW ih =>
      obtain ⟨p, hp, x, hx, e⟩ := (sy.fr _ _).1 hF
      refine LiveR.thru hp hx (by rw [e]; exact ih hb) (fun hw => hW ((sy.wt l.length (Nat.le_refl _) c _ _ hb).2 ⟨p, hp, hw⟩))
  · intro h
    generalize hr : 64 * c + b = r at h
    induction h with
    | read hp h1 => subst hr; exact Live.read ((sy.rd c _ _ hb).2 ⟨_, hp, h1⟩)
    | thru hp hx _ hW ih =>
      subst hr
      refine Live.thru ((sy.fr _ _).2 ⟨_, hp, _, hx, rfl⟩) (ih rfl) (fun hw => ?_)
      obtain ⟨p', hp', hw'⟩ := (sy.wt l.length (Nat.le_refl _) c _ _ hb).1 hw
      rw [hp] at hp'
      injection hp' with hp'
      subst hp'
      exact hW hw'
theorem LiveR.lt {l : List PP} {k r : Nat} (h : LiveR l k r) : k < l.length := by
  cases h with
  | read hp _ => exact (List.getElem?_eq_some_iff.1 hp).1
  | thru hp _ _ _ => exact (List.getElem?_eq_some_iff.1 hp).1
theorem LV_out (l : List PP) (c : Nat) {k b : Nat} (hb : b < 64) : (∃ s, s < l.length ∧ tF (walkE l) s k ∧ LV c (Wv l.length (walkE l) c) (walkE l) s b) ↔ OutR l k (64 * c + b) := by
  have sy := walk_says l
  constructor
  · rintro ⟨s, -, hF, h⟩
    obtain ⟨p, hp, x, hx, e⟩ := (sy.fr _ _).1 hF
    exact ⟨p, hp, x, hx, by rw [e]; exact (LV_live l c hb).1 h⟩
  · rintro ⟨p, hp, x, hx, h⟩
    exact ⟨x.toNat, h.lt, (sy.fr _ _).2 ⟨p, hp, x, hx, rfl⟩, (LV_live l c hb).2 h⟩

/-- The words of a set rise. -/
theorem wordsOf_mem {g : Nat → Int} {n : Nat} : ∀ {a : Nat} {e : Int × Int}, e ∈ wordsOf g a ↔ ∃ c, c < a ∧ g c ≠ 0 ∧ e = ((c : Int), g c) := fun {a} => by
  induction a with
  | zero => intro e; simp [wordsOf]
  | succ a ih =>
    intro e
    unfold wordsOf
    split
    · rename_i hz
      rw [ih]
      constructor
      · rintro ⟨c, h1, h2, h3⟩; exact ⟨c, by omega, h2, h3⟩
      · rintro ⟨c, h1, h2, h3⟩
        refine ⟨c, ?_, h2, h3⟩
        by_cases ec : c = a
        · subst ec; exact absurd hz h2
        · omega
    · rename_i hz
      rw [List.mem_append, ih]
      constructor
      · rintro (⟨c, h1, h2, h3⟩ | h)
        · exact ⟨c, by omega, h2, h3⟩
        · simp at h; exact ⟨a, by omega, hz, h⟩
      · rintro ⟨c, h1, h2, h3⟩
        by_cases ec : c = a
        · subst ec; exact Or.inr (by simp [h3])
        · exact Or.inl ⟨c, by omega, h2, h3⟩
theorem wordsOf_up {g : Nat → Int} {a : Nat} (ha : a ≤ 1000000) (hg : ∀ c, c < a → U64 (g c)) : Up (wordsOf g a) := by
  refine ⟨?_, fun x hx => ?_, fun x hx => ?_⟩
  · induction a with
    | zero => intro i j x y hi; simp [wordsOf] at hi
    | succ a ih =>
      have ih := ih (by omega) (fun c hc => hg c (by omega))
      intro i j x y hi hj hij
      unfold wordsOf at hi hj
      split at hi
      · rename_i hz
        rw [if_pos hz] at hj
        exact ih i j x y hi hj hij
      · rename_i hz
        rw [if_neg hz] at hj
        have hjl := (List.getElem?_eq_some_iff.1 hj).1
        rw [List.length_append, List.length_singleton] at hjl
        rw [List.getElem?_append_left (by omega)] at hi
        by_cases e : j < (wordsOf g a).length
        · rw [List.getElem?_append_left e] at hj
          exact ih i j x y hi hj hij
        · have e' : j = (wordsOf g a).length := by omega
          subst e'
          rw [List.getElem?_append_right (Nat.le_refl _)] at hj
          simp at hj
          subst hj
          exact (wordsOf_lt g a x (List.mem_of_getElem? hi)).2
  · have := wordsOf_lt g a x hx
    omega
  · obtain ⟨c, h1, -, e⟩ := (wordsOf_mem (n := 0)).1 hx
    subst e
    exact hg c h1
theorem hasW_words {g : Nat → Int} {a : Nat} (r : Int) : hasW (wordsOf g a) r ↔ 0 ≤ r ∧ r.toNat / 64 < a ∧ tb (g (r.toNat / 64)) (r.toNat % 64) = true := by
  unfold hasW
  constructor
  · rintro ⟨x, hx, e, ht⟩
    obtain ⟨c, h1, h2, e2⟩ := (wordsOf_mem (n := 0)).1 hx
    subst e2
    dsimp only at e ht
    have e3 : r.toNat / 64 = c := by omega
    have e4 : (r % 64).toNat = r.toNat % 64 := by omega
    rw [e4] at ht
    exact ⟨by omega, by omega, by rw [e3]; exact ht⟩
  · rintro ⟨h0, h1, h2⟩
    refine ⟨((r.toNat / 64 : Nat), g (r.toNat / 64)), (wordsOf_mem (n := 0)).2 ⟨_, h1, nz_of_tb h2, rfl⟩, by dsimp only; omega, ?_⟩
    have e4 : (r % 64).toNat = r.toNat % 64 := by omega
    rw [e4]
    exact h2
theorem range_64 (a : Nat) : List.range (64 * (a + 1)) = List.range (64 * a) ++ (List.range 64).map (fun b => 64 * a + b) := by
  rw [show 64 * (a + 1) = 64 * a + 64 by omega, List.range_add]
theorem regs_words (g : Nat → Int) (a : Nat) : regsOf (wordsOf g a) = ((List.range (64 * a)).filter (fun r => tb (g (r / 64)) (r % 64))).map (fun r : Nat => (r : Int)) := by
  induction a with
  | zero => simp [wordsOf, regsOf]
  | succ a ih =>
    rw [range_64, List.filter_append, List.map_append, ← ih]
    have hs : (((List.range 64).map (fun b => 64 * a + b)).filter (fun r => tb (g (r / 64)) (r % 64))).map (fun r : Nat => (r : Int)) = regsW (a : Int) (g a) := by
      unfold regsW bitsUp
      rw [List.filter_map, List.map_map]
      have e : (List.range 64).filter ((fun r => tb (g (r / 64)) (r % 64)) ∘ fun b => 64 * a + b) = (List.range 64).filter (fun b => (g a).toNat.testBit b) := by
        refine List.filter_congr (fun b hb => ?_)
        have hb := List.mem_range.1 hb
        simp only [Function.comp]
        rw [show (64 * a + b) / 64 = a by omega, show (64 * a + b) % 64 = b by omega]
        rfl
      rw [e]
      refine List.map_congr_left (fun b _ => ?_)
      simp only [Function.comp]
      push_cast
      omega
    rw [hs]
    conv => lhs; unfold wordsOf
    split
    · rename_i hz
      rw [hz]
      simp [regsW, bitsUp_zero]
    · rw [regsOf_snoc]

/-- A set of registers in memory. -/
def SetIs (w : World) (v : Value) (p : Nat → Bool) (n : Nat) : Prop := ∃ L, Wds w v L ∧ Up L ∧ L.length ≤ 1000000 ∧ (∀ r : Int, hasB L r = (decide (0 ≤ r) && p r.toNat)) ∧ regsOf L = ((List.range n).filter p).map (fun r : Nat => (r : Int))
theorem SetIs.keep {w w' : World} {v : Value} {p : Nat → Bool} {n : Nat} (h : SetIs w v p n) (q : Q w w') : SetIs w' v p n := by
  obtain ⟨L, h1, h2⟩ := h
  exact ⟨L, h1.keep q, h2⟩
theorem SetIs.form {w : World} {v : Value} {p : Nat → Bool} {n : Nat} (h : SetIs w v p n) : ∃ ao m c, v = .slice ao m c := by
  obtain ⟨L, ⟨-, ⟨rfl, -⟩ | ⟨g, cap, rfl, -⟩⟩, -⟩ := h
  · exact ⟨_, _, _, rfl⟩
  · exact ⟨_, _, _, rfl⟩
theorem filter_range_to {p : Nat → Bool} {n m : Nat} (hm : m ≤ n) (h : ∀ r, p r = true → r < m) : (List.range n).filter p = (List.range m).filter p := by
  obtain ⟨d, rfl⟩ : ∃ d, n = m + d := ⟨n - m, by omega⟩
  rw [List.range_add, List.filter_append]
  have : ((List.range d).map (fun x => m + x)).filter p = [] := by
    rw [List.filter_eq_nil_iff]
    intro r hr hp
    obtain ⟨x, -, e⟩ := List.mem_map.1 hr
    have := h r hp
    omega
  rw [this, List.append_nil]
theorem SetIs.of_words {w : World} {v : Value} {g : Nat → Int} {a n : Nat} {p : Nat → Bool} (h : Wds w v (wordsOf g a)) (ha : a ≤ 1000000) (hg : ∀ c, c < a → U64 (g c)) (hn : n ≤ 64 * a) (hp : ∀ r, p r = true → r < n) (he : ∀ c b, c < a → b < 64 → tb (g c) b = p (64 * c + b)) : SetIs w v p n := by
  have he' : ∀ r, r < 64 * a → tb (g (r / 64)) (r % 64) = p r := fun r hr => by
    rw [he (r / 64) (r % 64) (by omega) (by omega)]
    congr 1
    omega
  refine ⟨_, h, wordsOf_up ha hg, Nat.le_trans (wordsOf_len g a) ha, fun r => ?_, ?_⟩
  · by_cases h0 : 0 ≤ r
    · have hd : decide (0 ≤ r) = true := by simpa using h0
      rw [hd, Bool.true_and]
      by_cases hr : r.toNat < 64 * a
      · rw [← he' _ hr]
        cases ht : tb (g (r.toNat / 64)) (r.toNat % 64) with
        | true => exact (hasB_iff _ _).2 ((hasW_words r).2 ⟨h0, by omega, ht⟩)
        | false => exact hasB_false _ _ (fun q => by have := ((hasW_words r).1 q).2.2; rw [ht] at this; cases this)
      · have e1 : p r.toNat = false := by
          cases hq : p r.toNat with
          | false => rfl
          | true => have := hp _ hq; omega
        rw [e1]
        exact hasB_false _ _ (fun q => by have := ((hasW_words r).1 q).2.1; omega)
    · have hd : decide (0 ≤ r) = false := by simpa using h0
      rw [hd, Bool.false_and]
      exact hasB_false _ _ (fun q => h0 ((hasW_words r).1 q).1)
  · rw [regs_words, ← filter_range_to hn hp]
    congr 1
    exact List.filter_congr (fun r hr => he' r (List.mem_range.1 hr))

open Classical in
noncomputable def liB (l : List PP) (k r : Nat) : Bool := decide (LiveR l k r)
open Classical in
noncomputable def ouB (l : List PP) (k r : Nat) : Bool := decide (OutR l k r)
open Classical in
theorem liB_iff (l : List PP) (k r : Nat) : liB l k r = true ↔ LiveR l k r := by unfold liB; exact decide_eq_true_iff
open Classical in
theorem ouB_iff (l : List PP) (k r : Nat) : ouB l k r = true ↔ OutR l k r := by unfold ouB; exact decide_eq_true_iff
theorem bool_iff {a b : Bool} (h : a = true ↔ b = true) : a = b := by cases a <;> cases b <;> simp_all

/-- Registers that are read are some of the function's. -/
theorem reads_lt {c : PC} (hv : validP c = 0) {fn : Nat} {f : PF} (hf : c.fns[fn]? = some f) {k r : Nat} (h : LiveR f.parts k r) : r < f.regs.toNat := by
  have hfn := right_fn hv hf
  unfold fnP at hfn
  rw [Bool.and_eq_true] at hfn
  have hpt : ∀ p ∈ f.parts, ptP c fn f p = true := fun p hp => List.all_eq_true.1 hfn.2 p hp
  induction h with
  | read hp h1 =>
    have h2 := hpt _ (List.mem_of_getElem? hp)
    unfold ptP at h2
    rw [Bool.and_eq_true] at h2
    obtain ⟨he, hi⟩ := h2
    have hi := List.all_eq_true.1 hi
    rcases h1 with ⟨i, x, hx, ⟨u, hu, e⟩, -⟩ | ⟨h3, e, -⟩
    · have h4 := hi x (List.mem_of_getElem? hx)
      rw [insP_eq] at h4
      simp only [Bool.and_eq_true] at h4
      obtain ⟨a1, a2⟩ := blP_iff.1 (List.all_eq_true.1 h4.2.1 u hu)
      omega
    · unfold endP at he
      split at he
      · obtain ⟨a1, a2⟩ := blP_iff.1 he
        omega
      · simp only [Bool.and_eq_true] at he
        obtain ⟨a1, a2⟩ := blP_iff.1 he.1
        omega
  | thru _ _ _ _ ih => exact ih

/-- What Parts answers. -/
def PartsP (f : PF) (w : World) (e : Ending) (w' : World) : Prop := ∃ bi bo : Nat, e = .returned (.tuple #[.slice (some ⟨bi, 0, none⟩) f.parts.length f.parts.length, .slice (some ⟨bo, 0, none⟩) f.parts.length f.parts.length, .int .i64 0]) ∧ Q w w' ∧ (∀ k, k < f.parts.length → ∃ v, w'.cell? ⟨bi, k, none⟩ = some v ∧ SetIs w' v (liB f.parts k) f.regs.toNat) ∧ (∀ k, k < f.parts.length → ∃ v, w'.cell? ⟨bo, k, none⟩ = some v ∧ SetIs w' v (ouB f.parts k) f.regs.toNat)
theorem parts_is (w : World) (c : PC) (hc : c.ok w) (hv : validP c = 0) (fn : Nat) (f : PF) (hf : c.fns[fn]? = some f) (hn : codeN c ≤ 60000) :
    Calls Tryd.prog 10 #[c.v, .int .i64 (fn : Int)] w (PartsP f w) := by
  obtain ⟨hok, hm⟩ := okF_few hv hf hn
  have hregs : f.regs.toNat ≤ 20000 := by
    have hfn := right_fn hv hf
    unfold fnP headP at hfn
    simp only [Bool.and_eq_true, Bool.not_eq_true', decide_eq_false_iff_not] at hfn
    obtain ⟨⟨h1, h2, h3, -⟩, -⟩ := hfn
    omega
  refine (parts_good w c hc hv fn f hf _ _ hok hm).mono ?_
  rintro e w' ⟨base, B, v, es, gi, go, rfl, hbase, m, pg, q⟩
  refine ⟨B.In, B.Ou, rfl, q, fun k hk => ?_, fun k hk => ?_⟩
  · refine ⟨v (.inn k), (m.fm.head (.inn k) hk).1, ?_⟩
    have hrow := m.fm.row (.inn k) hk
    rw [pg.inn k hk] at hrow
    refine SetIs.of_words (Wds.of_row rfl hrow (Nat.le_trans (wordsOf_len _ _) (by omega))) (by omega) (fun c' hc' => (pg.gI k hk c' hc').1) (by omega) (fun r hr => reads_lt hv hf ((liB_iff _ _ _).1 hr)) (fun c' b hc' hb => ?_)
    refine bool_iff ?_
    rw [(pg.gI k hk c' hc').2 b, LV_live _ _ hb, liB_iff]
  · refine ⟨v (.out k), (m.fm.head (.out k) hk).1, ?_⟩
    have hrow := m.fm.row (.out k) hk
    rw [pg.out k hk] at hrow
    refine SetIs.of_words (Wds.of_row rfl hrow (Nat.le_trans (wordsOf_len _ _) (by omega))) (by omega) (fun c' hc' => (pg.gO k hk c' hc').1) (by omega) (fun r hr => ?_) (fun c' b hc' hb => ?_)
    · obtain ⟨p, -, x, -, h⟩ := (ouB_iff _ _ _).1 hr
      exact reads_lt hv hf h
    · refine bool_iff ?_
      rw [(pg.gO k hk c' hc').2 b, LV_out _ _ hb, ouB_iff]

end Go.Proofs.YtdiidmmmemmjjaaDoor.Lv

namespace Go.Proofs.YtdiidmmmemmjjaaDoor.Lv
open Go.RowKit
set_option linter.unusedVariables false

/-- Going back through instructions. -/
def usB (x : PI) (r : Nat) : Bool := (usesP x).any (fun u => u.toNat == r)
def wtB (x : PI) (r : Nat) : Bool := wrP x.op && x.dst.toNat == r
def befL : List PI → (Nat → Bool) → Nat → Bool
  | [], s => s
  | x :: l, s => fun r => usB x r || (!wtB x r && befL l s r)
def cdB (p : PP) (r : Nat) : Bool := decide (0 ≤ p.cond) && p.cond.toNat == r
theorem usB_iff (x : PI) (r : Nat) : usB x r = true ↔ ∃ u ∈ usesP x, u.toNat = r := by simp [usB]
theorem wtB_iff (x : PI) (r : Nat) : wtB x r = true ↔ wrP x.op = true ∧ x.dst.toNat = r := by simp [wtB]
theorem WtL_cons (x : PI) (l : List PI) (r : Nat) : WtL (x :: l) r ↔ wtB x r = true ∨ WtL l r := by
  rw [wtB_iff]
  unfold WtL
  simp
theorem RdL_cons (x : PI) (l : List PI) (r : Nat) : RdL (x :: l) r ↔ usB x r = true ∨ (¬ wtB x r = true ∧ RdL l r) := by
  rw [usB_iff]
  unfold RdL
  constructor
  · rintro ⟨i, y, hi, h1, h2⟩
    cases i with
    | zero => simp at hi; subst hi; exact Or.inl h1
    | succ i =>
      rw [List.take_succ_cons, WtL_cons] at h2
      exact Or.inr ⟨fun q => h2 (Or.inl q), i, y, by simpa using hi, h1, fun q => h2 (Or.inr q)⟩
  · rintro (h | ⟨h1, i, y, hi, h2, h3⟩)
    · exact ⟨0, x, rfl, h, by simp [WtL]⟩
    · refine ⟨i + 1, y, by simpa using hi, h2, ?_⟩
      rw [List.take_succ_cons, WtL_cons]
      rintro (q | q)
      · exact h1 q
      · exact h3 q
theorem befL_iff (l : List PI) (s : Nat → Bool) (r : Nat) : befL l s r = true ↔ RdL l r ∨ (s r = true ∧ ¬ WtL l r) := by
  induction l with
  | nil =>
    have h1 : ¬ RdL [] r := by rintro ⟨i, x, hi, -⟩; simp at hi
    have h2 : ¬ WtL [] r := by rintro ⟨x, hx, -⟩; simp at hx
    simp [befL, h1, h2]
  | cons x l ih =>
    rw [RdL_cons, WtL_cons]
    simp only [befL, Bool.or_eq_true, Bool.and_eq_true, Bool.not_eq_true']
    rw [ih]
    cases hu : usB x r <;> cases hw : wtB x r <;> simp
theorem RdQ_iff (p : PP) (r : Nat) : RdQ p r ↔ befL p.ins (cdB p) r = true := by
  rw [befL_iff]
  unfold RdQ cdB
  simp only [Bool.and_eq_true, decide_eq_true_iff, beq_iff_eq]
  constructor
  · rintro (h | ⟨h1, h2, h3⟩)
    · exact Or.inl h
    · exact Or.inr ⟨⟨by omega, h2⟩, h3⟩
  · rintro (h | ⟨⟨h1, h2⟩, h3⟩)
    · exact Or.inl h
    · exact Or.inr ⟨by omega, h2, h3⟩
/-- What is live at a part's beginning, by what is live behind it. -/
theorem li_bef (l : List PP) (k : Nat) (p : PP) (hp : l[k]? = some p) (r : Nat) : liB l k r = befL p.ins (fun r => cdB p r || ouB l k r) r := by
  refine bool_iff ?_
  have h0 := RdQ_iff p r
  rw [befL_iff] at h0
  rw [liB_iff, befL_iff]
  simp only [Bool.or_eq_true, ouB_iff]
  constructor
  · intro h
    cases h with
    | read hp' h1 =>
      rw [hp] at hp'
      injection hp' with hp'
      subst hp'
      rcases h0.1 h1 with q | ⟨q1, q2⟩
      · exact Or.inl q
      · exact Or.inr ⟨Or.inl q1, q2⟩
    | thru hp' hx h1 h2 =>
      rw [hp] at hp'
      injection hp' with hp'
      subst hp'
      exact Or.inr ⟨Or.inr ⟨_, hp, _, hx, h1⟩, h2⟩
  · rintro (h | ⟨h | ⟨p', hp', x, hx, h⟩, h2⟩)
    · exact LiveR.read hp (h0.2 (Or.inl h))
    · exact LiveR.read hp (h0.2 (Or.inr ⟨h, h2⟩))
    · rw [hp] at hp'
      injection hp' with hp'
      subst hp'
      exact LiveR.thru hp hx h h2

theorem heap_new (X : World) (o : Obj) : (X.alloc o).heap[X.heap.size]? = some o := heap_alloc_new X _
theorem heap_at {X : World} {o : Obj} {k : Nat} (h : k = X.heap.size) : (X.alloc o).heap[k]? = some o := by rw [h]; exact heap_new X o
theorem heap_old {X : World} {k : Nat} {o : Obj} (o' : Obj) (h : X.heap[k]? = some o) : (X.alloc o').heap[k]? = some o := by
  rw [Below.heap_alloc X o' k ((Array.getElem?_eq_some_iff.1 h).1)]
  exact h
theorem sok_no (z : Nat) : sok z none 0 0 := ⟨Nat.le_refl _, by decide, fun _ => rfl, by omega⟩
theorem lst_no {α : Type} {sz : Nat} {P : Nat → Nat → α → Prop} {a : Option Addr} : Lst sz P a [] := fun k x e => by simp at e
theorem lst_blk {α : Type} {sz g : Nat} {P : Nat → Nat → α → Prop} {l : List α} (h : ∀ k x, l[k]? = some x → P g (k * sz) x) : Lst sz P (some ⟨g, 0, none⟩) l := fun k x e => ⟨g, 0, rfl, by rw [Nat.zero_add]; exact h k x e⟩
theorem i64_zero : I64 0 := by unfold I64; omega
theorem flat_at {α : Type} {f : α → List Value} {n : Nat} (h : ∀ x, (f x).length = n) : ∀ {l : List α} {k : Nat} {x : α}, l[k]? = some x → ∀ j, j < n → (l.flatMap f)[k * n + j]? = (f x)[j]? := fun {l} => by
  induction l with
  | nil => intro k x hk; simp at hk
  | cons y l ih =>
    intro k x hk j hj
    rw [List.flatMap_cons]
    cases k with
    | zero => simp at hk; subst hk; rw [List.getElem?_append_left (by rw [h]; omega)]; congr 1; omega
    | succ k =>
      have := ih (k := k) (x := x) (by simpa using hk) j hj
      rw [List.getElem?_append_right (by rw [h, Nat.succ_mul]; omega), h, ← this]
      congr 1
      rw [Nat.succ_mul]
      omega
theorem flat_block {α : Type} {f : α → List Value} {n : Nat} (h : ∀ x, (f x).length = n) {l : List α} {W : World} {G : Nat} {t : TypeId} (hh : W.heap[G]? = some (.cells (l.flatMap f).toArray t (0, 0))) {k : Nat} {x : α} (hx : l[k]? = some x) : At W G (k * n) (f x) := fun j hj => by
  rw [cell_of_block hh]
  rw [List.getElem?_toArray]
  exact flat_at h hx j (by rw [h] at hj; exact hj)
theorem PI.len (x : PI) : x.cells.length = 7 := rfl
theorem PP.len (x : PP) : x.cells.length = 5 := rfl
theorem PF.len (x : PF) : x.cells.length = 4 := rfl

def lxs : List PI := [⟨20, 0, 0, 0, 0, 1, [], none, 0⟩, ⟨1, 4, 1, 0, 2, 0, [], none, 0⟩]
def lP (g0 : Nat) : PP := ⟨lxs, true, 1, 0, 0, some ⟨g0, 0, none⟩, 2⟩
def lF (g0 g1 : Nat) : PF := ⟨0, 3, [], [lP g0], none, 0, some ⟨g1, 0, none⟩, 1⟩
def lC (g0 g1 g2 : Nat) : PC := ⟨[], [], [lF g0 g1], none, 0, none, 0, some ⟨g2, 0, none⟩, 1⟩
theorem lC_valid (g0 g1 g2 : Nat) : validP (lC g0 g1 g2) = 0 := rfl
theorem lC_ok {w : World} {g0 g1 g2 : Nat}
    (h0 : w.heap[g0]? = some (.cells (lxs.flatMap PI.cells).toArray 57 (0, 0)))
    (h1 : w.heap[g1]? = some (.cells ([lP g0].flatMap PP.cells).toArray 49 (0, 0)))
    (h2 : w.heap[g2]? = some (.cells ([lF g0 g1].flatMap PF.cells).toArray 39 (0, 0))) : (lC g0 g1 g2).ok w := by
  have z := i64_zero
  have z1 : I64 1 := by unfold I64; omega
  have z2 : I64 2 := by unfold I64; omega
  have z3 : I64 3 := by unfold I64; omega
  have s1 : ∀ g z k, k ≤ 4 → z ≤ 64 → sok z (some ⟨g, 0, none⟩) k k := fun g z k hk hz => ⟨Nat.le_refl _, by unfold maxLen; omega, (fun h => by cases h), by have : k * z ≤ 4 * 64 := Nat.mul_le_mul hk hz; omega⟩
  refine ⟨sok_no _, lst_no, sok_no _, lst_no, s1 _ _ _ (show 1 ≤ 4 by decide) (by decide), lst_blk fun k f hf => ⟨flat_block PF.len h2 hf, ?_⟩⟩
  have hf' := List.mem_of_getElem? hf
  simp [lC] at hf'
  subst hf'
  refine ⟨z, z3, sok_no _, lst_no, s1 _ _ _ (show 1 ≤ 4 by decide) (by decide), lst_blk fun k p hp => ⟨flat_block PP.len h1 hp, ?_⟩⟩
  have hp' := List.mem_of_getElem? hp
  simp [lF] at hp'
  subst hp'
  refine ⟨z1, z, z, s1 _ _ _ (show 2 ≤ 4 by decide) (by decide), lst_blk fun k x hx => ⟨flat_block PI.len h0 hx, ?_⟩⟩
  have hx' := List.mem_of_getElem? hx
  simp [lP, lxs] at hx'
  rcases hx' with rfl | rfl
  · exact ⟨by simp, by simp, z, z, z, z1, sok_no _, lst_no⟩
  · exact ⟨by simp, by simp, z1, z, z2, z, sok_no _, lst_no⟩
set_option maxRecDepth 100000 in
theorem little_any (w : World) : Calls Tryd.prog 19 #[] w fun e w' => ∃ g0 g1 g2, e = .returned (lC g0 g1 g2).v ∧ (lC g0 g1 g2).ok w' ∧ Q w w' := by
  go_enter Tryd.func19, Tryd.ntmps19
  go_wp2
  refine bodyPost_ret (v := (lC (w.heap.size + 1) (w.heap.size + 1 + 1 + 1) (w.heap.size + 1 + 1 + 1 + 1)).v) (by simp [results, Tryd.results19, go_sem, lC]) rfl ?_
  refine ⟨_, _, _, rfl, lC_ok (heap_old _ (heap_old _ (heap_old _ (heap_at (by simp))))) (heap_old _ (heap_at (by simp))) (heap_at (by simp)), ((((Q.refl w).alloc _).alloc _).alloc _).alloc _ |>.alloc _⟩

/-- Is code of a size that is looked at? -/
def fewP (c : PC) : Bool := c.fns.all (fun f => decide (f.regs ≤ 200)) && decide (IntKind.i64.wrap (codeN c) ≤ 400)

set_option maxRecDepth 100000 in
set_option maxHeartbeats 1000000 in
theorem few_any (w : World) (c : PC) (hcok : c.ok w) : Calls Tryd.prog 9 #[c.v] w fun e w' => e = .returned (.bool (fewP c)) ∧ Q w w' := by
  have FN : Hid (∀ (k : Nat) (f : PF), c.fns[k]? = some f → 200 < f.regs → fewP c = false) := fun k f hk hr => by
    unfold fewP
    have : c.fns.all (fun f => decide (f.regs ≤ 200)) = false := by
      rw [List.all_eq_false]
      exact ⟨f, List.mem_of_getElem? hk, by simp; omega⟩
    rw [this]; rfl
  have FY : Hid ((∀ (j : Nat) (g : PF), c.fns[j]? = some g → g.regs ≤ 200) → fewP c = decide (IntKind.i64.wrap (codeN c) ≤ 400)) := fun h => by
    unfold fewP
    have : c.fns.all (fun f => decide (f.regs ≤ 200)) = true := by
      rw [List.all_eq_true]
      intro x hx
      obtain ⟨j, hj, e⟩ := List.mem_iff_getElem.1 hx
      exact decide_eq_true (h j x (by rw [List.getElem?_eq_getElem hj, e]))
    rw [this]; rfl
  have HC := hideIt (fun X (h : Q (bxC w c) X) => bxC_at h)
  have HF := hideIt (fun X (h : Q (bxC w c) X) => Fns.keep ((bxC_q w c).trans h) hcok.fns)
  have CC := hideIt (rcount_any (bxC w c) c (hcok.keep (bxC_q w c)))
  have HQ := hideIt (bxC_q w c)
  have hlen : c.fns.length ≤ 9223372036854775807 := hcok.fsok.len
  generalize IntKind.i64.wrap (codeN c) = n at *
  generalize fewP c = fp at *
  clear hcok
  go_enter Tryd.func9, Tryd.ntmps9
  go_wp2_with (first | (go_at_call 20; refine CC.out.mono ?_; rintro e x ⟨rfl, q1⟩; have HX := hideIt q1; clear q1) | fail)
  go_loopw [4] (fun i wr => ∃ (k : Nat), i = .int .i64 k ∧ k ≤ c.fns.length ∧ Hid (∀ (j : Nat) (g : PF), j < k → c.fns[j]? = some g → g.regs ≤ 200) ∧ wr = x) (fun i _ => c.fns.length - (intOf i).toNat)
  case atStart => exact ⟨0, rfl, by omega, fun j g h => by omega, rfl⟩
  case round =>
    obtain ⟨k, rfl, hk, HA, rfl⟩ := hrel
    obtain ⟨c0, c1, c2⟩ := (HC.out wr HX.out).three
    by_cases hlt : k < c.fns.length
    · obtain ⟨f, hf⟩ := get_of_lt hlt
      obtain ⟨fb, fo, efa, hfat⟩ := (HF.out wr HX.out) k f hf
      have hkl : (k : Int) < (c.fns.length : Int) := by omega
      rw [efa] at c2
      obtain ⟨f0, f1, f2, f3⟩ := hfat.1.four
      have FF := hideIt hf
      clear hf efa hfat
      by_cases h3 : 200 < f.regs
      · go_wp2_with (fail)
        go_ret
        exact ⟨by rw [FN.out k f FF.out h3]; rfl, HQ.out.trans HX.out⟩
      · go_wp2_with (fail)
        go_roundw
        case rel => exact ⟨k + 1, by go_num, by omega, fun j g hj hg => by
          by_cases e : j = k
          · subst e; rw [FF.out] at hg; injection hg with hg; subst hg; omega
          · exact HA.out j g (by omega) hg, trivial⟩
        case measure => simp [intOf]; omega
    · have hkl : ¬ (k : Int) < (c.fns.length : Int) := by omega
      go_wp2_with (fail)
      go_ret
      exact ⟨by rw [FY.out fun j g hg => HA.out j g (by have := (List.getElem?_eq_some_iff.1 hg).1; omega) hg]; rfl, HQ.out.trans HX.out⟩

/-- How many registers a set has. -/
def cnt (p : Nat → Bool) (n : Nat) : Nat := ((List.range n).filter p).length
theorem set_has {w : World} {v : Value} {p : Nat → Bool} {n : Nat} (h : SetIs w v p n) (r : Int) (hr : I64 r) : Calls Tryd.prog 17 #[.agg #[v], .int .i64 r] w fun e w' => e = .returned (.bool (decide (0 ≤ r) && p r.toNat)) ∧ Q w w' := by
  obtain ⟨L, h1, h2, h3, h4, h5⟩ := h
  have := has_any w v L h1 h2 r hr
  rw [h4] at this
  exact this
theorem set_list {w : World} {v : Value} {p : Nat → Bool} {n : Nat} (h : SetIs w v p n) (hT : Tab w) : Calls Tryd.prog 16 #[.agg #[v]] w fun e w' => ∃ ao c, e = .returned (.slice ao (cnt p n) c) ∧ OwnI w.heap.size w' (.slice ao (cnt p n) c) (((List.range n).filter p).map (fun r : Nat => (r : Int))) ∧ Q w w' := by
  obtain ⟨L, h1, h2, h3, h4, h5⟩ := h
  refine (list_any w v L h1 h2 h3 hT).mono ?_
  rintro e w' ⟨nv, rfl, ho, q⟩
  rw [h5] at ho
  obtain ⟨ao, c, rfl⟩ := own_form ho
  rw [List.length_map] at ho ⊢
  exact ⟨ao, c, rfl, ho, q⟩

theorem l_out (g0 : Nat) (r : Nat) : ouB [lP g0] 0 r = false := by
  cases h : ouB [lP g0] 0 r with
  | false => rfl
  | true =>
    obtain ⟨p, hp, x, hx, -⟩ := (ouB_iff _ _ _).1 h
    simp at hp
    subst hp
    simp [waysP, lP] at hx
theorem l_in (g0 : Nat) (r : Nat) (hr : r < 3) : liB [lP g0] 0 r = decide (r = 2) := by
  rw [li_bef [lP g0] 0 (lP g0) rfl r]
  have e : (fun r => cdB (lP g0) r || ouB [lP g0] 0 r) = cdB (lP g0) := by
    funext r
    rw [l_out, Bool.or_false]
  rw [e]
  match r, hr with
  | 0, _ => rfl
  | 1, _ => rfl
  | 2, _ => rfl
theorem l_cnt (g0 : Nat) : cnt (liB [lP g0] 0) 3 = 1 ∧ cnt (ouB [lP g0] 0) 3 = 0 := by
  unfold cnt
  constructor
  · rw [List.filter_congr (q := fun r => decide (r = 2)) (fun r hr => l_in g0 r (List.mem_range.1 hr))]
    rfl
  · rw [List.filter_congr (q := fun _ => false) (fun r _ => l_out g0 r)]
    rfl

set_option maxRecDepth 100000 in
set_option maxHeartbeats 8000000 in
theorem awake_any (w : World) (hT : Tab w) : Calls Tryd.prog 8 #[] w fun e w' => e = .returned (.bool true) ∧ Q w w' := by
  have CL := hideIt (fun X => little_any X)
  have CP : Hid (∀ X g0 g1 g2, (lC g0 g1 g2).ok X → Q w X → Calls Tryd.prog 10 #[(lC g0 g1 g2).v, .int .i64 0] X fun e w' => ∃ bi bo va na ca vb nb cb, e = .returned (.tuple #[.slice (some ⟨bi, 0, none⟩) 1 1, .slice (some ⟨bo, 0, none⟩) 1 1, .int .i64 0]) ∧ w'.cell? ⟨bi, 0, none⟩ = some (.slice va na ca) ∧ w'.cell? ⟨bo, 0, none⟩ = some (.slice vb nb cb) ∧ SetIs w' (.slice va na ca) (liB [lP g0] 0) 3 ∧ SetIs w' (.slice vb nb cb) (ouB [lP g0] 0) 3 ∧ Q w w') := fun X g0 g1 g2 hok hq => by
    refine (parts_is X (lC g0 g1 g2) hok (lC_valid _ _ _) 0 (lF g0 g1) rfl (by simp [codeN, fnN, partN, lC, lF, lP, lxs])).mono ?_
    rintro e w' ⟨bi, bo, rfl, q, h1, h2⟩
    obtain ⟨vi, c1, s1⟩ := h1 0 Nat.zero_lt_one
    obtain ⟨vo, c2, s2⟩ := h2 0 Nat.zero_lt_one
    obtain ⟨va, na, ca, rfl⟩ := s1.form
    obtain ⟨vb, nb, cb, rfl⟩ := s2.form
    exact ⟨bi, bo, va, na, ca, vb, nb, cb, rfl, c1, c2, s1, s2, hq.trans q⟩
  have CH : Hid (∀ X v g0, SetIs X v (liB [lP g0] 0) 3 → Calls Tryd.prog 17 #[.agg #[v], .int .i64 2] X fun e w' => e = .returned (.bool true) ∧ Q X w') := fun X v g0 h => by
    have := set_has h 2 (by unfold I64; omega)
    rw [show (2 : Int).toNat = 2 from rfl, l_in g0 2 (by decide)] at this
    exact this
  have C1 : Hid (∀ X v g0, SetIs X v (liB [lP g0] 0) 3 → Tab X → Calls Tryd.prog 16 #[.agg #[v]] X fun e w' => ∃ ao c, e = .returned (.slice ao 1 c) ∧ Q X w') := fun X v g0 h ht => by
    have := set_list h ht
    rw [(l_cnt g0).1] at this
    exact this.mono fun e w' ⟨ao, c, e1, _, q⟩ => ⟨ao, c, e1, q⟩
  have C2 : Hid (∀ X v g0, SetIs X v (ouB [lP g0] 0) 3 → Tab X → Calls Tryd.prog 16 #[.agg #[v]] X fun e w' => ∃ ao c, e = .returned (.slice ao 0 c) ∧ Q X w') := fun X v g0 h ht => by
    have := set_list h ht
    rw [(l_cnt g0).2] at this
    exact this.mono fun e w' ⟨ao, c, e1, _, q⟩ => ⟨ao, c, e1, q⟩
  have HT := hideIt hT
  clear hT
  go_enter Tryd.func8, Tryd.ntmps8
  go_wp2_with (first
    | (go_at_call 19; refine (CL.out _).mono ?_; rintro e x ⟨g0, g1, g2, rfl, hok, q1⟩; have HK := hideIt hok; have HQ1 := hideIt q1; clear hok q1)
    | (go_at_call 10; refine Calls.mono (CP.out _ _ _ _ HK.out HQ1.out) ?_; rintro e y ⟨bi, bo, va, na, ca, vb, nb, cb, rfl, c1, c2, s1, s2, q2⟩; have S1 := hideIt s1; have S2 := hideIt s2; have HQ2 := hideIt q2; have D2 := hideIt c2; clear q2 s1 s2 c2)
    | (go_at_call 17; refine Calls.mono (CH.out _ _ _ S1.out) ?_; rintro e z ⟨rfl, q3⟩; have HQ3 := hideIt q3; have c3 := cell_keep q3 c1; clear q3 c1)
    | (go_at_call 16; have hh := HQ3; clear hh; first
        | (have hh := HQ4; clear hh; refine Calls.mono (C2.out _ _ _ (S2.out.keep (HQ3.out.trans HQ4.out)) (HT.out.keep (HQ2.out.trans (HQ3.out.trans HQ4.out)))) ?_; rintro e u2 ⟨ao2, k2, rfl, q5⟩; have HQ5 := hideIt q5; clear q5)
        | (refine Calls.mono (C1.out _ _ _ (S1.out.keep HQ3.out) (HT.out.keep (HQ2.out.trans HQ3.out))) ?_; rintro e u ⟨ao1, k1, rfl, q4⟩; have HQ4 := hideIt q4; have c4 := cell_keep (HQ3.out.trans q4) D2.out; clear q4 c3))
    | fail)
  go_ret
  exact ⟨rfl, HQ2.out.trans (HQ3.out.trans (HQ4.out.trans HQ5.out))⟩

end Go.Proofs.YtdiidmmmemmjjaaDoor.Lv

namespace Go.Proofs.YtdiidmmmemmjjaaDoor.Lv
open Go.RowKit
set_option linter.unusedVariables false

def Cds (w : World) (b : Nat) (c : PC) : Prop := w.cell? ⟨b, 0, none⟩ = some (.slice c.ga c.gl.length c.gc) ∧ w.cell? ⟨b, 1, none⟩ = some (.slice c.na c.ini.length c.nc) ∧ w.cell? ⟨b, 2, none⟩ = some (.slice c.fa c.fns.length c.fc)
theorem cds_box (w : World) (c : PC) : Cds (bxC w c) w.heap.size c := (bxC_at (Q.refl _)).three
theorem Cds.keep {w w' : World} {b : Nat} {c : PC} (h : Cds w b c) (q : Q w w') : Cds w' b c := ⟨cell_keep q h.1, cell_keep q h.2.1, cell_keep q h.2.2⟩

set_option maxRecDepth 100000 in
set_option maxHeartbeats 8000000 in
theorem after_few (c : PC) (n : Int) (w : World) (hcok : c.ok w) (hT : Tab w) (hf : fewP c = false) : Calls Tryd.prog 4 #[c.v, .int .u8 n] w fun e w' => e = .returned (.bool true) ∧ Below w.heap.size w w' := by
  have HB : Hid (∀ X, Q (bxC w c) X → Cds X w.heap.size c) := fun X h => (cds_box w c).keep h
  have qB := hideIt (bxC_q w c)
  have CA : Hid (∀ X, Q (bxC w c) X → Calls Tryd.prog 8 #[] X fun e w' => e = .returned (.bool true) ∧ Q X w') := fun X h => awake_any X (hT.keep ((bxC_q w c).trans h))
  have CF : Hid (∀ X, Q (bxC w c) X → Calls Tryd.prog 9 #[c.v] X fun e w' => e = .returned (.bool false) ∧ Q X w') := fun X h => by have := few_any X c (hcok.keep ((bxC_q w c).trans h)); rw [hf] at this; exact this
  generalize hBB : bxC w c = B at *
  have HBB := hideIt hBB
  clear hcok hBB hf hT
  go_enter Tryd.func4, Tryd.ntmps4
  go_wp2_with (fail)
  rw [show w.alloc (.cells #[.slice c.ga c.gl.length c.gc, .slice c.na c.ini.length c.nc, .slice c.fa c.fns.length c.fc] 26) = B from HBB.out]
  go_wp2_with (first
    | (go_at_call 8; first
        | (have hh := HY; clear hh; refine Calls.mono (CA.out _ HY.out) ?_; rintro e z ⟨rfl, q1⟩; have HZ := hideIt (HY.out.trans q1); clear q1)
        | (refine Calls.mono (CA.out _ (Q.refl _)) ?_; rintro e x1 ⟨rfl, q1⟩; have HX := hideIt q1; obtain ⟨s1, s2, s3⟩ := HB.out x1 q1; clear q1))
    | (go_at_call 9; refine Calls.mono (CF.out _ HX.out) ?_; rintro e y ⟨rfl, q1⟩; have HY := hideIt (HX.out.trans q1); clear q1 s1 s2 s3; obtain ⟨s1, s2, s3⟩ := HB.out y HY.out)
    | fail)
  go_ret
  exact ⟨rfl, qB.out.trans HZ.out⟩

set_option maxRecDepth 100000 in
set_option maxHeartbeats 8000000 in
theorem after_bad (c : PC) (n : Int) (w : World) (hcok : c.ok w) (hT : Tab w) (hf : fewP c = true) (hv : validP c ≠ 0) : Calls Tryd.prog 4 #[c.v, .int .u8 n] w fun e w' => e = .returned (.bool true) ∧ Below w.heap.size w w' := by
  have HB : Hid (∀ X, Q (bxC w c) X → Cds X w.heap.size c) := fun X h => (cds_box w c).keep h
  have qB := hideIt (bxC_q w c)
  have CA : Hid (∀ X, Q (bxC w c) X → Calls Tryd.prog 8 #[] X fun e w' => e = .returned (.bool true) ∧ Q X w') := fun X h => awake_any X (hT.keep ((bxC_q w c).trans h))
  have CF : Hid (∀ X, Q (bxC w c) X → Calls Tryd.prog 9 #[c.v] X fun e w' => e = .returned (.bool true) ∧ Q X w') := fun X h => by have := few_any X c (hcok.keep ((bxC_q w c).trans h)); rw [hf] at this; exact this
  have CV : Hid (∀ X, Q (bxC w c) X → Calls Tryd.prog 11 #[c.v] X fun e w' => e = .returned (.int .i64 (validP c)) ∧ Q X w') := fun X h => rvalid_any X c (hcok.keep ((bxC_q w c).trans h))
  generalize validP c = vv at *
  have hv1 : (vv != 0) = true := by simpa using hv
  have hv2 : (vv == 0) = false := by simpa using hv
  generalize hBB : bxC w c = B at *
  have HBB := hideIt hBB
  clear hcok hBB hf hT hv
  go_enter Tryd.func4, Tryd.ntmps4
  go_wp2_with (fail)
  rw [show w.alloc (.cells #[.slice c.ga c.gl.length c.gc, .slice c.na c.ini.length c.nc, .slice c.fa c.fns.length c.fc] 26) = B from HBB.out]
  go_wp2_with (first
    | (go_at_call 8; first
        | (have hh := HY; clear hh; refine Calls.mono (CA.out _ HY.out) ?_; rintro e z ⟨rfl, q1⟩; have HZ := hideIt (HY.out.trans q1); clear q1)
        | (refine Calls.mono (CA.out _ (Q.refl _)) ?_; rintro e x1 ⟨rfl, q1⟩; have HX := hideIt q1; obtain ⟨s1, s2, s3⟩ := HB.out x1 q1; clear q1))
    | (go_at_call 9; refine Calls.mono (CF.out _ HX.out) ?_; rintro e y ⟨rfl, q1⟩; have HW := hideIt (HX.out.trans q1); clear q1 s1 s2 s3; obtain ⟨s1, s2, s3⟩ := HB.out y HW.out)
    | (go_at_call 11; refine Calls.mono (CV.out _ HW.out) ?_; rintro e y2 ⟨rfl, q1⟩; have HY := hideIt (HW.out.trans q1); clear q1 s1 s2 s3)
    | fail)
  go_ret
  exact ⟨rfl, qB.out.trans HZ.out⟩

set_option maxRecDepth 100000 in
set_option maxHeartbeats 8000000 in
theorem keeps_few (c : PC) (n r : Int) (w : World) (hcok : c.ok w) (hT : Tab w) (hf : fewP c = false) : Calls Tryd.prog 5 #[c.v, .int .u8 n, .int .i64 r] w fun e w' => e = .returned (.bool true) ∧ Below w.heap.size w w' := by
  have HB : Hid (∀ X, Q (bxC w c) X → Cds X w.heap.size c) := fun X h => (cds_box w c).keep h
  have qB := hideIt (bxC_q w c)
  have CA : Hid (∀ X, Q (bxC w c) X → Calls Tryd.prog 8 #[] X fun e w' => e = .returned (.bool true) ∧ Q X w') := fun X h => awake_any X (hT.keep ((bxC_q w c).trans h))
  have CF : Hid (∀ X, Q (bxC w c) X → Calls Tryd.prog 9 #[c.v] X fun e w' => e = .returned (.bool false) ∧ Q X w') := fun X h => by have := few_any X c (hcok.keep ((bxC_q w c).trans h)); rw [hf] at this; exact this
  generalize hBB : bxC w c = B at *
  have HBB := hideIt hBB
  clear hcok hBB hf hT
  go_enter Tryd.func5, Tryd.ntmps5
  go_wp2_with (fail)
  rw [show w.alloc (.cells #[.slice c.ga c.gl.length c.gc, .slice c.na c.ini.length c.nc, .slice c.fa c.fns.length c.fc] 26) = B from HBB.out]
  go_wp2_with (first
    | (go_at_call 8; first
        | (have hh := HY; clear hh; refine Calls.mono (CA.out _ HY.out) ?_; rintro e z ⟨rfl, q1⟩; have HZ := hideIt (HY.out.trans q1); clear q1)
        | (refine Calls.mono (CA.out _ (Q.refl _)) ?_; rintro e x1 ⟨rfl, q1⟩; have HX := hideIt q1; obtain ⟨s1, s2, s3⟩ := HB.out x1 q1; clear q1))
    | (go_at_call 9; refine Calls.mono (CF.out _ HX.out) ?_; rintro e y ⟨rfl, q1⟩; have HY := hideIt (HX.out.trans q1); clear q1 s1 s2 s3; obtain ⟨s1, s2, s3⟩ := HB.out y HY.out)
    | fail)
  go_ret
  exact ⟨rfl, qB.out.trans HZ.out⟩

set_option maxRecDepth 100000 in
set_option maxHeartbeats 8000000 in
theorem keeps_bad (c : PC) (n r : Int) (w : World) (hcok : c.ok w) (hT : Tab w) (hf : fewP c = true) (hv : validP c ≠ 0) : Calls Tryd.prog 5 #[c.v, .int .u8 n, .int .i64 r] w fun e w' => e = .returned (.bool true) ∧ Below w.heap.size w w' := by
  have HB : Hid (∀ X, Q (bxC w c) X → Cds X w.heap.size c) := fun X h => (cds_box w c).keep h
  have qB := hideIt (bxC_q w c)
  have CA : Hid (∀ X, Q (bxC w c) X → Calls Tryd.prog 8 #[] X fun e w' => e = .returned (.bool true) ∧ Q X w') := fun X h => awake_any X (hT.keep ((bxC_q w c).trans h))
  have CF : Hid (∀ X, Q (bxC w c) X → Calls Tryd.prog 9 #[c.v] X fun e w' => e = .returned (.bool true) ∧ Q X w') := fun X h => by have := few_any X c (hcok.keep ((bxC_q w c).trans h)); rw [hf] at this; exact this
  have CV : Hid (∀ X, Q (bxC w c) X → Calls Tryd.prog 11 #[c.v] X fun e w' => e = .returned (.int .i64 (validP c)) ∧ Q X w') := fun X h => rvalid_any X c (hcok.keep ((bxC_q w c).trans h))
  generalize validP c = vv at *
  have hv1 : (vv != 0) = true := by simpa using hv
  have hv2 : (vv == 0) = false := by simpa using hv
  generalize hBB : bxC w c = B at *
  have HBB := hideIt hBB
  clear hcok hBB hf hT hv
  go_enter Tryd.func5, Tryd.ntmps5
  go_wp2_with (fail)
  rw [show w.alloc (.cells #[.slice c.ga c.gl.length c.gc, .slice c.na c.ini.length c.nc, .slice c.fa c.fns.length c.fc] 26) = B from HBB.out]
  go_wp2_with (first
    | (go_at_call 8; first
        | (have hh := HY; clear hh; refine Calls.mono (CA.out _ HY.out) ?_; rintro e z ⟨rfl, q1⟩; have HZ := hideIt (HY.out.trans q1); clear q1)
        | (refine Calls.mono (CA.out _ (Q.refl _)) ?_; rintro e x1 ⟨rfl, q1⟩; have HX := hideIt q1; obtain ⟨s1, s2, s3⟩ := HB.out x1 q1; clear q1))
    | (go_at_call 9; refine Calls.mono (CF.out _ HX.out) ?_; rintro e y ⟨rfl, q1⟩; have HW := hideIt (HX.out.trans q1); clear q1 s1 s2 s3; obtain ⟨s1, s2, s3⟩ := HB.out y HW.out)
    | (go_at_call 11; refine Calls.mono (CV.out _ HW.out) ?_; rintro e y2 ⟨rfl, q1⟩; have HY := hideIt (HW.out.trans q1); clear q1 s1 s2 s3)
    | fail)
  go_ret
  exact ⟨rfl, qB.out.trans HZ.out⟩

set_option maxRecDepth 100000 in
set_option maxHeartbeats 8000000 in
theorem reads_few (c : PC) (n : Int) (w : World) (hcok : c.ok w) (hT : Tab w) (hf : fewP c = false) : Calls Tryd.prog 6 #[c.v, .int .u8 n] w fun e w' => e = .returned (.bool true) ∧ Below w.heap.size w w' := by
  have HB : Hid (∀ X, Q (bxC w c) X → Cds X w.heap.size c) := fun X h => (cds_box w c).keep h
  have qB := hideIt (bxC_q w c)
  have CA : Hid (∀ X, Q (bxC w c) X → Calls Tryd.prog 8 #[] X fun e w' => e = .returned (.bool true) ∧ Q X w') := fun X h => awake_any X (hT.keep ((bxC_q w c).trans h))
  have CF : Hid (∀ X, Q (bxC w c) X → Calls Tryd.prog 9 #[c.v] X fun e w' => e = .returned (.bool false) ∧ Q X w') := fun X h => by have := few_any X c (hcok.keep ((bxC_q w c).trans h)); rw [hf] at this; exact this
  generalize hBB : bxC w c = B at *
  have HBB := hideIt hBB
  clear hcok hBB hf hT
  go_enter Tryd.func6, Tryd.ntmps6
  go_wp2_with (fail)
  rw [show w.alloc (.cells #[.slice c.ga c.gl.length c.gc, .slice c.na c.ini.length c.nc, .slice c.fa c.fns.length c.fc] 26) = B from HBB.out]
  go_wp2_with (first
    | (go_at_call 8; first
        | (have hh := HY; clear hh; refine Calls.mono (CA.out _ HY.out) ?_; rintro e z ⟨rfl, q1⟩; have HZ := hideIt (HY.out.trans q1); clear q1)
        | (refine Calls.mono (CA.out _ (Q.refl _)) ?_; rintro e x1 ⟨rfl, q1⟩; have HX := hideIt q1; obtain ⟨s1, s2, s3⟩ := HB.out x1 q1; clear q1))
    | (go_at_call 9; refine Calls.mono (CF.out _ HX.out) ?_; rintro e y ⟨rfl, q1⟩; have HY := hideIt (HX.out.trans q1); clear q1 s1 s2 s3; obtain ⟨s1, s2, s3⟩ := HB.out y HY.out)
    | fail)
  go_ret
  exact ⟨rfl, qB.out.trans HZ.out⟩

set_option maxRecDepth 100000 in
set_option maxHeartbeats 8000000 in
theorem reads_bad (c : PC) (n : Int) (w : World) (hcok : c.ok w) (hT : Tab w) (hf : fewP c = true) (hv : validP c ≠ 0) : Calls Tryd.prog 6 #[c.v, .int .u8 n] w fun e w' => e = .returned (.bool true) ∧ Below w.heap.size w w' := by
  have HB : Hid (∀ X, Q (bxC w c) X → Cds X w.heap.size c) := fun X h => (cds_box w c).keep h
  have qB := hideIt (bxC_q w c)
  have CA : Hid (∀ X, Q (bxC w c) X → Calls Tryd.prog 8 #[] X fun e w' => e = .returned (.bool true) ∧ Q X w') := fun X h => awake_any X (hT.keep ((bxC_q w c).trans h))
  have CF : Hid (∀ X, Q (bxC w c) X → Calls Tryd.prog 9 #[c.v] X fun e w' => e = .returned (.bool true) ∧ Q X w') := fun X h => by have := few_any X c (hcok.keep ((bxC_q w c).trans h)); rw [hf] at this; exact this
  have CV : Hid (∀ X, Q (bxC w c) X → Calls Tryd.prog 11 #[c.v] X fun e w' => e = .returned (.int .i64 (validP c)) ∧ Q X w') := fun X h => rvalid_any X c (hcok.keep ((bxC_q w c).trans h))
  generalize validP c = vv at *
  have hv1 : (vv != 0) = true := by simpa using hv
  have hv2 : (vv == 0) = false := by simpa using hv
  generalize hBB : bxC w c = B at *
  have HBB := hideIt hBB
  clear hcok hBB hf hT hv
  go_enter Tryd.func6, Tryd.ntmps6
  go_wp2_with (fail)
  rw [show w.alloc (.cells #[.slice c.ga c.gl.length c.gc, .slice c.na c.ini.length c.nc, .slice c.fa c.fns.length c.fc] 26) = B from HBB.out]
  go_wp2_with (first
    | (go_at_call 8; first
        | (have hh := HY; clear hh; refine Calls.mono (CA.out _ HY.out) ?_; rintro e z ⟨rfl, q1⟩; have HZ := hideIt (HY.out.trans q1); clear q1)
        | (refine Calls.mono (CA.out _ (Q.refl _)) ?_; rintro e x1 ⟨rfl, q1⟩; have HX := hideIt q1; obtain ⟨s1, s2, s3⟩ := HB.out x1 q1; clear q1))
    | (go_at_call 9; refine Calls.mono (CF.out _ HX.out) ?_; rintro e y ⟨rfl, q1⟩; have HW := hideIt (HX.out.trans q1); clear q1 s1 s2 s3; obtain ⟨s1, s2, s3⟩ := HB.out y HW.out)
    | (go_at_call 11; refine Calls.mono (CV.out _ HW.out) ?_; rintro e y2 ⟨rfl, q1⟩; have HY := hideIt (HW.out.trans q1); clear q1 s1 s2 s3)
    | fail)
  go_ret
  exact ⟨rfl, qB.out.trans HZ.out⟩

end Go.Proofs.YtdiidmmmemmjjaaDoor.Lv
