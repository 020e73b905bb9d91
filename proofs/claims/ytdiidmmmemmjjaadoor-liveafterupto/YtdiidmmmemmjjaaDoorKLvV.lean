/-
  Words of 64 bits: what or, andNot, and are, bit by bit; how many bits there are: facts on numbers; no conditions but their bounds.
  Going back, plainly: what a push of bits of one word does to a list; begin and end as changes of what is live: facts on lists; no conditions but those that each fact bears.
  Going back, plainly: what holds while it goes (Inv), and one step of it: facts on lists; no conditions but those that each fact bears.
  Going back, plainly: begin and end are steps; what holds is kept (Keeps): facts on lists; no conditions but those that each fact bears.
  Going back, plainly: what holds is kept (Keeps), from the first on: facts on lists; the conditions: the lists of a word, in range and none empty.
  All of a word's registers that are live, just these (back of live): a contract over the program; the conditions: the walk lies in memory, its lists are fit.
-/
import Derived.Test.YtdiidmmmemmjjaaDoorKLvG
namespace Go.Proofs.YtdiidmmmemmjjaaDoor.Lv
open Go.RowKit
set_option linter.unusedVariables false

def U64 (x : Int) : Prop := 0 ≤ x ∧ x < 18446744073709551616
def tb (x : Int) (b : Nat) : Bool := x.toNat.testBit b
theorem ofInt_nat {x : Int} (h : U64 x) : (BitVec.ofInt 64 x).toNat = x.toNat := by
  obtain ⟨h1, h2⟩ := h
  rw [BitVec.toNat_ofInt]
  omega
theorem wrap_nat (n : Nat) (h : n < 2 ^ 64) : IntKind.u64.wrap (n : Int) = (n : Int) := by
  rw [IntKind.wrap_u64]
  omega
theorem or_eq {x y : Int} (hx : U64 x) (hy : U64 y) : bits .or .u64 x y = ((x.toNat ||| y.toNat : Nat) : Int) := by
  have d : bits .or .u64 x y = IntKind.u64.wrap (((BitVec.ofInt 64 x ||| BitVec.ofInt 64 y).toNat : Nat) : Int) := rfl
  rw [d, wrap_nat _ (BitVec.isLt _), BitVec.toNat_or, ofInt_nat hx, ofInt_nat hy]
theorem and_eq {x y : Int} (hx : U64 x) (hy : U64 y) : bits .and .u64 x y = ((x.toNat &&& y.toNat : Nat) : Int) := by
  have d : bits .and .u64 x y = IntKind.u64.wrap (((BitVec.ofInt 64 x &&& BitVec.ofInt 64 y).toNat : Nat) : Int) := rfl
  rw [d, wrap_nat _ (BitVec.isLt _), BitVec.toNat_and, ofInt_nat hx, ofInt_nat hy]
theorem andNot_eq {x y : Int} (hx : U64 x) (hy : U64 y) : bits .andNot .u64 x y = (((BitVec.ofInt 64 x &&& ~~~ BitVec.ofInt 64 y).toNat : Nat) : Int) := by
  have d : bits .andNot .u64 x y = IntKind.u64.wrap (((BitVec.ofInt 64 x &&& ~~~ BitVec.ofInt 64 y).toNat : Nat) : Int) := rfl
  rw [d, wrap_nat _ (BitVec.isLt _)]
theorem U64.nat {n : Nat} (h : n < 2 ^ 64) : U64 (n : Int) := ⟨by omega, by omega⟩
theorem U64.lt {x : Int} (h : U64 x) : x.toNat < 2 ^ 64 := by obtain ⟨h1, h2⟩ := h; omega
theorem tb_hi {x : Int} (h : U64 x) {b : Nat} (hb : 64 ≤ b) : tb x b = false := Nat.testBit_lt_two_pow (Nat.lt_of_lt_of_le h.lt (Nat.pow_le_pow_right (by omega) hb))
theorem U64.or {x y : Int} (hx : U64 x) (hy : U64 y) : U64 (bits .or .u64 x y) := by rw [or_eq hx hy]; exact U64.nat (Nat.or_lt_two_pow hx.lt hy.lt)
theorem U64.and {x y : Int} (hx : U64 x) (hy : U64 y) : U64 (bits .and .u64 x y) := by rw [and_eq hx hy]; exact U64.nat (Nat.and_lt_two_pow _ hy.lt)
theorem U64.andNot {x y : Int} (hx : U64 x) (hy : U64 y) : U64 (bits .andNot .u64 x y) := by rw [andNot_eq hx hy]; exact U64.nat (BitVec.isLt _)
theorem tb_or {x y : Int} (hx : U64 x) (hy : U64 y) (b : Nat) : tb (bits .or .u64 x y) b = (tb x b || tb y b) := by rw [or_eq hx hy]; simp [tb]
theorem tb_and {x y : Int} (hx : U64 x) (hy : U64 y) (b : Nat) : tb (bits .and .u64 x y) b = (tb x b && tb y b) := by rw [and_eq hx hy]; simp [tb]
theorem tb_andNot {x y : Int} (hx : U64 x) (hy : U64 y) (b : Nat) : tb (bits .andNot .u64 x y) b = (tb x b && !tb y b) := by
  by_cases hb : b < 64
  · rw [andNot_eq hx hy]
    unfold tb
    rw [Int.toNat_natCast, BitVec.toNat_and, Nat.testBit_and, ofInt_nat hx]
    congr 1
    have h1 : (~~~ BitVec.ofInt 64 y).toNat.testBit b = (~~~ BitVec.ofInt 64 y).getLsbD b := rfl
    rw [h1, BitVec.getLsbD_not]
    have h2 : (BitVec.ofInt 64 y).getLsbD b = (BitVec.ofInt 64 y).toNat.testBit b := rfl
    rw [h2, ofInt_nat hy]
    simp [hb]
  · rw [tb_hi (hx.andNot hy) (by omega), tb_hi hx (by omega)]
    rfl
theorem tb_zero (b : Nat) : tb 0 b = false := by simp [tb]
theorem tb_ext {x y : Int} (hx : U64 x) (hy : U64 y) (h : ∀ b, tb x b = tb y b) : x = y := by
  have := Nat.eq_of_testBit_eq h
  have h1 := hx.1
  have h2 := hy.1
  omega
theorem ne_zero_tb {x : Int} (hx : U64 x) (h : x ≠ 0) : ∃ b, b < 64 ∧ tb x b = true := by
  by_cases hn : ∃ b, b < 64 ∧ tb x b = true
  · exact hn
  · refine absurd (tb_ext hx ⟨by omega, by omega⟩ (fun b => ?_)) h
    rw [tb_zero]
    by_cases hb : b < 64
    · cases ht : tb x b with
      | false => rfl
      | true => exact absurd ⟨b, hb, ht⟩ hn
    · exact tb_hi hx (by omega)
/-- How many bits there are not. -/
def miss (x : Int) : Nat := (List.range 64).countP (fun b => !tb x b)
theorem countP_lt {α : Type} {l : List α} {p q : α → Bool} (h : ∀ x ∈ l, p x = true → q x = true) {y : α} (hy : y ∈ l) (h1 : p y = false) (h2 : q y = true) : l.countP p < l.countP q := by
  induction l with
  | nil => cases hy
  | cons x l ih =>
    have hle : l.countP p ≤ l.countP q := List.countP_mono_left (fun z hz hp => h z (List.mem_cons_of_mem _ hz) hp)
    rw [List.countP_cons, List.countP_cons]
    rcases List.mem_cons.1 hy with rfl | hy
    · simp [h1, h2]; omega
    · have := ih (fun z hz => h z (List.mem_cons_of_mem _ hz)) hy
      have hx := h x (List.mem_cons_self ..)
      cases hp : p x with
      | false => simp; split <;> omega
      | true => rw [hx hp]; simp; omega
theorem miss_le {x y : Int} (h : ∀ b, tb x b = true → tb y b = true) : miss y ≤ miss x := List.countP_mono_left (fun b _ hp => by
  cases ht : tb x b with
  | false => rfl
  | true => simp [h b ht] at hp)
theorem miss_lt {x y : Int} (h : ∀ b, tb x b = true → tb y b = true) {b : Nat} (hb : b < 64) (h1 : tb x b = false) (h2 : tb y b = true) : miss y < miss x := countP_lt (fun c _ hp => by
  cases ht : tb x c with
  | false => rfl
  | true => simp [h c ht] at hp) (List.mem_range.2 hb) (by simp [h2]) (by simp [h1])

end Go.Proofs.YtdiidmmmemmjjaaDoor.Lv

namespace Go.Proofs.YtdiidmmmemmjjaaDoor.Lv
open Go.RowKit
set_option linter.unusedVariables false

/-- A list is what it was, or one word more. -/
def Sh (a : Nat) (l0 l : List (Int × Int)) : Prop := lastOf l0 a = 0 ∧ (l = l0 ∨ ∃ x, U64 x ∧ x ≠ 0 ∧ l = l0 ++ [((a : Int), x)])
theorem last_snoc (l : List (Int × Int)) (a : Nat) (x : Int) : lastOf (l ++ [((a : Int), x)]) a = x := by simp [lastOf]
theorem U64.zero : U64 0 := ⟨by omega, by omega⟩
theorem Sh.u {a : Nat} {l0 l : List (Int × Int)} (h : Sh a l0 l) : U64 (lastOf l a) := by
  obtain ⟨h0, rfl | ⟨x, hx, -, rfl⟩⟩ := h
  · rw [h0]; exact U64.zero
  · rw [last_snoc]; exact hx
theorem Sh.len {a : Nat} {l0 l : List (Int × Int)} (h : Sh a l0 l) : l.length ≤ l0.length + 1 := by
  obtain ⟨h0, rfl | ⟨x, hx, -, rfl⟩⟩ := h
  · omega
  · simp
theorem or_ne {x y : Int} (hx : U64 x) (hy : U64 y) (h : x ≠ 0) : bits .or .u64 x y ≠ 0 := fun e => by
  obtain ⟨b, -, hb⟩ := ne_zero_tb hx h
  have := tb_or hx hy b
  rw [e, tb_zero, hb] at this
  simp at this
theorem Sh.push {a : Nat} {l0 l : List (Int × Int)} (h : Sh a l0 l) {y : Int} (hy : U64 y) (hn : y ≠ 0) : Sh a l0 (pushL l ((a : Int), y)) ∧ (∀ b, tb (lastOf (pushL l ((a : Int), y)) a) b = (tb (lastOf l a) b || tb y b)) ∧ lastOf (pushL l ((a : Int), y)) a ≠ 0 := by
  obtain ⟨h0, rfl | ⟨x, hx, hxn, rfl⟩⟩ := h
  · unfold pushL
    rw [if_pos h0]
    refine ⟨⟨h0, Or.inr ⟨y, hy, hn, rfl⟩⟩, fun b => ?_, ?_⟩
    · rw [last_snoc, h0, tb_zero]; rfl
    · rw [last_snoc]; exact hn
  · unfold pushL
    rw [last_snoc, if_neg hxn, List.dropLast_concat]
    refine ⟨⟨h0, Or.inr ⟨_, hx.or hy, or_ne hx hy hxn, rfl⟩⟩, fun b => ?_, ?_⟩
    · rw [last_snoc, tb_or hx hy]
    · rw [last_snoc]; exact or_ne hx hy hxn
theorem Sh.new {a : Nat} {l0 l : List (Int × Int)} (h : Sh a l0 l) {y : Int} (hy : U64 y) (hn : y ≠ 0) (ht : newP l ((a : Int), y) = true) : ∃ b, b < 64 ∧ tb (lastOf l a) b = false ∧ tb y b = true := by
  unfold newP at ht
  dsimp only at ht
  split at ht
  · rename_i h0
    obtain ⟨b, hb, hb2⟩ := ne_zero_tb hy hn
    exact ⟨b, hb, by rw [h0, tb_zero], hb2⟩
  · obtain ⟨b, hb, hb2⟩ := ne_zero_tb (hy.andNot h.u) (by simpa using ht)
    rw [tb_andNot hy h.u] at hb2
    simp at hb2
    exact ⟨b, hb, hb2.2, hb2.1⟩
theorem Sh.old {a : Nat} {l0 l : List (Int × Int)} (h : Sh a l0 l) {y : Int} (hy : U64 y) (ht : newP l ((a : Int), y) = false) : ∀ b, tb y b = true → tb (lastOf l a) b = true := fun b hb => by
  unfold newP at ht
  dsimp only at ht
  split at ht
  · cases ht
  · have e : bits .andNot .u64 y (lastOf l a) = 0 := by simpa using ht
    have := tb_andNot hy h.u b
    rw [e, tb_zero, hb] at this
    simpa using this.symm

/-- What is live behind a part's end, and at its beginning: the least that there is. -/
inductive Live (R W F : Nat → Nat → Prop) : Nat → Nat → Prop where
  | read {k b : Nat} : R k b → Live R W F k b
  | thru {k p b : Nat} : F k p → Live R W F k b → ¬ W p b → Live R W F p b

/-- The sum over all parts. -/
def sumK (many : Nat) (f : Nat → Nat) : Nat := ((List.range many).map f).sum
theorem sumK_le {f g : Nat → Nat} : ∀ {many : Nat}, (∀ k, k < many → g k ≤ f k) → sumK many g ≤ sumK many f := fun {many} h => by
  induction many with
  | zero => simp [sumK]
  | succ n ih =>
    have h1 := ih (fun k hk => h k (by omega))
    have h2 := h n (by omega)
    simp only [sumK, List.range_succ, List.map_append, List.sum_append, List.map_cons, List.map_nil, List.sum_cons, List.sum_nil] at h1 ⊢
    omega
theorem sumK_lt {f g : Nat → Nat} : ∀ {many : Nat}, (∀ k, k < many → g k ≤ f k) → ∀ {p d : Nat}, p < many → g p + d ≤ f p → sumK many g + d ≤ sumK many f := fun {many} h => by
  induction many with
  | zero => intro p d hp; omega
  | succ n ih =>
    intro p d hp hd
    have h2 := h n (by omega)
    by_cases e : p = n
    · subst e
      have h1 := sumK_le (f := f) (g := g) (many := p) (fun k hk => h k (by omega))
      simp only [sumK, List.range_succ, List.map_append, List.sum_append, List.map_cons, List.map_nil, List.sum_cons, List.sum_nil] at h1 ⊢
      omega
    · have h1 := ih (fun k hk => h k (by omega)) (p := p) (d := d) (by omega) hd
      simp only [sumK, List.range_succ, List.map_append, List.sum_append, List.map_cons, List.map_nil, List.sum_cons, List.sum_nil] at h1 ⊢
      omega

end Go.Proofs.YtdiidmmmemmjjaaDoor.Lv

namespace Go.Proofs.YtdiidmmmemmjjaaDoor.Lv
open Go.RowKit
set_option linter.unusedVariables false

def tI (es : Es) (a k b : Nat) : Prop := tb (lastOf (es (.inn k)) a) b = true
def tO (es : Es) (a k b : Nat) : Prop := tb (lastOf (es (.out k)) a) b = true
def tW (wo : List Int) (k b : Nat) : Prop := tb ((wo[k]?).getD 0) b = true
def tF (es0 : Es) (k p : Nat) : Prop := ∃ x ∈ es0 (.fr k), x.1 = (p : Int)
def tR (l : List (Int × Int)) (k b : Nat) : Prop := ∃ x ∈ l, x.1 = (k : Int) ∧ tb x.2 b = true
abbrev LV (a : Nat) (wo : List Int) (es0 : Es) : Nat → Nat → Prop := Live (tR (es0 (.rd a))) (tW wo) (tF es0)
def muE (many a : Nat) (es : Es) : Nat := sumK many (fun k => 2 * miss (lastOf (es (.inn k)) a) + miss (lastOf (es (.out k)) a)) + (es .work).length

/-- What holds while it goes back. -/
structure Inv (many a : Nat) (wo : List Int) (es0 : Es) (M : Nat) (cl : Nat → Int × Int → Prop) (Rs : List (Int × Int)) (es : Es) : Prop where
  inn : ∀ k, k < many → Sh a (es0 (.inn k)) (es (.inn k))
  out : ∀ k, k < many → Sh a (es0 (.out k)) (es (.out k))
  oth : ∀ m, m.lv = false → es m = es0 m
  wk : ∀ e ∈ es .work, inM many e.1 ∧ lastOf (es (.inn e.1.toNat)) a ≠ 0
  sI : ∀ k, k < many → ∀ b, tI es a k b → LV a wo es0 k b
  sO : ∀ k, k < many → ∀ b, tO es a k b → ∃ s, s < many ∧ tF es0 s k ∧ LV a wo es0 s b
  rd : ∀ x ∈ Rs, ∀ b, tb x.2 b = true → tI es a x.1.toNat b
  thru : ∀ k, k < many → ∀ b, tO es a k b → ¬ tW wo k b → tI es a k b
  clos : ∀ k, k < many → (∀ e ∈ es .work, e.1 ≠ (k : Int)) → ∀ x ∈ es0 (.fr k), cl k x → ∀ b, tI es a k b → tO es a x.1.toNat b
  mu : muE many a es ≤ M

/-- One step, at one part. -/
structure Stp (many a : Nat) (p : Nat) (es es' : Es) : Prop where
  oth : ∀ m, m ≠ .inn p → m ≠ .out p → m ≠ .work → es' m = es m
  mI : ∀ b, tI es a p b → tI es' a p b
  mO : ∀ b, tO es a p b → tO es' a p b
  work : (es' .work = es .work ∧ ∀ b, tI es' a p b → tI es a p b) ∨ es' .work = es .work ++ [((p : Int), 0)]
  ne : es' .work = es .work ++ [((p : Int), 0)] → lastOf (es' (.inn p)) a ≠ 0
  mu : muE many a es' ≤ muE many a es

theorem lv_inn (k : Nat) : (Nm.inn k).lv = true := rfl
theorem lv_out (k : Nat) : (Nm.out k).lv = true := rfl
section
variable {many a p : Nat} {wo : List Int} {es0 es es' : Es} {M : Nat} {cl cl' : Nat → Int × Int → Prop} {Rs Rs' : List (Int × Int)}
theorem Stp.inn (h : Stp many a p es es') {k : Nat} (hk : k ≠ p) : es' (.inn k) = es (.inn k) := h.oth _ (fun e => hk (by injection e)) (fun e => by cases e) (fun e => by cases e)
theorem Stp.out (h : Stp many a p es es') {k : Nat} (hk : k ≠ p) : es' (.out k) = es (.out k) := h.oth _ (fun e => by cases e) (fun e => hk (by injection e)) (fun e => by cases e)
theorem Stp.upI (h : Stp many a p es es') (k b : Nat) (hb : tI es a k b) : tI es' a k b := by
  by_cases e : k = p
  · subst e; exact h.mI b hb
  · unfold tI; rw [h.inn e]; exact hb
theorem Stp.upO (h : Stp many a p es es') (k b : Nat) (hb : tO es a k b) : tO es' a k b := by
  by_cases e : k = p
  · subst e; exact h.mO b hb
  · unfold tO; rw [h.out e]; exact hb

theorem nz_of_tb {x : Int} {b : Nat} (h : tb x b = true) : x ≠ 0 := fun e => by rw [e, tb_zero] at h; cases h

theorem Inv.next (h : Inv many a wo es0 M cl Rs es) (hp : p < many) (s : Stp many a p es es')
    (shI : Sh a (es0 (.inn p)) (es' (.inn p))) (shO : Sh a (es0 (.out p)) (es' (.out p)))
    (hI : ∀ b, tI es' a p b → LV a wo es0 p b) (hO : ∀ b, tO es' a p b → ∃ s, s < many ∧ tF es0 s p ∧ LV a wo es0 s b)
    (hT : ∀ b, tO es' a p b → ¬ tW wo p b → tI es' a p b)
    (hR : ∀ x ∈ Rs', x ∈ Rs ∨ ∀ b, tb x.2 b = true → tI es' a x.1.toNat b)
    (hC : ∀ k x, k < many → cl' k x → cl k x ∨ ((∀ e ∈ es' .work, e.1 ≠ (k : Int)) → ∀ b, tI es' a k b → tO es' a x.1.toNat b)) : Inv many a wo es0 M cl' Rs' es' := by
  refine ⟨fun k hk => ?_, fun k hk => ?_, fun m hm => ?_, fun e he => ?_, fun k hk b hb => ?_, fun k hk b hb => ?_, fun x hx b hb => ?_, fun k hk b hb hw => ?_, fun k hk hw x hx hc b hb => ?_, Nat.le_trans s.mu h.mu⟩
  · by_cases e : k = p
    · subst e; exact shI
    · rw [s.inn e]; exact h.inn k hk
  · by_cases e : k = p
    · subst e; exact shO
    · rw [s.out e]; exact h.out k hk
  · rw [s.oth m (fun e => by subst e; cases hm) (fun e => by subst e; cases hm) (fun e => by subst e; cases hm)]
    exact h.oth m hm
  · have old : e ∈ es .work → inM many e.1 ∧ lastOf (es' (.inn e.1.toNat)) a ≠ 0 := fun he => by
      obtain ⟨g1, g2⟩ := h.wk e he
      refine ⟨g1, ?_⟩
      by_cases eq : e.1.toNat = p
      · have hlt : e.1.toNat < many := by obtain ⟨a1, a2⟩ := g1; omega
        obtain ⟨b, -, hb⟩ := ne_zero_tb (h.inn _ hlt).u g2
        exact nz_of_tb (s.upI _ b hb)
      · rw [s.inn eq]; exact g2
    rcases s.work with ⟨w1, -⟩ | w1
    · rw [w1] at he; exact old he
    · have hne := s.ne w1
      rw [w1] at he
      rcases List.mem_append.1 he with he | he
      · exact old he
      · simp at he
        subst he
        exact ⟨⟨by omega, by omega⟩, by simpa using hne⟩
  · by_cases e : k = p
    · subst e; exact hI b hb
    · unfold tI at hb; rw [s.inn e] at hb; exact h.sI k hk b hb
  · by_cases e : k = p
    · subst e; exact hO b hb
    · unfold tO at hb; rw [s.out e] at hb; exact h.sO k hk b hb
  · rcases hR x hx with q | q
    · exact s.upI _ b (h.rd x q b hb)
    · exact q b hb
  · by_cases e : k = p
    · subst e; exact hT b hb hw
    · unfold tO at hb; rw [s.out e] at hb; exact s.upI k b (h.thru k hk b hb hw)
  · rcases hC k x hk hc with q | q
    · have hw0 : ∀ e ∈ es .work, e.1 ≠ (k : Int) := fun e he => hw e (by
        rcases s.work with ⟨w1, -⟩ | w1
        · rw [w1]; exact he
        · rw [w1]; exact List.mem_append_left _ he)
      refine s.upO _ b (h.clos k hk hw0 x hx q b ?_)
      by_cases e : k = p
      · subst e
        rcases s.work with ⟨-, w2⟩ | w1
        · exact w2 b hb
        · exact absurd rfl (hw ((k : Int), 0) (by rw [w1]; simp))
      · unfold tI at hb; rw [s.inn e] at hb; exact hb
    · exact q hw b hb
end

end Go.Proofs.YtdiidmmmemmjjaaDoor.Lv

namespace Go.Proofs.YtdiidmmmemmjjaaDoor.Lv
open Go.RowKit
set_option linter.unusedVariables false

section
variable {many a p : Nat} {wo : List Int} {es0 es es' : Es} {M : Nat} {cl cl' : Nat → Int × Int → Prop} {Rs Rs' : List (Int × Int)}
theorem mu_step (hp : p < many) (h1 : ∀ k, k ≠ p → es' (.inn k) = es (.inn k)) (h2 : ∀ k, k ≠ p → es' (.out k) = es (.out k)) {d : Nat} (h3 : 2 * miss (lastOf (es' (.inn p)) a) + miss (lastOf (es' (.out p)) a) + d ≤ 2 * miss (lastOf (es (.inn p)) a) + miss (lastOf (es (.out p)) a)) (h4 : (es' .work).length ≤ (es .work).length + d) : muE many a es' ≤ muE many a es := by
  have := sumK_lt (many := many) (f := fun k => 2 * miss (lastOf (es (.inn k)) a) + miss (lastOf (es (.out k)) a)) (g := fun k => 2 * miss (lastOf (es' (.inn k)) a) + miss (lastOf (es' (.out k)) a)) (fun k hk => by
    by_cases e : k = p
    · subst e; omega
    · rw [h1 k e, h2 k e]; exact Nat.le_refl _) hp h3
  unfold muE
  omega

/-- Begin, as a step. -/
theorem beg_stp {l0 : List (Int × Int)} (h : Sh a l0 (es (.inn p))) (hp : p < many) {y : Int} (hy : U64 y) (hn : y ≠ 0) :
    Stp many a p es (begE es p ((a : Int), y)) ∧ Sh a l0 (begE es p ((a : Int), y) (.inn p)) ∧ (∀ b, tI (begE es p ((a : Int), y)) a p b ↔ tI es a p b ∨ tb y b = true) ∧ (∀ m, m ≠ .inn p → m ≠ .work → begE es p ((a : Int), y) m = es m) := by
  obtain ⟨g1, g2, g3⟩ := h.push hy hn
  unfold begE
  cases ht : newP (es (.inn p)) ((a : Int), y) with
  | true =>
    rw [if_pos rfl]
    have ei : upd (upd es (.inn p) (pushL (es (.inn p)) ((a : Int), y))) .work (es .work ++ [((p : Int), 0)]) (.inn p) = pushL (es (.inn p)) ((a : Int), y) := by rw [upd_other _ _ (fun e => by cases e), upd_same]
    have ew : upd (upd es (.inn p) (pushL (es (.inn p)) ((a : Int), y))) .work (es .work ++ [((p : Int), 0)]) .work = es .work ++ [((p : Int), 0)] := upd_same _ _ _
    have eo : ∀ m, m ≠ .inn p → m ≠ .work → upd (upd es (.inn p) (pushL (es (.inn p)) ((a : Int), y))) .work (es .work ++ [((p : Int), 0)]) m = es m := fun m h1 h2 => by rw [upd_other _ _ h2, upd_other _ _ h1]
    generalize upd (upd es (.inn p) (pushL (es (.inn p)) ((a : Int), y))) .work (es .work ++ [((p : Int), 0)]) = E at *
    have hb : ∀ b, tI E a p b ↔ tI es a p b ∨ tb y b = true := fun b => by unfold tI; rw [ei, g2 b]; simp
    refine ⟨⟨fun m h1 _ h2 => eo m h1 h2, fun b hb' => (hb b).2 (Or.inl hb'), fun b hb' => by unfold tO; rw [eo _ (fun e => by cases e) (fun e => by cases e)]; exact hb', Or.inr ew, fun _ => by rw [ei]; exact g3, ?_⟩, by rw [ei]; exact g1, hb, eo⟩
    obtain ⟨b, hb1, hb2, hb3⟩ := h.new hy hn ht
    have hl := miss_lt (x := lastOf (es (.inn p)) a) (y := lastOf (E (.inn p)) a) (fun c hc => (hb c).2 (Or.inl hc)) hb1 hb2 ((hb b).2 (Or.inr hb3))
    refine mu_step hp (fun k hk => eo _ (fun e => hk (by injection e)) (fun e => by cases e)) (fun k hk => eo _ (fun e => by cases e) (fun e => by cases e)) (d := 1) ?_ (by rw [ew]; simp)
    rw [eo (.out p) (fun e => by cases e) (fun e => by cases e)]
    omega
  | false =>
    rw [if_neg (by simp)]
    have ei : upd es (.inn p) (pushL (es (.inn p)) ((a : Int), y)) (.inn p) = pushL (es (.inn p)) ((a : Int), y) := upd_same _ _ _
    have eo : ∀ m, m ≠ .inn p → upd es (.inn p) (pushL (es (.inn p)) ((a : Int), y)) m = es m := fun m h1 => upd_other _ _ h1
    generalize upd es (.inn p) (pushL (es (.inn p)) ((a : Int), y)) = E at *
    have hb : ∀ b, tI E a p b ↔ tI es a p b ∨ tb y b = true := fun b => by unfold tI; rw [ei, g2 b]; simp
    have ho := h.old hy ht
    refine ⟨⟨fun m h1 _ h2 => eo m h1, fun b hb' => (hb b).2 (Or.inl hb'), fun b hb' => by unfold tO; rw [eo _ (fun e => by cases e)]; exact hb', Or.inl ⟨eo _ (fun e => by cases e), fun b hb' => ?_⟩, fun e => ?_, ?_⟩, by rw [ei]; exact g1, hb, fun m h1 _ => eo m h1⟩
    · rcases (hb b).1 hb' with q | q
      · exact q
      · exact ho b q
    · rw [ei]; exact g3
    · have hl := miss_le (x := lastOf (es (.inn p)) a) (y := lastOf (E (.inn p)) a) (fun c hc => (hb c).2 (Or.inl hc))
      refine mu_step hp (fun k hk => eo _ (fun e => hk (by injection e))) (fun k hk => eo _ (fun e => by cases e)) (d := 0) ?_ (by rw [eo .work (fun e => by cases e)]; omega)
      rw [eo (.out p) (fun e => by cases e)]
      omega

/-- End, as a step. -/
theorem end_stp {l0 l1 : List (Int × Int)} (hi : Sh a l0 (es (.inn p))) (ho : Sh a l1 (es (.out p))) (hp : p < many) {y wk : Int} (hy : U64 y) (hn : y ≠ 0) (hw : U64 wk) :
    Stp many a p es (endE es wk p ((a : Int), y)) ∧ Sh a l0 (endE es wk p ((a : Int), y) (.inn p)) ∧ Sh a l1 (endE es wk p ((a : Int), y) (.out p)) ∧ (∀ b, tO (endE es wk p ((a : Int), y)) a p b ↔ tO es a p b ∨ tb y b = true) ∧ (∀ b, tI (endE es wk p ((a : Int), y)) a p b → tI es a p b ∨ (tb y b = true ∧ tb wk b = false)) ∧ (∀ b, tb y b = true → tb wk b = false → tI (endE es wk p ((a : Int), y)) a p b ∨ tO es a p b) := by
  obtain ⟨g1, g2, g3⟩ := ho.push hy hn
  have eo1 : upd es (.out p) (pushL (es (.out p)) ((a : Int), y)) (.out p) = pushL (es (.out p)) ((a : Int), y) := upd_same _ _ _
  have eo : ∀ m, m ≠ .out p → upd es (.out p) (pushL (es (.out p)) ((a : Int), y)) m = es m := fun m h1 => upd_other _ _ h1
  unfold endE
  dsimp only
  generalize hE : upd es (.out p) (pushL (es (.out p)) ((a : Int), y)) = E at *
  have hO : ∀ b, tO E a p b ↔ tO es a p b ∨ tb y b = true := fun b => by unfold tO; rw [eo1, g2 b]; simp
  have ei : E (.inn p) = es (.inn p) := eo _ (fun e => by cases e)
  have ew : E .work = es .work := eo _ (fun e => by cases e)
  have sE : muE many a E ≤ muE many a es := by
    have hl := miss_le (x := lastOf (es (.out p)) a) (y := lastOf (E (.out p)) a) (fun c hc => (hO c).2 (Or.inl hc))
    refine mu_step hp (fun k hk => eo _ (fun e => by cases e)) (fun k hk => eo _ (fun e => hk (by injection e))) (d := 0) ?_ (by rw [ew]; omega)
    rw [ei]
    omega
  have sS : Stp many a p es E := ⟨fun m _ h1 _ => eo m h1, fun b hb => by unfold tI; rw [ei]; exact hb, fun b hb => (hO b).2 (Or.inl hb), Or.inl ⟨ew, fun b hb => by unfold tI at hb; rw [ei] at hb; exact hb⟩, fun e => by rw [ew] at e; have := congrArg List.length e; simp at this, sE⟩
  cases ht : newP (es (.out p)) ((a : Int), y) with
  | false =>
    rw [if_neg (by simp)]
    refine ⟨sS, by rw [ei]; exact hi, by rw [eo1]; exact g1, hO, fun b hb => Or.inl (by unfold tI at hb; rw [ei] at hb; exact hb), fun b hb _ => Or.inr (ho.old hy ht b hb)⟩
  | true =>
    rw [if_pos rfl]
    by_cases hz : bits .andNot .u64 y wk = 0
    · rw [if_pos hz]
      refine ⟨sS, by rw [ei]; exact hi, by rw [eo1]; exact g1, hO, fun b hb => Or.inl (by unfold tI at hb; rw [ei] at hb; exact hb), fun b hb hb2 => ?_⟩
      have := tb_andNot hy hw b
      rw [hz, tb_zero, hb, hb2] at this
      cases this
    · rw [if_neg hz]
      have hiE : Sh a l0 (E (.inn p)) := by rw [ei]; exact hi
      obtain ⟨t1, t2, t3, t4⟩ := beg_stp (many := many) hiE hp (hy.andNot hw) hz
      have tO' : ∀ b, tO (begE E p ((a : Int), bits .andNot .u64 y wk)) a p b ↔ tO E a p b := fun b => by unfold tO; rw [t4 _ (fun e => by cases e) (fun e => by cases e)]
      have tIE : ∀ b, tI E a p b ↔ tI es a p b := fun b => by unfold tI; rw [ei]
      refine ⟨⟨fun m h1 h2 h3 => (t4 m h1 h3).trans (eo m h2), fun b hb => t1.mI b ((tIE b).2 hb), fun b hb => (tO' b).2 ((hO b).2 (Or.inl hb)), ?_, fun e => t1.ne (by rw [ew]; exact e), Nat.le_trans t1.mu sE⟩, t2, ?_, fun b => (tO' b).trans (hO b), fun b hb => ?_, fun b hb hb2 => Or.inl ((t3 b).2 (Or.inr ?_))⟩
      · rcases t1.work with ⟨q1, q2⟩ | q
        · exact Or.inl ⟨q1.trans ew, fun b hb => (tIE b).1 (q2 b hb)⟩
        · exact Or.inr (by rw [q, ew])
      · rw [t4 _ (fun e => by cases e) (fun e => by cases e), eo1]; exact g1
      · rcases (t3 b).1 hb with q | q
        · exact Or.inl ((tIE b).1 q)
        · rw [tb_andNot hy hw] at q
          simp at q
          exact Or.inr q
      · rw [tb_andNot hy hw, hb, hb2]; rfl
end

end Go.Proofs.YtdiidmmmemmjjaaDoor.Lv

namespace Go.Proofs.YtdiidmmmemmjjaaDoor.Lv
open Go.RowKit
set_option linter.unusedVariables false

/-- What is asked of the state ahead of a word's way back. -/
structure Fit (many a : Nat) (wo : List Int) (es0 : Es) (M : Nat) : Prop where
  wl : wo.length = many
  wu : ∀ (k : Nat) (x : Int), wo[k]? = some x → U64 x
  inn : ∀ k, k < many → lastOf (es0 (.inn k)) a = 0 ∧ (es0 (.inn k)).length + 1 ≤ bd
  out : ∀ k, k < many → lastOf (es0 (.out k)) a = 0 ∧ (es0 (.out k)).length + 1 ≤ bd
  work : es0 .work = []
  rd : ∀ e ∈ es0 (.rd a), inM many e.1 ∧ U64 e.2 ∧ e.2 ≠ 0
  fr : ∀ k, k < many → ∀ e ∈ es0 (.fr k), inM many e.1
  mu : muE many a es0 ≤ M
  bound : M ≤ bd

def J1 (many a : Nat) (wo : List Int) (es0 : Es) (M : Nat) (es : Es) : Prop := Inv many a wo es0 M (fun _ _ => True) (es0 (.rd a)) es
def J2' (many a : Nat) (wo : List Int) (es0 : Es) (M : Nat) (k i : Nat) (es : Es) : Prop := k < many ∧ lastOf (es (.inn k)) a ≠ 0 ∧ Inv many a wo es0 M (fun k' x => k' ≠ k ∨ x ∈ (es0 (.fr k)).take i) (es0 (.rd a)) es

section
variable {many a : Nat} {wo : List Int} {es0 es : Es} {M : Nat} {cl : Nat → Int × Int → Prop} {Rs : List (Int × Int)}
theorem Inv.side (hf : Fit many a wo es0 M) (h : Inv many a wo es0 M cl Rs es) : Side many a es0 es := by
  refine ⟨fun k hk => ?_, fun k hk => ?_, ?_, fun e he => (h.wk e he).1, fun k => h.oth _ rfl, h.oth _ rfl, h.oth _ rfl⟩
  · exact Nat.le_trans (h.inn k hk).len (hf.inn k hk).2
  · exact Nat.le_trans (h.out k hk).len (hf.out k hk).2
  · have h1 := h.mu
    have h2 := hf.bound
    unfold muE at h1
    omega

theorem keeps (hf : Fit many a wo es0 M) : Keeps many a wo es0 (J1 many a wo es0 M) (J2' many a wo es0 M) (muE many a) := by
  refine ⟨fun es h => Inv.side hf h, fun k i es h => ⟨h.1, Inv.side hf h.2.2⟩, fun es l e h he => ?_, fun k i es x wk h hx hw => ?_, fun k es h => ?_⟩
  · have hm : e ∈ es .work := by rw [he]; simp
    obtain ⟨⟨h1, h2⟩, h3⟩ := h.wk e hm
    have eo : ∀ m, m ≠ .work → upd es .work l m = es m := fun m hm => upd_other _ _ hm
    have ew : upd es .work l .work = l := upd_same _ _ _
    generalize upd es .work l = E at *
    have ei : ∀ k, E (.inn k) = es (.inn k) := fun k => eo _ (fun e => by cases e)
    have eu : ∀ k, E (.out k) = es (.out k) := fun k => eo _ (fun e => by cases e)
    have hmu : muE many a E + 1 = muE many a es := by
      unfold muE
      rw [ew, he]
      simp only [ei, eu, List.length_append, List.length_singleton]
      omega
    refine ⟨⟨by omega, by rw [ei]; exact h3, ⟨fun k hk => by rw [ei]; exact h.inn k hk, fun k hk => by rw [eu]; exact h.out k hk, fun m hm => by rw [eo m (fun q => by subst q; cases hm)]; exact h.oth m hm, fun x hx => ?_, fun k hk b hb => h.sI k hk b (by unfold tI at hb ⊢; rw [ei] at hb; exact hb), fun k hk b hb => h.sO k hk b (by unfold tO at hb ⊢; rw [eu] at hb; exact hb), fun x hx b hb => by unfold tI; rw [ei]; exact h.rd x hx b hb, fun k hk b hb hw => ?_, fun k hk hw x hx hc b hb => ?_, ?_⟩⟩, by omega⟩
    · rw [ew] at hx
      rw [ei]
      exact h.wk x (by rw [he]; exact List.mem_append_left _ hx)
    · unfold tI; rw [ei]
      exact h.thru k hk b (by unfold tO at hb ⊢; rw [eu] at hb; exact hb) hw
    · have hk2 : k ≠ e.1.toNat := by
        rcases hc with q | q
        · exact q
        · simp at q
      unfold tO
      rw [eu]
      refine h.clos k hk (fun y hy => ?_) x hx trivial b (by unfold tI at hb ⊢; rw [ei] at hb; exact hb)
      rw [he] at hy
      rcases List.mem_append.1 hy with hy | hy
      · exact hw y (by rw [ew]; exact hy)
      · simp at hy
        subst hy
        omega
    · have := h.mu; omega
  · obtain ⟨hk, hnz, hi⟩ := h
    have hxm := List.mem_of_getElem? hx
    obtain ⟨x1, x2⟩ := hf.fr k hk x hxm
    have hp : x.1.toNat < many := by omega
    have hu := (hi.inn k hk).u
    have hwu := hf.wu _ _ hw
    have hwd : ∀ b, tW wo x.1.toNat b ↔ tb wk b = true := fun b => by unfold tW; rw [hw]; rfl
    have hF : tF es0 k x.1.toNat := ⟨x, hxm, by omega⟩
    obtain ⟨s1, s2, s3, s4, s5, s6⟩ := end_stp (many := many) (hi.inn _ hp) (hi.out _ hp) hp hu hnz hwu
    generalize hE : endE es wk x.1.toNat ((a : Int), lastOf (es (.inn k)) a) = E at *
    refine ⟨⟨hk, ?_, hi.next hp s1 s2 s3 (fun b hb => ?_) (fun b hb => ?_) (fun b hb hw' => ?_) (fun y hy => Or.inl hy) (fun k' y hk' hc => ?_)⟩, s1.mu⟩
    · obtain ⟨b, -, hb⟩ := ne_zero_tb hu hnz
      exact nz_of_tb (s1.upI k b hb)
    · rcases s5 b hb with q | ⟨q1, q2⟩
      · exact hi.sI _ hp b q
      · exact Live.thru hF (hi.sI k hk b q1) (fun q => by rw [(hwd b).1 q] at q2; cases q2)
    · rcases (s4 b).1 hb with q | q
      · exact hi.sO _ hp b q
      · exact ⟨k, hk, hF, hi.sI k hk b q⟩
    · have hwf : tb wk b = false := by
        cases hq : tb wk b with
        | false => rfl
        | true => exact absurd ((hwd b).2 hq) hw'
      rcases (s4 b).1 hb with q | q
      · exact s1.upI _ b (hi.thru _ hp b q hw')
      · rcases s6 b q hwf with r | r
        · exact r
        · exact s1.upI _ b (hi.thru _ hp b r hw')
    · by_cases ek : k' = k
      · subst ek
        rcases hc with q | q
        · exact absurd rfl q
        · rw [take_snoc hx] at q
          rcases List.mem_append.1 q with q | q
          · exact Or.inl (Or.inr q)
          · simp at q
            subst q
            refine Or.inr (fun hw' b hb => (s4 b).2 (Or.inr ?_))
            by_cases e2 : k' = y.1.toNat
            · rcases s1.work with ⟨-, w2⟩ | w1
              · rw [← e2] at w2
                exact w2 b hb
              · have := hw' ((y.1.toNat : Int), 0) (by rw [w1]; simp)
                exact absurd (by rw [e2]) this
            · unfold tI at hb
              rw [s1.inn e2] at hb
              exact hb
      · exact Or.inl (Or.inl ek)
  · obtain ⟨hk, -, hi⟩ := h
    refine ⟨hi.inn, hi.out, hi.oth, hi.wk, hi.sI, hi.sO, hi.rd, hi.thru, fun k' hk' hw x hx _ b hb => hi.clos k' hk' hw x hx ?_ b hb, hi.mu⟩
    by_cases e : k' = k
    · subst e
      rw [List.take_length]
      exact Or.inr hx
    · exact Or.inl e
end

end Go.Proofs.YtdiidmmmemmjjaaDoor.Lv

namespace Go.Proofs.YtdiidmmmemmjjaaDoor.Lv
open Go.RowKit
set_option linter.unusedVariables false

section
variable {many a : Nat} {wo : List Int} {es0 es : Es} {M : Nat}
theorem inv_start (hf : Fit many a wo es0 M) : Inv many a wo es0 M (fun _ _ => True) [] es0 := by
  have zI : ∀ k, k < many → ∀ b, ¬ tI es0 a k b := fun k hk b hb => by unfold tI at hb; rw [(hf.inn k hk).1, tb_zero] at hb; cases hb
  have zO : ∀ k, k < many → ∀ b, ¬ tO es0 a k b := fun k hk b hb => by unfold tO at hb; rw [(hf.out k hk).1, tb_zero] at hb; cases hb
  refine ⟨fun k hk => ⟨(hf.inn k hk).1, Or.inl rfl⟩, fun k hk => ⟨(hf.out k hk).1, Or.inl rfl⟩, fun m _ => rfl, (fun e he => by rw [hf.work] at he; simp at he), fun k hk b hb => absurd hb (zI k hk b), fun k hk b hb => absurd hb (zO k hk b), (fun x hx => by simp at hx), fun k hk b hb => absurd hb (zO k hk b), fun k hk _ x _ _ b hb => absurd hb (zI k hk b), hf.mu⟩
theorem inv_beg (hf : Fit many a wo es0 M) : ∀ i, i ≤ (es0 (.rd a)).length → Inv many a wo es0 M (fun _ _ => True) ((es0 (.rd a)).take i) (begL es0 a ((es0 (.rd a)).take i)) := fun i => by
  induction i with
  | zero => intro _; exact inv_start hf
  | succ i ih =>
    intro hi
    have h := ih (by omega)
    obtain ⟨x, hx⟩ := get_of_lt (l := es0 (.rd a)) (k := i) (by omega)
    have hxm := List.mem_of_getElem? hx
    obtain ⟨⟨x1, x2⟩, hu, hn⟩ := hf.rd x hxm
    have hp : x.1.toNat < many := by omega
    rw [take_snoc hx, begL_snoc]
    generalize begL es0 a ((es0 (.rd a)).take i) = es at *
    obtain ⟨s1, s2, s3, s4⟩ := beg_stp (many := many) (h.inn _ hp) hp hu hn
    have eO : ∀ b, tO (begE es x.1.toNat ((a : Int), x.2)) a x.1.toNat b ↔ tO es a x.1.toNat b := fun b => by unfold tO; rw [s4 _ (fun e => by cases e) (fun e => by cases e)]
    refine h.next hp s1 s2 (by rw [s4 _ (fun e => by cases e) (fun e => by cases e)]; exact h.out _ hp) (fun b hb => ?_) (fun b hb => h.sO _ hp b ((eO b).1 hb)) (fun b hb hw => s1.upI _ b (h.thru _ hp b ((eO b).1 hb) hw)) (fun y hy => ?_) (fun _ _ _ _ => Or.inl trivial)
    · rcases (s3 b).1 hb with q | q
      · exact h.sI _ hp b q
      · exact Live.read ⟨x, hxm, by omega, q⟩
    · rcases List.mem_append.1 hy with q | q
      · exact Or.inl q
      · simp at q
        subst q
        exact Or.inr fun b hb => (s3 b).2 (Or.inr hb)

/-- What is told in the end. -/
structure Told (many a : Nat) (wo : List Int) (es0 es : Es) : Prop where
  inn : ∀ k, k < many → Sh a (es0 (.inn k)) (es (.inn k)) ∧ ∀ b, tI es a k b ↔ LV a wo es0 k b
  out : ∀ k, k < many → Sh a (es0 (.out k)) (es (.out k)) ∧ ∀ b, tO es a k b ↔ ∃ s, s < many ∧ tF es0 s k ∧ LV a wo es0 s b
  oth : ∀ m, m.lv = false → es m = es0 m
  work : es .work = []
theorem told (hf : Fit many a wo es0 M) (h : J1 many a wo es0 M es) (hw : es .work = []) : Told many a wo es0 es := by
  have hL : ∀ k b, LV a wo es0 k b → k < many ∧ tI es a k b := fun k b hl => by
    induction hl with
    | read hr =>
      obtain ⟨x, hx, e, hb⟩ := hr
      obtain ⟨⟨x1, x2⟩, -, -⟩ := hf.rd x hx
      have := h.rd x hx _ hb
      rw [e, Int.toNat_natCast] at this
      exact ⟨by omega, this⟩
    | thru hF _ hW ih =>
      obtain ⟨hk, hi⟩ := ih
      obtain ⟨x, hx, e⟩ := hF
      obtain ⟨x1, x2⟩ := hf.fr _ hk x hx
      have := h.clos _ hk (fun y hy => by rw [hw] at hy; cases hy) x hx trivial _ hi
      rw [e, Int.toNat_natCast] at this
      exact ⟨by omega, h.thru _ (by omega) _ this hW⟩
  refine ⟨fun k hk => ⟨h.inn k hk, fun b => ⟨h.sI k hk b, fun q => (hL k b q).2⟩⟩, fun k hk => ⟨h.out k hk, fun b => ⟨h.sO k hk b, fun ⟨s, hs, ⟨x, hx, e⟩, q⟩ => ?_⟩⟩, h.oth, hw⟩
  have := h.clos s hs (fun y hy => by rw [hw] at hy; cases hy) x hx trivial b (hL s b q).2
  rw [e, Int.toNat_natCast] at this
  exact this
end

theorem back_live (w : World) (base : Nat) (B : Bl) (many words : Nat) (v : Vs) (es : Es) (wo0 : List Int) (h : WM w base B many words v es wo0) (hbase : base ≤ w.heap.size) (a : Nat) (ha : a < words) (M : Nat) (hf : Fit many a (setW wo0 (es (.wt a))) es M)
    (hW : ∀ e ∈ es (.wt a), inM many e.1) (hWl : (es (.wt a)).length ≤ bd) (hRl : (es (.rd a)).length ≤ bd) (hF : ∀ k, k < many → (es (.fr k)).length ≤ bd) :
    Calls Tryd.prog 23 #[.pointer (some ⟨B.Wk, 0, none⟩), .int .i64 (a : Int)] w fun r w' => r = .returned (.tuple #[]) ∧ (∃ v' es', WM w' base B many words v' es' (clrW (setW wo0 (es (.wt a))) (es (.wt a))) ∧ Told many a (setW wo0 (es (.wt a))) es es' ∧ Grw many words w v v') ∧ Below base w w' := by
  have hb := inv_beg hf
  have hb' := hb _ (Nat.le_refl _)
  rw [List.take_length] at hb'
  refine (back_any w base B many words v es wo0 h hbase a ha hW hWl (fun e he => (hf.rd e he).1) hRl (fun k hk => ⟨hF k hk, hf.fr k hk⟩) (fun i hi => Inv.side hf (hb i hi)) (J1 many a _ es M) (J2' many a _ es M) (muE many a) (keeps hf) hb').mono ?_
  rintro e y ⟨rfl, ⟨v', es', h1, h2, h3, h4⟩, h5⟩
  exact ⟨rfl, ⟨v', es', h1, told hf h2 h3, h4⟩, h5⟩

end Go.Proofs.YtdiidmmmemmjjaaDoor.Lv
