/-
  Which registers of a small function may be read ahead of being written, as plain functions: words of 32 bits, a part read backwards, the least such words; no program in sight.
  slices.Backward over a part's instructions, as a range over a function wants it: the loop's closure goes from the last instruction to the first; contracts within a fence.
-/
import Derived.Test.YtnaflfpkkbfnfaaKInC
import Derived.Test.YtnaflfpkkbfnfaaKInE
import Derived.Test.YtnaflfpkkbfnfaaKIrX
import Derived.RangeFuncNested
import Derived.RangeFuncBound
import Derived.RangeFuncCalls
import Derived.RangeFuncBox
import Derived.RangeFuncLeaves
import Derived.Shelf.Abstract
import Derived.Shelf.RegionOpen
import Derived.WalkKit
import Derived.OwnWalkIn
import Derived.TacticsInMore
import Derived.LoopNIn
import Derived.LoopIn
namespace Go.Proofs.Ytnaflfpkkbfnfaa.In
open Go.RowKit
set_option linter.unusedVariables false

/-! ### Words of 32 bits -/
def U32 (x : Int) : Prop := 0 ≤ x ∧ x < 4294967296
def tb (x : Int) (b : Nat) : Bool := x.toNat.testBit b
theorem U32.zero : U32 0 := ⟨by omega, by omega⟩
theorem ofInt_nat {x : Int} (h : U32 x) : (BitVec.ofInt 32 x).toNat = x.toNat := by
  obtain ⟨h1, h2⟩ := h
  rw [BitVec.toNat_ofInt]
  omega
theorem wrap_nat (n : Nat) (h : n < 2 ^ 32) : IntKind.u32.wrap (n : Int) = (n : Int) := by
  rw [IntKind.wrap_u32]
  omega
theorem or_eq {x y : Int} (hx : U32 x) (hy : U32 y) : bits .or .u32 x y = ((x.toNat ||| y.toNat : Nat) : Int) := by
  have d : bits .or .u32 x y = IntKind.u32.wrap (((BitVec.ofInt 32 x ||| BitVec.ofInt 32 y).toNat : Nat) : Int) := rfl
  rw [d, wrap_nat _ (BitVec.isLt _), BitVec.toNat_or, ofInt_nat hx, ofInt_nat hy]
theorem and_eq {x y : Int} (hx : U32 x) (hy : U32 y) : bits .and .u32 x y = ((x.toNat &&& y.toNat : Nat) : Int) := by
  have d : bits .and .u32 x y = IntKind.u32.wrap (((BitVec.ofInt 32 x &&& BitVec.ofInt 32 y).toNat : Nat) : Int) := rfl
  rw [d, wrap_nat _ (BitVec.isLt _), BitVec.toNat_and, ofInt_nat hx, ofInt_nat hy]
theorem andNot_eq {x y : Int} (hx : U32 x) (hy : U32 y) : bits .andNot .u32 x y = (((BitVec.ofInt 32 x &&& ~~~ BitVec.ofInt 32 y).toNat : Nat) : Int) := by
  have d : bits .andNot .u32 x y = IntKind.u32.wrap (((BitVec.ofInt 32 x &&& ~~~ BitVec.ofInt 32 y).toNat : Nat) : Int) := rfl
  rw [d, wrap_nat _ (BitVec.isLt _)]
theorem U32.nat {n : Nat} (h : n < 2 ^ 32) : U32 (n : Int) := ⟨by omega, by omega⟩
theorem U32.lt {x : Int} (h : U32 x) : x.toNat < 2 ^ 32 := by obtain ⟨h1, h2⟩ := h; omega
theorem tb_hi {x : Int} (h : U32 x) {b : Nat} (hb : 32 ≤ b) : tb x b = false := Nat.testBit_lt_two_pow (Nat.lt_of_lt_of_le h.lt (Nat.pow_le_pow_right (by omega) hb))
theorem U32.or {x y : Int} (hx : U32 x) (hy : U32 y) : U32 (bits .or .u32 x y) := by rw [or_eq hx hy]; exact U32.nat (Nat.or_lt_two_pow hx.lt hy.lt)
theorem U32.andNot {x y : Int} (hx : U32 x) (hy : U32 y) : U32 (bits .andNot .u32 x y) := by rw [andNot_eq hx hy]; exact U32.nat (BitVec.isLt _)
theorem tb_or {x y : Int} (hx : U32 x) (hy : U32 y) (b : Nat) : tb (bits .or .u32 x y) b = (tb x b || tb y b) := by rw [or_eq hx hy]; simp [tb]
theorem tb_andNot {x y : Int} (hx : U32 x) (hy : U32 y) (b : Nat) : tb (bits .andNot .u32 x y) b = (tb x b && !tb y b) := by
  by_cases hb : b < 32
  · rw [andNot_eq hx hy]
    unfold tb
    rw [Int.toNat_natCast, BitVec.toNat_and, Nat.testBit_and, ofInt_nat hx]
    congr 1
    have h1 : (~~~ BitVec.ofInt 32 y).toNat.testBit b = (~~~ BitVec.ofInt 32 y).getLsbD b := rfl
    rw [h1, BitVec.getLsbD_not]
    have h2 : (BitVec.ofInt 32 y).getLsbD b = (BitVec.ofInt 32 y).toNat.testBit b := rfl
    rw [h2, ofInt_nat hy]
    simp [hb]
  · rw [tb_hi (hx.andNot hy) (by omega), tb_hi hx (by omega)]
    rfl
theorem tb_zero (b : Nat) : tb 0 b = false := by simp [tb]
theorem tb_ext {x y : Int} (hx : U32 x) (hy : U32 y) (h : ∀ b, tb x b = tb y b) : x = y := by
  have := Nat.eq_of_testBit_eq h
  have h1 := hx.1
  have h2 := hy.1
  omega
def bt (r : Int) : Int := ((2 ^ r.toNat : Nat) : Int)
theorem bt_u {r : Int} (h : r < 32) : U32 (bt r) := U32.nat (Nat.pow_lt_pow_right (by omega) (by omega))
theorem tb_bt {r : Int} (b : Nat) : tb (bt r) b = decide (r.toNat = b) := by unfold tb bt; rw [Int.toNat_natCast, Nat.testBit_two_pow]
theorem shl1 {r : Nat} (h : r < 32) : IntKind.u32.wrap (2 ^ r) = bt (r : Int) := by
  have h1 : 2 ^ r < 2 ^ 32 := Nat.pow_lt_pow_right (by omega) h
  have h2 : (2 : Int) ^ r = ((2 ^ r : Nat) : Int) := by push_cast; rfl
  unfold bt
  rw [h2, Int.toNat_natCast]
  generalize 2 ^ r = m at *
  rw [IntKind.wrap_u32]
  omega
theorem and_bit {x : Int} (hx : U32 x) {r : Nat} (h : r < 32) : (bits .and .u32 x (bt r) != 0) = tb x r := by
  rw [and_eq hx (bt_u (by omega))]
  unfold bt tb
  rw [Int.toNat_natCast, Int.toNat_natCast]
  cases e : x.toNat.testBit r with
  | false =>
    have h0 : x.toNat &&& 2 ^ r = 0 := Nat.eq_of_testBit_eq fun i => by
      rw [Nat.testBit_and, Nat.testBit_two_pow, Nat.zero_testBit]
      by_cases q : r = i
      · subst q; rw [e]; rfl
      · simp [q]
    rw [h0]
    rfl
  | true =>
    have h0 : x.toNat &&& 2 ^ r ≠ 0 := fun q => by
      have h1 : (x.toNat &&& 2 ^ r).testBit r = true := by rw [Nat.testBit_and, Nat.testBit_two_pow, e]; simp
      rw [q, Nat.zero_testBit] at h1
      cases h1
    simpa using h0
/-- How many bits there are not. -/
def miss (x : Int) : Nat := (List.range 32).countP (fun b => !tb x b)
theorem countP_lt {α : Type} {l : List α} {p q : α → Bool} (h : ∀ x ∈ l, p x = true → q x = true) {y : α} (hy : y ∈ l) (h1 : p y = false) (h2 : q y = true) : l.countP p < l.countP q := by
  induction l with
  | nil => cases hy
  | cons x l ih =>
    have hle : l.countP p ≤ l.countP q := List.countP_mono_left (fun z hz hp => h z (List.mem_cons_of_mem _ hz) hp)
    rw [List.countP_cons, List.countP_cons]
    rcases List.mem_cons.1 hy with rfl | hy
    · simp [h1, h2]; omega
    · have := ih (fun z hz => h z (List.mem_cons_of_mem _ hz)) hy
      have hx := h x (List.mem_cons_self ..)
      cases hp : p x with
      | false => simp; split <;> omega
      | true => rw [hx hp]; simp; omega
def sub (x y : Int) : Prop := ∀ r, tb x r = true → tb y r = true
theorem sub.refl (x : Int) : sub x x := fun _ h => h
theorem sub.trans {x y z : Int} (h : sub x y) (k : sub y z) : sub x z := fun r q => k r (h r q)
theorem miss_le {x y : Int} (h : sub x y) : miss y ≤ miss x := List.countP_mono_left (fun b _ hp => by
  cases ht : tb x b with
  | false => rfl
  | true => simp [h b ht] at hp)
theorem miss_lt {x y : Int} (hx : U32 x) (hy : U32 y) (h : sub x y) (hne : x ≠ y) : miss y < miss x := by
  obtain ⟨b, hb⟩ : ∃ b, tb x b ≠ tb y b := Classical.byContradiction fun hn => hne (tb_ext hx hy fun b => Classical.byContradiction fun q => hn ⟨b, q⟩)
  have h1 : tb x b = false := by
    cases e : tb x b with
    | false => rfl
    | true => rw [e, h b e] at hb; exact absurd rfl hb
  have h2 : tb y b = true := by
    cases e : tb y b with
    | true => rfl
    | false => rw [h1, e] at hb; exact absurd rfl hb
  have hb32 : b < 32 := Classical.byContradiction fun q => by rw [tb_hi hy (by omega)] at h2; cases h2
  exact countP_lt (fun c _ hp => by
    cases ht : tb x c with
    | false => rfl
    | true => simp [h c ht] at hp) (List.mem_range.2 hb32) (by simp [h2]) (by simp [h1])
theorem miss_32 (x : Int) : miss x ≤ 32 := by unfold miss; exact Nat.le_trans List.countP_le_length (by simp)

/-! ### A part, backwards -/
def orL (n : Int) (l : List Int) : Int := l.foldl (fun n r => bits .or .u32 n (bt r)) n
def cutR (now : Int) (x : PI) : Int := if wrP x.op then bits .andNot .u32 now (bt x.dst) else now
def stepR (now : Int) (x : PI) : Int := orL (cutR now x) (usesP x)
def headR (p : PP) (b : Nat → Int) : Int :=
  let n0 := if p.e then 0 else bits .or .u32 0 (b p.next.toNat)
  let n1 := if p.e = false ∧ 0 ≤ p.cond then bits .or .u32 n0 (b p.els.toNat) else n0
  if 0 ≤ p.cond then bits .or .u32 n1 (bt p.cond) else n1
def readP (p : PP) (b : Nat → Int) : Int := p.ins.reverse.foldl stepR (headR p b)
/-- Its registers are some of the first twenty. -/
structure RP (N : Nat) (p : PP) : Prop where
  si : ∀ x ∈ p.ins, x.op ≠ 32 ∧ (wrP x.op = true → 0 ≤ x.dst ∧ x.dst < 20) ∧ ∀ r ∈ usesP x, 0 ≤ r ∧ r < 20
  ec : 0 ≤ p.cond → p.cond < 20
  nx : p.e = false → 0 ≤ p.next ∧ p.next < N
  el : p.e = false → 0 ≤ p.cond → 0 ≤ p.els ∧ p.els < N
theorem orL_u {l : List Int} (hl : ∀ r ∈ l, r < 32) : ∀ {n : Int}, U32 n → U32 (orL n l) := by
  induction l with
  | nil => intro n h; exact h
  | cons r l ih => intro n h; exact ih (fun q hq => hl q (List.mem_cons_of_mem _ hq)) (h.or (bt_u (hl r (List.mem_cons_self ..))))
theorem orL_sub {l : List Int} (hl : ∀ r ∈ l, r < 32) : ∀ {n m : Int}, U32 n → U32 m → sub n m → sub (orL n l) (orL m l) := by
  induction l with
  | nil => intro n m _ _ h; exact h
  | cons r l ih =>
    intro n m h1 h2 h
    have hr := bt_u (hl r (List.mem_cons_self ..))
    refine ih (fun q hq => hl q (List.mem_cons_of_mem _ hq)) (h1.or hr) (h2.or hr) fun b hb => ?_
    rw [tb_or h1 hr] at hb
    rw [tb_or h2 hr]
    cases e : tb n b with
    | true => rw [h b e]; rfl
    | false => rw [e] at hb; simp at hb; simp [hb]
theorem cutR_u {x : PI} (hx : wrP x.op = true → x.dst < 32) {n : Int} (h : U32 n) : U32 (cutR n x) := by
  unfold cutR
  split
  · rename_i e; exact h.andNot (bt_u (hx e))
  · exact h
theorem cutR_sub {x : PI} (hx : wrP x.op = true → x.dst < 32) {n m : Int} (h1 : U32 n) (h2 : U32 m) (h : sub n m) : sub (cutR n x) (cutR m x) := by
  unfold cutR
  split
  · rename_i e
    intro b hb
    have hr := bt_u (hx e)
    rw [tb_andNot h1 hr] at hb
    rw [tb_andNot h2 hr]
    simp at hb
    simp [h b hb.1, hb.2]
  · exact h
section
variable {N : Nat} {p : PP} {b c : Nat → Int}
theorem foldR_u (h : RP N p) : ∀ (l : List PI), (∀ x ∈ l, x ∈ p.ins) → ∀ {n : Int}, U32 n → U32 (l.foldl stepR n)
  | [], _, n, hn => hn
  | x :: l, hl, n, hn => by
    obtain ⟨h1, h2, h3⟩ := h.si x (hl x (List.mem_cons_self ..))
    exact foldR_u h l (fun y hy => hl y (List.mem_cons_of_mem _ hy)) (orL_u (fun r hr => by have := h3 r hr; omega) (cutR_u (fun e => by have := h2 e; omega) hn))
theorem foldR_sub (h : RP N p) : ∀ (l : List PI), (∀ x ∈ l, x ∈ p.ins) → ∀ {n m : Int}, U32 n → U32 m → sub n m → sub (l.foldl stepR n) (l.foldl stepR m)
  | [], _, n, m, _, _, hs => hs
  | x :: l, hl, n, m, hn, hm, hs => by
    obtain ⟨h1, h2, h3⟩ := h.si x (hl x (List.mem_cons_self ..))
    have d : wrP x.op = true → x.dst < 32 := fun e => by have := h2 e; omega
    have u : ∀ r ∈ usesP x, r < 32 := fun r hr => by have := h3 r hr; omega
    exact foldR_sub h l (fun y hy => hl y (List.mem_cons_of_mem _ hy)) (orL_u u (cutR_u d hn)) (orL_u u (cutR_u d hm)) (orL_sub u (cutR_u d hn) (cutR_u d hm) (cutR_sub d hn hm hs))
theorem or_sub {x y z v : Int} (hx : U32 x) (hy : U32 y) (hz : U32 z) (hv : U32 v) (h : sub x z) (k : sub y v) : sub (bits .or .u32 x y) (bits .or .u32 z v) := fun r q => by
  rw [tb_or hx hy] at q
  rw [tb_or hz hv]
  cases e : tb x r with
  | true => rw [h r e]; rfl
  | false => rw [e] at q; simp at q; simp [k r q]
theorem headR_u (h : RP N p) (hb : ∀ n, U32 (b n)) : U32 (headR p b) := by
  have e1 : U32 (if p.e then 0 else bits .or .u32 0 (b p.next.toNat)) := by split; exact U32.zero; exact U32.zero.or (hb _)
  have e2 : U32 (if p.e = false ∧ 0 ≤ p.cond then bits .or .u32 (if p.e then 0 else bits .or .u32 0 (b p.next.toNat)) (b p.els.toNat) else (if p.e then 0 else bits .or .u32 0 (b p.next.toNat))) := by split; exact e1.or (hb _); exact e1
  unfold headR
  dsimp only
  split
  · rename_i q; exact e2.or (bt_u (by have := h.ec q; omega))
  · exact e2
theorem headR_sub (h : RP N p) (hb : ∀ n, U32 (b n)) (hc : ∀ n, U32 (c n)) (hs : ∀ n, sub (b n) (c n)) : sub (headR p b) (headR p c) := by
  have u1 : ∀ d : Nat → Int, (∀ n, U32 (d n)) → U32 (if p.e then 0 else bits .or .u32 0 (d p.next.toNat)) := fun d hd => by split; exact U32.zero; exact U32.zero.or (hd _)
  have u2 : ∀ d : Nat → Int, (∀ n, U32 (d n)) → U32 (if p.e = false ∧ 0 ≤ p.cond then bits .or .u32 (if p.e then 0 else bits .or .u32 0 (d p.next.toNat)) (d p.els.toNat) else (if p.e then 0 else bits .or .u32 0 (d p.next.toNat))) := fun d hd => by split; exact (u1 d hd).or (hd _); exact u1 d hd
  have s1 : sub (if p.e then 0 else bits .or .u32 0 (b p.next.toNat)) (if p.e then 0 else bits .or .u32 0 (c p.next.toNat)) := by
    split
    · exact sub.refl _
    · exact or_sub U32.zero (hb _) U32.zero (hc _) (sub.refl _) (hs _)
  have s2 : sub (if p.e = false ∧ 0 ≤ p.cond then bits .or .u32 (if p.e then 0 else bits .or .u32 0 (b p.next.toNat)) (b p.els.toNat) else (if p.e then 0 else bits .or .u32 0 (b p.next.toNat))) (if p.e = false ∧ 0 ≤ p.cond then bits .or .u32 (if p.e then 0 else bits .or .u32 0 (c p.next.toNat)) (c p.els.toNat) else (if p.e then 0 else bits .or .u32 0 (c p.next.toNat))) := by
    split
    · exact or_sub (u1 b hb) (hb _) (u1 c hc) (hc _) s1 (hs _)
    · exact s1
  unfold headR
  dsimp only
  split
  · rename_i q
    have := bt_u (show p.cond < 32 by have := h.ec q; omega)
    exact or_sub (u2 b hb) this (u2 c hc) this s2 (sub.refl _)
  · exact s2
theorem readP_u (h : RP N p) (hb : ∀ n, U32 (b n)) : U32 (readP p b) := foldR_u h _ (fun x hx => List.mem_reverse.1 hx) (headR_u h hb)
theorem readP_sub (h : RP N p) (hb : ∀ n, U32 (b n)) (hc : ∀ n, U32 (c n)) (hs : ∀ n, sub (b n) (c n)) : sub (readP p b) (readP p c) := foldR_sub h _ (fun x hx => List.mem_reverse.1 hx) (headR_u h hb) (headR_u h hc) (headR_sub h hb hc hs)
end
theorem readP_z (p : PP) (b : Nat → Int) : readP (zP p) b = readP p b := by
  unfold readP
  show (p.ins.map zI).reverse.foldl stepR (headR p b) = _
  rw [← List.map_reverse, List.foldl_map]
  rfl

/-! ### The least words -/
/-- What is read from the beginning of each part on. -/
structure Lfp (l : List PP) (b : Nat → Int) : Prop where
  u : ∀ n, U32 (b n)
  eq : ∀ k p, l[k]? = some p → readP p b = b k
  least : ∀ c : Nat → Int, (∀ n, U32 (c n)) → (∀ k p, l[k]? = some p → sub (readP p c) (c k)) → ∀ k, k < l.length → sub (b k) (c k)
theorem Lfp.uniq {l : List PP} {b c : Nat → Int} (h : Lfp l b) (h' : Lfp l c) {k : Nat} (hk : k < l.length) : b k = c k :=
  tb_ext (h.u k) (h'.u k) fun r => by
    have h1 := h.least c h'.u (fun j p hp => by rw [h'.eq j p hp]; exact sub.refl _) k hk r
    have h2 := h'.least b h.u (fun j p hp => by rw [h.eq j p hp]; exact sub.refl _) k hk r
    cases e : tb (b k) r with
    | true => exact (h1 e).symm
    | false =>
      cases e2 : tb (c k) r with
      | true => rw [h2 e2] at e; cases e
      | false => rfl
theorem Lfp.z {l : List PP} {b : Nat → Int} : Lfp (l.map zP) b ↔ Lfp l b := by
  have get : ∀ k p, (l.map zP)[k]? = some p ↔ ∃ p0, l[k]? = some p0 ∧ p = zP p0 := fun k p => by
    rw [List.getElem?_map]
    constructor
    · intro h
      cases e : l[k]? with
      | none => rw [e] at h; cases h
      | some p0 =>
        rw [e] at h
        injection h with h
        exact ⟨p0, e, h.symm⟩
    · intro h
      obtain ⟨p0, h1, h2⟩ := h
      rw [h1, h2]
      rfl
  constructor
  · intro h
    refine ⟨h.u, fun k p hp => ?_, fun c hc hs k hk => h.least c hc (fun j q hq => ?_) k (by simpa using hk)⟩
    · rw [← readP_z]; exact h.eq k _ ((get k _).2 ⟨p, hp, rfl⟩)
    · obtain ⟨q0, h1, rfl⟩ := (get j q).1 hq
      rw [readP_z]; exact hs j q0 h1
  · intro h
    refine ⟨h.u, fun k p hp => ?_, fun c hc hs k hk => h.least c hc (fun j q hq => ?_) k (by simpa using hk)⟩
    · obtain ⟨p0, h1, rfl⟩ := (get k p).1 hp
      rw [readP_z]; exact h.eq k p0 h1
    · rw [← readP_z]; exact hs j _ ((get j _).2 ⟨q, hq, rfl⟩)
def unL (f : PF) (x : Int) : List Int := ((List.range f.regs.toNat).filter fun (r : Nat) => decide (f.params ≤ (r : Int)) && tb x r).map (fun (r : Nat) => (r : Int))
open Classical in
noncomputable def unP (f : PF) : List Int := if h : ∃ b, Lfp f.parts b then unL f (h.choose 0) else []
theorem unP_eq {f : PF} {b : Nat → Int} (h : Lfp f.parts b) (hne : f.parts ≠ []) : unP f = unL f (b 0) := by
  have hex : ∃ b, Lfp f.parts b := ⟨b, h⟩
  unfold unP
  rw [dif_pos hex, hex.choose_spec.uniq h (List.length_pos_iff.2 hne)]
theorem unP_z (f : PF) (hne : f.parts ≠ []) : unP (zF f) = unP f := by
  have hne2 : (zF f).parts ≠ [] := by
    show f.parts.map zP ≠ []
    simpa using hne
  by_cases h : ∃ b, Lfp f.parts b
  · obtain ⟨b, hb⟩ := h
    have hb2 : Lfp (zF f).parts b := Lfp.z.2 hb
    rw [unP_eq hb hne, unP_eq hb2 hne2]
    rfl
  · have h2 : ¬ ∃ b, Lfp (zF f).parts b := fun ⟨b, hb⟩ => h ⟨b, Lfp.z.1 hb⟩
    unfold unP
    rw [dif_neg h, dif_neg h2]
theorem unL_mem {f : PF} {x : Int} {r : Int} (h : r ∈ unL f x) : f.params ≤ r ∧ 0 ≤ r ∧ r < f.regs := by
  unfold unL at h
  obtain ⟨n, h1, rfl⟩ := List.mem_map.1 h
  obtain ⟨h2, h3⟩ := List.mem_filter.1 h1
  have h2' := List.mem_range.1 h2
  have h4 : f.params ≤ (n : Int) := by
    rw [Bool.and_eq_true] at h3
    exact of_decide_eq_true h3.1
  exact ⟨h4, by omega, by omega⟩
theorem unP_mem {f : PF} {r : Int} (h : r ∈ unP f) : f.params ≤ r ∧ 0 ≤ r ∧ r < f.regs := by
  unfold unP at h
  split at h
  · exact unL_mem h
  · cases h
theorem unL_len (f : PF) (x : Int) : (unL f x).length ≤ f.regs.toNat := by
  unfold unL
  rw [List.length_map]
  exact Nat.le_trans (List.length_filter_le _ _) (by simp)
theorem unP_len (f : PF) : (unP f).length ≤ f.regs.toNat := by
  unfold unP
  split
  · exact unL_len _ _
  · simp

end Go.Proofs.Ytnaflfpkkbfnfaa.In

namespace Go.Proofs.Ytnaflfpkkbfnfaa.In
open Go.RowKit Go.Deep Go.Shelf
set_option linter.unusedVariables false
attribute [local go_sem] Oper.semAt_some

/-- An instruction and its place. -/
def NI (zs : List PI) : Type := { x : Nat × PI // zs[x.1]? = some x.2 }
def NI.enc {zs : List PI} (x : NI zs) : Array Value := #[.int .i64 (x.1.1 : Int), x.1.2.v]
/-- The last k of them, backwards. -/
def bw (zs : List PI) : Nat → List (NI zs)
  | 0 => []
  | k + 1 => bw zs k ++ (if h : zs.length - 1 - k < zs.length then [⟨(zs.length - 1 - k, zs[zs.length - 1 - k]), List.getElem?_eq_getElem h⟩] else [])
theorem bw_succ (zs : List PI) {k m : Nat} (h : k + m + 1 = zs.length) (x : PI) (hx : zs[m]? = some x) : bw zs (k + 1) = bw zs k ++ [⟨(m, x), hx⟩] := by
  have hm : zs.length - 1 - k = m := by omega
  subst hm
  have h1 : zs.length - 1 - k < zs.length := by omega
  have h2 := (List.getElem?_eq_some_iff.1 hx).2
  show bw zs k ++ _ = _
  rw [dif_pos h1]
  congr 1
  simp only [h2]
theorem bw_len (zs : List PI) : ∀ k, k ≤ zs.length → (bw zs k).length = k
  | 0, _ => rfl
  | k + 1, h => by
    have h1 : zs.length - 1 - k < zs.length := by omega
    show (bw zs k ++ _).length = _
    rw [dif_pos h1, List.length_append, bw_len zs k (by omega)]; rfl

/-- What a round keeps: what lay below n₀, and the block that the loop's closure has captured. -/
def KB (n₀ Bs : Nat) (A B : World) : Prop := Below n₀ A B ∧ B.heap[Bs]? = A.heap[Bs]?
theorem KB.refl (n₀ Bs : Nat) (A : World) : KB n₀ Bs A A := ⟨Below.refl _ _, rfl⟩
theorem KB.trans {n₀ Bs : Nat} {A B C : World} (h : KB n₀ Bs A B) (k : KB n₀ Bs B C) : KB n₀ Bs A C := ⟨h.1.trans k.1, k.2.trans h.2⟩
theorem KB.b {n₀ Bs : Nat} {w : World} (hn : n₀ ≤ w.heap.size) (hB : Bs < w.heap.size) (W : World) (l : Nat) (o o' : Obj) (hl : w.heap.size ≤ l) (h : W.heap[l]? = some o) (h1 : o.isCells = false) (h2 : o.isWalk = false) : KB n₀ Bs W (W.putObj l o') :=
  ⟨belowK_b hn W l o o' hl h h1 h2, World.putObj_heap_other (by omega)⟩

set_option maxRecDepth 100000 in
set_option maxHeartbeats 4000000 in
theorem back_in (F : Fence) (n : Nat) (hF : F.fn 83) (hro : F.round = none) (hn : 1 ≤ n) (l Bs n₀ : Nat) (a : Option Addr) (cap : Nat) (zs : List PI) (hreach : zs.length * 64 ≤ 140737488351232) (J Jx : List (NI zs) → World → Prop)
    (hY : ∀ pre x W, J pre W → pre.length < zs.length → YieldAt F (n - 1) Try.prog l x.enc W fun e W' =>
      (e = .returned (.bool true) ∧ J (pre ++ [x]) W' ∧ KB n₀ Bs W W') ∨ (e = .returned (.bool false) ∧ Jx (pre ++ [x]) W'))
    (W : World) (hBs : W.cell? ⟨Bs, 0, none⟩ = some (.slice a zs.length cap)) (hc : Lst 7 (fun b o x => b < n₀ ∧ At W b o x.cells) a zs) (h0 : J [] W) :
    CallsIn F n Try.prog 83 #[.func (.yield l) #[] #[], .pointer (some ⟨Bs, 0, none⟩)] W fun e W' => (∃ v, e = .returned v) ∧
      ((∃ ys, ys = bw zs zs.length ∧ J ys W') ∨ (∃ pre, True ∧ Jx pre W')) := by
  refine callsIn_of_wp Try.func83 rfl hF ?_ hro
  simp only [Try.ntmps83, List.size_toArray, List.length_cons, List.length_nil, Nat.reduceAdd, Nat.reduceSub, Array.replicate_succ, Array.replicate_zero, List.push_toArray, List.append_toArray, List.nil_append, List.cons_append]
  obtain ⟨len, hlen⟩ : ∃ len, zs.length = len := ⟨_, rfl⟩
  rw [hlen] at hBs
  have e0 : wrap64 ((len : Int) - 1) = (len : Int) - 1 := by
    have : (len : Int) ≤ 140737488351232 := by omega
    unfold wrap64; omega
  gi_wp2
  gi_loopw [3] (fun i wr => ∃ m k : Nat, k + m = zs.length ∧ i = .int .i64 ((m : Int) - 1) ∧ J (bw zs k) wr ∧ KB n₀ Bs W wr)
    (fun i _ => (intOf i + 1).toNat)
  case atStart => exact ⟨len, 0, by omega, by simp, h0, KB.refl _ _ _⟩
  case round =>
    obtain ⟨m, k, hk, rfl, hJs, hnx⟩ := hrel
    have hbx : wr.cell? ⟨Bs, 0, none⟩ = some (.slice a len cap) := (World.cell?_of_block (w := W) hnx.2).trans hBs
    cases m with
    | zero =>
      obtain rfl : k = zs.length := by omega
      gi_wp2
      go_end0
      exact ⟨⟨_, rfl⟩, .inl ⟨_, rfl, hJs⟩⟩
    | succ m =>
      have e1 : ((m + 1 : Nat) : Int) - 1 = (m : Int) := by omega
      rw [e1]
      obtain ⟨x, hx⟩ : ∃ x, zs[m]? = some x := ⟨_, List.getElem?_eq_getElem (by omega)⟩
      obtain ⟨g, o, rfl, hg, hat⟩ := hc m x hx
      have hat' : At wr g (o + m * 7) x.cells := fun j hj => (hnx.1.cell (p := ⟨g, o + m * 7 + j, none⟩) hg).trans (hat j hj)
      obtain ⟨c0, c1, c2, c3, c4, c5, c6⟩ := hat'.seven
      have hm : m < len := by omega
      obtain ⟨fn, tmps, assign, body, hy, hR⟩ := hY _ ⟨(m, x), hx⟩ wr hJs (by rw [bw_len _ _ (by omega)]; omega)
      dsimp only [NI.enc] at hy
      gi_wp2
      refine hR.mono ?_
      rintro e W3 (⟨rfl, hJ3, hk3⟩ | ⟨rfl, hJx3⟩)
      · gi_wp2
        go_roundw
        case rel => exact ⟨m, k + 1, by omega, by simp, by rw [bw_succ zs (by omega) x hx]; exact hJ3, hnx.trans hk3⟩
        case measure => simp [intOf]
      · gi_wp2
        refine bodyPost_ret (results_none rfl _ _ _) rfl ?_
        exact ⟨⟨_, rfl⟩, .inr ⟨_, trivial, hJx3⟩⟩

set_option maxHeartbeats 1000000 in
theorem backward_in (F : Fence) (n : Nat) (hF : F.fn 61) (hro : F.round = none) (a : Option Addr) (len cap : Nat) (w : World) :
    CallsIn F n Try.prog 61 #[.slice a len cap] w fun e w' => e = .returned (.func (.func 83) #[] #[.pointer (some ⟨w.heap.size, 0, none⟩)]) ∧ w' = w.alloc (.cells #[.slice a len cap] 37) := by
  refine callsIn_of_wp Try.func61 rfl hF ?_ hro
  simp only [Try.ntmps61, List.size_toArray, List.length_cons, List.length_nil, Nat.reduceAdd, Nat.reduceSub, Array.replicate_succ, Array.replicate_zero, List.push_toArray, List.append_toArray, List.nil_append, List.cons_append]
  gi_wp2
  go_ret
  exact ⟨rfl, rfl⟩

theorem back_stops (F : Fence) (n : Nat) (hF : F.fn 83) (hro : F.round = none) (hn : 1 ≤ n) (Bs n₀ : Nat) (a : Option Addr) (cap : Nat) (zs : List PI) (hreach : zs.length * 64 ≤ 140737488351232) (w : World) (hBn : Bs < w.heap.size) (hn₀ : n₀ ≤ w.heap.size)
    (hBs : w.cell? ⟨Bs, 0, none⟩ = some (.slice a zs.length cap)) (hc : Lst 7 (fun b o x => b < n₀ ∧ At w b o x.cells) a zs) :
    SeqStopsK F n Try.prog 83 #[.pointer (some ⟨Bs, 0, none⟩)] (NI.enc (zs := zs)) (KB n₀ Bs) (fun ys => ys = bw zs zs.length) (fun _ => True) zs.length w := fun l J Jx W hW _ _ hY h0 => by
  have hc' := (hW.cell (p := ⟨Bs, 0, none⟩) hBn).trans hBs
  exact back_in F n hF hro hn l Bs n₀ a cap zs hreach J Jx hY W hc' (fun k x hk => by
    obtain ⟨g, o, rfl, hg, h⟩ := hc k x hk
    exact ⟨g, o, rfl, hg, fun j hj => (hW.cell (p := ⟨g, o + k * 7 + j, none⟩) (Nat.lt_of_lt_of_le hg hn₀)).trans (h j hj)⟩) h0
end Go.Proofs.Ytnaflfpkkbfnfaa.In
