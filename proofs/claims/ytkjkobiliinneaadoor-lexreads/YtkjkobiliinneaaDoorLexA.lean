/-
  Facts on tokens in memory, and on what the three readers of tokens make together; no conditions but those that each fact bears.
-/
import Derived.Test.YtkjkobiliinneaaDoorBaseE
import Derived.Laws.AppendOwn
import Derived.OwnWalk
namespace Go.Proofs.YtkjkobiliinneaaDoor
open Go.RowKit
set_option linter.unusedVariables false

/-- A token's cells. -/
def tkC (q : Lx.Tk × Nat) : List Value := [.int .u8 q.1.kind, .string ⟨q.1.text.toArray⟩, .int .i64 q.1.n, .int .u8 q.1.ty, .int .i64 q.2]
def tksC : List (Lx.Tk × Nat) → List Value
  | [] => []
  | q :: l => tkC q ++ tksC l
theorem tksC_len (l : List (Lx.Tk × Nat)) : (tksC l).length = l.length * 5 := by
  induction l with
  | nil => rfl
  | cons q l ih => simp only [tksC, List.length_append, ih, List.length_cons]; simp [tkC]; omega
theorem tksC_app (l r : List (Lx.Tk × Nat)) : tksC (l ++ r) = tksC l ++ tksC r := by
  induction l with
  | nil => rfl
  | cons q l ih => simp [tksC, ih]
theorem tkC_one (q : Lx.Tk × Nat) : ∀ v ∈ tkC q, v.oneCell' = true := by
  intro v h
  simp [tkC] at h
  rcases h with h | h | h | h | h <;> subst h <;> rfl

theorem Tryd.infoTok : (Tryd.prog.info? 35).map (fun i => (i.zero, i.size, i.bytes)) = some (some (.agg #[.int .u8 0, .string ⟨#[]⟩, .int .i64 0, .int .u8 0, .int .i64 0]), 5, 48) := by kernel_rfl

/-! ### The three readers together -/
theorem letter_ne {c : UInt8} (h : Lx.letter c = true) (d : UInt8) (hd : Lx.letter d = false) : c ≠ d := by
  rintro rfl; rw [h] at hd; cases hd
theorem numC_ne {c : UInt8} (h : Lx.numC c = true) (d : UInt8) (hd : Lx.numC d = false) : c ≠ d := by
  rintro rfl; rw [h] at hd; cases hd
theorem numberT_no (c : UInt8) (l : List UInt8) (h : Lx.numC c = false) : Lx.numberT (c :: l) = none := by
  have h35 : c ≠ 35 := by rintro rfl; exact absurd h (by decide)
  have hm : Lx.minusB (c :: l) = false := by
    cases hx : Lx.minusB (c :: l) with
    | false => rfl
    | true =>
      have := (Lx.isPrefix_two _ _ _).1 hx
      exact absurd (by cases l <;> simp at this; exact this.1) h35
  have hb : Lx.body (c :: l) = c :: l := by unfold Lx.body; rw [if_neg (by rw [hm]; decide)]
  have hd : Lx.digN (c :: l) = 0 := digN_no _ (by simp [Lx.numC] at h; exact h.1)
  unfold Lx.numberT
  rw [hb, if_neg]
  simp [Lx.numOk, Lx.digsOk, hd]
theorem signT_no (c : UInt8) (l : List UInt8) (h1 : ∀ x ∈ Lx.ones, c ≠ x) : Lx.signT (c :: l) = none := by
  unfold Lx.signT
  have ht : Lx.twos.contains ((c :: l).take 2) = false := by
    have a1 := h1 60 (by decide)
    have a2 := h1 62 (by decide)
    have a3 := h1 61 (by decide)
    have a4 := h1 33 (by decide)
    have a5 := h1 38 (by decide)
    have a6 := h1 124 (by decide)
    cases l <;> simp [Lx.twos, a1, a2, a3, a4, a5, a6]
  have ho : Lx.ones.contains c = false := by
    rw [← Bool.not_eq_true, List.contains_iff_mem]
    intro hm
    exact h1 c hm rfl
  rw [if_neg (by rw [ht]; decide), if_neg]
  simp only [List.head?_cons, Option.map_some, Option.getD_some]
  rw [ho]
  decide
theorem ones_letter : ∀ x ∈ Lx.ones, Lx.letter x = false := by decide
theorem ones_numC : ∀ x ∈ Lx.ones, Lx.numC x = false := by decide
theorem letter_numC {c : UInt8} (h : Lx.letter c = true) : Lx.numC c = false := by
  simp only [Lx.letter, Bool.and_eq_true, decide_eq_true_eq] at h
  simp [Lx.numC, Lx.digit]
  omega
/-- The first of the three readers that finds one. -/
theorem tok_three (l : List UInt8) (hl : l ≠ []) : Lx.tok l = (Lx.lettersT l).or ((Lx.numberT l).or (Lx.signT l)) := by
  cases l with
  | nil => exact absurd rfl hl
  | cons c l =>
    simp only [Lx.tok]
    split
    · rename_i h
      rw [numberT_no c l (letter_numC h), signT_no c l (fun x hx => letter_ne h x (ones_letter x hx))]
      simp
    · rename_i h
      have hb : Lx.lettersT (c :: l) = none := by unfold Lx.lettersT; rw [if_neg (by simpa [Lx.begins] using h)]
      rw [hb]
      split
      · rename_i h2
        rw [signT_no c l (fun x hx => numC_ne h2 x (ones_numC x hx))]
        simp
      · rename_i h2
        rw [numberT_no c l (by simpa using h2)]
        simp
theorem three_kind {l : List UInt8} (hl : l ≠ []) : (∀ t, Lx.lettersT l = some t → Lx.tok l = some t) ∧ (∀ t, Lx.lettersT l = none → Lx.numberT l = some t → Lx.tok l = some t) ∧ (∀ t, Lx.lettersT l = none → Lx.numberT l = none → Lx.signT l = some t → Lx.tok l = some t) ∧ (Lx.lettersT l = none → Lx.numberT l = none → Lx.signT l = none → Lx.tok l = none) := by
  rw [tok_three l hl]
  refine ⟨?_, ?_, ?_, ?_⟩
  · intro t h; rw [h]; rfl
  · intro t h h2; rw [h, h2]; rfl
  · intro t h h2 h3; rw [h, h2, h3]; rfl
  · intro h h2 h3; rw [h, h2, h3]; rfl

/-! ### A token appended to a list of one's own -/
theorem ownsRow_block {w w' : World} {base : Nat} {e : TypeId} {size : Nat} {v : Value} {n : Nat} {xs : List Value} (h : w.ownsRow base e size v n xs) (hk : ∀ k, v.ownBlock = some k → w'.heap[k]? = w.heap[k]?) : w'.ownsRow base e size v n xs := by
  obtain ⟨h1, h2⟩ := h
  refine ⟨h1, ?_⟩
  rcases h2 with h2 | ⟨g, cap, cur, hv, hg, hh, r⟩
  · exact Or.inl h2
  · refine Or.inr ⟨g, cap, cur, hv, hg, ?_, r⟩
    rw [hk g (by rw [hv]; rfl)]
    exact hh
theorem ownsRow_q {w w' : World} {base : Nat} {e : TypeId} {size : Nat} {v : Value} {n : Nat} {xs : List Value} (h : w.ownsRow base e size v n xs) (q : Q w w') : w'.ownsRow base e size v n xs :=
  ownsRow_block h (fun k hk => q.block k (h.lt k hk).2)
theorem cell_new {X : World} (cs : List Value) (t : TypeId) (j : Nat) (u : Value) (hu : cs[j]? = some u) : (X.alloc (.cells cs.toArray t)).cell? ((⟨X.heap.size, 0, none⟩ : Addr).add j) = some u := by
  have e : (⟨X.heap.size, 0, none⟩ : Addr).add j = ⟨X.heap.size, j, none⟩ := by
    by_cases hz : j = 0
    · subst hz; rfl
    · simp [Addr.add, hz]
  rw [e, cell_box]
  simpa using hu

theorem app_one {w X : World} {G : List (Lx.Tk × Nat)} {v : Value} (q : Lx.Tk × Nat) (N : Nat) (hq : Q w X) (hown : X.ownsRow w.heap.size 35 5 v G.length (tksC G)) (hN : N = X.heap.size) (hG : G.length ≤ 70000)
    {ops : Array Oper} {rest : List Oper} {o : Oper} {a : Act} {Q' : Exit → Act → World → Prop} (hgd : o.guard = none) (s y : Operand)
    (ho : o.op = Op.call { callee := Callee.builtin Builtin.append, args := #[s, y], argTypes := #[23, 23] }) (hs : a.eval s = v) (hx : a.eval y = .slice (some ⟨N, 0, none⟩) 1 1)
    (kd : Int) (tx : ByteArray) (n ty at_ : Int) (htk : tkC q = [.int .u8 kd, .string tx, .int .i64 n, .int .u8 ty, .int .i64 at_])
    (h : ∀ v' w', w'.ownsRow w.heap.size 35 5 v' (G.length + 1) (tksC (G ++ [q])) → Q w w' → (∀ blk, blk < X.heap.size → v.ownBlock ≠ some blk → w'.heap[blk]? = X.heap[blk]?) → wpList Tryd.prog ops Q' rest (a.put o.dst v') w') :
    wpList Tryd.prog ops Q' (o :: rest) a (X.alloc (.cells #[.int .u8 kd, .string tx, .int .i64 n, .int .u8 ty, .int .i64 at_] 35)) := by
  obtain ⟨i0, hi, hz0, hz1, hz2⟩ := info_parts Tryd.infoTok
  subst hN
  refine wpList_append_own _ hgd s y 23 ho w.heap.size 35 i0 (.agg #[.int .u8 0, .string ⟨#[]⟩, .int .i64 0, .int .u8 0, .int .i64 0]) 5 48 Tryd.underlying23 hi hz0 hz1 hz2 rfl (by decide) v G.length (tksC G) hs (hown.alloc _) ⟨X.heap.size, 0, none⟩ 1 1 (tkC q) hx (by rw [htk]; rfl) ?_ (tkC_one q) (by unfold maxLen; omega) (by omega) (by have := hq.size; simp; omega) ?_
  · intro j u hu
    rw [htk] at hu
    exact cell_new _ _ j u hu
  · intro v' w' r1 r2 r3
    have hQ : Q w (X.alloc (.cells #[.int .u8 kd, .string tx, .int .i64 n, .int .u8 ty, .int .i64 at_] 35)) := hq.alloc _
    refine h v' w' ?_ (Below.grown hQ r2 hQ.size (fun k hk => (hown.lt k hk).1)) ?_
    · rw [tksC_app]
      simpa [tksC] using r1
    · intro blk hb hne
      rw [r2.block blk (by simp; omega) (fun e => hne e.symm)]
      exact Below.heap_alloc X _ blk hb

theorem app_two {w x : World} {G : List (Lx.Tk × Nat)} {v : Value} (q : Lx.Tk × Nat) (hq : Q w x) (hown : x.ownsRow w.heap.size 35 5 v G.length (tksC G)) (hG : G.length ≤ 70000)
    {ops : Array Oper} {rest : List Oper} {o : Oper} {a : Act} {Q' : Exit → Act → World → Prop} (hgd : o.guard = none) (s y : Operand)
    (ho : o.op = Op.call { callee := Callee.builtin Builtin.append, args := #[s, y], argTypes := #[23, 23] }) (hs : a.eval s = v) (hx : a.eval y = .slice (some ⟨x.heap.size + 1, 0, none⟩) 1 1)
    (kd : Int) (tx : ByteArray) (n ty at_ : Int) (htk : tkC q = [.int .u8 kd, .string tx, .int .i64 n, .int .u8 ty, .int .i64 at_])
    (h : ∀ v' w', w'.ownsRow w.heap.size 35 5 v' (G.length + 1) (tksC (G ++ [q])) → Q w w' → w'.cell? ⟨x.heap.size, 1, none⟩ = some (.string tx) → wpList Tryd.prog ops Q' rest (a.put o.dst v') w') :
    wpList Tryd.prog ops Q' (o :: rest) a ((x.alloc (.cells #[.int .u8 kd, .string tx, .int .i64 n, .int .u8 ty, .int .i64 at_] 35)).alloc (.cells #[.int .u8 kd, .string tx, .int .i64 n, .int .u8 ty, .int .i64 at_] 35)) := by
  refine app_one q (x.heap.size + 1) (hq.alloc _) (hown.alloc _) (by simp) hG hgd s y ho hs hx kd tx n ty at_ htk ?_
  intro v' w' r1 r2 r3
  refine h v' w' r1 r2 ?_
  have hb := r3 x.heap.size (by simp) (fun e => by have := (hown.lt _ e).2; omega)
  rw [heap_alloc_new] at hb
  simp [World.cell?, hb]
end Go.Proofs.YtkjkobiliinneaaDoor
