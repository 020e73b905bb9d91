/-
  Facts on tokens in memory, and on what the three readers of tokens make together; no conditions but those that each fact bears.
  What Lex returns: a contract over the program; the conditions: a length that fits, and the two lists of layer 4 lie as its text lays them.
  Lists of tokens as they lie in memory, Lex's contract over them, and the law's own example; the conditions: the two lists of layer 4 lie as its text lays them.
-/
import Derived.Test.YtoilhcklflmamaaGreatDoorKBaseE
import Derived.Laws.AppendOwn
import Derived.OwnWalk
import Derived.Shelf.Abstract
import Derived.WalkMore
import Derived.Deep.LoopGhost
namespace Go.Proofs.YtoilhcklflmamaaGreatDoor
open Go.RowKit
set_option linter.unusedVariables false

/-- A token's cells. -/
def tkC (q : Lx.Tk × Nat) : List Value := [.int .u8 q.1.kind, .string ⟨q.1.text.toArray⟩, .int .i64 q.1.n, .int .u8 q.1.ty, .int .i64 q.2]
def tksC : List (Lx.Tk × Nat) → List Value
  | [] => []
  | q :: l => tkC q ++ tksC l
theorem tksC_len (l : List (Lx.Tk × Nat)) : (tksC l).length = l.length * 5 := by
  induction l with
  | nil => rfl
  | cons q l ih => simp only [tksC, List.length_append, ih, List.length_cons]; simp [tkC]; omega
theorem tksC_app (l r : List (Lx.Tk × Nat)) : tksC (l ++ r) = tksC l ++ tksC r := by
  induction l with
  | nil => rfl
  | cons q l ih => simp [tksC, ih]
theorem tkC_one (q : Lx.Tk × Nat) : ∀ v ∈ tkC q, v.oneCell' = true := by
  intro v h
  simp [tkC] at h
  rcases h with h | h | h | h | h <;> subst h <;> rfl

theorem Tryz.infoTok : (Tryz.prog.info? 58).map (fun i => (i.zero, i.size, i.bytes)) = some (some (.agg #[.int .u8 0, .string ⟨#[]⟩, .int .i64 0, .int .u8 0, .int .i64 0]), 5, 48) := by kernel_rfl

/-! ### The three readers together -/
theorem letter_ne {c : UInt8} (h : Lx.letter c = true) (d : UInt8) (hd : Lx.letter d = false) : c ≠ d := by
  rintro rfl; rw [h] at hd; cases hd
theorem numC_ne {c : UInt8} (h : Lx.numC c = true) (d : UInt8) (hd : Lx.numC d = false) : c ≠ d := by
  rintro rfl; rw [h] at hd; cases hd
theorem numberT_no (c : UInt8) (l : List UInt8) (h : Lx.numC c = false) : Lx.numberT (c :: l) = none := by
  have h35 : c ≠ 35 := by rintro rfl; exact absurd h (by decide)
  have hm : Lx.minusB (c :: l) = false := by
    cases hx : Lx.minusB (c :: l) with
    | false => rfl
    | true =>
      have := (Lx.isPrefix_two _ _ _).1 hx
      exact absurd (by cases l <;> simp at this; exact this.1) h35
  have hb : Lx.body (c :: l) = c :: l := by unfold Lx.body; rw [if_neg (by rw [hm]; decide)]
  have hd : Lx.digN (c :: l) = 0 := digN_no _ (by simp [Lx.numC] at h; exact h.1)
  unfold Lx.numberT
  rw [hb, if_neg]
  simp [Lx.numOk, Lx.digsOk, hd]
theorem signT_no (c : UInt8) (l : List UInt8) (h1 : ∀ x ∈ Lx.ones, c ≠ x) : Lx.signT (c :: l) = none := by
  unfold Lx.signT
  have ht : Lx.twos.contains ((c :: l).take 2) = false := by
    have a1 := h1 60 (by decide)
    have a2 := h1 62 (by decide)
    have a3 := h1 61 (by decide)
    have a4 := h1 33 (by decide)
    have a5 := h1 38 (by decide)
    have a6 := h1 124 (by decide)
    cases l <;> simp [Lx.twos, a1, a2, a3, a4, a5, a6]
  have ho : Lx.ones.contains c = false := by
    rw [← Bool.not_eq_true, List.contains_iff_mem]
    intro hm
    exact h1 c hm rfl
  rw [if_neg (by rw [ht]; decide), if_neg]
  simp only [List.head?_cons, Option.map_some, Option.getD_some]
  rw [ho]
  decide
theorem ones_letter : ∀ x ∈ Lx.ones, Lx.letter x = false := by decide
theorem ones_numC : ∀ x ∈ Lx.ones, Lx.numC x = false := by decide
theorem letter_numC {c : UInt8} (h : Lx.letter c = true) : Lx.numC c = false := by
  simp only [Lx.letter, Bool.and_eq_true, decide_eq_true_eq] at h
  simp [Lx.numC, Lx.digit]
  omega
/-- The first of the three readers that finds one. -/
theorem tok_three (l : List UInt8) (hl : l ≠ []) : Lx.tok l = (Lx.lettersT l).or ((Lx.numberT l).or (Lx.signT l)) := by
  cases l with
  | nil => exact absurd rfl hl
  | cons c l =>
    simp only [Lx.tok]
    split
    · rename_i h
      rw [numberT_no c l (letter_numC h), signT_no c l (fun x hx => letter_ne h x (ones_letter x hx))]
      simp
    · rename_i h
      have hb : Lx.lettersT (c :: l) = none := by unfold Lx.lettersT; rw [if_neg (by simpa [Lx.begins] using h)]
      rw [hb]
      split
      · rename_i h2
        rw [signT_no c l (fun x hx => numC_ne h2 x (ones_numC x hx))]
        simp
      · rename_i h2
        rw [numberT_no c l (by simpa using h2)]
        simp
theorem three_kind {l : List UInt8} (hl : l ≠ []) : (∀ t, Lx.lettersT l = some t → Lx.tok l = some t) ∧ (∀ t, Lx.lettersT l = none → Lx.numberT l = some t → Lx.tok l = some t) ∧ (∀ t, Lx.lettersT l = none → Lx.numberT l = none → Lx.signT l = some t → Lx.tok l = some t) ∧ (Lx.lettersT l = none → Lx.numberT l = none → Lx.signT l = none → Lx.tok l = none) := by
  rw [tok_three l hl]
  refine ⟨?_, ?_, ?_, ?_⟩
  · intro t h; rw [h]; rfl
  · intro t h h2; rw [h, h2]; rfl
  · intro t h h2 h3; rw [h, h2, h3]; rfl
  · intro h h2 h3; rw [h, h2, h3]; rfl

/-! ### A token appended to a list of one's own -/
theorem ownsRow_block {w w' : World} {base : Nat} {e : TypeId} {size : Nat} {v : Value} {n : Nat} {xs : List Value} (h : w.ownsRow base e size v n xs) (hk : ∀ k, v.ownBlock = some k → w'.heap[k]? = w.heap[k]?) : w'.ownsRow base e size v n xs := by
  obtain ⟨h1, h2⟩ := h
  refine ⟨h1, ?_⟩
  rcases h2 with h2 | ⟨g, cap, cur, hv, hg, hh, r⟩
  · exact Or.inl h2
  · refine Or.inr ⟨g, cap, cur, hv, hg, ?_, r⟩
    rw [hk g (by rw [hv]; rfl)]
    exact hh
theorem ownsRow_q {w w' : World} {base : Nat} {e : TypeId} {size : Nat} {v : Value} {n : Nat} {xs : List Value} (h : w.ownsRow base e size v n xs) (q : Q w w') : w'.ownsRow base e size v n xs :=
  ownsRow_block h (fun k hk => q.block k (h.lt k hk).2)
theorem cell_new {X : World} (cs : List Value) (t : TypeId) (j : Nat) (u : Value) (hu : cs[j]? = some u) : (X.alloc (.cells cs.toArray t)).cell? ((⟨X.heap.size, 0, none⟩ : Addr).add j) = some u := by
  have e : (⟨X.heap.size, 0, none⟩ : Addr).add j = ⟨X.heap.size, j, none⟩ := by
    by_cases hz : j = 0
    · subst hz; rfl
    · simp [Addr.add, hz]
  rw [e, cell_box]
  simpa using hu

theorem app_one {w X : World} {G : List (Lx.Tk × Nat)} {v : Value} (q : Lx.Tk × Nat) (N : Nat) (hq : Q w X) (hown : X.ownsRow w.heap.size 58 5 v G.length (tksC G)) (hN : N = X.heap.size) (hG : G.length ≤ 70000)
    {ops : Array Oper} {rest : List Oper} {o : Oper} {a : Act} {Q' : Exit → Act → World → Prop} (hgd : o.guard = none) (s y : Operand)
    (ho : o.op = Op.call { callee := Callee.builtin Builtin.append, args := #[s, y], argTypes := #[43, 43] }) (hs : a.eval s = v) (hx : a.eval y = .slice (some ⟨N, 0, none⟩) 1 1)
    (kd : Int) (tx : ByteArray) (n ty at_ : Int) (htk : tkC q = [.int .u8 kd, .string tx, .int .i64 n, .int .u8 ty, .int .i64 at_])
    (h : ∀ v' w', w'.ownsRow w.heap.size 58 5 v' (G.length + 1) (tksC (G ++ [q])) → Q w w' → (∀ blk, blk < X.heap.size → v.ownBlock ≠ some blk → w'.heap[blk]? = X.heap[blk]?) → wpList Tryz.prog ops Q' rest (a.put o.dst v') w') :
    wpList Tryz.prog ops Q' (o :: rest) a (X.alloc (.cells #[.int .u8 kd, .string tx, .int .i64 n, .int .u8 ty, .int .i64 at_] 58)) := by
  obtain ⟨i0, hi, hz0, hz1, hz2⟩ := info_parts Tryz.infoTok
  subst hN
  refine wpList_append_own _ hgd s y 43 ho w.heap.size 58 i0 (.agg #[.int .u8 0, .string ⟨#[]⟩, .int .i64 0, .int .u8 0, .int .i64 0]) 5 48 Tryz.underlying43 hi hz0 hz1 hz2 rfl (by decide) v G.length (tksC G) hs (hown.alloc _) ⟨X.heap.size, 0, none⟩ 1 1 (tkC q) hx (by rw [htk]; rfl) ?_ (tkC_one q) (by unfold maxLen; omega) (by omega) (by have := hq.size; simp; omega) ?_
  · intro j u hu
    rw [htk] at hu
    exact cell_new _ _ j u hu
  · intro v' w' r1 r2 r3
    have hQ : Q w (X.alloc (.cells #[.int .u8 kd, .string tx, .int .i64 n, .int .u8 ty, .int .i64 at_] 58)) := hq.alloc _
    refine h v' w' ?_ (Below.grown hQ r2 hQ.size (fun k hk => (hown.lt k hk).1)) ?_
    · rw [tksC_app]
      simpa [tksC] using r1
    · intro blk hb hne
      rw [r2.block blk (by simp; omega) (fun e => hne e.symm)]
      exact Below.heap_alloc X _ blk hb

theorem app_two {w x : World} {G : List (Lx.Tk × Nat)} {v : Value} (q : Lx.Tk × Nat) (hq : Q w x) (hown : x.ownsRow w.heap.size 58 5 v G.length (tksC G)) (hG : G.length ≤ 70000)
    {ops : Array Oper} {rest : List Oper} {o : Oper} {a : Act} {Q' : Exit → Act → World → Prop} (hgd : o.guard = none) (s y : Operand)
    (ho : o.op = Op.call { callee := Callee.builtin Builtin.append, args := #[s, y], argTypes := #[43, 43] }) (hs : a.eval s = v) (hx : a.eval y = .slice (some ⟨x.heap.size + 1, 0, none⟩) 1 1)
    (kd : Int) (tx : ByteArray) (n ty at_ : Int) (htk : tkC q = [.int .u8 kd, .string tx, .int .i64 n, .int .u8 ty, .int .i64 at_])
    (h : ∀ v' w', w'.ownsRow w.heap.size 58 5 v' (G.length + 1) (tksC (G ++ [q])) → Q w w' → w'.cell? ⟨x.heap.size, 1, none⟩ = some (.string tx) → wpList Tryz.prog ops Q' rest (a.put o.dst v') w') :
    wpList Tryz.prog ops Q' (o :: rest) a ((x.alloc (.cells #[.int .u8 kd, .string tx, .int .i64 n, .int .u8 ty, .int .i64 at_] 58)).alloc (.cells #[.int .u8 kd, .string tx, .int .i64 n, .int .u8 ty, .int .i64 at_] 58)) := by
  refine app_one q (x.heap.size + 1) (hq.alloc _) (hown.alloc _) (by simp) hG hgd s y ho hs hx kd tx n ty at_ htk ?_
  intro v' w' r1 r2 r3
  refine h v' w' r1 r2 ?_
  have hb := r3 x.heap.size (by simp) (fun e => by have := (hown.lt _ e).2; omega)
  rw [heap_alloc_new] at hb
  simp [World.cell?, hb]
end Go.Proofs.YtoilhcklflmamaaGreatDoor

namespace Go.Proofs.YtoilhcklflmamaaGreatDoor
open Go.RowKit
set_option linter.unusedVariables false

def endTk : Lx.Tk := ⟨0, [], 0, 0⟩
/-- What Lex leaves. -/
def LexPost (s : ByteArray) (w : World) (e : Ending) (w' : World) : Prop :=
  Q w w' ∧ ((Lx.lex 0 (bl s)).2 = none → ∃ v, e = .returned (.tuple #[v, .int .i64 0, .int .i64 0]) ∧ w'.ownsRow w.heap.size 58 5 v ((Lx.lex 0 (bl s)).1.length + 1) (tksC ((Lx.lex 0 (bl s)).1 ++ [(endTk, s.size)]))) ∧
  (∀ p, (Lx.lex 0 (bl s)).2 = some p → e = .returned (.tuple #[.slice none 0 0, .int .i64 (p : Int), .int .i64 5]))

def nones (j : Int) (l : List UInt8) : Prop := (0 < j → Lx.lettersT l = none) ∧ (1 < j → Lx.numberT l = none) ∧ (2 < j → Lx.signT l = none)
theorem lex_long (s : ByteArray) (w : World) (hs : 65536 < s.size) :
    Calls Tryz.prog 19 #[.string s] w fun e w' => e = .returned (.tuple #[.slice none 0 0, .int .i64 0, .int .i64 2]) ∧ w' = w := by
  have hd : decide ((65536 : Int) < (s.size : Int)) = true := by simp; omega
  go_enter Tryz.func19, Tryz.ntmps19
  go_wp2_with (fail)
  go_step3
  go_wp2_with (fail)
  rw [Exit.noGoto_ret]
  go_ret3
  exact ⟨rfl, rfl⟩

set_option maxRecDepth 100000 in
set_option maxHeartbeats 1000000 in
theorem lex_any (s : ByteArray) (w : World) (hs : s.size ≤ 65536) (hL : Laid w) :
    Calls Tryz.prog 19 #[.string s] w fun e w' => LexPost s w e w' := by
  have hd : decide ((65536 : Int) < (s.size : Int)) = false := by simp; omega
  obtain ⟨i0, hi, hz0, hz1, hz2⟩ := info_parts Tryz.infoTok
  obtain ⟨R, hR⟩ : ∃ R, Lx.lex 0 (bl s) = R := ⟨_, rfl⟩
  have HR := hideIt hR
  have HL := hideIt hL
  clear hR hL
  go_enter Tryz.func19, Tryz.ntmps19
  go_wp2_with (fail)
  go_step3
  go_wp2_with (fail)
  go_step3
  go_wp2_with (fail)
  go_loopw [5, 6] (fun v i wr => ∃ (k : Nat) (G : List (Lx.Tk × Nat)), i = .int .i64 k ∧ k ≤ s.size ∧ G.length ≤ k ∧ wr.ownsRow w.heap.size 58 5 v G.length (tksC G) ∧ Hid (R = (G ++ (Lx.lex k ((bl s).drop k)).1, (Lx.lex k ((bl s).drop k)).2)) ∧ Q w wr) (fun _ i _ => s.size - (intOf i).toNat)
  case atStart =>
    refine ⟨0, [], rfl, Nat.zero_le _, Nat.le_refl _, ⟨rfl, Or.inl ⟨rfl, rfl⟩⟩, ?_, Q.refl _⟩
    show R = _
    rw [← HR.out]
    simp
  case round =>
    obtain ⟨k, G, rfl, hk, hG, ho, HX, hq⟩ := hrel
    have HO := hideIt ho
    have HQ := hideIt hq
    clear ho hq
    by_cases hlt : k < s.size
    · have hki : (k : Int) < (s.size : Int) := by omega
      have hkd : decide ((k : Int) < (s.size : Int)) = true := by simp; omega
      obtain ⟨b, hb⟩ : ∃ b, s.extract k s.size = b := ⟨_, rfl⟩
      have hbl : bl b = (bl s).drop k := by rw [← hb]; exact bl_from s k
      have hbs : b.size = s.size - k := by rw [← bl_len b, hbl, List.length_drop, bl_len]
      have HB := hideIt (fun w => blank_any b w (by omega) (by omega))
      have hbk := Lx.blankN_le (bl b)
      rw [bl_len] at hbk
      by_cases hn : Lx.blankN (bl b) = 0
      · have hne : bl b ≠ [] := by
          intro e
          have := congrArg List.length e
          rw [bl_len, hbs] at this
          exact absurd (show s.size - k = 0 from this) (by omega)
        have H3 := hideIt (three_kind hne)
        have H3n := hne
        clear hne
        have HN := hideIt hn
        rw [hn] at HB
        have HBL := hideIt hbl
        clear hn hbl
        go_wp2_with (first | (go_at_call 27; refine (HB.out _).mono ?_; rintro e w' ⟨rfl, rfl⟩) | fail)
        go_loopw [5, 6, 30] (fun v5 i j wr2 => ∃ jj : Int, v5 = u5 ∧ i = .int .i64 k ∧ j = .int .i64 jj ∧ 0 ≤ jj ∧ jj ≤ 3 ∧ Hid (nones jj (bl b)) ∧ Q w' wr2) (fun _ _ j _ => 3 - (intOf j).toNat)
        case atStart => exact ⟨0, rfl, rfl, rfl, by omega, by omega, ⟨fun h => by omega, fun h => by omega, fun h => by omega⟩, Q.refl _⟩
        case round =>
          obtain ⟨jj, rfl, rfl, rfl, hj0, hj, HJ, hq2⟩ := hrel
          clear hkd HB hbk
          have f0 : ∀ w, (Instr.index 65 (.agg #[.func (.func 28) #[] #[], .func (.func 29) #[] #[], .func (.func 30) #[] #[]]) (.int .i64 0)).run Tryz.prog w = .ok (.func (.func 28) #[] #[]) w := fun _ => by kernel_rfl
          have f1 : ∀ w, (Instr.index 65 (.agg #[.func (.func 28) #[] #[], .func (.func 29) #[] #[], .func (.func 30) #[] #[]]) (.int .i64 1)).run Tryz.prog w = .ok (.func (.func 29) #[] #[]) w := fun _ => by kernel_rfl
          have f2 : ∀ w, (Instr.index 65 (.agg #[.func (.func 28) #[] #[], .func (.func 29) #[] #[], .func (.func 30) #[] #[]]) (.int .i64 2)).run Tryz.prog w = .ok (.func (.func 30) #[] #[]) w := fun _ => by kernel_rfl
          have HLw := HL.out.keep (HQ.out.trans hq2)
          have HO2 := hideIt (ownsRow_q HO.out hq2)
          have HQ2 := hideIt (HQ.out.trans hq2)
          have HQ3 := hideIt hq2
          clear hq2
          rcases (show jj = 0 ∨ jj = 1 ∨ jj = 2 ∨ jj = 3 by omega) with rfl | rfl | rfl | rfl
          · have HC := hideIt (letters_any b wr (by omega) HLw)
            cases ht : Lx.lettersT (bl b) with
            | none =>
              rw [ht] at HC
              simp only [optV] at HC
              have HN1 : Hid (nones 1 (bl b)) := ⟨fun _ => ht, fun h => by omega, fun h => by omega⟩
              clear ht HLw
              go_wp2_with (first | (go_at_call 28; refine HC.out.mono ?_; rintro e x ⟨rfl, q⟩; have HP := hideIt q; clear q) | fail)
              go_roundw
              case rel => exact ⟨1, rfl, rfl, by go_num, by omega, by omega, HN1, (HQ3.out.trans HP.out).alloc _⟩
              case measure => simp [intOf]
            | some t =>
              rw [ht] at HC
              simp only [optV] at HC
              have HT := hideIt (H3.out.1 t ht)
              obtain ⟨l1, -, l2, l3, l4, l5, l6, l7⟩ := Lx.tok_len HT.out
              rw [bl_len] at l2
              have hkn : ((t.kind : Int) != 0) = true := by rw [bne_iff_ne]; omega
              have HNX : Hid (R = (G ++ [(t, k)] ++ (Lx.lex (k + t.text.length) ((bl s).drop (k + t.text.length))).1, (Lx.lex (k + t.text.length) ((bl s).drop (k + t.text.length))).2)) := by
                have h5 := HX.out
                rw [← HBL.out, Lx.lex_tok k _ t HN.out HT.out] at h5
                show R = _
                rw [h5, HBL.out, List.drop_drop]
                simp
              have HTX := hideIt (show (⟨t.text.toArray⟩ : ByteArray).size = t.text.length from by simp [ByteArray.size])
              have htx := HTX.out
              clear ht HLw
              go_wp2_with (first | (go_at_call 28; refine HC.out.mono ?_; rintro e x ⟨rfl, q⟩; have HP := hideIt q; clear q) | (at_builtin; refine app_two (t, k) (HQ2.out.trans HP.out) (ownsRow_q HO2.out HP.out) (by omega) rfl (.tmp 41) (.tmp 43) rfl rfl rfl (t.kind : Int) ⟨t.text.toArray⟩ t.n (t.ty : Int) (k : Int) rfl ?_; intro nv y r1 r2 r3; have R1 := hideIt r1; have R2 := hideIt r2; clear r1 r2) | fail)
              go_roundw
              case rel =>
                refine ⟨k + t.text.length, G ++ [(t, k)], by go_num, by omega, by simp; omega, ?_, HNX, R2.out⟩
                have h7 := R1.out
                simpa using h7
              case measure => simp [intOf]; omega
          · have HC := hideIt (number_any b wr (by omega) HLw)
            cases ht : Lx.numberT (bl b) with
            | none =>
              rw [ht] at HC
              simp only [optV] at HC
              have HN1 : Hid (nones 2 (bl b)) := ⟨fun _ => HJ.out.1 (by omega), fun _ => ht, fun h => by omega⟩
              clear ht HLw
              go_wp2_with (first | (go_at_call 29; refine HC.out.mono ?_; rintro e x ⟨rfl, q⟩; have HP := hideIt q; clear q) | fail)
              go_roundw
              case rel => exact ⟨2, rfl, rfl, by go_num, by omega, by omega, HN1, (HQ3.out.trans HP.out).alloc _⟩
              case measure => simp [intOf]
            | some t =>
              rw [ht] at HC
              simp only [optV] at HC
              have HT := hideIt (H3.out.2.1 t (HJ.out.1 (by omega)) ht)
              obtain ⟨l1, -, l2, l3, l4, l5, l6, l7⟩ := Lx.tok_len HT.out
              rw [bl_len] at l2
              have hkn : ((t.kind : Int) != 0) = true := by rw [bne_iff_ne]; omega
              have HNX : Hid (R = (G ++ [(t, k)] ++ (Lx.lex (k + t.text.length) ((bl s).drop (k + t.text.length))).1, (Lx.lex (k + t.text.length) ((bl s).drop (k + t.text.length))).2)) := by
                have h5 := HX.out
                rw [← HBL.out, Lx.lex_tok k _ t HN.out HT.out] at h5
                show R = _
                rw [h5, HBL.out, List.drop_drop]
                simp
              have HTX := hideIt (show (⟨t.text.toArray⟩ : ByteArray).size = t.text.length from by simp [ByteArray.size])
              have htx := HTX.out
              clear ht HLw
              go_wp2_with (first | (go_at_call 29; refine HC.out.mono ?_; rintro e x ⟨rfl, q⟩; have HP := hideIt q; clear q) | (at_builtin; refine app_two (t, k) (HQ2.out.trans HP.out) (ownsRow_q HO2.out HP.out) (by omega) rfl (.tmp 41) (.tmp 43) rfl rfl rfl (t.kind : Int) ⟨t.text.toArray⟩ t.n (t.ty : Int) (k : Int) rfl ?_; intro nv y r1 r2 r3; have R1 := hideIt r1; have R2 := hideIt r2; clear r1 r2) | fail)
              go_roundw
              case rel =>
                refine ⟨k + t.text.length, G ++ [(t, k)], by go_num, by omega, by simp; omega, ?_, HNX, R2.out⟩
                have h7 := R1.out
                simpa using h7
              case measure => simp [intOf]; omega
          · have HC := hideIt (sign_any b wr HLw)
            cases ht : Lx.signT (bl b) with
            | none =>
              rw [ht] at HC
              simp only [optV] at HC
              have HN1 : Hid (nones 3 (bl b)) := ⟨fun _ => HJ.out.1 (by omega), fun _ => HJ.out.2.1 (by omega), fun _ => ht⟩
              clear ht HLw
              go_wp2_with (first | (go_at_call 30; refine HC.out.mono ?_; rintro e x ⟨rfl, q⟩; have HP := hideIt q; clear q) | fail)
              go_roundw
              case rel => exact ⟨3, rfl, rfl, by go_num, by omega, by omega, HN1, (HQ3.out.trans HP.out).alloc _⟩
              case measure => simp [intOf]
            | some t =>
              rw [ht] at HC
              simp only [optV] at HC
              have HT := hideIt (H3.out.2.2.1 t (HJ.out.1 (by omega)) (HJ.out.2.1 (by omega)) ht)
              obtain ⟨l1, -, l2, l3, l4, l5, l6, l7⟩ := Lx.tok_len HT.out
              rw [bl_len] at l2
              have hkn : ((t.kind : Int) != 0) = true := by rw [bne_iff_ne]; omega
              have HNX : Hid (R = (G ++ [(t, k)] ++ (Lx.lex (k + t.text.length) ((bl s).drop (k + t.text.length))).1, (Lx.lex (k + t.text.length) ((bl s).drop (k + t.text.length))).2)) := by
                have h5 := HX.out
                rw [← HBL.out, Lx.lex_tok k _ t HN.out HT.out] at h5
                show R = _
                rw [h5, HBL.out, List.drop_drop]
                simp
              have HTX := hideIt (show (⟨t.text.toArray⟩ : ByteArray).size = t.text.length from by simp [ByteArray.size])
              have htx := HTX.out
              clear ht HLw
              go_wp2_with (first | (go_at_call 30; refine HC.out.mono ?_; rintro e x ⟨rfl, q⟩; have HP := hideIt q; clear q) | (at_builtin; refine app_two (t, k) (HQ2.out.trans HP.out) (ownsRow_q HO2.out HP.out) (by omega) rfl (.tmp 41) (.tmp 43) rfl rfl rfl (t.kind : Int) ⟨t.text.toArray⟩ t.n (t.ty : Int) (k : Int) rfl ?_; intro nv y r1 r2 r3; have R1 := hideIt r1; have R2 := hideIt r2; clear r1 r2) | fail)
              go_roundw
              case rel =>
                refine ⟨k + t.text.length, G ++ [(t, k)], by go_num, by omega, by simp; omega, ?_, HNX, R2.out⟩
                have h7 := R1.out
                simpa using h7
              case measure => simp [intOf]; omega
          · have HTN : Hid (R = (G, some k)) := by
              have h5 := HX.out
              rw [← HBL.out, Lx.lex_none k _ HN.out H3n (H3.out.2.2.2 (HJ.out.1 (by omega)) (HJ.out.2.1 (by omega)) (HJ.out.2.2 (by omega)))] at h5
              show R = _
              rw [h5]
              simp
            clear HLw
            go_wp2_with (fail)
            try rw [Exit.noGoto_ret]
            go_ret3
            refine ⟨HQ2.out, fun h => ?_, fun p hp => ?_⟩
            · rw [HR.out, HTN.out] at h; cases h
            · rw [HR.out, HTN.out] at hp
              obtain rfl := Option.some.inj hp
              rfl
      · have HN : Hid (R = (G ++ (Lx.lex (k + Lx.blankN (bl b)) ((bl s).drop (k + Lx.blankN (bl b)))).1, (Lx.lex (k + Lx.blankN (bl b)) ((bl s).drop (k + Lx.blankN (bl b)))).2)) := by
          have := HX.out
          rw [← hbl, Lx.lex_blank k _ hn] at this
          rw [this, hbl, List.drop_drop]
          rfl
        generalize Lx.blankN (bl b) = n at *
        have hn0 : decide ((0 : Int) < (n : Int)) = true := by simp; omega
        clear HX hbl
        go_wp2_with (first | (go_at_call 27; refine (HB.out _).mono ?_; rintro e w' ⟨rfl, rfl⟩) | fail)
        go_roundw
        case rel => exact ⟨k + n, G, by go_num, by omega, by omega, HO.out, HN, HQ.out⟩
        case measure => simp [intOf]; omega
    · have ek : k = s.size := by omega
      subst ek
      have HTN : Hid (R = (G, none)) := by
        have h5 := HX.out
        rw [drop_all, Lx.lex_nil] at h5
        show R = _
        rw [h5]
        simp
      clear HX
      go_wp2_with (first | (at_builtin; refine app_one (endTk, s.size) wr.heap.size HQ.out HO.out rfl (by omega) rfl (.tmp 52) (.tmp 56) rfl rfl rfl 0 ⟨#[]⟩ 0 0 (s.size : Int) rfl ?_; intro nv y r1 r2 r3; have R1 := hideIt r1; have R2 := hideIt r2; clear r1 r2 r3) | fail)
      try rw [Exit.noGoto_ret]
      go_ret3
      refine ⟨R2.out, fun h => ?_, fun p hp => ?_⟩
      · rw [HR.out, HTN.out]
        exact ⟨_, rfl, R1.out⟩
      · rw [HR.out, HTN.out] at hp; cases hp
end Go.Proofs.YtoilhcklflmamaaGreatDoor

namespace Go.Proofs.YtoilhcklflmamaaGreatDoor
open Go.RowKit
set_option linter.unusedVariables false

/-- A list of tokens lies in memory. -/
structure Tks (w : World) (g cap : Nat) (L : List (Lx.Tk × Nat)) : Prop where
  lt : g < w.heap.size
  le : L.length ≤ cap
  max : cap ≤ maxLen
  cells : ∀ i q, L[i]? = some q → ∀ j u, (tkC q)[j]? = some u → w.cell? ⟨g, i * 5 + j, none⟩ = some u

theorem tksC_at (L : List (Lx.Tk × Nat)) : ∀ (i : Nat) (q : Lx.Tk × Nat), L[i]? = some q → ∀ j u, (tkC q)[j]? = some u → (tksC L)[i * 5 + j]? = some u := by
  induction L with
  | nil => intro i q h; simp at h
  | cons p L ih =>
    intro i q h j u hu
    have hl : (tkC p).length = 5 := rfl
    cases i with
    | zero =>
      simp at h
      subst h
      have hj : j < 5 := by
        obtain ⟨h1, _⟩ := List.getElem?_eq_some_iff.1 hu
        exact h1
      simp only [tksC, Nat.zero_mul, Nat.zero_add]
      rw [List.getElem?_append_left (by rw [hl]; exact hj)]
      exact hu
    | succ i =>
      simp only [tksC]
      rw [List.getElem?_append_right (by rw [hl]; omega), hl, show (i + 1) * 5 + j - 5 = i * 5 + j by omega]
      exact ih i q (by simpa using h) j u hu
theorem addr_add (g n : Nat) : (⟨g, 0, none⟩ : Addr).add n = ⟨g, n, none⟩ := by
  by_cases hz : n = 0
  · subst hz; rfl
  · simp [Addr.add, hz]
theorem tks_of {w : World} {base : Nat} {v : Value} {L : List (Lx.Tk × Nat)} (h : w.ownsRow base 58 5 v L.length (tksC L)) (hn : 0 < L.length) : ∃ g cap, v = .slice (some ⟨g, 0, none⟩) L.length cap ∧ base ≤ g ∧ Tks w g cap L := by
  have h0 := h
  rcases h.2 with ⟨_, h0⟩ | ⟨g, cap, cur, h1, h2, h3, h4, h5, _⟩
  · omega
  · subst h1
    refine ⟨g, cap, rfl, h2, lt_of_heap h3, h4, h5, fun i q hq j u hu => ?_⟩
    have := h0.cells rfl (i * 5 + j) u (tksC_at L i q hq j u hu)
    rw [addr_add] at this
    exact this
theorem Tks.keep {w w' : World} {g cap : Nat} {L : List (Lx.Tk × Nat)} (h : Tks w g cap L) (q : Q w w') : Tks w' g cap L :=
  ⟨Nat.lt_of_lt_of_le h.lt q.size, h.le, h.max, fun i p hp j u hu => (q.cell (p := ⟨g, i * 5 + j, none⟩) h.lt).trans (h.cells i p hp j u hu)⟩
theorem Tks.five {w : World} {g cap : Nat} {L : List (Lx.Tk × Nat)} (h : Tks w g cap L) (i : Nat) (q : Lx.Tk × Nat) (hq : L[i]? = some q) : w.cell? ⟨g, i * 5, none⟩ = some (.int .u8 q.1.kind) ∧ w.cell? ⟨g, i * 5 + 1, none⟩ = some (.string ⟨q.1.text.toArray⟩) ∧ w.cell? ⟨g, i * 5 + 2, none⟩ = some (.int .i64 q.1.n) ∧ w.cell? ⟨g, i * 5 + 3, none⟩ = some (.int .u8 q.1.ty) ∧ w.cell? ⟨g, i * 5 + 4, none⟩ = some (.int .i64 q.2) :=
  ⟨h.cells i q hq 0 _ rfl, h.cells i q hq 1 _ rfl, h.cells i q hq 2 _ rfl, h.cells i q hq 3 _ rfl, h.cells i q hq 4 _ rfl⟩

/-- All tokens of a text that has them, the end last. -/
def toks (l : List UInt8) : List (Lx.Tk × Nat) := (Lx.lex 0 l).1 ++ [(endTk, l.length)]
theorem lex_ok (s : ByteArray) (w : World) (hs : s.size ≤ 65536) (hL : Laid w) (h : (Lx.lex 0 (bl s)).2 = none) :
    Calls Tryz.prog 19 #[.string s] w fun e w' => ∃ g cap, e = .returned (.tuple #[.slice (some ⟨g, 0, none⟩) (toks (bl s)).length cap, .int .i64 0, .int .i64 0]) ∧ w.heap.size ≤ g ∧ Tks w' g cap (toks (bl s)) ∧ Q w w' := by
  refine (lex_any s w hs hL).mono ?_
  rintro e w' ⟨hq, h1, _⟩
  obtain ⟨v, rfl, ho⟩ := h1 h
  have el : (toks (bl s)).length = (Lx.lex 0 (bl s)).1.length + 1 := by simp [toks]
  rw [← bl_len s] at ho
  have ho' : w'.ownsRow w.heap.size 58 5 v (toks (bl s)).length (tksC (toks (bl s))) := by rw [el]; exact ho
  obtain ⟨g, cap, rfl, hb, ht⟩ := tks_of ho' (by rw [el]; omega)
  exact ⟨g, cap, rfl, hb, ht, hq⟩
theorem lex_bad (s : ByteArray) (w : World) (hs : s.size ≤ 65536) (hL : Laid w) (p : Nat) (h : (Lx.lex 0 (bl s)).2 = some p) :
    Calls Tryz.prog 19 #[.string s] w fun e w' => e = .returned (.tuple #[.slice none 0 0, .int .i64 (p : Int), .int .i64 5]) ∧ Q w w' := by
  refine (lex_any s w hs hL).mono ?_
  rintro e w' ⟨hq, _, h1⟩
  exact ⟨h1 p h, hq⟩

def sample : List UInt8 := [97, 49, 32, 61, 32, 53, 117, 56]
theorem sample_lex : Lx.lex 0 sample = ([(⟨1, [97, 49], 0, 0⟩, 0), (⟨4, [61], 0, 0⟩, 3), (⟨3, [53, 117, 56], 5, 1⟩, 5)], none) := by rfl