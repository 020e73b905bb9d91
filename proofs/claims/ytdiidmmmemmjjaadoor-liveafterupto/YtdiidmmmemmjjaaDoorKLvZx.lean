/-
  A register added to a set, or taken from it, every way; a set's copy; what Parts answers, with bounds: contracts over the program.
  slices.Backward over a part's instructions, as a range over a function wants it: the loop's closure goes from the last instruction to the first; contracts within a fence.
  What holds while live.After goes back over a part: the set of now in its box, the sets that were told in their list, apart from each other; plain facts on worlds.
-/
import Derived.Test.YtdiidmmmemmjjaaDoorKLvZu
import Derived.Test.YtdiidmmmemmjjaaDoorKLvZj
import Derived.RangeFuncNested
import Derived.RangeFuncBound
import Derived.RangeFuncCalls
import Derived.RangeFuncBox
import Derived.RangeFuncLeaves
import Derived.Shelf.Abstract
import Derived.Shelf.RegionOpen
import Derived.WalkKit
import Derived.OwnWalkIn
import Derived.TacticsInMore
import Derived.LoopNIn
import Derived.LoopIn
namespace Go.Proofs.YtdiidmmmemmjjaaDoor.Lv
open Go.RowKit Go.Deep
set_option linter.unusedVariables false

theorem add_any (w : World) (base b : Nat) (v : Value) (L : List (Int × Int)) (r : Nat) (hr1 : r ≤ 64000) (h : St base w b v L) :
    Calls Tryd.prog 30 #[.pointer (some ⟨b, 0, none⟩), .int .i64 (r : Int)] w fun e w' => e = .returned (.tuple #[]) ∧ StP base b v (fun q => hasB L q || decide (q = (r : Int))) w w' := by
  have hr : I64 (r : Int) := by unfold I64; omega
  by_cases hx : ∃ (i : Nat) (x : Int × Int), L[i]? = some x ∧ x.1 = (r : Int) / 64
  · obtain ⟨i, x, h1, h2⟩ := hx
    exact add_found w base b v L r hr h i x h1 h2
  · exact add_new w base b v L r hr hr1 h (fun x hm e => by
      obtain ⟨i, hi⟩ := List.getElem?_of_mem hm
      exact hx ⟨i, x, hi, e⟩)

theorem no_has {L : List (Int × Int)} {r : Int} (h : ∀ x ∈ L, x.1 ≠ r / 64) : hasB L r = false := by
  refine hasB_false _ _ (fun q => ?_)
  obtain ⟨x, hx, e, -⟩ := q
  exact h x hx e
/-- A register is taken from a set. -/
theorem remove_any (w : World) (base b : Nat) (v : Value) (L : List (Int × Int)) (r : Nat) (hr1 : r ≤ 64000) (h : St base w b v L) :
    Calls Tryd.prog 33 #[.pointer (some ⟨b, 0, none⟩), .int .i64 (r : Int)] w fun e w' => e = .returned (.tuple #[]) ∧ StP base b v (fun q => hasB L q && !decide (q = (r : Int))) w w' := by
  have hr : I64 (r : Int) := by unfold I64; omega
  have hl := h.len
  have hbw := World.block_lt_of_cell? w _ h.cell
  by_cases hx : ∃ (i : Nat) (x : Int × Int), L[i]? = some x ∧ x.1 = (r : Int) / 64
  · obtain ⟨i, x, h1, h2⟩ := hx
    have hil : i < L.length := (List.getElem?_eq_some_iff.1 h1).1
    have ho := h.own
    rcases ho.2 with ⟨e0, e1⟩ | ⟨g, cap, cur, e0, hbg, -⟩
    · omega
    subst e0
    have hne : b ≠ g := fun e => h.ne (by simp [Value.ownBlock, e])
    obtain ⟨⟨u1, u2⟩, u3⟩ := rem_set h.up h1 h2
    by_cases hz : bits .andNot .u64 x.2 (bitN r) = 0
    · obtain ⟨v1, v2⟩ := u3 hz
      refine (remove_gone w b base g cap L r hr h.cell hne (by omega) h.up i x h1 h2 hz h.fz ho).mono ?_
      rintro e w' ⟨rfl, p1, p2, p3, p4, p5, p6, p7, p8⟩
      have hln : (L.take i ++ L.drop (i + 1)).length = L.length - 1 := by rw [List.length_append, List.length_take, List.length_drop]; omega
      refine ⟨rfl, _, _, ⟨p2, p8, by rw [hln]; exact p1, fun e => hne (by simp [Value.ownBlock] at e; exact e.symm), v1, fun z hz => ?_, Nat.le_trans h.bb p7⟩, fun q => ?_, ⟨p4, p5, p6, p7, fun k hk h3 h4 => p3 k hk (fun e => h4 (by simp [Value.ownBlock, e])) h3⟩, fun g' e => .inl e⟩
      · rcases List.mem_append.1 hz with hz | hz
        · exact h.at' z (List.mem_of_mem_take hz)
        · exact h.at' z (List.mem_of_mem_drop hz)
      · apply boolEq
        rw [hasB_iff, v2, Bool.and_eq_true, hasB_iff, Bool.not_eq_true', decide_eq_false_iff_not]
    · refine (remove_keep w b base g cap L r hr h.cell hne (by omega) h.up i x h1 h2 hz ho).mono ?_
      rintro e w' ⟨rfl, p1, p2, p3⟩
      have hls : (L.set i (x.1, bits .andNot .u64 x.2 (bitN r))).length = L.length := List.length_set
      have hbk : w'.heap[b]? = w.heap[b]? := p3.block b hbw (fun e => hne (Option.some.inj e))
      refine ⟨rfl, _, _, ⟨p2, by rw [World.frozen?_of_block (w := w) hbk]; exact h.fz, by rw [hls]; exact p1, h.ne, u1, fun z hz => ?_, Nat.le_trans h.bb p3.size⟩, fun q => ?_, ⟨p3.os, p3.tape, p3.output, p3.size, fun k hk h3 h4 => p3.block k hk (fun e => h4 e.symm)⟩, fun g' e => .inl e⟩
      · rcases List.mem_or_eq_of_mem_set hz with hz | rfl
        · exact h.at' z hz
        · exact h.at' x (List.mem_of_getElem? h1)
      · apply boolEq
        rw [hasB_iff, u2, Bool.and_eq_true, hasB_iff, Bool.not_eq_true', decide_eq_false_iff_not]
  · have hno : ∀ x ∈ L, x.1 ≠ (r : Int) / 64 := fun x hm e => by
      obtain ⟨i, hi⟩ := List.getElem?_of_mem hm
      exact hx ⟨i, x, hi, e⟩
    refine (remove_none w b v L r hr h.cell (own_wds (by omega) h.own) h.up hno).mono ?_
    rintro e w' ⟨rfl, q⟩
    refine ⟨rfl, v, L, ⟨cell_keep q h.cell, by rw [World.frozen?_of_block (w := w) (q.block b hbw)]; exact h.fz, row_q h.own (fun k hk => q.block k (h.own.lt k hk).2), h.ne, h.up, h.at', Nat.le_trans h.bb q.size⟩, fun p => ?_, Ch.q q, fun g e => .inl e⟩
    by_cases hp : p = (r : Int)
    · subst hp
      rw [no_has hno]; simp
    · simp [hp]

/-- What Parts answers of the sets behind the parts, with bounds. -/
def SetQ (w : World) (v : Value) (p : Nat → Bool) : Prop := ∃ L, Wds w v L ∧ Up L ∧ (∀ x ∈ L, x.1 ≤ 1000) ∧ ∀ r : Int, hasB L r = (decide (0 ≤ r) && p r.toNat)
theorem SetQ.keep {w w' : World} {v : Value} {p : Nat → Bool} (h : SetQ w v p) (q : Q w w') : SetQ w' v p := by
  obtain ⟨L, h1, h2⟩ := h
  exact ⟨L, h1.keep q, h2⟩
theorem SetQ.form {w : World} {v : Value} {p : Nat → Bool} (h : SetQ w v p) : ∃ ao m c, v = .slice ao m c := by
  obtain ⟨L, ⟨-, ⟨rfl, -⟩ | ⟨g, cap, rfl, -⟩⟩, -⟩ := h
  · exact ⟨_, _, _, rfl⟩
  · exact ⟨_, _, _, rfl⟩
theorem SetQ.of_words {w : World} {v : Value} {g : Nat → Int} {a n : Nat} {p : Nat → Bool} (h : Wds w v (wordsOf g a)) (ha : a ≤ 1000) (hg : ∀ c, c < a → U64 (g c)) (hn : n ≤ 64 * a) (hp : ∀ r, p r = true → r < n) (he : ∀ c b, c < a → b < 64 → tb (g c) b = p (64 * c + b)) : SetQ w v p := by
  refine ⟨_, h, wordsOf_up (by omega) hg, fun x hx => ?_, ?_⟩
  · obtain ⟨c, hc, -, rfl⟩ := (wordsOf_mem (n := 0)).1 hx
    show (c : Int) ≤ 1000
    omega
  · obtain ⟨L', h1, h2, h3, h4, h5⟩ := SetIs.of_words h (by omega) hg hn hp he
    intro r
    -- the same words
    have he' : ∀ r, r < 64 * a → tb (g (r / 64)) (r % 64) = p r := fun r hr => by
      rw [he (r / 64) (r % 64) (by omega) (by omega)]
      congr 1
      omega
    by_cases h0 : 0 ≤ r
    · have hd : decide (0 ≤ r) = true := by simpa using h0
      rw [hd, Bool.true_and]
      by_cases hr : r.toNat < 64 * a
      · rw [← he' _ hr]
        cases ht : tb (g (r.toNat / 64)) (r.toNat % 64) with
        | true => exact (hasB_iff _ _).2 ((hasW_words r).2 ⟨h0, by omega, ht⟩)
        | false => exact hasB_false _ _ (fun q => by have := ((hasW_words r).1 q).2.2; rw [ht] at this; cases this)
      · have e1 : p r.toNat = false := by
          cases hq : p r.toNat with
          | false => rfl
          | true => have := hp _ hq; omega
        rw [e1]
        exact hasB_false _ _ (fun q => by have := ((hasW_words r).1 q).2.1; omega)
    · have hd : decide (0 ≤ r) = false := by simpa using h0
      rw [hd, Bool.false_and]
      exact hasB_false _ _ (fun q => h0 ((hasW_words r).1 q).1)
def PartsQ (f : PF) (w : World) (e : Ending) (w' : World) : Prop := ∃ bi bo : Nat, e = .returned (.tuple #[.slice (some ⟨bi, 0, none⟩) f.parts.length f.parts.length, .slice (some ⟨bo, 0, none⟩) f.parts.length f.parts.length, .int .i64 0]) ∧ Q w w' ∧ ∀ k, k < f.parts.length → ∃ v, w'.cell? ⟨bo, k, none⟩ = some v ∧ SetQ w' v (ouB f.parts k)
theorem parts_q (w : World) (c : PC) (hc : c.ok w) (hv : validP c = 0) (fn : Nat) (f : PF) (hf : c.fns[fn]? = some f) (hn : codeN c ≤ 60000) :
    Calls Tryd.prog 10 #[c.v, .int .i64 (fn : Int)] w (PartsQ f w) := by
  obtain ⟨hok, hm⟩ := okF_few hv hf hn
  have hregs : f.regs.toNat ≤ 20000 := by
    have hfn := right_fn hv hf
    unfold fnP headP at hfn
    simp only [Bool.and_eq_true, Bool.not_eq_true', decide_eq_false_iff_not] at hfn
    obtain ⟨⟨h1, h2, h3, -⟩, -⟩ := hfn
    omega
  refine (parts_good w c hc hv fn f hf _ _ hok hm).mono ?_
  rintro e w' ⟨base, B, v, es, gi, go, rfl, hbase, m, pg, q⟩
  refine ⟨B.In, B.Ou, rfl, q, fun k hk => ?_⟩
  refine ⟨v (.out k), (m.fm.head (.out k) hk).1, ?_⟩
  have hrow := m.fm.row (.out k) hk
  rw [pg.out k hk] at hrow
  refine SetQ.of_words (n := f.regs.toNat) (Wds.of_row rfl hrow (Nat.le_trans (wordsOf_len _ _) (by omega))) (by omega) (fun c' hc' => (pg.gO k hk c' hc').1) (by omega) (fun r hr => ?_) (fun c' b hc' hb => ?_)
  · obtain ⟨p, -, x, -, h⟩ := (ouB_iff _ _ _).1 hr
    exact reads_lt hv hf h
  · refine bool_iff ?_
    rw [(pg.gO k hk c' hc').2 b, LV_out _ _ hb, ouB_iff]
/-- What a set that was told tells to one who asks. -/
theorem SetQ.is {w : World} {v : Value} {p : Nat → Bool} {n : Nat} (h : SetQ w v p) (hp : ∀ r, p r = true → r < n) : SetIs w v p n := by
  obtain ⟨L, h1, h2, h3, h4⟩ := h
  refine ⟨L, h1, h2, ?_, h4, regs_has h2 h4 hp⟩
  rcases up_len L 0 1000 h2.pw (fun x hx => ⟨(h2.rng x hx).1, h3 x hx⟩) with h | rfl
  · omega
  · simp
end Go.Proofs.YtdiidmmmemmjjaaDoor.Lv

namespace Go.Proofs.YtdiidmmmemmjjaaDoor.Lv
open Go.RowKit Go.Deep Go.Shelf
set_option linter.unusedVariables false
attribute [local go_sem] Oper.semAt_some

/-- An instruction and its place. -/
def NI (zs : List PI) : Type := { x : Nat × PI // zs[x.1]? = some x.2 }
def NI.enc {zs : List PI} (x : NI zs) : Array Value := #[.int .i64 (x.1.1 : Int), x.1.2.v]
/-- The last k of them, backwards. -/
def bw (zs : List PI) : Nat → List (NI zs)
  | 0 => []
  | k + 1 => bw zs k ++ (if h : zs.length - 1 - k < zs.length then [⟨(zs.length - 1 - k, zs[zs.length - 1 - k]), List.getElem?_eq_getElem h⟩] else [])
theorem bw_succ (zs : List PI) {k m : Nat} (h : k + m + 1 = zs.length) (x : PI) (hx : zs[m]? = some x) : bw zs (k + 1) = bw zs k ++ [⟨(m, x), hx⟩] := by
  have hm : zs.length - 1 - k = m := by omega
  subst hm
  have h1 : zs.length - 1 - k < zs.length := by omega
  have h2 := (List.getElem?_eq_some_iff.1 hx).2
  show bw zs k ++ _ = _
  rw [dif_pos h1]
  congr 1
  simp only [h2]
theorem bw_len (zs : List PI) : ∀ k, k ≤ zs.length → (bw zs k).length = k
  | 0, _ => rfl
  | k + 1, h => by
    have h1 : zs.length - 1 - k < zs.length := by omega
    show (bw zs k ++ _).length = _
    rw [dif_pos h1, List.length_append, bw_len zs k (by omega)]; rfl

/-- What a round keeps: what lay below n₀, and the block that the loop's closure has captured. -/
def KB (n₀ Bs : Nat) (A B : World) : Prop := Below n₀ A B ∧ B.heap[Bs]? = A.heap[Bs]?
theorem KB.refl (n₀ Bs : Nat) (A : World) : KB n₀ Bs A A := ⟨Below.refl _ _, rfl⟩
theorem KB.trans {n₀ Bs : Nat} {A B C : World} (h : KB n₀ Bs A B) (k : KB n₀ Bs B C) : KB n₀ Bs A C := ⟨h.1.trans k.1, k.2.trans h.2⟩
theorem KB.b {n₀ Bs : Nat} {w : World} (hn : n₀ ≤ w.heap.size) (hB : Bs < w.heap.size) (W : World) (l : Nat) (o o' : Obj) (hl : w.heap.size ≤ l) (h : W.heap[l]? = some o) (h1 : o.isCells = false) (h2 : o.isWalk = false) : KB n₀ Bs W (W.putObj l o') :=
  ⟨belowK_b hn W l o o' hl h h1 h2, World.putObj_heap_other (by omega)⟩

set_option maxRecDepth 100000 in
set_option maxHeartbeats 4000000 in
theorem back_in (F : Fence) (n : Nat) (hF : F.fn 51) (hro : F.round = none) (hn : 1 ≤ n) (l Bs n₀ : Nat) (a : Option Addr) (cap : Nat) (zs : List PI) (hreach : zs.length * 64 ≤ 140737488351232) (J Jx : List (NI zs) → World → Prop)
    (hY : ∀ pre x W, J pre W → pre.length < zs.length → YieldAt F (n - 1) Tryd.prog l x.enc W fun e W' =>
      (e = .returned (.bool true) ∧ J (pre ++ [x]) W' ∧ KB n₀ Bs W W') ∨ (e = .returned (.bool false) ∧ Jx (pre ++ [x]) W'))
    (W : World) (hBs : W.cell? ⟨Bs, 0, none⟩ = some (.slice a zs.length cap)) (hc : Lst 7 (fun b o x => b < n₀ ∧ At W b o x.cells) a zs) (h0 : J [] W) :
    CallsIn F n Tryd.prog 51 #[.func (.yield l) #[] #[], .pointer (some ⟨Bs, 0, none⟩)] W fun e W' => (∃ v, e = .returned v) ∧
      ((∃ ys, ys = bw zs zs.length ∧ J ys W') ∨ (∃ pre, True ∧ Jx pre W')) := by
  refine callsIn_of_wp Tryd.func51 rfl hF ?_ hro
  simp only [Tryd.ntmps51, List.size_toArray, List.length_cons, List.length_nil, Nat.reduceAdd, Nat.reduceSub, Array.replicate_succ, Array.replicate_zero, List.push_toArray, List.append_toArray, List.nil_append, List.cons_append]
  obtain ⟨len, hlen⟩ : ∃ len, zs.length = len := ⟨_, rfl⟩
  rw [hlen] at hBs
  have e0 : wrap64 ((len : Int) - 1) = (len : Int) - 1 := by
    have : (len : Int) ≤ 140737488351232 := by omega
    unfold wrap64; omega
  gi_wp2
  gi_loopw [3] (fun i wr => ∃ m k : Nat, k + m = zs.length ∧ i = .int .i64 ((m : Int) - 1) ∧ J (bw zs k) wr ∧ KB n₀ Bs W wr)
    (fun i _ => (intOf i + 1).toNat)
  case atStart => exact ⟨len, 0, by omega, by simp, h0, KB.refl _ _ _⟩
  case round =>
    obtain ⟨m, k, hk, rfl, hJs, hnx⟩ := hrel
    have hbx : wr.cell? ⟨Bs, 0, none⟩ = some (.slice a len cap) := (World.cell?_of_block (w := W) hnx.2).trans hBs
    cases m with
    | zero =>
      obtain rfl : k = zs.length := by omega
      gi_wp2
      go_end0
      exact ⟨⟨_, rfl⟩, .inl ⟨_, rfl, hJs⟩⟩
    | succ m =>
      have e1 : ((m + 1 : Nat) : Int) - 1 = (m : Int) := by omega
      rw [e1]
      obtain ⟨x, hx⟩ : ∃ x, zs[m]? = some x := ⟨_, List.getElem?_eq_getElem (by omega)⟩
      obtain ⟨g, o, rfl, hg, hat⟩ := hc m x hx
      have hat' : At wr g (o + m * 7) x.cells := fun j hj => (hnx.1.cell (p := ⟨g, o + m * 7 + j, none⟩) hg).trans (hat j hj)
      obtain ⟨c0, c1, c2, c3, c4, c5, c6⟩ := hat'.seven
      have hm : m < len := by omega
      obtain ⟨fn, tmps, assign, body, hy, hR⟩ := hY _ ⟨(m, x), hx⟩ wr hJs (by rw [bw_len _ _ (by omega)]; omega)
      dsimp only [NI.enc] at hy
      gi_wp2
      refine hR.mono ?_
      rintro e W3 (⟨rfl, hJ3, hk3⟩ | ⟨rfl, hJx3⟩)
      · gi_wp2
        go_roundw
        case rel => exact ⟨m, k + 1, by omega, by simp, by rw [bw_succ zs (by omega) x hx]; exact hJ3, hnx.trans hk3⟩
        case measure => simp [intOf]
      · gi_wp2
        refine bodyPost_ret (results_none rfl _ _ _) rfl ?_
        exact ⟨⟨_, rfl⟩, .inr ⟨_, trivial, hJx3⟩⟩

set_option maxHeartbeats 1000000 in
theorem backward_in (F : Fence) (n : Nat) (hF : F.fn 31) (hro : F.round = none) (a : Option Addr) (len cap : Nat) (w : World) :
    CallsIn F n Tryd.prog 31 #[.slice a len cap] w fun e w' => e = .returned (.func (.func 51) #[] #[.pointer (some ⟨w.heap.size, 0, none⟩)]) ∧ w' = w.alloc (.cells #[.slice a len cap] 47) := by
  refine callsIn_of_wp Tryd.func31 rfl hF ?_ hro
  simp only [Tryd.ntmps31, List.size_toArray, List.length_cons, List.length_nil, Nat.reduceAdd, Nat.reduceSub, Array.replicate_succ, Array.replicate_zero, List.push_toArray, List.append_toArray, List.nil_append, List.cons_append]
  gi_wp2
  go_ret
  exact ⟨rfl, rfl⟩

theorem back_stops (F : Fence) (n : Nat) (hF : F.fn 51) (hro : F.round = none) (hn : 1 ≤ n) (Bs n₀ : Nat) (a : Option Addr) (cap : Nat) (zs : List PI) (hreach : zs.length * 64 ≤ 140737488351232) (w : World) (hBn : Bs < w.heap.size) (hn₀ : n₀ ≤ w.heap.size)
    (hBs : w.cell? ⟨Bs, 0, none⟩ = some (.slice a zs.length cap)) (hc : Lst 7 (fun b o x => b < n₀ ∧ At w b o x.cells) a zs) :
    SeqStopsK F n Tryd.prog 51 #[.pointer (some ⟨Bs, 0, none⟩)] (NI.enc (zs := zs)) (KB n₀ Bs) (fun ys => ys = bw zs zs.length) (fun _ => True) zs.length w := fun l J Jx W hW _ _ hY h0 => by
  have hc' := (hW.cell (p := ⟨Bs, 0, none⟩) hBn).trans hBs
  exact back_in F n hF hro hn l Bs n₀ a cap zs hreach J Jx hY W hc' (fun k x hk => by
    obtain ⟨g, o, rfl, hg, h⟩ := hc k x hk
    exact ⟨g, o, rfl, hg, fun j hj => (hW.cell (p := ⟨g, o + k * 7 + j, none⟩) (Nat.lt_of_lt_of_le hg hn₀)).trans (h j hj)⟩) h0
end Go.Proofs.YtdiidmmmemmjjaaDoor.Lv

namespace Go.Proofs.YtdiidmmmemmjjaaDoor.Lv
open Go.RowKit Go.Deep
set_option linter.unusedVariables false

theorem own_base {w : World} {b b' : Nat} {e : TypeId} {z : Nat} {v : Value} {n : Nat} {xs : List Value} (hb : b' ≤ b) (h : w.ownsRow b e z v n xs) : w.ownsRow b' e z v n xs := by
  obtain ⟨h1, h2 | ⟨g, cap, cur, e1, e2, e3⟩⟩ := h
  · exact ⟨h1, .inl h2⟩
  · exact ⟨h1, .inr ⟨g, cap, cur, e1, Nat.le_trans hb e2, e3⟩⟩
theorem own_at {w : World} {b : Nat} {e : TypeId} {z : Nat} {v : Value} {n : Nat} {xs : List Value} (h : w.ownsRow b e z v n xs) {g : Nat} (hg : v.ownBlock = some g) : b ≤ g ∧ g < w.heap.size ∧ ∃ o : Obj, w.heap[g]? = some o ∧ o.isCells = true := by
  obtain ⟨h1, ⟨rfl, -⟩ | ⟨g', cap, cur, rfl, e2, e3, -⟩⟩ := h
  · simp [Value.ownBlock] at hg
  · simp [Value.ownBlock] at hg
    subst hg
    exact ⟨e2, (Array.getElem?_eq_some_iff.1 e3).1, _, e3, rfl⟩
theorem Wds.stay {w w' : World} {v : Value} {L : List (Int × Int)} (h : Wds w v L) (hk : ∀ g, v.ownBlock = some g → w'.heap[g]? = w.heap[g]?) : Wds w' v L := by
  obtain ⟨h1, h2 | ⟨g, cap, rfl, h3⟩⟩ := h
  · exact ⟨h1, Or.inl h2⟩
  · have hb := hk g rfl
    exact ⟨h1, Or.inr ⟨g, cap, rfl, fun k x e => ⟨(World.cell?_of_block (w := w) hb).trans (h3 k x e).1, (World.cell?_of_block (w := w) hb).trans (h3 k x e).2⟩⟩⟩
theorem cells_of_cell {w : World} {b i : Nat} {u : Value} (h : w.cell? ⟨b, i, none⟩ = some u) : ∃ o : Obj, w.heap[b]? = some o ∧ o.isCells = true := by
  unfold World.cell? at h
  cases hb : w.heap[b]? with
  | none => simp [hb] at h
  | some o => cases o <;> first | exact ⟨_, rfl, rfl⟩ | simp [hb] at h

/-- A set that was told. -/
def ToldS (n₀ bN bl bL : Nat) (v : Value) (W : World) (u : Value) (F : Int → Bool) : Prop := ∃ L, Wds W u L ∧ Up L ∧ (∀ x ∈ L, x.1 ≤ 1000) ∧ (∀ r, hasB L r = F r) ∧ ∀ g, u.ownBlock = some g → g < W.heap.size ∧ g ≠ bN ∧ g ≠ bl ∧ g ≠ bL ∧ v.ownBlock ≠ some g ∧ ∃ o : Obj, W.heap[g]? = some o ∧ o.isCells = true
structure LI (n₀ bN bl bL len : Nat) (w : World) (T : Nat → Option (Int → Bool)) (p : Int → Bool) (v : Value) (L : List (Int × Int)) (W : World) : Prop where
  q : Below n₀ w W
  lb : W.cell? ⟨bL, 0, none⟩ = some (.slice (some ⟨bl, 0, none⟩) len len)
  st : St n₀ W bN v L
  has : ∀ r, hasB L r = p r
  nl : v.ownBlock ≠ some bl
  nL : v.ownBlock ≠ some bL
  fz : ∀ i, W.frozen? ⟨bl, i, none⟩ = false
  ex : ∃ o : Obj, W.heap[bl]? = some o ∧ o.isCells = true
  row : ∀ j, j < len → ∃ u, W.cell? ⟨bl, j, none⟩ = some u ∧ ∀ F, T j = some F → ToldS n₀ bN bl bL v W u F

variable {n₀ bN bl bL len : Nat} {w : World} {T : Nat → Option (Int → Bool)} {p : Int → Bool} {v : Value} {L : List (Int × Int)} {W : World}

/-- Whatever keeps the blocks of cells keeps it. -/
theorem LI.stay (h : LI n₀ bN bl bL len w T p v L W) {W' : World} (hq : Below n₀ W W') (hs : ∀ (k : Nat) (o : Obj), W.heap[k]? = some o → o.isCells = true → W'.heap[k]? = W.heap[k]?) : LI n₀ bN bl bL len w T p v L W' := by
  have hsz := hq.size
  have hc : ∀ {b i : Nat} {u : Value}, W.cell? ⟨b, i, none⟩ = some u → W'.cell? ⟨b, i, none⟩ = some u := fun {b i u} e => by
    obtain ⟨o, h1, h2⟩ := cells_of_cell e
    exact (World.cell?_of_block (w := W) (hs b o h1 h2)).trans e
  obtain ⟨oN, hN1, hN2⟩ := cells_of_cell h.st.cell
  obtain ⟨oL, hL1, hL2⟩ := h.ex
  refine ⟨h.q.trans hq, hc h.lb, ⟨hc h.st.cell, ?_, row_q h.st.own (fun g hg => ?_), h.st.ne, h.st.up, h.st.at', Nat.le_trans h.st.bb hsz⟩, h.has, h.nl, h.nL, fun i => ?_, ⟨oL, (hs bl oL hL1 hL2).trans hL1, hL2⟩, fun j hj => ?_⟩
  · rw [World.frozen?_of_block (w := W) (hs bN oN hN1 hN2)]; exact h.st.fz
  · obtain ⟨-, -, o, h1, h2⟩ := own_at h.st.own hg
    exact hs g o h1 h2
  · rw [World.frozen?_of_block (w := W) (hs bl oL hL1 hL2)]; exact h.fz i
  · obtain ⟨u, hu, ht⟩ := h.row j hj
    refine ⟨u, hc hu, fun F hF => ?_⟩
    obtain ⟨L', t1, t2, t3, t4, t5⟩ := ht F hF
    refine ⟨L', t1.stay (fun g hg => ?_), t2, t3, t4, fun g hg => ?_⟩
    · obtain ⟨-, -, -, -, -, o, h1, h2⟩ := t5 g hg
      exact hs g o h1 h2
    · obtain ⟨s1, s2, s3, s4, s5, o, h1, h2⟩ := t5 g hg
      exact ⟨by omega, s2, s3, s4, s5, o, (hs g o h1 h2).trans h1, h2⟩
theorem LI.keep (h : LI n₀ bN bl bL len w T p v L W) {W' : World} (q : Q W W') : LI n₀ bN bl bL len w T p v L W' :=
  h.stay (q.mono h.st.bb) (fun k o e _ => q.block k (Array.getElem?_eq_some_iff.1 e).1)
/-- What the loop's own book-keeping turns keeps it. -/
theorem LI.from {B : Nat} (hB : n₀ ≤ B) (h : LI n₀ bN bl bL len w T p v L W) {W' : World} {row : Option Nat} (hg : W.grownBy W' row) (hr : ∀ r, row = some r → B ≤ r ∧ ∃ o : Obj, W.heap[r]? = some o ∧ o.isCells = false) : LI n₀ bN bl bL len w T p v L W' := by
  refine h.stay ⟨hg.os, hg.tape, hg.output, hg.size, fun k hk => hg.block k (Nat.lt_of_lt_of_le hk h.st.bb) (fun e => ?_)⟩ (fun k o e ho => hg.block k (Array.getElem?_eq_some_iff.1 e).1 (fun e' => ?_))
  · have := (hr k e.symm).1; omega
  · obtain ⟨-, o', h1, h2⟩ := hr k e'.symm
    rw [e] at h1; cases h1; rw [ho] at h2; cases h2
/-- The set of now changes. -/
theorem LI.stp (h : LI n₀ bN bl bL len w T p v L W) (hN : n₀ ≤ bN) (hlN : bl ≠ bN) (hLN : bL ≠ bN) {p' : Int → Bool} {W' : World} (s : StP n₀ bN v p' W W') :
    ∃ v' L', LI n₀ bN bl bL len w T p' v' L' W' ∧ Ch bN v.ownBlock W W' ∧ (∀ g, v'.ownBlock = some g → v.ownBlock = some g ∨ W.heap.size ≤ g) ∧ ∀ B, KeepsFrom B W W' := by
  obtain ⟨v', L', s1, s2, c, s3⟩ := s
  have hsz := c.size
  have hblk : ∀ {k : Nat}, k < W.heap.size → k ≠ bN → v.ownBlock ≠ some k → W'.heap[k]? = W.heap[k]? := fun h1 h2 h3 => c.block _ h1 h2 h3
  obtain ⟨oL, hL1, hL2⟩ := h.ex
  have hlsz := (Array.getElem?_eq_some_iff.1 hL1).1
  have hbl := hblk hlsz hlN h.nl
  have hLsz := World.block_lt_of_cell? W _ h.lb
  have hbL := hblk hLsz hLN h.nL
  obtain ⟨oN, hN1, hN2⟩ := cells_of_cell h.st.cell
  refine ⟨v', L', ⟨h.q.trans ⟨c.os, c.tape, c.output, c.size, fun k hk => hblk (Nat.lt_of_lt_of_le hk h.st.bb) (by omega) (fun e => by have := (own_at h.st.own e).1; omega)⟩, ?_, s1, s2, fun e => ?_, fun e => ?_, fun i => ?_, ⟨oL, hbl.trans hL1, hL2⟩, fun j hj => ?_⟩, c, s3, fun B => ⟨c.size, fun k o _ e ho => ?_⟩⟩
  · rw [World.cell?_of_block (w := W) hbL]; exact h.lb
  · rcases s3 _ e with q | q
    · exact h.nl q
    · omega
  · rcases s3 _ e with q | q
    · exact h.nL q
    · have : bL < W.heap.size := hLsz
      omega
  · rw [World.frozen?_of_block (w := W) hbl]; exact h.fz i
  · obtain ⟨u, hu, ht⟩ := h.row j hj
    refine ⟨u, ?_, fun F hF => ?_⟩
    · rw [World.cell?_of_block (w := W) hbl]; exact hu
    obtain ⟨L1, t1, t2, t3, t4, t5⟩ := ht F hF
    refine ⟨L1, t1.stay (fun g hg => ?_), t2, t3, t4, fun g hg => ?_⟩
    · obtain ⟨q1, q2, q3, q4, q5, -⟩ := t5 g hg
      exact hblk q1 q2 q5
    · obtain ⟨q1, q2, q3, q4, q5, o, h1, h2⟩ := t5 g hg
      refine ⟨by omega, q2, q3, q4, fun e => ?_, o, (hblk q1 q2 q5).trans h1, h2⟩
      rcases s3 _ e with q | q
      · exact q5 q
      · omega
  · refine (hblk (Array.getElem?_eq_some_iff.1 e).1 (fun e' => ?_) (fun e' => ?_)).trans e
    · subst e'; rw [hN1] at e; cases e; rw [hN2] at ho; cases ho
    · obtain ⟨-, -, o', h1, h2⟩ := own_at h.st.own e'
      rw [h1] at e; cases e; rw [h2] at ho; cases ho
/-- The set of now is told. -/
theorem LI.tell (h : LI n₀ bN bl bL len w T p v L W) (hN : n₀ ≤ bl) (hlN : bl ≠ bN) (hlL : bl ≠ bL) {y W' : World} (q : Q W y) {v1 : Value} {s : Nat} (hs : W.heap.size ≤ s) (ho : y.ownsRow s 80 2 v1 L.length (wdC L)) {n : Nat} (hn : n < len)
    (e1 : W'.heap = (y.setCell ⟨bl, n, none⟩ v1).heap) (e2 : W'.os = y.os) (e3 : W'.tape = y.tape) (e4 : W'.output = y.output) : LI n₀ bN bl bL len w (fun j => if j = n then some p else T j) p v L W' := by
  have k := h.keep q
  have hsz := q.size
  have hsz' : W'.heap.size = y.heap.size := by rw [e1]; simp [World.setCell]
  have hblk : ∀ {g : Nat}, g ≠ bl → W'.heap[g]? = y.heap[g]? := fun {g} hg => by rw [e1]; exact heap_setCell_other y ⟨bl, n, none⟩ g _ hg
  have hcl : ∀ j, W'.cell? ⟨bl, j, none⟩ = (y.setCell ⟨bl, n, none⟩ v1).cell? ⟨bl, j, none⟩ := fun j => World.cell?_of_block (w := y.setCell ⟨bl, n, none⟩ v1) (by rw [e1])
  have hnw : bN < y.heap.size := World.block_lt_of_cell? y _ k.st.cell
  obtain ⟨oL, hL1, hL2⟩ := h.ex
  have hlsz := (Array.getElem?_eq_some_iff.1 hL1).1
  have hLsz : bL < W.heap.size := World.block_lt_of_cell? W _ h.lb
  have hNsz : bN < W.heap.size := World.block_lt_of_cell? W _ h.st.cell
  obtain ⟨u0, hu0, -⟩ := k.row n hn
  have hsame : W'.cell? ⟨bl, n, none⟩ = some v1 := (hcl n).trans (World.cell?_setCell_same' _ _ _ (by rw [hu0]; rfl))
  have hwd : L.length ≤ 1099511627776 := by have := h.st.len; omega
  refine ⟨k.q.trans ⟨e2, e3, e4, by omega, fun j hj => hblk (by omega)⟩, ?_, ⟨?_, ?_, row_q k.st.own (fun g hg => hblk (fun e => k.nl (by rw [← e]; exact hg))), k.st.ne, k.st.up, k.st.at', by rw [hsz']; exact k.st.bb⟩, k.has, k.nl, k.nL, fun i => ?_, ?_, fun j hj => ?_⟩
  · rw [World.cell?_of_block (w := y) (hblk (Ne.symm hlL))]; exact k.lb
  · rw [World.cell?_of_block (w := y) (hblk (Ne.symm hlN))]; exact k.st.cell
  · rw [World.frozen?_of_block (w := y) (hblk (Ne.symm hlN))]; exact k.st.fz
  · rw [World.frozen?_of_block (w := y.setCell ⟨bl, n, none⟩ v1) (by rw [e1]), World.frozen?_setCell]; exact k.fz i
  · exact cells_of_cell hsame
  · by_cases hjn : j = n
    · subst hjn
      refine ⟨v1, hsame, fun F hF => ?_⟩
      simp only [if_true, Option.some.injEq] at hF
      subst hF
      refine ⟨L, (own_wds hwd ho).stay (fun g hg => hblk (fun e => ?_)), h.st.up, h.st.at', h.has, fun g hg => ?_⟩
      · have := (own_at ho hg).1; omega
      · obtain ⟨r1, r2, o, r3, r4⟩ := own_at ho hg
        refine ⟨by omega, by omega, by omega, by omega, fun e => ?_, o, (hblk (by omega)).trans r3, r4⟩
        have := (own_at h.st.own e).2.1
        omega
    · obtain ⟨u, hu, ht⟩ := k.row j hj
      refine ⟨u, ?_, fun F hF => ?_⟩
      · rw [hcl j, World.cell?_setCell_other _ _ _ _ (by simp <;> omega)]; exact hu
      · rw [if_neg hjn] at hF
        obtain ⟨L1, t1, t2, t3, t4, t5⟩ := ht F hF
        refine ⟨L1, t1.stay (fun g hg => hblk (t5 g hg).2.2.1), t2, t3, t4, fun g hg => ?_⟩
        obtain ⟨q1, q2, q3, q4, q5, o, h1, h2⟩ := t5 g hg
        exact ⟨by omega, q2, q3, q4, q5, o, (hblk q3).trans h1, h2⟩

/-- What a round has kept since its beginning W: blocks X as they are, with the set of now apart. -/
structure RO (n₀ bN bl bL len : Nat) (w : World) (X : List (Nat × Obj)) (W : World) (T : Nat → Option (Int → Bool)) (p : Int → Bool) (v : Value) (L : List (Int × Int)) (W' : World) : Prop where
  li : LI n₀ bN bl bL len w T p v L W'
  ex : ∀ b ∈ X, W'.heap[b.1]? = some b.2 ∧ v.ownBlock ≠ some b.1 ∧ b.1 ≠ bN ∧ b.1 ≠ bl
  bw : Below n₀ W W'
  kf : ∀ B, KeepsFrom B W W'
theorem keeps_q {A B : World} (q : Q A B) (C : Nat) : KeepsFrom C A B := ⟨q.size, fun k o _ e _ => (q.block k (Array.getElem?_eq_some_iff.1 e).1).trans e⟩
variable {X : List (Nat × Obj)} {W' : World}
theorem RO.keep (h : RO n₀ bN bl bL len w X W T p v L W') {W2 : World} (q : Q W' W2) : RO n₀ bN bl bL len w X W T p v L W2 :=
  ⟨h.li.keep q, fun b hb => ⟨(q.block _ (Array.getElem?_eq_some_iff.1 (h.ex b hb).1).1).trans (h.ex b hb).1, (h.ex b hb).2⟩, h.bw.trans (q.mono h.li.st.bb), fun B => (h.kf B).trans (keeps_q q B)⟩
theorem RO.stp (h : RO n₀ bN bl bL len w X W T p v L W') (hN : n₀ ≤ bN) (hlN : bl ≠ bN) (hLN : bL ≠ bN) {p' : Int → Bool} {W2 : World} (s : StP n₀ bN v p' W' W2) :
    ∃ v' L', RO n₀ bN bl bL len w X W T p' v' L' W2 := by
  obtain ⟨v', L', i1, i2, i3, i4⟩ := h.li.stp hN hlN hLN s
  refine ⟨v', L', i1, fun b hb => ?_, h.bw.trans ⟨i2.os, i2.tape, i2.output, i2.size, fun k hk => i2.block k (Nat.lt_of_lt_of_le hk h.li.st.bb) (by omega) (fun e => by have := (own_at h.li.st.own e).1; omega)⟩, fun B => (h.kf B).trans (i4 B)⟩
  obtain ⟨e1, e2, e3, e4⟩ := h.ex b hb
  have hlt := (Array.getElem?_eq_some_iff.1 e1).1
  refine ⟨(i2.block _ hlt e3 e2).trans e1, fun e => ?_, e3, e4⟩
  rcases i3 _ e with q | q
  · exact e2 q
  · omega
theorem RO.tell (h : RO n₀ bN bl bL len w X W T p v L W') (hN : n₀ ≤ bl) (hlN : bl ≠ bN) (hlL : bl ≠ bL) {y W2 : World} (q : Q W' y) {v1 : Value} {s : Nat} (hs : W'.heap.size ≤ s) (ho : y.ownsRow s 80 2 v1 L.length (wdC L)) {n : Nat} (hn : n < len)
    (e1 : W2.heap = (y.setCell ⟨bl, n, none⟩ v1).heap) (e2 : W2.os = y.os) (e3 : W2.tape = y.tape) (e4 : W2.output = y.output) : RO n₀ bN bl bL len w X W (fun j => if j = n then some p else T j) p v L W2 := by
  have k := h.keep q
  have hblk : ∀ {g : Nat}, g ≠ bl → W2.heap[g]? = y.heap[g]? := fun {g} hg => by rw [e1]; exact heap_setCell_other y ⟨bl, n, none⟩ g _ hg
  have hsz : W2.heap.size = y.heap.size := by rw [e1]; simp [World.setCell]
  refine ⟨h.li.tell hN hlN hlL q hs ho hn e1 e2 e3 e4, fun b hb => ?_, k.bw.trans ⟨e2, e3, e4, by omega, fun j hj => hblk (by omega)⟩, fun B => (k.kf B).trans ⟨by omega, fun j o _ e ho' => ?_⟩⟩
  · obtain ⟨f1, f2, f3, f4⟩ := k.ex b hb
    exact ⟨(hblk f4).trans f1, f2, f3, f4⟩
  · refine (hblk (fun e' => ?_)).trans e
    subst e'
    obtain ⟨o', h1, h2⟩ := k.li.ex
    rw [h1] at e; cases e; rw [h2] at ho'; cases ho'
theorem RO.uses (h : RO n₀ bN bl bL len w X W T p v L W') {l : List Int} {e : Ending} {W2 : World} (g : GotF l W' e W2) :
    ∃ ao c X', e = .returned (.slice ao l.length c) ∧ RO n₀ bN bl bL len w X' W T p v L W2 ∧ (∀ b ∈ X, b ∈ X') ∧ ∀ (k : Nat) (z : Int), l[k]? = some z → ∃ b o oA, ao = some ⟨b, o, none⟩ ∧ (b, oA) ∈ X' ∧ ∀ W3 : World, W3.heap[b]? = some oA → W3.cell? ⟨b, o + k, none⟩ = some (.int .i64 z) := by
  obtain ⟨ao, c, rfl, hi, q, hb⟩ := g
  cases l with
  | nil => exact ⟨ao, c, X, rfl, h.keep q, fun _ h => h, fun k z e => by simp at e⟩
  | cons z0 l =>
    obtain ⟨b, o, rfl, h0, -⟩ := hi 0 z0 rfl
    obtain ⟨oA, hA, -⟩ := cells_of_cell h0
    have hbs := hb b o rfl
    have hN := World.block_lt_of_cell? W' _ h.li.st.cell
    obtain ⟨oL, hL1, hL2⟩ := h.li.ex
    have hl := (Array.getElem?_eq_some_iff.1 hL1).1
    have k := h.keep q
    refine ⟨some ⟨b, o, none⟩, c, (b, oA) :: X, rfl, ⟨k.li, fun x hx => ?_, k.bw, k.kf⟩, fun x hx => List.mem_cons_of_mem _ hx, fun j z e => ⟨b, o, oA, rfl, List.mem_cons_self, fun W3 h3 => ?_⟩⟩
    · rcases List.mem_cons.1 hx with rfl | hx
      · exact ⟨hA, fun e => by have := (own_at h.li.st.own e).2.1; dsimp only at this; omega, by have : bN < W'.heap.size := hN; dsimp only; omega, by dsimp only; omega⟩
      · exact k.ex x hx
    · obtain ⟨b', o', e1, h1, -⟩ := hi j z e
      cases e1
      rw [Nat.mul_one] at h1
      exact (World.cell?_of_block (w := W2) (h3.trans hA.symm)).trans h1
end Go.Proofs.YtdiidmmmemmjjaaDoor.Lv
