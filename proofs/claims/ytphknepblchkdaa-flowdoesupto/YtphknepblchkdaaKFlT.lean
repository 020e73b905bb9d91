/-
 slices.Backward over a part's instructions, as a range over a function wants it: the loop's closure goes from the last instruction to the first; contracts within a fence.
 A region that draws its order, in the frame of a round of a range over a function: what holds whatever order is picked holds there too, for operations without a defer statement.
 A branch that is known becomes the one way that is gone (take of flow): a contract over the program; the conditions: the part lies in memory, in a block of its row's.
-/
import Derived.Test.YtphknepblchkdaaKFlC
import Derived.Test.YtphknepblchkdaaKIrX
import Derived.RangeFuncNested
import Derived.RangeFuncBound
import Derived.RangeFuncCalls
import Derived.RangeFuncBox
import Derived.RangeFuncLeaves
import Derived.Shelf.Abstract
import Derived.Shelf.RegionOpen
import Derived.WalkKit
import Derived.OwnWalkIn
import Derived.TacticsInMore
import Derived.LoopNIn
import Derived.LoopIn
import Derived.Sort.LoopGhostIn
import Derived.Deep.RegionHeld
import Derived.OrdersIn
import Derived.Sort.CutIn
namespace Go.Proofs.Ytphknepblchkdaa.Fl
open Go.RowKit Go.Deep Go.Shelf
set_option linter.unusedVariables false
attribute [local go_sem] Oper.semAt_some

/-- An instruction and its place. -/
def NI (zs : List PI) : Type := { x : Nat × PI // zs[x.1]? = some x.2 }
def NI.enc {zs : List PI} (x : NI zs) : Array Value := #[.int .i64 (x.1.1 : Int), x.1.2.v]
/-- The last k of them, backwards. -/
def bw (zs : List PI) : Nat → List (NI zs)
 | 0 => []
 | k + 1 => bw zs k ++ (if h : zs.length - 1 - k < zs.length then [⟨(zs.length - 1 - k, zs[zs.length - 1 - k]), List.getElem?_eq_getElem h⟩] else [])
theorem bw_succ (zs : List PI) {k m : Nat} (h : k + m + 1 = zs.length) (x : PI) (hx : zs[m]? = some x) : bw zs (k + 1) = bw zs k ++ [⟨(m, x), hx⟩] := by
 have hm : zs.length - 1 - k = m := by omega
 subst hm
 have h1 : zs.length - 1 - k < zs.length := by omega
 have h2 := (List.getElem?_eq_some_iff.1 hx).2
 show bw zs k ++ _ = _
 rw [dif_pos h1]
 congr 1
 simp only [h2]
theorem bw_len (zs : List PI) : ∀ k, k ≤ zs.length → (bw zs k).length = k
 | 0, _ => rfl
 | k + 1, h => by
  have h1 : zs.length - 1 - k < zs.length := by omega
  show (bw zs k ++ _).length = _
  rw [dif_pos h1, List.length_append, bw_len zs k (by omega)]; rfl

/-- What a round keeps: what lay below n₀, and the block that the loop's closure has captured. -/
def KB (n₀ Bs : Nat) (A B : World) : Prop := Below n₀ A B ∧ B.heap[Bs]? = A.heap[Bs]?
theorem KB.refl (n₀ Bs : Nat) (A : World) : KB n₀ Bs A A := ⟨Below.refl _ _, rfl⟩
theorem KB.trans {n₀ Bs : Nat} {A B C : World} (h : KB n₀ Bs A B) (k : KB n₀ Bs B C) : KB n₀ Bs A C := ⟨h.1.trans k.1, k.2.trans h.2⟩
theorem KB.b {n₀ Bs : Nat} {w : World} (hn : n₀ ≤ w.heap.size) (hB : Bs < w.heap.size) (W : World) (l : Nat) (o o' : Obj) (hl : w.heap.size ≤ l) (h : W.heap[l]? = some o) (h1 : o.isCells = false) (h2 : o.isWalk = false) : KB n₀ Bs W (W.putObj l o') :=
 ⟨belowK_b hn W l o o' hl h h1 h2, World.putObj_heap_other (by omega)⟩

set_option maxRecDepth 100000 in
set_option maxHeartbeats 4000000 in
theorem back_in (F : Fence) (n : Nat) (hF : F.fn 62) (hro : F.round = none) (hn : 1 ≤ n) (l Bs n₀ : Nat) (a : Option Addr) (cap : Nat) (zs : List PI) (hreach : zs.length * 64 ≤ 140737488351232) (J Jx : List (NI zs) → World → Prop)
  (hY : ∀ pre x W, J pre W → pre.length < zs.length → YieldAt F (n - 1) Try.prog l x.enc W fun e W' =>
   (e = .returned (.bool true) ∧ J (pre ++ [x]) W' ∧ KB n₀ Bs W W') ∨ (e = .returned (.bool false) ∧ Jx (pre ++ [x]) W'))
  (W : World) (hBs : W.cell? ⟨Bs, 0, none⟩ = some (.slice a zs.length cap)) (hc : Lst 7 (fun b o x => b < n₀ ∧ At W b o x.cells) a zs) (h0 : J [] W) :
  CallsIn F n Try.prog 62 #[.func (.yield l) #[] #[], .pointer (some ⟨Bs, 0, none⟩)] W fun e W' => (∃ v, e = .returned v) ∧
   ((∃ ys, ys = bw zs zs.length ∧ J ys W') ∨ (∃ pre, (∃ k, k ≤ zs.length ∧ pre = bw zs k) ∧ Jx pre W')) := by
 refine callsIn_of_wp Try.func62 rfl hF ?_ hro
 simp only [Try.ntmps62, List.size_toArray, List.length_cons, List.length_nil, Nat.reduceAdd, Nat.reduceSub, Array.replicate_succ, Array.replicate_zero, List.push_toArray, List.append_toArray, List.nil_append, List.cons_append]
 obtain ⟨len, hlen⟩ : ∃ len, zs.length = len := ⟨_, rfl⟩
 rw [hlen] at hBs
 have e0 : wrap64 ((len : Int) - 1) = (len : Int) - 1 := by
  have : (len : Int) ≤ 140737488351232 := by omega
  unfold wrap64; omega
 gi_wp2
 gi_loopw [3] (fun i wr => ∃ m k : Nat, k + m = zs.length ∧ i = .int .i64 ((m : Int) - 1) ∧ J (bw zs k) wr ∧ KB n₀ Bs W wr)
  (fun i _ => (intOf i + 1).toNat)
 case atStart => exact ⟨len, 0, by omega, by simp, h0, KB.refl _ _ _⟩
 case round =>
  obtain ⟨m, k, hk, rfl, hJs, hnx⟩ := hrel
  have hbx : wr.cell? ⟨Bs, 0, none⟩ = some (.slice a len cap) := (World.cell?_of_block (w := W) hnx.2).trans hBs
  cases m with
  | zero =>
   obtain rfl : k = zs.length := by omega
   gi_wp2
   go_end0
   exact ⟨⟨_, rfl⟩, .inl ⟨_, rfl, hJs⟩⟩
  | succ m =>
   have e1 : ((m + 1 : Nat) : Int) - 1 = (m : Int) := by omega
   rw [e1]
   obtain ⟨x, hx⟩ : ∃ x, zs[m]? = some x := ⟨_, List.getElem?_eq_getElem (by omega)⟩
   obtain ⟨g, o, rfl, hg, hat⟩ := hc m x hx
   have hat' : At wr g (o + m * 7) x.cells := fun j hj => (hnx.1.cell (p := ⟨g, o + m * 7 + j, none⟩) hg).trans (hat j hj)
   obtain ⟨c0, c1, c2, c3, c4, c5, c6⟩ := hat'.seven
   have hm : m < len := by omega
   obtain ⟨fn, tmps, assign, body, hy, hR⟩ := hY _ ⟨(m, x), hx⟩ wr hJs (by rw [bw_len _ _ (by omega)]; omega)
   dsimp only [NI.enc] at hy
   gi_wp2
   refine hR.mono ?_
   rintro e W3 (⟨rfl, hJ3, hk3⟩ | ⟨rfl, hJx3⟩)
   ·gi_wp2
    go_roundw
    case rel => exact ⟨m, k + 1, by omega, by simp, by rw [bw_succ zs (by omega) x hx]; exact hJ3, hnx.trans hk3⟩
    case measure => simp [intOf]
   ·gi_wp2
    refine bodyPost_ret (results_none rfl _ _ _) rfl ?_
    exact ⟨⟨_, rfl⟩, .inr ⟨_, ⟨k + 1, by omega, (bw_succ zs (by omega) x hx).symm⟩, hJx3⟩⟩

set_option maxHeartbeats 1000000 in
theorem backward_in (F : Fence) (n : Nat) (hF : F.fn 41) (hro : F.round = none) (a : Option Addr) (len cap : Nat) (w : World) :
  CallsIn F n Try.prog 41 #[.slice a len cap] w fun e w' => e = .returned (.func (.func 62) #[] #[.pointer (some ⟨w.heap.size, 0, none⟩)]) ∧ w' = w.alloc (.cells #[.slice a len cap] 45) := by
 refine callsIn_of_wp Try.func41 rfl hF ?_ hro
 simp only [Try.ntmps41, List.size_toArray, List.length_cons, List.length_nil, Nat.reduceAdd, Nat.reduceSub, Array.replicate_succ, Array.replicate_zero, List.push_toArray, List.append_toArray, List.nil_append, List.cons_append]
 gi_wp2
 go_ret
 exact ⟨rfl, rfl⟩

theorem back_stops (F : Fence) (n : Nat) (hF : F.fn 62) (hro : F.round = none) (hn : 1 ≤ n) (Bs n₀ : Nat) (a : Option Addr) (cap : Nat) (zs : List PI) (hreach : zs.length * 64 ≤ 140737488351232) (w : World) (hBn : Bs < w.heap.size) (hn₀ : n₀ ≤ w.heap.size)
  (hBs : w.cell? ⟨Bs, 0, none⟩ = some (.slice a zs.length cap)) (hc : Lst 7 (fun b o x => b < n₀ ∧ At w b o x.cells) a zs) :
  SeqStopsK F n Try.prog 62 #[.pointer (some ⟨Bs, 0, none⟩)] (NI.enc (zs := zs)) (KB n₀ Bs) (fun ys => ys = bw zs zs.length) (fun pre => ∃ k, k ≤ zs.length ∧ pre = bw zs k) zs.length w := fun l J Jx W hW _ _ hY h0 => by
 have hc' := (hW.cell (p := ⟨Bs, 0, none⟩) hBn).trans hBs
 exact back_in F n hF hro hn l Bs n₀ a cap zs hreach J Jx hY W hc' (fun k x hk => by
  obtain ⟨g, o, rfl, hg, h⟩ := hc k x hk
  exact ⟨g, o, rfl, hg, fun j hj => (hW.cell (p := ⟨g, o + k * 7 + j, none⟩) (Nat.lt_of_lt_of_le hg hn₀)).trans (h j hj)⟩) h0
end Go.Proofs.Ytphknepblchkdaa.Fl

namespace Go.Proofs.Ytphknepblchkdaa.Fl
open Go.RowKit Go.Deep Go.Shelf
set_option linter.unusedVariables false

/-- Q, but nothing holds at a panic, nor where the memory is spent. -/
def NN (Q : Exit → Act → World → Prop) : Exit → Act → World → Prop
 | .panic _, _, _ => False
 | .outgrown, _, _ => False
 | e, a, w => Q e a w
theorem NN.normal {Q : Exit → Act → World → Prop} {a : Act} {w : World} (h : Q .normal a w) : NN Q .normal a w := h
theorem NN.imp {Q : Exit → Act → World → Prop} : ∀ (e : Exit) (a : Act) (w : World), NN Q e a w → Q e a w := fun e a w h => by
 cases e <;> first | exact h | exact (h : False).elim
theorem NN.notOut {Q : Exit → Act → World → Prop} : ¬ LetsOut (NN Q) := fun ⟨_, _, h⟩ => h
def noDefer (ops : Array Oper) : Bool := ops.all fun o => match o.op with | .defer _ => false | _ => true
theorem noDefer_at {ops : Array Oper} (h : noDefer ops = true) {i : Nat} {o : Oper} (ho : ops[i]? = some o) : ∀ c, o.op ≠ .defer c := by
 intro c e
 obtain ⟨hi, ho⟩ := Array.getElem?_eq_some_iff.1 ho
 have := (Array.all_eq_true.1 h) i hi
 rw [ho, e] at this
 cases this
theorem rowsIn_round {l n : Nat} {P : Program} {row : String} {args : Array Value} {w : World} {R : Value → World → Prop} (h : Rows P row args w R) : RowsIn (Fence.wide.inRound l) n P row args w R :=
 fun c cs _ => let ⟨v, w', r, s⟩ := h c cs; ⟨v, w', r, by rw [fenced_inRound]; exact stepsIn_wide.2 s⟩
theorem wpOpIn_of_wpOp {l n : Nat} {P : Program} {ops : Array Oper} {Q : Exit → Act → World → Prop} (hd : noDefer ops = true) (hQ : ¬ LetsOut Q) {i : Nat} {K : Act → World → Prop} {a : Act} {w : World} (h : wpOp P ops Q i K a w) : wpOpIn (Fence.wide.inRound l) n P ops Q i K a w := by
 unfold wpOp at h
 unfold wpOpIn
 cases ho : ops[i]? with
 | none => rw [ho] at h; exact h
 | some o =>
  rw [ho] at h
  dsimp only at h ⊢
  by_cases hw : Region.wanted o (yielded ops a.tmps) = true
  ·rw [if_pos hw] at h ⊢
   rcases h with h | h
   ·refine ⟨fun _ _ => trivial, ?_⟩
    rw [Oper.semAt_eq _ _ _ (noDefer_at hd ho)]
    unfold Oper.wp at h
    generalize (execOp a.eval o).run P w = r at *
    cases r with
    | ok x w' =>
     cases x <;> simp only [Oper.upon] at h <;> simp only [Oper.uponIn]
     case value => exact h
     case skip => exact h
     case defer => exact h
     case enter => exact ⟨fun e => by simp [Fence.wide] at e, CallsIn.inRound l (callsIn_wide.2 h)⟩
     case row => exact ⟨fun e => by simp [Fence.wide] at e, rowsIn_round h⟩
    | halt x w' => cases x <;> simp only [Oper.upon] at h <;> simp only [Oper.uponIn] <;> exact h
   ·exact absurd h.2 hQ
  ·rw [if_neg hw] at h ⊢
   exact ⟨fun _ _ => trivial, h⟩
theorem wpAnyIn_of_wpAny {l n : Nat} {P : Program} {md : Region.Mode} {ops : Array Oper} {Q : Exit → Act → World → Prop} (hd : noDefer ops = true) (hQ : ¬ LetsOut Q) : ∀ (fuel : Nat) (listed : Array Bool) (a : Act) (w : World), wpAny P md ops Q fuel listed a w → wpAnyIn (Fence.wide.inRound l) n P md ops Q fuel listed a w
 | 0, _, _, _, h => h
 | fuel + 1, _, _, _, h => ⟨h.1, fun i hi => wpOpIn_mono (fun a' w' h' => wpAnyIn_of_wpAny hd hQ fuel _ a' w' h') (wpOpIn_of_wpOp hd hQ (h.2 i hi))⟩
theorem wpIn_region_round {l n : Nat} {P : Program} {ops : Array Oper} {Q : Exit → Act → World → Prop} {id : Nat} {a : Act} {w : World} (S : World → Prop) (hm : P.follows .mixedOrders = true) (hd : noDefer ops = true) (hS : S w.drew)
  (h : S w.drew → wpAnyH P .any ops (NN Q) S ops.size (Array.replicate ops.size false) a w.drew) : (Code.region id ops true).wpIn (Fence.wide.inRound l) n P Q a w :=
 wpIn_mono (wpIn_region_any hm (wpAnyIn_of_wpAny hd NN.notOut _ _ _ _ (wpAny_of_held _ _ _ _ (h hS)))) NN.imp
end Go.Proofs.Ytphknepblchkdaa.Fl

namespace Go.Proofs.Ytphknepblchkdaa.Fl
open Go.RowKit Go.Deep Go.Shelf
set_option linter.unusedVariables false
attribute [local go_sem] Oper.semAt_some

theorem bw_map (zs : List PI) : ∀ k, k ≤ zs.length → (bw zs k).map (fun x => x.1.2) = zs.reverse.take k
 | 0, _ => by simp [bw]
 | k + 1, h => by
  have h1 : zs.length - 1 - k < zs.length := by omega
  rw [bw_succ zs (m := zs.length - 1 - k) (by omega) _ (List.getElem?_eq_getElem h1), List.map_append, bw_map zs k (by omega), List.take_add_one, List.getElem?_reverse (by omega), List.getElem?_eq_getElem h1]
  rfl
def wrB (r : Int) (x : PI) : Bool := wrP x.op && x.dst == r
theorem find_here {zs : List PI} {r : Int} {k : Nat} (hk : k ≤ zs.length) {pre : List (NI zs)} {x : NI zs} (h : pre ++ [x] = bw zs k) (hn : ∀ y ∈ pre, wrB r y.1.2 = false) (hx : wrB r x.1.2 = true) : lastI zs r = some x.1.2 := by
 have e := bw_map zs k hk
 rw [← h, List.map_append] at e
 unfold lastI
 rw [← List.take_append_drop k zs.reverse, ← e, List.append_assoc, List.find?_append]
 have e1 : (pre.map (fun y => y.1.2)).find? (fun x => wrP x.op && x.dst == r) = none := by
  rw [List.find?_eq_none]
  intro y hy
  obtain ⟨y', h1, rfl⟩ := List.mem_map.1 hy
  have := hn y' h1
  unfold wrB at this
  rw [this]; simp
 rw [e1]
 unfold wrB at hx
 simp [hx]
theorem find_none {zs : List PI} {r : Int} (hn : ∀ y ∈ bw zs zs.length, wrB r y.1.2 = false) : lastI zs r = none := by
 have e := bw_map zs zs.length (Nat.le_refl _)
 rw [List.take_of_length_le (by simp)] at e
 unfold lastI
 rw [← e, List.find?_eq_none]
 intro y hy
 obtain ⟨y', h1, rfl⟩ := List.mem_map.1 hy
 have := hn y' h1
 unfold wrB at this
 rw [this]; simp
theorem q_goW {w V : World} {b o : Nat} {t : Int} (q : Q w V) (hb : ∃ cs : Array Value, w.heap[b]? = some (.cells cs 47 (0, 0))) : Q (goW w b o t) (goW V b o t) := by
 obtain ⟨cs, hb⟩ := hb
 refine ⟨q.os, q.tape, q.output, by simpa using q.size, fun k hk => ?_⟩
 have hk' : k < w.heap.size := by simpa using hk
 by_cases e : k = b
 ·subst e
  have hV := heap_keep q hb
  rw [block_setCell (block_setCell (block_setCell hV _) _) _, block_setCell (block_setCell (block_setCell hb _) _) _]
 ·unfold goW
  rw [Below.heap_setCell _ _ _ _ e, Below.heap_setCell _ _ _ _ e, Below.heap_setCell _ _ _ _ e, Below.heap_setCell _ _ _ _ e, Below.heap_setCell _ _ _ _ e, Below.heap_setCell _ _ _ _ e]
  exact q.block k hk'

theorem goW_cell {V : World} {b o : Nat} {t : Int} {a : Addr} {v : Value} (h : V.cell? a = some v) (hn : a.block ≠ b) : (goW V b o t).cell? a = some v := by
 unfold goW
 rw [World.cell?_setCell_far _ _ _ _ (Ne.symm hn), World.cell?_setCell_far _ _ _ _ (Ne.symm hn), World.cell?_setCell_far _ _ _ _ (Ne.symm hn)]
 exact h

/-! ### What holds in a round -/
def TI {zs : List PI} (Bd : Nat) (w : World) (b o : Nat) (fault : Bool) (r : Int) (pre : List (NI zs)) (W : World) : Prop :=
 (W.heap[w.heap.size]? = some (.cells #[.pointer (some ⟨b, o, none⟩)] 62 (0, 0)) ∧ W.heap[w.heap.size + 1]? = some (.cells #[.bool fault] 4 (0, 0)) ∧ Q w W ∧ Bd ≤ W.heap.size) ∧ ∀ y ∈ pre, wrB r y.1.2 = false
def TX {zs : List PI} (w : World) (b o : Nat) (fault : Bool) (p : PP) (c : Code) (pre : List (NI zs)) (W : World) : Prop :=
 (∃ V, (∃ (x : PI), (x.op ≠ 20 ∧ V = w) ∨ (x.op = 20 ∧ V = goW w b o (wayP p ((x.imm != 0) != fault)))) ∧ Q V W) ∧ c = .ret ∧ ∃ pre0 x, pre = pre0 ++ [x] ∧ (∀ y ∈ pre0, wrB p.cond y.1.2 = false) ∧ wrB p.cond x.1.2 = true ∧ ((x.1.2.op ≠ 20 ∧ Q w W) ∨ (x.1.2.op = 20 ∧ Q (goW w b o (wayP p ((x.1.2.imm != 0) != fault))) W))
theorem q_own {w W W' : World} {B : Nat} (hB : w.heap.size ≤ B) {row : Option Nat} (h : Q w W) (hg : W.grownBy W' row) (hr : ∀ r, row = some r → B ≤ r ∧ ∃ o : Obj, W.heap[r]? = some o ∧ o.isCells = false) : Q w W' :=
 ⟨hg.os.trans h.os, hg.tape.trans h.tape, hg.output.trans h.output, Nat.le_trans h.size hg.size, fun k hk => (hg.block k (Nat.lt_of_lt_of_le hk h.size) (fun e' => by have := (hr k e'.symm).1; omega)).trans (h.block k hk)⟩
theorem TI.own {zs : List PI} {Bd B : Nat} {w : World} {b o : Nat} {fault : Bool} {r : Int} (hB : w.heap.size ≤ B) : OwnFrom B (TI (zs := zs) Bd w b o fault r) := fun pre W W' row h hg hr => by
 obtain ⟨⟨h1, h2, h3, h4⟩, h5⟩ := h
 have hblk : ∀ (k : Nat) (o : Obj), W.heap[k]? = some o → o.isCells = true → W'.heap[k]? = some o := fun k o e ho => (hg.block k (Array.getElem?_eq_some_iff.1 e).1 (fun e' => by
  obtain ⟨-, o', h4, h5⟩ := hr k e'.symm
  rw [e] at h4; cases h4; rw [ho] at h5; cases h5)).trans e
 exact ⟨⟨hblk _ _ h1 rfl, hblk _ _ h2 rfl, q_own hB h3 hg hr, Nat.le_trans h4 hg.size⟩, h5⟩
theorem TX.own {zs : List PI} {B : Nat} {w : World} {b o : Nat} {fault : Bool} {p : PP} (c : Code) (hB : w.heap.size ≤ B) : OwnFrom B (TX (zs := zs) w b o fault p c) := fun pre W W' row h hg hr => by
 obtain ⟨⟨V, ⟨x, hx⟩, hV⟩, h2, pre0, y, h3, h4, h5, h6⟩ := h
 have hs : V.heap.size ≤ B := by
  rcases hx with ⟨-, rfl⟩ | ⟨-, rfl⟩
  ·exact hB
  ·simpa using hB
 refine ⟨⟨V, ⟨x, hx⟩, q_own hs hV hg hr⟩, h2, pre0, y, h3, h4, h5, ?_⟩
 rcases h6 with ⟨a, h6⟩ | ⟨a, h6⟩
 ·exact .inl ⟨a, q_own hB h6 hg hr⟩
 ·exact .inr ⟨a, q_own (by simpa using hB) h6 hg hr⟩
def AX {zs : List PI} (Bd : Nat) (f : NI zs → Nat → Array Value) (x : NI zs) (a' : Act) (W : World) : Prop :=
 ∃ Bx, Bd ≤ Bx ∧ W.heap[Bx]? = some (.cells x.1.2.cells.toArray 49 (0, 0)) ∧ a' = { tmps := f x Bx, defers := [] }
theorem AX.own {zs : List PI} {Bd B : Nat} {f : NI zs → Nat → Array Value} (x : NI zs) (a' : Act) : OwnFrom B (fun (_ : Unit) W => AX Bd f x a' W) := fun _ W W' row h hg hr => by
 obtain ⟨Bx, h1, h2, h3⟩ := h
 refine ⟨Bx, h1, (hg.block Bx (Array.getElem?_eq_some_iff.1 h2).1 (fun e => ?_)).trans h2, h3⟩
 obtain ⟨-, o, h4, h5⟩ := hr Bx e.symm
 rw [h2] at h4; cases h4; cases h5

set_option maxRecDepth 100000 in
set_option maxHeartbeats 80000000 in
theorem take_any (w : World) (b o : Nat) (p : PP) (hp : At w b o p.cells) (hb : ∃ cs : Array Value, w.heap[b]? = some (.cells cs 47 (0, 0))) (hpo : p.ok w) (fault : Bool) :
  Calls Try.prog 22 #[.pointer (some ⟨b, o, none⟩), .bool fault] w fun e w' => e = .returned (.tuple #[]) ∧ ((takeP fault p = p ∧ Q w w') ∨ ∃ t, takeP fault p = goP p t ∧ Q (goW w b o t) w') := by
 refine (callsIn_wide (n := 12)).1 ?_
 have hreach : p.ins.length * 64 ≤ 140737488351232 := by have := hpo.sok; unfold sok at this; omega
 refine callsIn_of_wp_marks Try.func22 rfl trivial ?_ rfl
 simp only [Try.ntmps22, List.size_toArray, List.length_cons, List.length_nil, Nat.reduceAdd, Nat.reduceSub, Array.replicate_succ, Array.replicate_zero, List.push_toArray, List.append_toArray, List.nil_append, List.cons_append]
 have HB := hideIt hb
 have HPO := hideIt hpo
 have CB : Hid (∀ y, Q w y → Calls Try.prog 40 #[.pointer (some ⟨b, o, none⟩)] y fun e w' => e = .returned (.bool (brP p)) ∧ w' = y) := fun y hy => branches_any y b o p (hp.keep hy)
 have HP := hideIt (fun (y : World) (hy : Q w y) => (hp.keep hy).five)
 have HAT := hideIt hp
 have HTK : Hid (takeP fault p = if brP p = true then (match lastI p.ins p.cond with | some x => if x.op = 20 then goP p (wayP p ((x.imm != 0) != fault)) else p | none => p) else p) := rfl
 have hmx : Try.prog.follows .mixedOrders = true := by kernel_rfl
 clear hb hpo hp
 cases hbr : brP p with
 | false =>
  rw [hbr] at CB
  have e9 := HTK.out
  rw [hbr, if_neg (by simp)] at e9
  have E9 := hideIt e9
  clear e9 HTK hbr
  gi_wp2_with (first
   | (refine ⟨trivial, ?_⟩; gi_at_call 40; refine CallsIn.mono (callsIn_wide.2 (CB.out _ (((Q.refl w).alloc _).alloc _))) ?_; rintro e y ⟨rfl, rfl⟩)
   | fail)
  exact ⟨_, results_none rfl _ _ _, rfl, .inl ⟨E9.out, ((Q.refl w).alloc _).alloc _⟩⟩
 | true =>
  rw [hbr] at CB
  have e9 := HTK.out
  rw [hbr, if_pos rfl] at e9
  have E9 := hideIt e9
  clear e9 HTK hbr
  gi_wp2_with (first
   | (refine ⟨trivial, ?_⟩; gi_at_call 40; refine CallsIn.mono (callsIn_wide.2 (CB.out _ (((Q.refl w).alloc _).alloc _))) ?_; rintro e y ⟨rfl, rfl⟩; obtain ⟨c0, c1, c2, c3, c4⟩ := HP.out _ (((Q.refl w).alloc (.cells #[.pointer (some ⟨b, o, none⟩)] 62)).alloc (.cells #[.bool fault] 4)))
   | (refine ⟨trivial, ?_⟩; gi_at_call 41; refine CallsIn.mono (backward_in Fence.wide _ trivial rfl _ _ _ _) ?_; rintro e y ⟨rfl, rfl⟩)
   | fail)
  clear c0 c1 c2 c3 c4
  obtain ⟨W0, hW0⟩ : ∃ W0, ((w.alloc (.cells #[.pointer (some ⟨b, o, none⟩)] 62)).alloc (.cells #[.bool fault] 4)).alloc (.cells #[.slice p.ia p.ins.length p.ic] 45) = W0 := ⟨_, rfl⟩
  have hs0 : W0.heap.size = w.heap.size + 1 + 1 + 1 := by rw [← hW0]; simp
  have QW0 : Hid (Q w W0) := by rw [← hW0]; exact (((Q.refl w).alloc _).alloc _).alloc _
  have b0 : W0.heap[w.heap.size]? = some (.cells #[.pointer (some ⟨b, o, none⟩)] 62 (0, 0)) := by rw [← hW0]; exact heap_keep (((Q.refl _).alloc _).alloc _) (heap_alloc_new w _)
  have b1 : W0.heap[w.heap.size + 1]? = some (.cells #[.bool fault] 4 (0, 0)) := by
   rw [← hW0]
   have := heap_alloc_new (w.alloc (.cells #[.pointer (some ⟨b, o, none⟩)] 62)) (.cells #[.bool fault] 4)
   rw [World.size_alloc] at this
   exact heap_keep ((Q.refl _).alloc _) this
  have b2 : W0.heap[w.heap.size + 1 + 1]? = some (.cells #[.slice p.ia p.ins.length p.ic] 45 (0, 0)) := by
   rw [← hW0]
   have := heap_alloc_new ((w.alloc (.cells #[.pointer (some ⟨b, o, none⟩)] 62)).alloc (.cells #[.bool fault] 4)) (.cells #[.slice p.ia p.ins.length p.ic] 45)
   rw [World.size_alloc, World.size_alloc] at this
   exact this
  have cS : W0.cell? ⟨w.heap.size + 1 + 1, 0, none⟩ = some (.slice p.ia p.ins.length p.ic) := (cell_of_block b2 0).trans rfl
  rw [hW0]
  have hI00 : TI (zs := p.ins) W0.heap.size w b o fault p.cond [] W0 := ⟨⟨b0, b1, QW0.out, Nat.le_refl _⟩, fun y hy => by cases hy⟩
  clear hW0 b0 b1 b2
  refine wpIn_rangeFunc_ownH (F := Fence.wide) rfl (by omega) (gf := 62) (lb := #[.pointer (some ⟨w.heap.size + 1 + 1, 0, none⟩)]) rfl trivial (enters_of Try.func62 (by kernel_rfl) rfl)
   (back_stops Fence.wide _ trivial rfl (by omega) (w.heap.size + 1 + 1) w.heap.size p.ia p.ic p.ins hreach W0 (by omega) (by omega) cS ?pc)
   (fun h k => KB.trans h k) (KB.b (by omega) (by omega)) (Below.refl _ _) (fun _ => rfl)
   (TI (zs := p.ins) W0.heap.size w b o fault p.cond)
   (TX (zs := p.ins) w b o fault p) (TI.own (by omega)) (fun c => TX.own c (by omega)) hI00
   (AX W0.heap.size (fun x Bx => #[.pointer (some ⟨b, o, none⟩), .bool fault, .pointer (some ⟨w.heap.size, 0, none⟩), .pointer (some ⟨w.heap.size + 1, 0, none⟩), undef, .pointer (some ⟨Bx, 0, none⟩), .pointer (some ⟨b, o, none⟩), .bool true, .bool false, .pointer (some ⟨b, o, none⟩), .pointer (some ⟨b, o, none⟩), .pointer (some ⟨b, o, none⟩), .slice p.ia p.ins.length p.ic, .func (.func 62) #[] #[.pointer (some ⟨w.heap.size + 1 + 1, 0, none⟩)], .int .i64 (x.1.1 : Int), x.1.2.v, undef, undef, undef, undef, undef, undef, undef, undef, undef, undef, undef, undef, undef, undef, undef, undef, undef, undef, undef, undef, undef, undef, undef, undef]))
   (fun x a' => AX.own x a') ?assign ?body ?done ?stop
  case pc =>
   intro k x e
   obtain ⟨g, o', e1, h1⟩ := HPO.out.ins k x e
   exact ⟨g, o', e1, World.block_lt_of_cell? w _ h1.1.seven.1, (h1.keep QW0.out).1⟩
  case assign =>
   rintro l pre x W K ⟨⟨i1, i2, i3, i4⟩, i5⟩ hK
   rcases x with ⟨⟨k, x⟩, hx⟩
   dsimp only [NI.enc, PI.v]
   gi_wp2
   have qa : Q W (W.alloc (.cells #[.int .u8 x.op, .int .u8 x.ty, .int .i64 x.dst, .int .i64 x.a, .int .i64 x.b, .int .i64 x.imm, .slice x.aa x.args.length x.ac] 49)) := (Q.refl W).alloc _
   exact hK _ _ ((KeepsOthers.alloc _ _).from _) ⟨qa.mono i3.size, qa.block _ (by omega)⟩ ⟨⟨heap_keep qa i1, heap_keep qa i2, i3.trans qa, Nat.le_trans i4 qa.size⟩, i5⟩ ⟨W.heap.size, i4, World.alloc_heap_new W _, rfl⟩
  case body =>
   rintro l pre x a' W hl ⟨r, hr⟩ ⟨⟨i1, i2, i3, i4⟩, i5⟩ ⟨Bx, hBx, bX, rfl⟩ hlt
   rcases x with ⟨⟨k, x⟩, hx⟩
   dsimp only at hx bX ⊢
   have hxo : x.ok w := by obtain ⟨g, o', -, h1⟩ := HPO.out.ins k x hx; exact h1.2
   have hd1 : 1 ≤ 12 - 1 - 1 := by omega
   have HD := hideIt (fun (X : World) => dst_any x X)
   have RF : Hid (∀ y, Q W y → (y.cell? ⟨w.heap.size, 0, none⟩ = some (.pointer (some ⟨b, o, none⟩)) ∧ y.cell? ⟨w.heap.size + 1, 0, none⟩ = some (.bool fault)) ∧ (y.cell? ⟨Bx, 0, none⟩ = some (.int .u8 x.op) ∧ y.cell? ⟨Bx, 1, none⟩ = some (.int .u8 x.ty) ∧ y.cell? ⟨Bx, 2, none⟩ = some (.int .i64 x.dst) ∧ y.cell? ⟨Bx, 3, none⟩ = some (.int .i64 x.a) ∧ y.cell? ⟨Bx, 4, none⟩ = some (.int .i64 x.b) ∧ y.cell? ⟨Bx, 5, none⟩ = some (.int .i64 x.imm) ∧ y.cell? ⟨Bx, 6, none⟩ = some (.slice x.aa x.args.length x.ac)) ∧ y.cell? ⟨b, o + 2, none⟩ = some (.int .i64 p.cond)) := fun y q => by
    have hbx := heap_keep q bX
    refine ⟨⟨(cell_of_block (heap_keep q i1) 0).trans rfl, (cell_of_block (heap_keep q i2) 0).trans rfl⟩, ?_, (HP.out y (i3.trans q)).2.2.1⟩
    refine ⟨?_, ?_, ?_, ?_, ?_, ?_, ?_⟩ <;> simp [World.cell?, hbx, PI.cells]
   obtain ⟨⟨g0, g1⟩, ⟨x0, x1, x2, x3, x4, x5, x6⟩, g2⟩ := RF.out W (Q.refl _)
   have KBB : Hid (∀ y, Q W y → KeepsFrom W0.heap.size W y ∧ KB w.heap.size (w.heap.size + 1 + 1) W y) := fun y q => ⟨⟨q.size, fun k o _ e _ => (q.block k (Array.getElem?_eq_some_iff.1 e).1).trans e⟩, q.mono i3.size, q.block _ (by have := i4; omega)⟩
   have II := hideIt (And.intro i1 (And.intro i2 (And.intro i3 (And.intro i4 i5))))
   clear i1 i2 i3 i4 i5 bX hxo
   have HWF : Hid (∀ y, Q w y → ∀ v : Bool, Calls Try.prog 44 #[.pointer (some ⟨b, o, none⟩), .bool v] y fun e w' => e = .returned (.int .i64 (wayP p v)) ∧ w' = y) := fun y hy v => way_any y b o p (HAT.out.keep hy) v
   have HGF : Hid (∀ y, Q w y → ∀ t : Int, Calls Try.prog 43 #[.pointer (some ⟨b, o, none⟩), .int .i64 t] y fun e w' => e = .returned (.tuple #[]) ∧ w' = goW y b o t) := fun y hy t => by
    obtain ⟨cs, hcs⟩ := HB.out
    exact goOn_any y b o p (HAT.out.keep hy) (fun j => free_of_block (heap_keep hy hcs) j) t
   dsimp only [PI.v] at HD ⊢
   gi_upto_region 4 with fail
   gi_cut [27] from 16 (fun v W' => v = .bool (!(wrB p.cond x)) ∧ Hid (Q W W'))
   case first =>
    clear g0 g1 x0 x1 x2 x3 x4 x5 x6 g2
    cases hw : wrP x.op with
    | false =>
     rw [hw] at HD
     have e1 : wrB p.cond x = false := by unfold wrB; rw [hw]; rfl
     have E1 := hideIt e1
     clear hw e1
     -- region 4 A
     refine wpIn_region_round (fun y => Q W y ∧ (y.cell? ⟨w.heap.size, 0, none⟩ = some (.pointer (some ⟨b, o, none⟩)) ∧ y.cell? ⟨w.heap.size + 1, 0, none⟩ = some (.bool fault)) ∧ (y.cell? ⟨Bx, 0, none⟩ = some (.int .u8 x.op) ∧ y.cell? ⟨Bx, 1, none⟩ = some (.int .u8 x.ty) ∧ y.cell? ⟨Bx, 2, none⟩ = some (.int .i64 x.dst) ∧ y.cell? ⟨Bx, 3, none⟩ = some (.int .i64 x.a) ∧ y.cell? ⟨Bx, 4, none⟩ = some (.int .i64 x.b) ∧ y.cell? ⟨Bx, 5, none⟩ = some (.int .i64 x.imm) ∧ y.cell? ⟨Bx, 6, none⟩ = some (.slice x.aa x.args.length x.ac)) ∧ y.cell? ⟨b, o + 2, none⟩ = some (.int .i64 p.cond)) (by kernel_rfl) (by kernel_rfl) (⟨(Q.refl W).drew, RF.out _ (Q.refl W).drew⟩) (fun hHeld => ?_)
     refine wpAnyH_take (i := 0) (oi := ⟨_, _, _, _, _, _⟩) (v := ?_) rfl (by kernel_rfl) (by kernel_rfl) (by kernel_rfl) (fun _ _ _ h => h) (Or.inl ⟨by rfl, ?_⟩) (by assumption) ?_
     rotate_left 1
     ·intro w hSw; (try dsimp only at hSw); go_simp; all_goals with_reducible rfl
     try simp only [Act.put, List.setIfInBounds_toArray, List.set_cons_zero, List.set_cons_succ]
     refine wpAnyH_ready (rs := [1]) (by kernel_rfl) (by simp) (AllReadyH.cons (o := ⟨_, _, _, _, _, _⟩) rfl (fun K hK => ?_) AllReadyH.nil)
     go_simp
     go_at_call 42; refine (HD.out _).mono ?_; rintro e y ⟨rfl, qy⟩; have QY : Hid (Q W y) := hideIt (hHeld.1.trans qy); clear qy
     refine hK.out _ _ ?_ (fun hHeld => ?_)
     ·exact ⟨QY.out, RF.out _ QY.out⟩
     clear hK K
     try simp only [Act.put, List.setIfInBounds_toArray, List.set_cons_zero, List.set_cons_succ]
     refine wpAnyH_take (i := 2) (oi := ⟨_, _, _, _, _, _⟩) (v := ?_) rfl (by kernel_rfl) (by kernel_rfl) (by kernel_rfl) (fun _ _ _ h => h) (Or.inl ⟨by rfl, ?_⟩) (by assumption) ?_
     rotate_left 1
     ·intro w hSw; (try dsimp only at hSw); go_simp; all_goals with_reducible rfl
     try simp only [Act.put, List.setIfInBounds_toArray, List.set_cons_zero, List.set_cons_succ]
     refine wpAnyH_take (i := 3) (oi := ⟨_, _, _, _, _, _⟩) (v := ?_) rfl (by kernel_rfl) (by kernel_rfl) (by kernel_rfl) (fun _ _ _ h => h) (Or.inl ⟨by rfl, ?_⟩) (by assumption) ?_
     rotate_left 1
     ·intro w hSw; (try dsimp only at hSw); go_simp; all_goals with_reducible rfl
     try simp only [Act.put, List.setIfInBounds_toArray, List.set_cons_zero, List.set_cons_succ]
     refine wpAnyH_take (i := 4) (oi := ⟨_, _, _, _, _, _⟩) (v := undef) rfl (by kernel_rfl) (by kernel_rfl) (by kernel_rfl) (fun _ _ _ h => h) (Or.inr ⟨by rfl, rfl⟩) (by assumption) ?_
     try simp only [Act.put, List.setIfInBounds_toArray, List.set_cons_zero, List.set_cons_succ]
     refine wpAnyH_take (i := 5) (oi := ⟨_, _, _, _, _, _⟩) (v := undef) rfl (by kernel_rfl) (by kernel_rfl) (by kernel_rfl) (fun _ _ _ h => h) (Or.inr ⟨by rfl, rfl⟩) (by assumption) ?_
     try simp only [Act.put, List.setIfInBounds_toArray, List.set_cons_zero, List.set_cons_succ]
     refine wpAnyH_take (i := 6) (oi := ⟨_, _, _, _, _, _⟩) (v := undef) rfl (by kernel_rfl) (by kernel_rfl) (by kernel_rfl) (fun _ _ _ h => h) (Or.inr ⟨by rfl, rfl⟩) (by assumption) ?_
     try simp only [Act.put, List.setIfInBounds_toArray, List.set_cons_zero, List.set_cons_succ]
     refine wpAnyH_take (i := 7) (oi := ⟨_, _, _, _, _, _⟩) (v := undef) rfl (by kernel_rfl) (by kernel_rfl) (by kernel_rfl) (fun _ _ _ h => h) (Or.inr ⟨by rfl, rfl⟩) (by assumption) ?_
     try simp only [Act.put, List.setIfInBounds_toArray, List.set_cons_zero, List.set_cons_succ]
     refine wpAnyH_take (i := 8) (oi := ⟨_, _, _, _, _, _⟩) (v := undef) rfl (by kernel_rfl) (by kernel_rfl) (by kernel_rfl) (fun _ _ _ h => h) (Or.inr ⟨by rfl, rfl⟩) (by assumption) ?_
     try simp only [Act.put, List.setIfInBounds_toArray, List.set_cons_zero, List.set_cons_succ]
     refine wpAnyH_take (i := 9) (oi := ⟨_, _, _, _, _, _⟩) (v := undef) rfl (by kernel_rfl) (by kernel_rfl) (by kernel_rfl) (fun _ _ _ h => h) (Or.inr ⟨by rfl, rfl⟩) (by assumption) ?_
     try simp only [Act.put, List.setIfInBounds_toArray, List.set_cons_zero, List.set_cons_succ]
     refine wpAnyH_take (i := 10) (oi := ⟨_, _, _, _, _, _⟩) (v := undef) rfl (by kernel_rfl) (by kernel_rfl) (by kernel_rfl) (fun _ _ _ h => h) (Or.inr ⟨by rfl, rfl⟩) (by assumption) ?_
     try simp only [Act.put, List.setIfInBounds_toArray, List.set_cons_zero, List.set_cons_succ]
     refine wpAnyH_take (i := 11) (oi := ⟨_, _, _, _, _, _⟩) (v := ?_) rfl (by kernel_rfl) (by kernel_rfl) (by kernel_rfl) (fun _ _ _ h => h) (Or.inl ⟨by rfl, ?_⟩) (by assumption) ?_
     rotate_left 1
     ·intro w hSw; (try dsimp only at hSw); go_simp; all_goals with_reducible rfl
     try simp only [Act.put, List.setIfInBounds_toArray, List.set_cons_zero, List.set_cons_succ]
     refine wpAnyH_done (by kernel_rfl) ?_ _
     refine NN.normal ?_
     -- end of region 4 A
     all_goals gi_wp2_with fail
     all_goals gi_meet
     all_goals first | exact ⟨by rw [E1.out]; rfl, QY.out⟩ | (rw [E1.out]; rfl) | exact QY.out
    | true =>
     rw [hw] at HD
     by_cases hd : x.dst = p.cond
     ·have e1 : wrB p.cond x = true := by unfold wrB; rw [hw, hd]; simp
      have E1 := hideIt e1
      have e2 : (x.dst != p.cond) = false := by simp [hd]
      clear hw e1 hd
      -- region 4 B
      refine wpIn_region_round (fun y => Q W y ∧ (y.cell? ⟨w.heap.size, 0, none⟩ = some (.pointer (some ⟨b, o, none⟩)) ∧ y.cell? ⟨w.heap.size + 1, 0, none⟩ = some (.bool fault)) ∧ (y.cell? ⟨Bx, 0, none⟩ = some (.int .u8 x.op) ∧ y.cell? ⟨Bx, 1, none⟩ = some (.int .u8 x.ty) ∧ y.cell? ⟨Bx, 2, none⟩ = some (.int .i64 x.dst) ∧ y.cell? ⟨Bx, 3, none⟩ = some (.int .i64 x.a) ∧ y.cell? ⟨Bx, 4, none⟩ = some (.int .i64 x.b) ∧ y.cell? ⟨Bx, 5, none⟩ = some (.int .i64 x.imm) ∧ y.cell? ⟨Bx, 6, none⟩ = some (.slice x.aa x.args.length x.ac)) ∧ y.cell? ⟨b, o + 2, none⟩ = some (.int .i64 p.cond)) (by kernel_rfl) (by kernel_rfl) (⟨(Q.refl W).drew, RF.out _ (Q.refl W).drew⟩) (fun hHeld => ?_)
      refine wpAnyH_take (i := 0) (oi := ⟨_, _, _, _, _, _⟩) (v := ?_) rfl (by kernel_rfl) (by kernel_rfl) (by kernel_rfl) (fun _ _ _ h => h) (Or.inl ⟨by rfl, ?_⟩) (by assumption) ?_
      rotate_left 1
      ·intro w hSw; (try dsimp only at hSw); go_simp; all_goals with_reducible rfl
      try simp only [Act.put, List.setIfInBounds_toArray, List.set_cons_zero, List.set_cons_succ]
      refine wpAnyH_ready (rs := [1]) (by kernel_rfl) (by simp) (AllReadyH.cons (o := ⟨_, _, _, _, _, _⟩) rfl (fun K hK => ?_) AllReadyH.nil)
      go_simp
      go_at_call 42; refine (HD.out _).mono ?_; rintro e y ⟨rfl, qy⟩; have QY : Hid (Q W y) := hideIt (hHeld.1.trans qy); clear qy
      refine hK.out _ _ ?_ (fun hHeld => ?_)
      ·exact ⟨QY.out, RF.out _ QY.out⟩
      clear hK K
      try simp only [Act.put, List.setIfInBounds_toArray, List.set_cons_zero, List.set_cons_succ]
      refine wpAnyH_take (i := 2) (oi := ⟨_, _, _, _, _, _⟩) (v := ?_) rfl (by kernel_rfl) (by kernel_rfl) (by kernel_rfl) (fun _ _ _ h => h) (Or.inl ⟨by rfl, ?_⟩) (by assumption) ?_
      rotate_left 1
      ·intro w hSw; (try dsimp only at hSw); go_simp; all_goals with_reducible rfl
      try simp only [Act.put, List.setIfInBounds_toArray, List.set_cons_zero, List.set_cons_succ]
      refine wpAnyH_take (i := 3) (oi := ⟨_, _, _, _, _, _⟩) (v := ?_) rfl (by kernel_rfl) (by kernel_rfl) (by kernel_rfl) (fun _ _ _ h => h) (Or.inl ⟨by rfl, ?_⟩) (by assumption) ?_
      rotate_left 1
      ·intro w hSw; (try dsimp only at hSw); go_simp; all_goals with_reducible rfl
      try simp only [Act.put, List.setIfInBounds_toArray, List.set_cons_zero, List.set_cons_succ]
      refine wpAnyH_take (i := 4) (oi := ⟨_, _, _, _, _, _⟩) (v := ?_) rfl (by kernel_rfl) (by kernel_rfl) (by kernel_rfl) (fun _ _ _ h => h) (Or.inl ⟨by rfl, ?_⟩) (by assumption) ?_
      rotate_left 1
      ·intro w hSw; (try dsimp only at hSw); go_simp; all_goals with_reducible rfl
      try simp only [Act.put, List.setIfInBounds_toArray, List.set_cons_zero, List.set_cons_succ]
      refine wpAnyH_take (i := 5) (oi := ⟨_, _, _, _, _, _⟩) (v := ?_) rfl (by kernel_rfl) (by kernel_rfl) (by kernel_rfl) (fun _ _ _ h => h) (Or.inl ⟨by rfl, ?_⟩) (by assumption) ?_
      rotate_left 1
      ·intro w hSw; (try dsimp only at hSw); go_simp; all_goals with_reducible rfl
      try simp only [Act.put, List.setIfInBounds_toArray, List.set_cons_zero, List.set_cons_succ]
      refine wpAnyH_take (i := 6) (oi := ⟨_, _, _, _, _, _⟩) (v := ?_) rfl (by kernel_rfl) (by kernel_rfl) (by kernel_rfl) (fun _ _ _ h => h) (Or.inl ⟨by rfl, ?_⟩) (by assumption) ?_
      rotate_left 1
      ·intro w hSw; (try dsimp only at hSw); go_simp; all_goals with_reducible rfl
      try simp only [Act.put, List.setIfInBounds_toArray, List.set_cons_zero, List.set_cons_succ]
      refine wpAnyH_take (i := 7) (oi := ⟨_, _, _, _, _, _⟩) (v := ?_) rfl (by kernel_rfl) (by kernel_rfl) (by kernel_rfl) (fun _ _ _ h => h) (Or.inl ⟨by rfl, ?_⟩) (by assumption) ?_
      rotate_left 1
      ·intro w hSw; (try dsimp only at hSw); go_simp; all_goals with_reducible rfl
      try simp only [Act.put, List.setIfInBounds_toArray, List.set_cons_zero, List.set_cons_succ]
      refine wpAnyH_take (i := 8) (oi := ⟨_, _, _, _, _, _⟩) (v := ?_) rfl (by kernel_rfl) (by kernel_rfl) (by kernel_rfl) (fun _ _ _ h => h) (Or.inl ⟨by rfl, ?_⟩) (by assumption) ?_
      rotate_left 1
      ·intro w hSw; (try dsimp only at hSw); go_simp; all_goals with_reducible rfl
      try simp only [Act.put, List.setIfInBounds_toArray, List.set_cons_zero, List.set_cons_succ]
      refine wpAnyH_take (i := 9) (oi := ⟨_, _, _, _, _, _⟩) (v := ?_) rfl (by kernel_rfl) (by kernel_rfl) (by kernel_rfl) (fun _ _ _ h => h) (Or.inl ⟨by rfl, ?_⟩) (by assumption) ?_
      rotate_left 1
      ·intro w hSw; (try dsimp only at hSw); go_simp; all_goals with_reducible rfl
      try simp only [Act.put, List.setIfInBounds_toArray, List.set_cons_zero, List.set_cons_succ]
      refine wpAnyH_take (i := 10) (oi := ⟨_, _, _, _, _, _⟩) (v := ?_) rfl (by kernel_rfl) (by kernel_rfl) (by kernel_rfl) (fun _ _ _ h => h) (Or.inl ⟨by rfl, ?_⟩) (by assumption) ?_
      rotate_left 1
      ·intro w hSw; (try dsimp only at hSw); go_simp; all_goals with_reducible rfl
      try simp only [Act.put, List.setIfInBounds_toArray, List.set_cons_zero, List.set_cons_succ]
      refine wpAnyH_take (i := 11) (oi := ⟨_, _, _, _, _, _⟩) (v := ?_) rfl (by kernel_rfl) (by kernel_rfl) (by kernel_rfl) (fun _ _ _ h => h) (Or.inl ⟨by rfl, ?_⟩) (by assumption) ?_
      rotate_left 1
      ·intro w hSw; (try dsimp only at hSw); go_simp; all_goals with_reducible rfl
      try simp only [Act.put, List.setIfInBounds_toArray, List.set_cons_zero, List.set_cons_succ]
      refine wpAnyH_done (by kernel_rfl) ?_ _
      refine NN.normal ?_
      -- end of region 4 B
      all_goals gi_wp2_with fail
      all_goals gi_meet
      all_goals first | exact ⟨by rw [E1.out]; rfl, QY.out⟩ | (rw [E1.out]; rfl) | exact QY.out
     ·have e1 : wrB p.cond x = false := by unfold wrB; rw [hw]; simpa using hd
      have E1 := hideIt e1
      have e2 : (x.dst != p.cond) = true := by simpa using hd
      clear hw e1 hd
      -- region 4 C
      refine wpIn_region_round (fun y => Q W y ∧ (y.cell? ⟨w.heap.size, 0, none⟩ = some (.pointer (some ⟨b, o, none⟩)) ∧ y.cell? ⟨w.heap.size + 1, 0, none⟩ = some (.bool fault)) ∧ (y.cell? ⟨Bx, 0, none⟩ = some (.int .u8 x.op) ∧ y.cell? ⟨Bx, 1, none⟩ = some (.int .u8 x.ty) ∧ y.cell? ⟨Bx, 2, none⟩ = some (.int .i64 x.dst) ∧ y.cell? ⟨Bx, 3, none⟩ = some (.int .i64 x.a) ∧ y.cell? ⟨Bx, 4, none⟩ = some (.int .i64 x.b) ∧ y.cell? ⟨Bx, 5, none⟩ = some (.int .i64 x.imm) ∧ y.cell? ⟨Bx, 6, none⟩ = some (.slice x.aa x.args.length x.ac)) ∧ y.cell? ⟨b, o + 2, none⟩ = some (.int .i64 p.cond)) (by kernel_rfl) (by kernel_rfl) (⟨(Q.refl W).drew, RF.out _ (Q.refl W).drew⟩) (fun hHeld => ?_)
      refine wpAnyH_take (i := 0) (oi := ⟨_, _, _, _, _, _⟩) (v := ?_) rfl (by kernel_rfl) (by kernel_rfl) (by kernel_rfl) (fun _ _ _ h => h) (Or.inl ⟨by rfl, ?_⟩) (by assumption) ?_
      rotate_left 1
      ·intro w hSw; (try dsimp only at hSw); go_simp; all_goals with_reducible rfl
      try simp only [Act.put, List.setIfInBounds_toArray, List.set_cons_zero, List.set_cons_succ]
      refine wpAnyH_ready (rs := [1]) (by kernel_rfl) (by simp) (AllReadyH.cons (o := ⟨_, _, _, _, _, _⟩) rfl (fun K hK => ?_) AllReadyH.nil)
      go_simp
      go_at_call 42; refine (HD.out _).mono ?_; rintro e y ⟨rfl, qy⟩; have QY : Hid (Q W y) := hideIt (hHeld.1.trans qy); clear qy
      refine hK.out _ _ ?_ (fun hHeld => ?_)
      ·exact ⟨QY.out, RF.out _ QY.out⟩
      clear hK K
      try simp only [Act.put, List.setIfInBounds_toArray, List.set_cons_zero, List.set_cons_succ]
      refine wpAnyH_take (i := 2) (oi := ⟨_, _, _, _, _, _⟩) (v := ?_) rfl (by kernel_rfl) (by kernel_rfl) (by kernel_rfl) (fun _ _ _ h => h) (Or.inl ⟨by rfl, ?_⟩) (by assumption) ?_
      rotate_left 1
      ·intro w hSw; (try dsimp only at hSw); go_simp; all_goals with_reducible rfl
      try simp only [Act.put, List.setIfInBounds_toArray, List.set_cons_zero, List.set_cons_succ]
      refine wpAnyH_take (i := 3) (oi := ⟨_, _, _, _, _, _⟩) (v := ?_) rfl (by kernel_rfl) (by kernel_rfl) (by kernel_rfl) (fun _ _ _ h => h) (Or.inl ⟨by rfl, ?_⟩) (by assumption) ?_
      rotate_left 1
      ·intro w hSw; (try dsimp only at hSw); go_simp; all_goals with_reducible rfl
      try simp only [Act.put, List.setIfInBounds_toArray, List.set_cons_zero, List.set_cons_succ]
      refine wpAnyH_take (i := 4) (oi := ⟨_, _, _, _, _, _⟩) (v := ?_) rfl (by kernel_rfl) (by kernel_rfl) (by kernel_rfl) (fun _ _ _ h => h) (Or.inl ⟨by rfl, ?_⟩) (by assumption) ?_
      rotate_left 1
      ·intro w hSw; (try dsimp only at hSw); go_simp; all_goals with_reducible rfl
      try simp only [Act.put, List.setIfInBounds_toArray, List.set_cons_zero, List.set_cons_succ]
      refine wpAnyH_take (i := 5) (oi := ⟨_, _, _, _, _, _⟩) (v := ?_) rfl (by kernel_rfl) (by kernel_rfl) (by kernel_rfl) (fun _ _ _ h => h) (Or.inl ⟨by rfl, ?_⟩) (by assumption) ?_
      rotate_left 1
      ·intro w hSw; (try dsimp only at hSw); go_simp; all_goals with_reducible rfl
      try simp only [Act.put, List.setIfInBounds_toArray, List.set_cons_zero, List.set_cons_succ]
      refine wpAnyH_take (i := 6) (oi := ⟨_, _, _, _, _, _⟩) (v := ?_) rfl (by kernel_rfl) (by kernel_rfl) (by kernel_rfl) (fun _ _ _ h => h) (Or.inl ⟨by rfl, ?_⟩) (by assumption) ?_
      rotate_left 1
      ·intro w hSw; (try dsimp only at hSw); go_simp; all_goals with_reducible rfl
      try simp only [Act.put, List.setIfInBounds_toArray, List.set_cons_zero, List.set_cons_succ]
      refine wpAnyH_take (i := 7) (oi := ⟨_, _, _, _, _, _⟩) (v := ?_) rfl (by kernel_rfl) (by kernel_rfl) (by kernel_rfl) (fun _ _ _ h => h) (Or.inl ⟨by rfl, ?_⟩) (by assumption) ?_
      rotate_left 1
      ·intro w hSw; (try dsimp only at hSw); go_simp; all_goals with_reducible rfl
      try simp only [Act.put, List.setIfInBounds_toArray, List.set_cons_zero, List.set_cons_succ]
      refine wpAnyH_take (i := 8) (oi := ⟨_, _, _, _, _, _⟩) (v := ?_) rfl (by kernel_rfl) (by kernel_rfl) (by kernel_rfl) (fun _ _ _ h => h) (Or.inl ⟨by rfl, ?_⟩) (by assumption) ?_
      rotate_left 1
      ·intro w hSw; (try dsimp only at hSw); go_simp; all_goals with_reducible rfl
      try simp only [Act.put, List.setIfInBounds_toArray, List.set_cons_zero, List.set_cons_succ]
      refine wpAnyH_take (i := 9) (oi := ⟨_, _, _, _, _, _⟩) (v := ?_) rfl (by kernel_rfl) (by kernel_rfl) (by kernel_rfl) (fun _ _ _ h => h) (Or.inl ⟨by rfl, ?_⟩) (by assumption) ?_
      rotate_left 1
      ·intro w hSw; (try dsimp only at hSw); go_simp; all_goals with_reducible rfl
      try simp only [Act.put, List.setIfInBounds_toArray, List.set_cons_zero, List.set_cons_succ]
      refine wpAnyH_take (i := 10) (oi := ⟨_, _, _, _, _, _⟩) (v := ?_) rfl (by kernel_rfl) (by kernel_rfl) (by kernel_rfl) (fun _ _ _ h => h) (Or.inl ⟨by rfl, ?_⟩) (by assumption) ?_
      rotate_left 1
      ·intro w hSw; (try dsimp only at hSw); go_simp; all_goals with_reducible rfl
      try simp only [Act.put, List.setIfInBounds_toArray, List.set_cons_zero, List.set_cons_succ]
      refine wpAnyH_take (i := 11) (oi := ⟨_, _, _, _, _, _⟩) (v := ?_) rfl (by kernel_rfl) (by kernel_rfl) (by kernel_rfl) (fun _ _ _ h => h) (Or.inl ⟨by rfl, ?_⟩) (by assumption) ?_
      rotate_left 1
      ·intro w hSw; (try dsimp only at hSw); go_simp; all_goals with_reducible rfl
      try simp only [Act.put, List.setIfInBounds_toArray, List.set_cons_zero, List.set_cons_succ]
      refine wpAnyH_done (by kernel_rfl) ?_ _
      refine NN.normal ?_
      -- end of region 4 C
      all_goals gi_wp2_with fail
      all_goals gi_meet
      all_goals first | exact ⟨by rw [E1.out]; rfl, QY.out⟩ | (rw [E1.out]; rfl) | exact QY.out
   case rest =>
    obtain ⟨rfl, QW⟩ := hcut
    generalize wc = W1 at *
    clear x0 x1 x2 x3 x4 x5 x6 g0 g1 g2
    obtain ⟨⟨g0, g1⟩, ⟨x0, x1, x2, x3, x4, x5, x6⟩, g2⟩ := RF.out W1 QW.out
    obtain ⟨kb1, kb2⟩ := KBB.out W1 QW.out
    have KB1 := hideIt kb1
    have KB2 := hideIt kb2
    clear kb1 kb2
    obtain ⟨wb, hwb⟩ : ∃ wb, wrB p.cond x = wb := ⟨_, rfl⟩
    rw [hwb]
    have HWB := hideIt hwb
    clear hwb
    cases wb with
    | false =>
     gi_wp2_with fail
     obtain ⟨i1, i2, i3, i4, i5⟩ := II.out
     refine ⟨KB1.out, KB2.out, ⟨heap_keep QW.out i1, heap_keep QW.out i2, i3.trans QW.out, Nat.le_trans i4 QW.out.size⟩, fun y hy => ?_⟩
     rcases List.mem_append.1 hy with hy | hy
     ·exact i5 y hy
     ·have e := List.eq_of_mem_singleton hy
      subst e
      exact HWB.out
    | true =>
     by_cases h20 : x.op = 20
     ·rw [h20] at x0
      have QG : Hid (Q (goW w b o (wayP p ((x.imm != 0) != fault))) (goW W1 b o (wayP p ((x.imm != 0) != fault)))) := q_goW (II.out.2.2.1.trans QW.out) HB.out
      have KG : Hid (∀ y, Q (goW W1 b o (wayP p ((x.imm != 0) != fault))) y → KeepsFrom W0.heap.size W y) := fun y q => KB1.out.trans (((KeepsOthers.setCell W1 _ _).trans ((KeepsOthers.setCell _ _ _).trans (KeepsOthers.setCell _ _ _))).from _ |>.trans ⟨q.size, fun k o _ e _ => (q.block k (Array.getElem?_eq_some_iff.1 e).1).trans e⟩)
      have H20 := hideIt h20
      clear h20
      have SG : Hid (∀ t : Int, ((goW W1.drew b o t).cell? ⟨w.heap.size, 0, none⟩ = some (.pointer (some ⟨b, o, none⟩)) ∧ (goW W1.drew b o t).cell? ⟨w.heap.size + 1, 0, none⟩ = some (.bool fault)) ∧ ((goW W1.drew b o t).cell? ⟨Bx, 0, none⟩ = some (.int .u8 x.op) ∧ (goW W1.drew b o t).cell? ⟨Bx, 1, none⟩ = some (.int .u8 x.ty) ∧ (goW W1.drew b o t).cell? ⟨Bx, 2, none⟩ = some (.int .i64 x.dst) ∧ (goW W1.drew b o t).cell? ⟨Bx, 3, none⟩ = some (.int .i64 x.a) ∧ (goW W1.drew b o t).cell? ⟨Bx, 4, none⟩ = some (.int .i64 x.b) ∧ (goW W1.drew b o t).cell? ⟨Bx, 5, none⟩ = some (.int .i64 x.imm) ∧ (goW W1.drew b o t).cell? ⟨Bx, 6, none⟩ = some (.slice x.aa x.args.length x.ac))) := fun t => by
       obtain ⟨cs, hcs⟩ := HB.out
       have hbl := (Array.getElem?_eq_some_iff.1 hcs).1
       obtain ⟨⟨h0, h1⟩, ⟨k0, k1, k2, k3, k4, k5, k6⟩, -⟩ := RF.out W1.drew QW.out.drew
       have n0 : w.heap.size ≠ b := by omega
       have n1 : w.heap.size + 1 ≠ b := by omega
       have n2 : Bx ≠ b := by omega
       exact ⟨⟨goW_cell h0 n0, goW_cell h1 n1⟩, ⟨goW_cell k0 n2, goW_cell k1 n2, goW_cell k2 n2, goW_cell k3 n2, goW_cell k4 n2, goW_cell k5 n2, goW_cell k6 n2⟩⟩
      have SF := hideIt (And.intro (RF.out W1.drew QW.out.drew).1 (RF.out W1.drew QW.out.drew).2.1)
      gi_upto_region 6 with fail
      clear g0 g1 x0 x1 x2 x3 x4 x5 x6 g2
      -- region 6 D
      refine wpIn_region_round (fun y => (y.cell? ⟨w.heap.size, 0, none⟩ = some (.pointer (some ⟨b, o, none⟩)) ∧ y.cell? ⟨w.heap.size + 1, 0, none⟩ = some (.bool fault)) ∧ (y.cell? ⟨Bx, 0, none⟩ = some (.int .u8 x.op) ∧ y.cell? ⟨Bx, 1, none⟩ = some (.int .u8 x.ty) ∧ y.cell? ⟨Bx, 2, none⟩ = some (.int .i64 x.dst) ∧ y.cell? ⟨Bx, 3, none⟩ = some (.int .i64 x.a) ∧ y.cell? ⟨Bx, 4, none⟩ = some (.int .i64 x.b) ∧ y.cell? ⟨Bx, 5, none⟩ = some (.int .i64 x.imm) ∧ y.cell? ⟨Bx, 6, none⟩ = some (.slice x.aa x.args.length x.ac))) (by kernel_rfl) (by kernel_rfl) (SF.out) (fun hHeld => ?_)
      refine wpAnyH_take (i := 0) (oi := ⟨_, _, _, _, _, _⟩) (v := ?_) rfl (by kernel_rfl) (by kernel_rfl) (by kernel_rfl) (fun _ _ _ h => h) (Or.inl ⟨by rfl, ?_⟩) (by assumption) ?_
      rotate_left 1
      ·intro w hSw; (try dsimp only at hSw); go_simp; all_goals with_reducible rfl
      try simp only [Act.put, List.setIfInBounds_toArray, List.set_cons_zero, List.set_cons_succ]
      refine wpAnyH_take (i := 1) (oi := ⟨_, _, _, _, _, _⟩) (v := ?_) rfl (by kernel_rfl) (by kernel_rfl) (by kernel_rfl) (fun _ _ _ h => h) (Or.inl ⟨by rfl, ?_⟩) (by assumption) ?_
      rotate_left 1
      ·intro w hSw; (try dsimp only at hSw); go_simp; all_goals with_reducible rfl
      try simp only [Act.put, List.setIfInBounds_toArray, List.set_cons_zero, List.set_cons_succ]
      refine wpAnyH_take (i := 2) (oi := ⟨_, _, _, _, _, _⟩) (v := ?_) rfl (by kernel_rfl) (by kernel_rfl) (by kernel_rfl) (fun _ _ _ h => h) (Or.inl ⟨by rfl, ?_⟩) (by assumption) ?_
      rotate_left 1
      ·intro w hSw; (try dsimp only at hSw); go_simp; all_goals with_reducible rfl
      try simp only [Act.put, List.setIfInBounds_toArray, List.set_cons_zero, List.set_cons_succ]
      refine wpAnyH_take (i := 3) (oi := ⟨_, _, _, _, _, _⟩) (v := ?_) rfl (by kernel_rfl) (by kernel_rfl) (by kernel_rfl) (fun _ _ _ h => h) (Or.inl ⟨by rfl, ?_⟩) (by assumption) ?_
      rotate_left 1
      ·intro w hSw; (try dsimp only at hSw); go_simp; all_goals with_reducible rfl
      try simp only [Act.put, List.setIfInBounds_toArray, List.set_cons_zero, List.set_cons_succ]
      refine wpAnyH_take (i := 4) (oi := ⟨_, _, _, _, _, _⟩) (v := ?_) rfl (by kernel_rfl) (by kernel_rfl) (by kernel_rfl) (fun _ _ _ h => h) (Or.inl ⟨by rfl, ?_⟩) (by assumption) ?_
      rotate_left 1
      ·intro w hSw; (try dsimp only at hSw); go_simp; all_goals with_reducible rfl
      try simp only [Act.put, List.setIfInBounds_toArray, List.set_cons_zero, List.set_cons_succ]
      refine wpAnyH_take (i := 5) (oi := ⟨_, _, _, _, _, _⟩) (v := ?_) rfl (by kernel_rfl) (by kernel_rfl) (by kernel_rfl) (fun _ _ _ h => h) (Or.inl ⟨by rfl, ?_⟩) (by assumption) ?_
      rotate_left 1
      ·intro w hSw; (try dsimp only at hSw); go_simp; all_goals with_reducible rfl
      try simp only [Act.put, List.setIfInBounds_toArray, List.set_cons_zero, List.set_cons_succ]
      refine wpAnyH_take (i := 6) (oi := ⟨_, _, _, _, _, _⟩) (v := ?_) rfl (by kernel_rfl) (by kernel_rfl) (by kernel_rfl) (fun _ _ _ h => h) (Or.inl ⟨by rfl, ?_⟩) (by assumption) ?_
      rotate_left 1
      ·intro w hSw; (try dsimp only at hSw); go_simp; all_goals with_reducible rfl
      try simp only [Act.put, List.setIfInBounds_toArray, List.set_cons_zero, List.set_cons_succ]
      refine wpAnyH_ready (rs := [7]) (by kernel_rfl) (by simp) (AllReadyH.cons (o := ⟨_, _, _, _, _, _⟩) rfl (fun K hK => ?_) AllReadyH.nil)
      go_simp
      go_at_call 44; refine (HWF.out _ (II.out.2.2.1.trans QW.out).drew _).mono ?_; rintro e y ⟨rfl, rfl⟩
      refine hK.out _ _ ?_ (fun hHeld => ?_)
      ·exact hHeld
      clear hK K
      try simp only [Act.put, List.setIfInBounds_toArray, List.set_cons_zero, List.set_cons_succ]
      refine wpAnyH_ready (rs := [8]) (by kernel_rfl) (by simp) (AllReadyH.cons (o := ⟨_, _, _, _, _, _⟩) rfl (fun K hK => ?_) AllReadyH.nil)
      go_simp
      go_at_call 43; refine (HGF.out _ (II.out.2.2.1.trans QW.out).drew _).mono ?_; rintro e y ⟨rfl, rfl⟩
      refine hK.out _ _ ?_ (fun hHeld => ?_)
      ·exact SG.out _
      clear hK K
      try simp only [Act.put, List.setIfInBounds_toArray, List.set_cons_zero, List.set_cons_succ]
      refine wpAnyH_done (by kernel_rfl) ?_ _
      refine NN.normal ?_
      -- end of region 6 D
      all_goals gi_wp2_with fail
      all_goals (first
       | exact ⟨KG.out _ (Q.refl _), ⟨goW w b o _, ⟨x, .inr ⟨H20.out, rfl⟩⟩, QG.out⟩, rfl, pre, ⟨(k, x), hx⟩, rfl, II.out.2.2.2.2, HWB.out, .inr ⟨H20.out, QG.out⟩⟩
       | exact ⟨KG.out _ (Q.refl _).drew, ⟨goW w b o _, ⟨x, .inr ⟨H20.out, rfl⟩⟩, QG.out.drew⟩, rfl, pre, ⟨(k, x), hx⟩, rfl, II.out.2.2.2.2, HWB.out, .inr ⟨H20.out, QG.out.drew⟩⟩
       | exact ⟨KG.out _ ((Q.refl _).drewN _), ⟨goW w b o _, ⟨x, .inr ⟨H20.out, rfl⟩⟩, QG.out.drewN _⟩, rfl, pre, ⟨(k, x), hx⟩, rfl, II.out.2.2.2.2, HWB.out, .inr ⟨H20.out, QG.out.drewN _⟩⟩
       | (trace_state; fail))
     ·have e20 : (x.op == 20) = false := by simpa using h20
      have H20 := hideIt h20
      clear h20
      gi_wp2_with fail
      have q3 := II.out.2.2.1.trans QW.out
      exact ⟨KB1.out, ⟨w, ⟨x, .inl ⟨H20.out, rfl⟩⟩, q3⟩, rfl, pre, ⟨(k, x), hx⟩, rfl, II.out.2.2.2.2, HWB.out, .inl ⟨H20.out, q3⟩⟩
  case done =>
   rintro D ys W hD rfl ⟨⟨i1, i2, i3, i4⟩, i5⟩ hK
   gi_wp2
   refine ⟨by simp, .inl ⟨_, _, rfl, run_takeDeferred hK, ?_⟩⟩
   have i6 := TI.own (zs := p.ins) (Bd := W0.heap.size) (B := W0.heap.size) (w := w) (b := b) (o := o) (fault := fault) (r := p.cond) (by omega) _ _ _ _ ⟨⟨i1, i2, i3, i4⟩, i5⟩ (grownBy_putObj' W D (.deferred none)) (fun r e => by cases e; exact ⟨hD, _, hK, rfl⟩)
   refine ⟨_, results_none rfl _ _ _, rfl, .inl ⟨?_, i6.1.2.2.1⟩⟩
   rw [E9.out, find_none i5]
  case stop =>
   rintro D c pre W hD ⟨k, hk, hpre⟩ hx hK
   obtain ⟨-, rfl, pre0, x, rfl, h4, h5, h6⟩ := hx
   gi_wp2
   refine ⟨by simp, .inl ⟨_, _, rfl, run_takeDeferred hK, ?_⟩⟩
   have hfh := find_here hk hpre h4 h5
   have hg := grownBy_putObj' W D (.deferred none)
   have hr : ∀ r, some D = some r → W0.heap.size ≤ r ∧ ∃ o : Obj, W.heap[r]? = some o ∧ o.isCells = false := fun r e => by cases e; exact ⟨hD, _, hK, rfl⟩
   refine ⟨_, results_none rfl _ _ _, rfl, ?_⟩
   rw [E9.out, hfh]
   dsimp only
   rcases h6 with ⟨a, h6⟩ | ⟨a, h6⟩
   ·rw [if_neg a]
    exact .inl ⟨rfl, q_own (B := W0.heap.size) (by omega) h6 hg hr⟩
   ·rw [if_pos a]
    exact .inr ⟨_, rfl, q_own (B := W0.heap.size) (by simp; omega) h6 hg hr⟩
end Go.Proofs.Ytphknepblchkdaa.Fl
