/-
  The reader of layer 5 in memory: what it holds, what its calls leave as it was, and how a call ends; facts on worlds; no conditions but those that each fact bears.
  The small functions of the reader of layer 5: contracts over the program; the conditions: the reader lies in memory as it should.
-/
import Derived.Test.YtoilhcklflmamaaGreatDoorKLexC
import Derived.Test.YtoilhcklflmamaaGreatDoorKAvA
import Derived.Test.YtoilhcklflmamaaGreatDoorKRdD
import Derived.BigRegion
import Derived.Deep.RegionHeld3
import Derived.Deep.RegionWith
namespace Go.Proofs.YtoilhcklflmamaaGreatDoor
open Go.RowKit
open Pr
set_option linter.unusedVariables false

/-- Nothing but the block R, and what is new, has changed. -/
abbrev Fr (R : Nat) (w w' : World) : Prop := w.grownBy w' (some R)
theorem Fr.refl (R : Nat) (w : World) : Fr R w w := ⟨rfl, rfl, rfl, Nat.le_refl _, fun _ _ _ => rfl⟩
theorem Fr.trans {R : Nat} {a b c : World} (h : Fr R a b) (k : Fr R b c) : Fr R a c :=
  ⟨k.os.trans h.os, k.tape.trans h.tape, k.output.trans h.output, Nat.le_trans h.size k.size, fun i hi hn => (k.block i (Nat.lt_of_lt_of_le hi h.size) hn).trans (h.block i hi hn)⟩
theorem Fr.of_q {R : Nat} {a b : World} (h : Q a b) : Fr R a b := ⟨h.os, h.tape, h.output, h.size, fun k hk _ => h.block k hk⟩
theorem Fr.q {R : Nat} {a b c : World} (h : Fr R a b) (k : Q b c) : Fr R a c := h.trans (.of_q k)
theorem Fr.alloc {R : Nat} {a b : World} (h : Fr R a b) (o : Obj) : Fr R a (b.alloc o) := h.trans (.of_q ((Q.refl b).alloc o))
theorem Fr.drew {R : Nat} {a b : World} (h : Fr R a b) : Fr R a b.drew := ⟨h.os, h.tape, h.output, h.size, h.block⟩
theorem Fr.setR {R : Nat} {a b : World} (h : Fr R a b) (j : Nat) (u : Value) : Fr R a (b.setCell ⟨R, j, none⟩ u) :=
  ⟨h.os, h.tape, h.output, by simpa using h.size, fun k hk hn => by rw [Below.heap_setCell b _ u k (fun e => hn (by rw [e]))]; exact h.block k hk hn⟩
theorem Fr.setNew {R : Nat} {a b : World} (h : Fr R a b) {p : Addr} (hp : a.heap.size ≤ p.block) (u : Value) : Fr R a (b.setCell p u) :=
  ⟨h.os, h.tape, h.output, by simpa using h.size, fun k hk hn => by rw [Below.heap_setCell b p u k (by omega)]; exact h.block k hk hn⟩
theorem Fr.below {R : Nat} {a b : World} (h : Fr R a b) (hR : R ≤ a.heap.size) : Below R a b := ⟨h.os, h.tape, h.output, h.size, fun k hk => h.block k (by omega) (fun e => by cases e; omega)⟩

/-- The place of the token at hand. -/
abbrev pos (L : List Tok) (s : St) : Nat := L.length - s.t.length
/-- The cells of the list of operations. -/
def opC : List Value := ops.flatMap fun q => [.string (bs q.1), .int .i64 q.2]
structure LaidP (w : World) : Prop where
  a : Laid w
  b : ∃ t fr, w.heap[0]? = some (.cells opC.toArray t fr)
theorem LaidP.far {w w' : World} (h : LaidP w) (hk : ∀ k, k < 4 → w'.heap[k]? = w.heap[k]?) : LaidP w' := by
  obtain ⟨⟨⟨t, fr, h1⟩, ⟨t', fr', h2⟩⟩, ⟨t2, fr2, h3⟩⟩ := h
  exact ⟨⟨⟨t, fr, (hk _ (by decide)).trans h1⟩, ⟨t', fr', (hk _ (by decide)).trans h2⟩⟩, ⟨t2, fr2, (hk _ (by decide)).trans h3⟩⟩
/-- The reader's own block, and its tokens. -/
structure RB (w : World) (R g cap : Nat) (L : List Tok) (k o c : Int) : Prop where
  blk : w.heap[R]? = some (.cells #[.slice (some ⟨g, 0, none⟩) L.length cap, .int .i64 k, .int .i64 o, .int .i64 c] 50 (0, 0))
  tks : Tks w g cap L
  lt : g < R
  laid : LaidP w
  big : 4 ≤ R
structure Sp (L : List Tok) (s : St) : Prop where
  suf : ∃ pre, L = pre ++ s.t
  wf : Wf s
  len : L.length ≤ 70000
  o : -(pos L s : Int) ≤ s.o ∧ s.o ≤ (pos L s : Int)
structure RD (w : World) (R g cap : Nat) (L : List Tok) (s : St) : Prop where
  b : RB w R g cap L (pos L s) s.o s.c
  p : Sp L s

theorem Tks.far {w w' : World} {g cap : Nat} {L : List Tok} (h : Tks w g cap L) (hs : w.heap.size ≤ w'.heap.size) (hb : w'.heap[g]? = w.heap[g]?) : Tks w' g cap L :=
  ⟨Nat.lt_of_lt_of_le h.lt hs, h.le, h.max, fun i q hq j u hu => (World.cell?_of_block hb).trans (h.cells i q hq j u hu)⟩
theorem RB.far {w w' : World} {R g cap : Nat} {L : List Tok} {k o c : Int} (h : RB w R g cap L k o c) (hs : w.heap.size ≤ w'.heap.size) (hk : ∀ k, k ≤ R → w'.heap[k]? = w.heap[k]?) : RB w' R g cap L k o c :=
  ⟨(hk R (Nat.le_refl _)).trans h.blk, h.tks.far hs (hk g (Nat.le_of_lt h.lt)), h.lt, h.laid.far (fun k hk' => hk k (by have := h.big; omega)), h.big⟩
theorem RB.q {w w' : World} {R g cap : Nat} {L : List Tok} {k o c : Int} (h : RB w R g cap L k o c) (q : Q w w') : RB w' R g cap L k o c :=
  h.far q.size (fun i hi => q.block i (Nat.lt_of_le_of_lt hi (lt_of_block h.blk)))
theorem RD.q {w w' : World} {R g cap : Nat} {L : List Tok} {s : St} (h : RD w R g cap L s) (q : Q w w') : RD w' R g cap L s := ⟨h.b.q q, h.p⟩
theorem RD.alloc {w : World} {R g cap : Nat} {L : List Tok} {s : St} (h : RD w R g cap L s) (o : Obj) : RD (w.alloc o) R g cap L s := h.q ((Q.refl w).alloc o)
theorem RD.drew {w : World} {R g cap : Nat} {L : List Tok} {s : St} (h : RD w R g cap L s) : RD w.drew R g cap L s := h.q (Q.refl w).drew
theorem RD.setCell {w : World} {R g cap : Nat} {L : List Tok} {s : St} (h : RD w R g cap L s) {p : Addr} (hp : R < p.block) (u : Value) : RD (w.setCell p u) R g cap L s :=
  ⟨h.b.far (by simp) (fun k hk => Below.heap_setCell w p u k (by omega)), h.p⟩
theorem RB.set {w : World} {R g cap : Nat} {L : List Tok} {k o c : Int} (h : RB w R g cap L k o c) (j : Nat) (u : Value) {k' o' c' : Int}
    (e : (#[.slice (some ⟨g, 0, none⟩) L.length cap, .int .i64 k, .int .i64 o, .int .i64 c] : Array Value).setIfInBounds j u = #[.slice (some ⟨g, 0, none⟩) L.length cap, .int .i64 k', .int .i64 o', .int .i64 c']) : RB (w.setCell ⟨R, j, none⟩ u) R g cap L k' o' c' :=
  ⟨by rw [block_setCell h.blk u, e], h.tks.far (by simp) (Below.heap_setCell w _ u g (by show g ≠ R; have := h.lt; omega)), h.lt, h.laid.far (fun k hk => Below.heap_setCell w _ u k (by show k ≠ R; have := h.big; omega)), h.big⟩
theorem RB.lt_size {w : World} {R g cap : Nat} {L : List Tok} {k o c : Int} (h : RB w R g cap L k o c) : R < w.heap.size := lt_of_block h.blk
theorem RB.four {w : World} {R g cap : Nat} {L : List Tok} {k o c : Int} (h : RB w R g cap L k o c) : w.cell? ⟨R, 0, none⟩ = some (.slice (some ⟨g, 0, none⟩) L.length cap) ∧ w.cell? ⟨R, 1, none⟩ = some (.int .i64 k) ∧ w.cell? ⟨R, 2, none⟩ = some (.int .i64 o) ∧ w.cell? ⟨R, 3, none⟩ = some (.int .i64 c) :=
  ⟨cell_of_block h.blk 0, cell_of_block h.blk 1, cell_of_block h.blk 2, cell_of_block h.blk 3⟩
theorem RB.free {w : World} {R g cap : Nat} {L : List Tok} {k o c : Int} (h : RB w R g cap L k o c) (j : Nat) : w.frozen? ⟨R, j, none⟩ = false := free_of_block h.blk j

theorem Sp.hd {L : List Tok} {s : St} (h : Sp L s) : L[pos L s]? = some (Pr.hd s) := by
  obtain ⟨pre, e⟩ := h.suf
  have hp : pos L s = pre.length := by unfold pos; rw [e]; simp
  rw [hp, e, List.getElem?_append_right (Nat.le_refl _), Nat.sub_self]
  have := h.wf.ne
  unfold Pr.hd
  cases hs : s.t with
  | nil => exact absurd hs this
  | cons q l => rfl
theorem Sp.lt {L : List Tok} {s : St} (h : Sp L s) : pos L s < L.length := by
  have := h.hd
  rcases Nat.lt_or_ge (pos L s) L.length with k | k
  · exact k
  · rw [List.getElem?_eq_none k] at this; cases this
theorem Sp.pos1 {L : List Tok} {s : St} (h : Sp L s) (hn : (Pr.hd s).1.kind ≠ 0 ∨ tx s ≠ []) : pos L (s1 s) = pos L s + 1 := by
  have h1 := (stp_take h.wf hn).len
  obtain ⟨pre, e⟩ := h.suf
  have : L.length = pre.length + s.t.length := by rw [e]; simp
  unfold pos
  omega
theorem Sp.take {L : List Tok} {s : St} (h : Sp L s) (hn : (Pr.hd s).1.kind ≠ 0 ∨ tx s ≠ []) : Sp L (s1 s) := by
  have hs := stp_take h.wf hn
  have hp := h.pos1 hn
  have ho := h.o
  refine ⟨?_, hs.wf, h.len, ?_⟩
  · obtain ⟨pre, e⟩ := h.suf
    cases ht : s.t with
    | nil => exact absurd ht h.wf.ne
    | cons q l => exact ⟨pre ++ [q], by rw [e, ht]; simp [s1, ht]⟩
  · rw [hp]
    have : -1 ≤ dl (tx s) ∧ dl (tx s) ≤ 1 := by unfold dl; split <;> (try split) <;> omega
    have := hs.o
    omega
theorem Sp.node {L : List Tok} {s : St} (h : Sp L s) (hc : ¬ 4000 < s.c + 1) : Sp L ⟨s.t, s.o, s.c + 1⟩ :=
  ⟨h.suf, ⟨h.wf.ends, h.wf.tw, by show s.c + 1 ≤ 4000; omega⟩, h.len, h.o⟩

/-- A token as a value. -/
abbrev tokV (q : Tok) : Value := .agg #[.int .u8 q.1.kind, .string ⟨q.1.text.toArray⟩, .int .i64 q.1.n, .int .u8 q.1.ty, .int .i64 q.2]

/-- What a reader gives up with. -/
def pt (k : Nat) : TypeId := if k = 2 then 46 else if k = 4 then 47 else 48
abbrev Gave (k p : Nat) (e : Ending) : Prop := e = .panicked [{ v := .iface (pt k) (.int .i64 (p : Int)), recovered := false }]

/-- How a call of a reader ends. -/
def PostG {α : Type} (V : α → Value → World → Prop) (R g cap : Nat) (L : List Tok) (w : World) (r : Rs α) (e : Ending) (w' : World) : Prop :=
  Fr R w w' ∧ match r with
  | .ok a s => ∃ v, e = .returned v ∧ V a v w' ∧ RD w' R g cap L s
  | .bad k p => Gave k p e
  | .out => False
abbrev rp (R : Nat) : Value := .pointer (some ⟨R, 0, none⟩)
theorem okc {α : Type} {V : α → Value → World → Prop} {R g cap : Nat} {L : List Tok} {w : World} {r : Rs α} {a : α} {s : St} {K : FuncId} {args : Array Value} (hr : r = .ok a s) (h : Calls Tryz.prog K args w (PostG V R g cap L w r)) :
    Calls Tryz.prog K args w fun e w' => ∃ v, e = .returned v ∧ V a v w' ∧ Fr R w w' ∧ RD w' R g cap L s := by
  subst hr
  exact h.mono fun e w' ⟨hf, v, h1, h2, h3⟩ => ⟨v, h1, h2, hf, h3⟩
theorem badc {α : Type} {V : α → Value → World → Prop} {R g cap : Nat} {L : List Tok} {w : World} {r : Rs α} {k p : Nat} {K : FuncId} {args : Array Value} (hr : r = .bad k p) (h : Calls Tryz.prog K args w (PostG V R g cap L w r)) :
    Calls Tryz.prog K args w fun e w' => e = .panicked [{ v := .iface (pt k) (.int .i64 (p : Int)), recovered := false }] ∧ Fr R w w' := by
  subst hr
  exact h.mono fun e w' ⟨hf, h1⟩ => ⟨h1, hf⟩
/-- A node as a value; what hangs on it lies in blocks from B on. -/
def NV (B : Nat) (x : Nd) (v : Value) (w : World) : Prop := ∃ a c f, v = nodeV x.1 (.slice a (Fo.len f) c) ∧ Cp x.2 f ∧ sok a f.len c ∧ In w a f ∧ Av (fun b => B ≤ b) a f ∧ x.1.ok
abbrev VU : Unit → Value → World → Prop := fun _ v _ => v = .tuple #[]
abbrev VB : Bool → Value → World → Prop := fun b v _ => v = .bool b
abbrev VS : List UInt8 → Value → World → Prop := fun x v _ => v = .string (bs x)
abbrev VI : Int → Value → World → Prop := fun z v _ => v = .int .i64 z
abbrev VT : Nat → Value → World → Prop := fun t v _ => v = .agg #[.int .u8 0, .int .u8 (t : Int), .int .i64 0]
abbrev VK : Lx.Tk → Value → World → Prop := fun t v _ => ∃ p : Nat, v = tokV (t, p)

end Go.Proofs.YtoilhcklflmamaaGreatDoor

namespace Go.Proofs.YtoilhcklflmamaaGreatDoor
open Go.RowKit
open Pr
set_option linter.unusedVariables false

set_option maxRecDepth 100000 in
set_option maxHeartbeats 1000000 in
theorem here_raw (R g cap : Nat) (L : List Tok) (s : St) (w : World) {o c : Int} (h : RB w R g cap L (pos L s) o c) (hp : Sp L s) :
    Calls Tryz.prog 32 #[rp R] w fun e w' => e = .returned (tokV (hd s)) ∧ Q w w' := by
  obtain ⟨r0, r1, r2, r3⟩ := h.four
  obtain ⟨t0, t1, t2, t3, t4⟩ := h.tks.five _ _ hp.hd
  have hlt : ((pos L s : Nat) : Int) < (L.length : Int) := by have := hp.lt; omega
  have hR := h.lt_size
  have hg := h.tks.lt
  clear h hp
  generalize pos L s = k at *
  go_enter Tryz.func32, Tryz.ntmps32
  go_wp2_with (fail)
  go_region
  go_wp2_with (fail)
  refine bodyPost_ret (v := tokV (hd s)) (by simp [results, Tryz.results32, go_sem]) rfl ⟨rfl, ?_⟩
  exact ((Q.refl w).alloc _).drew

theorem here_any (R g cap : Nat) (L : List Tok) (s : St) (w : World) (h : RD w R g cap L s) :
    Calls Tryz.prog 32 #[rp R] w fun e w' => e = .returned (tokV (hd s)) ∧ Q w w' := here_raw R g cap L s w h.b h.p

set_option maxRecDepth 100000 in
set_option maxHeartbeats 1000000 in
theorem opens_any (q : Tok) (w : World) :
    Calls Tryz.prog 108 #[tokV q] w fun e w' => e = .returned (.bool (opensB q.1.text)) ∧ Q w w' := by
  go_enter Tryz.func108, Tryz.ntmps108
  go_wp2_with (fail)
  all_goals go_ret
  all_goals refine ⟨congrArg Ending.returned (congrArg Value.bool ?_), (Q.refl w).alloc _⟩
  all_goals (unfold opensB; simp [*])

set_option maxRecDepth 100000 in
set_option maxHeartbeats 1000000 in
theorem closes_any (q : Tok) (w : World) :
    Calls Tryz.prog 109 #[tokV q] w fun e w' => e = .returned (.bool (closesB q.1.text)) ∧ Q w w' := by
  go_enter Tryz.func109, Tryz.ntmps109
  go_wp2_with (fail)
  all_goals go_ret
  all_goals refine ⟨congrArg Ending.returned (congrArg Value.bool ?_), (Q.refl w).alloc _⟩
  all_goals (unfold closesB; simp [*])

theorem fld0 (q : Tok) (w : World) : (Instr.field 58 (tokV q) 0).run Tryz.prog w = .ok (.int .u8 q.1.kind) w := by kernel_rfl
theorem fld1 (q : Tok) (w : World) : (Instr.field 58 (tokV q) 1).run Tryz.prog w = .ok (.string ⟨q.1.text.toArray⟩) w := by kernel_rfl
theorem fld4 (q : Tok) (w : World) : (Instr.field 58 (tokV q) 4).run Tryz.prog w = .ok (.int .i64 q.2) w := by kernel_rfl

set_option maxRecDepth 100000 in
set_option maxHeartbeats 1000000 in
theorem is_any (R g cap : Nat) (L : List Tok) (s : St) (w : World) (h : RD w R g cap L s) (x : List UInt8) :
    Calls Tryz.prog 66 #[rp R, .string (bs x)] w fun e w' => e = .returned (.bool (decide (tx s = x))) ∧ Q w w' := by
  have HH := hideIt (here_any R g cap L s w h)
  clear h
  obtain ⟨q, hq⟩ : ∃ q, hd s = q := ⟨_, rfl⟩
  unfold tx
  rw [hq] at HH ⊢
  clear hq
  have F1 := fld1
  by_cases hx : q.1.text = x
  · subst hx
    go_enter Tryz.func66, Tryz.ntmps66
    go_wp2_with (first | (go_at_call 32; refine HH.out.mono ?_; rintro e x1 ⟨rfl, q1⟩) | fail)
    go_ret
    exact ⟨by simp, q1⟩
  · go_enter Tryz.func66, Tryz.ntmps66
    go_wp2_with (first | (go_at_call 32; refine HH.out.mono ?_; rintro e x1 ⟨rfl, q1⟩) | fail)
    go_ret
    exact ⟨by simp [hx], q1⟩

set_option maxRecDepth 100000 in
set_option maxHeartbeats 1000000 in
theorem take_any (R g cap : Nat) (L : List Tok) (s : St) (w : World) (h : RD w R g cap L s) (hn : (hd s).1.kind ≠ 0 ∨ tx s ≠ []) :
    Calls Tryz.prog 89 #[rp R] w (PostG VU R g cap L w (takeM s)) := by
  have HD := hideIt h
  have SP := hideIt (h.p.take hn)
  have PS := hideIt (h.p.pos1 hn)
  have hb : -70000 ≤ s.o ∧ s.o ≤ 70000 := by have := h.p.o; have := h.p.lt; have := h.p.len; omega
  have hk : (pos L s : Int) < 70000 := by have := h.p.lt; have := h.p.len; omega
  have EO := hideIt (o1_dl s)
  have ED : Hid (dl (tx s) = if opensB (hd s).1.text then 1 else if closesB (hd s).1.text then -1 else 0) := rfl
  have ET : Hid (takeM s = if opensB (hd (s1 s)).1.text && (s1 s).o == 40 then .bad 4 (hd (s1 s)).2 else .ok () (s1 s)) := rfl
  have ES : Hid ((s1 s).o = o1 s ∧ (s1 s).c = s.c) := ⟨rfl, rfl⟩
  obtain ⟨S, hS⟩ : ∃ S, s1 s = S := ⟨_, rfl⟩
  rw [hS] at SP PS ET ES
  obtain ⟨q0, h0⟩ : ∃ q, hd s = q := ⟨_, rfl⟩
  obtain ⟨q, h1⟩ : ∃ q, hd S = q := ⟨_, rfl⟩
  have HH0 : Hid (∀ X, RD X R g cap L s → Calls Tryz.prog 32 #[rp R] X fun e w' => e = .returned (tokV q0) ∧ Q X w') := fun X h => h0 ▸ here_any R g cap L s X h
  have HH1 : Hid (∀ X, RD X R g cap L S → Calls Tryz.prog 32 #[rp R] X fun e w' => e = .returned (tokV q) ∧ Q X w') := fun X h => h1 ▸ here_any R g cap L S X h
  have HO0 : Hid (∀ X, Calls Tryz.prog 108 #[tokV q0] X fun e w' => e = .returned (.bool (opensB q0.1.text)) ∧ Q X w') := fun X => opens_any q0 X
  have HO1 : Hid (∀ X, Calls Tryz.prog 108 #[tokV q] X fun e w' => e = .returned (.bool (opensB q.1.text)) ∧ Q X w') := fun X => opens_any q X
  have HC : Hid (∀ X, Calls Tryz.prog 109 #[tokV q0] X fun e w' => e = .returned (.bool (closesB q0.1.text)) ∧ Q X w') := fun X => closes_any q0 X
  have FL := fld4
  rw [h0] at ED
  rw [h1] at ET
  rw [ED.out] at EO
  clear h hn hS h0 h1 ED
  cases h1 : opensB q0.1.text with
  | true =>
    have e2 : S.o = s.o + 1 := by rw [ES.out.1, EO.out]; simp [h1]
    have e1 : ((pos L S : Nat) : Int) = (pos L s : Int) + 1 := by rw [PS.out]; rfl
    have NX : Hid (∀ X, RD X R g cap L s → RD ((X.setCell ⟨R, 2, none⟩ (.int .i64 (s.o + 1))).setCell ⟨R, 1, none⟩ (.int .i64 ((pos L s : Int) + 1))) R g cap L S) := fun X h => ⟨by rw [e1, e2, ES.out.2]; exact (h.b.set 2 _ rfl).set 1 _ rfl, SP.out⟩
    have NF : Hid (∀ X, Fr R w X → Fr R w ((X.setCell ⟨R, 2, none⟩ (.int .i64 (s.o + 1))).setCell ⟨R, 1, none⟩ (.int .i64 ((pos L s : Int) + 1)))) := fun X h => (h.setR 2 _).setR 1 _
    clear e1 e2 EO ES SP PS
    cases h3 : opensB q.1.text with
    | false =>
      rw [h3, Bool.false_and] at ET
      go_enter Tryz.func89, Tryz.ntmps89
      go_wp2_with (first | (go_at_call 32; refine (HH0.out _ HD.out).mono ?_; rintro e x1 ⟨rfl, q1⟩; have D1 := hideIt (HD.out.q q1); have F1 := hideIt (Fr.of_q (R := R) q1); clear q1 HD) | (go_at_call_of 108 (tokV q0); refine (HO0.out _).mono ?_; rw [h1]; rintro e x2 ⟨rfl, q2⟩; have D4 := hideIt (D1.out.q q2); have F4 := hideIt (F1.out.q q2); clear q2 D1 F1; obtain ⟨r0, r1, r2, r3⟩ := D4.out.b.four; have f1 := D4.out.b.free 1; have f2 := D4.out.b.free 2; have hRs := D4.out.b.lt_size) | (go_at_call 32; refine (HH1.out _ (NX.out _ D4.out)).mono ?_; rintro e x5 ⟨rfl, q1⟩; have D5 := hideIt ((NX.out _ D4.out).q q1); have F5 := hideIt ((NF.out _ F4.out).q q1); clear q1 D4 F4 r0 r1 r2 r3 f1 f2 hRs) | (go_at_call_of 108 (tokV q); refine (HO1.out _).mono ?_; rw [h3]; rintro e x6 ⟨rfl, q2⟩; have D6 := hideIt (D5.out.q q2); have F6 := hideIt (F5.out.q q2); clear q2 D5 F5; obtain ⟨r0, r1, r2, r3⟩ := D6.out.b.four) | fail)
      first | go_end0 | refine bodyPost_ret (results_none rfl _ _ _) rfl ?_
      refine ⟨F6.out, ?_⟩
      rw [ET.out]
      exact ⟨_, rfl, rfl, D6.out⟩
    | true =>
      by_cases h4 : S.o = 40
      · rw [h3, h4] at ET
        go_enter Tryz.func89, Tryz.ntmps89
        go_wp2_with (first | (go_at_call 32; refine (HH0.out _ HD.out).mono ?_; rintro e x1 ⟨rfl, q1⟩; have D1 := hideIt (HD.out.q q1); have F1 := hideIt (Fr.of_q (R := R) q1); clear q1 HD) | (go_at_call_of 108 (tokV q0); refine (HO0.out _).mono ?_; rw [h1]; rintro e x2 ⟨rfl, q2⟩; have D4 := hideIt (D1.out.q q2); have F4 := hideIt (F1.out.q q2); clear q2 D1 F1; obtain ⟨r0, r1, r2, r3⟩ := D4.out.b.four; have f1 := D4.out.b.free 1; have f2 := D4.out.b.free 2; have hRs := D4.out.b.lt_size) | (go_at_call 32; refine (HH1.out _ (NX.out _ D4.out)).mono ?_; rintro e x5 ⟨rfl, q1⟩; have D5 := hideIt ((NX.out _ D4.out).q q1); have F5 := hideIt ((NF.out _ F4.out).q q1); clear q1 D4 F4 r0 r1 r2 r3 f1 f2 hRs) | (go_at_call_of 108 (tokV q); refine (HO1.out _).mono ?_; rw [h3]; rintro e x6 ⟨rfl, q2⟩; have D6 := hideIt (D5.out.q q2); have F6 := hideIt (F5.out.q q2); clear q2 D5 F5; obtain ⟨r0, r1, r2, r3⟩ := D6.out.b.four) | (go_at_call 32; refine (HH1.out _ D6.out).mono ?_; rintro e x7 ⟨rfl, q1⟩; have F7 := hideIt (F6.out.q q1); clear q1) | fail)
        refine ⟨rfl, F7.out, ?_⟩
        rw [ET.out]
        exact rfl
      · have h4' : (S.o == 40) = false := by simpa using h4
        rw [h3, h4', Bool.and_false] at ET
        go_enter Tryz.func89, Tryz.ntmps89
        go_wp2_with (first | (go_at_call 32; refine (HH0.out _ HD.out).mono ?_; rintro e x1 ⟨rfl, q1⟩; have D1 := hideIt (HD.out.q q1); have F1 := hideIt (Fr.of_q (R := R) q1); clear q1 HD) | (go_at_call_of 108 (tokV q0); refine (HO0.out _).mono ?_; rw [h1]; rintro e x2 ⟨rfl, q2⟩; have D4 := hideIt (D1.out.q q2); have F4 := hideIt (F1.out.q q2); clear q2 D1 F1; obtain ⟨r0, r1, r2, r3⟩ := D4.out.b.four; have f1 := D4.out.b.free 1; have f2 := D4.out.b.free 2; have hRs := D4.out.b.lt_size) | (go_at_call 32; refine (HH1.out _ (NX.out _ D4.out)).mono ?_; rintro e x5 ⟨rfl, q1⟩; have D5 := hideIt ((NX.out _ D4.out).q q1); have F5 := hideIt ((NF.out _ F4.out).q q1); clear q1 D4 F4 r0 r1 r2 r3 f1 f2 hRs) | (go_at_call_of 108 (tokV q); refine (HO1.out _).mono ?_; rw [h3]; rintro e x6 ⟨rfl, q2⟩; have D6 := hideIt (D5.out.q q2); have F6 := hideIt (F5.out.q q2); clear q2 D5 F5; obtain ⟨r0, r1, r2, r3⟩ := D6.out.b.four) | fail)
        first | go_end0 | refine bodyPost_ret (results_none rfl _ _ _) rfl ?_
        refine ⟨F6.out, ?_⟩
        rw [ET.out]
        exact ⟨_, rfl, rfl, D6.out⟩
  | false =>
    cases h2 : closesB q0.1.text with
    | true =>
      have e2 : S.o = s.o - 1 := by rw [ES.out.1, EO.out]; simp [h1, h2]; omega
      have e1 : ((pos L S : Nat) : Int) = (pos L s : Int) + 1 := by rw [PS.out]; rfl
      have NX : Hid (∀ X, RD X R g cap L s → RD ((X.setCell ⟨R, 2, none⟩ (.int .i64 (s.o - 1))).setCell ⟨R, 1, none⟩ (.int .i64 ((pos L s : Int) + 1))) R g cap L S) := fun X h => ⟨by rw [e1, e2, ES.out.2]; exact (h.b.set 2 _ rfl).set 1 _ rfl, SP.out⟩
      have NF : Hid (∀ X, Fr R w X → Fr R w ((X.setCell ⟨R, 2, none⟩ (.int .i64 (s.o - 1))).setCell ⟨R, 1, none⟩ (.int .i64 ((pos L s : Int) + 1)))) := fun X h => (h.setR 2 _).setR 1 _
      clear e1 e2 EO ES SP PS
      cases h3 : opensB q.1.text with
      | false =>
        rw [h3, Bool.false_and] at ET
        go_enter Tryz.func89, Tryz.ntmps89
        go_wp2_with (first | (go_at_call 32; refine (HH0.out _ HD.out).mono ?_; rintro e x1 ⟨rfl, q1⟩; have D1 := hideIt (HD.out.q q1); have F1 := hideIt (Fr.of_q (R := R) q1); clear q1 HD) | (go_at_call_of 108 (tokV q0); refine (HO0.out _).mono ?_; rw [h1]; rintro e x2 ⟨rfl, q2⟩; have D2 := hideIt (D1.out.q q2); have F2 := hideIt (F1.out.q q2); clear q2 D1 F1) | (go_at_call 32; refine (HH0.out _ D2.out).mono ?_; rintro e x3 ⟨rfl, q1⟩; have D3 := hideIt (D2.out.q q1); have F3 := hideIt (F2.out.q q1); clear q1 D2 F2) | (go_at_call 109; refine (HC.out _).mono ?_; rw [h2]; rintro e x4 ⟨rfl, q2⟩; have D4 := hideIt (D3.out.q q2); have F4 := hideIt (F3.out.q q2); clear q2 D3 F3; obtain ⟨r0, r1, r2, r3⟩ := D4.out.b.four; have f1 := D4.out.b.free 1; have f2 := D4.out.b.free 2; have hRs := D4.out.b.lt_size) | (go_at_call 32; refine (HH1.out _ (NX.out _ D4.out)).mono ?_; rintro e x5 ⟨rfl, q1⟩; have D5 := hideIt ((NX.out _ D4.out).q q1); have F5 := hideIt ((NF.out _ F4.out).q q1); clear q1 D4 F4 r0 r1 r2 r3 f1 f2 hRs) | (go_at_call_of 108 (tokV q); refine (HO1.out _).mono ?_; rw [h3]; rintro e x6 ⟨rfl, q2⟩; have D6 := hideIt (D5.out.q q2); have F6 := hideIt (F5.out.q q2); clear q2 D5 F5; obtain ⟨r0, r1, r2, r3⟩ := D6.out.b.four) | fail)
        first | go_end0 | refine bodyPost_ret (results_none rfl _ _ _) rfl ?_
        refine ⟨F6.out, ?_⟩
        rw [ET.out]
        exact ⟨_, rfl, rfl, D6.out⟩
      | true =>
        by_cases h4 : S.o = 40
        · rw [h3, h4] at ET
          go_enter Tryz.func89, Tryz.ntmps89
          go_wp2_with (first | (go_at_call 32; refine (HH0.out _ HD.out).mono ?_; rintro e x1 ⟨rfl, q1⟩; have D1 := hideIt (HD.out.q q1); have F1 := hideIt (Fr.of_q (R := R) q1); clear q1 HD) | (go_at_call_of 108 (tokV q0); refine (HO0.out _).mono ?_; rw [h1]; rintro e x2 ⟨rfl, q2⟩; have D2 := hideIt (D1.out.q q2); have F2 := hideIt (F1.out.q q2); clear q2 D1 F1) | (go_at_call 32; refine (HH0.out _ D2.out).mono ?_; rintro e x3 ⟨rfl, q1⟩; have D3 := hideIt (D2.out.q q1); have F3 := hideIt (F2.out.q q1); clear q1 D2 F2) | (go_at_call 109; refine (HC.out _).mono ?_; rw [h2]; rintro e x4 ⟨rfl, q2⟩; have D4 := hideIt (D3.out.q q2); have F4 := hideIt (F3.out.q q2); clear q2 D3 F3; obtain ⟨r0, r1, r2, r3⟩ := D4.out.b.four; have f1 := D4.out.b.free 1; have f2 := D4.out.b.free 2; have hRs := D4.out.b.lt_size) | (go_at_call 32; refine (HH1.out _ (NX.out _ D4.out)).mono ?_; rintro e x5 ⟨rfl, q1⟩; have D5 := hideIt ((NX.out _ D4.out).q q1); have F5 := hideIt ((NF.out _ F4.out).q q1); clear q1 D4 F4 r0 r1 r2 r3 f1 f2 hRs) | (go_at_call_of 108 (tokV q); refine (HO1.out _).mono ?_; rw [h3]; rintro e x6 ⟨rfl, q2⟩; have D6 := hideIt (D5.out.q q2); have F6 := hideIt (F5.out.q q2); clear q2 D5 F5; obtain ⟨r0, r1, r2, r3⟩ := D6.out.b.four) | (go_at_call 32; refine (HH1.out _ D6.out).mono ?_; rintro e x7 ⟨rfl, q1⟩; have F7 := hideIt (F6.out.q q1); clear q1) | fail)
          refine ⟨rfl, F7.out, ?_⟩
          rw [ET.out]
          exact rfl
        · have h4' : (S.o == 40) = false := by simpa using h4
          rw [h3, h4', Bool.and_false] at ET
          go_enter Tryz.func89, Tryz.ntmps89
          go_wp2_with (first | (go_at_call 32; refine (HH0.out _ HD.out).mono ?_; rintro e x1 ⟨rfl, q1⟩; have D1 := hideIt (HD.out.q q1); have F1 := hideIt (Fr.of_q (R := R) q1); clear q1 HD) | (go_at_call_of 108 (tokV q0); refine (HO0.out _).mono ?_; rw [h1]; rintro e x2 ⟨rfl, q2⟩; have D2 := hideIt (D1.out.q q2); have F2 := hideIt (F1.out.q q2); clear q2 D1 F1) | (go_at_call 32; refine (HH0.out _ D2.out).mono ?_; rintro e x3 ⟨rfl, q1⟩; have D3 := hideIt (D2.out.q q1); have F3 := hideIt (F2.out.q q1); clear q1 D2 F2) | (go_at_call 109; refine (HC.out _).mono ?_; rw [h2]; rintro e x4 ⟨rfl, q2⟩; have D4 := hideIt (D3.out.q q2); have F4 := hideIt (F3.out.q q2); clear q2 D3 F3; obtain ⟨r0, r1, r2, r3⟩ := D4.out.b.four; have f1 := D4.out.b.free 1; have f2 := D4.out.b.free 2; have hRs := D4.out.b.lt_size) | (go_at_call 32; refine (HH1.out _ (NX.out _ D4.out)).mono ?_; rintro e x5 ⟨rfl, q1⟩; have D5 := hideIt ((NX.out _ D4.out).q q1); have F5 := hideIt ((NF.out _ F4.out).q q1); clear q1 D4 F4 r0 r1 r2 r3 f1 f2 hRs) | (go_at_call_of 108 (tokV q); refine (HO1.out _).mono ?_; rw [h3]; rintro e x6 ⟨rfl, q2⟩; have D6 := hideIt (D5.out.q q2); have F6 := hideIt (F5.out.q q2); clear q2 D5 F5; obtain ⟨r0, r1, r2, r3⟩ := D6.out.b.four) | fail)
          first | go_end0 | refine bodyPost_ret (results_none rfl _ _ _) rfl ?_
          refine ⟨F6.out, ?_⟩
          rw [ET.out]
          exact ⟨_, rfl, rfl, D6.out⟩
    | false =>
      have e2 : S.o = s.o := by rw [ES.out.1, EO.out]; simp [h1, h2]
      have e1 : ((pos L S : Nat) : Int) = (pos L s : Int) + 1 := by rw [PS.out]; rfl
      have NX : Hid (∀ X, RD X R g cap L s → RD (X.setCell ⟨R, 1, none⟩ (.int .i64 ((pos L s : Int) + 1))) R g cap L S) := fun X h => ⟨by rw [e1, e2, ES.out.2]; exact h.b.set 1 _ rfl, SP.out⟩
      have NF : Hid (∀ X, Fr R w X → Fr R w (X.setCell ⟨R, 1, none⟩ (.int .i64 ((pos L s : Int) + 1)))) := fun X h => h.setR 1 _
      clear e1 e2 EO ES SP PS
      cases h3 : opensB q.1.text with
      | false =>
        rw [h3, Bool.false_and] at ET
        go_enter Tryz.func89, Tryz.ntmps89
        go_wp2_with (first | (go_at_call 32; refine (HH0.out _ HD.out).mono ?_; rintro e x1 ⟨rfl, q1⟩; have D1 := hideIt (HD.out.q q1); have F1 := hideIt (Fr.of_q (R := R) q1); clear q1 HD) | (go_at_call_of 108 (tokV q0); refine (HO0.out _).mono ?_; rw [h1]; rintro e x2 ⟨rfl, q2⟩; have D2 := hideIt (D1.out.q q2); have F2 := hideIt (F1.out.q q2); clear q2 D1 F1) | (go_at_call 32; refine (HH0.out _ D2.out).mono ?_; rintro e x3 ⟨rfl, q1⟩; have D3 := hideIt (D2.out.q q1); have F3 := hideIt (F2.out.q q1); clear q1 D2 F2) | (go_at_call 109; refine (HC.out _).mono ?_; rw [h2]; rintro e x4 ⟨rfl, q2⟩; have D4 := hideIt (D3.out.q q2); have F4 := hideIt (F3.out.q q2); clear q2 D3 F3; obtain ⟨r0, r1, r2, r3⟩ := D4.out.b.four; have f1 := D4.out.b.free 1; have f2 := D4.out.b.free 2; have hRs := D4.out.b.lt_size) | (go_at_call 32; refine (HH1.out _ (NX.out _ D4.out)).mono ?_; rintro e x5 ⟨rfl, q1⟩; have D5 := hideIt ((NX.out _ D4.out).q q1); have F5 := hideIt ((NF.out _ F4.out).q q1); clear q1 D4 F4 r0 r1 r2 r3 f1 f2 hRs) | (go_at_call_of 108 (tokV q); refine (HO1.out _).mono ?_; rw [h3]; rintro e x6 ⟨rfl, q2⟩; have D6 := hideIt (D5.out.q q2); have F6 := hideIt (F5.out.q q2); clear q2 D5 F5; obtain ⟨r0, r1, r2, r3⟩ := D6.out.b.four) | fail)
        first | go_end0 | refine bodyPost_ret (results_none rfl _ _ _) rfl ?_
        refine ⟨F6.out, ?_⟩
        rw [ET.out]
        exact ⟨_, rfl, rfl, D6.out⟩
      | true =>
        by_cases h4 : S.o = 40
        · rw [h3, h4] at ET
          go_enter Tryz.func89, Tryz.ntmps89
          go_wp2_with (first | (go_at_call 32; refine (HH0.out _ HD.out).mono ?_; rintro e x1 ⟨rfl, q1⟩; have D1 := hideIt (HD.out.q q1); have F1 := hideIt (Fr.of_q (R := R) q1); clear q1 HD) | (go_at_call_of 108 (tokV q0); refine (HO0.out _).mono ?_; rw [h1]; rintro e x2 ⟨rfl, q2⟩; have D2 := hideIt (D1.out.q q2); have F2 := hideIt (F1.out.q q2); clear q2 D1 F1) | (go_at_call 32; refine (HH0.out _ D2.out).mono ?_; rintro e x3 ⟨rfl, q1⟩; have D3 := hideIt (D2.out.q q1); have F3 := hideIt (F2.out.q q1); clear q1 D2 F2) | (go_at_call 109; refine (HC.out _).mono ?_; rw [h2]; rintro e x4 ⟨rfl, q2⟩; have D4 := hideIt (D3.out.q q2); have F4 := hideIt (F3.out.q q2); clear q2 D3 F3; obtain ⟨r0, r1, r2, r3⟩ := D4.out.b.four; have f1 := D4.out.b.free 1; have f2 := D4.out.b.free 2; have hRs := D4.out.b.lt_size) | (go_at_call 32; refine (HH1.out _ (NX.out _ D4.out)).mono ?_; rintro e x5 ⟨rfl, q1⟩; have D5 := hideIt ((NX.out _ D4.out).q q1); have F5 := hideIt ((NF.out _ F4.out).q q1); clear q1 D4 F4 r0 r1 r2 r3 f1 f2 hRs) | (go_at_call_of 108 (tokV q); refine (HO1.out _).mono ?_; rw [h3]; rintro e x6 ⟨rfl, q2⟩; have D6 := hideIt (D5.out.q q2); have F6 := hideIt (F5.out.q q2); clear q2 D5 F5; obtain ⟨r0, r1, r2, r3⟩ := D6.out.b.four) | (go_at_call 32; refine (HH1.out _ D6.out).mono ?_; rintro e x7 ⟨rfl, q1⟩; have F7 := hideIt (F6.out.q q1); clear q1) | fail)
          refine ⟨rfl, F7.out, ?_⟩
          rw [ET.out]
          exact rfl
        · have h4' : (S.o == 40) = false := by simpa using h4
          rw [h3, h4', Bool.and_false] at ET
          go_enter Tryz.func89, Tryz.ntmps89
          go_wp2_with (first | (go_at_call 32; refine (HH0.out _ HD.out).mono ?_; rintro e x1 ⟨rfl, q1⟩; have D1 := hideIt (HD.out.q q1); have F1 := hideIt (Fr.of_q (R := R) q1); clear q1 HD) | (go_at_call_of 108 (tokV q0); refine (HO0.out _).mono ?_; rw [h1]; rintro e x2 ⟨rfl, q2⟩; have D2 := hideIt (D1.out.q q2); have F2 := hideIt (F1.out.q q2); clear q2 D1 F1) | (go_at_call 32; refine (HH0.out _ D2.out).mono ?_; rintro e x3 ⟨rfl, q1⟩; have D3 := hideIt (D2.out.q q1); have F3 := hideIt (F2.out.q q1); clear q1 D2 F2) | (go_at_call 109; refine (HC.out _).mono ?_; rw [h2]; rintro e x4 ⟨rfl, q2⟩; have D4 := hideIt (D3.out.q q2); have F4 := hideIt (F3.out.q q2); clear q2 D3 F3; obtain ⟨r0, r1, r2, r3⟩ := D4.out.b.four; have f1 := D4.out.b.free 1; have f2 := D4.out.b.free 2; have hRs := D4.out.b.lt_size) | (go_at_call 32; refine (HH1.out _ (NX.out _ D4.out)).mono ?_; rintro e x5 ⟨rfl, q1⟩; have D5 := hideIt ((NX.out _ D4.out).q q1); have F5 := hideIt ((NF.out _ F4.out).q q1); clear q1 D4 F4 r0 r1 r2 r3 f1 f2 hRs) | (go_at_call_of 108 (tokV q); refine (HO1.out _).mono ?_; rw [h3]; rintro e x6 ⟨rfl, q2⟩; have D6 := hideIt (D5.out.q q2); have F6 := hideIt (F5.out.q q2); clear q2 D5 F5; obtain ⟨r0, r1, r2, r3⟩ := D6.out.b.four) | fail)
          first | go_end0 | refine bodyPost_ret (results_none rfl _ _ _) rfl ?_
          refine ⟨F6.out, ?_⟩
          rw [ET.out]
          exact ⟨_, rfl, rfl, D6.out⟩

end Go.Proofs.YtoilhcklflmamaaGreatDoor
