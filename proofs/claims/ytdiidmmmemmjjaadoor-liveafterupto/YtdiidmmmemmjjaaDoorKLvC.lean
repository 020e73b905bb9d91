/-
  The lists of a walk through a function's parts, in memory: each in a block of its own, its header in one of the walk's; an element more, or another last one: facts on worlds; no conditions but those that each fact bears.
  The last word of a list (last of live): a contract over the program; the conditions: the words lie in memory.
  A word is laid behind the others, or into the last one (push of live): a contract over the program; the conditions: the lists lie in memory.
-/
import Derived.Test.YtdiidmmmemmjjaaDoorKIrP
import Derived.Deep.AppendLies
import Derived.BigQuiet
import Derived.BigRegion
namespace Go.Proofs.YtdiidmmmemmjjaaDoor.Lv
open Go.RowKit
set_option linter.unusedVariables false

/-- The lists: of each part those ahead of it; of each word of registers who reads and who writes them; what is live at each part's beginning and behind its end; the work. -/
inductive Nm where
  | fr (k : Nat)
  | rd (a : Nat)
  | wt (a : Nat)
  | inn (k : Nat)
  | out (k : Nat)
  | work
/-- Are they words, or numbers? -/
def Nm.wd : Nm → Bool
  | .fr _ => false
  | .work => false
  | _ => true
def szN (m : Nm) : Nat := if m.wd then 2 else 1
def tyN (m : Nm) : TypeId := if m.wd then 80 else 3
def cellN (m : Nm) (e : Int × Int) : List Value := if m.wd then [.int .i64 e.1, .int .u64 e.2] else [.int .i64 e.1]
def rowN (m : Nm) (l : List (Int × Int)) : List Value := l.flatMap (cellN m)
theorem cellN_len (m : Nm) (e : Int × Int) : (cellN m e).length = szN m := by unfold cellN szN; split <;> rfl
theorem rowN_len (m : Nm) (l : List (Int × Int)) : (rowN m l).length = l.length * szN m := by
  induction l with
  | nil => simp [rowN]
  | cons e l ih => simp only [rowN, List.flatMap_cons, List.length_append, cellN_len, List.length_cons, Nat.add_mul, Nat.one_mul] at ih ⊢; omega
theorem rowN_app (m : Nm) (l : List (Int × Int)) (e : Int × Int) : rowN m (l ++ [e]) = rowN m l ++ cellN m e := by simp [rowN]

/-- The walk's blocks: of the lists of lists, of what is written, of the walk itself. -/
structure Bl where
  F : Nat
  Rd : Nat
  Wt : Nat
  In : Nat
  Ou : Nat
  Wo : Nat
  Wk : Nat
def Bl.isB (B : Bl) (b : Nat) : Prop := b = B.F ∨ b = B.Rd ∨ b = B.Wt ∨ b = B.In ∨ b = B.Ou ∨ b = B.Wo ∨ b = B.Wk
structure Bl.ok (B : Bl) : Prop where
  f : B.F ≠ B.Rd ∧ B.F ≠ B.Wt ∧ B.F ≠ B.In ∧ B.F ≠ B.Ou ∧ B.F ≠ B.Wo ∧ B.F ≠ B.Wk
  r : B.Rd ≠ B.Wt ∧ B.Rd ≠ B.In ∧ B.Rd ≠ B.Ou ∧ B.Rd ≠ B.Wo ∧ B.Rd ≠ B.Wk
  t : B.Wt ≠ B.In ∧ B.Wt ≠ B.Ou ∧ B.Wt ≠ B.Wo ∧ B.Wt ≠ B.Wk
  i : B.In ≠ B.Ou ∧ B.In ≠ B.Wo ∧ B.In ≠ B.Wk
  o : B.Ou ≠ B.Wo ∧ B.Ou ≠ B.Wk
  w : B.Wo ≠ B.Wk
def hb (B : Bl) : Nm → Nat
  | .fr _ => B.F
  | .rd _ => B.Rd
  | .wt _ => B.Wt
  | .inn _ => B.In
  | .out _ => B.Ou
  | .work => B.Wk
def ho : Nm → Nat
  | .fr k => k
  | .rd a => a
  | .wt a => a
  | .inn k => k
  | .out k => k
  | .work => 6
abbrev hd (B : Bl) (m : Nm) : Addr := ⟨hb B m, ho m, none⟩
theorem hb_is (B : Bl) (m : Nm) : B.isB (hb B m) := by cases m <;> simp [Bl.isB, hb]
theorem hd_inj {B : Bl} (h : B.ok) {m m' : Nm} (e : hd B m = hd B m') : m = m' := by
  obtain ⟨⟨f1, f2, f3, f4, f5, f6⟩, ⟨r1, r2, r3, r4, r5⟩, ⟨t1, t2, t3, t4⟩, ⟨i1, i2, i3⟩, ⟨o1, o2⟩, w1⟩ := h
  injection e with e1 e2
  cases m <;> cases m' <;> simp [hb, ho] at e1 e2 <;> first | (subst e2; rfl) | rfl | (exfalso; first | exact f1 e1 | exact f2 e1 | exact f3 e1 | exact f4 e1 | exact f6 e1 | exact r1 e1 | exact r2 e1 | exact r3 e1 | exact r5 e1 | exact t1 e1 | exact t2 e1 | exact t4 e1 | exact i1 e1 | exact i3 e1 | exact o2 e1 | exact f1 e1.symm | exact f2 e1.symm | exact f3 e1.symm | exact f4 e1.symm | exact f6 e1.symm | exact r1 e1.symm | exact r2 e1.symm | exact r3 e1.symm | exact r5 e1.symm | exact t1 e1.symm | exact t2 e1.symm | exact t4 e1.symm | exact i1 e1.symm | exact i3 e1.symm | exact o2 e1.symm)
/-- Which lists there are. -/
def okN (many words : Nat) : Nm → Prop
  | .fr k => k < many
  | .rd a => a < words
  | .wt a => a < words
  | .inn k => k < many
  | .out k => k < many
  | .work => True

abbrev Es := Nm → List (Int × Int)
abbrev Vs := Nm → Value
/-- All lists lie in memory. -/
structure FM (w : World) (base : Nat) (B : Bl) (many words : Nat) (v : Vs) (es : Es) : Prop where
  ok : B.ok
  head : ∀ m, okN many words m → w.cell? (hd B m) = some (v m) ∧ w.frozen? (hd B m) = false
  row : ∀ m, okN many words m → w.ownsRow base (tyN m) (szN m) (v m) (es m).length (rowN m (es m))
  inj : ∀ m m', okN many words m → okN many words m' → m ≠ m' → ∀ b, (v m).ownBlock = some b → (v m').ownBlock ≠ some b
  far : ∀ m, okN many words m → ∀ b, (v m).ownBlock = some b → ¬ B.isB b
  lt : ∀ b, B.isB b → b < w.heap.size

theorem set_cell_ne' {W : World} {p q : Addr} {u v : Value} (h : W.cell? q = some v) (hne : q ≠ p) : (W.setCell p u).cell? q = some v := by
  rw [World.cell?_setCell_other (h := fun e => hne e.symm)]
  exact h
noncomputable def upd {α : Type} (f : Nm → α) (m : Nm) (x : α) : Nm → α := fun m' => open Classical in if m' = m then x else f m'
theorem upd_same {α : Type} (f : Nm → α) (m : Nm) (x : α) : upd f m x m = x := by simp [upd]
theorem upd_other {α : Type} (f : Nm → α) {m m' : Nm} (x : α) (h : m' ≠ m) : upd f m x m' = f m' := by simp [upd, h]

/-- What else there is: cells that are neither the header of m nor in its block stay. -/
structure Fc (B : Bl) (m : Nm) (vm : Value) (w w' : World) : Prop where
  os : w'.os = w.os
  tape : w'.tape = w.tape
  output : w'.output = w.output
  size : w.heap.size ≤ w'.heap.size
  block : ∀ b, b < w.heap.size → b ≠ hb B m → vm.ownBlock ≠ some b → w'.heap[b]? = w.heap[b]?
  cell : ∀ p u, p ≠ hd B m → vm.ownBlock ≠ some p.block → w.cell? p = some u → w'.cell? p = some u
  froz : ∀ p u, vm.ownBlock ≠ some p.block → w.cell? p = some u → w'.frozen? p = w.frozen? p

theorem row_q {w w' : World} {base : Nat} {e : TypeId} {size : Nat} {v : Value} {n : Nat} {xs : List Value} (h : w.ownsRow base e size v n xs) (hk : ∀ b, v.ownBlock = some b → w'.heap[b]? = w.heap[b]?) : w'.ownsRow base e size v n xs := by
  obtain ⟨h1, h2 | ⟨g, cap, cur, e1, e2, e3, e4, e5, e6, e7⟩⟩ := h
  · exact ⟨h1, Or.inl h2⟩
  · exact ⟨h1, Or.inr ⟨g, cap, cur, e1, e2, (hk g (by rw [e1]; rfl)).trans e3, e4, e5, e6, e7⟩⟩
theorem FM.q {w w' : World} {base : Nat} {B : Bl} {many words : Nat} {v : Vs} {es : Es} (h : FM w base B many words v es) (q : Q w w') : FM w' base B many words v es := by
  refine ⟨h.ok, fun m hm => ?_, fun m hm => row_q (h.row m hm) (fun b hb => q.block b ((h.row m hm).lt b hb).2), h.inj, h.far, fun b hb => Nat.lt_of_lt_of_le (h.lt b hb) q.size⟩
  obtain ⟨h1, h2⟩ := h.head m hm
  have hl := World.block_lt_of_cell? w _ h1
  exact ⟨cell_keep q h1, (World.frozen?_of_block (q.block _ hl)).trans h2⟩

variable {w w1 w2 : World} {base : Nat} {B : Bl} {many words : Nat} {v : Vs} {es : Es}
/-- A list has got another block, or what lies in its own is another; its header tells so. -/
theorem FM.next (h : FM w base B many words v es) {m : Nm} (hm : okN many words m) {nv : Value} {l : List (Int × Int)} (hg : w.grownBy w1 (v m).ownBlock) (hrow : w1.ownsRow base (tyN m) (szN m) nv l.length (rowN m l)) (hat : nv.ownBlock = (v m).ownBlock ∨ ∃ g, nv.ownBlock = some g ∧ w.heap.size ≤ g) :
    FM (w1.setCell (hd B m) nv) base B many words (upd v m nv) (upd es m l) ∧ Fc B m (v m) w (w1.setCell (hd B m) nv) := by
  have hh := h.head m hm
  have hlt := World.block_lt_of_cell? w _ hh.1
  have hnb : ∀ b, nv.ownBlock = some b → b ≠ hb B m := fun b hb' e => by
    rcases hat with q | ⟨g, q1, q2⟩
    · exact h.far m hm b (q.symm.trans hb') (by rw [e]; exact hb_is B m)
    · rw [q1] at hb'
      injection hb' with hb'
      have : hb B m < w.heap.size := hlt
      omega
  have hmb : (v m).ownBlock ≠ some (hb B m) := fun e => h.far m hm _ e (hb_is B m)
  have blk : ∀ b, b < w.heap.size → b ≠ hb B m → (v m).ownBlock ≠ some b → (w1.setCell (hd B m) nv).heap[b]? = w.heap[b]? := fun b h1 h2 h3 => by
    rw [Below.heap_setCell w1 (hd B m) nv b h2]
    exact hg.block b h1 (fun e => h3 e.symm)
  have c1 : w1.cell? (hd B m) = some (v m) := hg.cell hh.1 (fun e => hmb e.symm)
  have hblk1 : w1.heap[hb B m]? = w.heap[hb B m]? := hg.block _ hlt (fun e => hmb e.symm)
  have cells : ∀ p u, p ≠ hd B m → (v m).ownBlock ≠ some p.block → w.cell? p = some u → (w1.setCell (hd B m) nv).cell? p = some u := fun p u h1 h2 h3 => set_cell_ne' (hg.cell h3 (fun e => h2 e.symm)) h1
  have frz : ∀ p u, (v m).ownBlock ≠ some p.block → w.cell? p = some u → (w1.setCell (hd B m) nv).frozen? p = w.frozen? p := fun p u h2 h3 => by
    rw [World.frozen?_setCell]
    exact World.frozen?_of_block (hg.block _ (World.block_lt_of_cell? w _ h3) (fun e => h2 e.symm))
  refine ⟨⟨h.ok, fun m' hm' => ?_, fun m' hm' => ?_, fun a b ha hb' hab c hc => ?_, fun m' hm' b hb' => ?_, fun b hb' => by have := h.lt b hb'; have := hg.size; simp; omega⟩, ⟨hg.os, hg.tape, hg.output, by have := hg.size; simpa using this, blk, cells, frz⟩⟩
  · by_cases e : m' = m
    · subst e
      rw [upd_same]
      refine ⟨World.cell?_setCell_same _ _ _ c1, ?_⟩
      rw [frz _ _ hmb hh.1]
      exact hh.2
    · rw [upd_other _ _ e]
      obtain ⟨g1, g2⟩ := h.head m' hm'
      have hne : (v m).ownBlock ≠ some (hd B m').block := fun q => h.far m hm _ q (hb_is B m')
      exact ⟨cells _ _ (fun q => e (hd_inj h.ok q)) hne g1, (frz _ _ hne g1).trans g2⟩
  · by_cases e : m' = m
    · subst e
      rw [upd_same, upd_same]
      exact row_q hrow (fun b hb' => Below.heap_setCell w1 (hd B m') nv b (hnb b hb'))
    · rw [upd_other _ _ e, upd_other _ _ e]
      exact row_q (h.row m' hm') (fun b hb' => blk b ((h.row m' hm').lt b hb').2 (fun q => h.far m' hm' b hb' (by rw [q]; exact hb_is B m)) (fun q => h.inj m m' hm hm' (fun q => e q.symm) b q hb'))
  · have old : ∀ x, okN many words x → x ≠ m → ∀ y, (v x).ownBlock = some y → nv.ownBlock ≠ some y := fun x hx hxm y hy q => by
      rcases hat with r | ⟨g, r1, r2⟩
      · exact h.inj x m hx hm hxm y hy (r.symm.trans q)
      · rw [r1] at q
        injection q with q
        have := ((h.row x hx).lt y hy).2
        omega
    by_cases e1 : a = m
    · have e2 : b ≠ m := fun q => hab (by rw [e1, q])
      rw [e1, upd_same] at hc
      rw [upd_other _ _ e2]
      exact fun q => old b hb' e2 c q hc
    · rw [upd_other _ _ e1] at hc
      by_cases e2 : b = m
      · rw [e2, upd_same]
        exact old a ha e1 c hc
      · rw [upd_other _ _ e2]
        exact h.inj a b ha hb' hab c hc
  · by_cases e : m' = m
    · rw [e, upd_same] at hb'
      rcases hat with q | ⟨g, q1, q2⟩
      · exact h.far m hm b (q.symm.trans hb')
      · rw [q1] at hb'
        injection hb' with hb'
        intro hB
        have := h.lt b hB
        omega
    · rw [upd_other _ _ e] at hb'
      exact h.far m' hm' b hb'

end Go.Proofs.YtdiidmmmemmjjaaDoor.Lv

namespace Go.Proofs.YtdiidmmmemmjjaaDoor.Lv
open Go.RowKit
set_option linter.unusedVariables false

/-- The bits of the last word, if it stands at that place. -/
def lastOf (l : List (Int × Int)) (a : Int) : Int := match l.getLast? with | some e => if e.1 = a then e.2 else 0 | none => 0
theorem getLast_at {α : Type} {l : List α} {e : α} (h : l.getLast? = some e) : l[l.length - 1]? = some e := by rw [List.getLast?_eq_getElem?] at h; exact h

/-- A row of words: where its cells lie. -/
theorem row_word {w : World} {base : Nat} {v : Value} {m : Nm} (hm : m.wd = true) {l : List (Int × Int)} (h : w.ownsRow base (tyN m) (szN m) v l.length (rowN m l)) {k : Nat} {e : Int × Int} (hk : l[k]? = some e) : ∃ g cap, v = .slice (some ⟨g, 0, none⟩) l.length cap ∧ w.cell? ⟨g, k * 2, none⟩ = some (.int .i64 e.1) ∧ w.cell? ⟨g, k * 2 + 1, none⟩ = some (.int .u64 e.2) ∧ ∀ j, w.frozen? ⟨g, j, none⟩ = false := by
  have hkl := (List.getElem?_eq_some_iff.1 hk).1
  have hz : szN m = 2 := by simp [szN, hm]
  have hc : ∀ e, cellN m e = [.int .i64 e.1, .int .u64 e.2] := fun e => by simp [cellN, hm]
  obtain ⟨g, cap, hv⟩ : ∃ g cap, v = .slice (some ⟨g, 0, none⟩) l.length cap := by
    obtain ⟨h1, h2 | ⟨g, cap, cur, e1, -⟩⟩ := h
    · omega
    · exact ⟨g, cap, e1⟩
  subst hv
  have at' : ∀ (l : List (Int × Int)) (k : Nat) (e : Int × Int), l[k]? = some e → (rowN m l)[k * 2]? = some (.int .i64 e.1) ∧ (rowN m l)[k * 2 + 1]? = some (.int .u64 e.2) := fun l => by
    induction l with
    | nil => intro k e hk; simp at hk
    | cons x l ih =>
      intro k e hk
      have hr : rowN m (x :: l) = .int .i64 x.1 :: .int .u64 x.2 :: rowN m l := by simp [rowN, hc]
      rw [hr]
      cases k with
      | zero => simp at hk; subst hk; exact ⟨rfl, rfl⟩
      | succ k =>
        obtain ⟨i1, i2⟩ := ih k e (by simpa using hk)
        rw [show (k + 1) * 2 = k * 2 + 1 + 1 by omega]
        exact ⟨by simpa using i1, by simpa using i2⟩
  obtain ⟨a1, a2⟩ := at' l k e hk
  rw [hz] at h
  refine ⟨g, cap, rfl, (h.cellAt (k * 2) (by omega)).trans a1, (h.cellAt (k * 2 + 1) (by omega)).trans a2, fun j => h.frozenAt j⟩

set_option maxRecDepth 100000 in
theorem last_any (w : World) (base : Nat) (v : Value) (m : Nm) (hm : m.wd = true) (l : List (Int × Int)) (h : w.ownsRow base (tyN m) (szN m) v l.length (rowN m l)) (hl : l.length ≤ 1099511627776) (a : Int) :
    Calls Tryd.prog 47 #[v, .int .i64 a] w fun e w' => e = .returned (.int .u64 (lastOf l a)) ∧ w' = w := by
  unfold lastOf
  cases hg : l.getLast? with
  | none =>
    have e0 : l = [] := by simpa using hg
    subst e0
    have hv : ∃ va vc, v = .slice va 0 vc := by
      obtain ⟨h1, h2 | ⟨g, cap, cur, e1, -⟩⟩ := h
      · exact ⟨none, 0, h2.1⟩
      · exact ⟨_, _, e1⟩
    obtain ⟨va, vc, rfl⟩ := hv
    clear h hg
    go_enter Tryd.func47, Tryd.ntmps47
    go_wp2_with (fail)
    go_ret
    exact ⟨rfl, rfl⟩
  | some e =>
    obtain ⟨g, cap, rfl, c1, c2, -⟩ := row_word hm h (getLast_at hg)
    have hp : 0 < l.length := by
      have := (List.getElem?_eq_some_iff.1 (getLast_at hg)).1
      omega
    obtain ⟨n, hn⟩ : ∃ n, l.length = n + 1 := ⟨l.length - 1, by omega⟩
    rw [hn] at c1 c2 ⊢
    simp only [Nat.add_sub_cancel] at c1 c2
    have k1 : (0 : Int) < (n : Int) + 1 := by omega
    have k2 : IntKind.i64.wrap ((n : Int) + 1 - 1) = (n : Int) := by rw [IntKind.wrap_i64]; omega
    have k3 : (n : Int) < (n : Int) + 1 := by omega
    dsimp only
    clear h hg
    by_cases he : e.1 = a
    · rw [if_pos he]
      have h1 : (e.1 == a) = true := by simpa using he
      have h2 : decide (e.1 = a) = true := by simpa using he
      clear he
      go_enter Tryd.func47, Tryd.ntmps47
      go_wp2_with (fail)
      go_ret
      exact ⟨rfl, rfl⟩
    · rw [if_neg he]
      have h1 : (e.1 == a) = false := by simpa using he
      have h2 : decide (e.1 = a) = false := by simpa using he
      clear he
      go_enter Tryd.func47, Tryd.ntmps47
      go_wp2_with (fail)
      go_ret
      exact ⟨rfl, rfl⟩

end Go.Proofs.YtdiidmmmemmjjaaDoor.Lv

namespace Go.Proofs.YtdiidmmmemmjjaaDoor.Lv
open Go.RowKit
set_option linter.unusedVariables false

theorem upd_self {α : Type} (f : Nm → α) (m : Nm) : upd f m (f m) = f := by
  funext m'
  by_cases e : m' = m
  · subst e; rw [upd_same]
  · rw [upd_other _ _ e]
theorem heap_keep {X X' : World} {k : Nat} {o : Obj} (q : Q X X') (h : X.heap[k]? = some o) : X'.heap[k]? = some o := (q.block k (Array.getElem?_eq_some_iff.1 h).1).trans h
def pushL (l : List (Int × Int)) (e : Int × Int) : List (Int × Int) := if lastOf l e.1 = 0 then l ++ [e] else l.dropLast ++ [(e.1, bits .or .u64 (lastOf l e.1) e.2)]
def newP (l : List (Int × Int)) (e : Int × Int) : Bool := if lastOf l e.1 = 0 then true else bits .andNot .u64 e.2 (lastOf l e.1) != 0
theorem Tryd.infoWord : (Tryd.prog.info? 80).map (fun i => (i.zero, i.size, i.bytes)) = some (some (.agg #[.int .i64 0, .int .u64 0]), 2, 16) := by kernel_rfl
theorem info_word : ∃ i, Tryd.prog.info? 80 = some i ∧ i.zero = some (.agg #[.int .i64 0, .int .u64 0]) ∧ i.size = 2 ∧ i.bytes = 16 := by
  obtain ⟨i, hi, hzz⟩ := Option.map_eq_some_iff.1 Tryd.infoWord
  simp only [Prod.mk.injEq] at hzz
  exact ⟨i, hi, hzz.1, hzz.2.1, hzz.2.2⟩
theorem own_form {w : World} {base : Nat} {e : TypeId} {size : Nat} {v : Value} {n : Nat} {xs : List Value} (h : w.ownsRow base e size v n xs) : ∃ va vc, v = .slice va n vc := by
  obtain ⟨h1, h2 | ⟨g, cap, cur, e1, -⟩⟩ := h
  · exact ⟨none, 0, by rw [h2.2]; exact h2.1⟩
  · exact ⟨_, _, e1⟩
theorem Fc.pre {B : Bl} {m : Nm} {vm : Value} {w X w' : World} (h : Fc B m vm X w') (q : Q w X) : Fc B m vm w w' :=
  ⟨h.os.trans q.os, h.tape.trans q.tape, h.output.trans q.output, Nat.le_trans q.size h.size, fun b h1 h2 h3 => (h.block b (Nat.lt_of_lt_of_le h1 q.size) h2 h3).trans (q.block b h1), fun p u h1 h2 h3 => h.cell p u h1 h2 (cell_keep q h3), fun p u h1 h2 => (h.froz p u h1 (cell_keep q h2)).trans (World.frozen?_of_block (q.block _ (World.block_lt_of_cell? w _ h2)))⟩
theorem Fc.post {B : Bl} {m : Nm} {vm : Value} {w X w' : World} (h : Fc B m vm w X) (q : Q X w') : Fc B m vm w w' :=
  ⟨q.os.trans h.os, q.tape.trans h.tape, q.output.trans h.output, Nat.le_trans h.size q.size, fun b h1 h2 h3 => (q.block b (Nat.lt_of_lt_of_le h1 h.size)).trans (h.block b h1 h2 h3), fun p u h1 h2 h3 => cell_keep q (h.cell p u h1 h2 h3), fun p u h1 h2 => by
    have hp : p.block < X.heap.size := Nat.lt_of_lt_of_le (World.block_lt_of_cell? w _ h2) h.size
    exact (World.frozen?_of_block (q.block _ hp)).trans (h.froz p u h1 h2)⟩
theorem two_one (a b : Int) : ∀ u ∈ [Value.int .i64 a, .int .u64 b], u.oneCell' = true := fun u hu => by simp at hu; rcases hu with rfl | rfl <;> rfl

/-- What there is ahead of the append: the word in a block of its own. -/
theorem app_facts {w : World} {base : Nat} {B : Bl} {many words : Nat} {v : Vs} {es : Es} (h : FM w base B many words v es) (hb : base ≤ w.heap.size) (a b : Int) : ∀ X : World, X.heap = (w.alloc (.cells #[.int .i64 a, .int .u64 b] 80)).heap → X.os = w.os → X.tape = w.tape → X.output = w.output → FM X base B many words v es ∧ Q w X ∧ (∀ j u, [Value.int .i64 a, .int .u64 b][j]? = some u → X.cell? ((⟨w.heap.size, 0, none⟩ : Addr).add j) = some u) ∧ base ≤ X.heap.size ∧ X.heap.size = w.heap.size + 1 := fun X hX x1 x2 x3 => by
  have hs : X.heap.size = w.heap.size + 1 := by rw [hX]; simp
  have hb' : X.heap[w.heap.size]? = some (.cells #[.int .i64 a, .int .u64 b] 80 (0, 0)) := by rw [hX]; exact heap_alloc_new w _
  have q : Q w X := ⟨x1, x2, x3, by omega, fun k hk => by rw [hX]; exact heap_alloc_old w _ hk⟩
  exact ⟨h.q q, q, World.news_of_block hb', by omega, hs⟩

set_option maxRecDepth 100000 in
set_option maxHeartbeats 2000000 in
theorem push_new (w : World) (base : Nat) (B : Bl) (many words : Nat) (v : Vs) (es : Es) (h : FM w base B many words v es) (hbase : base ≤ w.heap.size) (m : Nm) (hm : okN many words m) (hw : m.wd = true) (hl : (es m).length ≤ 1099511627775) (e : Int × Int) (h0 : lastOf (es m) e.1 = 0) :
    Calls Tryd.prog 62 #[.pointer (some (hd B m)), .agg #[.int .i64 e.1, .int .u64 e.2]] w fun r w' => r = .returned (.bool true) ∧ ∃ nv, FM w' base B many words (upd v m nv) (upd es m (es m ++ [e])) ∧ Fc B m (v m) w w' ∧ (∀ b, nv.ownBlock = some b → (v m).ownBlock = some b ∨ w.heap.size ≤ b) := by
  obtain ⟨i0, hi, hz0, hz1, hz2⟩ := info_word
  have HT := hideIt (And.intro hi (And.intro hz0 (And.intro hz1 hz2)))
  clear hi hz0 hz1 hz2
  obtain ⟨X0, hX0⟩ : ∃ X0, w.alloc (.cells #[.int .i64 e.1, .int .u64 e.2] 80) = X0 := ⟨_, rfl⟩
  have q0 : Q w X0 := by rw [← hX0]; exact (Q.refl w).alloc _
  have bx : X0.heap[w.heap.size]? = some (.cells #[.int .i64 e.1, .int .u64 e.2] 80 (0, 0)) := by rw [← hX0]; exact heap_alloc_new w _
  have H0 := h.q q0
  obtain ⟨va, vc, ev⟩ := own_form (H0.row m hm)
  have hrow := H0.row m hm
  have htz : tyN m = 80 ∧ szN m = 2 := by simp [tyN, szN, hw]
  obtain ⟨hh1, hh2⟩ := H0.head m hm
  rw [ev] at hh1
  have LA := hideIt (fun X (hX : Q X0 X) => last_any X base (.slice va (es m).length vc) m hw (es m) (by have := (H0.q hX).row m hm; rw [ev] at this; exact this) (by omega) e.1)
  rw [h0] at LA
  have b0 : X0.cell? ⟨w.heap.size, 0, none⟩ = some (.int .i64 e.1) := (cell_of_block bx 0).trans rfl
  have HX0 := hideIt hX0
  have HQ0 := hideIt q0
  have HF := hideIt H0
  have HBX := hideIt bx
  have HEV := hideIt ev
  have HTZ := hideIt htz
  have HM := hideIt (show (es m).length + 1 ≤ maxLen by unfold maxLen; omega)
  have HM2 := hideIt (show ((es m).length + 1) * 16 ≤ 140737488355328 by omega)
  have HBS : Hid (base ≤ X0.heap.size) := Nat.le_trans hbase q0.size
  clear h hX0 q0 bx H0 hrow ev htz hh2
  go_enter Tryd.func62, Tryd.ntmps62
  go_wp2_with (fail)
  rw [show w.alloc (.cells #[.int .i64 e.1, .int .u64 e.2] 80) = X0 from HX0.out]
  go_quiet (first | (go_at_call 47; exact Calls.quiet_of_same (LA.out _ ((Q.refl X0).drewN _))))
  go_wp2_with (fail)
  generalize hX1 : X0.drewN nq = X1 at *
  have HQ1 : Hid (Q X0 X1) := by show Q X0 X1; rw [← hX1]; exact (Q.refl X0).drewN _
  have HF1 : Hid (FM X1 base B many words v es) := HF.out.q HQ1.out
  have b1 : X1.cell? ⟨w.heap.size, 0, none⟩ = some (.int .i64 e.1) := (cell_of_block (heap_keep HQ1.out HBX.out) 0).trans rfl
  have b2 : X1.cell? ⟨w.heap.size, 1, none⟩ = some (.int .u64 e.2) := (cell_of_block (heap_keep HQ1.out HBX.out) 1).trans rfl
  have c1 : X1.cell? (hd B m) = some (.slice va (es m).length vc) := by have := (HF1.out.head m hm).1; rw [HEV.out] at this; exact this
  have AF := hideIt (app_facts HF1.out (Nat.le_trans HBS.out HQ1.out.size) e.1 e.2)
  have NX : Hid (∀ (X w1 : World) (g cap : Nat), X.grownBy w1 (Value.slice va (es m).length vc).ownBlock → X.heap = (X1.alloc (.cells #[.int .i64 e.1, .int .u64 e.2] 80)).heap → X.os = X1.os → X.tape = X1.tape → X.output = X1.output → w1.ownsRow base 80 2 (.slice (some ⟨g, 0, none⟩) ((es m).length + 1) cap) ((es m).length + 1) (rowN m (es m) ++ [.int .i64 e.1, .int .u64 e.2]) → ((Value.slice va (es m).length vc).ownBlock = some g ∨ g = X1.heap.size + 1) → w1.cell? (hd B m) = some (.slice va (es m).length vc) ∧ w1.frozen? (hd B m) = false ∧ ∃ nv, FM (w1.setCell (hd B m) (.slice (some ⟨g, 0, none⟩) ((es m).length + 1) cap)) base B many words (upd v m nv) (upd es m (es m ++ [e])) ∧ Fc B m (v m) w (w1.setCell (hd B m) (.slice (some ⟨g, 0, none⟩) ((es m).length + 1) cap)) ∧ (∀ b, nv.ownBlock = some b → (v m).ownBlock = some b ∨ w.heap.size ≤ b)) := fun X w1 g cap hg x0 x1 x2 x3 hown hat => by
    obtain ⟨f1, f2, -, -, f5⟩ := AF.out X x0 x1 x2 x3
    have hnb : (v m).ownBlock ≠ some (hb B m) := fun q => f1.far m hm _ q (hb_is B m)
    rw [← HEV.out] at hg hat
    have hh := f1.head m hm
    refine ⟨by rw [← HEV.out]; exact hg.cell hh.1 (fun q => hnb q.symm), (World.frozen?_of_block (hg.block _ (World.block_lt_of_cell? X _ hh.1) (fun q => hnb q.symm))).trans hh.2, .slice (some ⟨g, 0, none⟩) ((es m).length + 1) cap, ?_⟩
    have hrow : w1.ownsRow base (tyN m) (szN m) (.slice (some ⟨g, 0, none⟩) ((es m).length + 1) cap) (es m ++ [e]).length (rowN m (es m ++ [e])) := by
      rw [HTZ.out.1, HTZ.out.2, rowN_app, List.length_append]
      have : cellN m e = [.int .i64 e.1, .int .u64 e.2] := by simp [cellN, hw]
      rw [this]
      exact hown
    obtain ⟨r1, r2⟩ := f1.next hm hg hrow (by
      rcases hat with q | q
      · exact Or.inl q.symm
      · exact Or.inr ⟨g, rfl, by omega⟩)
    refine ⟨r1, r2.pre (HQ0.out.trans (HQ1.out.trans f2)), fun b hb' => ?_⟩
    have e9 : g = b := by simpa [Value.ownBlock] using hb'
    rcases hat with q | q
    · exact Or.inl (by rw [q, e9])
    · refine Or.inr ?_
      have h8 := (HQ0.out.trans HQ1.out).size
      omega
  have AR : Hid (∀ X : World, X.heap = (X1.alloc (.cells #[.int .i64 e.1, .int .u64 e.2] 80)).heap → X.os = X1.os → X.tape = X1.tape → X.output = X1.output → X.ownsRow base 80 2 (.slice va (es m).length vc) (es m).length (rowN m (es m))) := fun X x0 x1 x2 x3 => by
    have := (AF.out X x0 x1 x2 x3).1.row m hm
    rw [HEV.out, HTZ.out.1, HTZ.out.2] at this
    exact this
  have c1' := fun ob => cell_keep ((Q.refl X1).alloc ob) c1
  go_region_law (refine step_append_lies _ (by rfl) _ _ 41 (by rfl) base 80 i0 (.agg #[.int .i64 0, .int .u64 0]) 2 16 Tryd.underlying41 HT.out.1 HT.out.2.1 HT.out.2.2.1 HT.out.2.2.2 rfl (by decide) (.slice va (es m).length vc) (es m).length (rowN m (es m)) (by rfl) (AR.out _ rfl rfl rfl rfl) ⟨X1.heap.size, 0, none⟩ 1 1 [.int .i64 e.1, .int .u64 e.2] (by rfl) rfl (AF.out _ rfl rfl rfl rfl).2.2.1 (two_one _ _) (by decide) HM.out HM2.out (AF.out _ rfl rfl rfl rfl).2.2.2.1 (X1.heap.size + 1) (AF.out _ rfl rfl rfl rfl).2.2.2.2 ?_; intro g cap w1 hown hgrow hat hlt; obtain ⟨t1, t2, t3⟩ := NX.out _ w1 g cap hgrow rfl rfl rfl rfl hown hat; have H3 := hideIt t3; clear hown hgrow hat t3)
  all_goals go_wp2_with (fail)
  all_goals go_ret
  all_goals exact ⟨rfl, H3.out⟩

/-- A cell of a list is written. -/
theorem FM.put {w : World} {base : Nat} {B : Bl} {many words : Nat} {v : Vs} {es : Es} (h : FM w base B many words v es) {m : Nm} (hm : okN many words m) {g n cap j : Nat} (ev : v m = .slice (some ⟨g, 0, none⟩) n cap) {u : Value} {l : List (Int × Int)} (hrow : (w.setCell ⟨g, j, none⟩ u).ownsRow base (tyN m) (szN m) (v m) l.length (rowN m l)) :
    FM (w.setCell ⟨g, j, none⟩ u) base B many words v (upd es m l) ∧ Fc B m (v m) w (w.setCell ⟨g, j, none⟩ u) := by
  have ho : (v m).ownBlock = some g := by rw [ev]; rfl
  have hfar : ∀ m', (hd B m').block ≠ g := fun m' e => h.far m hm g ho (by rw [← e]; exact hb_is B m')
  refine ⟨⟨h.ok, fun m' hm' => ?_, fun m' hm' => ?_, h.inj, h.far, fun b hb' => by have := h.lt b hb'; simpa using this⟩, ⟨rfl, rfl, rfl, by simp, fun b h1 h2 h3 => Below.heap_setCell w ⟨g, j, none⟩ u b (fun e => h3 (by rw [ho, e])), fun p x h1 h2 h3 => set_cell_ne' h3 (fun e => h2 (by rw [e, ho])), fun p x h2 h3 => by rw [World.frozen?_setCell]⟩⟩
  · obtain ⟨h1, h2⟩ := h.head m' hm'
    exact ⟨set_cell_ne' h1 (fun e => hfar m' (by rw [e])), by rw [World.frozen?_setCell]; exact h2⟩
  · by_cases e : m' = m
    · subst e
      rw [upd_same]
      exact hrow
    · rw [upd_other _ _ e]
      exact row_q (h.row m' hm') (fun b hb' => Below.heap_setCell w ⟨g, j, none⟩ u b (fun q => h.inj m' m hm' hm e b hb' (by rw [ho, q])))
theorem rowN_last {m : Nm} (hw : m.wd = true) (l : List (Int × Int)) (a b c : Int) : (rowN m (l ++ [(a, b)])).set (l.length * 2 + 1) (.int .u64 c) = rowN m (l ++ [(a, c)]) := by
  have hz : szN m = 2 := by simp [szN, hw]
  have hc : ∀ e, cellN m e = [.int .i64 e.1, .int .u64 e.2] := fun e => by simp [cellN, hw]
  rw [rowN_app, rowN_app, hc, hc, List.set_append_right _ _ (by rw [rowN_len, hz]; omega), rowN_len, hz]
  rw [show l.length * 2 + 1 - l.length * 2 = 1 by omega]
  rfl

set_option maxRecDepth 100000 in
set_option maxHeartbeats 2000000 in
theorem push_old (w : World) (base : Nat) (B : Bl) (many words : Nat) (v : Vs) (es : Es) (h : FM w base B many words v es) (m : Nm) (hm : okN many words m) (hw : m.wd = true) (hl : (es m).length ≤ 1099511627775) (e : Int × Int) (h0 : ¬ lastOf (es m) e.1 = 0) :
    Calls Tryd.prog 62 #[.pointer (some (hd B m)), .agg #[.int .i64 e.1, .int .u64 e.2]] w fun r w' => r = .returned (.bool (bits .andNot .u64 e.2 (lastOf (es m) e.1) != 0)) ∧ ∃ nv, FM w' base B many words (upd v m nv) (upd es m ((es m).dropLast ++ [(e.1, bits .or .u64 (lastOf (es m) e.1) e.2)])) ∧ Fc B m (v m) w w' ∧ (∀ b, nv.ownBlock = some b → (v m).ownBlock = some b ∨ w.heap.size ≤ b) := by
  obtain ⟨l0, b1, hl0⟩ : ∃ l0 b1, es m = l0 ++ [(e.1, b1)] ∧ lastOf (es m) e.1 = b1 := by
    cases hg : (es m).getLast? with
    | none => exact absurd (by unfold lastOf; rw [hg]) h0
    | some x =>
      by_cases hx : x.1 = e.1
      · refine ⟨(es m).dropLast, x.2, ?_, by unfold lastOf; rw [hg]; exact if_pos hx⟩
        have hne : es m ≠ [] := fun q => by rw [q] at hg; simp at hg
        have h1 := List.dropLast_concat_getLast hne
        have h2 : (es m).getLast hne = x := by rw [List.getLast?_eq_some_getLast hne] at hg; injection hg
        rw [h2] at h1
        rw [← hx]
        exact h1.symm
      · exact absurd (by unfold lastOf; rw [hg]; exact if_neg hx) h0
  obtain ⟨hes, hla⟩ := hl0
  have hlen : (es m).length = l0.length + 1 := by rw [hes]; simp
  obtain ⟨X0, hX0⟩ : ∃ X0, w.alloc (.cells #[.int .i64 e.1, .int .u64 e.2] 80) = X0 := ⟨_, rfl⟩
  have q0 : Q w X0 := by rw [← hX0]; exact (Q.refl w).alloc _
  have bx : X0.heap[w.heap.size]? = some (.cells #[.int .i64 e.1, .int .u64 e.2] 80 (0, 0)) := by rw [← hX0]; exact heap_alloc_new w _
  have H0 := h.q q0
  have hrow := H0.row m hm
  have hk : (es m)[l0.length]? = some (e.1, b1) := by rw [hes, List.getElem?_append_right (Nat.le_refl _), Nat.sub_self]; rfl
  obtain ⟨g, cap, ev, -, -, -⟩ := row_word hw hrow hk
  rw [hlen] at ev
  have LA := hideIt (fun X (hX : Q X0 X) => last_any X base (.slice (some ⟨g, 0, none⟩) (l0.length + 1) cap) m hw (es m) (by have := (H0.q hX).row m hm; rw [ev] at this; exact this) (by omega) e.1)
  rw [hla] at LA h0 ⊢
  have hdl : (es m).dropLast = l0 := by rw [hes]; simp
  rw [hdl]
  obtain ⟨hh1, -⟩ := H0.head m hm
  rw [ev] at hh1
  have b0 : X0.cell? ⟨w.heap.size, 0, none⟩ = some (.int .i64 e.1) := (cell_of_block bx 0).trans rfl
  have NX : Hid (∀ X, Q X0 X → X.cell? (hd B m) = some (.slice (some ⟨g, 0, none⟩) (l0.length + 1) cap) ∧ X.cell? ⟨w.heap.size, 0, none⟩ = some (.int .i64 e.1) ∧ X.cell? ⟨w.heap.size, 1, none⟩ = some (.int .u64 e.2) ∧ X.cell? ⟨g, l0.length * 2 + 1, none⟩ = some (.int .u64 b1) ∧ X.frozen? ⟨g, l0.length * 2 + 1, none⟩ = false ∧ w.heap.size ≠ g ∧ FM (X.setCell ⟨g, l0.length * 2 + 1, none⟩ (.int .u64 (bits .or .u64 b1 e.2))) base B many words v (upd es m (l0 ++ [(e.1, bits .or .u64 b1 e.2)])) ∧ Fc B m (v m) w (X.setCell ⟨g, l0.length * 2 + 1, none⟩ (.int .u64 (bits .or .u64 b1 e.2)))) := fun X hX => by
    have HX := H0.q hX
    have hr := HX.row m hm
    obtain ⟨g', cap', ev', c1, c2, c3⟩ := row_word hw hr hk
    rw [hlen, ev] at ev'
    injection ev' with e1 e2 e3
    injection e1 with e1
    injection e1 with e1 e4
    subst e1
    have hgl := ((h.row m hm).lt g (by rw [ev]; rfl)).2
    refine ⟨by have := (HX.head m hm).1; rw [ev] at this; exact this, (cell_of_block (heap_keep hX bx) 0).trans rfl, (cell_of_block (heap_keep hX bx) 1).trans rfl, c2, c3 _, by omega, ?_⟩
    have hz : szN m = 2 := by simp [szN, hw]
    rw [hlen, hz, ev] at hr
    have hst := hr.stored (l0.length * 2 + 1) (.int .u64 (bits .or .u64 b1 e.2))
    rw [hes, rowN_last hw] at hst
    obtain ⟨r1, r2⟩ := HX.put hm ev (j := l0.length * 2 + 1) (u := .int .u64 (bits .or .u64 b1 e.2)) (l := l0 ++ [(e.1, bits .or .u64 b1 e.2)]) (by rw [hz, ev, List.length_append]; exact hst.1)
    exact ⟨r1, r2.pre (q0.trans hX)⟩
  have HX0 := hideIt hX0
  have hb1 : (b1 == 0) = false := by simpa using h0
  have hb2 : decide (b1 = 0) = false := by simpa using h0
  have k1 : IntKind.i64.wrap ((l0.length : Int) + 1 - 1) = (l0.length : Int) := by rw [IntKind.wrap_i64]; omega
  have k1' : IntKind.i64.wrap (l0.length : Int) = (l0.length : Int) := by rw [IntKind.wrap_i64]; omega
  have k1'' : wrap64 (l0.length : Int) = (l0.length : Int) := by unfold wrap64; omega
  have k2 : (l0.length : Int) < (l0.length : Int) + 1 := by omega
  clear h hX0 q0 bx H0 hrow hk hes hla hdl hlen ev h0
  go_enter Tryd.func62, Tryd.ntmps62
  go_wp2_with (fail)
  rw [show w.alloc (.cells #[.int .i64 e.1, .int .u64 e.2] 80) = X0 from HX0.out]
  go_quiet (first | (go_at_call 47; exact Calls.quiet_of_same (LA.out _ ((Q.refl X0).drewN _))))
  obtain ⟨c1, c2, c3, c4, c5, c6, c7⟩ := NX.out (X0.drewN nq) ((Q.refl X0).drewN _)
  have H7 := hideIt c7
  clear c7 hh1 b0
  generalize X0.drewN nq = X1 at *
  go_wp2_with (fail)
  go_region
  go_wp2_with (fail)
  go_ret
  exact ⟨rfl, v m, by rw [upd_self]; exact H7.out.1.q (Q.refl _).drew, H7.out.2.post (Q.refl _).drew, fun b hb' => Or.inl hb'⟩

theorem push_any (w : World) (base : Nat) (B : Bl) (many words : Nat) (v : Vs) (es : Es) (h : FM w base B many words v es) (hbase : base ≤ w.heap.size) (m : Nm) (hm : okN many words m) (hw : m.wd = true) (hl : (es m).length ≤ 1099511627775) (e : Int × Int) :
    Calls Tryd.prog 62 #[.pointer (some (hd B m)), .agg #[.int .i64 e.1, .int .u64 e.2]] w fun r w' => r = .returned (.bool (newP (es m) e)) ∧ ∃ nv, FM w' base B many words (upd v m nv) (upd es m (pushL (es m) e)) ∧ Fc B m (v m) w w' ∧ (∀ b, nv.ownBlock = some b → (v m).ownBlock = some b ∨ w.heap.size ≤ b) := by
  unfold newP pushL
  by_cases h0 : lastOf (es m) e.1 = 0
  · rw [if_pos h0, if_pos h0]
    exact push_new w base B many words v es h hbase m hm hw hl e h0
  · rw [if_neg h0, if_neg h0]
    exact push_old w base B many words v es h m hm hw hl e h0

end Go.Proofs.YtdiidmmmemmjjaaDoor.Lv
