/-
  A walk in memory; some registers are live at a part's beginning (begin of live): a contract over the program; the conditions: the walk lies in memory, and there is that part.
  Some registers are live behind a part's end (end of live): a contract over the program; the conditions: the walk lies in memory, and there is that part.
  A walk in memory: what is written is told, the work is cut short, elements of its lists; the steps of going back, plainly: facts on worlds; no conditions but those that each fact bears.
  All parts at whose beginning, and behind whose end, registers of one word are live (back of live), the walk over the program for whatever holds while it goes: a contract; the conditions: the walk lies in memory, and what holds is kept by each step.
-/
import Derived.Test.YtdiidmmmemmjjaaDoorKLvC
import Derived.Deep.RegionWith
import Derived.Deep.LoopGhost
namespace Go.Proofs.YtdiidmmmemmjjaaDoor.Lv
open Go.RowKit
set_option linter.unusedVariables false

/-- A walk lies in memory: its lists, its own cells, what is written. -/
structure WM (w : World) (base : Nat) (B : Bl) (many words : Nat) (v : Vs) (es : Es) (wo : List Int) : Prop where
  fm : FM w base B many words v es
  bs : ∀ b, B.isB b → base ≤ b
  c0 : w.cell? ⟨B.Wk, 0, none⟩ = some (.slice (some ⟨B.F, 0, none⟩) many many)
  c1 : w.cell? ⟨B.Wk, 1, none⟩ = some (.slice (some ⟨B.Rd, 0, none⟩) words words)
  c2 : w.cell? ⟨B.Wk, 2, none⟩ = some (.slice (some ⟨B.Wt, 0, none⟩) words words)
  c3 : w.cell? ⟨B.Wk, 3, none⟩ = some (.slice (some ⟨B.In, 0, none⟩) many many)
  c4 : w.cell? ⟨B.Wk, 4, none⟩ = some (.slice (some ⟨B.Ou, 0, none⟩) many many)
  c5 : w.cell? ⟨B.Wk, 5, none⟩ = some (.slice (some ⟨B.Wo, 0, none⟩) many many)
  wl : wo.length = many
  wb : w.heap[B.Wo]? = some (.cells (wo.map (Value.int .u64)).toArray 78 (0, 0))
theorem isB_Wk (B : Bl) : B.isB B.Wk := by simp [Bl.isB]
theorem isB_Wo (B : Bl) : B.isB B.Wo := by simp [Bl.isB]
theorem hb_ne_Wo {B : Bl} (h : B.ok) (m : Nm) : B.Wo ≠ hb B m := by
  obtain ⟨⟨f1, f2, f3, f4, f5, f6⟩, ⟨r1, r2, r3, r4, r5⟩, ⟨t1, t2, t3, t4⟩, ⟨i1, i2, i3⟩, ⟨o1, o2⟩, w1⟩ := h
  cases m <;> simp only [hb] <;> first | exact fun e => f5 e.symm | exact fun e => r4 e.symm | exact fun e => t3 e.symm | exact fun e => i2 e.symm | exact fun e => o1 e.symm | exact w1
theorem hd_ne {B : Bl} (h : B.ok) (m : Nm) (j : Nat) (hj : j < 6) : (⟨B.Wk, j, none⟩ : Addr) ≠ hd B m := fun e => by
  obtain ⟨⟨f1, f2, f3, f4, f5, f6⟩, ⟨r1, r2, r3, r4, r5⟩, ⟨t1, t2, t3, t4⟩, ⟨i1, i2, i3⟩, ⟨o1, o2⟩, w1⟩ := h
  injection e with e1 e2
  cases m <;> simp only [hb, ho] at e1 e2 <;> first | exact f6 e1.symm | exact r5 e1.symm | exact t4 e1.symm | exact i3 e1.symm | exact o2 e1.symm | omega

section
variable {w w' : World} {base : Nat} {B : Bl} {many words : Nat} {v v' : Vs} {es es' : Es} {wo : List Int}
theorem WM.q (h : WM w base B many words v es wo) (q : Q w w') : WM w' base B many words v es wo := ⟨h.fm.q q, h.bs, cell_keep q h.c0, cell_keep q h.c1, cell_keep q h.c2, cell_keep q h.c3, cell_keep q h.c4, cell_keep q h.c5, h.wl, heap_keep q h.wb⟩
/-- A list has changed. -/
theorem WM.fc (h : WM w base B many words v es wo) {m : Nm} (hm : okN many words m) (f : FM w' base B many words v' es') (c : Fc B m (v m) w w') : WM w' base B many words v' es' wo := by
  have hk : (v m).ownBlock ≠ some B.Wk := fun e => h.fm.far m hm _ e (isB_Wk B)
  have hq : (v m).ownBlock ≠ some B.Wo := fun e => h.fm.far m hm _ e (isB_Wo B)
  have hc : ∀ j u, j < 6 → w.cell? ⟨B.Wk, j, none⟩ = some u → w'.cell? ⟨B.Wk, j, none⟩ = some u := fun j u hj hu => c.cell _ _ (hd_ne h.fm.ok m j hj) hk hu
  exact ⟨f, h.bs, hc 0 _ (by omega) h.c0, hc 1 _ (by omega) h.c1, hc 2 _ (by omega) h.c2, hc 3 _ (by omega) h.c3, hc 4 _ (by omega) h.c4, hc 5 _ (by omega) h.c5, h.wl, (c.block _ (h.fm.lt _ (isB_Wo B)) (hb_ne_Wo h.fm.ok m) hq).trans h.wb⟩
theorem WM.below (h : WM w base B many words v es wo) {m : Nm} (hm : okN many words m) (c : Fc B m (v m) w w') (hb' : base ≤ w.heap.size) : Below base w w' :=
  ⟨c.os, c.tape, c.output, c.size, fun b hb => c.block b (by omega) (fun e => by have := h.bs _ (hb_is B m); omega) (fun e => by have := ((h.fm.row m hm).lt b e).1; omega)⟩
end

/-- Each list's block is the one that it had, or a new one; but for what is live and the work all lists lie where they lay. -/
structure Grw (many words : Nat) (w : World) (v v' : Vs) : Prop where
  own : ∀ m, okN many words m → ∀ b, (v' m).ownBlock = some b → (v m).ownBlock = some b ∨ w.heap.size ≤ b
  kp : ∀ k, v' (.fr k) = v (.fr k) ∧ v' (.rd k) = v (.rd k) ∧ v' (.wt k) = v (.wt k)
theorem Grw.refl (many words : Nat) (w : World) (v : Vs) : Grw many words w v v := ⟨fun m _ b hb => Or.inl hb, fun k => ⟨rfl, rfl, rfl⟩⟩
theorem Grw.trans {many words : Nat} {w w1 : World} {v v1 v2 : Vs} (h : Grw many words w v v1) (hs : w.heap.size ≤ w1.heap.size) (k : Grw many words w1 v1 v2) : Grw many words w v v2 := ⟨fun m hm b hb => by
  rcases k.own m hm b hb with q | q
  · exact h.own m hm b q
  · exact Or.inr (by omega), fun j => ⟨(k.kp j).1.trans (h.kp j).1, (k.kp j).2.1.trans (h.kp j).2.1, (k.kp j).2.2.trans (h.kp j).2.2⟩⟩
theorem Grw.pre {many words : Nat} {w w1 : World} {v v1 : Vs} (h : Grw many words w1 v v1) (hs : w.heap.size ≤ w1.heap.size) : Grw many words w v v1 := ⟨fun m hm b hb => (h.own m hm b hb).imp id (fun q => by omega), h.kp⟩
/-- A list of what is live, or the work. -/
def Nm.lv : Nm → Bool
  | .inn _ => true
  | .out _ => true
  | .work => true
  | _ => false
theorem grw_upd {many words : Nat} {w : World} {v : Vs} {m : Nm} {nv : Value} (hv : m.lv = true) (h : ∀ b, nv.ownBlock = some b → (v m).ownBlock = some b ∨ w.heap.size ≤ b) : Grw many words w v (upd v m nv) := ⟨fun m' _ b hb => by
  by_cases e : m' = m
  · subst e; rw [upd_same] at hb; exact h b hb
  · rw [upd_other _ _ e] at hb; exact Or.inl hb, fun k => ⟨upd_other _ _ (fun e => by subst e; cases hv), upd_other _ _ (fun e => by subst e; cases hv), upd_other _ _ (fun e => by subst e; cases hv)⟩⟩
/-- The work is one more. -/
theorem WM.wapp {y w1 : World} {base : Nat} {B : Bl} {many words : Nat} {v : Vs} {es : Es} {wo : List Int} (h : WM y base B many words v es wo) (hbase : base ≤ y.heap.size) {z : Int} {g cap : Nat} {va : Option Addr} {vc : Nat} (ev : v .work = .slice va (es .work).length vc) (hown : w1.ownsRow base 3 1 (.slice (some ⟨g, 0, none⟩) ((es .work).length + 1) cap) ((es .work).length + 1) (rowN .work (es .work) ++ [.int .i64 z])) (hg : (y.alloc (.cells #[.int .i64 z] 3)).grownBy w1 (Value.slice va (es .work).length vc).ownBlock) (hat : (Value.slice va (es .work).length vc).ownBlock = some g ∨ g = y.heap.size + 1) :
    w1.cell? ⟨B.Wk, 6, none⟩ = some (.slice va (es .work).length vc) ∧ w1.frozen? ⟨B.Wk, 6, none⟩ = false ∧ (∃ v', WM (w1.setCell ⟨B.Wk, 6, none⟩ (.slice (some ⟨g, 0, none⟩) ((es .work).length + 1) cap)) base B many words v' (upd es .work (es .work ++ [(z, 0)])) wo ∧ Grw many words y v v') ∧ Below base y (w1.setCell ⟨B.Wk, 6, none⟩ (.slice (some ⟨g, 0, none⟩) ((es .work).length + 1) cap)) := by
  have q : Q y (y.alloc (.cells #[.int .i64 z] 3)) := (Q.refl y).alloc _
  have f1 := h.q q
  have hm : okN many words .work := trivial
  rw [← ev] at hg hat
  have hnb : (v .work).ownBlock ≠ some B.Wk := fun e => f1.fm.far .work hm _ e (isB_Wk B)
  obtain ⟨hh1, hh2⟩ := f1.fm.head .work hm
  have hrow : w1.ownsRow base (tyN .work) (szN .work) (.slice (some ⟨g, 0, none⟩) ((es .work).length + 1) cap) (es .work ++ [(z, 0)]).length (rowN .work (es .work ++ [(z, 0)])) := by
    rw [rowN_app, List.length_append]
    exact hown
  obtain ⟨r1, r2⟩ := f1.fm.next hm hg hrow (by
    rcases hat with e | e
    · exact Or.inl e.symm
    · exact Or.inr ⟨g, rfl, by simp; omega⟩)
  have hb : Below base (y.alloc (.cells #[.int .i64 z] 3)) (w1.setCell ⟨B.Wk, 6, none⟩ (.slice (some ⟨g, 0, none⟩) ((es .work).length + 1) cap)) := f1.below hm r2 (by have := q.size; omega)
  refine ⟨by rw [← ev]; exact hg.cell hh1 (fun e => hnb e.symm), (World.frozen?_of_block (hg.block _ (World.block_lt_of_cell? _ _ hh1) (fun e => hnb e.symm))).trans hh2, ⟨_, f1.fc hm r1 r2, grw_upd rfl fun b hb' => ?_⟩, ?_⟩
  · have e9 : g = b := by simpa [Value.ownBlock] using hb'
    rcases hat with e | e
    · exact Or.inl (by rw [e, e9])
    · exact Or.inr (by omega)
  exact Below.trans ⟨q.os, q.tape, q.output, q.size, fun b hb' => q.block b (by omega)⟩ hb

/-- Some registers are live at a part's beginning. -/
noncomputable def begE (es : Es) (k : Nat) (e : Int × Int) : Es := if newP (es (.inn k)) e = true then upd (upd es (.inn k) (pushL (es (.inn k)) e)) .work (es .work ++ [((k : Int), 0)]) else upd es (.inn k) (pushL (es (.inn k)) e)

theorem Tryd.infoInt : (Tryd.prog.info? 3).map (fun i => (i.zero, i.size, i.bytes)) = some (some (.int .i64 0), 1, 8) := by kernel_rfl
theorem info_int : ∃ i, Tryd.prog.info? 3 = some i ∧ i.zero = some (.int .i64 0) ∧ i.size = 1 ∧ i.bytes = 8 := by
  obtain ⟨i, hi, hzz⟩ := Option.map_eq_some_iff.1 Tryd.infoInt
  simp only [Prod.mk.injEq] at hzz
  exact ⟨i, hi, hzz.1, hzz.2.1, hzz.2.2⟩

set_option maxRecDepth 100000 in
set_option maxHeartbeats 2000000 in
theorem begin_any (w : World) (base : Nat) (B : Bl) (many words : Nat) (v : Vs) (es : Es) (wo : List Int) (h : WM w base B many words v es wo) (hbase : base ≤ w.heap.size) (k : Nat) (hk : k < many) (a b : Int) (hl1 : (es (.inn k)).length ≤ 1099511627775) (hl2 : (es .work).length ≤ 1099511627775) :
    Calls Tryd.prog 45 #[.pointer (some ⟨B.Wk, 0, none⟩), .int .i64 (k : Int), .agg #[.int .i64 a, .int .u64 b]] w fun r w' => r = .returned (.tuple #[]) ∧ (∃ v', WM w' base B many words v' (begE es k (a, b)) wo ∧ Grw many words w v v') ∧ Below base w w' := by
  obtain ⟨i0, hi, hz0, hz1, hz2⟩ := info_int
  have HT := hideIt (And.intro hi (And.intro hz0 (And.intro hz1 hz2)))
  clear hi hz0 hz1 hz2
  obtain ⟨X0, hX0⟩ : ∃ X0, w.alloc (.cells #[.int .i64 a, .int .u64 b] 80) = X0 := ⟨_, rfl⟩
  have q0 : Q w X0 := by rw [← hX0]; exact (Q.refl w).alloc _
  have bx : X0.heap[w.heap.size]? = some (.cells #[.int .i64 a, .int .u64 b] 80 (0, 0)) := by rw [← hX0]; exact heap_alloc_new w _
  have H0 := h.q q0
  have hm : okN many words (.inn k) := hk
  have PA : Hid (∀ X, Q X0 X → Calls Tryd.prog 62 #[.pointer (some ⟨B.In, k, none⟩), .agg #[.int .i64 a, .int .u64 b]] X fun r w' => r = .returned (.bool (newP (es (.inn k)) (a, b))) ∧ (∃ v', WM w' base B many words v' (upd es (.inn k) (pushL (es (.inn k)) (a, b))) wo ∧ Grw many words X v v') ∧ Below base X w') := fun X hX => by
    have HX := H0.q hX
    have hb : base ≤ X.heap.size := Nat.le_trans hbase (Nat.le_trans q0.size hX.size)
    exact (push_any X base B many words v es HX.fm hb (.inn k) hm rfl hl1 (a, b)).mono fun r w' ⟨e1, nv, e2, e3, e4⟩ => ⟨e1, ⟨_, HX.fc hm e2 e3, grw_upd rfl e4⟩, HX.below hm e3 hb⟩
  have c3 := H0.c3
  have b0 : X0.cell? ⟨w.heap.size, 0, none⟩ = some (.int .i64 a) := (cell_of_block bx 0).trans rfl
  have b1 : X0.cell? ⟨w.heap.size, 1, none⟩ = some (.int .u64 b) := (cell_of_block bx 1).trans rfl
  have hkl : (k : Int) < (many : Int) := by omega
  have HX0 := hideIt hX0
  have HQ0 : Hid (Below base w X0) := ⟨q0.os, q0.tape, q0.output, q0.size, fun b hb => q0.block b (by omega)⟩
  have HBS : Hid (base ≤ X0.heap.size) := Nat.le_trans hbase q0.size
  have HS0 : Hid (w.heap.size ≤ X0.heap.size) := q0.size
  clear h hX0 q0 bx H0
  unfold begE
  cases hn : newP (es (.inn k)) (a, b) with
  | false =>
    rw [hn] at PA
    rw [if_neg (by simp)]
    go_enter Tryd.func45, Tryd.ntmps45
    go_wp2_with (fail)
    rw [show w.alloc (.cells #[.int .i64 a, .int .u64 b] 80) = X0 from HX0.out]
    go_region_with (go_at_call 62; refine Calls.mono (PA.out _ (by first | exact Q.refl _ | exact (Q.refl X0).drew | exact (Q.refl X0).drewN _)) ?_; rintro e y ⟨rfl, hy, qy⟩; have HY : Hid (∃ v', WM y base B many words v' (upd es (.inn k) (pushL (es (.inn k)) (a, b))) wo ∧ Grw many words w v v') := (by obtain ⟨v1, g1, g2⟩ := hy; exact ⟨v1, g1, g2.pre HS0.out⟩); have QY : Hid (Below base w y) := (by first | exact HQ0.out.trans qy | exact (Below.drew HQ0.out).trans qy); clear hy qy)
    all_goals go_wp2_with (fail)
    all_goals go_end0
    all_goals exact ⟨rfl, HY.out, QY.out⟩
  | true =>
    rw [hn] at PA
    rw [if_pos rfl]
    go_enter Tryd.func45, Tryd.ntmps45
    go_wp2_with (fail)
    rw [show w.alloc (.cells #[.int .i64 a, .int .u64 b] 80) = X0 from HX0.out]
    go_region_with (go_at_call 62; refine Calls.mono (PA.out _ (by first | exact Q.refl _ | exact (Q.refl X0).drew | exact (Q.refl X0).drewN _)) ?_; rintro e y ⟨rfl, hy, qy⟩; have HY : Hid (∃ v', WM y base B many words v' (upd es (.inn k) (pushL (es (.inn k)) (a, b))) wo ∧ Grw many words w v v') := (by obtain ⟨v1, g1, g2⟩ := hy; exact ⟨v1, g1, g2.pre HS0.out⟩); have QY : Hid (Below base w y) := (by first | exact HQ0.out.trans qy | exact (Below.drew HQ0.out).trans qy); clear hy qy)
    all_goals
      obtain ⟨v1, h1, g1⟩ := HY.out
      have HG1 := hideIt g1
      have HSY : Hid (w.heap.size ≤ y.heap.size) := QY.out.size
      have h1' := h1.fm.row .work trivial
      obtain ⟨va, vc, ev⟩ := own_form h1'
      have eW : upd es (.inn k) (pushL (es (.inn k)) (a, b)) .work = es .work := upd_other _ _ (fun e => by cases e)
      have hby : base ≤ y.heap.size := Nat.le_trans hbase QY.out.size
      have hc6 : y.cell? ⟨B.Wk, 6, none⟩ = some (v1 .work) := (h1.fm.head .work trivial).1
      rw [eW] at ev
      rw [ev] at hc6
      have HR : Hid (∀ ob, (y.alloc ob).ownsRow base 3 1 (.slice va (es .work).length vc) (es .work).length (rowN .work (es .work))) := fun ob => by
        have := h1'.alloc ob
        rw [eW, ev] at this
        exact this
      have HE : Hid (upd es (.inn k) (pushL (es (.inn k)) (a, b)) .work = es .work) := eW
      have NXT := hideIt (fun (w1 : World) (g cap : Nat) => h1.wapp (w1 := w1) (g := g) (cap := cap) (z := (k : Int)) (va := va) (vc := vc) hby)
      rw [HE.out] at NXT
      have HEV := hideIt ev
      have HM := hideIt (show (es .work).length + 1 ≤ maxLen by unfold maxLen; omega)
      have HM2 := hideIt (show ((es .work).length + 1) * 8 ≤ 140737488355328 by omega)
      have HBY := hideIt hby
      have hc6' := fun ob => cell_keep ((Q.refl y).alloc ob) hc6
      clear h1 h1' ev eW g1
      go_wp2_with (first | (at_builtin; refine wpList_append_lies _ rfl _ _ 22 rfl base 3 i0 (.int .i64 0) 1 8 Tryd.underlying22 HT.out.1 HT.out.2.1 HT.out.2.2.1 HT.out.2.2.2 rfl (by decide) (.slice va (es .work).length vc) (es .work).length (rowN .work (es .work)) rfl (HR.out _) ⟨y.heap.size, 0, none⟩ 1 1 [.int .i64 (k : Int)] rfl rfl (World.news_of_block (heap_alloc_new y _)) (fun u hu => by simp at hu; subst hu; rfl) (by decide) HM.out HM2.out (by have := HBY.out; simp; omega) (y.heap.size + 1) (by simp) ?_; intro g cap w1 hown hgrow hat hlt; obtain ⟨t1, t2, t3, t4⟩ := NXT.out w1 g cap HEV.out hown hgrow hat; have H3 : Hid (∃ v', WM (w1.setCell ⟨B.Wk, 6, none⟩ (.slice (some ⟨g, 0, none⟩) ((es .work).length + 1) cap)) base B many words v' (upd (upd es (.inn k) (pushL (es (.inn k)) (a, b))) .work (es .work ++ [((k : Int), 0)])) wo ∧ Grw many words w v v') := (by obtain ⟨v2, a1, a2⟩ := t3; exact ⟨v2, a1, HG1.out.trans HSY.out a2⟩); have H4 := hideIt (QY.out.trans t4); clear hown hgrow hat t3 t4) | fail)
      go_end0
      exact ⟨rfl, H3.out, H4.out⟩

end Go.Proofs.YtdiidmmmemmjjaaDoor.Lv

namespace Go.Proofs.YtdiidmmmemmjjaaDoor.Lv
open Go.RowKit
set_option linter.unusedVariables false

theorem free_of_block {X : World} {b : Nat} {cs : Array Value} {t : TypeId} (h : X.heap[b]? = some (.cells cs t (0, 0))) (j : Nat) : X.frozen? ⟨b, j, none⟩ = false := by simp [World.frozen?, h]
theorem WM.box {w : World} {base : Nat} {B : Bl} {many words : Nat} {v : Vs} {es : Es} {wo : List Int} (h : WM w base B many words v es wo) {b j : Nat} {u : Value} (h1 : ¬ B.isB b) (h2 : ∀ m, okN many words m → (v m).ownBlock ≠ some b) : WM (w.setCell ⟨b, j, none⟩ u) base B many words v es wo := by
  have hk : ∀ i x, B.isB i → ∀ o, w.cell? ⟨i, o, none⟩ = some x → (w.setCell ⟨b, j, none⟩ u).cell? ⟨i, o, none⟩ = some x := fun i x hi o hx => set_cell_ne' hx (fun e => h1 (by injection e with e1 e2; rw [← e1]; exact hi))
  refine ⟨⟨h.fm.ok, fun m hm => ?_, fun m hm => row_q (h.fm.row m hm) (fun c hc => Below.heap_setCell w ⟨b, j, none⟩ u c (fun e => h2 m hm (by rw [hc, e]))), h.fm.inj, h.fm.far, fun c hc => by have := h.fm.lt c hc; simpa using this⟩, h.bs, hk _ _ (isB_Wk B) _ h.c0, hk _ _ (isB_Wk B) _ h.c1, hk _ _ (isB_Wk B) _ h.c2, hk _ _ (isB_Wk B) _ h.c3, hk _ _ (isB_Wk B) _ h.c4, hk _ _ (isB_Wk B) _ h.c5, h.wl, (Below.heap_setCell w ⟨b, j, none⟩ u B.Wo (fun e => h1 (by have e' : B.Wo = b := e; rw [← e']; exact isB_Wo B))).trans h.wb⟩
  obtain ⟨g1, g2⟩ := h.fm.head m hm
  exact ⟨hk _ _ (hb_is B m) _ g1, by rw [World.frozen?_setCell]; exact g2⟩
theorem WM.wo_at {w : World} {base : Nat} {B : Bl} {many words : Nat} {v : Vs} {es : Es} {wo : List Int} (h : WM w base B many words v es wo) {k : Nat} {x : Int} (hk : wo[k]? = some x) : w.cell? ⟨B.Wo, k, none⟩ = some (.int .u64 x) := by
  rw [cell_of_block h.wb]
  simp [hk]

/-- Some registers are live behind a part's end. -/
noncomputable def endE (es : Es) (wk : Int) (k : Nat) (e : Int × Int) : Es :=
  if newP (es (.out k)) e = true then
    (if bits .andNot .u64 e.2 wk = 0 then upd es (.out k) (pushL (es (.out k)) e) else begE (upd es (.out k) (pushL (es (.out k)) e)) k (e.1, bits .andNot .u64 e.2 wk))
  else upd es (.out k) (pushL (es (.out k)) e)

set_option maxRecDepth 100000 in
set_option maxHeartbeats 2000000 in
theorem end_any (w : World) (base : Nat) (B : Bl) (many words : Nat) (v : Vs) (es : Es) (wo : List Int) (h : WM w base B many words v es wo) (hbase : base ≤ w.heap.size) (k : Nat) (hk : k < many) (wk : Int) (hwk : wo[k]? = some wk) (a b : Int) (hl0 : (es (.out k)).length ≤ 1099511627775) (hl1 : (es (.inn k)).length ≤ 1099511627775) (hl2 : (es .work).length ≤ 1099511627775) :
    Calls Tryd.prog 46 #[.pointer (some ⟨B.Wk, 0, none⟩), .int .i64 (k : Int), .agg #[.int .i64 a, .int .u64 b]] w fun r w' => r = .returned (.tuple #[]) ∧ (∃ v', WM w' base B many words v' (endE es wk k (a, b)) wo ∧ Grw many words w v v') ∧ Below base w w' := by
  obtain ⟨X0, hX0⟩ : ∃ X0, w.alloc (.cells #[.int .i64 a, .int .u64 b] 80) = X0 := ⟨_, rfl⟩
  have q0 : Q w X0 := by rw [← hX0]; exact (Q.refl w).alloc _
  have s0 : X0.heap.size = w.heap.size + 1 := by rw [← hX0]; simp
  have bx : X0.heap[w.heap.size]? = some (.cells #[.int .i64 a, .int .u64 b] 80 (0, 0)) := by rw [← hX0]; exact heap_alloc_new w _
  have H0 := h.q q0
  have hm : okN many words (.out k) := hk
  have hbl : ∀ b, B.isB b → b < w.heap.size := h.fm.lt
  have PA : Hid (∀ X, Q X0 X → X.heap.size = X0.heap.size → Calls Tryd.prog 62 #[.pointer (some ⟨B.Ou, k, none⟩), .agg #[.int .i64 a, .int .u64 b]] X fun r w' => r = .returned (.bool (newP (es (.out k)) (a, b))) ∧ (∃ v', WM w' base B many words v' (upd es (.out k) (pushL (es (.out k)) (a, b))) wo ∧ Grw many words w v v' ∧ ∀ m, okN many words m → (v' m).ownBlock ≠ some w.heap.size) ∧ Below base w w' ∧ w'.heap[w.heap.size]? = some (.cells #[.int .i64 a, .int .u64 b] 80 (0, 0))) := fun X hX hs => by
    have HX := H0.q hX
    have hb : base ≤ X.heap.size := Nat.le_trans hbase (Nat.le_trans q0.size hX.size)
    refine (push_any X base B many words v es HX.fm hb (.out k) hm rfl hl0 (a, b)).mono fun r w' ⟨e1, nv, e2, e3, e4⟩ => ⟨e1, ⟨_, HX.fc hm e2 e3, (grw_upd rfl e4).pre (by omega), fun m hm' e => ?_⟩, ?_, ?_⟩
    · rcases (grw_upd (many := many) (words := words) (m := .out k) rfl e4).own m hm' _ e with q | q
      · have := ((h.fm.row m hm').lt _ q).2; omega
      · omega
    · exact Below.trans (Below.trans ⟨q0.os, q0.tape, q0.output, q0.size, fun c hc => q0.block c (by omega)⟩ ⟨hX.os, hX.tape, hX.output, hX.size, fun c hc => hX.block c (by omega)⟩) (HX.below hm e3 hb)
    · have hbX := heap_keep hX bx
      refine (e3.block _ (Array.getElem?_eq_some_iff.1 hbX).1 (fun e => ?_) (fun e => ?_)).trans hbX
      · have := hbl _ (hb_is B (.out k)); omega
      · have := ((h.fm.row (.out k) hm).lt _ e).2; omega
  have c4 := H0.c4
  have b0 : X0.cell? ⟨w.heap.size, 0, none⟩ = some (.int .i64 a) := (cell_of_block bx 0).trans rfl
  have b1 : X0.cell? ⟨w.heap.size, 1, none⟩ = some (.int .u64 b) := (cell_of_block bx 1).trans rfl
  have hkl : (k : Int) < (many : Int) := by omega
  have HX0 := hideIt hX0
  have HNB : Hid (¬ B.isB w.heap.size) := fun e => by have := hbl _ e; omega
  have HWK := hideIt hwk
  have HS0 : Hid (w.heap.size ≤ X0.heap.size) := q0.size
  clear h hX0 q0 bx H0 hwk s0 hbl
  unfold endE
  cases hn : newP (es (.out k)) (a, b) with
  | false =>
    rw [hn] at PA
    rw [if_neg (by simp)]
    go_enter Tryd.func46, Tryd.ntmps46
    go_wp2_with (fail)
    rw [show w.alloc (.cells #[.int .i64 a, .int .u64 b] 80) = X0 from HX0.out]
    go_region_with (go_at_call 62; refine Calls.mono (PA.out _ (by first | exact Q.refl _ | exact (Q.refl X0).drew | exact (Q.refl X0).drewN _) rfl) ?_; rintro e y ⟨rfl, hy, qy, -⟩; have HY := hideIt hy; have QY := hideIt qy; clear hy qy)
    all_goals go_wp2_with (fail)
    all_goals refine bodyPost_ret (v := .tuple #[]) (results_none rfl _ _ _) rfl ?_
    all_goals (obtain ⟨v1, h1, h2, -⟩ := HY.out; exact ⟨rfl, ⟨v1, h1, h2⟩, QY.out⟩)
  | true =>
    rw [hn] at PA
    rw [if_pos rfl]
    have NX : Hid (∀ y, (∃ v', WM y base B many words v' (upd es (.out k) (pushL (es (.out k)) (a, b))) wo ∧ Grw many words w v v' ∧ ∀ m, okN many words m → (v' m).ownBlock ≠ some w.heap.size) → Below base w y → ∃ v', WM (y.setCell ⟨w.heap.size, 1, none⟩ (.int .u64 (bits .andNot .u64 b wk))).drew base B many words v' (upd es (.out k) (pushL (es (.out k)) (a, b))) wo ∧ Grw many words w v v' ∧ Below base w (y.setCell ⟨w.heap.size, 1, none⟩ (.int .u64 (bits .andNot .u64 b wk))).drew) := fun y ⟨v', h1, h2, h3⟩ hy => ⟨v', (h1.box HNB.out h3).q (Q.refl _).drew, h2, Below.drew (Below.setCell hy (by show base ≤ w.heap.size; exact hbase) _)⟩
    have BG : Hid (∀ y v', WM y base B many words v' (upd es (.out k) (pushL (es (.out k)) (a, b))) wo → base ≤ y.heap.size → Calls Tryd.prog 45 #[.pointer (some ⟨B.Wk, 0, none⟩), .int .i64 (k : Int), .agg #[.int .i64 a, .int .u64 (bits .andNot .u64 b wk)]] y fun r w' => r = .returned (.tuple #[]) ∧ (∃ v2, WM w' base B many words v2 (begE (upd es (.out k) (pushL (es (.out k)) (a, b))) k (a, bits .andNot .u64 b wk)) wo ∧ Grw many words y v' v2) ∧ Below base y w') := fun y v' h1 hb => begin_any y base B many words v' _ wo h1 hb k hk a _ (by rw [upd_other _ _ (fun e => by cases e)]; exact hl1) (by rw [upd_other _ _ (fun e => by cases e)]; exact hl2)
    have CY : Hid (∀ y, (∃ v', WM y base B many words v' (upd es (.out k) (pushL (es (.out k)) (a, b))) wo ∧ Grw many words w v v' ∧ ∀ m, okN many words m → (v' m).ownBlock ≠ some w.heap.size) → y.heap[w.heap.size]? = some (.cells #[.int .i64 a, .int .u64 b] 80 (0, 0)) → y.cell? ⟨w.heap.size, 1, none⟩ = some (.int .u64 b) ∧ y.frozen? ⟨w.heap.size, 1, none⟩ = false ∧ y.cell? ⟨B.Wk, 5, none⟩ = some (.slice (some ⟨B.Wo, 0, none⟩) many many) ∧ y.cell? ⟨B.Wo, k, none⟩ = some (.int .u64 wk) ∧ (y.setCell ⟨w.heap.size, 1, none⟩ (.int .u64 (bits .andNot .u64 b wk))).drew.cell? ⟨w.heap.size, 0, none⟩ = some (.int .i64 a) ∧ (y.setCell ⟨w.heap.size, 1, none⟩ (.int .u64 (bits .andNot .u64 b wk))).drew.cell? ⟨w.heap.size, 1, none⟩ = some (.int .u64 (bits .andNot .u64 b wk))) := fun y ⟨v', h1, h2, h3⟩ hb => by
      have g1 : y.cell? ⟨w.heap.size, 1, none⟩ = some (.int .u64 b) := (cell_of_block hb 1).trans rfl
      exact ⟨g1, free_of_block hb 1, h1.c5, h1.wo_at HWK.out, set_cell_ne' ((cell_of_block hb 0).trans rfl) (fun e => by injection e with e1 e2; omega), World.cell?_setCell_same _ _ _ g1⟩
    by_cases hz : bits .andNot .u64 b wk = 0
    · have hz1 : (bits .andNot .u64 b wk != 0) = false := by simpa using hz
      rw [if_pos hz]
      clear hz
      go_enter Tryd.func46, Tryd.ntmps46
      go_wp2_with (fail)
      rw [show w.alloc (.cells #[.int .i64 a, .int .u64 b] 80) = X0 from HX0.out]
      go_region_with (go_at_call 62; refine Calls.mono (PA.out _ (by first | exact Q.refl _ | exact (Q.refl X0).drew | exact (Q.refl X0).drewN _) rfl) ?_; rintro e y ⟨rfl, hy, qy, by'⟩; have HY := hideIt (NX.out y hy qy); obtain ⟨d1, d2, d3, d4, d5, d6⟩ := CY.out y hy by'; have D5 := hideIt d5; have D6 := hideIt d6; clear hy qy by' d5 d6)
      all_goals go_wp2_with (fail)
      all_goals go_region
      all_goals
        obtain ⟨v1, h1, h2, h3⟩ := HY.out
        have H1 := hideIt h1
        have H2 := hideIt h2
        have H3 := hideIt h3
        have e5 := D5.out
        have e6 := D6.out
        clear h1 h2 h3 d1 d2 d3 d4 D5 D6 HY
        generalize (y.setCell ⟨w.heap.size, 1, none⟩ (.int .u64 (bits .andNot .u64 b wk))).drew = y2 at *
      all_goals
        go_wp2_with (fail)
        go_end0
        exact ⟨rfl, ⟨v1, H1.out, H2.out⟩, H3.out⟩
    · have hz1 : (bits .andNot .u64 b wk != 0) = true := by simpa using hz
      rw [if_neg hz]
      clear hz
      go_enter Tryd.func46, Tryd.ntmps46
      go_wp2_with (fail)
      rw [show w.alloc (.cells #[.int .i64 a, .int .u64 b] 80) = X0 from HX0.out]
      go_region_with (go_at_call 62; refine Calls.mono (PA.out _ (by first | exact Q.refl _ | exact (Q.refl X0).drew | exact (Q.refl X0).drewN _) rfl) ?_; rintro e y ⟨rfl, hy, qy, by'⟩; have HY := hideIt (NX.out y hy qy); obtain ⟨d1, d2, d3, d4, d5, d6⟩ := CY.out y hy by'; have D5 := hideIt d5; have D6 := hideIt d6; clear hy qy by' d5 d6)
      all_goals go_wp2_with (fail)
      all_goals go_region
      all_goals
        obtain ⟨v1, h1, h2, h3⟩ := HY.out
        have H1 := hideIt h1
        have H2 := hideIt h2
        have H3 := hideIt h3
        have e5 := D5.out
        have e6 := D6.out
        clear h1 h2 h3 d1 d2 d3 d4 D5 D6 HY
        generalize (y.setCell ⟨w.heap.size, 1, none⟩ (.int .u64 (bits .andNot .u64 b wk))).drew = y2 at *
      all_goals
        have BY := hideIt (BG.out y2 v1 H1.out (Nat.le_trans hbase H3.out.size))
        go_wp2_with (first | (go_at_call 45; refine BY.out.mono ?_; rintro e z ⟨rfl, ⟨v2, g1, g2⟩, qz⟩; have G1 := hideIt g1; have G2 := hideIt (H2.out.trans H3.out.size g2); have QZ := hideIt (H3.out.trans qz); clear g1 g2 qz) | fail)
        go_end0
        exact ⟨rfl, ⟨v2, G1.out, G2.out⟩, QZ.out⟩

end Go.Proofs.YtdiidmmmemmjjaaDoor.Lv

namespace Go.Proofs.YtdiidmmmemmjjaaDoor.Lv
open Go.RowKit
set_option linter.unusedVariables false

section
variable {w : World} {base : Nat} {B : Bl} {many words : Nat} {v : Vs} {es : Es} {wo : List Int}
theorem block_set {w : World} {b j : Nat} {cs : Array Value} {t : TypeId} (h : w.heap[b]? = some (.cells cs t (0, 0))) (u : Value) : (w.setCell ⟨b, j, none⟩ u).heap[b]? = some (.cells (cs.setIfInBounds j u) t (0, 0)) := by
  have hlt := (Array.getElem?_eq_some_iff.1 h).1
  have h' : w.heap[b] = .cells cs t (0, 0) := by simpa [Array.getElem?_eq_getElem hlt] using h
  show (w.heap.modify b _)[b]? = _
  rw [Array.getElem?_eq_getElem (by simpa using hlt), Array.getElem_modify_self, h']
  rfl

theorem Wo_far (h : B.ok) (m : Nm) : (hd B m).block ≠ B.Wo := fun e => hb_ne_Wo h m e.symm
/-- What a part writes is told. -/
theorem WM.setwo (h : WM w base B many words v es wo) (k : Nat) (x : Int) : WM (w.setCell ⟨B.Wo, k, none⟩ (.int .u64 x)) base B many words v es (wo.set k x) := by
  have hk : ∀ o u, w.cell? ⟨B.Wk, o, none⟩ = some u → (w.setCell ⟨B.Wo, k, none⟩ (.int .u64 x)).cell? ⟨B.Wk, o, none⟩ = some u := fun o u hu => set_cell_ne' hu (fun e => h.fm.ok.w (by injection e with e1 e2; exact e1.symm))
  refine ⟨⟨h.fm.ok, fun m hm => ?_, fun m hm => row_q (h.fm.row m hm) (fun c hc => Below.heap_setCell w ⟨B.Wo, k, none⟩ _ c (fun e => h.fm.far m hm c hc (by have e' : c = B.Wo := e; rw [e']; exact isB_Wo B))), h.fm.inj, h.fm.far, fun c hc => by have := h.fm.lt c hc; simpa using this⟩, h.bs, hk _ _ h.c0, hk _ _ h.c1, hk _ _ h.c2, hk _ _ h.c3, hk _ _ h.c4, hk _ _ h.c5, by rw [List.length_set]; exact h.wl, ?_⟩
  · obtain ⟨g1, g2⟩ := h.fm.head m hm
    exact ⟨set_cell_ne' g1 (fun e => Wo_far h.fm.ok m (by rw [e])), by rw [World.frozen?_setCell]; exact g2⟩
  · rw [block_set h.wb]
    simp [List.map_set]
/-- An element of a list of numbers. -/
theorem row_int {m : Nm} (hm : m.wd = false) {nv : Value} {l : List (Int × Int)} (h : w.ownsRow base (tyN m) (szN m) nv l.length (rowN m l)) {k : Nat} {e : Int × Int} (hk : l[k]? = some e) : ∃ g cap, nv = .slice (some ⟨g, 0, none⟩) l.length cap ∧ w.cell? ⟨g, k, none⟩ = some (.int .i64 e.1) := by
  have hkl := (List.getElem?_eq_some_iff.1 hk).1
  have hz : szN m = 1 := by simp [szN, hm]
  have hc : ∀ e, cellN m e = [.int .i64 e.1] := fun e => by simp [cellN, hm]
  obtain ⟨g, cap, hv⟩ : ∃ g cap, nv = .slice (some ⟨g, 0, none⟩) l.length cap := by
    obtain ⟨h1, h2 | ⟨g, cap, cur, e1, -⟩⟩ := h
    · omega
    · exact ⟨g, cap, e1⟩
  subst hv
  have at' : ∀ (l : List (Int × Int)) (k : Nat) (e : Int × Int), l[k]? = some e → (rowN m l)[k]? = some (.int .i64 e.1) := fun l => by
    induction l with
    | nil => intro k e hk; simp at hk
    | cons x l ih =>
      intro k e hk
      have hr : rowN m (x :: l) = .int .i64 x.1 :: rowN m l := by simp [rowN, hc]
      rw [hr]
      cases k with
      | zero => simp at hk; subst hk; rfl
      | succ k => simpa using ih k e (by simpa using hk)
  rw [hz] at h
  exact ⟨g, cap, rfl, (h.cellAt k (by omega)).trans (at' l k e hk)⟩
/-- The last of the work is taken. -/
theorem WM.cut (h : WM w base B many words v es wo) {l : List (Int × Int)} {e : Int × Int} (he : es .work = l ++ [e]) {g cap : Nat} (ev : v .work = .slice (some ⟨g, 0, none⟩) (l.length + 1) cap) : WM (w.setCell ⟨B.Wk, 6, none⟩ (.slice (some ⟨g, 0, none⟩) l.length cap)) base B many words (upd v .work (.slice (some ⟨g, 0, none⟩) l.length cap)) (upd es .work l) wo ∧ Grw many words w v (upd v .work (.slice (some ⟨g, 0, none⟩) l.length cap)) := by
  have hm : okN many words .work := trivial
  have hrow : w.ownsRow base (tyN .work) (szN .work) (.slice (some ⟨g, 0, none⟩) l.length cap) l.length (rowN .work l) := by
    have h0 := h.fm.row .work hm
    rw [ev, he, rowN_app, List.length_append] at h0
    obtain ⟨-, h2 | ⟨g', cap', cur, e1, e2, e3, e4, e5, e6, e7⟩⟩ := h0
    · have := h2.2; simp at this
    · injection e1 with e1 e8 e9
      injection e1 with e1
      injection e1 with e1 _
      subst e1
      subst e9
      refine ⟨rowN_len _ _, Or.inr ⟨g, cap, cur, rfl, e2, e3, by simp at e4; omega, e5, e6, ?_⟩⟩
      have h3 := congrArg (List.take (l.length * szN .work)) e7
      rw [List.take_take, List.take_left' (rowN_len _ _)] at h3
      rw [← h3]
      congr 1
      have : szN .work = 1 := rfl
      rw [this]
      simp
  obtain ⟨r1, r2⟩ := h.fm.next hm (w1 := w) ⟨rfl, rfl, rfl, Nat.le_refl _, fun _ _ _ => rfl⟩ hrow (Or.inl (by rw [ev]; rfl))
  exact ⟨h.fc hm r1 r2, grw_upd rfl (fun b hb => Or.inl (by rw [ev]; exact hb))⟩
end

/-- What the parts write, told. -/
def setW (wo : List Int) (l : List (Int × Int)) : List Int := l.foldl (fun wo e => wo.set e.1.toNat e.2) wo
def clrW (wo : List Int) (l : List (Int × Int)) : List Int := l.foldl (fun wo e => wo.set e.1.toNat 0) wo
noncomputable def begL (es : Es) (a : Int) (l : List (Int × Int)) : Es := l.foldl (fun es e => begE es e.1.toNat (a, e.2)) es
theorem setW_snoc (wo : List Int) (l : List (Int × Int)) (e : Int × Int) : setW wo (l ++ [e]) = (setW wo l).set e.1.toNat e.2 := by simp [setW]
theorem clrW_snoc (wo : List Int) (l : List (Int × Int)) (e : Int × Int) : clrW wo (l ++ [e]) = (clrW wo l).set e.1.toNat 0 := by simp [clrW]
theorem begL_snoc (es : Es) (a : Int) (l : List (Int × Int)) (e : Int × Int) : begL es a (l ++ [e]) = begE (begL es a l) e.1.toNat (a, e.2) := by simp [begL]
theorem setW_len (l : List (Int × Int)) : ∀ wo, (setW wo l).length = wo.length := by
  induction l with
  | nil => intro wo; rfl
  | cons e l ih => intro wo; simp only [setW, List.foldl_cons] at ih ⊢; rw [ih]; simp
theorem take_snoc {α : Type} {l : List α} {i : Nat} {x : α} (h : l[i]? = some x) : l.take (i + 1) = l.take i ++ [x] := by rw [List.take_add_one, h]; rfl

end Go.Proofs.YtdiidmmmemmjjaaDoor.Lv

namespace Go.Proofs.YtdiidmmmemmjjaaDoor.Lv
open Go.RowKit
set_option linter.unusedVariables false

abbrev bd : Nat := 1099511627775
def inM (many : Nat) (x : Int) : Prop := 0 ≤ x ∧ x < many
/-- What is asked of a state while it goes back. -/
structure Side (many a : Nat) (es0 es : Es) : Prop where
  inn : ∀ k, k < many → (es (.inn k)).length ≤ bd
  out : ∀ k, k < many → (es (.out k)).length ≤ bd
  wkl : (es .work).length ≤ bd
  work : ∀ e ∈ es .work, inM many e.1
  fr : ∀ k, es (.fr k) = es0 (.fr k)
  rd : es (.rd a) = es0 (.rd a)
  wt : es (.wt a) = es0 (.wt a)
/-- What holds while it goes back, and what gets less. -/
structure Keeps (many a : Nat) (wo : List Int) (es0 : Es) (J : Es → Prop) (J2 : Nat → Nat → Es → Prop) (mu : Es → Nat) : Prop where
  side : ∀ es, J es → Side many a es0 es
  side2 : ∀ k i es, J2 k i es → k < many ∧ Side many a es0 es
  pop : ∀ es l e, J es → es .work = l ++ [e] → J2 e.1.toNat 0 (upd es .work l) ∧ mu (upd es .work l) < mu es
  step : ∀ k i es x wk, J2 k i es → (es0 (.fr k))[i]? = some x → wo[x.1.toNat]? = some wk → J2 k (i + 1) (endE es wk x.1.toNat ((a : Int), lastOf (es (.inn k)) a)) ∧ mu (endE es wk x.1.toNat ((a : Int), lastOf (es (.inn k)) a)) ≤ mu es
  fin : ∀ k es, J2 k (es0 (.fr k)).length es → J es

set_option maxRecDepth 100000 in
set_option maxHeartbeats 8000000 in
theorem back_any (w : World) (base : Nat) (B : Bl) (many words : Nat) (v : Vs) (es : Es) (wo0 : List Int) (h : WM w base B many words v es wo0) (hbase : base ≤ w.heap.size) (a : Nat) (ha : a < words)
    (hW : ∀ e ∈ es (.wt a), inM many e.1) (hWl : (es (.wt a)).length ≤ bd) (hR : ∀ e ∈ es (.rd a), inM many e.1) (hRl : (es (.rd a)).length ≤ bd) (hF : ∀ k, k < many → (es (.fr k)).length ≤ bd ∧ ∀ e ∈ es (.fr k), inM many e.1)
    (h2 : ∀ i, i ≤ (es (.rd a)).length → Side many a es (begL es a ((es (.rd a)).take i))) (J : Es → Prop) (J2 : Nat → Nat → Es → Prop) (mu : Es → Nat) (hK : Keeps many a (setW wo0 (es (.wt a))) es J J2 mu) (h3 : J (begL es a (es (.rd a)))) :
    Calls Tryd.prog 23 #[.pointer (some ⟨B.Wk, 0, none⟩), .int .i64 (a : Int)] w fun r w' => r = .returned (.tuple #[]) ∧ (∃ v' es', WM w' base B many words v' es' (clrW (setW wo0 (es (.wt a))) (es (.wt a))) ∧ J es' ∧ es' .work = [] ∧ Grw many words w v v') ∧ Below base w w' := by
  have HW := hideIt hW
  have HRR := hideIt hR
  have HF := hideIt hF
  have HK := hideIt hK
  have HS2 := hideIt h2
  have HJ3 := hideIt h3
  have hal : (a : Int) < (words : Int) := by omega
  obtain ⟨va, vc, ev⟩ := own_form (h.fm.row (.wt a) ha)
  have HEV := hideIt ev
  have c2 := h.c2
  have cw : w.cell? ⟨B.Wt, a, none⟩ = some (.slice va (es (.wt a)).length vc) := by have := (h.fm.head (.wt a) ha).1; rw [ev] at this; exact this
  have H0 : Hid (WM w base B many words v es (setW wo0 ((es (.wt a)).take 0))) := h
  have hwlen : (es (.wt a)).length ≤ 9223372036854775807 := by have : (es (.wt a)).length ≤ 1099511627775 := hWl; omega
  clear hW hR hF hK h2 h3 ev h
  go_enter Tryd.func23, Tryd.ntmps23
  go_wp2_with (fail)
  clear c2 cw
  go_loopw [22] (fun iv z => ∃ i : Nat, iv = .int .i64 (i : Int) ∧ i ≤ (es (.wt a)).length ∧ Hid (WM z base B many words v es (setW wo0 ((es (.wt a)).take i)) ∧ Below base w z)) (fun iv _ => (es (.wt a)).length - (intOf iv).toNat)
  case atStart => exact ⟨0, rfl, Nat.zero_le _, H0.out, Below.refl _ _⟩
  case round =>
    obtain ⟨i, rfl, hi, HI⟩ := hrel
    generalize wr = z1 at *
    clear H0
    by_cases hlt : i < (es (.wt a)).length
    · obtain ⟨x, hx⟩ := get_of_lt hlt
      obtain ⟨x1, x2⟩ := HW.out x (List.mem_of_getElem? hx)
      obtain ⟨k, hk⟩ : ∃ k : Nat, x.1 = (k : Int) := ⟨x.1.toNat, by omega⟩
      have hr := HI.out.1.fm.row (.wt a) ha
      obtain ⟨g, cap, eg, d1, d2, -⟩ := row_word rfl hr hx
      rw [HEV.out] at eg
      have eva : va = some ⟨g, 0, none⟩ := by injection eg
      rw [hk] at d1
      obtain ⟨u0, hu0⟩ := get_of_lt (l := setW wo0 ((es (.wt a)).take i)) (k := k) (by rw [HI.out.1.wl]; omega)
      have hib : (i : Int) < ((es (.wt a)).length : Int) := by omega
      have hkm : (k : Int) < (many : Int) := by omega
      have CX : Hid (∀ ob, (z1.alloc ob).cell? ⟨B.Wk, 5, none⟩ = some (.slice (some ⟨B.Wo, 0, none⟩) many many) ∧ (z1.alloc ob).cell? ⟨B.Wo, k, none⟩ = some (.int .u64 u0) ∧ (z1.alloc ob).frozen? ⟨B.Wo, k, none⟩ = false) := fun ob => by
        have q : Q z1 (z1.alloc ob) := (Q.refl z1).alloc ob
        have hq := HI.out.1.q q
        exact ⟨hq.c5, hq.wo_at hu0, free_of_block hq.wb k⟩
      have NX : Hid (∀ ob, WM ((z1.alloc ob).setCell ⟨B.Wo, k, none⟩ (.int .u64 x.2)).drew base B many words v es (setW wo0 ((es (.wt a)).take (i + 1))) ∧ Below base w ((z1.alloc ob).setCell ⟨B.Wo, k, none⟩ (.int .u64 x.2)).drew) := fun ob => by
        have q : Q z1 (z1.alloc ob) := (Q.refl z1).alloc ob
        have hq := ((HI.out.1.q q).setwo k x.2).q (Q.refl _).drew
        rw [take_snoc hx, setW_snoc, hk, Int.toNat_natCast]
        refine ⟨hq, Below.drew (Below.setCell (HI.out.2.trans ⟨q.os, q.tape, q.output, q.size, fun b hb => q.block b (by have := HI.out.2.size; omega)⟩) (HI.out.1.bs _ (isB_Wo B)) _)⟩
      have e1 := fun ob => (CX.out ob).1
      have e2 := fun ob => (CX.out ob).2.1
      have e3 := fun ob => (CX.out ob).2.2
      clear hx hr hk x1 x2 hu0
      subst eva
      go_wp2_with (fail)
      go_region
      go_wp2_with (fail)
      exact ⟨⟨i + 1, by go_num, by omega, NX.out _⟩, by simp [intOf]; omega⟩
    · have hib : ¬ (i : Int) < ((es (.wt a)).length : Int) := by omega
      have ei : i = (es (.wt a)).length := by omega
      have M1 : Hid (WM z1 base B many words v es (setW wo0 (es (.wt a))) ∧ Below base w z1) := by
        have := HI.out
        rw [ei, List.take_length] at this
        exact this
      clear HI ei
      obtain ⟨vb, vd, ev2⟩ := own_form (M1.out.1.fm.row (.rd a) ha)
      have HEV2 := hideIt ev2
      have c1 := M1.out.1.c1
      have cr : z1.cell? ⟨B.Rd, a, none⟩ = some (.slice vb (es (.rd a)).length vd) := by have := (M1.out.1.fm.head (.rd a) ha).1; rw [ev2] at this; exact this
      have hrlen : (es (.rd a)).length ≤ 9223372036854775807 := by have : (es (.rd a)).length ≤ 1099511627775 := hRl; omega
      have M2 : Hid (∃ v', WM z1 base B many words v' (begL es a ((es (.rd a)).take 0)) (setW wo0 (es (.wt a))) ∧ Grw many words w v v') := ⟨v, M1.out.1, Grw.refl _ _ _ _⟩
      have Q2 : Hid (Below base w z1) := M1.out.2
      generalize hwo : setW wo0 (es (.wt a)) = wo at *
      have HWO := hideIt hwo
      clear hwo
      clear ev2 M1
      go_wp2_with (fail)
      clear c1 cr
      go_loopw [44] (fun iv z => ∃ i : Nat, iv = .int .i64 (i : Int) ∧ i ≤ (es (.rd a)).length ∧ Hid ((∃ v', WM z base B many words v' (begL es a ((es (.rd a)).take i)) wo ∧ Grw many words w v v') ∧ Below base w z)) (fun iv _ => (es (.rd a)).length - (intOf iv).toNat)
      case atStart => exact ⟨0, rfl, Nat.zero_le _, M2.out, Q2.out⟩
      case round =>
        obtain ⟨i2, rfl, hi2, HI⟩ := hrel
        generalize wr = z2 at *
        clear M2 Q2
        by_cases hlt2 : i2 < (es (.rd a)).length
        · obtain ⟨x, hx⟩ := get_of_lt hlt2
          obtain ⟨x1, x2⟩ := HRR.out x (List.mem_of_getElem? hx)
          obtain ⟨k, hk⟩ : ∃ k : Nat, x.1 = (k : Int) := ⟨x.1.toNat, by omega⟩
          have S := HS2.out i2 hi2
          obtain ⟨⟨v1, m1, g1⟩, b1⟩ := HI.out
          have hr := m1.fm.row (.rd a) ha
          rw [S.rd, (g1.kp a).2.1] at hr
          obtain ⟨g, cap, eg, d1, d2, -⟩ := row_word rfl hr hx
          rw [HEV2.out] at eg
          have evb : vb = some ⟨g, 0, none⟩ := by injection eg
          rw [hk] at d1
          have hib2 : (i2 : Int) < ((es (.rd a)).length : Int) := by omega
          have hkm : (k : Int) < (many : Int) := by omega
          have hkn : k < many := by omega
          have BG : Hid (∀ X, Q z2 X → Calls Tryd.prog 45 #[.pointer (some ⟨B.Wk, 0, none⟩), .int .i64 (k : Int), .agg #[.int .i64 (a : Int), .int .u64 x.2]] X fun r w' => r = .returned (.tuple #[]) ∧ (∃ v', WM w' base B many words v' (begL es a ((es (.rd a)).take (i2 + 1))) wo ∧ Grw many words w v v') ∧ Below base w w') := fun X q => by
            have hs : w.heap.size ≤ z2.heap.size := b1.size
            refine (begin_any X base B many words v1 _ wo (m1.q q) (Nat.le_trans hbase (Nat.le_trans hs q.size)) k hkn (a : Int) x.2 (S.inn k hkn) S.wkl).mono ?_
            rintro e y ⟨rfl, ⟨v2, h1, h2⟩, h3⟩
            refine ⟨rfl, ⟨v2, ?_, g1.trans (Nat.le_trans hs q.size) h2⟩, (b1.trans ⟨q.os, q.tape, q.output, q.size, fun b hb => q.block b (by omega)⟩).trans h3⟩
            rw [take_snoc hx, begL_snoc, hk, Int.toNat_natCast]
            exact h1
          clear hx hr hk x1 x2 S m1 g1 b1
          subst evb
          go_wp2_with (first | (go_at_call 45; refine Calls.mono (BG.out _ (by first | exact (Q.refl _).alloc _ | exact ((Q.refl _).alloc _).drew)) ?_; rintro e y ⟨rfl, hy, qy⟩; have HY := hideIt hy; have QY := hideIt qy; clear hy qy) | fail)
          exact ⟨⟨i2 + 1, by go_num, by omega, HY.out, QY.out⟩, by simp [intOf]; omega⟩
        · have hib2 : ¬ (i2 : Int) < ((es (.rd a)).length : Int) := by omega
          have ei : i2 = (es (.rd a)).length := by omega
          have M3 : Hid ((∃ v' es', WM z2 base B many words v' es' wo ∧ J es' ∧ mu es' ≤ mu (begL es a (es (.rd a))) ∧ Grw many words w v v') ∧ Below base w z2) := by
            have := HI.out
            rw [ei, List.take_length] at this
            obtain ⟨⟨v1, m1, g1⟩, b1⟩ := this
            exact ⟨⟨v1, _, m1, HJ3.out, Nat.le_refl _, g1⟩, b1⟩
          generalize mu (begL es a (es (.rd a))) = n0 at *
          clear HI ei HJ3
          go_wp2_with (fail)
          go_loopg [] n0 (fun gk z => Hid ((∃ v' es', WM z base B many words v' es' wo ∧ J es' ∧ mu es' ≤ gk ∧ Grw many words w v v') ∧ Below base w z))
          case atStart => exact M3.out
          case round =>
            generalize wr = z3 at *
            clear M3
            obtain ⟨⟨v1, es1, m1, j1, u1, g1⟩, b1⟩ := hrel.out
            have S := HK.out.side es1 j1
            have hs3 : w.heap.size ≤ z3.heap.size := b1.size
            rcases List.eq_nil_or_concat (es1 .work) with hw | ⟨l, e, hw⟩
            · have hc6 : z3.cell? ⟨B.Wk, 6, none⟩ = some (v1 .work) := (m1.fm.head .work trivial).1
              obtain ⟨ya, yc, ey⟩ := own_form (m1.fm.row .work trivial)
              rw [hw] at ey
              rw [ey] at hc6
              have c2 := m1.c2
              have cw : z3.cell? ⟨B.Wt, a, none⟩ = some (.slice va (es (.wt a)).length vc) := by have := (m1.fm.head (.wt a) ha).1; rw [(g1.kp a).2.2, HEV.out] at this; exact this
              have M5 : Hid ((∃ v' es', WM z3 base B many words v' es' (clrW wo ((es (.wt a)).take 0)) ∧ J es' ∧ es' .work = [] ∧ es' (.wt a) = es (.wt a) ∧ Grw many words w v v') ∧ Below base w z3) := ⟨⟨v1, es1, m1, j1, hw, S.wt, g1⟩, b1⟩
              clear hw ey m1 j1 u1 g1 b1 S hrel
              go_wp2_with (fail)
              clear c2 cw hc6
              go_loopw [121] (fun iv z => ∃ i : Nat, iv = .int .i64 (i : Int) ∧ i ≤ (es (.wt a)).length ∧ Hid ((∃ v' es', WM z base B many words v' es' (clrW wo ((es (.wt a)).take i)) ∧ J es' ∧ es' .work = [] ∧ es' (.wt a) = es (.wt a) ∧ Grw many words w v v') ∧ Below base w z)) (fun iv _ => (es (.wt a)).length - (intOf iv).toNat)
              case atStart => exact ⟨0, rfl, Nat.zero_le _, M5.out⟩
              case round =>
                obtain ⟨i5, rfl, hi5, HI⟩ := hrel
                generalize wr = z5 at *
                clear M5
                by_cases hlt5 : i5 < (es (.wt a)).length
                · obtain ⟨x, hx⟩ := get_of_lt hlt5
                  obtain ⟨x1, x2⟩ := HW.out x (List.mem_of_getElem? hx)
                  obtain ⟨k, hk⟩ : ∃ k : Nat, x.1 = (k : Int) := ⟨x.1.toNat, by omega⟩
                  obtain ⟨⟨v1, es1, m1, j1, w1, y1, g1⟩, b1⟩ := HI.out
                  have hr := m1.fm.row (.wt a) ha
                  rw [y1, (g1.kp a).2.2] at hr
                  obtain ⟨g, cap, eg, d1, d2, -⟩ := row_word rfl hr hx
                  rw [HEV.out] at eg
                  have eva : va = some ⟨g, 0, none⟩ := by injection eg
                  rw [hk] at d1
                  obtain ⟨u0, hu0⟩ := get_of_lt (l := clrW wo ((es (.wt a)).take i5)) (k := k) (by rw [m1.wl]; omega)
                  have hib5 : (i5 : Int) < ((es (.wt a)).length : Int) := by omega
                  have hkm : (k : Int) < (many : Int) := by omega
                  have CX : Hid (∀ ob, (z5.alloc ob).cell? ⟨B.Wk, 5, none⟩ = some (.slice (some ⟨B.Wo, 0, none⟩) many many) ∧ (z5.alloc ob).cell? ⟨B.Wo, k, none⟩ = some (.int .u64 u0) ∧ (z5.alloc ob).frozen? ⟨B.Wo, k, none⟩ = false) := fun ob => by
                    have q : Q z5 (z5.alloc ob) := (Q.refl z5).alloc ob
                    have hq := m1.q q
                    exact ⟨hq.c5, hq.wo_at hu0, free_of_block hq.wb k⟩
                  have NX : Hid (∀ ob, (∃ v' es', WM ((z5.alloc ob).setCell ⟨B.Wo, k, none⟩ (.int .u64 0)).drew base B many words v' es' (clrW wo ((es (.wt a)).take (i5 + 1))) ∧ J es' ∧ es' .work = [] ∧ es' (.wt a) = es (.wt a) ∧ Grw many words w v v') ∧ Below base w ((z5.alloc ob).setCell ⟨B.Wo, k, none⟩ (.int .u64 0)).drew) := fun ob => by
                    have q : Q z5 (z5.alloc ob) := (Q.refl z5).alloc ob
                    have hq := ((m1.q q).setwo k 0).q (Q.refl _).drew
                    rw [take_snoc hx, clrW_snoc, hk, Int.toNat_natCast]
                    refine ⟨⟨v1, es1, hq, j1, w1, y1, g1⟩, Below.drew (Below.setCell (b1.trans ⟨q.os, q.tape, q.output, q.size, fun b hb => q.block b (by have := b1.size; omega)⟩) (m1.bs _ (isB_Wo B)) _)⟩
                  have e1 := fun ob => (CX.out ob).1
                  have e2 := fun ob => (CX.out ob).2.1
                  have e3 := fun ob => (CX.out ob).2.2
                  clear hx hr hk x1 x2 hu0 m1 j1 w1 y1 g1 b1
                  subst eva
                  go_wp2_with (fail)
                  go_region
                  go_wp2_with (fail)
                  exact ⟨⟨i5 + 1, by go_num, by omega, NX.out _⟩, by simp [intOf]; omega⟩
                · have hib5 : ¬ (i5 : Int) < ((es (.wt a)).length : Int) := by omega
                  have ei : i5 = (es (.wt a)).length := by omega
                  have M6 : Hid ((∃ v' es', WM z5 base B many words v' es' (clrW wo (es (.wt a))) ∧ J es' ∧ es' .work = [] ∧ Grw many words w v v') ∧ Below base w z5) := by
                    have := HI.out
                    rw [ei, List.take_length] at this
                    obtain ⟨⟨v1, es1, m1, j1, w1, y1, g1⟩, b1⟩ := this
                    exact ⟨⟨v1, es1, m1, j1, w1, g1⟩, b1⟩
                  clear HI ei
                  go_wp2_with (fail)
                  go_end0
                  exact ⟨rfl, HWO.out ▸ M6.out.1, M6.out.2⟩
            · rw [List.concat_eq_append] at hw
              obtain ⟨e1, e2⟩ := S.work e (by rw [hw]; simp)
              obtain ⟨k, hk⟩ : ∃ k : Nat, e.1 = (k : Int) := ⟨e.1.toNat, by omega⟩
              have hc6 : z3.cell? ⟨B.Wk, 6, none⟩ = some (v1 .work) := (m1.fm.head .work trivial).1
              have hf6 : z3.frozen? ⟨B.Wk, 6, none⟩ = false := (m1.fm.head .work trivial).2
              obtain ⟨g, cap, ey, d1⟩ := row_int rfl (m1.fm.row .work trivial) (k := l.length) (e := e) (by rw [hw]; simp)
              have hcap : l.length + 1 ≤ cap := by
                have h0 := m1.fm.row .work trivial
                rw [ey, hw] at h0
                obtain ⟨-, h2 | ⟨g', cap', cur, q1, q2, q3, q4, -⟩⟩ := h0
                · have := h2.2; simp at this
                · injection q1 with q1 q8 q9
                  subst q9
                  simpa using q4
              rw [hw, List.length_append] at ey
              rw [ey] at hc6
              have hkn : k < many := by omega
              obtain ⟨f1, f2⟩ := HK.out.pop es1 l e j1 hw
              rw [hk, Int.toNat_natCast] at f1
              obtain ⟨p1, p2⟩ := m1.cut hw ey
              have hln : l.length ≤ 1099511627775 := by have : (es1 .work).length ≤ 1099511627775 := S.wkl; rw [hw] at this; simp at this; omega
              have J4 := f1
              obtain ⟨-, S2⟩ := HK.out.side2 k 0 _ f1
              have eF : upd es1 .work l (.fr k) = es (.fr k) := S2.fr k
              have G4 := g1.trans hs3 p2
              have evF : upd v1 .work (.slice (some ⟨g, 0, none⟩) l.length cap) (.fr k) = v (.fr k) := (G4.kp k).1
              have hrF := p1.fm.row (.fr k) hkn
              rw [eF, evF] at hrF
              obtain ⟨fa, fc, eFv⟩ := own_form hrF
              have c0 := p1.c0
              have cF : (z3.setCell ⟨B.Wk, 6, none⟩ (.slice (some ⟨g, 0, none⟩) l.length cap)).cell? ⟨B.F, k, none⟩ = some (.slice fa (es (.fr k)).length fc) := by have := (p1.fm.head (.fr k) hkn).1; rw [evF, eFv] at this; exact this
              have HEF := hideIt eFv
              have M4 : Hid ((∃ v' es', WM (z3.setCell ⟨B.Wk, 6, none⟩ (.slice (some ⟨g, 0, none⟩) l.length cap)) base B many words v' es' wo ∧ J2 k 0 es' ∧ mu es' < gk ∧ Grw many words w v v') ∧ Below base w (z3.setCell ⟨B.Wk, 6, none⟩ (.slice (some ⟨g, 0, none⟩) l.length cap))) := ⟨⟨_, _, p1, J4, by omega, G4⟩, Below.setCell b1 (m1.bs _ (isB_Wk B)) _⟩
              have hkm : (k : Int) < (many : Int) := by omega
              have hFl : (es (.fr k)).length ≤ 9223372036854775807 := by have : (es (.fr k)).length ≤ 1099511627775 := (HF.out k hkn).1; omega
              simp only [List.length_singleton] at hc6
              rw [hk] at d1
              clear hw ey m1 j1 u1 g1 b1 S hrel p1 p2 f1 f2 J4 S2 eF G4 evF hrF eFv e1 e2 hk
              generalize l.length = n at *
              go_wp2_with (fail)
              clear c0 cF hc6 hf6 d1 hcap
              generalize z3.setCell ⟨B.Wk, 6, none⟩ (.slice (some ⟨g, 0, none⟩) n cap) = z4 at *
              go_loopw [93] (fun iv z => ∃ i : Nat, iv = .int .i64 (i : Int) ∧ i ≤ (es (.fr k)).length ∧ Hid ((∃ v' es', WM z base B many words v' es' wo ∧ J2 k i es' ∧ mu es' < gk ∧ Grw many words w v v') ∧ Below base w z)) (fun iv _ => (es (.fr k)).length - (intOf iv).toNat)
              case atStart => exact ⟨0, rfl, Nat.zero_le _, M4.out⟩
              case round =>
                obtain ⟨i4, rfl, hi4, HI⟩ := hrel
                generalize wr = z5 at *
                clear M4
                by_cases hlt4 : i4 < (es (.fr k)).length
                · obtain ⟨x, hx⟩ := get_of_lt hlt4
                  obtain ⟨x1, x2⟩ := (HF.out k hkn).2 x (List.mem_of_getElem? hx)
                  obtain ⟨j, hj⟩ : ∃ j : Nat, x.1 = (j : Int) := ⟨x.1.toNat, by omega⟩
                  obtain ⟨⟨v1, es1, m1, j1, w1, g1⟩, b1⟩ := HI.out
                  obtain ⟨-, S⟩ := HK.out.side2 k i4 es1 j1
                  have hr := m1.fm.row (.fr k) hkn
                  rw [S.fr k, (g1.kp k).1] at hr
                  obtain ⟨fg, fcap, eg, d1⟩ := row_int rfl hr hx
                  rw [HEF.out] at eg
                  have eva : fa = some ⟨fg, 0, none⟩ := by injection eg
                  have hjn : j < many := by omega
                  obtain ⟨wk, hwk⟩ := get_of_lt (l := wo) (k := j) (by rw [m1.wl]; omega)
                  obtain ⟨f1, f2⟩ := HK.out.step k i4 es1 x wk j1 hx (by rw [hj]; exact hwk)
                  rw [hj, Int.toNat_natCast] at f1 f2
                  rw [hj] at d1
                  have hib4 : (i4 : Int) < ((es (.fr k)).length : Int) := by omega
                  have hri := m1.fm.row (.inn k) hkn
                  obtain ⟨na, nc, en⟩ := own_form hri
                  have ci : z5.cell? ⟨B.In, k, none⟩ = some (.slice na (es1 (.inn k)).length nc) := by have := (m1.fm.head (.inn k) hkn).1; rw [en] at this; exact this
                  have c3 := m1.c3
                  have hbi : (es1 (.inn k)).length ≤ 1099511627775 := S.inn k hkn
                  have LA : Hid (Calls Tryd.prog 47 #[.slice na (es1 (.inn k)).length nc, .int .i64 (a : Int)] z5 fun e w' => e = .returned (.int .u64 (lastOf (es1 (.inn k)) a)) ∧ w' = z5) := by
                    rw [← en]
                    exact last_any z5 base (v1 (.inn k)) (.inn k) rfl _ hri (by omega) a
                  have hs5 : w.heap.size ≤ z5.heap.size := b1.size
                  have EN : Hid (Calls Tryd.prog 46 #[.pointer (some ⟨B.Wk, 0, none⟩), .int .i64 (j : Int), .agg #[.int .i64 (a : Int), .int .u64 (lastOf (es1 (.inn k)) a)]] z5 fun r w' => r = .returned (.tuple #[]) ∧ (∃ v' es', WM w' base B many words v' es' wo ∧ J2 k (i4 + 1) es' ∧ mu es' < gk ∧ Grw many words w v v') ∧ Below base w w') := by
                    refine (end_any z5 base B many words v1 es1 wo m1 (Nat.le_trans hbase hs5) j hjn wk hwk (a : Int) (lastOf (es1 (.inn k)) a) (S.out j hjn) (S.inn j hjn) S.wkl).mono ?_
                    rintro e y ⟨rfl, ⟨v2, h1, h2⟩, h3⟩
                    exact ⟨rfl, ⟨v2, _, h1, f1, Nat.lt_of_le_of_lt f2 w1, g1.trans hs5 h2⟩, b1.trans h3⟩
                  clear hx hr hj x1 x2 m1 j1 w1 g1 b1 S hwk f1 f2 hri en
                  subst eva
                  go_wp2_with (first | (go_at_call 47; refine LA.out.mono ?_; rintro e y ⟨rfl, rfl⟩) | (go_at_call 46; refine EN.out.mono ?_; rintro e y ⟨rfl, hy, qy⟩; have HY := hideIt hy; have QY := hideIt qy; clear hy qy) | fail)
                  exact ⟨⟨i4 + 1, by go_num, by omega, HY.out, QY.out⟩, by simp [intOf]; omega⟩
                · have hib4 : ¬ (i4 : Int) < ((es (.fr k)).length : Int) := by omega
                  have ei : i4 = (es (.fr k)).length := by omega
                  have M6 : Hid (∃ gk', gk' < gk ∧ (∃ v' es', WM z5 base B many words v' es' wo ∧ J es' ∧ mu es' ≤ gk' ∧ Grw many words w v v') ∧ Below base w z5) := by
                    have := HI.out
                    rw [ei] at this
                    obtain ⟨⟨v1, es1, m1, j1, w1, g1⟩, b1⟩ := this
                    exact ⟨mu es1, w1, ⟨v1, es1, m1, HK.out.fin k es1 j1, Nat.le_refl _, g1⟩, b1⟩
                  clear HI ei
                  obtain ⟨gk', hgk, hq⟩ := M6.out
                  have HQ := hideIt hq
                  clear hq M6
                  go_wp2_with (fail)
                  go_roundg gk'
                  case measure => exact hgk
                  case rel => exact HQ.out

end Go.Proofs.YtdiidmmmemmjjaaDoor.Lv
