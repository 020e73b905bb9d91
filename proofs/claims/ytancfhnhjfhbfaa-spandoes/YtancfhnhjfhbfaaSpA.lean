/-
  What the small functions of layer 10 (span), and of the document's answer for it, return: contracts over the program, for every span of two values of 64 bits.
-/
import Derived.Test.YtancfhnhjfhbfaaBaseB
import Derived.Laws.Rows
import Derived.Deep.RegionWith
import Derived.Deep.RegionHeld3
namespace Burin
/-- Is it none? -/
def nonB (l h : Int) : Bool := decide (h < l)
def inB (al ah bl bh : Int) : Bool := nonB al ah || (decide (bl ≤ al) && decide (ah ≤ bh))
def joL (al ah bl bh : Int) : Int := if nonB al ah then bl else if nonB bl bh then al else min al bl
def joH (al ah bl bh : Int) : Int := if nonB al ah then bh else if nonB bl bh then ah else max ah bh
def rtB (t l h : Int) : Bool := !nonB l h && inB l h (low t) (high t)
end Burin
namespace Go.Proofs.Ytancfhnhjfhbfaa
open Go.RowKit
open Burin
set_option linter.unusedVariables false

/-- A span as a value. -/
abbrev spV (l h : Int) : Value := .agg #[.int .i64 l, .int .i64 h]

/-- The world behind the box of a span. -/
abbrev bx (w : World) (l h : Int) : World := w.alloc (.cells #[.int .i64 l, .int .i64 h] 23)
theorem hideIt {p : Prop} (h : p) : Hid p := h
theorem heap_new (w : World) (o : Obj) : (w.alloc o).heap[w.heap.size]? = some o := heap_alloc_new w o
theorem bx_size (w : World) (l h : Int) : (bx w l h).heap.size = w.heap.size + 1 := by simp [bx]
theorem cell_blk {w : World} {b : Nat} {cs : Array Value} {t : TypeId} (h : w.heap[b]? = some (.cells cs t (0, 0))) (j : Nat) : w.cell? ⟨b, j, none⟩ = cs[j]? := by simp [World.cell?, h]
theorem frz_blk {w : World} {b : Nat} {cs : Array Value} {t : TypeId} (h : w.heap[b]? = some (.cells cs t (0, 0))) (j : Nat) : w.frozen? ⟨b, j, none⟩ = false := by simp [World.frozen?, h]
/-- A block of a span that lies in a world. -/
def Sp (w : World) (b : Nat) (l h : Int) : Prop := w.heap[b]? = some (.cells #[.int .i64 l, .int .i64 h] 23 (0, 0))
theorem Sp.keep {w x : World} {b : Nat} {l h : Int} (k : Sp w b l h) (q : Q w x) : Sp x b l h := by
  have hb : b < w.heap.size := by
    rcases Nat.lt_or_ge b w.heap.size with h1 | h1
    · exact h1
    · unfold Sp at k
      rw [Array.getElem?_eq_none h1] at k
      cases k
  unfold Sp at *
  rw [q.block b hb]
  exact k
theorem Sp.new (w : World) (l h : Int) : Sp (bx w l h) w.heap.size l h := heap_new _ _
theorem Sp.box {w : World} {b : Nat} {l h : Int} (k : Sp w b l h) (o : Obj) : Sp (w.alloc o) b l h := k.keep ((Q.refl _).alloc _)
theorem Sp.c0 {w : World} {b : Nat} {l h : Int} (k : Sp w b l h) : w.cell? ⟨b, 0, none⟩ = some (.int .i64 l) := (cell_blk k 0).trans rfl
theorem Sp.c1 {w : World} {b : Nat} {l h : Int} (k : Sp w b l h) : w.cell? ⟨b, 1, none⟩ = some (.int .i64 h) := (cell_blk k 1).trans rfl
theorem sp1 {w x : World} {l h : Int} (q : Q (bx w l h) x) : Sp x w.heap.size l h := (Sp.new _ _ _).keep q
theorem sp2 {w x : World} {l h : Int} (o : Obj) (q : Q ((bx w l h).alloc o) x) : Sp x w.heap.size l h := ((Sp.new _ _ _).box _).keep q
theorem Q.c2 {w x : World} {a b : Int} (q : Q (bx w a b) x) : x.cell? ⟨w.heap.size, 0, none⟩ = some (.int .i64 a) ∧ x.cell? ⟨w.heap.size, 1, none⟩ = some (.int .i64 b) :=
  ⟨(sp1 q).c0, (sp1 q).c1⟩
theorem sp22 {w x : World} {a b c d : Int} (q : Q (bx (bx w a b) c d) x) : Sp x w.heap.size a b ∧ Sp x (w.heap.size + 1) c d := by
  refine ⟨((Sp.new w a b).box _).keep q, ?_⟩
  have := (Sp.new (bx w a b) c d).keep q
  rwa [bx_size] at this
theorem Q.c4 {w x : World} {a b c d : Int} (q : Q (bx (bx w a b) c d) x) : x.cell? ⟨w.heap.size, 0, none⟩ = some (.int .i64 a) ∧ x.cell? ⟨w.heap.size, 1, none⟩ = some (.int .i64 b) ∧ x.cell? ⟨w.heap.size + 1, 0, none⟩ = some (.int .i64 c) ∧ x.cell? ⟨w.heap.size + 1, 1, none⟩ = some (.int .i64 d) :=
  ⟨(sp22 q).1.c0, (sp22 q).1.c1, (sp22 q).2.c0, (sp22 q).2.c1⟩
theorem Q.f4 {w x : World} {a b c d : Int} (q : Q (bx (bx w a b) c d) x) : x.frozen? ⟨w.heap.size + 1, 0, none⟩ = false ∧ x.frozen? ⟨w.heap.size + 1, 1, none⟩ = false :=
  ⟨frz_blk (sp22 q).2 0, frz_blk (sp22 q).2 1⟩
/-- The answer's box is written. -/
theorem q_set1 {w x : World} {a b : Int} (q : Q (bx w a b) x) (u v : Value) : Q w ((x.setCell ⟨w.heap.size, 0, none⟩ u).setCell ⟨w.heap.size, 1, none⟩ v) :=
  Below.setCell (Below.setCell (Q.trans ((Q.refl w).alloc _) q) (p := ⟨w.heap.size, 0, none⟩) (Nat.le_refl _) u) (p := ⟨w.heap.size, 1, none⟩) (Nat.le_refl _) v
/-- Two spans in boxes, and a third one for the answer. -/
abbrev bx3 (w : World) (a b c d : Int) : World := bx (bx (bx w a b) c d) 0 0
theorem sp33 {w x : World} {a b c d : Int} (q : Q (bx3 w a b c d) x) : Sp x w.heap.size a b ∧ Sp x (w.heap.size + 1) c d ∧ Sp x (w.heap.size + 1 + 1) 0 0 := by
  refine ⟨(((Sp.new w a b).box _).box _).keep q, ?_, ?_⟩
  · have := ((Sp.new (bx w a b) c d).box (.cells #[.int .i64 0, .int .i64 0] 23)).keep q
    rwa [bx_size] at this
  · have := (Sp.new (bx (bx w a b) c d) 0 0).keep q
    rwa [bx_size, bx_size] at this
theorem Q.c6 {w x : World} {a b c d : Int} (q : Q (bx3 w a b c d) x) : x.cell? ⟨w.heap.size, 0, none⟩ = some (.int .i64 a) ∧ x.cell? ⟨w.heap.size, 1, none⟩ = some (.int .i64 b) ∧ x.cell? ⟨w.heap.size + 1, 0, none⟩ = some (.int .i64 c) ∧ x.cell? ⟨w.heap.size + 1, 1, none⟩ = some (.int .i64 d) ∧
    x.cell? ⟨w.heap.size + 1 + 1, 0, none⟩ = some (.int .i64 0) ∧ x.cell? ⟨w.heap.size + 1 + 1, 1, none⟩ = some (.int .i64 0) ∧ x.frozen? ⟨w.heap.size + 1 + 1, 0, none⟩ = false ∧ x.frozen? ⟨w.heap.size + 1 + 1, 1, none⟩ = false :=
  ⟨(sp33 q).1.c0, (sp33 q).1.c1, (sp33 q).2.1.c0, (sp33 q).2.1.c1, (sp33 q).2.2.c0, (sp33 q).2.2.c1, frz_blk (sp33 q).2.2 0, frz_blk (sp33 q).2.2 1⟩
theorem q_bx (w : World) (a b : Int) : Q w (bx w a b) := (Q.refl _).alloc _
theorem q_bx2 (w : World) (a b c d : Int) : Q w (bx (bx w a b) c d) := ((Q.refl _).alloc _).alloc _
theorem q_bx3 (w : World) (a b c d : Int) : Q w (bx3 w a b c d) := (((Q.refl _).alloc _).alloc _).alloc _
/-- The answer's box is written. -/
theorem q_set2 {w x : World} {a b c d : Int} (q : Q (bx (bx w a b) c d) x) (u v : Value) : Q w ((x.setCell ⟨w.heap.size + 1, 0, none⟩ u).setCell ⟨w.heap.size + 1, 1, none⟩ v) :=
  Below.setCell (Below.setCell ((q_bx2 w a b c d).trans q) (p := ⟨w.heap.size + 1, 0, none⟩) (by show w.heap.size ≤ w.heap.size + 1; omega) u) (p := ⟨w.heap.size + 1, 1, none⟩) (by show w.heap.size ≤ w.heap.size + 1; omega) v
theorem q_set3 {w x : World} {a b c d : Int} (q : Q (bx3 w a b c d) x) (u v : Value) : Q w ((x.setCell ⟨w.heap.size + 1 + 1, 0, none⟩ u).setCell ⟨w.heap.size + 1 + 1, 1, none⟩ v) :=
  Below.setCell (Below.setCell ((q_bx3 w a b c d).trans q) (p := ⟨w.heap.size + 1 + 1, 0, none⟩) (by show w.heap.size ≤ w.heap.size + 1 + 1; omega) u) (p := ⟨w.heap.size + 1 + 1, 1, none⟩) (by show w.heap.size ≤ w.heap.size + 1 + 1; omega) v
/-- A call that only makes memory, where boxes lie. -/
theorem held1 {P : Program} {K : Nat} {args : Array Value} {w : World} {a b : Int} {v : Value} (H : ∀ x, Calls P K args x fun e w' => e = .returned v ∧ Q x w') :
    ∀ x, Q (bx w a b) x → Calls P K args x fun e w' => e = .returned v ∧ Q (bx w a b) w' ∧ w'.cell? ⟨w.heap.size, 0, none⟩ = some (.int .i64 a) ∧ w'.cell? ⟨w.heap.size, 1, none⟩ = some (.int .i64 b) :=
  fun x p => (H x).mono fun e w' ⟨h, q⟩ => ⟨h, p.trans q, (p.trans q).c2⟩
theorem held2 {P : Program} {K : Nat} {args : Array Value} {w : World} {a b c d : Int} {v : Value} (H : ∀ x, Calls P K args x fun e w' => e = .returned v ∧ Q x w') :
    ∀ x, Q (bx (bx w a b) c d) x → Calls P K args x fun e w' => e = .returned v ∧ Q (bx (bx w a b) c d) w' ∧ w'.cell? ⟨w.heap.size, 0, none⟩ = some (.int .i64 a) ∧ w'.cell? ⟨w.heap.size, 1, none⟩ = some (.int .i64 b) ∧ w'.cell? ⟨w.heap.size + 1, 0, none⟩ = some (.int .i64 c) ∧ w'.cell? ⟨w.heap.size + 1, 1, none⟩ = some (.int .i64 d) :=
  fun x p => (H x).mono fun e w' ⟨h, q⟩ => ⟨h, p.trans q, (p.trans q).c4⟩
theorem held3 {P : Program} {K : Nat} {args : Array Value} {w : World} {a b c d : Int} {v : Value} (H : ∀ x, Calls P K args x fun e w' => e = .returned v ∧ Q x w') :
    ∀ x, Q (bx3 w a b c d) x → Calls P K args x fun e w' => e = .returned v ∧ Q (bx3 w a b c d) w' ∧ w'.cell? ⟨w.heap.size, 0, none⟩ = some (.int .i64 a) ∧ w'.cell? ⟨w.heap.size, 1, none⟩ = some (.int .i64 b) ∧ w'.cell? ⟨w.heap.size + 1, 0, none⟩ = some (.int .i64 c) ∧ w'.cell? ⟨w.heap.size + 1, 1, none⟩ = some (.int .i64 d) :=
  fun x p => (H x).mono fun e w' ⟨h, q⟩ => ⟨h, p.trans q, (p.trans q).c6.1, (p.trans q).c6.2.1, (p.trans q).c6.2.2.1, (p.trans q).c6.2.2.2.1⟩

set_option maxHeartbeats 400000 in
theorem none_any (l h : Int) (w : World) :
    Calls Try.prog 19 #[spV l h] w fun e w' => e = .returned (.bool (nonB l h)) ∧ Q w w' := by
  unfold nonB
  go_enter Try.func19, Try.ntmps19
  go_wp2
  go_ret
  exact ⟨rfl, (Q.refl _).alloc _⟩

set_option maxHeartbeats 400000 in
theorem rnone_any (l h : Int) (w : World) :
    Calls Try.prog 42 #[spV l h] w fun e w' => e = .returned (.bool (nonB l h)) ∧ Q w w' := by
  unfold nonB
  go_enter Try.func42, Try.ntmps42
  go_wp2
  go_ret
  exact ⟨rfl, (Q.refl _).alloc _⟩

set_option maxHeartbeats 400000 in
theorem has_any (l h v : Int) (w : World) :
    Calls Try.prog 18 #[spV l h, .int .i64 v] w fun e w' => e = .returned (.bool (decide (l ≤ v) && decide (v ≤ h))) ∧ Q w w' := by
  cases hl : decide (l ≤ v)
  all_goals
    go_enter Try.func18, Try.ntmps18
    go_wp2
    go_ret
    exact ⟨rfl, (Q.refl _).alloc _⟩

set_option maxHeartbeats 400000 in
theorem in_any (al ah bl bh : Int) (w : World) :
    Calls Try.prog 20 #[spV al ah, spV bl bh] w fun e w' => e = .returned (.bool (inB al ah bl bh)) ∧ Q w w' := by
  unfold inB
  have HN := hideIt (none_any al ah (bx (bx w al ah) bl bh))
  cases hn : nonB al ah <;> cases hl : decide (bl ≤ al)
  all_goals
    rw [hn] at HN
    go_enter Try.func20, Try.ntmps20
    go_wp2_with (go_at_call 19; refine HN.out.mono ?_; rintro e x1 ⟨rfl, q1⟩; obtain ⟨c0, c1, c2, c3⟩ := q1.c4)
    go_ret
    exact ⟨rfl, (q_bx2 _ _ _ _ _).trans q1⟩

set_option maxHeartbeats 400000 in
theorem rin_any (al ah bl bh : Int) (w : World) :
    Calls Try.prog 21 #[spV al ah, spV bl bh] w fun e w' => e = .returned (.bool (inB al ah bl bh)) ∧ Q w w' := by
  unfold inB
  have HN := hideIt (rnone_any al ah (bx (bx w al ah) bl bh))
  cases hn : nonB al ah <;> cases hl : decide (bl ≤ al)
  all_goals
    rw [hn] at HN
    go_enter Try.func21, Try.ntmps21
    go_wp2_with (go_at_call 42; refine HN.out.mono ?_; rintro e x1 ⟨rfl, q1⟩; obtain ⟨c0, c1, c2, c3⟩ := q1.c4)
    go_ret
    exact ⟨rfl, (q_bx2 _ _ _ _ _).trans q1⟩

set_option maxHeartbeats 400000 in
theorem full_any (t : Int) (w : World) (h0 : 0 ≤ t) :
    Calls Try.prog 16 #[.int .u8 t] w fun e w' => e = .returned (spV (low t) (high t)) ∧ Q w w' := by
  have HS := hideIt (span_any t (bx w 0 0) h0)
  generalize low t = l at *
  generalize high t = h at *
  go_enter Try.func16, Try.ntmps16
  go_wp2_with (go_at_call 55; refine HS.out.mono ?_; rintro e x1 ⟨rfl, q1⟩; obtain ⟨c0, c1⟩ := q1.c2; have f0 := frz_blk (sp1 q1) 0; have f1 := frz_blk (sp1 q1) 1)
  exact bodyPost_ret (v := spV l h) (by simp [results, Try.results16, go_sem, c0, c1]) rfl ⟨rfl, q_set1 q1 _ _⟩

set_option maxHeartbeats 400000 in
theorem rfull_any (t : Int) (w : World) (h0 : 0 ≤ t) :
    Calls Try.prog 17 #[.int .i64 t] w fun e w' => e = .returned (spV (low t) (high t)) ∧ Q w w' := by
  have HL : Hid (∀ x, Calls Try.prog 56 #[.int .i64 t] x fun e w' => e = .returned (.int .i64 (low t)) ∧ Q x w') := fun x => rlow_any t x h0
  have HH : Hid (∀ x, Calls Try.prog 54 #[.int .i64 t] x fun e w' => e = .returned (.int .i64 (high t)) ∧ Q x w') := fun x => rhigh_any t x h0
  generalize low t = l at *
  generalize high t = h at *
  go_enter Try.func17, Try.ntmps17
  go_wp2_with (first | (go_at_call 56; refine (HL.out _).mono ?_; rintro e x1 ⟨rfl, q1⟩; have Q1 := hideIt q1; clear q1) | (go_at_call 54; refine (HH.out _).mono ?_; rintro e x2 ⟨rfl, q2⟩; have Q2 := hideIt (Q1.out.trans q2); obtain ⟨c0, c1⟩ := Q2.out.c2; have f0 := frz_blk (sp1 Q2.out) 0; have f1 := frz_blk (sp1 Q2.out) 1; clear q2))
  exact bodyPost_ret (v := spV l h) (by simp [results, Try.results17, go_sem, c0, c1]) rfl ⟨rfl, q_set1 Q2.out _ _⟩

set_option maxHeartbeats 400000 in
theorem right_any (t l h : Int) (w : World) (h0 : 0 ≤ t) :
    Calls Try.prog 29 #[.int .u8 t, spV l h] w fun e w' => e = .returned (.bool (rtB t l h)) ∧ Q w w' := by
  unfold rtB
  have HN := hideIt (held1 (w := w) (a := l) (b := h) (fun x => none_any l h x))
  have HF := hideIt (held1 (w := w) (a := l) (b := h) (fun x => full_any t x h0))
  have HI := hideIt (held1 (w := w) (a := l) (b := h) (fun x => in_any l h (low t) (high t) x))
  generalize inB l h (low t) (high t) = bb at *
  generalize low t = tl at *
  generalize high t = th at *
  have qd : Q (bx w l h) (bx w l h).drew := (Q.refl _).drew
  cases hn : nonB l h
  · rw [hn] at HN
    go_enter Try.func29, Try.ntmps29
    go_wp2_with (fail)
    first | go_region_held3 (fun w' => Q (bx w l h) w' ∧ w'.cell? ⟨w.heap.size, 0, none⟩ = some (.int .i64 l) ∧ w'.cell? ⟨w.heap.size, 1, none⟩ = some (.int .i64 h)) (first | exact ⟨(Q.refl _).drew, (Q.refl _).drew.c2⟩ | go_keep) (first | (go_at_call 19; refine (HN.out _ (by assumption)).mono ?_; rintro e y ⟨rfl, s0, s1, s2⟩) | (go_at_call 16; refine (HF.out _ (by assumption)).mono ?_; rintro e y ⟨rfl, s0, s1, s2⟩) | (go_at_call 20; refine (HI.out _ (by assumption)).mono ?_; rintro e y ⟨rfl, s0, s1, s2⟩)) | fail
    all_goals
      go_wp2_with (fail)
      go_ret
      exact ⟨rfl, (q_bx _ _ _).trans (by assumption)⟩
  · rw [hn] at HN
    go_enter Try.func29, Try.ntmps29
    go_wp2_with (fail)
    first | go_region_with (first | (go_at_call 19; refine (HN.out _ (by assumption)).mono ?_; rintro e y ⟨rfl, s0, s1, s2⟩)) | fail
    all_goals
      go_wp2_with (fail)
      go_ret
      exact ⟨rfl, (q_bx _ _ _).trans (by assumption)⟩

theorem rtB_none (t l h : Int) (h6 : 6 ≤ t) : rtB t l h = false := by
  unfold rtB inB nonB
  rw [low_none _ h6, high_none _ h6]
  cases h1 : decide (h < l) <;> simp_all
  omega

set_option maxHeartbeats 400000 in
theorem rright_any (t l h : Int) (w : World) (h0 : 0 ≤ t) :
    Calls Try.prog 40 #[.int .i64 t, spV l h] w fun e w' => e = .returned (.bool (rtB t l h)) ∧ Q w w' := by
  have qd : Q (bx w l h) (bx w l h).drew := (Q.refl _).drew
  by_cases h6 : 6 ≤ t
  · rw [rtB_none _ _ _ h6]
    have HW := hideIt (held1 (w := w) (a := l) (b := h) (fun x => rwidth_any t x h0))
    rw [wid_none _ h6] at HW
    go_enter Try.func40, Try.ntmps40
    go_wp2_with (fail)
    first | go_region_with (first | (go_at_call 43; refine (HW.out _ (by assumption)).mono ?_; rintro e y ⟨rfl, s0, s1, s2⟩)) | fail
    all_goals
      go_wp2_with (fail)
      go_ret
      exact ⟨rfl, (q_bx _ _ _).trans (by assumption)⟩
  unfold rtB
  have hw : 0 < wid t := by unfold wid; (repeat' split) <;> omega
  have HW := hideIt (held1 (w := w) (a := l) (b := h) (fun x => rwidth_any t x h0))
  have HN := hideIt (held1 (w := w) (a := l) (b := h) (fun x => rnone_any l h x))
  have HF := hideIt (held1 (w := w) (a := l) (b := h) (fun x => rfull_any t x h0))
  have HI := hideIt (held1 (w := w) (a := l) (b := h) (fun x => rin_any l h (low t) (high t) x))
  generalize inB l h (low t) (high t) = bb at *
  generalize low t = tl at *
  generalize high t = th at *
  generalize wid t = n at *
  have hd : decide (0 < n) = true := by simpa using hw
  cases hn : nonB l h
  · rw [hn] at HN
    go_enter Try.func40, Try.ntmps40
    go_wp2_with (fail)
    first | go_region_held3 (fun w' => Q (bx w l h) w' ∧ w'.cell? ⟨w.heap.size, 0, none⟩ = some (.int .i64 l) ∧ w'.cell? ⟨w.heap.size, 1, none⟩ = some (.int .i64 h)) (first | exact ⟨(Q.refl _).drew, (Q.refl _).drew.c2⟩ | go_keep) (first | (go_at_call 43; refine (HW.out _ (by assumption)).mono ?_; rintro e y ⟨rfl, s0, s1, s2⟩) | (go_at_call 42; refine (HN.out _ (by assumption)).mono ?_; rintro e y ⟨rfl, s0, s1, s2⟩) | (go_at_call 17; refine (HF.out _ (by assumption)).mono ?_; rintro e y ⟨rfl, s0, s1, s2⟩) | (go_at_call 21; refine (HI.out _ (by assumption)).mono ?_; rintro e y ⟨rfl, s0, s1, s2⟩)) | fail
    all_goals
      go_wp2_with (fail)
      go_ret
      exact ⟨rfl, (q_bx _ _ _).trans (by assumption)⟩
  · rw [hn] at HN
    go_enter Try.func40, Try.ntmps40
    go_wp2_with (fail)
    first | go_region_with (first | (go_at_call 43; refine (HW.out _ (by assumption)).mono ?_; rintro e y ⟨rfl, s0, s1, s2⟩) | (go_at_call 42; refine (HN.out _ (by assumption)).mono ?_; rintro e y ⟨rfl, s0, s1, s2⟩)) | fail
    all_goals
      go_wp2_with (fail)
      go_ret
      exact ⟨rfl, (q_bx _ _ _).trans (by assumption)⟩

end Go.Proofs.Ytancfhnhjfhbfaa
