/-
  More small functions of the reader of layer 5: contracts over the program; the conditions: the reader lies in memory as it should.
  The reader's intType, node and operation: contracts over the program; the conditions: the reader lies in memory as it should.
  The signs of operations, and which one is at hand: contracts over the program; the conditions: the reader lies in memory as it should, and the list of operations holds what the program's text says.
-/
import Derived.Test.YtoilhcklflmamaaGreatDoorKPrB
namespace Go.Proofs.YtoilhcklflmamaaGreatDoor
open Go.RowKit
open Pr
set_option linter.unusedVariables false

theorem takeM_cases (s : St) : takeM s = .ok () (s1 s) ∨ ∃ p, takeM s = .bad 4 p := by
  unfold takeM
  split
  · exact Or.inr ⟨_, rfl⟩
  · exact Or.inl rfl

set_option maxRecDepth 100000 in
set_option maxHeartbeats 1000000 in
theorem refuse_any (R g cap : Nat) (L : List Tok) (s : St) (w : World) (h : RD w R g cap L s) :
    Calls Tryz.prog 90 #[rp R] w fun e w' => Gave 5 (hd s).2 e ∧ Fr R w w' := by
  have HH := hideIt (here_any R g cap L s w h)
  have FL := fld4
  clear h
  generalize hd s = q at *
  go_enter Tryz.func90, Tryz.ntmps90
  go_wp2_with (first | (go_at_call 32; refine HH.out.mono ?_; rintro e x1 ⟨rfl, q1⟩; have F1 := hideIt (Fr.of_q (R := R) q1); clear q1) | fail)
  exact ⟨rfl, rfl, F1.out⟩

set_option maxRecDepth 100000 in
set_option maxHeartbeats 1000000 in
theorem try_any (x : List UInt8) (hx : x ≠ []) (R g cap : Nat) (L : List Tok) (s : St) (w : World) (h : RD w R g cap L s) :
    Calls Tryz.prog 64 #[rp R, .string (bs x)] w (PostG VB R g cap L w (tryM x s)) := by
  have HI := hideIt (is_any R g cap L s w h x)
  have HD := hideIt h
  clear h
  unfold tryM
  by_cases hs : tx s = x
  · rw [if_pos hs]
    have HT : Hid (∀ X, RD X R g cap L s → Calls Tryz.prog 89 #[rp R] X (PostG VU R g cap L X (takeM s))) := fun X h => take_any R g cap L s X h (Or.inr (by rw [hs]; exact hx))
    rw [decide_eq_true hs] at HI
    rcases takeM_cases s with hr | ⟨p, hr⟩
    · rw [hr]
      clear hs
      go_enter Tryz.func64, Tryz.ntmps64
      go_wp2_with (first | (go_at_call 66; refine HI.out.mono ?_; rintro e x1 ⟨rfl, q1⟩; have D1 := hideIt (HD.out.q q1); have F1 := hideIt (Fr.of_q (R := R) q1); clear q1) | (go_at_call 89; refine (okc hr (HT.out _ D1.out)).mono ?_; rintro e x2 ⟨v, rfl, rfl, f2, d2⟩; have D2 := hideIt d2; have F2 := hideIt (F1.out.trans f2); clear d2 f2) | fail)
      go_ret
      exact ⟨F2.out, _, rfl, rfl, D2.out⟩
    · rw [hr]
      clear hs
      go_enter Tryz.func64, Tryz.ntmps64
      go_wp2_with (first | (go_at_call 66; refine HI.out.mono ?_; rintro e x1 ⟨rfl, q1⟩; have D1 := hideIt (HD.out.q q1); have F1 := hideIt (Fr.of_q (R := R) q1); clear q1) | (go_at_call 89; refine (badc hr (HT.out _ D1.out)).mono ?_; rintro e x2 ⟨rfl, f2⟩; have F2 := hideIt (F1.out.trans f2); clear f2) | fail)
      exact ⟨rfl, F2.out, rfl⟩
  · rw [if_neg hs]
    rw [decide_eq_false hs] at HI
    go_enter Tryz.func64, Tryz.ntmps64
    go_wp2_with (first | (go_at_call 66; refine HI.out.mono ?_; rintro e x1 ⟨rfl, q1⟩; have D1 := hideIt (HD.out.q q1); have F1 := hideIt (Fr.of_q (R := R) q1); clear q1) | fail)
    go_ret
    exact ⟨F1.out, _, rfl, rfl, D1.out⟩

set_option maxRecDepth 100000 in
set_option maxHeartbeats 1000000 in
theorem need_any (x : List UInt8) (hx : x ≠ []) (R g cap : Nat) (L : List Tok) (s : St) (w : World) (h : RD w R g cap L s) :
    Calls Tryz.prog 91 #[rp R, .string (bs x)] w (PostG VU R g cap L w (needM x s)) := by
  have HT := hideIt (try_any x hx R g cap L s w h)
  have HF : Hid (∀ X, RD X R g cap L s → Calls Tryz.prog 90 #[rp R] X fun e w' => Gave 5 (hd s).2 e ∧ Fr R X w') := fun X h => refuse_any R g cap L s X h
  have HD := hideIt h
  clear h
  unfold needM failM
  by_cases hs : tx s = x
  · rw [if_pos hs]
    have e : tryM x s = (takeM s).bnd fun _ s => .ok true s := by unfold tryM; rw [if_pos hs]
    rcases takeM_cases s with hr | ⟨p, hr⟩
    · rw [hr] at e ⊢
      go_enter Tryz.func91, Tryz.ntmps91
      go_wp2_with (first | (go_at_call 64; refine (okc e HT.out).mono ?_; rintro e x2 ⟨v, rfl, rfl, f2, d2⟩; have D2 := hideIt d2; have F2 := hideIt f2; clear d2 f2) | fail)
      first | go_end0 | refine bodyPost_ret (results_none rfl _ _ _) rfl ?_
      exact ⟨F2.out, _, rfl, rfl, D2.out⟩
    · rw [hr] at e ⊢
      go_enter Tryz.func91, Tryz.ntmps91
      go_wp2_with (first | (go_at_call 64; refine (badc e HT.out).mono ?_; rintro e x2 ⟨rfl, f2⟩; have F2 := hideIt f2; clear f2) | fail)
      exact ⟨rfl, F2.out, rfl⟩
  · rw [if_neg hs]
    have e : tryM x s = .ok false s := by unfold tryM; rw [if_neg hs]
    go_enter Tryz.func91, Tryz.ntmps91
    go_wp2_with (first | (go_at_call 64; refine (okc e HT.out).mono ?_; rintro e x2 ⟨v, rfl, rfl, f2, d2⟩; have D2 := hideIt d2; have F2 := hideIt f2; clear d2 f2) | (go_at_call 90; refine (HF.out _ D2.out).mono ?_; rintro e x3 ⟨rfl, f3⟩; have F3 := hideIt (F2.out.trans f3); clear f3) | fail)
    exact ⟨rfl, F3.out, rfl⟩

set_option maxRecDepth 100000 in
set_option maxHeartbeats 1000000 in
theorem isInt_any (R g cap : Nat) (L : List Tok) (s : St) (w : World) (h : RD w R g cap L s) :
    Calls Tryz.prog 113 #[rp R] w fun e w' => e = .returned (.bool (decide (Lx.intT (tx s) < 6))) ∧ Q w w' := by
  have HH := hideIt (here_any R g cap L s w h)
  have HD := hideIt h
  have HI : Hid (∀ X, RD X R g cap L s → Calls Tryz.prog 61 #[.string ⟨(hd s).1.text.toArray⟩] X fun e w' => e = .returned (.tuple #[.int .u8 (intV (hd s).1.text), .bool (intB (hd s).1.text)]) ∧ w' = X) := fun X h => int_any ⟨(hd s).1.text.toArray⟩ X h.b.laid.a
  have FL := fld1
  clear h
  unfold tx
  have e0 : decide (Lx.intT (hd s).1.text < 6) = intB (hd s).1.text := rfl
  rw [e0]
  clear e0
  generalize hd s = q at *
  generalize intB q.1.text = b at *
  generalize intV q.1.text = z at *
  go_enter Tryz.func113, Tryz.ntmps113
  go_wp2_with (first | (go_at_call 32; refine HH.out.mono ?_; rintro e x1 ⟨rfl, q1⟩; have D1 := hideIt (HD.out.q q1); have F1 := hideIt q1; clear q1) | (go_at_call 61; refine (HI.out _ D1.out).mono ?_; rintro e x2 ⟨rfl, rfl⟩) | fail)
  go_ret
  exact ⟨rfl, F1.out⟩

/-- A box that was new keeps what it holds. -/
theorem Fr.box {R : Nat} {x x2 : World} {cs : Array Value} {t : TypeId} (hR : R < x.heap.size) (f : Fr R (x.alloc (.cells cs t)) x2) : x2.heap[x.heap.size]? = some (.cells cs t (0, 0)) :=
  (f.block x.heap.size (by simp) (fun e => by cases e; omega)).trans (heap_alloc_new x _)
theorem Fr.kept {R b : Nat} {x x2 : World} {o : Obj} (h : x.heap[b]? = some o) (hb : b ≠ R) (f : Fr R x x2) : x2.heap[b]? = some o :=
  (f.block b (lt_of_heap h) (fun e => hb (by cases e; rfl))).trans h

set_option maxRecDepth 100000 in
set_option maxHeartbeats 1000000 in
theorem name_rd (R g cap : Nat) (L : List Tok) (s : St) (w : World) (h : RD w R g cap L s) :
    Calls Tryz.prog 65 #[rp R] w (PostG VS R g cap L w (nameM s)) := by
  have HH : Hid (∀ X, RD X R g cap L s → Calls Tryz.prog 32 #[rp R] X fun e w' => e = .returned (tokV (hd s)) ∧ Q X w') := fun X h => here_any R g cap L s X h
  have HF : Hid (∀ X, RD X R g cap L s → Calls Tryz.prog 90 #[rp R] X fun e w' => Gave 5 (hd s).2 e ∧ Fr R X w') := fun X h => refuse_any R g cap L s X h
  have HD := hideIt h
  have hR := h.b.lt_size
  have HT : (hd s).1.kind = 1 → Hid (∀ X, RD X R g cap L s → Calls Tryz.prog 89 #[rp R] X (PostG VU R g cap L X (takeM s))) := fun hs X h => take_any R g cap L s X h (Or.inl (by rw [hs]; decide))
  clear h
  unfold nameM failM
  generalize hq : hd s = q at *
  have ht : tx s = q.1.text := by unfold tx; rw [hq]
  try rw [ht]
  clear hq ht
  obtain ⟨⟨kd, tx, n, ty⟩, at_⟩ := q
  simp only at HT ⊢
  by_cases hs : kd = 1
  · subst hs
    replace HT := HT rfl
    rw [if_pos rfl]
    rcases takeM_cases s with hr | ⟨p, hr⟩
    · rw [hr]
      go_enter Tryz.func65, Tryz.ntmps65
      go_wp2_with (first | (go_at_call 32; refine (HH.out _ HD.out).mono ?_; rintro e x1 ⟨rfl, q1⟩; have D1 := hideIt (HD.out.q q1); have F1 := hideIt ((Fr.refl R w).q q1); have hR1 := D1.out.b.lt_size; clear q1) | (go_at_call 89; refine (okc hr (HT.out _ (D1.out.alloc _))).mono ?_; rintro e x2 ⟨v, rfl, rfl, f2, d2⟩; have D2 := hideIt d2; have F2 := hideIt ((F1.out.alloc _).trans f2); have bx := Fr.box hR1 f2; have c0 := cell_of_block bx 0; have c1 := cell_of_block bx 1; have c2 := cell_of_block bx 2; have c3 := cell_of_block bx 3; have c4 := cell_of_block bx 4; clear bx; clear d2 f2) | fail)
      go_ret
      exact ⟨F2.out, _, rfl, rfl, D2.out⟩
    · rw [hr]
      go_enter Tryz.func65, Tryz.ntmps65
      go_wp2_with (first | (go_at_call 32; refine (HH.out _ HD.out).mono ?_; rintro e x1 ⟨rfl, q1⟩; have D1 := hideIt (HD.out.q q1); have F1 := hideIt ((Fr.refl R w).q q1); have hR1 := D1.out.b.lt_size; clear q1) | (go_at_call 89; refine (badc hr (HT.out _ (D1.out.alloc _))).mono ?_; rintro e x2 ⟨rfl, f2⟩; have F2 := hideIt ((F1.out.alloc _).trans f2); clear f2) | fail)
      exact ⟨rfl, F2.out, rfl⟩
  · rw [if_neg hs]
    clear HT
    go_enter Tryz.func65, Tryz.ntmps65
    go_wp2_with (first | (go_at_call 32; refine (HH.out _ HD.out).mono ?_; rintro e x1 ⟨rfl, q1⟩; have D1 := hideIt (HD.out.q q1); have F1 := hideIt ((Fr.refl R w).q q1); have hR1 := D1.out.b.lt_size; clear q1) | (go_at_call 90; refine (HF.out _ (D1.out.alloc _)).mono ?_; rintro e x2 ⟨rfl, f2⟩; have F2 := hideIt ((F1.out.alloc _).trans f2); clear f2) | fail)
    exact ⟨rfl, F2.out, rfl⟩

set_option maxRecDepth 100000 in
set_option maxHeartbeats 1000000 in
theorem number_rd (R g cap : Nat) (L : List Tok) (s : St) (w : World) (h : RD w R g cap L s) :
    Calls Tryz.prog 96 #[rp R] w (PostG VK R g cap L w (numberM s)) := by
  have HH : Hid (∀ X, RD X R g cap L s → Calls Tryz.prog 32 #[rp R] X fun e w' => e = .returned (tokV (hd s)) ∧ Q X w') := fun X h => here_any R g cap L s X h
  have HF : Hid (∀ X, RD X R g cap L s → Calls Tryz.prog 90 #[rp R] X fun e w' => Gave 5 (hd s).2 e ∧ Fr R X w') := fun X h => refuse_any R g cap L s X h
  have HD := hideIt h
  have hR := h.b.lt_size
  have HT : (hd s).1.kind = 3 → Hid (∀ X, RD X R g cap L s → Calls Tryz.prog 89 #[rp R] X (PostG VU R g cap L X (takeM s))) := fun hs X h => take_any R g cap L s X h (Or.inl (by rw [hs]; decide))
  clear h
  unfold numberM failM
  generalize hq : hd s = q at *
  have ht : tx s = q.1.text := by unfold tx; rw [hq]
  try rw [ht]
  clear hq ht
  obtain ⟨⟨kd, tx, n, ty⟩, at_⟩ := q
  simp only at HT ⊢
  by_cases hs : kd = 3
  · subst hs
    replace HT := HT rfl
    rw [if_pos rfl]
    rcases takeM_cases s with hr | ⟨p, hr⟩
    · rw [hr]
      go_enter Tryz.func96, Tryz.ntmps96
      go_wp2_with (first | (go_at_call 32; refine (HH.out _ (HD.out.alloc _)).mono ?_; rintro e x1 ⟨rfl, q1⟩; have D1 := hideIt ((HD.out.alloc _).q q1); have F1 := hideIt (((Fr.refl R w).alloc _).q q1); have hR1 := D1.out.b.lt_size; have RB1 := hideIt ((q1.block w.heap.size (by simp)).trans (heap_alloc_new w _)); clear q1) | (go_at_call 89; refine (okc hr (HT.out _ (D1.out.alloc _))).mono ?_; rintro e x2 ⟨v, rfl, rfl, f2, d2⟩; have D2 := hideIt d2; have F2 := hideIt ((F1.out.alloc _).trans f2); have bx := Fr.box hR1 f2; have c0 := cell_of_block bx 0; have c1 := cell_of_block bx 1; have c2 := cell_of_block bx 2; have c3 := cell_of_block bx 3; have c4 := cell_of_block bx 4; clear bx; have rbx := Fr.kept (b := w.heap.size) ((Below.heap_alloc x1 _ w.heap.size (lt_of_heap RB1.out)).trans RB1.out) (by omega) f2; have r0 := cell_of_block rbx 0; have r1 := cell_of_block rbx 1; have r2 := cell_of_block rbx 2; have r3 := cell_of_block rbx 3; have r4 := cell_of_block rbx 4; have z0 := free_of_block rbx 0; have z1 := free_of_block rbx 1; have z2 := free_of_block rbx 2; have z3 := free_of_block rbx 3; have z4 := free_of_block rbx 4; clear rbx; clear d2 f2) | fail)
      refine bodyPost_ret (v := tokV (⟨3, tx, n, ty⟩, at_)) (by simp [results, Tryz.results96, go_sem, *]) rfl ⟨?_, _, rfl, ⟨at_, rfl⟩, ?_⟩
      · repeat (refine Fr.setNew ?_ (Nat.le_refl _) _)
        exact F2.out
      · repeat (refine RD.setCell ?_ hR _)
        exact D2.out
    · rw [hr]
      go_enter Tryz.func96, Tryz.ntmps96
      go_wp2_with (first | (go_at_call 32; refine (HH.out _ (HD.out.alloc _)).mono ?_; rintro e x1 ⟨rfl, q1⟩; have D1 := hideIt ((HD.out.alloc _).q q1); have F1 := hideIt (((Fr.refl R w).alloc _).q q1); have hR1 := D1.out.b.lt_size; have RB1 := hideIt ((q1.block w.heap.size (by simp)).trans (heap_alloc_new w _)); clear q1) | (go_at_call 89; refine (badc hr (HT.out _ (D1.out.alloc _))).mono ?_; rintro e x2 ⟨rfl, f2⟩; have F2 := hideIt ((F1.out.alloc _).trans f2); clear f2) | fail)
      exact ⟨rfl, F2.out, rfl⟩
  · rw [if_neg hs]
    clear HT
    go_enter Tryz.func96, Tryz.ntmps96
    go_wp2_with (first | (go_at_call 32; refine (HH.out _ (HD.out.alloc _)).mono ?_; rintro e x1 ⟨rfl, q1⟩; have D1 := hideIt ((HD.out.alloc _).q q1); have F1 := hideIt (((Fr.refl R w).alloc _).q q1); have hR1 := D1.out.b.lt_size; have RB1 := hideIt ((q1.block w.heap.size (by simp)).trans (heap_alloc_new w _)); clear q1) | (go_at_call 90; refine (HF.out _ (D1.out.alloc _)).mono ?_; rintro e x2 ⟨rfl, f2⟩; have F2 := hideIt ((F1.out.alloc _).trans f2); clear f2) | fail)
    exact ⟨rfl, F2.out, rfl⟩

set_option maxRecDepth 100000 in
set_option maxHeartbeats 1000000 in
theorem count_rd (R g cap : Nat) (L : List Tok) (s : St) (w : World) (h : RD w R g cap L s) :
    Calls Tryz.prog 95 #[rp R] w (PostG VI R g cap L w (countM s)) := by
  have HH : Hid (∀ X, RD X R g cap L s → Calls Tryz.prog 32 #[rp R] X fun e w' => e = .returned (tokV (hd s)) ∧ Q X w') := fun X h => here_any R g cap L s X h
  have HF : Hid (∀ X, RD X R g cap L s → Calls Tryz.prog 90 #[rp R] X fun e w' => Gave 5 (hd s).2 e ∧ Fr R X w') := fun X h => refuse_any R g cap L s X h
  have HD := hideIt h
  have hR := h.b.lt_size
  have HT : (hd s).1.kind = 3 → Hid (∀ X, RD X R g cap L s → Calls Tryz.prog 89 #[rp R] X (PostG VU R g cap L X (takeM s))) := fun hs X h => take_any R g cap L s X h (Or.inl (by rw [hs]; decide))
  clear h
  unfold countM failM
  generalize hq : hd s = q at *
  clear hq
  obtain ⟨⟨kd, tx, n, ty⟩, at_⟩ := q
  simp only at HT ⊢
  by_cases hs : kd = 3
  · subst hs
    replace HT := HT rfl
    by_cases hy : ty = 4
    · subst hy
      by_cases hn : 0 ≤ n
      · have hn' : decide (n < 0) = false := by simp; omega
        rw [if_pos ⟨rfl, rfl, hn⟩]
        rcases takeM_cases s with hr | ⟨p, hr⟩
        · rw [hr]
          go_enter Tryz.func95, Tryz.ntmps95
          go_wp2_with (first | (go_at_call 32; refine (HH.out _ HD.out).mono ?_; rintro e x1 ⟨rfl, q1⟩; have D1 := hideIt (HD.out.q q1); have F1 := hideIt ((Fr.refl R w).q q1); have hR1 := D1.out.b.lt_size; clear q1) | (go_at_call 89; refine (okc hr (HT.out _ (D1.out.alloc _))).mono ?_; rintro e x2 ⟨v, rfl, rfl, f2, d2⟩; have D2 := hideIt d2; have F2 := hideIt ((F1.out.alloc _).trans f2); have bx := Fr.box hR1 f2; have c0 := cell_of_block bx 0; have c1 := cell_of_block bx 1; have c2 := cell_of_block bx 2; have c3 := cell_of_block bx 3; have c4 := cell_of_block bx 4; clear bx; clear d2 f2) | fail)
          go_ret
          exact ⟨F2.out, _, rfl, rfl, D2.out⟩
        · rw [hr]
          go_enter Tryz.func95, Tryz.ntmps95
          go_wp2_with (first | (go_at_call 32; refine (HH.out _ HD.out).mono ?_; rintro e x1 ⟨rfl, q1⟩; have D1 := hideIt (HD.out.q q1); have F1 := hideIt ((Fr.refl R w).q q1); have hR1 := D1.out.b.lt_size; clear q1) | (go_at_call 89; refine (badc hr (HT.out _ (D1.out.alloc _))).mono ?_; rintro e x2 ⟨rfl, f2⟩; have F2 := hideIt ((F1.out.alloc _).trans f2); clear f2) | fail)
          exact ⟨rfl, F2.out, rfl⟩
      · have hn' : n < 0 := by omega
        rw [if_neg (fun h => hn h.2.2)]
        clear HT hn
        go_enter Tryz.func95, Tryz.ntmps95
        go_wp2_with (first | (go_at_call 32; refine (HH.out _ HD.out).mono ?_; rintro e x1 ⟨rfl, q1⟩; have D1 := hideIt (HD.out.q q1); have F1 := hideIt ((Fr.refl R w).q q1); have hR1 := D1.out.b.lt_size; clear q1) | (go_at_call 90; refine (HF.out _ (D1.out.alloc _)).mono ?_; rintro e x2 ⟨rfl, f2⟩; have F2 := hideIt ((F1.out.alloc _).trans f2); clear f2) | fail)
        exact ⟨rfl, F2.out, rfl⟩
    · rw [if_neg (fun h => hy h.2.1)]
      clear HT
      go_enter Tryz.func95, Tryz.ntmps95
      go_wp2_with (first | (go_at_call 32; refine (HH.out _ HD.out).mono ?_; rintro e x1 ⟨rfl, q1⟩; have D1 := hideIt (HD.out.q q1); have F1 := hideIt ((Fr.refl R w).q q1); have hR1 := D1.out.b.lt_size; clear q1) | (go_at_call 90; refine (HF.out _ (D1.out.alloc _)).mono ?_; rintro e x2 ⟨rfl, f2⟩; have F2 := hideIt ((F1.out.alloc _).trans f2); clear f2) | fail)
      exact ⟨rfl, F2.out, rfl⟩
  · rw [if_neg (fun h => hs h.1)]
    clear HT
    go_enter Tryz.func95, Tryz.ntmps95
    go_wp2_with (first | (go_at_call 32; refine (HH.out _ HD.out).mono ?_; rintro e x1 ⟨rfl, q1⟩; have D1 := hideIt (HD.out.q q1); have F1 := hideIt ((Fr.refl R w).q q1); have hR1 := D1.out.b.lt_size; clear q1) | (go_at_call 90; refine (HF.out _ (D1.out.alloc _)).mono ?_; rintro e x2 ⟨rfl, f2⟩; have F2 := hideIt ((F1.out.alloc _).trans f2); clear f2) | fail)
    exact ⟨rfl, F2.out, rfl⟩

end Go.Proofs.YtoilhcklflmamaaGreatDoor

namespace Go.Proofs.YtoilhcklflmamaaGreatDoor
open Go.RowKit
open Pr
set_option linter.unusedVariables false

set_option maxRecDepth 100000 in
set_option maxHeartbeats 1000000 in
theorem int_rd (R g cap : Nat) (L : List Tok) (s : St) (w : World) (h : RD w R g cap L s) :
    Calls Tryz.prog 70 #[rp R] w (PostG VT R g cap L w (intM s)) := by
  have HH : Hid (∀ X, RD X R g cap L s → Calls Tryz.prog 32 #[rp R] X fun e w' => e = .returned (tokV (hd s)) ∧ Q X w') := fun X h => here_any R g cap L s X h
  have HF : Hid (∀ X, RD X R g cap L s → Calls Tryz.prog 90 #[rp R] X fun e w' => Gave 5 (hd s).2 e ∧ Fr R X w') := fun X h => refuse_any R g cap L s X h
  have HI : Hid (∀ X, RD X R g cap L s → Calls Tryz.prog 61 #[.string ⟨(hd s).1.text.toArray⟩] X fun e w' => e = .returned (.tuple #[.int .u8 (intV (hd s).1.text), .bool (intB (hd s).1.text)]) ∧ w' = X) := fun X h => int_any ⟨(hd s).1.text.toArray⟩ X h.b.laid.a
  have HT : Lx.intT (hd s).1.text < 6 → Hid (∀ X, RD X R g cap L s → Calls Tryz.prog 89 #[rp R] X (PostG VU R g cap L X (takeM s))) := fun hs X h => take_any R g cap L s X h (Or.inr (int_text hs).1)
  have HD := hideIt h
  have hR := h.b.lt_size
  have FL := fld1
  clear h
  unfold intM failM tx
  by_cases hs : Lx.intT (hd s).1.text < 6
  · replace HT := HT hs
    rw [if_pos hs]
    have e1 : intV (hd s).1.text = (Lx.intT (hd s).1.text : Int) := by unfold intV; rw [if_pos hs]
    have e2 : intB (hd s).1.text = true := decide_eq_true hs
    rw [e1, e2] at HI
    clear e1 e2
    generalize Lx.intT (hd s).1.text = t at *
    generalize hd s = q at *
    rcases takeM_cases s with hr | ⟨p, hr⟩
    · rw [hr]
      go_enter Tryz.func70, Tryz.ntmps70
      go_wp2_with (first | (go_at_call 32; refine (HH.out _ (HD.out.alloc _)).mono ?_; rintro e x1 ⟨rfl, q1⟩; have D1 := hideIt ((HD.out.alloc _).q q1); have F1 := hideIt (((Fr.refl R w).alloc _).q q1); have RB1 := hideIt ((q1.block w.heap.size (by simp)).trans (heap_alloc_new w _)); clear q1) | (go_at_call 61; refine (HI.out _ D1.out).mono ?_; rintro e x2 ⟨rfl, rfl⟩) | (go_at_call 89; refine (okc hr (HT.out _ D1.out)).mono ?_; rintro e x2 ⟨v, rfl, rfl, f2, d2⟩; have D2 := hideIt d2; have F2 := hideIt (F1.out.trans f2); have rbx := Fr.kept (b := w.heap.size) RB1.out (by omega) f2; have r0 := cell_of_block rbx 0; have r1 := cell_of_block rbx 1; have r2 := cell_of_block rbx 2; have z0 := free_of_block rbx 0; have z1 := free_of_block rbx 1; have z2 := free_of_block rbx 2; clear rbx d2 f2) | fail)
      refine bodyPost_ret (v := .agg #[.int .u8 0, .int .u8 (t : Int), .int .i64 0]) (by simp [results, Tryz.results70, go_sem, *]) rfl ⟨?_, _, rfl, rfl, ?_⟩
      · repeat (refine Fr.setNew ?_ (Nat.le_refl _) _)
        exact F2.out
      · repeat (refine RD.setCell ?_ hR _)
        exact D2.out
    · rw [hr]
      go_enter Tryz.func70, Tryz.ntmps70
      go_wp2_with (first | (go_at_call 32; refine (HH.out _ (HD.out.alloc _)).mono ?_; rintro e x1 ⟨rfl, q1⟩; have D1 := hideIt ((HD.out.alloc _).q q1); have F1 := hideIt (((Fr.refl R w).alloc _).q q1); clear q1) | (go_at_call 61; refine (HI.out _ D1.out).mono ?_; rintro e x2 ⟨rfl, rfl⟩) | (go_at_call 89; refine (badc hr (HT.out _ D1.out)).mono ?_; rintro e x2 ⟨rfl, f2⟩; have F2 := hideIt (F1.out.trans f2); clear f2) | fail)
      exact ⟨rfl, F2.out, rfl⟩
  · rw [if_neg hs]
    have e1 : intV (hd s).1.text = 0 := by unfold intV; rw [if_neg hs]
    have e2 : intB (hd s).1.text = false := decide_eq_false hs
    rw [e1, e2] at HI
    clear e1 e2 HT hs
    generalize hd s = q at *
    go_enter Tryz.func70, Tryz.ntmps70
    go_wp2_with (first | (go_at_call 32; refine (HH.out _ (HD.out.alloc _)).mono ?_; rintro e x1 ⟨rfl, q1⟩; have D1 := hideIt ((HD.out.alloc _).q q1); have F1 := hideIt (((Fr.refl R w).alloc _).q q1); clear q1) | (go_at_call 61; refine (HI.out _ D1.out).mono ?_; rintro e x2 ⟨rfl, rfl⟩) | (go_at_call 90; refine (HF.out _ D1.out).mono ?_; rintro e x2 ⟨rfl, f2⟩; have F2 := hideIt (F1.out.trans f2); clear f2) | fail)
    exact ⟨rfl, F2.out, rfl⟩

set_option maxRecDepth 100000 in
set_option maxHeartbeats 2000000 in
theorem node_rd (R g cap : Nat) (L : List Tok) (s : St) (w : World) (h : RD w R g cap L s) (v : NF) (a : Option Addr) (n c : Nat) :
    Calls Tryz.prog 31 #[rp R, nodeV v (.slice a n c)] w (PostG (fun (_ : Unit) x _ => x = nodeV v (.slice a n c)) R g cap L w (nodeM s)) := by
  have HH : Hid (∀ X, RD X R g cap L s → Calls Tryz.prog 32 #[rp R] X fun e w' => e = .returned (tokV (hd s)) ∧ Q X w') := fun X h => here_any R g cap L s X h
  have HD := hideIt h
  obtain ⟨r0, r1, r2, r3⟩ := h.b.four
  have f3 := h.b.free 3
  have hR := h.b.lt_size
  have hc := h.p.wf.c
  have FL := fld4
  clear h
  unfold nodeM
  by_cases hs : 4000 < s.c + 1
  · rw [if_pos hs]
    have hs' : decide ((4000 : Int) < (s.c : Int) + 1) = true := by simp; omega
    have HB := hideIt (here_raw R g cap L s (w.setCell ⟨R, 3, none⟩ (.int .i64 ((s.c : Int) + 1))) (HD.out.b.set 3 _ rfl) HD.out.p)
    have HE : Hid (∀ X, Q (w.setCell ⟨R, 3, none⟩ (.int .i64 ((s.c : Int) + 1))) X → Calls Tryz.prog 32 #[rp R] X fun e w' => e = .returned (tokV (hd s)) ∧ Q X w') := fun X q => here_raw R g cap L s X ((HD.out.b.set 3 _ rfl).q q) HD.out.p
    clear HH HB
    generalize hd s = q at *
    go_enter Tryz.func31, Tryz.ntmps31
    go_wp2_with (first | (go_at_call 32; refine (HE.out _ (((Q.refl _).alloc _).alloc _)).mono ?_; rintro e x1 ⟨rfl, q1⟩; have F1 := hideIt ((((Fr.refl R w).setR 3 (.int .i64 ((s.c : Int) + 1))).q (((Q.refl _).alloc _).alloc _)).q q1); clear q1) | fail)
    exact ⟨rfl, F1.out, rfl⟩
  · rw [if_neg hs]
    have hs' : decide ((4000 : Int) < (s.c : Int) + 1) = false := by simp; omega
    have e1 : (((s.c + 1 : Nat)) : Int) = (s.c : Int) + 1 := by omega
    go_enter Tryz.func31, Tryz.ntmps31
    go_wp2_with (fail)
    refine bodyPost_ret (v := nodeV v (.slice a n c)) (by simp [results, Tryz.results31, go_sem]) rfl ⟨?_, _, rfl, rfl, ?_⟩
    · exact (((Fr.refl R w).setR 3 _).alloc _).alloc _
    · exact ⟨((by rw [e1]; exact HD.out.b.set 3 _ rfl : RB _ R g cap L (pos L s) s.o ((s.c + 1 : Nat) : Int)).q (((Q.refl _).alloc _).alloc _)), HD.out.p.node hs⟩

end Go.Proofs.YtoilhcklflmamaaGreatDoor

namespace Go.Proofs.YtoilhcklflmamaaGreatDoor
open Go.RowKit
open Pr
set_option linter.unusedVariables false

def sg (k : Nat) : List UInt8 := (ops.getD k ([], 0)).1
def pw (k : Nat) : Nat := (ops.getD k ([], 0)).2
theorem opC_at (k : Nat) (h : k < 19) : opC[k * 2]? = some (.string (bs (sg k))) ∧ opC[k * 2 + 1]? = some (.int .i64 (pw k)) := by
  have hk : k = 0 ∨ k = 1 ∨ k = 2 ∨ k = 3 ∨ k = 4 ∨ k = 5 ∨ k = 6 ∨ k = 7 ∨ k = 8 ∨ k = 9 ∨ k = 10 ∨ k = 11 ∨ k = 12 ∨ k = 13 ∨ k = 14 ∨ k = 15 ∨ k = 16 ∨ k = 17 ∨ k = 18 := by omega
  clear h
  rcases hk with rfl | rfl | rfl | rfl | rfl | rfl | rfl | rfl | rfl | rfl | rfl | rfl | rfl | rfl | rfl | rfl | rfl | rfl | rfl <;> exact ⟨rfl, rfl⟩

set_option maxRecDepth 100000 in
set_option maxHeartbeats 1000000 in
theorem signs_any (k : Nat) (hk : k < 19) (w : World) (h : LaidP w) :
    Calls Tryz.prog 12 #[.int .u8 (k : Int)] w fun e w' => e = .returned (.tuple #[.string (bs (sg k)), .int .i64 (pw k)]) ∧ Q w w' := by
  obtain ⟨t, fr, hb⟩ := h.b
  have c0 : w.cell? ⟨0, k * 2, none⟩ = some (.string (bs (sg k))) := by simp only [World.cell?, hb]; simpa using (opC_at k hk).1
  have c1 : w.cell? ⟨0, k * 2 + 1, none⟩ = some (.int .i64 (pw k)) := by simp only [World.cell?, hb]; simpa using (opC_at k hk).2
  clear h hb
  have h1 : decide ((19 : Int) ≤ (k : Int)) = false := by simp; omega
  have h2 : (k : Int) < 19 := by omega
  generalize sg k = x at *
  generalize pw k = y at *
  go_enter Tryz.func12, Tryz.ntmps12
  go_wp2_with (fail)
  go_region
  go_wp2_with (fail)
  go_ret2
  exact ⟨rfl, (Q.refl w).drew⟩
theorem signs_none (k : Nat) (hk : 19 ≤ k) (h' : k ≤ 255) (w : World) :
    Calls Tryz.prog 12 #[.int .u8 (k : Int)] w fun e w' => e = .returned (.tuple #[.string ⟨#[]⟩, .int .i64 0]) ∧ Q w w' := by
  have h1 : (19 : Int) ≤ (k : Int) := by omega
  go_enter Tryz.func12, Tryz.ntmps12
  go_wp2_with (fail)
  go_ret2
  exact ⟨rfl, Q.refl w⟩

/-- No operation ahead of a place has that sign. -/
def Miss (x : List UInt8) (k : Nat) : Prop := ∀ j, j < k → ¬ (0 < pw j ∧ x = sg j)
theorem op_hit {x : List UInt8} {k : Nat} (hk : k < 19) (hm : Miss x k) (h1 : 0 < pw k) (h2 : x = sg k) : opT x = k ∧ powT k = pw k := by
  have hl : ops.length = 19 := rfl
  constructor
  · unfold opT
    have : ops.findIdx? (fun q => decide (0 < q.2) && (x == q.1)) = some k := by
      rw [List.findIdx?_eq_some_iff_getElem]
      have g : ∀ j (hj : j < 19), (ops[j]'(by omega)) = ops.getD j ([], 0) := fun j hj => by rw [List.getD_eq_getElem?_getD, List.getElem?_eq_getElem (by omega)]; rfl
      refine ⟨by omega, ?_, fun j hj => ?_⟩
      · rw [g k hk]
        simp only [Bool.and_eq_true, decide_eq_true_eq, beq_iff_eq]
        exact ⟨h1, h2⟩
      · rw [g j (by omega)]
        have := hm j hj
        simp only [Bool.and_eq_true, decide_eq_true_eq, beq_iff_eq]
        exact this
    rw [this]
    rfl
  · unfold powT pw
    rw [List.getD_eq_getElem?_getD, List.getElem?_eq_getElem (by omega)]
    rfl
theorem op_miss {x : List UInt8} (hm : Miss x 19) : opT x = 0 := by
  unfold opT
  have : ops.findIdx? (fun q => decide (0 < q.2) && (x == q.1)) = none := by
    rw [List.findIdx?_eq_none_iff]
    intro q hq
    obtain ⟨j, hj, e⟩ := List.mem_iff_getElem.1 hq
    have hl : ops.length = 19 := rfl
    have := hm j (by omega)
    unfold sg pw at this
    rw [List.getD_eq_getElem?_getD, List.getElem?_eq_getElem hj, Option.getD_some, e] at this
    cases hb : (decide (0 < q.2) && (x == q.1)) with
    | false => rfl
    | true =>
      simp only [Bool.and_eq_true, decide_eq_true_eq, beq_iff_eq] at hb
      exact absurd hb this
  rw [this]
  rfl

set_option maxRecDepth 100000 in
set_option maxHeartbeats 1000000 in
theorem operation_rd (R g cap : Nat) (L : List Tok) (s : St) (w : World) (h : RD w R g cap L s) :
    Calls Tryz.prog 124 #[rp R] w fun e w' => e = .returned (.tuple #[.int .u8 (opT (tx s)), .int .i64 (powT (opT (tx s)))]) ∧ Q w w' := by
  have HS : Hid (∀ X (k : Nat), Q w X → k < 19 → Calls Tryz.prog 12 #[.int .u8 (k : Int)] X fun e w' => e = .returned (.tuple #[.string (bs (sg k)), .int .i64 (pw k)]) ∧ Q X w') := fun X k q hk => signs_any k hk X (h.q q).b.laid
  have HI : Hid (∀ X x, Q w X → Calls Tryz.prog 66 #[rp R, .string (bs x)] X fun e w' => e = .returned (.bool (decide (tx s = x))) ∧ Q X w') := fun X x q => is_any R g cap L s X (h.q q) x
  clear h
  generalize tx s = x at *
  go_enter Tryz.func124, Tryz.ntmps124
  go_wp2_with (fail)
  go_loopw [7] (fun i wr => ∃ k : Nat, i = .int .i64 k ∧ k ≤ 19 ∧ Hid (Miss x k) ∧ Hid (Q w wr)) (fun i _ => 19 - (intOf i).toNat)
  case atStart => exact ⟨0, rfl, by omega, fun j hj => by omega, Q.refl w⟩
  case round =>
    obtain ⟨k, rfl, hk, HM, HQ⟩ := hrel
    by_cases hlt : k < 19
    · have hlt' : (k : Int) < 19 := by omega
      have hS := hideIt (HS.out wr k HQ.out hlt)
      by_cases hp : 0 < pw k
      · have hp' : decide ((0 : Int) < (pw k : Int)) = true := by simp; omega
        by_cases hx : x = sg k
        · obtain ⟨e1, e2⟩ := op_hit hlt HM.out hp hx
          have HX := hideIt hx
          have EE := hideIt (And.intro e1 e2)
          clear hx e1 e2
          generalize pw k = y at *
          generalize sg k = z at *
          go_wp2_with (first | (go_at_call 12; refine hS.out.mono ?_; rintro e x1 ⟨rfl, q1⟩; have Q1 := hideIt (HQ.out.trans q1); clear q1) | (go_at_call 66; refine (HI.out _ z Q1.out).mono ?_; rw [decide_eq_true HX.out]; rintro e x2 ⟨rfl, q2⟩; have Q2 := hideIt (Q1.out.trans q2); clear q2) | fail)
          go_ret2
          refine ⟨?_, Q2.out⟩
          rw [EE.out.1, EE.out.2]
          rfl
        · have HX := hideIt hx
          have HM' : Hid (Miss x (k + 1)) := fun j hj => by
            by_cases e : j = k
            · subst e; exact fun q => hx q.2
            · exact HM.out j (by omega)
          clear hx
          generalize pw k = y at *
          generalize sg k = z at *
          go_wp2_with (first | (go_at_call 12; refine hS.out.mono ?_; rintro e x1 ⟨rfl, q1⟩; have Q1 := hideIt (HQ.out.trans q1); clear q1) | (go_at_call 66; refine (HI.out _ z Q1.out).mono ?_; rw [decide_eq_false HX.out]; rintro e x2 ⟨rfl, q2⟩; have Q2 := hideIt (Q1.out.trans q2); clear q2) | fail)
          go_roundw
          case rel => exact ⟨k + 1, by go_num, by omega, HM'.out, Q2.out⟩
          case measure => simp [intOf]; omega
      · have hp' : decide ((0 : Int) < (pw k : Int)) = false := by simp; omega
        have HM' : Hid (Miss x (k + 1)) := fun j hj => by
          by_cases e : j = k
          · subst e; exact fun q => hp q.1
          · exact HM.out j (by omega)
        generalize pw k = y at *
        generalize sg k = z at *
        go_wp2_with (first | (go_at_call 12; refine hS.out.mono ?_; rintro e x1 ⟨rfl, q1⟩; have Q1 := hideIt (HQ.out.trans q1); clear q1) | fail)
        go_roundw
        case rel => exact ⟨k + 1, by go_num, by omega, HM'.out, Q1.out⟩
        case measure => simp [intOf]; omega
    · have hlt' : ¬ (k : Int) < 19 := by omega
      have e : k = 19 := by omega
      have EM := hideIt (op_miss (e ▸ HM.out))
      clear e
      go_wp2_with (fail)
      go_ret2
      refine ⟨?_, HQ.out⟩
      rw [EM.out]
      rfl

end Go.Proofs.YtoilhcklflmamaaGreatDoor
