/-
  Whether a call stands at hand: a contract over the program; the conditions: the reader lies in memory as it should.
  Boxes of nodes, and trees that a call made, while a reader reads on: facts on worlds; no conditions but those that each fact bears.
-/
import Derived.Test.YtoilhcklflmamaaGreatDoorKPrE
namespace Go.Proofs.YtoilhcklflmamaaGreatDoor
open Go.RowKit
open Pr
set_option linter.unusedVariables false

theorem Sp.next {L : List Tok} {s : St} (h : Sp L s) (hn : (Pr.hd s).1.kind ≠ 0) : L[pos L s + 1]? = some (Pr.hd ⟨s.t.tail, s.o, s.c⟩) ∧ pos L s + 1 < L.length := by
  have h1 := (h.take (Or.inl hn)).hd
  have h2 := (h.take (Or.inl hn)).lt
  rw [h.pos1 (Or.inl hn)] at h1 h2
  exact ⟨h1, h2⟩

set_option maxRecDepth 100000 in
set_option maxHeartbeats 1000000 in
theorem calls_yes (R g cap : Nat) (L : List Tok) (s : St) (w : World) (h : RD w R g cap L s) (hk1 : (hd s).1.kind = 1) :
    Calls Tryz.prog 120 #[rp R] w fun e w' => e = .returned (.bool (decide (tx ⟨s.t.tail, s.o, s.c⟩ = [40]))) ∧ Q w w' := by
  obtain ⟨hx, hx2⟩ := h.p.next (by rw [hk1]; decide)
  have HK : Hid (∀ X, Q w X → X.cell? ⟨R, 0, none⟩ = some (.slice (some ⟨g, 0, none⟩) L.length cap) ∧ X.cell? ⟨R, 1, none⟩ = some (.int .i64 (pos L s : Int)) ∧ X.cell? ⟨g, (pos L s + 1) * 5 + 1, none⟩ = some (.string ⟨(hd ⟨s.t.tail, s.o, s.c⟩).1.text.toArray⟩)) := fun X q =>
    ⟨(h.q q).b.four.1, (h.q q).b.four.2.1, ((h.q q).b.tks.five _ _ hx).2.1⟩
  obtain ⟨r0, r1, t1⟩ := HK.out w (Q.refl w)
  have HH : Hid (∀ X, Q w X → Calls Tryz.prog 32 #[rp R] X fun e w' => e = .returned (tokV (hd s)) ∧ Q X w') := fun X q => here_any R g cap L s X (h.q q)
  have hlt : ((pos L s : Nat) : Int) + 1 < (L.length : Int) := by omega
  have hb : ((pos L s : Nat) : Int) < 70000 := by have := h.p.len; omega
  have FL := fld0
  have hw1 : IntKind.i64.wrap (((pos L s : Nat) : Int) + 1) = ((pos L s : Nat) : Int) + 1 := by rw [IntKind.wrap_i64]; omega
  have hw2 : (0 : Int) ≤ ((pos L s : Nat) : Int) + 1 := by omega
  have hw3 : (((pos L s : Nat) : Int) + 1).toNat = pos L s + 1 := by omega
  clear h hx hx2
  unfold tx
  generalize pos L s = k at *
  generalize hd ⟨s.t.tail, s.o, s.c⟩ = q1 at *
  generalize hd s = q at *
  obtain ⟨⟨kd, tx, n, ty⟩, at_⟩ := q
  simp only at hk1
  subst hk1
  by_cases hy : q1.1.text = [40]
  · rw [decide_eq_true hy]
    have hy' : (q1.1.text == [40]) = true := by simpa using hy
    go_enter Tryz.func120, Tryz.ntmps120
    go_wp2_with (fail)
    refine wp_region_held_drew (S := fun w' => Q w w' ∧ w'.cell? ⟨R, 0, none⟩ = some (.slice (some ⟨g, 0, none⟩) L.length cap) ∧ w'.cell? ⟨R, 1, none⟩ = some (.int .i64 (k : Int)) ∧ w'.cell? ⟨g, (k + 1) * 5 + 1, none⟩ = some (.string ⟨q1.1.text.toArray⟩)) (by kernel_rfl) (⟨(Q.refl w).drew, r0, r1, t1⟩) (fun hHeld => ?_)
    refine wpAnyH_take (i := 0) (oi := ⟨_, _, _, _, _, _⟩) (v := ?_) rfl (by kernel_rfl) (by kernel_rfl) (by kernel_rfl) (fun _ _ _ h => h) (Or.inl ⟨by rfl, ?_⟩) (by assumption) ?_
    rotate_left 1
    · intro w hSw; (try dsimp only at hSw); go_simp; all_goals with_reducible rfl
    try simp only [Act.put, List.setIfInBounds_toArray, List.set_cons_zero, List.set_cons_succ]
    refine wpAnyH_ready (rs := [1]) (by kernel_rfl) (by simp) (AllReadyH.cons (o := ⟨_, _, _, _, _, _⟩) rfl (fun K hK => ?_) AllReadyH.nil)
    go_simp
    go_at_call 32; refine (HH.out _ hHeld.1).mono ?_; rintro e x1 ⟨rfl, qx⟩; have Q1 := hideIt (Q.trans hHeld.1 qx); clear qx
    refine hK.out _ _ ?_ (fun hHeld => ?_)
    · exact ⟨Q1.out, HK.out _ Q1.out⟩
    clear hK K
    try simp only [Act.put, List.setIfInBounds_toArray, List.set_cons_zero, List.set_cons_succ]
    refine wpAnyH_take (i := 2) (oi := ⟨_, _, _, _, _, _⟩) (v := ?_) rfl (by kernel_rfl) (by kernel_rfl) (by kernel_rfl) (fun _ _ _ h => h) (Or.inl ⟨by rfl, ?_⟩) (by assumption) ?_
    rotate_left 1
    · intro w hSw; (try dsimp only at hSw); go_simp; all_goals with_reducible rfl
    try simp only [Act.put, List.setIfInBounds_toArray, List.set_cons_zero, List.set_cons_succ]
    refine wpAnyH_take (i := 3) (oi := ⟨_, _, _, _, _, _⟩) (v := ?_) rfl (by kernel_rfl) (by kernel_rfl) (by kernel_rfl) (fun _ _ _ h => h) (Or.inl ⟨by rfl, ?_⟩) (by assumption) ?_
    rotate_left 1
    · intro w hSw; (try dsimp only at hSw); go_simp; all_goals with_reducible rfl
    try simp only [Act.put, List.setIfInBounds_toArray, List.set_cons_zero, List.set_cons_succ]
    refine wpAnyH_take (i := 4) (oi := ⟨_, _, _, _, _, _⟩) (v := ?_) rfl (by kernel_rfl) (by kernel_rfl) (by kernel_rfl) (fun _ _ _ h => h) (Or.inl ⟨by rfl, ?_⟩) (by assumption) ?_
    rotate_left 1
    · intro w hSw; (try dsimp only at hSw); go_simp; all_goals with_reducible rfl
    try simp only [Act.put, List.setIfInBounds_toArray, List.set_cons_zero, List.set_cons_succ]
    refine wpAnyH_take (i := 5) (oi := ⟨_, _, _, _, _, _⟩) (v := ?_) rfl (by kernel_rfl) (by kernel_rfl) (by kernel_rfl) (fun _ _ _ h => h) (Or.inl ⟨by rfl, ?_⟩) (by assumption) ?_
    rotate_left 1
    · intro w hSw; (try dsimp only at hSw); go_simp; all_goals with_reducible rfl
    try simp only [Act.put, List.setIfInBounds_toArray, List.set_cons_zero, List.set_cons_succ]
    refine wpAnyH_take (i := 6) (oi := ⟨_, _, _, _, _, _⟩) (v := ?_) rfl (by kernel_rfl) (by kernel_rfl) (by kernel_rfl) (fun _ _ _ h => h) (Or.inl ⟨by rfl, ?_⟩) (by assumption) ?_
    rotate_left 1
    · intro w hSw; (try dsimp only at hSw); go_simp; all_goals with_reducible rfl
    try simp only [Act.put, List.setIfInBounds_toArray, List.set_cons_zero, List.set_cons_succ]
    refine wpAnyH_take (i := 7) (oi := ⟨_, _, _, _, _, _⟩) (v := ?_) rfl (by kernel_rfl) (by kernel_rfl) (by kernel_rfl) (fun _ _ _ h => h) (Or.inl ⟨by rfl, ?_⟩) (by assumption) ?_
    rotate_left 1
    · intro w hSw; (try dsimp only at hSw); go_simp; all_goals with_reducible rfl
    try simp only [Act.put, List.setIfInBounds_toArray, List.set_cons_zero, List.set_cons_succ]
    refine wpAnyH_take (i := 8) (oi := ⟨_, _, _, _, _, _⟩) (v := ?_) rfl (by kernel_rfl) (by kernel_rfl) (by kernel_rfl) (fun _ _ _ h => h) (Or.inl ⟨by rfl, ?_⟩) (by assumption) ?_
    rotate_left 1
    · intro w hSw; (try dsimp only at hSw); go_simp; all_goals with_reducible rfl
    try simp only [Act.put, List.setIfInBounds_toArray, List.set_cons_zero, List.set_cons_succ]
    refine wpAnyH_take (i := 9) (oi := ⟨_, _, _, _, _, _⟩) (v := ?_) rfl (by kernel_rfl) (by kernel_rfl) (by kernel_rfl) (fun _ _ _ h => h) (Or.inl ⟨by rfl, ?_⟩) (by assumption) ?_
    rotate_left 1
    · intro w hSw; (try dsimp only at hSw); go_simp; all_goals with_reducible rfl
    try simp only [Act.put, List.setIfInBounds_toArray, List.set_cons_zero, List.set_cons_succ]
    refine wpAnyH_take (i := 10) (oi := ⟨_, _, _, _, _, _⟩) (v := ?_) rfl (by kernel_rfl) (by kernel_rfl) (by kernel_rfl) (fun _ _ _ h => h) (Or.inl ⟨by rfl, ?_⟩) (by assumption) ?_
    rotate_left 1
    · intro w hSw; (try dsimp only at hSw); go_simp; all_goals with_reducible rfl
    try simp only [Act.put, List.setIfInBounds_toArray, List.set_cons_zero, List.set_cons_succ]
    refine wpAnyH_take (i := 11) (oi := ⟨_, _, _, _, _, _⟩) (v := ?_) rfl (by kernel_rfl) (by kernel_rfl) (by kernel_rfl) (fun _ _ _ h => h) (Or.inl ⟨by rfl, ?_⟩) (by assumption) ?_
    rotate_left 1
    · intro w hSw; (try dsimp only at hSw); go_simp; all_goals with_reducible rfl
    try simp only [Act.put, List.setIfInBounds_toArray, List.set_cons_zero, List.set_cons_succ]
    refine wpAnyH_take (i := 12) (oi := ⟨_, _, _, _, _, _⟩) (v := ?_) rfl (by kernel_rfl) (by kernel_rfl) (by kernel_rfl) (fun _ _ _ h => h) (Or.inl ⟨by rfl, ?_⟩) (by assumption) ?_
    rotate_left 1
    · intro w hSw; (try dsimp only at hSw); go_simp; all_goals with_reducible rfl
    try simp only [Act.put, List.setIfInBounds_toArray, List.set_cons_zero, List.set_cons_succ]
    refine wpAnyH_take (i := 13) (oi := ⟨_, _, _, _, _, _⟩) (v := ?_) rfl (by kernel_rfl) (by kernel_rfl) (by kernel_rfl) (fun _ _ _ h => h) (Or.inl ⟨by rfl, ?_⟩) (by assumption) ?_
    rotate_left 1
    · intro w hSw; (try dsimp only at hSw); go_simp; all_goals with_reducible rfl
    try simp only [Act.put, List.setIfInBounds_toArray, List.set_cons_zero, List.set_cons_succ]
    refine wpAnyH_take (i := 14) (oi := ⟨_, _, _, _, _, _⟩) (v := ?_) rfl (by kernel_rfl) (by kernel_rfl) (by kernel_rfl) (fun _ _ _ h => h) (Or.inl ⟨by rfl, ?_⟩) (by assumption) ?_
    rotate_left 1
    · intro w hSw; (try dsimp only at hSw); go_simp; all_goals with_reducible rfl
    try simp only [Act.put, List.setIfInBounds_toArray, List.set_cons_zero, List.set_cons_succ]
    refine wpAnyH_take (i := 15) (oi := ⟨_, _, _, _, _, _⟩) (v := ?_) rfl (by kernel_rfl) (by kernel_rfl) (by kernel_rfl) (fun _ _ _ h => h) (Or.inl ⟨by rfl, ?_⟩) (by assumption) ?_
    rotate_left 1
    · intro w hSw; (try dsimp only at hSw); go_simp; all_goals with_reducible rfl
    try simp only [Act.put, List.setIfInBounds_toArray, List.set_cons_zero, List.set_cons_succ]
    refine wpAnyH_take (i := 16) (oi := ⟨_, _, _, _, _, _⟩) (v := ?_) rfl (by kernel_rfl) (by kernel_rfl) (by kernel_rfl) (fun _ _ _ h => h) (Or.inl ⟨by rfl, ?_⟩) (by assumption) ?_
    rotate_left 1
    · intro w hSw; (try dsimp only at hSw); go_simp; all_goals with_reducible rfl
    try simp only [Act.put, List.setIfInBounds_toArray, List.set_cons_zero, List.set_cons_succ]
    refine wpAnyH_take (i := 17) (oi := ⟨_, _, _, _, _, _⟩) (v := ?_) rfl (by kernel_rfl) (by kernel_rfl) (by kernel_rfl) (fun _ _ _ h => h) (Or.inl ⟨by rfl, ?_⟩) (by assumption) ?_
    rotate_left 1
    · intro w hSw; (try dsimp only at hSw); go_simp; all_goals with_reducible rfl
    try simp only [Act.put, List.setIfInBounds_toArray, List.set_cons_zero, List.set_cons_succ]
    refine wpAnyH_take (i := 18) (oi := ⟨_, _, _, _, _, _⟩) (v := ?_) rfl (by kernel_rfl) (by kernel_rfl) (by kernel_rfl) (fun _ _ _ h => h) (Or.inl ⟨by rfl, ?_⟩) (by assumption) ?_
    rotate_left 1
    · intro w hSw; (try dsimp only at hSw); go_simp; all_goals with_reducible rfl
    try simp only [Act.put, List.setIfInBounds_toArray, List.set_cons_zero, List.set_cons_succ]
    refine wpAnyH_take (i := 19) (oi := ⟨_, _, _, _, _, _⟩) (v := ?_) rfl (by kernel_rfl) (by kernel_rfl) (by kernel_rfl) (fun _ _ _ h => h) (Or.inl ⟨by rfl, ?_⟩) (by assumption) ?_
    rotate_left 1
    · intro w hSw; (try dsimp only at hSw); go_simp; all_goals with_reducible rfl
    try simp only [Act.put, List.setIfInBounds_toArray, List.set_cons_zero, List.set_cons_succ]
    refine wpAnyH_done (by kernel_rfl) ?_ _
    go_wp2_with (fail)
    go_ret
    exact ⟨rfl, hHeld.1⟩
  · rw [decide_eq_false hy]
    have hy' : (q1.1.text == [40]) = false := by simpa using hy
    go_enter Tryz.func120, Tryz.ntmps120
    go_wp2_with (fail)
    refine wp_region_held_drew (S := fun w' => Q w w' ∧ w'.cell? ⟨R, 0, none⟩ = some (.slice (some ⟨g, 0, none⟩) L.length cap) ∧ w'.cell? ⟨R, 1, none⟩ = some (.int .i64 (k : Int)) ∧ w'.cell? ⟨g, (k + 1) * 5 + 1, none⟩ = some (.string ⟨q1.1.text.toArray⟩)) (by kernel_rfl) (⟨(Q.refl w).drew, r0, r1, t1⟩) (fun hHeld => ?_)
    refine wpAnyH_take (i := 0) (oi := ⟨_, _, _, _, _, _⟩) (v := ?_) rfl (by kernel_rfl) (by kernel_rfl) (by kernel_rfl) (fun _ _ _ h => h) (Or.inl ⟨by rfl, ?_⟩) (by assumption) ?_
    rotate_left 1
    · intro w hSw; (try dsimp only at hSw); go_simp; all_goals with_reducible rfl
    try simp only [Act.put, List.setIfInBounds_toArray, List.set_cons_zero, List.set_cons_succ]
    refine wpAnyH_ready (rs := [1]) (by kernel_rfl) (by simp) (AllReadyH.cons (o := ⟨_, _, _, _, _, _⟩) rfl (fun K hK => ?_) AllReadyH.nil)
    go_simp
    go_at_call 32; refine (HH.out _ hHeld.1).mono ?_; rintro e x1 ⟨rfl, qx⟩; have Q1 := hideIt (Q.trans hHeld.1 qx); clear qx
    refine hK.out _ _ ?_ (fun hHeld => ?_)
    · exact ⟨Q1.out, HK.out _ Q1.out⟩
    clear hK K
    try simp only [Act.put, List.setIfInBounds_toArray, List.set_cons_zero, List.set_cons_succ]
    refine wpAnyH_take (i := 2) (oi := ⟨_, _, _, _, _, _⟩) (v := ?_) rfl (by kernel_rfl) (by kernel_rfl) (by kernel_rfl) (fun _ _ _ h => h) (Or.inl ⟨by rfl, ?_⟩) (by assumption) ?_
    rotate_left 1
    · intro w hSw; (try dsimp only at hSw); go_simp; all_goals with_reducible rfl
    try simp only [Act.put, List.setIfInBounds_toArray, List.set_cons_zero, List.set_cons_succ]
    refine wpAnyH_take (i := 3) (oi := ⟨_, _, _, _, _, _⟩) (v := ?_) rfl (by kernel_rfl) (by kernel_rfl) (by kernel_rfl) (fun _ _ _ h => h) (Or.inl ⟨by rfl, ?_⟩) (by assumption) ?_
    rotate_left 1
    · intro w hSw; (try dsimp only at hSw); go_simp; all_goals with_reducible rfl
    try simp only [Act.put, List.setIfInBounds_toArray, List.set_cons_zero, List.set_cons_succ]
    refine wpAnyH_take (i := 4) (oi := ⟨_, _, _, _, _, _⟩) (v := ?_) rfl (by kernel_rfl) (by kernel_rfl) (by kernel_rfl) (fun _ _ _ h => h) (Or.inl ⟨by rfl, ?_⟩) (by assumption) ?_
    rotate_left 1
    · intro w hSw; (try dsimp only at hSw); go_simp; all_goals with_reducible rfl
    try simp only [Act.put, List.setIfInBounds_toArray, List.set_cons_zero, List.set_cons_succ]
    refine wpAnyH_take (i := 5) (oi := ⟨_, _, _, _, _, _⟩) (v := ?_) rfl (by kernel_rfl) (by kernel_rfl) (by kernel_rfl) (fun _ _ _ h => h) (Or.inl ⟨by rfl, ?_⟩) (by assumption) ?_
    rotate_left 1
    · intro w hSw; (try dsimp only at hSw); go_simp; all_goals with_reducible rfl
    try simp only [Act.put, List.setIfInBounds_toArray, List.set_cons_zero, List.set_cons_succ]
    refine wpAnyH_take (i := 6) (oi := ⟨_, _, _, _, _, _⟩) (v := ?_) rfl (by kernel_rfl) (by kernel_rfl) (by kernel_rfl) (fun _ _ _ h => h) (Or.inl ⟨by rfl, ?_⟩) (by assumption) ?_
    rotate_left 1
    · intro w hSw; (try dsimp only at hSw); go_simp; all_goals with_reducible rfl
    try simp only [Act.put, List.setIfInBounds_toArray, List.set_cons_zero, List.set_cons_succ]
    refine wpAnyH_take (i := 7) (oi := ⟨_, _, _, _, _, _⟩) (v := ?_) rfl (by kernel_rfl) (by kernel_rfl) (by kernel_rfl) (fun _ _ _ h => h) (Or.inl ⟨by rfl, ?_⟩) (by assumption) ?_
    rotate_left 1
    · intro w hSw; (try dsimp only at hSw); go_simp; all_goals with_reducible rfl
    try simp only [Act.put, List.setIfInBounds_toArray, List.set_cons_zero, List.set_cons_succ]
    refine wpAnyH_take (i := 8) (oi := ⟨_, _, _, _, _, _⟩) (v := ?_) rfl (by kernel_rfl) (by kernel_rfl) (by kernel_rfl) (fun _ _ _ h => h) (Or.inl ⟨by rfl, ?_⟩) (by assumption) ?_
    rotate_left 1
    · intro w hSw; (try dsimp only at hSw); go_simp; all_goals with_reducible rfl
    try simp only [Act.put, List.setIfInBounds_toArray, List.set_cons_zero, List.set_cons_succ]
    refine wpAnyH_take (i := 9) (oi := ⟨_, _, _, _, _, _⟩) (v := ?_) rfl (by kernel_rfl) (by kernel_rfl) (by kernel_rfl) (fun _ _ _ h => h) (Or.inl ⟨by rfl, ?_⟩) (by assumption) ?_
    rotate_left 1
    · intro w hSw; (try dsimp only at hSw); go_simp; all_goals with_reducible rfl
    try simp only [Act.put, List.setIfInBounds_toArray, List.set_cons_zero, List.set_cons_succ]
    refine wpAnyH_take (i := 10) (oi := ⟨_, _, _, _, _, _⟩) (v := ?_) rfl (by kernel_rfl) (by kernel_rfl) (by kernel_rfl) (fun _ _ _ h => h) (Or.inl ⟨by rfl, ?_⟩) (by assumption) ?_
    rotate_left 1
    · intro w hSw; (try dsimp only at hSw); go_simp; all_goals with_reducible rfl
    try simp only [Act.put, List.setIfInBounds_toArray, List.set_cons_zero, List.set_cons_succ]
    refine wpAnyH_take (i := 11) (oi := ⟨_, _, _, _, _, _⟩) (v := ?_) rfl (by kernel_rfl) (by kernel_rfl) (by kernel_rfl) (fun _ _ _ h => h) (Or.inl ⟨by rfl, ?_⟩) (by assumption) ?_
    rotate_left 1
    · intro w hSw; (try dsimp only at hSw); go_simp; all_goals with_reducible rfl
    try simp only [Act.put, List.setIfInBounds_toArray, List.set_cons_zero, List.set_cons_succ]
    refine wpAnyH_take (i := 12) (oi := ⟨_, _, _, _, _, _⟩) (v := ?_) rfl (by kernel_rfl) (by kernel_rfl) (by kernel_rfl) (fun _ _ _ h => h) (Or.inl ⟨by rfl, ?_⟩) (by assumption) ?_
    rotate_left 1
    · intro w hSw; (try dsimp only at hSw); go_simp; all_goals with_reducible rfl
    try simp only [Act.put, List.setIfInBounds_toArray, List.set_cons_zero, List.set_cons_succ]
    refine wpAnyH_take (i := 13) (oi := ⟨_, _, _, _, _, _⟩) (v := ?_) rfl (by kernel_rfl) (by kernel_rfl) (by kernel_rfl) (fun _ _ _ h => h) (Or.inl ⟨by rfl, ?_⟩) (by assumption) ?_
    rotate_left 1
    · intro w hSw; (try dsimp only at hSw); go_simp; all_goals with_reducible rfl
    try simp only [Act.put, List.setIfInBounds_toArray, List.set_cons_zero, List.set_cons_succ]
    refine wpAnyH_take (i := 14) (oi := ⟨_, _, _, _, _, _⟩) (v := ?_) rfl (by kernel_rfl) (by kernel_rfl) (by kernel_rfl) (fun _ _ _ h => h) (Or.inl ⟨by rfl, ?_⟩) (by assumption) ?_
    rotate_left 1
    · intro w hSw; (try dsimp only at hSw); go_simp; all_goals with_reducible rfl
    try simp only [Act.put, List.setIfInBounds_toArray, List.set_cons_zero, List.set_cons_succ]
    refine wpAnyH_take (i := 15) (oi := ⟨_, _, _, _, _, _⟩) (v := ?_) rfl (by kernel_rfl) (by kernel_rfl) (by kernel_rfl) (fun _ _ _ h => h) (Or.inl ⟨by rfl, ?_⟩) (by assumption) ?_
    rotate_left 1
    · intro w hSw; (try dsimp only at hSw); go_simp; all_goals with_reducible rfl
    try simp only [Act.put, List.setIfInBounds_toArray, List.set_cons_zero, List.set_cons_succ]
    refine wpAnyH_take (i := 16) (oi := ⟨_, _, _, _, _, _⟩) (v := ?_) rfl (by kernel_rfl) (by kernel_rfl) (by kernel_rfl) (fun _ _ _ h => h) (Or.inl ⟨by rfl, ?_⟩) (by assumption) ?_
    rotate_left 1
    · intro w hSw; (try dsimp only at hSw); go_simp; all_goals with_reducible rfl
    try simp only [Act.put, List.setIfInBounds_toArray, List.set_cons_zero, List.set_cons_succ]
    refine wpAnyH_take (i := 17) (oi := ⟨_, _, _, _, _, _⟩) (v := ?_) rfl (by kernel_rfl) (by kernel_rfl) (by kernel_rfl) (fun _ _ _ h => h) (Or.inl ⟨by rfl, ?_⟩) (by assumption) ?_
    rotate_left 1
    · intro w hSw; (try dsimp only at hSw); go_simp; all_goals with_reducible rfl
    try simp only [Act.put, List.setIfInBounds_toArray, List.set_cons_zero, List.set_cons_succ]
    refine wpAnyH_take (i := 18) (oi := ⟨_, _, _, _, _, _⟩) (v := ?_) rfl (by kernel_rfl) (by kernel_rfl) (by kernel_rfl) (fun _ _ _ h => h) (Or.inl ⟨by rfl, ?_⟩) (by assumption) ?_
    rotate_left 1
    · intro w hSw; (try dsimp only at hSw); go_simp; all_goals with_reducible rfl
    try simp only [Act.put, List.setIfInBounds_toArray, List.set_cons_zero, List.set_cons_succ]
    refine wpAnyH_take (i := 19) (oi := ⟨_, _, _, _, _, _⟩) (v := ?_) rfl (by kernel_rfl) (by kernel_rfl) (by kernel_rfl) (fun _ _ _ h => h) (Or.inl ⟨by rfl, ?_⟩) (by assumption) ?_
    rotate_left 1
    · intro w hSw; (try dsimp only at hSw); go_simp; all_goals with_reducible rfl
    try simp only [Act.put, List.setIfInBounds_toArray, List.set_cons_zero, List.set_cons_succ]
    refine wpAnyH_done (by kernel_rfl) ?_ _
    go_wp2_with (fail)
    go_ret
    exact ⟨rfl, hHeld.1⟩

set_option maxRecDepth 100000 in
set_option maxHeartbeats 1000000 in
theorem calls_no (R g cap : Nat) (L : List Tok) (s : St) (w : World) (h : RD w R g cap L s) (hk1 : (hd s).1.kind ≠ 1) :
    Calls Tryz.prog 120 #[rp R] w fun e w' => e = .returned (.bool false) ∧ Q w w' := by
  have HH : Hid (∀ X, Q w X → Calls Tryz.prog 32 #[rp R] X fun e w' => e = .returned (tokV (hd s)) ∧ Q X w') := fun X q => here_any R g cap L s X (h.q q)
  have FL := fld0
  clear h
  generalize hd s = q at *
  obtain ⟨⟨kd, tx, n, ty⟩, at_⟩ := q
  simp only at hk1
  have hk2 : ((kd : Int) == 1) = false := by simp; omega
  go_enter Tryz.func120, Tryz.ntmps120
  go_wp2_with (fail)
  refine wp_region_held_drew (S := fun w' => Q w w' ∧ True) (by kernel_rfl) (⟨(Q.refl w).drew, trivial⟩) (fun hHeld => ?_)
  refine wpAnyH_take (i := 0) (oi := ⟨_, _, _, _, _, _⟩) (v := ?_) rfl (by kernel_rfl) (by kernel_rfl) (by kernel_rfl) (fun _ _ _ h => h) (Or.inl ⟨by rfl, ?_⟩) (by assumption) ?_
  rotate_left 1
  · intro w hSw; (try dsimp only at hSw); go_simp; all_goals with_reducible rfl
  try simp only [Act.put, List.setIfInBounds_toArray, List.set_cons_zero, List.set_cons_succ]
  refine wpAnyH_ready (rs := [1]) (by kernel_rfl) (by simp) (AllReadyH.cons (o := ⟨_, _, _, _, _, _⟩) rfl (fun K hK => ?_) AllReadyH.nil)
  go_simp
  go_at_call 32; refine (HH.out _ hHeld.1).mono ?_; rintro e x1 ⟨rfl, qx⟩; have Q1 := hideIt (Q.trans hHeld.1 qx); clear qx
  refine hK.out _ _ ?_ (fun hHeld => ?_)
  · exact ⟨Q1.out, trivial⟩
  clear hK K
  try simp only [Act.put, List.setIfInBounds_toArray, List.set_cons_zero, List.set_cons_succ]
  refine wpAnyH_take (i := 2) (oi := ⟨_, _, _, _, _, _⟩) (v := ?_) rfl (by kernel_rfl) (by kernel_rfl) (by kernel_rfl) (fun _ _ _ h => h) (Or.inl ⟨by rfl, ?_⟩) (by assumption) ?_
  rotate_left 1
  · intro w hSw; (try dsimp only at hSw); go_simp; all_goals with_reducible rfl
  try simp only [Act.put, List.setIfInBounds_toArray, List.set_cons_zero, List.set_cons_succ]
  refine wpAnyH_take (i := 3) (oi := ⟨_, _, _, _, _, _⟩) (v := ?_) rfl (by kernel_rfl) (by kernel_rfl) (by kernel_rfl) (fun _ _ _ h => h) (Or.inl ⟨by rfl, ?_⟩) (by assumption) ?_
  rotate_left 1
  · intro w hSw; (try dsimp only at hSw); go_simp; all_goals with_reducible rfl
  try simp only [Act.put, List.setIfInBounds_toArray, List.set_cons_zero, List.set_cons_succ]
  refine wpAnyH_take (i := 4) (oi := ⟨_, _, _, _, _, _⟩) (v := ?_) rfl (by kernel_rfl) (by kernel_rfl) (by kernel_rfl) (fun _ _ _ h => h) (Or.inl ⟨by rfl, ?_⟩) (by assumption) ?_
  rotate_left 1
  · intro w hSw; (try dsimp only at hSw); go_simp; all_goals with_reducible rfl
  try simp only [Act.put, List.setIfInBounds_toArray, List.set_cons_zero, List.set_cons_succ]
  refine wpAnyH_take (i := 5) (oi := ⟨_, _, _, _, _, _⟩) (v := undef) rfl (by kernel_rfl) (by kernel_rfl) (by kernel_rfl) (fun _ _ _ h => h) (Or.inr ⟨by rfl, rfl⟩) (by assumption) ?_
  try simp only [Act.put, List.setIfInBounds_toArray, List.set_cons_zero, List.set_cons_succ]
  refine wpAnyH_take (i := 6) (oi := ⟨_, _, _, _, _, _⟩) (v := undef) rfl (by kernel_rfl) (by kernel_rfl) (by kernel_rfl) (fun _ _ _ h => h) (Or.inr ⟨by rfl, rfl⟩) (by assumption) ?_
  try simp only [Act.put, List.setIfInBounds_toArray, List.set_cons_zero, List.set_cons_succ]
  refine wpAnyH_take (i := 7) (oi := ⟨_, _, _, _, _, _⟩) (v := undef) rfl (by kernel_rfl) (by kernel_rfl) (by kernel_rfl) (fun _ _ _ h => h) (Or.inr ⟨by rfl, rfl⟩) (by assumption) ?_
  try simp only [Act.put, List.setIfInBounds_toArray, List.set_cons_zero, List.set_cons_succ]
  refine wpAnyH_take (i := 8) (oi := ⟨_, _, _, _, _, _⟩) (v := undef) rfl (by kernel_rfl) (by kernel_rfl) (by kernel_rfl) (fun _ _ _ h => h) (Or.inr ⟨by rfl, rfl⟩) (by assumption) ?_
  try simp only [Act.put, List.setIfInBounds_toArray, List.set_cons_zero, List.set_cons_succ]
  refine wpAnyH_take (i := 9) (oi := ⟨_, _, _, _, _, _⟩) (v := undef) rfl (by kernel_rfl) (by kernel_rfl) (by kernel_rfl) (fun _ _ _ h => h) (Or.inr ⟨by rfl, rfl⟩) (by assumption) ?_
  try simp only [Act.put, List.setIfInBounds_toArray, List.set_cons_zero, List.set_cons_succ]
  refine wpAnyH_take (i := 10) (oi := ⟨_, _, _, _, _, _⟩) (v := undef) rfl (by kernel_rfl) (by kernel_rfl) (by kernel_rfl) (fun _ _ _ h => h) (Or.inr ⟨by rfl, rfl⟩) (by assumption) ?_
  try simp only [Act.put, List.setIfInBounds_toArray, List.set_cons_zero, List.set_cons_succ]
  refine wpAnyH_take (i := 11) (oi := ⟨_, _, _, _, _, _⟩) (v := undef) rfl (by kernel_rfl) (by kernel_rfl) (by kernel_rfl) (fun _ _ _ h => h) (Or.inr ⟨by rfl, rfl⟩) (by assumption) ?_
  try simp only [Act.put, List.setIfInBounds_toArray, List.set_cons_zero, List.set_cons_succ]
  refine wpAnyH_take (i := 12) (oi := ⟨_, _, _, _, _, _⟩) (v := undef) rfl (by kernel_rfl) (by kernel_rfl) (by kernel_rfl) (fun _ _ _ h => h) (Or.inr ⟨by rfl, rfl⟩) (by assumption) ?_
  try simp only [Act.put, List.setIfInBounds_toArray, List.set_cons_zero, List.set_cons_succ]
  refine wpAnyH_take (i := 13) (oi := ⟨_, _, _, _, _, _⟩) (v := undef) rfl (by kernel_rfl) (by kernel_rfl) (by kernel_rfl) (fun _ _ _ h => h) (Or.inr ⟨by rfl, rfl⟩) (by assumption) ?_
  try simp only [Act.put, List.setIfInBounds_toArray, List.set_cons_zero, List.set_cons_succ]
  refine wpAnyH_take (i := 14) (oi := ⟨_, _, _, _, _, _⟩) (v := undef) rfl (by kernel_rfl) (by kernel_rfl) (by kernel_rfl) (fun _ _ _ h => h) (Or.inr ⟨by rfl, rfl⟩) (by assumption) ?_
  try simp only [Act.put, List.setIfInBounds_toArray, List.set_cons_zero, List.set_cons_succ]
  refine wpAnyH_take (i := 15) (oi := ⟨_, _, _, _, _, _⟩) (v := undef) rfl (by kernel_rfl) (by kernel_rfl) (by kernel_rfl) (fun _ _ _ h => h) (Or.inr ⟨by rfl, rfl⟩) (by assumption) ?_
  try simp only [Act.put, List.setIfInBounds_toArray, List.set_cons_zero, List.set_cons_succ]
  refine wpAnyH_take (i := 16) (oi := ⟨_, _, _, _, _, _⟩) (v := undef) rfl (by kernel_rfl) (by kernel_rfl) (by kernel_rfl) (fun _ _ _ h => h) (Or.inr ⟨by rfl, rfl⟩) (by assumption) ?_
  try simp only [Act.put, List.setIfInBounds_toArray, List.set_cons_zero, List.set_cons_succ]
  refine wpAnyH_take (i := 17) (oi := ⟨_, _, _, _, _, _⟩) (v := undef) rfl (by kernel_rfl) (by kernel_rfl) (by kernel_rfl) (fun _ _ _ h => h) (Or.inr ⟨by rfl, rfl⟩) (by assumption) ?_
  try simp only [Act.put, List.setIfInBounds_toArray, List.set_cons_zero, List.set_cons_succ]
  refine wpAnyH_take (i := 18) (oi := ⟨_, _, _, _, _, _⟩) (v := ?_) rfl (by kernel_rfl) (by kernel_rfl) (by kernel_rfl) (fun _ _ _ h => h) (Or.inl ⟨by rfl, ?_⟩) (by assumption) ?_
  rotate_left 1
  · intro w hSw; (try dsimp only at hSw); go_simp; all_goals with_reducible rfl
  try simp only [Act.put, List.setIfInBounds_toArray, List.set_cons_zero, List.set_cons_succ]
  refine wpAnyH_take (i := 19) (oi := ⟨_, _, _, _, _, _⟩) (v := ?_) rfl (by kernel_rfl) (by kernel_rfl) (by kernel_rfl) (fun _ _ _ h => h) (Or.inl ⟨by rfl, ?_⟩) (by assumption) ?_
  rotate_left 1
  · intro w hSw; (try dsimp only at hSw); go_simp; all_goals with_reducible rfl
  try simp only [Act.put, List.setIfInBounds_toArray, List.set_cons_zero, List.set_cons_succ]
  refine wpAnyH_done (by kernel_rfl) ?_ _
  go_wp2_with (fail)
  go_ret
  exact ⟨rfl, hHeld.1⟩

theorem calls_any (R g cap : Nat) (L : List Tok) (s : St) (w : World) (h : RD w R g cap L s) :
    Calls Tryz.prog 120 #[rp R] w fun e w' => e = .returned (.bool (decide ((hd s).1.kind = 1 ∧ tx ⟨s.t.tail, s.o, s.c⟩ = [40]))) ∧ Q w w' := by
  by_cases hk : (hd s).1.kind = 1
  · have e : decide ((hd s).1.kind = 1 ∧ tx ⟨s.t.tail, s.o, s.c⟩ = [40]) = decide (tx ⟨s.t.tail, s.o, s.c⟩ = [40]) := by rw [decide_eq_decide]; exact ⟨fun h => h.2, fun h => ⟨hk, h⟩⟩
    rw [e]
    exact calls_yes R g cap L s w h hk
  · rw [decide_eq_false (fun h => hk h.1)]
    exact calls_no R g cap L s w h hk

end Go.Proofs.YtoilhcklflmamaaGreatDoor

namespace Go.Proofs.YtoilhcklflmamaaGreatDoor
open Go.RowKit
open Pr
set_option linter.unusedVariables false

theorem Fr.keptD {R b : Nat} {x x2 : World} {o : Obj} (h : x.heap[b]? = some o) (hb : b ≠ R) (f : Fr R x.drew x2) : x2.heap[b]? = some o := Fr.kept (x := x.drew) h hb f
/-- A box that holds a node. -/
def Bx (w : World) (b : Nat) (v : NF) (s : Value) : Prop := w.heap[b]? = some (.cells (cellsN v s).toArray 27 (0, 0))
theorem Bx.lt {w : World} {b : Nat} {v : NF} {s : Value} (h : Bx w b v s) : b < w.heap.size := lt_of_heap h
theorem Bx.ten {w : World} {b : Nat} {v : NF} {s : Value} (h : Bx w b v s) : w.cell? ⟨b, 0, none⟩ = some (.int .u8 v.k) ∧ w.cell? ⟨b, 1, none⟩ = some (.int .u8 v.op) ∧ w.cell? ⟨b, 2, none⟩ = some (.int .u8 v.tk) ∧ w.cell? ⟨b, 3, none⟩ = some (.int .u8 v.ti) ∧ w.cell? ⟨b, 4, none⟩ = some (.int .i64 v.tn) ∧ w.cell? ⟨b, 5, none⟩ = some (.int .i64 v.n) ∧ w.cell? ⟨b, 6, none⟩ = some (.int .i64 v.m) ∧ w.cell? ⟨b, 7, none⟩ = some (.string v.nm) ∧ w.cell? ⟨b, 8, none⟩ = some (.string v.fd) ∧ w.cell? ⟨b, 9, none⟩ = some s :=
  ⟨cell_of_block h 0, cell_of_block h 1, cell_of_block h 2, cell_of_block h 3, cell_of_block h 4, cell_of_block h 5, cell_of_block h 6, cell_of_block h 7, cell_of_block h 8, cell_of_block h 9⟩
theorem Bx.free {w : World} {b : Nat} {v : NF} {s : Value} (h : Bx w b v s) (j : Nat) : w.frozen? ⟨b, j, none⟩ = false := free_of_block h j
theorem Bx.alloc {w : World} {b : Nat} {v : NF} {s : Value} (h : Bx w b v s) (o : Obj) : Bx (w.alloc o) b v s := (Below.heap_alloc w o b h.lt).trans h
theorem Bx.new (w : World) (v : NF) (s : Value) : Bx (w.alloc (.cells (cellsN v s).toArray 27)) w.heap.size v s := heap_alloc_new w _
theorem Bx.newAt (w : World) (v : NF) (s : Value) {b : Nat} (hb : w.heap.size = b) : Bx (w.alloc (.cells (cellsN v s).toArray 27)) b v s := by subst hb; exact Bx.new w v s
theorem Bx.set {w : World} {b : Nat} {v : NF} {s : Value} (h : Bx w b v s) {p : Addr} (hp : b ≠ p.block) (u : Value) : Bx (w.setCell p u) b v s := (Below.heap_setCell w p u b hp).trans h
theorem Bx.fr {R : Nat} {w x : World} {b : Nat} {v : NF} {s : Value} (h : Bx w b v s) (hb : b ≠ R) (f : Fr R w x) : Bx x b v s := Fr.kept h hb f
theorem Bx.drew {w : World} {b : Nat} {v : NF} {s : Value} (h : Bx w b v s) : Bx w.drew b v s := h
theorem Bx.same {w : World} {b : Nat} {v : NF} {s : Value} (h : Bx w b v s) (j : Nat) (u : Value) (e : (cellsN v s)[j]? = some u) : w.setCell ⟨b, j, none⟩ u = w := setCell_same h (by simpa using e)
theorem Bx.put {w : World} {b : Nat} {v v' : NF} {s s' : Value} (h : Bx w b v s) (j : Nat) (u : Value) (e : (cellsN v s).toArray.setIfInBounds j u = (cellsN v' s').toArray) : Bx (w.setCell ⟨b, j, none⟩ u) b v' s' := by
  unfold Bx
  rw [block_setCell h u, e]
theorem Bx.whole {w : World} {b : Nat} {v : NF} {s : Value} (h : Bx w b v s) (v' : NF) (s' : Value) : Bx ((((((((((w.setCell ⟨b, 0, none⟩ (.int .u8 v'.k)).setCell ⟨b, 1, none⟩ (.int .u8 v'.op)).setCell ⟨b, 2, none⟩ (.int .u8 v'.tk)).setCell ⟨b, 3, none⟩ (.int .u8 v'.ti)).setCell ⟨b, 4, none⟩ (.int .i64 v'.tn)).setCell ⟨b, 5, none⟩ (.int .i64 v'.n)).setCell ⟨b, 6, none⟩ (.int .i64 v'.m)).setCell ⟨b, 7, none⟩ (.string v'.nm)).setCell ⟨b, 8, none⟩ (.string v'.fd)).setCell ⟨b, 9, none⟩ s') b v' s' := by
  obtain ⟨k', op', tk', ti', tn', n', m', nm', fd'⟩ := v'
  exact (((((((((h.put 0 _ (v' := { v with k := k' }) (s' := s) rfl).put 1 _ (v' := { v with k := k', op := op' }) (s' := s) rfl).put 2 _ (v' := { v with k := k', op := op', tk := tk' }) (s' := s) rfl).put 3 _ (v' := { v with k := k', op := op', tk := tk', ti := ti' }) (s' := s) rfl).put 4 _ (v' := { v with k := k', op := op', tk := tk', ti := ti', tn := tn' }) (s' := s) rfl).put 5 _ (v' := { v with k := k', op := op', tk := tk', ti := ti', tn := tn', n := n' }) (s' := s) rfl).put 6 _ (v' := { v with k := k', op := op', tk := tk', ti := ti', tn := tn', n := n', m := m' }) (s' := s) rfl).put 7 _ (v' := { v with k := k', op := op', tk := tk', ti := ti', tn := tn', n := n', m := m', nm := nm' }) (s' := s) rfl).put 8 _ (v' := ⟨k', op', tk', ti', tn', n', m', nm', fd'⟩) (s' := s) rfl).put 9 _ rfl
theorem Bx.at9 {w : World} {b : Nat} {v : NF} {s : Value} (h : Bx w b v s) (u : Value) : Bx (w.setCell ⟨b, 9, none⟩ u) b v u := by
  unfold Bx
  rw [block_setCell h u]
  rfl

/-- A forest in memory, and between which blocks it lies. -/
structure Ls (B U : Nat) (w : World) (a : Option Addr) (f : Fo) : Prop where
  i : In w a f
  v : Av (fun b => B ≤ b ∧ b < U) a f
theorem Ls.mono {B U B' U' : Nat} {w : World} {a : Option Addr} {f : Fo} (h : Ls B U w a f) (h1 : B' ≤ B) (h2 : U ≤ U') : Ls B' U' w a f := ⟨h.i, h.v.mono fun b hb => by omega⟩
theorem Ls.fr {R B U : Nat} {w x : World} {a : Option Addr} {f : Fo} (h : Ls B U w a f) (hR : R < B) (k : Fr R w x) : Ls B U x a f := ⟨in_grown k h.i (h.v.mono fun b hb e => by cases e; omega), h.v⟩
theorem Ls.q {B U : Nat} {w x : World} {a : Option Addr} {f : Fo} (h : Ls B U w a f) (k : Q w x) : Ls B U x a f := ⟨h.i.keep (Nat.le_refl _) k, h.v⟩
theorem Ls.alloc {B U : Nat} {w : World} {a : Option Addr} {f : Fo} (h : Ls B U w a f) (o : Obj) : Ls B U (w.alloc o) a f := h.q ((Q.refl w).alloc o)
theorem Ls.drew {B U : Nat} {w : World} {a : Option Addr} {f : Fo} (h : Ls B U w a f) : Ls B U w.drew a f := h.q (Q.refl w).drew
theorem Ls.set {B U : Nat} {w : World} {a : Option Addr} {f : Fo} (h : Ls B U w a f) {p : Addr} (hp : p.block < B ∨ U ≤ p.block) (u : Value) : Ls B U (w.setCell p u) a f := ⟨in_set h.i (h.v.mono fun b hb e => by omega), h.v⟩
theorem NV.out {B : Nat} {x : Nd} {v : Value} {w : World} (h : NV B x v w) : ∃ a c f, v = nodeV x.1 (.slice a (Fo.len f) c) ∧ Cp x.2 f ∧ sok a f.len c ∧ Ls B w.heap.size w a f ∧ x.1.ok := by
  obtain ⟨a, c, f, h1, h2, h3, h4, h5, h6⟩ := h
  exact ⟨a, c, f, h1, h2, h3, ⟨h4, h5.and (av_in h4)⟩, h6⟩
theorem NV.mk {B B' U : Nat} {x : Nd} {w : World} {a : Option Addr} {c : Nat} {f : Fo} (h1 : Cp x.2 f) (h2 : sok a f.len c) (h3 : Ls B' U w a f) (hB : B ≤ B') (h4 : x.1.ok) : NV B x (nodeV x.1 (.slice a f.len c)) w :=
  ⟨a, c, f, rfl, h1, h2, h3.i, h3.v.mono fun b hb => by omega, h4⟩
theorem NV.leaf {B : Nat} {v : NF} {w : World} (h : v.ok) : NV B (v, .nil) (nodeV v (.slice none 0 0)) w := ⟨none, 0, .nil, rfl, trivial, ⟨Nat.le_refl _, by decide, fun _ => rfl⟩, trivial, trivial, h⟩

/-- Nodes in a block of their own, each with what hangs on it. -/
theorem in_block {w : World} {b : Nat} {f : Fo} {cur : Array Value} (h : w.heap[b]? = some (.cells cur 27 (0, 0))) (hc : cur = (cellsF f).toArray) (hk : KI w f) : In w (some ⟨b, 0, none⟩) f :=
  In.of_cells (fun j hj => by rw [cell_of_block h, hc]; simp) hk
theorem Ls.one {B U : Nat} {w : World} {a : Option Addr} {c : Nat} {f : Fo} {v : NF} (h : Ls B U w a f) (hv : v.ok) (hs : sok a f.len c) (hU : U ≤ w.heap.size) {B' b : Nat} (hb : w.heap.size = b) (hB : B' ≤ B) (hB2 : B' ≤ w.heap.size) :
    Ls B' (b + 1) (w.alloc (.cells (cellsN v (.slice a f.len c)).toArray 27)) (some ⟨b, 0, none⟩) (.cons v a c f .nil) := by
  subst hb
  have h' := h.alloc (.cells (cellsN v (.slice a f.len c)).toArray 27)
  refine ⟨in_block (heap_alloc_new w _) (by simp [cellsF]) ⟨hv, hs, h'.i, trivial⟩, ?_⟩
  refine ⟨fun p hp => by cases hp; exact ⟨hB2, Nat.lt_succ_self _⟩, h.v.mono fun b hb => by omega, trivial⟩
theorem Ls.two {B U B2 U2 : Nat} {w : World} {a a2 : Option Addr} {c c2 : Nat} {f f2 : Fo} {v v2 : NF} (h : Ls B U w a f) (hv : v.ok) (hs : sok a f.len c) (hU : U ≤ w.heap.size) (h2 : Ls B2 U2 w a2 f2) (hv2 : v2.ok) (hs2 : sok a2 f2.len c2) (hU2 : U2 ≤ w.heap.size) {B' b : Nat} (hb : w.heap.size = b) (hB : B' ≤ B) (hBB : B' ≤ B2) (hB2 : B' ≤ w.heap.size) :
    Ls B' (b + 1) (w.alloc (.cells (cellsN v (.slice a f.len c) ++ cellsN v2 (.slice a2 f2.len c2)).toArray 27)) (some ⟨b, 0, none⟩) (.cons v a c f (.cons v2 a2 c2 f2 .nil)) := by
  subst hb
  have h' := h.alloc (.cells (cellsN v (.slice a f.len c) ++ cellsN v2 (.slice a2 f2.len c2)).toArray 27)
  have h2' := h2.alloc (.cells (cellsN v (.slice a f.len c) ++ cellsN v2 (.slice a2 f2.len c2)).toArray 27)
  refine ⟨in_block (heap_alloc_new w _) (by simp [cellsF]) ⟨hv, hs, h'.i, hv2, hs2, h2'.i, trivial⟩, ?_⟩
  exact av_of_kids ⟨hB2, Nat.lt_succ_self _⟩ ⟨h.v.mono fun b hb => by omega, h2.v.mono fun b hb => by omega, trivial⟩
theorem Ls.three {B U B2 U2 B3 U3 : Nat} {w : World} {a a2 a3 : Option Addr} {c c2 c3 : Nat} {f f2 f3 : Fo} {v v2 v3 : NF} (h : Ls B U w a f) (hv : v.ok) (hs : sok a f.len c) (hU : U ≤ w.heap.size) (h2 : Ls B2 U2 w a2 f2) (hv2 : v2.ok) (hs2 : sok a2 f2.len c2) (hU2 : U2 ≤ w.heap.size) (h3 : Ls B3 U3 w a3 f3) (hv3 : v3.ok) (hs3 : sok a3 f3.len c3) (hU3 : U3 ≤ w.heap.size) {B' b : Nat} (hb : w.heap.size = b) (hB : B' ≤ B) (hBB : B' ≤ B2) (hB3 : B' ≤ B3) (hB2 : B' ≤ w.heap.size) :
    Ls B' (b + 1) (w.alloc (.cells (cellsN v (.slice a f.len c) ++ (cellsN v2 (.slice a2 f2.len c2) ++ cellsN v3 (.slice a3 f3.len c3))).toArray 27)) (some ⟨b, 0, none⟩) (.cons v a c f (.cons v2 a2 c2 f2 (.cons v3 a3 c3 f3 .nil))) := by
  subst hb
  have h' := h.alloc (.cells (cellsN v (.slice a f.len c) ++ (cellsN v2 (.slice a2 f2.len c2) ++ cellsN v3 (.slice a3 f3.len c3))).toArray 27)
  have h2' := h2.alloc (.cells (cellsN v (.slice a f.len c) ++ (cellsN v2 (.slice a2 f2.len c2) ++ cellsN v3 (.slice a3 f3.len c3))).toArray 27)
  have h3' := h3.alloc (.cells (cellsN v (.slice a f.len c) ++ (cellsN v2 (.slice a2 f2.len c2) ++ cellsN v3 (.slice a3 f3.len c3))).toArray 27)
  refine ⟨in_block (heap_alloc_new w _) (by simp [cellsF]) ⟨hv, hs, h'.i, hv2, hs2, h2'.i, hv3, hs3, h3'.i, trivial⟩, ?_⟩
  exact av_of_kids ⟨hB2, Nat.lt_succ_self _⟩ ⟨h.v.mono fun b hb => by omega, h2.v.mono fun b hb => by omega, h3.v.mono fun b hb => by omega, trivial⟩

theorem sok1 {a : Addr} : sok (some a) 1 1 := ⟨Nat.le_refl _, by decide, fun h => by cases h⟩
theorem sok2 {a : Addr} : sok (some a) 2 2 := ⟨Nat.le_refl _, by decide, fun h => by cases h⟩
theorem sok3 {a : Addr} : sok (some a) 3 3 := ⟨Nat.le_refl _, by decide, fun h => by cases h⟩
theorem sok0 : sok none 0 0 := ⟨Nat.le_refl _, by decide, fun _ => rfl⟩

theorem try_wf {x : List UInt8} {s s' : St} {b : Bool} (hw : Wf s) (hx : x ≠ []) (h : tryM x s = .ok b s') : Wf s' := by
  have := try_k (f := fun b s => .ok b s) (P := fun _ s' => Wf s') hw hx (fun s' h => h.wf) hw
  rw [h] at this
  exact this
theorem int_wf {s s' : St} {t : Nat} (hw : Wf s) (h : intM s = .ok t s') : Wf s' := by
  have := int_k (f := fun b s => .ok b s) (P := fun _ s' => Wf s') hw (fun t s' _ h => h.wf)
  rw [h] at this
  exact this
theorem name_ok {s s' : St} {nm : List UInt8} (h : nameM s = .ok nm s') (hw : Wf s) : nm.length ≤ 65536 := by
  have := name_k (f := fun nm s => .ok nm s) (P := fun (nm : List UInt8) _ => nm.length ≤ 65536) hw (fun nm s' h _ => h)
  rw [h] at this
  exact this
theorem int_ok {s s' : St} {t : Nat} (h : intM s = .ok t s') (hw : Wf s) : t < 6 := by
  have := int_k (f := fun nm s => .ok nm s) (P := fun nm _ => nm < 6) hw (fun nm s' h _ => h)
  rw [h] at this
  exact this
theorem count_ok {s s' : St} {z : Int} (h : countM s = .ok z s') (hw : Wf s) : 0 ≤ z ∧ z ≤ 4294967296 := by
  have := count_k (f := fun nm s => .ok nm s) (P := fun z _ => 0 ≤ z ∧ z ≤ 4294967296) hw (fun z s' h h' _ => ⟨h, h'⟩)
  rw [h] at this
  exact this
theorem number_ok {s s' : St} {t : Lx.Tk} (h : numberM s = .ok t s') (hw : Wf s) : t.ty ≤ 5 ∧ -4294967296 ≤ t.n ∧ t.n ≤ 4294967296 := by
  have := number_k (f := fun nm s => .ok nm s) (P := fun t _ => t.ty ≤ 5 ∧ -4294967296 ≤ t.n ∧ t.n ≤ 4294967296) hw (fun q s' h _ => ⟨h.ty, h.n.1, h.n.2⟩)
  rw [h] at this
  exact this

/-- What a rule's function is asked for: for every world in which the reader stands there. -/
abbrev Rule (K : FuncId) (args : Array Value) (R g cap : Nat) (L : List Tok) (s : St) (r : Rs Nd) : Prop :=
  ∀ X, RD X R g cap L s → Calls Tryz.prog K (#[rp R] ++ args) X (PostG (NV X.heap.size) R g cap L X r)

end Go.Proofs.YtoilhcklflmamaaGreatDoor
