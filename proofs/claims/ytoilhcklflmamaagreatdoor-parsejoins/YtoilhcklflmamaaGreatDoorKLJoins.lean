/-
  For every two texts the statement ParseJoins returns true, and its arguments read as they did; the lists of layers 4 and 5 are tied to the program's text; no conditions.
-/
import Derived.Test.YtoilhcklflmamaaGreatDoorKLawP
import Derived.Test.YtoilhcklflmamaaGreatDoorKRfP
import Derived.Test.YtoilhcklflmamaaGreatDoorKPrZc
import Derived.Deep.QuietTactic
namespace Go.Proofs.YtoilhcklflmamaaGreatDoor.parseJoins
open Go.ChangeShapes Go.WideShapes Go.ChangeAt Go.RowKit
open Go.ChangeMaps (open_string shut_string)
open Pr
set_option linter.unusedVariables false

theorem cat_facts (s t : ByteArray) (h : s.size + t.size < 65536) : ∃ s1 st : ByteArray, (∀ w, (Op.stringOp .add s ⟨#[10]⟩).run Tryz.prog w = .ok (.string s1) w) ∧ (∀ w, (Op.stringOp .add s1 t).run Tryz.prog w = .ok (.string st) w) ∧ bl st = bl s ++ 10 :: bl t ∧ st.size = s.size + 1 + t.size := by
  have h1 : (⟨#[10]⟩ : ByteArray).size = 1 := rfl
  have bj : bl (s ++ ⟨#[10]⟩ ++ t) = bl s ++ 10 :: bl t := by simp [bl]
  refine ⟨s ++ ⟨#[10]⟩, s ++ ⟨#[10]⟩ ++ t, fun w => run_string_add_sum w _ _ (by rw [h1]; omega), fun w => run_string_add_sum w _ _ ?_, bj, by rw [← bl_len, bj]; simp; omega⟩
  rw [ByteArray.size_append, h1]
  omega
/-- What Parse answers of a text that is no program; of one that is. -/
def PBad (s : ByteArray) (w : World) : Prop := ∃ p k : Nat, k ≠ 0 ∧ ∀ X, Q w X → Calls Tryz.prog 9 #[.string s] X fun e w' => e = .returned (.tuple #[nodeV (nk 0) (.slice none 0 0), .int .i64 (p : Int), .int .i64 (k : Int)]) ∧ Q X w'
def POk (s : ByteArray) (F : Fo) (w : World) : Prop := ∀ X, Q w X → Calls Tryz.prog 9 #[.string s] X fun e w' => (∃ a c f, e = .returned (.tuple #[nodeV (nk 1) (.slice a (Fo.len f) c), .int .i64 0, .int .i64 0]) ∧ Cp F f ∧ sok a f.len c ∧ In w' a f) ∧ Q X w'
theorem ok_of (s : ByteArray) (w : World) (hL : LaidP w) (hl : s.size ≤ 65536) (hf : (Lx.lex 0 (bl s)).2 = none) {x : Nd} {st : St} (hr : prog (toks (bl s)) = .ok x st) (hd : x.2.depth + 1 ≤ 40) : POk s x.2 w := by
  intro X q
  refine (parse_ok s X (hL.keep q) hl hf (toks_len (bl s) (by rw [bl_len]; exact hl)) x st hr hd).mono ?_
  rintro e w' ⟨⟨a, c, f, h1, h2, h3, h4, _⟩, q'⟩
  rw [prog_first hr] at h1
  exact ⟨⟨a, c, f, h1, h2, h3, h4⟩, q'⟩
theorem pcase (s : ByteArray) (w : World) (hL : LaidP w) : PBad s w ∨ (s.size ≤ 65536 ∧ (Lx.lex 0 (bl s)).2 = none ∧ ∃ x st, prog (toks (bl s)) = .ok x st ∧ x.2.depth + 1 ≤ 40 ∧ x.2.size + 1 ≤ 4000 ∧ POk s x.2 w) := by
  by_cases hl : s.size ≤ 65536
  · have hbl : (bl s).length ≤ 65536 := by rw [bl_len]; exact hl
    cases hf : (Lx.lex 0 (bl s)).2 with
    | some p => exact Or.inl ⟨p, 5, by decide, fun X q => parse_lexbad s X (hL.keep q) hl p hf⟩
    | none =>
      have hn := toks_len (bl s) hbl
      have hpost := prog_post (bl s) hbl
      cases hr : prog (toks (bl s)) with
      | out => rw [hr] at hpost; exact hpost.elim
      | bad k p =>
        rw [hr] at hpost
        exact Or.inl ⟨p, k, by have := hpost.1; omega, fun X q => parse_bad s X (hL.keep q) hl hf hn k p hr⟩
      | ok x st =>
        rw [hr] at hpost
        obtain ⟨hw, hc, _, hok⟩ := hpost
        have h4 := hw.c
        by_cases hd : x.2.depth + 1 ≤ 40
        · exact Or.inr ⟨hl, rfl, x, st, rfl, hd, by omega, ok_of s w hL hl hf hr hd⟩
        · exact Or.inl ⟨0, 4, by decide, fun X q => parse_deep s X (hL.keep q) hl hf hn x st hr (by omega)⟩
  · exact Or.inl ⟨0, 2, by decide, fun X q => parse_long s X (hL.keep q) (by omega)⟩

set_option maxRecDepth 100000 in
set_option maxHeartbeats 4000000 in
theorem walk_bb (s t : ByteArray) (w : World) (hL : LaidP w) (h1 : PBad s w) (h2 : PBad t w) :
    Calls Tryz.prog 6 #[.string s, .string t] w fun e w' => e = .returned (.bool true) ∧ Below w.heap.size w w' := by
  have HA := hideIt (awake_any w hL)
  obtain ⟨p2, k2, hk2, P2⟩ := h1
  have C2 := hideIt P2
  have b2 : ((k2 : Int) != 0) = true := by simp; omega
  clear P2
  obtain ⟨p3, k3, hk3, P3⟩ := h2
  have C3 := hideIt P3
  have b3 : ((k3 : Int) != 0) = true := by simp; omega
  clear P3
  clear hL
  go_enter Tryz.func6, Tryz.ntmps6
  go_wp2_with (first | (go_at_call 8; refine Calls.mono HA.out ?_; rintro e x1 ⟨rfl, q1⟩; have Q1 := hideIt q1; clear q1 HA) | fail)
  go_wp2_with (fail)
  (go_at_call_of 9 (Value.string s); refine Calls.mono (C2.out _ Q1.out) ?_; rintro e x2 ⟨rfl, q2⟩; have Q2 := hideIt ((Q1.out).trans q2); clear q2 C2)
  go_wp2_with (fail)
  (go_at_call_of 9 (Value.string t); refine Calls.mono (C3.out _ (Q2.out.alloc _)) ?_; rintro e x3 ⟨rfl, q3⟩; have Q3 := hideIt (((Q2.out.alloc _)).trans q3); clear q3 C3)
  go_wp2_with (fail)
  go_quiet (fail)
  go_wp2_with (fail)
  go_ret
  exact ⟨rfl, below_drewN (Q3.out.alloc _) _⟩

set_option maxRecDepth 100000 in
set_option maxHeartbeats 4000000 in
theorem walk_bo (s t : ByteArray) (w : World) (hL : LaidP w) (h1 : PBad s w) (F3 : Fo) (h2 : POk t F3 w) :
    Calls Tryz.prog 6 #[.string s, .string t] w fun e w' => e = .returned (.bool true) ∧ Below w.heap.size w w' := by
  have HA := hideIt (awake_any w hL)
  obtain ⟨p2, k2, hk2, P2⟩ := h1
  have C2 := hideIt P2
  have b2 : ((k2 : Int) != 0) = true := by simp; omega
  clear P2
  have C3 := hideIt h2
  clear h2
  clear hL
  go_enter Tryz.func6, Tryz.ntmps6
  go_wp2_with (first | (go_at_call 8; refine Calls.mono HA.out ?_; rintro e x1 ⟨rfl, q1⟩; have Q1 := hideIt q1; clear q1 HA) | fail)
  go_wp2_with (fail)
  (go_at_call_of 9 (Value.string s); refine Calls.mono (C2.out _ Q1.out) ?_; rintro e x2 ⟨rfl, q2⟩; have Q2 := hideIt ((Q1.out).trans q2); clear q2 C2)
  go_wp2_with (fail)
  (go_at_call_of 9 (Value.string t); refine Calls.mono (C3.out _ (Q2.out.alloc _)) ?_; rintro e x3 ⟨⟨a3, c3, f3, rfl, cp3, sk3, in3⟩, q3⟩; have Q3 := hideIt (((Q2.out.alloc _)).trans q3); have K3 := hideIt (And.intro cp3 sk3); have I3 := hideIt in3; have QX3 := hideIt q3; clear cp3 sk3 in3 q3 C3)
  go_wp2_with (fail)
  go_quiet (fail)
  go_wp2_with (fail)
  go_ret
  exact ⟨rfl, below_drewN (Q3.out.alloc _) _⟩

set_option maxRecDepth 100000 in
set_option maxHeartbeats 4000000 in
theorem walk_ob (s t : ByteArray) (w : World) (hL : LaidP w) (F2 : Fo) (h1 : POk s F2 w) (h2 : PBad t w) :
    Calls Tryz.prog 6 #[.string s, .string t] w fun e w' => e = .returned (.bool true) ∧ Below w.heap.size w w' := by
  have HA := hideIt (awake_any w hL)
  have C2 := hideIt h1
  clear h1
  obtain ⟨p3, k3, hk3, P3⟩ := h2
  have C3 := hideIt P3
  have b3 : ((k3 : Int) != 0) = true := by simp; omega
  clear P3
  clear hL
  go_enter Tryz.func6, Tryz.ntmps6
  go_wp2_with (first | (go_at_call 8; refine Calls.mono HA.out ?_; rintro e x1 ⟨rfl, q1⟩; have Q1 := hideIt q1; clear q1 HA) | fail)
  go_wp2_with (fail)
  (go_at_call_of 9 (Value.string s); refine Calls.mono (C2.out _ Q1.out) ?_; rintro e x2 ⟨⟨a2, c2, f2, rfl, cp2, sk2, in2⟩, q2⟩; have Q2 := hideIt ((Q1.out).trans q2); have K2 := hideIt (And.intro cp2 sk2); have I2 := hideIt in2; have QX2 := hideIt q2; clear cp2 sk2 in2 q2 C2)
  go_wp2_with (fail)
  (go_at_call_of 9 (Value.string t); refine Calls.mono (C3.out _ (Q2.out.alloc _)) ?_; rintro e x3 ⟨rfl, q3⟩; have Q3 := hideIt (((Q2.out.alloc _)).trans q3); clear q3 C3)
  go_wp2_with (fail)
  go_quiet (fail)
  go_wp2_with (fail)
  go_ret
  exact ⟨rfl, below_drewN (Q3.out.alloc _) _⟩

set_option maxRecDepth 100000 in
set_option maxHeartbeats 4000000 in
theorem walk_long (s t : ByteArray) (w : World) (hL : LaidP w) (F2 : Fo) (h1 : POk s F2 w) (F3 : Fo) (h2 : POk t F3 w) (hs : s.size ≤ 65536) (ht : t.size ≤ 65536) (hz : 65536 ≤ s.size + t.size) :
    Calls Tryz.prog 6 #[.string s, .string t] w fun e w' => e = .returned (.bool true) ∧ Below w.heap.size w w' := by
  have HA := hideIt (awake_any w hL)
  have C2 := hideIt h1
  clear h1
  have C3 := hideIt h2
  clear h2
  have hw1 : IntKind.i64.wrap ((s.size : Int) + (t.size : Int)) = (s.size : Int) + (t.size : Int) := by rw [IntKind.wrap_i64]; omega
  have hd1 : decide ((65536 : Int) ≤ (s.size : Int) + (t.size : Int)) = true := by simp; omega
  clear hL hz
  go_enter Tryz.func6, Tryz.ntmps6
  go_wp2_with (first | (go_at_call 8; refine Calls.mono HA.out ?_; rintro e x1 ⟨rfl, q1⟩; have Q1 := hideIt q1; clear q1 HA) | fail)
  go_wp2_with (fail)
  (go_at_call_of 9 (Value.string s); refine Calls.mono (C2.out _ Q1.out) ?_; rintro e x2 ⟨⟨a2, c2, f2, rfl, cp2, sk2, in2⟩, q2⟩; have Q2 := hideIt ((Q1.out).trans q2); have K2 := hideIt (And.intro cp2 sk2); have I2 := hideIt in2; have QX2 := hideIt q2; clear cp2 sk2 in2 q2 C2)
  go_wp2_with (fail)
  (go_at_call_of 9 (Value.string t); refine Calls.mono (C3.out _ (Q2.out.alloc _)) ?_; rintro e x3 ⟨⟨a3, c3, f3, rfl, cp3, sk3, in3⟩, q3⟩; have Q3 := hideIt (((Q2.out.alloc _)).trans q3); have K3 := hideIt (And.intro cp3 sk3); have I3 := hideIt in3; have QX3 := hideIt q3; clear cp3 sk3 in3 q3 C3)
  go_wp2_with (fail)
  go_quiet (fail)
  go_wp2_with (fail)
  go_ret
  exact ⟨rfl, below_drewN (Q3.out.alloc _) _⟩

theorem len_le_size (f : Fo) : f.len ≤ f.size := by
  induction f with
  | nil => exact Nat.le_refl _
  | cons v a c k r _ ih => simp only [Fo.len, Fo.size]; omega

set_option maxRecDepth 100000 in
set_option maxHeartbeats 4000000 in
theorem walk_fine (s t : ByteArray) (w : World) (hL : LaidP w) (F2 : Fo) (h1 : POk s F2 w) (F3 : Fo) (h2 : POk t F3 w) (hz : s.size + t.size < 65536) (hz2 : F2.size + 1 ≤ 4000) (hz3 : F3.size + 1 ≤ 4000) (st s1 : ByteArray) (P1 : ∀ w, (Op.stringOp .add s ⟨#[10]⟩).run Tryz.prog w = .ok (.string s1) w) (P2 : ∀ w, (Op.stringOp .add s1 t).run Tryz.prog w = .ok (.string st) w) (h6 : F2.size + 1 + (F3.size + 1) ≤ 4000 → POk st (F2.app F3) w) :
    Calls Tryz.prog 6 #[.string s, .string t] w fun e w' => e = .returned (.bool true) ∧ Below w.heap.size w w' := by
  have H6 := hideIt h6
  clear h6
  have HA := hideIt (awake_any w hL)
  have C2 := hideIt h1
  have C3 := hideIt h2
  have HZ := hideIt (And.intro hz2 hz3)
  have hw1 : IntKind.i64.wrap ((s.size : Int) + (t.size : Int)) = (s.size : Int) + (t.size : Int) := by rw [IntKind.wrap_i64]; omega
  have hd1 : decide ((65536 : Int) ≤ (s.size : Int) + (t.size : Int)) = false := by simp; omega
  clear h1 h2 hL
  go_enter Tryz.func6, Tryz.ntmps6
  go_wp2_with (first | (go_at_call 8; refine Calls.mono HA.out ?_; rintro e x1 ⟨rfl, q1⟩; have Q1 := hideIt q1; clear q1 HA) | fail)
  go_wp2_with (fail)
  (go_at_call_of 9 (Value.string s); refine Calls.mono (C2.out _ Q1.out) ?_; rintro e x2 ⟨⟨a2, c2, f2, rfl, cp2, sk2, in2⟩, q2⟩; have Q2 := hideIt ((Q1.out).trans q2); have K2 := hideIt (And.intro cp2 sk2); have I2 := hideIt in2; have QX2 := hideIt q2; clear cp2 sk2 in2 q2 C2)
  go_wp2_with (fail)
  (go_at_call_of 9 (Value.string t); refine Calls.mono (C3.out _ (Q2.out.alloc _)) ?_; rintro e x3 ⟨⟨a3, c3, f3, rfl, cp3, sk3, in3⟩, q3⟩; have Q3 := hideIt (((Q2.out.alloc _)).trans q3); have K3 := hideIt (And.intro cp3 sk3); have I3 := hideIt in3; have QX3 := hideIt q3; clear cp3 sk3 in3 q3 C3)
  go_wp2_with (fail)
  have e2 : f2.size = F2.size := K2.out.1.size
  have e3 : f3.size = F3.size := K3.out.1.size
  have CS2 := hideIt (fun X (h : In X a2 f2) => rsize_any (f2.size + 1) f2 (by omega) (nk 1) a2 c2 X h K2.out.2)
  have CS3 := hideIt (fun X (h : In X a3 f3) => rsize_any (f3.size + 1) f3 (by omega) (nk 1) a3 c3 X h K3.out.2)
  rw [show min (f2.size + 1) 4001 = F2.size + 1 by rw [e2]; have := HZ.out; omega] at CS2
  rw [show min (f3.size + 1) 4001 = F3.size + 1 by rw [e3]; have := HZ.out; omega] at CS3
  clear e2 e3
  have B23 := hideIt (show Bx (x3.alloc (.cells (cellsN (nk 1) (.slice a3 f3.len c3)).toArray 27)).drew x2.heap.size (nk 1) (.slice a2 f2.len c2) from Bx.drew (Bx.alloc ((QX3.out.block _ (by simp)).trans (Bx.new x2 (nk 1) (.slice a2 f2.len c2))) _))
  have B33 := hideIt (show Bx (x3.alloc (.cells (cellsN (nk 1) (.slice a3 f3.len c3)).toArray 27)).drew x3.heap.size (nk 1) (.slice a3 f3.len c3) from Bx.drew (Bx.new x3 (nk 1) (.slice a3 f3.len c3)))
  have QD := hideIt (show Q x3 (x3.alloc (.cells (cellsN (nk 1) (.slice a3 f3.len c3)).toArray 27)).drew from ((Q.refl x3).alloc _).drew)
  have QX := hideIt (Q3.out.trans QD.out)
  have IX2 := hideIt (((I2.out.keep (Nat.le_refl _) ((Q.refl x2).alloc _)).keep (Nat.le_refl _) QX3.out).keep (Nat.le_refl _) QD.out)
  have IX3 := hideIt (I3.out.keep (Nat.le_refl _) QD.out)
  clear I2 I3 Q1 Q2 Q3 QX2 QX3 QD
  obtain ⟨M2, hM2⟩ : ∃ M2, F2.size + 1 = M2 := ⟨_, rfl⟩
  obtain ⟨M3, hM3⟩ : ∃ M3, F3.size + 1 = M3 := ⟨_, rfl⟩
  rw [hM2] at CS2
  rw [hM3] at CS3
  have hb2 : M2 ≤ 4000 := by have := HZ.out; omega
  have hb3 : M3 ≤ 4000 := by have := HZ.out; omega
  have hw2 : IntKind.i64.wrap ((M2 : Int) + (M3 : Int)) = (M2 : Int) + (M3 : Int) := by rw [IntKind.wrap_i64]; omega
  rw [hM2, hM3] at H6
  clear hM2 hM3
  refine wp_region_held_drew (S := fun w' => Bx w' x2.heap.size (nk 1) (.slice a2 f2.len c2) ∧ Bx w' x3.heap.size (nk 1) (.slice a3 f3.len c3)) (by kernel_rfl) (⟨B23.out, B33.out⟩) (fun hHeld => ?_)
  refine wpAnyH_take (i := 0) (oi := ⟨_, _, _, _, _, _⟩) (v := ?_) rfl (by kernel_rfl) (by kernel_rfl) (by kernel_rfl) (fun _ _ _ h => h) (Or.inl ⟨by rfl, ?_⟩) (by assumption) ?_
  rotate_left 1
  · intro w' hSw; go_simp; all_goals with_reducible rfl
  try simp only [Act.put, List.setIfInBounds_toArray, List.set_cons_zero, List.set_cons_succ]
  refine wpAnyH_take (i := 1) (oi := ⟨_, _, _, _, _, _⟩) (v := ?_) rfl (by kernel_rfl) (by kernel_rfl) (by kernel_rfl) (fun _ _ _ h => h) (Or.inl ⟨by rfl, ?_⟩) (by assumption) ?_
  rotate_left 1
  · intro w' hSw; go_simp; all_goals with_reducible rfl
  try simp only [Act.put, List.setIfInBounds_toArray, List.set_cons_zero, List.set_cons_succ]
  refine wpAnyH_take (i := 2) (oi := ⟨_, _, _, _, _, _⟩) (v := ?_) rfl (by kernel_rfl) (by kernel_rfl) (by kernel_rfl) (fun _ _ _ h => h) (Or.inl ⟨by rfl, ?_⟩) (by assumption) ?_
  rotate_left 1
  · intro w' hSw; go_simp; all_goals with_reducible rfl
  try simp only [Act.put, List.setIfInBounds_toArray, List.set_cons_zero, List.set_cons_succ]
  refine wpAnyH_take (i := 3) (oi := ⟨_, _, _, _, _, _⟩) (v := ?_) rfl (by kernel_rfl) (by kernel_rfl) (by kernel_rfl) (fun _ _ _ h => h) (Or.inl ⟨by rfl, ?_⟩) (by assumption) ?_
  rotate_left 1
  · intro w' hSw; go_simp; all_goals with_reducible rfl
  try simp only [Act.put, List.setIfInBounds_toArray, List.set_cons_zero, List.set_cons_succ]
  refine wpAnyH_take (i := 4) (oi := ⟨_, _, _, _, _, _⟩) (v := ?_) rfl (by kernel_rfl) (by kernel_rfl) (by kernel_rfl) (fun _ _ _ h => h) (Or.inl ⟨by rfl, ?_⟩) (by assumption) ?_
  rotate_left 1
  · intro w' hSw; go_simp; all_goals with_reducible rfl
  try simp only [Act.put, List.setIfInBounds_toArray, List.set_cons_zero, List.set_cons_succ]
  refine wpAnyH_take (i := 5) (oi := ⟨_, _, _, _, _, _⟩) (v := ?_) rfl (by kernel_rfl) (by kernel_rfl) (by kernel_rfl) (fun _ _ _ h => h) (Or.inl ⟨by rfl, ?_⟩) (by assumption) ?_
  rotate_left 1
  · intro w' hSw; go_simp; all_goals with_reducible rfl
  try simp only [Act.put, List.setIfInBounds_toArray, List.set_cons_zero, List.set_cons_succ]
  refine wpAnyH_take (i := 6) (oi := ⟨_, _, _, _, _, _⟩) (v := ?_) rfl (by kernel_rfl) (by kernel_rfl) (by kernel_rfl) (fun _ _ _ h => h) (Or.inl ⟨by rfl, ?_⟩) (by assumption) ?_
  rotate_left 1
  · intro w' hSw; go_simp; all_goals with_reducible rfl
  try simp only [Act.put, List.setIfInBounds_toArray, List.set_cons_zero, List.set_cons_succ]
  refine wpAnyH_take (i := 7) (oi := ⟨_, _, _, _, _, _⟩) (v := ?_) rfl (by kernel_rfl) (by kernel_rfl) (by kernel_rfl) (fun _ _ _ h => h) (Or.inl ⟨by rfl, ?_⟩) (by assumption) ?_
  rotate_left 1
  · intro w' hSw; go_simp; all_goals with_reducible rfl
  try simp only [Act.put, List.setIfInBounds_toArray, List.set_cons_zero, List.set_cons_succ]
  refine wpAnyH_take (i := 8) (oi := ⟨_, _, _, _, _, _⟩) (v := ?_) rfl (by kernel_rfl) (by kernel_rfl) (by kernel_rfl) (fun _ _ _ h => h) (Or.inl ⟨by rfl, ?_⟩) (by assumption) ?_
  rotate_left 1
  · intro w' hSw; go_simp; all_goals with_reducible rfl
  try simp only [Act.put, List.setIfInBounds_toArray, List.set_cons_zero, List.set_cons_succ]
  refine wpAnyH_take (i := 9) (oi := ⟨_, _, _, _, _, _⟩) (v := ?_) rfl (by kernel_rfl) (by kernel_rfl) (by kernel_rfl) (fun _ _ _ h => h) (Or.inl ⟨by rfl, ?_⟩) (by assumption) ?_
  rotate_left 1
  · intro w' hSw; go_simp; all_goals with_reducible rfl
  try simp only [Act.put, List.setIfInBounds_toArray, List.set_cons_zero, List.set_cons_succ]
  refine wpAnyH_take (i := 10) (oi := ⟨_, _, _, _, _, _⟩) (v := ?_) rfl (by kernel_rfl) (by kernel_rfl) (by kernel_rfl) (fun _ _ _ h => h) (Or.inl ⟨by rfl, ?_⟩) (by assumption) ?_
  rotate_left 1
  · intro w' hSw; go_simp; all_goals with_reducible rfl
  try simp only [Act.put, List.setIfInBounds_toArray, List.set_cons_zero, List.set_cons_succ]
  refine wpAnyH_take (i := 11) (oi := ⟨_, _, _, _, _, _⟩) (v := ?_) rfl (by kernel_rfl) (by kernel_rfl) (by kernel_rfl) (fun _ _ _ h => h) (Or.inl ⟨by rfl, ?_⟩) (by assumption) ?_
  rotate_left 1
  · intro w' hSw; go_simp; all_goals with_reducible rfl
  try simp only [Act.put, List.setIfInBounds_toArray, List.set_cons_zero, List.set_cons_succ]
  refine wpAnyH_take (i := 12) (oi := ⟨_, _, _, _, _, _⟩) (v := ?_) rfl (by kernel_rfl) (by kernel_rfl) (by kernel_rfl) (fun _ _ _ h => h) (Or.inl ⟨by rfl, ?_⟩) (by assumption) ?_
  rotate_left 1
  · intro w' hSw; go_simp; all_goals with_reducible rfl
  try simp only [Act.put, List.setIfInBounds_toArray, List.set_cons_zero, List.set_cons_succ]
  refine wpAnyH_take (i := 13) (oi := ⟨_, _, _, _, _, _⟩) (v := ?_) rfl (by kernel_rfl) (by kernel_rfl) (by kernel_rfl) (fun _ _ _ h => h) (Or.inl ⟨by rfl, ?_⟩) (by assumption) ?_
  rotate_left 1
  · intro w' hSw; go_simp; all_goals with_reducible rfl
  try simp only [Act.put, List.setIfInBounds_toArray, List.set_cons_zero, List.set_cons_succ]
  refine wpAnyH_take (i := 14) (oi := ⟨_, _, _, _, _, _⟩) (v := ?_) rfl (by kernel_rfl) (by kernel_rfl) (by kernel_rfl) (fun _ _ _ h => h) (Or.inl ⟨by rfl, ?_⟩) (by assumption) ?_
  rotate_left 1
  · intro w' hSw; go_simp; all_goals with_reducible rfl
  try simp only [Act.put, List.setIfInBounds_toArray, List.set_cons_zero, List.set_cons_succ]
  refine wpAnyH_take (i := 15) (oi := ⟨_, _, _, _, _, _⟩) (v := ?_) rfl (by kernel_rfl) (by kernel_rfl) (by kernel_rfl) (fun _ _ _ h => h) (Or.inl ⟨by rfl, ?_⟩) (by assumption) ?_
  rotate_left 1
  · intro w' hSw; obtain ⟨p0, p1', p2', p3, p4, p5, p6, p7, p8, p9⟩ := Bx.ten hSw.1; obtain ⟨r0, r1, r2, r3, r4, r5, r6, r7, r8, r9⟩ := Bx.ten hSw.2; go_simp; all_goals with_reducible rfl
  try simp only [Act.put, List.setIfInBounds_toArray, List.set_cons_zero, List.set_cons_succ]
  refine wpAnyH_take (i := 17) (oi := ⟨_, _, _, _, _, _⟩) (v := ?_) rfl (by kernel_rfl) (by kernel_rfl) (by kernel_rfl) (fun _ _ _ h => h) (Or.inl ⟨by rfl, ?_⟩) (by assumption) ?_
  rotate_left 1
  · intro w' hSw; obtain ⟨p0, p1', p2', p3, p4, p5, p6, p7, p8, p9⟩ := Bx.ten hSw.1; obtain ⟨r0, r1, r2, r3, r4, r5, r6, r7, r8, r9⟩ := Bx.ten hSw.2; go_simp; all_goals with_reducible rfl
  try simp only [Act.put, List.setIfInBounds_toArray, List.set_cons_zero, List.set_cons_succ]
  refine wpAnyH_ready (rs := [16]) (by kernel_rfl) (by simp) (AllReadyH.cons (o := ⟨_, _, _, _, _, _⟩) rfl (fun K hK => ?_) AllReadyH.nil)
  go_simp
  (go_at_call 16; refine Calls.mono (CS2.out _ IX2.out) ?_; rintro e x4 ⟨rfl, q4⟩; have B24 := hideIt (show Bx x4 x2.heap.size (nk 1) (.slice a2 f2.len c2) from (q4.block _ B23.out.lt).trans B23.out); have B34 := hideIt (show Bx x4 x3.heap.size (nk 1) (.slice a3 f3.len c3) from (q4.block _ B33.out.lt).trans B33.out); have I24 := hideIt (IX2.out.keep (Nat.le_refl _) q4); have I34 := hideIt (IX3.out.keep (Nat.le_refl _) q4); have Q4 := hideIt (QX.out.trans q4); clear q4 CS2 B23 B33 IX2 IX3 QX)
  refine hK.out _ _ ?_ (fun hHeld => ?_)
  · exact ⟨B24.out, B34.out⟩
  clear hK K
  try simp only [Act.put, List.setIfInBounds_toArray, List.set_cons_zero, List.set_cons_succ]
  refine wpAnyH_ready (rs := [18]) (by kernel_rfl) (by simp) (AllReadyH.cons (o := ⟨_, _, _, _, _, _⟩) rfl (fun K hK => ?_) AllReadyH.nil)
  go_simp
  (go_at_call 16; refine Calls.mono (CS3.out _ I34.out) ?_; rintro e x5 ⟨rfl, q5⟩; have B25 := hideIt (show Bx x5 x2.heap.size (nk 1) (.slice a2 f2.len c2) from (q5.block _ B24.out.lt).trans B24.out); have B35 := hideIt (show Bx x5 x3.heap.size (nk 1) (.slice a3 f3.len c3) from (q5.block _ B34.out.lt).trans B34.out); have I25 := hideIt (I24.out.keep (Nat.le_refl _) q5); have I35 := hideIt (I34.out.keep (Nat.le_refl _) q5); have Q5 := hideIt (Q4.out.trans q5); clear q5 CS3 B24 B34 I24 I34 Q4)
  refine hK.out _ _ ?_ (fun hHeld => ?_)
  · exact ⟨B25.out, B35.out⟩
  clear hK K
  try simp only [Act.put, List.setIfInBounds_toArray, List.set_cons_zero, List.set_cons_succ]
  refine wpAnyH_take (i := 19) (oi := ⟨_, _, _, _, _, _⟩) (v := ?_) rfl (by kernel_rfl) (by kernel_rfl) (by kernel_rfl) (fun _ _ _ h => h) (Or.inl ⟨by rfl, ?_⟩) (by assumption) ?_
  rotate_left 1
  · intro w' hSw; go_simp; all_goals with_reducible rfl
  try simp only [Act.put, List.setIfInBounds_toArray, List.set_cons_zero, List.set_cons_succ]
  refine wpAnyH_take (i := 20) (oi := ⟨_, _, _, _, _, _⟩) (v := ?_) rfl (by kernel_rfl) (by kernel_rfl) (by kernel_rfl) (fun _ _ _ h => h) (Or.inl ⟨by rfl, ?_⟩) (by assumption) ?_
  rotate_left 1
  · intro w' hSw; go_simp; all_goals with_reducible rfl
  try simp only [Act.put, List.setIfInBounds_toArray, List.set_cons_zero, List.set_cons_succ]
  refine wpAnyH_take (i := 21) (oi := ⟨_, _, _, _, _, _⟩) (v := ?_) rfl (by kernel_rfl) (by kernel_rfl) (by kernel_rfl) (fun _ _ _ h => h) (Or.inl ⟨by rfl, ?_⟩) (by assumption) ?_
  rotate_left 1
  · intro w' hSw; go_simp; all_goals with_reducible rfl
  try simp only [Act.put, List.setIfInBounds_toArray, List.set_cons_zero, List.set_cons_succ]
  refine wpAnyH_done (by kernel_rfl) ?_ _
  by_cases hm : M2 + M3 ≤ 4000
  case neg =>
    have hd2 : decide ((4000 : Int) < (M2 : Int) + (M3 : Int)) = true := by simp; omega
    have hd2' : decide (4000 < M2 + M3) = true := by simp; omega
    go_wp2_with (fail)
    go_ret
    exact ⟨rfl, Q5.out⟩
  have hd2 : decide ((4000 : Int) < (M2 : Int) + (M3 : Int)) = false := by simp; omega
  have hd2' : decide (4000 < M2 + M3) = false := by simp; omega
  have C6 := hideIt (H6.out hm)
  clear H6
  go_wp2_with (fail)
  (go_at_call_of 9 (Value.string st); refine Calls.mono (C6.out _ Q5.out) ?_; rintro e x6 ⟨⟨a6, c6, f6, rfl, cp6, sk6, in6⟩, q6⟩; have Q6 := hideIt (Q5.out.trans q6); have K6 := hideIt (And.intro cp6 sk6); have I6 := hideIt in6; have B26 := hideIt (show Bx x6 x2.heap.size (nk 1) (.slice a2 f2.len c2) from (q6.block _ B25.out.lt).trans B25.out); have B36 := hideIt (show Bx x6 x3.heap.size (nk 1) (.slice a3 f3.len c3) from (q6.block _ B35.out.lt).trans B35.out); have I26 := hideIt (I25.out.keep (Nat.le_refl _) q6); have I36 := hideIt (I35.out.keep (Nat.le_refl _) q6); have n2 := B26.out.ten.2.2.2.2.2.2.2.2.2; have n3 := B36.out.ten.2.2.2.2.2.2.2.2.2; have y26 := B26.out.lt; have y36 := B36.out.lt; clear cp6 sk6 in6 q6 C6 B25 B35 I25 I35 Q5)
  have HL6 := hideIt (show f6.len = f2.len + f3.len by rw [K6.out.1.len, K2.out.1.len, K3.out.1.len, app_len])
  have hs2 : f2.len ≤ 4000 := by have := len_le_size f2; have := K2.out.1.size; omega
  have hs3 : f3.len ≤ 4000 := by have := len_le_size f3; have := K3.out.1.size; omega
  have hw3 : IntKind.i64.wrap ((f2.len : Int) + (f3.len : Int)) = (f2.len : Int) + (f3.len : Int) := by rw [IntKind.wrap_i64]; omega
  have hd3 : ((f6.len : Int) != (f2.len : Int) + (f3.len : Int)) = false := by have := HL6.out; simp; omega
  have hs6 : f6.len ≤ 8000 := by have := HL6.out; omega
  clear hb2 hb3 hw2 hd2 hd2' hm hw1 hd1
  go_wp2_with (fail)
  clear hd3 hw3
  have QZ := hideIt (Q.refl (x6.alloc (.cells (cellsN (nk 1) (.slice a6 f6.len c6)).toArray 27)))
  have B66 := hideIt (Bx.new x6 (nk 1) (.slice a6 f6.len c6))
  have I66 := hideIt (I6.out.keep (Nat.le_refl _) ((Q.refl x6).alloc (.cells (cellsN (nk 1) (.slice a6 f6.len c6)).toArray 27)))
  have B27 := hideIt (B26.out.alloc (.cells (cellsN (nk 1) (.slice a6 f6.len c6)).toArray 27))
  have B37 := hideIt (B36.out.alloc (.cells (cellsN (nk 1) (.slice a6 f6.len c6)).toArray 27))
  have I27 := hideIt (I26.out.keep (Nat.le_refl _) ((Q.refl x6).alloc (.cells (cellsN (nk 1) (.slice a6 f6.len c6)).toArray 27)))
  have I37 := hideIt (I36.out.keep (Nat.le_refl _) ((Q.refl x6).alloc (.cells (cellsN (nk 1) (.slice a6 f6.len c6)).toArray 27)))
  have Q7 := hideIt (Q6.out.alloc (.cells (cellsN (nk 1) (.slice a6 f6.len c6)).toArray 27))
  clear n2 n3 y26 y36 B26 B36 I26 I36 I6 Q6
  go_loopw [14] (fun i wr => ∃ k : Nat, i = .int .i64 k ∧ k ≤ f6.len ∧ Hid (Q (x6.alloc (.cells (cellsN (nk 1) (.slice a6 f6.len c6)).toArray 27)) wr)) (fun i _ => f6.len - (intOf i).toNat)
  case atStart => exact ⟨0, rfl, Nat.zero_le _, QZ.out⟩
  case round =>
    obtain ⟨k, rfl, hk, hq⟩ := hrel
    clear QZ
    have B6 := hideIt (show Bx wr x6.heap.size (nk 1) (.slice a6 f6.len c6) from (hq.out.block _ B66.out.lt).trans B66.out)
    have B2 := hideIt (show Bx wr x2.heap.size (nk 1) (.slice a2 f2.len c2) from (hq.out.block _ B27.out.lt).trans B27.out)
    have B3 := hideIt (show Bx wr x3.heap.size (nk 1) (.slice a3 f3.len c3) from (hq.out.block _ B37.out.lt).trans B37.out)
    have m6 := B6.out.ten.2.2.2.2.2.2.2.2.2
    have m2 := B2.out.ten.2.2.2.2.2.2.2.2.2
    have m3 := B3.out.ten.2.2.2.2.2.2.2.2.2
    have y6 := B6.out.lt
    have y2 := B2.out.lt
    have y3 := B3.out.lt
    by_cases hlt : k < f6.len
    · have hki : (k : Int) < (f6.len : Int) := by omega
      obtain ⟨b6, o6, v6, ka6, kc6, ks6, e6, d6, at6, ok6, sk6, in6⟩ := (I66.out.keep (Nat.le_refl _) hq.out).elem k hlt
      subst e6
      by_cases h2 : k < f2.len
      · have hk2 : decide ((k : Int) < (f2.len : Int)) = true := by simp; omega
        have hki2 : (k : Int) < (f2.len : Int) := by omega
        obtain ⟨bb, ob, v', kb, kcb, kbs, eb, db, atb, okb, skb, inb⟩ := (I27.out.keep (Nat.le_refl _) hq.out).elem k h2
        obtain ⟨hv, hsame⟩ : v6 = v' ∧ ks6.same kbs = true := by
          obtain ⟨K', n1, cA⟩ := nth_cp K6.out.1 (nth_drop d6)
          obtain ⟨K'', n2, cB⟩ := nth_cp K2.out.1 (nth_drop db)
          rw [nth_app, if_pos (by rw [← K2.out.1.len]; exact h2), n2] at n1
          cases n1
          exact ⟨rfl, cp_same cA cB⟩
        have CM := hideIt (fun X (h : In X ka6 ks6) (h' : In X kb kbs) => rsame_any (ks6.size + 1) ks6 (by omega) kbs v6 v' ka6 kb kc6 kcb X h sk6 h' skb)
        rw [hsame, Bool.and_true, show eqN v6 v' = true by rw [← hv]; simp [eqN]] at CM
        clear hsame hv d6 db
        have zz := fun (ob' : Obj) => (atb.keep (Nat.le_refl _) ((Q.refl wr).alloc ob')).ten
        have z0 := fun ob' => (zz ob').1
        have z1 := fun ob' => (zz ob').2.1
        have z2 := fun ob' => (zz ob').2.2.1
        have z3 := fun ob' => (zz ob').2.2.2.1
        have z4 := fun ob' => (zz ob').2.2.2.2.1
        have z5 := fun ob' => (zz ob').2.2.2.2.2.1
        have z6 := fun ob' => (zz ob').2.2.2.2.2.2.1
        have z7 := fun ob' => (zz ob').2.2.2.2.2.2.2.1
        have z8 := fun ob' => (zz ob').2.2.2.2.2.2.2.2.1
        have z9 := fun ob' => (zz ob').2.2.2.2.2.2.2.2.2
        clear zz
        clear atb
        subst eb
        go_wp2_with (fail)
        clear z0 z1 z2 z3 z4 z5 z6 z7 z8 z9
        have Y0 := hideIt (show Q wr (wr.alloc (.cells (cellsN v' (.slice kb kbs.len kcb)).toArray 27)).drew from ((Q.refl wr).alloc _).drew)
        have BC8 := hideIt (show Bx (wr.alloc (.cells (cellsN v' (.slice kb kbs.len kcb)).toArray 27)).drew x6.heap.size (nk 1) (.slice (some ⟨b6, o6, none⟩) f6.len c6) from Bx.drew (B6.out.alloc _))
        have BW8 := hideIt (show Bx (wr.alloc (.cells (cellsN v' (.slice kb kbs.len kcb)).toArray 27)).drew wr.heap.size v' (.slice kb kbs.len kcb) from Bx.drew (Bx.new wr v' (.slice kb kbs.len kcb)))
        have AT8 := hideIt (at6.keep (Nat.le_refl _) Y0.out)
        have IK6 := hideIt (in6.keep (Nat.le_refl _) Y0.out)
        have IKB := hideIt (inb.keep (Nat.le_refl _) Y0.out)
        clear at6 in6 inb
        refine wp_region_held_drew (S := fun w' => Bx w' x6.heap.size (nk 1) (.slice (some ⟨b6, o6, none⟩) f6.len c6) ∧ Bx w' wr.heap.size v' (.slice kb kbs.len kcb) ∧ At w' b6 (o6 + k * 10) (cellsN v6 (.slice ka6 ks6.len kc6))) (by kernel_rfl) (⟨BC8.out, BW8.out, AT8.out⟩) (fun hHeld => ?_)
        refine wpAnyH_take (i := 0) (oi := ⟨_, _, _, _, _, _⟩) (v := ?_) rfl (by kernel_rfl) (by kernel_rfl) (by kernel_rfl) (fun _ _ _ h => h) (Or.inl ⟨by rfl, ?_⟩) (by assumption) ?_
        rotate_left 1
        · intro w' hSw; go_simp; all_goals with_reducible rfl
        try simp only [Act.put, List.setIfInBounds_toArray, List.set_cons_zero, List.set_cons_succ]
        refine wpAnyH_take (i := 1) (oi := ⟨_, _, _, _, _, _⟩) (v := ?_) rfl (by kernel_rfl) (by kernel_rfl) (by kernel_rfl) (fun _ _ _ h => h) (Or.inl ⟨by rfl, ?_⟩) (by assumption) ?_
        rotate_left 1
        · intro w' hSw; have hS9 := hSw.1.ten.2.2.2.2.2.2.2.2.2; obtain ⟨r0, r1, r2, r3, r4, r5, r6, r7, r8, r9⟩ := Bx.ten hSw.2.1; obtain ⟨g0, g1, g2, g3, g4, g5, g6, g7, g8, g9⟩ := At.ten hSw.2.2; go_simp; all_goals with_reducible rfl
        try simp only [Act.put, List.setIfInBounds_toArray, List.set_cons_zero, List.set_cons_succ]
        refine wpAnyH_take (i := 2) (oi := ⟨_, _, _, _, _, _⟩) (v := ?_) rfl (by kernel_rfl) (by kernel_rfl) (by kernel_rfl) (fun _ _ _ h => h) (Or.inl ⟨by rfl, ?_⟩) (by assumption) ?_
        rotate_left 1
        · intro w' hSw; go_simp; all_goals with_reducible rfl
        try simp only [Act.put, List.setIfInBounds_toArray, List.set_cons_zero, List.set_cons_succ]
        refine wpAnyH_take (i := 3) (oi := ⟨_, _, _, _, _, _⟩) (v := ?_) rfl (by kernel_rfl) (by kernel_rfl) (by kernel_rfl) (fun _ _ _ h => h) (Or.inl ⟨by rfl, ?_⟩) (by assumption) ?_
        rotate_left 1
        · intro w' hSw; go_simp; all_goals with_reducible rfl
        try simp only [Act.put, List.setIfInBounds_toArray, List.set_cons_zero, List.set_cons_succ]
        refine wpAnyH_take (i := 4) (oi := ⟨_, _, _, _, _, _⟩) (v := ?_) rfl (by kernel_rfl) (by kernel_rfl) (by kernel_rfl) (fun _ _ _ h => h) (Or.inl ⟨by rfl, ?_⟩) (by assumption) ?_
        rotate_left 1
        · intro w' hSw; have hS9 := hSw.1.ten.2.2.2.2.2.2.2.2.2; obtain ⟨r0, r1, r2, r3, r4, r5, r6, r7, r8, r9⟩ := Bx.ten hSw.2.1; obtain ⟨g0, g1, g2, g3, g4, g5, g6, g7, g8, g9⟩ := At.ten hSw.2.2; go_simp; all_goals with_reducible rfl
        try simp only [Act.put, List.setIfInBounds_toArray, List.set_cons_zero, List.set_cons_succ]
        refine wpAnyH_take (i := 5) (oi := ⟨_, _, _, _, _, _⟩) (v := ?_) rfl (by kernel_rfl) (by kernel_rfl) (by kernel_rfl) (fun _ _ _ h => h) (Or.inl ⟨by rfl, ?_⟩) (by assumption) ?_
        rotate_left 1
        · intro w' hSw; have hS9 := hSw.1.ten.2.2.2.2.2.2.2.2.2; obtain ⟨r0, r1, r2, r3, r4, r5, r6, r7, r8, r9⟩ := Bx.ten hSw.2.1; obtain ⟨g0, g1, g2, g3, g4, g5, g6, g7, g8, g9⟩ := At.ten hSw.2.2; go_simp; all_goals with_reducible rfl
        try simp only [Act.put, List.setIfInBounds_toArray, List.set_cons_zero, List.set_cons_succ]
        refine wpAnyH_ready (rs := [6]) (by kernel_rfl) (by simp) (AllReadyH.cons (o := ⟨_, _, _, _, _, _⟩) rfl (fun K hK => ?_) AllReadyH.nil)
        go_simp
        (go_at_call 11; refine Calls.mono (CM.out _ IK6.out IKB.out) ?_; rintro e x8 ⟨rfl, q8⟩; have Q8 := hideIt q8; clear q8 CM)
        refine hK.out _ _ ?_ (fun hHeld => ?_)
        · exact ⟨(Q8.out.block _ BC8.out.lt).trans BC8.out, (Q8.out.block _ BW8.out.lt).trans BW8.out, AT8.out.keep (Nat.le_refl _) Q8.out⟩
        clear hK K
        try simp only [Act.put, List.setIfInBounds_toArray, List.set_cons_zero, List.set_cons_succ]
        refine wpAnyH_take (i := 7) (oi := ⟨_, _, _, _, _, _⟩) (v := ?_) rfl (by kernel_rfl) (by kernel_rfl) (by kernel_rfl) (fun _ _ _ h => h) (Or.inl ⟨by rfl, ?_⟩) (by assumption) ?_
        rotate_left 1
        · intro w' hSw; go_simp; all_goals with_reducible rfl
        try simp only [Act.put, List.setIfInBounds_toArray, List.set_cons_zero, List.set_cons_succ]
        refine wpAnyH_done (by kernel_rfl) ?_ _
        go_wp2_with (fail)
        go_roundw
        case rel => exact ⟨k + 1, by go_num, by omega, (hq.out.trans Y0.out).trans Q8.out⟩
        case measure => simp [intOf]; omega
      · have hk2 : decide ((k : Int) < (f2.len : Int)) = false := by simp; omega
        have hl3 : k - f2.len < f3.len := by have := HL6.out; omega
        have hi1 : (0 : Int) ≤ (k : Int) - (f2.len : Int) := by omega
        have hi2 : (k : Int) - (f2.len : Int) < (f3.len : Int) := by have := HL6.out; omega
        have hw4 : IntKind.i64.wrap ((k : Int) - (f2.len : Int)) = (k : Int) - (f2.len : Int) := by rw [IntKind.wrap_i64]; omega
        obtain ⟨bb, ob, v', kb, kcb, kbs, eb, db, atb, okb, skb, inb⟩ := (I37.out.keep (Nat.le_refl _) hq.out).elem (k - f2.len) hl3
        obtain ⟨hv, hsame⟩ : v6 = v' ∧ ks6.same kbs = true := by
          obtain ⟨K', n1, cA⟩ := nth_cp K6.out.1 (nth_drop d6)
          obtain ⟨K'', n2, cB⟩ := nth_cp K3.out.1 (nth_drop db)
          rw [nth_app, if_neg (by rw [← K2.out.1.len]; exact h2), ← K2.out.1.len, n2] at n1
          cases n1
          exact ⟨rfl, cp_same cA cB⟩
        have CM := hideIt (fun X (h : In X ka6 ks6) (h' : In X kb kbs) => rsame_any (ks6.size + 1) ks6 (by omega) kbs v6 v' ka6 kb kc6 kcb X h sk6 h' skb)
        rw [hsame, Bool.and_true, show eqN v6 v' = true by rw [← hv]; simp [eqN]] at CM
        clear hsame hv d6 db
        have zz := fun (ob' : Obj) => (atb.keep (Nat.le_refl _) ((Q.refl wr).alloc ob')).ten
        have z0 := fun ob' => (zz ob').1
        have z1 := fun ob' => (zz ob').2.1
        have z2 := fun ob' => (zz ob').2.2.1
        have z3 := fun ob' => (zz ob').2.2.2.1
        have z4 := fun ob' => (zz ob').2.2.2.2.1
        have z5 := fun ob' => (zz ob').2.2.2.2.2.1
        have z6 := fun ob' => (zz ob').2.2.2.2.2.2.1
        have z7 := fun ob' => (zz ob').2.2.2.2.2.2.2.1
        have z8 := fun ob' => (zz ob').2.2.2.2.2.2.2.2.1
        have z9 := fun ob' => (zz ob').2.2.2.2.2.2.2.2.2
        clear zz
        clear atb
        subst eb
        go_wp2_with (fail)
        clear z0 z1 z2 z3 z4 z5 z6 z7 z8 z9
        have Y0 := hideIt (show Q wr (wr.alloc (.cells (cellsN v' (.slice kb kbs.len kcb)).toArray 27)).drew from ((Q.refl wr).alloc _).drew)
        have BC8 := hideIt (show Bx (wr.alloc (.cells (cellsN v' (.slice kb kbs.len kcb)).toArray 27)).drew x6.heap.size (nk 1) (.slice (some ⟨b6, o6, none⟩) f6.len c6) from Bx.drew (B6.out.alloc _))
        have BW8 := hideIt (show Bx (wr.alloc (.cells (cellsN v' (.slice kb kbs.len kcb)).toArray 27)).drew wr.heap.size v' (.slice kb kbs.len kcb) from Bx.drew (Bx.new wr v' (.slice kb kbs.len kcb)))
        have AT8 := hideIt (at6.keep (Nat.le_refl _) Y0.out)
        have IK6 := hideIt (in6.keep (Nat.le_refl _) Y0.out)
        have IKB := hideIt (inb.keep (Nat.le_refl _) Y0.out)
        clear at6 in6 inb
        refine wp_region_held_drew (S := fun w' => Bx w' x6.heap.size (nk 1) (.slice (some ⟨b6, o6, none⟩) f6.len c6) ∧ Bx w' wr.heap.size v' (.slice kb kbs.len kcb) ∧ At w' b6 (o6 + k * 10) (cellsN v6 (.slice ka6 ks6.len kc6))) (by kernel_rfl) (⟨BC8.out, BW8.out, AT8.out⟩) (fun hHeld => ?_)
        refine wpAnyH_take (i := 0) (oi := ⟨_, _, _, _, _, _⟩) (v := ?_) rfl (by kernel_rfl) (by kernel_rfl) (by kernel_rfl) (fun _ _ _ h => h) (Or.inl ⟨by rfl, ?_⟩) (by assumption) ?_
        rotate_left 1
        · intro w' hSw; go_simp; all_goals with_reducible rfl
        try simp only [Act.put, List.setIfInBounds_toArray, List.set_cons_zero, List.set_cons_succ]
        refine wpAnyH_take (i := 1) (oi := ⟨_, _, _, _, _, _⟩) (v := ?_) rfl (by kernel_rfl) (by kernel_rfl) (by kernel_rfl) (fun _ _ _ h => h) (Or.inl ⟨by rfl, ?_⟩) (by assumption) ?_
        rotate_left 1
        · intro w' hSw; have hS9 := hSw.1.ten.2.2.2.2.2.2.2.2.2; obtain ⟨r0, r1, r2, r3, r4, r5, r6, r7, r8, r9⟩ := Bx.ten hSw.2.1; obtain ⟨g0, g1, g2, g3, g4, g5, g6, g7, g8, g9⟩ := At.ten hSw.2.2; go_simp; all_goals with_reducible rfl
        try simp only [Act.put, List.setIfInBounds_toArray, List.set_cons_zero, List.set_cons_succ]
        refine wpAnyH_take (i := 2) (oi := ⟨_, _, _, _, _, _⟩) (v := ?_) rfl (by kernel_rfl) (by kernel_rfl) (by kernel_rfl) (fun _ _ _ h => h) (Or.inl ⟨by rfl, ?_⟩) (by assumption) ?_
        rotate_left 1
        · intro w' hSw; go_simp; all_goals with_reducible rfl
        try simp only [Act.put, List.setIfInBounds_toArray, List.set_cons_zero, List.set_cons_succ]
        refine wpAnyH_take (i := 3) (oi := ⟨_, _, _, _, _, _⟩) (v := ?_) rfl (by kernel_rfl) (by kernel_rfl) (by kernel_rfl) (fun _ _ _ h => h) (Or.inl ⟨by rfl, ?_⟩) (by assumption) ?_
        rotate_left 1
        · intro w' hSw; go_simp; all_goals with_reducible rfl
        try simp only [Act.put, List.setIfInBounds_toArray, List.set_cons_zero, List.set_cons_succ]
        refine wpAnyH_take (i := 4) (oi := ⟨_, _, _, _, _, _⟩) (v := ?_) rfl (by kernel_rfl) (by kernel_rfl) (by kernel_rfl) (fun _ _ _ h => h) (Or.inl ⟨by rfl, ?_⟩) (by assumption) ?_
        rotate_left 1
        · intro w' hSw; have hS9 := hSw.1.ten.2.2.2.2.2.2.2.2.2; obtain ⟨r0, r1, r2, r3, r4, r5, r6, r7, r8, r9⟩ := Bx.ten hSw.2.1; obtain ⟨g0, g1, g2, g3, g4, g5, g6, g7, g8, g9⟩ := At.ten hSw.2.2; go_simp; all_goals with_reducible rfl
        try simp only [Act.put, List.setIfInBounds_toArray, List.set_cons_zero, List.set_cons_succ]
        refine wpAnyH_take (i := 5) (oi := ⟨_, _, _, _, _, _⟩) (v := ?_) rfl (by kernel_rfl) (by kernel_rfl) (by kernel_rfl) (fun _ _ _ h => h) (Or.inl ⟨by rfl, ?_⟩) (by assumption) ?_
        rotate_left 1
        · intro w' hSw; have hS9 := hSw.1.ten.2.2.2.2.2.2.2.2.2; obtain ⟨r0, r1, r2, r3, r4, r5, r6, r7, r8, r9⟩ := Bx.ten hSw.2.1; obtain ⟨g0, g1, g2, g3, g4, g5, g6, g7, g8, g9⟩ := At.ten hSw.2.2; go_simp; all_goals with_reducible rfl
        try simp only [Act.put, List.setIfInBounds_toArray, List.set_cons_zero, List.set_cons_succ]
        refine wpAnyH_ready (rs := [6]) (by kernel_rfl) (by simp) (AllReadyH.cons (o := ⟨_, _, _, _, _, _⟩) rfl (fun K hK => ?_) AllReadyH.nil)
        go_simp
        (go_at_call 11; refine Calls.mono (CM.out _ IK6.out IKB.out) ?_; rintro e x8 ⟨rfl, q8⟩; have Q8 := hideIt q8; clear q8 CM)
        refine hK.out _ _ ?_ (fun hHeld => ?_)
        · exact ⟨(Q8.out.block _ BC8.out.lt).trans BC8.out, (Q8.out.block _ BW8.out.lt).trans BW8.out, AT8.out.keep (Nat.le_refl _) Q8.out⟩
        clear hK K
        try simp only [Act.put, List.setIfInBounds_toArray, List.set_cons_zero, List.set_cons_succ]
        refine wpAnyH_take (i := 7) (oi := ⟨_, _, _, _, _, _⟩) (v := ?_) rfl (by kernel_rfl) (by kernel_rfl) (by kernel_rfl) (fun _ _ _ h => h) (Or.inl ⟨by rfl, ?_⟩) (by assumption) ?_
        rotate_left 1
        · intro w' hSw; go_simp; all_goals with_reducible rfl
        try simp only [Act.put, List.setIfInBounds_toArray, List.set_cons_zero, List.set_cons_succ]
        refine wpAnyH_done (by kernel_rfl) ?_ _
        go_wp2_with (fail)
        go_roundw
        case rel => exact ⟨k + 1, by go_num, by omega, (hq.out.trans Y0.out).trans Q8.out⟩
        case measure => simp [intOf]; omega
    · obtain rfl : k = f6.len := by omega
      go_wp2_with (fail)
      go_ret
      exact ⟨rfl, Q7.out.trans hq.out⟩

theorem walk (s : ByteArray) (hs : s.size ≤ 140737488351232) (t : ByteArray) (ht : t.size ≤ 140737488351232) (w : World) (hL : LaidP w) :
    Calls Tryz.prog 6 #[.string s, .string t] w fun e w' => e = .returned (.bool true) ∧ Below w.heap.size w w' := by
  rcases pcase s w hL with b1 | ⟨l1, n1, x, sx, r1, d1, z1, o1⟩
  · rcases pcase t w hL with b2 | ⟨l2, n2, y, sy, r2, d2, z2, o2⟩
    · exact walk_bb s t w hL b1 b2
    · exact walk_bo s t w hL b1 y.2 o2
  · rcases pcase t w hL with b2 | ⟨l2, n2, y, sy, r2, d2, z2, o2⟩
    · exact walk_ob s t w hL x.2 o1 b2
    · by_cases hz : 65536 ≤ s.size + t.size
      · exact walk_long s t w hL x.2 o1 y.2 o2 l1 l2 hz
      · obtain ⟨s1, st, P1, P2, hb, hsz⟩ := cat_facts s t (by omega)
        refine walk_fine s t w hL x.2 o1 y.2 o2 (by omega) z1 z2 st s1 P1 P2 (fun hm => ?_)
        obtain ⟨sj, rj⟩ := prog_join (bl s) (bl t) n1 (by rw [bl_len, bl_len]; omega) r1 r2 (by omega)
        have hlex : (Lx.lex 0 (bl st)).2 = none := by rw [hb, (toks_join (bl s) (bl t) n1).2, n2]; rfl
        have hdp : (x.2.app y.2).depth + 1 ≤ 40 := by rw [app_depth]; omega
        exact ok_of st w hL (by omega) hlex (x := (nk 1, x.2.app y.2)) (st := sj) (by rw [hb]; exact rj) hdp

set_option maxRecDepth 100000 in
theorem lifted (os : Os) (started : os.Started) (H : Type) (enc : TypeId × Value → H) :
    ReturnsInHanded {} Tryz.checked os 6 .any (fun w args => (Rows.parseJoinsSpec.pre enc Tryz.prog Tryz.f6 [] false w args ∧ laidMetH Tryz.prog laidBoth w) ∧ sizedMet enc Tryz.prog Tryz.f6 (OpenSpec.ofChange Rows.parseJoinsSpec) false w args)
      (Rows.parseJoinsSpec.post enc Tryz.prog Tryz.f6 false true false false) := by
  refine returnsInHanded_of_change_and (C := Tryz.checked) (X := fun w _ => laidMetH Tryz.prog laidBoth w) (fun _ _ _ hh h => h.of_heap hh) own started (by kernel_rfl) Tryz.func6
    (ChangeSpec.witness_shaped (enc := enc) (C := Tryz.checked) (os := os) (X := fun w _ => laidMetH Tryz.prog laidBoth w) false (World.doorLaid Tryz.prog 39 os) #[.string ⟨#[]⟩, .string ⟨#[]⟩] 8 rfl (World.shaped_of_RefB (by kernel_rfl) (by kernel_rfl)) (by kernel_rfl) (by kernel_rfl) (by kernel_rfl) (door_met os _)) ?_
  intro W base args ds gs before hval0 hW _ hz hL _
  have hval : ∀ (j : Nat) t v, Tryz.f6.params[j]? = some t → args[j]? = some v → Value.okWide Tryz.prog W .any base t v := hval0
  have hW' := hW
  obtain ⟨p, q, hA0, hV, rfl, hfz, hnd⟩ := hW
  have hA : DataW.TrodAll enc Tryz.prog W 0 (fun _ => true) true Tryz.f6.params.toList args.toList ds p := hA0
  rw [Tryz.params6] at hA hval
  obtain ⟨v0, vs0, d0, ds0, p0, q0, hargs, rfl, rfl, h0, r0⟩ := trodAll_cons hA
  obtain ⟨v1, vs1, d1, ds1, p1, q1, rfl, rfl, rfl, h1, r1⟩ := trodAll_cons r0
  obtain ⟨rfl, rfl, rfl⟩ := trodAll_nil r1
  obtain rfl : args = #[v0, v1] := by cases args; simp_all
  obtain ⟨rfl, rfl⟩ := trodVars_none hV
  have k0 := h0
  have lt0 : ∀ x ∈ p0, x.block < W.heap.size := by obtain ⟨m, hm⟩ := k0; exact DataW.trod_lt m _ _ _ hm
  obtain ⟨s0, rfl, hd0, _, _⟩ := open_string Tryz.underlying9 (hval 0 9 v0 rfl rfl) h0
  have ws0 : s0.size ≤ 140737488351232 := by rw [Lib.size_eq]; exact sized_string hz (j := 0) (t := 9) (by rw [Tryz.params6]; rfl) (by rw [hd0]; rfl)
  have k1 := h1
  have lt1 : ∀ x ∈ p1, x.block < W.heap.size := by obtain ⟨m, hm⟩ := k1; exact DataW.trod_lt m _ _ _ hm
  obtain ⟨s1, rfl, hd1, _, _⟩ := open_string Tryz.underlying9 (hval 1 9 v1 rfl rfl) h1
  have ws1 : s1.size ≤ 140737488351232 := by rw [Lib.size_eq]; exact sized_string hz (j := 1) (t := 9) (by rw [Tryz.params6]; rfl) (by rw [hd1]; rfl)
  clear hA0 hval0
  refine (walk s0 ws0 s1 ws1 W (of_laid hL)).mono fun e W' ⟨he, bel⟩ => ?_
  subst he
  exact ⟨_, rfl, _, _, _, [], _, [], hW', trodAll_mk1 (shut_bool Tryz.underlying4 _), (trodAll_cons_mk (Below.trod laidOut (by kernel_rfl) (of_decide_eq_true (by kernel_rfl)) k0 bel lt0) (trodAll_cons_mk (Below.trod laidOut (by kernel_rfl) (of_decide_eq_true (by kernel_rfl)) k1 bel lt1) trodAll_mk0)), rfl, bel.frame _, fun h => by cases h⟩

theorem over : Rows.ParseJoinsSaid :=
  OpenClaim.holds_of_wide 6 Tryz.f6 rfl rfl rfl rfl rfl rfl rfl ⟨rfl, rfl, rfl, rfl, rfl⟩ rfl rfl rfl rfl rfl (by kernel_rfl) Tryz.func6 (by kernel_rfl)
    (of_decide_eq_true (by kernel_rfl)) (by unfold Func.isWrapper; first | (rw [if_pos (by decide +kernel)]; kernel_rfl) | (rw [if_neg (by decide +kernel)]; exact ⟨rfl, rfl⟩))
    (fun os started H enc _ => lifted os started H enc)

/-- THE STATEMENT -/
theorem proved : Rows.ParseJoinsCardSaid :=
  Claim7.holds_tied_plain_at .later [] [.data, .data, .data] true (true, "38633228dfd1c445e316daefc5f5830a192a963cd2d43c2fb39f69237d0f4085") true
    over (fun _ h => by cases h) (by kernel_rfl) (fun _ h => by cases h) parseJoins_row_tie rfl ⟨rfl, rfl⟩ (by kernel_rfl) rfl
    (fun f fn hf hfn => by
      obtain rfl : f = 6 := Option.some.inj ((show Tryz.prog.funcNamed "burin/burinlaw05.ParseJoins" = some 6 by kernel_rfl).symm.trans hf) |>.symm
      obtain rfl : fn = Tryz.f6 := (Option.some.inj (Tryz.func6.symm.trans hfn)).symm
      exact ⟨by kernel_rfl, fun j t ht => by
        rw [Tryz.params6] at ht
        have hm : t ∈ [9, 9] := by simpa using Array.mem_of_getElem? ht
        have hall : ([9, 9].all fun u => !Tryz.prog.wantsStandIn u) = true := by kernel_rfl
        exact (show Tryz.prog.wantsStandIn t = false by simpa using List.all_eq_true.1 hall t hm)⟩)
    (by kernel_rfl)
#print axioms proved
end Go.Proofs.YtoilhcklflmamaaGreatDoor.parseJoins
