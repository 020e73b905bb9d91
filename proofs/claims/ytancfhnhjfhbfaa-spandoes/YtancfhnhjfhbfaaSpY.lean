/-
  What Do of the document's answer for layer 10 returns: contracts over the program, for the other operations.
-/
import Derived.Test.YtancfhnhjfhbfaaSpX
import Derived.Test.YtancfhnhjfhbfaaSpW
import Derived.Test.YtancfhnhjfhbfaaSpTa
import Derived.Test.YtancfhnhjfhbfaaSpTb
import Derived.Test.YtancfhnhjfhbfaaSpTc
import Derived.Test.YtancfhnhjfhbfaaSpTd
import Derived.Test.YtancfhnhjfhbfaaSpTe
import Derived.Test.YtancfhnhjfhbfaaSpTf
set_option linter.unusedVariables false
namespace Go.Proofs.Ytancfhnhjfhbfaa
open Go.RowKit
open Burin
set_option linter.unusedVariables false

theorem quo_bd (ah : Int) (h : 0 < ah) : -9223372036854775808 ≤ (9223372036854775807 : Int).tdiv ah ∧ (9223372036854775807 : Int).tdiv ah ≤ 9223372036854775807 := by
  rw [Int.tdiv_eq_ediv_of_nonneg (by decide)]
  have k1 : 0 ≤ (9223372036854775807 : Int) / ah := Int.ediv_nonneg (by decide) (by omega)
  have k2 : (9223372036854775807 : Int) / ah ≤ 9223372036854775807 := Int.ediv_le_self _ (by decide)
  omega
theorem mul_big (t al ah bl bh : Int) (h1 : t = 5) (ra : rtB t al ah = true) (rb : rtB t bl bh = true) (h2 : 0 < ah) (h3 : (9223372036854775807 : Int).tdiv ah < bh) : fiA t (coL 3 al ah bl bh) (coH 3 al ah bl bh) = (low t, high t, true) := by
  subst h1
  obtain ⟨_, hab, la, ha⟩ := rtB_bd (by decide) ra
  obtain ⟨_, hbb, lb, hb⟩ := rtB_bd (by decide) rb
  have l5 : low 5 = 0 := rfl
  have h5 : high 5 = 4294967295 := rfl
  rw [Int.tdiv_eq_ediv_of_nonneg (by decide)] at h3
  have k1 : 9223372036854775807 < bh * ah := (Int.ediv_lt_iff_lt_mul h2).1 h3
  have k2 : bh * ah ≤ 4294967295 * 4294967295 := Int.mul_le_mul (by omega) (by omega) (by omega) (by omega)
  rw [Int.mul_comm] at k1 k2
  have kw : coL 3 al ah bl bh < 0 := by
    have : coL 3 al ah bl bh ≤ atP 3 ah bh := by unfold coL mn4; omega
    have e : atP 3 ah bh = wrap64 (ah * bh) := rfl
    rw [e] at this
    unfold wrap64 at this
    omega
  have hi : inB (coL 3 al ah bl bh) (coH 3 al ah bl bh) (low 5) (high 5) = false := by
    cases h : inB (coL 3 al ah bl bh) (coH 3 al ah bl bh) (low 5) (high 5) with
    | false => rfl
    | true =>
      have := (inB_bd (co_le 3 al ah bl bh) h).1
      omega
  unfold fiA fiL fiH fiB
  rw [hi]
  rfl

set_option maxRecDepth 100000 in
set_option maxHeartbeats 4000000 in
theorem rd_b (op : Int) (t al ah bl bh : Int) (w : World) (h0 : 0 ≤ t) (o1 : 1 ≤ op) (o2 : op ≤ 16) (h9 : op ≠ 9) (h10 : op ≠ 10) (ra : rtB t al ah = true) (rb : rtB t bl bh = false) : Calls Try.prog 11 #[.int .i64 op, .int .i64 t, spV al ah, spV bl bh] w fun e w' => e = .returned (.tuple #[.agg #[.int .i64 (doA op t al ah bl bh).1, .int .i64 (doA op t al ah bl bh).2.1], .bool (doA op t al ah bl bh).2.2]) ∧ Q w w' := by
  have e : doA op t al ah bl bh = (1, 0, false) := by unfold doA; rw [if_neg (by rw [ra]; simp; omega), if_neg (by omega), if_pos rb]
  rw [e]
  clear e
  have R := hideIt (Q.refl (bx3 w al ah bl bh))
  have HE : Hid (∀ x, Calls Try.prog 41 #[] x fun e w' => e = .returned (.tuple #[.agg #[.int .i64 1, .int .i64 0], .bool false]) ∧ Q x w') := fun x => rno_any x
  have HA : Hid (∀ x, Calls Try.prog 40 #[.int .i64 t, spV al ah] x fun e w' => e = .returned (.bool true) ∧ Q x w') := fun x => by have h := rright_any t al ah x h0; rw [ra] at h; exact h
  have HB : Hid (∀ x, Calls Try.prog 40 #[.int .i64 t, spV bl bh] x fun e w' => e = .returned (.bool false) ∧ Q x w') := fun x => by have h := rright_any t bl bh x h0; rw [rb] at h; exact h
  have d1 : decide (op < 1) = false := by simp; omega
  have d2 : decide (16 < op) = false := by simp; omega
  have n9 : (op == 9) = false := by simp; omega
  have n10 : (op == 10) = false := by simp; omega
  go_enter Try.func11, Try.ntmps11
  go_wp2_with (first | (go_at_call_of 40 (Value.agg #[Value.int IntKind.i64 al, Value.int IntKind.i64 ah]); refine (HA.out _).mono ?_; rintro e x ⟨rfl, q⟩; (try clear c0 c1 c2 c3 c4 c5 f4 f5); have R := hideIt (R.out.trans q); clear q; obtain ⟨c0, c1, c2, c3, c4, c5, f4, f5⟩ := R.out.c6) | (go_at_call 40; refine (HB.out _).mono ?_; rintro e x ⟨rfl, q⟩; (try clear c0 c1 c2 c3 c4 c5 f4 f5); have R := hideIt (R.out.trans q); clear q; obtain ⟨c0, c1, c2, c3, c4, c5, f4, f5⟩ := R.out.c6) | (go_at_call 41; refine (HE.out _).mono ?_; rintro e x ⟨rfl, q⟩; (try clear c0 c1 c2 c3 c4 c5 f4 f5); have R := hideIt (R.out.trans q); clear q; obtain ⟨c0, c1, c2, c3, c4, c5, f4, f5⟩ := R.out.c6))
  exact bodyPost_ret (v := .tuple #[spV 1 0, .bool false]) (by simp [results, Try.results11, go_sem, c4, c5]) rfl ⟨rfl, q_set3 R.out _ _⟩

set_option maxRecDepth 100000 in
set_option maxHeartbeats 4000000 in
theorem rd_1 (t al ah bl bh : Int) (w : World) (h0 : 0 ≤ t) (ra : rtB t al ah = true) (rb : rtB t bl bh = true) : Calls Try.prog 11 #[.int .i64 1, .int .i64 t, spV al ah, spV bl bh] w fun e w' => e = .returned (.tuple #[.agg #[.int .i64 (doA 1 t al ah bl bh).1, .int .i64 (doA 1 t al ah bl bh).2.1], .bool (doA 1 t al ah bl bh).2.2]) ∧ Q w w' := by
  have e : doA 1 t al ah bl bh = fiA t (coL 1 al ah bl bh) (coH 1 al ah bl bh) := by unfold doA; rw [if_neg (by rw [ra]; simp), if_neg (by omega), if_neg (by rw [rb]; simp)]; rfl
  rw [e]
  clear e
  have R := hideIt (Q.refl (bx3 w al ah bl bh))
  have HA : Hid (∀ x, Calls Try.prog 40 #[.int .i64 t, spV al ah] x fun e w' => e = .returned (.bool true) ∧ Q x w') := fun x => by have h := rright_any t al ah x h0; rw [ra] at h; exact h
  have HB : Hid (∀ x, Calls Try.prog 40 #[.int .i64 t, spV bl bh] x fun e w' => e = .returned (.bool true) ∧ Q x w') := fun x => by have h := rright_any t bl bh x h0; rw [rb] at h; exact h
  obtain ⟨a1, a2, hab⟩ := rtB_nb h0 ra
  obtain ⟨b1, b2, hbb⟩ := rtB_nb h0 rb
  have HC : Hid (∀ x, Calls Try.prog 44 #[.int .i64 1, spV al ah, spV bl bh] x fun e w' => e = .returned (.agg #[.int .i64 (coL 1 al ah bl bh), .int .i64 (coH 1 al ah bl bh)]) ∧ Q x w') := fun x => rcorners_any 1 al ah bl bh x (.inl ⟨rfl, a1, b1⟩) (.inl ⟨rfl, a1, b2⟩) (.inl ⟨rfl, a2, b1⟩) (.inl ⟨rfl, a2, b2⟩)
  have HI : Hid (∀ x, Calls Try.prog 45 #[.int .i64 t, .agg #[.int .i64 (coL 1 al ah bl bh), .int .i64 (coH 1 al ah bl bh)]] x fun e w' => e = .returned (.tuple #[.agg #[.int .i64 (fiL t (coL 1 al ah bl bh) (coH 1 al ah bl bh)), .int .i64 (fiH t (coL 1 al ah bl bh) (coH 1 al ah bl bh))], .bool (fiB t (coL 1 al ah bl bh) (coH 1 al ah bl bh))]) ∧ Q x w') := fun x => rfit_any t (coL 1 al ah bl bh) (coH 1 al ah bl bh) x h0
  unfold fiA
  generalize fiL t (coL 1 al ah bl bh) (coH 1 al ah bl bh) = z1 at *
  generalize fiH t (coL 1 al ah bl bh) (coH 1 al ah bl bh) = z2 at *
  generalize fiB t (coL 1 al ah bl bh) (coH 1 al ah bl bh) = z3 at *
  generalize coL 1 al ah bl bh = y1 at *
  generalize coH 1 al ah bl bh = y2 at *
  go_enter Try.func11, Try.ntmps11
  go_wp2_with (first | (go_at_call_of 40 (Value.agg #[Value.int IntKind.i64 al, Value.int IntKind.i64 ah]); refine (HA.out _).mono ?_; rintro e x ⟨rfl, q⟩; (try clear c0 c1 c2 c3 c4 c5 f4 f5); have R := hideIt (R.out.trans q); clear q; obtain ⟨c0, c1, c2, c3, c4, c5, f4, f5⟩ := R.out.c6) | (go_at_call 40; refine (HB.out _).mono ?_; rintro e x ⟨rfl, q⟩; (try clear c0 c1 c2 c3 c4 c5 f4 f5); have R := hideIt (R.out.trans q); clear q; obtain ⟨c0, c1, c2, c3, c4, c5, f4, f5⟩ := R.out.c6) | (go_at_call 44; refine (HC.out _).mono ?_; rintro e x ⟨rfl, q⟩; (try clear c0 c1 c2 c3 c4 c5 f4 f5); have R := hideIt (R.out.trans q); clear q; obtain ⟨c0, c1, c2, c3, c4, c5, f4, f5⟩ := R.out.c6) | (go_at_call 45; refine (HI.out _).mono ?_; rintro e x ⟨rfl, q⟩; (try clear c0 c1 c2 c3 c4 c5 f4 f5); have R := hideIt (R.out.trans q); clear q; obtain ⟨c0, c1, c2, c3, c4, c5, f4, f5⟩ := R.out.c6))
  exact bodyPost_ret (v := .tuple #[spV z1 z2, .bool z3]) (by simp [results, Try.results11, go_sem, c4, c5]) rfl ⟨rfl, q_set3 R.out _ _⟩

set_option maxRecDepth 100000 in
set_option maxHeartbeats 4000000 in
theorem rd_2 (t al ah bl bh : Int) (w : World) (h0 : 0 ≤ t) (ra : rtB t al ah = true) (rb : rtB t bl bh = true) : Calls Try.prog 11 #[.int .i64 2, .int .i64 t, spV al ah, spV bl bh] w fun e w' => e = .returned (.tuple #[.agg #[.int .i64 (doA 2 t al ah bl bh).1, .int .i64 (doA 2 t al ah bl bh).2.1], .bool (doA 2 t al ah bl bh).2.2]) ∧ Q w w' := by
  have e : doA 2 t al ah bl bh = fiA t (coL 2 al ah bl bh) (coH 2 al ah bl bh) := by unfold doA; rw [if_neg (by rw [ra]; simp), if_neg (by omega), if_neg (by rw [rb]; simp)]; rfl
  rw [e]
  clear e
  have R := hideIt (Q.refl (bx3 w al ah bl bh))
  have HA : Hid (∀ x, Calls Try.prog 40 #[.int .i64 t, spV al ah] x fun e w' => e = .returned (.bool true) ∧ Q x w') := fun x => by have h := rright_any t al ah x h0; rw [ra] at h; exact h
  have HB : Hid (∀ x, Calls Try.prog 40 #[.int .i64 t, spV bl bh] x fun e w' => e = .returned (.bool true) ∧ Q x w') := fun x => by have h := rright_any t bl bh x h0; rw [rb] at h; exact h
  obtain ⟨a1, a2, hab⟩ := rtB_nb h0 ra
  obtain ⟨b1, b2, hbb⟩ := rtB_nb h0 rb
  have HC : Hid (∀ x, Calls Try.prog 44 #[.int .i64 2, spV al ah, spV bl bh] x fun e w' => e = .returned (.agg #[.int .i64 (coL 2 al ah bl bh), .int .i64 (coH 2 al ah bl bh)]) ∧ Q x w') := fun x => rcorners_any 2 al ah bl bh x (.inr (.inl ⟨rfl, a1, b1⟩)) (.inr (.inl ⟨rfl, a1, b2⟩)) (.inr (.inl ⟨rfl, a2, b1⟩)) (.inr (.inl ⟨rfl, a2, b2⟩))
  have HI : Hid (∀ x, Calls Try.prog 45 #[.int .i64 t, .agg #[.int .i64 (coL 2 al ah bl bh), .int .i64 (coH 2 al ah bl bh)]] x fun e w' => e = .returned (.tuple #[.agg #[.int .i64 (fiL t (coL 2 al ah bl bh) (coH 2 al ah bl bh)), .int .i64 (fiH t (coL 2 al ah bl bh) (coH 2 al ah bl bh))], .bool (fiB t (coL 2 al ah bl bh) (coH 2 al ah bl bh))]) ∧ Q x w') := fun x => rfit_any t (coL 2 al ah bl bh) (coH 2 al ah bl bh) x h0
  unfold fiA
  generalize fiL t (coL 2 al ah bl bh) (coH 2 al ah bl bh) = z1 at *
  generalize fiH t (coL 2 al ah bl bh) (coH 2 al ah bl bh) = z2 at *
  generalize fiB t (coL 2 al ah bl bh) (coH 2 al ah bl bh) = z3 at *
  generalize coL 2 al ah bl bh = y1 at *
  generalize coH 2 al ah bl bh = y2 at *
  go_enter Try.func11, Try.ntmps11
  go_wp2_with (first | (go_at_call_of 40 (Value.agg #[Value.int IntKind.i64 al, Value.int IntKind.i64 ah]); refine (HA.out _).mono ?_; rintro e x ⟨rfl, q⟩; (try clear c0 c1 c2 c3 c4 c5 f4 f5); have R := hideIt (R.out.trans q); clear q; obtain ⟨c0, c1, c2, c3, c4, c5, f4, f5⟩ := R.out.c6) | (go_at_call 40; refine (HB.out _).mono ?_; rintro e x ⟨rfl, q⟩; (try clear c0 c1 c2 c3 c4 c5 f4 f5); have R := hideIt (R.out.trans q); clear q; obtain ⟨c0, c1, c2, c3, c4, c5, f4, f5⟩ := R.out.c6) | (go_at_call 44; refine (HC.out _).mono ?_; rintro e x ⟨rfl, q⟩; (try clear c0 c1 c2 c3 c4 c5 f4 f5); have R := hideIt (R.out.trans q); clear q; obtain ⟨c0, c1, c2, c3, c4, c5, f4, f5⟩ := R.out.c6) | (go_at_call 45; refine (HI.out _).mono ?_; rintro e x ⟨rfl, q⟩; (try clear c0 c1 c2 c3 c4 c5 f4 f5); have R := hideIt (R.out.trans q); clear q; obtain ⟨c0, c1, c2, c3, c4, c5, f4, f5⟩ := R.out.c6))
  exact bodyPost_ret (v := .tuple #[spV z1 z2, .bool z3]) (by simp [results, Try.results11, go_sem, c4, c5]) rfl ⟨rfl, q_set3 R.out _ _⟩

set_option maxRecDepth 100000 in
set_option maxHeartbeats 4000000 in
theorem rd_3x (t al ah bl bh : Int) (w : World) (h0 : 0 ≤ t) (ra : rtB t al ah = true) (rb : rtB t bl bh = true) (h1 : t ≠ 5) : Calls Try.prog 11 #[.int .i64 3, .int .i64 t, spV al ah, spV bl bh] w fun e w' => e = .returned (.tuple #[.agg #[.int .i64 (doA 3 t al ah bl bh).1, .int .i64 (doA 3 t al ah bl bh).2.1], .bool (doA 3 t al ah bl bh).2.2]) ∧ Q w w' := by
  have e : doA 3 t al ah bl bh = fiA t (coL 3 al ah bl bh) (coH 3 al ah bl bh) := by unfold doA; rw [if_neg (by rw [ra]; simp), if_neg (by omega), if_neg (by rw [rb]; simp)]; rfl
  rw [e]
  clear e
  have R := hideIt (Q.refl (bx3 w al ah bl bh))
  have HA : Hid (∀ x, Calls Try.prog 40 #[.int .i64 t, spV al ah] x fun e w' => e = .returned (.bool true) ∧ Q x w') := fun x => by have h := rright_any t al ah x h0; rw [ra] at h; exact h
  have HB : Hid (∀ x, Calls Try.prog 40 #[.int .i64 t, spV bl bh] x fun e w' => e = .returned (.bool true) ∧ Q x w') := fun x => by have h := rright_any t bl bh x h0; rw [rb] at h; exact h
  have HC : Hid (∀ x, Calls Try.prog 44 #[.int .i64 3, spV al ah, spV bl bh] x fun e w' => e = .returned (.agg #[.int .i64 (coL 3 al ah bl bh), .int .i64 (coH 3 al ah bl bh)]) ∧ Q x w') := fun x => rcorners_any 3 al ah bl bh x (.inr (.inr (.inl rfl))) (.inr (.inr (.inl rfl))) (.inr (.inr (.inl rfl))) (.inr (.inr (.inl rfl)))
  have HI : Hid (∀ x, Calls Try.prog 45 #[.int .i64 t, .agg #[.int .i64 (coL 3 al ah bl bh), .int .i64 (coH 3 al ah bl bh)]] x fun e w' => e = .returned (.tuple #[.agg #[.int .i64 (fiL t (coL 3 al ah bl bh) (coH 3 al ah bl bh)), .int .i64 (fiH t (coL 3 al ah bl bh) (coH 3 al ah bl bh))], .bool (fiB t (coL 3 al ah bl bh) (coH 3 al ah bl bh))]) ∧ Q x w') := fun x => rfit_any t (coL 3 al ah bl bh) (coH 3 al ah bl bh) x h0
  unfold fiA
  generalize fiL t (coL 3 al ah bl bh) (coH 3 al ah bl bh) = z1 at *
  generalize fiH t (coL 3 al ah bl bh) (coH 3 al ah bl bh) = z2 at *
  generalize fiB t (coL 3 al ah bl bh) (coH 3 al ah bl bh) = z3 at *
  generalize coL 3 al ah bl bh = y1 at *
  generalize coH 3 al ah bl bh = y2 at *
  have hF : Hid (∀ y, Q (bx3 w al ah bl bh) y → y.cell? ⟨w.heap.size, 0, none⟩ = some (.int .i64 al) ∧ y.cell? ⟨w.heap.size, 1, none⟩ = some (.int .i64 ah) ∧ y.cell? ⟨w.heap.size + 1, 0, none⟩ = some (.int .i64 bl) ∧ y.cell? ⟨w.heap.size + 1, 1, none⟩ = some (.int .i64 bh)) := fun y h => (fun y (h : Q (bx3 w al ah bl bh) y) => (⟨h.c6.1, h.c6.2.1, h.c6.2.2.1, h.c6.2.2.2.1⟩ : y.cell? ⟨w.heap.size, 0, none⟩ = some (.int .i64 al) ∧ y.cell? ⟨w.heap.size, 1, none⟩ = some (.int .i64 ah) ∧ y.cell? ⟨w.heap.size + 1, 0, none⟩ = some (.int .i64 bl) ∧ y.cell? ⟨w.heap.size + 1, 1, none⟩ = some (.int .i64 bh))) y h
  have d1 : (t == 5) = false := by simpa using h1
  go_enter Try.func11, Try.ntmps11
  go_wp2_with (first | (go_at_call_of 40 (Value.agg #[Value.int IntKind.i64 al, Value.int IntKind.i64 ah]); refine (HA.out _).mono ?_; rintro e x ⟨rfl, q⟩; (try clear c0 c1 c2 c3 c4 c5 f4 f5); have R := hideIt (R.out.trans q); clear q; obtain ⟨c0, c1, c2, c3, c4, c5, f4, f5⟩ := R.out.c6) | (go_at_call 40; refine (HB.out _).mono ?_; rintro e x ⟨rfl, q⟩; (try clear c0 c1 c2 c3 c4 c5 f4 f5); have R := hideIt (R.out.trans q); clear q; obtain ⟨c0, c1, c2, c3, c4, c5, f4, f5⟩ := R.out.c6))
  clear c0 c1 c2 c3 c4 c5 f4 f5
  refine wp_region_held_drew (S := (fun y : World => Q (bx3 w al ah bl bh) y ∧ y.cell? ⟨w.heap.size, 0, none⟩ = some (.int .i64 al) ∧ y.cell? ⟨w.heap.size, 1, none⟩ = some (.int .i64 ah) ∧ y.cell? ⟨w.heap.size + 1, 0, none⟩ = some (.int .i64 bl) ∧ y.cell? ⟨w.heap.size + 1, 1, none⟩ = some (.int .i64 bh))) (by kernel_rfl) (⟨Q.drew R.out, hF.out _ (Q.drew R.out)⟩) (fun hHeld => ?_)
  refine wpAnyH_take (i := 0) (oi := ⟨_, _, _, _, _, _⟩) (v := ?_) rfl (by kernel_rfl) (by kernel_rfl) (by kernel_rfl) (fun _ _ _ h => h) (Or.inl ⟨by rfl, ?_⟩) (by assumption) ?_
  rotate_left 1
  · intro w hSw; (try dsimp only at hSw); go_simp; all_goals with_reducible rfl
  try simp only [Act.put, List.setIfInBounds_toArray, List.set_cons_zero, List.set_cons_succ]
  refine wpAnyH_take (i := 1) (oi := ⟨_, _, _, _, _, _⟩) (v := ?_) rfl (by kernel_rfl) (by kernel_rfl) (by kernel_rfl) (fun _ _ _ h => h) (Or.inl ⟨by rfl, ?_⟩) (by assumption) ?_
  rotate_left 1
  · intro w hSw; (try dsimp only at hSw); go_simp; all_goals with_reducible rfl
  try simp only [Act.put, List.setIfInBounds_toArray, List.set_cons_zero, List.set_cons_succ]
  refine wpAnyH_take (i := 2) (oi := ⟨_, _, _, _, _, _⟩) (v := ?_) rfl (by kernel_rfl) (by kernel_rfl) (by kernel_rfl) (fun _ _ _ h => h) (Or.inl ⟨by rfl, ?_⟩) (by assumption) ?_
  rotate_left 1
  · intro w hSw; (try dsimp only at hSw); go_simp; all_goals with_reducible rfl
  try simp only [Act.put, List.setIfInBounds_toArray, List.set_cons_zero, List.set_cons_succ]
  refine wpAnyH_take (i := 3) (oi := ⟨_, _, _, _, _, _⟩) (v := undef) rfl (by kernel_rfl) (by kernel_rfl) (by kernel_rfl) (fun _ _ _ h => h) (Or.inr ⟨by rfl, rfl⟩) (by assumption) ?_
  try simp only [Act.put, List.setIfInBounds_toArray, List.set_cons_zero, List.set_cons_succ]
  refine wpAnyH_take (i := 4) (oi := ⟨_, _, _, _, _, _⟩) (v := undef) rfl (by kernel_rfl) (by kernel_rfl) (by kernel_rfl) (fun _ _ _ h => h) (Or.inr ⟨by rfl, rfl⟩) (by assumption) ?_
  try simp only [Act.put, List.setIfInBounds_toArray, List.set_cons_zero, List.set_cons_succ]
  refine wpAnyH_take (i := 5) (oi := ⟨_, _, _, _, _, _⟩) (v := undef) rfl (by kernel_rfl) (by kernel_rfl) (by kernel_rfl) (fun _ _ _ h => h) (Or.inr ⟨by rfl, rfl⟩) (by assumption) ?_
  try simp only [Act.put, List.setIfInBounds_toArray, List.set_cons_zero, List.set_cons_succ]
  refine wpAnyH_take (i := 6) (oi := ⟨_, _, _, _, _, _⟩) (v := ?_) rfl (by kernel_rfl) (by kernel_rfl) (by kernel_rfl) (fun _ _ _ h => h) (Or.inl ⟨by rfl, ?_⟩) (by assumption) ?_
  rotate_left 1
  · intro w hSw; (try dsimp only at hSw); go_simp; all_goals with_reducible rfl
  try simp only [Act.put, List.setIfInBounds_toArray, List.set_cons_zero, List.set_cons_succ]
  refine wpAnyH_take (i := 7) (oi := ⟨_, _, _, _, _, _⟩) (v := ?_) rfl (by kernel_rfl) (by kernel_rfl) (by kernel_rfl) (fun _ _ _ h => h) (Or.inl ⟨by rfl, ?_⟩) (by assumption) ?_
  rotate_left 1
  · intro w hSw; (try dsimp only at hSw); go_simp; all_goals with_reducible rfl
  try simp only [Act.put, List.setIfInBounds_toArray, List.set_cons_zero, List.set_cons_succ]
  refine wpAnyH_take (i := 8) (oi := ⟨_, _, _, _, _, _⟩) (v := undef) rfl (by kernel_rfl) (by kernel_rfl) (by kernel_rfl) (fun _ _ _ h => h) (Or.inr ⟨by rfl, rfl⟩) (by assumption) ?_
  try simp only [Act.put, List.setIfInBounds_toArray, List.set_cons_zero, List.set_cons_succ]
  refine wpAnyH_take (i := 9) (oi := ⟨_, _, _, _, _, _⟩) (v := undef) rfl (by kernel_rfl) (by kernel_rfl) (by kernel_rfl) (fun _ _ _ h => h) (Or.inr ⟨by rfl, rfl⟩) (by assumption) ?_
  try simp only [Act.put, List.setIfInBounds_toArray, List.set_cons_zero, List.set_cons_succ]
  refine wpAnyH_take (i := 10) (oi := ⟨_, _, _, _, _, _⟩) (v := undef) rfl (by kernel_rfl) (by kernel_rfl) (by kernel_rfl) (fun _ _ _ h => h) (Or.inr ⟨by rfl, rfl⟩) (by assumption) ?_
  try simp only [Act.put, List.setIfInBounds_toArray, List.set_cons_zero, List.set_cons_succ]
  refine wpAnyH_take (i := 11) (oi := ⟨_, _, _, _, _, _⟩) (v := undef) rfl (by kernel_rfl) (by kernel_rfl) (by kernel_rfl) (fun _ _ _ h => h) (Or.inr ⟨by rfl, rfl⟩) (by assumption) ?_
  try simp only [Act.put, List.setIfInBounds_toArray, List.set_cons_zero, List.set_cons_succ]
  refine wpAnyH_take (i := 12) (oi := ⟨_, _, _, _, _, _⟩) (v := undef) rfl (by kernel_rfl) (by kernel_rfl) (by kernel_rfl) (fun _ _ _ h => h) (Or.inr ⟨by rfl, rfl⟩) (by assumption) ?_
  try simp only [Act.put, List.setIfInBounds_toArray, List.set_cons_zero, List.set_cons_succ]
  refine wpAnyH_take (i := 13) (oi := ⟨_, _, _, _, _, _⟩) (v := undef) rfl (by kernel_rfl) (by kernel_rfl) (by kernel_rfl) (fun _ _ _ h => h) (Or.inr ⟨by rfl, rfl⟩) (by assumption) ?_
  try simp only [Act.put, List.setIfInBounds_toArray, List.set_cons_zero, List.set_cons_succ]
  refine wpAnyH_take (i := 14) (oi := ⟨_, _, _, _, _, _⟩) (v := ?_) rfl (by kernel_rfl) (by kernel_rfl) (by kernel_rfl) (fun _ _ _ h => h) (Or.inl ⟨by rfl, ?_⟩) (by assumption) ?_
  rotate_left 1
  · intro w hSw; (try dsimp only at hSw); go_simp; all_goals with_reducible rfl
  try simp only [Act.put, List.setIfInBounds_toArray, List.set_cons_zero, List.set_cons_succ]
  refine wpAnyH_done (by kernel_rfl) ?_ _
  have R := hideIt (Q.drew R.out)
  obtain ⟨c0, c1, c2, c3, c4, c5, f4, f5⟩ := R.out.c6
  go_wp2_with (first | (go_at_call 44; refine (HC.out _).mono ?_; rintro e x ⟨rfl, q⟩; (try clear c0 c1 c2 c3 c4 c5 f4 f5); have R := hideIt (R.out.trans q); clear q; obtain ⟨c0, c1, c2, c3, c4, c5, f4, f5⟩ := R.out.c6) | (go_at_call 45; refine (HI.out _).mono ?_; rintro e x ⟨rfl, q⟩; (try clear c0 c1 c2 c3 c4 c5 f4 f5); have R := hideIt (R.out.trans q); clear q; obtain ⟨c0, c1, c2, c3, c4, c5, f4, f5⟩ := R.out.c6))
  exact bodyPost_ret (v := .tuple #[spV z1 z2, .bool z3]) (by simp [results, Try.results11, go_sem, c4, c5]) rfl ⟨rfl, q_set3 R.out _ _⟩

set_option maxRecDepth 100000 in
set_option maxHeartbeats 4000000 in
theorem rd_3y (t al ah bl bh : Int) (w : World) (h0 : 0 ≤ t) (ra : rtB t al ah = true) (rb : rtB t bl bh = true) (h1 : t = 5) (h2 : ah ≤ 0) : Calls Try.prog 11 #[.int .i64 3, .int .i64 t, spV al ah, spV bl bh] w fun e w' => e = .returned (.tuple #[.agg #[.int .i64 (doA 3 t al ah bl bh).1, .int .i64 (doA 3 t al ah bl bh).2.1], .bool (doA 3 t al ah bl bh).2.2]) ∧ Q w w' := by
  have e : doA 3 t al ah bl bh = fiA t (coL 3 al ah bl bh) (coH 3 al ah bl bh) := by unfold doA; rw [if_neg (by rw [ra]; simp), if_neg (by omega), if_neg (by rw [rb]; simp)]; rfl
  rw [e]
  clear e
  have R := hideIt (Q.refl (bx3 w al ah bl bh))
  have HA : Hid (∀ x, Calls Try.prog 40 #[.int .i64 t, spV al ah] x fun e w' => e = .returned (.bool true) ∧ Q x w') := fun x => by have h := rright_any t al ah x h0; rw [ra] at h; exact h
  have HB : Hid (∀ x, Calls Try.prog 40 #[.int .i64 t, spV bl bh] x fun e w' => e = .returned (.bool true) ∧ Q x w') := fun x => by have h := rright_any t bl bh x h0; rw [rb] at h; exact h
  have HC : Hid (∀ x, Calls Try.prog 44 #[.int .i64 3, spV al ah, spV bl bh] x fun e w' => e = .returned (.agg #[.int .i64 (coL 3 al ah bl bh), .int .i64 (coH 3 al ah bl bh)]) ∧ Q x w') := fun x => rcorners_any 3 al ah bl bh x (.inr (.inr (.inl rfl))) (.inr (.inr (.inl rfl))) (.inr (.inr (.inl rfl))) (.inr (.inr (.inl rfl)))
  have HI : Hid (∀ x, Calls Try.prog 45 #[.int .i64 t, .agg #[.int .i64 (coL 3 al ah bl bh), .int .i64 (coH 3 al ah bl bh)]] x fun e w' => e = .returned (.tuple #[.agg #[.int .i64 (fiL t (coL 3 al ah bl bh) (coH 3 al ah bl bh)), .int .i64 (fiH t (coL 3 al ah bl bh) (coH 3 al ah bl bh))], .bool (fiB t (coL 3 al ah bl bh) (coH 3 al ah bl bh))]) ∧ Q x w') := fun x => rfit_any t (coL 3 al ah bl bh) (coH 3 al ah bl bh) x h0
  unfold fiA
  generalize fiL t (coL 3 al ah bl bh) (coH 3 al ah bl bh) = z1 at *
  generalize fiH t (coL 3 al ah bl bh) (coH 3 al ah bl bh) = z2 at *
  generalize fiB t (coL 3 al ah bl bh) (coH 3 al ah bl bh) = z3 at *
  generalize coL 3 al ah bl bh = y1 at *
  generalize coH 3 al ah bl bh = y2 at *
  have hF : Hid (∀ y, Q (bx3 w al ah bl bh) y → y.cell? ⟨w.heap.size, 0, none⟩ = some (.int .i64 al) ∧ y.cell? ⟨w.heap.size, 1, none⟩ = some (.int .i64 ah) ∧ y.cell? ⟨w.heap.size + 1, 0, none⟩ = some (.int .i64 bl) ∧ y.cell? ⟨w.heap.size + 1, 1, none⟩ = some (.int .i64 bh)) := fun y h => (fun y (h : Q (bx3 w al ah bl bh) y) => (⟨h.c6.1, h.c6.2.1, h.c6.2.2.1, h.c6.2.2.2.1⟩ : y.cell? ⟨w.heap.size, 0, none⟩ = some (.int .i64 al) ∧ y.cell? ⟨w.heap.size, 1, none⟩ = some (.int .i64 ah) ∧ y.cell? ⟨w.heap.size + 1, 0, none⟩ = some (.int .i64 bl) ∧ y.cell? ⟨w.heap.size + 1, 1, none⟩ = some (.int .i64 bh))) y h
  have d1 : (t == 5) = true := by simpa using h1
  have d2 : decide (0 < ah) = false := by simp; omega
  clear h1
  go_enter Try.func11, Try.ntmps11
  go_wp2_with (first | (go_at_call_of 40 (Value.agg #[Value.int IntKind.i64 al, Value.int IntKind.i64 ah]); refine (HA.out _).mono ?_; rintro e x ⟨rfl, q⟩; (try clear c0 c1 c2 c3 c4 c5 f4 f5); have R := hideIt (R.out.trans q); clear q; obtain ⟨c0, c1, c2, c3, c4, c5, f4, f5⟩ := R.out.c6) | (go_at_call 40; refine (HB.out _).mono ?_; rintro e x ⟨rfl, q⟩; (try clear c0 c1 c2 c3 c4 c5 f4 f5); have R := hideIt (R.out.trans q); clear q; obtain ⟨c0, c1, c2, c3, c4, c5, f4, f5⟩ := R.out.c6))
  clear c0 c1 c2 c3 c4 c5 f4 f5
  refine wp_region_held_drew (S := (fun y : World => Q (bx3 w al ah bl bh) y ∧ y.cell? ⟨w.heap.size, 0, none⟩ = some (.int .i64 al) ∧ y.cell? ⟨w.heap.size, 1, none⟩ = some (.int .i64 ah) ∧ y.cell? ⟨w.heap.size + 1, 0, none⟩ = some (.int .i64 bl) ∧ y.cell? ⟨w.heap.size + 1, 1, none⟩ = some (.int .i64 bh))) (by kernel_rfl) (⟨Q.drew R.out, hF.out _ (Q.drew R.out)⟩) (fun hHeld => ?_)
  refine wpAnyH_take (i := 0) (oi := ⟨_, _, _, _, _, _⟩) (v := ?_) rfl (by kernel_rfl) (by kernel_rfl) (by kernel_rfl) (fun _ _ _ h => h) (Or.inl ⟨by rfl, ?_⟩) (by assumption) ?_
  rotate_left 1
  · intro w hSw; (try dsimp only at hSw); go_simp; all_goals with_reducible rfl
  try simp only [Act.put, List.setIfInBounds_toArray, List.set_cons_zero, List.set_cons_succ]
  refine wpAnyH_take (i := 1) (oi := ⟨_, _, _, _, _, _⟩) (v := ?_) rfl (by kernel_rfl) (by kernel_rfl) (by kernel_rfl) (fun _ _ _ h => h) (Or.inl ⟨by rfl, ?_⟩) (by assumption) ?_
  rotate_left 1
  · intro w hSw; (try dsimp only at hSw); go_simp; all_goals with_reducible rfl
  try simp only [Act.put, List.setIfInBounds_toArray, List.set_cons_zero, List.set_cons_succ]
  refine wpAnyH_take (i := 2) (oi := ⟨_, _, _, _, _, _⟩) (v := ?_) rfl (by kernel_rfl) (by kernel_rfl) (by kernel_rfl) (fun _ _ _ h => h) (Or.inl ⟨by rfl, ?_⟩) (by assumption) ?_
  rotate_left 1
  · intro w hSw; (try dsimp only at hSw); go_simp; all_goals with_reducible rfl
  try simp only [Act.put, List.setIfInBounds_toArray, List.set_cons_zero, List.set_cons_succ]
  refine wpAnyH_take (i := 3) (oi := ⟨_, _, _, _, _, _⟩) (v := ?_) rfl (by kernel_rfl) (by kernel_rfl) (by kernel_rfl) (fun _ _ _ h => h) (Or.inl ⟨by rfl, ?_⟩) (by assumption) ?_
  rotate_left 1
  · intro w hSw; (try dsimp only at hSw); go_simp; all_goals with_reducible rfl
  try simp only [Act.put, List.setIfInBounds_toArray, List.set_cons_zero, List.set_cons_succ]
  refine wpAnyH_take (i := 4) (oi := ⟨_, _, _, _, _, _⟩) (v := ?_) rfl (by kernel_rfl) (by kernel_rfl) (by kernel_rfl) (fun _ _ _ h => h) (Or.inl ⟨by rfl, ?_⟩) (by assumption) ?_
  rotate_left 1
  · intro w hSw; (try dsimp only at hSw); go_simp; all_goals with_reducible rfl
  try simp only [Act.put, List.setIfInBounds_toArray, List.set_cons_zero, List.set_cons_succ]
  refine wpAnyH_take (i := 5) (oi := ⟨_, _, _, _, _, _⟩) (v := ?_) rfl (by kernel_rfl) (by kernel_rfl) (by kernel_rfl) (fun _ _ _ h => h) (Or.inl ⟨by rfl, ?_⟩) (by assumption) ?_
  rotate_left 1
  · intro w hSw; (try dsimp only at hSw); go_simp; all_goals with_reducible rfl
  try simp only [Act.put, List.setIfInBounds_toArray, List.set_cons_zero, List.set_cons_succ]
  refine wpAnyH_take (i := 6) (oi := ⟨_, _, _, _, _, _⟩) (v := ?_) rfl (by kernel_rfl) (by kernel_rfl) (by kernel_rfl) (fun _ _ _ h => h) (Or.inl ⟨by rfl, ?_⟩) (by assumption) ?_
  rotate_left 1
  · intro w hSw; (try dsimp only at hSw); go_simp; all_goals with_reducible rfl
  try simp only [Act.put, List.setIfInBounds_toArray, List.set_cons_zero, List.set_cons_succ]
  refine wpAnyH_take (i := 7) (oi := ⟨_, _, _, _, _, _⟩) (v := ?_) rfl (by kernel_rfl) (by kernel_rfl) (by kernel_rfl) (fun _ _ _ h => h) (Or.inl ⟨by rfl, ?_⟩) (by assumption) ?_
  rotate_left 1
  · intro w hSw; (try dsimp only at hSw); go_simp; all_goals with_reducible rfl
  try simp only [Act.put, List.setIfInBounds_toArray, List.set_cons_zero, List.set_cons_succ]
  refine wpAnyH_take (i := 8) (oi := ⟨_, _, _, _, _, _⟩) (v := undef) rfl (by kernel_rfl) (by kernel_rfl) (by kernel_rfl) (fun _ _ _ h => h) (Or.inr ⟨by rfl, rfl⟩) (by assumption) ?_
  try simp only [Act.put, List.setIfInBounds_toArray, List.set_cons_zero, List.set_cons_succ]
  refine wpAnyH_take (i := 9) (oi := ⟨_, _, _, _, _, _⟩) (v := undef) rfl (by kernel_rfl) (by kernel_rfl) (by kernel_rfl) (fun _ _ _ h => h) (Or.inr ⟨by rfl, rfl⟩) (by assumption) ?_
  try simp only [Act.put, List.setIfInBounds_toArray, List.set_cons_zero, List.set_cons_succ]
  refine wpAnyH_take (i := 10) (oi := ⟨_, _, _, _, _, _⟩) (v := undef) rfl (by kernel_rfl) (by kernel_rfl) (by kernel_rfl) (fun _ _ _ h => h) (Or.inr ⟨by rfl, rfl⟩) (by assumption) ?_
  try simp only [Act.put, List.setIfInBounds_toArray, List.set_cons_zero, List.set_cons_succ]
  refine wpAnyH_take (i := 11) (oi := ⟨_, _, _, _, _, _⟩) (v := undef) rfl (by kernel_rfl) (by kernel_rfl) (by kernel_rfl) (fun _ _ _ h => h) (Or.inr ⟨by rfl, rfl⟩) (by assumption) ?_
  try simp only [Act.put, List.setIfInBounds_toArray, List.set_cons_zero, List.set_cons_succ]
  refine wpAnyH_take (i := 12) (oi := ⟨_, _, _, _, _, _⟩) (v := undef) rfl (by kernel_rfl) (by kernel_rfl) (by kernel_rfl) (fun _ _ _ h => h) (Or.inr ⟨by rfl, rfl⟩) (by assumption) ?_
  try simp only [Act.put, List.setIfInBounds_toArray, List.set_cons_zero, List.set_cons_succ]
  refine wpAnyH_take (i := 13) (oi := ⟨_, _, _, _, _, _⟩) (v := undef) rfl (by kernel_rfl) (by kernel_rfl) (by kernel_rfl) (fun _ _ _ h => h) (Or.inr ⟨by rfl, rfl⟩) (by assumption) ?_
  try simp only [Act.put, List.setIfInBounds_toArray, List.set_cons_zero, List.set_cons_succ]
  refine wpAnyH_take (i := 14) (oi := ⟨_, _, _, _, _, _⟩) (v := ?_) rfl (by kernel_rfl) (by kernel_rfl) (by kernel_rfl) (fun _ _ _ h => h) (Or.inl ⟨by rfl, ?_⟩) (by assumption) ?_
  rotate_left 1
  · intro w hSw; (try dsimp only at hSw); go_simp; all_goals with_reducible rfl
  try simp only [Act.put, List.setIfInBounds_toArray, List.set_cons_zero, List.set_cons_succ]
  refine wpAnyH_done (by kernel_rfl) ?_ _
  have R := hideIt (Q.drew R.out)
  obtain ⟨c0, c1, c2, c3, c4, c5, f4, f5⟩ := R.out.c6
  go_wp2_with (first | (go_at_call 44; refine (HC.out _).mono ?_; rintro e x ⟨rfl, q⟩; (try clear c0 c1 c2 c3 c4 c5 f4 f5); have R := hideIt (R.out.trans q); clear q; obtain ⟨c0, c1, c2, c3, c4, c5, f4, f5⟩ := R.out.c6) | (go_at_call 45; refine (HI.out _).mono ?_; rintro e x ⟨rfl, q⟩; (try clear c0 c1 c2 c3 c4 c5 f4 f5); have R := hideIt (R.out.trans q); clear q; obtain ⟨c0, c1, c2, c3, c4, c5, f4, f5⟩ := R.out.c6))
  exact bodyPost_ret (v := .tuple #[spV z1 z2, .bool z3]) (by simp [results, Try.results11, go_sem, c4, c5]) rfl ⟨rfl, q_set3 R.out _ _⟩

set_option maxRecDepth 100000 in
set_option maxHeartbeats 4000000 in
theorem rd_3z (t al ah bl bh : Int) (w : World) (h0 : 0 ≤ t) (ra : rtB t al ah = true) (rb : rtB t bl bh = true) (h1 : t = 5) (h2 : 0 < ah) (h3 : bh ≤ (9223372036854775807 : Int).tdiv ah) : Calls Try.prog 11 #[.int .i64 3, .int .i64 t, spV al ah, spV bl bh] w fun e w' => e = .returned (.tuple #[.agg #[.int .i64 (doA 3 t al ah bl bh).1, .int .i64 (doA 3 t al ah bl bh).2.1], .bool (doA 3 t al ah bl bh).2.2]) ∧ Q w w' := by
  have e : doA 3 t al ah bl bh = fiA t (coL 3 al ah bl bh) (coH 3 al ah bl bh) := by unfold doA; rw [if_neg (by rw [ra]; simp), if_neg (by omega), if_neg (by rw [rb]; simp)]; rfl
  rw [e]
  clear e
  have R := hideIt (Q.refl (bx3 w al ah bl bh))
  have HA : Hid (∀ x, Calls Try.prog 40 #[.int .i64 t, spV al ah] x fun e w' => e = .returned (.bool true) ∧ Q x w') := fun x => by have h := rright_any t al ah x h0; rw [ra] at h; exact h
  have HB : Hid (∀ x, Calls Try.prog 40 #[.int .i64 t, spV bl bh] x fun e w' => e = .returned (.bool true) ∧ Q x w') := fun x => by have h := rright_any t bl bh x h0; rw [rb] at h; exact h
  have HC : Hid (∀ x, Calls Try.prog 44 #[.int .i64 3, spV al ah, spV bl bh] x fun e w' => e = .returned (.agg #[.int .i64 (coL 3 al ah bl bh), .int .i64 (coH 3 al ah bl bh)]) ∧ Q x w') := fun x => rcorners_any 3 al ah bl bh x (.inr (.inr (.inl rfl))) (.inr (.inr (.inl rfl))) (.inr (.inr (.inl rfl))) (.inr (.inr (.inl rfl)))
  have HI : Hid (∀ x, Calls Try.prog 45 #[.int .i64 t, .agg #[.int .i64 (coL 3 al ah bl bh), .int .i64 (coH 3 al ah bl bh)]] x fun e w' => e = .returned (.tuple #[.agg #[.int .i64 (fiL t (coL 3 al ah bl bh) (coH 3 al ah bl bh)), .int .i64 (fiH t (coL 3 al ah bl bh) (coH 3 al ah bl bh))], .bool (fiB t (coL 3 al ah bl bh) (coH 3 al ah bl bh))]) ∧ Q x w') := fun x => rfit_any t (coL 3 al ah bl bh) (coH 3 al ah bl bh) x h0
  unfold fiA
  generalize fiL t (coL 3 al ah bl bh) (coH 3 al ah bl bh) = z1 at *
  generalize fiH t (coL 3 al ah bl bh) (coH 3 al ah bl bh) = z2 at *
  generalize fiB t (coL 3 al ah bl bh) (coH 3 al ah bl bh) = z3 at *
  generalize coL 3 al ah bl bh = y1 at *
  generalize coH 3 al ah bl bh = y2 at *
  have hF : Hid (∀ y, Q (bx3 w al ah bl bh) y → y.cell? ⟨w.heap.size, 0, none⟩ = some (.int .i64 al) ∧ y.cell? ⟨w.heap.size, 1, none⟩ = some (.int .i64 ah) ∧ y.cell? ⟨w.heap.size + 1, 0, none⟩ = some (.int .i64 bl) ∧ y.cell? ⟨w.heap.size + 1, 1, none⟩ = some (.int .i64 bh)) := fun y h => (fun y (h : Q (bx3 w al ah bl bh) y) => (⟨h.c6.1, h.c6.2.1, h.c6.2.2.1, h.c6.2.2.2.1⟩ : y.cell? ⟨w.heap.size, 0, none⟩ = some (.int .i64 al) ∧ y.cell? ⟨w.heap.size, 1, none⟩ = some (.int .i64 ah) ∧ y.cell? ⟨w.heap.size + 1, 0, none⟩ = some (.int .i64 bl) ∧ y.cell? ⟨w.heap.size + 1, 1, none⟩ = some (.int .i64 bh))) y h
  have d1 : (t == 5) = true := by simpa using h1
  have d2 : decide (0 < ah) = true := by simpa using h2
  have d3 : decide ((9223372036854775807 : Int).tdiv ah < bh) = false := by simp; omega
  have hk : (ah == 0) = false := by simp; omega
  have hk0 : (ah = 0) = False := by simp; omega
  have qb := quo_bd ah h2
  obtain ⟨qb1, qb2⟩ := qb
  have wq : IntKind.i64.wrap ((9223372036854775807 : Int).tdiv ah) = (9223372036854775807 : Int).tdiv ah := by simp [IntKind.wrap_i64]; omega
  clear h1
  go_enter Try.func11, Try.ntmps11
  go_wp2_with (first | (go_at_call_of 40 (Value.agg #[Value.int IntKind.i64 al, Value.int IntKind.i64 ah]); refine (HA.out _).mono ?_; rintro e x ⟨rfl, q⟩; (try clear c0 c1 c2 c3 c4 c5 f4 f5); have R := hideIt (R.out.trans q); clear q; obtain ⟨c0, c1, c2, c3, c4, c5, f4, f5⟩ := R.out.c6) | (go_at_call 40; refine (HB.out _).mono ?_; rintro e x ⟨rfl, q⟩; (try clear c0 c1 c2 c3 c4 c5 f4 f5); have R := hideIt (R.out.trans q); clear q; obtain ⟨c0, c1, c2, c3, c4, c5, f4, f5⟩ := R.out.c6))
  clear c0 c1 c2 c3 c4 c5 f4 f5
  refine wp_region_held_drew (S := (fun y : World => Q (bx3 w al ah bl bh) y ∧ y.cell? ⟨w.heap.size, 0, none⟩ = some (.int .i64 al) ∧ y.cell? ⟨w.heap.size, 1, none⟩ = some (.int .i64 ah) ∧ y.cell? ⟨w.heap.size + 1, 0, none⟩ = some (.int .i64 bl) ∧ y.cell? ⟨w.heap.size + 1, 1, none⟩ = some (.int .i64 bh))) (by kernel_rfl) (⟨Q.drew R.out, hF.out _ (Q.drew R.out)⟩) (fun hHeld => ?_)
  refine wpAnyH_take (i := 0) (oi := ⟨_, _, _, _, _, _⟩) (v := ?_) rfl (by kernel_rfl) (by kernel_rfl) (by kernel_rfl) (fun _ _ _ h => h) (Or.inl ⟨by rfl, ?_⟩) (by assumption) ?_
  rotate_left 1
  · intro w hSw; (try dsimp only at hSw); go_simp; all_goals with_reducible rfl
  try simp only [Act.put, List.setIfInBounds_toArray, List.set_cons_zero, List.set_cons_succ]
  refine wpAnyH_take (i := 1) (oi := ⟨_, _, _, _, _, _⟩) (v := ?_) rfl (by kernel_rfl) (by kernel_rfl) (by kernel_rfl) (fun _ _ _ h => h) (Or.inl ⟨by rfl, ?_⟩) (by assumption) ?_
  rotate_left 1
  · intro w hSw; (try dsimp only at hSw); go_simp; all_goals with_reducible rfl
  try simp only [Act.put, List.setIfInBounds_toArray, List.set_cons_zero, List.set_cons_succ]
  refine wpAnyH_take (i := 2) (oi := ⟨_, _, _, _, _, _⟩) (v := ?_) rfl (by kernel_rfl) (by kernel_rfl) (by kernel_rfl) (fun _ _ _ h => h) (Or.inl ⟨by rfl, ?_⟩) (by assumption) ?_
  rotate_left 1
  · intro w hSw; (try dsimp only at hSw); go_simp; all_goals with_reducible rfl
  try simp only [Act.put, List.setIfInBounds_toArray, List.set_cons_zero, List.set_cons_succ]
  refine wpAnyH_take (i := 3) (oi := ⟨_, _, _, _, _, _⟩) (v := ?_) rfl (by kernel_rfl) (by kernel_rfl) (by kernel_rfl) (fun _ _ _ h => h) (Or.inl ⟨by rfl, ?_⟩) (by assumption) ?_
  rotate_left 1
  · intro w hSw; (try dsimp only at hSw); go_simp; all_goals with_reducible rfl
  try simp only [Act.put, List.setIfInBounds_toArray, List.set_cons_zero, List.set_cons_succ]
  refine wpAnyH_take (i := 4) (oi := ⟨_, _, _, _, _, _⟩) (v := ?_) rfl (by kernel_rfl) (by kernel_rfl) (by kernel_rfl) (fun _ _ _ h => h) (Or.inl ⟨by rfl, ?_⟩) (by assumption) ?_
  rotate_left 1
  · intro w hSw; (try dsimp only at hSw); go_simp; all_goals with_reducible rfl
  try simp only [Act.put, List.setIfInBounds_toArray, List.set_cons_zero, List.set_cons_succ]
  refine wpAnyH_take (i := 5) (oi := ⟨_, _, _, _, _, _⟩) (v := ?_) rfl (by kernel_rfl) (by kernel_rfl) (by kernel_rfl) (fun _ _ _ h => h) (Or.inl ⟨by rfl, ?_⟩) (by assumption) ?_
  rotate_left 1
  · intro w hSw; (try dsimp only at hSw); go_simp; all_goals with_reducible rfl
  try simp only [Act.put, List.setIfInBounds_toArray, List.set_cons_zero, List.set_cons_succ]
  refine wpAnyH_take (i := 6) (oi := ⟨_, _, _, _, _, _⟩) (v := ?_) rfl (by kernel_rfl) (by kernel_rfl) (by kernel_rfl) (fun _ _ _ h => h) (Or.inl ⟨by rfl, ?_⟩) (by assumption) ?_
  rotate_left 1
  · intro w hSw; (try dsimp only at hSw); go_simp; all_goals with_reducible rfl
  try simp only [Act.put, List.setIfInBounds_toArray, List.set_cons_zero, List.set_cons_succ]
  refine wpAnyH_take (i := 7) (oi := ⟨_, _, _, _, _, _⟩) (v := ?_) rfl (by kernel_rfl) (by kernel_rfl) (by kernel_rfl) (fun _ _ _ h => h) (Or.inl ⟨by rfl, ?_⟩) (by assumption) ?_
  rotate_left 1
  · intro w hSw; (try dsimp only at hSw); go_simp; all_goals with_reducible rfl
  try simp only [Act.put, List.setIfInBounds_toArray, List.set_cons_zero, List.set_cons_succ]
  refine wpAnyH_take (i := 8) (oi := ⟨_, _, _, _, _, _⟩) (v := ?_) rfl (by kernel_rfl) (by kernel_rfl) (by kernel_rfl) (fun _ _ _ h => h) (Or.inl ⟨by rfl, ?_⟩) (by assumption) ?_
  rotate_left 1
  · intro w hSw; (try dsimp only at hSw); go_simp; all_goals with_reducible rfl
  try simp only [Act.put, List.setIfInBounds_toArray, List.set_cons_zero, List.set_cons_succ]
  refine wpAnyH_take (i := 9) (oi := ⟨_, _, _, _, _, _⟩) (v := ?_) rfl (by kernel_rfl) (by kernel_rfl) (by kernel_rfl) (fun _ _ _ h => h) (Or.inl ⟨by rfl, ?_⟩) (by assumption) ?_
  rotate_left 1
  · intro w hSw; (try dsimp only at hSw); go_simp; all_goals with_reducible rfl
  try simp only [Act.put, List.setIfInBounds_toArray, List.set_cons_zero, List.set_cons_succ]
  refine wpAnyH_take (i := 10) (oi := ⟨_, _, _, _, _, _⟩) (v := ?_) rfl (by kernel_rfl) (by kernel_rfl) (by kernel_rfl) (fun _ _ _ h => h) (Or.inl ⟨by rfl, ?_⟩) (by assumption) ?_
  rotate_left 1
  · intro w hSw; (try dsimp only at hSw); go_simp; all_goals with_reducible rfl
  try simp only [Act.put, List.setIfInBounds_toArray, List.set_cons_zero, List.set_cons_succ]
  refine wpAnyH_take (i := 11) (oi := ⟨_, _, _, _, _, _⟩) (v := ?_) rfl (by kernel_rfl) (by kernel_rfl) (by kernel_rfl) (fun _ _ _ h => h) (Or.inl ⟨by rfl, ?_⟩) (by assumption) ?_
  rotate_left 1
  · intro w hSw; (try dsimp only at hSw); go_simp; all_goals with_reducible rfl
  try simp only [Act.put, List.setIfInBounds_toArray, List.set_cons_zero, List.set_cons_succ]
  refine wpAnyH_take (i := 12) (oi := ⟨_, _, _, _, _, _⟩) (v := ?_) rfl (by kernel_rfl) (by kernel_rfl) (by kernel_rfl) (fun _ _ _ h => h) (Or.inl ⟨by rfl, ?_⟩) (by assumption) ?_
  rotate_left 1
  · intro w hSw; (try dsimp only at hSw); go_simp; all_goals with_reducible rfl
  try simp only [Act.put, List.setIfInBounds_toArray, List.set_cons_zero, List.set_cons_succ]
  refine wpAnyH_take (i := 13) (oi := ⟨_, _, _, _, _, _⟩) (v := ?_) rfl (by kernel_rfl) (by kernel_rfl) (by kernel_rfl) (fun _ _ _ h => h) (Or.inl ⟨by rfl, ?_⟩) (by assumption) ?_
  rotate_left 1
  · intro w hSw; (try dsimp only at hSw); go_simp; all_goals with_reducible rfl
  try simp only [Act.put, List.setIfInBounds_toArray, List.set_cons_zero, List.set_cons_succ]
  refine wpAnyH_take (i := 14) (oi := ⟨_, _, _, _, _, _⟩) (v := ?_) rfl (by kernel_rfl) (by kernel_rfl) (by kernel_rfl) (fun _ _ _ h => h) (Or.inl ⟨by rfl, ?_⟩) (by assumption) ?_
  rotate_left 1
  · intro w hSw; (try dsimp only at hSw); go_simp; all_goals with_reducible rfl
  try simp only [Act.put, List.setIfInBounds_toArray, List.set_cons_zero, List.set_cons_succ]
  refine wpAnyH_done (by kernel_rfl) ?_ _
  have R := hideIt (Q.drew R.out)
  obtain ⟨c0, c1, c2, c3, c4, c5, f4, f5⟩ := R.out.c6
  go_wp2_with (first | (go_at_call 44; refine (HC.out _).mono ?_; rintro e x ⟨rfl, q⟩; (try clear c0 c1 c2 c3 c4 c5 f4 f5); have R := hideIt (R.out.trans q); clear q; obtain ⟨c0, c1, c2, c3, c4, c5, f4, f5⟩ := R.out.c6) | (go_at_call 45; refine (HI.out _).mono ?_; rintro e x ⟨rfl, q⟩; (try clear c0 c1 c2 c3 c4 c5 f4 f5); have R := hideIt (R.out.trans q); clear q; obtain ⟨c0, c1, c2, c3, c4, c5, f4, f5⟩ := R.out.c6))
  exact bodyPost_ret (v := .tuple #[spV z1 z2, .bool z3]) (by simp [results, Try.results11, go_sem, c4, c5]) rfl ⟨rfl, q_set3 R.out _ _⟩

set_option maxRecDepth 100000 in
set_option maxHeartbeats 4000000 in
theorem rd_3w (t al ah bl bh : Int) (w : World) (h0 : 0 ≤ t) (ra : rtB t al ah = true) (rb : rtB t bl bh = true) (h1 : t = 5) (h2 : 0 < ah) (h3 : (9223372036854775807 : Int).tdiv ah < bh) : Calls Try.prog 11 #[.int .i64 3, .int .i64 t, spV al ah, spV bl bh] w fun e w' => e = .returned (.tuple #[.agg #[.int .i64 (doA 3 t al ah bl bh).1, .int .i64 (doA 3 t al ah bl bh).2.1], .bool (doA 3 t al ah bl bh).2.2]) ∧ Q w w' := by
  have e : doA 3 t al ah bl bh = (low t, high t, true) := by unfold doA; rw [if_neg (by rw [ra]; simp), if_neg (by omega), if_neg (by rw [rb]; simp)]; exact mul_big t al ah bl bh h1 ra rb h2 h3
  rw [e]
  clear e
  have R := hideIt (Q.refl (bx3 w al ah bl bh))
  have HA : Hid (∀ x, Calls Try.prog 40 #[.int .i64 t, spV al ah] x fun e w' => e = .returned (.bool true) ∧ Q x w') := fun x => by have h := rright_any t al ah x h0; rw [ra] at h; exact h
  have HB : Hid (∀ x, Calls Try.prog 40 #[.int .i64 t, spV bl bh] x fun e w' => e = .returned (.bool true) ∧ Q x w') := fun x => by have h := rright_any t bl bh x h0; rw [rb] at h; exact h
  have HF : Hid (∀ x, Calls Try.prog 17 #[.int .i64 t] x fun e w' => e = .returned (.agg #[.int .i64 (low t), .int .i64 (high t)]) ∧ Q x w') := fun x => rfull_any t x h0
  have hF : Hid (∀ y, Q (bx3 w al ah bl bh) y → y.cell? ⟨w.heap.size, 0, none⟩ = some (.int .i64 al) ∧ y.cell? ⟨w.heap.size, 1, none⟩ = some (.int .i64 ah) ∧ y.cell? ⟨w.heap.size + 1, 0, none⟩ = some (.int .i64 bl) ∧ y.cell? ⟨w.heap.size + 1, 1, none⟩ = some (.int .i64 bh)) := fun y h => (fun y (h : Q (bx3 w al ah bl bh) y) => (⟨h.c6.1, h.c6.2.1, h.c6.2.2.1, h.c6.2.2.2.1⟩ : y.cell? ⟨w.heap.size, 0, none⟩ = some (.int .i64 al) ∧ y.cell? ⟨w.heap.size, 1, none⟩ = some (.int .i64 ah) ∧ y.cell? ⟨w.heap.size + 1, 0, none⟩ = some (.int .i64 bl) ∧ y.cell? ⟨w.heap.size + 1, 1, none⟩ = some (.int .i64 bh))) y h
  generalize low t = tl at *
  generalize high t = th at *
  have d1 : (t == 5) = true := by simpa using h1
  have d2 : decide (0 < ah) = true := by simpa using h2
  have d3 : decide ((9223372036854775807 : Int).tdiv ah < bh) = true := by simpa using h3
  have hk : (ah == 0) = false := by simp; omega
  have hk0 : (ah = 0) = False := by simp; omega
  have qb := quo_bd ah h2
  obtain ⟨qb1, qb2⟩ := qb
  have wq : IntKind.i64.wrap ((9223372036854775807 : Int).tdiv ah) = (9223372036854775807 : Int).tdiv ah := by simp [IntKind.wrap_i64]; omega
  clear h1
  go_enter Try.func11, Try.ntmps11
  go_wp2_with (first | (go_at_call_of 40 (Value.agg #[Value.int IntKind.i64 al, Value.int IntKind.i64 ah]); refine (HA.out _).mono ?_; rintro e x ⟨rfl, q⟩; (try clear c0 c1 c2 c3 c4 c5 f4 f5); have R := hideIt (R.out.trans q); clear q; obtain ⟨c0, c1, c2, c3, c4, c5, f4, f5⟩ := R.out.c6) | (go_at_call 40; refine (HB.out _).mono ?_; rintro e x ⟨rfl, q⟩; (try clear c0 c1 c2 c3 c4 c5 f4 f5); have R := hideIt (R.out.trans q); clear q; obtain ⟨c0, c1, c2, c3, c4, c5, f4, f5⟩ := R.out.c6))
  clear c0 c1 c2 c3 c4 c5 f4 f5
  refine wp_region_held_drew (S := (fun y : World => Q (bx3 w al ah bl bh) y ∧ y.cell? ⟨w.heap.size, 0, none⟩ = some (.int .i64 al) ∧ y.cell? ⟨w.heap.size, 1, none⟩ = some (.int .i64 ah) ∧ y.cell? ⟨w.heap.size + 1, 0, none⟩ = some (.int .i64 bl) ∧ y.cell? ⟨w.heap.size + 1, 1, none⟩ = some (.int .i64 bh))) (by kernel_rfl) (⟨Q.drew R.out, hF.out _ (Q.drew R.out)⟩) (fun hHeld => ?_)
  refine wpAnyH_take (i := 0) (oi := ⟨_, _, _, _, _, _⟩) (v := ?_) rfl (by kernel_rfl) (by kernel_rfl) (by kernel_rfl) (fun _ _ _ h => h) (Or.inl ⟨by rfl, ?_⟩) (by assumption) ?_
  rotate_left 1
  · intro w hSw; (try dsimp only at hSw); go_simp; all_goals with_reducible rfl
  try simp only [Act.put, List.setIfInBounds_toArray, List.set_cons_zero, List.set_cons_succ]
  refine wpAnyH_take (i := 1) (oi := ⟨_, _, _, _, _, _⟩) (v := ?_) rfl (by kernel_rfl) (by kernel_rfl) (by kernel_rfl) (fun _ _ _ h => h) (Or.inl ⟨by rfl, ?_⟩) (by assumption) ?_
  rotate_left 1
  · intro w hSw; (try dsimp only at hSw); go_simp; all_goals with_reducible rfl
  try simp only [Act.put, List.setIfInBounds_toArray, List.set_cons_zero, List.set_cons_succ]
  refine wpAnyH_take (i := 2) (oi := ⟨_, _, _, _, _, _⟩) (v := ?_) rfl (by kernel_rfl) (by kernel_rfl) (by kernel_rfl) (fun _ _ _ h => h) (Or.inl ⟨by rfl, ?_⟩) (by assumption) ?_
  rotate_left 1
  · intro w hSw; (try dsimp only at hSw); go_simp; all_goals with_reducible rfl
  try simp only [Act.put, List.setIfInBounds_toArray, List.set_cons_zero, List.set_cons_succ]
  refine wpAnyH_take (i := 3) (oi := ⟨_, _, _, _, _, _⟩) (v := ?_) rfl (by kernel_rfl) (by kernel_rfl) (by kernel_rfl) (fun _ _ _ h => h) (Or.inl ⟨by rfl, ?_⟩) (by assumption) ?_
  rotate_left 1
  · intro w hSw; (try dsimp only at hSw); go_simp; all_goals with_reducible rfl
  try simp only [Act.put, List.setIfInBounds_toArray, List.set_cons_zero, List.set_cons_succ]
  refine wpAnyH_take (i := 4) (oi := ⟨_, _, _, _, _, _⟩) (v := ?_) rfl (by kernel_rfl) (by kernel_rfl) (by kernel_rfl) (fun _ _ _ h => h) (Or.inl ⟨by rfl, ?_⟩) (by assumption) ?_
  rotate_left 1
  · intro w hSw; (try dsimp only at hSw); go_simp; all_goals with_reducible rfl
  try simp only [Act.put, List.setIfInBounds_toArray, List.set_cons_zero, List.set_cons_succ]
  refine wpAnyH_take (i := 5) (oi := ⟨_, _, _, _, _, _⟩) (v := ?_) rfl (by kernel_rfl) (by kernel_rfl) (by kernel_rfl) (fun _ _ _ h => h) (Or.inl ⟨by rfl, ?_⟩) (by assumption) ?_
  rotate_left 1
  · intro w hSw; (try dsimp only at hSw); go_simp; all_goals with_reducible rfl
  try simp only [Act.put, List.setIfInBounds_toArray, List.set_cons_zero, List.set_cons_succ]
  refine wpAnyH_take (i := 6) (oi := ⟨_, _, _, _, _, _⟩) (v := ?_) rfl (by kernel_rfl) (by kernel_rfl) (by kernel_rfl) (fun _ _ _ h => h) (Or.inl ⟨by rfl, ?_⟩) (by assumption) ?_
  rotate_left 1
  · intro w hSw; (try dsimp only at hSw); go_simp; all_goals with_reducible rfl
  try simp only [Act.put, List.setIfInBounds_toArray, List.set_cons_zero, List.set_cons_succ]
  refine wpAnyH_take (i := 7) (oi := ⟨_, _, _, _, _, _⟩) (v := ?_) rfl (by kernel_rfl) (by kernel_rfl) (by kernel_rfl) (fun _ _ _ h => h) (Or.inl ⟨by rfl, ?_⟩) (by assumption) ?_
  rotate_left 1
  · intro w hSw; (try dsimp only at hSw); go_simp; all_goals with_reducible rfl
  try simp only [Act.put, List.setIfInBounds_toArray, List.set_cons_zero, List.set_cons_succ]
  refine wpAnyH_take (i := 8) (oi := ⟨_, _, _, _, _, _⟩) (v := ?_) rfl (by kernel_rfl) (by kernel_rfl) (by kernel_rfl) (fun _ _ _ h => h) (Or.inl ⟨by rfl, ?_⟩) (by assumption) ?_
  rotate_left 1
  · intro w hSw; (try dsimp only at hSw); go_simp; all_goals with_reducible rfl
  try simp only [Act.put, List.setIfInBounds_toArray, List.set_cons_zero, List.set_cons_succ]
  refine wpAnyH_take (i := 9) (oi := ⟨_, _, _, _, _, _⟩) (v := ?_) rfl (by kernel_rfl) (by kernel_rfl) (by kernel_rfl) (fun _ _ _ h => h) (Or.inl ⟨by rfl, ?_⟩) (by assumption) ?_
  rotate_left 1
  · intro w hSw; (try dsimp only at hSw); go_simp; all_goals with_reducible rfl
  try simp only [Act.put, List.setIfInBounds_toArray, List.set_cons_zero, List.set_cons_succ]
  refine wpAnyH_take (i := 10) (oi := ⟨_, _, _, _, _, _⟩) (v := ?_) rfl (by kernel_rfl) (by kernel_rfl) (by kernel_rfl) (fun _ _ _ h => h) (Or.inl ⟨by rfl, ?_⟩) (by assumption) ?_
  rotate_left 1
  · intro w hSw; (try dsimp only at hSw); go_simp; all_goals with_reducible rfl
  try simp only [Act.put, List.setIfInBounds_toArray, List.set_cons_zero, List.set_cons_succ]
  refine wpAnyH_take (i := 11) (oi := ⟨_, _, _, _, _, _⟩) (v := ?_) rfl (by kernel_rfl) (by kernel_rfl) (by kernel_rfl) (fun _ _ _ h => h) (Or.inl ⟨by rfl, ?_⟩) (by assumption) ?_
  rotate_left 1
  · intro w hSw; (try dsimp only at hSw); go_simp; all_goals with_reducible rfl
  try simp only [Act.put, List.setIfInBounds_toArray, List.set_cons_zero, List.set_cons_succ]
  refine wpAnyH_take (i := 12) (oi := ⟨_, _, _, _, _, _⟩) (v := ?_) rfl (by kernel_rfl) (by kernel_rfl) (by kernel_rfl) (fun _ _ _ h => h) (Or.inl ⟨by rfl, ?_⟩) (by assumption) ?_
  rotate_left 1
  · intro w hSw; (try dsimp only at hSw); go_simp; all_goals with_reducible rfl
  try simp only [Act.put, List.setIfInBounds_toArray, List.set_cons_zero, List.set_cons_succ]
  refine wpAnyH_take (i := 13) (oi := ⟨_, _, _, _, _, _⟩) (v := ?_) rfl (by kernel_rfl) (by kernel_rfl) (by kernel_rfl) (fun _ _ _ h => h) (Or.inl ⟨by rfl, ?_⟩) (by assumption) ?_
  rotate_left 1
  · intro w hSw; (try dsimp only at hSw); go_simp; all_goals with_reducible rfl
  try simp only [Act.put, List.setIfInBounds_toArray, List.set_cons_zero, List.set_cons_succ]
  refine wpAnyH_take (i := 14) (oi := ⟨_, _, _, _, _, _⟩) (v := ?_) rfl (by kernel_rfl) (by kernel_rfl) (by kernel_rfl) (fun _ _ _ h => h) (Or.inl ⟨by rfl, ?_⟩) (by assumption) ?_
  rotate_left 1
  · intro w hSw; (try dsimp only at hSw); go_simp; all_goals with_reducible rfl
  try simp only [Act.put, List.setIfInBounds_toArray, List.set_cons_zero, List.set_cons_succ]
  refine wpAnyH_done (by kernel_rfl) ?_ _
  have R := hideIt (Q.drew R.out)
  go_wp2_with (go_at_call 17; refine (HF.out _).mono ?_; rintro e x ⟨rfl, q⟩; (try clear c0 c1 c2 c3 c4 c5 f4 f5); have R := hideIt (R.out.trans q); clear q; obtain ⟨c0, c1, c2, c3, c4, c5, f4, f5⟩ := R.out.c6)
  exact bodyPost_ret (v := .tuple #[spV tl th, .bool true]) (by simp [results, Try.results11, go_sem, c4, c5]) rfl ⟨rfl, q_set3 R.out _ _⟩

set_option maxRecDepth 100000 in
set_option maxHeartbeats 4000000 in
theorem rd_4 (t al ah bl bh : Int) (w : World) (h0 : 0 ≤ t) (ra : rtB t al ah = true) (rb : rtB t bl bh = true) : Calls Try.prog 11 #[.int .i64 4, .int .i64 t, spV al ah, spV bl bh] w fun e w' => e = .returned (.tuple #[.agg #[.int .i64 (doA 4 t al ah bl bh).1, .int .i64 (doA 4 t al ah bl bh).2.1], .bool (doA 4 t al ah bl bh).2.2]) ∧ Q w w' := by
  have e : doA 4 t al ah bl bh = divA 4 t al ah bl bh := by unfold doA; rw [if_neg (by rw [ra]; simp), if_neg (by omega), if_neg (by rw [rb]; simp)]; rfl
  rw [e]
  clear e
  have R := hideIt (Q.refl (bx3 w al ah bl bh))
  have HA : Hid (∀ x, Calls Try.prog 40 #[.int .i64 t, spV al ah] x fun e w' => e = .returned (.bool true) ∧ Q x w') := fun x => by have h := rright_any t al ah x h0; rw [ra] at h; exact h
  have HB : Hid (∀ x, Calls Try.prog 40 #[.int .i64 t, spV bl bh] x fun e w' => e = .returned (.bool true) ∧ Q x w') := fun x => by have h := rright_any t bl bh x h0; rw [rb] at h; exact h
  obtain ⟨a1, a2, hab⟩ := rtB_nb h0 ra
  obtain ⟨b1, b2, hbb⟩ := rtB_nb h0 rb
  have HD := hideIt (fun x => rdivide_any 4 t al ah bl bh x h0 (by omega) (rtB_bd h0 ra).2.2.1 hab hbb a1 a2 b1 b2)
  generalize (divA 4 t al ah bl bh).1 = z1 at *
  generalize (divA 4 t al ah bl bh).2.1 = z2 at *
  generalize (divA 4 t al ah bl bh).2.2 = z3 at *
  go_enter Try.func11, Try.ntmps11
  go_wp2_with (first | (go_at_call_of 40 (Value.agg #[Value.int IntKind.i64 al, Value.int IntKind.i64 ah]); refine (HA.out _).mono ?_; rintro e x ⟨rfl, q⟩; (try clear c0 c1 c2 c3 c4 c5 f4 f5); have R := hideIt (R.out.trans q); clear q; obtain ⟨c0, c1, c2, c3, c4, c5, f4, f5⟩ := R.out.c6) | (go_at_call 40; refine (HB.out _).mono ?_; rintro e x ⟨rfl, q⟩; (try clear c0 c1 c2 c3 c4 c5 f4 f5); have R := hideIt (R.out.trans q); clear q; obtain ⟨c0, c1, c2, c3, c4, c5, f4, f5⟩ := R.out.c6) | (go_at_call 46; refine (HD.out _).mono ?_; rintro e x ⟨rfl, q⟩; (try clear c0 c1 c2 c3 c4 c5 f4 f5); have R := hideIt (R.out.trans q); clear q; obtain ⟨c0, c1, c2, c3, c4, c5, f4, f5⟩ := R.out.c6))
  exact bodyPost_ret (v := .tuple #[spV z1 z2, .bool z3]) (by simp [results, Try.results11, go_sem, c4, c5]) rfl ⟨rfl, q_set3 R.out _ _⟩

set_option maxRecDepth 100000 in
set_option maxHeartbeats 4000000 in
theorem rd_5 (t al ah bl bh : Int) (w : World) (h0 : 0 ≤ t) (ra : rtB t al ah = true) (rb : rtB t bl bh = true) : Calls Try.prog 11 #[.int .i64 5, .int .i64 t, spV al ah, spV bl bh] w fun e w' => e = .returned (.tuple #[.agg #[.int .i64 (doA 5 t al ah bl bh).1, .int .i64 (doA 5 t al ah bl bh).2.1], .bool (doA 5 t al ah bl bh).2.2]) ∧ Q w w' := by
  have e : doA 5 t al ah bl bh = divA 5 t al ah bl bh := by unfold doA; rw [if_neg (by rw [ra]; simp), if_neg (by omega), if_neg (by rw [rb]; simp)]; rfl
  rw [e]
  clear e
  have R := hideIt (Q.refl (bx3 w al ah bl bh))
  have HA : Hid (∀ x, Calls Try.prog 40 #[.int .i64 t, spV al ah] x fun e w' => e = .returned (.bool true) ∧ Q x w') := fun x => by have h := rright_any t al ah x h0; rw [ra] at h; exact h
  have HB : Hid (∀ x, Calls Try.prog 40 #[.int .i64 t, spV bl bh] x fun e w' => e = .returned (.bool true) ∧ Q x w') := fun x => by have h := rright_any t bl bh x h0; rw [rb] at h; exact h
  obtain ⟨a1, a2, hab⟩ := rtB_nb h0 ra
  obtain ⟨b1, b2, hbb⟩ := rtB_nb h0 rb
  have HD := hideIt (fun x => rdivide_any 5 t al ah bl bh x h0 (by omega) (rtB_bd h0 ra).2.2.1 hab hbb a1 a2 b1 b2)
  generalize (divA 5 t al ah bl bh).1 = z1 at *
  generalize (divA 5 t al ah bl bh).2.1 = z2 at *
  generalize (divA 5 t al ah bl bh).2.2 = z3 at *
  go_enter Try.func11, Try.ntmps11
  go_wp2_with (first | (go_at_call_of 40 (Value.agg #[Value.int IntKind.i64 al, Value.int IntKind.i64 ah]); refine (HA.out _).mono ?_; rintro e x ⟨rfl, q⟩; (try clear c0 c1 c2 c3 c4 c5 f4 f5); have R := hideIt (R.out.trans q); clear q; obtain ⟨c0, c1, c2, c3, c4, c5, f4, f5⟩ := R.out.c6) | (go_at_call 40; refine (HB.out _).mono ?_; rintro e x ⟨rfl, q⟩; (try clear c0 c1 c2 c3 c4 c5 f4 f5); have R := hideIt (R.out.trans q); clear q; obtain ⟨c0, c1, c2, c3, c4, c5, f4, f5⟩ := R.out.c6) | (go_at_call 46; refine (HD.out _).mono ?_; rintro e x ⟨rfl, q⟩; (try clear c0 c1 c2 c3 c4 c5 f4 f5); have R := hideIt (R.out.trans q); clear q; obtain ⟨c0, c1, c2, c3, c4, c5, f4, f5⟩ := R.out.c6))
  exact bodyPost_ret (v := .tuple #[spV z1 z2, .bool z3]) (by simp [results, Try.results11, go_sem, c4, c5]) rfl ⟨rfl, q_set3 R.out _ _⟩

set_option maxRecDepth 100000 in
set_option maxHeartbeats 4000000 in
theorem rd_6a (t al ah bl bh : Int) (w : World) (h0 : 0 ≤ t) (ra : rtB t al ah = true) (rb : rtB t bl bh = true) (hb : al < 0) : Calls Try.prog 11 #[.int .i64 6, .int .i64 t, spV al ah, spV bl bh] w fun e w' => e = .returned (.tuple #[.agg #[.int .i64 (doA 6 t al ah bl bh).1, .int .i64 (doA 6 t al ah bl bh).2.1], .bool (doA 6 t al ah bl bh).2.2]) ∧ Q w w' := by
  have e : doA 6 t al ah bl bh = (low t, high t, true) := by unfold doA; rw [if_neg (by rw [ra]; simp), if_neg (by omega), if_neg (by rw [rb]; simp)]; show _ = _; rw [if_neg (by omega), if_neg (by omega), if_pos (by omega)]; unfold biL biH; rw [show (decide (al < 0) || decide (bl < 0)) = true by simp; omega]; rfl
  rw [e]
  clear e
  have R := hideIt (Q.refl (bx3 w al ah bl bh))
  have HA : Hid (∀ x, Calls Try.prog 40 #[.int .i64 t, spV al ah] x fun e w' => e = .returned (.bool true) ∧ Q x w') := fun x => by have h := rright_any t al ah x h0; rw [ra] at h; exact h
  have HB : Hid (∀ x, Calls Try.prog 40 #[.int .i64 t, spV bl bh] x fun e w' => e = .returned (.bool true) ∧ Q x w') := fun x => by have h := rright_any t bl bh x h0; rw [rb] at h; exact h
  have HF : Hid (∀ x, Calls Try.prog 17 #[.int .i64 t] x fun e w' => e = .returned (.agg #[.int .i64 (low t), .int .i64 (high t)]) ∧ Q x w') := fun x => rfull_any t x h0
  generalize low t = tl at *
  generalize high t = th at *
  have d1 : decide (al < 0) = true := by simpa using hb
  go_enter Try.func11, Try.ntmps11
  go_wp2_with (first | (go_at_call_of 40 (Value.agg #[Value.int IntKind.i64 al, Value.int IntKind.i64 ah]); refine (HA.out _).mono ?_; rintro e x ⟨rfl, q⟩; (try clear c0 c1 c2 c3 c4 c5 f4 f5); have R := hideIt (R.out.trans q); clear q; obtain ⟨c0, c1, c2, c3, c4, c5, f4, f5⟩ := R.out.c6) | (go_at_call 40; refine (HB.out _).mono ?_; rintro e x ⟨rfl, q⟩; (try clear c0 c1 c2 c3 c4 c5 f4 f5); have R := hideIt (R.out.trans q); clear q; obtain ⟨c0, c1, c2, c3, c4, c5, f4, f5⟩ := R.out.c6) | (go_at_call 17; refine (HF.out _).mono ?_; rintro e x ⟨rfl, q⟩; (try clear c0 c1 c2 c3 c4 c5 f4 f5); have R := hideIt (R.out.trans q); clear q; obtain ⟨c0, c1, c2, c3, c4, c5, f4, f5⟩ := R.out.c6))
  exact bodyPost_ret (v := .tuple #[spV tl th, .bool true]) (by simp [results, Try.results11, go_sem, c4, c5]) rfl ⟨rfl, q_set3 R.out _ _⟩

set_option maxRecDepth 100000 in
set_option maxHeartbeats 4000000 in
theorem rd_6b (t al ah bl bh : Int) (w : World) (h0 : 0 ≤ t) (ra : rtB t al ah = true) (rb : rtB t bl bh = true) (hb : 0 ≤ al) (hb2 : bl < 0) : Calls Try.prog 11 #[.int .i64 6, .int .i64 t, spV al ah, spV bl bh] w fun e w' => e = .returned (.tuple #[.agg #[.int .i64 (doA 6 t al ah bl bh).1, .int .i64 (doA 6 t al ah bl bh).2.1], .bool (doA 6 t al ah bl bh).2.2]) ∧ Q w w' := by
  have e : doA 6 t al ah bl bh = (low t, high t, true) := by unfold doA; rw [if_neg (by rw [ra]; simp), if_neg (by omega), if_neg (by rw [rb]; simp)]; show _ = _; rw [if_neg (by omega), if_neg (by omega), if_pos (by omega)]; unfold biL biH; rw [show (decide (al < 0) || decide (bl < 0)) = true by simp; omega]; rfl
  rw [e]
  clear e
  have R := hideIt (Q.refl (bx3 w al ah bl bh))
  have HA : Hid (∀ x, Calls Try.prog 40 #[.int .i64 t, spV al ah] x fun e w' => e = .returned (.bool true) ∧ Q x w') := fun x => by have h := rright_any t al ah x h0; rw [ra] at h; exact h
  have HB : Hid (∀ x, Calls Try.prog 40 #[.int .i64 t, spV bl bh] x fun e w' => e = .returned (.bool true) ∧ Q x w') := fun x => by have h := rright_any t bl bh x h0; rw [rb] at h; exact h
  have HF : Hid (∀ x, Calls Try.prog 17 #[.int .i64 t] x fun e w' => e = .returned (.agg #[.int .i64 (low t), .int .i64 (high t)]) ∧ Q x w') := fun x => rfull_any t x h0
  generalize low t = tl at *
  generalize high t = th at *
  have d1 : decide (al < 0) = false := by simp; omega
  have d2 : decide (bl < 0) = true := by simpa using hb2
  go_enter Try.func11, Try.ntmps11
  go_wp2_with (first | (go_at_call_of 40 (Value.agg #[Value.int IntKind.i64 al, Value.int IntKind.i64 ah]); refine (HA.out _).mono ?_; rintro e x ⟨rfl, q⟩; (try clear c0 c1 c2 c3 c4 c5 f4 f5); have R := hideIt (R.out.trans q); clear q; obtain ⟨c0, c1, c2, c3, c4, c5, f4, f5⟩ := R.out.c6) | (go_at_call 40; refine (HB.out _).mono ?_; rintro e x ⟨rfl, q⟩; (try clear c0 c1 c2 c3 c4 c5 f4 f5); have R := hideIt (R.out.trans q); clear q; obtain ⟨c0, c1, c2, c3, c4, c5, f4, f5⟩ := R.out.c6) | (go_at_call 17; refine (HF.out _).mono ?_; rintro e x ⟨rfl, q⟩; (try clear c0 c1 c2 c3 c4 c5 f4 f5); have R := hideIt (R.out.trans q); clear q; obtain ⟨c0, c1, c2, c3, c4, c5, f4, f5⟩ := R.out.c6))
  exact bodyPost_ret (v := .tuple #[spV tl th, .bool true]) (by simp [results, Try.results11, go_sem, c4, c5]) rfl ⟨rfl, q_set3 R.out _ _⟩

set_option maxRecDepth 100000 in
set_option maxHeartbeats 4000000 in
theorem rd_6c (t al ah bl bh : Int) (w : World) (h0 : 0 ≤ t) (ra : rtB t al ah = true) (rb : rtB t bl bh = true) (hb : 0 ≤ al) (hb2 : 0 ≤ bl) : Calls Try.prog 11 #[.int .i64 6, .int .i64 t, spV al ah, spV bl bh] w fun e w' => e = .returned (.tuple #[.agg #[.int .i64 (doA 6 t al ah bl bh).1, .int .i64 (doA 6 t al ah bl bh).2.1], .bool (doA 6 t al ah bl bh).2.2]) ∧ Q w w' := by
  have e : doA 6 t al ah bl bh = (0, min ah bh, true) := by unfold doA; rw [if_neg (by rw [ra]; simp), if_neg (by omega), if_neg (by rw [rb]; simp)]; show _ = _; rw [if_neg (by omega), if_neg (by omega), if_pos (by omega)]; unfold biL biH; rw [show (decide (al < 0) || decide (bl < 0)) = false by simp; omega]; rfl
  rw [e]
  clear e
  have R := hideIt (Q.refl (bx3 w al ah bl bh))
  have HA : Hid (∀ x, Calls Try.prog 40 #[.int .i64 t, spV al ah] x fun e w' => e = .returned (.bool true) ∧ Q x w') := fun x => by have h := rright_any t al ah x h0; rw [ra] at h; exact h
  have HB : Hid (∀ x, Calls Try.prog 40 #[.int .i64 t, spV bl bh] x fun e w' => e = .returned (.bool true) ∧ Q x w') := fun x => by have h := rright_any t bl bh x h0; rw [rb] at h; exact h
  obtain ⟨⟨a11, a12⟩, ⟨a21, a22⟩, hab⟩ := rtB_nb h0 ra
  obtain ⟨⟨b11, b12⟩, ⟨b21, b22⟩, hbb⟩ := rtB_nb h0 rb
  have d1 : decide (al < 0) = false := by simp; omega
  have d2 : decide (bl < 0) = false := by simp; omega
  have HM := hideIt (fun x => rless_any ah bh x)
  generalize min ah bh = v at *
  go_enter Try.func11, Try.ntmps11
  go_wp2_with (first | (go_at_call_of 40 (Value.agg #[Value.int IntKind.i64 al, Value.int IntKind.i64 ah]); refine (HA.out _).mono ?_; rintro e x ⟨rfl, q⟩; (try clear c0 c1 c2 c3 c4 c5 f4 f5); have R := hideIt (R.out.trans q); clear q; obtain ⟨c0, c1, c2, c3, c4, c5, f4, f5⟩ := R.out.c6) | (go_at_call 40; refine (HB.out _).mono ?_; rintro e x ⟨rfl, q⟩; (try clear c0 c1 c2 c3 c4 c5 f4 f5); have R := hideIt (R.out.trans q); clear q; obtain ⟨c0, c1, c2, c3, c4, c5, f4, f5⟩ := R.out.c6) | (go_at_call 47; refine (HM.out _).mono ?_; rintro e x ⟨rfl, rfl⟩))
  exact bodyPost_ret (v := .tuple #[spV 0 v, .bool true]) (by simp [results, Try.results11, go_sem, c4, c5]) rfl ⟨rfl, q_set3 R.out _ _⟩

set_option maxRecDepth 100000 in
set_option maxHeartbeats 4000000 in
theorem rd_7a (t al ah bl bh : Int) (w : World) (h0 : 0 ≤ t) (ra : rtB t al ah = true) (rb : rtB t bl bh = true) (hb : al < 0) : Calls Try.prog 11 #[.int .i64 7, .int .i64 t, spV al ah, spV bl bh] w fun e w' => e = .returned (.tuple #[.agg #[.int .i64 (doA 7 t al ah bl bh).1, .int .i64 (doA 7 t al ah bl bh).2.1], .bool (doA 7 t al ah bl bh).2.2]) ∧ Q w w' := by
  have e : doA 7 t al ah bl bh = (low t, high t, true) := by unfold doA; rw [if_neg (by rw [ra]; simp), if_neg (by omega), if_neg (by rw [rb]; simp)]; show _ = _; rw [if_neg (by omega), if_neg (by omega), if_pos (by omega)]; unfold biL biH; rw [show (decide (al < 0) || decide (bl < 0)) = true by simp; omega]; rfl
  rw [e]
  clear e
  have R := hideIt (Q.refl (bx3 w al ah bl bh))
  have HA : Hid (∀ x, Calls Try.prog 40 #[.int .i64 t, spV al ah] x fun e w' => e = .returned (.bool true) ∧ Q x w') := fun x => by have h := rright_any t al ah x h0; rw [ra] at h; exact h
  have HB : Hid (∀ x, Calls Try.prog 40 #[.int .i64 t, spV bl bh] x fun e w' => e = .returned (.bool true) ∧ Q x w') := fun x => by have h := rright_any t bl bh x h0; rw [rb] at h; exact h
  have HF : Hid (∀ x, Calls Try.prog 17 #[.int .i64 t] x fun e w' => e = .returned (.agg #[.int .i64 (low t), .int .i64 (high t)]) ∧ Q x w') := fun x => rfull_any t x h0
  generalize low t = tl at *
  generalize high t = th at *
  have d1 : decide (al < 0) = true := by simpa using hb
  go_enter Try.func11, Try.ntmps11
  go_wp2_with (first | (go_at_call_of 40 (Value.agg #[Value.int IntKind.i64 al, Value.int IntKind.i64 ah]); refine (HA.out _).mono ?_; rintro e x ⟨rfl, q⟩; (try clear c0 c1 c2 c3 c4 c5 f4 f5); have R := hideIt (R.out.trans q); clear q; obtain ⟨c0, c1, c2, c3, c4, c5, f4, f5⟩ := R.out.c6) | (go_at_call 40; refine (HB.out _).mono ?_; rintro e x ⟨rfl, q⟩; (try clear c0 c1 c2 c3 c4 c5 f4 f5); have R := hideIt (R.out.trans q); clear q; obtain ⟨c0, c1, c2, c3, c4, c5, f4, f5⟩ := R.out.c6) | (go_at_call 17; refine (HF.out _).mono ?_; rintro e x ⟨rfl, q⟩; (try clear c0 c1 c2 c3 c4 c5 f4 f5); have R := hideIt (R.out.trans q); clear q; obtain ⟨c0, c1, c2, c3, c4, c5, f4, f5⟩ := R.out.c6))
  exact bodyPost_ret (v := .tuple #[spV tl th, .bool true]) (by simp [results, Try.results11, go_sem, c4, c5]) rfl ⟨rfl, q_set3 R.out _ _⟩

set_option maxRecDepth 100000 in
set_option maxHeartbeats 4000000 in
theorem rd_7b (t al ah bl bh : Int) (w : World) (h0 : 0 ≤ t) (ra : rtB t al ah = true) (rb : rtB t bl bh = true) (hb : 0 ≤ al) (hb2 : bl < 0) : Calls Try.prog 11 #[.int .i64 7, .int .i64 t, spV al ah, spV bl bh] w fun e w' => e = .returned (.tuple #[.agg #[.int .i64 (doA 7 t al ah bl bh).1, .int .i64 (doA 7 t al ah bl bh).2.1], .bool (doA 7 t al ah bl bh).2.2]) ∧ Q w w' := by
  have e : doA 7 t al ah bl bh = (low t, high t, true) := by unfold doA; rw [if_neg (by rw [ra]; simp), if_neg (by omega), if_neg (by rw [rb]; simp)]; show _ = _; rw [if_neg (by omega), if_neg (by omega), if_pos (by omega)]; unfold biL biH; rw [show (decide (al < 0) || decide (bl < 0)) = true by simp; omega]; rfl
  rw [e]
  clear e
  have R := hideIt (Q.refl (bx3 w al ah bl bh))
  have HA : Hid (∀ x, Calls Try.prog 40 #[.int .i64 t, spV al ah] x fun e w' => e = .returned (.bool true) ∧ Q x w') := fun x => by have h := rright_any t al ah x h0; rw [ra] at h; exact h
  have HB : Hid (∀ x, Calls Try.prog 40 #[.int .i64 t, spV bl bh] x fun e w' => e = .returned (.bool true) ∧ Q x w') := fun x => by have h := rright_any t bl bh x h0; rw [rb] at h; exact h
  have HF : Hid (∀ x, Calls Try.prog 17 #[.int .i64 t] x fun e w' => e = .returned (.agg #[.int .i64 (low t), .int .i64 (high t)]) ∧ Q x w') := fun x => rfull_any t x h0
  generalize low t = tl at *
  generalize high t = th at *
  have d1 : decide (al < 0) = false := by simp; omega
  have d2 : decide (bl < 0) = true := by simpa using hb2
  go_enter Try.func11, Try.ntmps11
  go_wp2_with (first | (go_at_call_of 40 (Value.agg #[Value.int IntKind.i64 al, Value.int IntKind.i64 ah]); refine (HA.out _).mono ?_; rintro e x ⟨rfl, q⟩; (try clear c0 c1 c2 c3 c4 c5 f4 f5); have R := hideIt (R.out.trans q); clear q; obtain ⟨c0, c1, c2, c3, c4, c5, f4, f5⟩ := R.out.c6) | (go_at_call 40; refine (HB.out _).mono ?_; rintro e x ⟨rfl, q⟩; (try clear c0 c1 c2 c3 c4 c5 f4 f5); have R := hideIt (R.out.trans q); clear q; obtain ⟨c0, c1, c2, c3, c4, c5, f4, f5⟩ := R.out.c6) | (go_at_call 17; refine (HF.out _).mono ?_; rintro e x ⟨rfl, q⟩; (try clear c0 c1 c2 c3 c4 c5 f4 f5); have R := hideIt (R.out.trans q); clear q; obtain ⟨c0, c1, c2, c3, c4, c5, f4, f5⟩ := R.out.c6))
  exact bodyPost_ret (v := .tuple #[spV tl th, .bool true]) (by simp [results, Try.results11, go_sem, c4, c5]) rfl ⟨rfl, q_set3 R.out _ _⟩

set_option maxRecDepth 100000 in
set_option maxHeartbeats 4000000 in
theorem rd_7c (t al ah bl bh : Int) (w : World) (h0 : 0 ≤ t) (ra : rtB t al ah = true) (rb : rtB t bl bh = true) (hb : 0 ≤ al) (hb2 : 0 ≤ bl) : Calls Try.prog 11 #[.int .i64 7, .int .i64 t, spV al ah, spV bl bh] w fun e w' => e = .returned (.tuple #[.agg #[.int .i64 (doA 7 t al ah bl bh).1, .int .i64 (doA 7 t al ah bl bh).2.1], .bool (doA 7 t al ah bl bh).2.2]) ∧ Q w w' := by
  have e : doA 7 t al ah bl bh = (max al bl, onesP (max ah bh), true) := by unfold doA; rw [if_neg (by rw [ra]; simp), if_neg (by omega), if_neg (by rw [rb]; simp)]; show _ = _; rw [if_neg (by omega), if_neg (by omega), if_pos (by omega)]; unfold biL biH; rw [show (decide (al < 0) || decide (bl < 0)) = false by simp; omega]; rfl
  rw [e]
  clear e
  have R := hideIt (Q.refl (bx3 w al ah bl bh))
  have HA : Hid (∀ x, Calls Try.prog 40 #[.int .i64 t, spV al ah] x fun e w' => e = .returned (.bool true) ∧ Q x w') := fun x => by have h := rright_any t al ah x h0; rw [ra] at h; exact h
  have HB : Hid (∀ x, Calls Try.prog 40 #[.int .i64 t, spV bl bh] x fun e w' => e = .returned (.bool true) ∧ Q x w') := fun x => by have h := rright_any t bl bh x h0; rw [rb] at h; exact h
  obtain ⟨⟨a11, a12⟩, ⟨a21, a22⟩, hab⟩ := rtB_nb h0 ra
  obtain ⟨⟨b11, b12⟩, ⟨b21, b22⟩, hbb⟩ := rtB_nb h0 rb
  have d1 : decide (al < 0) = false := by simp; omega
  have d2 : decide (bl < 0) = false := by simp; omega
  have HM := hideIt (fun x => rmore_any ah bh x)
  have HM2 := hideIt (fun x => rmore_any al bl x)
  have HO := hideIt (fun x => rones_any (max ah bh) x (by omega) (by omega))
  generalize onesP (max ah bh) = v at *
  generalize max ah bh = mh at *
  generalize max al bl = ml at *
  go_enter Try.func11, Try.ntmps11
  go_wp2_with (first | (go_at_call_of 40 (Value.agg #[Value.int IntKind.i64 al, Value.int IntKind.i64 ah]); refine (HA.out _).mono ?_; rintro e x ⟨rfl, q⟩; (try clear c0 c1 c2 c3 c4 c5 f4 f5); have R := hideIt (R.out.trans q); clear q; obtain ⟨c0, c1, c2, c3, c4, c5, f4, f5⟩ := R.out.c6) | (go_at_call 40; refine (HB.out _).mono ?_; rintro e x ⟨rfl, q⟩; (try clear c0 c1 c2 c3 c4 c5 f4 f5); have R := hideIt (R.out.trans q); clear q; obtain ⟨c0, c1, c2, c3, c4, c5, f4, f5⟩ := R.out.c6))
  have g0 : ∀ o : Obj, (x.alloc o).cell? ⟨w.heap.size, 0, none⟩ = some (.int .i64 al) := fun o => (Q.alloc R.out o).c6.1
  have g2 : ∀ o : Obj, (x.alloc o).cell? ⟨w.heap.size + 1, 0, none⟩ = some (.int .i64 bl) := fun o => (Q.alloc R.out o).c6.2.2.1
  have g4 : ∀ o : Obj, (x.alloc o).cell? ⟨w.heap.size + 1 + 1, 0, none⟩ = some (.int .i64 0) := fun o => (Q.alloc R.out o).c6.2.2.2.2.1
  have g5 : ∀ o : Obj, (x.alloc o).cell? ⟨w.heap.size + 1 + 1, 1, none⟩ = some (.int .i64 0) := fun o => (Q.alloc R.out o).c6.2.2.2.2.2.1
  have g6 : ∀ o : Obj, (x.alloc o).frozen? ⟨w.heap.size + 1 + 1, 0, none⟩ = false := fun o => (Q.alloc R.out o).c6.2.2.2.2.2.2.1
  have g7 : ∀ o : Obj, (x.alloc o).frozen? ⟨w.heap.size + 1 + 1, 1, none⟩ = false := fun o => (Q.alloc R.out o).c6.2.2.2.2.2.2.2
  go_wp2_with (first | (go_at_call_of 49 (Value.int IntKind.i64 ah); refine (HM.out _).mono ?_; rintro e x ⟨rfl, rfl⟩) | (go_at_call_of 49 (Value.int IntKind.i64 al); refine (HM2.out _).mono ?_; rintro e x ⟨rfl, rfl⟩) | (go_at_call 48; refine (HO.out _).mono ?_; rintro e x ⟨rfl, rfl⟩))
  exact bodyPost_ret (v := .tuple #[spV ml v, .bool true]) (by simp [results, Try.results11, go_sem, g4, g5]) rfl ⟨rfl, q_set3 (Q.alloc R.out _) _ _⟩

set_option maxRecDepth 100000 in
set_option maxHeartbeats 4000000 in
theorem rd_8a (t al ah bl bh : Int) (w : World) (h0 : 0 ≤ t) (ra : rtB t al ah = true) (rb : rtB t bl bh = true) (hb : al < 0) : Calls Try.prog 11 #[.int .i64 8, .int .i64 t, spV al ah, spV bl bh] w fun e w' => e = .returned (.tuple #[.agg #[.int .i64 (doA 8 t al ah bl bh).1, .int .i64 (doA 8 t al ah bl bh).2.1], .bool (doA 8 t al ah bl bh).2.2]) ∧ Q w w' := by
  have e : doA 8 t al ah bl bh = (low t, high t, true) := by unfold doA; rw [if_neg (by rw [ra]; simp), if_neg (by omega), if_neg (by rw [rb]; simp)]; show _ = _; rw [if_neg (by omega), if_neg (by omega), if_pos (by omega)]; unfold biL biH; rw [show (decide (al < 0) || decide (bl < 0)) = true by simp; omega]; rfl
  rw [e]
  clear e
  have R := hideIt (Q.refl (bx3 w al ah bl bh))
  have HA : Hid (∀ x, Calls Try.prog 40 #[.int .i64 t, spV al ah] x fun e w' => e = .returned (.bool true) ∧ Q x w') := fun x => by have h := rright_any t al ah x h0; rw [ra] at h; exact h
  have HB : Hid (∀ x, Calls Try.prog 40 #[.int .i64 t, spV bl bh] x fun e w' => e = .returned (.bool true) ∧ Q x w') := fun x => by have h := rright_any t bl bh x h0; rw [rb] at h; exact h
  have HF : Hid (∀ x, Calls Try.prog 17 #[.int .i64 t] x fun e w' => e = .returned (.agg #[.int .i64 (low t), .int .i64 (high t)]) ∧ Q x w') := fun x => rfull_any t x h0
  generalize low t = tl at *
  generalize high t = th at *
  have d1 : decide (al < 0) = true := by simpa using hb
  go_enter Try.func11, Try.ntmps11
  go_wp2_with (first | (go_at_call_of 40 (Value.agg #[Value.int IntKind.i64 al, Value.int IntKind.i64 ah]); refine (HA.out _).mono ?_; rintro e x ⟨rfl, q⟩; (try clear c0 c1 c2 c3 c4 c5 f4 f5); have R := hideIt (R.out.trans q); clear q; obtain ⟨c0, c1, c2, c3, c4, c5, f4, f5⟩ := R.out.c6) | (go_at_call 40; refine (HB.out _).mono ?_; rintro e x ⟨rfl, q⟩; (try clear c0 c1 c2 c3 c4 c5 f4 f5); have R := hideIt (R.out.trans q); clear q; obtain ⟨c0, c1, c2, c3, c4, c5, f4, f5⟩ := R.out.c6) | (go_at_call 17; refine (HF.out _).mono ?_; rintro e x ⟨rfl, q⟩; (try clear c0 c1 c2 c3 c4 c5 f4 f5); have R := hideIt (R.out.trans q); clear q; obtain ⟨c0, c1, c2, c3, c4, c5, f4, f5⟩ := R.out.c6))
  exact bodyPost_ret (v := .tuple #[spV tl th, .bool true]) (by simp [results, Try.results11, go_sem, c4, c5]) rfl ⟨rfl, q_set3 R.out _ _⟩

set_option maxRecDepth 100000 in
set_option maxHeartbeats 4000000 in
theorem rd_8b (t al ah bl bh : Int) (w : World) (h0 : 0 ≤ t) (ra : rtB t al ah = true) (rb : rtB t bl bh = true) (hb : 0 ≤ al) (hb2 : bl < 0) : Calls Try.prog 11 #[.int .i64 8, .int .i64 t, spV al ah, spV bl bh] w fun e w' => e = .returned (.tuple #[.agg #[.int .i64 (doA 8 t al ah bl bh).1, .int .i64 (doA 8 t al ah bl bh).2.1], .bool (doA 8 t al ah bl bh).2.2]) ∧ Q w w' := by
  have e : doA 8 t al ah bl bh = (low t, high t, true) := by unfold doA; rw [if_neg (by rw [ra]; simp), if_neg (by omega), if_neg (by rw [rb]; simp)]; show _ = _; rw [if_neg (by omega), if_neg (by omega), if_pos (by omega)]; unfold biL biH; rw [show (decide (al < 0) || decide (bl < 0)) = true by simp; omega]; rfl
  rw [e]
  clear e
  have R := hideIt (Q.refl (bx3 w al ah bl bh))
  have HA : Hid (∀ x, Calls Try.prog 40 #[.int .i64 t, spV al ah] x fun e w' => e = .returned (.bool true) ∧ Q x w') := fun x => by have h := rright_any t al ah x h0; rw [ra] at h; exact h
  have HB : Hid (∀ x, Calls Try.prog 40 #[.int .i64 t, spV bl bh] x fun e w' => e = .returned (.bool true) ∧ Q x w') := fun x => by have h := rright_any t bl bh x h0; rw [rb] at h; exact h
  have HF : Hid (∀ x, Calls Try.prog 17 #[.int .i64 t] x fun e w' => e = .returned (.agg #[.int .i64 (low t), .int .i64 (high t)]) ∧ Q x w') := fun x => rfull_any t x h0
  generalize low t = tl at *
  generalize high t = th at *
  have d1 : decide (al < 0) = false := by simp; omega
  have d2 : decide (bl < 0) = true := by simpa using hb2
  go_enter Try.func11, Try.ntmps11
  go_wp2_with (first | (go_at_call_of 40 (Value.agg #[Value.int IntKind.i64 al, Value.int IntKind.i64 ah]); refine (HA.out _).mono ?_; rintro e x ⟨rfl, q⟩; (try clear c0 c1 c2 c3 c4 c5 f4 f5); have R := hideIt (R.out.trans q); clear q; obtain ⟨c0, c1, c2, c3, c4, c5, f4, f5⟩ := R.out.c6) | (go_at_call 40; refine (HB.out _).mono ?_; rintro e x ⟨rfl, q⟩; (try clear c0 c1 c2 c3 c4 c5 f4 f5); have R := hideIt (R.out.trans q); clear q; obtain ⟨c0, c1, c2, c3, c4, c5, f4, f5⟩ := R.out.c6) | (go_at_call 17; refine (HF.out _).mono ?_; rintro e x ⟨rfl, q⟩; (try clear c0 c1 c2 c3 c4 c5 f4 f5); have R := hideIt (R.out.trans q); clear q; obtain ⟨c0, c1, c2, c3, c4, c5, f4, f5⟩ := R.out.c6))
  exact bodyPost_ret (v := .tuple #[spV tl th, .bool true]) (by simp [results, Try.results11, go_sem, c4, c5]) rfl ⟨rfl, q_set3 R.out _ _⟩

set_option maxRecDepth 100000 in
set_option maxHeartbeats 4000000 in
theorem rd_8c (t al ah bl bh : Int) (w : World) (h0 : 0 ≤ t) (ra : rtB t al ah = true) (rb : rtB t bl bh = true) (hb : 0 ≤ al) (hb2 : 0 ≤ bl) : Calls Try.prog 11 #[.int .i64 8, .int .i64 t, spV al ah, spV bl bh] w fun e w' => e = .returned (.tuple #[.agg #[.int .i64 (doA 8 t al ah bl bh).1, .int .i64 (doA 8 t al ah bl bh).2.1], .bool (doA 8 t al ah bl bh).2.2]) ∧ Q w w' := by
  have e : doA 8 t al ah bl bh = (0, onesP (max ah bh), true) := by unfold doA; rw [if_neg (by rw [ra]; simp), if_neg (by omega), if_neg (by rw [rb]; simp)]; show _ = _; rw [if_neg (by omega), if_neg (by omega), if_pos (by omega)]; unfold biL biH; rw [show (decide (al < 0) || decide (bl < 0)) = false by simp; omega]; rfl
  rw [e]
  clear e
  have R := hideIt (Q.refl (bx3 w al ah bl bh))
  have HA : Hid (∀ x, Calls Try.prog 40 #[.int .i64 t, spV al ah] x fun e w' => e = .returned (.bool true) ∧ Q x w') := fun x => by have h := rright_any t al ah x h0; rw [ra] at h; exact h
  have HB : Hid (∀ x, Calls Try.prog 40 #[.int .i64 t, spV bl bh] x fun e w' => e = .returned (.bool true) ∧ Q x w') := fun x => by have h := rright_any t bl bh x h0; rw [rb] at h; exact h
  obtain ⟨⟨a11, a12⟩, ⟨a21, a22⟩, hab⟩ := rtB_nb h0 ra
  obtain ⟨⟨b11, b12⟩, ⟨b21, b22⟩, hbb⟩ := rtB_nb h0 rb
  have d1 : decide (al < 0) = false := by simp; omega
  have d2 : decide (bl < 0) = false := by simp; omega
  have HM := hideIt (fun x => rmore_any ah bh x)
  have HM2 := hideIt (fun x => rmore_any al bl x)
  have HO := hideIt (fun x => rones_any (max ah bh) x (by omega) (by omega))
  generalize onesP (max ah bh) = v at *
  generalize max ah bh = mh at *
  generalize max al bl = ml at *
  go_enter Try.func11, Try.ntmps11
  go_wp2_with (first | (go_at_call_of 40 (Value.agg #[Value.int IntKind.i64 al, Value.int IntKind.i64 ah]); refine (HA.out _).mono ?_; rintro e x ⟨rfl, q⟩; (try clear c0 c1 c2 c3 c4 c5 f4 f5); have R := hideIt (R.out.trans q); clear q; obtain ⟨c0, c1, c2, c3, c4, c5, f4, f5⟩ := R.out.c6) | (go_at_call 40; refine (HB.out _).mono ?_; rintro e x ⟨rfl, q⟩; (try clear c0 c1 c2 c3 c4 c5 f4 f5); have R := hideIt (R.out.trans q); clear q; obtain ⟨c0, c1, c2, c3, c4, c5, f4, f5⟩ := R.out.c6))
  have g0 : ∀ o : Obj, (x.alloc o).cell? ⟨w.heap.size, 0, none⟩ = some (.int .i64 al) := fun o => (Q.alloc R.out o).c6.1
  have g2 : ∀ o : Obj, (x.alloc o).cell? ⟨w.heap.size + 1, 0, none⟩ = some (.int .i64 bl) := fun o => (Q.alloc R.out o).c6.2.2.1
  have g4 : ∀ o : Obj, (x.alloc o).cell? ⟨w.heap.size + 1 + 1, 0, none⟩ = some (.int .i64 0) := fun o => (Q.alloc R.out o).c6.2.2.2.2.1
  have g5 : ∀ o : Obj, (x.alloc o).cell? ⟨w.heap.size + 1 + 1, 1, none⟩ = some (.int .i64 0) := fun o => (Q.alloc R.out o).c6.2.2.2.2.2.1
  have g6 : ∀ o : Obj, (x.alloc o).frozen? ⟨w.heap.size + 1 + 1, 0, none⟩ = false := fun o => (Q.alloc R.out o).c6.2.2.2.2.2.2.1
  have g7 : ∀ o : Obj, (x.alloc o).frozen? ⟨w.heap.size + 1 + 1, 1, none⟩ = false := fun o => (Q.alloc R.out o).c6.2.2.2.2.2.2.2
  go_wp2_with (first | (go_at_call_of 49 (Value.int IntKind.i64 ah); refine (HM.out _).mono ?_; rintro e x ⟨rfl, rfl⟩) | (go_at_call_of 49 (Value.int IntKind.i64 al); refine (HM2.out _).mono ?_; rintro e x ⟨rfl, rfl⟩) | (go_at_call 48; refine (HO.out _).mono ?_; rintro e x ⟨rfl, rfl⟩))
  exact bodyPost_ret (v := .tuple #[spV 0 v, .bool true]) (by simp [results, Try.results11, go_sem, g4, g5]) rfl ⟨rfl, q_set3 (Q.alloc R.out _) _ _⟩

set_option maxRecDepth 100000 in
set_option maxHeartbeats 4000000 in
theorem rd_11 (t al ah bl bh : Int) (w : World) (h0 : 0 ≤ t) (ra : rtB t al ah = true) (rb : rtB t bl bh = true) : Calls Try.prog 11 #[.int .i64 11, .int .i64 t, spV al ah, spV bl bh] w fun e w' => e = .returned (.tuple #[.agg #[.int .i64 (doA 11 t al ah bl bh).1, .int .i64 (doA 11 t al ah bl bh).2.1], .bool (doA 11 t al ah bl bh).2.2]) ∧ Q w w' := by
  have e : doA 11 t al ah bl bh = ((cmA 11 al ah bl bh).1, (cmA 11 al ah bl bh).2, true) := by unfold doA; rw [if_neg (by rw [ra]; simp), if_neg (by omega), if_neg (by rw [rb]; simp)]; rfl
  rw [e]
  clear e
  have R := hideIt (Q.refl (bx3 w al ah bl bh))
  have HA : Hid (∀ x, Calls Try.prog 40 #[.int .i64 t, spV al ah] x fun e w' => e = .returned (.bool true) ∧ Q x w') := fun x => by have h := rright_any t al ah x h0; rw [ra] at h; exact h
  have HB : Hid (∀ x, Calls Try.prog 40 #[.int .i64 t, spV bl bh] x fun e w' => e = .returned (.bool true) ∧ Q x w') := fun x => by have h := rright_any t bl bh x h0; rw [rb] at h; exact h
  have HC : Hid (∀ x, Calls Try.prog 50 #[.int .i64 11, spV al ah, spV bl bh] x fun e w' => e = .returned (.agg #[.int .i64 (cmA 11 al ah bl bh).1, .int .i64 (cmA 11 al ah bl bh).2]) ∧ Q x w') := fun x => rcmp_11 al ah bl bh x
  generalize (cmA 11 al ah bl bh).1 = z1 at *
  generalize (cmA 11 al ah bl bh).2 = z2 at *
  go_enter Try.func11, Try.ntmps11
  go_wp2_with (first | (go_at_call_of 40 (Value.agg #[Value.int IntKind.i64 al, Value.int IntKind.i64 ah]); refine (HA.out _).mono ?_; rintro e x ⟨rfl, q⟩; (try clear c0 c1 c2 c3 c4 c5 f4 f5); have R := hideIt (R.out.trans q); clear q; obtain ⟨c0, c1, c2, c3, c4, c5, f4, f5⟩ := R.out.c6) | (go_at_call 40; refine (HB.out _).mono ?_; rintro e x ⟨rfl, q⟩; (try clear c0 c1 c2 c3 c4 c5 f4 f5); have R := hideIt (R.out.trans q); clear q; obtain ⟨c0, c1, c2, c3, c4, c5, f4, f5⟩ := R.out.c6) | (go_at_call 50; refine (HC.out _).mono ?_; rintro e x ⟨rfl, q⟩; (try clear c0 c1 c2 c3 c4 c5 f4 f5); have R := hideIt (R.out.trans q); clear q; obtain ⟨c0, c1, c2, c3, c4, c5, f4, f5⟩ := R.out.c6))
  exact bodyPost_ret (v := .tuple #[spV z1 z2, .bool true]) (by simp [results, Try.results11, go_sem, c4, c5]) rfl ⟨rfl, q_set3 R.out _ _⟩

set_option maxRecDepth 100000 in
set_option maxHeartbeats 4000000 in
theorem rd_12 (t al ah bl bh : Int) (w : World) (h0 : 0 ≤ t) (ra : rtB t al ah = true) (rb : rtB t bl bh = true) : Calls Try.prog 11 #[.int .i64 12, .int .i64 t, spV al ah, spV bl bh] w fun e w' => e = .returned (.tuple #[.agg #[.int .i64 (doA 12 t al ah bl bh).1, .int .i64 (doA 12 t al ah bl bh).2.1], .bool (doA 12 t al ah bl bh).2.2]) ∧ Q w w' := by
  have e : doA 12 t al ah bl bh = ((cmA 12 al ah bl bh).1, (cmA 12 al ah bl bh).2, true) := by unfold doA; rw [if_neg (by rw [ra]; simp), if_neg (by omega), if_neg (by rw [rb]; simp)]; rfl
  rw [e]
  clear e
  have R := hideIt (Q.refl (bx3 w al ah bl bh))
  have HA : Hid (∀ x, Calls Try.prog 40 #[.int .i64 t, spV al ah] x fun e w' => e = .returned (.bool true) ∧ Q x w') := fun x => by have h := rright_any t al ah x h0; rw [ra] at h; exact h
  have HB : Hid (∀ x, Calls Try.prog 40 #[.int .i64 t, spV bl bh] x fun e w' => e = .returned (.bool true) ∧ Q x w') := fun x => by have h := rright_any t bl bh x h0; rw [rb] at h; exact h
  have HC : Hid (∀ x, Calls Try.prog 50 #[.int .i64 12, spV al ah, spV bl bh] x fun e w' => e = .returned (.agg #[.int .i64 (cmA 12 al ah bl bh).1, .int .i64 (cmA 12 al ah bl bh).2]) ∧ Q x w') := fun x => rcmp_12 al ah bl bh x
  generalize (cmA 12 al ah bl bh).1 = z1 at *
  generalize (cmA 12 al ah bl bh).2 = z2 at *
  go_enter Try.func11, Try.ntmps11
  go_wp2_with (first | (go_at_call_of 40 (Value.agg #[Value.int IntKind.i64 al, Value.int IntKind.i64 ah]); refine (HA.out _).mono ?_; rintro e x ⟨rfl, q⟩; (try clear c0 c1 c2 c3 c4 c5 f4 f5); have R := hideIt (R.out.trans q); clear q; obtain ⟨c0, c1, c2, c3, c4, c5, f4, f5⟩ := R.out.c6) | (go_at_call 40; refine (HB.out _).mono ?_; rintro e x ⟨rfl, q⟩; (try clear c0 c1 c2 c3 c4 c5 f4 f5); have R := hideIt (R.out.trans q); clear q; obtain ⟨c0, c1, c2, c3, c4, c5, f4, f5⟩ := R.out.c6) | (go_at_call 50; refine (HC.out _).mono ?_; rintro e x ⟨rfl, q⟩; (try clear c0 c1 c2 c3 c4 c5 f4 f5); have R := hideIt (R.out.trans q); clear q; obtain ⟨c0, c1, c2, c3, c4, c5, f4, f5⟩ := R.out.c6))
  exact bodyPost_ret (v := .tuple #[spV z1 z2, .bool true]) (by simp [results, Try.results11, go_sem, c4, c5]) rfl ⟨rfl, q_set3 R.out _ _⟩

set_option maxRecDepth 100000 in
set_option maxHeartbeats 4000000 in
theorem rd_13 (t al ah bl bh : Int) (w : World) (h0 : 0 ≤ t) (ra : rtB t al ah = true) (rb : rtB t bl bh = true) : Calls Try.prog 11 #[.int .i64 13, .int .i64 t, spV al ah, spV bl bh] w fun e w' => e = .returned (.tuple #[.agg #[.int .i64 (doA 13 t al ah bl bh).1, .int .i64 (doA 13 t al ah bl bh).2.1], .bool (doA 13 t al ah bl bh).2.2]) ∧ Q w w' := by
  have e : doA 13 t al ah bl bh = ((cmA 13 al ah bl bh).1, (cmA 13 al ah bl bh).2, true) := by unfold doA; rw [if_neg (by rw [ra]; simp), if_neg (by omega), if_neg (by rw [rb]; simp)]; rfl
  rw [e]
  clear e
  have R := hideIt (Q.refl (bx3 w al ah bl bh))
  have HA : Hid (∀ x, Calls Try.prog 40 #[.int .i64 t, spV al ah] x fun e w' => e = .returned (.bool true) ∧ Q x w') := fun x => by have h := rright_any t al ah x h0; rw [ra] at h; exact h
  have HB : Hid (∀ x, Calls Try.prog 40 #[.int .i64 t, spV bl bh] x fun e w' => e = .returned (.bool true) ∧ Q x w') := fun x => by have h := rright_any t bl bh x h0; rw [rb] at h; exact h
  have HC : Hid (∀ x, Calls Try.prog 50 #[.int .i64 13, spV al ah, spV bl bh] x fun e w' => e = .returned (.agg #[.int .i64 (cmA 13 al ah bl bh).1, .int .i64 (cmA 13 al ah bl bh).2]) ∧ Q x w') := fun x => rcmp_13 al ah bl bh x
  generalize (cmA 13 al ah bl bh).1 = z1 at *
  generalize (cmA 13 al ah bl bh).2 = z2 at *
  go_enter Try.func11, Try.ntmps11
  go_wp2_with (first | (go_at_call_of 40 (Value.agg #[Value.int IntKind.i64 al, Value.int IntKind.i64 ah]); refine (HA.out _).mono ?_; rintro e x ⟨rfl, q⟩; (try clear c0 c1 c2 c3 c4 c5 f4 f5); have R := hideIt (R.out.trans q); clear q; obtain ⟨c0, c1, c2, c3, c4, c5, f4, f5⟩ := R.out.c6) | (go_at_call 40; refine (HB.out _).mono ?_; rintro e x ⟨rfl, q⟩; (try clear c0 c1 c2 c3 c4 c5 f4 f5); have R := hideIt (R.out.trans q); clear q; obtain ⟨c0, c1, c2, c3, c4, c5, f4, f5⟩ := R.out.c6) | (go_at_call 50; refine (HC.out _).mono ?_; rintro e x ⟨rfl, q⟩; (try clear c0 c1 c2 c3 c4 c5 f4 f5); have R := hideIt (R.out.trans q); clear q; obtain ⟨c0, c1, c2, c3, c4, c5, f4, f5⟩ := R.out.c6))
  exact bodyPost_ret (v := .tuple #[spV z1 z2, .bool true]) (by simp [results, Try.results11, go_sem, c4, c5]) rfl ⟨rfl, q_set3 R.out _ _⟩

set_option maxRecDepth 100000 in
set_option maxHeartbeats 4000000 in
theorem rd_14 (t al ah bl bh : Int) (w : World) (h0 : 0 ≤ t) (ra : rtB t al ah = true) (rb : rtB t bl bh = true) : Calls Try.prog 11 #[.int .i64 14, .int .i64 t, spV al ah, spV bl bh] w fun e w' => e = .returned (.tuple #[.agg #[.int .i64 (doA 14 t al ah bl bh).1, .int .i64 (doA 14 t al ah bl bh).2.1], .bool (doA 14 t al ah bl bh).2.2]) ∧ Q w w' := by
  have e : doA 14 t al ah bl bh = ((cmA 14 al ah bl bh).1, (cmA 14 al ah bl bh).2, true) := by unfold doA; rw [if_neg (by rw [ra]; simp), if_neg (by omega), if_neg (by rw [rb]; simp)]; rfl
  rw [e]
  clear e
  have R := hideIt (Q.refl (bx3 w al ah bl bh))
  have HA : Hid (∀ x, Calls Try.prog 40 #[.int .i64 t, spV al ah] x fun e w' => e = .returned (.bool true) ∧ Q x w') := fun x => by have h := rright_any t al ah x h0; rw [ra] at h; exact h
  have HB : Hid (∀ x, Calls Try.prog 40 #[.int .i64 t, spV bl bh] x fun e w' => e = .returned (.bool true) ∧ Q x w') := fun x => by have h := rright_any t bl bh x h0; rw [rb] at h; exact h
  have HC : Hid (∀ x, Calls Try.prog 50 #[.int .i64 14, spV al ah, spV bl bh] x fun e w' => e = .returned (.agg #[.int .i64 (cmA 14 al ah bl bh).1, .int .i64 (cmA 14 al ah bl bh).2]) ∧ Q x w') := fun x => rcmp_14 al ah bl bh x
  generalize (cmA 14 al ah bl bh).1 = z1 at *
  generalize (cmA 14 al ah bl bh).2 = z2 at *
  go_enter Try.func11, Try.ntmps11
  go_wp2_with (first | (go_at_call_of 40 (Value.agg #[Value.int IntKind.i64 al, Value.int IntKind.i64 ah]); refine (HA.out _).mono ?_; rintro e x ⟨rfl, q⟩; (try clear c0 c1 c2 c3 c4 c5 f4 f5); have R := hideIt (R.out.trans q); clear q; obtain ⟨c0, c1, c2, c3, c4, c5, f4, f5⟩ := R.out.c6) | (go_at_call 40; refine (HB.out _).mono ?_; rintro e x ⟨rfl, q⟩; (try clear c0 c1 c2 c3 c4 c5 f4 f5); have R := hideIt (R.out.trans q); clear q; obtain ⟨c0, c1, c2, c3, c4, c5, f4, f5⟩ := R.out.c6) | (go_at_call 50; refine (HC.out _).mono ?_; rintro e x ⟨rfl, q⟩; (try clear c0 c1 c2 c3 c4 c5 f4 f5); have R := hideIt (R.out.trans q); clear q; obtain ⟨c0, c1, c2, c3, c4, c5, f4, f5⟩ := R.out.c6))
  exact bodyPost_ret (v := .tuple #[spV z1 z2, .bool true]) (by simp [results, Try.results11, go_sem, c4, c5]) rfl ⟨rfl, q_set3 R.out _ _⟩

set_option maxRecDepth 100000 in
set_option maxHeartbeats 4000000 in
theorem rd_15 (t al ah bl bh : Int) (w : World) (h0 : 0 ≤ t) (ra : rtB t al ah = true) (rb : rtB t bl bh = true) : Calls Try.prog 11 #[.int .i64 15, .int .i64 t, spV al ah, spV bl bh] w fun e w' => e = .returned (.tuple #[.agg #[.int .i64 (doA 15 t al ah bl bh).1, .int .i64 (doA 15 t al ah bl bh).2.1], .bool (doA 15 t al ah bl bh).2.2]) ∧ Q w w' := by
  have e : doA 15 t al ah bl bh = ((cmA 15 al ah bl bh).1, (cmA 15 al ah bl bh).2, true) := by unfold doA; rw [if_neg (by rw [ra]; simp), if_neg (by omega), if_neg (by rw [rb]; simp)]; rfl
  rw [e]
  clear e
  have R := hideIt (Q.refl (bx3 w al ah bl bh))
  have HA : Hid (∀ x, Calls Try.prog 40 #[.int .i64 t, spV al ah] x fun e w' => e = .returned (.bool true) ∧ Q x w') := fun x => by have h := rright_any t al ah x h0; rw [ra] at h; exact h
  have HB : Hid (∀ x, Calls Try.prog 40 #[.int .i64 t, spV bl bh] x fun e w' => e = .returned (.bool true) ∧ Q x w') := fun x => by have h := rright_any t bl bh x h0; rw [rb] at h; exact h
  have HC : Hid (∀ x, Calls Try.prog 50 #[.int .i64 15, spV al ah, spV bl bh] x fun e w' => e = .returned (.agg #[.int .i64 (cmA 15 al ah bl bh).1, .int .i64 (cmA 15 al ah bl bh).2]) ∧ Q x w') := fun x => rcmp_15 al ah bl bh x
  generalize (cmA 15 al ah bl bh).1 = z1 at *
  generalize (cmA 15 al ah bl bh).2 = z2 at *
  go_enter Try.func11, Try.ntmps11
  go_wp2_with (first | (go_at_call_of 40 (Value.agg #[Value.int IntKind.i64 al, Value.int IntKind.i64 ah]); refine (HA.out _).mono ?_; rintro e x ⟨rfl, q⟩; (try clear c0 c1 c2 c3 c4 c5 f4 f5); have R := hideIt (R.out.trans q); clear q; obtain ⟨c0, c1, c2, c3, c4, c5, f4, f5⟩ := R.out.c6) | (go_at_call 40; refine (HB.out _).mono ?_; rintro e x ⟨rfl, q⟩; (try clear c0 c1 c2 c3 c4 c5 f4 f5); have R := hideIt (R.out.trans q); clear q; obtain ⟨c0, c1, c2, c3, c4, c5, f4, f5⟩ := R.out.c6) | (go_at_call 50; refine (HC.out _).mono ?_; rintro e x ⟨rfl, q⟩; (try clear c0 c1 c2 c3 c4 c5 f4 f5); have R := hideIt (R.out.trans q); clear q; obtain ⟨c0, c1, c2, c3, c4, c5, f4, f5⟩ := R.out.c6))
  exact bodyPost_ret (v := .tuple #[spV z1 z2, .bool true]) (by simp [results, Try.results11, go_sem, c4, c5]) rfl ⟨rfl, q_set3 R.out _ _⟩

set_option maxRecDepth 100000 in
set_option maxHeartbeats 4000000 in
theorem rd_16 (t al ah bl bh : Int) (w : World) (h0 : 0 ≤ t) (ra : rtB t al ah = true) (rb : rtB t bl bh = true) : Calls Try.prog 11 #[.int .i64 16, .int .i64 t, spV al ah, spV bl bh] w fun e w' => e = .returned (.tuple #[.agg #[.int .i64 (doA 16 t al ah bl bh).1, .int .i64 (doA 16 t al ah bl bh).2.1], .bool (doA 16 t al ah bl bh).2.2]) ∧ Q w w' := by
  have e : doA 16 t al ah bl bh = ((cmA 16 al ah bl bh).1, (cmA 16 al ah bl bh).2, true) := by unfold doA; rw [if_neg (by rw [ra]; simp), if_neg (by omega), if_neg (by rw [rb]; simp)]; rfl
  rw [e]
  clear e
  have R := hideIt (Q.refl (bx3 w al ah bl bh))
  have HA : Hid (∀ x, Calls Try.prog 40 #[.int .i64 t, spV al ah] x fun e w' => e = .returned (.bool true) ∧ Q x w') := fun x => by have h := rright_any t al ah x h0; rw [ra] at h; exact h
  have HB : Hid (∀ x, Calls Try.prog 40 #[.int .i64 t, spV bl bh] x fun e w' => e = .returned (.bool true) ∧ Q x w') := fun x => by have h := rright_any t bl bh x h0; rw [rb] at h; exact h
  have HC : Hid (∀ x, Calls Try.prog 50 #[.int .i64 16, spV al ah, spV bl bh] x fun e w' => e = .returned (.agg #[.int .i64 (cmA 16 al ah bl bh).1, .int .i64 (cmA 16 al ah bl bh).2]) ∧ Q x w') := fun x => rcmp_16 al ah bl bh x
  generalize (cmA 16 al ah bl bh).1 = z1 at *
  generalize (cmA 16 al ah bl bh).2 = z2 at *
  go_enter Try.func11, Try.ntmps11
  go_wp2_with (first | (go_at_call_of 40 (Value.agg #[Value.int IntKind.i64 al, Value.int IntKind.i64 ah]); refine (HA.out _).mono ?_; rintro e x ⟨rfl, q⟩; (try clear c0 c1 c2 c3 c4 c5 f4 f5); have R := hideIt (R.out.trans q); clear q; obtain ⟨c0, c1, c2, c3, c4, c5, f4, f5⟩ := R.out.c6) | (go_at_call 40; refine (HB.out _).mono ?_; rintro e x ⟨rfl, q⟩; (try clear c0 c1 c2 c3 c4 c5 f4 f5); have R := hideIt (R.out.trans q); clear q; obtain ⟨c0, c1, c2, c3, c4, c5, f4, f5⟩ := R.out.c6) | (go_at_call 50; refine (HC.out _).mono ?_; rintro e x ⟨rfl, q⟩; (try clear c0 c1 c2 c3 c4 c5 f4 f5); have R := hideIt (R.out.trans q); clear q; obtain ⟨c0, c1, c2, c3, c4, c5, f4, f5⟩ := R.out.c6))
  exact bodyPost_ret (v := .tuple #[spV z1 z2, .bool true]) (by simp [results, Try.results11, go_sem, c4, c5]) rfl ⟨rfl, q_set3 R.out _ _⟩

theorem rspdo_any (op : Int) (t al ah bl bh : Int) (w : World) (h0 : 0 ≤ t) : Calls Try.prog 11 #[.int .i64 op, .int .i64 t, spV al ah, spV bl bh] w fun e w' => e = .returned (.tuple #[.agg #[.int .i64 (doA op t al ah bl bh).1, .int .i64 (doA op t al ah bl bh).2.1], .bool (doA op t al ah bl bh).2.2]) ∧ Q w w' := by
  have h : op < 1 ∨ 16 < op ∨ (1 ≤ op ∧ op ≤ 16) := by omega
  rcases h with h | h | ⟨o1, o2⟩
  · exact rd_lo op t al ah bl bh w h0 h
  · exact rd_hi op t al ah bl bh w h0 h
  cases ra : rtB t al ah with
  | false => exact rd_a op t al ah bl bh w h0 o1 o2 ra
  | true =>
    by_cases h9 : op = 9 ∨ op = 10
    · cases hn : nonB bl bh with
      | true =>
        rcases h9 with rfl | rfl
        · exact rd_9n t al ah bl bh w h0 ra hn
        · exact rd_10n t al ah bl bh w h0 ra hn
      | false =>
        by_cases hb : bl < 0
        · rcases h9 with rfl | rfl
          · exact rd_9l t al ah bl bh w h0 ra hn hb
          · exact rd_10l t al ah bl bh w h0 ra hn hb
        · by_cases hb2 : wid t ≤ bh
          · rcases h9 with rfl | rfl
            · exact rd_9g t al ah bl bh w h0 ra hn (by omega) hb2
            · exact rd_10g t al ah bl bh w h0 ra hn (by omega) hb2
          · rcases h9 with rfl | rfl
            · exact rd_9k t al ah bl bh w h0 ra hn (by omega) (by omega)
            · exact rd_10k t al ah bl bh w h0 ra hn (by omega) (by omega)
    · cases rb : rtB t bl bh with
      | false => exact rd_b op t al ah bl bh w h0 o1 o2 (by omega) (by omega) ra rb
      | true =>
        have h : op = 1 ∨ op = 2 ∨ op = 3 ∨ op = 4 ∨ op = 5 ∨ op = 6 ∨ op = 7 ∨ op = 8 ∨ op = 11 ∨ op = 12 ∨ op = 13 ∨ op = 14 ∨ op = 15 ∨ op = 16 := by omega
        rcases h with rfl | rfl | rfl | rfl | rfl | rfl | rfl | rfl | rfl | rfl | rfl | rfl | rfl | rfl
        · exact rd_1 t al ah bl bh w h0 ra rb
        · exact rd_2 t al ah bl bh w h0 ra rb
        · by_cases h1 : t = 5
          · by_cases h2 : 0 < ah
            · by_cases h3 : (9223372036854775807 : Int).tdiv ah < bh
              · exact rd_3w t al ah bl bh w h0 ra rb h1 h2 h3
              · exact rd_3z t al ah bl bh w h0 ra rb h1 h2 (by omega)
            · exact rd_3y t al ah bl bh w h0 ra rb h1 (by omega)
          · exact rd_3x t al ah bl bh w h0 ra rb h1
        · exact rd_4 t al ah bl bh w h0 ra rb
        · exact rd_5 t al ah bl bh w h0 ra rb
        · by_cases hb : al < 0
          · exact rd_6a t al ah bl bh w h0 ra rb hb
          · by_cases hb2 : bl < 0
            · exact rd_6b t al ah bl bh w h0 ra rb (by omega) hb2
            · exact rd_6c t al ah bl bh w h0 ra rb (by omega) (by omega)
        · by_cases hb : al < 0
          · exact rd_7a t al ah bl bh w h0 ra rb hb
          · by_cases hb2 : bl < 0
            · exact rd_7b t al ah bl bh w h0 ra rb (by omega) hb2
            · exact rd_7c t al ah bl bh w h0 ra rb (by omega) (by omega)
        · by_cases hb : al < 0
          · exact rd_8a t al ah bl bh w h0 ra rb hb
          · by_cases hb2 : bl < 0
            · exact rd_8b t al ah bl bh w h0 ra rb (by omega) hb2
            · exact rd_8c t al ah bl bh w h0 ra rb (by omega) (by omega)
        · exact rd_11 t al ah bl bh w h0 ra rb
        · exact rd_12 t al ah bl bh w h0 ra rb
        · exact rd_13 t al ah bl bh w h0 ra rb
        · exact rd_14 t al ah bl bh w h0 ra rb
        · exact rd_15 t al ah bl bh w h0 ra rb
        · exact rd_16 t al ah bl bh w h0 ra rb

end Go.Proofs.Ytancfhnhjfhbfaa
