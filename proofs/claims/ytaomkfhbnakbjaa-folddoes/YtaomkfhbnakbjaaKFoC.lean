/-
  What is reckoned ahead (reckon of fold): contracts over the program; the conditions: what is known and the instruction lie in memory.
-/
import Derived.Test.YtaomkfhbnakbjaaKFoB
import Derived.BigQuiet
namespace Go.Proofs.Ytaomkfhbnakbjaa.Fo
open Go.RowKit
set_option linter.unusedVariables false

abbrev RcPost (w : World) (o : Option Int) (e : Ending) (w' : World) : Prop := ∃ v, e = .returned (.tuple #[.int .i64 v, .bool o.isSome]) ∧ (∀ u, o = some u → v = u) ∧ Q w w'

set_option maxRecDepth 100000 in
set_option maxHeartbeats 1000000 in
theorem reckon_none (w : World) (kb M n : Nat) (fault : Bool) (F : KF) (hk : KN w kb M n fault F) (g o : Nat) (x : PI) (hx : At w g o x.cells) (hok : x.ok w) (ha : F x.a = none) :
    Calls Try.prog 69 #[.pointer (some ⟨kb, 0, none⟩), .pointer (some ⟨g, o, none⟩)] w fun e w' => RcPost w none e w' := by
  have c0 : w.cell? ⟨kb, 0, none⟩ = some (.map (some M)) := cell_of_block hk.blk 0
  obtain ⟨x0, x1, -, x3, x4, -, -⟩ := hx.seven
  have LA : ∀ j, (Instr.lookup 76 (.map (some M)) (.int .i64 x.a) true).run Try.prog (w.drewN j) = .ok (.tuple #[.int .i64 ((F x.a).getD 0), .bool (F x.a).isSome]) (w.drewN j) := fun j => (hk.q ((Q.refl w).drewN j)).map.look hok.a
  rw [ha] at LA
  simp only [Option.getD_none, Option.isSome_none] at LA
  clear hk hx hok ha
  go_enter Try.func69, Try.ntmps69
  go_wp2_with (fail)
  go_quiet (fail)
  go_wp2_with (fail)
  go_ret2
  exact ⟨_, rfl, fun u hu => (by cases hu), (Q.refl w).drewN _⟩

set_option maxRecDepth 100000 in
set_option maxHeartbeats 1000000 in
theorem reckon_21 (w : World) (kb M n : Nat) (fault : Bool) (F : KF) (hk : KN w kb M n fault F) (g o : Nat) (x : PI) (hx : At w g o x.cells) (hok : x.ok w) (a : Int) (ha : F x.a = some a) (hop : x.op = 21) :
    Calls Try.prog 69 #[.pointer (some ⟨kb, 0, none⟩), .pointer (some ⟨g, o, none⟩)] w fun e w' => RcPost w (some a) e w' := by
  have c0 : w.cell? ⟨kb, 0, none⟩ = some (.map (some M)) := cell_of_block hk.blk 0
  obtain ⟨x0, x1, -, x3, x4, -, -⟩ := hx.seven
  have LA : ∀ j, (Instr.lookup 76 (.map (some M)) (.int .i64 x.a) true).run Try.prog (w.drewN j) = .ok (.tuple #[.int .i64 ((F x.a).getD 0), .bool (F x.a).isSome]) (w.drewN j) := fun j => (hk.q ((Q.refl w).drewN j)).map.look hok.a
  rw [ha] at LA
  simp only [Option.getD_some, Option.isSome_some] at LA
  have ht := hok.ty.1
  rw [hop] at x0
  clear hk hx hok ha hop
  go_enter Try.func69, Try.ntmps69
  go_wp2_with (fail)
  go_quiet (fail)
  go_wp2_with (first | fail | fail)
  go_ret2
  exact ⟨_, rfl, fun u hu => by simpa using hu, (Q.refl w).drewN _⟩

set_option maxRecDepth 100000 in
set_option maxHeartbeats 1000000 in
theorem reckon_22 (w : World) (kb M n : Nat) (fault : Bool) (F : KF) (hk : KN w kb M n fault F) (g o : Nat) (x : PI) (hx : At w g o x.cells) (hok : x.ok w) (a : Int) (ha : F x.a = some a) (hop : x.op = 22) :
    Calls Try.prog 69 #[.pointer (some ⟨kb, 0, none⟩), .pointer (some ⟨g, o, none⟩)] w fun e w' => RcPost w (un 1 x a) e w' := by
  have c0 : w.cell? ⟨kb, 0, none⟩ = some (.map (some M)) := cell_of_block hk.blk 0
  obtain ⟨x0, x1, -, x3, x4, -, -⟩ := hx.seven
  have LA : ∀ j, (Instr.lookup 76 (.map (some M)) (.int .i64 x.a) true).run Try.prog (w.drewN j) = .ok (.tuple #[.int .i64 ((F x.a).getD 0), .bool (F x.a).isSome]) (w.drewN j) := fun j => (hk.q ((Q.refl w).drewN j)).map.look hok.a
  rw [ha] at LA
  simp only [Option.getD_some, Option.isSome_some] at LA
  have ht := hok.ty.1
  have CU : Hid (∀ X, Q w X → Calls Try.prog 90 #[.int .u8 1, .int .u8 x.ty, .int .i64 a] X fun e w' => e = .returned (.tuple #[.int .i64 (Burin.un1 1 x.ty a), .int .u8 (Burin.un2 1 x.ty a)]) ∧ Q w w') := fun X hX => (Nu.un_any 1 x.ty a X ht).mono fun e w' q => ⟨q.1, hX.trans q.2⟩
  have EU : Hid (((Burin.un2 1 x.ty a == 0) = (un 1 x a).isSome) ∧ ∀ u, un 1 x a = some u → Burin.un1 1 x.ty a = u) := by
    show _ ∧ _
    unfold un
    by_cases hz : Burin.un2 1 x.ty a = 0
    · rw [if_pos hz]; exact ⟨by simp [hz], fun u hu => by simpa using hu⟩
    · rw [if_neg hz]; exact ⟨by simpa using hz, fun u hu => by cases hu⟩
  rw [hop] at x0
  clear hk hx hok ha hop
  go_enter Try.func69, Try.ntmps69
  go_wp2_with (fail)
  go_quiet (fail)
  go_wp2_with (first | (go_at_call 90; refine Calls.mono (CU.out _ ((Q.refl w).drewN _)) ?_; rintro e y ⟨rfl, q⟩; have HY := hideIt q; clear q) | (go_at_call 89; refine (untrapped_any _ _ _).mono ?_; rw [EU.out.1]; rintro e y2 ⟨rfl, rfl⟩) | fail)
  go_ret2
  exact ⟨_, rfl, EU.out.2, HY.out⟩

set_option maxRecDepth 100000 in
set_option maxHeartbeats 1000000 in
theorem reckon_23 (w : World) (kb M n : Nat) (fault : Bool) (F : KF) (hk : KN w kb M n fault F) (g o : Nat) (x : PI) (hx : At w g o x.cells) (hok : x.ok w) (a : Int) (ha : F x.a = some a) (hop : x.op = 23) :
    Calls Try.prog 69 #[.pointer (some ⟨kb, 0, none⟩), .pointer (some ⟨g, o, none⟩)] w fun e w' => RcPost w (un 2 x a) e w' := by
  have c0 : w.cell? ⟨kb, 0, none⟩ = some (.map (some M)) := cell_of_block hk.blk 0
  obtain ⟨x0, x1, -, x3, x4, -, -⟩ := hx.seven
  have LA : ∀ j, (Instr.lookup 76 (.map (some M)) (.int .i64 x.a) true).run Try.prog (w.drewN j) = .ok (.tuple #[.int .i64 ((F x.a).getD 0), .bool (F x.a).isSome]) (w.drewN j) := fun j => (hk.q ((Q.refl w).drewN j)).map.look hok.a
  rw [ha] at LA
  simp only [Option.getD_some, Option.isSome_some] at LA
  have ht := hok.ty.1
  have CU : Hid (∀ X, Q w X → Calls Try.prog 90 #[.int .u8 2, .int .u8 x.ty, .int .i64 a] X fun e w' => e = .returned (.tuple #[.int .i64 (Burin.un1 2 x.ty a), .int .u8 (Burin.un2 2 x.ty a)]) ∧ Q w w') := fun X hX => (Nu.un_any 2 x.ty a X ht).mono fun e w' q => ⟨q.1, hX.trans q.2⟩
  have EU : Hid (((Burin.un2 2 x.ty a == 0) = (un 2 x a).isSome) ∧ ∀ u, un 2 x a = some u → Burin.un1 2 x.ty a = u) := by
    show _ ∧ _
    unfold un
    by_cases hz : Burin.un2 2 x.ty a = 0
    · rw [if_pos hz]; exact ⟨by simp [hz], fun u hu => by simpa using hu⟩
    · rw [if_neg hz]; exact ⟨by simpa using hz, fun u hu => by cases hu⟩
  rw [hop] at x0
  clear hk hx hok ha hop
  go_enter Try.func69, Try.ntmps69
  go_wp2_with (fail)
  go_quiet (fail)
  go_wp2_with (first | (go_at_call 90; refine Calls.mono (CU.out _ ((Q.refl w).drewN _)) ?_; rintro e y ⟨rfl, q⟩; have HY := hideIt q; clear q) | (go_at_call 89; refine (untrapped_any _ _ _).mono ?_; rw [EU.out.1]; rintro e y2 ⟨rfl, rfl⟩) | fail)
  go_ret2
  exact ⟨_, rfl, EU.out.2, HY.out⟩

set_option maxRecDepth 100000 in
set_option maxHeartbeats 1000000 in
theorem reckon_24 (w : World) (kb M n : Nat) (fault : Bool) (F : KF) (hk : KN w kb M n fault F) (g o : Nat) (x : PI) (hx : At w g o x.cells) (hok : x.ok w) (a : Int) (ha : F x.a = some a) (hop : x.op = 24) :
    Calls Try.prog 69 #[.pointer (some ⟨kb, 0, none⟩), .pointer (some ⟨g, o, none⟩)] w fun e w' => RcPost w (un 3 x a) e w' := by
  have c0 : w.cell? ⟨kb, 0, none⟩ = some (.map (some M)) := cell_of_block hk.blk 0
  obtain ⟨x0, x1, -, x3, x4, -, -⟩ := hx.seven
  have LA : ∀ j, (Instr.lookup 76 (.map (some M)) (.int .i64 x.a) true).run Try.prog (w.drewN j) = .ok (.tuple #[.int .i64 ((F x.a).getD 0), .bool (F x.a).isSome]) (w.drewN j) := fun j => (hk.q ((Q.refl w).drewN j)).map.look hok.a
  rw [ha] at LA
  simp only [Option.getD_some, Option.isSome_some] at LA
  have ht := hok.ty.1
  have CU : Hid (∀ X, Q w X → Calls Try.prog 90 #[.int .u8 3, .int .u8 x.ty, .int .i64 a] X fun e w' => e = .returned (.tuple #[.int .i64 (Burin.un1 3 x.ty a), .int .u8 (Burin.un2 3 x.ty a)]) ∧ Q w w') := fun X hX => (Nu.un_any 3 x.ty a X ht).mono fun e w' q => ⟨q.1, hX.trans q.2⟩
  have EU : Hid (((Burin.un2 3 x.ty a == 0) = (un 3 x a).isSome) ∧ ∀ u, un 3 x a = some u → Burin.un1 3 x.ty a = u) := by
    show _ ∧ _
    unfold un
    by_cases hz : Burin.un2 3 x.ty a = 0
    · rw [if_pos hz]; exact ⟨by simp [hz], fun u hu => by simpa using hu⟩
    · rw [if_neg hz]; exact ⟨by simpa using hz, fun u hu => by cases hu⟩
  rw [hop] at x0
  clear hk hx hok ha hop
  go_enter Try.func69, Try.ntmps69
  go_wp2_with (fail)
  go_quiet (fail)
  go_wp2_with (first | (go_at_call 90; refine Calls.mono (CU.out _ ((Q.refl w).drewN _)) ?_; rintro e y ⟨rfl, q⟩; have HY := hideIt q; clear q) | (go_at_call 89; refine (untrapped_any _ _ _).mono ?_; rw [EU.out.1]; rintro e y2 ⟨rfl, rfl⟩) | fail)
  go_ret2
  exact ⟨_, rfl, EU.out.2, HY.out⟩

set_option maxRecDepth 100000 in
set_option maxHeartbeats 1000000 in
theorem reckon_25 (w : World) (kb M n : Nat) (fault : Bool) (F : KF) (hk : KN w kb M n fault F) (g o : Nat) (x : PI) (hx : At w g o x.cells) (hok : x.ok w) (a : Int) (ha : F x.a = some a) (hop : x.op = 25) :
    Calls Try.prog 69 #[.pointer (some ⟨kb, 0, none⟩), .pointer (some ⟨g, o, none⟩)] w fun e w' => RcPost w (some (Burin.wr x.ty a)) e w' := by
  have c0 : w.cell? ⟨kb, 0, none⟩ = some (.map (some M)) := cell_of_block hk.blk 0
  obtain ⟨x0, x1, -, x3, x4, -, -⟩ := hx.seven
  have LA : ∀ j, (Instr.lookup 76 (.map (some M)) (.int .i64 x.a) true).run Try.prog (w.drewN j) = .ok (.tuple #[.int .i64 ((F x.a).getD 0), .bool (F x.a).isSome]) (w.drewN j) := fun j => (hk.q ((Q.refl w).drewN j)).map.look hok.a
  rw [ha] at LA
  simp only [Option.getD_some, Option.isSome_some] at LA
  have ht := hok.ty.1
  have CW : Hid (∀ X, Calls Try.prog 91 #[.int .u8 x.ty, .int .i64 a] X fun e w' => e = .returned (.int .i64 (Burin.wr x.ty a)) ∧ w' = X) := fun X => Nu.wrap_any x.ty a X ht
  rw [hop] at x0
  clear hk hx hok ha hop
  go_enter Try.func69, Try.ntmps69
  go_wp2_with (fail)
  go_quiet (fail)
  go_wp2_with (first | (go_at_call 91; refine (CW.out _).mono ?_; rintro e y ⟨rfl, hy⟩; have hy2 := hy.symm; clear hy; subst hy2) | fail)
  go_ret2
  exact ⟨_, rfl, fun u hu => by simpa using hu, (Q.refl w).drewN _⟩

set_option maxRecDepth 100000 in
set_option maxHeartbeats 2000000 in
theorem reckon_b (w : World) (kb M n : Nat) (fault : Bool) (F : KF) (hk : KN w kb M n fault F) (g o : Nat) (x : PI) (hx : At w g o x.cells) (hok : x.ok w) (a : Int) (ha : F x.a = some a) (n21 : ¬ x.op = 21) (n22 : ¬ x.op = 22) (n23 : ¬ x.op = 23) (n24 : ¬ x.op = 24) (n25 : ¬ x.op = 25) :
    Calls Try.prog 69 #[.pointer (some ⟨kb, 0, none⟩), .pointer (some ⟨g, o, none⟩)] w fun e w' => RcPost w (match F x.b with | none => none | some b => if x.op < 1 ∨ 16 < x.op then none else two fault x a b) e w' := by
  have c0 : w.cell? ⟨kb, 0, none⟩ = some (.map (some M)) := cell_of_block hk.blk 0
  obtain ⟨x0, x1, -, x3, x4, -, -⟩ := hx.seven
  have LA : ∀ j, (Instr.lookup 76 (.map (some M)) (.int .i64 x.a) true).run Try.prog (w.drewN j) = .ok (.tuple #[.int .i64 ((F x.a).getD 0), .bool (F x.a).isSome]) (w.drewN j) := fun j => (hk.q ((Q.refl w).drewN j)).map.look hok.a
  rw [ha] at LA
  simp only [Option.getD_some, Option.isSome_some] at LA
  have ht := hok.ty.1
  have hb := hok.b
  have HKN := hideIt (fun y (hy : Q w y) => hk.q hy)
  have HAT := hideIt (fun y (hy : Q w y) => hx.keep hy)
  have e21 : (x.op == 21) = false := by simpa using n21
  have e22 : (x.op == 22) = false := by simpa using n22
  have e23 : (x.op == 23) = false := by simpa using n23
  have e24 : (x.op == 24) = false := by simpa using n24
  have e25 : (x.op == 25) = false := by simpa using n25
  have LB0 := hideIt (fun (y : World) (hy : Q w y) (j : Nat) => (hk.q (hy.drewN j)).map.look hok.b)
  have HT := hideIt (fun (y : World) (hy : Q w y) (b : Int) => (two_any y kb M n fault F (hk.q hy) g o x (hx.keep hy) ht a b).mono fun e w' (q : ∃ v, _ ∧ _ ∧ _) => (⟨q.choose, q.choose_spec.1, q.choose_spec.2.1, hy.trans q.choose_spec.2.2⟩ : RcPost w (two fault x a b) e w'))
  clear hk hx hok ha n21 n22 n23 n24 n25
  cases hfb : F x.b with
  | none =>
    rw [hfb] at LB0
    simp only [Option.getD_none, Option.isSome_none] at LB0
    go_enter Try.func69, Try.ntmps69
    go_wp2_with (fail)
    go_quiet (fail)
    go_wp2_with (fail)
    have QW := hideIt ((Q.refl w).drewN nq)
    have d0 : (w.drewN nq).cell? ⟨kb, 0, none⟩ = some (.map (some M)) := c0
    have d4 : (w.drewN nq).cell? ⟨g, o + 4, none⟩ = some (.int .i64 x.b) := x4
    have LB := LB0.out (w.drewN nq) QW.out
    generalize w.drewN nq = w1 at *
    go_quiet (fail)
    go_wp2_with (fail)
    go_ret2
    exact ⟨_, rfl, fun u hu => (by cases hu), QW.out.drewN _⟩
  | some b =>
    rw [hfb] at LB0
    simp only [Option.getD_some, Option.isSome_some] at LB0
    by_cases hr : x.op < 1 ∨ 16 < x.op
    · simp only [if_pos hr]
      have hr' : (decide (x.op < 1) = true) ∨ (decide (x.op < 1) = false ∧ decide (16 < x.op) = true) := by
        by_cases h1 : x.op < 1
        · exact Or.inl (by simpa using h1)
        · exact Or.inr ⟨by simpa using h1, by simpa using hr.resolve_left h1⟩
      clear hr
      rcases hr' with r1 | ⟨r1, r2⟩
      all_goals
        go_enter Try.func69, Try.ntmps69
        go_wp2_with (fail)
        go_quiet (fail)
        go_wp2_with (fail)
        have QW := hideIt ((Q.refl w).drewN nq)
        have d0 : (w.drewN nq).cell? ⟨kb, 0, none⟩ = some (.map (some M)) := c0
        have d4 : (w.drewN nq).cell? ⟨g, o + 4, none⟩ = some (.int .i64 x.b) := x4
        have dx : (w.drewN nq).cell? ⟨g, o, none⟩ = some (.int .u8 x.op) := x0
        have LB := LB0.out (w.drewN nq) QW.out
        generalize w.drewN nq = w1 at *
        go_quiet (fail)
        go_wp2_with (fail)
        go_ret2
        exact ⟨_, rfl, fun u hu => (by cases hu), QW.out.drewN _⟩
    · simp only [if_neg hr]
      have r1 : decide (x.op < 1) = false := by simp; omega
      have r2 : decide (16 < x.op) = false := by simp; omega
      clear hr
      go_enter Try.func69, Try.ntmps69
      go_wp2_with (fail)
      go_quiet (fail)
      go_wp2_with (fail)
      have QW := hideIt ((Q.refl w).drewN nq)
      have d0 : (w.drewN nq).cell? ⟨kb, 0, none⟩ = some (.map (some M)) := c0
      have d4 : (w.drewN nq).cell? ⟨g, o + 4, none⟩ = some (.int .i64 x.b) := x4
      have dx : (w.drewN nq).cell? ⟨g, o, none⟩ = some (.int .u8 x.op) := x0
      have LB := LB0.out (w.drewN nq) QW.out
      generalize w.drewN nq = w1 at *
      go_quiet (fail)
      go_wp2_with (first | (go_at_call 92; refine Calls.mono (HT.out _ (QW.out.drewN _) b) ?_; rintro e y ⟨v, rfl, h1, h2⟩; have HH1 := hideIt h1; have HH2 := hideIt h2; clear h1 h2) | fail)
      go_ret2
      exact ⟨_, rfl, HH1.out, HH2.out⟩

theorem reckon_any (w : World) (kb M n : Nat) (fault : Bool) (F : KF) (hk : KN w kb M n fault F) (g o : Nat) (x : PI) (hx : At w g o x.cells) (hok : x.ok w) : Calls Try.prog 69 #[.pointer (some ⟨kb, 0, none⟩), .pointer (some ⟨g, o, none⟩)] w fun e w' => RcPost w (reckP fault F x) e w' := by
  unfold reckP
  cases ha : F x.a with
  | none => exact reckon_none w kb M n fault F hk g o x hx hok ha
  | some a =>
    dsimp only
    by_cases n21 : x.op = 21
    · rw [if_pos n21]; exact reckon_21 w kb M n fault F hk g o x hx hok a ha n21
    rw [if_neg n21]
    by_cases n22 : x.op = 22
    · rw [if_pos n22]; exact reckon_22 w kb M n fault F hk g o x hx hok a ha n22
    rw [if_neg n22]
    by_cases n23 : x.op = 23
    · rw [if_pos n23]; exact reckon_23 w kb M n fault F hk g o x hx hok a ha n23
    rw [if_neg n23]
    by_cases n24 : x.op = 24
    · rw [if_pos n24]; exact reckon_24 w kb M n fault F hk g o x hx hok a ha n24
    rw [if_neg n24]
    by_cases n25 : x.op = 25
    · rw [if_pos n25]; exact reckon_25 w kb M n fault F hk g o x hx hok a ha n25
    rw [if_neg n25]
    exact reckon_b w kb M n fault F hk g o x hx hok a ha n21 n22 n23 n24 n25

end Go.Proofs.Ytaomkfhbnakbjaa.Fo
