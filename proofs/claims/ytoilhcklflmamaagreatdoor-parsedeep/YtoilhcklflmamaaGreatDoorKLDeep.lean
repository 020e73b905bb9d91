/-
  For every byte the statement ParseDeep returns true, and its argument reads as it did; the lists of layers 4 and 5 are tied to the program's text; no conditions.
-/
import Derived.Test.YtoilhcklflmamaaGreatDoorKLawP
import Derived.Test.YtoilhcklflmamaaGreatDoorKRfL
namespace Go.Proofs.YtoilhcklflmamaaGreatDoor.parseDeep
open Go.ChangeShapes Go.WideShapes Go.ChangeAt Go.RowKit
open Go.ChangeMaps (open_string shut_string)
open Pr
set_option linter.unusedVariables false

theorem add_fact (a b : ByteArray) (h : a.size + b.size ≤ 1000000) : ∃ c : ByteArray, (∀ w, (Op.stringOp .add a b).run Tryz.prog w = .ok (.string c) w) ∧ bl c = bl a ++ bl b ∧ c.size = a.size + b.size :=
  ⟨a ++ b, fun w => run_string_add_sum w _ _ (by omega), by simp [bl], by simp [ByteArray.size_append]⟩
theorem rep_snoc (j : Nat) (x : UInt8) : List.replicate j x ++ [x] = List.replicate (j + 1) x := by
  rw [List.replicate_succ']

set_option maxRecDepth 100000 in
set_option maxHeartbeats 4000000 in
theorem brackets_any (n : Nat) (hn : n ≤ 80) (w : World) :
    Calls Tryz.prog 17 #[.int .i64 (n : Int)] w fun e w' => (∃ s : ByteArray, e = .returned (.string s) ∧ bl s = brkL n ∧ s.size ≤ 65536) ∧ Q w w' := by
  go_enter Tryz.func17, Tryz.ntmps17
  go_wp2_with (fail)
  go_loopw [3, 4, 5] (fun a b i wr => ∃ (x y : ByteArray) (j : Nat), a = .string x ∧ b = .string y ∧ i = .int .i64 j ∧ j ≤ n ∧ Hid (bl x = List.replicate j 40) ∧ Hid (bl y = List.replicate j 41) ∧ x.size ≤ 80 ∧ y.size ≤ 80 ∧ Hid (x.size = j ∧ y.size = j) ∧ Hid (Q w wr)) (fun _ _ i _ => n - (intOf i).toNat)
  case atStart => exact ⟨_, _, 0, rfl, rfl, rfl, Nat.zero_le _, rfl, rfl, by decide, by decide, ⟨rfl, rfl⟩, Q.refl w⟩
  case round =>
    obtain ⟨x, y, j, rfl, rfl, rfl, hj, hx, hy, sx, sy, sz, hq⟩ := hrel
    by_cases hlt : j < n
    · have hji : (j : Int) < (n : Int) := by omega
      obtain ⟨x', p1, e1, z1⟩ := add_fact x ⟨#[40]⟩ (by show x.size + 1 ≤ _; omega)
      obtain ⟨y', p2, e2, z2⟩ := add_fact y ⟨#[41]⟩ (by show y.size + 1 ≤ _; omega)
      have z1' : x'.size = x.size + 1 := z1
      have z2' : y'.size = y.size + 1 := z2
      have E1 := hideIt (show bl x' = List.replicate (j + 1) 40 by rw [e1, hx.out]; exact rep_snoc j 40)
      have E2 := hideIt (show bl y' = List.replicate (j + 1) 41 by rw [e2, hy.out]; exact rep_snoc j 41)
      have SZ := hideIt (show x'.size = j + 1 ∧ y'.size = j + 1 by have := sz.out; omega)
      clear e1 e2 z1 z2 z1' z2'
      go_wp2_with (fail)
      go_roundw
      case rel => exact ⟨x', y', j + 1, rfl, rfl, by go_num, by omega, E1, E2, by have := SZ.out; omega, by have := SZ.out; omega, SZ, hq⟩
      case measure => simp [intOf]; omega
    · obtain rfl : j = n := by omega
      obtain ⟨t1, p1, e1, z1⟩ := add_fact ⟨#[105, 51, 50, 32, 109, 97, 105, 110, 40, 41, 123, 114, 101, 116, 117, 114, 110, 32]⟩ x (by show 18 + x.size ≤ _; omega)
      have z1' : t1.size = 18 + x.size := z1
      obtain ⟨t2, p2, e2, z2⟩ := add_fact t1 ⟨#[49, 105, 51, 50]⟩ (by show t1.size + 4 ≤ _; omega)
      have z2' : t2.size = t1.size + 4 := z2
      obtain ⟨t3, p3, e3, z3⟩ := add_fact t2 y (by omega)
      obtain ⟨t4, p4, e4, z4⟩ := add_fact t3 ⟨#[59, 125]⟩ (by show t3.size + 2 ≤ _; omega)
      have z4' : t4.size = t3.size + 2 := z4
      have E4 := hideIt (show bl t4 = brkL j by rw [e4, e3, e2, e1, hx.out, hy.out]; rfl)
      have S4 := hideIt (show t4.size ≤ 65536 by omega)
      clear e1 e2 e3 e4 z1 z2 z3 z4 z1' z2' z4'
      go_wp2_with (fail)
      go_ret
      exact ⟨⟨t4, rfl, E4.out, S4.out⟩, hq.out⟩

set_option maxRecDepth 100000 in
set_option maxHeartbeats 4000000 in
theorem minuses_any (n : Nat) (hn : n ≤ 80) (w : World) :
    Calls Tryz.prog 18 #[.int .i64 (n : Int)] w fun e w' => (∃ s : ByteArray, e = .returned (.string s) ∧ bl s = minL n ∧ s.size ≤ 65536) ∧ Q w w' := by
  go_enter Tryz.func18, Tryz.ntmps18
  go_wp2_with (fail)
  go_loopw [3, 4] (fun a i wr => ∃ (x : ByteArray) (j : Nat), a = .string x ∧ i = .int .i64 j ∧ j ≤ n ∧ Hid (bl x = List.replicate j 45) ∧ x.size ≤ 80 ∧ Hid (x.size = j) ∧ Hid (Q w wr)) (fun _ i _ => n - (intOf i).toNat)
  case atStart => exact ⟨_, 0, rfl, rfl, Nat.zero_le _, rfl, by decide, rfl, Q.refl w⟩
  case round =>
    obtain ⟨x, j, rfl, rfl, hj, hx, sx, sz, hq⟩ := hrel
    by_cases hlt : j < n
    · have hji : (j : Int) < (n : Int) := by omega
      obtain ⟨x', p1, e1, z1⟩ := add_fact x ⟨#[45]⟩ (by show x.size + 1 ≤ _; omega)
      have z1' : x'.size = x.size + 1 := z1
      have E1 := hideIt (show bl x' = List.replicate (j + 1) 45 by rw [e1, hx.out]; exact rep_snoc j 45)
      have SZ := hideIt (show x'.size = j + 1 by have := sz.out; omega)
      clear e1 z1 z1'
      go_wp2_with (fail)
      go_roundw
      case rel => exact ⟨x', j + 1, rfl, by go_num, by omega, E1, by have := SZ.out; omega, SZ, hq⟩
      case measure => simp [intOf]; omega
    · obtain rfl : j = n := by omega
      obtain ⟨t1, p1, e1, z1⟩ := add_fact ⟨#[105, 51, 50, 32, 109, 97, 105, 110, 40, 41, 123, 114, 101, 116, 117, 114, 110, 32]⟩ x (by show 18 + x.size ≤ _; omega)
      have z1' : t1.size = 18 + x.size := z1
      obtain ⟨t2, p2, e2, z2⟩ := add_fact t1 ⟨#[49, 105, 51, 50, 59, 125]⟩ (by show t1.size + 6 ≤ _; omega)
      have z2' : t2.size = t1.size + 6 := z2
      have E2 := hideIt (show bl t2 = minL j by rw [e2, e1, hx.out]; rfl)
      have S2 := hideIt (show t2.size ≤ 65536 by omega)
      clear e1 e2 z1 z2 z1' z2'
      go_wp2_with (fail)
      go_ret
      exact ⟨⟨t2, rfl, E2.out, S2.out⟩, hq.out⟩

set_option maxRecDepth 100000 in
set_option maxHeartbeats 4000000 in
theorem walk_k (z : Int) (k : Nat) (hk : z.tmod 80 = (k : Int)) (hk8 : k < 80) (z0 : 0 ≤ z) (z1 : z ≤ 255) (p1 e1 e2 : Nat) (b1 : resB (brkL k) = (e1, p1)) (b2 : resB (minL k) = (e2, 0)) (hc : (k ≤ 35 ∧ e1 = 0 ∧ e2 = 0) ∨ (35 < k ∧ k ≤ 39 ∧ e1 = 0 ∧ e2 = 4) ∨ (39 < k ∧ e1 = 4 ∧ p1 = 57 ∧ e2 = 4)) (w : World) (hL : LaidP w) :
    Calls Tryz.prog 7 #[.int .u8 z] w fun e w' => e = .returned (.bool true) ∧ Below w.heap.size w w' := by
  have HA := hideIt (awake_any w hL)
  have C1 := hideIt (fun X => brackets_any k (by omega) X)
  have C2 := hideIt (fun X => minuses_any k (by omega) X)
  have CP := hideIt (fun (s : ByteArray) (hs : s.size ≤ 65536) X q => parse_res s hs X (hL.keep (w' := X) q))
  have HB1 := hideIt b1
  have HB2 := hideIt b2
  have hw1 : IntKind.i64.wrap z = z := by rw [IntKind.wrap_i64]; omega
  clear hL b1 b2
  rcases hc with ⟨hk1, rfl, rfl⟩ | ⟨hk1, hk2, rfl, rfl⟩ | ⟨hk1, rfl, rfl, rfl⟩
  · have d1 : decide ((k : Int) ≤ 39) = true := by simp; omega
    have d2 : decide ((k : Int) ≤ 35) = true := by simp; omega
    have d3 : decide ((39 : Int) < (k : Int)) = false := by simp; omega
    go_enter Tryz.func7, Tryz.ntmps7
    go_wp2_with (first | (go_at_call 8; refine Calls.mono HA.out ?_; rintro e x1 ⟨rfl, q1⟩; have Q1 := hideIt q1; clear q1) | (go_at_call 17; refine Calls.mono (C1.out _) ?_; rintro e x2 ⟨⟨s1, rfl, hs1, hz1⟩, q2⟩; have Q2 := hideIt (Q1.out.trans q2); have K1 := hideIt (And.intro hs1 hz1); clear q2 hs1 hz1) | (go_at_call 18; refine Calls.mono (C2.out _) ?_; rintro e x5 ⟨⟨s2, rfl, hs2, hz2⟩, q5⟩; have Q5 := hideIt ((Q3.out.alloc _).trans q5); have K2 := hideIt (And.intro hs2 hz2); clear q5 hs2 hz2) | (go_at_call_of 9 (Value.string s1); refine Calls.mono (CP.out s1 K1.out.2 _ Q2.out) ?_; rw [K1.out.1, HB1.out]; rintro e x3 ⟨⟨v3, a3, n3, c3, rfl⟩, q3⟩; have Q3 := hideIt (Q2.out.trans q3); clear q3) | (go_at_call_of 9 (Value.string s2); refine Calls.mono (CP.out s2 K2.out.2 _ Q5.out) ?_; rw [K2.out.1, HB2.out]; rintro e x6 ⟨⟨v6, a6, n6, c6, rfl⟩, q6⟩; have Q6 := hideIt (Q5.out.trans q6); clear q6) | fail)
    go_ret
    exact ⟨rfl, Q6.out⟩
  · have d1 : decide ((k : Int) ≤ 39) = true := by simp; omega
    have d2 : decide ((k : Int) ≤ 35) = false := by simp; omega
    have d3 : decide ((39 : Int) < (k : Int)) = false := by simp; omega
    go_enter Tryz.func7, Tryz.ntmps7
    go_wp2_with (first | (go_at_call 8; refine Calls.mono HA.out ?_; rintro e x1 ⟨rfl, q1⟩; have Q1 := hideIt q1; clear q1) | (go_at_call 17; refine Calls.mono (C1.out _) ?_; rintro e x2 ⟨⟨s1, rfl, hs1, hz1⟩, q2⟩; have Q2 := hideIt (Q1.out.trans q2); have K1 := hideIt (And.intro hs1 hz1); clear q2 hs1 hz1) | (go_at_call 18; refine Calls.mono (C2.out _) ?_; rintro e x5 ⟨⟨s2, rfl, hs2, hz2⟩, q5⟩; have Q5 := hideIt ((Q3.out.alloc _).trans q5); have K2 := hideIt (And.intro hs2 hz2); clear q5 hs2 hz2) | (go_at_call_of 9 (Value.string s1); refine Calls.mono (CP.out s1 K1.out.2 _ Q2.out) ?_; rw [K1.out.1, HB1.out]; rintro e x3 ⟨⟨v3, a3, n3, c3, rfl⟩, q3⟩; have Q3 := hideIt (Q2.out.trans q3); clear q3) | (go_at_call_of 9 (Value.string s2); refine Calls.mono (CP.out s2 K2.out.2 _ Q5.out) ?_; rw [K2.out.1, HB2.out]; rintro e x6 ⟨⟨v6, a6, n6, c6, rfl⟩, q6⟩; have Q6 := hideIt (Q5.out.trans q6); clear q6) | fail)
    go_ret
    exact ⟨rfl, Q6.out⟩
  · have d1 : decide ((k : Int) ≤ 39) = false := by simp; omega
    have d2 : decide ((k : Int) ≤ 35) = false := by simp; omega
    have d3 : decide ((39 : Int) < (k : Int)) = true := by simp; omega
    go_enter Tryz.func7, Tryz.ntmps7
    go_wp2_with (first | (go_at_call 8; refine Calls.mono HA.out ?_; rintro e x1 ⟨rfl, q1⟩; have Q1 := hideIt q1; clear q1) | (go_at_call 17; refine Calls.mono (C1.out _) ?_; rintro e x2 ⟨⟨s1, rfl, hs1, hz1⟩, q2⟩; have Q2 := hideIt (Q1.out.trans q2); have K1 := hideIt (And.intro hs1 hz1); clear q2 hs1 hz1) | (go_at_call 18; refine Calls.mono (C2.out _) ?_; rintro e x5 ⟨⟨s2, rfl, hs2, hz2⟩, q5⟩; have Q5 := hideIt ((Q3.out.alloc _).trans q5); have K2 := hideIt (And.intro hs2 hz2); clear q5 hs2 hz2) | (go_at_call_of 9 (Value.string s1); refine Calls.mono (CP.out s1 K1.out.2 _ Q2.out) ?_; rw [K1.out.1, HB1.out]; rintro e x3 ⟨⟨v3, a3, n3, c3, rfl⟩, q3⟩; have Q3 := hideIt (Q2.out.trans q3); clear q3) | (go_at_call_of 9 (Value.string s2); refine Calls.mono (CP.out s2 K2.out.2 _ Q5.out) ?_; rw [K2.out.1, HB2.out]; rintro e x6 ⟨⟨v6, a6, n6, c6, rfl⟩, q6⟩; have Q6 := hideIt (Q5.out.trans q6); clear q6) | fail)
    go_ret
    exact ⟨rfl, Q6.out⟩

theorem walk (z : Int) (hz : (Lit.int .u8 z).wf = true) (w : World) (hL : LaidP w) :
    Calls Tryz.prog 7 #[.int .u8 z] w fun e w' => e = .returned (.bool true) ∧ Below w.heap.size w w' := by
  have z0 : 0 ≤ z ∧ z ≤ 255 := by simpa [Lit.wf, IntKind.min, IntKind.max, IntKind.signed, IntKind.bits] using hz
  obtain ⟨n, rfl⟩ : ∃ n : Nat, z = n := ⟨z.toNat, by omega⟩
  have hk : ((n : Int)).tmod 80 = ((n % 80 : Nat) : Int) := by rw [Int.tmod_eq_emod_of_nonneg (by omega)]; omega
  have hk8 : n % 80 < 80 := Nat.mod_lt _ (by decide)
  have b1 := brk_res (n % 80) hk8
  have b2 := min_res (n % 80) hk8
  by_cases h35 : n % 80 ≤ 35
  · rw [if_pos (by omega)] at b1
    rw [if_pos h35] at b2
    exact walk_k n (n % 80) hk hk8 z0.1 z0.2 0 0 0 b1 b2 (Or.inl ⟨h35, rfl, rfl⟩) w hL
  · rw [if_neg h35] at b2
    by_cases h39 : n % 80 ≤ 39
    · rw [if_pos h39] at b1
      exact walk_k n (n % 80) hk hk8 z0.1 z0.2 0 0 4 b1 b2 (Or.inr (Or.inl ⟨by omega, h39, rfl, rfl⟩)) w hL
    · rw [if_neg h39] at b1
      exact walk_k n (n % 80) hk hk8 z0.1 z0.2 57 4 4 b1 b2 (Or.inr (Or.inr ⟨by omega, rfl, rfl, rfl⟩)) w hL

set_option maxRecDepth 100000 in
theorem lifted (os : Os) (started : os.Started) (H : Type) (enc : TypeId × Value → H) :
    ReturnsInHanded {} Tryz.checked os 7 .any (fun w args => (Rows.parseDeepSpec.pre enc Tryz.prog Tryz.f7 [] false w args ∧ laidMetH Tryz.prog laidBoth w) ∧ sizedMet enc Tryz.prog Tryz.f7 (OpenSpec.ofChange Rows.parseDeepSpec) false w args)
      (Rows.parseDeepSpec.post enc Tryz.prog Tryz.f7 false true false false) := by
  refine returnsInHanded_of_change_and (C := Tryz.checked) (X := fun w _ => laidMetH Tryz.prog laidBoth w) (fun _ _ _ hh h => h.of_heap hh) own started (by kernel_rfl) Tryz.func7
    (ChangeSpec.witness_shaped (enc := enc) (C := Tryz.checked) (os := os) (X := fun w _ => laidMetH Tryz.prog laidBoth w) false (World.doorLaid Tryz.prog 39 os) #[.int .u8 0] 8 rfl (World.shaped_of_RefB (by kernel_rfl) (by kernel_rfl)) (by kernel_rfl) (by kernel_rfl) (by kernel_rfl) (door_met os _)) ?_
  intro W base args ds gs before hval0 hW _ hz hL _
  have hval : ∀ (j : Nat) t v, Tryz.f7.params[j]? = some t → args[j]? = some v → Value.okWide Tryz.prog W .any base t v := hval0
  have hW' := hW
  obtain ⟨p, q, hA0, hV, rfl, hfz, hnd⟩ := hW
  have hA : DataW.TrodAll enc Tryz.prog W 0 (fun _ => true) true Tryz.f7.params.toList args.toList ds p := hA0
  rw [Tryz.params7] at hA hval
  obtain ⟨v0, vs0, d0, ds0, p0, q0, hargs, rfl, rfl, h0, r0⟩ := trodAll_cons hA
  obtain ⟨rfl, rfl, rfl⟩ := trodAll_nil r0
  obtain rfl : args = #[v0] := by cases args; simp_all
  obtain ⟨rfl, rfl⟩ := trodVars_none hV
  have k0 := h0
  have lt0 : ∀ x ∈ p0, x.block < W.heap.size := by obtain ⟨m, hm⟩ := k0; exact DataW.trod_lt m _ _ _ hm
  obtain ⟨z0, rfl, _, _, wz0⟩ := open_int Tryz.underlying5 (hval 0 5 v0 rfl rfl) h0
  clear hA0 hval0
  refine (walk z0 wz0 W (of_laid hL)).mono fun e W' ⟨he, bel⟩ => ?_
  subst he
  exact ⟨_, rfl, _, _, _, [], _, [], hW', trodAll_mk1 (shut_bool Tryz.underlying4 _), (trodAll_cons_mk (Below.trod laidOut (by kernel_rfl) (of_decide_eq_true (by kernel_rfl)) k0 bel lt0) trodAll_mk0), rfl, bel.frame _, fun h => by cases h⟩

theorem over : Rows.ParseDeepSaid :=
  OpenClaim.holds_of_wide 7 Tryz.f7 rfl rfl rfl rfl rfl rfl rfl ⟨rfl, rfl, rfl, rfl, rfl⟩ rfl rfl rfl rfl rfl (by kernel_rfl) Tryz.func7 (by kernel_rfl)
    (of_decide_eq_true (by kernel_rfl)) (by unfold Func.isWrapper; first | (rw [if_pos (by decide +kernel)]; kernel_rfl) | (rw [if_neg (by decide +kernel)]; exact ⟨rfl, rfl⟩))
    (fun os started H enc _ => lifted os started H enc)

/-- THE STATEMENT -/
theorem proved : Rows.ParseDeepCardSaid :=
  Claim7.holds_tied_plain_at .later [] [.data, .data, .data] true (true, "38633228dfd1c445e316daefc5f5830a192a963cd2d43c2fb39f69237d0f4085") true
    over (fun _ h => by cases h) (by kernel_rfl) (fun _ h => by cases h) parseDeep_row_tie rfl ⟨rfl, rfl⟩ (by kernel_rfl) rfl
    (fun f fn hf hfn => by
      obtain rfl : f = 7 := Option.some.inj ((show Tryz.prog.funcNamed "burin/burinlaw05.ParseDeep" = some 7 by kernel_rfl).symm.trans hf) |>.symm
      obtain rfl : fn = Tryz.f7 := (Option.some.inj (Tryz.func7.symm.trans hfn)).symm
      exact ⟨by kernel_rfl, fun j t ht => by
        rw [Tryz.params7] at ht
        have hm : t ∈ [5] := by simpa using Array.mem_of_getElem? ht
        have hall : ([5].all fun u => !Tryz.prog.wantsStandIn u) = true := by kernel_rfl
        exact (show Tryz.prog.wantsStandIn t = false by simpa using List.all_eq_true.1 hall t hm)⟩)
    (by kernel_rfl)
#print axioms proved
end Go.Proofs.YtoilhcklflmamaaGreatDoor.parseDeep
