/-
  For every list of draws and every list of questions the statement TapeLogs returns true, and its arguments read as they did; no conditions.
-/
import Derived.Test.YteefahkjdpaogabRows
import Derived.WalkKit
import Derived.ProofKit
import Derived.OpenShut
import Derived.ShutString
import Derived.ChangeOld
import Derived.Below
import Derived.Test.YteefahkjdpaogabLogsA
import Derived.Deep.QuietTactic
import Derived.BigQuiet
import Derived.Deep.RegionHeld3
namespace Go.Proofs.Yteefahkjdpaogab.tapeLogs
open Go.ChangeShapes Go.WideShapes Go.ChangeAt Go.RowKit
open Go.ChangeMaps (open_string shut_string)
set_option linter.unusedVariables false

theorem own : ownKnob Try.prog.godebug = none := by kernel_rfl
theorem laidOut : laidOutB Try.prog = true := by kernel_rfl

theorem drew_add (w : World) (a b : Nat) : (w.drewN a).drewN b = w.drewN (a + b) := by
  simp [World.drewN, Nat.add_assoc]
theorem ret_true {b : Bool} (h : b = true) : Ending.returned (.bool b) = .returned (.bool true) := by rw [h]
theorem qtrans {a b c : World} (h : Below a.heap.size a b) (k : Below b.heap.size b c) : Below a.heap.size a c := h.trans (k.mono h.size)

set_option maxRecDepth 100000 in
set_option maxHeartbeats 1000000 in
theorem walk_long (a0 : Option Addr) (len0 cap0 : Nat) (v1 : Value) (w : World) (h : 4096 < len0) (hm : len0 ≤ maxLen) :
    Calls Try.prog 6 #[.slice a0 len0 cap0, v1] w fun e w' => e = .returned (.bool true) ∧ Below w.heap.size w w' := by
  have hd : decide ((4096 : Int) < (len0 : Int)) = true := by simp; omega
  unfold maxLen at hm
  go_enter Try.func6, Try.ntmps6
  go_wp2_with (first | (go_at_call 7; refine (awake_any _).mono ?_; rintro e x1 ⟨rfl, q1⟩))
  go_ret
  exact ⟨rfl, qtrans (by assumption) (by assumption)⟩

set_option maxRecDepth 100000 in
set_option maxHeartbeats 4000000 in
theorem walk_short (a0 : Option Addr) (len0 cap0 : Nat) (a1 : Option Addr) (len1 cap1 : Nat) (w : World) (xs : List Int) (h4 : ¬ 4096 < len0) (HL : Hid (xs.length = len0)) (HR : Hid (Reads .u64 w a0 xs)) (HW : Hid (∀ d ∈ xs, 0 ≤ d ∧ d ≤ 18446744073709551615)) (HA : Hid (Asks w a1 len1)) (hm1 : len1 ≤ 9223372036854775807) :
    Calls Try.prog 6 #[.slice a0 len0 cap0, .slice a1 len1 cap1] w fun e w' => e = .returned (.bool true) ∧ Below w.heap.size w w' := by
  have hd : decide ((4096 : Int) < (len0 : Int)) = false := by simp; omega
  go_enter Try.func6, Try.ntmps6
  go_wp2_with (first | (go_at_call 7; refine (awake_any _).mono ?_; rintro e x1 ⟨rfl, q1⟩; have Q1 := hideIt q1; clear q1) | (go_at_call 8; refine (new_any _ _ _ _ xs HL.out (by omega) (HR.out.keep (Below.trans Q1.out (F1.out.below (B := w.heap.size) Q1.out.size (fun _ h => h.elim)))) HW.out).mono ?_; rintro e x4 ⟨p2, rfl, t2, f2⟩; have S1 := hideIt (ls_start Q1.out T1.out F1.out t2 f2); clear t2 f2) | (go_at_call 8; refine (new_any _ _ _ _ xs HL.out (by omega) (HR.out.keep Q1.out) HW.out).mono ?_; rintro e x3 ⟨p1, rfl, t1, f1⟩; have T1 := hideIt t1; have F1 := hideIt f1; clear t1 f1))
  clear T1 F1 Q1
  go_loopw [9] (fun i w' => ∃ k : Nat, k ≤ len1 ∧ k ≤ 200 ∧ i = .int .i64 k ∧ LS w w' w.heap.size p1 p2 xs k) (fun i _ => 200 - (intOf i).toNat)
  case atStart => exact ⟨0, by omega, by omega, rfl, S1.out⟩
  case round =>
    obtain ⟨k, hk, hk2, rfl, hS⟩ := hrel
    clear S1
    have HS := hideIt hS
    clear hS
    by_cases c : k < len1 ∧ k < 200
    · obtain ⟨c1, c2⟩ := c
      obtain ⟨ab, ao, ha, hask⟩ : ∃ b off, a1 = some ⟨b, off, none⟩ ∧ ∀ i, i < len1 → ∃ (N : Int) (wa : Option Addr) (wl wc : Nat) (ws : List Int), w.cell? ⟨b, off + i * 2, none⟩ = some (.int .i64 N) ∧ w.cell? ⟨b, off + i * 2 + 1, none⟩ = some (.slice wa wl wc) ∧ N ≤ 9223372036854775807 ∧ ws.length = wl ∧ wl ≤ 9223372036854775807 ∧ Reads .i64 w wa ws := by
        rcases HA.out.2 with h | h
        · omega
        · exact h
      subst ha
      obtain ⟨N, wa, wl, wc, ws, cN, cW, hN, hwl, hwm, hws⟩ := hask k c1
      have hb : ab < w.heap.size := World.block_lt_of_cell? w _ cN
      have hcN : wr.cell? ⟨ab, ao + k * 2, none⟩ = some (.int .i64 N) := (HS.out.bel.cell (p := ⟨ab, ao + k * 2, none⟩) hb).trans cN
      have hcW : wr.cell? ⟨ab, ao + k * 2 + 1, none⟩ = some (.slice wa wl wc) := (HS.out.bel.cell (p := ⟨ab, ao + k * 2 + 1, none⟩) hb).trans cW
      have HWs := hideIt hws
      have HWl := hideIt hwl
      clear cN cW hask hws hwl
      by_cases c3 : 0 < wl
      · have hd3 : decide ((0 : Int) < (wl : Int)) = true := by simp; omega
        go_wp2_with (first | (go_at_call 9; refine (ls_pick _ wa wl wc ws HS.out (by omega) HWs.out HWl.out c3 hwm).mono ?_; rintro e y1 ⟨⟨v, rfl⟩, s1⟩; have HS1 := hideIt s1; clear s1))
        go_roundw
        case rel => exact ⟨k + 1, by omega, by omega, by go_num, HS1.out⟩
        case measure => simp [intOf]; omega
      · have hd3 : decide ((0 : Int) < (wl : Int)) = false := by simp; omega
        go_wp2_with (first | (go_at_call 11; refine (ls_below _ N HS.out hN (by omega)).mono ?_; rintro e y1 ⟨⟨v, rfl⟩, s1⟩; have HS1 := hideIt s1; clear s1))
        go_roundw
        case rel => exact ⟨k + 1, by omega, by omega, by go_num, HS1.out⟩
        case measure => simp [intOf]; omega
    · by_cases c1 : k < len1
      all_goals
        go_wp2_with (first | (go_at_call 13; refine (l2_start _ HS.out (by omega)).mono ?_; rintro e y1 ⟨lg, rfl, hlg, s1⟩; have HS1 := hideIt s1; clear s1; generalize wr.heap.size = lb at *))
        obtain ⟨L, hL⟩ : ∃ L, lg.length = L := ⟨_, rfl⟩
        have HLG := hideIt hL
        have hL200 : L ≤ 200 := by omega
        rw [hL]
        clear hL hlg
        go_loopw [11] (fun i w' => ∃ j : Nat, j ≤ L ∧ i = .int .i64 j ∧ L2 w w' w.heap.size p1 p2 xs lg lb j j) (fun i _ => L - (intOf i).toNat)
        case atStart => exact ⟨0, by omega, rfl, HS1.out⟩
        case round =>
          obtain ⟨j, hj, rfl, hS2⟩ := hrel
          have HS2 := hideIt hS2
          clear hS2 HS1 HS
          by_cases hlt : j < L
          · obtain ⟨cB, cV, fV⟩ := HS2.out.cells j (Nat.le_refl _) (by rw [HLG.out]; exact hlt)
            obtain ⟨q1, q2, q3, q4⟩ := vl_bd HS2.out.good j (by rw [HLG.out]; exact hlt)
            have HJ := hideIt (show j < lg.length by rw [HLG.out]; exact hlt)
            obtain ⟨n, hn⟩ : ∃ n, bd lg j = n := ⟨_, rfl⟩
            obtain ⟨x, hx⟩ : ∃ x, vl lg j = x := ⟨_, rfl⟩
            rw [hn] at cB q1 q2 q4
            rw [hx] at cV q3 q4
            have HNn := hideIt hn
            have HXx := hideIt hx
            have d1 : decide (n < 1) = false := by simp; omega
            have d2 : decide (x < 0) = false := by simp; omega
            have d3 : decide (n ≤ x) = false := by simp; omega
            have hji : (j : Int) < (L : Int) := by omega
            clear hn hx
            have HC : Hid (∀ W, L2 w W w.heap.size p1 p2 xs lg lb j j → Calls Try.prog 11 #[.pointer (some ⟨p2, 0, none⟩), .int .i64 n] W fun e w' => e = .returned (.int .i64 x) ∧ L2 w w' w.heap.size p1 p2 xs lg lb j (j + 1) ∧ w'.cell? ⟨lb, j * 2, none⟩ = some (.int .i64 n) ∧ w'.cell? ⟨lb, j * 2 + 1, none⟩ = some (.int .i64 x) ∧ w'.frozen? ⟨lb, j * 2 + 1, none⟩ = false) := fun W hW => by
              have := l2_below W hW HJ.out (by omega)
              rw [HNn.out, HXx.out] at this
              refine this.mono fun e w' ⟨he, h2⟩ => ⟨he, h2, ?_⟩
              have hc := h2.cells j (Nat.le_refl _) HJ.out
              rw [HNn.out, HXx.out] at hc
              exact hc
            go_wp2
            go_region_held3 (fun w' => w'.cell? ⟨lb, j * 2, none⟩ = some (.int .i64 n) ∧ w'.cell? ⟨lb, j * 2 + 1, none⟩ = some (.int .i64 x)) (go_keep) (first | (go_at_call 11; refine (HC.out _ ?_).mono ?_; (first | exact HS2.out | exact HS2.out.drewN _); rintro e y1 ⟨rfl, s1, k1, k2, k3⟩; have HS3 := hideIt s1; clear s1))
            go_wp2
            go_roundw
            case rel => exact ⟨j + 1, by omega, by go_num, l2_set HS3.out _⟩
            case measure => simp [intOf]; omega
          · have ej : j = L := by omega
            subst ej
            go_wp2_with (first | (go_at_call 13; refine (l2_log _ HS2.out (by rw [HLG.out]; omega)).mono ?_; rw [HLG.out]; rintro e y1 ⟨rfl, hcs, s1⟩; have HS3 := hideIt s1; have HC := hideIt hcs; clear s1 hcs; generalize wr.heap.size = mb at *))
            have HGood := hideIt HS2.out.good
            clear HS2
            go_loop [13] (fun i => ∃ r : Nat, r ≤ j ∧ i = .int .i64 r) (fun i => j - (intOf i).toNat)
            case atStart => exact ⟨0, by omega, rfl⟩
            case round =>
              obtain ⟨r, hr, rfl⟩ := hrel
              by_cases hlt2 : r < j
              · have hc := HC.out r hlt2
                obtain ⟨_, _, q3, _⟩ := vl_bd HGood.out r (by rw [HLG.out]; exact hlt2)
                generalize vl lg r = x at hc q3
                have d2 : decide (x < 0) = false := by simp; omega
                go_wp2
                go_round
                case rel => exact ⟨r + 1, by omega, by go_num⟩
                case measure => simp [intOf]; omega
              · obtain ⟨M, hM⟩ : ∃ M, min j xs.length = M := ⟨_, rfl⟩
                have hMle : M ≤ len0 := by have := HL.out; omega
                have HMM : Hid (min lg.length xs.length = M) := by show _ = _; rw [HLG.out]; exact hM
                have HS4 : Hid (L2 w y1 w.heap.size p1 p2 xs lg lb j lg.length) := by
                  have := HS3.out
                  show L2 _ _ _ _ _ _ _ _ _ _
                  rw [HLG.out]
                  exact this
                clear hM HS3 HC
                have U1 : Hid (∀ W, (∃ kd, W = y1.drewN kd) → Calls Try.prog 14 #[.pointer (some ⟨p1, 0, none⟩)] W fun e w' => e = .returned (.int .i64 M) ∧ w' = W) := fun W ⟨kd, hW⟩ => by
                  subst hW
                  have := l2_used1 _ (HS4.out.drewN kd)
                  rw [HMM.out] at this
                  exact this
                have U2 : Hid (∀ W, (∃ kd, W = y1.drewN kd) → Calls Try.prog 14 #[.pointer (some ⟨p2, 0, none⟩)] W fun e w' => e = .returned (.int .i64 M) ∧ w' = W) := fun W ⟨kd, hW⟩ => by
                  subst hW
                  have := l2_used2 _ (HS4.out.drewN kd)
                  rw [HMM.out] at this
                  exact this
                have V1 : Hid (∀ W, (∃ kd, W = y1.drewN kd) → Calls Try.prog 15 #[.pointer (some ⟨p1, 0, none⟩)] W fun e w' => e = .returned (.int .i64 ((len0 : Int) - M)) ∧ ∃ n, w' = y1.drewN n) := fun W ⟨kd, hW⟩ => by
                  subst hW
                  have := l2_left1 _ (HS4.out.drewN kd)
                  rw [HMM.out, HL.out] at this
                  exact this.mono fun e w' ⟨he, n, hn⟩ => ⟨he, kd + n, hn.trans (drew_add y1 kd n)⟩
                have V2 : Hid (∀ W, (∃ kd, W = y1.drewN kd) → Calls Try.prog 15 #[.pointer (some ⟨p2, 0, none⟩)] W fun e w' => e = .returned (.int .i64 ((len0 : Int) - M)) ∧ ∃ n, w' = y1.drewN n) := fun W ⟨kd, hW⟩ => by
                  subst hW
                  have := l2_left2 _ (HS4.out.drewN kd)
                  rw [HMM.out, HL.out] at this
                  exact this.mono fun e w' ⟨he, n, hn⟩ => ⟨he, kd + n, hn.trans (drew_add y1 kd n)⟩
                have BL := hideIt HS4.out.bel
                clear HS4
                go_wp2_with (first | (go_at_call_of 14 (Value.pointer (some ⟨p1, 0, none⟩)); refine (U1.out _ ?_).mono ?_; (first | exact ⟨0, rfl⟩ | exact ⟨_, rfl⟩); rintro e y2 ⟨rfl, rfl⟩) | (go_at_call 14; refine (U2.out _ ?_).mono ?_; (first | exact ⟨0, rfl⟩ | exact ⟨_, rfl⟩); rintro e y2 ⟨rfl, rfl⟩) | (go_at_call_of 15 (Value.pointer (some ⟨p1, 0, none⟩)); refine (V1.out _ ?_).mono ?_; (first | exact ⟨0, rfl⟩ | exact ⟨_, rfl⟩); rintro e y2 ⟨rfl, nd, rfl⟩) | (go_at_call 15; refine (V2.out _ ?_).mono ?_; (first | exact ⟨0, rfl⟩ | exact ⟨_, rfl⟩); rintro e y2 ⟨rfl, nd, rfl⟩))
                go_ret
                refine ⟨?_, by repeat (first | exact BL.out | apply below_drewN)⟩
                first | rfl | exact ret_true (by simp; omega)

theorem walk (a0 : Option Addr) (len0 cap0 : Nat) (z0 : List Int) (a1 : Option Addr) (len1 cap1 : Nat) (w : World) (w0 : IsRow .u64 w a0 len0 cap0 z0) (w1 : Asks w a1 len1) :
    Calls Try.prog 6 #[.slice a0 len0 cap0, .slice a1 len1 cap1] w fun e w' => e = .returned (.bool true) ∧ Below w.heap.size w w' := by
  by_cases h : 4096 < len0
  · refine walk_long a0 len0 cap0 _ w h ?_
    rcases w0 with ⟨_, h1, _, _⟩ | ⟨x, _, h1, h2, _⟩
    · omega
    · omega
  · exact walk_short a0 len0 cap0 a1 len1 cap1 w (z0.take len0) h (row_len w0) (row_reads w0) (fun d hd => wf_u64 (row_wf w0 d hd)) w1 w1.1

/-! ### THE ROW's STEP: WRITTEN OUT: LEAVE IT -/
set_option maxRecDepth 100000 in
theorem lifted (os : Os) (started : os.Started) (H : Type) (enc : TypeId × Value → H) :
    ReturnsInHanded {} Try.checked os 6 .any (Rows.tapeLogsSpec.pre6 enc Try.prog Try.f6 Rows.tapeLogsRow.domain false) (Rows.tapeLogsSpec.post enc Try.prog Try.f6 false true false false) := by
  refine returnsInHanded_of_change (C := Try.checked) own started (by kernel_rfl) Try.func6
    (ChangeSpec.witness6 (enc := enc) (C := Try.checked) false ⟨#[], #[.slice none 0 0, .slice none 0 0], []⟩ 8 (by kernel_rfl) (by kernel_rfl) (by kernel_rfl) (by kernel_rfl)) ?_
  intro W base args ds gs before hval0 hW hcnd _
  have hval : ∀ (j : Nat) t v, Try.f6.params[j]? = some t → args[j]? = some v → Value.okWide Try.prog W .any base t v := hval0
  have hW' := hW
  obtain ⟨p, q, hA0, hV, rfl, hfz, hnd⟩ := hW
  have hA : DataW.TrodAll enc Try.prog W 0 (fun _ => true) true Try.f6.params.toList args.toList ds p := hA0
  rw [Try.params6] at hA hval
  obtain ⟨v0, vs0, d0, ds0, p0, q0, hargs, rfl, rfl, h0, r0⟩ := trodAll_cons hA
  obtain ⟨v1, vs1, d1, ds1, p1, q1, rfl, rfl, rfl, h1, r1⟩ := trodAll_cons r0
  obtain ⟨rfl, rfl, rfl⟩ := trodAll_nil r1
  obtain rfl : args = #[v0, v1] := by cases args; simp_all
  obtain ⟨rfl, rfl⟩ := trodVars_none hV
  obtain ⟨a0, len0, cap0, rfl⟩ := okWide_slice Try.underlying22 (hval 0 22 v0 rfl rfl)
  have k0 := h0
  have lt0 : ∀ x ∈ p0, x.block < W.heap.size := by obtain ⟨m, hm⟩ := k0; exact DataW.trod_lt m _ _ _ hm
  obtain ⟨z0, w0⟩ : ∃ zs, IsRow .u64 W a0 len0 cap0 zs := by
    obtain ⟨fuel, hf⟩ := h0
    rcases open_ints Try.underlying22 Try.underlying43 (by kernel_rfl) hf with ⟨hcs, _⟩ | ⟨x, l, c, zs, hcs, _, hl, hm, hz, _, hcell, hwz⟩
    · simp [Value.cells] at hcs
      obtain ⟨rfl, rfl, rfl⟩ := hcs
      exact ⟨[], .inl ⟨rfl, rfl, rfl, rfl⟩⟩
    · simp [Value.cells] at hcs
      obtain ⟨rfl, rfl, rfl⟩ := hcs
      exact ⟨zs, .inr ⟨_, rfl, hl, hm, by simpa using hz, hcell, hwz⟩⟩
  obtain ⟨a1, len1, cap1, rfl⟩ := okWide_slice Try.underlying23 (hval 1 23 v1 rfl rfl)
  have k1 := h1
  have lt1 : ∀ x ∈ p1, x.block < W.heap.size := by obtain ⟨m, hm⟩ := k1; exact DataW.trod_lt m _ _ _ hm
  have w1 : Asks W a1 len1 := by
    obtain ⟨fuel, hf⟩ := h1
    exact asks_of hf
  clear hA0 hval0
  refine (walk a0 len0 cap0 z0 a1 len1 cap1 W w0 w1).mono fun e W' ⟨he, bel⟩ => ?_
  subst he
  exact ⟨_, rfl, _, _, _, [], _, [], hW', trodAll_mk1 (shut_bool Try.underlying4 _), (trodAll_cons_mk (Below.trod laidOut (by kernel_rfl) (of_decide_eq_true (by kernel_rfl)) k0 bel lt0) (trodAll_cons_mk (Below.trod laidOut (by kernel_rfl) (of_decide_eq_true (by kernel_rfl)) k1 bel lt1) trodAll_mk0)), rfl, bel.frame _, fun h => by cases h⟩

theorem over : Rows.tapeLogsRow.holds Try.pinned (OpenSpec.ofChange Rows.tapeLogsSpec) :=
  OpenClaim.holds_of_wide 6 Try.f6 rfl rfl rfl rfl rfl rfl rfl ⟨rfl, rfl, rfl, rfl, rfl⟩ rfl rfl rfl rfl rfl (by kernel_rfl) Try.func6 (by kernel_rfl)
    (of_decide_eq_true (by kernel_rfl)) (by unfold Func.isWrapper; first | (rw [if_pos (by decide +kernel)]; kernel_rfl) | (rw [if_neg (by decide +kernel)]; exact ⟨rfl, rfl⟩))
    (fun os started H enc _ => lifted os started H enc)

/-- ████ THE STATEMENT ████ -/
theorem proved : Rows.TapeLogsSaid := over
#print axioms proved
end Go.Proofs.Yteefahkjdpaogab.tapeLogs
