/-
  For every list of draws and every list of questions the statement TapePlays returns true, and its arguments read as they did; no conditions.
-/
import Derived.Test.YteefahkjdpaogabRows
import Derived.WalkKit
import Derived.ProofKit
import Derived.OpenShut
import Derived.ShutString
import Derived.ChangeOld
import Derived.Below
import Derived.Test.YteefahkjdpaogabPlaysA
import Derived.Deep.QuietTactic
import Derived.BigQuiet
import Derived.Deep.RegionHeld3
namespace Go.Proofs.Yteefahkjdpaogab.tapePlays
open Go.ChangeShapes Go.WideShapes Go.ChangeAt Go.RowKit
open Go.ChangeMaps (open_string shut_string)
set_option linter.unusedVariables false

theorem own : ownKnob Try.prog.godebug = none := by kernel_rfl
theorem laidOut : laidOutB Try.prog = true := by kernel_rfl

theorem ret_true {b : Bool} (h : b = true) : Ending.returned (.bool b) = .returned (.bool true) := by rw [h]
theorem qtrans {a b c : World} (h : Below a.heap.size a b) (k : Below b.heap.size b c) : Below a.heap.size a c := h.trans (k.mono h.size)

set_option maxRecDepth 100000 in
set_option maxHeartbeats 1000000 in
theorem walk_long (a0 : Option Addr) (len0 cap0 : Nat) (v1 : Value) (w : World) (h : 4096 < len0) (hm : len0 ≤ maxLen) :
    Calls Try.prog 3 #[.slice a0 len0 cap0, v1] w fun e w' => e = .returned (.bool true) ∧ Below w.heap.size w w' := by
  have hd : decide ((4096 : Int) < (len0 : Int)) = true := by simp; omega
  unfold maxLen at hm
  go_enter Try.func3, Try.ntmps3
  go_wp2_with (first | (go_at_call 7; refine (awake_any _).mono ?_; rintro e x1 ⟨rfl, q1⟩) | (go_at_call 8; refine (new_long _ _ _ _ h hm).mono ?_; rintro e x2 ⟨rfl, rfl⟩))
  go_ret
  exact ⟨rfl, by assumption⟩

set_option maxRecDepth 100000 in
set_option maxHeartbeats 4000000 in
theorem walk_short (a0 : Option Addr) (len0 cap0 : Nat) (a1 : Option Addr) (len1 cap1 : Nat) (w : World) (xs : List Int) (h4 : ¬ 4096 < len0) (HL : Hid (xs.length = len0)) (HR : Hid (Reads .u64 w a0 xs)) (HW : Hid (∀ d ∈ xs, 0 ≤ d ∧ d ≤ 18446744073709551615)) (HA : Hid (Asks w a1 len1)) (hm1 : len1 ≤ 9223372036854775807) :
    Calls Try.prog 3 #[.slice a0 len0 cap0, .slice a1 len1 cap1] w fun e w' => e = .returned (.bool true) ∧ Below w.heap.size w w' := by
  have hd : decide ((4096 : Int) < (len0 : Int)) = false := by simp; omega
  go_enter Try.func3, Try.ntmps3
  go_wp2_with (first | (go_at_call 7; refine (awake_any _).mono ?_; rintro e x1 ⟨rfl, q1⟩; have Q1 := hideIt q1; clear q1) | (go_at_call 8; refine (new_any _ _ _ _ xs HL.out (by omega) (HR.out.keep Q1.out) HW.out).mono ?_; rintro e x3 ⟨p1, rfl, t1, f1⟩; have S1 := hideIt (ps_start (Lc := cap0) Q1.out t1 f1 HR.out HL.out (by omega) HW.out); clear t1 f1))
  clear Q1
  generalize x3.heap.size = p2 at *
  go_loopw [8] (fun i w' => ∃ (k u : Nat) (lg : List (Int × Int)), k ≤ len1 ∧ k ≤ 500 ∧ i = .int .i64 k ∧ lg.length ≤ k ∧ PS w w' p1 p2 xs a0 len0 cap0 u lg u lg) (fun i _ => 500 - (intOf i).toNat)
  case atStart => exact ⟨0, 0, [], by omega, by omega, rfl, by simp, S1.out⟩
  case round =>
    obtain ⟨k, u, lg, hk, hk2, rfl, hlg, hS⟩ := hrel
    clear S1
    have HS := hideIt hS
    clear hS
    by_cases c : k < len1 ∧ k < 500
    · obtain ⟨c1, c2⟩ := c
      obtain ⟨ab, ao, ha, hask⟩ : ∃ b off, a1 = some ⟨b, off, none⟩ ∧ ∀ i, i < len1 → ∃ (N : Int) (wa : Option Addr) (wl wc : Nat) (ws : List Int), w.cell? ⟨b, off + i * 2, none⟩ = some (.int .i64 N) ∧ w.cell? ⟨b, off + i * 2 + 1, none⟩ = some (.slice wa wl wc) ∧ N ≤ 9223372036854775807 ∧ ws.length = wl ∧ wl ≤ 9223372036854775807 ∧ Reads .i64 w wa ws := by
        rcases HA.out.2 with h | h
        · omega
        · exact h
      subst ha
      obtain ⟨N, wa, wl, wc, ws, cN, cW, hN, hwl, hwm, hws⟩ := hask k c1
      have hb : ab < w.heap.size := World.block_lt_of_cell? w _ cN
      have CN := hideIt cN
      have CW := hideIt cW
      have hcN : wr.cell? ⟨ab, ao + k * 2, none⟩ = some (.int .i64 N) := (HS.out.bel.cell (p := ⟨ab, ao + k * 2, none⟩) hb).trans cN
      have hcW : wr.cell? ⟨ab, ao + k * 2 + 1, none⟩ = some (.slice wa wl wc) := (HS.out.bel.cell (p := ⟨ab, ao + k * 2 + 1, none⟩) hb).trans cW
      have HWs := hideIt hws
      have HWl := hideIt hwl
      have hki : (k : Int) < (len1 : Int) := by omega
      have HGL := hideIt hlg
      clear cN cW hask hws hwl hlg
      by_cases c3 : 0 < wl
      · have hd3 : decide ((0 : Int) < (wl : Int)) = true := by simp; omega
        have P1 : Hid (∀ W, PS w W p1 p2 xs a0 len0 cap0 u lg u lg → Calls Try.prog 9 #[.pointer (some ⟨p1, 0, none⟩), .slice wa wl wc] W fun e w' => e = .returned (.int .i64 (pickV xs u ws)) ∧ PS w w' p1 p2 xs a0 len0 cap0 (nxtZ xs u (askN ws)) (logZ xs u (askN ws) lg) u lg ∧ w'.cell? ⟨ab, ao + k * 2 + 1, none⟩ = some (.slice wa wl wc)) := fun W hW =>
          (ps_pick1 W wa wl wc ws hW HWs.out HWl.out c3 hwm (by have := HGL.out; omega)).mono fun e w' ⟨he, h2⟩ => ⟨he, h2, (h2.bel.cell (p := ⟨ab, ao + k * 2 + 1, none⟩) hb).trans CW.out⟩
        have P2 : Hid (∀ W, PS w W p1 p2 xs a0 len0 cap0 (nxtZ xs u (askN ws)) (logZ xs u (askN ws) lg) u lg → Calls Try.prog 10 #[.pointer (some ⟨p2, 0, none⟩), .slice wa wl wc] W fun e w' => e = .returned (.int .i64 (pickV xs u ws)) ∧ PS w w' p1 p2 xs a0 len0 cap0 (nxtZ xs u (askN ws)) (logZ xs u (askN ws) lg) (nxtZ xs u (askN ws)) (logZ xs u (askN ws) lg) ∧ w'.cell? ⟨ab, ao + k * 2 + 1, none⟩ = some (.slice wa wl wc)) := fun W hW =>
          (ps_pick2 W wa wl wc ws hW HWs.out HWl.out c3 hwm (by have := HGL.out; omega)).mono fun e w' ⟨he, h2⟩ => ⟨he, h2, (h2.bel.cell (p := ⟨ab, ao + k * 2 + 1, none⟩) hb).trans CW.out⟩
        have hlen := hideIt (log_le (ds := xs) (lg := lg) u (askN ws))
        generalize pickV xs u ws = pv at *
        go_wp2
        go_region_held3 (fun w' => w'.cell? ⟨ab, ao + k * 2 + 1, none⟩ = some (.slice wa wl wc)) (go_keep) (first | (go_at_call 9; refine (P1.out _ ?_).mono ?_; (first | exact HS.out | exact HS.out.drewN _); rintro e y1 ⟨rfl, s1, k1⟩; have HS1 := hideIt s1; clear s1) | (go_at_call 10; refine (P2.out _ ?_).mono ?_; (first | exact HS1.out | exact HS1.out.drewN _); rintro e y2 ⟨rfl, s2, k2⟩; have HS2 := hideIt s2; clear s2))
        go_wp2
        go_roundw
        case rel => exact ⟨k + 1, _, _, by omega, by omega, by go_num, by have := hlen.out; have := HGL.out; omega, HS2.out⟩
        case measure => simp [intOf]; omega
      · have hd3 : decide ((0 : Int) < (wl : Int)) = false := by simp; omega
        have P1 : Hid (∀ W, PS w W p1 p2 xs a0 len0 cap0 u lg u lg → Calls Try.prog 11 #[.pointer (some ⟨p1, 0, none⟩), .int .i64 N] W fun e w' => e = .returned (.int .i64 (valZ xs u N)) ∧ PS w w' p1 p2 xs a0 len0 cap0 (nxtZ xs u N) (logZ xs u N lg) u lg ∧ w'.cell? ⟨ab, ao + k * 2, none⟩ = some (.int .i64 N)) := fun W hW =>
          (ps_below1 W N hW hN (by have := HGL.out; omega)).mono fun e w' ⟨he, h2⟩ => ⟨he, h2, (h2.bel.cell (p := ⟨ab, ao + k * 2, none⟩) hb).trans CN.out⟩
        have P2 : Hid (∀ W, PS w W p1 p2 xs a0 len0 cap0 (nxtZ xs u N) (logZ xs u N lg) u lg → Calls Try.prog 12 #[.pointer (some ⟨p2, 0, none⟩), .int .i64 N] W fun e w' => e = .returned (.int .i64 (valZ xs u N)) ∧ PS w w' p1 p2 xs a0 len0 cap0 (nxtZ xs u N) (logZ xs u N lg) (nxtZ xs u N) (logZ xs u N lg) ∧ w'.cell? ⟨ab, ao + k * 2, none⟩ = some (.int .i64 N)) := fun W hW =>
          (ps_below2 W N hW hN (by have := HGL.out; omega)).mono fun e w' ⟨he, h2⟩ => ⟨he, h2, (h2.bel.cell (p := ⟨ab, ao + k * 2, none⟩) hb).trans CN.out⟩
        have hlen := hideIt (log_le (ds := xs) (lg := lg) u N)
        generalize valZ xs u N = pv at *
        go_wp2
        go_region_held3 (fun w' => w'.cell? ⟨ab, ao + k * 2, none⟩ = some (.int .i64 N)) (go_keep) (first | (go_at_call 11; refine (P1.out _ ?_).mono ?_; (first | exact HS.out | exact HS.out.drewN _); rintro e y1 ⟨rfl, s1, k1⟩; have HS1 := hideIt s1; clear s1) | (go_at_call 12; refine (P2.out _ ?_).mono ?_; (first | exact HS1.out | exact HS1.out.drewN _); rintro e y2 ⟨rfl, s2, k2⟩; have HS2 := hideIt s2; clear s2))
        go_wp2
        go_roundw
        case rel => exact ⟨k + 1, _, _, by omega, by omega, by go_num, by have := hlen.out; have := HGL.out; omega, HS2.out⟩
        case measure => simp [intOf]; omega
    · obtain ⟨L, hL⟩ : ∃ L, lg.length = L := ⟨_, rfl⟩
      have hL500 : L ≤ 500 := by omega
      have HLG := hideIt hL
      have hule := HS.out.ule
      clear hL hlg
      by_cases c1 : k < len1
      all_goals
        go_wp2_with (first | (go_at_call 13; refine (ps_log _ L HS.out HLG.out (by omega)).mono ?_; rintro e y1 ⟨rfl, s1, ⟨ba, bc, e2, e1⟩, hpe⟩; have HS1 := hideIt s1; have HPE := hideIt hpe; clear s1 hpe; generalize wr.heap.size = lb at *))
        have U1 : Hid (∀ n, Calls Try.prog 14 #[.pointer (some ⟨p1, 0, none⟩)] (y1.drewN n) fun e w' => e = .returned (.int .i64 u) ∧ w' = y1.drewN n) := fun n => ps_used _ (HS1.out.drewN n)
        have V1 : Hid (∀ n, Calls Try.prog 15 #[.pointer (some ⟨p1, 0, none⟩)] (y1.drewN n) fun e w' => e = .returned (.int .i64 ((len0 : Int) - u)) ∧ ∃ m, w' = (y1.drewN n).drewN m) := fun n => ps_left _ (HS1.out.drewN n)
        have n1 : ((L : Int) != (L : Int)) = false := by simp
        have n2 : ((u : Int) != (u : Int)) = false := by simp
        go_quiet ((first | (go_at_call 14; exact Calls.quiet_of_same (U1.out _)) | (go_at_call 15; exact Calls.quiet_of (V1.out _))))
        go_wp2
        go_loopw [10] (fun i w' => ∃ r : Nat, r ≤ L ∧ i = .int .i64 r ∧ (0 < L → ∃ bb vb bc vc, PE w w' lb p2 bb vb bc vc L u lg) ∧ Below w.heap.size w w') (fun i _ => L - (intOf i).toNat)
        case atStart => exact ⟨0, by omega, rfl, fun h => by obtain ⟨bb, vb, bc', vc', hp⟩ := HPE.out h; exact ⟨bb, vb, bc', vc', hp.drewN _⟩, below_drewN HS1.out.bel _⟩
        case round =>
          obtain ⟨r, hr, rfl, hpe, hbel⟩ := hrel
          have HP2 := hideIt hpe
          have HB2 := hideIt hbel
          clear hpe hbel HS1 HPE U1 V1 e1 e2
          by_cases hlt : r < L
          · obtain ⟨bb, vb, bc', vc', hp⟩ := HP2.out (by omega)
            have HP3 := hideIt hp
            obtain ⟨l1, l2⟩ := hp.lc r hlt
            obtain ⟨r1, r2⟩ := hp.rc r hlt
            have q2 := hp.c2
            have q3 := hp.c3
            have hri : (r : Int) < (L : Int) := by omega
            clear hp
            generalize bd lg r = x at l1 r1
            generalize vl lg r = y at l2 r2
            have m1 : (x != x) = false := by simp
            have m2 : (y != y) = false := by simp
            go_wp2
            go_quiet (fail)
            go_wp2
            go_roundw
            case rel => exact ⟨r + 1, by omega, by go_num, fun _ => ⟨bb, vb, bc', vc', HP3.out.drewN _⟩, below_drewN HB2.out _⟩
            case measure => simp [intOf]; omega
          · go_wp2
            go_ret
            exact ⟨rfl, HB2.out⟩

theorem walk (a0 : Option Addr) (len0 cap0 : Nat) (z0 : List Int) (a1 : Option Addr) (len1 cap1 : Nat) (w : World) (w0 : IsRow .u64 w a0 len0 cap0 z0) (w1 : Asks w a1 len1) :
    Calls Try.prog 3 #[.slice a0 len0 cap0, .slice a1 len1 cap1] w fun e w' => e = .returned (.bool true) ∧ Below w.heap.size w w' := by
  by_cases h : 4096 < len0
  · refine walk_long a0 len0 cap0 _ w h ?_
    rcases w0 with ⟨_, h1, _, _⟩ | ⟨x, _, h1, h2, _⟩
    · omega
    · omega
  · exact walk_short a0 len0 cap0 a1 len1 cap1 w (z0.take len0) h (row_len w0) (row_reads w0) (fun d hd => wf_u64 (row_wf w0 d hd)) w1 w1.1

/-! ### THE ROW's STEP: WRITTEN OUT: LEAVE IT -/
set_option maxRecDepth 100000 in
theorem lifted (os : Os) (started : os.Started) (H : Type) (enc : TypeId × Value → H) :
    ReturnsInHanded {} Try.checked os 3 .any (Rows.tapePlaysSpec.pre6 enc Try.prog Try.f3 Rows.tapePlaysRow.domain false) (Rows.tapePlaysSpec.post enc Try.prog Try.f3 false true false false) := by
  refine returnsInHanded_of_change (C := Try.checked) own started (by kernel_rfl) Try.func3
    (ChangeSpec.witness6 (enc := enc) (C := Try.checked) false ⟨#[], #[.slice none 0 0, .slice none 0 0], []⟩ 8 (by kernel_rfl) (by kernel_rfl) (by kernel_rfl) (by kernel_rfl)) ?_
  intro W base args ds gs before hval0 hW hcnd _
  have hval : ∀ (j : Nat) t v, Try.f3.params[j]? = some t → args[j]? = some v → Value.okWide Try.prog W .any base t v := hval0
  have hW' := hW
  obtain ⟨p, q, hA0, hV, rfl, hfz, hnd⟩ := hW
  have hA : DataW.TrodAll enc Try.prog W 0 (fun _ => true) true Try.f3.params.toList args.toList ds p := hA0
  rw [Try.params3] at hA hval
  obtain ⟨v0, vs0, d0, ds0, p0, q0, hargs, rfl, rfl, h0, r0⟩ := trodAll_cons hA
  obtain ⟨v1, vs1, d1, ds1, p1, q1, rfl, rfl, rfl, h1, r1⟩ := trodAll_cons r0
  obtain ⟨rfl, rfl, rfl⟩ := trodAll_nil r1
  obtain rfl : args = #[v0, v1] := by cases args; simp_all
  obtain ⟨rfl, rfl⟩ := trodVars_none hV
  obtain ⟨a0, len0, cap0, rfl⟩ := okWide_slice Try.underlying22 (hval 0 22 v0 rfl rfl)
  have k0 := h0
  have lt0 : ∀ x ∈ p0, x.block < W.heap.size := by obtain ⟨m, hm⟩ := k0; exact DataW.trod_lt m _ _ _ hm
  obtain ⟨z0, w0⟩ : ∃ zs, IsRow .u64 W a0 len0 cap0 zs := by
    obtain ⟨fuel, hf⟩ := h0
    rcases open_ints Try.underlying22 Try.underlying43 (by kernel_rfl) hf with ⟨hcs, _⟩ | ⟨x, l, c, zs, hcs, _, hl, hm, hz, _, hcell, hwz⟩
    · simp [Value.cells] at hcs
      obtain ⟨rfl, rfl, rfl⟩ := hcs
      exact ⟨[], .inl ⟨rfl, rfl, rfl, rfl⟩⟩
    · simp [Value.cells] at hcs
      obtain ⟨rfl, rfl, rfl⟩ := hcs
      exact ⟨zs, .inr ⟨_, rfl, hl, hm, by simpa using hz, hcell, hwz⟩⟩
  obtain ⟨a1, len1, cap1, rfl⟩ := okWide_slice Try.underlying23 (hval 1 23 v1 rfl rfl)
  have k1 := h1
  have lt1 : ∀ x ∈ p1, x.block < W.heap.size := by obtain ⟨m, hm⟩ := k1; exact DataW.trod_lt m _ _ _ hm
  have w1 : Asks W a1 len1 := by
    obtain ⟨fuel, hf⟩ := h1
    exact asks_of hf
  clear hA0 hval0
  refine (walk a0 len0 cap0 z0 a1 len1 cap1 W w0 w1).mono fun e W' ⟨he, bel⟩ => ?_
  subst he
  exact ⟨_, rfl, _, _, _, [], _, [], hW', trodAll_mk1 (shut_bool Try.underlying4 _), (trodAll_cons_mk (Below.trod laidOut (by kernel_rfl) (of_decide_eq_true (by kernel_rfl)) k0 bel lt0) (trodAll_cons_mk (Below.trod laidOut (by kernel_rfl) (of_decide_eq_true (by kernel_rfl)) k1 bel lt1) trodAll_mk0)), rfl, bel.frame _, fun h => by cases h⟩

theorem over : Rows.tapePlaysRow.holds Try.pinned (OpenSpec.ofChange Rows.tapePlaysSpec) :=
  OpenClaim.holds_of_wide 3 Try.f3 rfl rfl rfl rfl rfl rfl rfl ⟨rfl, rfl, rfl, rfl, rfl⟩ rfl rfl rfl rfl rfl (by kernel_rfl) Try.func3 (by kernel_rfl)
    (of_decide_eq_true (by kernel_rfl)) (by unfold Func.isWrapper; first | (rw [if_pos (by decide +kernel)]; kernel_rfl) | (rw [if_neg (by decide +kernel)]; exact ⟨rfl, rfl⟩))
    (fun os started H enc _ => lifted os started H enc)

/-- ████ THE STATEMENT ████ -/
theorem proved : Rows.TapePlaysSaid := over
#print axioms proved
end Go.Proofs.Yteefahkjdpaogab.tapePlays
