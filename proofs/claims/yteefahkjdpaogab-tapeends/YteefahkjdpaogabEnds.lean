/-
  For every list of draws and every list of bounds the statement TapeEnds returns true, and its arguments read as they did; no conditions.
-/
import Derived.Test.YteefahkjdpaogabRows
import Derived.WalkKit
import Derived.ProofKit
import Derived.OpenShut
import Derived.ShutString
import Derived.ChangeOld
import Derived.Below
import Derived.Test.YteefahkjdpaogabEndsA
namespace Go.Proofs.Yteefahkjdpaogab.tapeEnds
open Go.ChangeShapes Go.WideShapes Go.ChangeAt Go.RowKit
open Go.ChangeMaps (open_string shut_string)
set_option linter.unusedVariables false

theorem own : ownKnob Try.prog.godebug = none := by kernel_rfl
theorem laidOut : laidOutB Try.prog = true := by kernel_rfl


theorem qtrans {a b c : World} (h : Below a.heap.size a b) (k : Below b.heap.size b c) : Below a.heap.size a c := h.trans (k.mono h.size)
theorem len_and (k n : Nat) (h : k < n ∧ k < 50) : decide ((k : Int) < (n : Int)) = true ∧ decide ((k : Int) < 50) = true := by
  simp
  omega

set_option maxRecDepth 100000 in
set_option maxHeartbeats 1000000 in
theorem walk_long (a0 : Option Addr) (len0 cap0 : Nat) (v1 : Value) (w : World) (h : 100 < len0) (hm : len0 ≤ maxLen) :
    Calls Try.prog 4 #[.slice a0 len0 cap0, v1] w fun e w' => e = .returned (.bool true) ∧ Below w.heap.size w w' := by
  have hd : decide ((100 : Int) < (len0 : Int)) = true := by simp; omega
  unfold maxLen at hm
  go_enter Try.func4, Try.ntmps4
  go_wp2_with (first | (go_at_call 7; refine (awake_any _).mono ?_; rintro e x1 ⟨rfl, q1⟩))
  go_ret
  exact ⟨rfl, qtrans (by assumption) (by assumption)⟩

set_option maxRecDepth 100000 in
set_option maxHeartbeats 4000000 in
theorem walk_short (a0 : Option Addr) (len0 cap0 : Nat) (z0 : List Int) (a1 : Option Addr) (len1 cap1 : Nat) (z1 : List Int) (w : World) (w0 : IsRow .u64 w a0 len0 cap0 z0) (w1 : IsRow .i64 w a1 len1 cap1 z1) (h100 : ¬ 100 < len0) (hm1 : len1 ≤ 9223372036854775807) (xs bs : List Int) (hxs : z0.take len0 = xs) (hbs : z1.take len1 = bs) :
    Calls Try.prog 4 #[.slice a0 len0 cap0, .slice a1 len1 cap1] w fun e w' => e = .returned (.bool true) ∧ Below w.heap.size w w' := by
  obtain ⟨i0, hi, hz0, hz1, hz2⟩ := info_parts Try.info43
  have hd : decide ((100 : Int) < (len0 : Int)) = false := by simp; omega
  have hl0 := row_len w0
  have hl1 := row_len w1
  have hr0 := row_reads w0
  have hr1 := row_reads w1
  have hw0 : ∀ d ∈ z0.take len0, 0 ≤ d ∧ d ≤ 18446744073709551615 := fun d hd => wf_u64 (row_wf w0 d hd)
  have hw1 : ∀ d ∈ z1.take len1, d ≤ 9223372036854775807 := fun d hd => (wf_i64 (row_wf w1 d hd)).2
  have hn0 : a0 = none → len0 = 0 ∧ cap0 = 0 := by
    rcases w0 with ⟨_, h1, h2, _⟩ | ⟨x, h, _⟩
    · exact fun _ => ⟨h1, h2⟩
    · intro e; rw [e] at h; cases h
  rw [hxs] at hl0 hr0 hw0
  rw [hbs] at hl1 hr1 hw1
  have HL0 := hideIt hl0
  have HL1 := hideIt hl1
  have HR0 := hideIt hr0
  have HR1 := hideIt hr1
  have HW0 := hideIt hw0
  have HW1 := hideIt hw1
  have HN0 := hideIt hn0
  clear hl0 hl1 hr0 hr1 hw0 hw1 hn0 w0 w1 hxs hbs
  go_enter Try.func4, Try.ntmps4
  go_wp2_with (first | (go_at_call 7; refine (awake_any _).mono ?_; rintro e x1 ⟨rfl, q1⟩; have Q1 := hideIt q1; clear q1) | (at_builtin; refine wpList_append_to_nil _ rfl (.tmp 22) (.tmp 23) 22 rfl 43 i0 (.int .u64 0) 1 8 Try.underlying22 hi hz0 hz1 hz2 rfl (by decide) rfl a0 len0 cap0 rfl HN0.out (xs.map (Value.int .u64)) (by simp [HL0.out]) (news_of HR0.out Q1.out) (by intro v hv; simp at hv; obtain ⟨x, _, rfl⟩ := hv; rfl) (by unfold maxLen; omega) (by omega) ?_; intro la lc x2 ho hg; have HO := hideIt ho; have HG := hideIt hg; clear ho hg) | (go_at_call_of 8 (Value.slice la len0 lc); refine (new_any _ _ _ _ xs HL0.out (by omega) (owns_reads HO.out) HW0.out).mono ?_; rintro e x3 ⟨p1, rfl, t1, f1⟩; have T1 := hideIt t1; have F1 := hideIt f1; clear t1 f1) | (go_at_call 8; refine (new_any _ _ _ _ xs HL0.out (by omega) (HR0.out.keep ((Q1.out.grown HG.out Q1.out.size (fun k h => by cases h)).trans (F1.out.below (by have := Q1.out.size; have := HG.out.size; omega) (fun k h => h.elim)))) HW0.out).mono ?_; rintro e x4 ⟨p2, rfl, t2, f2⟩; have S1 := hideIt (st1_start Q1.out HO.out HG.out T1.out F1.out t2 f2 HL0.out); clear t2 f2))
  clear HO HG T1 F1 Q1
  go_loopw [10] (fun i w' => ∃ k : Nat, k ≤ len0 ∧ i = .int .i64 k ∧ St1 w w' w.heap.size p1 p2 xs (.slice la len0 lc) len0) (fun i _ => len0 - (intOf i).toNat)
  case atStart => exact ⟨0, by omega, rfl, S1.out⟩
  case round =>
    obtain ⟨k, hk, rfl, hS⟩ := hrel
    clear S1
    by_cases hlt : k < len0
    · obtain ⟨g, hg⟩ := st1_some hS (by omega)
      subst hg
      obtain ⟨y, hc, hf⟩ := st1_cell hS k hlt
      have HS := hideIt hS
      clear hS
      go_wp2
      go_roundw
      case rel => exact ⟨k + 1, by omega, by go_num, st1_set HS.out k _⟩
      case measure => simp [intOf]; omega
    · have ek : k = len0 := by omega
      subst ek
      have HT := hideIt (st1_two hS)
      clear hS
      go_wp2
      go_loopw [11] (fun i w' => ∃ j : Nat, j ≤ k ∧ i = .int .i64 j ∧ Two w w' w.heap.size p1 p2 xs j j j j) (fun i _ => k - (intOf i).toNat)
      case atStart => exact ⟨0, by omega, rfl, HT.out⟩
      case round =>
        obtain ⟨j, hj, rfl, hS⟩ := hrel
        clear HT
        by_cases hlt2 : j < k
        · have HS := hideIt hS
          have N1 := hideIt (nxt_more xs j (by rw [HL0.out]; exact hlt2))
          clear hS
          go_wp2_with (first | (go_at_call_of 11 (Value.pointer (some ⟨p1, 0, none⟩)); refine (two_below _ 1073741824 HS.out (by omega) (by omega) (by omega)).mono ?_; rw [N1.out]; rintro e y1 ⟨rfl, s1⟩; have HS1 := hideIt s1.swap; clear s1) | (go_at_call 11; refine (two_below _ 1073741824 HS1.out (by omega) (by omega) (by omega)).mono ?_; rw [N1.out]; rintro e y2 ⟨rfl, s2⟩; have HS2 := hideIt s2.swap; clear s2))
          go_roundw
          case rel => exact ⟨j + 1, by omega, by go_num, HS2.out⟩
          case measure => simp [intOf]; omega
        · have ej : j = k := by omega
          subst ej
          have HT2 := hideIt hS
          clear hS
          go_wp2
          go_loopw [12] (fun i w' => ∃ m n : Nat, m ≤ len1 ∧ m ≤ 50 ∧ i = .int .i64 m ∧ n ≤ j + m ∧ Two w w' w.heap.size p1 p2 xs j j n j) (fun i _ => 50 - (intOf i).toNat)
          case atStart => exact ⟨0, j, by omega, by omega, rfl, by omega, HT2.out⟩
          case round =>
            obtain ⟨m, n, hm, hm50, rfl, hn, hS⟩ := hrel
            clear HT2
            have HS := hideIt hS
            clear hS
            by_cases c1 : m < len1
            · by_cases c2 : m < 50
              · obtain ⟨b1, o1, hb1, hcell⟩ := reads_at HR1.out (by rw [HL1.out]; omega)
                subst hb1
                obtain ⟨nb, hnb⟩ : ∃ nb, bs.getD m 0 = nb := ⟨_, rfl⟩
                have hcm := hcell m (by rw [HL1.out]; exact c1)
                have hnn := HW1.out nb (by rw [← hnb]; exact getD_mem bs m (by rw [HL1.out]; exact c1))
                rw [hnb] at hcm
                have hc := (HS.out.bel.cell (World.block_lt_of_cell? w _ hcm)).trans hcm
                clear hcell hnb hcm
                have HX := hideIt (show xs.length ≤ j by rw [HL0.out]; exact Nat.le_refl _)
                go_wp2_with (first | (go_at_call 11; refine (two_spent _ nb HS.out HX.out hnn (by omega)).mono ?_; rintro e y1 ⟨rfl, n', hn1, hn2, s1⟩; have HS1 := hideIt s1; clear s1))
                go_roundw
                case rel => exact ⟨m + 1, n', by omega, by omega, by go_num, by omega, HS1.out⟩
                case measure => simp [intOf]; omega
              · go_wp2_with (first | (go_at_call_of 14 (Value.pointer (some ⟨p1, 0, none⟩)); refine (two_used _ HS.out).mono ?_; rintro e y1 ⟨rfl, rfl⟩) | (go_at_call_of 15 (Value.pointer (some ⟨p1, 0, none⟩)); refine (two_left _ HS.out).mono ?_; rw [HL0.out]; rintro e y1 ⟨rfl, kd, rfl⟩) | (go_at_call 11; refine (below_nil _ _).mono ?_; rintro e y3 ⟨rfl, rfl⟩) | (go_at_call 9; refine (pick_nil _ _).mono ?_; rintro e y4 ⟨rfl, rfl⟩) | (go_at_call 14; refine (used_nil _).mono ?_; rintro e y5 ⟨rfl, rfl⟩) | (go_at_call 15; refine (left_nil _).mono ?_; rintro e y6 ⟨rfl, rfl⟩) | (go_at_call 13; refine (log_nil _).mono ?_; rintro e y7 ⟨rfl, rfl⟩))
                go_ret
                exact ⟨rfl, Below.alloc (below_drewN HS.out.bel _) (by have := two_size HS.out; simpa using this) _⟩
            · go_wp2_with (first | (go_at_call_of 14 (Value.pointer (some ⟨p1, 0, none⟩)); refine (two_used _ HS.out).mono ?_; rintro e y1 ⟨rfl, rfl⟩) | (go_at_call_of 15 (Value.pointer (some ⟨p1, 0, none⟩)); refine (two_left _ HS.out).mono ?_; rw [HL0.out]; rintro e y1 ⟨rfl, kd, rfl⟩) | (go_at_call 11; refine (below_nil _ _).mono ?_; rintro e y3 ⟨rfl, rfl⟩) | (go_at_call 9; refine (pick_nil _ _).mono ?_; rintro e y4 ⟨rfl, rfl⟩) | (go_at_call 14; refine (used_nil _).mono ?_; rintro e y5 ⟨rfl, rfl⟩) | (go_at_call 15; refine (left_nil _).mono ?_; rintro e y6 ⟨rfl, rfl⟩) | (go_at_call 13; refine (log_nil _).mono ?_; rintro e y7 ⟨rfl, rfl⟩))
              go_ret
              exact ⟨rfl, Below.alloc (below_drewN HS.out.bel _) (by have := two_size HS.out; simpa using this) _⟩

theorem walk (a0 : Option Addr) (len0 cap0 : Nat) (z0 : List Int) (a1 : Option Addr) (len1 cap1 : Nat) (z1 : List Int) (w : World) (w0 : IsRow .u64 w a0 len0 cap0 z0) (w1 : IsRow .i64 w a1 len1 cap1 z1) :
    Calls Try.prog 4 #[.slice a0 len0 cap0, .slice a1 len1 cap1] w fun e w' => e = .returned (.bool true) ∧ Below w.heap.size w w' := by
  by_cases h100 : 100 < len0
  · refine walk_long a0 len0 cap0 _ w h100 ?_
    rcases w0 with ⟨_, h1, _, _⟩ | ⟨x, _, h1, h2, _⟩
    · omega
    · omega
  · refine walk_short a0 len0 cap0 z0 a1 len1 cap1 z1 w w0 w1 h100 ?_ _ _ rfl rfl
    rcases w1 with ⟨_, h1, _, _⟩ | ⟨x, _, h1, h2, _⟩
    · omega
    · unfold maxLen at h2; omega

/-! ### THE ROW's STEP: WRITTEN OUT: LEAVE IT -/
set_option maxRecDepth 100000 in
theorem lifted (os : Os) (started : os.Started) (H : Type) (enc : TypeId × Value → H) :
    ReturnsInHanded {} Try.checked os 4 .any (Rows.tapeEndsSpec.pre6 enc Try.prog Try.f4 Rows.tapeEndsRow.domain false) (Rows.tapeEndsSpec.post enc Try.prog Try.f4 false true false false) := by
  refine returnsInHanded_of_change (C := Try.checked) own started (by kernel_rfl) Try.func4
    (ChangeSpec.witness6 (enc := enc) (C := Try.checked) false ⟨#[], #[.slice none 0 0, .slice none 0 0], []⟩ 8 (by kernel_rfl) (by kernel_rfl) (by kernel_rfl) (by kernel_rfl)) ?_
  intro W base args ds gs before hval0 hW hcnd _
  have hval : ∀ (j : Nat) t v, Try.f4.params[j]? = some t → args[j]? = some v → Value.okWide Try.prog W .any base t v := hval0
  have hW' := hW
  obtain ⟨p, q, hA0, hV, rfl, hfz, hnd⟩ := hW
  have hA : DataW.TrodAll enc Try.prog W 0 (fun _ => true) true Try.f4.params.toList args.toList ds p := hA0
  rw [Try.params4] at hA hval
  obtain ⟨v0, vs0, d0, ds0, p0, q0, hargs, rfl, rfl, h0, r0⟩ := trodAll_cons hA
  obtain ⟨v1, vs1, d1, ds1, p1, q1, rfl, rfl, rfl, h1, r1⟩ := trodAll_cons r0
  obtain ⟨rfl, rfl, rfl⟩ := trodAll_nil r1
  obtain rfl : args = #[v0, v1] := by cases args; simp_all
  obtain ⟨rfl, rfl⟩ := trodVars_none hV
  obtain ⟨a0, len0, cap0, rfl⟩ := okWide_slice Try.underlying22 (hval 0 22 v0 rfl rfl)
  have k0 := h0
  have lt0 : ∀ x ∈ p0, x.block < W.heap.size := by obtain ⟨m, hm⟩ := k0; exact DataW.trod_lt m _ _ _ hm
  obtain ⟨z0, w0⟩ : ∃ zs, IsRow .u64 W a0 len0 cap0 zs := by
    obtain ⟨fuel, hf⟩ := h0
    rcases open_ints Try.underlying22 Try.underlying43 (by kernel_rfl) hf with ⟨hcs, _⟩ | ⟨x, l, c, zs, hcs, _, hl, hm, hz, _, hcell, hwz⟩
    · simp [Value.cells] at hcs
      obtain ⟨rfl, rfl, rfl⟩ := hcs
      exact ⟨[], .inl ⟨rfl, rfl, rfl, rfl⟩⟩
    · simp [Value.cells] at hcs
      obtain ⟨rfl, rfl, rfl⟩ := hcs
      exact ⟨zs, .inr ⟨_, rfl, hl, hm, by simpa using hz, hcell, hwz⟩⟩
  obtain ⟨a1, len1, cap1, rfl⟩ := okWide_slice Try.underlying30 (hval 1 30 v1 rfl rfl)
  have k1 := h1
  have lt1 : ∀ x ∈ p1, x.block < W.heap.size := by obtain ⟨m, hm⟩ := k1; exact DataW.trod_lt m _ _ _ hm
  obtain ⟨z1, w1⟩ : ∃ zs, IsRow .i64 W a1 len1 cap1 zs := by
    obtain ⟨fuel, hf⟩ := h1
    rcases open_ints Try.underlying30 Try.underlying3 (by kernel_rfl) hf with ⟨hcs, _⟩ | ⟨x, l, c, zs, hcs, _, hl, hm, hz, _, hcell, hwz⟩
    · simp [Value.cells] at hcs
      obtain ⟨rfl, rfl, rfl⟩ := hcs
      exact ⟨[], .inl ⟨rfl, rfl, rfl, rfl⟩⟩
    · simp [Value.cells] at hcs
      obtain ⟨rfl, rfl, rfl⟩ := hcs
      exact ⟨zs, .inr ⟨_, rfl, hl, hm, by simpa using hz, hcell, hwz⟩⟩
  clear hA0 hval0
  refine (walk a0 len0 cap0 z0 a1 len1 cap1 z1 W w0 w1).mono fun e W' ⟨he, bel⟩ => ?_
  subst he
  exact ⟨_, rfl, _, _, _, [], _, [], hW', trodAll_mk1 (shut_bool Try.underlying4 _), (trodAll_cons_mk (Below.trod laidOut (by kernel_rfl) (of_decide_eq_true (by kernel_rfl)) k0 bel lt0) (trodAll_cons_mk (Below.trod laidOut (by kernel_rfl) (of_decide_eq_true (by kernel_rfl)) k1 bel lt1) trodAll_mk0)), rfl, bel.frame _, fun h => by cases h⟩

theorem over : Rows.tapeEndsRow.holds Try.pinned (OpenSpec.ofChange Rows.tapeEndsSpec) :=
  OpenClaim.holds_of_wide 4 Try.f4 rfl rfl rfl rfl rfl rfl rfl ⟨rfl, rfl, rfl, rfl, rfl⟩ rfl rfl rfl rfl rfl (by kernel_rfl) Try.func4 (by kernel_rfl)
    (of_decide_eq_true (by kernel_rfl)) (by unfold Func.isWrapper; first | (rw [if_pos (by decide +kernel)]; kernel_rfl) | (rw [if_neg (by decide +kernel)]; exact ⟨rfl, rfl⟩))
    (fun os started H enc _ => lifted os started H enc)

/-- ████ THE STATEMENT ████ -/
theorem proved : Rows.TapeEndsSaid := over
#print axioms proved
end Go.Proofs.Yteefahkjdpaogab.tapeEnds
