/-
  For every list of weights the statement TapeFair returns true, and its argument reads as it did; no conditions.
-/
import Derived.Test.YteefahkjdpaogabRows
import Derived.WalkKit
import Derived.ProofKit
import Derived.OpenShut
import Derived.ShutString
import Derived.ChangeOld
import Derived.Below
import Derived.Test.YteefahkjdpaogabFairA
import Derived.Deep.QuietTactic
import Derived.BigQuiet
namespace Go.Proofs.Yteefahkjdpaogab.tapeFair
open Go.ChangeShapes Go.WideShapes Go.ChangeAt Go.RowKit
open Go.ChangeMaps (open_string shut_string)
set_option linter.unusedVariables false

theorem own : ownKnob Try.prog.godebug = none := by kernel_rfl
theorem laidOut : laidOutB Try.prog = true := by kernel_rfl

theorem Try.info3 : (Try.prog.info? 3).map (fun i => (i.zero, i.size, i.bytes)) = some (some (.int .i64 0), 1, 8) := by kernel_rfl
theorem take_map (xs : List Int) (k : Nat) (h8 : k < 8) (hk : k < xs.length) : ((gsOf xs).map (Value.int .i64)).take (k + 1) = ((gsOf xs).map (Value.int .i64)).take k ++ [.int .i64 (xs.getD k 0 % 20)] := by
  rw [← List.map_take, take_gs xs k h8 hk, List.map_append, List.map_take]
  rfl
theorem shape {w : World} {B : Nat} {e : TypeId} {size n : Nat} {v : Value} {xs : List Value} (h : w.ownsRow B e size v (n + 1) xs) : ∃ g c, v = .slice (some ⟨g, 0, none⟩) (n + 1) c := by
  rcases h.2 with ⟨_, h⟩ | ⟨g, cap', _, h, _⟩
  · omega
  · exact ⟨g, cap', h⟩
theorem step_below {w wr w' : World} {v : Value} {n : Nat} {o : Obj} {e : TypeId} {size : Nat} {xs : List Value} (hb : Below w.heap.size w wr) (ho : wr.ownsRow w.heap.size e size v n xs) (hg : (wr.alloc o).grownBy w' v.ownBlock) : Below w.heap.size w w' :=
  (hb.alloc hb.size o).grown hg (by have := hb.size; simp; omega) (fun k hk => (ho.lt k hk).1)
theorem wf_u8 {n : Int} (h : (Lit.int .u8 n).wf = true) : 0 ≤ n ∧ n ≤ 255 := by
  simpa [Lit.wf, IntKind.min, IntKind.max, IntKind.signed, IntKind.bits] using h

set_option maxRecDepth 100000 in
set_option maxHeartbeats 4000000 in
theorem walk_at (a0 : Option Addr) (len0 cap0 : Nat) (w : World) (xs : List Int) (hm0 : len0 ≤ 9223372036854775807) (HL : Hid (xs.length = len0)) (HR : Hid (Reads .u8 w a0 xs)) (HW : Hid (∀ d ∈ xs, 0 ≤ d ∧ d ≤ 255)) :
    Calls Try.prog 5 #[.slice a0 len0 cap0] w fun e w' => e = .returned (.bool true) ∧ Below w.heap.size w w' := by
  obtain ⟨i3, hi3, hz30, hz31, hz32⟩ := info_parts Try.info3
  obtain ⟨i0, hi, hz0, hz1, hz2⟩ := info_parts Try.info43
  go_enter Try.func5, Try.ntmps5
  go_wp2_with (first | (go_at_call 7; refine (awake_any _).mono ?_; rintro e x1 ⟨rfl, q1⟩; have Q1 := hideIt q1; clear q1))
  go_loopw [3, 4, 5] (fun s l i w' => ∃ (k : Nat) (la : Option Addr) (lc : Nat), k ≤ len0 ∧ k ≤ 8 ∧ i = .int .i64 k ∧ s = .int .i64 (sumTo (gsOf xs) k) ∧ l = .slice la k lc ∧ w'.ownsRow w.heap.size 3 1 (.slice la k lc) k (((gsOf xs).map (Value.int .i64)).take k) ∧ Below w.heap.size w w') (fun _ _ i _ => 8 - (intOf i).toNat)
  case atStart => exact ⟨0, none, 0, by omega, by omega, rfl, rfl, rfl, World.ownsRow_nil _ _ _ _, Q1.out⟩
  case round =>
    obtain ⟨k, la, lc, hk, hk8, rfl, rfl, rfl, ho, hbel⟩ := hrel
    clear Q1
    have HO := hideIt ho
    have HB := hideIt hbel
    clear ho hbel
    have s0 := sumTo_nonneg (gsOf xs) k
    have s1 := sum_small xs k
    by_cases c : k < len0 ∧ k < 8
    · obtain ⟨c1, c2⟩ := c
      obtain ⟨b1, o1, hb1, hcell⟩ := reads_at HR.out (by rw [HL.out]; omega)
      subst hb1
      obtain ⟨x, hx⟩ : ∃ x, xs.getD k 0 = x := ⟨_, rfl⟩
      have hcm := hcell k (by rw [HL.out]; exact c1)
      obtain ⟨x0, x255⟩ := HW.out x (by rw [← hx]; exact getD_mem xs k (by rw [HL.out]; exact c1))
      have HT := hideIt (take_map xs k c2 (by rw [HL.out]; exact c1))
      have HG := hideIt (gs_get xs k c2 (by rw [HL.out]; exact c1))
      have HS := hideIt (sum_gs xs k)
      rw [hx] at hcm HT HG
      have hc := (HB.out.cell (World.block_lt_of_cell? w _ hcm)).trans hcm
      have hbl := World.block_lt_of_cell? w _ hcm
      clear hcell hx hcm
      go_wp2_with (at_builtin; refine wpList_append_mine _ rfl (.tmp 26) (.tmp 33) 30 rfl w.heap.size 3 i3 (.int .i64 0) 1 8 Try.underlying30 hi3 hz30 hz31 hz32 rfl (by decide) (.slice la k lc) k (((gsOf xs).map (Value.int .i64)).take k) rfl (HO.out.alloc _) ⟨wr.heap.size, 0, none⟩ 1 1 [.int .i64 (x % 20)] rfl rfl ?c1 ?c2 (by decide) ?c3 ?c4 ?c5 ?_)
      case c2 => first | rfl | (intro u hu; simp at hu; subst hu; rfl)
      case c3 => unfold maxLen; omega
      case c4 => omega
      case c5 => have := HB.out.size; omega
      · intro v' w' ho' hg' hfr
        have hb' := step_below HB.out HO.out hg'
        obtain ⟨g', c', hv'⟩ := shape ho'
        subst hv'
        rw [← HT.out] at ho'
        have HO' := hideIt ho'
        have HB' := hideIt hb'
        have hc' : w'.cell? ⟨b1, o1 + k, none⟩ = some (.int .u8 x) := by
          have e1 := HB'.out.cell (p := ⟨b1, o1 + k, none⟩) hbl
          have e2 := HB.out.cell (p := ⟨b1, o1 + k, none⟩) hbl
          rw [e1, ← e2]
          exact hc
        clear ho' hg' hfr hb' hc
        go_wp2
        go_roundw
        case rel => exact ⟨k + 1, some ⟨g', 0, none⟩, c', by omega, by omega, by go_num, by rw [HS.out, HG.out], rfl, HO'.out, HB'.out⟩
        case measure => simp [intOf]; omega
    · have hend : Hid (k = (gsOf xs).length) := by
        show _ = _
        rw [gs_len, HL.out]
        omega
      by_cases hz : sumTo (gsOf xs) k = 0
      · have hz' : (sumTo (gsOf xs) k == 0) = true := by simpa using hz
        clear hz
        by_cases c1 : k < len0
        · go_wp2
          go_ret
          exact ⟨rfl, HB.out⟩
        · go_wp2
          go_ret
          exact ⟨rfl, HB.out⟩
      · obtain ⟨S, hS⟩ : ∃ S : Nat, sumTo (gsOf xs) k = S := ⟨(sumTo (gsOf xs) k).toNat, by omega⟩
        have hk0 : 0 < k := by
          rcases Nat.eq_zero_or_pos k with h | h
          · subst h; exact absurd rfl hz
          · exact h
        obtain ⟨lb, hla⟩ : ∃ lb, la = some ⟨lb, 0, none⟩ := by
          rcases HO.out.2 with ⟨_, h⟩ | ⟨g, cap', _, h, _⟩
          · omega
          · simp at h
            exact ⟨g, h.1⟩
        subst hla
        have hrow := HO.out
        rw [List.take_of_length_le (by rw [List.length_map, ← hend.out]; exact Nat.le_refl _)] at hrow
        have HRow := hideIt hrow
        have hT : Hid (tot (gsOf xs) = S) := by show _ = _; unfold tot; rw [← hend.out]; exact hS
        have hz' : ((S : Int) == 0) = false := by simp; omega
        have hS0 : 0 < S := by omega
        have hS160 : S ≤ 160 := by omega
        rw [hS]
        clear HO hrow hS hz s0 s1
        by_cases c1 : k < len0
        all_goals
          go_wp2
          go_loopw [6, 7] (fun dv i w' => ∃ (m : Nat) (da : Option Addr) (dc : Nat), m ≤ S ∧ i = .int .i64 m ∧ dv = .slice da m dc ∧ w'.ownsRow w.heap.size 43 1 (.slice da m dc) m ((upTo m).map (Value.int .u64)) ∧ w'.ownsRow w.heap.size 3 1 (.slice (some ⟨lb, 0, none⟩) k lc) k ((gsOf xs).map (Value.int .i64)) ∧ Below w.heap.size w w') (fun _ i _ => S - (intOf i).toNat)
          case atStart => exact ⟨0, none, 0, by omega, rfl, rfl, World.ownsRow_nil _ _ _ _, HRow.out, HB.out⟩
          case round =>
            obtain ⟨m, da, dc, hm, rfl, rfl, ho, hr, hbel⟩ := hrel
            clear HRow HB
            have HO := hideIt ho
            have HRw := hideIt hr
            have HB := hideIt hbel
            clear ho hr hbel
            by_cases hlt : m < S
            · have HU := hideIt (up_succ m)
              go_wp2_with (at_builtin; refine wpList_append_mine _ rfl (.tmp 50) (.tmp 53) 22 rfl w.heap.size 43 i0 (.int .u64 0) 1 8 Try.underlying22 hi hz0 hz1 hz2 rfl (by decide) (.slice da m dc) m ((upTo m).map (Value.int .u64)) rfl (HO.out.alloc _) ⟨wr.heap.size, 0, none⟩ 1 1 [.int .u64 m] rfl rfl (by intro j u hj; match j, hj with | 0, hj => simp at hj; subst hj; exact cell_new rfl _ _ 0) (by intro u hu; simp at hu; subst hu; rfl) (by decide) (by unfold maxLen; omega) (by omega) (by have := HB.out.size; simp; omega) ?_)
              intro v' w' ho' hg' hfr
              have hb' := step_below HB.out HO.out hg'
              have hr' := rows_step HO.out HRw.out hg'
              obtain ⟨g', c', hv'⟩ := shape ho'
              subst hv'
              have HO' : Hid (w'.ownsRow w.heap.size 43 1 (.slice (some ⟨g', 0, none⟩) (m + 1) c') (m + 1) ((upTo (m + 1)).map (Value.int .u64))) := by
                show World.ownsRow _ _ _ _ _ _ _
                rw [HU.out, List.map_append]
                exact ho'
              have HB' := hideIt hb'
              have HR' := hideIt hr'
              clear ho' hg' hfr hb' hr'
              go_wp2
              go_roundw
              case rel => exact ⟨m + 1, some ⟨g', 0, none⟩, c', by omega, by go_num, rfl, HO'.out, HR'.out, HB'.out⟩
              case measure => simp [intOf]; omega
            · have em : m = S := by omega
              subst em
              go_wp2_with (first | (go_at_call 8; refine (new_any _ _ _ _ (upTo m) (up_len m) (by omega) (owns_reads HO.out) (up_wf m (by omega))).mono ?_; rintro e x3 ⟨p1, rfl, t1, f1⟩; have T1 := hideIt t1; have F1 := hideIt f1; clear t1 f1) | (at_make; refine wpList_make_full _ rfl (.tmp 63) (.tmp 63) 30 rfl w.heap.size 3 i3 (.int .i64 0) 1 Try.underlying30 hi3 hz30 hz31 .i64 .i64 (k : Int) (k : Int) k rfl rfl rfl rfl (by rw [hz32]; omega) (by unfold maxLen; omega) (by have := HB.out.size; have := F1.out.size; omega) ?_; intro w1 ho1 hg1; have HM := hideIt ho1; have HG := hideIt hg1; clear ho1 hg1))
              have hst : St3 w w1 w.heap.size p1 x3.heap.size lb lc k m (gsOf xs) 0 := by
                have b0 := HB.out.size
                have b1 := F1.out.size
                have rl := (HRw.out.lt lb rfl).2
                refine st3_start (T1.out.base b0) (ownsRow_block HRw.out fun j hj => ?_) (fun h => ?_) (HB.out.trans (F1.out.below b0 (fun _ h => h.elim))) ?_ HG.out (by omega)
                · exact F1.out.block j (HRw.out.lt j hj).2 (fun h => h)
                · have := h.1
                  omega
                · have := HM.out
                  rw [had_made xs k hend.out] at this
                  exact this
              have HS3 := hideIt hst
              clear hst HM HG T1 F1 HB HRw HO
              generalize x3.heap.size = hb at *
              go_loopw [11] (fun i w' => ∃ q : Nat, q ≤ m ∧ i = .int .i64 q ∧ St3 w w' w.heap.size p1 hb lb lc k m (gsOf xs) q) (fun i _ => m - (intOf i).toNat)
              case atStart => exact ⟨0, by omega, rfl, HS3.out⟩
              case round =>
                obtain ⟨q, hq, rfl, hs3⟩ := hrel
                clear HS3
                have HS3 := hideIt hs3
                clear hs3
                by_cases hlt3 : q < m
                · go_wp2_with (first | (go_at_call 9; refine (st3_pick _ HS3.out hend.out.symm hlt3 (by omega) hT.out hk0 hk8).mono ?_; rintro e y1 ⟨j, rfl, hj, j1, j2, hrow, hnext⟩; have HN := hideIt (st3_next hend.out.symm hrow hj j1 j2 hnext); obtain ⟨hc, hf⟩ := st3_cell (w0 := w) (p := p1) (lb := lb) (lc := lc) (S := m) hrow hend.out.symm j hj; obtain ⟨v0, v1⟩ := had_bd xs q j; generalize (hadL (gsOf xs) q).getD j 0 = y at *; clear hrow hnext j1 j2))
                  go_roundw
                  case rel => exact ⟨q + 1, by omega, by go_num, HN.out⟩
                  case measure => simp [intOf]; omega
                · have eq : q = m := by omega
                  subst eq
                  have HC : Hid (∀ j, j < k → wr.cell? ⟨hb, j, none⟩ = some (.int .i64 ((gsOf xs).getD j 0)) ∧ wr.cell? ⟨lb, j, none⟩ = some (.int .i64 ((gsOf xs).getD j 0))) := fun j hj => st3_end HS3.out hend.out.symm hT.out j hj
                  have HB := hideIt HS3.out.bel
                  clear HS3
                  go_wp2
                  go_loopw [13] (fun i w' => ∃ r : Nat, r ≤ k ∧ i = .int .i64 r ∧ (∀ j, j < k → w'.cell? ⟨hb, j, none⟩ = some (.int .i64 ((gsOf xs).getD j 0)) ∧ w'.cell? ⟨lb, j, none⟩ = some (.int .i64 ((gsOf xs).getD j 0))) ∧ Below w.heap.size w w') (fun i _ => k - (intOf i).toNat)
                  case atStart => exact ⟨0, by omega, rfl, HC.out, HB.out⟩
                  case round =>
                    obtain ⟨r, hr, rfl, hcs, hbel⟩ := hrel
                    clear HC HB
                    have HC := hideIt hcs
                    have HB := hideIt hbel
                    clear hcs hbel
                    by_cases hlt4 : r < k
                    · obtain ⟨g1, g2⟩ := HC.out r hlt4
                      generalize (gsOf xs).getD r 0 = y at g1 g2
                      have hri : (r : Int) < (k : Int) := by omega
                      go_wp2
                      go_quiet (fail)
                      go_wp2
                      go_roundw
                      case rel => exact ⟨r + 1, by omega, by go_num, HC.out, below_drewN HB.out _⟩
                      case measure => simp [intOf]; omega
                    · go_wp2
                      go_ret
                      exact ⟨rfl, HB.out⟩

theorem walk (a0 : Option Addr) (len0 cap0 : Nat) (z0 : List Int) (w : World) (w0 : IsRow .u8 w a0 len0 cap0 z0) :
    Calls Try.prog 5 #[.slice a0 len0 cap0] w fun e w' => e = .returned (.bool true) ∧ Below w.heap.size w w' := by
  refine walk_at a0 len0 cap0 w (z0.take len0) ?_ (row_len w0) (row_reads w0) (fun d hd => wf_u8 (row_wf w0 d hd))
  rcases w0 with ⟨_, h1, _, _⟩ | ⟨x, _, h1, h2, _⟩
  · omega
  · unfold maxLen at h2; omega

/-! ### THE ROW's STEP: WRITTEN OUT: LEAVE IT -/
set_option maxRecDepth 100000 in
theorem lifted (os : Os) (started : os.Started) (H : Type) (enc : TypeId × Value → H) :
    ReturnsInHanded {} Try.checked os 5 .any (Rows.tapeFairSpec.pre6 enc Try.prog Try.f5 Rows.tapeFairRow.domain false) (Rows.tapeFairSpec.post enc Try.prog Try.f5 false true false false) := by
  refine returnsInHanded_of_change (C := Try.checked) own started (by kernel_rfl) Try.func5
    (ChangeSpec.witness6 (enc := enc) (C := Try.checked) false ⟨#[], #[.slice none 0 0], []⟩ 8 (by kernel_rfl) (by kernel_rfl) (by kernel_rfl) (by kernel_rfl)) ?_
  intro W base args ds gs before hval0 hW hcnd _
  have hval : ∀ (j : Nat) t v, Try.f5.params[j]? = some t → args[j]? = some v → Value.okWide Try.prog W .any base t v := hval0
  have hW' := hW
  obtain ⟨p, q, hA0, hV, rfl, hfz, hnd⟩ := hW
  have hA : DataW.TrodAll enc Try.prog W 0 (fun _ => true) true Try.f5.params.toList args.toList ds p := hA0
  rw [Try.params5] at hA hval
  obtain ⟨v0, vs0, d0, ds0, p0, q0, hargs, rfl, rfl, h0, r0⟩ := trodAll_cons hA
  obtain ⟨rfl, rfl, rfl⟩ := trodAll_nil r0
  obtain rfl : args = #[v0] := by cases args; simp_all
  obtain ⟨rfl, rfl⟩ := trodVars_none hV
  obtain ⟨a0, len0, cap0, rfl⟩ := okWide_slice Try.underlying45 (hval 0 45 v0 rfl rfl)
  have k0 := h0
  have lt0 : ∀ x ∈ p0, x.block < W.heap.size := by obtain ⟨m, hm⟩ := k0; exact DataW.trod_lt m _ _ _ hm
  obtain ⟨z0, w0⟩ : ∃ zs, IsRow .u8 W a0 len0 cap0 zs := by
    obtain ⟨fuel, hf⟩ := h0
    rcases open_ints Try.underlying45 Try.underlying5 (by kernel_rfl) hf with ⟨hcs, _⟩ | ⟨x, l, c, zs, hcs, _, hl, hm, hz, _, hcell, hwz⟩
    · simp [Value.cells] at hcs
      obtain ⟨rfl, rfl, rfl⟩ := hcs
      exact ⟨[], .inl ⟨rfl, rfl, rfl, rfl⟩⟩
    · simp [Value.cells] at hcs
      obtain ⟨rfl, rfl, rfl⟩ := hcs
      exact ⟨zs, .inr ⟨_, rfl, hl, hm, by simpa using hz, hcell, hwz⟩⟩
  clear hA0 hval0
  refine (walk a0 len0 cap0 z0 W w0).mono fun e W' ⟨he, bel⟩ => ?_
  subst he
  exact ⟨_, rfl, _, _, _, [], _, [], hW', trodAll_mk1 (shut_bool Try.underlying4 _), (trodAll_cons_mk (Below.trod laidOut (by kernel_rfl) (of_decide_eq_true (by kernel_rfl)) k0 bel lt0) trodAll_mk0), rfl, bel.frame _, fun h => by cases h⟩

theorem over : Rows.tapeFairRow.holds Try.pinned (OpenSpec.ofChange Rows.tapeFairSpec) :=
  OpenClaim.holds_of_wide 5 Try.f5 rfl rfl rfl rfl rfl rfl rfl ⟨rfl, rfl, rfl, rfl, rfl⟩ rfl rfl rfl rfl rfl (by kernel_rfl) Try.func5 (by kernel_rfl)
    (of_decide_eq_true (by kernel_rfl)) (by unfold Func.isWrapper; first | (rw [if_pos (by decide +kernel)]; kernel_rfl) | (rw [if_neg (by decide +kernel)]; exact ⟨rfl, rfl⟩))
    (fun os started H enc _ => lifted os started H enc)

/-- ████ THE STATEMENT ████ -/
theorem proved : Rows.TapeFairSaid := over
#print axioms proved
end Go.Proofs.Yteefahkjdpaogab.tapeFair
