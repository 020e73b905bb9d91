/-
  The statement VmCalls: its walk over the program; the conditions: a number of 16 bits, a byte.
-/
import Derived.Test.YtejkblbhnbbjaaaVmCb
import Derived.Deep.DeepCutAuto
namespace Go.Proofs.Ytejkblbhnbbjaaa
open Go.RowKit Go.Deep
set_option linter.unusedVariables false

namespace Ca
theorem infoU64 : (Try.prog.info? 41).map (fun i => (i.zero, i.size, i.bytes)) = some (some (.int .u64 0), 1, 8) := by kernel_rfl
theorem oneI (z : Int) : ∀ u ∈ [Value.int .i64 z], u.oneCell' = true := fun u hu => by simp at hu; subst hu; rfl
theorem oneU (l : List Int) : ∀ u ∈ rowU l, u.oneCell' = true := fun u hu => by
  unfold rowU at hu
  obtain ⟨x, -, rfl⟩ := List.mem_map.1 hu
  rfl
theorem q_bd {o t d a b i : Int} (ho : 0 ≤ o ∧ o ≤ 255) (ht : 0 ≤ t ∧ t ≤ 15) (hd : 0 ≤ d ∧ d ≤ 15) (ha : 0 ≤ a ∧ a ≤ 15) (hb : 0 ≤ b ∧ b ≤ 15) (hi : 0 ≤ i ∧ i ≤ 4294967295) : Cd.U64 (Cd.pk o t d a b i) := Cd.pk_bd _ _ _ _ _ _ ho (by omega) (by omega) (by omega) (by omega) hi
theorem cw_u64 (i : Nat) (hi : i ≤ 3000) : ∀ x ∈ cw i, Cd.U64 x := by
  cases i with
  | zero => intro x hx; simp [cw] at hx; rcases hx with rfl | rfl | rfl <;> exact q_bd (by omega) (by omega) (by omega) (by omega) (by omega) (by omega)
  | succ i => intro x hx; simp [cw] at hx; rcases hx with rfl | rfl | rfl | rfl | rfl | rfl | rfl | rfl | rfl <;> exact q_bd (by omega) (by omega) (by omega) (by omega) (by omega) (by omega)
theorem ws_u64 : ∀ (n : Nat), n ≤ 3000 → ∀ x ∈ wsL n, Cd.U64 x
  | 0, _, x, hx => by simp [wsL] at hx
  | n + 1, h, x, hx => by
    rw [wsL] at hx
    rcases List.mem_append.1 hx with hx | hx
    · exact ws_u64 n (by omega) x hx
    · exact cw_u64 n (by omega) x hx
theorem st_i64 : ∀ (n : Nat), n ≤ 3000 → ∀ x ∈ stL n, I64 x
  | 0, _, x, hx => by simp [stL] at hx
  | n + 1, h, x, hx => by
    rw [stL] at hx
    rcases List.mem_append.1 hx with hx | hx
    · exact st_i64 n (by omega) x hx
    · simp at hx
      have := ws_len_le n
      subst hx
      unfold I64; omega
section
variable {w1 w2 : World} {bb k g : Nat} {ws st fr : List Int} {wa sa fa : Option Addr} {vc sc fc : Nat}
theorem cal_im (h : CI w1 w2 bb ws st fr wa sa fa vc sc fc) (ew : ws = wsL k) (es : st = stL k) (ef : fr = List.replicate k ((g + 1 : Nat) : Int)) (hk : k ≤ 2100) (hg : g < 9) : (⟨ws, st, fr, [], wa, vc, sa, sc, fa, fc, none, 0⟩ : PIm).ok w2 := by
  have := ws_len_le k
  refine h.im (by rw [ew]; exact ws_u64 k (by omega)) (by rw [es]; exact st_i64 k (by omega)) (fun x hx => ?_) (by rw [ew]; omega) (by rw [es, st_len]; omega) (by rw [ef]; simp; omega)
  rw [ef] at hx
  have := List.eq_of_mem_replicate hx
  unfold I64; omega
abbrev calA (ws st fr : List Int) (wa sa fa : Option Addr) (vc sc fc : Nat) : Array Value := #[.agg #[.slice wa ws.length vc, .slice sa st.length sc, .slice fa fr.length fc, .slice none 0 0], .int .i64 40000]
theorem cal_deep (h : CI w1 w2 bb ws st fr wa sa fa vc sc fc) (ew : ws = wsL k) (es : st = stL k) (ef : fr = List.replicate k ((g + 1 : Nat) : Int)) (hk : k ≤ 2100) (hk2 : 2000 < k) (hg : g < 9) :
    Calls Try.prog 9 (calA ws st fr wa sa fa vc sc fc) w2 fun e y => ∃ ta tc, e = .returned (.tuple #[.agg #[.bool false, .int .i64 0, .int .u8 5, .bool false, .int .i64 12000, .slice ta 0 tc], .int .i64 0]) ∧ Q w2 y := by
  have H : Im (⟨ws, st, fr, [], wa, vc, sa, sc, fa, fc, none, 0⟩ : PIm) k g := ⟨ew, es, ef, rfl⟩
  refine (run_good (im := ⟨ws, st, fr, [], wa, vc, sa, sc, fa, fc, none, 0⟩) w2 (cal_im h ew es ef hk hg) 40000 (by decide) (form H (by omega) hk hg)).mono ?_
  rintro e y ⟨v, rfl, hp⟩
  rw [run_deep H hk2 hk hg] at hp
  obtain ⟨ta, tc, rfl, -, hb⟩ := hp
  exact ⟨ta, tc, rfl, hb⟩
theorem cal_halt (h : CI w1 w2 bb ws st fr wa sa fa vc sc fc) (ew : ws = wsL k) (es : st = stL k) (ef : fr = List.replicate k ((g + 1 : Nat) : Int)) (hk : 1 ≤ k) (hk2 : k ≤ 2000) (hg : g < 9) :
    Calls Try.prog 9 (calA ws st fr wa sa fa vc sc fc) w2 fun e y => ∃ (N : Nat), ∃ ta tc, e = .returned (.tuple #[.agg #[.bool true, .int .i64 ((k : Int) * ((k : Int) - 1) / 2), .int .u8 0, .bool false, .int .i64 (N : Int), .slice ta 0 tc], .int .i64 0]) ∧ Q w2 y := by
  have H : Im (⟨ws, st, fr, [], wa, vc, sa, sc, fa, fc, none, 0⟩ : PIm) k g := ⟨ew, es, ef, rfl⟩
  obtain ⟨N, hN⟩ := run_halts H hk hk2 hg
  refine (run_good (im := ⟨ws, st, fr, [], wa, vc, sa, sc, fa, fc, none, 0⟩) w2 (cal_im h ew es ef (by omega) hg) 40000 (by decide) (form H hk (by omega) hg)).mono ?_
  rintro e y ⟨v, rfl, hp⟩
  rw [hN, S_is k hk] at hp
  obtain ⟨ta, tc, rfl, -, hb⟩ := hp
  exact ⟨N, ta, tc, rfl, hb⟩
end
set_option maxRecDepth 100000 in
set_option maxHeartbeats 3000000 in
theorem calls_walk (a b : Nat) (w : World) (ha : a ≤ 65535) (hb : b ≤ 255) : Calls Try.prog 6 #[.int .u16 (a : Int), .int .u8 (b : Int)] w fun e w' => e = .returned (.bool true) ∧ Below w.heap.size w w' := by
  have CA : Hid (∀ X, Calls Try.prog 8 #[] X fun e w' => e = .returned (.bool true) ∧ Q X w') := fun X => awake_any X
  have t1 : (a : Int).tmod 2100 = ((a % 2100 : Nat) : Int) := by rw [Int.tmod_eq_emod_of_nonneg (by omega)]; omega
  have t2 : (b : Int).tmod 9 = ((b % 9 : Nat) : Int) := by rw [Int.tmod_eq_emod_of_nonneg (by omega)]; omega
  have hd : a % 2100 < 2100 := by omega
  have hg : b % 9 < 9 := by omega
  generalize a % 2100 = d at *
  generalize b % 9 = g at *
  obtain ⟨i0, hi0, hz0, hy0, hs0⟩ := info_parts infoInt
  have HT := hideIt (And.intro hi0 (And.intro hz0 (And.intro hy0 hs0)))
  clear hi0 hz0 hy0 hs0
  obtain ⟨i1, hi1, hz1, hy1, hs1⟩ := info_parts infoU64
  have HU := hideIt (And.intro hi1 (And.intro hz1 (And.intro hy1 hs1)))
  clear hi1 hz1 hy1 hs1
  have CW0 : Hid (∀ X, Calls Try.prog 12 #[.int .u8 40, .int .u8 0, .int .u8 1, .int .u8 0, .int .u8 0, .int .u32 0] X fun e w' => e = .returned (.int .u64 q0) ∧ w' = X) := fun X => word_any 40 0 1 0 0 0 X (by decide) (by decide) (by decide) (by decide) (by decide) (by decide)
  have CW1 : Hid (∀ X, Calls Try.prog 12 #[.int .u8 39, .int .u8 0, .int .u8 0, .int .u8 1, .int .u8 0, .int .u32 0] X fun e w' => e = .returned (.int .u64 q1) ∧ w' = X) := fun X => word_any 39 0 0 1 0 0 X (by decide) (by decide) (by decide) (by decide) (by decide) (by decide)
  have CW2 : Hid (∀ X, Calls Try.prog 12 #[.int .u8 20, .int .u8 4, .int .u8 2, .int .u8 0, .int .u8 0, .int .u32 1] X fun e w' => e = .returned (.int .u64 q2) ∧ w' = X) := fun X => word_any 20 4 2 0 0 1 X (by decide) (by decide) (by decide) (by decide) (by decide) (by decide)
  have CW3 : Hid (∀ X, Calls Try.prog 12 #[.int .u8 1, .int .u8 4, .int .u8 3, .int .u8 1, .int .u8 2, .int .u32 0] X fun e w' => e = .returned (.int .u64 q3) ∧ w' = X) := fun X => word_any 1 4 3 1 2 0 X (by decide) (by decide) (by decide) (by decide) (by decide) (by decide)
  have CW4 : Hid (∀ X, Calls Try.prog 12 #[.int .u8 32, .int .u8 0, .int .u8 0, .int .u8 3, .int .u8 0, .int .u32 0] X fun e w' => e = .returned (.int .u64 q4) ∧ w' = X) := fun X => word_any 32 0 0 3 0 0 X (by decide) (by decide) (by decide) (by decide) (by decide) (by decide)
  have CW6 : Hid (∀ X, Calls Try.prog 12 #[.int .u8 38, .int .u8 0, .int .u8 5, .int .u8 0, .int .u8 0, .int .u32 0] X fun e w' => e = .returned (.int .u64 q6) ∧ w' = X) := fun X => word_any 38 0 5 0 0 0 X (by decide) (by decide) (by decide) (by decide) (by decide) (by decide)
  have CW7 : Hid (∀ X, Calls Try.prog 12 #[.int .u8 1, .int .u8 4, .int .u8 6, .int .u8 4, .int .u8 5, .int .u32 0] X fun e w' => e = .returned (.int .u64 q7) ∧ w' = X) := fun X => word_any 1 4 6 4 5 0 X (by decide) (by decide) (by decide) (by decide) (by decide) (by decide)
  have CW8 : Hid (∀ X, Calls Try.prog 12 #[.int .u8 37, .int .u8 0, .int .u8 0, .int .u8 6, .int .u8 0, .int .u32 0] X fun e w' => e = .returned (.int .u64 q8) ∧ w' = X) := fun X => word_any 37 0 0 6 0 0 X (by decide) (by decide) (by decide) (by decide) (by decide) (by decide)
  have CWz : Hid (∀ X, Calls Try.prog 12 #[.int .u8 37, .int .u8 0, .int .u8 0, .int .u8 1, .int .u8 0, .int .u32 0] X fun e w' => e = .returned (.int .u64 qz) ∧ w' = X) := fun X => word_any 37 0 0 1 0 0 X (by decide) (by decide) (by decide) (by decide) (by decide) (by decide)
  have CW5 : Hid (∀ (j : Nat), j ≤ 3000 → ∀ X, Calls Try.prog 12 #[.int .u8 33, .int .u8 0, .int .u8 4, .int .u8 0, .int .u8 0, .int .u32 (j : Int)] X fun e w' => e = .returned (.int .u64 (q5 j)) ∧ w' = X) := fun j hj X => word_any 33 0 4 0 0 (j : Int) X (by decide) (by decide) (by decide) (by decide) (by decide) (by omega)
  go_enter Try.func6, Try.ntmps6
  go_wp2_with (first
    | (go_at_call 8; refine (CA.out _).mono ?_; rintro e w1 ⟨rfl, q1⟩; have HQ1 := hideIt q1; clear q1)
    | fail)
  have HC0 : Hid (CI w1 (w1.alloc (.cells #[.slice none 0 0, .slice none 0 0, .slice none 0 0, .slice none 0 0] 26)) w1.heap.size [] [] [] none none none 0 0 0) := CI.new w1
  generalize w1.alloc (.cells #[.slice none 0 0, .slice none 0 0, .slice none 0 0, .slice none 0 0] 26) = W0 at HC0 ⊢
  generalize w1.heap.size = bb at HC0 ⊢
  go_loopw [7] (fun i wr => ∃ (k : Nat), i = .int .i64 (k : Int) ∧ k ≤ d + 1 ∧ ∃ wa sa fa vc sc fc, Hid (CI w1 wr bb (wsL k) (stL k) (List.replicate k ((g + 1 : Nat) : Int)) wa sa fa vc sc fc)) (fun i _ => d + 1 - (intOf i).toNat)
  case atStart => exact ⟨0, rfl, by omega, none, none, none, 0, 0, 0, HC0.out⟩
  case round =>
    obtain ⟨k, rfl, hk, wa, sa, fa, vc, sc, fc, H0⟩ := hrel
    generalize wr = w2 at *
    clear HC0
    by_cases hlt : k < d + 1
    · have hkl : (k : Int) < 1 + (d : Int) := by omega
      obtain ⟨ws, hws⟩ : ∃ x, x = wsL k := ⟨_, rfl⟩
      obtain ⟨st, hst⟩ : ∃ x, x = stL k := ⟨_, rfl⟩
      obtain ⟨fr, hfr⟩ : ∃ x, x = List.replicate k ((g + 1 : Nat) : Int) := ⟨_, rfl⟩
      rw [← hws, ← hst, ← hfr] at H0
      have hl1 : ws.length ≤ 9 * k := by rw [hws]; exact ws_len_le k
      have hl2 : st.length = k := by rw [hst]; exact st_len k
      have hl3 : fr.length = k := by rw [hfr]; simp
      have EW := hideIt hws
      have ES := hideIt hst
      have EF := hideIt hfr
      clear hws hst hfr
      have HL := hideIt (And.intro hl1 (And.intro hl2 hl3))
      clear hl1 hl2 hl3
      obtain ⟨c0, c1, c2, c3⟩ := H0.out.c4
      have f1 := H0.out.fz 1
      have LB := hideIt (show bb < w2.heap.size from H0.out.th.lb)
      have M1 := hideIt (show st.length + 1 ≤ maxLen ∧ (st.length + 1) * 8 ≤ 140737488355328 by have := HL.out; unfold maxLen; omega)
      have KX := hideIt (fun ob => H0.out.keep ((Q.refl w2).alloc ob))
      go_upto_region 9 with (first
        | (at_builtin; refine wpList_append_lies _ rfl _ _ 23 rfl (bb + 1) 3 i0 (.int .i64 0) 1 8 Try.underlying23 HT.out.1 HT.out.2.1 HT.out.2.2.1 HT.out.2.2.2 rfl (by decide) (.slice sa st.length sc) st.length (rowI st) rfl (KX.out _).os ⟨w2.heap.size, 0, none⟩ 1 1 [.int .i64 (ws.length : Int)] rfl rfl (World.news_of_block (heap_alloc_new w2 _)) (oneI _) (by decide) M1.out.1 M1.out.2 (by have := LB.out; simp; omega) _ rfl ?_; intro g1 p1 y1 o1 gr1 at1 lt1; have A1 := hideIt (CI.app_s (KX.out _) o1 gr1 at1); obtain ⟨e0, e1⟩ := A1.out.1; clear o1 gr1 at1)
        | fail)
      have H1 := hideIt A1.out.2
      generalize y1.setCell ⟨bb, 1, none⟩ (.slice (some ⟨g1, 0, none⟩) (st.length + 1) p1) = w3 at H1 ⊢
      clear A1 c0 c1 c2 c3 f1 LB M1 KX H0 e0 e1
      obtain ⟨c0, c1, c2, c3⟩ := H1.out.c4
      have f1 := H1.out.fz 2
      have LB := hideIt (show bb < w3.heap.size from H1.out.th.lb)
      have M1 := hideIt (show fr.length + 1 ≤ maxLen ∧ (fr.length + 1) * 8 ≤ 140737488355328 by have := HL.out; unfold maxLen; omega)
      have KX := hideIt (fun ob => H1.out.keep ((Q.refl w3).alloc ob))
      go_upto_region 10 with (first
        | (at_builtin; refine wpList_append_lies _ rfl _ _ 23 rfl (bb + 1) 3 i0 (.int .i64 0) 1 8 Try.underlying23 HT.out.1 HT.out.2.1 HT.out.2.2.1 HT.out.2.2.2 rfl (by decide) (.slice fa fr.length fc) fr.length (rowI fr) rfl (KX.out _).of ⟨w3.heap.size, 0, none⟩ 1 1 [.int .i64 (1 + (g : Int))] rfl rfl (World.news_of_block (heap_alloc_new w3 _)) (oneI _) (by decide) M1.out.1 M1.out.2 (by have := LB.out; simp; omega) _ rfl ?_; intro g2 p2 y2 o1 gr1 at1 lt2; have A1 := hideIt (CI.app_f (KX.out _) o1 gr1 at1); obtain ⟨e0, e1⟩ := A1.out.1; clear o1 gr1 at1)
        | fail)
      have H2 := hideIt A1.out.2
      generalize y2.setCell ⟨bb, 2, none⟩ (.slice (some ⟨g2, 0, none⟩) (fr.length + 1) p2) = w4 at H2 ⊢
      clear A1 c0 c1 c2 c3 f1 LB M1 KX H1 e0 e1
      obtain ⟨c0, c1, c2, c3⟩ := H2.out.c4
      have c0d : w4.drew.cell? ⟨bb, 0, none⟩ = some (.slice wa ws.length vc) := c0
      have c0a : ∀ ob, (w4.alloc ob).cell? ⟨bb, 0, none⟩ = some (.slice wa ws.length vc) := fun ob => (H2.out.keep ((Q.refl w4).alloc ob)).c4.1
      have f1 := H2.out.fz 0
      have LB := hideIt (show bb < w4.heap.size from H2.out.th.lb)
      have ML := hideIt (show ws.length + 2 ≤ maxLen ∧ (ws.length + 2) * 8 ≤ 140737488355328 by have := HL.out; unfold maxLen; omega)
      have KX := hideIt (fun X (q : Q w4 X) => H2.out.keep q)
      clear c1 c2 c3
      go_cut [] (fun W9 => ∃ wa vc, Hid (CI w1 W9 bb (ws ++ [q0, q1]) (st ++ [(ws.length : Int)]) (fr ++ [1 + (g : Int)]) wa (some ⟨g1, 0, none⟩) (some ⟨g2, 0, none⟩) vc p1 p2))
      case first =>
        refine wp_region_held_drew (S := fun _ => True) (by kernel_rfl) (trivial) (fun hHeld => ?_)
        refine wpAnyH_take (i := 0) (oi := ⟨_, _, _, _, _, _⟩) (v := ?_) rfl (by kernel_rfl) (by kernel_rfl) (by kernel_rfl) (fun _ _ _ h => h) (Or.inl ⟨by rfl, ?_⟩) (by assumption) ?_
        rotate_left 1
        · intro w hSw; (try dsimp only at hSw); go_simp; all_goals with_reducible rfl
        try simp only [Act.put, List.setIfInBounds_toArray, List.set_cons_zero, List.set_cons_succ]
        refine wpAnyH_ready (rs := [1, 2]) (by kernel_rfl) (by simp) (AllReadyH.cons (o := ⟨_, _, _, _, _, _⟩) rfl (fun K hK => ?_) (AllReadyH.cons (o := ⟨_, _, _, _, _, _⟩) rfl (fun K hK => ?_) AllReadyH.nil))
        · go_simp
          refine hK.out _ _ ?_ (fun hHeld => ?_)
          · trivial
          clear hK K
          try simp only [Act.put, List.setIfInBounds_toArray, List.set_cons_zero, List.set_cons_succ]
          refine wpAnyH_ready (rs := [2]) (by kernel_rfl) (by simp) (AllReadyH.cons (o := ⟨_, _, _, _, _, _⟩) rfl (fun K hK => ?_) AllReadyH.nil)
          go_simp
          go_at_call 12; refine Calls.mono (CW0.out _) ?_; rintro e yy ⟨rfl, rfl⟩
          refine hK.out _ _ ?_ (fun hHeld => ?_)
          · trivial
          clear hK K
          try simp only [Act.put, List.setIfInBounds_toArray, List.set_cons_zero, List.set_cons_succ]
          refine wpAnyH_ready (rs := [3]) (by kernel_rfl) (by simp) (AllReadyH.cons (o := ⟨_, _, _, _, _, _⟩) rfl (fun K hK => ?_) AllReadyH.nil)
          go_simp
          go_at_call 12; refine Calls.mono (CW1.out _) ?_; rintro e yy ⟨rfl, rfl⟩
          refine hK.out _ _ ?_ (fun hHeld => ?_)
          · trivial
          clear hK K
          try simp only [Act.put, List.setIfInBounds_toArray, List.set_cons_zero, List.set_cons_succ]
          refine wpAnyH_ready (rs := [4]) (by kernel_rfl) (by simp) (AllReadyH.cons (o := ⟨_, _, _, _, _, _⟩) rfl (fun K hK => ?_) AllReadyH.nil)
          go_simp
          refine hK.out _ _ ?_ (fun hHeld => ?_)
          · trivial
          clear hK K
          try simp only [Act.put, List.setIfInBounds_toArray, List.set_cons_zero, List.set_cons_succ]
          refine wpAnyH_ready (rs := [5]) (by kernel_rfl) (by simp) (AllReadyH.cons (o := ⟨_, _, _, _, _, _⟩) rfl (fun K hK => ?_) AllReadyH.nil)
          refine step_append_lies _ (by rfl) _ _ 22 (by rfl) (bb + 1) 41 i1 (.int .u64 0) 1 8 Try.underlying22 HU.out.1 HU.out.2.1 HU.out.2.2.1 HU.out.2.2.2 rfl (by decide) (.slice wa ws.length vc) ws.length (rowU ws) (by rfl) (KX.out _ (by first | exact ((Q.refl w4).alloc _).drew | exact (Q.refl w4).drew.alloc _ | exact (Q.refl w4).alloc _)).ow ⟨w4.heap.size, 0, none⟩ 2 2 (rowU [q0, q1]) (by rfl) rfl (World.news_of_block (heap_alloc_new _ _)) (oneU _) (by decide) ML.out.1 ML.out.2 (by have := LB.out; simp; omega) _ rfl ?_; intro gg cg y9 o9 gr9 at9 lt9; have A9 := hideIt (CI.app_w (l := [q0, q1]) (KX.out _ (by first | exact ((Q.refl w4).alloc _).drew | exact (Q.refl w4).drew.alloc _ | exact (Q.refl w4).alloc _)) rfl o9 gr9 at9); obtain ⟨e0, e1⟩ := A9.out.1; clear o9 gr9 at9
          refine hK.out _ _ ?_ (fun hHeld => ?_)
          · trivial
          clear hK K
          try simp only [Act.put, List.setIfInBounds_toArray, List.set_cons_zero, List.set_cons_succ]
          refine wpAnyH_take (i := 6) (oi := ⟨_, _, _, _, _, _⟩) (v := ?_) rfl (by kernel_rfl) (by kernel_rfl) (by kernel_rfl) (fun _ _ _ h => h) (Or.inl ⟨by rfl, ?_⟩) (by assumption) ?_
          rotate_left 1
          · intro w hSw; (try dsimp only at hSw); go_simp; all_goals with_reducible rfl
          try simp only [Act.put, List.setIfInBounds_toArray, List.set_cons_zero, List.set_cons_succ]
          refine wpAnyH_ready (rs := [7]) (by kernel_rfl) (by simp) (AllReadyH.cons (o := ⟨_, _, _, _, _, _⟩) rfl (fun K hK => ?_) AllReadyH.nil)
          go_simp
          refine hK.out _ _ ?_ (fun hHeld => ?_)
          · trivial
          clear hK K
          try simp only [Act.put, List.setIfInBounds_toArray, List.set_cons_zero, List.set_cons_succ]
          refine wpAnyH_done (by kernel_rfl) ?_ _
          go_wp2_with (fail)
          go_meet
          exact ⟨some ⟨gg, 0, none⟩, cg, hideIt A9.out.2⟩
        · go_simp
          go_at_call 12; refine Calls.mono (CW0.out _) ?_; rintro e yy ⟨rfl, rfl⟩
          refine hK.out _ _ ?_ (fun hHeld => ?_)
          · trivial
          clear hK K
          try simp only [Act.put, List.setIfInBounds_toArray, List.set_cons_zero, List.set_cons_succ]
          refine wpAnyH_ready (rs := [1, 3]) (by kernel_rfl) (by simp) (AllReadyH.cons (o := ⟨_, _, _, _, _, _⟩) rfl (fun K hK => ?_) (AllReadyH.cons (o := ⟨_, _, _, _, _, _⟩) rfl (fun K hK => ?_) AllReadyH.nil))
          · go_simp
            refine hK.out _ _ ?_ (fun hHeld => ?_)
            · trivial
            clear hK K
            try simp only [Act.put, List.setIfInBounds_toArray, List.set_cons_zero, List.set_cons_succ]
            refine wpAnyH_ready (rs := [3]) (by kernel_rfl) (by simp) (AllReadyH.cons (o := ⟨_, _, _, _, _, _⟩) rfl (fun K hK => ?_) AllReadyH.nil)
            go_simp
            go_at_call 12; refine Calls.mono (CW1.out _) ?_; rintro e yy ⟨rfl, rfl⟩
            refine hK.out _ _ ?_ (fun hHeld => ?_)
            · trivial
            clear hK K
            try simp only [Act.put, List.setIfInBounds_toArray, List.set_cons_zero, List.set_cons_succ]
            refine wpAnyH_ready (rs := [4]) (by kernel_rfl) (by simp) (AllReadyH.cons (o := ⟨_, _, _, _, _, _⟩) rfl (fun K hK => ?_) AllReadyH.nil)
            go_simp
            refine hK.out _ _ ?_ (fun hHeld => ?_)
            · trivial
            clear hK K
            try simp only [Act.put, List.setIfInBounds_toArray, List.set_cons_zero, List.set_cons_succ]
            refine wpAnyH_ready (rs := [5]) (by kernel_rfl) (by simp) (AllReadyH.cons (o := ⟨_, _, _, _, _, _⟩) rfl (fun K hK => ?_) AllReadyH.nil)
            refine step_append_lies _ (by rfl) _ _ 22 (by rfl) (bb + 1) 41 i1 (.int .u64 0) 1 8 Try.underlying22 HU.out.1 HU.out.2.1 HU.out.2.2.1 HU.out.2.2.2 rfl (by decide) (.slice wa ws.length vc) ws.length (rowU ws) (by rfl) (KX.out _ (by first | exact ((Q.refl w4).alloc _).drew | exact (Q.refl w4).drew.alloc _ | exact (Q.refl w4).alloc _)).ow ⟨w4.heap.size, 0, none⟩ 2 2 (rowU [q0, q1]) (by rfl) rfl (World.news_of_block (heap_alloc_new _ _)) (oneU _) (by decide) ML.out.1 ML.out.2 (by have := LB.out; simp; omega) _ rfl ?_; intro gg cg y9 o9 gr9 at9 lt9; have A9 := hideIt (CI.app_w (l := [q0, q1]) (KX.out _ (by first | exact ((Q.refl w4).alloc _).drew | exact (Q.refl w4).drew.alloc _ | exact (Q.refl w4).alloc _)) rfl o9 gr9 at9); obtain ⟨e0, e1⟩ := A9.out.1; clear o9 gr9 at9
            refine hK.out _ _ ?_ (fun hHeld => ?_)
            · trivial
            clear hK K
            try simp only [Act.put, List.setIfInBounds_toArray, List.set_cons_zero, List.set_cons_succ]
            refine wpAnyH_take (i := 6) (oi := ⟨_, _, _, _, _, _⟩) (v := ?_) rfl (by kernel_rfl) (by kernel_rfl) (by kernel_rfl) (fun _ _ _ h => h) (Or.inl ⟨by rfl, ?_⟩) (by assumption) ?_
            rotate_left 1
            · intro w hSw; (try dsimp only at hSw); go_simp; all_goals with_reducible rfl
            try simp only [Act.put, List.setIfInBounds_toArray, List.set_cons_zero, List.set_cons_succ]
            refine wpAnyH_ready (rs := [7]) (by kernel_rfl) (by simp) (AllReadyH.cons (o := ⟨_, _, _, _, _, _⟩) rfl (fun K hK => ?_) AllReadyH.nil)
            go_simp
            refine hK.out _ _ ?_ (fun hHeld => ?_)
            · trivial
            clear hK K
            try simp only [Act.put, List.setIfInBounds_toArray, List.set_cons_zero, List.set_cons_succ]
            refine wpAnyH_done (by kernel_rfl) ?_ _
            go_wp2_with (fail)
            go_meet
            exact ⟨some ⟨gg, 0, none⟩, cg, hideIt A9.out.2⟩
          · go_simp
            go_at_call 12; refine Calls.mono (CW1.out _) ?_; rintro e yy ⟨rfl, rfl⟩
            refine hK.out _ _ ?_ (fun hHeld => ?_)
            · trivial
            clear hK K
            try simp only [Act.put, List.setIfInBounds_toArray, List.set_cons_zero, List.set_cons_succ]
            refine wpAnyH_ready (rs := [1, 4]) (by kernel_rfl) (by simp) (AllReadyH.cons (o := ⟨_, _, _, _, _, _⟩) rfl (fun K hK => ?_) (AllReadyH.cons (o := ⟨_, _, _, _, _, _⟩) rfl (fun K hK => ?_) AllReadyH.nil))
            · go_simp
              refine hK.out _ _ ?_ (fun hHeld => ?_)
              · trivial
              clear hK K
              try simp only [Act.put, List.setIfInBounds_toArray, List.set_cons_zero, List.set_cons_succ]
              refine wpAnyH_ready (rs := [4]) (by kernel_rfl) (by simp) (AllReadyH.cons (o := ⟨_, _, _, _, _, _⟩) rfl (fun K hK => ?_) AllReadyH.nil)
              go_simp
              refine hK.out _ _ ?_ (fun hHeld => ?_)
              · trivial
              clear hK K
              try simp only [Act.put, List.setIfInBounds_toArray, List.set_cons_zero, List.set_cons_succ]
              refine wpAnyH_ready (rs := [5]) (by kernel_rfl) (by simp) (AllReadyH.cons (o := ⟨_, _, _, _, _, _⟩) rfl (fun K hK => ?_) AllReadyH.nil)
              refine step_append_lies _ (by rfl) _ _ 22 (by rfl) (bb + 1) 41 i1 (.int .u64 0) 1 8 Try.underlying22 HU.out.1 HU.out.2.1 HU.out.2.2.1 HU.out.2.2.2 rfl (by decide) (.slice wa ws.length vc) ws.length (rowU ws) (by rfl) (KX.out _ (by first | exact ((Q.refl w4).alloc _).drew | exact (Q.refl w4).drew.alloc _ | exact (Q.refl w4).alloc _)).ow ⟨w4.heap.size, 0, none⟩ 2 2 (rowU [q0, q1]) (by rfl) rfl (World.news_of_block (heap_alloc_new _ _)) (oneU _) (by decide) ML.out.1 ML.out.2 (by have := LB.out; simp; omega) _ rfl ?_; intro gg cg y9 o9 gr9 at9 lt9; have A9 := hideIt (CI.app_w (l := [q0, q1]) (KX.out _ (by first | exact ((Q.refl w4).alloc _).drew | exact (Q.refl w4).drew.alloc _ | exact (Q.refl w4).alloc _)) rfl o9 gr9 at9); obtain ⟨e0, e1⟩ := A9.out.1; clear o9 gr9 at9
              refine hK.out _ _ ?_ (fun hHeld => ?_)
              · trivial
              clear hK K
              try simp only [Act.put, List.setIfInBounds_toArray, List.set_cons_zero, List.set_cons_succ]
              refine wpAnyH_take (i := 6) (oi := ⟨_, _, _, _, _, _⟩) (v := ?_) rfl (by kernel_rfl) (by kernel_rfl) (by kernel_rfl) (fun _ _ _ h => h) (Or.inl ⟨by rfl, ?_⟩) (by assumption) ?_
              rotate_left 1
              · intro w hSw; (try dsimp only at hSw); go_simp; all_goals with_reducible rfl
              try simp only [Act.put, List.setIfInBounds_toArray, List.set_cons_zero, List.set_cons_succ]
              refine wpAnyH_ready (rs := [7]) (by kernel_rfl) (by simp) (AllReadyH.cons (o := ⟨_, _, _, _, _, _⟩) rfl (fun K hK => ?_) AllReadyH.nil)
              go_simp
              refine hK.out _ _ ?_ (fun hHeld => ?_)
              · trivial
              clear hK K
              try simp only [Act.put, List.setIfInBounds_toArray, List.set_cons_zero, List.set_cons_succ]
              refine wpAnyH_done (by kernel_rfl) ?_ _
              go_wp2_with (fail)
              go_meet
              exact ⟨some ⟨gg, 0, none⟩, cg, hideIt A9.out.2⟩
            · go_simp
              refine hK.out _ _ ?_ (fun hHeld => ?_)
              · trivial
              clear hK K
              try simp only [Act.put, List.setIfInBounds_toArray, List.set_cons_zero, List.set_cons_succ]
              refine wpAnyH_ready (rs := [1]) (by kernel_rfl) (by simp) (AllReadyH.cons (o := ⟨_, _, _, _, _, _⟩) rfl (fun K hK => ?_) AllReadyH.nil)
              go_simp
              refine hK.out _ _ ?_ (fun hHeld => ?_)
              · trivial
              clear hK K
              try simp only [Act.put, List.setIfInBounds_toArray, List.set_cons_zero, List.set_cons_succ]
              refine wpAnyH_ready (rs := [5]) (by kernel_rfl) (by simp) (AllReadyH.cons (o := ⟨_, _, _, _, _, _⟩) rfl (fun K hK => ?_) AllReadyH.nil)
              refine step_append_lies _ (by rfl) _ _ 22 (by rfl) (bb + 1) 41 i1 (.int .u64 0) 1 8 Try.underlying22 HU.out.1 HU.out.2.1 HU.out.2.2.1 HU.out.2.2.2 rfl (by decide) (.slice wa ws.length vc) ws.length (rowU ws) (by rfl) (KX.out _ (by first | exact ((Q.refl w4).alloc _).drew | exact (Q.refl w4).drew.alloc _ | exact (Q.refl w4).alloc _)).ow ⟨w4.heap.size, 0, none⟩ 2 2 (rowU [q0, q1]) (by rfl) rfl (World.news_of_block (heap_alloc_new _ _)) (oneU _) (by decide) ML.out.1 ML.out.2 (by have := LB.out; simp; omega) _ rfl ?_; intro gg cg y9 o9 gr9 at9 lt9; have A9 := hideIt (CI.app_w (l := [q0, q1]) (KX.out _ (by first | exact ((Q.refl w4).alloc _).drew | exact (Q.refl w4).drew.alloc _ | exact (Q.refl w4).alloc _)) rfl o9 gr9 at9); obtain ⟨e0, e1⟩ := A9.out.1; clear o9 gr9 at9
              refine hK.out _ _ ?_ (fun hHeld => ?_)
              · trivial
              clear hK K
              try simp only [Act.put, List.setIfInBounds_toArray, List.set_cons_zero, List.set_cons_succ]
              refine wpAnyH_take (i := 6) (oi := ⟨_, _, _, _, _, _⟩) (v := ?_) rfl (by kernel_rfl) (by kernel_rfl) (by kernel_rfl) (fun _ _ _ h => h) (Or.inl ⟨by rfl, ?_⟩) (by assumption) ?_
              rotate_left 1
              · intro w hSw; (try dsimp only at hSw); go_simp; all_goals with_reducible rfl
              try simp only [Act.put, List.setIfInBounds_toArray, List.set_cons_zero, List.set_cons_succ]
              refine wpAnyH_ready (rs := [7]) (by kernel_rfl) (by simp) (AllReadyH.cons (o := ⟨_, _, _, _, _, _⟩) rfl (fun K hK => ?_) AllReadyH.nil)
              go_simp
              refine hK.out _ _ ?_ (fun hHeld => ?_)
              · trivial
              clear hK K
              try simp only [Act.put, List.setIfInBounds_toArray, List.set_cons_zero, List.set_cons_succ]
              refine wpAnyH_done (by kernel_rfl) ?_ _
              go_wp2_with (fail)
              go_meet
              exact ⟨some ⟨gg, 0, none⟩, cg, hideIt A9.out.2⟩
      case rest =>
        clear H2 c0 c0d c0a f1 LB ML KX
        obtain ⟨wa, vc, H3⟩ := hcut
        generalize wc = w5 at *
        obtain ⟨ws2, hw2⟩ : ∃ x, x = ws ++ [q0, q1] := ⟨_, rfl⟩
        obtain ⟨st2, hs2⟩ : ∃ x, x = st ++ [(ws.length : Int)] := ⟨_, rfl⟩
        obtain ⟨fr2, hf2⟩ : ∃ x, x = fr ++ [1 + (g : Int)] := ⟨_, rfl⟩
        rw [← hw2, ← hs2, ← hf2] at H3
        have es : st2 = stL (k + 1) := by rw [hs2, EW.out, ES.out]; rfl
        have ef : fr2 = List.replicate (k + 1) ((g + 1 : Nat) : Int) := by rw [hf2, EF.out, rep_snoc]; congr 2; omega
        have hl1 : ws2.length ≤ 9 * k + 2 := by rw [hw2, List.length_append]; have := HL.out.1; simp; omega
        obtain ⟨c0, c1, c2, c3⟩ := H3.out.c4
        have c0d : w5.drew.cell? ⟨bb, 0, none⟩ = some (.slice wa ws2.length vc) := c0
        have c0a : ∀ ob, (w5.alloc ob).cell? ⟨bb, 0, none⟩ = some (.slice wa ws2.length vc) := fun ob => (H3.out.keep ((Q.refl w5).alloc ob)).c4.1
        have f1 := H3.out.fz 0
        have LB := hideIt (show bb < w5.heap.size from H3.out.th.lb)
        have KX := hideIt (fun X (q : Q w5 X) => H3.out.keep q)
        clear c1 c2 c3
        by_cases hk0 : k = 0
        · have ew : ws2 ++ [qz] = wsL (k + 1) := by rw [hw2, EW.out, hk0]; rfl
          have FIN := hideIt (show ∀ W va vc sa sc fa fc, CI w1 W bb (ws2 ++ [qz]) st2 fr2 va sa fa vc sc fc → CI w1 W bb (wsL (k + 1)) (stL (k + 1)) (List.replicate (k + 1) ((g + 1 : Nat) : Int)) va sa fa vc sc fc from fun W va vc sa sc fa fc h => by rw [← ew, ← es, ← ef]; exact h)
          have ML := hideIt (show ws2.length + 1 ≤ maxLen ∧ (ws2.length + 1) * 8 ≤ 140737488355328 by unfold maxLen; omega)
          have hn1 : ¬ 0 < k := by omega
          have hn2 : decide (0 < k) = false := by simp; omega
          have hdk : decide (0 < (k : Int)) = false := by simp; omega
          clear hw2 hs2 hf2 es ef ew hl1 H3 HL EW ES EF hk0
          go_upto_region 13 with (fail)
          refine wp_region_held_drew (S := fun _ => True) (by kernel_rfl) (trivial) (fun hHeld => ?_)
          refine wpAnyH_take (i := 0) (oi := ⟨_, _, _, _, _, _⟩) (v := ?_) rfl (by kernel_rfl) (by kernel_rfl) (by kernel_rfl) (fun _ _ _ h => h) (Or.inl ⟨by rfl, ?_⟩) (by assumption) ?_
          rotate_left 1
          · intro w hSw; (try dsimp only at hSw); go_simp; all_goals with_reducible rfl
          try simp only [Act.put, List.setIfInBounds_toArray, List.set_cons_zero, List.set_cons_succ]
          refine wpAnyH_ready (rs := [1, 2]) (by kernel_rfl) (by simp) (AllReadyH.cons (o := ⟨_, _, _, _, _, _⟩) rfl (fun K hK => ?_) (AllReadyH.cons (o := ⟨_, _, _, _, _, _⟩) rfl (fun K hK => ?_) AllReadyH.nil))
          · go_simp
            refine hK.out _ _ ?_ (fun hHeld => ?_)
            · trivial
            clear hK K
            try simp only [Act.put, List.setIfInBounds_toArray, List.set_cons_zero, List.set_cons_succ]
            refine wpAnyH_ready (rs := [2]) (by kernel_rfl) (by simp) (AllReadyH.cons (o := ⟨_, _, _, _, _, _⟩) rfl (fun K hK => ?_) AllReadyH.nil)
            go_simp
            go_at_call 12; refine Calls.mono (CWz.out _) ?_; rintro e yy ⟨rfl, rfl⟩
            refine hK.out _ _ ?_ (fun hHeld => ?_)
            · trivial
            clear hK K
            try simp only [Act.put, List.setIfInBounds_toArray, List.set_cons_zero, List.set_cons_succ]
            refine wpAnyH_ready (rs := [3]) (by kernel_rfl) (by simp) (AllReadyH.cons (o := ⟨_, _, _, _, _, _⟩) rfl (fun K hK => ?_) AllReadyH.nil)
            go_simp
            refine hK.out _ _ ?_ (fun hHeld => ?_)
            · trivial
            clear hK K
            try simp only [Act.put, List.setIfInBounds_toArray, List.set_cons_zero, List.set_cons_succ]
            refine wpAnyH_ready (rs := [4]) (by kernel_rfl) (by simp) (AllReadyH.cons (o := ⟨_, _, _, _, _, _⟩) rfl (fun K hK => ?_) AllReadyH.nil)
            refine step_append_lies _ (by rfl) _ _ 22 (by rfl) (bb + 1) 41 i1 (.int .u64 0) 1 8 Try.underlying22 HU.out.1 HU.out.2.1 HU.out.2.2.1 HU.out.2.2.2 rfl (by decide) (.slice wa ws2.length vc) ws2.length (rowU ws2) (by rfl) (KX.out _ (by first | exact ((Q.refl w5).alloc _).drew | exact (Q.refl w5).drew.alloc _ | exact (Q.refl w5).alloc _)).ow ⟨w5.heap.size, 0, none⟩ 1 1 (rowU [qz]) (by rfl) rfl (World.news_of_block (heap_alloc_new _ _)) (oneU _) (by decide) ML.out.1 ML.out.2 (by have := LB.out; simp; omega) _ rfl ?_; intro gg cg y9 o9 gr9 at9 lt9; have A9 := hideIt (CI.app_w (l := [qz]) (KX.out _ (by first | exact ((Q.refl w5).alloc _).drew | exact (Q.refl w5).drew.alloc _ | exact (Q.refl w5).alloc _)) rfl o9 gr9 at9); obtain ⟨e0, e1⟩ := A9.out.1; clear o9 gr9 at9
            refine hK.out _ _ ?_ (fun hHeld => ?_)
            · trivial
            clear hK K
            try simp only [Act.put, List.setIfInBounds_toArray, List.set_cons_zero, List.set_cons_succ]
            refine wpAnyH_take (i := 5) (oi := ⟨_, _, _, _, _, _⟩) (v := ?_) rfl (by kernel_rfl) (by kernel_rfl) (by kernel_rfl) (fun _ _ _ h => h) (Or.inl ⟨by rfl, ?_⟩) (by assumption) ?_
            rotate_left 1
            · intro w hSw; (try dsimp only at hSw); go_simp; all_goals with_reducible rfl
            try simp only [Act.put, List.setIfInBounds_toArray, List.set_cons_zero, List.set_cons_succ]
            refine wpAnyH_ready (rs := [6]) (by kernel_rfl) (by simp) (AllReadyH.cons (o := ⟨_, _, _, _, _, _⟩) rfl (fun K hK => ?_) AllReadyH.nil)
            go_simp
            refine hK.out _ _ ?_ (fun hHeld => ?_)
            · trivial
            clear hK K
            try simp only [Act.put, List.setIfInBounds_toArray, List.set_cons_zero, List.set_cons_succ]
            refine wpAnyH_done (by kernel_rfl) ?_ _
            go_wp2_with (fail)
            go_roundw
            case rel => exact ⟨k + 1, by go_num, by omega, some ⟨gg, 0, none⟩, some ⟨g1, 0, none⟩, some ⟨g2, 0, none⟩, cg, p1, p2, hideIt (FIN.out _ _ _ _ _ _ _ A9.out.2)⟩
            case measure => simp [intOf]; omega
          · go_simp
            go_at_call 12; refine Calls.mono (CWz.out _) ?_; rintro e yy ⟨rfl, rfl⟩
            refine hK.out _ _ ?_ (fun hHeld => ?_)
            · trivial
            clear hK K
            try simp only [Act.put, List.setIfInBounds_toArray, List.set_cons_zero, List.set_cons_succ]
            refine wpAnyH_ready (rs := [1, 3]) (by kernel_rfl) (by simp) (AllReadyH.cons (o := ⟨_, _, _, _, _, _⟩) rfl (fun K hK => ?_) (AllReadyH.cons (o := ⟨_, _, _, _, _, _⟩) rfl (fun K hK => ?_) AllReadyH.nil))
            · go_simp
              refine hK.out _ _ ?_ (fun hHeld => ?_)
              · trivial
              clear hK K
              try simp only [Act.put, List.setIfInBounds_toArray, List.set_cons_zero, List.set_cons_succ]
              refine wpAnyH_ready (rs := [3]) (by kernel_rfl) (by simp) (AllReadyH.cons (o := ⟨_, _, _, _, _, _⟩) rfl (fun K hK => ?_) AllReadyH.nil)
              go_simp
              refine hK.out _ _ ?_ (fun hHeld => ?_)
              · trivial
              clear hK K
              try simp only [Act.put, List.setIfInBounds_toArray, List.set_cons_zero, List.set_cons_succ]
              refine wpAnyH_ready (rs := [4]) (by kernel_rfl) (by simp) (AllReadyH.cons (o := ⟨_, _, _, _, _, _⟩) rfl (fun K hK => ?_) AllReadyH.nil)
              refine step_append_lies _ (by rfl) _ _ 22 (by rfl) (bb + 1) 41 i1 (.int .u64 0) 1 8 Try.underlying22 HU.out.1 HU.out.2.1 HU.out.2.2.1 HU.out.2.2.2 rfl (by decide) (.slice wa ws2.length vc) ws2.length (rowU ws2) (by rfl) (KX.out _ (by first | exact ((Q.refl w5).alloc _).drew | exact (Q.refl w5).drew.alloc _ | exact (Q.refl w5).alloc _)).ow ⟨w5.heap.size, 0, none⟩ 1 1 (rowU [qz]) (by rfl) rfl (World.news_of_block (heap_alloc_new _ _)) (oneU _) (by decide) ML.out.1 ML.out.2 (by have := LB.out; simp; omega) _ rfl ?_; intro gg cg y9 o9 gr9 at9 lt9; have A9 := hideIt (CI.app_w (l := [qz]) (KX.out _ (by first | exact ((Q.refl w5).alloc _).drew | exact (Q.refl w5).drew.alloc _ | exact (Q.refl w5).alloc _)) rfl o9 gr9 at9); obtain ⟨e0, e1⟩ := A9.out.1; clear o9 gr9 at9
              refine hK.out _ _ ?_ (fun hHeld => ?_)
              · trivial
              clear hK K
              try simp only [Act.put, List.setIfInBounds_toArray, List.set_cons_zero, List.set_cons_succ]
              refine wpAnyH_take (i := 5) (oi := ⟨_, _, _, _, _, _⟩) (v := ?_) rfl (by kernel_rfl) (by kernel_rfl) (by kernel_rfl) (fun _ _ _ h => h) (Or.inl ⟨by rfl, ?_⟩) (by assumption) ?_
              rotate_left 1
              · intro w hSw; (try dsimp only at hSw); go_simp; all_goals with_reducible rfl
              try simp only [Act.put, List.setIfInBounds_toArray, List.set_cons_zero, List.set_cons_succ]
              refine wpAnyH_ready (rs := [6]) (by kernel_rfl) (by simp) (AllReadyH.cons (o := ⟨_, _, _, _, _, _⟩) rfl (fun K hK => ?_) AllReadyH.nil)
              go_simp
              refine hK.out _ _ ?_ (fun hHeld => ?_)
              · trivial
              clear hK K
              try simp only [Act.put, List.setIfInBounds_toArray, List.set_cons_zero, List.set_cons_succ]
              refine wpAnyH_done (by kernel_rfl) ?_ _
              go_wp2_with (fail)
              go_roundw
              case rel => exact ⟨k + 1, by go_num, by omega, some ⟨gg, 0, none⟩, some ⟨g1, 0, none⟩, some ⟨g2, 0, none⟩, cg, p1, p2, hideIt (FIN.out _ _ _ _ _ _ _ A9.out.2)⟩
              case measure => simp [intOf]; omega
            · go_simp
              refine hK.out _ _ ?_ (fun hHeld => ?_)
              · trivial
              clear hK K
              try simp only [Act.put, List.setIfInBounds_toArray, List.set_cons_zero, List.set_cons_succ]
              refine wpAnyH_ready (rs := [1]) (by kernel_rfl) (by simp) (AllReadyH.cons (o := ⟨_, _, _, _, _, _⟩) rfl (fun K hK => ?_) AllReadyH.nil)
              go_simp
              refine hK.out _ _ ?_ (fun hHeld => ?_)
              · trivial
              clear hK K
              try simp only [Act.put, List.setIfInBounds_toArray, List.set_cons_zero, List.set_cons_succ]
              refine wpAnyH_ready (rs := [4]) (by kernel_rfl) (by simp) (AllReadyH.cons (o := ⟨_, _, _, _, _, _⟩) rfl (fun K hK => ?_) AllReadyH.nil)
              refine step_append_lies _ (by rfl) _ _ 22 (by rfl) (bb + 1) 41 i1 (.int .u64 0) 1 8 Try.underlying22 HU.out.1 HU.out.2.1 HU.out.2.2.1 HU.out.2.2.2 rfl (by decide) (.slice wa ws2.length vc) ws2.length (rowU ws2) (by rfl) (KX.out _ (by first | exact ((Q.refl w5).alloc _).drew | exact (Q.refl w5).drew.alloc _ | exact (Q.refl w5).alloc _)).ow ⟨w5.heap.size, 0, none⟩ 1 1 (rowU [qz]) (by rfl) rfl (World.news_of_block (heap_alloc_new _ _)) (oneU _) (by decide) ML.out.1 ML.out.2 (by have := LB.out; simp; omega) _ rfl ?_; intro gg cg y9 o9 gr9 at9 lt9; have A9 := hideIt (CI.app_w (l := [qz]) (KX.out _ (by first | exact ((Q.refl w5).alloc _).drew | exact (Q.refl w5).drew.alloc _ | exact (Q.refl w5).alloc _)) rfl o9 gr9 at9); obtain ⟨e0, e1⟩ := A9.out.1; clear o9 gr9 at9
              refine hK.out _ _ ?_ (fun hHeld => ?_)
              · trivial
              clear hK K
              try simp only [Act.put, List.setIfInBounds_toArray, List.set_cons_zero, List.set_cons_succ]
              refine wpAnyH_take (i := 5) (oi := ⟨_, _, _, _, _, _⟩) (v := ?_) rfl (by kernel_rfl) (by kernel_rfl) (by kernel_rfl) (fun _ _ _ h => h) (Or.inl ⟨by rfl, ?_⟩) (by assumption) ?_
              rotate_left 1
              · intro w hSw; (try dsimp only at hSw); go_simp; all_goals with_reducible rfl
              try simp only [Act.put, List.setIfInBounds_toArray, List.set_cons_zero, List.set_cons_succ]
              refine wpAnyH_ready (rs := [6]) (by kernel_rfl) (by simp) (AllReadyH.cons (o := ⟨_, _, _, _, _, _⟩) rfl (fun K hK => ?_) AllReadyH.nil)
              go_simp
              refine hK.out _ _ ?_ (fun hHeld => ?_)
              · trivial
              clear hK K
              try simp only [Act.put, List.setIfInBounds_toArray, List.set_cons_zero, List.set_cons_succ]
              refine wpAnyH_done (by kernel_rfl) ?_ _
              go_wp2_with (fail)
              go_roundw
              case rel => exact ⟨k + 1, by go_num, by omega, some ⟨gg, 0, none⟩, some ⟨g1, 0, none⟩, some ⟨g2, 0, none⟩, cg, p1, p2, hideIt (FIN.out _ _ _ _ _ _ _ A9.out.2)⟩
              case measure => simp [intOf]; omega
        · obtain ⟨j, hj⟩ : ∃ j, k = j + 1 := ⟨k - 1, by omega⟩
          have ew : ws2 ++ [q2, q3, q4, q5 j, q6, q7, q8] = wsL (k + 1) := by rw [hw2, EW.out, hj]; simp [wsL, cw]
          have FIN := hideIt (show ∀ W va vc sa sc fa fc, CI w1 W bb (ws2 ++ [q2, q3, q4, q5 j, q6, q7, q8]) st2 fr2 va sa fa vc sc fc → CI w1 W bb (wsL (k + 1)) (stL (k + 1)) (List.replicate (k + 1) ((g + 1 : Nat) : Int)) va sa fa vc sc fc from fun W va vc sa sc fa fc h => by rw [← ew, ← es, ← ef]; exact h)
          have ML := hideIt (show ws2.length + 7 ≤ maxLen ∧ (ws2.length + 7) * 8 ≤ 140737488355328 by unfold maxLen; omega)
          have hn1 : 0 < k := by omega
          have hn2 : decide (0 < k) = true := by simp; omega
          have hdk : decide (0 < (k : Int)) = true := by simp; omega
          have z1 : IntKind.i64.wrap ((k : Int) - 1) = (j : Int) := by rw [IntKind.wrap_i64]; omega
          have z2 : IntKind.u32.wrap (j : Int) = (j : Int) := by simp [IntKind.wrap, IntKind.bits, IntKind.signed]; omega
          have C5 := hideIt (CW5.out j (by omega))
          clear hw2 hs2 hf2 es ef ew hl1 H3 HL EW ES EF hk0 hj
          go_upto_region 12 with (fail)
          refine wp_region_held_drew (S := fun _ => True) (by kernel_rfl) (trivial) (fun hHeld => ?_)
          refine wpAnyH_take (i := 0) (oi := ⟨_, _, _, _, _, _⟩) (v := ?_) rfl (by kernel_rfl) (by kernel_rfl) (by kernel_rfl) (fun _ _ _ h => h) (Or.inl ⟨by rfl, ?_⟩) (by assumption) ?_
          rotate_left 1
          · intro w hSw; (try dsimp only at hSw); go_simp; all_goals with_reducible rfl
          try simp only [Act.put, List.setIfInBounds_toArray, List.set_cons_zero, List.set_cons_succ]
          refine wpAnyH_take (i := 5) (oi := ⟨_, _, _, _, _, _⟩) (v := ?_) rfl (by kernel_rfl) (by kernel_rfl) (by kernel_rfl) (fun _ _ _ h => h) (Or.inl ⟨by rfl, ?_⟩) (by assumption) ?_
          rotate_left 1
          · intro w hSw; (try dsimp only at hSw); go_simp; all_goals with_reducible rfl
          try simp only [Act.put, List.setIfInBounds_toArray, List.set_cons_zero, List.set_cons_succ]
          refine wpAnyH_take (i := 6) (oi := ⟨_, _, _, _, _, _⟩) (v := ?_) rfl (by kernel_rfl) (by kernel_rfl) (by kernel_rfl) (fun _ _ _ h => h) (Or.inl ⟨by rfl, ?_⟩) (by assumption) ?_
          rotate_left 1
          · intro w hSw; (try dsimp only at hSw); go_simp; all_goals with_reducible rfl
          try simp only [Act.put, List.setIfInBounds_toArray, List.set_cons_zero, List.set_cons_succ]
          refine wpAnyH_take (i := 7) (oi := ⟨_, _, _, _, _, _⟩) (v := ?_) rfl (by kernel_rfl) (by kernel_rfl) (by kernel_rfl) (fun _ _ _ h => h) (Or.inl ⟨by rfl, ?_⟩) (by assumption) ?_
          rotate_left 1
          · intro w hSw; (try dsimp only at hSw); go_simp; all_goals with_reducible rfl
          try simp only [Act.put, List.setIfInBounds_toArray, List.set_cons_zero, List.set_cons_succ]
          refine wpAnyH_ready (rs := [1, 2]) (by kernel_rfl) (by simp) (AllReadyH.cons (o := ⟨_, _, _, _, _, _⟩) rfl (fun K hK => ?_) (AllReadyH.cons (o := ⟨_, _, _, _, _, _⟩) rfl (fun K hK => ?_) AllReadyH.nil))
          · go_simp
            refine hK.out _ _ ?_ (fun hHeld => ?_)
            · trivial
            clear hK K
            try simp only [Act.put, List.setIfInBounds_toArray, List.set_cons_zero, List.set_cons_succ]
            refine wpAnyH_ready (rs := [2]) (by kernel_rfl) (by simp) (AllReadyH.cons (o := ⟨_, _, _, _, _, _⟩) rfl (fun K hK => ?_) AllReadyH.nil)
            go_simp
            go_at_call 12; refine Calls.mono (CW2.out _) ?_; rintro e yy ⟨rfl, rfl⟩
            refine hK.out _ _ ?_ (fun hHeld => ?_)
            · trivial
            clear hK K
            try simp only [Act.put, List.setIfInBounds_toArray, List.set_cons_zero, List.set_cons_succ]
            refine wpAnyH_ready (rs := [3]) (by kernel_rfl) (by simp) (AllReadyH.cons (o := ⟨_, _, _, _, _, _⟩) rfl (fun K hK => ?_) AllReadyH.nil)
            go_simp
            go_at_call 12; refine Calls.mono (CW3.out _) ?_; rintro e yy ⟨rfl, rfl⟩
            refine hK.out _ _ ?_ (fun hHeld => ?_)
            · trivial
            clear hK K
            try simp only [Act.put, List.setIfInBounds_toArray, List.set_cons_zero, List.set_cons_succ]
            refine wpAnyH_ready (rs := [4]) (by kernel_rfl) (by simp) (AllReadyH.cons (o := ⟨_, _, _, _, _, _⟩) rfl (fun K hK => ?_) AllReadyH.nil)
            go_simp
            go_at_call 12; refine Calls.mono (CW4.out _) ?_; rintro e yy ⟨rfl, rfl⟩
            refine hK.out _ _ ?_ (fun hHeld => ?_)
            · trivial
            clear hK K
            try simp only [Act.put, List.setIfInBounds_toArray, List.set_cons_zero, List.set_cons_succ]
            refine wpAnyH_ready (rs := [8]) (by kernel_rfl) (by simp) (AllReadyH.cons (o := ⟨_, _, _, _, _, _⟩) rfl (fun K hK => ?_) AllReadyH.nil)
            go_simp
            go_at_call 12; refine Calls.mono (C5.out _) ?_; rintro e yy ⟨rfl, rfl⟩
            refine hK.out _ _ ?_ (fun hHeld => ?_)
            · trivial
            clear hK K
            try simp only [Act.put, List.setIfInBounds_toArray, List.set_cons_zero, List.set_cons_succ]
            refine wpAnyH_ready (rs := [9]) (by kernel_rfl) (by simp) (AllReadyH.cons (o := ⟨_, _, _, _, _, _⟩) rfl (fun K hK => ?_) AllReadyH.nil)
            go_simp
            go_at_call 12; refine Calls.mono (CW6.out _) ?_; rintro e yy ⟨rfl, rfl⟩
            refine hK.out _ _ ?_ (fun hHeld => ?_)
            · trivial
            clear hK K
            try simp only [Act.put, List.setIfInBounds_toArray, List.set_cons_zero, List.set_cons_succ]
            refine wpAnyH_ready (rs := [10]) (by kernel_rfl) (by simp) (AllReadyH.cons (o := ⟨_, _, _, _, _, _⟩) rfl (fun K hK => ?_) AllReadyH.nil)
            go_simp
            go_at_call 12; refine Calls.mono (CW7.out _) ?_; rintro e yy ⟨rfl, rfl⟩
            refine hK.out _ _ ?_ (fun hHeld => ?_)
            · trivial
            clear hK K
            try simp only [Act.put, List.setIfInBounds_toArray, List.set_cons_zero, List.set_cons_succ]
            refine wpAnyH_ready (rs := [11]) (by kernel_rfl) (by simp) (AllReadyH.cons (o := ⟨_, _, _, _, _, _⟩) rfl (fun K hK => ?_) AllReadyH.nil)
            go_simp
            go_at_call 12; refine Calls.mono (CW8.out _) ?_; rintro e yy ⟨rfl, rfl⟩
            refine hK.out _ _ ?_ (fun hHeld => ?_)
            · trivial
            clear hK K
            try simp only [Act.put, List.setIfInBounds_toArray, List.set_cons_zero, List.set_cons_succ]
            refine wpAnyH_ready (rs := [12]) (by kernel_rfl) (by simp) (AllReadyH.cons (o := ⟨_, _, _, _, _, _⟩) rfl (fun K hK => ?_) AllReadyH.nil)
            go_simp
            refine hK.out _ _ ?_ (fun hHeld => ?_)
            · trivial
            clear hK K
            try simp only [Act.put, List.setIfInBounds_toArray, List.set_cons_zero, List.set_cons_succ]
            refine wpAnyH_ready (rs := [13]) (by kernel_rfl) (by simp) (AllReadyH.cons (o := ⟨_, _, _, _, _, _⟩) rfl (fun K hK => ?_) AllReadyH.nil)
            refine step_append_lies _ (by rfl) _ _ 22 (by rfl) (bb + 1) 41 i1 (.int .u64 0) 1 8 Try.underlying22 HU.out.1 HU.out.2.1 HU.out.2.2.1 HU.out.2.2.2 rfl (by decide) (.slice wa ws2.length vc) ws2.length (rowU ws2) (by rfl) (KX.out _ (by first | exact ((Q.refl w5).alloc _).drew | exact (Q.refl w5).drew.alloc _ | exact (Q.refl w5).alloc _)).ow ⟨w5.heap.size, 0, none⟩ 7 7 (rowU [q2, q3, q4, q5 j, q6, q7, q8]) (by rfl) rfl (World.news_of_block (heap_alloc_new _ _)) (oneU _) (by decide) ML.out.1 ML.out.2 (by have := LB.out; simp; omega) _ rfl ?_; intro gg cg y9 o9 gr9 at9 lt9; have A9 := hideIt (CI.app_w (l := [q2, q3, q4, q5 j, q6, q7, q8]) (KX.out _ (by first | exact ((Q.refl w5).alloc _).drew | exact (Q.refl w5).drew.alloc _ | exact (Q.refl w5).alloc _)) rfl o9 gr9 at9); obtain ⟨e0, e1⟩ := A9.out.1; clear o9 gr9 at9
            refine hK.out _ _ ?_ (fun hHeld => ?_)
            · trivial
            clear hK K
            try simp only [Act.put, List.setIfInBounds_toArray, List.set_cons_zero, List.set_cons_succ]
            refine wpAnyH_take (i := 14) (oi := ⟨_, _, _, _, _, _⟩) (v := ?_) rfl (by kernel_rfl) (by kernel_rfl) (by kernel_rfl) (fun _ _ _ h => h) (Or.inl ⟨by rfl, ?_⟩) (by assumption) ?_
            rotate_left 1
            · intro w hSw; (try dsimp only at hSw); go_simp; all_goals with_reducible rfl
            try simp only [Act.put, List.setIfInBounds_toArray, List.set_cons_zero, List.set_cons_succ]
            refine wpAnyH_ready (rs := [15]) (by kernel_rfl) (by simp) (AllReadyH.cons (o := ⟨_, _, _, _, _, _⟩) rfl (fun K hK => ?_) AllReadyH.nil)
            go_simp
            refine hK.out _ _ ?_ (fun hHeld => ?_)
            · trivial
            clear hK K
            try simp only [Act.put, List.setIfInBounds_toArray, List.set_cons_zero, List.set_cons_succ]
            refine wpAnyH_done (by kernel_rfl) ?_ _
            go_wp2_with (fail)
            go_roundw
            case rel => exact ⟨k + 1, by go_num, by omega, some ⟨gg, 0, none⟩, some ⟨g1, 0, none⟩, some ⟨g2, 0, none⟩, cg, p1, p2, hideIt (FIN.out _ _ _ _ _ _ _ A9.out.2)⟩
            case measure => simp [intOf]; omega
          · go_simp
            go_at_call 12; refine Calls.mono (CW2.out _) ?_; rintro e yy ⟨rfl, rfl⟩
            refine hK.out _ _ ?_ (fun hHeld => ?_)
            · trivial
            clear hK K
            try simp only [Act.put, List.setIfInBounds_toArray, List.set_cons_zero, List.set_cons_succ]
            refine wpAnyH_ready (rs := [1, 3]) (by kernel_rfl) (by simp) (AllReadyH.cons (o := ⟨_, _, _, _, _, _⟩) rfl (fun K hK => ?_) (AllReadyH.cons (o := ⟨_, _, _, _, _, _⟩) rfl (fun K hK => ?_) AllReadyH.nil))
            · go_simp
              refine hK.out _ _ ?_ (fun hHeld => ?_)
              · trivial
              clear hK K
              try simp only [Act.put, List.setIfInBounds_toArray, List.set_cons_zero, List.set_cons_succ]
              refine wpAnyH_ready (rs := [3]) (by kernel_rfl) (by simp) (AllReadyH.cons (o := ⟨_, _, _, _, _, _⟩) rfl (fun K hK => ?_) AllReadyH.nil)
              go_simp
              go_at_call 12; refine Calls.mono (CW3.out _) ?_; rintro e yy ⟨rfl, rfl⟩
              refine hK.out _ _ ?_ (fun hHeld => ?_)
              · trivial
              clear hK K
              try simp only [Act.put, List.setIfInBounds_toArray, List.set_cons_zero, List.set_cons_succ]
              refine wpAnyH_ready (rs := [4]) (by kernel_rfl) (by simp) (AllReadyH.cons (o := ⟨_, _, _, _, _, _⟩) rfl (fun K hK => ?_) AllReadyH.nil)
              go_simp
              go_at_call 12; refine Calls.mono (CW4.out _) ?_; rintro e yy ⟨rfl, rfl⟩
              refine hK.out _ _ ?_ (fun hHeld => ?_)
              · trivial
              clear hK K
              try simp only [Act.put, List.setIfInBounds_toArray, List.set_cons_zero, List.set_cons_succ]
              refine wpAnyH_ready (rs := [8]) (by kernel_rfl) (by simp) (AllReadyH.cons (o := ⟨_, _, _, _, _, _⟩) rfl (fun K hK => ?_) AllReadyH.nil)
              go_simp
              go_at_call 12; refine Calls.mono (C5.out _) ?_; rintro e yy ⟨rfl, rfl⟩
              refine hK.out _ _ ?_ (fun hHeld => ?_)
              · trivial
              clear hK K
              try simp only [Act.put, List.setIfInBounds_toArray, List.set_cons_zero, List.set_cons_succ]
              refine wpAnyH_ready (rs := [9]) (by kernel_rfl) (by simp) (AllReadyH.cons (o := ⟨_, _, _, _, _, _⟩) rfl (fun K hK => ?_) AllReadyH.nil)
              go_simp
              go_at_call 12; refine Calls.mono (CW6.out _) ?_; rintro e yy ⟨rfl, rfl⟩
              refine hK.out _ _ ?_ (fun hHeld => ?_)
              · trivial
              clear hK K
              try simp only [Act.put, List.setIfInBounds_toArray, List.set_cons_zero, List.set_cons_succ]
              refine wpAnyH_ready (rs := [10]) (by kernel_rfl) (by simp) (AllReadyH.cons (o := ⟨_, _, _, _, _, _⟩) rfl (fun K hK => ?_) AllReadyH.nil)
              go_simp
              go_at_call 12; refine Calls.mono (CW7.out _) ?_; rintro e yy ⟨rfl, rfl⟩
              refine hK.out _ _ ?_ (fun hHeld => ?_)
              · trivial
              clear hK K
              try simp only [Act.put, List.setIfInBounds_toArray, List.set_cons_zero, List.set_cons_succ]
              refine wpAnyH_ready (rs := [11]) (by kernel_rfl) (by simp) (AllReadyH.cons (o := ⟨_, _, _, _, _, _⟩) rfl (fun K hK => ?_) AllReadyH.nil)
              go_simp
              go_at_call 12; refine Calls.mono (CW8.out _) ?_; rintro e yy ⟨rfl, rfl⟩
              refine hK.out _ _ ?_ (fun hHeld => ?_)
              · trivial
              clear hK K
              try simp only [Act.put, List.setIfInBounds_toArray, List.set_cons_zero, List.set_cons_succ]
              refine wpAnyH_ready (rs := [12]) (by kernel_rfl) (by simp) (AllReadyH.cons (o := ⟨_, _, _, _, _, _⟩) rfl (fun K hK => ?_) AllReadyH.nil)
              go_simp
              refine hK.out _ _ ?_ (fun hHeld => ?_)
              · trivial
              clear hK K
              try simp only [Act.put, List.setIfInBounds_toArray, List.set_cons_zero, List.set_cons_succ]
              refine wpAnyH_ready (rs := [13]) (by kernel_rfl) (by simp) (AllReadyH.cons (o := ⟨_, _, _, _, _, _⟩) rfl (fun K hK => ?_) AllReadyH.nil)
              refine step_append_lies _ (by rfl) _ _ 22 (by rfl) (bb + 1) 41 i1 (.int .u64 0) 1 8 Try.underlying22 HU.out.1 HU.out.2.1 HU.out.2.2.1 HU.out.2.2.2 rfl (by decide) (.slice wa ws2.length vc) ws2.length (rowU ws2) (by rfl) (KX.out _ (by first | exact ((Q.refl w5).alloc _).drew | exact (Q.refl w5).drew.alloc _ | exact (Q.refl w5).alloc _)).ow ⟨w5.heap.size, 0, none⟩ 7 7 (rowU [q2, q3, q4, q5 j, q6, q7, q8]) (by rfl) rfl (World.news_of_block (heap_alloc_new _ _)) (oneU _) (by decide) ML.out.1 ML.out.2 (by have := LB.out; simp; omega) _ rfl ?_; intro gg cg y9 o9 gr9 at9 lt9; have A9 := hideIt (CI.app_w (l := [q2, q3, q4, q5 j, q6, q7, q8]) (KX.out _ (by first | exact ((Q.refl w5).alloc _).drew | exact (Q.refl w5).drew.alloc _ | exact (Q.refl w5).alloc _)) rfl o9 gr9 at9); obtain ⟨e0, e1⟩ := A9.out.1; clear o9 gr9 at9
              refine hK.out _ _ ?_ (fun hHeld => ?_)
              · trivial
              clear hK K
              try simp only [Act.put, List.setIfInBounds_toArray, List.set_cons_zero, List.set_cons_succ]
              refine wpAnyH_take (i := 14) (oi := ⟨_, _, _, _, _, _⟩) (v := ?_) rfl (by kernel_rfl) (by kernel_rfl) (by kernel_rfl) (fun _ _ _ h => h) (Or.inl ⟨by rfl, ?_⟩) (by assumption) ?_
              rotate_left 1
              · intro w hSw; (try dsimp only at hSw); go_simp; all_goals with_reducible rfl
              try simp only [Act.put, List.setIfInBounds_toArray, List.set_cons_zero, List.set_cons_succ]
              refine wpAnyH_ready (rs := [15]) (by kernel_rfl) (by simp) (AllReadyH.cons (o := ⟨_, _, _, _, _, _⟩) rfl (fun K hK => ?_) AllReadyH.nil)
              go_simp
              refine hK.out _ _ ?_ (fun hHeld => ?_)
              · trivial
              clear hK K
              try simp only [Act.put, List.setIfInBounds_toArray, List.set_cons_zero, List.set_cons_succ]
              refine wpAnyH_done (by kernel_rfl) ?_ _
              go_wp2_with (fail)
              go_roundw
              case rel => exact ⟨k + 1, by go_num, by omega, some ⟨gg, 0, none⟩, some ⟨g1, 0, none⟩, some ⟨g2, 0, none⟩, cg, p1, p2, hideIt (FIN.out _ _ _ _ _ _ _ A9.out.2)⟩
              case measure => simp [intOf]; omega
            · go_simp
              go_at_call 12; refine Calls.mono (CW3.out _) ?_; rintro e yy ⟨rfl, rfl⟩
              refine hK.out _ _ ?_ (fun hHeld => ?_)
              · trivial
              clear hK K
              try simp only [Act.put, List.setIfInBounds_toArray, List.set_cons_zero, List.set_cons_succ]
              refine wpAnyH_ready (rs := [1, 4]) (by kernel_rfl) (by simp) (AllReadyH.cons (o := ⟨_, _, _, _, _, _⟩) rfl (fun K hK => ?_) (AllReadyH.cons (o := ⟨_, _, _, _, _, _⟩) rfl (fun K hK => ?_) AllReadyH.nil))
              · go_simp
                refine hK.out _ _ ?_ (fun hHeld => ?_)
                · trivial
                clear hK K
                try simp only [Act.put, List.setIfInBounds_toArray, List.set_cons_zero, List.set_cons_succ]
                refine wpAnyH_ready (rs := [4]) (by kernel_rfl) (by simp) (AllReadyH.cons (o := ⟨_, _, _, _, _, _⟩) rfl (fun K hK => ?_) AllReadyH.nil)
                go_simp
                go_at_call 12; refine Calls.mono (CW4.out _) ?_; rintro e yy ⟨rfl, rfl⟩
                refine hK.out _ _ ?_ (fun hHeld => ?_)
                · trivial
                clear hK K
                try simp only [Act.put, List.setIfInBounds_toArray, List.set_cons_zero, List.set_cons_succ]
                refine wpAnyH_ready (rs := [8]) (by kernel_rfl) (by simp) (AllReadyH.cons (o := ⟨_, _, _, _, _, _⟩) rfl (fun K hK => ?_) AllReadyH.nil)
                go_simp
                go_at_call 12; refine Calls.mono (C5.out _) ?_; rintro e yy ⟨rfl, rfl⟩
                refine hK.out _ _ ?_ (fun hHeld => ?_)
                · trivial
                clear hK K
                try simp only [Act.put, List.setIfInBounds_toArray, List.set_cons_zero, List.set_cons_succ]
                refine wpAnyH_ready (rs := [9]) (by kernel_rfl) (by simp) (AllReadyH.cons (o := ⟨_, _, _, _, _, _⟩) rfl (fun K hK => ?_) AllReadyH.nil)
                go_simp
                go_at_call 12; refine Calls.mono (CW6.out _) ?_; rintro e yy ⟨rfl, rfl⟩
                refine hK.out _ _ ?_ (fun hHeld => ?_)
                · trivial
                clear hK K
                try simp only [Act.put, List.setIfInBounds_toArray, List.set_cons_zero, List.set_cons_succ]
                refine wpAnyH_ready (rs := [10]) (by kernel_rfl) (by simp) (AllReadyH.cons (o := ⟨_, _, _, _, _, _⟩) rfl (fun K hK => ?_) AllReadyH.nil)
                go_simp
                go_at_call 12; refine Calls.mono (CW7.out _) ?_; rintro e yy ⟨rfl, rfl⟩
                refine hK.out _ _ ?_ (fun hHeld => ?_)
                · trivial
                clear hK K
                try simp only [Act.put, List.setIfInBounds_toArray, List.set_cons_zero, List.set_cons_succ]
                refine wpAnyH_ready (rs := [11]) (by kernel_rfl) (by simp) (AllReadyH.cons (o := ⟨_, _, _, _, _, _⟩) rfl (fun K hK => ?_) AllReadyH.nil)
                go_simp
                go_at_call 12; refine Calls.mono (CW8.out _) ?_; rintro e yy ⟨rfl, rfl⟩
                refine hK.out _ _ ?_ (fun hHeld => ?_)
                · trivial
                clear hK K
                try simp only [Act.put, List.setIfInBounds_toArray, List.set_cons_zero, List.set_cons_succ]
                refine wpAnyH_ready (rs := [12]) (by kernel_rfl) (by simp) (AllReadyH.cons (o := ⟨_, _, _, _, _, _⟩) rfl (fun K hK => ?_) AllReadyH.nil)
                go_simp
                refine hK.out _ _ ?_ (fun hHeld => ?_)
                · trivial
                clear hK K
                try simp only [Act.put, List.setIfInBounds_toArray, List.set_cons_zero, List.set_cons_succ]
                refine wpAnyH_ready (rs := [13]) (by kernel_rfl) (by simp) (AllReadyH.cons (o := ⟨_, _, _, _, _, _⟩) rfl (fun K hK => ?_) AllReadyH.nil)
                refine step_append_lies _ (by rfl) _ _ 22 (by rfl) (bb + 1) 41 i1 (.int .u64 0) 1 8 Try.underlying22 HU.out.1 HU.out.2.1 HU.out.2.2.1 HU.out.2.2.2 rfl (by decide) (.slice wa ws2.length vc) ws2.length (rowU ws2) (by rfl) (KX.out _ (by first | exact ((Q.refl w5).alloc _).drew | exact (Q.refl w5).drew.alloc _ | exact (Q.refl w5).alloc _)).ow ⟨w5.heap.size, 0, none⟩ 7 7 (rowU [q2, q3, q4, q5 j, q6, q7, q8]) (by rfl) rfl (World.news_of_block (heap_alloc_new _ _)) (oneU _) (by decide) ML.out.1 ML.out.2 (by have := LB.out; simp; omega) _ rfl ?_; intro gg cg y9 o9 gr9 at9 lt9; have A9 := hideIt (CI.app_w (l := [q2, q3, q4, q5 j, q6, q7, q8]) (KX.out _ (by first | exact ((Q.refl w5).alloc _).drew | exact (Q.refl w5).drew.alloc _ | exact (Q.refl w5).alloc _)) rfl o9 gr9 at9); obtain ⟨e0, e1⟩ := A9.out.1; clear o9 gr9 at9
                refine hK.out _ _ ?_ (fun hHeld => ?_)
                · trivial
                clear hK K
                try simp only [Act.put, List.setIfInBounds_toArray, List.set_cons_zero, List.set_cons_succ]
                refine wpAnyH_take (i := 14) (oi := ⟨_, _, _, _, _, _⟩) (v := ?_) rfl (by kernel_rfl) (by kernel_rfl) (by kernel_rfl) (fun _ _ _ h => h) (Or.inl ⟨by rfl, ?_⟩) (by assumption) ?_
                rotate_left 1
                · intro w hSw; (try dsimp only at hSw); go_simp; all_goals with_reducible rfl
                try simp only [Act.put, List.setIfInBounds_toArray, List.set_cons_zero, List.set_cons_succ]
                refine wpAnyH_ready (rs := [15]) (by kernel_rfl) (by simp) (AllReadyH.cons (o := ⟨_, _, _, _, _, _⟩) rfl (fun K hK => ?_) AllReadyH.nil)
                go_simp
                refine hK.out _ _ ?_ (fun hHeld => ?_)
                · trivial
                clear hK K
                try simp only [Act.put, List.setIfInBounds_toArray, List.set_cons_zero, List.set_cons_succ]
                refine wpAnyH_done (by kernel_rfl) ?_ _
                go_wp2_with (fail)
                go_roundw
                case rel => exact ⟨k + 1, by go_num, by omega, some ⟨gg, 0, none⟩, some ⟨g1, 0, none⟩, some ⟨g2, 0, none⟩, cg, p1, p2, hideIt (FIN.out _ _ _ _ _ _ _ A9.out.2)⟩
                case measure => simp [intOf]; omega
              · go_simp
                go_at_call 12; refine Calls.mono (CW4.out _) ?_; rintro e yy ⟨rfl, rfl⟩
                refine hK.out _ _ ?_ (fun hHeld => ?_)
                · trivial
                clear hK K
                try simp only [Act.put, List.setIfInBounds_toArray, List.set_cons_zero, List.set_cons_succ]
                refine wpAnyH_ready (rs := [1, 8]) (by kernel_rfl) (by simp) (AllReadyH.cons (o := ⟨_, _, _, _, _, _⟩) rfl (fun K hK => ?_) (AllReadyH.cons (o := ⟨_, _, _, _, _, _⟩) rfl (fun K hK => ?_) AllReadyH.nil))
                · go_simp
                  refine hK.out _ _ ?_ (fun hHeld => ?_)
                  · trivial
                  clear hK K
                  try simp only [Act.put, List.setIfInBounds_toArray, List.set_cons_zero, List.set_cons_succ]
                  refine wpAnyH_ready (rs := [8]) (by kernel_rfl) (by simp) (AllReadyH.cons (o := ⟨_, _, _, _, _, _⟩) rfl (fun K hK => ?_) AllReadyH.nil)
                  go_simp
                  go_at_call 12; refine Calls.mono (C5.out _) ?_; rintro e yy ⟨rfl, rfl⟩
                  refine hK.out _ _ ?_ (fun hHeld => ?_)
                  · trivial
                  clear hK K
                  try simp only [Act.put, List.setIfInBounds_toArray, List.set_cons_zero, List.set_cons_succ]
                  refine wpAnyH_ready (rs := [9]) (by kernel_rfl) (by simp) (AllReadyH.cons (o := ⟨_, _, _, _, _, _⟩) rfl (fun K hK => ?_) AllReadyH.nil)
                  go_simp
                  go_at_call 12; refine Calls.mono (CW6.out _) ?_; rintro e yy ⟨rfl, rfl⟩
                  refine hK.out _ _ ?_ (fun hHeld => ?_)
                  · trivial
                  clear hK K
                  try simp only [Act.put, List.setIfInBounds_toArray, List.set_cons_zero, List.set_cons_succ]
                  refine wpAnyH_ready (rs := [10]) (by kernel_rfl) (by simp) (AllReadyH.cons (o := ⟨_, _, _, _, _, _⟩) rfl (fun K hK => ?_) AllReadyH.nil)
                  go_simp
                  go_at_call 12; refine Calls.mono (CW7.out _) ?_; rintro e yy ⟨rfl, rfl⟩
                  refine hK.out _ _ ?_ (fun hHeld => ?_)
                  · trivial
                  clear hK K
                  try simp only [Act.put, List.setIfInBounds_toArray, List.set_cons_zero, List.set_cons_succ]
                  refine wpAnyH_ready (rs := [11]) (by kernel_rfl) (by simp) (AllReadyH.cons (o := ⟨_, _, _, _, _, _⟩) rfl (fun K hK => ?_) AllReadyH.nil)
                  go_simp
                  go_at_call 12; refine Calls.mono (CW8.out _) ?_; rintro e yy ⟨rfl, rfl⟩
                  refine hK.out _ _ ?_ (fun hHeld => ?_)
                  · trivial
                  clear hK K
                  try simp only [Act.put, List.setIfInBounds_toArray, List.set_cons_zero, List.set_cons_succ]
                  refine wpAnyH_ready (rs := [12]) (by kernel_rfl) (by simp) (AllReadyH.cons (o := ⟨_, _, _, _, _, _⟩) rfl (fun K hK => ?_) AllReadyH.nil)
                  go_simp
                  refine hK.out _ _ ?_ (fun hHeld => ?_)
                  · trivial
                  clear hK K
                  try simp only [Act.put, List.setIfInBounds_toArray, List.set_cons_zero, List.set_cons_succ]
                  refine wpAnyH_ready (rs := [13]) (by kernel_rfl) (by simp) (AllReadyH.cons (o := ⟨_, _, _, _, _, _⟩) rfl (fun K hK => ?_) AllReadyH.nil)
                  refine step_append_lies _ (by rfl) _ _ 22 (by rfl) (bb + 1) 41 i1 (.int .u64 0) 1 8 Try.underlying22 HU.out.1 HU.out.2.1 HU.out.2.2.1 HU.out.2.2.2 rfl (by decide) (.slice wa ws2.length vc) ws2.length (rowU ws2) (by rfl) (KX.out _ (by first | exact ((Q.refl w5).alloc _).drew | exact (Q.refl w5).drew.alloc _ | exact (Q.refl w5).alloc _)).ow ⟨w5.heap.size, 0, none⟩ 7 7 (rowU [q2, q3, q4, q5 j, q6, q7, q8]) (by rfl) rfl (World.news_of_block (heap_alloc_new _ _)) (oneU _) (by decide) ML.out.1 ML.out.2 (by have := LB.out; simp; omega) _ rfl ?_; intro gg cg y9 o9 gr9 at9 lt9; have A9 := hideIt (CI.app_w (l := [q2, q3, q4, q5 j, q6, q7, q8]) (KX.out _ (by first | exact ((Q.refl w5).alloc _).drew | exact (Q.refl w5).drew.alloc _ | exact (Q.refl w5).alloc _)) rfl o9 gr9 at9); obtain ⟨e0, e1⟩ := A9.out.1; clear o9 gr9 at9
                  refine hK.out _ _ ?_ (fun hHeld => ?_)
                  · trivial
                  clear hK K
                  try simp only [Act.put, List.setIfInBounds_toArray, List.set_cons_zero, List.set_cons_succ]
                  refine wpAnyH_take (i := 14) (oi := ⟨_, _, _, _, _, _⟩) (v := ?_) rfl (by kernel_rfl) (by kernel_rfl) (by kernel_rfl) (fun _ _ _ h => h) (Or.inl ⟨by rfl, ?_⟩) (by assumption) ?_
                  rotate_left 1
                  · intro w hSw; (try dsimp only at hSw); go_simp; all_goals with_reducible rfl
                  try simp only [Act.put, List.setIfInBounds_toArray, List.set_cons_zero, List.set_cons_succ]
                  refine wpAnyH_ready (rs := [15]) (by kernel_rfl) (by simp) (AllReadyH.cons (o := ⟨_, _, _, _, _, _⟩) rfl (fun K hK => ?_) AllReadyH.nil)
                  go_simp
                  refine hK.out _ _ ?_ (fun hHeld => ?_)
                  · trivial
                  clear hK K
                  try simp only [Act.put, List.setIfInBounds_toArray, List.set_cons_zero, List.set_cons_succ]
                  refine wpAnyH_done (by kernel_rfl) ?_ _
                  go_wp2_with (fail)
                  go_roundw
                  case rel => exact ⟨k + 1, by go_num, by omega, some ⟨gg, 0, none⟩, some ⟨g1, 0, none⟩, some ⟨g2, 0, none⟩, cg, p1, p2, hideIt (FIN.out _ _ _ _ _ _ _ A9.out.2)⟩
                  case measure => simp [intOf]; omega
                · go_simp
                  go_at_call 12; refine Calls.mono (C5.out _) ?_; rintro e yy ⟨rfl, rfl⟩
                  refine hK.out _ _ ?_ (fun hHeld => ?_)
                  · trivial
                  clear hK K
                  try simp only [Act.put, List.setIfInBounds_toArray, List.set_cons_zero, List.set_cons_succ]
                  refine wpAnyH_ready (rs := [1, 9]) (by kernel_rfl) (by simp) (AllReadyH.cons (o := ⟨_, _, _, _, _, _⟩) rfl (fun K hK => ?_) (AllReadyH.cons (o := ⟨_, _, _, _, _, _⟩) rfl (fun K hK => ?_) AllReadyH.nil))
                  · go_simp
                    refine hK.out _ _ ?_ (fun hHeld => ?_)
                    · trivial
                    clear hK K
                    try simp only [Act.put, List.setIfInBounds_toArray, List.set_cons_zero, List.set_cons_succ]
                    refine wpAnyH_ready (rs := [9]) (by kernel_rfl) (by simp) (AllReadyH.cons (o := ⟨_, _, _, _, _, _⟩) rfl (fun K hK => ?_) AllReadyH.nil)
                    go_simp
                    go_at_call 12; refine Calls.mono (CW6.out _) ?_; rintro e yy ⟨rfl, rfl⟩
                    refine hK.out _ _ ?_ (fun hHeld => ?_)
                    · trivial
                    clear hK K
                    try simp only [Act.put, List.setIfInBounds_toArray, List.set_cons_zero, List.set_cons_succ]
                    refine wpAnyH_ready (rs := [10]) (by kernel_rfl) (by simp) (AllReadyH.cons (o := ⟨_, _, _, _, _, _⟩) rfl (fun K hK => ?_) AllReadyH.nil)
                    go_simp
                    go_at_call 12; refine Calls.mono (CW7.out _) ?_; rintro e yy ⟨rfl, rfl⟩
                    refine hK.out _ _ ?_ (fun hHeld => ?_)
                    · trivial
                    clear hK K
                    try simp only [Act.put, List.setIfInBounds_toArray, List.set_cons_zero, List.set_cons_succ]
                    refine wpAnyH_ready (rs := [11]) (by kernel_rfl) (by simp) (AllReadyH.cons (o := ⟨_, _, _, _, _, _⟩) rfl (fun K hK => ?_) AllReadyH.nil)
                    go_simp
                    go_at_call 12; refine Calls.mono (CW8.out _) ?_; rintro e yy ⟨rfl, rfl⟩
                    refine hK.out _ _ ?_ (fun hHeld => ?_)
                    · trivial
                    clear hK K
                    try simp only [Act.put, List.setIfInBounds_toArray, List.set_cons_zero, List.set_cons_succ]
                    refine wpAnyH_ready (rs := [12]) (by kernel_rfl) (by simp) (AllReadyH.cons (o := ⟨_, _, _, _, _, _⟩) rfl (fun K hK => ?_) AllReadyH.nil)
                    go_simp
                    refine hK.out _ _ ?_ (fun hHeld => ?_)
                    · trivial
                    clear hK K
                    try simp only [Act.put, List.setIfInBounds_toArray, List.set_cons_zero, List.set_cons_succ]
                    refine wpAnyH_ready (rs := [13]) (by kernel_rfl) (by simp) (AllReadyH.cons (o := ⟨_, _, _, _, _, _⟩) rfl (fun K hK => ?_) AllReadyH.nil)
                    refine step_append_lies _ (by rfl) _ _ 22 (by rfl) (bb + 1) 41 i1 (.int .u64 0) 1 8 Try.underlying22 HU.out.1 HU.out.2.1 HU.out.2.2.1 HU.out.2.2.2 rfl (by decide) (.slice wa ws2.length vc) ws2.length (rowU ws2) (by rfl) (KX.out _ (by first | exact ((Q.refl w5).alloc _).drew | exact (Q.refl w5).drew.alloc _ | exact (Q.refl w5).alloc _)).ow ⟨w5.heap.size, 0, none⟩ 7 7 (rowU [q2, q3, q4, q5 j, q6, q7, q8]) (by rfl) rfl (World.news_of_block (heap_alloc_new _ _)) (oneU _) (by decide) ML.out.1 ML.out.2 (by have := LB.out; simp; omega) _ rfl ?_; intro gg cg y9 o9 gr9 at9 lt9; have A9 := hideIt (CI.app_w (l := [q2, q3, q4, q5 j, q6, q7, q8]) (KX.out _ (by first | exact ((Q.refl w5).alloc _).drew | exact (Q.refl w5).drew.alloc _ | exact (Q.refl w5).alloc _)) rfl o9 gr9 at9); obtain ⟨e0, e1⟩ := A9.out.1; clear o9 gr9 at9
                    refine hK.out _ _ ?_ (fun hHeld => ?_)
                    · trivial
                    clear hK K
                    try simp only [Act.put, List.setIfInBounds_toArray, List.set_cons_zero, List.set_cons_succ]
                    refine wpAnyH_take (i := 14) (oi := ⟨_, _, _, _, _, _⟩) (v := ?_) rfl (by kernel_rfl) (by kernel_rfl) (by kernel_rfl) (fun _ _ _ h => h) (Or.inl ⟨by rfl, ?_⟩) (by assumption) ?_
                    rotate_left 1
                    · intro w hSw; (try dsimp only at hSw); go_simp; all_goals with_reducible rfl
                    try simp only [Act.put, List.setIfInBounds_toArray, List.set_cons_zero, List.set_cons_succ]
                    refine wpAnyH_ready (rs := [15]) (by kernel_rfl) (by simp) (AllReadyH.cons (o := ⟨_, _, _, _, _, _⟩) rfl (fun K hK => ?_) AllReadyH.nil)
                    go_simp
                    refine hK.out _ _ ?_ (fun hHeld => ?_)
                    · trivial
                    clear hK K
                    try simp only [Act.put, List.setIfInBounds_toArray, List.set_cons_zero, List.set_cons_succ]
                    refine wpAnyH_done (by kernel_rfl) ?_ _
                    go_wp2_with (fail)
                    go_roundw
                    case rel => exact ⟨k + 1, by go_num, by omega, some ⟨gg, 0, none⟩, some ⟨g1, 0, none⟩, some ⟨g2, 0, none⟩, cg, p1, p2, hideIt (FIN.out _ _ _ _ _ _ _ A9.out.2)⟩
                    case measure => simp [intOf]; omega
                  · go_simp
                    go_at_call 12; refine Calls.mono (CW6.out _) ?_; rintro e yy ⟨rfl, rfl⟩
                    refine hK.out _ _ ?_ (fun hHeld => ?_)
                    · trivial
                    clear hK K
                    try simp only [Act.put, List.setIfInBounds_toArray, List.set_cons_zero, List.set_cons_succ]
                    refine wpAnyH_ready (rs := [1, 10]) (by kernel_rfl) (by simp) (AllReadyH.cons (o := ⟨_, _, _, _, _, _⟩) rfl (fun K hK => ?_) (AllReadyH.cons (o := ⟨_, _, _, _, _, _⟩) rfl (fun K hK => ?_) AllReadyH.nil))
                    · go_simp
                      refine hK.out _ _ ?_ (fun hHeld => ?_)
                      · trivial
                      clear hK K
                      try simp only [Act.put, List.setIfInBounds_toArray, List.set_cons_zero, List.set_cons_succ]
                      refine wpAnyH_ready (rs := [10]) (by kernel_rfl) (by simp) (AllReadyH.cons (o := ⟨_, _, _, _, _, _⟩) rfl (fun K hK => ?_) AllReadyH.nil)
                      go_simp
                      go_at_call 12; refine Calls.mono (CW7.out _) ?_; rintro e yy ⟨rfl, rfl⟩
                      refine hK.out _ _ ?_ (fun hHeld => ?_)
                      · trivial
                      clear hK K
                      try simp only [Act.put, List.setIfInBounds_toArray, List.set_cons_zero, List.set_cons_succ]
                      refine wpAnyH_ready (rs := [11]) (by kernel_rfl) (by simp) (AllReadyH.cons (o := ⟨_, _, _, _, _, _⟩) rfl (fun K hK => ?_) AllReadyH.nil)
                      go_simp
                      go_at_call 12; refine Calls.mono (CW8.out _) ?_; rintro e yy ⟨rfl, rfl⟩
                      refine hK.out _ _ ?_ (fun hHeld => ?_)
                      · trivial
                      clear hK K
                      try simp only [Act.put, List.setIfInBounds_toArray, List.set_cons_zero, List.set_cons_succ]
                      refine wpAnyH_ready (rs := [12]) (by kernel_rfl) (by simp) (AllReadyH.cons (o := ⟨_, _, _, _, _, _⟩) rfl (fun K hK => ?_) AllReadyH.nil)
                      go_simp
                      refine hK.out _ _ ?_ (fun hHeld => ?_)
                      · trivial
                      clear hK K
                      try simp only [Act.put, List.setIfInBounds_toArray, List.set_cons_zero, List.set_cons_succ]
                      refine wpAnyH_ready (rs := [13]) (by kernel_rfl) (by simp) (AllReadyH.cons (o := ⟨_, _, _, _, _, _⟩) rfl (fun K hK => ?_) AllReadyH.nil)
                      refine step_append_lies _ (by rfl) _ _ 22 (by rfl) (bb + 1) 41 i1 (.int .u64 0) 1 8 Try.underlying22 HU.out.1 HU.out.2.1 HU.out.2.2.1 HU.out.2.2.2 rfl (by decide) (.slice wa ws2.length vc) ws2.length (rowU ws2) (by rfl) (KX.out _ (by first | exact ((Q.refl w5).alloc _).drew | exact (Q.refl w5).drew.alloc _ | exact (Q.refl w5).alloc _)).ow ⟨w5.heap.size, 0, none⟩ 7 7 (rowU [q2, q3, q4, q5 j, q6, q7, q8]) (by rfl) rfl (World.news_of_block (heap_alloc_new _ _)) (oneU _) (by decide) ML.out.1 ML.out.2 (by have := LB.out; simp; omega) _ rfl ?_; intro gg cg y9 o9 gr9 at9 lt9; have A9 := hideIt (CI.app_w (l := [q2, q3, q4, q5 j, q6, q7, q8]) (KX.out _ (by first | exact ((Q.refl w5).alloc _).drew | exact (Q.refl w5).drew.alloc _ | exact (Q.refl w5).alloc _)) rfl o9 gr9 at9); obtain ⟨e0, e1⟩ := A9.out.1; clear o9 gr9 at9
                      refine hK.out _ _ ?_ (fun hHeld => ?_)
                      · trivial
                      clear hK K
                      try simp only [Act.put, List.setIfInBounds_toArray, List.set_cons_zero, List.set_cons_succ]
                      refine wpAnyH_take (i := 14) (oi := ⟨_, _, _, _, _, _⟩) (v := ?_) rfl (by kernel_rfl) (by kernel_rfl) (by kernel_rfl) (fun _ _ _ h => h) (Or.inl ⟨by rfl, ?_⟩) (by assumption) ?_
                      rotate_left 1
                      · intro w hSw; (try dsimp only at hSw); go_simp; all_goals with_reducible rfl
                      try simp only [Act.put, List.setIfInBounds_toArray, List.set_cons_zero, List.set_cons_succ]
                      refine wpAnyH_ready (rs := [15]) (by kernel_rfl) (by simp) (AllReadyH.cons (o := ⟨_, _, _, _, _, _⟩) rfl (fun K hK => ?_) AllReadyH.nil)
                      go_simp
                      refine hK.out _ _ ?_ (fun hHeld => ?_)
                      · trivial
                      clear hK K
                      try simp only [Act.put, List.setIfInBounds_toArray, List.set_cons_zero, List.set_cons_succ]
                      refine wpAnyH_done (by kernel_rfl) ?_ _
                      go_wp2_with (fail)
                      go_roundw
                      case rel => exact ⟨k + 1, by go_num, by omega, some ⟨gg, 0, none⟩, some ⟨g1, 0, none⟩, some ⟨g2, 0, none⟩, cg, p1, p2, hideIt (FIN.out _ _ _ _ _ _ _ A9.out.2)⟩
                      case measure => simp [intOf]; omega
                    · go_simp
                      go_at_call 12; refine Calls.mono (CW7.out _) ?_; rintro e yy ⟨rfl, rfl⟩
                      refine hK.out _ _ ?_ (fun hHeld => ?_)
                      · trivial
                      clear hK K
                      try simp only [Act.put, List.setIfInBounds_toArray, List.set_cons_zero, List.set_cons_succ]
                      refine wpAnyH_ready (rs := [1, 11]) (by kernel_rfl) (by simp) (AllReadyH.cons (o := ⟨_, _, _, _, _, _⟩) rfl (fun K hK => ?_) (AllReadyH.cons (o := ⟨_, _, _, _, _, _⟩) rfl (fun K hK => ?_) AllReadyH.nil))
                      · go_simp
                        refine hK.out _ _ ?_ (fun hHeld => ?_)
                        · trivial
                        clear hK K
                        try simp only [Act.put, List.setIfInBounds_toArray, List.set_cons_zero, List.set_cons_succ]
                        refine wpAnyH_ready (rs := [11]) (by kernel_rfl) (by simp) (AllReadyH.cons (o := ⟨_, _, _, _, _, _⟩) rfl (fun K hK => ?_) AllReadyH.nil)
                        go_simp
                        go_at_call 12; refine Calls.mono (CW8.out _) ?_; rintro e yy ⟨rfl, rfl⟩
                        refine hK.out _ _ ?_ (fun hHeld => ?_)
                        · trivial
                        clear hK K
                        try simp only [Act.put, List.setIfInBounds_toArray, List.set_cons_zero, List.set_cons_succ]
                        refine wpAnyH_ready (rs := [12]) (by kernel_rfl) (by simp) (AllReadyH.cons (o := ⟨_, _, _, _, _, _⟩) rfl (fun K hK => ?_) AllReadyH.nil)
                        go_simp
                        refine hK.out _ _ ?_ (fun hHeld => ?_)
                        · trivial
                        clear hK K
                        try simp only [Act.put, List.setIfInBounds_toArray, List.set_cons_zero, List.set_cons_succ]
                        refine wpAnyH_ready (rs := [13]) (by kernel_rfl) (by simp) (AllReadyH.cons (o := ⟨_, _, _, _, _, _⟩) rfl (fun K hK => ?_) AllReadyH.nil)
                        refine step_append_lies _ (by rfl) _ _ 22 (by rfl) (bb + 1) 41 i1 (.int .u64 0) 1 8 Try.underlying22 HU.out.1 HU.out.2.1 HU.out.2.2.1 HU.out.2.2.2 rfl (by decide) (.slice wa ws2.length vc) ws2.length (rowU ws2) (by rfl) (KX.out _ (by first | exact ((Q.refl w5).alloc _).drew | exact (Q.refl w5).drew.alloc _ | exact (Q.refl w5).alloc _)).ow ⟨w5.heap.size, 0, none⟩ 7 7 (rowU [q2, q3, q4, q5 j, q6, q7, q8]) (by rfl) rfl (World.news_of_block (heap_alloc_new _ _)) (oneU _) (by decide) ML.out.1 ML.out.2 (by have := LB.out; simp; omega) _ rfl ?_; intro gg cg y9 o9 gr9 at9 lt9; have A9 := hideIt (CI.app_w (l := [q2, q3, q4, q5 j, q6, q7, q8]) (KX.out _ (by first | exact ((Q.refl w5).alloc _).drew | exact (Q.refl w5).drew.alloc _ | exact (Q.refl w5).alloc _)) rfl o9 gr9 at9); obtain ⟨e0, e1⟩ := A9.out.1; clear o9 gr9 at9
                        refine hK.out _ _ ?_ (fun hHeld => ?_)
                        · trivial
                        clear hK K
                        try simp only [Act.put, List.setIfInBounds_toArray, List.set_cons_zero, List.set_cons_succ]
                        refine wpAnyH_take (i := 14) (oi := ⟨_, _, _, _, _, _⟩) (v := ?_) rfl (by kernel_rfl) (by kernel_rfl) (by kernel_rfl) (fun _ _ _ h => h) (Or.inl ⟨by rfl, ?_⟩) (by assumption) ?_
                        rotate_left 1
                        · intro w hSw; (try dsimp only at hSw); go_simp; all_goals with_reducible rfl
                        try simp only [Act.put, List.setIfInBounds_toArray, List.set_cons_zero, List.set_cons_succ]
                        refine wpAnyH_ready (rs := [15]) (by kernel_rfl) (by simp) (AllReadyH.cons (o := ⟨_, _, _, _, _, _⟩) rfl (fun K hK => ?_) AllReadyH.nil)
                        go_simp
                        refine hK.out _ _ ?_ (fun hHeld => ?_)
                        · trivial
                        clear hK K
                        try simp only [Act.put, List.setIfInBounds_toArray, List.set_cons_zero, List.set_cons_succ]
                        refine wpAnyH_done (by kernel_rfl) ?_ _
                        go_wp2_with (fail)
                        go_roundw
                        case rel => exact ⟨k + 1, by go_num, by omega, some ⟨gg, 0, none⟩, some ⟨g1, 0, none⟩, some ⟨g2, 0, none⟩, cg, p1, p2, hideIt (FIN.out _ _ _ _ _ _ _ A9.out.2)⟩
                        case measure => simp [intOf]; omega
                      · go_simp
                        go_at_call 12; refine Calls.mono (CW8.out _) ?_; rintro e yy ⟨rfl, rfl⟩
                        refine hK.out _ _ ?_ (fun hHeld => ?_)
                        · trivial
                        clear hK K
                        try simp only [Act.put, List.setIfInBounds_toArray, List.set_cons_zero, List.set_cons_succ]
                        refine wpAnyH_ready (rs := [1, 12]) (by kernel_rfl) (by simp) (AllReadyH.cons (o := ⟨_, _, _, _, _, _⟩) rfl (fun K hK => ?_) (AllReadyH.cons (o := ⟨_, _, _, _, _, _⟩) rfl (fun K hK => ?_) AllReadyH.nil))
                        · go_simp
                          refine hK.out _ _ ?_ (fun hHeld => ?_)
                          · trivial
                          clear hK K
                          try simp only [Act.put, List.setIfInBounds_toArray, List.set_cons_zero, List.set_cons_succ]
                          refine wpAnyH_ready (rs := [12]) (by kernel_rfl) (by simp) (AllReadyH.cons (o := ⟨_, _, _, _, _, _⟩) rfl (fun K hK => ?_) AllReadyH.nil)
                          go_simp
                          refine hK.out _ _ ?_ (fun hHeld => ?_)
                          · trivial
                          clear hK K
                          try simp only [Act.put, List.setIfInBounds_toArray, List.set_cons_zero, List.set_cons_succ]
                          refine wpAnyH_ready (rs := [13]) (by kernel_rfl) (by simp) (AllReadyH.cons (o := ⟨_, _, _, _, _, _⟩) rfl (fun K hK => ?_) AllReadyH.nil)
                          refine step_append_lies _ (by rfl) _ _ 22 (by rfl) (bb + 1) 41 i1 (.int .u64 0) 1 8 Try.underlying22 HU.out.1 HU.out.2.1 HU.out.2.2.1 HU.out.2.2.2 rfl (by decide) (.slice wa ws2.length vc) ws2.length (rowU ws2) (by rfl) (KX.out _ (by first | exact ((Q.refl w5).alloc _).drew | exact (Q.refl w5).drew.alloc _ | exact (Q.refl w5).alloc _)).ow ⟨w5.heap.size, 0, none⟩ 7 7 (rowU [q2, q3, q4, q5 j, q6, q7, q8]) (by rfl) rfl (World.news_of_block (heap_alloc_new _ _)) (oneU _) (by decide) ML.out.1 ML.out.2 (by have := LB.out; simp; omega) _ rfl ?_; intro gg cg y9 o9 gr9 at9 lt9; have A9 := hideIt (CI.app_w (l := [q2, q3, q4, q5 j, q6, q7, q8]) (KX.out _ (by first | exact ((Q.refl w5).alloc _).drew | exact (Q.refl w5).drew.alloc _ | exact (Q.refl w5).alloc _)) rfl o9 gr9 at9); obtain ⟨e0, e1⟩ := A9.out.1; clear o9 gr9 at9
                          refine hK.out _ _ ?_ (fun hHeld => ?_)
                          · trivial
                          clear hK K
                          try simp only [Act.put, List.setIfInBounds_toArray, List.set_cons_zero, List.set_cons_succ]
                          refine wpAnyH_take (i := 14) (oi := ⟨_, _, _, _, _, _⟩) (v := ?_) rfl (by kernel_rfl) (by kernel_rfl) (by kernel_rfl) (fun _ _ _ h => h) (Or.inl ⟨by rfl, ?_⟩) (by assumption) ?_
                          rotate_left 1
                          · intro w hSw; (try dsimp only at hSw); go_simp; all_goals with_reducible rfl
                          try simp only [Act.put, List.setIfInBounds_toArray, List.set_cons_zero, List.set_cons_succ]
                          refine wpAnyH_ready (rs := [15]) (by kernel_rfl) (by simp) (AllReadyH.cons (o := ⟨_, _, _, _, _, _⟩) rfl (fun K hK => ?_) AllReadyH.nil)
                          go_simp
                          refine hK.out _ _ ?_ (fun hHeld => ?_)
                          · trivial
                          clear hK K
                          try simp only [Act.put, List.setIfInBounds_toArray, List.set_cons_zero, List.set_cons_succ]
                          refine wpAnyH_done (by kernel_rfl) ?_ _
                          go_wp2_with (fail)
                          go_roundw
                          case rel => exact ⟨k + 1, by go_num, by omega, some ⟨gg, 0, none⟩, some ⟨g1, 0, none⟩, some ⟨g2, 0, none⟩, cg, p1, p2, hideIt (FIN.out _ _ _ _ _ _ _ A9.out.2)⟩
                          case measure => simp [intOf]; omega
                        · go_simp
                          refine hK.out _ _ ?_ (fun hHeld => ?_)
                          · trivial
                          clear hK K
                          try simp only [Act.put, List.setIfInBounds_toArray, List.set_cons_zero, List.set_cons_succ]
                          refine wpAnyH_ready (rs := [1]) (by kernel_rfl) (by simp) (AllReadyH.cons (o := ⟨_, _, _, _, _, _⟩) rfl (fun K hK => ?_) AllReadyH.nil)
                          go_simp
                          refine hK.out _ _ ?_ (fun hHeld => ?_)
                          · trivial
                          clear hK K
                          try simp only [Act.put, List.setIfInBounds_toArray, List.set_cons_zero, List.set_cons_succ]
                          refine wpAnyH_ready (rs := [13]) (by kernel_rfl) (by simp) (AllReadyH.cons (o := ⟨_, _, _, _, _, _⟩) rfl (fun K hK => ?_) AllReadyH.nil)
                          refine step_append_lies _ (by rfl) _ _ 22 (by rfl) (bb + 1) 41 i1 (.int .u64 0) 1 8 Try.underlying22 HU.out.1 HU.out.2.1 HU.out.2.2.1 HU.out.2.2.2 rfl (by decide) (.slice wa ws2.length vc) ws2.length (rowU ws2) (by rfl) (KX.out _ (by first | exact ((Q.refl w5).alloc _).drew | exact (Q.refl w5).drew.alloc _ | exact (Q.refl w5).alloc _)).ow ⟨w5.heap.size, 0, none⟩ 7 7 (rowU [q2, q3, q4, q5 j, q6, q7, q8]) (by rfl) rfl (World.news_of_block (heap_alloc_new _ _)) (oneU _) (by decide) ML.out.1 ML.out.2 (by have := LB.out; simp; omega) _ rfl ?_; intro gg cg y9 o9 gr9 at9 lt9; have A9 := hideIt (CI.app_w (l := [q2, q3, q4, q5 j, q6, q7, q8]) (KX.out _ (by first | exact ((Q.refl w5).alloc _).drew | exact (Q.refl w5).drew.alloc _ | exact (Q.refl w5).alloc _)) rfl o9 gr9 at9); obtain ⟨e0, e1⟩ := A9.out.1; clear o9 gr9 at9
                          refine hK.out _ _ ?_ (fun hHeld => ?_)
                          · trivial
                          clear hK K
                          try simp only [Act.put, List.setIfInBounds_toArray, List.set_cons_zero, List.set_cons_succ]
                          refine wpAnyH_take (i := 14) (oi := ⟨_, _, _, _, _, _⟩) (v := ?_) rfl (by kernel_rfl) (by kernel_rfl) (by kernel_rfl) (fun _ _ _ h => h) (Or.inl ⟨by rfl, ?_⟩) (by assumption) ?_
                          rotate_left 1
                          · intro w hSw; (try dsimp only at hSw); go_simp; all_goals with_reducible rfl
                          try simp only [Act.put, List.setIfInBounds_toArray, List.set_cons_zero, List.set_cons_succ]
                          refine wpAnyH_ready (rs := [15]) (by kernel_rfl) (by simp) (AllReadyH.cons (o := ⟨_, _, _, _, _, _⟩) rfl (fun K hK => ?_) AllReadyH.nil)
                          go_simp
                          refine hK.out _ _ ?_ (fun hHeld => ?_)
                          · trivial
                          clear hK K
                          try simp only [Act.put, List.setIfInBounds_toArray, List.set_cons_zero, List.set_cons_succ]
                          refine wpAnyH_done (by kernel_rfl) ?_ _
                          go_wp2_with (fail)
                          go_roundw
                          case rel => exact ⟨k + 1, by go_num, by omega, some ⟨gg, 0, none⟩, some ⟨g1, 0, none⟩, some ⟨g2, 0, none⟩, cg, p1, p2, hideIt (FIN.out _ _ _ _ _ _ _ A9.out.2)⟩
                          case measure => simp [intOf]; omega
    · have hkl : ¬ (k : Int) < 1 + (d : Int) := by omega
      have hkd : decide ((k : Int) < 1 + (d : Int)) = false := by simp; omega
      have ekd : (k : Int) = 1 + (d : Int) := by omega
      obtain ⟨ws, hws⟩ : ∃ x, x = wsL k := ⟨_, rfl⟩
      obtain ⟨st, hst⟩ : ∃ x, x = stL k := ⟨_, rfl⟩
      obtain ⟨fr, hfr⟩ : ∃ x, x = List.replicate k ((g + 1 : Nat) : Int) := ⟨_, rfl⟩
      rw [← hws, ← hst, ← hfr] at H0
      obtain ⟨c0, c1, c2, c3⟩ := H0.out.c4
      have HQ2 : Hid (Q w1 w2) := H0.out.th.bel
      by_cases hdp : 2000 < k
      · have CR := hideIt (cal_deep H0.out hws hst hfr (by omega) hdp hg)
        have h1 : (2000 : Int) < 1 + (d : Int) := by omega
        have h2 : decide ((2000 : Int) < 1 + (d : Int)) = true := by simp; omega
        clear hws hst hfr H0 hdp hlt hk ekd CW0 CW1 CW2 CW3 CW4 CW5 CW6 CW7 CW8 CWz HT HU
        go_wp2_with (first
          | (go_at_call 9; refine CR.out.mono ?_; rintro e z ⟨ta, tc, rfl, q3⟩; have HZ := hideIt (HQ2.out.trans q3); clear q3)
          | fail)
        go_ret
        exact ⟨rfl, HQ1.out.trans (HZ.out.alloc _)⟩
      · have CR := hideIt (cal_halt H0.out hws hst hfr (by omega) (by omega) hg)
        have h1 : ¬ (2000 : Int) < 1 + (d : Int) := by omega
        have h2 : decide ((2000 : Int) < 1 + (d : Int)) = false := by simp; omega
        rw [ekd] at CR
        obtain ⟨s, hs⟩ : ∃ s : Int, s = (1 + (d : Int)) * (1 + (d : Int) - 1) / 2 := ⟨_, rfl⟩
        rw [← hs] at CR
        have hm : (1 + d) * d ≤ 2100 * 2100 := Nat.mul_le_mul (by omega) (by omega)
        have m1 : (1 + (d : Int)) * (d : Int) = (((1 + d) * d : Nat) : Int) := by push_cast; rfl
        rw [show 1 + (d : Int) - 1 = d by omega, m1] at hs
        have HS := hideIt hs
        clear hws hst hfr H0 hdp hlt hk ekd CW0 CW1 CW2 CW3 CW4 CW5 CW6 CW7 CW8 CWz HT HU hs
        go_wp2_with (first
          | (go_at_call 9; refine CR.out.mono ?_; rintro e z ⟨N, ta, tc, rfl, q3⟩; have HZ := hideIt (HQ2.out.trans q3); clear q3)
          | fail)
        go_ret
        have E : wrap64 ((wrap64 ((1 + (d : Int)) * (1 + (d : Int) - 1))).tdiv 2) = s := by
          rw [HS.out, show 1 + (d : Int) - 1 = d by omega, m1]
          generalize (1 + d) * d = P at hm
          rw [show wrap64 (P : Int) = (P : Int) by unfold wrap64; omega, Int.tdiv_eq_ediv_of_nonneg (by omega)]
          unfold wrap64
          omega
        refine ⟨?_, HQ1.out.trans (HZ.out.alloc _)⟩
        show Ending.returned (Value.bool (s == wrap64 ((wrap64 ((1 + (d : Int)) * (1 + (d : Int) - 1))).tdiv 2))) = _
        rw [E]
        simp
end Ca
end Go.Proofs.Ytejkblbhnbbjaaa
