/-
  For every list of sizes, place and number: a cell that is written changes no other cell of any block (the law MemApart returns true); no conditions.
-/
import Derived.Test.YtahhbehpgolinaaRows
import Derived.Test.YtahhbehpgolinaaMeO
import Derived.ShutString
import Derived.ChangeOld
import Derived.Below
namespace Go.Proofs.Ytahhbehpgolinaa.memApart
open Go.ChangeShapes Go.WideShapes Go.ChangeAt Go.RowKit Me
set_option linter.unusedVariables false

theorem laidOut : laidOutB Try.prog = true := by kernel_rfl
theorem own : ownKnob Try.prog.godebug = none := by kernel_rfl
theorem Try.info31 : (Try.prog.info? 31).map (fun i => (i.zero, i.size, i.bytes)) = some (some (.agg #[.int .i64 0, .int .i64 0]), 2, 16) := by kernel_rfl

/-- The first k sizes. -/
def S (xs : List Int) (k : Nat) : List Nat := (xs.take k).map (fun x => (x % 20).toNat)
theorem S_len (xs : List Int) (k : Nat) (h : k ≤ xs.length) : (S xs k).length = k := by simp [S]; omega
theorem S_next {xs : List Int} {k : Nat} {x : Int} {c : Nat} (h : k < xs.length) (hx : xs.getD k 0 = x) (hc : x % 20 = (c : Int)) : S xs (k + 1) = S xs k ++ [c] := by
  have e : xs[k] = x := by simpa [List.getD, h] using hx
  simp only [S]
  rw [List.take_add_one]
  simp [h, e, hc]
theorem sum_le {l : List Nat} {b : Nat} (h : ∀ c ∈ l, c ≤ b) : l.sum ≤ b * l.length := by
  induction l with
  | nil => simp
  | cons x r ih =>
    have h1 := h x (by simp)
    have h2 := ih (fun c hc => h c (by simp [hc]))
    rw [List.sum_cons, List.length_cons, Nat.mul_succ]
    omega
theorem S_small (xs : List Int) (k : Nat) : ∀ c ∈ S xs k, c ≤ 19 := by
  intro c hc
  obtain ⟨x, _, rfl⟩ := List.mem_map.1 hc
  omega
theorem S_sum (xs : List Int) (k : Nat) (h : k ≤ xs.length) (h8 : k ≤ 8) : (S xs k).sum ≤ 152 := by
  have := sum_le (S_small xs k)
  rw [S_len xs k h] at this
  omega
theorem row_snoc (L : List (Nat × Nat)) (k q : Nat) : L ++ (List.range (q + 1)).map (fun j => (k, j)) = (L ++ (List.range q).map (fun j => (k, j))) ++ [(k, q)] := by
  simp [List.range_succ]

set_option maxRecDepth 100000 in
set_option maxHeartbeats 4000000 in
theorem walk (a1 : Option Addr) (len1 cap1 : Nat) (xs : List Int) (u v : Int) (w : World) (hx : xs.length = len1) (hm : len1 ≤ maxLen) (hR : Reads .u8 w a1 xs) (hw : ∀ n ∈ xs, 0 ≤ n ∧ n ≤ 255) (hu : 0 ≤ u) (hu' : u ≤ 65535) (hv : I64 v) :
    Calls Try.prog 7 #[.slice a1 len1 cap1, .int .u16 u, .int .i64 v] w fun e w' => e = .returned (.bool true) ∧ Below w.heap.size w w' := by
  have hm' : len1 ≤ 9223372036854775807 := by unfold maxLen at hm; omega
  obtain ⟨i0, hi, hz0, hz1, hz2⟩ := info_parts Try.info31
  have HX := hideIt hx
  have HR := hideIt hR
  have HW := hideIt hw
  have HV := hideIt hv
  clear hx hm hR hw hv
  go_enter Try.func7, Try.ntmps7
  go_wp2_with (first
    | (go_at_call 8; refine (awake_any _).mono ?_; rintro e x0 ⟨rfl, hb⟩; have B0 := hideIt hb; clear hb)
    | (go_at_call 9; refine (one_new B0.out).mono ?_; rintro e x1 ⟨p, rfl, hM⟩; have H1 := hideIt (tw_new hM); clear hM)
    | fail)
  go_loopw [8, 9] (fun l i wr => ∃ (k : Nat) (la : Option Addr) (lc : Nat), i = .int .i64 k ∧ k ≤ len1 ∧ k ≤ 8 ∧ l = .slice la (adrF 0 (S xs k)).length lc ∧ Tw w wr p 0 (S xs k) (fun _ _ => 0) (((S xs k).sum : Nat) : Int) (.slice la (adrF 0 (S xs k)).length lc) (adrF 0 (S xs k))) (fun _ i _ => 8 - (intOf i).toNat)
  case atStart => exact ⟨0, none, 0, rfl, Nat.zero_le _, Nat.zero_le _, rfl, H1.out⟩
  case round =>
    obtain ⟨k, la, lc, rfl, hk, hk8, rfl, hT⟩ := hrel
    have H2 := hideIt hT
    have HSL := hideIt (S_len xs k (by rw [HX.out]; omega))
    have HSS := hideIt (S_sum xs k (by rw [HX.out]; omega) hk8)
    clear hT H1
    by_cases hg : k < len1 ∧ k < 8
    · obtain ⟨g1, g2⟩ := hg
      obtain ⟨b1, o1, rfl, hcell⟩ := HR.out (by rw [HX.out]; omega)
      obtain ⟨x, hx⟩ : ∃ x, xs.getD k 0 = x := ⟨_, rfl⟩
      have c1 := hcell k (by rw [HX.out]; omega)
      have hb1 := World.block_lt_of_cell? w _ c1
      rw [hx] at c1
      obtain ⟨y0, y1⟩ := HW.out x (by rw [← hx]; exact getD_mem xs k (by rw [HX.out]; omega))
      have k1 : wr.cell? ⟨b1, o1 + k, none⟩ = some (.int .u8 x) := (H2.out.1.cell (p := ⟨b1, o1 + k, none⟩) hb1).trans c1
      obtain ⟨c, hc⟩ : ∃ c : Nat, x % 20 = (c : Int) := ⟨(x % 20).toNat, by omega⟩
      have hc20 : c < 20 := by omega
      have HN := hideIt (S_next (by rw [HX.out]; omega) hx hc)
      have HA : Hid (adrF 0 (S xs k ++ [c]) = adrF 0 (S xs k) ++ (List.range c).map (fun j => (k, j))) := by
        have := adrF_snoc c (S xs k) 0
        rw [HSL.out, Nat.zero_add] at this
        exact this
      have HD := hideIt (adrF_length (S xs k) 0)
      clear hcell hx c1
      go_wp2_with (first
        | (go_at_call 10; refine (tw_alloc H2.out (by omega) (by have := HSS.out; omega) c (by have := HSS.out; omega) (by rw [HSL.out]; omega)).mono ?_; rw [HSL.out]; rintro e x2 ⟨rfl, hM⟩; have H3 := hideIt hM; clear hM)
        | fail)
      go_loopw [8, 13] (fun l j wr => ∃ (q : Nat) (la : Option Addr) (lc : Nat), j = .int .i64 q ∧ q ≤ c ∧ l = .slice la (adrF 0 (S xs k) ++ (List.range q).map (fun j => (k, j))).length lc ∧ Tw w wr p 0 (S xs k ++ [c]) (fun _ _ => 0) ((((S xs k).sum : Nat) : Int) + c) (.slice la (adrF 0 (S xs k) ++ (List.range q).map (fun j => (k, j))).length lc) (adrF 0 (S xs k) ++ (List.range q).map (fun j => (k, j)))) (fun _ j _ => c - (intOf j).toNat)
      case atStart => exact ⟨0, la, lc, rfl, Nat.zero_le _, by simp, by simpa using H3.out⟩
      case round =>
        obtain ⟨q, la', lc', rfl, hq, rfl, hT⟩ := hrel
        have hLL : (adrF 0 (S xs k) ++ (List.range q).map (fun j => (k, j))).length ≤ 1000 := by
          rw [List.length_append, HD.out]
          have := HSS.out
          simp
          omega
        have HRS := hideIt (row_snoc (adrF 0 (S xs k)) k q)
        generalize hLe : adrF 0 (S xs k) ++ (List.range q).map (fun j => (k, j)) = L at hT HRS hLL
        have HLe := hideIt hLe
        have H4 := hideIt hT
        clear hT H3 hLe
        by_cases hqc : q < c
        · have HO := hideIt (show (wr.alloc (.cells #[.int .i64 (k : Int), .int .i64 (q : Int)] 31)).ownsRow w.heap.size 31 2 (.slice la' L.length lc') L.length (blkCells L) from by
            obtain ⟨_, _, bl, _, h3, _⟩ := H4.out
            exact ownsRow_block h3 (fun b hb => Below.heap_alloc _ _ _ (h3.lt b hb).2))
          have hsz : w.heap.size ≤ wr.heap.size := H4.out.1.size
          go_wp2_with (first | (at_builtin; refine wpList_append_lies _ rfl _ _ 53 rfl w.heap.size 31 i0 (.agg #[.int .i64 0, .int .i64 0]) 2 16 Try.underlying53 hi hz0 hz1 hz2 rfl (by decide) (.slice la' L.length lc') L.length (blkCells L) rfl HO.out ⟨wr.heap.size, 0, none⟩ 1 1 [.int .i64 (k : Int), .int .i64 (q : Int)] rfl rfl (World.news_of_block (heap_alloc_new wr _)) (by intro u hu; simp at hu; rcases hu with rfl | rfl <;> rfl) (by decide) (by unfold maxLen; omega) (by omega) (by simp; omega) (wr.heap.size + 1) (by simp) ?_; intro g cap w1 hown hgrow hat hlt; have H5 := hideIt (tw_appended H4.out hown hgrow hat); clear hown hgrow hat) | fail)
          go_roundw
          case rel =>
            refine ⟨q + 1, some ⟨g, 0, none⟩, cap, by go_num, by omega, ?_, ?_⟩
            · rw [HRS.out]
              simp
            · rw [HRS.out]
              have := H5.out
              simpa using this
          case measure => simp [intOf]; omega
        · have : q = c := by omega
          subst this
          go_wp2_with (fail)
          go_roundw
          case rel =>
            refine ⟨k + 1, la', lc', by go_num, by omega, by omega, ?_, ?_⟩
            · rw [HN.out, HA.out, HLe.out]
            · rw [HN.out, HA.out, HLe.out, List.sum_append]
              have := H4.out
              simpa using this
          case measure => simp [intOf]; omega
    · have HC := hideIt (show ∀ c ∈ S xs k, c ≤ 100000 from fun c hc => by have := S_small xs k c hc; omega)
      have HL8 := hideIt (show (S xs k).length ≤ 1000000 by rw [HSL.out]; omega)
      have HD := hideIt (adrF_length (S xs k) 0)
      have HIN := hideIt (fun (q : Nat) (h : q < (adrF 0 (S xs k)).length) => adr_in h)
      have HNE := hideIt (fun (q r : Nat) (h : q < (adrF 0 (S xs k)).length) (h' : r < (adrF 0 (S xs k)).length) (hne : q ≠ r) => adr_ne h h' hne)
      have HI1 := hideIt (show ∀ q (h : q < (adrF 0 (S xs k)).length), I64 (((adrF 0 (S xs k))[q].1 : Nat) : Int) ∧ I64 (((adrF 0 (S xs k))[q].2 : Nat) : Int) from fun q h => by
        obtain ⟨_, c, e1, e2⟩ := adrF_mem _ _ _ (List.getElem_mem h)
        have := (List.getElem?_eq_some_iff.1 e1).1
        have := S_small xs k c (List.mem_of_getElem? e1)
        have := HSL.out
        exact ⟨⟨by omega, by omega⟩, ⟨by omega, by omega⟩⟩)
      generalize hbs : S xs k = bs at H2 HSL HSS HC HL8 HD HIN HNE HI1
      generalize hL : adrF 0 bs = L at H2 HD HIN HNE HI1
      have HG := hideIt hg
      clear hg hbs hL
      have hLl : L.length ≤ 152 := by rw [HD.out]; exact HSS.out
      by_cases g1 : k < len1
      all_goals try (have g2 : ¬ k < 8 := fun h => HG.out ⟨g1, h⟩)
      all_goals go_wp2_with (fail)
      all_goals (
        go_loopw [14] (fun o wr => ∃ (q : Nat) (f : Int → Int → Int), o = .int .i64 q ∧ q ≤ L.length ∧ Tw w wr p q bs f ((bs.sum : Nat) : Int) (.slice la L.length lc) L ∧ ∀ r (h : r < L.length), r < q → f ((L[r].1 : Nat) : Int) ((L[r].2 : Nat) : Int) = (r : Int) + 1) (fun o _ => L.length - (intOf o).toNat)
        case atStart => exact ⟨0, _, rfl, Nat.zero_le _, H2.out, fun r h h' => by omega⟩
        case round =>
          obtain ⟨q, f, rfl, hq, hT, hf⟩ := hrel
          have H3 := hideIt hT
          have HF := hideIt hf
          clear hT hf H2
          by_cases hql : q < L.length
          · obtain ⟨g, rfl, hcell⟩ := tw_at H3.out rfl (by omega)
            obtain ⟨c1, c2⟩ := hcell q hql
            obtain ⟨i1, i2⟩ := HI1.out q hql
            have I1 := hideIt i1
            have I2 := hideIt i2
            have IN := hideIt (HIN.out q hql)
            have HN := hideIt (show ∀ r (h : r < L.length), r < q + 1 → upd f ((L[q].1 : Nat) : Int) ((L[q].2 : Nat) : Int) ((q : Int) + 1) ((L[r].1 : Nat) : Int) ((L[r].2 : Nat) : Int) = (r : Int) + 1 from fun r h h' => by
              simp only [upd]
              by_cases e : r = q
              · subst e
                rw [if_pos ⟨rfl, rfl⟩]
              · rw [if_neg (HNE.out r q h hql e)]
                exact HF.out r h (by omega))
            clear hcell i1 i2
            generalize L[q].1 = A at c1 I1 IN HN
            generalize L[q].2 = A2 at c2 I2 IN HN
            go_wp2_with (first | (go_at_call 16; refine (tw_store H3.out (a := (A : Int)) (b := (A2 : Int)) (x := (q : Int) + 1) I1.out I2.out (i64 (by omega) (by omega)) HL8.out (by omega) HC.out IN.out).mono ?_; rintro e x3 ⟨rfl, hM⟩; have H4 := hideIt hM; clear hM) | fail)
            go_roundw
            case rel => exact ⟨q + 1, _, by go_num, by omega, H4.out, HN.out⟩
            case measure => simp [intOf]; omega
          · have : q = L.length := by omega
            subst this
            by_cases h0 : L.length = 0
            · have e0 : bs.sum = 0 := by have := HD.out; omega
              go_wp2_with (first | (go_at_call 18; refine (tw_total H3.out).mono ?_; rw [e0]; rintro e x4 ⟨rfl, rfl⟩) | fail)
              go_ret
              exact ⟨rfl, H3.out.1⟩
            · obtain ⟨kk, hkk⟩ : ∃ kk : Nat, u % (L.length : Int) = (kk : Int) := ⟨(u % (L.length : Int)).toNat, by have := Int.emod_nonneg u (show (L.length : Int) ≠ 0 by omega); omega⟩
              have hkl : kk < L.length := by have := Int.emod_lt_of_pos u (show (0 : Int) < (L.length : Int) by omega); omega
              have hpos : (0 : Int) < (L.length : Int) := by omega
              obtain ⟨g, rfl, hcell⟩ := tw_at H3.out rfl (by omega)
              obtain ⟨c1, c2⟩ := hcell kk hkl
              obtain ⟨i1, i2⟩ := HI1.out kk hkl
              have I1 := hideIt i1
              have I2 := hideIt i2
              have IN := hideIt (HIN.out kk hkl)
              have HN := hideIt (show ∀ r (h : r < L.length), upd f ((L[kk].1 : Nat) : Int) ((L[kk].2 : Nat) : Int) v ((L[r].1 : Nat) : Int) ((L[r].2 : Nat) : Int) = if r = kk then v else (r : Int) + 1 from fun r h => by
                simp only [upd]
                by_cases e : r = kk
                · subst e
                  rw [if_pos ⟨rfl, rfl⟩, if_pos rfl]
                · rw [if_neg (HNE.out r kk h hkl e), if_neg e]
                  exact HF.out r h h)
              clear hcell i1 i2
              generalize L[kk].1 = A at c1 I1 IN HN
              generalize L[kk].2 = A2 at c2 I2 IN HN
              go_wp2_with (first | (go_at_call 16; refine (tw_store H3.out (a := (A : Int)) (b := (A2 : Int)) (x := v) I1.out I2.out HV.out HL8.out (by omega) HC.out IN.out).mono ?_; rintro e x3 ⟨rfl, hM⟩; have H4 := hideIt hM; clear hM) | fail)
              generalize upd f (A : Int) (A2 : Int) v = F at H4 HN
              have TS := hideIt (show ((bs.sum : Nat) : Int) = (L.length : Int) by have := HD.out; omega)
              clear c1 c2
              go_loopw [16] (fun o wr => ∃ q : Nat, o = .int .i64 q ∧ q ≤ L.length ∧ Tw w wr p (L.length + 1) bs F ((bs.sum : Nat) : Int) (.slice (some ⟨g, 0, none⟩) L.length lc) L) (fun o _ => L.length - (intOf o).toNat)
              case atStart => exact ⟨0, rfl, Nat.zero_le _, H4.out⟩
              case round =>
                obtain ⟨q, rfl, hq, hT⟩ := hrel
                have H5 := hideIt hT
                clear hT H4
                by_cases hql : q < L.length
                · obtain ⟨g', hg', hcell⟩ := tw_at H5.out rfl (by omega)
                  cases hg'
                  obtain ⟨c1, c2⟩ := hcell q hql
                  obtain ⟨i1, i2⟩ := HI1.out q hql
                  have J1 := hideIt i1
                  have J2 := hideIt i2
                  have JN := hideIt (HIN.out q hql)
                  have hval := HN.out q hql
                  clear hcell i1 i2
                  generalize L[q].1 = E1 at c1 J1 JN hval
                  generalize L[q].2 = E2 at c2 J2 JN hval
                  by_cases e : q = kk
                  · rw [if_pos e] at hval
                    have HVL := hideIt hval
                    have e' : ((q : Int) == (kk : Int)) = true := by simp [e]
                    subst e
                    clear hval
                    go_wp2_with (first | (go_at_call 14; refine (tw_load H5.out (a := (E1 : Int)) (b := (E2 : Int)) J1.out J2.out HL8.out JN.out).mono ?_; rw [HVL.out]; rintro e x5 ⟨rfl, hM⟩; have H6 := hideIt hM; clear hM) | fail)
                    go_roundw
                    case rel => exact ⟨q + 1, by go_num, by omega, H6.out⟩
                    case measure => simp [intOf]; omega
                  · rw [if_neg e] at hval
                    have HVL := hideIt hval
                    have e' : ((q : Int) == (kk : Int)) = false := by simp; omega
                    clear hval
                    go_wp2_with (first | (go_at_call 14; refine (tw_load H5.out (a := (E1 : Int)) (b := (E2 : Int)) J1.out J2.out HL8.out JN.out).mono ?_; rw [HVL.out]; rintro e x5 ⟨rfl, hM⟩; have H6 := hideIt hM; clear hM) | fail)
                    go_roundw
                    case rel => exact ⟨q + 1, by go_num, by omega, H6.out⟩
                    case measure => simp [intOf]; omega
                · go_wp2_with (first | (go_at_call 18; refine (tw_total H5.out).mono ?_; rw [TS.out]; rintro e x6 ⟨rfl, rfl⟩) | fail)
                  go_ret
                  exact ⟨by simp, H5.out.1⟩)

set_option maxRecDepth 100000 in
set_option maxHeartbeats 400000 in
theorem lifted (os : Os) (started : os.Started) (H : Type) (enc : TypeId × Value → H) :
    ReturnsInHanded {} Try.checked os 7 .any (Rows.memApartSpec.pre6 enc Try.prog Try.f7 Rows.memApartRow.domain false) (Rows.memApartSpec.post enc Try.prog Try.f7 false true false false) := by
  refine returnsInHanded_of_change (C := Try.checked) own started (by kernel_rfl) Try.func7
    (ChangeSpec.witness6 (enc := enc) (C := Try.checked) false ⟨#[], #[.slice none 0 0, .int .u16 0, .int .i64 0], []⟩ 8 (by kernel_rfl) (by kernel_rfl) (by kernel_rfl) (by kernel_rfl)) ?_
  intro W base args ds gs before hval0 hW hcnd _
  have hval : ∀ (j : Nat) t v, Try.f7.params[j]? = some t → args[j]? = some v → Value.okWide Try.prog W .any base t v := hval0
  have hW' := hW
  obtain ⟨p, q, hA0, hV, rfl, hfz, hnd⟩ := hW
  have hA : DataW.TrodAll enc Try.prog W 0 (fun _ => true) true Try.f7.params.toList args.toList ds p := hA0
  rw [Try.params7] at hA hval
  obtain ⟨v0, vs0, d0, ds0, p0, q0, hargs, rfl, rfl, h0, r0⟩ := trodAll_cons hA
  obtain ⟨v1, vs1, d1, ds1, p1, q1, rfl, rfl, rfl, h1, r1⟩ := trodAll_cons r0
  obtain ⟨v2, vs2, d2, ds2, p2, q2, rfl, rfl, rfl, h2, r2⟩ := trodAll_cons r1
  obtain ⟨rfl, rfl, rfl⟩ := trodAll_nil r2
  obtain rfl : args = #[v0, v1, v2] := by cases args; simp_all
  obtain ⟨rfl, rfl⟩ := trodVars_none hV
  have k0 := h0
  have lt0 : ∀ x ∈ p0, x.block < W.heap.size := by obtain ⟨m, hm⟩ := k0; exact DataW.trod_lt m _ _ _ hm
  obtain ⟨a1, len1, cap1, xs, rfl, hx, hm, hR, hwf⟩ := open_row Try.underlying52 Try.underlying5 (by kernel_rfl) (hval 0 52 v0 rfl rfl) h0
  obtain ⟨a0, rfl, rfl, rfl, w0⟩ := open_int Try.underlying50 (hval 1 50 v1 rfl rfl) h1
  obtain ⟨a2, rfl, rfl, rfl, w2⟩ := open_int Try.underlying2 (hval 2 2 v2 rfl rfl) h2
  clear hA0 hval0
  obtain ⟨b0, b0'⟩ := wf_u16 w0
  refine (walk a1 len1 cap1 xs a0 a2 W hx hm hR (fun n hn => wf_u8 (hwf n hn)) b0 b0' (I64.of_wf' w2)).mono fun e W' ⟨he, bel⟩ => ?_
  subst he
  exact ⟨_, rfl, _, _, _, [], _, [], hW', trodAll_mk1 (shut_bool Try.underlying4 _), (trodAll_cons_mk (Below.trod laidOut (by kernel_rfl) (of_decide_eq_true (by kernel_rfl)) k0 bel lt0) (trodAll_cons_mk (shut_int Try.underlying50 w0) (trodAll_cons_mk (shut_int Try.underlying2 w2) trodAll_mk0))), rfl, bel.frame _, fun h => by cases h⟩

theorem over : Rows.memApartRow.holds Try.pinned (OpenSpec.ofChange Rows.memApartSpec) :=
  OpenClaim.holds_of_wide 7 Try.f7 rfl rfl rfl rfl rfl rfl rfl ⟨rfl, rfl, rfl, rfl, rfl⟩ rfl rfl rfl rfl rfl (by kernel_rfl) Try.func7 (by kernel_rfl)
    (of_decide_eq_true (by kernel_rfl)) (by unfold Func.isWrapper; first | (rw [if_pos (by decide +kernel)]; kernel_rfl) | (rw [if_neg (by decide +kernel)]; exact ⟨rfl, rfl⟩))
    (fun os started H enc _ => lifted os started H enc)

/-- The statement. -/
theorem proved : Rows.MemApartSaid :=
  over
#print axioms proved
end Go.Proofs.Ytahhbehpgolinaa.memApart
