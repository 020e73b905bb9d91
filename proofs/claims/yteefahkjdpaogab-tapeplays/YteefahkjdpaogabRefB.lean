/-
  What Pick of the document's answer does: a contract over the program; the conditions: the pointer leads to such a tape, whose draws came in, and the slice reads as the weights and is none of the tape's own memory.
-/
import Derived.Test.YteefahkjdpaogabRef
namespace Go.Proofs.Yteefahkjdpaogab
open Go.RowKit
set_option linter.unusedVariables false

set_option maxRecDepth 100000 in
set_option maxHeartbeats 2000000 in
theorem rpick_any (w : World) {B : Nat} {bl : Nat → Prop} {p : Nat} {la : Option Addr} {D Lc u : Nat} {ds bs vs : List Int} (b off n cap : Nat) (ws : List Int) (hT : RP w B bl p (.slice la D Lc) u bs vs) (hr : Reads .u64 w la ds) (hd : ds.length = D) (hD : D ≤ 4096) (hwf : ∀ d ∈ ds, 0 ≤ d ∧ d ≤ 18446744073709551615) (hu : u ≤ D) (hl : bs.length ≤ 1000000) (he : vs.length = bs.length) (hB : B ≤ w.heap.size)
    (hn : ws.length = n) (h0 : 0 < n) (hn2 : n ≤ 9223372036854775807) (hcell : ∀ j, j < ws.length → w.cell? ⟨b, off + j, none⟩ = some (.int .i64 (ws.getD j 0))) (hb : ¬ bl b) :
    Calls Try.prog 10 #[.pointer (some ⟨p, 0, none⟩), .slice (some ⟨b, off, none⟩) n cap] w fun e w' => e = .returned (.int .i64 (pickV ds u ws)) ∧ RStep w w' B bl p (.slice la D Lc) (nxtZ ds u (askN ws)) (appZ (askN ws) bs (askN ws)) (appZ (askN ws) vs (val ds u (askN ws))) := by
  have HT := hideIt hT
  have HL := hideIt hl
  have H1 := hideIt hr
  have H2 := hideIt hd
  have H3 := hideIt hwf
  have H4 := hideIt he
  have HN := hideIt hn
  have HC := hideIt hcell
  have HB := hideIt hb
  clear hT hl hn hcell hb hr hd hwf he
  go_enter Try.func10, Try.ntmps10
  go_wp2
  go_loop [5, 6] (fun s i => ∃ k : Nat, k ≤ n ∧ i = .int .i64 k ∧ s = .int .i64 (sumTo ws k) ∧ sumTo ws k ≤ 1073741824) (fun _ i => n - (intOf i).toNat)
  case atStart => exact ⟨0, by omega, rfl, rfl, by show (0 : Int) ≤ _; omega⟩
  case round =>
    obtain ⟨k, hk, rfl, rfl, hs⟩ := hrel
    have hs0 := sumTo_nonneg ws k
    by_cases hlt : k < n
    · obtain ⟨x, hx⟩ : ∃ x, ws.getD k 0 = x := ⟨_, rfl⟩
      have hc := HC.out k (by rw [HN.out]; exact hlt)
      rw [hx] at hc
      obtain ⟨c0, c1⟩ := cnt_bd x
      have HS : Hid (sumTo ws (k + 1) = sumTo ws k + cnt x) := by show _ = _; rw [sumTo_succ, hx]
      clear hx
      by_cases hov : 1073741824 < sumTo ws k + cnt x
      · obtain ⟨e1, e2⟩ := pick_over ds u ws k n HN.out hlt (by rw [HS.out]; exact hov)
        have HE := hideIt e1
        have HE2 := hideIt e2
        clear e1 e2
        go_wp2_with (go_at_call 17; refine (weight_any _ _).mono ?_; rintro e y1 ⟨rfl, rfl⟩)
        go_ret
        rw [HE.out, HE2.out]
        exact ⟨rfl, RStep.same HT.out⟩
      · go_wp2_with (go_at_call 17; refine (weight_any _ _).mono ?_; rintro e y1 ⟨rfl, rfl⟩)
        go_round
        case rel => exact ⟨k + 1, by omega, by go_num, by rw [HS.out], by rw [HS.out]; omega⟩
        case measure => simp [intOf]; omega
    · obtain ⟨T, hT'⟩ : ∃ T, sumTo ws k = T := ⟨_, rfl⟩
      have eT : tot ws = T := by rw [← sum_end ws k n HN.out hk hlt]; exact hT'
      have hle : ¬ 1073741824 < tot ws := by rw [eT, ← hT']; omega
      obtain ⟨d, hd⟩ : ∃ d, valZ ds u T = d := ⟨_, rfl⟩
      have HA : Hid (askN ws = T) := by show _ = _; unfold askN; rw [if_neg hle, eT]
      have HP : Hid (pickV ds u ws = placeFrom ws d 0 n) := by show _ = _; unfold pickV; rw [if_neg hle, HN.out, eT, hd]
      have HM : Hid (∀ j, j ≤ n → 0 ≤ sumTo ws j ∧ sumTo ws j ≤ T) := fun j hj => ⟨sumTo_nonneg ws j, by rw [← eT]; unfold tot; exact sumTo_mono ws (by rw [HN.out]; exact hj)⟩
      have HD := hideIt hd
      rw [hT'] at hs hs0 ⊢
      clear hle eT hd hT'
      go_wp2_with (go_at_call 12; refine (rbelow_all _ _ HT.out H1.out H2.out hD H3.out hu (by omega) HL.out H4.out hB).mono ?_; rw [HD.out]; rintro e y1 ⟨rfl, st⟩; have ST := hideIt st; clear st)
      have HC2 : Hid (∀ j, j < ws.length → y1.cell? ⟨b, off + j, none⟩ = some (.int .i64 (ws.getD j 0))) := fun j hj => by
        have hc := HC.out j hj
        rw [World.cell?_of_block (ST.out.2.block b (World.block_lt_of_cell? w _ hc) HB.out)]
        exact hc
      go_loop [8, 9] (fun s i => ∃ m : Nat, m ≤ n ∧ i = .int .i64 m ∧ s = .int .i64 (sumTo ws m) ∧ placeFrom ws d m (n - m) = placeFrom ws d 0 n) (fun _ i => n - (intOf i).toNat)
      case atStart => exact ⟨0, by omega, rfl, rfl, rfl⟩
      case round =>
        obtain ⟨m, hm, rfl, rfl, hp⟩ := hrel
        have HPm := hideIt hp
        clear hp
        obtain ⟨m0, m1⟩ := HM.out m hm
        by_cases hlt2 : m < n
        · obtain ⟨x, hx⟩ : ∃ x, ws.getD m 0 = x := ⟨_, rfl⟩
          have hc := HC2.out m (by rw [HN.out]; exact hlt2)
          rw [hx] at hc
          obtain ⟨c0, c1⟩ := cnt_bd x
          have HS : Hid (sumTo ws (m + 1) = sumTo ws m + cnt x) := by show _ = _; rw [sumTo_succ, hx]
          clear hx
          by_cases hov : d < sumTo ws m + cnt x
          · have HY := hideIt (place_yes ws d m n hlt2 (by rw [HS.out]; exact hov))
            go_wp2_with (go_at_call 17; refine (weight_any _ _).mono ?_; rintro e y2 ⟨rfl, rfl⟩)
            go_ret
            rw [HP.out, HA.out, ← HPm.out, HY.out]
            exact ⟨rfl, ST.out⟩
          · have HY := hideIt (place_no ws d m n hlt2 (by rw [HS.out]; exact hov))
            go_wp2_with (go_at_call 17; refine (weight_any _ _).mono ?_; rintro e y2 ⟨rfl, rfl⟩)
            go_round
            case rel => exact ⟨m + 1, by omega, by go_num, by rw [HS.out], by rw [← HY.out]; exact HPm.out⟩
            case measure => simp [intOf]; omega
        · have HY := hideIt (place_end ws d m n hlt2)
          go_wp2
          go_ret
          rw [HP.out, HA.out, ← HPm.out, HY.out]
          exact ⟨rfl, ST.out⟩

end Go.Proofs.Yteefahkjdpaogab
