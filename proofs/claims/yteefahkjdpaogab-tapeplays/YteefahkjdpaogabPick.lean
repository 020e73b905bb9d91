/-
  What Pick does: contracts over the program and over the document's answer; the conditions: the pointer leads to a tape, the slice reads as the weights and is none of the tape's own memory.
-/
import Derived.Test.YteefahkjdpaogabEndsA
namespace Go.Proofs.Yteefahkjdpaogab
open Go.RowKit
set_option linter.unusedVariables false

/-- What a weight counts as. -/
def cnt (w : Int) : Int := if w < 0 then 0 else if 1048576 < w then 1048576 else w
/-- The sum of the first k weights. -/
def sumTo (ws : List Int) : Nat → Int
  | 0 => 0
  | k + 1 => sumTo ws k + cnt (ws.getD k 0)
/-- The first place from k on whose sum is above d, of those below n; none: 0. -/
def placeFrom (ws : List Int) (d : Int) : Nat → Nat → Int
  | _, 0 => 0
  | k, f + 1 => if d < sumTo ws (k + 1) then k else placeFrom ws d (k + 1) f
theorem cnt_bd (w : Int) : 0 ≤ cnt w ∧ cnt w ≤ 1048576 := by unfold cnt; (repeat' split) <;> omega
theorem sumTo_succ (ws : List Int) (k : Nat) : sumTo ws (k + 1) = sumTo ws k + cnt (ws.getD k 0) := rfl
theorem sumTo_nonneg (ws : List Int) (k : Nat) : 0 ≤ sumTo ws k := by
  induction k with
  | zero => exact Int.le_refl _
  | succ k ih => rw [sumTo_succ]; have := cnt_bd (ws.getD k 0); omega
theorem sumTo_mono (ws : List Int) {j k : Nat} (h : j ≤ k) : sumTo ws j ≤ sumTo ws k := by
  induction k with
  | zero => have : j = 0 := by omega
            subst this; exact Int.le_refl _
  | succ k ih =>
    by_cases e : j = k + 1
    · subst e; exact Int.le_refl _
    · have := ih (by omega)
      rw [sumTo_succ]
      have := cnt_bd (ws.getD k 0)
      omega

set_option maxHeartbeats 400000 in
theorem counted_any (x : Int) (w : World) : Calls Try.prog 16 #[.int .i64 x] w fun e w' => e = .returned (.int .i64 (cnt x)) ∧ w' = w := by
  unfold cnt
  by_cases h1 : x < 0
  · rw [if_pos h1]
    go_enter Try.func16, Try.ntmps16
    go_wp2
    go_ret
    exact ⟨rfl, rfl⟩
  · rw [if_neg h1]
    by_cases h2 : 1048576 < x
    · rw [if_pos h2]
      go_enter Try.func16, Try.ntmps16
      go_wp2
      go_ret
      exact ⟨rfl, rfl⟩
    · rw [if_neg h2]
      go_enter Try.func16, Try.ntmps16
      go_wp2
      go_ret
      exact ⟨rfl, rfl⟩

set_option maxHeartbeats 400000 in
theorem weight_any (x : Int) (w : World) : Calls Try.prog 17 #[.int .i64 x] w fun e w' => e = .returned (.int .i64 (cnt x)) ∧ w' = w := by
  unfold cnt
  by_cases h1 : x < 0
  · rw [if_pos h1]
    go_enter Try.func17, Try.ntmps17
    go_wp2
    go_ret
    exact ⟨rfl, rfl⟩
  · rw [if_neg h1]
    by_cases h2 : 1048576 < x
    · rw [if_pos h2]
      go_enter Try.func17, Try.ntmps17
      go_wp2
      go_ret
      exact ⟨rfl, rfl⟩
    · rw [if_neg h2]
      go_enter Try.func17, Try.ntmps17
      go_wp2
      go_ret
      exact ⟨rfl, rfl⟩

def tot (ws : List Int) : Int := sumTo ws ws.length
def valZ (ds : List Int) (u : Nat) (n : Int) : Int := if n ≤ 0 then 0 else val ds u n
def nxtZ (ds : List Int) (u : Nat) (n : Int) : Nat := if n ≤ 0 then u else nxt ds u
def logZ (ds : List Int) (u : Nat) (n : Int) (lg : List (Int × Int)) : List (Int × Int) := if n ≤ 0 then lg else lg ++ [(n, val ds u n)]
def askN (ws : List Int) : Int := if 1073741824 < tot ws then 0 else tot ws
def pickV (ds : List Int) (u : Nat) (ws : List Int) : Int := if 1073741824 < tot ws then 0 else placeFrom ws (valZ ds u (tot ws)) 0 ws.length

/-- A tape behind a question: where it lies may have grown. -/
def Step (w w' : World) (B : Nat) (bl : Nat → Prop) (p : Nat) (ds : List Int) (u : Nat) (lg : List (Int × Int)) : Prop :=
  (∃ bl', (∀ k, bl k → bl' k) ∧ (∀ k, bl' k → bl k ∨ w.heap.size ≤ k) ∧ TP w' B bl' p ds u lg) ∧ Fr bl w w'

theorem Step.same {w : World} {B : Nat} {bl : Nat → Prop} {p : Nat} {ds : List Int} {u : Nat} {lg : List (Int × Int)} (h : TP w B bl p ds u lg) : Step w w B bl p ds u lg :=
  ⟨⟨bl, fun _ h => h, fun _ h => Or.inl h, h⟩, Fr.refl _ _⟩

theorem below_all (w : World) {B : Nat} {bl : Nat → Prop} {p : Nat} {ds : List Int} {u : Nat} {lg : List (Int × Int)} (n : Int) (hT : TP w B bl p ds u lg) (hn2 : n ≤ 9223372036854775807) (hl : lg.length ≤ 1000000) (hB : B ≤ w.heap.size) :
    Calls Try.prog 11 #[.pointer (some ⟨p, 0, none⟩), .int .i64 n] w fun e w' => e = .returned (.int .i64 (valZ ds u n)) ∧ Step w w' B bl p ds (nxtZ ds u n) (logZ ds u n lg) := by
  by_cases h : n ≤ 0
  · unfold valZ nxtZ logZ
    rw [if_pos h, if_pos h, if_pos h]
    exact (below_none w p n h).mono fun e w' ⟨he, hw⟩ => ⟨he, by subst hw; exact Step.same hT⟩
  · unfold valZ nxtZ logZ
    rw [if_neg h, if_neg h, if_neg h]
    exact (below_any w n hT (by omega) hn2 hl hB).mono fun e w' ⟨he, hw⟩ => ⟨he, hw⟩

theorem sum_end (ws : List Int) (k n : Nat) (hn : ws.length = n) (h1 : k ≤ n) (h2 : ¬ k < n) : sumTo ws k = tot ws := by
  have e : k = ws.length := by omega
  subst e
  rfl
theorem pick_over (ds : List Int) (u : Nat) (ws : List Int) (k n : Nat) (hn : ws.length = n) (hk : k < n) (h : 1073741824 < sumTo ws (k + 1)) : pickV ds u ws = 0 ∧ askN ws = 0 := by
  have := sumTo_mono ws (show k + 1 ≤ ws.length by omega)
  have h' : 1073741824 < tot ws := by unfold tot; omega
  unfold pickV askN
  rw [if_pos h', if_pos h']
  exact ⟨rfl, rfl⟩
theorem place_yes (ws : List Int) (d : Int) (k n : Nat) (hk : k < n) (h : d < sumTo ws (k + 1)) : placeFrom ws d k (n - k) = k := by
  have e : n - k = (n - k - 1) + 1 := by omega
  rw [e]
  unfold placeFrom
  rw [if_pos h]
theorem place_no (ws : List Int) (d : Int) (k n : Nat) (hk : k < n) (h : ¬ d < sumTo ws (k + 1)) : placeFrom ws d k (n - k) = placeFrom ws d (k + 1) (n - (k + 1)) := by
  have e : n - k = (n - (k + 1)) + 1 := by omega
  rw [e, placeFrom, if_neg h]
theorem place_end (ws : List Int) (d : Int) (k n : Nat) (hk : ¬ k < n) : placeFrom ws d k (n - k) = 0 := by
  have e : n - k = 0 := by omega
  rw [e, placeFrom]

set_option maxRecDepth 100000 in
set_option maxHeartbeats 2000000 in
theorem pick_any (w : World) {B : Nat} {bl : Nat → Prop} {p : Nat} {ds : List Int} {u : Nat} {lg : List (Int × Int)} (b off n cap : Nat) (ws : List Int) (hT : TP w B bl p ds u lg) (hl : lg.length ≤ 1000000) (hB : B ≤ w.heap.size)
    (hn : ws.length = n) (h0 : 0 < n) (hn2 : n ≤ 9223372036854775807) (hcell : ∀ j, j < ws.length → w.cell? ⟨b, off + j, none⟩ = some (.int .i64 (ws.getD j 0))) (hb : ¬ bl b) :
    Calls Try.prog 9 #[.pointer (some ⟨p, 0, none⟩), .slice (some ⟨b, off, none⟩) n cap] w fun e w' => e = .returned (.int .i64 (pickV ds u ws)) ∧ Step w w' B bl p ds (nxtZ ds u (askN ws)) (logZ ds u (askN ws) lg) := by
  have HT := hideIt hT
  have HL := hideIt hl
  have HN := hideIt hn
  have HC := hideIt hcell
  have HB := hideIt hb
  clear hT hl hn hcell hb
  go_enter Try.func9, Try.ntmps9
  go_wp2
  go_loop [5, 16] (fun s i => ∃ k : Nat, k ≤ n ∧ i = .int .i64 k ∧ s = .int .i64 (sumTo ws k) ∧ sumTo ws k ≤ 1073741824) (fun _ i => n - (intOf i).toNat)
  case atStart => exact ⟨0, by omega, rfl, rfl, by show (0 : Int) ≤ _; omega⟩
  case round =>
    obtain ⟨k, hk, rfl, rfl, hs⟩ := hrel
    have hs0 := sumTo_nonneg ws k
    by_cases hlt : k < n
    · obtain ⟨x, hx⟩ : ∃ x, ws.getD k 0 = x := ⟨_, rfl⟩
      have hc := HC.out k (by rw [HN.out]; exact hlt)
      rw [hx] at hc
      obtain ⟨c0, c1⟩ := cnt_bd x
      have HS : Hid (sumTo ws (k + 1) = sumTo ws k + cnt x) := by show _ = _; rw [sumTo_succ, hx]
      clear hx
      by_cases hov : 1073741824 < sumTo ws k + cnt x
      · obtain ⟨e1, e2⟩ := pick_over ds u ws k n HN.out hlt (by rw [HS.out]; exact hov)
        have HE := hideIt e1
        have HE2 := hideIt e2
        clear e1 e2
        go_wp2_with (go_at_call 16; refine (counted_any _ _).mono ?_; rintro e y1 ⟨rfl, rfl⟩)
        go_ret
        rw [HE.out, HE2.out]
        exact ⟨rfl, Step.same HT.out⟩
      · go_wp2_with (go_at_call 16; refine (counted_any _ _).mono ?_; rintro e y1 ⟨rfl, rfl⟩)
        go_round
        case rel => exact ⟨k + 1, by omega, by go_num, by rw [HS.out], by rw [HS.out]; omega⟩
        case measure => simp [intOf]; omega
    · obtain ⟨T, hT'⟩ : ∃ T, sumTo ws k = T := ⟨_, rfl⟩
      have eT : tot ws = T := by rw [← sum_end ws k n HN.out hk hlt]; exact hT'
      have hle : ¬ 1073741824 < tot ws := by rw [eT, ← hT']; omega
      obtain ⟨d, hd⟩ : ∃ d, valZ ds u T = d := ⟨_, rfl⟩
      have HA : Hid (askN ws = T) := by show _ = _; unfold askN; rw [if_neg hle, eT]
      have HP : Hid (pickV ds u ws = placeFrom ws d 0 n) := by show _ = _; unfold pickV; rw [if_neg hle, HN.out, eT, hd]
      have HM : Hid (∀ j, j ≤ n → 0 ≤ sumTo ws j ∧ sumTo ws j ≤ T) := fun j hj => ⟨sumTo_nonneg ws j, by rw [← eT]; unfold tot; exact sumTo_mono ws (by rw [HN.out]; exact hj)⟩
      have HD := hideIt hd
      rw [hT'] at hs hs0 ⊢
      clear hle eT hd hT'
      go_wp2_with (go_at_call 11; refine (below_all _ _ HT.out (by omega) HL.out hB).mono ?_; rw [HD.out]; rintro e y1 ⟨rfl, st⟩; have ST := hideIt st; clear st)
      have HC2 : Hid (∀ j, j < ws.length → y1.cell? ⟨b, off + j, none⟩ = some (.int .i64 (ws.getD j 0))) := fun j hj => by
        have hc := HC.out j hj
        rw [World.cell?_of_block (ST.out.2.block b (World.block_lt_of_cell? w _ hc) HB.out)]
        exact hc
      go_loop [9, 32] (fun s i => ∃ m : Nat, m ≤ n ∧ i = .int .i64 m ∧ s = .int .i64 (sumTo ws m) ∧ placeFrom ws d m (n - m) = placeFrom ws d 0 n) (fun _ i => n - (intOf i).toNat)
      case atStart => exact ⟨0, by omega, rfl, rfl, rfl⟩
      case round =>
        obtain ⟨m, hm, rfl, rfl, hp⟩ := hrel
        have HPm := hideIt hp
        clear hp
        obtain ⟨m0, m1⟩ := HM.out m hm
        by_cases hlt2 : m < n
        · obtain ⟨x, hx⟩ : ∃ x, ws.getD m 0 = x := ⟨_, rfl⟩
          have hc := HC2.out m (by rw [HN.out]; exact hlt2)
          rw [hx] at hc
          obtain ⟨c0, c1⟩ := cnt_bd x
          have HS : Hid (sumTo ws (m + 1) = sumTo ws m + cnt x) := by show _ = _; rw [sumTo_succ, hx]
          clear hx
          by_cases hov : d < sumTo ws m + cnt x
          · have HY := hideIt (place_yes ws d m n hlt2 (by rw [HS.out]; exact hov))
            go_wp2_with (go_at_call 16; refine (counted_any _ _).mono ?_; rintro e y2 ⟨rfl, rfl⟩)
            go_ret
            rw [HP.out, HA.out, ← HPm.out, HY.out]
            exact ⟨rfl, ST.out⟩
          · have HY := hideIt (place_no ws d m n hlt2 (by rw [HS.out]; exact hov))
            go_wp2_with (go_at_call 16; refine (counted_any _ _).mono ?_; rintro e y2 ⟨rfl, rfl⟩)
            go_round
            case rel => exact ⟨m + 1, by omega, by go_num, by rw [HS.out], by rw [← HY.out]; exact HPm.out⟩
            case measure => simp [intOf]; omega
        · have HY := hideIt (place_end ws d m n hlt2)
          go_wp2
          go_ret
          rw [HP.out, HA.out, ← HPm.out, HY.out]
          exact ⟨rfl, ST.out⟩

end Go.Proofs.Yteefahkjdpaogab
