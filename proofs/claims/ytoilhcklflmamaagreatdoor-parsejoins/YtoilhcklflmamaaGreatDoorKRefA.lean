/-
  What the document's answers for a tree's size, depth and whether it is fine are: contracts over the program; the conditions: the argument is a tree that lies in memory.
-/
import Derived.Test.YtoilhcklflmamaaGreatDoorKLeft
namespace Go.Proofs.YtoilhcklflmamaaGreatDoor
open Go.RowKit
set_option linter.unusedVariables false

theorem boxed_ten {w w' : World} {v : NF} {s : Value} (h : Q (boxed w v s) w') : w'.cell? ⟨w.heap.size, 0, none⟩ = some (.int .u8 v.k) ∧ w'.cell? ⟨w.heap.size, 1, none⟩ = some (.int .u8 v.op) ∧ w'.cell? ⟨w.heap.size, 2, none⟩ = some (.int .u8 v.tk) ∧ w'.cell? ⟨w.heap.size, 3, none⟩ = some (.int .u8 v.ti) ∧ w'.cell? ⟨w.heap.size, 4, none⟩ = some (.int .i64 v.tn) ∧ w'.cell? ⟨w.heap.size, 5, none⟩ = some (.int .i64 v.n) ∧ w'.cell? ⟨w.heap.size, 6, none⟩ = some (.int .i64 v.m) ∧ w'.cell? ⟨w.heap.size, 7, none⟩ = some (.string v.nm) ∧ w'.cell? ⟨w.heap.size, 8, none⟩ = some (.string v.fd) ∧ w'.cell? ⟨w.heap.size, 9, none⟩ = some s :=
  ⟨boxed_cell h 0 _ rfl, boxed_cell h 1 _ rfl, boxed_cell h 2 _ rfl, boxed_cell h 3 _ rfl, boxed_cell h 4 _ rfl, boxed_cell h 5 _ rfl, boxed_cell h 6 _ rfl, boxed_cell h 7 _ rfl, boxed_cell h 8 _ rfl, boxed_cell h 9 _ rfl⟩

theorem rsize_any (N : Nat) : ∀ (f : Fo), f.size < N → ∀ (v : NF) (a : Option Addr) (c : Nat) (w : World), In w a f → sok a f.len c →
    Calls Tryz.prog 16 #[nodeV v (.slice a f.len c)] w fun e w' => e = .returned (.int .i64 ((min (f.size + 1) 4001 : Nat) : Int)) ∧ Q w w' := by
  induction N with
  | zero => intro f h; omega
  | succ N ih =>
    intro f hf v a c w hin hs
    have HIN := hideIt hin
    have hlen : f.len ≤ 9223372036854775807 := by have := hs.1; have := hs.2.1; unfold maxLen at this; omega
    clear hin hs
    go_enter Tryz.func16, Tryz.ntmps16
    go_wp2_with (fail)
    go_loopw [3, 4] (fun m i wr => ∃ (k : Nat) (r : Nat), m = .int .i64 r ∧ i = .int .i64 k ∧ k ≤ f.len ∧ 1 ≤ r ∧ r ≤ 8001 ∧ (r ≤ 4000 → r + (f.drop k).size = 1 + f.size) ∧ (4000 < r → 4000 < f.size + 1) ∧ Q (boxed w v (.slice a f.len c)) wr) (fun _ i _ => f.len - (intOf i).toNat)
    case atStart => exact ⟨0, 1, rfl, rfl, by omega, by omega, by omega, fun _ => by simp [Fo.drop], fun _ => by omega, Below.refl _ _⟩
    case round =>
      obtain ⟨k, r, rfl, rfl, hk, r1, r2, r3, r4, hq⟩ := hrel
      have HR3 := hideIt r3
      have HR4 := hideIt r4
      have hbx : wr.cell? ⟨w.heap.size, 9, none⟩ = some (.slice a f.len c) := boxed_cell hq 9 _ rfl
      have HQ := hideIt hq
      clear r3 r4 hq
      by_cases hlt : k < f.len
      · by_cases hr : r ≤ 4000
        · obtain ⟨b, o, v', ka, kc, ks, rfl, e, hat, hv', hs', hin'⟩ := HIN.out.elem k hlt
          have hkl : (k : Int) < (f.len : Int) := by omega
          have hrd : decide ((r : Int) ≤ 4000) = true := by simp; omega
          have hat' : At wr b (o + k * 10) (cellsN v' (.slice ka ks.len kc)) := hat.keep (Nat.le_refl _) ((boxed_q w v _).trans HQ.out)
          obtain ⟨c0, c1, c2, c3, c4, c5, c6, c7, c8, c9⟩ := hat'.ten
          clear hat'
          have hsz : (f.drop k).size = ks.size + 1 + (f.drop (k + 1)).size := by rw [e]; rfl
          have hle := f.size_drop k
          have HE := hideIt hsz
          have HC := hideIt (ih ks (by omega) v' ka kc wr (hin'.keep (Nat.le_refl _) ((boxed_q w v _).trans HQ.out)) hs')
          obtain ⟨M, hM⟩ : ∃ M, min (ks.size + 1) 4001 = M := ⟨_, rfl⟩
          have hM1 : M ≤ 4001 := by omega
          rw [hM] at HC
          have HM := hideIt hM
          clear e hat hv' hs' hin' ih hsz hM
          go_wp2_with (go_at_call 16; refine HC.out.mono ?_; rintro e x ⟨rfl, q1⟩; have HP := hideIt q1; clear q1)
          go_roundw
          case rel =>
            refine ⟨k + 1, r + M, by go_num, by go_num, by omega, by omega, by omega, ?_, ?_, HQ.out.trans HP.out⟩
            · have := HR3.out; have := HE.out; have := HM.out; omega
            · have := HR3.out; have := HE.out; have := HM.out; omega
          case measure => simp [intOf]; omega
        · have hrd : decide ((r : Int) ≤ 4000) = false := by simp; omega
          have hr4 := HR4.out (by omega)
          have em : min (f.size + 1) 4001 = 4001 := by omega
          by_cases h1 : r = 4001
          · subst h1
            go_wp2_with (fail)
            go_ret
            rw [em]
            exact ⟨rfl, (boxed_q w v _).trans HQ.out⟩
          · have hd : decide ((4001 : Int) < (r : Int)) = true := by simp; omega
            go_wp2_with (fail)
            go_ret
            rw [em]
            exact ⟨rfl, (boxed_q w v _).trans HQ.out⟩
      · have ek : k = f.len := by omega
        have h3 := HR3.out
        have h4 := HR4.out
        rw [ek, Fo.drop_all] at h3
        simp only [Fo.size] at h3
        have HX : Hid ((r ≤ 4000 → r + 0 = 1 + f.size) ∧ (4000 < r → 4000 < f.size + 1)) := ⟨h3, h4⟩
        clear h3 h4
        by_cases h1 : 4001 < r
        · have hd : decide ((4001 : Int) < (r : Int)) = true := by simp; omega
          go_wp2_with (fail)
          go_ret
          have := HX.out
          have em : min (f.size + 1) 4001 = 4001 := by omega
          rw [em]
          exact ⟨rfl, (boxed_q w v _).trans HQ.out⟩
        · have hd : decide ((4001 : Int) < (r : Int)) = false := by simp; omega
          go_wp2_with (fail)
          go_ret
          have := HX.out
          have em : min (f.size + 1) 4001 = r := by omega
          rw [em]
          exact ⟨rfl, (boxed_q w v _).trans HQ.out⟩

theorem Fo.depth_drop (f : Fo) (i : Nat) : (f.drop i).depth ≤ f.depth := by
  induction f generalizing i with
  | nil => cases i <;> simp [Fo.drop]
  | cons v a c k r _ ih =>
    cases i with
    | zero => simp [Fo.drop]
    | succ i => have := ih i; simp only [Fo.drop, Fo.depth]; omega

theorem rdepth_any (N : Nat) : ∀ (f : Fo), f.size < N → ∀ (v : NF) (a : Option Addr) (c l : Nat) (w : World), In w a f → sok a f.len c → 1 ≤ l → l ≤ 41 →
    Calls Tryz.prog 52 #[nodeV v (.slice a f.len c), .int .i64 l] w fun e w' => e = .returned (.int .i64 ((min (f.depth + 1) l : Nat) : Int)) ∧ Q w w' := by
  induction N with
  | zero => intro f h; omega
  | succ N ih =>
    intro f hf v a c l w hin hs hl1 hl2
    have HIN := hideIt hin
    have hlen : f.len ≤ 9223372036854775807 := by have := hs.1; have := hs.2.1; unfold maxLen at this; omega
    clear hin hs
    by_cases hl : l ≤ 1
    · have hd : decide ((l : Int) ≤ 1) = true := by simp; omega
      go_enter Tryz.func52, Tryz.ntmps52
      go_wp2_with (fail)
      go_ret
      have em : min (f.depth + 1) l = 1 := by omega
      rw [em]
      exact ⟨rfl, boxed_q w v _⟩
    · have hd : decide ((l : Int) ≤ 1) = false := by simp; omega
      go_enter Tryz.func52, Tryz.ntmps52
      go_wp2_with (fail)
      go_loopw [5, 6, 7] (fun m i d wr => ∃ (k : Nat) (r : Nat), m = .int .i64 r ∧ i = .int .i64 k ∧ k ≤ f.len ∧ r ≤ l - 1 ∧ min f.depth (l - 1) = max r (min (f.drop k).depth (l - 1)) ∧ Q (boxed w v (.slice a f.len c)) wr) (fun _ i _ _ => f.len - (intOf i).toNat)
      case atStart => exact ⟨0, 0, rfl, rfl, by omega, by omega, by simp [Fo.drop], Below.refl _ _⟩
      case round =>
        obtain ⟨k, r, rfl, rfl, hk, r1, r3, hq⟩ := hrel
        have HR3 := hideIt r3
        have hbx : wr.cell? ⟨w.heap.size, 9, none⟩ = some (.slice a f.len c) := boxed_cell hq 9 _ rfl
        have HQ := hideIt hq
        clear r3 hq
        by_cases hlt : k < f.len
        · obtain ⟨b, o, v', ka, kc, ks, rfl, e, hat, hv', hs', hin'⟩ := HIN.out.elem k hlt
          have hkl : (k : Int) < (f.len : Int) := by omega
          have hat' : At wr b (o + k * 10) (cellsN v' (.slice ka ks.len kc)) := hat.keep (Nat.le_refl _) ((boxed_q w v _).trans HQ.out)
          obtain ⟨c0, c1, c2, c3, c4, c5, c6, c7, c8, c9⟩ := hat'.ten
          clear hat'
          have hsz : (f.drop k).size = ks.size + 1 + (f.drop (k + 1)).size := by rw [e]; rfl
          have hle := f.size_drop k
          have HE : Hid ((f.drop k).depth = max (ks.depth + 1) (f.drop (k + 1)).depth) := by show _ = _; rw [e]; rfl
          have HC := hideIt (ih ks (by omega) v' ka kc (l - 1) wr (hin'.keep (Nat.le_refl _) ((boxed_q w v _).trans HQ.out)) hs' (by omega) (by omega))
          obtain ⟨M, hM⟩ : ∃ M, min (ks.depth + 1) (l - 1) = M := ⟨_, rfl⟩
          have hM1 : M ≤ l - 1 := by omega
          have el : ((l - 1 : Nat) : Int) = (l : Int) - 1 := by omega
          rw [hM, el] at HC
          have HM := hideIt hM
          clear e hat hv' hs' hin' ih hsz hM el
          by_cases hmr : r < M
          · have hd2 : decide ((r : Int) < (M : Int)) = true := by simp; omega
            go_wp2_with (go_at_call 52; refine HC.out.mono ?_; rintro e x ⟨rfl, q1⟩; have HP := hideIt q1; clear q1)
            go_roundw
            case rel =>
              refine ⟨k + 1, M, rfl, by go_num, by omega, by omega, ?_, HQ.out.trans HP.out⟩
              have := HR3.out; have := HE.out; have := HM.out; omega
            case measure => simp [intOf]; omega
          · have hd2 : decide ((r : Int) < (M : Int)) = false := by simp; omega
            go_wp2_with (go_at_call 52; refine HC.out.mono ?_; rintro e x ⟨rfl, q1⟩; have HP := hideIt q1; clear q1)
            go_roundw
            case rel =>
              refine ⟨k + 1, r, rfl, by go_num, by omega, by omega, ?_, HQ.out.trans HP.out⟩
              have := HR3.out; have := HE.out; have := HM.out; omega
            case measure => simp [intOf]; omega
        · have ek : k = f.len := by omega
          go_wp2_with (fail)
          go_ret
          have h3 := HR3.out
          rw [ek, Fo.drop_all] at h3
          simp only [Fo.depth] at h3
          have em : min (f.depth + 1) l = r + 1 := by omega
          rw [em]
          exact ⟨by go_num, (boxed_q w v _).trans HQ.out⟩

theorem rDepth_any (f : Fo) (v : NF) (a : Option Addr) (c : Nat) (w : World) (hin : In w a f) (hs : sok a f.len c) :
    Calls Tryz.prog 25 #[nodeV v (.slice a f.len c)] w fun e w' => e = .returned (.int .i64 ((min (f.depth + 1) 41 : Nat) : Int)) ∧ Q w w' := by
  have HC : Hid _ := hideIt (rdepth_any (f.size + 1) f (by omega) v a c 41 (boxed w v (.slice a f.len c)) (hin.keep (Nat.le_refl _) (boxed_q _ _ _)) hs (by decide) (by decide))
  obtain ⟨M, hM⟩ : ∃ M, min (f.depth + 1) 41 = M := ⟨_, rfl⟩
  rw [hM] at HC ⊢
  clear hin hs hM
  go_enter Tryz.func25, Tryz.ntmps25
  go_wp2_with (go_at_call 52; refine HC.out.mono ?_; rintro e x ⟨rfl, q1⟩)
  go_ret
  exact ⟨rfl, (boxed_q _ _ _).trans q1⟩

def Fo.fine (f : Fo) : Bool := decide (f.depth + 1 ≤ 40) && decide (f.size + 1 ≤ 4000)

theorem rFine_any (f : Fo) (v : NF) (a : Option Addr) (c : Nat) (w : World) (hin : In w a f) (hs : sok a f.len c) :
    Calls Tryz.prog 15 #[nodeV v (.slice a f.len c)] w fun e w' => e = .returned (.bool f.fine) ∧ Q w w' := by
  have HC := hideIt (rDepth_any f v a c (boxed w v (.slice a f.len c)) (hin.keep (Nat.le_refl _) (boxed_q _ _ _)) hs)
  have HD : Hid (∀ W, Q w W → Calls Tryz.prog 16 #[nodeV v (.slice a f.len c)] W fun e w' => e = .returned (.int .i64 ((min (f.size + 1) 4001 : Nat) : Int)) ∧ Q W w') := fun W hW => rsize_any (f.size + 1) f (by omega) v a c W (hin.keep (Nat.le_refl _) hW) hs
  obtain ⟨M, hM⟩ : ∃ M, min (f.depth + 1) 41 = M := ⟨_, rfl⟩
  obtain ⟨S, hS⟩ : ∃ S, min (f.size + 1) 4001 = S := ⟨_, rfl⟩
  have e1 : decide (f.depth + 1 ≤ 40) = decide (M ≤ 40) := by rw [decide_eq_decide]; omega
  have e2 : decide (f.size + 1 ≤ 4000) = decide (S ≤ 4000) := by rw [decide_eq_decide]; omega
  unfold Fo.fine
  rw [e1, e2]
  rw [hM] at HC
  rw [hS] at HD
  clear hin hs hM hS e1 e2
  by_cases h1 : M ≤ 40
  · have hd : decide ((M : Int) ≤ 40) = true := by simp; omega
    have e1 : decide (M ≤ 40) = true := by simp; omega
    rw [e1]
    have e2 : decide ((S : Int) ≤ 4000) = decide (S ≤ 4000) := by rw [decide_eq_decide]; omega
    generalize decide (S ≤ 4000) = bb at e2 ⊢
    go_enter Tryz.func15, Tryz.ntmps15
    go_wp2_with (first | (go_at_call 25; refine HC.out.mono ?_; rintro e x ⟨rfl, q1⟩; have HP := hideIt ((boxed_q _ _ _).trans q1); obtain ⟨c0, c1, c2, c3, c4, c5, c6, c7, c8, c9⟩ := boxed_ten q1; clear q1) | (go_at_call 16; refine (HD.out _ HP.out).mono ?_; rintro e y ⟨rfl, q2⟩))
    go_ret
    exact ⟨by simp, HP.out.trans q2⟩
  · have hd : decide ((M : Int) ≤ 40) = false := by simp; omega
    have e1 : decide (M ≤ 40) = false := by simp; omega
    rw [e1]
    go_enter Tryz.func15, Tryz.ntmps15
    go_wp2_with (first | (go_at_call 25; refine HC.out.mono ?_; rintro e x ⟨rfl, q1⟩; have HP := hideIt ((boxed_q _ _ _).trans q1); obtain ⟨c0, c1, c2, c3, c4, c5, c6, c7, c8, c9⟩ := boxed_ten q1; clear q1) | (go_at_call 16; refine (HD.out _ HP.out).mono ?_; rintro e y ⟨rfl, q2⟩))
    go_ret
    exact ⟨rfl, HP.out⟩

end Go.Proofs.YtoilhcklflmamaaGreatDoor
