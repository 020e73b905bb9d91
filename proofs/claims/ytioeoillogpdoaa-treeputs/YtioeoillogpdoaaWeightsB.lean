/-
  What Weight answers, the program's and the document's; the document's example: contracts over the program; the conditions: the argument is a tree of at most 6000 nodes that lies in memory.
-/
import Derived.Test.YtioeoillogpdoaaWeights
namespace Go.Proofs.Ytioeoillogpdoaa
open Go.RowKit
set_option linter.unusedVariables false

theorem Fo.weight_le (f : Fo) (w : World) : ∀ a, In w a f → f.weight ≤ 65 * f.size := by
  induction f with
  | nil => intro a _; simp [Fo.weight]
  | cons v ka kc k r ihk ihr =>
    rintro a ⟨b, o, e, h1, h2, h3, h4, h5⟩
    have := nb_le v h2
    have := ihk _ h4
    have := ihr _ h5
    simp only [Fo.weight, Fo.size]
    omega

theorem wkWeight (f : Fo) : ∀ (a : Option Addr) (d s : Nat), wkF (fun s e => s + 1 + nb e.v) (fun _ _ => true) a f d s = (s + f.weight, true) := by
  induction f with
  | nil => intro a d s; rfl
  | cons v ka kc ks rest ihk ihr =>
    intro a d s
    unfold wkF
    rw [if_pos rfl, ihk]
    rw [if_pos rfl, ihr]
    simp only [Fo.weight]
    exact Prod.ext (by show _ = _; simp only; omega) rfl

theorem weight_any (f : Fo) (v : NF) (a : Option Addr) (c : Nat) (w : World) (hv : v.ok) (hin : In w a f) (hs : sok a f.len c) (hz : f.size ≤ 7000) :
    Calls Try.prog 16 #[nodeV v (.slice a f.len c)] w fun e w' => e = .returned (.int .i64 ((if f.fine then 1 + nb v + f.weight else 0 : Nat) : Int)) ∧ Q w w' := by
  have HF := hideIt (fine_any f v a c (boxed w v (.slice a f.len c)) hv (hin.keep (Nat.le_refl _) (boxed_q _ _ _)) hs hz)
  cases hfi : f.fine with
  | false =>
    rw [hfi] at HF
    rw [if_neg (by simp)]
    clear hin hs hfi
    go_enter Try.func16, Try.ntmps16
    go_wp2_with (go_at_call 14; refine HF.out.mono ?_; rintro e x ⟨rfl, q1⟩)
    go_ret
    exact ⟨rfl, (boxed_q _ _ _).trans q1⟩
  | true =>
    rw [hfi] at HF
    rw [if_pos rfl]
    have hwl := f.weight_le w a hin
    have HC : Hid (∀ X, Q (boxed w v (.slice a f.len c)) X → Calls Try.prog 29 #[.pointer (some ⟨w.heap.size, 0, none⟩), .int .i64 1, .func (.func 34) #[] #[.pointer (some ⟨X.heap.size, 0, none⟩)]] (X.alloc (.cells #[.int .i64 0] 3)) fun e w' => e = .returned (.bool true) ∧ CI (boxed w v (.slice a f.len c)) X.heap.size (1 + nb v + f.weight) w') := fun X hX => by
      have hci : CI (boxed w v (.slice a f.len c)) X.heap.size 0 (X.alloc (.cells #[.int .i64 0] 3)) := by
        refine ⟨Below.alloc hX hX.size _, hX.size, ?_⟩
        exact heap_alloc_new X (.cells #[.int .i64 0] 3 (0, 0))
      have := walk_any (fun s e => s + 1 + nb e.v) (fun _ _ => true) (fun n s W => CI (boxed w v (.slice a f.len c)) X.heap.size s W ∧ s ≤ 65 * n) 8000 34 #[.pointer (some ⟨X.heap.size, 0, none⟩)] (boxed w v (.slice a f.len c)) ent34 (fun n s W h => h.1.q)
        (fun n s W b o v' ka kc ks d hn h hat hv' _ _ _ hd => (cl34 _ _ s W b o v' _ d h.1 (by omega) hat hv').mono fun e w' ⟨q1, q2⟩ => ⟨q1, q2, by have := nb_le v' hv'; show s + 1 + nb v' ≤ _; omega⟩) (f.size + 1) f (by omega) v a c w.heap.size 0 1 0 0 _ (at_boxed w v _) hv (hin.keep (Nat.le_refl _) (boxed_q _ _ _)) hs ⟨hci, by omega⟩ (by omega) (by omega) (by omega)
      refine this.mono ?_
      rintro e w' ⟨n', h1, h2, h3, h4⟩
      rw [wkWeight] at h2 h3
      refine ⟨h2, ?_⟩
      simp only [Fo.weight] at h3
      rw [show 0 + (1 + nb v + f.weight + 0) = 1 + nb v + f.weight by omega] at h3
      exact h3
    clear hin hs hfi hwl
    generalize 1 + nb v + f.weight = M at *
    go_enter Try.func16, Try.ntmps16
    go_wp2_with (first | (go_at_call 14; refine HF.out.mono ?_; rintro e x ⟨rfl, q1⟩; have HX := hideIt q1; clear q1) | (go_at_call 29; refine (HC.out x HX.out).mono ?_; rintro e y ⟨rfl, h2⟩; have hcc := h2.cell; have HH := hideIt h2; clear h2))
    go_ret
    exact ⟨rfl, (boxed_q _ _ _).trans HH.out.q⟩

theorem absval {z : Int} (h0 : -9223372036854775808 ≤ z) (h1 : z < 0) : IntKind.u64.wrap (IntKind.u64.wrap (IntKind.i64.wrap (-IntKind.i64.wrap (z + 1))) + 1) = z.natAbs := by
  rw [IntKind.wrap_u64, IntKind.wrap_u64, IntKind.wrap_i64, IntKind.wrap_i64]
  omega

set_option maxHeartbeats 1000000 in
theorem rweight_any (N : Nat) : ∀ (f : Fo), f.size < N → ∀ (v : NF) (a : Option Addr) (c : Nat) (w : World), v.ok → In w a f → sok a f.len c → f.size ≤ 7000 →
    Calls Try.prog 37 #[nodeV v (.slice a f.len c)] w fun e w' => e = .returned (.int .i64 ((1 + nb v + f.weight : Nat) : Int)) ∧ Q w w' := by
  induction N with
  | zero => intro f h; omega
  | succ N ih =>
    intro f hf v a c w hv hin hs hz
    have HIH := hideIt ih
    have HIN := hideIt hin
    have hlen : f.len ≤ 9223372036854775807 := by have := hs.1; have := hs.2.1; unfold maxLen at this; omega
    have HB : Hid (1 + nb v + f.weight ≤ 1000000) := by have := f.weight_le w a hin; have := nb_le v hv; show _ ≤ _; omega
    have hn := hv.n
    clear hin hs ih
    by_cases hk : v.k = 15
    · have e15 : nb v = Lib.bitLen v.n.natAbs := by unfold nb; rw [if_pos hk]
      have hl64 := nb_le v hv
      have H15 := hideIt e15
      have HK := hideIt hk
      have hkb : (v.k == 15) = true := by simpa using hk
      clear hv hk e15
      by_cases hneg : v.n < 0
      · go_enter Try.func37, Try.ntmps37
        go_wp2_with (fail)
        go_loop [3, 4] (fun m x => ∃ (y r : Nat), m = .int .i64 r ∧ x = .int .u64 y ∧ y < 18446744073709551616 ∧ r + Lib.bitLen y = 1 + nb v) (fun _ x => (intOf x).toNat)
        case atStart => exact ⟨v.n.natAbs, 1, rfl, by congr 1; omega, by omega, by rw [H15.out]⟩
        case round =>
          obtain ⟨y, r0, rfl, rfl, hy, hr0⟩ := hrel
          have HR0 := hideIt hr0
          have hr1 : r0 ≤ 65 := by omega
          clear hr0
          by_cases hy0 : y = 0
          · have HR1 : Hid (r0 = 1 + nb v) := by
              have := HR0.out
              rw [hy0] at this
              exact this
            clear HR0
            subst hy0
            go_wp2_with (fail)
            go_loopw [3, 5] (fun m i wr => ∃ (k r : Nat), m = .int .i64 r ∧ i = .int .i64 k ∧ k ≤ f.len ∧ r + (f.drop k).weight = 1 + nb v + f.weight ∧ Q (boxed w v (.slice a f.len c)) wr) (fun _ i _ => f.len - (intOf i).toNat)
            case atStart => exact ⟨0, r0, rfl, rfl, by omega, by have := HR1.out; simp [Fo.drop]; omega, Below.refl _ _⟩
            case round =>
              obtain ⟨k, r, rfl, rfl, hk, r3, hq⟩ := hrel
              have HR3 := hideIt r3
              have hrb : r ≤ 1000000 := by have := HB.out; omega
              have hbx : wr.cell? ⟨w.heap.size, 9, none⟩ = some (.slice a f.len c) := boxed_cell hq 9 _ rfl
              have HQ := hideIt hq
              clear r3 hq
              by_cases hlt : k < f.len
              · obtain ⟨b, o, v', ka, kc, ks, rfl, e, hat, hv', hs', hin'⟩ := HIN.out.elem k hlt
                have hkl : (k : Int) < (f.len : Int) := by omega
                have hat' : At wr b (o + k * 10) (cellsN v' (.slice ka ks.len kc)) := hat.keep (Nat.le_refl _) ((boxed_q w v _).trans HQ.out)
                obtain ⟨c0, c1, c2, c3, c4, c5, c6, c7, c8, c9⟩ := hat'.ten
                clear hat'
                have hsz : (f.drop k).size = ks.size + 1 + (f.drop (k + 1)).size := by rw [e]; rfl
                have hle := f.size_drop k
                have HE : Hid ((f.drop k).weight = 1 + nb v' + ks.weight + (f.drop (k + 1)).weight) := by show _ = _; rw [e]; rfl
                have HC := hideIt (HIH.out ks (by omega) v' ka kc wr hv' (hin'.keep (Nat.le_refl _) ((boxed_q w v _).trans HQ.out)) hs' (by omega))
                obtain ⟨M, hM⟩ : ∃ M, 1 + nb v' + ks.weight = M := ⟨_, rfl⟩
                rw [hM] at HC
                have hMb : M ≤ 1000000 := by have := HE.out; have := HR3.out; have := HB.out; omega
                have HM := hideIt hM
                clear e hat hv' hs' hin' hsz hM
                go_wp2_with (go_at_call 37; refine HC.out.mono ?_; rintro e x ⟨rfl, q1⟩; have HP := hideIt q1; clear q1)
                go_roundw
                case rel =>
                  refine ⟨k + 1, r + M, by go_num, by go_num, by omega, ?_, HQ.out.trans HP.out⟩
                  have := HR3.out; have := HE.out; have := HM.out; omega
                case measure => simp [intOf]; omega
              · have ek : k = f.len := by omega
                go_wp2_with (fail)
                go_ret
                have h3 := HR3.out
                rw [ek, Fo.drop_all] at h3
                simp only [Fo.weight] at h3
                rw [← h3]
                exact ⟨by go_num, (boxed_q w v _).trans HQ.out⟩
          · have hyp : (0 : Int) < (y : Int) := by omega
            go_wp2_with (fail)
            go_round
            case rel =>
              refine ⟨y / 2, r0 + 1, by go_num, ?_, by omega, ?_⟩
              · first | rfl | (congr 1; omega) | (simp; omega)
              · have := HR0.out
                have := Lib.bitLen_half y hy0 (by omega)
                omega
            case measure => simp [intOf]; omega
      · go_enter Try.func37, Try.ntmps37
        go_wp2_with (fail)
        go_loop [3, 4] (fun m x => ∃ (y r : Nat), m = .int .i64 r ∧ x = .int .u64 y ∧ y < 18446744073709551616 ∧ r + Lib.bitLen y = 1 + nb v) (fun _ x => (intOf x).toNat)
        case atStart => exact ⟨v.n.natAbs, 1, rfl, by congr 1; omega, by omega, by rw [H15.out]⟩
        case round =>
          obtain ⟨y, r0, rfl, rfl, hy, hr0⟩ := hrel
          have HR0 := hideIt hr0
          have hr1 : r0 ≤ 65 := by omega
          clear hr0
          by_cases hy0 : y = 0
          · have HR1 : Hid (r0 = 1 + nb v) := by
              have := HR0.out
              rw [hy0] at this
              exact this
            clear HR0
            subst hy0
            go_wp2_with (fail)
            go_loopw [3, 5] (fun m i wr => ∃ (k r : Nat), m = .int .i64 r ∧ i = .int .i64 k ∧ k ≤ f.len ∧ r + (f.drop k).weight = 1 + nb v + f.weight ∧ Q (boxed w v (.slice a f.len c)) wr) (fun _ i _ => f.len - (intOf i).toNat)
            case atStart => exact ⟨0, r0, rfl, rfl, by omega, by have := HR1.out; simp [Fo.drop]; omega, Below.refl _ _⟩
            case round =>
              obtain ⟨k, r, rfl, rfl, hk, r3, hq⟩ := hrel
              have HR3 := hideIt r3
              have hrb : r ≤ 1000000 := by have := HB.out; omega
              have hbx : wr.cell? ⟨w.heap.size, 9, none⟩ = some (.slice a f.len c) := boxed_cell hq 9 _ rfl
              have HQ := hideIt hq
              clear r3 hq
              by_cases hlt : k < f.len
              · obtain ⟨b, o, v', ka, kc, ks, rfl, e, hat, hv', hs', hin'⟩ := HIN.out.elem k hlt
                have hkl : (k : Int) < (f.len : Int) := by omega
                have hat' : At wr b (o + k * 10) (cellsN v' (.slice ka ks.len kc)) := hat.keep (Nat.le_refl _) ((boxed_q w v _).trans HQ.out)
                obtain ⟨c0, c1, c2, c3, c4, c5, c6, c7, c8, c9⟩ := hat'.ten
                clear hat'
                have hsz : (f.drop k).size = ks.size + 1 + (f.drop (k + 1)).size := by rw [e]; rfl
                have hle := f.size_drop k
                have HE : Hid ((f.drop k).weight = 1 + nb v' + ks.weight + (f.drop (k + 1)).weight) := by show _ = _; rw [e]; rfl
                have HC := hideIt (HIH.out ks (by omega) v' ka kc wr hv' (hin'.keep (Nat.le_refl _) ((boxed_q w v _).trans HQ.out)) hs' (by omega))
                obtain ⟨M, hM⟩ : ∃ M, 1 + nb v' + ks.weight = M := ⟨_, rfl⟩
                rw [hM] at HC
                have hMb : M ≤ 1000000 := by have := HE.out; have := HR3.out; have := HB.out; omega
                have HM := hideIt hM
                clear e hat hv' hs' hin' hsz hM
                go_wp2_with (go_at_call 37; refine HC.out.mono ?_; rintro e x ⟨rfl, q1⟩; have HP := hideIt q1; clear q1)
                go_roundw
                case rel =>
                  refine ⟨k + 1, r + M, by go_num, by go_num, by omega, ?_, HQ.out.trans HP.out⟩
                  have := HR3.out; have := HE.out; have := HM.out; omega
                case measure => simp [intOf]; omega
              · have ek : k = f.len := by omega
                go_wp2_with (fail)
                go_ret
                have h3 := HR3.out
                rw [ek, Fo.drop_all] at h3
                simp only [Fo.weight] at h3
                rw [← h3]
                exact ⟨by go_num, (boxed_q w v _).trans HQ.out⟩
          · have hyp : (0 : Int) < (y : Int) := by omega
            go_wp2_with (fail)
            go_round
            case rel =>
              refine ⟨y / 2, r0 + 1, by go_num, ?_, by omega, ?_⟩
              · first | rfl | (congr 1; omega) | (simp; omega)
              · have := HR0.out
                have := Lib.bitLen_half y hy0 (by omega)
                omega
            case measure => simp [intOf]; omega
    · have e15 : nb v = 0 := by unfold nb; rw [if_neg hk]
      have hkb : (v.k == 15) = false := by simpa using hk
      clear hv
      go_enter Try.func37, Try.ntmps37
      go_wp2_with (fail)
      go_loopw [3, 5] (fun m i wr => ∃ (k r : Nat), m = .int .i64 r ∧ i = .int .i64 k ∧ k ≤ f.len ∧ r + (f.drop k).weight = 1 + nb v + f.weight ∧ Q (boxed w v (.slice a f.len c)) wr) (fun _ i _ => f.len - (intOf i).toNat)
      case atStart => exact ⟨0, 1, by rfl, rfl, by omega, by simp [Fo.drop]; omega, Below.refl _ _⟩
      case round =>
        obtain ⟨k, r, rfl, rfl, hk, r3, hq⟩ := hrel
        have HR3 := hideIt r3
        have hrb : r ≤ 1000000 := by have := HB.out; omega
        have hbx : wr.cell? ⟨w.heap.size, 9, none⟩ = some (.slice a f.len c) := boxed_cell hq 9 _ rfl
        have HQ := hideIt hq
        clear r3 hq
        by_cases hlt : k < f.len
        · obtain ⟨b, o, v', ka, kc, ks, rfl, e, hat, hv', hs', hin'⟩ := HIN.out.elem k hlt
          have hkl : (k : Int) < (f.len : Int) := by omega
          have hat' : At wr b (o + k * 10) (cellsN v' (.slice ka ks.len kc)) := hat.keep (Nat.le_refl _) ((boxed_q w v _).trans HQ.out)
          obtain ⟨c0, c1, c2, c3, c4, c5, c6, c7, c8, c9⟩ := hat'.ten
          clear hat'
          have hsz : (f.drop k).size = ks.size + 1 + (f.drop (k + 1)).size := by rw [e]; rfl
          have hle := f.size_drop k
          have HE : Hid ((f.drop k).weight = 1 + nb v' + ks.weight + (f.drop (k + 1)).weight) := by show _ = _; rw [e]; rfl
          have HC := hideIt (HIH.out ks (by omega) v' ka kc wr hv' (hin'.keep (Nat.le_refl _) ((boxed_q w v _).trans HQ.out)) hs' (by omega))
          obtain ⟨M, hM⟩ : ∃ M, 1 + nb v' + ks.weight = M := ⟨_, rfl⟩
          rw [hM] at HC
          have hMb : M ≤ 1000000 := by have := HE.out; have := HR3.out; have := HB.out; omega
          have HM := hideIt hM
          clear e hat hv' hs' hin' hsz hM
          go_wp2_with (go_at_call 37; refine HC.out.mono ?_; rintro e x ⟨rfl, q1⟩; have HP := hideIt q1; clear q1)
          go_roundw
          case rel =>
            refine ⟨k + 1, r + M, by go_num, by go_num, by omega, ?_, HQ.out.trans HP.out⟩
            have := HR3.out; have := HE.out; have := HM.out; omega
          case measure => simp [intOf]; omega
        · have ek : k = f.len := by omega
          go_wp2_with (fail)
          go_ret
          have h3 := HR3.out
          rw [ek, Fo.drop_all] at h3
          simp only [Fo.weight] at h3
          rw [← h3]
          exact ⟨by go_num, (boxed_q w v _).trans HQ.out⟩

end Go.Proofs.Ytioeoillogpdoaa
