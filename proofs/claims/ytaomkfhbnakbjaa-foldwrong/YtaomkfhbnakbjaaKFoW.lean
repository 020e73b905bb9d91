/-
  The statement FoldWrong: its walk over the program; the conditions: the numbers are in range.
-/
import Derived.Test.YtaomkfhbnakbjaaKFoV
import Derived.Test.YtaomkfhbnakbjaaKFoT
import Derived.Deep.Cut
import Derived.Deep.RegionWith
namespace Go.Proofs.Ytaomkfhbnakbjaa.Fo
open Go.RowKit
set_option linter.unusedVariables false

theorem wf8 {z : Int} (h : (Lit.int .u8 z).wf = true) : 0 ≤ z ∧ z ≤ 255 := by
  simp [Lit.wf, IntKind.min, IntKind.max, IntKind.bits, IntKind.signed] at h; omega
/-- The example in memory, boxed at b, while it is written into. -/
structure WS (w W : World) (b : Nat) (m0 m1 op ty : Int) (g0 g1 g2 : Nat) : Prop where
  eb : EB W m0 m1 op ty g0 g1 g2
  bx : W.heap[b]? = some (.cells #[.slice none 0 0, .slice none 0 0, .slice (some ⟨g2, 0, none⟩) 1 1] 26 (0, 0))
  nb : b ≠ g0
  lo : w.heap.size ≤ g0
  q : Q w W
theorem WS.to {w W W' : World} {b : Nat} {m0 m1 op ty : Int} {g0 g1 g2 : Nat} (h : WS w W b m0 m1 op ty g0 g1 g2) (q : Q W W') : WS w W' b m0 m1 op ty g0 g1 g2 :=
  ⟨h.eb.q q, (q.block _ (Array.getElem?_eq_some_iff.1 h.bx).1).trans h.bx, h.nb, h.lo, h.q.trans q⟩
theorem WS.put {w W : World} {b : Nat} {m0 m1 op ty m0' m1' op' ty' : Int} {g0 g1 g2 : Nat} (h : WS w W b m0 m1 op ty g0 g1 g2) {j : Nat} {u : Value} (e : EB (W.setCell ⟨g0, j, none⟩ u) m0' m1' op' ty' g0 g1 g2) : WS w (W.setCell ⟨g0, j, none⟩ u) b m0' m1' op' ty' g0 g1 g2 :=
  ⟨e, by rw [Below.heap_setCell W ⟨g0, j, none⟩ u b h.nb]; exact h.bx, h.nb, h.lo, h.q.set h.lo u⟩
theorem WS.way {w W : World} {b : Nat} {m0 m1 op ty : Int} {g0 g1 g2 : Nat} (h : WS w W b m0 m1 op ty g0 g1 g2) : W.cell? ⟨b, 2, none⟩ = some (.slice (some ⟨g2, 0, none⟩) 1 1) ∧ W.cell? ⟨g2, 3, none⟩ = some (.slice (some ⟨g1, 0, none⟩) 1 1) ∧ W.cell? ⟨g1, 0, none⟩ = some (.slice (some ⟨g0, 0, none⟩) 4 4) ∧ (∀ j : Nat, W.frozen? ⟨g0, j, none⟩ = false) ∧ W.cell? ⟨g0, 5, none⟩ = some (.int .i64 m0) ∧ W.cell? ⟨g0, 12, none⟩ = some (.int .i64 m1) ∧ W.cell? ⟨g0, 14, none⟩ = some (.int .u8 op) ∧ W.cell? ⟨g0, 15, none⟩ = some (.int .u8 ty) :=
  ⟨cell_of_block h.bx 2, h.eb.way⟩
theorem ws_box {w x : World} {g0 g1 g2 : Nat} (h : EB x 2 3 1 4 g0 g1 g2) (lo : w.heap.size ≤ g0) (hi : g0 < x.heap.size) (q : Q w x) : WS w (x.alloc (.cells #[.slice (eC 2 3 1 4 g0 g1 g2).ga (eC 2 3 1 4 g0 g1 g2).gl.length (eC 2 3 1 4 g0 g1 g2).gc, .slice (eC 2 3 1 4 g0 g1 g2).na (eC 2 3 1 4 g0 g1 g2).ini.length (eC 2 3 1 4 g0 g1 g2).nc, .slice (eC 2 3 1 4 g0 g1 g2).fa (eC 2 3 1 4 g0 g1 g2).fns.length (eC 2 3 1 4 g0 g1 g2).fc] 26)) x.heap.size 2 3 1 4 g0 g1 g2 :=
  ⟨h.q ((Q.refl x).alloc _), heap_new _ _, by omega, lo, q.alloc _⟩

set_option maxRecDepth 100000 in
set_option maxHeartbeats 1000000 in
theorem wrong_walk (t x y op : Int) (w : World) (ht : 0 ≤ t ∧ t ≤ 255) (hop : 0 ≤ op ∧ op ≤ 255) : Calls Try.prog 7 #[.int .u8 t, .int .i64 x, .int .i64 y, .int .u8 op] w fun e w' => e = .returned (.bool true) ∧ Below w.heap.size w w' := by
  have CA : Hid (∀ X, Calls Try.prog 13 #[] X fun e w' => e = .returned (.bool true) ∧ Q X w') := fun X => awake_any X
  have CE := hideIt (fun X => example_blk X)
  obtain ⟨r, hr⟩ : ∃ r, op.tmod 16 = r := ⟨_, rfl⟩
  obtain ⟨k, hk⟩ : ∃ k, t.tmod 6 = k := ⟨_, rfl⟩
  have r0 : 0 ≤ r ∧ r ≤ 15 := by rw [Int.tmod_eq_emod_of_nonneg (by omega)] at hr; omega
  have k0 : 0 ≤ k ∧ k ≤ 5 := by rw [Int.tmod_eq_emod_of_nonneg (by omega)] at hk; omega
  obtain ⟨r1, r2⟩ := r0
  obtain ⟨k1, k2⟩ := k0
  have wk : IntKind.i64.wrap k = k := by simp [IntKind.wrap, IntKind.bits, IntKind.signed]; omega
  have wo : IntKind.i64.wrap (1 + r) = 1 + r := by simp [IntKind.wrap, IntKind.bits, IntKind.signed]; omega
  have CW : Hid (∀ X v, Calls Try.prog 22 #[.int .i64 k, .int .i64 v] X fun e w' => e = .returned (.int .i64 (Burin.wr k v)) ∧ Q X w') := fun X v => Nu.rwrap_any k v X k1
  go_enter Try.func7, Try.ntmps7
  go_upto_region 6 with (first
    | (go_at_call 13; refine Calls.mono (CA.out _) ?_; rintro e x1 ⟨rfl, q1⟩; have HX := hideIt q1; clear q1)
    | (go_at_call 21; refine Calls.mono (CE.out _) ?_; rintro e z ⟨g0, g1, g2, rfl, eb, lo, hi, q1⟩; have HS := hideIt (ws_box eb (Nat.le_trans HX.out.size lo) hi (HX.out.trans q1)); clear eb lo hi q1)
    | fail)
  have HS1 := HS.out
  generalize z.alloc (.cells #[.slice (eC 2 3 1 4 g0 g1 g2).ga (eC 2 3 1 4 g0 g1 g2).gl.length (eC 2 3 1 4 g0 g1 g2).gc, .slice (eC 2 3 1 4 g0 g1 g2).na (eC 2 3 1 4 g0 g1 g2).ini.length (eC 2 3 1 4 g0 g1 g2).nc, .slice (eC 2 3 1 4 g0 g1 g2).fa (eC 2 3 1 4 g0 g1 g2).fns.length (eC 2 3 1 4 g0 g1 g2).fc] 26) = W at HS1 ⊢
  generalize z.heap.size = b at HS1 ⊢
  clear HS HX CE
  have S0 := hideIt HS1
  clear HS1
  go_cut [] from 17 (fun W' => Hid (WS w W' b (Burin.wr k x) 3 1 4 g0 g1 g2))
  case first =>
    obtain ⟨c1, c2, c3, fz, c4, c5, c6, c7⟩ := S0.out.way
    go_region_with (first | (go_at_call 22; refine Calls.mono (CW.out _ _) ?_; rintro e y1 ⟨rfl, q1⟩; have S1 : Hid (WS w y1 b 2 3 1 4 g0 g1 g2) := (by first | exact S0.out.to q1 | exact S0.out.to ((Q.refl W).drew.trans q1) | exact S0.out.to (((Q.refl W).drewN _).trans q1)); obtain ⟨d1, d2, d3, dz, d4, d5, d6, d7⟩ := S1.out.way; clear q1))
    all_goals
      go_wp2_with (fail)
      go_meet
      case rel =>
        first
          | exact S1.out.put (S1.out.eb.set0 _)
          | exact (S1.out.put (S1.out.eb.set0 _)).to (Q.refl _).drew
          | exact (S1.out.put (S1.out.eb.set0 _)).to ((Q.refl _).drewN _)
          | (trace_state; sorry)
  case rest =>
    go_upto_region 7 with (fail)
    have S2 := hideIt hcut.out
    generalize wc = W2 at *
    clear S0 hcut
    go_cut [] from 17 (fun W' => Hid (WS w W' b (Burin.wr k x) (Burin.wr k y) 1 4 g0 g1 g2))
    case first =>
      obtain ⟨c1, c2, c3, fz, c4, c5, c6, c7⟩ := S2.out.way
      go_region_with (first | (go_at_call 22; refine Calls.mono (CW.out _ _) ?_; rintro e y1 ⟨rfl, q1⟩; have S1 : Hid (WS w y1 b (Burin.wr k x) 3 1 4 g0 g1 g2) := (by first | exact S2.out.to q1 | exact S2.out.to ((Q.refl W2).drew.trans q1) | exact S2.out.to (((Q.refl W2).drewN _).trans q1)); obtain ⟨d1, d2, d3, dz, d4, d5, d6, d7⟩ := S1.out.way; clear q1))
      all_goals
        go_wp2_with (fail)
        go_meet
        case rel =>
          first
            | exact S1.out.put (S1.out.eb.set1 _)
            | exact (S1.out.put (S1.out.eb.set1 _)).to (Q.refl _).drew
            | exact (S1.out.put (S1.out.eb.set1 _)).to ((Q.refl _).drewN _)
            | (trace_state; sorry)
    case rest =>
      go_upto_region 8 with (fail)
      have S3 := hideIt hcut.out
      generalize wc = W3 at *
      obtain ⟨c1, c2, c3, fz, c4, c5, c6, c7⟩ := S3.out.way
      clear S2 hcut
      go_upto_region 10 with (fail)
      have S4 : Hid (WS w ((W3.setCell ⟨g0, 14, none⟩ (.int .u8 (1 + r))).setCell ⟨g0, 15, none⟩ (.int .u8 k)) b (Burin.wr k x) (Burin.wr k y) (1 + r) k g0 g1 g2) := (S3.out.put (S3.out.eb.set2 _)).put ((S3.out.put (S3.out.eb.set2 _)).eb.set3 _)
      generalize ((W3.setCell ⟨g0, 14, none⟩ (.int .u8 (1 + r))).setCell ⟨g0, 15, none⟩ (.int .u8 k)) = W4 at S4 ⊢
      clear S3 c1 c2 c3 fz c4 c5 c6 c7
      have b0 := cell_of_block S4.out.bx 0
      have b1 := cell_of_block S4.out.bx 1
      have b2 := cell_of_block S4.out.bx 2
      have CR : Hid (Calls Try.prog 15 #[.agg #[.slice none 0 0, .slice none 0 0, .slice (some ⟨g2, 0, none⟩) 1 1], .bool true] W4 fun e w' => ∃ (A : PC) (f : PF) (p : PP) (x' : PI) (ib io : Nat), e = .returned (.tuple #[A.v, .int .i64 0]) ∧ A.ok w' ∧ A.fns = [f] ∧ f.parts = [p] ∧ p.ins.length = 4 ∧ p.ia = some ⟨ib, io, none⟩ ∧ At w' ib (io + 14) x'.cells ∧ EvI x' (third (Burin.wr k x) (Burin.wr k y) (1 + r) k) ∧ Q W4 w') := by
        have e1 := Burin.wr_bd k x
        have e2 := Burin.wr_bd k y
        exact wrun W4 _ _ (1 + r) k g0 g1 g2 (by omega) (by omega) k1 k2 (by unfold I64; omega) (by unfold I64; omega) S4.out.eb
      have CD : Hid (∀ X, Calls Try.prog 23 #[.int .i64 (1 + r), .int .i64 k, .int .i64 x, .int .i64 (Burin.wr k y)] X fun e w' => e = .returned (.tuple #[.int .i64 (Burin.do1 (1 + r) k x (Burin.wr k y)), .int .i64 (Burin.do2 (1 + r) k x (Burin.wr k y))]) ∧ Q X w') := fun X => Nu.rdo_any (1 + r) k x (Burin.wr k y) X k1
      have TH := hideIt (third_is x y (1 + r) k)
      have CO := hideIt (fun X c f p h h1 h2 => one_any X c f p h h1 h2)
      generalize third (Burin.wr k x) (Burin.wr k y) (1 + r) k = th at *
      generalize Burin.do1 (1 + r) k x (Burin.wr k y) = D1 at *
      generalize Burin.do2 (1 + r) k x (Burin.wr k y) = D2 at *
      go_upto_region 15 with (first
        | (go_at_call 15; refine Calls.mono CR.out ?_; rintro e y5 ⟨A, f, p, x', ib, io, rfl, a1, a2, a3, a4, a5, a6, a7, q2⟩; have A1 := hideIt a1; have A2 := hideIt a2; have A3 := hideIt a3; have A6 := hideIt a6; have A7 := hideIt a7; have H5 := hideIt (S4.out.q.trans q2); clear q2 a1 a2 a3 a6 a7 b0 b1 b2)
        | (go_at_call 22; refine Calls.mono (CW.out _ _) ?_; rintro e y6 ⟨rfl, q2⟩; have Q6 := hideIt (((Q.refl y5).alloc _).trans q2); have D6 := hideIt ((cds_box y5 A).keep q2); clear q2)
        | (go_at_call 23; refine Calls.mono (CD.out _) ?_; rintro e y7 ⟨rfl, q2⟩; have Q7 := hideIt (Q6.out.trans q2); have D7 := hideIt (D6.out.keep q2); clear q2; obtain ⟨s1, s2, s3⟩ := D7.out)
        | (go_at_call 24; first
            | (have hh := Q8; clear hh; refine Calls.mono (CO.out y8 A f p (A1.out.keep Q8.out) A2.out A3.out) ?_; rw [a4, a5]; rintro e y9 ⟨rfl, q3⟩; have Q9 := hideIt (Q8.out.trans q3); clear q3 s1 s2 s3; obtain ⟨n0, n1, n2, n3, n4, n5, n6⟩ := (A6.out.keep Q9.out).seven)
            | (refine Calls.mono (CO.out y7 A f p (A1.out.keep Q7.out) A2.out A3.out) ?_; rw [a4, a5]; rintro e y8 ⟨rfl, q3⟩; have Q8 := hideIt (Q7.out.trans q3); have D8 := hideIt (D7.out.keep q3); clear q3 s1 s2 s3; obtain ⟨s1, s2, s3⟩ := D8.out))
        | fail)
      have QF := hideIt (H5.out.trans (Q9.out))
      clear n0 n1 n2 n3 n4 n5 n6 a4 a5 CR CD CO S4 Q6 D6 Q7 D7 Q8 D8 Q9 H5 A1 A2 A3 A6 CA
      rcases TH.out with hd | ⟨hd, e⟩
      · have d1 : (D2 != 0) = true := by simpa using hd
        clear TH hd
        go_wp2_with (fail)
        go_ret
        exact ⟨rfl, QF.out.alloc _⟩
      · have xo : x'.op = 20 := by rw [A7.out.op, e]
        have xd : x'.dst = 2 := by rw [A7.out.dst, e]
        have xi := A7.out.imm
        rw [e] at xi
        dsimp only at xi
        subst hd
        clear TH A7 e
        by_cases h1 : 1 + r = 1
        · rw [if_pos h1] at xi
          have h2 : (1 + r == 1) = true := by simpa using h1
          go_wp2_with (first | (go_at_call 22; refine Calls.mono (CW.out _ _) ?_; rintro e z1 ⟨rfl, q1⟩; have QZ := hideIt ((QF.out.alloc _).trans q1); have bk := (q1.block y9.heap.size (by simp)).trans (heap_new y9 _); have m0 := cell_of_block bk 0; have m2 := cell_of_block bk 2; have m5 := cell_of_block bk 5; clear q1 bk) | fail)
          go_ret
          exact ⟨rfl, QZ.out⟩
        · rw [if_neg h1] at xi
          have h2 : (1 + r == 1) = false := by simpa using h1
          go_wp2_with (fail)
          go_ret
          exact ⟨rfl, QF.out.alloc _⟩

end Go.Proofs.Ytaomkfhbnakbjaa.Fo
