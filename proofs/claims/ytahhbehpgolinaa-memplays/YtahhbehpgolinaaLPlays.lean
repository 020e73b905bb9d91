/-
  For every script of calls: each answer, how many blocks and cells there are, is the document's (the law MemPlays returns true); no conditions.
-/
import Derived.Test.YtahhbehpgolinaaRows
import Derived.Test.YtahhbehpgolinaaMeT
import Derived.ShutString
import Derived.ChangeOld
import Derived.Below
namespace Go.Proofs.Ytahhbehpgolinaa.memPlays
open Go.ChangeShapes Go.WideShapes Go.ChangeAt Go.RowKit Me
set_option linter.unusedVariables false

theorem laidOut : laidOutB Try.prog = true := by kernel_rfl
theorem own : ownKnob Try.prog.godebug = none := by kernel_rfl

/-- Behind i acts. -/
def Rd (w0 w : World) (p q i : Nat) : Prop := ∃ (n : Nat) (R : List (Nat × List Int)) (f : Int → Int → Int), n ≤ i ∧ R.length ≤ i ∧ tot R ≤ 65536 ∧ Rel f R ∧ Q2 w0 w p q n (lens R) f ((tot R : Nat) : Int) R
theorem Rd.drewN {w0 w : World} {p q i : Nat} (h : Rd w0 w p q i) (m : Nat) : Rd w0 (w.drewN m) p q i := by
  obtain ⟨n, R, f, h1, h2, h3, h4, h5, b1, b2, h6, h7, h8⟩ := h
  exact ⟨n, R, f, h1, h2, h3, h4, ⟨h5.os, h5.tape, h5.output, h5.size, h5.block⟩, b1, b2, h6.kept (fun _ _ => rfl) (Nat.le_refl _), h7.kept (fun _ _ => rfl) (Nat.le_refl _), h8⟩

theorem tot_snoc (R : List (Nat × List Int)) (g c : Nat) : ((tot (R ++ [(g, List.replicate c 0)]) : Nat) : Int) = ((tot R : Nat) : Int) + (c : Int) := by
  simp [tot]
theorem tot_set {R : List (Nat × List Int)} {i j : Nat} (hi : i < R.length) (v : Int) : tot (R.set i (R[i].1, R[i].2.set j v)) = tot R := by
  rw [← lens_sum, lens_set hi, lens_sum]
theorem tot_take' (R : List (Nat × List Int)) (k : Nat) : tot (R.take k) = ((lens R).take k).sum := by
  rw [← lens_sum, lens_take]
theorem small {R : List (Nat × List Int)} (h : tot R ≤ 65536) : (∀ c ∈ lens R, c ≤ 100000) ∧ ∀ r ∈ R, r.2.length ≤ 1000000 := by
  rw [← lens_sum] at h
  refine ⟨fun c hc => ?_, fun r hr => ?_⟩
  · have := mem_sum hc
    omega
  · have : r.2.length ∈ lens R := List.mem_map.2 ⟨r, hr, rfl⟩
    have := mem_sum this
    omega
theorem p_there' {w0 w : World} {p q n : Nat} {bs : List Nat} {f : Int → Int → Int} {t : Int} {R : List (Nat × List Int)} {N : Nat} {cs : Array Value} (h : P2 w0 w p q n bs f t R N cs) (a b : Int) (hl : R.length ≤ 1000000) (hc : ∀ r ∈ R, r.2.length ≤ 1000000) {x : Bool} (hx : inB (lens R) a b = x) :
    Calls Try.prog 15 #[.pointer (some ⟨q, 0, none⟩), .int .i64 a, .int .i64 b] w fun e w' => e = .returned (.bool x) ∧ P2 w0 w' p q n bs f t R N cs :=
  (p_there h a b hl hc hx).mono fun e w' ⟨h1, h2⟩ => ⟨h1, by rw [h2]; exact h⟩

set_option maxRecDepth 100000 in
set_option maxHeartbeats 4000000 in
theorem walk (a1 : Option Addr) (len1 cap1 : Nat) (w : World) (hm : len1 ≤ maxLen) (hA : Acts w a1 len1) : Calls Try.prog 3 #[.slice a1 len1 cap1] w fun e w' => e = .returned (.bool true) ∧ Below w.heap.size w w' := by
  have hm' : len1 ≤ 9223372036854775807 := by unfold maxLen at hm; omega
  have HA := hideIt hA
  clear hm hA
  go_enter Try.func3, Try.ntmps3
  go_wp2_with (first
    | (go_at_call 8; refine (awake_any _).mono ?_; rintro e x0 ⟨rfl, hb⟩; have B0 := hideIt hb; clear hb)
    | (go_at_call 9; refine (one_new B0.out).mono ?_; rintro e x1 ⟨p, rfl, hM⟩; obtain ⟨q, hq⟩ : ∃ q, x1.heap.size = q := ⟨_, rfl⟩; have H1 := hideIt (hq ▸ q2_new hM); clear hM)
    | fail)
  go_loopw [5] (fun o wr => ∃ i : Nat, o = .int .i64 i ∧ i ≤ len1 ∧ i ≤ 300 ∧ Rd w wr p q i) (fun o _ => 300 - (intOf o).toNat)
  case atStart => exact ⟨0, rfl, Nat.zero_le _, Nat.zero_le _, 0, [], _, Nat.le_refl _, Nat.le_refl _, Nat.zero_le _, fun i h => absurd h (Nat.not_lt_zero i), H1.out⟩
  case round =>
    obtain ⟨i, rfl, hi, hi3, n, R, f, hn, hRl, hT, hre, hQ⟩ := hrel
    by_cases hg : i < len1 ∧ i < 300
    · obtain ⟨g1, g2⟩ := hg
      obtain ⟨b1, o1, rfl, hall⟩ := HA.out (by omega)
      obtain ⟨⟨kd, nn, a, b, v⟩, hx, hcell⟩ := hall i g1
      have hx0 : 0 ≤ kd := hx.k0
      have hx1 : kd ≤ 255 := hx.k1
      have In := hideIt (show I64 nn from hx.n)
      have Ia := hideIt (show I64 a from hx.a)
      have Ib := hideIt (show I64 b from hx.b)
      have Iv := hideIt (show I64 v from hx.v)
      have s0 := hcell 0 _ rfl
      have s1 := hcell 1 _ rfl
      have s2 := hcell 2 _ rfl
      have s3 := hcell 3 _ rfl
      have s4 := hcell 4 _ rfl
      have hb1 := World.block_lt_of_cell? w _ s0
      have r0 : wr.cell? ⟨b1, o1 + i * 5, none⟩ = some (.int .u8 kd) := (hQ.1.cell (p := ⟨b1, o1 + i * 5, none⟩) hb1).trans s0
      have r1 : wr.cell? ⟨b1, o1 + i * 5 + 1, none⟩ = some (.int .i64 nn) := (hQ.1.cell (p := ⟨b1, o1 + i * 5 + 1, none⟩) hb1).trans s1
      have r2 : wr.cell? ⟨b1, o1 + i * 5 + 2, none⟩ = some (.int .i64 a) := (hQ.1.cell (p := ⟨b1, o1 + i * 5 + 2, none⟩) hb1).trans s2
      have r3 : wr.cell? ⟨b1, o1 + i * 5 + 3, none⟩ = some (.int .i64 b) := (hQ.1.cell (p := ⟨b1, o1 + i * 5 + 3, none⟩) hb1).trans s3
      have r4 : wr.cell? ⟨b1, o1 + i * 5 + 4, none⟩ = some (.int .i64 v) := (hQ.1.cell (p := ⟨b1, o1 + i * 5 + 4, none⟩) hb1).trans s4
      have HP := hideIt (hQ.boxed #[.int .u8 kd, .int .i64 nn, .int .i64 a, .int .i64 b, .int .i64 v])
      have HRE := hideIt hre
      have HT := hideIt hT
      have HRl := hideIt hRl
      have hn' := hideIt hn
      have HS := hideIt (small hT)
      have HLl := hideIt (lens_length R)
      have hTi : Hid (0 ≤ ((tot R : Nat) : Int) ∧ ((tot R : Nat) : Int) ≤ 65536) := ⟨by omega, by omega⟩
      have hLL : Hid ((lens R).length ≤ 1000000) := by rw [HLl.out]; show _ ≤ _; omega
      have hRL : Hid (R.length ≤ 1000000) := by show _ ≤ _; omega
      clear hall hcell hx s0 s1 s2 s3 s4 hQ hre hT hRl hn H1
      have h4 : kd % 4 = 0 ∨ kd % 4 = 1 ∨ kd % 4 = 2 ∨ kd % 4 = 3 := by omega
      rcases h4 with h4 | h4 | h4 | h4
      · by_cases hneg : nn < 0
        · go_wp2_with (first
            | (go_at_call 10; refine (p_alloc_neg HP.out nn hneg).mono ?_; rintro e y1 ⟨rfl, hM⟩; have H2 := hideIt hM; have c1 : y1.cell? ⟨wr.heap.size, 1, none⟩ = some (.int .i64 nn) := (hM.cell 1).trans rfl; have c2 : y1.cell? ⟨wr.heap.size, 2, none⟩ = some (.int .i64 a) := (hM.cell 2).trans rfl; have c3 : y1.cell? ⟨wr.heap.size, 3, none⟩ = some (.int .i64 b) := (hM.cell 3).trans rfl; have c4 : y1.cell? ⟨wr.heap.size, 4, none⟩ = some (.int .i64 v) := (hM.cell 4).trans rfl; clear hM)
            | (go_at_call 11; refine (p_ralloc_neg H2.out nn hneg).mono ?_; rintro e y2 ⟨rfl, hM⟩; have HE := hideIt hM; clear hM)
            | fail)
          obtain ⟨L, T, la, lc, hL, hh, e17, e18, e19⟩ := p_end HE.out (by have := HRl.out; omega) HT.out
          have E17 := hideIt e17
          have E18 := hideIt e18
          have E19 := hideIt e19
          clear e17 e18 e19
          go_quiet (first | (go_at_call 17; exact Calls.quiet_of_same (E17.out _)) | (go_at_call 18; exact Calls.quiet_of_same (E18.out _)) | (go_at_call 19; exact Calls.quiet_of_same (E19.out _)))
          go_wp2_with (fail)
          go_roundw
          case rel => exact ⟨i + 1, by go_num, by omega, by omega, Rd.drewN ⟨n, R, f, by have := hn'.out; omega, by have := HRl.out; omega, HT.out, HRE.out, HE.out.unbox⟩ _⟩
          case measure => simp [intOf]; omega
        · by_cases hlim : 65536 - ((tot R : Nat) : Int) < nn
          · have hnn : 0 ≤ nn := by omega
            go_wp2_with (first
              | (go_at_call 10; refine (p_alloc_lim HP.out hTi.out.1 hTi.out.2 nn hnn hlim).mono ?_; rintro e y1 ⟨rfl, hM⟩; have H2 := hideIt hM; have c1 : y1.cell? ⟨wr.heap.size, 1, none⟩ = some (.int .i64 nn) := (hM.cell 1).trans rfl; have c2 : y1.cell? ⟨wr.heap.size, 2, none⟩ = some (.int .i64 a) := (hM.cell 2).trans rfl; have c3 : y1.cell? ⟨wr.heap.size, 3, none⟩ = some (.int .i64 b) := (hM.cell 3).trans rfl; have c4 : y1.cell? ⟨wr.heap.size, 4, none⟩ = some (.int .i64 v) := (hM.cell 4).trans rfl; clear hM)
              | (go_at_call 11; refine (p_ralloc_lim H2.out hRL.out HT.out nn hnn hlim).mono ?_; rintro e y2 ⟨rfl, hM⟩; have HE := hideIt hM; clear hM)
              | fail)
            obtain ⟨L, T, la, lc, hL, hh, e17, e18, e19⟩ := p_end HE.out (by have := HRl.out; omega) HT.out
            have E17 := hideIt e17
            have E18 := hideIt e18
            have E19 := hideIt e19
            clear e17 e18 e19
            go_quiet (first | (go_at_call 17; exact Calls.quiet_of_same (E17.out _)) | (go_at_call 18; exact Calls.quiet_of_same (E18.out _)) | (go_at_call 19; exact Calls.quiet_of_same (E19.out _)))
            go_wp2_with (fail)
            go_roundw
            case rel => exact ⟨i + 1, by go_num, by omega, by omega, Rd.drewN ⟨n, R, f, by have := hn'.out; omega, by have := HRl.out; omega, HT.out, HRE.out, HE.out.unbox⟩ _⟩
            case measure => simp [intOf]; omega
          · obtain ⟨c, rfl⟩ : ∃ c : Nat, nn = (c : Int) := ⟨nn.toNat, by omega⟩
            have hcl : (c : Int) ≤ 65536 - ((tot R : Nat) : Int) := by omega
            have HCL := hideIt hcl
            clear hcl hlim
            go_wp2_with (first
              | (go_at_call 10; refine (p_alloc HP.out hTi.out.1 hTi.out.2 c HCL.out hLL.out).mono ?_; rw [HLl.out]; rintro e y1 ⟨rfl, hM⟩; have H2 := hideIt hM; have c1 : y1.cell? ⟨wr.heap.size, 1, none⟩ = some (.int .i64 (c : Int)) := (hM.cell 1).trans rfl; have c2 : y1.cell? ⟨wr.heap.size, 2, none⟩ = some (.int .i64 a) := (hM.cell 2).trans rfl; have c3 : y1.cell? ⟨wr.heap.size, 3, none⟩ = some (.int .i64 b) := (hM.cell 3).trans rfl; have c4 : y1.cell? ⟨wr.heap.size, 4, none⟩ = some (.int .i64 v) := (hM.cell 4).trans rfl; clear hM)
              | (go_at_call 11; refine (p_ralloc H2.out hRL.out HT.out c HCL.out).mono ?_; rintro e y2 ⟨rfl, g, hM⟩; have HE := hideIt (show P2 w y2 p q n (lens (R ++ [(g, List.replicate c 0)])) f ((tot (R ++ [(g, List.replicate c 0)]) : Nat) : Int) (R ++ [(g, List.replicate c 0)]) wr.heap.size #[.int .u8 kd, .int .i64 (c : Int), .int .i64 a, .int .i64 b, .int .i64 v] by rw [lens_snoc, tot_snoc]; exact hM); clear hM)
              | fail)
            obtain ⟨L, T, la, lc, hL, hh, e17, e18, e19⟩ := p_end HE.out (by have := HRl.out; simp; omega) (by have := tot_snoc R g c; have := HCL.out; omega)
            have E17 := hideIt e17
            have E18 := hideIt e18
            have E19 := hideIt e19
            clear e17 e18 e19
            go_quiet (first | (go_at_call 17; exact Calls.quiet_of_same (E17.out _)) | (go_at_call 18; exact Calls.quiet_of_same (E18.out _)) | (go_at_call 19; exact Calls.quiet_of_same (E19.out _)))
            go_wp2_with (fail)
            go_roundw
            case rel => exact ⟨i + 1, by go_num, by omega, by omega, Rd.drewN ⟨n, _, f, by have := hn'.out; omega, by have := HRl.out; simp; omega, (by have := tot_snoc R g c; have := HCL.out; omega), rel_snoc HRE.out HP.out.out g c, HE.out.unbox⟩ _⟩
            case measure => simp [intOf]; omega
      · by_cases hbad : nn < 0 ∨ (R.length : Int) < nn
        · have hbad2 : Hid (nn < 0 ∨ ((lens R).length : Int) < nn) := by rw [HLl.out]; exact hbad
          have hbad1 := hideIt hbad
          have K12 := hideIt (fun (W : World) (h : P2 w W p q n (lens R) f ((tot R : Nat) : Int) R wr.heap.size #[.int .u8 kd, .int .i64 nn, .int .i64 a, .int .i64 b, .int .i64 v]) => p_keep_bad h nn hbad2.out)
          have K13 := hideIt (fun (W : World) (h : P2 w W p q n (lens R) f ((tot R : Nat) : Int) R wr.heap.size #[.int .u8 kd, .int .i64 nn, .int .i64 a, .int .i64 b, .int .i64 v]) => p_rkeep_bad h nn hbad1.out)
          clear hbad
          go_wp2_with (fail)
          go_region_held3 (fun w' => w'.cell? ⟨wr.heap.size, 1, none⟩ = some (.int .i64 nn)) (first | go_keep | exact (HP.out.cell 1).trans rfl)
            (first | (go_at_call 12; refine (K12.out _ ?_).mono ?_; (first | exact HP.out | exact HP.out.same _); rintro e y1 ⟨rfl, hM⟩; have H2 := hideIt hM; have c1 : y1.cell? ⟨wr.heap.size, 1, none⟩ = some (.int .i64 nn) := (hM.cell 1).trans rfl; clear hM) | (go_at_call 13; refine (K13.out _ ?_).mono ?_; (first | exact H2.out | exact H2.out.same _); rintro e y2 ⟨rfl, hM⟩; have HE := hideIt hM; have d1 : y2.cell? ⟨wr.heap.size, 1, none⟩ = some (.int .i64 nn) := (hM.cell 1).trans rfl; clear hM))
          all_goals go_wp2_with (fail)
          obtain ⟨L, T, la, lc, hL, hh, e17, e18, e19⟩ := p_end HE.out (by have := HRl.out; omega) HT.out
          have E17 := hideIt e17
          have E18 := hideIt e18
          have E19 := hideIt e19
          clear e17 e18 e19
          go_quiet (first | (go_at_call 17; exact Calls.quiet_of_same (E17.out _)) | (go_at_call 18; exact Calls.quiet_of_same (E18.out _)) | (go_at_call 19; exact Calls.quiet_of_same (E19.out _)))
          go_wp2_with (fail)
          go_roundw
          case rel => exact ⟨i + 1, by go_num, by omega, by omega, Rd.drewN ⟨n, R, f, by have := hn'.out; omega, by have := HRl.out; omega, HT.out, HRE.out, HE.out.unbox⟩ _⟩
          case measure => simp [intOf]; omega
        · obtain ⟨k, rfl⟩ : ∃ k : Nat, nn = (k : Int) := ⟨nn.toNat, by omega⟩
          have hkR : Hid (k ≤ R.length) := by show _ ≤ _; omega
          have hkL : Hid (k ≤ (lens R).length) := by rw [HLl.out]; exact hkR
          have K12 := hideIt (fun (W : World) (h : P2 w W p q n (lens R) f ((tot R : Nat) : Int) R wr.heap.size #[.int .u8 kd, .int .i64 (k : Int), .int .i64 a, .int .i64 b, .int .i64 v]) => p_keep h k hkL.out rfl HT.out hLL.out (by have := hn'.out; omega))
          have K13 := hideIt (fun (W : World) (h : P2 w W p q n ((lens R).take k) (keepf f k) ((((lens R).take k).sum : Nat) : Int) R wr.heap.size #[.int .u8 kd, .int .i64 (k : Int), .int .i64 a, .int .i64 b, .int .i64 v]) => p_rkeep h k hkR.out hRL.out)
          clear hbad
          go_wp2_with (fail)
          go_region_held3 (fun w' => w'.cell? ⟨wr.heap.size, 1, none⟩ = some (.int .i64 (k : Int))) (first | go_keep | exact (HP.out.cell 1).trans rfl)
            (first | (go_at_call 12; refine (K12.out _ ?_).mono ?_; (first | exact HP.out | exact HP.out.same _); rintro e y1 ⟨rfl, hM⟩; have H2 := hideIt hM; have c1 : y1.cell? ⟨wr.heap.size, 1, none⟩ = some (.int .i64 (k : Int)) := (hM.cell 1).trans rfl; clear hM) | (go_at_call 13; refine (K13.out _ ?_).mono ?_; (first | exact H2.out | exact H2.out.same _); rintro e y2 ⟨rfl, hM⟩; have HE := hideIt (show P2 w y2 p q n (lens (R.take k)) (keepf f k) ((tot (R.take k) : Nat) : Int) (R.take k) wr.heap.size #[.int .u8 kd, .int .i64 (k : Int), .int .i64 a, .int .i64 b, .int .i64 v] by rw [lens_take, tot_take']; exact hM); have d1 : y2.cell? ⟨wr.heap.size, 1, none⟩ = some (.int .i64 (k : Int)) := (hM.cell 1).trans rfl; clear hM))
          all_goals go_wp2_with (fail)
          obtain ⟨L, T, la, lc, hL, hh, e17, e18, e19⟩ := p_end HE.out (by have := HRl.out; simp; omega) (by have := tot_split R k; have := HT.out; omega)
          have E17 := hideIt e17
          have E18 := hideIt e18
          have E19 := hideIt e19
          clear e17 e18 e19
          go_quiet (first | (go_at_call 17; exact Calls.quiet_of_same (E17.out _)) | (go_at_call 18; exact Calls.quiet_of_same (E18.out _)) | (go_at_call 19; exact Calls.quiet_of_same (E19.out _)))
          go_wp2_with (fail)
          go_roundw
          case rel => exact ⟨i + 1, by go_num, by omega, by omega, Rd.drewN ⟨n, _, _, by have := hn'.out; omega, by have := HRl.out; simp; omega, (by have := tot_split R k; have := HT.out; omega), rel_keep HRE.out k, HE.out.unbox⟩ _⟩
          case measure => simp [intOf]; omega
      · cases hin : inB (lens R) a b
        · have HZ := hideIt (HP.out.out a b hin)
          have HIN := hideIt hin
          clear hin
          go_wp2_with (first
            | (go_at_call 14; refine (p_load HP.out (a := a) (b := b) Ia.out Ib.out hLL.out (e0 := 12) (by rw [HIN.out]; rfl)).mono ?_; rw [HZ.out]; rintro e y1 ⟨rfl, hM⟩; have H2 := hideIt hM; have c1 : y1.cell? ⟨wr.heap.size, 1, none⟩ = some (.int .i64 nn) := (hM.cell 1).trans rfl; have c2 : y1.cell? ⟨wr.heap.size, 2, none⟩ = some (.int .i64 a) := (hM.cell 2).trans rfl; have c3 : y1.cell? ⟨wr.heap.size, 3, none⟩ = some (.int .i64 b) := (hM.cell 3).trans rfl; have c4 : y1.cell? ⟨wr.heap.size, 4, none⟩ = some (.int .i64 v) := (hM.cell 4).trans rfl; clear hM)
            | (go_at_call 15; refine (p_there' H2.out a b hRL.out HS.out.2 HIN.out).mono ?_; rintro e y2 ⟨rfl, hM⟩; have HE := hideIt hM; clear hM)
            | fail)
          obtain ⟨L, T, la, lc, hL, hh, e17, e18, e19⟩ := p_end HE.out (by have := HRl.out; omega) HT.out
          have E17 := hideIt e17
          have E18 := hideIt e18
          have E19 := hideIt e19
          clear e17 e18 e19
          go_quiet (first | (go_at_call 17; exact Calls.quiet_of_same (E17.out _)) | (go_at_call 18; exact Calls.quiet_of_same (E18.out _)) | (go_at_call 19; exact Calls.quiet_of_same (E19.out _)))
          go_wp2_with (fail)
          go_roundw
          case rel => exact ⟨i + 1, by go_num, by omega, by omega, Rd.drewN ⟨n, R, f, by have := hn'.out; omega, by have := HRl.out; omega, HT.out, HRE.out, HE.out.unbox⟩ _⟩
          case measure => simp [intOf]; omega
        · obtain ⟨i', j', c, rfl, rfl, hbi, hjc⟩ := inB_iff.1 hin
          have HIN := hideIt hin
          have hil : i' < R.length := by have := (List.getElem?_eq_some_iff.1 hbi).1; rw [HLl.out] at this; exact this
          have hjl : j' < R[i'].2.length := by
            have : R[i'].2.length = c := by simpa [lens, hil] using hbi
            omega
          have HV := hideIt (HRE.out i' hil j' hjl)
          have HCS := hideIt (HS.out.2 R[i'] (List.getElem_mem hil))
          have AT := hideIt (fun (y : World) (h : P2 w y p q n (lens R) f ((tot R : Nat) : Int) R wr.heap.size #[.int .u8 kd, .int .i64 nn, .int .i64 (i' : Int), .int .i64 (j' : Int), .int .i64 v]) => p_at h hil hjl)
          clear hin hbi hjc
          generalize R[i'].1 = bk at AT
          generalize hlenk : R[i'].2.length = lk at AT HCS hjl
          generalize R[i'].2.getD j' 0 = V at AT HV
          have i0 : (0 : Int) ≤ (i' : Int) := by omega
          have i1 : (i' : Int) < (R.length : Int) := by omega
          have j0 : (0 : Int) ≤ (j' : Int) := by omega
          have j1 : (j' : Int) < (lk : Int) := by omega
          have l1 := hRL.out
          have l2 := HCS.out
          clear hlenk
          go_wp2_with (first
            | (go_at_call 14; refine (p_load HP.out (a := (i' : Int)) (b := (j' : Int)) Ia.out Ib.out hLL.out (e0 := 0) (by rw [HIN.out]; rfl)).mono ?_; rw [HV.out]; rintro e y1 ⟨rfl, hM⟩; have H2 := hideIt hM; have c1 : y1.cell? ⟨wr.heap.size, 1, none⟩ = some (.int .i64 nn) := (hM.cell 1).trans rfl; have c2 : y1.cell? ⟨wr.heap.size, 2, none⟩ = some (.int .i64 (i' : Int)) := (hM.cell 2).trans rfl; have c3 : y1.cell? ⟨wr.heap.size, 3, none⟩ = some (.int .i64 (j' : Int)) := (hM.cell 3).trans rfl; have c4 : y1.cell? ⟨wr.heap.size, 4, none⟩ = some (.int .i64 v) := (hM.cell 4).trans rfl; clear hM)
            | (go_at_call 15; refine (p_there' H2.out (i' : Int) (j' : Int) hRL.out HS.out.2 HIN.out).mono ?_; rintro e y2 ⟨rfl, hM⟩; have HE := hideIt hM; (try clear c1 c2 c3 c4); have c1 : y2.cell? ⟨wr.heap.size, 1, none⟩ = some (.int .i64 nn) := (hM.cell 1).trans rfl; have c2 : y2.cell? ⟨wr.heap.size, 2, none⟩ = some (.int .i64 (i' : Int)) := (hM.cell 2).trans rfl; have c3 : y2.cell? ⟨wr.heap.size, 3, none⟩ = some (.int .i64 (j' : Int)) := (hM.cell 3).trans rfl; have c4 : y2.cell? ⟨wr.heap.size, 4, none⟩ = some (.int .i64 v) := (hM.cell 4).trans rfl; obtain ⟨gg, lcc, t1, t2, t3, t4⟩ := AT.out y2 hM; clear hM)
            | fail)
          go_quiet (fail)
          go_wp2_with (fail)
          have HE2 := hideIt (HE.out.same nq)
          generalize y2.drewN nq = Y at HE2 ⊢
          obtain ⟨L, T, la, lc, hL, hh, e17, e18, e19⟩ := p_end HE2.out (by have := HRl.out; omega) HT.out
          have E17 := hideIt e17
          have E18 := hideIt e18
          have E19 := hideIt e19
          clear e17 e18 e19
          go_quiet (first | (go_at_call 17; exact Calls.quiet_of_same (E17.out _)) | (go_at_call 18; exact Calls.quiet_of_same (E18.out _)) | (go_at_call 19; exact Calls.quiet_of_same (E19.out _)))
          go_wp2_with (fail)
          go_roundw
          case rel => exact ⟨i + 1, by go_num, by omega, by omega, Rd.drewN ⟨n, R, f, by have := hn'.out; omega, by have := HRl.out; omega, HT.out, HRE.out, HE2.out.unbox⟩ _⟩
          case measure => simp [intOf]; omega
      · cases hin : inB (lens R) a b
        · have HIN := hideIt hin
          clear hin
          go_wp2_with (first
            | (go_at_call 15; refine (p_there' HP.out a b hRL.out HS.out.2 HIN.out).mono ?_; rintro e y1 ⟨rfl, hM⟩; have H2 := hideIt hM; have c1 : y1.cell? ⟨wr.heap.size, 1, none⟩ = some (.int .i64 nn) := (hM.cell 1).trans rfl; have c2 : y1.cell? ⟨wr.heap.size, 2, none⟩ = some (.int .i64 a) := (hM.cell 2).trans rfl; have c3 : y1.cell? ⟨wr.heap.size, 3, none⟩ = some (.int .i64 b) := (hM.cell 3).trans rfl; have c4 : y1.cell? ⟨wr.heap.size, 4, none⟩ = some (.int .i64 v) := (hM.cell 4).trans rfl; clear hM)
            | (go_at_call 16; refine (p_store_none H2.out a b v hLL.out HIN.out).mono ?_; rintro e y2 ⟨rfl, hM⟩; have HE := hideIt hM; clear hM)
            | fail)
          obtain ⟨L, T, la, lc, hL, hh, e17, e18, e19⟩ := p_end HE.out (by have := HRl.out; omega) HT.out
          have E17 := hideIt e17
          have E18 := hideIt e18
          have E19 := hideIt e19
          clear e17 e18 e19
          go_quiet (first | (go_at_call 17; exact Calls.quiet_of_same (E17.out _)) | (go_at_call 18; exact Calls.quiet_of_same (E18.out _)) | (go_at_call 19; exact Calls.quiet_of_same (E19.out _)))
          go_wp2_with (fail)
          go_roundw
          case rel => exact ⟨i + 1, by go_num, by omega, by omega, Rd.drewN ⟨n, R, f, by have := hn'.out; omega, by have := HRl.out; omega, HT.out, HRE.out, HE.out.unbox⟩ _⟩
          case measure => simp [intOf]; omega
        · obtain ⟨i', j', c, rfl, rfl, hbi, hjc⟩ := inB_iff.1 hin
          have HIN := hideIt hin
          have hil : i' < R.length := by have := (List.getElem?_eq_some_iff.1 hbi).1; rw [HLl.out] at this; exact this
          have hjl : j' < R[i'].2.length := by
            have : R[i'].2.length = c := by simpa [lens, hil] using hbi
            omega
          have HNR := hideIt (rel_set HRE.out hil hjl v)
          have HNL := hideIt (lens_set (j := j') hil v)
          have HNT := hideIt (tot_set (j := j') hil v)
          have HCS := hideIt (HS.out.2 R[i'] (List.getElem_mem hil))
          have HRl2 : Hid ((R.set i' (R[i'].1, R[i'].2.set j' v)).length ≤ i) := by rw [List.length_set]; exact HRl.out
          have AT := hideIt (fun (y : World) (h : P2 w y p q n (lens R) f ((tot R : Nat) : Int) R wr.heap.size #[.int .u8 kd, .int .i64 nn, .int .i64 (i' : Int), .int .i64 (j' : Int), .int .i64 v]) => p_at h hil hjl)
          have PS := hideIt (fun (y : World) (h : P2 w y p q n (lens R) f ((tot R : Nat) : Int) R wr.heap.size #[.int .u8 kd, .int .i64 nn, .int .i64 (i' : Int), .int .i64 (j' : Int), .int .i64 v]) (m : Nat) => p_set h hil hjl v m)
          clear hin hbi hjc
          generalize R.set i' (R[i'].1, R[i'].2.set j' v) = R' at PS HNR HNL HNT HRl2
          generalize R[i'].1 = bk at AT PS
          generalize hlenk : R[i'].2.length = lk at AT HCS hjl
          generalize R[i'].2.getD j' 0 = V at AT
          have K16 := hideIt (fun (W : World) (h : P2 w W p q n (lens R) f ((tot R : Nat) : Int) R' wr.heap.size #[.int .u8 kd, .int .i64 nn, .int .i64 (i' : Int), .int .i64 (j' : Int), .int .i64 v]) => p_store h Ia.out Ib.out Iv.out hLL.out (by have := hn'.out; omega) HS.out.1 HIN.out)
          have i0 : (0 : Int) ≤ (i' : Int) := by omega
          have i1 : (i' : Int) < (R.length : Int) := by omega
          have j0 : (0 : Int) ≤ (j' : Int) := by omega
          have j1 : (j' : Int) < (lk : Int) := by omega
          have l1 := hRL.out
          have l2 := HCS.out
          clear hlenk
          go_wp2_with (first
            | (go_at_call 15; refine (p_there' HP.out (i' : Int) (j' : Int) hRL.out HS.out.2 HIN.out).mono ?_; rintro e y1 ⟨rfl, hM⟩; have c1 : y1.cell? ⟨wr.heap.size, 1, none⟩ = some (.int .i64 nn) := (hM.cell 1).trans rfl; have c2 : y1.cell? ⟨wr.heap.size, 2, none⟩ = some (.int .i64 (i' : Int)) := (hM.cell 2).trans rfl; have c3 : y1.cell? ⟨wr.heap.size, 3, none⟩ = some (.int .i64 (j' : Int)) := (hM.cell 3).trans rfl; have c4 : y1.cell? ⟨wr.heap.size, 4, none⟩ = some (.int .i64 v) := (hM.cell 4).trans rfl; obtain ⟨gg, lcc, t1, t2, t3, t4⟩ := AT.out y1 hM; have H3 := hideIt (PS.out y1 hM 1); have u2 : (y1.setCell ⟨bk, j', none⟩ (.int .i64 v)).cell? ⟨wr.heap.size, 2, none⟩ = some (.int .i64 (i' : Int)) := ((PS.out y1 hM 0).cell 2).trans rfl; have u3 : (y1.setCell ⟨bk, j', none⟩ (.int .i64 v)).cell? ⟨wr.heap.size, 3, none⟩ = some (.int .i64 (j' : Int)) := ((PS.out y1 hM 0).cell 3).trans rfl; have u4 : (y1.setCell ⟨bk, j', none⟩ (.int .i64 v)).cell? ⟨wr.heap.size, 4, none⟩ = some (.int .i64 v) := ((PS.out y1 hM 0).cell 4).trans rfl; clear hM)
            | fail)
          go_region
          all_goals go_wp2_with (first
            | (go_at_call 16; refine (K16.out _ ?_).mono ?_; (first | exact H3.out | exact H3.out.same _); rintro e y2 ⟨rfl, hM⟩; have HE := hideIt (show P2 w y2 p q (n + 1) (lens R') (upd f i' j' v) ((tot R' : Nat) : Int) R' wr.heap.size #[.int .u8 kd, .int .i64 nn, .int .i64 (i' : Int), .int .i64 (j' : Int), .int .i64 v] by rw [HNL.out, HNT.out]; exact hM); clear hM)
            | fail)
          obtain ⟨L, T, la, lc, hL, hh, e17, e18, e19⟩ := p_end HE.out (by have := HRl2.out; omega) (by rw [HNT.out]; exact HT.out)
          have E17 := hideIt e17
          have E18 := hideIt e18
          have E19 := hideIt e19
          clear e17 e18 e19
          go_quiet (first | (go_at_call 17; exact Calls.quiet_of_same (E17.out _)) | (go_at_call 18; exact Calls.quiet_of_same (E18.out _)) | (go_at_call 19; exact Calls.quiet_of_same (E19.out _)))
          go_wp2_with (fail)
          go_roundw
          case rel => exact ⟨i + 1, by go_num, by omega, by omega, Rd.drewN ⟨n + 1, R', _, by have := hn'.out; omega, by have := HRl2.out; omega, (by rw [HNT.out]; exact HT.out), HNR.out, HE.out.unbox⟩ _⟩
          case measure => simp [intOf]; omega
    · have HB := hideIt hQ.1
      clear hQ
      by_cases g1 : i < len1
      all_goals try (have g2 : ¬ i < 300 := fun h => hg ⟨g1, h⟩)
      all_goals go_wp2_with (fail)
      all_goals go_ret
      all_goals exact ⟨rfl, HB.out⟩

set_option maxRecDepth 100000 in
set_option maxHeartbeats 400000 in
theorem lifted (os : Os) (started : os.Started) (H : Type) (enc : TypeId × Value → H) :
    ReturnsInHanded {} Try.checked os 3 .any (Rows.memPlaysSpec.pre6 enc Try.prog Try.f3 Rows.memPlaysRow.domain false) (Rows.memPlaysSpec.post enc Try.prog Try.f3 false true false false) := by
  refine returnsInHanded_of_change (C := Try.checked) own started (by kernel_rfl) Try.func3
    (ChangeSpec.witness6 (enc := enc) (C := Try.checked) false ⟨#[], #[.slice none 0 0], []⟩ 8 (by kernel_rfl) (by kernel_rfl) (by kernel_rfl) (by kernel_rfl)) ?_
  intro W base args ds gs before hval0 hW hcnd _
  have hval : ∀ (j : Nat) t v, Try.f3.params[j]? = some t → args[j]? = some v → Value.okWide Try.prog W .any base t v := hval0
  have hW' := hW
  obtain ⟨p, q, hA0, hV, rfl, hfz, hnd⟩ := hW
  have hA : DataW.TrodAll enc Try.prog W 0 (fun _ => true) true Try.f3.params.toList args.toList ds p := hA0
  rw [Try.params3] at hA hval
  obtain ⟨v0, vs0, d0, ds0, p0, q0, hargs, rfl, rfl, h0, r0⟩ := trodAll_cons hA
  obtain ⟨rfl, rfl, rfl⟩ := trodAll_nil r0
  obtain rfl : args = #[v0] := by cases args; simp_all
  obtain ⟨rfl, rfl⟩ := trodVars_none hV
  have k0 := h0
  have lt0 : ∀ x ∈ p0, x.block < W.heap.size := by obtain ⟨m, hm⟩ := k0; exact DataW.trod_lt m _ _ _ hm
  obtain ⟨a1, len1, cap1, rfl, hm, hR⟩ := open_acts (hval 0 22 v0 rfl rfl) h0
  clear hA0 hval0
  refine (walk a1 len1 cap1 W hm hR).mono fun e W' ⟨he, bel⟩ => ?_
  subst he
  exact ⟨_, rfl, _, _, _, [], _, [], hW', trodAll_mk1 (shut_bool Try.underlying4 _), (trodAll_cons_mk (Below.trod laidOut (by kernel_rfl) (of_decide_eq_true (by kernel_rfl)) k0 bel lt0) trodAll_mk0), rfl, bel.frame _, fun h => by cases h⟩

theorem over : Rows.memPlaysRow.holds Try.pinned (OpenSpec.ofChange Rows.memPlaysSpec) :=
  OpenClaim.holds_of_wide 3 Try.f3 rfl rfl rfl rfl rfl rfl rfl ⟨rfl, rfl, rfl, rfl, rfl⟩ rfl rfl rfl rfl rfl (by kernel_rfl) Try.func3 (by kernel_rfl)
    (of_decide_eq_true (by kernel_rfl)) (by unfold Func.isWrapper; first | (rw [if_pos (by decide +kernel)]; kernel_rfl) | (rw [if_neg (by decide +kernel)]; exact ⟨rfl, rfl⟩))
    (fun os started H enc _ => lifted os started H enc)

/-- The statement. -/
theorem proved : Rows.MemPlaysSaid :=
  over
#print axioms proved
end Go.Proofs.Ytahhbehpgolinaa.memPlays
