/-
  The statement RunMore: its walk over the program; the conditions: the code lies in memory.
-/
import Derived.Test.YtcpgikgjolomcaaKRpE
import Derived.Test.YtcpgikgjolomcaaKRpD
namespace Go.Proofs.Ytcpgikgjolomcaa
open Go.RowKit
set_option linter.unusedVariables false

/-- What Run answers with k steps. -/
def RunC (c : PC) (k : Int) (oh : Bool) (ox ot : Int) (os : Bool) (on : Nat) (tr : List Int) (vv : Int) : Prop :=
  ∀ X : World, c.ok X → Calls Try.prog 9 #[c.v, .int .i64 k] X fun e w' => ∃ ta tc, e = .returned (.tuple #[.agg #[.bool oh, .int .i64 ox, .int .u8 ot, .bool os, .int .i64 (on : Int), .slice ta tr.length tc], .int .i64 vv]) ∧ w'.ownsRow X.heap.size 2 1 (.slice ta tr.length tc) tr.length (rowI tr) ∧ Q X w'
theorem run_c (c : PC) (k : Nat) (hk : k ≤ 8388608) : RunC c (k : Int) (resO c k).h (resO c k).x (resO c k).t (resO c k).sp (resO c k).n (resO c k).tr (validP c) :=
  fun X hX => (run_any X c hX k hk).mono fun e w' ⟨v, e1, ta, tc, e2, e3, e4⟩ => ⟨ta, tc, by rw [e1, e2], e3, e4⟩

set_option maxRecDepth 100000 in
set_option maxHeartbeats 4000000 in
theorem more_walk (c : PC) (m1 m2 : Nat) (w : World) (hcok : c.ok w) (hm1 : m1 ≤ 65535) (hm2 : m2 ≤ 65535) : Calls Try.prog 5 #[c.v, .int .u16 (m1 : Int), .int .u16 (m2 : Int)] w fun e w' => e = .returned (.bool true) ∧ Below w.heap.size w w' := by
  have HB : Hid (∀ X, Q (bxC w c) X → X.cell? ⟨w.heap.size, 0, none⟩ = some (.slice c.ga c.gl.length c.gc) ∧ X.cell? ⟨w.heap.size, 1, none⟩ = some (.slice c.na c.ini.length c.nc) ∧ X.cell? ⟨w.heap.size, 2, none⟩ = some (.slice c.fa c.fns.length c.fc)) := fun X h => (bxC_at h).three
  have qB := hideIt (bxC_q w c)
  have CA : Hid (∀ X, Calls Try.prog 8 #[] X fun e w' => e = .returned (.bool true) ∧ Q X w') := fun X => awake_any X
  have HC := hideIt (fun X (h : Q (bxC w c) X) => hcok.keep ((bxC_q w c).trans h))
  have t1 : (m1 : Int).tmod 2000 = ((m1 % 2000 : Nat) : Int) := by rw [Int.tmod_eq_emod_of_nonneg (by omega)]; omega
  have t2 : (m2 : Int).tmod 2000 = ((m2 % 2000 : Nat) : Int) := by rw [Int.tmod_eq_emod_of_nonneg (by omega)]; omega
  have C1 := hideIt (run_c c (m1 % 2000) (by omega))
  have C2 := hideIt (run_c c (m1 % 2000 + m2 % 2000) (by omega))
  have hc2 : ((m1 % 2000 + m2 % 2000 : Nat) : Int) = ((m1 % 2000 : Nat) : Int) + ((m2 % 2000 : Nat) : Int) := by omega
  rw [hc2] at C2
  have hcase : Hid (¬ validP c = 0 ∨ (validP c = 0 ∧ (resO c (m1 % 2000)).sp = false ∧ resO c (m1 % 2000 + m2 % 2000) = resO c (m1 % 2000)) ∨ (validP c = 0 ∧ (resO c (m1 % 2000)).sp = true ∧ (resO c (m1 % 2000)).n = m1 % 2000 ∧ (resO c (m1 % 2000)).tr <+: (resO c (m1 % 2000 + m2 % 2000)).tr)) := by
    by_cases hv : validP c = 0
    · have h := more_law hcok hv (k := m1 % 2000) (k' := m1 % 2000 + m2 % 2000) (by omega)
      unfold resO
      rw [if_pos hv, if_pos hv]
      cases hs : (ocP (runP c (m1 % 2000))).sp with
      | false => exact .inr (.inl ⟨hv, rfl, h.1 hs⟩)
      | true => exact .inr (.inr ⟨hv, rfl, h.2 hs⟩)
    · exact .inl hv
  have hk1 : m1 % 2000 < 2000 := by omega
  have hk2 : m2 % 2000 < 2000 := by omega
  generalize resO c (m1 % 2000 + m2 % 2000) = ob at *
  generalize resO c (m1 % 2000) = oa at *
  generalize m1 % 2000 = k at *
  generalize m2 % 2000 = k2 at *
  generalize validP c = vv at *
  obtain ⟨oh, ox, ot, os, on, la⟩ := oa
  obtain ⟨ph, px, pt, ps, pn, lb⟩ := ob
  dsimp only at C1 C2 hcase
  generalize hBB : bxC w c = B at *
  have HBB := hideIt hBB
  clear hcok hBB hc2
  rcases hcase.out with hv | ⟨rfl, rfl, e⟩ | ⟨rfl, rfl, rfl, hpre⟩
  · have hv' : (vv != 0) = true := by simpa using hv
    have hv2 : (vv != vv) = false := by simp
    clear hv hcase
    go_enter Try.func5, Try.ntmps5
    go_wp2_with (fail)
    rw [show w.alloc (.cells #[.slice c.ga c.gl.length c.gc, .slice c.na c.ini.length c.nc, .slice c.fa c.fns.length c.fc] 26) = B from HBB.out]
    go_wp2_with (first
      | (go_at_call 8; refine (CA.out _).mono ?_; rintro e x ⟨rfl, q1⟩; have HQ1 := hideIt q1; obtain ⟨s1, s2, s3⟩ := HB.out x q1; clear q1)
      | fail)
    go_at_call 9
    refine Calls.mono (C1.out _ (HC.out _ HQ1.out)) ?_
    rintro e y ⟨ta, tc, rfl, ho, hb⟩
    have HO1 := hideIt ho
    have HY1 := hideIt hb
    clear s1 s2 s3
    obtain ⟨s1, s2, s3⟩ := HB.out y (HQ1.out.trans hb)
    have r1 := fun ob => cell_keep ((Q.refl y).alloc ob) s1
    have r2 := fun ob => cell_keep ((Q.refl y).alloc ob) s2
    have r3 := fun ob => cell_keep ((Q.refl y).alloc ob) s3
    clear s1 s2 s3 ho hb C1
    go_wp2_with (fail)
    go_at_call 9
    refine Calls.mono (C2.out _ (HC.out _ ((HQ1.out.trans HY1.out).alloc _))) ?_
    rintro e y2 ⟨tb, td, rfl, ho2, hb2⟩
    have HO2 := hideIt ho2
    have HY2 := hideIt hb2
    have b3 := (hb2.block y.heap.size (by simp)).trans (heap_new y _)
    have B3 := hideIt b3
    have u0 := fun ob => (Me.cell_of_block (heap_old ob b3) 0)
    have u1 := fun ob => (Me.cell_of_block (heap_old ob b3) 1)
    have u2 := fun ob => (Me.cell_of_block (heap_old ob b3) 2)
    have u3 := fun ob => (Me.cell_of_block (heap_old ob b3) 3)
    have u4 := fun ob => (Me.cell_of_block (heap_old ob b3) 4)
    have u5 := fun ob => (Me.cell_of_block (heap_old ob b3) 5)
    clear r1 r2 r3 ho2 hb2 b3 C2
    go_wp2_with (fail)
    go_ret
    exact ⟨rfl, qB.out.trans (HQ1.out.trans (HY1.out.trans ((((Q.refl y).alloc _).trans HY2.out).alloc _)))⟩
  · injection e with e1 e2 e3 e4 e5 e6
    subst e1 e2 e3 e4 e5 e6
    clear hcase
    go_enter Try.func5, Try.ntmps5
    go_wp2_with (fail)
    rw [show w.alloc (.cells #[.slice c.ga c.gl.length c.gc, .slice c.na c.ini.length c.nc, .slice c.fa c.fns.length c.fc] 26) = B from HBB.out]
    go_wp2_with (first
      | (go_at_call 8; refine (CA.out _).mono ?_; rintro e x ⟨rfl, q1⟩; have HQ1 := hideIt q1; obtain ⟨s1, s2, s3⟩ := HB.out x q1; clear q1)
      | fail)
    go_at_call 9
    refine Calls.mono (C1.out _ (HC.out _ HQ1.out)) ?_
    rintro e y ⟨ta, tc, rfl, ho, hb⟩
    have HO1 := hideIt ho
    have HY1 := hideIt hb
    clear s1 s2 s3
    obtain ⟨s1, s2, s3⟩ := HB.out y (HQ1.out.trans hb)
    have r1 := fun ob => cell_keep ((Q.refl y).alloc ob) s1
    have r2 := fun ob => cell_keep ((Q.refl y).alloc ob) s2
    have r3 := fun ob => cell_keep ((Q.refl y).alloc ob) s3
    clear s1 s2 s3 ho hb C1
    go_wp2_with (fail)
    go_at_call 9
    refine Calls.mono (C2.out _ (HC.out _ ((HQ1.out.trans HY1.out).alloc _))) ?_
    rintro e y2 ⟨tb, td, rfl, ho2, hb2⟩
    have HO2 := hideIt ho2
    have HY2 := hideIt hb2
    have b3 := (hb2.block y.heap.size (by simp)).trans (heap_new y _)
    have B3 := hideIt b3
    have u0 := fun ob => (Me.cell_of_block (heap_old ob b3) 0)
    have u1 := fun ob => (Me.cell_of_block (heap_old ob b3) 1)
    have u2 := fun ob => (Me.cell_of_block (heap_old ob b3) 2)
    have u3 := fun ob => (Me.cell_of_block (heap_old ob b3) 3)
    have u4 := fun ob => (Me.cell_of_block (heap_old ob b3) 4)
    have u5 := fun ob => (Me.cell_of_block (heap_old ob b3) 5)
    clear r1 r2 r3 ho2 hb2 b3 C2
    go_wp2_with (first
      | (go_at_call 11; refine Calls.mono (same_eq _ _ _ _ _ _ lb ta tb tc td (own_len HO2.out) ((own_trc HO1.out).keep ((((Q.refl y).alloc _).trans HY2.out).alloc _)) ((own_trc HO2.out).keep ((Q.refl _).alloc _))) ?_; rintro e y4 ⟨rfl, q4⟩; have HY4 := hideIt ((((((Q.refl y).alloc _).trans HY2.out).alloc _)).trans q4); clear q4)
      | fail)
    go_ret
    exact ⟨rfl, qB.out.trans (HQ1.out.trans (HY1.out.trans HY4.out))⟩
  · have hll : la.length ≤ lb.length := List.IsPrefix.length_le hpre
    have hget : Hid (∀ (i : Nat) (z : Int), la[i]? = some z → lb[i]? = some z) := fun i z h => by
      obtain ⟨t, rfl⟩ := hpre
      rw [List.getElem?_append_left (List.getElem?_eq_some_iff.1 h).1]
      exact h
    have d1 : decide ((lb.length : Int) < (la.length : Int)) = false := by simp; omega
    clear hcase hpre
    go_enter Try.func5, Try.ntmps5
    go_wp2_with (fail)
    rw [show w.alloc (.cells #[.slice c.ga c.gl.length c.gc, .slice c.na c.ini.length c.nc, .slice c.fa c.fns.length c.fc] 26) = B from HBB.out]
    go_wp2_with (first
      | (go_at_call 8; refine (CA.out _).mono ?_; rintro e x ⟨rfl, q1⟩; have HQ1 := hideIt q1; obtain ⟨s1, s2, s3⟩ := HB.out x q1; clear q1)
      | fail)
    go_at_call 9
    refine Calls.mono (C1.out _ (HC.out _ HQ1.out)) ?_
    rintro e y ⟨ta, tc, rfl, ho, hb⟩
    have HO1 := hideIt ho
    have HY1 := hideIt hb
    clear s1 s2 s3
    obtain ⟨s1, s2, s3⟩ := HB.out y (HQ1.out.trans hb)
    have r1 := fun ob => cell_keep ((Q.refl y).alloc ob) s1
    have r2 := fun ob => cell_keep ((Q.refl y).alloc ob) s2
    have r3 := fun ob => cell_keep ((Q.refl y).alloc ob) s3
    clear s1 s2 s3 ho hb C1
    go_wp2_with (fail)
    go_at_call 9
    refine Calls.mono (C2.out _ (HC.out _ ((HQ1.out.trans HY1.out).alloc _))) ?_
    rintro e y2 ⟨tb, td, rfl, ho2, hb2⟩
    have HO2 := hideIt ho2
    have HY2 := hideIt hb2
    have b3 := (hb2.block y.heap.size (by simp)).trans (heap_new y _)
    have B3 := hideIt b3
    have u0 := fun ob => (Me.cell_of_block (heap_old ob b3) 0)
    have u1 := fun ob => (Me.cell_of_block (heap_old ob b3) 1)
    have u2 := fun ob => (Me.cell_of_block (heap_old ob b3) 2)
    have u3 := fun ob => (Me.cell_of_block (heap_old ob b3) 3)
    have u4 := fun ob => (Me.cell_of_block (heap_old ob b3) 4)
    have u5 := fun ob => (Me.cell_of_block (heap_old ob b3) 5)
    clear r1 r2 r3 ho2 hb2 b3 C2
    go_wp2_with (fail)
    have FW : Hid (∀ W, y2.alloc (.cells #[.bool ph, .int .i64 px, .int .u8 pt, .bool ps, .int .i64 (pn : Int), .slice tb lb.length td] 31) = W → W.cell? ⟨y.heap.size, 5, none⟩ = some (.slice ta la.length tc) ∧ W.cell? ⟨y2.heap.size, 5, none⟩ = some (.slice tb lb.length td) ∧ Trc W ta la ∧ Trc W tb lb ∧ Q y W) := by
      rintro W rfl
      have qy := (((Q.refl y).alloc _).trans HY2.out).alloc (.cells #[.bool ph, .int .i64 px, .int .u8 pt, .bool ps, .int .i64 (pn : Int), .slice tb lb.length td] 31)
      exact ⟨u5 _, (Me.cell_of_block (heap_new _ _) 5).trans rfl, (own_trc HO1.out).keep qy, (own_trc HO2.out).keep ((Q.refl _).alloc _), qy⟩
    have HLA := hideIt (own_len HO1.out)
    generalize hW : y2.alloc (.cells #[.bool ph, .int .i64 px, .int .u8 pt, .bool ps, .int .i64 (pn : Int), .slice tb lb.length td] 31) = W
    have HW := hideIt (FW.out W hW)
    clear hW FW u0 u1 u2 u3 u4 u5 d1
    go_loopw [12] (fun i wr => ∃ (j : Nat), i = .int .i64 j ∧ j ≤ la.length ∧ Q W wr) (fun i _ => la.length - (intOf i).toNat)
    case atStart => exact ⟨0, rfl, by omega, Q.refl _⟩
    case round =>
      obtain ⟨j, rfl, hj, hq⟩ := hrel
      have HQ := hideIt hq
      have k1 := cell_keep hq HW.out.1
      have k2 := cell_keep hq HW.out.2.1
      clear hq
      by_cases hlt : j < la.length
      · obtain ⟨z, hz⟩ := get_of_lt hlt
        obtain ⟨b1, o1, e3, hc1⟩ := (Trc.keep HW.out.2.2.1 HQ.out) j z hz
        obtain ⟨b2, o2, e4, hc2⟩ := (Trc.keep HW.out.2.2.2.1 HQ.out) j z (hget.out j z hz)
        subst e3 e4
        have hkl : (j : Int) < (la.length : Int) := by omega
        have hkl2 : (j : Int) < (lb.length : Int) := by omega
        have hlen := HLA.out
        clear hz
        go_wp2_with (fail)
        go_quiet (fail)
        go_wp2
        go_roundw
        case rel => exact ⟨j + 1, by go_num, by omega, Q.drewN HQ.out _⟩
        case measure => simp [intOf]; omega
      · go_wp2_with (fail)
        go_ret
        exact ⟨rfl, qB.out.trans (HQ1.out.trans (HY1.out.trans (HW.out.2.2.2.2.trans HQ.out)))⟩

end Go.Proofs.Ytcpgikgjolomcaa
