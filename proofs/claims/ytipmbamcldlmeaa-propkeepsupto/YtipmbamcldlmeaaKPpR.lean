/-
  The statement PropKeeps where the code halts: its walk over the program; the conditions: the code lies in memory.
-/
import Derived.Test.YtipmbamcldlmeaaKPpQ
namespace Go.Proofs.Ytipmbamcldlmeaa.Pp
open Go.RowKit
set_option linter.unusedVariables false

set_option maxRecDepth 100000 in
set_option maxHeartbeats 40000000 in
theorem keeps_halt (c : PC) (n : Int) (w : World) (hcok : c.ok w) (hn : 0 ≤ n ∧ n ≤ 65535) (x : Int) (sn : Nat) (tr : List Int) (k : Nat) (hk : (k : Int) = n.tmod 3000) (hd : ∀ X, c.ok X → Does X c k true x 0 false sn tr) (hA : ∀ A, EvC A (propC false c) → ∀ X, A.ok X → Does X A sn true x 0 false sn tr) (hf : fewP c = true) (hsz : codeN c ≤ 1099511627776) (hv : validP c = 0) : Calls Try.prog 3 #[c.v, .int .u16 n] w fun e w' => e = .returned (.bool true) ∧ Below w.heap.size w w' := by
  have HB : Hid (∀ X, Q (bxC w c) X → Cds X w.heap.size c) := fun X h => (cds_box w c).keep h
  have qB := hideIt (bxC_q w c)
  have CA : Hid (∀ X, Calls Try.prog 7 #[] X fun e w' => e = .returned (.bool true) ∧ Q X w') := fun X => awake_any X
  have CF : Hid (∀ X, Q (bxC w c) X → Calls Try.prog 8 #[c.v] X fun e w' => e = .returned (.bool true) ∧ Q X w') := fun X h => by have := few_any X c (hcok.keep ((bxC_q w c).trans h)); rw [hf] at this; exact this
  have CR : Hid (∀ X, Q (bxC w c) X → Calls Try.prog 9 #[c.v, .bool false] X fun e w' => ∃ A : PC, e = .returned (.tuple #[A.v, .int .i64 0]) ∧ EvC A (propC false c) ∧ A.ok w' ∧ Q X w') := fun X h => (run_few X c false (hcok.keep ((bxC_q w c).trans h)) hv hf hsz).mono fun e w' ⟨A, a1, a2, a3, a4⟩ => ⟨A, a1, a2, a3.ok, a4⟩
  have CV : Hid (∀ X, Q (bxC w c) X → Calls Try.prog 10 #[c.v] X fun e w' => e = .returned (.int .i64 0) ∧ Q X w') := fun X h => by have := rvalid_any X c (hcok.keep ((bxC_q w c).trans h)); rw [hv] at this; exact this
  have CW : Hid (∀ A, EvC A (propC false c) → ∀ X, A.ok X → Calls Try.prog 10 #[A.v] X fun e w' => e = .returned (.int .i64 0) ∧ Q X w') := fun A hA X h => by have := rvalid_any X A h; rw [valid_ev hcok hA hv] at this; exact this
  obtain ⟨m, rfl⟩ : ∃ m : Nat, n = (m : Int) := ⟨n.toNat, by omega⟩
  have t1 : (m : Int).tmod 3000 = (k : Int) := hk.symm
  have HC : Hid (∀ X, Q (bxC w c) X → c.ok X) := fun X h => hcok.keep ((bxC_q w c).trans h)
  generalize hBB : bxC w c = B at *
  have HBB := hideIt hBB
  clear hcok hBB hf hv hk
  go_enter Try.func3, Try.ntmps3
  go_wp2_with (fail)
  rw [show w.alloc (.cells #[.slice c.ga c.gl.length c.gc, .slice c.na c.ini.length c.nc, .slice c.fa c.fns.length c.fc] 26) = B from HBB.out]
  have CD : Hid (∀ X, c.ok X → Calls Try.prog 11 #[c.v, .int .i64 (k : Int)] X (DoA X true x 0 false sn tr)) := hd
  have CE : Hid (∀ A, EvC A (propC false c) → ∀ X, A.ok X → Calls Try.prog 11 #[A.v, .int .i64 (sn : Int)] X (DoA X true x 0 false sn tr)) := hA
  clear hd hA
  go_wp2_with (first
    | (go_at_call 7; refine Calls.mono (CA.out _) ?_; rintro e x1 ⟨rfl, q1⟩; have HX := hideIt q1; obtain ⟨s1, s2, s3⟩ := HB.out x1 q1; clear q1)
    | (go_at_call 8; refine Calls.mono (CF.out _ HX.out) ?_; rintro e y ⟨rfl, q1⟩; have HY := hideIt (HX.out.trans q1); clear q1 s1 s2 s3; obtain ⟨s1, s2, s3⟩ := HB.out y HY.out)
    | (go_at_call 9; refine Calls.mono (CR.out _ HY.out) ?_; rintro e z ⟨A, rfl, a1, a2, q1⟩; have HE := hideIt a1; have HO := hideIt a2; have HZ := hideIt (HY.out.trans q1); clear q1 a1 a2 s1 s2 s3; obtain ⟨s1, s2, s3⟩ := HB.out z HZ.out; have r1 := fun ob => cell_keep ((Q.refl z).alloc ob) s1; have r2 := fun ob => cell_keep ((Q.refl z).alloc ob) s2; have r3 := fun ob => cell_keep ((Q.refl z).alloc ob) s3; clear s1 s2 s3)
    | (go_at_call 10; first
        | (refine Calls.mono (CW.out A HE.out u (HO.out.keep HU1.out)) ?_; rintro e v ⟨rfl, q1⟩; have HV := hideIt (HU.out.trans q1); have HV1 := hideIt (HU1.out.trans q1); have HDV := hideIt (HDU.out.keep q1); clear q1 t1' t2' t3'; obtain ⟨s1, s2, s3⟩ := HB.out v HV.out)
        | (refine Calls.mono (CV.out _ (HZ.out.alloc _)) ?_; rintro e u ⟨rfl, q1⟩; have HU := hideIt ((HZ.out.alloc _).trans q1); have HU1 := hideIt (((Q.refl z).alloc _).trans q1); have HDU := hideIt ((cds_box z A).keep q1); clear q1 r1 r2 r3; obtain ⟨t1', t2', t3'⟩ := HDU.out))
    | (go_at_call 11; first
        | (have hh := HP1; clear hh; refine Calls.mono (CE.out A HE.out _ (HO.out.keep (HP1.out.alloc _))) ?_; rintro e r ⟨tb, td, rfl, ht, hl, hb⟩; have HT2 := hideIt ht; have HR := hideIt hb; have bk := (hb.block p.heap.size (by simp)).trans (heap_new p _); have r0 := fun ob => (cell_of_block (heap_old ob bk) 0); have r1 := fun ob => (cell_of_block (heap_old ob bk) 1); have r2 := fun ob => (cell_of_block (heap_old ob bk) 2); have r3 := fun ob => (cell_of_block (heap_old ob bk) 3); have r4 := fun ob => (cell_of_block (heap_old ob bk) 4); have r5 := fun ob => (cell_of_block (heap_old ob bk) 5); have BK := hideIt bk; clear ht hl hb bk d1 d2 d3)
        | (refine Calls.mono (CD.out v (HC.out _ HV.out)) ?_; rintro e p ⟨ta, tc, rfl, ht, hl, hb⟩; have HT1 := hideIt ht; have HL := hideIt hl; have HP := hideIt (HV.out.trans hb); have HP1 := hideIt (HV1.out.trans hb); have HDP := hideIt (HDV.out.keep hb); clear s1 s2 s3 ht hl hb; have d1 := fun ob => (HDP.out.keep ((Q.refl p).alloc ob)).1; have d2 := fun ob => (HDP.out.keep ((Q.refl p).alloc ob)).2.1; have d3 := fun ob => (HDP.out.keep ((Q.refl p).alloc ob)).2.2))
    | (go_at_call 12; refine Calls.mono (same_eq _ x 0 false sn tr ta tb tc td (by have := HL.out; omega) (HT1.out.keep ((((Q.refl _).alloc _).trans HR.out).alloc _)) (HT2.out.keep ((Q.refl _).alloc _))) ?_; rintro e s ⟨rfl, q4⟩; have HS := hideIt (((HP.out.alloc _).trans (HR.out.alloc _)).trans q4); have c4 := cell_keep q4 (r4 _); have c5 := (cell_of_block ((q4.block r.heap.size (by simp)).trans (heap_new r _)) 4); clear q4 r0 r1 r2 r3 r4 r5)
    | fail)
  go_ret
  exact ⟨rfl, qB.out.trans HS.out⟩

theorem keeps_good (c : PC) (n : Int) (w : World) (hcok : c.ok w) (hn : 0 ≤ n ∧ n ≤ 65535) (hf : fewP c = true) (hsz : codeN c ≤ 1099511627776) (hv : validP c = 0) : Calls Try.prog 3 #[c.v, .int .u16 n] w fun e w' => e = .returned (.bool true) ∧ Below w.heap.size w w' := by
  obtain ⟨k, hk⟩ : ∃ k : Nat, (k : Int) = n.tmod 3000 := ⟨(n.tmod 3000).toNat, by rw [Int.tmod_eq_emod_of_nonneg (by omega)]; omega⟩
  have hk2 : k ≤ 8388608 := by rw [Int.tmod_eq_emod_of_nonneg (by omega)] at hk; omega
  rcases two_runs hcok hv k hk2 with ⟨x, sn, tr, hd, hA⟩ | ⟨t, sp, sn, tr, hd⟩
  · exact keeps_halt c n w hcok hn x sn tr k hk hd hA hf hsz hv
  · exact keeps_over c n w hcok hn t sp sn tr k hk hd hf hsz hv

theorem keeps_walk (c : PC) (n : Int) (w : World) (hcok : c.ok w) (hsz : codeN c ≤ 1099511627776) (hn : 0 ≤ n ∧ n ≤ 65535) : Calls Try.prog 3 #[c.v, .int .u16 n] w fun e w' => e = .returned (.bool true) ∧ Below w.heap.size w w' := by
  cases hf : fewP c with
  | false => exact keeps_few c n w hcok hf
  | true =>
    by_cases hv : validP c = 0
    · exact keeps_good c n w hcok hn hf hsz hv
    · exact keeps_bad c n w hcok hf hv

end Go.Proofs.Ytipmbamcldlmeaa.Pp
