/-
  The statement RunRuns: its walk over the program; the conditions: the code lies in memory.
-/
import Derived.Test.YtaomkfhbnakbjaaKRpC
import Derived.Test.YtaomkfhbnakbjaaKDnO
namespace Go.Proofs.Ytaomkfhbnakbjaa
open Go.RowKit
set_option linter.unusedVariables false

theorem do_any (w : World) (c : PC) (hcok : c.ok w) (k : Nat) (hk : k ≤ 8388608) : Calls Try.prog 11 #[c.v, .int .i64 (k : Int)] w fun e w' => ∃ v, e = .returned (.tuple #[v, .int .i64 (validP c)]) ∧ Dn.OutPost w (resO c k) v w' := by
  by_cases hv : validP c = 0
  · have := Dn.do_good w c hcok k hk hv
    unfold resO
    rw [if_pos hv, hv]
    exact this
  · refine (Dn.do_bad w c hcok k hk hv).mono ?_
    rintro e w' ⟨rfl, hq⟩
    unfold resO
    rw [if_neg hv]
    exact ⟨_, rfl, none, 0, rfl, fun k x e => by simp [zeroP] at e, by simp [zeroP], hq⟩

/-- Both runs' answers, written out. -/
theorem both_out (c : PC) (k : Nat) (hk : k ≤ 8388608) : ∃ (oh : Bool) (ox ot : Int) (os : Bool) (on : Nat) (tr : List Int) (vv : Int),
    (∀ X : World, c.ok X → Calls Try.prog 10 #[c.v, .int .i64 (k : Int)] X fun e w' => ∃ ta tc, e = .returned (.tuple #[.agg #[.bool oh, .int .i64 ox, .int .u8 ot, .bool os, .int .i64 (on : Int), .slice ta tr.length tc], .int .i64 vv]) ∧ Trc w' ta tr ∧ Q X w') ∧
    (∀ X : World, c.ok X → Calls Try.prog 11 #[c.v, .int .i64 (k : Int)] X fun e w' => ∃ ta tc, e = .returned (.tuple #[.agg #[.bool oh, .int .i64 ox, .int .u8 ot, .bool os, .int .i64 (on : Int), .slice ta tr.length tc], .int .i64 vv]) ∧ Trc w' ta tr ∧ tr.length ≤ 8388608 ∧ Q X w') :=
  ⟨(resO c k).h, (resO c k).x, (resO c k).t, (resO c k).sp, (resO c k).n, (resO c k).tr, validP c,
    fun X hX => (run_any X c hX k hk).mono fun e w' ⟨v, e1, ta, tc, e2, e3, e4⟩ => ⟨ta, tc, by rw [e1, e2], own_trc e3, e4⟩,
    fun X hX => (do_any X c hX k hk).mono fun e w' ⟨v, e1, ta, tc, e2, e3, e5, e4⟩ => ⟨ta, tc, by rw [e1, e2], e3, e5, e4⟩⟩

set_option maxRecDepth 100000 in
set_option maxHeartbeats 4000000 in
theorem runs_walk (c : PC) (n : Int) (w : World) (hcok : c.ok w) (hn : 0 ≤ n ∧ n ≤ 65535) : Calls Try.prog 3 #[c.v, .int .u16 n] w fun e w' => e = .returned (.bool true) ∧ Below w.heap.size w w' := by
  have HB : Hid (∀ X, Q (bxC w c) X → X.cell? ⟨w.heap.size, 0, none⟩ = some (.slice c.ga c.gl.length c.gc) ∧ X.cell? ⟨w.heap.size, 1, none⟩ = some (.slice c.na c.ini.length c.nc) ∧ X.cell? ⟨w.heap.size, 2, none⟩ = some (.slice c.fa c.fns.length c.fc)) := fun X h => (bxC_at h).three
  have qB := hideIt (bxC_q w c)
  have CA : Hid (∀ X, Calls Try.prog 9 #[] X fun e w' => e = .returned (.bool true) ∧ Q X w') := fun X => awake_any X
  have HC := hideIt (fun X (h : Q (bxC w c) X) => hcok.keep ((bxC_q w c).trans h))
  obtain ⟨m, rfl⟩ : ∃ m : Nat, n = (m : Int) := ⟨n.toNat, by omega⟩
  have t1 : (m : Int).tmod 4000 = ((m % 4000 : Nat) : Int) := by rw [Int.tmod_eq_emod_of_nonneg (by omega)]; omega
  obtain ⟨oh, ox, ot, os, on, tr, vv, cr, cd⟩ := both_out c (m % 4000) (by omega)
  have CR := hideIt cr
  have CD := hideIt cd
  generalize m % 4000 = k at *
  generalize hBB : bxC w c = B at *
  have HBB := hideIt hBB
  clear hcok hBB cr cd
  go_enter Try.func3, Try.ntmps3
  go_wp2_with (fail)
  rw [show w.alloc (.cells #[.slice c.ga c.gl.length c.gc, .slice c.na c.ini.length c.nc, .slice c.fa c.fns.length c.fc] 26) = B from HBB.out]
  go_wp2_with (first
    | (go_at_call 9; refine (CA.out _).mono ?_; rintro e x ⟨rfl, q1⟩; have HQ1 := hideIt q1; obtain ⟨s1, s2, s3⟩ := HB.out x q1; clear q1)
    | (go_at_call 10; refine Calls.mono (CR.out _ (HC.out _ HQ1.out)) ?_; rintro e y ⟨ta, tc, rfl, ht, hb⟩; have HT1 := hideIt ht; have HY1 := hideIt hb; clear s1 s2 s3; obtain ⟨s1, s2, s3⟩ := HB.out y (HQ1.out.trans hb); have r1 := fun ob => cell_keep ((Q.refl y).alloc ob) s1; have r2 := fun ob => cell_keep ((Q.refl y).alloc ob) s2; have r3 := fun ob => cell_keep ((Q.refl y).alloc ob) s3; clear s1 s2 s3 ht hb)
    | (go_at_call 11; refine Calls.mono (CD.out _ (HC.out _ ((HQ1.out.trans HY1.out).alloc _))) ?_; rintro e z ⟨tb, td, rfl, ht, hl, hb⟩; have HT2 := hideIt ht; have HL := hideIt hl; have HY2 := hideIt hb; have bk := (hb.block y.heap.size (by simp)).trans (heap_new y _); have r0 := fun ob => (Me.cell_of_block (heap_old ob bk) 0); have r1 := fun ob => (Me.cell_of_block (heap_old ob bk) 1); have r2 := fun ob => (Me.cell_of_block (heap_old ob bk) 2); have r3 := fun ob => (Me.cell_of_block (heap_old ob bk) 3); have r4 := fun ob => (Me.cell_of_block (heap_old ob bk) 4); have r5 := fun ob => (Me.cell_of_block (heap_old ob bk) 5); clear ht hl hb bk)
    | (go_at_call 12; refine Calls.mono (same_eq _ oh ox ot os on tr ta tb tc td (by have := HL.out; omega) (HT1.out.keep ((((Q.refl _).alloc _).trans HY2.out).alloc _)) (HT2.out.keep ((Q.refl _).alloc _))) ?_; rintro e u ⟨rfl, q4⟩; have HY4 := hideIt q4; clear q4)
    | fail)
  go_ret
  exact ⟨rfl, qB.out.trans (HQ1.out.trans (HY1.out.trans (((Q.refl _).alloc _).trans (HY2.out.trans (((Q.refl _).alloc _).trans HY4.out)))))⟩

end Go.Proofs.Ytaomkfhbnakbjaa
