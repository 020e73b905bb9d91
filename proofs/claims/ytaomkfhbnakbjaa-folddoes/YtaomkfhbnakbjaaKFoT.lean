/-
  The statement FoldKeeps: its walk over the program; the conditions: the code lies in memory.
-/
import Derived.Test.YtaomkfhbnakbjaaKFoS
namespace Go.Proofs.Ytaomkfhbnakbjaa.Fo
open Go.RowKit
set_option linter.unusedVariables false

theorem wf16 {z : Int} (h : (Lit.int .u16 z).wf = true) : 0 ≤ z ∧ z ≤ 65535 := by
  simp [Lit.wf, IntKind.min, IntKind.max, IntKind.bits, IntKind.signed] at h; omega
/-- Where the code of a boxed argument is read. -/
def Cds (X : World) (b : Nat) (c : PC) : Prop := X.cell? ⟨b, 0, none⟩ = some (.slice c.ga c.gl.length c.gc) ∧ X.cell? ⟨b, 1, none⟩ = some (.slice c.na c.ini.length c.nc) ∧ X.cell? ⟨b, 2, none⟩ = some (.slice c.fa c.fns.length c.fc)
theorem Cds.keep {X Y : World} {b : Nat} {c : PC} (h : Cds X b c) (q : Q X Y) : Cds Y b c := ⟨cell_keep q h.1, cell_keep q h.2.1, cell_keep q h.2.2⟩
theorem cds_box (w : World) (c : PC) : Cds (bxC w c) w.heap.size c := (bxC_at (Q.refl _)).three

set_option maxRecDepth 100000 in
set_option maxHeartbeats 4000000 in
theorem keeps_few (c : PC) (n : Int) (w : World) (hcok : c.ok w) (hf : fewP c = false) : Calls Try.prog 4 #[c.v, .int .u16 n] w fun e w' => e = .returned (.bool true) ∧ Below w.heap.size w w' := by
  have HB : Hid (∀ X, Q (bxC w c) X → Cds X w.heap.size c) := fun X h => (cds_box w c).keep h
  have qB := hideIt (bxC_q w c)
  have CA : Hid (∀ X, Calls Try.prog 13 #[] X fun e w' => e = .returned (.bool true) ∧ Q X w') := fun X => awake_any X
  have CF : Hid (∀ X, Q (bxC w c) X → Calls Try.prog 14 #[c.v] X fun e w' => e = .returned (.bool false) ∧ Q X w') := fun X h => by have := few_any X c (hcok.keep ((bxC_q w c).trans h)); rw [hf] at this; exact this
  generalize hBB : bxC w c = B at *
  have HBB := hideIt hBB
  clear hcok hBB hf
  go_enter Try.func4, Try.ntmps4
  go_wp2_with (fail)
  rw [show w.alloc (.cells #[.slice c.ga c.gl.length c.gc, .slice c.na c.ini.length c.nc, .slice c.fa c.fns.length c.fc] 26) = B from HBB.out]
  go_wp2_with (first
    | (go_at_call 13; first
        | (refine Calls.mono (CA.out y) ?_; rintro e z ⟨rfl, q1⟩; have HZ := hideIt (HY.out.trans q1); clear q1)
        | (refine Calls.mono (CA.out _) ?_; rintro e x ⟨rfl, q1⟩; have HX := hideIt q1; obtain ⟨s1, s2, s3⟩ := HB.out x q1; clear q1))
    | (go_at_call 14; refine Calls.mono (CF.out _ HX.out) ?_; rintro e y ⟨rfl, q1⟩; have HY := hideIt (HX.out.trans q1); clear q1 s1 s2 s3)
    | fail)
  go_ret
  exact ⟨rfl, qB.out.trans HZ.out⟩

set_option maxRecDepth 100000 in
set_option maxHeartbeats 4000000 in
theorem keeps_bad (c : PC) (n : Int) (w : World) (hcok : c.ok w) (hf : fewP c = true) (hv : ¬ validP c = 0) : Calls Try.prog 4 #[c.v, .int .u16 n] w fun e w' => e = .returned (.bool true) ∧ Below w.heap.size w w' := by
  have HB : Hid (∀ X, Q (bxC w c) X → Cds X w.heap.size c) := fun X h => (cds_box w c).keep h
  have qB := hideIt (bxC_q w c)
  have CA : Hid (∀ X, Calls Try.prog 13 #[] X fun e w' => e = .returned (.bool true) ∧ Q X w') := fun X => awake_any X
  have CF : Hid (∀ X, Q (bxC w c) X → Calls Try.prog 14 #[c.v] X fun e w' => e = .returned (.bool true) ∧ Q X w') := fun X h => by have := few_any X c (hcok.keep ((bxC_q w c).trans h)); rw [hf] at this; exact this
  have CR : Hid (∀ X, Q (bxC w c) X → Calls Try.prog 15 #[c.v, .bool false] X fun e w' => e = .returned (.tuple #[.agg zeroC, .int .i64 (validP c)]) ∧ Q X w') := fun X h => run_bad X c false (hcok.keep ((bxC_q w c).trans h)) hv
  have CV : Hid (∀ X, Q (bxC w c) X → Calls Try.prog 16 #[c.v] X fun e w' => e = .returned (.int .i64 (validP c)) ∧ Q X w') := fun X h => rvalid_any X c (hcok.keep ((bxC_q w c).trans h))
  have d2 : (validP c != 0) = true := by simpa using hv
  generalize validP c = v at *
  generalize hBB : bxC w c = B at *
  have HBB := hideIt hBB
  clear hcok hBB hf hv
  go_enter Try.func4, Try.ntmps4
  go_wp2_with (fail)
  rw [show w.alloc (.cells #[.slice c.ga c.gl.length c.gc, .slice c.na c.ini.length c.nc, .slice c.fa c.fns.length c.fc] 26) = B from HBB.out]
  go_wp2_with (first
    | (go_at_call 13; refine Calls.mono (CA.out _) ?_; rintro e x ⟨rfl, q1⟩; have HX := hideIt q1; obtain ⟨s1, s2, s3⟩ := HB.out x q1; clear q1)
    | (go_at_call 14; refine Calls.mono (CF.out _ HX.out) ?_; rintro e y ⟨rfl, q1⟩; have HY := hideIt (HX.out.trans q1); clear q1 s1 s2 s3; obtain ⟨s1, s2, s3⟩ := HB.out y HY.out)
    | (go_at_call 15; refine Calls.mono (CR.out _ HY.out) ?_; rintro e z ⟨rfl, q1⟩; have HZ := hideIt (HY.out.trans q1); clear q1 s1 s2 s3; obtain ⟨s1, s2, s3⟩ := HB.out z HZ.out; have r1 := fun ob => cell_keep ((Q.refl z).alloc ob) s1; have r2 := fun ob => cell_keep ((Q.refl z).alloc ob) s2; have r3 := fun ob => cell_keep ((Q.refl z).alloc ob) s3; clear s1 s2 s3)
    | (go_at_call 16; refine Calls.mono (CV.out _ (HZ.out.alloc _)) ?_; rintro e u ⟨rfl, q1⟩; have HU := hideIt ((HZ.out.alloc _).trans q1); have bk := (q1.block z.heap.size (by simp)).trans (heap_new z _); have t2 := cell_of_block bk 2; clear q1 r1 r2 r3 bk)
    | fail)
  go_ret
  exact ⟨rfl, qB.out.trans HU.out⟩

/-- A run's answer by the document, written out. -/
abbrev DoA (X : World) (h : Bool) (x t : Int) (sp : Bool) (n : Nat) (tr : List Int) (e : Ending) (w' : World) : Prop := ∃ ta tc, e = .returned (.tuple #[.agg #[.bool h, .int .i64 x, .int .u8 t, .bool sp, .int .i64 (n : Int), .slice ta tr.length tc], .int .i64 0]) ∧ Dn.Trc w' ta tr ∧ tr.length ≤ 8388608 ∧ Q X w'

set_option maxRecDepth 100000 in
set_option maxHeartbeats 40000000 in
theorem keeps_over (c : PC) (n : Int) (w : World) (hcok : c.ok w) (hn : 0 ≤ n ∧ n ≤ 65535) (t : Int) (sp : Bool) (sn : Nat) (tr : List Int) (k : Nat) (hk : (k : Int) = n.tmod 3000) (hd : ∀ X, c.ok X → Does X c k false 0 t sp sn tr) (hf : fewP c = true) (hv : validP c = 0) : Calls Try.prog 4 #[c.v, .int .u16 n] w fun e w' => e = .returned (.bool true) ∧ Below w.heap.size w w' := by
  have HB : Hid (∀ X, Q (bxC w c) X → Cds X w.heap.size c) := fun X h => (cds_box w c).keep h
  have qB := hideIt (bxC_q w c)
  have CA : Hid (∀ X, Calls Try.prog 13 #[] X fun e w' => e = .returned (.bool true) ∧ Q X w') := fun X => awake_any X
  have CF : Hid (∀ X, Q (bxC w c) X → Calls Try.prog 14 #[c.v] X fun e w' => e = .returned (.bool true) ∧ Q X w') := fun X h => by have := few_any X c (hcok.keep ((bxC_q w c).trans h)); rw [hf] at this; exact this
  have CR : Hid (∀ X, Q (bxC w c) X → Calls Try.prog 15 #[c.v, .bool false] X fun e w' => ∃ A : PC, e = .returned (.tuple #[A.v, .int .i64 0]) ∧ EvC A (foldC false c) ∧ A.ok w' ∧ Q X w') := fun X h => (run_good X c false (hcok.keep ((bxC_q w c).trans h)) hv).mono fun e w' ⟨A, a1, a2, a3, a4⟩ => ⟨A, a1, a2, a3.ok, a4⟩
  have CV : Hid (∀ X, Q (bxC w c) X → Calls Try.prog 16 #[c.v] X fun e w' => e = .returned (.int .i64 0) ∧ Q X w') := fun X h => by have := rvalid_any X c (hcok.keep ((bxC_q w c).trans h)); rw [hv] at this; exact this
  have CW : Hid (∀ A, EvC A (foldC false c) → ∀ X, A.ok X → Calls Try.prog 16 #[A.v] X fun e w' => e = .returned (.int .i64 0) ∧ Q X w') := fun A hA X h => by have := rvalid_any X A h; rw [valid_ev hcok hA hv] at this; exact this
  obtain ⟨m, rfl⟩ : ∃ m : Nat, n = (m : Int) := ⟨n.toNat, by omega⟩
  have t1 : (m : Int).tmod 3000 = (k : Int) := hk.symm
  have HC : Hid (∀ X, Q (bxC w c) X → c.ok X) := fun X h => hcok.keep ((bxC_q w c).trans h)
  generalize hBB : bxC w c = B at *
  have HBB := hideIt hBB
  clear hcok hBB hf hv hk
  go_enter Try.func4, Try.ntmps4
  go_wp2_with (fail)
  rw [show w.alloc (.cells #[.slice c.ga c.gl.length c.gc, .slice c.na c.ini.length c.nc, .slice c.fa c.fns.length c.fc] 26) = B from HBB.out]
  have CD : Hid (∀ X, c.ok X → Calls Try.prog 11 #[c.v, .int .i64 (k : Int)] X (DoA X false 0 t sp sn tr)) := hd
  clear hd
  go_wp2_with (first
    | (go_at_call 13; refine Calls.mono (CA.out _) ?_; rintro e x1 ⟨rfl, q1⟩; have HX := hideIt q1; obtain ⟨s1, s2, s3⟩ := HB.out x1 q1; clear q1)
    | (go_at_call 14; refine Calls.mono (CF.out _ HX.out) ?_; rintro e y ⟨rfl, q1⟩; have HY := hideIt (HX.out.trans q1); clear q1 s1 s2 s3; obtain ⟨s1, s2, s3⟩ := HB.out y HY.out)
    | (go_at_call 15; refine Calls.mono (CR.out _ HY.out) ?_; rintro e z ⟨A, rfl, a1, a2, q1⟩; have HE := hideIt a1; have HO := hideIt a2; have HZ := hideIt (HY.out.trans q1); clear q1 a1 a2 s1 s2 s3; obtain ⟨s1, s2, s3⟩ := HB.out z HZ.out; have r1 := fun ob => cell_keep ((Q.refl z).alloc ob) s1; have r2 := fun ob => cell_keep ((Q.refl z).alloc ob) s2; have r3 := fun ob => cell_keep ((Q.refl z).alloc ob) s3; clear s1 s2 s3)
    | (go_at_call 16; first
        | (refine Calls.mono (CW.out A HE.out u (HO.out.keep HU1.out)) ?_; rintro e v ⟨rfl, q1⟩; have HV := hideIt (HU.out.trans q1); clear q1 t1' t2' t3'; obtain ⟨s1, s2, s3⟩ := HB.out v HV.out)
        | (refine Calls.mono (CV.out _ (HZ.out.alloc _)) ?_; rintro e u ⟨rfl, q1⟩; have HU := hideIt ((HZ.out.alloc _).trans q1); have HU1 := hideIt (((Q.refl z).alloc _).trans q1); have HDU := hideIt ((cds_box z A).keep q1); clear q1 r1 r2 r3; obtain ⟨t1', t2', t3'⟩ := HDU.out))
    | (go_at_call 11; refine Calls.mono (CD.out v (HC.out _ HV.out)) ?_; rintro e p ⟨ta, tc, rfl, ht, hl, hb⟩; have HP := hideIt (HV.out.trans hb); clear s1 s2 s3 ht hl hb)
    | fail)
  go_ret
  exact ⟨rfl, qB.out.trans (HP.out.alloc _)⟩

end Go.Proofs.Ytaomkfhbnakbjaa.Fo
