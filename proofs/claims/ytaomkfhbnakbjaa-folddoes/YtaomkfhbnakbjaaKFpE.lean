/-
  The statement FoldDoes: its walk over the program; the conditions: the code lies in memory.
-/
import Derived.Test.YtaomkfhbnakbjaaKFpD
import Derived.Test.YtaomkfhbnakbjaaKFoT
namespace Go.Proofs.Ytaomkfhbnakbjaa.Fo
open Go.RowKit
set_option linter.unusedVariables false

set_option maxRecDepth 100000 in
set_option maxHeartbeats 4000000 in
theorem does_few (c : PC) (w : World) (hcok : c.ok w) (hf : fewP c = false) : Calls Try.prog 6 #[c.v] w fun e w' => e = .returned (.bool true) ∧ Below w.heap.size w w' := by
  have HB : Hid (∀ X, Q (bxC w c) X → Cds X w.heap.size c) := fun X h => (cds_box w c).keep h
  have qB := hideIt (bxC_q w c)
  have CA : Hid (∀ X, Calls Try.prog 13 #[] X fun e w' => e = .returned (.bool true) ∧ Q X w') := fun X => awake_any X
  have CF : Hid (∀ X, Q (bxC w c) X → Calls Try.prog 14 #[c.v] X fun e w' => e = .returned (.bool false) ∧ Q X w') := fun X h => by have := few_any X c (hcok.keep ((bxC_q w c).trans h)); rw [hf] at this; exact this
  generalize hBB : bxC w c = B at *
  have HBB := hideIt hBB
  clear hcok hBB hf
  go_enter Try.func6, Try.ntmps6
  go_wp2_with (fail)
  rw [show w.alloc (.cells #[.slice c.ga c.gl.length c.gc, .slice c.na c.ini.length c.nc, .slice c.fa c.fns.length c.fc] 26) = B from HBB.out]
  go_wp2_with (first
    | (go_at_call 13; first
        | (refine Calls.mono (CA.out y) ?_; rintro e z ⟨rfl, q1⟩; have HZ := hideIt (HY.out.trans q1); clear q1)
        | (refine Calls.mono (CA.out _) ?_; rintro e x ⟨rfl, q1⟩; have HX := hideIt q1; obtain ⟨s1, s2, s3⟩ := HB.out x q1; clear q1))
    | (go_at_call 14; refine Calls.mono (CF.out _ HX.out) ?_; rintro e y ⟨rfl, q1⟩; have HY := hideIt (HX.out.trans q1); clear q1 s1 s2 s3)
    | fail)
  go_ret
  exact ⟨rfl, qB.out.trans HZ.out⟩

set_option maxRecDepth 100000 in
set_option maxHeartbeats 1000000 in
theorem does_bad (c : PC) (w : World) (hcok : c.ok w) (hf : fewP c = true) (hv : ¬ validP c = 0) : Calls Try.prog 6 #[c.v] w fun e w' => e = .returned (.bool true) ∧ Below w.heap.size w w' := by
  have HB : Hid (∀ X, Q (bxC w c) X → Cds X w.heap.size c) := fun X h => (cds_box w c).keep h
  have qB := hideIt (bxC_q w c)
  have CA : Hid (∀ X, Calls Try.prog 13 #[] X fun e w' => e = .returned (.bool true) ∧ Q X w') := fun X => awake_any X
  have CF : Hid (∀ X, Q (bxC w c) X → Calls Try.prog 14 #[c.v] X fun e w' => e = .returned (.bool true) ∧ Q X w') := fun X h => by have := few_any X c (hcok.keep ((bxC_q w c).trans h)); rw [hf] at this; exact this
  have CV : Hid (∀ X, Q (bxC w c) X → Calls Try.prog 16 #[c.v] X fun e w' => e = .returned (.int .i64 (validP c)) ∧ Q X w') := fun X h => rvalid_any X c (hcok.keep ((bxC_q w c).trans h))
  have d2 : (validP c != 0) = true := by simpa using hv
  generalize validP c = v at *
  generalize hBB : bxC w c = B at *
  have HBB := hideIt hBB
  clear hcok hBB hf hv
  go_enter Try.func6, Try.ntmps6
  go_wp2_with (fail)
  rw [show w.alloc (.cells #[.slice c.ga c.gl.length c.gc, .slice c.na c.ini.length c.nc, .slice c.fa c.fns.length c.fc] 26) = B from HBB.out]
  go_wp2_with (first
    | (go_at_call 13; first
        | (refine Calls.mono (CA.out z) ?_; rintro e u ⟨rfl, q1⟩; have HU := hideIt (HZ.out.trans q1); clear q1)
        | (refine Calls.mono (CA.out _) ?_; rintro e x ⟨rfl, q1⟩; have HX := hideIt q1; obtain ⟨s1, s2, s3⟩ := HB.out x q1; clear q1))
    | (go_at_call 14; refine Calls.mono (CF.out _ HX.out) ?_; rintro e y ⟨rfl, q1⟩; have HY := hideIt (HX.out.trans q1); clear q1 s1 s2 s3; obtain ⟨s1, s2, s3⟩ := HB.out y HY.out)
    | (go_at_call 16; refine Calls.mono (CV.out _ HY.out) ?_; rintro e z ⟨rfl, q1⟩; have HZ := hideIt (HY.out.trans q1); clear q1 s1 s2 s3)
    | fail)
  go_ret
  exact ⟨rfl, qB.out.trans HU.out⟩

set_option maxRecDepth 100000 in
set_option maxHeartbeats 2000000 in
theorem does_good (c : PC) (w : World) (hcok : c.ok w) (hf : fewP c = true) (hv : validP c = 0) : Calls Try.prog 6 #[c.v] w fun e w' => e = .returned (.bool true) ∧ Below w.heap.size w w' := by
  have HB : Hid (∀ X, Q (bxC w c) X → Cds X w.heap.size c) := fun X h => (cds_box w c).keep h
  have HC : Hid (∀ X, Q (bxC w c) X → c.ok X) := fun X h => hcok.keep ((bxC_q w c).trans h)
  have qB := hideIt (bxC_q w c)
  have CA : Hid (∀ X, Calls Try.prog 13 #[] X fun e w' => e = .returned (.bool true) ∧ Q X w') := fun X => awake_any X
  have CF : Hid (∀ X, Q (bxC w c) X → Calls Try.prog 14 #[c.v] X fun e w' => e = .returned (.bool true) ∧ Q X w') := fun X h => by have := few_any X c (hcok.keep ((bxC_q w c).trans h)); rw [hf] at this; exact this
  have CV : Hid (∀ X, Q (bxC w c) X → Calls Try.prog 16 #[c.v] X fun e w' => e = .returned (.int .i64 0) ∧ Q X w') := fun X h => by have := rvalid_any X c (hcok.keep ((bxC_q w c).trans h)); rw [hv] at this; exact this
  have CR : Hid (∀ X, Q (bxC w c) X → Calls Try.prog 15 #[c.v, .bool false] X fun e w' => ∃ A : PC, e = .returned (.tuple #[A.v, .int .i64 0]) ∧ EvC A (foldC false c) ∧ A.ok w' ∧ Q X w') := fun X h => (run_good X c false (hcok.keep ((bxC_q w c).trans h)) hv).mono fun e w' ⟨A, a1, a2, a3, a4⟩ => ⟨A, a1, a2, a3.ok, a4⟩
  generalize hBB : bxC w c = B at *
  have HBB := hideIt hBB
  clear hcok hBB hf hv
  go_enter Try.func6, Try.ntmps6
  go_wp2_with (fail)
  rw [show w.alloc (.cells #[.slice c.ga c.gl.length c.gc, .slice c.na c.ini.length c.nc, .slice c.fa c.fns.length c.fc] 26) = B from HBB.out]
  go_wp2_with (first
    | (go_at_call 13; refine Calls.mono (CA.out _) ?_; rintro e x ⟨rfl, q1⟩; have HX := hideIt q1; obtain ⟨s1, s2, s3⟩ := HB.out x q1; clear q1)
    | (go_at_call 14; refine Calls.mono (CF.out _ HX.out) ?_; rintro e y ⟨rfl, q1⟩; have HY := hideIt (HX.out.trans q1); clear q1 s1 s2 s3; obtain ⟨s1, s2, s3⟩ := HB.out y HY.out)
    | (go_at_call 16; refine Calls.mono (CV.out _ HY.out) ?_; rintro e x3 ⟨rfl, q1⟩; have H3 := hideIt (HY.out.trans q1); clear q1 s1 s2 s3; obtain ⟨s1, s2, s3⟩ := HB.out x3 H3.out)
    | (go_at_call 15; refine Calls.mono (CR.out _ H3.out) ?_; rintro e y1 ⟨A, rfl, a1, a2, q1⟩; have EV := hideIt a1; have OK := hideIt a2; have HY1 := hideIt (H3.out.trans q1); clear q1 a1 a2 s1 s2 s3; obtain ⟨s1, s2, s3⟩ := HB.out y1 HY1.out; have r1 := fun ob => cell_keep ((Q.refl y1).alloc ob) s1; have r2 := fun ob => cell_keep ((Q.refl y1).alloc ob) s2; have r3 := fun ob => cell_keep ((Q.refl y1).alloc ob) s3; clear s1 s2 s3)
    | (go_at_call 19; refine Calls.mono (alike_any _ c A (HC.out _ (HY1.out.alloc _)) (OK.out.keep ((Q.refl y1).alloc _)) (ak_fold EV.out)) ?_; rintro e W0 ⟨rfl, q1⟩; have HW := hideIt ((HY1.out.alloc _).trans q1); have DW := hideIt ((cds_box y1 A).keep q1); have OW := hideIt (OK.out.keep (((Q.refl y1).alloc _).trans q1)); clear q1 r1 r2 r3)
    | fail)
  have CW : Hid (Cds W0 w.heap.size c) := HB.out W0 HW.out
  have COW : Hid (c.ok W0) := HC.out W0 HW.out
  have AK := hideIt (ak_fold EV.out)
  have hflen : A.fns.length ≤ 9223372036854775807 := OW.out.fsok.len
  have QF : Hid (Q w W0) := qB.out.trans HW.out
  clear HB HC qB CA CF CV CR HBB HX HY H3 HY1 OK HW
  go_loopw [5, 6, 7, 8] (fun iv d6 d7 d8 z => ∃ (i : Nat), iv = .int .i64 i ∧ i ≤ A.fns.length ∧ Hid (Q W0 z)) (fun iv _ _ _ _ => A.fns.length - (intOf iv).toNat)
  case atStart => exact ⟨0, rfl, by omega, Q.refl _⟩
  case round =>
    obtain ⟨i, rfl, hi, Q1⟩ := hrel
    generalize wr = z1 at *
    obtain ⟨-, -, sl0⟩ := DW.out.keep Q1.out
    by_cases hlt1 : i < A.fns.length
    · obtain ⟨f, hf⟩ := get_of_lt hlt1
      obtain ⟨f0, hf0⟩ := get_of_lt (l := c.fns) (k := i) (by rw [AK.out.len]; exact hlt1)
      obtain ⟨G, Go', hG, hfat⟩ := OW.out.fns i f hf
      obtain ⟨G0, Go0, hG0, hfat0⟩ := COW.out.fns i f0 hf0
      have AF := hideIt (AK.out.each i f0 f hf0 hf)
      have EF : Hid (EvF f (foldF false f0)) := EV.out.fns.each i f _ hf (by simp [foldC, hf0])
      have DB : Hid (W0.cell? ⟨y1.heap.size, 2, none⟩ = some (.slice (some ⟨G, Go', none⟩) A.fns.length A.fc)) := by have := DW.out.2.2; rw [hG] at this; exact this
      have CB : Hid (W0.cell? ⟨w.heap.size, 2, none⟩ = some (.slice (some ⟨G0, Go0, none⟩) A.fns.length c.fc)) := by have := CW.out.2.2; rw [hG0, AK.out.len] at this; exact this
      have FC : Hid (W0.cell? ⟨G, Go' + i * 4 + 3, none⟩ = some (.slice f.pa f.parts.length f.pc)) := hfat.1.four.2.2.2
      have FC0 : Hid (W0.cell? ⟨G0, Go0 + i * 4 + 3, none⟩ = some (.slice f0.pa f.parts.length f0.pc)) := by have := hfat0.1.four.2.2.2; rw [AF.out.parts.len] at this; exact this
      have FP := hideIt hfat.2.parts
      have FP0 := hideIt hfat0.2.parts
      have hplen : f.parts.length ≤ 9223372036854775807 := hfat.2.psok.len
      have hil : (i : Int) < (A.fns.length : Int) := by omega
      clear sl0 hf hf0 hfat hfat0 hG hG0
      have sl0 := cell_keep Q1.out DB.out
      go_wp2_with (fail)
      clear sl0
      go_loopw [6, 7, 8] (fun jv d7 d8 z => ∃ (j : Nat), jv = .int .i64 j ∧ j ≤ f.parts.length ∧ Hid (Q W0 z)) (fun jv _ _ _ => f.parts.length - (intOf jv).toNat)
      case atStart => exact ⟨0, rfl, by omega, Q1⟩
      case round =>
        obtain ⟨j, rfl, hj, Q2⟩ := hrel
        generalize wr = z2 at *
        have sl0 := cell_keep Q2.out DB.out
        by_cases hlt2 : j < f.parts.length
        · obtain ⟨p, hp⟩ := get_of_lt hlt2
          obtain ⟨p0, hp0⟩ := get_of_lt (l := f0.parts) (k := j) (by rw [AF.out.parts.len]; exact hlt2)
          obtain ⟨P, Po, hP, hpat⟩ := FP.out j p hp
          obtain ⟨P0, Po0, hP0, hpat0⟩ := FP0.out j p0 hp0
          have AP := AF.out.parts.each j p0 p hp0 hp
          have EP : Hid (EvP p (foldP false p0)) := EF.out.parts.each j p _ hp (by simp [foldF, hp0])
          have FC' : Hid (W0.cell? ⟨G, Go' + i * 4 + 3, none⟩ = some (.slice (some ⟨P, Po, none⟩) f.parts.length f.pc)) := by have := FC.out; rw [hP] at this; exact this
          have FC0' : Hid (W0.cell? ⟨G0, Go0 + i * 4 + 3, none⟩ = some (.slice (some ⟨P0, Po0, none⟩) f.parts.length f0.pc)) := by have := FC0.out; rw [hP0] at this; exact this
          obtain ⟨c0, c1, c2, c3, c4⟩ := (hpat.1.keep Q2.out).five
          have k2 : Hid (W0.cell? ⟨P0, Po0 + j * 5 + 2, none⟩ = some (.int .i64 p.cond)) := by have := hpat0.1.five.2.2.1; rw [AP.cond] at this; exact this
          have POK := hideIt hpat.2
          have LF := hideIt (fun k x (hx : p.ins[k]? = some x) => left_at (EP.out.ins) hx)
          have hilen : p.ins.length ≤ 9223372036854775807 := hpat.2.sok.len
          have hjl : (j : Int) < (f.parts.length : Int) := by omega
          have sl1 := cell_keep Q2.out FC'.out
          have u1 := fun ob => cell_keep ((Q.refl z2).alloc ob) (cell_keep Q2.out CB.out)
          have u2 := fun ob => cell_keep ((Q.refl z2).alloc ob) (cell_keep Q2.out FC0'.out)
          have u3 := fun ob => cell_keep ((Q.refl z2).alloc ob) (cell_keep Q2.out k2.out)
          clear hp hp0 hP hP0 hpat hpat0 AP
          go_wp2_with (fail)
          have Q3 : Hid (Q W0 (z2.alloc (.cells #[.slice p.ia p.ins.length p.ic, .bool p.e, .int .i64 p.cond, .int .i64 p.next, .int .i64 p.els] 49))) := Q2.out.alloc _
          have PX : Hid (∀ X, Q (z2.alloc (.cells #[.slice p.ia p.ins.length p.ic, .bool p.e, .int .i64 p.cond, .int .i64 p.next, .int .i64 p.els] 49)) X → X.heap[z2.heap.size]? = some (.cells #[.slice p.ia p.ins.length p.ic, .bool p.e, .int .i64 p.cond, .int .i64 p.next, .int .i64 p.els] 49 (0, 0))) := fun X h => heap_keep h (heap_new _ _)
          have w1 := u1 (.cells #[.slice p.ia p.ins.length p.ic, .bool p.e, .int .i64 p.cond, .int .i64 p.next, .int .i64 p.els] 49)
          have w2 := u2 (.cells #[.slice p.ia p.ins.length p.ic, .bool p.e, .int .i64 p.cond, .int .i64 p.next, .int .i64 p.els] 49)
          have w3 := u3 (.cells #[.slice p.ia p.ins.length p.ic, .bool p.e, .int .i64 p.cond, .int .i64 p.next, .int .i64 p.els] 49)
          have hbx := PX.out _ (Q.refl _)
          have v2 := cell_of_block hbx 2
          have nc : (p.cond != p.cond) = false := by simp
          clear sl0 sl1 c0 c1 c2 c3 c4 u1 u2 u3 hbx
          generalize z2.alloc (.cells #[.slice p.ia p.ins.length p.ic, .bool p.e, .int .i64 p.cond, .int .i64 p.next, .int .i64 p.els] 49) = z3 at *
          generalize z2.heap.size = bb at *
          by_cases hcd : 0 ≤ p.cond
          all_goals
            go_quiet (fail)
            go_wp2_with (fail)
            clear w1 w2 w3 v2
            go_loopw [8] (fun kv z => ∃ (k : Nat), kv = .int .i64 k ∧ k ≤ p.ins.length ∧ Hid (Q z3 z)) (fun kv _ => p.ins.length - (intOf kv).toNat)
            case atStart => exact ⟨0, rfl, by omega, Q.drewN (Q.refl _) _⟩
            case round =>
              obtain ⟨k, rfl, hk, Q4⟩ := hrel
              generalize wr = z4 at *
              have hbx := PX.out _ Q4.out
              have v0 := cell_of_block hbx 0
              have v1 := cell_of_block hbx 1
              have v2 := cell_of_block hbx 2
              have v3 := cell_of_block hbx 3
              have v4 := cell_of_block hbx 4
              clear hbx
              by_cases hlt3 : k < p.ins.length
              · obtain ⟨x, hx⟩ := get_of_lt hlt3
                have CLF := hideIt (left_any z4 p k x (POK.out.keep (Q3.out.trans Q4.out)) hx (LF.out k x hx))
                have hkl : (k : Int) < (p.ins.length : Int) := by omega
                clear hx
                go_wp2_with (first | (go_at_call 20; refine CLF.out.mono ?_; rintro e z5 ⟨rfl, q5⟩; have Q5 := hideIt (Q4.out.trans q5); clear q5 v0 v1 v2 v3 v4) | fail)
                go_roundw
                case rel => exact ⟨k + 1, by go_num, by omega, Q5⟩
                case measure => simp [intOf]; omega
              · have hkl : ¬ (k : Int) < (p.ins.length : Int) := by omega
                go_wp2_with (fail)
                go_roundw
                case rel => exact ⟨j + 1, by go_num, by omega, hideIt (Q3.out.trans Q4.out)⟩
                case measure => simp [intOf]; omega
        · have hjl : ¬ (j : Int) < (f.parts.length : Int) := by omega
          have sl1 := cell_keep Q2.out FC.out
          go_wp2_with (fail)
          go_roundw
          case rel => exact ⟨i + 1, by go_num, by omega, Q2⟩
          case measure => simp [intOf]; omega
    · have hil : ¬ (i : Int) < (A.fns.length : Int) := by omega
      go_wp2_with (fail)
      go_ret
      exact ⟨rfl, QF.out.trans Q1.out⟩

theorem does_walk (c : PC) (w : World) (hcok : c.ok w) : Calls Try.prog 6 #[c.v] w fun e w' => e = .returned (.bool true) ∧ Below w.heap.size w w' := by
  cases hf : fewP c with
  | false => exact does_few c w hcok hf
  | true =>
    by_cases hv : validP c = 0
    · exact does_good c w hcok hf hv
    · exact does_bad c w hcok hf hv

end Go.Proofs.Ytaomkfhbnakbjaa.Fo
