/-
  The statement FlowSame: its walk over the program; the conditions: the code lies in memory.
-/
import Derived.Test.YtphknepblchkdaaKFlCj
import Derived.Test.YtphknepblchkdaaKIrZh
import Derived.Test.YtphknepblchkdaaKIrZb
import Derived.BigRegion
namespace Go.Proofs.Ytphknepblchkdaa.Fl
open Go.RowKit
open Go.Proofs.Ytphknepblchkdaa.In (zI zP zF zI_zI zP_zP cntS cntS_fnN len_cnt)
set_option linter.unusedVariables false

/-- No code. -/
def noC : PC := ⟨[], [], [], none, 0, none, 0, none, 0⟩
theorem noC_l (lo : Nat) (W : World) : CodeM lo W noC := ⟨⟨sok_no _, lst_no, sok_no _, lst_no, sok_no _, lst_no⟩, Or.inl rfl, Or.inl rfl, Or.inl rfl, fun f hf => by simp [noC] at hf⟩
theorem ev_refl (c : PC) : EvC c c := z_evc rfl
theorem evc_join {a b c : PC} (h : EvC a c) (h' : EvC b c) : EvC a b := z_evc ((evc_z h).trans (evc_z h').symm)
noncomputable def resC (fault : Bool) (c : PC) : PC := if validP c = 0 then floC fault c else noC
theorem run_every (w : World) (c : PC) (fault : Bool) (hcok : c.ok w) (hf : fewP c = true) (hsz : codeN c ≤ 1099511627776) : Calls Try.prog 9 #[c.v, .bool fault] w fun e w' => ∃ A : PC, e = .returned (.tuple #[A.v, .int .i64 (validP c)]) ∧ EvC A (resC fault c) ∧ CodeM w.heap.size w' A ∧ Q w w' := by
  unfold resC
  by_cases hv : validP c = 0
  · rw [if_pos hv, hv]
    exact run_good w c fault hcok hv (few_fit hf hsz)
  · rw [if_neg hv]
    refine (run_bad w c fault hcok hv).mono ?_
    rintro e w' ⟨rfl, q⟩
    exact ⟨noC, rfl, ev_refl _, noC_l _ _, q⟩

/-- What holds while the first answer is written into: the second's code lies as it did. -/
structure LI (X W0 : World) (lo2 : Nat) (A2 : PC) (z : World) : Prop where
  q : Q X z
  sh : Sh W0 z
  g : CodeM lo2 z A2
  pos : 0 < lo2
theorem LI.put {X W0 z : World} {lo2 : Nat} {A2 : PC} (h : LI X W0 lo2 A2 z) {g j : Nat} {u : Int} (h1 : X.heap.size ≤ g) (h2 : g < lo2) (hc : z.cell? ⟨g, j, none⟩ = some (.int .i64 u)) (v : Int) : LI X W0 lo2 A2 (z.setCell ⟨g, j, none⟩ (.int .i64 v)) :=
  ⟨h.q.set h1 _, h.sh.set hc v, h.g.low (S := fun b => b = g) ⟨rfl, rfl, rfl, by simp, fun b _ hn => Below.heap_setCell _ _ _ _ hn⟩ (fun b hb e => by omega), h.pos⟩
theorem LI.drew {X W0 z : World} {lo2 : Nat} {A2 : PC} (h : LI X W0 lo2 A2 z) : LI X W0 lo2 A2 z.drew := ⟨h.q.drew, h.sh.drew, h.g.keep (Q.refl z).drew, h.pos⟩
theorem LI.drewN {X W0 z : World} {lo2 : Nat} {A2 : PC} (h : LI X W0 lo2 A2 z) (m : Nat) : LI X W0 lo2 A2 (z.drewN m) := ⟨h.q.drewN m, h.sh.drewN m, h.g.keep ((Q.refl z).drewN m), h.pos⟩
/-- A number of one's own, in a list that was made early: where it lies, and that it can be written. -/
theorem own_num {y W0 z : World} {g o : Nat} {cs : Array Value} {t : TypeId} {u : Int} (hq : Q y W0) (sh : Sh W0 z) (hc : y.cell? ⟨g, o, none⟩ = some (.int .i64 u)) (hb : y.heap[g]? = some (.cells cs t (0, 0))) : ∃ v, z.cell? ⟨g, o, none⟩ = some (.int .i64 v) ∧ z.frozen? ⟨g, o, none⟩ = false := by
  have h0 := cell_keep hq hc
  obtain ⟨v, hv⟩ := sh.int h0
  exact ⟨v, hv, (sh.froz _ _ h0).trans (free_of_block (heap_keep hq hb) o)⟩

set_option maxRecDepth 100000 in
set_option maxHeartbeats 4000000 in
theorem same_few (c : PC) (fault : Bool) (w : World) (hcok : c.ok w) (hf : fewP c = false) : Calls Try.prog 4 #[c.v, .bool fault] w fun e w' => e = .returned (.bool true) ∧ Below w.heap.size w w' := by
  have HB : Hid (∀ X, Q (bxC w c) X → Cds X w.heap.size c) := fun X h => (cds_box w c).keep h
  have qB := hideIt (bxC_q w c)
  have CA : Hid (∀ X, Calls Try.prog 7 #[] X fun e w' => e = .returned (.bool true) ∧ Q X w') := fun X => awake_any X
  have CF : Hid (∀ X, Q (bxC w c) X → Calls Try.prog 8 #[c.v] X fun e w' => e = .returned (.bool false) ∧ Q X w') := fun X h => by have := few_any X c (hcok.keep ((bxC_q w c).trans h)); rw [hf] at this; exact this
  generalize hBB : bxC w c = B at *
  have HBB := hideIt hBB
  clear hcok hBB hf
  go_enter Try.func4, Try.ntmps4
  go_wp2_with (fail)
  rw [show w.alloc (.cells #[.slice c.ga c.gl.length c.gc, .slice c.na c.ini.length c.nc, .slice c.fa c.fns.length c.fc] 26) = B from HBB.out]
  go_wp2_with (first
    | (go_at_call 7; first
        | (refine Calls.mono (CA.out y) ?_; rintro e z ⟨rfl, q1⟩; have HZ := hideIt (HY.out.trans q1); clear q1)
        | (refine Calls.mono (CA.out _) ?_; rintro e x ⟨rfl, q1⟩; have HX := hideIt q1; obtain ⟨s1, s2, s3⟩ := HB.out x q1; clear q1))
    | (go_at_call 8; refine Calls.mono (CF.out _ HX.out) ?_; rintro e y ⟨rfl, q1⟩; have HY := hideIt (HX.out.trans q1); clear q1 s1 s2 s3)
    | fail)
  go_ret
  exact ⟨rfl, qB.out.trans HZ.out⟩

set_option maxRecDepth 100000 in
set_option maxHeartbeats 2000000 in
theorem same_all (c : PC) (fault : Bool) (w : World) (hcok : c.ok w) (hf : fewP c = true) (hsz : codeN c ≤ 1099511627776) : Calls Try.prog 4 #[c.v, .bool fault] w fun e w' => e = .returned (.bool true) ∧ Below w.heap.size w w' := by
  have HB : Hid (∀ X, Q (bxC w c) X → Cds X w.heap.size c) := fun X h => (cds_box w c).keep h
  have qB := hideIt (bxC_q w c)
  have CA : Hid (∀ X, Calls Try.prog 7 #[] X fun e w' => e = .returned (.bool true) ∧ Q X w') := fun X => awake_any X
  have CF : Hid (∀ X, Q (bxC w c) X → Calls Try.prog 8 #[c.v] X fun e w' => e = .returned (.bool true) ∧ Q X w') := fun X h => by have := few_any X c (hcok.keep ((bxC_q w c).trans h)); rw [hf] at this; exact this
  have CR : Hid (∀ X, Q (bxC w c) X → Calls Try.prog 9 #[c.v, .bool fault] X fun e w' => ∃ A : PC, e = .returned (.tuple #[A.v, .int .i64 (validP c)]) ∧ EvC A (resC fault c) ∧ CodeM X.heap.size w' A ∧ Q X w') := fun X h => run_every X c fault (hcok.keep ((bxC_q w c).trans h)) hf hsz
  have CV : Hid (∀ X, Q (bxC w c) X → Calls Try.prog 10 #[c.v] X fun e w' => e = .returned (.int .i64 (validP c)) ∧ Q X w') := fun X h => rvalid_any X c (hcok.keep ((bxC_q w c).trans h))
  have CS := hideIt (fun X a b h1 h2 h3 => same_any X a b h1 h2 h3)
  generalize validP c = v at *
  generalize resC fault c = rc at *
  have e1 : (v != v) = false := by simp
  generalize hBB : bxC w c = B at *
  have HBB := hideIt hBB
  clear hcok hBB hf
  go_enter Try.func4, Try.ntmps4
  go_wp2_with (fail)
  rw [show w.alloc (.cells #[.slice c.ga c.gl.length c.gc, .slice c.na c.ini.length c.nc, .slice c.fa c.fns.length c.fc] 26) = B from HBB.out]
  go_wp2_with (first
    | (go_at_call 7; refine Calls.mono (CA.out _) ?_; rintro e x1 ⟨rfl, q1⟩; have HX := hideIt q1; obtain ⟨s1, s2, s3⟩ := HB.out x1 q1; clear q1)
    | (go_at_call 8; refine Calls.mono (CF.out _ HX.out) ?_; rintro e x2 ⟨rfl, q1⟩; have H2 := hideIt (HX.out.trans q1); clear q1 s1 s2 s3; obtain ⟨s1, s2, s3⟩ := HB.out x2 H2.out)
    | (go_at_call 9; first
        | (have hh := HY1; clear hh; refine Calls.mono (CR.out _ (HY1.out.alloc _)) ?_; rintro e y2 ⟨A2, rfl, a1, a2, q1⟩; have EV2 := hideIt a1; have L2 := hideIt a2; have Q12 := hideIt (((Q.refl y1).alloc _).trans q1); have HY2 := hideIt ((HY1.out.alloc _).trans q1); have DD2 := hideIt ((cds_box y1 A).keep q1); clear q1 a1 a2 r1 r2 r3; obtain ⟨s1, s2, s3⟩ := HB.out y2 HY2.out; have r1 := fun ob => cell_keep ((Q.refl y2).alloc ob) s1; have r2 := fun ob => cell_keep ((Q.refl y2).alloc ob) s2; have r3 := fun ob => cell_keep ((Q.refl y2).alloc ob) s3; clear s1 s2 s3)
        | (refine Calls.mono (CR.out x2 H2.out) ?_; rintro e y1 ⟨A, rfl, a1, a2, q1⟩; have EV1 := hideIt a1; have L1 := hideIt a2; have Q21 := hideIt q1; have HY1 := hideIt (H2.out.trans q1); clear q1 a1 a2 s1 s2 s3; obtain ⟨s1, s2, s3⟩ := HB.out y1 HY1.out; have r1 := fun ob => cell_keep ((Q.refl y1).alloc ob) s1; have r2 := fun ob => cell_keep ((Q.refl y1).alloc ob) s2; have r3 := fun ob => cell_keep ((Q.refl y1).alloc ob) s3; clear s1 s2 s3))
    | (go_at_call 10; refine Calls.mono (CV.out _ (HY2.out.alloc _)) ?_; rintro e v1 ⟨rfl, q1⟩; have Q2v := hideIt (((Q.refl y2).alloc _).trans q1); have DG := hideIt ((cds_box y2 A2).keep q1); clear q1 r1 r2 r3; have DV := hideIt (DD2.out.keep Q2v.out); obtain ⟨d1, d2, d3⟩ := DV.out; obtain ⟨g1, g2, g3⟩ := DG.out)
    | (go_at_call 13; refine Calls.mono (CS.out v1 A A2 (L1.out.ok.keep (Q12.out.trans Q2v.out)) (L2.out.ok.keep Q2v.out) (evc_join EV1.out EV2.out)) ?_; rintro e W0 ⟨rfl, q1⟩; have Qv0 := hideIt q1; clear q1 d1 d2 d3 g1 g2 g3)
    | fail)
  have QyW : Hid (Q y1 W0) := Q12.out.trans (Q2v.out.trans Qv0.out)
  have L0 : Hid (LI x2 W0 (y1.heap.size + 1) A2 W0) := by
    have h := L2.out
    rw [show ((y1.alloc (.cells #[.slice A.ga A.gl.length A.gc, .slice A.na A.ini.length A.nc, .slice A.fa A.fns.length A.fc] 26)).heap.size) = y1.heap.size + 1 by simp] at h
    exact ⟨Q21.out.trans QyW.out, Sh.refl _, h.keep (Q2v.out.trans Qv0.out), by omega⟩
  have DB : Hid (W0.cell? ⟨y1.heap.size, 2, none⟩ = some (.slice A.fa A.fns.length A.fc)) := (DV.out.keep Qv0.out).2.2
  have GB : Hid (Cds W0 y2.heap.size A2) := DG.out.keep Qv0.out
  have hflen : A.fns.length ≤ 9223372036854775807 := L1.out.ok.fsok.len
  have HBz : Hid (∀ z, Q x2 z → Cds z w.heap.size c) := fun z hz => HB.out z (H2.out.trans hz)
  have CRz : Hid (∀ z, Q x2 z → Calls Try.prog 9 #[c.v, .bool fault] z fun e w' => ∃ A : PC, e = .returned (.tuple #[A.v, .int .i64 v]) ∧ EvC A rc ∧ CodeM z.heap.size w' A ∧ Q z w') := fun z hz => CR.out z (H2.out.trans hz)
  have QF : Hid (Q w x2) := qB.out.trans H2.out
  clear DV DG DD2 Q12 Q2v Qv0 Q21 L2 HY1 HY2 HX CA CF CV CR HB HBB qB H2 EV1 e1
  go_loopw [9, 10, 11] (fun iv d10 d11 z => ∃ (i : Nat), iv = .int .i64 i ∧ i ≤ A.fns.length ∧ Hid (LI x2 W0 (y1.heap.size + 1) A2 z)) (fun iv _ _ _ => A.fns.length - (intOf iv).toNat)
  case atStart => exact ⟨0, rfl, by omega, L0⟩
  case round =>
    obtain ⟨i, rfl, hi, LI1⟩ := hrel
    generalize wr = z1 at *
    clear L0
    by_cases hlt1 : i < A.fns.length
    · obtain ⟨f, hf⟩ := get_of_lt hlt1
      obtain ⟨G, gcs, gt, hG, hGlo, hfat, hGh⟩ := own_at L1.out.ok.fns L1.out.fb hf
      have DB' : Hid (W0.cell? ⟨y1.heap.size, 2, none⟩ = some (.slice (some ⟨G, 0, none⟩) A.fns.length A.fc)) := by have := DB.out; rw [hG] at this; exact this
      have PL := hideIt (L1.out.fn f (List.mem_of_getElem? hf))
      have FC : Hid (W0.cell? ⟨G, i * 4 + 3, none⟩ = some (.slice f.pa f.parts.length f.pc)) := cell_keep QyW.out (hfat.1.cell 3 _ rfl)
      have hplen : f.parts.length ≤ 9223372036854775807 := hfat.2.psok.len
      have hil : (i : Int) < (A.fns.length : Int) := by omega
      have sl0 := LI1.out.sh.slice DB'.out
      clear hf hfat hGh hG hGlo
      go_wp2_with (fail)
      clear sl0
      go_loopw [10, 11] (fun jv d11 z => ∃ (j : Nat), jv = .int .i64 j ∧ j ≤ f.parts.length ∧ Hid (LI x2 W0 (y1.heap.size + 1) A2 z)) (fun jv _ _ => f.parts.length - (intOf jv).toNat)
      case atStart => exact ⟨0, rfl, by omega, LI1⟩
      case round =>
        obtain ⟨j, rfl, hj, LI2⟩ := hrel
        generalize wr = z2 at *
        have sl0 := LI2.out.sh.slice DB'.out
        by_cases hlt2 : j < f.parts.length
        · obtain ⟨p, hp⟩ := get_of_lt hlt2
          obtain ⟨P, pcs, pt, hP, hPlo, hpat, hPh⟩ := own_at PL.out.ok.parts PL.out.pb hp
          have FC' : Hid (W0.cell? ⟨G, i * 4 + 3, none⟩ = some (.slice (some ⟨P, 0, none⟩) f.parts.length f.pc)) := by have := FC.out; rw [hP] at this; exact this
          have IL := hideIt (PL.out.ps p (List.mem_of_getElem? hp))
          have PC0 : Hid (W0.cell? ⟨P, j * 5, none⟩ = some (.slice p.ia p.ins.length p.ic)) := cell_keep QyW.out (hpat.1.cell 0 _ rfl)
          obtain ⟨cv, ci, cf⟩ := own_num QyW.out LI2.out.sh (hpat.1.cell 2 _ rfl) hPh
          have hilen : p.ins.length ≤ 9223372036854775807 := hpat.2.sok.len
          have hjl : (j : Int) < (f.parts.length : Int) := by omega
          have PUT2 := hideIt (fun u => LI2.out.put hPlo (by have := (Array.getElem?_eq_some_iff.1 hPh).1; omega) ci u)
          have sl1 := LI2.out.sh.slice FC'.out
          clear hp hpat hPh hP hPlo
          go_wp2_with (fail)
          go_region
          go_wp2_with (fail)
          have LI3 : Hid (LI x2 W0 (y1.heap.size + 1) A2 (z2.setCell ⟨P, j * 5 + 2, none⟩ (.int .i64 (bits .xor .i64 cv 1))).drew) := (PUT2.out _).drew
          generalize (z2.setCell ⟨P, j * 5 + 2, none⟩ (.int .i64 (bits .xor .i64 cv 1))).drew = z3 at LI3 ⊢
          clear sl0 sl1 ci cf PUT2
          go_loopw [11] (fun kv z => ∃ (k : Nat), kv = .int .i64 k ∧ k ≤ p.ins.length ∧ Hid (LI x2 W0 (y1.heap.size + 1) A2 z)) (fun kv _ => p.ins.length - (intOf kv).toNat)
          case atStart => exact ⟨0, rfl, by omega, LI3⟩
          case round =>
            obtain ⟨k, rfl, hk, LI4⟩ := hrel
            generalize wr = z4 at *
            have sl0 := LI4.out.sh.slice DB'.out
            have sl1 := LI4.out.sh.slice FC'.out
            by_cases hlt3 : k < p.ins.length
            · obtain ⟨x, hx⟩ := get_of_lt hlt3
              obtain ⟨I, ics, it, hI, hIlo, hiat, hIh⟩ := own_at IL.out.ok.ins IL.out.nb hx
              have PC0' : Hid (W0.cell? ⟨P, j * 5, none⟩ = some (.slice (some ⟨I, 0, none⟩) p.ins.length p.ic)) := by have := PC0.out; rw [hI] at this; exact this
              obtain ⟨cv4, ci, cf⟩ := own_num QyW.out LI4.out.sh (hiat.1.cell 2 _ rfl) hIh
              have hkl : (k : Int) < (p.ins.length : Int) := by omega
              have PUT4 := hideIt (fun u => LI4.out.put hIlo (by have := (Array.getElem?_eq_some_iff.1 hIh).1; omega) ci u)
              have sl2 := LI4.out.sh.slice PC0'.out
              clear hx hiat hIh hI hIlo
              go_wp2_with (fail)
              go_region
              go_wp2_with (fail)
              go_roundw
              case rel => exact ⟨k + 1, by go_num, by omega, hideIt (PUT4.out _).drew⟩
              case measure => simp [intOf]; omega
            · have hkl : ¬ (k : Int) < (p.ins.length : Int) := by omega
              have sl2 := LI4.out.sh.slice PC0.out
              go_wp2_with (fail)
              go_roundw
              case rel => exact ⟨j + 1, by go_num, by omega, LI4⟩
              case measure => simp [intOf]; omega
        · have hjl : ¬ (j : Int) < (f.parts.length : Int) := by omega
          have sl1 := LI2.out.sh.slice FC.out
          go_wp2_with (fail)
          go_roundw
          case rel => exact ⟨i + 1, by go_num, by omega, LI2⟩
          case measure => simp [intOf]; omega
    · have hil : ¬ (i : Int) < (A.fns.length : Int) := by omega
      have sl0 := LI1.out.sh.slice DB.out
      obtain ⟨s1, s2, s3⟩ := HBz.out z1 LI1.out.q
      go_wp2_with (first
        | (go_at_call 9; refine Calls.mono (CRz.out z1 LI1.out.q) ?_; rintro e y3 ⟨A3, rfl, a1, a2, q1⟩; have EV3 := hideIt a1; have L3 := hideIt a2; have Q3 := hideIt q1; clear a1 a2 q1 s1 s2 s3 sl0; have t1 := fun ob => cell_keep ((Q.refl y3).alloc ob) (cell_keep Q3.out (LI1.out.sh.slice GB.out.1)); have t2 := fun ob => cell_keep ((Q.refl y3).alloc ob) (cell_keep Q3.out (LI1.out.sh.slice GB.out.2.1)); have t3 := fun ob => cell_keep ((Q.refl y3).alloc ob) (cell_keep Q3.out (LI1.out.sh.slice GB.out.2.2)))
        | (go_at_call 13; refine Calls.mono (CS.out _ A2 A3 (LI1.out.g.ok.keep (Q3.out.alloc _)) (L3.out.ok.keep ((Q.refl _).alloc _)) (evc_join EV2.out EV3.out)) ?_; rintro e y4 ⟨rfl, q1⟩; have Q4 := hideIt ((Q3.out.alloc _).trans q1); clear q1 t1 t2 t3)
        | fail)
      go_ret
      exact ⟨rfl, QF.out.trans (LI1.out.q.trans Q4.out)⟩

theorem same_walk (c : PC) (fault : Bool) (w : World) (hcok : c.ok w) (hsz : codeN c ≤ 1099511627776) : Calls Try.prog 4 #[c.v, .bool fault] w fun e w' => e = .returned (.bool true) ∧ Below w.heap.size w w' := by
  cases hf : fewP c with
  | false => exact same_few c fault w hcok hf
  | true => exact same_all c fault w hcok hf hsz

end Go.Proofs.Ytphknepblchkdaa.Fl
