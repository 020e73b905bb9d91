/-
  How many calls a function has, and whether code is of a size that is looked at (calls, few of the statements of layer 22): contracts over the program; the conditions: it lies in memory.
  The document's example is done (awake of the statements of layer 22): a contract over the program; no conditions.
-/
import Derived.Test.YtnaflfpkkbfnfaaKInYa
namespace Go.Proofs.Ytnaflfpkkbfnfaa.In
open Go.RowKit
set_option linter.unusedVariables false

abbrev PF.a (f : PF) : Value := .agg #[.int .i64 f.params, .int .i64 f.regs, .slice f.sa f.slots.length f.sc, .slice f.pa f.parts.length f.pc]
set_option maxRecDepth 100000 in
set_option maxHeartbeats 4000000 in
theorem calls22_any (w : World) (f : PF) (hok : f.ok w) (hs : cntS f.parts ≤ 2000000000000) : Calls Try.prog 10 #[.agg #[.int .i64 f.params, .int .i64 f.regs, .slice f.sa f.slots.length f.sc, .slice f.pa f.parts.length f.pc]] w fun e w' => e = .returned (.int .i64 (callsP f)) ∧ Q w w' := by
  obtain ⟨B, hB⟩ : ∃ B, w.alloc (.cells #[.int .i64 f.params, .int .i64 f.regs, .slice f.sa f.slots.length f.sc, .slice f.pa f.parts.length f.pc] 35) = B := ⟨_, rfl⟩
  have qB : Q w B := by rw [← hB]; exact (Q.refl w).alloc _
  have bx : B.heap[w.heap.size]? = some (.cells #[.int .i64 f.params, .int .i64 f.regs, .slice f.sa f.slots.length f.sc, .slice f.pa f.parts.length f.pc] 35 (0, 0)) := by rw [← hB]; exact heap_alloc_new w _
  have c3 : B.cell? ⟨w.heap.size, 3, none⟩ = some (.slice f.pa f.parts.length f.pc) := (cell_of_block bx 3).trans rfl
  have hl := hok.psok.len
  have HP := hideIt (fun (y : World) (hy : Q B y) => ((hok.keep qB).keep hy).parts)
  have HC := hideIt (fun (y : World) (hy : Q B y) => cell_keep hy c3)
  have HA := hideIt (cTo_all f)
  have HQ := hideIt qB
  have HBB := hideIt hB
  clear hok qB bx hB c3
  go_enter Try.func10, Try.ntmps10
  go_wp2_with (fail)
  rw [HBB.out]
  go_loopw [3, 4] (fun n i wr => ∃ (k : Nat), n = .int .i64 (cTo f.parts k : Int) ∧ i = .int .i64 k ∧ k ≤ f.parts.length ∧ Hid (Q B wr)) (fun _ i _ => f.parts.length - (intOf i).toNat)
  case atStart => exact ⟨0, rfl, rfl, Nat.zero_le _, hideIt (Q.refl B)⟩
  case round =>
    obtain ⟨k, rfl, rfl, hk, HQ1⟩ := hrel
    generalize wr = y at *
    have c3 := HC.out y HQ1.out
    by_cases hlt : k < f.parts.length
    · obtain ⟨p, hp⟩ := get_of_lt hlt
      obtain ⟨pb, po, ea, hat, hpo⟩ := HP.out y HQ1.out k p hp
      obtain ⟨p0, -, -, -, -⟩ := hat.five
      have hkl : (k : Int) < (f.parts.length : Int) := by omega
      have hc2 := cTo_le2 hp
      have HS := hideIt (cTo_succ hp)
      have hil := hpo.sok.len
      have c3' : y.cell? ⟨w.heap.size, 3, none⟩ = some (.slice (some ⟨pb, po, none⟩) f.parts.length f.pc) := by rw [← ea]; exact c3
      have HI := hideIt (fun (z : World) (hz : Q y z) => And.intro (hpo.keep hz).ins (And.intro (cell_keep hz p0) (cell_keep hz c3')))
      clear c3 ea hat hpo hp
      generalize hcn : cTo f.parts k = cn at *
      go_wp2_with (fail)
      go_loopw [3, 5] (fun n i wr => ∃ (j : Nat), n = .int .i64 ((cn + callsL (p.ins.take j) : Nat) : Int) ∧ i = .int .i64 j ∧ j ≤ p.ins.length ∧ Hid (Q y wr)) (fun _ i _ => p.ins.length - (intOf i).toNat)
      case atStart => exact ⟨0, by simp [callsL], rfl, Nat.zero_le _, hideIt (Q.refl y)⟩
      case round =>
        obtain ⟨j, rfl, rfl, hj, HQ2⟩ := hrel
        clear c3' p0
        obtain ⟨hin, p0, c3'⟩ := HI.out _ HQ2.out
        generalize wr = y2 at *
        by_cases hlt2 : j < p.ins.length
        · obtain ⟨x, hxj⟩ := get_of_lt hlt2
          obtain ⟨ib, io, ei, hat2, hxo⟩ := hin j x hxj
          obtain ⟨k0, -, -, -, -, -, -⟩ := hat2.seven
          have hjl : (j : Int) < (p.ins.length : Int) := by omega
          have HS2 := hideIt (callsL_succ hxj)
          have hle : callsL (p.ins.take j) ≤ j := Nat.le_trans (callsL_le _) (by rw [List.length_take]; omega)
          have p0' : y2.cell? ⟨pb, po + k * 5, none⟩ = some (.slice (some ⟨ib, io, none⟩) p.ins.length p.ic) := by rw [← ei]; exact p0
          clear p0 hin ei hat2 hxo hxj
          generalize callsL (p.ins.take j) = cj at *
          by_cases h32 : x.op = 32
          · have e1 : (x.op == 32) = true := by simpa using h32
            have e2 := HS2.out
            rw [if_pos h32] at e2
            have E2 := hideIt e2
            clear e2 h32
            go_wp2_with (fail)
            go_roundw
            case rel => exact ⟨j + 1, by rw [E2.out]; go_num, by go_num, by omega, HQ2⟩
            case measure => simp [intOf]; omega
          · have e1 : (x.op == 32) = false := by simpa using h32
            have e2 := HS2.out
            rw [if_neg h32] at e2
            have E2 := hideIt e2
            clear e2 h32
            go_wp2_with (fail)
            go_roundw
            case rel => exact ⟨j + 1, by rw [E2.out]; rfl, by go_num, by omega, HQ2⟩
            case measure => simp [intOf]; omega
        · have ej : j = p.ins.length := by omega
          subst ej
          have hlt3 : ¬ (p.ins.length : Int) < (p.ins.length : Int) := by omega
          go_wp2_with (fail)
          go_roundw
          case rel =>
            refine ⟨k + 1, ?_, by go_num, by omega, hideIt (HQ1.out.trans HQ2.out)⟩
            have := HS.out
            rw [List.take_length, this]
          case measure => simp [intOf]; omega
    · have ek : k = f.parts.length := by omega
      subst ek
      have hlt3 : ¬ (f.parts.length : Int) < (f.parts.length : Int) := by omega
      go_wp2_with (fail)
      go_ret
      exact ⟨by rw [HA.out]; rfl, HQ.out.trans HQ1.out⟩
/-- Is code of a size that is looked at? -/
def fewP (c : PC) : Bool := c.fns.all (fun f => decide (f.regs ≤ 1000)) && (decide (IntKind.i64.wrap (codeN c) ≤ 400) && decide ((c.fns.length : Int) ≤ 20))
set_option maxRecDepth 100000 in
set_option maxHeartbeats 1000000 in
theorem few_any (w : World) (c : PC) (hcok : c.ok w) : Calls Try.prog 7 #[c.v] w fun e w' => e = .returned (.bool (fewP c)) ∧ Q w w' := by
  have FN : Hid (∀ (k : Nat) (f : PF), c.fns[k]? = some f → 1000 < f.regs → fewP c = false) := fun k f hk hr => by
    unfold fewP
    have : c.fns.all (fun f => decide (f.regs ≤ 1000)) = false := by
      rw [List.all_eq_false]
      exact ⟨f, List.mem_of_getElem? hk, by simp; omega⟩
    rw [this]; rfl
  have FY : Hid ((∀ (j : Nat) (g : PF), c.fns[j]? = some g → g.regs ≤ 1000) → fewP c = (decide (IntKind.i64.wrap (codeN c) ≤ 400) && decide ((c.fns.length : Int) ≤ 20))) := fun h => by
    unfold fewP
    have : c.fns.all (fun f => decide (f.regs ≤ 1000)) = true := by
      rw [List.all_eq_true]
      intro x hx
      obtain ⟨j, hj, e⟩ := List.mem_iff_getElem.1 hx
      exact decide_eq_true (h j x (by rw [List.getElem?_eq_getElem hj, e]))
    rw [this]; rfl
  have HC := hideIt (fun X (h : Q (bxC w c) X) => bxC_at h)
  have HF := hideIt (fun X (h : Q (bxC w c) X) => Fns.keep ((bxC_q w c).trans h) hcok.fns)
  have CC := hideIt (rcount_any (bxC w c) c (hcok.keep (bxC_q w c)))
  have HQ := hideIt (bxC_q w c)
  have hlen : c.fns.length ≤ 9223372036854775807 := hcok.fsok.len
  generalize IntKind.i64.wrap (codeN c) = n at *
  generalize fewP c = fp at *
  clear hcok
  go_enter Try.func7, Try.ntmps7
  go_wp2_with (fail)
  go_loopw [3] (fun i wr => ∃ (k : Nat), i = .int .i64 k ∧ k ≤ c.fns.length ∧ Hid (∀ (j : Nat) (g : PF), j < k → c.fns[j]? = some g → g.regs ≤ 1000) ∧ wr = bxC w c) (fun i _ => c.fns.length - (intOf i).toNat)
  case atStart => exact ⟨0, rfl, by omega, fun j g h => by omega, rfl⟩
  case round =>
    obtain ⟨k, rfl, hk, HA, hq⟩ := hrel
    obtain ⟨c0, c1, c2⟩ := (HC.out wr (by rw [hq]; exact Q.refl _)).three
    by_cases hlt : k < c.fns.length
    · obtain ⟨f, hf⟩ := get_of_lt hlt
      obtain ⟨fb, fo, efa, hfat⟩ := (HF.out wr (by rw [hq]; exact Q.refl _)) k f hf
      have hkl : (k : Int) < (c.fns.length : Int) := by omega
      rw [efa] at c2
      obtain ⟨f0, f1, f2, f3⟩ := hfat.1.four
      have HW := hideIt hq
      have FF := hideIt hf
      clear hf efa hfat hq
      by_cases h3 : 1000 < f.regs
      · go_wp2_with (fail)
        go_ret
        exact ⟨by rw [FN.out k f FF.out h3]; rfl, by rw [HW.out]; exact HQ.out⟩
      · go_wp2_with (fail)
        go_roundw
        case rel => exact ⟨k + 1, by go_num, by omega, fun j g hj hg => by
          by_cases e : j = k
          · subst e; rw [FF.out] at hg; injection hg with hg; subst hg; omega
          · exact HA.out j g (by omega) hg, HW.out⟩
        case measure => simp [intOf]; omega
    · have hkl : ¬ (k : Int) < (c.fns.length : Int) := by omega
      subst hq
      have FYY := FY.out fun j g hg => HA.out j g (by have := (List.getElem?_eq_some_iff.1 hg).1; omega) hg
      cases h4 : decide (n ≤ 400) with
      | true =>
        rw [h4] at FYY
        have FYH := hideIt FYY
        clear FYY
        go_wp2_with (first | (go_at_call 15; refine CC.out.mono ?_; rintro e x ⟨rfl, q1⟩; have HX := hideIt (HQ.out.trans q1); obtain ⟨d0, d1, d2⟩ := (HC.out x q1).three; clear q1) | fail)
        go_ret
        exact ⟨by rw [FYH.out]; rfl, HX.out⟩
      | false =>
        rw [h4] at FYY
        have FYH := hideIt FYY
        clear FYY
        go_wp2_with (first | (go_at_call 15; refine CC.out.mono ?_; rintro e x ⟨rfl, q1⟩; have HX := hideIt (HQ.out.trans q1); clear q1) | fail)
        go_ret
        exact ⟨by rw [FYH.out]; rfl, HX.out⟩

theorem few_fit {c : PC} (hf : fewP c = true) (hsz : codeN c ≤ 1099511627776) : c.fns.length ≤ 20 ∧ codeN c ≤ 400 := by
  unfold fewP at hf
  simp only [Bool.and_eq_true, decide_eq_true_eq] at hf
  obtain ⟨-, h1, h2⟩ := hf
  have h0 : 0 ≤ codeN c := by
    unfold codeN
    generalize c.fns = m
    induction m with
    | nil => simp
    | cons g m ih => rw [List.map_cons, List.sum_cons, cntS_fnN]; omega
  rw [IntKind.wrap_i64] at h1
  omega
end Go.Proofs.Ytnaflfpkkbfnfaa.In

namespace Go.Proofs.Ytnaflfpkkbfnfaa.In
open Go.RowKit
set_option linter.unusedVariables false

theorem codeN_e (x y : Int) (b : Nat) : codeN (eC x y b) = 7 := rfl
/-- What the program makes of the example. -/
structure ER (fault : Bool) (x y : Int) (A : PC) (w' : World) : Prop where
  ev : EvC A (oC fault x y)
  ok : A.ok w'
theorem ER.keep {fault : Bool} {x y : Int} {A : PC} {w w' : World} (h : ER fault x y A w) (q : Q w w') : ER fault x y A w' := ⟨h.ev, h.ok.keep q⟩
theorem erun (w : World) (fault : Bool) (x y : Int) (b : Nat) (hok : (eC x y b).ok w) : Calls Try.prog 8 #[(eC x y b).v, .bool fault] w fun e w' => ∃ A : PC, e = .returned (.tuple #[A.v, .int .i64 0]) ∧ ER fault x y A w' ∧ Q w w' := by
  refine (run_good w _ fault hok (eC_valid x y b) (by show 2 ≤ 20; omega) (by rw [codeN_e]; omega)).mono ?_
  rintro e w' ⟨A, rfl, h1, h2, h3⟩
  rw [e_out] at h1
  exact ⟨A, rfl, ⟨h1, h2.ok⟩, h3⟩
theorem ER.len {fault : Bool} {x y : Int} {A : PC} {w' : World} (h : ER fault x y A w') : A.fns.length = 2 := h.ev.fns.len
theorem ER.g {fault : Bool} {x y : Int} {A : PC} {w' : World} (h : ER fault x y A w') : ∃ g fb fo, A.fns[1]? = some g ∧ A.fa = some ⟨fb, fo, none⟩ ∧ At w' fb (fo + 4) g.cells ∧ g.ok w' ∧ callsP g = 0 ∧ cntS g.parts ≤ 100 := by
  obtain ⟨g, hg⟩ := get_of_lt (l := A.fns) (k := 1) (by rw [h.len]; omega)
  obtain ⟨fb, fo, e, hat, hok⟩ := h.ok.fns 1 g hg
  have hz := evf_z (h.ev.fns.each 1 g _ hg rfl)
  refine ⟨g, fb, fo, hg, e, hat, hok, ?_, ?_⟩
  · rw [← callsP_zF, hz]; cases fault <;> rfl
  · have := fnN_zF g
    rw [hz] at this
    have h2 : fnN (zF ⟨0, 6, [], [⟨yo fault x y, true, 2, 0, 0, none, 0⟩], none, 0, none, 0⟩) = 8 := by cases fault <;> rfl
    rw [h2, cntS_fnN] at this
    omega
theorem ER.dos {fault : Bool} {x y : Int} {A : PC} {w' : World} (h : ER fault x y A w') (hx : -128 ≤ x ∧ x ≤ 127) (hy : -128 ≤ y ∧ y ≤ 127) : Calls Try.prog 14 #[A.v, .int .i64 2000] w' fun e v => ∃ ta tc, e = .returned (.tuple #[.agg #[.bool true, .int .i64 (if fault then y - x else x - y), .int .u8 0, .bool false, .int .i64 8, .slice ta 1 tc], .int .i64 0]) ∧ Dn.Trc v ta [if fault then y - x else x - y] ∧ Q w' v := by
  have hv : validP A = 0 := by
    have h1 := o_valid fault x y
    have hz : A.fns.map zF = (oC fault x y).fns.map zF := evl_map (g := zF) (fun _ _ => evf_z) h.ev.fns
    have hc : codeN A = codeN (oC fault x y) := codeN_z h.ev
    unfold validP at h1 ⊢
    rw [hc]
    have hr : rightP A = rightP (oC fault x y) := by
      unfold rightP hdP
      have hl : lastP A = lastP (oC fault x y) := by
        unfold lastP
        have e1 : A.fns.length = (oC fault x y).fns.length := h.ev.fns.len
        rw [e1]
        obtain ⟨g, hg⟩ := get_of_lt (l := A.fns) (k := 1) (by rw [h.len]; omega)
        have e2 := (h.ev.fns.each 1 g _ hg rfl).params
        show (match A.fns[1]? with | some f => f.params == 0 | none => false) = _
        rw [hg]
        show (g.params == 0) = _
        rw [e2]
        rfl
      have hf : fnsP A 0 A.fns = fnsP (oC fault x y) 0 (oC fault x y).fns := by
        have : ∀ (l m : List PF) (k : Nat), l.map zF = m.map zF → fnsP A k l = fnsP (oC fault x y) k m := by
          intro l
          induction l with
          | nil => intro m k h; cases m with
            | nil => rfl
            | cons a m => cases h
          | cons a l ih => intro m k h; cases m with
            | nil => cases h
            | cons b m =>
              rw [List.map_cons, List.map_cons] at h
              injection h with h1 h2
              unfold fnsP
              rw [fnP_z (c := oC fault x y) (d := A) ‹ER fault x y A w'›.ev.gl hz k h1, ih m (k + 1) h2]
        exact this _ _ 0 hz
      rw [hl, hf, h.ev.gl, h.ev.ini]
    rw [hr]
    exact h1
  refine (Dn.do_good w' A h.ok 2000 (by omega) hv).mono ?_
  rintro e v' ⟨v, rfl, ta, tc, rfl, ht, hl, hq⟩
  rw [runP_ev h.ev, o_run fault hx hy] at ht ⊢
  exact ⟨ta, tc, rfl, ht, hq⟩

theorem ER.form {fault : Bool} {x y : Int} {A : PC} {w' : World} (h : ER fault x y A w') : ∃ f g ga gc na nc fb fo fc, A = ⟨[], [], [f, g], ga, gc, na, nc, some ⟨fb, fo, none⟩, fc⟩ ∧ At w' fb (fo + 4) g.cells ∧ g.ok w' ∧ callsP g = 0 ∧ cntS g.parts ≤ 100 := by
  obtain ⟨g, fb, fo, h1, h2, h3, h4, h5, h6⟩ := h.g
  have h7 := h.len
  have h8 := h.ev.gl
  have h9 := h.ev.ini
  rcases A with ⟨gl, ini, fns, ga, gc, na, nc, fa, fc⟩
  dsimp only at *
  match fns, h7, h1 with
  | [f, g'], _, h1 =>
    injection h1 with h1
    subst h1 h2 h8 h9
    exact ⟨f, g', ga, gc, na, nc, fb, fo, fc, rfl, h3, h4, h5, h6⟩

set_option maxRecDepth 100000 in
set_option maxHeartbeats 2000000 in
theorem awake_any (w : World) : Calls Try.prog 6 #[] w fun e w' => e = .returned (.bool true) ∧ Q w w' := by
  have CE := hideIt (fun X => example_any 5 3 (by unfold I64; omega) (by unfold I64; omega) X)
  have CR := hideIt (fun X b h => erun X false 5 3 b h)
  go_enter Try.func6, Try.ntmps6
  go_wp2_with (first
    | (go_at_call 13; refine (CE.out _).mono ?_; rintro e x ⟨b, rfl, hok, q1⟩; have HK := hideIt hok; have HQ1 := hideIt q1; clear hok q1)
    | (go_at_call 8; refine Calls.mono (CR.out _ _ HK.out) ?_; rintro e y ⟨A, rfl, er, q2⟩; obtain ⟨f, g, ga, gc, na, nc, fb, fo, fc, rfl, hat, hgo, hc0, hcn⟩ := er.form; have HER := hideIt er; have HQ2 := hideIt (HQ1.out.trans q2); obtain ⟨f0, f1, f2, f3⟩ := hat.four; have k0 := fun ob => cell_keep ((Q.refl y).alloc ob) f0; have k1 := fun ob => cell_keep ((Q.refl y).alloc ob) f1; have k2 := fun ob => cell_keep ((Q.refl y).alloc ob) f2; have k3 := fun ob => cell_keep ((Q.refl y).alloc ob) f3; have HGO := hideIt hgo; have HCN := hideIt hcn; have HC0 := hideIt hc0; dsimp only [PC.v, List.length_cons, List.length_nil] at *; clear er q2 hat f0 f1 f2 f3 hgo hcn hc0)
    | (go_at_call 10; refine Calls.mono (calls22_any _ g (HGO.out.keep ((Q.refl y).alloc _)) (by have := HCN.out; omega)) ?_; rw [HC0.out]; rintro e z ⟨rfl, q3⟩; have HQ3 := hideIt q3; have HZ := hideIt (cds_box y ⟨[], [], [f, g], ga, gc, na, nc, some ⟨fb, fo, none⟩, fc⟩); obtain ⟨z0, z1, z2⟩ := HZ.out.keep q3; clear q3 k0 k1 k2 k3)
    | (go_at_call 14; refine Calls.mono ((HER.out.keep (((Q.refl y).alloc _).trans HQ3.out)).dos (by omega) (by omega)) ?_; rintro e v ⟨ta, tc, rfl, ht, q4⟩; have HQ4 := hideIt q4; clear ht q4 z0 z1 z2)
    | fail)
  go_ret
  exact ⟨rfl, (HQ2.out.alloc _).trans (HQ3.out.trans (HQ4.out.alloc _))⟩
end Go.Proofs.Ytnaflfpkkbfnfaa.In
