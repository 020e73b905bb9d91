/-
  The statement LiveAfter: its walk over the program; the conditions: the code lies in memory and is small, the library's table is laid.
-/
import Derived.Test.YtdiidmmmemmjjaaDoorKLvZz
import Derived.Test.YtdiidmmmemmjjaaDoorKLvZl
import Derived.Deep.DeepCutAuto
import Derived.Deep.RegionHeld3
namespace Go.Proofs.YtdiidmmmemmjjaaDoor.Lv
open Go.RowKit
set_option linter.unusedVariables false

theorem part_small : ∀ (l : List PP) (p : PP), p ∈ l → (p.ins.length : Int) ≤ (l.map partN).sum
  | [], p, h => by simp at h
  | q :: l, p, h => by
    have hs : 0 ≤ (l.map partN).sum := by
      clear h
      induction l with
      | nil => simp
      | cons a l ih => have : 0 ≤ partN a := by unfold partN; omega
                       simp only [List.map_cons, List.sum_cons]; omega
    simp only [List.map_cons, List.sum_cons]
    rcases List.mem_cons.1 h with rfl | h
    · have e : partN p = 1 + (p.ins.length : Int) := rfl
      omega
    · have := part_small l p h
      have h2 : 0 ≤ partN q := by unfold partN; omega
      omega

set_option maxRecDepth 100000 in
set_option maxHeartbeats 6000000 in
theorem after_good (c : PC) (n8 : Int) (w : World) (hcok : c.ok w) (hT : Tab w) (hf : fewP c = true) (hv : validP c = 0) (hs : codeN c ≤ 1099511627776) (hn8 : 0 ≤ n8 ∧ n8 ≤ 255) : Calls Tryd.prog 4 #[c.v, .int .u8 n8] w fun e w' => e = .returned (.bool true) ∧ Below w.heap.size w w' := by
  have hlen0 := right_some hv
  have hlen1 : c.fns.length ≤ 9223372036854775807 := hcok.fsok.len
  obtain ⟨k, hk, hkl⟩ : ∃ k : Nat, n8.tmod (c.fns.length : Int) = (k : Int) ∧ k < c.fns.length := by
    rw [Int.tmod_eq_emod_of_nonneg (by omega)]
    have h1 := Int.emod_nonneg n8 (show (c.fns.length : Int) ≠ 0 by omega)
    have h2 := Int.emod_lt_of_pos n8 (show (0 : Int) < (c.fns.length : Int) by omega)
    exact ⟨(n8 % (c.fns.length : Int)).toNat, by omega, by omega⟩
  obtain ⟨f, hfk⟩ := get_of_lt hkl
  have h60 := few_count hv hs
  obtain ⟨hm, hm0, n, hr, hn⟩ := fn_small hv h60 hfk
  have hrn : f.regs.toNat = n := by omega
  have HB : Hid (∀ X, Q (bxC w c) X → Cds X w.heap.size c) := fun X h => (cds_box w c).keep h
  have qB := hideIt (bxC_q w c)
  have CA : Hid (∀ X, Q (bxC w c) X → Calls Tryd.prog 8 #[] X fun e w' => e = .returned (.bool true) ∧ Q X w') := fun X h => awake_any X (hT.keep ((bxC_q w c).trans h))
  have CF : Hid (∀ X, Q (bxC w c) X → Calls Tryd.prog 9 #[c.v] X fun e w' => e = .returned (.bool true) ∧ Q X w') := fun X h => by have := few_any X c (hcok.keep ((bxC_q w c).trans h)); rw [hf] at this; exact this
  have CV : Hid (∀ X, Q (bxC w c) X → Calls Tryd.prog 11 #[c.v] X fun e w' => e = .returned (.int .i64 0) ∧ Q X w') := fun X h => by have := rvalid_any X c (hcok.keep ((bxC_q w c).trans h)); rw [hv] at this; exact this
  have CP : Hid (∀ X, Q (bxC w c) X → Calls Tryd.prog 10 #[c.v, .int .i64 (k : Int)] X (PartsQ f X)) := fun X h => parts_q X c (hcok.keep ((bxC_q w c).trans h)) hv k f hfk h60
  obtain ⟨fb, fo, efa, hfat⟩ := hcok.fns k f hfk
  have FAT : Hid (∀ X, Q (bxC w c) X → FnAt X fb (fo + k * 4) f) := fun X h => hfat.keep ((bxC_q w c).trans h)
  have HOK : Hid (∀ p ∈ f.parts, okB p n ∧ (n = 0 → p.ins = [] ∧ p.cond < 0) ∧ ∀ x ∈ waysP p, 0 ≤ x ∧ x < (f.parts.length : Int)) := fun p hp => okB_of hv hfk hr h60 hp
  have CR : Hid (∀ X, Q (bxC w c) X → Calls Tryd.prog 12 #[f.v] X (RPartsP f.parts n X)) := fun X h => rparts_any X f (hfat.keep ((bxC_q w c).trans h)).2 n hn hr hm0 hm HOK.out (fun k r hl => by have := reads_lt hv hfk hl; omega)
  have HT : Hid (∀ X, Q (bxC w c) X → Tab X) := fun X h => hT.keep ((bxC_q w c).trans h)
  have HL2 : Hid (∀ j r, ouB f.parts j r = true → r < n) := fun j r h => by
    obtain ⟨p, -, x, -, hl⟩ := (ouB_iff _ _ _).1 h
    have := reads_lt hv hfk hl
    omega
  have HSM : Hid (∀ p ∈ f.parts, p.ins.length ≤ 60000) := fun p hp => by
    have h1 := part_small f.parts p hp
    have h2 := (fnN_le hfk).1
    have h3 : (f.parts.map partN).sum = fnN f := rfl
    have h4 : codeN c = (c.fns.map fnN).sum := rfl
    omega
  have hkl2 : (k : Int) < (c.fns.length : Int) := by omega
  have hne : ((c.fns.length : Int) == 0) = false := by rw [beq_eq_false_iff_ne]; omega
  have hne2 : (((c.fns.length : Int)) = 0) = False := eq_false (by omega)
  generalize hBB : bxC w c = B at *
  have HBB := hideIt hBB
  clear hcok hBB hf hv hfk hT h60 hs hfat hrn
  rcases c with ⟨gl, ini, fns, ga, gc, na, nc, fa, fc⟩
  dsimp only [PC.v] at *
  subst efa
  rcases f with ⟨params, regs, slots, parts, sa, sc, pa, pc⟩
  dsimp only [PF.v] at *
  subst hr
  go_enter Tryd.func4, Tryd.ntmps4
  go_wp2_with (fail)
  rw [show w.alloc (.cells #[.slice ga gl.length gc, .slice na ini.length nc, .slice (some ⟨fb, fo, none⟩) fns.length fc] 26) = B from HBB.out]
  go_wp2_with (first
    | (go_at_call 8; refine Calls.mono (CA.out _ (Q.refl _)) ?_; rintro e x1 ⟨rfl, q1⟩; have HX := hideIt q1; obtain ⟨s1, s2, s3⟩ := HB.out x1 q1; clear q1)
    | (go_at_call 9; refine Calls.mono (CF.out _ HX.out) ?_; rintro e y ⟨rfl, q1⟩; have HW := hideIt (HX.out.trans q1); clear q1 s1 s2 s3; obtain ⟨s1, s2, s3⟩ := HB.out y HW.out)
    | (go_at_call 11; refine Calls.mono (CV.out _ HW.out) ?_; rintro e y2 ⟨rfl, q1⟩; have HY := hideIt (HW.out.trans q1); clear q1 s1 s2 s3; obtain ⟨s1, s2, s3⟩ := HB.out y2 HY.out; obtain ⟨f0, f1, f2, f3⟩ := (FAT.out y2 HY.out).1.four; have t1 := cell_keep ((Q.refl y2).alloc (.cells #[.int .i64 params, .int .i64 (n : Int), .slice sa slots.length sc, .slice pa parts.length pc] 39)) s1; have t2 := cell_keep ((Q.refl y2).alloc (.cells #[.int .i64 params, .int .i64 (n : Int), .slice sa slots.length sc, .slice pa parts.length pc] 39)) s2; have t3 := cell_keep ((Q.refl y2).alloc (.cells #[.int .i64 params, .int .i64 (n : Int), .slice sa slots.length sc, .slice pa parts.length pc] 39)) s3)
    | (go_at_call 10; refine Calls.mono (CP.out _ (HY.out.alloc _)) ?_; rintro e y3 ⟨bi, bo, rfl, q1, h2⟩; have HZ := hideIt ((HY.out.alloc (.cells #[.int .i64 params, .int .i64 (n : Int), .slice sa slots.length sc, .slice pa parts.length pc] 39)).trans q1); have HFB := hideIt q1; have HO := hideIt h2; clear h2 s1 s2 s3 t1 t2 t3 f0 f1 f2 f3; obtain ⟨g0, g1, g2, g3⟩ := (show At y3 y2.heap.size 0 (PF.cells ⟨params, n, slots, parts, sa, sc, pa, pc⟩) from At.box q1).four; clear q1)
    | (go_at_call 12; refine Calls.mono (CR.out _ HZ.out) ?_; rintro e y4 ⟨ra, ca, rb, cb, rfl, h1, h2, q1⟩; have HQ4 := hideIt (HZ.out.trans q1); have HQ4' := hideIt q1; have HBo := hideIt h2; clear h1 h2 g0 g1 g2 g3; obtain ⟨g0, g1, g2, g3⟩ := (show At y4 y2.heap.size 0 (PF.cells ⟨params, n, slots, parts, sa, sc, pa, pc⟩) from At.box (HFB.out.trans q1)).four; clear q1)
    | fail)
  go_loopg [12] (parts.length + 1) (fun kx iv z => ∃ i : Nat, iv = .int .i64 (i : Int) ∧ i ≤ parts.length ∧ parts.length - i + 1 ≤ kx ∧ Hid (Q y4 z))
  case atStart => exact ⟨0, rfl, Nat.zero_le _, by omega, hideIt (Q.refl _)⟩
  case round =>
    obtain ⟨i, rfl, hi, hik, HQ⟩ := hrel
    generalize wr = z at *
    have HZZ := hideIt (HQ4.out.trans HQ.out)
    have k3 : z.cell? ⟨y2.heap.size, 3, none⟩ = some (.slice pa parts.length pc) := cell_keep HQ.out (by simpa using g3)
    clear g0 g1 g2 g3
    by_cases hil : i < parts.length
    · have hil2 : (i : Int) < (parts.length : Int) := by omega
      obtain ⟨p, hp⟩ := get_of_lt hil
      have hpm := List.mem_of_getElem? hp
      obtain ⟨pb, po, epa, hpat⟩ := (FAT.out z HZZ.out).2.parts i p hp
      replace epa : pa = some ⟨pb, po, none⟩ := epa
      rw [epa] at k3
      obtain ⟨a0, a1, a2, a3, a4⟩ := hpat.1.five
      have q3z : Q y3 z := HQ4'.out.trans HQ.out
      obtain ⟨v, cv, sv⟩ := HO.out i hil
      obtain ⟨va, vn, vc, rfl⟩ := sv.form
      obtain ⟨hok, hn0, -⟩ := HOK.out p hpm
      have hpl := HSM.out p hpm
      obtain ⟨gb', cb', e2, hBw⟩ := HBo.out
      injection e2 with e2 _ e2c
      injection e2 with e2
      injection e2 with e2 _
      subst e2
      subst e2c
      obtain ⟨w2, d2, r2⟩ := hBw i hil
      obtain ⟨xa, xc, rfl, -⟩ := id r2
      have HFC : Hid (∀ Y, Q z Y → Y.cell? ⟨y2.heap.size, 3, none⟩ = some (.slice (some ⟨pb, po, none⟩) parts.length pc) ∧ Y.cell? ⟨pb, po + i * 5, none⟩ = some (.slice p.ia p.ins.length p.ic) ∧ Y.cell? ⟨pb, po + i * 5 + 1, none⟩ = some (.bool p.e) ∧ Y.cell? ⟨pb, po + i * 5 + 2, none⟩ = some (.int .i64 p.cond) ∧ Y.cell? ⟨pb, po + i * 5 + 3, none⟩ = some (.int .i64 p.next) ∧ Y.cell? ⟨pb, po + i * 5 + 4, none⟩ = some (.int .i64 p.els) ∧ Y.cell? ⟨bo, i, none⟩ = some (.slice va vn vc) ∧ Y.cell? ⟨rb, i, none⟩ = some (.slice xa n xc)) := fun Y q =>
        ⟨cell_keep q k3, cell_keep q a0, cell_keep q a1, cell_keep q a2, cell_keep q a3, cell_keep q a4, cell_keep (q3z.trans q) cv, cell_keep (HQ.out.trans q) d2⟩
      have CAF : Hid (∀ Y, Q z Y → Calls Tryd.prog 14 #[p.v, .agg #[.slice va vn vc]] Y fun e w' => ∃ bl, e = .returned (.slice (some ⟨bl, 0, none⟩) p.ins.length p.ins.length) ∧ Q Y w' ∧ ∀ j, j < p.ins.length → ∃ u, w'.cell? ⟨bl, j, none⟩ = some u ∧ SetQ w' u (befL (p.ins.drop (j + 1)) (fun r => cdB p r || ouB parts i r))) := fun Y q =>
        after_q Y p (hpat.2.keep q) _ _ ((sv.keep q3z).keep q) n hn hok (by omega)
      have CRA : Hid (∀ Y (j : Nat), Q z Y → j < p.ins.length → Calls Tryd.prog 15 #[p.v, .slice xa n xc, .int .i64 (j : Int)] Y fun e w' => ∃ nv, e = .returned nv ∧ OwnB Y.heap.size w' nv n (befL (p.ins.drop (j + 1)) (fun r => cdB p r || ouB parts i r)) ∧ Q Y w') := fun Y j q hj =>
        rafter_any Y p (hpat.2.keep q) j n (by
          rcases Nat.eq_zero_or_pos n with h | h
          · rw [(hn0 h).1] at hj; simp at hj
          · exact h) (by omega) hok hj (by omega) _ _ (r2.keep (HQ.out.trans q))
      have CSM : Hid (∀ Y (j : Nat) (u nv : Value) (b : Nat), Q z Y → SetQ Y u (befL (p.ins.drop (j + 1)) (fun r => cdB p r || ouB parts i r)) → OwnB b Y nv n (befL (p.ins.drop (j + 1)) (fun r => cdB p r || ouB parts i r)) → Calls Tryd.prog 13 #[.agg #[u], nv] Y fun e w' => e = .returned (.bool true) ∧ Q Y w') := fun Y j u nv b q hs ho => by
        have hlt := befL_lt (n := n) (S := fun r => cdB p r || ouB parts i r) (fun r h => by
          rw [Bool.or_eq_true] at h
          rcases h with h | h
          · unfold cdB at h
            rw [Bool.and_eq_true, decide_eq_true_eq, beq_iff_eq] at h
            have := hok.cd h.1
            omega
          · exact HL2.out i r h) (p.ins.drop (j + 1)) (fun x hx => hok.us x (List.mem_of_mem_drop hx))
        exact same_any Y u nv _ n hn (hs.is hlt) (OwnB.rd ho) hlt (HT.out Y (HZZ.out.trans q))
      clear hp hpm epa hpat a0 a1 a2 a3 a4 sv cv hok hn0 hBw d2 r2 k3 q3z
      dsimp only [PP.v] at CAF CRA
      obtain ⟨k3, a0, a1, a2, a3, a4, cv, d2⟩ := HFC.out z (Q.refl z)
      go_upto_region 12 with fail
      go_cut [13] (fun l13 z' => ∃ bl, l13 = .slice (some ⟨bl, 0, none⟩) p.ins.length p.ins.length ∧ Hid (Q z z') ∧ Hid (∀ j, j < p.ins.length → ∃ u, z'.cell? ⟨bl, j, none⟩ = some u ∧ SetQ z' u (befL (p.ins.drop (j + 1)) (fun r => cdB p r || ouB parts i r))))
      case first =>
        go_region_with (first | (go_at_call 14; refine Calls.mono (CAF.out _ (by first | exact Q.refl _ | exact (Q.refl z).drew | exact (Q.refl z).drewN _)) ?_; rintro e y5 ⟨bl, rfl, q1, hr1⟩; have Q5 : Hid (Q z y5) := (by first | exact q1 | exact (Q.refl z).drew.trans q1 | exact ((Q.refl z).drewN _).trans q1); have HR := hideIt hr1; clear q1 hr1) | fail)
        all_goals go_wp2_with (fail)
        all_goals go_meet
        all_goals first | exact ⟨bl, rfl, Q5.out, HR.out⟩ | exact ⟨bl, rfl, Q5.out.drew, fun j hj => by obtain ⟨u, h1, h2⟩ := HR.out j hj; exact ⟨u, h1, h2.keep (Q.refl _).drew⟩⟩ | exact ⟨bl, rfl, Q5.out.drewN _, fun j hj => by obtain ⟨u, h1, h2⟩ := HR.out j hj; exact ⟨u, cell_keep ((Q.refl _).drewN _) h1, h2.keep ((Q.refl _).drewN _)⟩⟩
      case rest =>
        obtain ⟨bl, rfl, HQ5, HR5⟩ := hcut
        generalize wc = z5 at *
        clear k3 a0 a1 a2 a3 a4 cv d2
        obtain ⟨k3, a0, a1, a2, a3, a4, cv, d2⟩ := HFC.out z5 HQ5.out
        go_wp2_with (fail)
        go_loopg [14] (p.ins.length + 1) (fun kx jv z6 => ∃ j : Nat, jv = .int .i64 (j : Int) ∧ j ≤ p.ins.length ∧ p.ins.length - j + 1 ≤ kx ∧ Hid (Q z5 z6))
        case atStart => exact ⟨0, rfl, Nat.zero_le _, by omega, hideIt (Q.refl _)⟩
        case round =>
          obtain ⟨j, rfl, hj, hjk, HQ6⟩ := hrel
          generalize wr = z6 at *
          clear k3 a0 a1 a2 a3 a4 cv d2
          have HQ56 := hideIt (HQ5.out.trans HQ6.out)
          obtain ⟨k3, a0, a1, a2, a3, a4, cv, d2⟩ := HFC.out z6 HQ56.out
          by_cases hjl : j < p.ins.length
          · have hjl2 : (j : Int) < (p.ins.length : Int) := by omega
            obtain ⟨u, hu, hsu⟩ := HR5.out j hjl
            obtain ⟨ua, un, uc, rfl⟩ := hsu.form
            have cu := cell_keep HQ6.out hu
            have HCC : Hid (∀ Y, Q z6 Y → Q z6 Y ∧ Y.cell? ⟨y2.heap.size, 3, none⟩ = some (.slice (some ⟨pb, po, none⟩) parts.length pc) ∧ Y.cell? ⟨pb, po + i * 5, none⟩ = some (.slice p.ia p.ins.length p.ic) ∧ Y.cell? ⟨pb, po + i * 5 + 1, none⟩ = some (.bool p.e) ∧ Y.cell? ⟨pb, po + i * 5 + 2, none⟩ = some (.int .i64 p.cond) ∧ Y.cell? ⟨pb, po + i * 5 + 3, none⟩ = some (.int .i64 p.next) ∧ Y.cell? ⟨pb, po + i * 5 + 4, none⟩ = some (.int .i64 p.els) ∧ Y.cell? ⟨rb, i, none⟩ = some (.slice xa n xc) ∧ Y.cell? ⟨bl, j, none⟩ = some (.slice ua un uc)) := fun Y q => by
              obtain ⟨h1, h2, h3, h4, h5, h6, h7, h8⟩ := HFC.out Y (HQ56.out.trans q)
              exact ⟨q, h1, h2, h3, h4, h5, h6, h8, cell_keep q cu⟩
            have CR3 : Hid (∀ Y, Q z6 Y → Calls Tryd.prog 15 #[.agg #[.slice p.ia p.ins.length p.ic, .bool p.e, .int .i64 p.cond, .int .i64 p.next, .int .i64 p.els], .slice xa n xc, .int .i64 (j : Int)] Y fun e Z => ∃ na nc, e = .returned (.slice na n nc) ∧ Hid (∃ b, OwnB b Z (.slice na n nc) n (befL (p.ins.drop (j + 1)) (fun r => cdB p r || ouB parts i r))) ∧ Q z6 Z ∧ Z.cell? ⟨y2.heap.size, 3, none⟩ = some (.slice (some ⟨pb, po, none⟩) parts.length pc) ∧ Z.cell? ⟨pb, po + i * 5, none⟩ = some (.slice p.ia p.ins.length p.ic) ∧ Z.cell? ⟨pb, po + i * 5 + 1, none⟩ = some (.bool p.e) ∧ Z.cell? ⟨pb, po + i * 5 + 2, none⟩ = some (.int .i64 p.cond) ∧ Z.cell? ⟨pb, po + i * 5 + 3, none⟩ = some (.int .i64 p.next) ∧ Z.cell? ⟨pb, po + i * 5 + 4, none⟩ = some (.int .i64 p.els) ∧ Z.cell? ⟨rb, i, none⟩ = some (.slice xa n xc) ∧ Z.cell? ⟨bl, j, none⟩ = some (.slice ua un uc)) := fun Y q =>
              (CRA.out Y j (HQ56.out.trans q) hjl).mono fun e Z h => by
                obtain ⟨nv, rfl, ho, q1⟩ := h
                obtain ⟨na, nc', rfl⟩ := own_form ho
                exact ⟨na, nc', rfl, ⟨_, ho⟩, HCC.out Z (q.trans q1)⟩
            have CS3 : Hid (∀ Y na nc, Q z6 Y → Hid (∃ b, OwnB b Y (.slice na n nc) n (befL (p.ins.drop (j + 1)) (fun r => cdB p r || ouB parts i r))) → Calls Tryd.prog 13 #[.agg #[.slice ua un uc], .slice na n nc] Y fun e Z => e = .returned (.bool true) ∧ Q z6 Z ∧ Z.cell? ⟨y2.heap.size, 3, none⟩ = some (.slice (some ⟨pb, po, none⟩) parts.length pc) ∧ Z.cell? ⟨pb, po + i * 5, none⟩ = some (.slice p.ia p.ins.length p.ic) ∧ Z.cell? ⟨pb, po + i * 5 + 1, none⟩ = some (.bool p.e) ∧ Z.cell? ⟨pb, po + i * 5 + 2, none⟩ = some (.int .i64 p.cond) ∧ Z.cell? ⟨pb, po + i * 5 + 3, none⟩ = some (.int .i64 p.next) ∧ Z.cell? ⟨pb, po + i * 5 + 4, none⟩ = some (.int .i64 p.els) ∧ Z.cell? ⟨rb, i, none⟩ = some (.slice xa n xc) ∧ Z.cell? ⟨bl, j, none⟩ = some (.slice ua un uc)) := fun Y na nc q ho => by
              obtain ⟨b, ho⟩ := ho
              exact (CSM.out Y j _ _ b (HQ56.out.trans q) (hsu.keep (HQ6.out.trans q)) ho).mono fun e Z ⟨e1, q1⟩ => ⟨e1, HCC.out Z (q.trans q1)⟩
            clear hu hsu
            go_wp2_with (fail)
            go_region_held3 (fun Y : World => Q z6 Y ∧ Y.cell? ⟨y2.heap.size, 3, none⟩ = some (.slice (some ⟨pb, po, none⟩) parts.length pc) ∧ Y.cell? ⟨pb, po + i * 5, none⟩ = some (.slice p.ia p.ins.length p.ic) ∧ Y.cell? ⟨pb, po + i * 5 + 1, none⟩ = some (.bool p.e) ∧ Y.cell? ⟨pb, po + i * 5 + 2, none⟩ = some (.int .i64 p.cond) ∧ Y.cell? ⟨pb, po + i * 5 + 3, none⟩ = some (.int .i64 p.next) ∧ Y.cell? ⟨pb, po + i * 5 + 4, none⟩ = some (.int .i64 p.els) ∧ Y.cell? ⟨rb, i, none⟩ = some (.slice xa n xc) ∧ Y.cell? ⟨bl, j, none⟩ = some (.slice ua un uc)) (first | exact HCC.out _ (Q.refl _).drew | go_keep) (first | (go_at_call 15; refine Calls.mono (CR3.out _ (by first | assumption | exact (Q.refl _).drew)) ?_; rintro e y6 ⟨na, nc', rfl, HO6, t0, t1, t2, t3, t4, t5, t6, t7, t8⟩) | (go_at_call 13; refine Calls.mono (CS3.out _ _ _ (by assumption) (by assumption)) ?_; rintro e y7 ⟨rfl, t0, t1, t2, t3, t4, t5, t6, t7, t8⟩))
            all_goals rename_i hHeld
            all_goals have Q7 := hideIt hHeld.1
            all_goals clear hHeld
            all_goals go_wp2_with (fail)
            all_goals (go_roundg (p.ins.length - (j + 1) + 1); (case measure => omega); (case rel => exact ⟨j + 1, by first | rfl | go_num, by omega, Nat.le_refl _, hideIt (HQ6.out.trans Q7.out)⟩))
          · have hjl2 : ¬ (j : Int) < (p.ins.length : Int) := by omega
            go_wp2_with (fail)
            go_roundg (parts.length - (i + 1) + 1)
            case measure => omega
            case rel => exact ⟨i + 1, by first | rfl | go_num, by omega, Nat.le_refl _, hideIt (HQ.out.trans HQ56.out)⟩
    · have hjl2 : ¬ (i : Int) < (parts.length : Int) := by omega
      go_wp2_with (fail)
      go_ret
      exact ⟨rfl, qB.out.trans HZZ.out⟩
theorem after_walk (c : PC) (n : Int) (w : World) (hcok : c.ok w) (hT : Tab w) (hs : codeN c ≤ 1099511627776) (hn : 0 ≤ n ∧ n ≤ 255) : Calls Tryd.prog 4 #[c.v, .int .u8 n] w fun e w' => e = .returned (.bool true) ∧ Below w.heap.size w w' := by
  cases hf : fewP c with
  | false => exact after_few c n w hcok hT hf
  | true =>
    by_cases hv : validP c = 0
    · exact after_good c n w hcok hT hf hv hs hn
    · exact after_bad c n w hcok hT hf hv

end Go.Proofs.YtdiidmmmemmjjaaDoor.Lv
