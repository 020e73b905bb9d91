/-
  What a part reads and writes is noted (look of live): a contract over the program; the conditions: the walk lies in memory behind the code, and the part's registers are some of the function's.
-/
import Derived.Test.YtdiidmmmemmjjaaDoorKLvK
namespace Go.Proofs.YtdiidmmmemmjjaaDoor.Lv
open Go.RowKit
set_option linter.unusedVariables false

def okR (words : Nat) (r : Int) : Prop := 0 ≤ r ∧ r ≤ 1099511627775 ∧ r.toNat / 64 < words
structure okP (words : Nat) (p : PP) : Prop where
  use : ∀ x ∈ p.ins, ∀ r ∈ usesP x, okR words r
  dst : ∀ x ∈ p.ins, wrP x.op = true → okR words x.dst
  cond : ¬ p.cond < 0 → okR words p.cond

set_option maxRecDepth 100000 in
set_option maxHeartbeats 8000000 in
theorem look_any (w0 w : World) (B : Bl) (many words : Nat) (v : Vs) (es : Es) (wo : List Int) (h : WM w w0.heap.size B many words v es wo) (hq : Q w0 w) (k : Nat) (p : PP) (hp : p.ok w0) (hok : okP words p) (n : Nat) (hB : Bd es n) (hn : n + wL p.ins + 1 ≤ 1099511627775) :
    Calls Tryd.prog 44 #[.pointer (some ⟨B.Wk, 0, none⟩), .int .i64 (k : Int), p.v] w fun e w' => e = .returned (.tuple #[]) ∧ (∃ v', WM w' w0.heap.size B many words v' (lookP es k p) wo ∧ Kp B many words w v w' v') ∧ Q w0 w' := by
  have HP := hideIt hp
  have HOK := hideIt hok
  have HBD := hideIt hB
  have hsok := hp.sok.len
  obtain ⟨X0, hX0⟩ : ∃ X0, w.alloc (.cells #[.slice p.ia p.ins.length p.ic, .bool p.e, .int .i64 p.cond, .int .i64 p.next, .int .i64 p.els] 49) = X0 := ⟨_, rfl⟩
  have q0 : Q w X0 := by rw [← hX0]; exact (Q.refl w).alloc _
  have bx : X0.heap[w.heap.size]? = some (.cells #[.slice p.ia p.ins.length p.ic, .bool p.e, .int .i64 p.cond, .int .i64 p.next, .int .i64 p.els] 49 (0, 0)) := by rw [← hX0]; exact heap_alloc_new w _
  have H0 : Hid ((∃ v', WM X0 w0.heap.size B many words v' (lookL es k (p.ins.take 0)) wo ∧ Kp B many words X0 v X0 v') ∧ Q w0 X0) := ⟨⟨v, h.q q0, Kp.refl⟩, hq.trans q0⟩
  have FR : Hid (Fre B many words v w.heap.size) := h.fre (Nat.le_refl _)
  have KX : Hid (Kp B many words w v X0 v) := Kp.q q0
  have b0 : X0.cell? ⟨w.heap.size, 0, none⟩ = some (.slice p.ia p.ins.length p.ic) := (cell_of_block bx 0).trans rfl
  have HX0 := hideIt hX0
  have HBX := hideIt bx
  clear hp hok hB h hq q0 bx hX0
  rcases p with ⟨ins, e, cond, next, els, ia, ic⟩
  dsimp only [PP.v] at *
  go_enter Tryd.func44, Tryd.ntmps44
  go_wp2_with (fail)
  rw [show w.alloc (.cells #[.slice ia ins.length ic, .bool e, .int .i64 cond, .int .i64 next, .int .i64 els] 49) = X0 from HX0.out]
  go_wp2_with (fail)
  clear b0
  go_loopw [13] (fun iv z => ∃ i : Nat, iv = .int .i64 (i : Int) ∧ i ≤ ins.length ∧ Hid ((∃ v', WM z w0.heap.size B many words v' (lookL es k (ins.take i)) wo ∧ Kp B many words X0 v z v') ∧ Q w0 z)) (fun iv _ => ins.length - (intOf iv).toNat)
  case atStart => exact ⟨0, rfl, Nat.zero_le _, H0.out⟩
  case round =>
    obtain ⟨i, rfl, hi, HI⟩ := hrel
    generalize wr = z at *
    clear H0
    by_cases hlt : i < ins.length
    · obtain ⟨x, hx⟩ := get_of_lt hlt
      have hxm := List.mem_of_getElem? hx
      obtain ⟨⟨v1, m1, k1⟩, q1⟩ := HI.out
      obtain ⟨bb, oo, ea, hat, hxo⟩ := (HP.out.keep q1).ins i x hx
      dsimp only at ea
      obtain ⟨d0, d1, d2, d3, d4, d5, d6⟩ := hat.seven
      have CU := hideIt (fun X (h : Q (bxI z x) X) => usesF_any x X (hxo.keep ((bxI_q z x).trans h)))
      have hib : (i : Int) < (ins.length : Int) := by omega
      have HUS := hideIt (HOK.out.use x hxm)
      have HDS := hideIt (HOK.out.dst x hxm)
      have HM1 := hideIt m1
      have HK1 := hideIt k1
      have HQ1 := hideIt q1
      have HXQ := hideIt (bxI_q z x)
      have HXA := hideIt (fun w' (h : Q (bxI z x) w') => (bxI_at h).seven)
      have HN1 : Hid (Bd (lookL es k (ins.take i)) (n + wL (ins.take i)) ∧ wL (ins.take i) + wI x ≤ wL ins) := ⟨HBD.out.lookL k _, wL_take ins i x hx⟩
      have HT : Hid (lookL es k (ins.take (i + 1)) = lookI (lookL es k (ins.take i)) k x) := by rw [take_snoc hx, lookL_snoc]; exact rfl
      subst ea
      clear hx hxm m1 k1 q1 hat hxo HI
      go_wp2_with (first | (go_at_call 34; refine (CU.out _ (Q.refl _)).mono ?_; rintro e y ⟨ao, c, rfl, hi, hq, hf⟩; have HII := hideIt hi; have HQ := hideIt hq; have HFF := hideIt hf; clear hi hq hf) | fail)
      clear d0 d1 d2 d3 d4 d5 d6 CU
      have hul : (usesP x).length ≤ 9223372036854775807 := by have h1 := HN1.out.2; unfold wI at h1; omega
      have YF : Hid (Fre B many words v1 z.heap.size ∧ (∀ b o, ao = some ⟨b, o, none⟩ → Fre B many words v1 b) ∧ Q z y) := ⟨HM1.out.fre (Nat.le_refl _), fun b o e => HM1.out.fre (Nat.le_trans HXQ.out.size (HFF.out b o e)), HXQ.out.trans HQ.out⟩
      have YA := hideIt (HXA.out y HQ.out)
      have N0 : Hid ((∃ v', WM y w0.heap.size B many words v' (readL (lookL es k (ins.take i)) k ((usesP x).take 0)) wo ∧ Kp B many words y v1 y v') ∧ Q w0 y) := ⟨⟨v1, HM1.out.q YF.out.2.2, Kp.refl⟩, HQ1.out.trans YF.out.2.2⟩
      clear HXQ HXA HFF HQ
      go_loopw [20] (fun jv z => ∃ j : Nat, jv = .int .i64 (j : Int) ∧ j ≤ (usesP x).length ∧ Hid ((∃ v', WM z w0.heap.size B many words v' (readL (lookL es k (ins.take i)) k ((usesP x).take j)) wo ∧ Kp B many words y v1 z v') ∧ Q w0 z)) (fun iv _ => (usesP x).length - (intOf iv).toNat)
      case atStart => exact ⟨0, rfl, Nat.zero_le _, N0.out⟩
      case round =>
        obtain ⟨j, rfl, hj, HJ⟩ := hrel
        generalize wr = y2 at *
        clear N0
        by_cases hlt2 : j < (usesP x).length
        · obtain ⟨r, hr⟩ := get_of_lt hlt2
          obtain ⟨r0, r1, r2⟩ := HUS.out r (List.mem_of_getElem? hr)
          obtain ⟨⟨v2, m2, k2⟩, q2⟩ := HJ.out
          obtain ⟨gb, go, ea, hc, -⟩ := HII.out j r hr
          have cu : y2.cell? ⟨gb, go + j, none⟩ = some (.int .i64 r) := by
            have := k2.cell hc (YF.out.2.1 gb go ea)
            rwa [Nat.mul_one] at this
          obtain ⟨rn, hrn⟩ : ∃ rn : Nat, r = (rn : Int) := ⟨r.toNat, by omega⟩
          have hjb : (j : Int) < ((usesP x).length : Int) := by omega
          have RD : Hid (Calls Tryd.prog 61 #[.pointer (some ⟨B.Wk, 0, none⟩), .int .i64 (k : Int), .int .i64 (rn : Int)] y2 fun e w' => e = .returned (.tuple #[]) ∧ (∃ v', WM w' w0.heap.size B many words v' (readL (lookL es k (ins.take i)) k ((usesP x).take (j + 1))) wo ∧ Kp B many words y v1 w' v') ∧ Q w0 w') := by
            have hbd : Bd (readL (lookL es k (ins.take i)) k ((usesP x).take j)) (n + wL (ins.take i) + ((usesP x).take j).length) := HN1.out.1.readL k _
            have hw := HN1.out.2
            have htl : ((usesP x).take j).length ≤ (usesP x).length := by simp; omega
            unfold wI at hw
            have hle : ∀ m, (readL (lookL es k (ins.take i)) k ((usesP x).take j) m).length ≤ 1099511627775 := fun m => Nat.le_trans (hbd m) (by omega)
            refine (read_any y2 w0.heap.size B many words v2 _ wo m2 q2.size k rn (by rw [hrn, Int.toNat_natCast] at r2; exact r2) (hle _) (hle _)).mono ?_
            rintro e y3 ⟨rfl, ⟨v3, h1, h2⟩, h3⟩
            refine ⟨rfl, ⟨v3, ?_, k2.trans h2⟩, Below.trans q2 h3⟩
            rw [take_snoc hr, readL_snoc, hrn, Int.toNat_natCast]
            exact h1
          rw [hrn] at cu
          subst ea
          clear hr r0 r1 r2 m2 k2 q2 hc hrn
          go_wp2_with (first | (go_at_call 61; refine RD.out.mono ?_; rintro e y3 ⟨rfl, hy, qy⟩; have HY := hideIt hy; have QY := hideIt qy; clear hy qy) | fail)
          exact ⟨⟨j + 1, by go_num, by omega, HY.out, QY.out⟩, by simp [intOf]; omega⟩
        · have hjb : ¬ (j : Int) < ((usesP x).length : Int) := by omega
          have ej : j = (usesP x).length := by omega
          have M2 : Hid ((∃ v', WM y2 w0.heap.size B many words v' (readL (lookL es k (ins.take i)) k (usesP x)) wo ∧ Kp B many words y v1 y2 v') ∧ Q w0 y2) := by
            have := HJ.out
            rw [ej, List.take_length] at this
            exact this
          clear HJ ej HII
          obtain ⟨e0, e1, e2, e3, e4, e5, e6⟩ : y2.cell? ⟨z.heap.size, 0, none⟩ = some (.int .u8 x.op) ∧ y2.cell? ⟨z.heap.size, 0 + 1, none⟩ = some (.int .u8 x.ty) ∧ y2.cell? ⟨z.heap.size, 0 + 2, none⟩ = some (.int .i64 x.dst) ∧ y2.cell? ⟨z.heap.size, 0 + 3, none⟩ = some (.int .i64 x.a) ∧ y2.cell? ⟨z.heap.size, 0 + 4, none⟩ = some (.int .i64 x.b) ∧ y2.cell? ⟨z.heap.size, 0 + 5, none⟩ = some (.int .i64 x.imm) ∧ y2.cell? ⟨z.heap.size, 0 + 6, none⟩ = some (.slice x.aa x.args.length x.ac) := by
            obtain ⟨a0, a1, a2, a3, a4, a5, a6⟩ := YA.out
            obtain ⟨⟨v2, m2, k2⟩, q2⟩ := M2.out
            have hf := YF.out.1
            exact ⟨k2.cell a0 hf, k2.cell a1 hf, k2.cell a2 hf, k2.cell a3 hf, k2.cell a4 hf, k2.cell a5 hf, k2.cell a6 hf⟩
          simp only [Nat.zero_add] at e1 e2 e3 e4 e5 e6
          have DA := hideIt (dst_any x y2)
          cases hw : wrP x.op with
          | false =>
            rw [hw] at DA
            go_wp2_with (first | (go_at_call 32; refine DA.out.mono ?_; rintro e y3 ⟨rfl, qy⟩; have QY := hideIt qy; clear qy) | fail)
            refine ⟨⟨i + 1, by go_num, by omega, ?_⟩, by simp [intOf]; omega⟩
            obtain ⟨⟨v2, m2, k2⟩, q2⟩ := M2.out
            refine ⟨⟨v2, ?_, ((HK1.out.trans (Kp.q YF.out.2.2)).trans k2).trans (Kp.q QY.out)⟩, q2.trans QY.out⟩
            rw [HT.out]
            unfold lookI
            rw [if_neg (by simp [hw])]
            exact m2.q QY.out
          | true =>
            rw [hw] at DA
            obtain ⟨r0, r1, r2⟩ := HDS.out hw
            obtain ⟨dn, hdn⟩ : ∃ dn : Nat, x.dst = (dn : Int) := ⟨x.dst.toNat, by omega⟩
            rw [hdn, Int.toNat_natCast] at r2
            obtain ⟨⟨v2, m2, k2⟩, q2⟩ := M2.out
            have PU : Hid (∀ X, Q y2 X → Calls Tryd.prog 62 #[.pointer (some ⟨B.Wt, dn / 64, none⟩), .agg #[.int .i64 (k : Int), .int .u64 (bitN dn)]] X fun e w' => e = .returned (.bool (newP (readL (lookL es k (ins.take i)) k (usesP x) (.wt (dn / 64))) (k, bitN dn))) ∧ ((∃ v', WM w' w0.heap.size B many words v' (lookL es k (ins.take (i + 1))) wo ∧ Kp B many words X0 v w' v') ∧ Q w0 w')) := fun X q => by
              have HX := m2.q q
              have hm : okN many words (.wt (dn / 64)) := r2
              have hb : w0.heap.size ≤ X.heap.size := Nat.le_trans q2.size q.size
              have hbd : Bd (readL (lookL es k (ins.take i)) k (usesP x)) (n + wL (ins.take i) + (usesP x).length) := HN1.out.1.readL k _
              have hww := HN1.out.2
              unfold wI at hww
              refine (push_any X w0.heap.size B many words v2 _ HX.fm hb (.wt (dn / 64)) hm rfl (Nat.le_trans (hbd _) (by omega)) (k, bitN dn)).mono fun e w' ⟨e1, nv, e2, e3, e4⟩ => ⟨e1, ⟨upd v2 (.wt (dn / 64)) nv, ?_, (((HK1.out.trans (Kp.q YF.out.2.2)).trans k2).trans (Kp.q q)).trans (Kp.push hm e3 e4)⟩, Below.trans (q2.trans q) (HX.below hm e3 hb)⟩
              rw [HT.out]
              unfold lookI writE
              rw [if_pos hw, hdn, Int.toNat_natCast]
              exact HX.fc hm e2 e3
            have PL := hideIt (fun w => place_any w dn)
            have BI := hideIt (fun w => bit_any w dn)
            have hrl : ((dn / 64 : Nat) : Int) < (words : Int) := by omega
            rw [hdn] at e2
            have YC : Hid (∀ X, Q y2 X → X.cell? ⟨B.Wk, 2, none⟩ = some (.slice (some ⟨B.Wt, 0, none⟩) words words) ∧ X.cell? ⟨z.heap.size, 2, none⟩ = some (.int .i64 (dn : Int))) := fun X q => ⟨(m2.q q).c2, cell_keep q e2⟩
            rw [← hdn] at e2
            have HDN := hideIt hdn
            clear m2 k2 q2 r0 r1 r2 hdn
            go_wp2_with (first | (go_at_call 32; refine DA.out.mono ?_; rintro e y3 ⟨rfl, qy⟩; have QY := hideIt qy; clear qy) | fail)
            obtain ⟨g1, g2⟩ := YC.out y3 QY.out
            clear e0 e1 e2 e3 e4 e5 e6 YC DA M2
            generalize dn / 64 = dq at *
            go_region_with (first | (go_at_call 42; refine (PL.out _).mono ?_; rintro e y ⟨rfl, rfl⟩) | (go_at_call 38; refine (BI.out _).mono ?_; rintro e y ⟨rfl, rfl⟩) | (go_at_call 62; refine Calls.mono (PU.out _ (by first | exact QY.out | exact QY.out.drew | exact QY.out.drewN _)) ?_; rintro e y4 ⟨rfl, hy⟩; have HY := hideIt hy; clear hy))
            all_goals go_wp2_with (fail)
            all_goals exact ⟨⟨i + 1, by go_num, by omega, HY.out⟩, by simp [intOf]; omega⟩
    · have hib : ¬ (i : Int) < (ins.length : Int) := by omega
      have ei : i = ins.length := by omega
      have M1 : Hid ((∃ v', WM z w0.heap.size B many words v' (lookL es k ins) wo ∧ Kp B many words X0 v z v') ∧ Q w0 z) := by
        have := HI.out
        rw [ei, List.take_length] at this
        exact this
      clear HI ei
      obtain ⟨⟨v1, m1, k1⟩, q1⟩ := M1.out
      have bz := k1.keep HBX.out FR.out
      have c2 : z.cell? ⟨w.heap.size, 2, none⟩ = some (.int .i64 cond) := (cell_of_block bz 2).trans rfl
      by_cases hcd : cond < 0
      · have hcd' : ¬ 0 ≤ cond := by omega
        have EL : Hid (lookP es k ⟨ins, e, cond, next, els, ia, ic⟩ = lookL es k ins) := if_pos hcd
        clear m1 k1 q1 bz
        go_wp2_with (fail)
        go_end0
        obtain ⟨⟨v1, m1, k1⟩, q1⟩ := M1.out
        refine ⟨rfl, ⟨v1, ?_, KX.out.trans k1⟩, q1⟩
        rw [EL.out]
        exact m1
      · have hcd' : 0 ≤ cond := by omega
        have EL : Hid (lookP es k ⟨ins, e, cond, next, els, ia, ic⟩ = readE (lookL es k ins) k cond.toNat) := if_neg hcd
        obtain ⟨r0, r1, r2⟩ := HOK.out.cond hcd
        dsimp only at r0 r1 r2
        obtain ⟨cn, hcn⟩ : ∃ cn : Nat, cond = (cn : Int) := ⟨cond.toNat, by omega⟩
        have RD : Hid (Calls Tryd.prog 61 #[.pointer (some ⟨B.Wk, 0, none⟩), .int .i64 (k : Int), .int .i64 cond] z fun e w' => e = .returned (.tuple #[]) ∧ (∃ v', WM w' w0.heap.size B many words v' (readE (lookL es k ins) k cond.toNat) wo ∧ Kp B many words w v w' v') ∧ Q w0 w') := by
          have hle : ∀ m, (lookL es k ins m).length ≤ 1099511627775 := fun m => Nat.le_trans (HBD.out.lookL k ins m) (by omega)
          rw [hcn, Int.toNat_natCast]
          refine (read_any z w0.heap.size B many words v1 _ wo m1 q1.size k cn (by rw [hcn, Int.toNat_natCast] at r2; exact r2) (hle _) (hle _)).mono ?_
          rintro e y3 ⟨rfl, ⟨v3, h1, h2⟩, h3⟩
          exact ⟨rfl, ⟨v3, h1, (KX.out.trans k1).trans h2⟩, Below.trans q1 h3⟩
        clear m1 k1 q1 bz r0 r1 r2 hcn
        go_wp2_with (first | (go_at_call 61; refine RD.out.mono ?_; rintro e y3 ⟨rfl, hy, qy⟩; have HY := hideIt hy; have QY := hideIt qy; clear hy qy) | fail)
        go_end0
        refine ⟨rfl, ?_, QY.out⟩
        rw [EL.out]
        exact HY.out

end Go.Proofs.YtdiidmmmemmjjaaDoor.Lv
