/-
  The statement VmKeeps: its walk over the program; the conditions: the program lies in memory.
-/
import Derived.Test.YtnnhgeejghpfbaaVmZa
namespace Go.Proofs.Ytnnhgeejghpfbaa
open Go.RowKit
set_option linter.unusedVariables false

/-- A run's answer, written out. -/
theorem run_out (c : PIm) (k : Nat) (hk : k ≤ 8388608) : ∃ (oh : Bool) (ox ot : Int) (os : Bool) (on : Nat) (tr : List Int) (vv : Int), ∀ X : World, c.ok X → Calls Try.prog 9 #[c.v, .int .i64 (k : Int)] X fun e w' => ∃ ta tc, e = .returned (.tuple #[.agg #[.bool oh, .int .i64 ox, .int .u8 ot, .bool os, .int .i64 (on : Int), .slice ta tr.length tc], .int .i64 vv]) ∧ w'.ownsRow X.heap.size 2 1 (.slice ta tr.length tc) tr.length (rowI tr) ∧ Q X w' :=
  ⟨(resO c k).h, (resO c k).x, (resO c k).t, (resO c k).sp, (resO c k).n, (resO c k).tr, resE c, fun X hX => run_every X c hX k hk⟩

set_option maxRecDepth 100000 in
set_option maxHeartbeats 4000000 in
theorem keeps_walk (c : PIm) (n : Int) (w : World) (hcok : c.ok w) (hn : 0 ≤ n ∧ n ≤ 65535) : Calls Try.prog 5 #[c.v, .int .u16 n] w fun e w' => e = .returned (.bool true) ∧ Below w.heap.size w w' := by
  have HB : Hid (∀ X, Q (bxI w c) X → X.cell? ⟨w.heap.size, 0, none⟩ = some (.slice c.wa c.ws.length c.wc) ∧ X.cell? ⟨w.heap.size, 1, none⟩ = some (.slice c.sa c.st.length c.sc) ∧ X.cell? ⟨w.heap.size, 2, none⟩ = some (.slice c.fa c.fr.length c.fc) ∧ X.cell? ⟨w.heap.size, 3, none⟩ = some (.slice c.ea c.da.length c.ec)) := fun X h => bxI_at h
  have qB : Hid (Q w (bxI w c)) := (Q.refl w).alloc _
  have CA : Hid (∀ X, Calls Try.prog 8 #[] X fun e w' => e = .returned (.bool true) ∧ Q X w') := fun X => awake_any X
  have HC := hideIt (fun X (h : Q (bxI w c) X) => hcok.keep (((Q.refl w).alloc _ : Q w (bxI w c)).trans h))
  obtain ⟨m, rfl⟩ : ∃ m : Nat, n = (m : Int) := ⟨n.toNat, by omega⟩
  have t1 : (m : Int).tmod 1000 = ((m % 1000 : Nat) : Int) := by rw [Int.tmod_eq_emod_of_nonneg (by omega)]; omega
  obtain ⟨oh, ox, ot, os, on, tr, vv, cr⟩ := run_out c (m % 1000) (by omega)
  have CR := hideIt cr
  generalize m % 1000 = k at *
  generalize hBB : bxI w c = B at *
  have HBB := hideIt hBB
  clear hcok hBB cr
  go_enter Try.func5, Try.ntmps5
  go_wp2_with (fail)
  rw [show w.alloc (.cells #[.slice c.wa c.ws.length c.wc, .slice c.sa c.st.length c.sc, .slice c.fa c.fr.length c.fc, .slice c.ea c.da.length c.ec] 26) = B from HBB.out]
  go_wp2_with (first
    | (go_at_call 8; refine (CA.out _).mono ?_; rintro e x ⟨rfl, q1⟩; have HQ1 := hideIt q1; obtain ⟨s1, s2, s3, s4⟩ := HB.out x q1; clear q1)
    | (go_at_call 9; first
        | (refine Calls.mono (CR.out _ (HC.out _ ((HQ1.out.trans HY1.out).alloc _))) ?_; rintro e y2 ⟨tb, td, rfl, ho2, hb2⟩; have HO2 := hideIt ho2; have HY2 := hideIt hb2; clear r1 r2 r3 r4 ho2 hb2)
        | (refine Calls.mono (CR.out _ (HC.out _ HQ1.out)) ?_; rintro e y ⟨ta, tc, rfl, ho, hb⟩; have HO1 := hideIt ho; have HY1 := hideIt hb; clear s1 s2 s3 s4; obtain ⟨s1, s2, s3, s4⟩ := HB.out y (HQ1.out.trans hb); have r1 := fun ob => cell_keep ((Q.refl y).alloc ob) s1; have r2 := fun ob => cell_keep ((Q.refl y).alloc ob) s2; have r3 := fun ob => cell_keep ((Q.refl y).alloc ob) s3; have r4 := fun ob => cell_keep ((Q.refl y).alloc ob) s4; clear s1 s2 s3 s4 ho hb))
    | fail)
  have FW : Hid (∀ W, y2.alloc (.cells #[.bool oh, .int .i64 ox, .int .u8 ot, .bool os, .int .i64 (on : Int), .slice tb tr.length td] 31) = W → W.heap[y.heap.size]? = some (.cells #[.bool oh, .int .i64 ox, .int .u8 ot, .bool os, .int .i64 (on : Int), .slice ta tr.length tc] 31 (0, 0)) ∧ W.heap[y2.heap.size]? = some (.cells #[.bool oh, .int .i64 ox, .int .u8 ot, .bool os, .int .i64 (on : Int), .slice tb tr.length td] 31 (0, 0)) ∧ Q y W ∧ Q x W ∧ Trc W tb tr ∧ W.ownsRow x.heap.size 2 1 (.slice ta tr.length tc) tr.length (rowI tr) ∧ ∃ g, x.heap.size ≤ g ∧ g ≠ y.heap.size ∧ g ≠ y2.heap.size ∧ (∀ b o, tb = some ⟨b, o, none⟩ → b ≠ g) ∧ (tr = [] ∨ ta = some ⟨g, 0, none⟩)) := by
    rintro W rfl
    have l1 := HY1.out.size
    have l2 := HY2.out.size
    have hs : ∀ (X : World) (o : Obj), (X.alloc o).heap.size = X.heap.size + 1 := fun X o => by simp
    rw [hs] at l2
    have qy : Q y (y2.alloc (.cells #[.bool oh, .int .i64 ox, .int .u8 ot, .bool os, .int .i64 (on : Int), .slice tb tr.length td] 31)) := ((((Q.refl y).alloc _).trans HY2.out).alloc _)
    refine ⟨?_, heap_new _ _, qy, HY1.out.trans qy, (own_trc HO2.out).keep ((Q.refl y2).alloc _), ?_, ?_⟩
    · refine heap_old _ ?_
      rw [HY2.out.block _ (by rw [hs]; omega)]
      exact heap_new _ _
    · refine row_keep HO1.out fun q hq => qy.block q ?_
      rcases own_blk HO1.out with ⟨rfl, -⟩ | ⟨g, rfl, -, h2⟩
      · simp [Value.ownBlock] at hq
      · simp [Value.ownBlock] at hq
        omega
    · have hB : ∀ b o, tb = some ⟨b, o, none⟩ → y.heap.size + 1 ≤ b ∧ b < y2.heap.size := fun b o e => by
        rcases own_blk HO2.out with ⟨e', -⟩ | ⟨g, e', h2, h3⟩
        · rw [e'] at e; cases e
        · rw [e'] at e
          injection e with e
          injection e with e
          rw [hs] at h2
          omega
      rcases own_blk HO1.out with ⟨-, e1⟩ | ⟨g, e1, h2, h3⟩
      · exact ⟨y2.heap.size + 1, by omega, by omega, by omega, fun b o e => by have := hB b o e; omega, .inl e1⟩
      · exact ⟨g, h2, by omega, by omega, fun b o e => by have := hB b o e; omega, .inr e1⟩
  generalize hW : y2.alloc (.cells #[.bool oh, .int .i64 ox, .int .u8 ot, .bool os, .int .i64 (on : Int), .slice tb tr.length td] 31) = W
  obtain ⟨bA, bB, qyW, qxW, tB, oA, g, g1, g2, g3, g4, g5⟩ := FW.out W hW
  have HW := hideIt (And.intro bA (And.intro bB (And.intro tB (And.intro g1 (And.intro g2 (And.intro g3 g4))))))
  have HL := hideIt (own_len HO2.out)
  have OA := hideIt oA
  have QX := hideIt qxW
  have G5 := hideIt g5
  clear hW FW bA bB qyW qxW tB oA g1 g2 g3 g4 g5
  go_loopw [10] (fun iv z => ∃ (i : Nat) (L : List Int), iv = .int .i64 i ∧ i ≤ tr.length ∧ L.length = tr.length ∧ Q x z ∧ (∀ b, b ≠ g → z.heap[b]? = W.heap[b]?) ∧ z.ownsRow x.heap.size 2 1 (.slice ta L.length tc) L.length (rowI L)) (fun iv _ => tr.length - (intOf iv).toNat)
  case atStart => exact ⟨0, tr, rfl, by omega, rfl, QX.out, fun b _ => rfl, OA.out⟩
  case round =>
    obtain ⟨i, L, rfl, hi, hL, hq, hz, ho⟩ := hrel
    have HQ := hideIt hq
    have HZ := hideIt hz
    have HO := hideIt ho
    have HLL := hideIt hL
    have bA := (hz _ HW.out.2.2.2.2.1.symm).trans HW.out.1
    have a5 : wr.cell? ⟨y.heap.size, 5, none⟩ = some (.slice ta tr.length tc) := cell_of_block bA 5
    clear hq hz ho bA hL
    by_cases hlt : i < tr.length
    · have hkl : (i : Int) < (tr.length : Int) := by omega
      have hlen := HL.out
      obtain ⟨u, hu⟩ := get_of_lt (show i < L.length by rw [HLL.out]; exact hlt)
      rcases G5.out with hnil | rfl
      · rw [hnil] at hlt; simp at hlt
      obtain ⟨g', cap, cur, e0, e1, e2, -, -⟩ := row_at HO.out hu
      injection e0 with e0 e3 e4
      injection e0 with e0
      injection e0 with e0
      subst e0; subst e4
      have c0 : wr.cell? ⟨g, i, none⟩ = some (.int .i64 u) := (cell_of_block e1 i).trans e2
      have f0 : wr.frozen? ⟨g, i, none⟩ = false := free_of_block e1 i
      clear e1 e2 e3 hu
      go_wp2_with (fail)
      go_region_with (fail)
      all_goals
        go_wp2
        go_roundw
        case rel =>
          refine ⟨i + 1, L.set i _, by go_num, by omega, by rw [List.length_set]; exact HLL.out, (HQ.out.set HW.out.2.2.2.1 _).drew, fun b hb => ?_, row_set HO.out i _⟩
          exact (Below.heap_setCell wr ⟨g, i, none⟩ _ b hb).trans (HZ.out b hb)
        case measure => simp [intOf]; omega
    · have bB := (HZ.out _ HW.out.2.2.2.2.2.1.symm).trans HW.out.2.1
      have TB := hideIt (Trc.other HW.out.2.2.1 HW.out.2.2.2.2.2.2 HZ.out)
      have HQz := hideIt (HQ1.out.trans HQ.out)
      have BB := hideIt bB
      obtain ⟨s1, s2, s3, s4⟩ := HB.out wr HQz.out
      clear bB
      have hkl : ¬ (i : Int) < (tr.length : Int) := by omega
      go_wp2_with (first
        | (go_at_call 9; refine Calls.mono (CR.out _ (HC.out _ HQz.out)) ?_; rintro e y3 ⟨t3, t4, rfl, ho, hb⟩; have HO3 := hideIt ho; have HY3 := hideIt hb; have b3 := (hb.block _ (lt_of_some BB.out)).trans BB.out; have r0 := fun ob => (cell_of_block (heap_old ob b3) 0); have r1 := fun ob => (cell_of_block (heap_old ob b3) 1); have r2 := fun ob => (cell_of_block (heap_old ob b3) 2); have r3 := fun ob => (cell_of_block (heap_old ob b3) 3); have r4 := fun ob => (cell_of_block (heap_old ob b3) 4); have r5 := fun ob => (cell_of_block (heap_old ob b3) 5); clear s1 s2 s3 s4 ho hb b3)
        | (go_at_call 11; refine Calls.mono (same_eq _ oh ox ot os on tr tb t3 td t4 HL.out (TB.out.keep (HY3.out.alloc _)) ((own_trc HO3.out).keep ((Q.refl _).alloc _))) ?_; rintro e y4 ⟨rfl, q4⟩; have HY4 := hideIt ((HY3.out.alloc _).trans q4); clear q4)
        | fail)
      go_ret
      exact ⟨rfl, qB.out.trans (HQz.out.trans HY4.out)⟩

end Go.Proofs.Ytnnhgeejghpfbaa
