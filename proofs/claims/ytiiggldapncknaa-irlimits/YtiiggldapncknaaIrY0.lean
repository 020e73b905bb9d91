/-
  The longest code, and one longer: the walk of the statement.
-/
import Derived.Test.YtiiggldapncknaaIrY
namespace Go.Proofs.Ytiiggldapncknaa
open Go.RowKit
set_option linter.unusedVariables false

theorem LongB.q {N i G : Nat} {W W' : World} (h : LongB N i G W) (q : Q W W') : LongB N i G W' := by
  obtain ⟨cs, h1, h2, h3⟩ := h
  exact ⟨cs, (q.block G (Array.getElem?_eq_some_iff.1 h1).1).trans h1, h2, h3⟩
theorem heap_q {X X' : World} {k : Nat} {o : Obj} (q : Q X X') (h : X.heap[k]? = some o) : X'.heap[k]? = some o := (q.block k (Array.getElem?_eq_some_iff.1 h).1).trans h
def CLn (N G g1 g2 : Nat) : PC := lsC [] [] none 0 none 0 (lsF 1 [] none 0 (lsP (List.replicate N x20) (some ⟨G, 0, none⟩) N) g1) g2
theorem CLn_ok {N G g1 g2 : Nat} {W : World} (hN : N ≤ 60000) (h1 : W.heap[g1]? = some (.cells #[.slice (some ⟨G, 0, none⟩) N N, .bool true, .int .i64 0, .int .i64 0, .int .i64 0] 44 (0, 0)))
    (h2 : W.heap[g2]? = some (.cells #[.int .i64 0, .int .i64 1, .slice none 0 0, .slice (some ⟨g1, 0, none⟩) 1 1] 41 (0, 0))) (h3 : LongB N N G W) : (CLn N G g1 g2).ok W := by
  have e : (List.replicate N x20).length = N := by simp
  refine ls_ok (ins := List.replicate N x20) (ia := some ⟨G, 0, none⟩) (ic := N) (by rw [e]; exact h1) h2 ?_ h3.insts (c64 _) (sok_none _) Lst.nil (sok_none _) Lst.nil (sok_none _) Lst.nil
  rw [e]
  exact ⟨Nat.le_refl _, by unfold maxLen; omega, (fun h => by cases h), by omega⟩

structure Fin0 (N1 N2 G k1 k2 G2 m1 m2 bc bd : Nat) (z2 Z : World) : Prop where
  c0 : z2.cell? ⟨bc, 0, none⟩ = some (.slice none 0 0)
  c1 : z2.cell? ⟨bc, 1, none⟩ = some (.slice none 0 0)
  c2 : z2.cell? ⟨bc, 2, none⟩ = some (.slice (some ⟨k2, 0, none⟩) 1 1)
  d0 : z2.cell? ⟨bd, 0, none⟩ = some (.slice none 0 0)
  d1 : z2.cell? ⟨bd, 1, none⟩ = some (.slice none 0 0)
  d2 : ∃ v, z2.cell? ⟨bd, 2, none⟩ = some v
  fd : ∀ j, z2.frozen? ⟨bd, j, none⟩ = false
  fin : Fin (CLn N1 G k1 k2) (CLn N2 G2 m1 m2) bd Z

theorem fin0 {N1 N2 g1 g2 h1 h2 bc bd G k1 k2 G2 m1 m2 : Nat} {w Y z1 z2 : World} (hN1 : N1 ≤ 60000) (hN2 : N2 ≤ 60000) (h : Base g1 g2 h1 h2 bc bd Y) (A : Y.heap.size ≤ k1 ∧ k1 < k2 ∧ k2 < G ∧ z1.heap[k1]? = some (.cells #[.slice (some ⟨G, 0, none⟩) N1 N1, .bool true, .int .i64 0, .int .i64 0, .int .i64 0] 44 (0, 0)) ∧ z1.heap[k2]? = some (.cells #[.int .i64 0, .int .i64 1, .slice none 0 0, .slice (some ⟨k1, 0, none⟩) 1 1] 41 (0, 0)) ∧ LongB N1 N1 G z1 ∧ Q Y z1)
    (B : (((z1.setCell ⟨bc, 0, none⟩ (.slice none 0 0)).setCell ⟨bc, 1, none⟩ (.slice none 0 0)).setCell ⟨bc, 2, none⟩ (.slice (some ⟨k2, 0, none⟩) 1 1)).heap.size ≤ m1 ∧ m1 < m2 ∧ m2 < G2 ∧ z2.heap[m1]? = some (.cells #[.slice (some ⟨G2, 0, none⟩) N2 N2, .bool true, .int .i64 0, .int .i64 0, .int .i64 0] 44 (0, 0)) ∧ z2.heap[m2]? = some (.cells #[.int .i64 0, .int .i64 1, .slice none 0 0, .slice (some ⟨m1, 0, none⟩) 1 1] 41 (0, 0)) ∧ LongB N2 N2 G2 z2 ∧ Q (((z1.setCell ⟨bc, 0, none⟩ (.slice none 0 0)).setCell ⟨bc, 1, none⟩ (.slice none 0 0)).setCell ⟨bc, 2, none⟩ (.slice (some ⟨k2, 0, none⟩) 1 1)) z2) (q : Q w Y) (hg : w.heap.size ≤ g1) : Fin0 N1 N2 G k1 k2 G2 m1 m2 bc bd z2 (((z2.setCell ⟨bd, 0, none⟩ (.slice none 0 0)).setCell ⟨bd, 1, none⟩ (.slice none 0 0)).setCell ⟨bd, 2, none⟩ (.slice (some ⟨m2, 0, none⟩) 1 1)) ∧ Q w (((z2.setCell ⟨bd, 0, none⟩ (.slice none 0 0)).setCell ⟨bd, 1, none⟩ (.slice none 0 0)).setCell ⟨bd, 2, none⟩ (.slice (some ⟨m2, 0, none⟩) 1 1)) := by
  have l1 := h.l1; have l2 := h.l2; have l3 := h.l3; have l4 := h.l4; have l5 := h.l5; have l6 := h.l6
  obtain ⟨p1, p2, p3, p4, p5, p6, p7⟩ := A
  obtain ⟨r1, r2, r3, r4, r5, r6, r7⟩ := B
  generalize hZp : ((z1.setCell ⟨bc, 0, none⟩ (.slice none 0 0)).setCell ⟨bc, 1, none⟩ (.slice none 0 0)).setCell ⟨bc, 2, none⟩ (.slice (some ⟨k2, 0, none⟩) 1 1) = Zp at *
  have hk : ∀ j o, z1.heap[j]? = some o → j ≠ bc → Zp.heap[j]? = some o := fun j o hj hn => by
    rw [← hZp]
    exact heap_set_other (heap_set_other (heap_set_other hj hn) hn) hn
  have hbc : Zp.heap[bc]? = some (.cells #[.slice none 0 0, .slice none 0 0, .slice (some ⟨k2, 0, none⟩) 1 1] 26 (0, 0)) := by
    rw [← hZp]
    exact block_setCell (block_setCell (block_setCell (heap_q p7 h.c) _) _) _
  have hbd : Zp.heap[bd]? = some (.cells #[.slice none 0 0, .slice none 0 0, .slice (some ⟨h2, 0, none⟩) 1 1] 26 (0, 0)) := hk _ _ (heap_q p7 h.d) (by omega)
  have hLZ : LongB N1 N1 G Zp := by
    rw [← hZp]
    exact ((p6.other (by show G ≠ bc; omega)).other (by show G ≠ bc; omega)).other (by show G ≠ bc; omega)
  have hqZ : Q w Zp := by
    rw [← hZp]
    exact (((q.trans p7).set (by show w.heap.size ≤ bc; omega) _).set (by show w.heap.size ≤ bc; omega) _).set (by show w.heap.size ≤ bc; omega) _
  have hsz : Y.heap.size ≤ Zp.heap.size := by rw [← hZp]; have := p7.size; simpa using this
  have c := heap_q r7 hbc
  have d := heap_q r7 hbd
  refine ⟨⟨(cell_of_block c 0).trans rfl, (cell_of_block c 1).trans rfl, (cell_of_block c 2).trans rfl, (cell_of_block d 0).trans rfl, (cell_of_block d 1).trans rfl, ⟨_, (cell_of_block d 2).trans rfl⟩, fun j => free_of_block d j, ?_⟩, ?_⟩
  · have hs : ∀ j o, z2.heap[j]? = some o → j ≠ bd → (((z2.setCell ⟨bd, 0, none⟩ (.slice none 0 0)).setCell ⟨bd, 1, none⟩ (.slice none 0 0)).setCell ⟨bd, 2, none⟩ (.slice (some ⟨m2, 0, none⟩) 1 1)).heap[j]? = some o := fun j o hj hn => heap_set_other (heap_set_other (heap_set_other hj hn) hn) hn
    have hL : ∀ N G, LongB N N G z2 → G ≠ bd → LongB N N G (((z2.setCell ⟨bd, 0, none⟩ (.slice none 0 0)).setCell ⟨bd, 1, none⟩ (.slice none 0 0)).setCell ⟨bd, 2, none⟩ (.slice (some ⟨m2, 0, none⟩) 1 1)) := fun N G hl hn => ((hl.other hn).other hn).other hn
    refine ⟨CLn_ok hN1 (hs _ _ (heap_q r7 (hk _ _ p4 (by omega))) (by omega)) (hs _ _ (heap_q r7 (hk _ _ p5 (by omega))) (by omega)) (hL _ _ (hLZ.q r7) (by omega)),
      CLn_ok hN2 (hs _ _ r4 (by omega)) (hs _ _ r5 (by omega)) (hL _ _ r6 (by omega)), ?_⟩
    exact At.block (cs := [.slice none 0 0, .slice none 0 0, .slice (some ⟨m2, 0, none⟩) 1 1]) (block_setCell (block_setCell (block_setCell d _) _) _)
  · exact (((hqZ.trans r7).set (by show w.heap.size ≤ bd; omega) _).set (by show w.heap.size ≤ bd; omega) _).set (by show w.heap.size ≤ bd; omega) _

set_option maxRecDepth 100000 in
set_option maxHeartbeats 1000000 in
theorem limits0 (x : Int) (w : World) (hx0 : 0 ≤ x) (hr : x % 4 = 0) : Calls Try.prog 6 #[.int .u8 x] w fun e w' => e = .returned (.bool true) ∧ Q w w' := by
  have CA := hideIt (fun X => awake_any X)
  have CL := hideIt (fun X => least_any X)
  have CN : Hid (∀ X, Calls Try.prog 20 #[.int .i64 60000] X fun e w' => Long 59999 X e w') := fun X => by
    have := long_any X 59999 (by omega)
    rw [show ((59999 : Nat) : Int) + 1 = 60000 by decide] at this
    exact this
  have CO : Hid (∀ X, Calls Try.prog 20 #[.int .i64 60001] X fun e w' => Long 60000 X e w') := fun X => by
    have := long_any X 60000 (by omega)
    rw [show ((60000 : Nat) : Int) + 1 = 60001 by decide] at this
    exact this
  obtain ⟨N1, hN1⟩ : ∃ N, N = 59999 := ⟨_, rfl⟩
  obtain ⟨N2, hN2⟩ : ∃ N, N = 60000 := ⟨_, rfl⟩
  have HV1 : Hid (∀ {G g1 g2}, validP (CLn N1 G g1 g2) = 0) := fun {G g1 g2} => by
    have := long_valid N1 G g1 g2 (by omega)
    rw [if_neg (by omega)] at this
    exact this
  have HV2 : Hid (∀ {G g1 g2}, validP (CLn N2 G g1 g2) = 11) := fun {G g1 g2} => by
    have := long_valid N2 G g1 g2 (by omega)
    rw [if_pos (by omega)] at this
    exact this
  rw [← hN1] at CN
  rw [← hN2] at CO
  have L1 : N1 ≤ 60000 := by omega
  have L2 : N2 ≤ 60000 := by omega
  clear hN1 hN2
  go_enter Try.func6, Try.ntmps6
  go_wp2_with (first
      | (go_at_call 7; refine (CA.out _).mono ?_; rintro e x1 ⟨rfl, q1⟩; have HQ1 := hideIt q1; clear q1)
      | (go_at_call 19; refine (CL.out _).mono ?_; first | (have HC1 := HB1; rintro e x3 ⟨h1, h2, m1, m2, rfl, e1, e2, q3⟩; obtain ⟨hb, hqb⟩ := Base.of (e1 := .returned undef) (e2 := .returned undef) HB1.out ⟨m1, m2, e1, e2, q3⟩; clear e1 e2 q3 m1 m2; generalize hbc : x2.heap.size = bc at *; generalize hbd : x3.heap.size = bd at *; obtain ⟨Y, hY⟩ : ∃ Y, x3.alloc (.cells #[.slice none 0 0, .slice none 0 0, .slice (some ⟨h2, 0, none⟩) 1 1] 26) = Y := ⟨_, rfl⟩; rw [hY] at hb hqb; have HB := hideIt hb; have HQB := hideIt (HQ1.out.trans hqb); have HG := hideIt (Nat.le_trans HQ1.out.size HB1.out.1); obtain ⟨⟨c0, c1, c2⟩, ⟨d0, d1, d2⟩, ⟨k1, k2, j1, j2⟩, fz1, fz2, fz3, fz4⟩ := hb.cells; have ca := fun (X : World) (ob : Obj) (b j : Nat) (h : b < X.heap.size) => alloc_cell X ob b j h; have cb := fun (X : World) (ob : Obj) (b j : Nat) (h : b < X.heap.size) => alloc_froz X ob b j h; have hlt1 := hb.l1; have hlt2 := hb.l2; have hlt3 := hb.l3; have hlt4 := hb.l4; have hlt5 := hb.l5; have hlt6 := hb.l6; have s1 : bc < Y.heap.size + 1 := (by omega); have s2 : bd < Y.heap.size + 1 := (by omega); have s3 : g2 < Y.heap.size + 1 := (by omega); have s4 : h2 < Y.heap.size + 1 := (by omega); have t1 : bc < Y.heap.size := (by omega); have t3 : g2 < Y.heap.size := (by omega); have t4 : h2 < Y.heap.size := (by omega); have r1 : bc < Y.heap.size + 1 + 1 := (by omega); have r2 : bd < Y.heap.size + 1 + 1 := (by omega); have r3 : g2 < Y.heap.size + 1 + 1 := (by omega); have r4 : h2 < Y.heap.size + 1 + 1 := (by omega);  clear hb hqb HC1 HB1 HQ1) | (rintro e x2 ⟨g1, g2, l1, l2, rfl, b1, b2, q2⟩; have HB1 := hideIt (And.intro l1 (And.intro l2 (And.intro b1 (And.intro b2 q2)))); clear b1 b2 q2 l1 l2))
      | (go_at_call_of 20 (Value.int IntKind.i64 60000); refine (CN.out _).mono ?_; rintro e z1 ⟨G, k1, k2, a1, a2, a3, rfl, b1, b2, b3, q1⟩; have HZ1 := hideIt (And.intro a1 (And.intro a2 (And.intro a3 (And.intro b1 (And.intro b2 (And.intro b3 q1)))))); have c0' := cell_keep q1 c0; have c1' := cell_keep q1 c1; have c2' := cell_keep q1 c2; have fc : ∀ j, z1.frozen? ⟨bc, j, none⟩ = false := (fun j => by rw [World.frozen?_of_block (q1.block bc t1)]; exact fz1 j); clear c0 c1 c2 b1 b2 b3 q1 a1 a2 a3)
      | (go_at_call_of 20 (Value.int IntKind.i64 60001); refine (CO.out _).mono ?_; rintro e z2 ⟨G2, m1, m2, a1, a2, a3, rfl, b1, b2, b3, q2⟩; have HZ2 := hideIt (And.intro a1 (And.intro a2 (And.intro a3 (And.intro b1 (And.intro b2 (And.intro b3 q2)))))); obtain ⟨f0, hqz⟩ := fin0 L1 L2 HB.out HZ1.out HZ2.out HQB.out HG.out; have FIN := hideIt f0.fin; have QZ := hideIt hqz; have CV1 : Hid (Calls Try.prog 8 #[.agg #[.slice none 0 0, .slice none 0 0, .slice (some ⟨k2, 0, none⟩) 1 1]] (((z2.setCell ⟨bd, 0, none⟩ (.slice none 0 0)).setCell ⟨bd, 1, none⟩ (.slice none 0 0)).setCell ⟨bd, 2, none⟩ (.slice (some ⟨m2, 0, none⟩) 1 1)) fun e w' => e = .returned (.int .i64 0) ∧ Q (((z2.setCell ⟨bd, 0, none⟩ (.slice none 0 0)).setCell ⟨bd, 1, none⟩ (.slice none 0 0)).setCell ⟨bd, 2, none⟩ (.slice (some ⟨m2, 0, none⟩) 1 1)) w') := (by have := valid_any _ (CLn N1 G k1 k2) FIN.out.c; rw [HV1.out] at this; exact this); have CV2 : Hid (∀ X, Q (((z2.setCell ⟨bd, 0, none⟩ (.slice none 0 0)).setCell ⟨bd, 1, none⟩ (.slice none 0 0)).setCell ⟨bd, 2, none⟩ (.slice (some ⟨m2, 0, none⟩) 1 1)) X → Calls Try.prog 8 #[.agg #[.slice none 0 0, .slice none 0 0, .slice (some ⟨m2, 0, none⟩) 1 1]] X fun e w' => e = .returned (.int .i64 11) ∧ Q X w') := (fun X hX => by have := valid_any X (CLn N2 G2 m1 m2) (FIN.out.d.keep hX); rw [HV2.out] at this; exact this); have HDC : Hid (∀ X, Q (((z2.setCell ⟨bd, 0, none⟩ (.slice none 0 0)).setCell ⟨bd, 1, none⟩ (.slice none 0 0)).setCell ⟨bd, 2, none⟩ (.slice (some ⟨m2, 0, none⟩) 1 1)) X → X.cell? ⟨bd, 0, none⟩ = some (.slice none 0 0) ∧ X.cell? ⟨bd, 1, none⟩ = some (.slice none 0 0) ∧ X.cell? ⟨bd, 2, none⟩ = some (.slice (some ⟨m2, 0, none⟩) 1 1)) := (fun X hX => (FIN.out.b.keep hX).three); have y0 := f0.c0; have y1 := f0.c1; have y2 := f0.c2; have y3 := f0.d0; have y4 := f0.d1; obtain ⟨vv, y5⟩ := f0.d2; have y6 := f0.fd; clear f0 hqz d0 d1 d2 c0' c1' c2' fc; clear b1 b2 b3 q2 a1 a2 a3)
      | (go_at_call 8; first | (refine CV1.out.mono ?_; rintro e x5 ⟨rfl, q5⟩; have H5 := hideIt q5; clear y0 y1 y2 y3 y4 y5 y6; obtain ⟨d0, d1, d2⟩ := HDC.out _ q5; clear q5 CV1) | (refine (CV2.out _ H5.out).mono ?_; rintro e x6 ⟨rfl, q6⟩; have H6 := hideIt q6; clear q6)))
  go_ret
  exact ⟨rfl, QZ.out.trans (H5.out.trans H6.out)⟩

end Go.Proofs.Ytiiggldapncknaa
