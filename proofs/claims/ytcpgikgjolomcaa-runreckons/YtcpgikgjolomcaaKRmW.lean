/-
  The globals of a run are laid, and its outcome is told: contracts over the program; the conditions: a run lies there, and the code is right.
-/
import Derived.Test.YtcpgikgjolomcaaKRmV
namespace Go.Proofs.Ytcpgikgjolomcaa
open Go.RowKit
set_option linter.unusedVariables false

/-- .. and has its first number. -/
theorem gs_store {w wr w0 : World} {R p gb gc : Nat} {col col2 : Col} {c : PC} {fuel : Nat} {G : GG} {i : Nat} (hr : roomL 65536 c.gl = true) {x v : Int} (hx : c.gl[i]? = some x) (hv : c.ini[i]? = some v) (a1 : RI wr w0 R p gb gc col2 c fuel { glS c i with bs := (glS c (i + 1)).bs } [] G) (a2 : Ex col w col2 wr)
    (a3 : ∃ bl m, (∀ b, bl b → col2 b = some .me) ∧ m ≤ i ∧ Me.MI wr w0.heap.size bl p m (glS c (i + 1)).bs (glS c i).f (((glS c (i + 1)).bs.sum : Nat) : Int)) :
    Calls Try.prog 45 #[.pointer (some ⟨p, 0, none⟩), .agg #[.int .i64 (i : Int), .int .i64 0], .int .i64 v] wr fun e w' => e = .returned (.int .i64 0) ∧ ∃ col', GS w w' w0 R p gb gc col col' c fuel G (i + 1) := by
  obtain ⟨bl, m, b1, b2, b3⟩ := a3
  have hbd := MemOk.bd a1
  have h65 : (i : Int) < 65536 := by have := roomL_len _ _ hr (by decide); have := (List.getElem?_eq_some_iff.1 hx).1; omega
  have h1 := roomL_one _ _ hr x (List.mem_of_getElem? hx)
  have hin : Me.inB (glS c (i + 1)).bs (i : Int) 0 = true := Me.inB_iff.2 ⟨i, 0, x.toNat, rfl, rfl, by
    simp only [glS]
    rw [List.getElem?_map, List.getElem?_take_of_lt (by omega), hx]
    rfl, by omega⟩
  refine (Me.store_ok b3 (i : Int) 0 v hbd.1 hbd.2 (by omega) hin).mono ?_
  rintro e w' ⟨rfl, ⟨bl', d1, d2, d3⟩, d4⟩
  rw [show Me.upd (glS c i).f (i : Int) 0 v = (glS c (i + 1)).f from glF_step hv] at d3
  obtain ⟨col', r1, r2, r3⟩ := a1.setM' (f := (glS c (i + 1)).f) (bs := (glS c (i + 1)).bs) b1 d2 (by show m + 1 ≤ 0 + 70000; omega) d3 d4 a1.sum a1.one
  exact ⟨rfl, col', r1, a2.trans r2, bl', m + 1, r3, by omega, d3⟩

set_option maxRecDepth 100000 in
set_option maxHeartbeats 2000000 in
theorem globals_ri {w w0 : World} {R p gb gc : Nat} {col : Col} {c : PC} {fuel : Nat} {G : GG} (h : GS w w w0 R p gb gc col col c fuel G 0) (hok : c.ok w0) (hr : roomL 65536 c.gl = true) (hli : c.ini.length = c.gl.length) :
    Calls Try.prog 31 #[.pointer (some ⟨R, 0, none⟩)] w fun e w' => e = .returned (.tuple #[]) ∧ ∃ col', GS w w' w0 R p gb gc col col' c fuel G c.gl.length := by
  obtain ⟨c0, -, -⟩ := h.ri.c1
  have hlen : c.gl.length ≤ 9223372036854775807 := hok.gsok.len
  obtain ⟨ga, hga⟩ : ∃ ga, c.ga = ga := ⟨_, rfl⟩
  rw [hga] at c0
  have HGA := hideIt hga
  have HOK := hideIt hok
  have HR := hideIt hr
  have HLI := hideIt hli
  have H0 := hideIt h
  clear h hok hr hga
  go_enter Try.func31, Try.ntmps31
  go_wp2_with (fail)
  go_loopw [12] (fun o wr => ∃ (i : Nat) (col' : Col), o = .int .i64 i ∧ i ≤ c.gl.length ∧ Hid (GS w wr w0 R p gb gc col col' c fuel G i)) (fun o _ => c.gl.length - (intOf o).toNat)
  case atStart => exact ⟨0, col, rfl, Nat.zero_le _, H0⟩
  case round =>
    obtain ⟨i, col', rfl, hi, GI⟩ := hrel
    clear H0 c0
    by_cases hic : i < c.gl.length
    · obtain ⟨x, hx⟩ := get_of_lt hic
      obtain ⟨v, hv⟩ := get_of_lt (l := c.ini) (k := i) (by omega)
      obtain ⟨b1, o1, e1, g1, -⟩ := HOK.out.gl i x hx
      obtain ⟨b2, o2, e2, g2, -⟩ := HOK.out.ini i v hv
      rw [HGA.out] at e1
      subst e1
      rw [Nat.mul_one] at g1 g2
      have bel := GI.out.ri.bel
      have t1 : wr.cell? ⟨b1, o1 + i, none⟩ = some (.int .i64 x) := (bel.cell (p := ⟨b1, o1 + i, none⟩) (World.block_lt_of_cell? w0 _ g1)).trans g1
      have r6 := GI.out.ri.c3.2.2.2
      have AL := hideIt (gs_alloc GI.out HR.out hx)
      have ST := hideIt (fun (y : World) (col2 : Col) => gs_store (wr := y) (w := w) (col := col) (col2 := col2) (G := G) (R := R) (p := p) (gb := gb) (gc := gc) (fuel := fuel) (w0 := w0) HR.out hx hv)
      have hil : (i : Int) < (c.ini.length : Int) := by omega
      have hnl : c.ini.length ≤ 9223372036854775807 := by omega
      have k1 : decide ((i : Int) < (c.gl.length : Int)) = true := by simp; omega
      have k2 : (i : Int) < (c.gl.length : Int) := by omega
      have k3 : IntKind.i64.wrap ((i : Int) + 1) = (i : Int) + 1 := by rw [IntKind.wrap_i64]; omega
      have CF := hideIt (show ∀ (y : World) (col2 : Col) (s2 : St) (A2 : List Int), RI y w0 R p gb gc col2 c fuel s2 A2 G → y.cell? ⟨R, 6, none⟩ = some (.pointer (some ⟨p, 0, none⟩)) ∧ y.cell? ⟨R, 1, none⟩ = some (.slice (some ⟨b2, o2, none⟩) c.ini.length c.nc) ∧ y.cell? ⟨b2, o2 + i, none⟩ = some (.int .i64 v) from fun y col2 s2 A2 hy => ⟨hy.c3.2.2.2, by rw [← e2]; exact hy.c1.2.1, (hy.bel.cell (p := ⟨b2, o2 + i, none⟩) (World.block_lt_of_cell? w0 _ g2)).trans g2⟩)
      clear hx hv g1 g2 bel e2
      go_wp2_with (first | (go_at_call 44; refine AL.out.mono ?_; rintro e y ⟨rfl, col2, a1, a2, a3⟩; have AY := hideIt (And.intro a1 (And.intro a2 a3)); obtain ⟨y6, y1, yv⟩ := CF.out y col2 _ _ a1; clear a1 a2 a3 r6) | fail)
      have SY := hideIt (ST.out y.drew col2 (AY.out.1.keep (Q.refl y).drew) (AY.out.2.1.trans (Ex.q (Q.refl y).drew)) (by
        obtain ⟨bl, m, z1, z2, z3⟩ := AY.out.2.2
        exact ⟨bl, m, z1, z2, z3.below (Q.refl y).drew⟩))
      go_region_held3 (fun z : World => z.cell? ⟨R, 6, none⟩ = some (.pointer (some ⟨p, 0, none⟩)) ∧ z.cell? ⟨R, 1, none⟩ = some (.slice (some ⟨b2, o2, none⟩) c.ini.length c.nc) ∧ z.cell? ⟨b2, o2 + i, none⟩ = some (.int .i64 v)) (go_keep) (first | (go_at_call 45; refine SY.out.mono ?_; rintro e z ⟨rfl, col3, a1⟩; have GZ := hideIt a1; obtain ⟨s1, s2, s3⟩ := CF.out z col3 _ _ a1.ri; clear a1))
      all_goals go_wp2_with (fail)
      all_goals go_roundw
      all_goals first
        | exact ⟨i + 1, col3, by go_num, hic, GZ⟩
        | (simp [intOf]; omega)
    · have e1 : i = c.gl.length := by omega
      subst e1
      have k1 : decide ((c.gl.length : Int) < (c.gl.length : Int)) = false := by simp
      go_wp2_with (fail)
      go_end0
      exact ⟨rfl, col', GI.out⟩

end Go.Proofs.Ytcpgikgjolomcaa
