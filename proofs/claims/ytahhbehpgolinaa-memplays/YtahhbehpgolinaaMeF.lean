/-
  A cell that is 0 now is forgotten (drop): a contract over the program; the conditions: a memory lies there, and that cell isn't 0 in it.
-/
import Derived.Test.YtahhbehpgolinaaMeE
namespace Go.Proofs.Ytahhbehpgolinaa.Me
open Go.RowKit
set_option linter.unusedVariables false
attribute [local go_sem ↓] run_fld0 run_fld1

/-- The same world but for its draws. -/
structure Sm (a b : World) : Prop where
  heap : a.heap = b.heap
  os : a.os = b.os
  tape : a.tape = b.tape
  output : a.output = b.output
theorem Sm.refl (a : World) : Sm a a := ⟨rfl, rfl, rfl, rfl⟩

/-- What drop reads behind the strike; behind its second box; behind its two stores. -/
structure D1 (Z : World) (p g h N i k len lc l hc : Nat) (j mv : Int) : Prop where
  p1 : Z.cell? ⟨p, 1, none⟩ = some (.slice (some ⟨g, 0, none⟩) len lc)
  n0 : Z.cell? ⟨N, 0, none⟩ = some (.int .i64 (i : Int))
  n1 : Z.cell? ⟨N, 1, none⟩ = some (.int .i64 j)
  gs : Z.cell? ⟨g, i * 2 + 1, none⟩ = some (.slice (some ⟨h, 0, none⟩) (l + 1) hc)
  hk : Z.cell? ⟨h, k, none⟩ = some (.int .i64 j)
  hl : Z.cell? ⟨h, l, none⟩ = some (.int .i64 mv)
  n0' : ∀ ob, (Z.alloc ob).cell? ⟨N, 0, none⟩ = some (.int .i64 (i : Int))
  gs' : ∀ ob, (Z.alloc ob).cell? ⟨g, i * 2 + 1, none⟩ = some (.slice (some ⟨h, 0, none⟩) (l + 1) hc)
  hl' : ∀ ob, (Z.alloc ob).cell? ⟨h, l, none⟩ = some (.int .i64 mv)
structure D2 (X : World) (g h N O i k l hc : Nat) (j mv : Int) : Prop where
  gs : X.cell? ⟨g, i * 2 + 1, none⟩ = some (.slice (some ⟨h, 0, none⟩) (l + 1) hc)
  o1 : X.cell? ⟨O, 1, none⟩ = some (.int .i64 mv)
  hk : X.cell? ⟨h, k, none⟩ = some (.int .i64 j)
  hf : X.frozen? ⟨h, k, none⟩ = false
  gf : X.frozen? ⟨g, i * 2 + 1, none⟩ = false
  ne : ¬ h = g
structure D3 (V : World) (p M N O i : Nat) (j mv : Int) : Prop where
  p0 : V.cell? ⟨p, 0, none⟩ = some (.map (some M))
  n0 : V.cell? ⟨N, 0, none⟩ = some (.int .i64 (i : Int))
  n1 : V.cell? ⟨N, 1, none⟩ = some (.int .i64 j)
  o0 : V.cell? ⟨O, 0, none⟩ = some (.int .i64 (i : Int))
  o1 : V.cell? ⟨O, 1, none⟩ = some (.int .i64 mv)

set_option maxRecDepth 100000 in
theorem drop_walk {w : World} (p M g h i k len lc l hc : Nat) (j mv v1 k1 : Int) (hlen : len ≤ 1000000) (hhl : l ≤ 100000000) (hi : i < len) (hk : k < l + 1) (hll : l + 1 ≤ hc) (hcm : hc ≤ 9223372036854775807) (R : World → Prop) (N : Nat) (hN : w.heap.size = N)
    (c0 : (w.alloc (.cells #[.int .i64 (i : Int), .int .i64 j] 31)).cell? ⟨p, 0, none⟩ = some (.map (some M)))
    (f0 : ∃ Z : World, (Builtin.delete_ #[55, 31] 0 #[.map (some M), .agg #[.int .i64 (i : Int), .int .i64 j]]).run Try.prog (w.alloc (.cells #[.int .i64 (i : Int), .int .i64 j] 31)).drew = .ok (.tuple #[]) Z ∧
      ∀ Y : World, Sm Y Z → D1 Y p g h N i k len lc l hc j mv ∧ ∀ X : World, Sm X (Y.alloc (.cells #[.int .i64 (i : Int), .int .i64 mv] 31)) → D2 X g h N Y.heap.size i k l hc j mv ∧
        ∀ V : World, Sm V ((X.setCell ⟨h, k, none⟩ (.int .i64 mv)).setCell ⟨g, i * 2 + 1, none⟩ (.slice (some ⟨h, 0, none⟩) l hc)) → D3 V p M N Y.heap.size i j mv ∧ (mv = j → R V) ∧
          (mv ≠ j → (Instr.lookup 55 (.map (some M)) (.agg #[.int .i64 (i : Int), .int .i64 mv]) false).run Try.prog V.drew = .ok (.agg #[.int .i64 v1, .int .i64 k1]) V.drew ∧
            ∃ Z2, (Instr.mapUpdate 55 (.map (some M)) (.agg #[.int .i64 (i : Int), .int .i64 mv]) (.agg #[.int .i64 v1, .int .i64 (k : Int)])).run Try.prog V.drew = .ok () Z2 ∧ R Z2)) :
    Calls Try.prog 22 #[.pointer (some ⟨p, 0, none⟩), .agg #[.int .i64 (i : Int), .int .i64 j], .int .i64 (k : Int)] w fun e w' => e = .returned (.tuple #[]) ∧ R w' := by
  obtain ⟨Z, z0, hZ⟩ := f0
  obtain ⟨⟨z1, z2, z3, z4, z5, z6, -, -, -⟩, -⟩ := hZ Z (Sm.refl Z)
  have HZ := hideIt hZ
  clear hZ
  have i0 : (0 : Int) ≤ (i : Int) := by omega
  have i1 : (i : Int) < (len : Int) := by omega
  have d1 : decide ((l : Int) < (k : Int)) = false := by simp; omega
  have d2 : decide (l < k) = false := by simp; omega
  have hk1 : (k : Int) < (l : Int) + 1 := by omega
  have hl1 : (l : Int) < (l : Int) + 1 := by omega
  have hl2 : (l : Int) ≤ (hc : Int) := by omega
  go_enter Try.func22, Try.ntmps22
  go_wp2_with (fail)
  go_region
  go_wp2_with (fail)
  go_region
  go_wp2_with (fail)
  go_quiet (fail)
  go_wp2_with (fail)
  generalize hY : Z.drew.drewN nq = Y
  obtain ⟨⟨-, y2, y3, y4, y5, y6, y7, y8, y9⟩, hX⟩ := HZ.out Y (by rw [← hY]; exact ⟨rfl, rfl, rfl, rfl⟩)
  have HX := hideIt hX
  clear hX hY z0 z1 z2 z3 z4 z5 z6
  go_region
  generalize hX : (Y.alloc _).drew = X
  obtain ⟨⟨x1, x2, x3, x4, x5, x6⟩, hV⟩ := HX.out X (by rw [← hX]; exact ⟨rfl, rfl, rfl, rfl⟩)
  obtain ⟨⟨u1, u2, u3, u4, u5⟩, -⟩ := hV _ (Sm.refl _)
  obtain ⟨-, hR1, hR2⟩ := hV (((X.setCell ⟨h, k, none⟩ (.int .i64 mv)).setCell ⟨g, i * 2 + 1, none⟩ (.slice (some ⟨h, 0, none⟩) l hc)).drew) ⟨rfl, rfl, rfl, rfl⟩
  have HR1 := hideIt hR1
  have HR2 := hideIt hR2
  clear hR1 hR2
  generalize Y.heap.size = O at *
  clear hV hX y2 y3 y4 y5 y6 y7 y8 y9
  go_wp2_with (fail)
  go_region
  by_cases hmj : mv = j
  · subst hmj
    go_wp2_with (fail)
    go_end0
    exact ⟨rfl, HR1.out trivial⟩
  · obtain ⟨lk, Z2, up, hz⟩ := HR2.out hmj
    have HZ2 := hideIt hz
    clear hz
    go_wp2_with (fail)
    go_region
    go_wp2_with (fail)
    go_end0
    exact ⟨rfl, HZ2.out⟩

end Go.Proofs.Ytahhbehpgolinaa.Me
