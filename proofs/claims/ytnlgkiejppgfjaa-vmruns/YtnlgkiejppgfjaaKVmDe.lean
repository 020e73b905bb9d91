/-
  The document's machine (burinref25): a call where there is room: contracts over the program; the conditions: the machine lies there, its program can be run.
-/
import Derived.Test.YtnlgkiejppgfjaaKVmDd
import Derived.Deep.DeepCutAuto
namespace Go.Proofs.Ytnlgkiejppgfjaa
open Go.RowKit Go.Deep
set_option linter.unusedVariables false

namespace Da
abbrev z24 : Array Value := #[.int .i64 0, .int .i64 0, .int .i64 0, .int .i64 0, .int .i64 0, .int .i64 0, .int .i64 0, .int .i64 0, .int .i64 0, .int .i64 0, .int .i64 0, .int .i64 0, .int .i64 0, .int .i64 0, .int .i64 0, .int .i64 0, .int .i64 0, .int .i64 0, .int .i64 0, .int .i64 0, .int .i64 0, .int .i64 0, .int .i64 0, .int .i64 0]
theorem infoDc : (Try.prog.info? 61).map (fun i => (i.zero, i.size, i.bytes)) = some (some (.agg z24), 24, 192) := by kernel_rfl
theorem append_none {P : Program} (w : World) (t tn ty e : TypeId) (i : TypeInfo) (kn : IntKind) (ht : P.underlying t = some (.slice e)) (htn : P.underlying tn = some (.int kn)) (hi : P.info? e = some i) (a : Option Addr) (n c : Nat) (hn : n ≤ c) (hs : 0 < i.size) :
    (Builtin.append_ #[t, tn] ty #[.slice a n c, .int .i64 0]).run P w = .ok (.slice a n c) w := by
  cases a <;> simp [Builtin.append_, ht, htn, hi, underlying, sizeOf, typeInfo, asInt, asIntOf, IntKind.wrap_i64, hn, storeCells]
section
variable {w w' w0 : World} {R : Nat} {col col' : Col} {im : PIm} {mem : List Int} {l : List Dc} {tr : List Int} {hh : Bool} {x t : Int} {sp : Bool} {n : Nat} {cv kv tv : Value}
abbrev newA (pl : Int) (ba : Nat) (k : Nat) (r0 r1 r2 r3 r4 r5 : Int) : Array Value := #[.int .i64 pl, .int .i64 (ba : Int), .int .i64 (k : Int), .int .i64 0, .int .i64 0, .int .i64 0, .int .i64 0, .int .i64 0, .int .i64 0, .int .i64 0, .int .i64 0, .int .i64 0, .int .i64 r0, .int .i64 r1, .int .i64 r2, .int .i64 r3, .int .i64 r4, .int .i64 r5, .int .i64 0, .int .i64 0, .int .i64 0, .int .i64 0, .int .i64 0, .int .i64 0]
abbrev newC (pl ba k an : Nat) (rd : List Int) : Dc := ⟨⟨z8, rd, z6, pl, ba, an⟩, (k : Int), 0⟩
theorem newC_cs (pl ba k an : Nat) (r0 r1 r2 r3 r4 r5 : Int) : (newC pl ba k an [r0, r1, r2, r3, r4, r5]).cs = (newA (pl : Int) ba k r0 r1 r2 r3 r4 r5).toList := rfl
set_option maxRecDepth 100000 in
set_option maxHeartbeats 2000000 in
theorem call_ok (h : DX w w0 R col im mem l tr hh x t sp n cv kv tv) (hok : im.ok w0) (hml : mem.length ≤ 65536) (k f pl an : Nat) (hf : im.fr[k]? = some (f : Int)) (hs : im.st[k]? = some (pl : Int)) (y : Dc) (hy : y.c.ok) (hb : ¬ 65536 - (mem.length : Int) < (f : Int)) (hl : l.length < 2000) :
    Calls Try.prog 18 #[.pointer (some ⟨R, 0, none⟩), .int .i64 (k : Int), .agg y.cs.toArray] w fun e w' => e = .returned (.tuple #[]) ∧ ∃ col' cv' kv', DX w' w0 R col' im (mem ++ List.replicate f 0) (l ++ [newC pl mem.length k an y.c.rd]) tr hh x t sp n cv' kv' tv ∧ Ex col w col' w' := by
  obtain ⟨r0, r1, r2, r3, r4, r5, hrd⟩ := six_of hy.rd
  have hr : ∀ (j : Nat) (u : Int), [r0, r1, r2, r3, r4, r5][j]? = some u → y.cs.toArray[18 + j]? = some (.int .i64 u) := fun j u hu => by
    rw [← hrd] at hu
    rw [List.getElem?_toArray]
    exact Dc.rdAt hy hu
  rw [hrd]
  generalize y.cs.toArray = A at *
  clear hrd hy
  have hq : Q w (w.alloc (.cells A 61)) := (Q.refl w).alloc _
  have h' : DX (w.alloc (.cells A 61)) w0 R col im mem l tr hh x t sp n cv kv tv := h.keep hq
  have qq : Q w0 (w.alloc (.cells A 61)) := h'.bel
  have hbx : (w.alloc (.cells A 61)).heap[w.heap.size]? = some (.cells A 61 (0, 0)) := heap_new w _
  have e0 := (cell_of_block hbx 18).trans (hr 0 r0 rfl)
  have e1 := (cell_of_block hbx 19).trans (hr 1 r1 rfl)
  have e2 := (cell_of_block hbx 20).trans (hr 2 r2 rfl)
  have e3 := (cell_of_block hbx 21).trans (hr 3 r3 rfl)
  have e4 := (cell_of_block hbx 22).trans (hr 4 r4 rfl)
  have e5 := (cell_of_block hbx 23).trans (hr 5 r5 rfl)
  clear hr hbx
  obtain ⟨-, c1, c2, -, c4, c5, -⟩ := h'.c0
  have f5 := h'.fz 5
  obtain ⟨fb, fo, ef, hc⟩ := Ints.at (hok.keep qq).fr hf
  obtain ⟨sb, so, es, hc2⟩ := Ints.at (hok.keep qq).st hs
  rw [ef] at c2
  rw [es] at c1
  have hkl := (List.getElem?_eq_some_iff.1 hf).1
  have hkl2 := (List.getElem?_eq_some_iff.1 hs).1
  have hfl := hok.fsok.len
  have hsl := hok.ssok.len
  have hi : (k : Int) < (im.fr.length : Int) := by omega
  have hi2 : (k : Int) < (im.st.length : Int) := by omega
  obtain ⟨ca, cc, ecv, hcc, -⟩ := own_form h.mo
  subst ecv
  obtain ⟨ka, kc, ekv, hkc, -⟩ := own_form h.ko
  subst ekv
  have z1 : IntKind.i64.wrap (65536 - (mem.length : Int)) = 65536 - (mem.length : Int) := by rw [IntKind.wrap_i64]; omega
  have hd : decide (65536 - (mem.length : Int) < (f : Int)) = false := by simpa using hb
  have hd2 : decide (2000 ≤ (l.length : Int)) = false := by simp; omega
  have HE := hideIt (show Ex col w col (w.alloc (.cells A 61)) from Ex.q hq)
  have HD := hideIt h'
  have BS := hideIt (show w0.heap.size ≤ w.heap.size from h.bel.size)
  have CB := hideIt (show col w.heap.size = none from h.fresh (Nat.le_refl _))
  have CS := hideIt (show col sb = none from by
    obtain ⟨b', o', eb, hcz⟩ := Ints.at hok.st hs
    rw [es] at eb
    injection eb with eb
    injection eb with eb
    subst eb
    have hlt := World.block_lt_of_cell? w0 _ hcz
    cases e : col sb with
    | none => rfl
    | some τ => have := (h.lt sb τ e).1; simp at hlt; omega)
  clear h h' qq hq hok hf hs
  obtain ⟨i0, hi0, hz0, hy0, hs0⟩ := info_parts infoDc
  have HT := hideIt (And.intro hi0 (And.intro hz0 (And.intro hy0 hs0)))
  clear hi0 hz0 hy0 hs0
  have c5d : (w.alloc (.cells A 61)).drew.cell? ⟨R, 5, none⟩ = some (.slice ka l.length kc) := c5
  have c5a : ∀ ob, ((w.alloc (.cells A 61)).alloc ob).cell? ⟨R, 5, none⟩ = some (.slice ka l.length kc) := fun ob => (HD.out.keep ((Q.refl (w.alloc (.cells A 61))).alloc ob)).c0.2.2.2.2.2.1
  have KX := hideIt (fun X (q : Q (w.alloc (.cells A 61)) X) => HD.out.keep q)
  have ONE := hideIt (show ∀ u ∈ (newA (pl : Int) mem.length k r0 r1 r2 r3 r4 r5).toList, u.oneCell' = true from fun u hu => by
    rw [← newC_cs pl mem.length k an] at hu
    exact Dc.one _ u hu)
  have ML := hideIt (show l.length + 1 ≤ maxLen ∧ (l.length + 1) * 192 ≤ 140737488355328 by unfold maxLen; omega)
  have NEW := hideIt (show ∀ (u : Nat) (ob : Obj), (((w.alloc (.cells A 61)).drewN u).alloc ob).heap[w.heap.size + 1]? = some ob from fun u ob => heap_at (by simp))
  have ES := hideIt es
  have KS := hideIt (show ∀ X, Q (w.alloc (.cells A 61)) X → (fun Y => Y.cell? ⟨R, 1, none⟩ = some (.slice (some ⟨sb, so, none⟩) im.st.length im.sc) ∧ Y.cell? ⟨sb, so + k, none⟩ = some (.int .i64 (pl : Int)) ∧ Y.cell? ⟨R, 4, none⟩ = some (.slice ca mem.length cc) ∧ Y.cell? ⟨w.heap.size, 18, none⟩ = some (.int .i64 r0) ∧ Y.cell? ⟨w.heap.size, 19, none⟩ = some (.int .i64 r1) ∧ Y.cell? ⟨w.heap.size, 20, none⟩ = some (.int .i64 r2) ∧ Y.cell? ⟨w.heap.size, 21, none⟩ = some (.int .i64 r3) ∧ Y.cell? ⟨w.heap.size, 22, none⟩ = some (.int .i64 r4) ∧ Y.cell? ⟨w.heap.size, 23, none⟩ = some (.int .i64 r5)) X from fun X q => ⟨cell_keep q c1, cell_keep q hc2, cell_keep q c4, cell_keep q e0, cell_keep q e1, cell_keep q e2, cell_keep q e3, cell_keep q e4, cell_keep q e5⟩)
  clear es
  have FIN := hideIt (show ∀ X y g cap, Q (w.alloc (.cells A 61)) X → y.ownsRow w0.heap.size 61 24 (.slice (some ⟨g, 0, none⟩) (l.length + 1) cap) (l.length + 1) (rowK l ++ (newA (pl : Int) mem.length k r0 r1 r2 r3 r4 r5).toList) → X.grownBy y (Value.slice ka l.length kc).ownBlock → ((Value.slice ka l.length kc).ownBlock = some g ∨ g = X.heap.size) → y.cell? ⟨R, 5, none⟩ = some (.slice ka l.length kc) ∧ y.frozen? ⟨R, 5, none⟩ = false ∧ ((fun Y => Y.cell? ⟨R, 1, none⟩ = some (.slice (some ⟨sb, so, none⟩) im.st.length im.sc) ∧ Y.cell? ⟨sb, so + k, none⟩ = some (.int .i64 (pl : Int)) ∧ Y.cell? ⟨R, 4, none⟩ = some (.slice ca mem.length cc) ∧ Y.cell? ⟨w.heap.size, 18, none⟩ = some (.int .i64 r0) ∧ Y.cell? ⟨w.heap.size, 19, none⟩ = some (.int .i64 r1) ∧ Y.cell? ⟨w.heap.size, 20, none⟩ = some (.int .i64 r2) ∧ Y.cell? ⟨w.heap.size, 21, none⟩ = some (.int .i64 r3) ∧ Y.cell? ⟨w.heap.size, 22, none⟩ = some (.int .i64 r4) ∧ Y.cell? ⟨w.heap.size, 23, none⟩ = some (.int .i64 r5)) y ∧ (fun Y => Y.cell? ⟨R, 1, none⟩ = some (.slice (some ⟨sb, so, none⟩) im.st.length im.sc) ∧ Y.cell? ⟨sb, so + k, none⟩ = some (.int .i64 (pl : Int)) ∧ Y.cell? ⟨R, 4, none⟩ = some (.slice ca mem.length cc) ∧ Y.cell? ⟨w.heap.size, 18, none⟩ = some (.int .i64 r0) ∧ Y.cell? ⟨w.heap.size, 19, none⟩ = some (.int .i64 r1) ∧ Y.cell? ⟨w.heap.size, 20, none⟩ = some (.int .i64 r2) ∧ Y.cell? ⟨w.heap.size, 21, none⟩ = some (.int .i64 r3) ∧ Y.cell? ⟨w.heap.size, 22, none⟩ = some (.int .i64 r4) ∧ Y.cell? ⟨w.heap.size, 23, none⟩ = some (.int .i64 r5)) (y.setCell ⟨R, 5, none⟩ (.slice (some ⟨g, 0, none⟩) (l.length + 1) cap))) ∧ ∃ col', Hid (DX (y.setCell ⟨R, 5, none⟩ (.slice (some ⟨g, 0, none⟩) (l.length + 1) cap)) w0 R col' im mem (l ++ [newC pl mem.length k an [r0, r1, r2, r3, r4, r5]]) tr hh x t sp n (.slice ca mem.length cc) (.slice (some ⟨g, 0, none⟩) (l.length + 1) cap) tv) ∧ Hid (Ex col w col' (y.setCell ⟨R, 5, none⟩ (.slice (some ⟨g, 0, none⟩) (l.length + 1) cap))) from fun X y g cap q o gr at_ => by
    have hX := KX.out X q
    obtain ⟨b0, col', m1, m2⟩ := hX.growK (v' := .slice (some ⟨g, 0, none⟩) (l.length + 1) cap) (l' := l ++ [newC pl mem.length k an [r0, r1, r2, r3, r4, r5]]) gr (by rw [rowK_app, rowK_one, newC_cs, List.length_append]; exact o) ⟨g, rfl, at_.imp id (fun e => by omega)⟩
    have e5' : y.heap.size = (y.setCell ⟨R, 5, none⟩ (.slice (some ⟨g, 0, none⟩) (l.length + 1) cap)).heap.size := (World.size_setCell _ _ _).symm
    have ba : ∀ Z col9, Ex col (w.alloc (.cells A 61)) col9 Z → (Z.cell? ⟨sb, so + k, none⟩ = some (.int .i64 (pl : Int)) ∧ Z.cell? ⟨w.heap.size, 18, none⟩ = some (.int .i64 r0) ∧ Z.cell? ⟨w.heap.size, 19, none⟩ = some (.int .i64 r1) ∧ Z.cell? ⟨w.heap.size, 20, none⟩ = some (.int .i64 r2) ∧ Z.cell? ⟨w.heap.size, 21, none⟩ = some (.int .i64 r3) ∧ Z.cell? ⟨w.heap.size, 22, none⟩ = some (.int .i64 r4) ∧ Z.cell? ⟨w.heap.size, 23, none⟩ = some (.int .i64 r5)) := fun Z col9 E => ⟨E.cell CS.out (KS.out _ (Q.refl _)).2.1, E.cell CB.out (KS.out _ (Q.refl _)).2.2.2.1, E.cell CB.out (KS.out _ (Q.refl _)).2.2.2.2.1, E.cell CB.out (KS.out _ (Q.refl _)).2.2.2.2.2.1, E.cell CB.out (KS.out _ (Q.refl _)).2.2.2.2.2.2.1, E.cell CB.out (KS.out _ (Q.refl _)).2.2.2.2.2.2.2.1, E.cell CB.out (KS.out _ (Q.refl _)).2.2.2.2.2.2.2.2⟩
    have E1 := (Ex.q (c0 := col) q).trans (ex_grown (v' := .slice (some ⟨g, 0, none⟩) (l.length + 1) cap) gr hX.koc)
    have E2 := (Ex.q (c0 := col) q).trans m2
    obtain ⟨d1, -, -, d4, -⟩ := m1.c0
    refine ⟨cell_of_block b0 5, free_of_block b0 5, ⟨⟨?_, (ba _ _ E1).1, cell_of_block b0 4, (ba _ _ E1).2⟩, ⟨?_, (ba _ _ E2).1, m1.c0.2.2.2.2.1, (ba _ _ E2).2⟩⟩, col', m1, (HE.out.trans (Ex.q q)).trans m2⟩
    · rw [← ES.out]; exact cell_of_block b0 1
    · rw [← ES.out]; exact m1.c0.2.1)
  go_enter Try.func18, Try.ntmps18
  go_upto_region 4 with (fail)
  go_cut [] (fun W9 => ∃ g cap col', Hid (DX W9 w0 R col' im mem (l ++ [newC pl mem.length k an [r0, r1, r2, r3, r4, r5]]) tr hh x t sp n (.slice ca mem.length cc) (.slice (some ⟨g, 0, none⟩) (l.length + 1) cap) tv) ∧ Hid (Ex col w col' W9))
  case first =>
    -- region 4
    refine wp_region_held_drew (S := fun Y => Y.cell? ⟨R, 1, none⟩ = some (.slice (some ⟨sb, so, none⟩) im.st.length im.sc) ∧ Y.cell? ⟨sb, so + k, none⟩ = some (.int .i64 (pl : Int)) ∧ Y.cell? ⟨R, 4, none⟩ = some (.slice ca mem.length cc) ∧ Y.cell? ⟨w.heap.size, 18, none⟩ = some (.int .i64 r0) ∧ Y.cell? ⟨w.heap.size, 19, none⟩ = some (.int .i64 r1) ∧ Y.cell? ⟨w.heap.size, 20, none⟩ = some (.int .i64 r2) ∧ Y.cell? ⟨w.heap.size, 21, none⟩ = some (.int .i64 r3) ∧ Y.cell? ⟨w.heap.size, 22, none⟩ = some (.int .i64 r4) ∧ Y.cell? ⟨w.heap.size, 23, none⟩ = some (.int .i64 r5)) (by kernel_rfl) (KS.out _ (by first | exact ((Q.refl (w.alloc (.cells A 61))).alloc _).drew | exact (Q.refl (w.alloc (.cells A 61))).drew.alloc _ | exact (Q.refl (w.alloc (.cells A 61))).alloc _ | exact (Q.refl (w.alloc (.cells A 61))).drew | exact Q.refl (w.alloc (.cells A 61)))) (fun hHeld => ?_)
    refine wpAnyH_take (i := 0) (oi := ⟨_, _, _, _, _, _⟩) (v := ?_) rfl (by kernel_rfl) (by kernel_rfl) (by kernel_rfl) (fun _ _ _ h => h) (Or.inl ⟨by rfl, ?_⟩) (by assumption) ?_
    rotate_left 1
    · intro w hSw; (try dsimp only at hSw); go_simp; all_goals with_reducible rfl
    try simp only [Act.put, List.setIfInBounds_toArray, List.set_cons_zero, List.set_cons_succ]
    refine wpAnyH_take (i := 1) (oi := ⟨_, _, _, _, _, _⟩) (v := ?_) rfl (by kernel_rfl) (by kernel_rfl) (by kernel_rfl) (fun _ _ _ h => h) (Or.inl ⟨by rfl, ?_⟩) (by assumption) ?_
    rotate_left 1
    · intro w hSw; (try dsimp only at hSw); go_simp; all_goals with_reducible rfl
    try simp only [Act.put, List.setIfInBounds_toArray, List.set_cons_zero, List.set_cons_succ]
    refine wpAnyH_take (i := 2) (oi := ⟨_, _, _, _, _, _⟩) (v := ?_) rfl (by kernel_rfl) (by kernel_rfl) (by kernel_rfl) (fun _ _ _ h => h) (Or.inl ⟨by rfl, ?_⟩) (by assumption) ?_
    rotate_left 1
    · intro w hSw; (try dsimp only at hSw); go_simp; all_goals with_reducible rfl
    try simp only [Act.put, List.setIfInBounds_toArray, List.set_cons_zero, List.set_cons_succ]
    refine wpAnyH_take (i := 3) (oi := ⟨_, _, _, _, _, _⟩) (v := ?_) rfl (by kernel_rfl) (by kernel_rfl) (by kernel_rfl) (fun _ _ _ h => h) (Or.inl ⟨by rfl, ?_⟩) (by assumption) ?_
    rotate_left 1
    · intro w hSw; (try dsimp only at hSw); go_simp; all_goals with_reducible rfl
    try simp only [Act.put, List.setIfInBounds_toArray, List.set_cons_zero, List.set_cons_succ]
    refine wpAnyH_take (i := 5) (oi := ⟨_, _, _, _, _, _⟩) (v := ?_) rfl (by kernel_rfl) (by kernel_rfl) (by kernel_rfl) (fun _ _ _ h => h) (Or.inl ⟨by rfl, ?_⟩) (by assumption) ?_
    rotate_left 1
    · intro w hSw; (try dsimp only at hSw); go_simp; all_goals with_reducible rfl
    try simp only [Act.put, List.setIfInBounds_toArray, List.set_cons_zero, List.set_cons_succ]
    refine wpAnyH_take (i := 6) (oi := ⟨_, _, _, _, _, _⟩) (v := ?_) rfl (by kernel_rfl) (by kernel_rfl) (by kernel_rfl) (fun _ _ _ h => h) (Or.inl ⟨by rfl, ?_⟩) (by assumption) ?_
    rotate_left 1
    · intro w hSw; (try dsimp only at hSw); go_simp; all_goals with_reducible rfl
    try simp only [Act.put, List.setIfInBounds_toArray, List.set_cons_zero, List.set_cons_succ]
    refine wpAnyH_take (i := 7) (oi := ⟨_, _, _, _, _, _⟩) (v := ?_) rfl (by kernel_rfl) (by kernel_rfl) (by kernel_rfl) (fun _ _ _ h => h) (Or.inl ⟨by rfl, ?_⟩) (by assumption) ?_
    rotate_left 1
    · intro w hSw; (try dsimp only at hSw); go_simp; all_goals with_reducible rfl
    try simp only [Act.put, List.setIfInBounds_toArray, List.set_cons_zero, List.set_cons_succ]
    refine wpAnyH_take (i := 8) (oi := ⟨_, _, _, _, _, _⟩) (v := ?_) rfl (by kernel_rfl) (by kernel_rfl) (by kernel_rfl) (fun _ _ _ h => h) (Or.inl ⟨by rfl, ?_⟩) (by assumption) ?_
    rotate_left 1
    · intro w hSw; (try dsimp only at hSw); go_simp; all_goals with_reducible rfl
    try simp only [Act.put, List.setIfInBounds_toArray, List.set_cons_zero, List.set_cons_succ]
    refine wpAnyH_take (i := 9) (oi := ⟨_, _, _, _, _, _⟩) (v := ?_) rfl (by kernel_rfl) (by kernel_rfl) (by kernel_rfl) (fun _ _ _ h => h) (Or.inl ⟨by rfl, ?_⟩) (by assumption) ?_
    rotate_left 1
    · intro w hSw; (try dsimp only at hSw); go_simp; all_goals with_reducible rfl
    try simp only [Act.put, List.setIfInBounds_toArray, List.set_cons_zero, List.set_cons_succ]
    refine wpAnyH_take (i := 10) (oi := ⟨_, _, _, _, _, _⟩) (v := ?_) rfl (by kernel_rfl) (by kernel_rfl) (by kernel_rfl) (fun _ _ _ h => h) (Or.inl ⟨by rfl, ?_⟩) (by assumption) ?_
    rotate_left 1
    · intro w hSw; (try dsimp only at hSw); go_simp; all_goals with_reducible rfl
    try simp only [Act.put, List.setIfInBounds_toArray, List.set_cons_zero, List.set_cons_succ]
    refine wpAnyH_take (i := 11) (oi := ⟨_, _, _, _, _, _⟩) (v := ?_) rfl (by kernel_rfl) (by kernel_rfl) (by kernel_rfl) (fun _ _ _ h => h) (Or.inl ⟨by rfl, ?_⟩) (by assumption) ?_
    rotate_left 1
    · intro w hSw; (try dsimp only at hSw); go_simp; all_goals with_reducible rfl
    try simp only [Act.put, List.setIfInBounds_toArray, List.set_cons_zero, List.set_cons_succ]
    refine wpAnyH_take (i := 12) (oi := ⟨_, _, _, _, _, _⟩) (v := ?_) rfl (by kernel_rfl) (by kernel_rfl) (by kernel_rfl) (fun _ _ _ h => h) (Or.inl ⟨by rfl, ?_⟩) (by assumption) ?_
    rotate_left 1
    · intro w hSw; (try dsimp only at hSw); go_simp; all_goals with_reducible rfl
    try simp only [Act.put, List.setIfInBounds_toArray, List.set_cons_zero, List.set_cons_succ]
    refine wpAnyH_take (i := 13) (oi := ⟨_, _, _, _, _, _⟩) (v := ?_) rfl (by kernel_rfl) (by kernel_rfl) (by kernel_rfl) (fun _ _ _ h => h) (Or.inl ⟨by rfl, ?_⟩) (by assumption) ?_
    rotate_left 1
    · intro w hSw; (try dsimp only at hSw); go_simp; all_goals with_reducible rfl
    try simp only [Act.put, List.setIfInBounds_toArray, List.set_cons_zero, List.set_cons_succ]
    refine wpAnyH_take (i := 14) (oi := ⟨_, _, _, _, _, _⟩) (v := ?_) rfl (by kernel_rfl) (by kernel_rfl) (by kernel_rfl) (fun _ _ _ h => h) (Or.inl ⟨by rfl, ?_⟩) (by assumption) ?_
    rotate_left 1
    · intro w hSw; (try dsimp only at hSw); go_simp; all_goals with_reducible rfl
    try simp only [Act.put, List.setIfInBounds_toArray, List.set_cons_zero, List.set_cons_succ]
    refine wpAnyH_take (i := 15) (oi := ⟨_, _, _, _, _, _⟩) (v := ?_) rfl (by kernel_rfl) (by kernel_rfl) (by kernel_rfl) (fun _ _ _ h => h) (Or.inl ⟨by rfl, ?_⟩) (by assumption) ?_
    rotate_left 1
    · intro w hSw; (try dsimp only at hSw); go_simp; all_goals with_reducible rfl
    try simp only [Act.put, List.setIfInBounds_toArray, List.set_cons_zero, List.set_cons_succ]
    refine wpAnyH_take (i := 16) (oi := ⟨_, _, _, _, _, _⟩) (v := ?_) rfl (by kernel_rfl) (by kernel_rfl) (by kernel_rfl) (fun _ _ _ h => h) (Or.inl ⟨by rfl, ?_⟩) (by assumption) ?_
    rotate_left 1
    · intro w hSw; (try dsimp only at hSw); go_simp; all_goals with_reducible rfl
    try simp only [Act.put, List.setIfInBounds_toArray, List.set_cons_zero, List.set_cons_succ]
    refine wpAnyH_take (i := 17) (oi := ⟨_, _, _, _, _, _⟩) (v := ?_) rfl (by kernel_rfl) (by kernel_rfl) (by kernel_rfl) (fun _ _ _ h => h) (Or.inl ⟨by rfl, ?_⟩) (by assumption) ?_
    rotate_left 1
    · intro w hSw; (try dsimp only at hSw); go_simp; all_goals with_reducible rfl
    try simp only [Act.put, List.setIfInBounds_toArray, List.set_cons_zero, List.set_cons_succ]
    refine wpAnyH_take (i := 18) (oi := ⟨_, _, _, _, _, _⟩) (v := ?_) rfl (by kernel_rfl) (by kernel_rfl) (by kernel_rfl) (fun _ _ _ h => h) (Or.inl ⟨by rfl, ?_⟩) (by assumption) ?_
    rotate_left 1
    · intro w hSw; (try dsimp only at hSw); go_simp; all_goals with_reducible rfl
    try simp only [Act.put, List.setIfInBounds_toArray, List.set_cons_zero, List.set_cons_succ]
    refine wpAnyH_take (i := 19) (oi := ⟨_, _, _, _, _, _⟩) (v := ?_) rfl (by kernel_rfl) (by kernel_rfl) (by kernel_rfl) (fun _ _ _ h => h) (Or.inl ⟨by rfl, ?_⟩) (by assumption) ?_
    rotate_left 1
    · intro w hSw; (try dsimp only at hSw); go_simp; all_goals with_reducible rfl
    try simp only [Act.put, List.setIfInBounds_toArray, List.set_cons_zero, List.set_cons_succ]
    refine wpAnyH_take (i := 20) (oi := ⟨_, _, _, _, _, _⟩) (v := ?_) rfl (by kernel_rfl) (by kernel_rfl) (by kernel_rfl) (fun _ _ _ h => h) (Or.inl ⟨by rfl, ?_⟩) (by assumption) ?_
    rotate_left 1
    · intro w hSw; (try dsimp only at hSw); go_simp; all_goals with_reducible rfl
    try simp only [Act.put, List.setIfInBounds_toArray, List.set_cons_zero, List.set_cons_succ]
    refine wpAnyH_take (i := 21) (oi := ⟨_, _, _, _, _, _⟩) (v := ?_) rfl (by kernel_rfl) (by kernel_rfl) (by kernel_rfl) (fun _ _ _ h => h) (Or.inl ⟨by rfl, ?_⟩) (by assumption) ?_
    rotate_left 1
    · intro w hSw; (try dsimp only at hSw); go_simp; all_goals with_reducible rfl
    try simp only [Act.put, List.setIfInBounds_toArray, List.set_cons_zero, List.set_cons_succ]
    refine wpAnyH_ready (rs := [4, 22]) (by kernel_rfl) (by simp) (AllReadyH.cons (o := ⟨_, _, _, _, _, _⟩) rfl (fun K hK => ?_) (AllReadyH.cons (o := ⟨_, _, _, _, _, _⟩) rfl (fun K hK => ?_) AllReadyH.nil))
    · go_simp
      refine hK.out _ _ ?_ (fun hHeld => ?_)
      · exact KS.out _ (by first | exact ((Q.refl (w.alloc (.cells A 61))).alloc _).drew | exact (Q.refl (w.alloc (.cells A 61))).drew.alloc _ | exact (Q.refl (w.alloc (.cells A 61))).alloc _ | exact (Q.refl (w.alloc (.cells A 61))).drew | exact Q.refl (w.alloc (.cells A 61)))
      clear hK K
      try simp only [Act.put, List.setIfInBounds_toArray, List.set_cons_zero, List.set_cons_succ]
      refine wpAnyH_ready (rs := [22]) (by kernel_rfl) (by simp) (AllReadyH.cons (o := ⟨_, _, _, _, _, _⟩) rfl (fun K hK => ?_) AllReadyH.nil)
      go_simp
      refine hK.out _ _ ?_ (fun hHeld => ?_)
      · exact KS.out _ (by first | exact ((Q.refl (w.alloc (.cells A 61))).alloc _).drew | exact (Q.refl (w.alloc (.cells A 61))).drew.alloc _ | exact (Q.refl (w.alloc (.cells A 61))).alloc _ | exact (Q.refl (w.alloc (.cells A 61))).drew | exact Q.refl (w.alloc (.cells A 61)))
      clear hK K
      try simp only [Act.put, List.setIfInBounds_toArray, List.set_cons_zero, List.set_cons_succ]
      refine wpAnyH_ready (rs := [23]) (by kernel_rfl) (by simp) (AllReadyH.cons (o := ⟨_, _, _, _, _, _⟩) rfl (fun K hK => ?_) AllReadyH.nil)
      refine step_append_lies _ (by rfl) _ _ 54 (by rfl) w0.heap.size 61 i0 (.agg z24) 24 192 Try.underlying54 HT.out.1 HT.out.2.1 HT.out.2.2.1 HT.out.2.2.2 rfl (by decide) (.slice ka l.length kc) l.length (rowK l) (by rfl) (KX.out _ (by first | exact ((Q.refl (w.alloc (.cells A 61))).alloc _).drew | exact (Q.refl (w.alloc (.cells A 61))).drew.alloc _ | exact (Q.refl (w.alloc (.cells A 61))).alloc _ | exact (Q.refl (w.alloc (.cells A 61))).drew | exact Q.refl (w.alloc (.cells A 61)))).ko ⟨w.heap.size + 1, 0, none⟩ 1 1 (newA (pl : Int) mem.length k r0 r1 r2 r3 r4 r5).toList (by rfl) rfl (World.news_of_block (by first | exact NEW.out 1 _ | exact NEW.out 0 _)) ONE.out (by decide) ML.out.1 ML.out.2 (by have := BS.out; simp; omega) _ rfl ?_; intro g cap y o gr at_ lt; obtain ⟨y5, yf, ky, fin⟩ := FIN.out _ y g cap (by first | exact ((Q.refl (w.alloc (.cells A 61))).alloc _).drew | exact (Q.refl (w.alloc (.cells A 61))).drew.alloc _ | exact (Q.refl (w.alloc (.cells A 61))).alloc _ | exact (Q.refl (w.alloc (.cells A 61))).drew | exact Q.refl (w.alloc (.cells A 61))) o gr at_; have HF := hideIt fin; have HY := hideIt ky; clear o gr at_ fin lt ky
      refine hK.out _ _ ?_ (fun hHeld => ?_)
      · exact HY.out.1
      clear hK K
      try simp only [Act.put, List.setIfInBounds_toArray, List.set_cons_zero, List.set_cons_succ]
      refine wpAnyH_take (i := 24) (oi := ⟨_, _, _, _, _, _⟩) (v := ?_) rfl (by kernel_rfl) (by kernel_rfl) (by kernel_rfl) (fun _ _ _ h => h) (Or.inl ⟨by rfl, ?_⟩) (by assumption) ?_
      rotate_left 1
      · intro w hSw; (try dsimp only at hSw); go_simp; all_goals with_reducible rfl
      try simp only [Act.put, List.setIfInBounds_toArray, List.set_cons_zero, List.set_cons_succ]
      refine wpAnyH_take (i := 25) (oi := ⟨_, _, _, _, _, _⟩) (v := ?_) rfl (by kernel_rfl) (by kernel_rfl) (by kernel_rfl) (fun _ _ _ h => h) (Or.inl ⟨by rfl, ?_⟩) (by assumption) ?_
      rotate_left 1
      · intro w hSw; (try dsimp only at hSw); go_simp; all_goals with_reducible rfl
      try simp only [Act.put, List.setIfInBounds_toArray, List.set_cons_zero, List.set_cons_succ]
      refine wpAnyH_ready (rs := [26]) (by kernel_rfl) (by simp) (AllReadyH.cons (o := ⟨_, _, _, _, _, _⟩) rfl (fun K hK => ?_) AllReadyH.nil)
      go_simp
      refine hK.out _ _ ?_ (fun hHeld => ?_)
      · exact HY.out.2
      clear hK K
      try simp only [Act.put, List.setIfInBounds_toArray, List.set_cons_zero, List.set_cons_succ]
      refine wpAnyH_done (by kernel_rfl) ?_ _
      go_wp2_with (fail)
      go_meet
      exact ⟨g, cap, HF.out⟩
    · go_simp
      refine hK.out _ _ ?_ (fun hHeld => ?_)
      · exact KS.out _ (by first | exact ((Q.refl (w.alloc (.cells A 61))).alloc _).drew | exact (Q.refl (w.alloc (.cells A 61))).drew.alloc _ | exact (Q.refl (w.alloc (.cells A 61))).alloc _ | exact (Q.refl (w.alloc (.cells A 61))).drew | exact Q.refl (w.alloc (.cells A 61)))
      clear hK K
      try simp only [Act.put, List.setIfInBounds_toArray, List.set_cons_zero, List.set_cons_succ]
      refine wpAnyH_ready (rs := [4]) (by kernel_rfl) (by simp) (AllReadyH.cons (o := ⟨_, _, _, _, _, _⟩) rfl (fun K hK => ?_) AllReadyH.nil)
      go_simp
      refine hK.out _ _ ?_ (fun hHeld => ?_)
      · exact KS.out _ (by first | exact ((Q.refl (w.alloc (.cells A 61))).alloc _).drew | exact (Q.refl (w.alloc (.cells A 61))).drew.alloc _ | exact (Q.refl (w.alloc (.cells A 61))).alloc _ | exact (Q.refl (w.alloc (.cells A 61))).drew | exact Q.refl (w.alloc (.cells A 61)))
      clear hK K
      try simp only [Act.put, List.setIfInBounds_toArray, List.set_cons_zero, List.set_cons_succ]
      refine wpAnyH_ready (rs := [23]) (by kernel_rfl) (by simp) (AllReadyH.cons (o := ⟨_, _, _, _, _, _⟩) rfl (fun K hK => ?_) AllReadyH.nil)
      refine step_append_lies _ (by rfl) _ _ 54 (by rfl) w0.heap.size 61 i0 (.agg z24) 24 192 Try.underlying54 HT.out.1 HT.out.2.1 HT.out.2.2.1 HT.out.2.2.2 rfl (by decide) (.slice ka l.length kc) l.length (rowK l) (by rfl) (KX.out _ (by first | exact ((Q.refl (w.alloc (.cells A 61))).alloc _).drew | exact (Q.refl (w.alloc (.cells A 61))).drew.alloc _ | exact (Q.refl (w.alloc (.cells A 61))).alloc _ | exact (Q.refl (w.alloc (.cells A 61))).drew | exact Q.refl (w.alloc (.cells A 61)))).ko ⟨w.heap.size + 1, 0, none⟩ 1 1 (newA (pl : Int) mem.length k r0 r1 r2 r3 r4 r5).toList (by rfl) rfl (World.news_of_block (by first | exact NEW.out 1 _ | exact NEW.out 0 _)) ONE.out (by decide) ML.out.1 ML.out.2 (by have := BS.out; simp; omega) _ rfl ?_; intro g cap y o gr at_ lt; obtain ⟨y5, yf, ky, fin⟩ := FIN.out _ y g cap (by first | exact ((Q.refl (w.alloc (.cells A 61))).alloc _).drew | exact (Q.refl (w.alloc (.cells A 61))).drew.alloc _ | exact (Q.refl (w.alloc (.cells A 61))).alloc _ | exact (Q.refl (w.alloc (.cells A 61))).drew | exact Q.refl (w.alloc (.cells A 61))) o gr at_; have HF := hideIt fin; have HY := hideIt ky; clear o gr at_ fin lt ky
      refine hK.out _ _ ?_ (fun hHeld => ?_)
      · exact HY.out.1
      clear hK K
      try simp only [Act.put, List.setIfInBounds_toArray, List.set_cons_zero, List.set_cons_succ]
      refine wpAnyH_take (i := 24) (oi := ⟨_, _, _, _, _, _⟩) (v := ?_) rfl (by kernel_rfl) (by kernel_rfl) (by kernel_rfl) (fun _ _ _ h => h) (Or.inl ⟨by rfl, ?_⟩) (by assumption) ?_
      rotate_left 1
      · intro w hSw; (try dsimp only at hSw); go_simp; all_goals with_reducible rfl
      try simp only [Act.put, List.setIfInBounds_toArray, List.set_cons_zero, List.set_cons_succ]
      refine wpAnyH_take (i := 25) (oi := ⟨_, _, _, _, _, _⟩) (v := ?_) rfl (by kernel_rfl) (by kernel_rfl) (by kernel_rfl) (fun _ _ _ h => h) (Or.inl ⟨by rfl, ?_⟩) (by assumption) ?_
      rotate_left 1
      · intro w hSw; (try dsimp only at hSw); go_simp; all_goals with_reducible rfl
      try simp only [Act.put, List.setIfInBounds_toArray, List.set_cons_zero, List.set_cons_succ]
      refine wpAnyH_ready (rs := [26]) (by kernel_rfl) (by simp) (AllReadyH.cons (o := ⟨_, _, _, _, _, _⟩) rfl (fun K hK => ?_) AllReadyH.nil)
      go_simp
      refine hK.out _ _ ?_ (fun hHeld => ?_)
      · exact HY.out.2
      clear hK K
      try simp only [Act.put, List.setIfInBounds_toArray, List.set_cons_zero, List.set_cons_succ]
      refine wpAnyH_done (by kernel_rfl) ?_ _
      go_wp2_with (fail)
      go_meet
      exact ⟨g, cap, HF.out⟩
    -- end of region 4
  case rest =>
    obtain ⟨g, cap, col1, H1, E1⟩ := hcut
    generalize wc = w5 at *
    obtain ⟨-, -, -, -, d4, -⟩ := H1.out.c0
    have f4 := H1.out.fz 4
    clear HE HD CB CS HT c5d c5a KX ONE BS ML NEW ES KS FIN f5 c1 c2 c4 c5 e0 e1 e2 e3 e4 e5 hc hc2 z1 hd hd2
    obtain ⟨i1, hi1, hz1, hy1, hs1⟩ := info_parts infoI64
    by_cases hf0 : f = 0
    · have HR := hideIt (append_none (P := Try.prog) w5 24 3 24 2 i1 .i64 Try.underlying24 Try.underlying3 hi1 ca mem.length cc hcc (by rw [hy1]; decide))
      have FI := hideIt (H1.out.setR (j := 4) (u := .slice ca mem.length cc) (mem' := mem) (l' := l ++ [newC pl mem.length k an [r0, r1, r2, r3, r4, r5]]) (hh' := hh) (x' := x) (t' := t) (sp' := sp) (n' := n) (cv' := .slice ca mem.length cc) (kv' := .slice (some ⟨g, 0, none⟩) (l.length + 1) cap) (by simp) H1.out.mo H1.out.moc H1.out.ko H1.out.koc)
      have ef0 : (f : Int) = 0 := by omega
      have HF0 := hideIt hf0
      clear hi1 hz1 hy1 hs1 hf0 hb H1
      go_wp2_with (first | (at_builtin; refine wpList_append_run (by rfl) _ _ 24 3 (by rfl) _ _ (by rfl) (by first | rfl | simp [Act.eval, ef0]) _ _ HR.out ?_) | fail)
      go_end0
      refine ⟨rfl, col1, .slice ca mem.length cc, .slice (some ⟨g, 0, none⟩) (l.length + 1) cap, ?_, E1.out.trans FI.out.2⟩
      rw [HF0.out, List.replicate_zero, List.append_nil]
      exact FI.out.1
    · obtain ⟨g2, cp2, X, r1', r2', r3', r4', r5'⟩ := run_append_zeros_lies (P := Try.prog) w5 24 3 24 2 i1 _ .i64 .i64 Try.underlying24 Try.underlying3 hi1 hz1 w0.heap.size 1 8 hy1 hs1 rfl (by decide)
        (fun m u hu => by rw [zeros_row] at hu; obtain ⟨_, _, rfl⟩ := List.mem_map.1 hu; rfl) (.slice ca mem.length cc) mem.length (rowI mem) H1.out.mo f (by omega) (by unfold maxLen; omega) (by omega) H1.out.bel.size
      rw [zeros_row, ← rowI_app] at r2'
      obtain ⟨b0, col2, m1, m2⟩ := H1.out.growE (v' := .slice (some ⟨g2, 0, none⟩) (mem.length + f) cp2) (mem' := mem ++ List.replicate f 0) r3' (by rw [show (mem ++ List.replicate f (0 : Int)).length = mem.length + f by simp]; exact r2') ⟨g2, rfl, r4'.imp id (fun e => by omega)⟩
      have x4 : X.cell? ⟨R, 4, none⟩ = some (.slice ca mem.length cc) := cell_of_block b0 4
      have g4 : X.frozen? ⟨R, 4, none⟩ = false := free_of_block b0 4
      have HR := hideIt r1'
      have M1 := hideIt m1
      have M2 := hideIt m2
      clear hi1 hz1 hy1 hs1 hf0 hb H1 r1' r2' r3' r4' r5' b0 m1 m2
      go_wp2_with (first | (at_builtin; refine wpList_append_run (by rfl) _ _ 24 3 (by rfl) _ _ (by rfl) (by rfl) _ _ HR.out ?_) | fail)
      go_end0
      exact ⟨rfl, col2, _, _, M1.out, E1.out.trans M2.out⟩
end
end Da
end Go.Proofs.Ytnlgkiejppgfjaa
