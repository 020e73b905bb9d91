/-
 An instruction of the document's run (a cell is read, is written; a number is printed): contracts over the program; the conditions: a run lies there, the registers lie there, and the instruction is right.
 An instruction of the document's run (a call): a contract over the program; the conditions: a run lies there, the registers lie there, the instruction is right, and the functions ahead keep their contract.
-/
import Derived.Test.YtphknepblchkdaaKDnE
import Derived.Deep.RegionLaw
namespace Go.Proofs.Ytphknepblchkdaa.Dn
open Go.RowKit
set_option linter.unusedVariables false

section
variable {w w' w0 : World} {R : Nat} {col : Col} {c : PC} {fuel : Nat} {s : St} {G rn : Nat} {ρ : Rg}

set_option maxRecDepth 100000 in
set_option maxHeartbeats 2000000 in
/-- No such cell. -/
theorem in_mem_out (op : Int) (hop : op = 30 ∨ op = 31) (h : IA w w0 R col c fuel s G rn ρ) (hrn : rn ≤ 20000) (keep : Nat) (ty imm dst b : Int) (a : Nat) (aa : Option Addr) (an ac : Nat) (ha : a < rn) (hin : Me.inB s.bs (hiA (ρ a)) (loA (ρ a)) = false) :
  Calls Try.prog 56 (insA R G rn keep op ty dst (a : Int) b imm aa an ac) w fun e w' => e = .returned (.tuple #[]) ∧ DI w' w0 R col c fuel s 5 false ∧ Ex (atG G) col w col w' := by
 have HQB := hideIt (show Q w (w.alloc (.cells #[.int .u8 op, .int .u8 ty, .int .i64 dst, .int .i64 (a : Int), .int .i64 b, .int .i64 imm, .slice aa an ac] 49)) from (Q.refl w).alloc _)
 have FN := hideIt (fun Y (hY : Q w Y) => h.trap hY (t := 5) (by decide))
 have CL := hideIt (fun Y (hY : Q w Y) => cell_out (h.di.keep hY) (ρ a) hin)
 have ra := fun ob => (h.keep ((Q.refl w).alloc ob)).nums.cell ha
 have hal : (a : Int) < (rn : Int) := by omega
 have r6 := fun ob => (h.keep ((Q.refl w).alloc ob)).c6.1
 have f6 := fun ob => (h.keep ((Q.refl w).alloc ob)).c6.2
 clear h ha hin
 rcases hop with rfl | rfl <;>
 ·go_enter Try.func56, Try.ntmps56
  go_wp2_with (first | (go_at_call 74; refine Calls.mono (CL.out _ HQB.out) ?_; rintro e y ⟨rfl, hy⟩; have hy2 := hy.symm; clear hy; subst hy2) | fail)
  refine bodyPost_ret (v := .tuple #[]) (results_none rfl _ _ _) rfl ?_
  obtain ⟨a1, -, a2⟩ := FN.out _ HQB.out
  exact ⟨rfl, a1, a2.mono (fun _ q => q.elim)⟩

set_option maxRecDepth 100000 in
set_option maxHeartbeats 2000000 in
theorem in_30 (h : IA w w0 R col c fuel s G rn ρ) (hrn : rn ≤ 20000) (keep : Nat) (ty imm b : Int) (dst a : Nat) (aa : Option Addr) (an ac : Nat) (hd : dst < rn) (ha : a < rn) (hin : Me.inB s.bs (hiA (ρ a)) (loA (ρ a)) = true) :
  Calls Try.prog 56 (insA R G rn keep 30 ty (dst : Int) (a : Int) b imm aa an ac) w fun e w' => e = .returned (.tuple #[]) ∧ IA w' w0 R col c fuel s G rn (setR ρ dst (s.f (hiA (ρ a)) (loA (ρ a)))) ∧ Ex (atG G) col w col w' := by
 obtain ⟨i, j, n, hi, hj, hn, hjn⟩ := Me.inB_iff.1 hin
 obtain ⟨B, hB⟩ : ∃ B, w.alloc (.cells #[.int .u8 30, .int .u8 ty, .int .i64 (dst : Int), .int .i64 (a : Int), .int .i64 b, .int .i64 imm, .slice aa an ac] 49) = B := ⟨_, rfl⟩
 have qB : Q w B := by rw [← hB]; exact (Q.refl w).alloc _
 have hat : B.heap[w.heap.size]? = some (.cells #[.int .u8 30, .int .u8 ty, .int .i64 (dst : Int), .int .i64 (a : Int), .int .i64 b, .int .i64 imm, .slice aa an ac] 49 (0, 0)) := by
  rw [← hB]; exact heap_alloc_new w _
 have hK := h.keep qB
 have CL := hideIt (cell_in hK.di (ρ a) i j n hi hj hn hjn)
 have CO := hideIt (over_no hK.di)
 rw [hi, hj]
 have FN := hideIt (h.fin' qB dst (s.f (i : Int) (j : Int)))
 obtain ⟨lv, tv, gs, d⟩ := hK.di
 obtain ⟨g, gl, cap, e1, e2, e3, -⟩ := d.row hn
 have c3 := d.cs.2.1
 rw [e1] at c3
 have cg := (d.nums i g n e2 hn).cell hjn
 have hil := (List.getElem?_eq_some_iff.1 hn).1
 have hlen := d.len
 have b0 := cell_blk hat 0
 have b2 := cell_blk hat 2
 have b3 := cell_blk hat 3
 have ra := hK.nums.cell ha
 have rd := hK.nums.cell hd
 have fd := hK.nums.free dst
 have hal : (a : Int) < (rn : Int) := by omega
 have hdl : (dst : Int) < (rn : Int) := by omega
 have k1 : (i : Int) < (s.bs.length : Int) := by omega
 have k2 : (j : Int) < (n : Int) := by omega
 have k3 : decide ((i : Int) < 0) = false := by simp
 dsimp at b0 b2 b3
 clear h ha hd hin hi hj hn hjn hK d e2 hat qB hil e1
 go_enter Try.func56, Try.ntmps56
 go_wp2_with (first | (go_at_call 74; refine CL.out.mono ?_; rintro e y ⟨rfl, hy⟩; have hy2 := hy.symm; clear hy; subst hy2) | (go_at_call 30; refine CO.out.mono ?_; rintro e y ⟨rfl, hy⟩; have hy2 := hy.symm; clear hy; subst hy2) | fail)
 go_end0
 exact ⟨rfl, FN.out⟩

set_option maxRecDepth 100000 in
set_option maxHeartbeats 2000000 in
theorem in_31 (h : IA w w0 R col c fuel s G rn ρ) (hrn : rn ≤ 20000) (keep : Nat) (ty imm dst : Int) (a b : Nat) (aa : Option Addr) (an ac : Nat) (ha : a < rn) (hb : b < rn) (hin : Me.inB s.bs (hiA (ρ a)) (loA (ρ a)) = true) :
  Calls Try.prog 56 (insA R G rn keep 31 ty dst (a : Int) (b : Int) imm aa an ac) w fun e w' => e = .returned (.tuple #[]) ∧ IA w' w0 R col c fuel { s with f := Me.upd s.f (hiA (ρ a)) (loA (ρ a)) (ρ b) } G rn ρ ∧ Ex (atG G) col w col w' := by
 obtain ⟨i, j, n, hi, hj, hn, hjn⟩ := Me.inB_iff.1 hin
 obtain ⟨B, hB⟩ : ∃ B, w.alloc (.cells #[.int .u8 31, .int .u8 ty, .int .i64 dst, .int .i64 (a : Int), .int .i64 (b : Int), .int .i64 imm, .slice aa an ac] 49) = B := ⟨_, rfl⟩
 have qB : Q w B := by rw [← hB]; exact (Q.refl w).alloc _
 have hat : B.heap[w.heap.size]? = some (.cells #[.int .u8 31, .int .u8 ty, .int .i64 dst, .int .i64 (a : Int), .int .i64 (b : Int), .int .i64 imm, .slice aa an ac] 49 (0, 0)) := by
  rw [← hB]; exact heap_alloc_new w _
 have hK := h.keep qB
 have CL := hideIt (cell_in hK.di (ρ a) i j n hi hj hn hjn)
 rw [hi, hj]
 obtain ⟨lv, tv, gs, d⟩ := hK.di
 obtain ⟨g, gl, cap, e1, e2, e3, -⟩ := d.row hn
 have c3 := d.cs.2.1
 rw [e1] at c3
 have cg := (d.nums i g n e2 hn).cell hjn
 have fg := (d.nums i g n e2 hn).free j
 have hgG : G ≠ g := fun e => by have := d.cg i g e2; rw [← e, h.hg] at this; cases this
 have FN : Hid (∀ m, IA ((B.setCell ⟨g, j, none⟩ (.int .i64 (ρ b))).drewN m) w0 R col c fuel { s with f := Me.upd s.f (i : Int) (j : Int) (ρ b) } G rn ρ ∧ Ex (atG G) col w col ((B.setCell ⟨g, j, none⟩ (.int .i64 (ρ b))).drewN m)) := fun m => by
  obtain ⟨a1, a2⟩ := d.put e2 hn hjn (ρ b)
  exact ⟨⟨⟨_, _, _, a1.keep ((Q.refl _).drewN m)⟩, hK.nums.keep (Below.heap_setCell _ _ _ _ hgG), h.hg, h.hb⟩, ((Ex.q qB).trans (a2.mono (fun _ q => q.elim))).drew m⟩
 have hil := (List.getElem?_eq_some_iff.1 hn).1
 have hlen := d.len
 have b0 := cell_blk hat 0
 have b3 := cell_blk hat 3
 have b4 := cell_blk hat 4
 have ra := hK.nums.cell ha
 have rb := hK.nums.cell hb
 have hal : (a : Int) < (rn : Int) := by omega
 have hbl : (b : Int) < (rn : Int) := by omega
 have k1 : (i : Int) < (s.bs.length : Int) := by omega
 have k2 : (j : Int) < (n : Int) := by omega
 have k3 : decide ((i : Int) < 0) = false := by simp
 dsimp at b0 b3 b4
 clear h ha hb hin hi hj hn hjn hK d e2 hat qB hil e1 hgG
 go_enter Try.func56, Try.ntmps56
 go_wp2_with (first | (go_at_call 74; refine CL.out.mono ?_; rintro e y ⟨rfl, hy⟩; have hy2 := hy.symm; clear hy; subst hy2) | fail)
 go_region
 go_wp2_with (fail)
 refine bodyPost_ret (v := .tuple #[]) (results_none rfl _ _ _) rfl ?_
 exact ⟨rfl, FN.out _⟩
theorem app_facts {B : Nat} {v : Value} {l : List Int} (h : w.ownsRow B 2 1 v l.length (rowI l)) (hB : B ≤ w.heap.size) (z : Int) : ∀ X : World, X.heap = (w.alloc (.cells #[.int .i64 z] 2)).heap → X.ownsRow B 2 1 v l.length (rowI l) ∧ (∀ j u, [Value.int .i64 z][j]? = some u → X.cell? ((⟨w.heap.size, 0, none⟩ : Addr).add j) = some u) ∧ B ≤ X.heap.size ∧ X.heap.size = w.heap.size + 1 := fun X hX => by
 have hs : X.heap.size = w.heap.size + 1 := by rw [hX]; simp
 have hb' : X.heap[w.heap.size]? = some (.cells #[.int .i64 z] 2 (0, 0)) := by rw [hX]; exact heap_alloc_new w _
 exact ⟨row_keep h (fun k hk => by rw [hX]; exact heap_alloc_old w _ (own_lt h hk)), World.news_of_block hb', by omega, hs⟩
theorem one_i64 (z : Int) : ∀ u ∈ [Value.int .i64 z], u.oneCell' = true := fun u hu => by simp at hu; subst hu; rfl
theorem rowI_app (l : List Int) (z : Int) : rowI (l ++ [z]) = rowI l ++ [.int .i64 z] := by simp [rowI]

/-- The trace is one more. -/
theorem trace_more {w1 X : World} {t : Int} {sp : Bool} {lv tv : Value} {gs : List Nat} (h : DX w w0 R col c fuel s t sp lv tv gs)
  {z : Int} {g cap : Nat} (hg : X.grownBy w1 tv.ownBlock) (hX : X.heap = (w.alloc (.cells #[.int .i64 z] 2)).heap) (x1 : X.os = w.os) (x2 : X.tape = w.tape) (x3 : X.output = w.output)
  (ho : w1.ownsRow w0.heap.size 2 1 (.slice (some ⟨g, 0, none⟩) (s.tr.length + 1) cap) (s.tr.length + 1) (rowI s.tr ++ [.int .i64 z])) (hat : tv.ownBlock = some g ∨ g = w.heap.size + 1) (hl : s.tr.length + 1 ≤ s.n) :
  w1.cell? ⟨R, 8, none⟩ = some tv ∧ w1.frozen? ⟨R, 8, none⟩ = false ∧ (∃ col', DI (w1.setCell ⟨R, 8, none⟩ (.slice (some ⟨g, 0, none⟩) (s.tr.length + 1) cap)) w0 R col' c fuel { s with tr := s.tr ++ [z] } t sp ∧ Ex noX col w col' (w1.setCell ⟨R, 8, none⟩ (.slice (some ⟨g, 0, none⟩) (s.tr.length + 1) cap))) := by
 have hsz : X.heap.size = w.heap.size + 1 := by rw [hX]; simp
 have blk : ∀ b, b < w.heap.size → tv.ownBlock ≠ some b → w1.heap[b]? = w.heap[b]? := fun b hb hn => by
  rw [hg.block b (by omega) (fun e => hn e.symm), hX]
  exact heap_alloc_old w _ hb
 have hRn : tv.ownBlock ≠ some R := fun e => by have := h.ct R e; rw [h.colR] at this; cases this
 have hR1 := (blk R h.ltR hRn).trans h.run
 have hgR : g ≠ R := fun e => by
  rcases hat with q | q
  ·exact hRn (by rw [q, e])
  ·have := h.ltR; omega
 refine ⟨cell_blk hR1 8, free_blk hR1 8, ?_⟩
 obtain ⟨col', a1, a2⟩ := h.setT (w' := w1.setCell ⟨R, 8, none⟩ (.slice (some ⟨g, 0, none⟩) (s.tr.length + 1) cap)) (nv := .slice (some ⟨g, 0, none⟩) (s.tr.length + 1) cap) (l := s.tr ++ [z]) ((set_blk hR1 _).trans (by simp)) (by
  rw [rowI_app, List.length_append]
  refine row_keep ho (fun k hk => ?_)
  simp [Value.ownBlock] at hk
  subst hk
  exact Below.heap_setCell _ _ _ _ hgR) (by
  rcases hat with q | q
  ·exact Or.inl q.symm
  ·exact Or.inr ⟨g, rfl, by omega⟩) (hg.os.trans x1) (hg.tape.trans x2) (hg.output.trans x3) (by have := hg.size; simp; omega) (fun b b1 b2 b3 => by rw [Below.heap_setCell _ _ _ _ b2]; exact blk b b1 b3) (by simpa using hl)
 exact ⟨col', ⟨_, _, _, a1⟩, a2⟩

set_option maxRecDepth 100000 in
set_option maxHeartbeats 2000000 in
theorem in_33 (h : IA w w0 R col c fuel s G rn ρ) (hf : fuel ≤ 8388608) (hrn : rn ≤ 20000) (hst : s.tr.length + 1 ≤ s.n) (keep : Nat) (ty imm dst b : Int) (a : Nat) (aa : Option Addr) (an ac : Nat) (ha : a < rn) :
  Calls Try.prog 56 (insA R G rn keep 33 ty dst (a : Int) b imm aa an ac) w fun e w' => e = .returned (.tuple #[]) ∧ ∃ col', IA w' w0 R col' c fuel { s with tr := s.tr ++ [ρ a] } G rn ρ ∧ Ex (atG G) col w col' w' := by
 obtain ⟨j0, hj, hz0, hz1, hz2⟩ := info_parts Try.infoI64
 have HT := hideIt (And.intro hj (And.intro hz0 (And.intro hz1 hz2)))
 clear hj hz0 hz1 hz2
 obtain ⟨B, hB⟩ : ∃ B, w.alloc (.cells #[.int .u8 33, .int .u8 ty, .int .i64 dst, .int .i64 (a : Int), .int .i64 b, .int .i64 imm, .slice aa an ac] 49) = B := ⟨_, rfl⟩
 have qB : Q w B := by rw [← hB]; exact (Q.refl w).alloc _
 have hat : B.heap[w.heap.size]? = some (.cells #[.int .u8 33, .int .u8 ty, .int .i64 dst, .int .i64 (a : Int), .int .i64 b, .int .i64 imm, .slice aa an ac] 49 (0, 0)) := by
  rw [← hB]; exact heap_alloc_new w _
 have hK := h.keep qB
 obtain ⟨lv, tv, gs, d⟩ := hK.di
 obtain ⟨va, vc, ez⟩ := row_form d.trc
 subst ez
 have r8 : B.cell? ⟨R, 8, none⟩ = some (.slice va s.tr.length vc) := d.cs.2.2.2.2.2.2
 have r8' : ∀ ob, (B.alloc ob).cell? ⟨R, 8, none⟩ = some (.slice va s.tr.length vc) := fun ob => cell_bx r8 ob
 have hBs := d.bel.size
 have AF := hideIt (app_facts d.trc hBs (ρ a))
 have AM := hideIt (fun (X w1 : World) (g cap : Nat) => trace_more (X := X) (w1 := w1) (z := ρ a) (g := g) (cap := cap) d)
 have hnl := d.nle
 have HM := hideIt (show s.tr.length + 1 ≤ maxLen by unfold maxLen; omega)
 have HM2 := hideIt (show (s.tr.length + 1) * 8 ≤ 140737488355328 by omega)
 have HL := hideIt hst
 have FI : Hid (∀ (u : World) (col' : Col), DI u w0 R col' c fuel { s with tr := s.tr ++ [ρ a] } 0 false → Ex noX col B col' u → ∃ col', IA u w0 R col' c fuel { s with tr := s.tr ++ [ρ a] } G rn ρ ∧ Ex (atG G) col w col' u) := fun u col' a1 a2 => by
  have hGl := hK.nums.lt
  exact ⟨col', ⟨a1, hK.nums.keep (a2.block G hGl h.hg (fun q => q)), (a2.col G hGl).trans h.hg, h.hb⟩, (Ex.q qB).trans (a2.mono (fun _ q => q.elim))⟩
 have b0 := cell_blk hat 0
 have b3 := cell_blk hat 3
 have ra := hK.nums.cell ha
 have b3' : ∀ ob, (B.alloc ob).cell? ⟨w.heap.size, 3, none⟩ = some (.int .i64 (a : Int)) := fun ob => cell_bx b3 ob
 have hal : (a : Int) < (rn : Int) := by omega
 dsimp at b0 b3
 generalize ρ a = v at *
 clear h ha hK d hat qB hnl hst hBs
 go_enter Try.func56, Try.ntmps56
 go_wp2_with (fail)
 go_region_law ((refine step_append_lies _ (by rfl) _ _ 23 (by rfl) w0.heap.size 2 j0 (.int .i64 0) 1 8 Try.underlying23 HT.out.1 HT.out.2.1 HT.out.2.2.1 HT.out.2.2.2 rfl (by decide) (.slice va s.tr.length vc) s.tr.length (rowI s.tr) (by rfl) (AF.out _ rfl).1 ⟨B.heap.size, 0, none⟩ 1 1 [.int .i64 v] (by rfl) rfl (AF.out _ rfl).2.1 (one_i64 _) (by decide) HM.out HM2.out (AF.out _ rfl).2.2.1 (B.heap.size + 1) (AF.out _ rfl).2.2.2 ?_; intro g cap w1 hown hgrow hat hlt; obtain ⟨t1, t2, col', t3, t4⟩ := (show w1.cell? ⟨R, 8, none⟩ = some (.slice va s.tr.length vc) ∧ w1.frozen? ⟨R, 8, none⟩ = false ∧ ∃ col', DI (w1.setCell ⟨R, 8, none⟩ (.slice (some ⟨g, 0, none⟩) (s.tr.length + 1) cap)) w0 R col' c fuel { s with tr := s.tr ++ [v] } 0 false ∧ Ex noX col B col' (w1.setCell ⟨R, 8, none⟩ (.slice (some ⟨g, 0, none⟩) (s.tr.length + 1) cap)) from AM.out _ w1 g cap hgrow rfl rfl rfl rfl hown hat HL.out); have HU := hideIt (And.intro t3 t4); clear hown hgrow hat t3 t4))
 all_goals go_wp2_with (fail)
 all_goals refine bodyPost_ret (v := .tuple #[]) (results_none rfl _ _ _) rfl ?_
 all_goals exact ⟨rfl, FI.out _ col' HU.out.1 HU.out.2⟩
end
end Go.Proofs.Ytphknepblchkdaa.Dn

namespace Go.Proofs.Ytphknepblchkdaa.Dn
open Go.RowKit
set_option linter.unusedVariables false

/-- A list of numbers lies in memory. -/
def Trc (w : World) (a : Option Addr) (l : List Int) : Prop := ∀ k x, l[k]? = some x → ∃ b o, a = some ⟨b, o, none⟩ ∧ w.cell? ⟨b, o + k, none⟩ = some (.int .i64 x)
theorem Trc.keep {w w' : World} {a : Option Addr} {l : List Int} (h : Trc w a l) (hq : Q w w') : Trc w' a l := fun k x e => by
 obtain ⟨b, o, e1, e2⟩ := h k x e
 exact ⟨b, o, e1, cell_keep hq e2⟩
theorem own_trc {w : World} {B : Nat} {T : TypeId} {ta : Option Addr} {n tc : Nat} {L : List Int} (h : w.ownsRow B T 1 (.slice ta n tc) n (rowI L)) : Trc w ta L := fun k x e => by
 obtain ⟨g, cap, cur, e0, e1, e2, -, -, -⟩ := row_at h (i := k) (x := .int .i64 x) (by simp [rowI, e])
 injection e0 with e0
 subst e0
 refine ⟨g, 0, rfl, ?_⟩
 rw [cell_blk e1, Nat.zero_add]
 exact e2

/-- How a call ends. -/
def CallPost (w w0 : World) (R : Nat) (col : Col) (c : PC) (fuel : Nat) (s : St) (r : Rs Int) (e : Ending) (w' : World) : Prop :=
 match r with
 | .ok v s' => e = .returned (.int .i64 v) ∧ ∃ col', DI w' w0 R col' c fuel s' 0 false ∧ Ex noX col w col' w' ∧ s'.bs.length = s.bs.length
 | .over t sp s' => e = .returned (.int .i64 0) ∧ (t ≠ 0 ∨ sp = true) ∧ ∃ col' s'', DI w' w0 R col' c fuel s'' t sp ∧ Ex noX col w col' w' ∧ s''.n = s'.n ∧ s''.tr = s'.tr
/-- How an instruction ends. -/
def InsPost (w w0 : World) (R : Nat) (col : Col) (c : PC) (fuel : Nat) (s : St) (G rn : Nat) (r : Rs Rg) (e : Ending) (w' : World) : Prop :=
 match r with
 | .ok ρ' s' => e = .returned (.tuple #[]) ∧ ∃ col', IA w' w0 R col' c fuel s' G rn ρ' ∧ Ex (atG G) col w col' w' ∧ s'.bs.length = s.bs.length
 | .over t sp s' => e = .returned (.tuple #[]) ∧ (t ≠ 0 ∨ sp = true) ∧ ∃ col' s'', DI w' w0 R col' c fuel s'' t sp ∧ Ex (atG G) col w col' w' ∧ s''.n = s'.n ∧ s''.tr = s'.tr
/-- A call's answer goes into a register. -/
def behind (ρ : Rg) (dst : Nat) : Rs Int → Rs Rg
 | .ok v s2 => .ok (setR ρ dst v) s2
 | .over t sp s2 => .over t sp s2
/-- The functions ahead of number k keep their contract. -/
def CallC (w0 : World) (R : Nat) (c : PC) (fuel : Nat) (cf : CallT) (k : Nat) : Prop :=
 ∀ (j : Nat) (f : PF), j < k → c.fns[j]? = some f → ∀ (W : World) (col : Col) (s : St) (A : List Int) (aa : Option Addr) (ac : Nat), DI W w0 R col c fuel s 0 false → Trc W aa A → (∀ b o, aa = some ⟨b, o, none⟩ → col b = none) → (A.length : Int) = f.params →
  Calls Try.prog 29 #[.pointer (some ⟨R, 0, none⟩), .int .i64 (j : Int), .slice aa A.length ac] W fun e w' => CallPost W w0 R col c fuel s (cf j A s) e w'

section
variable {w w' w0 : World} {R : Nat} {col : Col} {c : PC} {fuel : Nat} {s : St} {G rn : Nat} {ρ : Rg}

theorem q_grown {a b w1 : World} {row : Option Nat} (h : Q a b) (hg : b.grownBy w1 row) (hr : ∀ k, row = some k → a.heap.size ≤ k) : Q a w1 :=
 ⟨hg.os.trans h.os, hg.tape.trans h.tape, hg.output.trans h.output, Nat.le_trans h.size hg.size, fun k hk => (hg.block k (Nat.lt_of_lt_of_le hk h.size) (fun e => by have := hr k e.symm; omega)).trans (h.block k hk)⟩

/-- Behind the call. -/
theorem call_end {B W : World} (h : IA w w0 R col c fuel s G rn ρ) (qW : Q w W) {r : Rs Int} {e : Ending} {y : World} (hp : CallPost W w0 R col c fuel s r e y) {dst : Nat} (hd : dst < rn) :
  ∃ (v : Int) (t : Int) (sp : Bool), e = .returned (.int .i64 v) ∧ (∀ k j u, w.heap.size ≤ k → W.cell? ⟨k, j, none⟩ = some u → y.cell? ⟨k, j, none⟩ = some u) ∧ (∃ u, y.cell? ⟨G, dst, none⟩ = some u) ∧ y.frozen? ⟨G, dst, none⟩ = false ∧
   (Calls Try.prog 30 #[.pointer (some ⟨R, 0, none⟩)] y fun e w' => e = .returned (.bool (t != 0 || sp)) ∧ w' = y) ∧
   ((t != 0 || sp) = false → InsPost w w0 R col c fuel s G rn (behind ρ dst r) (.returned (.tuple #[])) (y.setCell ⟨G, dst, none⟩ (.int .i64 v))) ∧
   ((t != 0 || sp) = true → InsPost w w0 R col c fuel s G rn (behind ρ dst r) (.returned (.tuple #[])) y) := by
 have hW := h.keep qW
 have hGl := hW.nums.lt
 have nob : ∀ k, w.heap.size ≤ k → col k = none := fun k hk => by
  obtain ⟨lv, tv, gs, d⟩ := h.di
  exact d.nobody hk
 cases r with
 | ok v s' =>
  obtain ⟨he, col', a1, a2, a3⟩ := hp
  have hn : Nums y G rn ρ := hW.nums.keep (a2.block G hGl h.hg (fun q => q))
  refine ⟨v, 0, false, he, fun k j u hk hu => a2.cell (nob k hk) (fun q => q) hu, ⟨_, hn.cell hd⟩, hn.free dst, over_di a1, fun _ => ?_, fun q => by cases q⟩
  have hI : IA y w0 R col' c fuel s' G rn ρ := ⟨a1, hn, (a2.col G hGl).trans h.hg, h.hb⟩
  obtain ⟨b1, b2⟩ := hI.fin dst v
  exact ⟨rfl, col', b1, ((Ex.q qW).trans (a2.mono (fun _ q => q.elim))).trans b2, a3⟩
 | over t sp s' =>
  obtain ⟨he, ht, col', s'', a1, a2, a3, a4⟩ := hp
  have hn : Nums y G rn ρ := hW.nums.keep (a2.block G hGl h.hg (fun q => q))
  have ho : (t != 0 || sp) = true := by
   rcases ht with q | q
   ·have : (t != 0) = true := by simpa using q
    rw [this]; rfl
   ·rw [q]; simp
  refine ⟨0, t, sp, he, fun k j u hk hu => a2.cell (nob k hk) (fun q => q) hu, ⟨_, hn.cell hd⟩, hn.free dst, over_di a1, fun q => (by rw [ho] at q; cases q), fun _ => ?_⟩
  exact ⟨rfl, ht, col', s'', a1, (Ex.q qW).trans (a2.mono (fun _ q => q.elim)), a3, a4⟩

set_option maxRecDepth 100000 in
set_option maxHeartbeats 4000000 in
theorem in_32 (h : IA w w0 R col c fuel s G rn ρ) (hrn : rn ≤ 20000) (keep : Nat) (ty a b : Int) (dst : Nat) (j : Nat) (l : List Int) (aa : Option Addr) (ac : Nat) (hd : dst < rn) (hsl : sok 8 aa l.length ac) (hl : Ints w aa l) (hlr : ∀ x ∈ l, 0 ≤ x ∧ x < (rn : Int)) (hll : l.length ≤ 20000)
  {cf : CallT} {k : Nat} (hcc : CallC w0 R c fuel cf k) (hjk : j < k) {f : PF} (hjf : c.fns[j]? = some f) (hpar : (l.length : Int) = f.params) :
  Calls Try.prog 56 (insA R G rn keep 32 ty (dst : Int) a b (j : Int) aa l.length ac) w fun e w' => InsPost w w0 R col c fuel s G rn (behind ρ dst (cf j (l.map (rg ρ)) s)) e w' := by
 obtain ⟨j0, hj, hz0, hz1, hz2⟩ := info_parts Try.infoI64
 have HT := hideIt (And.intro hj (And.intro hz0 (And.intro hz1 hz2)))
 clear hj hz0 hz1 hz2
 obtain ⟨B, hB⟩ : ∃ B, w.alloc (.cells #[.int .u8 32, .int .u8 ty, .int .i64 (dst : Int), .int .i64 a, .int .i64 b, .int .i64 (j : Int), .slice aa l.length ac] 49) = B := ⟨_, rfl⟩
 have qB : Q w B := by rw [← hB]; exact (Q.refl w).alloc _
 have hBs : B.heap.size = w.heap.size + 1 := by rw [← hB]; simp
 have HF : Hid (∀ y, Q B y → y.cell? ⟨w.heap.size, 0, none⟩ = some (.int .u8 32) ∧ y.cell? ⟨w.heap.size, 2, none⟩ = some (.int .i64 (dst : Int)) ∧ y.cell? ⟨w.heap.size, 5, none⟩ = some (.int .i64 (j : Int)) ∧ y.cell? ⟨w.heap.size, 6, none⟩ = some (.slice aa l.length ac)) := fun y hy => by
  have hat : y.heap[w.heap.size]? = some (.cells #[.int .u8 32, .int .u8 ty, .int .i64 (dst : Int), .int .i64 a, .int .i64 b, .int .i64 (j : Int), .slice aa l.length ac] 49 (0, 0)) := by
   rw [hy.block _ (by rw [hBs]; omega), ← hB]
   exact heap_alloc_new w _
  exact ⟨cell_blk hat 0, cell_blk hat 2, cell_blk hat 5, cell_blk hat 6⟩
 have HE : Hid (∀ y, Q B y → ∀ i x, l[i]? = some x → ∃ bb oo, aa = some ⟨bb, oo, none⟩ ∧ y.cell? ⟨bb, oo + i, none⟩ = some (.int .i64 x) ∧ ∃ m : Nat, x = (m : Int) ∧ m < rn ∧ y.cell? ⟨G, m, none⟩ = some (.int .i64 (ρ m))) := fun y hy i x hx => by
  obtain ⟨bb, oo, e1, e2, -⟩ := hl i x hx
  rw [Nat.mul_one] at e2
  obtain ⟨q1, q2⟩ := hlr x (List.mem_of_getElem? hx)
  refine ⟨bb, oo, e1, cell_keep (qB.trans hy) e2, x.toNat, by omega, by omega, (h.keep (qB.trans hy)).nums.cell (by omega)⟩
 have CL : Hid (∀ (y : World) (v : Value), Q B y → y.ownsRow B.heap.size 2 1 v l.length (rowI (l.map (rg ρ))) → ∃ va vc, v = .slice va l.length vc ∧ Calls Try.prog 29 #[.pointer (some ⟨R, 0, none⟩), .int .i64 (j : Int), .slice va l.length vc] y fun e w' => CallPost y w0 R col c fuel s (cf j (l.map (rg ρ)) s) e w') := fun y v hy ho => by
  obtain ⟨va, vc, e⟩ := row_form ho
  subst e
  have := hcc j f hjk hjf y col s (l.map (rg ρ)) va vc (h.di.keep (qB.trans hy)) (own_trc ho) (fun b o e => by
   obtain ⟨lv, tv, gs, d⟩ := h.di
   have := (ho.lt b (by rw [e]; rfl)).1
   exact d.nobody (by omega)) (by rw [List.length_map]; exact hpar)
  rw [List.length_map] at this
  exact ⟨va, vc, rfl, this⟩
 have CE := hideIt (fun (y z : World) (e : Ending) (hy : Q B y) (hp : CallPost y w0 R col c fuel s (cf j (l.map (rg ρ)) s) e z) => call_end (B := B) h (qB.trans hy) hp hd)
 generalize behind ρ dst (cf j (l.map (rg ρ)) s) = RR at *
 have hdl : (dst : Int) < (rn : Int) := by omega
 have hlc : l.length ≤ 9223372036854775807 := by omega
 have H0 : Hid (B.ownsRow B.heap.size 2 1 (.slice none 0 0) 0 (rowI ((l.take 0).map (rg ρ)))) := World.ownsRow_nil _ _ _ _
 clear h hl hlr hcc hjf hpar hsl qB
 obtain ⟨p0, p2, p5, p6⟩ := HF.out B (Q.refl B)
 go_enter Try.func56, Try.ntmps56
 go_wp2_with (fail)
 clear p0 p2 p5 p6
 go_loopw [11, 12] (fun v o wr => ∃ (i : Nat), o = .int .i64 i ∧ i ≤ l.length ∧ Hid (wr.ownsRow B.heap.size 2 1 v i (rowI ((l.take i).map (rg ρ)))) ∧ Hid (Q B wr)) (fun _ o _ => l.length - (intOf o).toNat)
 case atStart => exact ⟨0, rfl, Nat.zero_le _, H0, hideIt (Q.refl B)⟩
 case round =>
  obtain ⟨i, rfl, hi, HO, HQ⟩ := hrel
  obtain ⟨p0, p2, p5, p6⟩ := HF.out wr HQ.out
  by_cases hic : i < l.length
  ·obtain ⟨x, hx⟩ := get_of_lt hic
   obtain ⟨bb, oo, e1, e2, m, rfl, hm, e3⟩ := HE.out wr HQ.out i x hx
   subst e1
   obtain ⟨va, vc, ez⟩ := row_form HO.out
   subst ez
   have k1 : (i : Int) < (l.length : Int) := by omega
   have k2 : (m : Int) < (rn : Int) := by omega
   have HN : Hid (rowI ((l.take (i + 1)).map (rg ρ)) = rowI ((l.take i).map (rg ρ)) ++ [.int .i64 (ρ m)]) := by
    show rowI ((l.take (i + 1)).map (rg ρ)) = _
    rw [List.take_add_one, hx, List.map_append]
    simp [rowI, rg]
   have HB : Hid (B.heap.size ≤ wr.heap.size) := HQ.out.size
   have HR2 : Hid ((wr.alloc (.cells #[.int .i64 (ρ m)] 2)).ownsRow B.heap.size 2 1 (.slice va i vc) i (rowI ((l.take i).map (rg ρ)))) := row_keep HO.out (fun q hq => heap_alloc_old wr _ (own_lt HO.out hq))
   have HLt : Hid (∀ q, (Value.slice va i vc).ownBlock = some q → B.heap.size ≤ q) := fun q hq => (HO.out.lt q hq).1
   have HM := hideIt (show i + 1 ≤ maxLen by unfold maxLen; omega)
   have HM2 := hideIt (show (i + 1) * 8 ≤ 140737488355328 by omega)
   clear hx
   go_wp2_with (first | (at_builtin; refine wpList_append_lies _ rfl _ _ 23 rfl B.heap.size 2 j0 (.int .i64 0) 1 8 Try.underlying23 HT.out.1 HT.out.2.1 HT.out.2.2.1 HT.out.2.2.2 rfl (by decide) (.slice va i vc) i (rowI ((l.take i).map (rg ρ))) rfl HR2.out ⟨wr.heap.size, 0, none⟩ 1 1 [.int .i64 (ρ m)] rfl rfl (World.news_of_block (heap_alloc_new wr _)) (one_i64 _) (by decide) HM.out HM2.out (by have := HB.out; simp; omega) (wr.heap.size + 1) (by simp) ?_; intro g cap w1 hown hgrow hat hlt; have HO1 := hideIt hown; have HG1 := hideIt hgrow; clear hown hgrow hat) | fail)
   go_roundw
   case rel =>
    refine ⟨i + 1, by go_num, by omega, ?_, hideIt (q_grown (HQ.out.alloc _) HG1.out HLt.out)⟩
    have := HO1.out
    rw [← HN.out] at this
    exact this
   case measure => simp [intOf]; omega
  ·have e1 : i = l.length := by omega
   subst e1
   rw [List.take_length] at HO
   obtain ⟨va, vc, ez, hc⟩ := CL.out wr _ HQ.out HO.out
   subst ez
   have HC := hideIt hc
   have CE2 := hideIt (fun z e => CE.out wr z e HQ.out)
   have HP2 := hideIt p2
   clear hc CE CL
   go_wp2_with (first | (go_at_call 29; refine HC.out.mono ?_; intro e y hp; obtain ⟨v, t, sp, rfl, y1, ⟨u, y2⟩, y3, y4, y5, y6⟩ := CE2.out y e hp; have z2 := y1 _ _ _ (Nat.le_refl _) HP2.out; have HO4 := hideIt y4; have HO5 := hideIt y5; have HO6 := hideIt y6; clear hp y1 y4 y5 y6 p0 p2 p5 p6; generalize hov : (t != 0 || sp) = ov at *; clear hov) | (go_at_call 30; refine HO4.out.mono ?_; rintro e y' ⟨rfl, hy⟩; have hy2 := hy.symm; clear hy; subst hy2) | fail)
   all_goals go_end0
   all_goals cases ov
   all_goals first | exact HO5.out rfl | exact HO6.out rfl | (exfalso; rename_i hh; first | cases hh | simp at hh)
end
end Go.Proofs.Ytphknepblchkdaa.Dn
