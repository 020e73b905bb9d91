/-
  The machine: a whole call is written; one more call is open: contracts over the program; the conditions: the machine lies there.
-/
import Derived.Test.YtnlgkiejppgfjaaKVmD
import Derived.Deep.MidRow
namespace Go.Proofs.Ytnlgkiejppgfjaa
open Go.RowKit
set_option linter.unusedVariables false

def putA (cur : Array Value) (o : Nat) (cs : Array Value) : Array Value := (cur.toList.take o ++ cs.toList ++ cur.toList.drop (o + cs.size)).toArray
theorem putA_size {cur : Array Value} {o : Nat} {cs : Array Value} (h : o + cs.size ≤ cur.size) : (putA cur o cs).size = cur.size := by
  unfold putA
  simp
  omega
theorem putA_in {cur : Array Value} {o : Nat} {cs : Array Value} (h : o + cs.size ≤ cur.size) (j : Nat) (hj : j < cs.size) : (putA cur o cs)[o + j]? = cs[j]? := by
  unfold putA
  have h1 : (cur.toList.take o).length = o := by simp; omega
  rw [List.getElem?_toArray, List.append_assoc, List.getElem?_append_right (by omega), h1, Nat.add_sub_cancel_left, List.getElem?_append_left (by simpa using hj)]
  simp
theorem putA_out {cur : Array Value} {o : Nat} {cs : Array Value} (h : o + cs.size ≤ cur.size) (i : Nat) (hi : i < o ∨ o + cs.size ≤ i) : (putA cur o cs)[i]? = cur[i]? := by
  unfold putA
  have h1 : (cur.toList.take o).length = o := by simp; omega
  have h2 : cs.toList.length = cs.size := by simp
  rw [List.getElem?_toArray, List.append_assoc]
  rcases hi with hi | hi
  · rw [List.getElem?_append_left (by omega), List.getElem?_take, if_pos hi]; simp
  · rw [List.getElem?_append_right (by omega), h1, List.getElem?_append_right (by omega), h2, List.getElem?_drop]
    rw [show o + cs.size + (i - o - cs.size) = i by omega]; simp
theorem storeAt_row {P : Program} (w : World) (b o : Nat) (ty T : TypeId) (cur cs : Array Value) (hg : w.heap[b]? = some (.cells cur T (0, 0))) (hfit : o + cs.size ≤ cur.size) (hi : (P.info? ty).map (·.size) = some cs.size) (h1 : cs.all (·.oneCell') = true) :
    (Instr.storeAt ty (.pointer (some ⟨b, o, none⟩)) (.agg cs)).run P w = .ok () (w.setRow b (putA cur o cs)) := by
  have hst := run_storeCells_at P b o T cs.toList 0 cur w hg (by simpa using hfit) (fun v hv => (Array.all_eq_true_iff_forall_mem.1 h1) v (by simpa using hv))
  simp only [Nat.add_zero] at hst
  have e : (storeVar ty ⟨b, o, none⟩ (.agg cs)).run P w = .ok () (w.setRow b (putA cur o cs)) := by
    cases hq : P.info? ty with
    | none => simp [hq] at hi
    | some i =>
      have hs : cs.size = i.size := by simp [hq] at hi; omega
      simp [storeVar, sizeOf, typeInfo, hq, Value.cells, hs, hst, putA]
  simp only [Instr.storeAt, Instr.sureAddr, Sem.run_bind, Sem.run_pure, Result.andThen_ok, e]

theorem wpList_store_run {P : Program} {ops : Array Oper} {rest : List Oper} {op : Oper} {a : Act} {w : World} {Q : Exit → Act → World → Prop} (hgd : op.guard = none) (ty : TypeId) (x y : Operand) (ho : op.op = .store ty x y)
    (vx vy : Value) (hx : a.eval x = vx) (hy : a.eval y = vy) (w' : World) (hr : (Instr.storeAt ty vx vy).run P w = .ok () w')
    (h : wpList P ops Q rest (a.put op.dst undef) w') : wpList P ops Q (op :: rest) a w :=
  wpList_plain hgd fun _ hK => by
    unfold Oper.wp execOp
    simp only [ho, hx, hy, Sem.run_bind, Sem.run_pure, Result.andThen_ok, hr]
    exact hK _ _ h

theorem infoCall : (Try.prog.info? 86).map (fun i => (i.zero, i.size, i.bytes)) = some (some (.agg #[.int .i64 0, .int .i64 0, .int .i64 0, .int .i64 0, .int .i64 0, .int .i64 0, .int .i64 0, .int .i64 0, .int .i64 0, .int .i64 0, .int .i64 0, .int .i64 0, .int .i64 0, .int .i64 0, .int .i64 0, .int .i64 0, .int .i64 0, .int .i64 0, .int .i64 0, .int .i64 0, .int .i64 0, .int .i64 0, .int .u8 0, .slice none 0 0]), 24, 208) := by kernel_rfl
theorem sizeCall : (Try.prog.info? 86).map (·.size) = some 24 := by kernel_rfl
/-- A call in which all is 0. -/
def cl0 : Cl := ⟨z8, z6, z6, 0, 0, 0⟩
abbrev cl0A (wv : Value) : Array Value := #[.int .i64 0, .int .i64 0, .int .i64 0, .int .i64 0, .int .i64 0, .int .i64 0, .int .i64 0, .int .i64 0, .int .i64 0, .int .i64 0, .int .i64 0, .int .i64 0, .int .i64 0, .int .i64 0, .int .i64 0, .int .i64 0, .int .i64 0, .int .i64 0, .int .i64 0, .int .i64 0, .int .i64 0, .int .i64 0, .int .u8 0, wv]
theorem cl0_cs (wv : Value) (j : Nat) (u : Value) (h23 : j < 23) (h : cl0.cs[j]? = some u) : (cl0A wv)[j]? = some u := by
  have e : cl0.cs = [.int .i64 0, .int .i64 0, .int .i64 0, .int .i64 0, .int .i64 0, .int .i64 0, .int .i64 0, .int .i64 0, .int .i64 0, .int .i64 0, .int .i64 0, .int .i64 0, .int .i64 0, .int .i64 0, .int .i64 0, .int .i64 0, .int .i64 0, .int .i64 0, .int .i64 0, .int .i64 0, .int .i64 0, .int .i64 0, .int .u8 0] := rfl
  rw [e] at h
  have e2 : (cl0A wv).toList = [.int .i64 0, .int .i64 0, .int .i64 0, .int .i64 0, .int .i64 0, .int .i64 0, .int .i64 0, .int .i64 0, .int .i64 0, .int .i64 0, .int .i64 0, .int .i64 0, .int .i64 0, .int .i64 0, .int .i64 0, .int .i64 0, .int .i64 0, .int .i64 0, .int .i64 0, .int .i64 0, .int .i64 0, .int .i64 0, .int .u8 0] ++ [wv] := rfl
  rw [← Array.getElem?_toList, e2, List.getElem?_append_left (by simpa using h23)]
  exact h

section
variable {w w' w0 : World} {R : Nat} {col col' : Col} {im : PIm} {mn : Nat} {mem ce : List Int} {cls : List Cl} {W : Nat → List Int} {tr : List Int} {ex : Int} {cv kv tv : Value} {N : Nat}

/-- The call behind the last one is begun, in its place. -/
theorem MX.openAt {C cap : Nat} {ks : Array Value} (h : MX w w0 R col im mn ce cls W tr ex cv (.slice (some ⟨C, 0, none⟩) cls.length cap) tv) (hk : KS w w0.heap.size C cap ks col cls W) (hn : cls.length < cap) :
    ∃ wa wc, ks[cls.length * 24 + 23]? = some (.slice wa (W cls.length).length wc) ∧ (W cls.length).length ≤ wc ∧
    ∃ Y, (Instr.storeAt 86 (.pointer (some ⟨C, cls.length * 24, none⟩)) (.agg (cl0A (.slice wa 0 wc)))).run Try.prog (w.setCell ⟨R, 6, none⟩ (.slice (some ⟨C, 0, none⟩) (cls.length + 1) cap)) = .ok () Y ∧
      ∃ ks', MX Y w0 R col im mn ce (cls ++ [cl0]) (fun k => if k = cls.length then [] else W k) tr ex cv (.slice (some ⟨C, 0, none⟩) (cls.length + 1) cap) tv ∧ KS Y w0.heap.size C cap ks' col (cls ++ [cl0]) (fun k => if k = cls.length then [] else W k) ∧ Ex col w col Y := by
  obtain ⟨wv, e1, e2, e3⟩ := hk.slot cls.length hn
  obtain ⟨wa, wc, rfl, hwc, -⟩ := own_form e2
  have hsz : cls.length * 24 + 24 ≤ ks.size := by have := hk.size; omega
  have neRC : C ≠ R := fun e => by have := hk.colC; rw [e, h.colR] at this; cases this
  have ne : ∀ b τ, col b = some τ → τ ≠ .ca → b ≠ C := fun b τ e hτ q => by rw [q, hk.colC] at e; exact hτ (Option.some.inj e).symm
  have neR : ∀ b τ, col b = some τ → τ ≠ .rn → b ≠ R := fun b τ e hτ q => by rw [q, h.colR] at e; exact hτ (Option.some.inj e).symm
  have b1 : (w.setCell ⟨R, 6, none⟩ (.slice (some ⟨C, 0, none⟩) (cls.length + 1) cap)).heap[C]? = some (.cells ks 86 (0, 0)) := (heap_setCell_other w _ C _ neRC).trans hk.blk
  have hst := storeAt_row (P := Try.prog) (w.setCell ⟨R, 6, none⟩ (.slice (some ⟨C, 0, none⟩) (cls.length + 1) cap)) C (cls.length * 24) 86 86 ks (cl0A (.slice wa 0 wc)) b1 hsz sizeCall (by simp [Value.oneCell'])
  have oth : ∀ b, b ≠ C → b ≠ R → ((w.setCell ⟨R, 6, none⟩ (.slice (some ⟨C, 0, none⟩) (cls.length + 1) cap)).setRow C (putA ks (cls.length * 24) (cl0A (.slice wa 0 wc)))).heap[b]? = w.heap[b]? := fun b h1 h2 => (setRow_other _ C b _ h1).trans (heap_setCell_other w _ b _ h2)
  have hzz : ((w.setCell ⟨R, 6, none⟩ (.slice (some ⟨C, 0, none⟩) (cls.length + 1) cap)).setRow C (putA ks (cls.length * 24) (cl0A (.slice wa 0 wc)))).heap.size = w.heap.size := by simp
  have K : KS ((w.setCell ⟨R, 6, none⟩ (.slice (some ⟨C, 0, none⟩) (cls.length + 1) cap)).setRow C (putA ks (cls.length * 24) (cl0A (.slice wa 0 wc)))) w0.heap.size C cap (putA ks (cls.length * 24) (cl0A (.slice wa 0 wc))) col (cls ++ [cl0]) (fun k => if k = cls.length then [] else W k) := by
    refine ⟨setRow_heap _ C ks _ _ _ b1, (putA_size hsz).trans hk.size, hk.capm, by simp; omega, hk.colC, fun k hkc => ?_, fun k c hc j u h23 hu => ?_⟩
    · by_cases e : k = cls.length
      · subst e
        refine ⟨.slice wa 0 wc, putA_in hsz 23 (show 23 < 24 by omega), ?_, fun b q => e3 b (by cases wa with | none => cases q | some a => exact q)⟩
        simp only [if_true]
        have := row_cut e2 0 (Nat.zero_le _)
        rw [List.take_zero] at this
        have e3' : ∀ b, (Value.slice wa 0 wc).ownBlock = some b → col b = some (.wr cls.length) := fun b q => e3 b (by cases wa with | none => cases q | some a => exact q)
        exact row_keep this (fun b q => oth b (ne b _ (e3' b q) (by intro q; cases q)) (neR b _ (e3' b q) (by intro q; cases q)))
      · obtain ⟨v1, f1, f2, f3⟩ := hk.slot k hkc
        simp only [e, if_false]
        refine ⟨v1, ?_, row_keep f2 (fun b q => oth b (ne b _ (f3 b q) (by intro q; cases q)) (neR b _ (f3 b q) (by intro q; cases q))), f3⟩
        rw [putA_out hsz _ (show _ ∨ cls.length * 24 + 24 ≤ _ by omega)]; exact f1
    · by_cases e : k < cls.length
      · rw [List.getElem?_append_left e] at hc
        rw [putA_out hsz _ (show _ ∨ cls.length * 24 + 24 ≤ _ by omega)]
        exact hk.call k c hc j u h23 hu
      · have hkl : k = cls.length := by have := (List.getElem?_eq_some_iff.1 hc).1; simp at this; omega
        subst hkl
        rw [List.getElem?_append_right (Nat.le_refl _), Nat.sub_self] at hc
        obtain rfl := (Option.some.inj hc).symm
        rw [putA_in (cs := cl0A (.slice wa 0 wc)) hsz j (show j < 24 by omega)]
        exact cl0_cs _ j u h23 hu
  refine ⟨wa, wc, e1, hwc, _, hst, _, ⟨?_, fun b τ e => by rw [hzz]; exact h.lt b τ e, h.colR, ?_, row_keep h.ce (fun k q => oth k (ne k _ (h.cec k q) (by intro q; cases q)) (neR k _ (h.cec k q) (by intro q; cases q))), h.cec, row_keep h.tro (fun k q => oth k (ne k _ (h.trc k q) (by intro q; cases q)) (neR k _ (h.trc k q) (by intro q; cases q))), h.trc, .inr ⟨C, cap, _, by simp, K⟩⟩, K, ?_⟩
  · refine ⟨h.bel.os, h.bel.tape, h.bel.output, by rw [hzz]; exact h.bel.size, fun b hb => (oth b (fun e => ?_) (fun e => ?_)).trans (h.bel.block b hb)⟩
    · have := (h.lt C _ hk.colC).1; omega
    · have := (h.lt R _ h.colR).1; omega
  · rw [setRow_other _ C R _ (fun e => neRC e.symm), heap_setCell_same w R 6 _ _ _ h.blk]
    simp
  · exact ⟨rfl, rfl, rfl, by rw [hzz]; exact Nat.le_refl _, fun b hb e => oth b (fun q => by rw [q, hk.colC] at e; cases e) (fun q => by rw [q, h.colR] at e; cases e), fun _ _ => rfl⟩

set_option maxHeartbeats 1000000 in
set_option maxRecDepth 100000 in
theorem open_room {C cap : Nat} {ks : Array Value} (h : MX w w0 R col im mn ce cls W tr ex cv (.slice (some ⟨C, 0, none⟩) cls.length cap) tv) (hk : KS w w0.heap.size C cap ks col cls W) (hn : cls.length < cap) :
    Calls Try.prog 37 #[.pointer (some ⟨R, 0, none⟩)] w fun e w' => ∃ C cap ks W' col', e = .returned (.pointer (some ⟨C, cls.length * 24, none⟩)) ∧ MX w' w0 R col' im mn ce (cls ++ [cl0]) W' tr ex cv (.slice (some ⟨C, 0, none⟩) (cls.length + 1) cap) tv ∧ KS w' w0.heap.size C cap ks col' (cls ++ [cl0]) W' ∧ Ex col w col' w' ∧ (∀ k, k < cls.length → W' k = W k) ∧ W' cls.length = [] ∧ (∀ k, (W' k).length ≤ (W k).length) := by
  obtain ⟨-, -, -, -, -, -, c6, -⟩ := h.c0
  have f6 := h.fz 6
  have neRC : ¬ C = R := fun e => by have := hk.colC; rw [e, h.colR] at this; cases this
  have neRC' : ¬ R = C := fun e => neRC e.symm
  obtain ⟨wa, wc, e1, hwc, Y, hst, ks', hX, hK, hE⟩ := h.openAt hk hn
  have hcm : cap ≤ 9223372036854775807 := by have := hk.capm; unfold maxLen at this; omega
  have hd : ((cls.length : Int) == (cap : Int)) = false := by simp; omega
  have z1 : IntKind.i64.wrap ((cls.length : Int) + 1) = (cls.length : Int) + 1 := by rw [IntKind.wrap_i64]; omega
  have c23 : w.cell? ⟨C, cls.length * 24 + 23, none⟩ = some (.slice wa (W cls.length).length wc) := (cell_of_block hk.blk _).trans e1
  have hlt : (cls.length : Int) + 1 ≤ (cap : Int) := by omega
  have HST := hideIt hst
  have HX := hideIt hX
  have HK := hideIt hK
  have HE := hideIt hE
  clear h hk e1 hX hK hE hst
  generalize hwl : (W cls.length).length = wl at *
  have HW := hideIt hwl
  clear hwl
  generalize hnn : cls.length = n at *
  have HN := hideIt hnn
  clear hnn
  go_enter Try.func37, Try.ntmps37
  go_wp2_with (first | (refine wpList_store_run rfl 86 (.tmp 50) (.tmp 49) rfl _ _ rfl rfl _ HST.out ?_) | fail)
  go_ret
  refine ⟨C, cap, ks', _, col, rfl, HX.out, HK.out, HE.out, fun k hk => if_neg (by omega), if_pos rfl, fun k => ?_⟩
  by_cases e : k = n
  · rw [if_pos e]; exact Nat.zero_le _
  · rw [if_neg e]; exact Nat.le_refl _
end
end Go.Proofs.Ytnlgkiejppgfjaa
