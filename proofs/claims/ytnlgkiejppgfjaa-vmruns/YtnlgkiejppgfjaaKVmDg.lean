/-
  The document's machine (burinref25) in the middle of a step: a call's copy in a box of its own, written back into the list of calls: facts on worlds and contracts' parts; the conditions: the machine lies there.
  The document's machine (burinref25): what holds of its calls between two steps, by the plain machine: facts on lists; how a step ends; no conditions but those that each fact bears.
-/
import Derived.Test.YtnlgkiejppgfjaaKVmDe
import Derived.Deep.WholeRow
namespace Go.Proofs.Ytnlgkiejppgfjaa
open Go.RowKit Go.Deep
set_option linter.unusedVariables false

namespace Da
theorem list_split {α : Type} {l : List α} {k : Nat} {y : α} (h : l[k]? = some y) : l = l.take k ++ y :: l.drop (k + 1) := by
  obtain ⟨hk, e⟩ := List.getElem?_eq_some_iff.1 h
  conv => lhs; rw [← List.take_append_drop k l, List.drop_eq_getElem_cons hk, e]
theorem rowK_split {l : List Dc} {k : Nat} {y : Dc} (h : l[k]? = some y) : rowK l = rowK (l.take k) ++ (y.cs ++ rowK (l.drop (k + 1))) := by
  conv => lhs; rw [list_split h, rowK_app, rowK]
theorem rowK_set {l : List Dc} {k : Nat} (hk : k < l.length) (y : Dc) : rowK (l.set k y) = rowK (l.take k) ++ (y.cs ++ rowK (l.drop (k + 1))) := by
  rw [List.set_eq_take_append_cons_drop, if_pos hk, rowK_app, rowK]
theorem allok_take {l : List Dc} (h : allok l) (k : Nat) : allok (l.take k) := fun x hx => h x (List.mem_of_mem_take hx)
theorem rowK_at {l : List Dc} (h : allok l) {k : Nat} {y : Dc} (hy : l[k]? = some y) {j : Nat} (hj : j < 24) : (rowK l)[k * 24 + j]? = y.cs[j]? := by
  have hk := (List.getElem?_eq_some_iff.1 hy).1
  have hl : (rowK (l.take k)).length = k * 24 := by rw [rowK_len _ (allok_take h k), List.length_take]; congr 1; omega
  have h2 : y.cs.length = 24 := Dc.len (h y (List.mem_of_getElem? hy))
  rw [rowK_split hy, List.getElem?_append_right (by omega), hl, Nat.add_sub_cancel_left, List.getElem?_append_left (by omega)]
theorem put_row {ks : Array Value} {l : List Dc} (h : allok l) {k : Nat} (hk : k < l.length) (y' : Dc) (hy' : y'.c.ok) (hrow : ks.toList.take (l.length * 24) = rowK l) (hs : l.length * 24 ≤ ks.size) :
    (putA ks (k * 24) y'.cs.toArray).toList.take ((l.set k y').length * 24) = rowK (l.set k y') := by
  obtain ⟨y, hy⟩ := get_of_lt hk
  have hl : (rowK (l.take k)).length = k * 24 := by rw [rowK_len _ (allok_take h k), List.length_take]; congr 1; omega
  have h2 : y.cs.length = 24 := Dc.len (h y (List.mem_of_getElem? hy))
  have h3 : y'.cs.length = 24 := Dc.len hy'
  have e : ks.toList = rowK (l.take k) ++ (y.cs ++ rowK (l.drop (k + 1))) ++ ks.toList.drop (l.length * 24) := by
    conv => lhs; rw [← List.take_append_drop (l.length * 24) ks.toList, hrow, rowK_split hy]
  have e1 : ks.toList.take (k * 24) = rowK (l.take k) := by rw [e, List.append_assoc, List.take_append_of_le_length (by omega), List.take_of_length_le (by omega)]
  have e2 : ks.toList.drop (k * 24 + 24) = rowK (l.drop (k + 1)) ++ ks.toList.drop (l.length * 24) := by
    conv => lhs; rw [e]
    rw [List.append_assoc, List.append_assoc, ← List.append_assoc (rowK (l.take k)), List.drop_append_of_le_length (by rw [List.length_append]; omega), List.drop_of_length_le (by rw [List.length_append]; omega), List.nil_append]
  have e3 : (putA ks (k * 24) y'.cs.toArray).toList = rowK (l.set k y') ++ ks.toList.drop (l.length * 24) := by
    unfold putA
    rw [List.size_toArray, h3, e1, e2, rowK_set hk]
    simp
  have hok' : allok (l.set k y') := fun x hx => by
    rcases List.mem_or_eq_of_mem_set hx with q | rfl
    · exact h x q
    · exact hy'
  rw [e3, ← rowK_len _ hok', List.take_append_of_le_length (Nat.le_refl _), List.take_length]

theorem loadAt_row {P : Program} (w : World) (b o : Nat) (ty : TypeId) (d : TypeDesc) (cs : Array Value) (hc : ∀ (j : Nat) (v : Value), cs[j]? = some v → w.cell? ⟨b, o + j, none⟩ = some v) (hu : P.underlying ty = some d) (hd : (match d with | .struct _ | .array _ _ => true | _ => false) = true) (hi : (P.info? ty).map (·.size) = some cs.size) :
    (Instr.loadAt ty (.pointer (some ⟨b, o, none⟩))).run P w = .ok (.agg cs) w := by
  have hl : (loadCells ⟨b, o, none⟩ cs.toList.length).run P w = .ok cs.toList.toArray w :=
    run_loadCells_list (P := P) w ⟨b, o, none⟩ cs.toList (fun j v hv => by
      have hadd : (⟨b, o, none⟩ : Addr).add j = ⟨b, o + j, none⟩ := by unfold Addr.add; split <;> simp_all
      rw [hadd]
      exact hc j v (by simpa using hv))
  cases hq : P.info? ty with
  | none => simp [hq] at hi
  | some i =>
    have hs : i.size = cs.size := by simpa [hq] using hi
    have hagg : (isAgg ty).run P w = .ok true w := by
      unfold isAgg
      rw [Sem.run_bind, run_underlying hu w]
      cases d <;> simp_all
    simp only [Array.length_toList, Array.toArray_toList] at hl
    simp [Instr.loadAt, Instr.sureAddr, loadVar, Sem.run_bind, hagg, sizeOf, typeInfo, hq, hs, hl]
theorem wpList_load_run {P : Program} {ops : Array Oper} {rest : List Oper} {op : Oper} {a : Act} {w : World} {Q : Exit → Act → World → Prop} (hgd : op.guard = none) (ty : TypeId) (x : Operand) (ho : op.op = .load ty x)
    (vx : Value) (hx : a.eval x = vx) (v : Value) (hr : (Instr.loadAt ty vx).run P w = .ok v w)
    (h : wpList P ops Q rest (a.put op.dst v) w) : wpList P ops Q (op :: rest) a w :=
  wpList_plain hgd fun _ hK => by
    unfold Oper.wp execOp
    simp only [ho, hx, Sem.run_bind, Sem.run_pure, Result.andThen_ok, hr]
    exact hK _ _ h
theorem exec_load {P : Program} {o : Oper} {a : Act} {w : World} (ty : TypeId) (x : Operand) (ho : o.op = .load ty x) (vx : Value) (hx : a.eval x = vx) (v : Value) (hr : (Instr.loadAt ty vx).run P w = .ok v w) : (execOp a.eval o).run P w = .ok (.value v) w := by
  unfold execOp
  simp only [ho, hx, Sem.run_bind, Sem.run_pure, Result.andThen_ok, hr]
theorem step_store_run {P : Program} {ops : Array Oper} {o : Oper} {a : Act} {w : World} {K : Act → World → Prop} {Q : Exit → Act → World → Prop} {E : Prop} (hgd : o.guard = none) (ty : TypeId) (x y : Operand) (ho : o.op = .store ty x y)
    (vx vy : Value) (hx : a.eval x = vx) (hy : a.eval y = vy) (w' : World) (hr : (Instr.storeAt ty vx vy).run P w = .ok () w') (h : K (a.put o.dst undef) w') :
    if Region.wanted o (yielded ops a.tmps) = true then Oper.wp P o a w K Q else E := by
  have hw : Region.wanted o (yielded ops a.tmps) = true := by simp [Region.wanted, hgd]
  rw [if_pos hw]
  unfold Oper.wp execOp
  simp only [ho, hx, hy, Sem.run_bind, Sem.run_pure, Result.andThen_ok, hr]
  exact h
theorem sizeDc : (Try.prog.info? 61).map (·.size) = some 24 := by kernel_rfl

/-- In the middle of a step: the machine, and the box B with a call's copy. -/
structure Mid (z w w0 : World) (R : Nat) (col : Col) (im : PIm) (mem : List Int) (l : List Dc) (tr : List Int) (hh : Bool) (x t : Int) (sp : Bool) (n : Nat) (cv : Value) (C cap : Nat) (tv : Value) (B : Nat) (y : Dc) : Prop where
  dx : DX z w0 R col im mem l tr hh x t sp n cv (.slice (some ⟨C, 0, none⟩) l.length cap) tv
  bx : z.heap[B]? = some (.cells y.cs.toArray 61 (0, 0))
  bn : col B = none
  ge : w0.heap.size ≤ B
  bw : w.heap.size ≤ B
  ex : Ex col w col z
  all : allok l
  ok : y.c.ok
section
variable {w w' w0 z : World} {R : Nat} {col col' : Col} {im : PIm} {mem : List Int} {l : List Dc} {tr : List Int} {hh : Bool} {x t : Int} {sp : Bool} {n : Nat} {cv kv tv : Value} {C cap B : Nat} {y : Dc}
theorem Mid.keep (h : Mid z w w0 R col im mem l tr hh x t sp n cv C cap tv B y) (hq : Q z w') : Mid w' w w0 R col im mem l tr hh x t sp n cv C cap tv B y :=
  ⟨h.dx.keep hq, (hq.block B (lt_of_some h.bx)).trans h.bx, h.bn, h.ge, h.bw, h.ex.trans (Ex.q hq), h.all, h.ok⟩
theorem Mid.cell (h : Mid z w w0 R col im mem l tr hh x t sp n cv C cap tv B y) {j : Nat} {u : Value} (hu : y.cs[j]? = some u) : z.cell? ⟨B, j, none⟩ = some u :=
  (cell_of_block h.bx j).trans (by rw [List.getElem?_toArray]; exact hu)
theorem Mid.fz (h : Mid z w w0 R col im mem l tr hh x t sp n cv C cap tv B y) (j : Nat) : z.frozen? ⟨B, j, none⟩ = false := free_of_block h.bx j
/-- The box is written. -/
theorem Mid.box (h : Mid z w w0 R col im mem l tr hh x t sp n cv C cap tv B y) {j : Nat} {u : Value} {y' : Dc} (he : y'.cs = y.cs.set j u) (ho : y'.c.ok) : Mid (z.setCell ⟨B, j, none⟩ u) w w0 R col im mem l tr hh x t sp n cv C cap tv B y' := by
  refine ⟨h.dx.other (p := ⟨B, j, none⟩) h.bn h.ge u, ?_, h.bn, h.ge, h.bw, h.ex.set (Or.inr h.bw) u, h.all, ho⟩
  rw [heap_setCell_same z B j _ _ u h.bx, he]
  simp
/-- The box's load. -/
theorem Mid.load (h : Mid z w w0 R col im mem l tr hh x t sp n cv C cap tv B y) : (Instr.loadAt 61 (.pointer (some ⟨B, 0, none⟩))).run Try.prog z = .ok (.agg y.cs.toArray) z :=
  loadAt_row z B 0 61 _ y.cs.toArray (fun j v hv => by rw [Nat.zero_add]; exact (cell_of_block h.bx j).trans hv) Try.underlying61 rfl (by rw [sizeDc, List.size_toArray, Dc.len h.ok])
/-- The box is written back. -/
theorem Mid.put (h : Mid z w w0 R col im mem l tr hh x t sp n cv C cap tv B y) {k : Nat} (hk : k < l.length) :
    ∃ Z, (Instr.storeAt 61 (.pointer (some ⟨C, k * 24, none⟩)) (.agg y.cs.toArray)).run Try.prog z = .ok () Z ∧ Mid Z w w0 R col im mem (l.set k y) tr hh x t sp n cv C cap tv B y := by
  rcases h.dx.ko.2 with ⟨e0, -⟩ | ⟨g, cp, ks, e0, hb, hg, hnc, hcm, hcs, ht⟩
  · injection e0 with e0; cases e0
  · injection e0 with e1 e2 e3
    injection e1 with e1
    injection e1 with e1
    subst e1; subst e3
    have h24 : y.cs.length = 24 := Dc.len h.ok
    have hfit : k * 24 + y.cs.toArray.size ≤ ks.size := by rw [List.size_toArray, h24]; omega
    have hst := storeAt_row (P := Try.prog) z C (k * 24) 61 61 ks y.cs.toArray hg hfit (by rw [sizeDc, List.size_toArray, h24]) (by
      rw [Array.all_eq_true_iff_forall_mem]; intro u hu; exact Dc.one y u (by simpa using hu))
    have hCB : C ≠ B := fun e => by have := h.dx.koc C rfl; rw [e, h.bn] at this; cases this
    have oth : ∀ b, b ≠ C → (z.setRow C (putA ks (k * 24) y.cs.toArray)).heap[b]? = z.heap[b]? := fun b hb => setRow_other z C b _ hb
    have hok' : allok (l.set k y) := fun q hq => by
      rcases List.mem_or_eq_of_mem_set hq with q' | rfl
      · exact h.all _ q'
      · exact h.ok
    obtain ⟨m1, m2⟩ := h.dx.setK (w' := z.setRow C (putA ks (k * 24) y.cs.toArray)) (ks' := putA ks (k * 24) y.cs.toArray) (l' := l.set k y) (by simp) (by simp) rfl rfl rfl oth (setRow_heap z C ks _ _ _ hg) ((putA_size hfit).trans hcs) (put_row h.all hk y h.ok ht (by omega)) hok'
    exact ⟨_, hst, ⟨m1, (oth B (fun e => hCB e.symm)).trans h.bx, h.bn, h.ge, h.bw, h.ex.trans m2, hok', h.ok⟩⟩
/-- What is read while the box is written back. -/
abbrev BackS (R C cap B k : Nat) (y : Dc) (Y : World) : Prop := Y.cell? ⟨R, 5, none⟩ = some (.slice (some ⟨C, 0, none⟩) (k + 1) cap) ∧ (Instr.loadAt 61 (.pointer (some ⟨B, 0, none⟩))).run Try.prog Y = .ok (.agg y.cs.toArray) Y
theorem Mid.backS (h : Mid z w w0 R col im mem l tr hh x t sp n cv C cap tv B y) {k : Nat} (hk : k + 1 = l.length) : BackS R C cap B k y z :=
  ⟨by rw [hk]; exact h.dx.c0.2.2.2.2.2.1, h.load⟩
theorem Mid.back (h : Mid z w w0 R col im mem l tr hh x t sp n cv C cap tv B y) {k : Nat} (hk : k + 1 = l.length) :
    BackS R C cap B k y z.drew ∧ ∃ Z, (Instr.storeAt 61 (.pointer (some ⟨C, k * 24, none⟩)) (.agg y.cs.toArray)).run Try.prog z.drew = .ok () Z ∧ BackS R C cap B k y Z ∧ Mid Z w w0 R col im mem (l.set k y) tr hh x t sp n cv C cap tv B y := by
  have h1 := h.keep (w' := z.drew) (Q.refl z).drew
  obtain ⟨Z, e1, e2⟩ := h1.put (k := k) (by omega)
  exact ⟨h1.backS hk, Z, e1, e2.backS (by rw [List.length_set]; exact hk), e2⟩
/-- A call is copied into a new box. -/
theorem DX.copy (h : DX w w0 R col im mem l tr hh x t sp n cv kv tv) (hal : allok l) {k : Nat} (hy : l[k]? = some y) :
    ∃ C cap, kv = .slice (some ⟨C, 0, none⟩) l.length cap ∧ (Instr.loadAt 61 (.pointer (some ⟨C, k * 24, none⟩))).run Try.prog w = .ok (.agg y.cs.toArray) w ∧
      (Instr.storeAt 61 (.pointer (some ⟨w.heap.size, 0, none⟩)) (.agg y.cs.toArray)).run Try.prog (w.alloc (.cells z24 61)) = .ok () (w.alloc (.cells y.cs.toArray 61)) ∧
      Mid (w.alloc (.cells y.cs.toArray 61)) w w0 R col im mem l tr hh x t sp n cv C cap tv w.heap.size y := by
  have hk := (List.getElem?_eq_some_iff.1 hy).1
  have hyo : y.c.ok := hal y (List.mem_of_getElem? hy)
  have h24 : y.cs.length = 24 := Dc.len hyo
  have hq : Q w (w.alloc (.cells y.cs.toArray 61)) := (Q.refl w).alloc _
  rcases h.ko.2 with ⟨e0, e1⟩ | ⟨g, cp, ks, e0, hb, hg, hnc, hcm, hcs, ht⟩
  · omega
  · subst e0
    refine ⟨g, cp, rfl, loadAt_row w g (k * 24) 61 _ y.cs.toArray (fun j v hv => ?_) Try.underlying61 rfl (by rw [sizeDc, List.size_toArray, h24]), run_storeAt_new w _ z24 _ (by rw [sizeDc, List.size_toArray, h24]) (show 24 = y.cs.toArray.size by rw [List.size_toArray, h24]) (by
      rw [Array.all_eq_true_iff_forall_mem]; intro u hu; exact Dc.one y u (by simpa using hu)), ⟨h.keep hq, heap_new w _, h.fresh (Nat.le_refl _), h.bel.size, Nat.le_refl _, Ex.q hq, hal, hyo⟩⟩
    have hj : j < 24 := by
      have := (Array.getElem?_eq_some_iff.1 hv).1
      rw [List.size_toArray, h24] at this; exact this
    rw [cell_of_block hg, ← Array.getElem?_toList]
    have : (ks.toList.take (l.length * 24))[k * 24 + j]? = some v := by rw [ht, rowK_at hal hy hj]; simpa using hv
    rw [List.getElem?_take] at this
    split at this
    · exact this
    · cases this
end
end Da
end Go.Proofs.Ytnlgkiejppgfjaa

namespace Go.Proofs.Ytnlgkiejppgfjaa
open Go.RowKit Go.Deep
set_option linter.unusedVariables false

namespace Da
/-- The calls of the document's machine are those of the plain one. -/
structure DL (mem : List Int) (l : List Dc) (cls : List Cl) (tr : List Int) (n : Nat) : Prop where
  cl : cls = l.map (·.c)
  ok : allok l
  an : ∀ (k : Nat) (y y' : Dc), l[k]? = some y → l[k + 1]? = some y' → y.d = (y'.c.an : Int)
  up : ∀ (k : Nat) (y y' : Dc), l[k]? = some y → l[k + 1]? = some y' → y.c.ba ≤ y'.c.ba
  top : ∀ (k : Nat) (y : Dc), l[k]? = some y → y.c.ba ≤ mem.length
  ml : mem.length ≤ 65536
  cll : l.length ≤ 2000
  trl : tr.length ≤ n
  nle : n ≤ 8388608
section
variable {mem mem' : List Int} {l : List Dc} {cls : List Cl} {tr tr' : List Int} {n n' : Nat} {k : Nat} {y y' : Dc}
theorem DL.len (h : DL mem l cls tr n) : cls.length = l.length := by rw [h.cl, List.length_map]
theorem DL.at (h : DL mem l cls tr n) (hy : l[k]? = some y) : cls[k]? = some y.c := by rw [h.cl, List.getElem?_map, hy]; rfl
theorem set_last {α : Type} {l : List α} {k : Nat} (hk : k + 1 = l.length) (a : α) (j : Nat) : (l.set k a)[j]? = if j = k then some a else l[j]? := by
  rw [List.getElem?_set]
  by_cases e : j = k
  · subst e; simp; omega
  · rw [if_neg (fun q => e q.symm), if_neg e]
/-- The last call is another one. -/
theorem DL.set (h : DL mem l cls tr n) (hk : k + 1 = l.length) (hy : l[k]? = some y) (hb : y'.c.ba = y.c.ba) (ha : y'.c.an = y.c.an) (ho : y'.c.ok) (hm : mem'.length = mem.length) (ht : tr'.length ≤ n') (hn : n' ≤ 8388608) : DL mem' (l.set k y') (cls.set k y'.c) tr' n' := by
  refine ⟨by rw [h.cl, List.map_set], fun x hx => ?_, fun j a b h1 h2 => ?_, fun j a b h1 h2 => ?_, fun j a h1 => ?_, by rw [hm]; exact h.ml, by rw [List.length_set]; exact h.cll, ht, hn⟩
  · rcases List.mem_or_eq_of_mem_set hx with q | rfl
    · exact h.ok x q
    · exact ho
  · rw [set_last hk] at h1 h2
    have hj : j + 1 ≤ k := by
      split at h2
      · omega
      · have := (List.getElem?_eq_some_iff.1 h2).1; omega
    rw [if_neg (by omega)] at h1
    by_cases e : j + 1 = k
    · rw [if_pos e] at h2
      obtain rfl := Option.some.inj h2
      rw [ha]
      exact h.an j a y h1 (by rw [e]; exact hy)
    · rw [if_neg e] at h2
      exact h.an j a b h1 h2
  · rw [set_last hk] at h1 h2
    have hj : j + 1 ≤ k := by
      split at h2
      · omega
      · have := (List.getElem?_eq_some_iff.1 h2).1; omega
    rw [if_neg (by omega)] at h1
    by_cases e : j + 1 = k
    · rw [if_pos e] at h2
      obtain rfl := Option.some.inj h2
      rw [hb]
      exact h.up j a y h1 (by rw [e]; exact hy)
    · rw [if_neg e] at h2
      exact h.up j a b h1 h2
  · rw [set_last hk] at h1
    rw [hm]
    by_cases e : j = k
    · rw [if_pos e] at h1
      obtain rfl := Option.some.inj h1
      rw [hb]
      exact h.top k y hy
    · rw [if_neg e] at h1
      exact h.top j a h1
/-- One more call. -/
theorem DL.push (h : DL mem l cls tr n) (hk : k + 1 = l.length ∨ l = []) (y : Dc) (hd : ∀ z, l[k]? = some z → z.d = (y.c.an : Int)) (hb : y.c.ba = mem.length) (ho : y.c.ok) (f : Nat) (hf : ¬ 65536 - (mem.length : Int) < (f : Int)) (hl : l.length < 2000) : DL (mem ++ List.replicate f 0) (l ++ [y]) (cls ++ [y.c]) tr n := by
  have hml : (mem ++ List.replicate f (0 : Int)).length = mem.length + f := by simp
  have hsp : ∀ (j : Nat) (b : Dc), (l ++ [y])[j]? = some b → (j < l.length ∧ l[j]? = some b) ∨ (j = l.length ∧ b = y) := fun j b e => by
    by_cases q : j < l.length
    · rw [List.getElem?_append_left q] at e; exact .inl ⟨q, e⟩
    · have := (List.getElem?_eq_some_iff.1 e).1
      rw [List.length_append] at this
      have q2 : j = l.length := by simp at this; omega
      subst q2
      rw [List.getElem?_append_right (Nat.le_refl _), Nat.sub_self] at e
      exact .inr ⟨rfl, (Option.some.inj e).symm⟩
  refine ⟨by rw [h.cl]; simp, fun x hx => ?_, fun j a b h1 h2 => ?_, fun j a b h1 h2 => ?_, fun j a h1 => ?_, by rw [hml]; have := h.ml; omega, by simp; omega, h.trl, h.nle⟩
  · rcases List.mem_append.1 hx with q | q
    · exact h.ok x q
    · rw [List.mem_singleton.1 q]; exact ho
  · rcases hsp _ _ h2 with ⟨q, e2⟩ | ⟨q, rfl⟩
    · rw [List.getElem?_append_left (by omega)] at h1; exact h.an j a b h1 e2
    · rw [List.getElem?_append_left (by omega)] at h1
      rcases hk with hk | rfl
      · exact hd a (by rw [show k = j by omega]; exact h1)
      · simp at h1
  · rcases hsp _ _ h2 with ⟨q, e2⟩ | ⟨q, rfl⟩
    · rw [List.getElem?_append_left (by omega)] at h1; exact h.up j a b h1 e2
    · rw [List.getElem?_append_left (by omega)] at h1
      rw [hb]; exact h.top j a h1
  · rw [hml]
    rcases hsp _ _ h1 with ⟨q, e2⟩ | ⟨q, rfl⟩
    · have := h.top j a e2; omega
    · omega
/-- The last call has ended. -/
theorem DL.pop (h : DL mem l cls tr n) {k1 : Nat} (hk : k1 + 2 = l.length) {y p : Dc} (hy : l[k1 + 1]? = some y) (hp : l[k1]? = some p) (ho : y'.c.ok) (hb : y'.c.ba = p.c.ba) (ha : y'.c.an = p.c.an) (ht : tr'.length ≤ n') (hn : n' ≤ 8388608) :
    DL (mem.take y.c.ba) ((l.take (k1 + 1)).set k1 y') ((cls.take (k1 + 1)).set k1 y'.c) tr' n' := by
  have ht1 := h.top (k1 + 1) y hy
  have hl1 : (mem.take y.c.ba).length = y.c.ba := by rw [List.length_take]; omega
  have hup : ∀ (i : Nat), i ≤ k1 + 1 → ∀ (j : Nat) (a : Dc), j + i = k1 + 1 → l[j]? = some a → a.c.ba ≤ y.c.ba := by
    intro i
    induction i with
    | zero => intro _ j a e1 e2; rw [show j = k1 + 1 by omega, hy] at e2; rw [← Option.some.inj e2]; exact Nat.le_refl _
    | succ i ih =>
      intro hi j a e1 e2
      obtain ⟨b, hb⟩ := get_of_lt (l := l) (k := j + 1) (by omega)
      exact Nat.le_trans (h.up j a b e2 hb) (ih (by omega) (j + 1) b (by omega) hb)
  have D2 : DL (mem.take y.c.ba) (l.take (k1 + 1)) (cls.take (k1 + 1)) tr n := by
    have cut : ∀ (j : Nat) (a : Dc), (l.take (k1 + 1))[j]? = some a → j < k1 + 1 ∧ l[j]? = some a := fun j a e => by
      rw [List.getElem?_take] at e
      split at e
      · exact ⟨by assumption, e⟩
      · cases e
    refine ⟨by rw [h.cl, List.map_take], allok_take h.ok _, fun j a b h1 h2 => h.an j a b (cut _ _ h1).2 (cut _ _ h2).2, fun j a b h1 h2 => h.up j a b (cut _ _ h1).2 (cut _ _ h2).2, fun j a h1 => ?_, by rw [hl1]; exact h.ok y (List.mem_of_getElem? hy) |>.ba, by rw [List.length_take]; have := h.cll; omega, h.trl, h.nle⟩
    rw [hl1]
    obtain ⟨q, e⟩ := cut _ _ h1
    exact hup (k1 + 1 - j) (by omega) j a (by omega) e
  exact D2.set (k := k1) (by rw [List.length_take]; omega) (by rw [List.getElem?_take, if_pos (by omega)]; exact hp) hb ha ho rfl ht hn
end

theorem abs_world {P : Program} {c : Code} {Q : Exit → Act → World → Prop} {a : Act} {W : World} (M : World → Prop) (hM : M W) (h : ∀ z, M z → Code.wp P c Q a z) : Code.wp P c Q a W := h W hM
/-- How a step ends. -/
def SP (w w0 : World) (R : Nat) (col : Col) (im : PIm) (tr : List Int) (n : Nat) (rs : Rs) (e : Ending) (w' : World) : Prop :=
  e = .returned (.tuple #[]) ∧ match rs with
    | .go m c t => ∃ col' l' cv kv tv, DX w' w0 R col' im m l' t false 0 0 false n cv kv tv ∧ Ex col w col' w' ∧ DL m l' c t n
    | .stop q => q ≠ 0 ∧ ∃ col' m' l' cv kv tv, DX w' w0 R col' im m' l' tr false 0 q false n cv kv tv ∧ Ex col w col' w'
    | .halt x => ∃ col' m' l' cv kv tv, DX w' w0 R col' im m' l' tr true x 0 false n cv kv tv ∧ Ex col w col' w'
/-- The parts of a word. -/
structure Pts (v o t : Int) (d a b : Nat) (i : Int) : Prop where
  po : ∀ X, Calls Try.prog 32 #[.int .u64 v, .int .i64 56, .int .i64 8] X fun e w' => e = .returned (.int .i64 o) ∧ ∃ m, w' = X.drewN m
  pt : ∀ X, Calls Try.prog 32 #[.int .u64 v, .int .i64 52, .int .i64 4] X fun e w' => e = .returned (.int .i64 t) ∧ ∃ m, w' = X.drewN m
  pd : ∀ X, Calls Try.prog 32 #[.int .u64 v, .int .i64 48, .int .i64 4] X fun e w' => e = .returned (.int .i64 (d : Int)) ∧ ∃ m, w' = X.drewN m
  pa : ∀ X, Calls Try.prog 32 #[.int .u64 v, .int .i64 44, .int .i64 4] X fun e w' => e = .returned (.int .i64 (a : Int)) ∧ ∃ m, w' = X.drewN m
  pb : ∀ X, Calls Try.prog 32 #[.int .u64 v, .int .i64 40, .int .i64 4] X fun e w' => e = .returned (.int .i64 (b : Int)) ∧ ∃ m, w' = X.drewN m
  p0 : ∀ X, Calls Try.prog 32 #[.int .u64 v, .int .i64 32, .int .i64 8] X fun e w' => e = .returned (.int .i64 0) ∧ ∃ m, w' = X.drewN m
  pi : ∀ X, Calls Try.prog 32 #[.int .u64 v, .int .i64 0, .int .i64 32] X fun e w' => e = .returned (.int .i64 i) ∧ ∃ m, w' = X.drewN m
end Da
end Go.Proofs.Ytnlgkiejppgfjaa
