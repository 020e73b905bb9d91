/-
  slices.Insert of one word into a row of words of one's own: contracts over the program; the conditions: the row is no longer than memory bears, the word lies in another block.
  slices.Insert of one word in the middle of a row of words of one's own: contracts over the program; the conditions: the row is no longer than memory bears, the word lies in another block.
-/
import Derived.Test.YtdiidmmmemmjjaaDoorKLvZr
import Derived.Lib.Overlaps
import Derived.Lib.AppendZerosOnto
import Derived.Deep.AppendLies
import Derived.Deep.RegionLaw
import Derived.Laws.CopyRow
namespace Go.Proofs.YtdiidmmmemmjjaaDoor.Lv
open Go.RowKit Go.Deep
set_option linter.unusedVariables false

/-- A copy of some elements to a place within a block. -/
theorem run_copy_at {P : Program} (w : World) (dT sT ty elem : TypeId) (g o dLen dCap : Nat) (a : Addr) (sLen sCap sz m : Nat) (cur : Array Value) (t : TypeId) (cs : List Value)
    (hu : P.underlying dT = some (.slice elem)) (hs : (P.info? elem).map (·.size) = some sz)
    (hg : w.heap[g]? = some (.cells cur t (0, 0))) (hm : Nat.min sLen dLen = m) (hn : cs.length = m * sz)
    (hsrc : ∀ j v, cs[j]? = some v → w.cell? (a.add j) = some v) (hfit : o + cs.length ≤ cur.size) (h1 : ∀ v ∈ cs, v.oneCell' = true) :
    (Builtin.copy_ #[dT, sT] ty #[.slice (some ⟨g, o, none⟩) dLen dCap, .slice (some a) sLen sCap]).run P w =
      .ok (goInt m) (w.setRow g (cur.toList.take o ++ cs ++ cur.toList.drop (o + cs.length)).toArray) := by
  have hl := run_loadCells_list (P := P) w a cs hsrc
  have hst := run_storeCells_at P g o t cs 0 cur w hg (by simpa using hfit) h1
  subst hm
  cases hq : P.info? elem with
  | none => simp [hq] at hs
  | some i =>
    have hi : i.size = sz := by simpa [hq] using hs
    rw [hn] at hl
    simp only [Nat.add_zero] at hst
    simp [Builtin.copy_, run_underlying hu, Builtin.lenOf, Builtin.firstCells, sizeOf, typeInfo, hq, hi, hl, hst]
theorem wpList_copy_run {P : Program} {w : World} {ops : Array Oper} {rest : List Oper} {o : Oper} {a : Act} {Q : Exit → Act → World → Prop} (hgd : o.guard = none) (d s : Operand) (dT sT : TypeId)
    (ho : o.op = .call { callee := .builtin .copy, args := #[d, s], argTypes := #[dT, sT] }) (v u : Value) (hd : a.eval d = v) (hs : a.eval s = u) (v' : Value) (w' : World)
    (hr : (Builtin.copy_ #[dT, sT] o.type #[v, u]).run P w = .ok v' w') (h : wpList P ops Q rest (a.put o.dst v') w') : wpList P ops Q (o :: rest) a w := by
  refine wpList_plain hgd fun K hK => ?_
  unfold Oper.wp
  simp [execOp, ho, resolve, invoke, builtin, hd, hs, hr, Result.andThen]
  exact hK _ _ h
theorem step_copy_run {P : Program} {ops : Array Oper} {o : Oper} {a : Act} {w : World} {K : Act → World → Prop} {Q : Exit → Act → World → Prop} {E : Prop} (hgd : o.guard = none) (d s : Operand) (dT sT : TypeId)
    (ho : o.op = .call { callee := .builtin .copy, args := #[d, s], argTypes := #[dT, sT] }) (v u : Value) (hd : a.eval d = v) (hs : a.eval s = u) (v' : Value) (w' : World)
    (hr : (Builtin.copy_ #[dT, sT] o.type #[v, u]).run P w = .ok v' w') (h : K (a.put o.dst v') w') :
    if Region.wanted o (yielded ops a.tmps) = true then Oper.wp P o a w K Q else E := by
  have hw : Region.wanted o (yielded ops a.tmps) = true := by simp [Region.wanted, hgd]
  rw [if_pos hw]
  unfold Oper.wp
  simp [execOp, ho, resolve, invoke, builtin, hd, hs, hr, Result.andThen]
  exact h
/-- An append whose run is known, in a plain region. -/
theorem wpList_append_run {P : Program} {ops : Array Oper} {rest : List Oper} {o : Oper} {a : Act} {w : World} {Q : Exit → Act → World → Prop} (hgd : o.guard = none) (s x : Operand) (t tn : TypeId)
    (ho : o.op = .call { callee := .builtin .append, args := #[s, x], argTypes := #[t, tn] }) (vs vx : Value) (hs : a.eval s = vs) (hx : a.eval x = vx)
    (v' : Value) (w' : World) (hr : (Builtin.append_ #[t, tn] o.type #[vs, vx]).run P w = .ok v' w') (h : wpList P ops Q rest (a.put o.dst v') w') : wpList P ops Q (o :: rest) a w :=
  wpList_plain hgd fun _ hK => Lib.wp_append_run w s x t tn ho vs vx hs hx v' w' hr (hK _ _ h)
theorem sizeWord : (Tryd.prog.info? 80).map (·.size) = some 2 := by kernel_rfl

/-- How an insertion ends. -/
def InsP (w : World) (base n : Nat) (v : Value) (L' : List (Int × Int)) (e : Ending) (w' : World) : Prop :=
  ∃ g cap, e = .returned (.slice (some ⟨g, 0, none⟩) (n + 1) cap) ∧ w'.ownsRow base 80 2 (.slice (some ⟨g, 0, none⟩) (n + 1) cap) (n + 1) (wdC L') ∧ w.grownBy w' v.ownBlock ∧ (v.ownBlock = some g ∨ w.heap.size ≤ g)

set_option maxRecDepth 100000 in
set_option maxHeartbeats 2000000 in
theorem insert_end (w : World) (base vb : Nat) (v : Value) (L : List (Int × Int)) (x : Int × Int) (hl : L.length ≤ 1099511627776) (hb : base ≤ w.heap.size)
    (h : w.ownsRow base 80 2 v L.length (wdC L)) (hx : ∀ j u, (wdC [x])[j]? = some u → w.cell? ⟨vb, j, none⟩ = some u) :
    Calls Tryd.prog 50 #[v, .int .i64 (L.length : Int), .slice (some ⟨vb, 0, none⟩) 1 1] w (InsP w base L.length v (L ++ [x])) := by
  obtain ⟨i0, ti, tz0, tz1, tz2⟩ := info_word
  have HTI := hideIt (And.intro ti (And.intro tz0 (And.intro tz1 tz2)))
  have HO := hideIt h
  obtain ⟨a, c, rfl, hnc, hcm⟩ : ∃ a c, v = .slice a L.length c ∧ L.length ≤ c ∧ c ≤ maxLen := by
    rcases h.2 with ⟨e0, e1⟩ | ⟨g, cap, cur, e0, -, -, h1, h2, -⟩
    · exact ⟨none, 0, by rw [e0, e1], by omega, by decide⟩
    · exact ⟨_, _, e0, h1, h2⟩
  have HN := hideIt (show ∀ j u, (wdC [x])[j]? = some u → w.cell? ((⟨vb, 0, none⟩ : Addr).add j) = some u from fun j u hj => by
    have ea : (⟨vb, 0, none⟩ : Addr).add j = ⟨vb, j, none⟩ := by unfold Addr.add; split <;> simp_all
    rw [ea]
    exact hx j u hj)
  have HL : Hid ((wdC [x]).length = 1 * 2) := wdC_len [x]
  have H1 := hideIt (wdC_one [x])
  have HB := hideIt hb
  obtain ⟨n, hn⟩ : ∃ n, L.length = n := ⟨_, rfl⟩
  rw [hn] at hl hnc HO ⊢
  have HM := hideIt (show n + 1 ≤ maxLen ∧ (n + 1) * 16 ≤ 140737488355328 by unfold maxLen; omega)
  have z1 : IntKind.i64.wrap (n : Int) = (n : Int) := by rw [IntKind.wrap_i64]; omega
  unfold maxLen at hcm
  have k1 : (n : Int) ≤ (c : Int) := by omega
  have HF := hideIt (show ∀ (w1 : World) (g2 cap2 : Nat), w1.ownsRow base 80 2 (.slice (some ⟨g2, 0, none⟩) (n + 1) cap2) (n + 1) (wdC L ++ wdC [x]) → w.grownBy w1 (Value.slice a n c).ownBlock → ((Value.slice a n c).ownBlock = some g2 ∨ g2 = w.heap.size) → InsP w base n (.slice a n c) (L ++ [x]) (.returned (.slice (some ⟨g2, 0, none⟩) (n + 1) cap2)) w1 from fun w1 g2 cap2 h1 h2 h3 => ⟨g2, cap2, rfl, by rw [wdC_append]; exact h1, h2, h3.imp id (fun e => by omega)⟩)
  clear h hx hb hn ti tz0 tz1 tz2 hl
  by_cases hcn : c = n
  · subst c
    go_enter Tryd.func50, Tryd.ntmps50
    go_wp2_with (first
      | (at_builtin; refine wpList_append_lies _ rfl _ _ 41 rfl base 80 i0 (.agg #[.int .i64 0, .int .u64 0]) 2 16 Tryd.underlying41 HTI.out.1 HTI.out.2.1 HTI.out.2.2.1 HTI.out.2.2.2 rfl (by decide) (.slice a n n) n (wdC L) rfl HO.out ⟨vb, 0, none⟩ 1 1 (wdC [x]) rfl HL.out HN.out H1.out (by decide) HM.out.1 HM.out.2 HB.out w.heap.size rfl ?_; intro g2 cap2 w1 hown hgrow hat hlt; have K := hideIt (HF.out w1 g2 cap2 hown hgrow hat); clear hown hgrow hat)
      | fail)
    go_ret
    exact K.out
  · have k2 : ¬ (c = n) := hcn
    go_enter Tryd.func50, Tryd.ntmps50
    go_wp2_with (first
      | (at_builtin; refine wpList_append_lies _ rfl _ _ 41 rfl base 80 i0 (.agg #[.int .i64 0, .int .u64 0]) 2 16 Tryd.underlying41 HTI.out.1 HTI.out.2.1 HTI.out.2.2.1 HTI.out.2.2.2 rfl (by decide) (.slice a n c) n (wdC L) rfl HO.out ⟨vb, 0, none⟩ 1 1 (wdC [x]) rfl HL.out HN.out H1.out (by decide) HM.out.1 HM.out.2 HB.out w.heap.size rfl ?_; intro g2 cap2 w1 hown hgrow hat hlt; have K := hideIt (HF.out w1 g2 cap2 hown hgrow hat); clear hown hgrow hat)
      | fail)
    go_ret
    exact K.out
end Go.Proofs.YtdiidmmmemmjjaaDoor.Lv

namespace Go.Proofs.YtdiidmmmemmjjaaDoor.Lv
open Go.RowKit Go.Deep
set_option linter.unusedVariables false

/-- What two copies make of the cells. -/
theorem ins_room (cur : List Value) (L : List (Int × Int)) (i : Nat) (x : Int × Int) (hi : i ≤ L.length) (h : cur.take (L.length * 2) = wdC L) (hs : (L.length + 1) * 2 ≤ cur.length) (c1 c2 : List Value)
    (e1 : c1 = cur.take ((i + 1) * 2) ++ wdC (L.drop i) ++ cur.drop ((i + 1) * 2 + (wdC (L.drop i)).length)) (e2 : c2 = c1.take (i * 2) ++ wdC [x] ++ c1.drop (i * 2 + (wdC [x]).length)) :
    c1.length = cur.length ∧ c2.length = cur.length ∧ c2.take ((L.length + 1) * 2) = wdC (L.take i ++ x :: L.drop i) := by
  have l1 : (wdC (L.drop i)).length = (L.length - i) * 2 := by rw [wdC_len, List.length_drop]
  have l2 : (wdC [x]).length = 2 := wdC_len [x]
  have l3 : (wdC (L.take i)).length = i * 2 := by rw [wdC_len, List.length_take]; congr 1; omega
  have n1 : c1.length = cur.length := by rw [e1, List.length_append, List.length_append, l1, List.length_take, List.length_drop]; omega
  have n2 : c2.length = cur.length := by rw [e2, List.length_append, List.length_append, l2, List.length_take, List.length_drop]; omega
  refine ⟨n1, n2, ?_⟩
  have t1 : c1.take (i * 2) = wdC (L.take i) := by
    rw [e1, List.append_assoc, List.take_append_of_le_length (by rw [List.length_take]; omega), List.take_take, ← wdC_take, ← h, List.take_take]
    congr 1; omega
  have t2 : c1.drop (i * 2 + 2) = wdC (L.drop i) ++ cur.drop ((i + 1) * 2 + (wdC (L.drop i)).length) := by
    rw [e1, List.append_assoc, List.drop_append_of_le_length (by rw [List.length_take]; omega), List.drop_of_length_le (by rw [List.length_take]; omega), List.nil_append]
  rw [e2, t1, l2, t2, ← List.append_assoc, List.take_append_of_le_length (by rw [List.length_append, List.length_append, l1, l2, l3]; omega), List.take_of_length_le (by rw [List.length_append, List.length_append, l1, l2, l3]; omega), List.append_assoc, ← wdC_append, ← wdC_append]
  rfl
theorem ins_grow (cur : List Value) (L : List (Int × Int)) (i : Nat) (x : Int × Int) (hi : i ≤ L.length) (h : cur.take (i * 2) = wdC (L.take i)) (hs : (L.length + 1) * 2 ≤ cur.length) (c1 c2 : List Value)
    (e1 : c1 = cur.take (i * 2) ++ wdC [x] ++ cur.drop (i * 2 + (wdC [x]).length)) (e2 : c2 = c1.take ((i + 1) * 2) ++ wdC (L.drop i) ++ c1.drop ((i + 1) * 2 + (wdC (L.drop i)).length)) :
    c1.length = cur.length ∧ c2.length = cur.length ∧ c2.take ((L.length + 1) * 2) = wdC (L.take i ++ x :: L.drop i) := by
  have l1 : (wdC (L.drop i)).length = (L.length - i) * 2 := by rw [wdC_len, List.length_drop]
  have l2 : (wdC [x]).length = 2 := wdC_len [x]
  have l3 : (wdC (L.take i)).length = i * 2 := by rw [wdC_len, List.length_take]; congr 1; omega
  have n1 : c1.length = cur.length := by rw [e1, List.length_append, List.length_append, l2, List.length_take, List.length_drop]; omega
  have n2 : c2.length = cur.length := by rw [e2, List.length_append, List.length_append, l1, List.length_take, List.length_drop]; omega
  refine ⟨n1, n2, ?_⟩
  have t1 : c1.take ((i + 1) * 2) = wdC (L.take i) ++ wdC [x] := by
    rw [e1, h, List.take_append_of_le_length (by rw [List.length_append, l2, l3]; omega), List.take_of_length_le (by rw [List.length_append, l2, l3]; omega)]
  rw [e2, t1, List.take_append_of_le_length (by rw [List.length_append, List.length_append, l1, l2, l3]; omega), List.take_of_length_le (by rw [List.length_append, List.length_append, l1, l2, l3]; omega), List.append_assoc, ← wdC_append, ← wdC_append]
  rfl
theorem wdC_cell {w : World} {g : Nat} {cur : Array Value} {L : List (Int × Int)} {t : TypeId} (hg : w.heap[g]? = some (.cells cur t (0, 0))) (h : cur.toList.take (L.length * 2) = wdC L) (i j : Nat) (u : Value) (hj : (wdC (L.drop i))[j]? = some u) : w.cell? ((⟨g, i * 2, none⟩ : Addr).add j) = some u := by
  have hlt : j < (wdC (L.drop i)).length := by
    rcases Nat.lt_or_ge j (wdC (L.drop i)).length with h | h
    · exact h
    · rw [List.getElem?_eq_none h] at hj; cases hj
  rw [wdC_len, List.length_drop] at hlt
  rw [← wdC_drop, List.getElem?_drop, ← h, List.getElem?_take, if_pos (by omega)] at hj
  rw [show (⟨g, i * 2, none⟩ : Addr).add j = ⟨g, i * 2 + j, none⟩ by simp [Addr.add], World.cell?_of_block (w := w) rfl]
  have : w.cell? ⟨g, i * 2 + j, none⟩ = cur[i * 2 + j]? := by simp [World.cell?, hg]
  rw [this, ← Array.getElem?_toList]
  exact hj
theorem box_cell {w : World} {vb : Nat} {x : Int × Int} (hv : w.heap[vb]? = some (.cells (wdC [x]).toArray 80 (0, 0))) (j : Nat) (u : Value) (hj : (wdC [x])[j]? = some u) : w.cell? ((⟨vb, 0, none⟩ : Addr).add j) = some u := by
  rw [show (⟨vb, 0, none⟩ : Addr).add j = ⟨vb, j, none⟩ by unfold Addr.add; split <;> simp_all]
  have : w.cell? ⟨vb, j, none⟩ = (wdC [x]).toArray[j]? := by simp [World.cell?, hv]
  rw [this, List.getElem?_toArray]
  exact hj

set_option maxRecDepth 100000 in
set_option maxHeartbeats 4000000 in
theorem insert_room (w : World) (base vb g cap : Nat) (L : List (Int × Int)) (i : Nat) (x : Int × Int) (hi : i < L.length) (hroom : L.length + 1 ≤ cap) (hne : vb ≠ g)
    (h : w.ownsRow base 80 2 (.slice (some ⟨g, 0, none⟩) L.length cap) L.length (wdC L)) (hv : w.heap[vb]? = some (.cells (wdC [x]).toArray 80 (0, 0))) :
    Calls Tryd.prog 50 #[.slice (some ⟨g, 0, none⟩) L.length cap, .int .i64 (i : Int), .slice (some ⟨vb, 0, none⟩) 1 1] w (InsP w base L.length (.slice (some ⟨g, 0, none⟩) L.length cap) (L.take i ++ x :: L.drop i)) := by
  rcases h.2 with ⟨e0, -⟩ | ⟨g', cap', cur, e0, hb, hg, hnc, hcm, hcs, ht⟩
  · cases e0
  cases e0
  have hl0 : (wdC L).length = L.length * 2 := wdC_len L
  obtain ⟨c1, e1⟩ : ∃ c1 : List Value, c1 = cur.toList.take ((i + 1) * 2) ++ wdC (L.drop i) ++ cur.toList.drop ((i + 1) * 2 + (wdC (L.drop i)).length) := ⟨_, rfl⟩
  obtain ⟨c2, e2⟩ : ∃ c2 : List Value, c2 = c1.take (i * 2) ++ wdC [x] ++ c1.drop (i * 2 + (wdC [x]).length) := ⟨_, rfl⟩
  obtain ⟨n1, n2, t2⟩ := ins_room cur.toList L i x (by omega) ht (by rw [show cur.toList.length = cur.size from Array.length_toList, hcs]; omega) c1 c2 e1 e2
  rw [show cur.toList.length = cur.size from Array.length_toList] at n1 n2
  have hov : ∀ lb cb, (callFunc 64 #[.slice (some ⟨vb, 0, none⟩) 1 1, .slice (some ⟨g, (i + 1) * 2, none⟩) lb cb]).run Tryd.prog w = .ok (.value (.bool false)) w := fun lb cb => by
    rw [run_callFunc_extern Tryd.func64 (by kernel_rfl) (by kernel_rfl) (by kernel_rfl) (e := Extern.SlicesOverlaps.overlaps #[41, 41] #[4]) (by kernel_rfl),
      Lib.run_overlaps_apart w 41 4 80 Tryd.underlying41 2 (fun w => by kernel_rfl) ⟨vb, 0, none⟩ ⟨g, (i + 1) * 2, none⟩ 1 1 lb cb hne 80 80 2 cur.size (by simp [World.shape?, hv]; rfl) (by simp [World.shape?, hg]) (by rw [hcs]; omega) (free_of_block hv 0) (free_of_block hv 2)]
    rfl
  have hc1 : ∀ W : World, W.heap = w.heap → ∀ ty dc sc, (Builtin.copy_ #[41, 41] ty #[.slice (some ⟨g, (i + 1) * 2, none⟩) (L.length - i) dc, .slice (some ⟨g, i * 2, none⟩) (L.length + 1 - i) sc]).run Tryd.prog W = .ok (goInt ((L.length - i : Nat) : Int)) (W.setRow g c1.toArray) := fun W hW ty dc sc => by
    have hgW : W.heap[g]? = some (.cells cur 80 (0, 0)) := by rw [hW]; exact hg
    rw [e1]
    exact run_copy_at W 41 41 ty 80 g ((i + 1) * 2) _ dc ⟨g, i * 2, none⟩ _ sc 2 (L.length - i) cur 80 (wdC (L.drop i)) Tryd.underlying41 sizeWord hgW (Nat.min_eq_right (by omega)) (by rw [wdC_len, List.length_drop]) (fun j u hj => wdC_cell hgW ht i j u hj) (by rw [wdC_len, List.length_drop, hcs]; omega) (wdC_one _)
  have hc2 : ∀ W : World, W.heap[g]? = some (.cells c1.toArray 80 (0, 0)) → W.heap[vb]? = w.heap[vb]? → ∀ ty dc, (Builtin.copy_ #[41, 41] ty #[.slice (some ⟨g, i * 2, none⟩) (L.length + 1 - i) dc, .slice (some ⟨vb, 0, none⟩) 1 1]).run Tryd.prog W = .ok (goInt 1) (W.setRow g c2.toArray) := fun W hW hWv ty dc => by
    have hr := run_copy_at W 41 41 ty 80 g (i * 2) (L.length + 1 - i) dc ⟨vb, 0, none⟩ 1 1 2 1 c1.toArray 80 (wdC [x]) (P := Tryd.prog) Tryd.underlying41 sizeWord hW (Nat.min_eq_left (by omega)) (wdC_len [x]) (fun j u hj => box_cell (hWv.trans hv) j u hj) (by rw [wdC_len, List.size_toArray, n1, hcs]; simp; omega) (wdC_one _)
    rw [e2]
    exact hr
  have FIN := hideIt (show ∀ W : World, W.heap = ((w.setRow g c1.toArray).setRow g c2.toArray).heap → W.os = w.os → W.tape = w.tape → W.output = w.output → InsP w base L.length (.slice (some ⟨g, 0, none⟩) L.length cap) (L.take i ++ x :: L.drop i) (.returned (.slice (some ⟨g, 0, none⟩) (L.length + 1) cap)) W from fun W q1 q2 q3 q4 => by
    have hh1 := setRow_heap w g cur c1.toArray _ _ hg
    have hh2 := setRow_heap (w.setRow g c1.toArray) g _ c2.toArray _ _ hh1
    refine ⟨g, cap, rfl, ⟨by rw [wdC_len, List.length_append, List.length_cons, List.length_take, List.length_drop]; omega, .inr ⟨g, cap, c2.toArray, rfl, hb, by rw [q1]; exact hh2, hroom, hcm, by rw [List.size_toArray, n2, hcs], by simpa using t2⟩⟩, ⟨q2, q3, q4, by rw [q1]; simp, fun k hk hn => ?_⟩, .inl rfl⟩
    have hk : k ≠ g := fun e => hn (by simp [Value.ownBlock, e])
    rw [q1, setRow_other _ g k _ hk, setRow_other _ g k _ hk])
  have HC1 := hideIt hc1
  have HC2 := hideIt (show ∀ W : World, W.heap = (w.setRow g c1.toArray).heap → ∀ ty dc, (Builtin.copy_ #[41, 41] ty #[.slice (some ⟨g, i * 2, none⟩) (L.length + 1 - i) dc, .slice (some ⟨vb, 0, none⟩) 1 1]).run Tryd.prog W = .ok (goInt 1) (W.setRow g c2.toArray) from fun W hW => hc2 W (by rw [hW]; exact setRow_heap w g cur c1.toArray _ _ hg) (by rw [hW]; exact setRow_other w g vb _ hne))
  obtain ⟨n, hn⟩ : ∃ n, L.length = n := ⟨_, rfl⟩
  unfold maxLen at hcm
  rw [hn] at hi hroom HC1 HC2 FIN ⊢
  have k1 : ¬ ((i : Int) = (n : Int)) := by omega
  have k2 : ¬ ((cap : Int) < (n : Int) + 1) := by omega
  have k3 : IntKind.i64.wrap ((i : Int) + 1) = (i : Int) + 1 := by rw [IntKind.wrap_i64]; omega
  have k4 : IntKind.i64.wrap ((n : Int) + 1) = (n : Int) + 1 := by rw [IntKind.wrap_i64]; omega
  have k5 : ¬ (cap = i + 1) := by omega
  have k6 : ¬ (cap = i) := by omega
  have k7 : (i : Int) ≤ (n : Int) := by omega
  have k8 : (i : Int) ≤ (n : Int) + 1 := by omega
  have k9 : ((i : Int) + 1).toNat = i + 1 := by omega
  have k10 : ((n : Int) + 1).toNat = n + 1 := by omega
  have k11 : (n : Int) + 1 ≤ (cap : Int) := by omega
  have k12 : (i : Int) + 1 ≤ (n : Int) + 1 := by omega
  have k13 : (i : Int) ≤ (cap : Int) := by omega
  have k14 : (0 : Int) ≤ (i : Int) + 1 := by omega
  have HU := hideIt (And.intro e1 e2)
  clear h hv hb hg hnc hcs ht e1 e2 n1 n2 t2 hc1 hc2 hl0 hn
  have r1 := HC1.out w.drew rfl 3 (cap - (i + 1)) (cap - i)
  have r2 := HC2.out (w.drew.setRow g c1.toArray) rfl 3 (cap - i)
  go_enter Tryd.func50, Tryd.ntmps50
  go_wp2_with (first | (simp only [hov]) | fail)
  go_region
  all_goals go_wp2_with (fail)
  all_goals go_ret
  all_goals exact FIN.out _ rfl rfl rfl rfl
set_option maxRecDepth 100000 in
set_option maxHeartbeats 4000000 in
theorem insert_grow (w : World) (base vb g cap : Nat) (L : List (Int × Int)) (i : Nat) (x : Int × Int) (hi : i < L.length) (hroom : cap < L.length + 1) (hl : L.length ≤ 1099511627776) (hbase : base ≤ w.heap.size) (hne : vb ≠ g)
    (h : w.ownsRow base 80 2 (.slice (some ⟨g, 0, none⟩) L.length cap) L.length (wdC L)) (hv : w.heap[vb]? = some (.cells (wdC [x]).toArray 80 (0, 0))) :
    Calls Tryd.prog 50 #[.slice (some ⟨g, 0, none⟩) L.length cap, .int .i64 (i : Int), .slice (some ⟨vb, 0, none⟩) 1 1] w (InsP w base L.length (.slice (some ⟨g, 0, none⟩) L.length cap) (L.take i ++ x :: L.drop i)) := by
  rcases h.2 with ⟨e0, -⟩ | ⟨g', cap', cur, e0, hb, hg, hnc, hcm, hcs, ht⟩
  · cases e0
  cases e0
  have hl0 : (wdC L).length = L.length * 2 := wdC_len L
  obtain ⟨i0, ti, tz0, tz1, tz2⟩ := info_word
  have lT : (wdC (L.take i)).length = i * 2 := by rw [wdC_len, List.length_take]; congr 1; omega
  have hgw : g < w.heap.size := (Array.getElem?_eq_some_iff.1 hg).1
  have hvw : vb < w.heap.size := (Array.getElem?_eq_some_iff.1 hv).1
  have hgN : g ≠ w.heap.size := by omega
  have hvN : vb ≠ w.heap.size := by omega
  have hold : (Builtin.firstCells i0.size i (.slice (some ⟨g, 0, none⟩) i cap)).run Tryd.prog w.drew = .ok (wdC (L.take i)).toArray w.drew := by
    rw [tz1]
    exact run_firstCells_some w.drew 2 i ⟨g, 0, none⟩ i cap (wdC (L.take i)) lT (fun j u hj => by
      have hlt : j < (wdC (L.take i)).length := by
        rcases Nat.lt_or_ge j (wdC (L.take i)).length with h | h
        · exact h
        · rw [List.getElem?_eq_none h] at hj; cases hj
      have h2 : (wdC (L.drop 0))[j]? = some u := by
        rw [List.drop_zero]
        rw [← wdC_take, List.getElem?_take] at hj
        split at hj
        · exact hj
        · cases hj
      have := wdC_cell (w := w.drew) hg ht 0 j u h2
      rwa [Nat.zero_mul] at this)
  obtain ⟨G, hG⟩ : ∃ G, G = grownCap w (L.length + 1) cap 80 := ⟨_, rfl⟩
  have hGn : L.length + 1 ≤ G := by rw [hG]; exact grownCap_ge w _ _ _
  have hGm : G ≤ maxLen := by rw [hG]; exact grownCap_le_maxLen w _ cap _ (by unfold maxLen; omega)
  obtain ⟨ROW, hROW⟩ : ∃ ROW : Array Value, ROW = (wdC (L.take i)).toArray ++ Builtin.zeroCells (Value.agg #[Value.int .i64 0, Value.int .u64 0]).cells (L.length + 1 - i) ++ Builtin.zeroCells (Value.agg #[Value.int .i64 0, Value.int .u64 0]).cells (G - (L.length + 1)) := ⟨_, rfl⟩
  have hzc : (Value.agg #[Value.int .i64 0, Value.int .u64 0]).cells.size = 2 := rfl
  have hRs : ROW.size = G * 2 := by
    rw [hROW, Array.size_append, Array.size_append, List.size_toArray, lT, size_zeroCells, size_zeroCells, hzc]
    omega
  have hRt : ROW.toList.take (i * 2) = wdC (L.take i) := by
    rw [hROW]
    simp only [Array.toList_append]
    rw [List.append_assoc, List.take_append_of_le_length (by rw [lT]; exact Nat.le_refl _), List.take_of_length_le (by rw [lT]; exact Nat.le_refl _)]
  have hrz : ∀ ty, (Builtin.append_ #[41, 3] ty #[.slice (some ⟨g, 0, none⟩) i cap, .int .i64 ((L.length : Int) + 1 - (i : Int))]).run Tryd.prog w = .ok (.slice (some ⟨w.heap.size, 0, none⟩) (L.length + 1) G) (w.drew.alloc (.cells ROW 80)) := fun ty => by
    have hk : i + (L.length + 1 - i) = L.length + 1 := by omega
    have h' := Lib.run_append_grow_zeros w 41 3 ty 80 i0 _ .i64 .i64 Tryd.underlying41 Tryd.underlying3 ti tz0 (some ⟨g, 0, none⟩) i cap (wdC (L.take i)) hold (L.length + 1 - i) (by omega) (by rw [tz1]; omega) (by omega) (by omega) (by rw [tz2]; omega) (by rw [tz2, hk]; exact growslice_fits hroom (by omega))
    rw [hk, ← hG] at h'
    rw [hROW, show (L.length : Int) + 1 - (i : Int) = ((L.length + 1 - i : Nat) : Int) by omega]
    exact h'
  obtain ⟨c1, e1⟩ : ∃ c1 : List Value, c1 = ROW.toList.take (i * 2) ++ wdC [x] ++ ROW.toList.drop (i * 2 + (wdC [x]).length) := ⟨_, rfl⟩
  obtain ⟨c2, e2⟩ : ∃ c2 : List Value, c2 = c1.take ((i + 1) * 2) ++ wdC (L.drop i) ++ c1.drop ((i + 1) * 2 + (wdC (L.drop i)).length) := ⟨_, rfl⟩
  obtain ⟨n1, n2, t2⟩ := ins_grow ROW.toList L i x (by omega) hRt (by rw [show ROW.toList.length = ROW.size from Array.length_toList, hRs]; omega) c1 c2 e1 e2
  rw [show ROW.toList.length = ROW.size from Array.length_toList] at n1 n2
  obtain ⟨W1, hW1⟩ : ∃ W1, W1 = w.drew.alloc (.cells ROW 80) := ⟨_, rfl⟩
  have hN : W1.heap[w.heap.size]? = some (.cells ROW 80 (0, 0)) := by rw [hW1]; exact heap_alloc_new w.drew _
  have hO : ∀ k, k < w.heap.size → W1.heap[k]? = w.heap[k]? := fun k hk => by rw [hW1]; exact heap_alloc_old w.drew _ hk
  have hc1 : ∀ W : World, W.heap = W1.heap → ∀ ty dc, (Builtin.copy_ #[41, 41] ty #[.slice (some ⟨w.heap.size, i * 2, none⟩) (L.length + 1 - i) dc, .slice (some ⟨vb, 0, none⟩) 1 1]).run Tryd.prog W = .ok (goInt 1) (W.setRow w.heap.size c1.toArray) := fun W hW ty dc => by
    have hr := run_copy_at W 41 41 ty 80 w.heap.size (i * 2) (L.length + 1 - i) dc ⟨vb, 0, none⟩ 1 1 2 1 ROW 80 (wdC [x]) (P := Tryd.prog) Tryd.underlying41 sizeWord (by rw [hW]; exact hN) (Nat.min_eq_left (by omega)) (wdC_len [x]) (fun j u hj => box_cell (by rw [hW, hO vb hvw]; exact hv) j u hj) (by rw [wdC_len, hRs]; simp; omega) (wdC_one _)
    rw [e1]
    exact hr
  have hc2 : ∀ W : World, W.heap = (W1.setRow w.heap.size c1.toArray).heap → ∀ ty dc sc, (Builtin.copy_ #[41, 41] ty #[.slice (some ⟨w.heap.size, (i + 1) * 2, none⟩) (L.length - i) dc, .slice (some ⟨g, i * 2, none⟩) (L.length - i) sc]).run Tryd.prog W = .ok (goInt ((L.length - i : Nat) : Int)) (W.setRow w.heap.size c2.toArray) := fun W hW ty dc sc => by
    have hgW : W.heap[g]? = some (.cells cur 80 (0, 0)) := by rw [hW, setRow_other _ _ g _ hgN, hO g hgw]; exact hg
    have hr := run_copy_at W 41 41 ty 80 w.heap.size ((i + 1) * 2) (L.length - i) dc ⟨g, i * 2, none⟩ (L.length - i) sc 2 (L.length - i) c1.toArray 80 (wdC (L.drop i)) (P := Tryd.prog) Tryd.underlying41 sizeWord (by rw [hW]; exact setRow_heap W1 _ ROW _ _ _ hN) (Nat.min_self _) (by rw [wdC_len, List.length_drop]) (fun j u hj => wdC_cell hgW ht i j u hj) (by rw [wdC_len, List.length_drop, List.size_toArray, n1, hRs]; omega) (wdC_one _)
    rw [e2]
    exact hr
  have FIN := hideIt (show ∀ W : World, W.heap = ((W1.setRow w.heap.size c1.toArray).setRow w.heap.size c2.toArray).heap → W.os = w.os → W.tape = w.tape → W.output = w.output → InsP w base L.length (.slice (some ⟨g, 0, none⟩) L.length cap) (L.take i ++ x :: L.drop i) (.returned (.slice (some ⟨w.heap.size, 0, none⟩) (L.length + 1) G)) W from fun W q1 q2 q3 q4 => by
    have hh1 := setRow_heap W1 w.heap.size ROW c1.toArray _ _ hN
    have hh2 := setRow_heap (W1.setRow w.heap.size c1.toArray) w.heap.size _ c2.toArray _ _ hh1
    refine ⟨w.heap.size, G, rfl, ⟨by rw [wdC_len, List.length_append, List.length_cons, List.length_take, List.length_drop]; omega, .inr ⟨w.heap.size, G, c2.toArray, rfl, hbase, by rw [q1]; exact hh2, hGn, hGm, by rw [List.size_toArray, n2, hRs], by simpa using t2⟩⟩, ⟨q2, q3, q4, by rw [q1, hW1]; simp, fun k hk hn => ?_⟩, .inr (Nat.le_refl _)⟩
    have hk' : k ≠ w.heap.size := by omega
    rw [q1, setRow_other _ _ k _ hk', setRow_other _ _ k _ hk', hO k hk])
  have HC1 := hideIt hc1
  have HC2 := hideIt hc2
  have HRZ := hideIt hrz
  have HSZ := hideIt hW1
  obtain ⟨n, hn⟩ : ∃ n, L.length = n := ⟨_, rfl⟩
  unfold maxLen at hcm hGm
  rw [hn] at hi hroom HC1 HC2 HRZ FIN hnc hGn ⊢
  have k1 : ¬ ((i : Int) = (n : Int)) := by omega
  have k2 : (cap : Int) < (n : Int) + 1 := by omega
  have k3 : IntKind.i64.wrap ((i : Int) + 1) = (i : Int) + 1 := by rw [IntKind.wrap_i64]; omega
  have k4 : IntKind.i64.wrap ((n : Int) + 1) = (n : Int) + 1 := by rw [IntKind.wrap_i64]; omega
  have k4b : IntKind.i64.wrap ((n : Int) + 1 - (i : Int)) = (n : Int) + 1 - (i : Int) := by rw [IntKind.wrap_i64]; omega
  have k5 : ¬ (G = i + 1) := by omega
  have k6 : ¬ (G = i) := by omega
  have k6b : ¬ (cap = i) := by omega
  have k7 : (i : Int) ≤ (n : Int) := by omega
  have k8 : (i : Int) ≤ (n : Int) + 1 := by omega
  have k9 : ((i : Int) + 1).toNat = i + 1 := by omega
  have k10 : ((n : Int) + 1).toNat = n + 1 := by omega
  have k12 : (i : Int) + 1 ≤ (n : Int) + 1 := by omega
  have k13 : (i : Int) ≤ (cap : Int) := by omega
  have k14 : (0 : Int) ≤ (i : Int) + 1 := by omega
  have HU := hideIt (And.intro e1 (And.intro e2 hROW))
  clear h hv hb hg hcs ht e1 e2 n1 n2 t2 hc1 hc2 hl0 hn hrz hN hO hROW hRs hRt hG ti tz0 tz1 tz2 hold lT hzc hW1 hl
  have r1 := HC1.out W1 rfl 3 (G - i)
  have r2 := HC2.out (W1.setRow w.heap.size c1.toArray).drew rfl 3 (G - (i + 1)) (cap - i)
  go_enter Tryd.func50, Tryd.ntmps50
  go_wp2_with (first
    | (at_builtin; refine wpList_append_run (by rfl) (.tmp 34) (.tmp 39) 41 3 (by rfl) _ _ (by rfl) (by rfl) _ _ (HRZ.out _) ?_; rw [← HSZ.out])
    | fail)
  go_region
  all_goals go_wp2_with (fail)
  all_goals go_ret
  all_goals exact FIN.out _ rfl (by rw [HSZ.out]; rfl) (by rw [HSZ.out]; rfl) (by rw [HSZ.out]; rfl)
end Go.Proofs.YtdiidmmmemmjjaaDoor.Lv
