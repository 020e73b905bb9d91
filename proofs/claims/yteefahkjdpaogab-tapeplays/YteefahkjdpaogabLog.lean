/-
  What Log answers: a contract over the program; the conditions: the pointer leads to a tape.
-/
import Derived.Test.YteefahkjdpaogabPick
namespace Go.Proofs.Yteefahkjdpaogab
open Go.RowKit
set_option linter.unusedVariables false

/-- A copy of elements of several cells each into a row of one's own. -/
theorem run_copy_sz {P : Program} (w : World) (dT sT ty elem : TypeId) (g dLen dCap : Nat) (a : Addr) (sLen sCap sz : Nat) (cur : Array Value) (t : TypeId) (cs : List Value)
    (hu : P.underlying dT = some (.slice elem)) (hs : (P.info? elem).map (·.size) = some sz)
    (hg : w.heap[g]? = some (.cells cur t (0, 0))) (hn : cs.length = Nat.min sLen dLen * sz)
    (hsrc : ∀ j v, cs[j]? = some v → w.cell? (a.add j) = some v) (hfit : cs.length ≤ cur.size) (h1 : ∀ v ∈ cs, v.oneCell' = true) :
    (Builtin.copy_ #[dT, sT] ty #[.slice (some ⟨g, 0, none⟩) dLen dCap, .slice (some a) sLen sCap]).run P w =
      .ok (goInt (Nat.min sLen dLen)) (w.setRow g (cs ++ cur.toList.drop cs.length).toArray) := by
  have hl := run_loadCells_list (P := P) w a cs hsrc
  have hst := run_storeCells_at P g 0 t cs 0 cur w hg (by simpa using hfit) h1
  cases hq : P.info? elem with
  | none => simp [hq] at hs
  | some i =>
    have hi : i.size = sz := by simpa [hq] using hs
    rw [hn] at hl
    simp [Builtin.copy_, run_underlying hu, Builtin.lenOf, Builtin.firstCells, sizeOf, typeInfo, hq, hi, hl, hst]

theorem wpList_copy_sz {P : Program} {w : World} {ops : Array Oper} {rest : List Oper} {o : Oper} {a : Act} {Q : Exit → Act → World → Prop} (hgd : o.guard = none) (d s : Operand) (dT sT : TypeId)
    (ho : o.op = .call { callee := .builtin .copy, args := #[d, s], argTypes := #[dT, sT] }) (elem : TypeId) (sz : Nat) (hu : P.underlying dT = some (.slice elem)) (hsz : (P.info? elem).map (·.size) = some sz)
    (g n sCap : Nat) (ao : Option Addr) (hd : a.eval d = .slice (some ⟨g, 0, none⟩) n n) (hs : a.eval s = .slice ao n sCap) (hno : ao = none → n = 0 ∧ sCap = 0)
    (cur : Array Value) (t : TypeId) (hg : w.heap[g]? = some (.cells cur t (0, 0))) (cs : List Value) (hn : cs.length = n * sz) (hcur : cur.size = n * sz)
    (hsrc : ∀ ad, ao = some ad → ∀ j v, cs[j]? = some v → w.cell? (ad.add j) = some v) (h1 : ∀ v ∈ cs, v.oneCell' = true)
    (h : ∀ w', w'.heap[g]? = some (.cells cs.toArray t (0, 0)) → Fr (fun k => k = g) w w' → wpList P ops Q rest (a.put o.dst (goInt n)) w') : wpList P ops Q (o :: rest) a w := by
  cases ao with
  | none =>
    obtain ⟨rfl, rfl⟩ := hno rfl
    have hc0 : cs = [] := List.eq_nil_of_length_eq_zero (by simpa using hn)
    subst hc0
    refine wpList_plain hgd fun K hK => ?_
    have hrun := run_copy_nil P w dT sT o.type elem ⟨g, 0, none⟩ 0 0 hu (by rw [hsz]; rfl)
    unfold Oper.wp
    simp [execOp, ho, resolve, invoke, builtin, hd, hs, hrun, Result.andThen]
    refine hK _ _ (h w ?_ (Fr.refl _ _))
    rw [hg]
    have : cur = #[] := Array.eq_empty_of_size_eq_zero (by simpa using hcur)
    rw [this]
  | some ad =>
    refine wpList_plain hgd fun K hK => ?_
    have hrun := run_copy_sz (P := P) w dT sT o.type elem g n n ad n sCap sz cur t cs hu hsz hg (by rw [hn]; simp) (hsrc ad rfl) (by omega) h1
    have e1 : Nat.min n n = n := Nat.min_self n
    rw [e1] at hrun
    unfold Oper.wp
    simp [execOp, ho, resolve, invoke, builtin, hd, hs, hrun, Result.andThen]
    have e : (cs ++ cur.toList.drop cs.length) = cs := by
      rw [List.drop_eq_nil_of_le (by simp; omega), List.append_nil]
    have hk := h (w.setRow g (cs ++ cur.toList.drop cs.length).toArray) (by rw [setRow_heap w g cur _ t _ hg, e]) ⟨rfl, rfl, rfl, by simp, fun k hk hne => setRow_other w g k _ hne⟩
    exact hK _ _ hk

theorem Try.size41 : (Try.prog.info? 41).map (·.size) = some 2 := by kernel_rfl

theorem made_two {w : World} {base g n : Nat} {e : TypeId} {xs : List Value} (h : w.ownsRow base e 2 (.slice (some ⟨g, 0, none⟩) n n) n xs) : ∃ cur, w.heap[g]? = some (.cells cur e (0, 0)) ∧ cur.size = n * 2 := by
  rcases h.2 with ⟨h, _⟩ | ⟨g', cap, cur, h, _, hh, _, _, hs, ht⟩
  · simp at h
  · simp at h
    obtain ⟨rfl, rfl⟩ := h
    exact ⟨cur, hh, hs⟩
theorem owns_none {w : World} {base n c : Nat} {e : TypeId} {size : Nat} {la : Option Addr} {xs : List Value} (h : w.ownsRow base e size (.slice la n c) n xs) : la = none → n = 0 ∧ c = 0 := by
  intro e
  rcases h.2 with ⟨h', h0⟩ | ⟨g', cap, cur, h', _⟩
  · simp at h'
    exact ⟨h0, h'.2.2⟩
  · rw [e] at h'
    simp at h'
theorem owns_src {w w' : World} {base n c : Nat} {e : TypeId} {size : Nat} {la : Option Addr} {xs : List Value} (h : w.ownsRow base e size (.slice la n c) n xs) (hk : ∀ k, (Value.slice la n c).ownBlock = some k → w'.heap[k]? = w.heap[k]?) : ∀ ad, la = some ad → ∀ j v, xs[j]? = some v → w'.cell? (ad.add j) = some v := by
  intro ad e j v hj
  have h2 := ownsRow_block h hk
  subst e
  rcases h2.2 with ⟨h', _⟩ | ⟨g', cap, cur, h', _⟩
  · simp at h'
  · simp at h'
    rw [h'.1]
    exact h2.cells (by rw [h'.1]; rfl) j v hj
theorem logCells_one (lg : List (Int × Int)) : ∀ v ∈ logCells lg, v.oneCell' = true := by
  intro v hv
  simp [logCells] at hv
  obtain ⟨a, b, _, h⟩ := hv
  rcases h with rfl | rfl <;> rfl

set_option maxRecDepth 100000 in
set_option maxHeartbeats 1000000 in
theorem log_any (w : World) {B : Nat} {bl : Nat → Prop} {p : Nat} {ds : List Int} {u : Nat} {lg : List (Int × Int)} (hT : TP w B bl p ds u lg) (hl : lg.length ≤ 1000000) :
    Calls Try.prog 13 #[.pointer (some ⟨p, 0, none⟩)] w fun e w' => e = .returned (.slice (some ⟨w.heap.size, 0, none⟩) lg.length lg.length) ∧ w'.heap[w.heap.size]? = some (.cells (logCells lg).toArray 41 (0, 0)) ∧ Fr (fun _ => False) w w' := by
  obtain ⟨i0, hi, hz0, hz1, hz2⟩ := info_parts Try.info41
  obtain ⟨db, la, lc, hdb, hla, h1, h2, h3⟩ := hT.ex
  have c2 : w.cell? ⟨p, 2, none⟩ = some (.slice la lg.length lc) := by rw [cell_of_block h1]; rfl
  have hpl : p < w.heap.size := lt_of_block h1
  have H3 := hideIt h3
  have HC := hideIt (logCells_length lg)
  obtain ⟨L, hL⟩ : ∃ L, lg.length = L := ⟨_, rfl⟩
  rw [hL] at hl c2 H3 HC ⊢
  have HL := hideIt hL
  clear hdb hla h1 h2 h3 hT hL
  go_enter Try.func13, Try.ntmps13
  go_wp2_with (first | (at_make; refine wpList_make_full _ rfl (.tmp 10) (.tmp 10) 37 rfl w.heap.size 41 i0 (.agg #[.int .i64 0, .int .i64 0]) 2 Try.underlying37 hi hz0 hz1 .i64 .i64 (L : Int) (L : Int) L rfl rfl rfl rfl (by rw [hz2]; omega) (by unfold maxLen; omega) (Nat.le_refl _) ?_; intro w1 ho1 hg1; have HM := hideIt (made_two ho1); have HG := hideIt hg1; have c2' := hg1.cell c2 (by simp); clear ho1 hg1; obtain ⟨cur, hcur⟩ := HM.out; have HU := hideIt hcur; clear hcur HM) | (refine wpList_copy_sz rfl (.tmp 12) (.tmp 16) 37 37 rfl 41 2 Try.underlying37 Try.size41 w.heap.size L lc la rfl rfl (owns_none H3.out) cur 41 HU.out.1 (logCells lg) HC.out HU.out.2 (owns_src H3.out (fun k hk => HG.out.block k (H3.out.lt k hk).2 (by simp))) (logCells_one lg) ?_; intro w2 hw2 hf2; have HW := hideIt hw2; have HF := hideIt hf2; clear hw2 hf2))
  go_ret
  refine ⟨rfl, HW.out, ?_⟩
  have f1 : Fr (fun _ => False) w w1 := (Fr.refl _ w).grown HG.out (fun k h => by cases h)
  exact f1.trans' HF.out (fun j hj => Or.inr (by omega))

end Go.Proofs.Yteefahkjdpaogab
