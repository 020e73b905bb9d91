/-
 The copies of lists that layer 13 makes: contracts over the program; the conditions: the list lies in memory, and takes no more bytes than what comes in may take.
-/
import Derived.Test.YtphknepblchkdaaKIrD
import Derived.OwnWalk
import Derived.Laws.CopyOwn
namespace Go.Proofs.Ytphknepblchkdaa
open Go.RowKit
set_option linter.unusedVariables false

/-- A copy of elements of several cells each into a row of one's own. -/
theorem run_copy_sz {P : Program} (w : World) (dT sT ty elem : TypeId) (g dLen dCap : Nat) (a : Addr) (sLen sCap sz : Nat) (cur : Array Value) (t : TypeId) (cs : List Value)
  (hu : P.underlying dT = some (.slice elem)) (hs : (P.info? elem).map (·.size) = some sz)
  (hg : w.heap[g]? = some (.cells cur t (0, 0))) (hn : cs.length = Nat.min sLen dLen * sz)
  (hsrc : ∀ j v, cs[j]? = some v → w.cell? (a.add j) = some v) (hfit : cs.length ≤ cur.size) (h1 : ∀ v ∈ cs, v.oneCell' = true) :
  (Builtin.copy_ #[dT, sT] ty #[.slice (some ⟨g, 0, none⟩) dLen dCap, .slice (some a) sLen sCap]).run P w =
   .ok (goInt (Nat.min sLen dLen)) (w.setRow g (cs ++ cur.toList.drop cs.length).toArray) := by
 have hl := run_loadCells_list (P := P) w a cs hsrc
 have hst := run_storeCells_at P g 0 t cs 0 cur w hg (by simpa using hfit) h1
 cases hq : P.info? elem with
 | none => simp [hq] at hs
 | some i =>
  have hi : i.size = sz := by simpa [hq] using hs
  rw [hn] at hl
  simp [Builtin.copy_, run_underlying hu, Builtin.lenOf, Builtin.firstCells, sizeOf, typeInfo, hq, hi, hl, hst]

theorem wpList_copy_sz {P : Program} {w : World} {ops : Array Oper} {rest : List Oper} {o : Oper} {a : Act} {Q : Exit → Act → World → Prop} (hgd : o.guard = none) (d s : Operand) (dT sT : TypeId)
  (ho : o.op = .call { callee := .builtin .copy, args := #[d, s], argTypes := #[dT, sT] }) (elem : TypeId) (sz : Nat) (hu : P.underlying dT = some (.slice elem)) (hsz : (P.info? elem).map (·.size) = some sz)
  (g n sCap : Nat) (ad : Addr) (hd : a.eval d = .slice (some ⟨g, 0, none⟩) n n) (hs : a.eval s = .slice (some ad) n sCap)
  (cur : Array Value) (t : TypeId) (hg : w.heap[g]? = some (.cells cur t (0, 0))) (cs : List Value) (hn : cs.length = n * sz) (hcur : cur.size = n * sz)
  (hsrc : ∀ j v, cs[j]? = some v → w.cell? (ad.add j) = some v) (h1 : ∀ v ∈ cs, v.oneCell' = true)
  (h : ∀ w', w'.heap[g]? = some (.cells cs.toArray t (0, 0)) → Below g w w' → wpList P ops Q rest (a.put o.dst (goInt n)) w') : wpList P ops Q (o :: rest) a w := by
 refine wpList_plain hgd fun K hK => ?_
 have hrun := run_copy_sz (P := P) w dT sT o.type elem g n n ad n sCap sz cur t cs hu hsz hg (by rw [hn]; simp) hsrc (by omega) h1
 have e1 : Nat.min n n = n := Nat.min_self n
 rw [e1] at hrun
 unfold Oper.wp
 simp [execOp, ho, resolve, invoke, builtin, hd, hs, hrun, Result.andThen]
 have e : (cs ++ cur.toList.drop cs.length) = cs := by
  rw [List.drop_eq_nil_of_le (by simp; omega), List.append_nil]
 have hk := h (w.setRow g (cs ++ cur.toList.drop cs.length).toArray) (by rw [setRow_heap w g cur _ t _ hg, e]) ⟨rfl, rfl, rfl, by simp, fun k hk => setRow_other w g k _ (by omega)⟩
 exact hK _ _ hk

theorem made_row {w : World} {base g n sz : Nat} {e : TypeId} {xs : List Value} (h : w.ownsRow base e sz (.slice (some ⟨g, 0, none⟩) n n) n xs) : ∃ cur, w.heap[g]? = some (.cells cur e (0, 0)) ∧ cur.size = n * sz := by
 rcases h.2 with ⟨h, _⟩ | ⟨g', cap, cur, h, _, hh, _, _, hs, ht⟩
 ·simp at h
 ·simp at h
  obtain ⟨rfl, rfl⟩ := h
  exact ⟨cur, hh, hs⟩

/-- What a copied list is. -/
def Cpd (e : TypeId) (ao : Option Addr) (n : Nat) (cs : List Value) (w : World) (r : Ending) (w' : World) : Prop :=
 (ao = none ∧ r = .returned (.slice none 0 0) ∧ w' = w) ∨ ((∃ ad, ao = some ad) ∧ r = .returned (.slice (some ⟨w.heap.size, 0, none⟩) n n) ∧ w'.heap[w.heap.size]? = some (.cells cs.toArray e (0, 0)) ∧ Q w w')

theorem Try.infoInt : (Try.prog.info? 3).map (fun i => (i.zero, i.size, i.bytes)) = some (some (.int .i64 0), 1, 8) := by kernel_rfl
theorem Try.sizeInt : (Try.prog.info? 3).map (·.size) = some 1 := by kernel_rfl
set_option maxRecDepth 100000 in
theorem listInt_any (w : World) (ao : Option Addr) (n c : Nat) (cs : List Value) (hs : sok 8 ao n c) (hn : cs.length = n * 1) (hsrc : ∀ ad, ao = some ad → ∀ j v, cs[j]? = some v → w.cell? (ad.add j) = some v) (h1 : ∀ v ∈ cs, v.oneCell' = true) :
  Calls Try.prog 35 #[.slice ao n c] w fun e w' => Cpd 3 ao n cs w e w' := by
 cases ao with
 | none =>
  have hc : c = 0 := hs.2.2.1 rfl
  have hn0 : n = 0 := by have := hs.1; omega
  subst hc hn0
  clear hs hn hsrc h1
  have hq : ∀ x, (binOp .eql 22 (.slice none 0 0) (.slice none 0 0)).run Try.prog x = .ok (.bool true) x := fun x => by rw [Lib.run_eql_slice_nil x _ _ none 0 0 0 0 Try.underlying22]; rfl
  go_enter Try.func35, Try.ntmps35
  go_wp2
  go_ret
  exact Or.inl ⟨rfl, rfl, rfl⟩
 | some ad =>
  obtain ⟨i0, hi, hz0, hz1, hz2⟩ : ∃ i, Try.prog.info? 3 = some i ∧ i.zero = some (.int .i64 0) ∧ i.size = 1 ∧ i.bytes = 8 := by
   obtain ⟨i, hi, hzz⟩ := Option.map_eq_some_iff.1 Try.infoInt
   simp only [Prod.mk.injEq] at hzz
   exact ⟨i, hi, hzz.1, hzz.2.1, hzz.2.2⟩
  have HS := hideIt hs
  have HN := hideIt hn
  have HR := hideIt (hsrc ad rfl)
  have HO := hideIt h1
  have HI := hideIt (And.intro hi (And.intro hz0 (And.intro hz1 hz2)))
  clear hs hn hsrc h1 hi hz0 hz1 hz2
  have hq : ∀ x, (binOp .eql 22 (.slice (some ad) n c) (.slice none 0 0)).run Try.prog x = .ok (.bool false) x := fun x => by rw [Lib.run_eql_slice_nil x _ _ (some ad) n c 0 0 Try.underlying22]; rfl
  go_enter Try.func35, Try.ntmps35
  go_wp2_with (first | (refine wpList_make_full _ rfl (.tmp 7) (.tmp 7) 22 rfl w.heap.size 3 i0 (.int .i64 0) 1 Try.underlying22 HI.out.1 HI.out.2.1 HI.out.2.2.1 .i64 .i64 (n : Int) (n : Int) n rfl rfl rfl rfl (by rw [HI.out.2.2.2]; have := HS.out.2.2.2; omega) (by have := HS.out.1; have := HS.out.2.1; omega) (Nat.le_refl _) ?_; intro w1 ho1 hg1; have HM := hideIt (made_row ho1); have HG := hideIt hg1; clear ho1 hg1; obtain ⟨cur, hcur⟩ := HM.out; have HU := hideIt hcur; clear hcur HM) | (refine wpList_copy_sz rfl (.tmp 9) (.tmp 10) 22 22 rfl 3 1 Try.underlying22 Try.sizeInt w.heap.size n c ad rfl rfl cur 3 HU.out.1 cs HN.out HU.out.2 (fun j v e => by have h := HR.out j v e; have hl := World.block_lt_of_cell? w _ h; rw [World.cell?_of_block (HG.out.block _ hl (by simp))]; exact h) HO.out ?_; intro w2 hw2 hf2; have HW := hideIt hw2; have HF := hideIt hf2; clear hw2 hf2))
  go_ret
  refine Or.inr ⟨⟨ad, rfl⟩, rfl, HW.out, ?_⟩
  have q1 : Q w w1 := ⟨HG.out.os, HG.out.tape, HG.out.output, HG.out.size, fun k hk => HG.out.block k hk (by simp)⟩
  exact Below.trans q1 HF.out

theorem Try.infoI64 : (Try.prog.info? 2).map (fun i => (i.zero, i.size, i.bytes)) = some (some (.int .i64 0), 1, 8) := by kernel_rfl
theorem Try.sizeI64 : (Try.prog.info? 2).map (·.size) = some 1 := by kernel_rfl
set_option maxRecDepth 100000 in
theorem listI64_any (w : World) (ao : Option Addr) (n c : Nat) (cs : List Value) (hs : sok 8 ao n c) (hn : cs.length = n * 1) (hsrc : ∀ ad, ao = some ad → ∀ j v, cs[j]? = some v → w.cell? (ad.add j) = some v) (h1 : ∀ v ∈ cs, v.oneCell' = true) :
  Calls Try.prog 36 #[.slice ao n c] w fun e w' => Cpd 2 ao n cs w e w' := by
 cases ao with
 | none =>
  have hc : c = 0 := hs.2.2.1 rfl
  have hn0 : n = 0 := by have := hs.1; omega
  subst hc hn0
  clear hs hn hsrc h1
  have hq : ∀ x, (binOp .eql 23 (.slice none 0 0) (.slice none 0 0)).run Try.prog x = .ok (.bool true) x := fun x => by rw [Lib.run_eql_slice_nil x _ _ none 0 0 0 0 Try.underlying23]; rfl
  go_enter Try.func36, Try.ntmps36
  go_wp2
  go_ret
  exact Or.inl ⟨rfl, rfl, rfl⟩
 | some ad =>
  obtain ⟨i0, hi, hz0, hz1, hz2⟩ : ∃ i, Try.prog.info? 2 = some i ∧ i.zero = some (.int .i64 0) ∧ i.size = 1 ∧ i.bytes = 8 := by
   obtain ⟨i, hi, hzz⟩ := Option.map_eq_some_iff.1 Try.infoI64
   simp only [Prod.mk.injEq] at hzz
   exact ⟨i, hi, hzz.1, hzz.2.1, hzz.2.2⟩
  have HS := hideIt hs
  have HN := hideIt hn
  have HR := hideIt (hsrc ad rfl)
  have HO := hideIt h1
  have HI := hideIt (And.intro hi (And.intro hz0 (And.intro hz1 hz2)))
  clear hs hn hsrc h1 hi hz0 hz1 hz2
  have hq : ∀ x, (binOp .eql 23 (.slice (some ad) n c) (.slice none 0 0)).run Try.prog x = .ok (.bool false) x := fun x => by rw [Lib.run_eql_slice_nil x _ _ (some ad) n c 0 0 Try.underlying23]; rfl
  go_enter Try.func36, Try.ntmps36
  go_wp2_with (first | (refine wpList_make_full _ rfl (.tmp 7) (.tmp 7) 23 rfl w.heap.size 2 i0 (.int .i64 0) 1 Try.underlying23 HI.out.1 HI.out.2.1 HI.out.2.2.1 .i64 .i64 (n : Int) (n : Int) n rfl rfl rfl rfl (by rw [HI.out.2.2.2]; have := HS.out.2.2.2; omega) (by have := HS.out.1; have := HS.out.2.1; omega) (Nat.le_refl _) ?_; intro w1 ho1 hg1; have HM := hideIt (made_row ho1); have HG := hideIt hg1; clear ho1 hg1; obtain ⟨cur, hcur⟩ := HM.out; have HU := hideIt hcur; clear hcur HM) | (refine wpList_copy_sz rfl (.tmp 9) (.tmp 10) 23 23 rfl 2 1 Try.underlying23 Try.sizeI64 w.heap.size n c ad rfl rfl cur 2 HU.out.1 cs HN.out HU.out.2 (fun j v e => by have h := HR.out j v e; have hl := World.block_lt_of_cell? w _ h; rw [World.cell?_of_block (HG.out.block _ hl (by simp))]; exact h) HO.out ?_; intro w2 hw2 hf2; have HW := hideIt hw2; have HF := hideIt hf2; clear hw2 hf2))
  go_ret
  refine Or.inr ⟨⟨ad, rfl⟩, rfl, HW.out, ?_⟩
  have q1 : Q w w1 := ⟨HG.out.os, HG.out.tape, HG.out.output, HG.out.size, fun k hk => HG.out.block k hk (by simp)⟩
  exact Below.trans q1 HF.out

theorem Try.infoInst : (Try.prog.info? 49).map (fun i => (i.zero, i.size, i.bytes)) = some (some (.agg #[.int .u8 0, .int .u8 0, .int .i64 0, .int .i64 0, .int .i64 0, .int .i64 0, .slice none 0 0]), 7, 64) := by kernel_rfl
theorem Try.sizeInst : (Try.prog.info? 49).map (·.size) = some 7 := by kernel_rfl
set_option maxRecDepth 100000 in
theorem listInst_any (w : World) (ao : Option Addr) (n c : Nat) (cs : List Value) (hs : sok 64 ao n c) (hn : cs.length = n * 7) (hsrc : ∀ ad, ao = some ad → ∀ j v, cs[j]? = some v → w.cell? (ad.add j) = some v) (h1 : ∀ v ∈ cs, v.oneCell' = true) :
  Calls Try.prog 61 #[.slice ao n c] w fun e w' => Cpd 49 ao n cs w e w' := by
 cases ao with
 | none =>
  have hc : c = 0 := hs.2.2.1 rfl
  have hn0 : n = 0 := by have := hs.1; omega
  subst hc hn0
  clear hs hn hsrc h1
  have hq : ∀ x, (binOp .eql 45 (.slice none 0 0) (.slice none 0 0)).run Try.prog x = .ok (.bool true) x := fun x => by rw [Lib.run_eql_slice_nil x _ _ none 0 0 0 0 Try.underlying45]; rfl
  go_enter Try.func61, Try.ntmps61
  go_wp2
  go_ret
  exact Or.inl ⟨rfl, rfl, rfl⟩
 | some ad =>
  obtain ⟨i0, hi, hz0, hz1, hz2⟩ : ∃ i, Try.prog.info? 49 = some i ∧ i.zero = some (.agg #[.int .u8 0, .int .u8 0, .int .i64 0, .int .i64 0, .int .i64 0, .int .i64 0, .slice none 0 0]) ∧ i.size = 7 ∧ i.bytes = 64 := by
   obtain ⟨i, hi, hzz⟩ := Option.map_eq_some_iff.1 Try.infoInst
   simp only [Prod.mk.injEq] at hzz
   exact ⟨i, hi, hzz.1, hzz.2.1, hzz.2.2⟩
  have HS := hideIt hs
  have HN := hideIt hn
  have HR := hideIt (hsrc ad rfl)
  have HO := hideIt h1
  have HI := hideIt (And.intro hi (And.intro hz0 (And.intro hz1 hz2)))
  clear hs hn hsrc h1 hi hz0 hz1 hz2
  have hq : ∀ x, (binOp .eql 45 (.slice (some ad) n c) (.slice none 0 0)).run Try.prog x = .ok (.bool false) x := fun x => by rw [Lib.run_eql_slice_nil x _ _ (some ad) n c 0 0 Try.underlying45]; rfl
  go_enter Try.func61, Try.ntmps61
  go_wp2_with (first | (refine wpList_make_full _ rfl (.tmp 7) (.tmp 7) 45 rfl w.heap.size 49 i0 (.agg #[.int .u8 0, .int .u8 0, .int .i64 0, .int .i64 0, .int .i64 0, .int .i64 0, .slice none 0 0]) 7 Try.underlying45 HI.out.1 HI.out.2.1 HI.out.2.2.1 .i64 .i64 (n : Int) (n : Int) n rfl rfl rfl rfl (by rw [HI.out.2.2.2]; have := HS.out.2.2.2; omega) (by have := HS.out.1; have := HS.out.2.1; omega) (Nat.le_refl _) ?_; intro w1 ho1 hg1; have HM := hideIt (made_row ho1); have HG := hideIt hg1; clear ho1 hg1; obtain ⟨cur, hcur⟩ := HM.out; have HU := hideIt hcur; clear hcur HM) | (refine wpList_copy_sz rfl (.tmp 9) (.tmp 10) 45 45 rfl 49 7 Try.underlying45 Try.sizeInst w.heap.size n c ad rfl rfl cur 49 HU.out.1 cs HN.out HU.out.2 (fun j v e => by have h := HR.out j v e; have hl := World.block_lt_of_cell? w _ h; rw [World.cell?_of_block (HG.out.block _ hl (by simp))]; exact h) HO.out ?_; intro w2 hw2 hf2; have HW := hideIt hw2; have HF := hideIt hf2; clear hw2 hf2))
  go_ret
  refine Or.inr ⟨⟨ad, rfl⟩, rfl, HW.out, ?_⟩
  have q1 : Q w w1 := ⟨HG.out.os, HG.out.tape, HG.out.output, HG.out.size, fun k hk => HG.out.block k hk (by simp)⟩
  exact Below.trans q1 HF.out

theorem Try.infoPart : (Try.prog.info? 47).map (fun i => (i.zero, i.size, i.bytes)) = some (some (.agg #[.slice none 0 0, .bool false, .int .i64 0, .int .i64 0, .int .i64 0]), 5, 56) := by kernel_rfl
theorem Try.sizePart : (Try.prog.info? 47).map (·.size) = some 5 := by kernel_rfl
set_option maxRecDepth 100000 in
theorem listPart_any (w : World) (ao : Option Addr) (n c : Nat) (cs : List Value) (hs : sok 56 ao n c) (hn : cs.length = n * 5) (hsrc : ∀ ad, ao = some ad → ∀ j v, cs[j]? = some v → w.cell? (ad.add j) = some v) (h1 : ∀ v ∈ cs, v.oneCell' = true) :
  Calls Try.prog 38 #[.slice ao n c] w fun e w' => Cpd 47 ao n cs w e w' := by
 cases ao with
 | none =>
  have hc : c = 0 := hs.2.2.1 rfl
  have hn0 : n = 0 := by have := hs.1; omega
  subst hc hn0
  clear hs hn hsrc h1
  have hq : ∀ x, (binOp .eql 42 (.slice none 0 0) (.slice none 0 0)).run Try.prog x = .ok (.bool true) x := fun x => by rw [Lib.run_eql_slice_nil x _ _ none 0 0 0 0 Try.underlying42]; rfl
  go_enter Try.func38, Try.ntmps38
  go_wp2
  go_ret
  exact Or.inl ⟨rfl, rfl, rfl⟩
 | some ad =>
  obtain ⟨i0, hi, hz0, hz1, hz2⟩ : ∃ i, Try.prog.info? 47 = some i ∧ i.zero = some (.agg #[.slice none 0 0, .bool false, .int .i64 0, .int .i64 0, .int .i64 0]) ∧ i.size = 5 ∧ i.bytes = 56 := by
   obtain ⟨i, hi, hzz⟩ := Option.map_eq_some_iff.1 Try.infoPart
   simp only [Prod.mk.injEq] at hzz
   exact ⟨i, hi, hzz.1, hzz.2.1, hzz.2.2⟩
  have HS := hideIt hs
  have HN := hideIt hn
  have HR := hideIt (hsrc ad rfl)
  have HO := hideIt h1
  have HI := hideIt (And.intro hi (And.intro hz0 (And.intro hz1 hz2)))
  clear hs hn hsrc h1 hi hz0 hz1 hz2
  have hq : ∀ x, (binOp .eql 42 (.slice (some ad) n c) (.slice none 0 0)).run Try.prog x = .ok (.bool false) x := fun x => by rw [Lib.run_eql_slice_nil x _ _ (some ad) n c 0 0 Try.underlying42]; rfl
  go_enter Try.func38, Try.ntmps38
  go_wp2_with (first | (refine wpList_make_full _ rfl (.tmp 7) (.tmp 7) 42 rfl w.heap.size 47 i0 (.agg #[.slice none 0 0, .bool false, .int .i64 0, .int .i64 0, .int .i64 0]) 5 Try.underlying42 HI.out.1 HI.out.2.1 HI.out.2.2.1 .i64 .i64 (n : Int) (n : Int) n rfl rfl rfl rfl (by rw [HI.out.2.2.2]; have := HS.out.2.2.2; omega) (by have := HS.out.1; have := HS.out.2.1; omega) (Nat.le_refl _) ?_; intro w1 ho1 hg1; have HM := hideIt (made_row ho1); have HG := hideIt hg1; clear ho1 hg1; obtain ⟨cur, hcur⟩ := HM.out; have HU := hideIt hcur; clear hcur HM) | (refine wpList_copy_sz rfl (.tmp 9) (.tmp 10) 42 42 rfl 47 5 Try.underlying42 Try.sizePart w.heap.size n c ad rfl rfl cur 47 HU.out.1 cs HN.out HU.out.2 (fun j v e => by have h := HR.out j v e; have hl := World.block_lt_of_cell? w _ h; rw [World.cell?_of_block (HG.out.block _ hl (by simp))]; exact h) HO.out ?_; intro w2 hw2 hf2; have HW := hideIt hw2; have HF := hideIt hf2; clear hw2 hf2))
  go_ret
  refine Or.inr ⟨⟨ad, rfl⟩, rfl, HW.out, ?_⟩
  have q1 : Q w w1 := ⟨HG.out.os, HG.out.tape, HG.out.output, HG.out.size, fun k hk => HG.out.block k hk (by simp)⟩
  exact Below.trans q1 HF.out

theorem Try.infoFn : (Try.prog.info? 44).map (fun i => (i.zero, i.size, i.bytes)) = some (some (.agg #[.int .i64 0, .int .i64 0, .slice none 0 0, .slice none 0 0]), 4, 64) := by kernel_rfl
theorem Try.sizeFn : (Try.prog.info? 44).map (·.size) = some 4 := by kernel_rfl
set_option maxRecDepth 100000 in
theorem listFn_any (w : World) (ao : Option Addr) (n c : Nat) (cs : List Value) (hs : sok 64 ao n c) (hn : cs.length = n * 4) (hsrc : ∀ ad, ao = some ad → ∀ j v, cs[j]? = some v → w.cell? (ad.add j) = some v) (h1 : ∀ v ∈ cs, v.oneCell' = true) :
  Calls Try.prog 37 #[.slice ao n c] w fun e w' => Cpd 44 ao n cs w e w' := by
 cases ao with
 | none =>
  have hc : c = 0 := hs.2.2.1 rfl
  have hn0 : n = 0 := by have := hs.1; omega
  subst hc hn0
  clear hs hn hsrc h1
  have hq : ∀ x, (binOp .eql 24 (.slice none 0 0) (.slice none 0 0)).run Try.prog x = .ok (.bool true) x := fun x => by rw [Lib.run_eql_slice_nil x _ _ none 0 0 0 0 Try.underlying24]; rfl
  go_enter Try.func37, Try.ntmps37
  go_wp2
  go_ret
  exact Or.inl ⟨rfl, rfl, rfl⟩
 | some ad =>
  obtain ⟨i0, hi, hz0, hz1, hz2⟩ : ∃ i, Try.prog.info? 44 = some i ∧ i.zero = some (.agg #[.int .i64 0, .int .i64 0, .slice none 0 0, .slice none 0 0]) ∧ i.size = 4 ∧ i.bytes = 64 := by
   obtain ⟨i, hi, hzz⟩ := Option.map_eq_some_iff.1 Try.infoFn
   simp only [Prod.mk.injEq] at hzz
   exact ⟨i, hi, hzz.1, hzz.2.1, hzz.2.2⟩
  have HS := hideIt hs
  have HN := hideIt hn
  have HR := hideIt (hsrc ad rfl)
  have HO := hideIt h1
  have HI := hideIt (And.intro hi (And.intro hz0 (And.intro hz1 hz2)))
  clear hs hn hsrc h1 hi hz0 hz1 hz2
  have hq : ∀ x, (binOp .eql 24 (.slice (some ad) n c) (.slice none 0 0)).run Try.prog x = .ok (.bool false) x := fun x => by rw [Lib.run_eql_slice_nil x _ _ (some ad) n c 0 0 Try.underlying24]; rfl
  go_enter Try.func37, Try.ntmps37
  go_wp2_with (first | (refine wpList_make_full _ rfl (.tmp 7) (.tmp 7) 24 rfl w.heap.size 44 i0 (.agg #[.int .i64 0, .int .i64 0, .slice none 0 0, .slice none 0 0]) 4 Try.underlying24 HI.out.1 HI.out.2.1 HI.out.2.2.1 .i64 .i64 (n : Int) (n : Int) n rfl rfl rfl rfl (by rw [HI.out.2.2.2]; have := HS.out.2.2.2; omega) (by have := HS.out.1; have := HS.out.2.1; omega) (Nat.le_refl _) ?_; intro w1 ho1 hg1; have HM := hideIt (made_row ho1); have HG := hideIt hg1; clear ho1 hg1; obtain ⟨cur, hcur⟩ := HM.out; have HU := hideIt hcur; clear hcur HM) | (refine wpList_copy_sz rfl (.tmp 9) (.tmp 10) 24 24 rfl 44 4 Try.underlying24 Try.sizeFn w.heap.size n c ad rfl rfl cur 44 HU.out.1 cs HN.out HU.out.2 (fun j v e => by have h := HR.out j v e; have hl := World.block_lt_of_cell? w _ h; rw [World.cell?_of_block (HG.out.block _ hl (by simp))]; exact h) HO.out ?_; intro w2 hw2 hf2; have HW := hideIt hw2; have HF := hideIt hf2; clear hw2 hf2))
  go_ret
  refine Or.inr ⟨⟨ad, rfl⟩, rfl, HW.out, ?_⟩
  have q1 : Q w w1 := ⟨HG.out.os, HG.out.tape, HG.out.output, HG.out.size, fun k hk => HG.out.block k hk (by simp)⟩
  exact Below.trans q1 HF.out

end Go.Proofs.Ytphknepblchkdaa
