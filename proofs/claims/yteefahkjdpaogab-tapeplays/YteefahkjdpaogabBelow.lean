/-
  What Below does to a tape: a contract over the program; the conditions: the pointer leads to a tape, the bound is at least 1.
-/
import Derived.Test.YteefahkjdpaogabRows
import Derived.Test.YteefahkjdpaogabMem
import Derived.Deep.QuietTactic
import Derived.BigQuiet
namespace Go.Proofs.Yteefahkjdpaogab
open Go.RowKit
set_option linter.unusedVariables false

theorem Try.info41 : (Try.prog.info? 41).map (fun i => (i.zero, i.size, i.bytes)) = some (some (.agg #[.int .i64 0, .int .i64 0]), 2, 16) := by kernel_rfl

theorem cell_new {X : World} {N : Nat} (h : X.heap.size = N) (cs : Array Value) (t : TypeId) (j : Nat) : (X.alloc (.cells cs t)).cell? ⟨N, j, none⟩ = cs[j]? := by
  subst h
  exact cell_of_block (heap_alloc_new X (.cells cs t (0, 0))) j
theorem cellA {w : World} {p : Nat} (k : Nat) (y : Value) (o : Obj) (hp : p < w.heap.size) : (((w.drewN k).setCell ⟨p, 1, none⟩ y).alloc o).cell? ⟨p, 2, none⟩ = w.cell? ⟨p, 2, none⟩ := by
  rw [World.cell?_alloc_past _ _ _ (by simpa using hp), World.cell?_setCell_other _ _ _ _ (by simp)]
  rfl
theorem frozenA {w : World} {p : Nat} (k : Nat) (y : Value) (o : Obj) (hp : p < w.heap.size) : (((w.drewN k).setCell ⟨p, 1, none⟩ y).alloc o).frozen? ⟨p, 2, none⟩ = w.frozen? ⟨p, 2, none⟩ := by
  rw [World.frozen?_alloc_past _ _ _ (by simpa using hp)]
  simp
theorem cellB {w : World} {p : Nat} (k : Nat) (o : Obj) (hp : p < w.heap.size) : ((w.drewN k).alloc o).cell? ⟨p, 2, none⟩ = w.cell? ⟨p, 2, none⟩ := by
  rw [World.cell?_alloc_past _ _ _ (by simpa using hp)]
  rfl
theorem frozenB {w : World} {p : Nat} (k : Nat) (o : Obj) (hp : p < w.heap.size) : ((w.drewN k).alloc o).frozen? ⟨p, 2, none⟩ = w.frozen? ⟨p, 2, none⟩ := by
  rw [World.frozen?_alloc_past _ _ _ (by simpa using hp)]
  rfl
theorem hideIt {q : Prop} (h : q) : Hid q := h
theorem fresh_of {v : Value} {g n c N : Nat} (h : (Value.slice (some ⟨g, 0, none⟩) n c).ownBlock = v.ownBlock ∨ ∀ k, (Value.slice (some ⟨g, 0, none⟩) n c).ownBlock = some k → N ≤ k) : v.ownBlock = some g ∨ N ≤ g := by
  rcases h with h | h
  · exact Or.inl h.symm
  · exact Or.inr (h g rfl)
theorem owns_drewN {w : World} {base : Nat} {e : TypeId} {size : Nat} {v : Value} {n : Nat} {xs : List Value} (h : w.ownsRow base e size v n xs) (k : Nat) : (w.drewN k).ownsRow base e size v n xs := h

set_option maxRecDepth 100000 in
set_option maxHeartbeats 1000000 in
theorem below_yes (w : World) (B p db u D lc L : Nat) (la : Option Addr) (n d : Int) (lg : List (Int × Int)) (hD : D ≤ 4096) (hn : 1 ≤ n) (hn2 : n ≤ 9223372036854775807) (hu : u < D) (hd0 : 0 ≤ d) (hd1 : d ≤ 18446744073709551615)
    (hc : w.cell? ⟨db, u, none⟩ = some (.int .u64 d))
    (hP : Hid (w.heap[p]? = some (.cells #[.slice (some ⟨db, 0, none⟩) D D, .int .i64 u, .slice la L lc] 48 (0, 0))))
    (hpo : Hid ((Value.slice la L lc).ownBlock ≠ some p)) (hown : Hid (w.ownsRow B 41 2 (.slice la L lc) L (logCells lg))) (hl : L ≤ 1000000) (hB : B ≤ w.heap.size) :
    Calls Try.prog 11 #[.pointer (some ⟨p, 0, none⟩), .int .i64 n] w fun e w' => e = .returned (.int .i64 (d % n)) ∧ ∃ k, Logged (((w.drewN k).setCell ⟨p, 1, none⟩ (.int .i64 (u + 1))).alloc (.cells #[.int .i64 n, .int .i64 (d % n)] 41)) w' B p 2 41 2 L (.slice la L lc) (logCells lg ++ [.int .i64 n, .int .i64 (d % n)]) := by
  obtain ⟨i0, hi, hz0, hz1, hz2⟩ := info_parts Try.info41
  have hdn : decide (n ≤ 0) = false := by simp; omega
  have hm0 : 0 ≤ d % n := Int.emod_nonneg _ (by omega)
  have hm1 : d % n < n := Int.emod_lt_of_pos _ (by omega)
  have hlt : (u : Int) < (D : Int) := by omega
  have hltd : decide ((u : Int) < (D : Int)) = true := by simpa using hlt
  have h0 : w.cell? ⟨p, 0, none⟩ = some (.slice (some ⟨db, 0, none⟩) D D) := by rw [cell_of_block hP.out]; rfl
  have h1 : w.cell? ⟨p, 1, none⟩ = some (.int .i64 u) := by rw [cell_of_block hP.out]; rfl
  have h2 : w.cell? ⟨p, 2, none⟩ = some (.slice la L lc) := by rw [cell_of_block hP.out]; rfl
  have f1 : w.frozen? ⟨p, 1, none⟩ = false := free_of_block hP.out 1
  have f2 : w.frozen? ⟨p, 2, none⟩ = false := free_of_block hP.out 2
  have hpl : p < w.heap.size := lt_of_block hP.out
  have HO : Hid (∀ k, (((w.drewN k).setCell ⟨p, 1, none⟩ (.int .i64 (u + 1))).alloc (.cells #[.int .i64 n, .int .i64 (d % n)] 41)).ownsRow B 41 2 (.slice la L lc) L (logCells lg)) := fun k => World.ownsRow.alloc (ownsRow_setCell_other (owns_drewN hown.out k) hpo.out _) _
  clear hown
  go_enter Try.func11, Try.ntmps11
  go_wp2
  go_quiet (fail)
  go_wp2
  go_quiet (fail)
  go_wp2_with (at_builtin; refine wpList_append_mine _ rfl (.tmp 47) (.tmp 51) 37 rfl B 41 i0 (.agg #[.int .i64 0, .int .i64 0]) 2 16 Try.underlying37 hi hz0 hz1 hz2 rfl (by decide) (.slice la L lc) L (logCells lg) rfl (HO.out _) ⟨w.heap.size, 0, none⟩ 1 1 [.int .i64 n, .int .i64 (d % n)] rfl rfl ?c1 ?c2 (by decide) ?c3 ?c4 ?c5 ?_)
  case c1 =>
    intro j r hj
    match j, hj with
    | 0, hj => simp at hj; subst hj; exact cell_new (by simp) _ _ 0
    | 1, hj => simp at hj; subst hj; exact cell_new (by simp) _ _ 1
  case c2 => intro r hr; simp at hr; rcases hr with rfl | rfl <;> rfl
  case c3 => unfold maxLen; omega
  case c4 => omega
  case c5 => simp; omega
  · intro v' w1 hown' hgrow hnil
    obtain ⟨g, cap', rfl⟩ : ∃ g cap', v' = .slice (some ⟨g, 0, none⟩) (L + 1) cap' := by
      rcases hown'.2 with ⟨_, h⟩ | ⟨g, cap', _, h, _⟩
      · omega
      · exact ⟨g, cap', h⟩
    have R1 : Hid (w1.ownsRow B 41 2 (.slice (some ⟨g, 0, none⟩) (L + 1) cap') (L + 1) (logCells lg ++ [.int .i64 n, .int .i64 (d % n)])) := hown'
    have hb := hgrow.block p (by simp; omega) (fun e => hpo.out e.symm)
    have k2 : w1.cell? ⟨p, 2, none⟩ = some (.slice la L lc) := by
      rw [World.cell?_of_block hb]
      rw [cellA _ _ _ hpl]; exact h2
    have e2 : w1.frozen? ⟨p, 2, none⟩ = false := by
      rw [World.frozen?_of_block hb]
      rw [frozenA _ _ _ hpl]; exact f2
    have R2 := hgrow
    have R3 : Hid (World.grownBy _ w1 (Value.slice la L lc).ownBlock) := R2
    have R4 := hideIt hnil
    clear hown' hgrow hnil hb R2 h0 h1 h2 f1 f2
    go_wp2
    go_ret
    exact ⟨rfl, _, g, cap', w1, R1.out, R3.out, (by simpa using fresh_of R4.out), rfl⟩

set_option maxRecDepth 100000 in
set_option maxHeartbeats 1000000 in
theorem below_no (w : World) (B p db u D lc L : Nat) (la : Option Addr) (n d : Int) (lg : List (Int × Int)) (hD : D ≤ 4096) (hn : 1 ≤ n) (hn2 : n ≤ 9223372036854775807) (hu : D ≤ u) (hu2 : u ≤ 4096)
    (hP : Hid (w.heap[p]? = some (.cells #[.slice (some ⟨db, 0, none⟩) D D, .int .i64 u, .slice la L lc] 48 (0, 0))))
    (hpo : Hid ((Value.slice la L lc).ownBlock ≠ some p)) (hown : Hid (w.ownsRow B 41 2 (.slice la L lc) L (logCells lg))) (hl : L ≤ 1000000) (hB : B ≤ w.heap.size) :
    Calls Try.prog 11 #[.pointer (some ⟨p, 0, none⟩), .int .i64 n] w fun e w' => e = .returned (.int .i64 (0)) ∧ ∃ k, Logged ((w.drewN k).alloc (.cells #[.int .i64 n, .int .i64 0] 41)) w' B p 2 41 2 L (.slice la L lc) (logCells lg ++ [.int .i64 n, .int .i64 (0)]) := by
  obtain ⟨i0, hi, hz0, hz1, hz2⟩ := info_parts Try.info41
  have hdn : decide (n ≤ 0) = false := by simp; omega
  have hltd : decide ((u : Int) < (D : Int)) = false := by simp; omega
  have h0 : w.cell? ⟨p, 0, none⟩ = some (.slice (some ⟨db, 0, none⟩) D D) := by rw [cell_of_block hP.out]; rfl
  have h1 : w.cell? ⟨p, 1, none⟩ = some (.int .i64 u) := by rw [cell_of_block hP.out]; rfl
  have h2 : w.cell? ⟨p, 2, none⟩ = some (.slice la L lc) := by rw [cell_of_block hP.out]; rfl
  have f1 : w.frozen? ⟨p, 1, none⟩ = false := free_of_block hP.out 1
  have f2 : w.frozen? ⟨p, 2, none⟩ = false := free_of_block hP.out 2
  have hpl : p < w.heap.size := lt_of_block hP.out
  have HO : Hid (∀ k, ((w.drewN k).alloc (.cells #[.int .i64 n, .int .i64 0] 41)).ownsRow B 41 2 (.slice la L lc) L (logCells lg)) := fun k => World.ownsRow.alloc (owns_drewN hown.out k) _
  clear hown
  go_enter Try.func11, Try.ntmps11
  go_wp2
  go_quiet (fail)
  go_wp2_with (at_builtin; refine wpList_append_mine _ rfl (.tmp 47) (.tmp 51) 37 rfl B 41 i0 (.agg #[.int .i64 0, .int .i64 0]) 2 16 Try.underlying37 hi hz0 hz1 hz2 rfl (by decide) (.slice la L lc) L (logCells lg) rfl (HO.out _) ⟨w.heap.size, 0, none⟩ 1 1 [.int .i64 n, .int .i64 (0)] rfl rfl ?c1 ?c2 (by decide) ?c3 ?c4 ?c5 ?_)
  case c1 =>
    intro j r hj
    match j, hj with
    | 0, hj => simp at hj; subst hj; exact cell_new (by simp) _ _ 0
    | 1, hj => simp at hj; subst hj; exact cell_new (by simp) _ _ 1
  case c2 => intro r hr; simp at hr; rcases hr with rfl | rfl <;> rfl
  case c3 => unfold maxLen; omega
  case c4 => omega
  case c5 => simp; omega
  · intro v' w1 hown' hgrow hnil
    obtain ⟨g, cap', rfl⟩ : ∃ g cap', v' = .slice (some ⟨g, 0, none⟩) (L + 1) cap' := by
      rcases hown'.2 with ⟨_, h⟩ | ⟨g, cap', _, h, _⟩
      · omega
      · exact ⟨g, cap', h⟩
    have R1 : Hid (w1.ownsRow B 41 2 (.slice (some ⟨g, 0, none⟩) (L + 1) cap') (L + 1) (logCells lg ++ [.int .i64 n, .int .i64 (0)])) := hown'
    have hb := hgrow.block p (by simp; omega) (fun e => hpo.out e.symm)
    have k2 : w1.cell? ⟨p, 2, none⟩ = some (.slice la L lc) := by
      rw [World.cell?_of_block hb]
      rw [cellB _ _ hpl]; exact h2
    have e2 : w1.frozen? ⟨p, 2, none⟩ = false := by
      rw [World.frozen?_of_block hb]
      rw [frozenB _ _ hpl]; exact f2
    have R2 := hgrow
    have R3 : Hid (World.grownBy _ w1 (Value.slice la L lc).ownBlock) := R2
    have R4 := hideIt hnil
    clear hown' hgrow hnil hb R2 h0 h1 h2 f1 f2
    go_wp2
    go_ret
    exact ⟨rfl, _, g, cap', w1, R1.out, R3.out, (by simpa using fresh_of R4.out), rfl⟩

theorem getD_mem (ds : List Int) (u : Nat) (hu : u < ds.length) : ds.getD u 0 ∈ ds := by
  have e : ds.getD u 0 = ds[u] := by simp [hu]
  rw [e]
  exact List.getElem_mem _
theorem tp_apart {w : World} {B : Nat} {p db lc L : Nat} {la : Option Addr} {c1 c2 : Array Value} {xs : List Value} (h1 : w.heap[p]? = some (.cells c1 48 (0, 0))) (h2 : w.heap[db]? = some (.cells c2 43 (0, 0))) (h3 : w.ownsRow B 41 2 (.slice la L lc) L xs) :
    db ≠ p ∧ (Value.slice la L lc).ownBlock ≠ some p ∧ (Value.slice la L lc).ownBlock ≠ some db := by
  refine ⟨fun e => ?_, fun e => ?_, fun e => ?_⟩
  · subst e
    rw [h1] at h2
    simp at h2
  · rcases h3.2 with ⟨h, _⟩ | ⟨g, cap, cur, h, _, hh, _⟩
    · rw [h] at e
      simp [Value.ownBlock] at e
    · rw [h] at e
      simp [Value.ownBlock] at e
      subst e
      rw [h1] at hh
      simp at hh
  · rcases h3.2 with ⟨h, _⟩ | ⟨g, cap, cur, h, _, hh, _⟩
    · rw [h] at e
      simp [Value.ownBlock] at e
    · rw [h] at e
      simp [Value.ownBlock] at e
      subst e
      rw [h2] at hh
      simp at hh

/-- A draw that is asked for. -/
theorem below_any (w : World) {B : Nat} {bl : Nat → Prop} {p : Nat} {ds : List Int} {u : Nat} {lg : List (Int × Int)} (n : Int) (hT : TP w B bl p ds u lg) (hn : 1 ≤ n) (hn2 : n ≤ 9223372036854775807) (hl : lg.length ≤ 1000000) (hB : B ≤ w.heap.size) :
    Calls Try.prog 11 #[.pointer (some ⟨p, 0, none⟩), .int .i64 n] w fun e w' => e = .returned (.int .i64 (val ds u n)) ∧
      (∃ bl', (∀ k, bl k → bl' k) ∧ (∀ k, bl' k → bl k ∨ w.heap.size ≤ k) ∧ TP w' B bl' p ds (nxt ds u) (lg ++ [(n, val ds u n)])) ∧ Fr bl w w' := by
  obtain ⟨db, la, lc, hdb, hla, h1, h2, h3⟩ := hT.ex
  obtain ⟨n1, n2, n3⟩ := tp_apart h1 h2 h3
  by_cases hu : u < ds.length
  · have hd := hT.dwf (ds.getD u 0) (getD_mem ds u hu)
    have hc : w.cell? ⟨db, u, none⟩ = some (.int .u64 (ds.getD u 0)) := by rw [cell_of_block h2]; simp [hu]
    have e1 : val ds u n = ds.getD u 0 % n := by simp [val, hu]
    have e2 : nxt ds u = u + 1 := by simp [nxt, hu]
    rw [e1, e2]
    refine (below_yes w B p db u ds.length lc lg.length la n (ds.getD u 0) lg hT.dlen hn hn2 hu hd.1 hd.2 hc h1 n2 h3 hl hB).mono fun e w' ⟨he, k, hL⟩ => ⟨he, ?_⟩
    refine tp_logged n _ hT (by omega) ?_ hdb hla n1 n2 n3 ?_ ?_ hL
    · exact (((Fr.refl bl w).drewN k).setCell (Or.inl hT.inp) _).alloc _
    · rw [Below.heap_alloc _ _ _ (by simpa using lt_of_block h1), block_setCell (w := w.drewN k) h1]
      simp
    · rw [Below.heap_alloc _ _ _ (by simpa using lt_of_block h2), Below.heap_setCell _ _ _ _ n1]
      exact h2
  · have e1 : val ds u n = 0 := by simp [val, hu]
    have e2 : nxt ds u = u := by simp [nxt, hu]
    have hul := hT.ule
    have hdl := hT.dlen
    rw [e1, e2]
    refine (below_no w B p db u ds.length lc lg.length la n 0 lg hT.dlen hn hn2 (by omega) (by omega) h1 n2 h3 hl hB).mono fun e w' ⟨he, k, hL⟩ => ⟨he, ?_⟩
    refine tp_logged n _ hT (by omega) ?_ hdb hla n1 n2 n3 ?_ ?_ hL
    · exact ((Fr.refl bl w).drewN k).alloc _
    · rw [Below.heap_alloc _ _ _ (by simpa using lt_of_block h1)]
      exact h1
    · rw [Below.heap_alloc _ _ _ (by simpa using lt_of_block h2)]
      exact h2

set_option maxHeartbeats 400000 in
/-- A bound that is none: nothing is drawn. -/
theorem below_none (w : World) (p : Nat) (n : Int) (hn : n ≤ 0) :
    Calls Try.prog 11 #[.pointer (some ⟨p, 0, none⟩), .int .i64 n] w fun e w' => e = .returned (.int .i64 0) ∧ w' = w := by
  have hdn : decide (n ≤ 0) = true := by simpa using hn
  go_enter Try.func11, Try.ntmps11
  go_wp2
  go_ret
  exact ⟨rfl, rfl⟩

set_option maxHeartbeats 400000 in
theorem below_nil (w : World) (n : Int) :
    Calls Try.prog 11 #[.pointer none, .int .i64 n] w fun e w' => e = .returned (.int .i64 0) ∧ w' = w := by
  go_enter Try.func11, Try.ntmps11
  go_wp2
  go_ret
  exact ⟨rfl, rfl⟩

set_option maxHeartbeats 400000 in
theorem used_any (w : World) {B : Nat} {bl : Nat → Prop} {p : Nat} {ds : List Int} {u : Nat} {lg : List (Int × Int)} (hT : TP w B bl p ds u lg) :
    Calls Try.prog 14 #[.pointer (some ⟨p, 0, none⟩)] w fun e w' => e = .returned (.int .i64 u) ∧ w' = w := by
  obtain ⟨db, la, lc, hdb, hla, h1, h2, h3⟩ := hT.ex
  have c1 : w.cell? ⟨p, 1, none⟩ = some (.int .i64 u) := by rw [cell_of_block h1]; rfl
  clear hdb hla h1 h2 h3 hT
  go_enter Try.func14, Try.ntmps14
  go_wp2
  go_ret
  exact ⟨rfl, rfl⟩

set_option maxHeartbeats 400000 in
theorem left_any (w : World) {B : Nat} {bl : Nat → Prop} {p : Nat} {ds : List Int} {u : Nat} {lg : List (Int × Int)} (hT : TP w B bl p ds u lg) :
    Calls Try.prog 15 #[.pointer (some ⟨p, 0, none⟩)] w fun e w' => e = .returned (.int .i64 ((ds.length : Int) - u)) ∧ ∃ k, w' = w.drewN k := by
  obtain ⟨db, la, lc, hdb, hla, h1, h2, h3⟩ := hT.ex
  have c0 : w.cell? ⟨p, 0, none⟩ = some (.slice (some ⟨db, 0, none⟩) ds.length ds.length) := by rw [cell_of_block h1]; rfl
  have c1 : w.cell? ⟨p, 1, none⟩ = some (.int .i64 u) := by rw [cell_of_block h1]; rfl
  have d1 := hT.ule
  have d2 := hT.dlen
  generalize ds.length = D at *
  clear hdb hla h1 h2 h3 hT
  go_enter Try.func15, Try.ntmps15
  go_wp2
  go_quiet (fail)
  go_wp2
  go_ret
  exact ⟨rfl, _, rfl⟩

end Go.Proofs.Yteefahkjdpaogab
