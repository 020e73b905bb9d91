/-
  What the document's answer does: its tape in memory, and what Below and Pick do to it: contracts over the program; the conditions: the pointer leads to such a tape, whose draws came in.
-/
import Derived.Test.YteefahkjdpaogabAsks
import Derived.Deep.QuietTactic
import Derived.BigQuiet
namespace Go.Proofs.Yteefahkjdpaogab
open Go.RowKit
set_option linter.unusedVariables false

theorem Try.info3 : (Try.prog.info? 3).map (fun i => (i.zero, i.size, i.bytes)) = some (some (.int .i64 0), 1, 8) := by kernel_rfl

/-- The document's tape at block p: the slice of draws, how many were used, the bounds and the values; bl: the blocks that are its own. -/
structure RP (w : World) (B : Nat) (bl : Nat → Prop) (p : Nat) (lv : Value) (u : Nat) (bs vs : List Int) : Prop where
  rng : ∀ k, bl k → B ≤ k ∧ k < w.heap.size
  inp : bl p
  ex : ∃ ba bc va vc, (∀ k, (Value.slice ba bs.length bc).ownBlock = some k → bl k ∧ k ≠ p) ∧ (∀ k, (Value.slice va vs.length vc).ownBlock = some k → bl k ∧ k ≠ p) ∧ (∀ k, (Value.slice ba bs.length bc).ownBlock = some k → (Value.slice va vs.length vc).ownBlock ≠ some k) ∧
    w.heap[p]? = some (.cells #[lv, .int .i64 u, .slice ba bs.length bc, .slice va vs.length vc] 32 (0, 0)) ∧
    w.ownsRow B 3 1 (.slice ba bs.length bc) bs.length (bs.map (Value.int .i64)) ∧ w.ownsRow B 3 1 (.slice va vs.length vc) vs.length (vs.map (Value.int .i64))

theorem RP.kept {w w' : World} {B : Nat} {bl : Nat → Prop} {p : Nat} {lv : Value} {u : Nat} {bs vs : List Int} (h : RP w B bl p lv u bs vs) (hb : ∀ k, bl k → w'.heap[k]? = w.heap[k]?) (hs : w.heap.size ≤ w'.heap.size) : RP w' B bl p lv u bs vs := by
  obtain ⟨ba, bc, va, vc, h1, h2, h3, h4, h5, h6⟩ := h.ex
  refine ⟨fun k hk => ⟨(h.rng k hk).1, Nat.lt_of_lt_of_le (h.rng k hk).2 hs⟩, h.inp, ba, bc, va, vc, h1, h2, h3, ?_, ?_, ?_⟩
  · rw [hb p h.inp]; exact h4
  · exact ownsRow_block h5 fun k hk => hb k (h1 k hk).1
  · exact ownsRow_block h6 fun k hk => hb k (h2 k hk).1
theorem RP.fr {w w' : World} {B : Nat} {S bl : Nat → Prop} {p : Nat} {lv : Value} {u : Nat} {bs vs : List Int} (h : RP w B bl p lv u bs vs) (hf : Fr S w w') (hd : ∀ k, bl k → ¬ S k) : RP w' B bl p lv u bs vs :=
  h.kept (fun k hk => hf.block k (h.rng k hk).2 (hd k hk)) hf.size

/-- The document's tape while it is written: the slices v1 and v2 in its cells 2 and 3. -/
structure RS (w X : World) (B : Nat) (bl : Nat → Prop) (p : Nat) (lv uc v1 v2 : Value) (n1 n2 : Nat) (xs ys : List Int) : Prop where
  blk : X.heap[p]? = some (.cells #[lv, uc, v1, v2] 32 (0, 0))
  o1 : X.ownsRow B 3 1 v1 n1 (xs.map (Value.int .i64))
  o2 : X.ownsRow B 3 1 v2 n2 (ys.map (Value.int .i64))
  ne1 : v1.ownBlock ≠ some p
  ne2 : v2.ownBlock ≠ some p
  dj : ∀ k, v1.ownBlock = some k → v2.ownBlock ≠ some k
  b1 : ∀ k, v1.ownBlock = some k → bl k ∨ w.heap.size ≤ k
  b2 : ∀ k, v2.ownBlock = some k → bl k ∨ w.heap.size ≤ k
  fr : Fr bl w X

theorem grown_block {X w1 : World} {o : Obj} {row : Option Nat} {p : Nat} (hg : (X.alloc o).grownBy w1 row) (hne : row ≠ some p) (hp : p < X.heap.size) : w1.heap[p]? = X.heap[p]? := by
  rw [hg.block p (by simp; omega) (fun e => hne e.symm), Below.heap_alloc _ _ _ hp]

theorem rs_one {w X w1 : World} {B N : Nat} {bl : Nat → Prop} {p : Nat} {lv uc v1 v2 v' : Value} {n1 n2 : Nat} {xs ys : List Int} {o : Obj} {n : Int} (h : RS w X B bl p lv uc v1 v2 n1 n2 xs ys) (hin : bl p) (hN : X.heap.size ≤ N)
    (ho : w1.ownsRow B 3 1 v' (n1 + 1) (xs.map (Value.int .i64) ++ [.int .i64 n])) (hg : (X.alloc o).grownBy w1 v1.ownBlock) (hf : v'.ownBlock = v1.ownBlock ∨ ∀ k, v'.ownBlock = some k → N ≤ k) :
    RS w (w1.setCell ⟨p, 2, none⟩ v') B bl p lv uc v' v2 (n1 + 1) n2 (xs ++ [n]) ys := by
  have hp := lt_of_block h.blk
  have hb := grown_block hg h.ne1 hp
  have hw : w.heap.size ≤ X.heap.size := h.fr.size
  have nep : v'.ownBlock ≠ some p := by
    rcases hf with hf | hf
    · rw [hf]; exact h.ne1
    · intro e; have := hf p e; omega
  have f1 : Fr bl w w1 := (h.fr.alloc o).grown hg h.b1
  refine ⟨?_, ?_, ?_, nep, h.ne2, ?_, ?_, h.b2, f1.setCell (Or.inl hin) _⟩
  · rw [block_setCell (hb.trans h.blk)]
    simp
  · rw [List.map_append]
    exact ownsRow_setCell_other ho nep _
  · refine ownsRow_setCell_other (ownsRow_block h.o2 fun k hk => ?_) h.ne2 _
    exact grown_block hg (fun e => h.dj k e hk) (h.o2.lt k hk).2
  · intro k hk e
    rcases hf with hf | hf
    · rw [hf] at hk; exact h.dj k hk e
    · have := hf k hk
      have := (h.o2.lt k e).2
      omega
  · intro k hk
    rcases hf with hf | hf
    · rw [hf] at hk; exact h.b1 k hk
    · have := hf k hk
      exact Or.inr (by omega)

theorem rs_two {w X w1 : World} {B N : Nat} {bl : Nat → Prop} {p : Nat} {lv uc v1 v2 v' : Value} {n1 n2 : Nat} {xs ys : List Int} {o : Obj} {n : Int} (h : RS w X B bl p lv uc v1 v2 n1 n2 xs ys) (hin : bl p) (hN : X.heap.size ≤ N)
    (ho : w1.ownsRow B 3 1 v' (n2 + 1) (ys.map (Value.int .i64) ++ [.int .i64 n])) (hg : (X.alloc o).grownBy w1 v2.ownBlock) (hf : v'.ownBlock = v2.ownBlock ∨ ∀ k, v'.ownBlock = some k → N ≤ k) :
    RS w (w1.setCell ⟨p, 3, none⟩ v') B bl p lv uc v1 v' n1 (n2 + 1) xs (ys ++ [n]) := by
  have hp := lt_of_block h.blk
  have hb := grown_block hg h.ne2 hp
  have hw : w.heap.size ≤ X.heap.size := h.fr.size
  have nep : v'.ownBlock ≠ some p := by
    rcases hf with hf | hf
    · rw [hf]; exact h.ne2
    · intro e; have := hf p e; omega
  have f1 : Fr bl w w1 := (h.fr.alloc o).grown hg h.b2
  refine ⟨?_, ?_, ?_, h.ne1, nep, ?_, h.b1, ?_, f1.setCell (Or.inl hin) _⟩
  · rw [block_setCell (hb.trans h.blk)]
    simp
  · refine ownsRow_setCell_other (ownsRow_block h.o1 fun k hk => ?_) h.ne1 _
    exact grown_block hg (fun e => h.dj k hk e) (h.o1.lt k hk).2
  · rw [List.map_append]
    exact ownsRow_setCell_other ho nep _
  · intro k hk e
    rcases hf with hf | hf
    · rw [hf] at e; exact h.dj k hk e
    · have := hf k e
      have := (h.o1.lt k hk).2
      omega
  · intro k hk
    rcases hf with hf | hf
    · rw [hf] at hk; exact h.b2 k hk
    · have := hf k hk
      exact Or.inr (by omega)

/-- The document's tape behind a question. -/
def RStep (w w' : World) (B : Nat) (bl : Nat → Prop) (p : Nat) (lv : Value) (u : Nat) (bs vs : List Int) : Prop :=
  (∃ bl', (∀ k, bl k → bl' k) ∧ (∀ k, bl' k → bl k ∨ w.heap.size ≤ k) ∧ RP w' B bl' p lv u bs vs) ∧ Fr bl w w'
theorem RStep.same {w : World} {B : Nat} {bl : Nat → Prop} {p : Nat} {lv : Value} {u : Nat} {bs vs : List Int} (h : RP w B bl p lv u bs vs) : RStep w w B bl p lv u bs vs :=
  ⟨⟨bl, fun _ h => h, fun _ h => Or.inl h, h⟩, Fr.refl _ _⟩

theorem rs_end {w X : World} {B : Nat} {bl : Nat → Prop} {p u : Nat} {lv : Value} {a1 a2 : Option Addr} {c1 c2 n : Nat} {xs ys : List Int} (h : RS w X B bl p lv (.int .i64 u) (.slice a1 n c1) (.slice a2 n c2) n n xs ys) (hin : bl p) (hr : ∀ k, bl k → B ≤ k ∧ k < w.heap.size) (e1 : xs.length = n) (e2 : ys.length = n) :
    RStep w X B bl p lv u xs ys := by
  have hs := h.fr.size
  subst e1
  refine ⟨⟨fun k => bl k ∨ (Value.slice a1 xs.length c1).ownBlock = some k ∨ (Value.slice a2 xs.length c2).ownBlock = some k, fun k hk => Or.inl hk, fun k hk => ?_, ?_⟩, h.fr⟩
  · rcases hk with hk | hk | hk
    · exact Or.inl hk
    · exact h.b1 k hk
    · exact h.b2 k hk
  · refine ⟨fun k hk => ?_, Or.inl hin, a1, c1, a2, c2, fun k hk => ⟨Or.inr (Or.inl hk), fun e => h.ne1 (by rw [hk, e])⟩, fun k hk => ?_, ?_, ?_, h.o1, ?_⟩
    · rcases hk with hk | hk | hk
      · have := hr k hk; omega
      · exact h.o1.lt k hk
      · exact h.o2.lt k hk
    · rw [e2] at hk
      exact ⟨Or.inr (Or.inr hk), fun e => h.ne2 (by rw [hk, e])⟩
    · rw [e2]; exact h.dj
    · rw [e2]; exact h.blk
    · rw [e2]; exact h.o2

theorem rs_yes {w : World} {B : Nat} {bl : Nat → Prop} {p u : Nat} {lv uc : Value} {a1 a2 : Option Addr} {c1 c2 n : Nat} {xs ys : List Int} (h : RS w w B bl p lv uc (.slice a1 n c1) (.slice a2 n c2) n n xs ys) (hin : bl p) (k : Nat) (v : Value) : RS w ((w.drewN k).setCell ⟨p, 1, none⟩ v) B bl p lv v (.slice a1 n c1) (.slice a2 n c2) n n xs ys := by
  refine ⟨?_, ownsRow_setCell_other (owns_drewN h.o1 k) h.ne1 _, ownsRow_setCell_other (owns_drewN h.o2 k) h.ne2 _, h.ne1, h.ne2, h.dj, h.b1, h.b2, ((Fr.refl bl w).drewN k).setCell (Or.inl hin) _⟩
  rw [block_setCell (w := w.drewN k) h.blk]
  simp
theorem rs_no {w : World} {B : Nat} {bl : Nat → Prop} {p u : Nat} {lv uc : Value} {a1 a2 : Option Addr} {c1 c2 n : Nat} {xs ys : List Int} (h : RS w w B bl p lv uc (.slice a1 n c1) (.slice a2 n c2) n n xs ys) (k : Nat) : RS w (w.drewN k) B bl p lv uc (.slice a1 n c1) (.slice a2 n c2) n n xs ys :=
  ⟨h.blk, h.o1, h.o2, h.ne1, h.ne2, h.dj, h.b1, h.b2, (Fr.refl bl w).drewN k⟩
theorem rs_of {w : World} {B : Nat} {bl : Nat → Prop} {p u : Nat} {lv : Value} {bs vs : List Int} (h : RP w B bl p lv u bs vs) (n : Nat) (e1 : bs.length = n) (e2 : vs.length = n) : ∃ a1 c1 a2 c2, RS w w B bl p lv (.int .i64 u) (.slice a1 n c1) (.slice a2 n c2) n n bs vs := by
  obtain ⟨ba, bc, va, vc, h1, h2, h3, h4, h5, h6⟩ := h.ex
  rw [e1] at h1 h3 h4 h5
  rw [e2] at h2 h3 h4 h6
  exact ⟨ba, bc, va, vc, h4, h5, h6, fun e => (h1 p e).2 rfl, fun e => (h2 p e).2 rfl, h3, fun k hk => Or.inl (h1 k hk).1, fun k hk => Or.inl (h2 k hk).1, Fr.refl _ _⟩
theorem shape1 {w : World} {B : Nat} {e : TypeId} {size n : Nat} {v : Value} {xs : List Value} (h : w.ownsRow B e size v (n + 1) xs) : ∃ g c, v = .slice (some ⟨g, 0, none⟩) (n + 1) c := by
  rcases h.2 with ⟨_, h⟩ | ⟨g, cap', _, h, _⟩
  · omega
  · exact ⟨g, cap', h⟩
theorem four {w : World} {p : Nat} {x0 x1 x2 x3 : Value} {t : TypeId} (h : w.heap[p]? = some (.cells #[x0, x1, x2, x3] t (0, 0))) :
    w.cell? ⟨p, 0, none⟩ = some x0 ∧ w.cell? ⟨p, 1, none⟩ = some x1 ∧ w.cell? ⟨p, 2, none⟩ = some x2 ∧ w.cell? ⟨p, 3, none⟩ = some x3 ∧ ∀ j, w.frozen? ⟨p, j, none⟩ = false := by
  refine ⟨?_, ?_, ?_, ?_, fun j => free_of_block h j⟩ <;> (rw [cell_of_block h]; rfl)

set_option maxRecDepth 100000 in
set_option maxHeartbeats 2000000 in
theorem rbelow_yes (w : World) (B p u D L Lc bc vc : Nat) (bl : Nat → Prop) (la ba va : Option Addr) (n d : Int) (bs vs : List Int) (hn : 1 ≤ n) (hn2 : n ≤ 9223372036854775807) (hu : u < D) (hD : D ≤ 4096) (hd0 : 0 ≤ d) (hd1 : d ≤ 18446744073709551615) (ab ao : Nat) (hla : la = some ⟨ab, ao, none⟩)
    (hc : w.cell? ⟨ab, ao + u, none⟩ = some (.int .u64 d))
    (hR : Hid (RS w w B bl p (.slice la D Lc) (.int .i64 u) (.slice ba L bc) (.slice va L vc) L L bs vs)) (hin : Hid (bl p)) (hl : L ≤ 1000000) (hB : B ≤ w.heap.size) :
    Calls Try.prog 12 #[.pointer (some ⟨p, 0, none⟩), .int .i64 n] w fun e w' => e = .returned (.int .i64 (d % n)) ∧ ∃ a1 c1 a2 c2, RS w w' B bl p (.slice la D Lc) (.int .i64 ((u : Int) + 1)) (.slice a1 (L + 1) c1) (.slice a2 (L + 1) c2) (L + 1) (L + 1) (bs ++ [n]) (vs ++ [d % n]) := by
  obtain ⟨i0, hi, hz0, hz1, hz2⟩ := info_parts Try.info3
  have hdn : decide (n ≤ 0) = false := by simp; omega
  subst hla
  have hm0 : 0 ≤ d % n := Int.emod_nonneg _ (by omega)
  have hm1 : d % n < n := Int.emod_lt_of_pos _ (by omega)
  have hlt : (u : Int) < (D : Int) := by omega
  have hltd : decide ((u : Int) < (D : Int)) = true := by simpa using hlt
  obtain ⟨h0, h1, h2, h3, hfz⟩ := four hR.out.blk
  have f1 := hfz 1
  have f2 := hfz 2
  have f3 := hfz 3
  have hpl : p < w.heap.size := lt_of_block hR.out.blk
  have HX : Hid (∀ k, RS w ((w.drewN k).setCell ⟨p, 1, none⟩ (.int .i64 ((u : Int) + 1))) B bl p (.slice (some ⟨ab, ao, none⟩) D Lc) (.int .i64 ((u : Int) + 1)) (.slice ba L bc) (.slice va L vc) L L bs vs) := fun k => rs_yes (u := u) hR.out hin.out k _
  clear hfz
  go_enter Try.func12, Try.ntmps12
  go_wp2
  go_quiet (fail)
  go_wp2
  go_quiet (fail)
  go_wp2_with (at_builtin; refine wpList_append_mine _ rfl (.tmp 43) (.tmp 45) 30 rfl B 3 i0 (.int .i64 0) 1 8 Try.underlying30 hi hz0 hz1 hz2 rfl (by decide) (.slice ba L bc) L (bs.map (Value.int .i64)) rfl ((HX.out _).o1.alloc _) ⟨w.heap.size, 0, none⟩ 1 1 [.int .i64 n] rfl rfl (by intro j r hj; match j, hj with | 0, hj => simp at hj; subst hj; exact cell_new (by simp) _ _ 0) (by intro r hr; simp at hr; subst hr; rfl) (by decide) (by unfold maxLen; omega) (by omega) (by simp; omega) ?_)
  intro v' w1 hown' hgrow hfr
  obtain ⟨g1, c1, hv'⟩ := shape1 hown'
  subst hv'
  have R1 := hideIt (rs_one (HX.out _) hin.out (by simp) hown' hgrow hfr)
  have hblk := grown_block hgrow hR.out.ne1 (by simpa using hpl)
  obtain ⟨k0, k1, k2, k3, kf⟩ := four (hblk.trans (HX.out _).blk)
  have kf2 := kf 2
  have kf3 := kf 3
  have hs1 : w.heap.size ≤ w1.heap.size := by have := hgrow.size; simp at this; omega
  clear hown' hgrow hfr hblk kf h0 h1 h2 h3 f1 f2 f3 k0 k1
  go_wp2_with (at_builtin; refine wpList_append_mine _ rfl (.tmp 53) (.tmp 55) 30 rfl B 3 i0 (.int .i64 0) 1 8 Try.underlying30 hi hz0 hz1 hz2 rfl (by decide) (.slice va L vc) L (vs.map (Value.int .i64)) rfl (R1.out.o2.alloc _) ⟨w1.heap.size, 0, none⟩ 1 1 [.int .i64 (d % n)] rfl rfl (by intro j r hj; match j, hj with | 0, hj => simp at hj; subst hj; exact cell_new (by simp) _ _ 0) (by intro r hr; simp at hr; subst hr; rfl) (by decide) (by unfold maxLen; omega) (by omega) (by simp; omega) ?_)
  intro v'' w2 hown2 hgrow2 hfr2
  obtain ⟨g2, c2, hv2⟩ := shape1 hown2
  subst hv2
  have R2 := hideIt (rs_two R1.out hin.out (by simp) hown2 hgrow2 hfr2)
  have hblk2 := grown_block hgrow2 R1.out.ne2 (lt_of_block R1.out.blk)
  obtain ⟨_, _, _, m3, mf⟩ := four (hblk2.trans R1.out.blk)
  have mf3 := mf 3
  clear hown2 hgrow2 hfr2 hblk2 mf k2 k3 kf2 kf3
  go_wp2
  go_ret
  exact ⟨rfl, _, _, _, _, R2.out⟩

set_option maxRecDepth 100000 in
set_option maxHeartbeats 2000000 in
theorem rbelow_no (w : World) (B p u D L Lc bc vc : Nat) (bl : Nat → Prop) (la ba va : Option Addr) (n d : Int) (bs vs : List Int) (hn : 1 ≤ n) (hn2 : n ≤ 9223372036854775807) (hu : D ≤ u) (hu2 : u ≤ 4096)
    (hR : Hid (RS w w B bl p (.slice la D Lc) (.int .i64 u) (.slice ba L bc) (.slice va L vc) L L bs vs)) (hin : Hid (bl p)) (hl : L ≤ 1000000) (hB : B ≤ w.heap.size) :
    Calls Try.prog 12 #[.pointer (some ⟨p, 0, none⟩), .int .i64 n] w fun e w' => e = .returned (.int .i64 (0)) ∧ ∃ a1 c1 a2 c2, RS w w' B bl p (.slice la D Lc) (.int .i64 ((u : Int))) (.slice a1 (L + 1) c1) (.slice a2 (L + 1) c2) (L + 1) (L + 1) (bs ++ [n]) (vs ++ [0]) := by
  obtain ⟨i0, hi, hz0, hz1, hz2⟩ := info_parts Try.info3
  have hdn : decide (n ≤ 0) = false := by simp; omega
  have hltd : decide ((u : Int) < (D : Int)) = false := by simp; omega
  obtain ⟨h0, h1, h2, h3, hfz⟩ := four hR.out.blk
  have f1 := hfz 1
  have f2 := hfz 2
  have f3 := hfz 3
  have hpl : p < w.heap.size := lt_of_block hR.out.blk
  have HX : Hid (∀ k, RS w (w.drewN k) B bl p (.slice la D Lc) (.int .i64 ((u : Int))) (.slice ba L bc) (.slice va L vc) L L bs vs) := fun k => rs_no (u := u) hR.out k
  clear hfz
  go_enter Try.func12, Try.ntmps12
  go_wp2
  go_quiet (fail)
  go_wp2_with (at_builtin; refine wpList_append_mine _ rfl (.tmp 43) (.tmp 45) 30 rfl B 3 i0 (.int .i64 0) 1 8 Try.underlying30 hi hz0 hz1 hz2 rfl (by decide) (.slice ba L bc) L (bs.map (Value.int .i64)) rfl ((HX.out _).o1.alloc _) ⟨w.heap.size, 0, none⟩ 1 1 [.int .i64 n] rfl rfl (by intro j r hj; match j, hj with | 0, hj => simp at hj; subst hj; exact cell_new (by simp) _ _ 0) (by intro r hr; simp at hr; subst hr; rfl) (by decide) (by unfold maxLen; omega) (by omega) (by simp; omega) ?_)
  intro v' w1 hown' hgrow hfr
  obtain ⟨g1, c1, hv'⟩ := shape1 hown'
  subst hv'
  have R1 := hideIt (rs_one (HX.out _) hin.out (by simp) hown' hgrow hfr)
  have hblk := grown_block hgrow hR.out.ne1 (by simpa using hpl)
  obtain ⟨k0, k1, k2, k3, kf⟩ := four (hblk.trans (HX.out _).blk)
  have kf2 := kf 2
  have kf3 := kf 3
  have hs1 : w.heap.size ≤ w1.heap.size := by have := hgrow.size; simp at this; omega
  clear hown' hgrow hfr hblk kf h0 h1 h2 h3 f1 f2 f3 k0 k1
  go_wp2_with (at_builtin; refine wpList_append_mine _ rfl (.tmp 53) (.tmp 55) 30 rfl B 3 i0 (.int .i64 0) 1 8 Try.underlying30 hi hz0 hz1 hz2 rfl (by decide) (.slice va L vc) L (vs.map (Value.int .i64)) rfl (R1.out.o2.alloc _) ⟨w1.heap.size, 0, none⟩ 1 1 [.int .i64 (0)] rfl rfl (by intro j r hj; match j, hj with | 0, hj => simp at hj; subst hj; exact cell_new (by simp) _ _ 0) (by intro r hr; simp at hr; subst hr; rfl) (by decide) (by unfold maxLen; omega) (by omega) (by simp; omega) ?_)
  intro v'' w2 hown2 hgrow2 hfr2
  obtain ⟨g2, c2, hv2⟩ := shape1 hown2
  subst hv2
  have R2 := hideIt (rs_two R1.out hin.out (by simp) hown2 hgrow2 hfr2)
  have hblk2 := grown_block hgrow2 R1.out.ne2 (lt_of_block R1.out.blk)
  obtain ⟨_, _, _, m3, mf⟩ := four (hblk2.trans R1.out.blk)
  have mf3 := mf 3
  clear hown2 hgrow2 hfr2 hblk2 mf k2 k3 kf2 kf3
  go_wp2
  go_ret
  exact ⟨rfl, _, _, _, _, R2.out⟩

set_option maxHeartbeats 400000 in
theorem rbelow_none (w : World) (p : Nat) (n : Int) (hn : n ≤ 0) :
    Calls Try.prog 12 #[.pointer (some ⟨p, 0, none⟩), .int .i64 n] w fun e w' => e = .returned (.int .i64 0) ∧ w' = w := by
  have hdn : decide (n ≤ 0) = true := by simpa using hn
  go_enter Try.func12, Try.ntmps12
  go_wp2
  go_ret
  exact ⟨rfl, rfl⟩

def appZ (n : Int) (l : List Int) (x : Int) : List Int := if n ≤ 0 then l else l ++ [x]

/-- A draw of the document's tape. -/
theorem rbelow_all (w : World) {B : Nat} {bl : Nat → Prop} {p : Nat} {la : Option Addr} {D Lc u : Nat} {ds bs vs : List Int} (n : Int) (hR : RP w B bl p (.slice la D Lc) u bs vs) (hr : Reads .u64 w la ds) (hd : ds.length = D) (hD : D ≤ 4096) (hwf : ∀ d ∈ ds, 0 ≤ d ∧ d ≤ 18446744073709551615) (hu : u ≤ D) (hn2 : n ≤ 9223372036854775807) (hl : bs.length ≤ 1000000) (he : vs.length = bs.length) (hB : B ≤ w.heap.size) :
    Calls Try.prog 12 #[.pointer (some ⟨p, 0, none⟩), .int .i64 n] w fun e w' => e = .returned (.int .i64 (valZ ds u n)) ∧ RStep w w' B bl p (.slice la D Lc) (nxtZ ds u n) (appZ n bs n) (appZ n vs (val ds u n)) := by
  by_cases hn : n ≤ 0
  · unfold valZ nxtZ appZ
    rw [if_pos hn, if_pos hn, if_pos hn, if_pos hn]
    exact (rbelow_none w p n hn).mono fun e w' ⟨he, hw⟩ => ⟨he, by subst hw; exact RStep.same hR⟩
  · unfold valZ nxtZ appZ
    rw [if_neg hn, if_neg hn, if_neg hn, if_neg hn]
    obtain ⟨a1, c1, a2, c2, hS⟩ := rs_of hR bs.length rfl he
    by_cases c : u < D
    · obtain ⟨ab, ao, hla, hcs⟩ := reads_at hr (by omega)
      have hc := hcs u (by omega)
      have hdd := hwf (ds.getD u 0) (getD_mem ds u (by omega))
      have e1 : val ds u n = ds.getD u 0 % n := by unfold val; rw [if_pos (by omega)]
      have e2 : nxt ds u = u + 1 := by unfold nxt; rw [if_pos (by omega)]
      rw [e1, e2]
      refine (rbelow_yes w B p u D bs.length Lc c1 c2 bl la a1 a2 n (ds.getD u 0) bs vs (by omega) hn2 c hD hdd.1 hdd.2 ab ao hla hc hS hR.inp hl hB).mono fun e w' ⟨hee, x1, y1, x2, y2, hE⟩ => ⟨hee, ?_⟩
      have hE' : RS w w' B bl p (.slice la D Lc) (.int .i64 ((u + 1 : Nat) : Int)) _ _ _ _ _ _ := hE
      exact rs_end hE' hR.inp hR.rng (by simp) (by simp [he])
    · have e1 : val ds u n = 0 := by unfold val; rw [if_neg (by omega)]
      have e2 : nxt ds u = u := by unfold nxt; rw [if_neg (by omega)]
      rw [e1, e2]
      refine (rbelow_no w B p u D bs.length Lc c1 c2 bl la a1 a2 n 0 bs vs (by omega) hn2 (by omega) (by omega) hS hR.inp hl hB).mono fun e w' ⟨hee, x1, y1, x2, y2, hE⟩ => ⟨hee, ?_⟩
      exact rs_end hE hR.inp hR.rng (by simp) (by simp [he])

end Go.Proofs.Yteefahkjdpaogab
