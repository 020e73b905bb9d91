/-
  The registers that an instruction reads (Uses of ir) come in new memory: a contract over the program; the conditions: the instruction lies in memory. As wip/live/LvI.
  An instruction in other registers, what a call's end does (inRegisters, answer of inline): contracts over the program; the conditions: what is handed in lies in memory, and the numbers are small.
-/
import Derived.Test.YtnaflfpkkbfnfaaKIrD
import Derived.Test.YtnaflfpkkbfnfaaKIrP
import Derived.Test.YtnaflfpkkbfnfaaKInC
import Derived.Test.YtnaflfpkkbfnfaaKIrX
import Derived.Test.YtnaflfpkkbfnfaaKIrZc
import Derived.BigRegion
namespace Go.Proofs.Ytnaflfpkkbfnfaa
open Go.RowKit
set_option linter.unusedVariables false

/-- A list of numbers that came, in new memory. -/
def GotF (L : List Int) (w : World) (e : Ending) (w' : World) : Prop := ∃ ao c, e = .returned (.slice ao L.length c) ∧ Ints w' ao L ∧ Q w w' ∧ ∀ b o, ao = some ⟨b, o, none⟩ → w.heap.size ≤ b
theorem listIntsF_any (w : World) (ao : Option Addr) (c : Nat) (l : List Int) (hs : sok 8 ao l.length c) (hl : Ints w ao l) : Calls Try.prog 29 #[.slice ao l.length c] w fun e w' => GotF l w e w' := by
  refine (listInt_any w ao l.length c (l.map (Value.int .i64)) hs (by simp) (ints_src hl) mem_one).mono fun e w' h => ?_
  rcases h with ⟨rfl, rfl, rfl⟩ | ⟨_, rfl, hh, q⟩
  · have : l.length = 0 := by have := hs.1; have := hs.2.2.1 rfl; omega
    exact ⟨none, 0, by rw [this], hl, Q.refl _, fun b o e => by cases e⟩
  · exact ⟨_, _, rfl, ints_block hh (ints_bound hl), q, fun b o e => by injection e with e; injection e with e1 e2; omega⟩

theorem list2F_any (Y : World) (g : Nat) (a b : Int) (n : Nat) (hn : n ≤ 2) (ha : I64 a) (hb : I64 b) (hg : Y.heap[g]? = some (.cells #[.int .i64 a, .int .i64 b] 3 (0, 0))) : Calls Try.prog 29 #[.slice (some ⟨g, 0, none⟩) n 2] Y fun e w' => GotF ([a, b].take n) Y e w' := by
  have e : ([a, b].take n).length = n := by simp; omega
  have h2 : Ints Y (some ⟨g, 0, none⟩) [a, b] := ints_block hg (fun x hx => by simp at hx; rcases hx with rfl | rfl <;> assumption)
  have h := listIntsF_any Y (some ⟨g, 0, none⟩) 2 ([a, b].take n) ⟨by omega, by decide, (fun h => by cases h), by omega⟩ (fun k x hk => h2 k x (by
    rw [List.getElem?_take] at hk
    split at hk
    · exact hk
    · cases hk))
  rw [e] at h
  exact h

set_option maxRecDepth 100000 in
set_option maxHeartbeats 1000000 in
theorem usesF_any (x : PI) (w : World) (hx : x.ok w) : Calls Try.prog 63 #[x.v] w fun e w' => GotF (usesP x) w e w' := by
  have HB := hideIt (fun w' (h : Q (bxI w x) w') => (bxI_at h).seven)
  have q := hideIt (bxI_q w x)
  have C32 := hideIt (listIntsF_any (bxI w x) x.aa x.ac x.args hx.sok (hx.args.keep (bxI_q w x)))
  have CR := hideIt (fun X => reads_any x.op X)
  have CL := hideIt (fun n (hn : n ≤ 2) X g hg => list2F_any X g x.a x.b n hn hx.a hx.b hg)
  clear hx
  unfold usesP
  have hle := rdP_le x.op
  rcases x with ⟨op, ty, d, a, b, im, args, aa, ac⟩
  dsimp only [PI.v, bxI] at *
  by_cases h32 : op = 32
  · subst h32
    rw [if_pos rfl]
    clear CR CL hle
    go_enter Try.func63, Try.ntmps63
    go_wp2_with (first | (go_at_call 29; refine C32.out.mono ?_; rintro e y ⟨ao, c, rfl, hi, hq, hf⟩; have HFR := hideIt hf; have HI := hideIt hi; have HQ := hideIt hq; clear hi hq hf) | fail)
    go_ret
    exact ⟨ao, c, rfl, HI.out, q.out.trans HQ.out, fun b o e => Nat.le_trans q.out.size (HFR.out b o e)⟩
  · rw [if_neg h32]
    generalize rdP op = n at *
    have CL := hideIt (fun X g hg => CL.out n hle X g hg)
    generalize hBe : w.alloc (.cells #[.int .u8 op, .int .u8 ty, .int .i64 d, .int .i64 a, .int .i64 b, .int .i64 im, .slice aa args.length ac] 41) = B at *
    have hF : Hid (∀ y, Q B y → y.cell? ⟨w.heap.size, 0, none⟩ = some (.int .u8 op) ∧ y.cell? ⟨w.heap.size, 3, none⟩ = some (.int .i64 a) ∧ y.cell? ⟨w.heap.size, 4, none⟩ = some (.int .i64 b)) := fun y h => ⟨(HB.out y h).1, (HB.out y h).2.2.2.1, (HB.out y h).2.2.2.2.1⟩
    have hB := hF.out B (Q.refl B)
    obtain ⟨b0, b1, b2⟩ := hB
    clear C32 HB
    obtain rfl | rfl | rfl : n = 0 ∨ n = 1 ∨ n = 2 := by omega
    all_goals
      clear hle
      go_enter Try.func63, Try.ntmps63
      go_wp2_with (fail)
      (try rw [hBe])
      refine wp_region_held_drew (S := (fun y : World => Q B y ∧ y.cell? ⟨w.heap.size, 0, none⟩ = some (.int .u8 op) ∧ y.cell? ⟨w.heap.size, 3, none⟩ = some (.int .i64 a) ∧ y.cell? ⟨w.heap.size, 4, none⟩ = some (.int .i64 b))) (by kernel_rfl) (⟨(Q.refl B).drew, hF.out _ (Q.refl B).drew⟩) (fun hHeld => ?_)
      refine wpAnyH_take (i := 0) (oi := ⟨_, _, _, _, _, _⟩) (v := ?_) rfl (by kernel_rfl) (by kernel_rfl) (by kernel_rfl) (fun _ _ _ h => h) (Or.inl ⟨by rfl, ?_⟩) (by assumption) ?_
      rotate_left 1
      · intro w hSw; (try dsimp only at hSw); go_simp; all_goals with_reducible rfl
      try simp only [Act.put, List.setIfInBounds_toArray, List.set_cons_zero, List.set_cons_succ]
      refine wpAnyH_take (i := 1) (oi := ⟨_, _, _, _, _, _⟩) (v := ?_) rfl (by kernel_rfl) (by kernel_rfl) (by kernel_rfl) (fun _ _ _ h => h) (Or.inl ⟨by rfl, ?_⟩) (by assumption) ?_
      rotate_left 1
      · intro w hSw; (try dsimp only at hSw); go_simp; all_goals with_reducible rfl
      try simp only [Act.put, List.setIfInBounds_toArray, List.set_cons_zero, List.set_cons_succ]
      refine wpAnyH_take (i := 2) (oi := ⟨_, _, _, _, _, _⟩) (v := ?_) rfl (by kernel_rfl) (by kernel_rfl) (by kernel_rfl) (fun _ _ _ h => h) (Or.inl ⟨by rfl, ?_⟩) (by assumption) ?_
      rotate_left 1
      · intro w hSw; (try dsimp only at hSw); go_simp; all_goals with_reducible rfl
      try simp only [Act.put, List.setIfInBounds_toArray, List.set_cons_zero, List.set_cons_succ]
      refine wpAnyH_take (i := 3) (oi := ⟨_, _, _, _, _, _⟩) (v := ?_) rfl (by kernel_rfl) (by kernel_rfl) (by kernel_rfl) (fun _ _ _ h => h) (Or.inl ⟨by rfl, ?_⟩) (by assumption) ?_
      rotate_left 1
      · intro w hSw; (try dsimp only at hSw); go_simp; all_goals with_reducible rfl
      try simp only [Act.put, List.setIfInBounds_toArray, List.set_cons_zero, List.set_cons_succ]
      refine wpAnyH_take (i := 5) (oi := ⟨_, _, _, _, _, _⟩) (v := ?_) rfl (by kernel_rfl) (by kernel_rfl) (by kernel_rfl) (fun _ _ _ h => h) (Or.inl ⟨by rfl, ?_⟩) (by assumption) ?_
      rotate_left 1
      · intro w hSw; (try dsimp only at hSw); go_simp; all_goals with_reducible rfl
      try simp only [Act.put, List.setIfInBounds_toArray, List.set_cons_zero, List.set_cons_succ]
      refine wpAnyH_take (i := 6) (oi := ⟨_, _, _, _, _, _⟩) (v := ?_) rfl (by kernel_rfl) (by kernel_rfl) (by kernel_rfl) (fun _ _ _ h => h) (Or.inl ⟨by rfl, ?_⟩) (by assumption) ?_
      rotate_left 1
      · intro w hSw; (try dsimp only at hSw); go_simp; all_goals with_reducible rfl
      try simp only [Act.put, List.setIfInBounds_toArray, List.set_cons_zero, List.set_cons_succ]
      refine wpAnyH_ready (rs := [4, 7]) (by kernel_rfl) (by simp) (AllReadyH.cons (o := ⟨_, _, _, _, _, _⟩) rfl (fun K hK => ?_) (AllReadyH.cons (o := ⟨_, _, _, _, _, _⟩) rfl (fun K hK => ?_) AllReadyH.nil))
      · go_simp
        skip
        refine hK.out _ _ ?_ (fun hHeld => ?_)
        · exact ⟨hHeld.1.alloc _, hF.out _ (hHeld.1.alloc _)⟩
        clear hK K
        try simp only [Act.put, List.setIfInBounds_toArray, List.set_cons_zero, List.set_cons_succ]
        refine wpAnyH_ready (rs := [7]) (by kernel_rfl) (by simp) (AllReadyH.cons (o := ⟨_, _, _, _, _, _⟩) rfl (fun K hK => ?_) AllReadyH.nil)
        go_simp
        go_at_call 84; refine (CR.out _).mono ?_; rintro e y ⟨rfl, rfl⟩
        refine hK.out _ _ ?_ (fun hHeld => ?_)
        · exact hHeld
        clear hK K
        try simp only [Act.put, List.setIfInBounds_toArray, List.set_cons_zero, List.set_cons_succ]
        refine wpAnyH_take (i := 8) (oi := ⟨_, _, _, _, _, _⟩) (v := ?_) rfl (by kernel_rfl) (by kernel_rfl) (by kernel_rfl) (fun _ _ _ h => h) (Or.inl ⟨by rfl, ?_⟩) (by assumption) ?_
        rotate_left 1
        · intro w hSw; (try dsimp only at hSw); go_simp; all_goals with_reducible rfl
        try simp only [Act.put, List.setIfInBounds_toArray, List.set_cons_zero, List.set_cons_succ]
        refine wpAnyH_ready (rs := [9]) (by kernel_rfl) (by simp) (AllReadyH.cons (o := ⟨_, _, _, _, _, _⟩) rfl (fun K hK => ?_) AllReadyH.nil)
        go_simp
        go_at_call 29; refine (CL.out ((B.alloc (.cells #[.int .i64 a, .int .i64 b] 3)).drew) B.heap.size (heap_new B _)).mono ?_; rintro e y ⟨ao, c, rfl, hi, hq, hf⟩; have HFR := hideIt hf; have HI := hideIt hi; have HQ := hideIt hq; have hq2 := hHeld.1.trans hq; clear hi hq hf
        refine hK.out _ _ ?_ (fun hHeld => ?_)
        · exact ⟨hq2, hF.out _ hq2⟩
        clear hK K
        try simp only [Act.put, List.setIfInBounds_toArray, List.set_cons_zero, List.set_cons_succ]
        refine wpAnyH_take (i := 10) (oi := ⟨_, _, _, _, _, _⟩) (v := ?_) rfl (by kernel_rfl) (by kernel_rfl) (by kernel_rfl) (fun _ _ _ h => h) (Or.inl ⟨by rfl, ?_⟩) (by assumption) ?_
        rotate_left 1
        · intro w hSw; (try dsimp only at hSw); go_simp; all_goals with_reducible rfl
        try simp only [Act.put, List.setIfInBounds_toArray, List.set_cons_zero, List.set_cons_succ]
        refine wpAnyH_done (by kernel_rfl) ?_ _
        go_wp2
        go_ret
        exact ⟨_, _, rfl, HI.out, q.out.trans hHeld.1, fun b o e => Nat.le_trans q.out.size (Nat.le_trans (by simp) (HFR.out b o e))⟩
      · go_simp
        go_at_call 84; refine (CR.out _).mono ?_; rintro e y ⟨rfl, rfl⟩
        refine hK.out _ _ ?_ (fun hHeld => ?_)
        · exact hHeld
        clear hK K
        try simp only [Act.put, List.setIfInBounds_toArray, List.set_cons_zero, List.set_cons_succ]
        refine wpAnyH_ready (rs := [4]) (by kernel_rfl) (by simp) (AllReadyH.cons (o := ⟨_, _, _, _, _, _⟩) rfl (fun K hK => ?_) AllReadyH.nil)
        go_simp
        skip
        refine hK.out _ _ ?_ (fun hHeld => ?_)
        · exact ⟨hHeld.1.alloc _, hF.out _ (hHeld.1.alloc _)⟩
        clear hK K
        try simp only [Act.put, List.setIfInBounds_toArray, List.set_cons_zero, List.set_cons_succ]
        refine wpAnyH_take (i := 8) (oi := ⟨_, _, _, _, _, _⟩) (v := ?_) rfl (by kernel_rfl) (by kernel_rfl) (by kernel_rfl) (fun _ _ _ h => h) (Or.inl ⟨by rfl, ?_⟩) (by assumption) ?_
        rotate_left 1
        · intro w hSw; (try dsimp only at hSw); go_simp; all_goals with_reducible rfl
        try simp only [Act.put, List.setIfInBounds_toArray, List.set_cons_zero, List.set_cons_succ]
        refine wpAnyH_ready (rs := [9]) (by kernel_rfl) (by simp) (AllReadyH.cons (o := ⟨_, _, _, _, _, _⟩) rfl (fun K hK => ?_) AllReadyH.nil)
        go_simp
        go_at_call 29; refine (CL.out ((B.alloc (.cells #[.int .i64 a, .int .i64 b] 3)).drew) B.heap.size (heap_new B _)).mono ?_; rintro e y ⟨ao, c, rfl, hi, hq, hf⟩; have HFR := hideIt hf; have HI := hideIt hi; have HQ := hideIt hq; have hq2 := hHeld.1.trans hq; clear hi hq hf
        refine hK.out _ _ ?_ (fun hHeld => ?_)
        · exact ⟨hq2, hF.out _ hq2⟩
        clear hK K
        try simp only [Act.put, List.setIfInBounds_toArray, List.set_cons_zero, List.set_cons_succ]
        refine wpAnyH_take (i := 10) (oi := ⟨_, _, _, _, _, _⟩) (v := ?_) rfl (by kernel_rfl) (by kernel_rfl) (by kernel_rfl) (fun _ _ _ h => h) (Or.inl ⟨by rfl, ?_⟩) (by assumption) ?_
        rotate_left 1
        · intro w hSw; (try dsimp only at hSw); go_simp; all_goals with_reducible rfl
        try simp only [Act.put, List.setIfInBounds_toArray, List.set_cons_zero, List.set_cons_succ]
        refine wpAnyH_done (by kernel_rfl) ?_ _
        go_wp2
        go_ret
        exact ⟨_, _, rfl, HI.out, q.out.trans hHeld.1, fun b o e => Nat.le_trans q.out.size (Nat.le_trans (by simp) (HFR.out b o e))⟩

end Go.Proofs.Ytnaflfpkkbfnfaa

namespace Go.Proofs.Ytnaflfpkkbfnfaa.In
open Go.RowKit
set_option linter.unusedVariables false

/-- An instruction of a body: no call, its registers some of the body's own. -/
structure SI (x : PI) : Prop where
  op : x.op ≠ 32
  dst : wrP x.op = true → 0 ≤ x.dst ∧ x.dst < 20
  a : 0 < rdP x.op → 0 ≤ x.a ∧ x.a < 20
  b : 1 < rdP x.op → 0 ≤ x.b ∧ x.b < 20
theorem heap_new2' (X : World) (o1 o2 : Obj) : ((X.alloc o1).alloc o2).heap[X.heap.size]? = some o1 ∧ True := ⟨heap_old _ (heap_new _ _), trivial⟩
theorem rd3 (o : Int) : rdP o = 0 ∨ rdP o = 1 ∨ rdP o = 2 := by have := rdP_le o; omega

abbrev B3 (w : World) (i : PI) : World := ((w.alloc (.cells #[.int .u8 i.op, .int .u8 i.ty, .int .i64 i.dst, .int .i64 i.a, .int .i64 i.b, .int .i64 i.imm, .slice i.aa i.args.length i.ac] 41)).alloc (.cells #[.int .u8 0, .int .u8 0, .int .i64 0, .int .i64 0, .int .i64 0, .int .i64 0, .slice none 0 0] 41)).alloc (.cells #[.int .u8 i.op, .int .u8 i.ty, .int .i64 0, .int .i64 0, .int .i64 0, .int .i64 i.imm, .slice none 0 0] 41)
/-- The instruction, the answer's box, and the one that is being made. -/
structure Bi (w : World) (i : PI) (d a b : Int) (y : World) : Prop where
  q : Q w y
  b0 : y.heap[w.heap.size]? = some (.cells #[.int .u8 i.op, .int .u8 i.ty, .int .i64 i.dst, .int .i64 i.a, .int .i64 i.b, .int .i64 i.imm, .slice i.aa i.args.length i.ac] 41 (0, 0))
  b1 : y.heap[w.heap.size + 1]? = some (.cells #[.int .u8 0, .int .u8 0, .int .i64 0, .int .i64 0, .int .i64 0, .int .i64 0, .slice none 0 0] 41 (0, 0))
  b2 : y.heap[w.heap.size + 1 + 1]? = some (.cells #[.int .u8 i.op, .int .u8 i.ty, .int .i64 d, .int .i64 a, .int .i64 b, .int .i64 i.imm, .slice none 0 0] 41 (0, 0))
theorem Bi.keep {w y z : World} {i : PI} {d a b : Int} (h : Bi w i d a b y) (q : Q y z) : Bi w i d a b z := ⟨h.q.trans q, heap_keep q h.b0, heap_keep q h.b1, heap_keep q h.b2⟩
theorem Bi.new (w : World) (i : PI) : Bi w i 0 0 0 (B3 w i) := by
  refine ⟨((((Q.refl w).alloc _).alloc _).alloc _), ?_, ?_, ?_⟩
  · exact heap_old _ (heap_new2' _ _ _).1
  · exact heap_old _ (heap_new2 _ _ _)
  · have := heap_alloc_new ((w.alloc (.cells #[.int .u8 i.op, .int .u8 i.ty, .int .i64 i.dst, .int .i64 i.a, .int .i64 i.b, .int .i64 i.imm, .slice i.aa i.args.length i.ac] 41)).alloc (.cells #[.int .u8 0, .int .u8 0, .int .i64 0, .int .i64 0, .int .i64 0, .int .i64 0, .slice none 0 0] 41)) (.cells #[.int .u8 i.op, .int .u8 i.ty, .int .i64 0, .int .i64 0, .int .i64 0, .int .i64 i.imm, .slice none 0 0] 41)
    simpa using this
theorem Bi.d {w y : World} {i : PI} {d a b : Int} (h : Bi w i d a b y) (v : Int) : Bi w i v a b (y.setCell ⟨w.heap.size + 1 + 1, 2, none⟩ (.int .i64 v)) :=
  ⟨h.q.set (p := ⟨w.heap.size + 1 + 1, 2, none⟩) (by show w.heap.size ≤ w.heap.size + 1 + 1; omega) _, heap_set_other h.b0 (by show w.heap.size ≠ w.heap.size + 1 + 1; omega), heap_set_other h.b1 (by show w.heap.size + 1 ≠ w.heap.size + 1 + 1; omega), by rw [block_setCell h.b2]; rfl⟩
theorem Bi.a {w y : World} {i : PI} {d a b : Int} (h : Bi w i d a b y) (v : Int) : Bi w i d v b (y.setCell ⟨w.heap.size + 1 + 1, 3, none⟩ (.int .i64 v)) :=
  ⟨h.q.set (p := ⟨w.heap.size + 1 + 1, 3, none⟩) (by show w.heap.size ≤ w.heap.size + 1 + 1; omega) _, heap_set_other h.b0 (by show w.heap.size ≠ w.heap.size + 1 + 1; omega), heap_set_other h.b1 (by show w.heap.size + 1 ≠ w.heap.size + 1 + 1; omega), by rw [block_setCell h.b2]; rfl⟩
theorem Bi.b {w y : World} {i : PI} {d a b : Int} (h : Bi w i d a b y) (v : Int) : Bi w i d a v (y.setCell ⟨w.heap.size + 1 + 1, 4, none⟩ (.int .i64 v)) :=
  ⟨h.q.set (p := ⟨w.heap.size + 1 + 1, 4, none⟩) (by show w.heap.size ≤ w.heap.size + 1 + 1; omega) _, heap_set_other h.b0 (by show w.heap.size ≠ w.heap.size + 1 + 1; omega), heap_set_other h.b1 (by show w.heap.size + 1 ≠ w.heap.size + 1 + 1; omega), by rw [block_setCell h.b2]; rfl⟩
theorem Bi.c0 {w y : World} {i : PI} {d a b : Int} (h : Bi w i d a b y) : y.cell? ⟨w.heap.size, 0, none⟩ = some (.int .u8 i.op) ∧ y.cell? ⟨w.heap.size, 1, none⟩ = some (.int .u8 i.ty) ∧ y.cell? ⟨w.heap.size, 2, none⟩ = some (.int .i64 i.dst) ∧ y.cell? ⟨w.heap.size, 3, none⟩ = some (.int .i64 i.a) ∧ y.cell? ⟨w.heap.size, 4, none⟩ = some (.int .i64 i.b) ∧ y.cell? ⟨w.heap.size, 5, none⟩ = some (.int .i64 i.imm) ∧ y.cell? ⟨w.heap.size, 6, none⟩ = some (.slice i.aa i.args.length i.ac) :=
  ⟨(cell_of_block h.b0 0).trans rfl, (cell_of_block h.b0 1).trans rfl, (cell_of_block h.b0 2).trans rfl, (cell_of_block h.b0 3).trans rfl, (cell_of_block h.b0 4).trans rfl, (cell_of_block h.b0 5).trans rfl, (cell_of_block h.b0 6).trans rfl⟩
theorem Bi.c2 {w y : World} {i : PI} {d a b : Int} (h : Bi w i d a b y) : y.cell? ⟨w.heap.size + 1 + 1, 0, none⟩ = some (.int .u8 i.op) ∧ y.cell? ⟨w.heap.size + 1 + 1, 1, none⟩ = some (.int .u8 i.ty) ∧ y.cell? ⟨w.heap.size + 1 + 1, 2, none⟩ = some (.int .i64 d) ∧ y.cell? ⟨w.heap.size + 1 + 1, 3, none⟩ = some (.int .i64 a) ∧ y.cell? ⟨w.heap.size + 1 + 1, 4, none⟩ = some (.int .i64 b) ∧ y.cell? ⟨w.heap.size + 1 + 1, 5, none⟩ = some (.int .i64 i.imm) ∧ y.cell? ⟨w.heap.size + 1 + 1, 6, none⟩ = some (.slice none 0 0) ∧ ∀ j, y.frozen? ⟨w.heap.size + 1 + 1, j, none⟩ = false :=
  ⟨(cell_of_block h.b2 0).trans rfl, (cell_of_block h.b2 1).trans rfl, (cell_of_block h.b2 2).trans rfl, (cell_of_block h.b2 3).trans rfl, (cell_of_block h.b2 4).trans rfl, (cell_of_block h.b2 5).trans rfl, (cell_of_block h.b2 6).trans rfl, fun j => free_of_block h.b2 j⟩
theorem Bi.c1 {w y : World} {i : PI} {d a b : Int} (h : Bi w i d a b y) : y.cell? ⟨w.heap.size + 1, 0, none⟩ = some (.int .u8 0) ∧ y.cell? ⟨w.heap.size + 1, 1, none⟩ = some (.int .u8 0) ∧ y.cell? ⟨w.heap.size + 1, 2, none⟩ = some (.int .i64 0) ∧ y.cell? ⟨w.heap.size + 1, 3, none⟩ = some (.int .i64 0) ∧ y.cell? ⟨w.heap.size + 1, 4, none⟩ = some (.int .i64 0) ∧ y.cell? ⟨w.heap.size + 1, 5, none⟩ = some (.int .i64 0) ∧ y.cell? ⟨w.heap.size + 1, 6, none⟩ = some (.slice none 0 0) ∧ ∀ j, y.frozen? ⟨w.heap.size + 1, j, none⟩ = false :=
  ⟨(cell_of_block h.b1 0).trans rfl, (cell_of_block h.b1 1).trans rfl, (cell_of_block h.b1 2).trans rfl, (cell_of_block h.b1 3).trans rfl, (cell_of_block h.b1 4).trans rfl, (cell_of_block h.b1 5).trans rfl, (cell_of_block h.b1 6).trans rfl, fun j => free_of_block h.b1 j⟩

set_option maxRecDepth 100000 in
set_option maxHeartbeats 4000000 in
theorem inReg_any (w : World) (i : PI) (hi : i.ok w) (si : SI i) (base : Int) (h0 : 0 ≤ base) (h1 : base ≤ 1000000000) : Calls Try.prog 85 #[i.v, .int .i64 base] w fun e w' => e = .returned (inReg base i).v ∧ Q w w' := by
  have HN := hideIt (Bi.new w i)
  generalize hB : B3 w i = B at *
  have HB := hideIt hB
  have CD := hideIt (fun X => dst_any i X)
  clear hB
  go_enter Try.func85, Try.ntmps85
  go_wp2_with (fail)
  rw [show ((w.alloc (.cells #[.int .u8 i.op, .int .u8 i.ty, .int .i64 i.dst, .int .i64 i.a, .int .i64 i.b, .int .i64 i.imm, .slice i.aa i.args.length i.ac] 41)).alloc (.cells #[.int .u8 0, .int .u8 0, .int .i64 0, .int .i64 0, .int .i64 0, .int .i64 0, .slice none 0 0] 41)).alloc (.cells #[.int .u8 i.op, .int .u8 i.ty, .int .i64 0, .int .i64 0, .int .i64 0, .int .i64 i.imm, .slice none 0 0] 41) = B from HB.out]
  go_at_call 62
  refine (CD.out _).mono ?_
  rintro e y ⟨rfl, q⟩
  have HY := hideIt (HN.out.keep q)
  clear q
  have CU : Hid (∀ z, Q w z → Calls Try.prog 63 #[i.v] z fun e w' => GotF ([i.a, i.b].take (rdP i.op)) z e w') := fun z hz => by
    have := usesF_any i z (hi.keep hz)
    rw [show usesP i = [i.a, i.b].take (rdP i.op) by unfold usesP; rw [if_neg si.op]] at this
    exact this
  have FIN : Hid (∀ (d a b : Int) (z : World), Bi w i d a b z → d = (if wrP i.op then base + i.dst else 0) → a = (if 0 < rdP i.op then base + i.a else 0) → b = (if 1 < rdP i.op then base + i.b else 0) → Ending.returned (Value.agg #[.int .u8 i.op, .int .u8 i.ty, .int .i64 d, .int .i64 a, .int .i64 b, .int .i64 i.imm, .slice none 0 0]) = .returned (inReg base i).v ∧ Q w z) := fun d a b z hz e1 e2 e3 => by
    subst e1; subst e2; subst e3
    exact ⟨rfl, hz.q⟩
  have hd := si.dst
  have ha := si.a
  have hb := si.b
  clear HN HB CD hi si
  dsimp only
  generalize wrP i.op = wr at *
  have hrd := rd3 i.op
  generalize rdP i.op = rd at *
  have step : ∀ (d : Int) (Y : World), Bi w i d 0 0 Y → d = (if wr = true then base + i.dst else 0) → True := fun _ _ _ _ => trivial
  cases wr
  · obtain ⟨k0, k1, k2, k3, k4, k5, k6⟩ := HY.out.c0
    have HZ := hideIt HY.out
    go_wp2_with (fail)
    rcases hrd with rfl | rfl | rfl
    · go_at_call 63
      refine (CU.out _ HZ.out.q).mono ?_
      rintro e y3 ⟨ao, ac, rfl, hi3, q3, hf3⟩
      have H3 := hideIt (HZ.out.keep q3)
      clear hi3 q3 ha hb k0 k1 k2 k3 k4 k5 k6
      obtain ⟨m0, m1, m2, m3, m4, m5, m6, mf⟩ := H3.out.c2
      clear hf3
      clear mf
      dsimp only [List.take, List.length]
      obtain ⟨r0, r1, r2, r3, r4, r5, r6, rf⟩ := H3.out.c1
      have g0 := rf 0
      have g1 := rf 1
      have g2 := rf 2
      have g3 := rf 3
      have g4 := rf 4
      have g5 := rf 5
      have g6 := rf 6
      clear rf
      have FE := hideIt (FIN.out 0 0 0 _ H3.out (by simp) (by simp) (by simp))
      have qe := (H3.out).q
      have QE := hideIt qe
      clear qe
      go_wp2_with (fail)
      refine bodyPost_ret (v := .agg #[.int .u8 i.op, .int .u8 i.ty, .int .i64 0, .int .i64 0, .int .i64 0, .int .i64 i.imm, .slice none 0 0]) (by simp [results, Try.results85, go_sem, r0, r1, r2, r3, r4, r5, r6]) rfl ⟨FE.out.1, ?_⟩
      iterate 7 refine Q.set ?_ (by show w.heap.size ≤ w.heap.size + 1; omega) _
      exact QE.out
    · go_at_call 63
      refine (CU.out _ HZ.out.q).mono ?_
      rintro e y3 ⟨ao, ac, rfl, hi3, q3, hf3⟩
      have H3 := hideIt (HZ.out.keep q3)
      obtain ⟨ub, uo, rfl, u0, -⟩ := hi3 0 i.a rfl
      have u0' : y3.cell? ⟨ub, uo, none⟩ = some (.int .i64 i.a) := u0
      obtain ⟨ha1, ha2⟩ := ha (by omega)
      have wa : IntKind.i64.wrap (base + i.a) = base + i.a := by rw [IntKind.wrap_i64]; omega
      clear hi3 q3 ha hb k0 k1 k2 k3 k4 k5 k6 u0
      obtain ⟨m0, m1, m2, m3, m4, m5, m6, mf⟩ := H3.out.c2
      have hub : ub ≠ w.heap.size + 1 + 1 := fun e => by have h1 := hf3 ub uo rfl; have h2 := (Array.getElem?_eq_some_iff.1 HZ.out.b2).1; omega
      clear hf3
      clear hub
      have mf3 := mf 3
      clear mf
      dsimp only [List.take, List.length]
      obtain ⟨r0, r1, r2, r3, r4, r5, r6, rf⟩ := H3.out.c1
      have g0 := rf 0
      have g1 := rf 1
      have g2 := rf 2
      have g3 := rf 3
      have g4 := rf 4
      have g5 := rf 5
      have g6 := rf 6
      clear rf
      have FE := hideIt (FIN.out 0 (base + i.a) 0 _ (H3.out.a (base + i.a)) (by simp) (by simp) (by simp))
      have qe := ((H3.out.a (base + i.a))).q
      have QE := hideIt qe
      clear qe
      go_wp2_with (fail)
      refine bodyPost_ret (v := .agg #[.int .u8 i.op, .int .u8 i.ty, .int .i64 0, .int .i64 (base + i.a), .int .i64 0, .int .i64 i.imm, .slice none 0 0]) (by simp [results, Try.results85, go_sem, r0, r1, r2, r3, r4, r5, r6]) rfl ⟨FE.out.1, ?_⟩
      iterate 7 refine Q.set ?_ (by show w.heap.size ≤ w.heap.size + 1; omega) _
      exact QE.out
    · go_at_call 63
      refine (CU.out _ HZ.out.q).mono ?_
      rintro e y3 ⟨ao, ac, rfl, hi3, q3, hf3⟩
      have H3 := hideIt (HZ.out.keep q3)
      obtain ⟨ub, uo, rfl, u0, -⟩ := hi3 0 i.a rfl
      have u0' : y3.cell? ⟨ub, uo, none⟩ = some (.int .i64 i.a) := u0
      obtain ⟨ha1, ha2⟩ := ha (by omega)
      have wa : IntKind.i64.wrap (base + i.a) = base + i.a := by rw [IntKind.wrap_i64]; omega
      obtain ⟨ub1, uo1, eu, u1, -⟩ := hi3 1 i.b rfl
      injection eu with eu
      injection eu with eu1 eu2
      subst eu1; subst eu2
      have u1' : y3.cell? ⟨ub, uo + 1, none⟩ = some (.int .i64 i.b) := u1
      obtain ⟨hb1, hb2⟩ := hb (by omega)
      have wb : IntKind.i64.wrap (base + i.b) = base + i.b := by rw [IntKind.wrap_i64]; omega
      clear hi3 q3 ha hb k0 k1 k2 k3 k4 k5 k6 u0 u1
      obtain ⟨m0, m1, m2, m3, m4, m5, m6, mf⟩ := H3.out.c2
      have hub : ub ≠ w.heap.size + 1 + 1 := fun e => by have h1 := hf3 ub uo rfl; have h2 := (Array.getElem?_eq_some_iff.1 HZ.out.b2).1; omega
      clear hf3
      have u1'' := fun v => set_cell_ne (u := v) (p := ⟨w.heap.size + 1 + 1, 3, none⟩) u1' (fun e => hub (by injection e))
      clear hub
      have mf3 := mf 3
      have mf4 := mf 4
      clear mf
      dsimp only [List.take, List.length]
      obtain ⟨r0, r1, r2, r3, r4, r5, r6, rf⟩ := H3.out.c1
      have g0 := rf 0
      have g1 := rf 1
      have g2 := rf 2
      have g3 := rf 3
      have g4 := rf 4
      have g5 := rf 5
      have g6 := rf 6
      clear rf
      have FE := hideIt (FIN.out 0 (base + i.a) (base + i.b) _ ((H3.out.a (base + i.a)).b (base + i.b)) (by simp) (by simp) (by simp))
      have qe := (((H3.out.a (base + i.a)).b (base + i.b))).q
      have QE := hideIt qe
      clear qe
      go_wp2_with (fail)
      refine bodyPost_ret (v := .agg #[.int .u8 i.op, .int .u8 i.ty, .int .i64 0, .int .i64 (base + i.a), .int .i64 (base + i.b), .int .i64 i.imm, .slice none 0 0]) (by simp [results, Try.results85, go_sem, r0, r1, r2, r3, r4, r5, r6]) rfl ⟨FE.out.1, ?_⟩
      iterate 7 refine Q.set ?_ (by show w.heap.size ≤ w.heap.size + 1; omega) _
      exact QE.out
  · obtain ⟨hd1, hd2⟩ := hd rfl
    have wd : IntKind.i64.wrap (base + i.dst) = base + i.dst := by rw [IntKind.wrap_i64]; omega
    obtain ⟨k0, k1, k2, k3, k4, k5, k6⟩ := HY.out.c0
    obtain ⟨m0, m1, m2, m3, m4, m5, m6, mf⟩ := HY.out.c2
    have mf2 := mf 2
    clear mf hd
    have HZ := hideIt (HY.out.d (base + i.dst))
    generalize hY2 : y.setCell ⟨w.heap.size + 1 + 1, 2, none⟩ (.int .i64 (base + i.dst)) = Y2 at HZ
    have HYY := hideIt hY2
    clear hY2
    go_wp2_with (fail)
    rw [show y.setCell ⟨w.heap.size + 1 + 1, 2, none⟩ (.int .i64 (base + i.dst)) = Y2 from HYY.out]
    clear k0 k1 k2 k3 k4 k5 k6 m0 m1 m2 m3 m4 m5 m6 mf2
    obtain ⟨k0, k1, k2, k3, k4, k5, k6⟩ := HZ.out.c0
    go_wp2_with (fail)
    rcases hrd with rfl | rfl | rfl
    · go_at_call 63
      refine (CU.out _ HZ.out.q).mono ?_
      rintro e y3 ⟨ao, ac, rfl, hi3, q3, hf3⟩
      have H3 := hideIt (HZ.out.keep q3)
      clear hi3 q3 ha hb k0 k1 k2 k3 k4 k5 k6
      obtain ⟨m0, m1, m2, m3, m4, m5, m6, mf⟩ := H3.out.c2
      clear hf3
      clear mf
      dsimp only [List.take, List.length]
      obtain ⟨r0, r1, r2, r3, r4, r5, r6, rf⟩ := H3.out.c1
      have g0 := rf 0
      have g1 := rf 1
      have g2 := rf 2
      have g3 := rf 3
      have g4 := rf 4
      have g5 := rf 5
      have g6 := rf 6
      clear rf
      have FE := hideIt (FIN.out (base + i.dst) 0 0 _ H3.out (by simp) (by simp) (by simp))
      have qe := (H3.out).q
      have QE := hideIt qe
      clear qe
      go_wp2_with (fail)
      refine bodyPost_ret (v := .agg #[.int .u8 i.op, .int .u8 i.ty, .int .i64 (base + i.dst), .int .i64 0, .int .i64 0, .int .i64 i.imm, .slice none 0 0]) (by simp [results, Try.results85, go_sem, r0, r1, r2, r3, r4, r5, r6]) rfl ⟨FE.out.1, ?_⟩
      iterate 7 refine Q.set ?_ (by show w.heap.size ≤ w.heap.size + 1; omega) _
      exact QE.out
    · go_at_call 63
      refine (CU.out _ HZ.out.q).mono ?_
      rintro e y3 ⟨ao, ac, rfl, hi3, q3, hf3⟩
      have H3 := hideIt (HZ.out.keep q3)
      obtain ⟨ub, uo, rfl, u0, -⟩ := hi3 0 i.a rfl
      have u0' : y3.cell? ⟨ub, uo, none⟩ = some (.int .i64 i.a) := u0
      obtain ⟨ha1, ha2⟩ := ha (by omega)
      have wa : IntKind.i64.wrap (base + i.a) = base + i.a := by rw [IntKind.wrap_i64]; omega
      clear hi3 q3 ha hb k0 k1 k2 k3 k4 k5 k6 u0
      obtain ⟨m0, m1, m2, m3, m4, m5, m6, mf⟩ := H3.out.c2
      have hub : ub ≠ w.heap.size + 1 + 1 := fun e => by have h1 := hf3 ub uo rfl; have h2 := (Array.getElem?_eq_some_iff.1 HZ.out.b2).1; omega
      clear hf3
      clear hub
      have mf3 := mf 3
      clear mf
      dsimp only [List.take, List.length]
      obtain ⟨r0, r1, r2, r3, r4, r5, r6, rf⟩ := H3.out.c1
      have g0 := rf 0
      have g1 := rf 1
      have g2 := rf 2
      have g3 := rf 3
      have g4 := rf 4
      have g5 := rf 5
      have g6 := rf 6
      clear rf
      have FE := hideIt (FIN.out (base + i.dst) (base + i.a) 0 _ (H3.out.a (base + i.a)) (by simp) (by simp) (by simp))
      have qe := ((H3.out.a (base + i.a))).q
      have QE := hideIt qe
      clear qe
      go_wp2_with (fail)
      refine bodyPost_ret (v := .agg #[.int .u8 i.op, .int .u8 i.ty, .int .i64 (base + i.dst), .int .i64 (base + i.a), .int .i64 0, .int .i64 i.imm, .slice none 0 0]) (by simp [results, Try.results85, go_sem, r0, r1, r2, r3, r4, r5, r6]) rfl ⟨FE.out.1, ?_⟩
      iterate 7 refine Q.set ?_ (by show w.heap.size ≤ w.heap.size + 1; omega) _
      exact QE.out
    · go_at_call 63
      refine (CU.out _ HZ.out.q).mono ?_
      rintro e y3 ⟨ao, ac, rfl, hi3, q3, hf3⟩
      have H3 := hideIt (HZ.out.keep q3)
      obtain ⟨ub, uo, rfl, u0, -⟩ := hi3 0 i.a rfl
      have u0' : y3.cell? ⟨ub, uo, none⟩ = some (.int .i64 i.a) := u0
      obtain ⟨ha1, ha2⟩ := ha (by omega)
      have wa : IntKind.i64.wrap (base + i.a) = base + i.a := by rw [IntKind.wrap_i64]; omega
      obtain ⟨ub1, uo1, eu, u1, -⟩ := hi3 1 i.b rfl
      injection eu with eu
      injection eu with eu1 eu2
      subst eu1; subst eu2
      have u1' : y3.cell? ⟨ub, uo + 1, none⟩ = some (.int .i64 i.b) := u1
      obtain ⟨hb1, hb2⟩ := hb (by omega)
      have wb : IntKind.i64.wrap (base + i.b) = base + i.b := by rw [IntKind.wrap_i64]; omega
      clear hi3 q3 ha hb k0 k1 k2 k3 k4 k5 k6 u0 u1
      obtain ⟨m0, m1, m2, m3, m4, m5, m6, mf⟩ := H3.out.c2
      have hub : ub ≠ w.heap.size + 1 + 1 := fun e => by have h1 := hf3 ub uo rfl; have h2 := (Array.getElem?_eq_some_iff.1 HZ.out.b2).1; omega
      clear hf3
      have u1'' := fun v => set_cell_ne (u := v) (p := ⟨w.heap.size + 1 + 1, 3, none⟩) u1' (fun e => hub (by injection e))
      clear hub
      have mf3 := mf 3
      have mf4 := mf 4
      clear mf
      dsimp only [List.take, List.length]
      obtain ⟨r0, r1, r2, r3, r4, r5, r6, rf⟩ := H3.out.c1
      have g0 := rf 0
      have g1 := rf 1
      have g2 := rf 2
      have g3 := rf 3
      have g4 := rf 4
      have g5 := rf 5
      have g6 := rf 6
      clear rf
      have FE := hideIt (FIN.out (base + i.dst) (base + i.a) (base + i.b) _ ((H3.out.a (base + i.a)).b (base + i.b)) (by simp) (by simp) (by simp))
      have qe := (((H3.out.a (base + i.a)).b (base + i.b))).q
      have QE := hideIt qe
      clear qe
      go_wp2_with (fail)
      refine bodyPost_ret (v := .agg #[.int .u8 i.op, .int .u8 i.ty, .int .i64 (base + i.dst), .int .i64 (base + i.a), .int .i64 (base + i.b), .int .i64 i.imm, .slice none 0 0]) (by simp [results, Try.results85, go_sem, r0, r1, r2, r3, r4, r5, r6]) rfl ⟨FE.out.1, ?_⟩
      iterate 7 refine Q.set ?_ (by show w.heap.size ≤ w.heap.size + 1; omega) _
      exact QE.out

end Go.Proofs.Ytnaflfpkkbfnfaa.In
