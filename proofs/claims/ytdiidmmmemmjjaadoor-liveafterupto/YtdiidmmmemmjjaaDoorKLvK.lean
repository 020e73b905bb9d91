/-
  Where a register stands (place, bit of live), and what a part reads is noted (read): contracts over the program; the conditions: the walk lies in memory, and there is that register.
  The registers that an instruction reads (Uses of ir) come in new memory: a contract over the program; the conditions: the instruction lies in memory. Written by tools/genlvi.py.
  The parts at which a part may go on (ways of live): a contract over the program; no conditions but the part's numbers' bounds.
  What a part reads and writes is noted (look of live): a contract over the program; the conditions: the walk lies in memory behind the code, and the part's registers are some of the function's.
-/
import Derived.Test.YtdiidmmmemmjjaaDoorKLvG
import Derived.Test.YtdiidmmmemmjjaaDoorKIrP
namespace Go.Proofs.YtdiidmmmemmjjaaDoor.Lv
open Go.RowKit
set_option linter.unusedVariables false

def bitN (r : Nat) : Int := ((2 ^ (r % 64) : Nat) : Int)
theorem and63 (r : Nat) : bits .and .i64 (r : Int) 63 = ((r % 64 : Nat) : Int) := by
  have d : bits .and .i64 (r : Int) 63 = IntKind.i64.wrap (((BitVec.ofInt 64 (r : Int) &&& BitVec.ofInt 64 63).toNat : Nat) : Int) := rfl
  have e : (BitVec.ofInt 64 63).toNat = 63 := by decide
  have e2 : ∀ x : Nat, x &&& 63 = x % 64 := fun x => Nat.and_two_pow_sub_one_eq_mod x 6
  rw [d, BitVec.toNat_and, e, e2, BitVec.toNat_ofInt, IntKind.wrap_i64]
  omega
theorem shl1 (n : Nat) (h : n < 64) : IntKind.u64.wrap (2 ^ n) = ((2 ^ n : Nat) : Int) := by
  have h1 : 2 ^ n < 2 ^ 64 := Nat.pow_lt_pow_right (by omega) h
  have h2 : (2 : Int) ^ n = ((2 ^ n : Nat) : Int) := by push_cast; rfl
  rw [h2]
  generalize 2 ^ n = m at *
  rw [IntKind.wrap_u64]
  omega

set_option maxRecDepth 100000 in
set_option maxHeartbeats 2000000 in
theorem place_any (w : World) (r : Nat) : Calls Tryd.prog 42 #[.int .i64 (r : Int)] w fun e w' => e = .returned (.int .i64 ((r / 64 : Nat) : Int)) ∧ w' = w := by
  go_enter Tryd.func42, Tryd.ntmps42
  go_wp2_with (fail)
  go_ret
  exact ⟨by simp, rfl⟩

set_option maxRecDepth 100000 in
set_option maxHeartbeats 2000000 in
theorem bit_any (w : World) (r : Nat) : Calls Tryd.prog 38 #[.int .i64 (r : Int)] w fun e w' => e = .returned (.int .u64 (bitN r)) ∧ w' = w := by
  have e1 := and63 r
  have E2 := hideIt (shl1 (r % 64) (by omega))
  have h1 : r % 64 < 64 := by omega
  unfold bitN
  generalize r % 64 = n at *
  go_enter Tryd.func38, Tryd.ntmps38
  go_wp2_with (fail)
  go_ret
  exact ⟨by rw [E2.out]; rfl, rfl⟩

/-- What a step of looking leaves as it was. -/
structure Kp (B : Bl) (many words : Nat) (w : World) (v : Vs) (w' : World) (v' : Vs) : Prop where
  size : w.heap.size ≤ w'.heap.size
  own : ∀ m, okN many words m → ∀ b, (v' m).ownBlock = some b → (v m).ownBlock = some b ∨ w.heap.size ≤ b
  blk : ∀ b, b < w.heap.size → ¬ B.isB b → (∀ m, okN many words m → (v m).ownBlock ≠ some b) → w'.heap[b]? = w.heap[b]?
section
variable {B : Bl} {many words : Nat} {w w1 w2 : World} {v v1 v2 : Vs}
theorem Kp.refl : Kp B many words w v w v := ⟨Nat.le_refl _, fun _ _ _ h => Or.inl h, fun _ _ _ _ => rfl⟩
theorem Kp.trans (h : Kp B many words w v w1 v1) (k : Kp B many words w1 v1 w2 v2) : Kp B many words w v w2 v2 := ⟨Nat.le_trans h.size k.size, fun m hm b hb => by
  rcases k.own m hm b hb with q | q
  · exact h.own m hm b q
  · exact Or.inr (Nat.le_trans h.size q), fun b hb hB ho => (k.blk b (Nat.lt_of_lt_of_le hb h.size) hB (fun m hm e => by
    rcases h.own m hm b e with q | q
    · exact ho m hm q
    · omega)).trans (h.blk b hb hB ho)⟩
theorem Kp.q (q : Q w w1) : Kp B many words w v w1 v := ⟨q.size, fun _ _ _ h => Or.inl h, fun b hb _ _ => q.block b hb⟩
theorem Kp.push {m : Nm} {nv : Value} (hm : okN many words m) (c : Fc B m (v m) w w1) (h : ∀ b, nv.ownBlock = some b → (v m).ownBlock = some b ∨ w.heap.size ≤ b) : Kp B many words w v w1 (upd v m nv) := ⟨c.size, fun m' hm' b hb => by
  by_cases e : m' = m
  · subst e; rw [upd_same] at hb; exact h b hb
  · rw [upd_other _ _ e] at hb; exact Or.inl hb, fun b hb hB ho => c.block b hb (fun e => hB (by rw [e]; exact hb_is B m)) (ho m hm)⟩
end

/-- What a part reads is noted. -/
noncomputable def readE (es : Es) (p r : Nat) : Es := if bits .and .u64 (lastOf (es (.wt (r / 64))) p) (bitN r) = 0 then upd es (.rd (r / 64)) (pushL (es (.rd (r / 64))) ((p : Int), bitN r)) else es

set_option maxRecDepth 100000 in
set_option maxHeartbeats 2000000 in
theorem read_any (w : World) (base : Nat) (B : Bl) (many words : Nat) (v : Vs) (es : Es) (wo : List Int) (h : WM w base B many words v es wo) (hbase : base ≤ w.heap.size) (p r : Nat) (hr : r / 64 < words) (hl1 : (es (.rd (r / 64))).length ≤ 1099511627775) (hl2 : (es (.wt (r / 64))).length ≤ 1099511627775) :
    Calls Tryd.prog 61 #[.pointer (some ⟨B.Wk, 0, none⟩), .int .i64 (p : Int), .int .i64 (r : Int)] w fun e w' => e = .returned (.tuple #[]) ∧ (∃ v', WM w' base B many words v' (readE es p r) wo ∧ Kp B many words w v w' v') ∧ Below base w w' := by
  obtain ⟨va, vc, ev⟩ := own_form (h.fm.row (.wt (r / 64)) hr)
  have LA : Hid (Calls Tryd.prog 47 #[.slice va (es (.wt (r / 64))).length vc, .int .i64 (p : Int)] w fun e w' => e = .returned (.int .u64 (lastOf (es (.wt (r / 64))) p)) ∧ w' = w) := by
    rw [← ev]
    exact last_any w base (v (.wt (r / 64))) (.wt (r / 64)) rfl _ (h.fm.row (.wt (r / 64)) hr) (by omega) p
  have PL := hideIt (fun w => place_any w r)
  have BI := hideIt (fun w => bit_any w r)
  have PU : Hid (∀ X, Q w X → Calls Tryd.prog 62 #[.pointer (some ⟨B.Rd, ((r / 64 : Nat)), none⟩), .agg #[.int .i64 (p : Int), .int .u64 (bitN r)]] X fun e w' => e = .returned (.bool (newP (es (.rd (r / 64))) (p, bitN r))) ∧ (∃ v', WM w' base B many words v' (upd es (.rd (r / 64)) (pushL (es (.rd (r / 64))) ((p : Int), bitN r))) wo ∧ Kp B many words w v w' v') ∧ Below base w w') := fun X q => by
    have HX := h.q q
    have hm : okN many words (.rd (r / 64)) := hr
    have hb : base ≤ X.heap.size := Nat.le_trans hbase q.size
    exact (push_any X base B many words v es HX.fm hb (.rd (r / 64)) hm rfl hl1 (p, bitN r)).mono fun e w' ⟨e1, nv, e2, e3, e4⟩ => ⟨e1, ⟨_, HX.fc hm e2 e3, (Kp.q q).trans (Kp.push hm e3 e4)⟩, Below.trans ⟨q.os, q.tape, q.output, q.size, fun b hb => q.block b (by omega)⟩ (HX.below hm e3 hb)⟩
  have RF : Hid ((∃ v', WM w base B many words v' es wo ∧ Kp B many words w v w v') ∧ Below base w w) := ⟨⟨v, h, Kp.refl⟩, Below.refl _ _⟩
  have c1 := h.c1
  have c2 := h.c2
  have cw : w.cell? ⟨B.Wt, r / 64, none⟩ = some (.slice va (es (.wt (r / 64))).length vc) := by have := (h.fm.head (.wt (r / 64)) hr).1; rw [ev] at this; exact this
  have hrl : ((r / 64 : Nat) : Int) < (words : Int) := by omega
  clear h ev
  unfold readE
  generalize r / 64 = a at *
  by_cases hz : bits .and .u64 (lastOf (es (.wt a)) p) (bitN r) = 0
  · have hz1 : (bits .and .u64 (lastOf (es (.wt a)) p) (bitN r) == 0) = true := by simpa using hz
    rw [if_pos hz]
    clear hz
    go_enter Tryd.func61, Tryd.ntmps61
    go_wp2_with (first | (go_at_call 42; refine (PL.out _).mono ?_; rintro e y ⟨rfl, rfl⟩) | (go_at_call 47; refine LA.out.mono ?_; rintro e y ⟨rfl, rfl⟩) | (go_at_call 38; refine (BI.out _).mono ?_; rintro e y ⟨rfl, rfl⟩) | fail)
    go_region_with (first | (go_at_call 38; refine (BI.out _).mono ?_; rintro e y ⟨rfl, rfl⟩) | (go_at_call 62; refine Calls.mono (PU.out _ (by first | exact Q.refl _ | exact (Q.refl _).drew | exact (Q.refl _).drewN _)) ?_; rintro e y ⟨rfl, hy, qy⟩; have HY := hideIt hy; have QY := hideIt qy; clear hy qy))
    all_goals go_wp2_with (fail)
    all_goals go_end0
    all_goals exact ⟨rfl, HY.out, QY.out⟩
  · have hz1 : (bits .and .u64 (lastOf (es (.wt a)) p) (bitN r) == 0) = false := by simpa using hz
    rw [if_neg hz]
    clear hz
    go_enter Tryd.func61, Tryd.ntmps61
    go_wp2_with (first | (go_at_call 42; refine (PL.out _).mono ?_; rintro e y ⟨rfl, rfl⟩) | (go_at_call 47; refine LA.out.mono ?_; rintro e y ⟨rfl, rfl⟩) | (go_at_call 38; refine (BI.out _).mono ?_; rintro e y ⟨rfl, rfl⟩) | fail)
    go_end0
    exact ⟨rfl, RF.out.1, RF.out.2⟩

end Go.Proofs.YtdiidmmmemmjjaaDoor.Lv

namespace Go.Proofs.YtdiidmmmemmjjaaDoor
open Go.RowKit
set_option linter.unusedVariables false

/-- A list of numbers that came, in new memory. -/
def GotF (L : List Int) (w : World) (e : Ending) (w' : World) : Prop := ∃ ao c, e = .returned (.slice ao L.length c) ∧ Ints w' ao L ∧ Q w w' ∧ ∀ b o, ao = some ⟨b, o, none⟩ → w.heap.size ≤ b
theorem listIntsF_any (w : World) (ao : Option Addr) (c : Nat) (l : List Int) (hs : sok 8 ao l.length c) (hl : Ints w ao l) : Calls Tryd.prog 54 #[.slice ao l.length c] w fun e w' => GotF l w e w' := by
  refine (listInt_any w ao l.length c (l.map (Value.int .i64)) hs (by simp) (ints_src hl) mem_one).mono fun e w' h => ?_
  rcases h with ⟨rfl, rfl, rfl⟩ | ⟨_, rfl, hh, q⟩
  · have : l.length = 0 := by have := hs.1; have := hs.2.2.1 rfl; omega
    exact ⟨none, 0, by rw [this], hl, Q.refl _, fun b o e => by cases e⟩
  · exact ⟨_, _, rfl, ints_block hh (ints_bound hl), q, fun b o e => by injection e with e; injection e with e1 e2; omega⟩

theorem list2F_any (Y : World) (g : Nat) (a b : Int) (n : Nat) (hn : n ≤ 2) (ha : I64 a) (hb : I64 b) (hg : Y.heap[g]? = some (.cells #[.int .i64 a, .int .i64 b] 3 (0, 0))) : Calls Tryd.prog 54 #[.slice (some ⟨g, 0, none⟩) n 2] Y fun e w' => GotF ([a, b].take n) Y e w' := by
  have e : ([a, b].take n).length = n := by simp; omega
  have h2 : Ints Y (some ⟨g, 0, none⟩) [a, b] := ints_block hg (fun x hx => by simp at hx; rcases hx with rfl | rfl <;> assumption)
  have h := listIntsF_any Y (some ⟨g, 0, none⟩) 2 ([a, b].take n) ⟨by omega, by decide, (fun h => by cases h), by omega⟩ (fun k x hk => h2 k x (by
    rw [List.getElem?_take] at hk
    split at hk
    · exact hk
    · cases hk))
  rw [e] at h
  exact h

set_option maxRecDepth 100000 in
set_option maxHeartbeats 1000000 in
theorem usesF_any (x : PI) (w : World) (hx : x.ok w) : Calls Tryd.prog 34 #[x.v] w fun e w' => GotF (usesP x) w e w' := by
  have HB := hideIt (fun w' (h : Q (bxI w x) w') => (bxI_at h).seven)
  have q := hideIt (bxI_q w x)
  have C32 := hideIt (listIntsF_any (bxI w x) x.aa x.ac x.args hx.sok (hx.args.keep (bxI_q w x)))
  have CR := hideIt (fun X => reads_any x.op X)
  have CL := hideIt (fun n (hn : n ≤ 2) X g hg => list2F_any X g x.a x.b n hn hx.a hx.b hg)
  clear hx
  unfold usesP
  have hle := rdP_le x.op
  rcases x with ⟨op, ty, d, a, b, im, args, aa, ac⟩
  dsimp only [PI.v, bxI] at *
  by_cases h32 : op = 32
  · subst h32
    rw [if_pos rfl]
    clear CR CL hle
    go_enter Tryd.func34, Tryd.ntmps34
    go_wp2_with (first | (go_at_call 54; refine C32.out.mono ?_; rintro e y ⟨ao, c, rfl, hi, hq, hf⟩; have HFR := hideIt hf; have HI := hideIt hi; have HQ := hideIt hq; clear hi hq hf) | fail)
    go_ret
    exact ⟨ao, c, rfl, HI.out, q.out.trans HQ.out, fun b o e => Nat.le_trans q.out.size (HFR.out b o e)⟩
  · rw [if_neg h32]
    generalize rdP op = n at *
    have CL := hideIt (fun X g hg => CL.out n hle X g hg)
    generalize hBe : w.alloc (.cells #[.int .u8 op, .int .u8 ty, .int .i64 d, .int .i64 a, .int .i64 b, .int .i64 im, .slice aa args.length ac] 57) = B at *
    have hF : Hid (∀ y, Q B y → y.cell? ⟨w.heap.size, 0, none⟩ = some (.int .u8 op) ∧ y.cell? ⟨w.heap.size, 3, none⟩ = some (.int .i64 a) ∧ y.cell? ⟨w.heap.size, 4, none⟩ = some (.int .i64 b)) := fun y h => ⟨(HB.out y h).1, (HB.out y h).2.2.2.1, (HB.out y h).2.2.2.2.1⟩
    have hB := hF.out B (Q.refl B)
    obtain ⟨b0, b1, b2⟩ := hB
    clear C32 HB
    obtain rfl | rfl | rfl : n = 0 ∨ n = 1 ∨ n = 2 := by omega
    all_goals
      clear hle
      go_enter Tryd.func34, Tryd.ntmps34
      go_wp2_with (fail)
      (try rw [hBe])
      refine wp_region_held_drew (S := (fun y : World => Q B y ∧ y.cell? ⟨w.heap.size, 0, none⟩ = some (.int .u8 op) ∧ y.cell? ⟨w.heap.size, 3, none⟩ = some (.int .i64 a) ∧ y.cell? ⟨w.heap.size, 4, none⟩ = some (.int .i64 b))) (by kernel_rfl) (⟨(Q.refl B).drew, hF.out _ (Q.refl B).drew⟩) (fun hHeld => ?_)
      refine wpAnyH_take (i := 0) (oi := ⟨_, _, _, _, _, _⟩) (v := ?_) rfl (by kernel_rfl) (by kernel_rfl) (by kernel_rfl) (fun _ _ _ h => h) (Or.inl ⟨by rfl, ?_⟩) (by assumption) ?_
      rotate_left 1
      · intro w hSw; (try dsimp only at hSw); go_simp; all_goals with_reducible rfl
      try simp only [Act.put, List.setIfInBounds_toArray, List.set_cons_zero, List.set_cons_succ]
      refine wpAnyH_take (i := 1) (oi := ⟨_, _, _, _, _, _⟩) (v := ?_) rfl (by kernel_rfl) (by kernel_rfl) (by kernel_rfl) (fun _ _ _ h => h) (Or.inl ⟨by rfl, ?_⟩) (by assumption) ?_
      rotate_left 1
      · intro w hSw; (try dsimp only at hSw); go_simp; all_goals with_reducible rfl
      try simp only [Act.put, List.setIfInBounds_toArray, List.set_cons_zero, List.set_cons_succ]
      refine wpAnyH_take (i := 2) (oi := ⟨_, _, _, _, _, _⟩) (v := ?_) rfl (by kernel_rfl) (by kernel_rfl) (by kernel_rfl) (fun _ _ _ h => h) (Or.inl ⟨by rfl, ?_⟩) (by assumption) ?_
      rotate_left 1
      · intro w hSw; (try dsimp only at hSw); go_simp; all_goals with_reducible rfl
      try simp only [Act.put, List.setIfInBounds_toArray, List.set_cons_zero, List.set_cons_succ]
      refine wpAnyH_take (i := 3) (oi := ⟨_, _, _, _, _, _⟩) (v := ?_) rfl (by kernel_rfl) (by kernel_rfl) (by kernel_rfl) (fun _ _ _ h => h) (Or.inl ⟨by rfl, ?_⟩) (by assumption) ?_
      rotate_left 1
      · intro w hSw; (try dsimp only at hSw); go_simp; all_goals with_reducible rfl
      try simp only [Act.put, List.setIfInBounds_toArray, List.set_cons_zero, List.set_cons_succ]
      refine wpAnyH_take (i := 5) (oi := ⟨_, _, _, _, _, _⟩) (v := ?_) rfl (by kernel_rfl) (by kernel_rfl) (by kernel_rfl) (fun _ _ _ h => h) (Or.inl ⟨by rfl, ?_⟩) (by assumption) ?_
      rotate_left 1
      · intro w hSw; (try dsimp only at hSw); go_simp; all_goals with_reducible rfl
      try simp only [Act.put, List.setIfInBounds_toArray, List.set_cons_zero, List.set_cons_succ]
      refine wpAnyH_take (i := 6) (oi := ⟨_, _, _, _, _, _⟩) (v := ?_) rfl (by kernel_rfl) (by kernel_rfl) (by kernel_rfl) (fun _ _ _ h => h) (Or.inl ⟨by rfl, ?_⟩) (by assumption) ?_
      rotate_left 1
      · intro w hSw; (try dsimp only at hSw); go_simp; all_goals with_reducible rfl
      try simp only [Act.put, List.setIfInBounds_toArray, List.set_cons_zero, List.set_cons_succ]
      refine wpAnyH_ready (rs := [4, 7]) (by kernel_rfl) (by simp) (AllReadyH.cons (o := ⟨_, _, _, _, _, _⟩) rfl (fun K hK => ?_) (AllReadyH.cons (o := ⟨_, _, _, _, _, _⟩) rfl (fun K hK => ?_) AllReadyH.nil))
      · go_simp
        skip
        refine hK.out _ _ ?_ (fun hHeld => ?_)
        · exact ⟨hHeld.1.alloc _, hF.out _ (hHeld.1.alloc _)⟩
        clear hK K
        try simp only [Act.put, List.setIfInBounds_toArray, List.set_cons_zero, List.set_cons_succ]
        refine wpAnyH_ready (rs := [7]) (by kernel_rfl) (by simp) (AllReadyH.cons (o := ⟨_, _, _, _, _, _⟩) rfl (fun K hK => ?_) AllReadyH.nil)
        go_simp
        go_at_call 55; refine (CR.out _).mono ?_; rintro e y ⟨rfl, rfl⟩
        refine hK.out _ _ ?_ (fun hHeld => ?_)
        · exact hHeld
        clear hK K
        try simp only [Act.put, List.setIfInBounds_toArray, List.set_cons_zero, List.set_cons_succ]
        refine wpAnyH_take (i := 8) (oi := ⟨_, _, _, _, _, _⟩) (v := ?_) rfl (by kernel_rfl) (by kernel_rfl) (by kernel_rfl) (fun _ _ _ h => h) (Or.inl ⟨by rfl, ?_⟩) (by assumption) ?_
        rotate_left 1
        · intro w hSw; (try dsimp only at hSw); go_simp; all_goals with_reducible rfl
        try simp only [Act.put, List.setIfInBounds_toArray, List.set_cons_zero, List.set_cons_succ]
        refine wpAnyH_ready (rs := [9]) (by kernel_rfl) (by simp) (AllReadyH.cons (o := ⟨_, _, _, _, _, _⟩) rfl (fun K hK => ?_) AllReadyH.nil)
        go_simp
        go_at_call 54; refine (CL.out ((B.alloc (.cells #[.int .i64 a, .int .i64 b] 3)).drew) B.heap.size (heap_new B _)).mono ?_; rintro e y ⟨ao, c, rfl, hi, hq, hf⟩; have HFR := hideIt hf; have HI := hideIt hi; have HQ := hideIt hq; have hq2 := hHeld.1.trans hq; clear hi hq hf
        refine hK.out _ _ ?_ (fun hHeld => ?_)
        · exact ⟨hq2, hF.out _ hq2⟩
        clear hK K
        try simp only [Act.put, List.setIfInBounds_toArray, List.set_cons_zero, List.set_cons_succ]
        refine wpAnyH_take (i := 10) (oi := ⟨_, _, _, _, _, _⟩) (v := ?_) rfl (by kernel_rfl) (by kernel_rfl) (by kernel_rfl) (fun _ _ _ h => h) (Or.inl ⟨by rfl, ?_⟩) (by assumption) ?_
        rotate_left 1
        · intro w hSw; (try dsimp only at hSw); go_simp; all_goals with_reducible rfl
        try simp only [Act.put, List.setIfInBounds_toArray, List.set_cons_zero, List.set_cons_succ]
        refine wpAnyH_done (by kernel_rfl) ?_ _
        go_wp2
        go_ret
        exact ⟨_, _, rfl, HI.out, q.out.trans hHeld.1, fun b o e => Nat.le_trans q.out.size (Nat.le_trans (by simp) (HFR.out b o e))⟩
      · go_simp
        go_at_call 55; refine (CR.out _).mono ?_; rintro e y ⟨rfl, rfl⟩
        refine hK.out _ _ ?_ (fun hHeld => ?_)
        · exact hHeld
        clear hK K
        try simp only [Act.put, List.setIfInBounds_toArray, List.set_cons_zero, List.set_cons_succ]
        refine wpAnyH_ready (rs := [4]) (by kernel_rfl) (by simp) (AllReadyH.cons (o := ⟨_, _, _, _, _, _⟩) rfl (fun K hK => ?_) AllReadyH.nil)
        go_simp
        skip
        refine hK.out _ _ ?_ (fun hHeld => ?_)
        · exact ⟨hHeld.1.alloc _, hF.out _ (hHeld.1.alloc _)⟩
        clear hK K
        try simp only [Act.put, List.setIfInBounds_toArray, List.set_cons_zero, List.set_cons_succ]
        refine wpAnyH_take (i := 8) (oi := ⟨_, _, _, _, _, _⟩) (v := ?_) rfl (by kernel_rfl) (by kernel_rfl) (by kernel_rfl) (fun _ _ _ h => h) (Or.inl ⟨by rfl, ?_⟩) (by assumption) ?_
        rotate_left 1
        · intro w hSw; (try dsimp only at hSw); go_simp; all_goals with_reducible rfl
        try simp only [Act.put, List.setIfInBounds_toArray, List.set_cons_zero, List.set_cons_succ]
        refine wpAnyH_ready (rs := [9]) (by kernel_rfl) (by simp) (AllReadyH.cons (o := ⟨_, _, _, _, _, _⟩) rfl (fun K hK => ?_) AllReadyH.nil)
        go_simp
        go_at_call 54; refine (CL.out ((B.alloc (.cells #[.int .i64 a, .int .i64 b] 3)).drew) B.heap.size (heap_new B _)).mono ?_; rintro e y ⟨ao, c, rfl, hi, hq, hf⟩; have HFR := hideIt hf; have HI := hideIt hi; have HQ := hideIt hq; have hq2 := hHeld.1.trans hq; clear hi hq hf
        refine hK.out _ _ ?_ (fun hHeld => ?_)
        · exact ⟨hq2, hF.out _ hq2⟩
        clear hK K
        try simp only [Act.put, List.setIfInBounds_toArray, List.set_cons_zero, List.set_cons_succ]
        refine wpAnyH_take (i := 10) (oi := ⟨_, _, _, _, _, _⟩) (v := ?_) rfl (by kernel_rfl) (by kernel_rfl) (by kernel_rfl) (fun _ _ _ h => h) (Or.inl ⟨by rfl, ?_⟩) (by assumption) ?_
        rotate_left 1
        · intro w hSw; (try dsimp only at hSw); go_simp; all_goals with_reducible rfl
        try simp only [Act.put, List.setIfInBounds_toArray, List.set_cons_zero, List.set_cons_succ]
        refine wpAnyH_done (by kernel_rfl) ?_ _
        go_wp2
        go_ret
        exact ⟨_, _, rfl, HI.out, q.out.trans hHeld.1, fun b o e => Nat.le_trans q.out.size (Nat.le_trans (by simp) (HFR.out b o e))⟩

end Go.Proofs.YtdiidmmmemmjjaaDoor

namespace Go.Proofs.YtdiidmmmemmjjaaDoor.Lv
open Go.RowKit
set_option linter.unusedVariables false

/-- The parts at which a part may go on. -/
def waysP (p : PP) : List Int := if p.e = true then [] else if p.cond < 0 then [p.next] else [p.next, p.els]

set_option maxRecDepth 100000 in
set_option maxHeartbeats 2000000 in
theorem ways_any (p : PP) (w : World) (hp : p.ok w) : Calls Tryd.prog 43 #[p.v] w fun e w' => GotF (waysP p) w e w' := by
  have hn := hp.next
  have he := hp.els
  have HN := hideIt hn
  have HE := hideIt he
  clear hp hn he
  unfold waysP
  rcases p with ⟨ins, e, cond, next, els, ia, ic⟩
  dsimp only [PP.v] at *
  cases e with
  | true =>
    rw [if_pos rfl]
    go_enter Tryd.func43, Tryd.ntmps43
    go_wp2_with (fail)
    go_ret
    exact ⟨none, 0, rfl, (fun k x hk => by simp at hk), (Q.refl w).alloc _, fun b o e => by cases e⟩
  | false =>
    rw [if_neg (by simp)]
    by_cases hc : cond < 0
    · rw [if_pos hc]
      go_enter Tryd.func43, Tryd.ntmps43
      go_wp2_with (fail)
      go_ret
      refine ⟨some ⟨w.heap.size + 1, 0, none⟩, 1, rfl, ints_block (l := [next]) (t := 3) (heap_new2 w _ _) (fun x hx => by simp at hx; subst hx; exact HN.out), ((Q.refl w).alloc _).alloc _, fun b o e => by injection e with e; injection e with e1 e2; omega⟩
    · rw [if_neg hc]
      go_enter Tryd.func43, Tryd.ntmps43
      go_wp2_with (fail)
      go_ret
      refine ⟨some ⟨w.heap.size + 1, 0, none⟩, 2, rfl, ints_block (l := [next, els]) (t := 3) (heap_new2 w _ _) (fun x hx => by simp at hx; rcases hx with rfl | rfl; exact HN.out; exact HE.out), ((Q.refl w).alloc _).alloc _, fun b o e => by injection e with e; injection e with e1 e2; omega⟩

end Go.Proofs.YtdiidmmmemmjjaaDoor.Lv

namespace Go.Proofs.YtdiidmmmemmjjaaDoor.Lv
open Go.RowKit
set_option linter.unusedVariables false

noncomputable def readL (es : Es) (k : Nat) (L : List Int) : Es := L.foldl (fun es r => readE es k r.toNat) es
noncomputable def writE (es : Es) (k r : Nat) : Es := upd es (.wt (r / 64)) (pushL (es (.wt (r / 64))) ((k : Int), bitN r))
noncomputable def lookI (es : Es) (k : Nat) (x : PI) : Es := if wrP x.op = true then writE (readL es k (usesP x)) k x.dst.toNat else readL es k (usesP x)
noncomputable def lookL (es : Es) (k : Nat) (l : List PI) : Es := l.foldl (fun es x => lookI es k x) es
noncomputable def lookP (es : Es) (k : Nat) (p : PP) : Es := if p.cond < 0 then lookL es k p.ins else readE (lookL es k p.ins) k p.cond.toNat
theorem readL_snoc (es : Es) (k : Nat) (L : List Int) (r : Int) : readL es k (L ++ [r]) = readE (readL es k L) k r.toNat := by simp [readL]
theorem lookL_snoc (es : Es) (k : Nat) (l : List PI) (x : PI) : lookL es k (l ++ [x]) = lookI (lookL es k l) k x := by simp [lookL]

/-- No list is longer. -/
def Bd (es : Es) (n : Nat) : Prop := ∀ m, (es m).length ≤ n
theorem push_len (l : List (Int × Int)) (e : Int × Int) : (pushL l e).length ≤ l.length + 1 := by
  unfold pushL
  split
  · simp
  · simp
theorem Bd.upd {es : Es} {n : Nat} (h : Bd es n) (m : Nm) (e : Int × Int) : Bd (upd es m (pushL (es m) e)) (n + 1) := fun m' => by
  by_cases e' : m' = m
  · subst e'; rw [upd_same]; exact Nat.le_trans (push_len _ _) (by have := h m'; omega)
  · rw [upd_other _ _ e']; have := h m'; omega
theorem Bd.mono {es : Es} {n k : Nat} (h : Bd es n) (hk : n ≤ k) : Bd es k := fun m => Nat.le_trans (h m) hk
theorem Bd.read {es : Es} {n : Nat} (h : Bd es n) (k r : Nat) : Bd (readE es k r) (n + 1) := by
  unfold readE
  split
  · exact h.upd _ _
  · exact h.mono (by omega)
theorem Bd.readL {es : Es} {n : Nat} (h : Bd es n) (k : Nat) (L : List Int) : Bd (readL es k L) (n + L.length) := by
  unfold Lv.readL
  induction L generalizing es n with
  | nil => exact h
  | cons r L ih => exact (ih (h.read k r.toNat)).mono (by simp; omega)
def wI (x : PI) : Nat := (usesP x).length + 1
def wL (l : List PI) : Nat := (l.map wI).sum
theorem Bd.lookI {es : Es} {n : Nat} (h : Bd es n) (k : Nat) (x : PI) : Bd (lookI es k x) (n + wI x) := by
  unfold Lv.lookI
  split
  · exact (h.readL k (usesP x)).upd _ _
  · exact (h.readL k (usesP x)).mono (by unfold wI; omega)
theorem Bd.lookL {es : Es} {n : Nat} (h : Bd es n) (k : Nat) (l : List PI) : Bd (lookL es k l) (n + wL l) := by
  unfold Lv.lookL
  induction l generalizing es n with
  | nil => exact h
  | cons x l ih => exact (ih (h.lookI k x)).mono (by simp [wL]; omega)
theorem wL_take (l : List PI) (i : Nat) (x : PI) (h : l[i]? = some x) : wL (l.take i) + wI x ≤ wL l := by
  induction l generalizing i with
  | nil => simp at h
  | cons y l ih =>
    cases i with
    | zero => simp at h; subst h; simp [wL]
    | succ i =>
      have := ih i (by simpa using h)
      simp [wL] at this ⊢
      omega

/-- A block of nobody's. -/
def Fre (B : Bl) (many words : Nat) (v : Vs) (b : Nat) : Prop := ¬ B.isB b ∧ ∀ m, okN many words m → (v m).ownBlock ≠ some b
section
variable {w w1 : World} {base : Nat} {B : Bl} {many words : Nat} {v v1 : Vs} {es : Es} {wo : List Int}
theorem WM.fre (h : WM w base B many words v es wo) {b : Nat} (hb : w.heap.size ≤ b) : Fre B many words v b := ⟨fun e => by have := h.fm.lt b e; omega, fun m hm e => by have := ((h.fm.row m hm).lt b e).2; omega⟩
theorem Kp.keep (k : Kp B many words w v w1 v1) {b : Nat} {u : Obj} (hb : w.heap[b]? = some u) (hf : Fre B many words v b) : w1.heap[b]? = some u := (k.blk b (Array.getElem?_eq_some_iff.1 hb).1 hf.1 hf.2).trans hb
theorem Kp.cell (k : Kp B many words w v w1 v1) {p : Addr} {u : Value} (hp : w.cell? p = some u) (hf : Fre B many words v p.block) : w1.cell? p = some u := by
  have := k.blk p.block (World.block_lt_of_cell? w _ hp) hf.1 hf.2
  unfold World.cell? at hp ⊢
  rw [this]
  exact hp
end

end Go.Proofs.YtdiidmmmemmjjaaDoor.Lv
