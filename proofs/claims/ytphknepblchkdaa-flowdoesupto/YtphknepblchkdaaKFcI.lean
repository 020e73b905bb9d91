/-
 A copy of code: the walk of layer 13's Copy; over the program.
-/
import Derived.Test.YtphknepblchkdaaKFcG
namespace Go.Proofs.Ytphknepblchkdaa.Fc
open Go.RowKit
set_option linter.unusedVariables false

set_option maxRecDepth 100000 in
set_option maxHeartbeats 8000000 in
theorem copy_any (w : World) (c : PC) (hc : c.ok w) : Calls Try.prog 21 #[c.v] w fun e w' => ∃ a : PC, e = .returned a.v ∧ EvC a c ∧ CodeL w.heap.size w' a ∧ Q w w' := by
 obtain ⟨B, hBB⟩ : ∃ B, (bxC w c).alloc (.cells #[.slice none 0 0, .slice none 0 0, .slice none 0 0] 26) = B := ⟨_, rfl⟩
 have qB : Hid (Q w B) := by show Q w B; rw [← hBB]; exact ((Q.refl w).alloc _).alloc _
 have hsB : B.heap.size = w.heap.size + 2 := by rw [← hBB]; simp
 have hB1 : B.heap[w.heap.size]? = some (.cells #[.slice c.ga c.gl.length c.gc, .slice c.na c.ini.length c.nc, .slice c.fa c.fns.length c.fc] 26 (0, 0)) := by rw [← hBB]; exact heap_old _ (heap_new _ _)
 have hB2 : B.heap[w.heap.size + 1]? = some (.cells #[.slice none 0 0, .slice none 0 0, .slice none 0 0] 26 (0, 0)) := by rw [← hBB]; exact heap_new2 _ _ _
 have HB := hideIt (fun y (h : Q B y) => At.three (x := c) (At.block (cs := c.cells) (heap_keep h hB1)))
 have HBk := hideIt (fun y (h : Q B y) => heap_keep h hB1)
 have HZ : Hid (∀ y, Q B y → y.frozen? ⟨w.heap.size, 0, none⟩ = false ∧ y.frozen? ⟨w.heap.size, 1, none⟩ = false ∧ y.frozen? ⟨w.heap.size, 2, none⟩ = false) := fun y h => ⟨free_of_block (heap_keep h hB1) _, free_of_block (heap_keep h hB1) _, free_of_block (heap_keep h hB1) _⟩
 have C2 := hideIt (fun X (h : Q B X) => listInts_new X c.ga c.gc c.gl hc.gsok (hc.gl.keep (qB.out.trans h)))
 have C5 := hideIt (fun X (h : Q B X) => listI64s_new X c.na c.nc c.ini hc.nsok (hc.ini.keep (qB.out.trans h)))
 have C8 := hideIt (fun X (h : Q B X) => listFns_new X c.fa c.fc c.fns hc.fsok (hc.fns.keep (qB.out.trans h)))
 have CYof : Hid (∀ {y1 y2 : World} {ao1 ao2 : Option Addr} {c1 c2 : Nat}, (Ints y1 ao1 c.gl ∧ sok 8 ao1 c.gl.length c1 ∧ NB B.drew.heap.size y1 ao1 c.gl.length ∧ Q B.drew y1) → Q B y1 → (Ints y2 ao2 c.ini ∧ sok 8 ao2 c.ini.length c2 ∧ NB y1.heap.size y2 ao2 c.ini.length ∧ Q y1 y2) → Q B y2 → CY w y2 c ao1 c1 ao2 c2) := fun {y1 y2 ao1 ao2 c1 c2} h1 q1 h2 q2 => by
  have e1 := q1.size
  have e2 := q2.size
  exact ⟨qB.out.trans q2, by omega, ⟨_, heap_keep q2 hB2, rfl⟩, Ints.keep h2.2.2.2 h1.1, h1.2.1, (h1.2.2.1.keep h2.2.2.2).mono (by show w.heap.size + 2 ≤ B.heap.size; omega), h2.1, h2.2.1, h2.2.2.1.mono (by omega)⟩
 have FOf : Hid (∀ {y2 y3 : World} {ao3 : Option Addr} {s1 s2 s3 : Value}, (c.fns = [] ∨ ao3 = some ⟨y2.heap.size, 0, none⟩ ∧ y3.heap[y2.heap.size]? = some (.cells (c.fns.flatMap PF.cells).toArray 44 (0, 0))) → Q B y2 → (c.fns = [] ∨ ∃ G, y2.heap.size ≤ G ∧ ao3 = some ⟨G, 0, none⟩ ∧ CpF G c.fns 0 c.fns (((y3.setCell ⟨w.heap.size, 0, none⟩ s1).setCell ⟨w.heap.size, 1, none⟩ s2).setCell ⟨w.heap.size, 2, none⟩ s3))) := fun {y2 y3 ao3 s1 s2 s3} h q => by
  rcases h with h | ⟨h1, h2⟩
  ·exact Or.inl h
  ·have e2 := q.size
   have hne : y2.heap.size ≠ w.heap.size := by omega
   exact Or.inr ⟨_, Nat.le_refl _, h1, ⟨rfl, heap_set_other (heap_set_other (heap_set_other h2 hne) hne) hne, fun k x y _ _ h => by omega, fun k _ => rfl, fun k1 k2 f1 f2 _ _ _ h => by omega⟩⟩
 have HFN := hideIt (fun X (h : Q w X) => Fns.keep h hc.fns)
 have hlen : c.fns.length ≤ 9223372036854775807 := hc.fsok.len
 have Q0 : Hid (Q B B.drew) := (Q.refl B).drew
 obtain ⟨k0, k1, k2⟩ := HB.out B (Q.refl B)
 have HBB := hideIt hBB
 clear hc hBB hB1 hB2 hsB
 go_enter Try.func21, Try.ntmps21
 go_wp2_with (fail)
 rw [show (w.alloc (.cells #[.slice c.ga c.gl.length c.gc, .slice c.na c.ini.length c.nc, .slice c.fa c.fns.length c.fc] 26)).alloc (.cells #[.slice none 0 0, .slice none 0 0, .slice none 0 0] 26) = B from HBB.out]
 rename_i K hK
 have REST : ∀ (Y : World) (ga : Option Addr) (gc : Nat) (na : Option Addr) (nc : Nat) (fa : Option Addr) (fc : Nat) (W : World), CY w Y c ga gc na nc → CS w Y c ga gc na nc fa fc W → sok 64 fa c.fns.length fc → (c.fns = [] ∨ ∃ G, Y.heap.size ≤ G ∧ fa = some ⟨G, 0, none⟩ ∧ CpF G c.fns 0 c.fns W) → K { tmps := #[.agg #[.slice c.ga c.gl.length c.gc, .slice c.na c.ini.length c.nc, .slice c.fa c.fns.length c.fc], .pointer (some ⟨w.heap.size, 0, none⟩), .pointer (some ⟨w.heap.size + 1, 0, none⟩), undef, undef, undef, .pointer (some ⟨w.heap.size, 0, none⟩), .slice c.ga c.gl.length c.gc, .slice ga c.gl.length gc, .pointer (some ⟨w.heap.size, 1, none⟩), .slice c.na c.ini.length c.nc, .slice na c.ini.length nc, .pointer (some ⟨w.heap.size, 2, none⟩), .slice c.fa c.fns.length c.fc, .slice fa c.fns.length fc, .pointer (some ⟨w.heap.size, 0, none⟩), .pointer (some ⟨w.heap.size, 1, none⟩), .pointer (some ⟨w.heap.size, 2, none⟩), undef, undef, undef, undef, undef, undef, undef, undef, undef, undef, undef, undef, undef, undef, undef, undef, undef, undef, undef, undef, undef, undef, undef, undef, undef, undef, undef, undef, undef, undef, undef, undef, undef, undef, undef, undef, undef, undef, undef, undef, undef, undef, undef, undef, undef, undef, undef, undef, undef, undef, undef, undef, undef], defers := [] } W := by
  intro Y ga gc na nc fa fc W hY hS hs hf
  exact hK _ _ (copy_rest w c HFN.out hlen Y ga gc na nc fa fc W hY hS hs hf)
 clear hK
 refine wp_region_held_drew (S := fun _ => True) (by kernel_rfl) (trivial) (fun hHeld => ?_)
 refine wpAnyH_take (i := 0) (oi := ⟨_, _, _, _, _, _⟩) (v := ?_) rfl (by kernel_rfl) (by kernel_rfl) (by kernel_rfl) (fun _ _ _ h => h) (Or.inl ⟨by rfl, ?_⟩) (by assumption) ?_
 rotate_left 1
 ·intro w hSw; (try dsimp only at hSw); go_simp; all_goals with_reducible rfl
 try simp only [Act.put, List.setIfInBounds_toArray, List.set_cons_zero, List.set_cons_succ]
 refine wpAnyH_take (i := 3) (oi := ⟨_, _, _, _, _, _⟩) (v := ?_) rfl (by kernel_rfl) (by kernel_rfl) (by kernel_rfl) (fun _ _ _ h => h) (Or.inl ⟨by rfl, ?_⟩) (by assumption) ?_
 rotate_left 1
 ·intro w hSw; (try dsimp only at hSw); go_simp; all_goals with_reducible rfl
 try simp only [Act.put, List.setIfInBounds_toArray, List.set_cons_zero, List.set_cons_succ]
 refine wpAnyH_take (i := 6) (oi := ⟨_, _, _, _, _, _⟩) (v := ?_) rfl (by kernel_rfl) (by kernel_rfl) (by kernel_rfl) (fun _ _ _ h => h) (Or.inl ⟨by rfl, ?_⟩) (by assumption) ?_
 rotate_left 1
 ·intro w hSw; (try dsimp only at hSw); go_simp; all_goals with_reducible rfl
 try simp only [Act.put, List.setIfInBounds_toArray, List.set_cons_zero, List.set_cons_succ]
 refine wpAnyH_ready (rs := [1, 4, 7]) (by kernel_rfl) (by simp) (AllReadyH.cons (o := ⟨_, _, _, _, _, _⟩) rfl (fun K hK => ?_) (AllReadyH.cons (o := ⟨_, _, _, _, _, _⟩) rfl (fun K hK => ?_) (AllReadyH.cons (o := ⟨_, _, _, _, _, _⟩) rfl (fun K hK => ?_) AllReadyH.nil)))
 ·go_simp
  refine hK.out _ _ ?_ (fun hHeld => ?_)
  ·trivial
  clear hK K
  try simp only [Act.put, List.setIfInBounds_toArray, List.set_cons_zero, List.set_cons_succ]
  refine wpAnyH_ready (rs := [2, 4, 7]) (by kernel_rfl) (by simp) (AllReadyH.cons (o := ⟨_, _, _, _, _, _⟩) rfl (fun K hK => ?_) (AllReadyH.cons (o := ⟨_, _, _, _, _, _⟩) rfl (fun K hK => ?_) (AllReadyH.cons (o := ⟨_, _, _, _, _, _⟩) rfl (fun K hK => ?_) AllReadyH.nil)))
  ·go_simp
   go_at_call 35; refine Calls.mono (C2.out _ Q0.out) ?_; rintro e y1 ⟨ao1, c1, rfl, i1, s1, n1, q1⟩; have H1 := hideIt (And.intro i1 (And.intro s1 (And.intro n1 q1))); have QQ1 := hideIt (Q0.out.trans q1); clear i1 s1 n1 q1 k0 k1 k2; obtain ⟨k0, k1, k2⟩ := HB.out _ QQ1.out
   refine hK.out _ _ ?_ (fun hHeld => ?_)
   ·trivial
   clear hK K
   try simp only [Act.put, List.setIfInBounds_toArray, List.set_cons_zero, List.set_cons_succ]
   refine wpAnyH_ready (rs := [4, 7]) (by kernel_rfl) (by simp) (AllReadyH.cons (o := ⟨_, _, _, _, _, _⟩) rfl (fun K hK => ?_) (AllReadyH.cons (o := ⟨_, _, _, _, _, _⟩) rfl (fun K hK => ?_) AllReadyH.nil))
   ·go_simp
    refine hK.out _ _ ?_ (fun hHeld => ?_)
    ·trivial
    clear hK K
    try simp only [Act.put, List.setIfInBounds_toArray, List.set_cons_zero, List.set_cons_succ]
    refine wpAnyH_ready (rs := [5, 7]) (by kernel_rfl) (by simp) (AllReadyH.cons (o := ⟨_, _, _, _, _, _⟩) rfl (fun K hK => ?_) (AllReadyH.cons (o := ⟨_, _, _, _, _, _⟩) rfl (fun K hK => ?_) AllReadyH.nil))
    ·go_simp
     go_at_call 36; refine Calls.mono (C5.out _ QQ1.out) ?_; rintro e y2 ⟨ao2, c2, rfl, i2, s2, n2, q2⟩; have H2 := hideIt (And.intro i2 (And.intro s2 (And.intro n2 q2))); have QQ2 := hideIt (QQ1.out.trans q2); clear i2 s2 n2 q2 k0 k1 k2; obtain ⟨k0, k1, k2⟩ := HB.out _ QQ2.out
     refine hK.out _ _ ?_ (fun hHeld => ?_)
     ·trivial
     clear hK K
     try simp only [Act.put, List.setIfInBounds_toArray, List.set_cons_zero, List.set_cons_succ]
     refine wpAnyH_ready (rs := [7]) (by kernel_rfl) (by simp) (AllReadyH.cons (o := ⟨_, _, _, _, _, _⟩) rfl (fun K hK => ?_) AllReadyH.nil)
     go_simp
     refine hK.out _ _ ?_ (fun hHeld => ?_)
     ·trivial
     clear hK K
     try simp only [Act.put, List.setIfInBounds_toArray, List.set_cons_zero, List.set_cons_succ]
     refine wpAnyH_take (i := 9) (oi := ⟨_, _, _, _, _, _⟩) (v := ?_) rfl (by kernel_rfl) (by kernel_rfl) (by kernel_rfl) (fun _ _ _ h => h) (Or.inl ⟨by rfl, ?_⟩) (by assumption) ?_
     rotate_left 1
     ·intro w hSw; (try dsimp only at hSw); go_simp; all_goals with_reducible rfl
     try simp only [Act.put, List.setIfInBounds_toArray, List.set_cons_zero, List.set_cons_succ]
     refine wpAnyH_ready (rs := [8]) (by kernel_rfl) (by simp) (AllReadyH.cons (o := ⟨_, _, _, _, _, _⟩) rfl (fun K hK => ?_) AllReadyH.nil)
     go_simp
     go_at_call 37; refine Calls.mono (C8.out _ QQ2.out) ?_; rintro e y3 ⟨ao3, c3, rfl, s3, f3, q3⟩; have H3 := hideIt (And.intro s3 (And.intro f3 q3)); have QQ3 := hideIt (QQ2.out.trans q3); clear s3 f3 q3 k0 k1 k2; obtain ⟨k0, k1, k2⟩ := HB.out _ QQ3.out; obtain ⟨z0, z1, z2⟩ := HZ.out _ QQ3.out
     refine hK.out _ _ ?_ (fun hHeld => ?_)
     ·trivial
     clear hK K
     try simp only [Act.put, List.setIfInBounds_toArray, List.set_cons_zero, List.set_cons_succ]
     refine wpAnyH_ready (rs := [10]) (by kernel_rfl) (by simp) (AllReadyH.cons (o := ⟨_, _, _, _, _, _⟩) rfl (fun K hK => ?_) AllReadyH.nil)
     go_simp
     refine hK.out _ _ ?_ (fun hHeld => ?_)
     ·trivial
     clear hK K
     try simp only [Act.put, List.setIfInBounds_toArray, List.set_cons_zero, List.set_cons_succ]
     refine wpAnyH_take (i := 11) (oi := ⟨_, _, _, _, _, _⟩) (v := ?_) rfl (by kernel_rfl) (by kernel_rfl) (by kernel_rfl) (fun _ _ _ h => h) (Or.inl ⟨by rfl, ?_⟩) (by assumption) ?_
     rotate_left 1
     ·intro w hSw; (try dsimp only at hSw); go_simp; all_goals with_reducible rfl
     try simp only [Act.put, List.setIfInBounds_toArray, List.set_cons_zero, List.set_cons_succ]
     refine wpAnyH_ready (rs := [12]) (by kernel_rfl) (by simp) (AllReadyH.cons (o := ⟨_, _, _, _, _, _⟩) rfl (fun K hK => ?_) AllReadyH.nil)
     go_simp
     refine hK.out _ _ ?_ (fun hHeld => ?_)
     ·trivial
     clear hK K
     try simp only [Act.put, List.setIfInBounds_toArray, List.set_cons_zero, List.set_cons_succ]
     refine wpAnyH_take (i := 13) (oi := ⟨_, _, _, _, _, _⟩) (v := ?_) rfl (by kernel_rfl) (by kernel_rfl) (by kernel_rfl) (fun _ _ _ h => h) (Or.inl ⟨by rfl, ?_⟩) (by assumption) ?_
     rotate_left 1
     ·intro w hSw; (try dsimp only at hSw); go_simp; all_goals with_reducible rfl
     try simp only [Act.put, List.setIfInBounds_toArray, List.set_cons_zero, List.set_cons_succ]
     refine wpAnyH_ready (rs := [14]) (by kernel_rfl) (by simp) (AllReadyH.cons (o := ⟨_, _, _, _, _, _⟩) rfl (fun K hK => ?_) AllReadyH.nil)
     go_simp
     refine hK.out _ _ ?_ (fun hHeld => ?_)
     ·trivial
     clear hK K
     try simp only [Act.put, List.setIfInBounds_toArray, List.set_cons_zero, List.set_cons_succ]
     refine wpAnyH_done (by kernel_rfl) ?_ _
     exact REST y2 ao1 c1 ao2 c2 ao3 c3 _ (CYof.out H1.out QQ1.out H2.out QQ2.out) (CS.start (CYof.out H1.out QQ1.out H2.out QQ2.out) H3.out.2.2 (HBk.out _ QQ3.out) rfl) H3.out.1 (FOf.out H3.out.2.1 QQ2.out)
    ·go_simp
     refine hK.out _ _ ?_ (fun hHeld => ?_)
     ·trivial
     clear hK K
     try simp only [Act.put, List.setIfInBounds_toArray, List.set_cons_zero, List.set_cons_succ]
     refine wpAnyH_take (i := 9) (oi := ⟨_, _, _, _, _, _⟩) (v := ?_) rfl (by kernel_rfl) (by kernel_rfl) (by kernel_rfl) (fun _ _ _ h => h) (Or.inl ⟨by rfl, ?_⟩) (by assumption) ?_
     rotate_left 1
     ·intro w hSw; (try dsimp only at hSw); go_simp; all_goals with_reducible rfl
     try simp only [Act.put, List.setIfInBounds_toArray, List.set_cons_zero, List.set_cons_succ]
     refine wpAnyH_ready (rs := [5]) (by kernel_rfl) (by simp) (AllReadyH.cons (o := ⟨_, _, _, _, _, _⟩) rfl (fun K hK => ?_) AllReadyH.nil)
     go_simp
     go_at_call 36; refine Calls.mono (C5.out _ QQ1.out) ?_; rintro e y2 ⟨ao2, c2, rfl, i2, s2, n2, q2⟩; have H2 := hideIt (And.intro i2 (And.intro s2 (And.intro n2 q2))); have QQ2 := hideIt (QQ1.out.trans q2); clear i2 s2 n2 q2 k0 k1 k2; obtain ⟨k0, k1, k2⟩ := HB.out _ QQ2.out
     refine hK.out _ _ ?_ (fun hHeld => ?_)
     ·trivial
     clear hK K
     try simp only [Act.put, List.setIfInBounds_toArray, List.set_cons_zero, List.set_cons_succ]
     refine wpAnyH_ready (rs := [8]) (by kernel_rfl) (by simp) (AllReadyH.cons (o := ⟨_, _, _, _, _, _⟩) rfl (fun K hK => ?_) AllReadyH.nil)
     go_simp
     go_at_call 37; refine Calls.mono (C8.out _ QQ2.out) ?_; rintro e y3 ⟨ao3, c3, rfl, s3, f3, q3⟩; have H3 := hideIt (And.intro s3 (And.intro f3 q3)); have QQ3 := hideIt (QQ2.out.trans q3); clear s3 f3 q3 k0 k1 k2; obtain ⟨k0, k1, k2⟩ := HB.out _ QQ3.out; obtain ⟨z0, z1, z2⟩ := HZ.out _ QQ3.out
     refine hK.out _ _ ?_ (fun hHeld => ?_)
     ·trivial
     clear hK K
     try simp only [Act.put, List.setIfInBounds_toArray, List.set_cons_zero, List.set_cons_succ]
     refine wpAnyH_ready (rs := [10]) (by kernel_rfl) (by simp) (AllReadyH.cons (o := ⟨_, _, _, _, _, _⟩) rfl (fun K hK => ?_) AllReadyH.nil)
     go_simp
     refine hK.out _ _ ?_ (fun hHeld => ?_)
     ·trivial
     clear hK K
     try simp only [Act.put, List.setIfInBounds_toArray, List.set_cons_zero, List.set_cons_succ]
     refine wpAnyH_take (i := 11) (oi := ⟨_, _, _, _, _, _⟩) (v := ?_) rfl (by kernel_rfl) (by kernel_rfl) (by kernel_rfl) (fun _ _ _ h => h) (Or.inl ⟨by rfl, ?_⟩) (by assumption) ?_
     rotate_left 1
     ·intro w hSw; (try dsimp only at hSw); go_simp; all_goals with_reducible rfl
     try simp only [Act.put, List.setIfInBounds_toArray, List.set_cons_zero, List.set_cons_succ]
     refine wpAnyH_ready (rs := [12]) (by kernel_rfl) (by simp) (AllReadyH.cons (o := ⟨_, _, _, _, _, _⟩) rfl (fun K hK => ?_) AllReadyH.nil)
     go_simp
     refine hK.out _ _ ?_ (fun hHeld => ?_)
     ·trivial
     clear hK K
     try simp only [Act.put, List.setIfInBounds_toArray, List.set_cons_zero, List.set_cons_succ]
     refine wpAnyH_take (i := 13) (oi := ⟨_, _, _, _, _, _⟩) (v := ?_) rfl (by kernel_rfl) (by kernel_rfl) (by kernel_rfl) (fun _ _ _ h => h) (Or.inl ⟨by rfl, ?_⟩) (by assumption) ?_
     rotate_left 1
     ·intro w hSw; (try dsimp only at hSw); go_simp; all_goals with_reducible rfl
     try simp only [Act.put, List.setIfInBounds_toArray, List.set_cons_zero, List.set_cons_succ]
     refine wpAnyH_ready (rs := [14]) (by kernel_rfl) (by simp) (AllReadyH.cons (o := ⟨_, _, _, _, _, _⟩) rfl (fun K hK => ?_) AllReadyH.nil)
     go_simp
     refine hK.out _ _ ?_ (fun hHeld => ?_)
     ·trivial
     clear hK K
     try simp only [Act.put, List.setIfInBounds_toArray, List.set_cons_zero, List.set_cons_succ]
     refine wpAnyH_done (by kernel_rfl) ?_ _
     exact REST y2 ao1 c1 ao2 c2 ao3 c3 _ (CYof.out H1.out QQ1.out H2.out QQ2.out) (CS.start (CYof.out H1.out QQ1.out H2.out QQ2.out) H3.out.2.2 (HBk.out _ QQ3.out) rfl) H3.out.1 (FOf.out H3.out.2.1 QQ2.out)
   ·go_simp
    refine hK.out _ _ ?_ (fun hHeld => ?_)
    ·trivial
    clear hK K
    try simp only [Act.put, List.setIfInBounds_toArray, List.set_cons_zero, List.set_cons_succ]
    refine wpAnyH_ready (rs := [4]) (by kernel_rfl) (by simp) (AllReadyH.cons (o := ⟨_, _, _, _, _, _⟩) rfl (fun K hK => ?_) AllReadyH.nil)
    go_simp
    refine hK.out _ _ ?_ (fun hHeld => ?_)
    ·trivial
    clear hK K
    try simp only [Act.put, List.setIfInBounds_toArray, List.set_cons_zero, List.set_cons_succ]
    refine wpAnyH_take (i := 9) (oi := ⟨_, _, _, _, _, _⟩) (v := ?_) rfl (by kernel_rfl) (by kernel_rfl) (by kernel_rfl) (fun _ _ _ h => h) (Or.inl ⟨by rfl, ?_⟩) (by assumption) ?_
    rotate_left 1
    ·intro w hSw; (try dsimp only at hSw); go_simp; all_goals with_reducible rfl
    try simp only [Act.put, List.setIfInBounds_toArray, List.set_cons_zero, List.set_cons_succ]
    refine wpAnyH_ready (rs := [5]) (by kernel_rfl) (by simp) (AllReadyH.cons (o := ⟨_, _, _, _, _, _⟩) rfl (fun K hK => ?_) AllReadyH.nil)
    go_simp
    go_at_call 36; refine Calls.mono (C5.out _ QQ1.out) ?_; rintro e y2 ⟨ao2, c2, rfl, i2, s2, n2, q2⟩; have H2 := hideIt (And.intro i2 (And.intro s2 (And.intro n2 q2))); have QQ2 := hideIt (QQ1.out.trans q2); clear i2 s2 n2 q2 k0 k1 k2; obtain ⟨k0, k1, k2⟩ := HB.out _ QQ2.out
    refine hK.out _ _ ?_ (fun hHeld => ?_)
    ·trivial
    clear hK K
    try simp only [Act.put, List.setIfInBounds_toArray, List.set_cons_zero, List.set_cons_succ]
    refine wpAnyH_ready (rs := [8]) (by kernel_rfl) (by simp) (AllReadyH.cons (o := ⟨_, _, _, _, _, _⟩) rfl (fun K hK => ?_) AllReadyH.nil)
    go_simp
    go_at_call 37; refine Calls.mono (C8.out _ QQ2.out) ?_; rintro e y3 ⟨ao3, c3, rfl, s3, f3, q3⟩; have H3 := hideIt (And.intro s3 (And.intro f3 q3)); have QQ3 := hideIt (QQ2.out.trans q3); clear s3 f3 q3 k0 k1 k2; obtain ⟨k0, k1, k2⟩ := HB.out _ QQ3.out; obtain ⟨z0, z1, z2⟩ := HZ.out _ QQ3.out
    refine hK.out _ _ ?_ (fun hHeld => ?_)
    ·trivial
    clear hK K
    try simp only [Act.put, List.setIfInBounds_toArray, List.set_cons_zero, List.set_cons_succ]
    refine wpAnyH_ready (rs := [10]) (by kernel_rfl) (by simp) (AllReadyH.cons (o := ⟨_, _, _, _, _, _⟩) rfl (fun K hK => ?_) AllReadyH.nil)
    go_simp
    refine hK.out _ _ ?_ (fun hHeld => ?_)
    ·trivial
    clear hK K
    try simp only [Act.put, List.setIfInBounds_toArray, List.set_cons_zero, List.set_cons_succ]
    refine wpAnyH_take (i := 11) (oi := ⟨_, _, _, _, _, _⟩) (v := ?_) rfl (by kernel_rfl) (by kernel_rfl) (by kernel_rfl) (fun _ _ _ h => h) (Or.inl ⟨by rfl, ?_⟩) (by assumption) ?_
    rotate_left 1
    ·intro w hSw; (try dsimp only at hSw); go_simp; all_goals with_reducible rfl
    try simp only [Act.put, List.setIfInBounds_toArray, List.set_cons_zero, List.set_cons_succ]
    refine wpAnyH_ready (rs := [12]) (by kernel_rfl) (by simp) (AllReadyH.cons (o := ⟨_, _, _, _, _, _⟩) rfl (fun K hK => ?_) AllReadyH.nil)
    go_simp
    refine hK.out _ _ ?_ (fun hHeld => ?_)
    ·trivial
    clear hK K
    try simp only [Act.put, List.setIfInBounds_toArray, List.set_cons_zero, List.set_cons_succ]
    refine wpAnyH_take (i := 13) (oi := ⟨_, _, _, _, _, _⟩) (v := ?_) rfl (by kernel_rfl) (by kernel_rfl) (by kernel_rfl) (fun _ _ _ h => h) (Or.inl ⟨by rfl, ?_⟩) (by assumption) ?_
    rotate_left 1
    ·intro w hSw; (try dsimp only at hSw); go_simp; all_goals with_reducible rfl
    try simp only [Act.put, List.setIfInBounds_toArray, List.set_cons_zero, List.set_cons_succ]
    refine wpAnyH_ready (rs := [14]) (by kernel_rfl) (by simp) (AllReadyH.cons (o := ⟨_, _, _, _, _, _⟩) rfl (fun K hK => ?_) AllReadyH.nil)
    go_simp
    refine hK.out _ _ ?_ (fun hHeld => ?_)
    ·trivial
    clear hK K
    try simp only [Act.put, List.setIfInBounds_toArray, List.set_cons_zero, List.set_cons_succ]
    refine wpAnyH_done (by kernel_rfl) ?_ _
    exact REST y2 ao1 c1 ao2 c2 ao3 c3 _ (CYof.out H1.out QQ1.out H2.out QQ2.out) (CS.start (CYof.out H1.out QQ1.out H2.out QQ2.out) H3.out.2.2 (HBk.out _ QQ3.out) rfl) H3.out.1 (FOf.out H3.out.2.1 QQ2.out)
  ·go_simp
   refine hK.out _ _ ?_ (fun hHeld => ?_)
   ·trivial
   clear hK K
   try simp only [Act.put, List.setIfInBounds_toArray, List.set_cons_zero, List.set_cons_succ]
   refine wpAnyH_ready (rs := [2, 7]) (by kernel_rfl) (by simp) (AllReadyH.cons (o := ⟨_, _, _, _, _, _⟩) rfl (fun K hK => ?_) (AllReadyH.cons (o := ⟨_, _, _, _, _, _⟩) rfl (fun K hK => ?_) AllReadyH.nil))
   ·go_simp
    go_at_call 35; refine Calls.mono (C2.out _ Q0.out) ?_; rintro e y1 ⟨ao1, c1, rfl, i1, s1, n1, q1⟩; have H1 := hideIt (And.intro i1 (And.intro s1 (And.intro n1 q1))); have QQ1 := hideIt (Q0.out.trans q1); clear i1 s1 n1 q1 k0 k1 k2; obtain ⟨k0, k1, k2⟩ := HB.out _ QQ1.out
    refine hK.out _ _ ?_ (fun hHeld => ?_)
    ·trivial
    clear hK K
    try simp only [Act.put, List.setIfInBounds_toArray, List.set_cons_zero, List.set_cons_succ]
    refine wpAnyH_ready (rs := [5, 7]) (by kernel_rfl) (by simp) (AllReadyH.cons (o := ⟨_, _, _, _, _, _⟩) rfl (fun K hK => ?_) (AllReadyH.cons (o := ⟨_, _, _, _, _, _⟩) rfl (fun K hK => ?_) AllReadyH.nil))
    ·go_simp
     go_at_call 36; refine Calls.mono (C5.out _ QQ1.out) ?_; rintro e y2 ⟨ao2, c2, rfl, i2, s2, n2, q2⟩; have H2 := hideIt (And.intro i2 (And.intro s2 (And.intro n2 q2))); have QQ2 := hideIt (QQ1.out.trans q2); clear i2 s2 n2 q2 k0 k1 k2; obtain ⟨k0, k1, k2⟩ := HB.out _ QQ2.out
     refine hK.out _ _ ?_ (fun hHeld => ?_)
     ·trivial
     clear hK K
     try simp only [Act.put, List.setIfInBounds_toArray, List.set_cons_zero, List.set_cons_succ]
     refine wpAnyH_ready (rs := [7]) (by kernel_rfl) (by simp) (AllReadyH.cons (o := ⟨_, _, _, _, _, _⟩) rfl (fun K hK => ?_) AllReadyH.nil)
     go_simp
     refine hK.out _ _ ?_ (fun hHeld => ?_)
     ·trivial
     clear hK K
     try simp only [Act.put, List.setIfInBounds_toArray, List.set_cons_zero, List.set_cons_succ]
     refine wpAnyH_take (i := 9) (oi := ⟨_, _, _, _, _, _⟩) (v := ?_) rfl (by kernel_rfl) (by kernel_rfl) (by kernel_rfl) (fun _ _ _ h => h) (Or.inl ⟨by rfl, ?_⟩) (by assumption) ?_
     rotate_left 1
     ·intro w hSw; (try dsimp only at hSw); go_simp; all_goals with_reducible rfl
     try simp only [Act.put, List.setIfInBounds_toArray, List.set_cons_zero, List.set_cons_succ]
     refine wpAnyH_ready (rs := [8]) (by kernel_rfl) (by simp) (AllReadyH.cons (o := ⟨_, _, _, _, _, _⟩) rfl (fun K hK => ?_) AllReadyH.nil)
     go_simp
     go_at_call 37; refine Calls.mono (C8.out _ QQ2.out) ?_; rintro e y3 ⟨ao3, c3, rfl, s3, f3, q3⟩; have H3 := hideIt (And.intro s3 (And.intro f3 q3)); have QQ3 := hideIt (QQ2.out.trans q3); clear s3 f3 q3 k0 k1 k2; obtain ⟨k0, k1, k2⟩ := HB.out _ QQ3.out; obtain ⟨z0, z1, z2⟩ := HZ.out _ QQ3.out
     refine hK.out _ _ ?_ (fun hHeld => ?_)
     ·trivial
     clear hK K
     try simp only [Act.put, List.setIfInBounds_toArray, List.set_cons_zero, List.set_cons_succ]
     refine wpAnyH_ready (rs := [10]) (by kernel_rfl) (by simp) (AllReadyH.cons (o := ⟨_, _, _, _, _, _⟩) rfl (fun K hK => ?_) AllReadyH.nil)
     go_simp
     refine hK.out _ _ ?_ (fun hHeld => ?_)
     ·trivial
     clear hK K
     try simp only [Act.put, List.setIfInBounds_toArray, List.set_cons_zero, List.set_cons_succ]
     refine wpAnyH_take (i := 11) (oi := ⟨_, _, _, _, _, _⟩) (v := ?_) rfl (by kernel_rfl) (by kernel_rfl) (by kernel_rfl) (fun _ _ _ h => h) (Or.inl ⟨by rfl, ?_⟩) (by assumption) ?_
     rotate_left 1
     ·intro w hSw; (try dsimp only at hSw); go_simp; all_goals with_reducible rfl
     try simp only [Act.put, List.setIfInBounds_toArray, List.set_cons_zero, List.set_cons_succ]
     refine wpAnyH_ready (rs := [12]) (by kernel_rfl) (by simp) (AllReadyH.cons (o := ⟨_, _, _, _, _, _⟩) rfl (fun K hK => ?_) AllReadyH.nil)
     go_simp
     refine hK.out _ _ ?_ (fun hHeld => ?_)
     ·trivial
     clear hK K
     try simp only [Act.put, List.setIfInBounds_toArray, List.set_cons_zero, List.set_cons_succ]
     refine wpAnyH_take (i := 13) (oi := ⟨_, _, _, _, _, _⟩) (v := ?_) rfl (by kernel_rfl) (by kernel_rfl) (by kernel_rfl) (fun _ _ _ h => h) (Or.inl ⟨by rfl, ?_⟩) (by assumption) ?_
     rotate_left 1
     ·intro w hSw; (try dsimp only at hSw); go_simp; all_goals with_reducible rfl
     try simp only [Act.put, List.setIfInBounds_toArray, List.set_cons_zero, List.set_cons_succ]
     refine wpAnyH_ready (rs := [14]) (by kernel_rfl) (by simp) (AllReadyH.cons (o := ⟨_, _, _, _, _, _⟩) rfl (fun K hK => ?_) AllReadyH.nil)
     go_simp
     refine hK.out _ _ ?_ (fun hHeld => ?_)
     ·trivial
     clear hK K
     try simp only [Act.put, List.setIfInBounds_toArray, List.set_cons_zero, List.set_cons_succ]
     refine wpAnyH_done (by kernel_rfl) ?_ _
     exact REST y2 ao1 c1 ao2 c2 ao3 c3 _ (CYof.out H1.out QQ1.out H2.out QQ2.out) (CS.start (CYof.out H1.out QQ1.out H2.out QQ2.out) H3.out.2.2 (HBk.out _ QQ3.out) rfl) H3.out.1 (FOf.out H3.out.2.1 QQ2.out)
    ·go_simp
     refine hK.out _ _ ?_ (fun hHeld => ?_)
     ·trivial
     clear hK K
     try simp only [Act.put, List.setIfInBounds_toArray, List.set_cons_zero, List.set_cons_succ]
     refine wpAnyH_take (i := 9) (oi := ⟨_, _, _, _, _, _⟩) (v := ?_) rfl (by kernel_rfl) (by kernel_rfl) (by kernel_rfl) (fun _ _ _ h => h) (Or.inl ⟨by rfl, ?_⟩) (by assumption) ?_
     rotate_left 1
     ·intro w hSw; (try dsimp only at hSw); go_simp; all_goals with_reducible rfl
     try simp only [Act.put, List.setIfInBounds_toArray, List.set_cons_zero, List.set_cons_succ]
     refine wpAnyH_ready (rs := [5]) (by kernel_rfl) (by simp) (AllReadyH.cons (o := ⟨_, _, _, _, _, _⟩) rfl (fun K hK => ?_) AllReadyH.nil)
     go_simp
     go_at_call 36; refine Calls.mono (C5.out _ QQ1.out) ?_; rintro e y2 ⟨ao2, c2, rfl, i2, s2, n2, q2⟩; have H2 := hideIt (And.intro i2 (And.intro s2 (And.intro n2 q2))); have QQ2 := hideIt (QQ1.out.trans q2); clear i2 s2 n2 q2 k0 k1 k2; obtain ⟨k0, k1, k2⟩ := HB.out _ QQ2.out
     refine hK.out _ _ ?_ (fun hHeld => ?_)
     ·trivial
     clear hK K
     try simp only [Act.put, List.setIfInBounds_toArray, List.set_cons_zero, List.set_cons_succ]
     refine wpAnyH_ready (rs := [8]) (by kernel_rfl) (by simp) (AllReadyH.cons (o := ⟨_, _, _, _, _, _⟩) rfl (fun K hK => ?_) AllReadyH.nil)
     go_simp
     go_at_call 37; refine Calls.mono (C8.out _ QQ2.out) ?_; rintro e y3 ⟨ao3, c3, rfl, s3, f3, q3⟩; have H3 := hideIt (And.intro s3 (And.intro f3 q3)); have QQ3 := hideIt (QQ2.out.trans q3); clear s3 f3 q3 k0 k1 k2; obtain ⟨k0, k1, k2⟩ := HB.out _ QQ3.out; obtain ⟨z0, z1, z2⟩ := HZ.out _ QQ3.out
     refine hK.out _ _ ?_ (fun hHeld => ?_)
     ·trivial
     clear hK K
     try simp only [Act.put, List.setIfInBounds_toArray, List.set_cons_zero, List.set_cons_succ]
     refine wpAnyH_ready (rs := [10]) (by kernel_rfl) (by simp) (AllReadyH.cons (o := ⟨_, _, _, _, _, _⟩) rfl (fun K hK => ?_) AllReadyH.nil)
     go_simp
     refine hK.out _ _ ?_ (fun hHeld => ?_)
     ·trivial
     clear hK K
     try simp only [Act.put, List.setIfInBounds_toArray, List.set_cons_zero, List.set_cons_succ]
     refine wpAnyH_take (i := 11) (oi := ⟨_, _, _, _, _, _⟩) (v := ?_) rfl (by kernel_rfl) (by kernel_rfl) (by kernel_rfl) (fun _ _ _ h => h) (Or.inl ⟨by rfl, ?_⟩) (by assumption) ?_
     rotate_left 1
     ·intro w hSw; (try dsimp only at hSw); go_simp; all_goals with_reducible rfl
     try simp only [Act.put, List.setIfInBounds_toArray, List.set_cons_zero, List.set_cons_succ]
     refine wpAnyH_ready (rs := [12]) (by kernel_rfl) (by simp) (AllReadyH.cons (o := ⟨_, _, _, _, _, _⟩) rfl (fun K hK => ?_) AllReadyH.nil)
     go_simp
     refine hK.out _ _ ?_ (fun hHeld => ?_)
     ·trivial
     clear hK K
     try simp only [Act.put, List.setIfInBounds_toArray, List.set_cons_zero, List.set_cons_succ]
     refine wpAnyH_take (i := 13) (oi := ⟨_, _, _, _, _, _⟩) (v := ?_) rfl (by kernel_rfl) (by kernel_rfl) (by kernel_rfl) (fun _ _ _ h => h) (Or.inl ⟨by rfl, ?_⟩) (by assumption) ?_
     rotate_left 1
     ·intro w hSw; (try dsimp only at hSw); go_simp; all_goals with_reducible rfl
     try simp only [Act.put, List.setIfInBounds_toArray, List.set_cons_zero, List.set_cons_succ]
     refine wpAnyH_ready (rs := [14]) (by kernel_rfl) (by simp) (AllReadyH.cons (o := ⟨_, _, _, _, _, _⟩) rfl (fun K hK => ?_) AllReadyH.nil)
     go_simp
     refine hK.out _ _ ?_ (fun hHeld => ?_)
     ·trivial
     clear hK K
     try simp only [Act.put, List.setIfInBounds_toArray, List.set_cons_zero, List.set_cons_succ]
     refine wpAnyH_done (by kernel_rfl) ?_ _
     exact REST y2 ao1 c1 ao2 c2 ao3 c3 _ (CYof.out H1.out QQ1.out H2.out QQ2.out) (CS.start (CYof.out H1.out QQ1.out H2.out QQ2.out) H3.out.2.2 (HBk.out _ QQ3.out) rfl) H3.out.1 (FOf.out H3.out.2.1 QQ2.out)
   ·go_simp
    refine hK.out _ _ ?_ (fun hHeld => ?_)
    ·trivial
    clear hK K
    try simp only [Act.put, List.setIfInBounds_toArray, List.set_cons_zero, List.set_cons_succ]
    refine wpAnyH_ready (rs := [2]) (by kernel_rfl) (by simp) (AllReadyH.cons (o := ⟨_, _, _, _, _, _⟩) rfl (fun K hK => ?_) AllReadyH.nil)
    go_simp
    go_at_call 35; refine Calls.mono (C2.out _ Q0.out) ?_; rintro e y1 ⟨ao1, c1, rfl, i1, s1, n1, q1⟩; have H1 := hideIt (And.intro i1 (And.intro s1 (And.intro n1 q1))); have QQ1 := hideIt (Q0.out.trans q1); clear i1 s1 n1 q1 k0 k1 k2; obtain ⟨k0, k1, k2⟩ := HB.out _ QQ1.out
    refine hK.out _ _ ?_ (fun hHeld => ?_)
    ·trivial
    clear hK K
    try simp only [Act.put, List.setIfInBounds_toArray, List.set_cons_zero, List.set_cons_succ]
    refine wpAnyH_take (i := 9) (oi := ⟨_, _, _, _, _, _⟩) (v := ?_) rfl (by kernel_rfl) (by kernel_rfl) (by kernel_rfl) (fun _ _ _ h => h) (Or.inl ⟨by rfl, ?_⟩) (by assumption) ?_
    rotate_left 1
    ·intro w hSw; (try dsimp only at hSw); go_simp; all_goals with_reducible rfl
    try simp only [Act.put, List.setIfInBounds_toArray, List.set_cons_zero, List.set_cons_succ]
    refine wpAnyH_ready (rs := [5]) (by kernel_rfl) (by simp) (AllReadyH.cons (o := ⟨_, _, _, _, _, _⟩) rfl (fun K hK => ?_) AllReadyH.nil)
    go_simp
    go_at_call 36; refine Calls.mono (C5.out _ QQ1.out) ?_; rintro e y2 ⟨ao2, c2, rfl, i2, s2, n2, q2⟩; have H2 := hideIt (And.intro i2 (And.intro s2 (And.intro n2 q2))); have QQ2 := hideIt (QQ1.out.trans q2); clear i2 s2 n2 q2 k0 k1 k2; obtain ⟨k0, k1, k2⟩ := HB.out _ QQ2.out
    refine hK.out _ _ ?_ (fun hHeld => ?_)
    ·trivial
    clear hK K
    try simp only [Act.put, List.setIfInBounds_toArray, List.set_cons_zero, List.set_cons_succ]
    refine wpAnyH_ready (rs := [8]) (by kernel_rfl) (by simp) (AllReadyH.cons (o := ⟨_, _, _, _, _, _⟩) rfl (fun K hK => ?_) AllReadyH.nil)
    go_simp
    go_at_call 37; refine Calls.mono (C8.out _ QQ2.out) ?_; rintro e y3 ⟨ao3, c3, rfl, s3, f3, q3⟩; have H3 := hideIt (And.intro s3 (And.intro f3 q3)); have QQ3 := hideIt (QQ2.out.trans q3); clear s3 f3 q3 k0 k1 k2; obtain ⟨k0, k1, k2⟩ := HB.out _ QQ3.out; obtain ⟨z0, z1, z2⟩ := HZ.out _ QQ3.out
    refine hK.out _ _ ?_ (fun hHeld => ?_)
    ·trivial
    clear hK K
    try simp only [Act.put, List.setIfInBounds_toArray, List.set_cons_zero, List.set_cons_succ]
    refine wpAnyH_ready (rs := [10]) (by kernel_rfl) (by simp) (AllReadyH.cons (o := ⟨_, _, _, _, _, _⟩) rfl (fun K hK => ?_) AllReadyH.nil)
    go_simp
    refine hK.out _ _ ?_ (fun hHeld => ?_)
    ·trivial
    clear hK K
    try simp only [Act.put, List.setIfInBounds_toArray, List.set_cons_zero, List.set_cons_succ]
    refine wpAnyH_take (i := 11) (oi := ⟨_, _, _, _, _, _⟩) (v := ?_) rfl (by kernel_rfl) (by kernel_rfl) (by kernel_rfl) (fun _ _ _ h => h) (Or.inl ⟨by rfl, ?_⟩) (by assumption) ?_
    rotate_left 1
    ·intro w hSw; (try dsimp only at hSw); go_simp; all_goals with_reducible rfl
    try simp only [Act.put, List.setIfInBounds_toArray, List.set_cons_zero, List.set_cons_succ]
    refine wpAnyH_ready (rs := [12]) (by kernel_rfl) (by simp) (AllReadyH.cons (o := ⟨_, _, _, _, _, _⟩) rfl (fun K hK => ?_) AllReadyH.nil)
    go_simp
    refine hK.out _ _ ?_ (fun hHeld => ?_)
    ·trivial
    clear hK K
    try simp only [Act.put, List.setIfInBounds_toArray, List.set_cons_zero, List.set_cons_succ]
    refine wpAnyH_take (i := 13) (oi := ⟨_, _, _, _, _, _⟩) (v := ?_) rfl (by kernel_rfl) (by kernel_rfl) (by kernel_rfl) (fun _ _ _ h => h) (Or.inl ⟨by rfl, ?_⟩) (by assumption) ?_
    rotate_left 1
    ·intro w hSw; (try dsimp only at hSw); go_simp; all_goals with_reducible rfl
    try simp only [Act.put, List.setIfInBounds_toArray, List.set_cons_zero, List.set_cons_succ]
    refine wpAnyH_ready (rs := [14]) (by kernel_rfl) (by simp) (AllReadyH.cons (o := ⟨_, _, _, _, _, _⟩) rfl (fun K hK => ?_) AllReadyH.nil)
    go_simp
    refine hK.out _ _ ?_ (fun hHeld => ?_)
    ·trivial
    clear hK K
    try simp only [Act.put, List.setIfInBounds_toArray, List.set_cons_zero, List.set_cons_succ]
    refine wpAnyH_done (by kernel_rfl) ?_ _
    exact REST y2 ao1 c1 ao2 c2 ao3 c3 _ (CYof.out H1.out QQ1.out H2.out QQ2.out) (CS.start (CYof.out H1.out QQ1.out H2.out QQ2.out) H3.out.2.2 (HBk.out _ QQ3.out) rfl) H3.out.1 (FOf.out H3.out.2.1 QQ2.out)
  ·go_simp
   refine hK.out _ _ ?_ (fun hHeld => ?_)
   ·trivial
   clear hK K
   try simp only [Act.put, List.setIfInBounds_toArray, List.set_cons_zero, List.set_cons_succ]
   refine wpAnyH_ready (rs := [2, 4]) (by kernel_rfl) (by simp) (AllReadyH.cons (o := ⟨_, _, _, _, _, _⟩) rfl (fun K hK => ?_) (AllReadyH.cons (o := ⟨_, _, _, _, _, _⟩) rfl (fun K hK => ?_) AllReadyH.nil))
   ·go_simp
    go_at_call 35; refine Calls.mono (C2.out _ Q0.out) ?_; rintro e y1 ⟨ao1, c1, rfl, i1, s1, n1, q1⟩; have H1 := hideIt (And.intro i1 (And.intro s1 (And.intro n1 q1))); have QQ1 := hideIt (Q0.out.trans q1); clear i1 s1 n1 q1 k0 k1 k2; obtain ⟨k0, k1, k2⟩ := HB.out _ QQ1.out
    refine hK.out _ _ ?_ (fun hHeld => ?_)
    ·trivial
    clear hK K
    try simp only [Act.put, List.setIfInBounds_toArray, List.set_cons_zero, List.set_cons_succ]
    refine wpAnyH_ready (rs := [4]) (by kernel_rfl) (by simp) (AllReadyH.cons (o := ⟨_, _, _, _, _, _⟩) rfl (fun K hK => ?_) AllReadyH.nil)
    go_simp
    refine hK.out _ _ ?_ (fun hHeld => ?_)
    ·trivial
    clear hK K
    try simp only [Act.put, List.setIfInBounds_toArray, List.set_cons_zero, List.set_cons_succ]
    refine wpAnyH_take (i := 9) (oi := ⟨_, _, _, _, _, _⟩) (v := ?_) rfl (by kernel_rfl) (by kernel_rfl) (by kernel_rfl) (fun _ _ _ h => h) (Or.inl ⟨by rfl, ?_⟩) (by assumption) ?_
    rotate_left 1
    ·intro w hSw; (try dsimp only at hSw); go_simp; all_goals with_reducible rfl
    try simp only [Act.put, List.setIfInBounds_toArray, List.set_cons_zero, List.set_cons_succ]
    refine wpAnyH_ready (rs := [5]) (by kernel_rfl) (by simp) (AllReadyH.cons (o := ⟨_, _, _, _, _, _⟩) rfl (fun K hK => ?_) AllReadyH.nil)
    go_simp
    go_at_call 36; refine Calls.mono (C5.out _ QQ1.out) ?_; rintro e y2 ⟨ao2, c2, rfl, i2, s2, n2, q2⟩; have H2 := hideIt (And.intro i2 (And.intro s2 (And.intro n2 q2))); have QQ2 := hideIt (QQ1.out.trans q2); clear i2 s2 n2 q2 k0 k1 k2; obtain ⟨k0, k1, k2⟩ := HB.out _ QQ2.out
    refine hK.out _ _ ?_ (fun hHeld => ?_)
    ·trivial
    clear hK K
    try simp only [Act.put, List.setIfInBounds_toArray, List.set_cons_zero, List.set_cons_succ]
    refine wpAnyH_ready (rs := [8]) (by kernel_rfl) (by simp) (AllReadyH.cons (o := ⟨_, _, _, _, _, _⟩) rfl (fun K hK => ?_) AllReadyH.nil)
    go_simp
    go_at_call 37; refine Calls.mono (C8.out _ QQ2.out) ?_; rintro e y3 ⟨ao3, c3, rfl, s3, f3, q3⟩; have H3 := hideIt (And.intro s3 (And.intro f3 q3)); have QQ3 := hideIt (QQ2.out.trans q3); clear s3 f3 q3 k0 k1 k2; obtain ⟨k0, k1, k2⟩ := HB.out _ QQ3.out; obtain ⟨z0, z1, z2⟩ := HZ.out _ QQ3.out
    refine hK.out _ _ ?_ (fun hHeld => ?_)
    ·trivial
    clear hK K
    try simp only [Act.put, List.setIfInBounds_toArray, List.set_cons_zero, List.set_cons_succ]
    refine wpAnyH_ready (rs := [10]) (by kernel_rfl) (by simp) (AllReadyH.cons (o := ⟨_, _, _, _, _, _⟩) rfl (fun K hK => ?_) AllReadyH.nil)
    go_simp
    refine hK.out _ _ ?_ (fun hHeld => ?_)
    ·trivial
    clear hK K
    try simp only [Act.put, List.setIfInBounds_toArray, List.set_cons_zero, List.set_cons_succ]
    refine wpAnyH_take (i := 11) (oi := ⟨_, _, _, _, _, _⟩) (v := ?_) rfl (by kernel_rfl) (by kernel_rfl) (by kernel_rfl) (fun _ _ _ h => h) (Or.inl ⟨by rfl, ?_⟩) (by assumption) ?_
    rotate_left 1
    ·intro w hSw; (try dsimp only at hSw); go_simp; all_goals with_reducible rfl
    try simp only [Act.put, List.setIfInBounds_toArray, List.set_cons_zero, List.set_cons_succ]
    refine wpAnyH_ready (rs := [12]) (by kernel_rfl) (by simp) (AllReadyH.cons (o := ⟨_, _, _, _, _, _⟩) rfl (fun K hK => ?_) AllReadyH.nil)
    go_simp
    refine hK.out _ _ ?_ (fun hHeld => ?_)
    ·trivial
    clear hK K
    try simp only [Act.put, List.setIfInBounds_toArray, List.set_cons_zero, List.set_cons_succ]
    refine wpAnyH_take (i := 13) (oi := ⟨_, _, _, _, _, _⟩) (v := ?_) rfl (by kernel_rfl) (by kernel_rfl) (by kernel_rfl) (fun _ _ _ h => h) (Or.inl ⟨by rfl, ?_⟩) (by assumption) ?_
    rotate_left 1
    ·intro w hSw; (try dsimp only at hSw); go_simp; all_goals with_reducible rfl
    try simp only [Act.put, List.setIfInBounds_toArray, List.set_cons_zero, List.set_cons_succ]
    refine wpAnyH_ready (rs := [14]) (by kernel_rfl) (by simp) (AllReadyH.cons (o := ⟨_, _, _, _, _, _⟩) rfl (fun K hK => ?_) AllReadyH.nil)
    go_simp
    refine hK.out _ _ ?_ (fun hHeld => ?_)
    ·trivial
    clear hK K
    try simp only [Act.put, List.setIfInBounds_toArray, List.set_cons_zero, List.set_cons_succ]
    refine wpAnyH_done (by kernel_rfl) ?_ _
    exact REST y2 ao1 c1 ao2 c2 ao3 c3 _ (CYof.out H1.out QQ1.out H2.out QQ2.out) (CS.start (CYof.out H1.out QQ1.out H2.out QQ2.out) H3.out.2.2 (HBk.out _ QQ3.out) rfl) H3.out.1 (FOf.out H3.out.2.1 QQ2.out)
   ·go_simp
    refine hK.out _ _ ?_ (fun hHeld => ?_)
    ·trivial
    clear hK K
    try simp only [Act.put, List.setIfInBounds_toArray, List.set_cons_zero, List.set_cons_succ]
    refine wpAnyH_ready (rs := [2]) (by kernel_rfl) (by simp) (AllReadyH.cons (o := ⟨_, _, _, _, _, _⟩) rfl (fun K hK => ?_) AllReadyH.nil)
    go_simp
    go_at_call 35; refine Calls.mono (C2.out _ Q0.out) ?_; rintro e y1 ⟨ao1, c1, rfl, i1, s1, n1, q1⟩; have H1 := hideIt (And.intro i1 (And.intro s1 (And.intro n1 q1))); have QQ1 := hideIt (Q0.out.trans q1); clear i1 s1 n1 q1 k0 k1 k2; obtain ⟨k0, k1, k2⟩ := HB.out _ QQ1.out
    refine hK.out _ _ ?_ (fun hHeld => ?_)
    ·trivial
    clear hK K
    try simp only [Act.put, List.setIfInBounds_toArray, List.set_cons_zero, List.set_cons_succ]
    refine wpAnyH_take (i := 9) (oi := ⟨_, _, _, _, _, _⟩) (v := ?_) rfl (by kernel_rfl) (by kernel_rfl) (by kernel_rfl) (fun _ _ _ h => h) (Or.inl ⟨by rfl, ?_⟩) (by assumption) ?_
    rotate_left 1
    ·intro w hSw; (try dsimp only at hSw); go_simp; all_goals with_reducible rfl
    try simp only [Act.put, List.setIfInBounds_toArray, List.set_cons_zero, List.set_cons_succ]
    refine wpAnyH_ready (rs := [5]) (by kernel_rfl) (by simp) (AllReadyH.cons (o := ⟨_, _, _, _, _, _⟩) rfl (fun K hK => ?_) AllReadyH.nil)
    go_simp
    go_at_call 36; refine Calls.mono (C5.out _ QQ1.out) ?_; rintro e y2 ⟨ao2, c2, rfl, i2, s2, n2, q2⟩; have H2 := hideIt (And.intro i2 (And.intro s2 (And.intro n2 q2))); have QQ2 := hideIt (QQ1.out.trans q2); clear i2 s2 n2 q2 k0 k1 k2; obtain ⟨k0, k1, k2⟩ := HB.out _ QQ2.out
    refine hK.out _ _ ?_ (fun hHeld => ?_)
    ·trivial
    clear hK K
    try simp only [Act.put, List.setIfInBounds_toArray, List.set_cons_zero, List.set_cons_succ]
    refine wpAnyH_ready (rs := [8]) (by kernel_rfl) (by simp) (AllReadyH.cons (o := ⟨_, _, _, _, _, _⟩) rfl (fun K hK => ?_) AllReadyH.nil)
    go_simp
    go_at_call 37; refine Calls.mono (C8.out _ QQ2.out) ?_; rintro e y3 ⟨ao3, c3, rfl, s3, f3, q3⟩; have H3 := hideIt (And.intro s3 (And.intro f3 q3)); have QQ3 := hideIt (QQ2.out.trans q3); clear s3 f3 q3 k0 k1 k2; obtain ⟨k0, k1, k2⟩ := HB.out _ QQ3.out; obtain ⟨z0, z1, z2⟩ := HZ.out _ QQ3.out
    refine hK.out _ _ ?_ (fun hHeld => ?_)
    ·trivial
    clear hK K
    try simp only [Act.put, List.setIfInBounds_toArray, List.set_cons_zero, List.set_cons_succ]
    refine wpAnyH_ready (rs := [10]) (by kernel_rfl) (by simp) (AllReadyH.cons (o := ⟨_, _, _, _, _, _⟩) rfl (fun K hK => ?_) AllReadyH.nil)
    go_simp
    refine hK.out _ _ ?_ (fun hHeld => ?_)
    ·trivial
    clear hK K
    try simp only [Act.put, List.setIfInBounds_toArray, List.set_cons_zero, List.set_cons_succ]
    refine wpAnyH_take (i := 11) (oi := ⟨_, _, _, _, _, _⟩) (v := ?_) rfl (by kernel_rfl) (by kernel_rfl) (by kernel_rfl) (fun _ _ _ h => h) (Or.inl ⟨by rfl, ?_⟩) (by assumption) ?_
    rotate_left 1
    ·intro w hSw; (try dsimp only at hSw); go_simp; all_goals with_reducible rfl
    try simp only [Act.put, List.setIfInBounds_toArray, List.set_cons_zero, List.set_cons_succ]
    refine wpAnyH_ready (rs := [12]) (by kernel_rfl) (by simp) (AllReadyH.cons (o := ⟨_, _, _, _, _, _⟩) rfl (fun K hK => ?_) AllReadyH.nil)
    go_simp
    refine hK.out _ _ ?_ (fun hHeld => ?_)
    ·trivial
    clear hK K
    try simp only [Act.put, List.setIfInBounds_toArray, List.set_cons_zero, List.set_cons_succ]
    refine wpAnyH_take (i := 13) (oi := ⟨_, _, _, _, _, _⟩) (v := ?_) rfl (by kernel_rfl) (by kernel_rfl) (by kernel_rfl) (fun _ _ _ h => h) (Or.inl ⟨by rfl, ?_⟩) (by assumption) ?_
    rotate_left 1
    ·intro w hSw; (try dsimp only at hSw); go_simp; all_goals with_reducible rfl
    try simp only [Act.put, List.setIfInBounds_toArray, List.set_cons_zero, List.set_cons_succ]
    refine wpAnyH_ready (rs := [14]) (by kernel_rfl) (by simp) (AllReadyH.cons (o := ⟨_, _, _, _, _, _⟩) rfl (fun K hK => ?_) AllReadyH.nil)
    go_simp
    refine hK.out _ _ ?_ (fun hHeld => ?_)
    ·trivial
    clear hK K
    try simp only [Act.put, List.setIfInBounds_toArray, List.set_cons_zero, List.set_cons_succ]
    refine wpAnyH_done (by kernel_rfl) ?_ _
    exact REST y2 ao1 c1 ao2 c2 ao3 c3 _ (CYof.out H1.out QQ1.out H2.out QQ2.out) (CS.start (CYof.out H1.out QQ1.out H2.out QQ2.out) H3.out.2.2 (HBk.out _ QQ3.out) rfl) H3.out.1 (FOf.out H3.out.2.1 QQ2.out)
 ·go_simp
  refine hK.out _ _ ?_ (fun hHeld => ?_)
  ·trivial
  clear hK K
  try simp only [Act.put, List.setIfInBounds_toArray, List.set_cons_zero, List.set_cons_succ]
  refine wpAnyH_ready (rs := [1, 7]) (by kernel_rfl) (by simp) (AllReadyH.cons (o := ⟨_, _, _, _, _, _⟩) rfl (fun K hK => ?_) (AllReadyH.cons (o := ⟨_, _, _, _, _, _⟩) rfl (fun K hK => ?_) AllReadyH.nil))
  ·go_simp
   refine hK.out _ _ ?_ (fun hHeld => ?_)
   ·trivial
   clear hK K
   try simp only [Act.put, List.setIfInBounds_toArray, List.set_cons_zero, List.set_cons_succ]
   refine wpAnyH_ready (rs := [2, 7]) (by kernel_rfl) (by simp) (AllReadyH.cons (o := ⟨_, _, _, _, _, _⟩) rfl (fun K hK => ?_) (AllReadyH.cons (o := ⟨_, _, _, _, _, _⟩) rfl (fun K hK => ?_) AllReadyH.nil))
   ·go_simp
    go_at_call 35; refine Calls.mono (C2.out _ Q0.out) ?_; rintro e y1 ⟨ao1, c1, rfl, i1, s1, n1, q1⟩; have H1 := hideIt (And.intro i1 (And.intro s1 (And.intro n1 q1))); have QQ1 := hideIt (Q0.out.trans q1); clear i1 s1 n1 q1 k0 k1 k2; obtain ⟨k0, k1, k2⟩ := HB.out _ QQ1.out
    refine hK.out _ _ ?_ (fun hHeld => ?_)
    ·trivial
    clear hK K
    try simp only [Act.put, List.setIfInBounds_toArray, List.set_cons_zero, List.set_cons_succ]
    refine wpAnyH_ready (rs := [5, 7]) (by kernel_rfl) (by simp) (AllReadyH.cons (o := ⟨_, _, _, _, _, _⟩) rfl (fun K hK => ?_) (AllReadyH.cons (o := ⟨_, _, _, _, _, _⟩) rfl (fun K hK => ?_) AllReadyH.nil))
    ·go_simp
     go_at_call 36; refine Calls.mono (C5.out _ QQ1.out) ?_; rintro e y2 ⟨ao2, c2, rfl, i2, s2, n2, q2⟩; have H2 := hideIt (And.intro i2 (And.intro s2 (And.intro n2 q2))); have QQ2 := hideIt (QQ1.out.trans q2); clear i2 s2 n2 q2 k0 k1 k2; obtain ⟨k0, k1, k2⟩ := HB.out _ QQ2.out
     refine hK.out _ _ ?_ (fun hHeld => ?_)
     ·trivial
     clear hK K
     try simp only [Act.put, List.setIfInBounds_toArray, List.set_cons_zero, List.set_cons_succ]
     refine wpAnyH_ready (rs := [7]) (by kernel_rfl) (by simp) (AllReadyH.cons (o := ⟨_, _, _, _, _, _⟩) rfl (fun K hK => ?_) AllReadyH.nil)
     go_simp
     refine hK.out _ _ ?_ (fun hHeld => ?_)
     ·trivial
     clear hK K
     try simp only [Act.put, List.setIfInBounds_toArray, List.set_cons_zero, List.set_cons_succ]
     refine wpAnyH_take (i := 9) (oi := ⟨_, _, _, _, _, _⟩) (v := ?_) rfl (by kernel_rfl) (by kernel_rfl) (by kernel_rfl) (fun _ _ _ h => h) (Or.inl ⟨by rfl, ?_⟩) (by assumption) ?_
     rotate_left 1
     ·intro w hSw; (try dsimp only at hSw); go_simp; all_goals with_reducible rfl
     try simp only [Act.put, List.setIfInBounds_toArray, List.set_cons_zero, List.set_cons_succ]
     refine wpAnyH_ready (rs := [8]) (by kernel_rfl) (by simp) (AllReadyH.cons (o := ⟨_, _, _, _, _, _⟩) rfl (fun K hK => ?_) AllReadyH.nil)
     go_simp
     go_at_call 37; refine Calls.mono (C8.out _ QQ2.out) ?_; rintro e y3 ⟨ao3, c3, rfl, s3, f3, q3⟩; have H3 := hideIt (And.intro s3 (And.intro f3 q3)); have QQ3 := hideIt (QQ2.out.trans q3); clear s3 f3 q3 k0 k1 k2; obtain ⟨k0, k1, k2⟩ := HB.out _ QQ3.out; obtain ⟨z0, z1, z2⟩ := HZ.out _ QQ3.out
     refine hK.out _ _ ?_ (fun hHeld => ?_)
     ·trivial
     clear hK K
     try simp only [Act.put, List.setIfInBounds_toArray, List.set_cons_zero, List.set_cons_succ]
     refine wpAnyH_ready (rs := [10]) (by kernel_rfl) (by simp) (AllReadyH.cons (o := ⟨_, _, _, _, _, _⟩) rfl (fun K hK => ?_) AllReadyH.nil)
     go_simp
     refine hK.out _ _ ?_ (fun hHeld => ?_)
     ·trivial
     clear hK K
     try simp only [Act.put, List.setIfInBounds_toArray, List.set_cons_zero, List.set_cons_succ]
     refine wpAnyH_take (i := 11) (oi := ⟨_, _, _, _, _, _⟩) (v := ?_) rfl (by kernel_rfl) (by kernel_rfl) (by kernel_rfl) (fun _ _ _ h => h) (Or.inl ⟨by rfl, ?_⟩) (by assumption) ?_
     rotate_left 1
     ·intro w hSw; (try dsimp only at hSw); go_simp; all_goals with_reducible rfl
     try simp only [Act.put, List.setIfInBounds_toArray, List.set_cons_zero, List.set_cons_succ]
     refine wpAnyH_ready (rs := [12]) (by kernel_rfl) (by simp) (AllReadyH.cons (o := ⟨_, _, _, _, _, _⟩) rfl (fun K hK => ?_) AllReadyH.nil)
     go_simp
     refine hK.out _ _ ?_ (fun hHeld => ?_)
     ·trivial
     clear hK K
     try simp only [Act.put, List.setIfInBounds_toArray, List.set_cons_zero, List.set_cons_succ]
     refine wpAnyH_take (i := 13) (oi := ⟨_, _, _, _, _, _⟩) (v := ?_) rfl (by kernel_rfl) (by kernel_rfl) (by kernel_rfl) (fun _ _ _ h => h) (Or.inl ⟨by rfl, ?_⟩) (by assumption) ?_
     rotate_left 1
     ·intro w hSw; (try dsimp only at hSw); go_simp; all_goals with_reducible rfl
     try simp only [Act.put, List.setIfInBounds_toArray, List.set_cons_zero, List.set_cons_succ]
     refine wpAnyH_ready (rs := [14]) (by kernel_rfl) (by simp) (AllReadyH.cons (o := ⟨_, _, _, _, _, _⟩) rfl (fun K hK => ?_) AllReadyH.nil)
     go_simp
     refine hK.out _ _ ?_ (fun hHeld => ?_)
     ·trivial
     clear hK K
     try simp only [Act.put, List.setIfInBounds_toArray, List.set_cons_zero, List.set_cons_succ]
     refine wpAnyH_done (by kernel_rfl) ?_ _
     exact REST y2 ao1 c1 ao2 c2 ao3 c3 _ (CYof.out H1.out QQ1.out H2.out QQ2.out) (CS.start (CYof.out H1.out QQ1.out H2.out QQ2.out) H3.out.2.2 (HBk.out _ QQ3.out) rfl) H3.out.1 (FOf.out H3.out.2.1 QQ2.out)
    ·go_simp
     refine hK.out _ _ ?_ (fun hHeld => ?_)
     ·trivial
     clear hK K
     try simp only [Act.put, List.setIfInBounds_toArray, List.set_cons_zero, List.set_cons_succ]
     refine wpAnyH_take (i := 9) (oi := ⟨_, _, _, _, _, _⟩) (v := ?_) rfl (by kernel_rfl) (by kernel_rfl) (by kernel_rfl) (fun _ _ _ h => h) (Or.inl ⟨by rfl, ?_⟩) (by assumption) ?_
     rotate_left 1
     ·intro w hSw; (try dsimp only at hSw); go_simp; all_goals with_reducible rfl
     try simp only [Act.put, List.setIfInBounds_toArray, List.set_cons_zero, List.set_cons_succ]
     refine wpAnyH_ready (rs := [5]) (by kernel_rfl) (by simp) (AllReadyH.cons (o := ⟨_, _, _, _, _, _⟩) rfl (fun K hK => ?_) AllReadyH.nil)
     go_simp
     go_at_call 36; refine Calls.mono (C5.out _ QQ1.out) ?_; rintro e y2 ⟨ao2, c2, rfl, i2, s2, n2, q2⟩; have H2 := hideIt (And.intro i2 (And.intro s2 (And.intro n2 q2))); have QQ2 := hideIt (QQ1.out.trans q2); clear i2 s2 n2 q2 k0 k1 k2; obtain ⟨k0, k1, k2⟩ := HB.out _ QQ2.out
     refine hK.out _ _ ?_ (fun hHeld => ?_)
     ·trivial
     clear hK K
     try simp only [Act.put, List.setIfInBounds_toArray, List.set_cons_zero, List.set_cons_succ]
     refine wpAnyH_ready (rs := [8]) (by kernel_rfl) (by simp) (AllReadyH.cons (o := ⟨_, _, _, _, _, _⟩) rfl (fun K hK => ?_) AllReadyH.nil)
     go_simp
     go_at_call 37; refine Calls.mono (C8.out _ QQ2.out) ?_; rintro e y3 ⟨ao3, c3, rfl, s3, f3, q3⟩; have H3 := hideIt (And.intro s3 (And.intro f3 q3)); have QQ3 := hideIt (QQ2.out.trans q3); clear s3 f3 q3 k0 k1 k2; obtain ⟨k0, k1, k2⟩ := HB.out _ QQ3.out; obtain ⟨z0, z1, z2⟩ := HZ.out _ QQ3.out
     refine hK.out _ _ ?_ (fun hHeld => ?_)
     ·trivial
     clear hK K
     try simp only [Act.put, List.setIfInBounds_toArray, List.set_cons_zero, List.set_cons_succ]
     refine wpAnyH_ready (rs := [10]) (by kernel_rfl) (by simp) (AllReadyH.cons (o := ⟨_, _, _, _, _, _⟩) rfl (fun K hK => ?_) AllReadyH.nil)
     go_simp
     refine hK.out _ _ ?_ (fun hHeld => ?_)
     ·trivial
     clear hK K
     try simp only [Act.put, List.setIfInBounds_toArray, List.set_cons_zero, List.set_cons_succ]
     refine wpAnyH_take (i := 11) (oi := ⟨_, _, _, _, _, _⟩) (v := ?_) rfl (by kernel_rfl) (by kernel_rfl) (by kernel_rfl) (fun _ _ _ h => h) (Or.inl ⟨by rfl, ?_⟩) (by assumption) ?_
     rotate_left 1
     ·intro w hSw; (try dsimp only at hSw); go_simp; all_goals with_reducible rfl
     try simp only [Act.put, List.setIfInBounds_toArray, List.set_cons_zero, List.set_cons_succ]
     refine wpAnyH_ready (rs := [12]) (by kernel_rfl) (by simp) (AllReadyH.cons (o := ⟨_, _, _, _, _, _⟩) rfl (fun K hK => ?_) AllReadyH.nil)
     go_simp
     refine hK.out _ _ ?_ (fun hHeld => ?_)
     ·trivial
     clear hK K
     try simp only [Act.put, List.setIfInBounds_toArray, List.set_cons_zero, List.set_cons_succ]
     refine wpAnyH_take (i := 13) (oi := ⟨_, _, _, _, _, _⟩) (v := ?_) rfl (by kernel_rfl) (by kernel_rfl) (by kernel_rfl) (fun _ _ _ h => h) (Or.inl ⟨by rfl, ?_⟩) (by assumption) ?_
     rotate_left 1
     ·intro w hSw; (try dsimp only at hSw); go_simp; all_goals with_reducible rfl
     try simp only [Act.put, List.setIfInBounds_toArray, List.set_cons_zero, List.set_cons_succ]
     refine wpAnyH_ready (rs := [14]) (by kernel_rfl) (by simp) (AllReadyH.cons (o := ⟨_, _, _, _, _, _⟩) rfl (fun K hK => ?_) AllReadyH.nil)
     go_simp
     refine hK.out _ _ ?_ (fun hHeld => ?_)
     ·trivial
     clear hK K
     try simp only [Act.put, List.setIfInBounds_toArray, List.set_cons_zero, List.set_cons_succ]
     refine wpAnyH_done (by kernel_rfl) ?_ _
     exact REST y2 ao1 c1 ao2 c2 ao3 c3 _ (CYof.out H1.out QQ1.out H2.out QQ2.out) (CS.start (CYof.out H1.out QQ1.out H2.out QQ2.out) H3.out.2.2 (HBk.out _ QQ3.out) rfl) H3.out.1 (FOf.out H3.out.2.1 QQ2.out)
   ·go_simp
    refine hK.out _ _ ?_ (fun hHeld => ?_)
    ·trivial
    clear hK K
    try simp only [Act.put, List.setIfInBounds_toArray, List.set_cons_zero, List.set_cons_succ]
    refine wpAnyH_ready (rs := [2]) (by kernel_rfl) (by simp) (AllReadyH.cons (o := ⟨_, _, _, _, _, _⟩) rfl (fun K hK => ?_) AllReadyH.nil)
    go_simp
    go_at_call 35; refine Calls.mono (C2.out _ Q0.out) ?_; rintro e y1 ⟨ao1, c1, rfl, i1, s1, n1, q1⟩; have H1 := hideIt (And.intro i1 (And.intro s1 (And.intro n1 q1))); have QQ1 := hideIt (Q0.out.trans q1); clear i1 s1 n1 q1 k0 k1 k2; obtain ⟨k0, k1, k2⟩ := HB.out _ QQ1.out
    refine hK.out _ _ ?_ (fun hHeld => ?_)
    ·trivial
    clear hK K
    try simp only [Act.put, List.setIfInBounds_toArray, List.set_cons_zero, List.set_cons_succ]
    refine wpAnyH_take (i := 9) (oi := ⟨_, _, _, _, _, _⟩) (v := ?_) rfl (by kernel_rfl) (by kernel_rfl) (by kernel_rfl) (fun _ _ _ h => h) (Or.inl ⟨by rfl, ?_⟩) (by assumption) ?_
    rotate_left 1
    ·intro w hSw; (try dsimp only at hSw); go_simp; all_goals with_reducible rfl
    try simp only [Act.put, List.setIfInBounds_toArray, List.set_cons_zero, List.set_cons_succ]
    refine wpAnyH_ready (rs := [5]) (by kernel_rfl) (by simp) (AllReadyH.cons (o := ⟨_, _, _, _, _, _⟩) rfl (fun K hK => ?_) AllReadyH.nil)
    go_simp
    go_at_call 36; refine Calls.mono (C5.out _ QQ1.out) ?_; rintro e y2 ⟨ao2, c2, rfl, i2, s2, n2, q2⟩; have H2 := hideIt (And.intro i2 (And.intro s2 (And.intro n2 q2))); have QQ2 := hideIt (QQ1.out.trans q2); clear i2 s2 n2 q2 k0 k1 k2; obtain ⟨k0, k1, k2⟩ := HB.out _ QQ2.out
    refine hK.out _ _ ?_ (fun hHeld => ?_)
    ·trivial
    clear hK K
    try simp only [Act.put, List.setIfInBounds_toArray, List.set_cons_zero, List.set_cons_succ]
    refine wpAnyH_ready (rs := [8]) (by kernel_rfl) (by simp) (AllReadyH.cons (o := ⟨_, _, _, _, _, _⟩) rfl (fun K hK => ?_) AllReadyH.nil)
    go_simp
    go_at_call 37; refine Calls.mono (C8.out _ QQ2.out) ?_; rintro e y3 ⟨ao3, c3, rfl, s3, f3, q3⟩; have H3 := hideIt (And.intro s3 (And.intro f3 q3)); have QQ3 := hideIt (QQ2.out.trans q3); clear s3 f3 q3 k0 k1 k2; obtain ⟨k0, k1, k2⟩ := HB.out _ QQ3.out; obtain ⟨z0, z1, z2⟩ := HZ.out _ QQ3.out
    refine hK.out _ _ ?_ (fun hHeld => ?_)
    ·trivial
    clear hK K
    try simp only [Act.put, List.setIfInBounds_toArray, List.set_cons_zero, List.set_cons_succ]
    refine wpAnyH_ready (rs := [10]) (by kernel_rfl) (by simp) (AllReadyH.cons (o := ⟨_, _, _, _, _, _⟩) rfl (fun K hK => ?_) AllReadyH.nil)
    go_simp
    refine hK.out _ _ ?_ (fun hHeld => ?_)
    ·trivial
    clear hK K
    try simp only [Act.put, List.setIfInBounds_toArray, List.set_cons_zero, List.set_cons_succ]
    refine wpAnyH_take (i := 11) (oi := ⟨_, _, _, _, _, _⟩) (v := ?_) rfl (by kernel_rfl) (by kernel_rfl) (by kernel_rfl) (fun _ _ _ h => h) (Or.inl ⟨by rfl, ?_⟩) (by assumption) ?_
    rotate_left 1
    ·intro w hSw; (try dsimp only at hSw); go_simp; all_goals with_reducible rfl
    try simp only [Act.put, List.setIfInBounds_toArray, List.set_cons_zero, List.set_cons_succ]
    refine wpAnyH_ready (rs := [12]) (by kernel_rfl) (by simp) (AllReadyH.cons (o := ⟨_, _, _, _, _, _⟩) rfl (fun K hK => ?_) AllReadyH.nil)
    go_simp
    refine hK.out _ _ ?_ (fun hHeld => ?_)
    ·trivial
    clear hK K
    try simp only [Act.put, List.setIfInBounds_toArray, List.set_cons_zero, List.set_cons_succ]
    refine wpAnyH_take (i := 13) (oi := ⟨_, _, _, _, _, _⟩) (v := ?_) rfl (by kernel_rfl) (by kernel_rfl) (by kernel_rfl) (fun _ _ _ h => h) (Or.inl ⟨by rfl, ?_⟩) (by assumption) ?_
    rotate_left 1
    ·intro w hSw; (try dsimp only at hSw); go_simp; all_goals with_reducible rfl
    try simp only [Act.put, List.setIfInBounds_toArray, List.set_cons_zero, List.set_cons_succ]
    refine wpAnyH_ready (rs := [14]) (by kernel_rfl) (by simp) (AllReadyH.cons (o := ⟨_, _, _, _, _, _⟩) rfl (fun K hK => ?_) AllReadyH.nil)
    go_simp
    refine hK.out _ _ ?_ (fun hHeld => ?_)
    ·trivial
    clear hK K
    try simp only [Act.put, List.setIfInBounds_toArray, List.set_cons_zero, List.set_cons_succ]
    refine wpAnyH_done (by kernel_rfl) ?_ _
    exact REST y2 ao1 c1 ao2 c2 ao3 c3 _ (CYof.out H1.out QQ1.out H2.out QQ2.out) (CS.start (CYof.out H1.out QQ1.out H2.out QQ2.out) H3.out.2.2 (HBk.out _ QQ3.out) rfl) H3.out.1 (FOf.out H3.out.2.1 QQ2.out)
  ·go_simp
   refine hK.out _ _ ?_ (fun hHeld => ?_)
   ·trivial
   clear hK K
   try simp only [Act.put, List.setIfInBounds_toArray, List.set_cons_zero, List.set_cons_succ]
   refine wpAnyH_ready (rs := [1]) (by kernel_rfl) (by simp) (AllReadyH.cons (o := ⟨_, _, _, _, _, _⟩) rfl (fun K hK => ?_) AllReadyH.nil)
   go_simp
   refine hK.out _ _ ?_ (fun hHeld => ?_)
   ·trivial
   clear hK K
   try simp only [Act.put, List.setIfInBounds_toArray, List.set_cons_zero, List.set_cons_succ]
   refine wpAnyH_ready (rs := [2]) (by kernel_rfl) (by simp) (AllReadyH.cons (o := ⟨_, _, _, _, _, _⟩) rfl (fun K hK => ?_) AllReadyH.nil)
   go_simp
   go_at_call 35; refine Calls.mono (C2.out _ Q0.out) ?_; rintro e y1 ⟨ao1, c1, rfl, i1, s1, n1, q1⟩; have H1 := hideIt (And.intro i1 (And.intro s1 (And.intro n1 q1))); have QQ1 := hideIt (Q0.out.trans q1); clear i1 s1 n1 q1 k0 k1 k2; obtain ⟨k0, k1, k2⟩ := HB.out _ QQ1.out
   refine hK.out _ _ ?_ (fun hHeld => ?_)
   ·trivial
   clear hK K
   try simp only [Act.put, List.setIfInBounds_toArray, List.set_cons_zero, List.set_cons_succ]
   refine wpAnyH_take (i := 9) (oi := ⟨_, _, _, _, _, _⟩) (v := ?_) rfl (by kernel_rfl) (by kernel_rfl) (by kernel_rfl) (fun _ _ _ h => h) (Or.inl ⟨by rfl, ?_⟩) (by assumption) ?_
   rotate_left 1
   ·intro w hSw; (try dsimp only at hSw); go_simp; all_goals with_reducible rfl
   try simp only [Act.put, List.setIfInBounds_toArray, List.set_cons_zero, List.set_cons_succ]
   refine wpAnyH_ready (rs := [5]) (by kernel_rfl) (by simp) (AllReadyH.cons (o := ⟨_, _, _, _, _, _⟩) rfl (fun K hK => ?_) AllReadyH.nil)
   go_simp
   go_at_call 36; refine Calls.mono (C5.out _ QQ1.out) ?_; rintro e y2 ⟨ao2, c2, rfl, i2, s2, n2, q2⟩; have H2 := hideIt (And.intro i2 (And.intro s2 (And.intro n2 q2))); have QQ2 := hideIt (QQ1.out.trans q2); clear i2 s2 n2 q2 k0 k1 k2; obtain ⟨k0, k1, k2⟩ := HB.out _ QQ2.out
   refine hK.out _ _ ?_ (fun hHeld => ?_)
   ·trivial
   clear hK K
   try simp only [Act.put, List.setIfInBounds_toArray, List.set_cons_zero, List.set_cons_succ]
   refine wpAnyH_ready (rs := [8]) (by kernel_rfl) (by simp) (AllReadyH.cons (o := ⟨_, _, _, _, _, _⟩) rfl (fun K hK => ?_) AllReadyH.nil)
   go_simp
   go_at_call 37; refine Calls.mono (C8.out _ QQ2.out) ?_; rintro e y3 ⟨ao3, c3, rfl, s3, f3, q3⟩; have H3 := hideIt (And.intro s3 (And.intro f3 q3)); have QQ3 := hideIt (QQ2.out.trans q3); clear s3 f3 q3 k0 k1 k2; obtain ⟨k0, k1, k2⟩ := HB.out _ QQ3.out; obtain ⟨z0, z1, z2⟩ := HZ.out _ QQ3.out
   refine hK.out _ _ ?_ (fun hHeld => ?_)
   ·trivial
   clear hK K
   try simp only [Act.put, List.setIfInBounds_toArray, List.set_cons_zero, List.set_cons_succ]
   refine wpAnyH_ready (rs := [10]) (by kernel_rfl) (by simp) (AllReadyH.cons (o := ⟨_, _, _, _, _, _⟩) rfl (fun K hK => ?_) AllReadyH.nil)
   go_simp
   refine hK.out _ _ ?_ (fun hHeld => ?_)
   ·trivial
   clear hK K
   try simp only [Act.put, List.setIfInBounds_toArray, List.set_cons_zero, List.set_cons_succ]
   refine wpAnyH_take (i := 11) (oi := ⟨_, _, _, _, _, _⟩) (v := ?_) rfl (by kernel_rfl) (by kernel_rfl) (by kernel_rfl) (fun _ _ _ h => h) (Or.inl ⟨by rfl, ?_⟩) (by assumption) ?_
   rotate_left 1
   ·intro w hSw; (try dsimp only at hSw); go_simp; all_goals with_reducible rfl
   try simp only [Act.put, List.setIfInBounds_toArray, List.set_cons_zero, List.set_cons_succ]
   refine wpAnyH_ready (rs := [12]) (by kernel_rfl) (by simp) (AllReadyH.cons (o := ⟨_, _, _, _, _, _⟩) rfl (fun K hK => ?_) AllReadyH.nil)
   go_simp
   refine hK.out _ _ ?_ (fun hHeld => ?_)
   ·trivial
   clear hK K
   try simp only [Act.put, List.setIfInBounds_toArray, List.set_cons_zero, List.set_cons_succ]
   refine wpAnyH_take (i := 13) (oi := ⟨_, _, _, _, _, _⟩) (v := ?_) rfl (by kernel_rfl) (by kernel_rfl) (by kernel_rfl) (fun _ _ _ h => h) (Or.inl ⟨by rfl, ?_⟩) (by assumption) ?_
   rotate_left 1
   ·intro w hSw; (try dsimp only at hSw); go_simp; all_goals with_reducible rfl
   try simp only [Act.put, List.setIfInBounds_toArray, List.set_cons_zero, List.set_cons_succ]
   refine wpAnyH_ready (rs := [14]) (by kernel_rfl) (by simp) (AllReadyH.cons (o := ⟨_, _, _, _, _, _⟩) rfl (fun K hK => ?_) AllReadyH.nil)
   go_simp
   refine hK.out _ _ ?_ (fun hHeld => ?_)
   ·trivial
   clear hK K
   try simp only [Act.put, List.setIfInBounds_toArray, List.set_cons_zero, List.set_cons_succ]
   refine wpAnyH_done (by kernel_rfl) ?_ _
   exact REST y2 ao1 c1 ao2 c2 ao3 c3 _ (CYof.out H1.out QQ1.out H2.out QQ2.out) (CS.start (CYof.out H1.out QQ1.out H2.out QQ2.out) H3.out.2.2 (HBk.out _ QQ3.out) rfl) H3.out.1 (FOf.out H3.out.2.1 QQ2.out)
 ·go_simp
  refine hK.out _ _ ?_ (fun hHeld => ?_)
  ·trivial
  clear hK K
  try simp only [Act.put, List.setIfInBounds_toArray, List.set_cons_zero, List.set_cons_succ]
  refine wpAnyH_ready (rs := [1, 4]) (by kernel_rfl) (by simp) (AllReadyH.cons (o := ⟨_, _, _, _, _, _⟩) rfl (fun K hK => ?_) (AllReadyH.cons (o := ⟨_, _, _, _, _, _⟩) rfl (fun K hK => ?_) AllReadyH.nil))
  ·go_simp
   refine hK.out _ _ ?_ (fun hHeld => ?_)
   ·trivial
   clear hK K
   try simp only [Act.put, List.setIfInBounds_toArray, List.set_cons_zero, List.set_cons_succ]
   refine wpAnyH_ready (rs := [2, 4]) (by kernel_rfl) (by simp) (AllReadyH.cons (o := ⟨_, _, _, _, _, _⟩) rfl (fun K hK => ?_) (AllReadyH.cons (o := ⟨_, _, _, _, _, _⟩) rfl (fun K hK => ?_) AllReadyH.nil))
   ·go_simp
    go_at_call 35; refine Calls.mono (C2.out _ Q0.out) ?_; rintro e y1 ⟨ao1, c1, rfl, i1, s1, n1, q1⟩; have H1 := hideIt (And.intro i1 (And.intro s1 (And.intro n1 q1))); have QQ1 := hideIt (Q0.out.trans q1); clear i1 s1 n1 q1 k0 k1 k2; obtain ⟨k0, k1, k2⟩ := HB.out _ QQ1.out
    refine hK.out _ _ ?_ (fun hHeld => ?_)
    ·trivial
    clear hK K
    try simp only [Act.put, List.setIfInBounds_toArray, List.set_cons_zero, List.set_cons_succ]
    refine wpAnyH_ready (rs := [4]) (by kernel_rfl) (by simp) (AllReadyH.cons (o := ⟨_, _, _, _, _, _⟩) rfl (fun K hK => ?_) AllReadyH.nil)
    go_simp
    refine hK.out _ _ ?_ (fun hHeld => ?_)
    ·trivial
    clear hK K
    try simp only [Act.put, List.setIfInBounds_toArray, List.set_cons_zero, List.set_cons_succ]
    refine wpAnyH_take (i := 9) (oi := ⟨_, _, _, _, _, _⟩) (v := ?_) rfl (by kernel_rfl) (by kernel_rfl) (by kernel_rfl) (fun _ _ _ h => h) (Or.inl ⟨by rfl, ?_⟩) (by assumption) ?_
    rotate_left 1
    ·intro w hSw; (try dsimp only at hSw); go_simp; all_goals with_reducible rfl
    try simp only [Act.put, List.setIfInBounds_toArray, List.set_cons_zero, List.set_cons_succ]
    refine wpAnyH_ready (rs := [5]) (by kernel_rfl) (by simp) (AllReadyH.cons (o := ⟨_, _, _, _, _, _⟩) rfl (fun K hK => ?_) AllReadyH.nil)
    go_simp
    go_at_call 36; refine Calls.mono (C5.out _ QQ1.out) ?_; rintro e y2 ⟨ao2, c2, rfl, i2, s2, n2, q2⟩; have H2 := hideIt (And.intro i2 (And.intro s2 (And.intro n2 q2))); have QQ2 := hideIt (QQ1.out.trans q2); clear i2 s2 n2 q2 k0 k1 k2; obtain ⟨k0, k1, k2⟩ := HB.out _ QQ2.out
    refine hK.out _ _ ?_ (fun hHeld => ?_)
    ·trivial
    clear hK K
    try simp only [Act.put, List.setIfInBounds_toArray, List.set_cons_zero, List.set_cons_succ]
    refine wpAnyH_ready (rs := [8]) (by kernel_rfl) (by simp) (AllReadyH.cons (o := ⟨_, _, _, _, _, _⟩) rfl (fun K hK => ?_) AllReadyH.nil)
    go_simp
    go_at_call 37; refine Calls.mono (C8.out _ QQ2.out) ?_; rintro e y3 ⟨ao3, c3, rfl, s3, f3, q3⟩; have H3 := hideIt (And.intro s3 (And.intro f3 q3)); have QQ3 := hideIt (QQ2.out.trans q3); clear s3 f3 q3 k0 k1 k2; obtain ⟨k0, k1, k2⟩ := HB.out _ QQ3.out; obtain ⟨z0, z1, z2⟩ := HZ.out _ QQ3.out
    refine hK.out _ _ ?_ (fun hHeld => ?_)
    ·trivial
    clear hK K
    try simp only [Act.put, List.setIfInBounds_toArray, List.set_cons_zero, List.set_cons_succ]
    refine wpAnyH_ready (rs := [10]) (by kernel_rfl) (by simp) (AllReadyH.cons (o := ⟨_, _, _, _, _, _⟩) rfl (fun K hK => ?_) AllReadyH.nil)
    go_simp
    refine hK.out _ _ ?_ (fun hHeld => ?_)
    ·trivial
    clear hK K
    try simp only [Act.put, List.setIfInBounds_toArray, List.set_cons_zero, List.set_cons_succ]
    refine wpAnyH_take (i := 11) (oi := ⟨_, _, _, _, _, _⟩) (v := ?_) rfl (by kernel_rfl) (by kernel_rfl) (by kernel_rfl) (fun _ _ _ h => h) (Or.inl ⟨by rfl, ?_⟩) (by assumption) ?_
    rotate_left 1
    ·intro w hSw; (try dsimp only at hSw); go_simp; all_goals with_reducible rfl
    try simp only [Act.put, List.setIfInBounds_toArray, List.set_cons_zero, List.set_cons_succ]
    refine wpAnyH_ready (rs := [12]) (by kernel_rfl) (by simp) (AllReadyH.cons (o := ⟨_, _, _, _, _, _⟩) rfl (fun K hK => ?_) AllReadyH.nil)
    go_simp
    refine hK.out _ _ ?_ (fun hHeld => ?_)
    ·trivial
    clear hK K
    try simp only [Act.put, List.setIfInBounds_toArray, List.set_cons_zero, List.set_cons_succ]
    refine wpAnyH_take (i := 13) (oi := ⟨_, _, _, _, _, _⟩) (v := ?_) rfl (by kernel_rfl) (by kernel_rfl) (by kernel_rfl) (fun _ _ _ h => h) (Or.inl ⟨by rfl, ?_⟩) (by assumption) ?_
    rotate_left 1
    ·intro w hSw; (try dsimp only at hSw); go_simp; all_goals with_reducible rfl
    try simp only [Act.put, List.setIfInBounds_toArray, List.set_cons_zero, List.set_cons_succ]
    refine wpAnyH_ready (rs := [14]) (by kernel_rfl) (by simp) (AllReadyH.cons (o := ⟨_, _, _, _, _, _⟩) rfl (fun K hK => ?_) AllReadyH.nil)
    go_simp
    refine hK.out _ _ ?_ (fun hHeld => ?_)
    ·trivial
    clear hK K
    try simp only [Act.put, List.setIfInBounds_toArray, List.set_cons_zero, List.set_cons_succ]
    refine wpAnyH_done (by kernel_rfl) ?_ _
    exact REST y2 ao1 c1 ao2 c2 ao3 c3 _ (CYof.out H1.out QQ1.out H2.out QQ2.out) (CS.start (CYof.out H1.out QQ1.out H2.out QQ2.out) H3.out.2.2 (HBk.out _ QQ3.out) rfl) H3.out.1 (FOf.out H3.out.2.1 QQ2.out)
   ·go_simp
    refine hK.out _ _ ?_ (fun hHeld => ?_)
    ·trivial
    clear hK K
    try simp only [Act.put, List.setIfInBounds_toArray, List.set_cons_zero, List.set_cons_succ]
    refine wpAnyH_ready (rs := [2]) (by kernel_rfl) (by simp) (AllReadyH.cons (o := ⟨_, _, _, _, _, _⟩) rfl (fun K hK => ?_) AllReadyH.nil)
    go_simp
    go_at_call 35; refine Calls.mono (C2.out _ Q0.out) ?_; rintro e y1 ⟨ao1, c1, rfl, i1, s1, n1, q1⟩; have H1 := hideIt (And.intro i1 (And.intro s1 (And.intro n1 q1))); have QQ1 := hideIt (Q0.out.trans q1); clear i1 s1 n1 q1 k0 k1 k2; obtain ⟨k0, k1, k2⟩ := HB.out _ QQ1.out
    refine hK.out _ _ ?_ (fun hHeld => ?_)
    ·trivial
    clear hK K
    try simp only [Act.put, List.setIfInBounds_toArray, List.set_cons_zero, List.set_cons_succ]
    refine wpAnyH_take (i := 9) (oi := ⟨_, _, _, _, _, _⟩) (v := ?_) rfl (by kernel_rfl) (by kernel_rfl) (by kernel_rfl) (fun _ _ _ h => h) (Or.inl ⟨by rfl, ?_⟩) (by assumption) ?_
    rotate_left 1
    ·intro w hSw; (try dsimp only at hSw); go_simp; all_goals with_reducible rfl
    try simp only [Act.put, List.setIfInBounds_toArray, List.set_cons_zero, List.set_cons_succ]
    refine wpAnyH_ready (rs := [5]) (by kernel_rfl) (by simp) (AllReadyH.cons (o := ⟨_, _, _, _, _, _⟩) rfl (fun K hK => ?_) AllReadyH.nil)
    go_simp
    go_at_call 36; refine Calls.mono (C5.out _ QQ1.out) ?_; rintro e y2 ⟨ao2, c2, rfl, i2, s2, n2, q2⟩; have H2 := hideIt (And.intro i2 (And.intro s2 (And.intro n2 q2))); have QQ2 := hideIt (QQ1.out.trans q2); clear i2 s2 n2 q2 k0 k1 k2; obtain ⟨k0, k1, k2⟩ := HB.out _ QQ2.out
    refine hK.out _ _ ?_ (fun hHeld => ?_)
    ·trivial
    clear hK K
    try simp only [Act.put, List.setIfInBounds_toArray, List.set_cons_zero, List.set_cons_succ]
    refine wpAnyH_ready (rs := [8]) (by kernel_rfl) (by simp) (AllReadyH.cons (o := ⟨_, _, _, _, _, _⟩) rfl (fun K hK => ?_) AllReadyH.nil)
    go_simp
    go_at_call 37; refine Calls.mono (C8.out _ QQ2.out) ?_; rintro e y3 ⟨ao3, c3, rfl, s3, f3, q3⟩; have H3 := hideIt (And.intro s3 (And.intro f3 q3)); have QQ3 := hideIt (QQ2.out.trans q3); clear s3 f3 q3 k0 k1 k2; obtain ⟨k0, k1, k2⟩ := HB.out _ QQ3.out; obtain ⟨z0, z1, z2⟩ := HZ.out _ QQ3.out
    refine hK.out _ _ ?_ (fun hHeld => ?_)
    ·trivial
    clear hK K
    try simp only [Act.put, List.setIfInBounds_toArray, List.set_cons_zero, List.set_cons_succ]
    refine wpAnyH_ready (rs := [10]) (by kernel_rfl) (by simp) (AllReadyH.cons (o := ⟨_, _, _, _, _, _⟩) rfl (fun K hK => ?_) AllReadyH.nil)
    go_simp
    refine hK.out _ _ ?_ (fun hHeld => ?_)
    ·trivial
    clear hK K
    try simp only [Act.put, List.setIfInBounds_toArray, List.set_cons_zero, List.set_cons_succ]
    refine wpAnyH_take (i := 11) (oi := ⟨_, _, _, _, _, _⟩) (v := ?_) rfl (by kernel_rfl) (by kernel_rfl) (by kernel_rfl) (fun _ _ _ h => h) (Or.inl ⟨by rfl, ?_⟩) (by assumption) ?_
    rotate_left 1
    ·intro w hSw; (try dsimp only at hSw); go_simp; all_goals with_reducible rfl
    try simp only [Act.put, List.setIfInBounds_toArray, List.set_cons_zero, List.set_cons_succ]
    refine wpAnyH_ready (rs := [12]) (by kernel_rfl) (by simp) (AllReadyH.cons (o := ⟨_, _, _, _, _, _⟩) rfl (fun K hK => ?_) AllReadyH.nil)
    go_simp
    refine hK.out _ _ ?_ (fun hHeld => ?_)
    ·trivial
    clear hK K
    try simp only [Act.put, List.setIfInBounds_toArray, List.set_cons_zero, List.set_cons_succ]
    refine wpAnyH_take (i := 13) (oi := ⟨_, _, _, _, _, _⟩) (v := ?_) rfl (by kernel_rfl) (by kernel_rfl) (by kernel_rfl) (fun _ _ _ h => h) (Or.inl ⟨by rfl, ?_⟩) (by assumption) ?_
    rotate_left 1
    ·intro w hSw; (try dsimp only at hSw); go_simp; all_goals with_reducible rfl
    try simp only [Act.put, List.setIfInBounds_toArray, List.set_cons_zero, List.set_cons_succ]
    refine wpAnyH_ready (rs := [14]) (by kernel_rfl) (by simp) (AllReadyH.cons (o := ⟨_, _, _, _, _, _⟩) rfl (fun K hK => ?_) AllReadyH.nil)
    go_simp
    refine hK.out _ _ ?_ (fun hHeld => ?_)
    ·trivial
    clear hK K
    try simp only [Act.put, List.setIfInBounds_toArray, List.set_cons_zero, List.set_cons_succ]
    refine wpAnyH_done (by kernel_rfl) ?_ _
    exact REST y2 ao1 c1 ao2 c2 ao3 c3 _ (CYof.out H1.out QQ1.out H2.out QQ2.out) (CS.start (CYof.out H1.out QQ1.out H2.out QQ2.out) H3.out.2.2 (HBk.out _ QQ3.out) rfl) H3.out.1 (FOf.out H3.out.2.1 QQ2.out)
  ·go_simp
   refine hK.out _ _ ?_ (fun hHeld => ?_)
   ·trivial
   clear hK K
   try simp only [Act.put, List.setIfInBounds_toArray, List.set_cons_zero, List.set_cons_succ]
   refine wpAnyH_ready (rs := [1]) (by kernel_rfl) (by simp) (AllReadyH.cons (o := ⟨_, _, _, _, _, _⟩) rfl (fun K hK => ?_) AllReadyH.nil)
   go_simp
   refine hK.out _ _ ?_ (fun hHeld => ?_)
   ·trivial
   clear hK K
   try simp only [Act.put, List.setIfInBounds_toArray, List.set_cons_zero, List.set_cons_succ]
   refine wpAnyH_ready (rs := [2]) (by kernel_rfl) (by simp) (AllReadyH.cons (o := ⟨_, _, _, _, _, _⟩) rfl (fun K hK => ?_) AllReadyH.nil)
   go_simp
   go_at_call 35; refine Calls.mono (C2.out _ Q0.out) ?_; rintro e y1 ⟨ao1, c1, rfl, i1, s1, n1, q1⟩; have H1 := hideIt (And.intro i1 (And.intro s1 (And.intro n1 q1))); have QQ1 := hideIt (Q0.out.trans q1); clear i1 s1 n1 q1 k0 k1 k2; obtain ⟨k0, k1, k2⟩ := HB.out _ QQ1.out
   refine hK.out _ _ ?_ (fun hHeld => ?_)
   ·trivial
   clear hK K
   try simp only [Act.put, List.setIfInBounds_toArray, List.set_cons_zero, List.set_cons_succ]
   refine wpAnyH_take (i := 9) (oi := ⟨_, _, _, _, _, _⟩) (v := ?_) rfl (by kernel_rfl) (by kernel_rfl) (by kernel_rfl) (fun _ _ _ h => h) (Or.inl ⟨by rfl, ?_⟩) (by assumption) ?_
   rotate_left 1
   ·intro w hSw; (try dsimp only at hSw); go_simp; all_goals with_reducible rfl
   try simp only [Act.put, List.setIfInBounds_toArray, List.set_cons_zero, List.set_cons_succ]
   refine wpAnyH_ready (rs := [5]) (by kernel_rfl) (by simp) (AllReadyH.cons (o := ⟨_, _, _, _, _, _⟩) rfl (fun K hK => ?_) AllReadyH.nil)
   go_simp
   go_at_call 36; refine Calls.mono (C5.out _ QQ1.out) ?_; rintro e y2 ⟨ao2, c2, rfl, i2, s2, n2, q2⟩; have H2 := hideIt (And.intro i2 (And.intro s2 (And.intro n2 q2))); have QQ2 := hideIt (QQ1.out.trans q2); clear i2 s2 n2 q2 k0 k1 k2; obtain ⟨k0, k1, k2⟩ := HB.out _ QQ2.out
   refine hK.out _ _ ?_ (fun hHeld => ?_)
   ·trivial
   clear hK K
   try simp only [Act.put, List.setIfInBounds_toArray, List.set_cons_zero, List.set_cons_succ]
   refine wpAnyH_ready (rs := [8]) (by kernel_rfl) (by simp) (AllReadyH.cons (o := ⟨_, _, _, _, _, _⟩) rfl (fun K hK => ?_) AllReadyH.nil)
   go_simp
   go_at_call 37; refine Calls.mono (C8.out _ QQ2.out) ?_; rintro e y3 ⟨ao3, c3, rfl, s3, f3, q3⟩; have H3 := hideIt (And.intro s3 (And.intro f3 q3)); have QQ3 := hideIt (QQ2.out.trans q3); clear s3 f3 q3 k0 k1 k2; obtain ⟨k0, k1, k2⟩ := HB.out _ QQ3.out; obtain ⟨z0, z1, z2⟩ := HZ.out _ QQ3.out
   refine hK.out _ _ ?_ (fun hHeld => ?_)
   ·trivial
   clear hK K
   try simp only [Act.put, List.setIfInBounds_toArray, List.set_cons_zero, List.set_cons_succ]
   refine wpAnyH_ready (rs := [10]) (by kernel_rfl) (by simp) (AllReadyH.cons (o := ⟨_, _, _, _, _, _⟩) rfl (fun K hK => ?_) AllReadyH.nil)
   go_simp
   refine hK.out _ _ ?_ (fun hHeld => ?_)
   ·trivial
   clear hK K
   try simp only [Act.put, List.setIfInBounds_toArray, List.set_cons_zero, List.set_cons_succ]
   refine wpAnyH_take (i := 11) (oi := ⟨_, _, _, _, _, _⟩) (v := ?_) rfl (by kernel_rfl) (by kernel_rfl) (by kernel_rfl) (fun _ _ _ h => h) (Or.inl ⟨by rfl, ?_⟩) (by assumption) ?_
   rotate_left 1
   ·intro w hSw; (try dsimp only at hSw); go_simp; all_goals with_reducible rfl
   try simp only [Act.put, List.setIfInBounds_toArray, List.set_cons_zero, List.set_cons_succ]
   refine wpAnyH_ready (rs := [12]) (by kernel_rfl) (by simp) (AllReadyH.cons (o := ⟨_, _, _, _, _, _⟩) rfl (fun K hK => ?_) AllReadyH.nil)
   go_simp
   refine hK.out _ _ ?_ (fun hHeld => ?_)
   ·trivial
   clear hK K
   try simp only [Act.put, List.setIfInBounds_toArray, List.set_cons_zero, List.set_cons_succ]
   refine wpAnyH_take (i := 13) (oi := ⟨_, _, _, _, _, _⟩) (v := ?_) rfl (by kernel_rfl) (by kernel_rfl) (by kernel_rfl) (fun _ _ _ h => h) (Or.inl ⟨by rfl, ?_⟩) (by assumption) ?_
   rotate_left 1
   ·intro w hSw; (try dsimp only at hSw); go_simp; all_goals with_reducible rfl
   try simp only [Act.put, List.setIfInBounds_toArray, List.set_cons_zero, List.set_cons_succ]
   refine wpAnyH_ready (rs := [14]) (by kernel_rfl) (by simp) (AllReadyH.cons (o := ⟨_, _, _, _, _, _⟩) rfl (fun K hK => ?_) AllReadyH.nil)
   go_simp
   refine hK.out _ _ ?_ (fun hHeld => ?_)
   ·trivial
   clear hK K
   try simp only [Act.put, List.setIfInBounds_toArray, List.set_cons_zero, List.set_cons_succ]
   refine wpAnyH_done (by kernel_rfl) ?_ _
   exact REST y2 ao1 c1 ao2 c2 ao3 c3 _ (CYof.out H1.out QQ1.out H2.out QQ2.out) (CS.start (CYof.out H1.out QQ1.out H2.out QQ2.out) H3.out.2.2 (HBk.out _ QQ3.out) rfl) H3.out.1 (FOf.out H3.out.2.1 QQ2.out)


end Go.Proofs.Ytphknepblchkdaa.Fc
