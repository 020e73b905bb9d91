/-
 A copy of code: the walk behind its first lists of layer 13's Copy; over the program.
-/
import Derived.Test.YtphknepblchkdaaKFcF
namespace Go.Proofs.Ytphknepblchkdaa.Fc
open Go.RowKit
set_option linter.unusedVariables false

/-- Copy's code behind its first lists. -/
noncomputable def copyRest : Code := match Try.f21.body with | some (.seq _ (.seq _ r)) => r | _ => .skip

theorem fn_so {P lo : Nat} {y1 : World} {f : PF} (hpa : f.pa = some ⟨P, 0, none⟩) (h : ∀ p ∈ f.parts, ∀ b, ptB p b → P < b) (hn : NB lo y1 f.sa f.slots.length) (hP : y1.heap.size = P) : SoF f := by
 have hs : ∀ g, sB f g → g < P := fun g b => by have := (hn.lb (len_ne b.1) b.2).2; omega
 have hp : ∀ g, paB f g → g = P := fun g b => by have := b.2; rw [hpa] at this; simp at this; exact this.symm
 refine ⟨fun g1 g2 b1 b2 => ?_, fun g1 g2 b1 ⟨p, m, b2⟩ => ?_, fun g1 g2 b1 ⟨p, m, b2⟩ => ?_⟩
 ·have := hs g1 b1; have := hp g2 b2; omega
 ·have := hs g1 b1; have := h p m g2 b2; omega
 ·have := hp g1 b1; have := h p m g2 b2; omega
theorem fn_ge {P lo : Nat} {y1 : World} {f : PF} (hpa : f.pa = some ⟨P, 0, none⟩) (h : ∀ p ∈ f.parts, ∀ b, ptB p b → P < b) (hn : NB lo y1 f.sa f.slots.length) (hP : y1.heap.size = P) (hl : lo ≤ y1.heap.size) {g : Nat} (b : fnB f g) : lo ≤ g := by
 rcases b with b | b | ⟨p, hp, b⟩
 ·exact (hn.lb (len_ne b.1) b.2).1
 ·have := b.2; rw [hpa] at this; simp at this; omega
 ·have e2 := h p hp g b
  omega
theorem fn_ge0 {lo : Nat} {y1 : World} {f : PF} (h0 : f.parts = []) (hn : NB lo y1 f.sa f.slots.length) {g : Nat} (b : fnB f g) : lo ≤ g := by
 rcases b with b | b | ⟨p, hp, b⟩
 ·exact (hn.lb (len_ne b.1) b.2).1
 ·exact absurd h0 b.1
 ·rw [h0] at hp; simp at hp
theorem fn_so0 {f : PF} (h0 : f.parts = []) : SoF f := ⟨fun g1 g2 _ b => absurd h0 b.1, fun g1 g2 _ ⟨p, m, b⟩ => by rw [h0] at m; simp at m, fun g1 g2 b => absurd h0 b.1⟩

set_option maxRecDepth 100000 in
set_option maxHeartbeats 8000000 in
theorem copy_rest (w : World) (c : PC) (HFN0 : ∀ X, Q w X → Fns X c.fa c.fns) (hlen : c.fns.length ≤ 9223372036854775807) (Y : World) (ga : Option Addr) (gc : Nat) (na : Option Addr) (nc : Nat) (fa : Option Addr) (fc : Nat) (W : World) (hY : CY w Y c ga gc na nc) (hS : CS w Y c ga gc na nc fa fc W) (hs : sok 64 fa c.fns.length fc) (hf : c.fns = [] ∨ ∃ G, Y.heap.size ≤ G ∧ fa = some ⟨G, 0, none⟩ ∧ CpF G c.fns 0 c.fns W) :
  Code.wp Try.prog copyRest (bodyPost Try.prog Try.f21 fun e w' => ∃ a : PC, e = .returned a.v ∧ EvC a c ∧ CodeL w.heap.size w' a ∧ Q w w') { tmps := #[.agg #[.slice c.ga c.gl.length c.gc, .slice c.na c.ini.length c.nc, .slice c.fa c.fns.length c.fc], .pointer (some ⟨w.heap.size, 0, none⟩), .pointer (some ⟨w.heap.size + 1, 0, none⟩), undef, undef, undef, .pointer (some ⟨w.heap.size, 0, none⟩), .slice c.ga c.gl.length c.gc, .slice ga c.gl.length gc, .pointer (some ⟨w.heap.size, 1, none⟩), .slice c.na c.ini.length c.nc, .slice na c.ini.length nc, .pointer (some ⟨w.heap.size, 2, none⟩), .slice c.fa c.fns.length c.fc, .slice fa c.fns.length fc, .pointer (some ⟨w.heap.size, 0, none⟩), .pointer (some ⟨w.heap.size, 1, none⟩), .pointer (some ⟨w.heap.size, 2, none⟩), undef, undef, undef, undef, undef, undef, undef, undef, undef, undef, undef, undef, undef, undef, undef, undef, undef, undef, undef, undef, undef, undef, undef, undef, undef, undef, undef, undef, undef, undef, undef, undef, undef, undef, undef, undef, undef, undef, undef, undef, undef, undef, undef, undef, undef, undef, undef, undef, undef, undef, undef, undef, undef], defers := [] } W := by
 have HFN := hideIt HFN0
 clear HFN0
 dsimp only [copyRest, Try.f21]
 have HY := hideIt hY
 have hsok := hideIt hs
 have hsz := hY.sz
 rcases hf with h0 | ⟨G, hG, rfl, hcp⟩
 ·have HS := hideIt hS
  have c0 : W.cell? ⟨w.heap.size, 0, none⟩ = some (.slice ga c.gl.length gc) := (cell_of_block hS.box 0).trans rfl
  have c1 : W.cell? ⟨w.heap.size, 1, none⟩ = some (.slice na c.ini.length nc) := (cell_of_block hS.box 1).trans rfl
  have c2 : W.cell? ⟨w.heap.size, 2, none⟩ = some (.slice fa c.fns.length fc) := (cell_of_block hS.box 2).trans rfl
  have e0 : c.fns.length = 0 := by rw [h0]; rfl
  rw [e0] at c2
  clear hY hS hs
  obtain ⟨rs, hr, hrs⟩ := HY.out.r
  have hr' := HS.out.fr.heap hr (by omega)
  obtain ⟨r0, r1, r2, hr0, hr1, hr2⟩ : ∃ r0 r1 r2, W.cell? ⟨w.heap.size + 1, 0, none⟩ = some r0 ∧ W.cell? ⟨w.heap.size + 1, 1, none⟩ = some r1 ∧ W.cell? ⟨w.heap.size + 1, 2, none⟩ = some r2 := by
   refine ⟨rs[0]'(by omega), rs[1]'(by omega), rs[2]'(by omega), ?_, ?_, ?_⟩ <;> (rw [cell_of_block hr']; exact Array.getElem?_eq_getElem _)
  have rf0 : ∀ j, W.frozen? ⟨w.heap.size + 1, j, none⟩ = false := fun j => free_of_block hr' j
  clear hr hr' hrs
  have H0 := hideIt h0
  clear h0 e0
  go_wp2_with (fail)
  refine wp_loop_rounds 1 ?_
  rw [rounds_succ]
  go_wp2
  refine bodyPost_ret (v := .agg #[.slice ga c.gl.length gc, .slice na c.ini.length nc, .slice fa 0 fc]) (by simp [results, go_sem, hr0, hr1, hr2]) rfl ?_
  have hd := cs_done (L := []) HY.out HS.out hsok.out ⟨⟨Lst.nil, Or.inl rfl, fun f hf => (by simp at hf), (fun k1 k2 f1 f2 h1 => by simp at h1), Or.inl rfl⟩, by rw [H0.out], fun k x y h => by simp at h⟩ ⟨fun g hg f hf => (by simp at hf), fun g hg hn => absurd rfl hn⟩
  have fz : FrX (w.heap.size + 1) W ((((W.setCell ⟨w.heap.size + 1, 0, none⟩ (.slice ga c.gl.length gc)).setCell ⟨w.heap.size + 1, 1, none⟩ (.slice na c.ini.length nc)).setCell ⟨w.heap.size + 1, 2, none⟩ (.slice fa 0 fc))) := FrX.set (p := ⟨w.heap.size + 1, 2, none⟩) (FrX.set (p := ⟨w.heap.size + 1, 1, none⟩) (FrX.set (p := ⟨w.heap.size + 1, 0, none⟩) (FrX.of_q (Q.refl W)) (Or.inl rfl) _) (Or.inl rfl) _) (Or.inl rfl) _
  exact ⟨_, rfl, hd.2, (hd.1.frx (by omega) fz).mono (by omega), fz.q (HS.out.fr.q HY.out.q (Nat.le_refl _)) (by omega)⟩
 ·have HS := hideIt hS
  have HC := hideIt hcp
  have c2 : W.cell? ⟨w.heap.size, 2, none⟩ = some (.slice (some ⟨G, 0, none⟩) c.fns.length fc) := (cell_of_block hS.box 2).trans rfl
  clear hY hS hs hcp
  go_wp2_with (fail)
  clear c2
  go_loopw [3, 4, 5, 21] (fun d3 d4 d5 i wr => ∃ (k : Nat) (L : List PF), i = .int .i64 k ∧ k ≤ c.fns.length ∧ CS w Y c ga gc na nc (some ⟨G, 0, none⟩) fc wr ∧ CpF G c.fns k L wr) (fun _ _ _ i _ => c.fns.length - (intOf i).toNat)
  case atStart => exact ⟨0, c.fns, rfl, by omega, HS.out, HC.out⟩
  case round =>
   clear HS HC
   obtain ⟨k, L, rfl, hk, hcs, hcp⟩ := hrel
   generalize wr = W1 at *
   have HS := hideIt hcs
   have HCP := hideIt hcp
   have c0 : W1.cell? ⟨w.heap.size, 0, none⟩ = some (.slice ga c.gl.length gc) := (cell_of_block hcs.box 0).trans rfl
   have c1 : W1.cell? ⟨w.heap.size, 1, none⟩ = some (.slice na c.ini.length nc) := (cell_of_block hcs.box 1).trans rfl
   have c2 : W1.cell? ⟨w.heap.size, 2, none⟩ = some (.slice (some ⟨G, 0, none⟩) c.fns.length fc) := (cell_of_block hcs.box 2).trans rfl
   have hbw : w.heap.size < W1.heap.size := (Array.getElem?_eq_some_iff.1 hcs.box).1
   have hGW : G + 1 ≤ W1.heap.size := (Array.getElem?_eq_some_iff.1 hcp.blk).1
   have QW : Hid (Q w W1) := hcs.fr.q HY.out.q (Nat.le_refl _)
   clear hcs hcp
   by_cases hlt : k < c.fns.length
   ·obtain ⟨x, hx⟩ := get_of_lt hlt
    have hLx : L[k]? = some x := by rw [HCP.out.old k (Nat.le_refl _)]; exact hx
    obtain ⟨_, _, -, -, hxo⟩ := HFN.out W1 QW.out k x hx
    have HX := hideIt hLx
    have HXO := hideIt hxo
    have HXP := hideIt (fun X (h : Q w X) => (show Prts X x.pa x.parts from by obtain ⟨_, _, -, -, ho⟩ := HFN.out X h k x hx; exact ho.parts))
    have HKL : Hid (k < L.length) := (List.getElem?_eq_some_iff.1 hLx).1
    have D6 := hideIt (fun X (h : Q W1 X) => listInts_new X x.sa x.sc x.slots hxo.ssok (hxo.slots.keep h))
    have D11 := hideIt (fun X (h : Q W1 X) => listPrts_new X x.pa x.pc x.parts hxo.psok (hxo.parts.keep h))
    have hplen : x.parts.length ≤ 9223372036854775807 := hxo.psok.len
    have M2 : Hid (W1.cell? ⟨G, k * 4 + 2, none⟩ = some (.slice x.sa x.slots.length x.sc)) := (flat_block PF.len HCP.out.blk hLx).cell 2 _ rfl
    have M3 : Hid (W1.cell? ⟨G, k * 4 + 3, none⟩ = some (.slice x.pa x.parts.length x.pc)) := (flat_block PF.len HCP.out.blk hLx).cell 3 _ rfl
    have m2 := M2.out
    have m3 := M3.out
    have hkl : (k : Int) < (c.fns.length : Int) := by omega
    clear hx hLx hxo
    go_wp2_with (fail)
    refine wp_region_held_drew (S := fun _ => True) (by kernel_rfl) (trivial) (fun hHeld => ?_)
    refine wpAnyH_take (i := 0) (oi := ⟨_, _, _, _, _, _⟩) (v := ?_) rfl (by kernel_rfl) (by kernel_rfl) (by kernel_rfl) (fun _ _ _ h => h) (Or.inl ⟨by rfl, ?_⟩) (by assumption) ?_
    rotate_left 1
    ·intro w hSw; (try dsimp only at hSw); go_simp; all_goals with_reducible rfl
    try simp only [Act.put, List.setIfInBounds_toArray, List.set_cons_zero, List.set_cons_succ]
    refine wpAnyH_take (i := 1) (oi := ⟨_, _, _, _, _, _⟩) (v := ?_) rfl (by kernel_rfl) (by kernel_rfl) (by kernel_rfl) (fun _ _ _ h => h) (Or.inl ⟨by rfl, ?_⟩) (by assumption) ?_
    rotate_left 1
    ·intro w hSw; (try dsimp only at hSw); go_simp; all_goals with_reducible rfl
    try simp only [Act.put, List.setIfInBounds_toArray, List.set_cons_zero, List.set_cons_succ]
    refine wpAnyH_take (i := 2) (oi := ⟨_, _, _, _, _, _⟩) (v := ?_) rfl (by kernel_rfl) (by kernel_rfl) (by kernel_rfl) (fun _ _ _ h => h) (Or.inl ⟨by rfl, ?_⟩) (by assumption) ?_
    rotate_left 1
    ·intro w hSw; (try dsimp only at hSw); go_simp; all_goals with_reducible rfl
    try simp only [Act.put, List.setIfInBounds_toArray, List.set_cons_zero, List.set_cons_succ]
    refine wpAnyH_take (i := 3) (oi := ⟨_, _, _, _, _, _⟩) (v := ?_) rfl (by kernel_rfl) (by kernel_rfl) (by kernel_rfl) (fun _ _ _ h => h) (Or.inl ⟨by rfl, ?_⟩) (by assumption) ?_
    rotate_left 1
    ·intro w hSw; (try dsimp only at hSw); go_simp; all_goals with_reducible rfl
    try simp only [Act.put, List.setIfInBounds_toArray, List.set_cons_zero, List.set_cons_succ]
    refine wpAnyH_take (i := 4) (oi := ⟨_, _, _, _, _, _⟩) (v := ?_) rfl (by kernel_rfl) (by kernel_rfl) (by kernel_rfl) (fun _ _ _ h => h) (Or.inl ⟨by rfl, ?_⟩) (by assumption) ?_
    rotate_left 1
    ·intro w hSw; (try dsimp only at hSw); go_simp; all_goals with_reducible rfl
    try simp only [Act.put, List.setIfInBounds_toArray, List.set_cons_zero, List.set_cons_succ]
    refine wpAnyH_take (i := 7) (oi := ⟨_, _, _, _, _, _⟩) (v := ?_) rfl (by kernel_rfl) (by kernel_rfl) (by kernel_rfl) (fun _ _ _ h => h) (Or.inl ⟨by rfl, ?_⟩) (by assumption) ?_
    rotate_left 1
    ·intro w hSw; (try dsimp only at hSw); go_simp; all_goals with_reducible rfl
    try simp only [Act.put, List.setIfInBounds_toArray, List.set_cons_zero, List.set_cons_succ]
    refine wpAnyH_take (i := 8) (oi := ⟨_, _, _, _, _, _⟩) (v := ?_) rfl (by kernel_rfl) (by kernel_rfl) (by kernel_rfl) (fun _ _ _ h => h) (Or.inl ⟨by rfl, ?_⟩) (by assumption) ?_
    rotate_left 1
    ·intro w hSw; (try dsimp only at hSw); go_simp; all_goals with_reducible rfl
    try simp only [Act.put, List.setIfInBounds_toArray, List.set_cons_zero, List.set_cons_succ]
    refine wpAnyH_take (i := 9) (oi := ⟨_, _, _, _, _, _⟩) (v := ?_) rfl (by kernel_rfl) (by kernel_rfl) (by kernel_rfl) (fun _ _ _ h => h) (Or.inl ⟨by rfl, ?_⟩) (by assumption) ?_
    rotate_left 1
    ·intro w hSw; (try dsimp only at hSw); go_simp; all_goals with_reducible rfl
    try simp only [Act.put, List.setIfInBounds_toArray, List.set_cons_zero, List.set_cons_succ]
    refine wpAnyH_ready (rs := [5, 10]) (by kernel_rfl) (by simp) (AllReadyH.cons (o := ⟨_, _, _, _, _, _⟩) rfl (fun K hK => ?_) (AllReadyH.cons (o := ⟨_, _, _, _, _, _⟩) rfl (fun K hK => ?_) AllReadyH.nil))
    ·go_simp
     refine hK.out _ _ ?_ (fun hHeld => ?_)
     ·trivial
     clear hK K
     try simp only [Act.put, List.setIfInBounds_toArray, List.set_cons_zero, List.set_cons_succ]
     refine wpAnyH_ready (rs := [6, 10]) (by kernel_rfl) (by simp) (AllReadyH.cons (o := ⟨_, _, _, _, _, _⟩) rfl (fun K hK => ?_) (AllReadyH.cons (o := ⟨_, _, _, _, _, _⟩) rfl (fun K hK => ?_) AllReadyH.nil))
     ·go_simp
      go_at_call 35; refine Calls.mono (D6.out _ (Q.refl W1).drew) ?_; rintro e y1 ⟨sa, sc, rfl, i1, s1, n1, q1⟩; have H1 := hideIt (And.intro i1 (And.intro s1 (And.intro n1 q1))); have QQ1 := hideIt ((Q.refl W1).drew.trans q1); clear i1 s1 n1 q1; have m2' := cell_keep QQ1.out M2.out; have m3' := cell_keep QQ1.out M3.out; clear m2 m3
      refine hK.out _ _ ?_ (fun hHeld => ?_)
      ·trivial
      clear hK K
      try simp only [Act.put, List.setIfInBounds_toArray, List.set_cons_zero, List.set_cons_succ]
      refine wpAnyH_ready (rs := [10]) (by kernel_rfl) (by simp) (AllReadyH.cons (o := ⟨_, _, _, _, _, _⟩) rfl (fun K hK => ?_) AllReadyH.nil)
      go_simp
      refine hK.out _ _ ?_ (fun hHeld => ?_)
      ·trivial
      clear hK K
      try simp only [Act.put, List.setIfInBounds_toArray, List.set_cons_zero, List.set_cons_succ]
      refine wpAnyH_ready (rs := [11]) (by kernel_rfl) (by simp) (AllReadyH.cons (o := ⟨_, _, _, _, _, _⟩) rfl (fun K hK => ?_) AllReadyH.nil)
      go_simp
      go_at_call 38; refine Calls.mono (D11.out _ QQ1.out) ?_; rintro e y2 ⟨pa, pc, rfl, s2, f2, q2⟩; have H2 := hideIt (And.intro s2 (And.intro f2 q2)); have QQ2 := hideIt (QQ1.out.trans q2); clear s2 f2 q2; have n2 := cell_keep QQ2.out M2.out; have n3 := cell_keep QQ2.out M3.out; clear m2' m3'; have z2 := free_of_block (heap_keep QQ2.out HCP.out.blk) (k * 4 + 2); have z3 := free_of_block (heap_keep QQ2.out HCP.out.blk) (k * 4 + 3)
      refine hK.out _ _ ?_ (fun hHeld => ?_)
      ·trivial
      clear hK K
      try simp only [Act.put, List.setIfInBounds_toArray, List.set_cons_zero, List.set_cons_succ]
      refine wpAnyH_take (i := 12) (oi := ⟨_, _, _, _, _, _⟩) (v := ?_) rfl (by kernel_rfl) (by kernel_rfl) (by kernel_rfl) (fun _ _ _ h => h) (Or.inl ⟨by rfl, ?_⟩) (by assumption) ?_
      rotate_left 1
      ·intro w hSw; (try dsimp only at hSw); go_simp; all_goals with_reducible rfl
      try simp only [Act.put, List.setIfInBounds_toArray, List.set_cons_zero, List.set_cons_succ]
      refine wpAnyH_take (i := 13) (oi := ⟨_, _, _, _, _, _⟩) (v := ?_) rfl (by kernel_rfl) (by kernel_rfl) (by kernel_rfl) (fun _ _ _ h => h) (Or.inl ⟨by rfl, ?_⟩) (by assumption) ?_
      rotate_left 1
      ·intro w hSw; (try dsimp only at hSw); go_simp; all_goals with_reducible rfl
      try simp only [Act.put, List.setIfInBounds_toArray, List.set_cons_zero, List.set_cons_succ]
      refine wpAnyH_ready (rs := [14]) (by kernel_rfl) (by simp) (AllReadyH.cons (o := ⟨_, _, _, _, _, _⟩) rfl (fun K hK => ?_) AllReadyH.nil)
      go_simp
      refine hK.out _ _ ?_ (fun hHeld => ?_)
      ·trivial
      clear hK K
      try simp only [Act.put, List.setIfInBounds_toArray, List.set_cons_zero, List.set_cons_succ]
      refine wpAnyH_take (i := 15) (oi := ⟨_, _, _, _, _, _⟩) (v := ?_) rfl (by kernel_rfl) (by kernel_rfl) (by kernel_rfl) (fun _ _ _ h => h) (Or.inl ⟨by rfl, ?_⟩) (by assumption) ?_
      rotate_left 1
      ·intro w hSw; (try dsimp only at hSw); go_simp; all_goals with_reducible rfl
      try simp only [Act.put, List.setIfInBounds_toArray, List.set_cons_zero, List.set_cons_succ]
      refine wpAnyH_take (i := 16) (oi := ⟨_, _, _, _, _, _⟩) (v := ?_) rfl (by kernel_rfl) (by kernel_rfl) (by kernel_rfl) (fun _ _ _ h => h) (Or.inl ⟨by rfl, ?_⟩) (by assumption) ?_
      rotate_left 1
      ·intro w hSw; (try dsimp only at hSw); go_simp; all_goals with_reducible rfl
      try simp only [Act.put, List.setIfInBounds_toArray, List.set_cons_zero, List.set_cons_succ]
      refine wpAnyH_ready (rs := [17]) (by kernel_rfl) (by simp) (AllReadyH.cons (o := ⟨_, _, _, _, _, _⟩) rfl (fun K hK => ?_) AllReadyH.nil)
      go_simp
      refine hK.out _ _ ?_ (fun hHeld => ?_)
      ·trivial
      clear hK K
      try simp only [Act.put, List.setIfInBounds_toArray, List.set_cons_zero, List.set_cons_succ]
      refine wpAnyH_done (by kernel_rfl) ?_ _
      generalize hW2 : (y2.setCell ⟨G, k * 4 + 2, none⟩ (.slice sa x.slots.length sc)).setCell ⟨G, k * 4 + 3, none⟩ (.slice pa x.parts.length pc) = W2
      have blk2 : W2.heap[G]? = some (.cells ((L.set k { x with sa := sa, sc := sc, pa := pa, pc := pc }).flatMap PF.cells).toArray 44 (0, 0)) := by rw [← hW2]; exact fn_step HCP.out HX.out QQ2.out sa sc pa pc
      have fr2 : FrX G y1 W2 := by rw [← hW2]; exact FrX.set (p := ⟨G, k * 4 + 3, none⟩) (FrX.set (p := ⟨G, k * 4 + 2, none⟩) (FrX.of_q H2.out.2.2) (Or.inl rfl) _) (Or.inl rfl) _
      have cs2 : CS w Y c ga gc na nc (some ⟨G, 0, none⟩) fc W2 := by
       rw [← hW2]
       exact HS.out.keep (FrX.set (p := ⟨G, k * 4 + 3, none⟩) (FrX.set (p := ⟨G, k * 4 + 2, none⟩) (HS.out.fr.trans (FrX.of_q QQ2.out)) (Or.inr hG) _) (Or.inr hG) _) ((Below.heap_setCell _ _ _ _ (by show w.heap.size ≠ G; omega)).trans ((Below.heap_setCell _ _ _ _ (by show w.heap.size ≠ G; omega)).trans (QQ2.out.block _ hbw)))
      have HB2 := hideIt blk2
      have HF2 := hideIt fr2
      have HS2 := hideIt cs2
      have g3 : W2.cell? ⟨G, k * 4 + 3, none⟩ = some (.slice pa x.parts.length pc) := (flat_block PF.len blk2 (k := k) (x := { x with sa := sa, sc := sc, pa := pa, pc := pc }) (by simp [HKL.out])).cell 3 _ rfl
      clear blk2 fr2 cs2 n2 n3 z2 z3
      rcases H2.out.2.1 with hp0 | ⟨hpa, hpb⟩
      ·clear hW2
       have HP0 := hideIt hp0
       have e0 : x.parts.length = 0 := by rw [hp0]; rfl
       clear hp0
       go_wp2_with (fail)
       refine wp_loop_rounds 1 ?_
       rw [rounds_succ]
       go_wp2
       go_roundw
       case rel =>
        have hp0 := HP0.out
        refine ⟨k + 1, L.set k { x with sa := sa, sc := sc, pa := pa, pc := pc }, by go_num, by omega, HS2.out, HCP.out.step HX.out (FrX.trans (FrX.of_q QQ1.out) HF2.out) HB2.out ⟨rfl, rfl, rfl, rfl, fun k p q h1 h2 => by dsimp only at h1; rw [hp0] at h1; simp at h1⟩ ?_ ?_ (fun g hg => fn_ge0 (f := { x with sa := sa, sc := sc, pa := pa, pc := pc }) hp0 H1.out.2.2.1 hg)⟩
        ·exact ⟨HXO.out.params, HXO.out.regs, H1.out.2.1, H1.out.1.frx (H1.out.2.2.1.mono hGW) (Nat.lt_succ_self G) HF2.out, H2.out.1.1, fun k p h1 => by dsimp only at h1; rw [hp0] at h1; simp at h1⟩
        ·exact ⟨(H1.out.2.2.1.mono hGW).frx (Nat.lt_succ_self G) HF2.out, ⟨fun k p h1 => by dsimp only at h1; rw [hp0] at h1; simp at h1, Or.inl (by dsimp only; rw [hp0]; rfl), fun p h1 => (by dsimp only at h1; rw [hp0] at h1; simp at h1), (fun k1 k2 x1 x2 g1 g2 h1 => by dsimp only at h1; rw [hp0] at h1; simp at h1), Or.inl hp0, fun p h1 => (by dsimp only at h1; rw [hp0] at h1; simp at h1)⟩, fn_so0 hp0, H2.out.1.2⟩
       case measure => simp [intOf]; omega
      ·obtain ⟨P, hP⟩ : ∃ P, y1.heap.size = P := ⟨_, rfl⟩
       have hPG : G < P := by have h3 : W1.heap.size ≤ y1.heap.size := QQ1.out.size; omega
       have hYP : Y.heap.size ≤ P := by omega
       have cp0 : Hid (CpP P x.parts 0 x.parts W2) := by
        show CpP P x.parts 0 x.parts W2
        refine ⟨rfl, ?_, fun k p q _ _ h => by omega, fun k _ => rfl, fun k1 k2 x1 x2 g1 g2 _ _ _ h => by omega⟩
        rw [← hW2, ← hP]
        exact heap_set_other (heap_set_other hpb (by show y1.heap.size ≠ G; omega)) (by show y1.heap.size ≠ G; omega)
       rw [hP] at hpa
       subst hpa
       have HP1 := hideIt hP
       clear hpb hP hW2
       go_wp2_with (fail)
       clear g3
       go_loopw [5, 49] (fun d5 jv z => ∃ (j : Nat) (LP : List PP), jv = .int .i64 j ∧ j ≤ x.parts.length ∧ CpP P x.parts j LP z ∧ FrX G y1 z ∧ z.heap[G]? = some (.cells ((L.set k { x with sa := sa, sc := sc, pa := some ⟨P, 0, none⟩, pc := pc }).flatMap PF.cells).toArray 44 (0, 0)) ∧ CS w Y c ga gc na nc (some ⟨G, 0, none⟩) fc z) (fun _ jv _ => x.parts.length - (intOf jv).toNat)
       case atStart => exact ⟨0, x.parts, rfl, by omega, cp0.out, HF2.out, HB2.out, HS2.out⟩
       case round =>
        obtain ⟨j, LP, rfl, hj, hcp2, hfr2, hblk2, hcs2⟩ := hrel
        generalize wr = Z0 at *
        have HPP := hideIt hcp2
        have HFR := hideIt hfr2
        have HBK := hideIt hblk2
        have HCS := hideIt hcs2
        have G3 : Hid (Z0.cell? ⟨G, k * 4 + 3, none⟩ = some (.slice (some ⟨P, 0, none⟩) x.parts.length pc)) := (flat_block PF.len hblk2 (k := k) (x := { x with sa := sa, sc := sc, pa := some ⟨P, 0, none⟩, pc := pc }) (by simp [HKL.out])).cell 3 _ rfl
        have g3 := G3.out
        clear hcp2 hfr2 hblk2 hcs2
        by_cases hlt2 : j < x.parts.length
        ·obtain ⟨p, hp⟩ := get_of_lt hlt2
         have hLP : LP[j]? = some p := by rw [HPP.out.old j (Nat.le_refl _)]; exact hp
         have HLP := hideIt hLP
         have QZ : Hid (Q w Z0) := HCS.out.fr.q HY.out.q (Nat.le_refl _)
         obtain ⟨_, _, -, -, hpo⟩ := (HXP.out Z0 QZ.out) j p hp
         have HPO := hideIt hpo
         have CI := hideIt (fun X (h : Q Z0 X) => insts_any X p.ia p.ic p.ins hpo.sok (hpo.ins.keep h))
         have P0 : Hid (Z0.cell? ⟨P, j * 5, none⟩ = some (.slice p.ia p.ins.length p.ic)) := (flat_block PP.len HPP.out.blk hLP).cell 0 _ rfl
         have p0 := P0.out
         have hjl : (j : Int) < (x.parts.length : Int) := by omega
         have hPl : P < Z0.heap.size := (Array.getElem?_eq_some_iff.1 HPP.out.blk).1
         clear hp hLP hpo
         go_wp2_with (fail)
         refine wp_region_held_drew (S := (fun y : World => y.cell? ⟨G, k * 4 + 3, none⟩ = some (.slice (some ⟨P, 0, none⟩) x.parts.length pc))) (by kernel_rfl) (G3.out) (fun hHeld => ?_)
         refine wpAnyH_take (i := 0) (oi := ⟨_, _, _, _, _, _⟩) (v := ?_) rfl (by kernel_rfl) (by kernel_rfl) (by kernel_rfl) (fun _ _ _ h => h) (Or.inl ⟨by rfl, ?_⟩) (by assumption) ?_
         rotate_left 1
         ·intro w hSw; (try dsimp only at hSw); go_simp; all_goals with_reducible rfl
         try simp only [Act.put, List.setIfInBounds_toArray, List.set_cons_zero, List.set_cons_succ]
         refine wpAnyH_take (i := 1) (oi := ⟨_, _, _, _, _, _⟩) (v := ?_) rfl (by kernel_rfl) (by kernel_rfl) (by kernel_rfl) (fun _ _ _ h => h) (Or.inl ⟨by rfl, ?_⟩) (by assumption) ?_
         rotate_left 1
         ·intro w hSw; (try dsimp only at hSw); go_simp; all_goals with_reducible rfl
         try simp only [Act.put, List.setIfInBounds_toArray, List.set_cons_zero, List.set_cons_succ]
         refine wpAnyH_take (i := 2) (oi := ⟨_, _, _, _, _, _⟩) (v := ?_) rfl (by kernel_rfl) (by kernel_rfl) (by kernel_rfl) (fun _ _ _ h => h) (Or.inl ⟨by rfl, ?_⟩) (by assumption) ?_
         rotate_left 1
         ·intro w hSw; (try dsimp only at hSw); go_simp; all_goals with_reducible rfl
         try simp only [Act.put, List.setIfInBounds_toArray, List.set_cons_zero, List.set_cons_succ]
         refine wpAnyH_take (i := 3) (oi := ⟨_, _, _, _, _, _⟩) (v := ?_) rfl (by kernel_rfl) (by kernel_rfl) (by kernel_rfl) (fun _ _ _ h => h) (Or.inl ⟨by rfl, ?_⟩) (by assumption) ?_
         rotate_left 1
         ·intro w hSw; (try dsimp only at hSw); go_simp; all_goals with_reducible rfl
         try simp only [Act.put, List.setIfInBounds_toArray, List.set_cons_zero, List.set_cons_succ]
         refine wpAnyH_take (i := 4) (oi := ⟨_, _, _, _, _, _⟩) (v := ?_) rfl (by kernel_rfl) (by kernel_rfl) (by kernel_rfl) (fun _ _ _ h => h) (Or.inl ⟨by rfl, ?_⟩) (by assumption) ?_
         rotate_left 1
         ·intro w hSw; (try dsimp only at hSw); go_simp; all_goals with_reducible rfl
         try simp only [Act.put, List.setIfInBounds_toArray, List.set_cons_zero, List.set_cons_succ]
         refine wpAnyH_take (i := 5) (oi := ⟨_, _, _, _, _, _⟩) (v := ?_) rfl (by kernel_rfl) (by kernel_rfl) (by kernel_rfl) (fun _ _ _ h => h) (Or.inl ⟨by rfl, ?_⟩) (by assumption) ?_
         rotate_left 1
         ·intro w hSw; (try dsimp only at hSw); go_simp; all_goals with_reducible rfl
         try simp only [Act.put, List.setIfInBounds_toArray, List.set_cons_zero, List.set_cons_succ]
         refine wpAnyH_take (i := 6) (oi := ⟨_, _, _, _, _, _⟩) (v := ?_) rfl (by kernel_rfl) (by kernel_rfl) (by kernel_rfl) (fun _ _ _ h => h) (Or.inl ⟨by rfl, ?_⟩) (by assumption) ?_
         rotate_left 1
         ·intro w hSw; (try dsimp only at hSw); go_simp; all_goals with_reducible rfl
         try simp only [Act.put, List.setIfInBounds_toArray, List.set_cons_zero, List.set_cons_succ]
         refine wpAnyH_take (i := 7) (oi := ⟨_, _, _, _, _, _⟩) (v := ?_) rfl (by kernel_rfl) (by kernel_rfl) (by kernel_rfl) (fun _ _ _ h => h) (Or.inl ⟨by rfl, ?_⟩) (by assumption) ?_
         rotate_left 1
         ·intro w hSw; (try dsimp only at hSw); go_simp; all_goals with_reducible rfl
         try simp only [Act.put, List.setIfInBounds_toArray, List.set_cons_zero, List.set_cons_succ]
         refine wpAnyH_take (i := 8) (oi := ⟨_, _, _, _, _, _⟩) (v := ?_) rfl (by kernel_rfl) (by kernel_rfl) (by kernel_rfl) (fun _ _ _ h => h) (Or.inl ⟨by rfl, ?_⟩) (by assumption) ?_
         rotate_left 1
         ·intro w hSw; (try dsimp only at hSw); go_simp; all_goals with_reducible rfl
         try simp only [Act.put, List.setIfInBounds_toArray, List.set_cons_zero, List.set_cons_succ]
         refine wpAnyH_take (i := 9) (oi := ⟨_, _, _, _, _, _⟩) (v := ?_) rfl (by kernel_rfl) (by kernel_rfl) (by kernel_rfl) (fun _ _ _ h => h) (Or.inl ⟨by rfl, ?_⟩) (by assumption) ?_
         rotate_left 1
         ·intro w hSw; (try dsimp only at hSw); go_simp; all_goals with_reducible rfl
         try simp only [Act.put, List.setIfInBounds_toArray, List.set_cons_zero, List.set_cons_succ]
         refine wpAnyH_take (i := 10) (oi := ⟨_, _, _, _, _, _⟩) (v := ?_) rfl (by kernel_rfl) (by kernel_rfl) (by kernel_rfl) (fun _ _ _ h => h) (Or.inl ⟨by rfl, ?_⟩) (by assumption) ?_
         rotate_left 1
         ·intro w hSw; (try dsimp only at hSw); go_simp; all_goals with_reducible rfl
         try simp only [Act.put, List.setIfInBounds_toArray, List.set_cons_zero, List.set_cons_succ]
         refine wpAnyH_take (i := 11) (oi := ⟨_, _, _, _, _, _⟩) (v := ?_) rfl (by kernel_rfl) (by kernel_rfl) (by kernel_rfl) (fun _ _ _ h => h) (Or.inl ⟨by rfl, ?_⟩) (by assumption) ?_
         rotate_left 1
         ·intro w hSw; (try dsimp only at hSw); go_simp; all_goals with_reducible rfl
         try simp only [Act.put, List.setIfInBounds_toArray, List.set_cons_zero, List.set_cons_succ]
         refine wpAnyH_ready (rs := [12]) (by kernel_rfl) (by simp) (AllReadyH.cons (o := ⟨_, _, _, _, _, _⟩) rfl (fun K hK => ?_) AllReadyH.nil)
         go_simp
         refine hK.out _ _ ?_ (fun hHeld => ?_)
         ·first | exact hHeld | exact set_cell_ne hHeld (by intro e; injection e with e1 e2; omega)
         clear hK K
         try simp only [Act.put, List.setIfInBounds_toArray, List.set_cons_zero, List.set_cons_succ]
         refine wpAnyH_ready (rs := [13]) (by kernel_rfl) (by simp) (AllReadyH.cons (o := ⟨_, _, _, _, _, _⟩) rfl (fun K hK => ?_) AllReadyH.nil)
         go_simp
         go_at_call 39; refine Calls.mono (CI.out _ ((Q.refl Z0).drew)) ?_; rintro e y5 ⟨ia', ic', li, rfl, ev5, s5, l5, q5⟩; have H5 := hideIt (And.intro ev5 (And.intro s5 (And.intro l5 q5))); have QQ5 := hideIt ((Q.refl Z0).drew.trans q5); clear ev5 s5 l5 q5; have hHeld := cell_keep QQ5.out G3.out; have p0' := cell_keep QQ5.out P0.out; have pz := free_of_block (heap_keep QQ5.out HPP.out.blk) (j * 5)
         refine hK.out _ _ ?_ (fun hHeld => ?_)
         ·first | exact hHeld | exact set_cell_ne hHeld (by intro e; injection e with e1 e2; omega)
         clear hK K
         try simp only [Act.put, List.setIfInBounds_toArray, List.set_cons_zero, List.set_cons_succ]
         refine wpAnyH_take (i := 14) (oi := ⟨_, _, _, _, _, _⟩) (v := ?_) rfl (by kernel_rfl) (by kernel_rfl) (by kernel_rfl) (fun _ _ _ h => h) (Or.inl ⟨by rfl, ?_⟩) (by assumption) ?_
         rotate_left 1
         ·intro w hSw; (try dsimp only at hSw); go_simp; all_goals with_reducible rfl
         try simp only [Act.put, List.setIfInBounds_toArray, List.set_cons_zero, List.set_cons_succ]
         refine wpAnyH_take (i := 15) (oi := ⟨_, _, _, _, _, _⟩) (v := ?_) rfl (by kernel_rfl) (by kernel_rfl) (by kernel_rfl) (fun _ _ _ h => h) (Or.inl ⟨by rfl, ?_⟩) (by assumption) ?_
         rotate_left 1
         ·intro w hSw; (try dsimp only at hSw); go_simp; all_goals with_reducible rfl
         try simp only [Act.put, List.setIfInBounds_toArray, List.set_cons_zero, List.set_cons_succ]
         refine wpAnyH_ready (rs := [16]) (by kernel_rfl) (by simp) (AllReadyH.cons (o := ⟨_, _, _, _, _, _⟩) rfl (fun K hK => ?_) AllReadyH.nil)
         go_simp
         refine hK.out _ _ ?_ (fun hHeld => ?_)
         ·first | exact hHeld | exact set_cell_ne hHeld (by intro e; injection e with e1 e2; omega)
         clear hK K
         try simp only [Act.put, List.setIfInBounds_toArray, List.set_cons_zero, List.set_cons_succ]
         refine wpAnyH_done (by kernel_rfl) ?_ _
         go_wp2
         go_roundw
         case rel =>
          have fz : FrX G y1 (y5.setCell ⟨P, j * 5, none⟩ (.slice ia' p.ins.length ic')) := FrX.set (p := ⟨P, j * 5, none⟩) (HFR.out.trans (FrX.of_q QQ5.out)) (Or.inr (by show y1.heap.size ≤ P; rw [HP1.out]; exact Nat.le_refl _)) _
          have fy : FrX w.heap.size Y (y5.setCell ⟨P, j * 5, none⟩ (.slice ia' p.ins.length ic')) := FrX.set (p := ⟨P, j * 5, none⟩) (HCS.out.fr.trans (FrX.of_q QQ5.out)) (Or.inr hYP) _
          refine ⟨j + 1, _, by go_num, by omega, HPP.out.step HLP.out HPO.out QQ5.out H5.out.1 H5.out.2.1 H5.out.2.2.1, fz, heap_set_other (heap_keep QQ5.out HBK.out) (by show G ≠ P; omega), HCS.out.keep fy ?_⟩
          exact (Below.heap_setCell _ _ _ _ (by show w.heap.size ≠ P; omega)).trans (QQ5.out.block _ (Array.getElem?_eq_some_iff.1 HCS.out.box).1)
         case measure => simp [intOf]; omega
        ·have ej : j = x.parts.length := by omega
         have HEJ := hideIt ej
         clear ej
         go_wp2_with (fail)
         go_roundw
         case rel =>
          have hcp3 := HPP.out
          rw [HEJ.out] at hcp3
          obtain ⟨d1, d2⟩ := hcp3.done (lo := G + 1) (by omega)
          refine ⟨k + 1, L.set k { x with sa := sa, sc := sc, pa := some ⟨P, 0, none⟩, pc := pc, parts := LP }, by go_num, by omega, HCS.out, HCP.out.step HX.out (FrX.trans (FrX.of_q QQ1.out) HFR.out) ?_ ⟨rfl, rfl, rfl, d2⟩ ?_ ?_ ?_⟩
          ·rw [HBK.out]
           rw [flat_congr L k (x := { x with sa := sa, sc := sc, pa := some ⟨P, 0, none⟩, pc := pc }) (y := { x with sa := sa, sc := sc, pa := some ⟨P, 0, none⟩, pc := pc, parts := LP }) (by simp [PF.cells, d2.len])]
          ·refine ⟨HXO.out.params, HXO.out.regs, H1.out.2.1, H1.out.1.frx (H1.out.2.2.1.mono hGW) (Nat.lt_succ_self G) HFR.out, ?_, d1.at'⟩
           show sok 56 (some ⟨P, 0, none⟩) LP.length pc
           rw [d2.len]
           exact H2.out.1.1
          ·exact ⟨(H1.out.2.2.1.mono hGW).frx (Nat.lt_succ_self G) HFR.out, d1, fn_so (f := { x with sa := sa, sc := sc, pa := some ⟨P, 0, none⟩, pc := pc, parts := LP }) rfl hcp3.above H1.out.2.2.1 HP1.out, (by show pc = LP.length; rw [d2.len]; exact H2.out.1.2)⟩
          ·exact fun g hg => fn_ge (f := { x with sa := sa, sc := sc, pa := some ⟨P, 0, none⟩, pc := pc, parts := LP }) rfl hcp3.above H1.out.2.2.1 HP1.out QQ1.out.size hg
         case measure => simp [intOf]; omega
     ·go_simp
      refine hK.out _ _ ?_ (fun hHeld => ?_)
      ·trivial
      clear hK K
      try simp only [Act.put, List.setIfInBounds_toArray, List.set_cons_zero, List.set_cons_succ]
      refine wpAnyH_ready (rs := [6]) (by kernel_rfl) (by simp) (AllReadyH.cons (o := ⟨_, _, _, _, _, _⟩) rfl (fun K hK => ?_) AllReadyH.nil)
      go_simp
      go_at_call 35; refine Calls.mono (D6.out _ (Q.refl W1).drew) ?_; rintro e y1 ⟨sa, sc, rfl, i1, s1, n1, q1⟩; have H1 := hideIt (And.intro i1 (And.intro s1 (And.intro n1 q1))); have QQ1 := hideIt ((Q.refl W1).drew.trans q1); clear i1 s1 n1 q1; have m2' := cell_keep QQ1.out M2.out; have m3' := cell_keep QQ1.out M3.out; clear m2 m3
      refine hK.out _ _ ?_ (fun hHeld => ?_)
      ·trivial
      clear hK K
      try simp only [Act.put, List.setIfInBounds_toArray, List.set_cons_zero, List.set_cons_succ]
      refine wpAnyH_ready (rs := [11]) (by kernel_rfl) (by simp) (AllReadyH.cons (o := ⟨_, _, _, _, _, _⟩) rfl (fun K hK => ?_) AllReadyH.nil)
      go_simp
      go_at_call 38; refine Calls.mono (D11.out _ QQ1.out) ?_; rintro e y2 ⟨pa, pc, rfl, s2, f2, q2⟩; have H2 := hideIt (And.intro s2 (And.intro f2 q2)); have QQ2 := hideIt (QQ1.out.trans q2); clear s2 f2 q2; have n2 := cell_keep QQ2.out M2.out; have n3 := cell_keep QQ2.out M3.out; clear m2' m3'; have z2 := free_of_block (heap_keep QQ2.out HCP.out.blk) (k * 4 + 2); have z3 := free_of_block (heap_keep QQ2.out HCP.out.blk) (k * 4 + 3)
      refine hK.out _ _ ?_ (fun hHeld => ?_)
      ·trivial
      clear hK K
      try simp only [Act.put, List.setIfInBounds_toArray, List.set_cons_zero, List.set_cons_succ]
      refine wpAnyH_take (i := 12) (oi := ⟨_, _, _, _, _, _⟩) (v := ?_) rfl (by kernel_rfl) (by kernel_rfl) (by kernel_rfl) (fun _ _ _ h => h) (Or.inl ⟨by rfl, ?_⟩) (by assumption) ?_
      rotate_left 1
      ·intro w hSw; (try dsimp only at hSw); go_simp; all_goals with_reducible rfl
      try simp only [Act.put, List.setIfInBounds_toArray, List.set_cons_zero, List.set_cons_succ]
      refine wpAnyH_take (i := 13) (oi := ⟨_, _, _, _, _, _⟩) (v := ?_) rfl (by kernel_rfl) (by kernel_rfl) (by kernel_rfl) (fun _ _ _ h => h) (Or.inl ⟨by rfl, ?_⟩) (by assumption) ?_
      rotate_left 1
      ·intro w hSw; (try dsimp only at hSw); go_simp; all_goals with_reducible rfl
      try simp only [Act.put, List.setIfInBounds_toArray, List.set_cons_zero, List.set_cons_succ]
      refine wpAnyH_ready (rs := [14]) (by kernel_rfl) (by simp) (AllReadyH.cons (o := ⟨_, _, _, _, _, _⟩) rfl (fun K hK => ?_) AllReadyH.nil)
      go_simp
      refine hK.out _ _ ?_ (fun hHeld => ?_)
      ·trivial
      clear hK K
      try simp only [Act.put, List.setIfInBounds_toArray, List.set_cons_zero, List.set_cons_succ]
      refine wpAnyH_take (i := 15) (oi := ⟨_, _, _, _, _, _⟩) (v := ?_) rfl (by kernel_rfl) (by kernel_rfl) (by kernel_rfl) (fun _ _ _ h => h) (Or.inl ⟨by rfl, ?_⟩) (by assumption) ?_
      rotate_left 1
      ·intro w hSw; (try dsimp only at hSw); go_simp; all_goals with_reducible rfl
      try simp only [Act.put, List.setIfInBounds_toArray, List.set_cons_zero, List.set_cons_succ]
      refine wpAnyH_take (i := 16) (oi := ⟨_, _, _, _, _, _⟩) (v := ?_) rfl (by kernel_rfl) (by kernel_rfl) (by kernel_rfl) (fun _ _ _ h => h) (Or.inl ⟨by rfl, ?_⟩) (by assumption) ?_
      rotate_left 1
      ·intro w hSw; (try dsimp only at hSw); go_simp; all_goals with_reducible rfl
      try simp only [Act.put, List.setIfInBounds_toArray, List.set_cons_zero, List.set_cons_succ]
      refine wpAnyH_ready (rs := [17]) (by kernel_rfl) (by simp) (AllReadyH.cons (o := ⟨_, _, _, _, _, _⟩) rfl (fun K hK => ?_) AllReadyH.nil)
      go_simp
      refine hK.out _ _ ?_ (fun hHeld => ?_)
      ·trivial
      clear hK K
      try simp only [Act.put, List.setIfInBounds_toArray, List.set_cons_zero, List.set_cons_succ]
      refine wpAnyH_done (by kernel_rfl) ?_ _
      generalize hW2 : (y2.setCell ⟨G, k * 4 + 2, none⟩ (.slice sa x.slots.length sc)).setCell ⟨G, k * 4 + 3, none⟩ (.slice pa x.parts.length pc) = W2
      have blk2 : W2.heap[G]? = some (.cells ((L.set k { x with sa := sa, sc := sc, pa := pa, pc := pc }).flatMap PF.cells).toArray 44 (0, 0)) := by rw [← hW2]; exact fn_step HCP.out HX.out QQ2.out sa sc pa pc
      have fr2 : FrX G y1 W2 := by rw [← hW2]; exact FrX.set (p := ⟨G, k * 4 + 3, none⟩) (FrX.set (p := ⟨G, k * 4 + 2, none⟩) (FrX.of_q H2.out.2.2) (Or.inl rfl) _) (Or.inl rfl) _
      have cs2 : CS w Y c ga gc na nc (some ⟨G, 0, none⟩) fc W2 := by
       rw [← hW2]
       exact HS.out.keep (FrX.set (p := ⟨G, k * 4 + 3, none⟩) (FrX.set (p := ⟨G, k * 4 + 2, none⟩) (HS.out.fr.trans (FrX.of_q QQ2.out)) (Or.inr hG) _) (Or.inr hG) _) ((Below.heap_setCell _ _ _ _ (by show w.heap.size ≠ G; omega)).trans ((Below.heap_setCell _ _ _ _ (by show w.heap.size ≠ G; omega)).trans (QQ2.out.block _ hbw)))
      have HB2 := hideIt blk2
      have HF2 := hideIt fr2
      have HS2 := hideIt cs2
      have g3 : W2.cell? ⟨G, k * 4 + 3, none⟩ = some (.slice pa x.parts.length pc) := (flat_block PF.len blk2 (k := k) (x := { x with sa := sa, sc := sc, pa := pa, pc := pc }) (by simp [HKL.out])).cell 3 _ rfl
      clear blk2 fr2 cs2 n2 n3 z2 z3
      rcases H2.out.2.1 with hp0 | ⟨hpa, hpb⟩
      ·clear hW2
       have HP0 := hideIt hp0
       have e0 : x.parts.length = 0 := by rw [hp0]; rfl
       clear hp0
       go_wp2_with (fail)
       refine wp_loop_rounds 1 ?_
       rw [rounds_succ]
       go_wp2
       go_roundw
       case rel =>
        have hp0 := HP0.out
        refine ⟨k + 1, L.set k { x with sa := sa, sc := sc, pa := pa, pc := pc }, by go_num, by omega, HS2.out, HCP.out.step HX.out (FrX.trans (FrX.of_q QQ1.out) HF2.out) HB2.out ⟨rfl, rfl, rfl, rfl, fun k p q h1 h2 => by dsimp only at h1; rw [hp0] at h1; simp at h1⟩ ?_ ?_ (fun g hg => fn_ge0 (f := { x with sa := sa, sc := sc, pa := pa, pc := pc }) hp0 H1.out.2.2.1 hg)⟩
        ·exact ⟨HXO.out.params, HXO.out.regs, H1.out.2.1, H1.out.1.frx (H1.out.2.2.1.mono hGW) (Nat.lt_succ_self G) HF2.out, H2.out.1.1, fun k p h1 => by dsimp only at h1; rw [hp0] at h1; simp at h1⟩
        ·exact ⟨(H1.out.2.2.1.mono hGW).frx (Nat.lt_succ_self G) HF2.out, ⟨fun k p h1 => by dsimp only at h1; rw [hp0] at h1; simp at h1, Or.inl (by dsimp only; rw [hp0]; rfl), fun p h1 => (by dsimp only at h1; rw [hp0] at h1; simp at h1), (fun k1 k2 x1 x2 g1 g2 h1 => by dsimp only at h1; rw [hp0] at h1; simp at h1), Or.inl hp0, fun p h1 => (by dsimp only at h1; rw [hp0] at h1; simp at h1)⟩, fn_so0 hp0, H2.out.1.2⟩
       case measure => simp [intOf]; omega
      ·obtain ⟨P, hP⟩ : ∃ P, y1.heap.size = P := ⟨_, rfl⟩
       have hPG : G < P := by have h3 : W1.heap.size ≤ y1.heap.size := QQ1.out.size; omega
       have hYP : Y.heap.size ≤ P := by omega
       have cp0 : Hid (CpP P x.parts 0 x.parts W2) := by
        show CpP P x.parts 0 x.parts W2
        refine ⟨rfl, ?_, fun k p q _ _ h => by omega, fun k _ => rfl, fun k1 k2 x1 x2 g1 g2 _ _ _ h => by omega⟩
        rw [← hW2, ← hP]
        exact heap_set_other (heap_set_other hpb (by show y1.heap.size ≠ G; omega)) (by show y1.heap.size ≠ G; omega)
       rw [hP] at hpa
       subst hpa
       have HP1 := hideIt hP
       clear hpb hP hW2
       go_wp2_with (fail)
       clear g3
       go_loopw [5, 49] (fun d5 jv z => ∃ (j : Nat) (LP : List PP), jv = .int .i64 j ∧ j ≤ x.parts.length ∧ CpP P x.parts j LP z ∧ FrX G y1 z ∧ z.heap[G]? = some (.cells ((L.set k { x with sa := sa, sc := sc, pa := some ⟨P, 0, none⟩, pc := pc }).flatMap PF.cells).toArray 44 (0, 0)) ∧ CS w Y c ga gc na nc (some ⟨G, 0, none⟩) fc z) (fun _ jv _ => x.parts.length - (intOf jv).toNat)
       case atStart => exact ⟨0, x.parts, rfl, by omega, cp0.out, HF2.out, HB2.out, HS2.out⟩
       case round =>
        obtain ⟨j, LP, rfl, hj, hcp2, hfr2, hblk2, hcs2⟩ := hrel
        generalize wr = Z0 at *
        have HPP := hideIt hcp2
        have HFR := hideIt hfr2
        have HBK := hideIt hblk2
        have HCS := hideIt hcs2
        have G3 : Hid (Z0.cell? ⟨G, k * 4 + 3, none⟩ = some (.slice (some ⟨P, 0, none⟩) x.parts.length pc)) := (flat_block PF.len hblk2 (k := k) (x := { x with sa := sa, sc := sc, pa := some ⟨P, 0, none⟩, pc := pc }) (by simp [HKL.out])).cell 3 _ rfl
        have g3 := G3.out
        clear hcp2 hfr2 hblk2 hcs2
        by_cases hlt2 : j < x.parts.length
        ·obtain ⟨p, hp⟩ := get_of_lt hlt2
         have hLP : LP[j]? = some p := by rw [HPP.out.old j (Nat.le_refl _)]; exact hp
         have HLP := hideIt hLP
         have QZ : Hid (Q w Z0) := HCS.out.fr.q HY.out.q (Nat.le_refl _)
         obtain ⟨_, _, -, -, hpo⟩ := (HXP.out Z0 QZ.out) j p hp
         have HPO := hideIt hpo
         have CI := hideIt (fun X (h : Q Z0 X) => insts_any X p.ia p.ic p.ins hpo.sok (hpo.ins.keep h))
         have P0 : Hid (Z0.cell? ⟨P, j * 5, none⟩ = some (.slice p.ia p.ins.length p.ic)) := (flat_block PP.len HPP.out.blk hLP).cell 0 _ rfl
         have p0 := P0.out
         have hjl : (j : Int) < (x.parts.length : Int) := by omega
         have hPl : P < Z0.heap.size := (Array.getElem?_eq_some_iff.1 HPP.out.blk).1
         clear hp hLP hpo
         go_wp2_with (fail)
         refine wp_region_held_drew (S := (fun y : World => y.cell? ⟨G, k * 4 + 3, none⟩ = some (.slice (some ⟨P, 0, none⟩) x.parts.length pc))) (by kernel_rfl) (G3.out) (fun hHeld => ?_)
         refine wpAnyH_take (i := 0) (oi := ⟨_, _, _, _, _, _⟩) (v := ?_) rfl (by kernel_rfl) (by kernel_rfl) (by kernel_rfl) (fun _ _ _ h => h) (Or.inl ⟨by rfl, ?_⟩) (by assumption) ?_
         rotate_left 1
         ·intro w hSw; (try dsimp only at hSw); go_simp; all_goals with_reducible rfl
         try simp only [Act.put, List.setIfInBounds_toArray, List.set_cons_zero, List.set_cons_succ]
         refine wpAnyH_take (i := 1) (oi := ⟨_, _, _, _, _, _⟩) (v := ?_) rfl (by kernel_rfl) (by kernel_rfl) (by kernel_rfl) (fun _ _ _ h => h) (Or.inl ⟨by rfl, ?_⟩) (by assumption) ?_
         rotate_left 1
         ·intro w hSw; (try dsimp only at hSw); go_simp; all_goals with_reducible rfl
         try simp only [Act.put, List.setIfInBounds_toArray, List.set_cons_zero, List.set_cons_succ]
         refine wpAnyH_take (i := 2) (oi := ⟨_, _, _, _, _, _⟩) (v := ?_) rfl (by kernel_rfl) (by kernel_rfl) (by kernel_rfl) (fun _ _ _ h => h) (Or.inl ⟨by rfl, ?_⟩) (by assumption) ?_
         rotate_left 1
         ·intro w hSw; (try dsimp only at hSw); go_simp; all_goals with_reducible rfl
         try simp only [Act.put, List.setIfInBounds_toArray, List.set_cons_zero, List.set_cons_succ]
         refine wpAnyH_take (i := 3) (oi := ⟨_, _, _, _, _, _⟩) (v := ?_) rfl (by kernel_rfl) (by kernel_rfl) (by kernel_rfl) (fun _ _ _ h => h) (Or.inl ⟨by rfl, ?_⟩) (by assumption) ?_
         rotate_left 1
         ·intro w hSw; (try dsimp only at hSw); go_simp; all_goals with_reducible rfl
         try simp only [Act.put, List.setIfInBounds_toArray, List.set_cons_zero, List.set_cons_succ]
         refine wpAnyH_take (i := 4) (oi := ⟨_, _, _, _, _, _⟩) (v := ?_) rfl (by kernel_rfl) (by kernel_rfl) (by kernel_rfl) (fun _ _ _ h => h) (Or.inl ⟨by rfl, ?_⟩) (by assumption) ?_
         rotate_left 1
         ·intro w hSw; (try dsimp only at hSw); go_simp; all_goals with_reducible rfl
         try simp only [Act.put, List.setIfInBounds_toArray, List.set_cons_zero, List.set_cons_succ]
         refine wpAnyH_take (i := 5) (oi := ⟨_, _, _, _, _, _⟩) (v := ?_) rfl (by kernel_rfl) (by kernel_rfl) (by kernel_rfl) (fun _ _ _ h => h) (Or.inl ⟨by rfl, ?_⟩) (by assumption) ?_
         rotate_left 1
         ·intro w hSw; (try dsimp only at hSw); go_simp; all_goals with_reducible rfl
         try simp only [Act.put, List.setIfInBounds_toArray, List.set_cons_zero, List.set_cons_succ]
         refine wpAnyH_take (i := 6) (oi := ⟨_, _, _, _, _, _⟩) (v := ?_) rfl (by kernel_rfl) (by kernel_rfl) (by kernel_rfl) (fun _ _ _ h => h) (Or.inl ⟨by rfl, ?_⟩) (by assumption) ?_
         rotate_left 1
         ·intro w hSw; (try dsimp only at hSw); go_simp; all_goals with_reducible rfl
         try simp only [Act.put, List.setIfInBounds_toArray, List.set_cons_zero, List.set_cons_succ]
         refine wpAnyH_take (i := 7) (oi := ⟨_, _, _, _, _, _⟩) (v := ?_) rfl (by kernel_rfl) (by kernel_rfl) (by kernel_rfl) (fun _ _ _ h => h) (Or.inl ⟨by rfl, ?_⟩) (by assumption) ?_
         rotate_left 1
         ·intro w hSw; (try dsimp only at hSw); go_simp; all_goals with_reducible rfl
         try simp only [Act.put, List.setIfInBounds_toArray, List.set_cons_zero, List.set_cons_succ]
         refine wpAnyH_take (i := 8) (oi := ⟨_, _, _, _, _, _⟩) (v := ?_) rfl (by kernel_rfl) (by kernel_rfl) (by kernel_rfl) (fun _ _ _ h => h) (Or.inl ⟨by rfl, ?_⟩) (by assumption) ?_
         rotate_left 1
         ·intro w hSw; (try dsimp only at hSw); go_simp; all_goals with_reducible rfl
         try simp only [Act.put, List.setIfInBounds_toArray, List.set_cons_zero, List.set_cons_succ]
         refine wpAnyH_take (i := 9) (oi := ⟨_, _, _, _, _, _⟩) (v := ?_) rfl (by kernel_rfl) (by kernel_rfl) (by kernel_rfl) (fun _ _ _ h => h) (Or.inl ⟨by rfl, ?_⟩) (by assumption) ?_
         rotate_left 1
         ·intro w hSw; (try dsimp only at hSw); go_simp; all_goals with_reducible rfl
         try simp only [Act.put, List.setIfInBounds_toArray, List.set_cons_zero, List.set_cons_succ]
         refine wpAnyH_take (i := 10) (oi := ⟨_, _, _, _, _, _⟩) (v := ?_) rfl (by kernel_rfl) (by kernel_rfl) (by kernel_rfl) (fun _ _ _ h => h) (Or.inl ⟨by rfl, ?_⟩) (by assumption) ?_
         rotate_left 1
         ·intro w hSw; (try dsimp only at hSw); go_simp; all_goals with_reducible rfl
         try simp only [Act.put, List.setIfInBounds_toArray, List.set_cons_zero, List.set_cons_succ]
         refine wpAnyH_take (i := 11) (oi := ⟨_, _, _, _, _, _⟩) (v := ?_) rfl (by kernel_rfl) (by kernel_rfl) (by kernel_rfl) (fun _ _ _ h => h) (Or.inl ⟨by rfl, ?_⟩) (by assumption) ?_
         rotate_left 1
         ·intro w hSw; (try dsimp only at hSw); go_simp; all_goals with_reducible rfl
         try simp only [Act.put, List.setIfInBounds_toArray, List.set_cons_zero, List.set_cons_succ]
         refine wpAnyH_ready (rs := [12]) (by kernel_rfl) (by simp) (AllReadyH.cons (o := ⟨_, _, _, _, _, _⟩) rfl (fun K hK => ?_) AllReadyH.nil)
         go_simp
         refine hK.out _ _ ?_ (fun hHeld => ?_)
         ·first | exact hHeld | exact set_cell_ne hHeld (by intro e; injection e with e1 e2; omega)
         clear hK K
         try simp only [Act.put, List.setIfInBounds_toArray, List.set_cons_zero, List.set_cons_succ]
         refine wpAnyH_ready (rs := [13]) (by kernel_rfl) (by simp) (AllReadyH.cons (o := ⟨_, _, _, _, _, _⟩) rfl (fun K hK => ?_) AllReadyH.nil)
         go_simp
         go_at_call 39; refine Calls.mono (CI.out _ ((Q.refl Z0).drew)) ?_; rintro e y5 ⟨ia', ic', li, rfl, ev5, s5, l5, q5⟩; have H5 := hideIt (And.intro ev5 (And.intro s5 (And.intro l5 q5))); have QQ5 := hideIt ((Q.refl Z0).drew.trans q5); clear ev5 s5 l5 q5; have hHeld := cell_keep QQ5.out G3.out; have p0' := cell_keep QQ5.out P0.out; have pz := free_of_block (heap_keep QQ5.out HPP.out.blk) (j * 5)
         refine hK.out _ _ ?_ (fun hHeld => ?_)
         ·first | exact hHeld | exact set_cell_ne hHeld (by intro e; injection e with e1 e2; omega)
         clear hK K
         try simp only [Act.put, List.setIfInBounds_toArray, List.set_cons_zero, List.set_cons_succ]
         refine wpAnyH_take (i := 14) (oi := ⟨_, _, _, _, _, _⟩) (v := ?_) rfl (by kernel_rfl) (by kernel_rfl) (by kernel_rfl) (fun _ _ _ h => h) (Or.inl ⟨by rfl, ?_⟩) (by assumption) ?_
         rotate_left 1
         ·intro w hSw; (try dsimp only at hSw); go_simp; all_goals with_reducible rfl
         try simp only [Act.put, List.setIfInBounds_toArray, List.set_cons_zero, List.set_cons_succ]
         refine wpAnyH_take (i := 15) (oi := ⟨_, _, _, _, _, _⟩) (v := ?_) rfl (by kernel_rfl) (by kernel_rfl) (by kernel_rfl) (fun _ _ _ h => h) (Or.inl ⟨by rfl, ?_⟩) (by assumption) ?_
         rotate_left 1
         ·intro w hSw; (try dsimp only at hSw); go_simp; all_goals with_reducible rfl
         try simp only [Act.put, List.setIfInBounds_toArray, List.set_cons_zero, List.set_cons_succ]
         refine wpAnyH_ready (rs := [16]) (by kernel_rfl) (by simp) (AllReadyH.cons (o := ⟨_, _, _, _, _, _⟩) rfl (fun K hK => ?_) AllReadyH.nil)
         go_simp
         refine hK.out _ _ ?_ (fun hHeld => ?_)
         ·first | exact hHeld | exact set_cell_ne hHeld (by intro e; injection e with e1 e2; omega)
         clear hK K
         try simp only [Act.put, List.setIfInBounds_toArray, List.set_cons_zero, List.set_cons_succ]
         refine wpAnyH_done (by kernel_rfl) ?_ _
         go_wp2
         go_roundw
         case rel =>
          have fz : FrX G y1 (y5.setCell ⟨P, j * 5, none⟩ (.slice ia' p.ins.length ic')) := FrX.set (p := ⟨P, j * 5, none⟩) (HFR.out.trans (FrX.of_q QQ5.out)) (Or.inr (by show y1.heap.size ≤ P; rw [HP1.out]; exact Nat.le_refl _)) _
          have fy : FrX w.heap.size Y (y5.setCell ⟨P, j * 5, none⟩ (.slice ia' p.ins.length ic')) := FrX.set (p := ⟨P, j * 5, none⟩) (HCS.out.fr.trans (FrX.of_q QQ5.out)) (Or.inr hYP) _
          refine ⟨j + 1, _, by go_num, by omega, HPP.out.step HLP.out HPO.out QQ5.out H5.out.1 H5.out.2.1 H5.out.2.2.1, fz, heap_set_other (heap_keep QQ5.out HBK.out) (by show G ≠ P; omega), HCS.out.keep fy ?_⟩
          exact (Below.heap_setCell _ _ _ _ (by show w.heap.size ≠ P; omega)).trans (QQ5.out.block _ (Array.getElem?_eq_some_iff.1 HCS.out.box).1)
         case measure => simp [intOf]; omega
        ·have ej : j = x.parts.length := by omega
         have HEJ := hideIt ej
         clear ej
         go_wp2_with (fail)
         go_roundw
         case rel =>
          have hcp3 := HPP.out
          rw [HEJ.out] at hcp3
          obtain ⟨d1, d2⟩ := hcp3.done (lo := G + 1) (by omega)
          refine ⟨k + 1, L.set k { x with sa := sa, sc := sc, pa := some ⟨P, 0, none⟩, pc := pc, parts := LP }, by go_num, by omega, HCS.out, HCP.out.step HX.out (FrX.trans (FrX.of_q QQ1.out) HFR.out) ?_ ⟨rfl, rfl, rfl, d2⟩ ?_ ?_ ?_⟩
          ·rw [HBK.out]
           rw [flat_congr L k (x := { x with sa := sa, sc := sc, pa := some ⟨P, 0, none⟩, pc := pc }) (y := { x with sa := sa, sc := sc, pa := some ⟨P, 0, none⟩, pc := pc, parts := LP }) (by simp [PF.cells, d2.len])]
          ·refine ⟨HXO.out.params, HXO.out.regs, H1.out.2.1, H1.out.1.frx (H1.out.2.2.1.mono hGW) (Nat.lt_succ_self G) HFR.out, ?_, d1.at'⟩
           show sok 56 (some ⟨P, 0, none⟩) LP.length pc
           rw [d2.len]
           exact H2.out.1.1
          ·exact ⟨(H1.out.2.2.1.mono hGW).frx (Nat.lt_succ_self G) HFR.out, d1, fn_so (f := { x with sa := sa, sc := sc, pa := some ⟨P, 0, none⟩, pc := pc, parts := LP }) rfl hcp3.above H1.out.2.2.1 HP1.out, (by show pc = LP.length; rw [d2.len]; exact H2.out.1.2)⟩
          ·exact fun g hg => fn_ge (f := { x with sa := sa, sc := sc, pa := some ⟨P, 0, none⟩, pc := pc, parts := LP }) rfl hcp3.above H1.out.2.2.1 HP1.out QQ1.out.size hg
         case measure => simp [intOf]; omega
    ·go_simp
     refine hK.out _ _ ?_ (fun hHeld => ?_)
     ·trivial
     clear hK K
     try simp only [Act.put, List.setIfInBounds_toArray, List.set_cons_zero, List.set_cons_succ]
     refine wpAnyH_ready (rs := [5]) (by kernel_rfl) (by simp) (AllReadyH.cons (o := ⟨_, _, _, _, _, _⟩) rfl (fun K hK => ?_) AllReadyH.nil)
     go_simp
     refine hK.out _ _ ?_ (fun hHeld => ?_)
     ·trivial
     clear hK K
     try simp only [Act.put, List.setIfInBounds_toArray, List.set_cons_zero, List.set_cons_succ]
     refine wpAnyH_ready (rs := [6]) (by kernel_rfl) (by simp) (AllReadyH.cons (o := ⟨_, _, _, _, _, _⟩) rfl (fun K hK => ?_) AllReadyH.nil)
     go_simp
     go_at_call 35; refine Calls.mono (D6.out _ (Q.refl W1).drew) ?_; rintro e y1 ⟨sa, sc, rfl, i1, s1, n1, q1⟩; have H1 := hideIt (And.intro i1 (And.intro s1 (And.intro n1 q1))); have QQ1 := hideIt ((Q.refl W1).drew.trans q1); clear i1 s1 n1 q1; have m2' := cell_keep QQ1.out M2.out; have m3' := cell_keep QQ1.out M3.out; clear m2 m3
     refine hK.out _ _ ?_ (fun hHeld => ?_)
     ·trivial
     clear hK K
     try simp only [Act.put, List.setIfInBounds_toArray, List.set_cons_zero, List.set_cons_succ]
     refine wpAnyH_ready (rs := [11]) (by kernel_rfl) (by simp) (AllReadyH.cons (o := ⟨_, _, _, _, _, _⟩) rfl (fun K hK => ?_) AllReadyH.nil)
     go_simp
     go_at_call 38; refine Calls.mono (D11.out _ QQ1.out) ?_; rintro e y2 ⟨pa, pc, rfl, s2, f2, q2⟩; have H2 := hideIt (And.intro s2 (And.intro f2 q2)); have QQ2 := hideIt (QQ1.out.trans q2); clear s2 f2 q2; have n2 := cell_keep QQ2.out M2.out; have n3 := cell_keep QQ2.out M3.out; clear m2' m3'; have z2 := free_of_block (heap_keep QQ2.out HCP.out.blk) (k * 4 + 2); have z3 := free_of_block (heap_keep QQ2.out HCP.out.blk) (k * 4 + 3)
     refine hK.out _ _ ?_ (fun hHeld => ?_)
     ·trivial
     clear hK K
     try simp only [Act.put, List.setIfInBounds_toArray, List.set_cons_zero, List.set_cons_succ]
     refine wpAnyH_take (i := 12) (oi := ⟨_, _, _, _, _, _⟩) (v := ?_) rfl (by kernel_rfl) (by kernel_rfl) (by kernel_rfl) (fun _ _ _ h => h) (Or.inl ⟨by rfl, ?_⟩) (by assumption) ?_
     rotate_left 1
     ·intro w hSw; (try dsimp only at hSw); go_simp; all_goals with_reducible rfl
     try simp only [Act.put, List.setIfInBounds_toArray, List.set_cons_zero, List.set_cons_succ]
     refine wpAnyH_take (i := 13) (oi := ⟨_, _, _, _, _, _⟩) (v := ?_) rfl (by kernel_rfl) (by kernel_rfl) (by kernel_rfl) (fun _ _ _ h => h) (Or.inl ⟨by rfl, ?_⟩) (by assumption) ?_
     rotate_left 1
     ·intro w hSw; (try dsimp only at hSw); go_simp; all_goals with_reducible rfl
     try simp only [Act.put, List.setIfInBounds_toArray, List.set_cons_zero, List.set_cons_succ]
     refine wpAnyH_ready (rs := [14]) (by kernel_rfl) (by simp) (AllReadyH.cons (o := ⟨_, _, _, _, _, _⟩) rfl (fun K hK => ?_) AllReadyH.nil)
     go_simp
     refine hK.out _ _ ?_ (fun hHeld => ?_)
     ·trivial
     clear hK K
     try simp only [Act.put, List.setIfInBounds_toArray, List.set_cons_zero, List.set_cons_succ]
     refine wpAnyH_take (i := 15) (oi := ⟨_, _, _, _, _, _⟩) (v := ?_) rfl (by kernel_rfl) (by kernel_rfl) (by kernel_rfl) (fun _ _ _ h => h) (Or.inl ⟨by rfl, ?_⟩) (by assumption) ?_
     rotate_left 1
     ·intro w hSw; (try dsimp only at hSw); go_simp; all_goals with_reducible rfl
     try simp only [Act.put, List.setIfInBounds_toArray, List.set_cons_zero, List.set_cons_succ]
     refine wpAnyH_take (i := 16) (oi := ⟨_, _, _, _, _, _⟩) (v := ?_) rfl (by kernel_rfl) (by kernel_rfl) (by kernel_rfl) (fun _ _ _ h => h) (Or.inl ⟨by rfl, ?_⟩) (by assumption) ?_
     rotate_left 1
     ·intro w hSw; (try dsimp only at hSw); go_simp; all_goals with_reducible rfl
     try simp only [Act.put, List.setIfInBounds_toArray, List.set_cons_zero, List.set_cons_succ]
     refine wpAnyH_ready (rs := [17]) (by kernel_rfl) (by simp) (AllReadyH.cons (o := ⟨_, _, _, _, _, _⟩) rfl (fun K hK => ?_) AllReadyH.nil)
     go_simp
     refine hK.out _ _ ?_ (fun hHeld => ?_)
     ·trivial
     clear hK K
     try simp only [Act.put, List.setIfInBounds_toArray, List.set_cons_zero, List.set_cons_succ]
     refine wpAnyH_done (by kernel_rfl) ?_ _
     generalize hW2 : (y2.setCell ⟨G, k * 4 + 2, none⟩ (.slice sa x.slots.length sc)).setCell ⟨G, k * 4 + 3, none⟩ (.slice pa x.parts.length pc) = W2
     have blk2 : W2.heap[G]? = some (.cells ((L.set k { x with sa := sa, sc := sc, pa := pa, pc := pc }).flatMap PF.cells).toArray 44 (0, 0)) := by rw [← hW2]; exact fn_step HCP.out HX.out QQ2.out sa sc pa pc
     have fr2 : FrX G y1 W2 := by rw [← hW2]; exact FrX.set (p := ⟨G, k * 4 + 3, none⟩) (FrX.set (p := ⟨G, k * 4 + 2, none⟩) (FrX.of_q H2.out.2.2) (Or.inl rfl) _) (Or.inl rfl) _
     have cs2 : CS w Y c ga gc na nc (some ⟨G, 0, none⟩) fc W2 := by
      rw [← hW2]
      exact HS.out.keep (FrX.set (p := ⟨G, k * 4 + 3, none⟩) (FrX.set (p := ⟨G, k * 4 + 2, none⟩) (HS.out.fr.trans (FrX.of_q QQ2.out)) (Or.inr hG) _) (Or.inr hG) _) ((Below.heap_setCell _ _ _ _ (by show w.heap.size ≠ G; omega)).trans ((Below.heap_setCell _ _ _ _ (by show w.heap.size ≠ G; omega)).trans (QQ2.out.block _ hbw)))
     have HB2 := hideIt blk2
     have HF2 := hideIt fr2
     have HS2 := hideIt cs2
     have g3 : W2.cell? ⟨G, k * 4 + 3, none⟩ = some (.slice pa x.parts.length pc) := (flat_block PF.len blk2 (k := k) (x := { x with sa := sa, sc := sc, pa := pa, pc := pc }) (by simp [HKL.out])).cell 3 _ rfl
     clear blk2 fr2 cs2 n2 n3 z2 z3
     rcases H2.out.2.1 with hp0 | ⟨hpa, hpb⟩
     ·clear hW2
      have HP0 := hideIt hp0
      have e0 : x.parts.length = 0 := by rw [hp0]; rfl
      clear hp0
      go_wp2_with (fail)
      refine wp_loop_rounds 1 ?_
      rw [rounds_succ]
      go_wp2
      go_roundw
      case rel =>
       have hp0 := HP0.out
       refine ⟨k + 1, L.set k { x with sa := sa, sc := sc, pa := pa, pc := pc }, by go_num, by omega, HS2.out, HCP.out.step HX.out (FrX.trans (FrX.of_q QQ1.out) HF2.out) HB2.out ⟨rfl, rfl, rfl, rfl, fun k p q h1 h2 => by dsimp only at h1; rw [hp0] at h1; simp at h1⟩ ?_ ?_ (fun g hg => fn_ge0 (f := { x with sa := sa, sc := sc, pa := pa, pc := pc }) hp0 H1.out.2.2.1 hg)⟩
       ·exact ⟨HXO.out.params, HXO.out.regs, H1.out.2.1, H1.out.1.frx (H1.out.2.2.1.mono hGW) (Nat.lt_succ_self G) HF2.out, H2.out.1.1, fun k p h1 => by dsimp only at h1; rw [hp0] at h1; simp at h1⟩
       ·exact ⟨(H1.out.2.2.1.mono hGW).frx (Nat.lt_succ_self G) HF2.out, ⟨fun k p h1 => by dsimp only at h1; rw [hp0] at h1; simp at h1, Or.inl (by dsimp only; rw [hp0]; rfl), fun p h1 => (by dsimp only at h1; rw [hp0] at h1; simp at h1), (fun k1 k2 x1 x2 g1 g2 h1 => by dsimp only at h1; rw [hp0] at h1; simp at h1), Or.inl hp0, fun p h1 => (by dsimp only at h1; rw [hp0] at h1; simp at h1)⟩, fn_so0 hp0, H2.out.1.2⟩
      case measure => simp [intOf]; omega
     ·obtain ⟨P, hP⟩ : ∃ P, y1.heap.size = P := ⟨_, rfl⟩
      have hPG : G < P := by have h3 : W1.heap.size ≤ y1.heap.size := QQ1.out.size; omega
      have hYP : Y.heap.size ≤ P := by omega
      have cp0 : Hid (CpP P x.parts 0 x.parts W2) := by
       show CpP P x.parts 0 x.parts W2
       refine ⟨rfl, ?_, fun k p q _ _ h => by omega, fun k _ => rfl, fun k1 k2 x1 x2 g1 g2 _ _ _ h => by omega⟩
       rw [← hW2, ← hP]
       exact heap_set_other (heap_set_other hpb (by show y1.heap.size ≠ G; omega)) (by show y1.heap.size ≠ G; omega)
      rw [hP] at hpa
      subst hpa
      have HP1 := hideIt hP
      clear hpb hP hW2
      go_wp2_with (fail)
      clear g3
      go_loopw [5, 49] (fun d5 jv z => ∃ (j : Nat) (LP : List PP), jv = .int .i64 j ∧ j ≤ x.parts.length ∧ CpP P x.parts j LP z ∧ FrX G y1 z ∧ z.heap[G]? = some (.cells ((L.set k { x with sa := sa, sc := sc, pa := some ⟨P, 0, none⟩, pc := pc }).flatMap PF.cells).toArray 44 (0, 0)) ∧ CS w Y c ga gc na nc (some ⟨G, 0, none⟩) fc z) (fun _ jv _ => x.parts.length - (intOf jv).toNat)
      case atStart => exact ⟨0, x.parts, rfl, by omega, cp0.out, HF2.out, HB2.out, HS2.out⟩
      case round =>
       obtain ⟨j, LP, rfl, hj, hcp2, hfr2, hblk2, hcs2⟩ := hrel
       generalize wr = Z0 at *
       have HPP := hideIt hcp2
       have HFR := hideIt hfr2
       have HBK := hideIt hblk2
       have HCS := hideIt hcs2
       have G3 : Hid (Z0.cell? ⟨G, k * 4 + 3, none⟩ = some (.slice (some ⟨P, 0, none⟩) x.parts.length pc)) := (flat_block PF.len hblk2 (k := k) (x := { x with sa := sa, sc := sc, pa := some ⟨P, 0, none⟩, pc := pc }) (by simp [HKL.out])).cell 3 _ rfl
       have g3 := G3.out
       clear hcp2 hfr2 hblk2 hcs2
       by_cases hlt2 : j < x.parts.length
       ·obtain ⟨p, hp⟩ := get_of_lt hlt2
        have hLP : LP[j]? = some p := by rw [HPP.out.old j (Nat.le_refl _)]; exact hp
        have HLP := hideIt hLP
        have QZ : Hid (Q w Z0) := HCS.out.fr.q HY.out.q (Nat.le_refl _)
        obtain ⟨_, _, -, -, hpo⟩ := (HXP.out Z0 QZ.out) j p hp
        have HPO := hideIt hpo
        have CI := hideIt (fun X (h : Q Z0 X) => insts_any X p.ia p.ic p.ins hpo.sok (hpo.ins.keep h))
        have P0 : Hid (Z0.cell? ⟨P, j * 5, none⟩ = some (.slice p.ia p.ins.length p.ic)) := (flat_block PP.len HPP.out.blk hLP).cell 0 _ rfl
        have p0 := P0.out
        have hjl : (j : Int) < (x.parts.length : Int) := by omega
        have hPl : P < Z0.heap.size := (Array.getElem?_eq_some_iff.1 HPP.out.blk).1
        clear hp hLP hpo
        go_wp2_with (fail)
        refine wp_region_held_drew (S := (fun y : World => y.cell? ⟨G, k * 4 + 3, none⟩ = some (.slice (some ⟨P, 0, none⟩) x.parts.length pc))) (by kernel_rfl) (G3.out) (fun hHeld => ?_)
        refine wpAnyH_take (i := 0) (oi := ⟨_, _, _, _, _, _⟩) (v := ?_) rfl (by kernel_rfl) (by kernel_rfl) (by kernel_rfl) (fun _ _ _ h => h) (Or.inl ⟨by rfl, ?_⟩) (by assumption) ?_
        rotate_left 1
        ·intro w hSw; (try dsimp only at hSw); go_simp; all_goals with_reducible rfl
        try simp only [Act.put, List.setIfInBounds_toArray, List.set_cons_zero, List.set_cons_succ]
        refine wpAnyH_take (i := 1) (oi := ⟨_, _, _, _, _, _⟩) (v := ?_) rfl (by kernel_rfl) (by kernel_rfl) (by kernel_rfl) (fun _ _ _ h => h) (Or.inl ⟨by rfl, ?_⟩) (by assumption) ?_
        rotate_left 1
        ·intro w hSw; (try dsimp only at hSw); go_simp; all_goals with_reducible rfl
        try simp only [Act.put, List.setIfInBounds_toArray, List.set_cons_zero, List.set_cons_succ]
        refine wpAnyH_take (i := 2) (oi := ⟨_, _, _, _, _, _⟩) (v := ?_) rfl (by kernel_rfl) (by kernel_rfl) (by kernel_rfl) (fun _ _ _ h => h) (Or.inl ⟨by rfl, ?_⟩) (by assumption) ?_
        rotate_left 1
        ·intro w hSw; (try dsimp only at hSw); go_simp; all_goals with_reducible rfl
        try simp only [Act.put, List.setIfInBounds_toArray, List.set_cons_zero, List.set_cons_succ]
        refine wpAnyH_take (i := 3) (oi := ⟨_, _, _, _, _, _⟩) (v := ?_) rfl (by kernel_rfl) (by kernel_rfl) (by kernel_rfl) (fun _ _ _ h => h) (Or.inl ⟨by rfl, ?_⟩) (by assumption) ?_
        rotate_left 1
        ·intro w hSw; (try dsimp only at hSw); go_simp; all_goals with_reducible rfl
        try simp only [Act.put, List.setIfInBounds_toArray, List.set_cons_zero, List.set_cons_succ]
        refine wpAnyH_take (i := 4) (oi := ⟨_, _, _, _, _, _⟩) (v := ?_) rfl (by kernel_rfl) (by kernel_rfl) (by kernel_rfl) (fun _ _ _ h => h) (Or.inl ⟨by rfl, ?_⟩) (by assumption) ?_
        rotate_left 1
        ·intro w hSw; (try dsimp only at hSw); go_simp; all_goals with_reducible rfl
        try simp only [Act.put, List.setIfInBounds_toArray, List.set_cons_zero, List.set_cons_succ]
        refine wpAnyH_take (i := 5) (oi := ⟨_, _, _, _, _, _⟩) (v := ?_) rfl (by kernel_rfl) (by kernel_rfl) (by kernel_rfl) (fun _ _ _ h => h) (Or.inl ⟨by rfl, ?_⟩) (by assumption) ?_
        rotate_left 1
        ·intro w hSw; (try dsimp only at hSw); go_simp; all_goals with_reducible rfl
        try simp only [Act.put, List.setIfInBounds_toArray, List.set_cons_zero, List.set_cons_succ]
        refine wpAnyH_take (i := 6) (oi := ⟨_, _, _, _, _, _⟩) (v := ?_) rfl (by kernel_rfl) (by kernel_rfl) (by kernel_rfl) (fun _ _ _ h => h) (Or.inl ⟨by rfl, ?_⟩) (by assumption) ?_
        rotate_left 1
        ·intro w hSw; (try dsimp only at hSw); go_simp; all_goals with_reducible rfl
        try simp only [Act.put, List.setIfInBounds_toArray, List.set_cons_zero, List.set_cons_succ]
        refine wpAnyH_take (i := 7) (oi := ⟨_, _, _, _, _, _⟩) (v := ?_) rfl (by kernel_rfl) (by kernel_rfl) (by kernel_rfl) (fun _ _ _ h => h) (Or.inl ⟨by rfl, ?_⟩) (by assumption) ?_
        rotate_left 1
        ·intro w hSw; (try dsimp only at hSw); go_simp; all_goals with_reducible rfl
        try simp only [Act.put, List.setIfInBounds_toArray, List.set_cons_zero, List.set_cons_succ]
        refine wpAnyH_take (i := 8) (oi := ⟨_, _, _, _, _, _⟩) (v := ?_) rfl (by kernel_rfl) (by kernel_rfl) (by kernel_rfl) (fun _ _ _ h => h) (Or.inl ⟨by rfl, ?_⟩) (by assumption) ?_
        rotate_left 1
        ·intro w hSw; (try dsimp only at hSw); go_simp; all_goals with_reducible rfl
        try simp only [Act.put, List.setIfInBounds_toArray, List.set_cons_zero, List.set_cons_succ]
        refine wpAnyH_take (i := 9) (oi := ⟨_, _, _, _, _, _⟩) (v := ?_) rfl (by kernel_rfl) (by kernel_rfl) (by kernel_rfl) (fun _ _ _ h => h) (Or.inl ⟨by rfl, ?_⟩) (by assumption) ?_
        rotate_left 1
        ·intro w hSw; (try dsimp only at hSw); go_simp; all_goals with_reducible rfl
        try simp only [Act.put, List.setIfInBounds_toArray, List.set_cons_zero, List.set_cons_succ]
        refine wpAnyH_take (i := 10) (oi := ⟨_, _, _, _, _, _⟩) (v := ?_) rfl (by kernel_rfl) (by kernel_rfl) (by kernel_rfl) (fun _ _ _ h => h) (Or.inl ⟨by rfl, ?_⟩) (by assumption) ?_
        rotate_left 1
        ·intro w hSw; (try dsimp only at hSw); go_simp; all_goals with_reducible rfl
        try simp only [Act.put, List.setIfInBounds_toArray, List.set_cons_zero, List.set_cons_succ]
        refine wpAnyH_take (i := 11) (oi := ⟨_, _, _, _, _, _⟩) (v := ?_) rfl (by kernel_rfl) (by kernel_rfl) (by kernel_rfl) (fun _ _ _ h => h) (Or.inl ⟨by rfl, ?_⟩) (by assumption) ?_
        rotate_left 1
        ·intro w hSw; (try dsimp only at hSw); go_simp; all_goals with_reducible rfl
        try simp only [Act.put, List.setIfInBounds_toArray, List.set_cons_zero, List.set_cons_succ]
        refine wpAnyH_ready (rs := [12]) (by kernel_rfl) (by simp) (AllReadyH.cons (o := ⟨_, _, _, _, _, _⟩) rfl (fun K hK => ?_) AllReadyH.nil)
        go_simp
        refine hK.out _ _ ?_ (fun hHeld => ?_)
        ·first | exact hHeld | exact set_cell_ne hHeld (by intro e; injection e with e1 e2; omega)
        clear hK K
        try simp only [Act.put, List.setIfInBounds_toArray, List.set_cons_zero, List.set_cons_succ]
        refine wpAnyH_ready (rs := [13]) (by kernel_rfl) (by simp) (AllReadyH.cons (o := ⟨_, _, _, _, _, _⟩) rfl (fun K hK => ?_) AllReadyH.nil)
        go_simp
        go_at_call 39; refine Calls.mono (CI.out _ ((Q.refl Z0).drew)) ?_; rintro e y5 ⟨ia', ic', li, rfl, ev5, s5, l5, q5⟩; have H5 := hideIt (And.intro ev5 (And.intro s5 (And.intro l5 q5))); have QQ5 := hideIt ((Q.refl Z0).drew.trans q5); clear ev5 s5 l5 q5; have hHeld := cell_keep QQ5.out G3.out; have p0' := cell_keep QQ5.out P0.out; have pz := free_of_block (heap_keep QQ5.out HPP.out.blk) (j * 5)
        refine hK.out _ _ ?_ (fun hHeld => ?_)
        ·first | exact hHeld | exact set_cell_ne hHeld (by intro e; injection e with e1 e2; omega)
        clear hK K
        try simp only [Act.put, List.setIfInBounds_toArray, List.set_cons_zero, List.set_cons_succ]
        refine wpAnyH_take (i := 14) (oi := ⟨_, _, _, _, _, _⟩) (v := ?_) rfl (by kernel_rfl) (by kernel_rfl) (by kernel_rfl) (fun _ _ _ h => h) (Or.inl ⟨by rfl, ?_⟩) (by assumption) ?_
        rotate_left 1
        ·intro w hSw; (try dsimp only at hSw); go_simp; all_goals with_reducible rfl
        try simp only [Act.put, List.setIfInBounds_toArray, List.set_cons_zero, List.set_cons_succ]
        refine wpAnyH_take (i := 15) (oi := ⟨_, _, _, _, _, _⟩) (v := ?_) rfl (by kernel_rfl) (by kernel_rfl) (by kernel_rfl) (fun _ _ _ h => h) (Or.inl ⟨by rfl, ?_⟩) (by assumption) ?_
        rotate_left 1
        ·intro w hSw; (try dsimp only at hSw); go_simp; all_goals with_reducible rfl
        try simp only [Act.put, List.setIfInBounds_toArray, List.set_cons_zero, List.set_cons_succ]
        refine wpAnyH_ready (rs := [16]) (by kernel_rfl) (by simp) (AllReadyH.cons (o := ⟨_, _, _, _, _, _⟩) rfl (fun K hK => ?_) AllReadyH.nil)
        go_simp
        refine hK.out _ _ ?_ (fun hHeld => ?_)
        ·first | exact hHeld | exact set_cell_ne hHeld (by intro e; injection e with e1 e2; omega)
        clear hK K
        try simp only [Act.put, List.setIfInBounds_toArray, List.set_cons_zero, List.set_cons_succ]
        refine wpAnyH_done (by kernel_rfl) ?_ _
        go_wp2
        go_roundw
        case rel =>
         have fz : FrX G y1 (y5.setCell ⟨P, j * 5, none⟩ (.slice ia' p.ins.length ic')) := FrX.set (p := ⟨P, j * 5, none⟩) (HFR.out.trans (FrX.of_q QQ5.out)) (Or.inr (by show y1.heap.size ≤ P; rw [HP1.out]; exact Nat.le_refl _)) _
         have fy : FrX w.heap.size Y (y5.setCell ⟨P, j * 5, none⟩ (.slice ia' p.ins.length ic')) := FrX.set (p := ⟨P, j * 5, none⟩) (HCS.out.fr.trans (FrX.of_q QQ5.out)) (Or.inr hYP) _
         refine ⟨j + 1, _, by go_num, by omega, HPP.out.step HLP.out HPO.out QQ5.out H5.out.1 H5.out.2.1 H5.out.2.2.1, fz, heap_set_other (heap_keep QQ5.out HBK.out) (by show G ≠ P; omega), HCS.out.keep fy ?_⟩
         exact (Below.heap_setCell _ _ _ _ (by show w.heap.size ≠ P; omega)).trans (QQ5.out.block _ (Array.getElem?_eq_some_iff.1 HCS.out.box).1)
        case measure => simp [intOf]; omega
       ·have ej : j = x.parts.length := by omega
        have HEJ := hideIt ej
        clear ej
        go_wp2_with (fail)
        go_roundw
        case rel =>
         have hcp3 := HPP.out
         rw [HEJ.out] at hcp3
         obtain ⟨d1, d2⟩ := hcp3.done (lo := G + 1) (by omega)
         refine ⟨k + 1, L.set k { x with sa := sa, sc := sc, pa := some ⟨P, 0, none⟩, pc := pc, parts := LP }, by go_num, by omega, HCS.out, HCP.out.step HX.out (FrX.trans (FrX.of_q QQ1.out) HFR.out) ?_ ⟨rfl, rfl, rfl, d2⟩ ?_ ?_ ?_⟩
         ·rw [HBK.out]
          rw [flat_congr L k (x := { x with sa := sa, sc := sc, pa := some ⟨P, 0, none⟩, pc := pc }) (y := { x with sa := sa, sc := sc, pa := some ⟨P, 0, none⟩, pc := pc, parts := LP }) (by simp [PF.cells, d2.len])]
         ·refine ⟨HXO.out.params, HXO.out.regs, H1.out.2.1, H1.out.1.frx (H1.out.2.2.1.mono hGW) (Nat.lt_succ_self G) HFR.out, ?_, d1.at'⟩
          show sok 56 (some ⟨P, 0, none⟩) LP.length pc
          rw [d2.len]
          exact H2.out.1.1
         ·exact ⟨(H1.out.2.2.1.mono hGW).frx (Nat.lt_succ_self G) HFR.out, d1, fn_so (f := { x with sa := sa, sc := sc, pa := some ⟨P, 0, none⟩, pc := pc, parts := LP }) rfl hcp3.above H1.out.2.2.1 HP1.out, (by show pc = LP.length; rw [d2.len]; exact H2.out.1.2)⟩
         ·exact fun g hg => fn_ge (f := { x with sa := sa, sc := sc, pa := some ⟨P, 0, none⟩, pc := pc, parts := LP }) rfl hcp3.above H1.out.2.2.1 HP1.out QQ1.out.size hg
        case measure => simp [intOf]; omega
   ·have ek : k = c.fns.length := by omega
    obtain ⟨rs, hr, hrs⟩ := HY.out.r
    have hr' := HS.out.fr.heap hr (by omega)
    obtain ⟨r0, r1, r2, hr0, hr1, hr2⟩ : ∃ r0 r1 r2, W1.cell? ⟨w.heap.size + 1, 0, none⟩ = some r0 ∧ W1.cell? ⟨w.heap.size + 1, 1, none⟩ = some r1 ∧ W1.cell? ⟨w.heap.size + 1, 2, none⟩ = some r2 := by
     refine ⟨rs[0]'(by omega), rs[1]'(by omega), rs[2]'(by omega), ?_, ?_, ?_⟩ <;> (rw [cell_of_block hr']; exact Array.getElem?_eq_getElem _)
    have rf0 : ∀ j, W1.frozen? ⟨w.heap.size + 1, j, none⟩ = false := fun j => free_of_block hr' j
    clear hr hr' hrs
    have HK := hideIt ek
    clear ek
    go_wp2_with (fail)
    refine bodyPost_ret (v := .agg #[.slice ga c.gl.length gc, .slice na c.ini.length nc, .slice (some ⟨G, 0, none⟩) c.fns.length fc]) (by simp [results, go_sem, hr0, hr1, hr2]) rfl ?_
    have hcp := HCP.out
    rw [HK.out] at hcp
    have hdn := hcp.done (lo := w.heap.size + 2) (by omega)
    have hd := cs_done (L := L) HY.out HS.out hsok.out hdn (go_of HY.out hG hcp)
    have fz : FrX (w.heap.size + 1) W1 ((((W1.setCell ⟨w.heap.size + 1, 0, none⟩ (.slice ga c.gl.length gc)).setCell ⟨w.heap.size + 1, 1, none⟩ (.slice na c.ini.length nc)).setCell ⟨w.heap.size + 1, 2, none⟩ (.slice (some ⟨G, 0, none⟩) c.fns.length fc))) := FrX.set (p := ⟨w.heap.size + 1, 2, none⟩) (FrX.set (p := ⟨w.heap.size + 1, 1, none⟩) (FrX.set (p := ⟨w.heap.size + 1, 0, none⟩) (FrX.of_q (Q.refl W1)) (Or.inl rfl) _) (Or.inl rfl) _) (Or.inl rfl) _
    refine ⟨_, ?_, hd.2, (hd.1.frx (by omega) fz).mono (by omega), fz.q QW.out (by omega)⟩
    show Ending.returned _ = Ending.returned (Value.agg #[.slice ga c.gl.length gc, .slice na c.ini.length nc, .slice (some ⟨G, 0, none⟩) L.length fc])
    rw [hdn.2.len]


end Go.Proofs.Ytphknepblchkdaa.Fc
