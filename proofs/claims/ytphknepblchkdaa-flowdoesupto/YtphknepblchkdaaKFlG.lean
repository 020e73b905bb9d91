/-
 What one number more in a list makes of the classes: facts on worlds; the conditions: the classes lie in memory.
 A part is looked at (look of flow): a contract over the program; the conditions: the classes lie in memory.
-/
import Derived.Test.YtphknepblchkdaaKFlF
namespace Go.Proofs.Ytphknepblchkdaa.Fl
open Go.RowKit
set_option linter.unusedVariables false

section
variable {X : Fx} {cb : Nat} {L : List PP} {s : Cs} {up : List Nat} {d : Nat → Nat} {R : Nat → Rw} {w z : World}
theorem one_new {Y : World} {t n : Nat} (h : Y.cell? ⟨t, 0, none⟩ = some (.int .i64 (n : Int))) : ∀ j' u, (NV [n])[j']? = some u → Y.cell? ⟨t, j', none⟩ = some u := fun j' u hu => by
 cases j' with
 | zero => rw [h]; simpa [NV, nv] using hu
 | succ j => simp [NV] at hu
theorem td_app (h : CMy X cb L s up R z) (n : Nat) (hb : s.td.length ≤ 50000000) {Y : World} (q : Q z Y) {t : Nat} (ht : Y.cell? ⟨t, 0, none⟩ = some (.int .i64 (n : Int))) (ty : TypeId) :
  ∃ a5 c5 w5, (Builtin.append_ #[22, 22] ty #[.slice (R 4).a (R 4).n (R 4).c, .slice (some ⟨t, 0, none⟩) 1 1]).run Try.prog Y = .ok (.slice a5 ((R 4).n + 1) c5) w5 ∧ w5.cell? ⟨cb, 4, none⟩ = some (.slice (R 4).a (R 4).n (R 4).c) ∧ w5.frozen? ⟨cb, 4, none⟩ = false ∧ ∃ R3, CMy X cb L { s with td := s.td ++ [n] } up R3 (w5.setCell ⟨cb, 4, none⟩ (.slice a5 ((R 4).n + 1) c5)) := by
 have mY := h.q q
 have hlo : X.l 4 ≤ Y.heap.size := by rw [l_new (by omega)]; exact mY.fs.size
 have hT := h.cr.t.n
 obtain ⟨a5, c5, w5, r5, g5⟩ := app_any (mY.sep.own 4 (kD_lt (by omega))) mY.cr.t.ty mY.cr.t.sz [n] (some ⟨t, 0, none⟩) 1 (.inr ⟨t, rfl, one_new ht⟩) (by rw [hT]; show s.td.length + 1 ≤ _; omega) hlo ty
 obtain ⟨⟨R3, m3, -⟩, e5⟩ := mY.td g5
 obtain ⟨-, -, -, -, q4, qf⟩ := mY.bx
 exact ⟨a5, c5, w5, r5, (World.cell?_of_block (a := ⟨cb, 4, none⟩) e5).trans q4, (World.frozen?_of_block (a := ⟨cb, 4, none⟩) e5).trans (qf 4), R3, m3⟩
theorem fr_app (h : CMy X cb L s up R z) (hX : X.ok) {j : Nat} (hj : j < X.N) {lj : List Nat} (hlj : s.fr[j]? = some lj) {F : Nat} (hF : (R 3).a = some ⟨F, 0, none⟩) (n : Nat) (hb : lj.length ≤ 50000000) {Y : World} (q : Q z Y) {t : Nat} (ht : Y.cell? ⟨t, 0, none⟩ = some (.int .i64 (n : Int))) (ty : TypeId) :
  ∃ a5 c5 w5, (Builtin.append_ #[22, 22] ty #[.slice (R (8 + j)).a (R (8 + j)).n (R (8 + j)).c, .slice (some ⟨t, 0, none⟩) 1 1]).run Try.prog Y = .ok (.slice a5 ((R (8 + j)).n + 1) c5) w5 ∧ w5.cell? ⟨F, j, none⟩ = some (.slice (R (8 + j)).a (R (8 + j)).n (R (8 + j)).c) ∧ w5.frozen? ⟨F, j, none⟩ = false ∧ w5.cell? ⟨cb, 3, none⟩ = some (.slice (some ⟨F, 0, none⟩) X.N (R 3).c) ∧ (∀ p v, p.block = X.P → z.cell? p = some v → w5.cell? p = some v) ∧ ∃ R3, CMy X cb L { s with fr := s.fr.set j (lj ++ [n]) } up R3 (w5.setCell ⟨F, j, none⟩ (.slice a5 ((R (8 + j)).n + 1) c5)) := by
 have mY := h.q q
 have hlo : X.l (8 + j) ≤ Y.heap.size := by rw [l_new (by omega)]; exact mY.fs.size
 have hi := h.cr.fr j lj hlj
 obtain ⟨a5, c5, w5, r5, g5⟩ := app_any (mY.sep.own (8 + j) (kD_fr hj)) hi.ty hi.sz [n] (some ⟨t, 0, none⟩) 1 (.inr ⟨t, rfl, one_new ht⟩) (by rw [hi.n]; show lj.length + 1 ≤ _; omega) hlo ty
 obtain ⟨⟨R3, m3, -⟩, e5, e6⟩ := mY.fro hX hj hlj hF g5
 obtain ⟨-, -, -, q3, -, -⟩ := mY.bx
 obtain ⟨F2, hF2, hFv2, hFc2, hFf2⟩ := mY.froms hX
 rw [hF] at hF2
 injection hF2 with hF2
 injection hF2 with hF2
 subst hF2
 refine ⟨a5, c5, w5, r5, (World.cell?_of_block (a := ⟨F, j, none⟩) e5).trans (hFc2 j hj), (World.frozen?_of_block (a := ⟨F, j, none⟩) e5).trans (hFf2 j), (World.cell?_of_block (a := ⟨cb, 3, none⟩) e6).trans (by rw [q3, hFv2]), fun p v hp hv => ?_, R3, m3⟩
 refine g5.g.cell (cell_keep q hv) (fun e => ?_)
 have ho := mY.sep.own (8 + j) (kD_fr hj)
 unfold Rw.v at e
 cases ea : (R (8 + j)).a with
 | none => rw [ea] at e; cases e
 | some a =>
  rw [ea] at e
  injection e with e
  exact mY.sep.apart 0 (8 + j) (kD_lt (by omega)) (kD_fr hj) (by omega) _ _ mY.pa ea (hp.symm.trans e)
end
end Go.Proofs.Ytphknepblchkdaa.Fl

namespace Go.Proofs.Ytphknepblchkdaa.Fl
open Go.RowKit
set_option linter.unusedVariables false

section
variable {X : Fx} {cb : Nat} {L : List PP} {s : Cs} {w : World}
theorem CM.idem (h : CM X cb L s w) {n : Nat} (hn : n < X.N) : s.rt n < X.N ∧ s.rt (s.rt n) = s.rt n := by
 obtain ⟨up, d, R, h⟩ := h
 have := h.up.rr n hn
 exact ⟨this.1, h.up.fx _ this.2⟩
end

set_option maxRecDepth 100000 in
set_option maxHeartbeats 1000000 in
theorem look_any (X : Fx) (hX : X.ok) (cb : Nat) (L : List PP) (s : Cs) (w : World) (h : CM X cb L s w) (n : Nat) (p : PP) (hp : L[n]? = some p) (hw : Wy X.N p) (he : p.e = false) (hsz : s.td.length + s.fr.flatten.length ≤ 50000000) (hhd : s.hd.length = X.N) (hL : L.length = X.N) :
  Calls Try.prog 46 #[.pointer (some ⟨cb, 0, none⟩), .int .i64 (n : Int)] w fun e w' => e = .returned (.tuple #[]) ∧ CM X cb L (s.look L n) w' := by
 have hn : n < X.N := by have := (List.getElem?_eq_some_iff.1 hp).1; omega
 have hNN : X.N ≤ 1000000 := hX.N
 have CR : Hid (Calls Try.prog 48 #[.pointer (some ⟨cb, 0, none⟩), .int .i64 (n : Int)] w fun e w' => e = .returned (.int .i64 (s.rt n : Int)) ∧ CM X cb L s w') := root_any X hX cb L s w h n hn
 have CE : Hid (∀ y, CM X cb L s y → Calls Try.prog 47 #[.pointer (some ⟨cb, 0, none⟩), .pointer (some ⟨X.P, n * 5, none⟩)] y fun e w' => e = .returned (.tuple #[.int .i64 ((s.ends p).1 : Int), .int .i64 ((s.ends p).2 : Int)]) ∧ CM X cb L s w') := fun y hy => ends_any X hX cb L s y hy n p hp hw he
 have CC : Hid (∀ y, CM X cb L s y → y.cell? ⟨cb, 0, none⟩ = some (.slice (some ⟨X.P, 0, none⟩) X.N X.pc)) := fun y hy => by
  obtain ⟨up, d, R, hy⟩ := hy
  rw [hy.bx.1, hy.pv]
 have hnx := hw.nx he
 obtain ⟨e1, hnl⟩ : (s.ends p).1 = s.rt p.next.toNat ∧ p.next.toNat < X.N := ⟨rfl, by omega⟩
 have id1 := h.idem hn
 have id2 := h.idem hnl
 have HLK : Hid (s.look L n = if (s.ends p).1 = (s.ends p).2 ∧ (s.ends p).1 ≠ s.rt n then s.unite (s.rt n) (s.ends p).1 else s) := by show s.look L n = _; unfold Cs.look; rw [hp]
 rw [← e1] at id2
 have CU : Hid ((s.ends p).1 ≠ s.rt n → ∀ y, CM X cb L s y → Calls Try.prog 64 #[.pointer (some ⟨cb, 0, none⟩), .int .i64 (s.rt n : Int), .int .i64 ((s.ends p).1 : Int)] y fun e w' => e = .returned (.tuple #[]) ∧ CM X cb L (s.unite (s.rt n) (s.ends p).1) w') := fun hne y hy => unite_any X hX cb L s y hy _ _ id1.1 id2.1 (fun q => hne q.symm) id1.2 id2.2 hsz hhd
 generalize (s.ends p).1 = x1 at *
 generalize (s.ends p).2 = x2 at *
 generalize s.rt n = own at *
 have hni : (n : Int) < (X.N : Int) := by omega
 clear h hp hw he hsz hhd hL hnx e1 hnl id1 id2
 by_cases hx : x1 = x2
 ·subst hx
  have d1 : ((x1 : Int) == (x1 : Int)) = true := by simp
  by_cases ho : x1 = own
  ·subst ho
   have d2 : ((x1 : Int) != (x1 : Int)) = false := by simp
   have e9 := HLK.out
   rw [if_neg (by simp)] at e9
   have E9 := hideIt e9
   clear e9 CU HLK
   go_enter Try.func46, Try.ntmps46
   go_wp2_with (first
    | (go_at_call 48; refine CR.out.mono ?_; rintro e y ⟨rfl, hy⟩; have HY := hideIt hy; have c0 := CC.out y hy; clear hy)
    | (go_at_call 47; refine (CE.out _ HY.out).mono ?_; rintro e z ⟨rfl, hz⟩; have HZ := hideIt hz; clear hz c0)
    | fail)
   go_end0
   exact ⟨rfl, by rw [E9.out]; exact HZ.out⟩
  ·have d2 : ((x1 : Int) != (own : Int)) = true := by simp; omega
   have e9 := HLK.out
   rw [if_pos ⟨rfl, ho⟩] at e9
   have E9 := hideIt e9
   have CU2 := hideIt (CU.out ho)
   clear e9 CU HLK ho
   go_enter Try.func46, Try.ntmps46
   go_wp2_with (first
    | (go_at_call 48; refine CR.out.mono ?_; rintro e y ⟨rfl, hy⟩; have HY := hideIt hy; have c0 := CC.out y hy; clear hy)
    | (go_at_call 47; refine (CE.out _ HY.out).mono ?_; rintro e z ⟨rfl, hz⟩; have HZ := hideIt hz; clear hz c0)
    | (go_at_call 64; refine (CU2.out _ HZ.out).mono ?_; rintro e v ⟨rfl, hv⟩; have HV := hideIt hv; clear hv)
    | fail)
   go_end0
   exact ⟨rfl, by rw [E9.out]; exact HV.out⟩
 ·have d1 : ((x1 : Int) == (x2 : Int)) = false := by simp; omega
  have e9 := HLK.out
  rw [if_neg (fun q => hx q.1)] at e9
  have E9 := hideIt e9
  clear e9 CU HLK hx
  go_enter Try.func46, Try.ntmps46
  go_wp2_with (first
   | (go_at_call 48; refine CR.out.mono ?_; rintro e y ⟨rfl, hy⟩; have HY := hideIt hy; have c0 := CC.out y hy; clear hy)
   | (go_at_call 47; refine (CE.out _ HY.out).mono ?_; rintro e z ⟨rfl, hz⟩; have HZ := hideIt hz; clear hz c0)
   | fail)
  go_end0
  exact ⟨rfl, by rw [E9.out]; exact HZ.out⟩
end Go.Proofs.Ytphknepblchkdaa.Fl
