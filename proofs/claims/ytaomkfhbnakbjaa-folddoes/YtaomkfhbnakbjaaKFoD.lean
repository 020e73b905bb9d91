/-
  What is learnt of an instruction (learn of fold): a contract over the program; the conditions: what is known and the instruction lie in memory.
-/
import Derived.Test.YtaomkfhbnakbjaaKFoC
import Derived.BigRegion
namespace Go.Proofs.Ytaomkfhbnakbjaa.Fo
open Go.RowKit
set_option linter.unusedVariables false

theorem frx_grown {w w' : World} {M : Nat} (h : w.grownBy w' (some M)) : FrX M w w' := ⟨h.os, h.tape, h.output, h.size, fun k hk hn => h.block k hk (fun e => hn (by injection e))⟩
theorem KN.grown {w w' : World} {kb M n n' : Nat} {fault : Bool} {F F' : KF} (h : KN w kb M n fault F) (hg : w.grownBy w' (some M)) (hm : Mi w' M n' F') : KN w' kb M n' fault F' :=
  ⟨(hg.block kb (Array.getElem?_eq_some_iff.1 h.blk).1 (fun e => h.map.notc h.blk (by injection e))).trans h.blk, hm⟩
theorem Mi.mono {w : World} {M n n' : Nat} {F : KF} (h : Mi w M n F) (hn : n ≤ n') : Mi w M n' F := by
  obtain ⟨D, h1, h2, h3⟩ := h
  exact ⟨D, h1.mono hn, h2, h3⟩
theorem KN.mono {w : World} {kb M n n' : Nat} {fault : Bool} {F : KF} (h : KN w kb M n fault F) (hn : n ≤ n') : KN w kb M n' fault F := ⟨h.blk, h.map.mono hn⟩

set_option maxRecDepth 100000 in
set_option maxHeartbeats 1000000 in
theorem learn_any (w : World) (kb M n : Nat) (fault : Bool) (F : KF) (hk : KN w kb M n fault F) (hn : n < maxLen) (g o : Nat) (x : PI) (hx : At w g o x.cells) (hok : x.ok w) :
    Calls Try.prog 70 #[.pointer (some ⟨kb, 0, none⟩), .pointer (some ⟨g, o, none⟩)] w fun e w' => e = .returned (.tuple #[]) ∧ KN w' kb M (n + 1) fault (learn F x) ∧ FrX M w w' := by
  have c0 : w.cell? ⟨kb, 0, none⟩ = some (.map (some M)) := cell_of_block hk.blk 0
  obtain ⟨x0, x1, x2, x3, x4, x5, x6⟩ := hx.seven
  by_cases h20 : x.op = 20
  · obtain ⟨Y, hr, hm, hg⟩ := (hk.q (Q.refl w).drew).map.store hn hok.dst x.imm
    have HK : Hid (KN Y kb M (n + 1) fault (updK F x.dst (some x.imm))) := (hk.q (Q.refl w).drew).grown hg hm
    have HG : Hid (FrX M w Y) := (FrX.of_q (Q.refl w).drew).trans (frx_grown hg)
    unfold learn
    rw [if_pos h20]
    rw [h20] at x0
    clear hk hx hok hm hg h20
    go_enter Try.func70, Try.ntmps70
    go_wp2_with (fail)
    go_region
    go_wp2_with (fail)
    go_end0
    exact ⟨rfl, HK.out, HG.out⟩
  · have e20 : (x.op == 20) = false := by simpa using h20
    unfold learn
    rw [if_neg h20]
    have CD : Hid (∀ X, Q w X → Calls Try.prog 75 #[x.v] X fun e w' => e = .returned (.bool (wrP x.op)) ∧ Q w w') := fun X hX => (dst_any x X).mono fun e w' q => ⟨q.1, hX.trans q.2⟩
    cases hw : wrP x.op with
    | false =>
      rw [hw] at CD
      simp only [Bool.false_eq_true, if_false]
      have HK := hideIt (fun y (hy : Q w y) => (hk.q hy).mono (Nat.le_succ n))
      clear hk hx hok hn
      go_enter Try.func70, Try.ntmps70
      go_wp2_with (first | (go_at_call 75; refine Calls.mono (CD.out _ (Q.refl w)) ?_; rintro e y ⟨rfl, q⟩; have HY := hideIt q; clear q) | fail)
      go_end0
      exact ⟨rfl, HK.out _ HY.out, FrX.of_q HY.out⟩
    | true =>
      rw [hw] at CD
      simp only [if_true]
      have HK := hideIt (fun y (hy : Q w y) => show y.cell? ⟨kb, 0, none⟩ = some (.map (some M)) ∧ y.cell? ⟨g, o + 2, none⟩ = some (.int .i64 x.dst) ∧ ∃ Y, (Builtin.delete_ #[76, 3] 0 #[.map (some M), .int .i64 x.dst]).run Try.prog y.drew = .ok (.tuple #[]) Y ∧ KN Y kb M (n + 1) fault (updK F x.dst none) ∧ FrX M w Y from by
        obtain ⟨Y, hr, hm, hg⟩ := (hk.q (hy.drew)).map.drop hok.dst 0
        exact ⟨cell_keep hy c0, cell_keep hy x2, Y, hr, ((hk.q hy.drew).grown hg hm).mono (Nat.le_succ n), (FrX.of_q hy.drew).trans (frx_grown hg)⟩)
      clear hk hx hok hn
      go_enter Try.func70, Try.ntmps70
      go_wp2_with (first | (go_at_call 75; refine Calls.mono (CD.out _ (Q.refl w)) ?_; rintro e y ⟨rfl, q⟩; obtain ⟨y0, y2, Y, hr, h1, h2⟩ := HK.out y q; have H1 := hideIt h1; have H2 := hideIt h2; clear q h1 h2) | fail)
      go_region
      go_wp2_with (fail)
      go_end0
      exact ⟨rfl, H1.out, H2.out⟩

end Go.Proofs.Ytaomkfhbnakbjaa.Fo
