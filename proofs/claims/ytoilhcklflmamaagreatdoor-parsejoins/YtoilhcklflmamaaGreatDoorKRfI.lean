/-
  The statements' example of layer 5: the program and the document's reader read it alike; the condition: the lists of the program hold what its text says.
-/
import Derived.Test.YtoilhcklflmamaaGreatDoorKRfD
import Derived.Test.YtoilhcklflmamaaGreatDoorKRfG
import Derived.Test.YtoilhcklflmamaaGreatDoorKRfH
import Derived.Test.YtoilhcklflmamaaGreatDoorKPrZc
namespace Go.Proofs.YtoilhcklflmamaaGreatDoor
open Go.RowKit
open Pr
set_option linter.unusedVariables false

def awS : ByteArray := ⟨#[105, 51, 50, 32, 109, 97, 105, 110, 40, 41, 32, 123, 32, 112, 114, 105, 110, 116, 40, 49, 105, 51, 50, 32, 43, 32, 50, 105, 51, 50, 32, 42, 32, 51, 105, 51, 50, 41, 59, 32, 114, 101, 116, 117, 114, 110, 32, 48, 105, 51, 50, 59, 32, 125]⟩
def awT : List Tok := toks (bl awS)
theorem awT_len : awT.length = 19 := by decide +kernel
theorem awT_lex : (Lx.lex 0 (bl awS)).2 = none := by kernel_rfl
def awE : Nd := binN 1 (litN (⟨3, [49, 105, 51, 50], 1, 4⟩, 19)) (binN 3 (litN (⟨3, [50, 105, 51, 50], 2, 4⟩, 26)) (litN (⟨3, [51, 105, 51, 50], 3, 4⟩, 33)))
def awZ : Nd := litN (⟨3, [48, 105, 51, 50], 0, 4⟩, 47)
def awSs : List (Nd × Nat) := [((nk 12, one awE), 14), ((nk 14, one awZ), 17)]
def awI : Nd := (⟨5, 0, 0, ((4 : Nat) : Int), 0, 0, 0, bs [109, 97, 105, 110], ⟨#[]⟩⟩, one (nk 7, foL .nil awSs))
theorem awE_lv : lv awT 60 1 none 7 = some (awE, 12) := by kernel_rfl
theorem awZ_lv : lv awT 60 1 none 15 = some (awZ, 16) := by kernel_rfl
theorem aw_prog : ∃ st, prog awT = .ok (nk 1, one awI) st := ⟨⟨awT.drop 18, 0, 11⟩, by kernel_rfl⟩
theorem at1_of {L : List Tok} {i : Nat} {x : List UInt8} (h : ((L[i]?).map (isB · x)).getD false = true) : At1 L i x := by
  cases hq : L[i]? with
  | none => rw [hq] at h; cases h
  | some q => rw [hq] at h; exact ⟨q, hq, h⟩
theorem at0_of {L : List Tok} {i : Nat} {x : List UInt8} (h : ((L[i]?).map (isB · x)).getD true = false) : At0 L i x := by
  cases hq : L[i]? with
  | none => rw [hq] at h; cases h
  | some q => rw [hq] at h; exact ⟨q, hq, h⟩
theorem awI_size : awI.2.size = 9 := by kernel_rfl
theorem awI_depth : awI.2.depth ≤ 30 := by decide +kernel
theorem cp_same : ∀ {F f g : Fo}, Cp F f → Cp F g → f.same g = true := by
  intro F
  induction F with
  | nil =>
    intro f g h1 h2
    cases f with
    | nil => cases g with
      | nil => rfl
      | cons => exact h2.elim
    | cons => exact h1.elim
  | cons v a c k r ihk ihr =>
    intro f g h1 h2
    cases f with
    | nil => exact h1.elim
    | cons v1 a1 c1 k1 r1 =>
      cases g with
      | nil => exact h2.elim
      | cons v2 a2 c2 k2 r2 =>
        obtain ⟨e1, p1, p2⟩ := h1
        obtain ⟨e2, s1, s2⟩ := h2
        subst e1
        subst e2
        simp only [Fo.same, ihk p1 s1, ihr p2 s2, Bool.and_true]
        simp [eqN]

theorem aw_item (R g cap : Nat) (X : World) (h : RR X R g cap awT 0 0) : Calls Tryz.prog 24 #[rp R] X (PN awI R g cap awT 18 0 X) := by
  have hL : awT.length ≤ 70000 := by rw [awT_len]; decide
  refine ritem_fun R g cap awT hL 0 ⟨by decide, by decide⟩ 0 18 (nk 7, foL .nil awSs) (⟨2, [105, 51, 50], 0, 0⟩, 0) (by kernel_rfl) rfl 4 (by decide) (by decide) (by decide) (⟨1, [109, 97, 105, 110], 0, 0⟩, 4) (by kernel_rfl) rfl (by decide) (at1_of (by decide +kernel)) (at1_of (by decide +kernel)) (by rw [awT_len]; decide) ?_ X h
  intro X hX
  refine rblock_any R g cap awT hL 0 ⟨by decide, by decide⟩ 4 17 awSs (at1_of (by decide +kernel)) (by rw [awT_len]; decide) ?_ (by decide) (at1_of (by decide +kernel)) (by rw [awT_len]; decide) X hX
  refine ⟨⟨at0_of (by decide +kernel), ?_⟩, ⟨at0_of (by decide +kernel), ?_⟩, rfl⟩
  · intro Y hY
    refine rstat_print R g cap awT hL (0 + 1) ⟨by decide, by decide⟩ 5 12 awE (⟨2, [112, 114, 105, 110, 116], 0, 0⟩, 13) (by kernel_rfl) rfl rfl (at1_of (by decide +kernel)) (at1_of (by decide +kernel)) (at1_of (by decide +kernel)) (by rw [awT_len]; decide) (by rw [awT_len]; decide) ?_ Y hY
    intro Z hZ
    exact rexpr_any R g cap awT hL _ 60 7 awE 12 (⟨4, [41], 0, 0⟩, 37) (by kernel_rfl) (by decide) awE_lv Z hZ
  · intro Y hY
    refine rstat_return R g cap awT hL (0 + 1) ⟨by decide, by decide⟩ 14 16 awZ (⟨2, [114, 101, 116, 117, 114, 110], 0, 0⟩, 40) (by kernel_rfl) rfl rfl (at1_of (by decide +kernel)) (by rw [awT_len]; decide) (by rw [awT_len]; decide) ?_ Y hY
    intro Z hZ
    exact rexpr_any R g cap awT hL _ 60 15 awZ 16 (⟨4, [59], 0, 0⟩, 51) (by kernel_rfl) (by decide) awZ_lv Z hZ

theorem aw_r05 (w : World) : Calls Tryz.prog 10 #[.string awS] w fun e w' => (∃ a c f, e = .returned (.tuple #[nodeV (nk 1) (.slice a (Fo.len f) c), .int .i64 0, .int .i64 0, .bool false]) ∧ Cp (one awI) f ∧ sok a f.len c ∧ In w' a f) ∧ Q w w' :=
  rparse_one awS (by decide) awT_lex awT rfl (by rw [awT_len]; decide) awI (by rw [awI_size]; decide) awI_depth 18 (⟨2, [105, 51, 50], 0, 0⟩, 0) (⟨0, [], 0, 0⟩, 54) (by kernel_rfl) (by decide) (by kernel_rfl) (by decide) aw_item w
theorem aw_parse (w : World) (hL : LaidP w) : Calls Tryz.prog 9 #[.string awS] w fun e w' => (∃ a c f, e = .returned (.tuple #[nodeV (nk 1) (.slice a (Fo.len f) c), .int .i64 0, .int .i64 0]) ∧ Cp (one awI) f ∧ sok a f.len c ∧ In w' a f) ∧ Q w w' := by
  obtain ⟨st, hst⟩ := aw_prog
  refine (parse_ok awS w hL (by decide) awT_lex (by show awT.length ≤ 70000; rw [awT_len]; decide) (nk 1, one awI) st hst ?_).mono ?_
  · have := awI_depth
    simp only [one, Fo.depth]
    omega
  · rintro e w' ⟨⟨a, c, f, h1, h2, h3, h4, _⟩, q⟩
    exact ⟨⟨a, c, f, h1, h2, h3, h4⟩, q⟩

set_option maxRecDepth 100000 in
set_option maxHeartbeats 4000000 in
theorem awake_any (w : World) (hL : LaidP w) : Calls Tryz.prog 8 #[] w fun e w' => e = .returned (.bool true) ∧ Q w w' := by
  have C1 := hideIt (fun X q => aw_parse X (hL.keep (w' := X) q))
  have C2 := hideIt aw_r05
  unfold awS at C1 C2
  clear hL
  go_enter Tryz.func8, Tryz.ntmps8
  go_wp2_with (first | (go_at_call 9; refine Calls.mono (C1.out _ (Q.refl w)) ?_; rintro e x1 ⟨⟨a1, c1, f1, rfl, cp1, sk1, in1⟩, q1⟩; have K1 := hideIt (And.intro cp1 sk1); have I1 := hideIt in1; have Q1 := hideIt q1; clear C1 cp1 sk1 in1 q1) | (go_at_call 10; refine Calls.mono (C2.out _) ?_; rintro e x2 ⟨⟨a2, c2, f2, rfl, cp2, sk2, in2⟩, q2⟩; have K2 := hideIt (And.intro cp2 sk2); have I2 := hideIt in2; have B1 := hideIt (show Bx x2 x1.heap.size (nk 1) (.slice a1 f1.len c1) from (q2.block _ (by simp)).trans (Bx.new x1 (nk 1) (.slice a1 f1.len c1))); have J1 := hideIt ((I1.out.keep (Nat.le_refl _) ((Q.refl x1).alloc _)).keep (Nat.le_refl _) q2); have Q2 := hideIt ((Q1.out.alloc _).trans q2); obtain ⟨n0, n1, n2, n3, n4, n5, n6, n7, n8, n9⟩ := B1.out.ten; have y1 := B1.out.lt; have CS := hideIt (fun X (h : In X a1 f1) => rsize_any (f1.size + 1) f1 (by omega) (nk 1) a1 c1 X h K1.out.2); have e11 : min (f1.size + 1) 4001 = 11 := (by have h := K1.out.1.size; rw [h]; decide +kernel); rw [e11] at CS; have CM := hideIt (fun X (h : In X a1 f1) (h' : In X a2 f2) => rsame_any (f1.size + 1) f1 (by omega) f2 (nk 1) (nk 1) a1 a2 c1 c2 X h K1.out.2 h' K2.out.2); rw [cp_same K1.out.1 K2.out.1, show (eqN (nk 1) (nk 1) && true) = true by simp [eqN]] at CM; clear C2 cp2 sk2 in2 q2 e11) | (go_at_call 16; refine Calls.mono (CS.out _ (J1.out.keep (Nat.le_refl _) ((Q.refl x2).alloc _))) ?_; rintro e x3 ⟨rfl, q3⟩; have A3 := hideIt (show Bx x3 x1.heap.size (nk 1) (.slice a1 f1.len c1) from (q3.block _ (by simp; omega)).trans (B1.out.alloc _)); have B3 := hideIt (show Bx x3 x2.heap.size (nk 1) (.slice a2 f2.len c2) from (q3.block _ (by simp)).trans (Bx.new x2 (nk 1) (.slice a2 f2.len c2))); have J3 := hideIt ((J1.out.keep (Nat.le_refl _) ((Q.refl x2).alloc _)).keep (Nat.le_refl _) q3); have I3 := hideIt ((I2.out.keep (Nat.le_refl _) ((Q.refl x2).alloc _)).keep (Nat.le_refl _) q3); have Q3 := hideIt ((Q2.out.alloc _).trans q3); clear n0 n1 n2 n3 n4 n5 n6 n7 n8 n9; obtain ⟨n0, n1, n2, n3, n4, n5, n6, n7, n8, n9⟩ := A3.out.ten; obtain ⟨m0, m1, m2, m3, m4, m5, m6, m7, m8, m9⟩ := B3.out.ten; have y3 := A3.out.lt; have y4 := B3.out.lt; clear q3 CS) | (go_at_call 11; refine Calls.mono (CM.out _ J3.out I3.out) ?_; rintro e x4 ⟨rfl, q4⟩; have Q4 := hideIt (Q3.out.trans q4); clear q4 CM) | fail)
  go_ret
  exact ⟨rfl, Q4.out⟩

end Go.Proofs.YtoilhcklflmamaaGreatDoor
