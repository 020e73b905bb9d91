/-
  What is reckoned ahead (untrapped, two, reckon of fold): contracts over the program; the conditions: what is known and the instruction lie in memory.
-/
import Derived.Test.YtaomkfhbnakbjaaKFoA
import Derived.Deep.RegionHeld3
namespace Go.Proofs.Ytaomkfhbnakbjaa.Fo
open Go.RowKit
set_option linter.unusedVariables false

theorem untrapped_any (w : World) (v t : Int) : Calls Try.prog 89 #[.int .i64 v, .int .u8 t] w fun e w' => e = .returned (.tuple #[.int .i64 v, .bool (t == 0)]) ∧ w' = w := by
  go_enter Try.func89, Try.ntmps89
  go_wp2
  go_ret2
  exact ⟨rfl, rfl⟩

theorem wrap64_i64 (z : Int) : wrap64 z = IntKind.i64.wrap z := by simp [IntKind.wrap_i64, wrap64]

set_option maxRecDepth 100000 in
set_option maxHeartbeats 2000000 in
theorem two_any (w : World) (kb M n : Nat) (fault : Bool) (F : KF) (hk : KN w kb M n fault F) (g o : Nat) (x : PI) (hx : At w g o x.cells) (ht : 0 ≤ x.ty) (a b : Int) :
    Calls Try.prog 92 #[.pointer (some ⟨kb, 0, none⟩), .pointer (some ⟨g, o, none⟩), .int .i64 a, .int .i64 b] w fun e w' => ∃ v, e = .returned (.tuple #[.int .i64 v, .bool (two fault x a b).isSome]) ∧ (∀ u, two fault x a b = some u → v = u) ∧ Q w w' := by
  have HF : Hid (∀ y, Q w y → y.cell? ⟨g, o, none⟩ = some (.int .u8 x.op) ∧ y.cell? ⟨g, o + 1, none⟩ = some (.int .u8 x.ty)) := fun y hy => by
    obtain ⟨e0, e1, -⟩ := (hx.keep hy).seven
    exact ⟨e0, e1⟩
  have HK : Hid (∀ y, Q w y → y.cell? ⟨kb, 1, none⟩ = some (.bool fault)) := fun y hy => cell_of_block (hk.q hy).blk 1
  have CD : Hid (∀ X, Q w X → Calls Try.prog 110 #[.int .u8 x.op, .int .u8 x.ty, .int .i64 a, .int .i64 b] X fun e w' => e = .returned (.tuple #[.int .i64 (Burin.do1 x.op x.ty a b), .int .u8 (Burin.do2 x.op x.ty a b)]) ∧ Q w w' ∧ w'.cell? ⟨g, o, none⟩ = some (.int .u8 x.op) ∧ w'.cell? ⟨g, o + 1, none⟩ = some (.int .u8 x.ty)) := fun X hX => (Nu.do_any x.op x.ty a b X ht).mono fun e w' q => ⟨q.1, hX.trans q.2, HF.out _ (hX.trans q.2)⟩
  have CW : Hid (∀ X z, Q w X → Calls Try.prog 91 #[.int .u8 x.ty, .int .i64 z] X fun e w' => e = .returned (.int .i64 (Burin.wr x.ty z)) ∧ Q w w') := fun X z hX => (Nu.wrap_any x.ty z X ht).mono fun e w' q => ⟨q.1, by rw [q.2]; exact hX⟩
  obtain ⟨f0, f1⟩ := HF.out w (Q.refl w)
  unfold two
  generalize hd1 : Burin.do1 x.op x.ty a b = d1 at *
  generalize hd2 : Burin.do2 x.op x.ty a b = d2 at *
  clear hx hk hd1 hd2
  generalize x.op = op at *
  generalize x.ty = ty at *
  by_cases hz : d2 = 0
  · subst hz
    simp only [if_true, Option.isSome_some]
    by_cases hfa : fault = true ∧ op = 1
    · obtain ⟨hf1, hf2⟩ := hfa
      subst hf1
      subst hf2
      simp only [and_self, if_true]
      go_enter Try.func92, Try.ntmps92
      go_wp2_with (fail)
      first | go_region_held3 (fun y : World => Q w y ∧ y.cell? ⟨g, o, none⟩ = some (.int .u8 1) ∧ y.cell? ⟨g, o + 1, none⟩ = some (.int .u8 ty)) (first | exact ⟨(Q.refl _).drew, HF.out _ (Q.refl _).drew⟩ | go_keep) (first | (go_at_call 110; refine Calls.mono (CD.out _ (by first | assumption | exact (Q.refl _).drew)) ?_; rintro e y ⟨rfl, s0, s1, s2⟩) | (go_at_call 89; refine (untrapped_any _ _ _).mono ?_; rintro e y2 ⟨rfl, rfl⟩)) | fail
      all_goals rename_i hHeld
      all_goals have HH := hideIt hHeld.1
      all_goals have h1 := HK.out _ hHeld.1
      all_goals clear hHeld
      all_goals go_wp2_with (first | (go_at_call 91; refine Calls.mono (CW.out _ _ HH.out) ?_; rintro e y3 ⟨rfl, q3⟩; have HQ3 := hideIt q3; clear q3) | fail)
      all_goals go_ret2
      all_goals exact ⟨_, rfl, fun u hu => by simpa [wrap64_i64] using hu, HQ3.out⟩
    · rw [if_neg hfa]
      have hb : (fault && (op == 1)) = false := by
        cases fault
        · rfl
        · have : ¬ op = 1 := fun q => hfa ⟨rfl, q⟩
          simpa using this
      go_enter Try.func92, Try.ntmps92
      go_wp2_with (fail)
      first | go_region_held3 (fun y : World => Q w y ∧ y.cell? ⟨g, o, none⟩ = some (.int .u8 op) ∧ y.cell? ⟨g, o + 1, none⟩ = some (.int .u8 ty)) (first | exact ⟨(Q.refl _).drew, HF.out _ (Q.refl _).drew⟩ | go_keep) (first | (go_at_call 110; refine Calls.mono (CD.out _ (by first | assumption | exact (Q.refl _).drew)) ?_; rintro e y ⟨rfl, s0, s1, s2⟩) | (go_at_call 89; refine (untrapped_any _ _ _).mono ?_; rintro e y2 ⟨rfl, rfl⟩)) | fail
      all_goals rename_i hHeld
      all_goals have HH := hideIt hHeld.1
      all_goals have h1 := HK.out _ hHeld.1
      all_goals clear hHeld
      all_goals cases fault
      all_goals first
        | (have h2 : (op == 1) = false := by simpa using hb); clear hb hfa; go_wp2_with (fail); go_ret2; exact ⟨_, rfl, fun u hu => by simpa using hu, HH.out⟩
        | (clear hb hfa; go_wp2_with (fail); go_ret2; exact ⟨_, rfl, fun u hu => by simpa using hu, HH.out⟩)
  · rw [if_neg hz]
    have hz' : (d2 == 0) = false := by simpa using hz
    clear hz
    go_enter Try.func92, Try.ntmps92
    go_wp2_with (fail)
    first | go_region_held3 (fun y : World => Q w y ∧ y.cell? ⟨g, o, none⟩ = some (.int .u8 op) ∧ y.cell? ⟨g, o + 1, none⟩ = some (.int .u8 ty)) (first | exact ⟨(Q.refl _).drew, HF.out _ (Q.refl _).drew⟩ | go_keep) (first | (go_at_call 110; refine Calls.mono (CD.out _ (by first | assumption | exact (Q.refl _).drew)) ?_; rintro e y ⟨rfl, s0, s1, s2⟩) | (go_at_call 89; refine (untrapped_any _ _ _).mono ?_; rw [hz']; rintro e y2 ⟨rfl, rfl⟩)) | fail
    all_goals rename_i hHeld
    all_goals have HH := hideIt hHeld.1
    all_goals clear hHeld
    all_goals go_wp2_with (fail)
    all_goals go_ret2
    all_goals exact ⟨_, rfl, fun u hu => (by cases hu), HH.out⟩

end Go.Proofs.Ytaomkfhbnakbjaa.Fo
