/-
  For every code the statement IrValids returns true, and its argument reads as it did; no conditions.
-/
import Derived.Test.YtiiggldapncknaaRows
import Derived.WalkKit
import Derived.ProofKit
import Derived.OpenShut
import Derived.ShutString
import Derived.ChangeOld
import Derived.Below
import Derived.SizedLaws
import Derived.Test.YtiiggldapncknaaIrW
namespace Go.Proofs.Ytiiggldapncknaa.irValids
open Go.ChangeShapes Go.WideShapes Go.ChangeAt Go.RowKit
set_option linter.unusedVariables false

theorem own : ownKnob Try.prog.godebug = none := by kernel_rfl
theorem laidOut : laidOutB Try.prog = true := by kernel_rfl

set_option maxRecDepth 100000 in
set_option maxHeartbeats 4000000 in
theorem walk (c : PC) (w : World) (hcok : c.ok w) : Calls Try.prog 3 #[c.v] w fun e w' => e = .returned (.bool true) ∧ Below w.heap.size w w' := by
  have HB := hideIt (fun X (h : Q (bxC w c) X) => (bxC_at h).three)
  have qB := hideIt (bxC_q w c)
  generalize hBB : bxC w c = B at *
  have hF : Hid (∀ y, Q B y → y.cell? ⟨w.heap.size, 0, none⟩ = some (.slice c.ga c.gl.length c.gc) ∧ y.cell? ⟨w.heap.size, 1, none⟩ = some (.slice c.na c.ini.length c.nc) ∧ y.cell? ⟨w.heap.size, 2, none⟩ = some (.slice c.fa c.fns.length c.fc)) := fun y h => HB.out y h
  have CA : Hid (∀ X, Q B X → Calls Try.prog 7 #[] X fun e w' => e = .returned (.bool true) ∧ Q B w' ∧ w'.cell? ⟨w.heap.size, 0, none⟩ = some (.slice c.ga c.gl.length c.gc) ∧ w'.cell? ⟨w.heap.size, 1, none⟩ = some (.slice c.na c.ini.length c.nc) ∧ w'.cell? ⟨w.heap.size, 2, none⟩ = some (.slice c.fa c.fns.length c.fc)) := fun X h => (awake_any X).mono fun _ _ ⟨e, q⟩ => ⟨e, h.trans q, hF.out _ (h.trans q)⟩
  have CV : Hid (∀ X, Q B X → Calls Try.prog 8 #[c.v] X fun e w' => e = .returned (.int .i64 (validP c)) ∧ Q B w' ∧ w'.cell? ⟨w.heap.size, 0, none⟩ = some (.slice c.ga c.gl.length c.gc) ∧ w'.cell? ⟨w.heap.size, 1, none⟩ = some (.slice c.na c.ini.length c.nc) ∧ w'.cell? ⟨w.heap.size, 2, none⟩ = some (.slice c.fa c.fns.length c.fc)) := fun X h => (valid_any X c (hcok.keep (qB.out.trans h))).mono fun _ _ ⟨e, q⟩ => ⟨e, h.trans q, hF.out _ (h.trans q)⟩
  have CW : Hid (∀ X, Q B X → Calls Try.prog 9 #[c.v] X fun e w' => e = .returned (.int .i64 (validP c)) ∧ Q B w' ∧ w'.cell? ⟨w.heap.size, 0, none⟩ = some (.slice c.ga c.gl.length c.gc) ∧ w'.cell? ⟨w.heap.size, 1, none⟩ = some (.slice c.na c.ini.length c.nc) ∧ w'.cell? ⟨w.heap.size, 2, none⟩ = some (.slice c.fa c.fns.length c.fc)) := fun X h => (rvalid_any X c (hcok.keep (qB.out.trans h))).mono fun _ _ ⟨e, q⟩ => ⟨e, h.trans q, hF.out _ (h.trans q)⟩
  have CC : Hid (∀ X, Q B X → Calls Try.prog 10 #[c.v] X fun e w' => e = .returned (.int .i64 (IntKind.i64.wrap (codeN c))) ∧ Q B w' ∧ w'.cell? ⟨w.heap.size, 0, none⟩ = some (.slice c.ga c.gl.length c.gc) ∧ w'.cell? ⟨w.heap.size, 1, none⟩ = some (.slice c.na c.ini.length c.nc) ∧ w'.cell? ⟨w.heap.size, 2, none⟩ = some (.slice c.fa c.fns.length c.fc)) := fun X h => (count_any X c (hcok.keep (qB.out.trans h))).mono fun _ _ ⟨e, q⟩ => ⟨e, h.trans q, hF.out _ (h.trans q)⟩
  have CD : Hid (∀ X, Q B X → Calls Try.prog 11 #[c.v] X fun e w' => e = .returned (.int .i64 (IntKind.i64.wrap (codeN c))) ∧ Q B w' ∧ w'.cell? ⟨w.heap.size, 0, none⟩ = some (.slice c.ga c.gl.length c.gc) ∧ w'.cell? ⟨w.heap.size, 1, none⟩ = some (.slice c.na c.ini.length c.nc) ∧ w'.cell? ⟨w.heap.size, 2, none⟩ = some (.slice c.fa c.fns.length c.fc)) := fun X h => (rcount_any X c (hcok.keep (qB.out.trans h))).mono fun _ _ ⟨e, q⟩ => ⟨e, h.trans q, hF.out _ (h.trans q)⟩
  generalize validP c = z1 at *
  generalize IntKind.i64.wrap (codeN c) = z2 at *
  have HBB := hideIt hBB
  clear hcok HB hBB
  go_enter Try.func3, Try.ntmps3
  go_wp2_with (fail)
  rw [show w.alloc (.cells #[.slice c.ga c.gl.length c.gc, .slice c.na c.ini.length c.nc, .slice c.fa c.fns.length c.fc] 26) = B from HBB.out]
  refine wp_region_held_drew (S := (fun y : World => Q B y ∧ y.cell? ⟨w.heap.size, 0, none⟩ = some (.slice c.ga c.gl.length c.gc) ∧ y.cell? ⟨w.heap.size, 1, none⟩ = some (.slice c.na c.ini.length c.nc) ∧ y.cell? ⟨w.heap.size, 2, none⟩ = some (.slice c.fa c.fns.length c.fc))) (by kernel_rfl) (⟨(Q.refl B).drew, hF.out _ (Q.refl B).drew⟩) (fun hHeld => ?_)
  refine wpAnyH_ready (rs := [0]) (by kernel_rfl) (by simp) (AllReadyH.cons (o := ⟨_, _, _, _, _, _⟩) rfl (fun K hK => ?_) AllReadyH.nil)
  go_simp
  go_at_call 7; refine (CA.out _ hHeld.1).mono ?_; rintro e y ⟨rfl, s0, s1, s2, s3⟩
  refine hK.out _ _ ?_ (fun hHeld => ?_)
  · exact ⟨s0, s1, s2, s3⟩
  clear hK K
  try simp only [Act.put, List.setIfInBounds_toArray, List.set_cons_zero, List.set_cons_succ]
  refine wpAnyH_take (i := 1) (oi := ⟨_, _, _, _, _, _⟩) (v := ?_) rfl (by kernel_rfl) (by kernel_rfl) (by kernel_rfl) (fun _ _ _ h => h) (Or.inl ⟨by rfl, ?_⟩) (by assumption) ?_
  rotate_left 1
  · intro w hSw; (try dsimp only at hSw); go_simp; all_goals with_reducible rfl
  try simp only [Act.put, List.setIfInBounds_toArray, List.set_cons_zero, List.set_cons_succ]
  refine wpAnyH_take (i := 2) (oi := ⟨_, _, _, _, _, _⟩) (v := ?_) rfl (by kernel_rfl) (by kernel_rfl) (by kernel_rfl) (fun _ _ _ h => h) (Or.inl ⟨by rfl, ?_⟩) (by assumption) ?_
  rotate_left 1
  · intro w hSw; (try dsimp only at hSw); go_simp; all_goals with_reducible rfl
  try simp only [Act.put, List.setIfInBounds_toArray, List.set_cons_zero, List.set_cons_succ]
  refine wpAnyH_take (i := 4) (oi := ⟨_, _, _, _, _, _⟩) (v := ?_) rfl (by kernel_rfl) (by kernel_rfl) (by kernel_rfl) (fun _ _ _ h => h) (Or.inl ⟨by rfl, ?_⟩) (by assumption) ?_
  rotate_left 1
  · intro w hSw; (try dsimp only at hSw); go_simp; all_goals with_reducible rfl
  try simp only [Act.put, List.setIfInBounds_toArray, List.set_cons_zero, List.set_cons_succ]
  refine wpAnyH_ready (rs := [3]) (by kernel_rfl) (by simp) (AllReadyH.cons (o := ⟨_, _, _, _, _, _⟩) rfl (fun K hK => ?_) AllReadyH.nil)
  go_simp
  go_at_call 8; refine (CV.out _ hHeld.1).mono ?_; rintro e y ⟨rfl, s0, s1, s2, s3⟩
  refine hK.out _ _ ?_ (fun hHeld => ?_)
  · exact ⟨s0, s1, s2, s3⟩
  clear hK K
  try simp only [Act.put, List.setIfInBounds_toArray, List.set_cons_zero, List.set_cons_succ]
  refine wpAnyH_ready (rs := [5]) (by kernel_rfl) (by simp) (AllReadyH.cons (o := ⟨_, _, _, _, _, _⟩) rfl (fun K hK => ?_) AllReadyH.nil)
  go_simp
  go_at_call 9; refine (CW.out _ hHeld.1).mono ?_; rintro e y ⟨rfl, s0, s1, s2, s3⟩
  refine hK.out _ _ ?_ (fun hHeld => ?_)
  · exact ⟨s0, s1, s2, s3⟩
  clear hK K
  try simp only [Act.put, List.setIfInBounds_toArray, List.set_cons_zero, List.set_cons_succ]
  refine wpAnyH_take (i := 6) (oi := ⟨_, _, _, _, _, _⟩) (v := ?_) rfl (by kernel_rfl) (by kernel_rfl) (by kernel_rfl) (fun _ _ _ h => h) (Or.inl ⟨by rfl, ?_⟩) (by assumption) ?_
  rotate_left 1
  · intro w hSw; (try dsimp only at hSw); go_simp; all_goals with_reducible rfl
  try simp only [Act.put, List.setIfInBounds_toArray, List.set_cons_zero, List.set_cons_succ]
  refine wpAnyH_take (i := 7) (oi := ⟨_, _, _, _, _, _⟩) (v := ?_) rfl (by kernel_rfl) (by kernel_rfl) (by kernel_rfl) (fun _ _ _ h => h) (Or.inl ⟨by rfl, ?_⟩) (by assumption) ?_
  rotate_left 1
  · intro w hSw; (try dsimp only at hSw); go_simp; all_goals with_reducible rfl
  try simp only [Act.put, List.setIfInBounds_toArray, List.set_cons_zero, List.set_cons_succ]
  refine wpAnyH_take (i := 8) (oi := ⟨_, _, _, _, _, _⟩) (v := ?_) rfl (by kernel_rfl) (by kernel_rfl) (by kernel_rfl) (fun _ _ _ h => h) (Or.inl ⟨by rfl, ?_⟩) (by assumption) ?_
  rotate_left 1
  · intro w hSw; (try dsimp only at hSw); go_simp; all_goals with_reducible rfl
  try simp only [Act.put, List.setIfInBounds_toArray, List.set_cons_zero, List.set_cons_succ]
  refine wpAnyH_take (i := 9) (oi := ⟨_, _, _, _, _, _⟩) (v := ?_) rfl (by kernel_rfl) (by kernel_rfl) (by kernel_rfl) (fun _ _ _ h => h) (Or.inl ⟨by rfl, ?_⟩) (by assumption) ?_
  rotate_left 1
  · intro w hSw; (try dsimp only at hSw); go_simp; all_goals with_reducible rfl
  try simp only [Act.put, List.setIfInBounds_toArray, List.set_cons_zero, List.set_cons_succ]
  refine wpAnyH_take (i := 11) (oi := ⟨_, _, _, _, _, _⟩) (v := ?_) rfl (by kernel_rfl) (by kernel_rfl) (by kernel_rfl) (fun _ _ _ h => h) (Or.inl ⟨by rfl, ?_⟩) (by assumption) ?_
  rotate_left 1
  · intro w hSw; (try dsimp only at hSw); go_simp; all_goals with_reducible rfl
  try simp only [Act.put, List.setIfInBounds_toArray, List.set_cons_zero, List.set_cons_succ]
  refine wpAnyH_ready (rs := [10]) (by kernel_rfl) (by simp) (AllReadyH.cons (o := ⟨_, _, _, _, _, _⟩) rfl (fun K hK => ?_) AllReadyH.nil)
  go_simp
  go_at_call 10; refine (CC.out _ hHeld.1).mono ?_; rintro e y ⟨rfl, s0, s1, s2, s3⟩
  refine hK.out _ _ ?_ (fun hHeld => ?_)
  · exact ⟨s0, s1, s2, s3⟩
  clear hK K
  try simp only [Act.put, List.setIfInBounds_toArray, List.set_cons_zero, List.set_cons_succ]
  refine wpAnyH_ready (rs := [12]) (by kernel_rfl) (by simp) (AllReadyH.cons (o := ⟨_, _, _, _, _, _⟩) rfl (fun K hK => ?_) AllReadyH.nil)
  go_simp
  go_at_call 11; refine (CD.out _ hHeld.1).mono ?_; rintro e y ⟨rfl, s0, s1, s2, s3⟩
  refine hK.out _ _ ?_ (fun hHeld => ?_)
  · exact ⟨s0, s1, s2, s3⟩
  clear hK K
  try simp only [Act.put, List.setIfInBounds_toArray, List.set_cons_zero, List.set_cons_succ]
  refine wpAnyH_take (i := 13) (oi := ⟨_, _, _, _, _, _⟩) (v := ?_) rfl (by kernel_rfl) (by kernel_rfl) (by kernel_rfl) (fun _ _ _ h => h) (Or.inl ⟨by rfl, ?_⟩) (by assumption) ?_
  rotate_left 1
  · intro w hSw; (try dsimp only at hSw); go_simp; all_goals with_reducible rfl
  try simp only [Act.put, List.setIfInBounds_toArray, List.set_cons_zero, List.set_cons_succ]
  refine wpAnyH_take (i := 14) (oi := ⟨_, _, _, _, _, _⟩) (v := ?_) rfl (by kernel_rfl) (by kernel_rfl) (by kernel_rfl) (fun _ _ _ h => h) (Or.inl ⟨by rfl, ?_⟩) (by assumption) ?_
  rotate_left 1
  · intro w hSw; (try dsimp only at hSw); go_simp; all_goals with_reducible rfl
  try simp only [Act.put, List.setIfInBounds_toArray, List.set_cons_zero, List.set_cons_succ]
  refine wpAnyH_take (i := 15) (oi := ⟨_, _, _, _, _, _⟩) (v := ?_) rfl (by kernel_rfl) (by kernel_rfl) (by kernel_rfl) (fun _ _ _ h => h) (Or.inl ⟨by rfl, ?_⟩) (by assumption) ?_
  rotate_left 1
  · intro w hSw; (try dsimp only at hSw); go_simp; all_goals with_reducible rfl
  try simp only [Act.put, List.setIfInBounds_toArray, List.set_cons_zero, List.set_cons_succ]
  refine wpAnyH_done (by kernel_rfl) ?_ _
  go_wp2
  go_ret
  exact ⟨by first | rfl | simp, Q.trans qB.out hHeld.1⟩

/-! ### THE ROW's STEP -/
set_option maxRecDepth 100000 in
theorem lifted (os : Os) (started : os.Started) (H : Type) (enc : TypeId × Value → H) :
    ReturnsInHanded {} Try.checked os 3 .any (Rows.irValidsSpec.pre6 enc Try.prog Try.f3 Rows.irValidsRow.domain false) (Rows.irValidsSpec.post enc Try.prog Try.f3 false true false false) := by
  refine returnsInHanded_of_change_sized (C := Try.checked) own started (by kernel_rfl) Try.func3
    (ChangeSpec.witness6 (enc := enc) (C := Try.checked) false ⟨#[], #[.agg #[.slice none 0 0, .slice none 0 0, .slice none 0 0]], []⟩ 8 (by kernel_rfl) (by kernel_rfl) (by kernel_rfl) (by kernel_rfl)) ?_
  intro W base args ds gs before hval0 hW hcnd hsz0 _
  have hW' := hW
  obtain ⟨p, q, hA0, hV, rfl, hfz, hnd⟩ := hW
  have hA : DataW.TrodAll enc Try.prog W 0 (fun _ => true) true Try.f3.params.toList args.toList ds p := hA0
  have hsz : (DataW.weightsEach Try.prog (Try.f3.params.toList ++ Rows.irValidsSpec.plain.varTypes Try.prog) (ds ++ gs)).all (· ≤ reachBytes) = true := hsz0
  rw [Try.params3] at hA hsz
  obtain ⟨v0, vs0, d0, ds0, p0, q0, hargs0, rfl, rfl, h0, r0⟩ := trodAll_cons hA
  obtain ⟨hnil, rfl, rfl⟩ := trodAll_nil r0
  obtain rfl : args = #[v0] := by cases args; simp_all
  obtain ⟨rfl, rfl⟩ := trodVars_none hV
  have k0 := h0
  have lt0 : ∀ x ∈ p0, x.block < W.heap.size := by obtain ⟨m, hm⟩ := k0; exact DataW.trod_lt m _ _ _ hm
  have l0 : Light 26 d0 := fun n hn => by have := List.all_eq_true.1 hsz n (DataW.weights_mem_each (j := 0) (t := 26) (d := d0) rfl rfl n hn); simpa using this
  obtain ⟨x0, rfl, hx0⟩ := open_arg_code h0 l0
  clear hA0 hval0 hsz hsz0
  refine (walk x0 W hx0).mono fun e W' ⟨he, bel⟩ => ?_
  subst he
  exact ⟨_, rfl, _, _, _, [], _, [], hW', trodAll_mk1 (shut_bool Try.underlying4 _), (trodAll_cons_mk (Below.trod laidOut (by kernel_rfl) (of_decide_eq_true (by kernel_rfl)) k0 bel lt0) trodAll_mk0), rfl, bel.frame _, fun h => by cases h⟩

theorem over : Rows.irValidsRow.holds Try.pinned (OpenSpec.ofChange Rows.irValidsSpec) :=
  OpenClaim.holds_of_wide 3 Try.f3 rfl rfl rfl rfl rfl rfl rfl ⟨rfl, rfl, rfl, rfl, rfl⟩ rfl rfl rfl rfl rfl (by kernel_rfl) Try.func3 (by kernel_rfl)
    (of_decide_eq_true (by kernel_rfl)) (by unfold Func.isWrapper; first | (rw [if_pos (by decide +kernel)]; kernel_rfl) | (rw [if_neg (by decide +kernel)]; exact ⟨rfl, rfl⟩))
    (fun os started H enc _ => lifted os started H enc)

/-- THE STATEMENT -/
theorem proved : Rows.IrValidsSaid := over
#print axioms proved
end Go.Proofs.Ytiiggldapncknaa.irValids
