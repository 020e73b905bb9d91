/-
  For every tree the statement TreeMeasures returns true, and its argument reads as it did; no conditions but the row's own (the tree does not lead back into itself).
-/
import Derived.Test.YtioeoillogpdoaaRows
import Derived.WalkKit
import Derived.ProofKit
import Derived.OpenShut
import Derived.ShutString
import Derived.ChangeOld
import Derived.Below
import Derived.Test.YtioeoillogpdoaaAwake
namespace Go.Proofs.Ytioeoillogpdoaa.treeMeasures
open Go.ChangeShapes Go.WideShapes Go.ChangeAt Go.RowKit
set_option linter.unusedVariables false

theorem own : ownKnob Try.prog.godebug = none := by kernel_rfl
theorem laidOut : laidOutB Try.prog = true := by kernel_rfl

/-- Where the boxed node still lies. -/
def BX (W : World) (v : NF) (s : Value) (w' : World) : Prop := Q (boxed W v s) w' ∧ w'.cell? ⟨W.heap.size, 0, none⟩ = some (.int .u8 v.k) ∧ w'.cell? ⟨W.heap.size, 1, none⟩ = some (.int .u8 v.op) ∧ w'.cell? ⟨W.heap.size, 2, none⟩ = some (.int .u8 v.tk) ∧ w'.cell? ⟨W.heap.size, 3, none⟩ = some (.int .u8 v.ti) ∧ w'.cell? ⟨W.heap.size, 4, none⟩ = some (.int .i64 v.tn) ∧ w'.cell? ⟨W.heap.size, 5, none⟩ = some (.int .i64 v.n) ∧ w'.cell? ⟨W.heap.size, 6, none⟩ = some (.int .i64 v.m) ∧ w'.cell? ⟨W.heap.size, 7, none⟩ = some (.string v.nm) ∧ w'.cell? ⟨W.heap.size, 8, none⟩ = some (.string v.fd) ∧ w'.cell? ⟨W.heap.size, 9, none⟩ = some s
theorem bx_of {W w' : World} {v : NF} {s : Value} (h : Q (boxed W v s) w') : BX W v s w' := ⟨h, boxed_ten h⟩

set_option maxRecDepth 100000 in
set_option maxHeartbeats 4000000 in
theorem walk (f : Fo) (v : NF) (a : Option Addr) (c : Nat) (w : World) (hv : v.ok) (hin : In w a f) (hs : sok a f.len c) :
    Calls Try.prog 3 #[nodeV v (.slice a f.len c)] w fun e w' => e = .returned (.bool true) ∧ Below w.heap.size w w' := by
  have hin' : ∀ X, Q (boxed w v (.slice a f.len c)) X → In X a f := fun X hX => hin.keep (Nat.le_refl _) ((boxed_q _ _ _).trans hX)
  have HG := hideIt (great_any f v a c (boxed w v (.slice a f.len c)) (hin' _ (Below.refl _ _)) hs)
  by_cases hz : 6000 < f.size + 1
  · have hd : decide (6000 < f.size + 1) = true := decide_eq_true hz
    rw [hd] at HG
    clear hd hin hin' hs hv hz
    go_enter Try.func3, Try.ntmps3
    go_wp2_with (first | (go_at_call 8; refine HG.out.mono ?_; rintro e x ⟨rfl, q1⟩) | (go_at_call 9; refine (awake_any _).mono ?_; rintro e y ⟨rfl, q2⟩))
    go_ret
    exact ⟨rfl, (boxed_q _ _ _).trans (q1.trans q2)⟩
  · have hd : decide (6000 < f.size + 1) = false := decide_eq_false hz
    rw [hd] at HG
    obtain ⟨M1, e1⟩ : ∃ M, min (f.size + 1) 4001 = M := ⟨_, rfl⟩
    obtain ⟨M2, e2⟩ : ∃ M, min (f.depth + 1) 41 = M := ⟨_, rfl⟩
    obtain ⟨M3, e3⟩ : ∃ M, f.fine = M := ⟨_, rfl⟩
    obtain ⟨M4, e4⟩ : ∃ M, (if f.fine then 1 + nb v + f.weight else 0 : Nat) = M := ⟨_, rfl⟩
    have C10 : Hid (∀ X, Q (boxed w v (.slice a f.len c)) X → Calls Try.prog 10 #[nodeV v (.slice a f.len c)] X fun e w' => e = .returned (.int .i64 (M1 : Int)) ∧ BX w v (.slice a f.len c) w') := fun X hX => by
      have := size_any f v a c X hv (hin' X hX) hs (by omega)
      rw [e1] at this
      exact this.mono fun e w' ⟨h1, h2⟩ => ⟨h1, bx_of (hX.trans h2)⟩
    have C11 : Hid (∀ X, Q (boxed w v (.slice a f.len c)) X → Calls Try.prog 11 #[nodeV v (.slice a f.len c)] X fun e w' => e = .returned (.int .i64 (M1 : Int)) ∧ BX w v (.slice a f.len c) w') := fun X hX => by
      have := rsize_any (f.size + 1) f (by omega) v a c X (hin' X hX) hs
      rw [e1] at this
      exact this.mono fun e w' ⟨h1, h2⟩ => ⟨h1, bx_of (hX.trans h2)⟩
    have C12 : Hid (∀ X, Q (boxed w v (.slice a f.len c)) X → Calls Try.prog 12 #[nodeV v (.slice a f.len c)] X fun e w' => e = .returned (.int .i64 (M2 : Int)) ∧ BX w v (.slice a f.len c) w') := fun X hX => by
      have := depth_any f v a c X hv (hin' X hX) hs (by omega)
      rw [e2] at this
      exact this.mono fun e w' ⟨h1, h2⟩ => ⟨h1, bx_of (hX.trans h2)⟩
    have C13 : Hid (∀ X, Q (boxed w v (.slice a f.len c)) X → Calls Try.prog 13 #[nodeV v (.slice a f.len c)] X fun e w' => e = .returned (.int .i64 (M2 : Int)) ∧ BX w v (.slice a f.len c) w') := fun X hX => by
      have := rDepth_any f v a c X (hin' X hX) hs
      rw [e2] at this
      exact this.mono fun e w' ⟨h1, h2⟩ => ⟨h1, bx_of (hX.trans h2)⟩
    have C14 : Hid (∀ X, Q (boxed w v (.slice a f.len c)) X → Calls Try.prog 14 #[nodeV v (.slice a f.len c)] X fun e w' => e = .returned (.bool M3) ∧ BX w v (.slice a f.len c) w') := fun X hX => by
      have := fine_any f v a c X hv (hin' X hX) hs (by omega)
      rw [e3] at this
      exact this.mono fun e w' ⟨h1, h2⟩ => ⟨h1, bx_of (hX.trans h2)⟩
    have C15 : Hid (∀ X, Q (boxed w v (.slice a f.len c)) X → Calls Try.prog 15 #[nodeV v (.slice a f.len c)] X fun e w' => e = .returned (.bool M3) ∧ BX w v (.slice a f.len c) w') := fun X hX => by
      have := rFine_any f v a c X (hin' X hX) hs
      rw [e3] at this
      exact this.mono fun e w' ⟨h1, h2⟩ => ⟨h1, bx_of (hX.trans h2)⟩
    have C16 : Hid (∀ X, Q (boxed w v (.slice a f.len c)) X → Calls Try.prog 16 #[nodeV v (.slice a f.len c)] X fun e w' => e = .returned (.int .i64 (M4 : Int)) ∧ BX w v (.slice a f.len c) w') := fun X hX => by
      have := weight_any f v a c X hv (hin' X hX) hs (by omega)
      rw [e4] at this
      exact this.mono fun e w' ⟨h1, h2⟩ => ⟨h1, bx_of (hX.trans h2)⟩
    have C17 : Hid (∀ X, Q (boxed w v (.slice a f.len c)) X → Calls Try.prog 17 #[nodeV v (.slice a f.len c)] X fun e w' => e = .returned (.int .i64 (M4 : Int)) ∧ BX w v (.slice a f.len c) w') := fun X hX => by
      have := rWeight_any f v a c X hv (hin' X hX) hs (by omega)
      rw [e4] at this
      exact this.mono fun e w' ⟨h1, h2⟩ => ⟨h1, bx_of (hX.trans h2)⟩
    have C9 : Hid (∀ X, Q (boxed w v (.slice a f.len c)) X → Calls Try.prog 9 #[] X fun e w' => e = .returned (.bool true) ∧ BX w v (.slice a f.len c) w') := fun X hX =>
      (awake_any X).mono fun e w' ⟨h1, h2⟩ => ⟨h1, bx_of (hX.trans h2)⟩
    clear hd hin hin' hs hv hz e1 e2 e3 e4
    go_enter Try.func3, Try.ntmps3
    go_wp2_with (first | (go_at_call 8; refine HG.out.mono ?_; rintro e x ⟨rfl, q1⟩; have q1d : Q (boxed w v (.slice a f.len c)) x.drew := Below.drew q1; obtain ⟨c0, c1, c2, c3, c4, c5, c6, c7, c8, c9⟩ := boxed_ten q1))
    go_region_held3 (fun w' => Q (boxed w v (.slice a f.len c)) w' ∧ w'.cell? ⟨w.heap.size, 0, none⟩ = some (.int .u8 v.k) ∧ w'.cell? ⟨w.heap.size, 1, none⟩ = some (.int .u8 v.op) ∧ w'.cell? ⟨w.heap.size, 2, none⟩ = some (.int .u8 v.tk) ∧ w'.cell? ⟨w.heap.size, 3, none⟩ = some (.int .u8 v.ti) ∧ w'.cell? ⟨w.heap.size, 4, none⟩ = some (.int .i64 v.tn) ∧ w'.cell? ⟨w.heap.size, 5, none⟩ = some (.int .i64 v.n) ∧ w'.cell? ⟨w.heap.size, 6, none⟩ = some (.int .i64 v.m) ∧ w'.cell? ⟨w.heap.size, 7, none⟩ = some (.string v.nm) ∧ w'.cell? ⟨w.heap.size, 8, none⟩ = some (.string v.fd) ∧ w'.cell? ⟨w.heap.size, 9, none⟩ = some (.slice a f.len c)) (go_keep) (first | (go_at_call 9; refine (C9.out _ (by assumption)).mono ?_; rintro e y ⟨rfl, s0, s1, s2, s3, s4, s5, s6, s7, s8, s9, s10⟩) | (go_at_call 10; refine (C10.out _ (by assumption)).mono ?_; rintro e y ⟨rfl, s0, s1, s2, s3, s4, s5, s6, s7, s8, s9, s10⟩) | (go_at_call 11; refine (C11.out _ (by assumption)).mono ?_; rintro e y ⟨rfl, s0, s1, s2, s3, s4, s5, s6, s7, s8, s9, s10⟩) | (go_at_call 12; refine (C12.out _ (by assumption)).mono ?_; rintro e y ⟨rfl, s0, s1, s2, s3, s4, s5, s6, s7, s8, s9, s10⟩) | (go_at_call 13; refine (C13.out _ (by assumption)).mono ?_; rintro e y ⟨rfl, s0, s1, s2, s3, s4, s5, s6, s7, s8, s9, s10⟩) | (go_at_call 14; refine (C14.out _ (by assumption)).mono ?_; rintro e y ⟨rfl, s0, s1, s2, s3, s4, s5, s6, s7, s8, s9, s10⟩) | (go_at_call 15; refine (C15.out _ (by assumption)).mono ?_; rintro e y ⟨rfl, s0, s1, s2, s3, s4, s5, s6, s7, s8, s9, s10⟩) | (go_at_call 16; refine (C16.out _ (by assumption)).mono ?_; rintro e y ⟨rfl, s0, s1, s2, s3, s4, s5, s6, s7, s8, s9, s10⟩) | (go_at_call 17; refine (C17.out _ (by assumption)).mono ?_; rintro e y ⟨rfl, s0, s1, s2, s3, s4, s5, s6, s7, s8, s9, s10⟩))
    go_wp2_with (fail)
    go_ret
    exact ⟨by first | rfl | simp, (boxed_q _ _ _).trans (by assumption)⟩

/-! ### THE ROW's STEP -/
set_option maxRecDepth 100000 in
theorem lifted (os : Os) (started : os.Started) (H : Type) (enc : TypeId × Value → H) :
    ReturnsInHanded {} Try.checked os 3 .any (Rows.treeMeasuresSpec.pre6 enc Try.prog Try.f3 Rows.treeMeasuresRow.domain false) (Rows.treeMeasuresSpec.post enc Try.prog Try.f3 false true false false) := by
  refine returnsInHanded_of_change (C := Try.checked) own started (by kernel_rfl) Try.func3
    (ChangeSpec.witness6 (enc := enc) (C := Try.checked) false ⟨#[], #[.agg #[.int .u8 0, .int .u8 0, .int .u8 0, .int .u8 0, .int .i64 0, .int .i64 0, .int .i64 0, .string ⟨#[]⟩, .string ⟨#[]⟩, .slice none 0 0]], []⟩ 8 (by kernel_rfl) (by kernel_rfl) (by kernel_rfl) (by kernel_rfl)) ?_
  intro W base args ds gs before hval0 hW hcnd _
  have hval : ∀ (j : Nat) t v, Try.f3.params[j]? = some t → args[j]? = some v → Value.okWide Try.prog W .any base t v := hval0
  have hW' := hW
  obtain ⟨p, q, hA0, hV, rfl, hfz, hnd⟩ := hW
  have hA : DataW.TrodAll enc Try.prog W 0 (fun _ => true) true Try.f3.params.toList args.toList ds p := hA0
  rw [Try.params3] at hA hval
  obtain ⟨v0, vs0, d0, ds0, p0, q0, hargs, rfl, rfl, h0, r0⟩ := trodAll_cons hA
  obtain ⟨rfl, rfl, rfl⟩ := trodAll_nil r0
  obtain rfl : args = #[v0] := by cases args; simp_all
  obtain ⟨rfl, rfl⟩ := trodVars_none hV
  have k0 := h0
  have lt0 : ∀ x ∈ p0, x.block < W.heap.size := by obtain ⟨m, hm⟩ := k0; exact DataW.trod_lt m _ _ _ hm
  obtain ⟨v, a, c, f, rfl, hv, hs, hin⟩ := open_tree h0
  clear hA0 hval0
  refine (walk f v a c W hv hin hs).mono fun e W' ⟨he, bel⟩ => ?_
  subst he
  exact ⟨_, rfl, _, _, _, [], _, [], hW', trodAll_mk1 (shut_bool Try.underlying4 _), (trodAll_cons_mk (Below.trod laidOut (by kernel_rfl) (of_decide_eq_true (by kernel_rfl)) k0 bel lt0) trodAll_mk0), rfl, bel.frame _, fun h => by cases h⟩

theorem over : Rows.treeMeasuresRow.holds Try.pinned (OpenSpec.ofChange Rows.treeMeasuresSpec) :=
  OpenClaim.holds_of_wide 3 Try.f3 rfl rfl rfl rfl rfl rfl rfl ⟨rfl, rfl, rfl, rfl, rfl⟩ rfl rfl rfl rfl rfl (by kernel_rfl) Try.func3 (by kernel_rfl)
    (of_decide_eq_true (by kernel_rfl)) (by unfold Func.isWrapper; first | (rw [if_pos (by decide +kernel)]; kernel_rfl) | (rw [if_neg (by decide +kernel)]; exact ⟨rfl, rfl⟩))
    (fun os started H enc _ => lifted os started H enc)

/-- THE STATEMENT -/
theorem proved : Rows.TreeMeasuresSaid := over
#print axioms proved
end Go.Proofs.Ytioeoillogpdoaa.treeMeasures
