/-
  For every number of 16 bits: as many cells as may be are given, and not one more (the law MemFull returns true); no conditions.
-/
import Derived.Test.YtahhbehpgolinaaRows
import Derived.Test.YtahhbehpgolinaaMeN
import Derived.ProofKit
import Derived.OpenShut
import Derived.ShutString
import Derived.ChangeOld
import Derived.Below
namespace Go.Proofs.Ytahhbehpgolinaa.memFull
open Go.ChangeShapes Go.WideShapes Go.ChangeAt Go.RowKit Me
set_option linter.unusedVariables false

theorem own : ownKnob Try.prog.godebug = none := by kernel_rfl

theorem one_lim {w0 w : World} {p n : Nat} {bs : List Nat} {f : Int → Int → Int} {t : Int} (h : One w0 w p n bs f t) (ht : 0 ≤ t) (ht2 : t ≤ 65536) (c : Int) (hc : 0 ≤ c) (hc2 : 65536 - t < c) :
    Calls Try.prog 10 #[.pointer (some ⟨p, 0, none⟩), .int .i64 c] w fun e w' => e = .returned (.tuple #[.int .i64 0, .int .i64 11]) ∧ w' = w := by
  obtain ⟨-, -, bl, h2⟩ := h
  exact alloc_lim h2 ht ht2 c hc hc2

/-- The three blocks. -/
def bs3 (a : Int) : List Nat := (([] ++ [a.toNat]) ++ [(65536 - a).toNat]) ++ [(0 : Int).toNat]
theorem in3 {a : Int} (ha : 0 ≤ a) (ha2 : a ≤ 65535) : inB (bs3 a) 1 (65535 - a) = true := by
  refine inB_iff.2 ⟨1, (65535 - a).toNat, (65536 - a).toNat, by omega, by omega, by simp [bs3], by omega⟩
theorem c3 {a : Int} (ha : 0 ≤ a) (ha2 : a ≤ 65535) : ∀ c ∈ bs3 a, c ≤ 100000 := by
  intro c hc
  simp [bs3] at hc
  omega
theorem s3 {a : Int} (ha : 0 ≤ a) (ha2 : a ≤ 65535) : 0 + a + (65536 - a) + 0 = (((bs3 a).sum : Nat) : Int) := by
  simp [bs3]
  omega
theorem s3' {a : Int} (ha : 0 ≤ a) (ha2 : a ≤ 65535) : (bs3 a).sum ≤ 65536 := by
  have := s3 ha ha2
  omega
theorem l3 (a : Int) : (bs3 a).length ≤ 1000000 := by simp [bs3]

set_option maxRecDepth 100000 in
set_option maxHeartbeats 400000 in
theorem walk (a : Int) (ha : 0 ≤ a) (ha2 : a ≤ 65535) (w : World) : Calls Try.prog 6 #[.int .u16 a] w fun e w' => e = .returned (.bool true) ∧ Below w.heap.size w w' := by
  have IN := hideIt (in3 ha ha2)
  have HC := hideIt (c3 ha ha2)
  have HS := hideIt (s3 ha ha2)
  have HT := hideIt (s3' ha ha2)
  have HL := hideIt (l3 a)
  go_enter Try.func6, Try.ntmps6
  go_wp2_with (first
    | (go_at_call 8; refine (awake_any _).mono ?_; rintro e x0 ⟨rfl, hb⟩; have B0 := hideIt hb; clear hb)
    | (go_at_call 9; refine (one_new B0.out).mono ?_; rintro e x1 ⟨p, rfl, hM⟩; have H1 := hideIt hM; clear hM)
    | (go_at_call 10; have _ := L2.out; refine (one_alloc H3.out (by omega) (by omega) 0 (by omega) (by omega) (by simp)).mono ?_; rintro e x4 ⟨rfl, hM⟩ ; have H4 : Hid (One w x4 p 0 (bs3 a) (fun _ _ => 0) (0 + a + (65536 - a) + 0)) := hM; clear hM H3)
    | (go_at_call 10; refine (one_lim H3.out (by omega) (by omega) 1 (by omega) (by omega)).mono ?_; rintro e x5 ⟨rfl, rfl⟩; have L2 := hideIt trivial)
    | (go_at_call 10; have _ := L1.out; refine (one_alloc H2.out (by omega) (by omega) (65536 - a) (by omega) (by omega) (by simp)).mono ?_; rintro e x3 ⟨rfl, hM⟩; have H3 := hideIt hM; clear hM H2)
    | (go_at_call 10; refine (one_lim H2.out (by omega) (by omega) (65537 - a) (by omega) (by omega)).mono ?_; rintro e x6 ⟨rfl, rfl⟩; have L1 := hideIt trivial)
    | (go_at_call 10; refine (one_alloc H1.out (by omega) (by omega) a (by omega) (by omega) (by simp)).mono ?_; rintro e x2 ⟨rfl, hM⟩; have H2 := hideIt hM; clear hM H1)
    | (go_at_call 18; refine (one_total H6.out).mono ?_; rintro e x7 ⟨rfl, rfl⟩)
    | (go_at_call 18; refine (one_total H4.out).mono ?_; rintro e x8 ⟨rfl, rfl⟩)
    | (go_at_call 16; refine (one_store H4.out (a := 1) (b := 65535 - a) (v := 1) (i64 (by omega) (by omega)) (i64 (by omega) (by omega)) (i64 (by omega) (by omega)) HL.out (by omega) HC.out IN.out).mono ?_; rintro e x9 ⟨rfl, hM⟩; have H5 := hideIt hM; clear hM)
    | (go_at_call 12; refine (one_keep H5.out 0 (Int.le_refl _) (by omega) HS.out HT.out HL.out).mono ?_; rintro e x10 ⟨rfl, hM⟩; have H6 := hideIt hM; clear hM)
    | fail)
  go_ret
  exact ⟨rfl, H6.out.1⟩

set_option maxRecDepth 100000 in
set_option maxHeartbeats 400000 in
theorem lifted (os : Os) (started : os.Started) (H : Type) (enc : TypeId × Value → H) :
    ReturnsInHanded {} Try.checked os 6 .any (Rows.memFullSpec.pre6 enc Try.prog Try.f6 Rows.memFullRow.domain false) (Rows.memFullSpec.post enc Try.prog Try.f6 false true false false) := by
  refine returnsInHanded_of_change (C := Try.checked) own started (by kernel_rfl) Try.func6
    (ChangeSpec.witness6 (enc := enc) (C := Try.checked) false ⟨#[], #[.int .u16 0], []⟩ 8 (by kernel_rfl) (by kernel_rfl) (by kernel_rfl) (by kernel_rfl)) ?_
  intro W base args ds gs before hval0 hW hcnd _
  have hval : ∀ (j : Nat) t v, Try.f6.params[j]? = some t → args[j]? = some v → Value.okWide Try.prog W .any base t v := hval0
  have hW' := hW
  obtain ⟨p, q, hA0, hV, rfl, hfz, hnd⟩ := hW
  have hA : DataW.TrodAll enc Try.prog W 0 (fun _ => true) true Try.f6.params.toList args.toList ds p := hA0
  rw [Try.params6] at hA hval
  obtain ⟨v0, vs0, d0, ds0, p0, q0, hargs, rfl, rfl, h0, r0⟩ := trodAll_cons hA
  obtain ⟨rfl, rfl, rfl⟩ := trodAll_nil r0
  obtain rfl : args = #[v0] := by cases args; simp_all
  obtain ⟨rfl, rfl⟩ := trodVars_none hV
  obtain ⟨a0, rfl, rfl, rfl, w0⟩ := open_int Try.underlying50 (hval 0 50 v0 rfl rfl) h0
  clear hA0 hval0
  simp only [List.append_nil] at hW'
  have hb : 0 ≤ a0 ∧ a0 ≤ 65535 := by
    simp only [Lit.wf, Bool.and_eq_true, decide_eq_true_eq] at w0
    exact w0
  refine (walk a0 hb.1 hb.2 W).mono fun e W' ⟨he, hg⟩ => ?_
  subst he
  exact ⟨_, rfl, _, _, _, [], [], [], hW', trodAll_mk1 (shut_bool Try.underlying4 _), (trodAll_cons_mk (shut_int Try.underlying50 w0) trodAll_mk0), rfl, Below.frame hg _, fun h => by cases h⟩

theorem over : Rows.memFullRow.holds Try.pinned (OpenSpec.ofChange Rows.memFullSpec) :=
  OpenClaim.holds_of_wide 6 Try.f6 rfl rfl rfl rfl rfl rfl rfl ⟨rfl, rfl, rfl, rfl, rfl⟩ rfl rfl rfl rfl rfl (by kernel_rfl) Try.func6 (by kernel_rfl)
    (of_decide_eq_true (by kernel_rfl)) (by unfold Func.isWrapper; first | (rw [if_pos (by decide +kernel)]; kernel_rfl) | (rw [if_neg (by decide +kernel)]; exact ⟨rfl, rfl⟩))
    (fun os started H enc _ => lifted os started H enc)

/-- The statement. -/
theorem proved : Rows.MemFullSaid :=
  over
#print axioms proved
end Go.Proofs.Ytahhbehpgolinaa.memFull
