/-
  For every tree, number and list of nodes: the list in the place of the node of that number is the document's (the law TreePuts returns true); no conditions but the row's own (tree and list do not lead back into themselves).
-/
import Derived.Test.YtioeoillogpdoaaRows
import Derived.WalkKit
import Derived.ProofKit
import Derived.OpenShut
import Derived.ShutString
import Derived.ChangeOld
import Derived.Below
import Derived.Test.YtioeoillogpdoaaPutsO
import Derived.Test.YtioeoillogpdoaaPutsM
import Derived.Test.YtioeoillogpdoaaPutsJ
import Derived.Deep.RegionHeld3
import Derived.Deep.RegionWith
namespace Go.Proofs.Ytioeoillogpdoaa.treePuts
open Go.ChangeShapes Go.WideShapes Go.ChangeAt Go.RowKit
set_option linter.unusedVariables false

theorem own : ownKnob Try.prog.godebug = none := by kernel_rfl
theorem laidOut : laidOutB Try.prog = true := by kernel_rfl

/-- What both answer: a node with kids of that kind, and a number. -/
abbrev Ans (K : Nat) (v : NF) (s : Value) (id : Int) (l : Value) (vr : NF) (E : Int) (T : Fo) (x : World) : Prop :=
  Calls Try.prog K #[nodeV v s, .int .i64 id, l] x fun e w' => ∃ a' c' G, e = .returned (.tuple #[nodeV vr (.slice a' (Fo.len G) c'), .int .i64 E]) ∧ Cp T G ∧ sok a' G.len c' ∧ In w' a' G ∧ Q x w'

set_option maxRecDepth 100000 in
set_option maxHeartbeats 4000000 in
theorem walk_core (f F T : Fo) (v vr : NF) (a la : Option Addr) (c lc : Nat) (id E : Int) (w : World) (hin : In w a f) (hs : sok a f.len c) (hinF : In w la F) (hsF : sok la F.len lc) (hz : f.size + 1 ≤ 6000) (hzF : F.size + 1 ≤ 6000)
    (CA : ∀ x, Q w x → Ans 23 v (.slice a f.len c) id (.slice la F.len lc) vr E T x) (CB : ∀ x, Q w x → Ans 24 v (.slice a f.len c) id (.slice la F.len lc) vr E T x) :
    Calls Try.prog 5 #[nodeV v (.slice a f.len c), .int .i64 id, .slice la F.len lc] w fun e w' => e = .returned (.bool true) ∧ Below w.heap.size w w' := by
  have QB := hideIt (boxed_q w v (.slice a f.len c))
  have HG := hideIt (great_any f v a c (boxed w v (.slice a f.len c)) (hin.keep (Nat.le_refl _) QB.out) hs)
  rw [show decide (6000 < f.size + 1) = false from decide_eq_false (by omega)] at HG
  have HG2 : Hid (∀ x, Q w x → Calls Try.prog 8 #[nodeV (nf 0 0) (.slice la F.len lc), .int .i64 6000] x fun e w' => e = .returned (.bool false) ∧ Q x w') := fun x hx => by
    have h := great_any F (nf 0 0) la lc x (hinF.keep (Nat.le_refl _) hx) hsF
    rw [show decide (6000 < F.size + 1) = false from decide_eq_false (by omega)] at h
    exact h
  have PA := hideIt CA
  have PB := hideIt CB
  have C21 := hideIt (fun (X : World) (g1 g2 : Fo) (a1 a2 : Option Addr) (c1 c2 : Nat) (h1 : In X a1 g1) (h2 : sok a1 g1.len c1) (h3 : In X a2 g2) (h4 : sok a2 g2.len c2) (hc : Cp g1 g2) => (show Calls Try.prog 21 #[nodeV vr (.slice a1 g1.len c1), nodeV vr (.slice a2 g2.len c2)] X fun e w' => e = .returned (.bool true) ∧ Q X w' by
    have := rsame_any (g1.size + 1) g1 (by omega) g2 vr vr a1 a2 c1 c2 X h1 h2 h3 h4
    rw [eqN_refl, hc.same] at this
    exact this))
  clear hin hs hinF hsF CA CB
  go_enter Try.func5, Try.ntmps5
  go_wp2_with (first
    | (go_at_call_of 8 (Value.slice a f.len c); refine HG.out.mono ?_; rintro e x1 ⟨rfl, q1⟩; have Q1 := hideIt (QB.out.trans q1); have B1 := hideIt q1; clear q1)
    | (go_at_call 8; refine (HG2.out _ Q1.out).mono ?_; rintro e x2 ⟨rfl, q2⟩; have Q2 := hideIt (Q1.out.trans q2); have B2 := hideIt (B1.out.trans q2); clear q2)
    | (go_at_call 9; refine (awake_any _).mono ?_; rintro e x3 ⟨rfl, q3⟩; have Q3 := hideIt (Q2.out.trans q3); have B3 := hideIt (B2.out.trans q3); clear q3; obtain ⟨c0, c1, c2, c3, c4, c5, c6, c7, c8, c9⟩ := boxed_ten B3.out)
    | (go_at_call 23; refine (PA.out _ Q3.out).mono ?_; rintro e x4 ⟨a1, cw1, G1, rfl, p1, p2, p3, p4⟩; have H1 := hideIt (And.intro p1 (And.intro p2 p3)); have Q4 := hideIt ((Q3.out.trans p4).trans (boxed_q x4 vr (.slice a1 G1.len cw1))); have C4 := fun (ob : Obj) => boxed_ten ((B3.out.trans p4).trans ((Below.refl _ _).alloc (Nat.le_refl _) ob)); clear p1 p2 p3 p4 c0 c1 c2 c3 c4 c5 c6 c7 c8 c9)
    | (go_at_call 24; refine (PB.out _ Q4.out).mono ?_; rintro e x5 ⟨a2, cw2, G2, rfl, p1, p2, p3, p4⟩; have QN := hideIt (p4.trans (boxed_q x5 vr (.slice a2 G2.len cw2))); have Q5 := hideIt (Q4.out.trans QN.out); have H2 := hideIt (And.intro p1 (And.intro p2 p3)); have C5 := fun (ob : Obj) => boxed_ten (p4.trans ((Below.refl _ _).alloc (Nat.le_refl _) ob)); clear p1 p2 p3 p4 C4)
    | (go_at_call 21; refine (C21.out _ G1 G2 a1 a2 cw1 cw2 (H1.out.2.2.keep (Nat.le_refl _) ((boxed_q x4 vr (.slice a1 G1.len cw1)).trans QN.out)) H1.out.2.1 (H2.out.2.2.keep (Nat.le_refl _) (boxed_q x5 vr (.slice a2 G2.len cw2))) H2.out.2.1 (H1.out.1.symm.trans H2.out.1)).mono ?_; rintro e x6 ⟨rfl, q6⟩)
    | fail)
  go_ret
  exact ⟨rfl, Q5.out.trans q6⟩

set_option maxRecDepth 100000 in
set_option maxHeartbeats 1000000 in
theorem walk_great (f F : Fo) (v : NF) (a la : Option Addr) (c lc : Nat) (id : Int) (w : World) (hin : In w a f) (hs : sok a f.len c) (hinF : In w la F) (hsF : sok la F.len lc) (hz : 6000 < f.size + 1 ∨ (¬6000 < f.size + 1 ∧ 6000 < F.size + 1)) :
    Calls Try.prog 5 #[nodeV v (.slice a f.len c), .int .i64 id, .slice la F.len lc] w fun e w' => e = .returned (.bool true) ∧ Below w.heap.size w w' := by
  have QB := hideIt (boxed_q w v (.slice a f.len c))
  have HG := hideIt (great_any f v a c (boxed w v (.slice a f.len c)) (hin.keep (Nat.le_refl _) QB.out) hs)
  have HG2 := hideIt (fun (x : World) (hx : Q w x) => great_any F (nf 0 0) la lc x (hinF.keep (Nat.le_refl _) hx) hsF)
  clear hin hs hinF hsF
  rcases hz with h | ⟨h, h'⟩
  · rw [show decide (6000 < f.size + 1) = true from decide_eq_true h] at HG
    clear h
    go_enter Try.func5, Try.ntmps5
    go_wp2_with (first
      | (go_at_call 8; refine HG.out.mono ?_; rintro e x1 ⟨rfl, q1⟩; have Q1 := hideIt (QB.out.trans q1); clear q1)
      | (go_at_call 9; refine (awake_any _).mono ?_; rintro e x3 ⟨rfl, q3⟩)
      | fail)
    go_ret
    exact ⟨rfl, Q1.out.trans q3⟩
  · rw [show decide (6000 < f.size + 1) = false from decide_eq_false h] at HG
    rw [show decide (6000 < F.size + 1) = true from decide_eq_true h'] at HG2
    clear h h'
    go_enter Try.func5, Try.ntmps5
    go_wp2_with (first
      | (go_at_call_of 8 (Value.slice a f.len c); refine HG.out.mono ?_; rintro e x1 ⟨rfl, q1⟩; have Q1 := hideIt (QB.out.trans q1); clear q1)
      | (go_at_call 8; refine (HG2.out _ Q1.out).mono ?_; rintro e x2 ⟨rfl, q2⟩; have Q2 := hideIt (Q1.out.trans q2); clear q2)
      | (go_at_call 9; refine (awake_any _).mono ?_; rintro e x3 ⟨rfl, q3⟩)
      | fail)
    go_ret
    exact ⟨rfl, Q2.out.trans q3⟩

set_option maxRecDepth 100000 in
set_option maxHeartbeats 1000000 in
theorem rput_coarse (f : Fo) (v : NF) (a : Option Addr) (c : Nat) (id : Int) (l : Value) (w : World) (hin : In w a f) (hs : sok a f.len c) (hff : f.fine = false) :
    Calls Try.prog 24 #[nodeV v (.slice a f.len c), .int .i64 id, l] w fun e w' => e = .returned (.tuple #[nodeV (nf 0 0) (.slice none 0 0), .int .i64 2]) ∧ Q w w' := by
  have FA1 := hideIt (rFine_any f v a c _ (hin.keep (Nat.le_refl _) (boxed2_q w v (.slice a f.len c) (nf 0 0) (.slice none 0 0))) hs)
  rw [hff] at FA1
  clear hin hs hff
  go_enter Try.func24, Try.ntmps24
  go_wp2_with (first
    | (go_at_call 15; refine FA1.out.mono ?_; rintro e y ⟨rfl, q⟩; have QE := hideIt q; clear q; have ry0 := boxed2_b QE.out 0 _ rfl; have ry1 := boxed2_b QE.out 1 _ rfl; have ry2 := boxed2_b QE.out 2 _ rfl; have ry3 := boxed2_b QE.out 3 _ rfl; have ry4 := boxed2_b QE.out 4 _ rfl; have ry5 := boxed2_b QE.out 5 _ rfl; have ry6 := boxed2_b QE.out 6 _ rfl; have ry7 := boxed2_b QE.out 7 _ rfl; have ry8 := boxed2_b QE.out 8 _ rfl; have ry9 := boxed2_b QE.out 9 _ rfl; have gf0 := (boxed2_free QE.out 0).2; have gf1 := (boxed2_free QE.out 1).2; have gf2 := (boxed2_free QE.out 2).2; have gf3 := (boxed2_free QE.out 3).2; have gf4 := (boxed2_free QE.out 4).2; have gf5 := (boxed2_free QE.out 5).2; have gf6 := (boxed2_free QE.out 6).2; have gf7 := (boxed2_free QE.out 7).2; have gf8 := (boxed2_free QE.out 8).2; have gf9 := (boxed2_free QE.out 9).2)
    | fail)
  refine bodyPost_ret (v := .tuple #[nodeV (nf 0 0) (.slice none 0 0), .int .i64 2]) (by simp [results, Try.results24, go_sem, nf, *]) rfl ⟨rfl, ?_⟩
  repeat (refine Below.setCell ?_ (by simp <;> omega) _)
  exact (boxed2_q _ _ _ _ _).trans QE.out

/-- A refusal, as an answer. -/
theorem ans_no {K : Nat} {v : NF} {s l : Value} {id E : Int} {x : World} (h : Calls Try.prog K #[nodeV v s, .int .i64 id, l] x fun e w' => e = .returned (.tuple #[nodeV (nf 0 0) (.slice none 0 0), .int .i64 E]) ∧ Q x w') : Ans K v s id l (nf 0 0) E .nil x :=
  h.mono fun e w' ⟨he, hq⟩ => ⟨none, 0, .nil, he, trivial, ⟨Nat.le_refl _, Nat.zero_le _, fun _ => rfl⟩, trivial, hq⟩

theorem walk (f F : Fo) (v : NF) (a la : Option Addr) (c lc : Nat) (id : Int) (w : World) (hv : v.ok) (hid : -9223372036854775808 ≤ id ∧ id ≤ 9223372036854775807) (hin : In w a f) (hs : sok a f.len c) (hinF : In w la F) (hsF : sok la F.len lc) :
    Calls Try.prog 5 #[nodeV v (.slice a f.len c), .int .i64 id, .slice la F.len lc] w fun e w' => e = .returned (.bool true) ∧ Below w.heap.size w w' := by
  by_cases hz : 6000 < f.size + 1
  · exact walk_great f F v a la c lc id w hin hs hinF hsF (.inl hz)
  by_cases hzF : 6000 < F.size + 1
  · exact walk_great f F v a la c lc id w hin hs hinF hsF (.inr ⟨hz, hzF⟩)
  have k1 : ∀ x, Q w x → In x a f := fun x hx => hin.keep (Nat.le_refl _) hx
  have k2 : ∀ x, Q w x → In x la F := fun x hx => hinF.keep (Nat.le_refl _) hx
  cases hff : f.fine with
  | false =>
    exact walk_core f F .nil v (nf 0 0) a la c lc id 2 w hin hs hinF hsF (by omega) (by omega) (fun x hx => ans_no (put_coarse f v a c id F la lc x hv (k1 x hx) hs (k2 x hx) hsF (by omega) (by omega) hff)) (fun x hx => ans_no (rput_coarse f v a c id _ x (k1 x hx) hs hff))
  | true =>
    have hfz := fine_size hff
    have RP : ∀ x, Q w x → Calls Try.prog 24 #[nodeV v (.slice a f.len c), .int .i64 id, .slice la F.len lc] x (RPut x v f F id) := fun x hx =>
      rput_any f v a c id F la lc x (k1 x hx) hs (k2 x hx) hsF hff hid (fun y hy h1 h2 => by
        have h := rputi_any F la lc id x.heap.size hid (by have := F.len_le_size; omega) f.size f (Nat.le_refl _) v a c 0 y ((k1 x hx).keep (Nat.le_refl _) hy) hs ((k2 x hx).keep (Nat.le_refl _) hy) hsF hy.size (av_in (k2 x hx)) (by omega) (by omega) (by omega)
        rw [show id - 0 - 1 = id - 1 by omega] at h
        exact h)
    cases hFf : F.eachFine with
    | false =>
      refine walk_core f F .nil v (nf 0 0) a la c lc id 2 w hin hs hinF hsF (by omega) (by omega) (fun x hx => ans_no (put_list f v a c id F la lc x hv (k1 x hx) hs (k2 x hx) hsF (by omega) (by omega) hff hFf)) (fun x hx => ans_no ((RP x hx).mono ?_))
      rintro e w' ⟨h | h | h | h, hq⟩
      · exact ⟨h.2, hq⟩
      all_goals (rw [hFf] at h; cases h.1)
    | true =>
      by_cases hl : id < 1
      · refine walk_core f F .nil v (nf 0 0) a la c lc id 12 w hin hs hinF hsF (by omega) (by omega) (fun x hx => ans_no (put_low f v a c id F la lc x hv (k1 x hx) hs (k2 x hx) hsF (by omega) (by omega) hff hFf (by omega))) (fun x hx => ans_no ((RP x hx).mono ?_))
        rintro e w' ⟨h | h | h | h, hq⟩
        · rw [hFf] at h; cases h.1
        · exact ⟨h.2.2, hq⟩
        · have := h.2.1; omega
        · have := h.2.1; omega
      by_cases hr : (f.size : Int) + 1 ≤ id
      · refine walk_core f F .nil v (nf 0 0) a la c lc id 12 w hin hs hinF hsF (by omega) (by omega) (fun x hx => ans_no (put_far f v a c id F la lc x hv (k1 x hx) hs (k2 x hx) hsF (by omega) (by omega) hff hFf hr)) (fun x hx => ans_no ((RP x hx).mono ?_))
        rintro e w' ⟨h | h | h | h, hq⟩
        · rw [hFf] at h; cases h.1
        · exact ⟨h.2.2, hq⟩
        · have := h.2.2.1; omega
        · have := h.2.2.1; omega
      cases hT : (putS F (id - 1) f).fine with
      | false =>
        refine walk_core f F .nil v (nf 0 0) a la c lc id 2 w hin hs hinF hsF (by omega) (by omega) (fun x hx => ans_no (put_great f v a c id F la lc x hv (k1 x hx) hs (k2 x hx) hsF hff (by omega) hFf (by omega) (by omega) hT)) (fun x hx => ans_no ((RP x hx).mono ?_))
        rintro e w' ⟨h | h | h | h, hq⟩
        · rw [hFf] at h; cases h.1
        · have := h.2.1; omega
        · exact ⟨h.2.2.2.2, hq⟩
        · rw [hT] at h; cases h.2.2.2.1
      | true =>
        refine walk_core f F (putS F (id - 1) f) v v a la c lc id 0 w hin hs hinF hsF (by omega) (by omega) (fun x hx => put_good f v a c id F la lc x hv (k1 x hx) hs (k2 x hx) hsF hff (by omega) hFf (by omega) (by omega) hT) (fun x hx => (RP x hx).mono ?_)
        rintro e w' ⟨h | h | h | h, hq⟩
        · rw [hFf] at h; cases h.1
        · have := h.2.1; omega
        · rw [hT] at h; cases h.2.2.2.1
        · obtain ⟨_, _, _, _, a', c', G, he, h1, h2, h3⟩ := h
          exact ⟨a', c', G, he, h1, h2, h3, hq⟩

set_option maxRecDepth 100000 in
set_option maxHeartbeats 400000 in
theorem lifted (os : Os) (started : os.Started) (H : Type) (enc : TypeId × Value → H) :
    ReturnsInHanded {} Try.checked os 5 .any (Rows.treePutsSpec.pre6 enc Try.prog Try.f5 Rows.treePutsRow.domain false) (Rows.treePutsSpec.post enc Try.prog Try.f5 false true false false) := by
  refine returnsInHanded_of_change (C := Try.checked) own started (by kernel_rfl) Try.func5
    (ChangeSpec.witness6 (enc := enc) (C := Try.checked) false ⟨#[], #[.agg #[.int .u8 0, .int .u8 0, .int .u8 0, .int .u8 0, .int .i64 0, .int .i64 0, .int .i64 0, .string ⟨#[]⟩, .string ⟨#[]⟩, .slice none 0 0], .int .i64 0, .slice none 0 0], []⟩ 8 (by kernel_rfl) (by kernel_rfl) (by kernel_rfl) (by kernel_rfl)) ?_
  intro W base args ds gs before hval0 hW hcnd _
  have hval : ∀ (j : Nat) t v, Try.f5.params[j]? = some t → args[j]? = some v → Value.okWide Try.prog W .any base t v := hval0
  have hW' := hW
  obtain ⟨p, q, hA0, hV, rfl, hfz, hnd⟩ := hW
  have hA : DataW.TrodAll enc Try.prog W 0 (fun _ => true) true Try.f5.params.toList args.toList ds p := hA0
  rw [Try.params5] at hA hval
  obtain ⟨v0, vs0, d0, ds0, p0, q0, hargs, rfl, rfl, h0, r0⟩ := trodAll_cons hA
  obtain ⟨v1, vs1, d1, ds1, p1, q1, rfl, rfl, rfl, h1, r1⟩ := trodAll_cons r0
  obtain ⟨v2, vs2, d2, ds2, p2, q2, rfl, rfl, rfl, h2, r2⟩ := trodAll_cons r1
  obtain ⟨rfl, rfl, rfl⟩ := trodAll_nil r2
  obtain rfl : args = #[v0, v1, v2] := by cases args; simp_all
  obtain ⟨rfl, rfl⟩ := trodVars_none hV
  have k0 := h0
  have lt0 : ∀ x ∈ p0, x.block < W.heap.size := by obtain ⟨m, hm⟩ := k0; exact DataW.trod_lt m _ _ _ hm
  have k2 := h2
  have lt2 : ∀ x ∈ p2, x.block < W.heap.size := by obtain ⟨m, hm⟩ := k2; exact DataW.trod_lt m _ _ _ hm
  obtain ⟨v, a, c, f, rfl, hv, hs, hin⟩ := open_tree h0
  obtain ⟨u, rfl, rfl, rfl, w1⟩ := open_int Try.underlying3 (hval 1 3 v1 rfl rfl) h1
  obtain ⟨la, ln, lc, rfl⟩ := okWide_slice Try.underlying24 (hval 2 24 v2 rfl rfl)
  obtain ⟨F, rfl, hsF, hinF⟩ := open_list h2
  clear hA0 hval0
  have hb : -9223372036854775808 ≤ u ∧ u ≤ 9223372036854775807 := by
    simp [Lit.wf, IntKind.min, IntKind.max, IntKind.bits, IntKind.signed] at w1
    exact ⟨by omega, by omega⟩
  refine (walk f F v a la c lc u W hv hb hin hs hinF hsF).mono fun e W' ⟨he, bel⟩ => ?_
  subst he
  exact ⟨_, rfl, _, _, _, [], _, [], hW', trodAll_mk1 (shut_bool Try.underlying4 _), (trodAll_cons_mk (Below.trod laidOut (by kernel_rfl) (of_decide_eq_true (by kernel_rfl)) k0 bel lt0) (trodAll_cons_mk (shut_int Try.underlying3 w1) (trodAll_cons_mk (Below.trod laidOut (by kernel_rfl) (of_decide_eq_true (by kernel_rfl)) k2 bel lt2) trodAll_mk0))), rfl, bel.frame _, fun h => by cases h⟩

theorem over : Rows.treePutsRow.holds Try.pinned (OpenSpec.ofChange Rows.treePutsSpec) :=
  OpenClaim.holds_of_wide 5 Try.f5 rfl rfl rfl rfl rfl rfl rfl ⟨rfl, rfl, rfl, rfl, rfl⟩ rfl rfl rfl rfl rfl (by kernel_rfl) Try.func5 (by kernel_rfl)
    (of_decide_eq_true (by kernel_rfl)) (by unfold Func.isWrapper; first | (rw [if_pos (by decide +kernel)]; kernel_rfl) | (rw [if_neg (by decide +kernel)]; exact ⟨rfl, rfl⟩))
    (fun os started H enc _ => lifted os started H enc)

/-- The statement. -/
theorem proved : Rows.TreePutsSaid := over
#print axioms proved
end Go.Proofs.Ytioeoillogpdoaa.treePuts
