/-
  When two trees are the same, as the document's answer tells it: contracts over the program; the conditions: the arguments are trees that lie in memory.
-/
import Derived.Test.YtioeoillogpdoaaAwake
namespace Go.Proofs.Ytioeoillogpdoaa
open Go.RowKit
set_option linter.unusedVariables false

/-- Two nodes are alike but for their kids. -/
def eqN (x y : NF) : Bool := (x.k == y.k) && ((x.op == y.op) && (((x.tk == y.tk) && (x.ti == y.ti) && (x.tn == y.tn)) && ((x.n == y.n) && ((x.m == y.m) && ((x.nm.toList == y.nm.toList) && (x.fd.toList == y.fd.toList))))))
def Fo.same : Fo → Fo → Bool
  | nil, nil => true
  | cons v _ _ k r, cons v' _ _ k' r' => (eqN v v' && k.same k') && r.same r'
  | _, _ => false

abbrev boxed2 (w : World) (x : NF) (s : Value) (y : NF) (t : Value) : World := boxed (boxed w x s) y t

set_option maxRecDepth 100000 in
set_option maxHeartbeats 1000000 in
theorem bare_any (x y : NF) (s t : Value) (w : World) :
    Calls Try.prog 40 #[nodeV x s, nodeV y t] w fun e w' => e = .returned (.bool (eqN x y)) ∧ Q w w' := by
  go_enter Try.func40, Try.ntmps40
  go_wp2_with (fail)
  all_goals go_ret
  all_goals refine ⟨congrArg Ending.returned (congrArg Value.bool ?_), Below.alloc (Below.alloc (Below.refl _ _) (Nat.le_refl _) _) (by simp) _⟩
  all_goals (unfold eqN; simp [*])

theorem boxed2_q (w : World) (x : NF) (s : Value) (y : NF) (t : Value) : Q w (boxed2 w x s y t) := (boxed_q w x s).trans (boxed_q _ y t)
theorem boxed2_a {w w' : World} {x y : NF} {s t : Value} (h : Q (boxed2 w x s y t) w') (j : Nat) (u : Value) (e : (cellsN x s)[j]? = some u) : w'.cell? ⟨w.heap.size, j, none⟩ = some u := boxed_cell ((boxed_q _ y t).trans h) j u e
theorem boxed2_b {w w' : World} {x y : NF} {s t : Value} (h : Q (boxed2 w x s y t) w') (j : Nat) (u : Value) (e : (cellsN y t)[j]? = some u) : w'.cell? ⟨w.heap.size + 1, j, none⟩ = some u := by
  have := boxed_cell (w := boxed w x s) h j u e
  simpa using this

theorem Fo.same_len {f : Fo} : ∀ {g : Fo}, f.len ≠ g.len → f.same g = false := by
  induction f with
  | nil =>
    intro g h
    cases g with
    | nil => simp at h
    | cons => rfl
  | cons v a c k r _ ih =>
    intro g h
    cases g with
    | nil => rfl
    | cons v' a' c' k' r' =>
      simp only [Fo.len, ne_eq, Nat.add_right_cancel_iff] at h
      simp only [Fo.same, ih h, Bool.and_false]

theorem ten2 {w w' : World} {b o : Nat} {v : NF} {s : Value} (h : At w b o (cellsN v s)) (hq : Q w w') : At w' b o (cellsN v s) := h.keep (Nat.le_refl _) hq

set_option maxRecDepth 100000 in
set_option maxHeartbeats 4000000 in
theorem rsame_any (N : Nat) : ∀ (f : Fo), f.size < N → ∀ (g : Fo) (x y : NF) (a a' : Option Addr) (c c' : Nat) (w : World), In w a f → sok a f.len c → In w a' g → sok a' g.len c' →
    Calls Try.prog 21 #[nodeV x (.slice a f.len c), nodeV y (.slice a' g.len c')] w fun e w' => e = .returned (.bool (eqN x y && f.same g)) ∧ Q w w' := by
  induction N with
  | zero => intro f h; omega
  | succ N ih =>
    intro f hf g x y a a' c c' w hin hs hin' hs'
    have HIN := hideIt hin
    have HIN' := hideIt hin'
    have hlen : f.len ≤ 9223372036854775807 := by have := hs.1; have := hs.2.1; unfold maxLen at this; omega
    have hlen' : g.len ≤ 9223372036854775807 := by have := hs'.1; have := hs'.2.1; unfold maxLen at this; omega
    have HB := hideIt (bare_any x y (.slice a f.len c) (.slice a' g.len c') (boxed2 w x (.slice a f.len c) y (.slice a' g.len c')))
    clear hin hs hin' hs'
    cases hb : eqN x y with
    | false =>
      rw [hb] at HB
      rw [Bool.false_and]
      clear hb
      go_enter Try.func21, Try.ntmps21
      go_wp2_with (go_at_call 40; refine HB.out.mono ?_; rintro e z ⟨rfl, q1⟩)
      go_ret
      exact ⟨rfl, (boxed2_q _ _ _ _ _).trans q1⟩
    | true =>
      rw [hb] at HB
      rw [Bool.true_and]
      clear hb
      by_cases hl : f.len = g.len
      · have hld : (((f.len : Nat) : Int) != ((g.len : Nat) : Int)) = false := by rw [hl]; simp
        have HL := hideIt hl
        clear hl
        have HIH := hideIt ih
        clear ih
        go_enter Try.func21, Try.ntmps21
        go_wp2_with (go_at_call 40; refine HB.out.mono ?_; rintro e z ⟨rfl, q1⟩; have d9 := boxed2_a q1 9 _ rfl; have e9 := boxed2_b q1 9 _ rfl; have HQ0 := hideIt q1; clear q1)
        clear d9 e9
        go_loopw [5] (fun i wr => ∃ k : Nat, i = .int .i64 k ∧ k ≤ f.len ∧ f.same g = (f.drop k).same (g.drop k) ∧ Q (boxed2 w x (.slice a f.len c) y (.slice a' g.len c')) wr) (fun i _ => f.len - (intOf i).toNat)
        case atStart => exact ⟨0, rfl, by omega, by simp [Fo.drop], HQ0.out⟩
        case round =>
          obtain ⟨k, rfl, hk, he, hq⟩ := hrel
          have HE := hideIt he
          have d9 := boxed2_a hq 9 _ rfl
          have e9 := boxed2_b hq 9 _ rfl
          clear he HQ0
          by_cases hlt : k < f.len
          · have hlt' : k < g.len := by have := HL.out; omega
            obtain ⟨b, o, v1, ka, kc, ks, rfl, e1, hat1, hv1, hs1, hin1⟩ := HIN.out.elem k hlt
            obtain ⟨b', o', v2, la, lc, ls, rfl, e2, hat2, hv2, hs2, hin2⟩ := HIN'.out.elem k hlt'
            have hkl : (k : Int) < (f.len : Int) := by omega
            have hkl' : (k : Int) < (g.len : Int) := by omega
            have hsz : (f.drop k).size = ks.size + 1 + (f.drop (k + 1)).size := by rw [e1]; rfl
            have hle := f.size_drop k
            have HE2 : Hid (f.same g = ((eqN v1 v2 && ks.same ls) && (f.drop (k + 1)).same (g.drop (k + 1)))) := by
              have := HE.out
              rw [e1, e2] at this
              exact this
            have HC : Hid (∀ X, Q (boxed2 w x (.slice (some ⟨b, o, none⟩) f.len c) y (.slice (some ⟨b', o', none⟩) g.len c')) X → Calls Try.prog 21 #[nodeV v1 (.slice ka ks.len kc), nodeV v2 (.slice la ls.len lc)] X fun e w' => e = .returned (.bool (eqN v1 v2 && ks.same ls)) ∧ (Q (boxed2 w x (.slice (some ⟨b, o, none⟩) f.len c) y (.slice (some ⟨b', o', none⟩) g.len c')) w' ∧ w'.cell? ⟨w.heap.size, 9, none⟩ = some (.slice (some ⟨b, o, none⟩) f.len c) ∧ w'.cell? ⟨w.heap.size + 1, 9, none⟩ = some (.slice (some ⟨b', o', none⟩) g.len c') ∧ w'.cell? ⟨b, o + k * 10, none⟩ = some (.int .u8 v1.k) ∧ w'.cell? ⟨b, o + k * 10 + 1, none⟩ = some (.int .u8 v1.op) ∧ w'.cell? ⟨b, o + k * 10 + 2, none⟩ = some (.int .u8 v1.tk) ∧ w'.cell? ⟨b, o + k * 10 + 3, none⟩ = some (.int .u8 v1.ti) ∧ w'.cell? ⟨b, o + k * 10 + 4, none⟩ = some (.int .i64 v1.tn) ∧ w'.cell? ⟨b, o + k * 10 + 5, none⟩ = some (.int .i64 v1.n) ∧ w'.cell? ⟨b, o + k * 10 + 6, none⟩ = some (.int .i64 v1.m) ∧ w'.cell? ⟨b, o + k * 10 + 7, none⟩ = some (.string v1.nm) ∧ w'.cell? ⟨b, o + k * 10 + 8, none⟩ = some (.string v1.fd) ∧ w'.cell? ⟨b, o + k * 10 + 9, none⟩ = some ((.slice ka ks.len kc)) ∧ w'.cell? ⟨b', o' + k * 10, none⟩ = some (.int .u8 v2.k) ∧ w'.cell? ⟨b', o' + k * 10 + 1, none⟩ = some (.int .u8 v2.op) ∧ w'.cell? ⟨b', o' + k * 10 + 2, none⟩ = some (.int .u8 v2.tk) ∧ w'.cell? ⟨b', o' + k * 10 + 3, none⟩ = some (.int .u8 v2.ti) ∧ w'.cell? ⟨b', o' + k * 10 + 4, none⟩ = some (.int .i64 v2.tn) ∧ w'.cell? ⟨b', o' + k * 10 + 5, none⟩ = some (.int .i64 v2.n) ∧ w'.cell? ⟨b', o' + k * 10 + 6, none⟩ = some (.int .i64 v2.m) ∧ w'.cell? ⟨b', o' + k * 10 + 7, none⟩ = some (.string v2.nm) ∧ w'.cell? ⟨b', o' + k * 10 + 8, none⟩ = some (.string v2.fd) ∧ w'.cell? ⟨b', o' + k * 10 + 9, none⟩ = some ((.slice la ls.len lc)))) := fun X hX => by
              have hX' := (boxed2_q _ _ _ _ _).trans hX
              refine (HIH.out ks (by omega) ls v1 v2 ka la kc lc X (hin1.keep (Nat.le_refl _) hX') hs1 (hin2.keep (Nat.le_refl _) hX') hs2).mono fun e w' ⟨h1, h2⟩ => ⟨h1, ?_⟩
              have hq' := hX.trans h2
              have hq2 := hX'.trans h2
              exact ⟨hq', boxed2_a hq' 9 _ rfl, boxed2_b hq' 9 _ rfl, (ten2 hat1 hq2).cell 0 _ rfl, (ten2 hat1 hq2).cell 1 _ rfl, (ten2 hat1 hq2).cell 2 _ rfl, (ten2 hat1 hq2).cell 3 _ rfl, (ten2 hat1 hq2).cell 4 _ rfl, (ten2 hat1 hq2).cell 5 _ rfl, (ten2 hat1 hq2).cell 6 _ rfl, (ten2 hat1 hq2).cell 7 _ rfl, (ten2 hat1 hq2).cell 8 _ rfl, (ten2 hat1 hq2).cell 9 _ rfl, (ten2 hat2 hq2).ten⟩
            obtain ⟨c0, c1, c2, c3, c4, c5, c6, c7, c8, c9⟩ := (ten2 hat1 ((boxed2_q _ _ _ _ _).trans hq)).ten
            obtain ⟨f0, f1, f2, f3, f4, f5, f6, f7, f8, f9⟩ := (ten2 hat2 ((boxed2_q _ _ _ _ _).trans hq)).ten
            have hqd : Q (boxed2 w x (.slice (some ⟨b, o, none⟩) f.len c) y (.slice (some ⟨b', o', none⟩) g.len c')) wr.drew := Below.drew hq
            clear e1 e2 hat1 hat2 hv1 hv2 hs1 hs2 hin1 hin2 hsz HE HB
            generalize (eqN v1 v2 && ks.same ls) = bb at HC HE2
            go_wp2_with (fail)
            go_region_held3 (fun w' => Q (boxed2 w x (.slice (some ⟨b, o, none⟩) f.len c) y (.slice (some ⟨b', o', none⟩) g.len c')) w' ∧ w'.cell? ⟨w.heap.size, 9, none⟩ = some (.slice (some ⟨b, o, none⟩) f.len c) ∧ w'.cell? ⟨w.heap.size + 1, 9, none⟩ = some (.slice (some ⟨b', o', none⟩) g.len c') ∧ w'.cell? ⟨b, o + k * 10, none⟩ = some (.int .u8 v1.k) ∧ w'.cell? ⟨b, o + k * 10 + 1, none⟩ = some (.int .u8 v1.op) ∧ w'.cell? ⟨b, o + k * 10 + 2, none⟩ = some (.int .u8 v1.tk) ∧ w'.cell? ⟨b, o + k * 10 + 3, none⟩ = some (.int .u8 v1.ti) ∧ w'.cell? ⟨b, o + k * 10 + 4, none⟩ = some (.int .i64 v1.tn) ∧ w'.cell? ⟨b, o + k * 10 + 5, none⟩ = some (.int .i64 v1.n) ∧ w'.cell? ⟨b, o + k * 10 + 6, none⟩ = some (.int .i64 v1.m) ∧ w'.cell? ⟨b, o + k * 10 + 7, none⟩ = some (.string v1.nm) ∧ w'.cell? ⟨b, o + k * 10 + 8, none⟩ = some (.string v1.fd) ∧ w'.cell? ⟨b, o + k * 10 + 9, none⟩ = some ((.slice ka ks.len kc)) ∧ w'.cell? ⟨b', o' + k * 10, none⟩ = some (.int .u8 v2.k) ∧ w'.cell? ⟨b', o' + k * 10 + 1, none⟩ = some (.int .u8 v2.op) ∧ w'.cell? ⟨b', o' + k * 10 + 2, none⟩ = some (.int .u8 v2.tk) ∧ w'.cell? ⟨b', o' + k * 10 + 3, none⟩ = some (.int .u8 v2.ti) ∧ w'.cell? ⟨b', o' + k * 10 + 4, none⟩ = some (.int .i64 v2.tn) ∧ w'.cell? ⟨b', o' + k * 10 + 5, none⟩ = some (.int .i64 v2.n) ∧ w'.cell? ⟨b', o' + k * 10 + 6, none⟩ = some (.int .i64 v2.m) ∧ w'.cell? ⟨b', o' + k * 10 + 7, none⟩ = some (.string v2.nm) ∧ w'.cell? ⟨b', o' + k * 10 + 8, none⟩ = some (.string v2.fd) ∧ w'.cell? ⟨b', o' + k * 10 + 9, none⟩ = some ((.slice la ls.len lc))) (go_keep) (first | (go_at_call 21; refine (HC.out _ (by assumption)).mono ?_; rintro e z ⟨rfl, s0, s1, s2, s3, s4, s5, s6, s7, s8, s9, s10, s11, s12, s13, s14, s15, s16, s17, s18, s19, s20, s21, s22⟩))
            cases bb with
            | false =>
              go_wp2_with (fail)
              go_ret
              have h5 := HE2.out
              rw [Bool.false_and] at h5
              rw [h5]
              exact ⟨rfl, (boxed2_q _ _ _ _ _).trans (by assumption)⟩
            | true =>
              go_wp2_with (fail)
              go_roundw
              case rel =>
                refine ⟨k + 1, by go_num, by omega, ?_, by assumption⟩
                have h5 := HE2.out
                rw [Bool.true_and] at h5
                exact h5
              case measure => simp [intOf]; omega
          · have ek : k = f.len := by omega
            go_wp2_with (fail)
            go_ret
            have h5 := HE.out
            have h6 := HL.out
            rw [ek, Fo.drop_all, h6, Fo.drop_all] at h5
            rw [h5]
            exact ⟨rfl, (boxed2_q _ _ _ _ _).trans hq⟩
      · rw [Fo.same_len hl]
        have hld : (((f.len : Nat) : Int) != ((g.len : Nat) : Int)) = true := by simp; omega
        go_enter Try.func21, Try.ntmps21
        go_wp2_with (go_at_call 40; refine HB.out.mono ?_; rintro e z ⟨rfl, q1⟩; have d9 := boxed2_a q1 9 _ rfl; have e9 := boxed2_b q1 9 _ rfl; have HQ := hideIt q1; clear q1)
        go_ret
        exact ⟨rfl, (boxed2_q _ _ _ _ _).trans HQ.out⟩
end Go.Proofs.Ytioeoillogpdoaa
