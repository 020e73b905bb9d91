/-
  When the program tells two trees for the same: contracts over the program; the conditions: the arguments are trees that lie in memory.
-/
import Derived.Test.YtioeoillogpdoaaSameA
namespace Go.Proofs.Ytioeoillogpdoaa
open Go.RowKit
set_option linter.unusedVariables false

theorem drew_add (w : World) (a b : Nat) : (w.drewN a).drewN b = w.drewN (a + b) := by
  simp [World.drewN, Nat.add_assoc]
theorem At.drewN {w : World} {b o : Nat} {cs : List Value} (h : At w b o cs) (n : Nat) : At (w.drewN n) b o cs := h
theorem In.drewN {w : World} (n : Nat) : ∀ {a : Option Addr} {f : Fo}, In w a f → In (w.drewN n) a f := by
  intro a f
  induction f generalizing a with
  | nil => intro _; trivial
  | cons v ka kc k r ihk ihr =>
    rintro ⟨b, o, e, h1, h2, h3, h4, h5⟩
    exact ⟨b, o, e, h1.drewN n, h2, h3, ihk h4, ihr h5⟩

set_option maxRecDepth 100000 in
set_option maxHeartbeats 4000000 in
/-- Two nodes that are alike but for their kids. -/
theorem same_yes (x y : NF) (b o b' o' : Nat) (f g : Fo) (a a' : Option Addr) (c c' : Nat) (w : World) (hx : At w b o (cellsN x (.slice a f.len c))) (hy : At w b' o' (cellsN y (.slice a' g.len c'))) (hin : In w a f) (hin' : In w a' g) (hs : sok a f.len c) (hs' : sok a' g.len c')
    (ih : ∀ ks, ks.size < f.size → ∀ (ls : Fo) (v1 v2 : NF) (b o b' o' : Nat) (ka la : Option Addr) (kc lc : Nat) (w : World), At w b o (cellsN v1 (.slice ka ks.len kc)) → At w b' o' (cellsN v2 (.slice la ls.len lc)) → In w ka ks → In w la ls → sok ka ks.len kc → sok la ls.len lc →
      Calls Try.prog 46 #[.pointer (some ⟨b, o, none⟩), .pointer (some ⟨b', o', none⟩)] w fun e w' => e = .returned (.bool (eqN v1 v2 && ks.same ls)) ∧ ∃ n, w' = w.drewN n)
    (h0 : (x.k != y.k) = false) (h1 : (x.op != y.op) = false) (h2 : (x.tk == y.tk) = true) (h3 : (x.ti == y.ti) = true) (h4 : (x.tn == y.tn) = true) (h5 : (x.n != y.n) = false) (h6 : (x.m != y.m) = false) (h7 : (x.nm.toList == y.nm.toList) = true) (h8 : (x.fd.toList == y.fd.toList) = true) :
    Calls Try.prog 46 #[.pointer (some ⟨b, o, none⟩), .pointer (some ⟨b', o', none⟩)] w fun e w' => e = .returned (.bool (f.same g)) ∧ ∃ n, w' = w.drewN n := by
  obtain ⟨c0, c1, c2, c3, c4, c5, c6, c7, c8, c9⟩ := hx.ten
  obtain ⟨f0, f1, f2, f3, f4, f5, f6, f7, f8, f9⟩ := hy.ten
  have HIN := hideIt hin
  have HIN' := hideIt hin'
  have HIH := hideIt ih
  have hlen : f.len ≤ 9223372036854775807 := by have := hs.1; have := hs.2.1; unfold maxLen at this; omega
  have hlen' : g.len ≤ 9223372036854775807 := by have := hs'.1; have := hs'.2.1; unfold maxLen at this; omega
  clear hx hy hin hin' hs hs' ih
  by_cases hl : f.len = g.len
  · have hld : (((f.len : Nat) : Int) != ((g.len : Nat) : Int)) = false := by rw [hl]; simp
    have HL := hideIt hl
    clear hl
    go_enter Try.func46, Try.ntmps46
    go_wp2_with (fail)
    simp only [List.append]
    go_quiet (fail)
    clear h0 h1 h2 h3 h4 h5 h6 h7 h8 c0 c1 c2 c3 c4 c5 c6 c7 c8 f0 f1 f2 f3 f4 f5 f6 f7 f8
    go_wp2_with (fail)
    go_quiet (fail)
    go_wp2_with (fail)
    go_loopw [97] (fun i wr => ∃ k n : Nat, i = .int .i64 k ∧ k ≤ f.len ∧ f.same g = (f.drop k).same (g.drop k) ∧ wr = w.drewN n) (fun i _ => f.len - (intOf i).toNat)
    case atStart => exact ⟨0, _, rfl, by omega, by simp [Fo.drop], rfl⟩
    case round =>
      obtain ⟨k, n, rfl, hk, he, hwr⟩ := hrel
      have HE := hideIt he
      have HW := hideIt hwr
      have d9 : wr.cell? ⟨b, o + 9, none⟩ = some (.slice a f.len c) := by rw [hwr]; exact c9
      have e9 : wr.cell? ⟨b', o' + 9, none⟩ = some (.slice a' g.len c') := by rw [hwr]; exact f9
      clear he hwr c9 f9
      by_cases hlt : k < f.len
      · have hlt' : k < g.len := by have := HL.out; omega
        obtain ⟨bk, ok, v1, ka, kc, ks, rfl, e1, hat1, hv1, hs1, hin1⟩ := HIN.out.elem k hlt
        obtain ⟨bl, ol, v2, la, lc, ls, rfl, e2, hat2, hv2, hs2, hin2⟩ := HIN'.out.elem k hlt'
        have hkl : (k : Int) < (f.len : Int) := by omega
        have hkl' : (k : Int) < (g.len : Int) := by omega
        have hsz : (f.drop k).size = ks.size + 1 + (f.drop (k + 1)).size := by rw [e1]; rfl
        have hle := f.size_drop k
        have HE2 : Hid (f.same g = ((eqN v1 v2 && ks.same ls) && (f.drop (k + 1)).same (g.drop (k + 1)))) := by
          have := HE.out
          rw [e1, e2] at this
          exact this
        have HC : Hid (∀ m, Calls Try.prog 46 #[.pointer (some ⟨bk, ok + k * 10, none⟩), .pointer (some ⟨bl, ol + k * 10, none⟩)] (wr.drewN m) fun e w' => e = .returned (.bool (eqN v1 v2 && ks.same ls)) ∧ ∃ n, w' = (wr.drewN m).drewN n) := fun m => by
          rw [HW.out, drew_add]
          exact HIH.out ks (by omega) ls v1 v2 bk (ok + k * 10) bl (ol + k * 10) ka la kc lc (w.drewN (n + m)) (hat1.drewN _) (hat2.drewN _) (hin1.drewN _) (hin2.drewN _) hs1 hs2
        clear e1 e2 hat1 hat2 hv1 hv2 hs1 hs2 hin1 hin2 hsz HE hlt hlt'
        obtain ⟨bb, hbb⟩ : ∃ bb, (eqN v1 v2 && ks.same ls) = bb := ⟨_, rfl⟩
        rw [hbb] at HC HE2
        clear hbb
        cases bb with
        | false =>
          go_wp2_with (fail)
          go_quiet ((go_at_call 46; exact Calls.quiet_of (HC.out _)))
          go_wp2_with (fail)
          go_ret
          have h5 := HE2.out
          rw [Bool.false_and] at h5
          rw [h5]
          refine ⟨rfl, n + nq, ?_⟩
          rw [HW.out]
          exact drew_add w n nq
        | true =>
          go_wp2_with (fail)
          go_quiet ((go_at_call 46; exact Calls.quiet_of (HC.out _)))
          go_wp2_with (fail)
          go_roundw
          case rel =>
            refine ⟨k + 1, n + nq, by go_num, by omega, ?_, by rw [HW.out]; exact drew_add w n nq⟩
            have h5 := HE2.out
            rw [Bool.true_and] at h5
            exact h5
          case measure => simp [intOf]; omega
      · have ek : k = f.len := by omega
        go_wp2_with (fail)
        go_ret
        have h5 := HE.out
        have h6 := HL.out
        rw [ek, Fo.drop_all, h6, Fo.drop_all] at h5
        rw [h5]
        exact ⟨rfl, _, HW.out⟩
  · rw [Fo.same_len hl]
    have hld : (((f.len : Nat) : Int) != ((g.len : Nat) : Int)) = true := by simp; omega
    go_enter Try.func46, Try.ntmps46
    go_wp2_with (fail)
    simp only [List.append]
    go_quiet (fail)
    clear h0 h1 h2 h3 h4 h5 h6 h7 h8 c0 c1 c2 c3 c4 c5 c6 c7 c8 f0 f1 f2 f3 f4 f5 f6 f7 f8
    go_wp2_with (fail)
    go_quiet (fail)
    go_wp2_with (fail)
    go_ret
    exact ⟨rfl, _, drew_add _ _ _⟩
end Go.Proofs.Ytioeoillogpdoaa
