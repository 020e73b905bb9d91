/-
  Whether code is right, by layer 13: contracts over the program.
-/
import Derived.Test.YtiiggldapncknaaIrM
namespace Go.Proofs.Ytiiggldapncknaa
open Go.RowKit
set_option linter.unusedVariables false

/-- The functions from k on are right. -/
def fnsP (c : PC) : Nat → List PF → Bool
  | _, [] => true
  | k, f :: r => fnP c k f && fnsP c (k + 1) r
def lastP (c : PC) : Bool := match c.fns[c.fns.length - 1]? with | some f => f.params == 0 | none => false
def hdP (c : PC) : Bool := lastP c && (decide (c.ini.length = c.gl.length) && roomL 65536 c.gl)
def rightP (c : PC) : Bool := hdP c && fnsP c 0 c.fns
theorem fnsP_drop {c : PC} {k : Nat} {f : PF} (h : c.fns[k]? = some f) : fnsP c k (c.fns.drop k) = (fnP c k f && fnsP c (k + 1) (c.fns.drop (k + 1))) := by
  obtain ⟨hk, e⟩ := List.getElem?_eq_some_iff.1 h
  rw [List.drop_eq_getElem_cons hk, e]
  rfl

set_option maxRecDepth 100000 in
set_option maxHeartbeats 1000000 in
theorem right_any (w : World) (cb co : Nat) (c : PC) (hc : At w cb co c.cells) (hcok : c.ok w) :
    Calls Try.prog 21 #[.pointer (some ⟨cb, co, none⟩)] w fun e w' => e = .returned (.bool (rightP c)) ∧ Q w w' := by
  obtain ⟨c0, c1, c2⟩ := hc.three
  have hlen : c.fns.length ≤ 9223372036854775807 := hcok.fsok.len
  have CF : Hid (∀ X, Q w X → ∀ (k : Nat) (f : PF), c.fns[k]? = some f → Calls Try.prog 35 #[.pointer (some ⟨cb, co, none⟩), .int .i64 (k : Int)] X fun e w' => e = .returned (.bool (fnP c k f)) ∧ Q X w') := fun X h k f hk => function_any X cb co k c f (hc.keep h) (hcok.keep h) hk
  have CR := hideIt (fun n => room_any (w.drewN n) c.ga c.gc c.gl hcok.gsok (hcok.gl.keep ((Q.refl w).drewN n)))
  unfold rightP hdP
  by_cases h0 : c.fns.length = 0
  · have e : lastP c = false := by
      unfold lastP
      rw [List.getElem?_eq_none (by omega)]
    rw [e]
    clear e CF CR hc hcok
    rw [h0] at c2
    go_enter Try.func21, Try.ntmps21
    go_wp2_with (fail)
    go_ret
    exact ⟨rfl, Q.refl _⟩
  have hl : c.fns.length - 1 < c.fns.length := by omega
  obtain ⟨g, hg⟩ := get_of_lt hl
  obtain ⟨fb, fo, efa, hgat⟩ := hcok.fns _ g hg
  obtain ⟨g0, -⟩ := hgat.1.four
  rw [efa] at c2
  have e : lastP c = (g.params == 0) := by unfold lastP; rw [hg]
  rw [e]
  clear e hc hcok efa hg hgat
  obtain ⟨m, hm⟩ : ∃ m, c.fns.length = m + 1 := ⟨c.fns.length - 1, by omega⟩
  rw [hm] at c2 hlen g0
  have HM := hideIt hm
  clear hl hm h0
  simp only [Nat.add_sub_cancel] at g0
  by_cases h1 : g.params = 0
  · rw [h1] at g0 ⊢
    by_cases h2 : c.ini.length = c.gl.length
    · have e : decide (c.ini.length = c.gl.length) = true := by simpa using h2
      rw [e]
      rw [h2] at c1
      clear e h2 h1
      cases h3 : roomL 65536 c.gl <;> rw [h3] at CR
      · clear CF
        go_enter Try.func21, Try.ntmps21
        go_wp2_with (fail)
        go_quiet (first | (go_at_call 34; exact Calls.quiet_of_same (CR.out _)) | fail)
        go_wp2
        go_ret
        exact ⟨rfl, (Q.refl w).drewN _⟩
      · have e : (((0 : Int) == 0) && (true && true) && fnsP c 0 c.fns) = fnsP c 0 c.fns := by simp
        rw [e]
        clear e
        go_enter Try.func21, Try.ntmps21
        go_wp2_with (fail)
        go_quiet (first | (go_at_call 34; exact Calls.quiet_of_same (CR.out _)) | fail)
        go_wp2
        have hW : Q w (w.drewN nq) := (Q.refl w).drewN nq
        go_loopw [4, 48] (fun d i wr => ∃ (k : Nat), i = .int .i64 k ∧ k ≤ c.fns.length ∧ fnsP c 0 c.fns = fnsP c k (c.fns.drop k) ∧ Q w wr) (fun _ i _ => c.fns.length - (intOf i).toNat)
        case atStart => exact ⟨0, rfl, by omega, by simp, hW⟩
        case round =>
          obtain ⟨k, rfl, hk, r3, hq⟩ := hrel
          have HR := hideIt r3
          have HQ := hideIt hq
          clear r3 hq hW c0 c1 c2 g0
          have hm := HM.out
          by_cases hlt : k < m + 1
          · obtain ⟨f, hf⟩ := get_of_lt (l := c.fns) (k := k) (by omega)
            have hkl : (k : Int) < ((m + 1 : Nat) : Int) := by omega
            have CF1 := hideIt (CF.out wr HQ.out k f hf)
            have HS := hideIt (fnsP_drop hf)
            clear hf
            have hm' : c.fns.length - k = m + 1 - k := by omega
            clear hm
            cases hfp : fnP c k f <;> rw [hfp] at CF1
            · go_wp2_with (first | (go_at_call 35; refine CF1.out.mono ?_; rintro e x2 ⟨rfl, q2⟩; have H2 := hideIt q2; clear q2) | fail)
              go_ret
              refine ⟨?_, HQ.out.trans H2.out⟩
              rw [HR.out, HS.out, hfp]
              rfl
            · go_wp2_with (first | (go_at_call 35; refine CF1.out.mono ?_; rintro e x2 ⟨rfl, q2⟩; have H2 := hideIt q2; clear q2) | fail)
              go_roundw
              case rel =>
                refine ⟨k + 1, by go_num, by have := HM.out; omega, ?_, HQ.out.trans H2.out⟩
                rw [HR.out, HS.out, hfp, Bool.true_and]
              case measure => have := HM.out; simp [intOf]; omega
          · have ek : k = m + 1 := by omega
            clear hm
            go_wp2_with (fail)
            go_ret
            refine ⟨?_, HQ.out⟩
            rw [HR.out, ek, ← HM.out, List.drop_length]
            rfl
    · have e : decide (c.ini.length = c.gl.length) = false := by simpa using h2
      rw [e]
      have h2' : ((c.ini.length : Int) = (c.gl.length : Int)) = False := eq_false (by omega)
      clear e CF CR
      go_enter Try.func21, Try.ntmps21
      go_wp2_with (fail)
      go_quiet (fail)
      go_wp2
      go_ret
      exact ⟨rfl, (Q.refl w).drewN _⟩
  · have e : (g.params == 0) = false := by simpa using h1
    have e' : (g.params != 0) = true := by simpa using h1
    rw [e]
    clear e CF CR
    go_enter Try.func21, Try.ntmps21
    go_wp2_with (fail)
    go_ret
    exact ⟨rfl, Q.refl _⟩

def validP (c : PC) : Int := if 60000 < IntKind.i64.wrap (codeN c) then 11 else if rightP c then 0 else 3

set_option maxRecDepth 100000 in
theorem valid_any (w : World) (c : PC) (hcok : c.ok w) : Calls Try.prog 8 #[c.v] w fun e w' => e = .returned (.int .i64 (validP c)) ∧ Q w w' := by
  have HC := hideIt (fun X (h : Q (bxC w c) X) => (bxC_at h).three)
  have CC := hideIt (count_any (bxC w c) c (hcok.keep (bxC_q w c)))
  have CR : Hid (∀ X, Q (bxC w c) X → Calls Try.prog 21 #[.pointer (some ⟨w.heap.size, 0, none⟩)] X fun e w' => e = .returned (.bool (rightP c)) ∧ Q X w') := fun X h => right_any X w.heap.size 0 c (bxC_at h) (hcok.keep ((bxC_q w c).trans h))
  clear hcok
  unfold validP
  generalize IntKind.i64.wrap (codeN c) = n at *
  by_cases h1 : 60000 < n
  · rw [if_pos h1]
    have e : decide (60000 < n) = true := by simpa using h1
    clear CR
    go_enter Try.func8, Try.ntmps8
    go_wp2_with (first | (go_at_call 10; refine CC.out.mono ?_; rintro e x1 ⟨rfl, q1⟩; have H1 := hideIt q1; clear q1) | fail)
    go_ret
    exact ⟨rfl, (bxC_q w c).trans H1.out⟩
  · rw [if_neg h1]
    have e : decide (60000 < n) = false := by simpa using h1
    cases hr : rightP c <;> rw [hr] at CR <;>
    · go_enter Try.func8, Try.ntmps8
      go_wp2_with (first | (go_at_call 10; refine CC.out.mono ?_; rintro e x1 ⟨rfl, q1⟩; have H1 := hideIt q1; clear q1) | (go_at_call 21; refine (CR.out _ H1.out).mono ?_; rintro e x2 ⟨rfl, q2⟩; have H2 := hideIt q2; clear q2) | fail)
      go_ret
      exact ⟨rfl, (bxC_q w c).trans (H1.out.trans H2.out)⟩

end Go.Proofs.Ytiiggldapncknaa
