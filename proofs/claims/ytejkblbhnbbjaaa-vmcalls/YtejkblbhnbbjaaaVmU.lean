/-
  The machine: can a program be run, the machine's making: contracts over the program; the conditions: the program lies in memory.
-/
import Derived.Test.YtejkblbhnbbjaaaVmT
namespace Go.Proofs.Ytejkblbhnbbjaaa
open Go.RowKit
set_option linter.unusedVariables false

theorem allP_drop {n : Nat} {l m : List Int} {k : Nat} {s f : Int} (hs : l[k]? = some s) (hf : m[k]? = some f) : allP n (l.drop k) (m.drop k) = (oneP n s f && allP n (l.drop (k + 1)) (m.drop (k + 1))) := by
  obtain ⟨h1, e1⟩ := List.getElem?_eq_some_iff.1 hs
  obtain ⟨h2, e2⟩ := List.getElem?_eq_some_iff.1 hf
  rw [List.drop_eq_getElem_cons h1, List.drop_eq_getElem_cons h2, e1, e2, allP]

section
variable {w w' w0 : World} {R : Nat} {col col' : Col} {im : PIm}
abbrev bxI (w : World) (im : PIm) : World := w.alloc (.cells #[.slice im.wa im.ws.length im.wc, .slice im.sa im.st.length im.sc, .slice im.fa im.fr.length im.fc, .slice im.ea im.da.length im.ec] 26)
theorem bxI_at {X : World} (h : Q (bxI w im) X) : X.cell? ⟨w.heap.size, 0, none⟩ = some (.slice im.wa im.ws.length im.wc) ∧ X.cell? ⟨w.heap.size, 1, none⟩ = some (.slice im.sa im.st.length im.sc) ∧ X.cell? ⟨w.heap.size, 2, none⟩ = some (.slice im.fa im.fr.length im.fc) ∧ X.cell? ⟨w.heap.size, 3, none⟩ = some (.slice im.ea im.da.length im.ec) := by
  have b := (h.block w.heap.size (by simp)).trans (heap_new w _)
  exact ⟨cell_of_block b 0, cell_of_block b 1, cell_of_block b 2, cell_of_block b 3⟩

set_option maxRecDepth 100000 in
set_option maxHeartbeats 2000000 in
theorem form_any (w : World) (hok : im.ok w) : Calls Try.prog 14 #[im.v] w fun e w' => e = .returned (.bool (formP im)) ∧ Q w w' := by
  have hq : Q w (bxI w im) := (Q.refl w).alloc _
  obtain ⟨c0, c1, c2, c3⟩ := bxI_at (im := im) (Q.refl (bxI w im))
  have l0 := hok.wsok.len
  have l1 := hok.ssok.len
  have l2 := hok.fsok.len
  have l3 := hok.dsok.len
  by_cases h1 : im.st.length = 0
  · have hd : ((im.st.length : Int) == 0) = true := by rw [beq_iff_eq]; omega
    have e : formP im = false := by simp [formP, h1]
    rw [e]
    clear h1 e hok
    go_enter Try.func14, Try.ntmps14
    go_wp2_with (fail)
    go_ret
    exact ⟨rfl, hq⟩
  have hd1 : ((im.st.length : Int) == 0) = false := by rw [beq_eq_false_iff_ne]; omega
  by_cases h2 : im.fr.length = im.st.length
  case neg =>
    have hd : ((im.fr.length : Int) != (im.st.length : Int)) = true := by rw [bne_iff_ne]; omega
    have e : formP im = false := by simp [formP, h2]
    rw [e]
    clear h1 h2 e hok
    go_enter Try.func14, Try.ntmps14
    go_wp2_with (fail)
    go_ret
    exact ⟨rfl, hq⟩
  have hd2 : ((im.fr.length : Int) != (im.st.length : Int)) = false := by rw [bne_eq_false_iff_eq]; omega
  by_cases h3 : im.ws.length ≤ 240000
  case neg =>
    have hd : decide (240000 < (im.ws.length : Int)) = true := by simp; omega
    have e : formP im = false := by simp [formP, h3]
    rw [e]
    clear h1 h2 h3 e hok
    go_enter Try.func14, Try.ntmps14
    go_wp2_with (fail)
    go_ret
    exact ⟨rfl, hq⟩
  have hd3 : decide (240000 < (im.ws.length : Int)) = false := by simp; omega
  by_cases h4 : im.da.length ≤ 65536
  case neg =>
    have hd : decide (65536 < (im.da.length : Int)) = true := by simp; omega
    have e : formP im = false := by simp [formP, h4]
    rw [e]
    clear h1 h2 h3 h4 e hok
    go_enter Try.func14, Try.ntmps14
    go_wp2_with (fail)
    go_ret
    exact ⟨rfl, hq⟩
  have hd4 : decide (65536 < (im.da.length : Int)) = false := by simp; omega
  have e : formP im = allP im.ws.length im.st im.fr := by simp [formP, h1, h2, h3, h4]
  rw [e]
  clear e
  generalize hRR : allP im.ws.length im.st im.fr = RR
  have HRR := hideIt hRR
  obtain ⟨s0, hs0⟩ := get_of_lt (l := im.st) (k := 0) (by omega)
  obtain ⟨f0, hf0⟩ := get_of_lt (l := im.fr) (k := 0) (by omega)
  obtain ⟨sb, so, es, -⟩ := Ints.at hok.st hs0
  obtain ⟨fb, fo', ef, -⟩ := Ints.at hok.fr hf0
  have HS := hideIt (show ∀ (k : Nat) (x : Int), im.st[k]? = some x → (bxI w im).cell? ⟨sb, so + k, none⟩ = some (.int .i64 x) from fun k x hx => by
    obtain ⟨b, o, e, c⟩ := Ints.at hok.st hx
    rw [es] at e
    injection e with e
    injection e with e1 e2
    subst e1; subst e2
    exact cell_keep hq c)
  have HF := hideIt (show ∀ (k : Nat) (x : Int), im.fr[k]? = some x → (bxI w im).cell? ⟨fb, fo' + k, none⟩ = some (.int .i64 x) from fun k x hx => by
    obtain ⟨b, o, e, c⟩ := Ints.at hok.fr hx
    rw [ef] at e
    injection e with e
    injection e with e1 e2
    subst e1; subst e2
    exact cell_keep hq c)
  have HL := hideIt (And.intro h1 (And.intro h2 h3))
  have HQ := hideIt hq
  clear hRR h1 h2 h3 h4 hok hs0 hf0 hq
  obtain ⟨ws, st, fr, da, wa, wc, sa, sc, fa, fc, ea, ec⟩ := im
  dsimp only at *
  subst es; subst ef
  go_enter Try.func14, Try.ntmps14
  go_wp2_with (fail)
  go_loopw [3, 4, 5, 32] (fun _ _ _ iv z => ∃ i : Nat, iv = .int .i64 i ∧ i ≤ st.length ∧ z = bxI w ⟨ws, st, fr, da, wa, wc, some ⟨sb, so, none⟩, sc, some ⟨fb, fo', none⟩, fc, ea, ec⟩ ∧ allP ws.length (st.drop i) (fr.drop i) = RR) (fun _ _ _ iv _ => st.length - (intOf iv).toNat)
  case atStart => exact ⟨0, rfl, Nat.zero_le _, rfl, HRR.out⟩
  case round =>
    obtain ⟨i, rfl, hi, rfl, hr⟩ := hrel
    have HR := hideIt hr
    clear hr
    by_cases hlt : i < st.length
    · have hlf : i < fr.length := by have := HL.out.2.1; omega
      obtain ⟨s, hs⟩ := get_of_lt hlt
      obtain ⟨f, hf⟩ := get_of_lt hlf
      have HST := hideIt (allP_drop (n := ws.length) hs hf)
      have cs := HS.out i s hs
      have cf := HF.out i f hf
      have hil : (i : Int) < (st.length : Int) := by omega
      have hif : (i : Int) < (fr.length : Int) := by omega
      clear hs hf hlf
      have BAD := hideIt (show oneP ws.length s f = false → RR = false from fun q => by rw [← HR.out, HST.out, q]; rfl)
      by_cases q1 : s < 0
      · have p1 : decide (s < 0) = true := by simpa using q1
        have := BAD.out (by unfold oneP; simp; omega)
        subst this
        go_wp2_with (fail)
        go_ret
        exact ⟨rfl, HQ.out⟩
      have p1 : decide (s < 0) = false := by simpa using q1
      by_cases q2 : (ws.length : Int) ≤ s
      · have p2 : decide ((ws.length : Int) ≤ s) = true := by simpa using q2
        have := BAD.out (by unfold oneP; simp; omega)
        subst this
        go_wp2_with (fail)
        go_ret
        exact ⟨rfl, HQ.out⟩
      have p2 : decide ((ws.length : Int) ≤ s) = false := by simpa using q2
      by_cases q3 : f < 0
      · have p3 : decide (f < 0) = true := by simpa using q3
        have := BAD.out (by unfold oneP; simp; omega)
        subst this
        go_wp2_with (fail)
        go_ret
        exact ⟨rfl, HQ.out⟩
      have p3 : decide (f < 0) = false := by simpa using q3
      by_cases q4 : 65536 < f
      · have p4 : decide (65536 < f) = true := by simpa using q4
        have := BAD.out (by unfold oneP; simp; omega)
        subst this
        go_wp2_with (fail)
        go_ret
        exact ⟨rfl, HQ.out⟩
      have p4 : decide (65536 < f) = false := by simpa using q4
      have zi : IntKind.i64.wrap ((i : Int) + 1) = (i : Int) + 1 := by rw [IntKind.wrap_i64]; omega
      have GOOD := hideIt (show allP ws.length (st.drop (i + 1)) (fr.drop (i + 1)) = RR by rw [← HR.out, HST.out, show oneP ws.length s f = true by unfold oneP; simp; omega, Bool.true_and])
      go_wp2_with (fail)
      go_roundw
      case rel => exact ⟨i + 1, by go_num, by omega, by first | trivial | rfl, GOOD.out⟩
      case measure => simp [intOf]; omega
    · have hil : ¬ (i : Int) < (st.length : Int) := by omega
      have hfin : RR = true := by rw [← HR.out, List.drop_eq_nil_of_le (by omega)]; rfl
      subst hfin
      go_wp2_with (fail)
      go_ret
      exact ⟨rfl, HQ.out⟩
end
end Go.Proofs.Ytejkblbhnbbjaaa
