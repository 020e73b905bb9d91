/-
  The machine: can a program be run, the machine's making: contracts over the program; the conditions: the program lies in memory.
  The machine: it is made: a contract over the program; the conditions: the program lies in memory.
  Run of layer 25: contracts over the program; the conditions: the program lies in memory.
-/
import Derived.Test.YtnlgkiejppgfjaaKVmT
import Derived.Lib.SliceRun
namespace Go.Proofs.Ytnlgkiejppgfjaa
open Go.RowKit
set_option linter.unusedVariables false

theorem allP_drop {n : Nat} {l m : List Int} {k : Nat} {s f : Int} (hs : l[k]? = some s) (hf : m[k]? = some f) : allP n (l.drop k) (m.drop k) = (oneP n s f && allP n (l.drop (k + 1)) (m.drop (k + 1))) := by
  obtain ⟨h1, e1⟩ := List.getElem?_eq_some_iff.1 hs
  obtain ⟨h2, e2⟩ := List.getElem?_eq_some_iff.1 hf
  rw [List.drop_eq_getElem_cons h1, List.drop_eq_getElem_cons h2, e1, e2, allP]

section
variable {w w' w0 : World} {R : Nat} {col col' : Col} {im : PIm}
abbrev bxI (w : World) (im : PIm) : World := w.alloc (.cells #[.slice im.wa im.ws.length im.wc, .slice im.sa im.st.length im.sc, .slice im.fa im.fr.length im.fc, .slice im.ea im.da.length im.ec] 26)
theorem bxI_at {X : World} (h : Q (bxI w im) X) : X.cell? ⟨w.heap.size, 0, none⟩ = some (.slice im.wa im.ws.length im.wc) ∧ X.cell? ⟨w.heap.size, 1, none⟩ = some (.slice im.sa im.st.length im.sc) ∧ X.cell? ⟨w.heap.size, 2, none⟩ = some (.slice im.fa im.fr.length im.fc) ∧ X.cell? ⟨w.heap.size, 3, none⟩ = some (.slice im.ea im.da.length im.ec) := by
  have b := (h.block w.heap.size (by simp)).trans (heap_new w _)
  exact ⟨cell_of_block b 0, cell_of_block b 1, cell_of_block b 2, cell_of_block b 3⟩

set_option maxRecDepth 100000 in
set_option maxHeartbeats 2000000 in
theorem form_any (w : World) (hok : im.ok w) : Calls Try.prog 14 #[im.v] w fun e w' => e = .returned (.bool (formP im)) ∧ Q w w' := by
  have hq : Q w (bxI w im) := (Q.refl w).alloc _
  obtain ⟨c0, c1, c2, c3⟩ := bxI_at (im := im) (Q.refl (bxI w im))
  have l0 := hok.wsok.len
  have l1 := hok.ssok.len
  have l2 := hok.fsok.len
  have l3 := hok.dsok.len
  by_cases h1 : im.st.length = 0
  · have hd : ((im.st.length : Int) == 0) = true := by rw [beq_iff_eq]; omega
    have e : formP im = false := by simp [formP, h1]
    rw [e]
    clear h1 e hok
    go_enter Try.func14, Try.ntmps14
    go_wp2_with (fail)
    go_ret
    exact ⟨rfl, hq⟩
  have hd1 : ((im.st.length : Int) == 0) = false := by rw [beq_eq_false_iff_ne]; omega
  by_cases h2 : im.fr.length = im.st.length
  case neg =>
    have hd : ((im.fr.length : Int) != (im.st.length : Int)) = true := by rw [bne_iff_ne]; omega
    have e : formP im = false := by simp [formP, h2]
    rw [e]
    clear h1 h2 e hok
    go_enter Try.func14, Try.ntmps14
    go_wp2_with (fail)
    go_ret
    exact ⟨rfl, hq⟩
  have hd2 : ((im.fr.length : Int) != (im.st.length : Int)) = false := by rw [bne_eq_false_iff_eq]; omega
  by_cases h3 : im.ws.length ≤ 240000
  case neg =>
    have hd : decide (240000 < (im.ws.length : Int)) = true := by simp; omega
    have e : formP im = false := by simp [formP, h3]
    rw [e]
    clear h1 h2 h3 e hok
    go_enter Try.func14, Try.ntmps14
    go_wp2_with (fail)
    go_ret
    exact ⟨rfl, hq⟩
  have hd3 : decide (240000 < (im.ws.length : Int)) = false := by simp; omega
  by_cases h4 : im.da.length ≤ 65536
  case neg =>
    have hd : decide (65536 < (im.da.length : Int)) = true := by simp; omega
    have e : formP im = false := by simp [formP, h4]
    rw [e]
    clear h1 h2 h3 h4 e hok
    go_enter Try.func14, Try.ntmps14
    go_wp2_with (fail)
    go_ret
    exact ⟨rfl, hq⟩
  have hd4 : decide (65536 < (im.da.length : Int)) = false := by simp; omega
  have e : formP im = allP im.ws.length im.st im.fr := by simp [formP, h1, h2, h3, h4]
  rw [e]
  clear e
  generalize hRR : allP im.ws.length im.st im.fr = RR
  have HRR := hideIt hRR
  obtain ⟨s0, hs0⟩ := get_of_lt (l := im.st) (k := 0) (by omega)
  obtain ⟨f0, hf0⟩ := get_of_lt (l := im.fr) (k := 0) (by omega)
  obtain ⟨sb, so, es, -⟩ := Ints.at hok.st hs0
  obtain ⟨fb, fo', ef, -⟩ := Ints.at hok.fr hf0
  have HS := hideIt (show ∀ (k : Nat) (x : Int), im.st[k]? = some x → (bxI w im).cell? ⟨sb, so + k, none⟩ = some (.int .i64 x) from fun k x hx => by
    obtain ⟨b, o, e, c⟩ := Ints.at hok.st hx
    rw [es] at e
    injection e with e
    injection e with e1 e2
    subst e1; subst e2
    exact cell_keep hq c)
  have HF := hideIt (show ∀ (k : Nat) (x : Int), im.fr[k]? = some x → (bxI w im).cell? ⟨fb, fo' + k, none⟩ = some (.int .i64 x) from fun k x hx => by
    obtain ⟨b, o, e, c⟩ := Ints.at hok.fr hx
    rw [ef] at e
    injection e with e
    injection e with e1 e2
    subst e1; subst e2
    exact cell_keep hq c)
  have HL := hideIt (And.intro h1 (And.intro h2 h3))
  have HQ := hideIt hq
  clear hRR h1 h2 h3 h4 hok hs0 hf0 hq
  obtain ⟨ws, st, fr, da, wa, wc, sa, sc, fa, fc, ea, ec⟩ := im
  dsimp only at *
  subst es; subst ef
  go_enter Try.func14, Try.ntmps14
  go_wp2_with (fail)
  go_loopw [3, 4, 5, 32] (fun _ _ _ iv z => ∃ i : Nat, iv = .int .i64 i ∧ i ≤ st.length ∧ z = bxI w ⟨ws, st, fr, da, wa, wc, some ⟨sb, so, none⟩, sc, some ⟨fb, fo', none⟩, fc, ea, ec⟩ ∧ allP ws.length (st.drop i) (fr.drop i) = RR) (fun _ _ _ iv _ => st.length - (intOf iv).toNat)
  case atStart => exact ⟨0, rfl, Nat.zero_le _, rfl, HRR.out⟩
  case round =>
    obtain ⟨i, rfl, hi, rfl, hr⟩ := hrel
    have HR := hideIt hr
    clear hr
    by_cases hlt : i < st.length
    · have hlf : i < fr.length := by have := HL.out.2.1; omega
      obtain ⟨s, hs⟩ := get_of_lt hlt
      obtain ⟨f, hf⟩ := get_of_lt hlf
      have HST := hideIt (allP_drop (n := ws.length) hs hf)
      have cs := HS.out i s hs
      have cf := HF.out i f hf
      have hil : (i : Int) < (st.length : Int) := by omega
      have hif : (i : Int) < (fr.length : Int) := by omega
      clear hs hf hlf
      have BAD := hideIt (show oneP ws.length s f = false → RR = false from fun q => by rw [← HR.out, HST.out, q]; rfl)
      by_cases q1 : s < 0
      · have p1 : decide (s < 0) = true := by simpa using q1
        have := BAD.out (by unfold oneP; simp; omega)
        subst this
        go_wp2_with (fail)
        go_ret
        exact ⟨rfl, HQ.out⟩
      have p1 : decide (s < 0) = false := by simpa using q1
      by_cases q2 : (ws.length : Int) ≤ s
      · have p2 : decide ((ws.length : Int) ≤ s) = true := by simpa using q2
        have := BAD.out (by unfold oneP; simp; omega)
        subst this
        go_wp2_with (fail)
        go_ret
        exact ⟨rfl, HQ.out⟩
      have p2 : decide ((ws.length : Int) ≤ s) = false := by simpa using q2
      by_cases q3 : f < 0
      · have p3 : decide (f < 0) = true := by simpa using q3
        have := BAD.out (by unfold oneP; simp; omega)
        subst this
        go_wp2_with (fail)
        go_ret
        exact ⟨rfl, HQ.out⟩
      have p3 : decide (f < 0) = false := by simpa using q3
      by_cases q4 : 65536 < f
      · have p4 : decide (65536 < f) = true := by simpa using q4
        have := BAD.out (by unfold oneP; simp; omega)
        subst this
        go_wp2_with (fail)
        go_ret
        exact ⟨rfl, HQ.out⟩
      have p4 : decide (65536 < f) = false := by simpa using q4
      have zi : IntKind.i64.wrap ((i : Int) + 1) = (i : Int) + 1 := by rw [IntKind.wrap_i64]; omega
      have GOOD := hideIt (show allP ws.length (st.drop (i + 1)) (fr.drop (i + 1)) = RR by rw [← HR.out, HST.out, show oneP ws.length s f = true by unfold oneP; simp; omega, Bool.true_and])
      go_wp2_with (fail)
      go_roundw
      case rel => exact ⟨i + 1, by go_num, by omega, by first | trivial | rfl, GOOD.out⟩
      case measure => simp [intOf]; omega
    · have hil : ¬ (i : Int) < (st.length : Int) := by omega
      have hfin : RR = true := by rw [← HR.out, List.drop_eq_nil_of_le (by omega)]; rfl
      subst hfin
      go_wp2_with (fail)
      go_ret
      exact ⟨rfl, HQ.out⟩
end
end Go.Proofs.Ytnlgkiejppgfjaa

namespace Go.Proofs.Ytnlgkiejppgfjaa
open Go.RowKit
set_option linter.unusedVariables false

section
variable {w w' w0 : World} {R : Nat} {col col' : Col} {im : PIm}

set_option maxRecDepth 100000 in
theorem clone_none (w : World) : Calls Try.prog 28 #[.slice none 0 0] w fun e w' => e = .returned (.slice none 0 0) ∧ w' = w := by
  have hnil := fun wx => Lib.run_eql_slice_nil (P := Try.prog) wx 24 2 none 0 0 0 0 Try.underlying24
  go_enter Try.func28, Try.ntmps28
  go_wp2_with (fail)
  go_ret
  exact ⟨rfl, rfl⟩

set_option maxRecDepth 100000 in
theorem clone_some (w : World) (a : Addr) (c : Nat) (L : List Int) (hL : ∀ j x, L[j]? = some x → w.cell? (a.add j) = some (.int .i64 x)) (hlen : L.length * 8 ≤ 140737488351232) (hlm : L.length ≤ maxLen) :
    Calls Try.prog 28 #[.slice (some a) L.length c] w fun e w' => ∃ v, e = .returned v ∧ w'.ownsRow w.heap.size 2 1 v L.length (rowI L) ∧ Q w w' := by
  obtain ⟨i0, hi9, hz0, hz1, hz2⟩ := info_parts infoI64
  have h0 : (w.alloc (.cells #[] 2)).ownsRow w.heap.size 2 1 (.slice (some ⟨w.heap.size, 0, none⟩) 0 0) 0 [] := ⟨rfl, .inr ⟨w.heap.size, 0, #[], rfl, Nat.le_refl _, heap_new w _, Nat.le_refl _, by decide, rfl, rfl⟩⟩
  have HR := hideIt (run_append_own (P := Try.prog) (w.alloc (.cells #[] 2)) w.heap.size 24 24 2 i0 (.int .i64 0) 1 8 Try.underlying24 hi9 hz0 hz1 hz2 rfl (by decide) (.slice (some ⟨w.heap.size, 0, none⟩) 0 0) 0 [] h0 a L.length c (rowI L) (by rw [rowI_len, Nat.mul_one]) (fun j u hu => by
    rw [rowI_at] at hu
    cases hx : L[j]? with
    | none => rw [hx] at hu; cases hu
    | some x =>
      rw [hx] at hu
      obtain rfl := Option.some.inj hu
      exact cell_keep ((Q.refl w).alloc _) (hL j x hx)) (fun u hu => by unfold rowI at hu; obtain ⟨_, _, rfl⟩ := List.mem_map.1 hu; rfl) (by omega) (by omega) (by simp))
  have hnil := fun wx => Lib.run_eql_slice_nil (P := Try.prog) wx 24 2 (some a) L.length c 0 0 Try.underlying24
  clear hi9 hz0 hz1 hz2 h0 hL
  go_enter Try.func28, Try.ntmps28
  go_wp2_with (first | (at_builtin; obtain ⟨v', w', hr, h2, h3, -⟩ := HR.out; have H2 := hideIt (And.intro h2 h3); refine wpList_append_run (by rfl) (.tmp 5) (.tmp 6) 24 24 (by rfl) _ _ (by rfl) (by rfl) _ _ hr ?_; clear hr h2 h3) | fail)
  go_ret
  refine ⟨v', rfl, ?_, ?_⟩
  · have := H2.out.1; rw [Nat.zero_add, List.nil_append] at this; exact this
  · have h3 := H2.out.2
    exact ⟨h3.os, h3.tape, h3.output, by have := h3.size; simp at this; omega, fun b hb => (h3.block b (by simp; omega) (fun e => by simp [Value.ownBlock] at e; omega)).trans (Below.heap_alloc w _ b hb)⟩

/-- The machine as it is made. -/
theorem mv_new {X : World} {cv : Value} {R : Nat} (hX : Q w X) (hr : X.ownsRow w.heap.size 2 1 cv im.da.length (rowI im.da)) (hR : X.heap[R]? = some (.cells (mcells im im.da.length 0 cv (.slice none 0 0) (.slice none 0 0)) 76 (0, 0))) (hw : w.heap.size ≤ R) (hne : cv.ownBlock ≠ some R) (hl : im.da.length ≤ 65536) : ∃ col, MV X w R col im im.da [] [] 0 0 := by
  refine ⟨fun b => if b = R then some .rn else if cv.ownBlock = some b then some .me else none, im.da, fun _ => [], cv, .slice none 0 0, .slice none 0 0, ⟨hX, fun b τ e => ?_, by simp, hR, hr, fun b q => ?_, World.ownsRow_nil _ _ _ _, (fun b q => by cases q), .inl ⟨rfl, rfl⟩⟩, ⟨⟨0, by simp⟩, hl, fun k c e => by simp at e, fun j x _ _ k c e => by simp at e, fun k => Nat.zero_le _, fun k c e => by simp at e, fun k c c' e => by simp at e, fun k c e => by simp at e, Nat.zero_le _, by decide, by simp⟩⟩
  · by_cases e1 : b = R
    · subst e1; exact ⟨hw, lt_of_some hR⟩
    · simp only [e1, if_false] at e
      by_cases e2 : cv.ownBlock = some b
      · refine ⟨?_, own_lt hr e2⟩
        rcases hr.2 with ⟨q, -⟩ | ⟨g, cap, cur, q, hb, -⟩
        · rw [q] at e2; cases e2
        · rw [q] at e2; injection e2 with e2; subst e2; exact hb
      · simp [e2] at e
  · have : b ≠ R := fun e => hne (by rw [q, e])
    simp [this, q]
end
end Go.Proofs.Ytnlgkiejppgfjaa

namespace Go.Proofs.Ytnlgkiejppgfjaa
open Go.RowKit
set_option linter.unusedVariables false

section
variable {w w' w0 : World} {R : Nat} {col col' : Col} {im : PIm}

theorem own_mono {X : World} {b b' : Nat} {T : TypeId} {v : Value} {n z : Nat} {xs : List Value} (h : X.ownsRow b' T z v n xs) (hb : b ≤ b') : X.ownsRow b T z v n xs := by
  refine ⟨h.1, ?_⟩
  rcases h.2 with q | ⟨g, cap, cur, e, hg, r⟩
  · exact .inl q
  · exact .inr ⟨g, cap, cur, e, Nat.le_trans hb hg, r⟩
theorem clone_any (hok : im.ok w) (X : World) (hX : Q w X) : Calls Try.prog 28 #[.slice im.ea im.da.length im.ec] X fun e y => ∃ a c, e = .returned (.slice a im.da.length c) ∧ y.ownsRow X.heap.size 2 1 (.slice a im.da.length c) im.da.length (rowI im.da) ∧ Q X y := by
  obtain ⟨h1, h2, h3, h4⟩ := hok.dsok
  have hda := hok.da
  cases ea : im.ea with
  | none =>
    rw [ea] at h3
    have hc := h3 rfl
    have hn : im.da = [] := List.eq_nil_of_length_eq_zero (by omega)
    rw [hc, hn]
    refine (clone_none X).mono ?_
    rintro e y ⟨rfl, rfl⟩
    exact ⟨none, 0, rfl, World.ownsRow_nil _ _ _ _, Q.refl _⟩
  | some a =>
    refine (clone_some X a im.ec im.da (fun j x hx => ?_) h4 (by omega)).mono ?_
    · obtain ⟨b, o, e, c⟩ := Ints.at hda hx
      rw [ea] at e
      injection e with e
      subst e
      have := cell_keep hX c
      rw [Addr.add_mid]
      exact this
    · rintro e y ⟨v, rfl, h5, h6⟩
      obtain ⟨a', c', rfl, -, -⟩ := own_form h5
      exact ⟨a', c', rfl, h5, h6⟩

set_option maxRecDepth 100000 in
theorem newm_any (w : World) (hok : im.ok w) (hl : im.da.length ≤ 65536) : Calls Try.prog 15 #[im.v] w fun e X => ∃ R col, e = .returned (.pointer (some ⟨R, 0, none⟩)) ∧ MV X w R col im im.da [] [] 0 0 := by
  have hq : Q w (bxI w im) := (Q.refl w).alloc _
  have HB := hideIt (fun X (h : Q (bxI w im) X) => bxI_at (im := im) h)
  obtain ⟨c0, c1, c2, c3⟩ := HB.out _ (Q.refl _)
  have CC := hideIt (clone_any hok (bxI w im) hq)
  have FIN := hideIt (show ∀ y a c, y.ownsRow (bxI w im).heap.size 2 1 (.slice a im.da.length c) im.da.length (rowI im.da) → Q (bxI w im) y → ∃ R col, (Ending.returned (.pointer (some ⟨y.heap.size, 0, none⟩))) = .returned (.pointer (some ⟨R, 0, none⟩)) ∧ MV (y.alloc (.cells (mcells im im.da.length 0 (.slice a im.da.length c) (.slice none 0 0) (.slice none 0 0)) 76)) w R col im im.da [] [] 0 0 from fun y a c ho hy => by
    have hqy := hq.trans hy
    obtain ⟨col, hm⟩ := mv_new (w := w) (im := im) (X := y.alloc (.cells (mcells im im.da.length 0 (.slice a im.da.length c) (.slice none 0 0) (.slice none 0 0)) 76)) (R := y.heap.size) (hqy.alloc _) (own_mono (row_keep ho (fun b q => Below.heap_alloc y _ b (own_lt ho q))) hq.size) (heap_new y _) hqy.size (fun e => by have := own_lt ho e; omega) hl
    exact ⟨_, col, rfl, hm⟩)
  clear hq hok
  go_enter Try.func15, Try.ntmps15
  go_wp2_with (first | (go_at_call 28; refine CC.out.mono ?_; rintro e y ⟨a, c, rfl, h1, h2⟩; clear c0 c1 c2 c3; obtain ⟨c0, c1, c2, c3⟩ := HB.out y h2; have HF := hideIt (FIN.out y a c h1 h2); clear h1 h2) | fail)
  go_ret
  exact HF.out

abbrev zeroO : Value := .agg z0A
theorem bxR {X : World} (h : Q ((bxI w im).alloc (.cells z0A 31)) X) : X.heap[w.heap.size + 1]? = some (.cells z0A 31 (0, 0)) ∧ Q (bxI w im) X := by
  refine ⟨(h.block _ (by simp)).trans (heap_at (by simp)), ((Q.refl (bxI w im)).alloc _).trans h⟩

set_option maxRecDepth 100000 in
set_option maxHeartbeats 1000000 in
theorem run_fuel (w : World) (im : PIm) (fuel : Int) (hf : fuel < 0 ∨ 8388608 < fuel) : Calls Try.prog 9 #[im.v, .int .i64 fuel] w fun e w' => e = .returned (.tuple #[zeroO, .int .i64 1]) ∧ Q w w' := by
  have hq : Q w ((bxI w im).alloc (.cells z0A 31)) := ((Q.refl w).alloc _).alloc _
  by_cases h1 : fuel < 0
  · have hd : decide (fuel < 0) = true := by simpa using h1
    clear hf h1
    go_enter Try.func9, Try.ntmps9
    go_wp2_with (fail)
    exact bodyPost_ret (v := .tuple #[zeroO, .int .i64 1]) (by simp [results, Try.results9, go_sem]) rfl ⟨rfl, hq⟩
  · have hd : decide (fuel < 0) = false := by simpa using h1
    have hd2 : decide (8388608 < fuel) = true := by simpa using hf.resolve_left h1
    clear hf h1
    go_enter Try.func9, Try.ntmps9
    go_wp2_with (fail)
    exact bodyPost_ret (v := .tuple #[zeroO, .int .i64 1]) (by simp [results, Try.results9, go_sem]) rfl ⟨rfl, hq⟩

theorem bxR2 {X : World} (h : Q ((bxI w im).alloc (.cells z0A 31)) X) : (X.cell? ⟨w.heap.size + 1, 0, none⟩ = some (.bool false) ∧ X.cell? ⟨w.heap.size + 1, 1, none⟩ = some (.int .i64 0) ∧ X.cell? ⟨w.heap.size + 1, 2, none⟩ = some (.int .u8 0) ∧ X.cell? ⟨w.heap.size + 1, 3, none⟩ = some (.bool false) ∧ X.cell? ⟨w.heap.size + 1, 4, none⟩ = some (.int .i64 0) ∧ X.cell? ⟨w.heap.size + 1, 5, none⟩ = some (.slice none 0 0)) ∧ (X.frozen? ⟨w.heap.size + 1, 0, none⟩ = false ∧ X.frozen? ⟨w.heap.size + 1, 1, none⟩ = false ∧ X.frozen? ⟨w.heap.size + 1, 2, none⟩ = false ∧ X.frozen? ⟨w.heap.size + 1, 3, none⟩ = false ∧ X.frozen? ⟨w.heap.size + 1, 4, none⟩ = false ∧ X.frozen? ⟨w.heap.size + 1, 5, none⟩ = false) :=
  ⟨six_cells (bxR h).1, six_free (bxR h).1⟩

set_option maxRecDepth 100000 in
set_option maxHeartbeats 2000000 in
theorem run_bad (w : World) (hok : im.ok w) (fuel : Nat) (hf : fuel ≤ 8388608) (hF : formP im = false) : Calls Try.prog 9 #[im.v, .int .i64 (fuel : Int)] w fun e w' => e = .returned (.tuple #[zeroO, .int .i64 3]) ∧ Q w w' := by
  have hq : Q w ((bxI w im).alloc (.cells z0A 31)) := ((Q.refl w).alloc _).alloc _
  have CF := hideIt (form_any _ (hok.keep hq))
  rw [hF] at CF
  have d1 : decide ((fuel : Int) < 0) = false := by simp
  have d2 : decide (8388608 < (fuel : Int)) = false := by simp; omega
  obtain ⟨c0, c1, c2, c3⟩ := bxI_at (bxR (Q.refl ((bxI w im).alloc (.cells z0A 31)))).2
  have HX := hideIt (fun X (h : Q ((bxI w im).alloc (.cells z0A 31)) X) => bxR2 h)
  have FIN := hideIt (show ∀ y, Q ((bxI w im).alloc (.cells z0A 31)) y → (six y (w.heap.size + 1) (.bool false) (.int .i64 0) (.int .u8 0) (.bool false) (.int .i64 0) (.slice none 0 0)).heap[w.heap.size + 1]? = some (.cells z0A 31 (0, 0)) ∧ Q w (six y (w.heap.size + 1) (.bool false) (.int .i64 0) (.int .u8 0) (.bool false) (.int .i64 0) (.slice none 0 0)) from fun y hy => ⟨six_blk (bxR hy).1 _ _ _ _ _ _, six_q (hq.trans hy) (Nat.le_succ _) _ _ _ _ _ _⟩)
  clear hq hok hF
  go_enter Try.func9, Try.ntmps9
  go_wp2_with (first | (go_at_call 14; refine CF.out.mono ?_; rintro e y ⟨rfl, qy⟩; clear c0 c1 c2 c3; obtain ⟨⟨a0, a1, a2, a3, a4, a5⟩, b0, b1, b2, b3, b4, b5⟩ := HX.out y qy; have HF := hideIt (FIN.out y qy); clear qy) | fail)
  obtain ⟨bz, qz⟩ := HF.out
  dsimp only [six] at bz qz
  generalize hZ : ((((((y.setCell ⟨w.heap.size + 1, 0, none⟩ (.bool false)).setCell ⟨w.heap.size + 1, 1, none⟩ (.int .i64 0)).setCell ⟨w.heap.size + 1, 2, none⟩ (.int .u8 0)).setCell ⟨w.heap.size + 1, 3, none⟩ (.bool false)).setCell ⟨w.heap.size + 1, 4, none⟩ (.int .i64 0)).setCell ⟨w.heap.size + 1, 5, none⟩ (.slice none 0 0)) = Z at *
  obtain ⟨y0, y1, y2, y3, y4, y5⟩ := six_cells bz
  exact bodyPost_ret (v := .tuple #[zeroO, .int .i64 3]) (by simp [results, Try.results9, go_sem, y0, y1, y2, y3, y4, y5]) rfl ⟨rfl, qz⟩

set_option maxRecDepth 100000 in
set_option maxHeartbeats 2000000 in
theorem run_good (w : World) (hok : im.ok w) (fuel : Nat) (hf : fuel ≤ 8388608) (hF : formP im = true) : Calls Try.prog 9 #[im.v, .int .i64 (fuel : Int)] w fun e w' => ∃ v, e = .returned (.tuple #[v, .int .i64 0]) ∧ OutPost w (runP im fuel) v w' := by
  have hq : Q w ((bxI w im).alloc (.cells z0A 31)) := ((Q.refl w).alloc _).alloc _
  have CF := hideIt (form_any _ (hok.keep hq))
  rw [hF] at CF
  have d1 : decide ((fuel : Int) < 0) = false := by simp
  have d2 : decide (8388608 < (fuel : Int)) = false := by simp; omega
  obtain ⟨c0, c1, c2, c3⟩ := bxI_at (bxR (Q.refl ((bxI w im).alloc (.cells z0A 31)))).2
  have HX := hideIt (fun X (h : Q ((bxI w im).alloc (.cells z0A 31)) X) => bxR2 h)
  have HI := hideIt (fun X (h : Q ((bxI w im).alloc (.cells z0A 31)) X) => bxI_at (im := im) (bxR h).2)
  have hda : im.da.length ≤ 65536 := by unfold formP at hF; simp only [Bool.and_eq_true, decide_eq_true_eq] at hF; exact hF.1.2
  have CM := hideIt (show ∀ y, Q ((bxI w im).alloc (.cells z0A 31)) y → Calls Try.prog 15 #[im.v] y fun e X => ∃ R, e = .returned (.pointer (some ⟨R, 0, none⟩)) ∧ Calls Try.prog 16 #[.pointer (some ⟨R, 0, none⟩), .int .i64 (fuel : Int)] X fun e z => ∃ ta tc, e = .returned (.agg (ocA (runP im fuel).h (runP im fuel).x (runP im fuel).t (runP im fuel).sp (runP im fuel).n (.slice ta (runP im fuel).tr.length tc))) ∧ Q ((bxI w im).alloc (.cells z0A 31)) z ∧ z.ownsRow ((bxI w im).alloc (.cells z0A 31)).heap.size 2 1 (.slice ta (runP im fuel).tr.length tc) (runP im fuel).tr.length (rowI (runP im fuel).tr) from fun y hy => by
    have hok1 := hok.keep (hq.trans hy)
    refine (newm_any y hok1 hda).mono ?_
    rintro e X ⟨R, col, rfl, hm⟩
    refine ⟨R, rfl, (run_any hm hok1 hF fuel hf).mono ?_⟩
    rintro e z ⟨v, rfl, ta, tc, rfl, h5, h6⟩
    exact ⟨ta, tc, rfl, hy.trans h6, own_mono h5 hy.size⟩)
  have FIN := hideIt (show ∀ z (oh : Bool) (ox ot : Int) (os : Bool) (on : Nat) (otr : List Int) (ta : Option Addr) (tc : Nat), Q ((bxI w im).alloc (.cells z0A 31)) z → z.ownsRow ((bxI w im).alloc (.cells z0A 31)).heap.size 2 1 (.slice ta otr.length tc) otr.length (rowI otr) → (six z (w.heap.size + 1) (.bool oh) (.int .i64 ox) (.int .u8 ot) (.bool os) (.int .i64 (on : Int)) (.slice ta otr.length tc)).heap[w.heap.size + 1]? = some (.cells (ocA oh ox ot os on (.slice ta otr.length tc)) 31 (0, 0)) ∧ OutPost w ⟨oh, ox, ot, os, on, otr⟩ (.agg (ocA oh ox ot os on (.slice ta otr.length tc))) (six z (w.heap.size + 1) (.bool oh) (.int .i64 ox) (.int .u8 ot) (.bool os) (.int .i64 (on : Int)) (.slice ta otr.length tc)) from fun z oh ox ot os on otr ta tc hz ho => by
    refine ⟨six_blk (bxR hz).1 _ _ _ _ _ _, ta, tc, rfl, own_mono (row_keep ho (fun b q => six_oth z (fun e => ?_) _ _ _ _ _ _)) hq.size, six_q (hq.trans hz) (Nat.le_succ _) _ _ _ _ _ _⟩
    rcases ho.2 with ⟨e0, -⟩ | ⟨g, cap, cur, e0, hb, -⟩
    · rw [e0] at q; cases q
    · rw [e0] at q
      injection q with q
      have hs : ((bxI w im).alloc (.cells z0A 31)).heap.size = w.heap.size + 1 + 1 := by simp
      have q' : g = b := q
      omega)
  generalize runP im fuel = RES at *
  obtain ⟨oh, ox, ot, os, on, otr⟩ := RES
  dsimp only at *
  clear hq hok hF
  go_enter Try.func9, Try.ntmps9
  go_wp2_with (first | (go_at_call 14; refine CF.out.mono ?_; rintro e y ⟨rfl, qy⟩; have HY := hideIt qy; clear c0 c1 c2 c3; obtain ⟨c0, c1, c2, c3⟩ := HI.out y qy; clear qy) | (go_at_call 15; refine (CM.out y HY.out).mono ?_; rintro e X ⟨R, rfl, cr⟩; have CR := hideIt cr; clear cr c0 c1 c2 c3) | (go_at_call 16; refine CR.out.mono ?_; rintro e z ⟨ta, tc, rfl, qz, oz⟩; obtain ⟨⟨a0, a1, a2, a3, a4, a5⟩, b0, b1, b2, b3, b4, b5⟩ := HX.out z qz; have HF := hideIt (FIN.out z oh ox ot os on otr ta tc qz oz); clear qz oz) | fail)
  obtain ⟨bz, qz⟩ := HF.out
  dsimp only [six] at bz qz
  generalize hZ : ((((((z.setCell ⟨w.heap.size + 1, 0, none⟩ (.bool oh)).setCell ⟨w.heap.size + 1, 1, none⟩ (.int .i64 ox)).setCell ⟨w.heap.size + 1, 2, none⟩ (.int .u8 ot)).setCell ⟨w.heap.size + 1, 3, none⟩ (.bool os)).setCell ⟨w.heap.size + 1, 4, none⟩ (.int .i64 (on : Int))).setCell ⟨w.heap.size + 1, 5, none⟩ (.slice ta otr.length tc)) = Z at *
  obtain ⟨y0, y1, y2, y3, y4, y5⟩ := six_cells bz
  exact bodyPost_ret (v := .tuple #[.agg (ocA oh ox ot os on (.slice ta otr.length tc)), .int .i64 0]) (by simp [results, Try.results9, go_sem, y0, y1, y2, y3, y4, y5]) rfl ⟨_, rfl, qz⟩
end
end Go.Proofs.Ytnlgkiejppgfjaa
