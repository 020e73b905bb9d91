/-
  The document's machine (burinref25): a word's parts, a trap: contracts over the program; the condition: the word has 64 bits.
  The document's machine (burinref25): can a program be run: a contract over the program; the condition: the program lies in memory.
-/
import Derived.Test.YtnlgkiejppgfjaaKVmZa
namespace Go.Proofs.Ytnlgkiejppgfjaa
open Go.RowKit
set_option linter.unusedVariables false

namespace Da
theorem and_mask {a : Int} (h : Cd.U64 a) (n : Nat) (hn : n < 64) : bits .and .u64 a (((2 ^ n - 1 : Nat)) : Int) = a % ((2 ^ n : Nat) : Int) := by
  obtain ⟨h1, h2⟩ := h
  obtain ⟨x, rfl⟩ : ∃ x : Nat, a = (x : Int) := ⟨a.toNat, by omega⟩
  have hp : 2 ^ n ≤ 2 ^ 63 := Nat.pow_le_pow_right (by decide) (by omega)
  rw [bits_and_u64_nat x (2 ^ n - 1) (by omega) (by omega), Nat.and_two_pow_sub_one_eq_mod]
  rfl
theorem u64_div {v : Int} (h : Cd.U64 v) (k : Int) (hk : 1 ≤ k) : Cd.U64 (v / k) := by
  obtain ⟨h1, h2⟩ := h
  refine ⟨Int.ediv_nonneg h1 (by omega), ?_⟩
  have : v / k ≤ v := Int.ediv_le_self _ h1
  omega
section
variable (v : Int) (hv : Cd.U64 v) (w : World)
include hv
theorem part_fo : Calls Try.prog 32 #[.int .u64 v, .int .i64 56, .int .i64 8] w fun e w' => e = .returned (.int .i64 (fo v)) ∧ ∃ m, w' = w.drewN m := by
  have hm : bits .and .u64 (v / 72057594037927936) 255 = fo v := by
    refine (and_mask (u64_div hv 72057594037927936 (by decide)) 8 (by decide)).trans ?_
    obtain ⟨h1, h2⟩ := hv
    show v / 72057594037927936 % 256 = _
    unfold fo; omega
  have hw : wrap64 (fo v) = fo v := by obtain ⟨h1, h2⟩ := hv; unfold wrap64 fo; omega
  have HM := hideIt hm
  have HW := hideIt hw
  clear hm hw
  go_enter Try.func32, Try.ntmps32
  go_wp2_with (fail)
  go_quiet (fail)
  go_wp2_with (fail)
  go_ret
  refine ⟨?_, _, rfl⟩
  show Ending.returned (.int .i64 (wrap64 (bits .and .u64 (v / 72057594037927936) 255))) = _
  rw [HM.out, HW.out]
theorem part_ft : Calls Try.prog 32 #[.int .u64 v, .int .i64 52, .int .i64 4] w fun e w' => e = .returned (.int .i64 (ft v)) ∧ ∃ m, w' = w.drewN m := by
  have hm : bits .and .u64 (v / 4503599627370496) 15 = ft v := by
    refine (and_mask (u64_div hv 4503599627370496 (by decide)) 4 (by decide)).trans ?_
    obtain ⟨h1, h2⟩ := hv
    show v / 4503599627370496 % 16 = _
    unfold ft; omega
  have hw : wrap64 (ft v) = ft v := by obtain ⟨h1, h2⟩ := hv; unfold wrap64 ft; omega
  have HM := hideIt hm
  have HW := hideIt hw
  clear hm hw
  go_enter Try.func32, Try.ntmps32
  go_wp2_with (fail)
  go_quiet (fail)
  go_wp2_with (fail)
  go_ret
  refine ⟨?_, _, rfl⟩
  show Ending.returned (.int .i64 (wrap64 (bits .and .u64 (v / 4503599627370496) 15))) = _
  rw [HM.out, HW.out]
theorem part_fd : Calls Try.prog 32 #[.int .u64 v, .int .i64 48, .int .i64 4] w fun e w' => e = .returned (.int .i64 (fd v)) ∧ ∃ m, w' = w.drewN m := by
  have hm : bits .and .u64 (v / 281474976710656) 15 = fd v := by
    refine (and_mask (u64_div hv 281474976710656 (by decide)) 4 (by decide)).trans ?_
    obtain ⟨h1, h2⟩ := hv
    show v / 281474976710656 % 16 = _
    unfold fd; omega
  have hw : wrap64 (fd v) = fd v := by obtain ⟨h1, h2⟩ := hv; unfold wrap64 fd; omega
  have HM := hideIt hm
  have HW := hideIt hw
  clear hm hw
  go_enter Try.func32, Try.ntmps32
  go_wp2_with (fail)
  go_quiet (fail)
  go_wp2_with (fail)
  go_ret
  refine ⟨?_, _, rfl⟩
  show Ending.returned (.int .i64 (wrap64 (bits .and .u64 (v / 281474976710656) 15))) = _
  rw [HM.out, HW.out]
theorem part_fa : Calls Try.prog 32 #[.int .u64 v, .int .i64 44, .int .i64 4] w fun e w' => e = .returned (.int .i64 (fa v)) ∧ ∃ m, w' = w.drewN m := by
  have hm : bits .and .u64 (v / 17592186044416) 15 = fa v := by
    refine (and_mask (u64_div hv 17592186044416 (by decide)) 4 (by decide)).trans ?_
    obtain ⟨h1, h2⟩ := hv
    show v / 17592186044416 % 16 = _
    unfold fa; omega
  have hw : wrap64 (fa v) = fa v := by obtain ⟨h1, h2⟩ := hv; unfold wrap64 fa; omega
  have HM := hideIt hm
  have HW := hideIt hw
  clear hm hw
  go_enter Try.func32, Try.ntmps32
  go_wp2_with (fail)
  go_quiet (fail)
  go_wp2_with (fail)
  go_ret
  refine ⟨?_, _, rfl⟩
  show Ending.returned (.int .i64 (wrap64 (bits .and .u64 (v / 17592186044416) 15))) = _
  rw [HM.out, HW.out]
theorem part_fb : Calls Try.prog 32 #[.int .u64 v, .int .i64 40, .int .i64 4] w fun e w' => e = .returned (.int .i64 (fb v)) ∧ ∃ m, w' = w.drewN m := by
  have hm : bits .and .u64 (v / 1099511627776) 15 = fb v := by
    refine (and_mask (u64_div hv 1099511627776 (by decide)) 4 (by decide)).trans ?_
    obtain ⟨h1, h2⟩ := hv
    show v / 1099511627776 % 16 = _
    unfold fb; omega
  have hw : wrap64 (fb v) = fb v := by obtain ⟨h1, h2⟩ := hv; unfold wrap64 fb; omega
  have HM := hideIt hm
  have HW := hideIt hw
  clear hm hw
  go_enter Try.func32, Try.ntmps32
  go_wp2_with (fail)
  go_quiet (fail)
  go_wp2_with (fail)
  go_ret
  refine ⟨?_, _, rfl⟩
  show Ending.returned (.int .i64 (wrap64 (bits .and .u64 (v / 1099511627776) 15))) = _
  rw [HM.out, HW.out]
theorem part_f0 : Calls Try.prog 32 #[.int .u64 v, .int .i64 32, .int .i64 8] w fun e w' => e = .returned (.int .i64 (f0 v)) ∧ ∃ m, w' = w.drewN m := by
  have hm : bits .and .u64 (v / 4294967296) 255 = f0 v := by
    refine (and_mask (u64_div hv 4294967296 (by decide)) 8 (by decide)).trans ?_
    obtain ⟨h1, h2⟩ := hv
    show v / 4294967296 % 256 = _
    unfold f0; omega
  have hw : wrap64 (f0 v) = f0 v := by obtain ⟨h1, h2⟩ := hv; unfold wrap64 f0; omega
  have HM := hideIt hm
  have HW := hideIt hw
  clear hm hw
  go_enter Try.func32, Try.ntmps32
  go_wp2_with (fail)
  go_quiet (fail)
  go_wp2_with (fail)
  go_ret
  refine ⟨?_, _, rfl⟩
  show Ending.returned (.int .i64 (wrap64 (bits .and .u64 (v / 4294967296) 255))) = _
  rw [HM.out, HW.out]
theorem part_fi : Calls Try.prog 32 #[.int .u64 v, .int .i64 0, .int .i64 32] w fun e w' => e = .returned (.int .i64 (fi v)) ∧ ∃ m, w' = w.drewN m := by
  have hm : bits .and .u64 (v) 4294967295 = fi v := by
    refine (and_mask hv 32 (by decide)).trans ?_
    obtain ⟨h1, h2⟩ := hv
    show v % 4294967296 = _
    unfold fi; omega
  have hw : wrap64 (fi v) = fi v := by obtain ⟨h1, h2⟩ := hv; unfold wrap64 fi; omega
  have HM := hideIt hm
  have HW := hideIt hw
  clear hm hw
  go_enter Try.func32, Try.ntmps32
  go_wp2_with (fail)
  go_quiet (fail)
  go_wp2_with (fail)
  go_ret
  refine ⟨?_, _, rfl⟩
  show Ending.returned (.int .i64 (wrap64 (bits .and .u64 (v) 4294967295))) = _
  rw [HM.out, HW.out]
end
end Da
end Go.Proofs.Ytnlgkiejppgfjaa

namespace Go.Proofs.Ytnlgkiejppgfjaa
open Go.RowKit
set_option linter.unusedVariables false

namespace Da
section
variable {w w' w0 : World} {im : PIm}
abbrev bxJ (w : World) (im : PIm) : World := w.alloc (.cells #[.slice im.wa im.ws.length im.wc, .slice im.sa im.st.length im.sc, .slice im.fa im.fr.length im.fc, .slice im.ea im.da.length im.ec] 37)
theorem bxJ_at {X : World} (h : Q (bxJ w im) X) : X.cell? ⟨w.heap.size, 0, none⟩ = some (.slice im.wa im.ws.length im.wc) ∧ X.cell? ⟨w.heap.size, 1, none⟩ = some (.slice im.sa im.st.length im.sc) ∧ X.cell? ⟨w.heap.size, 2, none⟩ = some (.slice im.fa im.fr.length im.fc) ∧ X.cell? ⟨w.heap.size, 3, none⟩ = some (.slice im.ea im.da.length im.ec) := by
  have b := (h.block w.heap.size (by simp)).trans (heap_new w _)
  exact ⟨cell_of_block b 0, cell_of_block b 1, cell_of_block b 2, cell_of_block b 3⟩

set_option maxRecDepth 100000 in
set_option maxHeartbeats 2000000 in
theorem rform_any (w : World) (hok : im.ok w) : Calls Try.prog 17 #[im.v] w fun e w' => e = .returned (.bool (formP im)) ∧ Q w w' := by
  have hq : Q w (bxJ w im) := (Q.refl w).alloc _
  obtain ⟨c0, c1, c2, c3⟩ := bxJ_at (im := im) (Q.refl (bxJ w im))
  have l0 := hok.wsok.len
  have l1 := hok.ssok.len
  have l2 := hok.fsok.len
  have l3 := hok.dsok.len
  by_cases h1 : im.st.length = 0
  · have hd : ((im.st.length : Int) == 0) = true := by rw [beq_iff_eq]; omega
    have e : formP im = false := by simp [formP, h1]
    rw [e]
    clear h1 e hok
    go_enter Try.func17, Try.ntmps17
    go_wp2_with (fail)
    go_ret
    exact ⟨rfl, hq⟩
  have hd1 : ((im.st.length : Int) == 0) = false := by rw [beq_eq_false_iff_ne]; omega
  by_cases h2 : im.fr.length = im.st.length
  case neg =>
    have hd : ((im.fr.length : Int) != (im.st.length : Int)) = true := by rw [bne_iff_ne]; omega
    have e : formP im = false := by simp [formP, h2]
    rw [e]
    clear h1 h2 e hok
    go_enter Try.func17, Try.ntmps17
    go_wp2_with (fail)
    go_ret
    exact ⟨rfl, hq⟩
  have hd2 : ((im.fr.length : Int) != (im.st.length : Int)) = false := by rw [bne_eq_false_iff_eq]; omega
  by_cases h3 : im.ws.length ≤ 240000
  case neg =>
    have hd : decide (240000 < (im.ws.length : Int)) = true := by simp; omega
    have e : formP im = false := by simp [formP, h3]
    rw [e]
    clear h1 h2 h3 e hok
    go_enter Try.func17, Try.ntmps17
    go_wp2_with (fail)
    go_ret
    exact ⟨rfl, hq⟩
  have hd3 : decide (240000 < (im.ws.length : Int)) = false := by simp; omega
  by_cases h4 : im.da.length ≤ 65536
  case neg =>
    have hd : decide (65536 < (im.da.length : Int)) = true := by simp; omega
    have e : formP im = false := by simp [formP, h4]
    rw [e]
    clear h1 h2 h3 h4 e hok
    go_enter Try.func17, Try.ntmps17
    go_wp2_with (fail)
    go_ret
    exact ⟨rfl, hq⟩
  have hd4 : decide (65536 < (im.da.length : Int)) = false := by simp; omega
  have e : formP im = allP im.ws.length im.st im.fr := by simp [formP, h1, h2, h3, h4]
  rw [e]
  clear e
  generalize hRR : allP im.ws.length im.st im.fr = RR
  have HRR := hideIt hRR
  obtain ⟨s0, hs0⟩ := get_of_lt (l := im.st) (k := 0) (by omega)
  obtain ⟨f0, hf0⟩ := get_of_lt (l := im.fr) (k := 0) (by omega)
  obtain ⟨sb, so, es, -⟩ := Ints.at hok.st hs0
  obtain ⟨fb, fo', ef, -⟩ := Ints.at hok.fr hf0
  have HS := hideIt (show ∀ (k : Nat) (x : Int), im.st[k]? = some x → (bxJ w im).cell? ⟨sb, so + k, none⟩ = some (.int .i64 x) from fun k x hx => by
    obtain ⟨b, o, e, c⟩ := Ints.at hok.st hx
    rw [es] at e
    injection e with e
    injection e with e1 e2
    subst e1; subst e2
    exact cell_keep hq c)
  have HF := hideIt (show ∀ (k : Nat) (x : Int), im.fr[k]? = some x → (bxJ w im).cell? ⟨fb, fo' + k, none⟩ = some (.int .i64 x) from fun k x hx => by
    obtain ⟨b, o, e, c⟩ := Ints.at hok.fr hx
    rw [ef] at e
    injection e with e
    injection e with e1 e2
    subst e1; subst e2
    exact cell_keep hq c)
  have HL := hideIt (And.intro h1 (And.intro h2 h3))
  have HQ := hideIt hq
  clear hRR h1 h2 h3 h4 hok hs0 hf0 hq
  obtain ⟨ws, st, fr, da, wa, wc, sa, sc, fa, fc, ea, ec⟩ := im
  dsimp only at *
  subst es; subst ef
  go_enter Try.func17, Try.ntmps17
  go_wp2_with (fail)
  go_loopw [3] (fun iv z => ∃ i : Nat, iv = .int .i64 i ∧ i ≤ st.length ∧ Hid (Q (bxJ w ⟨ws, st, fr, da, wa, wc, some ⟨sb, so, none⟩, sc, some ⟨fb, fo', none⟩, fc, ea, ec⟩) z) ∧ allP ws.length (st.drop i) (fr.drop i) = RR) (fun iv _ => st.length - (intOf iv).toNat)
  case atStart => exact ⟨0, rfl, Nat.zero_le _, Q.refl _, HRR.out⟩
  case round =>
    obtain ⟨i, rfl, hi, HZ, hr⟩ := hrel
    generalize wr = z at *
    clear c0 c1 c2 c3
    obtain ⟨c0, c1, c2, c3⟩ := bxJ_at HZ.out
    have HR := hideIt hr
    clear hr
    by_cases hlt : i < st.length
    · have hlf : i < fr.length := by have := HL.out.2.1; omega
      obtain ⟨s, hs⟩ := get_of_lt hlt
      obtain ⟨f, hf⟩ := get_of_lt hlf
      have HST := hideIt (allP_drop (n := ws.length) hs hf)
      have cs := cell_keep HZ.out (HS.out i s hs)
      have cf := cell_keep HZ.out (HF.out i f hf)
      have hil : (i : Int) < (st.length : Int) := by omega
      have hif : (i : Int) < (fr.length : Int) := by omega
      clear hs hf hlf
      have BAD := hideIt (show oneP ws.length s f = false → RR = false from fun q => by rw [← HR.out, HST.out, q]; rfl)
      by_cases q1 : s < 0
      · have p1 : decide (s < 0) = true := by simpa using q1
        have := BAD.out (by unfold oneP; simp; omega)
        subst this
        go_wp2_with (fail)
        go_quiet (fail)
        go_wp2_with (fail)
        go_ret
        exact ⟨rfl, HQ.out.trans (HZ.out.drewN _)⟩
      have p1 : decide (s < 0) = false := by simpa using q1
      by_cases q2 : (ws.length : Int) ≤ s
      · have p2 : decide ((ws.length : Int) ≤ s) = true := by simpa using q2
        have := BAD.out (by unfold oneP; simp; omega)
        subst this
        go_wp2_with (fail)
        go_quiet (fail)
        go_wp2_with (fail)
        go_ret
        exact ⟨rfl, HQ.out.trans (HZ.out.drewN _)⟩
      have p2 : decide ((ws.length : Int) ≤ s) = false := by simpa using q2
      by_cases q3 : f < 0
      · have p3 : decide (f < 0) = true := by simpa using q3
        have := BAD.out (by unfold oneP; simp; omega)
        subst this
        go_wp2_with (fail)
        go_quiet (fail)
        go_wp2_with (fail)
        go_ret
        exact ⟨rfl, HQ.out.trans (HZ.out.drewN _)⟩
      have p3 : decide (f < 0) = false := by simpa using q3
      by_cases q4 : 65536 < f
      · have p4 : decide (65536 < f) = true := by simpa using q4
        have := BAD.out (by unfold oneP; simp; omega)
        subst this
        go_wp2_with (fail)
        go_quiet (fail)
        go_wp2_with (fail)
        go_ret
        exact ⟨rfl, HQ.out.trans (HZ.out.drewN _)⟩
      have p4 : decide (65536 < f) = false := by simpa using q4
      have zi : IntKind.i64.wrap ((i : Int) + 1) = (i : Int) + 1 := by rw [IntKind.wrap_i64]; omega
      have GOOD := hideIt (show allP ws.length (st.drop (i + 1)) (fr.drop (i + 1)) = RR by rw [← HR.out, HST.out, show oneP ws.length s f = true by unfold oneP; simp; omega, Bool.true_and])
      go_wp2_with (fail)
      go_quiet (fail)
      go_wp2_with (fail)
      go_roundw
      case rel => exact ⟨i + 1, by go_num, by omega, Q.drewN HZ.out _, GOOD.out⟩
      case measure => simp [intOf]; omega
    · have hil : ¬ (i : Int) < (st.length : Int) := by omega
      have hfin : RR = true := by rw [← HR.out, List.drop_eq_nil_of_le (by omega)]; rfl
      subst hfin
      go_wp2_with (fail)
      go_ret
      exact ⟨rfl, HQ.out.trans HZ.out⟩
end
end Da
end Go.Proofs.Ytnlgkiejppgfjaa
