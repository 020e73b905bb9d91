/-
  The machine: its memory grows: a contract over the program; the conditions: the machine lies there.
-/
import Derived.Test.YtnlgkiejppgfjaaKVmC
namespace Go.Proofs.Ytnlgkiejppgfjaa
open Go.RowKit
set_option linter.unusedVariables false

theorem infoI64 : (Try.prog.info? 2).map (fun i => (i.zero, i.size, i.bytes)) = some (some (.int .i64 0), 1, 8) := by kernel_rfl
theorem infoInt : (Try.prog.info? 3).map (fun i => (i.zero, i.size, i.bytes)) = some (some (.int .i64 0), 1, 8) := by kernel_rfl

section
variable {w w' w0 : World} {R : Nat} {col col' : Col} {im : PIm} {mn : Nat} {mem ce : List Int} {cls : List Cl} {W : Nat → List Int} {tr : List Int} {ex : Int} {cv kv tv : Value} {N : Nat}

theorem PL.more (p : PL mem cls W ce tr N) {k : Nat} {ce' : List Int} (hl : ce.length ≤ ce'.length) (hz : ∃ z, ce' = (mem ++ List.replicate k 0) ++ List.replicate z 0) (hc : ce'.length ≤ 65536) : PL (mem ++ List.replicate k 0) cls W ce' tr N := by
  refine ⟨hz, hc, fun k c e x hx => ?_, fun j x hj hx k c hk hb hn => ?_, p.len, p.ok, p.up, fun k c e => by have := p.top k c e; simp; omega, p.trl, p.nle, p.cll⟩
  · obtain ⟨n, a, b, d⟩ := p.inn k c e x hx
    exact ⟨n, a, b, by omega⟩
  · by_cases h : j < mem.length
    · rw [List.getElem?_append_left h] at hj
      exact p.own j x hj hx k c hk hb hn
    · rw [List.getElem?_append_right (by omega), List.getElem?_replicate] at hj
      split at hj
      · exact absurd (Option.some.inj hj).symm hx
      · cases hj
theorem rep_app (a b : Nat) : List.replicate a (0 : Int) ++ List.replicate b 0 = List.replicate (a + b) 0 := by rw [List.replicate_append_replicate]

theorem grow_bad (hm : MV w w0 R col im mem cls tr ex N) (k : Nat) (hk : 65536 - (mem.length : Int) < (k : Int)) :
    Calls Try.prog 36 #[.pointer (some ⟨R, 0, none⟩), .int .i64 (k : Int)] w fun e w' => e = .returned (.bool false) ∧ w' = w := by
  obtain ⟨ce, W, cv, kv, tv, h, p⟩ := hm
  obtain ⟨c0, c1, -⟩ := h.c0
  have hml : mem.length ≤ 65536 := Nat.le_trans p.mle p.cel
  have z1 : IntKind.i64.wrap (65536 - (mem.length : Int)) = 65536 - (mem.length : Int) := by rw [IntKind.wrap_i64]; omega
  have hd : decide (65536 - (mem.length : Int) < (k : Int)) = true := by simpa using hk
  clear h p c0
  go_enter Try.func36, Try.ntmps36
  go_wp2
  go_ret
  exact ⟨rfl, rfl⟩

set_option maxHeartbeats 1000000 in
theorem grow_ok (hm : MV w w0 R col im mem cls tr ex N) (k : Nat) (hk : ¬ 65536 - (mem.length : Int) < (k : Int)) :
    Calls Try.prog 36 #[.pointer (some ⟨R, 0, none⟩), .int .i64 (k : Int)] w fun e w' => e = .returned (.bool true) ∧ ∃ col', MV w' w0 R col' im (mem ++ List.replicate k 0) cls tr ex N ∧ Ex col w col' w' := by
  obtain ⟨ce, W, cv, kv, tv, h, p⟩ := hm
  obtain ⟨c0, c1, -⟩ := h.c0
  have f1 := h.fz 1
  have hml : mem.length ≤ 65536 := Nat.le_trans p.mle p.cel
  have z1 : IntKind.i64.wrap (65536 - (mem.length : Int)) = 65536 - (mem.length : Int) := by rw [IntKind.wrap_i64]; omega
  have z2 : IntKind.i64.wrap ((mem.length : Int) + (k : Int)) = (mem.length : Int) + (k : Int) := by rw [IntKind.wrap_i64]; omega
  have hd : decide (65536 - (mem.length : Int) < (k : Int)) = false := by simpa using hk
  have hcl := p.cel
  have hmle := p.mle
  obtain ⟨ca, cc, ecv, hcc, -⟩ := own_form h.ce
  subst ecv
  have z3 : IntKind.i64.wrap ((mem.length : Int) + (k : Int) - (ce.length : Int)) = (mem.length : Int) + (k : Int) - (ce.length : Int) := by rw [IntKind.wrap_i64]; omega
  obtain ⟨h1, x1⟩ := h.setR (j := 1) (u := .int .i64 ((mem.length : Int) + (k : Int))) (mn' := mem.length + k) (ex' := ex) (kv' := kv) (cls' := cls) (by simp) h.kvo
  have HX := hideIt h1
  have HE := hideIt x1
  have HP := hideIt p
  have HZ := hideIt p.cez
  have HL := hideIt (show ∀ z, ce = mem ++ List.replicate z 0 → ce.length = mem.length + z from fun z e => by rw [e]; simp)
  clear h p h1 x1
  by_cases hr : mem.length + k ≤ ce.length
  · have hg : decide (0 < (mem.length : Int) + (k : Int) - (ce.length : Int)) = false := by simp; omega
    go_enter Try.func36, Try.ntmps36
    go_wp2_with (fail)
    go_quiet (fail)
    go_wp2_with (fail)
    go_ret
    obtain ⟨z, ez⟩ := HZ.out
    have el := HL.out z ez
    refine ⟨rfl, col, ⟨ce, W, .slice ca ce.length cc, kv, tv, ?_, HP.out.more (Nat.le_refl _) ⟨z - k, ?_⟩ hcl⟩, HE.out.drewN _⟩
    · rw [List.length_append, List.length_replicate]; exact HX.out.keep ((Q.refl _).drewN _)
    · rw [List.append_assoc, rep_app, ez]; congr 2; omega
  · have hg : decide (0 < (mem.length : Int) + (k : Int) - (ce.length : Int)) = true := by simp; omega
    obtain ⟨i0, hi, hz0, hz1, hz2⟩ := info_parts infoI64
    have HR := hideIt (show ∀ m, ∃ g cap X, (Builtin.append_ #[24, 3] 24 #[.slice ca ce.length cc, .int .i64 ((mem.length : Int) + (k : Int) - (ce.length : Int))]).run Try.prog ((w.setCell ⟨R, 1, none⟩ (.int .i64 ((mem.length : Int) + (k : Int)))).drewN m) = .ok (.slice (some ⟨g, 0, none⟩) (mem.length + k) cap) X ∧
        X.cell? ⟨R, 0, none⟩ = some (.slice ca ce.length cc) ∧ X.frozen? ⟨R, 0, none⟩ = false ∧ ∃ col', MV (X.setCell ⟨R, 0, none⟩ (.slice (some ⟨g, 0, none⟩) (mem.length + k) cap)) w0 R col' im (mem ++ List.replicate k 0) cls tr ex N ∧ Ex col w col' (X.setCell ⟨R, 0, none⟩ (.slice (some ⟨g, 0, none⟩) (mem.length + k) cap)) from fun m => by
      have h2 := HX.out.keep (w' := (w.setCell ⟨R, 1, none⟩ (.int .i64 ((mem.length : Int) + (k : Int)))).drewN m) ((Q.refl _).drewN _)
      have hb := h2.bel.size
      obtain ⟨g, cap, X, r1, r2, r3, r4, r5⟩ := run_append_zeros_lies (P := Try.prog) ((w.setCell ⟨R, 1, none⟩ (.int .i64 ((mem.length : Int) + (k : Int)))).drewN m) 24 3 24 2 i0 _ .i64 .i64 Try.underlying24 Try.underlying3 hi hz0 w0.heap.size 1 8 hz1 hz2 rfl (by decide)
        (fun m u hu => by rw [zeros_row] at hu; obtain ⟨_, _, rfl⟩ := List.mem_map.1 hu; rfl) (.slice ca ce.length cc) ce.length (rowI ce) h2.ce (mem.length + k - ce.length) (by omega) (by unfold maxLen; omega) (by omega) hb
      have ek : ((mem.length + k - ce.length : Nat) : Int) = (mem.length : Int) + (k : Int) - (ce.length : Int) := by omega
      have el : ce.length + (mem.length + k - ce.length) = mem.length + k := by omega
      rw [ek, el] at r1
      rw [zeros_row, ← rowI_app, el] at r2
      obtain ⟨z, ez⟩ := HZ.out
      have el2 := HL.out z ez
      have hcl2 : (ce ++ List.replicate (mem.length + k - ce.length) 0).length = mem.length + k := by simp; omega
      obtain ⟨b0, col', m1, m2⟩ := h2.growE (v' := .slice (some ⟨g, 0, none⟩) (mem.length + k) cap) (ce' := ce ++ List.replicate (mem.length + k - ce.length) 0) r3 (by rw [hcl2]; exact r2) ⟨g, rfl, r4.imp id (fun e => by omega)⟩
      refine ⟨g, cap, X, r1, cell_of_block b0 0, free_of_block b0 0, col', ⟨ce ++ List.replicate (mem.length + k - ce.length) 0, W, .slice (some ⟨g, 0, none⟩) (mem.length + k) cap, kv, tv, ?_, HP.out.more (by rw [hcl2]; omega) ⟨0, ?_⟩ (by rw [hcl2]; omega)⟩, (HE.out.drewN m).trans m2⟩
      · rw [List.length_append, List.length_replicate]; exact m1
      · have e : ∀ q, z + q = k → ce ++ List.replicate q 0 = (mem ++ List.replicate k 0) ++ List.replicate 0 0 := fun q hq => by rw [ez, List.append_assoc, rep_app, hq]; simp
        exact e _ (by omega))
    clear hi hz0 hz1 hz2 HX HE HP HZ HL
    go_enter Try.func36, Try.ntmps36
    go_wp2_with (fail)
    go_quiet (fail)
    go_wp2_with (first | (at_builtin; obtain ⟨g, cap, X, r1, k1, k2, k3⟩ := HR.out nq; have K3 := hideIt k3; refine wpList_append_run (by rfl) _ _ 24 3 (by rfl) _ _ (by rfl) (by rfl) _ _ r1 ?_; clear r1 k3) | fail)
    go_ret
    exact ⟨rfl, K3.out⟩
end
end Go.Proofs.Ytnlgkiejppgfjaa
