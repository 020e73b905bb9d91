/-
  The document's example of layer 16, its instructions, and whether code is of a size that is looked at (example, one, few of the statements of layer 16): contracts over the program; the conditions: the code lies in memory.
-/
import Derived.Test.YtaomkfhbnakbjaaKFoI
namespace Go.Proofs.Ytaomkfhbnakbjaa.Fo
open Go.RowKit
set_option linter.unusedVariables false

theorem heap_new (X : World) (o : Obj) : (X.alloc o).heap[X.heap.size]? = some o := heap_alloc_new X _
theorem heap_at {X : World} {o : Obj} {k : Nat} (h : k = X.heap.size) : (X.alloc o).heap[k]? = some o := by rw [h]; exact heap_new X o
theorem heap_old {X : World} {k : Nat} {o : Obj} (o' : Obj) (h : X.heap[k]? = some o) : (X.alloc o').heap[k]? = some o := by
  rw [Below.heap_alloc X o' k ((Array.getElem?_eq_some_iff.1 h).1)]
  exact h
theorem sok_no (z : Nat) : sok z none 0 0 := ⟨Nat.le_refl _, by decide, fun _ => rfl, by omega⟩
theorem lst_no {α : Type} {sz : Nat} {P : Nat → Nat → α → Prop} {a : Option Addr} : Lst sz P a [] := fun k x e => by simp at e
theorem lst_blk {α : Type} {sz g : Nat} {P : Nat → Nat → α → Prop} {l : List α} (h : ∀ k x, l[k]? = some x → P g (k * sz) x) : Lst sz P (some ⟨g, 0, none⟩) l := fun k x e => ⟨g, 0, rfl, by rw [Nat.zero_add]; exact h k x e⟩
theorem i64_zero : I64 0 := by unfold I64; omega

def xs (m0 m1 op ty : Int) : List PI := [⟨20, 0, 0, 0, 0, m0, [], none, 0⟩, ⟨20, 0, 1, 0, 0, m1, [], none, 0⟩, ⟨op, ty, 2, 0, 1, 0, [], none, 0⟩, ⟨33, 0, 0, 2, 0, 0, [], none, 0⟩]
def eP (m0 m1 op ty : Int) (g0 : Nat) : PP := ⟨xs m0 m1 op ty, true, 0, 0, 0, some ⟨g0, 0, none⟩, 4⟩
def eF (m0 m1 op ty : Int) (g0 g1 : Nat) : PF := ⟨0, 4, [], [eP m0 m1 op ty g0], none, 0, some ⟨g1, 0, none⟩, 1⟩
def eC (m0 m1 op ty : Int) (g0 g1 g2 : Nat) : PC := ⟨[], [], [eF m0 m1 op ty g0 g1], none, 0, none, 0, some ⟨g2, 0, none⟩, 1⟩
theorem eC_valid (g0 g1 g2 : Nat) : validP (eC 2 3 1 4 g0 g1 g2) = 0 := rfl
theorem eC_fold : foldL false (fun _ => none) (xs 2 3 1 4) = [⟨20, 0, 0, 0, 0, 2, [], none, 0⟩, ⟨20, 0, 1, 0, 0, 3, [], none, 0⟩, ⟨20, 0, 2, 0, 0, 5, [], none, 0⟩, ⟨33, 0, 0, 2, 0, 0, [], none, 0⟩] := rfl

theorem eC_ok {w : World} {m0 m1 op ty : Int} {g0 g1 g2 : Nat} (hm0 : I64 m0) (hm1 : I64 m1) (hop : 0 ≤ op ∧ op ≤ 255) (hty : 0 ≤ ty ∧ ty ≤ 255)
    (h0 : w.heap[g0]? = some (.cells ((xs m0 m1 op ty).flatMap PI.cells).toArray 51 (0, 0)))
    (h1 : w.heap[g1]? = some (.cells ([eP m0 m1 op ty g0].flatMap PP.cells).toArray 49 (0, 0)))
    (h2 : w.heap[g2]? = some (.cells ([eF m0 m1 op ty g0 g1].flatMap PF.cells).toArray 46 (0, 0))) : (eC m0 m1 op ty g0 g1 g2).ok w := by
  have z := i64_zero
  have z1 : I64 1 := by unfold I64; omega
  have z2 : I64 2 := by unfold I64; omega
  have z4 : I64 4 := by unfold I64; omega
  have s1 : ∀ g z k, k ≤ 4 → z ≤ 64 → sok z (some ⟨g, 0, none⟩) k k := fun g z k hk hz => ⟨Nat.le_refl _, by unfold maxLen; omega, (fun h => by cases h), by have : k * z ≤ 4 * 64 := Nat.mul_le_mul hk hz; omega⟩
  refine ⟨sok_no _, lst_no, sok_no _, lst_no, s1 _ _ _ (show 1 ≤ 4 by decide) (by decide), lst_blk fun k f hf => ⟨flat_block PF.len h2 hf, ?_⟩⟩
  have hf' := List.mem_of_getElem? hf
  simp [eC] at hf'
  subst hf'
  refine ⟨z, z4, sok_no _, lst_no, s1 _ _ _ (show 1 ≤ 4 by decide) (by decide), lst_blk fun k p hp => ⟨flat_block PP.len h1 hp, ?_⟩⟩
  have hp' := List.mem_of_getElem? hp
  simp [eF] at hp'
  subst hp'
  refine ⟨z, z, z, s1 _ _ _ (show 4 ≤ 4 by decide) (by decide), lst_blk fun k x hx => ⟨flat_block PI.len h0 hx, ?_⟩⟩
  have hx' := List.mem_of_getElem? hx
  simp [eP, xs] at hx'
  rcases hx' with rfl | rfl | rfl | rfl
  · exact ⟨by simp, by simp, z, z, z, hm0, sok_no _, lst_no⟩
  · exact ⟨by simp, by simp, z1, z, z, hm1, sok_no _, lst_no⟩
  · exact ⟨hop, hty, z2, z, z1, z, sok_no _, lst_no⟩
  · exact ⟨by simp, by simp, z, z2, z, z, sok_no _, lst_no⟩

theorem example_any (w : World) : Calls Try.prog 21 #[] w fun e w' => ∃ g0 g1 g2, e = .returned (eC 2 3 1 4 g0 g1 g2).v ∧ (eC 2 3 1 4 g0 g1 g2).ok w' ∧ Q w w' := by
  go_enter Try.func21, Try.ntmps21
  go_wp2
  refine bodyPost_ret (v := (eC 2 3 1 4 (w.heap.size + 1) (w.heap.size + 1 + 1 + 1) (w.heap.size + 1 + 1 + 1 + 1)).v) (by simp [results, Try.results21, go_sem, eC]) rfl ?_
  refine ⟨_, _, _, rfl, eC_ok (by unfold I64; omega) (by unfold I64; omega) (by omega) (by omega) (heap_old _ (heap_old _ (heap_old _ (heap_at (by simp))))) (heap_old _ (heap_at (by simp))) (heap_at (by simp)), ((((Q.refl w).alloc _).alloc _).alloc _).alloc _ |>.alloc _⟩

set_option maxRecDepth 100000 in
theorem one_any (w : World) (c : PC) (f : PF) (p : PP) (hcok : c.ok w) (h1 : c.fns = [f]) (h2 : f.parts = [p]) : Calls Try.prog 24 #[c.v] w fun e w' => e = .returned (.slice p.ia p.ins.length p.ic) ∧ Q w w' := by
  obtain ⟨fb, fo, efa, hfat⟩ := hcok.fns 0 f (by rw [h1]; rfl)
  obtain ⟨-, -, -, f3⟩ := hfat.1.four
  obtain ⟨pb, po, epa, hpat⟩ := hfat.2.parts 0 p (by rw [h2]; rfl)
  obtain ⟨p0, -, -, -, -⟩ := hpat.1.five
  have e1 : c.fns.length = 1 := by rw [h1]; rfl
  have e2 : f.parts.length = 1 := by rw [h2]; rfl
  rw [epa, e2, Nat.zero_mul, Nat.add_zero] at f3
  rw [Nat.zero_mul, Nat.add_zero] at p0
  have f3' := fun ob => cell_keep ((Q.refl w).alloc ob) f3
  have p0' := fun ob => cell_keep ((Q.refl w).alloc ob) p0
  clear hcok hfat hpat h1 h2 f3 p0
  go_enter Try.func24, Try.ntmps24
  go_wp2_with (fail)
  go_ret
  exact ⟨rfl, (Q.refl w).alloc _⟩

/-- Is code of a size that is looked at? -/
def fewP (c : PC) : Bool := c.fns.all (fun f => decide (f.regs ≤ 300)) && decide (IntKind.i64.wrap (codeN c) ≤ 400)

set_option maxRecDepth 100000 in
set_option maxHeartbeats 1000000 in
theorem few_any (w : World) (c : PC) (hcok : c.ok w) : Calls Try.prog 14 #[c.v] w fun e w' => e = .returned (.bool (fewP c)) ∧ Q w w' := by
  have FN : Hid (∀ (k : Nat) (f : PF), c.fns[k]? = some f → 300 < f.regs → fewP c = false) := fun k f hk hr => by
    unfold fewP
    have : c.fns.all (fun f => decide (f.regs ≤ 300)) = false := by
      rw [List.all_eq_false]
      exact ⟨f, List.mem_of_getElem? hk, by simp; omega⟩
    rw [this]; rfl
  have FY : Hid ((∀ (j : Nat) (g : PF), c.fns[j]? = some g → g.regs ≤ 300) → fewP c = decide (IntKind.i64.wrap (codeN c) ≤ 400)) := fun h => by
    unfold fewP
    have : c.fns.all (fun f => decide (f.regs ≤ 300)) = true := by
      rw [List.all_eq_true]
      intro x hx
      obtain ⟨j, hj, e⟩ := List.mem_iff_getElem.1 hx
      exact decide_eq_true (h j x (by rw [List.getElem?_eq_getElem hj, e]))
    rw [this]; rfl
  have HC := hideIt (fun X (h : Q (bxC w c) X) => bxC_at h)
  have HF := hideIt (fun X (h : Q (bxC w c) X) => Fns.keep ((bxC_q w c).trans h) hcok.fns)
  have CC := hideIt (rcount_any (bxC w c) c (hcok.keep (bxC_q w c)))
  have HQ := hideIt (bxC_q w c)
  have hlen : c.fns.length ≤ 9223372036854775807 := hcok.fsok.len
  generalize IntKind.i64.wrap (codeN c) = n at *
  generalize fewP c = fp at *
  clear hcok
  go_enter Try.func14, Try.ntmps14
  go_wp2_with (fail)
  go_loopw [3] (fun i wr => ∃ (k : Nat), i = .int .i64 k ∧ k ≤ c.fns.length ∧ Hid (∀ (j : Nat) (g : PF), j < k → c.fns[j]? = some g → g.regs ≤ 300) ∧ wr = bxC w c) (fun i _ => c.fns.length - (intOf i).toNat)
  case atStart => exact ⟨0, rfl, by omega, fun j g h => by omega, rfl⟩
  case round =>
    obtain ⟨k, rfl, hk, HA, hq⟩ := hrel
    obtain ⟨c0, c1, c2⟩ := (HC.out wr (by rw [hq]; exact Q.refl _)).three
    by_cases hlt : k < c.fns.length
    · obtain ⟨f, hf⟩ := get_of_lt hlt
      obtain ⟨fb, fo, efa, hfat⟩ := (HF.out wr (by rw [hq]; exact Q.refl _)) k f hf
      have hkl : (k : Int) < (c.fns.length : Int) := by omega
      rw [efa] at c2
      obtain ⟨f0, f1, f2, f3⟩ := hfat.1.four
      have HW := hideIt hq
      have FF := hideIt hf
      clear hf efa hfat hq
      by_cases h3 : 300 < f.regs
      · go_wp2_with (fail)
        go_ret
        exact ⟨by rw [FN.out k f FF.out h3]; rfl, by rw [HW.out]; exact HQ.out⟩
      · go_wp2_with (fail)
        go_roundw
        case rel => exact ⟨k + 1, by go_num, by omega, fun j g hj hg => by
          by_cases e : j = k
          · subst e; rw [FF.out] at hg; injection hg with hg; subst hg; omega
          · exact HA.out j g (by omega) hg, HW.out⟩
        case measure => simp [intOf]; omega
    · have hkl : ¬ (k : Int) < (c.fns.length : Int) := by omega
      subst hq
      go_wp2_with (first | (go_at_call 36; refine CC.out.mono ?_; rintro e x ⟨rfl, q1⟩; have HX := hideIt (HQ.out.trans q1); clear q1) | fail)
      go_ret
      exact ⟨by rw [FY.out fun j g hg => HA.out j g (by have := (List.getElem?_eq_some_iff.1 hg).1; omega) hg]; rfl, HX.out⟩

end Go.Proofs.Ytaomkfhbnakbjaa.Fo
