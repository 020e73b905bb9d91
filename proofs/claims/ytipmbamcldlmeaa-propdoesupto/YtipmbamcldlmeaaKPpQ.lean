/-
  The document's example of layer 17, its instructions, and whether code is of a size that is looked at (example, one, few of the statements of layer 17): contracts over the program; the conditions: the code lies in memory.
  The statement PropKeeps: its walk over the program; the conditions: the code lies in memory.
-/
import Derived.Test.YtipmbamcldlmeaaKPpO
namespace Go.Proofs.Ytipmbamcldlmeaa.Pp
open Go.RowKit
set_option linter.unusedVariables false

theorem heap_new (X : World) (o : Obj) : (X.alloc o).heap[X.heap.size]? = some o := heap_alloc_new X _
theorem heap_at {X : World} {o : Obj} {k : Nat} (h : k = X.heap.size) : (X.alloc o).heap[k]? = some o := by rw [h]; exact heap_new X o
theorem heap_old {X : World} {k : Nat} {o : Obj} (o' : Obj) (h : X.heap[k]? = some o) : (X.alloc o').heap[k]? = some o := by
  rw [Below.heap_alloc X o' k ((Array.getElem?_eq_some_iff.1 h).1)]
  exact h
theorem sok_no (z : Nat) : sok z none 0 0 := ⟨Nat.le_refl _, by decide, fun _ => rfl, by omega⟩
theorem lst_no {α : Type} {sz : Nat} {P : Nat → Nat → α → Prop} {a : Option Addr} : Lst sz P a [] := fun k x e => by simp at e
theorem lst_blk {α : Type} {sz g : Nat} {P : Nat → Nat → α → Prop} {l : List α} (h : ∀ k x, l[k]? = some x → P g (k * sz) x) : Lst sz P (some ⟨g, 0, none⟩) l := fun k x e => ⟨g, 0, rfl, by rw [Nat.zero_add]; exact h k x e⟩
theorem i64_zero : I64 0 := by unfold I64; omega

def xs (m : Int) : List PI := [⟨21, 0, 1, 0, 0, 0, [], none, 0⟩, ⟨33, 0, 0, 1, 0, 0, [], none, 0⟩, ⟨20, 0, 0, 0, 0, m, [], none, 0⟩, ⟨33, 0, 0, 1, 0, 0, [], none, 0⟩]
def eP (m : Int) (g0 : Nat) : PP := ⟨xs m, true, 0, 0, 0, some ⟨g0, 0, none⟩, 4⟩
def eF (m : Int) (g0 g1 : Nat) : PF := ⟨0, 4, [], [eP m g0], none, 0, some ⟨g1, 0, none⟩, 1⟩
def eC (m : Int) (g0 g1 g2 : Nat) : PC := ⟨[], [], [eF m g0 g1], none, 0, none, 0, some ⟨g2, 0, none⟩, 1⟩
theorem eC_valid (m : Int) (g0 g1 g2 : Nat) : validP (eC m g0 g1 g2) = 0 := rfl
theorem eC_prop (m : Int) : propL false [] (xs m) = [⟨21, 0, 1, 0, 0, 0, [], none, 0⟩, ⟨33, 0, 0, 0, 0, 0, [], none, 0⟩, ⟨20, 0, 0, 0, 0, m, [], none, 0⟩, ⟨33, 0, 0, 1, 0, 0, [], none, 0⟩] := rfl
theorem eC_wrong (m : Int) : propL true [] (xs m) = [⟨21, 0, 1, 0, 0, 0, [], none, 0⟩, ⟨33, 0, 0, 0, 0, 0, [], none, 0⟩, ⟨20, 0, 0, 0, 0, m, [], none, 0⟩, ⟨33, 0, 0, 0, 0, 0, [], none, 0⟩] := rfl

theorem eC_ok {w : World} {m : Int} {g0 g1 g2 : Nat} (hm : I64 m)
    (h0 : w.heap[g0]? = some (.cells ((xs m).flatMap PI.cells).toArray 49 (0, 0)))
    (h1 : w.heap[g1]? = some (.cells ([eP m g0].flatMap PP.cells).toArray 47 (0, 0)))
    (h2 : w.heap[g2]? = some (.cells ([eF m g0 g1].flatMap PF.cells).toArray 44 (0, 0))) : (eC m g0 g1 g2).ok w := by
  have z := i64_zero
  have z1 : I64 1 := by unfold I64; omega
  have z2 : I64 2 := by unfold I64; omega
  have z4 : I64 4 := by unfold I64; omega
  have s1 : ∀ g z k, k ≤ 4 → z ≤ 64 → sok z (some ⟨g, 0, none⟩) k k := fun g z k hk hz => ⟨Nat.le_refl _, by unfold maxLen; omega, (fun h => by cases h), by have : k * z ≤ 4 * 64 := Nat.mul_le_mul hk hz; omega⟩
  refine ⟨sok_no _, lst_no, sok_no _, lst_no, s1 _ _ _ (show 1 ≤ 4 by decide) (by decide), lst_blk fun k f hf => ⟨flat_block PF.len h2 hf, ?_⟩⟩
  have hf' := List.mem_of_getElem? hf
  simp [eC] at hf'
  subst hf'
  refine ⟨z, z4, sok_no _, lst_no, s1 _ _ _ (show 1 ≤ 4 by decide) (by decide), lst_blk fun k p hp => ⟨flat_block PP.len h1 hp, ?_⟩⟩
  have hp' := List.mem_of_getElem? hp
  simp [eF] at hp'
  subst hp'
  refine ⟨z, z, z, s1 _ _ _ (show 4 ≤ 4 by decide) (by decide), lst_blk fun k x hx => ⟨flat_block PI.len h0 hx, ?_⟩⟩
  have hx' := List.mem_of_getElem? hx
  simp [eP, xs] at hx'
  rcases hx' with rfl | rfl | rfl | rfl
  · exact ⟨by simp, by simp, z1, z, z, z, sok_no _, lst_no⟩
  · exact ⟨by simp, by simp, z, z1, z, z, sok_no _, lst_no⟩
  · exact ⟨by simp, by simp, z, z, z, hm, sok_no _, lst_no⟩
  · exact ⟨by simp, by simp, z, z1, z, z, sok_no _, lst_no⟩

theorem example_any (w : World) : Calls Try.prog 18 #[] w fun e w' => ∃ g0 g1 g2, e = .returned (eC 9 g0 g1 g2).v ∧ (eC 9 g0 g1 g2).ok w' ∧ Q w w' := by
  go_enter Try.func18, Try.ntmps18
  go_wp2
  refine bodyPost_ret (v := (eC 9 (w.heap.size + 1) (w.heap.size + 1 + 1 + 1) (w.heap.size + 1 + 1 + 1 + 1)).v) (by simp [results, Try.results18, go_sem, eC]) rfl ?_
  refine ⟨_, _, _, rfl, eC_ok (by unfold I64; omega) (heap_old _ (heap_old _ (heap_old _ (heap_at (by simp))))) (heap_old _ (heap_at (by simp))) (heap_at (by simp)), ((((Q.refl w).alloc _).alloc _).alloc _).alloc _ |>.alloc _⟩

set_option maxRecDepth 100000 in
theorem one_any (w : World) (c : PC) (f : PF) (p : PP) (hcok : c.ok w) (h1 : c.fns = [f]) (h2 : f.parts = [p]) : Calls Try.prog 19 #[c.v] w fun e w' => e = .returned (.slice p.ia p.ins.length p.ic) ∧ Q w w' := by
  obtain ⟨fb, fo, efa, hfat⟩ := hcok.fns 0 f (by rw [h1]; rfl)
  obtain ⟨-, -, -, f3⟩ := hfat.1.four
  obtain ⟨pb, po, epa, hpat⟩ := hfat.2.parts 0 p (by rw [h2]; rfl)
  obtain ⟨p0, -, -, -, -⟩ := hpat.1.five
  have e1 : c.fns.length = 1 := by rw [h1]; rfl
  have e2 : f.parts.length = 1 := by rw [h2]; rfl
  rw [epa, e2, Nat.zero_mul, Nat.add_zero] at f3
  rw [Nat.zero_mul, Nat.add_zero] at p0
  have f3' := fun ob => cell_keep ((Q.refl w).alloc ob) f3
  have p0' := fun ob => cell_keep ((Q.refl w).alloc ob) p0
  clear hcok hfat hpat h1 h2 f3 p0
  go_enter Try.func19, Try.ntmps19
  go_wp2_with (fail)
  go_ret
  exact ⟨rfl, (Q.refl w).alloc _⟩

/-- Is code of a size that is looked at? -/
def fewP (c : PC) : Bool := c.fns.all (fun f => decide (f.regs ≤ 300)) && decide (IntKind.i64.wrap (codeN c) ≤ 400)

set_option maxRecDepth 100000 in
set_option maxHeartbeats 1000000 in
theorem few_any (w : World) (c : PC) (hcok : c.ok w) : Calls Try.prog 8 #[c.v] w fun e w' => e = .returned (.bool (fewP c)) ∧ Q w w' := by
  have FN : Hid (∀ (k : Nat) (f : PF), c.fns[k]? = some f → 300 < f.regs → fewP c = false) := fun k f hk hr => by
    unfold fewP
    have : c.fns.all (fun f => decide (f.regs ≤ 300)) = false := by
      rw [List.all_eq_false]
      exact ⟨f, List.mem_of_getElem? hk, by simp; omega⟩
    rw [this]; rfl
  have FY : Hid ((∀ (j : Nat) (g : PF), c.fns[j]? = some g → g.regs ≤ 300) → fewP c = decide (IntKind.i64.wrap (codeN c) ≤ 400)) := fun h => by
    unfold fewP
    have : c.fns.all (fun f => decide (f.regs ≤ 300)) = true := by
      rw [List.all_eq_true]
      intro x hx
      obtain ⟨j, hj, e⟩ := List.mem_iff_getElem.1 hx
      exact decide_eq_true (h j x (by rw [List.getElem?_eq_getElem hj, e]))
    rw [this]; rfl
  have HC := hideIt (fun X (h : Q (bxC w c) X) => bxC_at h)
  have HF := hideIt (fun X (h : Q (bxC w c) X) => Fns.keep ((bxC_q w c).trans h) hcok.fns)
  have CC := hideIt (rcount_any (bxC w c) c (hcok.keep (bxC_q w c)))
  have HQ := hideIt (bxC_q w c)
  have hlen : c.fns.length ≤ 9223372036854775807 := hcok.fsok.len
  generalize IntKind.i64.wrap (codeN c) = n at *
  generalize fewP c = fp at *
  clear hcok
  go_enter Try.func8, Try.ntmps8
  go_wp2_with (fail)
  go_loopw [3] (fun i wr => ∃ (k : Nat), i = .int .i64 k ∧ k ≤ c.fns.length ∧ Hid (∀ (j : Nat) (g : PF), j < k → c.fns[j]? = some g → g.regs ≤ 300) ∧ wr = bxC w c) (fun i _ => c.fns.length - (intOf i).toNat)
  case atStart => exact ⟨0, rfl, by omega, fun j g h => by omega, rfl⟩
  case round =>
    obtain ⟨k, rfl, hk, HA, hq⟩ := hrel
    obtain ⟨c0, c1, c2⟩ := (HC.out wr (by rw [hq]; exact Q.refl _)).three
    by_cases hlt : k < c.fns.length
    · obtain ⟨f, hf⟩ := get_of_lt hlt
      obtain ⟨fb, fo, efa, hfat⟩ := (HF.out wr (by rw [hq]; exact Q.refl _)) k f hf
      have hkl : (k : Int) < (c.fns.length : Int) := by omega
      rw [efa] at c2
      obtain ⟨f0, f1, f2, f3⟩ := hfat.1.four
      have HW := hideIt hq
      have FF := hideIt hf
      clear hf efa hfat hq
      by_cases h3 : 300 < f.regs
      · go_wp2_with (fail)
        go_ret
        exact ⟨by rw [FN.out k f FF.out h3]; rfl, by rw [HW.out]; exact HQ.out⟩
      · go_wp2_with (fail)
        go_roundw
        case rel => exact ⟨k + 1, by go_num, by omega, fun j g hj hg => by
          by_cases e : j = k
          · subst e; rw [FF.out] at hg; injection hg with hg; subst hg; omega
          · exact HA.out j g (by omega) hg, HW.out⟩
        case measure => simp [intOf]; omega
    · have hkl : ¬ (k : Int) < (c.fns.length : Int) := by omega
      subst hq
      go_wp2_with (first | (go_at_call 20; refine CC.out.mono ?_; rintro e x ⟨rfl, q1⟩; have HX := hideIt (HQ.out.trans q1); clear q1) | fail)
      go_ret
      exact ⟨by rw [FY.out fun j g hg => HA.out j g (by have := (List.getElem?_eq_some_iff.1 hg).1; omega) hg]; rfl, HX.out⟩

theorem evl_one {α : Type} {R : α → α → Prop} {l : List α} {y : α} (h : EvL R l [y]) : ∃ x, l = [x] ∧ R x y := by
  match l, h with
  | [x], h => exact ⟨x, rfl, h.each 0 x y rfl rfl⟩
  | [], h => have := h.len; simp at this
  | _ :: _ :: _, h => have := h.len; simp at this
theorem e_form {fault : Bool} {A : PC} {m : Int} {g0 g1 g2 : Nat} (h : EvC A (propC fault (eC m g0 g1 g2))) : ∃ (f : PF) (p : PP), A.fns = [f] ∧ f.parts = [p] ∧ EvL EvI p.ins (propL fault [] (xs m)) := by
  have h1 : EvL EvF A.fns [propF fault (eF m g0 g1)] := h.fns
  obtain ⟨f, e1, h2⟩ := evl_one h1
  have h3 : EvL EvP f.parts [propP fault (eP m g0)] := h2.parts
  obtain ⟨p, e2, h4⟩ := evl_one h3
  exact ⟨f, p, e1, e2, h4.ins⟩
theorem erun_any (w : World) (m : Int) (fault : Bool) (g0 g1 g2 : Nat) (h : (eC m g0 g1 g2).ok w) : Calls Try.prog 9 #[(eC m g0 g1 g2).v, .bool fault] w fun e w' => ∃ A : PC, e = .returned (.tuple #[A.v, .int .i64 0]) ∧ EvC A (propC fault (eC m g0 g1 g2)) ∧ CodeL w.heap.size w' A ∧ Q w w' :=
  run_good w _ fault h (eC_valid _ _ _ _) (Dn.valid_vc h (eC_valid _ _ _ _)).1.fn 4 4 (fun f hf => by simp [eC] at hf; subst hf; simp [eF]) (by decide) (by simp [eC, eF, eP, xs, cntF, cntP]) (by decide)
theorem erun (w : World) (g0 g1 g2 : Nat) (h : (eC 9 g0 g1 g2).ok w) : Calls Try.prog 9 #[(eC 9 g0 g1 g2).v, .bool false] w fun e w' => ∃ (A : PC) (f : PF) (p : PP) (ib io : Nat), e = .returned (.tuple #[A.v, .int .i64 0]) ∧ A.ok w' ∧ A.fns = [f] ∧ f.parts = [p] ∧ p.ins.length = 4 ∧ p.ia = some ⟨ib, io, none⟩ ∧ w'.cell? ⟨ib, io + 7 + 3, none⟩ = some (.int .i64 0) ∧ w'.cell? ⟨ib, io + 21 + 3, none⟩ = some (.int .i64 1) ∧ Q w w' := by
  refine (erun_any w 9 false g0 g1 g2 h).mono ?_
  rintro e w' ⟨A, rfl, hev, hl, hb⟩
  obtain ⟨f, p, e1, e2, h5⟩ := e_form hev
  rw [eC_prop] at h5
  have hle := h5.len
  obtain ⟨x1, hx1⟩ := get_of_lt (l := p.ins) (k := 1) (by rw [hle]; decide)
  obtain ⟨x3, hx3⟩ := get_of_lt (l := p.ins) (k := 3) (by rw [hle]; decide)
  have a1 := (h5.each 1 x1 _ hx1 rfl).a
  have a3 := (h5.each 3 x3 _ hx3 rfl).a
  obtain ⟨fb, fo, efa, hfat⟩ := hl.ok.fns 0 f (by rw [e1]; rfl)
  obtain ⟨pb, po, epa, hpat⟩ := hfat.2.parts 0 p (by rw [e2]; rfl)
  obtain ⟨ib, io, eia, hi1⟩ := hpat.2.ins 1 x1 hx1
  obtain ⟨ib', io', eia', hi3⟩ := hpat.2.ins 3 x3 hx3
  rw [eia] at eia'
  simp at eia'
  obtain ⟨rfl, rfl⟩ := eia'
  refine ⟨A, f, p, ib, io, rfl, hl.ok, e1, e2, hle, eia, ?_, ?_, hb⟩
  · have := hi1.1.seven.2.2.2.1
    rw [this, a1]
  · have := hi3.1.seven.2.2.2.1
    rw [this, a3]

set_option maxRecDepth 100000 in
theorem awake_any (w : World) : Calls Try.prog 7 #[] w fun e w' => e = .returned (.bool true) ∧ Q w w' := by
  have CE := hideIt (fun X => example_any X)
  have CR := hideIt (fun X g0 g1 g2 h => erun X g0 g1 g2 h)
  have CO := hideIt (fun X c f p h h1 h2 => one_any X c f p h h1 h2)
  go_enter Try.func7, Try.ntmps7
  go_wp2_with (first
    | (go_at_call 18; refine (CE.out _).mono ?_; rintro e x ⟨g0, g1, g2, rfl, hok, q1⟩; have HK := hideIt hok; have HQ1 := hideIt q1; clear hok q1)
    | (go_at_call 9; refine Calls.mono (CR.out _ _ _ _ HK.out) ?_; rintro e y ⟨A, f, p, ib, io, rfl, a1, a2, a3, a4, a5, a6, a7, q2⟩; have A1 := hideIt a1; have A2 := hideIt a2; have A3 := hideIt a3; have A6 := hideIt a6; have A7 := hideIt a7; have HQ2 := hideIt (HQ1.out.trans q2); clear q2 a1 a2 a3 a6 a7)
    | (go_at_call 19; refine Calls.mono (CO.out _ A f p (A1.out.keep ((Q.refl _).alloc _)) A2.out A3.out) ?_; rw [a4, a5]; rintro e z ⟨rfl, q3⟩; have c1 := cell_keep (((Q.refl y).alloc _).trans q3) A6.out; have c2 := cell_keep (((Q.refl y).alloc _).trans q3) A7.out; have HQ3 := hideIt ((HQ2.out.alloc _).trans q3); clear q3)
    | fail)
  go_ret
  exact ⟨rfl, HQ3.out⟩

set_option maxRecDepth 100000 in
set_option maxHeartbeats 2000000 in
theorem same_eq (w : World) (x t : Int) (sp : Bool) (n : Nat) (l : List Int) (a b : Option Addr) (ca cb : Nat) (hlen : l.length ≤ 9223372036854775807) (ha : Dn.Trc w a l) (hb : Dn.Trc w b l) :
    Calls Try.prog 12 #[.agg #[.bool true, .int .i64 x, .int .u8 t, .bool sp, .int .i64 (n : Int), .slice a l.length ca], .agg #[.bool true, .int .i64 x, .int .u8 t, .bool sp, .int .i64 (n : Int), .slice b l.length cb]] w fun e w' => e = .returned (.bool true) ∧ Q w w' := by
  have hq0 : Q w ((w.alloc (.cells #[.bool true, .int .i64 x, .int .u8 t, .bool sp, .int .i64 (n : Int), .slice a l.length ca] 36)).alloc (.cells #[.bool true, .int .i64 x, .int .u8 t, .bool sp, .int .i64 (n : Int), .slice b l.length cb] 36)) := ((Q.refl w).alloc _).alloc _
  have HA := hideIt (ha.keep hq0)
  have HB := hideIt (hb.keep hq0)
  have HQ0 := hideIt hq0
  have KA : Hid (∀ X, Q ((w.alloc (.cells #[.bool true, .int .i64 x, .int .u8 t, .bool sp, .int .i64 (n : Int), .slice a l.length ca] 36)).alloc (.cells #[.bool true, .int .i64 x, .int .u8 t, .bool sp, .int .i64 (n : Int), .slice b l.length cb] 36)) X → X.cell? ⟨w.heap.size, 5, none⟩ = some (.slice a l.length ca) ∧ X.cell? ⟨w.heap.size + 1, 5, none⟩ = some (.slice b l.length cb)) := fun X hX => by
    constructor
    · exact cell_keep hX ((cell_of_block (heap_old _ (heap_at rfl)) 5).trans rfl)
    · exact cell_keep hX ((cell_of_block (heap_at (by simp)) 5).trans rfl)
  clear ha hb hq0
  go_enter Try.func12, Try.ntmps12
  go_wp2_with (fail)
  go_loopw [5] (fun i wr => ∃ (k : Nat), i = .int .i64 k ∧ k ≤ l.length ∧ Q ((w.alloc (.cells #[.bool true, .int .i64 x, .int .u8 t, .bool sp, .int .i64 (n : Int), .slice a l.length ca] 36)).alloc (.cells #[.bool true, .int .i64 x, .int .u8 t, .bool sp, .int .i64 (n : Int), .slice b l.length cb] 36)) wr) (fun i _ => l.length - (intOf i).toNat)
  case atStart => exact ⟨0, rfl, by omega, Q.refl _⟩
  case round =>
    obtain ⟨k, rfl, hk, hq⟩ := hrel
    have HQ := hideIt hq
    obtain ⟨k1, k2⟩ := KA.out _ hq
    clear hq
    by_cases hlt : k < l.length
    · obtain ⟨z, hz⟩ := get_of_lt hlt
      obtain ⟨b1, o1, e3, hc1⟩ := (Dn.Trc.keep HA.out HQ.out) k z hz
      obtain ⟨b2, o2, e4, hc2⟩ := (Dn.Trc.keep HB.out HQ.out) k z hz
      subst e3 e4
      have hkl : (k : Int) < (l.length : Int) := by omega
      clear hz
      go_wp2_with (fail)
      go_quiet (fail)
      go_wp2
      go_roundw
      case rel => exact ⟨k + 1, by go_num, by omega, Q.drewN HQ.out _⟩
      case measure => simp [intOf]; omega
    · go_wp2_with (fail)
      go_ret
      exact ⟨rfl, HQ0.out.trans HQ.out⟩

end Go.Proofs.Ytipmbamcldlmeaa.Pp

namespace Go.Proofs.Ytipmbamcldlmeaa.Pp
open Go.RowKit
set_option linter.unusedVariables false

theorem wf16 {z : Int} (h : (Lit.int .u16 z).wf = true) : 0 ≤ z ∧ z ≤ 65535 := by
  simp [Lit.wf, IntKind.min, IntKind.max, IntKind.bits, IntKind.signed] at h; omega
/-- What is looked at is small. -/
theorem few_fit {c : PC} (hf : fewP c = true) (hsz : codeN c ≤ 1099511627776) : (∀ f ∈ c.fns, f.regs ≤ (300 : Nat)) ∧ cntF c.fns ≤ 400 := by
  unfold fewP at hf
  simp only [Bool.and_eq_true, decide_eq_true_eq] at hf
  have h0 := cnt_code c
  have h2 := hf.2
  rw [IntKind.wrap_i64] at h2
  refine ⟨fun f hm => ?_, by omega⟩
  have := List.all_eq_true.1 hf.1 f hm
  simpa using this
theorem run_few (w : World) (c : PC) (fault : Bool) (hcok : c.ok w) (hv : validP c = 0) (hf : fewP c = true) (hsz : codeN c ≤ 1099511627776) : Calls Try.prog 9 #[c.v, .bool fault] w fun e w' => ∃ A : PC, e = .returned (.tuple #[A.v, .int .i64 0]) ∧ EvC A (propC fault c) ∧ CodeL w.heap.size w' A ∧ Q w w' :=
  run_good w c fault hcok hv (Dn.valid_vc hcok hv).1.fn 300 400 (few_fit hf hsz).1 (by decide) (few_fit hf hsz).2 (by decide)

set_option maxRecDepth 100000 in
set_option maxHeartbeats 4000000 in
theorem keeps_few (c : PC) (n : Int) (w : World) (hcok : c.ok w) (hf : fewP c = false) : Calls Try.prog 3 #[c.v, .int .u16 n] w fun e w' => e = .returned (.bool true) ∧ Below w.heap.size w w' := by
  have HB : Hid (∀ X, Q (bxC w c) X → Cds X w.heap.size c) := fun X h => (cds_box w c).keep h
  have qB := hideIt (bxC_q w c)
  have CA : Hid (∀ X, Calls Try.prog 7 #[] X fun e w' => e = .returned (.bool true) ∧ Q X w') := fun X => awake_any X
  have CF : Hid (∀ X, Q (bxC w c) X → Calls Try.prog 8 #[c.v] X fun e w' => e = .returned (.bool false) ∧ Q X w') := fun X h => by have := few_any X c (hcok.keep ((bxC_q w c).trans h)); rw [hf] at this; exact this
  generalize hBB : bxC w c = B at *
  have HBB := hideIt hBB
  clear hcok hBB hf
  go_enter Try.func3, Try.ntmps3
  go_wp2_with (fail)
  rw [show w.alloc (.cells #[.slice c.ga c.gl.length c.gc, .slice c.na c.ini.length c.nc, .slice c.fa c.fns.length c.fc] 26) = B from HBB.out]
  go_wp2_with (first
    | (go_at_call 7; first
        | (refine Calls.mono (CA.out y) ?_; rintro e z ⟨rfl, q1⟩; have HZ := hideIt (HY.out.trans q1); clear q1)
        | (refine Calls.mono (CA.out _) ?_; rintro e x ⟨rfl, q1⟩; have HX := hideIt q1; obtain ⟨s1, s2, s3⟩ := HB.out x q1; clear q1))
    | (go_at_call 8; refine Calls.mono (CF.out _ HX.out) ?_; rintro e y ⟨rfl, q1⟩; have HY := hideIt (HX.out.trans q1); clear q1 s1 s2 s3)
    | fail)
  go_ret
  exact ⟨rfl, qB.out.trans HZ.out⟩

set_option maxRecDepth 100000 in
set_option maxHeartbeats 4000000 in
theorem keeps_bad (c : PC) (n : Int) (w : World) (hcok : c.ok w) (hf : fewP c = true) (hv : ¬ validP c = 0) : Calls Try.prog 3 #[c.v, .int .u16 n] w fun e w' => e = .returned (.bool true) ∧ Below w.heap.size w w' := by
  have HB : Hid (∀ X, Q (bxC w c) X → Cds X w.heap.size c) := fun X h => (cds_box w c).keep h
  have qB := hideIt (bxC_q w c)
  have CA : Hid (∀ X, Calls Try.prog 7 #[] X fun e w' => e = .returned (.bool true) ∧ Q X w') := fun X => awake_any X
  have CF : Hid (∀ X, Q (bxC w c) X → Calls Try.prog 8 #[c.v] X fun e w' => e = .returned (.bool true) ∧ Q X w') := fun X h => by have := few_any X c (hcok.keep ((bxC_q w c).trans h)); rw [hf] at this; exact this
  have CR : Hid (∀ X, Q (bxC w c) X → Calls Try.prog 9 #[c.v, .bool false] X fun e w' => e = .returned (.tuple #[.agg zeroC, .int .i64 (validP c)]) ∧ Q X w') := fun X h => run_bad X c false (hcok.keep ((bxC_q w c).trans h)) hv
  have CV : Hid (∀ X, Q (bxC w c) X → Calls Try.prog 10 #[c.v] X fun e w' => e = .returned (.int .i64 (validP c)) ∧ Q X w') := fun X h => rvalid_any X c (hcok.keep ((bxC_q w c).trans h))
  have d2 : (validP c != 0) = true := by simpa using hv
  generalize validP c = v at *
  generalize hBB : bxC w c = B at *
  have HBB := hideIt hBB
  clear hcok hBB hf hv
  go_enter Try.func3, Try.ntmps3
  go_wp2_with (fail)
  rw [show w.alloc (.cells #[.slice c.ga c.gl.length c.gc, .slice c.na c.ini.length c.nc, .slice c.fa c.fns.length c.fc] 26) = B from HBB.out]
  go_wp2_with (first
    | (go_at_call 7; refine Calls.mono (CA.out _) ?_; rintro e x ⟨rfl, q1⟩; have HX := hideIt q1; obtain ⟨s1, s2, s3⟩ := HB.out x q1; clear q1)
    | (go_at_call 8; refine Calls.mono (CF.out _ HX.out) ?_; rintro e y ⟨rfl, q1⟩; have HY := hideIt (HX.out.trans q1); clear q1 s1 s2 s3; obtain ⟨s1, s2, s3⟩ := HB.out y HY.out)
    | (go_at_call 9; refine Calls.mono (CR.out _ HY.out) ?_; rintro e z ⟨rfl, q1⟩; have HZ := hideIt (HY.out.trans q1); clear q1 s1 s2 s3; obtain ⟨s1, s2, s3⟩ := HB.out z HZ.out; have r1 := fun ob => cell_keep ((Q.refl z).alloc ob) s1; have r2 := fun ob => cell_keep ((Q.refl z).alloc ob) s2; have r3 := fun ob => cell_keep ((Q.refl z).alloc ob) s3; clear s1 s2 s3)
    | (go_at_call 10; refine Calls.mono (CV.out _ (HZ.out.alloc _)) ?_; rintro e u ⟨rfl, q1⟩; have HU := hideIt ((HZ.out.alloc _).trans q1); have bk := (q1.block z.heap.size (by simp)).trans (heap_new z _); have t2 := cell_of_block bk 2; clear q1 r1 r2 r3 bk)
    | fail)
  go_ret
  exact ⟨rfl, qB.out.trans HU.out⟩

/-- A run's answer by the document, written out. -/
abbrev DoA (X : World) (h : Bool) (x t : Int) (sp : Bool) (n : Nat) (tr : List Int) (e : Ending) (w' : World) : Prop := ∃ ta tc, e = .returned (.tuple #[.agg #[.bool h, .int .i64 x, .int .u8 t, .bool sp, .int .i64 (n : Int), .slice ta tr.length tc], .int .i64 0]) ∧ Dn.Trc w' ta tr ∧ tr.length ≤ 8388608 ∧ Q X w'

set_option maxRecDepth 100000 in
set_option maxHeartbeats 40000000 in
theorem keeps_over (c : PC) (n : Int) (w : World) (hcok : c.ok w) (hn : 0 ≤ n ∧ n ≤ 65535) (t : Int) (sp : Bool) (sn : Nat) (tr : List Int) (k : Nat) (hk : (k : Int) = n.tmod 3000) (hd : ∀ X, c.ok X → Does X c k false 0 t sp sn tr) (hf : fewP c = true) (hsz : codeN c ≤ 1099511627776) (hv : validP c = 0) : Calls Try.prog 3 #[c.v, .int .u16 n] w fun e w' => e = .returned (.bool true) ∧ Below w.heap.size w w' := by
  have HB : Hid (∀ X, Q (bxC w c) X → Cds X w.heap.size c) := fun X h => (cds_box w c).keep h
  have qB := hideIt (bxC_q w c)
  have CA : Hid (∀ X, Calls Try.prog 7 #[] X fun e w' => e = .returned (.bool true) ∧ Q X w') := fun X => awake_any X
  have CF : Hid (∀ X, Q (bxC w c) X → Calls Try.prog 8 #[c.v] X fun e w' => e = .returned (.bool true) ∧ Q X w') := fun X h => by have := few_any X c (hcok.keep ((bxC_q w c).trans h)); rw [hf] at this; exact this
  have CR : Hid (∀ X, Q (bxC w c) X → Calls Try.prog 9 #[c.v, .bool false] X fun e w' => ∃ A : PC, e = .returned (.tuple #[A.v, .int .i64 0]) ∧ EvC A (propC false c) ∧ A.ok w' ∧ Q X w') := fun X h => (run_few X c false (hcok.keep ((bxC_q w c).trans h)) hv hf hsz).mono fun e w' ⟨A, a1, a2, a3, a4⟩ => ⟨A, a1, a2, a3.ok, a4⟩
  have CV : Hid (∀ X, Q (bxC w c) X → Calls Try.prog 10 #[c.v] X fun e w' => e = .returned (.int .i64 0) ∧ Q X w') := fun X h => by have := rvalid_any X c (hcok.keep ((bxC_q w c).trans h)); rw [hv] at this; exact this
  have CW : Hid (∀ A, EvC A (propC false c) → ∀ X, A.ok X → Calls Try.prog 10 #[A.v] X fun e w' => e = .returned (.int .i64 0) ∧ Q X w') := fun A hA X h => by have := rvalid_any X A h; rw [valid_ev hcok hA hv] at this; exact this
  obtain ⟨m, rfl⟩ : ∃ m : Nat, n = (m : Int) := ⟨n.toNat, by omega⟩
  have t1 : (m : Int).tmod 3000 = (k : Int) := hk.symm
  have HC : Hid (∀ X, Q (bxC w c) X → c.ok X) := fun X h => hcok.keep ((bxC_q w c).trans h)
  generalize hBB : bxC w c = B at *
  have HBB := hideIt hBB
  clear hcok hBB hf hv hk
  go_enter Try.func3, Try.ntmps3
  go_wp2_with (fail)
  rw [show w.alloc (.cells #[.slice c.ga c.gl.length c.gc, .slice c.na c.ini.length c.nc, .slice c.fa c.fns.length c.fc] 26) = B from HBB.out]
  have CD : Hid (∀ X, c.ok X → Calls Try.prog 11 #[c.v, .int .i64 (k : Int)] X (DoA X false 0 t sp sn tr)) := hd
  clear hd
  go_wp2_with (first
    | (go_at_call 7; refine Calls.mono (CA.out _) ?_; rintro e x1 ⟨rfl, q1⟩; have HX := hideIt q1; obtain ⟨s1, s2, s3⟩ := HB.out x1 q1; clear q1)
    | (go_at_call 8; refine Calls.mono (CF.out _ HX.out) ?_; rintro e y ⟨rfl, q1⟩; have HY := hideIt (HX.out.trans q1); clear q1 s1 s2 s3; obtain ⟨s1, s2, s3⟩ := HB.out y HY.out)
    | (go_at_call 9; refine Calls.mono (CR.out _ HY.out) ?_; rintro e z ⟨A, rfl, a1, a2, q1⟩; have HE := hideIt a1; have HO := hideIt a2; have HZ := hideIt (HY.out.trans q1); clear q1 a1 a2 s1 s2 s3; obtain ⟨s1, s2, s3⟩ := HB.out z HZ.out; have r1 := fun ob => cell_keep ((Q.refl z).alloc ob) s1; have r2 := fun ob => cell_keep ((Q.refl z).alloc ob) s2; have r3 := fun ob => cell_keep ((Q.refl z).alloc ob) s3; clear s1 s2 s3)
    | (go_at_call 10; first
        | (refine Calls.mono (CW.out A HE.out u (HO.out.keep HU1.out)) ?_; rintro e v ⟨rfl, q1⟩; have HV := hideIt (HU.out.trans q1); clear q1 t1' t2' t3'; obtain ⟨s1, s2, s3⟩ := HB.out v HV.out)
        | (refine Calls.mono (CV.out _ (HZ.out.alloc _)) ?_; rintro e u ⟨rfl, q1⟩; have HU := hideIt ((HZ.out.alloc _).trans q1); have HU1 := hideIt (((Q.refl z).alloc _).trans q1); have HDU := hideIt ((cds_box z A).keep q1); clear q1 r1 r2 r3; obtain ⟨t1', t2', t3'⟩ := HDU.out))
    | (go_at_call 11; refine Calls.mono (CD.out v (HC.out _ HV.out)) ?_; rintro e p ⟨ta, tc, rfl, ht, hl, hb⟩; have HP := hideIt (HV.out.trans hb); clear s1 s2 s3 ht hl hb)
    | fail)
  go_ret
  exact ⟨rfl, qB.out.trans (HP.out.alloc _)⟩

end Go.Proofs.Ytipmbamcldlmeaa.Pp
