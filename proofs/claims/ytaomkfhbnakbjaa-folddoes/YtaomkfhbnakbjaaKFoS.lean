/-
  The document's example folded, runs of folded code, and whether two runs halted alike (awake and same of the statements of layer 16): contracts over the program; the conditions: what is handed in lies in memory.
-/
import Derived.Test.YtaomkfhbnakbjaaKFoR
import Derived.Test.YtaomkfhbnakbjaaKFoQ
namespace Go.Proofs.Ytaomkfhbnakbjaa.Fo
open Go.RowKit
set_option linter.unusedVariables false

/-! ### A run takes no more steps than it may -/
def LeC (cf : CallT) (k : Nat) : Prop := ∀ j A s v s', cf j A s = .ok v s' → s.n ≤ k → s'.n ≤ k
theorem exI_le {cf : CallT} {k keep : Nat} (hm : LeC cf k) {x : PI} {ρ ρ' : Rg} {s s' : St} (h : exI cf k keep x ρ s = .ok ρ' s') (hs : s.n ≤ k) : s'.n ≤ k := by
  rw [Dn.exI_B] at h
  by_cases hn : s.n = k
  · rw [if_pos hn] at h; cases h
  · rw [if_neg hn] at h
    unfold Dn.exB at h
    have hup : s.up.n = s.n + 1 := rfl
    split at h
    · injection h with h1 h2; subst h2; show s.n + 1 ≤ k; omega
    · split at h
      · split at h
        · injection h with h1 h2; subst h2; show s.n + 1 ≤ k; omega
        · cases h
      · split at h
        · split at h
          · injection h with h1 h2; subst h2; show s.n + 1 ≤ k; omega
          · cases h
        · split at h
          · cases hc : cf x.imm.toNat (x.args.map (rg ρ)) s.up with
            | ok v s2 => rw [hc] at h; injection h with h1 h2; subst h2; exact hm _ _ _ _ _ hc (by omega)
            | over t sp s2 => rw [hc] at h; cases h
          · split at h
            · injection h with h1 h2; subst h2; show s.n + 1 ≤ k; omega
            · cases h
theorem insR_le {cf : CallT} {k keep : Nat} (hc : LeC cf k) : ∀ (l : List PI) {ρ ρ' : Rg} {s s' : St}, insR cf k keep l ρ s = .ok ρ' s' → s.n ≤ k → s'.n ≤ k
  | [], ρ, ρ', s, s', h, hs => by unfold insR at h; injection h with _ h; subst h; exact hs
  | i :: l, ρ, ρ', s, s', h, hs => by
    unfold insR at h
    split at h
    · rename_i hq
      exact insR_le hc l h (exI_le hc hq hs)
    · cases h
theorem partsR_le {cf : CallT} {k keep : Nat} (hc : LeC cf k) {f : PF} : ∀ (g at' : Nat) {ρ : Rg} {s : St} {v : Int} {s' : St}, partsR cf k keep f g at' ρ s = .ok v s' → s.n ≤ k → s'.n ≤ k
  | 0, at', ρ, s, v, s', h, hs => by unfold partsR at h; cases h
  | g + 1, at', ρ, s, v, s', h, hs => by
    unfold partsR at h
    split at h
    · cases h
    · split at h
      · cases h
      · rename_i s2 hq
        have h1 := insR_le hc _ hq hs
        split at h
        · cases h
        · rename_i hne
          have h2 : s2.n + 1 ≤ k := by omega
          split at h
          · injection h with _ h; subst h; exact h2
          · exact partsR_le hc g _ h h2
theorem callR_le (c : PC) (k : Nat) : ∀ g, LeC (callR c k g) k
  | 0, j, a, s, v, s', h, hs => by unfold callR at h; cases h
  | g + 1, j, a, s, v, s', h, hs => by
    unfold callR at h
    split at h
    · cases h
    · split at h
      · cases h
      · split at h
        · rename_i hq
          injection h with _ h; subst h
          have := partsR_le (callR_le c k g) _ _ hq hs
          exact this
        · cases h
theorem run_le {c : PC} {k : Nat} {v : Int} {s : St} (h : runP c k = .ok v s) : s.n ≤ k := callR_le c k c.fns.length (c.fns.length - 1) [] (start c) v s h (Nat.zero_le _)

/-! ### Runs of right code and of what comes of it -/
/-- A call of the document's run answers an outcome. -/
def Does (X : World) (c : PC) (k : Nat) (h : Bool) (x t : Int) (sp : Bool) (n : Nat) (tr : List Int) : Prop := Calls Try.prog 11 #[c.v, .int .i64 (k : Int)] X fun e w' => ∃ ta tc, e = .returned (.tuple #[.agg #[.bool h, .int .i64 x, .int .u8 t, .bool sp, .int .i64 (n : Int), .slice ta tr.length tc], .int .i64 0]) ∧ Dn.Trc w' ta tr ∧ tr.length ≤ 8388608 ∧ Q X w'
theorem does_of {X : World} {c : PC} {k : Nat} {o : Oc} (hok : c.ok X) (hk : k ≤ 8388608) (hv : validP c = 0) (ho : ocP (runP c k) = o) : Does X c k o.h o.x o.t o.sp o.n o.tr :=
  (Dn.do_good X c hok k hk hv).mono fun e w' ⟨v, e1, ta, tc, e2, e3, e5, e4⟩ => by
    rw [ho] at e2 e3 e5
    exact ⟨ta, tc, by rw [e1, e2], e3, e5, e4⟩
theorem two_runs {c : PC} {w0 : World} (hok : c.ok w0) (hv : validP c = 0) (k : Nat) (hk : k ≤ 8388608) :
    (∃ (x : Int) (n : Nat) (tr : List Int), (∀ X, c.ok X → Does X c k true x 0 false n tr) ∧ ∀ A, EvC A (foldC false c) → ∀ X, A.ok X → Does X A n true x 0 false n tr) ∨
    (∃ (t : Int) (sp : Bool) (n : Nat) (tr : List Int), ∀ X, c.ok X → Does X c k false 0 t sp n tr) := by
  cases hr : runP c k with
  | ok v s =>
    refine .inl ⟨v, s.n, s.tr, fun X hX => does_of hX hk hv (o := ⟨true, v, 0, false, s.n, s.tr⟩) (by rw [hr]; rfl), fun A hA X hX => does_of hX (Nat.le_trans (run_le hr) hk) (valid_ev hok hA hv) (o := ⟨true, v, 0, false, s.n, s.tr⟩) ?_⟩
    rw [run_eq hA (Dn.valid_vc hok hv).1.fn, run_fit hr]
    rfl
  | over t sp s => exact .inr ⟨t, sp, s.n, s.tr, fun X hX => does_of hX hk hv (o := ⟨false, 0, t, sp, s.n, s.tr⟩) (by rw [hr]; rfl)⟩

/-! ### The example -/
theorem evl_one {α : Type} {R : α → α → Prop} {l : List α} {y : α} (h : EvL R l [y]) : ∃ x, l = [x] ∧ R x y := by
  match l, h with
  | [x], h => exact ⟨x, rfl, h.each 0 x y rfl rfl⟩
  | [], h => have := h.len; simp at this
  | _ :: _ :: _, h => have := h.len; simp at this
theorem e_form {A : PC} {g0 g1 g2 : Nat} (h : EvC A (foldC false (eC 2 3 1 4 g0 g1 g2))) : ∃ (f : PF) (p : PP) (x : PI), A.fns = [f] ∧ f.parts = [p] ∧ p.ins.length = 4 ∧ p.ins[2]? = some x ∧ x.op = 20 ∧ x.imm = 5 := by
  have h1 : EvL EvF A.fns [foldF false (eF 2 3 1 4 g0 g1)] := h.fns
  obtain ⟨f, e1, h2⟩ := evl_one h1
  have h3 : EvL EvP f.parts [foldP false (eP 2 3 1 4 g0)] := h2.parts
  obtain ⟨p, e2, h4⟩ := evl_one h3
  have h5 : EvL EvI p.ins (foldL false (fun _ => none) (xs 2 3 1 4)) := h4.ins
  rw [eC_fold] at h5
  have hl := h5.len
  obtain ⟨x, hx⟩ := get_of_lt (l := p.ins) (k := 2) (by rw [hl]; decide)
  have h6 := h5.each 2 x _ hx rfl
  exact ⟨f, p, x, e1, e2, hl, hx, h6.op, h6.imm⟩

theorem erun (w : World) (g0 g1 g2 : Nat) (h : (eC 2 3 1 4 g0 g1 g2).ok w) : Calls Try.prog 15 #[(eC 2 3 1 4 g0 g1 g2).v, .bool false] w fun e w' => ∃ (A : PC) (f : PF) (p : PP) (ib io : Nat), e = .returned (.tuple #[A.v, .int .i64 0]) ∧ A.ok w' ∧ A.fns = [f] ∧ f.parts = [p] ∧ p.ins.length = 4 ∧ p.ia = some ⟨ib, io, none⟩ ∧ w'.cell? ⟨ib, io + 14, none⟩ = some (.int .u8 20) ∧ w'.cell? ⟨ib, io + 14 + 5, none⟩ = some (.int .i64 5) ∧ Q w w' := by
  refine (run_good w _ false h (eC_valid _ _ _)).mono ?_
  rintro e w' ⟨A, rfl, hev, hl, hb⟩
  obtain ⟨f, p, x, e1, e2, e3, e4, e5, e6⟩ := e_form hev
  obtain ⟨fb, fo, efa, hfat⟩ := hl.ok.fns 0 f (by rw [e1]; rfl)
  obtain ⟨pb, po, epa, hpat⟩ := hfat.2.parts 0 p (by rw [e2]; rfl)
  obtain ⟨ib, io, eia, hiat⟩ := hpat.2.ins 2 x e4
  refine ⟨A, f, p, ib, io, rfl, hl.ok, e1, e2, e3, eia, ?_, ?_, hb⟩
  · have := hiat.1 0 (by rw [PI.len]; decide)
    rw [Nat.add_zero] at this
    rw [this, ← e5]; rfl
  · have := hiat.1 5 (by rw [PI.len]; decide)
    rw [this, ← e6]; rfl

set_option maxRecDepth 100000 in
theorem awake_any (w : World) : Calls Try.prog 13 #[] w fun e w' => e = .returned (.bool true) ∧ Q w w' := by
  have CE := hideIt (fun X => example_any X)
  have CR := hideIt (fun X g0 g1 g2 h => erun X g0 g1 g2 h)
  have CO := hideIt (fun X c f p h h1 h2 => one_any X c f p h h1 h2)
  go_enter Try.func13, Try.ntmps13
  go_wp2_with (first
    | (go_at_call 21; refine (CE.out _).mono ?_; rintro e x ⟨g0, g1, g2, rfl, hok, q1⟩; have HK := hideIt hok; have HQ1 := hideIt q1; clear hok q1)
    | (go_at_call 15; refine Calls.mono (CR.out _ _ _ _ HK.out) ?_; rintro e y ⟨A, f, p, ib, io, rfl, a1, a2, a3, a4, a5, a6, a7, q2⟩; have A1 := hideIt a1; have A2 := hideIt a2; have A3 := hideIt a3; have A6 := hideIt a6; have A7 := hideIt a7; have HQ2 := hideIt (HQ1.out.trans q2); clear q2 a1 a2 a3 a6 a7)
    | (go_at_call 24; refine Calls.mono (CO.out _ A f p (A1.out.keep ((Q.refl _).alloc _)) A2.out A3.out) ?_; rw [a4, a5]; rintro e z ⟨rfl, q3⟩; have c1 := cell_keep (((Q.refl y).alloc _).trans q3) A6.out; have c2 := cell_keep (((Q.refl y).alloc _).trans q3) A7.out; have HQ3 := hideIt ((HQ2.out.alloc _).trans q3); clear q3)
    | fail)
  go_ret
  exact ⟨rfl, HQ3.out⟩

set_option maxRecDepth 100000 in
set_option maxHeartbeats 2000000 in
theorem same_eq (w : World) (x t : Int) (sp : Bool) (n : Nat) (l : List Int) (a b : Option Addr) (ca cb : Nat) (hlen : l.length ≤ 9223372036854775807) (ha : Dn.Trc w a l) (hb : Dn.Trc w b l) :
    Calls Try.prog 17 #[.agg #[.bool true, .int .i64 x, .int .u8 t, .bool sp, .int .i64 (n : Int), .slice a l.length ca], .agg #[.bool true, .int .i64 x, .int .u8 t, .bool sp, .int .i64 (n : Int), .slice b l.length cb]] w fun e w' => e = .returned (.bool true) ∧ Q w w' := by
  have hq0 : Q w ((w.alloc (.cells #[.bool true, .int .i64 x, .int .u8 t, .bool sp, .int .i64 (n : Int), .slice a l.length ca] 31)).alloc (.cells #[.bool true, .int .i64 x, .int .u8 t, .bool sp, .int .i64 (n : Int), .slice b l.length cb] 31)) := ((Q.refl w).alloc _).alloc _
  have HA := hideIt (ha.keep hq0)
  have HB := hideIt (hb.keep hq0)
  have HQ0 := hideIt hq0
  have KA : Hid (∀ X, Q ((w.alloc (.cells #[.bool true, .int .i64 x, .int .u8 t, .bool sp, .int .i64 (n : Int), .slice a l.length ca] 31)).alloc (.cells #[.bool true, .int .i64 x, .int .u8 t, .bool sp, .int .i64 (n : Int), .slice b l.length cb] 31)) X → X.cell? ⟨w.heap.size, 5, none⟩ = some (.slice a l.length ca) ∧ X.cell? ⟨w.heap.size + 1, 5, none⟩ = some (.slice b l.length cb)) := fun X hX => by
    constructor
    · exact cell_keep hX ((cell_of_block (heap_old _ (heap_at rfl)) 5).trans rfl)
    · exact cell_keep hX ((cell_of_block (heap_at (by simp)) 5).trans rfl)
  clear ha hb hq0
  go_enter Try.func17, Try.ntmps17
  go_wp2_with (fail)
  go_loopw [5] (fun i wr => ∃ (k : Nat), i = .int .i64 k ∧ k ≤ l.length ∧ Q ((w.alloc (.cells #[.bool true, .int .i64 x, .int .u8 t, .bool sp, .int .i64 (n : Int), .slice a l.length ca] 31)).alloc (.cells #[.bool true, .int .i64 x, .int .u8 t, .bool sp, .int .i64 (n : Int), .slice b l.length cb] 31)) wr) (fun i _ => l.length - (intOf i).toNat)
  case atStart => exact ⟨0, rfl, by omega, Q.refl _⟩
  case round =>
    obtain ⟨k, rfl, hk, hq⟩ := hrel
    have HQ := hideIt hq
    obtain ⟨k1, k2⟩ := KA.out _ hq
    clear hq
    by_cases hlt : k < l.length
    · obtain ⟨z, hz⟩ := get_of_lt hlt
      obtain ⟨b1, o1, e3, hc1⟩ := (Dn.Trc.keep HA.out HQ.out) k z hz
      obtain ⟨b2, o2, e4, hc2⟩ := (Dn.Trc.keep HB.out HQ.out) k z hz
      subst e3 e4
      have hkl : (k : Int) < (l.length : Int) := by omega
      clear hz
      go_wp2_with (fail)
      go_quiet (fail)
      go_wp2
      go_roundw
      case rel => exact ⟨k + 1, by go_num, by omega, Q.drewN HQ.out _⟩
      case measure => simp [intOf]; omega
    · go_wp2_with (fail)
      go_ret
      exact ⟨rfl, HQ0.out.trans HQ.out⟩

end Go.Proofs.Ytaomkfhbnakbjaa.Fo
