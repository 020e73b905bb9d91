/-
 Runs of right code and of what comes of it; two runs held against one another: contracts over the program; the conditions: the code lies in memory.
 The statement FlowKeeps: its walk over the program; the conditions: the code lies in memory.
-/
import Derived.Test.YtphknepblchkdaaKFlDf
import Derived.Test.YtphknepblchkdaaKFlCj
namespace Go.Proofs.Ytphknepblchkdaa.Fl
open Go.RowKit
open Go.Proofs.Ytphknepblchkdaa.In (zI zP zF zI_zI zP_zP cntS cntS_fnN len_cnt)
set_option linter.unusedVariables false

/-! ### A run takes no more steps than it may -/
def LeC (cf : CallT) (k : Nat) : Prop := ∀ j A s v s', cf j A s = .ok v s' → s.n ≤ k → s'.n ≤ k
theorem exI_le {cf : CallT} {k keep : Nat} (hm : LeC cf k) {x : PI} {ρ ρ' : Rg} {s s' : St} (h : exI cf k keep x ρ s = .ok ρ' s') (hs : s.n ≤ k) : s'.n ≤ k := by
 rw [Dn.exI_B] at h
 by_cases hn : s.n = k
 ·rw [if_pos hn] at h; cases h
 ·rw [if_neg hn] at h
  unfold Dn.exB at h
  have hup : s.up.n = s.n + 1 := rfl
  split at h
  ·injection h with h1 h2; subst h2; show s.n + 1 ≤ k; omega
  ·split at h
   ·split at h
    ·injection h with h1 h2; subst h2; show s.n + 1 ≤ k; omega
    ·cases h
   ·split at h
    ·split at h
     ·injection h with h1 h2; subst h2; show s.n + 1 ≤ k; omega
     ·cases h
    ·split at h
     ·cases hc : cf x.imm.toNat (x.args.map (rg ρ)) s.up with
      | ok v s2 => rw [hc] at h; injection h with h1 h2; subst h2; exact hm _ _ _ _ _ hc (by omega)
      | over t sp s2 => rw [hc] at h; cases h
     ·split at h
      ·injection h with h1 h2; subst h2; show s.n + 1 ≤ k; omega
      ·cases h
theorem insR_le {cf : CallT} {k keep : Nat} (hc : LeC cf k) : ∀ (l : List PI) {ρ ρ' : Rg} {s s' : St}, insR cf k keep l ρ s = .ok ρ' s' → s.n ≤ k → s'.n ≤ k
 | [], ρ, ρ', s, s', h, hs => by unfold insR at h; injection h with _ h; subst h; exact hs
 | i :: l, ρ, ρ', s, s', h, hs => by
  unfold insR at h
  split at h
  ·rename_i hq
   exact insR_le hc l h (exI_le hc hq hs)
  ·cases h
theorem partsR_le {cf : CallT} {k keep : Nat} (hc : LeC cf k) {f : PF} : ∀ (g at' : Nat) {ρ : Rg} {s : St} {v : Int} {s' : St}, partsR cf k keep f g at' ρ s = .ok v s' → s.n ≤ k → s'.n ≤ k
 | 0, at', ρ, s, v, s', h, hs => by unfold partsR at h; cases h
 | g + 1, at', ρ, s, v, s', h, hs => by
  unfold partsR at h
  split at h
  ·cases h
  ·split at h
   ·cases h
   ·rename_i s2 hq
    have h1 := insR_le hc _ hq hs
    split at h
    ·cases h
    ·rename_i hne
     have h2 : s2.n + 1 ≤ k := by omega
     split at h
     ·injection h with _ h; subst h; exact h2
     ·exact partsR_le hc g _ h h2
theorem callR_le (c : PC) (k : Nat) : ∀ g, LeC (callR c k g) k
 | 0, j, a, s, v, s', h, hs => by unfold callR at h; cases h
 | g + 1, j, a, s, v, s', h, hs => by
  unfold callR at h
  split at h
  ·cases h
  ·split at h
   ·cases h
   ·split at h
    ·rename_i hq
     injection h with _ h; subst h
     have := partsR_le (callR_le c k g) _ _ hq hs
     exact this
    ·cases h
theorem run_le {c : PC} {k : Nat} {v : Int} {s : St} (h : runP c k = .ok v s) : s.n ≤ k := callR_le c k c.fns.length (c.fns.length - 1) [] (start c) v s h (Nat.zero_le _)

/-! ### Runs of right code and of what comes of it -/
/-- A call of the document's run answers an outcome. -/
def Does (X : World) (c : PC) (k : Nat) (h : Bool) (x t : Int) (sp : Bool) (n : Nat) (tr : List Int) : Prop := Calls Try.prog 11 #[c.v, .int .i64 (k : Int)] X fun e w' => ∃ ta tc, e = .returned (.tuple #[.agg #[.bool h, .int .i64 x, .int .u8 t, .bool sp, .int .i64 (n : Int), .slice ta tr.length tc], .int .i64 0]) ∧ Dn.Trc w' ta tr ∧ tr.length ≤ 8388608 ∧ Q X w'
theorem does_of {X : World} {c : PC} {k : Nat} {o : Oc} (hok : c.ok X) (hk : k ≤ 8388608) (hv : validP c = 0) (ho : ocP (runP c k) = o) : Does X c k o.h o.x o.t o.sp o.n o.tr :=
 (Dn.do_good X c hok k hk hv).mono fun e w' ⟨v, e1, ta, tc, e2, e3, e5, e4⟩ => by
  rw [ho] at e2 e3 e5
  exact ⟨ta, tc, by rw [e1, e2], e3, e5, e4⟩
theorem valid_ev {c d : PC} {w0 : World} (hok : c.ok w0) (hd : EvC d (floC false c)) (hv : validP c = 0) (hn : codeN c ≤ 400) : validP d = 0 := by rw [validP_ev hd]; exact flo_valid hok hv hn false
theorem two_runs {c : PC} {w0 : World} (hok : c.ok w0) (hv : validP c = 0) (hn : codeN c ≤ 400) (k : Nat) (hk : k ≤ 8388608) :
  (∃ (x : Int) (n n2 : Nat) (tr : List Int), (∀ X, c.ok X → Does X c k true x 0 false n tr) ∧ ∀ A, EvC A (floC false c) → ∀ X, A.ok X → Does X A n true x 0 false n2 tr) ∨
  (∃ (t : Int) (sp : Bool) (n : Nat) (tr : List Int), ∀ X, c.ok X → Does X c k false 0 t sp n tr) := by
 cases hr : runP c k with
 | ok v s =>
  obtain ⟨t2, h1, h2, h3⟩ := run_sim (flo_fol (Dn.valid_vc hok hv).1.fn) rfl rfl hr
  refine .inl ⟨v, s.n, t2.n, s.tr, fun X hX => does_of hX hk hv (o := ⟨true, v, 0, false, s.n, s.tr⟩) (by rw [hr]; rfl), fun A hA X hX => does_of hX (Nat.le_trans (run_le hr) hk) (valid_ev hok hA hv hn) (o := ⟨true, v, 0, false, t2.n, s.tr⟩) ?_⟩
  rw [runP_ev hA, h1, ← h2]
  rfl
 | over t sp s => exact .inr ⟨t, sp, s.n, s.tr, fun X hX => does_of hX hk hv (o := ⟨false, 0, t, sp, s.n, s.tr⟩) (by rw [hr]; rfl)⟩

set_option maxRecDepth 100000 in
set_option maxHeartbeats 2000000 in
theorem same_eq (w : World) (x t : Int) (sp : Bool) (n n2 : Nat) (l : List Int) (a b : Option Addr) (ca cb : Nat) (hlen : l.length ≤ 9223372036854775807) (ha : Dn.Trc w a l) (hb : Dn.Trc w b l) :
  Calls Try.prog 12 #[.agg #[.bool true, .int .i64 x, .int .u8 t, .bool sp, .int .i64 (n : Int), .slice a l.length ca], .agg #[.bool true, .int .i64 x, .int .u8 t, .bool sp, .int .i64 (n2 : Int), .slice b l.length cb]] w fun e w' => e = .returned (.bool true) ∧ Q w w' := by
 have hq0 : Q w ((w.alloc (.cells #[.bool true, .int .i64 x, .int .u8 t, .bool sp, .int .i64 (n : Int), .slice a l.length ca] 36)).alloc (.cells #[.bool true, .int .i64 x, .int .u8 t, .bool sp, .int .i64 (n2 : Int), .slice b l.length cb] 36)) := ((Q.refl w).alloc _).alloc _
 have HA := hideIt (ha.keep hq0)
 have HB := hideIt (hb.keep hq0)
 have HQ0 := hideIt hq0
 have KA : Hid (∀ X, Q ((w.alloc (.cells #[.bool true, .int .i64 x, .int .u8 t, .bool sp, .int .i64 (n : Int), .slice a l.length ca] 36)).alloc (.cells #[.bool true, .int .i64 x, .int .u8 t, .bool sp, .int .i64 (n2 : Int), .slice b l.length cb] 36)) X → X.cell? ⟨w.heap.size, 5, none⟩ = some (.slice a l.length ca) ∧ X.cell? ⟨w.heap.size + 1, 5, none⟩ = some (.slice b l.length cb)) := fun X hX => by
  constructor
  ·exact cell_keep hX ((cell_of_block (heap_old _ (heap_at rfl)) 5).trans rfl)
  ·exact cell_keep hX ((cell_of_block (heap_at (by simp)) 5).trans rfl)
 clear ha hb hq0
 go_enter Try.func12, Try.ntmps12
 go_wp2_with (fail)
 go_loopw [5] (fun i wr => ∃ (k : Nat), i = .int .i64 k ∧ k ≤ l.length ∧ Q ((w.alloc (.cells #[.bool true, .int .i64 x, .int .u8 t, .bool sp, .int .i64 (n : Int), .slice a l.length ca] 36)).alloc (.cells #[.bool true, .int .i64 x, .int .u8 t, .bool sp, .int .i64 (n2 : Int), .slice b l.length cb] 36)) wr) (fun i _ => l.length - (intOf i).toNat)
 case atStart => exact ⟨0, rfl, by omega, Q.refl _⟩
 case round =>
  obtain ⟨k, rfl, hk, hq⟩ := hrel
  have HQ := hideIt hq
  obtain ⟨k1, k2⟩ := KA.out _ hq
  clear hq
  by_cases hlt : k < l.length
  ·obtain ⟨z, hz⟩ := get_of_lt hlt
   obtain ⟨b1, o1, e3, hc1⟩ := (Dn.Trc.keep HA.out HQ.out) k z hz
   obtain ⟨b2, o2, e4, hc2⟩ := (Dn.Trc.keep HB.out HQ.out) k z hz
   subst e3 e4
   have hkl : (k : Int) < (l.length : Int) := by omega
   clear hz
   go_wp2_with (fail)
   go_quiet (fail)
   go_wp2
   go_roundw
   case rel => exact ⟨k + 1, by go_num, by omega, Q.drewN HQ.out _⟩
   case measure => simp [intOf]; omega
  ·go_wp2_with (fail)
   go_ret
   exact ⟨rfl, HQ0.out.trans HQ.out⟩

end Go.Proofs.Ytphknepblchkdaa.Fl

namespace Go.Proofs.Ytphknepblchkdaa.Fl
open Go.RowKit
open Go.Proofs.Ytphknepblchkdaa.In (zI zP zF zI_zI zP_zP cntS cntS_fnN len_cnt)
set_option linter.unusedVariables false

theorem wf16 {z : Int} (h : (Lit.int .u16 z).wf = true) : 0 ≤ z ∧ z ≤ 65535 := by
 simp [Lit.wf, IntKind.min, IntKind.max, IntKind.bits, IntKind.signed] at h; omega
theorem run_few (w : World) (c : PC) (fault : Bool) (hcok : c.ok w) (hv : validP c = 0) (hf : fewP c = true) (hsz : codeN c ≤ 1099511627776) : Calls Try.prog 9 #[c.v, .bool fault] w fun e w' => ∃ A : PC, e = .returned (.tuple #[A.v, .int .i64 0]) ∧ EvC A (floC fault c) ∧ CodeM w.heap.size w' A ∧ Q w w' :=
 run_good w c fault hcok hv (few_fit hf hsz)

set_option maxRecDepth 100000 in
set_option maxHeartbeats 4000000 in
theorem keeps_few (c : PC) (n : Int) (w : World) (hcok : c.ok w) (hf : fewP c = false) : Calls Try.prog 3 #[c.v, .int .u16 n] w fun e w' => e = .returned (.bool true) ∧ Below w.heap.size w w' := by
 have HB : Hid (∀ X, Q (bxC w c) X → Cds X w.heap.size c) := fun X h => (cds_box w c).keep h
 have qB := hideIt (bxC_q w c)
 have CA : Hid (∀ X, Calls Try.prog 7 #[] X fun e w' => e = .returned (.bool true) ∧ Q X w') := fun X => awake_any X
 have CF : Hid (∀ X, Q (bxC w c) X → Calls Try.prog 8 #[c.v] X fun e w' => e = .returned (.bool false) ∧ Q X w') := fun X h => by have := few_any X c (hcok.keep ((bxC_q w c).trans h)); rw [hf] at this; exact this
 generalize hBB : bxC w c = B at *
 have HBB := hideIt hBB
 clear hcok hBB hf
 go_enter Try.func3, Try.ntmps3
 go_wp2_with (fail)
 rw [show w.alloc (.cells #[.slice c.ga c.gl.length c.gc, .slice c.na c.ini.length c.nc, .slice c.fa c.fns.length c.fc] 26) = B from HBB.out]
 go_wp2_with (first
  | (go_at_call 7; first
    | (refine Calls.mono (CA.out y) ?_; rintro e z ⟨rfl, q1⟩; have HZ := hideIt (HY.out.trans q1); clear q1)
    | (refine Calls.mono (CA.out _) ?_; rintro e x ⟨rfl, q1⟩; have HX := hideIt q1; obtain ⟨s1, s2, s3⟩ := HB.out x q1; clear q1))
  | (go_at_call 8; refine Calls.mono (CF.out _ HX.out) ?_; rintro e y ⟨rfl, q1⟩; have HY := hideIt (HX.out.trans q1); clear q1 s1 s2 s3)
  | fail)
 go_ret
 exact ⟨rfl, qB.out.trans HZ.out⟩

set_option maxRecDepth 100000 in
set_option maxHeartbeats 4000000 in
theorem keeps_bad (c : PC) (n : Int) (w : World) (hcok : c.ok w) (hf : fewP c = true) (hv : ¬ validP c = 0) : Calls Try.prog 3 #[c.v, .int .u16 n] w fun e w' => e = .returned (.bool true) ∧ Below w.heap.size w w' := by
 have HB : Hid (∀ X, Q (bxC w c) X → Cds X w.heap.size c) := fun X h => (cds_box w c).keep h
 have qB := hideIt (bxC_q w c)
 have CA : Hid (∀ X, Calls Try.prog 7 #[] X fun e w' => e = .returned (.bool true) ∧ Q X w') := fun X => awake_any X
 have CF : Hid (∀ X, Q (bxC w c) X → Calls Try.prog 8 #[c.v] X fun e w' => e = .returned (.bool true) ∧ Q X w') := fun X h => by have := few_any X c (hcok.keep ((bxC_q w c).trans h)); rw [hf] at this; exact this
 have CR : Hid (∀ X, Q (bxC w c) X → Calls Try.prog 9 #[c.v, .bool false] X fun e w' => e = .returned (.tuple #[.agg zeroC, .int .i64 (validP c)]) ∧ Q X w') := fun X h => run_bad X c false (hcok.keep ((bxC_q w c).trans h)) hv
 have CV : Hid (∀ X, Q (bxC w c) X → Calls Try.prog 10 #[c.v] X fun e w' => e = .returned (.int .i64 (validP c)) ∧ Q X w') := fun X h => rvalid_any X c (hcok.keep ((bxC_q w c).trans h))
 have d2 : (validP c != 0) = true := by simpa using hv
 generalize validP c = v at *
 generalize hBB : bxC w c = B at *
 have HBB := hideIt hBB
 clear hcok hBB hf hv
 go_enter Try.func3, Try.ntmps3
 go_wp2_with (fail)
 rw [show w.alloc (.cells #[.slice c.ga c.gl.length c.gc, .slice c.na c.ini.length c.nc, .slice c.fa c.fns.length c.fc] 26) = B from HBB.out]
 go_wp2_with (first
  | (go_at_call 7; refine Calls.mono (CA.out _) ?_; rintro e x ⟨rfl, q1⟩; have HX := hideIt q1; obtain ⟨s1, s2, s3⟩ := HB.out x q1; clear q1)
  | (go_at_call 8; refine Calls.mono (CF.out _ HX.out) ?_; rintro e y ⟨rfl, q1⟩; have HY := hideIt (HX.out.trans q1); clear q1 s1 s2 s3; obtain ⟨s1, s2, s3⟩ := HB.out y HY.out)
  | (go_at_call 9; refine Calls.mono (CR.out _ HY.out) ?_; rintro e z ⟨rfl, q1⟩; have HZ := hideIt (HY.out.trans q1); clear q1 s1 s2 s3; obtain ⟨s1, s2, s3⟩ := HB.out z HZ.out; have r1 := fun ob => cell_keep ((Q.refl z).alloc ob) s1; have r2 := fun ob => cell_keep ((Q.refl z).alloc ob) s2; have r3 := fun ob => cell_keep ((Q.refl z).alloc ob) s3; clear s1 s2 s3)
  | (go_at_call 10; refine Calls.mono (CV.out _ (HZ.out.alloc _)) ?_; rintro e u ⟨rfl, q1⟩; have HU := hideIt ((HZ.out.alloc _).trans q1); have bk := (q1.block z.heap.size (by simp)).trans (heap_new z _); have t2 := cell_of_block bk 2; clear q1 r1 r2 r3 bk)
  | fail)
 go_ret
 exact ⟨rfl, qB.out.trans HU.out⟩

/-- A run's answer by the document, written out. -/
abbrev DoA (X : World) (h : Bool) (x t : Int) (sp : Bool) (n : Nat) (tr : List Int) (e : Ending) (w' : World) : Prop := ∃ ta tc, e = .returned (.tuple #[.agg #[.bool h, .int .i64 x, .int .u8 t, .bool sp, .int .i64 (n : Int), .slice ta tr.length tc], .int .i64 0]) ∧ Dn.Trc w' ta tr ∧ tr.length ≤ 8388608 ∧ Q X w'

set_option maxRecDepth 100000 in
set_option maxHeartbeats 40000000 in
theorem keeps_over (c : PC) (n : Int) (w : World) (hcok : c.ok w) (hn : 0 ≤ n ∧ n ≤ 65535) (t : Int) (sp : Bool) (sn : Nat) (tr : List Int) (k : Nat) (hk : (k : Int) = n.tmod 3000) (hd : ∀ X, c.ok X → Does X c k false 0 t sp sn tr) (hf : fewP c = true) (hsz : codeN c ≤ 1099511627776) (hv : validP c = 0) : Calls Try.prog 3 #[c.v, .int .u16 n] w fun e w' => e = .returned (.bool true) ∧ Below w.heap.size w w' := by
 have HB : Hid (∀ X, Q (bxC w c) X → Cds X w.heap.size c) := fun X h => (cds_box w c).keep h
 have qB := hideIt (bxC_q w c)
 have CA : Hid (∀ X, Calls Try.prog 7 #[] X fun e w' => e = .returned (.bool true) ∧ Q X w') := fun X => awake_any X
 have CF : Hid (∀ X, Q (bxC w c) X → Calls Try.prog 8 #[c.v] X fun e w' => e = .returned (.bool true) ∧ Q X w') := fun X h => by have := few_any X c (hcok.keep ((bxC_q w c).trans h)); rw [hf] at this; exact this
 have CR : Hid (∀ X, Q (bxC w c) X → Calls Try.prog 9 #[c.v, .bool false] X fun e w' => ∃ A : PC, e = .returned (.tuple #[A.v, .int .i64 0]) ∧ EvC A (floC false c) ∧ A.ok w' ∧ Q X w') := fun X h => (run_few X c false (hcok.keep ((bxC_q w c).trans h)) hv hf hsz).mono fun e w' ⟨A, a1, a2, a3, a4⟩ => ⟨A, a1, a2, a3.ok, a4⟩
 have CV : Hid (∀ X, Q (bxC w c) X → Calls Try.prog 10 #[c.v] X fun e w' => e = .returned (.int .i64 0) ∧ Q X w') := fun X h => by have := rvalid_any X c (hcok.keep ((bxC_q w c).trans h)); rw [hv] at this; exact this
 have CW : Hid (∀ A, EvC A (floC false c) → ∀ X, A.ok X → Calls Try.prog 10 #[A.v] X fun e w' => e = .returned (.int .i64 0) ∧ Q X w') := fun A hA X h => by have := rvalid_any X A h; rw [valid_ev hcok hA hv (few_fit hf hsz)] at this; exact this
 obtain ⟨m, rfl⟩ : ∃ m : Nat, n = (m : Int) := ⟨n.toNat, by omega⟩
 have t1 : (m : Int).tmod 3000 = (k : Int) := hk.symm
 have HC : Hid (∀ X, Q (bxC w c) X → c.ok X) := fun X h => hcok.keep ((bxC_q w c).trans h)
 generalize hBB : bxC w c = B at *
 have HBB := hideIt hBB
 clear hcok hBB hf hv hk
 go_enter Try.func3, Try.ntmps3
 go_wp2_with (fail)
 rw [show w.alloc (.cells #[.slice c.ga c.gl.length c.gc, .slice c.na c.ini.length c.nc, .slice c.fa c.fns.length c.fc] 26) = B from HBB.out]
 have CD : Hid (∀ X, c.ok X → Calls Try.prog 11 #[c.v, .int .i64 (k : Int)] X (DoA X false 0 t sp sn tr)) := hd
 clear hd
 go_wp2_with (first
  | (go_at_call 7; refine Calls.mono (CA.out _) ?_; rintro e x1 ⟨rfl, q1⟩; have HX := hideIt q1; obtain ⟨s1, s2, s3⟩ := HB.out x1 q1; clear q1)
  | (go_at_call 8; refine Calls.mono (CF.out _ HX.out) ?_; rintro e y ⟨rfl, q1⟩; have HY := hideIt (HX.out.trans q1); clear q1 s1 s2 s3; obtain ⟨s1, s2, s3⟩ := HB.out y HY.out)
  | (go_at_call 9; refine Calls.mono (CR.out _ HY.out) ?_; rintro e z ⟨A, rfl, a1, a2, q1⟩; have HE := hideIt a1; have HO := hideIt a2; have HZ := hideIt (HY.out.trans q1); clear q1 a1 a2 s1 s2 s3; obtain ⟨s1, s2, s3⟩ := HB.out z HZ.out; have r1 := fun ob => cell_keep ((Q.refl z).alloc ob) s1; have r2 := fun ob => cell_keep ((Q.refl z).alloc ob) s2; have r3 := fun ob => cell_keep ((Q.refl z).alloc ob) s3; clear s1 s2 s3)
  | (go_at_call 10; first
    | (refine Calls.mono (CW.out A HE.out u (HO.out.keep HU1.out)) ?_; rintro e v ⟨rfl, q1⟩; have HV := hideIt (HU.out.trans q1); clear q1 t1' t2' t3'; obtain ⟨s1, s2, s3⟩ := HB.out v HV.out)
    | (refine Calls.mono (CV.out _ (HZ.out.alloc _)) ?_; rintro e u ⟨rfl, q1⟩; have HU := hideIt ((HZ.out.alloc _).trans q1); have HU1 := hideIt (((Q.refl z).alloc _).trans q1); have HDU := hideIt ((cds_box z A).keep q1); clear q1 r1 r2 r3; obtain ⟨t1', t2', t3'⟩ := HDU.out))
  | (go_at_call 11; refine Calls.mono (CD.out v (HC.out _ HV.out)) ?_; rintro e p ⟨ta, tc, rfl, ht, hl, hb⟩; have HP := hideIt (HV.out.trans hb); clear s1 s2 s3 ht hl hb)
  | fail)
 go_ret
 exact ⟨rfl, qB.out.trans (HP.out.alloc _)⟩

set_option maxRecDepth 100000 in
set_option maxHeartbeats 40000000 in
theorem keeps_halt (c : PC) (n : Int) (w : World) (hcok : c.ok w) (hn : 0 ≤ n ∧ n ≤ 65535) (x : Int) (sn sn2 : Nat) (tr : List Int) (k : Nat) (hk : (k : Int) = n.tmod 3000) (hd : ∀ X, c.ok X → Does X c k true x 0 false sn tr) (hA : ∀ A, EvC A (floC false c) → ∀ X, A.ok X → Does X A sn true x 0 false sn2 tr) (hf : fewP c = true) (hsz : codeN c ≤ 1099511627776) (hv : validP c = 0) : Calls Try.prog 3 #[c.v, .int .u16 n] w fun e w' => e = .returned (.bool true) ∧ Below w.heap.size w w' := by
 have HB : Hid (∀ X, Q (bxC w c) X → Cds X w.heap.size c) := fun X h => (cds_box w c).keep h
 have qB := hideIt (bxC_q w c)
 have CA : Hid (∀ X, Calls Try.prog 7 #[] X fun e w' => e = .returned (.bool true) ∧ Q X w') := fun X => awake_any X
 have CF : Hid (∀ X, Q (bxC w c) X → Calls Try.prog 8 #[c.v] X fun e w' => e = .returned (.bool true) ∧ Q X w') := fun X h => by have := few_any X c (hcok.keep ((bxC_q w c).trans h)); rw [hf] at this; exact this
 have CR : Hid (∀ X, Q (bxC w c) X → Calls Try.prog 9 #[c.v, .bool false] X fun e w' => ∃ A : PC, e = .returned (.tuple #[A.v, .int .i64 0]) ∧ EvC A (floC false c) ∧ A.ok w' ∧ Q X w') := fun X h => (run_few X c false (hcok.keep ((bxC_q w c).trans h)) hv hf hsz).mono fun e w' ⟨A, a1, a2, a3, a4⟩ => ⟨A, a1, a2, a3.ok, a4⟩
 have CV : Hid (∀ X, Q (bxC w c) X → Calls Try.prog 10 #[c.v] X fun e w' => e = .returned (.int .i64 0) ∧ Q X w') := fun X h => by have := rvalid_any X c (hcok.keep ((bxC_q w c).trans h)); rw [hv] at this; exact this
 have CW : Hid (∀ A, EvC A (floC false c) → ∀ X, A.ok X → Calls Try.prog 10 #[A.v] X fun e w' => e = .returned (.int .i64 0) ∧ Q X w') := fun A hA X h => by have := rvalid_any X A h; rw [valid_ev hcok hA hv (few_fit hf hsz)] at this; exact this
 obtain ⟨m, rfl⟩ : ∃ m : Nat, n = (m : Int) := ⟨n.toNat, by omega⟩
 have t1 : (m : Int).tmod 3000 = (k : Int) := hk.symm
 have HC : Hid (∀ X, Q (bxC w c) X → c.ok X) := fun X h => hcok.keep ((bxC_q w c).trans h)
 generalize hBB : bxC w c = B at *
 have HBB := hideIt hBB
 clear hcok hBB hf hv hk
 go_enter Try.func3, Try.ntmps3
 go_wp2_with (fail)
 rw [show w.alloc (.cells #[.slice c.ga c.gl.length c.gc, .slice c.na c.ini.length c.nc, .slice c.fa c.fns.length c.fc] 26) = B from HBB.out]
 have CD : Hid (∀ X, c.ok X → Calls Try.prog 11 #[c.v, .int .i64 (k : Int)] X (DoA X true x 0 false sn tr)) := hd
 have CE : Hid (∀ A, EvC A (floC false c) → ∀ X, A.ok X → Calls Try.prog 11 #[A.v, .int .i64 (sn : Int)] X (DoA X true x 0 false sn2 tr)) := hA
 clear hd hA
 go_wp2_with (first
  | (go_at_call 7; refine Calls.mono (CA.out _) ?_; rintro e x1 ⟨rfl, q1⟩; have HX := hideIt q1; obtain ⟨s1, s2, s3⟩ := HB.out x1 q1; clear q1)
  | (go_at_call 8; refine Calls.mono (CF.out _ HX.out) ?_; rintro e y ⟨rfl, q1⟩; have HY := hideIt (HX.out.trans q1); clear q1 s1 s2 s3; obtain ⟨s1, s2, s3⟩ := HB.out y HY.out)
  | (go_at_call 9; refine Calls.mono (CR.out _ HY.out) ?_; rintro e z ⟨A, rfl, a1, a2, q1⟩; have HE := hideIt a1; have HO := hideIt a2; have HZ := hideIt (HY.out.trans q1); clear q1 a1 a2 s1 s2 s3; obtain ⟨s1, s2, s3⟩ := HB.out z HZ.out; have r1 := fun ob => cell_keep ((Q.refl z).alloc ob) s1; have r2 := fun ob => cell_keep ((Q.refl z).alloc ob) s2; have r3 := fun ob => cell_keep ((Q.refl z).alloc ob) s3; clear s1 s2 s3)
  | (go_at_call 10; first
    | (refine Calls.mono (CW.out A HE.out u (HO.out.keep HU1.out)) ?_; rintro e v ⟨rfl, q1⟩; have HV := hideIt (HU.out.trans q1); have HV1 := hideIt (HU1.out.trans q1); have HDV := hideIt (HDU.out.keep q1); clear q1 t1' t2' t3'; obtain ⟨s1, s2, s3⟩ := HB.out v HV.out)
    | (refine Calls.mono (CV.out _ (HZ.out.alloc _)) ?_; rintro e u ⟨rfl, q1⟩; have HU := hideIt ((HZ.out.alloc _).trans q1); have HU1 := hideIt (((Q.refl z).alloc _).trans q1); have HDU := hideIt ((cds_box z A).keep q1); clear q1 r1 r2 r3; obtain ⟨t1', t2', t3'⟩ := HDU.out))
  | (go_at_call 11; first
    | (have hh := HP1; clear hh; refine Calls.mono (CE.out A HE.out _ (HO.out.keep (HP1.out.alloc _))) ?_; rintro e r ⟨tb, td, rfl, ht, hl, hb⟩; have HT2 := hideIt ht; have HR := hideIt hb; have bk := (hb.block p.heap.size (by simp)).trans (heap_new p _); have r0 := fun ob => (cell_of_block (heap_old ob bk) 0); have r1 := fun ob => (cell_of_block (heap_old ob bk) 1); have r2 := fun ob => (cell_of_block (heap_old ob bk) 2); have r3 := fun ob => (cell_of_block (heap_old ob bk) 3); have r4 := fun ob => (cell_of_block (heap_old ob bk) 4); have r5 := fun ob => (cell_of_block (heap_old ob bk) 5); have BK := hideIt bk; clear ht hl hb bk d1 d2 d3)
    | (refine Calls.mono (CD.out v (HC.out _ HV.out)) ?_; rintro e p ⟨ta, tc, rfl, ht, hl, hb⟩; have HT1 := hideIt ht; have HL := hideIt hl; have HP := hideIt (HV.out.trans hb); have HP1 := hideIt (HV1.out.trans hb); have HDP := hideIt (HDV.out.keep hb); clear s1 s2 s3 ht hl hb; have d1 := fun ob => (HDP.out.keep ((Q.refl p).alloc ob)).1; have d2 := fun ob => (HDP.out.keep ((Q.refl p).alloc ob)).2.1; have d3 := fun ob => (HDP.out.keep ((Q.refl p).alloc ob)).2.2))
  | (go_at_call 12; refine Calls.mono (same_eq _ x 0 false sn sn2 tr ta tb tc td (by have := HL.out; omega) (HT1.out.keep ((((Q.refl _).alloc _).trans HR.out).alloc _)) (HT2.out.keep ((Q.refl _).alloc _))) ?_; rintro e s ⟨rfl, q4⟩; have HS := hideIt (((HP.out.alloc _).trans (HR.out.alloc _)).trans q4); clear q4 r0 r1 r2 r3 r4 r5)
  | fail)
 go_ret
 exact ⟨rfl, qB.out.trans HS.out⟩

theorem keeps_good (c : PC) (n : Int) (w : World) (hcok : c.ok w) (hn : 0 ≤ n ∧ n ≤ 65535) (hf : fewP c = true) (hsz : codeN c ≤ 1099511627776) (hv : validP c = 0) : Calls Try.prog 3 #[c.v, .int .u16 n] w fun e w' => e = .returned (.bool true) ∧ Below w.heap.size w w' := by
 obtain ⟨k, hk⟩ : ∃ k : Nat, (k : Int) = n.tmod 3000 := ⟨(n.tmod 3000).toNat, by rw [Int.tmod_eq_emod_of_nonneg (by omega)]; omega⟩
 have hk2 : k ≤ 8388608 := by rw [Int.tmod_eq_emod_of_nonneg (by omega)] at hk; omega
 rcases two_runs hcok hv (few_fit hf hsz) k hk2 with ⟨x, sn, sn2, tr, hd, hA⟩ | ⟨t, sp, sn, tr, hd⟩
 ·exact keeps_halt c n w hcok hn x sn sn2 tr k hk hd hA hf hsz hv
 ·exact keeps_over c n w hcok hn t sp sn tr k hk hd hf hsz hv

theorem keeps_walk (c : PC) (n : Int) (w : World) (hcok : c.ok w) (hsz : codeN c ≤ 1099511627776) (hn : 0 ≤ n ∧ n ≤ 65535) : Calls Try.prog 3 #[c.v, .int .u16 n] w fun e w' => e = .returned (.bool true) ∧ Below w.heap.size w w' := by
 cases hf : fewP c with
 | false => exact keeps_few c n w hcok hf
 | true =>
  by_cases hv : validP c = 0
  ·exact keeps_good c n w hcok hn hf hsz hv
  ·exact keeps_bad c n w hcok hf hv

end Go.Proofs.Ytphknepblchkdaa.Fl
