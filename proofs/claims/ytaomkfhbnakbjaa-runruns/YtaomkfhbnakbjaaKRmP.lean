/-
  An instruction of a run (a call): contracts over the program; the conditions: a run lies there, the call is open, the instruction is right, and the function that is called keeps its contract.
  An instruction of a run: the contract over the program; where the way goes on behind a part (next); the conditions: a run lies there, the call is open, the instruction is right, and the functions ahead keep their contract.
-/
import Derived.Test.YtaomkfhbnakbjaaKRmK
import Derived.Test.YtaomkfhbnakbjaaKRmL
import Derived.Test.YtaomkfhbnakbjaaKRmN
import Derived.Deep.QuietTactic
import Derived.BigQuiet
namespace Go.Proofs.Ytaomkfhbnakbjaa
open Go.RowKit
set_option linter.unusedVariables false

/-! ### steps are never fewer -/
def MonC (cf : CallT) : Prop := ∀ j a s v s', cf j a s = .ok v s' → s.n ≤ s'.n
theorem exI_n {cf : CallT} (hc : MonC cf) {fuel keep : Nat} {i : PI} {ρ ρ' : Rg} {s s' : St} (h : exI cf fuel keep i ρ s = .ok ρ' s') : s.n ≤ s'.n := by
  unfold exI at h
  split at h
  · cases h
  · split at h
    · injection h with _ h; subst h; exact Nat.le_succ _
    · split at h
      · split at h
        · injection h with _ h; subst h; exact Nat.le_succ _
        · cases h
      · split at h
        · split at h
          · injection h with _ h; subst h; exact Nat.le_succ _
          · cases h
        · split at h
          · split at h
            · rename_i hq
              injection h with _ h; subst h
              have := hc _ _ _ _ _ hq
              exact Nat.le_trans (Nat.le_succ _) this
            · cases h
          · split at h
            · injection h with _ h; subst h; exact Nat.le_succ _
            · cases h
theorem insR_n {cf : CallT} (hc : MonC cf) {fuel keep : Nat} : ∀ (l : List PI) {ρ ρ' : Rg} {s s' : St}, insR cf fuel keep l ρ s = .ok ρ' s' → s.n ≤ s'.n
  | [], ρ, ρ', s, s', h => by unfold insR at h; injection h with _ h; subst h; exact Nat.le_refl _
  | i :: l, ρ, ρ', s, s', h => by
    unfold insR at h
    split at h
    · rename_i hq
      exact Nat.le_trans (exI_n hc hq) (insR_n hc l h)
    · cases h
theorem partsR_n {cf : CallT} (hc : MonC cf) {fuel keep : Nat} {f : PF} : ∀ (g at' : Nat) {ρ : Rg} {s : St} {v : Int} {s' : St}, partsR cf fuel keep f g at' ρ s = .ok v s' → s.n ≤ s'.n
  | 0, at', ρ, s, v, s', h => by unfold partsR at h; cases h
  | g + 1, at', ρ, s, v, s', h => by
    unfold partsR at h
    split at h
    · cases h
    · split at h
      · cases h
      · rename_i hq
        have h1 := insR_n hc _ hq
        split at h
        · cases h
        · split at h
          · injection h with _ h; subst h; exact Nat.le_trans h1 (Nat.le_succ _)
          · exact Nat.le_trans h1 (Nat.le_trans (Nat.le_succ _) (partsR_n hc g _ h))
theorem callR_n (c : PC) (fuel : Nat) : ∀ g, MonC (callR c fuel g)
  | 0, j, a, s, v, s', h => by unfold callR at h; cases h
  | g + 1, j, a, s, v, s', h => by
    unfold callR at h
    split at h
    · cases h
    · split at h
      · cases h
      · split at h
        · rename_i hq
          injection h with _ h; subst h
          have := partsR_n (callR_n c fuel g) _ _ hq
          exact this
        · cases h

theorem idles_up {c : PC} {k j0 : Nat} {G G' : GG} (h : idles c k G) (h1 : idles c (j0 + 1) G') (h2 : ∀ j, j0 < j → G' j = G j) : idles c k G' := fun j f hj hf => by
  by_cases e : j < j0 + 1
  · exact h1 j f e hf
  · rw [h2 j (by omega)]; exact h j f hj hf

/-- What a function that is called, by its number j, keeps. -/
def CallC (w0 : World) (R p gb gc : Nat) (c : PC) (fuel : Nat) (cf : CallT) (k : Nat) : Prop :=
  ∀ (j : Nat) (f : PF), j < k → c.fns[j]? = some f → ∀ (W : World) (col : Col) (s : St) (A : List Int) (G : GG), RI W w0 R p gb gc col c fuel s A G → idles c (j + 1) G → (A.length : Int) = f.params →
    Calls Try.prog 59 #[.pointer (some ⟨R, 0, none⟩), .int .i64 (j : Int)] W fun e w' => CallPost W w0 R p gb gc col c fuel s G j (cf j A s) e w'

set_option maxRecDepth 100000 in
set_option maxHeartbeats 2000000 in
theorem inst_call {w w0 : World} {R p gb gc : Nat} {col : Col} {c : PC} {fuel : Nat} {s : St} {A : List Int} {G : GG} {k : Nat} {f : PF} {ρ : Rg} {Cb fb fo first : Nat} (h : IA w w0 R p gb gc col c fuel s A G k f ρ Cb fb fo first) (ib io : Nat) (x : PI) (hx : At w0 ib io x.cells) (hxok : x.ok w0) (hins : insP c k f x = true) (hs : ¬ s.n = fuel) (hop : x.op = 32) {cf : CallT} (hmon : MonC cf) (hpar : ∀ (j : Nat) (g : PF), c.fns[j]? = some g → g.params ≤ 20000) (hcc : CallC w0 R p gb gc c fuel cf k) (v : Int) (s2 : St) (hr : cf x.imm.toNat (x.args.map (rg ρ)) s.up = .ok v s2) :
    Calls Try.prog 104 (insArg R Cb ib io) w fun e w' => InsPost w w0 R p gb gc col c fuel s G k f (.ok (setR ρ x.dst.toNat v) s2) e w' := by
  have hst := step_ri (h.ri.alloc (.cells #[.int .u8 0, .bool false] 105)) h.hf
  simp only [hs, if_false, not_false_eq_true, decide_true] at hst
  have HS := hideIt hst
  have IM := hideIt (fun (y : World) => ib_mk (y := y) h hx)
  have hi := hins
  unfold insP at hi
  simp only [Bool.and_eq_true] at hi
  obtain ⟨-, -, hi3, hi4, hi5⟩ := hi
  have hdst : 0 ≤ x.dst ∧ x.dst < 20000 := by
    unfold wtP at hi3
    rw [hop] at hi3
    simp [blP, show wrP 32 = true by decide] at hi3
    have := h.rg
    omega
  have hargs : ∀ r ∈ x.args, 0 ≤ r := fun r hr => by
    unfold rdsP at hi4
    rw [hop] at hi4
    simp [blP, show rdP 32 = 0 by decide] at hi4
    exact (hi4 r hr).1
  unfold immP at hi5
  rw [hop] at hi5
  simp [blP] at hi5
  obtain ⟨⟨him0, him1⟩, hi6⟩ := hi5
  obtain ⟨fj, hfj, hfp⟩ : ∃ fj, c.fns[x.imm.toNat]? = some fj ∧ (x.args.length : Int) = fj.params := by
    cases e : c.fns[x.imm.toNat]? with
    | none => rw [e] at hi6; simp at hi6
    | some fj => rw [e] at hi6; exact ⟨fj, rfl, by simpa using hi6⟩
  have hal : x.args.length ≤ 20000 := by have := hpar _ _ hfj; omega
  have RD := hideIt (fun (Y : World) (O2 : Nat) (hy : IB w Y w0 R p gb gc col c fuel s A G Cb k fb fo first ib io w.heap.size O2 x) => ready_ri hy.ri h.lt h.op.1 hy.cb h.cc hxok.sok hxok.args hargs hal)
  have hj0 : x.imm.toNat < k := by omega
  have hjk : k < c.fns.length := h.lt
  have CL := hideIt (fun (W : World) (col' : Col) (hW : RI W w0 R p gb gc col' c fuel s.up (x.args.map (rg ρ)) G) => hcc x.imm.toNat fj hj0 hfj W col' s.up _ G hW (fun j f hj hf => h.id j f (by omega) hf) (by simpa using hfp))
  rw [hr] at CL
  rw [show ((x.imm.toNat : Nat) : Int) = x.imm by omega] at CL
  have FC := hideIt (fun (Z : World) (col' : Col) (hZ : Ex col w col' Z) => h.cb.ex h.cc hZ)
  have FA := hideIt (fun (Z : World) (hb : Below w0.heap.size w0 Z) => (hx.low hb).seven)
  have hmn := hmon _ _ _ _ _ hr
  have hW0 := (h.ri.gw k h.lt).2.2
  have SC := hideIt (fun (W : World) (col' : Col) (A' : List Int) (G' : GG) (hG : G' k = G k) (hW : RI W w0 R p gb gc col' c fuel s2 A' G') => set_ri hW h.lt x.dst.toNat (by omega) v (by rw [hG]; have : s.n + 1 ≤ s2.n := hmn; omega) h.hf)
  rw [show ((x.dst.toNat : Nat) : Int) = x.dst by omega] at SC
  have FI := hideIt (fun (u : World) (col' : Col) (A' : List Int) (G' : GG) (H' W' : List Int) (hG : ∀ j, x.imm.toNat < j → G' j = G j) (hG2 : idles c (x.imm.toNat + 1) G') (hb : s2.bs.length = s.up.bs.length) (a1 : RI u w0 R p gb gc col' c fuel s2 A' (updG G' k H' W')) (a2 : Ex col w col' u) (a3 : ∀ m, regAt H' m = if m = x.dst.toNat then v else regAt (G' k).1 m) (a4 : ∀ m ∈ (G' k).2, m ∈ W') (a5 : ∀ m, regAt H' m ≠ 0 → regAt (G' k).1 m ≠ 0 ∨ (m : Int) ∈ W') => (show InsPost w w0 R p gb gc col c fuel s G k f (.ok (setR ρ x.dst.toNat v) s2) (.returned (.agg #[.int .u8 0, .bool false])) u from
    ⟨rfl, col', A', _, a1, a2, by rw [updG_at]; exact opn_set (by rw [hG k hj0]; exact h.op) a3 a4 a5, idles_upd (idles_up h.id hG2 hG) H' W', fun j hj => by rw [updG_gt H' W' hj]; exact hG j (by omega), hb⟩))
  have n33 : (x.op == 33) = false := by simp; omega
  have n31 : (x.op == 31) = false := by simp; omega
  have n30 : (x.op == 30) = false := by simp; omega
  have n32 : (x.op == 32) = true := by simp; omega
  generalize hN : w.heap.size = O1 at *
  generalize hdn : x.dst.toNat = dn at *
  clear hst h hx hxok hins hop hs hi3 hi4 him0 him1 hi6 hdst hargs hfj hfp hal hjk hmn hW0 hr hcc hmon hpar hdn
  go_enter Try.func104, Try.ntmps104
  go_wp2_with (first
    | (go_at_call 105; refine HS.out.mono ?_; rintro e y ⟨rfl, hr, hx, hm⟩; have HI := hideIt (IM.out y hr hx hm); generalize hO2 : y.heap.size = O2 at *; obtain ⟨i0, -, -, -, -, i5, i6⟩ := HI.out.at'.seven; clear hr hx hm)
    | (go_at_call 121; refine (RD.out _ _ HI.out).mono ?_; rintro e z ⟨rfl, col1, hr, hx⟩; have HZ := hideIt (And.intro hr (HI.out.ex.trans hx)); have c1 := (hx.col O1 (Array.getElem?_eq_some_iff.1 HI.out.b1).1).trans HI.out.n1; have c2 := (hx.col O2 (Array.getElem?_eq_some_iff.1 HI.out.b2).1).trans HI.out.n2; have B1 := hideIt (Ex.blk hx HI.out.n1 HI.out.b1); have B2 := hideIt (Ex.blk hx HI.out.n2 HI.out.b2); have C1 := hideIt c1; have C2 := hideIt c2; obtain ⟨-, -, -, -, -, j5, -⟩ := FA.out z hr.bel; clear hr hx c1 c2 i0 i5 i6)
    | (go_at_call 59; refine (CL.out _ _ HZ.out.1).mono ?_; rintro e u ⟨rfl, col2, A2, G2, a1, a2, a3, a4, a5⟩; have HU := hideIt (And.intro a1 (And.intro (HZ.out.2.trans a2) (And.intro a3 (And.intro a4 a5)))); have d1 := Ex.blk a2 C1.out B1.out; have d2 := Ex.blk a2 C2.out B2.out; have e1 := (a2.col O1 (Array.getElem?_eq_some_iff.1 B1.out).1).trans C1.out; have e2 := (a2.col O2 (Array.getElem?_eq_some_iff.1 B2.out).1).trans C2.out; have E1 := hideIt e1; have E2 := hideIt e2; have D1 := hideIt d1; have D2 := hideIt d2; have z0 := Me.cell_of_block d2 0; have z1 := Me.cell_of_block d2 1; have zf := Me.free_of_block d2 0; have zg := Me.free_of_block d2 1; clear a1 a2 a3 a4 a5 d1 d2 e1 e2)
    | fail)
  have hZr := (HU.out.1.other E2.out (Nat.le_trans HI.out.lw HI.out.l2) 0 (.int .u8 0)).other E2.out (Nat.le_trans HI.out.lw HI.out.l2) 1 (.bool false)
  have hZe := (HU.out.2.1.set (p := ⟨O2, 0, none⟩) (Or.inr HI.out.l2) (.int .u8 0)).set (p := ⟨O2, 1, none⟩) (Or.inr HI.out.l2) (.bool false)
  have hZ1 := (Below.heap_setCell (u.setCell ⟨O2, 0, none⟩ (.int .u8 0)) ⟨O2, 1, none⟩ (.bool false) O1 HI.out.ne).trans ((Below.heap_setCell u ⟨O2, 0, none⟩ (.int .u8 0) O1 HI.out.ne).trans D1.out)
  have hZ2 := heap_setCell_same _ O2 1 _ _ (.bool false) (heap_setCell_same u O2 0 _ _ (.int .u8 0) D2.out)
  generalize (u.setCell ⟨O2, 0, none⟩ (.int .u8 0)).setCell ⟨O2, 1, none⟩ (.bool false) = Z at *
  have y0 := (FC.out Z col2 hZe).c0
  obtain ⟨-, -, y2, -⟩ := FA.out Z hZr.bel
  have SZ := hideIt (SC.out Z.drew col2 A2 G2 (HU.out.2.2.2.1 k hj0) (hZr.keep (Q.refl Z).drew))
  have HE := hideIt hZe
  have H1 := hideIt hZ1
  have H2 := hideIt hZ2
  clear z0 z1 zf zg hZr hZe hZ1 hZ2 j5
  first | go_region_with (first | (go_at_call 123; refine SZ.out.mono ?_; rintro e t ⟨rfl, col', H', W', a1, a2, a3, a4, a5⟩; have b1 := Ex.blk a2 E1.out (o := .cells #[.int .u8 0, .bool false] 105 (0, 0)) H1.out; have b2 := Ex.blk a2 E2.out (o := .cells #[.int .u8 0, .bool false] 105 (0, 0)) H2.out; have u0 := Me.cell_of_block b2 0; have u1 := Me.cell_of_block b2 1; have v0 := Me.cell_of_block b1 0; have v1 := Me.cell_of_block b1 1; have v2 := Me.free_of_block b1 0; have v3 := Me.free_of_block b1 1; have HT := hideIt (And.intro a1 (And.intro (HE.out.trans ((Ex.q (Q.refl Z).drew).trans a2)) (And.intro a3 (And.intro a4 (And.intro a5 a2))))); clear a1 a2 a3 a4 a5 b1 b2)) | fail
  all_goals go_wp2_with (fail)
  all_goals obtain ⟨a1, a2, a3, a4, a5, a6⟩ := HT.out
  all_goals have hcn : col' O1 = none := (a6.col O1 (Array.getElem?_eq_some_iff.1 H1.out).1).trans E1.out
  all_goals exact bodyPost_ret (v := .agg #[.int .u8 0, .bool false]) (by simp [results, Try.results104, go_sem, v0, v1]) rfl (FI.out _ col' A2 G2 H' W' HU.out.2.2.2.1 HU.out.2.2.1 HU.out.2.2.2.2 ((a1.other hcn (Nat.le_trans HI.out.lw HI.out.l1) _ _).other hcn (Nat.le_trans HI.out.lw HI.out.l1) _ _) ((a2.set (Or.inr HI.out.l1) _).set (Or.inr HI.out.l1) _) a3 a4 a5)

set_option maxRecDepth 100000 in
set_option maxHeartbeats 2000000 in
theorem inst_over {w w0 : World} {R p gb gc : Nat} {col : Col} {c : PC} {fuel : Nat} {s : St} {A : List Int} {G : GG} {k : Nat} {f : PF} {ρ : Rg} {Cb fb fo first : Nat} (h : IA w w0 R p gb gc col c fuel s A G k f ρ Cb fb fo first) (ib io : Nat) (x : PI) (hx : At w0 ib io x.cells) (hxok : x.ok w0) (hins : insP c k f x = true) (hs : ¬ s.n = fuel) (hop : x.op = 32) {cf : CallT} (hmon : MonC cf) (hpar : ∀ (j : Nat) (g : PF), c.fns[j]? = some g → g.params ≤ 20000) (hcc : CallC w0 R p gb gc c fuel cf k) (t : Int) (sp : Bool) (s2 : St) (hr : cf x.imm.toNat (x.args.map (rg ρ)) s.up = .over t sp s2) :
    Calls Try.prog 104 (insArg R Cb ib io) w fun e w' => InsPost w w0 R p gb gc col c fuel s G k f (.over t sp s2) e w' := by
  have hst := step_ri (h.ri.alloc (.cells #[.int .u8 0, .bool false] 105)) h.hf
  simp only [hs, if_false, not_false_eq_true, decide_true] at hst
  have HS := hideIt hst
  have IM := hideIt (fun (y : World) => ib_mk (y := y) h hx)
  have hi := hins
  unfold insP at hi
  simp only [Bool.and_eq_true] at hi
  obtain ⟨-, -, hi3, hi4, hi5⟩ := hi
  have hdst : 0 ≤ x.dst ∧ x.dst < 20000 := by
    unfold wtP at hi3
    rw [hop] at hi3
    simp [blP, show wrP 32 = true by decide] at hi3
    have := h.rg
    omega
  have hargs : ∀ r ∈ x.args, 0 ≤ r := fun r hr => by
    unfold rdsP at hi4
    rw [hop] at hi4
    simp [blP, show rdP 32 = 0 by decide] at hi4
    exact (hi4 r hr).1
  unfold immP at hi5
  rw [hop] at hi5
  simp [blP] at hi5
  obtain ⟨⟨him0, him1⟩, hi6⟩ := hi5
  obtain ⟨fj, hfj, hfp⟩ : ∃ fj, c.fns[x.imm.toNat]? = some fj ∧ (x.args.length : Int) = fj.params := by
    cases e : c.fns[x.imm.toNat]? with
    | none => rw [e] at hi6; simp at hi6
    | some fj => rw [e] at hi6; exact ⟨fj, rfl, by simpa using hi6⟩
  have hal : x.args.length ≤ 20000 := by have := hpar _ _ hfj; omega
  have RD := hideIt (fun (Y : World) (O2 : Nat) (hy : IB w Y w0 R p gb gc col c fuel s A G Cb k fb fo first ib io w.heap.size O2 x) => ready_ri hy.ri h.lt h.op.1 hy.cb h.cc hxok.sok hxok.args hargs hal)
  have hj0 : x.imm.toNat < k := by omega
  have hjk : k < c.fns.length := h.lt
  have CL := hideIt (fun (W : World) (col' : Col) (hW : RI W w0 R p gb gc col' c fuel s.up (x.args.map (rg ρ)) G) => hcc x.imm.toNat fj hj0 hfj W col' s.up _ G hW (fun j f hj hf => h.id j f (by omega) hf) (by simpa using hfp))
  rw [hr] at CL
  rw [show ((x.imm.toNat : Nat) : Int) = x.imm by omega] at CL
  have FC := hideIt (fun (Z : World) (col' : Col) (hZ : Ex col w col' Z) => h.cb.ex h.cc hZ)
  have FA := hideIt (fun (Z : World) (hb : Below w0.heap.size w0 Z) => (hx.low hb).seven)
  have FO := hideIt (fun (u : World) (col' : Col) (A' : List Int) (G' : GG) (s3 : St) (hne : t ≠ 0 ∨ sp = true) (a1 : RI u w0 R p gb gc col' c fuel s3 A' G') (a2 : Ex col w col' u) (hG : ∀ j, x.imm.toNat < j → G' j = G j) (q1 : s3.n = s2.n) (q2 : s3.tr = s2.tr) (q3 : s.up.bs.length ≤ s3.bs.length) => (show InsPost w w0 R p gb gc col c fuel s G k f (.over t sp s2) (.returned (.agg #[.int .u8 t, .bool sp])) u from
    ⟨rfl, hne, col', A', G', s3, a1, a2, fun j hj => hG j (by omega), q1, q2, q3⟩))
  have n33 : (x.op == 33) = false := by simp; omega
  have n31 : (x.op == 31) = false := by simp; omega
  have n30 : (x.op == 30) = false := by simp; omega
  have n32 : (x.op == 32) = true := by simp; omega
  generalize hN : w.heap.size = O1 at *
  clear hst h hx hxok hins hop hs hi3 hi4 him0 him1 hi6 hdst hargs hfj hfp hal hjk hr hcc hmon hpar
  go_enter Try.func104, Try.ntmps104
  go_wp2_with (first
    | (go_at_call 105; refine HS.out.mono ?_; rintro e y ⟨rfl, hr, hx, hm⟩; have HI := hideIt (IM.out y hr hx hm); generalize hO2 : y.heap.size = O2 at *; obtain ⟨i0, -, -, -, -, i5, i6⟩ := HI.out.at'.seven; clear hr hx hm)
    | (go_at_call 121; refine (RD.out _ _ HI.out).mono ?_; rintro e z ⟨rfl, col1, hr, hx⟩; have HZ := hideIt (And.intro hr (HI.out.ex.trans hx)); have c1 := (hx.col O1 (Array.getElem?_eq_some_iff.1 HI.out.b1).1).trans HI.out.n1; have c2 := (hx.col O2 (Array.getElem?_eq_some_iff.1 HI.out.b2).1).trans HI.out.n2; have B1 := hideIt (Ex.blk hx HI.out.n1 HI.out.b1); have B2 := hideIt (Ex.blk hx HI.out.n2 HI.out.b2); have C1 := hideIt c1; have C2 := hideIt c2; obtain ⟨-, -, -, -, -, j5, -⟩ := FA.out z hr.bel; clear hr hx c1 c2 i0 i5 i6)
    | (go_at_call 59; refine (CL.out _ _ HZ.out.1).mono ?_; rintro e u ⟨rfl, hne, col2, A2, G2, s3, a1, a2, a3, a4, a5, a6⟩; have HN := hideIt hne; have HU := hideIt (And.intro a1 (And.intro (HZ.out.2.trans a2) (And.intro a3 (And.intro a4 (And.intro a5 a6))))); have d1 := Ex.blk a2 C1.out B1.out; have d2 := Ex.blk a2 C2.out B2.out; have e1 := (a2.col O1 (Array.getElem?_eq_some_iff.1 B1.out).1).trans C1.out; have e2 := (a2.col O2 (Array.getElem?_eq_some_iff.1 B2.out).1).trans C2.out; have E1 := hideIt e1; have E2 := hideIt e2; have D1 := hideIt d1; have D2 := hideIt d2; have z0 := Me.cell_of_block d2 0; have z1 := Me.cell_of_block d2 1; have zf := Me.free_of_block d2 0; have zg := Me.free_of_block d2 1; have w0' := Me.cell_of_block d1 0; have w1' := Me.cell_of_block d1 1; have w2' := Me.free_of_block d1 0; have w3' := Me.free_of_block d1 1; have ne := HI.out.ne; have ne' : ¬ O2 = O1 := fun q => ne q.symm; clear a1 a2 a3 a4 a5 a6 d1 d2 e1 e2 hne)
    | fail)
  all_goals obtain ⟨a1, a2, a3, a4, a5, a6⟩ := HU.out
  all_goals first
    | (exfalso; rcases HN.out with q | q <;> simp_all; done)
    | (rename_i h1 h2; subst h1; subst h2; exact bodyPost_ret (v := .agg #[.int .u8 0, .bool true]) (by simp [results, Try.results104, go_sem, w0', w1']) rfl (FO.out _ col2 A2 G2 s3 HN.out ((((a1.other E2.out (Nat.le_trans HI.out.lw HI.out.l2) _ _).other E2.out (Nat.le_trans HI.out.lw HI.out.l2) _ _).other E1.out (Nat.le_trans HI.out.lw HI.out.l1) _ _).other E1.out (Nat.le_trans HI.out.lw HI.out.l1) _ _) ((((a2.set (Or.inr HI.out.l2) _).set (Or.inr HI.out.l2) _).set (Or.inr HI.out.l1) _).set (Or.inr HI.out.l1) _) a3 a4 a5 a6))
    | exact bodyPost_ret (v := .agg #[.int .u8 t, .bool sp]) (by simp [results, Try.results104, go_sem, w0', w1']) rfl (FO.out _ col2 A2 G2 s3 HN.out ((((a1.other E2.out (Nat.le_trans HI.out.lw HI.out.l2) _ _).other E2.out (Nat.le_trans HI.out.lw HI.out.l2) _ _).other E1.out (Nat.le_trans HI.out.lw HI.out.l1) _ _).other E1.out (Nat.le_trans HI.out.lw HI.out.l1) _ _) ((((a2.set (Or.inr HI.out.l2) _).set (Or.inr HI.out.l2) _).set (Or.inr HI.out.l1) _).set (Or.inr HI.out.l1) _) a3 a4 a5 a6)

end Go.Proofs.Ytaomkfhbnakbjaa

namespace Go.Proofs.Ytaomkfhbnakbjaa
open Go.RowKit
set_option linter.unusedVariables false

theorem inst_any {w w0 : World} {R p gb gc : Nat} {col : Col} {c : PC} {fuel : Nat} {s : St} {A : List Int} {G : GG} {k : Nat} {f : PF} {ρ : Rg} {Cb fb fo first : Nat} (h : IA w w0 R p gb gc col c fuel s A G k f ρ Cb fb fo first) (ib io : Nat) (x : PI) (hx : At w0 ib io x.cells) (hxok : x.ok w0) (hfl : f.slots.length ≤ 65536) (hgl : c.gl.length ≤ 65536) (hins : insP c k f x = true) {cf : CallT} (hmon : MonC cf) (hpar : ∀ (j : Nat) (g : PF), c.fns[j]? = some g → g.params ≤ 20000) (hcc : CallC w0 R p gb gc c fuel cf k) :
    Calls Try.prog 104 (insArg R Cb ib io) w fun e w' => InsPost w w0 R p gb gc col c fuel s G k f (exI cf fuel first x ρ s) e w' := by
  by_cases hs : s.n = fuel
  · rw [show exI cf fuel first x ρ s = .over 0 true s by simp [exI, hs]]
    refine (inst_spent h ib io hs).mono ?_
    rintro e w' ⟨rfl, q⟩
    exact ⟨rfl, Or.inr rfl, q⟩
  by_cases n33 : x.op = 33
  · rw [show exI cf fuel first x ρ s = .ok ρ { s.up with tr := s.tr ++ [rg ρ x.a] } by simp [exI, hs, n33]]
    exact inst_print h ib io x hx hins hs n33
  by_cases n31 : x.op = 31
  · rw [show exI cf fuel first x ρ s = (if Me.inB s.bs (hiA (rg ρ x.a)) (loA (rg ρ x.a)) then .ok ρ { s.up with f := Me.upd s.f (hiA (rg ρ x.a)) (loA (rg ρ x.a)) (rg ρ x.b) } else .over 5 false s.up) by simp [exI, hs, n31]]
    exact inst_store h ib io x hx hins hs n31 _ rfl
  by_cases n30 : x.op = 30
  · cases hin : Me.inB s.bs (hiA (rg ρ x.a)) (loA (rg ρ x.a))
    · rw [show exI cf fuel first x ρ s = .over 5 false s.up by simp [exI, hs, n30, hin]]
      exact inst_lost h ib io x hx hins n30 hs hin
    · rw [show exI cf fuel first x ρ s = .ok (setR ρ x.dst.toNat (s.f (hiA (rg ρ x.a)) (loA (rg ρ x.a)))) s.up by simp [exI, hs, n30, hin]]
      exact inst_load h ib io x hx hins n30 hs _ hin rfl
  by_cases n32 : x.op = 32
  · cases hr : cf x.imm.toNat (x.args.map (rg ρ)) s.up with
    | ok v s2 =>
      rw [show exI cf fuel first x ρ s = .ok (setR ρ x.dst.toNat v) s2 by simp [exI, hs, n32, hr]]
      exact inst_call h ib io x hx hxok hins hs n32 hmon hpar hcc v s2 hr
    | over t sp s2 =>
      rw [show exI cf fuel first x ρ s = .over t sp s2 by simp [exI, hs, n32, hr]]
      exact inst_over h ib io x hx hxok hins hs n32 hmon hpar hcc t sp s2 hr
  · have hop : x.op < 30 := by
      unfold insP knP opP at hins
      simp at hins
      omega
    by_cases hz : reck2 ρ x = 0
    · rw [show exI cf fuel first x ρ s = .ok (setR ρ x.dst.toNat (reck1 first ρ x)) s.up by simp [exI, *]]
      exact inst_reck h ib io x hx hxok.ty.1 hfl hgl hins hop hs _ _ rfl rfl hz
    · rw [show exI cf fuel first x ρ s = .over (reck2 ρ x) false s.up by simp [exI, *]]
      exact inst_trap h ib io x hx hxok.ty.1 hfl hgl hins hop hs _ _ rfl rfl hz

set_option maxRecDepth 100000 in
set_option maxHeartbeats 1000000 in
theorem next_ri {w w0 : World} {R p gb gc : Nat} {col : Col} {c : PC} {fuel : Nat} {s : St} {A : List Int} {G : GG} (h : RI w w0 R p gb gc col c fuel s A G) {k : Nat} (hk : k < c.fns.length) {ρ : Rg} (hρ : ∀ n, regAt (G k).1 n = ρ n) {Cb fb fo first : Nat} (hC : CB w Cb gb k fb fo first) {pb po : Nat} {q : PP} (hp : At w pb po q.cells) :
    Calls Try.prog 107 #[.pointer (some ⟨Cb, 0, none⟩), .pointer (some ⟨pb, po, none⟩)] w fun e w' => e = .returned (.int .i64 (nextP q ρ)) ∧ Dr w w' := by
  obtain ⟨-, -, p2, p3, p4⟩ := hp.five
  have c0 := hC.c0
  by_cases hc : 0 ≤ q.cond
  · have GT := hideIt (fun m => get_int (h.keep ((Q.refl w).drewN m)) hk hρ q.cond hc)
    have hd : decide (0 ≤ q.cond) = true := by simpa using hc
    by_cases hz : rg ρ q.cond = 0
    · rw [show nextP q ρ = q.els by simp [nextP, hc, hz]]
      rw [hz] at GT
      clear h hC hp
      go_enter Try.func107, Try.ntmps107
      go_wp2_with (fail)
      go_quiet (first | (go_at_call 106; exact Calls.quiet_of_same (GT.out _)) | fail)
      go_wp2_with (fail)
      go_ret
      exact ⟨rfl, _, rfl⟩
    · rw [show nextP q ρ = q.next by simp [nextP, hz]]
      have hz2 : (rg ρ q.cond == 0) = false := by simpa using hz
      generalize rg ρ q.cond = v at *
      clear h hC hp
      go_enter Try.func107, Try.ntmps107
      go_wp2_with (fail)
      go_quiet (first | (go_at_call 106; exact Calls.quiet_of_same (GT.out _)) | fail)
      go_wp2_with (fail)
      go_ret
      exact ⟨rfl, _, rfl⟩
  · rw [show nextP q ρ = q.next by simp [nextP, hc]]
    have hd : decide (0 ≤ q.cond) = false := by simpa using hc
    clear h hC hp
    go_enter Try.func107, Try.ntmps107
    go_wp2_with (fail)
    go_quiet (fail)
    go_wp2_with (fail)
    go_ret
    exact ⟨rfl, _, rfl⟩

end Go.Proofs.Ytaomkfhbnakbjaa
