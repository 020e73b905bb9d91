/-
  One part of a function in which calls are done (part of inline): what its instructions do to the state, plainly, and the contract over the program; the conditions: the function and the bodies lie in memory, and the numbers are small.
  A function's calls are done (doCalls of inline): a contract over the program; the conditions: the function and the bodies lie in memory, its parts in a block of their own, and the numbers are small.
-/
import Derived.Test.YtnaflfpkkbfnfaaKInJ
namespace Go.Proofs.Ytnaflfpkkbfnfaa.In
open Go.RowKit
set_option linter.unusedVariables false

theorem bodyP_z (bs : List (Option Bd)) (x : PI) : bodyP bs (zI x) = bodyP bs x := rfl
theorem begC_z (x : PI) (b : Bd) (fault : Bool) (s : Cl) : begC (zI x) b fault s = begC x b fault s := rfl
theorem stepB_z (x : PI) (base : Int) (first len : Nat) (s : Cl) (n : Nat) (p : PP) : stepB (zI x) base first len s n p = stepB x base first len s n p := rfl
theorem partsB_z (x : PI) (base : Int) (first len : Nat) (l : List PP) : ∀ (s : Cl) (n : Nat), partsB (zI x) base first len s n l = partsB x base first len s n l := by
  induction l with
  | nil => intro s n; rfl
  | cons a l ih => intro s n; show partsB (zI x) base first len _ (n + 1) l = partsB x base first len _ (n + 1) l; rw [ih, stepB_z]
theorem callP_z (x : PI) (b : Bd) (fault : Bool) (s : Cl) : callP (zI x) b fault s = callP x b fault s := by
  unfold callP
  split
  · rfl
  · split
    · rfl
    · unfold longC
      dsimp only
      rw [partsB_z, begC_z]
theorem stepI_z (bs : List (Option Bd)) (fault : Bool) (s : Cl) (x : PI) : stepI bs fault s (zI x) = stepI bs fault s x := by
  unfold stepI
  rw [bodyP_z]
  cases bodyP bs x with
  | none => rfl
  | some b => exact callP_z x b fault s
theorem foldI_z (bs : List (Option Bd)) (fault : Bool) (l : List PI) : ∀ s, (l.map zI).foldl (stepI bs fault) s = l.foldl (stepI bs fault) s := by
  induction l with
  | nil => intro s; rfl
  | cons x l ih => intro s; rw [List.map_cons, List.foldl_cons, List.foldl_cons, stepI_z, ih]

/-- The bodies may be put, the calls are right. -/
structure Rdy (K : Nat) (bs : List (Option Bd)) (l : List PI) : Prop where
  bd : ∀ b, some b ∈ bs → BdOk b
  im : ∀ x ∈ l, x.op = 32 → 0 ≤ x.imm ∧ x.imm < K
  ar : ∀ x ∈ l, ∀ b, bodyP bs x = some b → x.args.length ≤ 20
theorem bodyP_mem {bs : List (Option Bd)} {x : PI} {b : Bd} (h : bodyP bs x = some b) : some b ∈ bs := by
  unfold bodyP at h
  split at h
  · split at h
    · rename_i b' hb
      subst h
      exact List.mem_of_getElem? hb
    · cases h
  · cases h
/-- What an instruction keeps of the state. -/
structure Stp (first : Nat) (s s' : Cl) : Prop where
  cnt : cntS s'.ps ≤ cntS s.ps + 62
  r0 : s.regs ≤ s'.regs
  r1 : s'.regs ≤ s.regs + 20
  len : s.ps.length ≤ s'.ps.length
  here : s'.here < s'.ps.length ∧ (s'.here = s.here ∨ first ≤ s'.here)
theorem callP_regs (x : PI) (b : Bd) (fault : Bool) (s : Cl) (h : b.f.parts ≠ []) : (callP x b fault s).regs = s.regs + b.f.regs := by
  unfold callP
  split
  · rename_i e; exact absurd e h
  · split
    · rw [put_regs, puts_regs, begC_regs]
    · rw [longC_regs, begC_regs]
theorem stepI_stp {K : Nat} {bs : List (Option Bd)} {l : List PI} (hr : Rdy K bs l) (fault : Bool) {first : Nat} (s : Cl) {x : PI} (hx : x ∈ l) (hh : s.here < s.ps.length) (hf : first ≤ s.ps.length) : Stp first s (stepI bs fault s x) := by
  unfold stepI
  cases e : bodyP bs x with
  | none => exact ⟨by have := put_cnt s (zI x); dsimp only; omega, by show s.regs ≤ (s.put (zI x)).regs; rw [put_regs]; omega, by show (s.put (zI x)).regs ≤ _; rw [put_regs]; omega, by show _ ≤ (s.put (zI x)).ps.length; rw [put_len]; omega, by show (s.put (zI x)).here < (s.put (zI x)).ps.length; rw [put_here, put_len]; exact hh, Or.inl (put_here _ _)⟩
  | some b =>
    have hb := hr.bd b (bodyP_mem e)
    have ha := hr.ar x hx b e
    obtain ⟨g1, g2⟩ := callP_grow x b fault s
    obtain ⟨h1, h2⟩ := callP_here x b fault s hh
    have h3 := callP_regs x b fault s hb.pne
    have h4 := hb.regs
    have h5 := hb.ul
    have h6 := hb.len
    have h7 := hb.cnt
    exact ⟨by dsimp only; omega, by dsimp only; omega, by dsimp only; omega, g2, h1, h2.imp id (fun q => Nat.le_trans hf q)⟩
theorem foldI_stp {K : Nat} {bs : List (Option Bd)} {l : List PI} (hr : Rdy K bs l) (fault : Bool) {first : Nat} : ∀ (m : List PI), (∀ x ∈ m, x ∈ l) → ∀ s : Cl, s.here < s.ps.length → first ≤ s.ps.length → cntS (m.foldl (stepI bs fault) s).ps ≤ cntS s.ps + 62 * m.length ∧ s.regs ≤ (m.foldl (stepI bs fault) s).regs ∧ (m.foldl (stepI bs fault) s).regs ≤ s.regs + 20 * m.length ∧ s.ps.length ≤ (m.foldl (stepI bs fault) s).ps.length ∧ (m.foldl (stepI bs fault) s).here < (m.foldl (stepI bs fault) s).ps.length ∧ ((m.foldl (stepI bs fault) s).here = s.here ∨ first ≤ (m.foldl (stepI bs fault) s).here)
  | [], _, s, hh, hf => by simp only [List.foldl_nil, List.length_nil]; exact ⟨by omega, by omega, by omega, Nat.le_refl _, hh, Or.inl trivial⟩
  | x :: m, hm, s, hh, hf => by
    have h1 := stepI_stp hr fault (first := first) s (hm x (List.mem_cons_self ..)) hh hf
    obtain ⟨a1, a2, a3, a4, a5, a6⟩ := foldI_stp hr fault (first := first) m (fun y hy => hm y (List.mem_cons_of_mem _ hy)) (stepI bs fault s x) h1.here.1 (Nat.le_trans hf h1.len)
    have b1 := h1.cnt
    have b2 := h1.r0
    have b3 := h1.r1
    have b4 := h1.len
    rw [List.foldl_cons, List.length_cons]
    refine ⟨by omega, by omega, by omega, by omega, a5, ?_⟩
    rcases a6 with q | q
    · rcases h1.here.2 with r | r
      · exact Or.inl (q.trans r)
      · exact Or.inr (by omega)
    · exact Or.inr q

/-- The function's own parts, as they were. -/
structure F0Ok (X : Cx) : Prop where
  ok : ∀ p ∈ X.F0.parts, ∀ y, X.Fr y → p.ok y
  xf : ∀ p ∈ X.F0.parts, ∀ x ∈ p.ins, XF X x

abbrev boxP (a : Option Addr) (n c : Nat) (p : PP) : Obj := .cells #[.slice a n c, .bool p.e, .int .i64 p.cond, .int .i64 p.next, .int .i64 p.els] 39 (0, 0)
theorem box5 {w : World} {B : Nat} {a : Option Addr} {n c : Nat} {p : PP} (h : w.heap[B]? = some (boxP a n c p)) : w.cell? ⟨B, 0, none⟩ = some (.slice a n c) ∧ w.cell? ⟨B, 1, none⟩ = some (.bool p.e) ∧ w.cell? ⟨B, 2, none⟩ = some (.int .i64 p.cond) ∧ w.cell? ⟨B, 3, none⟩ = some (.int .i64 p.next) ∧ w.cell? ⟨B, 4, none⟩ = some (.int .i64 p.els) ∧ w.frozen? ⟨B, 0, none⟩ = false :=
  ⟨(cell_of_block h 0).trans rfl, (cell_of_block h 1).trans rfl, (cell_of_block h 2).trans rfl, (cell_of_block h 3).trans rfl, (cell_of_block h 4).trans rfl, free_of_block h 0⟩

set_option maxRecDepth 100000 in
set_option maxHeartbeats 8000000 in
theorem part_any (X0 : Cx) (hx0 : X0.ok) (hex : X0.ex = []) (hf0 : F0Ok X0) (K : Nat) (bs : List (Option Bd)) (hbs : BodsIn X0 K bs) (n : Nat) (f : PP) (hf : X0.F0.parts[n]? = some f) (hr : Rdy K bs f.ins) (s : Cl) (w : World) (h : CW X0 n s w) (hs : cntS s.ps + 62 * f.ins.length + 1000 ≤ 800000000) (hr0 : 0 ≤ s.regs) (hr1 : s.regs + 20 * f.ins.length ≤ 100000000) :
    Calls Try.prog 37 #[.pointer (some ⟨X0.C, 0, none⟩), .int .i64 (n : Int)] w fun e w' => e = .returned (.tuple #[]) ∧ CW X0 (n + 1) (stepP bs X0.fault s n) w' := by
  have hnl := (List.getElem?_eq_some_iff.1 hf).1
  obtain ⟨L, pa, pc, hm⟩ := h
  obtain ⟨P, rfl, hPb, hPf, hPs, hPlo⟩ := hm.par hx0
  have hLn : L[n]? = some f := by rw [hm.old n (Nat.le_refl _) hnl]; exact hf
  have hsn := hm.at_z hLn
  have hll : L.length = s.ps.length := by rw [← hm.z]; simp
  have hlc := len_cnt s.ps
  have hLl := (List.getElem?_eq_some_iff.1 hLn).1
  obtain ⟨W0, hW0⟩ : ∃ W0, w.alloc (.cells #[.slice f.ia f.ins.length f.ic, .bool f.e, .int .i64 f.cond, .int .i64 f.next, .int .i64 f.els] 39) = W0 := ⟨_, rfl⟩
  have q0 : Q w W0 := by rw [← hW0]; exact (Q.refl w).alloc _
  have bx : W0.heap[w.heap.size]? = some (boxP f.ia f.ins.length f.ic f) := by rw [← hW0]; exact heap_alloc_new w _
  obtain ⟨B, hB⟩ : ∃ B, w.heap.size = B := ⟨_, rfl⟩
  obtain ⟨X, hX⟩ : ∃ X, X0.add B (boxP f.ia f.ins.length f.ic f) = X := ⟨_, rfl⟩
  have hx : X.ok := by rw [← hX]; exact Cx.add_ok hx0 _ _
  have h1 : CW X n s W0 := by rw [← hX]; exact CW.add ⟨L, _, pc, hm⟩ hx0 hB q0 (by rw [← hB]; exact bx)
  have eC : X0.C = X.C := by rw [← hX]; rfl
  have eF : X0.fault = X.fault := by rw [← hX]; rfl
  have e0 : X0.F0 = X.F0 := by rw [← hX]; rfl
  have hbs1 : BodsIn X K bs := by rw [← hX]; exact hbs
  have FOK : Hid (∀ y, X.Fr y → f.ok y) := fun y hy => hf0.ok f (List.mem_of_getElem? hf) y (by rw [← hX] at hy; exact hy)
  have FXF : Hid (∀ x ∈ f.ins, XF X x) := fun x hx' => by rw [← hX]; exact hf0.xf f (List.mem_of_getElem? hf) x hx'
  -- the state ahead of the instructions
  obtain ⟨s1, hs1⟩ : ∃ s1 : Cl, { s with ps := s.ps.set n { zP f with ins := [] }, here := n } = s1 := ⟨_, rfl⟩
  have h1l : s1.ps.length = s.ps.length := by rw [← hs1]; simp
  have h1c : cntS s1.ps ≤ cntS s.ps := by rw [← hs1]; exact cntS_set _ _ _ _ hsn 0 (by simp)
  have h1h : s1.here = n := by rw [← hs1]
  have h1r : s1.regs = s.regs := by rw [← hs1]
  have OPEN : Hid (CW X (n + 1) s1 ((W0.setCell ⟨X.C, 3, none⟩ (.int .i64 (n : Int))).setCell ⟨P, n * 5, none⟩ (.slice none 0 0))) := by
    obtain ⟨L2, pa2, pc2, hm2⟩ := h1
    have e3 := hm2.f3
    have e4 := cell_keep q0 hm.f3
    have eFb : X.fb = X0.fb := by rw [← hX]; rfl
    have eFo : X.fo = X0.fo := by rw [← hX]; rfl
    rw [eFb, eFo, e4] at e3
    injection e3 with e3
    injection e3 with e5 e6 e7
    subst e5; subst e7
    have hL2 : L2[n]? = some f := by rw [hm2.old n (Nat.le_refl _) (by rw [← e0]; exact hnl), ← e0]; exact hf
    have := (hm2.hered hx n).opened hx rfl hL2 (by rw [← e0]; exact hnl)
    rw [← hs1]
    exact this
  have DONE : Hid (∀ R, R = f.ins.foldl (stepI bs X.fault) s1 → stepP bs X0.fault s n = R.goOn f) := fun R hR => by
    unfold stepP
    rw [hsn]
    dsimp only
    rw [show (zP f).ins = f.ins.map zI from rfl, foldI_z, hs1, eF, ← hR]
    rfl
  have HX := hideIt hx
  have HX0 := hideIt hx0
  have HXX := hideIt hX
  have HEQ : Hid (X.C = X0.C ∧ X.fb = X0.fb ∧ X.fo = X0.fo) := by rw [← hX]; exact ⟨rfl, rfl, rfl⟩
  have HBN : Hid (X0.fb ≠ B ∧ True) := ⟨fun q => by have := hx0.hfb; have := hm.fk.size; omega, trivial⟩
  have FOKN : Hid (I64 f.cond ∧ I64 f.next ∧ I64 f.els) := by have := hf0.ok f (List.mem_of_getElem? hf) w hm.fk; exact ⟨this.cond, this.next, this.els⟩
  have HW := hideIt hW0
  have HB := hideIt hB
  have HPf := hideIt hPf
  have PUT : Hid (∀ (R : Cl) (y : World) (x : PI), CW X (n + 1) R y → x ∈ f.ins → bodyP bs x = none → R.here < R.ps.length → opn X (n + 1) R.here → cntS R.ps ≤ 1000000000 → Calls Try.prog 49 #[.pointer (some ⟨X.C, 0, none⟩), x.v] y fun e w' => e = .returned (.tuple #[]) ∧ CW X (n + 1) (stepI bs X.fault R x) w') := fun R y x h1 h2 h3 h4 h5 h6 => by
    have := put_any X hx (n + 1) R y h1 h4 h5 h6 x (FXF.out x h2)
    unfold stepI
    rw [h3]
    exact this
  have CALL : Hid (∀ (R : Cl) (y : World) (x : PI) (q : Nat) (b : Bd), CW X (n + 1) R y → x ∈ f.ins → bodyP bs x = some b → BodyS X q b → R.here < R.ps.length → opn X (n + 1) R.here → cntS R.ps + 200 ≤ 900000000 → 0 ≤ R.regs → R.regs ≤ 100000000 → Calls Try.prog 48 #[.pointer (some ⟨X.C, 0, none⟩), x.v, .pointer (some ⟨q, 0, none⟩)] y fun e w' => e = .returned (.tuple #[]) ∧ CW X (n + 1) (stepI bs X.fault R x) w') := fun R y x q b h1 h2 h3 h3' h4 h5 h6 h7 h8 => by
    have := call_any X hx (n + 1) R y h1 h4 h5 x (FXF.out x h2) q b h3' (hr.bd b (bodyP_mem h3)) (hr.ar x h2 b h3) h6 h7 h8
    unfold stepI
    rw [h3]
    exact this
  have BODY : Hid (∀ (R : Cl) (y : World) (x : PI), CW X (n + 1) R y → x ∈ f.ins → Calls Try.prog 47 #[.pointer (some ⟨X.C, 0, none⟩), x.v] y fun e w' => Q y w' ∧ ((bodyP bs x = none ∧ e = .returned (.pointer none)) ∨ ∃ q bd, bodyP bs x = some bd ∧ e = .returned (.pointer (some ⟨q, 0, none⟩)) ∧ BodyS X q bd)) := fun R y x h1 h2 => body_any X hx (n + 1) R y h1 K bs hbs1 x (fun e => hr.im x h2 e)
  have FOLD : Hid (∀ k, k ≤ f.ins.length → cntS ((f.ins.take k).foldl (stepI bs X.fault) s1).ps + 300 ≤ 800000000 ∧ 0 ≤ ((f.ins.take k).foldl (stepI bs X.fault) s1).regs ∧ ((f.ins.take k).foldl (stepI bs X.fault) s1).regs ≤ 100000000 ∧ ((f.ins.take k).foldl (stepI bs X.fault) s1).here < ((f.ins.take k).foldl (stepI bs X.fault) s1).ps.length ∧ opn X (n + 1) ((f.ins.take k).foldl (stepI bs X.fault) s1).here) := fun k hk => by
    obtain ⟨a1, a2, a3, a4, a5, a6⟩ := foldI_stp hr X.fault (first := s1.ps.length) (f.ins.take k) (fun x hx' => List.mem_of_mem_take hx') s1 (by omega) (Nat.le_refl _)
    rw [List.length_take_of_le hk] at a1 a3
    refine ⟨by omega, by omega, by omega, a5, ?_⟩
    rcases a6 with q | q
    · exact Or.inl (by omega)
    · refine Or.inr ?_
      have := (CW.n0 h1)
      omega
  have FS : Hid (∀ k x, f.ins[k]? = some x → (f.ins.take (k + 1)).foldl (stepI bs X.fault) s1 = stepI bs X.fault ((f.ins.take k).foldl (stepI bs X.fault) s1) x) := fun k x hk => by
    rw [List.take_add_one, hk, List.foldl_append]
    rfl
  have BLK : Hid (∀ S y, CW X (n + 1) S y → y.heap[B]? = some (boxP f.ia f.ins.length f.ic f)) := fun S y hy => by rw [← hX] at hy; exact hy.blk
  -- the end of the part
  have FIN : Hid (∀ (R : Cl) (y : World) (a : Option Addr) (m c : Nat), CW X (n + 1) R y → R.here < R.ps.length → CW (X0.add B (boxP a m c f)) (n + 1) R (y.setCell ⟨B, 0, none⟩ (.slice a m c))) := fun R y a m c hy hh => by
    rw [← hX] at hy
    rcases hy.bset (j := 0) (u := .slice a m c) hx0 with q | ⟨e, he, -⟩
    · exact q
    · rw [hex] at he; cases he
  have HCS : Hid (X0.C < w.heap.size) := (Array.getElem?_eq_some_iff.1 hm.box).1
  have HCP : Hid (¬ X0.C = P) := fun e => by rcases hPb with q | q <;> (have := hx0.hPb; unfold Cx.C at *; omega)
  have HFC : Hid (¬ X0.fb = X0.C) := fun e => by have := hx0.hfb; unfold Cx.C at *; omega
  obtain ⟨c0, c3, cf3, -⟩ := h1.reads
  obtain ⟨g0, -, -, -, -⟩ := hm.c3
  have g1 := hm.f3
  obtain ⟨d0, d1, d2, d3, d4⟩ := (hm.cells rfl hLn).1.five
  have f3 := cell_keep q0 hm.f3
  have eFb : X.fb = X0.fb := by rw [← hX]; rfl
  have eFo : X.fo = X0.fo := by rw [← hX]; rfl
  have z0 := ((hm.q hx0 q0).cells rfl hLn).2 (n * 5)
  have d0' := ((hm.q hx0 q0).cells rfl hLn).1.cell 0 _ rfl
  have hnl2 : (n : Int) < (L.length : Int) := by omega
  have hil := (hf0.ok f (List.mem_of_getElem? hf) w hm.fk).sok.len
  have hpl : L.length ≤ 9223372036854775807 := by omega
  rw [eFb, eFo] at c0
  rw [← eC] at c0 c3 cf3 OPEN PUT CALL BODY
  clear hm hx h1 hX hW0 hx0 hbs hbs1 q0 bx hr hs hr0 hr1 hex hlc eFb eFo
  have hCs : X0.C < w.heap.size := HCS.out
  have nC : ¬ w.heap.size = X0.C := by omega
  have nP : ¬ w.heap.size = P := by omega
  have nCP : ¬ X0.C = P := HCP.out
  have nFC : ¬ X0.fb = X0.C := HFC.out
  clear eC eF e0 hs1
  generalize hC : X0.C = C at *
  rw [← HW.out] at c0 c3 cf3 f3 z0 d0'
  simp only [Nat.add_zero] at d0'
  go_enter Try.func37, Try.ntmps37
  go_wp2_with (fail)
  rw [show w.alloc (.cells #[.slice f.ia f.ins.length f.ic, .bool f.e, .int .i64 f.cond, .int .i64 f.next, .int .i64 f.els] 39) = W0 from HW.out]
  have O0 := OPEN
  generalize (W0.setCell ⟨C, 3, none⟩ (.int .i64 (n : Int))).setCell ⟨P, n * 5, none⟩ (.slice none 0 0) = y0 at O0 ⊢
  clear OPEN g0 g1 d0 d1 d2 d3 d4 c0 c3 cf3 f3 z0 d0' nC nP nCP nFC hCs hPs hnl2 hpl hll hLl hLn HCS HCP HFC
  go_loopw [6, 7, 35] (fun d6 d7 i wr => ∃ (k : Nat), i = .int .i64 k ∧ k ≤ f.ins.length ∧ Hid (CW X (n + 1) ((f.ins.take k).foldl (stepI bs X.fault) s1) wr)) (fun _ _ i _ => f.ins.length - (intOf i).toNat)
  case atStart => exact ⟨0, rfl, Nat.zero_le _, O0⟩
  case round =>
    obtain ⟨k, rfl, hk, HC⟩ := hrel
    generalize wr = y at *
    clear O0
    by_cases hlt : k < f.ins.length
    · obtain ⟨x, hxk⟩ := get_of_lt hlt
      have hxm := List.mem_of_getElem? hxk
      obtain ⟨ib, io, ea, hat, -⟩ := (FOK.out y HC.out.fr).ins k x hxk
      obtain ⟨k0, k1, k2, k3, k4, k5, k6⟩ := hat.seven
      have hkl : (k : Int) < (f.ins.length : Int) := by omega
      obtain ⟨b1, b2, b3, b4, b5⟩ := FOLD.out k hk
      have STEP := hideIt (FS.out k x hxk)
      generalize hR : (f.ins.take k).foldl (stepI bs X.fault) s1 = R at *
      clear hR
      have HB1 := hideIt (And.intro b1 (And.intro b2 (And.intro b3 (And.intro b4 b5))))
      rw [show (Value.slice f.ia f.ins.length f.ic) = .slice (some ⟨ib, io, none⟩) f.ins.length f.ic by rw [ea]]
      clear ea hat hxk b1 b2 b3 b4 b5
      go_wp2_with (fail)
      have QA : Hid (Q y (y.alloc (.cells #[.int .u8 x.op, .int .u8 x.ty, .int .i64 x.dst, .int .i64 x.a, .int .i64 x.b, .int .i64 x.imm, .slice x.aa x.args.length x.ac] 41))) := (Q.refl y).alloc _
      have BX : Hid ((y.alloc (.cells #[.int .u8 x.op, .int .u8 x.ty, .int .i64 x.dst, .int .i64 x.a, .int .i64 x.b, .int .i64 x.imm, .slice x.aa x.args.length x.ac] 41)).heap[y.heap.size]? = some (boxO x)) := heap_alloc_new y _
      have CA := hideIt (HC.out.q HX.out QA.out)
      clear k0 k1 k2 k3 k4 k5 k6
      go_at_call 47
      refine Calls.mono (BODY.out R _ x CA.out hxm) ?_
      rintro e z ⟨q1, hres⟩
      have CZ := hideIt (CA.out.q HX.out q1)
      have hbz := heap_keep q1 BX.out
      obtain ⟨k0, k1, k2, k3, k4, k5, k6⟩ := box7 hbz
      clear q1 hbz CA QA BX
      rcases hres with ⟨hb, rfl⟩ | ⟨q, bd, hb, rfl, hbs⟩
      · have P1 := hideIt (PUT.out R z x CZ.out hxm hb HB1.out.2.2.2.1 HB1.out.2.2.2.2 (by have := HB1.out.1; omega))
        clear hb
        go_wp2_with (fail)
        go_at_call 49
        refine Calls.mono P1.out ?_
        rintro e z2 ⟨rfl, c⟩
        have C2 := hideIt c
        rw [← STEP.out] at C2
        clear c k0 k1 k2 k3 k4 k5 k6 P1
        go_wp2_with (fail)
        go_roundw
        case rel => exact ⟨k + 1, by go_num, by omega, C2⟩
        case measure => simp [intOf]; omega
      · have P1 := hideIt (CALL.out R z x q bd CZ.out hxm hb hbs HB1.out.2.2.2.1 HB1.out.2.2.2.2 (by have := HB1.out.1; omega) HB1.out.2.1 HB1.out.2.2.1)
        clear hb hbs
        go_wp2_with (fail)
        go_at_call 48
        refine Calls.mono P1.out ?_
        rintro e z2 ⟨rfl, c⟩
        have C2 := hideIt c
        rw [← STEP.out] at C2
        clear c k0 k1 k2 k3 k4 k5 k6 P1
        go_wp2_with (fail)
        go_roundw
        case rel => exact ⟨k + 1, by go_num, by omega, C2⟩
        case measure => simp [intOf]; omega
    · have ek : k = f.ins.length := by omega
      subst ek
      have hlt2 : ¬ (f.ins.length : Int) < (f.ins.length : Int) := by omega
      obtain ⟨b1, -, -, b4, b5⟩ := FOLD.out _ (Nat.le_refl _)
      rw [List.take_length] at HC b1 b4 b5
      have DN := hideIt (DONE.out _ rfl)
      generalize hR : f.ins.foldl (stepI bs X.fault) s1 = R at *
      have HBL := hideIt (BLK.out R y HC.out)
      have FIN1 := hideIt (fun a m c => FIN.out R y a m c HC.out b4)
      obtain ⟨L2, pa2, pc2, hm2⟩ := HC.out
      obtain ⟨P2, rfl, -, -, -, -⟩ := hm2.par HX.out
      obtain ⟨p2, hk2⟩ := hm2.get b4
      have hl2 : (R.here : Int) < (L2.length : Int) := by have h9 := (List.getElem?_eq_some_iff.1 hk2).1; omega
      have hpm2 : L2.length ≤ 9223372036854775807 := by
        have h9 : L2.length = R.ps.length := by rw [← hm2.z]; simp
        have h8 := len_cnt R.ps
        omega
      obtain ⟨e1, e2, e3⟩ := HEQ.out
      obtain ⟨c0, -, -, c3, -⟩ := hm2.c3
      have f3 := hm2.f3
      rw [e1] at c0 c3
      rw [e2, e3] at c0 f3
      have d0 : y.cell? ⟨P2, R.here * 5, none⟩ = some (.slice p2.ia p2.ins.length p2.ic) := (hm2.cells rfl hk2).1.cell 0 _ rfl
      obtain ⟨k0, -, -, -, -, kf⟩ := box5 HBL.out
      have HF3 := hideIt f3
      have HD0 := hideIt d0
      have HBC := hideIt (show B ≠ X0.fb ∧ B ≠ P2 from ⟨fun q => HBN.out.1 (by rw [← q]), fun q => by
        obtain ⟨x1, x2, x3, x4⟩ := hm2.exs (B, boxP f.ia f.ins.length f.ic f) (by rw [← HXX.out]; exact List.mem_cons_self ..)
        exact x3 _ rfl q.symm⟩)
      have HB5 := hideIt b5
      have HB4 := hideIt b4
      have HB1 := hideIt b1
      clear hm2 e1 e2 e3 b1 b4 b5 HC DONE FOLD FS PUT CALL BODY
      go_wp2_with (fail)
      go_region
      have C3 := hideIt (CW.q (FIN1.out p2.ia p2.ins.length p2.ic) (Cx.add_ok HX0.out _ _) (Q.refl _).drew)
      have hd3 : ((y.setCell ⟨B, 0, none⟩ (.slice p2.ia p2.ins.length p2.ic)).drew).cell? ⟨P2, R.here * 5, none⟩ = some (.slice p2.ia p2.ins.length p2.ic) := set_cell_ne HD0.out (fun q => HBC.out.2 (by injection q with q; exact q.symm))
      have hf3 : ((y.setCell ⟨B, 0, none⟩ (.slice p2.ia p2.ins.length p2.ic)).drew).cell? ⟨X0.fb, X0.fo + 3, none⟩ = some (.slice (some ⟨P2, 0, none⟩) L2.length pc2) := set_cell_ne HF3.out (fun q => HBC.out.1 (by injection q with q; exact q.symm))
      generalize (y.setCell ⟨B, 0, none⟩ (.slice p2.ia p2.ins.length p2.ic)).drew = Y1 at C3 hd3 hf3 ⊢
      have hb3 := C3.out.blk
      obtain ⟨L3, pa3, pc3, hm3⟩ := C3.out
      clear c0 c3 f3 d0 k0 kf
      have f3 := hm3.f3
      have f3' : Y1.cell? ⟨X0.fb, X0.fo + 3, none⟩ = some (.slice pa3 L3.length pc3) := f3
      rw [hf3] at f3'
      injection f3' with f3'
      injection f3' with j1 j2 j3
      subst j1; subst j3
      obtain ⟨p3, hk3⟩ := hm3.get HB4.out
      obtain ⟨hat3, hz3⟩ := hm3.cells rfl hk3
      obtain ⟨d0, d1, d2, d3, d4⟩ := hat3.five
      have d0' := d0
      rw [hd3] at d0'
      injection d0' with d0'
      injection d0' with j4 j5 j6
      obtain ⟨c0, -, -, c3, -⟩ := hm3.c3
      have c0' : Y1.cell? ⟨C, 0, none⟩ = some (.pointer (some ⟨X0.fb, X0.fo, none⟩)) := by rw [← hC]; exact c0
      have c3' : Y1.cell? ⟨C, 3, none⟩ = some (.int .i64 (R.here : Int)) := by rw [← hC]; exact c3
      have z0 := hz3 (R.here * 5)
      have z1 := hz3 (R.here * 5 + 1)
      have z2 := hz3 (R.here * 5 + 2)
      have z3 := hz3 (R.here * 5 + 3)
      have z4 := hz3 (R.here * 5 + 4)
      obtain ⟨k0, k1, k2, k3, k4, -⟩ := box5 hb3
      have ok3 := FOKN.out
      have GO := hideIt (hm3.go (Cx.add_ok HX0.out _ _) rfl hk3 (by have h9 := HB5.out; rw [← HXX.out] at h9; exact h9) f ok3)
      rw [← j4, ← j5, ← j6] at GO
      clear hm3 hk3 hat3 hz3 c0 c3 f3 d0 hb3 C3 j2 j4 j5 j6 ok3
      go_wp2_with (fail)
      go_region
      go_wp2_with (fail)
      go_end0
      refine ⟨rfl, ?_⟩
      rw [DN.out]
      exact CW.q GO.out.drop HX0.out (Q.refl _).drew

end Go.Proofs.Ytnaflfpkkbfnfaa.In

namespace Go.Proofs.Ytnaflfpkkbfnfaa.In
open Go.RowKit
set_option linter.unusedVariables false

def iTo (l : List PP) (k : Nat) : Nat := ((l.take k).map fun p => p.ins.length).sum
theorem iTo_succ {l : List PP} {k : Nat} {p : PP} (h : l[k]? = some p) : iTo l (k + 1) = iTo l k + p.ins.length := by unfold iTo; rw [List.take_add_one, h]; simp
theorem iTo_le {l : List PP} {k : Nat} {p : PP} (h : l[k]? = some p) : iTo l k + p.ins.length ≤ cntS l := by
  unfold iTo cntS
  induction l generalizing k with
  | nil => simp at h
  | cons a l ih =>
    cases k with
    | zero => simp at h; subst h; simp; omega
    | succ k =>
      have := ih (k := k) (by simpa using h)
      simp only [List.take_succ_cons, List.map_cons, List.sum_cons]
      omega
theorem iTo_all (l : List PP) : iTo l l.length ≤ cntS l := by
  unfold iTo cntS
  rw [List.take_length]
  induction l with
  | nil => simp
  | cons a l ih => simp only [List.map_cons, List.sum_cons]; omega
theorem stepP_bd {K : Nat} {bs : List (Option Bd)} {p : PP} (hr : Rdy K bs p.ins) (fault : Bool) {s : Cl} {n : Nat} (hn : s.ps[n]? = some (zP p)) : cntS (stepP bs fault s n).ps ≤ cntS s.ps + 62 * p.ins.length ∧ s.regs ≤ (stepP bs fault s n).regs ∧ (stepP bs fault s n).regs ≤ s.regs + 20 * p.ins.length ∧ s.ps.length ≤ (stepP bs fault s n).ps.length := by
  have hnl := (List.getElem?_eq_some_iff.1 hn).1
  unfold stepP
  rw [hn]
  dsimp only
  rw [show (zP p).ins = p.ins.map zI from rfl, foldI_z]
  obtain ⟨s1, hs1⟩ : ∃ s1 : Cl, { s with ps := s.ps.set n { zP p with ins := [] }, here := n } = s1 := ⟨_, rfl⟩
  have h1l : s1.ps.length = s.ps.length := by rw [← hs1]; simp
  have h1c : cntS s1.ps ≤ cntS s.ps := by rw [← hs1]; exact cntS_set _ _ _ _ hn 0 (by simp)
  have h1h : s1.here = n := by rw [← hs1]
  have h1r : s1.regs = s.regs := by rw [← hs1]
  obtain ⟨a1, a2, a3, a4, a5, a6⟩ := foldI_stp hr fault (first := s1.ps.length) p.ins (fun x h => h) s1 (by omega) (Nat.le_refl _)
  have g := goOn_cnt (p.ins.foldl (stepI bs fault) s1) (zP p)
  show cntS ((p.ins.foldl (stepI bs fault) _).goOn (zP p)).ps ≤ _ ∧ _ ≤ ((p.ins.foldl (stepI bs fault) _).goOn (zP p)).regs ∧ ((p.ins.foldl (stepI bs fault) _).goOn (zP p)).regs ≤ _ ∧ _ ≤ ((p.ins.foldl (stepI bs fault) _).goOn (zP p)).ps.length
  rw [show ({ s with ps := s.ps.set n { zP p with ins := [] }, here := n } : Cl) = s1 from hs1, goOn_regs, goOn_len]
  exact ⟨by omega, by omega, by omega, by omega⟩

theorem cntS_zP (l : List PP) : cntS (l.map zP) = cntS l := by
  unfold cntS; rw [List.map_map]; congr 1; exact List.map_congr_left (fun p _ => by simp [zP])
theorem doneC_succ (bs : List (Option Bd)) (fault : Bool) (f : PF) (k : Nat) : doneC bs fault f (k + 1) = stepP bs fault (doneC bs fault f k) k := by
  unfold doneC; rw [List.range_succ, List.foldl_append]; rfl
/-- What lies there as the calls begin. -/
structure Beg (X : Cx) : Prop where
  at' : At X.w0 X.fb X.fo X.F0.cells
  blk : ∃ cs t, X.w0.heap[X.fb]? = some (.cells cs t (0, 0))
  pa : X.F0.pa = some ⟨X.Pb, 0, none⟩
  row : X.w0.heap[X.Pb]? = some (.cells (X.F0.parts.flatMap PP.cells).toArray 39 (0, 0))
  cap : X.F0.pc = X.F0.parts.length
  len : X.F0.parts.length ≤ 1000000
theorem Beg.start {X : Cx} (h : Beg X) (hx : X.ok) (hex : X.ex = []) (hf0 : F0Ok X) {w : World} (q : Q X.w0 w) (hb : w.heap[X.C]? = some (.cells #[.pointer (some ⟨X.fb, X.fo, none⟩), X.bod, .bool X.fault, .int .i64 0] 84 (0, 0))) :
    CW X 0 ⟨X.F0.parts.map zP, X.F0.regs, 0⟩ w := by
  obtain ⟨f0, f1, f2, f3⟩ := (h.at'.keep q).four
  obtain ⟨cs, t, hcs⟩ := h.blk
  have no : ∀ j p, X.F0.parts[j]? = some p → opn X 0 j → False := fun j p hj ho => by
    have := (List.getElem?_eq_some_iff.1 hj).1
    rcases ho with ho | ho <;> omega
  refine ⟨X.F0.parts, X.F0.pa, X.F0.pc, ⟨Fk.q (Fk.refl _) q hx.hfb, hb, f0, f1, f2, f3, fun j => free_of_block (heap_keep q hcs) j, rfl, Nat.le_refl _, ⟨?_, .inr ⟨X.Pb, X.F0.pc, _, by rw [h.pa], hx.lo, heap_keep q h.row, by rw [h.cap]; exact Nat.le_refl _, by rw [h.cap]; have := h.len; unfold maxLen; omega, ?_, ?_⟩⟩, fun a e => ?_, fun j _ _ => rfl, fun j p hj ho => (no j p hj ho).elim, fun j k p q' _ ho _ hj _ => (no j p hj ho).elim, fun j p ho hj => (no j p hj ho).elim, fun p hp => ?_, fun e he => by rw [hex] at he; cases he⟩⟩
  · rw [flat_len PP.cells 5 PP.len]
  · rw [h.cap, ← flat_len PP.cells 5 PP.len X.F0.parts]; simp
  · rw [← flat_len PP.cells 5 PP.len X.F0.parts]
    exact List.take_of_length_le (Nat.le_refl _)
  · rw [h.pa] at e; injection e with e; subst e; exact .inl rfl
  · have := hf0.ok p hp X.w0 (Fk.refl _)
    exact ⟨this.cond, this.next, this.els⟩

set_option maxRecDepth 100000 in
set_option maxHeartbeats 4000000 in
theorem doCalls_any (X : Cx) (hx : X.ok) (hex : X.ex = []) (hf0 : F0Ok X) (hbg : Beg X) (K : Nat) (bs : List (Option Bd)) (hbs : BodsIn X K bs) (hr : ∀ p ∈ X.F0.parts, Rdy K bs p.ins) (hc : cntS X.F0.parts ≤ 1000000) (hr0 : 0 ≤ X.F0.regs ∧ X.F0.regs ≤ 1000000) :
    Calls Try.prog 21 #[.pointer (some ⟨X.fb, X.fo, none⟩), X.bod, .bool X.fault] X.w0 fun e w' => e = .returned (.tuple #[]) ∧ CW X X.F0.parts.length (doneC bs X.fault X.F0 X.F0.parts.length) w' ∧ (cntS (doneC bs X.fault X.F0 X.F0.parts.length).ps ≤ 63 * cntS X.F0.parts ∧ 0 ≤ (doneC bs X.fault X.F0 X.F0.parts.length).regs ∧ (doneC bs X.fault X.F0 X.F0.parts.length).regs ≤ X.F0.regs + 20 * cntS X.F0.parts) := by
  obtain ⟨g, o, c, eb, hbl, hKb, hbsm⟩ := hbs
  have HBS := hideIt (show BodsIn X K bs from ⟨g, o, c, eb, hbl, hKb, hbsm⟩)
  clear hbsm hbl hKb
  obtain ⟨f0, f1, f2, f3⟩ := hbg.at'.four
  have ST := hideIt (fun (w : World) (q : Q X.w0 w) hb => hbg.start hx hex hf0 (w := w) q hb)
  have HX := hideIt hx
  have HEX := hideIt hex
  have HF0 := hideIt hf0
  have HR := hideIt hr
  have d3 := fun ob => cell_keep ((Q.refl X.w0).alloc ob) f3
  have hlen := hbg.len
  clear hx hex hf0 hbg hr
  obtain ⟨W1, hW1⟩ : ∃ W1, X.w0.alloc (.cells #[.pointer (some ⟨X.fb, X.fo, none⟩), .slice (some ⟨g, o, none⟩) bs.length c, .bool X.fault, .int .i64 0] 84) = W1 := ⟨_, rfl⟩
  have H0 : Hid (CW X 0 ⟨X.F0.parts.map zP, X.F0.regs, 0⟩ W1) := by
    refine ST.out W1 (by rw [← hW1]; exact (Q.refl _).alloc _) ?_
    rw [eb, ← hW1]; exact heap_alloc_new _ _
  have HW1 := hideIt hW1
  clear hW1 ST
  rw [eb]
  go_enter Try.func21, Try.ntmps21
  go_wp2_with (fail)
  rw [HW1.out]
  go_loopw [17] (fun i wr => ∃ (k : Nat), i = .int .i64 (k : Int) ∧ k ≤ X.F0.parts.length ∧ Hid (CW X k (doneC bs X.fault X.F0 k) wr) ∧ Hid (cntS (doneC bs X.fault X.F0 k).ps ≤ cntS X.F0.parts + 62 * iTo X.F0.parts k ∧ 0 ≤ (doneC bs X.fault X.F0 k).regs ∧ (doneC bs X.fault X.F0 k).regs ≤ X.F0.regs + 20 * iTo X.F0.parts k))
    (fun i _ => X.F0.parts.length - (intOf i).toNat)
  case atStart =>
    refine ⟨0, rfl, Nat.zero_le _, H0, ?_⟩
    show cntS (X.F0.parts.map zP) ≤ _ ∧ 0 ≤ X.F0.regs ∧ X.F0.regs ≤ _
    rw [cntS_zP]
    exact ⟨by omega, hr0.1, by omega⟩
  case round =>
    obtain ⟨k, rfl, hk, HC, HB⟩ := hrel
    by_cases hlt : k < X.F0.parts.length
    · obtain ⟨p, hp⟩ := get_of_lt hlt
      have hi := iTo_le hp
      have hs := iTo_succ hp
      have hrp := HR.out p (List.mem_of_getElem? hp)
      have hsn : (doneC bs X.fault X.F0 k).ps[k]? = some (zP p) := by
        obtain ⟨L, pa, pc, hm⟩ := HC.out
        exact hm.at_z ((hm.old k (Nat.le_refl _) hlt).trans hp)
      have hbd := stepP_bd hrp X.fault hsn
      have hB := HB.out
      have PA := hideIt (part_any X HX.out HEX.out HF0.out K bs HBS.out k p hp hrp _ wr HC.out (by omega) hB.2.1 (by omega))
      have e1 := doneC_succ bs X.fault X.F0 k
      rw [← e1] at hbd PA
      have HB2 : Hid (cntS (doneC bs X.fault X.F0 (k + 1)).ps ≤ cntS X.F0.parts + 62 * iTo X.F0.parts (k + 1) ∧ 0 ≤ (doneC bs X.fault X.F0 (k + 1)).regs ∧ (doneC bs X.fault X.F0 (k + 1)).regs ≤ X.F0.regs + 20 * iTo X.F0.parts (k + 1)) := by
        show _ ∧ _ ∧ _
        rw [hs]
        exact ⟨by omega, by omega, by omega⟩
      have hkl : (k : Int) < (X.F0.parts.length : Int) := by omega
      clear hp hi hs hrp hsn hbd hB e1
      go_wp2_with (first | (go_at_call 37; refine PA.out.mono ?_; rintro e y ⟨rfl, hy⟩; have HY := hideIt hy; clear hy) | fail)
      go_roundw
      case rel => exact ⟨k + 1, by go_num, hlt, HY, HB2⟩
      case measure => simp [intOf]; omega
    · have hk2 : k = X.F0.parts.length := by omega
      rw [hk2] at HC ⊢
      go_wp2_with (fail)
      go_end0
      have h1 := HB.out
      have h2 := iTo_all X.F0.parts
      rw [hk2] at h1
      exact ⟨rfl, HC.out, by omega, h1.2.1, by omega⟩
end Go.Proofs.Ytnaflfpkkbfnfaa.In
