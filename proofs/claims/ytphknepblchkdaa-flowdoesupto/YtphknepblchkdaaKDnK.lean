/-
 Every instruction of the document's run: a contract over the program; the conditions: a run lies there, the registers lie there, the instruction is right, and the functions ahead keep their contract.
 A call of the document's run: what holds while it is under way: facts on worlds; no conditions but those that each fact bears.
-/
import Derived.Test.YtphknepblchkdaaKDnF
import Derived.Test.YtphknepblchkdaaKDnG
import Derived.Test.YtphknepblchkdaaKDnI
import Derived.Deep.LoopGhost
namespace Go.Proofs.Ytphknepblchkdaa.Dn
open Go.RowKit
set_option linter.unusedVariables false

section
variable {w w' w0 : World} {R : Nat} {col : Col} {c : PC} {fuel : Nat} {s : St} {G rn : Nat} {ρ : Rg}

theorem post_ok {e : Ending} {ρ' : Rg} {s' : St} (hb : s'.bs.length = s.bs.length) (q : e = .returned (.tuple #[]) ∧ IA w' w0 R col c fuel s' G rn ρ' ∧ Ex (atG G) col w col w') : InsPost w w0 R col c fuel s G rn (.ok ρ' s') e w' := ⟨q.1, col, q.2.1, q.2.2, hb⟩
theorem post_over {e : Ending} {t : Int} (ht : t ≠ 0) (q : e = .returned (.tuple #[]) ∧ DI w' w0 R col c fuel s t false ∧ Ex (atG G) col w col w') : InsPost w w0 R col c fuel s G rn (.over t false s) e w' := ⟨q.1, Or.inl ht, col, s, q.2.1, q.2.2, rfl, rfl⟩
theorem rg_nat (ρ : Rg) (n : Nat) : rg ρ (n : Int) = ρ n := by simp [rg]

theorem inst_any (h : IA w w0 R col c fuel s G rn ρ) (hf : fuel ≤ 8388608) (hrn : rn ≤ 20000) (hst : s.tr.length + 1 ≤ s.n) {keep : Nat} (hkeep : keep ≤ 65536) {k : Nat} {f : PF} (hreg : f.regs = (rn : Int)) (hfl : f.slots.length ≤ 65536) (hgl : c.gl.length ≤ 65536) (hpar : ∀ (j : Nat) (g : PF), c.fns[j]? = some g → g.params ≤ 20000) {cf : CallT} (hcc : CallC w0 R c fuel cf k) (x : PI) (hx : x.ok w) (hins : insP c k f x = true) :
  Calls Try.prog 56 #[.pointer (some ⟨R, 0, none⟩), .slice (some ⟨G, 0, none⟩) rn rn, .int .i64 (keep : Int), x.v] w fun e w' => InsPost w w0 R col c fuel s G rn (exB cf keep x ρ s) e w' := by
 obtain ⟨op, ty, dst, a, b, imm, args, aa, ac⟩ := x
 have ht0 : 0 ≤ ty := hx.ty.1
 have ht1 : ty ≤ 255 := hx.ty.2
 have hok := hx.sok
 have har := hx.args
 unfold insP at hins
 simp only [Bool.and_eq_true] at hins
 obtain ⟨i1, i2, i3, i4, i5⟩ := hins
 dsimp only [PI.v] at *
 have kd : wrP op = true → ∃ d : Nat, dst = (d : Int) ∧ d < rn := fun q => by
  unfold wtP at i3
  simp [q, blP, hreg] at i3
  exact ⟨dst.toNat, by omega, by omega⟩
 have ka : 0 < rdP op → ∃ d : Nat, a = (d : Int) ∧ d < rn := fun q => by
  unfold rdsP at i4
  simp [q, blP, hreg] at i4
  exact ⟨a.toNat, by omega, by omega⟩
 have kb : 1 < rdP op → ∃ d : Nat, b = (d : Int) ∧ d < rn := fun q => by
  unfold rdsP at i4
  simp [q, blP, hreg] at i4
  exact ⟨b.toNat, by omega, by omega⟩
 have hkn : (1 ≤ op ∧ op ≤ 16) ∨ (20 ≤ op ∧ op ≤ 33) := by
  unfold knP opP at i1
  simp at i1
  exact i1
 by_cases n33 : op = 33
 ·subst n33
  obtain ⟨a, rfl, ha⟩ := ka (by decide)
  have e : exB cf keep ⟨33, ty, dst, (a : Int), b, imm, args, aa, ac⟩ ρ s = .ok ρ { s with tr := s.tr ++ [ρ a] } := by simp [exB, rg_nat]
  rw [e]
  exact (in_33 h hf hrn hst keep ty imm dst b a aa args.length ac ha).mono fun e w' q => by
   obtain ⟨q1, col', q2, q3⟩ := q
   exact ⟨q1, col', q2, q3, rfl⟩
 by_cases n31 : op = 31
 ·subst n31
  obtain ⟨a, rfl, ha⟩ := ka (by decide)
  obtain ⟨b, rfl, hb⟩ := kb (by decide)
  cases hin : Me.inB s.bs (hiA (ρ a)) (loA (ρ a)) with
  | true =>
   have e : exB cf keep ⟨31, ty, dst, (a : Int), (b : Int), imm, args, aa, ac⟩ ρ s = .ok ρ { s with f := Me.upd s.f (hiA (ρ a)) (loA (ρ a)) (ρ b) } := by simp only [exB, rg_nat, hin]; simp
   rw [e]
   exact (in_31 h hrn keep ty imm dst a b aa args.length ac ha hb hin).mono fun e w' q => post_ok rfl q
  | false =>
   have e : exB cf keep ⟨31, ty, dst, (a : Int), (b : Int), imm, args, aa, ac⟩ ρ s = .over 5 false s := by simp only [exB, rg_nat, hin]; simp
   rw [e]
   exact (in_mem_out 31 (Or.inr rfl) h hrn keep ty imm dst b a aa args.length ac ha hin).mono fun e w' q => post_over (by decide) q
 by_cases n30 : op = 30
 ·subst n30
  obtain ⟨a, rfl, ha⟩ := ka (by decide)
  obtain ⟨d, rfl, hd⟩ := kd (by decide)
  cases hin : Me.inB s.bs (hiA (ρ a)) (loA (ρ a)) with
  | true =>
   have e : exB cf keep ⟨30, ty, (d : Int), (a : Int), b, imm, args, aa, ac⟩ ρ s = .ok (setR ρ d (s.f (hiA (ρ a)) (loA (ρ a)))) s := by simp only [exB, rg_nat, hin]; simp
   rw [e]
   exact (in_30 h hrn keep ty imm b d a aa args.length ac hd ha hin).mono fun e w' q => post_ok rfl q
  | false =>
   have e : exB cf keep ⟨30, ty, (d : Int), (a : Int), b, imm, args, aa, ac⟩ ρ s = .over 5 false s := by simp only [exB, rg_nat, hin]; simp
   rw [e]
   exact (in_mem_out 30 (Or.inl rfl) h hrn keep ty imm _ b a aa args.length ac ha hin).mono fun e w' q => post_over (by decide) q
 by_cases n32 : op = 32
 ·subst n32
  obtain ⟨d, rfl, hd⟩ := kd (by decide)
  unfold immP at i5
  simp [blP] at i5
  obtain ⟨⟨m1, m2⟩, m3⟩ := i5
  obtain ⟨j, rfl⟩ : ∃ j : Nat, imm = (j : Int) := ⟨imm.toNat, by omega⟩
  simp only [Int.toNat_natCast] at m3
  cases hg : c.fns[j]? with
  | none => rw [hg] at m3; cases m3
  | some g =>
   rw [hg] at m3
   have m4 : (args.length : Int) = g.params := by simpa using m3
   have m5 := hpar j g hg
   have e : exB cf keep ⟨32, ty, (d : Int), a, b, (j : Int), args, aa, ac⟩ ρ s = behind ρ d (cf j (args.map (rg ρ)) s) := by
    simp only [exB]
    simp
    cases cf j (args.map (rg ρ)) s <;> rfl
   rw [e]
   refine in_32 h hrn keep ty a b d j args aa ac hd hok har (fun x hx' => ?_) (by omega) hcc (by omega) hg m4
   unfold rdsP at i4
   simp [blP, hreg] at i4
   exact i4.2 x hx'
 have e0 : exB cf keep ⟨op, ty, dst, a, b, imm, args, aa, ac⟩ ρ s = if reck2 ρ ⟨op, ty, dst, a, b, imm, args, aa, ac⟩ = 0 then .ok (setR ρ dst.toNat (reck1 keep ρ ⟨op, ty, dst, a, b, imm, args, aa, ac⟩)) s else .over (reck2 ρ ⟨op, ty, dst, a, b, imm, args, aa, ac⟩) false s := by
  simp only [exB, n33, n31, n30, n32, if_false]
 rw [e0]
 clear e0
 have kw : wrP op = true := by unfold wrP; rw [i1]; simp [n31, n33]
 obtain ⟨d, rfl, hd⟩ := kd kw
 rw [Int.toNat_natCast]
 by_cases n20 : op = 20
 ·subst n20
  rw [show reck2 ρ ⟨20, ty, (d : Int), a, b, imm, args, aa, ac⟩ = 0 by simp [reck2], if_pos rfl, show reck1 keep ρ ⟨20, ty, (d : Int), a, b, imm, args, aa, ac⟩ = imm by simp [reck1]]
  exact (in_20 h hrn keep ty imm d a b aa args.length ac hd).mono fun e w' q => post_ok rfl q
 by_cases n26 : op = 26
 ·subst n26
  unfold immP at i5
  simp [blP] at i5
  rw [show reck2 ρ ⟨26, ty, (d : Int), a, b, imm, args, aa, ac⟩ = 0 by simp [reck2], if_pos rfl, show reck1 keep ρ ⟨26, ty, (d : Int), a, b, imm, args, aa, ac⟩ = ((keep : Int) + imm) * 1048576 by simp [reck1]]
  exact (in_26 h hrn keep ty imm d a b aa args.length ac hd hkeep (by omega) (by omega)).mono fun e w' q => post_ok rfl q
 by_cases n27 : op = 27
 ·subst n27
  unfold immP at i5
  simp [blP] at i5
  rw [show reck2 ρ ⟨27, ty, (d : Int), a, b, imm, args, aa, ac⟩ = 0 by simp [reck2], if_pos rfl, show reck1 keep ρ ⟨27, ty, (d : Int), a, b, imm, args, aa, ac⟩ = imm * 1048576 by simp [reck1]]
  exact (in_27 h hrn keep ty imm d a b aa args.length ac hd (by omega) (by omega)).mono fun e w' q => post_ok rfl q
 have kr : 0 < rdP op := by
  rcases hkn with q | q
  ·have : opP op = true := by unfold opP; simp; omega
   unfold rdP; simp [this]
  ·obtain rfl | rfl | rfl | rfl | rfl | rfl | rfl : op = 21 ∨ op = 22 ∨ op = 23 ∨ op = 24 ∨ op = 25 ∨ op = 28 ∨ op = 29 := by clear kb ka kd; omega
   all_goals decide
 obtain ⟨a, rfl, ha⟩ := ka kr
 clear ka kd
 by_cases n21 : op = 21
 ·subst n21
  rw [show reck2 ρ ⟨21, ty, (d : Int), (a : Int), b, imm, args, aa, ac⟩ = 0 by simp [reck2], if_pos rfl, show reck1 keep ρ ⟨21, ty, (d : Int), (a : Int), b, imm, args, aa, ac⟩ = ρ a by simp [reck1, rg_nat]]
  exact (in_21 h hrn keep ty imm d a b aa args.length ac hd ha).mono fun e w' q => post_ok rfl q
 by_cases n25 : op = 25
 ·subst n25
  rw [show reck2 ρ ⟨25, ty, (d : Int), (a : Int), b, imm, args, aa, ac⟩ = 0 by simp [reck2], if_pos rfl, show reck1 keep ρ ⟨25, ty, (d : Int), (a : Int), b, imm, args, aa, ac⟩ = Burin.wr ty (ρ a) by simp [reck1, rg_nat]]
  exact (in_25 h hrn keep ty imm d a b aa args.length ac hd ha ht0 ht1).mono fun e w' q => post_ok rfl q
 by_cases n29 : op = 29
 ·subst n29
  rw [show reck2 ρ ⟨29, ty, (d : Int), (a : Int), b, imm, args, aa, ac⟩ = 0 by simp [reck2], if_pos rfl, show reck1 keep ρ ⟨29, ty, (d : Int), (a : Int), b, imm, args, aa, ac⟩ = wrap64 (ρ a + imm) by simp [reck1, rg_nat]]
  exact (in_29 h hrn keep ty imm d a b aa args.length ac hd ha).mono fun e w' q => post_ok rfl q
 by_cases n22 : op = 22
 ·subst n22
  rw [show reck2 ρ ⟨22, ty, (d : Int), (a : Int), b, imm, args, aa, ac⟩ = Burin.un2 1 ty (ρ a) by simp [reck2, rg_nat], show reck1 keep ρ ⟨22, ty, (d : Int), (a : Int), b, imm, args, aa, ac⟩ = Burin.un1 1 ty (ρ a) by simp [reck1, rg_nat]]
  by_cases hr : Burin.un2 1 ty (ρ a) = 0
  ·rw [if_pos hr]
   exact (in_22 h hrn keep ty imm d a b aa args.length ac hd ha ht0 ht1 hr).mono fun e w' q => post_ok rfl q
  ·rw [if_neg hr]
   exact (in_22x h hrn keep ty imm d a b aa args.length ac ha ht0 ht1 hr).mono fun e w' q => post_over hr q
 by_cases n23 : op = 23
 ·subst n23
  rw [show reck2 ρ ⟨23, ty, (d : Int), (a : Int), b, imm, args, aa, ac⟩ = Burin.un2 2 ty (ρ a) by simp [reck2, rg_nat], show reck1 keep ρ ⟨23, ty, (d : Int), (a : Int), b, imm, args, aa, ac⟩ = Burin.un1 2 ty (ρ a) by simp [reck1, rg_nat]]
  by_cases hr : Burin.un2 2 ty (ρ a) = 0
  ·rw [if_pos hr]
   exact (in_23 h hrn keep ty imm d a b aa args.length ac hd ha ht0 ht1 hr).mono fun e w' q => post_ok rfl q
  ·rw [if_neg hr]
   exact (in_23x h hrn keep ty imm d a b aa args.length ac ha ht0 ht1 hr).mono fun e w' q => post_over hr q
 by_cases n24 : op = 24
 ·subst n24
  rw [show reck2 ρ ⟨24, ty, (d : Int), (a : Int), b, imm, args, aa, ac⟩ = Burin.un2 3 ty (ρ a) by simp [reck2, rg_nat], show reck1 keep ρ ⟨24, ty, (d : Int), (a : Int), b, imm, args, aa, ac⟩ = Burin.un1 3 ty (ρ a) by simp [reck1, rg_nat]]
  by_cases hr : Burin.un2 3 ty (ρ a) = 0
  ·rw [if_pos hr]
   exact (in_24 h hrn keep ty imm d a b aa args.length ac hd ha ht0 ht1 hr).mono fun e w' q => post_ok rfl q
  ·rw [if_neg hr]
   exact (in_24x h hrn keep ty imm d a b aa args.length ac ha ht0 ht1 hr).mono fun e w' q => post_over hr q
 have kr2 : 1 < rdP op := by
  rcases hkn with q | q
  ·have : opP op = true := by unfold opP; simp; omega
   unfold rdP; simp [this]
  ·obtain rfl : op = 28 := by clear kb; omega
   decide
 obtain ⟨b, rfl, hb⟩ := kb kr2
 clear kb kr kr2
 by_cases n28 : op = 28
 ·subst n28
  by_cases hr : ρ b < 0 ∨ imm ≤ ρ b
  ·rw [show reck2 ρ ⟨28, ty, (d : Int), (a : Int), (b : Int), imm, args, aa, ac⟩ = 4 by simp [reck2, rg_nat, hr], if_neg (by decide)]
   by_cases h1 : ρ b < 0
   ·exact (in_28n h hrn keep ty imm _ _ b aa args.length ac hb h1).mono fun e w' q => post_over (by decide) q
   ·exact (in_28f h hrn keep ty imm _ _ b aa args.length ac hb h1 (hr.resolve_left h1)).mono fun e w' q => post_over (by decide) q
  ·rw [show reck2 ρ ⟨28, ty, (d : Int), (a : Int), (b : Int), imm, args, aa, ac⟩ = 0 by simp only [reck2, rg_nat, hr]; simp, if_pos rfl, show reck1 keep ρ ⟨28, ty, (d : Int), (a : Int), (b : Int), imm, args, aa, ac⟩ = wrap64 (ρ a + ρ b) by simp only [reck1, rg_nat, hr]; simp]
   exact (in_28 h hrn keep ty imm d a b aa args.length ac hd ha hb (fun q => hr (Or.inl q)) (by omega)).mono fun e w' q => post_ok rfl q
 have ho : 1 ≤ op ∧ op ≤ 16 := by omega
 have r2 : reck2 ρ ⟨op, ty, (d : Int), (a : Int), (b : Int), imm, args, aa, ac⟩ = Burin.do2 op ty (ρ a) (ρ b) := by simp only [reck2, n20, n21, n22, n23, n24, n25, n26, n27, n28, n29, if_false, rg_nat]
 have r1 : reck1 keep ρ ⟨op, ty, (d : Int), (a : Int), (b : Int), imm, args, aa, ac⟩ = Burin.do1 op ty (ρ a) (ρ b) := by simp only [reck1, n20, n21, n22, n23, n24, n25, n26, n27, n28, n29, if_false, rg_nat]
 rw [r1, r2]
 by_cases hr : Burin.do2 op ty (ρ a) (ρ b) = 0
 ·rw [if_pos hr]
  exact (in_do h hrn keep op ty imm d a b aa args.length ac hd ha hb ht0 ht1 ho.1 ho.2 hr).mono fun e w' q => post_ok rfl q
 ·rw [if_neg hr]
  exact (in_dox h hrn keep op ty imm d a b aa args.length ac ha hb ht0 ht1 ho.1 ho.2 hr).mono fun e w' q => post_over hr q
end
end Go.Proofs.Ytphknepblchkdaa.Dn

namespace Go.Proofs.Ytphknepblchkdaa.Dn
open Go.RowKit
set_option linter.unusedVariables false

/-- The code is right. -/
structure VC (c : PC) (w0 : World) : Prop where
 ok : c.ok w0
 fn : ∀ (k : Nat) (f : PF), c.fns[k]? = some f → fnP c k f = true
 gl : c.gl.length ≤ 65536
theorem roomL_one : ∀ (l : List Int) (b : Int), roomL b l = true → ∀ x ∈ l, 1 ≤ x
 | [], _, _, x, hx => by cases hx
 | y :: l, b, h, x, hx => by
  simp [roomL] at h
  rcases List.mem_cons.1 hx with rfl | q
  ·omega
  ·exact roomL_one l _ h.2 x q
theorem roomL_len : ∀ (l : List Int) (b : Int), roomL b l = true → 0 ≤ b → (l.length : Int) ≤ b
 | [], b, _, hb => by simpa using hb
 | y :: l, b, h, hb => by
  simp [roomL] at h
  have := roomL_len l (b - y) h.2 (by omega)
  simp; omega
theorem VC.hd {c : PC} {w0 : World} (h : VC c w0) {k : Nat} {f : PF} (hk : c.fns[k]? = some f) : 0 ≤ f.params ∧ f.params ≤ 20000 ∧ f.params ≤ f.regs ∧ f.regs ≤ 20000 ∧ f.slots.length ≤ 65536 ∧ (∀ x ∈ f.slots, 1 ≤ x) ∧ 0 < f.parts.length := by
 have := h.fn k f hk
 unfold fnP at this
 simp only [Bool.and_eq_true] at this
 obtain ⟨a1, a2, a3, a4, a5⟩ := headP_iff this.1
 simp at a1 a2 a3
 have := roomL_len f.slots 65536 a5 (by decide)
 exact ⟨by omega, by omega, by omega, by omega, by omega, roomL_one _ _ a5, by omega⟩

abbrev fnA (f : PF) : Array Value := #[.int .i64 f.params, .int .i64 f.regs, .slice f.sa f.slots.length f.sc, .slice f.pa f.parts.length f.pc]
abbrev ptA (p : PP) : Array Value := #[.slice p.ia p.ins.length p.ic, .bool p.e, .int .i64 p.cond, .int .i64 p.next, .int .i64 p.els]

/-- The function's box at O is there. -/
structure C1 (w wr : World) (col col' : Col) (O : Nat) (f : PF) : Prop where
 ex : Ex noX col w col' wr
 fb : wr.heap[O]? = some (.cells (fnA f) 44 (0, 0))
 on : col' O = none
 ol : w.heap.size ≤ O
theorem C1.step {w wr wr' : World} {col col' col2 : Col} {O : Nat} {f : PF} (h : C1 w wr col col' O f) {X : Nat → Prop} (hx : Ex X col' wr col2 wr') (hX : ∀ k, X k → w.heap.size ≤ k) (hO : ¬ X O) : C1 w wr' col col2 O f := by
 have hl := lt_blk h.fb
 exact ⟨((h.ex.mono (Y := X) (fun _ q => q.elim)).trans hx).new hX, hx.blk h.on hO h.fb, (hx.col O hl).trans h.on, h.ol⟩
theorem C1.q {w wr wr' : World} {col col' : Col} {O : Nat} {f : PF} (h : C1 w wr col col' O f) (hq : Q wr wr') : C1 w wr' col col' O f := h.step (X := noX) (Ex.q hq) (fun _ q => q.elim) (fun q => q)
theorem C1.cell {w wr : World} {col col' : Col} {O : Nat} {f : PF} (h : C1 w wr col col' O f) : wr.cell? ⟨O, 1, none⟩ = some (.int .i64 f.regs) ∧ wr.cell? ⟨O, 2, none⟩ = some (.slice f.sa f.slots.length f.sc) ∧ wr.cell? ⟨O, 3, none⟩ = some (.slice f.pa f.parts.length f.pc) := ⟨cell_blk h.fb 1, cell_blk h.fb 2, cell_blk h.fb 3⟩

/-- The registers while the arguments are laid into them. -/
def argP (A : List Int) (i : Nat) : Nat → Int := fun m => if m < i then A.getD m 0 else 0
theorem argP_step {A : List Int} {i : Nat} {x : Int} (h : A[i]? = some x) : (fun m => if m = i then x else argP A i m) = argP A (i + 1) := by
 funext m
 unfold argP
 by_cases e : m = i
 ·subst e
  rw [if_pos rfl, if_pos (by omega), List.getD_eq_getElem?_getD, h]; rfl
 ·rw [if_neg e]
  by_cases q : m < i
  ·rw [if_pos q, if_pos (by omega)]
  ·rw [if_neg q, if_neg (by omega)]
theorem argP_end (A : List Int) : argP A A.length = argR A := by
 funext m
 unfold argP argR
 by_cases q : m < A.length
 ·rw [if_pos q]
 ·rw [if_neg q, List.getD_eq_getElem?_getD, List.getElem?_eq_none (by omega)]; rfl

theorem Trc.ex {w wr : World} {col col' : Col} {X : Nat → Prop} {aa : Option Addr} {A : List Int} (h : Trc w aa A) (hc : ∀ b o, aa = some ⟨b, o, none⟩ → col b = none) (hx : Ex X col w col' wr) (hX : ∀ k, X k → w.heap.size ≤ k) : Trc wr aa A := fun k x e => by
 obtain ⟨b, o, e1, e2⟩ := h k x e
 have hb : b < w.heap.size := World.block_lt_of_cell? w _ e2
 exact ⟨b, o, e1, hx.cell (hc b o e1) (fun q => by have := hX b q; omega) e2⟩

/-- It goes on, with registers; or it is over. -/
def Go' (wr w0 : World) (R : Nat) (col' : Col) (c : PC) (fuel : Nat) (G rn : Nat) (rest : Rg → St → Rs Int) (n0 : Nat) (ans : Rs Int) : Prop :=
 (∃ ρ s', IA wr w0 R col' c fuel s' G rn ρ ∧ rest ρ s' = ans ∧ s'.bs.length = n0) ∨ (∃ t sp s' s'', (t ≠ 0 ∨ sp = true) ∧ ans = .over t sp s' ∧ DI wr w0 R col' c fuel s'' t sp ∧ s''.n = s'.n ∧ s''.tr = s'.tr)

/-- Where a call is over. -/
theorem over_post {w wr w0 : World} {R : Nat} {col col' : Col} {c : PC} {fuel : Nat} {s : St} {O : Nat} {f : PF} (hC : C1 w wr col col' O f) {t : Int} {sp : Bool} {s' s'' : St} (ht : t ≠ 0 ∨ sp = true) {ans : Rs Int} (ha : ans = .over t sp s') (hd : DI wr w0 R col' c fuel s'' t sp) (h1 : s''.n = s'.n) (h2 : s''.tr = s'.tr) :
  CallPost w w0 R col c fuel s ans (.returned (.int .i64 0)) wr := by
 subst ha
 exact ⟨rfl, ht, col', s'', hd, hC.ex, h1, h2⟩

theorem allocs_drop {l : List Int} {i : Nat} {x : Int} (h : l[i]? = some x) (bs : List Nat) : allocs (l.drop i) bs = if 65536 - ((bs.sum : Nat) : Int) < x then none else allocs (l.drop (i + 1)) (bs ++ [x.toNat]) := by
 obtain ⟨hl, e⟩ := List.getElem?_eq_some_iff.1 h
 rw [List.drop_eq_getElem_cons hl, e]
 rfl
theorem insR_drop {cf : CallT} {fuel keep : Nat} {l : List PI} {i : Nat} {x : PI} (h : l[i]? = some x) (ρ : Rg) (s : St) : insR cf fuel keep (l.drop i) ρ s = match exI cf fuel keep x ρ s with | .ok ρ' s' => insR cf fuel keep (l.drop (i + 1)) ρ' s' | .over t sp s' => .over t sp s' := by
 obtain ⟨hl, e⟩ := List.getElem?_eq_some_iff.1 h
 rw [List.drop_eq_getElem_cons hl, e]
 rfl
theorem next_lt {f : PF} {q : PP} {ρ : Rg} (h : endP f q = true) (he : q.e = false) : 0 ≤ nextP q ρ ∧ nextP q ρ < (f.parts.length : Int) := by
 unfold endP at h
 rw [he] at h
 simp [blP] at h
 unfold nextP
 by_cases hc : q.cond < 0
 ·simp [hc] at h
  rw [if_neg (fun x => by omega)]
  omega
 ·simp [hc] at h
  split <;> omega
theorem At.low {w0 w : World} {b o : Nat} {cs : List Value} (h : At w0 b o cs) (hb : Below w0.heap.size w0 w) : At w b o cs := fun j hj => by
 have hj' := h j hj
 obtain ⟨u, hu⟩ : ∃ u, cs[j]? = some u := ⟨cs[j], List.getElem?_eq_getElem hj⟩
 rw [hu] at hj' ⊢
 exact (hb.cell (p := ⟨b, o + j, none⟩) (World.block_lt_of_cell? w0 _ hj')).trans hj'
theorem DI.bel {w w0 : World} {R : Nat} {col : Col} {c : PC} {fuel : Nat} {s : St} {t : Int} {sp : Bool} (h : DI w w0 R col c fuel s t sp) : Below w0.heap.size w0 w := by
 obtain ⟨lv, tv, gs, d⟩ := h; exact d.bel
theorem ok_low {w0 w : World} {x : PI} (h : x.ok w0) (hb : Below w0.heap.size w0 w) : x.ok w :=
 ⟨h.op, h.ty, h.dst, h.a, h.b, h.imm, h.sok, h.args.mono fun b o y hy => ⟨(hb.cell (p := ⟨b, o, none⟩) (World.block_lt_of_cell? w0 _ hy.1)).trans hy.1, hy.2⟩⟩

/-- More steps are never fewer. -/
def MonC (cf : CallT) : Prop := ∀ (j : Nat) (A : List Int) (s : St) (v : Int) (s' : St), cf j A s = .ok v s' → s.n ≤ s'.n
theorem exI_n {cf : CallT} (hm : MonC cf) {fuel keep : Nat} {x : PI} {ρ ρ' : Rg} {s s' : St} (h : exI cf fuel keep x ρ s = .ok ρ' s') : s.n < s'.n := by
 rw [exI_B] at h
 by_cases hn : s.n = fuel
 ·rw [if_pos hn] at h; cases h
 ·rw [if_neg hn] at h
  unfold exB at h
  have hup : s.up.n = s.n + 1 := rfl
  split at h
  ·injection h with h1 h2; subst h2; show s.n < s.n + 1; omega
  ·split at h
   ·split at h
    ·injection h with h1 h2; subst h2; show s.n < s.n + 1; omega
    ·cases h
   ·split at h
    ·split at h
     ·injection h with h1 h2; subst h2; show s.n < s.n + 1; omega
     ·cases h
    ·split at h
     ·cases hc : cf x.imm.toNat (x.args.map (rg ρ)) s.up with
      | ok v s2 => rw [hc] at h; injection h with h1 h2; subst h2; have := hm _ _ _ _ _ hc; omega
      | over t sp s2 => rw [hc] at h; cases h
     ·split at h
      ·injection h with h1 h2; subst h2; show s.n < s.n + 1; omega
      ·cases h

theorem insR_n {cf : CallT} (hc : MonC cf) {fuel keep : Nat} : ∀ (l : List PI) {ρ ρ' : Rg} {s s' : St}, insR cf fuel keep l ρ s = .ok ρ' s' → s.n ≤ s'.n
 | [], ρ, ρ', s, s', h => by unfold insR at h; injection h with _ h; subst h; exact Nat.le_refl _
 | i :: l, ρ, ρ', s, s', h => by
  unfold insR at h
  split at h
  ·rename_i hq
   exact Nat.le_trans (Nat.le_of_lt (exI_n hc hq)) (insR_n hc l h)
  ·cases h
theorem partsR_n {cf : CallT} (hc : MonC cf) {fuel keep : Nat} {f : PF} : ∀ (g at' : Nat) {ρ : Rg} {s : St} {v : Int} {s' : St}, partsR cf fuel keep f g at' ρ s = .ok v s' → s.n ≤ s'.n
 | 0, at', ρ, s, v, s', h => by unfold partsR at h; cases h
 | g + 1, at', ρ, s, v, s', h => by
  unfold partsR at h
  split at h
  ·cases h
  ·split at h
   ·cases h
   ·rename_i hq
    have h1 := insR_n hc _ hq
    split at h
    ·cases h
    ·split at h
     ·injection h with _ h; subst h; exact Nat.le_trans h1 (Nat.le_succ _)
     ·exact Nat.le_trans h1 (Nat.le_trans (Nat.le_succ _) (partsR_n hc g _ h))
theorem callR_n (c : PC) (fuel : Nat) : ∀ g, MonC (callR c fuel g)
 | 0, j, a, s, v, s', h => by unfold callR at h; cases h
 | g + 1, j, a, s, v, s', h => by
  unfold callR at h
  split at h
  ·cases h
  ·split at h
   ·cases h
   ·split at h
    ·rename_i hq
     injection h with _ h; subst h
     have := partsR_n (callR_n c fuel g) _ _ hq
     exact this
    ·cases h

end Go.Proofs.Ytphknepblchkdaa.Dn
