/-
 The document's own run of code (burinref14) in memory: the runner, its blocks, its trace; what stays of them while the others change: facts on worlds; no conditions but those that each fact bears.
 The document's own run of code in memory: the trace grows, a block is added, blocks are cut off, a cell is written: facts on worlds; no conditions but those that each fact bears.
-/
import Derived.Test.YtphknepblchkdaaKPmA
import Derived.Test.YtphknepblchkdaaKIrN
import Derived.Laws.AppendOwn
import Derived.Laws.OwnMore
import Derived.Deep.AppendLies
namespace Go.Proofs.Ytphknepblchkdaa.Dn
open Go.RowKit
set_option linter.unusedVariables false

/-- Whose a block is. -/
inductive Tg where
 | rn | me | tr
 | ce (k : Nat)
abbrev Col := Nat → Option Tg

theorem cell_blk {w : World} {b : Nat} {cs : Array Value} {t : TypeId} (h : w.heap[b]? = some (.cells cs t (0, 0))) (j : Nat) : w.cell? ⟨b, j, none⟩ = cs[j]? := by simp [World.cell?, h]
theorem free_blk {w : World} {b : Nat} {cs : Array Value} {t : TypeId} (h : w.heap[b]? = some (.cells cs t (0, 0))) (j : Nat) : w.frozen? ⟨b, j, none⟩ = false := by simp [World.frozen?, h]
theorem lt_blk {w : World} {b : Nat} {o : Obj} (h : w.heap[b]? = some o) : b < w.heap.size := (Array.getElem?_eq_some_iff.1 h).1
theorem set_blk {w : World} {b j : Nat} {cs : Array Value} {t : TypeId} (h : w.heap[b]? = some (.cells cs t (0, 0))) (u : Value) : (w.setCell ⟨b, j, none⟩ u).heap[b]? = some (.cells (cs.setIfInBounds j u) t (0, 0)) := by
 have hlt := lt_blk h
 have h' : w.heap[b] = .cells cs t (0, 0) := by simpa [Array.getElem?_eq_getElem hlt] using h
 show (w.heap.modify b _)[b]? = _
 rw [Array.getElem?_eq_getElem (by simpa using hlt), Array.getElem_modify_self, h']
 rfl
theorem cell_bx {w : World} {ad : Addr} {v : Value} (h : w.cell? ad = some v) (o : Obj) : (w.alloc o).cell? ad = some v :=
 ((Below.refl w.heap.size w).alloc (Nat.le_refl _) o).cell (World.block_lt_of_cell? w _ h) |>.trans h
/-- All blocks that were there, are nobody's and aren't X's are as they were. -/
structure Ex (X : Nat → Prop) (col : Col) (w : World) (col' : Col) (w' : World) : Prop where
 os : w'.os = w.os
 tape : w'.tape = w.tape
 output : w'.output = w.output
 size : w.heap.size ≤ w'.heap.size
 block : ∀ k, k < w.heap.size → col k = none → ¬ X k → w'.heap[k]? = w.heap[k]?
 col : ∀ k, k < w.heap.size → col' k = col k
abbrev noX : Nat → Prop := fun _ => False
theorem Ex.refl (X : Nat → Prop) (col : Col) (w : World) : Ex X col w col w := ⟨rfl, rfl, rfl, Nat.le_refl _, fun _ _ _ _ => rfl, fun _ _ => rfl⟩
theorem Ex.trans {X : Nat → Prop} {c0 c1 c2 : Col} {a b c : World} (h : Ex X c0 a c1 b) (k : Ex X c1 b c2 c) : Ex X c0 a c2 c :=
 ⟨k.os.trans h.os, k.tape.trans h.tape, k.output.trans h.output, Nat.le_trans h.size k.size,
  fun j hj hn hx => (k.block j (Nat.lt_of_lt_of_le hj h.size) (by rw [h.col j hj]; exact hn) hx).trans (h.block j hj hn hx), fun j hj => (k.col j (Nat.lt_of_lt_of_le hj h.size)).trans (h.col j hj)⟩
theorem Ex.mono {X Y : Nat → Prop} {c0 c1 : Col} {a b : World} (h : Ex X c0 a c1 b) (hxy : ∀ k, X k → Y k) : Ex Y c0 a c1 b := ⟨h.os, h.tape, h.output, h.size, fun j hj hn hx => h.block j hj hn (fun q => hx (hxy j q)), h.col⟩
/-- What is new doesn't count. -/
theorem Ex.new {X : Nat → Prop} {c0 c1 : Col} {a b : World} (h : Ex X c0 a c1 b) (hx : ∀ k, X k → a.heap.size ≤ k) : Ex noX c0 a c1 b := ⟨h.os, h.tape, h.output, h.size, fun j hj hn _ => h.block j hj hn (fun q => by have := hx j q; omega), h.col⟩
theorem Ex.drew {X : Nat → Prop} {c0 c1 : Col} {a b : World} (h : Ex X c0 a c1 b) (m : Nat) : Ex X c0 a c1 (b.drewN m) := ⟨h.os, h.tape, h.output, h.size, h.block, h.col⟩
theorem Ex.alloc {X : Nat → Prop} {c0 c1 : Col} {a b : World} (h : Ex X c0 a c1 b) (o : Obj) : Ex X c0 a c1 (b.alloc o) :=
 ⟨h.os, h.tape, h.output, by have := h.size; simp; omega, fun j hj hn hx => (Below.heap_alloc b o j (Nat.lt_of_lt_of_le hj h.size)).trans (h.block j hj hn hx), h.col⟩
theorem Ex.set {X : Nat → Prop} {c0 c1 : Col} {a b : World} (h : Ex X c0 a c1 b) {p : Addr} (hp : c0 p.block ≠ none ∨ X p.block ∨ a.heap.size ≤ p.block) (u : Value) : Ex X c0 a c1 (b.setCell p u) :=
 ⟨h.os, h.tape, h.output, by have := h.size; simpa using this, fun j hj hn hx => (Below.heap_setCell b p u j (fun e => by subst e; exact hp.elim (fun q => q hn) (fun g => g.elim hx (fun g => by omega)))).trans (h.block j hj hn hx), h.col⟩
theorem Ex.q {X : Nat → Prop} {c0 : Col} {a b : World} (h : Q a b) : Ex X c0 a c0 b := ⟨h.os, h.tape, h.output, h.size, fun j hj _ _ => h.block j hj, fun _ _ => rfl⟩
theorem Ex.blk {X : Nat → Prop} {c0 c1 : Col} {a b : World} (h : Ex X c0 a c1 b) {k : Nat} (hc : c0 k = none) (hx : ¬ X k) {o : Obj} (hu : a.heap[k]? = some o) : b.heap[k]? = some o := (h.block k (lt_blk hu) hc hx).trans hu
theorem Ex.cell {X : Nat → Prop} {c0 c1 : Col} {a b : World} (h : Ex X c0 a c1 b) {k j : Nat} (hc : c0 k = none) (hx : ¬ X k) {u : Value} (hu : a.cell? ⟨k, j, none⟩ = some u) : b.cell? ⟨k, j, none⟩ = some u := by
 have hk : k < a.heap.size := World.block_lt_of_cell? a _ hu
 rw [← hu]
 simp only [World.cell?]
 rw [h.block k hk hc hx]

/-- n numbers in a block of their own. -/
def Nums (w : World) (g n : Nat) (φ : Nat → Int) : Prop := ∃ cs : Array Value, w.heap[g]? = some (.cells cs 2 (0, 0)) ∧ cs.size = n ∧ ∀ j, j < n → cs[j]? = some (.int .i64 (φ j))
theorem Nums.keep {w w' : World} {g n : Nat} {φ : Nat → Int} (h : Nums w g n φ) (hk : w'.heap[g]? = w.heap[g]?) : Nums w' g n φ := by
 obtain ⟨cs, h1, h2, h3⟩ := h
 exact ⟨cs, by rw [hk]; exact h1, h2, h3⟩
theorem Nums.lt {w : World} {g n : Nat} {φ : Nat → Int} (h : Nums w g n φ) : g < w.heap.size := by
 obtain ⟨cs, h1, h2, h3⟩ := h
 exact lt_blk h1
theorem Nums.cell {w : World} {g n : Nat} {φ : Nat → Int} (h : Nums w g n φ) {j : Nat} (hj : j < n) : w.cell? ⟨g, j, none⟩ = some (.int .i64 (φ j)) := by
 obtain ⟨cs, h1, h2, h3⟩ := h
 rw [cell_blk h1]; exact h3 j hj
theorem Nums.free {w : World} {g n : Nat} {φ : Nat → Int} (h : Nums w g n φ) (j : Nat) : w.frozen? ⟨g, j, none⟩ = false := by
 obtain ⟨cs, h1, h2, h3⟩ := h
 exact free_blk h1 j
theorem Nums.ext {w : World} {g n : Nat} {φ ψ : Nat → Int} (h : Nums w g n φ) (e : ∀ j, j < n → φ j = ψ j) : Nums w g n ψ := by
 obtain ⟨cs, h1, h2, h3⟩ := h
 exact ⟨cs, h1, h2, fun j hj => by rw [h3 j hj, e j hj]⟩
theorem Nums.set {w : World} {g n : Nat} {φ : Nat → Int} (h : Nums w g n φ) {j : Nat} (x : Int) : Nums (w.setCell ⟨g, j, none⟩ (.int .i64 x)) g n (fun m => if m = j then x else φ m) := by
 obtain ⟨cs, h1, h2, h3⟩ := h
 refine ⟨_, set_blk h1 _, by simpa using h2, fun m hm => ?_⟩
 rw [Array.getElem?_setIfInBounds]
 by_cases e : m = j
 ·subst e; simp [h2, hm]
 ·rw [if_neg (fun q => e q.symm)]; simp only [e, if_false]; exact h3 m hm

def rowI (H : List Int) : List Value := H.map fun x => .int .i64 x
def rowsV (gs bs : List Nat) : List Value := List.zipWith (fun g n => .slice (some ⟨g, 0, none⟩) n n) gs bs
theorem rowsV_at {gs bs : List Nat} {i g n : Nat} (h1 : gs[i]? = some g) (h2 : bs[i]? = some n) : (rowsV gs bs)[i]? = some (.slice (some ⟨g, 0, none⟩) n n) := by
 simp [rowsV, List.getElem?_zipWith, h1, h2]
theorem rowsV_len {gs bs : List Nat} (h : gs.length = bs.length) : (rowsV gs bs).length = bs.length := by simp [rowsV, h]
theorem rowsV_snoc {gs bs : List Nat} (h : gs.length = bs.length) (g n : Nat) : rowsV (gs ++ [g]) (bs ++ [n]) = rowsV gs bs ++ [.slice (some ⟨g, 0, none⟩) n n] := by
 unfold rowsV
 rw [List.zipWith_append h]; rfl
theorem rowsV_take (gs bs : List Nat) (k : Nat) : rowsV (gs.take k) (bs.take k) = (rowsV gs bs).take k := by
 unfold rowsV; rw [List.take_zipWith]

theorem row_keep {w w' : World} {base : Nat} {T : TypeId} {v : Value} {n : Nat} {xs : List Value} (h : w.ownsRow base T 1 v n xs) (hk : ∀ k, v.ownBlock = some k → w'.heap[k]? = w.heap[k]?) : w'.ownsRow base T 1 v n xs := by
 refine ⟨h.1, ?_⟩
 rcases h.2 with q | ⟨g, cap, cur, e1, e2, e3, e4⟩
 ·exact .inl q
 ·exact .inr ⟨g, cap, cur, e1, e2, by rw [hk g (by rw [e1]; rfl)]; exact e3, e4⟩
theorem own_lt {w : World} {base : Nat} {T : TypeId} {v : Value} {n : Nat} {xs : List Value} (h : w.ownsRow base T 1 v n xs) {k : Nat} (hk : v.ownBlock = some k) : k < w.heap.size := by
 rcases h.2 with ⟨e0, -⟩ | ⟨g, cap, cur, e0, -, hg, -⟩
 ·rw [e0] at hk; cases hk
 ·rw [e0] at hk; injection hk with hk; subst hk; exact lt_blk hg
theorem row_form {w : World} {base : Nat} {T : TypeId} {v : Value} {n : Nat} {xs : List Value} (h : w.ownsRow base T 1 v n xs) : ∃ a c, v = .slice a n c := by
 rcases h.2 with ⟨e0, e1⟩ | ⟨g, cap, cur, e0, -, hg, -⟩
 ·exact ⟨none, 0, by rw [e0, e1]⟩
 ·exact ⟨_, _, e0⟩
/-- One place of it. -/
theorem row_at {w : World} {base : Nat} {T : TypeId} {v : Value} {n : Nat} {xs : List Value} (h : w.ownsRow base T 1 v n xs) {i : Nat} {x : Value} (hx : xs[i]? = some x) :
  ∃ g cap cur, v = .slice (some ⟨g, 0, none⟩) n cap ∧ w.heap[g]? = some (.cells cur T (0, 0)) ∧ cur[i]? = some x ∧ n ≤ cap ∧ cap ≤ maxLen ∧ i < n := by
 have hn : i < n := by have := (List.getElem?_eq_some_iff.1 hx).1; rw [h.1] at this; omega
 rcases h.2 with ⟨-, e1⟩ | ⟨g, cap, cur, e0, hb, hg, hnc, hcm, hcs, ht⟩
 ·omega
 ·refine ⟨g, cap, cur, e0, hg, ?_, hnc, hcm, hn⟩
  rw [← ht, Nat.mul_one, List.getElem?_take, if_pos hn] at hx
  simpa using hx
/-- The first k of it. -/
theorem row_take {w : World} {base : Nat} {T : TypeId} {a : Option Addr} {n c : Nat} {xs : List Value} (h : w.ownsRow base T 1 (.slice a n c) n xs) {k : Nat} (hk : k ≤ n) : w.ownsRow base T 1 (.slice a k c) k (xs.take k) := by
 refine ⟨by rw [List.length_take, h.1]; omega, ?_⟩
 rcases h.2 with ⟨e0, e1⟩ | ⟨g, cap, cur, e0, hb, hg, hnc, hcm, hcs, ht⟩
 ·injection e0 with e0 e2 e3
  exact .inl ⟨by rw [e0, e3]; congr 1; omega, by omega⟩
 ·injection e0 with e0 e2 e3
  subst e3
  refine .inr ⟨g, c, cur, by rw [e0], hb, hg, by omega, hcm, hcs, ?_⟩
  rw [← ht, List.take_take]
  congr 1; omega

abbrev rcs (c : PC) (lv : Value) (fuel n : Nat) (t : Int) (sp : Bool) (tv : Value) : Array Value := #[.slice c.ga c.gl.length c.gc, .slice c.na c.ini.length c.nc, .slice c.fa c.fns.length c.fc, lv, .int .i64 (fuel : Int), .int .i64 (n : Int), .int .i64 t, .bool sp, tv]

/-- The document's run in memory. -/
structure DX (w w0 : World) (R : Nat) (col : Col) (c : PC) (fuel : Nat) (s : St) (t : Int) (sp : Bool) (lv tv : Value) (gs : List Nat) : Prop where
 bel : Below w0.heap.size w0 w
 lt : ∀ b τ, col b = some τ → w0.heap.size ≤ b ∧ b < w.heap.size
 colR : col R = some .rn
 run : w.heap[R]? = some (.cells (rcs c lv fuel s.n t sp tv) 73 (0, 0))
 rows : w.ownsRow w0.heap.size 23 1 lv s.bs.length (rowsV gs s.bs)
 trc : w.ownsRow w0.heap.size 2 1 tv s.tr.length (rowI s.tr)
 gl : gs.length = s.bs.length
 cl : ∀ b, lv.ownBlock = some b → col b = some .me
 ct : ∀ b, tv.ownBlock = some b → col b = some .tr
 cg : ∀ i g : Nat, gs[i]? = some g → col g = some (.ce i)
 nums : ∀ i g n : Nat, gs[i]? = some g → s.bs[i]? = some n → Nums w g n (fun j => s.f (i : Int) (j : Int))
 sum : s.bs.sum ≤ 65536
 one : ∀ x ∈ s.bs, 1 ≤ x
 nle : s.n ≤ fuel
 trl : s.tr.length ≤ s.n
 out : ∀ a b, (s.bs.length : Int) ≤ a → s.f a b = 0
 tb : 0 ≤ t ∧ t ≤ 255
def DI (w w0 : World) (R : Nat) (col : Col) (c : PC) (fuel : Nat) (s : St) (t : Int) (sp : Bool) : Prop := ∃ lv tv gs, DX w w0 R col c fuel s t sp lv tv gs

section
variable {w w' w0 : World} {R : Nat} {col : Col} {c : PC} {fuel : Nat} {s : St} {t : Int} {sp : Bool} {lv tv : Value} {gs : List Nat}

theorem DX.ltR (h : DX w w0 R col c fuel s t sp lv tv gs) : R < w.heap.size := (h.lt R _ h.colR).2
theorem DX.nobody (h : DX w w0 R col c fuel s t sp lv tv gs) {b : Nat} (hb : w.heap.size ≤ b) : col b = none := by
 cases e : col b with
 | none => rfl
 | some τ => have := (h.lt b τ e).2; omega
/-- Every block of ours is as it was. -/
theorem DX.kept (h : DX w w0 R col c fuel s t sp lv tv gs) (hb : Below w0.heap.size w0 w') (hs : w.heap.size ≤ w'.heap.size) (hk : ∀ b τ, col b = some τ → w'.heap[b]? = w.heap[b]?) : DX w' w0 R col c fuel s t sp lv tv gs :=
 ⟨hb, fun b τ e => ⟨(h.lt b τ e).1, Nat.lt_of_lt_of_le (h.lt b τ e).2 hs⟩, h.colR, (hk R _ h.colR).trans h.run, row_keep h.rows (fun k q => hk k _ (h.cl k q)), row_keep h.trc (fun k q => hk k _ (h.ct k q)), h.gl, h.cl, h.ct, h.cg,
  fun i g n e1 e2 => (h.nums i g n e1 e2).keep (hk g _ (h.cg i g e1)), h.sum, h.one, h.nle, h.trl, h.out, h.tb⟩
theorem DX.keep (h : DX w w0 R col c fuel s t sp lv tv gs) (hq : Q w w') : DX w' w0 R col c fuel s t sp lv tv gs :=
 h.kept ⟨hq.os.trans h.bel.os, hq.tape.trans h.bel.tape, hq.output.trans h.bel.output, Nat.le_trans h.bel.size hq.size, fun k hk => (hq.block k (Nat.lt_of_lt_of_le hk h.bel.size)).trans (h.bel.block k hk)⟩ hq.size (fun b τ e => hq.block b (h.lt b τ e).2)
theorem DX.other (h : DX w w0 R col c fuel s t sp lv tv gs) {b : Nat} (hc : col b = Option.none) (hB : w0.heap.size ≤ b) (j : Nat) (u : Value) : DX (w.setCell ⟨b, j, Option.none⟩ u) w0 R col c fuel s t sp lv tv gs :=
 h.kept (Below.setCell h.bel hB u) (by simp) (fun q τ e => Below.heap_setCell _ _ _ _ (fun x => by rw [x, hc] at e; cases e))
theorem DI.keep (h : DI w w0 R col c fuel s t sp) (hq : Q w w') : DI w' w0 R col c fuel s t sp := by
 obtain ⟨lv, tv, gs, h⟩ := h; exact ⟨lv, tv, gs, h.keep hq⟩
theorem DI.other (h : DI w w0 R col c fuel s t sp) {b : Nat} (hc : col b = Option.none) (hB : w0.heap.size ≤ b) (j : Nat) (u : Value) : DI (w.setCell ⟨b, j, Option.none⟩ u) w0 R col c fuel s t sp := by
 obtain ⟨lv, tv, gs, h⟩ := h; exact ⟨lv, tv, gs, h.other hc hB j u⟩

/-- Numbers of the runner itself are changed. -/
theorem DX.setR (h : DX w w0 R col c fuel s t sp lv tv gs) {n : Nat} {t' : Int} {sp' : Bool} (hw : w'.heap[R]? = some (.cells (rcs c lv fuel n t' sp' tv) 73 (0, 0))) (f1 : w'.os = w.os) (f2 : w'.tape = w.tape) (f3 : w'.output = w.output) (f4 : w'.heap.size = w.heap.size) (f5 : ∀ b, b ≠ R → w'.heap[b]? = w.heap[b]?)
  (hn1 : n ≤ fuel) (hn2 : s.tr.length ≤ n) (ht : 0 ≤ t' ∧ t' ≤ 255) : DX w' w0 R col c fuel { s with n := n } t' sp' lv tv gs ∧ Ex noX col w col w' := by
 have ne : ∀ b τ, col b = some τ → τ ≠ .rn → w'.heap[b]? = w.heap[b]? := fun b τ e hτ => f5 b (fun q => by rw [q, h.colR] at e; exact hτ (Option.some.inj e).symm)
 have hR := (h.lt R _ h.colR).1
 refine ⟨⟨⟨f1.trans h.bel.os, f2.trans h.bel.tape, f3.trans h.bel.output, by rw [f4]; exact h.bel.size, fun b hb => (f5 b (by omega)).trans (h.bel.block b hb)⟩, fun b τ e => by rw [f4]; exact h.lt b τ e, h.colR, hw, row_keep h.rows (fun k q => ne k _ (h.cl k q) (by intro q; cases q)), row_keep h.trc (fun k q => ne k _ (h.ct k q) (by intro q; cases q)), h.gl, h.cl, h.ct, h.cg,
  fun i g n e1 e2 => (h.nums i g n e1 e2).keep (ne g _ (h.cg i g e1) (by intro q; cases q)), h.sum, h.one, hn1, hn2, h.out, ht⟩, ⟨f1, f2, f3, by rw [f4]; exact Nat.le_refl _, fun b hb e _ => f5 b (fun q => by rw [q, h.colR] at e; cases e), fun _ _ => rfl⟩⟩
end

end Go.Proofs.Ytphknepblchkdaa.Dn

namespace Go.Proofs.Ytphknepblchkdaa.Dn
open Go.RowKit
set_option linter.unusedVariables false

section
variable {w w' w0 : World} {R : Nat} {col : Col} {c : PC} {fuel : Nat} {s : St} {t : Int} {sp : Bool} {lv tv nv : Value} {gs : List Nat}

/-- The trace is changed, in a block of its own. -/
theorem DX.setT (h : DX w w0 R col c fuel s t sp lv tv gs) {l : List Int} (hR : w'.heap[R]? = some (.cells (rcs c lv fuel s.n t sp nv) 73 (0, 0))) (hT : w'.ownsRow w0.heap.size 2 1 nv l.length (rowI l)) (q1 : nv.ownBlock = tv.ownBlock ∨ ∃ g, nv.ownBlock = some g ∧ w.heap.size ≤ g)
  (f1 : w'.os = w.os) (f2 : w'.tape = w.tape) (f3 : w'.output = w.output) (f4 : w.heap.size ≤ w'.heap.size) (f5 : ∀ b, b < w.heap.size → b ≠ R → tv.ownBlock ≠ some b → w'.heap[b]? = w.heap[b]?) (hl : l.length ≤ s.n) :
  ∃ col', DX w' w0 R col' c fuel { s with tr := l } t sp lv nv gs ∧ Ex noX col w col' w' := by
 classical
 have hcol : ∀ b, b < w.heap.size → (fun b => if b < w.heap.size then col b else if nv.ownBlock = some b then some Tg.tr else Option.none) b = col b := fun b hb => by simp [hb]
 have kb : ∀ b τ, col b = some τ → τ ≠ .rn → τ ≠ .tr → w'.heap[b]? = w.heap[b]? := fun b τ e t1 t2 => f5 b (h.lt b τ e).2 (fun q => by rw [q, h.colR] at e; exact t1 (Option.some.inj e).symm) (fun q => by rw [h.ct b q] at e; exact t2 (Option.some.inj e).symm)
 have hB := h.bel.size
 refine ⟨_, ⟨⟨f1.trans h.bel.os, f2.trans h.bel.tape, f3.trans h.bel.output, Nat.le_trans hB f4, fun b hb => ?_⟩, fun b τ e => ?_, (hcol R h.ltR).trans h.colR, hR, row_keep h.rows (fun b q => kb b _ (h.cl b q) (by intro q; cases q) (by intro q; cases q)), hT, h.gl, fun b q => (hcol b (own_lt h.rows q)).trans (h.cl b q), fun b q => ?_, fun i g e => (hcol g (h.lt g _ (h.cg i g e)).2).trans (h.cg i g e),
  fun i g n e1 e2 => (h.nums i g n e1 e2).keep (kb g _ (h.cg i g e1) (by intro q; cases q) (by intro q; cases q)), h.sum, h.one, h.nle, hl, h.out, h.tb⟩, ⟨f1, f2, f3, f4, fun b hb e _ => f5 b hb (fun q => by rw [q, h.colR] at e; cases e) (fun q => by rw [h.ct b q] at e; cases e), hcol⟩⟩
 ·refine (f5 b (by omega) (fun q => ?_) (fun q => ?_)).trans (h.bel.block b hb)
  ·have := (h.lt R _ h.colR).1; omega
  ·have := (h.lt b _ (h.ct b q)).1; omega
 ·by_cases hb : b < w.heap.size
  ·rw [if_pos hb] at e
   have := h.lt b τ e
   omega
  ·rw [if_neg hb] at e
   by_cases e1 : nv.ownBlock = some b
   ·exact ⟨by omega, own_lt hT e1⟩
   ·rw [if_neg e1] at e; cases e
 ·by_cases hb : b < w.heap.size
  ·refine (hcol b hb).trans ?_
   rcases q1 with q1 | ⟨g, q1, q1'⟩
   ·exact h.ct b (by rw [← q1]; exact q)
   ·rw [q] at q1; injection q1 with q1; omega
  ·simp [hb, q]

/-- A block is added. -/
theorem DX.add (h : DX w w0 R col c fuel s t sp lv tv gs) {g n : Nat} (hR : w'.heap[R]? = some (.cells (rcs c nv fuel s.n t sp tv) 73 (0, 0))) (hL : w'.ownsRow w0.heap.size 23 1 nv (s.bs.length + 1) (rowsV gs s.bs ++ [.slice (some ⟨g, 0, none⟩) n n]))
  (q1 : nv.ownBlock = lv.ownBlock ∨ ∃ g', nv.ownBlock = some g' ∧ w.heap.size ≤ g') (hne : nv.ownBlock ≠ some g) (hg : w.heap.size ≤ g) (hN : Nums w' g n (fun _ => 0))
  (f1 : w'.os = w.os) (f2 : w'.tape = w.tape) (f3 : w'.output = w.output) (f4 : w.heap.size ≤ w'.heap.size) (f5 : ∀ b, b < w.heap.size → b ≠ R → lv.ownBlock ≠ some b → w'.heap[b]? = w.heap[b]?) (h1 : 1 ≤ n) (h2 : s.bs.sum + n ≤ 65536) :
  ∃ col', DX w' w0 R col' c fuel { s with bs := s.bs ++ [n] } t sp nv tv (gs ++ [g]) ∧ Ex noX col w col' w' := by
 classical
 have hcol : ∀ b, b < w.heap.size → (fun b => if b < w.heap.size then col b else if nv.ownBlock = some b then some Tg.me else if b = g then some (Tg.ce s.bs.length) else Option.none) b = col b := fun b hb => by simp [hb]
 have kb : ∀ b τ, col b = some τ → τ ≠ .rn → τ ≠ .me → w'.heap[b]? = w.heap[b]? := fun b τ e t1 t2 => f5 b (h.lt b τ e).2 (fun q => by rw [q, h.colR] at e; exact t1 (Option.some.inj e).symm) (fun q => by rw [h.cl b q] at e; exact t2 (Option.some.inj e).symm)
 have hB := h.bel.size
 have hgl := h.gl
 refine ⟨_, ⟨⟨f1.trans h.bel.os, f2.trans h.bel.tape, f3.trans h.bel.output, Nat.le_trans hB f4, fun b hb => ?_⟩, fun b τ e => ?_, (hcol R h.ltR).trans h.colR, hR, ?_, row_keep h.trc (fun b q => kb b _ (h.ct b q) (by intro q; cases q) (by intro q; cases q)), by simp [h.gl], fun b q => ?_, fun b q => (hcol b (own_lt h.trc q)).trans (h.ct b q), fun i g' e => ?_,
  fun i g' n' e1 e2 => ?_, by simpa using h2, fun x hx => ?_, h.nle, h.trl, fun a b hab => h.out a b (by simp at hab; omega), h.tb⟩, ⟨f1, f2, f3, f4, fun b hb e _ => f5 b hb (fun q => by rw [q, h.colR] at e; cases e) (fun q => by rw [h.cl b q] at e; cases e), hcol⟩⟩
 ·refine (f5 b (by omega) (fun q => ?_) (fun q => ?_)).trans (h.bel.block b hb)
  ·have := (h.lt R _ h.colR).1; omega
  ·have := (h.lt b _ (h.cl b q)).1; omega
 ·by_cases hb : b < w.heap.size
  ·rw [if_pos hb] at e
   have := h.lt b τ e
   omega
  ·rw [if_neg hb] at e
   by_cases e1 : nv.ownBlock = some b
   ·exact ⟨by omega, own_lt hL e1⟩
   ·rw [if_neg e1] at e
    by_cases e2 : b = g
    ·rw [e2]; exact ⟨by omega, hN.lt⟩
    ·rw [if_neg e2] at e; cases e
 ·show w'.ownsRow _ _ 1 nv (s.bs ++ [n]).length _
  rw [rowsV_snoc h.gl, List.length_append, List.length_singleton]
  exact hL
 ·by_cases hb : b < w.heap.size
  ·refine (hcol b hb).trans ?_
   rcases q1 with q1 | ⟨g', q1, q1'⟩
   ·exact h.cl b (by rw [← q1]; exact q)
   ·rw [q] at q1; injection q1 with q1; omega
  ·simp [hb, q]
 ·by_cases hi : i < gs.length
  ·rw [List.getElem?_append_left hi] at e
   exact (hcol g' (h.lt g' _ (h.cg i g' e)).2).trans (h.cg i g' e)
  ·have hi' : i = gs.length := by have := (List.getElem?_eq_some_iff.1 e).1; simp at this; omega
   subst hi'
   simp at e
   subst e
   have e3 : ¬ g < w.heap.size := by omega
   simp [e3, hne, h.gl]
 ·by_cases hi : i < gs.length
  ·rw [List.getElem?_append_left hi] at e1
   have e2' : (s.bs ++ [n])[i]? = some n' := e2
   rw [List.getElem?_append_left (by omega)] at e2'
   exact (h.nums i g' n' e1 e2').keep (kb g' _ (h.cg i g' e1) (by intro q; cases q) (by intro q; cases q))
  ·have hi' : i = gs.length := by have := (List.getElem?_eq_some_iff.1 e1).1; simp at this; omega
   subst hi'
   have e2' : (s.bs ++ [n])[gs.length]? = some n' := e2
   rw [h.gl] at e2'
   simp at e1 e2'
   subst e1 e2'
   refine hN.ext fun j _ => ?_
   exact (h.out _ _ (by rw [hgl]; omega)).symm
 ·have hx' : x ∈ s.bs ++ [n] := hx
  rcases List.mem_append.1 hx' with q | q
  ·exact h.one x q
  ·simp at q; omega

theorem sum_take (bs : List Nat) (k : Nat) : (bs.take k).sum ≤ bs.sum := by
 have : bs.sum = (bs.take k).sum + (bs.drop k).sum := by rw [← List.sum_append, List.take_append_drop]
 omega
/-- The blocks from k on are cut off. -/
theorem DX.cut {a : Option Addr} {cp : Nat} (h : DX w w0 R col c fuel s t sp (.slice a s.bs.length cp) tv gs) {k : Nat} (hk : k ≤ s.bs.length) :
  DX (w.setCell ⟨R, 3, none⟩ (.slice a k cp)) w0 R col c fuel { s with bs := s.bs.take k, f := Me.keepf s.f k } t sp (.slice a k cp) tv (gs.take k) ∧ Ex noX col w col (w.setCell ⟨R, 3, none⟩ (.slice a k cp)) := by
 have oth : ∀ b τ, col b = some τ → τ ≠ .rn → (w.setCell ⟨R, 3, none⟩ (.slice a k cp)).heap[b]? = w.heap[b]? := fun b τ e hτ => Below.heap_setCell _ _ _ _ (fun q => by rw [show b = R from q, h.colR] at e; exact hτ (Option.some.inj e).symm)
 have hgl := h.gl
 have hcl : ∀ b, (Value.slice a k cp).ownBlock = some b → col b = some .me := fun b q => h.cl b (by cases a <;> exact q)
 refine ⟨⟨Below.setCell h.bel (h.lt R _ h.colR).1 _, fun b τ e => by simpa using h.lt b τ e, h.colR, ?_, ?_, row_keep h.trc (fun b q => oth b _ (h.ct b q) (by intro q; cases q)), by simp [hgl], hcl, h.ct, fun i g e => ?_, fun i g n e1 e2 => ?_, Nat.le_trans (sum_take _ _) h.sum, fun x hx => h.one x (List.mem_of_mem_take hx), h.nle, h.trl, fun x y hxy => ?_, h.tb⟩, (Ex.refl _ _ _).set (Or.inl (by rw [h.colR]; simp)) _⟩
 ·exact (set_blk h.run _).trans (by simp)
 ·have e : (s.bs.take k).length = k := by simp; omega
  show (w.setCell _ _).ownsRow _ _ 1 _ (s.bs.take k).length _
  rw [e, rowsV_take]
  exact row_keep (row_take h.rows hk) (fun b q => oth b _ (hcl b q) (by intro q; cases q))
 ·rw [List.getElem?_take] at e
  split at e
  ·exact h.cg i g e
  ·cases e
 ·rw [List.getElem?_take] at e1
  have e2' : (s.bs.take k)[i]? = some n := e2
  rw [List.getElem?_take] at e2'
  split at e1
  ·rename_i hi
   rw [if_pos hi] at e2'
   refine ((h.nums i g n e1 e2').keep (oth g _ (h.cg i g e1) (by intro q; cases q))).ext fun j _ => ?_
   simp [Me.keepf, hi]
  ·cases e1
 ·have e : (s.bs.take k).length = k := by simp; omega
  have hxy' : (((s.bs.take k).length : Nat) : Int) ≤ x := hxy
  rw [e] at hxy'
  simp only [Me.keepf]
  rw [if_neg (by omega)]

/-- A cell of a block is written. -/
theorem DX.put (h : DX w w0 R col c fuel s t sp lv tv gs) {i g n j : Nat} (hg : gs[i]? = some g) (hn : s.bs[i]? = some n) (hj : j < n) (x : Int) :
  DX (w.setCell ⟨g, j, none⟩ (.int .i64 x)) w0 R col c fuel { s with f := Me.upd s.f (i : Int) (j : Int) x } t sp lv tv gs ∧ Ex noX col w col (w.setCell ⟨g, j, none⟩ (.int .i64 x)) := by
 have hcg := h.cg i g hg
 have oth : ∀ b τ, col b = some τ → τ ≠ .ce i → (w.setCell ⟨g, j, none⟩ (.int .i64 x)).heap[b]? = w.heap[b]? := fun b τ e hτ => Below.heap_setCell _ _ _ _ (fun q => by rw [show b = g from q, hcg] at e; exact hτ (Option.some.inj e).symm)
 have hil := (List.getElem?_eq_some_iff.1 hn).1
 refine ⟨⟨Below.setCell h.bel (h.lt g _ hcg).1 _, fun b τ e => by simpa using h.lt b τ e, h.colR, (oth R _ h.colR (by intro q; cases q)).trans h.run, row_keep h.rows (fun b q => oth b _ (h.cl b q) (by intro q; cases q)), row_keep h.trc (fun b q => oth b _ (h.ct b q) (by intro q; cases q)), h.gl, h.cl, h.ct, h.cg, fun i' g' n' e1 e2 => ?_, h.sum, h.one, h.nle, h.trl, fun a b hab => ?_, h.tb⟩, (Ex.refl _ _ _).set (Or.inl (by rw [hcg]; simp)) _⟩
 ·by_cases e : i' = i
  ·subst e
   rw [hg] at e1
   injection e1 with e1
   subst e1
   rw [show s.bs[i']? = some n' from e2] at hn
   injection hn with hn
   subst hn
   refine ((h.nums i' g n' hg e2).set x).ext fun m hm => ?_
   simp only [Me.upd]
   by_cases q : m = j
   ·simp [q]
   ·rw [if_neg q, if_neg (fun z => q (by omega))]
  ·refine ((h.nums i' g' n' e1 e2).keep (oth g' _ (h.cg i' g' e1) (by intro q; cases q; exact e rfl))).ext fun m hm => ?_
   simp only [Me.upd]
   rw [if_neg (fun z => e (by omega))]
 ·simp only [Me.upd]
  rw [if_neg (fun z => by have : (s.bs.length : Int) ≤ a := hab; omega)]
  exact h.out a b hab
end

end Go.Proofs.Ytphknepblchkdaa.Dn
