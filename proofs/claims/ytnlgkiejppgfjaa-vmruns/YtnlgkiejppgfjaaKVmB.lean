/-
  The machine in memory: its own block, its cells, its calls, each call's list of cells that came to be other than 0, its trace, each in blocks of its own; what stays while the others change: facts on worlds; no conditions but those that each fact bears.
-/
import Derived.Test.YtnlgkiejppgfjaaKVmA
namespace Go.Proofs.Ytnlgkiejppgfjaa
open Go.RowKit
set_option linter.unusedVariables false

/-- Whose a block is. -/
inductive Tg where
  | rn | me | ca | tr
  | wr (k : Nat)
abbrev Col := Nat → Option Tg

/-- All blocks that were there and are nobody's are as they were. -/
structure Ex (col : Col) (w : World) (col' : Col) (w' : World) : Prop where
  os : w'.os = w.os
  tape : w'.tape = w.tape
  output : w'.output = w.output
  size : w.heap.size ≤ w'.heap.size
  block : ∀ k, k < w.heap.size → col k = none → w'.heap[k]? = w.heap[k]?
  col : ∀ k, k < w.heap.size → col' k = col k
theorem Ex.refl (col : Col) (w : World) : Ex col w col w := ⟨rfl, rfl, rfl, Nat.le_refl _, fun _ _ _ => rfl, fun _ _ => rfl⟩
theorem Ex.trans {c0 c1 c2 : Col} {a b c : World} (h : Ex c0 a c1 b) (k : Ex c1 b c2 c) : Ex c0 a c2 c :=
  ⟨k.os.trans h.os, k.tape.trans h.tape, k.output.trans h.output, Nat.le_trans h.size k.size,
    fun j hj hn => (k.block j (Nat.lt_of_lt_of_le hj h.size) (by rw [h.col j hj]; exact hn)).trans (h.block j hj hn), fun j hj => (k.col j (Nat.lt_of_lt_of_le hj h.size)).trans (h.col j hj)⟩
theorem Ex.drewN {c0 c1 : Col} {a b : World} (h : Ex c0 a c1 b) (m : Nat) : Ex c0 a c1 (b.drewN m) := ⟨h.os, h.tape, h.output, h.size, h.block, h.col⟩
theorem Ex.alloc {c0 c1 : Col} {a b : World} (h : Ex c0 a c1 b) (o : Obj) : Ex c0 a c1 (b.alloc o) :=
  ⟨h.os, h.tape, h.output, by have := h.size; simp; omega, fun j hj hn => (Below.heap_alloc b o j (Nat.lt_of_lt_of_le hj h.size)).trans (h.block j hj hn), h.col⟩
theorem Ex.set {c0 c1 : Col} {a b : World} (h : Ex c0 a c1 b) {p : Addr} (hp : c0 p.block ≠ none ∨ a.heap.size ≤ p.block) (u : Value) : Ex c0 a c1 (b.setCell p u) :=
  ⟨h.os, h.tape, h.output, by have := h.size; simpa using this, fun j hj hn => (Below.heap_setCell b p u j (fun e => by subst e; exact hp.elim (fun q => q hn) (fun g => by omega))).trans (h.block j hj hn), h.col⟩
theorem Ex.q {c0 : Col} {a b : World} (h : Q a b) : Ex c0 a c0 b := ⟨h.os, h.tape, h.output, h.size, fun j hj _ => h.block j hj, fun _ _ => rfl⟩
theorem Ex.cell {c0 c1 : Col} {a b : World} (h : Ex c0 a c1 b) {k j : Nat} (hc : c0 k = none) {u : Value} (hu : a.cell? ⟨k, j, none⟩ = some u) : b.cell? ⟨k, j, none⟩ = some u := by
  have hk : k < a.heap.size := World.block_lt_of_cell? a _ hu
  rw [← hu]
  simp only [World.cell?]
  rw [h.block k hk hc]
theorem Ex.none {c0 c1 : Col} {a b : World} (h : Ex c0 a c1 b) {k : Nat} (hk : k < a.heap.size) (hc : c0 k = none) : c1 k = none := (h.col k hk).trans hc

def Cl.cs (c : Cl) : List Value := rowI c.rg ++ (rowI c.gt ++ (rowI c.rd ++ [.int .i64 (c.pl : Int), .int .i64 (c.ba : Int), .int .u8 (c.an : Int)]))
structure Cl.ok (c : Cl) : Prop where
  rg : c.rg.length = 8
  gt : c.gt.length = 6
  rd : c.rd.length = 6
  pl : c.pl ≤ 4294967296
  ba : c.ba ≤ 65536
  an : c.an < 8
theorem Cl.cs_rg {c : Cl} (h : c.ok) {j : Nat} {x : Int} (hx : c.rg[j]? = some x) : c.cs[j]? = some (.int .i64 x) := by
  have := (List.getElem?_eq_some_iff.1 hx).1
  unfold Cl.cs
  rw [List.getElem?_append_left (by rw [rowI_len]; omega), rowI_at, hx]; rfl
theorem Cl.cs_gt {c : Cl} (h : c.ok) {j : Nat} {x : Int} (hx : c.gt[j]? = some x) : c.cs[8 + j]? = some (.int .i64 x) := by
  have := (List.getElem?_eq_some_iff.1 hx).1
  have h1 := h.rg
  unfold Cl.cs
  rw [List.getElem?_append_right (by rw [rowI_len]; omega), rowI_len, h1, Nat.add_sub_cancel_left, List.getElem?_append_left (by rw [rowI_len]; omega), rowI_at, hx]; rfl
theorem Cl.cs_rd {c : Cl} (h : c.ok) {j : Nat} {x : Int} (hx : c.rd[j]? = some x) : c.cs[14 + j]? = some (.int .i64 x) := by
  have := (List.getElem?_eq_some_iff.1 hx).1
  have h1 := h.rg
  have h2 := h.gt
  unfold Cl.cs
  rw [List.getElem?_append_right (by rw [rowI_len]; omega), rowI_len, h1, show 14 + j - 8 = 6 + j by omega, List.getElem?_append_right (by rw [rowI_len]; omega), rowI_len, h2, Nat.add_sub_cancel_left, List.getElem?_append_left (by rw [rowI_len]; omega), rowI_at, hx]; rfl
theorem Cl.cs_pl {c : Cl} (h : c.ok) : c.cs[20]? = some (.int .i64 (c.pl : Int)) ∧ c.cs[21]? = some (.int .i64 (c.ba : Int)) ∧ c.cs[22]? = some (.int .u8 (c.an : Int)) := by
  have h1 := h.rg
  have h2 := h.gt
  have h3 := h.rd
  have e : ∀ j, c.cs[20 + j]? = ([.int .i64 (c.pl : Int), .int .i64 (c.ba : Int), .int .u8 (c.an : Int)] : List Value)[j]? := fun j => by
    unfold Cl.cs
    rw [List.getElem?_append_right (by rw [rowI_len]; omega), rowI_len, h1, show 20 + j - 8 = 12 + j by omega, List.getElem?_append_right (by rw [rowI_len]; omega), rowI_len, h2, show 12 + j - 6 = 6 + j by omega, List.getElem?_append_right (by rw [rowI_len]; omega), rowI_len, h3, Nat.add_sub_cancel_left]
  exact ⟨e 0, e 1, e 2⟩
theorem Cl.cs_len {c : Cl} (h : c.ok) : c.cs.length = 23 := by
  unfold Cl.cs
  simp only [List.length_append, rowI_len, h.rg, h.gt, h.rd]
  rfl

/-- The calls in memory. -/
structure KS (w : World) (B C cap : Nat) (ks : Array Value) (col : Col) (cls : List Cl) (W : Nat → List Int) : Prop where
  blk : w.heap[C]? = some (.cells ks 86 (0, 0))
  size : ks.size = cap * 24
  capm : cap ≤ maxLen
  le : cls.length ≤ cap
  colC : col C = some .ca
  slot : ∀ k, k < cap → ∃ wv, ks[k * 24 + 23]? = some wv ∧ w.ownsRow B 3 1 wv (W k).length (rowI (W k)) ∧ ∀ b, wv.ownBlock = some b → col b = some (.wr k)
  call : ∀ k c, cls[k]? = some c → ∀ j u, j < 23 → c.cs[j]? = some u → ks[k * 24 + j]? = some u
def KV (w : World) (B : Nat) (kv : Value) (col : Col) (cls : List Cl) (W : Nat → List Int) : Prop :=
  (kv = .slice none 0 0 ∧ cls = []) ∨ ∃ C cap ks, kv = .slice (some ⟨C, 0, none⟩) cls.length cap ∧ KS w B C cap ks col cls W
theorem KS.keep {w w' : World} {B C cap : Nat} {ks : Array Value} {col col' : Col} {cls : List Cl} {W : Nat → List Int} (h : KS w B C cap ks col cls W) (hC : w'.heap[C]? = w.heap[C]?) (hw : ∀ b k, b < w.heap.size → col b = some (.wr k) → w'.heap[b]? = w.heap[b]?) (hc : ∀ b, b < w.heap.size → col' b = col b) : KS w' B C cap ks col' cls W := by
  refine ⟨hC.trans h.blk, h.size, h.capm, h.le, (hc C (lt_of_some h.blk)).trans h.colC, fun k hk => ?_, h.call⟩
  obtain ⟨wv, e1, e2, e3⟩ := h.slot k hk
  exact ⟨wv, e1, row_keep e2 (fun b q => hw b k (own_lt e2 q) (e3 b q)), fun b q => by rw [hc b (own_lt e2 q)]; exact e3 b q⟩
theorem KV.keep {w w' : World} {B : Nat} {kv : Value} {col col' : Col} {cls : List Cl} {W : Nat → List Int} (h : KV w B kv col cls W) (hC : ∀ b, b < w.heap.size → col b = some .ca → w'.heap[b]? = w.heap[b]?) (hw : ∀ b k, b < w.heap.size → col b = some (.wr k) → w'.heap[b]? = w.heap[b]?) (hc : ∀ b, b < w.heap.size → col' b = col b) : KV w' B kv col' cls W := by
  rcases h with h | ⟨C, cap, ks, e, h⟩
  · exact .inl h
  · exact .inr ⟨C, cap, ks, e, h.keep (hC C (lt_of_some h.blk) h.colC) hw hc⟩

abbrev mcells (im : PIm) (mn : Nat) (ex : Int) (cv kv tv : Value) : Array Value := #[cv, .int .i64 (mn : Int), .slice im.wa im.ws.length im.wc, .slice im.sa im.st.length im.sc, .slice im.fa im.fr.length im.fc, .slice im.ea im.da.length im.ec, kv, .int .i64 ex, tv]

/-- The machine as it lies. -/
structure MX (w w0 : World) (R : Nat) (col : Col) (im : PIm) (mn : Nat) (ce : List Int) (cls : List Cl) (W : Nat → List Int) (tr : List Int) (ex : Int) (cv kv tv : Value) : Prop where
  bel : Below w0.heap.size w0 w
  lt : ∀ b τ, col b = some τ → w0.heap.size ≤ b ∧ b < w.heap.size
  colR : col R = some .rn
  blk : w.heap[R]? = some (.cells (mcells im mn ex cv kv tv) 76 (0, 0))
  ce : w.ownsRow w0.heap.size 2 1 cv ce.length (rowI ce)
  cec : ∀ b, cv.ownBlock = some b → col b = some .me
  tro : w.ownsRow w0.heap.size 2 1 tv tr.length (rowI tr)
  trc : ∀ b, tv.ownBlock = some b → col b = some .tr
  kvo : KV w w0.heap.size kv col cls W

section
variable {w w' w0 : World} {R : Nat} {col col' : Col} {im : PIm} {mn : Nat} {ce : List Int} {cls : List Cl} {W : Nat → List Int} {tr : List Int} {ex : Int} {cv kv tv : Value}

theorem MX.ltR (h : MX w w0 R col im mn ce cls W tr ex cv kv tv) : R < w.heap.size := (h.lt R _ h.colR).2
theorem Below.of_ex (h : Below w0.heap.size w0 w) (hx : Ex col w col' w') (hl : ∀ b τ, col b = some τ → w0.heap.size ≤ b) : Below w0.heap.size w0 w' :=
  ⟨hx.os.trans h.os, hx.tape.trans h.tape, hx.output.trans h.output, Nat.le_trans h.size hx.size, fun k hk => (hx.block k (Nat.lt_of_lt_of_le hk h.size) (by
    cases e : col k with
    | none => rfl
    | some τ => have := hl k τ e; omega)).trans (h.block k hk)⟩
theorem MX.keep (h : MX w w0 R col im mn ce cls W tr ex cv kv tv) (hq : Q w w') : MX w' w0 R col im mn ce cls W tr ex cv kv tv :=
  ⟨Below.of_ex (col' := col) h.bel (Ex.q hq) (fun b τ e => (h.lt b τ e).1), fun b τ e => ⟨(h.lt b τ e).1, Nat.lt_of_lt_of_le (h.lt b τ e).2 hq.size⟩, h.colR, (hq.block R h.ltR).trans h.blk,
    row_keep h.ce (fun k q => hq.block k (own_lt h.ce q)), h.cec, row_keep h.tro (fun k q => hq.block k (own_lt h.tro q)), h.trc, h.kvo.keep (fun b hb _ => hq.block b hb) (fun b _ hb _ => hq.block b hb) (fun _ _ => rfl)⟩
/-- Another block than any of the machine's is written. -/
theorem MX.other (h : MX w w0 R col im mn ce cls W tr ex cv kv tv) {p : Addr} (hp : col p.block = none) (hb : w0.heap.size ≤ p.block) (u : Value) : MX (w.setCell p u) w0 R col im mn ce cls W tr ex cv kv tv := by
  have oth : ∀ b, b ≠ p.block → (w.setCell p u).heap[b]? = w.heap[b]? := fun b hb => heap_setCell_other w p b u hb
  have ne : ∀ b τ, col b = some τ → b ≠ p.block := fun b τ e q => by rw [q, hp] at e; cases e
  exact ⟨Below.setCell h.bel hb u, fun b τ e => by rw [World.size_setCell]; exact h.lt b τ e, h.colR, (oth R (ne R _ h.colR)).trans h.blk,
    row_keep h.ce (fun k q => oth k (ne k _ (h.cec k q))), h.cec, row_keep h.tro (fun k q => oth k (ne k _ (h.trc k q))), h.trc, h.kvo.keep (fun b _ e => oth b (ne b _ e)) (fun b k _ e => oth b (ne b _ e)) (fun _ _ => rfl)⟩

/-- The machine's own block is written: its cells are others then. -/
theorem MX.setR (h : MX w w0 R col im mn ce cls W tr ex cv kv tv) {j : Nat} {u : Value} {mn' : Nat} {cls' : List Cl} {ex' : Int} {kv' : Value} (he : (mcells im mn ex cv kv tv).setIfInBounds j u = mcells im mn' ex' cv kv' tv) (hk : KV w w0.heap.size kv' col cls' W) :
    MX (w.setCell ⟨R, j, none⟩ u) w0 R col im mn' ce cls' W tr ex' cv kv' tv ∧ Ex col w col (w.setCell ⟨R, j, none⟩ u) := by
  have oth : ∀ b, b ≠ R → (w.setCell ⟨R, j, none⟩ u).heap[b]? = w.heap[b]? := fun b hb => heap_setCell_other w _ b u hb
  have ne : ∀ b τ, col b = some τ → τ ≠ .rn → b ≠ R := fun b τ e hτ q => by rw [q, h.colR] at e; exact hτ (Option.some.inj e).symm
  refine ⟨⟨Below.setCell h.bel (h.lt R _ h.colR).1 u, fun b τ e => by rw [World.size_setCell]; exact h.lt b τ e, h.colR, ?_, row_keep h.ce (fun k q => oth k (ne k _ (h.cec k q) (by intro q; cases q))), h.cec, row_keep h.tro (fun k q => oth k (ne k _ (h.trc k q) (by intro q; cases q))), h.trc, hk.keep (fun b _ e => oth b (ne b _ e (by intro q; cases q))) (fun b k _ e => oth b (ne b _ e (by intro q; cases q))) (fun _ _ => rfl)⟩, (Ex.refl col w).set (Or.inl (by rw [h.colR]; simp)) _⟩
  rw [heap_setCell_same w R j _ _ u h.blk, he]

/-- A cell of a call's block is written: the calls are others then. -/
theorem MX.setK {C cap : Nat} {ks : Array Value} (h : MX w w0 R col im mn ce cls W tr ex cv (.slice (some ⟨C, 0, none⟩) cls.length cap) tv) (hk : KS w w0.heap.size C cap ks col cls W) {i : Nat} {u : Value} {cls' : List Cl} (hl : cls'.length = cls.length) (hi : ∀ k, k < cap → i ≠ k * 24 + 23) (hc : ∀ k c, cls'[k]? = some c → ∀ j x, j < 23 → c.cs[j]? = some x → (ks.setIfInBounds i u)[k * 24 + j]? = some x) :
    MX (w.setCell ⟨C, i, none⟩ u) w0 R col im mn ce cls' W tr ex cv (.slice (some ⟨C, 0, none⟩) cls'.length cap) tv ∧ KS (w.setCell ⟨C, i, none⟩ u) w0.heap.size C cap (ks.setIfInBounds i u) col cls' W ∧ Ex col w col (w.setCell ⟨C, i, none⟩ u) := by
  have oth : ∀ b, b ≠ C → (w.setCell ⟨C, i, none⟩ u).heap[b]? = w.heap[b]? := fun b hb => heap_setCell_other w _ b u hb
  have ne : ∀ b τ, col b = some τ → τ ≠ .ca → b ≠ C := fun b τ e hτ q => by rw [q, hk.colC] at e; exact hτ (Option.some.inj e).symm
  have K : KS (w.setCell ⟨C, i, none⟩ u) w0.heap.size C cap (ks.setIfInBounds i u) col cls' W := by
    refine ⟨heap_setCell_same w C i ks _ u hk.blk, by rw [Array.size_setIfInBounds]; exact hk.size, hk.capm, by rw [hl]; exact hk.le, hk.colC, fun k hkc => ?_, hc⟩
    obtain ⟨wv, e1, e2, e3⟩ := hk.slot k hkc
    exact ⟨wv, by rw [Array.getElem?_setIfInBounds_ne (hi k hkc)]; exact e1, row_keep e2 (fun b q => oth b (ne b _ (e3 b q) (by intro q; cases q))), e3⟩
  refine ⟨⟨Below.setCell h.bel (h.lt C _ hk.colC).1 u, fun b τ e => by rw [World.size_setCell]; exact h.lt b τ e, h.colR, ?_, row_keep h.ce (fun k q => oth k (ne k _ (h.cec k q) (by intro q; cases q))), h.cec, row_keep h.tro (fun k q => oth k (ne k _ (h.trc k q) (by intro q; cases q))), h.trc, .inr ⟨C, cap, _, rfl, K⟩⟩, K, (Ex.refl col w).set (Or.inl (by rw [hk.colC]; simp)) _⟩
  rw [oth R (ne R _ h.colR (by intro q; cases q)), hl]
  exact h.blk

/-- A cell of memory is written. -/
theorem MX.setE {g cap : Nat} (h : MX w w0 R col im mn ce cls W tr ex (.slice (some ⟨g, 0, none⟩) ce.length cap) kv tv) (n : Nat) (x : Int) :
    MX (w.setCell ⟨g, n, none⟩ (.int .i64 x)) w0 R col im mn (ce.set n x) cls W tr ex (.slice (some ⟨g, 0, none⟩) (ce.set n x).length cap) kv tv ∧ Ex col w col (w.setCell ⟨g, n, none⟩ (.int .i64 x)) := by
  have hg := h.cec g rfl
  have oth : ∀ b, b ≠ g → (w.setCell ⟨g, n, none⟩ (.int .i64 x)).heap[b]? = w.heap[b]? := fun b hb => heap_setCell_other w _ b _ hb
  have ne : ∀ b τ, col b = some τ → τ ≠ .me → b ≠ g := fun b τ e hτ q => by rw [q, hg] at e; exact hτ (Option.some.inj e).symm
  refine ⟨⟨Below.setCell h.bel (h.lt g _ hg).1 _, fun b τ e => by rw [World.size_setCell]; exact h.lt b τ e, h.colR, ?_, row_set h.ce n x, h.cec, row_keep h.tro (fun k q => oth k (ne k _ (h.trc k q) (by intro q; cases q))), h.trc, h.kvo.keep (fun b _ e => oth b (ne b _ e (by intro q; cases q))) (fun b k _ e => oth b (ne b _ e (by intro q; cases q))) (fun _ _ => rfl)⟩, (Ex.refl col w).set (Or.inl (by rw [hg]; simp)) _⟩
  rw [oth R (ne R _ h.colR (by intro q; cases q)), List.length_set]
  exact h.blk

/-- Whose blocks are, when a row has grown into v'. -/
def colG (col : Col) (n : Nat) (v' : Value) (τ : Tg) : Col := fun b => if b < n then col b else if v'.ownBlock = some b then some τ else none
theorem colG_old {n : Nat} {v' : Value} {τ : Tg} {b : Nat} (hb : b < n) : colG col n v' τ b = col b := by simp [colG, hb]
theorem ex_grown {X : World} {v v' : Value} {τ : Tg} (hg : w.grownBy X v.ownBlock) (hv : ∀ b, v.ownBlock = some b → col b = some τ) : Ex col w (colG col w.heap.size v' τ) X :=
  ⟨hg.os, hg.tape, hg.output, hg.size, fun b hb e => hg.block b hb (fun q => by rw [hv b q.symm] at e; cases e), fun b hb => colG_old hb⟩
theorem colG_lt {X : World} {v v' : Value} {τ : Tg} (h : MX w w0 R col im mn ce cls W tr ex cv kv tv) (hg : w.grownBy X v.ownBlock) (hl : ∀ b, v'.ownBlock = some b → b < X.heap.size) : ∀ b σ, colG col w.heap.size v' τ b = some σ → w0.heap.size ≤ b ∧ b < X.heap.size := fun b σ e => by
  unfold colG at e
  by_cases hb : b < w.heap.size
  · rw [if_pos hb] at e
    have := h.lt b σ e
    have := hg.size
    omega
  · rw [if_neg hb] at e
    by_cases e1 : v'.ownBlock = some b
    · have := hl b e1; have := h.bel.size; omega
    · rw [if_neg e1] at e; cases e
theorem colG_own {v v' : Value} {τ : Tg} (hv : ∀ b, v.ownBlock = some b → col b = some τ) (hl : ∀ b, v.ownBlock = some b → b < w.heap.size) (hat : ∃ g, v'.ownBlock = some g ∧ (v.ownBlock = some g ∨ w.heap.size ≤ g)) : ∀ b, v'.ownBlock = some b → colG col w.heap.size v' τ b = some τ := fun b e => by
  obtain ⟨g, g1, g2⟩ := hat
  rw [g1] at e
  injection e with e
  subst e
  rcases g2 with g2 | g2
  · rw [colG_old (hl g g2)]; exact hv g g2
  · unfold colG; rw [if_neg (by omega), if_pos g1]

/-- Memory has grown. -/
theorem MX.growE {X : World} {v' : Value} {ce' : List Int} (h : MX w w0 R col im mn ce cls W tr ex cv kv tv) (hg : w.grownBy X cv.ownBlock) (ho : X.ownsRow w0.heap.size 2 1 v' ce'.length (rowI ce')) (hat : ∃ g, v'.ownBlock = some g ∧ (cv.ownBlock = some g ∨ w.heap.size ≤ g)) :
    X.heap[R]? = some (.cells (mcells im mn ex cv kv tv) 76 (0, 0)) ∧ ∃ col', MX (X.setCell ⟨R, 0, none⟩ v') w0 R col' im mn ce' cls W tr ex v' kv tv ∧ Ex col w col' (X.setCell ⟨R, 0, none⟩ v') := by
  have hlt : ∀ b, cv.ownBlock = some b → b < w.heap.size := fun b q => own_lt h.ce q
  have hx := ex_grown (v' := v') hg h.cec
  have own := colG_own h.cec hlt hat
  have kb : ∀ b τ, b < w.heap.size → col b = some τ → τ ≠ .me → X.heap[b]? = w.heap[b]? := fun b τ hb e t => hg.block b hb (fun q => by rw [h.cec b q.symm] at e; exact t (Option.some.inj e).symm)
  have b0 : X.heap[R]? = some (.cells (mcells im mn ex cv kv tv) 76 (0, 0)) := (kb R _ h.ltR h.colR (by intro q; cases q)).trans h.blk
  have oth : ∀ b, b ≠ R → (X.setCell ⟨R, 0, none⟩ v').heap[b]? = X.heap[b]? := fun b hb => heap_setCell_other X _ b _ hb
  have ne : ∀ b τ, col b = some τ → τ ≠ .rn → b ≠ R := fun b τ e hτ q => by rw [q, h.colR] at e; exact hτ (Option.some.inj e).symm
  refine ⟨b0, colG col w.heap.size v' .me, ⟨Below.setCell (Below.of_ex h.bel hx (fun b τ e => (h.lt b τ e).1)) (h.lt R _ h.colR).1 _, fun b τ e => by rw [World.size_setCell]; exact colG_lt (v := cv) h hg (fun b q => own_lt ho q) b τ e, by rw [colG_old h.ltR]; exact h.colR, ?_, row_keep ho (fun k q => oth k (fun e => ?_)), own, ?_, ?_, ?_⟩, ?_⟩
  · rw [heap_setCell_same X R 0 _ _ v' b0]
    simp
  · have := own k q
    rw [e, colG_old h.ltR, h.colR] at this
    cases this
  · exact row_keep h.tro (fun k q => (oth k (ne k _ (h.trc k q) (by intro q; cases q))).trans (kb k _ (own_lt h.tro q) (h.trc k q) (by intro q; cases q)))
  · exact fun b q => by rw [colG_old (own_lt h.tro q)]; exact h.trc b q
  · exact h.kvo.keep (fun b hb e => (oth b (ne b _ e (by intro q; cases q))).trans (kb b _ hb e (by intro q; cases q))) (fun b k hb e => (oth b (ne b _ e (by intro q; cases q))).trans (kb b _ hb e (by intro q; cases q))) (fun b hb => colG_old hb)
  · exact hx.set (Or.inl (by rw [h.colR]; simp)) _

/-- The trace has grown. -/
theorem MX.growT {X : World} {v' : Value} {tr' : List Int} (h : MX w w0 R col im mn ce cls W tr ex cv kv tv) (hg : w.grownBy X tv.ownBlock) (ho : X.ownsRow w0.heap.size 2 1 v' tr'.length (rowI tr')) (hat : ∃ g, v'.ownBlock = some g ∧ (tv.ownBlock = some g ∨ w.heap.size ≤ g)) :
    X.heap[R]? = some (.cells (mcells im mn ex cv kv tv) 76 (0, 0)) ∧ ∃ col', MX (X.setCell ⟨R, 8, none⟩ v') w0 R col' im mn ce cls W tr' ex cv kv v' ∧ Ex col w col' (X.setCell ⟨R, 8, none⟩ v') := by
  have hlt : ∀ b, tv.ownBlock = some b → b < w.heap.size := fun b q => own_lt h.tro q
  have hx := ex_grown (v' := v') hg h.trc
  have own := colG_own h.trc hlt hat
  have kb : ∀ b τ, b < w.heap.size → col b = some τ → τ ≠ .tr → X.heap[b]? = w.heap[b]? := fun b τ hb e t => hg.block b hb (fun q => by rw [h.trc b q.symm] at e; exact t (Option.some.inj e).symm)
  have b0 : X.heap[R]? = some (.cells (mcells im mn ex cv kv tv) 76 (0, 0)) := (kb R _ h.ltR h.colR (by intro q; cases q)).trans h.blk
  have oth : ∀ b, b ≠ R → (X.setCell ⟨R, 8, none⟩ v').heap[b]? = X.heap[b]? := fun b hb => heap_setCell_other X _ b _ hb
  have ne : ∀ b τ, col b = some τ → τ ≠ .rn → b ≠ R := fun b τ e hτ q => by rw [q, h.colR] at e; exact hτ (Option.some.inj e).symm
  refine ⟨b0, colG col w.heap.size v' .tr, ⟨Below.setCell (Below.of_ex h.bel hx (fun b τ e => (h.lt b τ e).1)) (h.lt R _ h.colR).1 _, fun b τ e => by rw [World.size_setCell]; exact colG_lt (v := tv) h hg (fun b q => own_lt ho q) b τ e, by rw [colG_old h.ltR]; exact h.colR, ?_, ?_, ?_, row_keep ho (fun k q => oth k (fun e => ?_)), own, ?_⟩, ?_⟩
  · rw [heap_setCell_same X R 8 _ _ v' b0]
    simp
  · exact row_keep h.ce (fun k q => (oth k (ne k _ (h.cec k q) (by intro q; cases q))).trans (kb k _ (own_lt h.ce q) (h.cec k q) (by intro q; cases q)))
  · exact fun b q => by rw [colG_old (own_lt h.ce q)]; exact h.cec b q
  · have := own k q
    rw [e, colG_old h.ltR, h.colR] at this
    cases this
  · exact h.kvo.keep (fun b hb e => (oth b (ne b _ e (by intro q; cases q))).trans (kb b _ hb e (by intro q; cases q))) (fun b k hb e => (oth b (ne b _ e (by intro q; cases q))).trans (kb b _ hb e (by intro q; cases q))) (fun b hb => colG_old hb)
  · exact hx.set (Or.inl (by rw [h.colR]; simp)) _

/-- A call's list has grown. -/
theorem MX.growW {X : World} {C cap n : Nat} {ks : Array Value} {v v' : Value} {L : List Int} (h : MX w w0 R col im mn ce cls W tr ex cv (.slice (some ⟨C, 0, none⟩) cls.length cap) tv) (hk : KS w w0.heap.size C cap ks col cls W) (hn : n < cap) (hv : ks[n * 24 + 23]? = some v) (hg : w.grownBy X v.ownBlock) (ho : X.ownsRow w0.heap.size 3 1 v' L.length (rowI L)) (hat : ∃ g, v'.ownBlock = some g ∧ (v.ownBlock = some g ∨ w.heap.size ≤ g)) :
    X.heap[C]? = some (.cells ks 86 (0, 0)) ∧ X.heap[R]? = w.heap[R]? ∧ (∀ b, cv.ownBlock = some b → X.heap[b]? = w.heap[b]?) ∧ ∃ col', MX (X.setCell ⟨C, n * 24 + 23, none⟩ v') w0 R col' im mn ce cls (fun k => if k = n then L else W k) tr ex cv (.slice (some ⟨C, 0, none⟩) cls.length cap) tv ∧ Ex col w col' (X.setCell ⟨C, n * 24 + 23, none⟩ v') := by
  obtain ⟨v0, e0, e1, e2⟩ := hk.slot n hn
  rw [hv] at e0
  obtain rfl := Option.some.inj e0
  have hlt : ∀ b, v.ownBlock = some b → b < w.heap.size := fun b q => own_lt e1 q
  have hx := ex_grown (v' := v') hg e2
  have own := colG_own e2 hlt hat
  have ltC := (h.lt C _ hk.colC).2
  have kb : ∀ b τ, b < w.heap.size → col b = some τ → τ ≠ .wr n → X.heap[b]? = w.heap[b]? := fun b τ hb e t => hg.block b hb (fun q => by rw [e2 b q.symm] at e; exact t (Option.some.inj e).symm)
  have bC : X.heap[C]? = some (.cells ks 86 (0, 0)) := (kb C _ ltC hk.colC (by intro q; cases q)).trans hk.blk
  have oth : ∀ b, b ≠ C → (X.setCell ⟨C, n * 24 + 23, none⟩ v').heap[b]? = X.heap[b]? := fun b hb => heap_setCell_other X _ b _ hb
  have ne : ∀ b τ, col b = some τ → τ ≠ .ca → b ≠ C := fun b τ e hτ q => by rw [q, hk.colC] at e; exact hτ (Option.some.inj e).symm
  have hin : n * 24 + 23 < ks.size := (Array.getElem?_eq_some_iff.1 hv).1
  refine ⟨bC, kb R _ h.ltR h.colR (by intro q; cases q), fun b q => kb b _ (own_lt h.ce q) (h.cec b q) (by intro q; cases q), colG col w.heap.size v' (.wr n), ⟨Below.setCell (Below.of_ex h.bel hx (fun b τ e => (h.lt b τ e).1)) (h.lt C _ hk.colC).1 _, fun b τ e => by rw [World.size_setCell]; exact colG_lt (v := v) h hg (fun b q => own_lt ho q) b τ e, by rw [colG_old h.ltR]; exact h.colR, ?_, ?_, ?_, ?_, ?_, .inr ⟨C, cap, _, rfl, ⟨heap_setCell_same X C _ ks _ v' bC, by rw [Array.size_setIfInBounds]; exact hk.size, hk.capm, hk.le, by rw [colG_old ltC]; exact hk.colC, fun k hkc => ?_, fun k c hc j u h23 hu => ?_⟩⟩⟩, ?_⟩
  · rw [oth R (ne R _ h.colR (by intro q; cases q)), kb R _ h.ltR h.colR (by intro q; cases q)]
    exact h.blk
  · exact row_keep h.ce (fun k q => (oth k (ne k _ (h.cec k q) (by intro q; cases q))).trans (kb k _ (own_lt h.ce q) (h.cec k q) (by intro q; cases q)))
  · exact fun b q => by rw [colG_old (own_lt h.ce q)]; exact h.cec b q
  · exact row_keep h.tro (fun k q => (oth k (ne k _ (h.trc k q) (by intro q; cases q))).trans (kb k _ (own_lt h.tro q) (h.trc k q) (by intro q; cases q)))
  · exact fun b q => by rw [colG_old (own_lt h.tro q)]; exact h.trc b q
  · by_cases e : k = n
    · subst e
      have hr := row_keep ho (w' := X.setCell ⟨C, k * 24 + 23, none⟩ v') (fun b q => oth b (fun e => by
        have := own b q
        rw [e, colG_old ltC, hk.colC] at this
        cases this))
      exact ⟨v', by simp [hin], by simpa using hr, own⟩
    · obtain ⟨v1, f1, f2, f3⟩ := hk.slot k hkc
      refine ⟨v1, by rw [Array.getElem?_setIfInBounds_ne (by omega)]; exact f1, ?_, fun b q => by rw [colG_old (own_lt f2 q)]; exact f3 b q⟩
      simp only [e, if_false]
      exact row_keep f2 (fun b q => (oth b (ne b _ (f3 b q) (by intro q; cases q))).trans (kb b _ (own_lt f2 q) (f3 b q) (by intro q; cases q; exact e rfl)))
  · rw [Array.getElem?_setIfInBounds_ne (by omega)]
    exact hk.call k c hc j u h23 hu
  · exact hx.set (Or.inl (by rw [hk.colC]; simp)) _
end
end Go.Proofs.Ytnlgkiejppgfjaa
