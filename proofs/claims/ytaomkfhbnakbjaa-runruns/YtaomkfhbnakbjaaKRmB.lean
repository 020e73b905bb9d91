/-
  What the code between does is told in PmA; here it meets the program's texts: nothing of its own.
  A run of code in memory: the runner, the trace, the arguments, memory, each function's registers, each in blocks of its own; what stays of them while the others change: facts on worlds; no conditions but those that each fact bears.
-/
import Derived.Test.YtaomkfhbnakbjaaKRnL
import Derived.Test.YtaomkfhbnakbjaaKNuPlainE
import Derived.Test.YtaomkfhbnakbjaaKNuBaseE
import Derived.Test.YtaomkfhbnakbjaaKMeK
import Derived.Test.YtaomkfhbnakbjaaKPmA
namespace Go.Proofs.Ytaomkfhbnakbjaa
open Go.RowKit

end Go.Proofs.Ytaomkfhbnakbjaa

namespace Go.Proofs.Ytaomkfhbnakbjaa
open Go.RowKit
set_option linter.unusedVariables false

/-- Whose a block is. -/
inductive Tg where
  | rn | tr | ar | me | rg
  | hd (k : Nat)
  | wr (k : Nat)
abbrev Col := Nat → Option Tg
abbrev GG := Nat → List Int × List Int

/-- All blocks that were there and are nobody's are as they were. -/
structure Ex (col : Col) (w : World) (col' : Col) (w' : World) : Prop where
  os : w'.os = w.os
  tape : w'.tape = w.tape
  output : w'.output = w.output
  size : w.heap.size ≤ w'.heap.size
  block : ∀ k, k < w.heap.size → col k = none → w'.heap[k]? = w.heap[k]?
  col : ∀ k, k < w.heap.size → col' k = col k
theorem Ex.refl (col : Col) (w : World) : Ex col w col w := ⟨rfl, rfl, rfl, Nat.le_refl _, fun _ _ _ => rfl, fun _ _ => rfl⟩
theorem Ex.trans {c0 c1 c2 : Col} {a b c : World} (h : Ex c0 a c1 b) (k : Ex c1 b c2 c) : Ex c0 a c2 c :=
  ⟨k.os.trans h.os, k.tape.trans h.tape, k.output.trans h.output, Nat.le_trans h.size k.size,
    fun j hj hn => (k.block j (Nat.lt_of_lt_of_le hj h.size) (by rw [h.col j hj]; exact hn)).trans (h.block j hj hn), fun j hj => (k.col j (Nat.lt_of_lt_of_le hj h.size)).trans (h.col j hj)⟩
theorem Ex.drew {c0 c1 : Col} {a b : World} (h : Ex c0 a c1 b) (m : Nat) : Ex c0 a c1 (b.drewN m) := ⟨h.os, h.tape, h.output, h.size, h.block, h.col⟩
theorem Ex.alloc {c0 c1 : Col} {a b : World} (h : Ex c0 a c1 b) (o : Obj) : Ex c0 a c1 (b.alloc o) :=
  ⟨h.os, h.tape, h.output, by have := h.size; simp; omega, fun j hj hn => (Below.heap_alloc b o j (Nat.lt_of_lt_of_le hj h.size)).trans (h.block j hj hn), h.col⟩
theorem Ex.set {c0 c1 : Col} {a b : World} (h : Ex c0 a c1 b) {p : Addr} (hp : c0 p.block ≠ none ∨ a.heap.size ≤ p.block) (u : Value) : Ex c0 a c1 (b.setCell p u) :=
  ⟨h.os, h.tape, h.output, by have := h.size; simpa using this, fun j hj hn => (Below.heap_setCell b p u j (fun e => by subst e; exact hp.elim (fun q => q hn) (fun g => by omega))).trans (h.block j hj hn), h.col⟩
theorem Ex.q {c0 : Col} {a b : World} (h : Q a b) : Ex c0 a c0 b := ⟨h.os, h.tape, h.output, h.size, fun j hj _ => h.block j hj, fun _ _ => rfl⟩
theorem Ex.cell {c0 c1 : Col} {a b : World} (h : Ex c0 a c1 b) {k j : Nat} (hc : c0 k = none) {u : Value} (hu : a.cell? ⟨k, j, none⟩ = some u) : b.cell? ⟨k, j, none⟩ = some u := by
  have hk : k < a.heap.size := World.block_lt_of_cell? a _ hu
  rw [← hu]
  simp only [World.cell?]
  rw [h.block k hk hc]

/-- The runner, the trace and the arguments. -/
def RunOk (w : World) (B R p gb : Nat) (gc : Nat) (col : Col) (c : PC) (fuel n : Nat) (tr A : List Int) : Prop :=
  ∃ tv av, w.heap[R]? = some (.cells #[.slice c.ga c.gl.length c.gc, .slice c.na c.ini.length c.nc, .slice c.fa c.fns.length c.fc, .int .i64 (fuel : Int), .int .i64 (n : Int), tv, .pointer (some ⟨p, 0, none⟩), .slice (some ⟨gb, 0, none⟩) c.fns.length gc, av] 65 (0, 0)) ∧
    w.ownsRow B 2 1 tv tr.length (rowI tr) ∧ w.ownsRow B 2 1 av A.length (rowI A) ∧ (∀ b, tv.ownBlock = some b → col b = some .tr) ∧ (∀ b, av.ownBlock = some b → col b = some .ar)
def MemOk (w : World) (B p : Nat) (col : Col) (n : Nat) (bs : List Nat) (f : Int → Int → Int) : Prop :=
  ∃ bl m, (∀ b, bl b → col b = some .me) ∧ m ≤ n + 70000 ∧ Me.MI w B bl p m bs f ((bs.sum : Nat) : Int)
def RegOk (w : World) (B gb : Nat) (col : Col) (nf : Nat) (G : GG) : Prop :=
  ∃ cs : Array Value, w.heap[gb]? = some (.cells cs 133 (0, 0)) ∧ ∀ k, k < nf → ∃ hv wv, cs[k * 2]? = some hv ∧ cs[k * 2 + 1]? = some wv ∧ w.ownsRow B 2 1 hv (G k).1.length (rowI (G k).1) ∧ w.ownsRow B 3 1 wv (G k).2.length (rowI (G k).2) ∧
    (∀ b, hv.ownBlock = some b → col b = some (.hd k)) ∧ (∀ b, wv.ownBlock = some b → col b = some (.wr k))

/-- A run in memory. -/
structure RI (w w0 : World) (R p gb gc : Nat) (col : Col) (c : PC) (fuel : Nat) (s : St) (A : List Int) (G : GG) : Prop where
  bel : Below w0.heap.size w0 w
  lt : ∀ b τ, col b = some τ → w0.heap.size ≤ b ∧ b < w.heap.size
  colR : col R = some .rn
  colg : col gb = some .rg
  run : RunOk w w0.heap.size R p gb gc col c fuel s.n s.tr A
  mem : MemOk w w0.heap.size p col s.n s.bs s.f
  regs : RegOk w w0.heap.size gb col c.fns.length G
  sum : s.bs.sum ≤ 65536
  one : ∀ x ∈ s.bs, 1 ≤ x
  nle : s.n ≤ fuel
  trl : s.tr.length ≤ s.n
  gw : ∀ k, k < c.fns.length → (G k).1.length ≤ 20000 ∧ (∀ m ∈ (G k).2, ∃ n : Nat, m = (n : Int) ∧ n < (G k).1.length) ∧ (G k).2.length ≤ s.n
  al : A.length ≤ 20000

theorem RunOk.keep {w w' : World} {B R p gb gc : Nat} {col col' : Col} {c : PC} {fuel n : Nat} {tr A : List Int} (h : RunOk w B R p gb gc col c fuel n tr A) (hR : w'.heap[R]? = w.heap[R]?) (hk : ∀ b, b < w.heap.size → (col b = some .tr ∨ col b = some .ar) → w'.heap[b]? = w.heap[b]?) (hc : ∀ b, b < w.heap.size → col' b = col b) : RunOk w' B R p gb gc col' c fuel n tr A := by
  obtain ⟨tv, av, h1, h2, h3, h4, h5⟩ := h
  exact ⟨tv, av, by rw [hR]; exact h1, row_keep h2 (fun k q => hk k (own_lt h2 q) (Or.inl (h4 k q))), row_keep h3 (fun k q => hk k (own_lt h3 q) (Or.inr (h5 k q))), fun b q => by rw [hc b (own_lt h2 q)]; exact h4 b q, fun b q => by rw [hc b (own_lt h3 q)]; exact h5 b q⟩
theorem MemOk.keep {w w' : World} {B p : Nat} {col col' : Col} {n n' : Nat} {bs : List Nat} {f : Int → Int → Int} (h : MemOk w B p col n bs f) (hn : n ≤ n') (hk : ∀ b, b < w.heap.size → col b = some .me → w'.heap[b]? = w.heap[b]?) (hs : w.heap.size ≤ w'.heap.size) (hc : ∀ b, b < w.heap.size → col' b = col b) : MemOk w' B p col' n' bs f := by
  obtain ⟨bl, m, h1, h2, h3⟩ := h
  exact ⟨bl, m, fun b q => by rw [hc b (h3.rng q).2]; exact h1 b q, by omega, h3.kept (fun k q => hk k (h3.rng q).2 (h1 k q)) hs⟩
theorem RegOk.keep {w w' : World} {B gb : Nat} {col col' : Col} {nf : Nat} {G : GG} (h : RegOk w B gb col nf G) (hg : w'.heap[gb]? = w.heap[gb]?) (hk : ∀ b k, b < w.heap.size → (col b = some (.hd k) ∨ col b = some (.wr k)) → w'.heap[b]? = w.heap[b]?) (hc : ∀ b, b < w.heap.size → col' b = col b) : RegOk w' B gb col' nf G := by
  obtain ⟨cs, h1, h2⟩ := h
  refine ⟨cs, by rw [hg]; exact h1, fun k hkl => ?_⟩
  obtain ⟨hv, wv, e1, e2, e3, e4, e5, e6⟩ := h2 k hkl
  exact ⟨hv, wv, e1, e2, row_keep e3 (fun b q => hk b k (own_lt e3 q) (Or.inl (e5 b q))), row_keep e4 (fun b q => hk b k (own_lt e4 q) (Or.inr (e6 b q))), fun b q => by rw [hc b (own_lt e3 q)]; exact e5 b q, fun b q => by rw [hc b (own_lt e4 q)]; exact e6 b q⟩

theorem RI.ltR {w w0 : World} {R p gb gc : Nat} {col : Col} {c : PC} {fuel : Nat} {s : St} {A : List Int} {G : GG} (h : RI w w0 R p gb gc col c fuel s A G) : R < w.heap.size := (h.lt R _ h.colR).2
theorem RI.ltg {w w0 : World} {R p gb gc : Nat} {col : Col} {c : PC} {fuel : Nat} {s : St} {A : List Int} {G : GG} (h : RI w w0 R p gb gc col c fuel s A G) : gb < w.heap.size := (h.lt gb _ h.colg).2

/-- Nothing of the run's own is changed. -/
theorem RI.keep {w w' w0 : World} {R p gb gc : Nat} {col : Col} {c : PC} {fuel : Nat} {s : St} {A : List Int} {G : GG} (h : RI w w0 R p gb gc col c fuel s A G) (hq : Q w w') : RI w' w0 R p gb gc col c fuel s A G :=
  ⟨⟨hq.os.trans h.bel.os, hq.tape.trans h.bel.tape, hq.output.trans h.bel.output, Nat.le_trans h.bel.size hq.size, fun k hk => (hq.block k (Nat.lt_of_lt_of_le hk h.bel.size)).trans (h.bel.block k hk)⟩,
    fun b τ e => ⟨(h.lt b τ e).1, Nat.lt_of_lt_of_le (h.lt b τ e).2 hq.size⟩, h.colR, h.colg, h.run.keep (hq.block R h.ltR) (fun b hb _ => hq.block b hb) (fun _ _ => rfl), h.mem.keep (Nat.le_refl _) (fun b hb _ => hq.block b hb) hq.size (fun _ _ => rfl), h.regs.keep (hq.block gb h.ltg) (fun b _ hb _ => hq.block b hb) (fun _ _ => rfl), h.sum, h.one, h.nle, h.trl, h.gw, h.al⟩
theorem below_set {w0 w : World} (h : Below w0.heap.size w0 w) {p : Addr} (hp : w0.heap.size ≤ p.block) (u : Value) : Below w0.heap.size w0 (w.setCell p u) := Below.setCell h hp u

/-- A step is counted. -/
theorem RI.step {w w0 : World} {R p gb gc : Nat} {col : Col} {c : PC} {fuel : Nat} {s : St} {A : List Int} {G : GG} (h : RI w w0 R p gb gc col c fuel s A G) (hn : ¬ s.n = fuel) (m : Nat) :
    RI ((w.setCell ⟨R, 4, none⟩ (.int .i64 ((s.n : Int) + 1))).drewN m) w0 R p gb gc col c fuel s.up A G ∧ Ex col w col ((w.setCell ⟨R, 4, none⟩ (.int .i64 ((s.n : Int) + 1))).drewN m) := by
  have oth : ∀ b, b ≠ R → ((w.setCell ⟨R, 4, none⟩ (.int .i64 ((s.n : Int) + 1))).drewN m).heap[b]? = w.heap[b]? := fun b hb => Below.heap_setCell w _ _ _ hb
  have hsz : ((w.setCell ⟨R, 4, none⟩ (.int .i64 ((s.n : Int) + 1))).drewN m).heap.size = w.heap.size := by show (w.setCell _ _).heap.size = _; simp
  have ne : ∀ b τ, col b = some τ → τ ≠ .rn → b ≠ R := fun b τ e hτ q => by rw [q, h.colR] at e; exact hτ (Option.some.inj e).symm
  have hb0 := below_set h.bel (p := ⟨R, 4, none⟩) (h.lt R _ h.colR).1 (.int .i64 ((s.n : Int) + 1))
  have hnl := h.nle
  refine ⟨⟨⟨hb0.os, hb0.tape, hb0.output, hb0.size, hb0.block⟩, fun b τ e => by rw [hsz]; exact h.lt b τ e, h.colR, h.colg, ?_, h.mem.keep (Nat.le_succ _) (fun b _ e => oth b (ne b _ e (by intro q; cases q))) (by rw [hsz]; exact Nat.le_refl _) (fun _ _ => rfl), h.regs.keep (oth gb (ne gb _ h.colg (by intro q; cases q))) (fun b k _ e => oth b (e.elim (fun e => ne b _ e (by intro q; cases q)) (fun e => ne b _ e (by intro q; cases q)))) (fun _ _ => rfl), h.sum, h.one, by show s.n + 1 ≤ fuel; omega, by show s.tr.length ≤ s.n + 1; have := h.trl; omega, fun k hk => ?_, h.al⟩, ((Ex.refl col w).set (Or.inl (by rw [h.colR]; simp)) _).drew m⟩
  · obtain ⟨tv, av, h1, h2, h3, h4, h5⟩ := h.run
    refine ⟨tv, av, ?_, row_keep h2 (fun k q => oth k (ne k _ (h4 k q) (by intro q; cases q))), row_keep h3 (fun k q => oth k (ne k _ (h5 k q) (by intro q; cases q))), h4, h5⟩
    have := heap_setCell_same w R 4 _ _ (.int .i64 ((s.n : Int) + 1)) h1
    refine this.trans ?_
    simp [St.up]
  · obtain ⟨a, b, d⟩ := h.gw k hk
    exact ⟨a, b, by show _ ≤ s.n + 1; omega⟩

end Go.Proofs.Ytaomkfhbnakbjaa
