/-
  The document's machine (burinref25) in memory: its own block, its cells, its calls, its trace, each in blocks of its own; what stays while the others change: facts on worlds; no conditions but those that each fact bears.
  The document's machine (burinref25): a trap, a call where there is no room: contracts over the program; the conditions: the machine lies there.
-/
import Derived.Test.YtnlgkiejppgfjaaKVmDb
import Derived.Deep.RegionLaw
namespace Go.Proofs.Ytnlgkiejppgfjaa
open Go.RowKit
set_option linter.unusedVariables false

namespace Da
/-- A call of the document's machine: the plain one, its function, where what it called answers to. -/
structure Dc where
  c : Cl
  fn : Int
  d : Int
def Dc.cs (x : Dc) : List Value := .int .i64 (x.c.pl : Int) :: .int .i64 (x.c.ba : Int) :: .int .i64 x.fn :: .int .i64 x.d :: (rowI x.c.rg ++ (rowI x.c.gt ++ rowI x.c.rd))
def rowK : List Dc → List Value
  | [] => []
  | x :: l => x.cs ++ rowK l
abbrev allok (l : List Dc) : Prop := ∀ x ∈ l, x.c.ok
theorem Dc.len {x : Dc} (h : x.c.ok) : x.cs.length = 24 := by
  simp only [Dc.cs, List.length_cons, List.length_append, rowI_len, h.rg, h.gt, h.rd]
theorem rowK_len : ∀ (l : List Dc), allok l → (rowK l).length = l.length * 24
  | [], _ => rfl
  | x :: l, h => by
    rw [rowK, List.length_append, Dc.len (h x (by simp)), rowK_len l (fun y hy => h y (by simp [hy])), List.length_cons]
    omega
theorem rowK_app : ∀ (a b : List Dc), rowK (a ++ b) = rowK a ++ rowK b
  | [], b => rfl
  | x :: a, b => by rw [List.cons_append, rowK, rowK, rowK_app a b, List.append_assoc]
theorem rowK_one (x : Dc) : rowK [x] = x.cs := by simp [rowK]
theorem rowI_one (l : List Int) : ∀ u ∈ rowI l, u.oneCell' = true := fun u hu => by
  obtain ⟨x, -, rfl⟩ := List.mem_map.1 hu
  rfl
theorem Dc.one (x : Dc) : ∀ u ∈ x.cs, u.oneCell' = true := fun u hu => by
  simp only [Dc.cs, List.mem_cons, List.mem_append] at hu
  rcases hu with rfl | rfl | rfl | rfl | hu | hu | hu
  · rfl
  · rfl
  · rfl
  · rfl
  · exact rowI_one _ u hu
  · exact rowI_one _ u hu
  · exact rowI_one _ u hu
theorem Dc.rgAt {x : Dc} (h : x.c.ok) {j : Nat} {y : Int} (hy : x.c.rg[j]? = some y) : x.cs[4 + j]? = some (.int .i64 y) := by
  have := (List.getElem?_eq_some_iff.1 hy).1
  rw [Nat.add_comm]
  simp only [Dc.cs, List.getElem?_cons_succ]
  rw [List.getElem?_append_left (by rw [rowI_len]; omega), rowI_at, hy]; rfl
theorem Dc.gtAt {x : Dc} (h : x.c.ok) {j : Nat} {y : Int} (hy : x.c.gt[j]? = some y) : x.cs[12 + j]? = some (.int .i64 y) := by
  have := (List.getElem?_eq_some_iff.1 hy).1
  have h1 := h.rg
  rw [show 12 + j = (8 + j) + 4 by omega]
  simp only [Dc.cs, List.getElem?_cons_succ]
  rw [List.getElem?_append_right (by rw [rowI_len]; omega), rowI_len, h1, Nat.add_sub_cancel_left, List.getElem?_append_left (by rw [rowI_len]; omega), rowI_at, hy]; rfl
theorem Dc.rdAt {x : Dc} (h : x.c.ok) {j : Nat} {y : Int} (hy : x.c.rd[j]? = some y) : x.cs[18 + j]? = some (.int .i64 y) := by
  have := (List.getElem?_eq_some_iff.1 hy).1
  have h1 := h.rg
  have h2 := h.gt
  rw [show 18 + j = (14 + j) + 4 by omega]
  simp only [Dc.cs, List.getElem?_cons_succ]
  rw [List.getElem?_append_right (by rw [rowI_len]; omega), rowI_len, h1, show 14 + j - 8 = 6 + j by omega, List.getElem?_append_right (by rw [rowI_len]; omega), rowI_len, h2, Nat.add_sub_cancel_left, rowI_at, hy]; rfl
theorem rowI_set (l : List Int) (j : Nat) (y : Int) : rowI (l.set j y) = (rowI l).set j (.int .i64 y) := by simp [rowI, List.map_set]
theorem Dc.setPl (x : Dc) (q : Nat) : ({ x with c := { x.c with pl := q } } : Dc).cs = x.cs.set 0 (.int .i64 (q : Int)) := rfl
theorem Dc.setD (x : Dc) (q : Int) : ({ x with d := q } : Dc).cs = x.cs.set 3 (.int .i64 q) := rfl
theorem Dc.setRg {x : Dc} (h : x.c.ok) {j : Nat} (hj : j < 8) (y : Int) : ({ x with c := { x.c with rg := x.c.rg.set j y } } : Dc).cs = x.cs.set (4 + j) (.int .i64 y) := by
  have h1 := h.rg
  rw [Nat.add_comm]
  simp only [Dc.cs, List.set_cons_succ, rowI_set]
  rw [List.set_append_left _ _ (by rw [rowI_len]; omega)]
theorem Dc.setRd {x : Dc} (h : x.c.ok) {j : Nat} (hj : j < 6) (y : Int) : ({ x with c := { x.c with rd := x.c.rd.set j y } } : Dc).cs = x.cs.set (18 + j) (.int .i64 y) := by
  have h1 := h.rg
  have h2 := h.gt
  have h3 := h.rd
  rw [show 18 + j = (14 + j) + 4 by omega]
  simp only [Dc.cs, List.set_cons_succ, rowI_set]
  rw [List.set_append_right _ _ (by rw [rowI_len]; omega), rowI_len, h1, show 14 + j - 8 = 6 + j by omega, List.set_append_right _ _ (by rw [rowI_len]; omega), rowI_len, h2, Nat.add_sub_cancel_left]

abbrev dmc (im : PIm) (cv kv tv : Value) (hh : Bool) (x t : Int) (sp : Bool) (n : Nat) : Array Value := #[.slice im.wa im.ws.length im.wc, .slice im.sa im.st.length im.sc, .slice im.fa im.fr.length im.fc, .slice im.ea im.da.length im.ec, cv, kv, .bool hh, .int .i64 x, .int .u8 t, .bool sp, .int .i64 (n : Int), tv]

/-- The machine as it lies. -/
structure DX (w w0 : World) (R : Nat) (col : Col) (im : PIm) (mem : List Int) (l : List Dc) (tr : List Int) (hh : Bool) (x t : Int) (sp : Bool) (n : Nat) (cv kv tv : Value) : Prop where
  bel : Below w0.heap.size w0 w
  lt : ∀ b τ, col b = some τ → w0.heap.size ≤ b ∧ b < w.heap.size
  colR : col R = some .rn
  blk : w.heap[R]? = some (.cells (dmc im cv kv tv hh x t sp n) 56 (0, 0))
  mo : w.ownsRow w0.heap.size 2 1 cv mem.length (rowI mem)
  moc : ∀ b, cv.ownBlock = some b → col b = some .me
  ko : w.ownsRow w0.heap.size 61 24 kv l.length (rowK l)
  koc : ∀ b, kv.ownBlock = some b → col b = some .ca
  tro : w.ownsRow w0.heap.size 2 1 tv tr.length (rowI tr)
  trc : ∀ b, tv.ownBlock = some b → col b = some .tr

section
variable {w w' w0 : World} {R : Nat} {col col' : Col} {im : PIm} {mem : List Int} {l : List Dc} {tr : List Int} {hh : Bool} {x t : Int} {sp : Bool} {n : Nat} {cv kv tv : Value}
theorem DX.ltR (h : DX w w0 R col im mem l tr hh x t sp n cv kv tv) : R < w.heap.size := (h.lt R _ h.colR).2
theorem DX.fresh (h : DX w w0 R col im mem l tr hh x t sp n cv kv tv) {b : Nat} (hb : w.heap.size ≤ b) : col b = none := by
  cases e : col b with
  | none => rfl
  | some τ => have := (h.lt b τ e).2; omega
theorem DX.fz (h : DX w w0 R col im mem l tr hh x t sp n cv kv tv) (j : Nat) : w.frozen? ⟨R, j, none⟩ = false := free_of_block h.blk j
theorem DX.c0 (h : DX w w0 R col im mem l tr hh x t sp n cv kv tv) : w.cell? ⟨R, 0, none⟩ = some (.slice im.wa im.ws.length im.wc) ∧ w.cell? ⟨R, 1, none⟩ = some (.slice im.sa im.st.length im.sc) ∧ w.cell? ⟨R, 2, none⟩ = some (.slice im.fa im.fr.length im.fc) ∧ w.cell? ⟨R, 3, none⟩ = some (.slice im.ea im.da.length im.ec) ∧ w.cell? ⟨R, 4, none⟩ = some cv ∧ w.cell? ⟨R, 5, none⟩ = some kv ∧ w.cell? ⟨R, 6, none⟩ = some (.bool hh) ∧ w.cell? ⟨R, 7, none⟩ = some (.int .i64 x) ∧ w.cell? ⟨R, 8, none⟩ = some (.int .u8 t) ∧ w.cell? ⟨R, 9, none⟩ = some (.bool sp) ∧ w.cell? ⟨R, 10, none⟩ = some (.int .i64 (n : Int)) ∧ w.cell? ⟨R, 11, none⟩ = some tv :=
  ⟨cell_of_block h.blk 0, cell_of_block h.blk 1, cell_of_block h.blk 2, cell_of_block h.blk 3, cell_of_block h.blk 4, cell_of_block h.blk 5, cell_of_block h.blk 6, cell_of_block h.blk 7, cell_of_block h.blk 8, cell_of_block h.blk 9, cell_of_block h.blk 10, cell_of_block h.blk 11⟩
theorem DX.keep (h : DX w w0 R col im mem l tr hh x t sp n cv kv tv) (hq : Q w w') : DX w' w0 R col im mem l tr hh x t sp n cv kv tv :=
  ⟨Below.of_ex (col' := col) h.bel (Ex.q hq) (fun b τ e => (h.lt b τ e).1), fun b τ e => ⟨(h.lt b τ e).1, Nat.lt_of_lt_of_le (h.lt b τ e).2 hq.size⟩, h.colR, (hq.block R h.ltR).trans h.blk,
    row_keep h.mo (fun k q => hq.block k (own_lt h.mo q)), h.moc, row_keep h.ko (fun k q => hq.block k (own_lt h.ko q)), h.koc, row_keep h.tro (fun k q => hq.block k (own_lt h.tro q)), h.trc⟩
/-- Another block than any of the machine's is written. -/
theorem DX.other (h : DX w w0 R col im mem l tr hh x t sp n cv kv tv) {p : Addr} (hp : col p.block = none) (hb : w0.heap.size ≤ p.block) (u : Value) : DX (w.setCell p u) w0 R col im mem l tr hh x t sp n cv kv tv := by
  have oth : ∀ b, b ≠ p.block → (w.setCell p u).heap[b]? = w.heap[b]? := fun b hb => heap_setCell_other w p b u hb
  have ne : ∀ b τ, col b = some τ → b ≠ p.block := fun b τ e q => by rw [q, hp] at e; cases e
  exact ⟨Below.setCell h.bel hb u, fun b τ e => by rw [World.size_setCell]; exact h.lt b τ e, h.colR, (oth R (ne R _ h.colR)).trans h.blk,
    row_keep h.mo (fun k q => oth k (ne k _ (h.moc k q))), h.moc, row_keep h.ko (fun k q => oth k (ne k _ (h.koc k q))), h.koc, row_keep h.tro (fun k q => oth k (ne k _ (h.trc k q))), h.trc⟩
/-- The machine's own block is written: its cells are others then. -/
theorem DX.setR (h : DX w w0 R col im mem l tr hh x t sp n cv kv tv) {j : Nat} {u : Value} {mem' : List Int} {l' : List Dc} {hh' : Bool} {x' t' : Int} {sp' : Bool} {n' : Nat} {cv' kv' : Value} (he : (dmc im cv kv tv hh x t sp n).setIfInBounds j u = dmc im cv' kv' tv hh' x' t' sp' n')
    (hm : w.ownsRow w0.heap.size 2 1 cv' mem'.length (rowI mem')) (hmc : ∀ b, cv'.ownBlock = some b → col b = some .me) (hk : w.ownsRow w0.heap.size 61 24 kv' l'.length (rowK l')) (hkc : ∀ b, kv'.ownBlock = some b → col b = some .ca) :
    DX (w.setCell ⟨R, j, none⟩ u) w0 R col im mem' l' tr hh' x' t' sp' n' cv' kv' tv ∧ Ex col w col (w.setCell ⟨R, j, none⟩ u) := by
  have oth : ∀ b, b ≠ R → (w.setCell ⟨R, j, none⟩ u).heap[b]? = w.heap[b]? := fun b hb => heap_setCell_other w _ b u hb
  have ne : ∀ b τ, col b = some τ → τ ≠ .rn → b ≠ R := fun b τ e hτ q => by rw [q, h.colR] at e; exact hτ (Option.some.inj e).symm
  refine ⟨⟨Below.setCell h.bel (h.lt R _ h.colR).1 u, fun b τ e => by rw [World.size_setCell]; exact h.lt b τ e, h.colR, ?_, row_keep hm (fun k q => oth k (ne k _ (hmc k q) (by intro q; cases q))), hmc, row_keep hk (fun k q => oth k (ne k _ (hkc k q) (by intro q; cases q))), hkc, row_keep h.tro (fun k q => oth k (ne k _ (h.trc k q) (by intro q; cases q))), h.trc⟩, (Ex.refl col w).set (Or.inl (by rw [h.colR]; simp)) _⟩
  rw [heap_setCell_same w R j _ _ u h.blk, he]
/-- A number of the outcome is written. -/
theorem DX.setO (h : DX w w0 R col im mem l tr hh x t sp n cv kv tv) {j : Nat} {u : Value} {hh' : Bool} {x' t' : Int} {sp' : Bool} {n' : Nat} (he : (dmc im cv kv tv hh x t sp n).setIfInBounds j u = dmc im cv kv tv hh' x' t' sp' n') :
    DX (w.setCell ⟨R, j, none⟩ u) w0 R col im mem l tr hh' x' t' sp' n' cv kv tv ∧ Ex col w col (w.setCell ⟨R, j, none⟩ u) := h.setR he h.mo h.moc h.ko h.koc
/-- A cell of memory is written. -/
theorem DX.setE {g cap : Nat} (h : DX w w0 R col im mem l tr hh x t sp n (.slice (some ⟨g, 0, none⟩) mem.length cap) kv tv) (i : Nat) (y : Int) :
    DX (w.setCell ⟨g, i, none⟩ (.int .i64 y)) w0 R col im (mem.set i y) l tr hh x t sp n (.slice (some ⟨g, 0, none⟩) (mem.set i y).length cap) kv tv ∧ Ex col w col (w.setCell ⟨g, i, none⟩ (.int .i64 y)) := by
  have hg := h.moc g rfl
  have oth : ∀ b, b ≠ g → (w.setCell ⟨g, i, none⟩ (.int .i64 y)).heap[b]? = w.heap[b]? := fun b hb => heap_setCell_other w _ b _ hb
  have ne : ∀ b τ, col b = some τ → τ ≠ .me → b ≠ g := fun b τ e hτ q => by rw [q, hg] at e; exact hτ (Option.some.inj e).symm
  refine ⟨⟨Below.setCell h.bel (h.lt g _ hg).1 _, fun b τ e => by rw [World.size_setCell]; exact h.lt b τ e, h.colR, ?_, row_set h.mo i y, h.moc, row_keep h.ko (fun k q => oth k (ne k _ (h.koc k q) (by intro q; cases q))), h.koc, row_keep h.tro (fun k q => oth k (ne k _ (h.trc k q) (by intro q; cases q))), h.trc⟩, (Ex.refl col w).set (Or.inl (by rw [hg]; simp)) _⟩
  rw [oth R (ne R _ h.colR (by intro q; cases q)), List.length_set]
  exact h.blk
/-- The calls' block is written. -/
theorem DX.setK {C cap : Nat} {ks' : Array Value} {l' : List Dc} (h : DX w w0 R col im mem l tr hh x t sp n cv (.slice (some ⟨C, 0, none⟩) l.length cap) tv) (hl : l'.length = l.length) (hs : w'.heap.size = w.heap.size) (ho : w'.os = w.os) (ht : w'.tape = w.tape) (hu : w'.output = w.output) (oth : ∀ b, b ≠ C → w'.heap[b]? = w.heap[b]?)
    (hb : w'.heap[C]? = some (.cells ks' 61 (0, 0))) (hsz : ks'.size = cap * 24) (hrow : ks'.toList.take (l'.length * 24) = rowK l') (hok : allok l') :
    DX w' w0 R col im mem l' tr hh x t sp n cv (.slice (some ⟨C, 0, none⟩) l'.length cap) tv ∧ Ex col w col w' := by
  have hC := h.koc C rfl
  have ne : ∀ b τ, col b = some τ → τ ≠ .ca → b ≠ C := fun b τ e hτ q => by rw [q, hC] at e; exact hτ (Option.some.inj e).symm
  have E : Ex col w col w' := ⟨ho, ht, hu, by omega, fun b hb e => oth b (fun q => by rw [q, hC] at e; cases e), fun _ _ => rfl⟩
  obtain ⟨cp, hcp1, hcp2⟩ : ∃ c : Nat, l.length ≤ cap ∧ cap ≤ maxLen := by
    obtain ⟨a, c, e, q1, q2⟩ := own_form h.ko
    injection e with e1 e2 e3
    subst e3
    exact ⟨0, q1, q2⟩
  refine ⟨⟨Below.of_ex h.bel E (fun b τ e => (h.lt b τ e).1), fun b τ e => by rw [hs]; exact h.lt b τ e, h.colR, ?_, row_keep h.mo (fun k q => oth k (ne k _ (h.moc k q) (by intro q; cases q))), h.moc, ⟨rowK_len l' hok, .inr ⟨C, cap, ks', rfl, (h.lt C _ hC).1, hb, by omega, hcp2, hsz, hrow⟩⟩, h.koc, row_keep h.tro (fun k q => oth k (ne k _ (h.trc k q) (by intro q; cases q))), h.trc⟩, E⟩
  rw [oth R (ne R _ h.colR (by intro q; cases q)), hl]
  exact h.blk
/-- Whose blocks are, when a row has grown into v'. -/
theorem dcolG_lt {X : World} {v v' : Value} {τ : Tg} (h : DX w w0 R col im mem l tr hh x t sp n cv kv tv) (hg : w.grownBy X v.ownBlock) (hl : ∀ b, v'.ownBlock = some b → b < X.heap.size) : ∀ b σ, colG col w.heap.size v' τ b = some σ → w0.heap.size ≤ b ∧ b < X.heap.size := fun b σ e => by
  unfold colG at e
  by_cases hb : b < w.heap.size
  · rw [if_pos hb] at e
    have := h.lt b σ e
    have := hg.size
    omega
  · rw [if_neg hb] at e
    by_cases e1 : v'.ownBlock = some b
    · have := hl b e1; have := h.bel.size; omega
    · rw [if_neg e1] at e; cases e
/-- Memory has grown. -/
theorem DX.growE {X : World} {v' : Value} {mem' : List Int} (h : DX w w0 R col im mem l tr hh x t sp n cv kv tv) (hg : w.grownBy X cv.ownBlock) (ho : X.ownsRow w0.heap.size 2 1 v' mem'.length (rowI mem')) (hat : ∃ g, v'.ownBlock = some g ∧ (cv.ownBlock = some g ∨ w.heap.size ≤ g)) :
    X.heap[R]? = some (.cells (dmc im cv kv tv hh x t sp n) 56 (0, 0)) ∧ ∃ col', DX (X.setCell ⟨R, 4, none⟩ v') w0 R col' im mem' l tr hh x t sp n v' kv tv ∧ Ex col w col' (X.setCell ⟨R, 4, none⟩ v') := by
  have hlt : ∀ b, cv.ownBlock = some b → b < w.heap.size := fun b q => own_lt h.mo q
  have hx := ex_grown (v' := v') hg h.moc
  have own := colG_own h.moc hlt hat
  have kb : ∀ b τ, b < w.heap.size → col b = some τ → τ ≠ .me → X.heap[b]? = w.heap[b]? := fun b τ hb e t => hg.block b hb (fun q => by rw [h.moc b q.symm] at e; exact t (Option.some.inj e).symm)
  have b0 : X.heap[R]? = some (.cells (dmc im cv kv tv hh x t sp n) 56 (0, 0)) := (kb R _ h.ltR h.colR (by intro q; cases q)).trans h.blk
  have oth : ∀ b, b ≠ R → (X.setCell ⟨R, 4, none⟩ v').heap[b]? = X.heap[b]? := fun b hb => heap_setCell_other X _ b _ hb
  have ne : ∀ b τ, col b = some τ → τ ≠ .rn → b ≠ R := fun b τ e hτ q => by rw [q, h.colR] at e; exact hτ (Option.some.inj e).symm
  have mine : ∀ k, v'.ownBlock = some k → k ≠ R := fun k q e => by
    have := own k q
    rw [e, colG_old h.ltR, h.colR] at this
    cases this
  refine ⟨b0, colG col w.heap.size v' .me, ⟨Below.setCell (Below.of_ex h.bel hx (fun b τ e => (h.lt b τ e).1)) (h.lt R _ h.colR).1 _, fun b τ e => by rw [World.size_setCell]; exact dcolG_lt (v := cv) h hg (fun b q => own_lt ho q) b τ e, by rw [colG_old h.ltR]; exact h.colR, ?_, row_keep ho (fun k q => oth k (mine k q)), own, row_keep h.ko (fun k q => (oth k (ne k _ (h.koc k q) (by intro q; cases q))).trans (kb k _ (own_lt h.ko q) (h.koc k q) (by intro q; cases q))), fun b q => by rw [colG_old (own_lt h.ko q)]; exact h.koc b q, row_keep h.tro (fun k q => (oth k (ne k _ (h.trc k q) (by intro q; cases q))).trans (kb k _ (own_lt h.tro q) (h.trc k q) (by intro q; cases q))), fun b q => by rw [colG_old (own_lt h.tro q)]; exact h.trc b q⟩, hx.set (Or.inl (by rw [h.colR]; simp)) _⟩
  rw [heap_setCell_same X R 4 _ _ v' b0]
  simp
/-- The list of calls has grown. -/
theorem DX.growK {X : World} {v' : Value} {l' : List Dc} (h : DX w w0 R col im mem l tr hh x t sp n cv kv tv) (hg : w.grownBy X kv.ownBlock) (ho : X.ownsRow w0.heap.size 61 24 v' l'.length (rowK l')) (hat : ∃ g, v'.ownBlock = some g ∧ (kv.ownBlock = some g ∨ w.heap.size ≤ g)) :
    X.heap[R]? = some (.cells (dmc im cv kv tv hh x t sp n) 56 (0, 0)) ∧ ∃ col', DX (X.setCell ⟨R, 5, none⟩ v') w0 R col' im mem l' tr hh x t sp n cv v' tv ∧ Ex col w col' (X.setCell ⟨R, 5, none⟩ v') := by
  have hlt : ∀ b, kv.ownBlock = some b → b < w.heap.size := fun b q => own_lt h.ko q
  have hx := ex_grown (v' := v') hg h.koc
  have own := colG_own h.koc hlt hat
  have kb : ∀ b τ, b < w.heap.size → col b = some τ → τ ≠ .ca → X.heap[b]? = w.heap[b]? := fun b τ hb e t => hg.block b hb (fun q => by rw [h.koc b q.symm] at e; exact t (Option.some.inj e).symm)
  have b0 : X.heap[R]? = some (.cells (dmc im cv kv tv hh x t sp n) 56 (0, 0)) := (kb R _ h.ltR h.colR (by intro q; cases q)).trans h.blk
  have oth : ∀ b, b ≠ R → (X.setCell ⟨R, 5, none⟩ v').heap[b]? = X.heap[b]? := fun b hb => heap_setCell_other X _ b _ hb
  have ne : ∀ b τ, col b = some τ → τ ≠ .rn → b ≠ R := fun b τ e hτ q => by rw [q, h.colR] at e; exact hτ (Option.some.inj e).symm
  have mine : ∀ k, v'.ownBlock = some k → k ≠ R := fun k q e => by
    have := own k q
    rw [e, colG_old h.ltR, h.colR] at this
    cases this
  refine ⟨b0, colG col w.heap.size v' .ca, ⟨Below.setCell (Below.of_ex h.bel hx (fun b τ e => (h.lt b τ e).1)) (h.lt R _ h.colR).1 _, fun b τ e => by rw [World.size_setCell]; exact dcolG_lt (v := kv) h hg (fun b q => own_lt ho q) b τ e, by rw [colG_old h.ltR]; exact h.colR, ?_, row_keep h.mo (fun k q => (oth k (ne k _ (h.moc k q) (by intro q; cases q))).trans (kb k _ (own_lt h.mo q) (h.moc k q) (by intro q; cases q))), fun b q => by rw [colG_old (own_lt h.mo q)]; exact h.moc b q, row_keep ho (fun k q => oth k (mine k q)), own, row_keep h.tro (fun k q => (oth k (ne k _ (h.trc k q) (by intro q; cases q))).trans (kb k _ (own_lt h.tro q) (h.trc k q) (by intro q; cases q))), fun b q => by rw [colG_old (own_lt h.tro q)]; exact h.trc b q⟩, hx.set (Or.inl (by rw [h.colR]; simp)) _⟩
  rw [heap_setCell_same X R 5 _ _ v' b0]
  simp
/-- The trace has grown. -/
theorem DX.growT {X : World} {v' : Value} {tr' : List Int} (h : DX w w0 R col im mem l tr hh x t sp n cv kv tv) (hg : w.grownBy X tv.ownBlock) (ho : X.ownsRow w0.heap.size 2 1 v' tr'.length (rowI tr')) (hat : ∃ g, v'.ownBlock = some g ∧ (tv.ownBlock = some g ∨ w.heap.size ≤ g)) :
    X.heap[R]? = some (.cells (dmc im cv kv tv hh x t sp n) 56 (0, 0)) ∧ ∃ col', DX (X.setCell ⟨R, 11, none⟩ v') w0 R col' im mem l tr' hh x t sp n cv kv v' ∧ Ex col w col' (X.setCell ⟨R, 11, none⟩ v') := by
  have hlt : ∀ b, tv.ownBlock = some b → b < w.heap.size := fun b q => own_lt h.tro q
  have hx := ex_grown (v' := v') hg h.trc
  have own := colG_own h.trc hlt hat
  have kb : ∀ b τ, b < w.heap.size → col b = some τ → τ ≠ .tr → X.heap[b]? = w.heap[b]? := fun b τ hb e t => hg.block b hb (fun q => by rw [h.trc b q.symm] at e; exact t (Option.some.inj e).symm)
  have b0 : X.heap[R]? = some (.cells (dmc im cv kv tv hh x t sp n) 56 (0, 0)) := (kb R _ h.ltR h.colR (by intro q; cases q)).trans h.blk
  have oth : ∀ b, b ≠ R → (X.setCell ⟨R, 11, none⟩ v').heap[b]? = X.heap[b]? := fun b hb => heap_setCell_other X _ b _ hb
  have ne : ∀ b τ, col b = some τ → τ ≠ .rn → b ≠ R := fun b τ e hτ q => by rw [q, h.colR] at e; exact hτ (Option.some.inj e).symm
  have mine : ∀ k, v'.ownBlock = some k → k ≠ R := fun k q e => by
    have := own k q
    rw [e, colG_old h.ltR, h.colR] at this
    cases this
  refine ⟨b0, colG col w.heap.size v' .tr, ⟨Below.setCell (Below.of_ex h.bel hx (fun b τ e => (h.lt b τ e).1)) (h.lt R _ h.colR).1 _, fun b τ e => by rw [World.size_setCell]; exact dcolG_lt (v := tv) h hg (fun b q => own_lt ho q) b τ e, by rw [colG_old h.ltR]; exact h.colR, ?_, row_keep h.mo (fun k q => (oth k (ne k _ (h.moc k q) (by intro q; cases q))).trans (kb k _ (own_lt h.mo q) (h.moc k q) (by intro q; cases q))), fun b q => by rw [colG_old (own_lt h.mo q)]; exact h.moc b q, row_keep h.ko (fun k q => (oth k (ne k _ (h.koc k q) (by intro q; cases q))).trans (kb k _ (own_lt h.ko q) (h.koc k q) (by intro q; cases q))), fun b q => by rw [colG_old (own_lt h.ko q)]; exact h.koc b q, row_keep ho (fun k q => oth k (mine k q)), own⟩, hx.set (Or.inl (by rw [h.colR]; simp)) _⟩
  rw [heap_setCell_same X R 11 _ _ v' b0]
  simp
end
end Da
end Go.Proofs.Ytnlgkiejppgfjaa

namespace Go.Proofs.Ytnlgkiejppgfjaa
open Go.RowKit
set_option linter.unusedVariables false

namespace Da
section
variable {w w' w0 : World} {R : Nat} {col col' : Col} {im : PIm} {mem : List Int} {l : List Dc} {tr : List Int} {hh : Bool} {x t : Int} {sp : Bool} {n : Nat} {cv kv tv : Value}
theorem trap_any (h : DX w w0 R col im mem l tr hh x t sp n cv kv tv) (q : Int) (h0 : 0 ≤ q) (h1 : q ≤ 255) :
    Calls Try.prog 31 #[.pointer (some ⟨R, 0, none⟩), .int .i64 q] w fun e w' => e = .returned (.tuple #[]) ∧ DX w' w0 R col im mem l tr hh x q sp n cv kv tv ∧ Ex col w col w' := by
  have c8 := h.c0.2.2.2.2.2.2.2.2.1
  have f8 := h.fz 8
  have z1 : IntKind.u8.wrap q = q := by simp [IntKind.wrap, IntKind.bits, IntKind.signed]; omega
  have HX := hideIt (h.setO (j := 8) (u := .int .u8 q) (hh' := hh) (x' := x) (t' := q) (sp' := sp) (n' := n) (by simp))
  clear h
  go_enter Try.func31, Try.ntmps31
  go_wp2_with (fail)
  go_end0
  exact ⟨rfl, HX.out⟩

abbrev rdOf (x : Dc) (r0 r1 r2 r3 r4 r5 : Int) : Prop := x.c.rd = [r0, r1, r2, r3, r4, r5]
theorem six_of {l : List Int} (h : l.length = 6) : ∃ r0 r1 r2 r3 r4 r5, l = [r0, r1, r2, r3, r4, r5] := by
  match l, h with
  | [a, b, c, d, e, f], _ => exact ⟨a, b, c, d, e, f, rfl⟩

set_option maxRecDepth 100000 in
set_option maxHeartbeats 2000000 in
theorem call_tight (h : DX w w0 R col im mem l tr hh x t sp n cv kv tv) (hok : im.ok w0) (hml : mem.length ≤ 65536) (k f : Nat) (hf : im.fr[k]? = some (f : Int)) (y : Dc) (hb : 65536 - (mem.length : Int) < (f : Int)) :
    Calls Try.prog 18 #[.pointer (some ⟨R, 0, none⟩), .int .i64 (k : Int), .agg y.cs.toArray] w fun e w' => e = .returned (.tuple #[]) ∧ DX w' w0 R col im mem l tr hh x 5 sp n cv kv tv ∧ Ex col w col w' := by
  generalize y.cs.toArray = A
  have hq : Q w (w.alloc (.cells A 61)) := (Q.refl w).alloc _
  have h' := h.keep hq
  have qq : Q w0 (w.alloc (.cells A 61)) := h'.bel
  obtain ⟨-, -, c2, -, c4, c5, -⟩ := h'.c0
  obtain ⟨fb, fo, ef, hc⟩ := Ints.at (hok.keep qq).fr hf
  rw [ef] at c2
  have hkl := (List.getElem?_eq_some_iff.1 hf).1
  have hfl := hok.fsok.len
  have hi : (k : Int) < (im.fr.length : Int) := by omega
  obtain ⟨ca, cc, ecv, hcc, -⟩ := own_form h.mo
  rw [ecv] at c4
  have z1 : IntKind.i64.wrap (65536 - (mem.length : Int)) = 65536 - (mem.length : Int) := by rw [IntKind.wrap_i64]; omega
  have hd : decide (65536 - (mem.length : Int) < (f : Int)) = true := by simpa using hb
  have CT := hideIt (trap_any h' 5 (by omega) (by omega))
  have HE := hideIt (show Ex col w col (w.alloc (.cells A 61)) from Ex.q hq)
  clear h h' qq hq hok hf
  go_enter Try.func18, Try.ntmps18
  go_wp2_with (first | (go_at_call 31; refine CT.out.mono ?_; rintro e w1 ⟨rfl, q1⟩; have HQ1 := hideIt q1; clear q1) | fail)
  refine bodyPost_ret (v := .tuple #[]) (results_none rfl _ _ _) rfl ?_
  exact ⟨rfl, HQ1.out.1, HE.out.trans HQ1.out.2⟩
set_option maxRecDepth 100000 in
set_option maxHeartbeats 2000000 in
theorem call_deep (h : DX w w0 R col im mem l tr hh x t sp n cv kv tv) (hok : im.ok w0) (hml : mem.length ≤ 65536) (k f : Nat) (hf : im.fr[k]? = some (f : Int)) (y : Dc) (hb : ¬ 65536 - (mem.length : Int) < (f : Int)) (hl : 2000 ≤ l.length) :
    Calls Try.prog 18 #[.pointer (some ⟨R, 0, none⟩), .int .i64 (k : Int), .agg y.cs.toArray] w fun e w' => e = .returned (.tuple #[]) ∧ DX w' w0 R col im mem l tr hh x 5 sp n cv kv tv ∧ Ex col w col w' := by
  generalize y.cs.toArray = A
  have hq : Q w (w.alloc (.cells A 61)) := (Q.refl w).alloc _
  have h' := h.keep hq
  have qq : Q w0 (w.alloc (.cells A 61)) := h'.bel
  obtain ⟨-, -, c2, -, c4, c5, -⟩ := h'.c0
  obtain ⟨fb, fo, ef, hc⟩ := Ints.at (hok.keep qq).fr hf
  rw [ef] at c2
  have hkl := (List.getElem?_eq_some_iff.1 hf).1
  have hfl := hok.fsok.len
  have hi : (k : Int) < (im.fr.length : Int) := by omega
  obtain ⟨ca, cc, ecv, hcc, -⟩ := own_form h.mo
  rw [ecv] at c4
  obtain ⟨ka, kc, ekv, -, -⟩ := own_form h.ko
  rw [ekv] at c5
  have z1 : IntKind.i64.wrap (65536 - (mem.length : Int)) = 65536 - (mem.length : Int) := by rw [IntKind.wrap_i64]; omega
  have hd : decide (65536 - (mem.length : Int) < (f : Int)) = false := by simpa using hb
  have hd2 : decide (2000 ≤ (l.length : Int)) = true := by simp; omega
  have CT := hideIt (trap_any h' 5 (by omega) (by omega))
  have HE := hideIt (show Ex col w col (w.alloc (.cells A 61)) from Ex.q hq)
  clear h h' qq hq hok hf hl
  go_enter Try.func18, Try.ntmps18
  go_wp2_with (first | (go_at_call 31; refine CT.out.mono ?_; rintro e w1 ⟨rfl, q1⟩; have HQ1 := hideIt q1; clear q1) | fail)
  refine bodyPost_ret (v := .tuple #[]) (results_none rfl _ _ _) rfl ?_
  exact ⟨rfl, HQ1.out.1, HE.out.trans HQ1.out.2⟩
end
end Da
end Go.Proofs.Ytnlgkiejppgfjaa
