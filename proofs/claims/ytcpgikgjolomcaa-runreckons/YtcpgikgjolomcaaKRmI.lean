/-
  A run of code: functions that aren't open, one that is; what an instruction, a call leave: facts on worlds; no conditions but those that each fact bears.
-/
import Derived.Test.YtcpgikgjolomcaaKRmH
namespace Go.Proofs.Ytcpgikgjolomcaa
open Go.RowKit
set_option linter.unusedVariables false

/-- A function that isn't open: its registers are 0, but the parameters. -/
def idle (f : PF) (g : List Int × List Int) : Prop := g.2 = [] ∧ ∀ n : Nat, f.params ≤ (n : Int) → regAt g.1 n = 0
/-- One that is: its registers are ρ, and those that aren't 0 are remembered, but the parameters. -/
def opn (f : PF) (ρ : Rg) (g : List Int × List Int) : Prop := (∀ n, regAt g.1 n = ρ n) ∧ ∀ n : Nat, f.params ≤ (n : Int) → ρ n ≠ 0 → (n : Int) ∈ g.2
def idles (c : PC) (k : Nat) (G : GG) : Prop := ∀ j f, j < k → c.fns[j]? = some f → idle f (G j)

/-- How an instruction ends. -/
def InsPost (w w0 : World) (R p gb gc : Nat) (col : Col) (c : PC) (fuel : Nat) (s : St) (G : GG) (k : Nat) (f : PF) (r : Rs Rg) (e : Ending) (w' : World) : Prop :=
  match r with
  | .ok ρ' s' => e = .returned (.agg #[.int .u8 0, .bool false]) ∧ ∃ col' A' G', RI w' w0 R p gb gc col' c fuel s' A' G' ∧ Ex col w col' w' ∧ opn f ρ' (G' k) ∧ idles c k G' ∧ (∀ j, k < j → G' j = G j) ∧ s'.bs.length = s.bs.length
  | .over t sp s' => e = .returned (.agg #[.int .u8 t, .bool sp]) ∧ (t ≠ 0 ∨ sp = true) ∧ ∃ col' A' G' s'', RI w' w0 R p gb gc col' c fuel s'' A' G' ∧ Ex col w col' w' ∧ (∀ j, k < j → G' j = G j) ∧ s''.n = s'.n ∧ s''.tr = s'.tr ∧ s.bs.length ≤ s''.bs.length
/-- How a call ends. -/
def CallPost (w w0 : World) (R p gb gc : Nat) (col : Col) (c : PC) (fuel : Nat) (s : St) (G : GG) (k : Nat) (r : Rs Int) (e : Ending) (w' : World) : Prop :=
  match r with
  | .ok v s' => e = .returned (.tuple #[.int .i64 v, .agg #[.int .u8 0, .bool false]]) ∧ ∃ col' A' G', RI w' w0 R p gb gc col' c fuel s' A' G' ∧ Ex col w col' w' ∧ idles c (k + 1) G' ∧ (∀ j, k < j → G' j = G j) ∧ s'.bs.length = s.bs.length
  | .over t sp s' => e = .returned (.tuple #[.int .i64 0, .agg #[.int .u8 t, .bool sp]]) ∧ (t ≠ 0 ∨ sp = true) ∧ ∃ col' A' G' s'', RI w' w0 R p gb gc col' c fuel s'' A' G' ∧ Ex col w col' w' ∧ (∀ j, k < j → G' j = G j) ∧ s''.n = s'.n ∧ s''.tr = s'.tr ∧ s.bs.length ≤ s''.bs.length

theorem Ex.blk {c0 c1 : Col} {a b : World} (h : Ex c0 a c1 b) {k : Nat} (hc : c0 k = none) {o : Obj} (hu : a.heap[k]? = some o) : b.heap[k]? = some o :=
  (h.block k (Array.getElem?_eq_some_iff.1 hu).1 hc).trans hu
theorem RI.none {w w0 : World} {R p gb gc : Nat} {col : Col} {c : PC} {fuel : Nat} {s : St} {A : List Int} {G : GG} (h : RI w w0 R p gb gc col c fuel s A G) {b : Nat} (hb : w.heap.size ≤ b) : col b = none := by
  cases e : col b with
  | none => rfl
  | some τ => have := (h.lt b τ e).2; omega
/-- A block that is nobody's is written. -/
theorem RI.other {w w0 : World} {R p gb gc : Nat} {col : Col} {c : PC} {fuel : Nat} {s : St} {A : List Int} {G : GG} (h : RI w w0 R p gb gc col c fuel s A G) {b : Nat} (hc : col b = Option.none) (hB : w0.heap.size ≤ b) (j : Nat) (u : Value) : RI (w.setCell ⟨b, j, Option.none⟩ u) w0 R p gb gc col c fuel s A G := by
  have oth : ∀ q τ, col q = some τ → (w.setCell ⟨b, j, Option.none⟩ u).heap[q]? = w.heap[q]? := fun q τ e => Below.heap_setCell _ _ _ _ (fun x => by rw [x, hc] at e; cases e)
  exact ⟨below_set h.bel hB u, fun q τ e => by simpa using h.lt q τ e, h.colR, h.colg, h.run.keep (oth R _ h.colR) (fun q _ e => e.elim (oth q _) (oth q _)) (fun _ _ => rfl), h.mem.keep (Nat.le_refl _) (fun q _ e => oth q _ e) (by simp) (fun _ _ => rfl), h.regs.keep (oth gb _ h.colg) (fun q k _ e => e.elim (oth q _) (oth q _)) (fun _ _ => rfl), h.sum, h.one, h.nle, h.trl, h.gw, h.al⟩
theorem RI.alloc {w w0 : World} {R p gb gc : Nat} {col : Col} {c : PC} {fuel : Nat} {s : St} {A : List Int} {G : GG} (h : RI w w0 R p gb gc col c fuel s A G) (o : Obj) : RI (w.alloc o) w0 R p gb gc col c fuel s A G := h.keep ((Q.refl w).alloc o)
theorem RI.lew {w w0 : World} {R p gb gc : Nat} {col : Col} {c : PC} {fuel : Nat} {s : St} {A : List Int} {G : GG} (h : RI w w0 R p gb gc col c fuel s A G) : w0.heap.size ≤ w.heap.size := h.bel.size

/-- The instruction's cells, in a later world. -/
theorem At.low {w0 w : World} {b o : Nat} {cs : List Value} (h : At w0 b o cs) (hb : Below w0.heap.size w0 w) : At w b o cs := fun j hj => by
  have hj' := h j hj
  obtain ⟨u, hu⟩ : ∃ u, cs[j]? = some u := ⟨cs[j], List.getElem?_eq_getElem hj⟩
  rw [hu] at hj' ⊢
  exact (hb.cell (p := ⟨b, o + j, none⟩) (World.block_lt_of_cell? w0 _ hj')).trans hj'

theorem opn_set {f : PF} {ρ : Rg} {g : List Int × List Int} (h : opn f ρ g) {H' W' : List Int} {n : Nat} {x : Int} (h1 : ∀ m, regAt H' m = if m = n then x else regAt g.1 m) (h2 : ∀ m ∈ g.2, m ∈ W') (h3 : ∀ m, regAt H' m ≠ 0 → regAt g.1 m ≠ 0 ∨ (m : Int) ∈ W') : opn f (setR ρ n x) (H', W') := by
  have h4 : ∀ m, regAt H' m = setR ρ n x m := fun m => by rw [h1, h.1]; rfl
  refine ⟨h4, fun m hm hz => ?_⟩
  rw [← h4] at hz
  rcases h3 m hz with q | q
  · rw [h.1] at q
    exact h2 _ (h.2 m hm q)
  · exact q
theorem idles_upd {c : PC} {k : Nat} {G : GG} (h : idles c k G) (H W : List Int) : idles c k (updG G k H W) := fun j f hj hf => by
  have : ¬ j = k := by omega
  simp only [updG, this, if_false]
  exact h j f hj hf
theorem updG_gt {G : GG} {k j : Nat} (H W : List Int) (h : k < j) : updG G k H W j = G j := by
  have : ¬ j = k := by omega
  simp only [updG, this, if_false]
theorem updG_at {G : GG} {k : Nat} (H W : List Int) : updG G k H W k = (H, W) := by simp [updG]

end Go.Proofs.Ytcpgikgjolomcaa
