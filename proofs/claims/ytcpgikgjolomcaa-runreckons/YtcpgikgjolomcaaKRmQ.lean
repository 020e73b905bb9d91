/-
  The parts of a function are run (parts): a contract over the program; the conditions: a run lies there, the call is open, the function is right, and the functions ahead keep their contract.
-/
import Derived.Test.YtcpgikgjolomcaaKRmP
import Derived.Deep.LoopGhost
namespace Go.Proofs.Ytcpgikgjolomcaa
open Go.RowKit
set_option linter.unusedVariables false

/-- How the parts of a function end. -/
def PrtPost (w w0 : World) (R p gb gc : Nat) (col : Col) (c : PC) (fuel : Nat) (s : St) (G : GG) (k : Nat) (f : PF) (r : Rs Int) (e : Ending) (w' : World) : Prop :=
  match r with
  | .ok v s' => e = .returned (.tuple #[.int .i64 v, .agg #[.int .u8 0, .bool false]]) ∧ ∃ col' A' G' ρ', RI w' w0 R p gb gc col' c fuel s' A' G' ∧ Ex col w col' w' ∧ opn f ρ' (G' k) ∧ idles c k G' ∧ (∀ j, k < j → G' j = G j) ∧ s'.bs.length = s.bs.length
  | .over t sp s' => e = .returned (.tuple #[.int .i64 0, .agg #[.int .u8 t, .bool sp]]) ∧ (t ≠ 0 ∨ sp = true) ∧ ∃ col' A' G' s'', RI w' w0 R p gb gc col' c fuel s'' A' G' ∧ Ex col w col' w' ∧ (∀ j, k < j → G' j = G j) ∧ s''.n = s'.n ∧ s''.tr = s'.tr ∧ s.bs.length ≤ s''.bs.length

/-- What holds while parts are run: where we are; O: the box of the answer. -/
structure PS (w wr w0 : World) (R p gb gc : Nat) (col col' : Col) (c : PC) (fuel : Nat) (s s' : St) (A' : List Int) (G G' : GG) (k : Nat) (f : PF) (ρ : Rg) (Cb fb fo first O : Nat) : Prop where
  ia : IA wr w0 R p gb gc col' c fuel s' A' G' k f ρ Cb fb fo first
  ex : Ex col w col' wr
  gt : ∀ j, k < j → G' j = G j
  bl : s'.bs.length = s.bs.length
  ob : wr.heap[O]? = some (.cells #[.int .u8 0, .bool false] 84 (0, 0))
  on : col' O = none
  ol : w.heap.size ≤ O
theorem PS.le {w wr w0 : World} {R p gb gc : Nat} {col col' : Col} {c : PC} {fuel : Nat} {s s' : St} {A' : List Int} {G G' : GG} {k : Nat} {f : PF} {ρ : Rg} {Cb fb fo first O : Nat} (h : PS w wr w0 R p gb gc col col' c fuel s s' A' G G' k f ρ Cb fb fo first O) (hw : w0.heap.size ≤ w.heap.size) : w0.heap.size ≤ O := Nat.le_trans hw h.ol
/-- The same, in a world in which nothing of it has changed. -/
theorem PS.keep {w wr wr' w0 : World} {R p gb gc : Nat} {col col' : Col} {c : PC} {fuel : Nat} {s s' : St} {A' : List Int} {G G' : GG} {k : Nat} {f : PF} {ρ : Rg} {Cb fb fo first O : Nat} (h : PS w wr w0 R p gb gc col col' c fuel s s' A' G G' k f ρ Cb fb fo first O) (hq : Q wr wr') : PS w wr' w0 R p gb gc col col' c fuel s s' A' G G' k f ρ Cb fb fo first O :=
  ⟨⟨h.ia.ri.keep hq, h.ia.hf, h.ia.hk, h.ia.op, h.ia.id, h.ia.cb.keep hq, h.ia.cc, h.ia.hfi, h.ia.rg⟩, h.ex.trans (Ex.q hq), h.gt, h.bl, (hq.block O (Array.getElem?_eq_some_iff.1 h.ob).1).trans h.ob, h.on, h.ol⟩
/-- An instruction went on. -/
theorem PS.ins {w wr wr' w0 : World} {R p gb gc : Nat} {col col' : Col} {c : PC} {fuel : Nat} {s s' : St} {A' : List Int} {G G' : GG} {k : Nat} {f : PF} {ρ : Rg} {Cb fb fo first O : Nat} (h : PS w wr w0 R p gb gc col col' c fuel s s' A' G G' k f ρ Cb fb fo first O) {ρ' : Rg} {s2 : St} {col2 : Col} {A2 : List Int} {G2 : GG}
    (a1 : RI wr' w0 R p gb gc col2 c fuel s2 A2 G2) (a2 : Ex col' wr col2 wr') (a3 : opn f ρ' (G2 k)) (a4 : idles c k G2) (a5 : ∀ j, k < j → G2 j = G' j) (a6 : s2.bs.length = s'.bs.length) : PS w wr' w0 R p gb gc col col2 c fuel s s2 A2 G G2 k f ρ' Cb fb fo first O := by
  have hC : Cb < wr.heap.size := World.block_lt_of_cell? wr _ h.ia.cb.c0
  have hO := (Array.getElem?_eq_some_iff.1 h.ob).1
  exact ⟨⟨a1, h.ia.hf, h.ia.hk, a3, a4, h.ia.cb.ex h.ia.cc a2, (a2.col Cb hC).trans h.ia.cc, by rw [a6]; exact h.ia.hfi, h.ia.rg⟩, h.ex.trans a2, fun j hj => (a5 j hj).trans (h.gt j hj), a6.trans h.bl, Ex.blk a2 h.on h.ob, (a2.col O hO).trans h.on, h.ol⟩

theorem insR_drop {cf : CallT} {fuel keep : Nat} {l : List PI} {i : Nat} {x : PI} (h : l[i]? = some x) (ρ : Rg) (s : St) : insR cf fuel keep (l.drop i) ρ s = match exI cf fuel keep x ρ s with | .ok ρ' s' => insR cf fuel keep (l.drop (i + 1)) ρ' s' | .over t sp s' => .over t sp s' := by
  obtain ⟨hl, e⟩ := List.getElem?_eq_some_iff.1 h
  rw [List.drop_eq_getElem_cons hl, e]
  rfl

/-- The part that is gone to is there. -/
theorem next_lt {f : PF} {q : PP} {ρ : Rg} (h : endP f q = true) (he : q.e = false) : 0 ≤ nextP q ρ ∧ nextP q ρ < (f.parts.length : Int) := by
  unfold endP at h
  rw [he] at h
  simp [blP] at h
  unfold nextP
  by_cases hc : q.cond < 0
  · simp [hc] at h
    rw [if_neg (fun x => by omega)]
    omega
  · simp [hc] at h
    split <;> omega

end Go.Proofs.Ytcpgikgjolomcaa
