/-
  fold.Run every way at once; codes that are alike to a third; what holds while an answer is written into: contracts over the program and facts on worlds; the conditions: the code lies in memory.
-/
import Derived.Test.YtaomkfhbnakbjaaKFoT
import Derived.Test.YtaomkfhbnakbjaaKIrZh
import Derived.Test.YtaomkfhbnakbjaaKIrZb
namespace Go.Proofs.Ytaomkfhbnakbjaa.Fo
open Go.RowKit
set_option linter.unusedVariables false

/-- No code. -/
def noC : PC := ⟨[], [], [], none, 0, none, 0, none, 0⟩
theorem noC_l (lo : Nat) (W : World) : CodeL lo W noC := ⟨⟨sok_no _, lst_no, sok_no _, lst_no, sok_no _, lst_no⟩, Or.inl rfl, Or.inl rfl, ⟨lst_no, Or.inl rfl, fun f hf => by simp [noC] at hf, by simp [noC, OrdF]⟩⟩
theorem ev_refl (c : PC) : EvC c c := ⟨rfl, rfl, rfl, fun k x y h1 h2 => by
  rw [h1] at h2; injection h2 with h2; subst h2
  exact ⟨rfl, rfl, rfl, rfl, fun k x y h1 h2 => by
    rw [h1] at h2; injection h2 with h2; subst h2
    exact ⟨rfl, rfl, rfl, rfl, rfl, fun k x y h1 h2 => by
      rw [h1] at h2; injection h2 with h2; subst h2
      exact ⟨rfl, rfl, rfl, rfl, rfl, rfl, rfl⟩⟩⟩⟩
theorem evl_join {α : Type} {R : α → α → Prop} (hR : ∀ a b c, R a c → R b c → R a b) {l m n : List α} (h : EvL R l n) (h' : EvL R m n) : EvL R l m := ⟨h.len.trans h'.len.symm, fun k x y hx hy => by
  have hk := (List.getElem?_eq_some_iff.1 hx).1
  obtain ⟨z, hz⟩ := get_of_lt (l := n) (k := k) (by rw [← h.len]; exact hk)
  exact hR x y z (h.each k x z hx hz) (h'.each k y z hy hz)⟩
theorem evi_join (a b c : PI) (h : EvI a c) (h' : EvI b c) : EvI a b := ⟨h.op.trans h'.op.symm, h.ty.trans h'.ty.symm, h.dst.trans h'.dst.symm, h.a.trans h'.a.symm, h.b.trans h'.b.symm, h.imm.trans h'.imm.symm, h.args.trans h'.args.symm⟩
theorem evp_join (a b c : PP) (h : EvP a c) (h' : EvP b c) : EvP a b := ⟨h.e.trans h'.e.symm, h.cond.trans h'.cond.symm, h.next.trans h'.next.symm, h.els.trans h'.els.symm, evl_join evi_join h.ins h'.ins⟩
theorem evf_join (a b c : PF) (h : EvF a c) (h' : EvF b c) : EvF a b := ⟨h.params.trans h'.params.symm, h.regs.trans h'.regs.symm, h.slots.trans h'.slots.symm, evl_join evp_join h.parts h'.parts⟩
theorem evc_join {a b c : PC} (h : EvC a c) (h' : EvC b c) : EvC a b := ⟨h.gl.trans h'.gl.symm, h.ini.trans h'.ini.symm, evl_join evf_join h.fns h'.fns⟩

def resC (fault : Bool) (c : PC) : PC := if validP c = 0 then foldC fault c else noC
theorem run_every (w : World) (c : PC) (fault : Bool) (hcok : c.ok w) : Calls Try.prog 15 #[c.v, .bool fault] w fun e w' => ∃ A : PC, e = .returned (.tuple #[A.v, .int .i64 (validP c)]) ∧ EvC A (resC fault c) ∧ CodeL w.heap.size w' A ∧ Q w w' := by
  unfold resC
  by_cases hv : validP c = 0
  · rw [if_pos hv, hv]
    exact run_good w c fault hcok hv
  · rw [if_neg hv]
    refine (run_bad w c fault hcok hv).mono ?_
    rintro e w' ⟨rfl, q⟩
    exact ⟨noC, rfl, ev_refl _, noC_l _ _, q⟩

/-- What holds while the first answer is written into: the second's code lies as it did. -/
structure LI (X W0 : World) (lo2 : Nat) (A2 : PC) (z : World) : Prop where
  q : Q X z
  sh : Sh W0 z
  g : CodeL lo2 z A2
  pos : 0 < lo2
theorem LI.put {X W0 z : World} {lo2 : Nat} {A2 : PC} (h : LI X W0 lo2 A2 z) {g j : Nat} {u : Int} (h1 : X.heap.size ≤ g) (h2 : g < lo2) (hc : z.cell? ⟨g, j, none⟩ = some (.int .i64 u)) (v : Int) : LI X W0 lo2 A2 (z.setCell ⟨g, j, none⟩ (.int .i64 v)) :=
  ⟨h.q.set h1 _, h.sh.set hc v, h.g.frx h2 (FrX.set (p := ⟨g, j, none⟩) (FrX.of_q (Q.refl z)) (Or.inl rfl) _), h.pos⟩
theorem LI.drew {X W0 z : World} {lo2 : Nat} {A2 : PC} (h : LI X W0 lo2 A2 z) : LI X W0 lo2 A2 z.drew := ⟨h.q.drew, h.sh.drew, CodeL.q h.g h.pos (Q.refl z).drew, h.pos⟩
theorem LI.drewN {X W0 z : World} {lo2 : Nat} {A2 : PC} (h : LI X W0 lo2 A2 z) (m : Nat) : LI X W0 lo2 A2 (z.drewN m) := ⟨h.q.drewN m, h.sh.drewN m, CodeL.q h.g h.pos ((Q.refl z).drewN m), h.pos⟩
/-- A number of one's own, in a list that was made early: where it lies, and that it can be written. -/
theorem own_num {y W0 z : World} {g o : Nat} {cs : Array Value} {t : TypeId} {u : Int} (hq : Q y W0) (sh : Sh W0 z) (hc : y.cell? ⟨g, o, none⟩ = some (.int .i64 u)) (hb : y.heap[g]? = some (.cells cs t (0, 0))) : ∃ v, z.cell? ⟨g, o, none⟩ = some (.int .i64 v) ∧ z.frozen? ⟨g, o, none⟩ = false := by
  have h0 := cell_keep hq hc
  obtain ⟨v, hv⟩ := sh.int h0
  exact ⟨v, hv, (sh.froz _ _ h0).trans (free_of_block (heap_keep hq hb) o)⟩

end Go.Proofs.Ytaomkfhbnakbjaa.Fo
