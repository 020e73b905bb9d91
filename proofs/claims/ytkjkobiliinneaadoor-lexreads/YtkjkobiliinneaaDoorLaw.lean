/-
  What the condition on the two lists of layer 4 gives, and what a statement over one or two texts wants of its walk; no conditions but those that each fact bears.
-/
import Derived.Test.YtkjkobiliinneaaDoorRows
import Derived.Test.YtkjkobiliinneaaDoorTie
import Derived.Test.YtkjkobiliinneaaDoorCards
import Derived.Test.YtkjkobiliinneaaDoorLexC
import Derived.ProofKit
import Derived.LaidMore
import Derived.OpenShut
import Derived.ShutString
import Derived.ChangeOld
import Derived.Stop.Joined
import Derived.SevenTiedAt
import Derived.Lib.LaidTab
namespace Go.Proofs.YtkjkobiliinneaaDoor
open Go.ChangeShapes Go.WideShapes Go.ChangeAt Go.RowKit
open Go.ChangeMaps (open_string shut_string)
set_option linter.unusedVariables false

theorem own : ownKnob Tryd.prog.godebug = none := by kernel_rfl
theorem laidOut : laidOutB Tryd.prog = true := by kernel_rfl
abbrev laidBoth : List (String × DataW Unit) := [("burin/lex.words", Rows.laid_burin_lex_words), ("burin/lex.signs", Rows.laid_burin_lex_signs)]
theorem gWords : Tryd.prog.globalNamed "burin/lex.words" = some 0 := by kernel_rfl
theorem gSigns : Tryd.prog.globalNamed "burin/lex.signs" = some 1 := by kernel_rfl
theorem tWords : (Tryd.prog.globals[0]?).map (·.type) = some 45 := by kernel_rfl
theorem tSigns : (Tryd.prog.globals[1]?).map (·.type) = some 52 := by kernel_rfl
theorem dWords {H : Type} : (Rows.laid_burin_lex_words : DataW H) = .agg (words.map fun x => .lit (.string x)) := rfl
theorem dSigns {H : Type} : (Rows.laid_burin_lex_signs : DataW H) = .agg (signs.map fun x => .lit (.string x)) := rfl

/-- An array of texts that reads as these holds them. -/
theorem cells_of_strs {H : Type} {enc : TypeId × Value → H} {P : Program} {w : World} {base : Nat} {sp : Nat → Bool} {held : Bool} {fuel : Nat} {t e : TypeId} {n : Nat} {cs : List Value} {xs : List (List UInt8)} {p : List MemPlace}
    (ht : P.underlying t = some (.array n e)) (he : P.underlying e = some .string) (hce : P.cellsOf e = 1) (hct : P.cellsOf t = n) (hn : xs.length = n) (hcl : cs.length = n)
    (h : DataW.trod enc P w base sp held fuel t cs = some (.agg (xs.map fun x => .lit (.string x)), p)) : cs = xs.map fun x => Value.string ⟨x.toArray⟩ := by
  obtain ⟨ys, m, rfl, hx, hlen, hn3, hel⟩ := DataW.trod_array ht h
  have hys : ys.map (·.1) = xs.map fun x => (DataW.lit (.string x) : DataW H) := by
    have := congrArg Prod.fst hx
    simpa using this.symm
  apply List.ext_getElem?
  intro i
  by_cases hi : i < n
  · have h0 := hel i hi
    have hyl : i < ys.length := by have := congrArg List.length hys; simp at this; omega
    rw [hce, Nat.mul_one, List.getElem?_eq_getElem hyl] at h0
    obtain ⟨s, hc, hs, _⟩ := DataW.trod_string he h0
    have h1 : cs[i]? = some (.string s) := by
      have := congrArg (·[0]?) hc
      simpa [List.getElem?_take, List.getElem?_drop] using this
    have h2 : (ys.map (·.1))[i]? = some (DataW.lit (.string s.data.toList) : DataW H) := by
      rw [List.getElem?_map, List.getElem?_eq_getElem hyl]
      simp [hs]
    rw [hys] at h2
    simp only [List.getElem?_map, Option.map_eq_some_iff, DataW.lit.injEq, Lit.string.injEq] at h2
    obtain ⟨x, hx', e⟩ := h2
    rw [h1, List.getElem?_map, hx']
    simp only [Option.map_some, Option.some.injEq, Value.string.injEq]
    rw [e]
  · rw [List.getElem?_eq_none (by omega), List.getElem?_eq_none (by simp; omega)]

theorem var_block {P : Program} {w : World} {n : String} {g : Nat} {cs : Array Value} (hg : P.globalNamed n = some g) (h : w.var? P n = some cs) : ∃ t fr, w.heap[g]? = some (.cells cs t fr) := by
  unfold World.var? at h
  rw [hg] at h
  simp only [Option.bind_some] at h
  split at h
  · rename_i c t fr hh
    obtain rfl := Option.some.inj h
    exact ⟨t, fr, hh⟩
  · cases h

theorem of_laid {W : World} (h : laidMetH Tryd.prog laidBoth W) : Laid W := by
  rw [MakeChecks.laidMetH_plain _ _ _ (by kernel_rfl)] at h
  obtain ⟨ps, ⟨g0, t0, cs0, f0, p0, q0, hg0, ht0, hv0, hd0, ⟨g1, t1, cs1, f1, p1, q1, hg1, ht1, hv1, hd1, _, _⟩, _⟩, _, _⟩ := h
  obtain rfl := Option.some.inj (gWords.symm.trans hg0)
  obtain rfl := Option.some.inj (gSigns.symm.trans hg1)
  obtain rfl := Option.some.inj (tWords.symm.trans ht0)
  obtain rfl := Option.some.inj (tSigns.symm.trans ht1)
  have c13 : Tryd.prog.cellsOf 45 = 13 := by kernel_rfl
  have c32 : Tryd.prog.cellsOf 52 = 32 := by kernel_rfl
  have c9 : Tryd.prog.cellsOf 9 = 1 := by kernel_rfl
  rw [dWords] at hd0
  rw [dSigns] at hd1
  have l0 : cs0.toList.length = 13 := by
    obtain ⟨ys, m, rfl, hx, hlen, _, _⟩ := DataW.trod_array Tryd.underlying45 hd0
    rw [hlen, c13]
  have l1 : cs1.toList.length = 32 := by
    obtain ⟨ys, m, rfl, hx, hlen, _, _⟩ := DataW.trod_array Tryd.underlying52 hd1
    rw [hlen, c32]
  have e0 := cells_of_strs Tryd.underlying45 Tryd.underlying9 c9 c13 rfl l0 hd0
  have e1 := cells_of_strs Tryd.underlying52 Tryd.underlying9 c9 c32 rfl l1 hd1
  obtain ⟨t, fr, h0⟩ := var_block gWords hv0
  obtain ⟨t', fr', h1⟩ := var_block gSigns hv1
  refine ⟨⟨t, fr, ?_⟩, ⟨t', fr', ?_⟩⟩
  · rw [h0, ← Array.toArray_toList (xs := cs0), e0]
  · rw [h1, ← Array.toArray_toList (xs := cs1), e1]

/-- The door's own heap meets the condition. -/
theorem door_met (os : Os) (args : Array Value) : laidMetH Tryd.prog laidBoth ((World.doorLaid Tryd.prog 19 os).forCall (fun _ _ => 0) ⟨#[], args, []⟩).memory :=
  laidMetH_of_parts3 (fuel := 8) (laidMet_of_run' 8 (by kernel_rfl) (by kernel_rfl)) (by kernel_rfl) (by kernel_rfl)
end Go.Proofs.YtkjkobiliinneaaDoor
