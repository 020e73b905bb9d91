/-
  What the condition on the three lists of layers 4 and 5 gives, and what a statement over one or two texts wants of its walk; no conditions but those that each fact bears.
-/
import Derived.Test.YtoilhcklflmamaaGreatDoorRows
import Derived.Test.YtoilhcklflmamaaGreatDoorTie
import Derived.Test.YtoilhcklflmamaaGreatDoorCards
import Derived.Test.YtoilhcklflmamaaGreatDoorKRfI
import Derived.ChangeSame
import Derived.ProofKit
import Derived.LaidMore
import Derived.OpenShut
import Derived.ShutString
import Derived.ChangeOld
import Derived.Stop.Joined
import Derived.SevenTiedAt
import Derived.Lib.LaidTab
namespace Go.Proofs.YtoilhcklflmamaaGreatDoor
open Go.ChangeShapes Go.WideShapes Go.ChangeAt Go.RowKit
open Go.ChangeMaps (open_string shut_string)
set_option linter.unusedVariables false

theorem own : ownKnob Tryz.prog.godebug = none := by kernel_rfl
theorem laidOut : laidOutB Tryz.prog = true := by kernel_rfl
abbrev laidBoth : List (String × DataW Unit) := [("burin/lex.words", Rows.laid_burin_lex_words), ("burin/lex.signs", Rows.laid_burin_lex_signs), ("burin/parse.operations", Rows.laid_burin_parse_operations)]
theorem gOps : Tryz.prog.globalNamed "burin/parse.operations" = some 0 := by kernel_rfl
theorem tOps : (Tryz.prog.globals[0]?).map (·.type) = some 60 := by kernel_rfl
theorem dOps {H : Type} : (Rows.laid_burin_parse_operations : DataW H) = .agg (Pr.ops.map fun x => .agg [.lit (.string x.1), .lit (.int .i64 (x.2 : Int))]) := rfl
theorem gWords : Tryz.prog.globalNamed "burin/lex.words" = some 2 := by kernel_rfl
theorem gSigns : Tryz.prog.globalNamed "burin/lex.signs" = some 1 := by kernel_rfl
theorem tWords : (Tryz.prog.globals[2]?).map (·.type) = some 98 := by kernel_rfl
theorem tSigns : (Tryz.prog.globals[1]?).map (·.type) = some 87 := by kernel_rfl
theorem dWords {H : Type} : (Rows.laid_burin_lex_words : DataW H) = .agg (words.map fun x => .lit (.string x)) := rfl
theorem dSigns {H : Type} : (Rows.laid_burin_lex_signs : DataW H) = .agg (signs.map fun x => .lit (.string x)) := rfl

/-- An array of texts that reads as these holds them. -/
theorem cells_of_strs {H : Type} {enc : TypeId × Value → H} {P : Program} {w : World} {base : Nat} {sp : Nat → Bool} {held : Bool} {fuel : Nat} {t e : TypeId} {n : Nat} {cs : List Value} {xs : List (List UInt8)} {p : List MemPlace}
    (ht : P.underlying t = some (.array n e)) (he : P.underlying e = some .string) (hce : P.cellsOf e = 1) (hct : P.cellsOf t = n) (hn : xs.length = n) (hcl : cs.length = n)
    (h : DataW.trod enc P w base sp held fuel t cs = some (.agg (xs.map fun x => .lit (.string x)), p)) : cs = xs.map fun x => Value.string ⟨x.toArray⟩ := by
  obtain ⟨ys, m, rfl, hx, hlen, hn3, hel⟩ := DataW.trod_array ht h
  have hys : ys.map (·.1) = xs.map fun x => (DataW.lit (.string x) : DataW H) := by
    have := congrArg Prod.fst hx
    simpa using this.symm
  apply List.ext_getElem?
  intro i
  by_cases hi : i < n
  · have h0 := hel i hi
    have hyl : i < ys.length := by have := congrArg List.length hys; simp at this; omega
    rw [hce, Nat.mul_one, List.getElem?_eq_getElem hyl] at h0
    obtain ⟨s, hc, hs, _⟩ := DataW.trod_string he h0
    have h1 : cs[i]? = some (.string s) := by
      have := congrArg (·[0]?) hc
      simpa [List.getElem?_take, List.getElem?_drop] using this
    have h2 : (ys.map (·.1))[i]? = some (DataW.lit (.string s.data.toList) : DataW H) := by
      rw [List.getElem?_map, List.getElem?_eq_getElem hyl]
      simp [hs]
    rw [hys] at h2
    simp only [List.getElem?_map, Option.map_eq_some_iff, DataW.lit.injEq, Lit.string.injEq] at h2
    obtain ⟨x, hx', e⟩ := h2
    rw [h1, List.getElem?_map, hx']
    simp only [Option.map_some, Option.some.injEq, Value.string.injEq]
    rw [e]
  · rw [List.getElem?_eq_none (by omega), List.getElem?_eq_none (by simp; omega)]

/-- An array of pairs of a text and a number that reads as these holds them. -/
theorem cells_of_pairs {H : Type} {enc : TypeId × Value → H} {P : Program} {w : World} {base : Nat} {sp : Nat → Bool} {held : Bool} {fuel : Nat} {t e : TypeId} {f0 f1 : Field} {n : Nat} {cs : List Value} {xs : List (List UInt8 × Nat)} {p : List MemPlace}
    (ht : P.underlying t = some (.array n e)) (he : P.underlying e = some (.struct #[f0, f1])) (o0 : f0.offset = 0) (o1 : f1.offset = 1) (hs : P.underlying f0.type = some .string) (hi : P.underlying f1.type = some (.int .i64)) (c0 : P.cellsOf f0.type = 1) (c1 : P.cellsOf f1.type = 1) (hce : P.cellsOf e = 2) (hn : xs.length = n) (hcl : cs.length = n * 2)
    (h : DataW.trod enc P w base sp held fuel t cs = some (.agg (xs.map fun x => .agg [.lit (.string x.1), .lit (.int .i64 (x.2 : Int))]), p)) : cs = xs.flatMap fun q => [Value.string (Pr.bs q.1), .int .i64 q.2] := by
  obtain ⟨ys, m, rfl, hx, hlen, hn3, hel⟩ := DataW.trod_array ht h
  have hys : ys.map (·.1) = xs.map fun x => (DataW.agg [.lit (.string x.1), .lit (.int .i64 (x.2 : Int))] : DataW H) := by
    have := congrArg Prod.fst hx
    simpa using this.symm
  have key : ∀ i, i ≤ n → cs.take (i * 2) = (xs.take i).flatMap fun q => [Value.string (Pr.bs q.1), .int .i64 q.2] := by
    intro i
    induction i with
    | zero => intro _; simp
    | succ i ih =>
      intro hin
      have hi' : i < n := by omega
      have hyl : i < ys.length := by have := congrArg List.length hys; simp at this; omega
      have hxl : i < xs.length := by omega
      have h0 := hel i hi'
      rw [hce, List.getElem?_eq_getElem hyl] at h0
      obtain ⟨y0, y1, m2, hy, hl2, g0, g1⟩ := trod_struct2 he h0
      rw [o0, c0] at g0
      rw [o1, c1] at g1
      obtain ⟨s, hc0, hs0, _⟩ := DataW.trod_string hs g0
      obtain ⟨z, hc1, hz1, _⟩ := DataW.trod_int hi g1
      have e1 : (ys.map (·.1))[i]? = some (DataW.agg [.lit (.string s.data.toList), .lit (.int .i64 z)] : DataW H) := by
        rw [List.getElem?_map, List.getElem?_eq_getElem hyl]
        simp only [Option.map_some, hy, hs0, hz1]
      rw [hys, List.getElem?_map, List.getElem?_eq_getElem hxl] at e1
      simp only [Option.map_some, Option.some.injEq, DataW.agg.injEq, List.cons.injEq, DataW.lit.injEq, Lit.string.injEq, Lit.int.injEq, and_true, true_and] at e1
      obtain ⟨e2, e3⟩ := e1
      have hd : (cs.drop (i * 2)).take 2 = [Value.string (Pr.bs xs[i].1), .int .i64 xs[i].2] := by
        have ha : ((cs.drop (i * 2)).take 2)[0]? = some (.string s) := by
          have := congrArg (·[0]?) hc0
          simpa [List.getElem?_take, List.getElem?_drop] using this
        have hb : ((cs.drop (i * 2)).take 2)[1]? = some (.int .i64 z) := by
          have := congrArg (·[0]?) hc1
          simpa [List.getElem?_take, List.getElem?_drop] using this
        have hl : ((cs.drop (i * 2)).take 2).length = 2 := by simp; omega
        match hq : (cs.drop (i * 2)).take 2, hl with
        | [u, v], _ =>
          rw [hq] at ha hb
          simp at ha hb
          rw [ha, hb, e2, ← e3]
      rw [Nat.succ_mul, List.take_add, ih (by omega), hd, List.take_add_one (l := xs), List.getElem?_eq_getElem hxl, Option.toList_some, List.flatMap_append]
      rfl
  have := key n (Nat.le_refl _)
  rw [List.take_of_length_le (by omega), List.take_of_length_le (by omega)] at this
  exact this

theorem var_block {P : Program} {w : World} {n : String} {g : Nat} {cs : Array Value} (hg : P.globalNamed n = some g) (h : w.var? P n = some cs) : ∃ t fr, w.heap[g]? = some (.cells cs t fr) := by
  unfold World.var? at h
  rw [hg] at h
  simp only [Option.bind_some] at h
  split at h
  · rename_i c t fr hh
    obtain rfl := Option.some.inj h
    exact ⟨t, fr, hh⟩
  · cases h

theorem of_laid {W : World} (h : laidMetH Tryz.prog laidBoth W) : LaidP W := by
  rw [MakeChecks.laidMetH_plain _ _ _ (by kernel_rfl)] at h
  obtain ⟨ps, ⟨g0, t0, cs0, f0, p0, q0, hg0, ht0, hv0, hd0, ⟨g1, t1, cs1, f1, p1, q1, hg1, ht1, hv1, hd1, ⟨g2, t2, cs2, f2, p2, q2, hg2, ht2, hv2, hd2, _, _⟩, _⟩, _⟩, _, _⟩ := h
  obtain rfl := Option.some.inj (gOps.symm.trans hg2)
  obtain rfl := Option.some.inj (tOps.symm.trans ht2)
  obtain rfl := Option.some.inj (gWords.symm.trans hg0)
  obtain rfl := Option.some.inj (gSigns.symm.trans hg1)
  obtain rfl := Option.some.inj (tWords.symm.trans ht0)
  obtain rfl := Option.some.inj (tSigns.symm.trans ht1)
  have c13 : Tryz.prog.cellsOf 98 = 13 := by kernel_rfl
  have c32 : Tryz.prog.cellsOf 87 = 32 := by kernel_rfl
  have c9 : Tryz.prog.cellsOf 9 = 1 := by kernel_rfl
  rw [dWords] at hd0
  rw [dSigns] at hd1
  have l0 : cs0.toList.length = 13 := by
    obtain ⟨ys, m, rfl, hx, hlen, _, _⟩ := DataW.trod_array Tryz.underlying98 hd0
    rw [hlen, c13]
  have l1 : cs1.toList.length = 32 := by
    obtain ⟨ys, m, rfl, hx, hlen, _, _⟩ := DataW.trod_array Tryz.underlying87 hd1
    rw [hlen, c32]
  have e0 := cells_of_strs Tryz.underlying98 Tryz.underlying9 c9 c13 rfl l0 hd0
  have e1 := cells_of_strs Tryz.underlying87 Tryz.underlying9 c9 c32 rfl l1 hd1
  obtain ⟨t, fr, h0⟩ := var_block gWords hv0
  obtain ⟨t', fr', h1⟩ := var_block gSigns hv1
  have c38 : Tryz.prog.cellsOf 60 = 38 := by kernel_rfl
  rw [dOps] at hd2
  obtain ⟨t', fr', h1⟩ := var_block gSigns hv1
  obtain ⟨t2, fr2, h2⟩ := var_block gOps hv2
  have ar : Tryz.prog.underlying 60 = some (.array 19 59) := by kernel_rfl
  have l2 : cs2.toList.length = 19 * 2 := by
    obtain ⟨ys, m, rfl, hx, hlen, _, _⟩ := DataW.trod_array ar hd2
    rw [hlen, c38]
  have e2 := cells_of_pairs ar Tryz.underlying59 rfl rfl (by kernel_rfl) (by kernel_rfl) (by kernel_rfl) (by kernel_rfl) (by kernel_rfl) (by decide) l2 hd2
  refine ⟨⟨⟨t, fr, ?_⟩, ⟨t', fr', ?_⟩⟩, ⟨t2, fr2, ?_⟩⟩
  · rw [h0, ← Array.toArray_toList (xs := cs0), e0]
  · rw [h1, ← Array.toArray_toList (xs := cs1), e1]
  · rw [h2, ← Array.toArray_toList (xs := cs2), e2]
    rfl

/-- The door's own heap meets the condition. -/
theorem door_met (os : Os) (args : Array Value) : laidMetH Tryz.prog laidBoth ((World.doorLaid Tryz.prog 39 os).forCall (fun _ _ => 0) ⟨#[], args, []⟩).memory :=
  laidMetH_of_parts3 (fuel := 8) (laidMet_of_run' 8 (by kernel_rfl) (by kernel_rfl)) (by kernel_rfl) (by kernel_rfl)
end Go.Proofs.YtoilhcklflmamaaGreatDoor
