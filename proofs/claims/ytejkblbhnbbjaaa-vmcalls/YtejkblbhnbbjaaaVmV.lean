/-
  The machine: it is made: a contract over the program; the conditions: the program lies in memory.
-/
import Derived.Test.YtejkblbhnbbjaaaVmT
import Derived.Lib.SliceRun
namespace Go.Proofs.Ytejkblbhnbbjaaa
open Go.RowKit
set_option linter.unusedVariables false

section
variable {w w' w0 : World} {R : Nat} {col col' : Col} {im : PIm}

set_option maxRecDepth 100000 in
theorem clone_none (w : World) : Calls Try.prog 28 #[.slice none 0 0] w fun e w' => e = .returned (.slice none 0 0) ∧ w' = w := by
  have hnil := fun wx => Lib.run_eql_slice_nil (P := Try.prog) wx 24 2 none 0 0 0 0 Try.underlying24
  go_enter Try.func28, Try.ntmps28
  go_wp2_with (fail)
  go_ret
  exact ⟨rfl, rfl⟩

set_option maxRecDepth 100000 in
theorem clone_some (w : World) (a : Addr) (c : Nat) (L : List Int) (hL : ∀ j x, L[j]? = some x → w.cell? (a.add j) = some (.int .i64 x)) (hlen : L.length * 8 ≤ 140737488351232) (hlm : L.length ≤ maxLen) :
    Calls Try.prog 28 #[.slice (some a) L.length c] w fun e w' => ∃ v, e = .returned v ∧ w'.ownsRow w.heap.size 2 1 v L.length (rowI L) ∧ Q w w' := by
  obtain ⟨i0, hi9, hz0, hz1, hz2⟩ := info_parts infoI64
  have h0 : (w.alloc (.cells #[] 2)).ownsRow w.heap.size 2 1 (.slice (some ⟨w.heap.size, 0, none⟩) 0 0) 0 [] := ⟨rfl, .inr ⟨w.heap.size, 0, #[], rfl, Nat.le_refl _, heap_new w _, Nat.le_refl _, by decide, rfl, rfl⟩⟩
  have HR := hideIt (run_append_own (P := Try.prog) (w.alloc (.cells #[] 2)) w.heap.size 24 24 2 i0 (.int .i64 0) 1 8 Try.underlying24 hi9 hz0 hz1 hz2 rfl (by decide) (.slice (some ⟨w.heap.size, 0, none⟩) 0 0) 0 [] h0 a L.length c (rowI L) (by rw [rowI_len, Nat.mul_one]) (fun j u hu => by
    rw [rowI_at] at hu
    cases hx : L[j]? with
    | none => rw [hx] at hu; cases hu
    | some x =>
      rw [hx] at hu
      obtain rfl := Option.some.inj hu
      exact cell_keep ((Q.refl w).alloc _) (hL j x hx)) (fun u hu => by unfold rowI at hu; obtain ⟨_, _, rfl⟩ := List.mem_map.1 hu; rfl) (by omega) (by omega) (by simp))
  have hnil := fun wx => Lib.run_eql_slice_nil (P := Try.prog) wx 24 2 (some a) L.length c 0 0 Try.underlying24
  clear hi9 hz0 hz1 hz2 h0 hL
  go_enter Try.func28, Try.ntmps28
  go_wp2_with (first | (at_builtin; obtain ⟨v', w', hr, h2, h3, -⟩ := HR.out; have H2 := hideIt (And.intro h2 h3); refine wpList_append_run (by rfl) (.tmp 5) (.tmp 6) 24 24 (by rfl) _ _ (by rfl) (by rfl) _ _ hr ?_; clear hr h2 h3) | fail)
  go_ret
  refine ⟨v', rfl, ?_, ?_⟩
  · have := H2.out.1; rw [Nat.zero_add, List.nil_append] at this; exact this
  · have h3 := H2.out.2
    exact ⟨h3.os, h3.tape, h3.output, by have := h3.size; simp at this; omega, fun b hb => (h3.block b (by simp; omega) (fun e => by simp [Value.ownBlock] at e; omega)).trans (Below.heap_alloc w _ b hb)⟩

/-- The machine as it is made. -/
theorem mv_new {X : World} {cv : Value} {R : Nat} (hX : Q w X) (hr : X.ownsRow w.heap.size 2 1 cv im.da.length (rowI im.da)) (hR : X.heap[R]? = some (.cells (mcells im im.da.length 0 cv (.slice none 0 0) (.slice none 0 0)) 76 (0, 0))) (hw : w.heap.size ≤ R) (hne : cv.ownBlock ≠ some R) (hl : im.da.length ≤ 65536) : ∃ col, MV X w R col im im.da [] [] 0 0 := by
  refine ⟨fun b => if b = R then some .rn else if cv.ownBlock = some b then some .me else none, im.da, fun _ => [], cv, .slice none 0 0, .slice none 0 0, ⟨hX, fun b τ e => ?_, by simp, hR, hr, fun b q => ?_, World.ownsRow_nil _ _ _ _, (fun b q => by cases q), .inl ⟨rfl, rfl⟩⟩, ⟨⟨0, by simp⟩, hl, fun k c e => by simp at e, fun j x _ _ k c e => by simp at e, fun k => Nat.zero_le _, fun k c e => by simp at e, fun k c c' e => by simp at e, fun k c e => by simp at e, Nat.zero_le _, by decide, by simp⟩⟩
  · by_cases e1 : b = R
    · subst e1; exact ⟨hw, lt_of_some hR⟩
    · simp only [e1, if_false] at e
      by_cases e2 : cv.ownBlock = some b
      · refine ⟨?_, own_lt hr e2⟩
        rcases hr.2 with ⟨q, -⟩ | ⟨g, cap, cur, q, hb, -⟩
        · rw [q] at e2; cases e2
        · rw [q] at e2; injection e2 with e2; subst e2; exact hb
      · simp [e2] at e
  · have : b ≠ R := fun e => hne (by rw [q, e])
    simp [this, q]
end
end Go.Proofs.Ytejkblbhnbbjaaa
