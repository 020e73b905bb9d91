/-
  append(s, make([]T, k)...) where s has room for k more; a function's registers, reached: contracts over the program.
-/
import Derived.Lib.AppendZerosOnto
import Derived.Test.YtcpgikgjolomcaaKRnA
namespace Go.Proofs.Ytcpgikgjolomcaa
open Go.RowKit
set_option linter.unusedVariables false

theorem run_append_room_zeros {P : Program} (w : World) (t tn ty e : TypeId) (i : TypeInfo) (z : Value) (kq kn : IntKind) (ht : P.underlying t = some (.slice e)) (htn : P.underlying tn = some (.int kn)) (hi : P.info? e = some i) (hz : i.zero = some z)
    (b off sLen sCap : Nat) (k : Nat) (h0 : 0 < k) (hs : 0 < i.size) (hroom : sLen + k ≤ sCap) (h63 : (k : Int) ≤ 9223372036854775807) (h48 : k * i.bytes ≤ 281474976710656)
    (hc : ∀ j, j < (Builtin.zeroCells z.cells k).size → (w.cell? ⟨b, off + sLen * i.size + j, none⟩).isSome = true) (hf : ∀ j, j < (Builtin.zeroCells z.cells k).size → w.frozen? ⟨b, off + sLen * i.size + j, none⟩ = false)
    (h1 : ∀ u ∈ (Builtin.zeroCells z.cells k).toList, u.oneCell' = true) :
    (Builtin.append_ #[t, tn] ty #[.slice (some ⟨b, off, none⟩) sLen sCap, .int kq k]).run P w =
      .ok (.slice (some ⟨b, off, none⟩) (sLen + k) sCap) (w.setCells b (off + sLen * i.size) (Builtin.zeroCells z.cells k).toList) := by
  have hk : k ≠ 0 := by omega
  have hw : IntKind.i64.wrap (k : Int) = k := by rw [IntKind.wrap_i64]; omega
  have h48i : ¬ (281474976710656 < (k : Int) * (i.bytes : Int)) := by
    rw [← Int.natCast_mul]
    omega
  have hneg : ¬ ((k : Int) < 0) := by omega
  have hns : ¬ (k * i.size = 0) := Nat.mul_ne_zero hk (by omega)
  have hst := run_storeCells_cells (P := P) b (off + sLen * i.size) (Builtin.zeroCells z.cells k).toList 0 w (by simpa using hc) (by simpa using hf) h1
  simp only [Nat.add_zero] at hst
  simp [Builtin.append_, run_underlying ht, run_underlying htn, sizeOf, typeInfo, zeroValue, hi, hz, asInt, asIntOf, hw, hneg, hns, h48i, hroom, Addr.add_lit, hst]

/-- As many registers as are asked for are there. -/
theorem reach_stay (w : World) (gb go : Nat) (ha : Option Addr) (hl hc : Nat) (hcell : w.cell? ⟨gb, go, none⟩ = some (.slice ha hl hc)) (n : Nat) (h : n ≤ hl) :
    Calls Try.prog 59 #[.pointer (some ⟨gb, go, none⟩), .int .i64 (n : Int)] w fun e w' => e = .returned (.tuple #[]) ∧ w' = w := by
  have hd : decide ((hl : Int) < (n : Int)) = false := by simp; omega
  go_enter Try.func59, Try.ntmps59
  go_wp2
  go_end0
  exact ⟨rfl, rfl⟩

/-- The operation, as one step of a region that draws its order: an append whose run is known. -/
theorem step_append_run {P : Program} {ops : Array Oper} {o : Oper} {a : Act} {w : World} {K : Act → World → Prop} {Q : Exit → Act → World → Prop} {E : Prop} (hgd : o.guard = none) (s x : Operand) (t tn : TypeId)
    (ho : o.op = .call { callee := .builtin .append, args := #[s, x], argTypes := #[t, tn] }) (vs vx : Value) (hs : a.eval s = vs) (hx : a.eval x = vx)
    (v' : Value) (w' : World) (hr : (Builtin.append_ #[t, tn] o.type #[vs, vx]).run P w = .ok v' w') (h : K (a.put o.dst v') w') :
    if Region.wanted o (yielded ops a.tmps) = true then Oper.wp P o a w K Q else E := by
  have hw : Region.wanted o (yielded ops a.tmps) = true := by simp [Region.wanted, hgd]
  rw [if_pos hw]
  exact Lib.wp_append_run w s x t tn ho vs vx hs hx v' w' hr h

/-- They aren't: what append's run leaves is kept. -/
theorem reach_run (w : World) (gb go : Nat) (ha : Option Addr) (hl hc : Nat) (hcell : w.cell? ⟨gb, go, none⟩ = some (.slice ha hl hc)) (n : Nat) (h : hl < n) (hn : n ≤ 1048576) (R : Value → World → Prop)
    (hr : ∀ x, Dr w x → ∃ a' l' c' w1, (Builtin.append_ #[23, 3] 23 #[.slice ha hl hc, .int .i64 ((n : Int) - (hl : Int))]).run Try.prog x = .ok (.slice a' l' c') w1 ∧ w1.cell? ⟨gb, go, none⟩ = some (.slice ha hl hc) ∧ w1.frozen? ⟨gb, go, none⟩ = false ∧ R (.slice a' l' c') w1) :
    Calls Try.prog 59 #[.pointer (some ⟨gb, go, none⟩), .int .i64 (n : Int)] w fun e w' => e = .returned (.tuple #[]) ∧ ∃ v w1, R v w1 ∧ w' = w1.setCell ⟨gb, go, none⟩ v := by
  have hd : decide ((hl : Int) < (n : Int)) = true := by simp; omega
  have hwr : IntKind.i64.wrap ((n : Int) - (hl : Int)) = (n : Int) - (hl : Int) := by rw [IntKind.wrap_i64]; omega
  have HR := hideIt hr
  clear hr
  go_enter Try.func59, Try.ntmps59
  go_wp2_with (fail)
  go_region_law ((obtain ⟨a', l', c', w1, q0, q1, q2, q3⟩ := HR.out _ ⟨_, rfl⟩; refine step_append_run (by rfl) (.tmp 15) (.tmp 22) 23 3 (by rfl) (.slice ha hl hc) (.int .i64 ((n : Int) - (hl : Int))) (by rfl) (by rfl) _ _ q0 ?_; have Q3 := hideIt q3; clear q0 q3))
  all_goals go_wp2_with (fail)
  all_goals go_end0
  all_goals exact ⟨rfl, _, _, Q3.out, rfl⟩

end Go.Proofs.Ytcpgikgjolomcaa
