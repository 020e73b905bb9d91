/-
  The machine: what is asked of its cells, of a call's frame, arguments: contracts over the program; the conditions: the machine lies there.
-/
import Derived.Test.YtnlgkiejppgfjaaKVmB
namespace Go.Proofs.Ytnlgkiejppgfjaa
open Go.RowKit
set_option linter.unusedVariables false

theorem has_any (w : World) (R : Nat) (mn a : Int) (c1 : w.cell? ⟨R, 1, none⟩ = some (.int .i64 mn)) :
    Calls Try.prog 47 #[.pointer (some ⟨R, 0, none⟩), .int .i64 a] w fun e w' => e = .returned (.bool (decide (0 ≤ a) && decide (a < mn))) ∧ w' = w := by
  by_cases h : 0 ≤ a
  · have hd : decide (0 ≤ a) = true := by simpa using h
    rw [hd]
    go_enter Try.func47, Try.ntmps47
    go_wp2
    go_ret
    exact ⟨rfl, rfl⟩
  · have hd : decide (0 ≤ a) = false := by simpa using h
    rw [hd]
    go_enter Try.func47, Try.ntmps47
    go_wp2
    go_ret
    exact ⟨rfl, rfl⟩

theorem fcell_any (w : World) (C o : Nat) (ba : Nat) (n : Int) (c1 : w.cell? ⟨C, o + 21, none⟩ = some (.int .i64 (ba : Int))) (hb : ba ≤ 65536) (h0 : 0 ≤ n) (h1 : n ≤ 4294967295) :
    Calls Try.prog 42 #[.pointer (some ⟨C, o, none⟩), .int .u32 n] w fun e w' => e = .returned (.int .i64 ((ba : Int) + n)) ∧ w' = w := by
  have z1 : IntKind.i64.wrap n = n := by rw [IntKind.wrap_i64]; omega
  have z2 : IntKind.i64.wrap ((ba : Int) + n) = (ba : Int) + n := by rw [IntKind.wrap_i64]; omega
  go_enter Try.func42, Try.ntmps42
  go_wp2
  go_ret
  exact ⟨rfl, rfl⟩

theorem prepare_bad (w : World) (C o : Nat) (n x : Int) (h : 6 ≤ n) :
    Calls Try.prog 40 #[.pointer (some ⟨C, o, none⟩), .int .u32 n, .int .i64 x] w fun e w' => e = .returned (.int .u8 5) ∧ w' = w := by
  have hd : decide (6 ≤ n) = true := by simpa using h
  go_enter Try.func40, Try.ntmps40
  go_wp2
  go_ret
  exact ⟨rfl, rfl⟩
theorem prepare_ok (w : World) (C o : Nat) (n : Nat) (x : Int) (h : n < 6) (u : Value) (hc : w.cell? ⟨C, o + 14 + n, none⟩ = some u) (hf : w.frozen? ⟨C, o + 14 + n, none⟩ = false) :
    Calls Try.prog 40 #[.pointer (some ⟨C, o, none⟩), .int .u32 (n : Int), .int .i64 x] w fun e w' => e = .returned (.int .u8 0) ∧ w' = w.setCell ⟨C, o + 14 + n, none⟩ (.int .i64 x) := by
  have hd : decide (6 ≤ (n : Int)) = false := by simp; omega
  have h6 : (n : Int) < 6 := by omega
  go_enter Try.func40, Try.ntmps40
  go_wp2
  go_ret
  exact ⟨rfl, rfl⟩
theorem param_bad (w : World) (C o : Nat) (n : Int) (h : 6 ≤ n) :
    Calls Try.prog 53 #[.pointer (some ⟨C, o, none⟩), .int .u32 n] w fun e w' => e = .returned (.tuple #[.int .i64 0, .int .u8 5]) ∧ w' = w := by
  have hd : decide (6 ≤ n) = true := by simpa using h
  go_enter Try.func53, Try.ntmps53
  go_wp2
  go_ret2
  exact ⟨rfl, rfl⟩
theorem param_ok (w : World) (C o : Nat) (n : Nat) (x : Int) (h : n < 6) (hc : w.cell? ⟨C, o + 8 + n, none⟩ = some (.int .i64 x)) :
    Calls Try.prog 53 #[.pointer (some ⟨C, o, none⟩), .int .u32 (n : Int)] w fun e w' => e = .returned (.tuple #[.int .i64 x, .int .u8 0]) ∧ w' = w := by
  have hd : decide (6 ≤ (n : Int)) = false := by simp; omega
  have h6 : (n : Int) < 6 := by omega
  go_enter Try.func53, Try.ntmps53
  go_wp2
  go_ret2
  exact ⟨rfl, rfl⟩
theorem index_any (w : World) (a b c : Int) :
    Calls Try.prog 51 #[.int .i64 a, .int .i64 b, .int .i64 c] w fun e w' => e = .returned (.tuple #[.int .i64 (if b < 0 ∨ c ≤ b then 0 else wrap64 (a + b)), .int .u8 (if b < 0 ∨ c ≤ b then 4 else 0)]) ∧ w' = w := by
  by_cases h : b < 0
  · have hd : decide (b < 0) = true := by simpa using h
    rw [if_pos (.inl h), if_pos (.inl h)]
    go_enter Try.func51, Try.ntmps51
    go_wp2
    go_ret2
    exact ⟨rfl, rfl⟩
  · have hd : decide (b < 0) = false := by simpa using h
    by_cases h2 : c ≤ b
    · have hd2 : decide (c ≤ b) = true := by simpa using h2
      rw [if_pos (.inr h2), if_pos (.inr h2)]
      go_enter Try.func51, Try.ntmps51
      go_wp2
      go_ret2
      exact ⟨rfl, rfl⟩
    · have hd2 : decide (c ≤ b) = false := by simpa using h2
      rw [if_neg (by omega), if_neg (by omega)]
      go_enter Try.func51, Try.ntmps51
      go_wp2
      go_ret2
      exact ⟨rfl, rfl⟩

/-- What the lists say of the machine. -/
structure PL (mem : List Int) (cls : List Cl) (W : Nat → List Int) (ce tr : List Int) (N : Nat) : Prop where
  cez : ∃ z, ce = mem ++ List.replicate z 0
  cel : ce.length ≤ 65536
  inn : ∀ (k : Nat) (c : Cl), cls[k]? = some c → ∀ x ∈ W k, ∃ n : Nat, x = (n : Int) ∧ c.ba ≤ n ∧ n < ce.length
  own : ∀ (j : Nat) (x : Int), mem[j]? = some x → x ≠ 0 → ∀ (k : Nat) (c : Cl), cls[k]? = some c → c.ba ≤ j → (∀ c' : Cl, cls[k + 1]? = some c' → j < c'.ba) → (j : Int) ∈ W k
  len : ∀ k, (W k).length ≤ N
  ok : ∀ (k : Nat) (c : Cl), cls[k]? = some c → c.ok
  up : ∀ (k : Nat) (c c' : Cl), cls[k]? = some c → cls[k + 1]? = some c' → c.ba ≤ c'.ba
  top : ∀ (k : Nat) (c : Cl), cls[k]? = some c → c.ba ≤ mem.length
  trl : tr.length ≤ N
  nle : N ≤ 8388608
  cll : cls.length ≤ 2000
def MV (w w0 : World) (R : Nat) (col : Col) (im : PIm) (mem : List Int) (cls : List Cl) (tr : List Int) (ex : Int) (N : Nat) : Prop :=
  ∃ ce W cv kv tv, MX w w0 R col im mem.length ce cls W tr ex cv kv tv ∧ PL mem cls W ce tr N

section
variable {w w' w0 : World} {R : Nat} {col col' : Col} {im : PIm} {mn : Nat} {mem ce : List Int} {cls : List Cl} {W : Nat → List Int} {tr : List Int} {ex : Int} {cv kv tv : Value} {N : Nat}
theorem MV.keep (h : MV w w0 R col im mem cls tr ex N) (hq : Q w w') : MV w' w0 R col im mem cls tr ex N := by
  obtain ⟨ce, W, cv, kv, tv, h1, h2⟩ := h
  exact ⟨ce, W, cv, kv, tv, h1.keep hq, h2⟩
theorem MV.other (h : MV w w0 R col im mem cls tr ex N) {p : Addr} (hp : col p.block = none) (hb : w0.heap.size ≤ p.block) (u : Value) : MV (w.setCell p u) w0 R col im mem cls tr ex N := by
  obtain ⟨ce, W, cv, kv, tv, h1, h2⟩ := h
  exact ⟨ce, W, cv, kv, tv, h1.other hp hb u, h2⟩
theorem PL.mle (h : PL mem cls W ce tr N) : mem.length ≤ ce.length := by
  obtain ⟨z, e⟩ := h.cez
  rw [e]; simp
theorem PL.ce_at (h : PL mem cls W ce tr N) {j : Nat} {x : Int} (hx : mem[j]? = some x) : ce[j]? = some x := by
  obtain ⟨z, e⟩ := h.cez
  rw [e, List.getElem?_append_left (List.getElem?_eq_some_iff.1 hx).1]; exact hx
theorem MX.c0 (h : MX w w0 R col im mn ce cls W tr ex cv kv tv) : w.cell? ⟨R, 0, none⟩ = some cv ∧ w.cell? ⟨R, 1, none⟩ = some (.int .i64 (mn : Int)) ∧ w.cell? ⟨R, 2, none⟩ = some (.slice im.wa im.ws.length im.wc) ∧ w.cell? ⟨R, 3, none⟩ = some (.slice im.sa im.st.length im.sc) ∧ w.cell? ⟨R, 4, none⟩ = some (.slice im.fa im.fr.length im.fc) ∧ w.cell? ⟨R, 5, none⟩ = some (.slice im.ea im.da.length im.ec) ∧ w.cell? ⟨R, 6, none⟩ = some kv ∧ w.cell? ⟨R, 7, none⟩ = some (.int .i64 ex) ∧ w.cell? ⟨R, 8, none⟩ = some tv :=
  ⟨cell_of_block h.blk 0, cell_of_block h.blk 1, cell_of_block h.blk 2, cell_of_block h.blk 3, cell_of_block h.blk 4, cell_of_block h.blk 5, cell_of_block h.blk 6, cell_of_block h.blk 7, cell_of_block h.blk 8⟩
theorem MX.fz (h : MX w w0 R col im mn ce cls W tr ex cv kv tv) (j : Nat) : w.frozen? ⟨R, j, none⟩ = false := free_of_block h.blk j

theorem load_any (hm : MV w w0 R col im mem cls tr ex N) (a : Int) :
    Calls Try.prog 52 #[.pointer (some ⟨R, 0, none⟩), .int .i64 a] w fun e w' => e = .returned (.tuple #[.int .i64 (if inM mem a then getM mem a else 0), .int .u8 (if inM mem a then 0 else 5)]) ∧ w' = w := by
  obtain ⟨ce, W, cv, kv, tv, h, p⟩ := hm
  obtain ⟨c0, c1, -⟩ := h.c0
  have CH := hideIt (has_any w R (mem.length : Int) a c1)
  cases hin : inM mem a with
  | false =>
    rw [show (decide (0 ≤ a) && decide (a < (mem.length : Int))) = false from hin] at CH
    simp only [Bool.false_eq_true, if_false]
    clear h p c0 c1 hin
    go_enter Try.func52, Try.ntmps52
    go_wp2_with (first | (go_at_call 47; refine CH.out.mono ?_; rintro e y ⟨rfl, rfl⟩) | fail)
    go_ret2
    exact ⟨rfl, rfl⟩
  | true =>
    rw [show (decide (0 ≤ a) && decide (a < (mem.length : Int))) = true from hin] at CH
    simp only [if_true]
    unfold inM at hin
    simp only [Bool.and_eq_true, decide_eq_true_eq] at hin
    obtain ⟨n, rfl⟩ : ∃ n : Nat, a = (n : Int) := ⟨a.toNat, by omega⟩
    have hn : n < mem.length := by omega
    obtain ⟨x, hx⟩ := get_of_lt hn
    have hg : getM mem (n : Int) = x := by unfold getM; rw [List.getD_eq_getElem?_getD, Int.toNat_natCast, hx]; rfl
    rw [hg]
    obtain ⟨g, cap, cur, e1, e2, e3, e4, e5⟩ := row_at h.ce (p.ce_at hx)
    rw [e1] at c0
    have c9 : w.cell? ⟨g, n, none⟩ = some (.int .i64 x) := (cell_of_block e2 n).trans e3
    have hl : (n : Int) < (ce.length : Int) := by have := p.mle; omega
    clear h p c1 hin hx hg e1 e2 e3 e4 e5 hn
    go_enter Try.func52, Try.ntmps52
    go_wp2_with (first | (go_at_call 47; refine CH.out.mono ?_; rintro e y ⟨rfl, rfl⟩) | fail)
    go_ret2
    exact ⟨rfl, rfl⟩
end
end Go.Proofs.Ytnlgkiejppgfjaa
