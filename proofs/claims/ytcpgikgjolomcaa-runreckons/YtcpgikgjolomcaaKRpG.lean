/-
  The code of the statement RunReckons, and its plain run; no program in sight but where its lists lie; the conditions: an operation of two numbers, a type.
-/
import Derived.Test.YtcpgikgjolomcaaKRpC
namespace Go.Proofs.Ytcpgikgjolomcaa
open Go.RowKit
set_option linter.unusedVariables false

def rI (op t x y : Int) : List PI := [⟨20, 0, 0, 0, 0, x, [], none, 0⟩, ⟨20, 0, 1, 0, 0, y, [], none, 0⟩, ⟨op, t, 2, 0, 1, 0, [], none, 0⟩, ⟨26, 0, 3, 0, 0, 0, [], none, 0⟩, ⟨29, 0, 3, 3, 0, 1, [], none, 0⟩, ⟨31, 0, 0, 3, 2, 0, [], none, 0⟩, ⟨30, 0, 4, 3, 0, 0, [], none, 0⟩, ⟨33, 0, 0, 4, 0, 0, [], none, 0⟩]
def rP (op t x y : Int) (g0 : Nat) : PP := ⟨rI op t x y, true, 2, 0, 0, some ⟨g0, 0, none⟩, 8⟩
def rF (op t x y : Int) (g0 gs g1 : Nat) : PF := ⟨0, 5, [2], [rP op t x y g0], some ⟨gs, 0, none⟩, 1, some ⟨g1, 0, none⟩, 1⟩
def rC (op t x y : Int) (g0 gs g1 g2 : Nat) : PC := ⟨[], [], [rF op t x y g0 gs g1], none, 0, none, 0, some ⟨g2, 0, none⟩, 1⟩

theorem rC_valid (op t x y : Int) (g0 gs g1 g2 : Nat) (h1 : 1 ≤ op) (h2 : op ≤ 16) (h3 : 0 ≤ t) (h4 : t ≤ 5) : validP (rC op t x y g0 gs g1 g2) = 0 := by
  have ho : op = 1 ∨ op = 2 ∨ op = 3 ∨ op = 4 ∨ op = 5 ∨ op = 6 ∨ op = 7 ∨ op = 8 ∨ op = 9 ∨ op = 10 ∨ op = 11 ∨ op = 12 ∨ op = 13 ∨ op = 14 ∨ op = 15 ∨ op = 16 := by omega
  have ht : t = 0 ∨ t = 1 ∨ t = 2 ∨ t = 3 ∨ t = 4 ∨ t = 5 := by omega
  clear h1 h2 h3 h4
  rcases ho with rfl | rfl | rfl | rfl | rfl | rfl | rfl | rfl | rfl | rfl | rfl | rfl | rfl | rfl | rfl | rfl <;> rcases ht with rfl | rfl | rfl | rfl | rfl | rfl <;> rfl

theorem rC_bad (op t x y : Int) (g0 gs g1 g2 : Nat) (h1 : 1 ≤ op) (h2 : op ≤ 16) (hd : ¬ Burin.do2 op t x y = 0) : ocP (runP (rC op t x y g0 gs g1 g2) 100) = ⟨false, 0, Burin.do2 op t x y, false, 3, []⟩ := by
  have a0 : ¬ op = 33 := by omega
  have a1 : ¬ op = 31 := by omega
  have a2 : ¬ op = 30 := by omega
  have a3 : ¬ op = 32 := by omega
  have b : ¬ op = 20 ∧ ¬ op = 21 ∧ ¬ op = 22 ∧ ¬ op = 23 ∧ ¬ op = 24 ∧ ¬ op = 25 ∧ ¬ op = 26 ∧ ¬ op = 27 ∧ ¬ op = 28 ∧ ¬ op = 29 := by omega
  simp [runP, callR, rC, rF, rP, rI, start, allocs, partsR, insR, exI, reck1, reck2, setR, rg, St.up, a0, a1, a2, a3, b, hd, ocP]

theorem rC_good (op t x y : Int) (g0 gs g1 g2 : Nat) (h1 : 1 ≤ op) (h2 : op ≤ 16) (hd : Burin.do2 op t x y = 0) : ocP (runP (rC op t x y g0 gs g1 g2) 100) = ⟨true, Burin.do1 op t x y, 0, false, 9, [Burin.do1 op t x y]⟩ := by
  have a0 : ¬ op = 33 := by omega
  have a1 : ¬ op = 31 := by omega
  have a2 : ¬ op = 30 := by omega
  have a3 : ¬ op = 32 := by omega
  have b : ¬ op = 20 ∧ ¬ op = 21 ∧ ¬ op = 22 ∧ ¬ op = 23 ∧ ¬ op = 24 ∧ ¬ op = 25 ∧ ¬ op = 26 ∧ ¬ op = 27 ∧ ¬ op = 28 ∧ ¬ op = 29 := by omega
  have w1 : wrap64 1 = 1 := by decide +kernel
  have w2 : hiA 1 = 0 := by decide
  have w3 : loA 1 = 1 := by decide
  simp [runP, callR, rC, rF, rP, rI, start, allocs, partsR, insR, exI, reck1, reck2, setR, rg, St.up, a0, a1, a2, a3, b, hd, ocP, w1, w2, w3, Me.inB, Me.upd]

end Go.Proofs.Ytcpgikgjolomcaa
