/-
 Which cells a memory has, one cell changed, blocks forgotten: plain functions; no program in sight; no conditions.
-/
namespace Go.Proofs.Ytphknepblchkdaa.Me

/-- There is that cell. -/
def inB (bs : List Nat) (a b : Int) : Bool := decide (0 ≤ a) && decide (a < bs.length) && decide (0 ≤ b) && decide (b < (bs.getD a.toNat 0 : Nat))
theorem inB_iff {bs : List Nat} {a b : Int} : inB bs a b = true ↔ ∃ i j c : Nat, a = (i : Int) ∧ b = (j : Int) ∧ bs[i]? = some c ∧ j < c := by
 simp only [inB, Bool.and_eq_true, decide_eq_true_eq]
 constructor
 ·rintro ⟨⟨⟨h1, h2⟩, h3⟩, h4⟩
  have hl : a.toNat < bs.length := by omega
  refine ⟨a.toNat, b.toNat, bs[a.toNat], by omega, by omega, by simp [hl], ?_⟩
  have : bs.getD a.toNat 0 = bs[a.toNat] := by simp [List.getD, hl]
  omega
 ·rintro ⟨i, j, c, rfl, rfl, h1, h2⟩
  have hl := (List.getElem?_eq_some_iff.1 h1).1
  have : bs.getD ((i : Int).toNat) 0 = c := by simp [List.getD, h1]
  omega
/-- f, but v at (a, b). -/
def upd (f : Int → Int → Int) (a b v : Int) : Int → Int → Int := fun x y => if x = a ∧ y = b then v else f x y
/-- f, but 0 in the blocks from k on. -/
def keepf (f : Int → Int → Int) (k : Nat) : Int → Int → Int := fun a b => if a < (k : Int) then f a b else 0

end Go.Proofs.Ytphknepblchkdaa.Me
