/-
  The statement RunReckons: its code in memory; facts on worlds; the conditions: an operation of two numbers, a type.
-/
import Derived.Test.YtcpgikgjolomcaaKRpG
import Derived.Test.YtcpgikgjolomcaaKNuDo
namespace Go.Proofs.Ytcpgikgjolomcaa
open Go.RowKit
set_option linter.unusedVariables false

theorem At.mk7 {w : World} {b o : Nat} {x : PI} {all : Array Value} {T : TypeId} (h : w.heap[b]? = some (.cells all T (0, 0))) (e0 : all[o]? = x.cells[0]?) (e1 : all[o + 1]? = x.cells[1]?) (e2 : all[o + 2]? = x.cells[2]?) (e3 : all[o + 3]? = x.cells[3]?) (e4 : all[o + 4]? = x.cells[4]?) (e5 : all[o + 5]? = x.cells[5]?) (e6 : all[o + 6]? = x.cells[6]?) : At w b o x.cells := fun j hj => by
  rw [Me.cell_of_block h]
  have : j < 7 := hj
  match j, this with
  | 0, _ => exact e0
  | 1, _ => exact e1
  | 2, _ => exact e2
  | 3, _ => exact e3
  | 4, _ => exact e4
  | 5, _ => exact e5
  | 6, _ => exact e6

abbrev rcells (op t x y : Int) : Array Value := #[.int .u8 20, .int .u8 0, .int .i64 0, .int .i64 0, .int .i64 0, .int .i64 x, .slice none 0 0, .int .u8 20, .int .u8 0, .int .i64 1, .int .i64 0, .int .i64 0, .int .i64 y, .slice none 0 0, .int .u8 op, .int .u8 t, .int .i64 2, .int .i64 0, .int .i64 1, .int .i64 0, .slice none 0 0, .int .u8 26, .int .u8 0, .int .i64 3, .int .i64 0, .int .i64 0, .int .i64 0, .slice none 0 0, .int .u8 29, .int .u8 0, .int .i64 3, .int .i64 3, .int .i64 0, .int .i64 1, .slice none 0 0, .int .u8 31, .int .u8 0, .int .i64 0, .int .i64 3, .int .i64 2, .int .i64 0, .slice none 0 0, .int .u8 30, .int .u8 0, .int .i64 4, .int .i64 3, .int .i64 0, .int .i64 0, .slice none 0 0, .int .u8 33, .int .u8 0, .int .i64 0, .int .i64 4, .int .i64 0, .int .i64 0, .slice none 0 0]

theorem rC_ok {w : World} {op t x y : Int} {g0 gs g1 g2 : Nat} (h1 : 1 ≤ op) (h2 : op ≤ 16) (h3 : 0 ≤ t) (h4 : t ≤ 5) (hx : I64 x) (hy : I64 y)
    (b0 : w.heap[g0]? = some (.cells (rcells op t x y) 42 (0, 0)))
    (bs : w.heap[gs]? = some (.cells #[.int .i64 2] 3 (0, 0)))
    (b1 : w.heap[g1]? = some (.cells #[.slice (some ⟨g0, 0, none⟩) 8 8, .bool true, .int .i64 2, .int .i64 0, .int .i64 0] 45 (0, 0)))
    (b2 : w.heap[g2]? = some (.cells #[.int .i64 0, .int .i64 5, .slice (some ⟨gs, 0, none⟩) 1 1, .slice (some ⟨g1, 0, none⟩) 1 1] 48 (0, 0))) : (rC op t x y g0 gs g1 g2).ok w := by
  have z : ∀ n : Int, 0 ≤ n → n ≤ 100 → I64 n := fun n _ _ => by unfold I64; omega
  have s1 : ∀ g z k, k ≤ 8 → z ≤ 64 → sok z (some ⟨g, 0, none⟩) k k := fun g z k hk hz => ⟨Nat.le_refl _, by unfold maxLen; omega, (fun h => by cases h), by have : k * z ≤ 8 * 64 := Nat.mul_le_mul hk hz; omega⟩
  refine ⟨sok_none _, Lst.nil, sok_none _, Lst.nil, s1 _ _ _ (show 1 ≤ 8 by decide) (by decide), Lst.one ⟨At.block' 0 _ b2 ?_, ⟨z _ (show (0 : Int) ≤ 0 by decide) (show (0 : Int) ≤ 100 by decide), z _ (show (0 : Int) ≤ 5 by decide) (show (5 : Int) ≤ 100 by decide), s1 _ _ _ (show 1 ≤ 8 by decide) (by decide), Lst.one ⟨(Me.cell_of_block bs 0).trans rfl, z _ (by decide) (by decide)⟩, s1 _ _ _ (show 1 ≤ 8 by decide) (by decide), Lst.one ⟨At.block' 0 _ b1 ?_, ⟨z _ (show (0 : Int) ≤ 2 by decide) (show (2 : Int) ≤ 100 by decide), z _ (show (0 : Int) ≤ 0 by decide) (show (0 : Int) ≤ 100 by decide), z _ (show (0 : Int) ≤ 0 by decide) (show (0 : Int) ≤ 100 by decide), s1 _ _ _ (show 8 ≤ 8 by decide) (by decide), ?_⟩⟩⟩⟩⟩
  · intro j hj
    have : j < 4 := hj
    match j, this with
    | 0, _ => rfl
    | 1, _ => rfl
    | 2, _ => rfl
    | 3, _ => rfl
  · intro j hj
    have : j < 5 := hj
    match j, this with
    | 0, _ => rfl
    | 1, _ => rfl
    | 2, _ => rfl
    | 3, _ => rfl
    | 4, _ => rfl
  · intro k q e
    have hk : k < 8 := (List.getElem?_eq_some_iff.1 e).1
    refine ⟨g0, 0, rfl, ?_⟩
    rw [Nat.zero_add]
    match k, hk with
    | 0, _ =>
      have e' : (⟨20, 0, 0, 0, 0, x, [], none, 0⟩ : PI) = q := Option.some.inj e
      subst e'
      exact ⟨At.mk7 b0 rfl rfl rfl rfl rfl rfl rfl, ⟨⟨show (0 : Int) ≤ 20 by decide, show (20 : Int) ≤ 255 by decide⟩, ⟨show (0 : Int) ≤ 0 by decide, show (0 : Int) ≤ 255 by decide⟩, z _ (show (0 : Int) ≤ 0 by decide) (show (0 : Int) ≤ 100 by decide), z _ (show (0 : Int) ≤ 0 by decide) (show (0 : Int) ≤ 100 by decide), z _ (show (0 : Int) ≤ 0 by decide) (show (0 : Int) ≤ 100 by decide), hx, sok_none _, Lst.nil⟩⟩
    | 1, _ =>
      have e' : (⟨20, 0, 1, 0, 0, y, [], none, 0⟩ : PI) = q := Option.some.inj e
      subst e'
      exact ⟨At.mk7 b0 rfl rfl rfl rfl rfl rfl rfl, ⟨⟨show (0 : Int) ≤ 20 by decide, show (20 : Int) ≤ 255 by decide⟩, ⟨show (0 : Int) ≤ 0 by decide, show (0 : Int) ≤ 255 by decide⟩, z _ (show (0 : Int) ≤ 1 by decide) (show (1 : Int) ≤ 100 by decide), z _ (show (0 : Int) ≤ 0 by decide) (show (0 : Int) ≤ 100 by decide), z _ (show (0 : Int) ≤ 0 by decide) (show (0 : Int) ≤ 100 by decide), hy, sok_none _, Lst.nil⟩⟩
    | 2, _ =>
      have e' : (⟨op, t, 2, 0, 1, 0, [], none, 0⟩ : PI) = q := Option.some.inj e
      subst e'
      exact ⟨At.mk7 b0 rfl rfl rfl rfl rfl rfl rfl, ⟨⟨by show 0 ≤ op; omega, by show op ≤ 255; omega⟩, ⟨by show 0 ≤ t; omega, by show t ≤ 255; omega⟩, z _ (show (0 : Int) ≤ 2 by decide) (show (2 : Int) ≤ 100 by decide), z _ (show (0 : Int) ≤ 0 by decide) (show (0 : Int) ≤ 100 by decide), z _ (show (0 : Int) ≤ 1 by decide) (show (1 : Int) ≤ 100 by decide), z _ (show (0 : Int) ≤ 0 by decide) (show (0 : Int) ≤ 100 by decide), sok_none _, Lst.nil⟩⟩
    | 3, _ =>
      have e' : (⟨26, 0, 3, 0, 0, 0, [], none, 0⟩ : PI) = q := Option.some.inj e
      subst e'
      exact ⟨At.mk7 b0 rfl rfl rfl rfl rfl rfl rfl, ⟨⟨show (0 : Int) ≤ 26 by decide, show (26 : Int) ≤ 255 by decide⟩, ⟨show (0 : Int) ≤ 0 by decide, show (0 : Int) ≤ 255 by decide⟩, z _ (show (0 : Int) ≤ 3 by decide) (show (3 : Int) ≤ 100 by decide), z _ (show (0 : Int) ≤ 0 by decide) (show (0 : Int) ≤ 100 by decide), z _ (show (0 : Int) ≤ 0 by decide) (show (0 : Int) ≤ 100 by decide), z _ (show (0 : Int) ≤ 0 by decide) (show (0 : Int) ≤ 100 by decide), sok_none _, Lst.nil⟩⟩
    | 4, _ =>
      have e' : (⟨29, 0, 3, 3, 0, 1, [], none, 0⟩ : PI) = q := Option.some.inj e
      subst e'
      exact ⟨At.mk7 b0 rfl rfl rfl rfl rfl rfl rfl, ⟨⟨show (0 : Int) ≤ 29 by decide, show (29 : Int) ≤ 255 by decide⟩, ⟨show (0 : Int) ≤ 0 by decide, show (0 : Int) ≤ 255 by decide⟩, z _ (show (0 : Int) ≤ 3 by decide) (show (3 : Int) ≤ 100 by decide), z _ (show (0 : Int) ≤ 3 by decide) (show (3 : Int) ≤ 100 by decide), z _ (show (0 : Int) ≤ 0 by decide) (show (0 : Int) ≤ 100 by decide), z _ (show (0 : Int) ≤ 1 by decide) (show (1 : Int) ≤ 100 by decide), sok_none _, Lst.nil⟩⟩
    | 5, _ =>
      have e' : (⟨31, 0, 0, 3, 2, 0, [], none, 0⟩ : PI) = q := Option.some.inj e
      subst e'
      exact ⟨At.mk7 b0 rfl rfl rfl rfl rfl rfl rfl, ⟨⟨show (0 : Int) ≤ 31 by decide, show (31 : Int) ≤ 255 by decide⟩, ⟨show (0 : Int) ≤ 0 by decide, show (0 : Int) ≤ 255 by decide⟩, z _ (show (0 : Int) ≤ 0 by decide) (show (0 : Int) ≤ 100 by decide), z _ (show (0 : Int) ≤ 3 by decide) (show (3 : Int) ≤ 100 by decide), z _ (show (0 : Int) ≤ 2 by decide) (show (2 : Int) ≤ 100 by decide), z _ (show (0 : Int) ≤ 0 by decide) (show (0 : Int) ≤ 100 by decide), sok_none _, Lst.nil⟩⟩
    | 6, _ =>
      have e' : (⟨30, 0, 4, 3, 0, 0, [], none, 0⟩ : PI) = q := Option.some.inj e
      subst e'
      exact ⟨At.mk7 b0 rfl rfl rfl rfl rfl rfl rfl, ⟨⟨show (0 : Int) ≤ 30 by decide, show (30 : Int) ≤ 255 by decide⟩, ⟨show (0 : Int) ≤ 0 by decide, show (0 : Int) ≤ 255 by decide⟩, z _ (show (0 : Int) ≤ 4 by decide) (show (4 : Int) ≤ 100 by decide), z _ (show (0 : Int) ≤ 3 by decide) (show (3 : Int) ≤ 100 by decide), z _ (show (0 : Int) ≤ 0 by decide) (show (0 : Int) ≤ 100 by decide), z _ (show (0 : Int) ≤ 0 by decide) (show (0 : Int) ≤ 100 by decide), sok_none _, Lst.nil⟩⟩
    | 7, _ =>
      have e' : (⟨33, 0, 0, 4, 0, 0, [], none, 0⟩ : PI) = q := Option.some.inj e
      subst e'
      exact ⟨At.mk7 b0 rfl rfl rfl rfl rfl rfl rfl, ⟨⟨show (0 : Int) ≤ 33 by decide, show (33 : Int) ≤ 255 by decide⟩, ⟨show (0 : Int) ≤ 0 by decide, show (0 : Int) ≤ 255 by decide⟩, z _ (show (0 : Int) ≤ 0 by decide) (show (0 : Int) ≤ 100 by decide), z _ (show (0 : Int) ≤ 4 by decide) (show (4 : Int) ≤ 100 by decide), z _ (show (0 : Int) ≤ 0 by decide) (show (0 : Int) ≤ 100 by decide), z _ (show (0 : Int) ≤ 0 by decide) (show (0 : Int) ≤ 100 by decide), sok_none _, Lst.nil⟩⟩

theorem rrun_bad (w : World) (op t x y : Int) (g0 gs g1 g2 : Nat) (h1 : 1 ≤ op) (h2 : op ≤ 16) (h3 : 0 ≤ t) (h4 : t ≤ 5) (h : (rC op t x y g0 gs g1 g2).ok w) (hd : ¬ Burin.do2 op t x y = 0) : Calls Try.prog 9 #[.agg #[.slice none 0 0, .slice none 0 0, .slice (some ⟨g2, 0, none⟩) 1 1], .int .i64 100] w fun e w' => ∃ ta tc, e = .returned (.tuple #[.agg #[.bool false, .int .i64 0, .int .u8 (Burin.do2 op t x y), .bool false, .int .i64 3, .slice ta 0 tc], .int .i64 0]) ∧ Q w w' := by
  refine (run_good w _ h 100 (by decide) (rC_valid _ _ _ _ _ _ _ _ h1 h2 h3 h4)).mono ?_
  rintro e w' ⟨v, rfl, ta, tc, hv, -, hb⟩
  rw [rC_bad _ _ _ _ _ _ _ _ h1 h2 hd] at hv
  exact ⟨ta, tc, by rw [hv]; rfl, hb⟩
theorem rrun_good (w : World) (op t x y : Int) (g0 gs g1 g2 : Nat) (h1 : 1 ≤ op) (h2 : op ≤ 16) (h3 : 0 ≤ t) (h4 : t ≤ 5) (h : (rC op t x y g0 gs g1 g2).ok w) (hd : Burin.do2 op t x y = 0) : Calls Try.prog 9 #[.agg #[.slice none 0 0, .slice none 0 0, .slice (some ⟨g2, 0, none⟩) 1 1], .int .i64 100] w fun e w' => ∃ g tc, e = .returned (.tuple #[.agg #[.bool true, .int .i64 (Burin.do1 op t x y), .int .u8 0, .bool false, .int .i64 9, .slice (some ⟨g, 0, none⟩) 1 tc], .int .i64 0]) ∧ w'.cell? ⟨g, 0, none⟩ = some (.int .i64 (Burin.do1 op t x y)) ∧ Q w w' := by
  refine (run_good w _ h 100 (by decide) (rC_valid _ _ _ _ _ _ _ _ h1 h2 h3 h4)).mono ?_
  rintro e w' ⟨v, rfl, ta, tc, hv, ho, hb⟩
  rw [rC_good _ _ _ _ _ _ _ _ h1 h2 hd] at hv ho
  obtain ⟨g, cap, cur, e0, e1, e2, -, -⟩ := row_at (L := [Burin.do1 op t x y]) ho (n := 0) (x := Burin.do1 op t x y) rfl
  injection e0 with e0
  subst e0
  exact ⟨g, tc, by rw [hv]; rfl, (Me.cell_of_block e1 0).trans e2, hb⟩

end Go.Proofs.Ytcpgikgjolomcaa
