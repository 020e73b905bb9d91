/-
  Boxes of spans, and what they hold behind calls that only make memory; the plain laws of joined spans. No conditions but those that each fact bears.
-/
import Derived.Test.YtancfhnhjfhbfabSpG
set_option linter.unusedVariables false
namespace Burin
theorem jo_none (al ah bl bh : Int) (h : nonB al ah = true) : joL al ah bl bh = bl ∧ joH al ah bl bh = bh := by
  unfold joL joH
  rw [h]
  exact ⟨rfl, rfl⟩
theorem jo_none' (al ah bl bh : Int) (ha : nonB al ah = false) (h : nonB bl bh = true) : joL al ah bl bh = al ∧ joH al ah bl bh = ah := by
  unfold joL joH
  rw [ha, h]
  exact ⟨rfl, rfl⟩
theorem jo_both (al ah bl bh : Int) (ha : nonB al ah = false) (h : nonB bl bh = false) : joL al ah bl bh = min al bl ∧ joH al ah bl bh = max ah bh := by
  unfold joL joH
  rw [ha, h]
  exact ⟨rfl, rfl⟩
theorem nonB_f {l r : Int} (h : nonB l r = false) : l ≤ r := by unfold nonB at h; simpa using h
theorem nonB_t {l r : Int} (h : nonB l r = true) : r < l := by unfold nonB at h; simpa using h
theorem inB_none {l r a b : Int} (h : nonB l r = true) : inB l r a b = true := by unfold inB; rw [h]; rfl
theorem inB_le {l r a b : Int} (h1 : a ≤ l) (h2 : r ≤ b) : inB l r a b = true := by unfold inB nonB; simp; omega
theorem inB_un {l r a b : Int} (hn : nonB l r = false) (h : inB l r a b = true) : a ≤ l ∧ r ≤ b := by unfold inB at h; rw [hn] at h; simpa using h
/-- What is known of two spans and their join. -/
theorem jo_facts (al ah bl bh cl ch : Int) : inB al ah (joL al ah bl bh) (joH al ah bl bh) = true ∧ inB bl bh (joL al ah bl bh) (joH al ah bl bh) = true ∧ joL al ah al ah = al ∧ joH al ah al ah = ah ∧
    (nonB al ah = false → joL al ah 1 0 = al ∧ joH al ah 1 0 = ah) ∧ (nonB al ah = true → joL al ah 1 0 = 1 ∧ joH al ah 1 0 = 0) ∧
    (nonB al ah = false → nonB bl bh = false → joL bl bh al ah = joL al ah bl bh ∧ joH bl bh al ah = joH al ah bl bh) ∧
    (inB al ah cl ch = true → inB bl bh cl ch = true → inB (joL al ah bl bh) (joH al ah bl bh) cl ch = true) ∧
    ((nonB al ah && nonB bl bh) = false → hasB (joL al ah bl bh) (joH al ah bl bh) (joL al ah bl bh) = true ∧ hasB (joL al ah bl bh) (joH al ah bl bh) (joH al ah bl bh) = true) := by
  have hs : ∀ l r, l ≤ r → hasB l r l = true ∧ hasB l r r = true := by intro l r h; unfold hasB; simp; exact h
  have n10 : nonB 1 0 = true := rfl
  cases ha : nonB al ah with
  | true =>
    obtain ⟨e1, e2⟩ := jo_none al ah bl bh ha
    obtain ⟨e3, e4⟩ := jo_none al ah al ah ha
    obtain ⟨e5, e6⟩ := jo_none al ah 1 0 ha
    rw [e1, e2, e3, e4, e5, e6]
    refine ⟨inB_none ha, inB_le (Int.le_refl _) (Int.le_refl _), rfl, rfl, (fun h => Bool.noConfusion h), fun _ => ⟨rfl, rfl⟩, (fun h => Bool.noConfusion h), fun _ h => h, fun h => ?_⟩
    exact hs bl bh (nonB_f (by simpa using h))
  | false =>
    have la := nonB_f ha
    obtain ⟨e3, e4⟩ := jo_both al ah al ah ha ha
    obtain ⟨e5, e6⟩ := jo_none' al ah 1 0 ha n10
    cases hb : nonB bl bh with
    | true =>
      obtain ⟨e1, e2⟩ := jo_none' al ah bl bh ha hb
      rw [e1, e2, e3, e4, e5, e6]
      exact ⟨inB_le (Int.le_refl _) (Int.le_refl _), inB_none hb, by omega, by omega, fun _ => ⟨rfl, rfl⟩, (fun h => Bool.noConfusion h), (fun _ h => Bool.noConfusion h), fun h _ => h, fun _ => hs al ah la⟩
    | false =>
      have lb := nonB_f hb
      obtain ⟨e1, e2⟩ := jo_both al ah bl bh ha hb
      obtain ⟨e7, e8⟩ := jo_both bl bh al ah hb ha
      rw [e1, e2, e3, e4, e5, e6, e7, e8]
      refine ⟨inB_le (by omega) (by omega), inB_le (by omega) (by omega), by omega, by omega, fun _ => ⟨rfl, rfl⟩, (fun h => Bool.noConfusion h), fun _ _ => ⟨by omega, by omega⟩, fun h1 h2 => ?_, fun _ => hs _ _ (by omega)⟩
      obtain ⟨k1, k2⟩ := inB_un ha h1
      obtain ⟨k3, k4⟩ := inB_un hb h2
      exact inB_le (by omega) (by omega)
end Burin
namespace Go.Proofs.Ytancfhnhjfhbfab
open Go.RowKit
open Burin
set_option linter.unusedVariables false
theorem keepc {w x : World} (q : Q w x) {p : Addr} {v : Value} (h : w.cell? p = some v) : x.cell? p = some v := (Below.cell q (World.block_lt_of_cell? w p h)).trans h
theorem Q.bx {w x : World} (q : Q w x) (l r : Int) : Q w (bx x l r) := Q.alloc q _
theorem heldF {P : Program} {K : Nat} {args : Array Value} {B : World} {F : World → Prop} {v : Value} (hF : ∀ y, Q B y → F y) (H : ∀ x, Calls P K args x fun e w' => e = .returned v ∧ Q x w') :
    ∀ x, Q B x → Calls P K args x fun e w' => e = .returned v ∧ Q B w' ∧ F w' :=
  fun x p => (H x).mono fun e w' ⟨h, q⟩ => ⟨h, p.trans q, hF _ (p.trans q)⟩
theorem c3 {w x : World} {a b c d f g : Int} (q : Q (Go.Proofs.Ytancfhnhjfhbfab.bx (Go.Proofs.Ytancfhnhjfhbfab.bx (Go.Proofs.Ytancfhnhjfhbfab.bx w a b) c d) f g) x) : x.cell? ⟨w.heap.size, 0, none⟩ = some (.int .i64 a) ∧ x.cell? ⟨w.heap.size, 1, none⟩ = some (.int .i64 b) ∧ x.cell? ⟨w.heap.size + 1, 0, none⟩ = some (.int .i64 c) ∧ x.cell? ⟨w.heap.size + 1, 1, none⟩ = some (.int .i64 d) ∧ x.cell? ⟨w.heap.size + 1 + 1, 0, none⟩ = some (.int .i64 f) ∧ x.cell? ⟨w.heap.size + 1 + 1, 1, none⟩ = some (.int .i64 g) := by
  have s1 := (((Sp.new w a b).box (.cells #[.int .i64 c, .int .i64 d] 23)).box (.cells #[.int .i64 f, .int .i64 g] 23)).keep q
  have s2 := ((Sp.new (Go.Proofs.Ytancfhnhjfhbfab.bx w a b) c d).box (.cells #[.int .i64 f, .int .i64 g] 23)).keep q
  have s3 := (Sp.new (Go.Proofs.Ytancfhnhjfhbfab.bx (Go.Proofs.Ytancfhnhjfhbfab.bx w a b) c d) f g).keep q
  rw [bx_size] at s2
  rw [bx_size, bx_size] at s3
  exact ⟨s1.c0, s1.c1, s2.c0, s2.c1, s3.c0, s3.c1⟩

end Go.Proofs.Ytancfhnhjfhbfab
