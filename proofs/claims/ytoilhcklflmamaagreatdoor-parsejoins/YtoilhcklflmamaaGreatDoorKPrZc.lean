/-
  What Parse answers where the whole is read, and where the text has no tokens: contracts over the program; the conditions: the lists of the program hold what its text says.
  What Parse answers where the whole is read but lies too deep: contracts over the program; the conditions: the lists of the program hold what its text says.
  What Parse answers where the text has no tokens: contracts over the program; the conditions: the lists of the program hold what its text says.
-/
import Derived.Test.YtoilhcklflmamaaGreatDoorKPrZ
namespace Go.Proofs.YtoilhcklflmamaaGreatDoor
open Go.RowKit
open Pr
set_option linter.unusedVariables false

theorem Cp.depth : ∀ {f g : Fo}, Cp f g → g.depth = f.depth := by
  intro f
  induction f with
  | nil => intro g h; cases g with
    | nil => rfl
    | cons => exact h.elim
  | cons v a c k r ihk ihr =>
    intro g h
    cases g with
    | nil => exact h.elim
    | cons v' a' c' k' r' => simp only [Fo.depth, ihk h.2.1, ihr h.2.2]

set_option maxRecDepth 100000 in
set_option maxHeartbeats 2000000 in
theorem parse_ok (s : ByteArray) (w : World) (hL : LaidP w) (hs : s.size ≤ 65536) (h : (Lx.lex 0 (bl s)).2 = none) (hn : (toks (bl s)).length ≤ 70000) (x : Nd) (st : St) (hb : prog (toks (bl s)) = .ok x st) (hd : x.2.depth + 1 ≤ 40) :
    Calls Tryz.prog 9 #[.string s] w fun e w' => (∃ a c f, e = .returned (.tuple #[nodeV x.1 (.slice a (Fo.len f) c), .int .i64 0, .int .i64 0]) ∧ Cp x.2 f ∧ sok a f.len c ∧ In w' a f ∧ x.1.ok) ∧ Q w w' := by
  have hmf : ∀ (fn : Fn) (first cap : Array Value) (w : World), (Instr.makeFunc fn first cap).run Tryz.prog w = .ok (.func fn first cap) w := fun _ _ _ _ => rfl
  have HX : Hid (∀ X, Q w X → _) := fun X q => lex_ok s X hs (hL.keep q).a h
  have HP := hideIt (fun (R g cap : Nat) => program_all R g cap (toks (bl s)) (10 * (toks (bl s)).length + 13) ⟨toks (bl s), 0, 0⟩ (show prog (toks (bl s)) ≠ .out by rw [hb]; exact fun e => by cases e))
  have HB := hideIt hb
  have HLD := hideIt hL
  have hp1 := hL.pos
  have hl : (bl s).length ≤ 65536 := by rw [bl_len]; exact hs
  have HK : Hid (x.2.size ≤ 4000) := by
    have := prog_post (bl s) hl
    rw [hb] at this
    have c := this.1.c
    have := this.2.1
    show x.2.size ≤ 4000
    omega
  have HDD := hideIt hd
  clear hL hb h hd
  go_enter_defers Tryz.func9, Tryz.ntmps9
  go_wp2_with (first | (go_at_call 19; refine Calls.mono (HX.out _ ((((Q.refl w).alloc _).alloc _).alloc _)) ?_; rintro e x1 ⟨g, cap, rfl, hg, ht, q1⟩; have TK := hideIt ht; have Q1 := hideIt q1; have Z1 : w.heap.size + 1 + 1 + 1 ≤ x1.heap.size := (by have z := q1.size; (try simp at z); omega); have T3 := hideIt (three q1); have m1 := cell_of_block T3.out.2.1 0; have m2 := cell_of_block T3.out.2.2 0; have fz1 := free_of_block T3.out.2.1 0; have fz2 := free_of_block T3.out.2.2 0; have e1 := setCell_same (j := 0) (u := .int .i64 0) T3.out.2.1 rfl; have e2 := setCell_same (j := 0) (u := .int .i64 0) T3.out.2.2 rfl; have l1 : w.heap.size + 1 < x1.heap.size := (by omega); have l2 : w.heap.size + 1 + 1 < x1.heap.size := (by omega); have QW1 := hideIt ((((Q.refl w).alloc _).alloc _).alloc _ |>.trans q1); have RS := hideIt (RD.start hl TK.out (HLD.out.keep ((((Q.refl w).alloc _).alloc _).alloc _ |>.trans q1)) (by omega) hn); clear HX ht q1) | (go_at_call 21; refine Calls.mono (okc HB.out (HP.out x1.heap.size g cap _ RS.out)) ?_; rintro e x2 ⟨v2, rfl, hv2, f2, d2⟩; obtain ⟨a2, c2, g2, rfl, cp2, sk2, l2, ok2⟩ := hv2.out; have F2 := hideIt f2; have Z2 : x1.heap.size + 1 ≤ x2.heap.size := (by have z := f2.size; (try simp at z); omega); have KX := hideIt (And.intro cp2 (And.intro sk2 ok2)); have LX := hideIt (Ls.mono (B' := x1.heap.size + 1) l2 (by (try simp) <;> (try omega)) (Nat.le_refl _)); have hsz : g2.size ≤ 7000 := (by have := cp2.size; have := HK.out; omega); have HDP := hideIt (show g2.depth = x.2.depth from cp2.depth); clear hv2 f2 d2 cp2 sk2 ok2 l2) | fail)
  have hdm : ((min (g2.depth + 1) 41 : Nat) : Int) = (g2.depth : Int) + 1 := by have := HDD.out; have := HDP.out; omega
  have hdc : decide ((40 : Int) < (g2.depth : Int) + 1) = false := by have := HDD.out; have := HDP.out; simp; omega
  go_wp2_with (first | (go_at_call 22; refine Calls.mono (depth_any g2 x.1 a2 c2 _ KX.out.2.2 (LX.out.alloc _).i KX.out.2.1 hsz) ?_; rw [hdm]; rintro e x3 ⟨rfl, q3⟩; have Q3 := hideIt q3; have NB := hideIt (show Bx x2 w.heap.size (nk 0) (.slice none 0 0) from Fr.kept (R := x1.heap.size) ((Below.heap_alloc x1 _ _ (by omega)).trans T3.out.1) (by omega) F2.out); have B1 := hideIt (Fr.kept (R := x1.heap.size) ((Below.heap_alloc x1 _ _ (by omega)).trans T3.out.2.1) (by omega) F2.out); have B2 := hideIt (Fr.kept (R := x1.heap.size) ((Below.heap_alloc x1 _ _ (by omega)).trans T3.out.2.2) (by omega) F2.out); have qq := ((Q.refl x2).alloc (.cells (cellsN x.1 (.slice a2 g2.len c2)).toArray 27)).trans q3; have N3 := hideIt (show Bx x3 w.heap.size (nk 0) (.slice none 0 0) from (qq.block _ NB.out.lt).trans NB.out); have C1 := hideIt ((qq.block _ (lt_of_heap B1.out)).trans B1.out); have C2 := hideIt ((qq.block _ (lt_of_heap B2.out)).trans B2.out); have XB := hideIt (show Bx x3 x2.heap.size x.1 (.slice a2 g2.len c2) from (q3.block _ (by simp)).trans (Bx.new x2 x.1 (.slice a2 g2.len c2))); have L3 := hideIt (LX.out.q qq); have QW3 := hideIt ((Fr.toQ (QW1.out.alloc _) F2.out (by omega)).trans qq); obtain ⟨n0, n1, n2, n3, n4, n5, n6, n7, n8, n9⟩ := N3.out.ten; have nf := N3.out.free; obtain ⟨p0, p1, p2, p3, p4, p5, p6, p7, p8, p9⟩ := XB.out.ten; have c1 := cell_of_block C1.out 0; have c2' := cell_of_block C2.out 0; have z1 := free_of_block C1.out 0; have z2 := free_of_block C2.out 0; have j1 := setCell_same (j := 0) (u := .int .i64 0) C1.out rfl; have y0 := N3.out.lt; have y1 := lt_of_heap C1.out; have y2 := lt_of_heap C2.out; have y3 := XB.out.lt; clear e1 e2 m1 m2 fz1 fz2 l1 l2 q3 qq) | fail)
  refine leaves_cons (f := 20) (args := #[.pointer (some ⟨w.heap.size + 1, 0, none⟩), .pointer (some ⟨w.heap.size + 1 + 1, 0, none⟩)]) (by simp) (by simp [go_sem]) ?_
  refine (catch_idle _ _ _).mono ?_
  rintro e u' w'' ⟨rfl, rfl, rfl⟩
  simp [Leaves, settle, results, Tryz.results9, go_sem, n0, n1, n2, n3, n4, n5, n6, n7, n8, n9, c1, c2']
  refine ⟨⟨a2, c2, g2, ⟨rfl, rfl, rfl⟩, KX.out.1, KX.out.2.1, Ls.i (B := x1.heap.size + 1) (U := x2.heap.size) ?_, KX.out.2.2⟩, ?_⟩
  · repeat (refine Ls.set ?_ (Or.inl (by dsimp only; omega)) _)
    exact L3.out
  · have QS : ∀ (X : World) (p : Addr) (u : Value), Q w X → w.heap.size ≤ p.block → Q w (X.setCell p u) := fun X p u q h => q.setCell h u
    exact QS _ _ _ (QS _ _ _ (QS _ _ _ (QS _ _ _ (QS _ _ _ (QS _ _ _ (QS _ _ _ (QS _ _ _ (QS _ _ _ (QS _ _ _ (QS _ _ _ (QS _ _ _ (QW3.out) (by dsimp only; omega)) (by dsimp only; omega)) (by dsimp only; omega)) (by dsimp only; omega)) (by dsimp only; omega)) (by dsimp only; omega)) (by dsimp only; omega)) (by dsimp only; omega)) (by dsimp only; omega)) (by dsimp only; omega)) (by dsimp only; omega)) (by dsimp only; omega)

end Go.Proofs.YtoilhcklflmamaaGreatDoor

namespace Go.Proofs.YtoilhcklflmamaaGreatDoor
open Go.RowKit
open Pr
set_option linter.unusedVariables false

set_option maxRecDepth 100000 in
set_option maxHeartbeats 2000000 in
theorem parse_deep (s : ByteArray) (w : World) (hL : LaidP w) (hs : s.size ≤ 65536) (h : (Lx.lex 0 (bl s)).2 = none) (hn : (toks (bl s)).length ≤ 70000) (x : Nd) (st : St) (hb : prog (toks (bl s)) = .ok x st) (hd : 40 < x.2.depth + 1) :
    Calls Tryz.prog 9 #[.string s] w fun e w' => e = .returned (.tuple #[nodeV (nk 0) (.slice none 0 0), .int .i64 0, .int .i64 4]) ∧ Q w w' := by
  have hmf : ∀ (fn : Fn) (first cap : Array Value) (w : World), (Instr.makeFunc fn first cap).run Tryz.prog w = .ok (.func fn first cap) w := fun _ _ _ _ => rfl
  have HX : Hid (∀ X, Q w X → _) := fun X q => lex_ok s X hs (hL.keep q).a h
  have HP := hideIt (fun (R g cap : Nat) => program_all R g cap (toks (bl s)) (10 * (toks (bl s)).length + 13) ⟨toks (bl s), 0, 0⟩ (show prog (toks (bl s)) ≠ .out by rw [hb]; exact fun e => by cases e))
  have HB := hideIt hb
  have HLD := hideIt hL
  have hp1 := hL.pos
  have hl : (bl s).length ≤ 65536 := by rw [bl_len]; exact hs
  have HK : Hid (x.2.size ≤ 4000) := by
    have := prog_post (bl s) hl
    rw [hb] at this
    have c := this.1.c
    have := this.2.1
    show x.2.size ≤ 4000
    omega
  have HDD := hideIt hd
  clear hL hb h hd
  go_enter_defers Tryz.func9, Tryz.ntmps9
  go_wp2_with (first | (go_at_call 19; refine Calls.mono (HX.out _ ((((Q.refl w).alloc _).alloc _).alloc _)) ?_; rintro e x1 ⟨g, cap, rfl, hg, ht, q1⟩; have TK := hideIt ht; have Q1 := hideIt q1; have Z1 : w.heap.size + 1 + 1 + 1 ≤ x1.heap.size := (by have z := q1.size; (try simp at z); omega); have T3 := hideIt (three q1); have m1 := cell_of_block T3.out.2.1 0; have m2 := cell_of_block T3.out.2.2 0; have fz1 := free_of_block T3.out.2.1 0; have fz2 := free_of_block T3.out.2.2 0; have e1 := setCell_same (j := 0) (u := .int .i64 0) T3.out.2.1 rfl; have e2 := setCell_same (j := 0) (u := .int .i64 0) T3.out.2.2 rfl; have l1 : w.heap.size + 1 < x1.heap.size := (by omega); have l2 : w.heap.size + 1 + 1 < x1.heap.size := (by omega); have QW1 := hideIt ((((Q.refl w).alloc _).alloc _).alloc _ |>.trans q1); have RS := hideIt (RD.start hl TK.out (HLD.out.keep ((((Q.refl w).alloc _).alloc _).alloc _ |>.trans q1)) (by omega) hn); clear HX ht q1) | (go_at_call 21; refine Calls.mono (okc HB.out (HP.out x1.heap.size g cap _ RS.out)) ?_; rintro e x2 ⟨v2, rfl, hv2, f2, d2⟩; obtain ⟨a2, c2, g2, rfl, cp2, sk2, l2, ok2⟩ := hv2.out; have F2 := hideIt f2; have Z2 : x1.heap.size + 1 ≤ x2.heap.size := (by have z := f2.size; (try simp at z); omega); have KX := hideIt (And.intro cp2 (And.intro sk2 ok2)); have LX := hideIt (Ls.mono (B' := x1.heap.size + 1) l2 (by (try simp) <;> (try omega)) (Nat.le_refl _)); have hsz : g2.size ≤ 7000 := (by have := cp2.size; have := HK.out; omega); have HDP := hideIt (show g2.depth = x.2.depth from cp2.depth); clear hv2 f2 d2 cp2 sk2 ok2 l2) | fail)
  have hdm : ((min (g2.depth + 1) 41 : Nat) : Int) = 41 := by have := HDD.out; have := HDP.out; omega
  have hdc : decide ((40 : Int) < 41) = true := by decide
  go_wp2_with (first | (go_at_call 22; refine Calls.mono (depth_any g2 x.1 a2 c2 _ KX.out.2.2 (LX.out.alloc _).i KX.out.2.1 hsz) ?_; rw [hdm]; rintro e x3 ⟨rfl, q3⟩; have Q3 := hideIt q3; have NB := hideIt (show Bx x2 w.heap.size (nk 0) (.slice none 0 0) from Fr.kept (R := x1.heap.size) ((Below.heap_alloc x1 _ _ (by omega)).trans T3.out.1) (by omega) F2.out); have B1 := hideIt (Fr.kept (R := x1.heap.size) ((Below.heap_alloc x1 _ _ (by omega)).trans T3.out.2.1) (by omega) F2.out); have B2 := hideIt (Fr.kept (R := x1.heap.size) ((Below.heap_alloc x1 _ _ (by omega)).trans T3.out.2.2) (by omega) F2.out); have qq := ((Q.refl x2).alloc (.cells (cellsN x.1 (.slice a2 g2.len c2)).toArray 27)).trans q3; have N3 := hideIt (show Bx x3 w.heap.size (nk 0) (.slice none 0 0) from (qq.block _ NB.out.lt).trans NB.out); have C1 := hideIt ((qq.block _ (lt_of_heap B1.out)).trans B1.out); have C2 := hideIt ((qq.block _ (lt_of_heap B2.out)).trans B2.out); have XB := hideIt (show Bx x3 x2.heap.size x.1 (.slice a2 g2.len c2) from (q3.block _ (by simp)).trans (Bx.new x2 x.1 (.slice a2 g2.len c2))); have L3 := hideIt (LX.out.q qq); have QW3 := hideIt ((Fr.toQ (QW1.out.alloc _) F2.out (by omega)).trans qq); obtain ⟨n0, n1, n2, n3, n4, n5, n6, n7, n8, n9⟩ := N3.out.ten; have nf := N3.out.free; obtain ⟨p0, p1, p2, p3, p4, p5, p6, p7, p8, p9⟩ := XB.out.ten; have c1 := cell_of_block C1.out 0; have c2' := cell_of_block C2.out 0; have z1 := free_of_block C1.out 0; have z2 := free_of_block C2.out 0; have j1 := setCell_same (j := 0) (u := .int .i64 0) C1.out rfl; have y0 := N3.out.lt; have y1 := lt_of_heap C1.out; have y2 := lt_of_heap C2.out; have y3 := XB.out.lt; clear e1 e2 m1 m2 fz1 fz2 l1 l2 q3 qq) | fail)
  refine leaves_cons (f := 20) (args := #[.pointer (some ⟨w.heap.size + 1, 0, none⟩), .pointer (some ⟨w.heap.size + 1 + 1, 0, none⟩)]) (by simp) (by simp [go_sem]) ?_
  refine (catch_idle _ _ _).mono ?_
  rintro e u' w'' ⟨rfl, rfl, rfl⟩
  simp [Leaves, settle, results, Tryz.results9, go_sem, n0, n1, n2, n3, n4, n5, n6, n7, n8, n9, c1, c2']
  have QS : ∀ (X : World) (p : Addr) (u : Value), Q w X → w.heap.size ≤ p.block → Q w (X.setCell p u) := fun X p u q h => q.setCell h u
  exact QS _ _ _ (QS _ _ _ (QS _ _ _ (QS _ _ _ (QS _ _ _ (QS _ _ _ (QS _ _ _ (QS _ _ _ (QS _ _ _ (QS _ _ _ (QS _ _ _ (QS _ _ _ (QW3.out) (by dsimp only; omega)) (by dsimp only; omega)) (by dsimp only; omega)) (by dsimp only; omega)) (by dsimp only; omega)) (by dsimp only; omega)) (by dsimp only; omega)) (by dsimp only; omega)) (by dsimp only; omega)) (by dsimp only; omega)) (by dsimp only; omega)) (by dsimp only; omega)

end Go.Proofs.YtoilhcklflmamaaGreatDoor

namespace Go.Proofs.YtoilhcklflmamaaGreatDoor
open Go.RowKit
open Pr
set_option linter.unusedVariables false

set_option maxRecDepth 100000 in
set_option maxHeartbeats 1000000 in
theorem parse_none (s : ByteArray) (w : World) (hp1 : 1 ≤ w.heap.size) (p : Int) (hX : ∀ X, Q w X → Calls Tryz.prog 19 #[.string s] X fun e w' => e = .returned (.tuple #[.slice none 0 0, .int .i64 p, .int .i64 5]) ∧ Q X w') :
    Calls Tryz.prog 9 #[.string s] w fun e w' => e = .returned (.tuple #[nodeV (nk 0) (.slice none 0 0), .int .i64 p, .int .i64 5]) ∧ Q w w' := by
  have HX := hideIt hX
  clear hX
  go_enter_defers Tryz.func9, Tryz.ntmps9
  go_wp2_with (first | (go_at_call 19; refine Calls.mono (HX.out _ ((((Q.refl w).alloc _).alloc _).alloc _)) ?_; rintro e x1 ⟨rfl, q1⟩; have Q1 := hideIt q1; have Z1 : w.heap.size + 1 + 1 + 1 ≤ x1.heap.size := (by have z := q1.size; (try simp at z); omega); have T3 := hideIt (three q1); have N3 := hideIt (show Bx x1 w.heap.size (nk 0) (.slice none 0 0) from T3.out.1); obtain ⟨n0, n1, n2, n3, n4, n5, n6, n7, n8, n9⟩ := N3.out.ten; have nf := N3.out.free; have c1 := cell_of_block T3.out.2.1 0; have c2' := cell_of_block T3.out.2.2 0; have z1 := free_of_block T3.out.2.1 0; have z2 := free_of_block T3.out.2.2 0; have y0 := N3.out.lt; have y1 := lt_of_heap T3.out.2.1; have y2 := lt_of_heap T3.out.2.2; have QW3 := hideIt ((((Q.refl w).alloc _).alloc _).alloc _ |>.trans q1); clear q1) | fail)
  have QS : ∀ (X : World) (p : Addr) (u : Value), Q w X → w.heap.size ≤ p.block → Q w (X.setCell p u) := fun X p u q h => q.setCell h u
  have QX := hideIt (QS _ ⟨w.heap.size + 1 + 1, 0, none⟩ (.int .i64 5) (QS _ ⟨w.heap.size + 1, 0, none⟩ (.int .i64 p) QW3.out (by dsimp only; omega)) (by dsimp only; omega))
  have d1 : ((x1.setCell ⟨w.heap.size + 1, 0, none⟩ (.int .i64 p)).setCell ⟨w.heap.size + 1 + 1, 0, none⟩ (.int .i64 5)).cell? ⟨w.heap.size + 1, 0, none⟩ = some (.int .i64 p) := by simp [go_sem, c1]
  have d2 : ((x1.setCell ⟨w.heap.size + 1, 0, none⟩ (.int .i64 p)).setCell ⟨w.heap.size + 1 + 1, 0, none⟩ (.int .i64 5)).cell? ⟨w.heap.size + 1 + 1, 0, none⟩ = some (.int .i64 5) := by simp [go_sem, c2']
  have dk : ∀ j, ((x1.setCell ⟨w.heap.size + 1, 0, none⟩ (.int .i64 p)).setCell ⟨w.heap.size + 1 + 1, 0, none⟩ (.int .i64 5)).cell? ⟨w.heap.size, j, none⟩ = x1.cell? ⟨w.heap.size, j, none⟩ := by intro j; simp [go_sem]
  have df : ∀ b j, ((x1.setCell ⟨w.heap.size + 1, 0, none⟩ (.int .i64 p)).setCell ⟨w.heap.size + 1 + 1, 0, none⟩ (.int .i64 5)).frozen? ⟨b, j, none⟩ = x1.frozen? ⟨b, j, none⟩ := by intro b j; simp [go_sem]
  generalize (x1.setCell ⟨w.heap.size + 1, 0, none⟩ (.int .i64 p)).setCell ⟨w.heap.size + 1 + 1, 0, none⟩ (.int .i64 5) = X at QX d1 d2 dk df ⊢
  replace n0 := (dk 0).trans n0
  replace n1 := (dk 1).trans n1
  replace n2 := (dk 2).trans n2
  replace n3 := (dk 3).trans n3
  replace n4 := (dk 4).trans n4
  replace n5 := (dk 5).trans n5
  replace n6 := (dk 6).trans n6
  replace n7 := (dk 7).trans n7
  replace n8 := (dk 8).trans n8
  replace n9 := (dk 9).trans n9
  replace nf : ∀ j, X.frozen? ⟨w.heap.size, j, none⟩ = false := fun j => (df _ j).trans (nf j)
  replace z1 := (df _ 0).trans z1
  replace z2 := (df _ 0).trans z2
  clear dk df c1 c2'
  go_region
  go_wp2_with (fail)
  simp [bodyPostD, Leaves, results, Tryz.results9, go_sem, n0, n1, n2, n3, n4, n5, n6, n7, n8, n9, d1, d2]
  exact Q.drew (QS _ _ _ (QS _ _ _ (QS _ _ _ (QS _ _ _ (QS _ _ _ (QS _ _ _ (QS _ _ _ (QS _ _ _ (QS _ _ _ (QS _ _ _ (QS _ _ _ (QS _ _ _ (QX.out) (by dsimp only; omega)) (by dsimp only; omega)) (by dsimp only; omega)) (by dsimp only; omega)) (by dsimp only; omega)) (by dsimp only; omega)) (by dsimp only; omega)) (by dsimp only; omega)) (by dsimp only; omega)) (by dsimp only; omega)) (by dsimp only; omega)) (by dsimp only; omega))

set_option maxRecDepth 100000 in
set_option maxHeartbeats 1000000 in
theorem parse_none2 (s : ByteArray) (w : World) (hp1 : 1 ≤ w.heap.size) (p : Int) (hX : ∀ X, Q w X → Calls Tryz.prog 19 #[.string s] X fun e w' => e = .returned (.tuple #[.slice none 0 0, .int .i64 p, .int .i64 2]) ∧ Q X w') :
    Calls Tryz.prog 9 #[.string s] w fun e w' => e = .returned (.tuple #[nodeV (nk 0) (.slice none 0 0), .int .i64 p, .int .i64 2]) ∧ Q w w' := by
  have HX := hideIt hX
  clear hX
  go_enter_defers Tryz.func9, Tryz.ntmps9
  go_wp2_with (first | (go_at_call 19; refine Calls.mono (HX.out _ ((((Q.refl w).alloc _).alloc _).alloc _)) ?_; rintro e x1 ⟨rfl, q1⟩; have Q1 := hideIt q1; have Z1 : w.heap.size + 1 + 1 + 1 ≤ x1.heap.size := (by have z := q1.size; (try simp at z); omega); have T3 := hideIt (three q1); have N3 := hideIt (show Bx x1 w.heap.size (nk 0) (.slice none 0 0) from T3.out.1); obtain ⟨n0, n1, n2, n3, n4, n5, n6, n7, n8, n9⟩ := N3.out.ten; have nf := N3.out.free; have c1 := cell_of_block T3.out.2.1 0; have c2' := cell_of_block T3.out.2.2 0; have z1 := free_of_block T3.out.2.1 0; have z2 := free_of_block T3.out.2.2 0; have y0 := N3.out.lt; have y1 := lt_of_heap T3.out.2.1; have y2 := lt_of_heap T3.out.2.2; have QW3 := hideIt ((((Q.refl w).alloc _).alloc _).alloc _ |>.trans q1); clear q1) | fail)
  have QS : ∀ (X : World) (p : Addr) (u : Value), Q w X → w.heap.size ≤ p.block → Q w (X.setCell p u) := fun X p u q h => q.setCell h u
  have QX := hideIt (QS _ ⟨w.heap.size + 1 + 1, 0, none⟩ (.int .i64 2) (QS _ ⟨w.heap.size + 1, 0, none⟩ (.int .i64 p) QW3.out (by dsimp only; omega)) (by dsimp only; omega))
  have d1 : ((x1.setCell ⟨w.heap.size + 1, 0, none⟩ (.int .i64 p)).setCell ⟨w.heap.size + 1 + 1, 0, none⟩ (.int .i64 2)).cell? ⟨w.heap.size + 1, 0, none⟩ = some (.int .i64 p) := by simp [go_sem, c1]
  have d2 : ((x1.setCell ⟨w.heap.size + 1, 0, none⟩ (.int .i64 p)).setCell ⟨w.heap.size + 1 + 1, 0, none⟩ (.int .i64 2)).cell? ⟨w.heap.size + 1 + 1, 0, none⟩ = some (.int .i64 2) := by simp [go_sem, c2']
  have dk : ∀ j, ((x1.setCell ⟨w.heap.size + 1, 0, none⟩ (.int .i64 p)).setCell ⟨w.heap.size + 1 + 1, 0, none⟩ (.int .i64 2)).cell? ⟨w.heap.size, j, none⟩ = x1.cell? ⟨w.heap.size, j, none⟩ := by intro j; simp [go_sem]
  have df : ∀ b j, ((x1.setCell ⟨w.heap.size + 1, 0, none⟩ (.int .i64 p)).setCell ⟨w.heap.size + 1 + 1, 0, none⟩ (.int .i64 2)).frozen? ⟨b, j, none⟩ = x1.frozen? ⟨b, j, none⟩ := by intro b j; simp [go_sem]
  generalize (x1.setCell ⟨w.heap.size + 1, 0, none⟩ (.int .i64 p)).setCell ⟨w.heap.size + 1 + 1, 0, none⟩ (.int .i64 2) = X at QX d1 d2 dk df ⊢
  replace n0 := (dk 0).trans n0
  replace n1 := (dk 1).trans n1
  replace n2 := (dk 2).trans n2
  replace n3 := (dk 3).trans n3
  replace n4 := (dk 4).trans n4
  replace n5 := (dk 5).trans n5
  replace n6 := (dk 6).trans n6
  replace n7 := (dk 7).trans n7
  replace n8 := (dk 8).trans n8
  replace n9 := (dk 9).trans n9
  replace nf : ∀ j, X.frozen? ⟨w.heap.size, j, none⟩ = false := fun j => (df _ j).trans (nf j)
  replace z1 := (df _ 0).trans z1
  replace z2 := (df _ 0).trans z2
  clear dk df c1 c2'
  go_region
  go_wp2_with (fail)
  simp [bodyPostD, Leaves, results, Tryz.results9, go_sem, n0, n1, n2, n3, n4, n5, n6, n7, n8, n9, d1, d2]
  exact Q.drew (QS _ _ _ (QS _ _ _ (QS _ _ _ (QS _ _ _ (QS _ _ _ (QS _ _ _ (QS _ _ _ (QS _ _ _ (QS _ _ _ (QS _ _ _ (QS _ _ _ (QS _ _ _ (QX.out) (by dsimp only; omega)) (by dsimp only; omega)) (by dsimp only; omega)) (by dsimp only; omega)) (by dsimp only; omega)) (by dsimp only; omega)) (by dsimp only; omega)) (by dsimp only; omega)) (by dsimp only; omega)) (by dsimp only; omega)) (by dsimp only; omega)) (by dsimp only; omega))

theorem parse_lexbad (s : ByteArray) (w : World) (hL : LaidP w) (hs : s.size ≤ 65536) (p : Nat) (h : (Lx.lex 0 (bl s)).2 = some p) :
    Calls Tryz.prog 9 #[.string s] w fun e w' => e = .returned (.tuple #[nodeV (nk 0) (.slice none 0 0), .int .i64 (p : Int), .int .i64 5]) ∧ Q w w' :=
  parse_none s w hL.pos p fun X q => lex_bad s X hs (hL.keep q).a p h

theorem parse_long (s : ByteArray) (w : World) (hL : LaidP w) (hs : 65536 < s.size) :
    Calls Tryz.prog 9 #[.string s] w fun e w' => e = .returned (.tuple #[nodeV (nk 0) (.slice none 0 0), .int .i64 0, .int .i64 2]) ∧ Q w w' :=
  parse_none2 s w hL.pos 0 fun X q => (lex_long s X hs).mono fun e w' ⟨h1, h2⟩ => ⟨h1, h2 ▸ Q.refl _⟩

end Go.Proofs.YtoilhcklflmamaaGreatDoor
