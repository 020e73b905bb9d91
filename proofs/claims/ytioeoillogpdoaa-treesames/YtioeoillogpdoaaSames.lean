/-
  For every two trees the statement TreeSames returns true, and its arguments read as they did; no conditions but the row's own (no tree leads back into itself).
-/
import Derived.Test.YtioeoillogpdoaaRows
import Derived.WalkKit
import Derived.ProofKit
import Derived.OpenShut
import Derived.ShutString
import Derived.ChangeOld
import Derived.Below
import Derived.Test.YtioeoillogpdoaaSamesA
namespace Go.Proofs.Ytioeoillogpdoaa.treeSames
open Go.ChangeShapes Go.WideShapes Go.ChangeAt Go.RowKit
set_option linter.unusedVariables false

theorem own : ownKnob Try.prog.godebug = none := by kernel_rfl
theorem laidOut : laidOutB Try.prog = true := by kernel_rfl

theorem b20 {w X : World} {x y : NF} {s t : Value} (h : Q (boxed2 w x s y t) X) : X.cell? ⟨w.heap.size, 0, none⟩ = some (.int .u8 x.k) ∧ X.cell? ⟨w.heap.size, 1, none⟩ = some (.int .u8 x.op) ∧ X.cell? ⟨w.heap.size, 2, none⟩ = some (.int .u8 x.tk) ∧ X.cell? ⟨w.heap.size, 3, none⟩ = some (.int .u8 x.ti) ∧ X.cell? ⟨w.heap.size, 4, none⟩ = some (.int .i64 x.tn) ∧ X.cell? ⟨w.heap.size, 5, none⟩ = some (.int .i64 x.n) ∧ X.cell? ⟨w.heap.size, 6, none⟩ = some (.int .i64 x.m) ∧ X.cell? ⟨w.heap.size, 7, none⟩ = some (.string x.nm) ∧ X.cell? ⟨w.heap.size, 8, none⟩ = some (.string x.fd) ∧ X.cell? ⟨w.heap.size, 9, none⟩ = some (s) ∧ X.cell? ⟨(w.heap.size + 1), 0, none⟩ = some (.int .u8 y.k) ∧ X.cell? ⟨(w.heap.size + 1), 1, none⟩ = some (.int .u8 y.op) ∧ X.cell? ⟨(w.heap.size + 1), 2, none⟩ = some (.int .u8 y.tk) ∧ X.cell? ⟨(w.heap.size + 1), 3, none⟩ = some (.int .u8 y.ti) ∧ X.cell? ⟨(w.heap.size + 1), 4, none⟩ = some (.int .i64 y.tn) ∧ X.cell? ⟨(w.heap.size + 1), 5, none⟩ = some (.int .i64 y.n) ∧ X.cell? ⟨(w.heap.size + 1), 6, none⟩ = some (.int .i64 y.m) ∧ X.cell? ⟨(w.heap.size + 1), 7, none⟩ = some (.string y.nm) ∧ X.cell? ⟨(w.heap.size + 1), 8, none⟩ = some (.string y.fd) ∧ X.cell? ⟨(w.heap.size + 1), 9, none⟩ = some (t) :=
  ⟨boxed2_a h 0 _ rfl, boxed2_a h 1 _ rfl, boxed2_a h 2 _ rfl, boxed2_a h 3 _ rfl, boxed2_a h 4 _ rfl, boxed2_a h 5 _ rfl, boxed2_a h 6 _ rfl, boxed2_a h 7 _ rfl, boxed2_a h 8 _ rfl, boxed2_a h 9 _ rfl, boxed2_b h 0 _ rfl, boxed2_b h 1 _ rfl, boxed2_b h 2 _ rfl, boxed2_b h 3 _ rfl, boxed2_b h 4 _ rfl, boxed2_b h 5 _ rfl, boxed2_b h 6 _ rfl, boxed2_b h 7 _ rfl, boxed2_b h 8 _ rfl, boxed2_b h 9 _ rfl⟩

theorem great_at {w : World} (f : Fo) (v : NF) (a : Option Addr) (c : Nat) (bb : Bool) (hb : decide (6000 < f.size + 1) = bb) (B : World) (hB : Q w B) (hin : In w a f) (hs : sok a f.len c) :
    ∀ X, Q B X → Calls Try.prog 8 #[nodeV v (.slice a f.len c), .int .i64 6000] X fun e w' => e = .returned (.bool bb) ∧ Q B w' := fun X hX => by
  have := great_any f v a c X (hin.keep (Nat.le_refl _) (hB.trans hX)) hs
  rw [hb] at this
  exact this.mono fun e w' ⟨h1, h2⟩ => ⟨h1, hX.trans h2⟩
theorem fine_at {w : World} (f : Fo) (v : NF) (a : Option Addr) (c : Nat) (bb : Bool) (hb : f.fine = bb) (B : World) (hB : Q w B) (hin : In w a f) (hs : sok a f.len c) :
    ∀ X, Q B X → Calls Try.prog 15 #[nodeV v (.slice a f.len c)] X fun e w' => e = .returned (.bool bb) ∧ Q B w' := fun X hX => by
  have := rFine_any f v a c X (hin.keep (Nat.le_refl _) (hB.trans hX)) hs
  rw [hb] at this
  exact this.mono fun e w' ⟨h1, h2⟩ => ⟨h1, hX.trans h2⟩
theorem awake_at (B : World) : ∀ X, Q B X → Calls Try.prog 9 #[] X fun e w' => e = .returned (.bool true) ∧ Q B w' := fun X hX =>
  (awake_any X).mono fun e w' ⟨h1, h2⟩ => ⟨h1, hX.trans h2⟩

set_option maxRecDepth 100000 in
set_option maxHeartbeats 4000000 in
theorem walk_g1 (f g : Fo) (x y : NF) (a a' : Option Addr) (c c' : Nat) (w : World) (hx : x.ok) (hy : y.ok) (hin : In w a f) (hin' : In w a' g) (hs : sok a f.len c) (hs' : sok a' g.len c') (h1 : decide (6000 < f.size + 1) = true) :
    Calls Try.prog 6 #[nodeV x (.slice a f.len c), nodeV y (.slice a' g.len c')] w fun e w' => e = .returned (.bool true) ∧ Below w.heap.size w w' := by
  have G1 := hideIt (great_at f x a c true h1 (boxed2 w x (.slice a f.len c) y (.slice a' g.len c')) (boxed2_q _ _ _ _ _) hin hs)
  have A := hideIt (awake_at (boxed2 w x (.slice a f.len c) y (.slice a' g.len c')))
  clear h1
  have q0 : Q (boxed2 w x (.slice a f.len c) y (.slice a' g.len c')) (boxed2 w x (.slice a f.len c) y (.slice a' g.len c')) := Below.refl _ _
  clear hin hin' hs hs' hx hy
  go_enter Try.func6, Try.ntmps6
  go_wp2_with (first | (go_at_call_of 8 (Value.string x.nm); refine (G1.out _ (by assumption)).mono ?_; rintro e z ⟨rfl, q1⟩; (try clear c0 c1 c2 c3 c4 c5 c6 c7 c8 c9 d0 d1 d2 d3 d4 d5 d6 d7 d8 d9); obtain ⟨c0, c1, c2, c3, c4, c5, c6, c7, c8, c9, d0, d1, d2, d3, d4, d5, d6, d7, d8, d9⟩ := b20 q1) | (go_at_call 9; refine (A.out _ (by assumption)).mono ?_; rintro e z ⟨rfl, q1⟩; (try clear c0 c1 c2 c3 c4 c5 c6 c7 c8 c9 d0 d1 d2 d3 d4 d5 d6 d7 d8 d9); obtain ⟨c0, c1, c2, c3, c4, c5, c6, c7, c8, c9, d0, d1, d2, d3, d4, d5, d6, d7, d8, d9⟩ := b20 q1))
  go_ret
  exact ⟨rfl, (boxed2_q _ _ _ _ _).trans (by assumption)⟩

set_option maxRecDepth 100000 in
set_option maxHeartbeats 4000000 in
theorem walk_g2 (f g : Fo) (x y : NF) (a a' : Option Addr) (c c' : Nat) (w : World) (hx : x.ok) (hy : y.ok) (hin : In w a f) (hin' : In w a' g) (hs : sok a f.len c) (hs' : sok a' g.len c') (h1 : decide (6000 < f.size + 1) = false) (h2 : decide (6000 < g.size + 1) = true) :
    Calls Try.prog 6 #[nodeV x (.slice a f.len c), nodeV y (.slice a' g.len c')] w fun e w' => e = .returned (.bool true) ∧ Below w.heap.size w w' := by
  have G1 := hideIt (great_at f x a c false h1 (boxed2 w x (.slice a f.len c) y (.slice a' g.len c')) (boxed2_q _ _ _ _ _) hin hs)
  have G2 := hideIt (great_at g y a' c' true h2 (boxed2 w x (.slice a f.len c) y (.slice a' g.len c')) (boxed2_q _ _ _ _ _) hin' hs')
  have A := hideIt (awake_at (boxed2 w x (.slice a f.len c) y (.slice a' g.len c')))
  clear h1 h2
  have q0 : Q (boxed2 w x (.slice a f.len c) y (.slice a' g.len c')) (boxed2 w x (.slice a f.len c) y (.slice a' g.len c')) := Below.refl _ _
  clear hin hin' hs hs' hx hy
  go_enter Try.func6, Try.ntmps6
  go_wp2_with (first | (go_at_call_of 8 (Value.string x.nm); refine (G1.out _ (by assumption)).mono ?_; rintro e z ⟨rfl, q1⟩; (try clear c0 c1 c2 c3 c4 c5 c6 c7 c8 c9 d0 d1 d2 d3 d4 d5 d6 d7 d8 d9); obtain ⟨c0, c1, c2, c3, c4, c5, c6, c7, c8, c9, d0, d1, d2, d3, d4, d5, d6, d7, d8, d9⟩ := b20 q1) | (go_at_call_of 8 (Value.string y.nm); refine (G2.out _ (by assumption)).mono ?_; rintro e z ⟨rfl, q1⟩; (try clear c0 c1 c2 c3 c4 c5 c6 c7 c8 c9 d0 d1 d2 d3 d4 d5 d6 d7 d8 d9); obtain ⟨c0, c1, c2, c3, c4, c5, c6, c7, c8, c9, d0, d1, d2, d3, d4, d5, d6, d7, d8, d9⟩ := b20 q1) | (go_at_call 9; refine (A.out _ (by assumption)).mono ?_; rintro e z ⟨rfl, q1⟩; (try clear c0 c1 c2 c3 c4 c5 c6 c7 c8 c9 d0 d1 d2 d3 d4 d5 d6 d7 d8 d9); obtain ⟨c0, c1, c2, c3, c4, c5, c6, c7, c8, c9, d0, d1, d2, d3, d4, d5, d6, d7, d8, d9⟩ := b20 q1))
  go_ret
  exact ⟨rfl, (boxed2_q _ _ _ _ _).trans (by assumption)⟩

set_option maxRecDepth 100000 in
set_option maxHeartbeats 4000000 in
theorem walk_f1 (f g : Fo) (x y : NF) (a a' : Option Addr) (c c' : Nat) (w : World) (hx : x.ok) (hy : y.ok) (hin : In w a f) (hin' : In w a' g) (hs : sok a f.len c) (hs' : sok a' g.len c') (h1 : decide (6000 < f.size + 1) = false) (h2 : decide (6000 < g.size + 1) = false) (h3 : f.fine = false) :
    Calls Try.prog 6 #[nodeV x (.slice a f.len c), nodeV y (.slice a' g.len c')] w fun e w' => e = .returned (.bool true) ∧ Below w.heap.size w w' := by
  have G1 := hideIt (great_at f x a c false h1 (boxed2 w x (.slice a f.len c) y (.slice a' g.len c')) (boxed2_q _ _ _ _ _) hin hs)
  have G2 := hideIt (great_at g y a' c' false h2 (boxed2 w x (.slice a f.len c) y (.slice a' g.len c')) (boxed2_q _ _ _ _ _) hin' hs')
  have F1 := hideIt (fine_at f x a c false h3 (boxed2 w x (.slice a f.len c) y (.slice a' g.len c')) (boxed2_q _ _ _ _ _) hin hs)
  have A := hideIt (awake_at (boxed2 w x (.slice a f.len c) y (.slice a' g.len c')))
  clear h1 h2 h3
  have q0 : Q (boxed2 w x (.slice a f.len c) y (.slice a' g.len c')) (boxed2 w x (.slice a f.len c) y (.slice a' g.len c')) := Below.refl _ _
  clear hin hin' hs hs' hx hy
  go_enter Try.func6, Try.ntmps6
  go_wp2_with (first | (go_at_call_of 8 (Value.string x.nm); refine (G1.out _ (by assumption)).mono ?_; rintro e z ⟨rfl, q1⟩; (try clear c0 c1 c2 c3 c4 c5 c6 c7 c8 c9 d0 d1 d2 d3 d4 d5 d6 d7 d8 d9); obtain ⟨c0, c1, c2, c3, c4, c5, c6, c7, c8, c9, d0, d1, d2, d3, d4, d5, d6, d7, d8, d9⟩ := b20 q1) | (go_at_call_of 8 (Value.string y.nm); refine (G2.out _ (by assumption)).mono ?_; rintro e z ⟨rfl, q1⟩; (try clear c0 c1 c2 c3 c4 c5 c6 c7 c8 c9 d0 d1 d2 d3 d4 d5 d6 d7 d8 d9); obtain ⟨c0, c1, c2, c3, c4, c5, c6, c7, c8, c9, d0, d1, d2, d3, d4, d5, d6, d7, d8, d9⟩ := b20 q1) | (go_at_call_of 15 (Value.string x.nm); refine (F1.out _ (by assumption)).mono ?_; rintro e z ⟨rfl, q1⟩; (try clear c0 c1 c2 c3 c4 c5 c6 c7 c8 c9 d0 d1 d2 d3 d4 d5 d6 d7 d8 d9); obtain ⟨c0, c1, c2, c3, c4, c5, c6, c7, c8, c9, d0, d1, d2, d3, d4, d5, d6, d7, d8, d9⟩ := b20 q1) | (go_at_call 9; refine (A.out _ (by assumption)).mono ?_; rintro e z ⟨rfl, q1⟩; (try clear c0 c1 c2 c3 c4 c5 c6 c7 c8 c9 d0 d1 d2 d3 d4 d5 d6 d7 d8 d9); obtain ⟨c0, c1, c2, c3, c4, c5, c6, c7, c8, c9, d0, d1, d2, d3, d4, d5, d6, d7, d8, d9⟩ := b20 q1))
  go_ret
  exact ⟨rfl, (boxed2_q _ _ _ _ _).trans (by assumption)⟩

set_option maxRecDepth 100000 in
set_option maxHeartbeats 4000000 in
theorem walk_f2 (f g : Fo) (x y : NF) (a a' : Option Addr) (c c' : Nat) (w : World) (hx : x.ok) (hy : y.ok) (hin : In w a f) (hin' : In w a' g) (hs : sok a f.len c) (hs' : sok a' g.len c') (h1 : decide (6000 < f.size + 1) = false) (h2 : decide (6000 < g.size + 1) = false) (h3 : f.fine = true) (h4 : g.fine = false) :
    Calls Try.prog 6 #[nodeV x (.slice a f.len c), nodeV y (.slice a' g.len c')] w fun e w' => e = .returned (.bool true) ∧ Below w.heap.size w w' := by
  have G1 := hideIt (great_at f x a c false h1 (boxed2 w x (.slice a f.len c) y (.slice a' g.len c')) (boxed2_q _ _ _ _ _) hin hs)
  have G2 := hideIt (great_at g y a' c' false h2 (boxed2 w x (.slice a f.len c) y (.slice a' g.len c')) (boxed2_q _ _ _ _ _) hin' hs')
  have F1 := hideIt (fine_at f x a c true h3 (boxed2 w x (.slice a f.len c) y (.slice a' g.len c')) (boxed2_q _ _ _ _ _) hin hs)
  have F2 := hideIt (fine_at g y a' c' false h4 (boxed2 w x (.slice a f.len c) y (.slice a' g.len c')) (boxed2_q _ _ _ _ _) hin' hs')
  have A := hideIt (awake_at (boxed2 w x (.slice a f.len c) y (.slice a' g.len c')))
  clear h1 h2 h3 h4
  have q0 : Q (boxed2 w x (.slice a f.len c) y (.slice a' g.len c')) (boxed2 w x (.slice a f.len c) y (.slice a' g.len c')) := Below.refl _ _
  clear hin hin' hs hs' hx hy
  go_enter Try.func6, Try.ntmps6
  go_wp2_with (first | (go_at_call_of 8 (Value.string x.nm); refine (G1.out _ (by assumption)).mono ?_; rintro e z ⟨rfl, q1⟩; (try clear c0 c1 c2 c3 c4 c5 c6 c7 c8 c9 d0 d1 d2 d3 d4 d5 d6 d7 d8 d9); obtain ⟨c0, c1, c2, c3, c4, c5, c6, c7, c8, c9, d0, d1, d2, d3, d4, d5, d6, d7, d8, d9⟩ := b20 q1) | (go_at_call_of 8 (Value.string y.nm); refine (G2.out _ (by assumption)).mono ?_; rintro e z ⟨rfl, q1⟩; (try clear c0 c1 c2 c3 c4 c5 c6 c7 c8 c9 d0 d1 d2 d3 d4 d5 d6 d7 d8 d9); obtain ⟨c0, c1, c2, c3, c4, c5, c6, c7, c8, c9, d0, d1, d2, d3, d4, d5, d6, d7, d8, d9⟩ := b20 q1) | (go_at_call_of 15 (Value.string x.nm); refine (F1.out _ (by assumption)).mono ?_; rintro e z ⟨rfl, q1⟩; (try clear c0 c1 c2 c3 c4 c5 c6 c7 c8 c9 d0 d1 d2 d3 d4 d5 d6 d7 d8 d9); obtain ⟨c0, c1, c2, c3, c4, c5, c6, c7, c8, c9, d0, d1, d2, d3, d4, d5, d6, d7, d8, d9⟩ := b20 q1) | (go_at_call_of 15 (Value.string y.nm); refine (F2.out _ (by assumption)).mono ?_; rintro e z ⟨rfl, q1⟩; (try clear c0 c1 c2 c3 c4 c5 c6 c7 c8 c9 d0 d1 d2 d3 d4 d5 d6 d7 d8 d9); obtain ⟨c0, c1, c2, c3, c4, c5, c6, c7, c8, c9, d0, d1, d2, d3, d4, d5, d6, d7, d8, d9⟩ := b20 q1) | (go_at_call 9; refine (A.out _ (by assumption)).mono ?_; rintro e z ⟨rfl, q1⟩; (try clear c0 c1 c2 c3 c4 c5 c6 c7 c8 c9 d0 d1 d2 d3 d4 d5 d6 d7 d8 d9); obtain ⟨c0, c1, c2, c3, c4, c5, c6, c7, c8, c9, d0, d1, d2, d3, d4, d5, d6, d7, d8, d9⟩ := b20 q1))
  go_ret
  exact ⟨rfl, (boxed2_q _ _ _ _ _).trans (by assumption)⟩

theorem copy_at {w : World} (f : Fo) (x : NF) (a : Option Addr) (c : Nat) (B : World) (hB : Q w B) (hin : In w a f) (hs : sok a f.len c) (hz : f.size ≤ 7000) :
    ∀ X, Q B X → Calls Try.prog 25 #[nodeV x (.slice a f.len c)] X fun e w' => ∃ aa cc ff, e = .returned (nodeV x (.slice aa f.len cc)) ∧ Cp f ff ∧ sok aa f.len cc ∧ In w' aa ff ∧ Lo B.heap.size aa ff ∧ FrN w' aa ff ∧ Q B w' := fun X hX =>
  (copy_any f x a c X (hin.keep (Nat.le_refl _) (hB.trans hX)) hs hz).mono fun e w' ⟨aa, cc, ff, e1, e2, e3, e4, e5, e6, e7⟩ => ⟨aa, cc, ff, e1, e2, e3, e4, e5.mono hX.size, e6, hX.trans e7⟩

theorem at0 {X : World} {b : Nat} {x : NF} {s : Value} (h : At X b 0 (cellsN x s)) : X.cell? ⟨b, 0, none⟩ = some (.int .u8 x.k) ∧ X.cell? ⟨b, 1, none⟩ = some (.int .u8 x.op) ∧ X.cell? ⟨b, 2, none⟩ = some (.int .u8 x.tk) ∧ X.cell? ⟨b, 3, none⟩ = some (.int .u8 x.ti) ∧ X.cell? ⟨b, 4, none⟩ = some (.int .i64 x.tn) ∧ X.cell? ⟨b, 5, none⟩ = some (.int .i64 x.n) ∧ X.cell? ⟨b, 6, none⟩ = some (.int .i64 x.m) ∧ X.cell? ⟨b, 7, none⟩ = some (.string x.nm) ∧ X.cell? ⟨b, 8, none⟩ = some (.string x.fd) ∧ X.cell? ⟨b, 9, none⟩ = some (s) :=
  ⟨h.cell 0 _ rfl, h.cell 1 _ rfl, h.cell 2 _ rfl, h.cell 3 _ rfl, h.cell 4 _ rfl, h.cell 5 _ rfl, h.cell 6 _ rfl, h.cell 7 _ rfl, h.cell 8 _ rfl, h.cell 9 _ rfl⟩
theorem At.kp {lo hi : Nat} {u w : World} {b o : Nat} {cs : List Value} (h : At u b o cs) (k : KP lo hi u w) (hb : b < lo ∨ hi ≤ b) : At w b o cs := fun j hj => by
  obtain ⟨v, hv⟩ : ∃ v, cs[j]? = some v := ⟨_, List.getElem?_eq_getElem hj⟩
  have := h j hj
  rw [hv] at this ⊢
  exact k.out hb this

theorem s_of {w X1 w' : World} {x y : NF} {a a' a1 : Option Addr} {c c' c1 : Nat} {f g : Fo} (hb : Q (boxed2 w x (.slice a f.len c) y (.slice a' g.len c')) (boxed X1 x (.slice a1 f.len c1))) (h : Q (boxed X1 x (.slice a1 f.len c1)) w') : Q (boxed X1 x (.slice a1 f.len c1)) w' ∧ w'.cell? ⟨w.heap.size, 0, none⟩ = some (.int .u8 x.k) ∧ w'.cell? ⟨w.heap.size, 1, none⟩ = some (.int .u8 x.op) ∧ w'.cell? ⟨w.heap.size, 2, none⟩ = some (.int .u8 x.tk) ∧ w'.cell? ⟨w.heap.size, 3, none⟩ = some (.int .u8 x.ti) ∧ w'.cell? ⟨w.heap.size, 4, none⟩ = some (.int .i64 x.tn) ∧ w'.cell? ⟨w.heap.size, 5, none⟩ = some (.int .i64 x.n) ∧ w'.cell? ⟨w.heap.size, 6, none⟩ = some (.int .i64 x.m) ∧ w'.cell? ⟨w.heap.size, 7, none⟩ = some (.string x.nm) ∧ w'.cell? ⟨w.heap.size, 8, none⟩ = some (.string x.fd) ∧ w'.cell? ⟨w.heap.size, 9, none⟩ = some ((.slice a f.len c)) ∧ w'.cell? ⟨(w.heap.size + 1), 0, none⟩ = some (.int .u8 y.k) ∧ w'.cell? ⟨(w.heap.size + 1), 1, none⟩ = some (.int .u8 y.op) ∧ w'.cell? ⟨(w.heap.size + 1), 2, none⟩ = some (.int .u8 y.tk) ∧ w'.cell? ⟨(w.heap.size + 1), 3, none⟩ = some (.int .u8 y.ti) ∧ w'.cell? ⟨(w.heap.size + 1), 4, none⟩ = some (.int .i64 y.tn) ∧ w'.cell? ⟨(w.heap.size + 1), 5, none⟩ = some (.int .i64 y.n) ∧ w'.cell? ⟨(w.heap.size + 1), 6, none⟩ = some (.int .i64 y.m) ∧ w'.cell? ⟨(w.heap.size + 1), 7, none⟩ = some (.string y.nm) ∧ w'.cell? ⟨(w.heap.size + 1), 8, none⟩ = some (.string y.fd) ∧ w'.cell? ⟨(w.heap.size + 1), 9, none⟩ = some ((.slice a' g.len c')) ∧ w'.cell? ⟨X1.heap.size, 0, none⟩ = some (.int .u8 x.k) ∧ w'.cell? ⟨X1.heap.size, 1, none⟩ = some (.int .u8 x.op) ∧ w'.cell? ⟨X1.heap.size, 2, none⟩ = some (.int .u8 x.tk) ∧ w'.cell? ⟨X1.heap.size, 3, none⟩ = some (.int .u8 x.ti) ∧ w'.cell? ⟨X1.heap.size, 4, none⟩ = some (.int .i64 x.tn) ∧ w'.cell? ⟨X1.heap.size, 5, none⟩ = some (.int .i64 x.n) ∧ w'.cell? ⟨X1.heap.size, 6, none⟩ = some (.int .i64 x.m) ∧ w'.cell? ⟨X1.heap.size, 7, none⟩ = some (.string x.nm) ∧ w'.cell? ⟨X1.heap.size, 8, none⟩ = some (.string x.fd) ∧ w'.cell? ⟨X1.heap.size, 9, none⟩ = some ((.slice a1 f.len c1)) := by
  obtain ⟨c0, c1, c2, c3, c4, c5, c6, c7, c8, c9, d0, d1, d2, d3, d4, d5, d6, d7, d8, d9⟩ := b20 (hb.trans h)
  exact ⟨h, c0, c1, c2, c3, c4, c5, c6, c7, c8, c9, d0, d1, d2, d3, d4, d5, d6, d7, d8, d9, boxed_ten h⟩

set_option maxRecDepth 100000 in
set_option maxHeartbeats 8000000 in
theorem walk_all (f g : Fo) (x y : NF) (a a' : Option Addr) (c c' : Nat) (w : World) (hx : x.ok) (hy : y.ok) (hin : In w a f) (hin' : In w a' g) (hs : sok a f.len c) (hs' : sok a' g.len c') (h1 : decide (6000 < f.size + 1) = false) (h2 : decide (6000 < g.size + 1) = false) (h3 : f.fine = true) (h4 : g.fine = true) :
    Calls Try.prog 6 #[nodeV x (.slice a f.len c), nodeV y (.slice a' g.len c')] w fun e w' => e = .returned (.bool true) ∧ Below w.heap.size w w' := by
  have G1 := hideIt (great_at f x a c false h1 (boxed2 w x (.slice a f.len c) y (.slice a' g.len c')) (boxed2_q _ _ _ _ _) hin hs)
  have G2 := hideIt (great_at g y a' c' false h2 (boxed2 w x (.slice a f.len c) y (.slice a' g.len c')) (boxed2_q _ _ _ _ _) hin' hs')
  have F1 := hideIt (fine_at f x a c true h3 (boxed2 w x (.slice a f.len c) y (.slice a' g.len c')) (boxed2_q _ _ _ _ _) hin hs)
  have F2 := hideIt (fine_at g y a' c' true h4 (boxed2 w x (.slice a f.len c) y (.slice a' g.len c')) (boxed2_q _ _ _ _ _) hin' hs')
  have A := hideIt (awake_at (boxed2 w x (.slice a f.len c) y (.slice a' g.len c')))
  have hz : f.size ≤ 7000 := by have := of_decide_eq_false h1; omega
  have CC := hideIt (copy_at f x a c (boxed2 w x (.slice a f.len c) y (.slice a' g.len c')) (boxed2_q _ _ _ _ _) hin hs hz)
  have HI := hideIt (And.intro hin (And.intro hin' (And.intro hs hs')))
  have hlen : f.len ≤ 7000 := Nat.le_trans f.len_le_size hz
  have q0 : Q (boxed2 w x (.slice a f.len c) y (.slice a' g.len c')) (boxed2 w x (.slice a f.len c) y (.slice a' g.len c')) := Below.refl _ _
  clear hin hin' hs hs' hx hy h1 h2 h3 h4
  go_enter Try.func6, Try.ntmps6
  go_wp2_with (first | (go_at_call_of 8 (Value.string x.nm); refine (G1.out _ (by assumption)).mono ?_; rintro e z ⟨rfl, q1⟩; (try clear c0 c1 c2 c3 c4 c5 c6 c7 c8 c9 d0 d1 d2 d3 d4 d5 d6 d7 d8 d9); obtain ⟨c0, c1, c2, c3, c4, c5, c6, c7, c8, c9, d0, d1, d2, d3, d4, d5, d6, d7, d8, d9⟩ := b20 q1) | (go_at_call_of 8 (Value.string y.nm); refine (G2.out _ (by assumption)).mono ?_; rintro e z ⟨rfl, q1⟩; (try clear c0 c1 c2 c3 c4 c5 c6 c7 c8 c9 d0 d1 d2 d3 d4 d5 d6 d7 d8 d9); obtain ⟨c0, c1, c2, c3, c4, c5, c6, c7, c8, c9, d0, d1, d2, d3, d4, d5, d6, d7, d8, d9⟩ := b20 q1) | (go_at_call_of 15 (Value.string x.nm); refine (F1.out _ (by assumption)).mono ?_; rintro e z ⟨rfl, q1⟩; (try clear c0 c1 c2 c3 c4 c5 c6 c7 c8 c9 d0 d1 d2 d3 d4 d5 d6 d7 d8 d9); obtain ⟨c0, c1, c2, c3, c4, c5, c6, c7, c8, c9, d0, d1, d2, d3, d4, d5, d6, d7, d8, d9⟩ := b20 q1) | (go_at_call_of 15 (Value.string y.nm); refine (F2.out _ (by assumption)).mono ?_; rintro e z ⟨rfl, q1⟩; (try clear c0 c1 c2 c3 c4 c5 c6 c7 c8 c9 d0 d1 d2 d3 d4 d5 d6 d7 d8 d9); obtain ⟨c0, c1, c2, c3, c4, c5, c6, c7, c8, c9, d0, d1, d2, d3, d4, d5, d6, d7, d8, d9⟩ := b20 q1) | (go_at_call 9; refine (A.out _ (by assumption)).mono ?_; rintro e z ⟨rfl, q1⟩; (try clear c0 c1 c2 c3 c4 c5 c6 c7 c8 c9 d0 d1 d2 d3 d4 d5 d6 d7 d8 d9); obtain ⟨c0, c1, c2, c3, c4, c5, c6, c7, c8, c9, d0, d1, d2, d3, d4, d5, d6, d7, d8, d9⟩ := b20 q1) | (go_at_call 25; refine (CC.out _ (by assumption)).mono ?_; rintro e X1 ⟨a1, c1, f1, rfl, p1, p2, p3, p4, p5, p6⟩; (try clear c0 c1 c2 c3 c4 c5 c6 c7 c8 c9 d0 d1 d2 d3 d4 d5 d6 d7 d8 d9); have P1 := hideIt p1; have P2 := hideIt p2; have P3 := hideIt p3; have P4 := hideIt p4; have P5 := hideIt p5; have Q1 := hideIt p6; clear p1 p2 p3 p4 p5 p6))
  have QW : Hid (Q w (boxed X1 x (.slice a1 f.len c1))) := (boxed2_q _ _ _ _ _).trans (Q1.out.trans (boxed_q _ _ _))
  obtain ⟨bb, hbb⟩ : ∃ bb, (eqN x y && f.same g) = bb := ⟨_, rfl⟩
  have hcs : (eqN x x && f.same f1) = true := by rw [eqN_refl, P1.out.same]; rfl
  have hss : (eqN x x && f.same f) = true := by rw [eqN_refl, (Cp.refl f).same]; rfl
  have C26ab : Hid (∀ X, Q (boxed X1 x (.slice a1 f.len c1)) X → Calls Try.prog 26 #[nodeV x (.slice a f.len c), nodeV y (.slice a' g.len c')] X fun e w' => e = .returned (.bool bb) ∧ (Q (boxed X1 x (.slice a1 f.len c1)) w' ∧ w'.cell? ⟨w.heap.size, 0, none⟩ = some (.int .u8 x.k) ∧ w'.cell? ⟨w.heap.size, 1, none⟩ = some (.int .u8 x.op) ∧ w'.cell? ⟨w.heap.size, 2, none⟩ = some (.int .u8 x.tk) ∧ w'.cell? ⟨w.heap.size, 3, none⟩ = some (.int .u8 x.ti) ∧ w'.cell? ⟨w.heap.size, 4, none⟩ = some (.int .i64 x.tn) ∧ w'.cell? ⟨w.heap.size, 5, none⟩ = some (.int .i64 x.n) ∧ w'.cell? ⟨w.heap.size, 6, none⟩ = some (.int .i64 x.m) ∧ w'.cell? ⟨w.heap.size, 7, none⟩ = some (.string x.nm) ∧ w'.cell? ⟨w.heap.size, 8, none⟩ = some (.string x.fd) ∧ w'.cell? ⟨w.heap.size, 9, none⟩ = some ((.slice a f.len c)) ∧ w'.cell? ⟨(w.heap.size + 1), 0, none⟩ = some (.int .u8 y.k) ∧ w'.cell? ⟨(w.heap.size + 1), 1, none⟩ = some (.int .u8 y.op) ∧ w'.cell? ⟨(w.heap.size + 1), 2, none⟩ = some (.int .u8 y.tk) ∧ w'.cell? ⟨(w.heap.size + 1), 3, none⟩ = some (.int .u8 y.ti) ∧ w'.cell? ⟨(w.heap.size + 1), 4, none⟩ = some (.int .i64 y.tn) ∧ w'.cell? ⟨(w.heap.size + 1), 5, none⟩ = some (.int .i64 y.n) ∧ w'.cell? ⟨(w.heap.size + 1), 6, none⟩ = some (.int .i64 y.m) ∧ w'.cell? ⟨(w.heap.size + 1), 7, none⟩ = some (.string y.nm) ∧ w'.cell? ⟨(w.heap.size + 1), 8, none⟩ = some (.string y.fd) ∧ w'.cell? ⟨(w.heap.size + 1), 9, none⟩ = some ((.slice a' g.len c')) ∧ w'.cell? ⟨X1.heap.size, 0, none⟩ = some (.int .u8 x.k) ∧ w'.cell? ⟨X1.heap.size, 1, none⟩ = some (.int .u8 x.op) ∧ w'.cell? ⟨X1.heap.size, 2, none⟩ = some (.int .u8 x.tk) ∧ w'.cell? ⟨X1.heap.size, 3, none⟩ = some (.int .u8 x.ti) ∧ w'.cell? ⟨X1.heap.size, 4, none⟩ = some (.int .i64 x.tn) ∧ w'.cell? ⟨X1.heap.size, 5, none⟩ = some (.int .i64 x.n) ∧ w'.cell? ⟨X1.heap.size, 6, none⟩ = some (.int .i64 x.m) ∧ w'.cell? ⟨X1.heap.size, 7, none⟩ = some (.string x.nm) ∧ w'.cell? ⟨X1.heap.size, 8, none⟩ = some (.string x.fd) ∧ w'.cell? ⟨X1.heap.size, 9, none⟩ = some ((.slice a1 f.len c1)))) := fun X hX => by
    have hX' := QW.out.trans hX
    have := Same_any f g x y a a' c c' X (HI.out.1.keep (Nat.le_refl _) hX') (HI.out.2.1.keep (Nat.le_refl _) hX') HI.out.2.2.1 HI.out.2.2.2
    rw [hbb] at this
    exact this.mono fun e w' ⟨h1, h2⟩ => ⟨h1, s_of (Q1.out.trans (boxed_q X1 x (.slice a1 f.len c1))) (hX.trans h2)⟩
  have C21ab : Hid (∀ X, Q (boxed X1 x (.slice a1 f.len c1)) X → Calls Try.prog 21 #[nodeV x (.slice a f.len c), nodeV y (.slice a' g.len c')] X fun e w' => e = .returned (.bool bb) ∧ (Q (boxed X1 x (.slice a1 f.len c1)) w' ∧ w'.cell? ⟨w.heap.size, 0, none⟩ = some (.int .u8 x.k) ∧ w'.cell? ⟨w.heap.size, 1, none⟩ = some (.int .u8 x.op) ∧ w'.cell? ⟨w.heap.size, 2, none⟩ = some (.int .u8 x.tk) ∧ w'.cell? ⟨w.heap.size, 3, none⟩ = some (.int .u8 x.ti) ∧ w'.cell? ⟨w.heap.size, 4, none⟩ = some (.int .i64 x.tn) ∧ w'.cell? ⟨w.heap.size, 5, none⟩ = some (.int .i64 x.n) ∧ w'.cell? ⟨w.heap.size, 6, none⟩ = some (.int .i64 x.m) ∧ w'.cell? ⟨w.heap.size, 7, none⟩ = some (.string x.nm) ∧ w'.cell? ⟨w.heap.size, 8, none⟩ = some (.string x.fd) ∧ w'.cell? ⟨w.heap.size, 9, none⟩ = some ((.slice a f.len c)) ∧ w'.cell? ⟨(w.heap.size + 1), 0, none⟩ = some (.int .u8 y.k) ∧ w'.cell? ⟨(w.heap.size + 1), 1, none⟩ = some (.int .u8 y.op) ∧ w'.cell? ⟨(w.heap.size + 1), 2, none⟩ = some (.int .u8 y.tk) ∧ w'.cell? ⟨(w.heap.size + 1), 3, none⟩ = some (.int .u8 y.ti) ∧ w'.cell? ⟨(w.heap.size + 1), 4, none⟩ = some (.int .i64 y.tn) ∧ w'.cell? ⟨(w.heap.size + 1), 5, none⟩ = some (.int .i64 y.n) ∧ w'.cell? ⟨(w.heap.size + 1), 6, none⟩ = some (.int .i64 y.m) ∧ w'.cell? ⟨(w.heap.size + 1), 7, none⟩ = some (.string y.nm) ∧ w'.cell? ⟨(w.heap.size + 1), 8, none⟩ = some (.string y.fd) ∧ w'.cell? ⟨(w.heap.size + 1), 9, none⟩ = some ((.slice a' g.len c')) ∧ w'.cell? ⟨X1.heap.size, 0, none⟩ = some (.int .u8 x.k) ∧ w'.cell? ⟨X1.heap.size, 1, none⟩ = some (.int .u8 x.op) ∧ w'.cell? ⟨X1.heap.size, 2, none⟩ = some (.int .u8 x.tk) ∧ w'.cell? ⟨X1.heap.size, 3, none⟩ = some (.int .u8 x.ti) ∧ w'.cell? ⟨X1.heap.size, 4, none⟩ = some (.int .i64 x.tn) ∧ w'.cell? ⟨X1.heap.size, 5, none⟩ = some (.int .i64 x.n) ∧ w'.cell? ⟨X1.heap.size, 6, none⟩ = some (.int .i64 x.m) ∧ w'.cell? ⟨X1.heap.size, 7, none⟩ = some (.string x.nm) ∧ w'.cell? ⟨X1.heap.size, 8, none⟩ = some (.string x.fd) ∧ w'.cell? ⟨X1.heap.size, 9, none⟩ = some ((.slice a1 f.len c1)))) := fun X hX => by
    have hX' := QW.out.trans hX
    have := rsame_any (f.size + 1) f (by omega) g x y a a' c c' X (HI.out.1.keep (Nat.le_refl _) hX') HI.out.2.2.1 (HI.out.2.1.keep (Nat.le_refl _) hX') HI.out.2.2.2
    rw [hbb] at this
    exact this.mono fun e w' ⟨h1, h2⟩ => ⟨h1, s_of (Q1.out.trans (boxed_q X1 x (.slice a1 f.len c1))) (hX.trans h2)⟩
  have C21ac : Hid (∀ X, Q (boxed X1 x (.slice a1 f.len c1)) X → Calls Try.prog 21 #[nodeV x (.slice a f.len c), nodeV x (.slice a1 f.len c1)] X fun e w' => e = .returned (.bool true) ∧ (Q (boxed X1 x (.slice a1 f.len c1)) w' ∧ w'.cell? ⟨w.heap.size, 0, none⟩ = some (.int .u8 x.k) ∧ w'.cell? ⟨w.heap.size, 1, none⟩ = some (.int .u8 x.op) ∧ w'.cell? ⟨w.heap.size, 2, none⟩ = some (.int .u8 x.tk) ∧ w'.cell? ⟨w.heap.size, 3, none⟩ = some (.int .u8 x.ti) ∧ w'.cell? ⟨w.heap.size, 4, none⟩ = some (.int .i64 x.tn) ∧ w'.cell? ⟨w.heap.size, 5, none⟩ = some (.int .i64 x.n) ∧ w'.cell? ⟨w.heap.size, 6, none⟩ = some (.int .i64 x.m) ∧ w'.cell? ⟨w.heap.size, 7, none⟩ = some (.string x.nm) ∧ w'.cell? ⟨w.heap.size, 8, none⟩ = some (.string x.fd) ∧ w'.cell? ⟨w.heap.size, 9, none⟩ = some ((.slice a f.len c)) ∧ w'.cell? ⟨(w.heap.size + 1), 0, none⟩ = some (.int .u8 y.k) ∧ w'.cell? ⟨(w.heap.size + 1), 1, none⟩ = some (.int .u8 y.op) ∧ w'.cell? ⟨(w.heap.size + 1), 2, none⟩ = some (.int .u8 y.tk) ∧ w'.cell? ⟨(w.heap.size + 1), 3, none⟩ = some (.int .u8 y.ti) ∧ w'.cell? ⟨(w.heap.size + 1), 4, none⟩ = some (.int .i64 y.tn) ∧ w'.cell? ⟨(w.heap.size + 1), 5, none⟩ = some (.int .i64 y.n) ∧ w'.cell? ⟨(w.heap.size + 1), 6, none⟩ = some (.int .i64 y.m) ∧ w'.cell? ⟨(w.heap.size + 1), 7, none⟩ = some (.string y.nm) ∧ w'.cell? ⟨(w.heap.size + 1), 8, none⟩ = some (.string y.fd) ∧ w'.cell? ⟨(w.heap.size + 1), 9, none⟩ = some ((.slice a' g.len c')) ∧ w'.cell? ⟨X1.heap.size, 0, none⟩ = some (.int .u8 x.k) ∧ w'.cell? ⟨X1.heap.size, 1, none⟩ = some (.int .u8 x.op) ∧ w'.cell? ⟨X1.heap.size, 2, none⟩ = some (.int .u8 x.tk) ∧ w'.cell? ⟨X1.heap.size, 3, none⟩ = some (.int .u8 x.ti) ∧ w'.cell? ⟨X1.heap.size, 4, none⟩ = some (.int .i64 x.tn) ∧ w'.cell? ⟨X1.heap.size, 5, none⟩ = some (.int .i64 x.n) ∧ w'.cell? ⟨X1.heap.size, 6, none⟩ = some (.int .i64 x.m) ∧ w'.cell? ⟨X1.heap.size, 7, none⟩ = some (.string x.nm) ∧ w'.cell? ⟨X1.heap.size, 8, none⟩ = some (.string x.fd) ∧ w'.cell? ⟨X1.heap.size, 9, none⟩ = some ((.slice a1 f.len c1)))) := fun X hX => by
    have hX' := QW.out.trans hX
    have hl := P1.out.len
    have := rsame_any (f.size + 1) f (by omega) f1 x x a a1 c c1 X (HI.out.1.keep (Nat.le_refl _) hX') HI.out.2.2.1 (P3.out.keep (Nat.le_refl _) ((boxed_q X1 x (.slice a1 f.len c1)).trans hX)) (by rw [hl]; exact P2.out)
    rw [hcs, hl] at this
    exact this.mono fun e w' ⟨h1, h2⟩ => ⟨h1, s_of (Q1.out.trans (boxed_q X1 x (.slice a1 f.len c1))) (hX.trans h2)⟩
  have C26aa : Hid (∀ X, Q (boxed X1 x (.slice a1 f.len c1)) X → Calls Try.prog 26 #[nodeV x (.slice a f.len c), nodeV x (.slice a f.len c)] X fun e w' => e = .returned (.bool true) ∧ (Q (boxed X1 x (.slice a1 f.len c1)) w' ∧ w'.cell? ⟨w.heap.size, 0, none⟩ = some (.int .u8 x.k) ∧ w'.cell? ⟨w.heap.size, 1, none⟩ = some (.int .u8 x.op) ∧ w'.cell? ⟨w.heap.size, 2, none⟩ = some (.int .u8 x.tk) ∧ w'.cell? ⟨w.heap.size, 3, none⟩ = some (.int .u8 x.ti) ∧ w'.cell? ⟨w.heap.size, 4, none⟩ = some (.int .i64 x.tn) ∧ w'.cell? ⟨w.heap.size, 5, none⟩ = some (.int .i64 x.n) ∧ w'.cell? ⟨w.heap.size, 6, none⟩ = some (.int .i64 x.m) ∧ w'.cell? ⟨w.heap.size, 7, none⟩ = some (.string x.nm) ∧ w'.cell? ⟨w.heap.size, 8, none⟩ = some (.string x.fd) ∧ w'.cell? ⟨w.heap.size, 9, none⟩ = some ((.slice a f.len c)) ∧ w'.cell? ⟨(w.heap.size + 1), 0, none⟩ = some (.int .u8 y.k) ∧ w'.cell? ⟨(w.heap.size + 1), 1, none⟩ = some (.int .u8 y.op) ∧ w'.cell? ⟨(w.heap.size + 1), 2, none⟩ = some (.int .u8 y.tk) ∧ w'.cell? ⟨(w.heap.size + 1), 3, none⟩ = some (.int .u8 y.ti) ∧ w'.cell? ⟨(w.heap.size + 1), 4, none⟩ = some (.int .i64 y.tn) ∧ w'.cell? ⟨(w.heap.size + 1), 5, none⟩ = some (.int .i64 y.n) ∧ w'.cell? ⟨(w.heap.size + 1), 6, none⟩ = some (.int .i64 y.m) ∧ w'.cell? ⟨(w.heap.size + 1), 7, none⟩ = some (.string y.nm) ∧ w'.cell? ⟨(w.heap.size + 1), 8, none⟩ = some (.string y.fd) ∧ w'.cell? ⟨(w.heap.size + 1), 9, none⟩ = some ((.slice a' g.len c')) ∧ w'.cell? ⟨X1.heap.size, 0, none⟩ = some (.int .u8 x.k) ∧ w'.cell? ⟨X1.heap.size, 1, none⟩ = some (.int .u8 x.op) ∧ w'.cell? ⟨X1.heap.size, 2, none⟩ = some (.int .u8 x.tk) ∧ w'.cell? ⟨X1.heap.size, 3, none⟩ = some (.int .u8 x.ti) ∧ w'.cell? ⟨X1.heap.size, 4, none⟩ = some (.int .i64 x.tn) ∧ w'.cell? ⟨X1.heap.size, 5, none⟩ = some (.int .i64 x.n) ∧ w'.cell? ⟨X1.heap.size, 6, none⟩ = some (.int .i64 x.m) ∧ w'.cell? ⟨X1.heap.size, 7, none⟩ = some (.string x.nm) ∧ w'.cell? ⟨X1.heap.size, 8, none⟩ = some (.string x.fd) ∧ w'.cell? ⟨X1.heap.size, 9, none⟩ = some ((.slice a1 f.len c1)))) := fun X hX => by
    have hX' := QW.out.trans hX
    have := Same_any f f x x a a c c X (HI.out.1.keep (Nat.le_refl _) hX') (HI.out.1.keep (Nat.le_refl _) hX') HI.out.2.2.1 HI.out.2.2.1
    rw [hss] at this
    exact this.mono fun e w' ⟨h1, h2⟩ => ⟨h1, s_of (Q1.out.trans (boxed_q X1 x (.slice a1 f.len c1))) (hX.trans h2)⟩
  obtain ⟨s0, m0, m1, m2, m3, m4, m5, m6, m7, m8, m9, n0, n1, n2, n3, n4, n5, n6, n7, n8, n9, o0, o1, o2, o3, o4, o5, o6, o7, o8, o9⟩ := s_of (Q1.out.trans (boxed_q X1 x (.slice a1 f.len c1))) (Below.refl (boxed X1 x (.slice a1 f.len c1)).heap.size (boxed X1 x (.slice a1 f.len c1)))
  have hqd : Q (boxed X1 x (.slice a1 f.len c1)) (boxed X1 x (.slice a1 f.len c1)).drew := Below.drew (Below.refl _ _)
  have CD := hideIt (copy_at f x a c (boxed X1 x (.slice a1 f.len c1)) QW.out HI.out.1 HI.out.2.2.1 hz)
  clear hbb hcs hss q0 q1 G1 G2 F1 F2 A CC
  go_region_held3 (fun w' => Q (boxed X1 x (.slice a1 f.len c1)) w' ∧ w'.cell? ⟨w.heap.size, 0, none⟩ = some (.int .u8 x.k) ∧ w'.cell? ⟨w.heap.size, 1, none⟩ = some (.int .u8 x.op) ∧ w'.cell? ⟨w.heap.size, 2, none⟩ = some (.int .u8 x.tk) ∧ w'.cell? ⟨w.heap.size, 3, none⟩ = some (.int .u8 x.ti) ∧ w'.cell? ⟨w.heap.size, 4, none⟩ = some (.int .i64 x.tn) ∧ w'.cell? ⟨w.heap.size, 5, none⟩ = some (.int .i64 x.n) ∧ w'.cell? ⟨w.heap.size, 6, none⟩ = some (.int .i64 x.m) ∧ w'.cell? ⟨w.heap.size, 7, none⟩ = some (.string x.nm) ∧ w'.cell? ⟨w.heap.size, 8, none⟩ = some (.string x.fd) ∧ w'.cell? ⟨w.heap.size, 9, none⟩ = some ((.slice a f.len c)) ∧ w'.cell? ⟨(w.heap.size + 1), 0, none⟩ = some (.int .u8 y.k) ∧ w'.cell? ⟨(w.heap.size + 1), 1, none⟩ = some (.int .u8 y.op) ∧ w'.cell? ⟨(w.heap.size + 1), 2, none⟩ = some (.int .u8 y.tk) ∧ w'.cell? ⟨(w.heap.size + 1), 3, none⟩ = some (.int .u8 y.ti) ∧ w'.cell? ⟨(w.heap.size + 1), 4, none⟩ = some (.int .i64 y.tn) ∧ w'.cell? ⟨(w.heap.size + 1), 5, none⟩ = some (.int .i64 y.n) ∧ w'.cell? ⟨(w.heap.size + 1), 6, none⟩ = some (.int .i64 y.m) ∧ w'.cell? ⟨(w.heap.size + 1), 7, none⟩ = some (.string y.nm) ∧ w'.cell? ⟨(w.heap.size + 1), 8, none⟩ = some (.string y.fd) ∧ w'.cell? ⟨(w.heap.size + 1), 9, none⟩ = some ((.slice a' g.len c')) ∧ w'.cell? ⟨X1.heap.size, 0, none⟩ = some (.int .u8 x.k) ∧ w'.cell? ⟨X1.heap.size, 1, none⟩ = some (.int .u8 x.op) ∧ w'.cell? ⟨X1.heap.size, 2, none⟩ = some (.int .u8 x.tk) ∧ w'.cell? ⟨X1.heap.size, 3, none⟩ = some (.int .u8 x.ti) ∧ w'.cell? ⟨X1.heap.size, 4, none⟩ = some (.int .i64 x.tn) ∧ w'.cell? ⟨X1.heap.size, 5, none⟩ = some (.int .i64 x.n) ∧ w'.cell? ⟨X1.heap.size, 6, none⟩ = some (.int .i64 x.m) ∧ w'.cell? ⟨X1.heap.size, 7, none⟩ = some (.string x.nm) ∧ w'.cell? ⟨X1.heap.size, 8, none⟩ = some (.string x.fd) ∧ w'.cell? ⟨X1.heap.size, 9, none⟩ = some ((.slice a1 f.len c1))) (first | exact s_of (Q1.out.trans (boxed_q X1 x (.slice a1 f.len c1))) (Below.drew (Below.refl _ _)) | go_keep) (first | (go_at_call_of 26 (Value.string y.nm); refine (C26ab.out _ (by assumption)).mono ?_; (try clear s0 m0 m1 m2 m3 m4 m5 m6 m7 m8 m9 n0 n1 n2 n3 n4 n5 n6 n7 n8 n9 o0 o1 o2 o3 o4 o5 o6 o7 o8 o9); rintro e z ⟨rfl, s0, m0, m1, m2, m3, m4, m5, m6, m7, m8, m9, n0, n1, n2, n3, n4, n5, n6, n7, n8, n9, o0, o1, o2, o3, o4, o5, o6, o7, o8, o9⟩) | (go_at_call_of 21 (Value.string y.nm); refine (C21ab.out _ (by assumption)).mono ?_; (try clear s0 m0 m1 m2 m3 m4 m5 m6 m7 m8 m9 n0 n1 n2 n3 n4 n5 n6 n7 n8 n9 o0 o1 o2 o3 o4 o5 o6 o7 o8 o9); rintro e z ⟨rfl, s0, m0, m1, m2, m3, m4, m5, m6, m7, m8, m9, n0, n1, n2, n3, n4, n5, n6, n7, n8, n9, o0, o1, o2, o3, o4, o5, o6, o7, o8, o9⟩) | (go_at_call 21; refine (C21ac.out _ (by assumption)).mono ?_; (try clear s0 m0 m1 m2 m3 m4 m5 m6 m7 m8 m9 n0 n1 n2 n3 n4 n5 n6 n7 n8 n9 o0 o1 o2 o3 o4 o5 o6 o7 o8 o9); rintro e z ⟨rfl, s0, m0, m1, m2, m3, m4, m5, m6, m7, m8, m9, n0, n1, n2, n3, n4, n5, n6, n7, n8, n9, o0, o1, o2, o3, o4, o5, o6, o7, o8, o9⟩) | (go_at_call 26; refine (C26aa.out _ (by assumption)).mono ?_; (try clear s0 m0 m1 m2 m3 m4 m5 m6 m7 m8 m9 n0 n1 n2 n3 n4 n5 n6 n7 n8 n9 o0 o1 o2 o3 o4 o5 o6 o7 o8 o9); rintro e z ⟨rfl, s0, m0, m1, m2, m3, m4, m5, m6, m7, m8, m9, n0, n1, n2, n3, n4, n5, n6, n7, n8, n9, o0, o1, o2, o3, o4, o5, o6, o7, o8, o9⟩))
  clear C26ab C21ab C21ac C26aa hqd
  go_wp2_with (first | (go_at_call 25; refine (CD.out _ (by assumption)).mono ?_; rintro e X2 ⟨a2, c2, f2, rfl, r1, r2, r3, r4, r5, r6⟩; have R1 := hideIt r1; have R2 := hideIt r2; have R3 := hideIt r3; have R4 := hideIt r4; have R6 := hideIt r6; clear r1 r2 r3 r4 r5 r6; (try clear s0 m0 m1 m2 m3 m4 m5 m6 m7 m8 m9 n0 n1 n2 n3 n4 n5 n6 n7 n8 n9 o0 o1 o2 o3 o4 o5 o6 o7 o8 o9)))
  obtain ⟨Y2, hY2⟩ : ∃ Y2, boxed X2 x (.slice a2 f.len c2) = Y2 := ⟨_, rfl⟩
  have HY2 := hideIt hY2
  have QZ : Hid (Q (boxed X1 x (.slice a1 f.len c1)) Y2) := by have := R6.out.trans (boxed_q X2 x (.slice a2 f.len c2)); rw [hY2] at this; exact this
  have QX : Hid (Q X1 Y2) := (boxed_q X1 x (.slice a1 f.len c1)).trans QZ.out
  have QWY : Hid (Q w Y2) := (boxed2_q _ _ _ _ _).trans (Q1.out.trans QX.out)
  have O1 : Hid (In Y2 a1 f1) := P3.out.keep (Nat.le_refl _) QX.out
  have O2 : Hid (FrN Y2 a1 f1) := P5.out.keep QX.out
  have O9 : Hid (Y2.cell? ⟨X1.heap.size, 9, none⟩ = some (.slice a1 f.len c1)) := boxed_cell QZ.out 9 _ rfl
  have HL := hideIt P1.out.len
  clear hY2 CD
  go_loopw [7] (fun i wr => ∃ k : Nat, i = .int .i64 k ∧ k ≤ f.len ∧ KP (boxed2 w x (.slice a f.len c) y (.slice a' g.len c')).heap.size X1.heap.size Y2 wr) (fun i _ => f.len - (intOf i).toNat)
  case atStart =>
    refine ⟨0, rfl, by omega, ?_⟩
    have := KP.refl (boxed2 w x (.slice a f.len c) y (.slice a' g.len c')).heap.size X1.heap.size Y2
    rw [← HY2.out] at this ⊢
    exact this
  case round =>
    obtain ⟨k, rfl, hk, hkp⟩ := hrel
    have HK := hideIt hkp
    have hc9 : wr.cell? ⟨X1.heap.size, 9, none⟩ = some (.slice a1 f.len c1) := hkp.out (Or.inr (Nat.le_refl _)) O9.out
    clear hkp
    by_cases hlt : k < f.len
    · obtain ⟨b1, o1, v1, ka, kc, ks, rfl, hat, hs1, hin1, hlo1, hfr1, hb1, hb2, ho1, hfz1, he1⟩ := own_elem O1.out P4.out O2.out k (by rw [HL.out]; exact hlt)
      have hkl : (k : Int) < (f.len : Int) := by omega
      have u5 := hat.cell 5 _ rfl
      have u9 := hat.cell 9 _ rfl
      have hd1 := P5.out.drop k
      rw [he1] at hd1
      have hbx : b1 < X1.heap.size := (hd1.1 _ rfl).1
      have M1 : Hid (FrN X1 ka ks) := hd1.2.1
      clear hd1 he1
      obtain ⟨z5, w5⟩ := HK.out.five b1 (o1 + k * 10 + 5) v1.n (by omega) u5
      have f5 : wr.frozen? ⟨b1, o1 + k * 10 + 5, none⟩ = false := HK.out.fz b1 _ hb2 (hfz1 _)
      have N1 := hideIt (And.intro hs1 (And.intro hin1 (And.intro hlo1 hfr1)))
      have N2 := hideIt (And.intro hb1 (And.intro hbx ho1))
      have N9 := hideIt u9
      have W5 := hideIt w5
      clear hat hs1 hin1 hlo1 hfr1 hb1 ho1 hfz1 u5 u9
      go_wp2_with (fail)
      go_region
      go_wp2_with (fail)
      go_loopw [8] (fun i wr => ∃ j : Nat, i = .int .i64 j ∧ j ≤ ks.len ∧ KP (boxed2 w x (.slice a f.len c) y (.slice a' g.len c')).heap.size X1.heap.size Y2 wr) (fun i _ => ks.len - (intOf i).toNat)
      case atStart => exact ⟨0, rfl, by omega, (HK.out.set5 N2.out.1 N2.out.2.1 (by have := N2.out.2.2; omega) W5.out).drew⟩
      case round =>
        obtain ⟨j, rfl, hj, hkp2⟩ := hrel
        have HK2 := hideIt hkp2
        have hc9 : wr.cell? ⟨X1.heap.size, 9, none⟩ = some (.slice (some ⟨b1, o1, none⟩) f.len c1) := hkp2.out (Or.inr (Nat.le_refl _)) O9.out
        have hk9 : wr.cell? ⟨b1, o1 + k * 10 + 9, none⟩ = some (.slice ka ks.len kc) := hkp2.nine' (by have := N2.out.2.2; omega) N9.out
        have hkl9 : ks.len ≤ 9223372036854775807 := by have := N1.out.1.1; have := N1.out.1.2.1; unfold maxLen at this; omega
        clear hkp2
        by_cases hlt2 : j < ks.len
        · obtain ⟨b2, o2, v2, la, lc, ls, rfl, hat2, _, _, _, _, hb3, hb4, ho2, hfz2, he2⟩ := own_elem N1.out.2.1 N1.out.2.2.1 N1.out.2.2.2 j hlt2
          have hjl : (j : Int) < (ks.len : Int) := by omega
          have hd2 := M1.out.drop j
          rw [he2] at hd2
          have hb5 : b2 < X1.heap.size := (hd2.1 _ rfl).1
          clear hd2 he2
          obtain ⟨s7, w7⟩ := HK2.out.seven b2 (o2 + j * 10 + 7) v2.nm (by omega) (hat2.cell 7 _ rfl)
          have f7 : wr.frozen? ⟨b2, o2 + j * 10 + 7, none⟩ = false := HK2.out.fz b2 _ hb4 (hfz2 _)
          have HS : Hid (KP (boxed2 w x (.slice a f.len c) y (.slice a' g.len c')).heap.size X1.heap.size Y2 (wr.setCell ⟨b2, o2 + j * 10 + 7, none⟩ (.string ⟨#[120]⟩))) := HK2.out.set7 hb3 hb5 (by omega) w7
          clear hat2 hfz2
          go_wp2_with (fail)
          go_roundw
          case rel => exact ⟨j + 1, by go_num, by omega, HS.out⟩
          case measure => simp [intOf]; omega
        · have ej : j = ks.len := by omega
          go_wp2_with (fail)
          go_roundw
          case rel => exact ⟨k + 1, by go_num, by omega, HK2.out⟩
          case measure => simp [intOf]; omega
    · have ek : k = f.len := by omega
      have hwl : w.heap.size < (boxed2 w x (.slice a f.len c) y (.slice a' g.len c')).heap.size := by simp <;> omega
      have hx1 : X1.heap.size ≤ X2.heap.size := Nat.le_trans (Below.size (boxed_q X1 x (.slice a1 f.len c1))) R6.out.size
      have TA : At wr w.heap.size 0 (cellsN x (.slice a f.len c)) := (at_boxed2_a w x y (.slice a f.len c) (.slice a' g.len c')).keep (Nat.le_refl _) (Q1.out.trans QX.out) |> fun h => At.kp h HK.out (Or.inl hwl)
      have TD0 : At Y2 X2.heap.size 0 (cellsN x (.slice a2 f.len c2)) := by rw [← HY2.out]; exact at_boxed X2 x _
      have TD : At wr X2.heap.size 0 (cellsN x (.slice a2 f.len c2)) := At.kp TD0 HK.out (Or.inr hx1)
      have hl2 := R1.out.len
      have IA : In wr a f := HI.out.1.keep (Nat.le_refl _) (Below.trans QWY.out (HK.out.fr.below QWY.out.size (fun k hk => by omega)))
      have ID : In wr a2 f2 := by
        have h1 : In Y2 a2 f2 := by rw [← HY2.out]; exact R3.out.keep (Nat.le_refl _) (boxed_q X2 x _)
        have hy1 : X1.heap.size < (boxed X1 x (.slice a1 f.len c1)).heap.size := by simp
        exact h1.fr2 (fun k h1 h2 => HK.out.fr.block k h2 (by omega)) R4.out
      have HC := hideIt (rsame_any (f.size + 1) f (by omega) f2 x x a a2 c c2 wr IA HI.out.2.2.1 ID (by rw [hl2]; exact R2.out))
      rw [hl2, eqN_refl, R1.out.same] at HC
      obtain ⟨e0, e1, e2, e3, e4, e5, e6, e7, e8, e9⟩ := at0 TA
      obtain ⟨g0, g1, g2, g3, g4, g5, g6, g7, g8, g9⟩ := at0 TD
      have BW : Hid (Below w.heap.size w wr) := Below.trans QWY.out (HK.out.fr.below QWY.out.size (fun k hk => by omega))
      clear TA TD0 TD IA ID hl2 hwl hx1
      go_wp2_with (first | (go_at_call 21; refine HC.out.mono ?_; rintro e z ⟨rfl, q9⟩))
      go_ret
      exact ⟨rfl, Below.trans BW.out (q9.mono BW.out.size)⟩

theorem walk (f g : Fo) (x y : NF) (a a' : Option Addr) (c c' : Nat) (w : World) (hx : x.ok) (hy : y.ok) (hin : In w a f) (hin' : In w a' g) (hs : sok a f.len c) (hs' : sok a' g.len c') :
    Calls Try.prog 6 #[nodeV x (.slice a f.len c), nodeV y (.slice a' g.len c')] w fun e w' => e = .returned (.bool true) ∧ Below w.heap.size w w' := by
  cases h1 : decide (6000 < f.size + 1) with
  | true => exact walk_g1 f g x y a a' c c' w hx hy hin hin' hs hs' h1
  | false =>
    cases h2 : decide (6000 < g.size + 1) with
    | true => exact walk_g2 f g x y a a' c c' w hx hy hin hin' hs hs' h1 h2
    | false =>
      cases h3 : f.fine with
      | false => exact walk_f1 f g x y a a' c c' w hx hy hin hin' hs hs' h1 h2 h3
      | true =>
        cases h4 : g.fine with
        | false => exact walk_f2 f g x y a a' c c' w hx hy hin hin' hs hs' h1 h2 h3 h4
        | true => exact walk_all f g x y a a' c c' w hx hy hin hin' hs hs' h1 h2 h3 h4

/-! ### THE ROW's STEP -/
set_option maxRecDepth 100000 in
theorem lifted (os : Os) (started : os.Started) (H : Type) (enc : TypeId × Value → H) :
    ReturnsInHanded {} Try.checked os 6 .any (Rows.treeSamesSpec.pre6 enc Try.prog Try.f6 Rows.treeSamesRow.domain false) (Rows.treeSamesSpec.post enc Try.prog Try.f6 false true false false) := by
  refine returnsInHanded_of_change (C := Try.checked) own started (by kernel_rfl) Try.func6
    (ChangeSpec.witness6 (enc := enc) (C := Try.checked) false ⟨#[], #[.agg #[.int .u8 0, .int .u8 0, .int .u8 0, .int .u8 0, .int .i64 0, .int .i64 0, .int .i64 0, .string ⟨#[]⟩, .string ⟨#[]⟩, .slice none 0 0], .agg #[.int .u8 0, .int .u8 0, .int .u8 0, .int .u8 0, .int .i64 0, .int .i64 0, .int .i64 0, .string ⟨#[]⟩, .string ⟨#[]⟩, .slice none 0 0]], []⟩ 8 (by kernel_rfl) (by kernel_rfl) (by kernel_rfl) (by kernel_rfl)) ?_
  intro W base args ds gs before hval0 hW hcnd _
  have hval : ∀ (j : Nat) t v, Try.f6.params[j]? = some t → args[j]? = some v → Value.okWide Try.prog W .any base t v := hval0
  have hW' := hW
  obtain ⟨p, q, hA0, hV, rfl, hfz, hnd⟩ := hW
  have hA : DataW.TrodAll enc Try.prog W 0 (fun _ => true) true Try.f6.params.toList args.toList ds p := hA0
  rw [Try.params6] at hA hval
  obtain ⟨v0, vs0, d0, ds0, p0, q0, hargs, rfl, rfl, h0, r0⟩ := trodAll_cons hA
  obtain ⟨v1, vs1, d1, ds1, p1, q1, rfl, rfl, rfl, h1, r1⟩ := trodAll_cons r0
  obtain ⟨rfl, rfl, rfl⟩ := trodAll_nil r1
  obtain rfl : args = #[v0, v1] := by cases args; simp_all
  obtain ⟨rfl, rfl⟩ := trodVars_none hV
  have k0 := h0
  have k1 := h1
  have lt0 : ∀ x ∈ p0, x.block < W.heap.size := by obtain ⟨m, hm⟩ := k0; exact DataW.trod_lt m _ _ _ hm
  have lt1 : ∀ x ∈ p1, x.block < W.heap.size := by obtain ⟨m, hm⟩ := k1; exact DataW.trod_lt m _ _ _ hm
  obtain ⟨v, a, c, f, rfl, hv, hs, hin⟩ := open_tree h0
  obtain ⟨v', a', c', g, rfl, hv', hs', hin'⟩ := open_tree h1
  clear hA0 hval0
  refine (walk f g v v' a a' c c' W hv hv' hin hin' hs hs').mono fun e W' ⟨he, bel⟩ => ?_
  subst he
  exact ⟨_, rfl, _, _, _, [], _, [], hW', trodAll_mk1 (shut_bool Try.underlying4 _), (trodAll_cons_mk (Below.trod laidOut (by kernel_rfl) (of_decide_eq_true (by kernel_rfl)) k0 bel lt0) (trodAll_cons_mk (Below.trod laidOut (by kernel_rfl) (of_decide_eq_true (by kernel_rfl)) k1 bel lt1) trodAll_mk0)), rfl, bel.frame _, fun h => by cases h⟩

theorem over : Rows.treeSamesRow.holds Try.pinned (OpenSpec.ofChange Rows.treeSamesSpec) :=
  OpenClaim.holds_of_wide 6 Try.f6 rfl rfl rfl rfl rfl rfl rfl ⟨rfl, rfl, rfl, rfl, rfl⟩ rfl rfl rfl rfl rfl (by kernel_rfl) Try.func6 (by kernel_rfl)
    (of_decide_eq_true (by kernel_rfl)) (by unfold Func.isWrapper; first | (rw [if_pos (by decide +kernel)]; kernel_rfl) | (rw [if_neg (by decide +kernel)]; exact ⟨rfl, rfl⟩))
    (fun os started H enc _ => lifted os started H enc)

/-- THE STATEMENT -/
theorem proved : Rows.TreeSamesSaid := over
#print axioms proved
end Go.Proofs.Ytioeoillogpdoaa.treeSames
