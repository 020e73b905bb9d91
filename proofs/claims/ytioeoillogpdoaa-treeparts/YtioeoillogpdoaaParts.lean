/-
  For every tree and every number the statement TreeParts returns true, and its arguments read as they did; no conditions but the row's own (the tree does not lead back into itself).
-/
import Derived.Test.YtioeoillogpdoaaRows
import Derived.WalkKit
import Derived.ProofKit
import Derived.OpenShut
import Derived.ShutString
import Derived.ChangeOld
import Derived.Below
import Derived.Test.YtioeoillogpdoaaPartsF
namespace Go.Proofs.Ytioeoillogpdoaa.treeParts
open Go.ChangeShapes Go.WideShapes Go.ChangeAt Go.RowKit
set_option linter.unusedVariables false

theorem own : ownKnob Try.prog.godebug = none := by kernel_rfl
theorem laidOut : laidOutB Try.prog = true := by kernel_rfl

theorem kinds_get (f : Fo) : ∀ (i : Nat) (v : NF) (a : Option Addr) (c : Nat) (k : Fo), f.flat.get i = some (v, a, c, k) → f.kinds[i]? = some v.k := by
  induction f with
  | nil => intro i v a c k h; simp [Fo.flat, Fo.get] at h
  | cons x xa xc xk r ihk ihr =>
    intro i v a c k h
    cases i with
    | zero =>
      simp only [Fo.flat, Fo.get, Option.some.injEq, Prod.mk.injEq] at h
      obtain ⟨rfl, rfl, rfl, rfl⟩ := h
      rfl
    | succ i =>
      simp only [Fo.flat, Fo.get] at h
      rw [get_app, flat_len] at h
      simp only [Fo.kinds, List.getElem?_cons_succ]
      split at h
      · rename_i hl
        rw [List.getElem?_append_left (by rw [kinds_len]; exact hl)]
        exact ihk i v a c k h
      · rename_i hl
        rw [List.getElem?_append_right (by rw [kinds_len]; omega), kinds_len]
        exact ihr _ v a c k h
theorem row_kind {f : Fo} {v : NF} {a : Option Addr} {c : Nat} {x y : World} {g g2 : Nat} (h1 : ∀ j, j < f.size + 1 → x.cell? ⟨g, j, none⟩ = ((v.k :: f.kinds).map (Value.int .u8))[j]?) (h2 : ∀ j u, (cellsF (.cons v a c f f.flat))[j]? = some u → y.cell? ((⟨g2, 0, none⟩ : Addr).add j) = some u) (k : Nat) (hk : k < f.size + 1) :
    ∃ z, x.cell? ⟨g, k, none⟩ = some (.int .u8 z) ∧ y.cell? ⟨g2, k * 10, none⟩ = some (.int .u8 z) := by
  have e10 : (Fo.cons v a c f f.flat).len = f.size + 1 := by simp only [Fo.len, flat_len]
  obtain ⟨⟨v', ka, kc, kk⟩, hget⟩ := get_lt (.cons v a c f f.flat) k (by rw [e10]; exact hk)
  have hfl : (Fo.cons v a c f .nil).flat = .cons v a c f f.flat := by simp only [Fo.flat, app_nil]
  have hkg := kinds_get (.cons v a c f .nil) k v' ka kc kk (by rw [hfl]; exact hget)
  simp only [Fo.kinds, List.append_nil] at hkg
  refine ⟨v'.k, ?_, (row_at hget h2).cell 0 _ rfl⟩
  rw [h1 k hk, List.getElem?_map, hkg]
  rfl

set_option maxRecDepth 100000 in
set_option maxHeartbeats 4000000 in
theorem walk_g (f : Fo) (v : NF) (a : Option Addr) (c : Nat) (id : Int) (w : World) (hv : v.ok) (hin : In w a f) (hs : sok a f.len c) (hid : -9223372036854775808 ≤ id ∧ id ≤ 9223372036854775807) (h1 : 6000 < f.size + 1) :
    Calls Try.prog 4 #[nodeV v (.slice a f.len c), .int .i64 id] w fun e w' => e = .returned (.bool true) ∧ Below w.heap.size w w' := by
  have G : Hid (∀ X, Q (boxed w v (.slice a f.len c)) X → Calls Try.prog 8 #[nodeV v (.slice a f.len c), .int .i64 6000] X fun e w' => e = .returned (.bool true) ∧ Q (boxed w v (.slice a f.len c)) w') := fun X hX => by
    have := great_any f v a c X (hin.keep (Nat.le_refl _) ((boxed_q _ _ _).trans hX)) hs
    rw [decide_eq_true h1] at this
    exact this.mono fun e w' ⟨h1, h2⟩ => ⟨h1, hX.trans h2⟩
  clear hin hs hv h1
  go_enter Try.func4, Try.ntmps4
  go_wp2_with (first | (go_at_call 8; refine (G.out _ (Below.refl _ _)).mono ?_; rintro e x ⟨rfl, q1⟩) | (go_at_call 9; refine (awake_any _).mono ?_; rintro e y ⟨rfl, q2⟩))
  go_ret
  exact ⟨rfl, (boxed_q _ _ _).trans (q1.trans q2)⟩

theorem list_keep {f : Fo} {v : NF} {x y : World} {g : Nat} (h : ∀ j, j < f.size + 1 → x.cell? ⟨g, j, none⟩ = ((v.k :: f.kinds).map (Value.int .u8))[j]?) (hq : Q x y) : ∀ j, j < f.size + 1 → y.cell? ⟨g, j, none⟩ = ((v.k :: f.kinds).map (Value.int .u8))[j]? := fun j hj => by
  have h1 := h j hj
  obtain ⟨u, hu⟩ : ∃ u, ((v.k :: f.kinds).map (Value.int .u8))[j]? = some u := ⟨_, List.getElem?_eq_getElem (by simp [kinds_len]; omega)⟩
  rw [hu] at h1 ⊢
  have hb : g < x.heap.size := World.block_lt_of_cell? x _ h1
  exact (hq.cell (p := ⟨g, j, none⟩) hb).trans h1

theorem drew_add (w : World) (a b : Nat) : (w.drewN a).drewN b = w.drewN (a + b) := by
  simp [World.drewN, Nat.add_assoc]
theorem boxed_lt {w x : World} {v : NF} {s : Value} (h : Q (boxed w v s) x) : w.heap.size < x.heap.size := by have := h.size; simp at this; omega

set_option maxRecDepth 100000 in
set_option maxHeartbeats 4000000 in
theorem walk_n (f : Fo) (v : NF) (a : Option Addr) (c : Nat) (id : Int) (w : World) (hv : v.ok) (hin : In w a f) (hs : sok a f.len c) (hid : -9223372036854775808 ≤ id ∧ id ≤ 9223372036854775807) (h1 : ¬ 6000 < f.size + 1) (M : Nat) (hM : f.size + 1 = M) (hfi : f.fine = false) :
    Calls Try.prog 4 #[nodeV v (.slice a f.len c), .int .i64 id] w fun e w' => e = .returned (.bool true) ∧ Below w.heap.size w w' := by
  have hin' : ∀ X, Q (boxed w v (.slice a f.len c)) X → In X a f := fun X hX => hin.keep (Nat.le_refl _) ((boxed_q _ _ _).trans hX)
  have G : Hid (∀ X, Q (boxed w v (.slice a f.len c)) X → Calls Try.prog 8 #[nodeV v (.slice a f.len c), .int .i64 6000] X fun e w' => e = .returned (.bool false) ∧ Q (boxed w v (.slice a f.len c)) w') := fun X hX => by
    have := great_any f v a c X (hin' X hX) hs
    rw [decide_eq_false h1] at this
    exact this.mono fun e w' ⟨h1, h2⟩ => ⟨h1, hX.trans h2⟩
  have CA : Hid (∀ X, Q (boxed w v (.slice a f.len c)) X → Calls Try.prog 18 #[nodeV v (.slice a f.len c), .int .i64 id] X fun e w' => ∃ v1 a1 n1 c1 er, e = .returned (.tuple #[nodeV v1 (.slice a1 n1 c1), .int .i64 er]) ∧ AtP f v a c id w' v1 a1 n1 c1 er ∧ Q (boxed w v (.slice a f.len c)) w') := fun X hX => (at_p f v a c id X hv (hin' X hX) hs (by omega) hid).mono fun e w' ⟨v1, a1, n1, c1, er, p1, p2, p3⟩ => ⟨v1, a1, n1, c1, er, p1, p2, hX.trans p3⟩
  have CR : Hid (∀ X, Q (boxed w v (.slice a f.len c)) X → Calls Try.prog 19 #[nodeV v (.slice a f.len c), .int .i64 id] X fun e w' => ∃ v1 a1 n1 c1 er, e = .returned (.tuple #[nodeV v1 (.slice a1 n1 c1), .int .i64 er]) ∧ RAtP f v a c id v1 a1 n1 c1 er ∧ Q X w') := fun X hX => rat_p f v a c id X (hin' X hX) hs (by omega) hid
  have CF : Hid (∀ X, Q (boxed w v (.slice a f.len c)) X → Calls Try.prog 15 #[nodeV v (.slice a f.len c)] X fun e w' => e = .returned (.bool false) ∧ Q X w') := fun X hX => (rFine_any f v a c X (hin' X hX) hs).mono fun e w' ⟨p1, p2⟩ => ⟨by rw [p1, hfi], p2⟩
  have CL : Hid (∀ X, Q (boxed w v (.slice a f.len c)) X → Calls Try.prog 20 #[nodeV v (.slice a f.len c)] X fun e w' => e = .returned (.tuple #[.slice none 0 0, .int .i64 2]) ∧ Q X w') := fun X hX => by
    refine (list_any f v a c X hv (hin' X hX) hs (by omega)).mono fun e w' ⟨hq, h⟩ => ?_
    rcases h with ⟨h1, h2⟩ | ⟨g, cap, h1, _⟩
    · exact ⟨h2, hq⟩
    · rw [hfi] at h1; cases h1
  have HI := hideIt (And.intro hv (And.intro hin hs))
  have HMM := hideIt hM
  have hM2 : M ≤ 7000 := by omega
  clear hin hin' hs hv h1 hM hfi
  go_enter Try.func4, Try.ntmps4
  go_wp2_with (first | (go_at_call 8; refine (G.out _ (Below.refl _ _)).mono ?_; rintro e x ⟨rfl, q1⟩) | (go_at_call 9; refine (awake_any _).mono ?_; rintro e y ⟨rfl, q2⟩; obtain ⟨b0, b1, b2, b3, b4, b5, b6, b7, b8, b9⟩ := boxed_ten (q1.trans q2); have Q0 := hideIt (q1.trans q2); clear q1 q2) | (go_at_call 18; refine (CA.out _ Q0.out).mono ?_; rintro e x1 ⟨v1, a1, n1, c1, er, rfl, p1, p2⟩; (try clear b0 b1 b2 b3 b4 b5 b6 b7 b8 b9); obtain ⟨b0, b1, b2, b3, b4, b5, b6, b7, b8, b9⟩ := boxed_ten p2; have hx1 := boxed_lt p2; have P1 := hideIt p1; have Q1 := hideIt p2; clear p1 p2) | (go_at_call 19; refine (CR.out _ (Q1.out.trans (boxed_q x1 v1 (.slice a1 n1 c1)))).mono ?_; rintro e x2 ⟨v2, a2, n2, c2, er2, rfl, p1, p2⟩; (try clear b0 b1 b2 b3 b4 b5 b6 b7 b8 b9 hx1); have q12 := (boxed_q x1 v1 (.slice a1 n1 c1)).trans p2; have qb2 := Q1.out.trans q12; obtain ⟨b0, b1, b2, b3, b4, b5, b6, b7, b8, b9⟩ := boxed_ten qb2; have hx2 := boxed_lt qb2; obtain ⟨hee, hS⟩ := pair_at HI.out.1 HI.out.2.1 HI.out.2.2 ((boxed_q w v (.slice a f.len c)).trans Q1.out) q12 P1.out p1; subst hee; have HS := hideIt hS; have Q2 := hideIt p2; have QB2 := hideIt qb2; clear p1 p2 q12 qb2 hS) | (go_at_call 20; refine (CL.out _ (QB2.out.trans (boxed_q x2 v2 (.slice a2 n2 c2)))).mono ?_; rintro e x3 ⟨rfl, p3⟩; (try clear b0 b1 b2 b3 b4 b5 b6 b7 b8 b9 hx2); have q3 := (boxed_q x2 v2 (.slice a2 n2 c2)).trans p3; obtain ⟨b0, b1, b2, b3, b4, b5, b6, b7, b8, b9⟩ := boxed_ten (QB2.out.trans q3); obtain ⟨m0, m1, m2, m3, m4, m5, m6, m7, m8, m9⟩ := boxed_ten (Q2.out.trans q3); obtain ⟨n0, n1, n2, n3, n4, n5, n6, n7, n8, n9⟩ := boxed_ten p3; have Q3 := hideIt q3; have QB3 := hideIt (QB2.out.trans q3); clear q3) | (go_at_call 21; refine (HS.out _ Q3.out).mono ?_; rintro e x4 ⟨rfl, p4⟩; (try clear b0 b1 b2 b3 b4 b5 b6 b7 b8 b9 m0 m1 m2 m3 m4 m5 m6 m7 m8 m9 n0 n1 n2 n3 n4 n5 n6 n7 n8 n9); obtain ⟨b0, b1, b2, b3, b4, b5, b6, b7, b8, b9⟩ := boxed_ten (QB3.out.trans p4); have Q4 := hideIt p4; have QB4 := hideIt (QB3.out.trans p4); clear p4) | (go_at_call 15; refine (CF.out _ QB4.out).mono ?_; rintro e x5 ⟨rfl, p5⟩; (try clear b0 b1 b2 b3 b4 b5 b6 b7 b8 b9); obtain ⟨b0, b1, b2, b3, b4, b5, b6, b7, b8, b9⟩ := boxed_ten (QB4.out.trans p5); have Q5 := hideIt (Q4.out.trans p5); have QB5 := hideIt (QB4.out.trans p5); clear p5))
  go_ret
  exact ⟨rfl, (boxed_q _ _ _).trans QB5.out⟩

set_option maxRecDepth 100000 in
set_option maxHeartbeats 4000000 in
theorem walk_f (f : Fo) (v : NF) (a : Option Addr) (c : Nat) (id : Int) (w : World) (hv : v.ok) (hin : In w a f) (hs : sok a f.len c) (hid : -9223372036854775808 ≤ id ∧ id ≤ 9223372036854775807) (h1 : ¬ 6000 < f.size + 1) (M : Nat) (hM : f.size + 1 = M) (hfi : f.fine = true) :
    Calls Try.prog 4 #[nodeV v (.slice a f.len c), .int .i64 id] w fun e w' => e = .returned (.bool true) ∧ Below w.heap.size w w' := by
  have hin' : ∀ X, Q (boxed w v (.slice a f.len c)) X → In X a f := fun X hX => hin.keep (Nat.le_refl _) ((boxed_q _ _ _).trans hX)
  have G : Hid (∀ X, Q (boxed w v (.slice a f.len c)) X → Calls Try.prog 8 #[nodeV v (.slice a f.len c), .int .i64 6000] X fun e w' => e = .returned (.bool false) ∧ Q (boxed w v (.slice a f.len c)) w') := fun X hX => by
    have := great_any f v a c X (hin' X hX) hs
    rw [decide_eq_false h1] at this
    exact this.mono fun e w' ⟨h1, h2⟩ => ⟨h1, hX.trans h2⟩
  have CA : Hid (∀ X, Q (boxed w v (.slice a f.len c)) X → Calls Try.prog 18 #[nodeV v (.slice a f.len c), .int .i64 id] X fun e w' => ∃ v1 a1 n1 c1 er, e = .returned (.tuple #[nodeV v1 (.slice a1 n1 c1), .int .i64 er]) ∧ AtP f v a c id w' v1 a1 n1 c1 er ∧ Q (boxed w v (.slice a f.len c)) w') := fun X hX => (at_p f v a c id X hv (hin' X hX) hs (by omega) hid).mono fun e w' ⟨v1, a1, n1, c1, er, p1, p2, p3⟩ => ⟨v1, a1, n1, c1, er, p1, p2, hX.trans p3⟩
  have CR : Hid (∀ X, Q (boxed w v (.slice a f.len c)) X → Calls Try.prog 19 #[nodeV v (.slice a f.len c), .int .i64 id] X fun e w' => ∃ v1 a1 n1 c1 er, e = .returned (.tuple #[nodeV v1 (.slice a1 n1 c1), .int .i64 er]) ∧ RAtP f v a c id v1 a1 n1 c1 er ∧ Q X w') := fun X hX => rat_p f v a c id X (hin' X hX) hs (by omega) hid
  have CF : Hid (∀ X, Q (boxed w v (.slice a f.len c)) X → Calls Try.prog 15 #[nodeV v (.slice a f.len c)] X fun e w' => e = .returned (.bool true) ∧ Q X w') := fun X hX => (rFine_any f v a c X (hin' X hX) hs).mono fun e w' ⟨p1, p2⟩ => ⟨by rw [p1, hfi], p2⟩
  have CL : Hid (∀ X, Q (boxed w v (.slice a f.len c)) X → Calls Try.prog 20 #[nodeV v (.slice a f.len c)] X fun e w' => ∃ g cap, e = .returned (.tuple #[.slice (some ⟨g, 0, none⟩) M cap, .int .i64 0]) ∧ (∀ j, j < f.size + 1 → w'.cell? ⟨g, j, none⟩ = ((v.k :: f.kinds).map (Value.int .u8))[j]?) ∧ Q X w') := fun X hX => by
    refine (list_any f v a c X hv (hin' X hX) hs (by omega)).mono fun e w' ⟨hq, h⟩ => ?_
    rcases h with ⟨h1, _⟩ | ⟨g, cap, h1, h2, h3⟩
    · rw [hfi] at h1; cases h1
    · rw [hM] at h2
      exact ⟨g, cap, h2, h3, hq⟩
  have CM : Hid (∀ X, Q (boxed w v (.slice a f.len c)) X → Calls Try.prog 22 #[nodeV v (.slice a f.len c)] X fun e w' => ∃ g cap, e = .returned (.slice (some ⟨g, 0, none⟩) M cap) ∧ (∀ j u, (cellsF (.cons v a c f f.flat))[j]? = some u → w'.cell? ((⟨g, 0, none⟩ : Addr).add j) = some u) ∧ Q X w') := fun X hX => by
    have := all_any (f.size + 1) f (by omega) v a c X (hin' X hX) hs (by omega)
    rw [hM] at this
    exact this.mono fun e w' ⟨g, cap, h1, h2, h3⟩ => ⟨g, cap, h1, h2.cells rfl, h3⟩
  have HI := hideIt (And.intro hv (And.intro hin hs))
  have HMM := hideIt hM
  have hM2 : M ≤ 7000 := by omega
  clear hin hin' hs hv h1 hM hfi
  go_enter Try.func4, Try.ntmps4
  go_wp2_with (first | (go_at_call 8; refine (G.out _ (Below.refl _ _)).mono ?_; rintro e x ⟨rfl, q1⟩) | (go_at_call 9; refine (awake_any _).mono ?_; rintro e y ⟨rfl, q2⟩; obtain ⟨b0, b1, b2, b3, b4, b5, b6, b7, b8, b9⟩ := boxed_ten (q1.trans q2); have Q0 := hideIt (q1.trans q2); clear q1 q2) | (go_at_call 18; refine (CA.out _ Q0.out).mono ?_; rintro e x1 ⟨v1, a1, n1, c1, er, rfl, p1, p2⟩; (try clear b0 b1 b2 b3 b4 b5 b6 b7 b8 b9); obtain ⟨b0, b1, b2, b3, b4, b5, b6, b7, b8, b9⟩ := boxed_ten p2; have hx1 := boxed_lt p2; have P1 := hideIt p1; have Q1 := hideIt p2; clear p1 p2) | (go_at_call 19; refine (CR.out _ (Q1.out.trans (boxed_q x1 v1 (.slice a1 n1 c1)))).mono ?_; rintro e x2 ⟨v2, a2, n2, c2, er2, rfl, p1, p2⟩; (try clear b0 b1 b2 b3 b4 b5 b6 b7 b8 b9 hx1); have q12 := (boxed_q x1 v1 (.slice a1 n1 c1)).trans p2; have qb2 := Q1.out.trans q12; obtain ⟨b0, b1, b2, b3, b4, b5, b6, b7, b8, b9⟩ := boxed_ten qb2; have hx2 := boxed_lt qb2; obtain ⟨hee, hS⟩ := pair_at HI.out.1 HI.out.2.1 HI.out.2.2 ((boxed_q w v (.slice a f.len c)).trans Q1.out) q12 P1.out p1; subst hee; have HS := hideIt hS; have Q2 := hideIt p2; have QB2 := hideIt qb2; clear p1 p2 q12 qb2 hS) | (go_at_call 20; refine (CL.out _ (QB2.out.trans (boxed_q x2 v2 (.slice a2 n2 c2)))).mono ?_; rintro e x3 ⟨lg, lcap, rfl, hl, p3⟩; (try clear b0 b1 b2 b3 b4 b5 b6 b7 b8 b9 hx2); have q3 := (boxed_q x2 v2 (.slice a2 n2 c2)).trans p3; obtain ⟨b0, b1, b2, b3, b4, b5, b6, b7, b8, b9⟩ := boxed_ten (QB2.out.trans q3); obtain ⟨m0, m1, m2, m3, m4, m5, m6, m7, m8, m9⟩ := boxed_ten (Q2.out.trans q3); obtain ⟨n0, n1, n2, n3, n4, n5, n6, n7, n8, n9⟩ := boxed_ten p3; have Q3 := hideIt q3; have QB3 := hideIt (QB2.out.trans q3); clear q3) | (go_at_call 21; refine (HS.out _ Q3.out).mono ?_; rintro e x4 ⟨rfl, p4⟩; (try clear b0 b1 b2 b3 b4 b5 b6 b7 b8 b9 m0 m1 m2 m3 m4 m5 m6 m7 m8 m9 n0 n1 n2 n3 n4 n5 n6 n7 n8 n9); obtain ⟨b0, b1, b2, b3, b4, b5, b6, b7, b8, b9⟩ := boxed_ten (QB3.out.trans p4); have Q4 := hideIt p4; have QB4 := hideIt (QB3.out.trans p4); clear p4) | (go_at_call 15; refine (CF.out _ QB4.out).mono ?_; rintro e x5 ⟨rfl, p5⟩; (try clear b0 b1 b2 b3 b4 b5 b6 b7 b8 b9); obtain ⟨b0, b1, b2, b3, b4, b5, b6, b7, b8, b9⟩ := boxed_ten (QB4.out.trans p5); have Q5 := hideIt (Q4.out.trans p5); have QB5 := hideIt (QB4.out.trans p5); clear p5) | (go_at_call 22; refine (CM.out _ QB5.out).mono ?_; rintro e x6 ⟨mg, mcap, rfl, hm, p6⟩; (try clear b0 b1 b2 b3 b4 b5 b6 b7 b8 b9); have HMC := hideIt hm; have QB6 := hideIt (QB5.out.trans p6); have Q56 := hideIt p6; clear hm p6))
  have HLL := hideIt (list_keep hl (Q5.out.trans Q56.out))
  have BW : Hid (Below w.heap.size w x6) := (boxed_q _ _ _).trans QB6.out
  clear hl Q3 QB3 Q4 QB4 Q5 QB5 QB6 Q56 HS Q2 QB2 Q1 Q0 P1 HI CA CR CF CL CM G
  go_loopw [12] (fun i wr => ∃ k n : Nat, i = .int .i64 k ∧ k ≤ M ∧ wr = x6.drewN n) (fun i _ => M - (intOf i).toNat)
  case atStart => exact ⟨0, 0, rfl, by omega, rfl⟩
  case round =>
    obtain ⟨k, n, rfl, hk, hwr⟩ := hrel
    have HW := hideIt hwr
    by_cases hlt : k < M
    · obtain ⟨z, z1, z2⟩ := row_kind HLL.out HMC.out k (by rw [HMM.out]; exact hlt)
      have y1 : wr.cell? ⟨lg, k, none⟩ = some (.int .u8 z) := by rw [hwr]; exact z1
      have y2 : wr.cell? ⟨mg, k * 10, none⟩ = some (.int .u8 z) := by rw [hwr]; exact z2
      have hkl : (k : Int) < (M : Int) := by omega
      clear z1 z2 hwr
      go_wp2_with (fail)
      go_quiet (fail)
      go_wp2_with (fail)
      go_roundw
      case rel => exact ⟨k + 1, n + nq, by go_num, by omega, by rw [HW.out]; exact drew_add x6 n nq⟩
      case measure => simp [intOf]; omega
    · clear hwr
      have ek : k = M := by omega
      go_wp2_with (fail)
      go_ret
      refine ⟨rfl, ?_⟩
      rw [HW.out]
      exact below_drewN BW.out _

theorem walk (f : Fo) (v : NF) (a : Option Addr) (c : Nat) (id : Int) (w : World) (hv : v.ok) (hin : In w a f) (hs : sok a f.len c) (hid : -9223372036854775808 ≤ id ∧ id ≤ 9223372036854775807) :
    Calls Try.prog 4 #[nodeV v (.slice a f.len c), .int .i64 id] w fun e w' => e = .returned (.bool true) ∧ Below w.heap.size w w' := by
  by_cases h1 : 6000 < f.size + 1
  · exact walk_g f v a c id w hv hin hs hid h1
  · cases hfi : f.fine with
    | false => exact walk_n f v a c id w hv hin hs hid h1 _ rfl hfi
    | true => exact walk_f f v a c id w hv hin hs hid h1 _ rfl hfi

/-! ### THE ROW's STEP -/
set_option maxRecDepth 100000 in
theorem lifted (os : Os) (started : os.Started) (H : Type) (enc : TypeId × Value → H) :
    ReturnsInHanded {} Try.checked os 4 .any (Rows.treePartsSpec.pre6 enc Try.prog Try.f4 Rows.treePartsRow.domain false) (Rows.treePartsSpec.post enc Try.prog Try.f4 false true false false) := by
  refine returnsInHanded_of_change (C := Try.checked) own started (by kernel_rfl) Try.func4
    (ChangeSpec.witness6 (enc := enc) (C := Try.checked) false ⟨#[], #[.agg #[.int .u8 0, .int .u8 0, .int .u8 0, .int .u8 0, .int .i64 0, .int .i64 0, .int .i64 0, .string ⟨#[]⟩, .string ⟨#[]⟩, .slice none 0 0], .int .i64 0], []⟩ 8 (by kernel_rfl) (by kernel_rfl) (by kernel_rfl) (by kernel_rfl)) ?_
  intro W base args ds gs before hval0 hW hcnd _
  have hval : ∀ (j : Nat) t v, Try.f4.params[j]? = some t → args[j]? = some v → Value.okWide Try.prog W .any base t v := hval0
  have hW' := hW
  obtain ⟨p, q, hA0, hV, rfl, hfz, hnd⟩ := hW
  have hA : DataW.TrodAll enc Try.prog W 0 (fun _ => true) true Try.f4.params.toList args.toList ds p := hA0
  rw [Try.params4] at hA hval
  obtain ⟨v0, vs0, d0, ds0, p0, q0, hargs, rfl, rfl, h0, r0⟩ := trodAll_cons hA
  obtain ⟨v1, vs1, d1, ds1, p1, q1, rfl, rfl, rfl, h1, r1⟩ := trodAll_cons r0
  obtain ⟨rfl, rfl, rfl⟩ := trodAll_nil r1
  obtain rfl : args = #[v0, v1] := by cases args; simp_all
  obtain ⟨rfl, rfl⟩ := trodVars_none hV
  have k0 := h0
  have k1 := h1
  have lt0 : ∀ x ∈ p0, x.block < W.heap.size := by obtain ⟨m, hm⟩ := k0; exact DataW.trod_lt m _ _ _ hm
  have lt1 : ∀ x ∈ p1, x.block < W.heap.size := by obtain ⟨m, hm⟩ := k1; exact DataW.trod_lt m _ _ _ hm
  obtain ⟨v, a, c, f, rfl, hv, hs, hin⟩ := open_tree h0
  obtain ⟨id, rfl, hidb⟩ : ∃ z, v1 = .int .i64 z ∧ -9223372036854775808 ≤ z ∧ z ≤ 9223372036854775807 := by
    obtain ⟨m, hm⟩ := h1
    obtain ⟨z, e, _, hw⟩ := DataW.trod_int Try.underlying3 hm
    refine ⟨z, ?_, wf64 hw⟩
    have e' := congrArg List.toArray e
    rw [Array.toArray_toList] at e'
    obtain ⟨z', rfl⟩ := okWide_int Try.underlying3 (hval 1 3 v1 rfl rfl)
    simpa [Value.cells] using e'
  clear hA0 hval0
  refine (walk f v a c id W hv hin hs hidb).mono fun e W' ⟨he, bel⟩ => ?_
  subst he
  exact ⟨_, rfl, _, _, _, [], _, [], hW', trodAll_mk1 (shut_bool Try.underlying4 _), (trodAll_cons_mk (Below.trod laidOut (by kernel_rfl) (of_decide_eq_true (by kernel_rfl)) k0 bel lt0) (trodAll_cons_mk (Below.trod laidOut (by kernel_rfl) (of_decide_eq_true (by kernel_rfl)) k1 bel lt1) trodAll_mk0)), rfl, bel.frame _, fun h => by cases h⟩

theorem over : Rows.treePartsRow.holds Try.pinned (OpenSpec.ofChange Rows.treePartsSpec) :=
  OpenClaim.holds_of_wide 4 Try.f4 rfl rfl rfl rfl rfl rfl rfl ⟨rfl, rfl, rfl, rfl, rfl⟩ rfl rfl rfl rfl rfl (by kernel_rfl) Try.func4 (by kernel_rfl)
    (of_decide_eq_true (by kernel_rfl)) (by unfold Func.isWrapper; first | (rw [if_pos (by decide +kernel)]; kernel_rfl) | (rw [if_neg (by decide +kernel)]; exact ⟨rfl, rfl⟩))
    (fun os started H enc _ => lifted os started H enc)

/-- THE STATEMENT -/
theorem proved : Rows.TreePartsSaid := over
#print axioms proved

end Go.Proofs.Ytioeoillogpdoaa.treeParts
