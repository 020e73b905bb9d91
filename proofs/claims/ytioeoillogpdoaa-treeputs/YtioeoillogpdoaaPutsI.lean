/-
  What Put answers where all is fine: a contract over the program; the conditions: the tree and the list lie in memory and are fine, the number is one of the tree's, and what comes of it is fine.
-/
import Derived.Test.YtioeoillogpdoaaPutsH
namespace Go.Proofs.Ytioeoillogpdoaa
open Go.RowKit
set_option linter.unusedVariables false

theorem Cp.depth : ∀ {f g : Fo}, Cp f g → g.depth = f.depth := by
  intro f
  induction f with
  | nil =>
    intro g h
    cases g with
    | nil => rfl
    | cons => exact h.elim
  | cons v a c k r ihk ihr =>
    intro g h
    cases g with
    | nil => exact h.elim
    | cons v' a' c' k' r' =>
      obtain ⟨_, h1, h2⟩ := h
      simp only [Fo.depth, ihk h1, ihr h2]
theorem Cp.fine {f g : Fo} (h : Cp f g) : g.fine = f.fine := by simp only [Fo.fine, h.depth, h.size]
theorem fine_size {f : Fo} (h : f.fine = true) : f.size + 1 ≤ 4000 := by
  simp only [Fo.fine, Bool.and_eq_true, decide_eq_true_eq] at h
  exact h.2
theorem Cp.trans : ∀ {f g h : Fo}, Cp f g → Cp g h → Cp f h := by
  intro f
  induction f with
  | nil =>
    intro g h h1 h2
    cases g with
    | nil => exact h2
    | cons => exact h1.elim
  | cons v a c k r ihk ihr =>
    intro g h h1 h2
    cases g with
    | nil => exact h1.elim
    | cons v' a' c' k' r' =>
      cases h with
      | nil => exact h2.elim
      | cons v2 a2 c2 k2 r2 =>
        obtain ⟨e1, p1, p2⟩ := h1
        obtain ⟨e2, q1, q2⟩ := h2
        exact ⟨e2.trans e1, ihk p1 q1, ihr p2 q2⟩

set_option maxRecDepth 100000 in
set_option maxHeartbeats 4000000 in
theorem put_good (f : Fo) (v : NF) (a : Option Addr) (c : Nat) (id : Int) (F : Fo) (la : Option Addr) (lc : Nat) (w : World) (hv : v.ok) (hin : In w a f) (hs : sok a f.len c) (hinF : In w la F) (hsF : sok la F.len lc) (hff : f.fine = true) (hFz : F.size ≤ 7000) (hFf : F.eachFine = true) (id1 : 1 ≤ id) (id2 : id ≤ f.size) (hT : (putS F (id - 1) f).fine = true) :
    Calls Try.prog 23 #[nodeV v (.slice a f.len c), .int .i64 id, .slice la F.len lc] w fun e w' => ∃ a' c' f', e = .returned (.tuple #[nodeV v (.slice a' f'.len c'), .int .i64 0]) ∧ Cp (putS F (id - 1) f) f' ∧ sok a' f'.len c' ∧ In w' a' f' ∧ Q w w' := by
  have hz := fine_size hff
  have hTz := fine_size hT
  have FA := hideIt (fun (x : World) (h : Q w x) => fine_any f v a c x hv (hin.keep (Nat.le_refl _) h) hs (by omega))
  have FA1 := hideIt (FA.out _ (boxed2_q w v (.slice a f.len c) (nf 0 0) (.slice none 0 0)))
  have CO := hideIt (fun (x : World) (h : Q w x) => contains_any F la lc x (hinF.keep (Nat.le_refl _) h) hsF hFz)
  have SZ := hideIt (fun (x : World) (h : Q w x) => size_any f v a c x hv (hin.keep (Nat.le_refl _) h) hs (by omega))
  have hsm : Hid (((min (f.size + 1) 4001 : Nat) : Int) = (f.size : Int) + 1) := by show _ = _; omega
  have RP := hideIt (fun (x : World) (h : Q w x) => replace_any (f.size + 1) f (by omega) v a c id F la lc x w.heap.size (hin.keep (Nat.le_refl _) h) hs (hinF.keep (Nat.le_refl _) h) hsF (av_in hin) (av_in hinF) h.size id1 id2 (by omega) (by have := F.len_le_size; omega))
  have FG := hideIt (fun (x : World) (a' : Option Addr) (c' : Nat) (G : Fo) (h1 : Cp (putS F (id - 1) f) G) (h2 : sok a' G.len c') (h3 : In x a' G) => (show Calls Try.prog 14 #[nodeV v (.slice a' G.len c')] x fun e w' => e = .returned (.bool true) ∧ Q x w' by
    have := fine_any G v a' c' x hv h3 h2 (by rw [h1.size]; omega)
    rw [h1.fine, hT] at this
    exact this))
  have CG := hideIt (fun (x : World) (a' : Option Addr) (c' : Nat) (G : Fo) (h1 : Cp (putS F (id - 1) f) G) (h2 : sok a' G.len c') (h3 : In x a' G) => copy_any G v a' c' x h3 h2 (by rw [h1.size]; omega))
  have HFF := hideIt hff
  have HFf := hideIt hFf
  have id0 : ¬ (id ≤ 0) := by omega
  have hidl : ¬ ((f.size : Int) + 1 ≤ id) := by omega
  clear hin hs hinF hsF hff hFf hT
  go_enter Try.func23, Try.ntmps23
  go_wp2_with (first
    | (go_at_call 41; refine (CO.out _ QW1.out).mono ?_; rw [HFf.out]; rintro e y2 ⟨rfl, q2⟩; have QX2 := hideIt (QX1.out.trans q2); have QW2 := hideIt ((boxed2_q _ _ _ _ _).trans QX2.out); (try clear x0 x1 x2 x3 x4 x5 x6 x7 x8 x9); have x0 := boxed2_a QX2.out 0 _ rfl; have x1 := boxed2_a QX2.out 1 _ rfl; have x2 := boxed2_a QX2.out 2 _ rfl; have x3 := boxed2_a QX2.out 3 _ rfl; have x4 := boxed2_a QX2.out 4 _ rfl; have x5 := boxed2_a QX2.out 5 _ rfl; have x6 := boxed2_a QX2.out 6 _ rfl; have x7 := boxed2_a QX2.out 7 _ rfl; have x8 := boxed2_a QX2.out 8 _ rfl; have x9 := boxed2_a QX2.out 9 _ rfl; clear q2)
    | (go_at_call 10; refine (SZ.out _ QW2.out).mono ?_; rw [hsm.out]; rintro e y3 ⟨rfl, q3⟩; have QX3 := hideIt (QX2.out.trans q3); have QW3 := hideIt ((boxed2_q _ _ _ _ _).trans QX3.out); (try clear x0 x1 x2 x3 x4 x5 x6 x7 x8 x9); have x0 := boxed2_a QX3.out 0 _ rfl; have x1 := boxed2_a QX3.out 1 _ rfl; have x2 := boxed2_a QX3.out 2 _ rfl; have x3 := boxed2_a QX3.out 3 _ rfl; have x4 := boxed2_a QX3.out 4 _ rfl; have x5 := boxed2_a QX3.out 5 _ rfl; have x6 := boxed2_a QX3.out 6 _ rfl; have x7 := boxed2_a QX3.out 7 _ rfl; have x8 := boxed2_a QX3.out 8 _ rfl; have x9 := boxed2_a QX3.out 9 _ rfl; clear q3)
    | (go_at_call 43; refine (RP.out _ QW3.out).mono ?_; rintro e y4 ⟨a', c', G, rfl, p1, p2, p3, p4, p5⟩; have QX4 := hideIt (QX3.out.trans p5); have HG := hideIt (And.intro p1 (And.intro p2 p3)); have FG1 := hideIt (FG.out (boxed y4 v (.slice a' G.len c')) a' c' G p1 p2 (p3.keep (Nat.le_refl _) (boxed_q y4 v (.slice a' G.len c')))); (try clear x0 x1 x2 x3 x4 x5 x6 x7 x8 x9); clear p1 p2 p3 p4 p5)
    | (go_at_call 14; refine FG1.out.mono ?_; rintro e y5 ⟨rfl, q5⟩; have QX5 := hideIt (QX4.out.trans ((boxed_q y4 v (.slice a' G.len c')).trans q5)); have CG1 := hideIt (CG.out y5 a' c' G HG.out.1 HG.out.2.1 (HG.out.2.2.keep (Nat.le_refl _) ((boxed_q y4 v (.slice a' G.len c')).trans q5))); have b0 := boxed_cell q5 0 _ rfl; have b1 := boxed_cell q5 1 _ rfl; have b2 := boxed_cell q5 2 _ rfl; have b3 := boxed_cell q5 3 _ rfl; have b4 := boxed_cell q5 4 _ rfl; have b5 := boxed_cell q5 5 _ rfl; have b6 := boxed_cell q5 6 _ rfl; have b7 := boxed_cell q5 7 _ rfl; have b8 := boxed_cell q5 8 _ rfl; have b9 := boxed_cell q5 9 _ rfl; clear q5 FG1)
    | (go_at_call 25; refine CG1.out.mono ?_; rintro e z ⟨a2, c2, G2, rfl, t1, t2, t3, t4, t5, t6⟩; have QX6 := hideIt (QX5.out.trans t6); have ry0 := boxed2_b QX6.out 0 _ rfl; have ry1 := boxed2_b QX6.out 1 _ rfl; have ry2 := boxed2_b QX6.out 2 _ rfl; have ry3 := boxed2_b QX6.out 3 _ rfl; have ry4 := boxed2_b QX6.out 4 _ rfl; have ry5 := boxed2_b QX6.out 5 _ rfl; have ry6 := boxed2_b QX6.out 6 _ rfl; have ry7 := boxed2_b QX6.out 7 _ rfl; have ry8 := boxed2_b QX6.out 8 _ rfl; have ry9 := boxed2_b QX6.out 9 _ rfl; have gf0 := (boxed2_free (x := z) QX6.out 0).2; have gf1 := (boxed2_free (x := z) QX6.out 1).2; have gf2 := (boxed2_free (x := z) QX6.out 2).2; have gf3 := (boxed2_free (x := z) QX6.out 3).2; have gf4 := (boxed2_free (x := z) QX6.out 4).2; have gf5 := (boxed2_free (x := z) QX6.out 5).2; have gf6 := (boxed2_free (x := z) QX6.out 6).2; have gf7 := (boxed2_free (x := z) QX6.out 7).2; have gf8 := (boxed2_free (x := z) QX6.out 8).2; have gf9 := (boxed2_free (x := z) QX6.out 9).2; have HE := hideIt (And.intro t1 (And.intro t2 (And.intro t3 t4))); clear t1 t2 t3 t4 t5 t6)
    | (go_at_call 14; refine FA1.out.mono ?_; rw [HFF.out]; rintro e y1 ⟨rfl, q1⟩; have QX1 := hideIt q1; have QW1 := hideIt ((boxed2_q _ _ _ _ _).trans q1); have x0 := boxed2_a QX1.out 0 _ rfl; have x1 := boxed2_a QX1.out 1 _ rfl; have x2 := boxed2_a QX1.out 2 _ rfl; have x3 := boxed2_a QX1.out 3 _ rfl; have x4 := boxed2_a QX1.out 4 _ rfl; have x5 := boxed2_a QX1.out 5 _ rfl; have x6 := boxed2_a QX1.out 6 _ rfl; have x7 := boxed2_a QX1.out 7 _ rfl; have x8 := boxed2_a QX1.out 8 _ rfl; have x9 := boxed2_a QX1.out 9 _ rfl; clear q1)
    | fail)
  obtain ⟨t1, t2, t3, t4⟩ := HE.out
  have hsz : w.heap.size + 1 < y5.heap.size := by have := QX5.out.size; simp at this; omega
  have hl := t1.len
  refine bodyPost_ret (v := .tuple #[nodeV v (.slice a2 G.len c2), .int .i64 0]) (by simp [results, Try.results23, go_sem, *]) rfl ⟨a2, c2, G2, by rw [hl], HG.out.1.trans t1, by rw [hl]; exact t2, ?_, ?_⟩
  · repeat (refine In.setCell (B := y5.heap.size) hsz ?_ t4)
    exact t3
  · repeat (refine Below.setCell ?_ (by simp <;> omega) _)
    exact (boxed2_q _ _ _ _ _).trans QX6.out
end Go.Proofs.Ytioeoillogpdoaa
