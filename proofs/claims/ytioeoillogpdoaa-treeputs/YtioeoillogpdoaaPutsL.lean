/-
  What Put answers where something is not fine, or there is no such number: contracts over the program; the conditions: the tree and the list lie in memory and have at most 7000 nodes each.
-/
import Derived.Test.YtioeoillogpdoaaPutsI
import Derived.Test.YtioeoillogpdoaaPutsK
namespace Go.Proofs.Ytioeoillogpdoaa
open Go.RowKit
set_option linter.unusedVariables false

set_option maxRecDepth 100000 in
set_option maxHeartbeats 4000000 in
theorem put_coarse (f : Fo) (v : NF) (a : Option Addr) (c : Nat) (id : Int) (F : Fo) (la : Option Addr) (lc : Nat) (w : World) (hv : v.ok) (hin : In w a f) (hs : sok a f.len c) (hinF : In w la F) (hsF : sok la F.len lc) (hfz : f.size ≤ 7000) (hFz : F.size ≤ 7000) (hff : f.fine = false) :
    Calls Try.prog 23 #[nodeV v (.slice a f.len c), .int .i64 id, .slice la F.len lc] w fun e w' => e = .returned (.tuple #[nodeV (nf 0 0) (.slice none 0 0), .int .i64 2]) ∧ Q w w' := by
  have FA := hideIt (fun (x : World) (h : Q w x) => fine_any f v a c x hv (hin.keep (Nat.le_refl _) h) hs hfz)
  have FA1 := hideIt (FA.out _ (boxed2_q w v (.slice a f.len c) (nf 0 0) (.slice none 0 0)))
  have CO := hideIt (fun (x : World) (h : Q w x) => contains_any F la lc x (hinF.keep (Nat.le_refl _) h) hsF hFz)
  have SZ := hideIt (fun (x : World) (h : Q w x) => size_any f v a c x hv (hin.keep (Nat.le_refl _) h) hs hfz)
  have HFF := hideIt hff
  clear hff
  clear hin hs hinF hsF
  go_enter Try.func23, Try.ntmps23
  go_wp2_with (first
    | (go_at_call 14; refine FA1.out.mono ?_; rw [HFF.out]; rintro e y1 ⟨rfl, q1⟩; have QX1 := hideIt q1; have QW1 := hideIt ((boxed2_q _ _ _ _ _).trans q1); have QE := hideIt q1; have ry0 := boxed2_b QX1.out 0 _ rfl; have ry1 := boxed2_b QX1.out 1 _ rfl; have ry2 := boxed2_b QX1.out 2 _ rfl; have ry3 := boxed2_b QX1.out 3 _ rfl; have ry4 := boxed2_b QX1.out 4 _ rfl; have ry5 := boxed2_b QX1.out 5 _ rfl; have ry6 := boxed2_b QX1.out 6 _ rfl; have ry7 := boxed2_b QX1.out 7 _ rfl; have ry8 := boxed2_b QX1.out 8 _ rfl; have ry9 := boxed2_b QX1.out 9 _ rfl; have gf0 := (boxed2_free (x := y1) QX1.out 0).2; have gf1 := (boxed2_free (x := y1) QX1.out 1).2; have gf2 := (boxed2_free (x := y1) QX1.out 2).2; have gf3 := (boxed2_free (x := y1) QX1.out 3).2; have gf4 := (boxed2_free (x := y1) QX1.out 4).2; have gf5 := (boxed2_free (x := y1) QX1.out 5).2; have gf6 := (boxed2_free (x := y1) QX1.out 6).2; have gf7 := (boxed2_free (x := y1) QX1.out 7).2; have gf8 := (boxed2_free (x := y1) QX1.out 8).2; have gf9 := (boxed2_free (x := y1) QX1.out 9).2; clear q1)
    | fail)
  refine bodyPost_ret (v := .tuple #[nodeV (nf 0 0) (.slice none 0 0), .int .i64 2]) (by simp [results, Try.results23, go_sem, nf, *]) rfl ⟨rfl, ?_⟩
  repeat (refine Below.setCell ?_ (by simp <;> omega) _)
  exact (boxed2_q _ _ _ _ _).trans QE.out

set_option maxRecDepth 100000 in
set_option maxHeartbeats 4000000 in
theorem put_list (f : Fo) (v : NF) (a : Option Addr) (c : Nat) (id : Int) (F : Fo) (la : Option Addr) (lc : Nat) (w : World) (hv : v.ok) (hin : In w a f) (hs : sok a f.len c) (hinF : In w la F) (hsF : sok la F.len lc) (hfz : f.size ≤ 7000) (hFz : F.size ≤ 7000) (hff : f.fine = true) (hFf : F.eachFine = false) :
    Calls Try.prog 23 #[nodeV v (.slice a f.len c), .int .i64 id, .slice la F.len lc] w fun e w' => e = .returned (.tuple #[nodeV (nf 0 0) (.slice none 0 0), .int .i64 2]) ∧ Q w w' := by
  have FA := hideIt (fun (x : World) (h : Q w x) => fine_any f v a c x hv (hin.keep (Nat.le_refl _) h) hs hfz)
  have FA1 := hideIt (FA.out _ (boxed2_q w v (.slice a f.len c) (nf 0 0) (.slice none 0 0)))
  have CO := hideIt (fun (x : World) (h : Q w x) => contains_any F la lc x (hinF.keep (Nat.le_refl _) h) hsF hFz)
  have SZ := hideIt (fun (x : World) (h : Q w x) => size_any f v a c x hv (hin.keep (Nat.le_refl _) h) hs hfz)
  have HFF := hideIt hff
  have HFf := hideIt hFf
  clear hff hFf
  clear hin hs hinF hsF
  go_enter Try.func23, Try.ntmps23
  go_wp2_with (first
    | (go_at_call 41; refine (CO.out _ QW1.out).mono ?_; rw [HFf.out]; rintro e y2 ⟨rfl, q2⟩; have QX2 := hideIt (QX1.out.trans q2); have QW2 := hideIt ((boxed2_q _ _ _ _ _).trans QX2.out); (try clear x0 x1 x2 x3 x4 x5 x6 x7 x8 x9); have QE := hideIt QX2.out; have ry0 := boxed2_b QX2.out 0 _ rfl; have ry1 := boxed2_b QX2.out 1 _ rfl; have ry2 := boxed2_b QX2.out 2 _ rfl; have ry3 := boxed2_b QX2.out 3 _ rfl; have ry4 := boxed2_b QX2.out 4 _ rfl; have ry5 := boxed2_b QX2.out 5 _ rfl; have ry6 := boxed2_b QX2.out 6 _ rfl; have ry7 := boxed2_b QX2.out 7 _ rfl; have ry8 := boxed2_b QX2.out 8 _ rfl; have ry9 := boxed2_b QX2.out 9 _ rfl; have gf0 := (boxed2_free (x := y2) QX2.out 0).2; have gf1 := (boxed2_free (x := y2) QX2.out 1).2; have gf2 := (boxed2_free (x := y2) QX2.out 2).2; have gf3 := (boxed2_free (x := y2) QX2.out 3).2; have gf4 := (boxed2_free (x := y2) QX2.out 4).2; have gf5 := (boxed2_free (x := y2) QX2.out 5).2; have gf6 := (boxed2_free (x := y2) QX2.out 6).2; have gf7 := (boxed2_free (x := y2) QX2.out 7).2; have gf8 := (boxed2_free (x := y2) QX2.out 8).2; have gf9 := (boxed2_free (x := y2) QX2.out 9).2; clear q2)
    | (go_at_call 14; refine FA1.out.mono ?_; rw [HFF.out]; rintro e y1 ⟨rfl, q1⟩; have QX1 := hideIt q1; have QW1 := hideIt ((boxed2_q _ _ _ _ _).trans q1); have x0 := boxed2_a QX1.out 0 _ rfl; have x1 := boxed2_a QX1.out 1 _ rfl; have x2 := boxed2_a QX1.out 2 _ rfl; have x3 := boxed2_a QX1.out 3 _ rfl; have x4 := boxed2_a QX1.out 4 _ rfl; have x5 := boxed2_a QX1.out 5 _ rfl; have x6 := boxed2_a QX1.out 6 _ rfl; have x7 := boxed2_a QX1.out 7 _ rfl; have x8 := boxed2_a QX1.out 8 _ rfl; have x9 := boxed2_a QX1.out 9 _ rfl; clear q1)
    | fail)
  refine bodyPost_ret (v := .tuple #[nodeV (nf 0 0) (.slice none 0 0), .int .i64 2]) (by simp [results, Try.results23, go_sem, nf, *]) rfl ⟨rfl, ?_⟩
  repeat (refine Below.setCell ?_ (by simp <;> omega) _)
  exact (boxed2_q _ _ _ _ _).trans QE.out

set_option maxRecDepth 100000 in
set_option maxHeartbeats 4000000 in
theorem put_low (f : Fo) (v : NF) (a : Option Addr) (c : Nat) (id : Int) (F : Fo) (la : Option Addr) (lc : Nat) (w : World) (hv : v.ok) (hin : In w a f) (hs : sok a f.len c) (hinF : In w la F) (hsF : sok la F.len lc) (hfz : f.size ≤ 7000) (hFz : F.size ≤ 7000) (hff : f.fine = true) (hFf : F.eachFine = true) (hid : id ≤ 0) :
    Calls Try.prog 23 #[nodeV v (.slice a f.len c), .int .i64 id, .slice la F.len lc] w fun e w' => e = .returned (.tuple #[nodeV (nf 0 0) (.slice none 0 0), .int .i64 12]) ∧ Q w w' := by
  have FA := hideIt (fun (x : World) (h : Q w x) => fine_any f v a c x hv (hin.keep (Nat.le_refl _) h) hs hfz)
  have FA1 := hideIt (FA.out _ (boxed2_q w v (.slice a f.len c) (nf 0 0) (.slice none 0 0)))
  have CO := hideIt (fun (x : World) (h : Q w x) => contains_any F la lc x (hinF.keep (Nat.le_refl _) h) hsF hFz)
  have SZ := hideIt (fun (x : World) (h : Q w x) => size_any f v a c x hv (hin.keep (Nat.le_refl _) h) hs hfz)
  have HFF := hideIt hff
  have HFf := hideIt hFf
  clear hff hFf
  clear hin hs hinF hsF
  go_enter Try.func23, Try.ntmps23
  go_wp2_with (first
    | (go_at_call 41; refine (CO.out _ QW1.out).mono ?_; rw [HFf.out]; rintro e y2 ⟨rfl, q2⟩; have QX2 := hideIt (QX1.out.trans q2); have QW2 := hideIt ((boxed2_q _ _ _ _ _).trans QX2.out); (try clear x0 x1 x2 x3 x4 x5 x6 x7 x8 x9); have QE := hideIt QX2.out; have ry0 := boxed2_b QX2.out 0 _ rfl; have ry1 := boxed2_b QX2.out 1 _ rfl; have ry2 := boxed2_b QX2.out 2 _ rfl; have ry3 := boxed2_b QX2.out 3 _ rfl; have ry4 := boxed2_b QX2.out 4 _ rfl; have ry5 := boxed2_b QX2.out 5 _ rfl; have ry6 := boxed2_b QX2.out 6 _ rfl; have ry7 := boxed2_b QX2.out 7 _ rfl; have ry8 := boxed2_b QX2.out 8 _ rfl; have ry9 := boxed2_b QX2.out 9 _ rfl; have gf0 := (boxed2_free (x := y2) QX2.out 0).2; have gf1 := (boxed2_free (x := y2) QX2.out 1).2; have gf2 := (boxed2_free (x := y2) QX2.out 2).2; have gf3 := (boxed2_free (x := y2) QX2.out 3).2; have gf4 := (boxed2_free (x := y2) QX2.out 4).2; have gf5 := (boxed2_free (x := y2) QX2.out 5).2; have gf6 := (boxed2_free (x := y2) QX2.out 6).2; have gf7 := (boxed2_free (x := y2) QX2.out 7).2; have gf8 := (boxed2_free (x := y2) QX2.out 8).2; have gf9 := (boxed2_free (x := y2) QX2.out 9).2; clear q2)
    | (go_at_call 14; refine FA1.out.mono ?_; rw [HFF.out]; rintro e y1 ⟨rfl, q1⟩; have QX1 := hideIt q1; have QW1 := hideIt ((boxed2_q _ _ _ _ _).trans q1); have x0 := boxed2_a QX1.out 0 _ rfl; have x1 := boxed2_a QX1.out 1 _ rfl; have x2 := boxed2_a QX1.out 2 _ rfl; have x3 := boxed2_a QX1.out 3 _ rfl; have x4 := boxed2_a QX1.out 4 _ rfl; have x5 := boxed2_a QX1.out 5 _ rfl; have x6 := boxed2_a QX1.out 6 _ rfl; have x7 := boxed2_a QX1.out 7 _ rfl; have x8 := boxed2_a QX1.out 8 _ rfl; have x9 := boxed2_a QX1.out 9 _ rfl; clear q1)
    | fail)
  refine bodyPost_ret (v := .tuple #[nodeV (nf 0 0) (.slice none 0 0), .int .i64 12]) (by simp [results, Try.results23, go_sem, nf, *]) rfl ⟨rfl, ?_⟩
  repeat (refine Below.setCell ?_ (by simp <;> omega) _)
  exact (boxed2_q _ _ _ _ _).trans QE.out

set_option maxRecDepth 100000 in
set_option maxHeartbeats 4000000 in
theorem put_far (f : Fo) (v : NF) (a : Option Addr) (c : Nat) (id : Int) (F : Fo) (la : Option Addr) (lc : Nat) (w : World) (hv : v.ok) (hin : In w a f) (hs : sok a f.len c) (hinF : In w la F) (hsF : sok la F.len lc) (hfz : f.size ≤ 7000) (hFz : F.size ≤ 7000) (hff : f.fine = true) (hFf : F.eachFine = true) (hid : (f.size : Int) + 1 ≤ id) :
    Calls Try.prog 23 #[nodeV v (.slice a f.len c), .int .i64 id, .slice la F.len lc] w fun e w' => e = .returned (.tuple #[nodeV (nf 0 0) (.slice none 0 0), .int .i64 12]) ∧ Q w w' := by
  have FA := hideIt (fun (x : World) (h : Q w x) => fine_any f v a c x hv (hin.keep (Nat.le_refl _) h) hs hfz)
  have FA1 := hideIt (FA.out _ (boxed2_q w v (.slice a f.len c) (nf 0 0) (.slice none 0 0)))
  have CO := hideIt (fun (x : World) (h : Q w x) => contains_any F la lc x (hinF.keep (Nat.le_refl _) h) hsF hFz)
  have SZ := hideIt (fun (x : World) (h : Q w x) => size_any f v a c x hv (hin.keep (Nat.le_refl _) h) hs hfz)
  have hz := fine_size hff
  have hsm : Hid (((min (f.size + 1) 4001 : Nat) : Int) = (f.size : Int) + 1) := by show _ = _; omega
  have id0 : ¬ (id ≤ 0) := by omega
  have HFF := hideIt hff
  have HFf := hideIt hFf
  clear hff hFf
  clear hin hs hinF hsF
  go_enter Try.func23, Try.ntmps23
  go_wp2_with (first
    | (go_at_call 10; refine (SZ.out _ QW2.out).mono ?_; rw [hsm.out]; rintro e y3 ⟨rfl, q3⟩; have QX3 := hideIt (QX2.out.trans q3); have QW3 := hideIt ((boxed2_q _ _ _ _ _).trans QX3.out); (try clear x0 x1 x2 x3 x4 x5 x6 x7 x8 x9); have QE := hideIt QX3.out; have ry0 := boxed2_b QX3.out 0 _ rfl; have ry1 := boxed2_b QX3.out 1 _ rfl; have ry2 := boxed2_b QX3.out 2 _ rfl; have ry3 := boxed2_b QX3.out 3 _ rfl; have ry4 := boxed2_b QX3.out 4 _ rfl; have ry5 := boxed2_b QX3.out 5 _ rfl; have ry6 := boxed2_b QX3.out 6 _ rfl; have ry7 := boxed2_b QX3.out 7 _ rfl; have ry8 := boxed2_b QX3.out 8 _ rfl; have ry9 := boxed2_b QX3.out 9 _ rfl; have gf0 := (boxed2_free (x := y3) QX3.out 0).2; have gf1 := (boxed2_free (x := y3) QX3.out 1).2; have gf2 := (boxed2_free (x := y3) QX3.out 2).2; have gf3 := (boxed2_free (x := y3) QX3.out 3).2; have gf4 := (boxed2_free (x := y3) QX3.out 4).2; have gf5 := (boxed2_free (x := y3) QX3.out 5).2; have gf6 := (boxed2_free (x := y3) QX3.out 6).2; have gf7 := (boxed2_free (x := y3) QX3.out 7).2; have gf8 := (boxed2_free (x := y3) QX3.out 8).2; have gf9 := (boxed2_free (x := y3) QX3.out 9).2; clear q3)
    | (go_at_call 41; refine (CO.out _ QW1.out).mono ?_; rw [HFf.out]; rintro e y2 ⟨rfl, q2⟩; have QX2 := hideIt (QX1.out.trans q2); have QW2 := hideIt ((boxed2_q _ _ _ _ _).trans QX2.out); (try clear x0 x1 x2 x3 x4 x5 x6 x7 x8 x9); have x0 := boxed2_a QX2.out 0 _ rfl; have x1 := boxed2_a QX2.out 1 _ rfl; have x2 := boxed2_a QX2.out 2 _ rfl; have x3 := boxed2_a QX2.out 3 _ rfl; have x4 := boxed2_a QX2.out 4 _ rfl; have x5 := boxed2_a QX2.out 5 _ rfl; have x6 := boxed2_a QX2.out 6 _ rfl; have x7 := boxed2_a QX2.out 7 _ rfl; have x8 := boxed2_a QX2.out 8 _ rfl; have x9 := boxed2_a QX2.out 9 _ rfl; clear q2)
    | (go_at_call 14; refine FA1.out.mono ?_; rw [HFF.out]; rintro e y1 ⟨rfl, q1⟩; have QX1 := hideIt q1; have QW1 := hideIt ((boxed2_q _ _ _ _ _).trans q1); have x0 := boxed2_a QX1.out 0 _ rfl; have x1 := boxed2_a QX1.out 1 _ rfl; have x2 := boxed2_a QX1.out 2 _ rfl; have x3 := boxed2_a QX1.out 3 _ rfl; have x4 := boxed2_a QX1.out 4 _ rfl; have x5 := boxed2_a QX1.out 5 _ rfl; have x6 := boxed2_a QX1.out 6 _ rfl; have x7 := boxed2_a QX1.out 7 _ rfl; have x8 := boxed2_a QX1.out 8 _ rfl; have x9 := boxed2_a QX1.out 9 _ rfl; clear q1)
    | fail)
  refine bodyPost_ret (v := .tuple #[nodeV (nf 0 0) (.slice none 0 0), .int .i64 12]) (by simp [results, Try.results23, go_sem, nf, *]) rfl ⟨rfl, ?_⟩
  repeat (refine Below.setCell ?_ (by simp <;> omega) _)
  exact (boxed2_q _ _ _ _ _).trans QE.out

set_option maxRecDepth 100000 in
set_option maxHeartbeats 4000000 in
theorem put_great (f : Fo) (v : NF) (a : Option Addr) (c : Nat) (id : Int) (F : Fo) (la : Option Addr) (lc : Nat) (w : World) (hv : v.ok) (hin : In w a f) (hs : sok a f.len c) (hinF : In w la F) (hsF : sok la F.len lc) (hff : f.fine = true) (hFz : F.size ≤ 7000) (hFf : F.eachFine = true) (id1 : 1 ≤ id) (id2 : id ≤ f.size) (hT : (putS F (id - 1) f).fine = false) :
    Calls Try.prog 23 #[nodeV v (.slice a f.len c), .int .i64 id, .slice la F.len lc] w fun e w' => e = .returned (.tuple #[nodeV (nf 0 0) (.slice none 0 0), .int .i64 2]) ∧ Q w w' := by
  have hz := fine_size hff
  have hTz := putS_size F f (id - 1)
  have FA := hideIt (fun (x : World) (h : Q w x) => fine_any f v a c x hv (hin.keep (Nat.le_refl _) h) hs (by omega))
  have FA1 := hideIt (FA.out _ (boxed2_q w v (.slice a f.len c) (nf 0 0) (.slice none 0 0)))
  have CO := hideIt (fun (x : World) (h : Q w x) => contains_any F la lc x (hinF.keep (Nat.le_refl _) h) hsF hFz)
  have SZ := hideIt (fun (x : World) (h : Q w x) => size_any f v a c x hv (hin.keep (Nat.le_refl _) h) hs (by omega))
  have hsm : Hid (((min (f.size + 1) 4001 : Nat) : Int) = (f.size : Int) + 1) := by show _ = _; omega
  have RP := hideIt (fun (x : World) (h : Q w x) => replace_any (f.size + 1) f (by omega) v a c id F la lc x w.heap.size (hin.keep (Nat.le_refl _) h) hs (hinF.keep (Nat.le_refl _) h) hsF (av_in hin) (av_in hinF) h.size id1 id2 (by omega) (by have := F.len_le_size; omega))
  have FG := hideIt (fun (x : World) (a' : Option Addr) (c' : Nat) (G : Fo) (h1 : Cp (putS F (id - 1) f) G) (h2 : sok a' G.len c') (h3 : In x a' G) => (show Calls Try.prog 14 #[nodeV v (.slice a' G.len c')] x fun e w' => e = .returned (.bool false) ∧ Q x w' by
    have := fine_big G v a' c' x hv h3 h2 (by rw [h1.size]; omega)
    rw [h1.fine, hT] at this
    exact this))
  have HFF := hideIt hff
  have HFf := hideIt hFf
  have id0 : ¬ (id ≤ 0) := by omega
  have hidl : ¬ ((f.size : Int) + 1 ≤ id) := by omega
  clear hin hs hinF hsF hff hFf hT
  go_enter Try.func23, Try.ntmps23
  go_wp2_with (first
    | (go_at_call 41; refine (CO.out _ QW1.out).mono ?_; rw [HFf.out]; rintro e y2 ⟨rfl, q2⟩; have QX2 := hideIt (QX1.out.trans q2); have QW2 := hideIt ((boxed2_q _ _ _ _ _).trans QX2.out); (try clear x0 x1 x2 x3 x4 x5 x6 x7 x8 x9); have x0 := boxed2_a QX2.out 0 _ rfl; have x1 := boxed2_a QX2.out 1 _ rfl; have x2 := boxed2_a QX2.out 2 _ rfl; have x3 := boxed2_a QX2.out 3 _ rfl; have x4 := boxed2_a QX2.out 4 _ rfl; have x5 := boxed2_a QX2.out 5 _ rfl; have x6 := boxed2_a QX2.out 6 _ rfl; have x7 := boxed2_a QX2.out 7 _ rfl; have x8 := boxed2_a QX2.out 8 _ rfl; have x9 := boxed2_a QX2.out 9 _ rfl; clear q2)
    | (go_at_call 10; refine (SZ.out _ QW2.out).mono ?_; rw [hsm.out]; rintro e y3 ⟨rfl, q3⟩; have QX3 := hideIt (QX2.out.trans q3); have QW3 := hideIt ((boxed2_q _ _ _ _ _).trans QX3.out); (try clear x0 x1 x2 x3 x4 x5 x6 x7 x8 x9); have x0 := boxed2_a QX3.out 0 _ rfl; have x1 := boxed2_a QX3.out 1 _ rfl; have x2 := boxed2_a QX3.out 2 _ rfl; have x3 := boxed2_a QX3.out 3 _ rfl; have x4 := boxed2_a QX3.out 4 _ rfl; have x5 := boxed2_a QX3.out 5 _ rfl; have x6 := boxed2_a QX3.out 6 _ rfl; have x7 := boxed2_a QX3.out 7 _ rfl; have x8 := boxed2_a QX3.out 8 _ rfl; have x9 := boxed2_a QX3.out 9 _ rfl; clear q3)
    | (go_at_call 43; refine (RP.out _ QW3.out).mono ?_; rintro e y4 ⟨a', c', G, rfl, p1, p2, p3, p4, p5⟩; have QX4 := hideIt (QX3.out.trans p5); have FG1 := hideIt (FG.out (boxed y4 v (.slice a' G.len c')) a' c' G p1 p2 (p3.keep (Nat.le_refl _) (boxed_q y4 v (.slice a' G.len c')))); (try clear x0 x1 x2 x3 x4 x5 x6 x7 x8 x9); clear p1 p2 p3 p4 p5)
    | (go_at_call 14; refine FG1.out.mono ?_; rintro e y5 ⟨rfl, q5⟩; have QE := hideIt (QX4.out.trans ((boxed_q y4 v (.slice a' G.len c')).trans q5)); have ry0 := boxed2_b QE.out 0 _ rfl; have ry1 := boxed2_b QE.out 1 _ rfl; have ry2 := boxed2_b QE.out 2 _ rfl; have ry3 := boxed2_b QE.out 3 _ rfl; have ry4 := boxed2_b QE.out 4 _ rfl; have ry5 := boxed2_b QE.out 5 _ rfl; have ry6 := boxed2_b QE.out 6 _ rfl; have ry7 := boxed2_b QE.out 7 _ rfl; have ry8 := boxed2_b QE.out 8 _ rfl; have ry9 := boxed2_b QE.out 9 _ rfl; have gf0 := (boxed2_free (x := y5) QE.out 0).2; have gf1 := (boxed2_free (x := y5) QE.out 1).2; have gf2 := (boxed2_free (x := y5) QE.out 2).2; have gf3 := (boxed2_free (x := y5) QE.out 3).2; have gf4 := (boxed2_free (x := y5) QE.out 4).2; have gf5 := (boxed2_free (x := y5) QE.out 5).2; have gf6 := (boxed2_free (x := y5) QE.out 6).2; have gf7 := (boxed2_free (x := y5) QE.out 7).2; have gf8 := (boxed2_free (x := y5) QE.out 8).2; have gf9 := (boxed2_free (x := y5) QE.out 9).2; clear q5 FG1)
    | (go_at_call 14; refine FA1.out.mono ?_; rw [HFF.out]; rintro e y1 ⟨rfl, q1⟩; have QX1 := hideIt q1; have QW1 := hideIt ((boxed2_q _ _ _ _ _).trans q1); have x0 := boxed2_a QX1.out 0 _ rfl; have x1 := boxed2_a QX1.out 1 _ rfl; have x2 := boxed2_a QX1.out 2 _ rfl; have x3 := boxed2_a QX1.out 3 _ rfl; have x4 := boxed2_a QX1.out 4 _ rfl; have x5 := boxed2_a QX1.out 5 _ rfl; have x6 := boxed2_a QX1.out 6 _ rfl; have x7 := boxed2_a QX1.out 7 _ rfl; have x8 := boxed2_a QX1.out 8 _ rfl; have x9 := boxed2_a QX1.out 9 _ rfl; clear q1)
    | fail)
  refine bodyPost_ret (v := .tuple #[nodeV (nf 0 0) (.slice none 0 0), .int .i64 2]) (by simp [results, Try.results23, go_sem, nf, *]) rfl ⟨rfl, ?_⟩
  repeat (refine Below.setCell ?_ (by simp <;> omega) _)
  exact (boxed2_q _ _ _ _ _).trans QE.out
end Go.Proofs.Ytioeoillogpdoaa
