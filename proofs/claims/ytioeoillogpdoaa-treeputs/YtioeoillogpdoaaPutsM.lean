/-
  What the document's Put answers, by what its put does: a contract over the program; the conditions: the tree and the list lie in memory, the tree is fine, and put does as is said.
-/
import Derived.Test.YtioeoillogpdoaaPutsL
namespace Go.Proofs.Ytioeoillogpdoaa
open Go.RowKit
set_option linter.unusedVariables false

/-- What the document's Put answers of a tree that is fine. -/
def RPut (w : World) (v : NF) (f F : Fo) (id : Int) (e : Ending) (w' : World) : Prop :=
  ((F.eachFine = false ∧ e = .returned (.tuple #[nodeV (nf 0 0) (.slice none 0 0), .int .i64 2])) ∨ (F.eachFine = true ∧ (id < 1 ∨ (f.size : Int) + 1 ≤ id) ∧ e = .returned (.tuple #[nodeV (nf 0 0) (.slice none 0 0), .int .i64 12])) ∨
    (F.eachFine = true ∧ 1 ≤ id ∧ id ≤ f.size ∧ (putS F (id - 1) f).fine = false ∧ e = .returned (.tuple #[nodeV (nf 0 0) (.slice none 0 0), .int .i64 2])) ∨
    (F.eachFine = true ∧ 1 ≤ id ∧ id ≤ f.size ∧ (putS F (id - 1) f).fine = true ∧ ∃ a' c' G, e = .returned (.tuple #[nodeV v (.slice a' G.len c'), .int .i64 0]) ∧ Cp (putS F (id - 1) f) G ∧ sok a' G.len c' ∧ In w' a' G)) ∧ Q w w'

set_option maxRecDepth 100000 in
set_option maxHeartbeats 4000000 in
theorem rput_any (f : Fo) (v : NF) (a : Option Addr) (c : Nat) (id : Int) (F : Fo) (la : Option Addr) (lc : Nat) (w : World) (hin : In w a f) (hs : sok a f.len c) (hinF : In w la F) (hsF : sok la F.len lc) (hff : f.fine = true) (hid : -9223372036854775808 ≤ id ∧ id ≤ 9223372036854775807)
    (P44 : ∀ x, Q w x → 1 ≤ id → id ≤ f.size → Calls Try.prog 44 #[nodeV v (.slice a f.len c), .int .i64 0, .int .i64 id, .slice la F.len lc] x fun e w' => ∃ a' c' G, e = .returned (nodeV v (.slice a' G.len c')) ∧ Cp (putS F (id - 1) f) G ∧ sok a' G.len c' ∧ In w' a' G ∧ Av (fun b => b < w.heap.size ∨ x.heap.size ≤ b) a' G ∧ Q x w') :
    Calls Try.prog 24 #[nodeV v (.slice a f.len c), .int .i64 id, .slice la F.len lc] w (RPut w v f F id) := by
  have hz := fine_size hff
  obtain ⟨hid1, hid2⟩ := hid
  have hFl : F.len ≤ 9223372036854775807 := by have := hsF.1; have := hsF.2.1; unfold maxLen at this; omega
  have FA := hideIt (fun (x : World) (h : Q w x) => rFine_any f v a c x (hin.keep (Nat.le_refl _) h) hs)
  have FA1 := hideIt (FA.out _ (boxed2_q w v (.slice a f.len c) (nf 0 0) (.slice none 0 0)))
  have SZ := hideIt (fun (x : World) (h : Q w x) => rsize_any (f.size + 1) f (by omega) v a c x (hin.keep (Nat.le_refl _) h) hs)
  have hsm : Hid (((min (f.size + 1) 4001 : Nat) : Int) = (f.size : Int) + 1) := by show _ = _; omega
  have HINF := hideIt hinF
  have HFF := hideIt hff
  have PP := hideIt P44
  clear hin hs hinF hsF hff P44
  go_enter Try.func24, Try.ntmps24
  go_wp2_with (first
    | (go_at_call 15; refine FA1.out.mono ?_; rw [HFF.out]; rintro e y1 ⟨rfl, q1⟩; have QX1 := hideIt q1; clear q1)
    | fail)
  go_loopw [8] (fun o wr => ∃ k : Nat, o = .int .i64 k ∧ k ≤ F.len ∧ F.eachFine = (F.drop k).eachFine ∧ Q (boxed2 w v (.slice a f.len c) (nf 0 0) (.slice none 0 0)) wr) (fun o _ => F.len - (intOf o).toNat)
  case atStart => exact ⟨0, rfl, Nat.zero_le _, by simp [Fo.drop], QX1.out⟩
  case round =>
    obtain ⟨k, rfl, hk, he, hq⟩ := hrel
    have HE := hideIt he
    have QX := hideIt hq
    have QW := hideIt ((boxed2_q _ _ _ _ _).trans hq)
    clear he hq QX1
    by_cases hlt : k < F.len
    · obtain ⟨b, o, v', ka, kc, ks, rfl, e, hat, hv', hs', hin'⟩ := HINF.out.elem k hlt
      have hat' : At wr b (o + k * 10) (cellsN v' (.slice ka ks.len kc)) := hat.keep (Nat.le_refl _) QW.out
      obtain ⟨c0, c1, c2, c3, c4, c5, c6, c7, c8, c9⟩ := hat'.ten
      have hkl : (k : Int) < (F.len : Int) := by omega
      have FK := hideIt (rFine_any ks v' ka kc wr (hin'.keep (Nat.le_refl _) QW.out) hs')
      have EE : Hid ((F.drop k).eachFine = (ks.fine && (F.drop (k + 1)).eachFine)) := by rw [e]; rfl
      clear hat hat' hv' hs' hin' e
      cases hkf : ks.fine with
      | true =>
        rw [hkf] at FK EE
        go_wp2_with (first | (go_at_call 15; refine FK.out.mono ?_; rintro e y ⟨rfl, q⟩; have QY := hideIt (QX.out.trans q); clear q) | fail)
        go_roundw
        case rel => exact ⟨k + 1, by go_num, hlt, by rw [HE.out, EE.out]; simp, QY.out⟩
        case measure => simp [intOf]; omega
      | false =>
        rw [hkf] at FK EE
        have HEF : Hid (F.eachFine = false) := by rw [HE.out, EE.out]; rfl
        go_wp2_with (first | (go_at_call 15; refine FK.out.mono ?_; rintro e y ⟨rfl, q⟩; have QE := hideIt (QX.out.trans q); have ry0 := boxed2_b QE.out 0 _ rfl; have ry1 := boxed2_b QE.out 1 _ rfl; have ry2 := boxed2_b QE.out 2 _ rfl; have ry3 := boxed2_b QE.out 3 _ rfl; have ry4 := boxed2_b QE.out 4 _ rfl; have ry5 := boxed2_b QE.out 5 _ rfl; have ry6 := boxed2_b QE.out 6 _ rfl; have ry7 := boxed2_b QE.out 7 _ rfl; have ry8 := boxed2_b QE.out 8 _ rfl; have ry9 := boxed2_b QE.out 9 _ rfl; have gf0 := (boxed2_free (x := y) QE.out 0).2; have gf1 := (boxed2_free (x := y) QE.out 1).2; have gf2 := (boxed2_free (x := y) QE.out 2).2; have gf3 := (boxed2_free (x := y) QE.out 3).2; have gf4 := (boxed2_free (x := y) QE.out 4).2; have gf5 := (boxed2_free (x := y) QE.out 5).2; have gf6 := (boxed2_free (x := y) QE.out 6).2; have gf7 := (boxed2_free (x := y) QE.out 7).2; have gf8 := (boxed2_free (x := y) QE.out 8).2; have gf9 := (boxed2_free (x := y) QE.out 9).2; clear q) | fail)
        refine bodyPost_ret (v := .tuple #[nodeV (nf 0 0) (.slice none 0 0), .int .i64 2]) (by simp [results, Try.results24, go_sem, nf, *]) rfl ⟨Or.inl ⟨HEF.out, rfl⟩, ?_⟩
        repeat (refine Below.setCell ?_ (by simp <;> omega) _)
        exact (boxed2_q _ _ _ _ _).trans QE.out
    · have HEF : Hid (F.eachFine = true) := by
        have : k = F.len := by omega
        rw [HE.out, this, Fo.drop_all]
        rfl
      clear HE
      have x0 := boxed2_a QX.out 0 _ rfl
      have x1 := boxed2_a QX.out 1 _ rfl
      have x2 := boxed2_a QX.out 2 _ rfl
      have x3 := boxed2_a QX.out 3 _ rfl
      have x4 := boxed2_a QX.out 4 _ rfl
      have x5 := boxed2_a QX.out 5 _ rfl
      have x6 := boxed2_a QX.out 6 _ rfl
      have x7 := boxed2_a QX.out 7 _ rfl
      have x8 := boxed2_a QX.out 8 _ rfl
      have x9 := boxed2_a QX.out 9 _ rfl
      by_cases hl : id < 1
      · have QE := hideIt QX.out
        have ry0 := boxed2_b QE.out 0 _ rfl
        have ry1 := boxed2_b QE.out 1 _ rfl
        have ry2 := boxed2_b QE.out 2 _ rfl
        have ry3 := boxed2_b QE.out 3 _ rfl
        have ry4 := boxed2_b QE.out 4 _ rfl
        have ry5 := boxed2_b QE.out 5 _ rfl
        have ry6 := boxed2_b QE.out 6 _ rfl
        have ry7 := boxed2_b QE.out 7 _ rfl
        have ry8 := boxed2_b QE.out 8 _ rfl
        have ry9 := boxed2_b QE.out 9 _ rfl
        have gf0 := (boxed2_free (x := wr) QE.out 0).2
        have gf1 := (boxed2_free (x := wr) QE.out 1).2
        have gf2 := (boxed2_free (x := wr) QE.out 2).2
        have gf3 := (boxed2_free (x := wr) QE.out 3).2
        have gf4 := (boxed2_free (x := wr) QE.out 4).2
        have gf5 := (boxed2_free (x := wr) QE.out 5).2
        have gf6 := (boxed2_free (x := wr) QE.out 6).2
        have gf7 := (boxed2_free (x := wr) QE.out 7).2
        have gf8 := (boxed2_free (x := wr) QE.out 8).2
        have gf9 := (boxed2_free (x := wr) QE.out 9).2
        go_wp2_with (fail)
        refine bodyPost_ret (v := .tuple #[nodeV (nf 0 0) (.slice none 0 0), .int .i64 12]) (by simp [results, Try.results24, go_sem, nf, *]) rfl ⟨Or.inr (Or.inl ⟨HEF.out, Or.inl hl, rfl⟩), ?_⟩
        repeat (refine Below.setCell ?_ (by simp <;> omega) _)
        exact (boxed2_q _ _ _ _ _).trans QE.out
      · by_cases hr : (f.size : Int) + 1 ≤ id
        · go_wp2_with (first | (go_at_call 11; refine (SZ.out _ QW.out).mono ?_; rw [hsm.out]; rintro e y2 ⟨rfl, q2⟩; have QX2 := hideIt (QX.out.trans q2); have QW2 := hideIt ((boxed2_q _ _ _ _ _).trans QX2.out); (try clear x0 x1 x2 x3 x4 x5 x6 x7 x8 x9); have QE := hideIt QX2.out; have ry0 := boxed2_b QE.out 0 _ rfl; have ry1 := boxed2_b QE.out 1 _ rfl; have ry2 := boxed2_b QE.out 2 _ rfl; have ry3 := boxed2_b QE.out 3 _ rfl; have ry4 := boxed2_b QE.out 4 _ rfl; have ry5 := boxed2_b QE.out 5 _ rfl; have ry6 := boxed2_b QE.out 6 _ rfl; have ry7 := boxed2_b QE.out 7 _ rfl; have ry8 := boxed2_b QE.out 8 _ rfl; have ry9 := boxed2_b QE.out 9 _ rfl; have gf0 := (boxed2_free (x := y2) QE.out 0).2; have gf1 := (boxed2_free (x := y2) QE.out 1).2; have gf2 := (boxed2_free (x := y2) QE.out 2).2; have gf3 := (boxed2_free (x := y2) QE.out 3).2; have gf4 := (boxed2_free (x := y2) QE.out 4).2; have gf5 := (boxed2_free (x := y2) QE.out 5).2; have gf6 := (boxed2_free (x := y2) QE.out 6).2; have gf7 := (boxed2_free (x := y2) QE.out 7).2; have gf8 := (boxed2_free (x := y2) QE.out 8).2; have gf9 := (boxed2_free (x := y2) QE.out 9).2; clear q2) | fail)
          refine bodyPost_ret (v := .tuple #[nodeV (nf 0 0) (.slice none 0 0), .int .i64 12]) (by simp [results, Try.results24, go_sem, nf, *]) rfl ⟨Or.inr (Or.inl ⟨HEF.out, Or.inr hr, rfl⟩), ?_⟩
          repeat (refine Below.setCell ?_ (by simp <;> omega) _)
          exact (boxed2_q _ _ _ _ _).trans QE.out
        · have h1 : 1 ≤ id := by omega
          have h2 : id ≤ f.size := by omega
          obtain ⟨bb, hbb⟩ : ∃ b, (putS F (id - 1) f).fine = b := ⟨_, rfl⟩
          have HB := hideIt hbb
          have FG := hideIt (fun (x : World) (a' : Option Addr) (c' : Nat) (G : Fo) (h1 : Cp (putS F (id - 1) f) G) (h2 : sok a' G.len c') (h3 : In x a' G) => (show Calls Try.prog 15 #[nodeV v (.slice a' G.len c')] x fun e w' => e = .returned (.bool bb) ∧ Q x w' by
            have := rFine_any G v a' c' x h3 h2
            rw [h1.fine, hbb] at this
            exact this))
          clear hbb
          cases bb with
          | false =>
            go_wp2_with (first
            | (go_at_call 11; refine (SZ.out _ QW.out).mono ?_; rw [hsm.out]; rintro e y2 ⟨rfl, q2⟩; have QX2 := hideIt (QX.out.trans q2); have QW2 := hideIt ((boxed2_q _ _ _ _ _).trans QX2.out); (try clear x0 x1 x2 x3 x4 x5 x6 x7 x8 x9); have x0 := boxed2_a QX2.out 0 _ rfl; have x1 := boxed2_a QX2.out 1 _ rfl; have x2 := boxed2_a QX2.out 2 _ rfl; have x3 := boxed2_a QX2.out 3 _ rfl; have x4 := boxed2_a QX2.out 4 _ rfl; have x5 := boxed2_a QX2.out 5 _ rfl; have x6 := boxed2_a QX2.out 6 _ rfl; have x7 := boxed2_a QX2.out 7 _ rfl; have x8 := boxed2_a QX2.out 8 _ rfl; have x9 := boxed2_a QX2.out 9 _ rfl; clear q2)
            | (go_at_call 44; refine (PP.out _ QW2.out h1 h2).mono ?_; rintro e y4 ⟨a', c', G, rfl, p1, p2, p3, p4, p5⟩; have QX4 := hideIt (QX2.out.trans p5); have HG := hideIt (And.intro p1 (And.intro p2 (And.intro p3 p4))); have FG1 := hideIt (FG.out (boxed y4 v (.slice a' G.len c')) a' c' G p1 p2 (p3.keep (Nat.le_refl _) (boxed_q y4 v (.slice a' G.len c')))); (try clear x0 x1 x2 x3 x4 x5 x6 x7 x8 x9); clear p1 p2 p3 p4 p5)
            | (go_at_call 15; refine FG1.out.mono ?_; rintro e y5 ⟨rfl, q5⟩; have QE := hideIt (QX4.out.trans ((boxed_q y4 v (.slice a' G.len c')).trans q5)); have ry0 := boxed2_b QE.out 0 _ rfl; have ry1 := boxed2_b QE.out 1 _ rfl; have ry2 := boxed2_b QE.out 2 _ rfl; have ry3 := boxed2_b QE.out 3 _ rfl; have ry4 := boxed2_b QE.out 4 _ rfl; have ry5 := boxed2_b QE.out 5 _ rfl; have ry6 := boxed2_b QE.out 6 _ rfl; have ry7 := boxed2_b QE.out 7 _ rfl; have ry8 := boxed2_b QE.out 8 _ rfl; have ry9 := boxed2_b QE.out 9 _ rfl; have gf0 := (boxed2_free (x := y5) QE.out 0).2; have gf1 := (boxed2_free (x := y5) QE.out 1).2; have gf2 := (boxed2_free (x := y5) QE.out 2).2; have gf3 := (boxed2_free (x := y5) QE.out 3).2; have gf4 := (boxed2_free (x := y5) QE.out 4).2; have gf5 := (boxed2_free (x := y5) QE.out 5).2; have gf6 := (boxed2_free (x := y5) QE.out 6).2; have gf7 := (boxed2_free (x := y5) QE.out 7).2; have gf8 := (boxed2_free (x := y5) QE.out 8).2; have gf9 := (boxed2_free (x := y5) QE.out 9).2; skip; clear q5 FG1)
            | fail)
            refine bodyPost_ret (v := .tuple #[nodeV (nf 0 0) (.slice none 0 0), .int .i64 2]) (by simp [results, Try.results24, go_sem, nf, *]) rfl ⟨Or.inr (Or.inr (Or.inl ⟨HEF.out, h1, h2, HB.out, rfl⟩)), ?_⟩
            repeat (refine Below.setCell ?_ (by simp <;> omega) _)
            exact (boxed2_q _ _ _ _ _).trans QE.out
          | true =>
            go_wp2_with (first
            | (go_at_call 11; refine (SZ.out _ QW.out).mono ?_; rw [hsm.out]; rintro e y2 ⟨rfl, q2⟩; have QX2 := hideIt (QX.out.trans q2); have QW2 := hideIt ((boxed2_q _ _ _ _ _).trans QX2.out); (try clear x0 x1 x2 x3 x4 x5 x6 x7 x8 x9); have x0 := boxed2_a QX2.out 0 _ rfl; have x1 := boxed2_a QX2.out 1 _ rfl; have x2 := boxed2_a QX2.out 2 _ rfl; have x3 := boxed2_a QX2.out 3 _ rfl; have x4 := boxed2_a QX2.out 4 _ rfl; have x5 := boxed2_a QX2.out 5 _ rfl; have x6 := boxed2_a QX2.out 6 _ rfl; have x7 := boxed2_a QX2.out 7 _ rfl; have x8 := boxed2_a QX2.out 8 _ rfl; have x9 := boxed2_a QX2.out 9 _ rfl; clear q2)
            | (go_at_call 44; refine (PP.out _ QW2.out h1 h2).mono ?_; rintro e y4 ⟨a', c', G, rfl, p1, p2, p3, p4, p5⟩; have QX4 := hideIt (QX2.out.trans p5); have HG := hideIt (And.intro p1 (And.intro p2 (And.intro p3 p4))); have FG1 := hideIt (FG.out (boxed y4 v (.slice a' G.len c')) a' c' G p1 p2 (p3.keep (Nat.le_refl _) (boxed_q y4 v (.slice a' G.len c')))); (try clear x0 x1 x2 x3 x4 x5 x6 x7 x8 x9); clear p1 p2 p3 p4 p5)
            | (go_at_call 15; refine FG1.out.mono ?_; rintro e y5 ⟨rfl, q5⟩; have QE := hideIt (QX4.out.trans ((boxed_q y4 v (.slice a' G.len c')).trans q5)); have ry0 := boxed2_b QE.out 0 _ rfl; have ry1 := boxed2_b QE.out 1 _ rfl; have ry2 := boxed2_b QE.out 2 _ rfl; have ry3 := boxed2_b QE.out 3 _ rfl; have ry4 := boxed2_b QE.out 4 _ rfl; have ry5 := boxed2_b QE.out 5 _ rfl; have ry6 := boxed2_b QE.out 6 _ rfl; have ry7 := boxed2_b QE.out 7 _ rfl; have ry8 := boxed2_b QE.out 8 _ rfl; have ry9 := boxed2_b QE.out 9 _ rfl; have gf0 := (boxed2_free (x := y5) QE.out 0).2; have gf1 := (boxed2_free (x := y5) QE.out 1).2; have gf2 := (boxed2_free (x := y5) QE.out 2).2; have gf3 := (boxed2_free (x := y5) QE.out 3).2; have gf4 := (boxed2_free (x := y5) QE.out 4).2; have gf5 := (boxed2_free (x := y5) QE.out 5).2; have gf6 := (boxed2_free (x := y5) QE.out 6).2; have gf7 := (boxed2_free (x := y5) QE.out 7).2; have gf8 := (boxed2_free (x := y5) QE.out 8).2; have gf9 := (boxed2_free (x := y5) QE.out 9).2; have HI := hideIt (HG.out.2.2.1.keep (Nat.le_refl _) ((boxed_q y4 v (.slice a' G.len c')).trans q5)); have b0 := boxed_cell q5 0 _ rfl; have b1 := boxed_cell q5 1 _ rfl; have b2 := boxed_cell q5 2 _ rfl; have b3 := boxed_cell q5 3 _ rfl; have b4 := boxed_cell q5 4 _ rfl; have b5 := boxed_cell q5 5 _ rfl; have b6 := boxed_cell q5 6 _ rfl; have b7 := boxed_cell q5 7 _ rfl; have b8 := boxed_cell q5 8 _ rfl; have b9 := boxed_cell q5 9 _ rfl; clear q5 FG1)
            | fail)
            have hA : Av (fun b => b ≠ w.heap.size + 1) a' G := HG.out.2.2.2.mono (fun b hb => by have := QX2.out.size; simp at this; omega)
            refine bodyPost_ret (v := .tuple #[nodeV v (.slice a' G.len c'), .int .i64 0]) (by simp [results, Try.results24, go_sem, *]) rfl ⟨Or.inr (Or.inr (Or.inr ⟨HEF.out, h1, h2, HB.out, a', c', G, rfl, HG.out.1, HG.out.2.1, ?_⟩)), ?_⟩
            · repeat (refine in_set ?_ hA)
              exact HI.out
            · repeat (refine Below.setCell ?_ (by simp <;> omega) _)
              exact (boxed2_q _ _ _ _ _).trans QE.out

end Go.Proofs.Ytioeoillogpdoaa
