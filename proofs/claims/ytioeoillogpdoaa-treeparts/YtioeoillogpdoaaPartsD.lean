/-
  The document's node with a number: a contract over the program; the conditions: the argument is a tree of at most 7000 nodes that lies in memory.
-/
import Derived.Test.YtioeoillogpdoaaPartsB
import Derived.Test.YtioeoillogpdoaaPartsC
namespace Go.Proofs.Ytioeoillogpdoaa
open Go.RowKit
set_option linter.unusedVariables false

theorem cellsF_get : ∀ (F : Fo) (i : Nat) (v : NF) (a : Option Addr) (c : Nat) (k : Fo), F.get i = some (v, a, c, k) → ∀ j, j < 10 → (cellsF F)[i * 10 + j]? = (cellsN v (.slice a k.len c))[j]? := by
  intro F
  induction F with
  | nil => intro i v a c k h; simp [Fo.get] at h
  | cons x xa xc xk r _ ih =>
    intro i v a c k h j hj
    cases i with
    | zero =>
      simp only [Fo.get, Option.some.injEq, Prod.mk.injEq] at h
      obtain ⟨rfl, rfl, rfl, rfl⟩ := h
      simp only [cellsF]
      rw [List.getElem?_append_left (by rw [cellsN_len]; omega)]
      congr 1
      omega
    | succ i =>
      simp only [Fo.get] at h
      have := ih i v a c k h j hj
      rw [← this]
      simp only [cellsF]
      rw [List.getElem?_append_right (by rw [cellsN_len]; omega), cellsN_len]
      congr 1
      omega
theorem get_lt (F : Fo) : ∀ i, i < F.len → ∃ r, F.get i = some r := by
  induction F with
  | nil => intro i h; simp [Fo.len] at h
  | cons v a c k r _ ih =>
    intro i h
    cases i with
    | zero => exact ⟨_, rfl⟩
    | succ i => exact ih i (by simp only [Fo.len] at h; omega)
/-- What hangs on a node that is found lies in memory. -/
theorem get_in (w : World) (f : Fo) : ∀ (i : Nat) (v : NF) (a : Option Addr) (c : Nat) (k : Fo), KI w f → f.flat.get i = some (v, a, c, k) → v.ok ∧ sok a k.len c ∧ In w a k := by
  induction f with
  | nil => intro i v a c k _ h; simp [Fo.flat, Fo.get] at h
  | cons x xa xc xk r ihk ihr =>
    intro i v a c k hk h
    obtain ⟨k1, k2, k3, k4⟩ := hk
    cases i with
    | zero =>
      simp only [Fo.flat, Fo.get, Option.some.injEq, Prod.mk.injEq] at h
      obtain ⟨rfl, rfl, rfl, rfl⟩ := h
      exact ⟨k1, k2, k3⟩
    | succ i =>
      simp only [Fo.flat, Fo.get] at h
      rw [get_app] at h
      split at h
      · exact ihk i v a c k k3.kids h
      · exact ihr _ v a c k k4 h

theorem row_at {y : World} {g i : Nat} {F : Fo} {v : NF} {a : Option Addr} {c : Nat} {k : Fo} (h : F.get i = some (v, a, c, k)) (p : ∀ j u, (cellsF F)[j]? = some u → y.cell? ((⟨g, 0, none⟩ : Addr).add j) = some u) : At y g (i * 10) (cellsN v (.slice a k.len c)) := fun j hj => by
  obtain ⟨u, hu⟩ : ∃ u, (cellsN v (.slice a k.len c))[j]? = some u := ⟨_, List.getElem?_eq_getElem hj⟩
  have := p (i * 10 + j) u (by rw [cellsF_get F i v a c k h j (by rw [cellsN_len] at hj; exact hj), hu])
  have e : (⟨g, 0, none⟩ : Addr).add (i * 10 + j) = ⟨g, i * 10 + j, none⟩ := by
    unfold Addr.add
    split
    · rename_i hz
      rw [hz]
    · rw [Nat.zero_add]
  rw [e] at this
  rw [hu, this]

/-- What the document's At answers. -/
def RAtSaid (f : Fo) (v : NF) (a : Option Addr) (c : Nat) (id : Int) (w : World) (e : Ending) (w' : World) : Prop :=
  Q w w' ∧ ((f.fine = false ∧ e = .returned (.tuple #[nodeV (nf 0 0) (.slice none 0 0), .int .i64 2])) ∨
    (f.fine = true ∧ (id < 0 ∨ (f.size : Int) + 1 ≤ id) ∧ e = .returned (.tuple #[nodeV (nf 0 0) (.slice none 0 0), .int .i64 12])) ∨
    (∃ (i : Nat) (v' : NF) (ka : Option Addr) (kc : Nat) (k : Fo), f.fine = true ∧ id = i ∧ (Fo.cons v a c f .nil).flat.get i = some (v', ka, kc, k) ∧ e = .returned (.tuple #[nodeV v' (.slice ka k.len kc), .int .i64 0])))

set_option maxRecDepth 100000 in
set_option maxHeartbeats 2000000 in
theorem rat_any (f : Fo) (v : NF) (a : Option Addr) (c : Nat) (id : Int) (w : World) (hin : In w a f) (hs : sok a f.len c) (hz : f.size ≤ 7000) (hid : -9223372036854775808 ≤ id ∧ id ≤ 9223372036854775807) :
    Calls Try.prog 19 #[nodeV v (.slice a f.len c), .int .i64 id] w fun e w' => RAtSaid f v a c id w e w' := by
  have HF := hideIt (rFine_any f v a c (boxed2 w v (.slice a f.len c) (nf 0 0) (.slice none 0 0)) (hin.keep (Nat.le_refl _) (boxed2_q _ _ _ _ _)) hs)
  have HA : Hid (∀ X, Q (boxed2 w v (.slice a f.len c) (nf 0 0) (.slice none 0 0)) X → Calls Try.prog 22 #[nodeV v (.slice a f.len c)] X fun e w' => ∃ g cap, e = .returned (.slice (some ⟨g, 0, none⟩) (f.size + 1) cap) ∧ (∀ j u, (cellsF (.cons v a c f f.flat))[j]? = some u → w'.cell? ((⟨g, 0, none⟩ : Addr).add j) = some u) ∧ Q (boxed2 w v (.slice a f.len c) (nf 0 0) (.slice none 0 0)) w') := fun X hX =>
    (all_any (f.size + 1) f (by omega) v a c X (hin.keep (Nat.le_refl _) ((boxed2_q _ _ _ _ _).trans hX)) hs hz).mono fun e w' ⟨g, cap, h1, h2, h3⟩ => ⟨g, cap, h1, h2.cells rfl, hX.trans h3⟩
  cases hfi : f.fine with
  | false =>
    rw [hfi] at HF
    have HFI := hideIt hfi
    clear hin hs hfi
    go_enter Try.func19, Try.ntmps19
    go_wp2_with (go_at_call 15; refine HF.out.mono ?_; rintro e x ⟨rfl, q1⟩; have g0 := boxed2_b q1 0 _ rfl; have g1 := boxed2_b q1 1 _ rfl; have g2 := boxed2_b q1 2 _ rfl; have g3 := boxed2_b q1 3 _ rfl; have g4 := boxed2_b q1 4 _ rfl; have g5 := boxed2_b q1 5 _ rfl; have g6 := boxed2_b q1 6 _ rfl; have g7 := boxed2_b q1 7 _ rfl; have g8 := boxed2_b q1 8 _ rfl; have g9 := boxed2_b q1 9 _ rfl; have gf := boxed2_free q1; have gf0 := (gf 0).2; have gf1 := (gf 1).2; have gf2 := (gf 2).2; have gf3 := (gf 3).2; have gf4 := (gf 4).2; have gf5 := (gf 5).2; have gf6 := (gf 6).2; have gf7 := (gf 7).2; have gf8 := (gf 8).2; have gf9 := (gf 9).2; clear gf; have HX := hideIt q1; clear q1)
    refine bodyPost_ret (v := .tuple #[nodeV (nf 0 0) (.slice none 0 0), .int .i64 2]) (by simp [results, Try.results19, go_sem, *, nf]) rfl ⟨?_, Or.inl ⟨HFI.out, rfl⟩⟩
    repeat (refine Below.setCell ?_ (by simp <;> omega) _)
    exact (boxed2_q _ _ _ _ _).trans HX.out
  | true =>
    rw [hfi] at HF
    have HFI := hideIt hfi
    clear hin hs hfi
    by_cases hr : id < 0 ∨ (f.size : Int) + 1 ≤ id
    · have HR := hideIt hr
      by_cases h0 : id < 0
      · clear hr
        go_enter Try.func19, Try.ntmps19
        go_wp2_with (first | (go_at_call 15; refine HF.out.mono ?_; rintro e x ⟨rfl, q1⟩; have x0 := boxed2_a q1 0 _ rfl; have x1 := boxed2_a q1 1 _ rfl; have x2 := boxed2_a q1 2 _ rfl; have x3 := boxed2_a q1 3 _ rfl; have x4 := boxed2_a q1 4 _ rfl; have x5 := boxed2_a q1 5 _ rfl; have x6 := boxed2_a q1 6 _ rfl; have x7 := boxed2_a q1 7 _ rfl; have x8 := boxed2_a q1 8 _ rfl; have x9 := boxed2_a q1 9 _ rfl; have HX := hideIt q1; clear q1) | (go_at_call 22; refine (HA.out x HX.out).mono ?_; rintro e y ⟨g, cap, rfl, p1, q1⟩; (try clear x0 x1 x2 x3 x4 x5 x6 x7 x8 x9); have g0 := boxed2_b q1 0 _ rfl; have g1 := boxed2_b q1 1 _ rfl; have g2 := boxed2_b q1 2 _ rfl; have g3 := boxed2_b q1 3 _ rfl; have g4 := boxed2_b q1 4 _ rfl; have g5 := boxed2_b q1 5 _ rfl; have g6 := boxed2_b q1 6 _ rfl; have g7 := boxed2_b q1 7 _ rfl; have g8 := boxed2_b q1 8 _ rfl; have g9 := boxed2_b q1 9 _ rfl; have gf := boxed2_free q1; have gf0 := (gf 0).2; have gf1 := (gf 1).2; have gf2 := (gf 2).2; have gf3 := (gf 3).2; have gf4 := (gf 4).2; have gf5 := (gf 5).2; have gf6 := (gf 6).2; have gf7 := (gf 7).2; have gf8 := (gf 8).2; have gf9 := (gf 9).2; clear gf; have HY := hideIt q1; clear p1 q1))
        refine bodyPost_ret (v := .tuple #[nodeV (nf 0 0) (.slice none 0 0), .int .i64 12]) (by simp [results, Try.results19, go_sem, *, nf]) rfl ⟨?_, Or.inr (Or.inl ⟨HFI.out, HR.out, rfl⟩)⟩
        repeat (refine Below.setCell ?_ (by simp <;> omega) _)
        exact (boxed2_q _ _ _ _ _).trans HY.out
      · have hd0 : decide (id < 0) = false := decide_eq_false h0
        have hd1 : (f.size : Int) + 1 ≤ id := by omega
        clear hr h0
        go_enter Try.func19, Try.ntmps19
        go_wp2_with (first | (go_at_call 15; refine HF.out.mono ?_; rintro e x ⟨rfl, q1⟩; have x0 := boxed2_a q1 0 _ rfl; have x1 := boxed2_a q1 1 _ rfl; have x2 := boxed2_a q1 2 _ rfl; have x3 := boxed2_a q1 3 _ rfl; have x4 := boxed2_a q1 4 _ rfl; have x5 := boxed2_a q1 5 _ rfl; have x6 := boxed2_a q1 6 _ rfl; have x7 := boxed2_a q1 7 _ rfl; have x8 := boxed2_a q1 8 _ rfl; have x9 := boxed2_a q1 9 _ rfl; have HX := hideIt q1; clear q1) | (go_at_call 22; refine (HA.out x HX.out).mono ?_; rintro e y ⟨g, cap, rfl, p1, q1⟩; (try clear x0 x1 x2 x3 x4 x5 x6 x7 x8 x9); have g0 := boxed2_b q1 0 _ rfl; have g1 := boxed2_b q1 1 _ rfl; have g2 := boxed2_b q1 2 _ rfl; have g3 := boxed2_b q1 3 _ rfl; have g4 := boxed2_b q1 4 _ rfl; have g5 := boxed2_b q1 5 _ rfl; have g6 := boxed2_b q1 6 _ rfl; have g7 := boxed2_b q1 7 _ rfl; have g8 := boxed2_b q1 8 _ rfl; have g9 := boxed2_b q1 9 _ rfl; have gf := boxed2_free q1; have gf0 := (gf 0).2; have gf1 := (gf 1).2; have gf2 := (gf 2).2; have gf3 := (gf 3).2; have gf4 := (gf 4).2; have gf5 := (gf 5).2; have gf6 := (gf 6).2; have gf7 := (gf 7).2; have gf8 := (gf 8).2; have gf9 := (gf 9).2; clear gf; have HY := hideIt q1; clear p1 q1))
        refine bodyPost_ret (v := .tuple #[nodeV (nf 0 0) (.slice none 0 0), .int .i64 12]) (by simp [results, Try.results19, go_sem, *, nf]) rfl ⟨?_, Or.inr (Or.inl ⟨HFI.out, HR.out, rfl⟩)⟩
        repeat (refine Below.setCell ?_ (by simp <;> omega) _)
        exact (boxed2_q _ _ _ _ _).trans HY.out
    · obtain ⟨i, hi⟩ : ∃ i : Nat, id = i := ⟨id.toNat, by omega⟩
      subst hi
      have hil : i < f.size + 1 := by omega
      have e10 : (Fo.cons v a c f f.flat).len = f.size + 1 := by simp only [Fo.len, flat_len]
      obtain ⟨⟨v', ka, kc, k⟩, hget⟩ := get_lt (.cons v a c f f.flat) i (by rw [e10]; exact hil)
      have HG := hideIt hget
      have hfl : (Fo.cons v a c f .nil).flat = .cons v a c f f.flat := by simp only [Fo.flat, app_nil]
      have HFL := hideIt hfl
      have hd0 : decide ((i : Int) < 0) = false := by simp
      have hd1 : decide ((f.size : Int) + 1 ≤ (i : Int)) = false := by simp; omega
      have hd2 : (i : Int) < (f.size : Int) + 1 := by omega
      clear hr e10 hget hfl
      go_enter Try.func19, Try.ntmps19
      go_wp2_with (first | (go_at_call 15; refine HF.out.mono ?_; rintro e x ⟨rfl, q1⟩; have x0 := boxed2_a q1 0 _ rfl; have x1 := boxed2_a q1 1 _ rfl; have x2 := boxed2_a q1 2 _ rfl; have x3 := boxed2_a q1 3 _ rfl; have x4 := boxed2_a q1 4 _ rfl; have x5 := boxed2_a q1 5 _ rfl; have x6 := boxed2_a q1 6 _ rfl; have x7 := boxed2_a q1 7 _ rfl; have x8 := boxed2_a q1 8 _ rfl; have x9 := boxed2_a q1 9 _ rfl; have HX := hideIt q1; clear q1) | (go_at_call 22; refine (HA.out x HX.out).mono ?_; rintro e y ⟨g, cap, rfl, p1, q1⟩; (try clear x0 x1 x2 x3 x4 x5 x6 x7 x8 x9); have g0 := boxed2_b q1 0 _ rfl; have g1 := boxed2_b q1 1 _ rfl; have g2 := boxed2_b q1 2 _ rfl; have g3 := boxed2_b q1 3 _ rfl; have g4 := boxed2_b q1 4 _ rfl; have g5 := boxed2_b q1 5 _ rfl; have g6 := boxed2_b q1 6 _ rfl; have g7 := boxed2_b q1 7 _ rfl; have g8 := boxed2_b q1 8 _ rfl; have g9 := boxed2_b q1 9 _ rfl; have gf := boxed2_free q1; have gf0 := (gf 0).2; have gf1 := (gf 1).2; have gf2 := (gf 2).2; have gf3 := (gf 3).2; have gf4 := (gf 4).2; have gf5 := (gf 5).2; have gf6 := (gf 6).2; have gf7 := (gf 7).2; have gf8 := (gf 8).2; have gf9 := (gf 9).2; clear gf; have hat := row_at HG.out p1; obtain ⟨c0, c1, c2, c3, c4, c5, c6, c7, c8, c9⟩ := hat.ten; have HY := hideIt q1; clear p1 q1 hat))
      refine bodyPost_ret (v := .tuple #[nodeV v' (.slice ka k.len kc), .int .i64 0]) (by simp [results, Try.results19, go_sem, *]) rfl ⟨?_, Or.inr (Or.inr ⟨i, v', ka, kc, k, HFI.out, rfl, by rw [HFL.out]; exact HG.out, rfl⟩)⟩
      repeat (refine Below.setCell ?_ (by simp <;> omega) _)
      exact (boxed2_q _ _ _ _ _).trans HY.out
end Go.Proofs.Ytioeoillogpdoaa
