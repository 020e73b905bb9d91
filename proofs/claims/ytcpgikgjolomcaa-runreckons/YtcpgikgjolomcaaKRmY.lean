/-
  Run of layer 14: contracts over the program; the conditions: the code lies in memory.
-/
import Derived.Test.YtcpgikgjolomcaaKRmX
import Derived.Laws.MakeOwn
namespace Go.Proofs.Ytcpgikgjolomcaa
open Go.RowKit
set_option linter.unusedVariables false

abbrev zeroO : Value := .agg #[.bool false, .int .i64 0, .int .u8 0, .bool false, .int .i64 0, .slice none 0 0]

set_option maxRecDepth 100000 in
theorem run_fuel (w : World) (c : PC) (n : Int) (hn : n < 0 ∨ 8388608 < n) : Calls Try.prog 9 #[c.v, .int .i64 n] w fun e w' => e = .returned (.tuple #[zeroO, .int .i64 1]) ∧ Q w w' := by
  by_cases h0 : n < 0
  · have h1 : decide (n < 0) = true := by simpa using h0
    go_enter Try.func9, Try.ntmps9
    go_wp2_with (fail)
    exact bodyPost_ret (v := .tuple #[zeroO, .int .i64 1]) (by simp [results, Try.results9, go_sem]) rfl ⟨rfl, ((Q.refl w).alloc _).alloc _⟩
  · have h1 : decide (n < 0) = false := by simpa using h0
    have h2 : decide (8388608 < n) = true := by simp; omega
    go_enter Try.func9, Try.ntmps9
    go_wp2_with (fail)
    exact bodyPost_ret (v := .tuple #[zeroO, .int .i64 1]) (by simp [results, Try.results9, go_sem]) rfl ⟨rfl, ((Q.refl w).alloc _).alloc _⟩

theorem bxO_at (w : World) (c : PC) : (bxO (bxC w c)).heap[w.heap.size + 1]? = some (.cells #[.bool false, .int .i64 0, .int .u8 0, .bool false, .int .i64 0, .slice none 0 0] 31 (0, 0)) := by
  have := heap_alloc_new (bxC w c) (.cells #[.bool false, .int .i64 0, .int .u8 0, .bool false, .int .i64 0, .slice none 0 0] 31)
  simpa using this

set_option maxRecDepth 100000 in
theorem run_bad (w : World) (c : PC) (hcok : c.ok w) (n : Int) (h0 : ¬ n < 0) (h1 : ¬ 8388608 < n) (hv : ¬ validP c = 0) : Calls Try.prog 9 #[c.v, .int .i64 n] w fun e w' => e = .returned (.tuple #[zeroO, .int .i64 (validP c)]) ∧ Q w w' := by
  have VA := hideIt (valid_any (bxO (bxC w c)) c (hcok.keep (((Q.refl w).alloc _).alloc _)))
  have B1 := hideIt (bxO_at w c)
  have d0 : decide (n < 0) = false := by simpa using h0
  have d1 : decide (8388608 < n) = false := by simpa using h1
  have d2 : (validP c != 0) = true := by simpa using hv
  generalize validP c = v at *
  clear hcok hv
  go_enter Try.func9, Try.ntmps9
  go_wp2_with (first | (go_at_call 14; refine VA.out.mono ?_; rintro e x ⟨rfl, q⟩; have HQ := hideIt q; have b1 := (q.block (w.heap.size + 1) (by simp)).trans B1.out; have v0 := Me.cell_of_block b1 0; have v1 := Me.cell_of_block b1 1; have v2 := Me.cell_of_block b1 2; have v3 := Me.cell_of_block b1 3; have v4 := Me.cell_of_block b1 4; have v5 := Me.cell_of_block b1 5; have f0 := fun j : Nat => Me.free_of_block b1 j; clear q b1) | fail)
  exact bodyPost_ret (v := .tuple #[zeroO, .int .i64 v]) (by simp [results, Try.results9, go_sem, v0, v1, v2, v3, v4, v5]) rfl ⟨rfl, by
    have hq := (((Q.refl w).alloc _).alloc _).trans HQ.out
    have hle : w.heap.size ≤ w.heap.size + 1 := Nat.le_succ _
    exact (((((hq.set hle _).set hle _).set hle _).set hle _).set hle _).set hle _⟩

theorem made_at (n j : Nat) (h : j < n) : (madeCells #[.slice none 0 0, .slice none 0 0] n)[j]? = some (.slice none 0 0) := by
  unfold madeCells
  rw [Array.getElem?_map, Array.getElem?_range]
  simp only [h, if_true, Option.map_some]
  have : j % 2 = 0 ∨ j % 2 = 1 := by omega
  rcases this with q | q <;> simp [q]

/-- A run at its beginning. -/
theorem gs_init {W w0 : World} {R p gb : Nat} {c : PC} {fuel : Nat} {bl : Nat → Prop} {B : Nat} (hq : Q w0 W) (hR : W.heap[R]? = some (.cells #[.slice c.ga c.gl.length c.gc, .slice c.na c.ini.length c.nc, .slice c.fa c.fns.length c.fc, .int .i64 (fuel : Int), .int .i64 0, .slice none 0 0, .pointer (some ⟨p, 0, none⟩), .slice (some ⟨gb, 0, none⟩) c.fns.length c.fns.length, .slice none 0 0] 58 (0, 0)))
    (hg : W.heap[gb]? = some (.cells (madeCells #[.slice none 0 0, .slice none 0 0] (c.fns.length * 2)) 101 (0, 0))) (hM : Me.MI W B bl p 0 [] (fun _ _ => 0) 0) (hB : w0.heap.size ≤ B) (n1 : R ≠ gb) (n2 : ¬ bl R) (n3 : ¬ bl gb) (l1 : w0.heap.size ≤ R) (l2 : w0.heap.size ≤ gb) :
    ∃ col, GS W W w0 R p gb c.fns.length col col c fuel (fun _ => ([], [])) 0 := by
  classical
  have hM' : Me.MI W w0.heap.size bl p 0 [] (fun _ _ => 0) 0 := by
    obtain ⟨L, F, M, la, lc, h1, h2, h3⟩ := hM
    obtain rfl : L = [] := by simpa [Me.szs] using h3
    exact ⟨[], F, M, la, lc, ⟨fun k hk => ⟨Nat.le_trans hB (h1.rng k hk).1, (h1.rng k hk).2⟩, h1.inp, h1.inM, h1.Mnp, h1.own, h1.cells, h1.map, Me.ownsRow_mono h1.row hB, fun i d e => by simp at e, fun i d k e => by simp at e, fun i j d e k h1 => by simp at h1⟩, h2, rfl⟩
  have hgl : glS c 0 = ⟨0, [], [], fun _ _ => 0⟩ := by
    unfold glS
    simp only [List.take_zero, List.map_nil]
    congr 1
    funext a b
    simp [glF]
  have lR := (Array.getElem?_eq_some_iff.1 hR).1
  have lg := (Array.getElem?_eq_some_iff.1 hg).1
  have cR : (fun b => if b = R then some Tg.rn else if b = gb then some Tg.rg else if bl b then some Tg.me else none) R = some .rn := by simp
  have cg : (fun b => if b = R then some Tg.rn else if b = gb then some Tg.rg else if bl b then some Tg.me else none) gb = some .rg := by have e : gb ≠ R := fun h => n1 h.symm; simp [e]
  have cm : ∀ b, bl b → (fun b => if b = R then some Tg.rn else if b = gb then some Tg.rg else if bl b then some Tg.me else none) b = some .me := fun b hb => by
    have e1 : b ≠ R := fun q => n2 (by rw [← q]; exact hb)
    have e2 : b ≠ gb := fun q => n3 (by rw [← q]; exact hb)
    simp [e1, e2, hb]
  refine ⟨_, ?_, Ex.refl _ _, bl, 0, cm, Nat.le_refl _, by rw [hgl]; exact hM'⟩
  rw [hgl]
  refine ⟨hq, fun b τ e => ?_, cR, cg, ⟨_, _, hR, World.ownsRow_nil _ _ _ _, World.ownsRow_nil _ _ _ _, fun b q => (by cases q), fun b q => (by cases q)⟩, ⟨bl, 0, cm, Nat.zero_le _, hM'⟩, ⟨_, hg, fun k hk => ⟨_, _, made_at _ _ (by omega), made_at _ _ (by omega), World.ownsRow_nil _ _ _ _, World.ownsRow_nil _ _ _ _, fun b q => (by cases q), fun b q => (by cases q)⟩⟩, by simp, fun x hx => (by cases hx), Nat.zero_le _, Nat.zero_le _, fun k hk => ⟨Nat.zero_le _, fun m hm => (by cases hm), Nat.zero_le _⟩, Nat.zero_le _⟩
  by_cases e1 : b = R
  · subst e1; exact ⟨l1, lR⟩
  · rw [if_neg e1] at e
    by_cases e2 : b = gb
    · subst e2; exact ⟨l2, lg⟩
    · rw [if_neg e2] at e
      by_cases e3 : bl b
      · exact hM'.rng e3
      · rw [if_neg e3] at e; cases e

end Go.Proofs.Ytcpgikgjolomcaa
