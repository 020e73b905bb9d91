/-
  A run of code: a register is read, is set; a step is taken: contracts over the program; the conditions: a run lies there.
  A run of code: where a number leads, a cell is read, is written: contracts over the program; the conditions: a run lies there.
-/
import Derived.Test.YtaomkfhbnakbjaaKRmB
namespace Go.Proofs.Ytaomkfhbnakbjaa
open Go.RowKit
set_option linter.unusedVariables false

theorem get_row (w : World) (gb go B : Nat) (T : TypeId) (v : Value) (H : List Int) (hcell : w.cell? ⟨gb, go, none⟩ = some v) (hi : w.ownsRow B T 1 v H.length (rowI H)) (hlen : H.length ≤ 9223372036854775807) (n : Nat) :
    Calls Try.prog 106 #[.pointer (some ⟨gb, go, none⟩), .int .i64 (n : Int)] w fun e w' => e = .returned (.int .i64 (regAt H n)) ∧ w' = w := by
  by_cases h : n < H.length
  · obtain ⟨x, hx⟩ := get_of_lt h
    obtain ⟨g, cap, cur, e1, e2, e3, e4, e5⟩ := row_at hi hx
    have er : regAt H n = x := by unfold regAt; rw [List.getD_eq_getElem?_getD, hx]; rfl
    rw [er]
    rw [e1] at hcell
    have hc1 : w.cell? ⟨g, n, none⟩ = some (.int .i64 x) := by simp [World.cell?, e2, e3]
    have hn : (n : Int) < (H.length : Int) := by omega
    have hd : decide ((H.length : Int) ≤ (n : Int)) = false := by simp; omega
    clear hi hx e1 er e2 e3 e4 e5
    go_enter Try.func106, Try.ntmps106
    go_wp2
    go_ret
    exact ⟨rfl, rfl⟩
  · have er : regAt H n = 0 := by unfold regAt; rw [List.getD_eq_getElem?_getD, List.getElem?_eq_none (by omega)]; rfl
    rw [er]
    obtain ⟨a, c, e1, -, -⟩ := Me.ownsRow_form hi
    rw [e1] at hcell
    have hd : decide ((H.length : Int) ≤ (n : Int)) = true := by simp; omega
    clear hi er e1
    go_enter Try.func106, Try.ntmps106
    go_wp2
    go_ret
    exact ⟨rfl, rfl⟩

theorem get_ri {w w0 : World} {R p gb gc : Nat} {col : Col} {c : PC} {fuel : Nat} {s : St} {A : List Int} {G : GG} (h : RI w w0 R p gb gc col c fuel s A G) {k : Nat} (hk : k < c.fns.length) (n : Nat) :
    Calls Try.prog 106 #[.pointer (some ⟨gb, k * 2, none⟩), .int .i64 (n : Int)] w fun e w' => e = .returned (.int .i64 (regAt (G k).1 n)) ∧ w' = w := by
  obtain ⟨cs, h1, h2⟩ := h.regs
  obtain ⟨hv, wv, e1, e2, e3, e4, e5, e6⟩ := h2 k hk
  have := (h.gw k hk).1
  exact get_row w gb (k * 2) _ _ hv (G k).1 (by simp [World.cell?, h1, e1]) e3 (by omega) n
theorem get_int {w w0 : World} {R p gb gc : Nat} {col : Col} {c : PC} {fuel : Nat} {s : St} {A : List Int} {G : GG} (h : RI w w0 R p gb gc col c fuel s A G) {k : Nat} (hk : k < c.fns.length) {ρ : Rg} (hρ : ∀ n, regAt (G k).1 n = ρ n) (n : Int) (hn : 0 ≤ n) :
    Calls Try.prog 106 #[.pointer (some ⟨gb, k * 2, none⟩), .int .i64 n] w fun e w' => e = .returned (.int .i64 (rg ρ n)) ∧ w' = w := by
  have := get_ri h hk n.toNat
  rw [show ((n.toNat : Nat) : Int) = n by omega, hρ] at this
  exact this

theorem regAt_set (H : List Int) (n m : Nat) (x : Int) : regAt ((reached H (n + 1)).set n x) m = if m = n then x else regAt H m := by
  have hl : n < (reached H (n + 1)).length := by unfold reached; simp; omega
  unfold regAt
  rw [List.getD_eq_getElem?_getD, List.getD_eq_getElem?_getD, List.getElem?_set]
  by_cases e : n = m
  · subst e
    rw [if_pos rfl, if_pos hl, if_pos rfl]
    rfl
  · rw [if_neg e, if_neg (fun q => e q.symm)]
    unfold reached
    by_cases hm : m < H.length
    · rw [List.getElem?_append_left hm]
    · rw [List.getElem?_append_right (by omega), List.getElem?_eq_none (by omega : H.length ≤ m), List.getElem?_replicate]
      split <;> rfl
theorem reached_len (H : List Int) (n : Nat) : (reached H n).length = max H.length n := by unfold reached; simp; omega

def updG (G : GG) (k : Nat) (H W : List Int) : GG := fun j => if j = k then (H, W) else G j

/-- The registers of one function are changed, in their own blocks. -/
theorem RI.setG {w w' w0 : World} {R p gb gc : Nat} {col : Col} {c : PC} {fuel : Nat} {s : St} {A : List Int} {G : GG} (h : RI w w0 R p gb gc col c fuel s A G) {k : Nat} (hk : k < c.fns.length) {H' W' : List Int} {cs cs' : Array Value} {hv wv hv' wv' : Value}
    (hcs : w.heap[gb]? = some (.cells cs 133 (0, 0))) (c0 : cs[k * 2]? = some hv) (c1 : cs[k * 2 + 1]? = some wv) (ch : ∀ b, hv.ownBlock = some b → col b = some (.hd k)) (cw : ∀ b, wv.ownBlock = some b → col b = some (.wr k))
    (hr : RG w' gb (k * 2) w0.heap.size H' W' cs' 133 hv' wv') (hoth : ∀ j, j ≠ k * 2 → j ≠ k * 2 + 1 → cs'[j]? = cs[j]?) (q1 : hv'.ownBlock = hv.ownBlock ∨ ∃ g, hv'.ownBlock = some g ∧ w.heap.size ≤ g) (q2 : wv'.ownBlock = wv.ownBlock ∨ ∃ g, wv'.ownBlock = some g ∧ w.heap.size ≤ g)
    (hF : Rf2 w w' gb hv.ownBlock wv.ownBlock) (hl : H'.length ≤ 20000) (hw : ∀ m ∈ W', ∃ n : Nat, m = (n : Int) ∧ n < H'.length) (hwl : W'.length ≤ s.n) :
    ∃ col', RI w' w0 R p gb gc col' c fuel s A (updG G k H' W') ∧ Ex col w col' w' := by
  classical
  have hcol : ∀ b, b < w.heap.size → (fun b => if b < w.heap.size then col b else if hv'.ownBlock = some b then some (Tg.hd k) else if wv'.ownBlock = some b then some (Tg.wr k) else none) b = col b := fun b hb => by simp [hb]
  have kb : ∀ b τ, b < w.heap.size → col b = some τ → τ ≠ .rg → τ ≠ .hd k → τ ≠ .wr k → w'.heap[b]? = w.heap[b]? := fun b τ hb e t1 t2 t3 =>
    hF.block b hb (fun q => by rw [q, h.colg] at e; exact t1 (Option.some.inj e).symm) (fun q => by rw [ch b q.symm] at e; exact t2 (Option.some.inj e).symm) (fun q => by rw [cw b q.symm] at e; exact t3 (Option.some.inj e).symm)
  have hex : Ex col w (fun b => if b < w.heap.size then col b else if hv'.ownBlock = some b then some (Tg.hd k) else if wv'.ownBlock = some b then some (Tg.wr k) else none) w' :=
    ⟨hF.os, hF.tape, hF.output, hF.size, fun b hb e => hF.block b hb (fun q => by rw [q, h.colg] at e; cases e) (fun q => by rw [ch b q.symm] at e; cases e) (fun q => by rw [cw b q.symm] at e; cases e), hcol⟩
  have hhl : ∀ b, hv'.ownBlock = some b → b < w'.heap.size := fun b q => own_lt hr.oh q
  have hB := h.bel.size
  refine ⟨_, ⟨⟨hF.os.trans h.bel.os, hF.tape.trans h.bel.tape, hF.output.trans h.bel.output, Nat.le_trans hB hF.size, fun b hb => ?_⟩, fun b τ e => ?_, (hcol R h.ltR).trans h.colR, (hcol gb h.ltg).trans h.colg,
    h.run.keep (kb R _ h.ltR h.colR (by intro q; cases q) (by intro q; cases q) (by intro q; cases q)) (fun b hb e => e.elim (fun e => kb b _ hb e (by intro q; cases q) (by intro q; cases q) (by intro q; cases q)) (fun e => kb b _ hb e (by intro q; cases q) (by intro q; cases q) (by intro q; cases q))) hcol,
    h.mem.keep (Nat.le_refl _) (fun b hb e => kb b _ hb e (by intro q; cases q) (by intro q; cases q) (by intro q; cases q)) hF.size hcol, ?_, h.sum, h.one, h.nle, h.trl, fun j hj => ?_, h.al⟩, hex⟩
  · refine (hF.block b (by omega) (fun q => ?_) (fun q => ?_) (fun q => ?_)).trans (h.bel.block b hb)
    · have := (h.lt gb _ h.colg).1; omega
    · have := (h.lt b _ (ch b q.symm)).1; omega
    · have := (h.lt b _ (cw b q.symm)).1; omega
  · by_cases hb : b < w.heap.size
    · rw [if_pos hb] at e
      have := h.lt b τ e
      have := hF.size
      omega
    · rw [if_neg hb] at e
      refine ⟨by omega, ?_⟩
      by_cases e1 : hv'.ownBlock = some b
      · exact hhl b e1
      · rw [if_neg e1] at e
        by_cases e2 : wv'.ownBlock = some b
        · exact hr.lw b e2
        · rw [if_neg e2] at e; cases e
  · obtain ⟨cs0, z1, z2⟩ := h.regs
    rw [hcs] at z1
    obtain rfl : cs0 = cs := by injection z1 with z1; injection z1 with z1; exact z1.symm
    refine ⟨cs', hr.blk, fun j hj => ?_⟩
    by_cases e : j = k
    · subst e
      refine ⟨hv', wv', hr.c0, hr.c1, by simpa [updG] using hr.oh, by simpa [updG] using hr.ow, fun b q => ?_, fun b q => ?_⟩
      · by_cases hb : b < w.heap.size
        · rcases q1 with q1 | ⟨g, q1, q1'⟩
          · rw [hcol b hb]; exact ch b (by rw [← q1]; exact q)
          · rw [q] at q1; injection q1 with q1; omega
        · simp [hb, q]
      · by_cases hb : b < w.heap.size
        · rcases q2 with q2 | ⟨g, q2, q2'⟩
          · rw [hcol b hb]; exact cw b (by rw [← q2]; exact q)
          · rw [q] at q2; injection q2 with q2; omega
        · have : hv'.ownBlock ≠ some b := fun e => hr.hw b e q
          simp [hb, q, this]
    · obtain ⟨hv1, wv1, e1, e2, e3, e4, e5, e6⟩ := z2 j hj
      refine ⟨hv1, wv1, by rw [hoth _ (by omega) (by omega)]; exact e1, by rw [hoth _ (by omega) (by omega)]; exact e2, ?_, ?_, fun b q => by rw [hcol b (own_lt e3 q)]; exact e5 b q, fun b q => by rw [hcol b (own_lt e4 q)]; exact e6 b q⟩
      · simp only [updG, e, if_false]
        exact row_keep e3 (fun b q => kb b _ (own_lt e3 q) (e5 b q) (by intro q; cases q) (by intro q; cases q; exact e rfl) (by intro q; cases q))
      · simp only [updG, e, if_false]
        exact row_keep e4 (fun b q => kb b _ (own_lt e4 q) (e6 b q) (by intro q; cases q) (by intro q; cases q) (by intro q; cases q; exact e rfl))
  · simp only [updG]
    by_cases e : j = k
    · rw [if_pos e]; exact ⟨hl, hw, hwl⟩
    · rw [if_neg e]; exact h.gw j hj

theorem RI.rg {w w0 : World} {R p gb gc : Nat} {col : Col} {c : PC} {fuel : Nat} {s : St} {A : List Int} {G : GG} (h : RI w w0 R p gb gc col c fuel s A G) {k : Nat} (hk : k < c.fns.length) :
    ∃ cs hv wv, RG w gb (k * 2) w0.heap.size (G k).1 (G k).2 cs 133 hv wv ∧ (∀ b, hv.ownBlock = some b → col b = some (.hd k)) ∧ (∀ b, wv.ownBlock = some b → col b = some (.wr k)) := by
  obtain ⟨cs, h1, h2⟩ := h.regs
  obtain ⟨hv, wv, e1, e2, e3, e4, e5, e6⟩ := h2 k hk
  refine ⟨cs, hv, wv, ⟨h1, e1, e2, e3, e4, fun q => ?_, fun q => ?_, fun b q q' => ?_, fun b q => own_lt e4 q⟩, e5, e6⟩
  · have := e5 gb q; rw [h.colg] at this; cases this
  · have := e6 gb q; rw [h.colg] at this; cases this
  · have a1 := e5 b q; have a2 := e6 b q'; rw [a1] at a2; cases a2

/-- A register is set. -/
theorem set_ri {w w0 : World} {R p gb gc : Nat} {col : Col} {c : PC} {fuel : Nat} {s : St} {A : List Int} {G : GG} (h : RI w w0 R p gb gc col c fuel s A G) {k : Nat} (hk : k < c.fns.length) (n : Nat) (hn : n < 20000) (x : Int) (hwl : (G k).2.length + 1 ≤ s.n) (hf : fuel ≤ 8388608) :
    Calls Try.prog 123 #[.pointer (some ⟨gb, k * 2, none⟩), .int .i64 (n : Int), .int .i64 x] w fun e w' => e = .returned (.tuple #[]) ∧ ∃ col' H' W', RI w' w0 R p gb gc col' c fuel s A (updG G k H' W') ∧ Ex col w col' w' ∧ (∀ m, regAt H' m = if m = n then x else regAt (G k).1 m) ∧ (∀ m ∈ (G k).2, m ∈ W') ∧ (∀ m, regAt H' m ≠ 0 → regAt (G k).1 m ≠ 0 ∨ (m : Int) ∈ W') := by
  obtain ⟨cs, hv, wv, hr, ch, cw⟩ := h.rg hk
  obtain ⟨g1, g2, g3⟩ := h.gw k hk
  have hnl := h.nle
  have hlen : ((reached (G k).1 (n + 1)).set n x).length ≤ 20000 := by rw [List.length_set, reached_len]; omega
  have hge : (G k).1.length ≤ ((reached (G k).1 (n + 1)).set n x).length := by rw [List.length_set, reached_len]; omega
  have hgn : n < ((reached (G k).1 (n + 1)).set n x).length := by rw [List.length_set, reached_len]; omega
  by_cases hp : regAt (G k).1 n = 0 ∧ ¬ x = 0
  · refine (set_new w gb (k * 2) w0.heap.size (G k).1 (G k).2 cs _ hv wv hr h.bel.size n (by omega) x hp.1 hp.2 (by omega)).mono ?_
    rintro e w' ⟨rfl, hv', wv', cs', r1, r2, r3, r4, r5⟩
    obtain ⟨col', a1, a2⟩ := h.setG hk hr.blk hr.c0 hr.c1 ch cw r1 r2 r3 r4 r5 hlen (fun m hm => by
      rcases List.mem_append.1 hm with hm | hm
      · obtain ⟨q, e, hq⟩ := g2 m hm; exact ⟨q, e, by omega⟩
      · simp at hm; exact ⟨n, hm, hgn⟩) (by simp; omega)
    refine ⟨rfl, col', _, _, a1, a2, fun m => regAt_set _ _ _ _, fun m hm => List.mem_append_left _ hm, fun m hm => ?_⟩
    rw [regAt_set] at hm
    by_cases e : m = n
    · exact Or.inr (by rw [e]; simp)
    · rw [if_neg e] at hm; exact Or.inl hm
  · refine (set_plain w gb (k * 2) w0.heap.size (G k).1 (G k).2 cs _ hv wv hr h.bel.size n (by omega) x hp).mono ?_
    rintro e w' ⟨rfl, hv', r1, r3, r5⟩
    obtain ⟨col', a1, a2⟩ := h.setG hk hr.blk hr.c0 hr.c1 ch cw r1 (fun j j1 j2 => by rw [Array.getElem?_setIfInBounds_ne (by omega)]) r3 (Or.inl rfl) ⟨r5.os, r5.tape, r5.output, r5.size, fun b b1 b2 b3 _ => r5.block b b1 b2 b3⟩ hlen (fun m hm => by obtain ⟨q, e, hq⟩ := g2 m hm; exact ⟨q, e, by omega⟩) g3
    refine ⟨rfl, col', _, _, a1, a2, fun m => regAt_set _ _ _ _, fun m hm => hm, fun m hm => ?_⟩
    rw [regAt_set] at hm
    by_cases e : m = n
    · rw [if_pos e] at hm
      refine Or.inl (fun q => hp ⟨by rw [← e]; exact q, hm⟩)
    · rw [if_neg e] at hm; exact Or.inl hm

/-- A step is taken, or none is left. -/
theorem RI.c3 {w w0 : World} {R p gb gc : Nat} {col : Col} {c : PC} {fuel : Nat} {s : St} {A : List Int} {G : GG} (h : RI w w0 R p gb gc col c fuel s A G) : w.cell? ⟨R, 3, none⟩ = some (.int .i64 (fuel : Int)) ∧ w.cell? ⟨R, 4, none⟩ = some (.int .i64 (s.n : Int)) ∧ w.frozen? ⟨R, 4, none⟩ = false ∧ w.cell? ⟨R, 6, none⟩ = some (.pointer (some ⟨p, 0, none⟩)) := by
  obtain ⟨tv, av, h1, -⟩ := h.run
  exact ⟨Me.cell_of_block h1 3, Me.cell_of_block h1 4, Me.free_of_block h1 4, Me.cell_of_block h1 6⟩
theorem step_ri {w w0 : World} {R p gb gc : Nat} {col : Col} {c : PC} {fuel : Nat} {s : St} {A : List Int} {G : GG} (h : RI w w0 R p gb gc col c fuel s A G) (hf : fuel ≤ 8388608) :
    Calls Try.prog 105 #[.pointer (some ⟨R, 0, none⟩)] w fun e w' => e = .returned (.bool (decide (¬ s.n = fuel))) ∧ RI w' w0 R p gb gc col c fuel (if s.n = fuel then s else s.up) A G ∧ Ex col w col w' ∧ MemOk w' w0.heap.size p col s.n s.bs s.f := by
  obtain ⟨c3, c4, cf, -⟩ := h.c3
  have hnl := h.nle
  by_cases hn : s.n = fuel
  · rw [hn] at c4
    refine (step_none w R fuel c3 c4).mono ?_
    rintro e w' ⟨rfl, hd⟩
    simp only [hn, if_true, not_true_eq_false, decide_false]
    exact ⟨trivial, h.keep hd.q, Ex.q hd.q, by have := (h.keep hd.q).mem; rw [hn] at this; exact this⟩
  · refine (step_one w R s.n fuel c3 c4 cf (by omega) (by omega) (by omega)).mono ?_
    rintro e w' ⟨rfl, m, rfl⟩
    simp only [hn, if_false, not_false_eq_true, decide_true]
    obtain ⟨a1, a2⟩ := h.step hn m
    refine ⟨trivial, a1, a2, h.mem.keep (Nat.le_refl _) (fun b hb e => Below.heap_setCell w _ _ _ (fun q => ?_)) a2.size (fun _ _ => rfl)⟩
    rw [q, h.colR] at e
    cases e

end Go.Proofs.Ytaomkfhbnakbjaa

namespace Go.Proofs.Ytaomkfhbnakbjaa
open Go.RowKit
set_option linter.unusedVariables false

theorem and20 (z : Int) : bits .and .i64 z 1048575 = z % 1048576 := by
  have d : bits .and .i64 z 1048575 = IntKind.i64.wrap (((BitVec.ofInt 64 z &&& BitVec.ofInt 64 1048575).toNat : Nat) : Int) := rfl
  have e : (BitVec.ofInt 64 1048575).toNat = 1048575 := by decide
  have e2 : ∀ x : Nat, x &&& 1048575 = x % 1048576 := fun x => Nat.and_two_pow_sub_one_eq_mod x 20
  rw [d, BitVec.toNat_and, e, e2, BitVec.toNat_ofInt, IntKind.wrap_i64]
  omega

theorem cell_any (w : World) (a : Int) : Calls Try.prog 130 #[.int .i64 a] w fun e w' => e = .returned (.agg #[.int .i64 (hiA a), .int .i64 (loA a)]) ∧ Q w w' := by
  have e := and20 a
  go_enter Try.func130, Try.ntmps130
  go_wp2
  exact bodyPost_ret (v := .agg #[.int .i64 (a / 1048576), .int .i64 (a % 1048576)]) (by simp [results, Try.results130, go_sem]) rfl ⟨rfl, (Q.refl _).alloc _⟩

theorem inB_i64 {bs : List Nat} {a b : Int} (h : Me.inB bs a b = true) (hl : bs.length ≤ 1000000) (hc : ∀ c ∈ bs, c ≤ 100000) : Me.I64 a ∧ Me.I64 b := by
  obtain ⟨i, j, c, rfl, rfl, e1, e2⟩ := Me.inB_iff.1 h
  have := (List.getElem?_eq_some_iff.1 e1).1
  have := hc c (List.mem_of_getElem? e1)
  exact ⟨⟨by omega, by omega⟩, ⟨by omega, by omega⟩⟩
theorem len_sum : ∀ (bs : List Nat), (∀ x ∈ bs, 1 ≤ x) → bs.length ≤ bs.sum
  | [], _ => Nat.le_refl _
  | x :: r, h => by
    have := len_sum r (fun y hy => h y (List.mem_cons_of_mem _ hy))
    have := h x (List.mem_cons_self ..)
    simp; omega

set_option maxRecDepth 100000 in
theorem mload_out {w : World} {B : Nat} {bl : Nat → Prop} {p n : Nat} {bs : List Nat} {f : Int → Int → Int} {t : Int} (h : Me.MI w B bl p n bs f t) {a b : Int} (hl : bs.length ≤ 1000000) (hin : Me.inB bs a b = false) :
    Calls Try.prog 131 #[.pointer (some ⟨p, 0, none⟩), .agg #[.int .i64 a, .int .i64 b]] w fun e w' => e = .returned (.tuple #[.int .i64 0, .int .i64 12]) ∧ Q w w' := by
  obtain ⟨L, F, M, la, lc, h, hf, hs⟩ := h
  have hll : L.length ≤ 1000000 := by rw [← hs] at hl; simpa [Me.szs] using hl
  have H := hideIt (h.kept (w' := w.alloc (.cells #[.int .i64 a, .int .i64 b] 130)) (fun k hk => Below.heap_alloc _ _ _ (h.rng k hk).2) (by simp))
  have HL := hideIt hll
  subst hs
  clear h hl hll hf
  go_enter Try.func131, Try.ntmps131
  go_wp2_with (first | (go_at_call 101; refine (Me.has_mx H.out a b HL.out).mono ?_; rw [hin]; rintro e x1 ⟨rfl, hb⟩; have HB := hideIt hb; clear hb) | fail)
  go_ret2
  exact ⟨rfl, ((Below.refl _ _).alloc (Nat.le_refl _) _).trans (HB.out.mono (by simp))⟩
theorem mload_in {w : World} {B : Nat} {bl : Nat → Prop} {p n : Nat} {bs : List Nat} {f : Int → Int → Int} {t : Int} (h : Me.MI w B bl p n bs f t) {a b : Int} (hl : bs.length ≤ 1000000) (hc : ∀ c ∈ bs, c ≤ 100000) (hin : Me.inB bs a b = true) :
    Calls Try.prog 131 #[.pointer (some ⟨p, 0, none⟩), .agg #[.int .i64 a, .int .i64 b]] w fun e w' => e = .returned (.tuple #[.int .i64 (f a b), .int .i64 0]) ∧ Q w w' := by
  obtain ⟨i1, i2⟩ := inB_i64 hin hl hc
  have := Me.load_any h i1 i2 hl
  rw [hin] at this
  exact this

theorem MemOk.bd {w w0 : World} {R p gb gc : Nat} {col : Col} {c : PC} {fuel : Nat} {s : St} {A : List Int} {G : GG} (h : RI w w0 R p gb gc col c fuel s A G) : s.bs.length ≤ 1000000 ∧ ∀ x ∈ s.bs, x ≤ 100000 := by
  have a1 := len_sum s.bs h.one
  have a2 := h.sum
  exact ⟨by omega, fun x hx => by have := Me.mem_sum hx; omega⟩

theorem missing_q (w : World) (e0 : Int) : Calls Try.prog 129 #[.int .i64 e0] w fun e w' => e = .returned (.int .u8 (if e0 = 0 then 0 else 5)) ∧ w' = w := by
  by_cases h : e0 = 0
  · subst h; exact missing_ok w
  · rw [if_neg h]; exact missing_bad w e0 h

set_option maxHeartbeats 1000000 in
theorem load_ri {w w0 : World} {R p gb gc : Nat} {col : Col} {c : PC} {fuel : Nat} {s : St} {A : List Int} {G : GG} (h : RI w w0 R p gb gc col c fuel s A G) (a : Int) :
    Calls Try.prog 120 #[.pointer (some ⟨R, 0, none⟩), .int .i64 a] w fun e w' => e = .returned (.tuple #[.int .i64 (if Me.inB s.bs (hiA a) (loA a) then s.f (hiA a) (loA a) else 0), .int .u8 (if Me.inB s.bs (hiA a) (loA a) then 0 else 5)]) ∧ Q w w' := by
  obtain ⟨-, -, -, c6⟩ := h.c3
  obtain ⟨hl, hc⟩ := MemOk.bd h
  have C6 := hideIt (fun (x : World) (hx : Q w x) => cell_keep hx c6)
  have CC := hideIt (heldF (B := w) (F := fun y => y.cell? ⟨R, 6, none⟩ = some (.pointer (some ⟨p, 0, none⟩))) C6.out (fun x => cell_any x a))
  cases hin : Me.inB s.bs (hiA a) (loA a)
  · have CM := hideIt (show ∀ x, Q w x → Calls Try.prog 131 #[.pointer (some ⟨p, 0, none⟩), .agg #[.int .i64 (hiA a), .int .i64 (loA a)]] x fun e w' => e = .returned (.tuple #[.int .i64 0, .int .i64 12]) ∧ Q w w' ∧ w'.cell? ⟨R, 6, none⟩ = some (.pointer (some ⟨p, 0, none⟩)) from fun x hx => by
      obtain ⟨bl, m, b1, b2, b3⟩ := (h.keep hx).mem
      exact (mload_out b3 hl hin).mono fun e w' ⟨e1, q⟩ => ⟨e1, hx.trans q, C6.out _ (hx.trans q)⟩)
    clear h hl hc hin
    simp only [Bool.false_eq_true, if_false]
    generalize hiA a = x1 at *
    generalize loA a = x2 at *
    go_enter Try.func120, Try.ntmps120
    go_wp2_with (fail)
    first | go_region_held3 (fun y : World => Q w y ∧ y.cell? ⟨R, 6, none⟩ = some (.pointer (some ⟨p, 0, none⟩))) (first | exact ⟨(Q.refl _).drew, C6.out _ (Q.refl _).drew⟩ | go_keep) (first | (go_at_call 130; refine Calls.mono (CC.out _ (by first | assumption | exact (Q.refl _).drew)) ?_; rintro e y ⟨rfl, s0, s1⟩) | (go_at_call 131; refine Calls.mono (CM.out _ (by first | assumption | exact (Q.refl _).drew)) ?_; rintro e y ⟨rfl, s0, s1⟩)) | fail
    all_goals rename_i hHeld
    all_goals have HH := hideIt hHeld.1
    all_goals clear hHeld
    all_goals go_wp2_with (first | (go_at_call 129; refine (missing_q _ _).mono ?_; rintro e y ⟨rfl, rfl⟩) | fail)
    all_goals go_ret2
    all_goals exact ⟨rfl, HH.out⟩
  · have CM := hideIt (show ∀ x, Q w x → Calls Try.prog 131 #[.pointer (some ⟨p, 0, none⟩), .agg #[.int .i64 (hiA a), .int .i64 (loA a)]] x fun e w' => e = .returned (.tuple #[.int .i64 (s.f (hiA a) (loA a)), .int .i64 0]) ∧ Q w w' ∧ w'.cell? ⟨R, 6, none⟩ = some (.pointer (some ⟨p, 0, none⟩)) from fun x hx => by
      obtain ⟨bl, m, b1, b2, b3⟩ := (h.keep hx).mem
      exact (mload_in b3 hl hc hin).mono fun e w' ⟨e1, q⟩ => ⟨e1, hx.trans q, C6.out _ (hx.trans q)⟩)
    clear h hl hc hin
    simp only [if_true]
    generalize s.f (hiA a) (loA a) = v at *
    generalize hiA a = x1 at *
    generalize loA a = x2 at *
    go_enter Try.func120, Try.ntmps120
    go_wp2_with (fail)
    first | go_region_held3 (fun y : World => Q w y ∧ y.cell? ⟨R, 6, none⟩ = some (.pointer (some ⟨p, 0, none⟩))) (first | exact ⟨(Q.refl _).drew, C6.out _ (Q.refl _).drew⟩ | go_keep) (first | (go_at_call 130; refine Calls.mono (CC.out _ (by first | assumption | exact (Q.refl _).drew)) ?_; rintro e y ⟨rfl, s0, s1⟩) | (go_at_call 131; refine Calls.mono (CM.out _ (by first | assumption | exact (Q.refl _).drew)) ?_; rintro e y ⟨rfl, s0, s1⟩)) | fail
    all_goals rename_i hHeld
    all_goals have HH := hideIt hHeld.1
    all_goals clear hHeld
    all_goals go_wp2_with (first | (go_at_call 129; refine (missing_q _ _).mono ?_; rintro e y ⟨rfl, rfl⟩) | fail)
    all_goals go_ret2
    all_goals exact ⟨rfl, HH.out⟩

/-- Memory is changed, in its own blocks. -/
theorem RI.setM {w w' w0 : World} {R p gb gc : Nat} {col : Col} {c : PC} {fuel : Nat} {s : St} {A : List Int} {G : GG} (h : RI w w0 R p gb gc col c fuel s A G) {bl bl' : Nat → Prop} {m : Nat} {bs : List Nat} {f : Int → Int → Int} (hbl : ∀ b, bl b → col b = some .me) (h1 : ∀ b, bl' b → bl b ∨ w.heap.size ≤ b) (hm : m ≤ s.n + 70000) (hM : Me.MI w' w0.heap.size bl' p m bs f ((bs.sum : Nat) : Int)) (hF : Me.Fr bl w w') (hs : bs.sum ≤ 65536) (ho : ∀ x ∈ bs, 1 ≤ x) :
    ∃ col', RI w' w0 R p gb gc col' c fuel { s with bs := bs, f := f } A G ∧ Ex col w col' w' := by
  classical
  have hcol : ∀ b, b < w.heap.size → (fun b => if b < w.heap.size then col b else if bl' b then some Tg.me else none) b = col b := fun b hb => by simp [hb]
  have kb : ∀ b τ, b < w.heap.size → col b = some τ → τ ≠ .me → w'.heap[b]? = w.heap[b]? := fun b τ hb e t1 => hF.block b hb (fun q => by rw [hbl b q] at e; exact t1 (Option.some.inj e).symm)
  have hB := h.bel.size
  refine ⟨_, ⟨⟨hF.os.trans h.bel.os, hF.tape.trans h.bel.tape, hF.output.trans h.bel.output, Nat.le_trans hB hF.size, fun b hb => ?_⟩, fun b τ e => ?_, (hcol R h.ltR).trans h.colR, (hcol gb h.ltg).trans h.colg,
    h.run.keep (kb R _ h.ltR h.colR (by intro q; cases q)) (fun b hb e => e.elim (fun e => kb b _ hb e (by intro q; cases q)) (fun e => kb b _ hb e (by intro q; cases q))) hcol, ⟨bl', m, fun b hb => ?_, hm, hM⟩,
    h.regs.keep (kb gb _ h.ltg h.colg (by intro q; cases q)) (fun b k hb e => e.elim (fun e => kb b _ hb e (by intro q; cases q)) (fun e => kb b _ hb e (by intro q; cases q))) hcol, hs, ho, h.nle, h.trl, h.gw, h.al⟩,
    ⟨hF.os, hF.tape, hF.output, hF.size, fun b hb e => hF.block b hb (fun q => by rw [hbl b q] at e; cases e), hcol⟩⟩
  · refine (hF.block b (by omega) (fun q => ?_)).trans (h.bel.block b hb)
    have := (h.lt b _ (hbl b q)).1; omega
  · by_cases hb : b < w.heap.size
    · rw [if_pos hb] at e
      have := h.lt b τ e
      have := hF.size
      omega
    · rw [if_neg hb] at e
      by_cases e1 : bl' b
      · exact hM.rng e1
      · rw [if_neg e1] at e; cases e
  · by_cases hb' : b < w.heap.size
    · rcases h1 b hb with q | q
      · rw [hcol b hb']; exact hbl b q
      · omega
    · simp [hb', hb]

set_option maxHeartbeats 1000000 in
theorem store_ri {w w0 : World} {R p gb gc : Nat} {col : Col} {c : PC} {fuel : Nat} {s : St} {A : List Int} {G : GG} (h : RI w w0 R p gb gc col c fuel s A G) {n0 : Nat} (hm : MemOk w w0.heap.size p col n0 s.bs s.f) (hn : n0 + 1 ≤ s.n) (hf : fuel ≤ 8388608) (a v : Int) :
    Calls Try.prog 119 #[.pointer (some ⟨R, 0, none⟩), .int .i64 a, .int .i64 v] w fun e w' => e = .returned (.int .u8 (if Me.inB s.bs (hiA a) (loA a) then 0 else 5)) ∧
      ∃ col', RI w' w0 R p gb gc col' c fuel (if Me.inB s.bs (hiA a) (loA a) then { s with f := Me.upd s.f (hiA a) (loA a) v } else s) A G ∧ Ex col w col' w' := by
  obtain ⟨-, -, -, c6⟩ := h.c3
  obtain ⟨hl, hc⟩ := MemOk.bd h
  have hnl := h.nle
  have C6 := hideIt (fun (x : World) (hx : Q w x) => cell_keep hx c6)
  have CC := hideIt (fun x => cell_any x a)
  cases hin : Me.inB s.bs (hiA a) (loA a)
  · have CM := hideIt (show ∀ x, Q w x → Calls Try.prog 80 #[.pointer (some ⟨p, 0, none⟩), .agg #[.int .i64 (hiA a), .int .i64 (loA a)], .int .i64 v] x fun e w' => e = .returned (.int .i64 12) ∧ ∃ col', RI w' w0 R p gb gc col' c fuel s A G ∧ Ex col w col' w' from fun x hx => by
      obtain ⟨bl, m, b1, b2, b3⟩ := (h.keep hx).mem
      exact (Me.store_none b3 (hiA a) (loA a) v hl hin).mono fun e w' ⟨e1, q⟩ => ⟨e1, col, h.keep (hx.trans q), Ex.q (hx.trans q)⟩)
    clear h hl hc hin hm
    simp only [Bool.false_eq_true, if_false]
    generalize hiA a = x1 at *
    generalize loA a = x2 at *
    go_enter Try.func119, Try.ntmps119
    go_wp2_with (fail)
    first | go_region_with (first | (go_at_call 130; refine Calls.mono (CC.out _) ?_; rintro e y ⟨rfl, q⟩; have s0 := hideIt ((Q.refl w).drew.trans q); have s1 := C6.out _ s0.out; clear q) | (go_at_call 80; refine Calls.mono (CM.out _ s0.out) ?_; rintro e z ⟨rfl, hz⟩; have HZ := hideIt hz; clear hz) | (go_at_call 129; refine Calls.mono (missing_q _ _) ?_; rintro e u ⟨rfl, rfl⟩)) | fail
    all_goals go_wp2_with (fail)
    all_goals go_ret
    all_goals exact ⟨rfl, HZ.out⟩
  · have CM := hideIt (show ∀ x, Q w x → Calls Try.prog 80 #[.pointer (some ⟨p, 0, none⟩), .agg #[.int .i64 (hiA a), .int .i64 (loA a)], .int .i64 v] x fun e w' => e = .returned (.int .i64 0) ∧ ∃ col', RI w' w0 R p gb gc col' c fuel { s with f := Me.upd s.f (hiA a) (loA a) v } A G ∧ Ex col w col' w' from fun x hx => by
      obtain ⟨bl, m, b1, b2, b3⟩ := hm
      have b4 := b3.below (w' := x) hx
      refine (Me.store_ok b4 (hiA a) (loA a) v hl hc (by omega) hin).mono ?_
      rintro e w' ⟨rfl, ⟨bl', d1, d2, d3⟩, d4⟩
      obtain ⟨col', r1, r2⟩ := (h.keep hx).setM b1 d2 (by omega) d3 d4 h.sum h.one
      exact ⟨rfl, col', r1, (Ex.q hx).trans r2⟩)
    clear h hl hc hin hm
    simp only [if_true]
    generalize hS : ({ s with f := Me.upd s.f (hiA a) (loA a) v } : St) = S at *
    generalize hiA a = x1 at *
    generalize loA a = x2 at *
    go_enter Try.func119, Try.ntmps119
    go_wp2_with (fail)
    first | go_region_with (first | (go_at_call 130; refine Calls.mono (CC.out _) ?_; rintro e y ⟨rfl, q⟩; have s0 := hideIt ((Q.refl w).drew.trans q); have s1 := C6.out _ s0.out; clear q) | (go_at_call 80; refine Calls.mono (CM.out _ s0.out) ?_; rintro e z ⟨rfl, hz⟩; have HZ := hideIt hz; clear hz) | (go_at_call 129; refine Calls.mono (missing_q _ _) ?_; rintro e u ⟨rfl, rfl⟩)) | fail
    all_goals go_wp2_with (fail)
    all_goals go_ret
    all_goals exact ⟨rfl, HZ.out⟩

end Go.Proofs.Ytaomkfhbnakbjaa
