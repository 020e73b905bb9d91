/-
  Every call of a run; the globals of a run: contracts over the program; the conditions: a run lies there, and the code is right.
-/
import Derived.Test.YtcpgikgjolomcaaKRmU
namespace Go.Proofs.Ytcpgikgjolomcaa
open Go.RowKit
set_option linter.unusedVariables false

/-- Memory is changed, in its own blocks; whose they are. -/
theorem RI.setM' {w w' w0 : World} {R p gb gc : Nat} {col : Col} {c : PC} {fuel : Nat} {s : St} {A : List Int} {G : GG} (h : RI w w0 R p gb gc col c fuel s A G) {bl bl' : Nat → Prop} {m : Nat} {bs : List Nat} {f : Int → Int → Int} (hbl : ∀ b, bl b → col b = some .me) (h1 : ∀ b, bl' b → bl b ∨ w.heap.size ≤ b) (hm : m ≤ s.n + 70000) (hM : Me.MI w' w0.heap.size bl' p m bs f ((bs.sum : Nat) : Int)) (hF : Me.Fr bl w w') (hs : bs.sum ≤ 65536) (ho : ∀ x ∈ bs, 1 ≤ x) :
    ∃ col', RI w' w0 R p gb gc col' c fuel { s with bs := bs, f := f } A G ∧ Ex col w col' w' ∧ ∀ b, bl' b → col' b = some .me := by
  classical
  have hcol : ∀ b, b < w.heap.size → (fun b => if b < w.heap.size then col b else if bl' b then some Tg.me else Option.none) b = col b := fun b hb => by simp [hb]
  have kb : ∀ b τ, b < w.heap.size → col b = some τ → τ ≠ .me → w'.heap[b]? = w.heap[b]? := fun b τ hb e t1 => hF.block b hb (fun q => by rw [hbl b q] at e; exact t1 (Option.some.inj e).symm)
  have hme : ∀ b, bl' b → (fun b => if b < w.heap.size then col b else if bl' b then some Tg.me else Option.none) b = some .me := fun b hb => by
    by_cases hb' : b < w.heap.size
    · rcases h1 b hb with q | q
      · rw [hcol b hb']; exact hbl b q
      · omega
    · simp [hb', hb]
  have hB := h.bel.size
  refine ⟨_, ⟨⟨hF.os.trans h.bel.os, hF.tape.trans h.bel.tape, hF.output.trans h.bel.output, Nat.le_trans hB hF.size, fun b hb => ?_⟩, fun b τ e => ?_, (hcol R h.ltR).trans h.colR, (hcol gb h.ltg).trans h.colg,
    h.run.keep (kb R _ h.ltR h.colR (by intro q; cases q)) (fun b hb e => e.elim (fun e => kb b _ hb e (by intro q; cases q)) (fun e => kb b _ hb e (by intro q; cases q))) hcol, ⟨bl', m, hme, hm, hM⟩,
    h.regs.keep (kb gb _ h.ltg h.colg (by intro q; cases q)) (fun b k hb e => e.elim (fun e => kb b _ hb e (by intro q; cases q)) (fun e => kb b _ hb e (by intro q; cases q))) hcol, hs, ho, h.nle, h.trl, h.gw, h.al⟩,
    ⟨hF.os, hF.tape, hF.output, hF.size, fun b hb e => hF.block b hb (fun q => by rw [hbl b q] at e; cases e), hcol⟩, hme⟩
  · refine (hF.block b (by omega) (fun q => ?_)).trans (h.bel.block b hb)
    have := (h.lt b _ (hbl b q)).1; omega
  · by_cases hb : b < w.heap.size
    · rw [if_pos hb] at e
      have := h.lt b τ e
      have := hF.size
      omega
    · rw [if_neg hb] at e
      by_cases e1 : bl' b
      · exact hM.rng e1
      · rw [if_neg e1] at e; cases e

theorem call_all {w0 : World} {R p gb gc : Nat} {c : PC} {fuel : Nat} (hf : fuel ≤ 8388608) (hv : VC c w0) : ∀ g, CallC w0 R p gb gc c fuel (callR c fuel g) g
  | 0, j, f, hj, hf', W, col, s, A, G, hr, hid, hA => by omega
  | g + 1, j, f, hj, hfj, W, col, s, A, G, hr, hid, hA => by
    have ih := call_all (R := R) (p := p) (gb := gb) (gc := gc) hf hv g
    exact call_ri hr hf hv hfj hid hA (g := g) (fun i fi hi hfi => ih i fi (by omega) hfi)

theorem RI.c1 {w w0 : World} {R p gb gc : Nat} {col : Col} {c : PC} {fuel : Nat} {s : St} {A : List Int} {G : GG} (h : RI w w0 R p gb gc col c fuel s A G) : w.cell? ⟨R, 0, Option.none⟩ = some (.slice c.ga c.gl.length c.gc) ∧ w.cell? ⟨R, 1, Option.none⟩ = some (.slice c.na c.ini.length c.nc) ∧ w.cell? ⟨R, 2, Option.none⟩ = some (.slice c.fa c.fns.length c.fc) := by
  obtain ⟨tv, av, h1, -⟩ := h.run
  exact ⟨Me.cell_of_block h1 0, Me.cell_of_block h1 1, Me.cell_of_block h1 2⟩

def glS (c : PC) (i : Nat) : St := ⟨0, [], (c.gl.take i).map Int.toNat, glF (c.ini.take i)⟩
/-- The globals that there are so far. -/
structure GS (w wr w0 : World) (R p gb gc : Nat) (col col' : Col) (c : PC) (fuel : Nat) (G : GG) (i : Nat) : Prop where
  ri : RI wr w0 R p gb gc col' c fuel (glS c i) [] G
  ex : Ex col w col' wr
  me : ∃ bl m, (∀ b, bl b → col' b = some .me) ∧ m ≤ i ∧ Me.MI wr w0.heap.size bl p m (glS c i).bs (glS c i).f (((glS c i).bs.sum : Nat) : Int)

theorem roomL_take : ∀ (l : List Int) (b : Int), roomL b l = true → ∀ i x, l[i]? = some x → x ≤ b - ((((l.take i).map Int.toNat).sum : Nat) : Int)
  | [], b, _, i, x, hx => by simp at hx
  | y :: l, b, h, 0, x, hx => by
    simp [roomL] at h hx
    subst hx
    simp; omega
  | y :: l, b, h, i + 1, x, hx => by
    simp [roomL] at h
    have := roomL_take l (b - y) h.2 i x (by simpa using hx)
    rw [List.take_succ_cons, List.map_cons, List.sum_cons]
    omega
theorem glF_step {ini : List Int} {i : Nat} {v : Int} (h : ini[i]? = some v) : Me.upd (glF (ini.take i)) (i : Int) 0 v = glF (ini.take (i + 1)) := by
  have hl := (List.getElem?_eq_some_iff.1 h).1
  funext a b
  simp only [Me.upd, glF]
  by_cases e : a = (i : Int) ∧ b = 0
  · rw [if_pos e, if_pos ⟨by omega, e.2⟩, e.1, Int.toNat_natCast, List.getD_eq_getElem?_getD, List.getElem?_take_of_lt (by omega), h]; rfl
  · rw [if_neg e]
    by_cases e2 : 0 ≤ a ∧ b = 0
    · rw [if_pos e2, if_pos e2, List.getD_eq_getElem?_getD, List.getD_eq_getElem?_getD]
      by_cases h3 : a.toNat < i
      · rw [List.getElem?_take_of_lt h3, List.getElem?_take_of_lt (by omega)]
      · have : a.toNat ≠ i := fun q => e ⟨by omega, e2.2⟩
        rw [List.getElem?_eq_none (by simp; omega), List.getElem?_eq_none (by simp; omega)]
    · rw [if_neg e2, if_neg e2]

/-- One global more: it is got. -/
theorem gs_alloc {w wr w0 : World} {R p gb gc : Nat} {col col' : Col} {c : PC} {fuel : Nat} {G : GG} {i : Nat} (h : GS w wr w0 R p gb gc col col' c fuel G i) (hr : roomL 65536 c.gl = true) {x : Int} (hx : c.gl[i]? = some x) :
    Calls Try.prog 44 #[.pointer (some ⟨p, 0, none⟩), .int .i64 x] wr fun e w' => e = .returned (.tuple #[.int .i64 (i : Int), .int .i64 0]) ∧ ∃ col2, RI w' w0 R p gb gc col2 c fuel { glS c i with bs := (glS c (i + 1)).bs } [] G ∧ Ex col w col2 w' ∧
      ∃ bl m, (∀ b, bl b → col2 b = some .me) ∧ m ≤ i ∧ Me.MI w' w0.heap.size bl p m (glS c (i + 1)).bs (glS c i).f (((glS c (i + 1)).bs.sum : Nat) : Int) := by
  obtain ⟨bl, m, b1, b2, b3⟩ := h.me
  have hsum := h.ri.sum
  have hl := (MemOk.bd h.ri).1
  have h1 := roomL_one _ _ hr x (List.mem_of_getElem? hx)
  have h2 := roomL_take _ _ hr i x hx
  have hil := (List.getElem?_eq_some_iff.1 hx).1
  have hlen : (glS c i).bs.length = i := by simp [glS]; omega
  have hbs : (glS c i).bs ++ [x.toNat] = (glS c (i + 1)).bs := by
    simp only [glS]
    rw [List.take_add_one, hx]
    simp
  have h65 : (i : Int) < 65536 := by have := roomL_len _ _ hr (by decide); omega
  have h3 : x ≤ 65536 - ((((glS c i).bs).sum : Nat) : Int) := h2
  have := Me.alloc_ok b3 (by omega) (by omega) x.toNat (by omega) hl
  rw [show ((x.toNat : Nat) : Int) = x by omega, hlen] at this
  refine this.mono ?_
  rintro e w' ⟨rfl, ⟨bl', d1, d2, d3⟩, d4⟩
  have hs2 : ((((glS c i).bs).sum : Nat) : Int) + x = ((((glS c i).bs ++ [x.toNat]).sum : Nat) : Int) := by simp; omega
  rw [hs2, hbs] at d3
  have hs3 : (glS c (i + 1)).bs.sum ≤ 65536 := by rw [← hbs]; simp; omega
  obtain ⟨col2, r1, r2, r3⟩ := h.ri.setM' (f := (glS c i).f) (bs := (glS c (i + 1)).bs) b1 d2 (by show m ≤ 0 + 70000; omega) d3 d4 hs3 (fun y hy => by
    rw [← hbs] at hy
    rcases List.mem_append.1 hy with q | q
    · exact h.ri.one y q
    · simp at q; omega)
  exact ⟨rfl, col2, r1, h.ex.trans r2, bl', m, r3, b2, d3⟩

end Go.Proofs.Ytcpgikgjolomcaa
