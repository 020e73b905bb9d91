/-
  Every call of a run; the globals of a run: contracts over the program; the conditions: a run lies there, and the code is right.
  The globals of a run are laid, and its outcome is told: contracts over the program; the conditions: a run lies there, and the code is right.
  The outcome of a run (outcome): a contract over the program; the conditions: a run lies there, and the code is right.
-/
import Derived.Test.YtaomkfhbnakbjaaKRmU
namespace Go.Proofs.Ytaomkfhbnakbjaa
open Go.RowKit
set_option linter.unusedVariables false

/-- Memory is changed, in its own blocks; whose they are. -/
theorem RI.setM' {w w' w0 : World} {R p gb gc : Nat} {col : Col} {c : PC} {fuel : Nat} {s : St} {A : List Int} {G : GG} (h : RI w w0 R p gb gc col c fuel s A G) {bl bl' : Nat → Prop} {m : Nat} {bs : List Nat} {f : Int → Int → Int} (hbl : ∀ b, bl b → col b = some .me) (h1 : ∀ b, bl' b → bl b ∨ w.heap.size ≤ b) (hm : m ≤ s.n + 70000) (hM : Me.MI w' w0.heap.size bl' p m bs f ((bs.sum : Nat) : Int)) (hF : Me.Fr bl w w') (hs : bs.sum ≤ 65536) (ho : ∀ x ∈ bs, 1 ≤ x) :
    ∃ col', RI w' w0 R p gb gc col' c fuel { s with bs := bs, f := f } A G ∧ Ex col w col' w' ∧ ∀ b, bl' b → col' b = some .me := by
  classical
  have hcol : ∀ b, b < w.heap.size → (fun b => if b < w.heap.size then col b else if bl' b then some Tg.me else Option.none) b = col b := fun b hb => by simp [hb]
  have kb : ∀ b τ, b < w.heap.size → col b = some τ → τ ≠ .me → w'.heap[b]? = w.heap[b]? := fun b τ hb e t1 => hF.block b hb (fun q => by rw [hbl b q] at e; exact t1 (Option.some.inj e).symm)
  have hme : ∀ b, bl' b → (fun b => if b < w.heap.size then col b else if bl' b then some Tg.me else Option.none) b = some .me := fun b hb => by
    by_cases hb' : b < w.heap.size
    · rcases h1 b hb with q | q
      · rw [hcol b hb']; exact hbl b q
      · omega
    · simp [hb', hb]
  have hB := h.bel.size
  refine ⟨_, ⟨⟨hF.os.trans h.bel.os, hF.tape.trans h.bel.tape, hF.output.trans h.bel.output, Nat.le_trans hB hF.size, fun b hb => ?_⟩, fun b τ e => ?_, (hcol R h.ltR).trans h.colR, (hcol gb h.ltg).trans h.colg,
    h.run.keep (kb R _ h.ltR h.colR (by intro q; cases q)) (fun b hb e => e.elim (fun e => kb b _ hb e (by intro q; cases q)) (fun e => kb b _ hb e (by intro q; cases q))) hcol, ⟨bl', m, hme, hm, hM⟩,
    h.regs.keep (kb gb _ h.ltg h.colg (by intro q; cases q)) (fun b k hb e => e.elim (fun e => kb b _ hb e (by intro q; cases q)) (fun e => kb b _ hb e (by intro q; cases q))) hcol, hs, ho, h.nle, h.trl, h.gw, h.al⟩,
    ⟨hF.os, hF.tape, hF.output, hF.size, fun b hb e => hF.block b hb (fun q => by rw [hbl b q] at e; cases e), hcol⟩, hme⟩
  · refine (hF.block b (by omega) (fun q => ?_)).trans (h.bel.block b hb)
    have := (h.lt b _ (hbl b q)).1; omega
  · by_cases hb : b < w.heap.size
    · rw [if_pos hb] at e
      have := h.lt b τ e
      have := hF.size
      omega
    · rw [if_neg hb] at e
      by_cases e1 : bl' b
      · exact hM.rng e1
      · rw [if_neg e1] at e; cases e

theorem call_all {w0 : World} {R p gb gc : Nat} {c : PC} {fuel : Nat} (hf : fuel ≤ 8388608) (hv : VC c w0) : ∀ g, CallC w0 R p gb gc c fuel (callR c fuel g) g
  | 0, j, f, hj, hf', W, col, s, A, G, hr, hid, hA => by omega
  | g + 1, j, f, hj, hfj, W, col, s, A, G, hr, hid, hA => by
    have ih := call_all (R := R) (p := p) (gb := gb) (gc := gc) hf hv g
    exact call_ri hr hf hv hfj hid hA (g := g) (fun i fi hi hfi => ih i fi (by omega) hfi)

theorem RI.c1 {w w0 : World} {R p gb gc : Nat} {col : Col} {c : PC} {fuel : Nat} {s : St} {A : List Int} {G : GG} (h : RI w w0 R p gb gc col c fuel s A G) : w.cell? ⟨R, 0, Option.none⟩ = some (.slice c.ga c.gl.length c.gc) ∧ w.cell? ⟨R, 1, Option.none⟩ = some (.slice c.na c.ini.length c.nc) ∧ w.cell? ⟨R, 2, Option.none⟩ = some (.slice c.fa c.fns.length c.fc) := by
  obtain ⟨tv, av, h1, -⟩ := h.run
  exact ⟨Me.cell_of_block h1 0, Me.cell_of_block h1 1, Me.cell_of_block h1 2⟩

def glS (c : PC) (i : Nat) : St := ⟨0, [], (c.gl.take i).map Int.toNat, glF (c.ini.take i)⟩
/-- The globals that there are so far. -/
structure GS (w wr w0 : World) (R p gb gc : Nat) (col col' : Col) (c : PC) (fuel : Nat) (G : GG) (i : Nat) : Prop where
  ri : RI wr w0 R p gb gc col' c fuel (glS c i) [] G
  ex : Ex col w col' wr
  me : ∃ bl m, (∀ b, bl b → col' b = some .me) ∧ m ≤ i ∧ Me.MI wr w0.heap.size bl p m (glS c i).bs (glS c i).f (((glS c i).bs.sum : Nat) : Int)

theorem roomL_take : ∀ (l : List Int) (b : Int), roomL b l = true → ∀ i x, l[i]? = some x → x ≤ b - ((((l.take i).map Int.toNat).sum : Nat) : Int)
  | [], b, _, i, x, hx => by simp at hx
  | y :: l, b, h, 0, x, hx => by
    simp [roomL] at h hx
    subst hx
    simp; omega
  | y :: l, b, h, i + 1, x, hx => by
    simp [roomL] at h
    have := roomL_take l (b - y) h.2 i x (by simpa using hx)
    rw [List.take_succ_cons, List.map_cons, List.sum_cons]
    omega
theorem glF_step {ini : List Int} {i : Nat} {v : Int} (h : ini[i]? = some v) : Me.upd (glF (ini.take i)) (i : Int) 0 v = glF (ini.take (i + 1)) := by
  have hl := (List.getElem?_eq_some_iff.1 h).1
  funext a b
  simp only [Me.upd, glF]
  by_cases e : a = (i : Int) ∧ b = 0
  · rw [if_pos e, if_pos ⟨by omega, e.2⟩, e.1, Int.toNat_natCast, List.getD_eq_getElem?_getD, List.getElem?_take_of_lt (by omega), h]; rfl
  · rw [if_neg e]
    by_cases e2 : 0 ≤ a ∧ b = 0
    · rw [if_pos e2, if_pos e2, List.getD_eq_getElem?_getD, List.getD_eq_getElem?_getD]
      by_cases h3 : a.toNat < i
      · rw [List.getElem?_take_of_lt h3, List.getElem?_take_of_lt (by omega)]
      · have : a.toNat ≠ i := fun q => e ⟨by omega, e2.2⟩
        rw [List.getElem?_eq_none (by simp; omega), List.getElem?_eq_none (by simp; omega)]
    · rw [if_neg e2, if_neg e2]

/-- One global more: it is got. -/
theorem gs_alloc {w wr w0 : World} {R p gb gc : Nat} {col col' : Col} {c : PC} {fuel : Nat} {G : GG} {i : Nat} (h : GS w wr w0 R p gb gc col col' c fuel G i) (hr : roomL 65536 c.gl = true) {x : Int} (hx : c.gl[i]? = some x) :
    Calls Try.prog 79 #[.pointer (some ⟨p, 0, none⟩), .int .i64 x] wr fun e w' => e = .returned (.tuple #[.int .i64 (i : Int), .int .i64 0]) ∧ ∃ col2, RI w' w0 R p gb gc col2 c fuel { glS c i with bs := (glS c (i + 1)).bs } [] G ∧ Ex col w col2 w' ∧
      ∃ bl m, (∀ b, bl b → col2 b = some .me) ∧ m ≤ i ∧ Me.MI w' w0.heap.size bl p m (glS c (i + 1)).bs (glS c i).f (((glS c (i + 1)).bs.sum : Nat) : Int) := by
  obtain ⟨bl, m, b1, b2, b3⟩ := h.me
  have hsum := h.ri.sum
  have hl := (MemOk.bd h.ri).1
  have h1 := roomL_one _ _ hr x (List.mem_of_getElem? hx)
  have h2 := roomL_take _ _ hr i x hx
  have hil := (List.getElem?_eq_some_iff.1 hx).1
  have hlen : (glS c i).bs.length = i := by simp [glS]; omega
  have hbs : (glS c i).bs ++ [x.toNat] = (glS c (i + 1)).bs := by
    simp only [glS]
    rw [List.take_add_one, hx]
    simp
  have h65 : (i : Int) < 65536 := by have := roomL_len _ _ hr (by decide); omega
  have h3 : x ≤ 65536 - ((((glS c i).bs).sum : Nat) : Int) := h2
  have := Me.alloc_ok b3 (by omega) (by omega) x.toNat (by omega) hl
  rw [show ((x.toNat : Nat) : Int) = x by omega, hlen] at this
  refine this.mono ?_
  rintro e w' ⟨rfl, ⟨bl', d1, d2, d3⟩, d4⟩
  have hs2 : ((((glS c i).bs).sum : Nat) : Int) + x = ((((glS c i).bs ++ [x.toNat]).sum : Nat) : Int) := by simp; omega
  rw [hs2, hbs] at d3
  have hs3 : (glS c (i + 1)).bs.sum ≤ 65536 := by rw [← hbs]; simp; omega
  obtain ⟨col2, r1, r2, r3⟩ := h.ri.setM' (f := (glS c i).f) (bs := (glS c (i + 1)).bs) b1 d2 (by show m ≤ 0 + 70000; omega) d3 d4 hs3 (fun y hy => by
    rw [← hbs] at hy
    rcases List.mem_append.1 hy with q | q
    · exact h.ri.one y q
    · simp at q; omega)
  exact ⟨rfl, col2, r1, h.ex.trans r2, bl', m, r3, b2, d3⟩

end Go.Proofs.Ytaomkfhbnakbjaa

namespace Go.Proofs.Ytaomkfhbnakbjaa
open Go.RowKit
set_option linter.unusedVariables false

/-- .. and has its first number. -/
theorem gs_store {w wr w0 : World} {R p gb gc : Nat} {col col2 : Col} {c : PC} {fuel : Nat} {G : GG} {i : Nat} (hr : roomL 65536 c.gl = true) {x v : Int} (hx : c.gl[i]? = some x) (hv : c.ini[i]? = some v) (a1 : RI wr w0 R p gb gc col2 c fuel { glS c i with bs := (glS c (i + 1)).bs } [] G) (a2 : Ex col w col2 wr)
    (a3 : ∃ bl m, (∀ b, bl b → col2 b = some .me) ∧ m ≤ i ∧ Me.MI wr w0.heap.size bl p m (glS c (i + 1)).bs (glS c i).f (((glS c (i + 1)).bs.sum : Nat) : Int)) :
    Calls Try.prog 80 #[.pointer (some ⟨p, 0, none⟩), .agg #[.int .i64 (i : Int), .int .i64 0], .int .i64 v] wr fun e w' => e = .returned (.int .i64 0) ∧ ∃ col', GS w w' w0 R p gb gc col col' c fuel G (i + 1) := by
  obtain ⟨bl, m, b1, b2, b3⟩ := a3
  have hbd := MemOk.bd a1
  have h65 : (i : Int) < 65536 := by have := roomL_len _ _ hr (by decide); have := (List.getElem?_eq_some_iff.1 hx).1; omega
  have h1 := roomL_one _ _ hr x (List.mem_of_getElem? hx)
  have hin : Me.inB (glS c (i + 1)).bs (i : Int) 0 = true := Me.inB_iff.2 ⟨i, 0, x.toNat, rfl, rfl, by
    simp only [glS]
    rw [List.getElem?_map, List.getElem?_take_of_lt (by omega), hx]
    rfl, by omega⟩
  refine (Me.store_ok b3 (i : Int) 0 v hbd.1 hbd.2 (by omega) hin).mono ?_
  rintro e w' ⟨rfl, ⟨bl', d1, d2, d3⟩, d4⟩
  rw [show Me.upd (glS c i).f (i : Int) 0 v = (glS c (i + 1)).f from glF_step hv] at d3
  obtain ⟨col', r1, r2, r3⟩ := a1.setM' (f := (glS c (i + 1)).f) (bs := (glS c (i + 1)).bs) b1 d2 (by show m + 1 ≤ 0 + 70000; omega) d3 d4 a1.sum a1.one
  exact ⟨rfl, col', r1, a2.trans r2, bl', m + 1, r3, by omega, d3⟩

set_option maxRecDepth 100000 in
set_option maxHeartbeats 2000000 in
theorem globals_ri {w w0 : World} {R p gb gc : Nat} {col : Col} {c : PC} {fuel : Nat} {G : GG} (h : GS w w w0 R p gb gc col col c fuel G 0) (hok : c.ok w0) (hr : roomL 65536 c.gl = true) (hli : c.ini.length = c.gl.length) :
    Calls Try.prog 58 #[.pointer (some ⟨R, 0, none⟩)] w fun e w' => e = .returned (.tuple #[]) ∧ ∃ col', GS w w' w0 R p gb gc col col' c fuel G c.gl.length := by
  obtain ⟨c0, -, -⟩ := h.ri.c1
  have hlen : c.gl.length ≤ 9223372036854775807 := hok.gsok.len
  obtain ⟨ga, hga⟩ : ∃ ga, c.ga = ga := ⟨_, rfl⟩
  rw [hga] at c0
  have HGA := hideIt hga
  have HOK := hideIt hok
  have HR := hideIt hr
  have HLI := hideIt hli
  have H0 := hideIt h
  clear h hok hr hga
  go_enter Try.func58, Try.ntmps58
  go_wp2_with (fail)
  go_loopw [12] (fun o wr => ∃ (i : Nat) (col' : Col), o = .int .i64 i ∧ i ≤ c.gl.length ∧ Hid (GS w wr w0 R p gb gc col col' c fuel G i)) (fun o _ => c.gl.length - (intOf o).toNat)
  case atStart => exact ⟨0, col, rfl, Nat.zero_le _, H0⟩
  case round =>
    obtain ⟨i, col', rfl, hi, GI⟩ := hrel
    clear H0 c0
    by_cases hic : i < c.gl.length
    · obtain ⟨x, hx⟩ := get_of_lt hic
      obtain ⟨v, hv⟩ := get_of_lt (l := c.ini) (k := i) (by omega)
      obtain ⟨b1, o1, e1, g1, -⟩ := HOK.out.gl i x hx
      obtain ⟨b2, o2, e2, g2, -⟩ := HOK.out.ini i v hv
      rw [HGA.out] at e1
      subst e1
      rw [Nat.mul_one] at g1 g2
      have bel := GI.out.ri.bel
      have t1 : wr.cell? ⟨b1, o1 + i, none⟩ = some (.int .i64 x) := (bel.cell (p := ⟨b1, o1 + i, none⟩) (World.block_lt_of_cell? w0 _ g1)).trans g1
      have r6 := GI.out.ri.c3.2.2.2
      have AL := hideIt (gs_alloc GI.out HR.out hx)
      have ST := hideIt (fun (y : World) (col2 : Col) => gs_store (wr := y) (w := w) (col := col) (col2 := col2) (G := G) (R := R) (p := p) (gb := gb) (gc := gc) (fuel := fuel) (w0 := w0) HR.out hx hv)
      have hil : (i : Int) < (c.ini.length : Int) := by omega
      have hnl : c.ini.length ≤ 9223372036854775807 := by omega
      have k1 : decide ((i : Int) < (c.gl.length : Int)) = true := by simp; omega
      have k2 : (i : Int) < (c.gl.length : Int) := by omega
      have k3 : IntKind.i64.wrap ((i : Int) + 1) = (i : Int) + 1 := by rw [IntKind.wrap_i64]; omega
      have CF := hideIt (show ∀ (y : World) (col2 : Col) (s2 : St) (A2 : List Int), RI y w0 R p gb gc col2 c fuel s2 A2 G → y.cell? ⟨R, 6, none⟩ = some (.pointer (some ⟨p, 0, none⟩)) ∧ y.cell? ⟨R, 1, none⟩ = some (.slice (some ⟨b2, o2, none⟩) c.ini.length c.nc) ∧ y.cell? ⟨b2, o2 + i, none⟩ = some (.int .i64 v) from fun y col2 s2 A2 hy => ⟨hy.c3.2.2.2, by rw [← e2]; exact hy.c1.2.1, (hy.bel.cell (p := ⟨b2, o2 + i, none⟩) (World.block_lt_of_cell? w0 _ g2)).trans g2⟩)
      clear hx hv g1 g2 bel e2
      go_wp2_with (first | (go_at_call 79; refine AL.out.mono ?_; rintro e y ⟨rfl, col2, a1, a2, a3⟩; have AY := hideIt (And.intro a1 (And.intro a2 a3)); obtain ⟨y6, y1, yv⟩ := CF.out y col2 _ _ a1; clear a1 a2 a3 r6) | fail)
      have SY := hideIt (ST.out y.drew col2 (AY.out.1.keep (Q.refl y).drew) (AY.out.2.1.trans (Ex.q (Q.refl y).drew)) (by
        obtain ⟨bl, m, z1, z2, z3⟩ := AY.out.2.2
        exact ⟨bl, m, z1, z2, z3.below (Q.refl y).drew⟩))
      go_region_held3 (fun z : World => z.cell? ⟨R, 6, none⟩ = some (.pointer (some ⟨p, 0, none⟩)) ∧ z.cell? ⟨R, 1, none⟩ = some (.slice (some ⟨b2, o2, none⟩) c.ini.length c.nc) ∧ z.cell? ⟨b2, o2 + i, none⟩ = some (.int .i64 v)) (go_keep) (first | (go_at_call 80; refine SY.out.mono ?_; rintro e z ⟨rfl, col3, a1⟩; have GZ := hideIt a1; obtain ⟨s1, s2, s3⟩ := CF.out z col3 _ _ a1.ri; clear a1))
      all_goals go_wp2_with (fail)
      all_goals go_roundw
      all_goals first
        | exact ⟨i + 1, col3, by go_num, hic, GZ⟩
        | (simp [intOf]; omega)
    · have e1 : i = c.gl.length := by omega
      subst e1
      have k1 : decide ((c.gl.length : Int) < (c.gl.length : Int)) = false := by simp
      go_wp2_with (fail)
      go_end0
      exact ⟨rfl, col', GI.out⟩

end Go.Proofs.Ytaomkfhbnakbjaa

namespace Go.Proofs.Ytaomkfhbnakbjaa
open Go.RowKit
set_option linter.unusedVariables false

abbrev ocA (o : Oc) (tv : Value) : Array Value := #[.bool o.h, .int .i64 o.x, .int .u8 o.t, .bool o.sp, .int .i64 (o.n : Int), tv]
/-- An outcome as a value: its trace lies in a row of its own. -/
def OutPost (w0 : World) (B : Nat) (o : Oc) (v : Value) (w' : World) : Prop :=
  ∃ ta tc, v = .agg (ocA o (.slice ta o.tr.length tc)) ∧ w'.ownsRow B 2 1 (.slice ta o.tr.length tc) o.tr.length (rowI o.tr) ∧ Below w0.heap.size w0 w'

/-- What a call's end says of the outcome. -/
theorem out_call {w w0 : World} {R p gb gc : Nat} {col : Col} {c : PC} {fuel : Nat} {s : St} {G : GG} {k : Nat} {r : Rs Int} {e : Ending} {z : World} (h : CallPost w w0 R p gb gc col c fuel s G k r e z) :
    ∃ (v t : Int) (sp : Bool) (col' : Col) (A' : List Int) (G' : GG) (s' : St), e = .returned (.tuple #[.int .i64 v, .agg #[.int .u8 t, .bool sp]]) ∧ RI z w0 R p gb gc col' c fuel s' A' G' ∧ Ex col w col' z ∧ ((t = 0 ∧ sp = false ∧ ocP r = ⟨true, v, 0, false, s'.n, s'.tr⟩) ∨ ((t ≠ 0 ∨ sp = true) ∧ ocP r = ⟨false, 0, t, sp, s'.n, s'.tr⟩)) := by
  cases r with
  | ok v s' =>
    obtain ⟨rfl, col', A', G', a1, a2, -⟩ := h
    exact ⟨v, 0, false, col', A', G', s', rfl, a1, a2, Or.inl ⟨rfl, rfl, rfl⟩⟩
  | over t sp s' =>
    obtain ⟨rfl, hne, col', A', G', s'', a1, a2, -, a4, a5, -⟩ := h
    exact ⟨0, t, sp, col', A', G', s'', rfl, a1, a2, Or.inr ⟨hne, by simp [ocP, a4, a5]⟩⟩

abbrev bxO (w : World) : World := w.alloc (.cells #[.bool false, .int .i64 0, .int .u8 0, .bool false, .int .i64 0, .slice none 0 0] 31)

/-- What is somebody's is as it was. -/
structure SO (w0 z W : World) (col : Col) : Prop where
  blk : ∀ b τ, col b = some τ → W.heap[b]? = z.heap[b]?
  sz : z.heap.size ≤ W.heap.size
  bel : Below w0.heap.size w0 W
  lt : ∀ b τ, col b = some τ → b < z.heap.size
theorem SO.alloc {w0 z W : World} {col : Col} (h : SO w0 z W col) (o : Obj) : SO w0 z (W.alloc o) col :=
  ⟨fun b τ e => (Below.heap_alloc W o b (Nat.lt_of_lt_of_le (h.lt b τ e) h.sz)).trans (h.blk b τ e), by have := h.sz; simp; omega, Below.alloc h.bel h.bel.size o, h.lt⟩
theorem SO.drew {w0 z W : World} {col : Col} (h : SO w0 z W col) : SO w0 z W.drew col := ⟨h.blk, h.sz, Below.drew h.bel, h.lt⟩
theorem SO.set {w0 z W : World} {col : Col} (h : SO w0 z W col) {b : Nat} (hc : col b = none) (hB : w0.heap.size ≤ b) (j : Nat) (u : Value) : SO w0 z (W.setCell ⟨b, j, none⟩ u) col :=
  ⟨fun q τ e => (Below.heap_setCell W ⟨b, j, none⟩ u q (fun x => by rw [x, hc] at e; cases e)).trans (h.blk q τ e), by have := h.sz; simpa using this, Below.setCell h.bel hB u, h.lt⟩

set_option maxRecDepth 100000 in
set_option maxHeartbeats 4000000 in
theorem outcome_ri {w w0 : World} {R p gb gc : Nat} {col : Col} {c : PC} {fuel : Nat} {G : GG} (h : GS w w w0 R p gb gc col col c fuel G 0) (hf : fuel ≤ 8388608) (hv : VC c w0) (hr : roomL 65536 c.gl = true) (hli : c.ini.length = c.gl.length) (hid : idles c c.fns.length G) {f : PF} (hk : c.fns[c.fns.length - 1]? = some f) (hp : f.params = 0) :
    Calls Try.prog 32 #[.pointer (some ⟨R, 0, none⟩)] w fun e w' => ∃ v, e = .returned v ∧ OutPost w0 w0.heap.size (ocP (runP c fuel)) v w' := by
  have hkl := (List.getElem?_eq_some_iff.1 hk).1
  have HG := hideIt (globals_ri (w := bxO w) (col := col) (c := c) (G := G) (R := R) (p := p) (gb := gb) (gc := gc) (fuel := fuel) (w0 := w0) ⟨h.ri.alloc _, Ex.refl _ _, by obtain ⟨bl, m, z1, z2, z3⟩ := h.me; exact ⟨bl, m, z1, z2, z3.below ((Q.refl w).alloc _)⟩⟩ hv.ok hr hli)
  have hgs : glS c c.gl.length = start c := by
    unfold glS start
    rw [List.take_length, ← hli, List.take_length]
  have CL := hideIt (fun (y : World) (col2 : Col) (hy : RI y w0 R p gb gc col2 c fuel (start c) [] G) => call_all hf hv c.fns.length (c.fns.length - 1) f (by omega) hk y col2 (start c) [] G hy (fun j fj hj hfj => hid j fj (by omega) hfj) (by rw [hp]; rfl))
  have hn : ((c.fns.length - 1 : Nat) : Int) = (c.fns.length : Int) - 1 := by omega
  rw [hn] at CL
  have hfl : c.fns.length ≤ 9223372036854775807 := hv.ok.fsok.len
  have hn0 : col w.heap.size = none := h.ri.none (Nat.le_refl _)
  have hlw := h.ri.lew
  have HGS := hideIt hgs
  have N0 := hideIt hn0
  have LW := hideIt hlw
  have FIN := hideIt (show ∀ (W z : World) (col' : Col) (s' : St) (o : Oc) (ta : Option Addr) (tc : Nat), z.ownsRow w0.heap.size 2 1 (.slice ta s'.tr.length tc) s'.tr.length (rowI s'.tr) → (∀ b, (Value.slice ta s'.tr.length tc).ownBlock = some b → col' b = some .tr) → o.tr = s'.tr → ocP (runP c fuel) = o → SO w0 z W col' → OutPost w0 w0.heap.size (ocP (runP c fuel)) (.agg (ocA o (.slice ta s'.tr.length tc))) W from fun W z col' s' o ta tc h2 h4 ho hoc hW => by
    rw [hoc]
    refine ⟨ta, tc, by rw [ho], ?_, hW.bel⟩
    rw [ho]
    exact row_keep h2 (fun b hb => hW.blk b _ (h4 b hb)))
  have RP := hideIt (show runP c fuel = callR c fuel c.fns.length (c.fns.length - 1) [] (start c) from rfl)
  generalize hOO : w.heap.size = O at *
  clear h hf hv hr hli hid hk hp hgs hn0 hlw hn
  go_enter Try.func32, Try.ntmps32
  go_wp2_with (first
    | (go_at_call 58; refine HG.out.mono ?_; rintro e y ⟨rfl, col2, g1⟩; have GR := g1.ri; rw [HGS.out] at GR; have CY := hideIt (CL.out y col2 GR); have y2 := GR.c1.2.2; have b1 := Ex.blk g1.ex N0.out (by rw [← hOO]; exact heap_alloc_new w _); have NY := hideIt ((g1.ex.col O (by rw [← hOO]; simp)).trans N0.out); have B1 := hideIt b1; clear g1 GR b1)
    | (go_at_call 59; refine CY.out.mono ?_; intro e z hz; obtain ⟨v, t, sp, col3, A3, G3, s3, rfl, a1, a2, a3⟩ := out_call hz; have b1 := Ex.blk a2 NY.out B1.out; have NZ := hideIt ((a2.col O (Array.getElem?_eq_some_iff.1 B1.out).1).trans NY.out); have HZ := hideIt (And.intro a1 (And.intro a3 b1)); clear hz a1 a2 a3 b1)
    | fail)
  obtain ⟨hri, hoc, hb1⟩ := HZ.out
  obtain ⟨tv, av, z1, z2, -, z4, -⟩ := hri.run
  obtain ⟨ta, tc, ez, -, -⟩ := Me.ownsRow_form z2
  subst ez
  have S0 := hideIt (show SO w0 z z col3 from ⟨fun _ _ _ => rfl, Nat.le_refl _, hri.bel, fun b τ e => (hri.lt b τ e).2⟩)
  have NB := hideIt (show ∀ b, z.heap.size ≤ b → col3 b = none ∧ w0.heap.size ≤ b from fun b hb => ⟨hri.none hb, Nat.le_trans hri.lew hb⟩)
  have Z2 := hideIt z2
  have Z4 := hideIt z4
  rw [← RP.out] at hoc
  have r4 := Me.cell_of_block z1 4
  have r5 := Me.cell_of_block z1 5
  have r4' := fun ob => Me.cell_box r4 ob
  have r5' := fun ob => Me.cell_box r5 ob
  have r4'' := fun ob ob2 => Me.cell_box (r4' ob) ob2
  have r5'' := fun ob ob2 => Me.cell_box (r5' ob) ob2
  have LO := hideIt (show w0.heap.size ≤ O from LW.out)
  have hOz : O < z.heap.size := (Array.getElem?_eq_some_iff.1 hb1).1
  have oc0 : ∀ j : Nat, z.cell? ⟨O, j, none⟩ = _ := fun j => Me.cell_of_block hb1 j
  have of0 : ∀ j : Nat, z.frozen? ⟨O, j, none⟩ = false := fun j => Me.free_of_block hb1 j
  rcases hoc with ⟨rfl, rfl, hoc⟩ | ⟨hne, hoc⟩
  · have HOC := hideIt hoc
    clear hri z1 z2 z4 hoc y2
    go_region
    go_wp2_with (fail)
    exact bodyPost_ret (v := .agg #[.bool true, .int .i64 v, .int .u8 0, .bool false, .int .i64 (s3.n : Int), .slice ta s3.tr.length tc]) (by simp [results, Try.results32, go_sem, oc0, hOz, World.cell?_alloc_past]) rfl ⟨_, rfl, FIN.out _ z col3 s3 ⟨true, v, 0, false, s3.n, s3.tr⟩ ta tc Z2.out Z4.out rfl HOC.out (((((((((S0.out.set NZ.out LO.out _ _).set NZ.out LO.out _ _).set NZ.out LO.out _ _).set NZ.out LO.out _ _).set NZ.out LO.out _ _).set NZ.out LO.out _ _).alloc _).alloc _).drew)⟩
  · by_cases ht : t = 0
    · subst ht
      cases sp
      · exact absurd hne (by simp)
      · have HOC := hideIt hoc
        clear hri z1 z2 z4 hoc y2 hne
        go_region
        go_wp2_with (fail)
        exact bodyPost_ret (v := .agg #[.bool false, .int .i64 0, .int .u8 0, .bool true, .int .i64 (s3.n : Int), .slice ta s3.tr.length tc]) (by simp [results, Try.results32, go_sem, oc0, hOz, World.cell?_alloc_past]) rfl ⟨_, rfl, FIN.out _ z col3 s3 ⟨false, 0, 0, true, s3.n, s3.tr⟩ ta tc Z2.out Z4.out rfl HOC.out (((((((((S0.out.set NZ.out LO.out _ _).set NZ.out LO.out _ _).set NZ.out LO.out _ _).set NZ.out LO.out _ _).set NZ.out LO.out _ _).set NZ.out LO.out _ _).alloc _).alloc _).drew)⟩
    · have HOC := hideIt hoc
      have ht1 : (t == 0) = false := by simpa using ht
      have ht2 : decide (t = 0) = false := by simpa using ht
      clear hri z1 z2 z4 hoc y2 hne
      go_region
      go_wp2_with (fail)
      exact bodyPost_ret (v := .agg #[.bool false, .int .i64 0, .int .u8 t, .bool sp, .int .i64 (s3.n : Int), .slice ta s3.tr.length tc]) (by simp [results, Try.results32, go_sem, oc0, hOz, World.cell?_alloc_past]) rfl ⟨_, rfl, FIN.out _ z col3 s3 ⟨false, 0, t, sp, s3.n, s3.tr⟩ ta tc Z2.out Z4.out rfl HOC.out (((((((((S0.out.set NZ.out LO.out _ _).set NZ.out LO.out _ _).set NZ.out LO.out _ _).set NZ.out LO.out _ _).set NZ.out LO.out _ _).set NZ.out LO.out _ _).alloc _).alloc _).drew)⟩

end Go.Proofs.Ytaomkfhbnakbjaa
