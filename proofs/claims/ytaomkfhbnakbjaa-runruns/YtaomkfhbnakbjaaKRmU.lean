/-
  A call of a run, the walk: a contract over the program; the conditions: a run lies there, the code is right, and the functions ahead keep their contract.
-/
import Derived.Test.YtaomkfhbnakbjaaKRmT
namespace Go.Proofs.Ytaomkfhbnakbjaa
open Go.RowKit
set_option linter.unusedVariables false

/-- What right code is, of its functions. -/
structure VC (c : PC) (w0 : World) : Prop where
  ok : c.ok w0
  fn : ∀ (k : Nat) (f : PF), c.fns[k]? = some f → fnP c k f = true
  gl : c.gl.length ≤ 65536
theorem VC.hd {c : PC} {w0 : World} (h : VC c w0) {k : Nat} {f : PF} (hk : c.fns[k]? = some f) : 0 ≤ f.params ∧ f.params ≤ 20000 ∧ f.regs ≤ 20000 ∧ f.slots.length ≤ 65536 ∧ ∀ x ∈ f.slots, 1 ≤ x := by
  have := h.fn k f hk
  unfold fnP at this
  simp only [Bool.and_eq_true] at this
  obtain ⟨a1, a2, a3, -, a5⟩ := headP_iff this.1
  simp at a1 a2 a3
  have := roomL_len f.slots 65536 a5 (by decide)
  exact ⟨by omega, by omega, by omega, by omega, roomL_one _ _ a5⟩

/-- A call behind its slots. -/
def afterA (c : PC) (fuel g : Nat) (f : PF) (A : List Int) (s : St) : Option (List Nat) → Rs Int
  | none => .over 5 false s
  | some bs' => match partsR (callR c fuel g) fuel s.bs.length f (fuel + 1) 0 (argR A) { s with bs := bs' } with
    | .ok v s2 => .ok v { s2 with bs := s2.bs.take s.bs.length, f := Me.keepf s2.f s.bs.length }
    | .over t sp s2 => .over t sp s2
theorem callR_succ {c : PC} {fuel g k : Nat} {f : PF} (hk : c.fns[k]? = some f) (A : List Int) (s : St) : callR c fuel (g + 1) k A s = afterA c fuel g f A s (allocs f.slots s.bs) := by
  conv => lhs; unfold callR
  rw [hk]
  dsimp only
  cases allocs f.slots s.bs <;> rfl

/-- What holds while a call is made: O: the box of the answer, Cb: the call's own struct. -/
structure CS (w Y w0 : World) (R p gb gc : Nat) (col col' : Col) (c : PC) (fuel : Nat) (s' : St) (A : List Int) (G : GG) (Cb k fb fo first O : Nat) : Prop where
  ri : RI Y w0 R p gb gc col' c fuel s' A G
  ex : Ex col w col' Y
  cb : CB Y Cb gb k fb fo first
  nC : col' Cb = none
  n5 : col' O = none
  b5 : Y.heap[O]? = some (.cells #[.int .u8 0, .bool false] 105 (0, 0))
  l5 : w.heap.size ≤ O
  lw : w0.heap.size ≤ w.heap.size
theorem CS.step {w Y Y' w0 : World} {R p gb gc : Nat} {col col' col2 : Col} {c : PC} {fuel : Nat} {s' s2 : St} {A A2 : List Int} {G G2 : GG} {Cb k fb fo first O : Nat} (h : CS w Y w0 R p gb gc col col' c fuel s' A G Cb k fb fo first O) (a1 : RI Y' w0 R p gb gc col2 c fuel s2 A2 G2) (a2 : Ex col' Y col2 Y') : CS w Y' w0 R p gb gc col col2 c fuel s2 A2 G2 Cb k fb fo first O :=
  ⟨a1, h.ex.trans a2, h.cb.ex h.nC a2, (a2.col Cb (World.block_lt_of_cell? Y _ h.cb.c0)).trans h.nC, (a2.col O (Array.getElem?_eq_some_iff.1 h.b5).1).trans h.n5, Ex.blk a2 h.n5 h.b5, h.l5, h.lw⟩
theorem CS.q {w Y Y' w0 : World} {R p gb gc : Nat} {col col' : Col} {c : PC} {fuel : Nat} {s' : St} {A : List Int} {G : GG} {Cb k fb fo first O : Nat} (h : CS w Y w0 R p gb gc col col' c fuel s' A G Cb k fb fo first O) (hq : Q Y Y') : CS w Y' w0 R p gb gc col col' c fuel s' A G Cb k fb fo first O := h.step (h.ri.keep hq) (Ex.q hq)
/-- The answer is laid into its box. -/
theorem CS.fin {w Y w0 : World} {R p gb gc : Nat} {col col' : Col} {c : PC} {fuel : Nat} {s' : St} {A : List Int} {G : GG} {Cb k fb fo first O : Nat} (h : CS w Y w0 R p gb gc col col' c fuel s' A G Cb k fb fo first O) (u v : Value) : RI ((Y.setCell ⟨O, 0, none⟩ u).setCell ⟨O, 1, none⟩ v) w0 R p gb gc col' c fuel s' A G ∧ Ex col w col' ((Y.setCell ⟨O, 0, none⟩ u).setCell ⟨O, 1, none⟩ v) :=
  ⟨(h.ri.other h.n5 (Nat.le_trans h.lw h.l5) _ _).other h.n5 (Nat.le_trans h.lw h.l5) _ _, (h.ex.set (Or.inr h.l5) _).set (Or.inr h.l5) _⟩
theorem CS.cells {w Y w0 : World} {R p gb gc : Nat} {col col' : Col} {c : PC} {fuel : Nat} {s' : St} {A : List Int} {G : GG} {Cb k fb fo first O : Nat} (h : CS w Y w0 R p gb gc col col' c fuel s' A G Cb k fb fo first O) : Y.cell? ⟨O, 0, none⟩ = some (.int .u8 0) ∧ Y.cell? ⟨O, 1, none⟩ = some (.bool false) ∧ Y.frozen? ⟨O, 0, none⟩ = false ∧ Y.frozen? ⟨O, 1, none⟩ = false :=
  ⟨Me.cell_of_block h.b5 0, Me.cell_of_block h.b5 1, Me.free_of_block h.b5 0, Me.free_of_block h.b5 1⟩

/-- The parts of a call, and what the call's end leaves. -/
theorem call_parts {w wr w0 : World} {R p gb gc : Nat} {col col1 : Col} {c : PC} {fuel : Nat} {s : St} {A : List Int} {G : GG} {k : Nat} {f : PF} {g : Nat} {Cb fb fo O : Nat} {bs1 : List Nat} {ans : Rs Int} (CC : CS w wr w0 R p gb gc col col1 c fuel { s with bs := bs1 } A G Cb k fb fo s.bs.length O)
    (HV : fuel ≤ 8388608 ∧ c.fns[k]? = some f ∧ idles c (k + 1) G ∧ (A.length : Int) = f.params ∧ f.regs ≤ 20000) (hb1 : s.bs.length ≤ bs1.length) (han : afterA c fuel g f A s (some bs1) = ans)
    (PT : ∀ (Y : World) (col1 : Col) (s1 : St) (A1 : List Int) (G1 : GG) (Cb : Nat), IA Y w0 R p gb gc col1 c fuel s1 A1 G1 k f (argR A) Cb fb fo s.bs.length → Calls Try.prog 83 #[.pointer (some ⟨R, 0, none⟩), .pointer (some ⟨Cb, 0, none⟩)] Y fun e w' => PrtPost Y w0 R p gb gc col1 c fuel s1 G1 k f (partsR (callR c fuel g) fuel s.bs.length f (fuel + 1) 0 (argR A) s1) e w')
    (y : World) (col2 : Col) (H' : List Int) (a1 : RI y w0 R p gb gc col2 c fuel { s with bs := bs1 } A (updG G k H' (G k).2)) (a2 : Ex col1 wr col2 y) (a3 : ∀ m, regAt H' m = if m < A.length then A.getD m 0 else regAt (G k).1 m) :
    Calls Try.prog 83 #[.pointer (some ⟨R, 0, none⟩), .pointer (some ⟨Cb, 0, none⟩)] y fun e z => ∃ (v t : Int) (sp : Bool) (s3 : St) (col3 : Col) (A3 : List Int) (G3 : GG), e = .returned (.tuple #[.int .i64 v, .agg #[.int .u8 t, .bool sp]]) ∧ CS w z w0 R p gb gc col col3 c fuel s3 A3 G3 Cb k fb fo s.bs.length O ∧ s.bs.length ≤ s3.bs.length ∧
      ∀ (W : World) (col5 : Col) (H5 : List Int), RI W w0 R p gb gc col5 c fuel { s3 with bs := s3.bs.take s.bs.length, f := Me.keepf s3.f s.bs.length } A3 (updG G3 k H5 []) → Ex col w col5 W → (∀ n : Nat, regAt H5 n = if (n : Int) ∈ (G3 k).2 then 0 else regAt (G3 k).1 n) → CallPost w w0 R p gb gc col c fuel s G k ans (.returned (.tuple #[.int .i64 v, .agg #[.int .u8 t, .bool sp]])) W := by
  obtain ⟨hf, hk, hid, hA, hrg⟩ := HV
  have C1 := CC.step a1 a2
  have hidk : idle f (G k) := hid k f (by omega) hk
  have hop := begin_opn hidk hA a3
  have hI : IA y w0 R p gb gc col2 c fuel { s with bs := bs1 } A (updG G k H' (G k).2) k f (argR A) Cb fb fo s.bs.length := ⟨a1, hf, hk, by rw [updG_at]; exact hop, idles_upd (fun j f hj hf => hid j f (by omega) hf) _ _, C1.cb, C1.nC, hb1, hrg⟩
  refine (PT y col2 _ A _ Cb hI).mono fun e z hz => ?_
  unfold afterA at han
  dsimp only at han
  cases hp : partsR (callR c fuel g) fuel s.bs.length f (fuel + 1) 0 (argR A) { s with bs := bs1 } with
  | ok v s2 =>
    rw [hp] at hz han
    obtain ⟨rfl, col3, A3, G3, ρ3, b1, b2, b3, b4, b5, b6⟩ := hz
    have b7 : s2.bs.length = bs1.length := b6
    refine ⟨v, 0, false, s2, col3, A3, G3, rfl, C1.step b1 b2, by omega, fun W col5 H5 d1 d2 d3 => ?_⟩
    rw [← han]
    refine ⟨rfl, col5, A3, _, d1, d2, fun j fj hj hfj => ?_, fun j hj => ?_, by simp; omega⟩
    · by_cases e : j = k
      · subst e
        rw [updG_at]
        rw [hk] at hfj
        obtain rfl := Option.some.inj hfj
        exact end_idle b3 d3
      · simp only [updG, e, if_false]
        exact b4 j fj (by omega) hfj
    · rw [updG_gt _ _ hj, b5 j hj, updG_gt _ _ hj]
  | over t sp s2 =>
    rw [hp] at hz han
    obtain ⟨rfl, hne, col3, A3, G3, s3, b1, b2, b5, b6, b7, b8⟩ := hz
    have b9 : bs1.length ≤ s3.bs.length := b8
    refine ⟨0, t, sp, s3, col3, A3, G3, rfl, C1.step b1 b2, by omega, fun W col5 H5 d1 d2 d3 => ?_⟩
    rw [← han]
    exact ⟨rfl, hne, col5, A3, _, _, d1, d2, fun j hj => by rw [updG_gt _ _ hj, b5 j hj, updG_gt _ _ hj], b6, b7, by simp; omega⟩

set_option maxRecDepth 100000 in
set_option maxHeartbeats 4000000 in
theorem call_ri {w w0 : World} {R p gb gc : Nat} {col : Col} {c : PC} {fuel : Nat} {s : St} {A : List Int} {G : GG} (h : RI w w0 R p gb gc col c fuel s A G) (hf : fuel ≤ 8388608) (hv : VC c w0) {k : Nat} {f : PF} (hk : c.fns[k]? = some f) (hid : idles c (k + 1) G) (hA : (A.length : Int) = f.params) {g : Nat} (hcc : CallC w0 R p gb gc c fuel (callR c fuel g) k) :
    Calls Try.prog 59 #[.pointer (some ⟨R, 0, none⟩), .int .i64 (k : Int)] w fun e w' => CallPost w w0 R p gb gc col c fuel s G k (callR c fuel (g + 1) k A s) e w' := by
  have hkl : k < c.fns.length := (List.getElem?_eq_some_iff.1 hk).1
  obtain ⟨fb, fo, efa, hfa, hfok⟩ := hv.ok.fns k f hk
  obtain ⟨tv, av, r1, -⟩ := h.run
  have r7 : w.cell? ⟨R, 7, none⟩ = some (.slice (some ⟨gb, 0, none⟩) c.fns.length gc) := Me.cell_of_block r1 7
  have r2 : w.cell? ⟨R, 2, none⟩ = some (.slice c.fa c.fns.length c.fc) := Me.cell_of_block r1 2
  rw [efa] at r2
  have r6 := h.c3.2.2.2
  have hnl : c.fns.length ≤ 9223372036854775807 := hv.ok.fsok.len
  have kl : (k : Int) < (c.fns.length : Int) := by omega
  have BK := hideIt (fun (W : World) (hW : Q w W) => (by
    obtain ⟨bl, m, b1, b2, b3⟩ := (h.keep hW).mem
    exact Me.blocks_any b3 : Calls Try.prog 81 #[.pointer (some ⟨p, 0, none⟩)] W fun e w' => e = .returned (.int .i64 s.bs.length) ∧ w' = W))
  have CF := hideIt (fun (W : World) (hW : Q w W) => (⟨cell_keep hW r7, cell_keep hW r2, cell_keep hW r6⟩ : W.cell? ⟨R, 7, none⟩ = some (.slice (some ⟨gb, 0, none⟩) c.fns.length gc) ∧ W.cell? ⟨R, 2, none⟩ = some (.slice (some ⟨fb, fo, none⟩) c.fns.length c.fc) ∧ W.cell? ⟨R, 6, none⟩ = some (.pointer (some ⟨p, 0, none⟩))))
  have H0 := hideIt (show ∀ (X Y : World) (Cb : Nat), X = w.alloc (.cells #[.int .u8 0, .bool false] 105) → Cb = X.heap.size → Y = (X.alloc (.cells #[.pointer (some ⟨gb, k * 2, none⟩), .pointer (some ⟨fb, fo + k * 4, none⟩), .int .i64 (s.bs.length : Int)] 136)).drew → CS w Y w0 R p gb gc col col c fuel s A G Cb k fb (fo + k * 4) s.bs.length w.heap.size from fun X Y Cb eX eC eY => by
    have hs : X.heap.size = w.heap.size + 1 := by rw [eX]; simp
    have hq1 : Q w X := by rw [eX]; exact (Q.refl w).alloc _
    have hq2 : Q X Y := by rw [eY]; exact ((Q.refl X).alloc _).drew
    have hb : Y.heap[Cb]? = some (.cells #[.pointer (some ⟨gb, k * 2, none⟩), .pointer (some ⟨fb, fo + k * 4, none⟩), .int .i64 (s.bs.length : Int)] 136 (0, 0)) := by rw [eY, eC]; exact heap_alloc_new X _
    refine ⟨h.keep (hq1.trans hq2), Ex.q (hq1.trans hq2), ⟨Me.cell_of_block hb 0, Me.cell_of_block hb 1, Me.cell_of_block hb 2⟩, h.none (by omega), h.none (Nat.le_refl _), ?_, Nat.le_refl _, h.lew⟩
    rw [hq2.block w.heap.size (by omega), eX]
    exact heap_alloc_new w _)
  obtain ⟨hp0, hp1, hrg, hsl, hs1⟩ := hv.hd hk
  obtain ⟨f0, f1, f2, f3⟩ := hfa.four
  have HF2 := hideIt f2
  have HFS := hideIt hfok.slots
  have hslen : f.slots.length ≤ 9223372036854775807 := by omega
  have HS1 := hideIt hs1
  have PT := hideIt (show ∀ (Y : World) (col1 : Col) (s1 : St) (A1 : List Int) (G1 : GG) (Cb : Nat), IA Y w0 R p gb gc col1 c fuel s1 A1 G1 k f (argR A) Cb fb (fo + k * 4) s.bs.length → Calls Try.prog 83 #[.pointer (some ⟨R, 0, none⟩), .pointer (some ⟨Cb, 0, none⟩)] Y fun e w' => PrtPost Y w0 R p gb gc col1 c fuel s1 G1 k f (partsR (callR c fuel g) fuel s.bs.length f (fuel + 1) 0 (argR A) s1) e w' from fun Y col1 s1 A1 G1 Cb hI => parts_ri hI hfa hfok hsl hv.gl (hv.fn k f hk) (callR_n c fuel g) (fun j g hj => (hv.hd hj).2.1) hcc)
  have HV := hideIt (And.intro hf (And.intro hk (And.intro hid (And.intro hA hrg))))
  obtain ⟨al, hal⟩ : ∃ al, allocs f.slots s.bs = al := ⟨_, rfl⟩
  obtain ⟨ans, hans⟩ : ∃ a, callR c fuel (g + 1) k A s = a := ⟨_, rfl⟩
  have HAN := hideIt (show afterA c fuel g f A s al = ans by rw [← hans, ← hal]; exact (callR_succ hk A s).symm)
  rw [hans]
  have HAL := hideIt hal
  have hbl := hideIt (MemOk.bd h).1
  have hbf := hideIt hf
  generalize hOO : w.heap.size = O at *
  go_enter Try.func59, Try.ntmps59
  go_wp2_with (fail)
  generalize hX : w.alloc _ = X
  have hq : Q w X := by rw [← hX]; exact (Q.refl w).alloc _
  obtain ⟨x7, x2, x6⟩ := CF.out X hq
  have x7' := fun ob => (CF.out (X.alloc ob) (hq.alloc ob)).1
  have x2' := fun ob => (CF.out (X.alloc ob) (hq.alloc ob)).2.1
  have x6' := fun ob => (CF.out (X.alloc ob) (hq.alloc ob)).2.2
  have hXs : O + 1 = X.heap.size := by rw [← hX]; simp [hOO]
  have BQ := hideIt (fun (W : World) (hW : Q w W) => (BK.out W hW).mono fun e w' (q : _ ∧ _) => (⟨q.1, by rw [q.2]; exact ⟨hW, CF.out W hW⟩⟩ : _ ∧ (Q w w' ∧ _)))
  have HX := hideIt hX
  clear r7 r2 r6 h hv hcc hX r1 hfa hfok hid hA hp0 hp1 hrg hsl hs1 f0 f1 f2 f3 hans hal efa hf hk
  go_region_held3 (fun y : World => Q w y ∧ y.cell? ⟨R, 7, none⟩ = some (.slice (some ⟨gb, 0, none⟩) c.fns.length gc) ∧ y.cell? ⟨R, 2, none⟩ = some (.slice (some ⟨fb, fo, none⟩) c.fns.length c.fc) ∧ y.cell? ⟨R, 6, none⟩ = some (.pointer (some ⟨p, 0, none⟩))) (first | exact ⟨hq.drew, CF.out _ hq.drew⟩ | exact ⟨Q.alloc (by first | assumption | exact hq.drew) _, CF.out _ (Q.alloc (by first | assumption | exact hq.drew) _)⟩ | exact ⟨(hq.alloc _).drew, CF.out _ (hq.alloc _).drew⟩ | (refine (fun q => ⟨q, CF.out _ q⟩) ?_; repeat (first | assumption | with_reducible exact hq | with_reducible refine Q.drew ?_ | with_reducible refine Q.alloc ?_ _ | (refine Q.set ?_ ?hh _; case hh => (show w.heap.size ≤ _; simp; omega)))) | go_keep) (first | (go_at_call 81; refine Calls.mono (BK.out _ (by first | assumption | exact hq.drew | exact (hq.alloc _).drew | exact Q.alloc (by first | assumption | exact hq.drew) _)) ?_; rintro e y ⟨rfl, rfl⟩))
  all_goals rename_i hHeld
  all_goals clear hHeld x7 x2 x6 x7' x2' x6'
  all_goals generalize hYe : (X.alloc (.cells #[.pointer (some ⟨gb, k * 2, none⟩), .pointer (some ⟨fb, fo + k * 4, none⟩), .int .i64 (s.bs.length : Int)] 136)).drew = Y
  all_goals have C0 := hideIt (H0.out X Y X.heap.size HX.out.symm rfl hYe.symm)
  all_goals clear H0 HX
  all_goals generalize X.heap.size = Cb at *
  all_goals clear hYe hq hXs
  all_goals have yc := C0.out.cb.c1
  all_goals have y2 : Y.cell? ⟨fb, fo + k * 4 + 2, none⟩ = some (.slice f.sa f.slots.length f.sc) := (C0.out.ri.bel.cell (p := ⟨fb, fo + k * 4 + 2, none⟩) (World.block_lt_of_cell? w0 _ HF2.out)).trans HF2.out
  all_goals obtain ⟨sa, hsa⟩ : ∃ sa, f.sa = sa := ⟨_, rfl⟩
  all_goals rw [hsa] at y2
  all_goals have HSA := hideIt hsa
  all_goals clear hsa
  all_goals go_wp2_with (fail)
  all_goals clear yc y2
  all_goals
    go_loopw [38] (fun o wr => ∃ (i : Nat) (bs1 : List Nat) (col1 : Col), o = .int .i64 i ∧ i ≤ f.slots.length ∧ Hid (allocs (f.slots.drop i) bs1 = al) ∧ s.bs.length ≤ bs1.length ∧ Hid (CS w wr w0 R p gb gc col col1 c fuel { s with bs := bs1 } A G Cb k fb (fo + k * 4) s.bs.length O)) (fun o _ => f.slots.length - (intOf o).toNat)
    case atStart => exact ⟨0, s.bs, col, rfl, Nat.zero_le _, by rw [List.drop_zero]; exact HAL, Nat.le_refl _, C0⟩
    case round =>
      obtain ⟨i, bs1, col1, rfl, hi, EA, hb1, CC⟩ := hrel
      have r6 := CC.out.ri.c3.2.2.2
      clear C0 HAL
      by_cases hic : i < f.slots.length
      · obtain ⟨x, hx⟩ := get_of_lt hic
        obtain ⟨sb, so, esa, hsx, -⟩ := HFS.out i x hx
        rw [HSA.out] at esa
        subst esa
        rw [Nat.mul_one] at hsx
        have sx : wr.cell? ⟨sb, so + i, none⟩ = some (.int .i64 x) := (CC.out.ri.bel.cell (p := ⟨sb, so + i, none⟩) (World.block_lt_of_cell? w0 _ hsx)).trans hsx
        have hx1 := HS1.out x (List.mem_of_getElem? hx)
        have ED := hideIt (allocs_drop hx bs1)
        have k1 : decide ((i : Int) < (f.slots.length : Int)) = true := by simp; omega
        have k2 : (i : Int) < (f.slots.length : Int) := by omega
        have k3 : IntKind.i64.wrap ((i : Int) + 1) = (i : Int) + 1 := by rw [IntKind.wrap_i64]; omega
        clear hx hsx
        by_cases hb : 65536 - ((bs1.sum : Nat) : Int) < x
        · have AB := hideIt (alloc_bad CC.out.ri x hx1 hb)
          have FO := hideIt (show ∀ W, W = ((wr.setCell ⟨O, 0, none⟩ (.int .u8 5)).setCell ⟨O, 1, none⟩ (.bool false)) → CallPost w w0 R p gb gc col c fuel s G k ans (.returned (.tuple #[.int .i64 0, .agg #[.int .u8 5, .bool false]])) W from fun W hW => by
            have h1 := EA.out
            rw [ED.out, if_pos hb] at h1
            have h2 := HAN.out
            rw [← h1] at h2
            rw [← h2, hW]
            obtain ⟨a1, a2⟩ := CC.out.fin (.int .u8 5) (.bool false)
            exact ⟨rfl, Or.inl (by decide), col1, A, G, _, a1, a2, fun _ _ => rfl, rfl, rfl, hb1⟩)
          obtain ⟨v0, v1, v2, v3⟩ := CC.out.cells
          clear hb
          go_wp2_with (first | (go_at_call 79; refine AB.out.mono ?_; rintro e y ⟨rfl, rfl⟩) | fail)
          exact bodyPost_ret (v := .tuple #[.int .i64 0, .agg #[.int .u8 5, .bool false]]) (by simp [results, Try.results59, go_sem, v0, v1]) rfl (FO.out _ rfl)
        · have AG := hideIt (alloc_good CC.out.ri x hx1 hb)
          have EB := hideIt (show allocs (f.slots.drop (i + 1)) (bs1 ++ [x.toNat]) = al by have h1 := EA.out; rw [ED.out, if_neg hb] at h1; exact h1)
          clear hb
          go_wp2_with (first | (go_at_call 79; refine AG.out.mono ?_; rintro e y ⟨rfl, col2, a1, a2⟩; have C2 := hideIt (CC.out.step a1 a2); clear a1 a2) | fail)
          go_roundw
          case rel => exact ⟨i + 1, bs1 ++ [x.toNat], col2, by go_num, hic, EB, by simp; omega, C2⟩
          case measure => simp [intOf]; omega
      · have e1 : i = f.slots.length := by omega
        subst e1
        rw [List.drop_length] at EA
        have HAN2 := hideIt (show afterA c fuel g f A s (some bs1) = ans by have h1 := EA.out; have h2 := HAN.out; rw [← h1] at h2; exact h2)
        have k1 : decide ((f.slots.length : Int) < (f.slots.length : Int)) = false := by simp
        clear HAN EA
        obtain ⟨tv, av, z1, -⟩ := CC.out.ri.run
        have r8 : wr.cell? ⟨R, 8, none⟩ = some av := Me.cell_of_block z1 8
        have q0 := CC.out.cb.c0
        have BG := hideIt (begin_ri (CC.out.ri.keep (Q.refl wr).drew) hkl (av := av) r8)
        have PX := hideIt (call_parts CC.out HV.out hb1 HAN2.out PT.out)
        clear z1 HV HAN2 PT HFS HSA HS1 HF2
        go_wp2_with (fail)
        first | go_region_with (first | (go_at_call 82; refine BG.out.mono ?_; rintro e y ⟨rfl, col2, H', a1, a2, a3⟩; have PY := hideIt (PX.out y col2 H' a1 ((Ex.q (Q.refl wr).drew).trans a2) a3); have yC := (CC.out.step a1 ((Ex.q (Q.refl wr).drew).trans a2)).cb.c0; clear a1 a2 a3)) | fail
        all_goals go_wp2_with (first
          | (go_at_call 83; refine PY.out.mono ?_; rintro e z ⟨v, t, sp, s3, col3, A3, G3, rfl, c1, c2, c3⟩; have ZE := hideIt (end_ri (c1.ri.alloc (.cells #[.int .u8 t, .bool sp] 105)) hkl hbf.out); have CZ := hideIt (And.intro c1 (And.intro c2 c3)); have zC := (c1.q ((Q.refl z).alloc (.cells #[.int .u8 t, .bool sp] 105))).cb.c0; clear c1 c2 c3)
          | (go_at_call 84; refine ZE.out.mono ?_; rintro e u ⟨rfl, col4, H5, d1, d2, d3⟩; have hq0 := (Q.refl z).alloc (.cells #[.int .u8 t, .bool sp] 105); have CU := hideIt ((CZ.out.1.q hq0).step d1 d2); have n12 := CZ.out.1.ri.none (Nat.le_refl z.heap.size); have b12 := Ex.blk d2 n12 (heap_alloc_new z (.cells #[.int .u8 t, .bool sp] 105)); have N12 := hideIt ((d2.col z.heap.size (by simp)).trans n12); have B12 := hideIt b12; have u6 := CU.out.ri.c3.2.2.2; have uC := CU.out.cb.c2; have KP := hideIt (keep_ri (CU.out.ri.keep (Q.refl u).drew) hbf.out s.bs.length CZ.out.2.1); have HD := hideIt d3; clear d1 d2 d3 n12 b12 hq0 zC)
          | fail)
        all_goals generalize z.heap.size = O12 at *
        all_goals (first | go_region_with (first | (go_at_call 85; refine KP.out.mono ?_; rintro e x ⟨rfl, col5, k1, k2⟩; have CX := hideIt (CU.out.step k1 ((Ex.q (Q.refl u).drew).trans k2)); have b12 := Ex.blk k2 N12.out B12.out; have x0 := Me.cell_of_block b12 0; have x1 := Me.cell_of_block b12 1; obtain ⟨v0, v1, v2, v3⟩ := CX.out.cells; clear k1 k2 b12 u6 uC)) | fail)
        all_goals go_wp2_with (fail)
        all_goals go_region
        all_goals go_wp2_with (fail)
        all_goals obtain ⟨w1, w2⟩ := (CX.out.q (Q.refl x).drew).fin (.int .u8 t) (.bool sp)
        all_goals exact bodyPost_ret (v := .tuple #[.int .i64 v, .agg #[.int .u8 t, .bool sp]]) (by simp [results, Try.results59, go_sem, v0, v1]) rfl (CZ.out.2.2 _ col5 H5 w1 w2 HD.out)

end Go.Proofs.Ytaomkfhbnakbjaa
