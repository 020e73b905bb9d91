/-
  Store, the walks: contracts over the program; the conditions: what each reads lies there.
  Store: contracts over the program; the conditions: a memory lies there.
  A block is emptied (empty): a contract over the program; the conditions: a memory lies there, and it has that block.
  Keep: contracts over the program; the conditions: a memory lies there, its sum is told as it is, and it has at most 65536 cells.
-/
import Derived.Test.YtaomkfhbnakbjaaKMeG
import Derived.Deep.RegionLaw
namespace Go.Proofs.Ytaomkfhbnakbjaa.Me
open Go.RowKit
set_option linter.unusedVariables false
attribute [local go_sem ↓] run_fld0 run_fld1

theorem map_eql (M : Nat) (w : World) : (binOp .eql 99 (.map (some M)) (.map none)).run Try.prog w = .ok (.bool false) w := by
  kernel_rfl

/-- What Store reads behind has. -/
structure SA (x1 : World) (p M N : Nat) (a b old k : Int) (held : Bool) : Prop where
  p0 : x1.cell? ⟨p, 0, none⟩ = some (.map (some M))
  n0 : x1.cell? ⟨N, 0, none⟩ = some (.int .i64 a)
  n1 : x1.cell? ⟨N, 1, none⟩ = some (.int .i64 b)
  p0' : ∀ ob, (x1.alloc ob).cell? ⟨p, 0, none⟩ = some (.map (some M))
  n0' : ∀ ob, (x1.alloc ob).cell? ⟨N, 0, none⟩ = some (.int .i64 a)
  n1' : ∀ ob, (x1.alloc ob).cell? ⟨N, 1, none⟩ = some (.int .i64 b)
  lk : (Instr.lookup 99 (.map (some M)) (.agg #[.int .i64 a, .int .i64 b]) true).run Try.prog x1.drew = .ok (.tuple #[.agg #[.int .i64 old, .int .i64 k], .bool held]) x1.drew
  lk' : ∀ ob, (Instr.lookup 99 (.map (some M)) (.agg #[.int .i64 a, .int .i64 b]) true).run Try.prog (x1.alloc ob).drew = .ok (.tuple #[.agg #[.int .i64 old, .int .i64 k], .bool held]) (x1.alloc ob).drew
/-- .. behind its second box. -/
structure SB (Y : World) (p M N O : Nat) (a b k : Int) : Prop where
  p0 : Y.cell? ⟨p, 0, none⟩ = some (.map (some M))
  n0 : Y.cell? ⟨N, 0, none⟩ = some (.int .i64 a)
  n1 : Y.cell? ⟨N, 1, none⟩ = some (.int .i64 b)
  o1 : Y.cell? ⟨O, 1, none⟩ = some (.int .i64 k)

abbrev hasB (w : World) (p : Nat) (a b : Int) : Prop := Calls Try.prog 101 #[.pointer (some ⟨p, 0, none⟩), .agg #[.int .i64 a, .int .i64 b]] (w.alloc (.cells #[.int .i64 a, .int .i64 b] 130)) fun e x1 => e = .returned (.bool true) ∧ Below (w.alloc (.cells #[.int .i64 a, .int .i64 b] 130)).heap.size (w.alloc (.cells #[.int .i64 a, .int .i64 b] 130)) x1
abbrev behB (w : World) (a b : Int) (x1 : World) : Prop := Below (w.alloc (.cells #[.int .i64 a, .int .i64 b] 130)).heap.size (w.alloc (.cells #[.int .i64 a, .int .i64 b] 130)) x1
abbrev boxS (x1 : World) (old k : Int) : World := x1.alloc (.cells #[.int .i64 old, .int .i64 k] 159)

set_option maxRecDepth 100000 in
theorem store_over {w : World} (p M : Nat) (a b v old k : Int) (hv : v ≠ 0) (N : Nat) (hN : w.heap.size = N) (hhas : hasB w p a b) (R : World → Prop)
    (hf : ∀ x1, behB w a b x1 → SA x1 p M N a b old k true ∧ ∀ Y, Sm Y (boxS x1 old k) → SB Y p M N x1.heap.size a b k ∧ ∃ Z, (Instr.mapUpdate 99 (.map (some M)) (.agg #[.int .i64 a, .int .i64 b]) (.agg #[.int .i64 v, .int .i64 k])).run Try.prog Y.drew = .ok () Z ∧ R Z) :
    Calls Try.prog 80 #[.pointer (some ⟨p, 0, none⟩), .agg #[.int .i64 a, .int .i64 b], .int .i64 v] w fun e w' => e = .returned (.int .i64 0) ∧ R w' := by
  have HH := hideIt hhas
  have HF := hideIt hf
  clear hhas hf
  have he := map_eql M
  have hv2 : (v != 0) = true := by simp [hv]
  clear hv
  go_enter Try.func80, Try.ntmps80
  go_wp2_with (first | (go_at_call 101; refine HH.out.mono ?_; rintro e x1 ⟨rfl, hb⟩; obtain ⟨⟨c0, b0, b1, d0, e0, e1, lk, lk2⟩, hY⟩ := HF.out x1 hb; have HY := hideIt hY; clear hb hY) | fail)
  go_region
  generalize hYe : (x1.alloc _).drew = Y
  obtain ⟨⟨y0, y1, y2, y3⟩, Z, z1, z2⟩ := HY.out Y (by rw [← hYe]; exact ⟨rfl, rfl, rfl, rfl⟩)
  have HZ := hideIt z2
  generalize x1.heap.size = O at *
  clear z2 hYe HY c0 b0 b1 d0 e0 e1 lk lk2
  go_wp2_with (fail)
  go_region
  go_wp2_with (fail)
  go_ret
  exact ⟨rfl, HZ.out⟩

set_option maxRecDepth 100000 in
theorem store_gone {w : World} (p M : Nat) (a b old k : Int) (N : Nat) (hN : w.heap.size = N) (hhas : hasB w p a b) (R : World → Prop)
    (hf : ∀ x1, behB w a b x1 → SA x1 p M N a b old k true ∧ ∀ Y, Sm Y (boxS x1 old k) → SB Y p M N x1.heap.size a b k ∧ Calls Try.prog 102 #[.pointer (some ⟨p, 0, none⟩), .agg #[.int .i64 a, .int .i64 b], .int .i64 k] Y fun e w' => e = .returned (.tuple #[]) ∧ R w') :
    Calls Try.prog 80 #[.pointer (some ⟨p, 0, none⟩), .agg #[.int .i64 a, .int .i64 b], .int .i64 0] w fun e w' => e = .returned (.int .i64 0) ∧ R w' := by
  have HH := hideIt hhas
  have HF := hideIt hf
  clear hhas hf
  have he := map_eql M
  go_enter Try.func80, Try.ntmps80
  go_wp2_with (first | (go_at_call 101; refine HH.out.mono ?_; rintro e x1 ⟨rfl, hb⟩; obtain ⟨⟨c0, b0, b1, d0, e0, e1, lk, lk2⟩, hY⟩ := HF.out x1 hb; have HY := hideIt hY; clear hb hY) | fail)
  go_region
  generalize hYe : (x1.alloc _).drew = Y
  obtain ⟨⟨y0, y1, y2, y3⟩, z1⟩ := HY.out Y (by rw [← hYe]; exact ⟨rfl, rfl, rfl, rfl⟩)
  have HZ := hideIt z1
  generalize x1.heap.size = O at *
  clear z1 hYe HY c0 b0 b1 d0 e0 e1 lk lk2
  go_wp2_with (first | (go_at_call 102; refine HZ.out.mono ?_; rintro e x2 ⟨rfl, hr⟩; have HR := hideIt hr; clear hr) | fail)
  go_ret
  exact ⟨rfl, HR.out⟩

set_option maxRecDepth 100000 in
theorem store_stay {w : World} (p M : Nat) (a b old k : Int) (N : Nat) (hN : w.heap.size = N) (hhas : hasB w p a b) (R : World → Prop)
    (hf : ∀ x1, behB w a b x1 → SA x1 p M N a b old k false ∧ ∀ Y, Sm Y (boxS x1 old k) → R Y) :
    Calls Try.prog 80 #[.pointer (some ⟨p, 0, none⟩), .agg #[.int .i64 a, .int .i64 b], .int .i64 0] w fun e w' => e = .returned (.int .i64 0) ∧ R w' := by
  have HH := hideIt hhas
  have HF := hideIt hf
  clear hhas hf
  have he := map_eql M
  go_enter Try.func80, Try.ntmps80
  go_wp2_with (first | (go_at_call 101; refine HH.out.mono ?_; rintro e x1 ⟨rfl, hb⟩; obtain ⟨⟨c0, b0, b1, d0, e0, e1, lk, lk2⟩, hY⟩ := HF.out x1 hb; have HY := hideIt hY; clear hb hY) | fail)
  go_region
  generalize hYe : (x1.alloc _).drew = Y
  have z1 := HY.out Y (by rw [← hYe]; exact ⟨rfl, rfl, rfl, rfl⟩)
  have HZ := hideIt z1
  generalize x1.heap.size = O at *
  clear z1 hYe HY c0 b0 b1 d0 e0 e1 lk lk2
  go_wp2_with (fail)
  go_ret
  exact ⟨rfl, HZ.out⟩

theorem infoN : (Try.prog.info? 3).map (fun i => (i.zero, i.size, i.bytes)) = some (some (.int .i64 0), 1, 8) := by kernel_rfl
/-- .. behind the entry in the map, where a new place is to be remembered. -/
structure SC (Z : World) (B g q N : Nat) (b : Int) (wa : Option Addr) (H : List Int) (hc : Nat) (R : World → Prop) : Prop where
  gs : Z.cell? ⟨g, q, none⟩ = some (.slice wa H.length hc)
  n1 : Z.cell? ⟨N, 1, none⟩ = some (.int .i64 b)
  gs' : ∀ ob, (Z.alloc ob).cell? ⟨g, q, none⟩ = some (.slice wa H.length hc)
  own : ∀ X : World, X.heap = (Z.alloc (.cells #[.int .i64 b] 3)).heap → X.ownsRow B 3 1 (.slice wa H.length hc) H.length (rowN H) ∧ (∀ j u, [Value.int .i64 b][j]? = some u → X.cell? ((⟨Z.heap.size, 0, none⟩ : Addr).add j) = some u) ∧ B ≤ X.heap.size ∧ X.heap.size = Z.heap.size + 1
  beh : ∀ X w1 : World, X.grownBy w1 (Value.slice wa H.length hc).ownBlock → Sm X (Z.alloc (.cells #[.int .i64 b] 3)) → w1.cell? ⟨g, q, none⟩ = some (.slice wa H.length hc) ∧ w1.frozen? ⟨g, q, none⟩ = false
  fin : ∀ (X w1 : World) (g2 cap : Nat), X.grownBy w1 (Value.slice wa H.length hc).ownBlock → Sm X (Z.alloc (.cells #[.int .i64 b] 3)) → w1.ownsRow B 3 1 (.slice (some ⟨g2, 0, none⟩) (H.length + 1) cap) (H.length + 1) (rowN H ++ [.int .i64 b]) → ((Value.slice wa H.length hc).ownBlock = some g2 ∨ g2 = Z.heap.size + 1) → R (w1.setCell ⟨g, q, none⟩ (.slice (some ⟨g2, 0, none⟩) (H.length + 1) cap))

set_option maxRecDepth 100000 in
set_option maxHeartbeats 1000000 in
theorem store_new {w : World} (p M g i len lc B : Nat) (b v old k : Int) (wa : Option Addr) (H : List Int) (hc : Nat) (hlen : len ≤ 1000000) (hi : i < len) (hHl : H.length ≤ 100000000) (hv : v ≠ 0) (N : Nat) (hN : w.heap.size = N) (hhas : hasB w p i b) (R : World → Prop)
    (hf : ∀ x1, behB w i b x1 → SA x1 p M N i b old k false ∧ ∀ Y, Sm Y (boxS x1 old k) → SB Y p M N x1.heap.size i b k ∧ Y.cell? ⟨p, 1, none⟩ = some (.slice (some ⟨g, 0, none⟩) len lc) ∧ Y.cell? ⟨g, i * 2 + 1, none⟩ = some (.slice wa H.length hc) ∧
      ∃ Z, (Instr.mapUpdate 99 (.map (some M)) (.agg #[.int .i64 (i : Int), .int .i64 b]) (.agg #[.int .i64 v, .int .i64 (H.length : Int)])).run Try.prog Y.drew.drew = .ok () Z ∧ SC Z B g (i * 2 + 1) N b wa H hc R) :
    Calls Try.prog 80 #[.pointer (some ⟨p, 0, none⟩), .agg #[.int .i64 (i : Int), .int .i64 b], .int .i64 v] w fun e w' => e = .returned (.int .i64 0) ∧ R w' := by
  have HH := hideIt hhas
  have HF := hideIt hf
  clear hhas hf
  obtain ⟨j0, hj, hz0, hz1, hz2⟩ := info_parts infoN
  have HT := hideIt (And.intro hj (And.intro hz0 (And.intro hz1 hz2)))
  clear hj hz0 hz1 hz2
  have he := map_eql M
  have hv2 : (v != 0) = true := by simp [hv]
  clear hv
  have i0 : (0 : Int) ≤ (i : Int) := by omega
  have i1 : (i : Int) < (len : Int) := by omega
  have H1 := hideIt (show ∀ u ∈ [Value.int .i64 b], u.oneCell' = true from fun u hu => by simp at hu; subst hu; rfl)
  have HM := hideIt (show H.length + 1 ≤ maxLen by unfold maxLen; omega)
  have HM2 := hideIt (show (H.length + 1) * 8 ≤ 140737488355328 by omega)
  go_enter Try.func80, Try.ntmps80
  go_wp2_with (first | (go_at_call 101; refine HH.out.mono ?_; rintro e x1 ⟨rfl, hb⟩; obtain ⟨⟨c0, b0, b1, d0, e0, e1, lk, lk2⟩, hY⟩ := HF.out x1 hb; have HY := hideIt hY; clear hb hY) | fail)
  go_region
  generalize hYe : (x1.alloc _).drew = Y
  obtain ⟨⟨y0, y1, y2, y3⟩, y4, y5, Z, z1, z2⟩ := HY.out Y (by rw [← hYe]; exact ⟨rfl, rfl, rfl, rfl⟩)
  have HZ := hideIt z2
  generalize x1.heap.size = O at *
  clear z2 hYe HY c0 b0 b1 d0 e0 e1 lk lk2
  go_wp2_with (fail)
  go_region
  go_wp2_with (fail)
  go_region
  obtain ⟨q1, q2, q3, -, -, -⟩ := HZ.out
  clear y0 y1 y2 y3 y4 y5 z1
  go_wp2_with (fail)
  go_region_law ((refine step_append_lies _ (by rfl) _ _ 22 (by rfl) B 3 j0 (.int .i64 0) 1 8 Try.underlying22 HT.out.1 HT.out.2.1 HT.out.2.2.1 HT.out.2.2.2 rfl (by decide) (.slice wa H.length hc) H.length (rowN H) (by rfl) (HZ.out.own _ rfl).1 ⟨Z.heap.size, 0, none⟩ 1 1 [.int .i64 b] (by rfl) rfl (HZ.out.own _ rfl).2.1 H1.out (by decide) HM.out HM2.out (HZ.out.own _ rfl).2.2.1 (Z.heap.size + 1) (HZ.out.own _ rfl).2.2.2 ?_; intro g2 cap w1 hown hgrow hat hlt; obtain ⟨k1, k2⟩ := HZ.out.beh _ w1 hgrow ⟨rfl, rfl, rfl, rfl⟩; have HR := hideIt (HZ.out.fin _ w1 g2 cap hgrow ⟨rfl, rfl, rfl, rfl⟩ hown hat); clear hown hgrow hat))
  all_goals go_wp2_with (fail)
  all_goals go_ret
  all_goals exact ⟨rfl, HR.out⟩

end Go.Proofs.Ytaomkfhbnakbjaa.Me

namespace Go.Proofs.Ytaomkfhbnakbjaa.Me
open Go.RowKit
set_option linter.unusedVariables false

theorem mx_map {w Y : World} {B : Nat} {bl : Nat → Prop} {p n n' : Nat} {L : List Bk} {F F' : FF} {t : Int} {M : Nat} {la : Option Addr} {lc : Nat} (h : MX w B bl p n L F t M la lc) (hM : Mc Y M n' F') (hY : ∀ k, bl k → k ≠ M → Y.heap[k]? = w.heap[k]?) (hs : w.heap.size ≤ Y.heap.size) : MX Y B bl p n' L F' t M la lc :=
  ⟨fun k hk => ⟨(h.rng k hk).1, Nat.lt_of_lt_of_le (h.rng k hk).2 hs⟩, h.inp, h.inM, h.Mnp, h.own, by rw [hY p h.inp (fun e => h.Mnp e.symm)]; exact h.cells, hM, ownsRow_block h.row fun k hk => hY k (h.own k hk).1 (h.own k hk).2.2,
    fun i d e => ownsRow_block (h.hld i d e) fun k hk => hY k (h.hin i d k e hk).1 (h.hin i d k e hk).2.2.1, h.hin, h.dif⟩

theorem upd_zero {f : Int → Int → Int} {a b : Int} (h : f a b = 0) : upd f a b 0 = f := by
  funext x y
  simp only [upd]
  split
  · rename_i e
    rw [e.1, e.2, h]
  · rfl
theorem held_i64 {A : Nat → Prop} {n : Nat} {L : List Bk} {f : Int → Int → Int} {F : FF} (hf : MF A n L f F) {i : Nat} {d : Bk} (hA : A i) (hd : L[i]? = some d) (hc : ∀ c ∈ szs L, c ≤ 100000) : ∀ o ∈ d.H, I64 o := fun o ho => by
  obtain ⟨k, hk⟩ := List.mem_iff_getElem?.1 ho
  obtain ⟨v, hv⟩ := hf.lst i d k o hA hd hk
  have hz : f i o ≠ 0 := fun q => by rw [hf.none.2 q] at hv; cases hv
  cases e : inB (szs L) i o
  · exact absurd (hf.out _ _ e) hz
  · obtain ⟨i', j', c, e1, e2, e3, e4⟩ := inB_iff.1 e
    have := hc c (List.mem_of_getElem? e3)
    exact ⟨by omega, by omega⟩

set_option maxRecDepth 100000 in
theorem store_none {w : World} {B : Nat} {bl : Nat → Prop} {p n : Nat} {bs : List Nat} {f : Int → Int → Int} {t : Int} (h : MI w B bl p n bs f t) (a b v : Int) (hl : bs.length ≤ 1000000) (hin : inB bs a b = false) :
    Calls Try.prog 80 #[.pointer (some ⟨p, 0, none⟩), kv a b, .int .i64 v] w fun e w' => e = .returned (.int .i64 12) ∧ Below w.heap.size w w' := by
  obtain ⟨L, F, M, la, lc, h, hf, hs⟩ := h
  have hll : L.length ≤ 1000000 := by rw [← hs] at hl; simpa [szs] using hl
  have H := hideIt (h.kept (w' := w.alloc (.cells #[.int .i64 a, .int .i64 b] 130)) (fun k hk => Below.heap_alloc _ _ _ (h.rng k hk).2) (by simp))
  have HL := hideIt hll
  subst hs
  clear h hl hll hf
  have hk : kv a b = .agg #[.int .i64 a, .int .i64 b] := rfl
  rw [hk]
  go_enter Try.func80, Try.ntmps80
  go_wp2_with (first | (go_at_call 101; refine (has_mx H.out a b HL.out).mono ?_; rw [hin]; rintro e x1 ⟨rfl, hb⟩; have HB := hideIt hb; clear hb) | fail)
  go_ret
  exact ⟨rfl, ((Below.refl _ _).alloc (Nat.le_refl _) _).trans (HB.out.mono (by simp))⟩

set_option maxHeartbeats 1000000 in
theorem store_ok {w : World} {B : Nat} {bl : Nat → Prop} {p n : Nat} {bs : List Nat} {f : Int → Int → Int} {t : Int} (h : MI w B bl p n bs f t) (a b v : Int) (hl : bs.length ≤ 1000000) (hc : ∀ c ∈ bs, c ≤ 100000) (hn : n ≤ 100000000) (hin : inB bs a b = true) :
    Calls Try.prog 80 #[.pointer (some ⟨p, 0, none⟩), kv a b, .int .i64 v] w fun e w' => e = .returned (.int .i64 0) ∧
      (∃ bl' : Nat → Prop, (∀ k, bl k → bl' k) ∧ (∀ k, bl' k → bl k ∨ w.heap.size ≤ k) ∧ MI w' B bl' p (n + 1) bs (upd f a b v) t) ∧ Fr bl w w' := by
  obtain ⟨L, F, M, la, lc, h, hf, rfl⟩ := h
  have hll : L.length ≤ 1000000 := by simpa [szs] using hl
  have hnm : n < maxLen := by unfold maxLen; omega
  obtain ⟨i, j, c, rfl, rfl, hci, hj⟩ := inB_iff.1 hin
  obtain ⟨d, hd, rfl⟩ : ∃ d, L[i]? = some d ∧ d.c = c := by
    simp [szs] at hci
    exact hci
  have hil := (List.getElem?_eq_some_iff.1 hd).1
  have hcc := hc _ (List.mem_of_getElem? hci)
  have hI : I64 (i : Int) := ⟨by omega, by omega⟩
  have hJ : I64 (j : Int) := ⟨by omega, by omega⟩
  have hMl := h.map.lt
  have hhas : hasB w p i j := by
    have := has_mx (h.kept (w' := w.alloc (.cells #[.int .i64 (i : Int), .int .i64 (j : Int)] 130)) (fun k hk => Below.heap_alloc _ _ _ (h.rng k hk).2) (by simp)) i j hll
    rw [hin] at this
    exact this
  have xb : ∀ x1, behB w i j x1 → Below w.heap.size w x1 ∧ w.heap.size + 1 ≤ x1.heap.size ∧ x1.heap[w.heap.size]? = some (.cells #[.int .i64 (i : Int), .int .i64 (j : Int)] 130 (0, 0)) := fun x1 hx => by
    refine ⟨((Below.refl _ _).alloc (Nat.le_refl _) _).trans (hx.mono (by simp)), by have := hx.size; simpa using this, ?_⟩
    rw [hx.block w.heap.size (by simp)]
    exact heap_alloc_new w _
  have hSA : ∀ x1, behB w i j x1 → SA x1 p M w.heap.size i j (c1 (F i j)) (c2 (F i j)) (F i j).isSome := fun x1 hx => by
    obtain ⟨x2, x3, x4⟩ := xb x1 hx
    have a1 : x1.cell? ⟨p, 0, none⟩ = some (.map (some M)) := cell_of_block ((x2.block p (lt_of_some h.cells)).trans h.cells) 0
    have a2 := cell_of_block x4 0
    have a3 := cell_of_block x4 1
    have hm := x2.block M hMl
    exact ⟨a1, a2, a3, fun ob => cell_box a1 ob, fun ob => cell_box a2 ob, fun ob => cell_box a3 ob, (h.map.kept (w' := x1.drew) hm).lookok hI hJ,
      fun ob => (h.map.kept (w' := (x1.alloc ob).drew) ((Below.heap_alloc x1 ob M (by omega)).trans hm)).lookok hI hJ⟩
  have yb : ∀ x1 Y, behB w i j x1 → Sm Y (boxS x1 (c1 (F i j)) (c2 (F i j))) → (∀ k, k < w.heap.size → Y.heap[k]? = w.heap[k]?) ∧ w.heap.size + 2 ≤ Y.heap.size ∧ Fr bl w Y ∧ MX Y B bl p n L F t M la lc ∧ SB Y p M w.heap.size x1.heap.size i j (c2 (F i j)) := fun x1 Y hx hY => by
    obtain ⟨x2, x3, x4⟩ := xb x1 hx
    have y1 : ∀ k, k < x1.heap.size → Y.heap[k]? = x1.heap[k]? := fun k hk => by rw [hY.heap]; exact Below.heap_alloc _ _ _ hk
    have y2 : ∀ k, k < w.heap.size → Y.heap[k]? = w.heap[k]? := fun k hk => (y1 k (by omega)).trans (x2.block k hk)
    have ys : Y.heap.size = x1.heap.size + 1 := by rw [hY.heap]; simp
    have yO : Y.heap[x1.heap.size]? = some (.cells #[.int .i64 (c1 (F i j)), .int .i64 (c2 (F i j))] 159 (0, 0)) := by rw [hY.heap]; exact heap_alloc_new x1 _
    refine ⟨y2, by omega, ⟨hY.os.trans x2.os, hY.tape.trans x2.tape, hY.output.trans x2.output, by omega, fun k hk _ => y2 k hk⟩, h.kept (fun k hk => y2 k (h.rng k hk).2) (by omega), ?_⟩
    have yN := (y1 w.heap.size (by omega)).trans x4
    exact ⟨cell_of_block ((y2 p (lt_of_some h.cells)).trans h.cells) 0, cell_of_block yN 0, cell_of_block yN 1, cell_of_block yO 1⟩
  have hk : kv i j = .agg #[.int .i64 (i : Int), .int .i64 (j : Int)] := rfl
  rw [hk]
  by_cases hv : v = 0
  · subst hv
    cases hF : F i j with
    | none =>
      rw [hF] at hSA yb
      have hz := hf.none.1 hF
      rw [upd_zero hz]
      refine store_stay p M i j (c1 none) (c2 none) w.heap.size rfl hhas _ fun x1 hx => ⟨hSA x1 hx, fun Y hY => ?_⟩
      obtain ⟨q1, q2, q3, q4, q5⟩ := yb x1 Y hx hY
      exact ⟨⟨bl, fun _ h => h, fun _ h => Or.inl h, L, F, M, la, lc, mx_map q4 (q4.map.mono (Nat.le_succ _)) (fun _ _ _ => rfl) (Nat.le_refl _), hf.mono (Nat.le_succ _), rfl⟩, q3⟩
    | some o =>
      obtain ⟨v0, kk⟩ := o
      obtain ⟨p1, -⟩ := hf.pos i d j v0 kk hd hF
      obtain ⟨k, rfl⟩ : ∃ k : Nat, kk = (k : Int) := ⟨kk.toNat, by omega⟩
      rw [hF] at hSA yb
      refine store_gone p M i j v0 k w.heap.size rfl hhas _ fun x1 hx => ⟨hSA x1 hx, fun Y hY => ?_⟩
      obtain ⟨q1, q2, q3, q4, q5⟩ := yb x1 Y hx hY
      refine ⟨q5, (drop_any q4 hf hd hin hF hI (held_i64 hf trivial hd hc) hll hn).mono ?_⟩
      rintro e w' ⟨rfl, ⟨bl', b1, b2, b3⟩, hF'⟩
      exact ⟨rfl, ⟨bl', b1, fun k hk => (b2 k hk).imp id (fun e => by omega), b3⟩, q3.trans hF'⟩
  · cases hF : F i j with
    | some o =>
      obtain ⟨v0, kk⟩ := o
      rw [hF] at hSA yb
      refine store_over p M i j v v0 kk hv w.heap.size rfl hhas _ fun x1 hx => ⟨hSA x1 hx, fun Y hY => ?_⟩
      obtain ⟨q1, q2, q3, q4, q5⟩ := yb x1 Y hx hY
      refine ⟨q5, ?_⟩
      obtain ⟨Z, z1, z2, z3⟩ := (q4.map.kept (w' := Y.drew) rfl).store hnm hI hJ v kk
      refine ⟨Z, z1, ⟨bl, fun _ h => h, fun _ h => Or.inl h, L, _, M, la, lc, mx_map q4 z2 (fun k k1 k2 => z3.block k (q4.rng k k1).2 (fun e => k2 (Option.some.inj e))) z3.size, mf_over hf hin hv hF, rfl⟩, ?_⟩
      exact q3.grown (show Y.grownBy Z (some M) from ⟨z3.os, z3.tape, z3.output, z3.size, z3.block⟩) (fun q e => by cases e; exact Or.inl h.inM)
    | none =>
      rw [hF] at hSA yb
      obtain ⟨g, rfl, -, -, -⟩ := h.at hd
      obtain ⟨wa, hc', ev, hv1, hv2⟩ := ownsRow_form (h.hld i d hd)
      have hdl := hf.len i d hd
      obtain ⟨gb, gp, gM⟩ := h.own g rfl
      refine store_new p M g i L.length lc B (j : Int) v (c1 none) (c2 none) wa d.H hc' hll hil (by omega) hv w.heap.size rfl hhas _ fun x1 hx => ⟨hSA x1 hx, fun Y hY => ?_⟩
      obtain ⟨q1, q2, q3, q4, q5⟩ := yb x1 Y hx hY
      obtain ⟨g', e', -, y5, -⟩ := q4.at hd
      cases e'
      rw [ev] at y5
      refine ⟨q5, cell_of_block q4.cells 1, y5, ?_⟩
      obtain ⟨Z, z1, z2, z3⟩ := (q4.map.kept (w' := Y.drew.drew) rfl).store hnm hI hJ v (d.H.length : Int)
      have zb : ∀ k, k < Y.heap.size → k ≠ M → Z.heap[k]? = Y.heap[k]? := fun k k1 k2 => z3.block k k1 (fun e => k2 (Option.some.inj e))
      have zs : Y.heap.size ≤ Z.heap.size := z3.size
      have hgY := (q4.rng g gb).2
      have zMX : MX Z B bl p (n + 1) L (updF F i j (some (v, (d.H.length : Int)))) t M (some ⟨g, 0, none⟩) lc := mx_map q4 z2 (fun k k1 k2 => zb k (q4.rng k k1).2 k2) zs
      have zF : Fr bl w Z := q3.grown (show Y.grownBy Z (some M) from ⟨z3.os, z3.tape, z3.output, z3.size, z3.block⟩) (fun q e => by cases e; exact Or.inl h.inM)
      obtain ⟨g', e', -, z5, z6⟩ := zMX.at hd
      cases e'
      rw [ev] at z5
      have hob : (Value.slice wa d.H.length hc').ownBlock ≠ some g := fun e => (h.hin i d g hd (by rw [ev]; exact e)).2.2.2 rfl
      have zN : Z.cell? ⟨w.heap.size, 1, none⟩ = some (.int .i64 (j : Int)) := by
        have := q5.n1
        rw [← this]
        simp only [World.cell?]
        rw [zb _ (by omega) (by omega)]
      have gd : ∀ X : World, X.heap = (Z.alloc (.cells #[.int .i64 (j : Int)] 3)).heap → ∀ k, k < Z.heap.size → X.heap[k]? = Z.heap[k]? := fun X hX k hk => by rw [hX]; exact Below.heap_alloc _ _ _ hk
      have hgZ : g < Z.heap.size := by omega
      obtain ⟨gg, gcap, gcur, eg, hgb, -, -, -, -⟩ := ownsRow_blk zMX.row (by omega)
      simp only [Value.slice.injEq, Option.some.injEq, Addr.mk.injEq] at eg
      obtain ⟨⟨rfl, -⟩, -, rfl⟩ := eg
      have beh : ∀ X w1 : World, X.grownBy w1 (Value.slice wa d.H.length hc').ownBlock → Sm X (Z.alloc (.cells #[.int .i64 (j : Int)] 3)) → ∀ k, k < Z.heap.size → (Value.slice wa d.H.length hc').ownBlock ≠ some k → w1.heap[k]? = Z.heap[k]? := fun X w1 hg hX k k1 k2 => by
        rw [hg.block k (by rw [hX.heap]; simp; omega) (fun e => k2 e.symm)]
        exact gd X hX.heap k k1
      refine ⟨Z, z1, ⟨z5, zN, fun ob => cell_box z5 ob, fun X hX => ⟨?_, ?_, ?_, ?_⟩, fun X w1 hg hX => ?_, fun X w1 g2 cap hg hX ho hat => ?_⟩⟩
      · have := zMX.hld i d hd
        rw [ev] at this
        exact ownsRow_block this fun k hk => gd X hX k (zMX.rng k (zMX.hin i d k hd (by rw [ev]; exact hk)).1).2
      · have hnb : X.heap[Z.heap.size]? = some (.cells #[.int .i64 (j : Int)] 3 (0, 0)) := by rw [hX]; exact heap_alloc_new Z _
        exact World.news_of_block hnb
      · rw [hX]
        have := (zMX.rng p zMX.inp).1
        have := (zMX.rng p zMX.inp).2
        simp; omega
      · rw [hX]; simp
      · have := (beh X w1 hg hX g hgZ hob).trans hgb
        refine ⟨?_, free_of_block this _⟩
        rw [← z5]
        simp only [World.cell?]
        rw [beh X w1 hg hX g hgZ hob]
      · have r0 := ownsRow_block (w' := w1) zMX.row fun k hk => by simp [Value.ownBlock] at hk; subst hk; exact beh X w1 hg hX _ hgZ hob
        have hsz : Z.heap.size + 1 ≤ w1.heap.size := by have := hg.size; rw [hX.heap] at this; simpa using this
        have hg2 : g2 ≠ g := fun e => by
          rcases hat with q | q
          · exact hob (by rw [q, e])
          · omega
        obtain ⟨bl', b1, b2, b3⟩ := mx_held (Y := w1.setCell ⟨g, i * 2 + 1, none⟩ (.slice (some ⟨g2, 0, none⟩) (d.H.length + 1) cap)) (H' := d.H ++ [(j : Int)]) (v' := .slice (some ⟨g2, 0, none⟩) (d.H.length + 1) cap) (n' := n + 1) zMX hd
          (z2.kept (by rw [Below.heap_setCell _ _ _ _ (fun e => gM e.symm)]; exact beh X w1 hg hX M (by omega) (fun e => (h.hin i d M hd (by rw [ev]; exact e)).2.2.1 rfl)))
          (fun k k1 k2 k3 k4 => by
            rw [Below.heap_setCell _ _ _ _ (fun e => k3 (by rw [e]; rfl))]
            exact beh X w1 hg hX k (zMX.rng k k1).2 (fun e => k4 (by rw [ev]; exact e))) (by simp; omega)
          (ownsRow_set r0 (by omega) _)
          (by
            have e1 : rowN (d.H ++ [(j : Int)]) = rowN d.H ++ [.int .i64 (j : Int)] := by simp [rowN]
            rw [e1, List.length_append]
            exact ownsRow_block ho fun k hk => by simp [Value.ownBlock] at hk; subst hk; exact Below.heap_setCell _ _ _ _ hg2)
          (fun k hk => by
            simp [Value.ownBlock] at hk
            subst hk
            rcases hat with q | q
            · exact Or.inl (by rw [ev]; exact q)
            · have := (zMX.rng p zMX.inp)
              exact Or.inr ⟨by omega, by omega⟩)
        refine ⟨⟨bl', b1, fun k hk => (b2 k hk).imp id (fun e => by omega), _, _, _, _, _, b3, mf_new hf hd hin hv hF _, szs_set hd _ _⟩, ?_⟩
        have f1 : Fr bl w X := ⟨hX.os.trans zF.os, hX.tape.trans zF.tape, hX.output.trans zF.output, by rw [hX.heap]; have := zF.size; simp; omega, fun k k1 k2 => (gd X hX.heap k (by have := zF.size; omega)).trans (zF.block k k1 k2)⟩
        exact (f1.grown hg (fun k hk => Or.inl (h.hin i d k hd (by rw [ev]; exact hk)).1)).setCell (Or.inl gb) _

end Go.Proofs.Ytaomkfhbnakbjaa.Me

namespace Go.Proofs.Ytaomkfhbnakbjaa.Me
open Go.RowKit
set_option linter.unusedVariables false

/-- F, but none at the places l of block i. -/
def dropH (F : FF) (i : Nat) (l : List Int) : FF := fun a b => if a = (i : Int) ∧ b ∈ l then none else F a b
/-- F, but none in block i. -/
def clrF (F : FF) (i : Nat) : FF := fun a b => if a = (i : Int) then none else F a b
theorem dropH_nil (F : FF) (i : Nat) : dropH F i [] = F := by
  funext a b
  simp [dropH]
theorem dropH_step (F : FF) (i : Nat) (H : List Int) (r : Nat) (o : Int) (h : H[r]? = some o) : updF (dropH F i (H.take r)) i o none = dropH F i (H.take (r + 1)) := by
  funext a b
  simp only [updF, dropH]
  rw [List.take_add_one, h]
  simp only [Option.toList_some, List.mem_append, List.mem_singleton]
  by_cases e1 : a = (i : Int)
  · by_cases e2 : b = o
    · rw [if_pos ⟨e1, e2⟩, if_pos ⟨e1, Or.inr e2⟩]
    · rw [if_neg (fun q => e2 q.2)]
      by_cases e3 : b ∈ H.take r
      · rw [if_pos ⟨e1, e3⟩, if_pos ⟨e1, Or.inl e3⟩]
      · rw [if_neg (fun q => e3 q.2), if_neg (fun q => q.2.elim e3 e2)]
  · rw [if_neg (fun q => e1 q.1), if_neg (fun q => e1 q.1), if_neg (fun q => e1 q.1)]
theorem dropH_all (F : FF) (i : Nat) (H : List Int) (hp : ∀ b o, F i b = some o → b ∈ H) : dropH F i H = clrF F i := by
  funext a b
  simp only [dropH, clrF]
  by_cases e1 : a = (i : Int)
  · rw [if_pos e1]
    by_cases e2 : b ∈ H
    · rw [if_pos ⟨e1, e2⟩]
    · rw [if_neg (fun q => e2 q.2)]
      cases e : F a b with
      | none => rfl
      | some o => rw [e1] at e; exact absurd (hp b o e) e2
  · rw [if_neg (fun q => e1 q.1), if_neg e1]

theorem round_drop {w : World} {B : Nat} {bl : Nat → Prop} {p n : Nat} {L : List Bk} {F : FF} {t : Int} {M : Nat} {la : Option Addr} {lc : Nat} (h : MX w B bl p n L F t M la lc) {i : Nat} {o : Int} (hI : I64 (i : Int)) (hJ : I64 o) :
    ∃ Z, (Builtin.delete_ #[99, 130] 0 #[.map (some M), .agg #[.int .i64 (i : Int), .int .i64 o]]).run Try.prog w = .ok (.tuple #[]) Z ∧ MX Z B bl p n L (updF F i o none) t M la lc ∧ Fr bl w Z := by
  obtain ⟨Z, z1, z2, z3⟩ := h.map.drop hI hJ 0
  exact ⟨Z, z1, mx_map h z2 (fun k k1 k2 => z3.block k (h.rng k k1).2 (fun e => k2 (Option.some.inj e))) z3.size, (Fr.refl bl w).grown z3 (fun q e => by cases e; exact Or.inl h.inM)⟩

set_option maxRecDepth 100000 in
set_option maxHeartbeats 1000000 in
theorem empty_any {w : World} {B : Nat} {bl : Nat → Prop} {p n : Nat} {L : List Bk} {F : FF} {t : Int} {M : Nat} {la : Option Addr} {lc : Nat} (h : MX w B bl p n L F t M la lc) {i : Nat} {d : Bk} (hd : L[i]? = some d) (hp : ∀ b o, F i b = some o → b ∈ d.H) (hI : I64 (i : Int)) (hJ : ∀ o ∈ d.H, I64 o) (hl : L.length ≤ 1000000) (hH : d.H.length ≤ 100000000) :
    Calls Try.prog 108 #[.pointer (some ⟨p, 0, none⟩), .int .i64 (i : Int)] w fun e w' => e = .returned (.tuple #[]) ∧ MX w' B bl p n L (clrF F i) t M la lc ∧ Fr bl w w' := by
  have hil : i < L.length := (List.getElem?_eq_some_iff.1 hd).1
  have c1 : w.cell? ⟨p, 1, none⟩ = some (.slice la L.length lc) := cell_of_block h.cells 1
  obtain ⟨g, rfl, -, c2, -⟩ := h.at hd
  obtain ⟨wa, hc, ev, -, -⟩ := ownsRow_form (h.hld i d hd)
  rw [ev] at c2
  have i0 : (0 : Int) ≤ (i : Int) := by omega
  have i1 : (i : Int) < (L.length : Int) := by omega
  have H := hideIt h
  have HD := hideIt hd
  have HJ := hideIt hJ
  have HI := hideIt hI
  have HP := hideIt (dropH_all F i d.H hp)
  have HE := hideIt ev
  clear h hd hJ hp ev hI
  go_enter Try.func108, Try.ntmps108
  go_wp2_with (fail)
  go_loopw [15] (fun o wr => ∃ k : Nat, o = .int .i64 k ∧ k ≤ d.H.length ∧ MX wr B bl p n L (dropH F i (d.H.take k)) t M (some ⟨g, 0, none⟩) lc ∧ Fr bl w wr) (fun o _ => d.H.length - (intOf o).toNat)
  case atStart => exact ⟨0, rfl, Nat.zero_le _, by rw [List.take_zero, dropH_nil]; exact H.out, Fr.refl _ _⟩
  case round =>
    obtain ⟨k, rfl, hk, hm, hF⟩ := hrel
    have HM := hideIt hm
    have HF := hideIt hF
    by_cases hkc : k < d.H.length
    · obtain ⟨o, ho⟩ : ∃ o, d.H[k]? = some o := ⟨_, List.getElem?_eq_getElem hkc⟩
      have q0 := cell_of_block hm.cells 0
      have hrow := hm.hld i d HD.out
      rw [HE.out] at hrow
      obtain ⟨h', cap', e1, q1, -⟩ := ownsRow_at hrow (rowN_at ho)
      cases e1
      obtain ⟨Z, z1, z2, z3⟩ := round_drop hm HI.out (HJ.out o (List.mem_of_getElem? ho))
      have HZ := hideIt z2
      have HZ3 := hideIt z3
      have HO := hideIt ho
      have k1 : decide ((k : Int) < (d.H.length : Int)) = true := by simp; omega
      have k2 : (k : Int) < (d.H.length : Int) := by omega
      have k3 : IntKind.i64.wrap ((k : Int) + 1) = (k : Int) + 1 := by rw [IntKind.wrap_i64]; omega
      clear hm hF z2 z3 hrow ho c1 c2
      go_wp2_with (fail)
      go_roundw
      case rel => exact ⟨k + 1, by go_num, hkc, by rw [← dropH_step F i d.H k o HO.out]; exact HZ.out, HF.out.trans HZ3.out⟩
      case measure => simp [intOf]; omega
    · have e1 : k = d.H.length := by omega
      subst e1
      rw [List.take_length] at HM
      clear hm hF c1 c2
      go_wp2_with (fail)
      go_end0
      exact ⟨rfl, by rw [← HP.out]; exact HM.out, HF.out⟩

end Go.Proofs.Ytaomkfhbnakbjaa.Me

namespace Go.Proofs.Ytaomkfhbnakbjaa.Me
open Go.RowKit
set_option linter.unusedVariables false

/-- f, but 0 in the blocks from k on ahead of m. -/
def keepm (f : Int → Int → Int) (k m : Nat) : Int → Int → Int := fun a b => if (k : Int) ≤ a ∧ a < (m : Int) then 0 else f a b
def keepF (F : FF) (k m : Nat) : FF := fun a b => if (k : Int) ≤ a ∧ a < (m : Int) then none else F a b
theorem keepm_start (f : Int → Int → Int) (k : Nat) : keepm f k k = f := by
  funext a b
  simp only [keepm]
  rw [if_neg (by omega)]
theorem keepF_start (F : FF) (k : Nat) : keepF F k k = F := by
  funext a b
  simp only [keepF]
  rw [if_neg (by omega)]
theorem keepF_next (F : FF) {k m : Nat} (h : k ≤ m) : clrF (keepF F k m) m = keepF F k (m + 1) := by
  funext a b
  simp only [keepF, clrF]
  by_cases h1 : a = (m : Int)
  · rw [if_pos h1, if_pos (by omega)]
  · rw [if_neg h1]
    by_cases h2 : (k : Int) ≤ a ∧ a < (m : Int)
    · rw [if_pos h2, if_pos (by omega)]
    · rw [if_neg h2, if_neg (by omega)]
theorem keepm_end {bs : List Nat} {f : Int → Int → Int} (ho : ∀ a b, inB bs a b = false → f a b = 0) (k : Nat) : keepm f k bs.length = keepf f k := by
  funext a b
  simp only [keepm, keepf]
  by_cases h1 : a < (k : Int)
  · rw [if_neg (by omega), if_pos h1]
  · rw [if_neg h1]
    by_cases h2 : a < (bs.length : Int)
    · rw [if_pos (by omega)]
    · rw [if_neg (by omega)]
      refine ho a b ?_
      simp [inB, h2]
theorem sum_take {bs : List Nat} {m c : Nat} (h : bs[m]? = some c) : (bs.take (m + 1)).sum = (bs.take m).sum + c := by
  rw [List.take_add_one, h]
  simp
theorem mem_sum {bs : List Nat} {c : Nat} (h : c ∈ bs) : c ≤ bs.sum := by
  induction bs with
  | nil => cases h
  | cons x r ih =>
    rw [List.sum_cons]
    rcases List.mem_cons.1 h with rfl | h
    · omega
    · have := ih h
      omega

theorem keep_mf {n : Nat} {L : List Bk} {f : Int → Int → Int} {F : FF} (h : MF (fun _ => True) n L f F) {k m : Nat} (hk : k ≤ L.length) (hm : m = L.length) : MF (fun _ => True) n (L.take k) (keepf f k) (keepF F k m) := by
  have hs : szs (L.take k) = (szs L).take k := by simp [szs, List.map_take]
  have hFa : ∀ a b, keepF F k m a b = if a < (k : Int) then F a b else none := fun a b => by
    simp only [keepF]
    by_cases h1 : a < (k : Int)
    · rw [if_neg (by omega), if_pos h1]
    · rw [if_neg h1]
      by_cases h2 : a < (m : Int)
      · rw [if_pos (by omega)]
      · rw [if_neg (by omega)]
        refine h.none.2 (h.out a b ?_)
        have hl : (szs L).length = L.length := by simp [szs]
        simp [inB, hl, ← hm, h2]
  have hlt : ∀ (i : Nat) (d : Bk), (L.take k)[i]? = some d → i < k ∧ L[i]? = some d := fun i d e => by
    have := (List.getElem?_eq_some_iff.1 e).1
    simp at this
    rw [List.getElem?_take_of_lt (by omega)] at e
    exact ⟨by omega, e⟩
  refine ⟨fun a b => ?_, fun a b e => ?_, fun i d b v q e hq => ?_, fun i d q o _ e hq => ?_, fun i d e => h.len i d (hlt i d e).2⟩
  · rw [hFa]
    simp only [keepf]
    by_cases h1 : a < (k : Int)
    · simp only [h1, if_true]; exact h.val a b
    · simp only [h1, if_false]; simp
  · simp only [keepf]
    by_cases h1 : a < (k : Int)
    · rw [if_pos h1]
      refine h.out a b ?_
      cases e2 : inB (szs L) a b
      · rfl
      · obtain ⟨i, j, c, rfl, rfl, e3, e4⟩ := inB_iff.1 e2
        rw [inB_iff.2 ⟨i, j, c, rfl, rfl, by rw [hs, List.getElem?_take_of_lt (by omega)]; exact e3, e4⟩] at e
        cases e
    · rw [if_neg h1]
  · obtain ⟨e1, e2⟩ := hlt i d e
    rw [hFa, if_pos (by omega)] at hq
    exact h.pos i d b v q e2 hq
  · obtain ⟨e1, e2⟩ := hlt i d e
    rw [hFa, if_pos (by omega)]
    exact h.lst i d q o trivial e2 hq

theorem keep_mx {w : World} {B : Nat} {bl : Nat → Prop} {p n : Nat} {L : List Bk} {F : FF} {t : Int} {M g lc : Nat} (h : MX w B bl p n L F t M (some ⟨g, 0, none⟩) lc) {k : Nat} (hk : k ≤ L.length) :
    MX (w.setCell ⟨p, 1, none⟩ (.slice (some ⟨g, 0, none⟩) k lc)) B bl p n (L.take k) F t M (some ⟨g, 0, none⟩) lc ∧ Fr bl w (w.setCell ⟨p, 1, none⟩ (.slice (some ⟨g, 0, none⟩) k lc)) := by
  have hl : (L.take k).length = k := by simp; omega
  have hlt : ∀ (i : Nat) (d : Bk), (L.take k)[i]? = some d → i < k ∧ L[i]? = some d := fun i d e => by
    have := (List.getElem?_eq_some_iff.1 e).1
    simp at this
    rw [List.getElem?_take_of_lt (by omega)] at e
    exact ⟨by omega, e⟩
  obtain ⟨gb, gp, gM⟩ := h.own g rfl
  have oth : ∀ b, b ≠ p → (w.setCell ⟨p, 1, none⟩ (.slice (some ⟨g, 0, none⟩) k lc)).heap[b]? = w.heap[b]? := fun b hb => Below.heap_setCell _ _ _ _ hb
  refine ⟨⟨fun b hb => by simpa using h.rng b hb, h.inp, h.inM, h.Mnp, fun b hb => h.own b (by rw [← hb]; rfl), ?_, h.map.kept (oth M h.Mnp), ?_, fun i d e => ?_, fun i d q e hq => ?_, fun i j d e q h1 h2 h3 h4 => h.dif i j d e q (hlt i d h1).2 (hlt j e h2).2 h3 h4⟩, (Fr.refl bl w).setCell (Or.inl h.inp) _⟩
  · rw [block_setCell h.cells, hl]
    simp
  · rw [hl, ← bkCells_take]
    refine ownsRow_less (n := L.length) ?_ hk
    refine ownsRow_block h.row fun b e => ?_
    simp [Value.ownBlock] at e
    subst e
    exact oth _ gp
  · have e2 := (hlt i d e).2
    exact ownsRow_block (h.hld i d e2) fun q hq => oth q (h.hin i d q e2 hq).2.1
  · obtain ⟨a1, a2, a3, a4⟩ := h.hin i d q (hlt i d e).2 hq
    exact ⟨a1, a2, a3, fun e => a4 (by rw [← e]; rfl)⟩

/-- The sum is told anew. -/
theorem MX.told {w : World} {B : Nat} {bl : Nat → Prop} {p n : Nat} {L : List Bk} {F : FF} {t : Int} {M : Nat} {la : Option Addr} {lc : Nat} (h : MX w B bl p n L F t M la lc) (t' : Int) (j : Nat) :
    MX ((w.drewN j).setCell ⟨p, 2, none⟩ (.int .i64 t')) B bl p n L F t' M la lc ∧ Fr bl w ((w.drewN j).setCell ⟨p, 2, none⟩ (.int .i64 t')) := by
  have oth : ∀ b, b ≠ p → ((w.drewN j).setCell ⟨p, 2, none⟩ (.int .i64 t')).heap[b]? = w.heap[b]? := fun b hb => Below.heap_setCell (w.drewN j) _ _ _ hb
  refine ⟨⟨fun b hb => by simpa using h.rng b hb, h.inp, h.inM, h.Mnp, h.own, ?_, h.map.kept (oth M h.Mnp), ownsRow_block h.row fun b e => oth b (h.own b e).2.1, fun i d e => ownsRow_block (h.hld i d e) fun q hq => oth q (h.hin i d q e hq).2.1, h.hin, h.dif⟩, ?_⟩
  · rw [block_setCell (w := w.drewN j) h.cells]
    simp
  · exact (show Fr bl w (w.drewN j) from ⟨rfl, rfl, rfl, Nat.le_refl _, fun _ _ _ => rfl⟩).setCell (Or.inl h.inp) _

set_option maxRecDepth 100000 in
set_option maxHeartbeats 1000000 in
theorem keep_some {w : World} {B : Nat} {bl : Nat → Prop} {p n : Nat} {L : List Bk} {f : Int → Int → Int} {F : FF} {t : Int} {M g lc : Nat} (h : MX w B bl p n L F t M (some ⟨g, 0, none⟩) lc) (hf : MF (fun _ => True) n L f F) (k : Nat) (hk : k ≤ L.length) (ht : t = (((szs L).sum : Nat) : Int)) (hs : (szs L).sum ≤ 65536) (hl : L.length ≤ 1000000) (hn : n ≤ 100000000) :
    Calls Try.prog 85 #[.pointer (some ⟨p, 0, none⟩), .int .i64 (k : Int)] w fun e w' => e = .returned (.int .i64 0) ∧ MI w' B bl p n ((szs L).take k) (keepf f k) ((((szs L).take k).sum : Nat) : Int) ∧ Fr bl w w' := by
  have c1 : w.cell? ⟨p, 1, none⟩ = some (.slice (some ⟨g, 0, none⟩) L.length lc) := cell_of_block h.cells 1
  have hlc : L.length ≤ lc ∧ lc ≤ 9223372036854775807 := by
    obtain ⟨a, c, e, e1, e2⟩ := ownsRow_form h.row
    simp only [Value.slice.injEq] at e
    obtain ⟨-, -, rfl⟩ := e
    unfold maxLen at e2
    omega
  have i0 : (0 : Int) ≤ (k : Int) := by omega
  have i1 : (k : Int) ≤ (L.length : Int) := by omega
  have i2 : (k : Int) ≤ (lc : Int) := by omega
  have hsl : (szs L).length = L.length := by simp [szs]
  have hcb : Hid (∀ c ∈ szs L, c ≤ 65536) := fun c hc => by
    have := mem_sum hc
    omega
  have H := hideIt h
  have HF := hideIt hf
  have HS := hideIt hs
  have HT := hideIt ht
  have HSL := hideIt hsl
  clear h hs ht hf hsl
  have d1 : decide ((k : Int) < 0) = false := by simp
  have d2 : decide (L.length < k) = false := by simp; omega
  go_enter Try.func85, Try.ntmps85
  go_wp2_with (fail)
  go_loopw [5] (fun o wr => ∃ m : Nat, o = .int .i64 m ∧ k ≤ m ∧ m ≤ L.length ∧ MX wr B bl p n L (keepF F k m) (t - ((((szs L).take m).sum : Nat) : Int) + ((((szs L).take k).sum : Nat) : Int)) M (some ⟨g, 0, none⟩) lc ∧ Fr bl w wr) (fun o _ => L.length - (intOf o).toNat)
  case atStart => exact ⟨k, rfl, Nat.le_refl _, hk, by rw [keepF_start, Int.sub_add_cancel]; exact H.out, Fr.refl _ _⟩
  case round =>
    obtain ⟨m, rfl, hkm, hm, hx, hFr⟩ := hrel
    have c2 : wr.cell? ⟨p, 1, none⟩ = some (.slice (some ⟨g, 0, none⟩) L.length lc) := cell_of_block hx.cells 1
    have HX := hideIt hx
    have HFr := hideIt hFr
    by_cases hmm : m < L.length
    · obtain ⟨d, hd⟩ : ∃ d, L[m]? = some d := ⟨L[m], by simp [hmm]⟩
      have hc : (szs L)[m]? = some d.c := by simp [szs, hd]
      have hcm := hcb.out d.c (List.mem_of_getElem? hc)
      have HD := hideIt hd
      have st := sum_take hc
      have s1 : ((szs L).take m).sum + ((szs L).drop m).sum = (szs L).sum := by rw [← List.sum_append, List.take_append_drop]
      have s2 : ((szs L).take k).sum + ((szs L).drop k).sum = (szs L).sum := by rw [← List.sum_append, List.take_append_drop]
      have b1 : -100000 ≤ t - ((((szs L).take m).sum : Nat) : Int) + ((((szs L).take k).sum : Nat) : Int) := by have := HT.out; have := HS.out; omega
      have b2 : t - ((((szs L).take m).sum : Nat) : Int) + ((((szs L).take k).sum : Nat) : Int) ≤ 200000 := by have := HT.out; have := HS.out; omega
      have TE := hideIt (show (t - ((((szs L).take m).sum : Nat) : Int) + ((((szs L).take k).sum : Nat) : Int)) - (d.c : Int) = t - ((((szs L).take (m + 1)).sum : Nat) : Int) + ((((szs L).take k).sum : Nat) : Int) by rw [st]; omega)
      have EM := hideIt (empty_any hx hd (fun b o e => by
          simp only [keepF] at e
          rw [if_neg (by omega)] at e
          obtain ⟨v, q⟩ := o
          exact List.mem_of_getElem? (HF.out.pos m d b v q hd e).2) ⟨by omega, by omega⟩ (held_i64 HF.out trivial hd (fun c hc => by have := hcb.out c hc; omega)) hl (by have := HF.out.len m d hd; omega))
      clear hx hFr hd hc st s1 s2
      generalize t - ((((szs L).take m).sum : Nat) : Int) + ((((szs L).take k).sum : Nat) : Int) = T at HX EM TE b1 b2
      have m0 : (0 : Int) ≤ (m : Int) := by omega
      have m1 : (m : Int) < (L.length : Int) := by omega
      go_wp2_with (first | (go_at_call 108; refine EM.out.mono ?_; rintro e x1 ⟨rfl, hy, hF1⟩; have HY := hideIt hy; have HF1 := hideIt hF1; obtain ⟨g', eg, r1, -, -⟩ := hy.at HD.out; cases eg; have k1 : x1.cell? ⟨p, 1, none⟩ = some (.slice (some ⟨g, 0, none⟩) L.length lc) := cell_of_block hy.cells 1; have k2 : x1.cell? ⟨p, 2, none⟩ = some (.int .i64 T) := cell_of_block hy.cells 2; have k3 : x1.frozen? ⟨p, 2, none⟩ = false := free_of_block hy.cells 2; clear hy hF1) | fail)
      go_region
      all_goals go_wp2_with (fail)
      all_goals go_roundw
      case rel =>
        obtain ⟨z1, z2⟩ := HY.out.told (T - d.c) 1
        rw [keepF_next F hkm] at z1
        exact ⟨m + 1, by go_num, by omega, hmm, by rw [← TE.out]; exact z1, (HFr.out.trans HF1.out).trans z2⟩
      case measure => simp [intOf]; omega
    · have e1 : m = L.length := by omega
      have TE := hideIt (show t - ((((szs L).take m).sum : Nat) : Int) + ((((szs L).take k).sum : Nat) : Int) = ((((szs L).take k).sum : Nat) : Int) by rw [e1, ← HSL.out, List.take_length, HT.out]; omega)
      rw [TE.out] at HX
      have k4 : wr.frozen? ⟨p, 1, none⟩ = false := free_of_block HX.out.cells 1
      have HE := hideIt e1
      have d3 : decide ((m : Int) < (L.length : Int)) = false := by simp; omega
      clear hx hFr e1
      go_wp2_with (fail)
      go_ret
      obtain ⟨z1, z2⟩ := keep_mx HX.out hk
      refine ⟨rfl, ⟨_, _, _, _, _, z1, keep_mf HF.out hk HE.out, by simp [szs, List.map_take]⟩, HFr.out.trans z2⟩

set_option maxRecDepth 100000 in
theorem keep_nil {w : World} {B : Nat} {bl : Nat → Prop} {p n : Nat} {F : FF} {t : Int} {M : Nat} (h : MX w B bl p n [] F t M none 0) :
    Calls Try.prog 85 #[.pointer (some ⟨p, 0, none⟩), .int .i64 0] w fun e w' => e = .returned (.int .i64 0) ∧ w' = w.setCell ⟨p, 1, none⟩ (.slice none 0 0) := by
  have c1 : w.cell? ⟨p, 1, none⟩ = some (.slice none 0 0) := cell_of_block h.cells 1
  have c2 : w.frozen? ⟨p, 1, none⟩ = false := free_of_block h.cells 1
  clear h
  go_enter Try.func85, Try.ntmps85
  go_wp2_with (fail)
  go_loopw [5] (fun o wr => o = .int .i64 0 ∧ wr = w) (fun o _ => 0)
  case atStart => exact ⟨rfl, rfl⟩
  case round =>
    obtain ⟨rfl, rfl⟩ := hrel
    go_wp2_with (fail)
    go_ret
    exact ⟨rfl, rfl⟩

theorem setCell_same {w : World} {b j : Nat} {cs : Array Value} {T : TypeId} {u : Value} (h : w.heap[b]? = some (.cells cs T (0, 0))) (hu : cs[j]? = some u) : ∀ k : Nat, (w.setCell ⟨b, j, none⟩ u).heap[k]? = w.heap[k]? := fun k => by
  by_cases e : k = b
  · subst e
    rw [block_setCell h, h]
    congr 2
    apply Array.ext_getElem?
    intro q
    by_cases hq : q = j
    · subst hq; rw [hu]; simp [(Array.getElem?_eq_some_iff.1 hu).1]
    · rw [Array.getElem?_setIfInBounds_ne (by omega)]
  · exact Below.heap_setCell _ _ _ _ e

theorem keep_any {w : World} {B : Nat} {bl : Nat → Prop} {p n : Nat} {bs : List Nat} {f : Int → Int → Int} {t : Int} (h : MI w B bl p n bs f t) (k : Nat) (hk : k ≤ bs.length) (ht : t = ((bs.sum : Nat) : Int)) (hs : bs.sum ≤ 65536) (hl : bs.length ≤ 1000000) (hn : n ≤ 100000000) :
    Calls Try.prog 85 #[.pointer (some ⟨p, 0, none⟩), .int .i64 (k : Int)] w fun e w' => e = .returned (.int .i64 0) ∧ MI w' B bl p n (bs.take k) (keepf f k) (((bs.take k).sum : Nat) : Int) ∧ Fr bl w w' := by
  obtain ⟨L, F, M, la, lc, h, hf, rfl⟩ := h
  have hsl : (szs L).length = L.length := by simp [szs]
  rcases h.row.2 with ⟨e0, e1⟩ | ⟨g, cap, cur, e0, -⟩
  · simp only [Value.slice.injEq] at e0
    obtain ⟨rfl, -, rfl⟩ := e0
    obtain rfl : L = [] := List.length_eq_zero_iff.1 e1
    obtain rfl : k = 0 := by rw [hsl] at hk; exact Nat.le_zero.1 hk
    refine (keep_nil h).mono ?_
    rintro e w' ⟨rfl, rfl⟩
    have hsame := setCell_same (j := 1) h.cells (u := .slice none 0 0) rfl
    refine ⟨rfl, ⟨[], F, M, none, 0, ?_, ?_, rfl⟩, ?_⟩
    · rw [ht] at h
      exact h.kept (fun q _ => hsame q) (by simp)
    · have hz : keepf f 0 = f := by
        funext a b
        simp only [keepf]
        split
        · rfl
        · exact (hf.out a b (by simp [inB, szs])).symm
      rw [hz]; exact hf
    · exact (Fr.refl bl w).setCell (Or.inl h.inp) _
  · simp only [Value.slice.injEq] at e0
    obtain ⟨rfl, -, -⟩ := e0
    rw [hsl] at hk hl
    exact keep_some h hf k hk ht hs hl hn

end Go.Proofs.Ytaomkfhbnakbjaa.Me
