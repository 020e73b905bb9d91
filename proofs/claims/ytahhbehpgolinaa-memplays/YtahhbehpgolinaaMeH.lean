/-
  Store, the walks: contracts over the program; the conditions: what each reads lies there.
-/
import Derived.Test.YtahhbehpgolinaaMeG
import Derived.Deep.RegionLaw
namespace Go.Proofs.Ytahhbehpgolinaa.Me
open Go.RowKit
set_option linter.unusedVariables false
attribute [local go_sem ↓] run_fld0 run_fld1

theorem map_eql (M : Nat) (w : World) : (binOp .eql 55 (.map (some M)) (.map none)).run Try.prog w = .ok (.bool false) w := by
  kernel_rfl

/-- What Store reads behind has. -/
structure SA (x1 : World) (p M N : Nat) (a b old k : Int) (held : Bool) : Prop where
  p0 : x1.cell? ⟨p, 0, none⟩ = some (.map (some M))
  n0 : x1.cell? ⟨N, 0, none⟩ = some (.int .i64 a)
  n1 : x1.cell? ⟨N, 1, none⟩ = some (.int .i64 b)
  p0' : ∀ ob, (x1.alloc ob).cell? ⟨p, 0, none⟩ = some (.map (some M))
  n0' : ∀ ob, (x1.alloc ob).cell? ⟨N, 0, none⟩ = some (.int .i64 a)
  n1' : ∀ ob, (x1.alloc ob).cell? ⟨N, 1, none⟩ = some (.int .i64 b)
  lk : (Instr.lookup 55 (.map (some M)) (.agg #[.int .i64 a, .int .i64 b]) true).run Try.prog x1.drew = .ok (.tuple #[.agg #[.int .i64 old, .int .i64 k], .bool held]) x1.drew
  lk' : ∀ ob, (Instr.lookup 55 (.map (some M)) (.agg #[.int .i64 a, .int .i64 b]) true).run Try.prog (x1.alloc ob).drew = .ok (.tuple #[.agg #[.int .i64 old, .int .i64 k], .bool held]) (x1.alloc ob).drew
/-- .. behind its second box. -/
structure SB (Y : World) (p M N O : Nat) (a b k : Int) : Prop where
  p0 : Y.cell? ⟨p, 0, none⟩ = some (.map (some M))
  n0 : Y.cell? ⟨N, 0, none⟩ = some (.int .i64 a)
  n1 : Y.cell? ⟨N, 1, none⟩ = some (.int .i64 b)
  o1 : Y.cell? ⟨O, 1, none⟩ = some (.int .i64 k)

abbrev hasB (w : World) (p : Nat) (a b : Int) : Prop := Calls Try.prog 21 #[.pointer (some ⟨p, 0, none⟩), .agg #[.int .i64 a, .int .i64 b]] (w.alloc (.cells #[.int .i64 a, .int .i64 b] 31)) fun e x1 => e = .returned (.bool true) ∧ Below (w.alloc (.cells #[.int .i64 a, .int .i64 b] 31)).heap.size (w.alloc (.cells #[.int .i64 a, .int .i64 b] 31)) x1
abbrev behB (w : World) (a b : Int) (x1 : World) : Prop := Below (w.alloc (.cells #[.int .i64 a, .int .i64 b] 31)).heap.size (w.alloc (.cells #[.int .i64 a, .int .i64 b] 31)) x1
abbrev boxS (x1 : World) (old k : Int) : World := x1.alloc (.cells #[.int .i64 old, .int .i64 k] 65)

set_option maxRecDepth 100000 in
theorem store_over {w : World} (p M : Nat) (a b v old k : Int) (hv : v ≠ 0) (N : Nat) (hN : w.heap.size = N) (hhas : hasB w p a b) (R : World → Prop)
    (hf : ∀ x1, behB w a b x1 → SA x1 p M N a b old k true ∧ ∀ Y, Sm Y (boxS x1 old k) → SB Y p M N x1.heap.size a b k ∧ ∃ Z, (Instr.mapUpdate 55 (.map (some M)) (.agg #[.int .i64 a, .int .i64 b]) (.agg #[.int .i64 v, .int .i64 k])).run Try.prog Y.drew = .ok () Z ∧ R Z) :
    Calls Try.prog 16 #[.pointer (some ⟨p, 0, none⟩), .agg #[.int .i64 a, .int .i64 b], .int .i64 v] w fun e w' => e = .returned (.int .i64 0) ∧ R w' := by
  have HH := hideIt hhas
  have HF := hideIt hf
  clear hhas hf
  have he := map_eql M
  have hv2 : (v != 0) = true := by simp [hv]
  clear hv
  go_enter Try.func16, Try.ntmps16
  go_wp2_with (first | (go_at_call 21; refine HH.out.mono ?_; rintro e x1 ⟨rfl, hb⟩; obtain ⟨⟨c0, b0, b1, d0, e0, e1, lk, lk2⟩, hY⟩ := HF.out x1 hb; have HY := hideIt hY; clear hb hY) | fail)
  go_region
  generalize hYe : (x1.alloc _).drew = Y
  obtain ⟨⟨y0, y1, y2, y3⟩, Z, z1, z2⟩ := HY.out Y (by rw [← hYe]; exact ⟨rfl, rfl, rfl, rfl⟩)
  have HZ := hideIt z2
  generalize x1.heap.size = O at *
  clear z2 hYe HY c0 b0 b1 d0 e0 e1 lk lk2
  go_wp2_with (fail)
  go_region
  go_wp2_with (fail)
  go_ret
  exact ⟨rfl, HZ.out⟩

set_option maxRecDepth 100000 in
theorem store_gone {w : World} (p M : Nat) (a b old k : Int) (N : Nat) (hN : w.heap.size = N) (hhas : hasB w p a b) (R : World → Prop)
    (hf : ∀ x1, behB w a b x1 → SA x1 p M N a b old k true ∧ ∀ Y, Sm Y (boxS x1 old k) → SB Y p M N x1.heap.size a b k ∧ Calls Try.prog 22 #[.pointer (some ⟨p, 0, none⟩), .agg #[.int .i64 a, .int .i64 b], .int .i64 k] Y fun e w' => e = .returned (.tuple #[]) ∧ R w') :
    Calls Try.prog 16 #[.pointer (some ⟨p, 0, none⟩), .agg #[.int .i64 a, .int .i64 b], .int .i64 0] w fun e w' => e = .returned (.int .i64 0) ∧ R w' := by
  have HH := hideIt hhas
  have HF := hideIt hf
  clear hhas hf
  have he := map_eql M
  go_enter Try.func16, Try.ntmps16
  go_wp2_with (first | (go_at_call 21; refine HH.out.mono ?_; rintro e x1 ⟨rfl, hb⟩; obtain ⟨⟨c0, b0, b1, d0, e0, e1, lk, lk2⟩, hY⟩ := HF.out x1 hb; have HY := hideIt hY; clear hb hY) | fail)
  go_region
  generalize hYe : (x1.alloc _).drew = Y
  obtain ⟨⟨y0, y1, y2, y3⟩, z1⟩ := HY.out Y (by rw [← hYe]; exact ⟨rfl, rfl, rfl, rfl⟩)
  have HZ := hideIt z1
  generalize x1.heap.size = O at *
  clear z1 hYe HY c0 b0 b1 d0 e0 e1 lk lk2
  go_wp2_with (first | (go_at_call 22; refine HZ.out.mono ?_; rintro e x2 ⟨rfl, hr⟩; have HR := hideIt hr; clear hr) | fail)
  go_ret
  exact ⟨rfl, HR.out⟩

set_option maxRecDepth 100000 in
theorem store_stay {w : World} (p M : Nat) (a b old k : Int) (N : Nat) (hN : w.heap.size = N) (hhas : hasB w p a b) (R : World → Prop)
    (hf : ∀ x1, behB w a b x1 → SA x1 p M N a b old k false ∧ ∀ Y, Sm Y (boxS x1 old k) → R Y) :
    Calls Try.prog 16 #[.pointer (some ⟨p, 0, none⟩), .agg #[.int .i64 a, .int .i64 b], .int .i64 0] w fun e w' => e = .returned (.int .i64 0) ∧ R w' := by
  have HH := hideIt hhas
  have HF := hideIt hf
  clear hhas hf
  have he := map_eql M
  go_enter Try.func16, Try.ntmps16
  go_wp2_with (first | (go_at_call 21; refine HH.out.mono ?_; rintro e x1 ⟨rfl, hb⟩; obtain ⟨⟨c0, b0, b1, d0, e0, e1, lk, lk2⟩, hY⟩ := HF.out x1 hb; have HY := hideIt hY; clear hb hY) | fail)
  go_region
  generalize hYe : (x1.alloc _).drew = Y
  have z1 := HY.out Y (by rw [← hYe]; exact ⟨rfl, rfl, rfl, rfl⟩)
  have HZ := hideIt z1
  generalize x1.heap.size = O at *
  clear z1 hYe HY c0 b0 b1 d0 e0 e1 lk lk2
  go_wp2_with (fail)
  go_ret
  exact ⟨rfl, HZ.out⟩

theorem infoN : (Try.prog.info? 3).map (fun i => (i.zero, i.size, i.bytes)) = some (some (.int .i64 0), 1, 8) := by kernel_rfl
/-- .. behind the entry in the map, where a new place is to be remembered. -/
structure SC (Z : World) (B g q N : Nat) (b : Int) (wa : Option Addr) (H : List Int) (hc : Nat) (R : World → Prop) : Prop where
  gs : Z.cell? ⟨g, q, none⟩ = some (.slice wa H.length hc)
  n1 : Z.cell? ⟨N, 1, none⟩ = some (.int .i64 b)
  gs' : ∀ ob, (Z.alloc ob).cell? ⟨g, q, none⟩ = some (.slice wa H.length hc)
  own : ∀ X : World, X.heap = (Z.alloc (.cells #[.int .i64 b] 3)).heap → X.ownsRow B 3 1 (.slice wa H.length hc) H.length (rowN H) ∧ (∀ j u, [Value.int .i64 b][j]? = some u → X.cell? ((⟨Z.heap.size, 0, none⟩ : Addr).add j) = some u) ∧ B ≤ X.heap.size ∧ X.heap.size = Z.heap.size + 1
  beh : ∀ X w1 : World, X.grownBy w1 (Value.slice wa H.length hc).ownBlock → Sm X (Z.alloc (.cells #[.int .i64 b] 3)) → w1.cell? ⟨g, q, none⟩ = some (.slice wa H.length hc) ∧ w1.frozen? ⟨g, q, none⟩ = false
  fin : ∀ (X w1 : World) (g2 cap : Nat), X.grownBy w1 (Value.slice wa H.length hc).ownBlock → Sm X (Z.alloc (.cells #[.int .i64 b] 3)) → w1.ownsRow B 3 1 (.slice (some ⟨g2, 0, none⟩) (H.length + 1) cap) (H.length + 1) (rowN H ++ [.int .i64 b]) → ((Value.slice wa H.length hc).ownBlock = some g2 ∨ g2 = Z.heap.size + 1) → R (w1.setCell ⟨g, q, none⟩ (.slice (some ⟨g2, 0, none⟩) (H.length + 1) cap))

set_option maxRecDepth 100000 in
set_option maxHeartbeats 1000000 in
theorem store_new {w : World} (p M g i len lc B : Nat) (b v old k : Int) (wa : Option Addr) (H : List Int) (hc : Nat) (hlen : len ≤ 1000000) (hi : i < len) (hHl : H.length ≤ 100000000) (hv : v ≠ 0) (N : Nat) (hN : w.heap.size = N) (hhas : hasB w p i b) (R : World → Prop)
    (hf : ∀ x1, behB w i b x1 → SA x1 p M N i b old k false ∧ ∀ Y, Sm Y (boxS x1 old k) → SB Y p M N x1.heap.size i b k ∧ Y.cell? ⟨p, 1, none⟩ = some (.slice (some ⟨g, 0, none⟩) len lc) ∧ Y.cell? ⟨g, i * 2 + 1, none⟩ = some (.slice wa H.length hc) ∧
      ∃ Z, (Instr.mapUpdate 55 (.map (some M)) (.agg #[.int .i64 (i : Int), .int .i64 b]) (.agg #[.int .i64 v, .int .i64 (H.length : Int)])).run Try.prog Y.drew.drew = .ok () Z ∧ SC Z B g (i * 2 + 1) N b wa H hc R) :
    Calls Try.prog 16 #[.pointer (some ⟨p, 0, none⟩), .agg #[.int .i64 (i : Int), .int .i64 b], .int .i64 v] w fun e w' => e = .returned (.int .i64 0) ∧ R w' := by
  have HH := hideIt hhas
  have HF := hideIt hf
  clear hhas hf
  obtain ⟨j0, hj, hz0, hz1, hz2⟩ := info_parts infoN
  have HT := hideIt (And.intro hj (And.intro hz0 (And.intro hz1 hz2)))
  clear hj hz0 hz1 hz2
  have he := map_eql M
  have hv2 : (v != 0) = true := by simp [hv]
  clear hv
  have i0 : (0 : Int) ≤ (i : Int) := by omega
  have i1 : (i : Int) < (len : Int) := by omega
  have H1 := hideIt (show ∀ u ∈ [Value.int .i64 b], u.oneCell' = true from fun u hu => by simp at hu; subst hu; rfl)
  have HM := hideIt (show H.length + 1 ≤ maxLen by unfold maxLen; omega)
  have HM2 := hideIt (show (H.length + 1) * 8 ≤ 140737488355328 by omega)
  go_enter Try.func16, Try.ntmps16
  go_wp2_with (first | (go_at_call 21; refine HH.out.mono ?_; rintro e x1 ⟨rfl, hb⟩; obtain ⟨⟨c0, b0, b1, d0, e0, e1, lk, lk2⟩, hY⟩ := HF.out x1 hb; have HY := hideIt hY; clear hb hY) | fail)
  go_region
  generalize hYe : (x1.alloc _).drew = Y
  obtain ⟨⟨y0, y1, y2, y3⟩, y4, y5, Z, z1, z2⟩ := HY.out Y (by rw [← hYe]; exact ⟨rfl, rfl, rfl, rfl⟩)
  have HZ := hideIt z2
  generalize x1.heap.size = O at *
  clear z2 hYe HY c0 b0 b1 d0 e0 e1 lk lk2
  go_wp2_with (fail)
  go_region
  go_wp2_with (fail)
  go_region
  obtain ⟨q1, q2, q3, -, -, -⟩ := HZ.out
  clear y0 y1 y2 y3 y4 y5 z1
  go_wp2_with (fail)
  go_region_law ((refine step_append_lies _ (by rfl) _ _ 59 (by rfl) B 3 j0 (.int .i64 0) 1 8 Try.underlying59 HT.out.1 HT.out.2.1 HT.out.2.2.1 HT.out.2.2.2 rfl (by decide) (.slice wa H.length hc) H.length (rowN H) (by rfl) (HZ.out.own _ rfl).1 ⟨Z.heap.size, 0, none⟩ 1 1 [.int .i64 b] (by rfl) rfl (HZ.out.own _ rfl).2.1 H1.out (by decide) HM.out HM2.out (HZ.out.own _ rfl).2.2.1 (Z.heap.size + 1) (HZ.out.own _ rfl).2.2.2 ?_; intro g2 cap w1 hown hgrow hat hlt; obtain ⟨k1, k2⟩ := HZ.out.beh _ w1 hgrow ⟨rfl, rfl, rfl, rfl⟩; have HR := hideIt (HZ.out.fin _ w1 g2 cap hgrow ⟨rfl, rfl, rfl, rfl⟩ hown hat); clear hown hgrow hat))
  all_goals go_wp2_with (fail)
  all_goals go_ret
  all_goals exact ⟨rfl, HR.out⟩

end Go.Proofs.Ytahhbehpgolinaa.Me
