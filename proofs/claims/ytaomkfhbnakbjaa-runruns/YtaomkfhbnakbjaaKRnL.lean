/-
  A function's registers: a call that hands no arguments over begins.
  A function's registers: a call ends: those that came to be other than 0 are 0 again.
  A function's registers: a call ends (the walk).
  Small functions of layer 14: index, missing.
-/
import Derived.Laws.CopyOwn
import Derived.Test.YtaomkfhbnakbjaaKRnH
namespace Go.Proofs.Ytaomkfhbnakbjaa
open Go.RowKit
set_option linter.unusedVariables false

theorem rg_sizeI64 : (Try.prog.info? 2).map (·.size) = some 1 := by kernel_rfl

theorem begin_none (w : World) (gb go : Nat) (ha aa : Option Addr) (hl hc ac : Nat) (hcell : w.cell? ⟨gb, go, none⟩ = some (.slice ha hl hc)) :
    Calls Try.prog 82 #[.pointer (some ⟨gb, go, none⟩), .slice aa 0 ac] w fun e w' => e = .returned (.tuple #[]) ∧ w' = w := by
  have hr := reach_stay w gb go ha hl hc hcell 0 (Nat.zero_le _)
  have HC := hideIt hr
  have HM := hideIt (show Nat.min 0 hl = 0 from Nat.zero_min hl)
  clear hr
  go_enter Try.func82, Try.ntmps82
  go_wp2_with (fail)
  go_at_call 103
  refine HC.out.mono ?_
  rintro e y ⟨rfl, rfl⟩
  go_wp2_with (first | (refine wpList_copy_nothing rfl (.tmp 11) (.tmp 12) 23 23 rfl 2 Try.underlying23 rg_sizeI64 ha aa hl hc 0 ac rfl rfl HM.out ?_) | fail)
  go_end0
  exact ⟨rfl, rfl⟩

end Go.Proofs.Ytaomkfhbnakbjaa

namespace Go.Proofs.Ytaomkfhbnakbjaa
open Go.RowKit
set_option linter.unusedVariables false

def zeroed (H : List Int) (ns : List Int) : List Int := ns.foldl (fun H n => H.set n.toNat 0) H
theorem zeroed_len (H ns : List Int) : (zeroed H ns).length = H.length := by
  unfold zeroed
  induction ns generalizing H with
  | nil => rfl
  | cons n ns ih => rw [List.foldl_cons, ih, List.length_set]
theorem zeroed_snoc (H ns : List Int) (n : Nat) : zeroed H (ns ++ [(n : Int)]) = (zeroed H ns).set n 0 := by
  unfold zeroed
  rw [List.foldl_append]
  rfl
theorem zeroed_step (H W : List Int) (k n : Nat) (h : W[k]? = some (n : Int)) : zeroed H (W.take (k + 1)) = (zeroed H (W.take k)).set n 0 := by
  rw [List.take_add_one, h]
  exact zeroed_snoc H _ n

/-- One round. -/
theorem end_round {w wr : World} {gb go base : Nat} {H W : List Int} {cs : Array Value} {T : TypeId} {ha wa : Option Addr} {hc wc k n : Nat} (h : RG wr gb go base (zeroed H (W.take k)) W cs T (.slice ha H.length hc) (.slice wa W.length wc)) (hk : W[k]? = some (n : Int)) (hn : n < H.length) (f : Rf2 w wr gb (Value.slice ha H.length hc).ownBlock none) :
    ∃ g g2, ha = some ⟨g, 0, none⟩ ∧ wa = some ⟨g2, 0, none⟩ ∧ wr.cell? ⟨gb, go, none⟩ = some (.slice (some ⟨g, 0, none⟩) H.length hc) ∧ wr.cell? ⟨g2, k, none⟩ = some (.int .i64 (n : Int)) ∧ (∃ u, wr.cell? ⟨g, n, none⟩ = some u) ∧ wr.frozen? ⟨g, n, none⟩ = false ∧
      RG (wr.setCell ⟨g, n, none⟩ (.int .i64 0)) gb go base (zeroed H (W.take (k + 1))) W cs T (.slice (some ⟨g, 0, none⟩) H.length hc) (.slice (some ⟨g2, 0, none⟩) W.length wc) ∧ Rf2 w (wr.setCell ⟨g, n, none⟩ (.int .i64 0)) gb (Value.slice (some ⟨g, 0, none⟩) H.length hc).ownBlock none := by
  have hl := zeroed_len H (W.take k)
  obtain ⟨u, hu⟩ : ∃ u, (zeroed H (W.take k))[n]? = some u := ⟨_, List.getElem?_eq_getElem (by omega)⟩
  obtain ⟨g, cap, cur, e1, e2, e3, -, -⟩ := row_at h.oh hu
  obtain ⟨g2, cap2, cur2, d1, d2, d3, -, -⟩ := row_at h.ow hk
  injection e1 with e1 _ e1'
  injection d1 with d1 _ d1'
  subst e1; subst d1; subst e1'; subst d1'
  refine ⟨g, g2, rfl, rfl, by simp [World.cell?, h.blk, h.c0], by simp [World.cell?, d2, d3], ⟨_, by simp [World.cell?, e2, e3]; rfl⟩, by simp [World.frozen?, e2], ?_, ?_⟩
  · rw [zeroed_step H W k n hk]
    have h' := h
    rw [← hl] at h' ⊢
    exact rg_put h' n 0
  · exact ⟨f.os, f.tape, f.output, by simpa using f.size, fun j j1 j2 j3 j4 => by
      rw [heap_setCell_other _ _ j _ (fun e => j3 (by rw [e]; rfl))]
      exact f.block j j1 j2 j3 j4⟩

/-- The last store. -/
theorem end_last {w wr : World} {gb go base : Nat} {L W : List Int} {cs : Array Value} {T : TypeId} {hv : Value} {wa : Option Addr} {wc : Nat} (h : RG wr gb go base L W cs T hv (.slice wa W.length wc)) (f : Rf2 w wr gb hv.ownBlock none) :
    wr.cell? ⟨gb, go + 1, none⟩ = some (.slice wa W.length wc) ∧ wr.frozen? ⟨gb, go + 1, none⟩ = false ∧
    RG (wr.setCell ⟨gb, go + 1, none⟩ (.slice wa 0 wc)) gb go base L [] (cs.setIfInBounds (go + 1) (.slice wa 0 wc)) T hv (.slice wa 0 wc) ∧ Rf2 w (wr.setCell ⟨gb, go + 1, none⟩ (.slice wa 0 wc)) gb hv.ownBlock none := by
  have hgo := (Array.getElem?_eq_some_iff.1 h.c1).1
  have hob : (Value.slice wa 0 wc).ownBlock = (Value.slice wa W.length wc).ownBlock := by cases wa <;> rfl
  refine ⟨by simp [World.cell?, h.blk, h.c1], by simp [World.frozen?, h.blk], ⟨heap_setCell_same wr gb (go + 1) cs T _ h.blk, by rw [Array.getElem?_setIfInBounds_ne (by omega)]; exact h.c0, by simp [hgo], ?_, ?_, h.nh, by rw [hob]; exact h.nw, fun k hk => by rw [hob]; exact h.hw k hk, fun k hk => ?_⟩, ?_⟩
  · refine row_keep h.oh (fun k hk => ?_)
    rw [heap_setCell_other wr _ k _ (fun e => h.nh (by rw [hk, e]))]
  · refine row_keep (w := wr) ⟨rfl, ?_⟩ (fun k hk => ?_)
    · rcases h.ow.2 with ⟨e0, -⟩ | ⟨g, cap, cur, e0, e1, e2, e3, e4, e5, e6⟩
      · injection e0 with e0 _ e0'
        subst e0; subst e0'
        exact .inl ⟨rfl, rfl⟩
      · injection e0 with e0 _ e0'
        subst e0; subst e0'
        exact .inr ⟨g, wc, cur, rfl, e1, e2, Nat.zero_le _, e4, e5, by simp [rowI]⟩
    · rw [hob] at hk
      rw [heap_setCell_other wr _ k _ (fun e => h.nw (by rw [hk, e]))]
  · rw [hob] at hk
    rw [World.size_setCell]
    exact h.lw k hk
  · exact ⟨f.os, f.tape, f.output, by simpa using f.size, fun j j1 j2 j3 j4 => by rw [heap_setCell_other _ _ j _ j2]; exact f.block j j1 j2 j3 j4⟩

end Go.Proofs.Ytaomkfhbnakbjaa

namespace Go.Proofs.Ytaomkfhbnakbjaa
open Go.RowKit
set_option linter.unusedVariables false

set_option maxHeartbeats 1000000 in
theorem rend_any (w : World) (gb go base : Nat) (H W : List Int) (cs : Array Value) (T : TypeId) (ha wa : Option Addr) (hc wc : Nat) (h : RG w gb go base H W cs T (.slice ha H.length hc) (.slice wa W.length wc)) (hW : ∀ m ∈ W, ∃ n : Nat, m = (n : Int) ∧ n < H.length) (hWl : W.length ≤ 8388608) (hHl : H.length ≤ 1048576) :
    Calls Try.prog 84 #[.pointer (some ⟨gb, go, none⟩)] w fun e w' => e = .returned (.tuple #[]) ∧
      RG w' gb go base (zeroed H W) [] (cs.setIfInBounds (go + 1) (.slice wa 0 wc)) T (.slice ha H.length hc) (.slice wa 0 wc) ∧ Rf2 w w' gb (Value.slice ha H.length hc).ownBlock none := by
  have HH := hideIt h
  have HW := hideIt hW
  have c1 : w.cell? ⟨gb, go + 1, none⟩ = some (.slice wa W.length wc) := by simp [World.cell?, h.blk, h.c1]
  clear h hW
  go_enter Try.func84, Try.ntmps84
  go_wp2_with (fail)
  go_loopw [9] (fun o wr => ∃ k : Nat, o = .int .i64 k ∧ k ≤ W.length ∧ RG wr gb go base (zeroed H (W.take k)) W cs T (.slice ha H.length hc) (.slice wa W.length wc) ∧ Rf2 w wr gb (Value.slice ha H.length hc).ownBlock none) (fun o _ => W.length - (intOf o).toNat)
  case atStart => exact ⟨0, rfl, Nat.zero_le _, HH.out, ⟨rfl, rfl, rfl, Nat.le_refl _, fun _ _ _ _ _ => rfl⟩⟩
  case round =>
    obtain ⟨k, rfl, hk, hm, hF⟩ := hrel
    by_cases hkc : k < W.length
    · obtain ⟨m, hm1⟩ := get_of_lt hkc
      obtain ⟨n, rfl, hn⟩ := HW.out m (List.mem_of_getElem? hm1)
      obtain ⟨g, g2, rfl, rfl, d1, d2, ⟨u, d3⟩, d4, d5, d6⟩ := end_round hm hm1 hn hF
      have D5 := hideIt d5
      have D6 := hideIt d6
      have hk1 : decide ((k : Int) < (W.length : Int)) = true := by simp; omega
      have hn1 : (n : Int) < (H.length : Int) := by omega
      have hk2 : IntKind.i64.wrap ((k : Int) + 1) = (k : Int) + 1 := by rw [IntKind.wrap_i64]; omega
      clear hm hF d5 d6 hm1 c1
      go_wp2_with (fail)
      go_roundw
      case rel => exact ⟨k + 1, by go_num, hkc, D5.out, D6.out⟩
      case measure => simp [intOf]; omega
    · have e1 : k = W.length := by omega
      subst e1
      rw [List.take_length] at hm
      obtain ⟨d1, d2, d3, d4⟩ := end_last hm hF
      have D3 := hideIt d3
      have D4 := hideIt d4
      clear hm hF d3 d4 c1
      go_wp2_with (fail)
      go_end0
      exact ⟨rfl, D3.out, D4.out⟩

end Go.Proofs.Ytaomkfhbnakbjaa

namespace Go.Proofs.Ytaomkfhbnakbjaa
open Go.RowKit
set_option linter.unusedVariables false

theorem index_bad (w : World) (a p l : Int) (h : p < 0 ∨ l ≤ p) : Calls Try.prog 132 #[.int .i64 a, .int .i64 p, .int .i64 l] w fun e w' => e = .returned (.tuple #[.int .i64 0, .int .u8 4]) ∧ w' = w := by
  by_cases h0 : p < 0
  · have h1 : decide (p < 0) = true := by simpa using h0
    go_enter Try.func132, Try.ntmps132
    go_wp2
    go_ret2
    exact ⟨rfl, rfl⟩
  · have h1 : decide (p < 0) = false := by simpa using h0
    have h2 : decide (l ≤ p) = true := by simp; omega
    go_enter Try.func132, Try.ntmps132
    go_wp2
    go_ret2
    exact ⟨rfl, rfl⟩

theorem index_ok (w : World) (a p l : Int) (h0 : ¬ p < 0) (h : p < l) : Calls Try.prog 132 #[.int .i64 a, .int .i64 p, .int .i64 l] w fun e w' => e = .returned (.tuple #[.int .i64 (wrap64 (a + p)), .int .u8 0]) ∧ w' = w := by
  have h1 : decide (p < 0) = false := by simpa using h0
  have h2 : decide (l ≤ p) = false := by simp; omega
  go_enter Try.func132, Try.ntmps132
  go_wp2
  go_ret2
  exact ⟨rfl, rfl⟩

theorem missing_ok (w : World) : Calls Try.prog 129 #[.int .i64 0] w fun e w' => e = .returned (.int .u8 0) ∧ w' = w := by
  go_enter Try.func129, Try.ntmps129
  go_wp2
  go_ret
  exact ⟨rfl, rfl⟩

theorem missing_bad (w : World) (e0 : Int) (h : ¬ e0 = 0) : Calls Try.prog 129 #[.int .i64 e0] w fun e w' => e = .returned (.int .u8 5) ∧ w' = w := by
  have h1 : (e0 != 0) = true := by simpa using h
  go_enter Try.func129, Try.ntmps129
  go_wp2
  go_ret
  exact ⟨rfl, rfl⟩

end Go.Proofs.Ytaomkfhbnakbjaa
