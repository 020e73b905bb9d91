/-
 The copies of instructions: a contract over the program.
-/
import Derived.Test.YtphknepblchkdaaKIrZc
namespace Go.Proofs.Ytphknepblchkdaa
open Go.RowKit
set_option linter.unusedVariables false

/-- What holds while instructions are copied: i of them are. -/
structure CpI (B G : Nat) (l : List PI) (i : Nat) (L : List PI) (W : World) : Prop where
 len : L.length = l.length
 blk : W.heap[G]? = some (.cells (L.flatMap PI.cells).toArray 49 (0, 0))
 ev : ∀ (k : Nat) (x y : PI), L[k]? = some x → l[k]? = some y → EvI x y
 new : ∀ (k : Nat) (x : PI), L[k]? = some x → k < i → x.ok W ∧ NB B W x.aa x.args.length
 old : ∀ k, i ≤ k → L[k]? = l[k]?
 up : ∀ (k1 k2 : Nat) (x1 x2 : PI) (b1 b2 : Nat), L[k1]? = some x1 → L[k2]? = some x2 → k1 < k2 → k2 < i → aaB x1 b1 → aaB x2 b2 → b1 < b2
 beh : ∀ (k : Nat) (x : PI), L[k]? = some x → k < i → ∀ b, aaB x b → G < b

theorem CpI.done {B G : Nat} {l : List PI} {L : List PI} {W : World} (h : CpI B G l l.length L W) (hb : B ≤ G) : InsL B W (some ⟨G, 0, none⟩) L ∧ EvL EvI L l := by
 refine ⟨⟨fun k x hx => ⟨G, 0, rfl, ?_, (h.new k x hx ?_).1⟩, Or.inr ⟨G, _, _, rfl, hb, h.blk⟩, fun x hx => ?_, fun k1 k2 x1 x2 b1 b2 e1 e2 h12 => h.up k1 k2 x1 x2 b1 b2 e1 e2 h12 (by rw [← h.len]; exact (List.getElem?_eq_some_iff.1 e2).1), fun x hx b hb g hg => ?_⟩, h.len, h.ev⟩
 ·rw [Nat.zero_add]
  exact flat_block PI.len h.blk hx
 ·rw [← h.len]
  exact (List.getElem?_eq_some_iff.1 hx).1
 ·obtain ⟨k, hk⟩ := List.mem_iff_getElem?.1 hx
  exact (h.new k x hk (by rw [← h.len]; exact (List.getElem?_eq_some_iff.1 hk).1)).2
 ·obtain ⟨k, hk⟩ := List.mem_iff_getElem?.1 hx
  simp at hg
  subst hg
  exact h.beh k x hk (by rw [← h.len]; exact (List.getElem?_eq_some_iff.1 hk).1) b hb

theorem CpI.step {B G : Nat} {l L : List PI} {i : Nat} {W W' : World} (h : CpI B G l i L W) {x : PI} (hx : L[i]? = some x) (hxo : x.ok W) {ao : Option Addr} {c : Nat} (q : Q W W') (hi : Ints W' ao x.args) (hs : sok 8 ao x.args.length c) (hn : NB W.heap.size W' ao x.args.length) (hB : B ≤ W.heap.size) :
  CpI B G l (i + 1) (L.set i { x with aa := ao, ac := c }) (W'.setCell ⟨G, i * 7 + 6, none⟩ (.slice ao x.args.length c)) := by
 have hb' := heap_keep q h.blk
 have hcell : W'.cell? ⟨G, i * 7 + 6, none⟩ = some (.slice x.aa x.args.length x.ac) := (flat_block PI.len hb' hx).cell 6 _ rfl
 have hil : i < L.length := (List.getElem?_eq_some_iff.1 hx).1
 refine ⟨by simp [h.len], flat_step PI.len hb' hx (by omega) rfl, fun k y z hy hz => ?_, fun k y hy hk => ?_, fun k hk => ?_, fun k1 k2 x1 x2 b1 b2 e1 e2 h12 h2i a1 a2 => ?_, fun k y hy hk b hb => ?_⟩
 ·rw [List.getElem?_set] at hy
  split at hy
  ·rename_i e
   subst e
   simp at hy
   subst hy
   have := h.ev i x z hx hz
   exact ⟨this.op, this.ty, this.dst, this.a, this.b, this.imm, this.args⟩
  ·exact h.ev k y z hy hz
 ·rw [List.getElem?_set] at hy
  split at hy
  ·rename_i e
   subst e
   simp at hy
   subst hy
   exact ⟨⟨hxo.op, hxo.ty, hxo.dst, hxo.a, hxo.b, hxo.imm, hs, hi.set hcell⟩, (hn.mono hB).set _⟩
  ·obtain ⟨h1, h2⟩ := h.new k y hy (by omega)
   have h3 := h1.keep q
   exact ⟨⟨h3.op, h3.ty, h3.dst, h3.a, h3.b, h3.imm, h3.sok, h3.args.set hcell⟩, (h2.keep q).set _⟩
 ·rw [List.getElem?_set_ne (by omega)]
  exact h.old k (by omega)
 ·rw [List.getElem?_set_ne (by omega)] at e1
  by_cases e : k2 = i
  ·subst e
   rw [List.getElem?_set_self hil] at e2
   simp at e2
   subst e2
   have h1 := (hn.lb (len_ne a2.1) a2.2).1
   have h2 := ((h.new k1 x1 e1 h12).2.lb (len_ne a1.1) a1.2).2
   omega
  ·rw [List.getElem?_set_ne (by omega)] at e2
   exact h.up k1 k2 x1 x2 b1 b2 e1 e2 h12 (by omega) a1 a2
 ·rw [List.getElem?_set] at hy
  split at hy
  ·rename_i e
   subst e
   simp at hy
   subst hy
   have h1 := (hn.lb (len_ne hb.1) hb.2).1
   have h2 : G < W.heap.size := (Array.getElem?_eq_some_iff.1 h.blk).1
   omega
  ·exact h.beh k y hy (by omega) b hb

set_option maxRecDepth 100000 in
set_option maxHeartbeats 1000000 in
theorem insts_any (w : World) (a : Option Addr) (c : Nat) (l : List PI) (hs : sok 64 a l.length c) (hl : Insts w a l) : Calls Try.prog 39 #[.slice a l.length c] w fun e w' => ∃ a' c' l', e = .returned (.slice a' l.length c') ∧ EvL EvI l' l ∧ sok 64 a' l.length c' ∧ InsL w.heap.size w' a' l' ∧ Q w w' := by
 have CC := hideIt (listInst_any w a l.length c (l.flatMap PI.cells) hs (by rw [flat_len _ 7 PI.len]) (lst_src PI.len (by omega) (fun _ _ _ h => h.1) hl) (fun v hv => by
  obtain ⟨x, _, hx⟩ := List.mem_flatMap.1 hv
  exact cells_one x v hx))
 have CN := hideIt (fun X (x : PI) (hx : x.ok X) => listInts_new X x.aa x.ac x.args hx.sok hx.args)
 have hlen : l.length ≤ 9223372036854775807 := hs.len
 have HS := hideIt hs
 have HL := hideIt hl
 clear hs hl
 cases a with
 | none =>
  have h0 : l.length = 0 := by have := HS.out.1; have := HS.out.2.2.1 rfl; omega
  obtain rfl : l = [] := List.eq_nil_of_length_eq_zero h0
  have hc0 : c = 0 := HS.out.2.2.1 rfl
  subst hc0
  dsimp only [List.length_nil] at *
  have C0 : Hid (Calls Try.prog 61 #[.slice none 0 0] w fun e w' => e = .returned (.slice none 0 0) ∧ w' = w) := CC.out.mono fun e w' h => by
   rcases h with ⟨_, h1, h2⟩ | ⟨⟨_, h1⟩, _⟩
   ·exact ⟨h1, h2⟩
   ·cases h1
  clear CC
  go_enter Try.func39, Try.ntmps39
  go_wp2_with (first | (go_at_call 61; refine C0.out.mono ?_; rintro e x1 ⟨rfl, rfl⟩) | fail)
  refine wp_loop_rounds 1 ?_
  rw [rounds_succ]
  go_wp2
  go_ret
  exact ⟨none, 0, [], rfl, ⟨rfl, fun k x y h => by simp at h⟩, sok_none _, ⟨Lst.nil, Or.inl rfl, fun x hx => by simp at hx, OrdI.nil _⟩, Q.refl _⟩
 | some ad =>
  have C0 : Hid (Calls Try.prog 61 #[.slice (some ad) l.length c] w fun e w' => e = .returned (.slice (some ⟨w.heap.size, 0, none⟩) l.length l.length) ∧ w'.heap[w.heap.size]? = some (.cells (l.flatMap PI.cells).toArray 49 (0, 0)) ∧ Q w w') := CC.out.mono fun e w' h => by
   rcases h with ⟨h1, _⟩ | ⟨_, h1, h2, h3⟩
   ·cases h1
   ·exact ⟨h1, h2, h3⟩
  clear CC
  go_enter Try.func39, Try.ntmps39
  go_wp2_with (first | (go_at_call 61; refine C0.out.mono ?_; rintro e x1 ⟨rfl, hh, q1⟩; have HH := hideIt hh; have H1 := hideIt q1; clear hh q1) | fail)
  have I0 : Hid (CpI w.heap.size w.heap.size l 0 l x1) := ⟨rfl, HH.out, fun k x y h1 h2 => by rw [h1] at h2; simp at h2; subst h2; exact ⟨rfl, rfl, rfl, rfl, rfl, rfl, rfl⟩, fun k x _ h => by omega, fun k _ => rfl, fun k1 k2 x1 x2 b1 b2 _ _ _ h => by omega, fun k x _ h => by omega⟩
  go_loopw [4, 9] (fun d i wr => ∃ (k : Nat) (L : List PI), i = .int .i64 k ∧ k ≤ l.length ∧ CpI w.heap.size w.heap.size l k L wr ∧ Q w wr) (fun _ i _ => l.length - (intOf i).toNat)
  case atStart => exact ⟨0, l, rfl, by omega, I0.out, H1.out⟩
  case round =>
   obtain ⟨k, L, rfl, hk, hcp, hq⟩ := hrel
   have HCP := hideIt hcp
   have HQ := hideIt hq
   clear hcp hq
   by_cases hlt : k < l.length
   ·obtain ⟨x, hx⟩ := get_of_lt hlt
    have hLx : L[k]? = some x := by rw [HCP.out.old k (Nat.le_refl _)]; exact hx
    obtain ⟨_, _, -, -, hxo⟩ := Insts.keep HQ.out HL.out k x hx
    have CN1 := hideIt (CN.out wr x hxo)
    have HX := hideIt hLx
    have HXO := hideIt hxo
    have hkl : (k : Int) < (l.length : Int) := by omega
    have c6 : wr.cell? ⟨w.heap.size, k * 7 + 6, none⟩ = some (.slice x.aa x.args.length x.ac) := (flat_block PI.len HCP.out.blk hLx).cell 6 _ rfl
    have hwl : w.heap.size < wr.heap.size := (Array.getElem?_eq_some_iff.1 HCP.out.blk).1
    clear hx hLx hxo
    go_wp2_with (first | (go_at_call 35; refine CN1.out.mono ?_; rintro e x2 ⟨ao, ac, rfl, i2, s2, n2, q2⟩; have HI2 := hideIt (And.intro i2 (And.intro s2 (And.intro n2 q2))); have c6' := cell_keep q2 c6; have fz : x2.frozen? ⟨w.heap.size, k * 7 + 6, none⟩ = false := free_of_block (heap_keep q2 HCP.out.blk) _; clear i2 s2 n2 q2) | fail)
    go_roundw
    case rel =>
     obtain ⟨i2, s2, n2, q2⟩ := HI2.out
     exact ⟨k + 1, _, by go_num, by omega, HCP.out.step HX.out HXO.out q2 i2 s2 n2 (by omega), (HQ.out.trans q2).set (by show w.heap.size ≤ w.heap.size; omega) _⟩
    case measure => simp [intOf]; omega
   ·have ek : k = l.length := by omega
    go_wp2_with (fail)
    go_ret
    have hcp := HCP.out
    rw [ek] at hcp
    obtain ⟨d1, d2⟩ := hcp.done (Nat.le_refl _)
    exact ⟨_, _, L, rfl, d2, ⟨Nat.le_refl _, by have := HS.out.1; have := HS.out.2.1; omega, (fun h => by cases h), HS.out.2.2.2⟩, d1, HQ.out⟩

end Go.Proofs.Ytphknepblchkdaa
