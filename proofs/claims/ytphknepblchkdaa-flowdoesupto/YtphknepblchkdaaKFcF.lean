/-
 Code in memory of its own, its lists of instructions by their rows, what stays of it while other blocks are written: facts on worlds; no conditions but those that each fact bears.
 The copies of instructions, with their row: a contract over the program.
 The copies of parts and functions, step by step: facts on worlds alone; no conditions but those that each fact bears.
 A copy of code: what holds of it; facts on worlds; no conditions but those that each fact bears.
-/
import Derived.Test.YtphknepblchkdaaKIrZf
namespace Go.Proofs.Ytphknepblchkdaa.Fc
open Go.RowKit
set_option linter.unusedVariables false

/-- The block of a part's instructions: an empty list may have one too. -/
def iaB (p : PP) (g : Nat) : Prop := p.ia = some ⟨g, 0, none⟩
/-- The blocks of a part. -/
def ptB (p : PP) (g : Nat) : Prop := iaB p g ∨ ∃ x ∈ p.ins, aaB x g
/-- Parts lie one behind the other. -/
def OrdP (L : List PP) : Prop := ∀ (k1 k2 : Nat) (x1 x2 : PP) (g1 g2 : Nat), L[k1]? = some x1 → L[k2]? = some x2 → k1 < k2 → ptB x1 g1 → ptB x2 g2 → g1 < g2
/-- The row of a list of instructions: none, or a block that holds them alone. -/
def RwI (lo : Nat) (W : World) (a : Option Addr) (l : List PI) : Prop := (l = [] ∧ a = none) ∨ ∃ g, a = some ⟨g, 0, none⟩ ∧ lo ≤ g ∧ W.heap[g]? = some (.cells (l.flatMap PI.cells).toArray 49 (0, 0))
theorem RwI.nb {lo : Nat} {W : World} {a : Option Addr} {l : List PI} (h : RwI lo W a l) : NB lo W a l.length := by
 rcases h with ⟨h, -⟩ | ⟨g, e, hg, hh⟩
 ·exact Or.inl (by rw [h]; rfl)
 ·exact Or.inr ⟨g, _, _, e, hg, hh⟩
theorem RwI.lb {lo : Nat} {W : World} {a : Option Addr} {l : List PI} (h : RwI lo W a l) {b : Nat} (e : a = some ⟨b, 0, none⟩) : lo ≤ b ∧ b < W.heap.size := by
 rcases h with ⟨-, h⟩ | ⟨g, e', hg, hh⟩
 ·rw [h] at e; cases e
 ·rw [e] at e'
  injection e' with e'
  injection e' with e'
  subst e'
  exact ⟨hg, (Array.getElem?_eq_some_iff.1 hh).1⟩
theorem RwI.mono {lo lo' : Nat} {W : World} {a : Option Addr} {l : List PI} (h : RwI lo W a l) (hl : lo' ≤ lo) : RwI lo' W a l := h.imp id fun ⟨g, e, hg, hh⟩ => ⟨g, e, Nat.le_trans hl hg, hh⟩
theorem RwI.keep {lo : Nat} {W W' : World} {a : Option Addr} {l : List PI} (q : Q W W') (h : RwI lo W a l) : RwI lo W' a l := h.imp id fun ⟨g, e, hg, hh⟩ => ⟨g, e, hg, heap_keep q hh⟩
theorem RwI.far {lo : Nat} {W : World} {a : Option Addr} {l : List PI} {b j : Nat} (h : RwI lo W a l) (hb : b < lo) (u : Value) : RwI lo (W.setCell ⟨b, j, none⟩ u) a l := h.imp id fun ⟨g, e, hg, hh⟩ => ⟨g, e, hg, heap_set_other hh (by show g ≠ b; omega)⟩
/-- Instructions in memory of their own. -/
structure InsL (lo : Nat) (W : World) (a : Option Addr) (l : List PI) : Prop where
 at' : Insts W a l
 rw0 : RwI lo W a l
 each : ∀ x ∈ l, NB lo W x.aa x.args.length
 ord : OrdI a l
theorem InsL.nb {lo : Nat} {W : World} {a : Option Addr} {l : List PI} (h : InsL lo W a l) : NB lo W a l.length := h.rw0.nb
theorem InsL.keep {lo : Nat} {W W' : World} {a : Option Addr} {l : List PI} (q : Q W W') (h : InsL lo W a l) : InsL lo W' a l := ⟨Insts.keep q h.at', h.rw0.keep q, fun x hx => (h.each x hx).keep q, h.ord⟩
theorem InsL.mono {lo lo' : Nat} {W : World} {a : Option Addr} {l : List PI} (h : InsL lo W a l) (hl : lo' ≤ lo) : InsL lo' W a l := ⟨h.at', h.rw0.mono hl, fun x hx => (h.each x hx).mono hl, h.ord⟩
theorem InsL.set {lo : Nat} {W : World} {a : Option Addr} {l : List PI} {b j : Nat} {u : Value} {sa : Option Addr} {sn sc : Nat} (h : InsL lo W a l) (hb : b < lo) (hp : W.cell? ⟨b, j, none⟩ = some (.slice sa sn sc)) : InsL lo (W.setCell ⟨b, j, none⟩ u) a l := by
 refine ⟨fun k x hx => ?_, h.rw0.far hb u, fun x hx => (h.each x hx).set u, h.ord⟩
 obtain ⟨b', o', e, hat, hok⟩ := h.at' k x hx
 refine ⟨b', o', e, hat.set ?_, hok.op, hok.ty, hok.dst, hok.a, hok.b, hok.imm, hok.sok, hok.args.set hp⟩
 rcases h.nb with h0 | ⟨g, cs, t, e2, hg, _⟩
 ·have := (List.getElem?_eq_some_iff.1 hx).1
  omega
 ·rw [e] at e2
  simp at e2
  show b' ≠ b
  omega
/-- Parts in memory of their own. -/
structure PrtL (lo : Nat) (W : World) (a : Option Addr) (l : List PP) : Prop where
 at' : Prts W a l
 nb : NB lo W a l.length
 each : ∀ p ∈ l, InsL lo W p.ia p.ins
 ord : OrdP l
 row : l = [] ∨ ∃ g, a = some ⟨g, 0, none⟩ ∧ W.heap[g]? = some (.cells (l.flatMap PP.cells).toArray 47 (0, 0))
 ic : ∀ p ∈ l, p.ic = p.ins.length
theorem PrtL.keep {lo : Nat} {W W' : World} {a : Option Addr} {l : List PP} (q : Q W W') (h : PrtL lo W a l) : PrtL lo W' a l := ⟨Prts.keep q h.at', h.nb.keep q, fun x hx => (h.each x hx).keep q, h.ord, h.row.imp id fun ⟨g, e, hh⟩ => ⟨g, e, heap_keep q hh⟩, h.ic⟩
theorem PrtL.mono {lo lo' : Nat} {W : World} {a : Option Addr} {l : List PP} (h : PrtL lo W a l) (hl : lo' ≤ lo) : PrtL lo' W a l := ⟨h.at', h.nb.mono hl, fun x hx => (h.each x hx).mono hl, h.ord, h.row, h.ic⟩
theorem PrtL.set_at {lo : Nat} {W : World} {a : Option Addr} {l : List PP} {b j : Nat} {u : Value} {sa : Option Addr} {sn sc : Nat} (h : PrtL lo W a l) (hb : b < lo) (hp : W.cell? ⟨b, j, none⟩ = some (.slice sa sn sc)) : ∀ k x, l[k]? = some x → ∃ b' o', a = some ⟨b', o', none⟩ ∧ PrtAt (W.setCell ⟨b, j, none⟩ u) b' (o' + k * 5) x := fun k x hx => by
 obtain ⟨b', o', e, hat, hok⟩ := h.at' k x hx
 have hi := (h.each x (List.mem_of_getElem? hx)).set (u := u) hb hp
 refine ⟨b', o', e, hat.set ?_, hok.cond, hok.next, hok.els, hok.sok, hi.at'⟩
 rcases h.nb with h0 | ⟨g, cs, t, e2, hg, _⟩
 ·have := (List.getElem?_eq_some_iff.1 hx).1
  omega
 ·rw [e] at e2
  simp at e2
  show b' ≠ b
  omega
theorem PrtL.set {lo : Nat} {W : World} {a : Option Addr} {l : List PP} {b j : Nat} {u : Value} {sa : Option Addr} {sn sc : Nat} (h : PrtL lo W a l) (hb : b < lo) (hp : W.cell? ⟨b, j, none⟩ = some (.slice sa sn sc)) : PrtL lo (W.setCell ⟨b, j, none⟩ u) a l := by
 refine ⟨fun k x hx => ?_, h.nb.set u, fun x hx => (h.each x hx).set hb hp, h.ord, ?_, h.ic⟩
 ·exact PrtL.set_at h hb hp k x hx
 ·rcases h.row with h0 | ⟨g, e, hh⟩
  ·exact Or.inl h0
  ·by_cases hl0 : l = []
   ·exact Or.inl hl0
   ·exact Or.inr ⟨g, e, heap_set_other hh (by have := (h.nb.lb (len_ne hl0) e).1; show g ≠ b; omega)⟩

end Go.Proofs.Ytphknepblchkdaa.Fc

namespace Go.Proofs.Ytphknepblchkdaa.Fc
open Go.RowKit
set_option linter.unusedVariables false

theorem cpi_done {B G : Nat} {l : List PI} {L : List PI} {W : World} (h : CpI B G l l.length L W) (hb : B ≤ G) : InsL B W (some ⟨G, 0, none⟩) L ∧ EvL EvI L l := by
 refine ⟨⟨fun k x hx => ⟨G, 0, rfl, ?_, (h.new k x hx ?_).1⟩, Or.inr ⟨G, rfl, hb, h.blk⟩, fun x hx => ?_, fun k1 k2 x1 x2 b1 b2 e1 e2 h12 => h.up k1 k2 x1 x2 b1 b2 e1 e2 h12 (by rw [← h.len]; exact (List.getElem?_eq_some_iff.1 e2).1), fun x hx b hb g hg => ?_⟩, h.len, h.ev⟩
 ·rw [Nat.zero_add]
  exact flat_block PI.len h.blk hx
 ·rw [← h.len]
  exact (List.getElem?_eq_some_iff.1 hx).1
 ·obtain ⟨k, hk⟩ := List.mem_iff_getElem?.1 hx
  exact (h.new k x hk (by rw [← h.len]; exact (List.getElem?_eq_some_iff.1 hk).1)).2
 ·obtain ⟨k, hk⟩ := List.mem_iff_getElem?.1 hx
  simp at hg
  subst hg
  exact h.beh k x hk (by rw [← h.len]; exact (List.getElem?_eq_some_iff.1 hk).1) b hb

set_option maxRecDepth 100000 in
set_option maxHeartbeats 1000000 in
theorem insts_any (w : World) (a : Option Addr) (c : Nat) (l : List PI) (hs : sok 64 a l.length c) (hl : Insts w a l) : Calls Try.prog 39 #[.slice a l.length c] w fun e w' => ∃ a' c' l', e = .returned (.slice a' l.length c') ∧ EvL EvI l' l ∧ (sok 64 a' l.length c' ∧ c' = l.length) ∧ InsL w.heap.size w' a' l' ∧ Q w w' := by
 have CC := hideIt (listInst_any w a l.length c (l.flatMap PI.cells) hs (by rw [flat_len _ 7 PI.len]) (lst_src PI.len (by omega) (fun _ _ _ h => h.1) hl) (fun v hv => by
  obtain ⟨x, _, hx⟩ := List.mem_flatMap.1 hv
  exact cells_one x v hx))
 have CN := hideIt (fun X (x : PI) (hx : x.ok X) => listInts_new X x.aa x.ac x.args hx.sok hx.args)
 have hlen : l.length ≤ 9223372036854775807 := hs.len
 have HS := hideIt hs
 have HL := hideIt hl
 clear hs hl
 cases a with
 | none =>
  have h0 : l.length = 0 := by have := HS.out.1; have := HS.out.2.2.1 rfl; omega
  obtain rfl : l = [] := List.eq_nil_of_length_eq_zero h0
  have hc0 : c = 0 := HS.out.2.2.1 rfl
  subst hc0
  dsimp only [List.length_nil] at *
  have C0 : Hid (Calls Try.prog 61 #[.slice none 0 0] w fun e w' => e = .returned (.slice none 0 0) ∧ w' = w) := CC.out.mono fun e w' h => by
   rcases h with ⟨_, h1, h2⟩ | ⟨⟨_, h1⟩, _⟩
   ·exact ⟨h1, h2⟩
   ·cases h1
  clear CC
  go_enter Try.func39, Try.ntmps39
  go_wp2_with (first | (go_at_call 61; refine C0.out.mono ?_; rintro e x1 ⟨rfl, rfl⟩) | fail)
  refine wp_loop_rounds 1 ?_
  rw [rounds_succ]
  go_wp2
  go_ret
  exact ⟨none, 0, [], rfl, ⟨rfl, fun k x y h => by simp at h⟩, ⟨sok_none _, rfl⟩, ⟨Lst.nil, Or.inl ⟨rfl, rfl⟩, fun x hx => by simp at hx, OrdI.nil _⟩, Q.refl _⟩
 | some ad =>
  have C0 : Hid (Calls Try.prog 61 #[.slice (some ad) l.length c] w fun e w' => e = .returned (.slice (some ⟨w.heap.size, 0, none⟩) l.length l.length) ∧ w'.heap[w.heap.size]? = some (.cells (l.flatMap PI.cells).toArray 49 (0, 0)) ∧ Q w w') := CC.out.mono fun e w' h => by
   rcases h with ⟨h1, _⟩ | ⟨_, h1, h2, h3⟩
   ·cases h1
   ·exact ⟨h1, h2, h3⟩
  clear CC
  go_enter Try.func39, Try.ntmps39
  go_wp2_with (first | (go_at_call 61; refine C0.out.mono ?_; rintro e x1 ⟨rfl, hh, q1⟩; have HH := hideIt hh; have H1 := hideIt q1; clear hh q1) | fail)
  have I0 : Hid (CpI w.heap.size w.heap.size l 0 l x1) := ⟨rfl, HH.out, fun k x y h1 h2 => by rw [h1] at h2; simp at h2; subst h2; exact ⟨rfl, rfl, rfl, rfl, rfl, rfl, rfl⟩, fun k x _ h => by omega, fun k _ => rfl, fun k1 k2 x1 x2 b1 b2 _ _ _ h => by omega, fun k x _ h => by omega⟩
  go_loopw [4, 9] (fun d i wr => ∃ (k : Nat) (L : List PI), i = .int .i64 k ∧ k ≤ l.length ∧ CpI w.heap.size w.heap.size l k L wr ∧ Q w wr) (fun _ i _ => l.length - (intOf i).toNat)
  case atStart => exact ⟨0, l, rfl, by omega, I0.out, H1.out⟩
  case round =>
   obtain ⟨k, L, rfl, hk, hcp, hq⟩ := hrel
   have HCP := hideIt hcp
   have HQ := hideIt hq
   clear hcp hq
   by_cases hlt : k < l.length
   ·obtain ⟨x, hx⟩ := get_of_lt hlt
    have hLx : L[k]? = some x := by rw [HCP.out.old k (Nat.le_refl _)]; exact hx
    obtain ⟨_, _, -, -, hxo⟩ := Insts.keep HQ.out HL.out k x hx
    have CN1 := hideIt (CN.out wr x hxo)
    have HX := hideIt hLx
    have HXO := hideIt hxo
    have hkl : (k : Int) < (l.length : Int) := by omega
    have c6 : wr.cell? ⟨w.heap.size, k * 7 + 6, none⟩ = some (.slice x.aa x.args.length x.ac) := (flat_block PI.len HCP.out.blk hLx).cell 6 _ rfl
    have hwl : w.heap.size < wr.heap.size := (Array.getElem?_eq_some_iff.1 HCP.out.blk).1
    clear hx hLx hxo
    go_wp2_with (first | (go_at_call 35; refine CN1.out.mono ?_; rintro e x2 ⟨ao, ac, rfl, i2, s2, n2, q2⟩; have HI2 := hideIt (And.intro i2 (And.intro s2 (And.intro n2 q2))); have c6' := cell_keep q2 c6; have fz : x2.frozen? ⟨w.heap.size, k * 7 + 6, none⟩ = false := free_of_block (heap_keep q2 HCP.out.blk) _; clear i2 s2 n2 q2) | fail)
    go_roundw
    case rel =>
     obtain ⟨i2, s2, n2, q2⟩ := HI2.out
     exact ⟨k + 1, _, by go_num, by omega, HCP.out.step HX.out HXO.out q2 i2 s2 n2 (by omega), (HQ.out.trans q2).set (by show w.heap.size ≤ w.heap.size; omega) _⟩
    case measure => simp [intOf]; omega
   ·have ek : k = l.length := by omega
    go_wp2_with (fail)
    go_ret
    have hcp := HCP.out
    rw [ek] at hcp
    obtain ⟨d1, d2⟩ := cpi_done hcp (Nat.le_refl _)
    exact ⟨_, _, L, rfl, d2, ⟨⟨Nat.le_refl _, by have := HS.out.1; have := HS.out.2.1; omega, (fun h => by cases h), HS.out.2.2.2⟩, rfl⟩, d1, HQ.out⟩

end Go.Proofs.Ytphknepblchkdaa.Fc

namespace Go.Proofs.Ytphknepblchkdaa.Fc
open Go.RowKit
set_option linter.unusedVariables false

theorem RwI.frx {G lo : Nat} {W W' : World} {a : Option Addr} {l : List PI} (h : RwI lo W a l) (hg : G < lo) (f : FrX G W W') : RwI lo W' a l := h.imp id fun ⟨g, e, hl, hh⟩ => ⟨g, e, hl, f.heap hh (by omega)⟩
theorem InsL.frx {G lo : Nat} {W W' : World} {a : Option Addr} {l : List PI} (h : InsL lo W a l) (hg : G < lo) (f : FrX G W W') : InsL lo W' a l := by
 refine ⟨fun k x hx => ?_, h.rw0.frx hg f, fun x hx => (h.each x hx).frx hg f, h.ord⟩
 obtain ⟨b, o, e, hat, hok⟩ := h.at' k x hx
 exact ⟨b, o, e, hat.frx (lst_ne (sz := 7) (P := InsAt W) h.nb hg hx e) f, hok.frx (h.each x (List.mem_of_getElem? hx)) hg f⟩
theorem PrtL.frx {G lo : Nat} {W W' : World} {a : Option Addr} {l : List PP} (h : PrtL lo W a l) (hg : G < lo) (f : FrX G W W') : PrtL lo W' a l := by
 refine ⟨fun k x hx => ?_, h.nb.frx hg f, fun x hx => (h.each x hx).frx hg f, h.ord, (Classical.em (l = [])).imp id fun hl0 => (h.row.resolve_left hl0).imp fun g ⟨e, hh⟩ => ⟨e, f.heap hh (by have := (h.nb.lb (len_ne hl0) e).1; omega)⟩, h.ic⟩
 obtain ⟨b, o, e, hat, hok⟩ := h.at' k x hx
 exact ⟨b, o, e, hat.frx (lst_ne (sz := 5) (P := PrtAt W) h.nb hg hx e) f, hok.cond, hok.next, hok.els, hok.sok, ((h.each x (List.mem_of_getElem? hx)).frx hg f).at'⟩
def fnB (f : PF) (g : Nat) : Prop := sB f g ∨ paB f g ∨ ∃ p ∈ f.parts, ptB p g
/-- A function's blocks lie one behind the other. -/
structure SoF (f : PF) : Prop where
 sp : ∀ g1 g2, sB f g1 → paB f g2 → g1 < g2
 st : ∀ g1 g2, sB f g1 → (∃ p ∈ f.parts, ptB p g2) → g1 < g2
 pt : ∀ g1 g2, paB f g1 → (∃ p ∈ f.parts, ptB p g2) → g1 < g2
/-- Functions in memory of their own. -/
structure FnN (lo : Nat) (W : World) (f : PF) : Prop where
 slots : NB lo W f.sa f.slots.length
 parts : PrtL lo W f.pa f.parts
 so : SoF f
 cap : f.pc = f.parts.length
/-- Functions lie one behind the other. -/
def OrdF (L : List PF) : Prop := ∀ (k1 k2 : Nat) (f1 f2 : PF), L[k1]? = some f1 → L[k2]? = some f2 → k1 < k2 → ∀ g1 g2, fnB f1 g1 → fnB f2 g2 → g1 < g2
structure FnL (lo : Nat) (W : World) (a : Option Addr) (l : List PF) : Prop where
 at' : Fns W a l
 nb : NB lo W a l.length
 each : ∀ f ∈ l, FnN lo W f
 ord : OrdF l
 row : l = [] ∨ ∃ g, a = some ⟨g, 0, none⟩ ∧ W.heap[g]? = some (.cells (l.flatMap PF.cells).toArray 44 (0, 0))
theorem InsL.lb {lo : Nat} {W : World} {p : PP} (h : InsL lo W p.ia p.ins) {g : Nat} (hg : ptB p g) : lo ≤ g ∧ g < W.heap.size := by
 rcases hg with hg | ⟨x, hx, hg⟩
 ·exact h.rw0.lb hg
 ·exact (h.each x hx).lb (len_ne hg.1) hg.2
theorem FnN.lb {lo : Nat} {W : World} {f : PF} (h : FnN lo W f) {g : Nat} (hg : fnB f g) : lo ≤ g ∧ g < W.heap.size := by
 rcases hg with hg | hg | ⟨p, hp, hg⟩
 ·exact h.slots.lb (len_ne hg.1) hg.2
 ·exact h.parts.nb.lb (len_ne hg.1) hg.2
 ·exact InsL.lb (h.parts.each p hp) hg
theorem FnN.mono {lo lo' : Nat} {W : World} {f : PF} (h : FnN lo W f) (hl : lo' ≤ lo) : FnN lo' W f := ⟨h.slots.mono hl, h.parts.mono hl, h.so, h.cap⟩
theorem FnN.frx {G lo : Nat} {W W' : World} {f : PF} (h : FnN lo W f) (hg : G < lo) (x : FrX G W W') : FnN lo W' f := ⟨h.slots.frx hg x, h.parts.frx hg x, h.so, h.cap⟩
theorem pf_frx {G lo : Nat} {W W' : World} {f : PF} (h : f.ok W) (hn : FnN lo W f) (hg : G < lo) (x : FrX G W W') : f.ok W' := ⟨h.params, h.regs, h.ssok, h.slots.frx hn.slots hg x, h.psok, (hn.parts.frx hg x).at'⟩
/-- What holds while the parts in block P are copied: j of them are. -/
structure CpP (P : Nat) (l : List PP) (j : Nat) (L : List PP) (W : World) : Prop where
 len : L.length = l.length
 blk : W.heap[P]? = some (.cells (L.flatMap PP.cells).toArray 47 (0, 0))
 new : ∀ (k : Nat) (x y : PP), L[k]? = some x → l[k]? = some y → k < j → EvP x y ∧ x.ok W ∧ InsL (P + 1) W x.ia x.ins ∧ x.ic = x.ins.length
 old : ∀ k, j ≤ k → L[k]? = l[k]?
 ord : ∀ (k1 k2 : Nat) (x1 x2 : PP) (g1 g2 : Nat), L[k1]? = some x1 → L[k2]? = some x2 → k1 < k2 → k2 < j → ptB x1 g1 → ptB x2 g2 → g1 < g2
theorem CpP.step {P : Nat} {l L : List PP} {j : Nat} {W W' : World} (h : CpP P l j L W) {x : PP} (hx : L[j]? = some x) (hxo : x.ok W) {ao : Option Addr} {c : Nat} {li : List PI} (q : Q W W') (hev : EvL EvI li x.ins) (hs : sok 64 ao x.ins.length c ∧ c = x.ins.length) (hi : InsL W.heap.size W' ao li) :
  CpP P l (j + 1) (L.set j { x with ins := li, ia := ao, ic := c }) (W'.setCell ⟨P, j * 5, none⟩ (.slice ao x.ins.length c)) := by
 have hb' := heap_keep q h.blk
 have hP : P < W.heap.size := (Array.getElem?_eq_some_iff.1 h.blk).1
 have hjl : j < L.length := (List.getElem?_eq_some_iff.1 hx).1
 have f1 : FrX P W (W'.setCell ⟨P, j * 5, none⟩ (.slice ao x.ins.length c)) := FrX.set (p := ⟨P, j * 5, none⟩) (FrX.of_q q) (Or.inl rfl) _
 have f2 : FrX P W' (W'.setCell ⟨P, j * 5, none⟩ (.slice ao x.ins.length c)) := FrX.set (p := ⟨P, j * 5, none⟩) (FrX.of_q (Q.refl W')) (Or.inl rfl) _
 have hi2 := (hi.mono (show P + 1 ≤ W.heap.size by omega)).frx (Nat.lt_succ_self P) f2
 refine ⟨by simp [h.len], ?_, fun k y z hy hz hk => ?_, fun k hk => ?_, fun k1 k2 x1 x2 g1 g2 e1 e2 h12 h2j b1 b2 => ?_⟩
 ·have := flat_step PP.len hb' (x' := { x with ins := li, ia := ao, ic := c }) (j := 0) (u := .slice ao x.ins.length c) hx (by omega) (by simp [PP.cells, hev.len])
  simpa using this
 ·rw [List.getElem?_set] at hy
  split at hy
  ·rename_i e
   subst e
   simp at hy
   subst hy
   have e2 : x = z := by
    have := h.old j (Nat.le_refl _)
    rw [hx, hz] at this
    simpa using this
   subst e2
   refine ⟨⟨rfl, rfl, rfl, rfl, hev⟩, ⟨hxo.cond, hxo.next, hxo.els, ?_, hi2.at'⟩, hi2, hs.2.trans hev.len.symm⟩
   show sok 64 ao li.length c
   rw [hev.len]
   exact hs.1
  ·obtain ⟨h1, h2, h3, h5⟩ := h.new k y z hy hz (by omega)
   have h4 := h3.frx (Nat.lt_succ_self P) f1
   exact ⟨h1, ⟨h2.cond, h2.next, h2.els, h2.sok, h4.at'⟩, h4, h5⟩
 ·rw [List.getElem?_set_ne (by omega)]
  exact h.old k (by omega)
 ·rw [List.getElem?_set_ne (by omega)] at e1
  by_cases e : k2 = j
  ·subst e
   rw [List.getElem?_set_self hjl] at e2
   simp at e2
   subst e2
   have hl2 : W.heap.size ≤ g2 := (InsL.lb (p := { x with ins := li, ia := ao, ic := c }) hi b2).1
   have hlen := h.len
   obtain ⟨y1, hy1⟩ := get_of_lt (l := l) (k := k1) (by omega)
   have := (InsL.lb (h.new k1 x1 y1 e1 hy1 h12).2.2.1 b1).2
   omega
  ·rw [List.getElem?_set_ne (by omega)] at e2
   exact h.ord k1 k2 x1 x2 g1 g2 e1 e2 h12 (by omega) b1 b2
theorem CpP.done {P lo : Nat} {l L : List PP} {W : World} (h : CpP P l l.length L W) (hl : lo ≤ P) : PrtL lo W (some ⟨P, 0, none⟩) L ∧ EvL EvP L l := by
 have each : ∀ (k : Nat) (x : PP), L[k]? = some x → ∃ y, l[k]? = some y ∧ EvP x y ∧ x.ok W ∧ InsL (P + 1) W x.ia x.ins ∧ x.ic = x.ins.length := fun k x hx => by
  have hk := (List.getElem?_eq_some_iff.1 hx).1
  rw [h.len] at hk
  obtain ⟨y, hy⟩ := get_of_lt hk
  exact ⟨y, hy, h.new k x y hx hy hk⟩
 refine ⟨⟨fun k x hx => ⟨P, 0, rfl, ?_, (each k x hx).choose_spec.2.2.1⟩, Or.inr ⟨P, _, _, rfl, hl, h.blk⟩, fun x hx => ?_, fun k1 k2 x1 x2 g1 g2 e1 e2 h12 b1 b2 => h.ord k1 k2 x1 x2 g1 g2 e1 e2 h12 (by have := (List.getElem?_eq_some_iff.1 e2).1; rw [h.len] at this; exact this) b1 b2, Or.inr ⟨P, rfl, h.blk⟩, fun x hx => ?_⟩, h.len, fun k x y hx hy => ?_⟩
 ·rw [Nat.zero_add]
  exact flat_block PP.len h.blk hx
 ·obtain ⟨k, hk⟩ := List.mem_iff_getElem?.1 hx
  obtain ⟨y, _, _, _, h4, _⟩ := each k x hk
  exact h4.mono (by omega)
 ·obtain ⟨k, hk⟩ := List.mem_iff_getElem?.1 hx
  obtain ⟨y, _, _, _, _, h5⟩ := each k x hk
  exact h5
 ·have hk := (List.getElem?_eq_some_iff.1 hy).1
  exact (h.new k x y hx hy hk).1
theorem CpP.above {P : Nat} {l L : List PP} {W : World} (h : CpP P l l.length L W) : ∀ p ∈ L, ∀ b, ptB p b → P < b := fun p hp b hb => by
 obtain ⟨k, hk⟩ := List.mem_iff_getElem?.1 hp
 have hkl := (List.getElem?_eq_some_iff.1 hk).1
 rw [h.len] at hkl
 obtain ⟨y, hy⟩ := get_of_lt hkl
 have := (InsL.lb (h.new k p y hk hy hkl).2.2.1 hb).1
 omega
/-- What holds while the functions in block G are copied: i of them are. -/
structure CpF (G : Nat) (l : List PF) (i : Nat) (L : List PF) (W : World) : Prop where
 len : L.length = l.length
 blk : W.heap[G]? = some (.cells (L.flatMap PF.cells).toArray 44 (0, 0))
 new : ∀ (k : Nat) (x y : PF), L[k]? = some x → l[k]? = some y → k < i → EvF x y ∧ x.ok W ∧ FnN (G + 1) W x
 old : ∀ k, i ≤ k → L[k]? = l[k]?
 ord : ∀ (k1 k2 : Nat) (f1 f2 : PF), L[k1]? = some f1 → L[k2]? = some f2 → k1 < k2 → k2 < i → ∀ g1 g2, fnB f1 g1 → fnB f2 g2 → g1 < g2
/-- A function is copied: its block's cells are written, and all else is new. -/
theorem CpF.step {G : Nat} {l L : List PF} {i : Nat} {W W' : World} (h : CpF G l i L W) {x x' : PF} (hx : L[i]? = some x) (f : FrX G W W') (hblk : W'.heap[G]? = some (.cells ((L.set i x').flatMap PF.cells).toArray 44 (0, 0))) (hev : EvF x' x) (hok : x'.ok W') (hn : FnN (G + 1) W' x') (hge : ∀ g, fnB x' g → W.heap.size ≤ g) : CpF G l (i + 1) (L.set i x') W' := by
 have hil : i < L.length := (List.getElem?_eq_some_iff.1 hx).1
 refine ⟨by simp [h.len], hblk, fun k y z hy hz hk => ?_, fun k hk => ?_, fun k1 k2 f1 f2 e1 e2 h12 h2i g1 g2 b1 b2 => ?_⟩
 ·rw [List.getElem?_set] at hy
  split at hy
  ·rename_i e
   subst e
   simp at hy
   subst hy
   have e2 : x = z := by
    have := h.old i (Nat.le_refl _)
    rw [hx, hz] at this
    simpa using this
   subst e2
   exact ⟨hev, hok, hn⟩
  ·obtain ⟨h1, h2, h3⟩ := h.new k y z hy hz (by omega)
   exact ⟨h1, pf_frx h2 h3 (Nat.lt_succ_self G) f, h3.frx (Nat.lt_succ_self G) f⟩
 ·rw [List.getElem?_set_ne (by omega)]
  exact h.old k (by omega)
 ·rw [List.getElem?_set_ne (by omega)] at e1
  by_cases e : k2 = i
  ·subst e
   rw [List.getElem?_set_self hil] at e2
   simp at e2
   subst e2
   have hl2 := hge g2 b2
   have hlen := h.len
   obtain ⟨y1, hy1⟩ := get_of_lt (l := l) (k := k1) (by omega)
   have := (FnN.lb (h.new k1 f1 y1 e1 hy1 h12).2.2 b1).2
   omega
  ·rw [List.getElem?_set_ne (by omega)] at e2
   exact h.ord k1 k2 f1 f2 e1 e2 h12 (by omega) g1 g2 b1 b2
theorem CpF.done {G lo : Nat} {l L : List PF} {W : World} (h : CpF G l l.length L W) (hl : lo ≤ G) : FnL lo W (some ⟨G, 0, none⟩) L ∧ EvL EvF L l := by
 have each : ∀ (k : Nat) (x : PF), L[k]? = some x → ∃ y, l[k]? = some y ∧ EvF x y ∧ x.ok W ∧ FnN (G + 1) W x := fun k x hx => by
  have hk := (List.getElem?_eq_some_iff.1 hx).1
  rw [h.len] at hk
  obtain ⟨y, hy⟩ := get_of_lt hk
  exact ⟨y, hy, h.new k x y hx hy hk⟩
 refine ⟨⟨fun k x hx => ⟨G, 0, rfl, ?_, (each k x hx).choose_spec.2.2.1⟩, Or.inr ⟨G, _, _, rfl, hl, h.blk⟩, fun x hx => ?_, fun k1 k2 f1 f2 e1 e2 h12 => h.ord k1 k2 f1 f2 e1 e2 h12 (by have := (List.getElem?_eq_some_iff.1 e2).1; rw [h.len] at this; exact this), Or.inr ⟨G, rfl, h.blk⟩⟩, h.len, fun k x y hx hy => ?_⟩
 ·rw [Nat.zero_add]
  exact flat_block PF.len h.blk hx
 ·obtain ⟨k, hk⟩ := List.mem_iff_getElem?.1 hx
  obtain ⟨y, _, _, _, h4⟩ := each k x hk
  exact h4.mono (by omega)
 ·have hk := (List.getElem?_eq_some_iff.1 hy).1
  exact (h.new k x y hx hy hk).1
theorem CpF.above {G : Nat} {l L : List PF} {W : World} (h : CpF G l l.length L W) : ∀ f ∈ L, ∀ b, fnB f b → G < b := fun f hf b hb => by
 obtain ⟨k, hk⟩ := List.mem_iff_getElem?.1 hf
 have hkl := (List.getElem?_eq_some_iff.1 hk).1
 rw [h.len] at hkl
 obtain ⟨y, hy⟩ := get_of_lt hkl
 have := (FnN.lb (h.new k f y hk hy hkl).2.2 hb).1
 omega

end Go.Proofs.Ytphknepblchkdaa.Fc

namespace Go.Proofs.Ytphknepblchkdaa.Fc
open Go.RowKit
set_option linter.unusedVariables false

/-- Code in memory of its own. -/
structure CodeL (lo : Nat) (W : World) (a : PC) : Prop where
 ok : a.ok W
 gn : NB lo W a.ga a.gl.length
 nn : NB lo W a.na a.ini.length
 fn : FnL lo W a.fa a.fns
 go : (∀ g, gB a g → ∀ f ∈ a.fns, ∀ b, fnB f b → g < b) ∧ ∀ g, (a.gl ≠ [] ∧ a.ga = some ⟨g, 0, none⟩) ∨ (a.ini ≠ [] ∧ a.na = some ⟨g, 0, none⟩) → a.fns ≠ [] → ∀ h, a.fa = some ⟨h, 0, none⟩ → g < h
theorem FnL.frx {G lo : Nat} {W W' : World} {a : Option Addr} {l : List PF} (h : FnL lo W a l) (hg : G < lo) (f : FrX G W W') : FnL lo W' a l := by
 refine ⟨fun k x hx => ?_, h.nb.frx hg f, fun x hx => (h.each x hx).frx hg f, h.ord, (Classical.em (l = [])).imp id fun hl0 => (h.row.resolve_left hl0).imp fun g ⟨e, hh⟩ => ⟨e, f.heap hh (by have := (h.nb.lb (len_ne hl0) e).1; omega)⟩⟩
 obtain ⟨b, o, e, hat, hok⟩ := h.at' k x hx
 exact ⟨b, o, e, hat.frx (lst_ne (sz := 4) (P := FnAt W) h.nb hg hx e) f, pf_frx hok (h.each x (List.mem_of_getElem? hx)) hg f⟩
theorem CodeL.frx {G lo : Nat} {W W' : World} {a : PC} (h : CodeL lo W a) (hg : G < lo) (f : FrX G W W') : CodeL lo W' a :=
 ⟨⟨h.ok.gsok, h.ok.gl.frx h.gn hg f, h.ok.nsok, h.ok.ini.frx h.nn hg f, h.ok.fsok, (h.fn.frx hg f).at'⟩, h.gn.frx hg f, h.nn.frx hg f, h.fn.frx hg f, h.go⟩
theorem CodeL.mono {lo lo' : Nat} {W : World} {a : PC} (h : CodeL lo W a) (hl : lo' ≤ lo) : CodeL lo' W a := ⟨h.ok, h.gn.mono hl, h.nn.mono hl, ⟨h.fn.at', h.fn.nb.mono hl, fun f hf => (h.fn.each f hf).mono hl, h.fn.ord, h.fn.row⟩, h.go⟩
theorem go_of {w Y W : World} {c : PC} {ga na : Option Addr} {gc nc fc G : Nat} {L : List PF} (hY : CY w Y c ga gc na nc) (hG : Y.heap.size ≤ G) (h : CpF G c.fns c.fns.length L W) : (∀ g, gB ⟨c.gl, c.ini, L, ga, gc, na, nc, some ⟨G, 0, none⟩, fc⟩ g → ∀ f ∈ L, ∀ b, fnB f b → g < b) ∧ ∀ g, (c.gl ≠ [] ∧ ga = some ⟨g, 0, none⟩) ∨ (c.ini ≠ [] ∧ na = some ⟨g, 0, none⟩) → L ≠ [] → ∀ h, (some ⟨G, 0, none⟩ : Option Addr) = some ⟨h, 0, none⟩ → g < h := by
 constructor
 ·intro g hg f hf b hb
  have h1 := h.above f hf b hb
  rcases hg with hg | hg | hg
  ·have := (hY.gn.lb (len_ne hg.1) hg.2).2; omega
  ·have := (hY.nn.lb (len_ne hg.1) hg.2).2; omega
  ·have e := hg.2
   simp at e
   omega
 ·intro g hg _ h e
  injection e with e
  injection e with e
  rcases hg with hg | hg
  ·have := (hY.gn.lb (len_ne hg.1) hg.2).2; omega
  ·have := (hY.nn.lb (len_ne hg.1) hg.2).2; omega
/-- The answer. -/
theorem cs_done {w Y W : World} {c : PC} {ga na fa : Option Addr} {gc nc fc : Nat} {L : List PF} (hY : CY w Y c ga gc na nc) (h : CS w Y c ga gc na nc fa fc W) (hs : sok 64 fa c.fns.length fc) (hL : FnL (w.heap.size + 2) W fa L ∧ EvL EvF L c.fns) (hgo : (∀ g, gB ⟨c.gl, c.ini, L, ga, gc, na, nc, fa, fc⟩ g → ∀ f ∈ L, ∀ b, fnB f b → g < b) ∧ ∀ g, (c.gl ≠ [] ∧ ga = some ⟨g, 0, none⟩) ∨ (c.ini ≠ [] ∧ na = some ⟨g, 0, none⟩) → L ≠ [] → ∀ h, fa = some ⟨h, 0, none⟩ → g < h) :
  CodeL (w.heap.size + 2) W ⟨c.gl, c.ini, L, ga, gc, na, nc, fa, fc⟩ ∧ EvC ⟨c.gl, c.ini, L, ga, gc, na, nc, fa, fc⟩ c := by
 refine ⟨⟨⟨hY.gs, hY.gi.frx hY.gn (by omega) h.fr, hY.ns, hY.ni.frx hY.nn (by omega) h.fr, ?_, hL.1.at'⟩, hY.gn.frx (by omega) h.fr, hY.nn.frx (by omega) h.fr, hL.1, hgo⟩, rfl, rfl, hL.2⟩
 show sok 64 fa L.length fc
 rw [hL.2.len]
 exact hs
/-- A function's lists are copied, its parts not yet. -/
theorem fn_step {G : Nat} {l L : List PF} {i : Nat} {W y : World} (h : CpF G l i L W) {x : PF} (hx : L[i]? = some x) (q : Q W y) (sa : Option Addr) (sc : Nat) (pa : Option Addr) (pc : Nat) :
  ((y.setCell ⟨G, i * 4 + 2, none⟩ (.slice sa x.slots.length sc)).setCell ⟨G, i * 4 + 3, none⟩ (.slice pa x.parts.length pc)).heap[G]? = some (.cells ((L.set i { x with sa := sa, sc := sc, pa := pa, pc := pc }).flatMap PF.cells).toArray 44 (0, 0)) := by
 have hil : i < L.length := (List.getElem?_eq_some_iff.1 hx).1
 have h1 := flat_step PF.len (heap_keep q h.blk) (x' := { x with sa := sa, sc := sc }) (j := 2) (u := .slice sa x.slots.length sc) hx (by omega) rfl
 have h2 := flat_step PF.len h1 (x := { x with sa := sa, sc := sc }) (x' := { x with sa := sa, sc := sc, pa := pa, pc := pc }) (k := i) (j := 3) (u := .slice pa x.parts.length pc) (by simp [hil]) (by omega) rfl
 rw [List.set_set] at h2
 exact h2

end Go.Proofs.Ytphknepblchkdaa.Fc
