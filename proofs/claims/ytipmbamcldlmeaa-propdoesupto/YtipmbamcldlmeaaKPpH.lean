/-
  A part whose registers are read elsewhere, step by step: facts on worlds; no conditions but those that each fact bears.
  A part whose registers are read elsewhere (part of prop): a contract over the program; the conditions: the reader and the part lie in memory of their own, and the registers are there.
-/
import Derived.Test.YtipmbamcldlmeaaKPpF
import Derived.BigRegion
namespace Go.Proofs.Ytipmbamcldlmeaa.Pp
open Go.RowKit
set_option linter.unusedVariables false

section
variable {lo : Nat} {W W' : World} {S : Nat → Prop}
theorem NB.fs {a : Option Addr} {n : Nat} (h : NB lo W a n) (f : Fs S W W') (hs : ∀ b, n ≠ 0 → a = some ⟨b, 0, none⟩ → ¬ S b) : NB lo W' a n := by
  rcases h with h | ⟨g, cs, t, e, hl, hh⟩
  · exact Or.inl h
  · by_cases h0 : n = 0
    · exact Or.inl h0
    · exact Or.inr ⟨g, cs, t, e, hl, f.heap hh (hs g h0 e)⟩
theorem nb_addr {a : Option Addr} {n : Nat} (h : NB lo W a n) {α : Type} {l : List α} (hl : l.length = n) {k : Nat} {x : α} (hx : l[k]? = some x) {b o : Nat} (e : a = some ⟨b, o, none⟩) : o = 0 := by
  rcases h with h | ⟨g, cs, t, e', -, hh⟩
  · have := (List.getElem?_eq_some_iff.1 hx).1; omega
  · rw [e] at e'; simp at e'; exact e'.2
theorem at_fs {b o : Nat} {cs : List Value} (h : At W b o cs) (f : Fs S W W') (hb : ¬ S b) : At W' b o cs := fun j hj => by
  have hj' := h j hj
  obtain ⟨v, hv⟩ : ∃ v, cs[j]? = some v := ⟨cs[j], List.getElem?_eq_getElem hj⟩
  rw [hv] at hj' ⊢
  exact f.cell hj' hb
theorem ints_fs {a : Option Addr} {l : List Int} (h : Ints W a l) (hn : NB lo W a l.length) (f : Fs S W W') (hs : ∀ b, l ≠ [] → a = some ⟨b, 0, none⟩ → ¬ S b) : Ints W' a l := fun k y hy => by
  obtain ⟨b, o, e, h1, h2⟩ := h k y hy
  have eo := nb_addr hn rfl hy e
  subst eo
  exact ⟨b, 0, e, f.cell h1 (hs b (fun q => by rw [q] at hy; simp at hy) e), h2⟩
theorem pi_fs {x : PI} (h : x.ok W) (hn : NB lo W x.aa x.args.length) (f : Fs S W W') (hs : ∀ b, aaB x b → ¬ S b) : x.ok W' := ⟨h.op, h.ty, h.dst, h.a, h.b, h.imm, h.sok, ints_fs h.args hn f fun b h1 h2 => hs b ⟨h1, h2⟩⟩
theorem InsL.fs {a : Option Addr} {L : List PI} (h : InsL lo W a L) (f : Fs S W W') (h1 : ∀ b, L ≠ [] → a = some ⟨b, 0, none⟩ → ¬ S b) (h2 : ∀ x ∈ L, ∀ b, aaB x b → ¬ S b) : InsL lo W' a L := by
  refine ⟨fun k x hx => ?_, NB.fs h.nb f fun b q => h1 b (fun e => q (by rw [e]; rfl)), fun x hx => NB.fs (h.each x hx) f fun b q e => h2 x hx b ⟨fun e => q (by rw [e]; rfl), e⟩, h.ord⟩
  obtain ⟨b, o, e, hat, hok⟩ := h.at' k x hx
  have eo := nb_addr h.nb rfl hx e
  subst eo
  have hm := List.mem_of_getElem? hx
  exact ⟨b, 0, e, at_fs hat f (h1 b (fun q => by rw [q] at hx; simp at hx) e), pi_fs hok (h.each x hm) f (h2 x hm)⟩
end

theorem propL_drop {fault : Bool} {P l : List PI} {i : Nat} {x : PI} (h : l[i]? = some x) : propL fault P (l.drop i) = readI (src fault P) x :: propL fault (P ++ [readI (src fault P) x]) (l.drop (i + 1)) := by
  obtain ⟨hl, e⟩ := List.getElem?_eq_some_iff.1 h
  rw [List.drop_eq_getElem_cons hl, e]
  rfl

/-- What holds while a part is read: n instructions are. -/
structure PS (lo : Nat) (w w9 : World) (R Wb : Nat) (fault : Bool) (first : Int) (p : PP) (N : Nat) (n : Nat) (P : List PI) (ws : List Int) : Prop where
  len : P.length = n
  eq : propL fault [] p.ins = P ++ propL fault P (p.ins.drop n)
  il : InsL lo w9 p.ia (P ++ p.ins.drop n)
  rd : RD w9 R Wb fault first p.ia p.ins.length p.ic ws
  wok : WOk first ws P
  wl : ws.length = N
  rf : RF fault P
  reg : ∀ i ∈ P, InR N i
  fs : Fs (fun b => ptB p b ∨ b = R ∨ b = Wb) w w9
  alk : ∀ (k : Nat) (i j : PI), P[k]? = some i → p.ins[k]? = some j → Alk j i

section
variable {lo : Nat} {w w9 : World} {R Wb : Nat} {fault : Bool} {first : Int} {p : PP} {N n : Nat} {P : List PI} {ws : List Int}
theorem PS.plen (h : PS lo w w9 R Wb fault first p N n P ws) (hn : n ≤ p.ins.length) : (P ++ p.ins.drop n).length = p.ins.length := by
  rw [List.length_append, h.len, List.length_drop]; omega
theorem PS.get (h : PS lo w w9 R Wb fault first p N n P ws) {x : PI} (hx : p.ins[n]? = some x) : (P ++ p.ins.drop n)[n]? = some x := mid_get h.len hx
theorem PS.rdok (h : PS lo w w9 R Wb fault first p N n P ws) (hn : n ≤ p.ins.length) (h0 : 0 ≤ first) (hb : first + p.ins.length ≤ 4611686018427387904) : RdOk w9 R Wb fault first p.ia p.ins.length p.ic ws P := by
  refine ⟨h.rd, h.wok, fun k i hi => ?_, by rw [h.len]; exact hn, h0, by rw [h.len]; omega, fun i hi ho => by rw [h.wl]; exact (h.reg i hi).move ho, h.rf⟩
  have hk := (List.getElem?_eq_some_iff.1 hi).1
  obtain ⟨b, o, e, hat, hok⟩ := h.il.at' k i (by rw [List.getElem?_append_left hk]; exact hi)
  exact ⟨b, o, e, hat.seven.1, hat.seven.2.2.2.1⟩
/-- The blocks of a part that is half read are the part's. -/
theorem PS.blk (h : PS lo w w9 R Wb fault first p N n P ws) (hn : n ≤ p.ins.length) : (∀ b, P ++ p.ins.drop n ≠ [] → p.ia = some ⟨b, 0, none⟩ → ptB p b) ∧ ∀ x ∈ P ++ p.ins.drop n, ∀ b, aaB x b → ptB p b := by
  refine ⟨fun b h1 h2 => Or.inl ⟨fun e => h1 (List.eq_nil_of_length_eq_zero (by rw [h.plen hn, e]; rfl)), h2⟩, fun x hx b hb => ?_⟩
  rcases List.mem_append.1 hx with q | q
  · obtain ⟨k, hk⟩ := List.mem_iff_getElem?.1 q
    have hkl := (List.getElem?_eq_some_iff.1 hk).1
    obtain ⟨y, hy⟩ := get_of_lt (l := p.ins) (k := k) (by have := h.len; omega)
    exact Or.inr ⟨y, List.mem_of_getElem? hy, (h.alk k x y hk hy).aaB hb⟩
  · exact Or.inr ⟨x, List.mem_of_mem_drop q, hb⟩
/-- The world goes on elsewhere. -/
theorem PS.next (h : PS lo w w9 R Wb fault first p N n P ws) (hne : ∀ b, ptB p b → b ≠ R ∧ b ≠ Wb) {x : PI} (hx : p.ins[n]? = some x) (hin : InR N x) {g : Nat} (hg : p.ia = some ⟨g, 0, none⟩) {y z : World} (hil : InsL lo y p.ia ((P ++ p.ins.drop n).set n (readI (src fault P) x))) (hf : Fs (fun b => b = g ∨ aaB x b) w9 y) (hq : Q y z) :
    RD z R Wb fault first p.ia p.ins.length p.ic ws ∧ InsL lo z p.ia (P ++ [readI (src fault P) x] ++ p.ins.drop (n + 1)) ∧ At z g (n * 7) (readI (src fault P) x).cells ∧ Fs (fun b => ptB p b ∨ b = R ∨ b = Wb) w z := by
  have hnl := (List.getElem?_eq_some_iff.1 hx).1
  have hne0 : p.ins ≠ [] := fun e => by rw [e] at hx; simp at hx
  have hpt : ∀ b, (b = g ∨ aaB x b) → ptB p b := fun b hb => by
    rcases hb with rfl | hb
    · exact Or.inl ⟨hne0, hg⟩
    · exact Or.inr ⟨x, List.mem_of_getElem? hx, hb⟩
  rw [mid_set h.len hx] at hil
  have hil' := hil.keep hq
  refine ⟨RD.q ⟨hf.heap h.rd.blk (fun q => (hne R (hpt R q)).1 rfl), hf.heap h.rd.wb (fun q => (hne Wb (hpt Wb q)).2 rfl)⟩ hq, hil', ?_, h.fs.trans ((hf.less fun b hb => Or.inl (Or.inl (hpt b hb))).trans (Fs.of_q hq))⟩
  obtain ⟨b, o, e, hat, -⟩ := hil'.at' n (readI (src fault P) x) (by rw [List.append_assoc, List.getElem?_append_right (by rw [h.len]; exact Nat.le_refl _), h.len, Nat.sub_self]; rfl)
  rw [hg] at e
  simp at e
  obtain ⟨rfl, rfl⟩ := e
  rw [Nat.zero_add] at hat
  exact hat
theorem alk_snoc (h : PS lo w w9 R Wb fault first p N n P ws) {x : PI} (hx : p.ins[n]? = some x) : ∀ (k : Nat) (i j : PI), (P ++ [readI (src fault P) x])[k]? = some i → p.ins[k]? = some j → Alk j i := fun k i j hi hj => by
  rcases Nat.lt_or_ge k P.length with q | q
  · rw [get_snoc q] at hi; exact h.alk k i j hi hj
  · have hk := (List.getElem?_eq_some_iff.1 hi).1
    simp at hk
    have ek : k = P.length := by omega
    subst ek
    rw [get_end] at hi
    injection hi with hi
    rw [h.len, hx] at hj
    injection hj with hj
    subst hi hj
    exact Alk.of_read _ _
theorem eq_snoc (h : PS lo w w9 R Wb fault first p N n P ws) {x : PI} (hx : p.ins[n]? = some x) : propL fault [] p.ins = (P ++ [readI (src fault P) x]) ++ propL fault (P ++ [readI (src fault P) x]) (p.ins.drop (n + 1)) := by
  rw [h.eq, propL_drop hx]; simp
/-- One more, that writes no register. -/
theorem PS.same (h : PS lo w w9 R Wb fault first p N n P ws) (hne : ∀ b, ptB p b → b ≠ R ∧ b ≠ Wb) {x : PI} (hx : p.ins[n]? = some x) (hin : InR N x) {g : Nat} (hg : p.ia = some ⟨g, 0, none⟩) {y z : World} (hil : InsL lo y p.ia ((P ++ p.ins.drop n).set n (readI (src fault P) x))) (hf : Fs (fun b => b = g ∨ aaB x b) w9 y) (hq : Q y z) (hw : wrP x.op = false) : PS lo w z R Wb fault first p N (n + 1) (P ++ [readI (src fault P) x]) ws := by
  obtain ⟨h1, h2, -, h3⟩ := h.next hne hx hin hg hil hf hq
  refine ⟨by simp [h.len], eq_snoc h hx, h2, h1, fun r v hv => ?_, h.wl, rf_step h.rf x, fun i hi => ?_, h3, alk_snoc h hx⟩
  · rw [last_same (fun q => by have := q.1; rw [readI_op, hw] at this; cases this)]
    exact h.wok r v hv
  · rcases List.mem_append.1 hi with q | q
    · exact h.reg i q
    · simp at q; subst q; exact hin.read fun r hr => src_in h.reg hr
/-- One more, that writes one. -/
theorem PS.wrote (h : PS lo w w9 R Wb fault first p N n P ws) (hne : ∀ b, ptB p b → b ≠ R ∧ b ≠ Wb) (hRW : R ≠ Wb) {x : PI} (hx : p.ins[n]? = some x) (hin : InR N x) {g : Nat} (hg : p.ia = some ⟨g, 0, none⟩) {y z : World} (hil : InsL lo y p.ia ((P ++ p.ins.drop n).set n (readI (src fault P) x))) (hf : Fs (fun b => b = g ∨ aaB x b) w9 y) (hq : Q y z) (hw : wrP x.op = true) {d : Nat} (hd : x.dst = (d : Int)) : PS lo w (z.setCell ⟨Wb, d, none⟩ (.int .i64 (first + n))).drew R Wb fault first p N (n + 1) (P ++ [readI (src fault P) x]) (ws.set d (first + n)) := by
  obtain ⟨h1, h2, -, h3⟩ := h.next hne hx hin hg hil hf hq
  have hdl : d < ws.length := by have := (hin.dst hw).2; rw [hd] at this; have := h.wl; omega
  have hnl := (List.getElem?_eq_some_iff.1 hx).1
  have hw' : ∀ r : Int, wrs (readI (src fault P) x) r ↔ r = (d : Int) := fun r => by unfold wrs; rw [readI_op, readI_dst, hw, hd]; simp [eq_comm]
  have f1 : Fs (fun b => b = Wb) z (z.setCell ⟨Wb, d, none⟩ (.int .i64 (first + n))).drew := Fs.drew (Fs.set (S := fun b => b = Wb) (Fs.refl _ z) (p := ⟨Wb, d, none⟩) (Or.inl rfl) _)
  have hblk : ∀ b, ptB p b → b ≠ Wb := fun b hb => (hne b hb).2
  have hmem : ∀ q ∈ P ++ [readI (src fault P) x] ++ p.ins.drop (n + 1), ∀ b, aaB q b → ptB p b := fun q hq b hb => by
    rcases List.mem_append.1 hq with hq | hq
    · obtain ⟨k, hk⟩ := List.mem_iff_getElem?.1 hq
      have hkl := (List.getElem?_eq_some_iff.1 hk).1
      simp at hkl
      obtain ⟨j, hj⟩ := get_of_lt (l := p.ins) (k := k) (by have := h.len; omega)
      exact Or.inr ⟨j, List.mem_of_getElem? hj, (alk_snoc h hx k q j hk hj).aaB hb⟩
    · exact Or.inr ⟨q, List.mem_of_mem_drop hq, hb⟩
  refine ⟨by simp [h.len], eq_snoc h hx, InsL.fs h2 f1 (fun b _ e => hblk b (Or.inl ⟨fun q => by rw [q] at hx; simp at hx, e⟩)) (fun q hq b hb => hblk b (hmem q hq b hb)), ⟨?_, ?_⟩, fun r v hv => ?_, by rw [List.length_set]; exact h.wl, rf_step h.rf x, fun i hi => ?_, h3.trans (f1.less fun b hb => Or.inl (Or.inr (Or.inr hb))), alk_snoc h hx⟩
  · rw [List.length_set]
    exact f1.heap h1.blk hRW
  · have := block_setCell (j := d) h1.wb (.int .i64 (first + n))
    show (z.setCell ⟨Wb, d, none⟩ (.int .i64 (first + n))).heap[Wb]? = _
    rw [this]
    simp [List.map_set]
  · by_cases e : r = d
    · subst e
      rw [List.getElem?_set_self hdl] at hv
      injection hv with hv
      rw [last_new ((hw' _).2 rfl), h.len]
      exact ⟨fun q => (by cases q), fun k q => (by injection q with q; subst q; exact hv.symm)⟩
    · rw [List.getElem?_set_ne (fun q => e q.symm)] at hv
      rw [last_same (fun q => e (by have := (hw' _).1 q; omega))]
      exact h.wok r v hv
  · rcases List.mem_append.1 hi with q | q
    · exact h.reg i q
    · simp at q; subst q; exact hin.read fun r hr => src_in h.reg hr
end

end Go.Proofs.Ytipmbamcldlmeaa.Pp

namespace Go.Proofs.Ytipmbamcldlmeaa.Pp
open Go.RowKit
set_option linter.unusedVariables false

/-- What comes of a part. -/
structure PartPost (lo : Nat) (w w' : World) (R Wb Pb j : Nat) (fault : Bool) (first : Int) (p : PP) (N : Nat) (cs : Array Value) (t : TypeId) (ws : List Int) : Prop where
  il : InsL lo w' p.ia (propL fault [] p.ins)
  rd : RD w' R Wb fault (first + p.ins.length) p.ia p.ins.length p.ic ws
  wl : ws.length = N
  all : ∀ v ∈ ws, v < first + p.ins.length
  blk : w'.heap[Pb]? = some (.cells (cs.setIfInBounds (j * 5 + 2) (.int .i64 (propP fault p).cond)) t (0, 0))
  fs : Fs (fun b => ptB p b ∨ b = R ∨ b = Wb ∨ b = Pb) w w'

theorem wrap_in {z : Int} (h1 : -9223372036854775808 ≤ z) (h2 : z ≤ 9223372036854775807) : IntKind.i64.wrap z = z := by
  rw [IntKind.wrap_i64]; omega
theorem wok_all {first : Int} {ws : List Int} {P : List PI} (h : WOk first ws P) {n : Nat} (hn : P.length ≤ n) : ∀ v ∈ ws, v < first + (n : Int) ∨ n = 0 ∧ v < first := fun v hv => by
  obtain ⟨r, hr⟩ := List.mem_iff_getElem?.1 hv
  obtain ⟨h1, h2⟩ := h r v hr
  cases hl : lastW P (r : Int) with
  | none => have := h1 hl; by_cases e : n = 0; exact Or.inr ⟨e, this⟩; left; omega
  | some k => have := h2 k hl; have := last_lt hl; left; omega

/-- The end of a part: its reader goes on. -/
theorem part_end {lo : Nat} {w w9 : World} {R Wb Pb j : Nat} {fault : Bool} {first : Int} {p : PP} {N : Nat} {P : List PI} {ws : List Int} {cs : Array Value} {t : TypeId} (h : PS lo w w9 R Wb fault first p N p.ins.length P ws) (hne : ∀ b, ptB p b → b ≠ R ∧ b ≠ Wb ∧ b ≠ Pb) (hRW : R ≠ Wb ∧ R ≠ Pb ∧ Wb ≠ Pb) {z : World} (hf : Fs (fun b => b = Pb) w9 z) (hb : z.heap[Pb]? = some (.cells (cs.setIfInBounds (j * 5 + 2) (.int .i64 (propP fault p).cond)) t (0, 0))) : PartPost lo w (z.setCell ⟨R, 1, none⟩ (.int .i64 (first + p.ins.length))).drew R Wb Pb j fault first p N cs t ws := by
  have e0 : P = propL fault [] p.ins := by
    have := h.eq
    rw [List.drop_length] at this
    simpa [propL] using this.symm
  have hil := h.il
  rw [List.drop_length, List.append_nil] at hil
  have hb0 := h.blk (Nat.le_refl _)
  rw [List.drop_length, List.append_nil] at hb0
  have f1 : Fs (fun b => b = R) z (z.setCell ⟨R, 1, none⟩ (.int .i64 (first + p.ins.length))).drew := Fs.drew (Fs.set (S := fun b => b = R) (Fs.refl _ z) (p := ⟨R, 1, none⟩) (Or.inl rfl) _)
  have f2 : Fs (fun b => b = R ∨ b = Pb) w9 (z.setCell ⟨R, 1, none⟩ (.int .i64 (first + p.ins.length))).drew := (hf.less fun b hb => Or.inl (Or.inr hb)).trans (f1.less fun b hb => Or.inl (Or.inl hb))
  have hfar : ∀ b, ptB p b → ¬ (b = R ∨ b = Pb) := fun b hb q => by have := hne b hb; rcases q with q | q; exact this.1 q; exact this.2.2 q
  refine ⟨?_, ⟨?_, ?_⟩, h.wl, fun v hv => ?_, ?_, (h.fs.less fun b hb => Or.inl ?_).trans (f2.less fun b hb => Or.inl ?_)⟩
  · rw [← e0]
    exact InsL.fs hil f2 (fun b h1 h2 => hfar b (hb0.1 b h1 h2)) (fun x hx b h1 => hfar b (hb0.2 x hx b h1))
  · have h1 : z.heap[R]? = _ := hf.heap h.rd.blk hRW.2.1
    have := block_setCell (j := 1) h1 (.int .i64 (first + p.ins.length))
    show (z.setCell ⟨R, 1, none⟩ (.int .i64 (first + p.ins.length))).heap[R]? = _
    rw [this]
    simp
  · exact f2.heap h.rd.wb (fun q => by rcases q with q | q; exact hRW.1 q.symm; exact hRW.2.2 q)
  · rcases wok_all h.wok (n := p.ins.length) (by rw [h.len]; exact Nat.le_refl _) v hv with q | ⟨q1, q2⟩
    · exact q
    · omega
  · exact f1.heap hb (fun q => hRW.2.1 q.symm)
  · rcases hb with q | q | q
    · exact Or.inl q
    · exact Or.inr (Or.inl q)
    · exact Or.inr (Or.inr (Or.inl q))
  · rcases hb with q | q
    · exact Or.inr (Or.inl q)
    · exact Or.inr (Or.inr (Or.inr q))

set_option maxRecDepth 100000 in
set_option maxHeartbeats 4000000 in
theorem part_any (w : World) (lo R Wb Pb j : Nat) (fault : Bool) (first : Int) (p : PP) (N : Nat) (cs : Array Value) (t : TypeId) (ws : List Int) (ia0 : Option Addr) (n0 ic0 : Nat) (hat : At w Pb (j * 5) p.cells) (hPb : w.heap[Pb]? = some (.cells cs t (0, 0))) (hil : InsL lo w p.ia p.ins) (hlen : p.ins.length ≤ 2199023255552) (hrd : RD w R Wb fault first ia0 n0 ic0 ws) (hwl : ws.length = N) (hall : ∀ v ∈ ws, v < first) (h0 : 0 ≤ first) (hb : first + p.ins.length ≤ 4611686018427387904) (hN : N ≤ 4611686018427387904) (hin : ∀ x ∈ p.ins, InR N x) (hco : 0 ≤ p.cond → inN N p.cond) (hne : ∀ b, ptB p b → b ≠ R ∧ b ≠ Wb ∧ b ≠ Pb) (hRW : R ≠ Wb ∧ R ≠ Pb ∧ Wb ≠ Pb) :
    Calls Try.prog 24 #[.pointer (some ⟨R, 0, none⟩), .pointer (some ⟨Pb, j * 5, none⟩)] w fun e w' => e = .returned (.tuple #[]) ∧ ∃ ws', PartPost lo w w' R Wb Pb j fault first p N cs t ws' := by
  have hne2 : ∀ b, ptB p b → b ≠ R ∧ b ≠ Wb := fun b hb => ⟨(hne b hb).1, (hne b hb).2.1⟩
  obtain ⟨c0, c1, c2, c3, c4⟩ := hat.five
  have r2 : w.cell? ⟨R, 2, none⟩ = some (.slice ia0 n0 ic0) := (cell_of_block hrd.blk 2).trans rfl
  have rf : ∀ k, w.frozen? ⟨R, k, none⟩ = false := fun k => free_of_block hrd.blk k
  have P0 : Hid (PS lo w (w.setCell ⟨R, 2, none⟩ (.slice p.ia p.ins.length p.ic)) R Wb fault first p N 0 [] ws) := by
    have f1 : Fs (fun b => b = R) w (w.setCell ⟨R, 2, none⟩ (.slice p.ia p.ins.length p.ic)) := Fs.set (S := fun b => b = R) (Fs.refl _ w) (p := ⟨R, 2, none⟩) (Or.inl rfl) _
    refine ⟨rfl, rfl, ?_, ⟨?_, f1.heap hrd.wb (fun q => hRW.1 q.symm)⟩, fun r v hv => ⟨fun _ => hall v (List.mem_of_getElem? hv), fun k q => by rw [last_nil] at q; cases q⟩, hwl, rf_nil _, fun i hi => by simp at hi, f1.less fun b hb => Or.inl (Or.inr (Or.inl hb)), fun k i j hi => by simp at hi⟩
    · show InsL lo _ p.ia p.ins
      exact InsL.fs hil f1 (fun b h1 h2 => (hne2 b (Or.inl ⟨h1, h2⟩)).1) (fun x hx b h1 => (hne2 b (Or.inr ⟨x, hx, h1⟩)).1)
    · have := block_setCell (j := 2) hrd.blk (.slice p.ia p.ins.length p.ic)
      rw [this]
      simp
  have HPB : Hid (∀ X P ws n, PS lo w X R Wb fault first p N n P ws → X.heap[Pb]? = some (.cells cs t (0, 0))) := fun X P ws n h => h.fs.heap hPb (fun q => by rcases q with q | q | q; exact (hne Pb q).2.2 rfl; exact hRW.2.1 q.symm; exact hRW.2.2 q.symm)
  have HPC : Hid (∀ X P ws n, PS lo w X R Wb fault first p N n P ws → X.cell? ⟨Pb, j * 5, none⟩ = some (.slice p.ia p.ins.length p.ic) ∧ X.cell? ⟨Pb, j * 5 + 2, none⟩ = some (.int .i64 p.cond)) := fun X P ws n h => by
    have e := HPB.out X P ws n h
    rw [cell_of_block hPb] at c0 c2
    exact ⟨(cell_of_block e _).trans c0, (cell_of_block e _).trans c2⟩
  have HNE := hideIt hne
  have HNE2 := hideIt hne2
  have HRW := hideIt hRW
  have HIN := hideIt hin
  have HCO := hideIt hco
  have c0' : (w.setCell ⟨R, 2, none⟩ (.slice p.ia p.ins.length p.ic)).cell? ⟨Pb, j * 5, none⟩ = some (.slice p.ia p.ins.length p.ic) := (HPC.out _ _ _ _ P0.out).1
  clear hat hPb hil hrd hall hin hco hne hne2 hRW c1 c2 c3 c4
  go_enter Try.func24, Try.ntmps24
  go_wp2_with (fail)
  generalize w.setCell ⟨R, 2, none⟩ (.slice p.ia p.ins.length p.ic) = w0 at *
  clear c0 r2 rf c0'
  go_loopw [4, 5, 18] (fun d4 d5 nv w9 => ∃ (n : Nat) (P : List PI) (vs : List Int), nv = .int .i64 (n : Int) ∧ n ≤ p.ins.length ∧ Hid (PS lo w w9 R Wb fault first p N n P vs)) (fun _ _ nv _ => p.ins.length - (intOf nv).toNat)
  case atStart => exact ⟨0, [], ws, rfl, by omega, P0⟩
  case round =>
    obtain ⟨n, P, vs, rfl, hn, HS⟩ := hrel
    generalize wr = w1 at *
    clear P0
    obtain ⟨p0, p2⟩ := HPC.out w1 P vs n HS.out
    by_cases hlt : n < p.ins.length
    · obtain ⟨x, hx⟩ := get_of_lt hlt
      obtain ⟨g, hg⟩ : ∃ g, p.ia = some ⟨g, 0, none⟩ := by
        rcases HS.out.il.nb with h | ⟨g, cs, t, e, -, hh⟩
        · rw [HS.out.plen hn] at h; omega
        · exact ⟨g, e⟩
      have hgp : ptB p g := Or.inl ⟨fun e => (by rw [e] at hlt; simp at hlt), hg⟩
      have hxin := HIN.out x (List.mem_of_getElem? hx)
      have RA : Hid (Calls Try.prog 41 #[.pointer (some ⟨R, 0, none⟩), .pointer (some ⟨g, n * 7, none⟩)] w1 fun e w' => e = .returned (.tuple #[]) ∧ InsL lo w' p.ia ((P ++ p.ins.drop n).set n (readI (src fault P) x)) ∧ Fs (fun b => b = g ∨ aaB x b) w1 w') := by
        have hk := HS.out.rdok hn h0 hb
        rw [← HS.out.plen hn] at hk
        have hil := HS.out.il
        rw [hg] at hk hil ⊢
        exact read_any w1 R Wb lo g n p.ic fault first vs P _ x hil (HS.out.get hx) (by omega) hk (by rw [HS.out.len]; exact Nat.le_refl _) (by rw [HS.out.wl]; exact hxin) (by rw [HS.out.wl]; omega) ⟨fun e => (HNE.out g hgp).1 e.symm, fun e => (HNE.out g hgp).2.1 e.symm⟩ (fun b hb => ⟨fun e => (HNE.out b (Or.inr ⟨x, List.mem_of_getElem? hx, hb⟩)).1 e.symm, fun e => (HNE.out b (Or.inr ⟨x, List.mem_of_getElem? hx, hb⟩)).2.1 e.symm⟩)
      have p0' : w1.cell? ⟨Pb, j * 5, none⟩ = some (.slice (some ⟨g, 0, none⟩) p.ins.length p.ic) := by rw [← hg]; exact p0
      have HX := hideIt hx
      have HG := hideIt hg
      have HXI := hideIt hxin
      have hnl : (n : Int) < (p.ins.length : Int) := by omega
      have AT : Hid (∀ y, InsL lo y p.ia ((P ++ p.ins.drop n).set n (readI (src fault P) x)) → Fs (fun b => b = g ∨ aaB x b) w1 y → At y g (n * 7) (readI (src fault P) x).cells) := fun y h1 h2 => (HS.out.next HNE2.out hx hxin hg h1 h2 (Q.refl y)).2.2.1
      have CD := hideIt (fun X => dst_any (readI (src fault P) x) X)
      have hop : (readI (src fault P) x).op = x.op := readI_op _ _
      have hds : (readI (src fault P) x).dst = x.dst := readI_dst _ _
      rw [hop] at CD
      clear p0 p2 hx hg hxin hgp
      cases hw : wrP x.op with
      | false =>
        rw [hw] at CD
        have NX : Hid (∀ y z, InsL lo y p.ia ((P ++ p.ins.drop n).set n (readI (src fault P) x)) → Fs (fun b => b = g ∨ aaB x b) w1 y → Q y z → PS lo w z R Wb fault first p N (n + 1) (P ++ [readI (src fault P) x]) vs) := fun y z h1 h2 h3 => HS.out.same HNE2.out HX.out HXI.out HG.out h1 h2 h3 hw
        clear hw hop hds
        generalize readI (src fault P) x = x' at *
        go_wp2_with (first
          | (go_at_call 41; refine RA.out.mono ?_; rintro e y ⟨rfl, a1, a2⟩; have HI := hideIt a1; have HF := hideIt a2; obtain ⟨s0, s1, s2, s3, s4, s5, s6⟩ := (AT.out y a1 a2).seven; clear a1 a2)
          | (go_at_call 42; refine Calls.mono (CD.out y) ?_; rintro e z ⟨rfl, q⟩; have HZ := hideIt (NX.out y z HI.out HF.out q); clear q s0 s1 s2 s3 s4 s5 s6)
          | fail)
        go_roundw
        case rel => exact ⟨n + 1, _, _, by go_num, by omega, HZ⟩
        case measure => simp [intOf]; omega
      | true =>
        rw [hw] at CD
        obtain ⟨d1, d2⟩ := HXI.out.dst hw
        obtain ⟨d, hd⟩ : ∃ d : Nat, x.dst = (d : Int) := ⟨x.dst.toNat, by omega⟩
        have hdl : d < vs.length := by have := HS.out.wl; omega
        have NX : Hid (∀ y z, InsL lo y p.ia ((P ++ p.ins.drop n).set n (readI (src fault P) x)) → Fs (fun b => b = g ∨ aaB x b) w1 y → Q y z → PS lo w (z.setCell ⟨Wb, d, none⟩ (.int .i64 (first + n))).drew R Wb fault first p N (n + 1) (P ++ [readI (src fault P) x]) (vs.set d (first + n))) := fun y z h1 h2 h3 => HS.out.wrote HNE2.out HRW.out.1 HX.out HXI.out HG.out h1 h2 h3 hw hd
        obtain ⟨v0, hv0⟩ := get_of_lt hdl
        have HC : Hid (∀ y z, InsL lo y p.ia ((P ++ p.ins.drop n).set n (readI (src fault P) x)) → Fs (fun b => b = g ∨ aaB x b) w1 y → Q y z → z.cell? ⟨R, 3, none⟩ = some (.slice (some ⟨Wb, 0, none⟩) vs.length vs.length) ∧ z.cell? ⟨R, 1, none⟩ = some (.int .i64 first) ∧ z.cell? ⟨g, n * 7 + 2, none⟩ = some (.int .i64 (d : Int)) ∧ z.cell? ⟨Wb, d, none⟩ = some (.int .i64 v0) ∧ ∀ k, z.frozen? ⟨Wb, k, none⟩ = false) := fun y z h1 h2 h3 => by
          obtain ⟨n1, n2, n3, -⟩ := HS.out.next HNE2.out HX.out HXI.out HG.out h1 h2 h3
          refine ⟨(cell_of_block n1.blk 3).trans rfl, (cell_of_block n1.blk 1).trans rfl, ?_, n1.at' hv0, fun k => free_of_block n1.wb k⟩
          have := n3.seven.2.2.1
          rw [hds, hd] at this
          exact this
        have hdl' : (d : Int) < (vs.length : Int) := by omega
        have hwr : IntKind.i64.wrap (first + (n : Int)) = first + (n : Int) := wrap_in (by omega) (by omega)
        clear hw hop hds hv0 d1 d2 hd
        generalize readI (src fault P) x = x' at *
        go_wp2_with (first
          | (go_at_call 41; refine RA.out.mono ?_; rintro e y ⟨rfl, a1, a2⟩; have HI := hideIt a1; have HF := hideIt a2; obtain ⟨s0, s1, s2, s3, s4, s5, s6⟩ := (AT.out y a1 a2).seven; clear a1 a2)
          | (go_at_call 42; refine Calls.mono (CD.out y) ?_; rintro e z ⟨rfl, q⟩; have HQ := hideIt q; clear q s0 s1 s2 s3 s4 s5 s6; obtain ⟨s0, s1, s2, s3, s4⟩ := HC.out y z HI.out HF.out HQ.out)
          | fail)
        go_region
        go_wp2_with (fail)
        exact ⟨⟨n + 1, _, _, by go_num, by omega, hideIt (NX.out y z HI.out HF.out HQ.out)⟩, by simp [intOf]; omega⟩
    · have en : n = p.ins.length := by omega
      subst en
      have k1 : decide ((p.ins.length : Int) < (p.ins.length : Int)) = false := by simp
      have hwr : IntKind.i64.wrap (first + (p.ins.length : Int)) = first + (p.ins.length : Int) := wrap_in (by omega) (by omega)
      have hP : P = propL fault [] p.ins := by
        have := HS.out.eq
        rw [List.drop_length] at this
        simpa [propL] using this.symm
      have hB := HPB.out w1 P vs _ HS.out
      have r1 : w1.cell? ⟨R, 1, none⟩ = some (.int .i64 first) := (cell_of_block HS.out.rd.blk 1).trans rfl
      have rf : w1.frozen? ⟨R, 1, none⟩ = false := free_of_block HS.out.rd.blk 1
      by_cases hc : 0 ≤ p.cond
      · have SC := hideIt (source_any w1 R Wb fault first p.ia p.ins.length p.ic vs P (HS.out.rdok hn h0 hb) p.cond (by rw [HS.out.wl]; exact HCO.out hc))
        have hpc : (propP fault p).cond = src fault P p.cond := by unfold propP; rw [hP]; exact if_pos hc
        have HB : Hid (∀ y, Q w1 y → y.cell? ⟨Pb, j * 5 + 2, none⟩ = some (.int .i64 p.cond) ∧ y.frozen? ⟨Pb, j * 5 + 2, none⟩ = false ∧ y.cell? ⟨R, 1, none⟩ = some (.int .i64 first) ∧ y.frozen? ⟨R, 1, none⟩ = false ∧ y.cell? ⟨Pb, j * 5, none⟩ = some (.slice p.ia p.ins.length p.ic)) := fun y hy => ⟨cell_keep hy p2, free_of_block (heap_keep hy hB) _, cell_keep hy r1, free_of_block (heap_keep hy HS.out.rd.blk) 1, cell_keep hy p0⟩
        have hRP : (⟨Pb, j * 5 + 2, none⟩ : Addr) ≠ ⟨R, 1, none⟩ := fun e => HRW.out.2.1 (by injection e with e1 e2; exact e1.symm)
        have hRP' : (⟨R, 1, none⟩ : Addr) ≠ ⟨Pb, j * 5 + 2, none⟩ := fun e => hRP e.symm
        have HR1 : Hid (∀ y, Q w1 y → (y.setCell ⟨Pb, j * 5 + 2, none⟩ (.int .i64 (src fault P p.cond))).cell? ⟨R, 1, none⟩ = some (.int .i64 first) ∧ (y.setCell ⟨Pb, j * 5 + 2, none⟩ (.int .i64 (src fault P p.cond))).frozen? ⟨R, 1, none⟩ = false ∧ (y.setCell ⟨Pb, j * 5 + 2, none⟩ (.int .i64 (src fault P p.cond))).cell? ⟨Pb, j * 5, none⟩ = some (.slice p.ia p.ins.length p.ic)) := fun y hy => by
          obtain ⟨b1, b2, b3, b4, b5⟩ := HB.out y hy
          refine ⟨set_cell_ne b3 hRP', free_of_block (heap_set_other (heap_keep hy HS.out.rd.blk) HRW.out.2.1) 1, set_cell_ne b5 (fun e => by injection e with e1 e2; omega)⟩
        have FIN : Hid (∀ y, Q w1 y → PartPost lo w ((y.setCell ⟨Pb, j * 5 + 2, none⟩ (.int .i64 (src fault P p.cond))).setCell ⟨R, 1, none⟩ (.int .i64 (first + p.ins.length))).drew R Wb Pb j fault first p N cs t vs) := fun y hy => by
          refine part_end HS.out HNE.out HRW.out (Fs.set (S := fun b => b = Pb) (Fs.of_q hy) (p := ⟨Pb, j * 5 + 2, none⟩) (Or.inl rfl) _) ?_
          rw [hpc]
          exact block_setCell (heap_keep hy hB) _
        have hc' : decide (0 ≤ p.cond) = true := by simpa using hc
        clear hP hB r1 rf hpc hc
        go_wp2_with (first | (go_at_call 43; refine SC.out.mono ?_; rintro e y ⟨rfl, q⟩; have HQ := hideIt q; clear q p0 p2; obtain ⟨b1, b2, -, -, -⟩ := HB.out y HQ.out; obtain ⟨b3, b4, b5⟩ := HR1.out y HQ.out) | fail)
        generalize hz : y.setCell ⟨Pb, j * 5 + 2, none⟩ (.int .i64 (src fault P p.cond)) = z at *
        have FN : Hid (PartPost lo w (z.setCell ⟨R, 1, none⟩ (.int .i64 (first + p.ins.length))).drew R Wb Pb j fault first p N cs t vs) := by rw [← hz]; exact FIN.out y HQ.out
        clear hz
        go_region
        go_wp2_with (fail)
        go_end0
        exact ⟨rfl, vs, FN.out⟩
      · have hpc : (propP fault p).cond = p.cond := by unfold propP; exact if_neg hc
        have hset : cs.setIfInBounds (j * 5 + 2) (.int .i64 p.cond) = cs := by
          have h1 := p2
          rw [cell_of_block hB] at h1
          refine Array.ext (by simp) (fun k h2 h3 => ?_)
          rw [Array.getElem_setIfInBounds]
          split
          · rename_i e
            subst e
            rw [Array.getElem?_eq_getElem h3] at h1
            injection h1 with h1
            exact h1.symm
          · rfl
        have FN : Hid (PartPost lo w (w1.setCell ⟨R, 1, none⟩ (.int .i64 (first + p.ins.length))).drew R Wb Pb j fault first p N cs t vs) := by
          refine part_end HS.out HNE.out HRW.out (Fs.refl _ w1) ?_
          rw [hpc, hset]
          exact hB
        have hc' : decide (0 ≤ p.cond) = false := by simpa using hc
        clear hP hB hpc hset hc
        go_wp2_with (fail)
        go_region
        go_wp2_with (fail)
        go_end0
        exact ⟨rfl, vs, FN.out⟩

end Go.Proofs.Ytipmbamcldlmeaa.Pp
