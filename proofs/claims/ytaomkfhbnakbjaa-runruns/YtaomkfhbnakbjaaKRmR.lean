/-
  The parts of a function are run (parts): a contract over the program; the conditions: a run lies there, the call is open, the function is right, and the functions ahead keep their contract.
  The parts of a function are run (parts), the walk: a contract over the program; the conditions: a run lies there, the call is open, the function is right, and the functions ahead keep their contract.
-/
import Derived.Test.YtaomkfhbnakbjaaKRmP
import Derived.Deep.LoopGhost
namespace Go.Proofs.Ytaomkfhbnakbjaa
open Go.RowKit
set_option linter.unusedVariables false

/-- How the parts of a function end. -/
def PrtPost (w w0 : World) (R p gb gc : Nat) (col : Col) (c : PC) (fuel : Nat) (s : St) (G : GG) (k : Nat) (f : PF) (r : Rs Int) (e : Ending) (w' : World) : Prop :=
  match r with
  | .ok v s' => e = .returned (.tuple #[.int .i64 v, .agg #[.int .u8 0, .bool false]]) ∧ ∃ col' A' G' ρ', RI w' w0 R p gb gc col' c fuel s' A' G' ∧ Ex col w col' w' ∧ opn f ρ' (G' k) ∧ idles c k G' ∧ (∀ j, k < j → G' j = G j) ∧ s'.bs.length = s.bs.length
  | .over t sp s' => e = .returned (.tuple #[.int .i64 0, .agg #[.int .u8 t, .bool sp]]) ∧ (t ≠ 0 ∨ sp = true) ∧ ∃ col' A' G' s'', RI w' w0 R p gb gc col' c fuel s'' A' G' ∧ Ex col w col' w' ∧ (∀ j, k < j → G' j = G j) ∧ s''.n = s'.n ∧ s''.tr = s'.tr ∧ s.bs.length ≤ s''.bs.length

/-- What holds while parts are run: where we are; O: the box of the answer. -/
structure PS (w wr w0 : World) (R p gb gc : Nat) (col col' : Col) (c : PC) (fuel : Nat) (s s' : St) (A' : List Int) (G G' : GG) (k : Nat) (f : PF) (ρ : Rg) (Cb fb fo first O : Nat) : Prop where
  ia : IA wr w0 R p gb gc col' c fuel s' A' G' k f ρ Cb fb fo first
  ex : Ex col w col' wr
  gt : ∀ j, k < j → G' j = G j
  bl : s'.bs.length = s.bs.length
  ob : wr.heap[O]? = some (.cells #[.int .u8 0, .bool false] 105 (0, 0))
  on : col' O = none
  ol : w.heap.size ≤ O
theorem PS.le {w wr w0 : World} {R p gb gc : Nat} {col col' : Col} {c : PC} {fuel : Nat} {s s' : St} {A' : List Int} {G G' : GG} {k : Nat} {f : PF} {ρ : Rg} {Cb fb fo first O : Nat} (h : PS w wr w0 R p gb gc col col' c fuel s s' A' G G' k f ρ Cb fb fo first O) (hw : w0.heap.size ≤ w.heap.size) : w0.heap.size ≤ O := Nat.le_trans hw h.ol
/-- The same, in a world in which nothing of it has changed. -/
theorem PS.keep {w wr wr' w0 : World} {R p gb gc : Nat} {col col' : Col} {c : PC} {fuel : Nat} {s s' : St} {A' : List Int} {G G' : GG} {k : Nat} {f : PF} {ρ : Rg} {Cb fb fo first O : Nat} (h : PS w wr w0 R p gb gc col col' c fuel s s' A' G G' k f ρ Cb fb fo first O) (hq : Q wr wr') : PS w wr' w0 R p gb gc col col' c fuel s s' A' G G' k f ρ Cb fb fo first O :=
  ⟨⟨h.ia.ri.keep hq, h.ia.hf, h.ia.hk, h.ia.op, h.ia.id, h.ia.cb.keep hq, h.ia.cc, h.ia.hfi, h.ia.rg⟩, h.ex.trans (Ex.q hq), h.gt, h.bl, (hq.block O (Array.getElem?_eq_some_iff.1 h.ob).1).trans h.ob, h.on, h.ol⟩
/-- An instruction went on. -/
theorem PS.ins {w wr wr' w0 : World} {R p gb gc : Nat} {col col' : Col} {c : PC} {fuel : Nat} {s s' : St} {A' : List Int} {G G' : GG} {k : Nat} {f : PF} {ρ : Rg} {Cb fb fo first O : Nat} (h : PS w wr w0 R p gb gc col col' c fuel s s' A' G G' k f ρ Cb fb fo first O) {ρ' : Rg} {s2 : St} {col2 : Col} {A2 : List Int} {G2 : GG}
    (a1 : RI wr' w0 R p gb gc col2 c fuel s2 A2 G2) (a2 : Ex col' wr col2 wr') (a3 : opn f ρ' (G2 k)) (a4 : idles c k G2) (a5 : ∀ j, k < j → G2 j = G' j) (a6 : s2.bs.length = s'.bs.length) : PS w wr' w0 R p gb gc col col2 c fuel s s2 A2 G G2 k f ρ' Cb fb fo first O := by
  have hC : Cb < wr.heap.size := World.block_lt_of_cell? wr _ h.ia.cb.c0
  have hO := (Array.getElem?_eq_some_iff.1 h.ob).1
  exact ⟨⟨a1, h.ia.hf, h.ia.hk, a3, a4, h.ia.cb.ex h.ia.cc a2, (a2.col Cb hC).trans h.ia.cc, by rw [a6]; exact h.ia.hfi, h.ia.rg⟩, h.ex.trans a2, fun j hj => (a5 j hj).trans (h.gt j hj), a6.trans h.bl, Ex.blk a2 h.on h.ob, (a2.col O hO).trans h.on, h.ol⟩

theorem insR_drop {cf : CallT} {fuel keep : Nat} {l : List PI} {i : Nat} {x : PI} (h : l[i]? = some x) (ρ : Rg) (s : St) : insR cf fuel keep (l.drop i) ρ s = match exI cf fuel keep x ρ s with | .ok ρ' s' => insR cf fuel keep (l.drop (i + 1)) ρ' s' | .over t sp s' => .over t sp s' := by
  obtain ⟨hl, e⟩ := List.getElem?_eq_some_iff.1 h
  rw [List.drop_eq_getElem_cons hl, e]
  rfl

/-- The part that is gone to is there. -/
theorem next_lt {f : PF} {q : PP} {ρ : Rg} (h : endP f q = true) (he : q.e = false) : 0 ≤ nextP q ρ ∧ nextP q ρ < (f.parts.length : Int) := by
  unfold endP at h
  rw [he] at h
  simp [blP] at h
  unfold nextP
  by_cases hc : q.cond < 0
  · simp [hc] at h
    rw [if_neg (fun x => by omega)]
    omega
  · simp [hc] at h
    split <;> omega

end Go.Proofs.Ytaomkfhbnakbjaa

namespace Go.Proofs.Ytaomkfhbnakbjaa
open Go.RowKit
set_option linter.unusedVariables false

set_option maxRecDepth 100000 in
set_option maxHeartbeats 4000000 in
theorem parts_ri {w w0 : World} {R p gb gc : Nat} {col : Col} {c : PC} {fuel : Nat} {s : St} {A : List Int} {G : GG} {k : Nat} {f : PF} {ρ : Rg} {Cb fb fo first : Nat} (h : IA w w0 R p gb gc col c fuel s A G k f ρ Cb fb fo first) (hfa : At w0 fb fo f.cells) (hfok : f.ok w0) (hfl : f.slots.length ≤ 65536) (hgl : c.gl.length ≤ 65536) (hfn : fnP c k f = true) {cf : CallT} (hmon : MonC cf) (hpar : ∀ (j : Nat) (g : PF), c.fns[j]? = some g → g.params ≤ 20000) (hcc : CallC w0 R p gb gc c fuel cf k) :
    Calls Try.prog 83 #[.pointer (some ⟨R, 0, none⟩), .pointer (some ⟨Cb, 0, none⟩)] w fun e w' => PrtPost w w0 R p gb gc col c fuel s G k f (partsR cf fuel first f (fuel + 1) 0 ρ s) e w' := by
  have hlw := hideIt h.ri.lew
  have hfn' := hfn
  unfold fnP at hfn'
  simp only [Bool.and_eq_true] at hfn'
  obtain ⟨hhead, hall⟩ := hfn'
  obtain ⟨-, -, -, hpl, -⟩ := headP_iff hhead
  obtain ⟨q0, hq0⟩ := get_of_lt (l := f.parts) (k := 0) (by omega)
  obtain ⟨pb, po, epa, hpat0, hpok0⟩ := hfok.parts 0 q0 hq0
  have HPT := hideIt (fun (at' : Nat) (q : PP) (hq : f.parts[at']? = some q) => show At w0 pb (po + at' * 5) q.cells ∧ q.ok w0 ∧ endP f q = true ∧ ∀ x ∈ q.ins, insP c k f x = true from by
    obtain ⟨b, o, e1, e2, e3⟩ := hfok.parts at' q hq
    rw [epa] at e1
    simp only [Option.some.injEq, Addr.mk.injEq] at e1
    obtain ⟨rfl, rfl, -⟩ := e1
    have := List.all_eq_true.1 hall q (List.mem_of_getElem? hq)
    unfold ptP at this
    simp only [Bool.and_eq_true] at this
    exact ⟨e2, e3, this.1, fun x hx => List.all_eq_true.1 this.2 x hx⟩)
  obtain ⟨f0, f1, f2, f3⟩ := hfa.four
  rw [epa] at f3
  have hplen : f.parts.length ≤ 9223372036854775807 := hfok.psok.len
  have c1 := h.cb.c1
  have w3 : w.cell? ⟨fb, fo + 3, none⟩ = some (.slice (some ⟨pb, po, none⟩) f.parts.length f.pc) := (h.ri.bel.cell (p := ⟨fb, fo + 3, none⟩) (World.block_lt_of_cell? w0 _ f3)).trans f3
  have w3' : ∀ ob, (w.alloc ob).cell? ⟨fb, fo + 3, none⟩ = some (.slice (some ⟨pb, po, none⟩) f.parts.length f.pc) := fun ob => Me.cell_box w3 ob
  have c1' : ∀ ob, (w.alloc ob).cell? ⟨Cb, 1, none⟩ = some (.pointer (some ⟨fb, fo, none⟩)) := fun ob => Me.cell_box c1 ob
  have hpl0 : (0 : Int) < (f.parts.length : Int) := by omega
  have H0 := hideIt (show PS w (w.alloc (.cells #[.int .u8 0, .bool false] 105)) w0 R p gb gc col col c fuel s s A G G k f ρ Cb fb fo first w.heap.size from
    ⟨⟨h.ri.alloc _, h.hf, h.hk, h.op, h.id, h.cb.keep ((Q.refl w).alloc _), h.cc, h.hfi, h.rg⟩, (Ex.refl col w).alloc _, fun _ _ => rfl, rfl, heap_alloc_new w _, h.ri.none (Nat.le_refl _), Nat.le_refl _⟩)
  have INS := hideIt (fun (wr : World) (col' : Col) (s' : St) (A' : List Int) (G' : GG) (ρ' : Rg) (hI : IA wr w0 R p gb gc col' c fuel s' A' G' k f ρ' Cb fb fo first) (ib io : Nat) (x : PI) (hx : At w0 ib io x.cells) (hxok : x.ok w0) (hi : insP c k f x = true) => inst_any hI ib io x hx hxok hfl hgl hi hmon hpar hcc)
  have HF3 := hideIt f3
  have HMON := hideIt hmon
  have hnl := hideIt h.ri.nle
  have hff := hideIt h.hf
  obtain ⟨ans, hans⟩ : ∃ a, partsR cf fuel first f (fuel + 1) 0 ρ s = a := ⟨_, rfl⟩
  rw [hans]
  have HA := hideIt hans
  have HQ0 := hideIt hq0
  generalize hOO : w.heap.size = O at *
  clear h hfa hfok hfl hgl hfn hmon hpar hcc hhead hall hpl hq0 hpat0 hpok0 f0 f1 f2 f3 hans epa w3 c1
  go_enter Try.func83, Try.ntmps83
  go_wp2_with (fail)
  go_loopg [6] (fuel + 1) (fun g o wr => ∃ (at' : Nat) (q : PP) (ρ' : Rg) (s' : St) (col' : Col) (A' : List Int) (G' : GG), o = .pointer (some ⟨pb, po + at' * 5, none⟩) ∧ f.parts[at']? = some q ∧ Hid (partsR cf fuel first f g at' ρ' s' = ans) ∧ fuel < s'.n + g ∧ Hid (PS w wr w0 R p gb gc col col' c fuel s s' A' G G' k f ρ' Cb fb fo first O))
  case atStart => exact ⟨0, q0, ρ, s, col, A, G, by simp, HQ0.out, HA.out, by omega, H0.out⟩
  case round =>
    obtain ⟨at', q, ρ', s', col', A', G', rfl, hq, EE, hg, PP0⟩ := hrel
    clear H0 HA HQ0 w3' c1'
    cases gk with
    | zero => exact absurd PP0.out.ia.ri.nle (by omega)
    | succ g =>
      obtain ⟨e1, e2, e3, e4⟩ := HPT.out at' q hq
      have EN := hideIt e3
      have EI := hideIt e4
      have EO := hideIt e2
      have HQ := hideIt hq
      have EA := hideIt e1
      have E2 : Hid ((match insR cf fuel first q.ins ρ' s' with | .over t sp s2 => .over t sp s2 | .ok ρ2 s2 => if s2.n = fuel then .over 0 true s2 else if q.e then .ok (rg ρ2 q.cond) s2.up else partsR cf fuel first f g (nextP q ρ2).toNat ρ2 s2.up) = ans) := by
        have := EE.out
        unfold partsR at this
        rw [hq] at this
        exact this
      obtain ⟨ri, hri⟩ : ∃ ri, insR cf fuel first q.ins ρ' s' = ri := ⟨_, rfl⟩
      rw [hri] at E2
      have HRI := hideIt hri
      obtain ⟨p0, p1, p2, p3, p4⟩ := (e1.low PP0.out.ia.ri.bel).five
      have hil : q.ins.length ≤ 9223372036854775807 := e2.sok.len
      obtain ⟨ia, hia⟩ : ∃ ia, q.ia = ia := ⟨_, rfl⟩
      rw [hia] at p0
      have HIA := hideIt hia
      clear hia
      clear e1 e2 e3 e4 hq hri EE
      go_wp2_with (fail)
      go_loopw [22] (fun o wq => ∃ (i : Nat) (ρ2 : Rg) (s2 : St) (col2 : Col) (A2 : List Int) (G2 : GG), o = .int .i64 i ∧ i ≤ q.ins.length ∧ Hid (insR cf fuel first (q.ins.drop i) ρ2 s2 = ri) ∧ s'.n ≤ s2.n ∧ Hid (PS w wq w0 R p gb gc col col2 c fuel s s2 A2 G G2 k f ρ2 Cb fb fo first O)) (fun o _ => q.ins.length - (intOf o).toNat)
      case atStart => exact ⟨0, ρ', s', col', A', G', rfl, Nat.zero_le _, by rw [List.drop_zero]; exact HRI, Nat.le_refl _, PP0⟩
      case round =>
        obtain ⟨i, ρ2, s2, col2, A2, G2, rfl, hi, EI2, hn2, PP2⟩ := hrel
        obtain ⟨r0, r1, r2, r3, r4⟩ := (EA.out.low PP2.out.ia.ri.bel).five
        rw [HIA.out] at r0
        clear PP0 p0 p1 p2 p3 p4 HRI
        by_cases hic : i < q.ins.length
        · obtain ⟨x, hx⟩ := get_of_lt hic
          obtain ⟨ib, io, eia, hxa, hxok⟩ := EO.out.ins i x hx
          rw [HIA.out] at eia
          subst eia
          have IX := hideIt (INS.out wr col2 s2 A2 G2 ρ2 PP2.out.ia ib (io + i * 7) x hxa hxok (EI.out x (List.mem_of_getElem? hx)))
          have ED := hideIt (insR_drop (cf := cf) (fuel := fuel) (keep := first) hx ρ2 s2)
          have k1 : decide ((i : Int) < (q.ins.length : Int)) = true := by simp; omega
          have k2 : (i : Int) < (q.ins.length : Int) := by omega
          have k3 : IntKind.i64.wrap ((i : Int) + 1) = (i : Int) + 1 := by rw [IntKind.wrap_i64]; omega
          have HX := hideIt (fun (ρ3 : Rg) (s3 : St) (e : exI cf fuel first x ρ2 s2 = .ok ρ3 s3) => exI_n HMON.out e)
          clear hx hxa hxok
          cases hr : exI cf fuel first x ρ2 s2 with
          | ok ρ3 s3 =>
            rw [hr] at IX ED
            have HN3 := hideIt (HX.out ρ3 s3 hr)
            clear hr HX
            go_wp2_with (first | (go_at_call 104; refine IX.out.mono ?_; rintro e u ⟨rfl, col3, A3, G3, a1, a2, a3, a4, a5, a6⟩; have P3 := hideIt (PP2.out.ins a1 a2 a3 a4 a5 a6); clear a1 a2 a3 a4 a5 a6) | fail)
            go_roundw
            case rel => exact ⟨i + 1, ρ3, s3, col3, A3, G3, by go_num, hic, by have := EI2.out; rw [ED.out] at this; exact this, Nat.le_trans hn2 HN3.out, hideIt (P3.out.keep ((Q.refl u).alloc _))⟩
            case measure => simp [intOf]; omega
          | over t sp s3 =>
            rw [hr] at IX ED
            clear hr HX
            have EF := hideIt (show Rs.over t sp s3 = ri by have := EI2.out; rw [ED.out] at this; exact this)
            rw [← EF.out] at E2
            have EG := hideIt (show Rs.over t sp s3 = ans from E2.out)
            have FO := hideIt (fun (u W : World) (col3 : Col) (A3 : List Int) (G3 : GG) (s4 : St) (hne : t ≠ 0 ∨ sp = true) (a1 : RI u w0 R p gb gc col3 c fuel s4 A3 G3) (a2 : Ex col2 wr col3 u) (a3 : ∀ j, k < j → G3 j = G2 j) (a4 : s4.n = s3.n) (a5 : s4.tr = s3.tr) (a6 : s2.bs.length ≤ s4.bs.length) (hW : W = (((u.alloc (.cells #[.int .u8 t, .bool sp] 105)).drew.setCell ⟨O, 0, none⟩ (.int .u8 t)).setCell ⟨O, 1, none⟩ (.bool sp))) => (show PrtPost w w0 R p gb gc col c fuel s G k f ans (.returned (.tuple #[.int .i64 0, .agg #[.int .u8 t, .bool sp]])) W from by
              have hO : col3 O = none := (a2.col O (Array.getElem?_eq_some_iff.1 PP2.out.ob).1).trans PP2.out.on
              have hle := hlw.out
              rw [← EG.out, hW]
              refine ⟨rfl, hne, col3, A3, G3, s4, ((a1.keep (((Q.refl u).alloc _).drew)).other hO hle _ _).other hO hle _ _, (((PP2.out.ex.trans a2).trans (Ex.q (((Q.refl u).alloc _).drew))).set (Or.inr PP2.out.ol) _).set (Or.inr PP2.out.ol) _, fun j hj => (a3 j hj).trans (PP2.out.gt j hj), a4, a5, ?_⟩
              rw [← PP2.out.bl]
              exact a6))
            by_cases ht : t = 0
            · subst ht
              cases sp
              · go_wp2_with (first | (go_at_call 104; refine IX.out.mono ?_; rintro e u ⟨rfl, hne, col3, A3, G3, s4, a1, a2, a3, a4, a5, a6⟩; have HN := hideIt hne; have HU := hideIt (And.intro a1 (And.intro a2 (And.intro a3 (And.intro a4 (And.intro a5 a6))))); have b1 := Ex.blk a2 PP2.out.on PP2.out.ob; have b1' := (heap_alloc_old u (.cells #[.int .u8 0, .bool false] 105 (0, 0)) (Array.getElem?_eq_some_iff.1 b1).1).trans b1; have v0 := Me.cell_of_block b1' 0; have v1 := Me.cell_of_block b1' 1; have v2 := Me.free_of_block b1' 0; have v3 := Me.free_of_block b1' 1; clear hne a1 a2 a3 a4 a5 a6 b1 b1') | fail)
                all_goals exact absurd HN.out (by simp)
              · go_wp2_with (first | (go_at_call 104; refine IX.out.mono ?_; rintro e u ⟨rfl, hne, col3, A3, G3, s4, a1, a2, a3, a4, a5, a6⟩; have HN := hideIt hne; have HU := hideIt (And.intro a1 (And.intro a2 (And.intro a3 (And.intro a4 (And.intro a5 a6))))); have b1 := Ex.blk a2 PP2.out.on PP2.out.ob; have b1' := (heap_alloc_old u (.cells #[.int .u8 0, .bool true] 105 (0, 0)) (Array.getElem?_eq_some_iff.1 b1).1).trans b1; have v0 := Me.cell_of_block b1' 0; have v1 := Me.cell_of_block b1' 1; have v2 := Me.free_of_block b1' 0; have v3 := Me.free_of_block b1' 1; clear hne a1 a2 a3 a4 a5 a6 b1 b1') | fail)
                obtain ⟨a1, a2, a3, a4, a5, a6⟩ := HU.out
                go_region
                go_wp2_with (fail)
                exact bodyPost_ret (v := .tuple #[.int .i64 0, .agg #[.int .u8 0, .bool true]]) (by simp [results, Try.results83, go_sem, v0, v1]) rfl (FO.out u _ col3 A3 G3 s4 HN.out a1 a2 a3 a4 a5 a6 rfl)
            · have ht1 : (t == 0) = false := by simpa using ht
              have ht2 : decide (t = 0) = false := by simpa using ht
              go_wp2_with (first | (go_at_call 104; refine IX.out.mono ?_; rintro e u ⟨rfl, hne, col3, A3, G3, s4, a1, a2, a3, a4, a5, a6⟩; have HN := hideIt hne; have HU := hideIt (And.intro a1 (And.intro a2 (And.intro a3 (And.intro a4 (And.intro a5 a6))))); have b1 := Ex.blk a2 PP2.out.on PP2.out.ob; have b1' := (heap_alloc_old u (.cells #[.int .u8 t, .bool sp] 105 (0, 0)) (Array.getElem?_eq_some_iff.1 b1).1).trans b1; have v0 := Me.cell_of_block b1' 0; have v1 := Me.cell_of_block b1' 1; have v2 := Me.free_of_block b1' 0; have v3 := Me.free_of_block b1' 1; clear hne a1 a2 a3 a4 a5 a6 b1 b1') | fail)
              obtain ⟨a1, a2, a3, a4, a5, a6⟩ := HU.out
              go_region
              go_wp2_with (fail)
              exact bodyPost_ret (v := .tuple #[.int .i64 0, .agg #[.int .u8 t, .bool sp]]) (by simp [results, Try.results83, go_sem, v0, v1]) rfl (FO.out u _ col3 A3 G3 s4 HN.out a1 a2 a3 a4 a5 a6 rfl)
        · have e1 : i = q.ins.length := by omega
          subst e1
          rw [List.drop_length] at EI2
          have EF := hideIt (show Rs.ok ρ2 s2 = ri from EI2.out)
          rw [← EF.out] at E2
          have E3 : Hid ((if s2.n = fuel then Rs.over 0 true s2 else if q.e then .ok (rg ρ2 q.cond) s2.up else partsR cf fuel first f g (nextP q ρ2).toNat ρ2 s2.up) = ans) := E2.out
          have ST := hideIt (step_ri PP2.out.ia.ri hff.out)
          have hC2 := PP2.out.ia.cb
          have d0 := hC2.c0
          have d1 := hC2.c1
          clear E2 EF EI2 hC2
          by_cases hs : s2.n = fuel
          · simp only [hs, if_true, not_true_eq_false, decide_false] at E3 ST
            have FO := hideIt (fun (y W : World) (a1 : RI y w0 R p gb gc col2 c fuel s2 A2 G2) (a2 : Ex col2 wr col2 y) (hW : W = ((y.setCell ⟨O, 0, none⟩ (.int .u8 0)).setCell ⟨O, 1, none⟩ (.bool true))) => (show PrtPost w w0 R p gb gc col c fuel s G k f ans (.returned (.tuple #[.int .i64 0, .agg #[.int .u8 0, .bool true]])) W from by
              rw [← E3.out, hW]
              exact ⟨rfl, Or.inr rfl, col2, A2, G2, s2, (a1.other PP2.out.on hlw.out _ _).other PP2.out.on hlw.out _ _, ((PP2.out.ex.trans a2).set (Or.inr PP2.out.ol) _).set (Or.inr PP2.out.ol) _, PP2.out.gt, rfl, rfl, Nat.le_of_eq PP2.out.bl.symm⟩))
            have k1 : decide ((q.ins.length : Int) < (q.ins.length : Int)) = false := by simp
            clear hs
            go_wp2_with (first | (go_at_call 105; refine ST.out.mono ?_; rintro e y ⟨rfl, a1, a2, -⟩; have HU := hideIt (And.intro a1 a2); have b1 := Ex.blk a2 PP2.out.on PP2.out.ob; have v0 := Me.cell_of_block b1 0; have v1 := Me.cell_of_block b1 1; have v2 := Me.free_of_block b1 0; have v3 := Me.free_of_block b1 1; clear a1 a2 b1) | fail)
            exact bodyPost_ret (v := .tuple #[.int .i64 0, .agg #[.int .u8 0, .bool true]]) (by simp [results, Try.results83, go_sem, v0, v1]) rfl (FO.out y _ HU.out.1 HU.out.2 rfl)
          · simp only [hs, if_false, not_false_eq_true, decide_true] at E3 ST
            have k1 : decide ((q.ins.length : Int) < (q.ins.length : Int)) = false := by simp
            have PY := hideIt (fun (y : World) (a1 : RI y w0 R p gb gc col2 c fuel s2.up A2 G2) (a2 : Ex col2 wr col2 y) => PP2.out.ins a1 a2 PP2.out.ia.op PP2.out.ia.id (fun _ _ => rfl) rfl)
            have hns : s2.n + 1 ≤ fuel := by have := PP2.out.ia.ri.nle; omega
            cases he : q.e
            · have nl := next_lt (ρ := ρ2) EN.out he
              rw [he] at E3 r1
              simp only [Bool.false_eq_true, if_false] at E3
              have NX := hideIt (fun (y : World) (hy : PS w y w0 R p gb gc col col2 c fuel s s2.up A2 G G2 k f ρ2 Cb fb fo first O) => next_ri hy.ia.ri hy.ia.lt hy.ia.op.1 hy.ia.cb (EA.out.low hy.ia.ri.bel))
              obtain ⟨q2, hq2⟩ := get_of_lt (l := f.parts) (k := (nextP q ρ2).toNat) (by omega)
              have HQ2 := hideIt hq2
              have HE := hideIt he
              generalize hnx : nextP q ρ2 = nx at *
              obtain ⟨n1, n2⟩ := nl
              clear hs hnx hq2 he
              go_wp2_with (first | (go_at_call 105; refine ST.out.mono ?_; rintro e y ⟨rfl, a1, a2, -⟩; have PU := hideIt (PY.out y a1 a2); have y1 := PU.out.ia.cb.c1; obtain ⟨-, s1, -, -, -⟩ := (EA.out.low a1.bel).five; rw [HE.out] at s1; have y3 := (a1.bel.cell (p := ⟨fb, fo + 3, none⟩) (World.block_lt_of_cell? w0 _ HF3.out)).trans HF3.out; clear a1 a2) | fail)
              have NY := hideIt (NX.out y.drew (PU.out.keep (Q.refl y).drew))
              first | go_region_with (first | (go_at_call 107; refine NY.out.mono ?_; rintro e y2 ⟨rfl, m, rfl⟩)) | fail
              all_goals go_wp2_with (fail)
              all_goals go_roundg g
              all_goals first
                | exact Nat.lt_succ_self g
                | exact ⟨nx.toNat, q2, ρ2, s2.up, col2, A2, G2, rfl, HQ2.out, E3, by show fuel < s2.n + 1 + g; omega, hideIt (PU.out.keep ((Q.refl y).drewN _))⟩
            · rw [he] at E3 r1
              simp only [if_true] at E3
              have hcd : 0 ≤ q.cond := by
                have := EN.out
                unfold endP at this
                rw [he] at this
                simp [blP] at this
                omega
              have HE := hideIt he
              have GX := hideIt (fun (y : World) (hy : RI y w0 R p gb gc col2 c fuel s2.up A2 G2) => get_int hy PP2.out.ia.lt PP2.out.ia.op.1 q.cond hcd)
              have FO := hideIt (fun (y W : World) (a1 : PS w y w0 R p gb gc col col2 c fuel s s2.up A2 G G2 k f ρ2 Cb fb fo first O) (m : Nat) (hW : W = (((y.drewN m).setCell ⟨O, 0, none⟩ (.int .u8 0)).setCell ⟨O, 1, none⟩ (.bool false))) => (show PrtPost w w0 R p gb gc col c fuel s G k f ans (.returned (.tuple #[.int .i64 (rg ρ2 q.cond), .agg #[.int .u8 0, .bool false]])) W from by
                rw [← E3.out, hW]
                have hk := a1.keep ((Q.refl y).drewN m)
                exact ⟨rfl, col2, A2, G2, ρ2, (hk.ia.ri.other hk.on hlw.out _ _).other hk.on hlw.out _ _, (hk.ex.set (Or.inr hk.ol) _).set (Or.inr hk.ol) _, hk.ia.op, hk.ia.id, hk.gt, hk.bl⟩))
              generalize rg ρ2 q.cond = v at *
              clear hs he
              go_wp2_with (first | (go_at_call 105; refine ST.out.mono ?_; rintro e y ⟨rfl, a1, a2, -⟩; have PU := hideIt (PY.out y a1 a2); have y0 := PU.out.ia.cb.c0; obtain ⟨-, s1, s2', -, -⟩ := (EA.out.low a1.bel).five; rw [HE.out] at s1; have b1 := PU.out.ob; have v0 := Me.cell_of_block b1 0; have v1 := Me.cell_of_block b1 1; have v2 := Me.free_of_block b1 0; have v3 := Me.free_of_block b1 1; clear a1 a2 b1) | fail)
              have GY := hideIt (GX.out y.drew (PU.out.ia.ri.keep (Q.refl y).drew))
              first | go_region_with (first | (go_at_call 106; refine GY.out.mono ?_; rintro e y2 ⟨rfl, rfl⟩)) | fail
              all_goals go_wp2_with (fail)
              all_goals exact bodyPost_ret (v := .tuple #[.int .i64 v, .agg #[.int .u8 0, .bool false]]) (by simp [results, Try.results83, go_sem, v0, v1]) rfl (FO.out y _ PU.out 1 rfl)

end Go.Proofs.Ytaomkfhbnakbjaa
