/-
  Who wrote a register last and what it was copied from, by the document (last, copied of the statements of layer 17): contracts over the program; the conditions: the instructions lie in memory.
-/
import Derived.Test.YtipmbamcldlmeaaKPpQ
namespace Go.Proofs.Ytipmbamcldlmeaa.Pp
open Go.RowKit
set_option linter.unusedVariables false

def lastP (l : List PI) (r : Int) : Nat → Option Nat
  | 0 => none
  | k + 1 => match l[k]? with | some x => if wrP x.op = true ∧ x.dst = r then some k else lastP l r k | none => lastP l r k
theorem lastP_step {l : List PI} {r : Int} {k : Nat} {x : PI} (h : l[k]? = some x) : lastP l r (k + 1) = if wrP x.op = true ∧ x.dst = r then some k else lastP l r k := by simp only [lastP, h]
theorem lastP_lt {l : List PI} {r : Int} : ∀ {k i : Nat}, lastP l r k = some i → i < k
  | 0, i, h => by simp [lastP] at h
  | k + 1, i, h => by
    simp only [lastP] at h
    split at h
    · split at h
      · injection h with h; omega
      · have := lastP_lt h; omega
    · have := lastP_lt h; omega
theorem lastW_take (l : List PI) (r : Int) : ∀ k, k ≤ l.length → lastW (l.take k) r = lastP l r k
  | 0, _ => rfl
  | k + 1, hk => by
    obtain ⟨x, hx⟩ := get_of_lt (l := l) (k := k) (by omega)
    have ih := lastW_take l r k (by omega)
    rw [lastP_step hx, List.take_add_one, hx]
    show lastW (l.take k ++ [x]) r = _
    rcases wrs_dec x r with q | q
    · rw [last_new q, if_pos ⟨q.1, q.2⟩, List.length_take, Nat.min_eq_left (by omega)]
    · rw [last_same q, if_neg (fun e => q ⟨e.1, e.2⟩), ih]

abbrev ptV (p : PP) : Value := .agg #[.slice p.ia p.ins.length p.ic, .bool p.e, .int .i64 p.cond, .int .i64 p.next, .int .i64 p.els]
abbrev bxP (w : World) (p : PP) : World := w.alloc (.cells #[.slice p.ia p.ins.length p.ic, .bool p.e, .int .i64 p.cond, .int .i64 p.next, .int .i64 p.els] 47)
theorem bxP_q (w : World) (p : PP) : Q w (bxP w p) := (Q.refl w).alloc _
theorem bxP_at (w : World) (p : PP) : (bxP w p).cell? ⟨w.heap.size, 0, none⟩ = some (.slice p.ia p.ins.length p.ic) := cell_of_block (heap_new _ _) 0
def lastI (o : Option Nat) : Int := match o with | some i => (i : Int) | none => -1

set_option maxRecDepth 100000 in
set_option maxHeartbeats 2000000 in
theorem last_any (w : World) (p : PP) (r : Int) (k0 : Nat) (hp : p.ok w) (hk0 : k0 ≤ p.ins.length) : Calls Try.prog 31 #[ptV p, .int .i64 r, .int .i64 (k0 : Int)] w fun e w' => e = .returned (.int .i64 (lastI (lastP p.ins r k0))) ∧ Q w w' := by
  have HB := hideIt (bxP_at w p)
  have HQ := hideIt (bxP_q w p)
  have HI := hideIt (Insts.keep (bxP_q w p) hp.ins)
  have hlen : p.ins.length ≤ 9223372036854775807 := hp.sok.len
  clear hp
  generalize hBB : bxP w p = B at *
  have HBB := hideIt hBB
  clear hBB
  have m1 : IntKind.i64.wrap ((k0 : Int) - 1) = (k0 : Int) - 1 := by simp [IntKind.wrap, IntKind.bits, IntKind.signed]; omega
  go_enter Try.func31, Try.ntmps31
  go_wp2_with (fail)
  rw [show w.alloc (.cells #[.slice p.ia p.ins.length p.ic, .bool p.e, .int .i64 p.cond, .int .i64 p.next, .int .i64 p.els] 47) = B from HBB.out]
  go_loopw [7] (fun iv z => ∃ (k : Nat), iv = .int .i64 ((k : Int) - 1) ∧ k ≤ k0 ∧ Hid (lastP p.ins r k0 = lastP p.ins r k) ∧ z = B) (fun iv _ => (intOf iv + 1).toNat)
  case atStart => exact ⟨k0, by first | rfl | go_num, Nat.le_refl _, rfl, rfl⟩
  case round =>
    obtain ⟨k, rfl, hk, HL, rfl⟩ := hrel
    cases k with
    | zero =>
      have h0 : ¬ (0 : Int) ≤ ((0 : Nat) : Int) - 1 := by omega
      go_wp2_with (fail)
      go_ret
      exact ⟨by rw [HL.out]; rfl, HQ.out⟩
    | succ k =>
      obtain ⟨x, hx⟩ := get_of_lt (l := p.ins) (k := k) (by omega)
      obtain ⟨ib, io, eia, hat⟩ := HI.out k x hx
      obtain ⟨c0, -, c2, -, -, -, -⟩ := hat.1.seven
      have HB' := HB.out
      rw [eia] at HB'
      have HL' : Hid (lastP p.ins r k0 = if wrP x.op = true ∧ x.dst = r then some k else lastP p.ins r k) := Eq.trans (HL.out) (lastP_step hx)
      have ek : ((k + 1 : Nat) : Int) - 1 = (k : Int) := by omega
      rw [ek]
      have hkl : (k : Int) < (p.ins.length : Int) := by omega
      have hk0' : (0 : Int) ≤ (k : Int) := by omega
      clear hx hat eia ek
      cases hw : wrP x.op with
      | false =>
        go_wp2_with (first | (go_at_call 16; refine (writes_any _ _).mono ?_; rw [hw]; rintro e z ⟨rfl, rfl⟩) | fail)
        go_roundw
        case rel => exact ⟨k, by go_num, by omega, by show lastP p.ins r k0 = _; rw [show lastP p.ins r k0 = _ from HL'.out, if_neg (by rw [hw]; simp)], (by first | rfl | trivial)⟩
        case measure => simp [intOf]
      | true =>
        by_cases hd : x.dst = r
        · have hd' : (x.dst == r) = true := by simpa using hd
          go_wp2_with (first | (go_at_call 16; refine (writes_any _ _).mono ?_; rw [hw]; rintro e z ⟨rfl, rfl⟩) | fail)
          go_ret
          exact ⟨by rw [show lastP p.ins r k0 = _ from HL'.out, if_pos ⟨hw, hd⟩]; rfl, HQ.out⟩
        · have hd' : (x.dst == r) = false := by simpa using hd
          go_wp2_with (first | (go_at_call 16; refine (writes_any _ _).mono ?_; rw [hw]; rintro e z ⟨rfl, rfl⟩) | fail)
          go_roundw
          case rel => exact ⟨k, by go_num, by omega, by show lastP p.ins r k0 = _; rw [show lastP p.ins r k0 = _ from HL'.out, if_neg (fun e => hd e.2)], (by first | rfl | trivial)⟩
          case measure => simp [intOf]

theorem lastI_bef (o : Option Nat) (i : Nat) : decide (lastI o < (i : Int)) = bef o i := by
  cases o with
  | none => exact decide_eq_true (by show (-1 : Int) < (i : Int); omega)
  | some k => simp [lastI, bef]

set_option maxRecDepth 100000 in
set_option maxHeartbeats 2000000 in
theorem copied_law (w : World) (p : PP) (r : Int) (k0 : Nat) (hp : p.ok w) (hk0 : k0 ≤ p.ins.length) : Calls Try.prog 15 #[ptV p, .int .i64 r, .int .i64 (k0 : Int)] w fun e w' => e = .returned (.bool (cp false (p.ins.take k0) r).isSome) ∧ Q w w' := by
  have HQ := hideIt (bxP_q w p)
  have CL : Hid (∀ X, Q (bxP w p) X → ∀ r, Calls Try.prog 31 #[ptV p, .int .i64 r, .int .i64 (k0 : Int)] X fun e w' => e = .returned (.int .i64 (lastI (lastP p.ins r k0))) ∧ Q X w') := fun X h r => last_any X p r k0 (hp.keep ((bxP_q w p).trans h)) hk0
  have hbx : ∀ X, Q (bxP w p) X → X.heap[w.heap.size]? = some (.cells #[.slice p.ia p.ins.length p.ic, .bool p.e, .int .i64 p.cond, .int .i64 p.next, .int .i64 p.els] 47 (0, 0)) := fun X h => heap_keep h (heap_new _ _)
  have HI : Hid (∀ X, Q (bxP w p) X → Insts X p.ia p.ins) := fun X h => Insts.keep ((bxP_q w p).trans h) hp.ins
  have hlen : p.ins.length ≤ 9223372036854775807 := hp.sok.len
  clear hp
  have hlw := fun r => lastW_take p.ins r k0 hk0
  cases hl : lastP p.ins r k0 with
  | none =>
    rw [cp_none ((hlw r).trans hl)]
    have C1 : Hid (Calls Try.prog 31 #[ptV p, .int .i64 r, .int .i64 (k0 : Int)] (bxP w p) fun e w' => e = .returned (.int .i64 (-1)) ∧ Q (bxP w p) w') := by have := CL.out _ (Q.refl _) r; rw [hl] at this; exact this
    clear CL hl hlw hbx HI
    go_enter Try.func15, Try.ntmps15
    go_wp2_with (first | (go_at_call 31; refine C1.out.mono ?_; rintro e z ⟨rfl, q⟩; have QZ := hideIt (HQ.out.trans q); clear q) | fail)
    go_ret
    exact ⟨rfl, QZ.out⟩
  | some i =>
    have hi := lastP_lt hl
    obtain ⟨x, hx⟩ := get_of_lt (l := p.ins) (k := i) (by omega)
    have hxt : (p.ins.take k0)[i]? = some x := by rw [List.getElem?_take_of_lt hi]; exact hx
    have hc := cp_at (fault := false) ((hlw r).trans hl) hxt
    rw [hlw x.a] at hc
    have C1 : Hid (Calls Try.prog 31 #[ptV p, .int .i64 r, .int .i64 (k0 : Int)] (bxP w p) fun e w' => e = .returned (.int .i64 (i : Int)) ∧ Q (bxP w p) w') := by have := CL.out _ (Q.refl _) r; rw [hl] at this; exact this
    have CX : Hid (∀ X, Q (bxP w p) X → ∃ ib io, p.ia = some ⟨ib, io, none⟩ ∧ X.cell? ⟨w.heap.size, 0, none⟩ = some (.slice (some ⟨ib, io, none⟩) p.ins.length p.ic) ∧ X.cell? ⟨ib, io + i * 7, none⟩ = some (.int .u8 x.op) ∧ X.cell? ⟨ib, io + i * 7 + 3, none⟩ = some (.int .i64 x.a) ∧ X.cell? ⟨w.heap.size, 1, none⟩ = some (.bool p.e) ∧ X.cell? ⟨w.heap.size, 2, none⟩ = some (.int .i64 p.cond) ∧ X.cell? ⟨w.heap.size, 3, none⟩ = some (.int .i64 p.next) ∧ X.cell? ⟨w.heap.size, 4, none⟩ = some (.int .i64 p.els)) := fun X h => by
      obtain ⟨ib, io, e, hat⟩ := HI.out X h i x hx
      have hb := hbx X h
      refine ⟨ib, io, e, ?_, hat.1.seven.1, hat.1.seven.2.2.2.1, (cell_of_block hb 1).trans rfl, (cell_of_block hb 2).trans rfl, (cell_of_block hb 3).trans rfl, (cell_of_block hb 4).trans rfl⟩
      rw [← e]
      exact (cell_of_block hb 0).trans rfl
    have hil : (i : Int) < (p.ins.length : Int) := by omega
    have hi0 : decide ((i : Int) < 0) = false := decide_eq_false (by omega)
    by_cases ho : x.op = 21
    · by_cases he : x.a = r
      · rw [if_neg (fun q => q.2.1 he)] at hc
        rw [hc]
        have h1 : (x.op != 21) = false := by simpa using ho
        have h2 : decide (x.a = r) = true := by simpa using he
        clear CL hl hlw hbx HI hx hxt hc ho
        go_enter Try.func15, Try.ntmps15
        go_wp2_with (first | (go_at_call 31; refine C1.out.mono ?_; rintro e z ⟨rfl, q⟩; have QZ := hideIt (HQ.out.trans q); obtain ⟨ib, io, eia, b0, c0, c3, -, -, -, -⟩ := CX.out z q; clear q) | fail)
        go_ret
        exact ⟨rfl, QZ.out⟩
      · have h1 : (x.op != 21) = false := by simpa using ho
        have h2 : decide (x.a = r) = false := by simpa using he
        have hfin : bef (lastP p.ins x.a k0) i = (cp false (p.ins.take k0) r).isSome := by
          rw [hc]
          cases hb : bef (lastP p.ins x.a k0) i with
          | true => rw [if_pos ⟨ho, he, Or.inr rfl⟩]; rfl
          | false => rw [if_neg (fun q => by rcases q.2.2 with q | q <;> cases q)]; rfl
        have FIN := hideIt (lastI_bef (lastP p.ins x.a k0) i)
        have C2 : Hid (∀ ib io, p.ia = some ⟨ib, io, none⟩ → ∀ X, Q (bxP w p) X → Calls Try.prog 31 #[.agg #[.slice (some ⟨ib, io, none⟩) p.ins.length p.ic, .bool p.e, .int .i64 p.cond, .int .i64 p.next, .int .i64 p.els], .int .i64 x.a, .int .i64 (k0 : Int)] X fun e w' => e = .returned (.int .i64 (lastI (lastP p.ins x.a k0))) ∧ Q X w') := fun ib io e X h => by rw [← e]; exact CL.out X h x.a
        rw [← hfin]
        generalize lastI (lastP p.ins x.a k0) = v at *
        generalize bef (lastP p.ins x.a k0) i = bb at *
        clear CL hl hlw hbx HI hx hxt hc ho hfin
        go_enter Try.func15, Try.ntmps15
        go_wp2_with (first | (go_at_call 31; refine C1.out.mono ?_; rintro e z ⟨rfl, q⟩; have QZ := hideIt q; obtain ⟨ib, io, eia, b0, c0, c3, b1, b2, b3, b4⟩ := CX.out z q; clear q) | fail)
        go_region_with (go_at_call 31; refine Calls.mono (C2.out ib io eia _ (by first | exact QZ.out | exact QZ.out.drew | exact QZ.out.drewN _)) ?_; rintro e y ⟨rfl, qy⟩; have QY : Hid (Q w y) := (by first | exact HQ.out.trans (QZ.out.trans qy) | exact HQ.out.trans (QZ.out.drew.trans qy) | exact HQ.out.trans ((QZ.out.drewN _).trans qy)); clear qy)
        all_goals go_wp2_with (fail)
        all_goals go_ret
        all_goals exact ⟨by rw [← FIN.out]; rfl, QY.out⟩
    · rw [if_neg (fun q => ho q.1)] at hc
      rw [hc]
      have h1 : (x.op != 21) = true := by simpa using ho
      clear CL hl hlw hbx HI hx hxt hc
      go_enter Try.func15, Try.ntmps15
      go_wp2_with (first | (go_at_call 31; refine C1.out.mono ?_; rintro e z ⟨rfl, q⟩; have QZ := hideIt (HQ.out.trans q); obtain ⟨ib, io, eia, b0, c0, c3, -, -, -, -⟩ := CX.out z q; clear q) | fail)
      go_ret
      exact ⟨rfl, QZ.out⟩

end Go.Proofs.Ytipmbamcldlmeaa.Pp
