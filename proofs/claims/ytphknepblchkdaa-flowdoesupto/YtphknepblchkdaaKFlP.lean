/-
 A way to a part is gone (lose of flow): a contract over the program; the conditions: the joiner, its parts, its ways lie in memory, and the ways are counted.
 A part is put behind another one: the ways stay counted, and they grow fewer: plainly; no program in sight.
-/
import Derived.Test.YtphknepblchkdaaKFlN
namespace Go.Proofs.Ytphknepblchkdaa.Fl
open Go.RowKit
set_option linter.unusedVariables false

/-! ### Plainly -/
def wsN (ws : List Nat) (n : Nat) : Nat := (ws[n]?).getD 0
def ptN (L : List PP) (n : Nat) : PP := (L[n]?).getD zeroP
def lvF (L : List PP) (ws : List Nat) (m n : Nat) : Nat := if wsN ws n ≠ 0 then (waysN (ptN L n)).count m else 0
def lvS (L : List PP) (ws : List Nat) (m : Nat) : Nat := ((List.range L.length).map (lvF L ws m)).sum
/-- The ways are counted: from the first one's own, from live parts, from the work. -/
structure WI (L : List PP) (first : Nat) (ws wk : List Nat) : Prop where
 len : ws.length = L.length
 wb : ∀ n ∈ wk, n < L.length
 eq : ∀ m, m < L.length → wsN ws m = (if m = first then 1 else 0) + lvS L ws m + wk.count m
theorem sum_one (f g : Nat → Nat) (n : Nat) : ∀ N, n < N → (∀ j, j ≠ n → g j = f j) → ((List.range N).map g).sum + f n = ((List.range N).map f).sum + g n
 | 0, h, _ => by omega
 | N + 1, h, e => by
  rw [List.range_succ, List.map_append, List.map_append, List.sum_append, List.sum_append]
  by_cases hn : n = N
  ·subst hn
   have : (List.range n).map g = (List.range n).map f := List.map_congr_left fun j hj => e j (by have := List.mem_range.1 hj; omega)
   rw [this]
   simp; omega
  ·have := sum_one f g n N (by omega) e
   have h2 := e N (by omega)
   simp [h2]
   omega
theorem wsN_set {ws : List Nat} {n v : Nat} (h : n < ws.length) (m : Nat) : wsN (ws.set n v) m = if m = n then v else wsN ws m := by
 unfold wsN
 rw [List.getElem?_set]
 by_cases e : m = n
 ·subst e; simp [h]
 ·rw [if_neg (fun q => e q.symm), if_neg e]
theorem sum_set : ∀ (ws : List Nat) (n v : Nat), n < ws.length → (ws.set n v).sum + wsN ws n = ws.sum + v
 | [], n, v, h => by simp at h
 | a :: ws, 0, v, h => by unfold wsN; simp; omega
 | a :: ws, n + 1, v, h => by
  have := sum_set ws n v (by simpa using h)
  unfold wsN at this ⊢
  simp only [List.set_cons_succ, List.sum_cons, List.getElem?_cons_succ]
  omega
theorem WI.pos {L : List PP} {first n : Nat} {ws V : List Nat} (h : WI L first ws (V ++ [n])) : 1 ≤ wsN ws n := by
 have := h.eq n (h.wb n (by simp))
 rw [List.count_append] at this
 simp at this
 omega
theorem WI.stay {L : List PP} {first n : Nat} {ws V : List Nat} (h : WI L first ws (V ++ [n])) (h1 : wsN ws n - 1 ≠ 0) : WI L first (ws.set n (wsN ws n - 1)) V := by
 have hn := h.wb n (by simp)
 have hl : n < ws.length := by rw [h.len]; exact hn
 refine ⟨by simp [h.len], fun m hm => h.wb m (List.mem_append_left _ hm), fun m hm => ?_⟩
 have e := h.eq m hm
 have hf : lvS L (ws.set n (wsN ws n - 1)) m = lvS L ws m := by
  unfold lvS
  congr 1
  refine List.map_congr_left fun j _ => ?_
  unfold lvF
  rw [wsN_set hl]
  split
  ·rename_i e; subst e; first | rw [if_pos h1, if_pos (by omega)] | rw [if_pos (by omega)]
  ·rfl
 rw [hf, wsN_set hl]
 rw [List.count_append] at e
 split
 ·rename_i e2; subst e2; simp at e; omega
 ·rename_i e2
  have : List.count m [n] = 0 := List.count_eq_zero.2 (by simp; exact e2)
  omega
theorem WI.gone {L : List PP} {first n : Nat} {ws V : List Nat} (h : WI L first ws (V ++ [n])) (hw : WyL L) (h1 : wsN ws n - 1 = 0) : WI L first (ws.set n (wsN ws n - 1)) (V ++ waysN (ptN L n)) := by
 have hn := h.wb n (by simp)
 have hl : n < ws.length := by rw [h.len]; exact hn
 have hp := h.pos
 refine ⟨by simp [h.len], fun m hm => ?_, fun m hm => ?_⟩
 ·rcases List.mem_append.1 hm with hm | hm
  ·exact h.wb m (List.mem_append_left _ hm)
  ·obtain ⟨p, hp⟩ := get_of_lt hn
   unfold ptN at hm
   rw [hp] at hm
   exact (hw p (List.mem_of_getElem? hp)).ways m hm
 ·have e := h.eq m hm
  have hs := sum_one (lvF L ws m) (lvF L (ws.set n (wsN ws n - 1)) m) n L.length hn fun j hj => by
   unfold lvF
   rw [wsN_set hl, if_neg hj]
  have h2 : lvF L ws m n = (waysN (ptN L n)).count m := by unfold lvF; rw [if_pos (by omega)]
  have h3 : lvF L (ws.set n (wsN ws n - 1)) m n = 0 := by unfold lvF; rw [wsN_set hl, if_pos rfl, h1]; simp
  have e' : wsN ws m = (if m = first then 1 else 0) + ((List.range L.length).map (lvF L ws m)).sum + (V ++ [n]).count m := e
  rw [List.count_append] at e' ⊢
  show _ = _ + ((List.range L.length).map (lvF L (ws.set n (wsN ws n - 1)) m)).sum + _
  rw [wsN_set hl]
  split
  ·rename_i e2; subst e2; simp at e'; omega
  ·rename_i e2
   have : List.count m [n] = 0 := List.count_eq_zero.2 (by simp; exact e2)
   omega
theorem losP_nil (L : List PP) (ws : List Nat) : losP L ws [] = ws := by unfold losP; rfl
theorem losP_step {L : List PP} {first n : Nat} {ws V : List Nat} (h : WI L first ws (V ++ [n])) :
  losP L ws (V ++ [n]) = losP L (ws.set n (wsN ws n - 1)) (if wsN ws n - 1 = 0 then V ++ waysN (ptN L n) else V) := by
 have hn := h.wb n (by simp)
 have hl : n < ws.length := by rw [h.len]; exact hn
 have hp := h.pos
 have hs := sum_set ws n (wsN ws n - 1) hl
 rw [losP]
 simp only [List.getLast?_append, List.getLast?_singleton, Option.some_or, List.dropLast_concat]
 have hs' : (ws.set n ((ws[n]?).getD 0 - 1)).sum < ws.sum := by unfold wsN at hs hp; omega
 rw [dif_pos hs']
 rfl

/-! ### In memory -/
structure LoW (w : World) (I : Nat) (ws : List Nat) (wa : Option Addr) (wc : Nat) (W : List Nat) (z : World) : Prop where
 fs : Fs (· = I) w z
 hI : I < w.heap.size
 is : z.heap[I]? = some (.cells (NV ws).toArray 3 (0, 0))
 wk : z.ownsRow w.heap.size 3 1 (.slice wa W.length wc) W.length (NV W)
section
variable {w z z' : World} {I : Nat} {ws : List Nat} {wa : Option Addr} {wc : Nat} {W : List Nat}
theorem LoW.keep (h : LoW w I ws wa wc W z) (q : Q z z') : LoW w I ws wa wc W z' :=
 ⟨h.fs.trans (Fs.of_q q), h.hI, heap_keep q h.is, row_kp h.wk fun k hk => q.block k (h.wk.lt k hk).2⟩
theorem LoW.cell (h : LoW w I ws wa wc W z) {m v : Nat} (hm : ws[m]? = some v) : z.cell? ⟨I, m, none⟩ = some (.int .i64 (v : Int)) ∧ z.frozen? ⟨I, m, none⟩ = false := by
 refine ⟨?_, free_of_block h.is m⟩
 rw [cell_of_block h.is m]
 simpa using NV_get hm
theorem LoW.set (h : LoW w I ws wa wc W z) (m v : Nat) : LoW w I (ws.set m v) wa wc W (z.setCell ⟨I, m, none⟩ (.int .i64 (v : Int))) := by
 refine ⟨⟨h.fs.os, h.fs.tape, h.fs.output, by rw [World.size_setCell]; exact h.fs.size, fun k hk hn => (Below.heap_setCell _ _ _ _ hn).trans (h.fs.block k hk hn)⟩, h.hI, ?_, row_kp h.wk fun k hk => Below.heap_setCell _ _ _ _ fun e => ?_⟩
 ·rw [block_setCell h.is]
  congr 2
  rw [← NV_set]
  simp
 ·have := (h.wk.lt k hk).1
  have := h.hI
  dsimp only at e
  omega
theorem LoW.at (h : LoW w I ws wa wc W z) {b o : Nat} {cs : List Value} (hc : At w b o cs) (hb : b ≠ I) : At z b o cs := fun j hj => by
 have h1 := hc j hj
 obtain ⟨u, hu⟩ : ∃ u, cs[j]? = some u := ⟨cs[j], List.getElem?_eq_getElem hj⟩
 rw [hu] at h1 ⊢
 exact h.fs.cell h1 hb
theorem LoW.last {m : Nat} {V : List Nat} (h : LoW w I ws wa wc (V ++ [m]) z) : ∃ g, wa = some ⟨g, 0, none⟩ ∧ z.cell? ⟨g, V.length, none⟩ = some (.int .i64 (m : Int)) ∧ V.length + 1 ≤ wc ∧ LoW w I ws wa wc V z := by
 have hl : (V ++ [m]).length = V.length + 1 := by simp
 cases ea : wa with
 | none =>
  have := h.wk
  rw [ea] at this
  have := (own_none this).1
  omega
 | some a =>
  obtain ⟨e1, e2, e3, -, e5, e6, cur, e7, e8, e9⟩ := own_addr h.wk ea
  have h1 := h.wk
  rw [ea, e1] at h1
  refine ⟨a.block, by rw [← e1], ?_, by omega, ⟨h.fs, h.hI, h.is, ?_⟩⟩
  ·rw [h1.cellAt V.length (by omega), NV_app]
   rw [List.getElem?_append_right (by rw [NV_len]; exact Nat.le_refl _), NV_len, Nat.sub_self]; rfl
  ·refine ⟨by rw [NV_len, Nat.mul_one], .inr ⟨a.block, wc, cur, by rw [← e1], e2, e7, by omega, e6, e8, ?_⟩⟩
   have h3 : (cur.toList.take ((V ++ [m]).length * 1)).take (V.length * 1) = (NV (V ++ [m])).take (V.length * 1) := by rw [e9]
   rw [List.take_take, Nat.min_eq_left (by omega)] at h3
   rw [h3, NV_app, Nat.mul_one, ← NV_len V, List.take_left]
theorem LoW.app (h : LoW w I ws wa wc W z) (hW : W.length ≤ 10000000) {Y : World} (q : Q z Y) (l : List Nat) (hl10 : l.length ≤ 1000) {na : Option Addr} {nc : Nat} (hl : (l = [] ∧ na = none ∧ nc = 0) ∨ (∃ g, na = some ⟨g, 0, none⟩ ∧ ∀ j u, (NV l)[j]? = some u → Y.cell? ⟨g, j, none⟩ = some u)) (ty : TypeId) :
  ∃ a5 c5 w5, (Builtin.append_ #[22, 22] ty #[.slice wa W.length wc, .slice na l.length nc]).run Try.prog Y = .ok (.slice a5 (W.length + l.length) c5) w5 ∧ LoW w I ws a5 c5 (W ++ l) w5 := by
 have hY := h.keep q
 obtain ⟨a5, c5, w5, r5, g5⟩ := app_any (r := ⟨wa, W.length, wc, 3, 1, NV W⟩) hY.wk rfl rfl l na nc hl (by show W.length + _ ≤ _; omega) hY.fs.size ty
 have own : ∀ b, (Value.slice wa W.length wc).ownBlock = some b → w.heap.size ≤ b := fun b hb => (hY.wk.lt b hb).1
 have hg := g5.g
 have hI := h.hI
 refine ⟨a5, c5, w5, r5, ⟨⟨hg.os.trans hY.fs.os, hg.tape.trans hY.fs.tape, hg.output.trans hY.fs.output, Nat.le_trans hY.fs.size hg.size, fun k hk hn => (hg.block k (Nat.lt_of_lt_of_le hk hY.fs.size) (fun e => by have := own k e.symm; omega)).trans (hY.fs.block k hk hn)⟩, hI, (hg.block I (Nat.lt_of_lt_of_le hI hY.fs.size) (fun e => by have := own I e.symm; omega)).trans hY.is, ?_⟩⟩
 have := g5.own
 rw [List.length_append, NV_app]
 exact this
end
/-- What ways has answered, as append takes it. -/
theorem ns_app {z : World} {wy : Option Addr} {l : List Nat} (h : Ns z wy l) : (l = [] ∧ wy = none ∧ l.length = 0) ∨ (∃ g, wy = some ⟨g, 0, none⟩ ∧ ∀ j u, (NV l)[j]? = some u → z.cell? ⟨g, j, none⟩ = some u) := by
 rcases h with ⟨e, e'⟩ | ⟨e, g, e', h⟩
 ·exact .inl ⟨e, e', by rw [e]; rfl⟩
 ·exact .inr ⟨g, e', h⟩

set_option maxRecDepth 100000 in
set_option maxHeartbeats 4000000 in
theorem lose_any (w : World) (jb P pc I ic N : Nat) (L : List PP) (ws : List Nat) (first n : Nat) (hL : L.length = N) (hN : N ≤ 1000) (hw : WyL L) (hP : ∀ (k : Nat) (p : PP), L[k]? = some p → At w P (k * 5) p.cells) (hPI : P ≠ I) (hjI : jb ≠ I)
  (c0 : w.cell? ⟨jb, 0, none⟩ = some (.slice (some ⟨P, 0, none⟩) N pc)) (c1 : w.cell? ⟨jb, 1, none⟩ = some (.slice (some ⟨I, 0, none⟩) N ic)) (hI : w.heap[I]? = some (.cells (NV ws).toArray 3 (0, 0))) (hi : WI L first ws [n]) (hb : ws.sum ≤ 3000000) :
  Calls Try.prog 79 #[.pointer (some ⟨jb, 0, none⟩), .int .i64 (n : Int)] w fun e w' => e = .returned (.tuple #[]) ∧ Fs (· = I) w w' ∧ w'.heap[I]? = some (.cells (NV (losP L ws [n])).toArray 3 (0, 0)) := by
 have hIl := (Array.getElem?_eq_some_iff.1 hI).1
 have L0 : Hid (LoW w I ws (some ⟨w.heap.size, 0, none⟩) 1 [n] (w.alloc (.cells #[.int .i64 (n : Int)] 3))) := ⟨Fs.of_q ((Q.refl w).alloc _), hIl, heap_keep ((Q.refl w).alloc _) hI, own_blk (n := 1) (sz := 1) (heap_alloc_new w _) (Nat.le_refl _) rfl (by omega)⟩
 have J0 := hideIt (fun (z : World) (f : Fs (· = I) w z) => And.intro (f.cell c0 hjI) (f.cell c1 hjI))
 have HP := hideIt (fun (k : Nat) (p : PP) (hp : L[k]? = some p) (a : Option Addr) (ws' : List Nat) (c : Nat) (W : List Nat) (z : World) (h : LoW w I ws' a c W z) => h.at (hP k p hp) hPI)
 have HL := hideIt hL
 have HW := hideIt hw
 have HI := hideIt hi
 clear hP hL hw hi c0 c1 hI hIl hPI hjI
 go_enter Try.func79, Try.ntmps79
 go_wp2_with (fail)
 go_loopg [1, 4] (ws.sum + 1) (fun kx v1 v4 z => ∃ (us W : List Nat) (wa : Option Addr) (wc : Nat), v4 = .slice wa W.length wc ∧ us.sum < kx ∧ kx ≤ ws.sum + 1 ∧ W.length + us.sum ≤ ws.sum + 1 ∧ Hid (LoW w I us wa wc W z) ∧ Hid (WI L first us W) ∧ Hid (losP L us W = losP L ws [n]))
 case atStart => exact ⟨ws, [n], _, 1, rfl, by omega, by omega, by simp; omega, L0, HI, rfl⟩
 case round =>
  obtain ⟨us, W, wa, wc, rfl, hmu, hkx, hwl, L1, I1, E1⟩ := hrel
  generalize wr = z at *
  clear L0
  rcases List.eq_nil_or_concat W with rfl | ⟨V, m, hW⟩
  ·go_wp2_with (fail)
   go_end0
   refine ⟨rfl, L1.out.fs, ?_⟩
   rw [← E1.out, losP_nil]
   exact L1.out.is
  ·rw [List.concat_eq_append] at hW
   subst hW
   obtain ⟨g, rfl, hl, hwc, h2⟩ := L1.out.last
   have L2 := hideIt h2
   have hpos := I1.out.pos
   have hmN := I1.out.wb m (by simp)
   rw [HL.out] at hmN
   have hsum0 := sum_set us m 0 (by rw [I1.out.len, HL.out]; exact hmN)
   have hsum := sum_set us m (wsN us m - 1) (by rw [I1.out.len, HL.out]; exact hmN)
   obtain ⟨v, hv⟩ := get_of_lt (l := us) (k := m) (by rw [I1.out.len, HL.out]; exact hmN)
   have hvw : wsN us m = v := by unfold wsN; rw [hv]; rfl
   have HST := hideIt (losP_step I1.out)
   have HS := hideIt I1.out.stay
   have HG := hideIt (I1.out.gone HW.out)
   obtain ⟨p, hp⟩ := get_of_lt (l := L) (k := m) (by rw [HL.out]; exact hmN)
   have hpt : ptN L m = p := by unfold ptN; rw [hp]; rfl
   have hwy : Wy N p := by have := HW.out p (List.mem_of_getElem? hp); rwa [HL.out] at this
   rw [hvw] at hpos hsum hsum0 HST HS HG
   rw [hpt] at HST HG
   have hve : ((v - 1 : Nat) : Int) = (v : Int) - 1 := by omega
   have hlen : (V ++ [m]).length = V.length + 1 := by simp
   have hmi : (m : Int) < (N : Int) := by omega
   have hvi : (V.length : Int) ≤ (wc : Int) := by omega
   have hvb : V.length + 1 ≤ 4000000 := by omega
   have hv64 : v ≤ 4000000 := by omega
   rw [hlen] at hwl ⊢
   have hwl2 := waysN_two p
   have HV := hideIt hv
   have CW := hideIt (fun (us' V' : List Nat) (a : Option Addr) (c : Nat) (y : World) (h : LoW w I us' a c V' y) => ways_any2 y P (m * 5) N p (HP.out m p hp _ _ _ _ _ h) hwy)
   obtain ⟨j0, j1⟩ := J0.out z L2.out.fs
   clear hv hpt hp hwy L1 I1 h2 hlen
   by_cases h0 : v = 1
   ·subst h0
    rw [if_pos rfl] at HST
    have HG2 := hideIt (HG.out rfl)
    have FX : Hid (∀ y, Q z y → (y.cell? ⟨jb, 0, none⟩ = some (.slice (some ⟨P, 0, none⟩) N pc) ∧ y.cell? ⟨jb, 1, none⟩ = some (.slice (some ⟨I, 0, none⟩) N ic)) ∧ (y.cell? ⟨I, m, none⟩ = some (.int .i64 1) ∧ y.frozen? ⟨I, m, none⟩ = false) ∧ ((y.setCell ⟨I, m, none⟩ (.int .i64 0)).cell? ⟨jb, 0, none⟩ = some (.slice (some ⟨P, 0, none⟩) N pc) ∧ (y.setCell ⟨I, m, none⟩ (.int .i64 0)).cell? ⟨jb, 1, none⟩ = some (.slice (some ⟨I, 0, none⟩) N ic)) ∧ LoW w I (us.set m 0) (some ⟨g, 0, none⟩) wc V (y.setCell ⟨I, m, none⟩ (.int .i64 0))) := fun y q => by
     have h := L2.out.keep q
     have h3 : LoW w I (us.set m 0) (some ⟨g, 0, none⟩) wc V (y.setCell ⟨I, m, none⟩ (.int .i64 0)) := h.set m 0
     exact ⟨J0.out y h.fs, h.cell HV.out, J0.out _ h3.fs, h3⟩
    clear hpos HS HG
    go_upto_region 2 with (fail)
    go_quiet (fail)
    obtain ⟨⟨q0, q1⟩, ⟨cv, fv⟩, ⟨k0, k1⟩, h3⟩ := FX.out _ ((Q.refl z).drewN nq)
    have L3 := hideIt h3
    generalize z.drewN nq = z2 at *
    clear h3 FX L2 hl j0 j1
    go_wp2_with (first | (go_at_call 65; refine Calls.mono (CW.out _ _ _ _ _ L3.out) ?_; rintro e y ⟨wy, rfl, hn, hq, hgn⟩; have L4 := hideIt (L3.out.keep hq); have NXA := hideIt (fun ty => L4.out.app (by omega) (Q.refl y) (waysN p) (by omega) (ns_app hn) ty); clear hn hq hgn) | (at_builtin; refine wpList_append_ex (by rfl) _ _ 22 22 (by rfl) _ _ (by rfl) (by rfl) _ _ (NXA.out _) ?_; rintro a5 c5 w5 h7; have L5 := hideIt h7; clear h7) | fail)
    go_roundg ((us.set m 0).sum + 1)
    case measure => omega
    case rel => exact ⟨us.set m 0, V ++ waysN p, a5, c5, by simp, by omega, by omega, by simp; omega, L5, HG2, HST.out.symm.trans E1.out⟩
   ·have d0 : (((v : Int) - 1) == 0) = false := by simp; omega
    rw [if_neg (by omega)] at HST
    have HS2 := hideIt (HS.out (by omega))
    have FX : Hid (∀ y, Q z y → (y.cell? ⟨jb, 0, none⟩ = some (.slice (some ⟨P, 0, none⟩) N pc) ∧ y.cell? ⟨jb, 1, none⟩ = some (.slice (some ⟨I, 0, none⟩) N ic)) ∧ (y.cell? ⟨I, m, none⟩ = some (.int .i64 (v : Int)) ∧ y.frozen? ⟨I, m, none⟩ = false) ∧ ((y.setCell ⟨I, m, none⟩ (.int .i64 ((v : Int) - 1))).cell? ⟨jb, 0, none⟩ = some (.slice (some ⟨P, 0, none⟩) N pc) ∧ (y.setCell ⟨I, m, none⟩ (.int .i64 ((v : Int) - 1))).cell? ⟨jb, 1, none⟩ = some (.slice (some ⟨I, 0, none⟩) N ic)) ∧ (y.setCell ⟨I, m, none⟩ (.int .i64 ((v : Int) - 1))).cell? ⟨I, m, none⟩ = some (.int .i64 ((v : Int) - 1)) ∧ LoW w I (us.set m (v - 1)) (some ⟨g, 0, none⟩) wc V (y.setCell ⟨I, m, none⟩ (.int .i64 ((v : Int) - 1)))) := fun y q => by
     have h := L2.out.keep q
     have h3 : LoW w I (us.set m (v - 1)) (some ⟨g, 0, none⟩) wc V (y.setCell ⟨I, m, none⟩ (.int .i64 ((v : Int) - 1))) := by rw [← hve]; exact h.set m (v - 1)
     refine ⟨J0.out y h.fs, h.cell HV.out, J0.out _ h3.fs, ?_, h3⟩
     rw [← hve] at h3 ⊢
     exact (h3.cell (by rw [List.getElem?_set_self (List.getElem?_eq_some_iff.1 HV.out).1])).1
    clear HS HG
    go_upto_region 2 with (fail)
    go_quiet (fail)
    obtain ⟨⟨q0, q1⟩, ⟨cv, fv⟩, ⟨k0, k1⟩, cu, h3⟩ := FX.out _ ((Q.refl z).drewN nq)
    have L3 := hideIt h3
    generalize z.drewN nq = z2 at *
    clear h3 FX L2 hl j0 j1
    go_wp2_with (fail)
    go_roundg ((us.set m (v - 1)).sum + 1)
    case measure => omega
    case rel => exact ⟨us.set m (v - 1), V, _, wc, rfl, by omega, by omega, by omega, L3, HS2, HST.out.symm.trans E1.out⟩
end Go.Proofs.Ytphknepblchkdaa.Fl

namespace Go.Proofs.Ytphknepblchkdaa.Fl
open Go.RowKit
set_option linter.unusedVariables false

theorem ptN_set {L : List PP} {k : Nat} (r : PP) (hk : k < L.length) (m : Nat) : ptN (L.set k r) m = if m = k then r else ptN L m := by
 unfold ptN
 rw [List.getElem?_set]
 by_cases e : m = k
 ·subst e; simp [hk]
 ·rw [if_neg (fun q => e q.symm), if_neg e]
theorem ptN_get {L : List PP} {k : Nat} {p : PP} (h : L[k]? = some p) : ptN L k = p := by unfold ptN; rw [h]; rfl
theorem wsN_le (ws : List Nat) (n : Nat) : wsN ws n ≤ ws.sum := by
 by_cases h : n < ws.length
 ·have := sum_set ws n 0 h; omega
 ·unfold wsN; rw [List.getElem?_eq_none (by omega)]; simp
theorem aloP_inv {L : List PP} {ws : List Nat} {k n : Nat} (h : aloP L ws k = some n) : ∃ p, L[k]? = some p ∧ waysN p = [n] ∧ n ≠ k ∧ wsN ws k ≠ 0 ∧ wsN ws n = 1 := by
 unfold aloP at h
 cases hp : L[k]? with
 | none => rw [hp] at h; cases h
 | some p =>
  rw [hp] at h
  dsimp only at h
  split at h
  ·rename_i c
   obtain ⟨c1, c2, c3, c4⟩ := c
   injection h with h
   subst h
   refine ⟨p, rfl, ?_, c2, c3, c4⟩
   unfold onP at c1
   simp at c1
   unfold waysN
   rw [c1.1, if_neg (by simp), if_pos c1.2]
  ·cases h
theorem WyL.set {L : List PP} {k : Nat} {r : PP} (h : WyL L) (hr : Wy L.length r) : WyL (L.set k r) := fun p hp => by
 rw [List.length_set]
 obtain ⟨j, hj⟩ := List.getElem?_of_mem hp
 rw [List.getElem?_set] at hj
 split at hj
 ·split at hj
  ·injection hj with hj; subst hj; exact hr
  ·cases hj
 ·exact h p (List.mem_of_getElem? hj)
/-- A part with another's ways: the other one's only way is gone. -/
theorem WI.cat {L : List PP} {first k n : Nat} {ws : List Nat} (h : WI L first ws []) (ha : aloP L ws k = some n) (r : PP) (hr : waysN r = waysN (ptN L n)) : WI (L.set k r) first (ws.set n 0) [] := by
 obtain ⟨p, hp, hwp, hne, hk, hn1⟩ := aloP_inv ha
 have hkl := (List.getElem?_eq_some_iff.1 hp).1
 have hnl : n < ws.length := by
  by_cases e : n < ws.length
  ·exact e
  ·unfold wsN at hn1; rw [List.getElem?_eq_none (by omega)] at hn1; simp at hn1
 have hnL : n < L.length := by rw [← h.len]; exact hnl
 refine ⟨by simp [h.len], fun m hm => absurd hm (by simp), fun m hm => ?_⟩
 rw [List.length_set] at hm
 have e := h.eq m hm
 have e' : wsN ws m = (if m = first then 1 else 0) + ((List.range L.length).map (lvF L ws m)).sum := by rw [List.count_nil] at e; exact e
 have f1 : lvF (L.set k r) (ws.set n 0) m k = (waysN (ptN L n)).count m := by
  unfold lvF
  have e1 : wsN (ws.set n 0) k = wsN ws k := by rw [wsN_set hnl, if_neg (fun q => hne q.symm)]
  rw [e1, if_pos hk, ptN_set r hkl, if_pos rfl, hr]
 have f2 : lvF (L.set k r) (ws.set n 0) m n = 0 := by unfold lvF; rw [wsN_set hnl, if_pos rfl]; simp
 have g1 : lvF L ws m k = [n].count m := by unfold lvF; rw [if_pos hk, ptN_get hp, hwp]
 have g2 : lvF L ws m n = (waysN (ptN L n)).count m := by unfold lvF; rw [if_pos (by omega)]
 have s1 := sum_one (lvF L ws m) (fun j => if j = k then (waysN (ptN L n)).count m else lvF L ws m j) k L.length hkl (fun j hj => if_neg hj)
 have s2 := sum_one (fun j => if j = k then (waysN (ptN L n)).count m else lvF L ws m j) (lvF (L.set k r) (ws.set n 0) m) n L.length hnL (fun j hj => by
  by_cases ek : j = k
  ·subst ek; rw [f1, if_pos rfl]
  ·rw [if_neg ek]
   unfold lvF
   rw [wsN_set hnl, if_neg hj, ptN_set r hkl, if_neg ek])
 simp only [if_pos, if_neg hne] at s1 s2
 rw [f2, g2] at s2
 rw [g1] at s1
 show _ = _ + ((List.range (L.set k r).length).map (lvF (L.set k r) (ws.set n 0) m)).sum + _
 rw [List.length_set, wsN_set hnl, List.count_nil]
 by_cases em : m = n
 ·subst em
  rw [if_pos rfl]
  rw [hn1] at e'
  have : List.count m [m] = 1 := by simp
  omega
 ·rw [if_neg em]
  have : List.count m [n] = 0 := List.count_eq_zero.2 (by simp; exact em)
  omega
/-- A branch is known: one of its ways is gone. -/
theorem WI.known {L : List PP} {first k gone : Nat} {ws : List Nat} (h : WI L first ws []) (hk : k < L.length) (hl : wsN ws k ≠ 0) (hg : gone < L.length) (r : PP) (hc : ∀ m, (waysN r).count m + [gone].count m = (waysN (ptN L k)).count m) : WI (L.set k r) first ws [gone] := by
 refine ⟨by simp [h.len], fun m hm => by simp at hm; subst hm; simpa using hg, fun m hm => ?_⟩
 rw [List.length_set] at hm
 have e' : wsN ws m = (if m = first then 1 else 0) + ((List.range L.length).map (lvF L ws m)).sum := by have e := h.eq m hm; rw [List.count_nil] at e; exact e
 have s1 := sum_one (lvF L ws m) (lvF (L.set k r) ws m) k L.length hk (fun j hj => by
  unfold lvF
  rw [ptN_set r hk, if_neg hj])
 have f1 : lvF (L.set k r) ws m k = (waysN r).count m := by unfold lvF; rw [if_pos hl, ptN_set r hk, if_pos rfl]
 have g1 : lvF L ws m k = (waysN (ptN L k)).count m := by unfold lvF; rw [if_pos hl]
 have := hc m
 show _ = _ + ((List.range (L.set k r).length).map (lvF (L.set k r) ws m)).sum + _
 rw [List.length_set]
 omega
theorem losP_WI {L : List PP} {first : Nat} (hw : WyL L) : ∀ (s : Nat) (ws wk : List Nat), ws.sum ≤ s → WI L first ws wk → WI L first (losP L ws wk) [] ∧ (losP L ws wk).sum ≤ ws.sum := fun s => by
 induction s with
 | zero =>
  intro ws wk hs h
  rcases List.eq_nil_or_concat wk with rfl | ⟨V, n, hW⟩
  ·rw [losP_nil]; exact ⟨h, Nat.le_refl _⟩
  ·rw [List.concat_eq_append] at hW
   subst hW
   have := h.pos
   have := wsN_le ws n
   omega
 | succ s ih =>
  intro ws wk hs h
  rcases List.eq_nil_or_concat wk with rfl | ⟨V, n, hW⟩
  ·rw [losP_nil]; exact ⟨h, Nat.le_refl _⟩
  ·rw [List.concat_eq_append] at hW
   subst hW
   have h1 := h.pos
   have h2 := sum_set ws n (wsN ws n - 1) (by rw [h.len]; exact h.wb n (by simp))
   rw [losP_step h]
   split
   ·rename_i e
    obtain ⟨a, b⟩ := ih _ _ (by omega) (h.gone hw e)
    exact ⟨a, by omega⟩
   ·rename_i e
    obtain ⟨a, b⟩ := ih _ _ (by omega) (h.stay e)
    exact ⟨a, by omega⟩
/-- The two ways of a branch, the one taken and the one gone. -/
theorem ways_two {n : Nat} {q r : PP} (hb : brP q = true) (hy : Wy n q) (v : Int) (hr : waysN r = [(wayP q (v != 0)).toNat]) : ∀ m, (waysN r).count m + [(wayP q (v == 0)).toNat].count m = (waysN q).count m := fun m => by
 have hq : waysN q = [q.next.toNat, q.els.toNat] := by
  unfold brP at hb
  simp at hb
  unfold waysN
  rw [hb.1, if_neg (by simp), if_neg (by omega)]
 rw [hr, hq]
 unfold wayP
 by_cases h0 : v = 0
 ·subst h0
  simp [List.count_cons]
 ·have h1 : (v != 0) = true := by simpa using h0
  have h2 : (v == 0) = false := by simpa using h0
  rw [h1, h2]
  simp [List.count_cons]
  try omega
theorem ways_go (p : PP) (t : Int) (h : p.e = false) : waysN (goP p t) = [t.toNat] := by
 unfold waysN goP
 dsimp only
 rw [h, if_neg (by simp), if_pos (by omega)]
theorem ways_cat (p q : PP) : waysN (catP p q) = waysN q := rfl
theorem Wy.cat {n : Nat} {p q : PP} (h : Wy n q) : Wy n (catP p q) := ⟨h.nx, h.el⟩
/-- A part is put behind another one: the ways are counted, and fewer. -/
theorem Jn.put_WI {s : Jn} {F : KF} {first k n : Nat} (h : WI s.ps first s.ws []) (hw : WyL s.ps) (ha : aloP s.ps s.ws k = some n) :
  WI (s.put F k n).ps first (s.put F k n).ws [] ∧ WyL (s.put F k n).ps ∧ (s.put F k n).ws.sum < s.ws.sum ∧ (s.put F k n).ps.length = s.ps.length := by
 obtain ⟨p, hp, hwp, hne, hk, hn1⟩ := aloP_inv ha
 have hkl := (List.getElem?_eq_some_iff.1 hp).1
 have hnl : n < s.ws.length := by
  by_cases e : n < s.ws.length
  ·exact e
  ·unfold wsN at hn1; rw [List.getElem?_eq_none (by omega)] at hn1; simp at hn1
 have hnL : n < s.ps.length := by rw [← h.len]; exact hnl
 obtain ⟨q, hq⟩ := get_of_lt hnL
 have hwq := hw q (List.mem_of_getElem? hq)
 have hs := sum_set s.ws n 0 hnl
 have hc := h.cat ha (catP p q) (by rw [ways_cat, ptN_get hq])
 have hcw : WyL (s.ps.set k (catP p q)) := hw.set hwq.cat
 unfold Jn.put
 rw [hp, hq]
 dsimp only
 have plain : WI (s.ps.set k (catP p q)) first (s.ws.set n 0) [] ∧ WyL (s.ps.set k (catP p q)) ∧ (s.ws.set n 0).sum < s.ws.sum ∧ (s.ps.set k (catP p q)).length = s.ps.length := ⟨hc, hcw, by omega, by simp⟩
 cases hF : F q.cond with
 | none => exact plain
 | some v =>
  dsimp only
  by_cases hb : brP q = true
  ·rw [if_pos hb]
   dsimp only
   have hqe : q.e = false := by unfold brP at hb; simp at hb; exact hb.1
   have hg := hwq.way hb (v == 0)
   have ht := hwq.way hb (v != 0)
   have hW : WyL (s.ps.set k (goP (catP p q) (wayP q (v != 0)))) := hw.set (Wy.go ht)
   have hk' : k < (s.ps.set k (catP p q)).length := by simpa using hkl
   have hK := hc.known (gone := (wayP q (v == 0)).toNat) hk' (by rw [wsN_set hnl, if_neg (fun e => hne e.symm)]; exact hk) (by simp; omega) (goP (catP p q) (wayP q (v != 0))) (by
    rw [ptN_set _ hkl, if_pos rfl]
    exact ways_two (q := catP p q) hb hwq.cat v (ways_go _ _ hqe))
   rw [List.set_set] at hK
   obtain ⟨a, b⟩ := losP_WI hW _ _ _ (Nat.le_refl _) hK
   exact ⟨a, hW, by omega, by simp⟩
  ·rw [if_neg hb]
   exact plain
theorem lenP_none {s : Jn} {F : KF} {k : Nat} (h : aloP s.ps s.ws k = none) : lenP s F k = s := by
 rw [lenP]
 rw [h]
theorem lenP_some {s : Jn} {F : KF} {first k n : Nat} (h : WI s.ps first s.ws []) (hw : WyL s.ps) (ha : aloP s.ps s.ws k = some n) : lenP s F k = lenP (s.put (lrnL F (ptN s.ps n).ins) k n) (lrnL F (ptN s.ps n).ins) k := by
 have hs := (Jn.put_WI (F := lrnL F (ptN s.ps n).ins) h hw ha).2.2.1
 rw [lenP]
 rw [ha]
 dsimp only
 exact dif_pos hs
end Go.Proofs.Ytphknepblchkdaa.Fl
