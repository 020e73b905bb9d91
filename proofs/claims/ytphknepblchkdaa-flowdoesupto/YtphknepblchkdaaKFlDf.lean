/-
 What comes of right code is right, and does what that does, in no more steps; what is left in it: plain facts, no program in sight; no conditions but those that each fact bears.
 What comes of right code is right, and no greater; plain facts, no program in sight; no conditions but those that each fact bears.
-/
import Derived.Test.YtphknepblchkdaaKFlDd
namespace Go.Proofs.Ytphknepblchkdaa.Fl
open Go.RowKit
open Go.Proofs.Ytphknepblchkdaa.In (zI zP zF zI_zI zP_zP cntS cntS_fnN len_cnt)
set_option linter.unusedVariables false

/-! ### Calls -/
/-- How a function is followed. -/
def Fol (c d : PC) : Prop := d.fns.length = c.fns.length ∧ ∀ (k : Nat) (f : PF), c.fns[k]? = some f → ∃ (g : PF) (L : List PP), d.fns[k]? = some g ∧ g.slots = f.slots ∧ (∀ cf fuel keep g0 a ρ s, partsR cf fuel keep f g0 a ρ s = PR cf fuel keep L g0 a ρ s) ∧ PK L 0 g.parts 0
theorem Fol.refl (c : PC) : Fol c c := ⟨rfl, fun k f hk => ⟨f, f.parts, hk, rfl, fun cf fuel keep g0 a ρ s => partsR_PR cf fuel keep f g0 a ρ s, PK.refl _ _⟩⟩
/-! ### What stays of parts through all passes -/
/-- A property of parts that all passes keep. -/
structure Kp (T : PP → Prop) : Prop where
 go : ∀ p t, p.e = false → T p → T (goP p t)
 nx : ∀ p a b, T p → T { p with next := a, els := b }
 cat : ∀ p q, T p → T q → T (catP p q)
theorem kp_take {T : PP → Prop} (h : Kp T) {L : List PP} (hT : ∀ p ∈ L, T p) (fault : Bool) : ∀ p ∈ tkL fault L, T p := fun q hq => by
 obtain ⟨p, hp, rfl⟩ := List.mem_map.1 hq
 unfold takeP
 split
 ·rename_i hb
  split
  ·split
   ·exact h.go _ _ (brP_on hb).1 (hT p hp)
   ·exact hT p hp
  ·exact hT p hp
 ·exact hT p hp
theorem kp_pas {T : PP → Prop} (h : Kp T) {L : List PP} (hT : ∀ p ∈ L, T p) : ∀ p ∈ pasL L, T p := fun q hq => by
 obtain ⟨p, hp, rfl⟩ := List.mem_map.1 hq
 unfold pasP
 split
 ·exact hT p hp
 ·rename_i he
  split
  ·exact h.go _ _ (by simpa using he) (hT p hp)
  ·exact h.nx _ _ _ (hT p hp)
theorem kp_putP {T : PP → Prop} (h : Kp T) {p q : PP} (hp : T p) (hq : T q) (F : KF) : T (putP F p q) := by
 unfold putP
 split
 ·split
  ·rename_i hb
   exact h.go _ _ (brP_on hb).1 (h.cat p q hp hq)
  ·exact h.cat p q hp hq
 ·exact h.cat p q hp hq
theorem kp_joi {T : PP → Prop} (h : Kp T) {L : List PP} {first : Nat} (hw : WyL L) (hf : first < L.length) (hT : ∀ p ∈ L, T p) : ∀ p ∈ joiL L first, T p :=
 (joi_ind (first := first) (P := fun s => ∀ p ∈ s.ps, T p) (fun s k n p q hP hW hw ha hp hq r hr => by
  rw [(put_ps hp hq).1] at hr
  rcases List.mem_or_eq_of_mem_set hr with hr | hr
  ·exact hP r hr
  ·rw [hr]; exact kp_putP h (hP p (List.mem_of_getElem? hp)) (hP q (List.mem_of_getElem? hq)) _) (s := ⟨L, cntL L first⟩) hT (WI_cnt hw hf) hw L.length).1
theorem kp_ren {T : PP → Prop} (h : Kp T) {p : PP} (hp : T p) (l : List Nat) : T (renP l p) := by
 unfold renP
 split
 ·exact h.nx _ _ _ hp
 ·rename_i he
  split
  ·exact h.go _ _ (by simpa using he) hp
  ·exact h.nx _ _ _ hp
/-- The joined list, and what holds of it. -/
structure JD (L : List PP) (M : List PP) (first : Nat) (ws : List Nat) : Prop where
 len : M.length = L.length
 wi : WI M first ws []
 wy : WyL M
 lv : lvL M ws ≤ lvL L (cntL L first)
theorem joi_jd {L : List PP} {first : Nat} (hw : WyL L) (hf : first < L.length) : ∃ ws, JD L (joiL L first) first ws := by
 have := joi_ind (first := first) (P := fun s => s.ps.length = L.length ∧ lvL s.ps s.ws ≤ lvL L (cntL L first)) (fun s k n p q hP hW hw ha hp hq => ?_) (s := ⟨L, cntL L first⟩) ⟨rfl, Nat.le_refl _⟩ (WI_cnt hw hf) hw L.length
 ·exact ⟨_, this.1.1, this.2.1, this.2.2, this.1.2⟩
 ·obtain ⟨-, -, -, o4⟩ := aloP_on ha hp
  obtain ⟨-, -, -, -, hkw, hn1⟩ := aloP_inv ha
  obtain ⟨p1, p2⟩ := put_ps (F := lrnL (fun _ => none) (p.ins ++ q.ins)) hp hq
  refine ⟨by rw [p1, List.length_set]; exact hP.1, Nat.le_trans ?_ hP.2⟩
  rw [p1]
  exact put_lv hp hq (fun e => o4 e.symm) hkw hn1 (by rw [putP_ins, List.length_append]) p2
theorem rch_live {M : List PP} {first n : Nat} {ws : List Nat} (hW : WI M first ws []) (hw : WyL M) (hf : first < M.length) (h : Rch M first n) : wsN ws n ≠ 0 := by
 induction h with
 | base => exact live_first hW hf
 | step r hp hm ih => exact live_way hW hw ih hp hm
theorem sum_filter (f : Nat → Nat) (p : Nat → Bool) : ∀ l : List Nat, ((l.filter p).map f).sum = (l.map fun n => if p n then f n else 0).sum
 | [] => rfl
 | x :: l => by
  rw [List.filter_cons]
  cases h : p x with
  | true => simp [h, sum_filter f p l]
  | false => simp [h, sum_filter f p l]
theorem sum_plus (g : Nat → Nat) : ∀ N, ((List.range N).map fun n => 1 + g n).sum = N + ((List.range N).map g).sum
 | 0 => rfl
 | N + 1 => by
  rw [List.range_succ, List.map_append, List.map_append, List.sum_append, List.sum_append, sum_plus g N]
  simp
  omega
theorem ordL_sum {L : List PP} {first : Nat} (hf : first < L.length) (f h : Nat → Nat) (hh : ∀ n, n < L.length → rchB L first n = true → f n ≤ h n) : ((ordL L first).map f).sum ≤ ((List.range L.length).map h).sum := by
 have hr : rchB L first first = true := rchB_iff.2 .base
 unfold ordL ordTo
 rw [List.map_cons, List.sum_cons, sum_filter]
 have s1 := sum_one h (fun j => if j = first then 0 else h j) first L.length hf (fun j hj => if_neg hj)
 simp only [if_pos] at s1
 have s2 : ((List.range L.length).map fun n => if (rchB L first n && n != first) = true then f n else 0).sum ≤ ((List.range L.length).map fun j => if j = first then 0 else h j).sum := sum_le' fun n hn => by
  have hnl := List.mem_range.1 hn
  by_cases e : n = first
  ·subst e
   simp
  ·rw [if_neg e]
   split
   ·rename_i q
    simp only [Bool.and_eq_true] at q
    exact hh n hnl q.1
   ·exact Nat.zero_le _
 have := hh first hf hr
 omega
theorem cntS_ino {L M : List PP} {first : Nat} {ws : List Nat} (h : JD L M first ws) (hf : first < L.length) : cntS (inoP M first) ≤ L.length + lvL L (cntL L first) := by
 have hf2 : first < M.length := by rw [h.len]; exact hf
 have e1 : cntS (inoP M first) = ((ordL M first).map fun n => 1 + (ptN M n).ins.length).sum := by
  unfold cntS inoP
  rw [List.map_map]
  congr 1
  refine List.map_congr_left fun n _ => ?_
  show 1 + (renP _ _).ins.length = _
  rw [(renP_has _ _).1]; rfl
 have e2 := ordL_sum hf2 (fun n => 1 + (ptN M n).ins.length) (fun n => 1 + lvI M ws n) (fun n hn hr => by
  have := rch_live h.wi h.wy hf2 (rchB_iff.1 hr)
  unfold lvI
  rw [if_pos this]
  exact Nat.le_refl _)
 rw [sum_plus] at e2
 have e3 : ((List.range M.length).map (lvI M ws)).sum = lvL M ws := rfl
 rw [e3] at e2
 rw [e1]
 have := h.lv
 have := h.len
 omega
theorem cntS_ge (L : List PP) (ws : List Nat) : L.length + lvL L ws ≤ cntS L := by
 have e3 : ((List.range L.length).map (lvI L ws)).sum = lvL L ws := rfl
 rw [← e3, ← sum_plus]
 unfold cntS
 rw [← range_map L zeroP]
 refine sum_le' fun j _ => ?_
 unfold lvI
 split
 ·exact Nat.le_refl _
 ·show 1 + 0 ≤ _
  omega
end Go.Proofs.Ytphknepblchkdaa.Fl

namespace Go.Proofs.Ytphknepblchkdaa.Fl
open Go.RowKit
open Go.Proofs.Ytphknepblchkdaa.In (zI zP zF zI_zI zP_zP cntS cntS_fnN len_cnt)
set_option linter.unusedVariables false

theorem kp_ins (S : PI → Prop) : Kp (fun p => ∀ x ∈ p.ins, S x) := ⟨fun p t _ h => h, fun p a b h => h, fun p q hp hq x hx => by
 rcases List.mem_append.1 (show x ∈ p.ins ++ q.ins from hx) with h | h
 ·exact hp x h
 ·exact hq x h⟩
theorem kp_cond (r : Int) : Kp (fun p => p.e = true ∨ 0 ≤ p.cond → 0 ≤ p.cond ∧ p.cond < r) := ⟨fun p t he h q => by
  rcases q with q | q
  ·have : p.e = true := q
   rw [he] at this; cases this
  ·exact absurd q (by show ¬ (0 : Int) ≤ -1; omega), fun p a b h => h, fun p q hp hq => hq⟩
/-- A function that is made straight, opened. -/
theorem flo_open {fault : Bool} {L : List PP} (hw : WyL L) (h0 : 0 < L.length) : ∃ M first ws, floL fault L = inoP M first ∧ first < L.length ∧ JD (pasL (tkL fault L)) M first ws ∧ M = joiL (pasL (tkL fault L)) first ∧ first = fstL (tkL fault L) ∧ WyL (pasL (tkL fault L)) ∧ (pasL (tkL fault L)).length = L.length ∧ WyL (tkL fault L) ∧ (tkL fault L).length = L.length := by
 have l1 : (tkL fault L).length = L.length := by unfold tkL; simp
 have w1 := tkL_wy hw fault
 have f1 : fstL (tkL fault L) < (tkL fault L).length := fstL_lt w1 (by omega)
 have w2 := pasL_wy w1 (by omega)
 have l2 : (pasL (tkL fault L)).length = L.length := by unfold pasL tkL; simp
 obtain ⟨ws, hj⟩ := joi_jd w2 (first := fstL (tkL fault L)) (by omega)
 exact ⟨_, _, ws, rfl, by omega, hj, rfl, rfl, w2, l2, w1, l1⟩
theorem kp_flo {T : PP → Prop} (h : Kp T) {fault : Bool} {L : List PP} (hw : WyL L) (h0 : 0 < L.length) (hT : ∀ p ∈ L, T p) : ∀ p ∈ floL fault L, T p := fun r hr => by
 obtain ⟨M, first, ws, e, hf, hj, e2, e3, w2, l2, w1, l1⟩ := flo_open (fault := fault) hw h0
 rw [e] at hr
 obtain ⟨j, q, hq, rfl⟩ := inoP_mem (by rw [hj.len]; omega) hr
 refine kp_ren h ?_ _
 have := kp_joi h w2 (first := first) (by omega) (kp_pas h (kp_take h hT fault))
 rw [← e2] at this
 exact this q (List.mem_of_getElem? hq)
/-- Places of parts that are reached have numbers. -/
theorem num_lt {M : List PP} {first x : Nat} (hw : WyL M) (hf : first < M.length) (h : Rch M first x) : numL (ordL M first) x < (inoP M first).length := by
 have hm := mem_ord (h.lt hw hf) h
 unfold numL
 rw [if_pos hm]
 unfold inoP
 rw [List.length_map]
 exact List.idxOf_lt_length_iff.2 hm
theorem ord_rch {M : List PP} {first x : Nat} (h : x ∈ ordL M first) : Rch M first x := by
 unfold ordL ordTo at h
 rcases List.mem_cons.1 h with rfl | h
 ·exact .base
 ·have := (List.mem_filter.1 h).2
  simp only [Bool.and_eq_true] at this
  exact rchB_iff.1 this.1
/-- A part in order: of which reached part it is. -/
theorem ino_at {M : List PP} {first : Nat} (hf : first < M.length) {i : Nat} {r : PP} (h : (inoP M first)[i]? = some r) : ∃ (j : Nat) (q : PP), (ordL M first)[i]? = some j ∧ Rch M first j ∧ M[j]? = some q ∧ r = renP (ordL M first) q := by
 unfold inoP at h
 rw [List.getElem?_map] at h
 cases ho : (ordL M first)[i]? with
 | none => rw [ho] at h; cases h
 | some j =>
  rw [ho] at h
  injection h with h
  have hm := List.mem_of_getElem? ho
  obtain ⟨q, hq⟩ := get_of_lt (ordL_lt hf hm)
  refine ⟨j, q, rfl, ord_rch hm, hq, ?_⟩
  rw [← h]
  show renP _ ((M[j]?).getD zeroP) = _
  rw [hq]; rfl
theorem ino_wy {M : List PP} {first : Nat} (hw : WyL M) (hf : first < M.length) : WyL (inoP M first) := fun r hr => by
 obtain ⟨i, hi⟩ := List.getElem?_of_mem hr
 obtain ⟨j, q, -, hj, hq, rfl⟩ := ino_at hf hi
 have hlt : ∀ y ∈ waysN q, numL (ordL M first) y < (inoP M first).length := fun y hy => num_lt hw hf (hj.step hq hy)
 have h0 : 0 < (inoP M first).length := by
  have := num_lt hw hf (Rch.base (L := M) (first := first))
  omega
 unfold renP
 split
 ·rename_i he
  have hz : ∀ z : q.e = false, False := fun z => by rw [he] at z; cases z
  exact ⟨fun z => (hz z).elim, fun z => (hz z).elim⟩
 ·rename_i he
  have he' : q.e = false := by simpa using he
  have hn := hlt _ (next_ways he')
  split
  ·exact Wy.go ⟨by omega, by omega⟩
  ·rename_i hc
   have hel : q.els.toNat ∈ waysN q := by
    unfold waysN
    rw [he', if_neg (by simp), if_neg hc]
    exact List.mem_cons_of_mem _ (List.mem_singleton.2 rfl)
   have hn2 := hlt _ hel
   exact ⟨fun _ => ⟨by dsimp only; omega, by dsimp only; omega⟩, fun _ _ => ⟨by dsimp only; omega, by dsimp only; omega⟩⟩
theorem insP_zI {c d : PC} (hg : d.gl = c.gl) (hp : ∀ j : Nat, (d.fns[j]?).map (fun g : PF => g.params) = (c.fns[j]?).map (fun g : PF => g.params)) (k : Nat) {f g : PF} (hs : g.slots = f.slots) (hr : g.regs = f.regs) (y : PI) : insP d k g (zI y) = insP c k f y := by
 have e6 : immP d k g (zI y) = immP c k f y := by
  unfold immP
  rw [hs, hg]
  show (if y.op = 26 then _ else if y.op = 27 then _ else if y.op = 28 then _ else if y.op = 29 then _ else if y.op = 32 then blP y.imm k && (match d.fns[y.imm.toNat]? with | some g => (y.args.length : Int) == g.params | none => false) else true) = _
  have h5 := hp y.imm.toNat
  cases h1 : d.fns[y.imm.toNat]? with
  | none => cases h2 : c.fns[y.imm.toNat]? with
   | none => rfl
   | some g => rw [h1, h2] at h5; cases h5
  | some g' => cases h2 : c.fns[y.imm.toNat]? with
   | none => rw [h1, h2] at h5; cases h5
   | some g => rw [h1, h2] at h5; simp at h5; dsimp only; rw [h5]; rfl
 unfold insP wtP rdsP
 rw [e6, hr]; rfl
/-- A right function stays right. -/
theorem fn_flo {c d : PC} (hg : d.gl = c.gl) (hp : ∀ j : Nat, (d.fns[j]?).map (fun g : PF => g.params) = (c.fns[j]?).map (fun g : PF => g.params)) {k : Nat} {f : PF} (h : fnP c k f = true) (fault : Bool) : fnP d k (floF fault f) = true := by
 have hne := (fn_head h).2.2.2
 have hw : WyL (f.parts.map zP) := fun p hp => by
  obtain ⟨p0, h0, rfl⟩ := List.mem_map.1 hp
  rw [List.length_map]
  have := wyL_of h p0 h0
  exact ⟨this.nx, this.el⟩
 have h0 : 0 < (f.parts.map zP).length := by rw [List.length_map]; exact List.length_pos_iff.2 hne
 obtain ⟨M, first, ws, e, hf, hj, e2, e3, w2, l2, w1, l1⟩ := flo_open (fault := fault) hw h0
 have hfM : first < M.length := by rw [hj.len]; omega
 have hwy := ino_wy hj.wy hfM
 have hcd := kp_flo (kp_cond f.regs) (fault := fault) hw h0 (fun p hp => by
  obtain ⟨p0, h0, rfl⟩ := List.mem_map.1 hp
  exact (fn_end h h0).1)
 have hin := kp_flo (kp_ins (fun x => ∃ p ∈ f.parts, ∃ y ∈ p.ins, x = zI y)) (fault := fault) hw h0 (fun p hp x hx => by
  obtain ⟨p0, h0, rfl⟩ := List.mem_map.1 hp
  obtain ⟨y, hy, rfl⟩ := List.mem_map.1 (show x ∈ p0.ins.map zI from hx)
  exact ⟨p0, h0, y, hy, rfl⟩)
 have hpos : 0 < (inoP M first).length := by
  have := num_lt hj.wy hfM (Rch.base (L := M) (first := first))
  omega
 unfold fnP at h ⊢
 rw [Bool.and_eq_true] at h ⊢
 refine ⟨?_, ?_⟩
 ·have h1 := h.1
  unfold headP at h1 ⊢
  simp only [Bool.and_eq_true, Bool.not_eq_true', decide_eq_false_iff_not] at h1 ⊢
  refine ⟨h1.1, h1.2.1, h1.2.2.1, ?_, h1.2.2.2.2⟩
  show ¬ (floL fault (f.parts.map zP)).length = 0
  rw [e]; omega
 ·rw [List.all_eq_true]
  intro r hr
  have hr' : r ∈ floL fault (f.parts.map zP) := hr
  have hall := h.2
  rw [List.all_eq_true] at hall
  unfold ptP
  rw [Bool.and_eq_true, List.all_eq_true]
  refine ⟨?_, fun x hx => ?_⟩
  ·have c1 := hcd r hr'
   rw [e] at hr'
   have c2 := hwy r hr'
   unfold endP
   show (if r.e then blP r.cond f.regs else if r.cond < 0 then blP r.next (floL fault (f.parts.map zP)).length else blP r.cond f.regs && (blP r.next (floL fault (f.parts.map zP)).length && blP r.els (floL fault (f.parts.map zP)).length)) = true
   rw [e]
   have bl : ∀ {a b : Int}, 0 ≤ a → a < b → blP a b = true := fun h1 h2 => by unfold blP; simp [h1, h2]
   split
   ·rename_i he
    have := c1 (.inl he)
    exact bl this.1 this.2
   ·rename_i he
    have he' : r.e = false := by simpa using he
    have n1 := c2.nx he'
    split
    ·exact bl n1.1 n1.2
    ·rename_i hc
     have := c1 (.inr (by omega))
     have n2 := c2.el he' (by omega)
     rw [bl this.1 this.2, bl n1.1 n1.2, bl n2.1 n2.2]; rfl
  ·obtain ⟨p, hp0, y, hy, rfl⟩ := hin r hr' x hx
   have := hall p hp0
   unfold ptP at this
   rw [Bool.and_eq_true, List.all_eq_true] at this
   rw [insP_zI hg hp k (f := f) (g := floF fault f) rfl rfl y]
   exact this.2 y hy
theorem cnt_flo {c : PC} {k : Nat} {f : PF} (h : fnP c k f = true) (fault : Bool) : cntS (floF fault f).parts ≤ cntS f.parts := by
 have hne := (fn_head h).2.2.2
 have hw : WyL (f.parts.map zP) := fun p hp => by
  obtain ⟨p0, h0, rfl⟩ := List.mem_map.1 hp
  rw [List.length_map]
  have := wyL_of h p0 h0
  exact ⟨this.nx, this.el⟩
 have h0 : 0 < (f.parts.map zP).length := by rw [List.length_map]; exact List.length_pos_iff.2 hne
 obtain ⟨M, first, ws, e, hf, hj, e2, e3, w2, l2, w1, l1⟩ := flo_open (fault := fault) hw h0
 show cntS (floL fault (f.parts.map zP)) ≤ _
 rw [e]
 have h1 := cntS_ino hj (by omega : first < (pasL (tkL fault (f.parts.map zP))).length)
 have h2 := cntS_ge (pasL (tkL fault (f.parts.map zP))) (cntL (pasL (tkL fault (f.parts.map zP))) first)
 have h3 : cntS (pasL (tkL fault (f.parts.map zP))) = cntS (f.parts.map zP) := by
  unfold cntS
  congr 1
  refine List.ext_getElem? fun j => ?_
  rw [List.getElem?_map, List.getElem?_map]
  cases hj : (pasL (tkL fault (f.parts.map zP)))[j]? with
  | none => rw [List.getElem?_eq_none (by rw [← l2]; exact List.getElem?_eq_none_iff.1 hj)]
  | some q =>
   obtain ⟨p0, e, hlf⟩ := lft_all fault _ hj
   rw [e]
   show some (1 + q.ins.length) = some (1 + p0.ins.length)
   rw [hlf.ins]
 have h4 := cntS_zP f.parts
 omega
theorem fnsP_at {c : PC} : ∀ (l : List PF) (k0 : Nat), (∀ (i : Nat) (f : PF), l[i]? = some f → fnP c (k0 + i) f = true) → fnsP c k0 l = true
 | [], k0, h => rfl
 | x :: l, k0, h => by
  simp only [fnsP, Bool.and_eq_true]
  refine ⟨h 0 x rfl, fnsP_at l (k0 + 1) fun i f hf => ?_⟩
  have := h (i + 1) f (by simpa using hf)
  rwa [show k0 + (i + 1) = k0 + 1 + i by omega] at this
theorem codeN_flo {c : PC} (h : ∀ k f, c.fns[k]? = some f → fnP c k f = true) (fault : Bool) : 0 ≤ codeN (floC fault c) ∧ codeN (floC fault c) ≤ codeN c := by
 have key : ∀ l : List PF, (∀ f ∈ l, cntS (floF fault f).parts ≤ cntS f.parts) → 0 ≤ ((l.map (floF fault)).map fnN).sum ∧ ((l.map (floF fault)).map fnN).sum ≤ (l.map fnN).sum := by
  intro l
  induction l with
  | nil => intro _; exact ⟨by simp, by simp⟩
  | cons f l ih =>
   intro hl
   obtain ⟨i1, i2⟩ := ih fun g hg => hl g (List.mem_cons_of_mem _ hg)
   have i3 := hl f (List.mem_cons_self ..)
   simp only [List.map_cons, List.sum_cons]
   rw [cntS_fnN, cntS_fnN]
   exact ⟨by omega, by omega⟩
 unfold codeN
 exact key c.fns fun f hf => by
  obtain ⟨k, hk⟩ := List.getElem?_of_mem hf
  exact cnt_flo (h k f hk) fault
theorem flo_valid {c : PC} {w : World} (hok : c.ok w) (hv : validP c = 0) (hn : codeN c ≤ 400) (fault : Bool) : validP (floC fault c) = 0 := by
 obtain ⟨vc, hroom, hli, fl, hfl, hpl⟩ := Dn.valid_vc hok hv
 have hfn : ∀ m g, c.fns[m]? = some g → fnP c m g = true := vc.fn
 have hget : ∀ j : Nat, (floC fault c).fns[j]? = (c.fns[j]?).map (floF fault) := fun j => by show (c.fns.map _)[j]? = _; rw [List.getElem?_map]
 have hprm : ∀ j : Nat, ((floC fault c).fns[j]?).map (fun g : PF => g.params) = (c.fns[j]?).map (fun g : PF => g.params) := fun j => by
  rw [hget j]
  cases c.fns[j]? <;> rfl
 have hlen : (floC fault c).fns.length = c.fns.length := by show (c.fns.map _).length = _; simp
 obtain ⟨n0, n1⟩ := codeN_flo hfn fault
 unfold validP
 rw [if_neg (by rw [IntKind.wrap_i64]; omega)]
 have hr : rightP (floC fault c) = true := by
  unfold rightP Go.Proofs.Ytphknepblchkdaa.hdP
  simp only [Bool.and_eq_true]
  refine ⟨⟨?_, ?_, hroom⟩, fnsP_at _ _ fun i g hg => ?_⟩
  ·unfold lastP
   rw [hlen]
   have := hprm (c.fns.length - 1)
   rw [hfl] at this
   cases h1 : (floC fault c).fns[c.fns.length - 1]? with
   | none => rw [h1] at this; cases this
   | some g =>
    rw [h1] at this
    simp at this
    dsimp only
    rw [this, hpl]; rfl
  ·exact decide_eq_true hli
  ·rw [Nat.zero_add]
   rw [hget i] at hg
   cases hj : c.fns[i]? with
   | none => rw [hj] at hg; cases hg
   | some f =>
    rw [hj] at hg
    injection hg with hg
    subst hg
    exact fn_flo (c := c) (d := floC fault c) rfl hprm (hfn i f hj) fault
 rw [hr]; rfl
end Go.Proofs.Ytphknepblchkdaa.Fl
