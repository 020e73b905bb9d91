/-
 What is left in a function that was made straight: plain facts, no program in sight; no conditions but those that each fact bears.
 Is a branch known (known of the statements of layer 21)? A contract over the program; the condition: the part lies in memory.
 Does a part go round by parts that do nothing (round of the statements of layer 21), where it leads to itself? Which parts are reached (reached of them)? Contracts over the program; the conditions: the function lies in memory, all parts are reached.
-/
import Derived.Test.YtphknepblchkdaaKFlDf
import Derived.BigQuiet
import Derived.Test.YtphknepblchkdaaKFlK
import Derived.Deep.LoopGhost
namespace Go.Proofs.Ytphknepblchkdaa.Fl
open Go.RowKit
open Go.Proofs.Ytphknepblchkdaa.In (zI zP zF zI_zI zP_zP cntS cntS_fnN len_cnt)
set_option linter.unusedVariables false

/-- Was a part's register last written in it by a constant? -/
def knwP (p : PP) : Bool := match lastI p.ins p.cond with | some x => x.op == 20 | none => false
structure DoesP (G : List PP) : Prop where
 wy : WyL G
 rch : ∀ j, j < G.length → Rch G 0 j
 br : ∀ p ∈ G, brP p = true → p.next ≠ p.els
 kn : ∀ p ∈ G, brP p = true → knwP p = false
 rd : ∀ (j : Nat) (p : PP), G[j]? = some p → p.e = false → p.cond < 0 → p.ins = [] → p.next = (j : Int)
theorem joi_all {T : PP → Prop} {L : List PP} {first : Nat} (hw : WyL L) (hf : first < L.length) (h : ∀ p q, T p → T q → T (putP (lrnL (fun _ => none) (p.ins ++ q.ins)) p q)) (hT : ∀ p ∈ L, T p) : ∀ p ∈ joiL L first, T p :=
 (joi_ind (first := first) (P := fun s => ∀ p ∈ s.ps, T p) (fun s k n p q hP hW hw ha hp hq r hr => by
  rw [(put_ps hp hq).1] at hr
  rcases List.mem_or_eq_of_mem_set hr with hr | hr
  ·exact hP r hr
  ·rw [hr]; exact h p q (hP p (List.mem_of_getElem? hp)) (hP q (List.mem_of_getElem? hq))) (s := ⟨L, cntL L first⟩) hT (WI_cnt hw hf) hw L.length).1
theorem brP_go (p : PP) (t : Int) : brP (goP p t) = false := by
 unfold brP
 show (!p.e && decide ((0 : Int) ≤ -1)) = false
 cases p.e <;> rfl
/-! ### No branch has one way -/
theorem br_pas {L : List PP} (hw : WyL L) : ∀ p ∈ pasL L, brP p = true → p.next ≠ p.els := fun r hr hb => by
 obtain ⟨p, hp, rfl⟩ := List.mem_map.1 hr
 have hc := endC_ci hw
 unfold pasP at hb ⊢
 split at hb
 ·rename_i he
  have := (brP_on hb).1
  rw [he] at this; cases this
 ·rename_i he
  have he' : p.e = false := by simpa using he
  rw [if_neg he]
  split at hb
  ·rw [brP_go] at hb; cases hb
  ·rename_i hne
   rw [if_neg hne]
   have hcd : 0 ≤ p.cond := (brP_on hb).2
   have hwp := hw p hp
   have n1 := hwp.nx he'
   have n2 := hwp.el he' hcd
   have e1 : ((endC L).ends p).1 = (endC L).rt p.next.toNat := rfl
   have e2 : ((endC L).ends p).2 = (endC L).rt p.els.toNat := by unfold Cs.ends; dsimp only; rw [if_neg (by omega)]
   intro q
   have q' : hdA (endC L) ((endC L).ends p).1 = hdA (endC L) ((endC L).ends p).2 := by
    have : ((hdA (endC L) ((endC L).ends p).1 : Nat) : Int) = ((hdA (endC L) ((endC L).ends p).2 : Nat) : Int) := q
    omega
   have h1 := hc.hr p.next.toNat (by omega)
   have h2 := hc.hr p.els.toNat (by omega)
   rw [e1, e2] at q'
   rw [q', h2] at h1
   exact hne (by rw [e1, e2]; exact h1.symm)
theorem br_put (p q : PP) (hq : brP q = true → q.next ≠ q.els) (F : KF) : brP (putP F p q) = true → (putP F p q).next ≠ (putP F p q).els := by
 unfold putP
 split
 ·split
  ·intro h; rw [brP_go] at h; cases h
  ·exact hq
 ·exact hq
/-! ### No branch is known -/
theorem kn_take (p : PP) : brP (takeP false p) = true → knwP (takeP false p) = false := by
 unfold takeP
 split
 ·split
  ·rename_i x hx
   split
   ·intro h; rw [brP_go] at h; cases h
   ·rename_i h20
    intro _
    unfold knwP
    rw [hx]
    simpa using h20
  ·rename_i hx
   intro _
   unfold knwP
   rw [hx]
 ·rename_i hb
  intro h
  exact absurd h hb
theorem kn_pas (s : Cs) (p : PP) (h : brP p = true → knwP p = false) : brP (pasP s p) = true → knwP (pasP s p) = false := by
 unfold pasP
 split
 ·exact h
 ·split
  ·intro h; rw [brP_go] at h; cases h
  ·exact h
theorem kn_put (p q : PP) : brP (putP (lrnL (fun _ => none) (p.ins ++ q.ins)) p q) = true → (brP q = true → knwP q = false) → knwP (putP (lrnL (fun _ => none) (p.ins ++ q.ins)) p q) = false := by
 unfold putP
 have hk : ∀ o, lrnL (fun _ => none) (p.ins ++ q.ins) q.cond = o → o = none → knwP (catP p q) = false := fun o ho hn => by
  rw [lrn_last, hn] at ho
  unfold knwP
  show (match lastI (p.ins ++ q.ins) q.cond with | some x => x.op == 20 | none => false) = false
  cases hl : lastI (p.ins ++ q.ins) q.cond with
  | none => rfl
  | some x =>
   rw [hl] at ho
   dsimp only at ho ⊢
   split at ho
   ·cases ho
   ·rename_i h20
    simpa using h20
 split
 ·rename_i v hv
  split
  ·intro h; rw [brP_go] at h; cases h
  ·rename_i hb
   intro h
   exact absurd h hb
 ·rename_i hv
  intro _ _
  exact hk _ rfl hv
/-! ### A part that does nothing but go on goes round -/
def RdP (m : Nat) (p : PP) : Prop := p.e = false → p.cond < 0 → p.ins = [] → p.next.toNat = m
theorem hd_idem {L : List PP} (hw : WyL L) {z : Nat} (hz : z < L.length) : hdOf (endC L) (hdOf (endC L) z) = hdOf (endC L) z := by
 have hc := (endC_ci hw).hr z hz
 rw [hdOf_A, hdOf_A, hc]
theorem rch_head {L : List PP} (hw : WyL L) (h0 : 0 < L.length) {m : Nat} (h : Rch (pasL L) (fstL L) m) : m = hdOf (endC L) m := by
 induction h with
 | base => exact (hd_idem hw h0).symm
 | step r hp hm ih =>
  rename_i n m q
  unfold pasL at hp
  rw [List.getElem?_map] at hp
  cases hq : L[n]? with
  | none => rw [hq] at hp; cases hp
  | some p =>
   rw [hq] at hp
   injection hp with hp
   subst hp
   have hwp := hw p (List.mem_of_getElem? hq)
   unfold pasP at hm
   split at hm
   ·rename_i he
    unfold waysN at hm
    rw [he] at hm
    cases hm
   ·rename_i he
    have he' : p.e = false := by simpa using he
    have n1 := hwp.nx he'
    have e1 : hdA (endC L) ((endC L).ends p).1 = hdOf (endC L) p.next.toNat := rfl
    split at hm
    ·have hm' : m = hdA (endC L) ((endC L).ends p).1 := by
      unfold waysN at hm
      have hm2 : m ∈ (if p.e = true then [] else if (-1 : Int) < 0 then [((hdA (endC L) ((endC L).ends p).1 : Nat) : Int).toNat] else _) := hm
      rw [he', if_neg (by simp), if_pos (by omega), Int.toNat_natCast] at hm2
      exact List.mem_singleton.1 hm2
     rw [hm', e1]
     exact (hd_idem hw (by omega)).symm
    ·have hm' : m = hdA (endC L) ((endC L).ends p).1 ∨ (0 ≤ p.cond ∧ m = hdA (endC L) ((endC L).ends p).2) := by
      unfold waysN at hm
      have hm2 : m ∈ (if p.e = true then [] else if p.cond < 0 then [((hdA (endC L) ((endC L).ends p).1 : Nat) : Int).toNat] else [((hdA (endC L) ((endC L).ends p).1 : Nat) : Int).toNat, ((hdA (endC L) ((endC L).ends p).2 : Nat) : Int).toNat]) := hm
      rw [he', if_neg (by simp), Int.toNat_natCast, Int.toNat_natCast] at hm2
      split at hm2
      ·exact .inl (List.mem_singleton.1 hm2)
      ·rename_i hc
       rcases List.mem_cons.1 hm2 with e | e
       ·exact .inl e
       ·exact .inr ⟨by omega, List.mem_singleton.1 e⟩
     rcases hm' with hm' | ⟨hc, hm'⟩
     ·rw [hm', e1]
      exact (hd_idem hw (by omega)).symm
     ·have n2 := hwp.el he' hc
      have e2 : hdA (endC L) ((endC L).ends p).2 = hdOf (endC L) p.els.toNat := by
       unfold Cs.ends
       dsimp only
       rw [if_neg (by omega)]; rfl
      rw [hm', e2]
      exact (hd_idem hw (by omega)).symm
theorem rd_pas {L : List PP} (hw : WyL L) (h0 : 0 < L.length) {m : Nat} {r : PP} (h : Rch (pasL L) (fstL L) m) (hr : (pasL L)[m]? = some r) : RdP m r := fun he hc hi => by
 have hm := rch_head hw h0 h
 unfold pasL at hr
 rw [List.getElem?_map] at hr
 cases hq : L[m]? with
 | none => rw [hq] at hr; cases hr
 | some p =>
  rw [hq] at hr
  injection hr with hr
  obtain ⟨i1, -, -, -⟩ := pasP_ins (endC L) p
  rw [hr] at i1
  have hpe : p.e = false := by
   rw [← hr] at he
   unfold pasP at he
   split at he
   ·exact he
   ·rename_i q; simpa using q
  have hpi : p.ins = [] := by rw [← i1]; exact hi
  have hends : ((endC L).ends p).1 = ((endC L).ends p).2 := Classical.byContradiction fun hne => by
   have hcc : p.cond < 0 := by
    rw [← hr] at hc
    unfold pasP at hc
    rw [if_neg (by rw [hpe]; simp), if_neg hne] at hc
    exact hc
   exact hne (by unfold Cs.ends; simp [hcc])
  have htd := ((endC_ci hw).td m p hq hpe hpi).resolve_left id
  have hroot : ((endC L).ends p).1 = (endC L).rt m := htd.resolve_left fun q => q hends
  rw [← hr]
  unfold pasP
  rw [if_neg (by rw [hpe]; simp), if_pos hends]
  show ((hdA (endC L) ((endC L).ends p).1 : Nat) : Int).toNat = m
  rw [Int.toNat_natCast, hroot]
  exact hm.symm
theorem rd_joi {L : List PP} {first : Nat} (hw : WyL L) (hf : first < L.length) (h : ∀ m r, Rch L first m → L[m]? = some r → RdP m r) {m : Nat} {r : PP} (hm : Rch (joiL L first) first m) (hr : (joiL L first)[m]? = some r) : RdP m r := by
 have := joi_ind (first := first) (P := fun s => s.ps.length = L.length ∧ ∀ m r, wsN s.ws m ≠ 0 → s.ps[m]? = some r → RdP m r) (fun s k n p q hP hW hw ha hp hq => ?_) (s := ⟨L, cntL L first⟩) ⟨rfl, fun m r hl hr => ?_⟩ (WI_cnt hw hf) hw L.length
 ·obtain ⟨⟨j1, j2⟩, j3, j4⟩ := this
  have hfl : first < (joiTo ⟨L, cntL L first⟩ L.length).ps.length := by rw [j1]; exact hf
  exact j2 m r (rch_live j3 j4 hfl hm) hr
 ·obtain ⟨o1, o2, o3, o4⟩ := aloP_on ha hp
  obtain ⟨-, -, -, -, hkw, hn1⟩ := aloP_inv ha
  obtain ⟨p1, p2⟩ := put_ps (F := lrnL (fun _ => none) (p.ins ++ q.ins)) hp hq
  refine ⟨by rw [p1, List.length_set]; exact hP.1, fun m r hl hr => ?_⟩
  have hl2 : wsN s.ws m ≠ 0 := by
   have h1 := p2 m
   have h2 : wsN (s.ws.set n 0) m ≤ wsN s.ws m := by
    unfold wsN
    rw [List.getElem?_set]
    split
    ·split
     ·simp
     ·exact Nat.zero_le _
    ·exact Nat.le_refl _
   omega
  rw [p1, List.getElem?_set] at hr
  split at hr
  ·rename_i e
   subst e
   split at hr
   ·injection hr with hr
    intro he hc hi
    rw [← hr, putP_ins] at hi
    have hpi : p.ins = [] := (List.append_eq_nil_iff.1 hi).1
    have := hP.2 k p hkw hp o1 o2 hpi
    omega
   ·cases hr
  ·exact hP.2 m r hl2 hr
 ·have hml : m < L.length := (List.getElem?_eq_some_iff.1 hr).1
  exact h m r (rchB_iff.1 ((cnt_rch hw hf hml).1 hl)) hr
/-! ### In order -/
theorem ord_nodup (L : List PP) (first : Nat) : (ordL L first).Nodup := by
 unfold ordL ordTo
 rw [List.nodup_cons]
 refine ⟨fun h => ?_, List.nodup_range.filter _⟩
 have := (List.mem_filter.1 h).2
 simp at this
theorem num_ord {L : List PP} {first i j : Nat} (h : (ordL L first)[i]? = some j) : numL (ordL L first) j = i := by
 have hm := List.mem_of_getElem? h
 unfold numL
 rw [if_pos hm]
 obtain ⟨hi, e⟩ := List.getElem?_eq_some_iff.1 h
 rw [← e]
 exact (ord_nodup L first).idxOf_getElem i hi
theorem num_inj {L : List PP} {first x y : Nat} (hx : x ∈ ordL L first) (hy : y ∈ ordL L first) (h : numL (ordL L first) x = numL (ordL L first) y) : x = y := by
 have h1 := idx_get hx
 have h2 := idx_get hy
 rw [h, h2] at h1
 exact (Option.some.inj h1).symm
theorem ren_ways {l : List Nat} {p : PP} {m : Nat} (h : m ∈ waysN p) : numL l m ∈ waysN (renP l p) := by
 unfold waysN at h
 split at h
 ·cases h
 ·rename_i he
  have he' : p.e = false := by simpa using he
  split at h
  ·rename_i hc
   have e := List.mem_singleton.1 h
   unfold renP
   rw [if_neg he, if_pos hc]
   have : waysN (goP p (numL l p.next.toNat : Int)) = [((numL l p.next.toNat : Nat) : Int).toNat] := by
    unfold waysN
    show (if p.e = true then [] else if (-1 : Int) < 0 then _ else _) = _
    rw [if_neg he, if_pos (by omega)]; rfl
   rw [this, Int.toNat_natCast, e]
   exact List.mem_singleton.2 rfl
  ·rename_i hc
   unfold renP
   rw [if_neg he, if_neg hc]
   have : waysN { p with next := (numL l p.next.toNat : Int), els := (numL l p.els.toNat : Int) } = [((numL l p.next.toNat : Nat) : Int).toNat, ((numL l p.els.toNat : Nat) : Int).toNat] := by
    unfold waysN
    show (if p.e = true then [] else if p.cond < 0 then _ else _) = _
    rw [if_neg he, if_neg hc]
   rw [this, Int.toNat_natCast, Int.toNat_natCast]
   rcases List.mem_cons.1 h with e | e
   ·rw [e]; exact List.mem_cons_self ..
   ·rw [List.mem_singleton.1 e]; exact List.mem_cons_of_mem _ (List.mem_singleton.2 rfl)
theorem rch_ren {M : List PP} {first m : Nat} (hw : WyL M) (hf : first < M.length) (h : Rch M first m) : Rch (inoP M first) 0 (numL (ordL M first) m) := by
 induction h with
 | base => rw [num_first]; exact .base
 | step r hp hm ih => exact ih.step (ino_get hw hf r hp) (ren_ways hm)
theorem flo_does {L : List PP} (hw : WyL L) (h0 : 0 < L.length) : DoesP (floL false L) ∧ 0 < (floL false L).length ∧ (floL false L).length ≤ L.length := by
 obtain ⟨M, first, ws, e, hf, hj, e2, e3, w2, l2, w1, l1⟩ := flo_open (fault := false) hw h0
 have hfM : first < M.length := by rw [hj.len]; omega
 rw [e]
 have hbr : ∀ p ∈ M, brP p = true → p.next ≠ p.els := by
  rw [e2]
  exact joi_all w2 (by omega) (fun p q _ hq => br_put p q hq _) (br_pas w1)
 have hkn : ∀ p ∈ M, brP p = true → knwP p = false := by
  rw [e2]
  refine joi_all w2 (by omega) (fun p q _ hq h => kn_put p q h hq) (fun p hp => ?_)
  obtain ⟨p0, hp0, rfl⟩ := List.mem_map.1 hp
  obtain ⟨p1, hp1, rfl⟩ := List.mem_map.1 (show p0 ∈ L.map (takeP false) from hp0)
  exact kn_pas _ _ (kn_take p1)
 have hrd : ∀ m r, Rch M first m → M[m]? = some r → RdP m r := by
  rw [e2]
  intro m r hm hr
  refine rd_joi w2 (by omega) (fun m r hm hr => ?_) hm hr
  rw [e3] at hm
  exact rd_pas w1 (by omega) hm hr
 have hpos : 0 < (inoP M first).length := by
  have := num_lt hj.wy hfM (Rch.base (L := M) (first := first))
  omega
 refine ⟨⟨ino_wy hj.wy hfM, fun i hi => ?_, fun r hr hb => ?_, fun r hr hb => ?_, fun i r hr he hc hn => ?_⟩, hpos, ?_⟩
 ·obtain ⟨r, hr⟩ := get_of_lt hi
  obtain ⟨j, q, ho, hj2, hq, -⟩ := ino_at hfM hr
  have := rch_ren hj.wy hfM hj2
  rw [num_ord ho] at this
  exact this
 ·obtain ⟨i, hi⟩ := List.getElem?_of_mem hr
  obtain ⟨j, q, ho, hj2, hq, rfl⟩ := ino_at hfM hi
  unfold renP at hb ⊢
  split at hb
  ·rename_i he
   have := (brP_on hb).1
   have he2 : q.e = false := this
   rw [he] at he2; cases he2
  ·rename_i he
   have he' : q.e = false := by simpa using he
   rw [if_neg he]
   split at hb
   ·rw [brP_go] at hb; cases hb
   ·rename_i hc
    rw [if_neg hc]
    have hqb : brP q = true := hb
    have hne := hbr q (List.mem_of_getElem? hq) hqb
    have hwq := hj.wy q (List.mem_of_getElem? hq)
    have n1 := hwq.nx he'
    have n2 := hwq.el he' (by omega)
    have m1 : q.next.toNat ∈ waysN q := next_ways he'
    have m2 : q.els.toNat ∈ waysN q := by
     unfold waysN
     rw [he', if_neg (by simp), if_neg hc]
     exact List.mem_cons_of_mem _ (List.mem_singleton.2 rfl)
    intro hq2
    have hq3 : numL (ordL M first) q.next.toNat = numL (ordL M first) q.els.toNat := by
     have : ((numL (ordL M first) q.next.toNat : Nat) : Int) = ((numL (ordL M first) q.els.toNat : Nat) : Int) := hq2
     omega
    have r1 := hj2.step hq m1
    have r2 := hj2.step hq m2
    have := num_inj (mem_ord (r1.lt hj.wy hfM) r1) (mem_ord (r2.lt hj.wy hfM) r2) hq3
    exact hne (by omega)
 ·obtain ⟨i, hi⟩ := List.getElem?_of_mem hr
  obtain ⟨j, q, ho, hj2, hq, rfl⟩ := ino_at hfM hi
  have hk := hkn q (List.mem_of_getElem? hq)
  unfold renP at hb ⊢
  split at hb
  ·rename_i he
   have he2 : q.e = false := (brP_on hb).1
   rw [he] at he2; cases he2
  ·rename_i he
   rw [if_neg he]
   split at hb
   ·rw [brP_go] at hb; cases hb
   ·rename_i hc
    rw [if_neg hc]
    exact hk hb
 ·obtain ⟨j, q, ho, hj2, hq, rfl⟩ := ino_at hfM hr
  obtain ⟨i1, -, -, -⟩ := renP_has (ordL M first) q
  have hqi : q.ins = [] := by rw [← i1]; exact hn
  unfold renP at he hc ⊢
  split at he
  ·rename_i h; have he2 : q.e = false := he; rw [h] at he2; cases he2
  ·rename_i hqe
   rw [if_neg hqe] at hc ⊢
   have he' : q.e = false := by simpa using hqe
   split at hc
   ·rename_i hqc
    rw [if_pos hqc]
    have := hrd j q hj2 hq he' hqc hqi
    show ((numL (ordL M first) q.next.toNat : Nat) : Int) = _
    rw [this, num_ord ho]
   ·rename_i hqc
    have : q.cond < 0 := hc
    omega
 ·unfold inoP
  rw [List.length_map]
  have := ordL_sum hfM (fun _ => 1) (fun _ => 1) (fun _ _ _ => Nat.le_refl _)
  have e1 : ∀ l : List Nat, (l.map fun _ => 1).sum = l.length := fun l => by induction l with
   | nil => rfl
   | cons x l ih => simp [ih]; omega
  rw [e1, e1, List.length_range, hj.len] at this
  omega
/-- It hangs on no address. -/
theorem DoesP.z {G : List PP} (h : DoesP (G.map zP)) : DoesP G := by
 have mem : ∀ p ∈ G, zP p ∈ G.map zP := fun p hp => List.mem_map.2 ⟨p, hp, rfl⟩
 refine ⟨h.wy.z, fun j hj => ?_, fun p hp hb => h.br (zP p) (mem p hp) hb, fun p hp hb => ?_, fun j p hj he hc hi => ?_⟩
 ·exact rch_z.1 (h.rch j (by rw [List.length_map]; exact hj))
 ·have := h.kn (zP p) (mem p hp) hb
  unfold knwP at this ⊢
  have e : lastI (zP p).ins (zP p).cond = (lastI p.ins p.cond).map zI := lastI_z p.ins p.cond
  rw [e] at this
  cases hl : lastI p.ins p.cond with
  | none => rfl
  | some x => rw [hl] at this; exact this
 ·exact h.rd j (zP p) (by rw [List.getElem?_map, hj]; rfl) he hc (by show p.ins.map zI = []; rw [hi]; rfl)
end Go.Proofs.Ytphknepblchkdaa.Fl

namespace Go.Proofs.Ytphknepblchkdaa.Fl
open Go.RowKit
open Go.Proofs.Ytphknepblchkdaa.In (zI zP zF zI_zI zP_zP cntS cntS_fnN len_cnt)
set_option linter.unusedVariables false

theorem last_split (l : List PI) (r : Int) (m : Nat) (h : ∀ j x, m ≤ j → l[j]? = some x → wrB r x = false) : lastI l r = lastI (l.take m) r := by
 unfold lastI
 conv => lhs; rw [← List.take_append_drop m l, List.reverse_append, List.find?_append]
 have : (l.drop m).reverse.find? (fun x => wrP x.op && x.dst == r) = none := by
  rw [List.find?_eq_none]
  intro x hx
  obtain ⟨j, hj⟩ := List.getElem?_of_mem (List.mem_reverse.1 hx)
  rw [List.getElem?_drop] at hj
  have := h (m + j) x (by omega) hj
  unfold wrB at this
  rw [this]; simp
 rw [this]
 rfl
theorem last_hit {l : List PI} {r : Int} {m : Nat} {x : PI} (hx : l[m]? = some x) (hw : wrB r x = true) (h : ∀ j x, m + 1 ≤ j → l[j]? = some x → wrB r x = false) : lastI l r = some x := by
 rw [last_split l r (m + 1) h]
 unfold lastI
 rw [List.take_add_one, hx]
 show List.find? _ (l.take m ++ [x]).reverse = _
 rw [List.reverse_append, List.reverse_singleton, List.singleton_append, List.find?_cons]
 unfold wrB at hw
 rw [hw]
theorem last_miss {l : List PI} {r : Int} (h : ∀ (j : Nat) x, 0 ≤ j → l[j]? = some x → wrB r x = false) : lastI l r = none := by
 rw [last_split l r 0 h]; rfl
set_option maxRecDepth 100000 in
set_option maxHeartbeats 4000000 in
theorem known_any (w : World) (p : PP) (hok : p.ok w) : Calls Try.prog 15 #[.agg #[.slice p.ia p.ins.length p.ic, .bool p.e, .int .i64 p.cond, .int .i64 p.next, .int .i64 p.els]] w fun e w' => e = .returned (.bool (knwP p)) ∧ Q w w' := by
 obtain ⟨B, hB⟩ : ∃ B, w.alloc (.cells #[.slice p.ia p.ins.length p.ic, .bool p.e, .int .i64 p.cond, .int .i64 p.next, .int .i64 p.els] 47) = B := ⟨_, rfl⟩
 have qB : Q w B := by rw [← hB]; exact (Q.refl w).alloc _
 have bx : B.heap[w.heap.size]? = some (.cells #[.slice p.ia p.ins.length p.ic, .bool p.e, .int .i64 p.cond, .int .i64 p.next, .int .i64 p.els] 47 (0, 0)) := by rw [← hB]; exact heap_alloc_new w _
 have HC : Hid (∀ y, Q B y → y.cell? ⟨w.heap.size, 0, none⟩ = some (.slice p.ia p.ins.length p.ic) ∧ y.cell? ⟨w.heap.size, 2, none⟩ = some (.int .i64 p.cond)) := fun y hy => ⟨cell_keep hy ((cell_of_block bx 0).trans rfl), cell_keep hy ((cell_of_block bx 2).trans rfl)⟩
 have HI : Hid (∀ y, Q B y → Insts y p.ia p.ins) := fun y hy => ((hok.keep qB).keep hy).ins
 have hl : p.ins.length ≤ 9223372036854775807 := hok.sok.len
 have HQ := hideIt qB
 have HBB := hideIt hB
 have CW := hideIt (fun o X => writes_any o X)
 clear hok qB bx hB
 obtain ⟨c0, c2⟩ := HC.out B (Q.refl B)
 go_enter Try.func15, Try.ntmps15
 go_upto_region 1 with (fail)
 rw [HBB.out]
 go_wp2_with (fail)
 clear c0 c2
 go_loopw [3] (fun i wr => ∃ (k : Nat), i = .int .i64 ((k : Int) - 1) ∧ k ≤ p.ins.length ∧ Hid (∀ j x, k ≤ j → p.ins[j]? = some x → wrB p.cond x = false) ∧ Hid (Q B wr)) (fun i _ => (intOf i + 1).toNat)
 case atStart => exact ⟨p.ins.length, by go_num, Nat.le_refl _, fun j x h1 h2 => by have := (List.getElem?_eq_some_iff.1 h2).1; omega, hideIt (Q.refl B)⟩
 case round =>
  obtain ⟨k, rfl, hk, HA, HQ1⟩ := hrel
  generalize wr = y at *
  obtain ⟨c0, c2⟩ := HC.out y HQ1.out
  cases k with
  | zero =>
   have hz : ((0 : Nat) : Int) - 1 = -1 := rfl
   rw [hz]
   go_wp2_with (fail)
   go_ret
   refine ⟨?_, HQ.out.trans HQ1.out⟩
   unfold knwP
   rw [last_miss HA.out]
   rfl
  | succ m =>
   obtain ⟨x, hx⟩ := get_of_lt (l := p.ins) (k := m) (by omega)
   obtain ⟨ib, io, ea, hat, hxo⟩ := HI.out y HQ1.out m x hx
   rw [ea] at c0
   have hm1 : ((m + 1 : Nat) : Int) - 1 = (m : Int) := by omega
   rw [hm1]
   have hml : (m : Int) < (p.ins.length : Int) := by omega
   have hm0 : (0 : Int) ≤ (m : Int) := by omega
   obtain ⟨k0, -, k2, -, -, -, -⟩ := hat.seven
   have CW1 := hideIt (CW.out x.op)
   have HX := hideIt hx
   clear hat hxo ea hx
   cases hw : wrP x.op with
   | false =>
    rw [hw] at CW1
    have e1 : wrB p.cond x = false := by unfold wrB; rw [hw]; rfl
    have E1 := hideIt e1
    clear hw e1
    go_upto_region 4 with (fail)
    go_quiet (first | (go_at_call 32; exact Calls.quiet_of_same (CW1.out _)))
    go_wp2_with (fail)
    go_roundw
    case rel => exact ⟨m, by go_num, by omega, fun j x2 h1 h2 => by
     by_cases e : j = m
     ·subst e; rw [HX.out] at h2; injection h2 with h2; subst h2; exact E1.out
     ·exact HA.out j x2 (by omega) h2, hideIt (Q.drewN HQ1.out _)⟩
    case measure => simp [intOf] <;> omega
   | true =>
    rw [hw] at CW1
    by_cases hd : x.dst = p.cond
    ·have e1 : wrB p.cond x = true := by unfold wrB; rw [hw, hd]; simp
     have E1 := hideIt e1
     have e2 : (x.dst == p.cond) = true := by simp [hd]
     clear hw e1 hd
     go_upto_region 4 with (fail)
     go_quiet (first | (go_at_call 32; exact Calls.quiet_of_same (CW1.out _)))
     go_wp2_with (fail)
     go_ret
     refine ⟨?_, HQ.out.trans (Q.drewN HQ1.out _)⟩
     unfold knwP
     rw [last_hit HX.out E1.out HA.out]
     rfl
    ·have e1 : wrB p.cond x = false := by unfold wrB; rw [hw]; simpa using hd
     have E1 := hideIt e1
     have e2 : (x.dst == p.cond) = false := by simpa using hd
     clear hw e1 hd
     go_upto_region 4 with (fail)
     go_quiet (first | (go_at_call 32; exact Calls.quiet_of_same (CW1.out _)))
     go_wp2_with (fail)
     go_roundw
     case rel => exact ⟨m, by go_num, by omega, fun j x2 h1 h2 => by
      by_cases e : j = m
      ·subst e; rw [HX.out] at h2; injection h2 with h2; subst h2; exact E1.out
      ·exact HA.out j x2 (by omega) h2, hideIt (Q.drewN HQ1.out _)⟩
     case measure => simp [intOf] <;> omega
end Go.Proofs.Ytphknepblchkdaa.Fl

namespace Go.Proofs.Ytphknepblchkdaa.Fl
open Go.RowKit Go.Deep
open Go.Proofs.Ytphknepblchkdaa.In (zI zP zF zI_zI zP_zP cntS cntS_fnN len_cnt)
set_option linter.unusedVariables false

set_option maxRecDepth 100000 in
set_option maxHeartbeats 4000000 in
theorem round_any (w : World) (f : PF) (hok : f.ok w) (j : Nat) (p : PP) (hj : f.parts[j]? = some p) (he : p.e = false) (hc : p.cond < 0) (hi : p.ins = []) (hn : p.next = (j : Int)) (hN : f.parts.length ≤ 1000) : Calls Try.prog 16 #[.agg #[.int .i64 f.params, .int .i64 f.regs, .slice f.sa f.slots.length f.sc, .slice f.pa f.parts.length f.pc], .int .i64 (j : Int)] w fun e w' => e = .returned (.bool true) ∧ Q w w' := by
 obtain ⟨B, hB⟩ : ∃ B, w.alloc (.cells #[.int .i64 f.params, .int .i64 f.regs, .slice f.sa f.slots.length f.sc, .slice f.pa f.parts.length f.pc] 44) = B := ⟨_, rfl⟩
 have qB : Q w B := by rw [← hB]; exact (Q.refl w).alloc _
 have bx : B.heap[w.heap.size]? = some (.cells #[.int .i64 f.params, .int .i64 f.regs, .slice f.sa f.slots.length f.sc, .slice f.pa f.parts.length f.pc] 44 (0, 0)) := by rw [← hB]; exact heap_alloc_new w _
 obtain ⟨pb, po, epa, hat, -⟩ := hok.parts j p hj
 have HC : Hid (∀ y, Q B y → y.cell? ⟨w.heap.size, 3, none⟩ = some (.slice (some ⟨pb, po, none⟩) f.parts.length f.pc)) := fun y hy => by rw [← epa]; exact cell_keep hy ((cell_of_block bx 3).trans rfl)
 have HP : Hid (∀ y, Q B y → y.cell? ⟨pb, po + j * 5, none⟩ = some (.slice p.ia 0 p.ic) ∧ y.cell? ⟨pb, po + j * 5 + 1, none⟩ = some (.bool false) ∧ y.cell? ⟨pb, po + j * 5 + 2, none⟩ = some (.int .i64 p.cond) ∧ y.cell? ⟨pb, po + j * 5 + 3, none⟩ = some (.int .i64 (j : Int)) ∧ y.cell? ⟨pb, po + j * 5 + 4, none⟩ = some (.int .i64 p.els)) := fun y hy => by
  have := (hat.keep (qB.trans hy)).five
  rw [he, hi, hn] at this
  exact this
 have hjl : j < f.parts.length := (List.getElem?_eq_some_iff.1 hj).1
 have hjl2 : (j : Int) < (f.parts.length : Int) := by omega
 have hj0 : (0 : Int) ≤ (j : Int) := by omega
 have hcd : decide ((0 : Int) ≤ p.cond) = false := decide_eq_false (by omega)
 have HQ := hideIt qB
 have HBB := hideIt hB
 generalize hL : f.parts.length = N at *
 clear hok qB bx hB hat epa hj he hc hi hn hjl
 have c3 := HC.out B (Q.refl B)
 go_enter Try.func16, Try.ntmps16
 go_upto_region 1 with (fail)
 rw [HBB.out]
 go_wp2_with (fail)
 clear c3
 go_loopw [1, 5] (fun av nv wr => av = .int .i64 (j : Int) ∧ ∃ (k : Nat), nv = .int .i64 (k : Int) ∧ k ≤ N + 1 ∧ Hid (Q B wr)) (fun _ nv _ => N + 1 - (intOf nv).toNat)
 case atStart => exact ⟨rfl, 0, rfl, by omega, hideIt (Q.refl B)⟩
 case round =>
  obtain ⟨rfl, k, rfl, hk, HQ1⟩ := hrel
  generalize wr = y at *
  have c3 := HC.out y HQ1.out
  by_cases hlt : k < N + 1
  ·have hkl : (k : Int) ≤ (N : Int) := by omega
   obtain ⟨p0, p1, p2, p3, p4⟩ := HP.out y HQ1.out
   go_wp2_with (fail)
   go_roundw
   case rel => exact ⟨rfl, k + 1, by go_num, hlt, hideIt (HQ1.out.alloc _)⟩
   case measure => simp [intOf] <;> omega
  ·have hkl : ¬ (k : Int) ≤ (N : Int) := by omega
   go_wp2_with (fail)
   go_ret
   exact ⟨rfl, HQ.out.trans HQ1.out⟩

/-! ### reached -/
def Clo (L : List PP) (b : List Bool) (k : Nat) : Prop := ∀ i p, i < k → b[i]? = some true → L[i]? = some p → ∀ y ∈ waysN p, b[y]? = some true
theorem clo_all {L : List PP} {b : List Bool} (hl : b.length = L.length) (hc : Clo L b L.length) (h0 : b[0]? = some true) (hr : ∀ j, j < L.length → Rch L 0 j) : b = List.replicate L.length true := by
 have key : ∀ j, Rch L 0 j → b[j]? = some true := fun j h => by
  induction h with
  | base => exact h0
  | step r hp hm ih => exact hc _ _ (List.getElem?_eq_some_iff.1 hp).1 ih hp _ hm
 refine List.ext_getElem? fun j => ?_
 by_cases hj : j < L.length
 ·rw [key j (hr j hj), List.getElem?_replicate, if_pos hj]
 ·rw [List.getElem?_eq_none (by omega), List.getElem?_eq_none (by simpa using hj)]
theorem clo_next {L : List PP} {b : List Bool} {k : Nat} (h : Clo L b k) (hk : ∀ p, b[k]? = some true → L[k]? = some p → ∀ y ∈ waysN p, b[y]? = some true) : Clo L b (k + 1) := fun i p hi hb hp => by
 by_cases e : i = k
 ·subst e; exact hk p hb hp
 ·exact h i p (by omega) hb hp
theorem cf_set {b : List Bool} {n : Nat} (h : b[n]? = some false) : (b.set n true).count false + 1 = b.count false := by
 induction b generalizing n with
 | nil => cases h
 | cons x b ih =>
  cases n with
  | zero =>
   injection h with h
   subst h
   simp
  | succ n =>
   have := ih (n := n) (by simpa using h)
   rw [List.set_cons_succ, List.count_cons, List.count_cons]
   omega
/-- Those that are told so far. -/
structure RM (B : World) (N : Nat) (b : List Bool) (z : World) : Prop where
 q : Q B z
 blk : z.heap[B.heap.size]? = some (.cells (b.map Value.bool).toArray 4 (0, 0))
 len : b.length = N
 one : b[0]? = some true
theorem RM.keep {B z z' : World} {N : Nat} {b : List Bool} (h : RM B N b z) (q : Q z z') : RM B N b z' := ⟨h.q.trans q, heap_keep q h.blk, h.len, h.one⟩
theorem RM.set {B z : World} {N : Nat} {b : List Bool} (h : RM B N b z) (n : Nat) : RM B N (b.set n true) (z.setCell ⟨B.heap.size, n, none⟩ (.bool true)) := by
 refine ⟨h.q.set (p := ⟨B.heap.size, n, none⟩) (Nat.le_refl _) _, ?_, by rw [List.length_set]; exact h.len, ?_⟩
 ·rw [block_setCell h.blk]
  congr 2
  simp [List.map_set]
 ·rw [List.getElem?_set]
  split
  ·rename_i e
   have h0 := (List.getElem?_eq_some_iff.1 h.one).1
   rw [if_pos (by omega)]
  ·exact h.one
theorem RM.cell {B z : World} {N : Nat} {b : List Bool} (h : RM B N b z) {n : Nat} {v : Bool} (hn : b[n]? = some v) : z.cell? ⟨B.heap.size, n, none⟩ = some (.bool v) ∧ z.frozen? ⟨B.heap.size, n, none⟩ = false := by
 refine ⟨?_, free_of_block h.blk n⟩
 rw [cell_of_block h.blk n]
 simp [hn]
set_option maxRecDepth 100000 in
set_option maxHeartbeats 8000000 in
theorem reached_law (w : World) (f : PF) (hok : f.ok w) (hw : WyL f.parts) (h0 : 0 < f.parts.length) (hN : f.parts.length ≤ 1000) (hr : ∀ j, j < f.parts.length → Rch f.parts 0 j) : Calls Try.prog 14 #[.agg #[.int .i64 f.params, .int .i64 f.regs, .slice f.sa f.slots.length f.sc, .slice f.pa f.parts.length f.pc]] w fun e w' => ∃ I, e = .returned (.slice (some ⟨I, 0, none⟩) f.parts.length f.parts.length) ∧ w'.heap[I]? = some (.cells (Array.replicate f.parts.length (Value.bool true)) 4 (0, 0)) ∧ Q w w' := by
 obtain ⟨B, hB⟩ : ∃ B, w.alloc (.cells #[.int .i64 f.params, .int .i64 f.regs, .slice f.sa f.slots.length f.sc, .slice f.pa f.parts.length f.pc] 44) = B := ⟨_, rfl⟩
 have qB : Q w B := by rw [← hB]; exact (Q.refl w).alloc _
 have bx : B.heap[w.heap.size]? = some (.cells #[.int .i64 f.params, .int .i64 f.regs, .slice f.sa f.slots.length f.sc, .slice f.pa f.parts.length f.pc] 44 (0, 0)) := by rw [← hB]; exact heap_alloc_new w _
 obtain ⟨p00, hp00⟩ := get_of_lt h0
 obtain ⟨pb, po, epa, -, -⟩ := hok.parts 0 p00 hp00
 have HC : Hid (∀ y, Q B y → y.cell? ⟨w.heap.size, 3, none⟩ = some (.slice (some ⟨pb, po, none⟩) f.parts.length f.pc)) := fun y hy => by rw [← epa]; exact cell_keep hy ((cell_of_block bx 3).trans rfl)
 have HP : Hid (∀ (j : Nat) (p : PP), f.parts[j]? = some p → ∀ y, Q B y → y.cell? ⟨pb, po + j * 5, none⟩ = some (.slice p.ia p.ins.length p.ic) ∧ y.cell? ⟨pb, po + j * 5 + 1, none⟩ = some (.bool p.e) ∧ y.cell? ⟨pb, po + j * 5 + 2, none⟩ = some (.int .i64 p.cond) ∧ y.cell? ⟨pb, po + j * 5 + 3, none⟩ = some (.int .i64 p.next) ∧ y.cell? ⟨pb, po + j * 5 + 4, none⟩ = some (.int .i64 p.els)) := fun j p hj y hy => by
  obtain ⟨pb2, po2, e2, hat, -⟩ := hok.parts j p hj
  rw [epa] at e2
  injection e2 with e2
  injection e2 with e2 e3
  subst e2; subst e3
  exact (hat.keep (qB.trans hy)).five
 have HW := hideIt hw
 have HR := hideIt (fun (b : List Bool) (h1 : b.length = f.parts.length) (h2 : Clo f.parts b f.parts.length) (h3 : b[0]? = some true) => clo_all h1 h2 h3 hr)
 have HQ := hideIt qB
 have HBB := hideIt hB
 have hmb := fun W => make_bool f.parts.length (by omega) W
 generalize hL : f.parts.length = N at *
 have hN0 : (0 : Int) < (N : Int) := by omega
 clear hok qB bx hB epa hp00 hw hr
 have c3 := HC.out B (Q.refl B)
 go_enter Try.func14, Try.ntmps14
 go_upto_region 1 with (fail)
 rw [HBB.out]
 go_upto_region 2 with (fail)
 have M0 : Hid ((B.alloc (.cells (Array.replicate N (.bool false)) 4)).heap[B.heap.size]? = some (.cells ((List.replicate N false).map Value.bool).toArray 4 (0, 0))) := by
  have := heap_alloc_new B (.cells (Array.replicate N (.bool false)) 4)
  rw [List.map_replicate, List.toArray_replicate]
  exact this
 have M1 : Hid (RM B N ((List.replicate N false).set 0 true) (B.alloc (.cells ((Array.replicate N (.bool false)).setIfInBounds 0 (.bool true)) 4))) := by
  refine ⟨(Q.refl B).alloc _, ?_, by simp, ?_⟩
  ·rw [heap_alloc_new B _]
   congr 3
   rw [List.map_set, List.map_replicate, ← List.setIfInBounds_toArray, List.toArray_replicate]
  ·rw [List.getElem?_set_self (by simp; omega)]
 have c0 : (B.alloc (.cells (Array.replicate N (.bool false)) 4)).cell? ⟨B.heap.size, 0, none⟩ = some (.bool false) := by
  rw [cell_of_block M0.out 0, List.getElem?_toArray, List.getElem?_map, List.getElem?_replicate, if_pos (by omega)]
  rfl
 have fz := free_of_block M0.out 0
 clear hmb c3
 go_upto_region 3 with (fail)
 clear c0 fz M0
 generalize B.alloc (.cells ((Array.replicate N (.bool false)).setIfInBounds 0 (.bool true)) 4) = z0 at M1 ⊢
 have hcl : ((List.replicate N false).set 0 true).count false ≤ N := by
  have := List.count_le_length (a := false) (l := (List.replicate N false).set 0 true)
  simpa using this
 generalize (List.replicate N false).set 0 true = b0 at M1 hcl
 go_wp2_with (fail)
 go_loopg [4, 5] (N + 2) (fun kx mv iv z => ∃ (more : Bool) (b : List Bool), mv = .bool more ∧ b.count false + (if more then 1 else 0) < kx ∧ kx ≤ N + 2 ∧ Hid (RM B N b z) ∧ Hid (more = false → Clo f.parts b N))
 case atStart => exact ⟨true, b0, rfl, by simp; omega, by omega, M1, hideIt (fun q => by cases q)⟩
 case round =>
  obtain ⟨more, b, rfl, hmu, hkx, M2, HCL⟩ := hrel
  generalize wr = z1 at *
  clear M1
  cases more with
  | false =>
   go_wp2_with (fail)
   go_ret
   have hb := HR.out b M2.out.len (HCL.out (by first | exact rfl | exact trivial)) M2.out.one
   have hbk := M2.out.blk
   rw [hb, List.map_replicate, List.toArray_replicate] at hbk
   exact ⟨_, rfl, hbk, HQ.out.trans M2.out.q⟩
  | true =>
   simp only [if_true] at hmu
   clear HCL
   go_wp2_with (fail)
   go_loopw [4, 5] (fun mv iv z => ∃ (more : Bool) (b2 : List Bool) (i : Nat), mv = .bool more ∧ iv = .int .i64 (i : Int) ∧ i ≤ N ∧ b2.count false + (if more then 1 else 0) ≤ b.count false ∧ Hid (RM B N b2 z) ∧ Hid (more = false → Clo f.parts b2 i)) (fun _ iv _ => N - (intOf iv).toNat)
   case atStart => exact ⟨false, b, 0, rfl, rfl, Nat.zero_le _, by simp, M2, hideIt (fun _ i p h => absurd h (Nat.not_lt_zero _))⟩
   case round =>
    obtain ⟨more, b2, i, rfl, rfl, hi, hcb, M3, HCL⟩ := hrel
    generalize wr = z2 at *
    clear M2
    have c3 := HC.out z2 M3.out.q
    by_cases hlt : i < N
    ·obtain ⟨p, hp⟩ := get_of_lt (l := f.parts) (k := i) (by omega)
     obtain ⟨bi, hbi⟩ := get_of_lt (l := b2) (k := i) (by rw [M3.out.len]; exact hlt)
     have hil : (i : Int) < (N : Int) := by omega
     obtain ⟨p0, p1, p2, p3, p4⟩ := HP.out i p hp z2 M3.out.q
     obtain ⟨i0, -⟩ := M3.out.cell hbi
     go_upto_region 10 with (fail)
     have X3 : Hid (RM B N b2 (z2.alloc (.cells #[.slice p.ia p.ins.length p.ic, .bool p.e, .int .i64 p.cond, .int .i64 p.next, .int .i64 p.els] 47)) ∧ (z2.alloc (.cells #[.slice p.ia p.ins.length p.ic, .bool p.e, .int .i64 p.cond, .int .i64 p.next, .int .i64 p.els] 47)).heap[z2.heap.size]? = some (.cells #[.slice p.ia p.ins.length p.ic, .bool p.e, .int .i64 p.cond, .int .i64 p.next, .int .i64 p.els] 47 (0, 0))) := ⟨M3.out.keep ((Q.refl z2).alloc _), heap_alloc_new z2 _⟩
     have hbz : Hid (B.heap.size < z2.heap.size) := (Array.getElem?_eq_some_iff.1 M3.out.blk).1
     generalize z2.alloc (.cells #[.slice p.ia p.ins.length p.ic, .bool p.e, .int .i64 p.cond, .int .i64 p.next, .int .i64 p.els] 47) = z3 at X3 ⊢
     generalize z2.heap.size = pb2 at X3 hbz ⊢
     have FX : Hid (∀ (z : World) (b : List Bool), (RM B N b z ∧ z.heap[pb2]? = some (.cells #[.slice p.ia p.ins.length p.ic, .bool p.e, .int .i64 p.cond, .int .i64 p.next, .int .i64 p.els] 47 (0, 0))) → (z.cell? ⟨pb2, 1, none⟩ = some (.bool p.e) ∧ z.cell? ⟨pb2, 2, none⟩ = some (.int .i64 p.cond) ∧ z.cell? ⟨pb2, 3, none⟩ = some (.int .i64 p.next) ∧ z.cell? ⟨pb2, 4, none⟩ = some (.int .i64 p.els)) ∧ ∀ (n : Nat) (v : Bool), b[n]? = some v → z.cell? ⟨B.heap.size, n, none⟩ = some (.bool v) ∧ z.frozen? ⟨B.heap.size, n, none⟩ = false) := fun z b h => ⟨⟨(cell_of_block h.2 1).trans rfl, (cell_of_block h.2 2).trans rfl, (cell_of_block h.2 3).trans rfl, (cell_of_block h.2 4).trans rfl⟩, fun n v hn => h.1.cell hn⟩
     have SX : Hid (∀ (z : World) (b : List Bool) (n : Nat), (RM B N b z ∧ z.heap[pb2]? = some (.cells #[.slice p.ia p.ins.length p.ic, .bool p.e, .int .i64 p.cond, .int .i64 p.next, .int .i64 p.els] 47 (0, 0))) → (RM B N (b.set n true) (z.setCell ⟨B.heap.size, n, none⟩ (.bool true)) ∧ (z.setCell ⟨B.heap.size, n, none⟩ (.bool true)).heap[pb2]? = some (.cells #[.slice p.ia p.ins.length p.ic, .bool p.e, .int .i64 p.cond, .int .i64 p.next, .int .i64 p.els] 47 (0, 0)))) := fun z b n h => ⟨h.1.set n, by rw [Below.heap_setCell _ _ _ _ (by have := hbz.out; show pb2 ≠ B.heap.size; omega)]; exact h.2⟩
     clear p0 p1 p2 p3 p4 c3 i0 M3
     have hwp := HW.out p (List.mem_of_getElem? hp)
     rw [hL] at hwp
     have HPI := hideIt hp
     have HBI := hideIt hbi
     clear hp hbi
     cases bi with
     | false =>
      obtain ⟨⟨q1, q2, q3, q4⟩, hcell⟩ := FX.out z3 b2 X3.out
      obtain ⟨i0, -⟩ := hcell i false HBI.out
      clear hcell
      go_wp2_with (fail)
      go_roundw
      case rel => exact ⟨more, b2, i + 1, rfl, by go_num, hlt, hcb, hideIt X3.out.1, hideIt (fun h => clo_next (HCL.out h) (fun p hb hp y hy => by rw [HBI.out] at hb; cases hb))⟩
      case measure => simp [intOf] <;> omega
     | true =>
      cases he : p.e with
      | true =>
       rw [he] at X3 FX SX
       obtain ⟨⟨q1, q2, q3, q4⟩, hcell⟩ := FX.out z3 b2 X3.out
       obtain ⟨i0, -⟩ := hcell i true HBI.out
       have HE := hideIt he
       clear hcell he
       go_wp2_with (fail)
       go_roundw
       case rel => exact ⟨more, b2, i + 1, rfl, by go_num, hlt, hcb, hideIt X3.out.1, hideIt (fun h => clo_next (HCL.out h) (fun p2 hb hp2 y hy => by
        rw [HPI.out] at hp2; injection hp2 with hp2; subst hp2
        unfold waysN at hy
        rw [HE.out] at hy
        cases hy))⟩
       case measure => simp [intOf] <;> omega
      | false =>
       have hnx := hwp.nx he
       have hel := hwp.el he
       obtain ⟨n, hn⟩ : ∃ n : Nat, p.next = (n : Int) := ⟨p.next.toNat, by omega⟩
       have hnN : n < N := by omega
       have hnN2 : (n : Int) < (N : Int) := by omega
       have hn0 : (0 : Int) ≤ (n : Int) := by omega
       have HE := hideIt he
       have HNX := hideIt hn
       rw [he, hn] at X3 FX SX
       clear hnx hwp he hn
       have CLW : Hid (∀ b : List Bool, (more = false → Clo f.parts b i) → b[n]? = some true → (p.cond < 0 ∨ b[p.els.toNat]? = some true) → more = false → Clo f.parts b (i + 1)) := fun b hcl hbn hbe h => clo_next (hcl h) (fun p2 hb hp2 y hy => by
        rw [HPI.out] at hp2; injection hp2 with hp2; subst hp2
        unfold waysN at hy
        rw [HE.out, if_neg (by simp)] at hy
        split at hy
        ·rw [List.mem_singleton.1 hy, HNX.out, Int.toNat_natCast]; exact hbn
        ·rename_i hc
         rcases List.mem_cons.1 hy with e | e
         ·rw [e, HNX.out, Int.toNat_natCast]; exact hbn
         ·rw [List.mem_singleton.1 e]; exact hbe.resolve_left hc)
       obtain ⟨bn, hbn⟩ := get_of_lt (l := b2) (k := n) (by rw [X3.out.1.len]; exact hnN)
       obtain ⟨⟨q1, q2, q3, q4⟩, hcell⟩ := FX.out z3 b2 X3.out
       obtain ⟨i0, -⟩ := hcell i true HBI.out
       obtain ⟨n0, nf⟩ := hcell n bn hbn
       clear hcell
       cases bn with
       | false =>
        have hcs := cf_set hbn
        go_upto_region 14 with (fail)
        have X4 := hideIt (SX.out z3 b2 n X3.out)
        generalize z3.setCell ⟨B.heap.size, n, none⟩ (.bool true) = z4 at X4 ⊢
        clear q1 q2 q3 q4 i0 n0 nf hbn X3
        generalize b2.set n true = b3 at X4 hcs
        obtain ⟨⟨q1, q2, q3, q4⟩, hcell⟩ := FX.out z4 b3 X4.out
        by_cases hc : p.cond < 0
        ·have hcd : decide ((0 : Int) ≤ p.cond) = false := decide_eq_false (by omega)
         clear hcell
         go_wp2_with (fail)
         go_roundw
         case rel => exact ⟨true, b3, i + 1, rfl, by go_num, hlt, by simp; omega, hideIt X4.out.1, hideIt (fun h => by cases h)⟩
         case measure => simp [intOf] <;> omega
        ·have hcd : decide ((0 : Int) ≤ p.cond) = true := decide_eq_true (by omega)
         have hel2 := hel (by omega)
         obtain ⟨m, hm⟩ : ∃ m : Nat, p.els = (m : Int) := ⟨p.els.toNat, by omega⟩
         have hmN : m < N := by omega
         have hmN2 : (m : Int) < (N : Int) := by omega
         have hm0 : (0 : Int) ≤ (m : Int) := by omega
         have HEL := hideIt hm
         rw [hm] at q4
         obtain ⟨bm, hbm⟩ := get_of_lt (l := b3) (k := m) (by rw [X4.out.1.len]; exact hmN)
         obtain ⟨m1, mf⟩ := hcell m bm hbm
         clear hcell hel hel2 hm hc
         cases bm with
         | false =>
          have hcm := cf_set hbm
          have HBM := hideIt hbm
          clear hbm
          go_wp2_with (fail)
          go_roundw
          case rel => exact ⟨true, b3.set m true, i + 1, rfl, by go_num, hlt, by simp; omega, hideIt (SX.out z4 b3 m X4.out).1, hideIt (fun h => by cases h)⟩
          case measure => simp [intOf] <;> omega
         | true =>
          have HBM := hideIt hbm
          clear hbm
          go_wp2_with (fail)
          go_roundw
          case rel => exact ⟨true, b3, i + 1, rfl, by go_num, hlt, by simp; omega, hideIt X4.out.1, hideIt (fun h => by cases h)⟩
          case measure => simp [intOf] <;> omega
       | true =>
        have HBN := hideIt hbn
        go_upto_region 14 with (fail)
        clear q1 q2 q3 q4 i0 n0 nf hbn
        obtain ⟨⟨q1, q2, q3, q4⟩, hcell⟩ := FX.out z3 b2 X3.out
        by_cases hc : p.cond < 0
        ·have hcd : decide ((0 : Int) ≤ p.cond) = false := decide_eq_false (by omega)
         clear hcell
         go_wp2_with (fail)
         go_roundw
         case rel => exact ⟨more, b2, i + 1, rfl, by go_num, hlt, hcb, hideIt X3.out.1, hideIt (CLW.out b2 HCL.out HBN.out (.inl hc))⟩
         case measure => simp [intOf] <;> omega
        ·have hcd : decide ((0 : Int) ≤ p.cond) = true := decide_eq_true (by omega)
         have hel2 := hel (by omega)
         obtain ⟨m, hm⟩ : ∃ m : Nat, p.els = (m : Int) := ⟨p.els.toNat, by omega⟩
         have hmN : m < N := by omega
         have hmN2 : (m : Int) < (N : Int) := by omega
         have hm0 : (0 : Int) ≤ (m : Int) := by omega
         have HEL := hideIt hm
         rw [hm] at q4
         obtain ⟨bm, hbm⟩ := get_of_lt (l := b2) (k := m) (by rw [X3.out.1.len]; exact hmN)
         obtain ⟨m1, mf⟩ := hcell m bm hbm
         clear hcell hel hel2 hm hc
         cases bm with
         | false =>
          have hcm := cf_set hbm
          have HBM := hideIt hbm
          clear hbm
          go_wp2_with (fail)
          go_roundw
          case rel => exact ⟨true, b2.set m true, i + 1, rfl, by go_num, hlt, by simp; omega, hideIt (SX.out z3 b2 m X3.out).1, hideIt (fun h => by cases h)⟩
          case measure => simp [intOf] <;> omega
         | true =>
          have HBM := hideIt hbm
          clear hbm
          go_wp2_with (fail)
          go_roundw
          case rel => exact ⟨more, b2, i + 1, rfl, by go_num, hlt, hcb, hideIt X3.out.1, hideIt (CLW.out b2 HCL.out HBN.out (.inr (by rw [HEL.out, Int.toNat_natCast]; exact HBM.out)))⟩
          case measure => simp [intOf] <;> omega
    ·have hil : ¬ (i : Int) < (N : Int) := by omega
     have hie : i = N := by omega
     rw [hie] at HCL
     go_wp2_with (fail)
     go_roundg (b.count false + 1)
     case measure => omega
     case rel => exact ⟨more, b2, rfl, by omega, by omega, M3, HCL⟩
end Go.Proofs.Ytphknepblchkdaa.Fl
