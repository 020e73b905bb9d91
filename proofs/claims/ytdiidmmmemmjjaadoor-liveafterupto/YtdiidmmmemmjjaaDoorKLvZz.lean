/-
  What live.After tells of an instruction is what is live behind it; the document's After: contracts over the program.
-/
import Derived.Test.YtdiidmmmemmjjaaDoorKLvZy
import Derived.Test.YtdiidmmmemmjjaaDoorKLrF
namespace Go.Proofs.YtdiidmmmemmjjaaDoor.Lv
open Go.RowKit Go.Deep
set_option linter.unusedVariables false

theorem addsF_at : ∀ (us : List Int) (p : Int → Bool) (r : Int), addsF us p r = (p r || decide (r ∈ us))
  | [], p, r => by simp [addsF]
  | u :: us, p, r => by
    have h := addsF_at us (fun q => p q || decide (q = u)) r
    have e : addsF (u :: us) p = addsF us (fun q => p q || decide (q = u)) := rfl
    rw [e, h, Bool.or_assoc]
    congr 1
    apply boolEq
    simp
def stI (l : List PI) (p0 : Int → Bool) : Int → Bool := l.foldr (fun x p => addsF (usesP x) (remF x p)) p0
theorem run_told (zs : List PI) (p0 : Int → Bool) : ∀ k, k ≤ zs.length → (runF p0 (bw zs k)).2 = stI (zs.drop (zs.length - k)) p0 ∧ ∀ j, zs.length - k ≤ j → j < zs.length → (runF p0 (bw zs k)).1 j = some (stI (zs.drop (j + 1)) p0)
  | 0, _ => ⟨by rw [Nat.sub_zero, List.drop_length]; rfl, fun j h1 h2 => by omega⟩
  | k + 1, h => by
    obtain ⟨h1, h2⟩ := run_told zs p0 k (by omega)
    obtain ⟨m, hm⟩ : ∃ m, m = zs.length - (k + 1) := ⟨_, rfl⟩
    obtain ⟨x, hx⟩ : ∃ x, zs[m]? = some x := ⟨_, List.getElem?_eq_getElem (by omega)⟩
    have hb := bw_succ zs (k := k) (m := m) (by omega) x hx
    have hd : zs.drop m = x :: zs.drop (m + 1) := by
      have hlt := (List.getElem?_eq_some_iff.1 hx).1
      rw [List.drop_eq_getElem_cons hlt, (List.getElem?_eq_some_iff.1 hx).2]
    have hk : zs.length - k = m + 1 := by omega
    rw [hk] at h1 h2
    have hr : runF p0 (bw zs (k + 1)) = stF (runF p0 (bw zs k)) ⟨(m, x), hx⟩ := by rw [hb]; exact runF_snoc _ _ _
    rw [hr, ← hm]
    unfold stF
    dsimp only
    refine ⟨by rw [h1, hd]; rfl, fun j h3 h4 => ?_⟩
    by_cases hj : j = m
    · subst hj
      rw [if_pos rfl, h1]
    · rw [if_neg hj]
      exact h2 j (by omega) h4
theorem stI_is (p0 : Int → Bool) (S : Nat → Bool) (h0 : ∀ r : Int, p0 r = (decide (0 ≤ r) && S r.toNat)) : ∀ (l : List PI), (∀ x ∈ l, (∀ u ∈ usesP x, 0 ≤ u) ∧ (wrP x.op = true → 0 ≤ x.dst)) → ∀ r : Int, stI l p0 r = (decide (0 ≤ r) && befL l S r.toNat)
  | [], _, r => h0 r
  | x :: l, h, r => by
    have ih := stI_is p0 S h0 l (fun y hy => h y (by simp [hy])) r
    obtain ⟨hu, hw⟩ := h x (by simp)
    have e : stI (x :: l) p0 = addsF (usesP x) (remF x (stI l p0)) := rfl
    rw [e, addsF_at]
    have e2 : remF x (stI l p0) r = (decide (0 ≤ r) && (!wtB x r.toNat && befL l S r.toNat)) := by
      unfold remF wtB
      cases hx : wrP x.op with
      | false => simp [ih]
      | true =>
        have := hw hx
        rw [if_pos rfl, ih]
        by_cases hr : 0 ≤ r
        · have : decide (r = x.dst) = (x.dst.toNat == r.toNat) := by
            apply boolEq
            simp only [decide_eq_true_eq, beq_iff_eq]
            omega
          simp only [this, hr, decide_true, Bool.true_and]
          cases x.dst.toNat == r.toNat <;> simp
        · simp [hr]
    have e3 : decide (r ∈ usesP x) = (decide (0 ≤ r) && usB x r.toNat) := by
      apply boolEq
      simp only [decide_eq_true_eq, Bool.and_eq_true, usB_iff]
      constructor
      · intro hm
        exact ⟨hu r hm, r, hm, rfl⟩
      · rintro ⟨hr, u, hm, he⟩
        have := hu u hm
        have : u = r := by omega
        subst this
        exact hm
    rw [e2, e3]
    show _ = (decide (0 ≤ r) && (usB x r.toNat || (!wtB x r.toNat && befL l S r.toNat)))
    cases decide (0 ≤ r) <;> simp [Bool.or_comm]
theorem cdF_is (p : PP) (p0 : Int → Bool) (G : Nat → Bool) (h0 : ∀ r : Int, p0 r = (decide (0 ≤ r) && G r.toNat)) (r : Int) : cdF p p0 r = (decide (0 ≤ r) && (cdB p r.toNat || G r.toNat)) := by
  unfold cdF cdB
  by_cases hc : 0 ≤ p.cond
  · rw [if_pos hc, h0]
    by_cases hr : 0 ≤ r
    · have : decide (r = p.cond) = (p.cond.toNat == r.toNat) := by
        apply boolEq
        simp only [decide_eq_true_eq, beq_iff_eq]
        omega
      simp only [this, hr, hc, decide_true, Bool.true_and]
      rw [Bool.or_comm]
    · have : ¬ r = p.cond := by omega
      simp [hr, this]
  · rw [if_neg hc, h0]
    simp [hc]
theorem befL_lt {n : Nat} {S : Nat → Bool} (hS : ∀ r, S r = true → r < n) : ∀ (l : List PI), (∀ x ∈ l, ∀ u ∈ usesP x, 0 ≤ u ∧ u < (n : Int)) → ∀ r, befL l S r = true → r < n
  | [], _, r, h => hS r h
  | x :: l, hu, r, h => by
    have h' : (usB x r || (!wtB x r && befL l S r)) = true := h
    rw [Bool.or_eq_true, Bool.and_eq_true] at h'
    rcases h' with h1 | ⟨-, h1⟩
    · obtain ⟨u, hm, he⟩ := (usB_iff _ _).1 h1
      have := hu x (by simp) u hm
      omega
    · exact befL_lt hS l (fun y hy => hu y (by simp [hy])) r h1

/-- live.After by what is live behind the part. -/
theorem after_q (w : World) (p : PP) (hp : p.ok w) (v0 : Value) (G : Nat → Bool) (hv : SetQ w v0 G) (n : Nat) (hn : n ≤ 20000) (hb : okB p n) (hl : p.ins.length ≤ 1000000) :
    Calls Tryd.prog 14 #[p.v, .agg #[v0]] w fun e w' => ∃ bl, e = .returned (.slice (some ⟨bl, 0, none⟩) p.ins.length p.ins.length) ∧ Q w w' ∧ ∀ j, j < p.ins.length → ∃ u, w'.cell? ⟨bl, j, none⟩ = some u ∧ SetQ w' u (befL (p.ins.drop (j + 1)) (fun r => cdB p r || G r)) := by
  obtain ⟨L0, h1, h2, h3, h4⟩ := hv
  have hcd : p.cond ≤ 64000 := by
    by_cases hc : 0 ≤ p.cond
    · have := hb.cd hc; omega
    · omega
  refine (after_any w p hp v0 L0 h1 h2 h3 hcd hl (fun x hx => ⟨fun hw => by have := hb.wt x hx hw; omega, fun u hu => by have := hb.us x hx u hu; omega⟩)).mono ?_
  rintro e w' ⟨bl, rfl, q, bN, bL, v, hr⟩
  refine ⟨bl, rfl, q, fun j hj => ?_⟩
  obtain ⟨u, hu, ht⟩ := hr j hj
  obtain ⟨L, t1, t2, t3, t4, -⟩ := ht _ ((run_told p.ins (cdF p (hasB L0)) p.ins.length (Nat.le_refl _)).2 j (by omega) hj)
  refine ⟨u, hu, L, t1, t2, t3, fun r => ?_⟩
  rw [t4]
  exact stI_is _ (fun r => cdB p r || G r) (fun r => cdF_is p _ G h4 r) _ (fun x hx => by
    have hx' := List.mem_of_mem_drop hx
    exact ⟨fun u hu => (hb.us x hx' u hu).1, fun hw => (hb.wt x hx' hw).1⟩) r

theorem rbefore_next (w X : World) (qX : Q w X) (p : PP) (hp : p.ok w) (j n : Nat) (hn0 : 0 < n) (hn : n ≤ 1000000) (hb : okB p n) (hu : j < p.ins.length) (v : Value) (G : Nat → Bool) (hv : RdB w v n G) (j1 : Int) (hj : j1 = ((j + 1 : Nat) : Int)) :
    Calls Tryd.prog 26 #[p.v, v, .int .i64 j1] X fun e w' => ∃ va vc, e = .returned (.slice va n vc) ∧ OwnB w.heap.size w' (.slice va n vc) n (befL (p.ins.drop (j + 1)) (fun r => cdB p r || G r)) ∧ Q X w' := by
  subst hj
  refine (before_any X p (hp.keep qX) (j + 1) n hn0 hn hb hu v G (hv.keep qX)).mono ?_
  rintro e y ⟨nv, rfl, ho, q⟩
  obtain ⟨va, vc, rfl⟩ := own_form ho
  exact ⟨va, vc, rfl, own_base qX.size ho, q⟩
set_option maxRecDepth 100000 in
set_option maxHeartbeats 1000000 in
theorem rafter_any (w : World) (p : PP) (hp : p.ok w) (j n : Nat) (hn0 : 0 < n) (hn : n ≤ 1000000) (hb : okB p n) (hu : j < p.ins.length) (hl : p.ins.length ≤ 1000000) (v : Value) (G : Nat → Bool) (hv : RdB w v n G) :
    Calls Tryd.prog 15 #[p.v, v, .int .i64 (j : Int)] w fun e w' => ∃ nv, e = .returned nv ∧ OwnB w.heap.size w' nv n (befL (p.ins.drop (j + 1)) (fun r => cdB p r || G r)) ∧ Q w w' := by
  have HB := hideIt (fun X qX j1 hj => rbefore_next w X qX p hp j n hn0 hn hb hu v G hv j1 hj)
  obtain ⟨ao, c, rfl, -⟩ := hv
  generalize befL (p.ins.drop (j + 1)) (fun r => cdB p r || G r) = S at *
  have hj7 : j < 1000000 := by omega
  dsimp only [PP.v] at HB ⊢
  clear hb hu hp hl
  go_enter Tryd.func15, Tryd.ntmps15
  go_wp2_with (first | (go_at_call 26; refine Calls.mono (HB.out _ ((Q.refl w).alloc _) _ (by omega)) ?_; rintro e y ⟨va, vc, rfl, ho, q⟩; have HO := hideIt ho; have HQ := hideIt q; clear ho q) | fail)
  go_ret
  exact ⟨_, rfl, HO.out, ((Q.refl w).alloc _).trans HQ.out⟩
end Go.Proofs.YtdiidmmmemmjjaaDoor.Lv
