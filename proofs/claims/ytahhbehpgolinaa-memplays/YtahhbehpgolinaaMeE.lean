/-
  A memory behind a change of one block's list; what the map and the lists say behind a write: facts on worlds and lists; no conditions but those that each fact bears.
-/
import Derived.Test.YtahhbehpgolinaaMeC
namespace Go.Proofs.Ytahhbehpgolinaa.Me
open Go.RowKit
set_option linter.unusedVariables false

theorem szs_set {L : List Bk} {i : Nat} {d : Bk} (hi : L[i]? = some d) (H' : List Int) (v' : Value) : szs (L.set i ⟨d.c, H', v'⟩) = szs L := by
  unfold szs
  rw [List.map_set]
  exact set_same (by simp [hi])
theorem set_each {L : List Bk} {i : Nat} {d : Bk} (hi : L[i]? = some d) {x : Bk} {j : Nat} {e : Bk} (h : (L.set i x)[j]? = some e) : (j = i ∧ e = x) ∨ (j ≠ i ∧ L[j]? = some e) := by
  rw [List.getElem?_set] at h
  by_cases e1 : i = j
  · rw [if_pos e1, if_pos (List.getElem?_eq_some_iff.1 hi).1] at h
    exact Or.inl ⟨e1.symm, (Option.some.inj h).symm⟩
  · rw [if_neg e1] at h
    exact Or.inr ⟨fun q => e1 q.symm, h⟩

theorem mx_held {w Y : World} {B : Nat} {bl : Nat → Prop} {p n n' : Nat} {L : List Bk} {F F' : FF} {t : Int} {M : Nat} {la : Option Addr} {lc : Nat} (h : MX w B bl p n L F t M la lc) {i : Nat} {d : Bk} (hi : L[i]? = some d) {H' : List Int} {v' : Value} (hM : Mc Y M n' F')
    (hY : ∀ k, bl k → k ≠ M → (Value.slice la L.length lc).ownBlock ≠ some k → d.v.ownBlock ≠ some k → Y.heap[k]? = w.heap[k]?) (hs : w.heap.size ≤ Y.heap.size)
    (hr : Y.ownsRow B 61 2 (.slice la L.length lc) L.length ((bkCells L).set (i * 2 + 1) v')) (ho : Y.ownsRow B 3 1 v' H'.length (rowN H'))
    (hv : ∀ k, v'.ownBlock = some k → d.v.ownBlock = some k ∨ (w.heap.size ≤ k ∧ B ≤ k)) :
    ∃ bl' : Nat → Prop, (∀ k, bl k → bl' k) ∧ (∀ k, bl' k → bl k ∨ w.heap.size ≤ k) ∧ MX Y B bl' p n' (L.set i ⟨d.c, H', v'⟩) F' t M la lc := by
  have hll : (L.set i ⟨d.c, H', v'⟩).length = L.length := List.length_set
  have hp : p < w.heap.size := lt_of_some h.cells
  have hMl := h.map.lt
  have new : ∀ k, v'.ownBlock = some k → k ≠ p ∧ k ≠ M ∧ (Value.slice la L.length lc).ownBlock ≠ some k := fun k hk => by
    rcases hv k hk with e | ⟨e, -⟩
    · exact (h.hin i d k hi e).2
    · refine ⟨by omega, by omega, fun q => ?_⟩
      have := (h.rng k (h.own k q).1).2
      omega
  refine ⟨fun k => bl k ∨ v'.ownBlock = some k, fun k hk => Or.inl hk, fun k hk => ?_, ⟨fun k hk => ?_, Or.inl h.inp, Or.inl h.inM, h.Mnp, fun k hk => ?_, ?_, hM, ?_, fun j e he => ?_, fun j e k he hk => ?_, fun j j' e e' k he he' hk hk' => ?_⟩⟩
  · rcases hk with hk | hk
    · exact Or.inl hk
    · rcases hv k hk with e | ⟨e, -⟩
      · exact Or.inl (h.hin i d k hi e).1
      · exact Or.inr e
  · rcases hk with hk | hk
    · have := h.rng k hk; omega
    · refine ⟨?_, own_lt ho hk⟩
      rcases hv k hk with e | ⟨-, e⟩
      · exact (h.rng k (h.hin i d k hi e).1).1
      · exact e
  · rw [hll] at hk
    have := h.own k hk
    exact ⟨Or.inl this.1, this.2⟩
  · rw [hll, hY p h.inp (fun e => h.Mnp e.symm) (fun e => (h.own p e).2.1 rfl) (fun e => (h.hin i d p hi e).2.1 rfl)]
    exact h.cells
  · rw [hll, bkCells_set L i d H' v' hi]
    exact hr
  · rcases set_each hi he with ⟨rfl, rfl⟩ | ⟨hne, he⟩
    · exact ho
    · refine ownsRow_block (h.hld j e he) fun k hk => ?_
      obtain ⟨k1, k2, k3, k4⟩ := h.hin j e k he hk
      exact hY k k1 k3 k4 (fun q => hne (h.dif j i e d k he hi hk q))
  · rw [hll]
    rcases set_each hi he with ⟨rfl, rfl⟩ | ⟨hne, he⟩
    · exact ⟨Or.inr hk, new k hk⟩
    · have := h.hin j e k he hk
      exact ⟨Or.inl this.1, this.2⟩
  · have oth : ∀ (j : Nat) (e : Bk), j ≠ i → L[j]? = some e → e.v.ownBlock = some k → v'.ownBlock = some k → False := fun j e hj he hk hk' => by
      rcases hv k hk' with q | ⟨q, -⟩
      · exact hj (h.dif j i e d k he hi hk q)
      · have := (h.rng k (h.hin j e k he hk).1).2; omega
    rcases set_each hi he with ⟨e1, e2⟩ | ⟨hne, he2⟩
    · rcases set_each hi he' with ⟨e3, e4⟩ | ⟨hne', he2'⟩
      · rw [e1, e3]
      · rw [e2] at hk
        exact (oth j' e' hne' he2' hk' hk).elim
    · rcases set_each hi he' with ⟨e3, e4⟩ | ⟨hne', he2'⟩
      · rw [e4] at hk'
        exact (oth j e hne he2 hk hk').elim
      · exact h.dif j j' e e' k he2 he2' hk hk'

theorem upd_out {L : List Bk} {f : Int → Int → Int} (ho : ∀ a b, inB (szs L) a b = false → f a b = 0) {i j : Int} {v : Int} (hb : inB (szs L) i j = true) : ∀ a b, inB (szs L) a b = false → upd f i j v a b = 0 := fun a b e => by
  have : ¬ (a = i ∧ b = j) := by rintro ⟨rfl, rfl⟩; rw [hb] at e; cases e
  simp only [upd, this, if_false]
  exact ho a b e

/-- A cell that isn't 0 gets another number that isn't 0. -/
theorem mf_over {A : Nat → Prop} {n : Nat} {L : List Bk} {f : Int → Int → Int} {F : FF} (h : MF A n L f F) {i j v v0 k : Int} (hb : inB (szs L) i j = true) (hv : v ≠ 0) (hF : F i j = some (v0, k)) : MF A (n + 1) L (upd f i j v) (updF F i j (some (v, k))) := by
  refine ⟨fun a b => ?_, upd_out h.out hb, fun x d b v' k' hd hq => ?_, fun x d m o hA hd hm => ?_, fun x d hd => Nat.le_succ_of_le (h.len x d hd)⟩
  · simp only [upd, updF]
    split
    · simp only [Option.map_some]
    · exact h.val a b
  · simp only [updF] at hq
    split at hq
    · rename_i e
      simp only [Option.some.injEq, Prod.mk.injEq] at hq
      obtain ⟨rfl, rfl⟩ := hq
      have := h.pos x d j v0 k hd (by rw [e.1]; exact hF)
      rw [e.2]
      exact this
    · exact h.pos x d b v' k' hd hq
  · obtain ⟨u, hu⟩ := h.lst x d m o hA hd hm
    simp only [updF]
    split
    · rename_i e
      rw [e.1, e.2, hF] at hu
      simp only [Option.some.injEq, Prod.mk.injEq] at hu
      exact ⟨v, by rw [hu.2]⟩
    · exact ⟨u, hu⟩

/-- A cell that was 0 gets a number. -/
theorem mf_new {A : Nat → Prop} {n : Nat} {L : List Bk} {f : Int → Int → Int} {F : FF} (h : MF A n L f F) {i : Nat} {j v : Int} {d : Bk} (hd : L[i]? = some d) (hb : inB (szs L) i j = true) (hv : v ≠ 0) (hF : F i j = none) (v' : Value) :
    MF A (n + 1) (L.set i ⟨d.c, d.H ++ [j], v'⟩) (upd f i j v) (updF F i j (some (v, (d.H.length : Int)))) := by
  refine ⟨fun a b => ?_, by rw [szs_set hd]; exact upd_out h.out hb, fun x e b v1 k' he hq => ?_, fun x e m o hA he hm => ?_, fun x e he => ?_⟩
  · simp only [upd, updF]
    split
    · simp only [Option.map_some]
    · exact h.val a b
  · simp only [updF] at hq
    rcases set_each hd he with ⟨rfl, rfl⟩ | ⟨hne, he⟩
    · split at hq
      · rename_i e
        simp only [Option.some.injEq, Prod.mk.injEq] at hq
        obtain ⟨rfl, rfl⟩ := hq
        refine ⟨by omega, ?_⟩
        rw [e.2]
        simp
      · have := h.pos x d b v1 k' hd hq
        refine ⟨this.1, ?_⟩
        rw [List.getElem?_append_left (List.getElem?_eq_some_iff.1 this.2).1]
        exact this.2
    · rw [if_neg (by omega)] at hq
      exact h.pos x e b v1 k' he hq
  · simp only [updF]
    rcases set_each hd he with ⟨rfl, rfl⟩ | ⟨hne, he⟩
    · by_cases hm' : m < d.H.length
      · rw [List.getElem?_append_left hm'] at hm
        obtain ⟨u, hu⟩ := h.lst x d m o hA hd hm
        rw [if_neg (by rintro ⟨-, rfl⟩; rw [hF] at hu; cases hu)]
        exact ⟨u, hu⟩
      · have := (List.getElem?_eq_some_iff.1 hm).1
        simp at this
        have e1 : m = d.H.length := by omega
        subst e1
        simp at hm
        subst hm
        exact ⟨v, by simp⟩
    · obtain ⟨u, hu⟩ := h.lst x e m o hA he hm
      rw [if_neg (by omega)]
      exact ⟨u, hu⟩
  · rcases set_each hd he with ⟨rfl, rfl⟩ | ⟨hne, he⟩
    · have := h.len x d hd
      simp; omega
    · exact Nat.le_succ_of_le (h.len x e he)

/-- A cell that isn't 0 gets 0: another one of its block's comes to its place, or none is left. -/
theorem mf_gone {n : Nat} {L : List Bk} {f : Int → Int → Int} {F : FF} (h : MF (fun _ => True) n L f F) {i k : Nat} {j v0 : Int} {d : Bk} (hd : L[i]? = some d) (hb : inB (szs L) i j = true) (hF : F i j = some (v0, (k : Int))) {mv : Int} (hmv : d.H[d.H.length - 1]? = some mv) (v' : Value) :
    (mv = j → MF (fun _ => True) n (L.set i ⟨d.c, (d.H.set k mv).take (d.H.length - 1), v'⟩) (upd f i j 0) (updF F i j none)) ∧
    (mv ≠ j → MF (fun _ => True) (n + 1) (L.set i ⟨d.c, (d.H.set k mv).take (d.H.length - 1), v'⟩) (upd f i j 0) (updF (updF F i j none) i mv (some (c1 (updF F i j none i mv), (k : Int)))) ∧ k < d.H.length - 1) := by
  have hk := (h.pos i d j v0 k hd hF).2
  rw [Int.toNat_natCast] at hk
  have hkl := (List.getElem?_eq_some_iff.1 hk).1
  obtain ⟨ul, hul⟩ := h.lst i d (d.H.length - 1) mv trivial hd hmv
  have hin : ∀ m o, m < d.H.length - 1 → ((d.H.set k mv).take (d.H.length - 1))[m]? = some o → (m = k ∧ o = mv) ∨ (m ≠ k ∧ d.H[m]? = some o) := fun m o hm e => by
    rw [List.getElem?_take_of_lt hm, List.getElem?_set] at e
    by_cases e1 : k = m
    · rw [if_pos e1, if_pos (by omega)] at e
      exact Or.inl ⟨e1.symm, (Option.some.inj e).symm⟩
    · rw [if_neg e1] at e
      exact Or.inr ⟨fun q => e1 q.symm, e⟩
  have hlt : ∀ m o, ((d.H.set k mv).take (d.H.length - 1))[m]? = some o → m < d.H.length - 1 := fun m o e => by
    have := (List.getElem?_eq_some_iff.1 e).1
    simp at this
    omega
  have hlen : ∀ (x : Nat) (e : Bk), (L.set i ⟨d.c, (d.H.set k mv).take (d.H.length - 1), v'⟩)[x]? = some e → e.H.length ≤ n := fun x e he => by
    rcases set_each hd he with ⟨rfl, rfl⟩ | ⟨hne, he⟩
    · have := h.len x d hd
      simp; omega
    · exact h.len x e he
  constructor
  · rintro rfl
    have hkk : k = d.H.length - 1 := by
      rw [hF] at hul
      simp only [Option.some.injEq, Prod.mk.injEq] at hul
      omega
    refine ⟨fun a b => ?_, by rw [szs_set hd]; exact upd_out h.out hb, fun x e b v1 k' he hq => ?_, fun x e m o hA he hm => ?_, hlen⟩
    · simp only [upd, updF]
      split
      · simp
      · exact h.val a b
    · simp only [updF] at hq
      rcases set_each hd he with ⟨rfl, rfl⟩ | ⟨hne, he⟩
      · split at hq
        · cases hq
        · rename_i hne
          obtain ⟨p1, p2⟩ := h.pos x d b v1 k' hd hq
          have hbm : b ≠ mv := fun q => hne ⟨rfl, q⟩
          have hk1 : k'.toNat ≠ k := fun q => by rw [q, hk] at p2; exact hbm (Option.some.inj p2).symm
          have hk2 := (List.getElem?_eq_some_iff.1 p2).1
          refine ⟨p1, ?_⟩
          rw [List.getElem?_take_of_lt (by omega), List.getElem?_set, if_neg (by omega)]
          exact p2
      · rw [if_neg (by omega)] at hq
        exact h.pos x e b v1 k' he hq
    · simp only [updF]
      rcases set_each hd he with ⟨rfl, rfl⟩ | ⟨hne, he⟩
      · have hml := hlt m o hm
        rcases hin m o hml hm with ⟨q, -⟩ | ⟨hmk, hm⟩
        · omega
        · obtain ⟨u, hu⟩ := h.lst x d m o trivial hd hm
          rw [if_neg (by rintro ⟨-, rfl⟩; rw [hF] at hu; simp only [Option.some.injEq, Prod.mk.injEq] at hu; omega)]
          exact ⟨u, hu⟩
      · obtain ⟨u, hu⟩ := h.lst x e m o trivial he hm
        rw [if_neg (by omega)]
        exact ⟨u, hu⟩
  · intro hne0
    have hkk : k < d.H.length - 1 := by
      have : k ≠ d.H.length - 1 := fun q => by rw [← q, hk] at hmv; exact hne0 (Option.some.inj hmv).symm
      omega
    have hFm : updF F i j none i mv = F i mv := by simp [updF, hne0]
    have hfm : f i mv ≠ 0 := fun q => by rw [h.none.2 q] at hul; cases hul
    refine ⟨⟨fun a b => ?_, by rw [szs_set hd]; exact upd_out h.out hb, fun x e b v1 k' he hq => ?_, fun x e m o hA he hm => ?_, fun x e he => Nat.le_succ_of_le (hlen x e he)⟩, hkk⟩
    · rw [hFm, h.c1]
      simp only [upd, updF]
      by_cases e1 : a = (i : Int) ∧ b = mv
      · have e2 : (if a = (i : Int) ∧ b = j then 0 else f a b) = f i mv := by rw [if_neg (by rintro ⟨-, q⟩; exact hne0 (e1.2.symm.trans q)), e1.1, e1.2]
        rw [if_pos e1]
        simp only [e2, hfm, if_false]
        rfl
      · rw [if_neg e1]
        split
        · simp
        · exact h.val a b
    · rw [hFm] at hq
      simp only [updF] at hq
      rcases set_each hd he with ⟨rfl, rfl⟩ | ⟨hne, he⟩
      · by_cases e1 : b = mv
        · rw [if_pos ⟨rfl, e1⟩] at hq
          simp only [Option.some.injEq, Prod.mk.injEq] at hq
          obtain ⟨-, rfl⟩ := hq
          refine ⟨by omega, ?_⟩
          rw [Int.toNat_natCast, List.getElem?_take_of_lt hkk, List.getElem?_set, if_pos rfl, if_pos hkl, e1]
        · rw [if_neg (fun q => e1 q.2)] at hq
          split at hq
          · cases hq
          · rename_i hne
            obtain ⟨p1, p2⟩ := h.pos x d b v1 k' hd hq
            have hbj : b ≠ j := fun q => hne ⟨rfl, q⟩
            have hk1 : k'.toNat ≠ k := fun q => by rw [q, hk] at p2; exact hbj (Option.some.inj p2).symm
            have hk3 : k'.toNat ≠ d.H.length - 1 := fun q => by rw [q, hmv] at p2; exact e1 (Option.some.inj p2).symm
            have hk2 := (List.getElem?_eq_some_iff.1 p2).1
            refine ⟨p1, ?_⟩
            rw [List.getElem?_take_of_lt (by omega), List.getElem?_set, if_neg (by omega)]
            exact p2
      · rw [if_neg (by omega), if_neg (by omega)] at hq
        exact h.pos x e b v1 k' he hq
    · rw [hFm]
      simp only [updF]
      rcases set_each hd he with ⟨rfl, rfl⟩ | ⟨hne, he⟩
      · have hml := hlt m o hm
        rcases hin m o hml hm with ⟨rfl, rfl⟩ | ⟨hmk, hm⟩
        · exact ⟨_, by rw [if_pos ⟨rfl, rfl⟩]⟩
        · obtain ⟨u, hu⟩ := h.lst x d m o trivial hd hm
          rw [if_neg (by rintro ⟨-, rfl⟩; rw [hul] at hu; simp only [Option.some.injEq, Prod.mk.injEq] at hu; omega), if_neg (by rintro ⟨-, rfl⟩; rw [hF] at hu; simp only [Option.some.injEq, Prod.mk.injEq] at hu; omega)]
          exact ⟨u, hu⟩
      · obtain ⟨u, hu⟩ := h.lst x e m o trivial he hm
        rw [if_neg (by omega), if_neg (by omega)]
        exact ⟨u, hu⟩

end Go.Proofs.Ytahhbehpgolinaa.Me
