/-
  A memory behind a change of one block's list; what the map and the lists say behind a write: facts on worlds and lists; no conditions but those that each fact bears.
  A cell that is 0 now is forgotten (drop): a contract over the program; the conditions: a memory lies there, and that cell isn't 0 in it.
  A cell that is 0 now is forgotten (drop): what it leaves of a memory; the conditions: a memory lies there, and that cell isn't 0 in it.
-/
import Derived.Test.YtaomkfhbnakbjaaKMeD
namespace Go.Proofs.Ytaomkfhbnakbjaa.Me
open Go.RowKit
set_option linter.unusedVariables false

theorem szs_set {L : List Bk} {i : Nat} {d : Bk} (hi : L[i]? = some d) (H' : List Int) (v' : Value) : szs (L.set i ⟨d.c, H', v'⟩) = szs L := by
  unfold szs
  rw [List.map_set]
  exact set_same (by simp [hi])
theorem set_each {L : List Bk} {i : Nat} {d : Bk} (hi : L[i]? = some d) {x : Bk} {j : Nat} {e : Bk} (h : (L.set i x)[j]? = some e) : (j = i ∧ e = x) ∨ (j ≠ i ∧ L[j]? = some e) := by
  rw [List.getElem?_set] at h
  by_cases e1 : i = j
  · rw [if_pos e1, if_pos (List.getElem?_eq_some_iff.1 hi).1] at h
    exact Or.inl ⟨e1.symm, (Option.some.inj h).symm⟩
  · rw [if_neg e1] at h
    exact Or.inr ⟨fun q => e1 q.symm, h⟩

theorem mx_held {w Y : World} {B : Nat} {bl : Nat → Prop} {p n n' : Nat} {L : List Bk} {F F' : FF} {t : Int} {M : Nat} {la : Option Addr} {lc : Nat} (h : MX w B bl p n L F t M la lc) {i : Nat} {d : Bk} (hi : L[i]? = some d) {H' : List Int} {v' : Value} (hM : Mc Y M n' F')
    (hY : ∀ k, bl k → k ≠ M → (Value.slice la L.length lc).ownBlock ≠ some k → d.v.ownBlock ≠ some k → Y.heap[k]? = w.heap[k]?) (hs : w.heap.size ≤ Y.heap.size)
    (hr : Y.ownsRow B 156 2 (.slice la L.length lc) L.length ((bkCells L).set (i * 2 + 1) v')) (ho : Y.ownsRow B 3 1 v' H'.length (rowN H'))
    (hv : ∀ k, v'.ownBlock = some k → d.v.ownBlock = some k ∨ (w.heap.size ≤ k ∧ B ≤ k)) :
    ∃ bl' : Nat → Prop, (∀ k, bl k → bl' k) ∧ (∀ k, bl' k → bl k ∨ w.heap.size ≤ k) ∧ MX Y B bl' p n' (L.set i ⟨d.c, H', v'⟩) F' t M la lc := by
  have hll : (L.set i ⟨d.c, H', v'⟩).length = L.length := List.length_set
  have hp : p < w.heap.size := lt_of_some h.cells
  have hMl := h.map.lt
  have new : ∀ k, v'.ownBlock = some k → k ≠ p ∧ k ≠ M ∧ (Value.slice la L.length lc).ownBlock ≠ some k := fun k hk => by
    rcases hv k hk with e | ⟨e, -⟩
    · exact (h.hin i d k hi e).2
    · refine ⟨by omega, by omega, fun q => ?_⟩
      have := (h.rng k (h.own k q).1).2
      omega
  refine ⟨fun k => bl k ∨ v'.ownBlock = some k, fun k hk => Or.inl hk, fun k hk => ?_, ⟨fun k hk => ?_, Or.inl h.inp, Or.inl h.inM, h.Mnp, fun k hk => ?_, ?_, hM, ?_, fun j e he => ?_, fun j e k he hk => ?_, fun j j' e e' k he he' hk hk' => ?_⟩⟩
  · rcases hk with hk | hk
    · exact Or.inl hk
    · rcases hv k hk with e | ⟨e, -⟩
      · exact Or.inl (h.hin i d k hi e).1
      · exact Or.inr e
  · rcases hk with hk | hk
    · have := h.rng k hk; omega
    · refine ⟨?_, own_lt ho hk⟩
      rcases hv k hk with e | ⟨-, e⟩
      · exact (h.rng k (h.hin i d k hi e).1).1
      · exact e
  · rw [hll] at hk
    have := h.own k hk
    exact ⟨Or.inl this.1, this.2⟩
  · rw [hll, hY p h.inp (fun e => h.Mnp e.symm) (fun e => (h.own p e).2.1 rfl) (fun e => (h.hin i d p hi e).2.1 rfl)]
    exact h.cells
  · rw [hll, bkCells_set L i d H' v' hi]
    exact hr
  · rcases set_each hi he with ⟨rfl, rfl⟩ | ⟨hne, he⟩
    · exact ho
    · refine ownsRow_block (h.hld j e he) fun k hk => ?_
      obtain ⟨k1, k2, k3, k4⟩ := h.hin j e k he hk
      exact hY k k1 k3 k4 (fun q => hne (h.dif j i e d k he hi hk q))
  · rw [hll]
    rcases set_each hi he with ⟨rfl, rfl⟩ | ⟨hne, he⟩
    · exact ⟨Or.inr hk, new k hk⟩
    · have := h.hin j e k he hk
      exact ⟨Or.inl this.1, this.2⟩
  · have oth : ∀ (j : Nat) (e : Bk), j ≠ i → L[j]? = some e → e.v.ownBlock = some k → v'.ownBlock = some k → False := fun j e hj he hk hk' => by
      rcases hv k hk' with q | ⟨q, -⟩
      · exact hj (h.dif j i e d k he hi hk q)
      · have := (h.rng k (h.hin j e k he hk).1).2; omega
    rcases set_each hi he with ⟨e1, e2⟩ | ⟨hne, he2⟩
    · rcases set_each hi he' with ⟨e3, e4⟩ | ⟨hne', he2'⟩
      · rw [e1, e3]
      · rw [e2] at hk
        exact (oth j' e' hne' he2' hk' hk).elim
    · rcases set_each hi he' with ⟨e3, e4⟩ | ⟨hne', he2'⟩
      · rw [e4] at hk'
        exact (oth j e hne he2 hk hk').elim
      · exact h.dif j j' e e' k he2 he2' hk hk'

theorem upd_out {L : List Bk} {f : Int → Int → Int} (ho : ∀ a b, inB (szs L) a b = false → f a b = 0) {i j : Int} {v : Int} (hb : inB (szs L) i j = true) : ∀ a b, inB (szs L) a b = false → upd f i j v a b = 0 := fun a b e => by
  have : ¬ (a = i ∧ b = j) := by rintro ⟨rfl, rfl⟩; rw [hb] at e; cases e
  simp only [upd, this, if_false]
  exact ho a b e

/-- A cell that isn't 0 gets another number that isn't 0. -/
theorem mf_over {A : Nat → Prop} {n : Nat} {L : List Bk} {f : Int → Int → Int} {F : FF} (h : MF A n L f F) {i j v v0 k : Int} (hb : inB (szs L) i j = true) (hv : v ≠ 0) (hF : F i j = some (v0, k)) : MF A (n + 1) L (upd f i j v) (updF F i j (some (v, k))) := by
  refine ⟨fun a b => ?_, upd_out h.out hb, fun x d b v' k' hd hq => ?_, fun x d m o hA hd hm => ?_, fun x d hd => Nat.le_succ_of_le (h.len x d hd)⟩
  · simp only [upd, updF]
    split
    · simp only [Option.map_some]
    · exact h.val a b
  · simp only [updF] at hq
    split at hq
    · rename_i e
      simp only [Option.some.injEq, Prod.mk.injEq] at hq
      obtain ⟨rfl, rfl⟩ := hq
      have := h.pos x d j v0 k hd (by rw [e.1]; exact hF)
      rw [e.2]
      exact this
    · exact h.pos x d b v' k' hd hq
  · obtain ⟨u, hu⟩ := h.lst x d m o hA hd hm
    simp only [updF]
    split
    · rename_i e
      rw [e.1, e.2, hF] at hu
      simp only [Option.some.injEq, Prod.mk.injEq] at hu
      exact ⟨v, by rw [hu.2]⟩
    · exact ⟨u, hu⟩

/-- A cell that was 0 gets a number. -/
theorem mf_new {A : Nat → Prop} {n : Nat} {L : List Bk} {f : Int → Int → Int} {F : FF} (h : MF A n L f F) {i : Nat} {j v : Int} {d : Bk} (hd : L[i]? = some d) (hb : inB (szs L) i j = true) (hv : v ≠ 0) (hF : F i j = none) (v' : Value) :
    MF A (n + 1) (L.set i ⟨d.c, d.H ++ [j], v'⟩) (upd f i j v) (updF F i j (some (v, (d.H.length : Int)))) := by
  refine ⟨fun a b => ?_, by rw [szs_set hd]; exact upd_out h.out hb, fun x e b v1 k' he hq => ?_, fun x e m o hA he hm => ?_, fun x e he => ?_⟩
  · simp only [upd, updF]
    split
    · simp only [Option.map_some]
    · exact h.val a b
  · simp only [updF] at hq
    rcases set_each hd he with ⟨rfl, rfl⟩ | ⟨hne, he⟩
    · split at hq
      · rename_i e
        simp only [Option.some.injEq, Prod.mk.injEq] at hq
        obtain ⟨rfl, rfl⟩ := hq
        refine ⟨by omega, ?_⟩
        rw [e.2]
        simp
      · have := h.pos x d b v1 k' hd hq
        refine ⟨this.1, ?_⟩
        rw [List.getElem?_append_left (List.getElem?_eq_some_iff.1 this.2).1]
        exact this.2
    · rw [if_neg (by omega)] at hq
      exact h.pos x e b v1 k' he hq
  · simp only [updF]
    rcases set_each hd he with ⟨rfl, rfl⟩ | ⟨hne, he⟩
    · by_cases hm' : m < d.H.length
      · rw [List.getElem?_append_left hm'] at hm
        obtain ⟨u, hu⟩ := h.lst x d m o hA hd hm
        rw [if_neg (by rintro ⟨-, rfl⟩; rw [hF] at hu; cases hu)]
        exact ⟨u, hu⟩
      · have := (List.getElem?_eq_some_iff.1 hm).1
        simp at this
        have e1 : m = d.H.length := by omega
        subst e1
        simp at hm
        subst hm
        exact ⟨v, by simp⟩
    · obtain ⟨u, hu⟩ := h.lst x e m o hA he hm
      rw [if_neg (by omega)]
      exact ⟨u, hu⟩
  · rcases set_each hd he with ⟨rfl, rfl⟩ | ⟨hne, he⟩
    · have := h.len x d hd
      simp; omega
    · exact Nat.le_succ_of_le (h.len x e he)

/-- A cell that isn't 0 gets 0: another one of its block's comes to its place, or none is left. -/
theorem mf_gone {n : Nat} {L : List Bk} {f : Int → Int → Int} {F : FF} (h : MF (fun _ => True) n L f F) {i k : Nat} {j v0 : Int} {d : Bk} (hd : L[i]? = some d) (hb : inB (szs L) i j = true) (hF : F i j = some (v0, (k : Int))) {mv : Int} (hmv : d.H[d.H.length - 1]? = some mv) (v' : Value) :
    (mv = j → MF (fun _ => True) n (L.set i ⟨d.c, (d.H.set k mv).take (d.H.length - 1), v'⟩) (upd f i j 0) (updF F i j none)) ∧
    (mv ≠ j → MF (fun _ => True) (n + 1) (L.set i ⟨d.c, (d.H.set k mv).take (d.H.length - 1), v'⟩) (upd f i j 0) (updF (updF F i j none) i mv (some (c1 (updF F i j none i mv), (k : Int)))) ∧ k < d.H.length - 1) := by
  have hk := (h.pos i d j v0 k hd hF).2
  rw [Int.toNat_natCast] at hk
  have hkl := (List.getElem?_eq_some_iff.1 hk).1
  obtain ⟨ul, hul⟩ := h.lst i d (d.H.length - 1) mv trivial hd hmv
  have hin : ∀ m o, m < d.H.length - 1 → ((d.H.set k mv).take (d.H.length - 1))[m]? = some o → (m = k ∧ o = mv) ∨ (m ≠ k ∧ d.H[m]? = some o) := fun m o hm e => by
    rw [List.getElem?_take_of_lt hm, List.getElem?_set] at e
    by_cases e1 : k = m
    · rw [if_pos e1, if_pos (by omega)] at e
      exact Or.inl ⟨e1.symm, (Option.some.inj e).symm⟩
    · rw [if_neg e1] at e
      exact Or.inr ⟨fun q => e1 q.symm, e⟩
  have hlt : ∀ m o, ((d.H.set k mv).take (d.H.length - 1))[m]? = some o → m < d.H.length - 1 := fun m o e => by
    have := (List.getElem?_eq_some_iff.1 e).1
    simp at this
    omega
  have hlen : ∀ (x : Nat) (e : Bk), (L.set i ⟨d.c, (d.H.set k mv).take (d.H.length - 1), v'⟩)[x]? = some e → e.H.length ≤ n := fun x e he => by
    rcases set_each hd he with ⟨rfl, rfl⟩ | ⟨hne, he⟩
    · have := h.len x d hd
      simp; omega
    · exact h.len x e he
  constructor
  · rintro rfl
    have hkk : k = d.H.length - 1 := by
      rw [hF] at hul
      simp only [Option.some.injEq, Prod.mk.injEq] at hul
      omega
    refine ⟨fun a b => ?_, by rw [szs_set hd]; exact upd_out h.out hb, fun x e b v1 k' he hq => ?_, fun x e m o hA he hm => ?_, hlen⟩
    · simp only [upd, updF]
      split
      · simp
      · exact h.val a b
    · simp only [updF] at hq
      rcases set_each hd he with ⟨rfl, rfl⟩ | ⟨hne, he⟩
      · split at hq
        · cases hq
        · rename_i hne
          obtain ⟨p1, p2⟩ := h.pos x d b v1 k' hd hq
          have hbm : b ≠ mv := fun q => hne ⟨rfl, q⟩
          have hk1 : k'.toNat ≠ k := fun q => by rw [q, hk] at p2; exact hbm (Option.some.inj p2).symm
          have hk2 := (List.getElem?_eq_some_iff.1 p2).1
          refine ⟨p1, ?_⟩
          rw [List.getElem?_take_of_lt (by omega), List.getElem?_set, if_neg (by omega)]
          exact p2
      · rw [if_neg (by omega)] at hq
        exact h.pos x e b v1 k' he hq
    · simp only [updF]
      rcases set_each hd he with ⟨rfl, rfl⟩ | ⟨hne, he⟩
      · have hml := hlt m o hm
        rcases hin m o hml hm with ⟨q, -⟩ | ⟨hmk, hm⟩
        · omega
        · obtain ⟨u, hu⟩ := h.lst x d m o trivial hd hm
          rw [if_neg (by rintro ⟨-, rfl⟩; rw [hF] at hu; simp only [Option.some.injEq, Prod.mk.injEq] at hu; omega)]
          exact ⟨u, hu⟩
      · obtain ⟨u, hu⟩ := h.lst x e m o trivial he hm
        rw [if_neg (by omega)]
        exact ⟨u, hu⟩
  · intro hne0
    have hkk : k < d.H.length - 1 := by
      have : k ≠ d.H.length - 1 := fun q => by rw [← q, hk] at hmv; exact hne0 (Option.some.inj hmv).symm
      omega
    have hFm : updF F i j none i mv = F i mv := by simp [updF, hne0]
    have hfm : f i mv ≠ 0 := fun q => by rw [h.none.2 q] at hul; cases hul
    refine ⟨⟨fun a b => ?_, by rw [szs_set hd]; exact upd_out h.out hb, fun x e b v1 k' he hq => ?_, fun x e m o hA he hm => ?_, fun x e he => Nat.le_succ_of_le (hlen x e he)⟩, hkk⟩
    · rw [hFm, h.c1]
      simp only [upd, updF]
      by_cases e1 : a = (i : Int) ∧ b = mv
      · have e2 : (if a = (i : Int) ∧ b = j then 0 else f a b) = f i mv := by rw [if_neg (by rintro ⟨-, q⟩; exact hne0 (e1.2.symm.trans q)), e1.1, e1.2]
        rw [if_pos e1]
        simp only [e2, hfm, if_false]
        rfl
      · rw [if_neg e1]
        split
        · simp
        · exact h.val a b
    · rw [hFm] at hq
      simp only [updF] at hq
      rcases set_each hd he with ⟨rfl, rfl⟩ | ⟨hne, he⟩
      · by_cases e1 : b = mv
        · rw [if_pos ⟨rfl, e1⟩] at hq
          simp only [Option.some.injEq, Prod.mk.injEq] at hq
          obtain ⟨-, rfl⟩ := hq
          refine ⟨by omega, ?_⟩
          rw [Int.toNat_natCast, List.getElem?_take_of_lt hkk, List.getElem?_set, if_pos rfl, if_pos hkl, e1]
        · rw [if_neg (fun q => e1 q.2)] at hq
          split at hq
          · cases hq
          · rename_i hne
            obtain ⟨p1, p2⟩ := h.pos x d b v1 k' hd hq
            have hbj : b ≠ j := fun q => hne ⟨rfl, q⟩
            have hk1 : k'.toNat ≠ k := fun q => by rw [q, hk] at p2; exact hbj (Option.some.inj p2).symm
            have hk3 : k'.toNat ≠ d.H.length - 1 := fun q => by rw [q, hmv] at p2; exact e1 (Option.some.inj p2).symm
            have hk2 := (List.getElem?_eq_some_iff.1 p2).1
            refine ⟨p1, ?_⟩
            rw [List.getElem?_take_of_lt (by omega), List.getElem?_set, if_neg (by omega)]
            exact p2
      · rw [if_neg (by omega), if_neg (by omega)] at hq
        exact h.pos x e b v1 k' he hq
    · rw [hFm]
      simp only [updF]
      rcases set_each hd he with ⟨rfl, rfl⟩ | ⟨hne, he⟩
      · have hml := hlt m o hm
        rcases hin m o hml hm with ⟨rfl, rfl⟩ | ⟨hmk, hm⟩
        · exact ⟨_, by rw [if_pos ⟨rfl, rfl⟩]⟩
        · obtain ⟨u, hu⟩ := h.lst x d m o trivial hd hm
          rw [if_neg (by rintro ⟨-, rfl⟩; rw [hul] at hu; simp only [Option.some.injEq, Prod.mk.injEq] at hu; omega), if_neg (by rintro ⟨-, rfl⟩; rw [hF] at hu; simp only [Option.some.injEq, Prod.mk.injEq] at hu; omega)]
          exact ⟨u, hu⟩
      · obtain ⟨u, hu⟩ := h.lst x e m o trivial he hm
        rw [if_neg (by omega), if_neg (by omega)]
        exact ⟨u, hu⟩

end Go.Proofs.Ytaomkfhbnakbjaa.Me

namespace Go.Proofs.Ytaomkfhbnakbjaa.Me
open Go.RowKit
set_option linter.unusedVariables false
attribute [local go_sem ↓] run_fld0 run_fld1

/-- The same world but for its draws. -/
structure Sm (a b : World) : Prop where
  heap : a.heap = b.heap
  os : a.os = b.os
  tape : a.tape = b.tape
  output : a.output = b.output
theorem Sm.refl (a : World) : Sm a a := ⟨rfl, rfl, rfl, rfl⟩

/-- What drop reads behind the strike; behind its second box; behind its two stores. -/
structure D1 (Z : World) (p g h N i k len lc l hc : Nat) (j mv : Int) : Prop where
  p1 : Z.cell? ⟨p, 1, none⟩ = some (.slice (some ⟨g, 0, none⟩) len lc)
  n0 : Z.cell? ⟨N, 0, none⟩ = some (.int .i64 (i : Int))
  n1 : Z.cell? ⟨N, 1, none⟩ = some (.int .i64 j)
  gs : Z.cell? ⟨g, i * 2 + 1, none⟩ = some (.slice (some ⟨h, 0, none⟩) (l + 1) hc)
  hk : Z.cell? ⟨h, k, none⟩ = some (.int .i64 j)
  hl : Z.cell? ⟨h, l, none⟩ = some (.int .i64 mv)
  n0' : ∀ ob, (Z.alloc ob).cell? ⟨N, 0, none⟩ = some (.int .i64 (i : Int))
  gs' : ∀ ob, (Z.alloc ob).cell? ⟨g, i * 2 + 1, none⟩ = some (.slice (some ⟨h, 0, none⟩) (l + 1) hc)
  hl' : ∀ ob, (Z.alloc ob).cell? ⟨h, l, none⟩ = some (.int .i64 mv)
structure D2 (X : World) (g h N O i k l hc : Nat) (j mv : Int) : Prop where
  gs : X.cell? ⟨g, i * 2 + 1, none⟩ = some (.slice (some ⟨h, 0, none⟩) (l + 1) hc)
  o1 : X.cell? ⟨O, 1, none⟩ = some (.int .i64 mv)
  hk : X.cell? ⟨h, k, none⟩ = some (.int .i64 j)
  hf : X.frozen? ⟨h, k, none⟩ = false
  gf : X.frozen? ⟨g, i * 2 + 1, none⟩ = false
  ne : ¬ h = g
structure D3 (V : World) (p M N O i : Nat) (j mv : Int) : Prop where
  p0 : V.cell? ⟨p, 0, none⟩ = some (.map (some M))
  n0 : V.cell? ⟨N, 0, none⟩ = some (.int .i64 (i : Int))
  n1 : V.cell? ⟨N, 1, none⟩ = some (.int .i64 j)
  o0 : V.cell? ⟨O, 0, none⟩ = some (.int .i64 (i : Int))
  o1 : V.cell? ⟨O, 1, none⟩ = some (.int .i64 mv)

set_option maxRecDepth 100000 in
theorem drop_walk {w : World} (p M g h i k len lc l hc : Nat) (j mv v1 k1 : Int) (hlen : len ≤ 1000000) (hhl : l ≤ 100000000) (hi : i < len) (hk : k < l + 1) (hll : l + 1 ≤ hc) (hcm : hc ≤ 9223372036854775807) (R : World → Prop) (N : Nat) (hN : w.heap.size = N)
    (c0 : (w.alloc (.cells #[.int .i64 (i : Int), .int .i64 j] 130)).cell? ⟨p, 0, none⟩ = some (.map (some M)))
    (f0 : ∃ Z : World, (Builtin.delete_ #[99, 130] 0 #[.map (some M), .agg #[.int .i64 (i : Int), .int .i64 j]]).run Try.prog (w.alloc (.cells #[.int .i64 (i : Int), .int .i64 j] 130)).drew = .ok (.tuple #[]) Z ∧
      ∀ Y : World, Sm Y Z → D1 Y p g h N i k len lc l hc j mv ∧ ∀ X : World, Sm X (Y.alloc (.cells #[.int .i64 (i : Int), .int .i64 mv] 130)) → D2 X g h N Y.heap.size i k l hc j mv ∧
        ∀ V : World, Sm V ((X.setCell ⟨h, k, none⟩ (.int .i64 mv)).setCell ⟨g, i * 2 + 1, none⟩ (.slice (some ⟨h, 0, none⟩) l hc)) → D3 V p M N Y.heap.size i j mv ∧ (mv = j → R V) ∧
          (mv ≠ j → (Instr.lookup 99 (.map (some M)) (.agg #[.int .i64 (i : Int), .int .i64 mv]) false).run Try.prog V.drew = .ok (.agg #[.int .i64 v1, .int .i64 k1]) V.drew ∧
            ∃ Z2, (Instr.mapUpdate 99 (.map (some M)) (.agg #[.int .i64 (i : Int), .int .i64 mv]) (.agg #[.int .i64 v1, .int .i64 (k : Int)])).run Try.prog V.drew = .ok () Z2 ∧ R Z2)) :
    Calls Try.prog 102 #[.pointer (some ⟨p, 0, none⟩), .agg #[.int .i64 (i : Int), .int .i64 j], .int .i64 (k : Int)] w fun e w' => e = .returned (.tuple #[]) ∧ R w' := by
  obtain ⟨Z, z0, hZ⟩ := f0
  obtain ⟨⟨z1, z2, z3, z4, z5, z6, -, -, -⟩, -⟩ := hZ Z (Sm.refl Z)
  have HZ := hideIt hZ
  clear hZ
  have i0 : (0 : Int) ≤ (i : Int) := by omega
  have i1 : (i : Int) < (len : Int) := by omega
  have d1 : decide ((l : Int) < (k : Int)) = false := by simp; omega
  have d2 : decide (l < k) = false := by simp; omega
  have hk1 : (k : Int) < (l : Int) + 1 := by omega
  have hl1 : (l : Int) < (l : Int) + 1 := by omega
  have hl2 : (l : Int) ≤ (hc : Int) := by omega
  go_enter Try.func102, Try.ntmps102
  go_wp2_with (fail)
  go_region
  go_wp2_with (fail)
  go_region
  go_wp2_with (fail)
  go_quiet (fail)
  go_wp2_with (fail)
  generalize hY : Z.drew.drewN nq = Y
  obtain ⟨⟨-, y2, y3, y4, y5, y6, y7, y8, y9⟩, hX⟩ := HZ.out Y (by rw [← hY]; exact ⟨rfl, rfl, rfl, rfl⟩)
  have HX := hideIt hX
  clear hX hY z0 z1 z2 z3 z4 z5 z6
  go_region
  generalize hX : (Y.alloc _).drew = X
  obtain ⟨⟨x1, x2, x3, x4, x5, x6⟩, hV⟩ := HX.out X (by rw [← hX]; exact ⟨rfl, rfl, rfl, rfl⟩)
  obtain ⟨⟨u1, u2, u3, u4, u5⟩, -⟩ := hV _ (Sm.refl _)
  obtain ⟨-, hR1, hR2⟩ := hV (((X.setCell ⟨h, k, none⟩ (.int .i64 mv)).setCell ⟨g, i * 2 + 1, none⟩ (.slice (some ⟨h, 0, none⟩) l hc)).drew) ⟨rfl, rfl, rfl, rfl⟩
  have HR1 := hideIt hR1
  have HR2 := hideIt hR2
  clear hR1 hR2
  generalize Y.heap.size = O at *
  clear hV hX y2 y3 y4 y5 y6 y7 y8 y9
  go_wp2_with (fail)
  go_region
  by_cases hmj : mv = j
  · subst hmj
    go_wp2_with (fail)
    go_end0
    exact ⟨rfl, HR1.out trivial⟩
  · obtain ⟨lk, Z2, up, hz⟩ := HR2.out hmj
    have HZ2 := hideIt hz
    clear hz
    go_wp2_with (fail)
    go_region
    go_wp2_with (fail)
    go_end0
    exact ⟨rfl, HZ2.out⟩

end Go.Proofs.Ytaomkfhbnakbjaa.Me

namespace Go.Proofs.Ytaomkfhbnakbjaa.Me
open Go.RowKit
set_option linter.unusedVariables false

theorem MF.mono {A : Nat → Prop} {n n' : Nat} {L : List Bk} {f : Int → Int → Int} {F : FF} (h : MF A n L f F) (hn : n ≤ n') : MF A n' L f F :=
  ⟨h.val, h.out, h.pos, h.lst, fun i d e => Nat.le_trans (h.len i d e) hn⟩
theorem ownsRow_blk {w : World} {base : Nat} {e : TypeId} {size n : Nat} {v : Value} {xs : List Value} (h : w.ownsRow base e size v n xs) (h0 : 0 < n) :
    ∃ g cap cur, v = .slice (some ⟨g, 0, none⟩) n cap ∧ w.heap[g]? = some (.cells cur e (0, 0)) ∧ (∀ (q : Nat) (u : Value), xs[q]? = some u → cur[q]? = some u) ∧ base ≤ g ∧ n ≤ cap ∧ cap ≤ maxLen := by
  rcases h.2 with ⟨_, h2⟩ | ⟨g, cap, cur, hv, hg, hh, hn, hc, hs, ht⟩
  · omega
  · refine ⟨g, cap, cur, hv, hh, fun q u hu => ?_, hg, hn, hc⟩
    have hq := (List.getElem?_eq_some_iff.1 hu).1
    have h1 := h.1
    rw [← ht, List.getElem?_take_of_lt (by omega)] at hu
    simpa using hu
theorem heap_set {w : World} {b j : Nat} {cs : Array Value} {t : TypeId} (h : w.heap[b]? = some (.cells cs t (0, 0))) (u : Value) (X : World) (hX : X.heap = (w.setCell ⟨b, j, none⟩ u).heap) : X.heap[b]? = some (.cells (cs.setIfInBounds j u) t (0, 0)) := by
  rw [hX]; exact block_setCell h u
theorem heap_oth {w : World} {p : Addr} (u : Value) (X : World) (hX : X.heap = (w.setCell p u).heap) {b : Nat} (hb : b ≠ p.block) : X.heap[b]? = w.heap[b]? := by
  rw [hX]; exact Below.heap_setCell w p u b hb
theorem row_of_heap {w X : World} {base : Nat} {e : TypeId} {size : Nat} {v : Value} {n : Nat} {xs : List Value} (h : w.ownsRow base e size v n xs) (hX : X.heap = w.heap) : X.ownsRow base e size v n xs := ownsRow_block h fun k _ => by rw [hX]

set_option maxHeartbeats 1000000 in
theorem drop_any {w : World} {B : Nat} {bl : Nat → Prop} {p n : Nat} {L : List Bk} {f : Int → Int → Int} {F : FF} {t : Int} {M : Nat} {la : Option Addr} {lc : Nat} (h : MX w B bl p n L F t M la lc) (hf : MF (fun _ => True) n L f F) {i k : Nat} {j v0 : Int} {d : Bk} (hd : L[i]? = some d) (hb : inB (szs L) i j = true) (hF : F i j = some (v0, (k : Int)))
    (hI : I64 (i : Int)) (hJ : ∀ o ∈ d.H, I64 o) (hl : L.length ≤ 1000000) (hn : n ≤ 100000000) :
    Calls Try.prog 102 #[.pointer (some ⟨p, 0, none⟩), .agg #[.int .i64 (i : Int), .int .i64 j], .int .i64 (k : Int)] w fun e w' => e = .returned (.tuple #[]) ∧
      (∃ bl' : Nat → Prop, (∀ k, bl k → bl' k) ∧ (∀ k, bl' k → bl k ∨ w.heap.size ≤ k) ∧ MI w' B bl' p (n + 1) (szs L) (upd f i j 0) t) ∧ Fr bl w w' := by
  have hnm : n < maxLen := by unfold maxLen; omega
  have hk := (hf.pos i d j v0 k hd hF).2
  rw [Int.toNat_natCast] at hk
  have hkl := (List.getElem?_eq_some_iff.1 hk).1
  have hdl := hf.len i d hd
  have hil := (List.getElem?_eq_some_iff.1 hd).1
  obtain ⟨l, hll⟩ : ∃ l, d.H.length = l + 1 := ⟨d.H.length - 1, by omega⟩
  obtain ⟨mv, hmv⟩ : ∃ mv, d.H[l]? = some mv := ⟨_, List.getElem?_eq_getElem (by omega)⟩
  have hjI : I64 j := hJ j (List.mem_of_getElem? hk)
  have hmI : I64 mv := hJ mv (List.mem_of_getElem? hmv)
  obtain ⟨ha, hc, hcur, ev, hhb, hhc, hhB, hh1, hh2⟩ := ownsRow_blk (h.hld i d hd) (by omega)
  obtain ⟨g, gc, gcur, eg, hgb, hgc, hgB, hg1, hg2⟩ := ownsRow_blk h.row (by omega)
  simp only [Value.slice.injEq] at eg
  obtain ⟨rfl, -, rfl⟩ := eg
  obtain ⟨kb, kp, kM, kg⟩ := h.hin i d ha hd (by rw [ev]; rfl)
  obtain ⟨gb, gp, gM⟩ := h.own g rfl
  have hgh : ha ≠ g := fun e => kg (by rw [e]; rfl)
  have hpl := lt_of_some h.cells
  have hgl := lt_of_some hgb
  have hhl := lt_of_some hhb
  have hMl := h.map.lt
  have gi : gcur[i * 2 + 1]? = some d.v := hgc _ _ (bkCells_at L i d hd).2
  have hik : hcur[k]? = some (.int .i64 j) := hhc _ _ (rowN_at hk)
  have hil' : hcur[l]? = some (.int .i64 mv) := hhc _ _ (rowN_at hmv)
  rw [hll] at ev
  have hmv' : d.H[d.H.length - 1]? = some mv := by rw [hll]; exact hmv
  obtain ⟨G1, G2⟩ := mf_gone hf hd hb hF hmv' (.slice (some ⟨ha, 0, none⟩) l hc)
  rw [hll] at G1 G2
  simp only [Nat.add_sub_cancel] at G1 G2
  refine drop_walk p M g ha i k L.length lc l hc j mv (c1 (updF F i j none i mv)) (c2 (updF F i j none i mv)) hl (by omega) hil (by omega) (by omega) (by unfold maxLen at hh2; omega) _ w.heap.size rfl (cell_box (cell_of_block h.cells 0) _) ?_
  obtain ⟨Z, z1, z2, z3⟩ := (h.map.kept (w' := (w.alloc (.cells #[.int .i64 (i : Int), .int .i64 j] 130)).drew) (Below.heap_alloc _ _ _ hMl)).drop hI hjI 0
  have zb : ∀ b, b < w.heap.size → b ≠ M → Z.heap[b]? = w.heap[b]? := fun b hb hne => by
    rw [z3.block b (by show b < (w.alloc _).heap.size; simp; omega) (fun e => hne (Option.some.inj e))]
    exact Below.heap_alloc _ _ _ hb
  have zs : w.heap.size + 1 ≤ Z.heap.size := by have := z3.size; simpa using this
  have zN : Z.heap[w.heap.size]? = some (.cells #[.int .i64 (i : Int), .int .i64 j] 130 (0, 0)) := by
    rw [z3.block w.heap.size (by show w.heap.size < (w.alloc _).heap.size; simp) (fun e => by have := Option.some.inj e; omega)]
    exact heap_alloc_new w _
  refine ⟨Z, z1, fun Y hYs => ⟨?_, fun X hXs => ⟨?_, fun V hVs => ⟨?_, ?_⟩⟩⟩⟩
  all_goals have hY := hYs.heap
  · have hy : ∀ b : Nat, Y.heap[b]? = Z.heap[b]? := fun b => by rw [hY]
    have yp := (hy p).trans ((zb p hpl (fun e => h.Mnp e.symm)).trans h.cells)
    have yg := (hy g).trans ((zb g hgl gM).trans hgb)
    have yh := (hy ha).trans ((zb ha hhl kM).trans hhb)
    have yN := (hy w.heap.size).trans zN
    have a1 := cell_of_block yp 1
    have a2 := cell_of_block yN 0
    have a3 := cell_of_block yN 1
    have a4 := (cell_of_block yg (i * 2 + 1)).trans gi
    have a5 := (cell_of_block yh k).trans hik
    have a6 := (cell_of_block yh l).trans hil'
    rw [ev] at a4
    exact ⟨a1, a2, a3, a4, a5, a6, fun ob => cell_box a2 ob, fun ob => cell_box a4 ob, fun ob => cell_box a6 ob⟩
  all_goals
    have hX := hXs.heap
    have ys : Y.heap.size = Z.heap.size := by rw [hY]
    have xb : ∀ b, b < Y.heap.size → X.heap[b]? = Y.heap[b]? := fun b hb => by rw [hX]; exact Below.heap_alloc _ _ _ hb
    have xO : X.heap[Y.heap.size]? = some (.cells #[.int .i64 (i : Int), .int .i64 mv] 130 (0, 0)) := by rw [hX]; exact heap_alloc_new Y _
    have xw : ∀ b, b < w.heap.size → b ≠ M → X.heap[b]? = w.heap[b]? := fun b hb hne => by rw [xb b (by omega), hY]; exact zb b hb hne
    have xg : X.heap[g]? = _ := (xw g hgl gM).trans hgb
    have xh : X.heap[ha]? = _ := (xw ha hhl kM).trans hhb
    have xM : X.heap[M]? = Z.heap[M]? := by rw [xb M (by omega), hY]
    have xN : X.heap[w.heap.size]? = _ := (xb _ (by omega)).trans ((by rw [hY] : Y.heap[w.heap.size]? = Z.heap[w.heap.size]?).trans zN)
    have xs : X.heap.size = Z.heap.size + 1 := by rw [hX]; simp [ys]
  · have a4 := (cell_of_block xg (i * 2 + 1)).trans gi
    rw [ev] at a4
    exact ⟨a4, cell_of_block xO 1, (cell_of_block xh k).trans hik, free_of_block xh k, free_of_block xg _, hgh⟩
  all_goals
    have hV := hVs.heap
    have vo : ∀ b, b ≠ ha → b ≠ g → V.heap[b]? = X.heap[b]? := fun b h1 h2 => by rw [hV, Below.heap_setCell _ _ _ _ h2]; exact Below.heap_setCell _ _ _ _ h1
    have vs : V.heap.size = X.heap.size := by rw [hV]; simp
  · have vp : V.heap[p]? = _ := (vo p (fun e => kp e.symm) (fun e => gp e.symm)).trans ((xw p hpl (fun e => h.Mnp e.symm)).trans h.cells)
    have vN : V.heap[w.heap.size]? = _ := (vo _ (by omega) (by omega)).trans xN
    have vO : V.heap[Y.heap.size]? = _ := (vo _ (by omega) (by omega)).trans xO
    exact ⟨cell_of_block vp 0, cell_of_block vN 0, cell_of_block vN 1, cell_of_block vO 0, cell_of_block vO 1⟩
  · have vM : Mc V M n (updF F i j none) := z2.kept (by rw [vo M (fun e => kM e.symm) (fun e => gM e.symm)]; exact xM)
    have hMh : M ≠ ha := fun e => kM e.symm
    have rowX : X.ownsRow B 156 2 (.slice (some ⟨g, 0, none⟩) L.length lc) L.length (bkCells L) := ownsRow_block h.row fun q hq => by
      simp [Value.ownBlock] at hq; subst hq; exact xw _ hgl gM
    have hldX : X.ownsRow B 3 1 (.slice (some ⟨ha, 0, none⟩) (l + 1) hc) (l + 1) (rowN d.H) := by
      have := ownsRow_block (w' := X) (h.hld i d hd) (fun q hq => by rw [ev] at hq; simp [Value.ownBlock] at hq; subst hq; exact xw _ hhl kM)
      rw [ev, hll] at this
      exact this
    have r1 : V.ownsRow B 156 2 (.slice (some ⟨g, 0, none⟩) L.length lc) L.length ((bkCells L).set (i * 2 + 1) (.slice (some ⟨ha, 0, none⟩) l hc)) := by
      have a := ownsRow_block (w' := X.setCell ⟨ha, k, none⟩ (.int .i64 mv)) rowX (fun q hq => by simp [Value.ownBlock] at hq; subst hq; exact Below.heap_setCell _ _ _ _ (fun e => hgh e.symm))
      exact row_of_heap (ownsRow_set a (q := i * 2 + 1) (by omega) (.slice (some ⟨ha, 0, none⟩) l hc)) hV
    have r2 : V.ownsRow B 3 1 (.slice (some ⟨ha, 0, none⟩) l hc) ((d.H.set k mv).take l).length (rowN ((d.H.set k mv).take l)) := by
      have a := ownsRow_less (ownsRow_set hldX (q := k) (by omega) (.int .i64 mv)) (k := l) (by omega)
      have e1 : ((d.H.set k mv).take l).length = l := by simp; omega
      have e2 : rowN ((d.H.set k mv).take l) = ((rowN d.H).set k (.int .i64 mv)).take (l * 1) := by simp [rowN, List.map_take, List.map_set]
      rw [e1, e2]
      refine row_of_heap (ownsRow_block (w' := (X.setCell ⟨ha, k, none⟩ (.int .i64 mv)).setCell ⟨g, i * 2 + 1, none⟩ (.slice (some ⟨ha, 0, none⟩) l hc)) a fun q hq => ?_) hV
      simp [Value.ownBlock] at hq
      subst hq
      exact Below.heap_setCell _ _ _ _ hgh
    have hvb : ∀ q, bl q → q ≠ M → (Value.slice (some ⟨g, 0, none⟩) L.length lc).ownBlock ≠ some q → d.v.ownBlock ≠ some q → V.heap[q]? = w.heap[q]? := fun q q1 q2 q3 q4 => by
      rw [vo q (fun e => q4 (by rw [ev, e]; rfl)) (fun e => q3 (by rw [e]; rfl))]
      exact xw q (h.rng q q1).2 q2
    have hvv : ∀ q, (Value.slice (some ⟨ha, 0, none⟩) l hc).ownBlock = some q → d.v.ownBlock = some q ∨ (w.heap.size ≤ q ∧ B ≤ q) := fun q hq => Or.inl (by rw [ev]; exact hq)
    have hFV : Fr bl w V := ⟨hVs.os.trans (hXs.os.trans (hYs.os.trans z3.os)), hVs.tape.trans (hXs.tape.trans (hYs.tape.trans z3.tape)), hVs.output.trans (hXs.output.trans (hYs.output.trans z3.output)), by omega, fun b b1 b2 => by
      rw [vo b (fun e => b2 (by rw [e]; exact kb)) (fun e => b2 (by rw [e]; exact gb))]
      exact xw b b1 (fun e => b2 (by rw [e]; exact h.inM))⟩
    refine ⟨fun e => ?_, fun e => ?_⟩
    · obtain ⟨bl', b1, b2, b3⟩ := mx_held (n' := n + 1) h hd (vM.mono (Nat.le_succ _)) hvb (by omega) r1 r2 hvv
      exact ⟨⟨bl', b1, b2, _, _, _, _, _, b3, (G1 e).mono (Nat.le_succ _), szs_set hd _ _⟩, hFV⟩
    · refine ⟨(vM.kept (w' := V.drew) rfl).look hI hmI, ?_⟩
      obtain ⟨Z2, y1, y2, y3⟩ := (vM.kept (w' := V.drew) rfl).store hnm hI hmI (c1 (updF F i j none i mv)) (k : Int)
      have y4 : ∀ b, b < V.heap.size → b ≠ M → Z2.heap[b]? = V.heap[b]? := fun b b1 b2 => y3.block b b1 (fun e => b2 (Option.some.inj e))
      have ys2 : V.heap.size ≤ Z2.heap.size := y3.size
      refine ⟨Z2, y1, ?_, hFV.grown (show V.grownBy Z2 (some M) from ⟨y3.os, y3.tape, y3.output, y3.size, y3.block⟩) (fun q e => by cases e; exact Or.inl h.inM)⟩
      obtain ⟨bl', b1, b2, b3⟩ := mx_held (Y := Z2) (n' := n + 1) h hd y2 (fun q q1 q2 q3 q4 => by
          have := (h.rng q q1).2
          rw [y4 q (by omega) q2]; exact hvb q q1 q2 q3 q4) (by omega)
        (ownsRow_block r1 fun q hq => by simp [Value.ownBlock] at hq; subst hq; exact y4 _ (by omega) gM) (ownsRow_block r2 fun q hq => by simp [Value.ownBlock] at hq; subst hq; exact y4 _ (by omega) kM) hvv
      exact ⟨bl', b1, b2, _, _, _, _, _, b3, (G2 e).1, szs_set hd _ _⟩

end Go.Proofs.Ytaomkfhbnakbjaa.Me
