/-
  A row of nodes that grows while the document's put goes over a node's kids: what holds at each round, and what an append makes of it; facts on worlds; no conditions but those that each fact bears.
-/
import Derived.Test.YtioeoillogpdoaaPutsG
import Derived.Deep.AppendLies
namespace Go.Proofs.Ytioeoillogpdoaa
open Go.RowKit
set_option linter.unusedVariables false

/-- A forest that lies in other blocks than the row that grew. -/
theorem in_grown {w w' : World} {row : Option Nat} (hg : w.grownBy w' row) : ∀ {f : Fo} {a : Option Addr}, In w a f → Av (fun b => row ≠ some b) a f → In w' a f := by
  intro f
  induction f with
  | nil => intro a _ _; trivial
  | cons v ka kc k r ihk ihr =>
    intro a h hav
    obtain ⟨b, o, rfl, hat, hv, hs, hk, hr⟩ := h
    obtain ⟨h1, h2, h3⟩ := hav
    refine ⟨b, o, rfl, fun j hj => ?_, hv, hs, ihk hk h2, ihr hr h3⟩
    have hc := hat j hj
    rw [hg.cell_far ⟨b, o + j, none⟩ ?_ ?_]
    · exact hc
    · have : ∃ u, w.cell? ⟨b, o + j, none⟩ = some u := by
        rw [hc]
        exact ⟨_, List.getElem?_eq_getElem hj⟩
      obtain ⟨u, hu⟩ := this
      exact World.block_lt_of_cell? w _ hu
    · exact fun e => h1 ⟨b, o, none⟩ rfl e.symm
theorem ki_grown {w w' : World} {row : Option Nat} (hg : w.grownBy w' row) : ∀ {f : Fo}, KI w f → KAv (fun b => row ≠ some b) f → KI w' f := by
  intro f
  induction f with
  | nil => intro _ _; trivial
  | cons v ka kc k r _ ihr =>
    intro h hav
    obtain ⟨hv, hs, hk, hr⟩ := h
    exact ⟨hv, hs, in_grown hg hk hav.1, ihr hr hav.2⟩
theorem kav_lt {w : World} : ∀ {f : Fo}, KI w f → KAv (fun b => b < w.heap.size) f := by
  intro f
  induction f with
  | nil => intro _; trivial
  | cons v ka kc k r _ ihr =>
    intro h
    obtain ⟨hv, hs, hk, hr⟩ := h
    exact ⟨av_in hk, ihr hr⟩
theorem Av.and {P P' : Nat → Prop} : ∀ {f : Fo} {a : Option Addr}, Av P a f → Av P' a f → Av (fun b => P b ∧ P' b) a f := by
  intro f
  induction f with
  | nil => intro a _ _; trivial
  | cons v ka kc k r ihk ihr => intro a h h'; exact ⟨fun p hp => ⟨h.1 p hp, h'.1 p hp⟩, ihk h.2.1 h'.2.1, ihr h.2.2 h'.2.2⟩
theorem KAv.and {P P' : Nat → Prop} : ∀ {f : Fo}, KAv P f → KAv P' f → KAv (fun b => P b ∧ P' b) f := by
  intro f
  induction f with
  | nil => intro _ _; trivial
  | cons v ka kc k r _ ihr => intro h h'; exact ⟨h.1.and h'.1, ihr h.2 h'.2⟩

/-- What holds ahead of a round: so many kids have been gone over, and the row holds what they became. -/
structure PI (w : World) (v : NF) (s : Value) (W0 : Nat) (F f : Fo) (d : Int) (i : Nat) (G : Fo) (u : Value) (wr : World) : Prop where
  hi : i ≤ f.len
  pre : ∃ P, Cp P G ∧ putS F d f = P.app (putS F (d - ((f.take i).size : Int)) (f.drop i))
  q : Q (boxed2 w v s (nf 0 0) (.slice none 0 0)) wr
  out : wr.heap[w.heap.size + 1 + 1]? = some (.cells (cellsN v u).toArray 26 (0, 0))
  own : wr.ownsRow (w.heap.size + 1 + 1 + 1) 26 10 u G.len (cellsF G)
  ki : KI wr G
  av : KAv (fun b => (b < W0 ∨ w.heap.size + 1 + 1 + 1 ≤ b) ∧ u.ownBlock ≠ some b) G

theorem PI.bound {w : World} {v : NF} {s : Value} {W0 : Nat} {F f : Fo} {d : Int} {i : Nat} {G : Fo} {u : Value} {wr : World} (h : PI w v s W0 F f d i G u wr) : G.len ≤ f.len + F.len := by
  obtain ⟨P, h1, h2⟩ := h.pre
  have k := putS_len F f d
  rw [h2, app_len] at k
  rw [h1.len]
  omega
theorem PI.lt {w : World} {v : NF} {s : Value} {W0 : Nat} {F f : Fo} {d : Int} {i : Nat} {G : Fo} {u : Value} {wr : World} (h : PI w v s W0 F f d i G u wr) : w.heap.size + 1 + 1 < wr.heap.size := by
  rcases Nat.lt_or_ge (w.heap.size + 1 + 1) wr.heap.size with k | k
  · exact k
  · have := h.out
    rw [Array.getElem?_eq_none k] at this
    cases this
theorem PI.keep {w : World} {v : NF} {s : Value} {W0 : Nat} {F f : Fo} {d : Int} {i : Nat} {G : Fo} {u : Value} {wr z : World} (h : PI w v s W0 F f d i G u wr) (hq : Q wr z) : PI w v s W0 F f d i G u z where
  hi := h.hi
  pre := h.pre
  q := h.q.trans hq
  out := by rw [hq.block _ h.lt]; exact h.out
  own := ownsRow_block h.own (fun k hk => hq.block k (h.own.lt k hk).2)
  ki := h.ki.keep hq
  av := h.av
/-- A list is appended to the row, and the row's slice is written into the box. -/
theorem PI.app {w : World} {v : NF} {s : Value} {W0 : Nat} {F f : Fo} {d : Int} {i : Nat} {G : Fo} {u : Value} {wr : World} (h : PI w v s W0 F f d i G u wr) (hi' : i + 1 ≤ f.len) (F' : Fo) (hW : W0 ≤ w.heap.size)
    (hF : KI wr F') (hA : KAv (fun b => (b < W0 ∨ w.heap.size + 1 + 1 + 1 ≤ b) ∧ u.ownBlock ≠ some b) F') {w1 : World} {g cap : Nat}
    (hown : w1.ownsRow (w.heap.size + 1 + 1 + 1) 26 10 (.slice (some ⟨g, 0, none⟩) (G.len + F'.len) cap) (G.len + F'.len) (cellsF G ++ cellsF F')) (hgrow : wr.grownBy w1 u.ownBlock) (hat : u.ownBlock = some g ∨ g = wr.heap.size)
    (pre' : ∃ P, Cp P (G.app F') ∧ putS F d f = P.app (putS F (d - ((f.take (i + 1)).size : Int)) (f.drop (i + 1)))) :
    PI w v s W0 F f d (i + 1) (G.app F') (.slice (some ⟨g, 0, none⟩) (G.len + F'.len) cap) (w1.setCell ⟨w.heap.size + 1 + 1, 9, none⟩ (.slice (some ⟨g, 0, none⟩) (G.len + F'.len) cap)) := by
  have hlt := h.lt
  have hgb : w.heap.size + 1 + 1 + 1 ≤ g := (hown.lt g rfl).1
  have hne : ∀ k, u.ownBlock = some k → w.heap.size + 1 + 1 + 1 ≤ k := fun k hk => (h.own.lt k hk).1
  have hKK : KI wr (G.app F') := h.ki.app hF
  have hAA : KAv (fun b => (b < W0 ∨ w.heap.size + 1 + 1 + 1 ≤ b) ∧ u.ownBlock ≠ some b) (G.app F') := h.av.app hA
  have hLL := hAA.and (kav_lt hKK)
  have hout1 : w1.heap[w.heap.size + 1 + 1]? = some (.cells (cellsN v u).toArray 26 (0, 0)) := by
    rw [hgrow.block _ hlt (fun e => by have := hne _ e.symm; omega)]
    exact h.out
  refine ⟨hi', pre', ?_, ?_, ?_, ?_, ?_⟩
  · refine Below.setCell (Below.grown h.q hgrow h.q.size (fun k hk => by have := hne k hk; simp; omega)) ?_ _
    simp
  · simp only [World.setCell]
    rw [Array.getElem?_modify, if_pos rfl, hout1]
    rfl
  · rw [app_len, cellsF_app]
    refine ownsRow_block hown (fun k hk => ?_)
    have e : g = k := by simpa [Value.ownBlock] using hk
    subst e
    exact Below.heap_setCell w1 ⟨w.heap.size + 1 + 1, 9, none⟩ _ g (by simp; omega)
  · refine ki_set (ki_grown hgrow hKK (hAA.mono (fun b hb => hb.2))) (hAA.mono (fun b hb => ?_))
    show b ≠ w.heap.size + 1 + 1
    have := hb.1
    omega
  · refine hLL.mono (fun b hb => ⟨hb.1.1, ?_⟩)
    show some g ≠ some b
    rintro e
    cases e
    rcases hat with e | e
    · exact hb.1.2 e
    · have := hb.2
      omega
/-- What a kid becomes. -/
theorem put_step (F f : Fo) (d : Int) (i : Nat) (v' : NF) (ka : Option Addr) (kc : Nat) (ks : Fo) (e : f.drop i = .cons v' ka kc ks (f.drop (i + 1))) {P : Fo} (h : putS F d f = P.app (putS F (d - ((f.take i).size : Int)) (f.drop i))) :
    ((f.take (i + 1)).size : Int) = (f.take i).size + ks.size + 1 ∧
    (d = (f.take i).size → putS F d f = (P.app F).app (putS F (d - ((f.take (i + 1)).size : Int)) (f.drop (i + 1)))) ∧
    (d ≠ (f.take i).size → putS F d f = (P.app (.cons v' ka kc (putS F (d - (f.take i).size - 1) ks) .nil)).app (putS F (d - ((f.take (i + 1)).size : Int)) (f.drop (i + 1)))) := by
  have h1 := size_take_drop f i
  have h2 := size_take_drop f (i + 1)
  have h3 : (f.drop i).size = ks.size + 1 + (f.drop (i + 1)).size := by rw [e]; rfl
  have hs : ((f.take (i + 1)).size : Int) = (f.take i).size + ks.size + 1 := by omega
  refine ⟨hs, fun hd => ?_, fun hd => ?_⟩
  · rw [h, e]
    simp only [putS]
    rw [if_pos (by omega), app_assoc, show d - ((f.take i).size : Int) - ((ks.size : Int) + 1) = d - ((f.take (i + 1)).size : Int) by omega]
  · rw [h, e]
    simp only [putS]
    rw [if_neg (by omega), app_assoc, show d - ((f.take i).size : Int) - ((ks.size : Int) + 1) = d - ((f.take (i + 1)).size : Int) by omega]
    rfl

end Go.Proofs.Ytioeoillogpdoaa
