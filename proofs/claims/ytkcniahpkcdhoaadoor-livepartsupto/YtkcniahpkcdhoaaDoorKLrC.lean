/-
  Lists of lists of yes and no of one's own; the document's steps of what is live, plainly: facts on worlds and lists; no conditions but those that each fact bears.
-/
import Derived.Test.YtkcniahpkcdhoaaDoorKLrB
namespace Go.Proofs.YtkcniahpkcdhoaaDoor.Lv
open Go.RowKit
set_option linter.unusedVariables false

abbrev slc (b n : Nat) : Value := .slice (some ⟨b, 0, none⟩) n n
abbrev mapS (many n : Nat) (h : Nat → Nat) : List Value := (List.range many).map (fun k => slc (h k) n)
theorem mapS_len (many n : Nat) (h : Nat → Nat) : (mapS many n h).length = many := by simp [mapS]
theorem mapS_get {many n : Nat} (h : Nat → Nat) {k : Nat} (hk : k < many) : (mapS many n h)[k]? = some (slc (h k) n) := by simp [mapS, hk]
def upN {α : Type} (f : Nat → α) (i : Nat) (x : α) : Nat → α := fun k => if k = i then x else f k
theorem mapS_snoc (many n : Nat) (h : Nat → Nat) (b : Nat) : mapS (many + 1) n (upN h many b) = mapS many n h ++ [slc b n] := by
  unfold mapS
  rw [List.range_succ, List.map_append]
  congr 1
  · refine List.map_congr_left (fun k hk => ?_)
    have := List.mem_range.1 hk
    simp only [upN]
    rw [if_neg (by omega)]
  · simp [upN]
/-- Lists of one's own, one for each part. -/
structure IN (X z : World) (v : Value) (many n : Nat) (h : Nat → Nat) (G : Nat → Nat → Bool) : Prop where
  q : Q X z
  row : z.ownsRow X.heap.size 44 1 v many (mapS many n h)
  inn : ∀ k, k < many → OwnB X.heap.size z (slc (h k) n) n (G k)
  inj : ∀ k j, k < many → j < many → h k = h j → k = j
  far : ∀ k, k < many → v.ownBlock ≠ some (h k)
section
variable {X z z1 w1 : World} {v : Value} {many n : Nat} {h : Nat → Nat} {G : Nat → Nat → Bool}
theorem IN.keep (i : IN X z v many n h G) (q : Q z z1) : IN X z1 v many n h G := ⟨i.q.trans q, row_q i.row (fun b hb => q.block b (i.row.lt b hb).2), fun k hk => OwnB.q (i.inn k hk) q, i.inj, i.far⟩
theorem IN.congr {G' : Nat → Nat → Bool} (i : IN X z v many n h G) (e : ∀ k, k < many → ∀ r, r < n → G k r = G' k r) : IN X z v many n h G' := ⟨i.q, i.row, fun k hk => OwnB.congr (i.inn k hk) (e k hk), i.inj, i.far⟩
theorem IN.form (i : IN X z v many n h G) (hm : 0 < many) : ∃ g cap, v = .slice (some ⟨g, 0, none⟩) many cap ∧ ∀ k, k < many → z.cell? ⟨g, k, none⟩ = some (slc (h k) n) := by
  obtain ⟨g, cap, e, -, -⟩ := i.row.form hm
  subst e
  refine ⟨g, cap, rfl, fun k hk => ?_⟩
  rw [World.ownsRow.cellAt i.row k (by omega), mapS_get h hk]
theorem IN.rws (i : IN X z v many n h G) (hm : 0 < many) : Rws z v many n G := by
  obtain ⟨g, cap, e, hc⟩ := i.form hm
  exact ⟨g, cap, e, fun k hk => ⟨_, hc k hk, (i.inn k hk).rd⟩⟩
theorem IN.start (X : World) (n : Nat) : IN X X (.slice none 0 0) 0 n (fun _ => 0) (fun _ _ => false) := ⟨Q.refl X, ⟨rfl, Or.inl ⟨rfl, rfl⟩⟩, fun k hk => by omega, fun k j hk => by omega, fun k hk => by omega⟩
/-- One more. -/
theorem IN.app (i : IN X z v many n h G) (q : Q z z1) {b : Nat} {B : Nat → Bool} (hb : z.heap.size ≤ b) (ho : OwnB z.heap.size z1 (slc b n) n B) {g cap : Nat}
    (hg : (z1.alloc (.cells #[slc b n] 44)).grownBy w1 v.ownBlock) (hown : w1.ownsRow X.heap.size 44 1 (.slice (some ⟨g, 0, none⟩) (many + 1) cap) (many + 1) (mapS many n h ++ [slc b n])) (hat : v.ownBlock = some g ∨ g = z1.heap.size + 1) :
    IN X w1 (.slice (some ⟨g, 0, none⟩) (many + 1) cap) (many + 1) n (upN h many b) (upN G many B) := by
  have hXz := i.q.size
  have hzz := q.size
  have hs : (z1.alloc (.cells #[slc b n] 44)).heap.size = z1.heap.size + 1 := by simp
  have hbl : b < z1.heap.size := (ho.lt b rfl).2
  have vlt : ∀ c, v.ownBlock = some c → X.heap.size ≤ c ∧ c < z.heap.size := fun c hc => i.row.lt c hc
  have hlt : ∀ k, k < many → h k < z.heap.size := fun k hk => ((i.inn k hk).lt (h k) rfl).2
  have keep : ∀ c, c < z1.heap.size → v.ownBlock ≠ some c → w1.heap[c]? = z1.heap[c]? := fun c hc hn => (hg.block c (by omega) (fun e => hn e.symm)).trans (((Q.refl z1).alloc _).block c hc)
  have hgk : ∀ k, k < many → g ≠ h k := fun k hk e => by
    rcases hat with r | r
    · exact i.far k hk (by rw [r, e])
    · have := hlt k hk; omega
  have hgb : g ≠ b := fun e => by
    rcases hat with r | r
    · have := (vlt g r).2; omega
    · omega
  refine ⟨grown_q ((i.q.trans q).alloc _) hg (fun c hc => (vlt c hc).1), by rw [mapS_snoc]; exact hown, fun k hk => ?_, fun k j hk hj e => ?_, fun k hk e => ?_⟩
  · by_cases e : k = many
    · subst e
      simp only [upN, if_true]
      exact row_mono (row_q ho (fun c hc => by injection hc with hc; have hc' : b = c := hc; subst hc'; exact keep b hbl (fun e => by have := (vlt b e).2; omega))) (by omega)
    · simp only [upN, if_neg e]
      have hk' : k < many := by omega
      exact row_q (OwnB.q (i.inn k hk') q) (fun c hc => by injection hc with hc; have hc' : h k = c := hc; subst hc'; exact keep (h k) (by have := hlt k hk'; omega) (i.far k hk'))
  · by_cases e1 : k = many
    · by_cases e2 : j = many
      · omega
      · simp only [upN, if_pos e1, if_neg e2] at e
        have := hlt j (by omega)
        omega
    · by_cases e2 : j = many
      · simp only [upN, if_pos e2, if_neg e1] at e
        have := hlt k (by omega)
        omega
      · simp only [upN, if_neg e1, if_neg e2] at e
        exact i.inj k j (by omega) (by omega) e
  · injection e with e
    have e' : g = upN h many b k := e
    by_cases e1 : k = many
    · simp only [upN, if_pos e1] at e'
      exact hgb e'
    · simp only [upN, if_neg e1] at e'
      exact hgk k (by omega) e'
/-- A yes is written. -/
theorem IN.set (i : IN X z v many n h G) {k r : Nat} (hk : k < many) (hr : r < n) : z.cell? ⟨h k, r, none⟩ = some (.bool (G k r)) ∧ z.frozen? ⟨h k, r, none⟩ = false ∧ IN X (z.setCell ⟨h k, r, none⟩ (.bool true)) v many n h (upN G k (updB (G k) r true)) := by
  obtain ⟨t1, t2, t3, t4⟩ := own_setB i.q (i.inn k hk) hr true
  have other : ∀ c, c ≠ h k → (z.setCell ⟨h k, r, none⟩ (.bool true)).heap[c]? = z.heap[c]? := fun c hc => Below.heap_setCell z ⟨h k, r, none⟩ _ c hc
  refine ⟨t1, t2, t3, row_q i.row (fun c hc => other c (fun e => i.far k hk (by rw [hc, e]))), fun j hj => ?_, i.inj, i.far⟩
  by_cases e : j = k
  · subst e
    simp only [upN, if_true]
    exact t4
  · simp only [upN, if_neg e]
    exact row_q (i.inn j hj) (fun c hc => by injection hc with hc; have hc' : h j = c := hc; subst hc'; exact other _ (fun q => e (i.inj j k hj hk q)))
end

/-- A step of the document: what is live ahead of a part, of what is known so far. -/
def stepG (l : List PP) (p : PP) (k : Nat) (G : Nat → Nat → Bool) (r : Nat) : Bool := befL p.ins (fun r => cdB p r || behG l k G r) r
theorem beh_out (l : List PP) (k r : Nat) : behG l k (liB l) r = ouB l k r := by
  refine bool_iff ?_
  rw [ouB_iff]
  unfold behG OutR
  cases hp : l[k]? with
  | none => simp
  | some p =>
    simp only [List.any_eq_true, liB_iff]
    constructor
    · rintro ⟨x, hx, h⟩; exact ⟨p, rfl, x, hx, h⟩
    · rintro ⟨p', e, x, hx, h⟩; injection e with e; subst e; exact ⟨x, hx, h⟩
theorem step_li (l : List PP) (p : PP) (k : Nat) (hp : l[k]? = some p) (r : Nat) : stepG l p k (liB l) r = liB l k r := by
  rw [li_bef l k p hp r]
  unfold stepG
  have e : (fun r => cdB p r || behG l k (liB l) r) = (fun r => cdB p r || ouB l k r) := by
    funext r
    rw [beh_out]
  rw [e]
theorem beh_mono {l : List PP} {k : Nat} {G G' : Nat → Nat → Bool} (h : ∀ k r, G k r = true → G' k r = true) (r : Nat) : behG l k G r = true → behG l k G' r = true := by
  unfold behG
  cases l[k]? with
  | none => simp
  | some p =>
    simp only [List.any_eq_true]
    rintro ⟨x, hx, h1⟩
    exact ⟨x, hx, h _ _ h1⟩
theorem bef_mono {l : List PI} {S S' : Nat → Bool} (h : ∀ r, S r = true → S' r = true) (r : Nat) : befL l S r = true → befL l S' r = true := by
  rw [befL_iff, befL_iff]
  rintro (a | ⟨a, b⟩)
  · exact Or.inl a
  · exact Or.inr ⟨h r a, b⟩
theorem step_sound {l : List PP} {p : PP} {k : Nat} (hp : l[k]? = some p) {G : Nat → Nat → Bool} (h : ∀ k r, G k r = true → liB l k r = true) (r : Nat) : stepG l p k G r = true → liB l k r = true := by
  intro hs
  rw [← step_li l p k hp r]
  refine bef_mono (fun r h1 => ?_) r hs
  rw [Bool.or_eq_true] at h1 ⊢
  rcases h1 with a | a
  · exact Or.inl a
  · exact Or.inr (beh_mono h r a)
/-- What is closed under the steps is all. -/
theorem closed_all {l : List PP} {G : Nat → Nat → Bool} {n : Nat} (hc : ∀ k p, l[k]? = some p → ∀ r, r < n → stepG l p k G r = true → G k r = true) {k r : Nat} (hr : r < n) (h : LiveR l k r) : G k r = true := by
  induction h with
  | read hp h1 =>
    refine hc _ _ hp _ hr ?_
    unfold stepG
    rw [befL_iff]
    rw [RdQ_iff, befL_iff] at h1
    rcases h1 with a | ⟨a, b⟩
    · exact Or.inl a
    · exact Or.inr ⟨by rw [a]; rfl, b⟩
  | thru hp hx h1 h2 ih =>
    refine hc _ _ hp _ hr ?_
    unfold stepG
    rw [befL_iff]
    refine Or.inr ⟨?_, h2⟩
    rw [Bool.or_eq_true]
    refine Or.inr ?_
    unfold behG
    rw [hp]
    simp only [List.any_eq_true]
    exact ⟨_, hx, ih hr⟩

/-- How many are no. -/
def noG (many n : Nat) (G : Nat → Nat → Bool) : Nat := sumK many (fun k => (List.range n).countP (fun r => !G k r))
/-- The lists while a part's row is gone through. -/
def midG (G : Nat → Nat → Bool) (k : Nat) (S : Nat → Bool) (r : Nat) : Nat → Nat → Bool := upN G k (fun q => if q < r then (G k q || S q) else G k q)
def newG (G : Nat → Nat → Bool) (k : Nat) (S : Nat → Bool) (r : Nat) : Bool := (List.range r).any (fun q => S q && !G k q)
theorem new_snoc (G : Nat → Nat → Bool) (k : Nat) (S : Nat → Bool) (r : Nat) : newG G k S (r + 1) = (newG G k S r || (S r && !G k r)) := by
  unfold newG
  rw [List.range_succ, List.any_append]
  simp
theorem mid_zero (G : Nat → Nat → Bool) (k : Nat) (S : Nat → Bool) : midG G k S 0 = G := by
  funext j q
  unfold midG upN
  split
  · rename_i e; subst e; dsimp only; rw [if_neg (by omega)]
  · rfl
theorem mid_at (G : Nat → Nat → Bool) (k : Nat) (S : Nat → Bool) (r : Nat) : midG G k S r k r = G k r := by
  unfold midG upN
  rw [if_pos rfl, if_neg (by omega)]
/-- A yes, where there is one to be written. -/
theorem mid_yes {G : Nat → Nat → Bool} {k : Nat} {S : Nat → Bool} {r : Nat} (hs : S r = true) (j q : Nat) : upN (midG G k S r) k (updB (midG G k S r k) r true) j q = midG G k S (r + 1) j q := by
  unfold midG upN updB
  by_cases e : j = k
  · simp only [if_pos e, if_true]
    by_cases e2 : q = r
    · rw [if_pos e2, if_pos (by omega), e2, hs, Bool.or_true]
    · rw [if_neg e2]
      by_cases e3 : q < r
      · rw [if_pos e3, if_pos (by omega)]
      · rw [if_neg e3, if_neg (by omega)]
  · simp only [if_neg e]
theorem mid_no {G : Nat → Nat → Bool} {k : Nat} {S : Nat → Bool} {r : Nat} (hs : (S r && !G k r) = false) (j q : Nat) : midG G k S r j q = midG G k S (r + 1) j q := by
  unfold midG upN
  by_cases e : j = k
  · simp only [if_pos e]
    by_cases e3 : q < r
    · rw [if_pos e3, if_pos (by omega)]
    · rw [if_neg e3]
      by_cases e2 : q = r
      · subst e2
        rw [if_pos (by omega)]
        cases h1 : S q <;> cases h2 : G k q <;> simp_all
      · rw [if_neg (by omega)]
  · simp only [if_neg e]
theorem mid_le (G : Nat → Nat → Bool) (k : Nat) (S : Nat → Bool) (r : Nat) (j q : Nat) (h : G j q = true) : midG G k S r j q = true := by
  unfold midG upN
  split
  · rename_i e
    subst e
    dsimp only
    split
    · rw [h]; rfl
    · exact h
  · exact h
theorem mid_sound {G : Nat → Nat → Bool} {k : Nat} {S : Nat → Bool} {r : Nat} {L : Nat → Nat → Bool} (hG : ∀ j q, G j q = true → L j q = true) (hS : ∀ q, S q = true → L k q = true) (j q : Nat) (h : midG G k S r j q = true) : L j q = true := by
  unfold midG upN at h
  split at h
  · rename_i e
    subst e
    dsimp only at h
    split at h
    · rw [Bool.or_eq_true] at h
      rcases h with a | a
      · exact hG _ _ a
      · exact hS _ a
    · exact hG _ _ h
  · exact hG _ _ h
theorem noG_le {many n : Nat} {G G' : Nat → Nat → Bool} (h : ∀ j q, G j q = true → G' j q = true) : noG many n G' ≤ noG many n G := sumK_le (fun k _ => List.countP_mono_left (fun q _ hq => by
  cases hg : G k q with
  | false => rfl
  | true => rw [h k q hg] at hq; cases hq))
theorem noG_lt {many n : Nat} {G : Nat → Nat → Bool} {k : Nat} {S : Nat → Bool} (hk : k < many) (h : newG G k S n = true) : noG many n (midG G k S n) < noG many n G := by
  unfold newG at h
  rw [List.any_eq_true] at h
  obtain ⟨q, hq, h1⟩ := h
  rw [Bool.and_eq_true] at h1
  have hq' := List.mem_range.1 hq
  refine Nat.lt_of_succ_le (sumK_lt (f := fun k => (List.range n).countP (fun r => !G k r)) (g := fun j => (List.range n).countP (fun r => !midG G k S n j r)) (fun j _ => List.countP_mono_left (fun q _ hq => ?_)) hk (d := 1) (Nat.succ_le_of_lt (countP_lt (fun q _ hq => ?_) hq ?_ ?_)))
  · cases hg : G j q with
    | false => rfl
    | true => rw [mid_le G k S n j q hg] at hq; cases hq
  · cases hg : G k q with
    | false => rfl
    | true => rw [mid_le G k S n k q hg] at hq; cases hq
  · unfold midG upN
    rw [if_pos rfl, if_pos hq', h1.1]
    simp
  · exact h1.2
theorem mid_same {G : Nat → Nat → Bool} {k : Nat} {S : Nat → Bool} {n : Nat} (h : newG G k S n = false) : midG G k S n = G ∧ ∀ q, q < n → S q = true → G k q = true := by
  have h' : ∀ q, q < n → S q = true → G k q = true := fun q hq hs => by
    unfold newG at h
    rw [List.any_eq_false] at h
    have := h q (List.mem_range.2 hq)
    rw [hs] at this
    simpa using this
  refine ⟨?_, h'⟩
  funext j q
  unfold midG upN
  split
  · rename_i e
    subst e
    dsimp only
    split
    · rename_i hq
      cases hs : S q with
      | false => rw [Bool.or_false]
      | true => rw [h' q hq hs]; rfl
    · rfl
  · rfl

end Go.Proofs.YtkcniahpkcdhoaaDoor.Lv
