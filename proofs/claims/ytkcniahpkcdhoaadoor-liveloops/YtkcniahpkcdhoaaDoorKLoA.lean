/-
  The code of the statement LiveLoops, plainly: a loop of some parts; it is right; what is live in it: facts on code; the conditions: the numbers of its parts.
-/
import Derived.Test.YtkcniahpkcdhoaaDoorKLrB
namespace Go.Proofs.YtkcniahpkcdhoaaDoor.Lv
open Go.RowKit
set_option linter.unusedVariables false

def lpI0 : List PI := [⟨20, 0, 0, 0, 0, 3, [], none, 0⟩]
def lpIk : List PI := [⟨21, 0, 1, 0, 0, 0, [], none, 0⟩, ⟨33, 0, 0, 1, 0, 0, [], none, 0⟩]
def pFirst (b0 : Nat) : PP := ⟨lpI0, false, -1, 1, 0, some ⟨b0, 0, none⟩, 1⟩
def pMid (n k bk j : Nat) : PP := ⟨if j = k then lpIk else [], false, if j = n then 2 else -1, if j = n then 1 else (j : Int) + 1, if j = n then (n : Int) + 1 else 0, if j = k then some ⟨bk, 0, none⟩ else none, if j = k then 2 else 0⟩
def pLast : PP := ⟨[], true, 2, 0, 0, none, 0⟩
def loopP (n k b0 bk j : Nat) : PP := if j = 0 then pFirst b0 else if j ≤ n then pMid n k bk j else pLast
def loopL (n k b0 bk i : Nat) : List PP := (List.range i).map (loopP n k b0 bk)
theorem loopL_len (n k b0 bk i : Nat) : (loopL n k b0 bk i).length = i := by simp [loopL]
theorem loopL_get {n k b0 bk i j : Nat} (h : j < i) : (loopL n k b0 bk i)[j]? = some (loopP n k b0 bk j) := by simp [loopL, h]
theorem loopL_snoc (n k b0 bk i : Nat) : loopL n k b0 bk (i + 1) = loopL n k b0 bk i ++ [loopP n k b0 bk i] := by simp [loopL, List.range_succ]
theorem loopL_mem {n k b0 bk i : Nat} {p : PP} (h : p ∈ loopL n k b0 bk i) : ∃ j, j < i ∧ p = loopP n k b0 bk j := by
  obtain ⟨j, hj, e⟩ := List.mem_map.1 h
  exact ⟨j, List.mem_range.1 hj, e.symm⟩
theorem loopP_first (n k b0 bk : Nat) : loopP n k b0 bk 0 = pFirst b0 := rfl
theorem loopP_mid {n k b0 bk j : Nat} (h0 : 0 < j) (h1 : j ≤ n) : loopP n k b0 bk j = pMid n k bk j := by
  unfold loopP
  rw [if_neg (by omega), if_pos h1]
theorem loopP_last (n k b0 bk : Nat) : loopP n k b0 bk (n + 1) = pLast := by
  unfold loopP
  rw [if_neg (by omega), if_neg (by omega)]

theorem ins_mid (n k bk j : Nat) : (pMid n k bk j).ins = lpIk ∨ (pMid n k bk j).ins = [] := by
  unfold pMid
  dsimp only
  split
  · exact Or.inl rfl
  · exact Or.inr rfl
theorem wt_k (r : Nat) (h : WtL lpIk r) : r = 1 := by
  obtain ⟨x, hx, h1, h2⟩ := h
  simp [lpIk] at hx
  rcases hx with rfl | rfl
  · simpa using h2.symm
  · simp [wrP, knP, opP] at h1
theorem wt_mid {n k bk j r : Nat} (hr : r ≠ 1) : ¬ WtL (pMid n k bk j).ins r := fun h => by
  rcases ins_mid n k bk j with e | e
  · rw [e] at h; exact hr (wt_k r h)
  · rw [e] at h; obtain ⟨x, hx, -⟩ := h; simp at hx
theorem wt_first {r : Nat} : WtL lpI0 r ↔ r = 0 := by
  unfold WtL lpI0
  simp [wrP, knP, opP]
  exact ⟨fun h => h.symm, fun h => h.symm⟩
theorem ways_mid {n k bk j : Nat} : ((if j = n then 1 else (j : Int) + 1) : Int) ∈ waysP (pMid n k bk j) := by
  unfold pMid
  exact next_mem _ _ _ _ _ _

section
variable {n k b0 bk : Nat}
abbrev lL (n k b0 bk : Nat) : List PP := loopL n k b0 bk (n + 2)
theorem get_mid {j : Nat} (h0 : 0 < j) (h1 : j ≤ n) : (lL n k b0 bk)[j]? = some (pMid n k bk j) := by rw [← loopP_mid (b0 := b0) (k := k) (bk := bk) h0 h1]; exact loopL_get (by omega)
theorem get_first : (lL n k b0 bk)[0]? = some (pFirst b0) := loopL_get (by omega)
theorem get_last : (lL n k b0 bk)[n + 1]? = some pLast := by rw [← loopP_last n k b0 bk]; exact loopL_get (by omega)
theorem live_down {r m : Nat} (hr : r ≠ 1) (hm : m ≤ n) (h : LiveR (lL n k b0 bk) m r) : ∀ i, 1 ≤ i → i ≤ m → LiveR (lL n k b0 bk) i r := fun i hi him => by
  obtain ⟨d, rfl⟩ : ∃ d, m = i + d := ⟨m - i, by omega⟩
  induction d with
  | zero => exact h
  | succ d ih =>
    refine ih (by omega) (LiveR.thru (get_mid (by omega) (by omega)) (ways_mid) ?_ (wt_mid hr)) (by omega)
    rw [if_neg (by omega)]
    have e : (((i + d : Nat) : Int) + 1).toNat = i + (d + 1) := by omega
    rw [e]
    exact h
theorem live_round {r : Nat} (hn : 1 ≤ n) (hr : r ≠ 1) (h : LiveR (lL n k b0 bk) 1 r) : LiveR (lL n k b0 bk) n r := by
  refine LiveR.thru (get_mid (by omega) (Nat.le_refl _)) ways_mid ?_ (wt_mid hr)
  rw [if_pos rfl]
  exact h
theorem live_zero (hk0 : 1 ≤ k) (hk : k ≤ n) : ∀ i, 1 ≤ i → i ≤ n → LiveR (lL n k b0 bk) i 0 := by
  have h : LiveR (lL n k b0 bk) k 0 := by
    refine LiveR.read (get_mid (by omega) hk) (Or.inl ?_)
    have e : (pMid n k bk k).ins = lpIk := by unfold pMid; dsimp only; rw [if_pos rfl]
    rw [e]
    exact ⟨0, _, rfl, ⟨0, by simp [usesP, rdP, opP], rfl⟩, by simp [WtL]⟩
  have h1 := live_down (by omega) hk h 1 (Nat.le_refl _) hk0
  exact live_down (by omega) (Nat.le_refl _) (live_round (by omega) (by omega) h1)
theorem live_two (hn : 1 ≤ n) : ∀ i, i ≤ n → LiveR (lL n k b0 bk) i 2 := by
  have h : LiveR (lL n k b0 bk) n 2 := by
    refine LiveR.read (get_mid (by omega) (Nat.le_refl _)) (Or.inr ⟨?_, ?_, wt_mid (by omega)⟩)
    · unfold pMid; dsimp only; rw [if_pos rfl]; omega
    · unfold pMid; dsimp only; rw [if_pos rfl]; rfl
  have hd := live_down (by omega) (Nat.le_refl _) h
  intro i hi
  by_cases h0 : i = 0
  · subst h0
    refine LiveR.thru (get_first) (x := 1) (by simp [waysP, pFirst]) (hd 1 (Nat.le_refl _) hn) ?_
    show ¬ WtL lpI0 2
    rw [wt_first]
    omega
  · exact hd i (by omega) hi
theorem out_zero (hk0 : 1 ≤ k) (hk : k ≤ n) : ∀ i, 1 ≤ i → i ≤ n → OutR (lL n k b0 bk) i 0 := fun i h0 h1 => by
  refine ⟨_, get_mid (by omega) h1, _, ways_mid, ?_⟩
  by_cases e : i = n
  · rw [if_pos e]
    exact live_zero hk0 hk 1 (Nat.le_refl _) (by omega)
  · rw [if_neg e]
    have e2 : ((i : Int) + 1).toNat = i + 1 := by omega
    rw [e2]
    exact live_zero hk0 hk (i + 1) (by omega) (by omega)
theorem not_first : ¬ LiveR (lL n k b0 bk) 0 0 := fun h => by
  cases h with
  | read hp h1 =>
    rw [get_first] at hp
    injection hp with hp
    subst hp
    rw [RdQ_iff] at h1
    exact absurd h1 (by simp [pFirst, lpI0, befL, usB, wtB, cdB, usesP, rdP, opP, wrP, knP])
  | thru hp _ _ h2 =>
    rw [get_first] at hp
    injection hp with hp
    subst hp
    exact h2 (wt_first.2 rfl)
theorem not_last : ¬ LiveR (lL n k b0 bk) (n + 1) 0 := fun h => by
  cases h with
  | read hp h1 =>
    rw [get_last] at hp
    injection hp with hp
    subst hp
    rw [RdQ_iff] at h1
    exact absurd h1 (by simp [pLast, befL, cdB])
  | thru hp hx _ _ =>
    rw [get_last] at hp
    injection hp with hp
    subst hp
    simp [waysP, pLast] at hx
theorem not_out : ¬ OutR (lL n k b0 bk) (n + 1) 2 := by
  rintro ⟨p, hp, x, hx, -⟩
  rw [get_last] at hp
  injection hp with hp
  subst hp
  simp [waysP, pLast] at hx
theorem not_one {i : Nat} : ¬ LiveR (lL n k b0 bk) i 1 := fun h => by
  generalize hr : (1 : Nat) = r at h
  induction h with
  | read hp h1 =>
    subst hr
    obtain ⟨j, hj, rfl⟩ := loopL_mem (List.mem_of_getElem? hp)
    rw [RdQ_iff] at h1
    by_cases e0 : j = 0
    · subst e0
      rw [loopP_first] at h1
      exact absurd h1 (by simp [pFirst, lpI0, befL, usB, wtB, cdB, usesP, rdP, opP, wrP, knP])
    · by_cases e1 : j ≤ n
      · rw [loopP_mid (by omega) e1] at h1
        have hc : cdB (pMid n k bk j) 1 = false := by
          unfold cdB pMid
          dsimp only
          split <;> simp
        rw [befL_iff] at h1
        rcases h1 with a | ⟨a, -⟩
        · rcases ins_mid n k bk j with e | e
          · rw [e] at a
            have := (befL_iff lpIk (fun _ => false) 1).2 (Or.inl a)
            exact absurd this (by simp [lpIk, befL, usB, wtB, usesP, rdP, opP, wrP, knP])
          · rw [e] at a
            obtain ⟨i, x, hi, -⟩ := a
            simp at hi
        · rw [hc] at a; cases a
      · have : loopP n k b0 bk j = pLast := by
          unfold loopP
          rw [if_neg e0, if_neg e1]
        rw [this] at h1
        exact absurd h1 (by simp [pLast, befL, cdB])
  | thru _ _ _ _ ih => exact ih hr
end

/-- The code. -/
def loF (n k b0 bk : Nat) (pa : Option Addr) (pc : Nat) : PF := ⟨0, 3, [], lL n k b0 bk, none, 0, pa, pc⟩
def loC (n k b0 bk : Nat) (pa : Option Addr) (pc : Nat) (g : Nat) : PC := ⟨[], [], [loF n k b0 bk pa pc], none, 0, none, 0, some ⟨g, 0, none⟩, 1⟩
theorem partN_le (n k b0 bk j : Nat) : 0 ≤ partN (loopP n k b0 bk j) ∧ partN (loopP n k b0 bk j) ≤ 3 := by
  unfold loopP
  split
  · simp [partN, pFirst, lpI0]
  · split
    · rcases ins_mid n k bk j with e | e
      · simp [partN, e, lpIk]
      · simp [partN, e]
    · simp [partN, pLast]
theorem loN (n k b0 bk i : Nat) : 0 ≤ ((loopL n k b0 bk i).map partN).sum ∧ ((loopL n k b0 bk i).map partN).sum ≤ 3 * (i : Int) := by
  induction i with
  | zero => simp [loopL]
  | succ i ih =>
    rw [loopL_snoc, List.map_append, List.sum_append]
    have := partN_le n k b0 bk i
    simp only [List.map_cons, List.map_nil, List.sum_cons, List.sum_nil]
    omega
theorem loC_N (n k b0 bk : Nat) (pa : Option Addr) (pc g : Nat) : codeN (loC n k b0 bk pa pc g) ≤ 3 * ((n : Int) + 2) ∧ 0 ≤ codeN (loC n k b0 bk pa pc g) := by
  have h0 := loN n k b0 bk (n + 2)
  have this : 0 ≤ ((lL n k b0 bk).map partN).sum ∧ ((lL n k b0 bk).map partN).sum ≤ 3 * ((n + 2 : Nat) : Int) := h0
  simp only [codeN, loC, fnN, loF, List.map_cons, List.map_nil, List.sum_cons, List.sum_nil]
  push_cast at this
  omega
theorem loC_valid (n k b0 bk : Nat) (pa : Option Addr) (pc g : Nat) (hn1 : 1 ≤ n) (hn : n ≤ 100) : validP (loC n k b0 bk pa pc g) = 0 := by
  have hN := loC_N n k b0 bk pa pc g
  have hw : IntKind.i64.wrap (codeN (loC n k b0 bk pa pc g)) = codeN (loC n k b0 bk pa pc g) := by rw [IntKind.wrap_i64]; omega
  have hlen : (lL n k b0 bk).length = n + 2 := loopL_len _ _ _ _ _
  have hall : (lL n k b0 bk).all (ptP (loC n k b0 bk pa pc g) 0 (loF n k b0 bk pa pc)) = true := by
    rw [List.all_eq_true]
    intro p hp
    obtain ⟨j, hj, rfl⟩ := loopL_mem hp
    unfold ptP
    rw [Bool.and_eq_true]
    have hl2 : (loF n k b0 bk pa pc).parts.length = n + 2 := hlen
    by_cases e0 : j = 0
    · subst e0
      rw [loopP_first]
      constructor
      · simp only [endP, pFirst]
        rw [hl2]
        simp [blP]
        omega
      · rfl
    · by_cases e1 : j ≤ n
      · rw [loopP_mid (by omega) e1]
        constructor
        · simp only [endP, pMid]
          rw [hl2]
          by_cases e2 : j = n
          · simp [e2, blP, loF]
            omega
          · simp [e2, blP]
            omega
        · rcases ins_mid n k bk j with e | e
          · rw [e]; rfl
          · rw [e]; rfl
      · have : loopP n k b0 bk j = pLast := by
          unfold loopP
          rw [if_neg e0, if_neg e1]
        rw [this]
        exact ⟨rfl, rfl⟩
  have hne : ((lL n k b0 bk).length == 0) = false := by rw [hlen]; rfl
  unfold validP
  rw [if_neg (by rw [hw]; omega)]
  have hr : rightP (loC n k b0 bk pa pc g) = true := by
    unfold rightP
    rw [Bool.and_eq_true]
    constructor
    · rfl
    · simp only [loC, fnsP, Bool.and_true]
      unfold fnP
      rw [Bool.and_eq_true]
      refine ⟨?_, hall⟩
      unfold headP
      simp [loF, hlen, roomL]
  rw [hr]
  rfl

end Go.Proofs.YtkcniahpkcdhoaaDoor.Lv
