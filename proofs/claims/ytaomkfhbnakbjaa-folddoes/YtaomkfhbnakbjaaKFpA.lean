/-
  What is known ahead of a place of a part, read backwards and forwards; nothing that is known is left in a part that was folded: plain laws.
-/
import Derived.Test.YtaomkfhbnakbjaaKFoS
namespace Go.Proofs.Ytaomkfhbnakbjaa.Fo
open Go.RowKit
set_option linter.unusedVariables false

def lastP (l : List PI) (r : Int) : Nat → Option Nat
  | 0 => none
  | k + 1 => match l[k]? with | some x => if wrP x.op = true ∧ x.dst = r then some k else lastP l r k | none => lastP l r k
def knownP (l : List PI) (r : Int) (k : Nat) : Option Int := match lastP l r k with | none => none | some i => match l[i]? with | some x => if x.op = 20 then some x.imm else none | none => none
def kf (l : List PI) (k : Nat) : KF := (l.take k).foldl learn (fun _ => none)
theorem lastP_step {l : List PI} {r : Int} {k : Nat} {x : PI} (h : l[k]? = some x) : lastP l r (k + 1) = if wrP x.op = true ∧ x.dst = r then some k else lastP l r k := by simp only [lastP, h]
theorem lastP_lt {l : List PI} {r : Int} : ∀ {k i : Nat}, lastP l r k = some i → i < k
  | 0, i, h => by simp [lastP] at h
  | k + 1, i, h => by
    simp only [lastP] at h
    split at h
    · split at h
      · injection h with h; omega
      · have := lastP_lt h; omega
    · have := lastP_lt h; omega
theorem kf_step {l : List PI} {k : Nat} {x : PI} (h : l[k]? = some x) : kf l (k + 1) = learn (kf l k) x := by
  unfold kf
  rw [List.take_add_one, h, List.foldl_append]
  rfl
theorem known_kf (l : List PI) (r : Int) : ∀ k, k ≤ l.length → kf l k r = knownP l r k
  | 0, _ => rfl
  | k + 1, hk => by
    obtain ⟨x, hx⟩ := get_of_lt (l := l) (k := k) (by omega)
    have ih := known_kf l r k (by omega)
    rw [kf_step hx]
    unfold knownP at ih ⊢
    rw [lastP_step hx]
    unfold learn updK
    by_cases h20 : x.op = 20
    · have hw : wrP x.op = true := by rw [h20]; rfl
      rw [if_pos h20]
      by_cases hd : x.dst = r
      · rw [if_pos hd.symm, if_pos ⟨hw, hd⟩]
        simp only [hx]
        rw [if_pos h20]
      · rw [if_neg (fun e => hd e.symm), if_neg (fun e => hd e.2)]
        exact ih
    · rw [if_neg h20]
      by_cases hw : wrP x.op = true
      · rw [if_pos hw]
        by_cases hd : x.dst = r
        · rw [if_pos hd.symm, if_pos ⟨hw, hd⟩]
          simp only [hx]
          rw [if_neg h20]
        · rw [if_neg (fun e => hd e.symm), if_neg (fun e => hd e.2)]
          exact ih
      · rw [if_neg hw, if_neg (fun e => hw e.1)]
        exact ih
theorem fold_at {fault : Bool} : ∀ (l : List PI) (F : KF) (k : Nat) (y : PI), (foldL fault F l)[k]? = some y → ∃ x, l[k]? = some x ∧ y = foldI fault (((foldL fault F l).take k).foldl learn F) x
  | [], F, k, y, h => by simp [foldL] at h
  | x :: l, F, 0, y, h => ⟨x, rfl, by simp [foldL] at h; rw [← h]; rfl⟩
  | x :: l, F, k + 1, y, h => by
    simp only [foldL, List.getElem?_cons_succ] at h
    obtain ⟨x', h1, h2⟩ := fold_at l _ k y h
    exact ⟨x', by simpa using h1, by rw [h2]; rfl⟩
theorem kf_ev : ∀ {l m : List PI} (h : EvL EvI l m) (k : Nat), kf l k = kf m k
  | l, m, h, 0 => rfl
  | l, m, h, k + 1 => by
    cases hx : l[k]? with
    | none =>
      have h1 : l.length ≤ k := List.getElem?_eq_none_iff.1 hx
      have h2 : m.length ≤ k := by rw [← h.len]; exact h1
      have := kf_ev h k
      unfold kf at this ⊢
      rw [List.take_of_length_le h1, List.take_of_length_le h2] at this
      rw [List.take_of_length_le (by omega), List.take_of_length_le (by omega)]
      exact this
    | some x =>
      obtain ⟨y, hy⟩ := get_of_lt (l := m) (k := k) (by rw [← h.len]; exact (List.getElem?_eq_some_iff.1 hx).1)
      rw [kf_step hx, kf_step hy, kf_ev h k, ev_learn (h.each k x y hx hy)]

/-- Nothing that is known is left in it. -/
structure Left (F : KF) (x : PI) : Prop where
  two : ∀ a b, 1 ≤ x.op → x.op ≤ 16 → F x.a = some a → F x.b = some b → ¬ Burin.do2 x.op x.ty a b = 0
  un : ∀ a, (x.op = 22 ∨ x.op = 23 ∨ x.op = 24) → F x.a = some a → ¬ Burin.un2 (x.op - 21) x.ty a = 0
  one : ∀ a, (x.op = 21 ∨ x.op = 25) → F x.a = some a → False
theorem left_fold (F : KF) (x : PI) : Left F (foldI false F x) := by
  unfold foldI
  cases h : reckP false F x with
  | some v => exact ⟨fun a b h1 h2 => by simp [cst] at h1 h2, fun a h1 => by simp [cst] at h1, fun a h1 => by simp [cst] at h1⟩
  | none =>
    show Left F x
    refine ⟨fun a b h1 h2 ha hb => ?_, fun a h1 ha => ?_, fun a h1 ha => ?_⟩
    · intro h0
      unfold reckP at h
      rw [ha] at h
      dsimp only at h
      rw [if_neg (by omega), if_neg (by omega), if_neg (by omega), if_neg (by omega), if_neg (by omega), hb] at h
      dsimp only at h
      rw [if_neg (by omega)] at h
      unfold Fo.two at h
      rw [if_pos h0] at h
      cases h
    · intro h0
      unfold reckP at h
      rw [ha] at h
      dsimp only at h
      rcases h1 with h1 | h1 | h1
      · rw [if_neg (by omega), if_pos h1] at h
        unfold Fo.un at h
        rw [show x.op - 21 = 1 by omega] at h0
        rw [if_pos h0] at h; cases h
      · rw [if_neg (by omega), if_neg (by omega), if_pos h1] at h
        unfold Fo.un at h
        rw [show x.op - 21 = 2 by omega] at h0
        rw [if_pos h0] at h; cases h
      · rw [if_neg (by omega), if_neg (by omega), if_neg (by omega), if_pos h1] at h
        unfold Fo.un at h
        rw [show x.op - 21 = 3 by omega] at h0
        rw [if_pos h0] at h; cases h
    · unfold reckP at h
      rw [ha] at h
      dsimp only at h
      rcases h1 with h1 | h1
      · rw [if_pos h1] at h; cases h
      · rw [if_neg (by omega), if_neg (by omega), if_neg (by omega), if_neg (by omega), if_pos h1] at h; cases h
theorem left_ev {F : KF} {x y : PI} (h : EvI x y) (l : Left F y) : Left F x := by
  refine ⟨?_, ?_, ?_⟩
  · rw [h.op, h.ty, h.a, h.b]; exact l.two
  · rw [h.op, h.ty, h.a]; exact l.un
  · rw [h.op, h.a]; exact l.one
theorem left_at {l0 l : List PI} (h : EvL EvI l (foldL false (fun _ => none) l0)) {k : Nat} {x : PI} (hx : l[k]? = some x) : Left (kf l k) x := by
  obtain ⟨y, hy⟩ := get_of_lt (l := foldL false (fun _ => none) l0) (k := k) (by rw [← h.len]; exact (List.getElem?_eq_some_iff.1 hx).1)
  obtain ⟨x0, -, e⟩ := fold_at _ _ _ _ hy
  refine left_ev (h.each k x y hx hy) ?_
  rw [kf_ev h k, e]
  exact left_fold _ _

end Go.Proofs.Ytaomkfhbnakbjaa.Fo
