/-
  A set's copy (clone of live): a contract over the program; the condition: the set's words lie in memory.
  Words of a set to which a register is added, or from which one is taken: facts on lists; no program; no conditions but those that each fact bears.
  What a set lists, by what it has: facts on lists; no program; no conditions but those that each fact bears.
-/
import Derived.Test.YtdiidmmmemmjjaaDoorKLvG
import Derived.Test.YtdiidmmmemmjjaaDoorKLvZg
import Derived.Laws.AppendOwnNone
namespace Go.Proofs.YtdiidmmmemmjjaaDoor.Lv
open Go.RowKit
set_option linter.unusedVariables false

/-- Words as cells. -/
def wdC (L : List (Int × Int)) : List Value := rowN (.rd 0) L
theorem wdC_len (L : List (Int × Int)) : (wdC L).length = L.length * 2 := rowN_len (.rd 0) L
theorem wdC_cons (x : Int × Int) (L : List (Int × Int)) : wdC (x :: L) = .int .i64 x.1 :: .int .u64 x.2 :: wdC L := rfl
theorem wdC_at : ∀ (L : List (Int × Int)) (j : Nat) (u : Value), (wdC L)[j]? = some u → ∃ (k : Nat) (e : Int × Int), L[k]? = some e ∧ ((j = k * 2 ∧ u = .int .i64 e.1) ∨ (j = k * 2 + 1 ∧ u = .int .u64 e.2))
  | [], j, u, h => by simp [wdC, rowN] at h
  | x :: L, 0, u, h => by rw [wdC_cons] at h; simp at h; exact ⟨0, x, rfl, Or.inl ⟨rfl, h.symm⟩⟩
  | x :: L, 1, u, h => by rw [wdC_cons] at h; simp at h; exact ⟨0, x, rfl, Or.inr ⟨rfl, h.symm⟩⟩
  | x :: L, j + 2, u, h => by
    rw [wdC_cons] at h
    obtain ⟨k, e, h1, h2⟩ := wdC_at L j u (by simpa using h)
    exact ⟨k + 1, e, by simpa using h1, by rcases h2 with ⟨e1, e2⟩ | ⟨e1, e2⟩; exact Or.inl ⟨by omega, e2⟩; exact Or.inr ⟨by omega, e2⟩⟩
theorem wdC_one (L : List (Int × Int)) : ∀ u ∈ wdC L, u.oneCell' = true := by
  intro u hu
  obtain ⟨j, hj⟩ := List.getElem?_of_mem hu
  obtain ⟨k, e, -, ⟨-, rfl⟩ | ⟨-, rfl⟩⟩ := wdC_at L j u hj <;> rfl

set_option maxRecDepth 100000 in
set_option maxHeartbeats 2000000 in
theorem clone_some (w : World) (g cap : Nat) (L : List (Int × Int)) (h0 : 0 < L.length) (hl : L.length ≤ 1099511627776)
    (hc : ∀ (k : Nat) (e : Int × Int), L[k]? = some e → w.cell? ⟨g, k * 2, none⟩ = some (.int .i64 e.1) ∧ w.cell? ⟨g, k * 2 + 1, none⟩ = some (.int .u64 e.2)) :
    Calls Tryd.prog 29 #[.agg #[.slice (some ⟨g, 0, none⟩) L.length cap]] w fun e w' => ∃ v', e = .returned (.agg #[v']) ∧ Q w w' ∧ w'.ownsRow w.heap.size 80 2 v' L.length (wdC L) := by
  obtain ⟨i0, ti, tz0, tz1, tz2⟩ := info_word
  have HTI := hideIt (And.intro ti (And.intro tz0 (And.intro tz1 tz2)))
  have HN := hideIt (show ∀ (X : World), Q w X → ∀ j u, (wdC L)[j]? = some u → X.cell? ((⟨g, 0, none⟩ : Addr).add j) = some u from fun X q j u hj => by
    obtain ⟨k, e, h1, h2⟩ := wdC_at L j u hj
    obtain ⟨c1, c2⟩ := hc k e h1
    have ea : (⟨g, 0, none⟩ : Addr).add j = ⟨g, j, none⟩ := by unfold Addr.add; split <;> simp_all
    rw [ea]
    rcases h2 with ⟨rfl, rfl⟩ | ⟨rfl, rfl⟩
    · exact cell_keep q c1
    · exact cell_keep q c2)
  have HL := hideIt (wdC_len L)
  have H1 := hideIt (wdC_one L)
  have H0 := hideIt h0
  have HM := hideIt (show 0 + L.length ≤ maxLen by unfold maxLen; omega)
  have HM2 := hideIt (show (0 + L.length) * 16 ≤ 140737488355328 by omega)
  have HQ := hideIt (((Q.refl w).alloc (.cells #[.slice (some ⟨g, 0, none⟩) L.length cap] 43)).alloc (.cells #[.slice none 0 0] 43))
  have HX := hideIt (show ∀ (w1 : World) (g2 cap2 : Nat), ((w.alloc (.cells #[.slice (some ⟨g, 0, none⟩) L.length cap] 43)).alloc (.cells #[.slice none 0 0] 43)).grownBy w1 (Value.slice none 0 0).ownBlock → ((Value.slice none 0 0).ownBlock = some g2 ∨ g2 = w.heap.size + 2) → w1.ownsRow w.heap.size 80 2 (.slice (some ⟨g2, 0, none⟩) (0 + L.length) cap2) (0 + L.length) ([] ++ wdC L) →
      w1.cell? ⟨w.heap.size + 1, 0, none⟩ = some (.slice none 0 0) ∧ w1.frozen? ⟨w.heap.size + 1, 0, none⟩ = false ∧ (w1.setCell ⟨w.heap.size + 1, 0, none⟩ (.slice (some ⟨g2, 0, none⟩) L.length cap2)).cell? ⟨w.heap.size + 1, 0, none⟩ = some (.slice (some ⟨g2, 0, none⟩) L.length cap2) ∧ Q w (w1.setCell ⟨w.heap.size + 1, 0, none⟩ (.slice (some ⟨g2, 0, none⟩) L.length cap2)) ∧ (w1.setCell ⟨w.heap.size + 1, 0, none⟩ (.slice (some ⟨g2, 0, none⟩) L.length cap2)).ownsRow w.heap.size 80 2 (.slice (some ⟨g2, 0, none⟩) L.length cap2) L.length (wdC L) from fun w1 g2 cap2 hg hat hown => by
    rw [Nat.zero_add, List.nil_append] at hown
    have hb : w1.heap[w.heap.size + 1]? = some (.cells #[.slice none 0 0] 43 (0, 0)) := by
      rw [hg.block (w.heap.size + 1) (by simp) (fun e => by cases e)]
      have := heap_alloc_new (w.alloc (.cells #[.slice (some ⟨g, 0, none⟩) L.length cap] 43)) (.cells #[.slice none 0 0] 43)
      simpa using this
    have hq : Q w w1 := Below.grown HQ.out hg (by have := HQ.out.size; simpa using this) (fun k hk => by cases hk)
    have hne : g2 ≠ w.heap.size + 1 := by
      rcases hat with e | e
      · cases e
      · omega
    refine ⟨cell_of_block hb 0, free_of_block hb 0, (cell_of_block (block_set hb _) 0).trans rfl, hq.set (by simp) _, row_q hown (fun b hbk => ?_)⟩
    have e : b = g2 := by injection hbk with hbk; exact hbk.symm
    subst e
    exact Below.heap_setCell _ _ _ _ hne)
  clear hc ti tz0 tz1 tz2 h0 hl
  go_enter Tryd.func29, Tryd.ntmps29
  go_wp2_with (first
    | (at_builtin; refine wpList_append_lies _ rfl _ _ 41 rfl w.heap.size 80 i0 (.agg #[.int .i64 0, .int .u64 0]) 2 16 Tryd.underlying41 HTI.out.1 HTI.out.2.1 HTI.out.2.2.1 HTI.out.2.2.2 rfl (by decide) (.slice none 0 0) 0 [] rfl ⟨rfl, Or.inl ⟨rfl, rfl⟩⟩ ⟨g, 0, none⟩ L.length cap (wdC L) rfl HL.out (HN.out _ HQ.out) H1.out H0.out HM.out HM2.out (by simp; omega) (w.heap.size + 2) (by simp) ?_; intro g2 cap2 w1 hown hgrow hat hlt; obtain ⟨k1, k2, k4, k3⟩ := HX.out w1 g2 cap2 hgrow hat hown; have K3 := hideIt k3; clear hown hgrow hat k3)
    | fail)
  refine bodyPost_ret (v := .agg #[.slice (some ⟨g2, 0, none⟩) L.length cap2]) (by simp [results, Tryd.results29, go_sem, k4]) rfl ?_
  exact ⟨_, rfl, K3.out⟩

set_option maxRecDepth 100000 in
set_option maxHeartbeats 2000000 in
theorem clone_nil (w : World) : Calls Tryd.prog 29 #[.agg #[.slice none 0 0]] w fun e w' => e = .returned (.agg #[.slice none 0 0]) ∧ Q w w' := by
  have HQ := hideIt (((Q.refl w).alloc (.cells #[.slice none 0 0] 43)).alloc (.cells #[.slice none 0 0] 43))
  go_enter Tryd.func29, Tryd.ntmps29
  go_wp2_with (fail)
  refine bodyPost_ret (v := .agg #[.slice none 0 0]) (by simp [results, Tryd.results29, go_sem]) rfl ?_
  exact ⟨rfl, HQ.out⟩
set_option maxRecDepth 100000 in
set_option maxHeartbeats 2000000 in
theorem clone_empty (w : World) (g cap : Nat) : Calls Tryd.prog 29 #[.agg #[.slice (some ⟨g, 0, none⟩) 0 cap]] w fun e w' => e = .returned (.agg #[.slice none 0 0]) ∧ Q w w' := by
  have HQ := hideIt (((Q.refl w).alloc (.cells #[.slice (some ⟨g, 0, none⟩) 0 cap] 43)).alloc (.cells #[.slice none 0 0] 43))
  have e0 : ∀ X : World, Sem.run Tryd.prog (loadCellsFrom ⟨g, 0, none⟩ 0 0 #[]) X = .ok #[] X := fun X => by simp [loadCellsFrom]
  go_enter Tryd.func29, Tryd.ntmps29
  go_wp2_with (fail)
  refine bodyPost_ret (v := .agg #[.slice none 0 0]) (by simp [results, Tryd.results29, go_sem]) rfl ?_
  exact ⟨rfl, HQ.out⟩

/-- A copy of a set: words of its own. -/
theorem clone_any (w : World) (v : Value) (L : List (Int × Int)) (h : Wds w v L) :
    Calls Tryd.prog 29 #[.agg #[v]] w fun e w' => ∃ v', e = .returned (.agg #[v']) ∧ Q w w' ∧ w'.ownsRow w.heap.size 80 2 v' L.length (wdC L) := by
  obtain ⟨hl, ⟨rfl, rfl⟩ | ⟨g, cap, rfl, hc⟩⟩ := h
  · refine (clone_nil w).mono ?_
    rintro e w' ⟨rfl, q⟩
    exact ⟨_, rfl, q, rfl, Or.inl ⟨rfl, rfl⟩⟩
  · cases L with
    | nil =>
      refine (clone_empty w g cap).mono ?_
      rintro e w' ⟨rfl, q⟩
      exact ⟨_, rfl, q, rfl, Or.inl ⟨rfl, rfl⟩⟩
    | cons x L => exact clone_some w g cap (x :: L) (by simp) hl hc

end Go.Proofs.YtdiidmmmemmjjaaDoor.Lv

namespace Go.Proofs.YtdiidmmmemmjjaaDoor.Lv
set_option linter.unusedVariables false

theorem bitN_u (r : Nat) : U64 (bitN r) := U64.nat (Nat.pow_lt_pow_right (by omega) (Nat.mod_lt _ (by omega)))
theorem bitN_tb (r b : Nat) : tb (bitN r) b = true ↔ r % 64 = b := by
  unfold tb bitN
  rw [Int.toNat_natCast, Nat.testBit_two_pow]
  simp

/-- Words that rise, by their members. -/
theorem Up.pw {L : List (Int × Int)} (h : Up L) : L.Pairwise (fun x y => x.1 < y.1) := by
  rw [List.pairwise_iff_getElem]
  intro i j hi hj hij
  exact h.lt i j _ _ (List.getElem?_eq_getElem hi) (List.getElem?_eq_getElem hj) hij
theorem Up.of_pw {L : List (Int × Int)} (h : L.Pairwise (fun x y => x.1 < y.1)) (hr : ∀ x ∈ L, 0 ≤ x.1 ∧ x.1 ≤ 1099511627776) (hu : ∀ x ∈ L, U64 x.2) : Up L := by
  refine ⟨?_, hr, hu⟩
  intro i j x y hx hy hij
  obtain ⟨hi, rfl⟩ := List.getElem?_eq_some_iff.1 hx
  obtain ⟨hj, rfl⟩ := List.getElem?_eq_some_iff.1 hy
  exact List.pairwise_iff_getElem.1 h i j hi hj hij
theorem split_at {α : Type} {L : List α} {i : Nat} {x : α} (h : L[i]? = some x) : L = L.take i ++ x :: L.drop (i + 1) := by
  obtain ⟨hi, rfl⟩ := List.getElem?_eq_some_iff.1 h
  rw [← List.drop_eq_getElem_cons hi, List.take_append_drop]
theorem set_at {α : Type} {L : List α} {i : Nat} {x : α} (h : L[i]? = some x) (y : α) : L.set i y = L.take i ++ y :: L.drop (i + 1) := by
  obtain ⟨hi, rfl⟩ := List.getElem?_eq_some_iff.1 h
  rw [List.set_eq_take_append_cons_drop, if_pos hi]
/-- A word in the place of one, or between two. -/
theorem Up.mid {A B : List (Int × Int)} {y : Int × Int} (hA : A.Pairwise (fun x y => x.1 < y.1)) (hB : B.Pairwise (fun x y => x.1 < y.1)) (h1 : ∀ x ∈ A, x.1 < y.1) (h2 : ∀ x ∈ B, y.1 < x.1) (h3 : ∀ x ∈ A, ∀ z ∈ B, x.1 < z.1) : (A ++ y :: B).Pairwise (fun x y => x.1 < y.1) := by
  rw [List.pairwise_append]
  refine ⟨hA, List.pairwise_cons.2 ⟨h2, hB⟩, ?_⟩
  intro a ha b hb
  rcases List.mem_cons.1 hb with rfl | hb
  · exact h1 a ha
  · exact h3 a ha b hb
theorem pw_parts {A B : List (Int × Int)} {y : Int × Int} (h : (A ++ y :: B).Pairwise (fun x y => x.1 < y.1)) : A.Pairwise (fun x y => x.1 < y.1) ∧ B.Pairwise (fun x y => x.1 < y.1) ∧ (∀ x ∈ A, x.1 < y.1) ∧ (∀ x ∈ B, y.1 < x.1) ∧ (∀ x ∈ A, ∀ z ∈ B, x.1 < z.1) := by
  rw [List.pairwise_append, List.pairwise_cons] at h
  exact ⟨h.1, h.2.1.2, fun x hx => h.2.2 x hx y List.mem_cons_self, h.2.1.1, fun x hx z hz => h.2.2 x hx z (List.mem_cons_of_mem _ hz)⟩

theorem has_mid {A B : List (Int × Int)} {y : Int × Int} {q : Int} : hasW (A ++ y :: B) q ↔ hasW (A ++ B) q ∨ (y.1 = q / 64 ∧ tb y.2 (q % 64).toNat = true) := by
  unfold hasW
  constructor
  · rintro ⟨x, hx, h⟩
    rcases List.mem_append.1 hx with hx | hx
    · exact Or.inl ⟨x, List.mem_append.2 (Or.inl hx), h⟩
    · rcases List.mem_cons.1 hx with rfl | hx
      · exact Or.inr h
      · exact Or.inl ⟨x, List.mem_append.2 (Or.inr hx), h⟩
  · rintro (⟨x, hx, h⟩ | h)
    · rcases List.mem_append.1 hx with hx | hx
      · exact ⟨x, List.mem_append.2 (Or.inl hx), h⟩
      · exact ⟨x, List.mem_append.2 (Or.inr (List.mem_cons_of_mem _ hx)), h⟩
    · exact ⟨y, List.mem_append.2 (Or.inr List.mem_cons_self), h⟩
theorem reg_eq {q : Int} {r : Nat} : ((r : Int) / 64 = q / 64 ∧ r % 64 = (q % 64).toNat) ↔ q = (r : Int) := by
  constructor
  · rintro ⟨h1, h2⟩; omega
  · rintro rfl; omega

/-- What adding a register to its word does. -/
theorem add_set {L : List (Int × Int)} (hu : Up L) {r i : Nat} {x : Int × Int} (hx : L[i]? = some x) (hr : x.1 = (r : Int) / 64) :
    Up (L.set i (x.1, bits .or .u64 x.2 (bitN r))) ∧ ∀ q, hasW (L.set i (x.1, bits .or .u64 x.2 (bitN r))) q ↔ hasW L q ∨ q = (r : Int) := by
  have ux : U64 x.2 := hu.u x (List.mem_of_getElem? hx)
  have rx := hu.rng x (List.mem_of_getElem? hx)
  have hp := hu.pw
  rw [split_at hx] at hp
  obtain ⟨p1, p2, p3, p4, p5⟩ := pw_parts hp
  rw [set_at hx]
  refine ⟨Up.of_pw (Up.mid p1 p2 p3 p4 p5) ?_ ?_, fun q => ?_⟩
  · intro z hz
    rcases List.mem_append.1 hz with hz | hz
    · exact hu.rng z (List.mem_of_mem_take hz)
    · rcases List.mem_cons.1 hz with rfl | hz
      · exact rx
      · exact hu.rng z (List.mem_of_mem_drop hz)
  · intro z hz
    rcases List.mem_append.1 hz with hz | hz
    · exact hu.u z (List.mem_of_mem_take hz)
    · rcases List.mem_cons.1 hz with rfl | hz
      · exact ux.or (bitN_u r)
      · exact hu.u z (List.mem_of_mem_drop hz)
  · rw [has_mid, tb_or ux (bitN_u r)]
    conv => rhs; rw [split_at hx, has_mid]
    constructor
    · rintro (h | ⟨h1, h2⟩)
      · exact Or.inl (Or.inl h)
      · rcases Bool.or_eq_true _ _ ▸ h2 with h2 | h2
        · exact Or.inl (Or.inr ⟨h1, h2⟩)
        · exact Or.inr (reg_eq.1 ⟨by rw [← hr]; exact h1, (bitN_tb r _).1 h2⟩)
    · rintro ((h | ⟨h1, h2⟩) | h)
      · exact Or.inl h
      · exact Or.inr ⟨h1, by rw [h2]; rfl⟩
      · obtain ⟨e1, e2⟩ := reg_eq.2 h
        exact Or.inr ⟨hr.trans e1, by rw [(bitN_tb r _).2 e2, Bool.or_true]⟩
/-- What adding one does where there is no word of it. -/
theorem add_ins {L : List (Int × Int)} (hu : Up L) {r i : Nat} (hf : Fnd L ((r : Int) / 64) i false) (hr : (r : Int) / 64 ≤ 1099511627776) :
    Up (L.take i ++ ((r : Int) / 64, bitN r) :: L.drop i) ∧ ∀ q, hasW (L.take i ++ ((r : Int) / 64, bitN r) :: L.drop i) q ↔ hasW L q ∨ q = (r : Int) := by
  have hp := hu.pw
  have hp' := hp
  rw [← List.take_append_drop i L, List.pairwise_append] at hp'
  have lo : ∀ x ∈ L.take i, x.1 < (r : Int) / 64 := by
    intro x hx
    obtain ⟨k, hk⟩ := List.getElem?_of_mem hx
    rw [List.getElem?_take] at hk
    split at hk
    · exact hf.lo k x hk (by assumption)
    · cases hk
  have hi : ∀ x ∈ L.drop i, (r : Int) / 64 < x.1 := by
    intro x hx
    obtain ⟨k, hk⟩ := List.getElem?_of_mem hx
    rw [List.getElem?_drop] at hk
    have h1 := hf.hi (i + k) x hk (by omega)
    rcases Int.lt_or_eq_of_le h1 with h2 | h2
    · exact h2
    · exfalso
      cases k with
      | zero =>
        have := hf.fd.2 ⟨x, by simpa using hk, h2.symm⟩
        cases this
      | succ k =>
        have hil : i < L.length := by have := (List.getElem?_eq_some_iff.1 hk).1; omega
        have h3 := hf.hi i _ (List.getElem?_eq_getElem hil) (Nat.le_refl _)
        have h4 := hu.lt i (i + (k + 1)) _ _ (List.getElem?_eq_getElem hil) hk (by omega)
        omega
  refine ⟨Up.of_pw (Up.mid hp'.1 hp'.2.1 lo hi hp'.2.2) ?_ ?_, fun q => ?_⟩
  · intro z hz
    rcases List.mem_append.1 hz with hz | hz
    · exact hu.rng z (List.mem_of_mem_take hz)
    · rcases List.mem_cons.1 hz with rfl | hz
      · exact ⟨by show 0 ≤ (r : Int) / 64; omega, hr⟩
      · exact hu.rng z (List.mem_of_mem_drop hz)
  · intro z hz
    rcases List.mem_append.1 hz with hz | hz
    · exact hu.u z (List.mem_of_mem_take hz)
    · rcases List.mem_cons.1 hz with rfl | hz
      · exact bitN_u r
      · exact hu.u z (List.mem_of_mem_drop hz)
  · rw [has_mid, List.take_append_drop]
    refine or_congr Iff.rfl ?_
    rw [bitN_tb]
    exact reg_eq
/-- What taking a register from its word does: the word stays, or it is gone. -/
theorem rem_set {L : List (Int × Int)} (hu : Up L) {r i : Nat} {x : Int × Int} (hx : L[i]? = some x) (hr : x.1 = (r : Int) / 64) :
    (Up (L.set i (x.1, bits .andNot .u64 x.2 (bitN r))) ∧ ∀ q, hasW (L.set i (x.1, bits .andNot .u64 x.2 (bitN r))) q ↔ hasW L q ∧ q ≠ (r : Int)) ∧ (bits .andNot .u64 x.2 (bitN r) = 0 → Up (L.take i ++ L.drop (i + 1)) ∧ ∀ q, hasW (L.take i ++ L.drop (i + 1)) q ↔ hasW L q ∧ q ≠ (r : Int)) := by
  have ux : U64 x.2 := hu.u x (List.mem_of_getElem? hx)
  have rx := hu.rng x (List.mem_of_getElem? hx)
  have hp := hu.pw
  rw [split_at hx] at hp
  obtain ⟨p1, p2, p3, p4, p5⟩ := pw_parts hp
  have rest : ∀ q, hasW (L.take i ++ L.drop (i + 1)) q → q ≠ (r : Int) := by
    rintro q ⟨z, hz, h1, h2⟩ rfl
    rcases List.mem_append.1 hz with hz | hz
    · have := p3 z hz; omega
    · have := p4 z hz; omega
  have key : ∀ q, (hasW (L.take i ++ L.drop (i + 1)) q ∨ (x.1 = q / 64 ∧ tb (bits .andNot .u64 x.2 (bitN r)) (q % 64).toNat = true)) ↔ hasW L q ∧ q ≠ (r : Int) := by
    intro q
    conv => rhs; rw [split_at hx, has_mid]
    rw [tb_andNot ux (bitN_u r)]
    constructor
    · rintro (h | ⟨h1, h2⟩)
      · exact ⟨Or.inl h, rest q h⟩
      · rw [Bool.and_eq_true, Bool.not_eq_true'] at h2
        refine ⟨Or.inr ⟨h1, h2.1⟩, fun e => ?_⟩
        have := (bitN_tb r (q % 64).toNat).2 (reg_eq.2 e).2
        rw [this] at h2
        exact absurd h2.2 (by decide)
    · rintro ⟨h | ⟨h1, h2⟩, hne⟩
      · exact Or.inl h
      · refine Or.inr ⟨h1, ?_⟩
        rw [Bool.and_eq_true, Bool.not_eq_true']
        refine ⟨h2, ?_⟩
        cases hb : tb (bitN r) (q % 64).toNat with
        | false => rfl
        | true => exact absurd (reg_eq.1 ⟨hr.symm.trans h1, (bitN_tb r _).1 hb⟩) hne
  constructor
  · rw [set_at hx]
    refine ⟨Up.of_pw (Up.mid p1 p2 p3 p4 p5) ?_ ?_, fun q => by rw [has_mid]; exact key q⟩
    · intro z hz
      rcases List.mem_append.1 hz with hz | hz
      · exact hu.rng z (List.mem_of_mem_take hz)
      · rcases List.mem_cons.1 hz with rfl | hz
        · exact rx
        · exact hu.rng z (List.mem_of_mem_drop hz)
    · intro z hz
      rcases List.mem_append.1 hz with hz | hz
      · exact hu.u z (List.mem_of_mem_take hz)
      · rcases List.mem_cons.1 hz with rfl | hz
        · exact ux.andNot (bitN_u r)
        · exact hu.u z (List.mem_of_mem_drop hz)
  · intro h0
    refine ⟨Up.of_pw (List.pairwise_append.2 ⟨p1, p2, p5⟩) ?_ ?_, fun q => ?_⟩
    · intro z hz
      rcases List.mem_append.1 hz with hz | hz
      · exact hu.rng z (List.mem_of_mem_take hz)
      · exact hu.rng z (List.mem_of_mem_drop hz)
    · intro z hz
      rcases List.mem_append.1 hz with hz | hz
      · exact hu.u z (List.mem_of_mem_take hz)
      · exact hu.u z (List.mem_of_mem_drop hz)
    · rw [← key q, h0, tb_zero]
      simp

end Go.Proofs.YtdiidmmmemmjjaaDoor.Lv

namespace Go.Proofs.YtdiidmmmemmjjaaDoor.Lv
set_option linter.unusedVariables false

theorem sorted_ext : ∀ (A B : List Int), A.Pairwise (· < ·) → B.Pairwise (· < ·) → (∀ x, x ∈ A ↔ x ∈ B) → A = B := by
  intro A
  induction A with
  | nil =>
    intro B _ _ h
    cases B with
    | nil => rfl
    | cons b B => exact absurd ((h b).2 List.mem_cons_self) (by simp)
  | cons a A ih =>
    intro B hA hB h
    cases B with
    | nil => exact absurd ((h a).1 List.mem_cons_self) (by simp)
    | cons b B =>
      rw [List.pairwise_cons] at hA hB
      have hab : a = b := by
        rcases List.mem_cons.1 ((h a).1 List.mem_cons_self) with e | e
        · exact e
        · rcases List.mem_cons.1 ((h b).2 List.mem_cons_self) with e' | e'
          · exact e'.symm
          · have := hB.1 a e; have := hA.1 b e'; omega
      subst hab
      congr 1
      refine ih B hA.2 hB.2 fun x => ?_
      constructor
      · intro hx
        rcases List.mem_cons.1 ((h x).1 (List.mem_cons_of_mem _ hx)) with e | e
        · have := hA.1 x hx; omega
        · exact e
      · intro hx
        rcases List.mem_cons.1 ((h x).2 (List.mem_cons_of_mem _ hx)) with e | e
        · have := hB.1 x hx; omega
        · exact e
theorem mem_bits {x b : Nat} : b ∈ bitsUp x ↔ b < 64 ∧ x.testBit b = true := by simp [bitsUp]
theorem mem_regsW {a x r : Int} : r ∈ regsW a x ↔ a = r / 64 ∧ tb x (r % 64).toNat = true := by
  unfold regsW tb
  rw [List.mem_map]
  constructor
  · rintro ⟨b, hb, rfl⟩
    obtain ⟨h1, h2⟩ := mem_bits.1 hb
    refine ⟨by omega, ?_⟩
    rw [show ((a * 64 + (b : Int)) % 64).toNat = b by omega]
    exact h2
  · rintro ⟨h1, h2⟩
    exact ⟨(r % 64).toNat, mem_bits.2 ⟨by omega, h2⟩, by omega⟩
theorem mem_regsOf {L : List (Int × Int)} {r : Int} : r ∈ regsOf L ↔ hasW L r := by
  unfold regsOf hasW
  rw [List.mem_flatMap]
  exact ⟨fun ⟨x, hx, h⟩ => ⟨x, hx, mem_regsW.1 h⟩, fun ⟨x, hx, h⟩ => ⟨x, hx, mem_regsW.2 h⟩⟩
theorem regsW_sorted (a x : Int) : (regsW a x).Pairwise (· < ·) := by
  unfold regsW bitsUp
  rw [List.pairwise_map]
  exact (List.pairwise_lt_range.filter _).imp fun h => by omega
theorem regsOf_sorted {L : List (Int × Int)} (hu : Up L) : (regsOf L).Pairwise (· < ·) := by
  unfold regsOf
  rw [List.pairwise_flatMap]
  refine ⟨fun x _ => regsW_sorted x.1 x.2, hu.pw.imp fun {a b} h x hx y hy => ?_⟩
  have h1 := (mem_regsW.1 hx).1
  have h2 := (mem_regsW.1 hy).1
  omega
/-- A set lists just what it has, rising. -/
theorem regs_has {L : List (Int × Int)} (hu : Up L) {p : Nat → Bool} {n : Nat} (h : ∀ r : Int, hasB L r = (decide (0 ≤ r) && p r.toNat)) (hp : ∀ r, p r = true → r < n) : regsOf L = ((List.range n).filter p).map (fun r : Nat => (r : Int)) := by
  refine sorted_ext _ _ (regsOf_sorted hu) ?_ fun r => ?_
  · rw [List.pairwise_map]
    exact (List.pairwise_lt_range.filter _).imp fun h => by omega
  · rw [mem_regsOf, ← hasB_iff, h r, Bool.and_eq_true, decide_eq_true_iff, List.mem_map]
    constructor
    · rintro ⟨h1, h2⟩
      exact ⟨r.toNat, by simp [hp _ h2, h2], by omega⟩
    · rintro ⟨k, hk, rfl⟩
      simp at hk
      exact ⟨by omega, by simpa using hk.2⟩

end Go.Proofs.YtdiidmmmemmjjaaDoor.Lv
