/-
  A block is emptied (empty): a contract over the program; the conditions: a memory lies there, and it has that block.
-/
import Derived.Test.YtahhbehpgolinaaMeI
namespace Go.Proofs.Ytahhbehpgolinaa.Me
open Go.RowKit
set_option linter.unusedVariables false

/-- F, but none at the places l of block i. -/
def dropH (F : FF) (i : Nat) (l : List Int) : FF := fun a b => if a = (i : Int) ∧ b ∈ l then none else F a b
/-- F, but none in block i. -/
def clrF (F : FF) (i : Nat) : FF := fun a b => if a = (i : Int) then none else F a b
theorem dropH_nil (F : FF) (i : Nat) : dropH F i [] = F := by
  funext a b
  simp [dropH]
theorem dropH_step (F : FF) (i : Nat) (H : List Int) (r : Nat) (o : Int) (h : H[r]? = some o) : updF (dropH F i (H.take r)) i o none = dropH F i (H.take (r + 1)) := by
  funext a b
  simp only [updF, dropH]
  rw [List.take_add_one, h]
  simp only [Option.toList_some, List.mem_append, List.mem_singleton]
  by_cases e1 : a = (i : Int)
  · by_cases e2 : b = o
    · rw [if_pos ⟨e1, e2⟩, if_pos ⟨e1, Or.inr e2⟩]
    · rw [if_neg (fun q => e2 q.2)]
      by_cases e3 : b ∈ H.take r
      · rw [if_pos ⟨e1, e3⟩, if_pos ⟨e1, Or.inl e3⟩]
      · rw [if_neg (fun q => e3 q.2), if_neg (fun q => q.2.elim e3 e2)]
  · rw [if_neg (fun q => e1 q.1), if_neg (fun q => e1 q.1), if_neg (fun q => e1 q.1)]
theorem dropH_all (F : FF) (i : Nat) (H : List Int) (hp : ∀ b o, F i b = some o → b ∈ H) : dropH F i H = clrF F i := by
  funext a b
  simp only [dropH, clrF]
  by_cases e1 : a = (i : Int)
  · rw [if_pos e1]
    by_cases e2 : b ∈ H
    · rw [if_pos ⟨e1, e2⟩]
    · rw [if_neg (fun q => e2 q.2)]
      cases e : F a b with
      | none => rfl
      | some o => rw [e1] at e; exact absurd (hp b o e) e2
  · rw [if_neg (fun q => e1 q.1), if_neg e1]

theorem round_drop {w : World} {B : Nat} {bl : Nat → Prop} {p n : Nat} {L : List Bk} {F : FF} {t : Int} {M : Nat} {la : Option Addr} {lc : Nat} (h : MX w B bl p n L F t M la lc) {i : Nat} {o : Int} (hI : I64 (i : Int)) (hJ : I64 o) :
    ∃ Z, (Builtin.delete_ #[55, 31] 0 #[.map (some M), .agg #[.int .i64 (i : Int), .int .i64 o]]).run Try.prog w = .ok (.tuple #[]) Z ∧ MX Z B bl p n L (updF F i o none) t M la lc ∧ Fr bl w Z := by
  obtain ⟨Z, z1, z2, z3⟩ := h.map.drop hI hJ 0
  exact ⟨Z, z1, mx_map h z2 (fun k k1 k2 => z3.block k (h.rng k k1).2 (fun e => k2 (Option.some.inj e))) z3.size, (Fr.refl bl w).grown z3 (fun q e => by cases e; exact Or.inl h.inM)⟩

set_option maxRecDepth 100000 in
set_option maxHeartbeats 1000000 in
theorem empty_any {w : World} {B : Nat} {bl : Nat → Prop} {p n : Nat} {L : List Bk} {F : FF} {t : Int} {M : Nat} {la : Option Addr} {lc : Nat} (h : MX w B bl p n L F t M la lc) {i : Nat} {d : Bk} (hd : L[i]? = some d) (hp : ∀ b o, F i b = some o → b ∈ d.H) (hI : I64 (i : Int)) (hJ : ∀ o ∈ d.H, I64 o) (hl : L.length ≤ 1000000) (hH : d.H.length ≤ 100000000) :
    Calls Try.prog 20 #[.pointer (some ⟨p, 0, none⟩), .int .i64 (i : Int)] w fun e w' => e = .returned (.tuple #[]) ∧ MX w' B bl p n L (clrF F i) t M la lc ∧ Fr bl w w' := by
  have hil : i < L.length := (List.getElem?_eq_some_iff.1 hd).1
  have c1 : w.cell? ⟨p, 1, none⟩ = some (.slice la L.length lc) := cell_of_block h.cells 1
  obtain ⟨g, rfl, -, c2, -⟩ := h.at hd
  obtain ⟨wa, hc, ev, -, -⟩ := ownsRow_form (h.hld i d hd)
  rw [ev] at c2
  have i0 : (0 : Int) ≤ (i : Int) := by omega
  have i1 : (i : Int) < (L.length : Int) := by omega
  have H := hideIt h
  have HD := hideIt hd
  have HJ := hideIt hJ
  have HI := hideIt hI
  have HP := hideIt (dropH_all F i d.H hp)
  have HE := hideIt ev
  clear h hd hJ hp ev hI
  go_enter Try.func20, Try.ntmps20
  go_wp2_with (fail)
  go_loopw [15] (fun o wr => ∃ k : Nat, o = .int .i64 k ∧ k ≤ d.H.length ∧ MX wr B bl p n L (dropH F i (d.H.take k)) t M (some ⟨g, 0, none⟩) lc ∧ Fr bl w wr) (fun o _ => d.H.length - (intOf o).toNat)
  case atStart => exact ⟨0, rfl, Nat.zero_le _, by rw [List.take_zero, dropH_nil]; exact H.out, Fr.refl _ _⟩
  case round =>
    obtain ⟨k, rfl, hk, hm, hF⟩ := hrel
    have HM := hideIt hm
    have HF := hideIt hF
    by_cases hkc : k < d.H.length
    · obtain ⟨o, ho⟩ : ∃ o, d.H[k]? = some o := ⟨_, List.getElem?_eq_getElem hkc⟩
      have q0 := cell_of_block hm.cells 0
      have hrow := hm.hld i d HD.out
      rw [HE.out] at hrow
      obtain ⟨h', cap', e1, q1, -⟩ := ownsRow_at hrow (rowN_at ho)
      cases e1
      obtain ⟨Z, z1, z2, z3⟩ := round_drop hm HI.out (HJ.out o (List.mem_of_getElem? ho))
      have HZ := hideIt z2
      have HZ3 := hideIt z3
      have HO := hideIt ho
      have k1 : decide ((k : Int) < (d.H.length : Int)) = true := by simp; omega
      have k2 : (k : Int) < (d.H.length : Int) := by omega
      have k3 : IntKind.i64.wrap ((k : Int) + 1) = (k : Int) + 1 := by rw [IntKind.wrap_i64]; omega
      clear hm hF z2 z3 hrow ho c1 c2
      go_wp2_with (fail)
      go_roundw
      case rel => exact ⟨k + 1, by go_num, hkc, by rw [← dropH_step F i d.H k o HO.out]; exact HZ.out, HF.out.trans HZ3.out⟩
      case measure => simp [intOf]; omega
    · have e1 : k = d.H.length := by omega
      subst e1
      rw [List.take_length] at HM
      clear hm hF c1 c2
      go_wp2_with (fail)
      go_end0
      exact ⟨rfl, by rw [← HP.out]; exact HM.out, HF.out⟩

end Go.Proofs.Ytahhbehpgolinaa.Me
