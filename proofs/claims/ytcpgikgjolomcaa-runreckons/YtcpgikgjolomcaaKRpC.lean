/-
  Run of layer 14, every way at once; traces of outcomes in memory: facts over the program and over worlds; the conditions: the code lies in memory.
-/
import Derived.Test.YtcpgikgjolomcaaKRpB
namespace Go.Proofs.Ytcpgikgjolomcaa
open Go.RowKit
set_option linter.unusedVariables false

theorem wf16 {z : Int} (h : (Lit.int .u16 z).wf = true) : 0 ≤ z ∧ z ≤ 65535 := by
  simp [Lit.wf, IntKind.min, IntKind.max, IntKind.bits, IntKind.signed] at h; omega

def zeroP : Oc := ⟨false, 0, 0, false, 0, []⟩
/-- How a run ends, or the zero outcome. -/
def resO (c : PC) (k : Nat) : Oc := if validP c = 0 then ocP (runP c k) else zeroP

theorem run_any (w : World) (c : PC) (hcok : c.ok w) (k : Nat) (hk : k ≤ 8388608) : Calls Try.prog 9 #[c.v, .int .i64 (k : Int)] w fun e w' => ∃ v, e = .returned (.tuple #[v, .int .i64 (validP c)]) ∧ OutPost w w.heap.size (resO c k) v w' := by
  by_cases hv : validP c = 0
  · have := run_good w c hcok k hk hv
    unfold resO
    rw [if_pos hv, hv]
    exact this
  · refine (run_bad w c hcok (k : Int) (by omega) (by omega) hv).mono ?_
    rintro e w' ⟨rfl, hq⟩
    unfold resO
    rw [if_neg hv]
    exact ⟨_, rfl, none, 0, rfl, ⟨rfl, .inl ⟨rfl, rfl⟩⟩, hq⟩

theorem own_trc {w : World} {B : Nat} {T : TypeId} {ta : Option Addr} {tc : Nat} {L : List Int} (h : w.ownsRow B T 1 (.slice ta L.length tc) L.length (rowI L)) : Trc w ta L := fun k x e => by
  obtain ⟨g, cap, cur, e0, e1, e2, -, -⟩ := row_at h e
  injection e0 with e0
  subst e0
  refine ⟨g, 0, rfl, ?_⟩
  rw [Me.cell_of_block e1, Nat.zero_add]
  exact e2
theorem own_len {w : World} {B : Nat} {T : TypeId} {ta : Option Addr} {tc : Nat} {L : List Int} (h : w.ownsRow B T 1 (.slice ta L.length tc) L.length (rowI L)) : L.length ≤ 9223372036854775807 := by
  rcases h.2 with ⟨-, e1⟩ | ⟨g, cap, cur, e0, hb, hg, hnc, hcm, hcs, ht⟩
  · omega
  · unfold maxLen at hcm; omega
/-- The block of a trace that is one's own. -/
theorem own_blk {w : World} {B : Nat} {T : TypeId} {ta : Option Addr} {tc : Nat} {L : List Int} (h : w.ownsRow B T 1 (.slice ta L.length tc) L.length (rowI L)) : (ta = none ∧ L = []) ∨ ∃ g, ta = some ⟨g, 0, none⟩ ∧ B ≤ g ∧ g < w.heap.size := by
  rcases h.2 with ⟨e0, e1⟩ | ⟨g, cap, cur, e0, hb, hg, hnc, hcm, hcs, ht⟩
  · injection e0 with e0 e2 e3
    exact .inl ⟨e0, List.eq_nil_of_length_eq_zero e2⟩
  · injection e0 with e0
    exact .inr ⟨g, e0, hb, (Array.getElem?_eq_some_iff.1 hg).1⟩
theorem Trc.other {W z : World} {g : Nat} {a : Option Addr} {l : List Int} (h : Trc W a l) (hb : ∀ b o, a = some ⟨b, o, none⟩ → b ≠ g) (hz : ∀ b, b ≠ g → z.heap[b]? = W.heap[b]?) : Trc z a l := fun k x e => by
  obtain ⟨b, o, e1, e2⟩ := h k x e
  refine ⟨b, o, e1, ?_⟩
  have := hz b (hb b o e1)
  rw [← e2]
  simp [World.cell?, this]

end Go.Proofs.Ytcpgikgjolomcaa
