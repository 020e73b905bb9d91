/-
  A map whose keys are pairs of numbers and whose elements are numbers, as a function of two numbers: made, read, written, struck; no conditions but those that each fact bears.
-/
import Derived.Test.YtbmkmllehppiiaaProg
import Derived.WalkKit
import Derived.WalkSpells
import Derived.Maps.OwnOps
import Derived.Maps.OwnSet
import Derived.Maps.Views
import Derived.DeepKeys4
namespace Go.Proofs.Ytbmkmllehppiiaa
open Go.RowKit
open Go.Maps (Keyed IsMap)
set_option linter.unusedVariables false

theorem Try.laidOut : laidOutB Try.prog = true := by kernel_rfl
theorem Try.row31 : (31 : TypeId) < Try.prog.types.size := of_decide_eq_true (by kernel_rfl)
theorem Try.wide31 : (match Try.prog.underlying 31 with | some (.array _ _) | some (.struct _) => true | _ => false) = true := by kernel_rfl
theorem Try.law31 : Keyed Try.prog 31 := Keyed.of_law (deep_law_laid Try.laidOut (m := 2) (by omega) Try.row31 (by kernel_rfl) Try.wide31)
theorem Try.zero2 (w : World) : (zeroValue 2).run Try.prog w = .ok (.int .i64 0) w := by kernel_rfl
theorem Try.keyType31 : Try.prog.keyType 31 = true := by kernel_rfl
theorem Try.cells31 : Try.prog.cellsOf 31 = 2 := by kernel_rfl
theorem Try.cells3 : Try.prog.cellsOf 3 = 1 := by kernel_rfl

/-- A key. -/
def kv (a b : Int) : Value := .agg #[.int .i64 a, .int .i64 b]
/-- A number of 64 bits. -/
def I64 (a : Int) : Prop := -9223372036854775808 ≤ a ∧ a ≤ 9223372036854775807
theorem I64.wf {a : Int} (h : I64 a) : (Lit.int .i64 a).wf = true := by
  obtain ⟨h1, h2⟩ := h
  simp only [Lit.wf, Bool.and_eq_true, decide_eq_true_eq]
  exact ⟨h1, h2⟩
theorem I64.of_wf {a : Int} (h : (Lit.int .i64 a).wf = true) : I64 a := by
  simp only [Lit.wf, Bool.and_eq_true, decide_eq_true_eq] at h
  exact h
theorem kv_key {a b : Int} (ha : I64 a) (hb : I64 b) : ∃ kl, keyOf Try.prog 31 (kv a b) = some kl := by
  unfold keyOf
  simp only [Try.underlying31]
  rw [if_pos (by simp [Try.keyType31, Value.formed, Try.underlying31, Try.cells31, kv])]
  refine ⟨.string (keyBytes [.int .i64 a, .int .i64 b]), ?_⟩
  · rw [show Try.prog.keyLits (Try.prog.types.size + 1) 31 (kv a b).cells.toList = some [.int .i64 a, .int .i64 b] from ?_]
    · rfl
    · have e : ∃ m, Try.prog.types.size = m + 1 := by
        have h : (31 : Nat) < Try.prog.types.size := Try.row31
        exact ⟨Try.prog.types.size - 1, by omega⟩
      obtain ⟨m, hm⟩ := e
      rw [hm]
      unfold Program.keyLits
      simp only [Try.underlying31, Value.cells, kv]
      rw [if_pos ⟨by rw [Try.cells31]; rfl, by simp⟩]
      simp [Try.cells3, Program.keyLits, Try.underlying3, ha.wf, hb.wf]
theorem kv_inj {a b a' b' : Int} (h : kv a b = kv a' b') : a = a' ∧ b = b' := by simpa [kv] using h

/-- f, but v at (a, b). -/
def upd (f : Int → Int → Int) (a b v : Int) : Int → Int → Int := fun x y => if x = a ∧ y = b then v else f x y

/-- Block M is a map of at most n entries, that holds f. -/
def Mp (w : World) (M n : Nat) (f : Int → Int → Int) : Prop :=
  ∃ D : DataW Unit, w.ownsMap Try.prog 31 (plainElem Try.prog 2) M n D ∧ IsMap D ∧ ∀ a b kl, keyOf Try.prog 31 (kv a b) = some kl → D.atKey kl (.lit (.int .i64 0)) = .lit (.int .i64 (f a b))

theorem mp_made (w : World) : Mp (w.alloc (.map #[] 0)) w.heap.size 0 (fun _ _ => 0) :=
  ⟨_, World.ownsMap_made w _ _ _, Maps.isMap_empty, fun a b kl _ => rfl⟩
theorem Mp.mono {w : World} {M n n' : Nat} {f : Int → Int → Int} (h : Mp w M n f) (hn : n ≤ n') : Mp w M n' f := by
  obtain ⟨D, h1, h2, h3⟩ := h
  exact ⟨D, h1.mono hn, h2, h3⟩
theorem Mp.kept {w w' : World} {M n : Nat} {f : Int → Int → Int} (h : Mp w M n f) (hb : w'.heap[M]? = w.heap[M]?) : Mp w' M n f := by
  obtain ⟨D, ⟨es, c, h1, h⟩, h2, h3⟩ := h
  exact ⟨D, ⟨es, c, hb.trans h1, h⟩, h2, h3⟩
theorem Mp.lt {w : World} {M n : Nat} {f : Int → Int → Int} (h : Mp w M n f) : M < w.heap.size := by
  obtain ⟨D, h1, _⟩ := h
  exact h1.lt
theorem Mp.look {w : World} {M n : Nat} {f : Int → Int → Int} (h : Mp w M n f) {a b : Int} (ha : I64 a) (hb : I64 b) :
    (Instr.lookup 55 (.map (some M)) (kv a b) false).run Try.prog w = .ok (.int .i64 (f a b)) w ∧ I64 (f a b) := by
  obtain ⟨D, h1, h2, h3⟩ := h
  obtain ⟨kl, hk⟩ := kv_key ha hb
  obtain ⟨c, hr, hat, hw⟩ := h1.lookup_int Try.law31 Try.underlying55 Try.underlying2 (Try.zero2 w) hk
  rw [h3 a b kl hk] at hat
  simp at hat
  subst hat
  exact ⟨hr, I64.of_wf hw⟩
theorem upd_atKey {D : DataW Unit} {f : Int → Int → Int} {a b v : Int} {kl : Lit} (hk : keyOf Try.prog 31 (kv a b) = some kl) {D' : DataW Unit} (h1 : D'.atKey kl (.lit (.int .i64 0)) = .lit (.int .i64 v))
    (h2 : ∀ kl', kl' ≠ kl → D'.atKey kl' (.lit (.int .i64 0)) = D.atKey kl' (.lit (.int .i64 0))) (h3 : ∀ a b kl, keyOf Try.prog 31 (kv a b) = some kl → D.atKey kl (.lit (.int .i64 0)) = .lit (.int .i64 (f a b))) :
    ∀ a' b' kl', keyOf Try.prog 31 (kv a' b') = some kl' → D'.atKey kl' (.lit (.int .i64 0)) = .lit (.int .i64 (upd f a b v a' b')) := by
  intro a' b' kl' hk'
  by_cases e : kl' = kl
  · subst e
    obtain ⟨rfl, rfl⟩ := kv_inj (Try.law31.inj hk' hk)
    rw [h1]
    simp [upd]
  · rw [h2 _ e, h3 _ _ _ hk']
    have : ¬ (a' = a ∧ b' = b) := by
      rintro ⟨rfl, rfl⟩
      rw [hk] at hk'
      exact e (Option.some.inj hk').symm
    simp [upd, this]
theorem Mp.store {w : World} {M n : Nat} {f : Int → Int → Int} (h : Mp w M n f) (hn : n < maxLen) {a b v : Int} (ha : I64 a) (hb : I64 b) (hv : I64 v) :
    ∃ w', (Instr.mapUpdate 55 (.map (some M)) (kv a b) (.int .i64 v)).run Try.prog w = .ok () w' ∧ Mp w' M (n + 1) (upd f a b v) ∧ w.grownBy w' (some M) := by
  obtain ⟨D, h1, h2, h3⟩ := h
  obtain ⟨kl, hk⟩ := kv_key ha hb
  obtain ⟨w', hr, ho, hg⟩ := h1.update Try.law31 Try.underlying55 hn hk (plainElem_int Try.underlying2 hv.wf)
  exact ⟨w', hr, ⟨_, ho, h2.put _ _, upd_atKey hk (Maps.atKey_put_same h2 (Try.law31.key hk) _ _) (fun kl' e => Maps.atKey_put_other e _ _) h3⟩, hg⟩
theorem Mp.drop {w : World} {M n : Nat} {f : Int → Int → Int} (h : Mp w M n f) {a b : Int} (ha : I64 a) (hb : I64 b) (ty : TypeId) :
    ∃ w', (Builtin.delete_ #[55, 31] ty #[.map (some M), kv a b]).run Try.prog w = .ok (.tuple #[]) w' ∧ Mp w' M n (upd f a b 0) ∧ w.grownBy w' (some M) := by
  obtain ⟨D, h1, h2, h3⟩ := h
  obtain ⟨kl, hk⟩ := kv_key ha hb
  obtain ⟨w', hr, ho, hg⟩ := h1.drop Try.law31 Try.underlying55 hk ty
  exact ⟨w', hr, ⟨_, ho, h2.del _, upd_atKey hk (Maps.atKey_del_same _) (fun kl' e => Maps.atKey_del_other e _) h3⟩, hg.grown⟩

#print axioms Mp.store
#print axioms Mp.drop
end Go.Proofs.Ytbmkmllehppiiaa
