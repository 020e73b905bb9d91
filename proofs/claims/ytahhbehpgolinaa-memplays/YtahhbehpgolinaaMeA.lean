/-
  A map whose keys are pairs of numbers and whose elements are pairs of numbers, as a function of two numbers: made, read, written, struck; no conditions but those that each fact bears.
-/
import Derived.Test.YtahhbehpgolinaaProg
import Derived.WalkKit
import Derived.WalkSpells
import Derived.Maps.OwnOps
import Derived.Maps.OwnSet
import Derived.Maps.Views
import Derived.DeepKeys4
namespace Go.Proofs.Ytahhbehpgolinaa.Me
open Go.RowKit
open Go.Maps (Keyed IsMap)
set_option linter.unusedVariables false

theorem laidOut : laidOutB Try.prog = true := by kernel_rfl
theorem rowK : (31 : TypeId) < Try.prog.types.size := of_decide_eq_true (by kernel_rfl)
theorem wideK : (match Try.prog.underlying 31 with | some (.array _ _) | some (.struct _) => true | _ => false) = true := by kernel_rfl
set_option maxRecDepth 100000 in
theorem lawK : Keyed Try.prog 31 := Keyed.of_law (deep_law_laid laidOut (m := 2) (by omega) rowK (by kernel_rfl) wideK)
theorem zeroE (w : World) : (zeroValue 65).run Try.prog w = .ok (.agg #[.int .i64 0, .int .i64 0]) w := by kernel_rfl
theorem keyTypeK : Try.prog.keyType 31 = true := by kernel_rfl
theorem cellsK : Try.prog.cellsOf 31 = 2 := by kernel_rfl
theorem cellsI : Try.prog.cellsOf 3 = 1 := by kernel_rfl

/-- A key. -/
def kv (a b : Int) : Value := .agg #[.int .i64 a, .int .i64 b]
/-- A number of 64 bits. -/
def I64 (a : Int) : Prop := -9223372036854775808 ≤ a ∧ a ≤ 9223372036854775807
theorem I64.wf {a : Int} (h : I64 a) : (Lit.int .i64 a).wf = true := by
  obtain ⟨h1, h2⟩ := h
  simp only [Lit.wf, Bool.and_eq_true, decide_eq_true_eq]
  exact ⟨h1, h2⟩
theorem kv_key {a b : Int} (ha : I64 a) (hb : I64 b) : ∃ kl, keyOf Try.prog 31 (kv a b) = some kl := by
  unfold keyOf
  simp only [Try.underlying31]
  rw [if_pos (by simp [keyTypeK, Value.formed, Try.underlying31, cellsK, kv])]
  refine ⟨.string (keyBytes [.int .i64 a, .int .i64 b]), ?_⟩
  · rw [show Try.prog.keyLits (Try.prog.types.size + 1) 31 (kv a b).cells.toList = some [.int .i64 a, .int .i64 b] from ?_]
    · rfl
    · have e : ∃ m, Try.prog.types.size = m + 1 := by
        have h : (31 : Nat) < Try.prog.types.size := rowK
        exact ⟨Try.prog.types.size - 1, by omega⟩
      obtain ⟨m, hm⟩ := e
      rw [hm]
      unfold Program.keyLits
      simp only [Try.underlying31, Value.cells, kv]
      rw [if_pos ⟨by rw [cellsK]; rfl, by simp⟩]
      simp [cellsI, Program.keyLits, Try.underlying3, ha.wf, hb.wf]
theorem kv_inj {a b a' b' : Int} (h : kv a b = kv a' b') : a = a' ∧ b = b' := by simpa [kv] using h

/-- How an element reads. -/
def rdL : List Value → Option (DataW Unit × List MemPlace)
  | [.int .i64 a, .int .i64 b] => some (.agg [.lit (.int .i64 a), .lit (.int .i64 b)], [])
  | _ => none
def cellR (v : Value) : Option (DataW Unit × List MemPlace) := match v with | .agg cs => rdL cs.toList | _ => none
theorem cellR_inv {v : Value} {z : DataW Unit × List MemPlace} (h : cellR v = some z) : ∃ a b, v = .agg #[.int .i64 a, .int .i64 b] ∧ z = (.agg [.lit (.int .i64 a), .lit (.int .i64 b)], []) := by
  unfold cellR at h
  split at h
  · rename_i cs
    obtain ⟨l⟩ := cs
    dsimp only at h
    unfold rdL at h
    split at h
    · exact ⟨_, _, rfl, (Option.some.inj h).symm⟩
    · cases h
  · cases h

abbrev FF := Int → Int → Option (Int × Int)
def c1 (o : Option (Int × Int)) : Int := (o.getD (0, 0)).1
def c2 (o : Option (Int × Int)) : Int := (o.getD (0, 0)).2
def encD (o : Option (Int × Int)) : DataW Unit := .agg [.lit (.int .i64 (c1 o)), .lit (.int .i64 (c2 o))]
/-- F, but o at (a, b). -/
def updF (F : FF) (a b : Int) (o : Option (Int × Int)) : FF := fun x y => if x = a ∧ y = b then o else F x y

/-- Block M is a map of at most n entries, that holds F. -/
def Mc (w : World) (M n : Nat) (F : FF) : Prop :=
  ∃ D : DataW Unit, w.ownsMap Try.prog 31 cellR M n D ∧ IsMap D ∧ ∀ a b kl, keyOf Try.prog 31 (kv a b) = some kl → D.atKey kl (encD none) = encD (F a b) ∧ Maps.has D kl = (F a b).isSome

theorem mc_made (w : World) : Mc (w.alloc (.map #[] 0)) w.heap.size 0 (fun _ _ => none) :=
  ⟨_, World.ownsMap_made w _ _ _, Maps.isMap_empty, fun a b kl _ => ⟨rfl, rfl⟩⟩
theorem Mc.mono {w : World} {M n n' : Nat} {F : FF} (h : Mc w M n F) (hn : n ≤ n') : Mc w M n' F := by
  obtain ⟨D, h1, h2, h3⟩ := h
  exact ⟨D, h1.mono hn, h2, h3⟩
theorem Mc.kept {w w' : World} {M n : Nat} {F : FF} (h : Mc w M n F) (hb : w'.heap[M]? = w.heap[M]?) : Mc w' M n F := by
  obtain ⟨D, ⟨es, c, h1, h⟩, h2, h3⟩ := h
  exact ⟨D, ⟨es, c, hb.trans h1, h⟩, h2, h3⟩
theorem Mc.lt {w : World} {M n : Nat} {F : FF} (h : Mc w M n F) : M < w.heap.size := by
  obtain ⟨D, h1, _⟩ := h
  exact h1.lt
theorem Mc.look {w : World} {M n : Nat} {F : FF} (h : Mc w M n F) {a b : Int} (ha : I64 a) (hb : I64 b) :
    (Instr.lookup 55 (.map (some M)) (kv a b) false).run Try.prog w = .ok (.agg #[.int .i64 (c1 (F a b)), .int .i64 (c2 (F a b))]) w := by
  obtain ⟨D, h1, h2, h3⟩ := h
  obtain ⟨kl, hk⟩ := kv_key ha hb
  obtain ⟨v, ps, hr, hv⟩ := h1.lookup lawK Try.underlying55 (zeroE w) (zd := encD none) (zp := []) rfl hk
  rw [(h3 a b kl hk).1] at hv
  obtain ⟨x, y, rfl, e⟩ := cellR_inv hv
  simp only [encD, Prod.mk.injEq, DataW.agg.injEq, List.cons.injEq, DataW.lit.injEq, Lit.int.injEq] at e
  rw [e.1.1.2, e.1.2.1.2]
  exact hr
theorem Mc.lookok {w : World} {M n : Nat} {F : FF} (h : Mc w M n F) {a b : Int} (ha : I64 a) (hb : I64 b) :
    (Instr.lookup 55 (.map (some M)) (kv a b) true).run Try.prog w = .ok (.tuple #[.agg #[.int .i64 (c1 (F a b)), .int .i64 (c2 (F a b))], .bool (F a b).isSome]) w := by
  obtain ⟨D, h1, h2, h3⟩ := h
  obtain ⟨kl, hk⟩ := kv_key ha hb
  obtain ⟨v, ps, hr, hv⟩ := h1.look_ok lawK Try.underlying55 (zeroE w) (zd := encD none) (zp := []) rfl hk
  rw [(h3 a b kl hk).1] at hv
  rw [(h3 a b kl hk).2] at hr
  obtain ⟨x, y, rfl, e⟩ := cellR_inv hv
  simp only [encD, Prod.mk.injEq, DataW.agg.injEq, List.cons.injEq, DataW.lit.injEq, Lit.int.injEq] at e
  rw [e.1.1.2, e.1.2.1.2]
  exact hr
theorem updF_atKey {D : DataW Unit} {F : FF} {a b : Int} {o : Option (Int × Int)} {kl : Lit} (hk : keyOf Try.prog 31 (kv a b) = some kl) {D' : DataW Unit} (h1 : D'.atKey kl (encD none) = encD o ∧ Maps.has D' kl = o.isSome)
    (h2 : ∀ kl', kl' ≠ kl → D'.atKey kl' (encD none) = D.atKey kl' (encD none) ∧ Maps.has D' kl' = Maps.has D kl') (h3 : ∀ a b kl, keyOf Try.prog 31 (kv a b) = some kl → D.atKey kl (encD none) = encD (F a b) ∧ Maps.has D kl = (F a b).isSome) :
    ∀ a' b' kl', keyOf Try.prog 31 (kv a' b') = some kl' → D'.atKey kl' (encD none) = encD (updF F a b o a' b') ∧ Maps.has D' kl' = (updF F a b o a' b').isSome := by
  intro a' b' kl' hk'
  by_cases e : kl' = kl
  · subst e
    obtain ⟨rfl, rfl⟩ := kv_inj (lawK.inj hk' hk)
    simp only [updF, and_self, if_true]
    exact h1
  · have : ¬ (a' = a ∧ b' = b) := by
      rintro ⟨rfl, rfl⟩
      rw [hk] at hk'
      exact e (Option.some.inj hk').symm
    rw [(h2 _ e).1, (h2 _ e).2]
    simp only [updF, this, if_false]
    exact h3 _ _ _ hk'
theorem Mc.store {w : World} {M n : Nat} {F : FF} (h : Mc w M n F) (hn : n < maxLen) {a b : Int} (ha : I64 a) (hb : I64 b) (v k : Int) :
    ∃ w', (Instr.mapUpdate 55 (.map (some M)) (kv a b) (.agg #[.int .i64 v, .int .i64 k])).run Try.prog w = .ok () w' ∧ Mc w' M (n + 1) (updF F a b (some (v, k))) ∧ w.grownBy w' (some M) := by
  obtain ⟨D, h1, h2, h3⟩ := h
  obtain ⟨kl, hk⟩ := kv_key ha hb
  obtain ⟨w', hr, ho, hg⟩ := h1.update lawK Try.underlying55 hn hk (val := .agg #[.int .i64 v, .int .i64 k]) (d := encD (some (v, k))) (ps := []) rfl
  exact ⟨w', hr, ⟨_, ho, h2.put _ _, updF_atKey hk ⟨Maps.atKey_put_same h2 (lawK.key hk) _ _, Maps.has_put_same h2 (lawK.key hk) _⟩ (fun kl' e => ⟨Maps.atKey_put_other e _ _, Maps.has_put_other e _⟩) h3⟩, hg⟩
theorem Mc.drop {w : World} {M n : Nat} {F : FF} (h : Mc w M n F) {a b : Int} (ha : I64 a) (hb : I64 b) (ty : TypeId) :
    ∃ w', (Builtin.delete_ #[55, 31] ty #[.map (some M), kv a b]).run Try.prog w = .ok (.tuple #[]) w' ∧ Mc w' M n (updF F a b none) ∧ w.grownBy w' (some M) := by
  obtain ⟨D, h1, h2, h3⟩ := h
  obtain ⟨kl, hk⟩ := kv_key ha hb
  obtain ⟨w', hr, ho, hg⟩ := h1.drop lawK Try.underlying55 hk ty
  exact ⟨w', hr, ⟨_, ho, h2.del _, updF_atKey hk ⟨Maps.atKey_del_same _, Maps.has_del_same⟩ (fun kl' e => ⟨Maps.atKey_del_other e _, Maps.has_del_other e⟩) h3⟩, hg.grown⟩

end Go.Proofs.Ytahhbehpgolinaa.Me
