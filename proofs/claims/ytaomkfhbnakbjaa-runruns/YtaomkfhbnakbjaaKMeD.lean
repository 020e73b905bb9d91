/-
  A map whose keys are pairs of numbers and whose elements are pairs of numbers, as a function of two numbers: made, read, written, struck; no conditions but those that each fact bears.
  What a memory of blocks is in the heap (a map of the cells that aren't 0, a list of them for each block), and what stays of it while other blocks are written; facts on worlds and lists; no conditions but those that each fact bears.
  New, Blocks, has and Load: contracts over the program; the conditions: a memory lies there.
  Alloc: contracts over the program; the conditions: a memory lies there.
-/
import Derived.Test.YtaomkfhbnakbjaaProg
import Derived.WalkKit
import Derived.WalkSpells
import Derived.Maps.OwnOps
import Derived.Maps.OwnSet
import Derived.Maps.Views
import Derived.DeepKeys4
import Derived.Test.YtaomkfhbnakbjaaKPmZ
import Derived.WalkLawsBesides
import Derived.Deep.QuietTactic
import Derived.BigQuiet
import Derived.BigRegion
import Derived.Deep.RegionHeld3
import Derived.Deep.AppendLies
namespace Go.Proofs.Ytaomkfhbnakbjaa.Me
open Go.RowKit
open Go.Maps (Keyed IsMap)
set_option linter.unusedVariables false

theorem laidOut : laidOutB Try.prog = true := by kernel_rfl
theorem rowK : (130 : TypeId) < Try.prog.types.size := of_decide_eq_true (by kernel_rfl)
theorem wideK : (match Try.prog.underlying 130 with | some (.array _ _) | some (.struct _) => true | _ => false) = true := by kernel_rfl
set_option maxRecDepth 100000 in
theorem lawK : Keyed Try.prog 130 := Keyed.of_law (deep_law_laid laidOut (m := 2) (by omega) rowK (by kernel_rfl) wideK)
theorem zeroE (w : World) : (zeroValue 159).run Try.prog w = .ok (.agg #[.int .i64 0, .int .i64 0]) w := by kernel_rfl
theorem keyTypeK : Try.prog.keyType 130 = true := by kernel_rfl
theorem cellsK : Try.prog.cellsOf 130 = 2 := by kernel_rfl
theorem cellsI : Try.prog.cellsOf 3 = 1 := by kernel_rfl

/-- A key. -/
def kv (a b : Int) : Value := .agg #[.int .i64 a, .int .i64 b]
/-- A number of 64 bits. -/
def I64 (a : Int) : Prop := -9223372036854775808 ≤ a ∧ a ≤ 9223372036854775807
theorem I64.wf {a : Int} (h : I64 a) : (Lit.int .i64 a).wf = true := by
  obtain ⟨h1, h2⟩ := h
  simp only [Lit.wf, Bool.and_eq_true, decide_eq_true_eq]
  exact ⟨h1, h2⟩
theorem kv_key {a b : Int} (ha : I64 a) (hb : I64 b) : ∃ kl, keyOf Try.prog 130 (kv a b) = some kl := by
  unfold keyOf
  simp only [Try.underlying130]
  rw [if_pos (by simp [keyTypeK, Value.formed, Try.underlying130, cellsK, kv])]
  refine ⟨.string (keyBytes [.int .i64 a, .int .i64 b]), ?_⟩
  · rw [show Try.prog.keyLits (Try.prog.types.size + 1) 130 (kv a b).cells.toList = some [.int .i64 a, .int .i64 b] from ?_]
    · rfl
    · have e : ∃ m, Try.prog.types.size = m + 1 := by
        have h : (130 : Nat) < Try.prog.types.size := rowK
        exact ⟨Try.prog.types.size - 1, by omega⟩
      obtain ⟨m, hm⟩ := e
      rw [hm]
      unfold Program.keyLits
      simp only [Try.underlying130, Value.cells, kv]
      rw [if_pos ⟨by rw [cellsK]; rfl, by simp⟩]
      simp [cellsI, Program.keyLits, Try.underlying3, ha.wf, hb.wf]
theorem kv_inj {a b a' b' : Int} (h : kv a b = kv a' b') : a = a' ∧ b = b' := by simpa [kv] using h

/-- How an element reads. -/
def rdL : List Value → Option (DataW Unit × List MemPlace)
  | [.int .i64 a, .int .i64 b] => some (.agg [.lit (.int .i64 a), .lit (.int .i64 b)], [])
  | _ => none
def cellR (v : Value) : Option (DataW Unit × List MemPlace) := match v with | .agg cs => rdL cs.toList | _ => none
theorem cellR_inv {v : Value} {z : DataW Unit × List MemPlace} (h : cellR v = some z) : ∃ a b, v = .agg #[.int .i64 a, .int .i64 b] ∧ z = (.agg [.lit (.int .i64 a), .lit (.int .i64 b)], []) := by
  unfold cellR at h
  split at h
  · rename_i cs
    obtain ⟨l⟩ := cs
    dsimp only at h
    unfold rdL at h
    split at h
    · exact ⟨_, _, rfl, (Option.some.inj h).symm⟩
    · cases h
  · cases h

abbrev FF := Int → Int → Option (Int × Int)
def c1 (o : Option (Int × Int)) : Int := (o.getD (0, 0)).1
def c2 (o : Option (Int × Int)) : Int := (o.getD (0, 0)).2
def encD (o : Option (Int × Int)) : DataW Unit := .agg [.lit (.int .i64 (c1 o)), .lit (.int .i64 (c2 o))]
/-- F, but o at (a, b). -/
def updF (F : FF) (a b : Int) (o : Option (Int × Int)) : FF := fun x y => if x = a ∧ y = b then o else F x y

/-- Block M is a map of at most n entries, that holds F. -/
def Mc (w : World) (M n : Nat) (F : FF) : Prop :=
  ∃ D : DataW Unit, w.ownsMap Try.prog 130 cellR M n D ∧ IsMap D ∧ ∀ a b kl, keyOf Try.prog 130 (kv a b) = some kl → D.atKey kl (encD none) = encD (F a b) ∧ Maps.has D kl = (F a b).isSome

theorem mc_made (w : World) : Mc (w.alloc (.map #[] 0)) w.heap.size 0 (fun _ _ => none) :=
  ⟨_, World.ownsMap_made w _ _ _, Maps.isMap_empty, fun a b kl _ => ⟨rfl, rfl⟩⟩
theorem Mc.mono {w : World} {M n n' : Nat} {F : FF} (h : Mc w M n F) (hn : n ≤ n') : Mc w M n' F := by
  obtain ⟨D, h1, h2, h3⟩ := h
  exact ⟨D, h1.mono hn, h2, h3⟩
theorem Mc.kept {w w' : World} {M n : Nat} {F : FF} (h : Mc w M n F) (hb : w'.heap[M]? = w.heap[M]?) : Mc w' M n F := by
  obtain ⟨D, ⟨es, c, h1, h⟩, h2, h3⟩ := h
  exact ⟨D, ⟨es, c, hb.trans h1, h⟩, h2, h3⟩
theorem Mc.lt {w : World} {M n : Nat} {F : FF} (h : Mc w M n F) : M < w.heap.size := by
  obtain ⟨D, h1, _⟩ := h
  exact h1.lt
theorem Mc.look {w : World} {M n : Nat} {F : FF} (h : Mc w M n F) {a b : Int} (ha : I64 a) (hb : I64 b) :
    (Instr.lookup 99 (.map (some M)) (kv a b) false).run Try.prog w = .ok (.agg #[.int .i64 (c1 (F a b)), .int .i64 (c2 (F a b))]) w := by
  obtain ⟨D, h1, h2, h3⟩ := h
  obtain ⟨kl, hk⟩ := kv_key ha hb
  obtain ⟨v, ps, hr, hv⟩ := h1.lookup lawK Try.underlying99 (zeroE w) (zd := encD none) (zp := []) rfl hk
  rw [(h3 a b kl hk).1] at hv
  obtain ⟨x, y, rfl, e⟩ := cellR_inv hv
  simp only [encD, Prod.mk.injEq, DataW.agg.injEq, List.cons.injEq, DataW.lit.injEq, Lit.int.injEq] at e
  rw [e.1.1.2, e.1.2.1.2]
  exact hr
theorem Mc.lookok {w : World} {M n : Nat} {F : FF} (h : Mc w M n F) {a b : Int} (ha : I64 a) (hb : I64 b) :
    (Instr.lookup 99 (.map (some M)) (kv a b) true).run Try.prog w = .ok (.tuple #[.agg #[.int .i64 (c1 (F a b)), .int .i64 (c2 (F a b))], .bool (F a b).isSome]) w := by
  obtain ⟨D, h1, h2, h3⟩ := h
  obtain ⟨kl, hk⟩ := kv_key ha hb
  obtain ⟨v, ps, hr, hv⟩ := h1.look_ok lawK Try.underlying99 (zeroE w) (zd := encD none) (zp := []) rfl hk
  rw [(h3 a b kl hk).1] at hv
  rw [(h3 a b kl hk).2] at hr
  obtain ⟨x, y, rfl, e⟩ := cellR_inv hv
  simp only [encD, Prod.mk.injEq, DataW.agg.injEq, List.cons.injEq, DataW.lit.injEq, Lit.int.injEq] at e
  rw [e.1.1.2, e.1.2.1.2]
  exact hr
theorem updF_atKey {D : DataW Unit} {F : FF} {a b : Int} {o : Option (Int × Int)} {kl : Lit} (hk : keyOf Try.prog 130 (kv a b) = some kl) {D' : DataW Unit} (h1 : D'.atKey kl (encD none) = encD o ∧ Maps.has D' kl = o.isSome)
    (h2 : ∀ kl', kl' ≠ kl → D'.atKey kl' (encD none) = D.atKey kl' (encD none) ∧ Maps.has D' kl' = Maps.has D kl') (h3 : ∀ a b kl, keyOf Try.prog 130 (kv a b) = some kl → D.atKey kl (encD none) = encD (F a b) ∧ Maps.has D kl = (F a b).isSome) :
    ∀ a' b' kl', keyOf Try.prog 130 (kv a' b') = some kl' → D'.atKey kl' (encD none) = encD (updF F a b o a' b') ∧ Maps.has D' kl' = (updF F a b o a' b').isSome := by
  intro a' b' kl' hk'
  by_cases e : kl' = kl
  · subst e
    obtain ⟨rfl, rfl⟩ := kv_inj (lawK.inj hk' hk)
    simp only [updF, and_self, if_true]
    exact h1
  · have : ¬ (a' = a ∧ b' = b) := by
      rintro ⟨rfl, rfl⟩
      rw [hk] at hk'
      exact e (Option.some.inj hk').symm
    rw [(h2 _ e).1, (h2 _ e).2]
    simp only [updF, this, if_false]
    exact h3 _ _ _ hk'
theorem Mc.store {w : World} {M n : Nat} {F : FF} (h : Mc w M n F) (hn : n < maxLen) {a b : Int} (ha : I64 a) (hb : I64 b) (v k : Int) :
    ∃ w', (Instr.mapUpdate 99 (.map (some M)) (kv a b) (.agg #[.int .i64 v, .int .i64 k])).run Try.prog w = .ok () w' ∧ Mc w' M (n + 1) (updF F a b (some (v, k))) ∧ w.grownBy w' (some M) := by
  obtain ⟨D, h1, h2, h3⟩ := h
  obtain ⟨kl, hk⟩ := kv_key ha hb
  obtain ⟨w', hr, ho, hg⟩ := h1.update lawK Try.underlying99 hn hk (val := .agg #[.int .i64 v, .int .i64 k]) (d := encD (some (v, k))) (ps := []) rfl
  exact ⟨w', hr, ⟨_, ho, h2.put _ _, updF_atKey hk ⟨Maps.atKey_put_same h2 (lawK.key hk) _ _, Maps.has_put_same h2 (lawK.key hk) _⟩ (fun kl' e => ⟨Maps.atKey_put_other e _ _, Maps.has_put_other e _⟩) h3⟩, hg⟩
theorem Mc.drop {w : World} {M n : Nat} {F : FF} (h : Mc w M n F) {a b : Int} (ha : I64 a) (hb : I64 b) (ty : TypeId) :
    ∃ w', (Builtin.delete_ #[99, 130] ty #[.map (some M), kv a b]).run Try.prog w = .ok (.tuple #[]) w' ∧ Mc w' M n (updF F a b none) ∧ w.grownBy w' (some M) := by
  obtain ⟨D, h1, h2, h3⟩ := h
  obtain ⟨kl, hk⟩ := kv_key ha hb
  obtain ⟨w', hr, ho, hg⟩ := h1.drop lawK Try.underlying99 hk ty
  exact ⟨w', hr, ⟨_, ho, h2.del _, updF_atKey hk ⟨Maps.atKey_del_same _, Maps.has_del_same⟩ (fun kl' e => ⟨Maps.atKey_del_other e _, Maps.has_del_other e⟩) h3⟩, hg.grown⟩

end Go.Proofs.Ytaomkfhbnakbjaa.Me

namespace Go.Proofs.Ytaomkfhbnakbjaa.Me
open Go.RowKit
set_option linter.unusedVariables false

/-- All but the blocks S, and new ones, is as it was. -/
structure Fr (S : Nat → Prop) (w w' : World) : Prop where
  os : w'.os = w.os
  tape : w'.tape = w.tape
  output : w'.output = w.output
  size : w.heap.size ≤ w'.heap.size
  block : ∀ k, k < w.heap.size → ¬ S k → w'.heap[k]? = w.heap[k]?

theorem Fr.refl (S : Nat → Prop) (w : World) : Fr S w w := ⟨rfl, rfl, rfl, Nat.le_refl _, fun _ _ _ => rfl⟩
theorem Fr.trans {S : Nat → Prop} {a b c : World} (h : Fr S a b) (k : Fr S b c) : Fr S a c :=
  ⟨k.os.trans h.os, k.tape.trans h.tape, k.output.trans h.output, Nat.le_trans h.size k.size, fun j hj hn => (k.block j (Nat.lt_of_lt_of_le hj h.size) hn).trans (h.block j hj hn)⟩
/-- Behind a first step the second one may have written what the first one made, too. -/
theorem Fr.trans' {S T : Nat → Prop} {a b c : World} (h : Fr S a b) (k : Fr T b c) (hT : ∀ j, T j → S j ∨ a.heap.size ≤ j) : Fr S a c :=
  ⟨k.os.trans h.os, k.tape.trans h.tape, k.output.trans h.output, Nat.le_trans h.size k.size, fun j hj hn => (k.block j (Nat.lt_of_lt_of_le hj h.size) (fun ht => (hT j ht).elim hn (fun g => by omega))).trans (h.block j hj hn)⟩
theorem Fr.mono {S T : Nat → Prop} {a b : World} (h : Fr S a b) (hs : ∀ j, S j → T j) : Fr T a b :=
  ⟨h.os, h.tape, h.output, h.size, fun j hj hn => h.block j hj (fun s => hn (hs j s))⟩
theorem Fr.alloc {S : Nat → Prop} {a w : World} (h : Fr S a w) (o : Obj) : Fr S a (w.alloc o) :=
  ⟨h.os, h.tape, h.output, by have := h.size; simp; omega, fun j hj hn => (Below.heap_alloc w o j (Nat.lt_of_lt_of_le hj h.size)).trans (h.block j hj hn)⟩
theorem Fr.setCell {S : Nat → Prop} {a w : World} (h : Fr S a w) {p : Addr} (hp : S p.block ∨ a.heap.size ≤ p.block) (u : Value) : Fr S a (w.setCell p u) :=
  ⟨h.os, h.tape, h.output, by have := h.size; simpa using this, fun j hj hn => (Below.heap_setCell w p u j (fun e => by subst e; exact hp.elim hn (fun g => by omega))).trans (h.block j hj hn)⟩
theorem Fr.grown {S : Nat → Prop} {a w w' : World} {row : Option Nat} (h : Fr S a w) (hg : w.grownBy w' row) (hr : ∀ k, row = some k → S k ∨ a.heap.size ≤ k) : Fr S a w' :=
  ⟨hg.os.trans h.os, hg.tape.trans h.tape, hg.output.trans h.output, Nat.le_trans h.size hg.size,
    fun j hj hn => (hg.block j (Nat.lt_of_lt_of_le hj h.size) (fun e => (hr j e.symm).elim hn (fun g => by omega))).trans (h.block j hj hn)⟩
theorem Fr.below {S : Nat → Prop} {B : Nat} {a w : World} (h : Fr S a w) (hB : B ≤ a.heap.size) (hs : ∀ k, S k → B ≤ k) : Below B a w :=
  ⟨h.os, h.tape, h.output, h.size, fun k hk => h.block k (Nat.lt_of_lt_of_le hk hB) (fun s => by have := hs k s; omega)⟩
theorem Fr.of_below {w w' : World} (h : Below w.heap.size w w') : Fr (fun _ => False) w w' := ⟨h.os, h.tape, h.output, h.size, fun k hk _ => h.block k hk⟩

theorem cell_of_block {w : World} {b : Nat} {cs : Array Value} {t : TypeId} (h : w.heap[b]? = some (.cells cs t (0, 0))) (j : Nat) : w.cell? ⟨b, j, none⟩ = cs[j]? := by simp [World.cell?, h]
theorem free_of_block {w : World} {b : Nat} {cs : Array Value} {t : TypeId} (h : w.heap[b]? = some (.cells cs t (0, 0))) (j : Nat) : w.frozen? ⟨b, j, none⟩ = false := by simp [World.frozen?, h]
theorem lt_of_some {w : World} {b : Nat} {o : Obj} (h : w.heap[b]? = some o) : b < w.heap.size := (Array.getElem?_eq_some_iff.1 h).1
theorem block_setCell {w : World} {b j : Nat} {cs : Array Value} {t : TypeId} (h : w.heap[b]? = some (.cells cs t (0, 0))) (u : Value) : (w.setCell ⟨b, j, none⟩ u).heap[b]? = some (.cells (cs.setIfInBounds j u) t (0, 0)) := by
  have hlt := lt_of_some h
  have h' : w.heap[b] = .cells cs t (0, 0) := by simpa [Array.getElem?_eq_getElem hlt] using h
  show (w.heap.modify b _)[b]? = _
  rw [Array.getElem?_eq_getElem (by simpa using hlt), Array.getElem_modify_self, h']
  rfl

theorem ownsRow_block {w w' : World} {base : Nat} {e : TypeId} {size : Nat} {v : Value} {n : Nat} {xs : List Value} (h : w.ownsRow base e size v n xs) (hk : ∀ k, v.ownBlock = some k → w'.heap[k]? = w.heap[k]?) : w'.ownsRow base e size v n xs := by
  obtain ⟨h1, h2⟩ := h
  refine ⟨h1, ?_⟩
  rcases h2 with h2 | ⟨g, cap, cur, hv, hg, hh, r⟩
  · exact Or.inl h2
  · refine Or.inr ⟨g, cap, cur, hv, hg, ?_, r⟩
    rw [hk g (by rw [hv]; rfl)]
    exact hh
theorem ownsRow_mono {w : World} {b b' : Nat} {e : TypeId} {size : Nat} {v : Value} {n : Nat} {xs : List Value} (h : w.ownsRow b e size v n xs) (hb : b' ≤ b) : w.ownsRow b' e size v n xs := by
  obtain ⟨h1, h2⟩ := h
  refine ⟨h1, ?_⟩
  rcases h2 with h2 | ⟨g, cap, cur, hv, hg, r⟩
  · exact Or.inl h2
  · exact Or.inr ⟨g, cap, cur, hv, Nat.le_trans hb hg, r⟩


theorem ownsRow_set {w : World} {base : Nat} {e : TypeId} {size g n cap : Nat} {xs : List Value} (h : w.ownsRow base e size (.slice (some ⟨g, 0, none⟩) n cap) n xs) {q : Nat} (hq : q < n * size) (u : Value) :
    (w.setCell ⟨g, q, none⟩ u).ownsRow base e size (.slice (some ⟨g, 0, none⟩) n cap) n (xs.set q u) := by
  obtain ⟨h1, h2⟩ := h
  refine ⟨by simpa using h1, ?_⟩
  rcases h2 with ⟨h2, _⟩ | ⟨g', cap', cur, hv, hg, hh, hn, hc, hs, ht⟩
  · cases h2
  · simp at hv
    obtain ⟨rfl, rfl⟩ := hv
    refine Or.inr ⟨_, _, cur.setIfInBounds q u, rfl, hg, block_setCell hh u, hn, hc, by simpa using hs, ?_⟩
    rw [← ht]
    simp [List.take_set]
theorem ownsRow_less {w : World} {base : Nat} {e : TypeId} {size g n cap : Nat} {xs : List Value} (h : w.ownsRow base e size (.slice (some ⟨g, 0, none⟩) n cap) n xs) {k : Nat} (hk : k ≤ n) :
    w.ownsRow base e size (.slice (some ⟨g, 0, none⟩) k cap) k (xs.take (k * size)) := by
  obtain ⟨h1, h2⟩ := h
  have hle : k * size ≤ n * size := Nat.mul_le_mul_right _ hk
  refine ⟨by rw [List.length_take, h1, Nat.min_eq_left hle], ?_⟩
  rcases h2 with ⟨h2, _⟩ | ⟨g', cap', cur, hv, hg, hh, hn, hc, hs, ht⟩
  · cases h2
  · simp at hv
    obtain ⟨rfl, rfl⟩ := hv
    refine Or.inr ⟨_, _, cur, rfl, hg, hh, by omega, hc, hs, ?_⟩
    rw [← ht, List.take_take, Nat.min_eq_left hle]
theorem set_same {α : Type} {l : List α} {i : Nat} {x : α} (h : l[i]? = some x) : l.set i x = l := by
  refine List.ext_getElem? fun n => ?_
  rw [List.getElem?_set]
  by_cases e : i = n
  · subst e
    have := (List.getElem?_eq_some_iff.1 h).1
    rw [if_pos rfl, if_pos this, h]
  · rw [if_neg e]
/-- A place of a row of one's own. -/
theorem ownsRow_at {w : World} {base : Nat} {e : TypeId} {size n : Nat} {v : Value} {xs : List Value} (h : w.ownsRow base e size v n xs) {q : Nat} {u : Value} (hu : xs[q]? = some u) :
    ∃ g cap, v = .slice (some ⟨g, 0, none⟩) n cap ∧ w.cell? ⟨g, q, none⟩ = some u ∧ w.frozen? ⟨g, q, none⟩ = false ∧ g < w.heap.size ∧ base ≤ g ∧ n ≤ cap ∧ cap ≤ maxLen := by
  have hq := (List.getElem?_eq_some_iff.1 hu).1
  obtain ⟨h1, h2⟩ := h
  rcases h2 with ⟨_, h2⟩ | ⟨g, cap, cur, hv, hg, hh, hn, hc, hs, ht⟩
  · subst h2
    simp at h1
    subst h1
    simp at hq
  · refine ⟨g, cap, hv, ?_, free_of_block hh _, lt_of_some hh, hg, hn, hc⟩
    rw [cell_of_block hh]
    rw [← ht, List.getElem?_take_of_lt (by omega)] at hu
    simpa using hu
theorem ownsRow_form {w : World} {base : Nat} {e : TypeId} {size n : Nat} {v : Value} {xs : List Value} (h : w.ownsRow base e size v n xs) : ∃ a c, v = .slice a n c ∧ n ≤ c ∧ c ≤ maxLen := by
  rcases h.2 with ⟨e0, e1⟩ | ⟨g, cap, cur, hv, hg, hh, hn, hc, hs, ht⟩
  · exact ⟨none, 0, by rw [e0, e1], by omega, by decide⟩
  · exact ⟨_, _, hv, hn, hc⟩
theorem own_lt {w : World} {base : Nat} {T : TypeId} {v : Value} {n z : Nat} {xs : List Value} (h : w.ownsRow base T z v n xs) {k : Nat} (hk : v.ownBlock = some k) : k < w.heap.size := by
  rcases h.2 with ⟨e0, -⟩ | ⟨g, cap, cur, e0, -, hg, -⟩
  · rw [e0] at hk; cases hk
  · rw [e0] at hk; injection hk with hk; subst hk; exact (Array.getElem?_eq_some_iff.1 hg).1
theorem sub_own {a : Option Addr} {n m c : Nat} : (Value.slice a n c).ownBlock = (Value.slice a m c).ownBlock := by cases a <;> rfl

/-- Numbers, as cells. -/
def rowN (H : List Int) : List Value := H.map fun x => .int .i64 x
theorem rowN_len (H : List Int) : (rowN H).length = H.length := List.length_map ..
theorem rowN_at {H : List Int} {k : Nat} {x : Int} (h : H[k]? = some x) : (rowN H)[k]? = some (.int .i64 x) := by simp [rowN, h]

/-- A block of the memory: its cells, which of them aren't 0, and the slice that says so. -/
structure Bk where
  c : Nat
  H : List Int
  v : Value
def bkCells (L : List Bk) : List Value := L.flatMap fun d => [.int .i64 (d.c : Int), d.v]
theorem bk_cons (d : Bk) (r : List Bk) : bkCells (d :: r) = .int .i64 (d.c : Int) :: d.v :: bkCells r := by simp [bkCells]
theorem bkCells_append (a b : List Bk) : bkCells (a ++ b) = bkCells a ++ bkCells b := by simp [bkCells]
theorem bkCells_length (L : List Bk) : (bkCells L).length = L.length * 2 := by
  induction L with
  | nil => rfl
  | cons d r ih => rw [bk_cons]; simp [ih]; omega
theorem bkCells_at : ∀ (L : List Bk) (i : Nat) (d : Bk), L[i]? = some d → (bkCells L)[i * 2]? = some (.int .i64 (d.c : Int)) ∧ (bkCells L)[i * 2 + 1]? = some d.v
  | [], i, d, e => by simp at e
  | x :: r, 0, d, e => by simp at e; subst e; simp [bkCells]
  | x :: r, i + 1, d, e => by
    have := bkCells_at r i d (by simpa using e)
    rw [bk_cons, show (i + 1) * 2 = i * 2 + 1 + 1 by omega]
    simpa using this
theorem bkCells_set : ∀ (L : List Bk) (i : Nat) (d : Bk) (H' : List Int) (v' : Value), L[i]? = some d → bkCells (L.set i ⟨d.c, H', v'⟩) = (bkCells L).set (i * 2 + 1) v'
  | [], i, d, H', v', e => by simp at e
  | x :: r, 0, d, H', v', e => by simp at e; subst e; simp [bkCells]
  | x :: r, i + 1, d, H', v', e => by
    have := bkCells_set r i d H' v' (by simpa using e)
    rw [List.set_cons_succ, bk_cons, bk_cons, show (i + 1) * 2 + 1 = i * 2 + 1 + 1 + 1 by omega, List.set_cons_succ, List.set_cons_succ, this]
theorem bkCells_take (L : List Bk) : ∀ k, (bkCells L).take (k * 2) = bkCells (L.take k) := by
  induction L with
  | nil => intro k; simp [bkCells]
  | cons x r ih =>
    intro k
    cases k with
    | zero => simp [bkCells]
    | succ k => rw [List.take_succ_cons, bk_cons, bk_cons, show (k + 1) * 2 = k * 2 + 1 + 1 by omega, List.take_succ_cons, List.take_succ_cons, ih]

def szs (L : List Bk) : List Nat := L.map Bk.c

/-- What the map says, and what each block's list says; A: the blocks whose lists are right still. -/
structure MF (A : Nat → Prop) (n : Nat) (L : List Bk) (f : Int → Int → Int) (F : FF) : Prop where
  val : ∀ a b, (F a b).map Prod.fst = if f a b = 0 then none else some (f a b)
  out : ∀ a b, inB (szs L) a b = false → f a b = 0
  pos : ∀ (i : Nat) (d : Bk) (b v k : Int), L[i]? = some d → F i b = some (v, k) → 0 ≤ k ∧ d.H[k.toNat]? = some b
  lst : ∀ (i : Nat) (d : Bk) (k : Nat) (o : Int), A i → L[i]? = some d → d.H[k]? = some o → ∃ v, F i o = some (v, (k : Int))
  len : ∀ (i : Nat) (d : Bk), L[i]? = some d → d.H.length ≤ n
theorem MF.none {A : Nat → Prop} {n : Nat} {L : List Bk} {f : Int → Int → Int} {F : FF} (h : MF A n L f F) {a b : Int} : F a b = none ↔ f a b = 0 := by
  have := h.val a b
  constructor
  · intro e
    rw [e] at this
    by_cases hz : f a b = 0
    · exact hz
    · rw [if_neg hz] at this; cases this
  · intro e
    rw [if_pos e] at this
    simpa using this
theorem MF.some {A : Nat → Prop} {n : Nat} {L : List Bk} {f : Int → Int → Int} {F : FF} (h : MF A n L f F) {a b : Int} (hz : f a b ≠ 0) : ∃ k, F a b = some (f a b, k) := by
  have := h.val a b
  rw [if_neg hz] at this
  simp only [Option.map_eq_some_iff] at this
  obtain ⟨⟨v, k⟩, e, rfl⟩ := this
  exact ⟨k, e⟩
theorem MF.c1 {A : Nat → Prop} {n : Nat} {L : List Bk} {f : Int → Int → Int} {F : FF} (h : MF A n L f F) (a b : Int) : c1 (F a b) = f a b := by
  by_cases hz : f a b = 0
  · rw [h.none.2 hz, hz]; rfl
  · obtain ⟨k, e⟩ := h.some hz
    rw [e]; rfl

/-- A memory at block p; bl: the blocks of the heap that are its own. -/
structure MX (w : World) (B : Nat) (bl : Nat → Prop) (p n : Nat) (L : List Bk) (F : FF) (t : Int) (M : Nat) (la : Option Addr) (lc : Nat) : Prop where
  rng : ∀ k, bl k → B ≤ k ∧ k < w.heap.size
  inp : bl p
  inM : bl M
  Mnp : M ≠ p
  own : ∀ k, (Value.slice la L.length lc).ownBlock = some k → bl k ∧ k ≠ p ∧ k ≠ M
  cells : w.heap[p]? = some (.cells #[.map (some M), .slice la L.length lc, .int .i64 t] 102 (0, 0))
  map : Mc w M n F
  row : w.ownsRow B 156 2 (.slice la L.length lc) L.length (bkCells L)
  hld : ∀ (i : Nat) (d : Bk), L[i]? = some d → w.ownsRow B 3 1 d.v d.H.length (rowN d.H)
  hin : ∀ (i : Nat) (d : Bk) (k : Nat), L[i]? = some d → d.v.ownBlock = some k → bl k ∧ k ≠ p ∧ k ≠ M ∧ (Value.slice la L.length lc).ownBlock ≠ some k
  dif : ∀ (i j : Nat) (d e : Bk) (k : Nat), L[i]? = some d → L[j]? = some e → d.v.ownBlock = some k → e.v.ownBlock = some k → i = j

theorem MX.kept {w w' : World} {B : Nat} {bl : Nat → Prop} {p n : Nat} {L : List Bk} {F : FF} {t : Int} {M : Nat} {la : Option Addr} {lc : Nat} (h : MX w B bl p n L F t M la lc) (hb : ∀ k, bl k → w'.heap[k]? = w.heap[k]?) (hs : w.heap.size ≤ w'.heap.size) : MX w' B bl p n L F t M la lc :=
  ⟨fun k hk => ⟨(h.rng k hk).1, Nat.lt_of_lt_of_le (h.rng k hk).2 hs⟩, h.inp, h.inM, h.Mnp, h.own, by rw [hb p h.inp]; exact h.cells, h.map.kept (hb M h.inM), ownsRow_block h.row fun k hk => hb k (h.own k hk).1,
    fun i d e => ownsRow_block (h.hld i d e) fun k hk => hb k (h.hin i d k e hk).1, h.hin, h.dif⟩

/-- A memory: its blocks' lengths, what its cells hold, what is told as the sum. -/
def MI (w : World) (B : Nat) (bl : Nat → Prop) (p n : Nat) (bs : List Nat) (f : Int → Int → Int) (t : Int) : Prop :=
  ∃ L F M la lc, MX w B bl p n L F t M la lc ∧ MF (fun _ => True) n L f F ∧ szs L = bs

theorem MI.rng {w : World} {B : Nat} {bl : Nat → Prop} {p n : Nat} {bs : List Nat} {f : Int → Int → Int} {t : Int} (h : MI w B bl p n bs f t) {k : Nat} (hk : bl k) : B ≤ k ∧ k < w.heap.size := by
  obtain ⟨L, F, M, la, lc, h1, h2, h3⟩ := h
  exact h1.rng k hk
theorem MI.inp {w : World} {B : Nat} {bl : Nat → Prop} {p n : Nat} {bs : List Nat} {f : Int → Int → Int} {t : Int} (h : MI w B bl p n bs f t) : bl p := by
  obtain ⟨L, F, M, la, lc, h1, h2, h3⟩ := h
  exact h1.inp
theorem MI.out {w : World} {B : Nat} {bl : Nat → Prop} {p n : Nat} {bs : List Nat} {f : Int → Int → Int} {t : Int} (h : MI w B bl p n bs f t) {a b : Int} (hk : inB bs a b = false) : f a b = 0 := by
  obtain ⟨L, F, M, la, lc, h1, h2, h3⟩ := h
  exact h2.out a b (by rw [h3]; exact hk)
theorem MI.kept {w w' : World} {B : Nat} {bl : Nat → Prop} {p n : Nat} {bs : List Nat} {f : Int → Int → Int} {t : Int} (h : MI w B bl p n bs f t) (hb : ∀ k, bl k → w'.heap[k]? = w.heap[k]?) (hs : w.heap.size ≤ w'.heap.size) : MI w' B bl p n bs f t := by
  obtain ⟨L, F, M, la, lc, h1, h2, h3⟩ := h
  exact ⟨L, F, M, la, lc, h1.kept hb hs, h2, h3⟩
theorem MI.fr {w w' : World} {B : Nat} {S bl : Nat → Prop} {p n : Nat} {bs : List Nat} {f : Int → Int → Int} {t : Int} (h : MI w B bl p n bs f t) (hf : Fr S w w') (hd : ∀ k, bl k → ¬ S k) : MI w' B bl p n bs f t :=
  h.kept (fun k hk => hf.block k (h.rng hk).2 (hd k hk)) hf.size
theorem MI.below {w w' : World} {B : Nat} {bl : Nat → Prop} {p n : Nat} {bs : List Nat} {f : Int → Int → Int} {t : Int} (h : MI w B bl p n bs f t) (hf : Below w.heap.size w w') : MI w' B bl p n bs f t :=
  h.fr (Fr.of_below hf) (fun _ _ h => h)

theorem hideIt {q : Prop} (h : q) : Hid q := h
theorem cell_new {X : World} {N : Nat} (h : X.heap.size = N) (cs : Array Value) (t : TypeId) (j : Nat) : (X.alloc (.cells cs t)).cell? ⟨N, j, none⟩ = cs[j]? := by
  subst h
  exact cell_of_block (heap_alloc_new X (.cells cs t (0, 0))) j
/-- The two cells of a block's row. -/
theorem MX.at {w : World} {B : Nat} {bl : Nat → Prop} {p n : Nat} {L : List Bk} {F : FF} {t : Int} {M : Nat} {la : Option Addr} {lc : Nat} (h : MX w B bl p n L F t M la lc) {i : Nat} {d : Bk} (hi : L[i]? = some d) :
    ∃ g, la = some ⟨g, 0, none⟩ ∧ w.cell? ⟨g, i * 2, none⟩ = some (.int .i64 (d.c : Int)) ∧ w.cell? ⟨g, i * 2 + 1, none⟩ = some d.v ∧ w.frozen? ⟨g, i * 2 + 1, none⟩ = false := by
  obtain ⟨e1, e2⟩ := bkCells_at L i d hi
  obtain ⟨g, cap, hv, q1, q2, q3, -⟩ := ownsRow_at h.row e1
  obtain ⟨g', cap', hv', q1', q2', q3', -⟩ := ownsRow_at h.row e2
  simp at hv hv'
  obtain ⟨rfl, rfl⟩ := hv
  simp at hv'
  obtain ⟨rfl, rfl⟩ := hv'
  exact ⟨g, rfl, q1, q1', q2'⟩

end Go.Proofs.Ytaomkfhbnakbjaa.Me

namespace Go.Proofs.Ytaomkfhbnakbjaa.Me
open Go.RowKit
set_option linter.unusedVariables false

theorem new_mi (w : World) : MI ((w.alloc (.map #[] 0)).alloc (.cells #[.map (some w.heap.size), .slice none 0 0, .int .i64 0] 102)) w.heap.size (fun k => w.heap.size ≤ k ∧ k < ((w.alloc (.map #[] 0)).alloc (.cells #[.map (some w.heap.size), .slice none 0 0, .int .i64 0] 102)).heap.size) (w.heap.size + 1) 0 [] (fun _ _ => 0) 0 := by
  refine ⟨[], fun _ _ => none, w.heap.size, none, 0, ⟨fun k hk => hk, ⟨by omega, by simp⟩, ⟨Nat.le_refl _, by simp; omega⟩, by omega, fun k hk => by simp [Value.ownBlock] at hk, ?_, ?_, ?_, fun i d e => by simp at e, fun i d k e => by simp at e, fun i j d e k h1 => by simp at h1⟩, ⟨fun a b => rfl, fun _ _ _ => rfl, fun i d b v k e => by simp at e, fun i d k o _ e => by simp at e, fun i d e => by simp at e⟩, rfl⟩
  · have := heap_alloc_new (w.alloc (.map #[] 0)) (.cells #[.map (some w.heap.size), .slice none 0 0, .int .i64 0] 102)
    simpa using this
  · refine (mc_made w).kept ?_
    exact Below.heap_alloc _ _ _ (by simp)
  · exact World.ownsRow_nil _ _ _ _

set_option maxRecDepth 100000 in
theorem new_any (w : World) : Calls Try.prog 31 #[] w fun e w' => ∃ p, e = .returned (.pointer (some ⟨p, 0, none⟩)) ∧ MI w' w.heap.size (fun k => w.heap.size ≤ k ∧ k < w'.heap.size) p 0 [] (fun _ _ => 0) 0 ∧ Fr (fun _ => False) w w' := by
  have hmk := run_makeMap (P := Try.prog) 99
  go_enter Try.func31, Try.ntmps31
  go_wp2
  go_ret
  refine ⟨_, rfl, new_mi w, ?_⟩
  exact ((Fr.refl _ w).alloc _).alloc _

theorem blocks_any {w : World} {B : Nat} {bl : Nat → Prop} {p n : Nat} {bs : List Nat} {f : Int → Int → Int} {t : Int} (h : MI w B bl p n bs f t) :
    Calls Try.prog 81 #[.pointer (some ⟨p, 0, none⟩)] w fun e w' => e = .returned (.int .i64 bs.length) ∧ w' = w := by
  obtain ⟨L, F, M, la, lc, h, -, hs⟩ := h
  have hl : bs.length = L.length := by rw [← hs]; simp [szs]
  have c1 : w.cell? ⟨p, 1, none⟩ = some (.slice la L.length lc) := cell_of_block h.cells 1
  rw [hl]
  clear h hs hl
  go_enter Try.func81, Try.ntmps81
  go_wp2
  go_ret
  exact ⟨rfl, rfl⟩

theorem below_box (w : World) (o : Obj) (k : Nat) : Below w.heap.size w ((w.alloc o).drewN k) := by
  have h := (Below.refl w.heap.size w).alloc (Nat.le_refl _) o
  exact ⟨h.os, h.tape, h.output, h.size, h.block⟩
theorem cell_box {w : World} {ad : Addr} {v : Value} (h : w.cell? ad = some v) (o : Obj) : (w.alloc o).cell? ad = some v := by
  obtain ⟨b, j, x⟩ := ad
  cases x
  · rw [World.cell?_alloc_past _ _ _ (World.block_lt_of_cell? w _ h)]
    exact h
  · exact ((Below.refl w.heap.size w).alloc (Nat.le_refl _) o).cell (World.block_lt_of_cell? w _ h) |>.trans h

set_option maxRecDepth 100000 in
set_option maxHeartbeats 2000000 in
theorem has_yes {w : World} (p g len lc i : Nat) (b c : Int) (hlen : len ≤ 9223372036854775807) (hi : i < len) (hb : 0 ≤ b)
    (c1 : w.cell? ⟨p, 1, none⟩ = some (.slice (some ⟨g, 0, none⟩) len lc)) (c2 : w.cell? ⟨g, i * 2, none⟩ = some (.int .i64 c)) :
    Calls Try.prog 101 #[.pointer (some ⟨p, 0, none⟩), kv i b] w fun e w' => e = .returned (.bool (decide (b < c))) ∧ Below w.heap.size w w' := by
  unfold kv
  have d1 := cell_box c1 (.cells #[.int .i64 i, .int .i64 b] 130)
  have d2 := cell_box c2 (.cells #[.int .i64 i, .int .i64 b] 130)
  clear c1 c2
  have i0 : (0 : Int) ≤ (i : Int) := by omega
  have i1 : (i : Int) < (len : Int) := by omega
  go_enter Try.func101, Try.ntmps101
  go_wp2
  go_quiet (fail)
  go_wp2
  go_ret
  exact ⟨rfl, below_box _ _ _⟩

theorem has_low {w : World} (p : Nat) (a b : Int) (hn : ¬ 0 ≤ a) : Calls Try.prog 101 #[.pointer (some ⟨p, 0, none⟩), kv a b] w fun e w' => e = .returned (.bool false) ∧ Below w.heap.size w w' := by
  unfold kv
  have g1 : decide (0 ≤ a) = false := by simpa using hn
  clear hn
  go_enter Try.func101, Try.ntmps101
  go_wp2
  go_quiet (fail)
  go_wp2
  go_ret
  exact ⟨rfl, below_box _ _ _⟩
theorem has_far {w : World} (p len lc : Nat) (la : Option Addr) (a b : Int) (ha : 0 ≤ a) (hn : ¬ a < (len : Int)) (c1 : w.cell? ⟨p, 1, none⟩ = some (.slice la len lc)) :
    Calls Try.prog 101 #[.pointer (some ⟨p, 0, none⟩), kv a b] w fun e w' => e = .returned (.bool false) ∧ Below w.heap.size w w' := by
  unfold kv
  have d1 := cell_box c1 (.cells #[.int .i64 a, .int .i64 b] 130)
  have g1 : decide (a < (len : Int)) = false := by simpa using hn
  clear c1 hn
  go_enter Try.func101, Try.ntmps101
  go_wp2
  go_quiet (fail)
  go_wp2
  go_ret
  exact ⟨rfl, below_box _ _ _⟩
theorem has_neg {w : World} (p len lc : Nat) (la : Option Addr) (a b : Int) (ha : 0 ≤ a) (hi : a < (len : Int)) (hn : ¬ 0 ≤ b) (c1 : w.cell? ⟨p, 1, none⟩ = some (.slice la len lc)) :
    Calls Try.prog 101 #[.pointer (some ⟨p, 0, none⟩), kv a b] w fun e w' => e = .returned (.bool false) ∧ Below w.heap.size w w' := by
  unfold kv
  have d1 := cell_box c1 (.cells #[.int .i64 a, .int .i64 b] 130)
  have g1 : decide (0 ≤ b) = false := by simpa using hn
  clear c1 hn
  go_enter Try.func101, Try.ntmps101
  go_wp2
  go_quiet (fail)
  go_wp2
  go_ret
  exact ⟨rfl, below_box _ _ _⟩

theorem has_mx {w : World} {B : Nat} {bl : Nat → Prop} {p n : Nat} {L : List Bk} {F : FF} {t : Int} {M : Nat} {la : Option Addr} {lc : Nat} (h : MX w B bl p n L F t M la lc) (a b : Int) (hl : L.length ≤ 1000000) :
    Calls Try.prog 101 #[.pointer (some ⟨p, 0, none⟩), kv a b] w fun e w' => e = .returned (.bool (inB (szs L) a b)) ∧ Below w.heap.size w w' := by
  have c1 : w.cell? ⟨p, 1, none⟩ = some (.slice la L.length lc) := cell_of_block h.cells 1
  have hsz : (szs L).length = L.length := by simp [szs]
  by_cases ha : 0 ≤ a
  · by_cases hi : a < (L.length : Int)
    · by_cases hb : 0 ≤ b
      · have hlt : a.toNat < L.length := by omega
        obtain ⟨g, rfl, c2, -, -⟩ := h.at (i := a.toNat) (d := L[a.toNat]) (by simp [hlt])
        have := has_yes p g L.length lc a.toNat b _ (by omega) (by omega) hb c1 c2
        rw [show ((a.toNat : Nat) : Int) = a by omega] at this
        refine this.mono ?_
        rintro e w' ⟨rfl, hw⟩
        refine ⟨?_, hw⟩
        have e1 : (szs L).getD a.toNat 0 = (L[a.toNat]).c := by simp [szs, List.getD, hlt]
        simp only [inB, hsz, ha, hi, hb, e1, decide_true, Bool.true_and]
      · refine (has_neg p L.length lc la a b ha hi hb c1).mono ?_
        rintro e w' ⟨rfl, hw⟩
        exact ⟨by simp [inB, hb], hw⟩
    · refine (has_far p L.length lc la a b ha hi c1).mono ?_
      rintro e w' ⟨rfl, hw⟩
      exact ⟨by simp [inB, hsz, hi], hw⟩
  · refine (has_low p a b ha).mono ?_
    rintro e w' ⟨rfl, hw⟩
    exact ⟨by simp [inB, ha], hw⟩

theorem run_fld0 (w : World) (a b : Int) : (Instr.field 159 (.agg #[.int .i64 a, .int .i64 b]) 0).run Try.prog w = .ok (.int .i64 a) w := by
  simp [Instr.field, go_sem, asAgg]
theorem run_fld1 (w : World) (a b : Int) : (Instr.field 159 (.agg #[.int .i64 a, .int .i64 b]) 1).run Try.prog w = .ok (.int .i64 b) w := by
  simp [Instr.field, go_sem, asAgg]
attribute [local go_sem ↓] run_fld0 run_fld1

theorem load_facts {w : World} {B : Nat} {bl : Nat → Prop} {p n : Nat} {L : List Bk} {F : FF} {t : Int} {M : Nat} {la : Option Addr} {lc : Nat} (h : MX w B bl p n L F t M la lc) {a b : Int} (ha : I64 a) (hb : I64 b) :
    ∀ x1, Below (w.heap.size + 1) (w.alloc (.cells #[.int .i64 a, .int .i64 b] 130)) x1 → x1.cell? ⟨p, 0, none⟩ = some (.map (some M)) ∧
      (∀ j, (Instr.lookup 99 (.map (some M)) (.agg #[.int .i64 a, .int .i64 b]) false).run Try.prog (x1.drewN j) = .ok (.agg #[.int .i64 (c1 (F a b)), .int .i64 (c2 (F a b))]) (x1.drewN j)) ∧ x1.cell? ⟨w.heap.size, 0, none⟩ = some (.int .i64 a) ∧ x1.cell? ⟨w.heap.size, 1, none⟩ = some (.int .i64 b) := by
  intro x1 hx
  have c0 : w.cell? ⟨p, 0, none⟩ = some (.map (some M)) := cell_of_block h.cells 0
  have hlt := lt_of_some h.cells
  have hM := h.map.lt
  refine ⟨?_, ?_, ?_, ?_⟩
  · rw [hx.cell (p := ⟨p, 0, none⟩) (by simp; omega)]
    exact cell_box c0 _
  · have e : x1.heap[M]? = w.heap[M]? := by rw [hx.block M (by omega)]; exact Below.heap_alloc _ _ _ hM
    exact fun j => (h.map.kept (w' := x1.drewN j) e).look ha hb
  · rw [hx.cell (p := ⟨w.heap.size, 0, none⟩) (by simp)]
    exact cell_new rfl _ _ 0
  · rw [hx.cell (p := ⟨w.heap.size, 1, none⟩) (by simp)]
    exact cell_new rfl _ _ 1

set_option maxRecDepth 100000 in
theorem load_any {w : World} {B : Nat} {bl : Nat → Prop} {p n : Nat} {bs : List Nat} {f : Int → Int → Int} {t : Int} (h : MI w B bl p n bs f t) {a b : Int} (ha : I64 a) (hb : I64 b) (hl : bs.length ≤ 1000000) :
    Calls Try.prog 131 #[.pointer (some ⟨p, 0, none⟩), kv a b] w fun e w' => e = .returned (.tuple #[.int .i64 (f a b), .int .i64 (if inB bs a b then 0 else 12)]) ∧ Below w.heap.size w w' := by
  obtain ⟨L, F, M, la, lc, h, hf, hs⟩ := h
  have hF := load_facts h ha hb
  have hll : L.length ≤ 1000000 := by rw [← hs] at hl; simpa [szs] using hl
  have H := hideIt (h.kept (w' := w.alloc (.cells #[.int .i64 a, .int .i64 b] 130)) (fun k hk => Below.heap_alloc _ _ _ (h.rng k hk).2) (by simp))
  have HO := hideIt hf.out
  have hv := hf.c1 a b
  have HF := hideIt hF
  have HL := hideIt hll
  subst hs
  clear h hF ha hb hl hll hf
  rw [← hv]
  have HV := hideIt hv
  clear hv
  have hk : kv a b = .agg #[.int .i64 a, .int .i64 b] := rfl
  rw [hk]
  cases hin : inB (szs L) a b
  · have hz := hideIt (HO.out a b hin)
    go_enter Try.func131, Try.ntmps131
    go_wp2_with (first | (go_at_call 101; refine (has_mx H.out a b HL.out).mono ?_; rw [hin]; rintro e x1 ⟨rfl, hb⟩; have HB := hideIt hb; clear hb) | fail)
    go_ret2
    rw [HV.out, hz.out]
    exact ⟨rfl, ((Below.refl _ _).alloc (Nat.le_refl _) _).trans (HB.out.mono (by simp))⟩
  · go_enter Try.func131, Try.ntmps131
    go_wp2_with (first | (go_at_call 101; refine (has_mx H.out a b HL.out).mono ?_; rw [hin]; rintro e x1 ⟨rfl, hb⟩; have HB := hideIt hb; obtain ⟨k1, k2, k3, k4⟩ := HF.out x1 (by simpa using hb); clear hb) | fail)
    go_quiet (fail)
    go_wp2
    go_ret2
    refine ⟨rfl, ?_⟩
    have := ((Below.refl w.heap.size w).alloc (Nat.le_refl _) (.cells #[.int .i64 a, .int .i64 b] 130)).trans (HB.out.mono (by simp))
    exact ⟨this.os, this.tape, this.output, this.size, this.block⟩

end Go.Proofs.Ytaomkfhbnakbjaa.Me

namespace Go.Proofs.Ytaomkfhbnakbjaa.Me
open Go.RowKit
set_option linter.unusedVariables false

theorem alloc_lim {w : World} {B : Nat} {bl : Nat → Prop} {p n : Nat} {bs : List Nat} {f : Int → Int → Int} {t : Int} (h : MI w B bl p n bs f t) (ht : 0 ≤ t) (ht2 : t ≤ 65536) (c : Int) (hc : 0 ≤ c) (hc2 : 65536 - t < c) :
    Calls Try.prog 79 #[.pointer (some ⟨p, 0, none⟩), .int .i64 c] w fun e w' => e = .returned (.tuple #[.int .i64 0, .int .i64 11]) ∧ w' = w := by
  obtain ⟨L, F, M, la, lc, h, -, hs⟩ := h
  have c1 : w.cell? ⟨p, 2, none⟩ = some (.int .i64 t) := cell_of_block h.cells 2
  clear h hs
  go_enter Try.func79, Try.ntmps79
  go_wp2
  all_goals first | (go_ret2; exact ⟨rfl, rfl⟩) | (exfalso; omega)

theorem infoB : (Try.prog.info? 156).map (fun i => (i.zero, i.size, i.bytes)) = some (some (.agg #[.int .i64 0, .slice none 0 0]), 2, 32) := by kernel_rfl

theorem alloc_mx {w w1 : World} {B : Nat} {bl : Nat → Prop} {p n : Nat} {L : List Bk} {F : FF} {t : Int} {M : Nat} {la : Option Addr} {lc : Nat} (h : MX w B bl p n L F t M la lc) {g cap c : Nat} {o : Obj} {t' : Int}
    (ho : w1.ownsRow B 156 2 (.slice (some ⟨g, 0, none⟩) (L.length + 1) cap) (L.length + 1) (bkCells L ++ [.int .i64 (c : Int), .slice none 0 0])) (hg : (w.alloc o).grownBy w1 (Value.slice la L.length lc).ownBlock)
    (hat : (Value.slice la L.length lc).ownBlock = some g ∨ g = w.heap.size + 1) :
    (∃ bl' : Nat → Prop, (∀ k, bl k → bl' k) ∧ (∀ k, bl' k → bl k ∨ w.heap.size ≤ k) ∧ MX ((w1.setCell ⟨p, 1, none⟩ (.slice (some ⟨g, 0, none⟩) (L.length + 1) cap)).setCell ⟨p, 2, none⟩ (.int .i64 t')) B bl' p n (L ++ [⟨c, [], .slice none 0 0⟩]) F t' M (some ⟨g, 0, none⟩) cap) ∧
      Fr bl w ((w1.setCell ⟨p, 1, none⟩ (.slice (some ⟨g, 0, none⟩) (L.length + 1) cap)).setCell ⟨p, 2, none⟩ (.int .i64 t')) := by
  have hgl := own_lt ho rfl
  have hp : p < w.heap.size := lt_of_some h.cells
  have hM : M < w.heap.size := h.map.lt
  have hgp : g ≠ p := by
    rcases hat with e | e
    · exact (h.own g e).2.1
    · omega
  have hgM : g ≠ M := by
    rcases hat with e | e
    · exact (h.own g e).2.2
    · omega
  have hF1 : Fr bl w w1 := ((Fr.refl bl w).alloc o).grown hg (fun k hk => Or.inl (h.own k hk).1)
  have blk : ∀ k, k < w.heap.size → (Value.slice la L.length lc).ownBlock ≠ some k → w1.heap[k]? = w.heap[k]? := fun k hk e => by
    rw [hg.block k (by simp; omega) (fun e' => e e'.symm)]
    exact Below.heap_alloc _ _ _ hk
  have q1 : w1.heap[p]? = w.heap[p]? := blk p hp (fun e => (h.own p e).2.1 rfl)
  have q2 : w1.heap[M]? = w.heap[M]? := blk M hM (fun e => (h.own M e).2.2 rfl)
  have hF : Fr bl w ((w1.setCell ⟨p, 1, none⟩ (.slice (some ⟨g, 0, none⟩) (L.length + 1) cap)).setCell ⟨p, 2, none⟩ (.int .i64 t')) := (hF1.setCell (Or.inl h.inp) _).setCell (Or.inl h.inp) _
  have hgk : ∀ (i : Nat) (d : Bk) (k : Nat), L[i]? = some d → d.v.ownBlock = some k → k ≠ g := fun i d k hi hk e => by
    rcases hat with e1 | e1
    · exact (h.hin i d k hi hk).2.2.2 (by rw [e1, e])
    · have := (h.rng k (h.hin i d k hi hk).1).2; omega
  have each : ∀ (i : Nat) (d : Bk), (L ++ [⟨c, [], .slice none 0 0⟩])[i]? = some d → L[i]? = some d ∨ (i = L.length ∧ d = ⟨c, [], .slice none 0 0⟩) := fun i d e => by
    by_cases hi : i < L.length
    · rw [List.getElem?_append_left hi] at e; exact Or.inl e
    · have hi' : i = L.length := by
        have := (List.getElem?_eq_some_iff.1 e).1
        simp at this
        omega
      subst hi'
      simp at e
      exact Or.inr ⟨rfl, e.symm⟩
  have hlen : (L ++ [(⟨c, [], .slice none 0 0⟩ : Bk)]).length = L.length + 1 := by simp
  refine ⟨⟨fun k => bl k ∨ k = g, fun k hk => Or.inl hk, fun k hk => ?_, ?_⟩, hF⟩
  · rcases hk with hk | rfl
    · exact Or.inl hk
    · rcases hat with e | e
      · exact Or.inl (h.own k e).1
      · exact Or.inr (by omega)
  · refine ⟨fun k hk => ?_, Or.inl h.inp, Or.inl h.inM, h.Mnp, fun k hk => ?_, ?_, ?_, ?_, fun i d e => ?_, fun i d k e hk => ?_, fun i j d e k h1 h2 h3 h4 => ?_⟩
    · rcases hk with hk | rfl
      · have := h.rng k hk
        have := hF.size
        simp at this ⊢
        omega
      · have := ho.2
        refine ⟨?_, by simp; omega⟩
        rcases ho.2 with ⟨q, _⟩ | ⟨g', cap', cur, q, hb, _⟩
        · cases q
        · simp at q
          obtain ⟨rfl, rfl⟩ := q
          exact hb
    · simp [Value.ownBlock] at hk
      subst hk
      exact ⟨Or.inr rfl, hgp, hgM⟩
    · rw [block_setCell (block_setCell (q1.trans h.cells) _), hlen]
      simp
    · refine h.map.kept ?_
      rw [Below.heap_setCell _ _ _ _ h.Mnp, Below.heap_setCell _ _ _ _ h.Mnp]
      exact q2
    · rw [bkCells_append, hlen]
      have e : bkCells [⟨c, [], .slice none 0 0⟩] = [.int .i64 (c : Int), .slice none 0 0] := rfl
      rw [e]
      refine ownsRow_block ho fun k hk => ?_
      simp [Value.ownBlock] at hk
      subst hk
      rw [Below.heap_setCell _ _ _ _ hgp, Below.heap_setCell _ _ _ _ hgp]
    · rcases each i d e with e | ⟨-, rfl⟩
      · refine ownsRow_block (h.hld i d e) fun k hk => ?_
        obtain ⟨k1, k2, k3, k4⟩ := h.hin i d k e hk
        rw [Below.heap_setCell _ _ _ _ k2, Below.heap_setCell _ _ _ _ k2]
        exact blk k (h.rng k k1).2 k4
      · exact World.ownsRow_nil _ _ _ _
    · rcases each i d e with e | ⟨-, rfl⟩
      · obtain ⟨k1, k2, k3, k4⟩ := h.hin i d k e hk
        exact ⟨Or.inl k1, k2, k3, by simp [Value.ownBlock]; exact fun q => hgk i d k e hk q.symm⟩
      · cases hk
    · rcases each i d h1 with h1 | ⟨-, rfl⟩
      · rcases each j e h2 with h2 | ⟨-, rfl⟩
        · exact h.dif i j d e k h1 h2 h3 h4
        · cases h4
      · cases h3

theorem alloc_mf {A : Nat → Prop} {n : Nat} {L : List Bk} {f : Int → Int → Int} {F : FF} (h : MF A n L f F) (c : Nat) : MF A n (L ++ [⟨c, [], .slice none 0 0⟩]) f F := by
  have hs : szs (L ++ [⟨c, [], .slice none 0 0⟩]) = szs L ++ [c] := by simp [szs]
  have hz : ∀ b, f (L.length : Int) b = 0 := fun b => h.out _ b (by simp [inB, szs])
  have each : ∀ (i : Nat) (d : Bk), (L ++ [⟨c, [], .slice none 0 0⟩])[i]? = some d → L[i]? = some d ∨ (i = L.length ∧ d = ⟨c, [], .slice none 0 0⟩) := fun i d e => by
    by_cases hi : i < L.length
    · rw [List.getElem?_append_left hi] at e; exact Or.inl e
    · have hi' : i = L.length := by
        have := (List.getElem?_eq_some_iff.1 e).1
        simp at this
        omega
      subst hi'
      simp at e
      exact Or.inr ⟨rfl, e.symm⟩
  refine ⟨h.val, fun a b e => h.out a b ?_, fun i d b v k e hF => ?_, fun i d k o hA e hk => ?_, fun i d e => ?_⟩
  · cases e2 : inB (szs L) a b
    · rfl
    · rw [hs, inB_snoc c e2] at e
      cases e
  · rcases each i d e with e | ⟨rfl, rfl⟩
    · exact h.pos i d b v k e hF
    · rw [h.none.2 (hz b)] at hF; cases hF
  · rcases each i d e with e | ⟨rfl, rfl⟩
    · exact h.lst i d k o hA e hk
    · simp at hk
  · rcases each i d e with e | ⟨rfl, rfl⟩
    · exact h.len i d e
    · exact Nat.zero_le _

set_option maxRecDepth 100000 in
set_option maxHeartbeats 1000000 in
theorem alloc_ok {w : World} {B : Nat} {bl : Nat → Prop} {p n : Nat} {bs : List Nat} {f : Int → Int → Int} {t : Int} (h : MI w B bl p n bs f t) (ht : 0 ≤ t) (ht2 : t ≤ 65536) (c : Nat) (hc2 : (c : Int) ≤ 65536 - t) (hl : bs.length ≤ 1000000) :
    Calls Try.prog 79 #[.pointer (some ⟨p, 0, none⟩), .int .i64 (c : Int)] w fun e w' => e = .returned (.tuple #[.int .i64 bs.length, .int .i64 0]) ∧
      (∃ bl' : Nat → Prop, (∀ k, bl k → bl' k) ∧ (∀ k, bl' k → bl k ∨ w.heap.size ≤ k) ∧ MI w' B bl' p n (bs ++ [c]) f (t + c)) ∧ Fr bl w w' := by
  obtain ⟨L, F, M, la, lc, h, hf, hs⟩ := h
  have hsl : bs.length = L.length := by rw [← hs]; simp [szs]
  rw [hsl] at hl ⊢
  obtain ⟨i0, hi, hz0, hz1, hz2⟩ := info_parts infoB
  have HT := hideIt (And.intro hi (And.intro hz0 (And.intro hz1 hz2)))
  clear hi hz0 hz1 hz2
  have c1 : w.cell? ⟨p, 1, none⟩ = some (.slice la L.length lc) := cell_of_block h.cells 1
  have c2 : w.cell? ⟨p, 2, none⟩ = some (.int .i64 t) := cell_of_block h.cells 2
  have hp := lt_of_some h.cells
  have hnp : (Value.slice la L.length lc).ownBlock ≠ some p := fun e => (h.own p e).2.1 rfl
  have hB := hideIt (show B ≤ w.heap.size by have := h.rng p h.inp; omega)
  have HR := hideIt (ownsRow_block (w' := w.alloc (.cells #[.int .i64 (c : Int), .slice none 0 0] 156)) h.row (fun k hk => Below.heap_alloc _ _ _ (h.rng k (h.own k hk).1).2))
  have HP := hideIt (show ∀ w1, (w.alloc (.cells #[.int .i64 (c : Int), .slice none 0 0] 156)).grownBy w1 (Value.slice la L.length lc).ownBlock → w1.cell? ⟨p, 1, none⟩ = some (.slice la L.length lc) ∧ w1.cell? ⟨p, 2, none⟩ = some (.int .i64 t) ∧ w1.frozen? ⟨p, 1, none⟩ = false ∧ w1.frozen? ⟨p, 2, none⟩ = false by
    intro w1 hg
    have q1 : w1.heap[p]? = some (.cells #[.map (some M), .slice la L.length lc, .int .i64 t] 102 (0, 0)) := by
      rw [hg.block p (by simp; omega) (Ne.symm hnp), Below.heap_alloc _ _ _ hp]
      exact h.cells
    exact ⟨cell_of_block q1 1, cell_of_block q1 2, free_of_block q1 1, free_of_block q1 2⟩)
  have HA := hideIt (show ∀ (w1 : World) (g cap : Nat), w1.ownsRow B 156 2 (.slice (some ⟨g, 0, none⟩) (L.length + 1) cap) (L.length + 1) (bkCells L ++ [.int .i64 (c : Int), .slice none 0 0]) → (w.alloc (.cells #[.int .i64 (c : Int), .slice none 0 0] 156)).grownBy w1 (Value.slice la L.length lc).ownBlock → ((Value.slice la L.length lc).ownBlock = some g ∨ g = w.heap.size + 1) →
      (∃ bl' : Nat → Prop, (∀ k, bl k → bl' k) ∧ (∀ k, bl' k → bl k ∨ w.heap.size ≤ k) ∧ MI ((w1.setCell ⟨p, 1, none⟩ (.slice (some ⟨g, 0, none⟩) (L.length + 1) cap)).setCell ⟨p, 2, none⟩ (.int .i64 (t + c))) B bl' p n (bs ++ [c]) f (t + c)) ∧ Fr bl w ((w1.setCell ⟨p, 1, none⟩ (.slice (some ⟨g, 0, none⟩) (L.length + 1) cap)).setCell ⟨p, 2, none⟩ (.int .i64 (t + c))) from
    fun w1 g cap ho hg hat => by
      obtain ⟨⟨bl', b1, b2, b3⟩, hF⟩ := alloc_mx (t' := t + c) h ho hg hat
      exact ⟨⟨bl', b1, b2, _, _, _, _, _, b3, alloc_mf hf c, by rw [← hs]; simp [szs]⟩, hF⟩)
  clear h hf hs hsl hnp
  go_enter Try.func79, Try.ntmps79
  go_wp2_with (first | (at_builtin; refine wpList_append_lies _ rfl _ _ 100 rfl B 156 i0 (.agg #[.int .i64 0, .slice none 0 0]) 2 32 Try.underlying100 HT.out.1 HT.out.2.1 HT.out.2.2.1 HT.out.2.2.2 rfl (by decide) (.slice la L.length lc) L.length (bkCells L) rfl HR.out ⟨w.heap.size, 0, none⟩ 1 1 [.int .i64 (c : Int), .slice none 0 0] rfl rfl (World.news_of_block (heap_alloc_new w _)) (by intro u hu; simp at hu; rcases hu with rfl | rfl <;> rfl) (by decide) (by unfold maxLen; omega) (by omega) (by have := hB.out; simp; omega) (w.heap.size + 1) (by simp) ?_; intro g cap w1 hown hgrow hat hlt; obtain ⟨k1, k2, k3, k4⟩ := HP.out w1 hgrow; have HO := hideIt hown; have HG := hideIt hgrow; have HQ := hideIt hat; clear hown hgrow hat) | fail)
  all_goals first | (exfalso; omega) | (go_ret2; exact ⟨rfl, HA.out w1 g cap HO.out HG.out HQ.out⟩)

end Go.Proofs.Ytaomkfhbnakbjaa.Me
