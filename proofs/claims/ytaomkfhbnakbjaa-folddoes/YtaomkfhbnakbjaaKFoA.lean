/-
  A map of numbers by numbers, as a function; what fold knows, in memory: facts on worlds; no conditions but those that each fact bears.
-/
import Derived.Test.YtaomkfhbnakbjaaKIrZf
import Derived.Test.YtaomkfhbnakbjaaKNuBaseE
import Derived.Maps.OwnOps
import Derived.Maps.OwnSet
import Derived.Maps.Views
import Derived.Maps.Keyed
namespace Go.Proofs.Ytaomkfhbnakbjaa.Fo
open Go.RowKit
open Go.Maps (Keyed IsMap)
set_option linter.unusedVariables false

theorem lawK : Keyed Try.prog 3 := Go.Maps.int_keyed Try.underlying3
theorem zeroE (w : World) : (zeroValue 2).run Try.prog w = .ok (.int .i64 0) w := by kernel_rfl
theorem i64_wf {a : Int} (h : I64 a) : (Lit.int .i64 a).wf = true := by
  obtain ⟨h1, h2⟩ := h
  simp only [Lit.wf, Bool.and_eq_true, decide_eq_true_eq]
  exact ⟨h1, h2⟩
theorem kv_key {a : Int} (ha : I64 a) : keyOf Try.prog 3 (.int .i64 a) = some (.int .i64 a) := Go.Maps.keyOf_int_mk Try.underlying3 (i64_wf ha)

def cellR (v : Value) : Option (DataW Unit × List MemPlace) := match v with | .int .i64 a => some (.lit (.int .i64 a), []) | _ => none
theorem cellR_inv {v : Value} {z : DataW Unit × List MemPlace} (h : cellR v = some z) : ∃ a, v = .int .i64 a ∧ z = (.lit (.int .i64 a), []) := by
  unfold cellR at h
  split at h
  · exact ⟨_, rfl, (Option.some.inj h).symm⟩
  · cases h
abbrev KF := Int → Option Int
def encD (o : Option Int) : DataW Unit := .lit (.int .i64 (o.getD 0))
def updK (F : KF) (a : Int) (o : Option Int) : KF := fun x => if x = a then o else F x

/-- Block M is a map of at most n entries, that holds F. -/
def Mi (w : World) (M n : Nat) (F : KF) : Prop :=
  ∃ D : DataW Unit, w.ownsMap Try.prog 3 cellR M n D ∧ IsMap D ∧ ∀ a, I64 a → D.atKey (.int .i64 a) (encD none) = encD (F a) ∧ Maps.has D (.int .i64 a) = (F a).isSome
theorem mi_made (w : World) : Mi (w.alloc (.map #[] 0)) w.heap.size 0 (fun _ => none) :=
  ⟨_, World.ownsMap_made w _ _ _, Maps.isMap_empty, fun a _ => ⟨rfl, rfl⟩⟩
theorem Mi.kept {w w' : World} {M n : Nat} {F : KF} (h : Mi w M n F) (hb : w'.heap[M]? = w.heap[M]?) : Mi w' M n F := by
  obtain ⟨D, ⟨es, c, h1, h⟩, h2, h3⟩ := h
  exact ⟨D, ⟨es, c, hb.trans h1, h⟩, h2, h3⟩
theorem Mi.lt {w : World} {M n : Nat} {F : KF} (h : Mi w M n F) : M < w.heap.size := by
  obtain ⟨D, h1, _⟩ := h
  exact h1.lt
theorem Mi.notc {w : World} {M n : Nat} {F : KF} (h : Mi w M n F) {cs : Array Value} {t : TypeId} {z : Nat × Nat} {b : Nat} (hb : w.heap[b]? = some (.cells cs t z)) : b ≠ M := fun e => by
  obtain ⟨D, ⟨es, c, h1, h⟩, h2, h3⟩ := h
  rw [e, h1] at hb
  cases hb
theorem Mi.look {w : World} {M n : Nat} {F : KF} (h : Mi w M n F) {a : Int} (ha : I64 a) :
    (Instr.lookup 76 (.map (some M)) (.int .i64 a) true).run Try.prog w = .ok (.tuple #[.int .i64 ((F a).getD 0), .bool (F a).isSome]) w := by
  obtain ⟨D, h1, h2, h3⟩ := h
  obtain ⟨v, ps, hr, hv⟩ := h1.look_ok lawK Try.underlying76 (zeroE w) (zd := encD none) (zp := []) rfl (kv_key ha)
  rw [(h3 a ha).1] at hv
  rw [(h3 a ha).2] at hr
  obtain ⟨x, rfl, e⟩ := cellR_inv hv
  simp only [encD, Prod.mk.injEq, DataW.lit.injEq, Lit.int.injEq] at e
  rw [e.1.2]
  exact hr
theorem upd_at {D : DataW Unit} {F : KF} {a : Int} {o : Option Int} {D' : DataW Unit} (h1 : D'.atKey (.int .i64 a) (encD none) = encD o ∧ Maps.has D' (.int .i64 a) = o.isSome)
    (h2 : ∀ kl', kl' ≠ Lit.int .i64 a → D'.atKey kl' (encD none) = D.atKey kl' (encD none) ∧ Maps.has D' kl' = Maps.has D kl') (h3 : ∀ a, I64 a → D.atKey (.int .i64 a) (encD none) = encD (F a) ∧ Maps.has D (.int .i64 a) = (F a).isSome) :
    ∀ b, I64 b → D'.atKey (.int .i64 b) (encD none) = encD (updK F a o b) ∧ Maps.has D' (.int .i64 b) = (updK F a o b).isSome := by
  intro b hb
  by_cases e : b = a
  · subst e
    simp only [updK, if_true]
    exact h1
  · have : Lit.int .i64 b ≠ Lit.int .i64 a := fun q => e (by injection q)
    rw [(h2 _ this).1, (h2 _ this).2]
    simp only [updK, e, if_false]
    exact h3 _ hb
theorem Mi.store {w : World} {M n : Nat} {F : KF} (h : Mi w M n F) (hn : n < maxLen) {a : Int} (ha : I64 a) (v : Int) :
    ∃ w', (Instr.mapUpdate 76 (.map (some M)) (.int .i64 a) (.int .i64 v)).run Try.prog w = .ok () w' ∧ Mi w' M (n + 1) (updK F a (some v)) ∧ w.grownBy w' (some M) := by
  obtain ⟨D, h1, h2, h3⟩ := h
  obtain ⟨w', hr, ho, hg⟩ := h1.update lawK Try.underlying76 hn (kv_key ha) (val := .int .i64 v) (d := encD (some v)) (ps := []) rfl
  exact ⟨w', hr, ⟨_, ho, h2.put _ _, upd_at ⟨Maps.atKey_put_same h2 (lawK.key (kv_key ha)) _ _, Maps.has_put_same h2 (lawK.key (kv_key ha)) _⟩ (fun kl' e => ⟨Maps.atKey_put_other e _ _, Maps.has_put_other e _⟩) h3⟩, hg⟩
theorem Mi.drop {w : World} {M n : Nat} {F : KF} (h : Mi w M n F) {a : Int} (ha : I64 a) (ty : TypeId) :
    ∃ w', (Builtin.delete_ #[76, 3] ty #[.map (some M), .int .i64 a]).run Try.prog w = .ok (.tuple #[]) w' ∧ Mi w' M n (updK F a none) ∧ w.grownBy w' (some M) := by
  obtain ⟨D, h1, h2, h3⟩ := h
  obtain ⟨w', hr, ho, hg⟩ := h1.drop lawK Try.underlying76 (kv_key ha) ty
  exact ⟨w', hr, ⟨_, ho, h2.del _, upd_at ⟨Maps.atKey_del_same _, Maps.has_del_same⟩ (fun kl' e => ⟨Maps.atKey_del_other e _, Maps.has_del_other e⟩) h3⟩, hg.grown⟩

/-- What is known: the struct at block kb, its map at block M. -/
structure KN (w : World) (kb M n : Nat) (fault : Bool) (F : KF) : Prop where
  blk : w.heap[kb]? = some (.cells #[.map (some M), .bool fault] 78 (0, 0))
  map : Mi w M n F
theorem KN.keep {w w' : World} {kb M n : Nat} {fault : Bool} {F : KF} (h : KN w kb M n fault F) (h1 : w'.heap[kb]? = w.heap[kb]?) (h2 : w'.heap[M]? = w.heap[M]?) : KN w' kb M n fault F := ⟨h1.trans h.blk, h.map.kept h2⟩
theorem KN.q {w w' : World} {kb M n : Nat} {fault : Bool} {F : KF} (h : KN w kb M n fault F) (hq : Q w w') : KN w' kb M n fault F := h.keep (hq.block _ (Array.getElem?_eq_some_iff.1 h.blk).1) (hq.block _ h.map.lt)

/-! ### What fold does, plainly -/
/-- What an instruction answers, where that is known and no trap. -/
def two (fault : Bool) (x : PI) (a b : Int) : Option Int :=
  if Burin.do2 x.op x.ty a b = 0 then some (if fault = true ∧ x.op = 1 then Burin.wr x.ty (wrap64 (Burin.do1 x.op x.ty a b + 1)) else Burin.do1 x.op x.ty a b) else none
def un (k : Int) (x : PI) (a : Int) : Option Int := if Burin.un2 k x.ty a = 0 then some (Burin.un1 k x.ty a) else none
def reckP (fault : Bool) (F : KF) (x : PI) : Option Int :=
  match F x.a with
  | none => none
  | some a =>
    if x.op = 21 then some a else if x.op = 22 then un 1 x a else if x.op = 23 then un 2 x a else if x.op = 24 then un 3 x a else if x.op = 25 then some (Burin.wr x.ty a)
    else match F x.b with
      | none => none
      | some b => if x.op < 1 ∨ 16 < x.op then none else two fault x a b
def cst (x : PI) (v : Int) : PI := ⟨20, 0, x.dst, 0, 0, v, [], none, 0⟩
def foldI (fault : Bool) (F : KF) (x : PI) : PI := match reckP fault F x with | some v => cst x v | none => x
def learn (F : KF) (y : PI) : KF := if y.op = 20 then updK F y.dst (some y.imm) else if wrP y.op = true then updK F y.dst none else F
def foldL (fault : Bool) : KF → List PI → List PI
  | _, [] => []
  | F, x :: l => foldI fault F x :: foldL fault (learn F (foldI fault F x)) l
def foldP (fault : Bool) (p : PP) : PP := { p with ins := foldL fault (fun _ => none) p.ins }
def foldF (fault : Bool) (f : PF) : PF := { f with parts := f.parts.map (foldP fault) }
def foldC (fault : Bool) (c : PC) : PC := { c with fns := c.fns.map (foldF fault) }
theorem foldL_len (fault : Bool) : ∀ (l : List PI) (F : KF), (foldL fault F l).length = l.length
  | [], _ => rfl
  | x :: l, F => by simp [foldL, foldL_len fault l]

end Go.Proofs.Ytaomkfhbnakbjaa.Fo
