/-
  The program's node with a number is the document's: facts on both contracts; the conditions: the argument is a tree of at most 7000 nodes that lies in memory.
-/
import Derived.Test.YtioeoillogpdoaaPartsE
namespace Go.Proofs.Ytioeoillogpdoaa
open Go.RowKit
set_option linter.unusedVariables false

theorem Cp.symm : ∀ {f g : Fo}, Cp f g → Cp g f := by
  intro f
  induction f with
  | nil => intro g h; cases g with
    | nil => trivial
    | cons => exact h.elim
  | cons v a c k r ihk ihr =>
    intro g h
    cases g with
    | nil => exact h.elim
    | cons v' a' c' k' r' => exact ⟨h.1.symm, ihk h.2.1, ihr h.2.2⟩

/-- A node that was answered with an error's number, the program's. -/
def AtP (f : Fo) (v : NF) (a : Option Addr) (c : Nat) (id : Int) (w' : World) (v1 : NF) (a1 : Option Addr) (n1 c1 : Nat) (er : Int) : Prop :=
  (f.fine = false ∧ er = 2 ∧ v1 = nf 0 0 ∧ a1 = none ∧ n1 = 0 ∧ c1 = 0) ∨ (f.fine = true ∧ (id < 0 ∨ (f.size : Int) + 1 ≤ id) ∧ er = 12 ∧ v1 = nf 0 0 ∧ a1 = none ∧ n1 = 0 ∧ c1 = 0) ∨
    (∃ (i : Nat) (ka : Option Addr) (kc : Nat) (k k' : Fo), f.fine = true ∧ id = i ∧ (Fo.cons v a c f .nil).flat.get i = some (v1, ka, kc, k) ∧ n1 = k.len ∧ Cp k k' ∧ sok a1 n1 c1 ∧ In w' a1 k' ∧ er = 0)
theorem at_p (f : Fo) (v : NF) (a : Option Addr) (c : Nat) (id : Int) (w : World) (hv : v.ok) (hin : In w a f) (hs : sok a f.len c) (hz : f.size ≤ 7000) (hid : -9223372036854775808 ≤ id ∧ id ≤ 9223372036854775807) :
    Calls Try.prog 18 #[nodeV v (.slice a f.len c), .int .i64 id] w fun e w' => ∃ v1 a1 n1 c1 er, e = .returned (.tuple #[nodeV v1 (.slice a1 n1 c1), .int .i64 er]) ∧ AtP f v a c id w' v1 a1 n1 c1 er ∧ Q w w' := by
  refine (at_any f v a c id w hv hin hs hz hid).mono fun e w' ⟨hq, h⟩ => ?_
  rcases h with ⟨h1, rfl⟩ | ⟨h1, h2, rfl⟩ | ⟨i, v', ka, kc, k, a', c', k', h1, h2, h3, rfl, h5, h6, h7⟩
  · exact ⟨nf 0 0, none, 0, 0, 2, rfl, Or.inl ⟨h1, rfl, rfl, rfl, rfl, rfl⟩, hq⟩
  · exact ⟨nf 0 0, none, 0, 0, 12, rfl, Or.inr (Or.inl ⟨h1, h2, rfl, rfl, rfl, rfl, rfl⟩), hq⟩
  · exact ⟨v', a', k.len, c', 0, rfl, Or.inr (Or.inr ⟨i, ka, kc, k, k', h1, h2, h3, rfl, h5, h6, h7, rfl⟩), hq⟩
/-- The document's. -/
def RAtP (f : Fo) (v : NF) (a : Option Addr) (c : Nat) (id : Int) (v1 : NF) (a1 : Option Addr) (n1 c1 : Nat) (er : Int) : Prop :=
  (f.fine = false ∧ er = 2 ∧ v1 = nf 0 0 ∧ a1 = none ∧ n1 = 0 ∧ c1 = 0) ∨ (f.fine = true ∧ (id < 0 ∨ (f.size : Int) + 1 ≤ id) ∧ er = 12 ∧ v1 = nf 0 0 ∧ a1 = none ∧ n1 = 0 ∧ c1 = 0) ∨
    (∃ (i : Nat) (k : Fo), f.fine = true ∧ id = i ∧ (Fo.cons v a c f .nil).flat.get i = some (v1, a1, c1, k) ∧ n1 = k.len ∧ er = 0)
theorem rat_p (f : Fo) (v : NF) (a : Option Addr) (c : Nat) (id : Int) (w : World) (hin : In w a f) (hs : sok a f.len c) (hz : f.size ≤ 7000) (hid : -9223372036854775808 ≤ id ∧ id ≤ 9223372036854775807) :
    Calls Try.prog 19 #[nodeV v (.slice a f.len c), .int .i64 id] w fun e w' => ∃ v1 a1 n1 c1 er, e = .returned (.tuple #[nodeV v1 (.slice a1 n1 c1), .int .i64 er]) ∧ RAtP f v a c id v1 a1 n1 c1 er ∧ Q w w' := by
  refine (rat_any f v a c id w hin hs hz hid).mono fun e w' ⟨hq, h⟩ => ?_
  rcases h with ⟨h1, rfl⟩ | ⟨h1, h2, rfl⟩ | ⟨i, v', ka, kc, k, h1, h2, h3, rfl⟩
  · exact ⟨nf 0 0, none, 0, 0, 2, rfl, Or.inl ⟨h1, rfl, rfl, rfl, rfl, rfl⟩, hq⟩
  · exact ⟨nf 0 0, none, 0, 0, 12, rfl, Or.inr (Or.inl ⟨h1, h2, rfl, rfl, rfl, rfl, rfl⟩), hq⟩
  · exact ⟨v', ka, k.len, kc, 0, rfl, Or.inr (Or.inr ⟨i, k, h1, h2, h3, rfl, rfl⟩), hq⟩

theorem get_some_lt (F : Fo) : ∀ (i : Nat) (r : NF × Option Addr × Nat × Fo), F.get i = some r → i < F.len := by
  induction F with
  | nil => intro i r h; simp [Fo.get] at h
  | cons v a c k r _ ih =>
    intro i x h
    cases i with
    | zero => simp [Fo.len]
    | succ i => have := ih i x h; simp only [Fo.len]; omega
theorem size_flat_get (f : Fo) (i : Nat) (v : NF) (a : Option Addr) (c : Nat) (k : Fo) (h : f.flat.get i = some (v, a, c, k)) : k.size ≤ f.size := Nat.le_of_lt (get_size f i v a c k h)

/-- Both answer with the same number, and the same node. -/
theorem pair_at {f : Fo} {v : NF} {a : Option Addr} {c : Nat} {id : Int} {w w1 w2 : World} {v1 v2 : NF} {a1 a2 : Option Addr} {n1 n2 c1 c2 : Nat} {e1 e2 : Int} (hv : v.ok) (hin : In w a f) (hs : sok a f.len c) (hw : Q w w1) (h12 : Q w1 w2)
    (h1 : AtP f v a c id w1 v1 a1 n1 c1 e1) (h2 : RAtP f v a c id v2 a2 n2 c2 e2) :
    e2 = e1 ∧ ∀ X, Q w2 X → Calls Try.prog 21 #[nodeV v1 (.slice a1 n1 c1), nodeV v2 (.slice a2 n2 c2)] X fun e w' => e = .returned (.bool true) ∧ Q X w' := by
  have zero : ∀ X, Q w2 X → Calls Try.prog 21 #[nodeV (nf 0 0) (.slice none 0 0), nodeV (nf 0 0) (.slice none 0 0)] X fun e w' => e = .returned (.bool true) ∧ Q X w' := fun X hX => by
    have s0 : sok none (Fo.len .nil) 0 := ⟨Nat.le_refl _, Nat.zero_le _, fun _ => rfl⟩
    have := rsame_any 1 .nil (by simp [Fo.size]) .nil (nf 0 0) (nf 0 0) none none 0 0 X trivial s0 trivial s0
    rw [eqN_refl] at this
    exact this.mono fun e w' ⟨p, q⟩ => ⟨p, q⟩
  rcases h1 with ⟨q1, rfl, rfl, rfl, rfl, rfl⟩ | ⟨q1, qr, rfl, rfl, rfl, rfl, rfl⟩ | ⟨i, ka, kc, k, k', q1, q2, q3, rfl, q5, q6, q7, rfl⟩
  · rcases h2 with ⟨p1, rfl, rfl, rfl, rfl, rfl⟩ | ⟨p1, _⟩ | ⟨j, kk, p1, _⟩
    · exact ⟨rfl, zero⟩
    · rw [q1] at p1; cases p1
    · rw [q1] at p1; cases p1
  · rcases h2 with ⟨p1, _⟩ | ⟨p1, pr, rfl, rfl, rfl, rfl, rfl⟩ | ⟨j, kk, p1, p2, p3, _⟩
    · rw [q1] at p1; cases p1
    · exact ⟨rfl, zero⟩
    · exfalso
      have hl : ¬ j < (Fo.cons v a c f .nil).flat.len := by rw [flat_len]; simp only [Fo.size]; omega
      exact hl (get_some_lt _ _ _ p3)
  · rcases h2 with ⟨p1, _⟩ | ⟨p1, pr, _⟩ | ⟨j, kk, p1, p2, p3, rfl, rfl⟩
    · rw [q1] at p1; cases p1
    · exfalso
      have hl : ¬ i < (Fo.cons v a c f .nil).flat.len := by rw [flat_len]; simp only [Fo.size]; omega
      exact hl (get_some_lt _ _ _ q3)
    · obtain rfl : j = i := by omega
      rw [q3] at p3
      simp only [Option.some.injEq, Prod.mk.injEq] at p3
      obtain ⟨rfl, rfl, rfl, rfl⟩ := p3
      refine ⟨rfl, fun X hX => ?_⟩
      obtain ⟨_, o2, o3⟩ := get_in w (.cons v a c f .nil) j _ _ _ _ ⟨hv, hs, hin, trivial⟩ q3
      have hl := q5.len
      have := rsame_any (k'.size + 1) k' (by omega) k v1 v1 a1 ka c1 kc X (q7.keep (Nat.le_refl _) (h12.trans hX)) (by rw [hl]; exact q6) (o3.keep (Nat.le_refl _) (hw.trans (h12.trans hX))) o2
      rw [eqN_refl, q5.symm.same, hl] at this
      exact this.mono fun e w' ⟨p, q⟩ => ⟨p, q⟩
end Go.Proofs.Ytioeoillogpdoaa
