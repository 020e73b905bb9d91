/-
  What is read stays so where other tokens follow, where the places are others, and where more nodes were counted ahead: facts on the plain reader; no program; no conditions but those that each fact bears.
  The plain reader reads the same at what its tokens are like: facts on the plain reader; no program; no conditions but those that each fact bears.
  An item that is read stays so whatever follows it; and a program behind another one: facts on the plain reader; no program; no conditions but those that each fact bears.
  A program behind another one is read as the items of both: facts on the plain reader; no program; no conditions but those that each fact bears.
-/
import Derived.Test.YtoilhcklflmamaaGreatDoorKRfK
namespace Go.Proofs.YtoilhcklflmamaaGreatDoor
set_option linter.unusedVariables false
open Pr

/-- What a reader at other tokens is like: places moved by M, other tokens in the place of the last one, d nodes more. -/
structure Mv where
  M : Nat
  d : Nat
  L2 : List Tok
  /-- does the first of the others look like an end? -/
  lk : Bool
  ok : lk = true → ∃ p, L2 = [(⟨0, [], 0, 0⟩, p)]
def mv (v : Mv) (q : Tok) : Tok := (q.1, q.2 + v.M)
def sim (v : Mv) (s : St) : St := ⟨s.t.dropLast.map (mv v) ++ v.L2, s.o, s.c + v.d⟩
/-- The last token is the end's. -/
def Ends (s : St) : Prop := ∃ u p, s.t = u ++ [((⟨0, [], 0, 0⟩ : Lx.Tk), p)]
structure Good (v : Mv) (s : St) : Prop where
  e : Ends s
  l : 2 ≤ s.t.length ∨ v.lk = true
  c : s.c + v.d ≤ 4000

theorem Ends.ne {s : St} (h : Ends s) : s.t ≠ [] := by obtain ⟨u, p, e⟩ := h; rw [e]; simp
theorem hd_long {v : Mv} {s : St} (h : 2 ≤ s.t.length) : (hd (sim v s)).1 = (hd s).1 := by
  obtain ⟨t, o, c⟩ := s
  match t, h with
  | a :: b :: l, _ => simp [hd, sim, mv]
theorem hd_sim {v : Mv} {s : St} (h : Ends s) (hl : 2 ≤ s.t.length ∨ v.lk = true) : (hd (sim v s)).1 = (hd s).1 := by
  by_cases h2 : 2 ≤ s.t.length
  · exact hd_long h2
  · obtain ⟨u, p, e⟩ := h
    have hu : u = [] := by
      have := congrArg List.length e
      simp at this
      exact List.eq_nil_of_length_eq_zero (by omega)
    obtain ⟨q, hq⟩ := v.ok (hl.resolve_left h2)
    unfold hd sim
    rw [e, hu, hq]
    rfl
theorem tx_sim {v : Mv} {s : St} (h : Good v s) : tx (sim v s) = tx s := by unfold tx; rw [hd_sim h.e h.l]
theorem tl_long {v : Mv} {s : St} (h : 2 ≤ s.t.length) : (sim v s).t.tail = (sim v ⟨s.t.tail, s.o, s.c⟩).t := by
  obtain ⟨t, o, c⟩ := s
  match t, h with
  | a :: b :: l, _ => simp [sim]
theorem s1_long {v : Mv} {s : St} (h : 2 ≤ s.t.length) : s1 (sim v s) = sim v (s1 s) := by
  have h1 := tl_long (v := v) h
  have h2 : tx (sim v s) = tx s := by unfold tx; rw [hd_long h]
  unfold s1 o1
  rw [h2, h1]
  rfl

/-- How a reading goes on with fewer tokens and no fewer nodes. -/
structure Le (s s' : St) : Prop where
  t : s'.t <:+ s.t
  c : s.c ≤ s'.c
theorem Le.refl (s : St) : Le s s := ⟨List.suffix_refl _, Nat.le_refl _⟩
theorem Le.trans {a b c : St} (h : Le a b) (k : Le b c) : Le a c := ⟨k.t.trans h.t, Nat.le_trans h.c k.c⟩
theorem Le.good {v : Mv} {s s' : St} (h : Le s s') (hs : Ends s) (g : Good v s') : Good v s := by
  refine ⟨hs, ?_, by have := h.c; have := g.c; omega⟩
  have := h.t.length_le
  rcases g.l with k | k
  · exact Or.inl (by omega)
  · exact Or.inr k
theorem Le.ends {s s' : St} (h : Le s s') (hs : Ends s) (hn : s'.t ≠ []) : Ends s' := by
  obtain ⟨u, p, e⟩ := hs
  obtain ⟨pre, e2⟩ := h.t
  rw [e] at e2
  have : ∃ u', s'.t = u' ++ [((⟨0, [], 0, 0⟩ : Lx.Tk), p)] := by
    rcases List.eq_nil_or_concat s'.t with h0 | ⟨u', q, h0⟩
    · exact absurd h0 hn
    · rw [h0] at e2 ⊢
      simp only [List.concat_eq_append] at e2 ⊢
      rw [← List.append_assoc] at e2
      have := List.append_inj' e2 rfl
      obtain ⟨_, h2⟩ := this
      cases h2
      exact ⟨u', rfl⟩
  obtain ⟨u', h2⟩ := this
  exact ⟨u', p, h2⟩

/-- Two readings, the one at s, the other at what s is like. -/
structure Sm {α : Type} (v : Mv) (s : St) (r r2 : Rs α) : Prop where
  m : ∀ x s', r = .ok x s' → Le s s'
  h : Ends s → ∀ x s', r = .ok x s' → Good v s' → r2 = .ok x (sim v s')
theorem Sm.bnd {α β : Type} {v : Mv} {s : St} {r r2 : Rs α} {f f2 : α → St → Rs β} (h : Sm v s r r2) (k : ∀ a s1, Sm v s1 (f a s1) (f2 a (sim v s1))) : Sm v s (r.bnd f) (r2.bnd f2) := by
  constructor
  · intro x s' e
    cases r with
    | ok a s1 => exact (h.m a s1 rfl).trans ((k a s1).m x s' e)
    | bad _ _ => cases e
    | out => cases e
  · intro hs x s' e g
    cases r with
    | ok a s1 =>
      have l1 := h.m a s1 rfl
      have l2 := (k a s1).m x s' e
      have hn : s1.t ≠ [] := fun h0 => by
        have h1 := l2.t.length_le
        have h2 := g.e.ne
        rw [h0] at h1
        exact h2 (List.eq_nil_of_length_eq_zero (by simpa using h1))
      have e1 := l1.ends hs hn
      rw [h.h hs a s1 rfl (l2.good e1 g)]
      exact (k a s1).h e1 x s' e g
    | bad _ _ => cases e
    | out => cases e
theorem Sm.ite {α : Type} {v : Mv} {s : St} {c c2 : Prop} [Decidable c] [Decidable c2] {a a2 b b2 : Rs α} (hc : Good v s → (c2 ↔ c)) (ha : Sm v s a a2) (hb : Sm v s b b2) : Sm v s (if c then a else b) (if c2 then a2 else b2) := by
  constructor
  · intro x s' e
    split at e
    · exact ha.m x s' e
    · exact hb.m x s' e
  · intro hs x s' e g
    by_cases h : c
    · rw [if_pos h] at e
      have gs := (ha.m x s' e).good hs g
      rw [if_pos ((hc gs).2 h)]
      exact ha.h hs x s' e g
    · rw [if_neg h] at e
      have gs := (hb.m x s' e).good hs g
      rw [if_neg (fun k => h ((hc gs).1 k))]
      exact hb.h hs x s' e g
theorem sm_ok {α : Type} {v : Mv} {s : St} (a : α) : Sm v s (.ok a s) (.ok a (sim v s)) := ⟨fun x s' e => by cases e; exact Le.refl s, fun _ x s' e _ => by cases e; rfl⟩
theorem sm_fail {α : Type} {v : Mv} {s : St} : Sm v s (failM s : Rs α) (failM (sim v s)) := ⟨fun x s' e => (by cases e), fun _ x s' e => (by cases e)⟩
theorem sm_take {v : Mv} {s : St} : Sm v s (takeM s) (takeM (sim v s)) := by
  constructor
  · intro x s' e
    unfold takeM at e
    split at e
    · cases e
    · cases e
      exact ⟨List.tail_suffix _, Nat.le_refl _⟩
  · intro hs x s' e g
    unfold takeM at e ⊢
    split at e
    · cases e
    · rename_i hc
      cases e
      have hl : 2 ≤ s.t.length := by
        have := List.length_pos_iff.2 g.e.ne
        simp [s1] at this
        omega
      rw [s1_long hl, tx_sim g]
      rw [if_neg (show ¬ ((opensB (tx (s1 s)) && (sim v (s1 s)).o == 40) = true) from hc)]
theorem sm_bool {v : Mv} {s : St} (b : Bool) : Sm v s (.ok b s) (.ok b (sim v s)) := sm_ok b
theorem sm_try {v : Mv} {s : St} {x : List UInt8} : Sm v s (tryM x s) (tryM x (sim v s)) :=
  Sm.ite (fun g => by rw [tx_sim g]) (sm_take.bnd fun _ s1 => sm_ok _) (sm_ok _)
theorem sm_need {v : Mv} {s : St} {x : List UInt8} : Sm v s (needM x s) (needM x (sim v s)) :=
  Sm.ite (fun g => by rw [tx_sim g]) sm_take sm_fail
theorem sm_node {v : Mv} {s : St} : Sm v s (nodeM s) (nodeM (sim v s)) := by
  constructor
  · intro x s' e
    unfold nodeM at e
    split at e
    · cases e
    · cases e
      exact ⟨List.suffix_refl _, Nat.le_succ _⟩
  · intro hs x s' e g
    unfold nodeM at e ⊢
    split at e
    · cases e
    · cases e
      have := g.c
      rw [if_neg (show ¬ (4000 < (sim v s).c + 1) by simp only [sim] at *; omega)]
      simp only [sim, Rs.ok.injEq, St.mk.injEq, true_and]
      omega
theorem kind_sim {v : Mv} {s : St} (h : Good v s) : (hd (sim v s)).1 = (hd s).1 := hd_sim h.e h.l
theorem Sm.cast {α : Type} {v : Mv} {s : St} {r r2 r3 : Rs α} (h : Sm v s r r2) (e : Good v s → r3 = r2) : Sm v s r r3 :=
  ⟨h.m, fun hs x s' h1 g => by rw [e ((h.m x s' h1).good hs g)]; exact h.h hs x s' h1 g⟩
theorem sm_name {v : Mv} {s : St} : Sm v s (nameM s) (nameM (sim v s)) := by
  refine Sm.cast (r2 := if (hd (sim v s)).1.kind = 1 then (takeM (sim v s)).bnd fun _ s' => .ok (tx s) s' else failM (sim v s)) (Sm.ite (fun g => by rw [kind_sim g]) (sm_take.bnd fun _ s1 => sm_ok _) sm_fail) (fun g => ?_)
  unfold nameM
  rw [tx_sim g]
theorem sm_number {v : Mv} {s : St} : Sm v s (numberM s) (numberM (sim v s)) := by
  refine Sm.cast (r2 := if (hd (sim v s)).1.kind = 3 then (takeM (sim v s)).bnd fun _ s' => .ok (hd s).1 s' else failM (sim v s)) (Sm.ite (fun g => by rw [kind_sim g]) (sm_take.bnd fun _ s1 => sm_ok _) sm_fail) (fun g => ?_)
  unfold numberM
  rw [kind_sim g]
theorem sm_count {v : Mv} {s : St} : Sm v s (countM s) (countM (sim v s)) := by
  refine Sm.cast (r2 := if (hd (sim v s)).1.kind = 3 ∧ (hd (sim v s)).1.ty = 4 ∧ 0 ≤ (hd (sim v s)).1.n then (takeM (sim v s)).bnd fun _ s' => .ok (hd s).1.n s' else failM (sim v s)) (Sm.ite (fun g => by rw [kind_sim g]) (sm_take.bnd fun _ s1 => sm_ok _) sm_fail) (fun g => ?_)
  unfold countM
  rw [kind_sim g]
theorem sm_int {v : Mv} {s : St} : Sm v s (intM s) (intM (sim v s)) := by
  refine Sm.cast (r2 := if Lx.intT (tx (sim v s)) < 6 then (takeM (sim v s)).bnd fun _ s' => .ok (Lx.intT (tx s)) s' else failM (sim v s)) (Sm.ite (fun g => by rw [tx_sim g]) (sm_take.bnd fun _ s1 => sm_ok _) sm_fail) (fun g => ?_)
  unfold intM
  rw [tx_sim g]
theorem Sm.bite {α : Type} {v : Mv} {s : St} {b : Bool} {a a2 c c2 : Rs α} (ha : Sm v s a a2) (hb : Sm v s c c2) : Sm v s (if b then a else c) (if b then a2 else c2) := by
  cases b
  · exact hb
  · exact ha

end Go.Proofs.YtoilhcklflmamaaGreatDoor

namespace Go.Proofs.YtoilhcklflmamaaGreatDoor
set_option linter.unusedVariables false
open Pr

def Str {α : Type} (s : St) (r : Rs α) : Prop := ∀ x s', r = .ok x s' → s'.t ≠ [] → s'.t.length < s.t.length
theorem str_take {s : St} : Str s (takeM s) := by
  intro x s' e hn
  unfold takeM at e
  split at e
  · cases e
  · cases e
    have := List.length_pos_iff.2 hn
    simp [s1] at this ⊢
    omega
theorem Str.left {α β : Type} {s : St} {r : Rs α} {f : α → St → Rs β} (h : Str s r) (k : ∀ a s1 x s', f a s1 = .ok x s' → Le s1 s') : Str s (r.bnd f) := by
  intro x s' e hn
  cases r with
  | ok a s1 =>
    have l := k a s1 x s' e
    have hl := l.t.length_le
    have : s1.t ≠ [] := fun h0 => by rw [h0] at hl; exact hn (List.eq_nil_of_length_eq_zero (by simpa using hl))
    have := h a s1 rfl this
    omega
  | bad _ _ => cases e
  | out => cases e
theorem Str.right {α β : Type} {s : St} {r : Rs α} {f : α → St → Rs β} (h : ∀ a s1, r = .ok a s1 → Le s s1) (k : ∀ a s1, Str s1 (f a s1)) : Str s (r.bnd f) := by
  intro x s' e hn
  cases r with
  | ok a s1 =>
    have := (h a s1 rfl).t.length_le
    have := k a s1 x s' e hn
    omega
  | bad _ _ => cases e
  | out => cases e
theorem str_need {s : St} {x : List UInt8} : Str s (needM x s) := by
  unfold needM
  split
  · exact str_take
  · intro x s' e; cases e
theorem str_name {s : St} : Str s (nameM s) := by
  unfold nameM
  split
  · exact str_take.left fun a s1 x s' e => by cases e; exact Le.refl _
  · intro x s' e; cases e
/-- A choice that looks at two tokens, both of whose ways take one. -/
theorem Sm.ite2 {α : Type} {v : Mv} {s : St} {c c2 : Prop} [Decidable c] [Decidable c2] {a a2 b b2 : Rs α} (hc : Good v s → (3 ≤ s.t.length ∨ v.lk = true) → (c2 ↔ c)) (sa : Str s a) (sb : Str s b) (ha : Sm v s a a2) (hb : Sm v s b b2) : Sm v s (if c then a else b) (if c2 then a2 else b2) := by
  constructor
  · intro x s' e
    split at e
    · exact ha.m x s' e
    · exact hb.m x s' e
  · intro hs x s' e g
    by_cases h : c
    · rw [if_pos h] at e
      have gs := (ha.m x s' e).good hs g
      have hl := sa x s' e g.e.ne
      rw [if_pos ((hc gs (g.l.imp (fun k => by omega) id)).2 h)]
      exact ha.h hs x s' e g
    · rw [if_neg h] at e
      have gs := (hb.m x s' e).good hs g
      have hl := sb x s' e g.e.ne
      rw [if_neg (fun k => h ((hc gs (g.l.imp (fun k => by omega) id)).1 k))]
      exact hb.h hs x s' e g
theorem hd_tail {v : Mv} {s : St} (g : Good v s) (hl : 3 ≤ s.t.length ∨ v.lk = true) (h1 : (hd s).1.kind = 1) : tx ⟨(sim v s).t.tail, (sim v s).o, (sim v s).c⟩ = tx ⟨s.t.tail, s.o, s.c⟩ := by
  have h2 : 2 ≤ s.t.length := by
    obtain ⟨u, p, e⟩ := g.e
    cases u with
    | nil => rw [show hd s = ((⟨0, [], 0, 0⟩ : Lx.Tk), p) by unfold hd; rw [e]; rfl] at h1; cases h1
    | cons q u => rw [e]; simp
  rw [tl_long h2]
  have he : Ends ⟨s.t.tail, s.o, s.c⟩ := by
    obtain ⟨u, p, e⟩ := g.e
    cases u with
    | nil => rw [e] at h2; simp at h2
    | cons q u => exact ⟨u, p, by simp [e]⟩
  show ((sim v ⟨s.t.tail, s.o, s.c⟩).t.headD eot).1.text = _
  have := hd_sim (v := v) he (hl.imp (fun k => by simp; omega) id)
  unfold hd at this
  rw [this]
  rfl

def v0 : Mv := ⟨0, 0, [], false, fun h => by cases h⟩
def Mo {α : Type} (s : St) (r : Rs α) : Prop := ∀ x s', r = .ok x s' → Le s s'
theorem Mo.bnd {α β : Type} {s : St} {r : Rs α} {f : α → St → Rs β} (h : Mo s r) (k : ∀ a s1, Mo s1 (f a s1)) : Mo s (r.bnd f) := by
  intro x s' e
  cases r with
  | ok a s1 => exact (h a s1 rfl).trans (k a s1 x s' e)
  | bad _ _ => cases e
  | out => cases e
theorem mo_ok {α : Type} {s : St} {a : α} : Mo s (.ok a s) := fun x s' e => by cases e; exact Le.refl s
theorem mo_rd : ∀ (n : Nat) (nt : NT) (s : St), Mo s (rd n nt s) := by
  intro n
  induction n with
  | zero => intro nt s x s' e; cases e
  | succ n ih =>
    intro nt s
    cases nt <;> unfold rd <;> dsimp only
    all_goals repeat' (first | exact ih _ _ | exact mo_ok | exact (sm_take (v := v0)).m | exact (sm_try (v := v0)).m | exact (sm_need (v := v0)).m | exact (sm_node (v := v0)).m | exact (sm_name (v := v0)).m | exact (sm_number (v := v0)).m | exact (sm_count (v := v0)).m | exact (sm_int (v := v0)).m | refine Mo.bnd ?_ (fun _ _ => ?_) | split)
theorem str_call (n : Nat) (w : NF) (k : Fo) (s : St) : Str s (rd n (.call w k) s) := by
  cases n with
  | zero => intro x s' e; cases e
  | succ n =>
    unfold rd
    dsimp only
    refine Str.right (fun a s1 e => (sm_node (v := v0)).m a s1 e) (fun a s1 => Str.left str_name ?_)
    intro a s2
    show Mo s2 _
    repeat' (first | exact mo_rd _ _ _ | exact mo_ok | exact (sm_try (v := v0)).m | exact (sm_need (v := v0)).m | refine Mo.bnd ?_ (fun _ _ => ?_) | split)

set_option maxHeartbeats 4000000 in
theorem sm_rd (v : Mv) : ∀ (n : Nat) (nt : NT) (s : St), Sm v s (rd n nt s) (rd n nt (sim v s)) := by
  intro n
  induction n with
  | zero => intro nt s; exact ⟨fun x s' e => (by cases e), fun _ x s' e => (by cases e)⟩
  | succ n ih =>
    intro nt s
    cases nt
    case assignment =>
      show Sm v s (if _ then _ else _) (if _ then _ else _)
      refine Sm.ite2 (fun g hl => ?_) (str_call _ _ _ _) ?_ (ih _ _) ?_
      · by_cases h1 : (hd s).1.kind = 1
        · rw [kind_sim g, hd_tail g hl h1]
        · rw [kind_sim g]; simp [h1]
      · refine Str.right (fun a s1 e => (ih _ _).m a s1 e) (fun a s1 => Str.left str_need fun _ s2 x s' e => ?_)
        split at e
        · exact (ih _ _).m x s' e
        · refine (Sm.bnd (v := v) (r2 := nodeM (sim v s2)) sm_node (f2 := fun _ s => (rd n .expression s).bnd fun y s => (needM [59] s).bnd fun _ s => .ok (nk 9, (one a).app (one y)) s) (fun _ s => Sm.bnd (ih _ _) (fun y s => Sm.bnd sm_need (fun _ s => sm_ok _)))).m x s' e
      · refine Sm.bnd (ih _ _) (fun x s1 => Sm.bnd sm_need (fun _ s2 => ?_))
        refine Sm.ite2 (fun g hl => ?_) (str_call _ _ _ _) ?_ (ih _ _) ?_
        · by_cases h1 : (hd s2).1.kind = 1
          · rw [kind_sim g, hd_tail g hl h1]
          · rw [kind_sim g]; simp [h1]
        · refine Str.right (fun a s1 e => sm_node.m (v := v) a s1 e) (fun a s1 => Str.right (fun a s1 e => (ih _ _).m a s1 e) (fun a s1 => Str.left str_need fun _ s2 x s' e => by cases e; exact Le.refl _))
        · exact Sm.bnd sm_node (fun _ s => Sm.bnd (ih _ _) (fun y s => Sm.bnd sm_need (fun _ s => sm_ok _)))
    case ops least x =>
      show Sm v s (if _ then _ else _) (if _ then _ else _)
      refine Sm.ite (fun g => by rw [tx_sim g]) (sm_ok _) ?_
      refine Sm.cast (r2 := (takeM (sim v s)).bnd fun _ s' => (nodeM s').bnd fun _ s' => (rd n (.binary (powT (opT (tx s)) + 1)) s').bnd fun y => rd n (.ops least ({ nk 21 with op := opT (tx s) }, (one x).app (one y)))) ?_ (fun g => by rw [tx_sim g])
      exact Sm.bnd sm_take (fun _ s => Sm.bnd sm_node (fun _ s => Sm.bnd (ih _ _) (fun y s => ih _ _)))
    all_goals
      unfold rd
      dsimp only
      repeat' (first | exact ih _ _ | exact sm_ok _ | exact sm_take | exact sm_try | exact sm_need | exact sm_node | exact sm_name | exact sm_number | exact sm_count | exact sm_int | exact sm_fail | refine Sm.bnd ?_ (fun _ _ => ?_) | refine Sm.bite ?_ ?_ | refine Sm.ite (fun g => by rw [tx_sim g]) ?_ ?_ | refine Sm.ite (fun g => by rw [kind_sim g]) ?_ ?_)

end Go.Proofs.YtoilhcklflmamaaGreatDoor

namespace Go.Proofs.YtoilhcklflmamaaGreatDoor
set_option linter.unusedVariables false
open Pr

/-- A reading whose last step takes a token: what stands behind it doesn't matter. -/
structure Sc {α : Type} (v : Mv) (s : St) (r r2 : Rs α) : Prop where
  m : Mo s r
  t : Str s r
  h : Ends s → ∀ x s', r = .ok x s' → s'.t ≠ [] → s'.o ≠ 40 → s'.c + v.d ≤ 4000 → r2 = .ok x (sim v s')
theorem Sc.bnd {α β : Type} {v : Mv} {s : St} {r r2 : Rs α} {f f2 : α → St → Rs β} (h : Sm v s r r2) (k : ∀ a s1, Sc v s1 (f a s1) (f2 a (sim v s1))) : Sc v s (r.bnd f) (r2.bnd f2) := by
  refine ⟨Mo.bnd h.m (fun a s1 => (k a s1).m), Str.right h.m (fun a s1 => (k a s1).t), ?_⟩
  intro hs x s' e hn ho hc
  cases r with
  | ok a s1 =>
    have l1 := h.m a s1 rfl
    have l2 := (k a s1).m x s' e
    have st := (k a s1).t x s' e hn
    have hn1 : s1.t ≠ [] := fun h0 => by rw [h0] at st; simp at st
    have e1 := l1.ends hs hn1
    have hp := List.length_pos_iff.2 hn
    rw [h.h hs a s1 rfl ⟨e1, Or.inl (by omega), by have := l2.c; omega⟩]
    exact (k a s1).h e1 x s' e hn ho hc
  | bad _ _ => cases e
  | out => cases e
/-- Behind what closes nothing more is asked. -/
theorem Sc.done {α β : Type} {v : Mv} {s : St} {r r2 : Rs α} (h : Sc v s r r2) (f : α → β) : Sc v s (r.bnd fun a s => .ok (f a) s) (r2.bnd fun a s => .ok (f a) s) := by
  refine ⟨Mo.bnd h.m (fun a s1 => mo_ok), Str.left h.t (fun a s1 x s' e => by cases e; exact Le.refl _), ?_⟩
  intro hs x s' e hn ho hc
  cases r with
  | ok a s1 =>
    cases e
    rw [h.h hs a _ rfl hn ho hc]
    rfl
  | bad _ _ => cases e
  | out => cases e
theorem sc_take {v : Mv} {s : St} : Sc v s (takeM s) (takeM (sim v s)) := by
  refine ⟨(sm_take (v := v)).m, str_take, ?_⟩
  intro hs x s' e hn ho hc
  unfold takeM at e ⊢
  split at e
  · cases e
  · cases e
    have hl : 2 ≤ s.t.length := by
      have := List.length_pos_iff.2 hn
      simp [s1] at this
      omega
    rw [s1_long hl]
    have : ((sim v (s1 s)).o == 40) = false := by simpa [sim] using ho
    rw [this, Bool.and_false]
    rfl
theorem Sc.ite {α : Type} {v : Mv} {s : St} {c c2 : Prop} [Decidable c] [Decidable c2] {a a2 b b2 : Rs α} (hc : Good v s → (c2 ↔ c)) (ha : Sc v s a a2) (hb : Sc v s b b2) : Sc v s (if c then a else b) (if c2 then a2 else b2) := by
  refine ⟨?_, ?_, ?_⟩
  · intro x s' e
    split at e
    · exact ha.m x s' e
    · exact hb.m x s' e
  · intro x s' e
    split at e
    · exact ha.t x s' e
    · exact hb.t x s' e
  · intro hs x s' e hn ho hcc
    have hp := List.length_pos_iff.2 hn
    by_cases h : c
    · rw [if_pos h] at e
      have st := ha.t x s' e hn
      rw [if_pos ((hc ⟨hs, Or.inl (by omega), by have := (ha.m x s' e).c; omega⟩).2 h)]
      exact ha.h hs x s' e hn ho hcc
    · rw [if_neg h] at e
      have st := hb.t x s' e hn
      rw [if_neg (fun k => h ((hc ⟨hs, Or.inl (by omega), by have := (hb.m x s' e).c; omega⟩).1 k))]
      exact hb.h hs x s' e hn ho hcc
theorem Sc.bite {α : Type} {v : Mv} {s : St} {b : Bool} {a a2 c c2 : Rs α} (ha : Sc v s a a2) (hb : Sc v s c c2) : Sc v s (if b then a else c) (if b then a2 else c2) := by
  cases b
  · exact hb
  · exact ha
theorem sc_fail {α : Type} {v : Mv} {s : St} : Sc v s (failM s : Rs α) (failM (sim v s)) := ⟨fun x s' e => (by cases e), fun x s' e => (by cases e), fun _ x s' e => (by cases e)⟩
theorem sc_need {v : Mv} {s : St} {x : List UInt8} : Sc v s (needM x s) (needM x (sim v s)) := Sc.ite (fun g => by rw [tx_sim g]) sc_take sc_fail
theorem sc_out {α : Type} {v : Mv} {s : St} {r2 : Rs α} : Sc v s (.out : Rs α) r2 := ⟨fun x s' e => (by cases e), fun x s' e => (by cases e), fun _ x s' e => (by cases e)⟩
/-- Things till a bracket closes. -/
theorem sc_rep (v : Mv) (x : NT) : ∀ (n : Nat) (l : Fo) (s : St), Sc v s (rd n (.rep x l) s) (rd n (.rep x l) (sim v s)) := by
  intro n
  induction n with
  | zero => intro l s; exact sc_out
  | succ n ih =>
    intro l s
    have e : ∀ s, rd (n + 1) (.rep x l) s = if tx s = [125] then (takeM s).bnd fun _ s => .ok (nk 0, l) s else (rd n x s).bnd fun y s => rd n (.rep x (l.app (one y))) s := by
      intro s
      show (tryM [125] s).bnd _ = _
      unfold tryM
      by_cases h : tx s = [125]
      · rw [if_pos h, if_pos h]
        cases takeM s <;> rfl
      · rw [if_neg h, if_neg h]
        rfl
    rw [e, e]
    exact Sc.ite (fun g => by rw [tx_sim g]) (Sc.done sc_take (fun _ => (nk 0, l))) (Sc.bnd (sm_rd v n _ _) (fun y s => ih _ _))
theorem sc_block (v : Mv) (n : Nat) (s : St) : Sc v s (rd n .block s) (rd n .block (sim v s)) := by
  cases n with
  | zero => exact sc_out
  | succ n => exact Sc.bnd sm_node (fun _ s => Sc.bnd sm_need (fun _ s => Sc.done (sc_rep v _ n _ s) (fun l : Nd => (nk 7, l.2))))
theorem sc_structured (v : Mv) (n : Nat) (k : Int) (of : List UInt8) (s : St) : Sc v s (rd n (.structured k of) s) (rd n (.structured k of) (sim v s)) := by
  cases n with
  | zero => exact sc_out
  | succ n => exact Sc.bnd sm_name (fun nm s => Sc.bnd sm_node (fun _ s => Sc.done sc_need (fun _ => _)))
theorem sc_variable (v : Mv) (n : Nat) (w : NF) (b : Bool) (s : St) : Sc v s (rd n (.variable w b) s) (rd n (.variable w b) (sim v s)) := by
  cases n with
  | zero => exact sc_out
  | succ n =>
    refine Sc.bnd sm_node (fun _ s => Sc.bnd sm_try (fun c s => Sc.bite ?_ ?_))
    · exact Sc.bnd sm_count (fun k s => Sc.bnd sm_need (fun _ s => Sc.done sc_need (fun _ => _)))
    · refine Sc.bnd sm_try (fun c s => Sc.bite ?_ ?_)
      · exact Sc.bnd (sm_rd v n _ _) (fun x s => Sc.done sc_need (fun _ => _))
      · exact Sc.done sc_need (fun _ => _)
theorem sc_function (v : Mv) (n : Nat) (t : Nat) (nm : List UInt8) (s : St) : Sc v s (rd n (.function t nm) s) (rd n (.function t nm) (sim v s)) := by
  cases n with
  | zero => exact sc_out
  | succ n =>
    refine Sc.bnd sm_node (fun _ s => Sc.bnd sm_need (fun _ s => Sc.bnd sm_try (fun b s => Sc.bnd (Sm.bite (sm_ok _) (Sm.bnd (sm_rd v n _ _) (fun x s => sm_rd v n _ _))) (fun l s => ?_))))
    exact Sc.done (sc_block v n s) (fun x : Nd => ((⟨5, 0, 0, t, 0, 0, 0, bs nm, ⟨#[]⟩⟩ : NF), l.2.app (one x)))
theorem sc_item (v : Mv) (n : Nat) (s : St) : Sc v s (rd n .item s) (rd n .item (sim v s)) := by
  cases n with
  | zero => exact sc_out
  | succ n =>
    refine Sc.bnd sm_try (fun b s => Sc.bite ?_ ?_)
    · refine Sc.bnd sm_name (fun nm s => Sc.ite (fun g => by rw [tx_sim g]) ?_ (sc_structured v n _ _ s))
      exact Sc.bnd sm_node (fun _ s => Sc.bnd sm_need (fun _ s => Sc.done (sc_rep v _ n _ s) (fun l : Nd => ((⟨2, 0, 0, 0, 0, 0, 0, bs nm, ⟨#[]⟩⟩ : NF), l.2))))
    · exact Sc.bnd sm_int (fun t s => Sc.bnd sm_name (fun nm s => Sc.ite (fun g => by rw [tx_sim g]) (sc_function v n t nm s) (sc_variable v n _ _ s)))

end Go.Proofs.YtoilhcklflmamaaGreatDoor

namespace Go.Proofs.YtoilhcklflmamaaGreatDoor
set_option linter.unusedVariables false
open Pr

theorem wf_ends {s : St} (h : Wf s) (hs : Ends s) : ∃ u p, s.t = u ++ [(endTk, p)] ∧ ∀ q ∈ u, q.1.kind ≠ 0 := by
  obtain ⟨b, e, h1, h2, h3, h4⟩ := h.ends
  obtain ⟨u, p, hu⟩ := hs
  refine ⟨u, p, hu, ?_⟩
  rw [h1] at hu
  obtain ⟨rfl, _⟩ := List.append_inj' hu rfl
  exact h4
theorem app_nil'' (f : Fo) : f.app .nil = f := by
  induction f with
  | nil => rfl
  | cons v a c k r _ ih => simp only [Fo.app, ih]
theorem app_assoc3 (f g h : Fo) : (f.app g).app h = f.app (g.app h) := by
  induction f with
  | nil => rfl
  | cons v a c k r _ ih => simp only [Fo.app, ih]
theorem items_acc (P : Fo) : ∀ (n : Nat) (Q : Fo) (s : St) (x : Nd) (s' : St), rd n (.items Q) s = .ok x s' → rd n (.items (P.app Q)) s = .ok (nk 1, P.app x.2) s' := by
  intro n
  induction n with
  | zero => intro Q s x s' e; cases e
  | succ n ih =>
    intro Q s x s' e
    have e1 : ∀ l, rd (n + 1) (.items l) s = if (hd s).1.kind = 0 then .ok (nk 1, l) s else (rd n .item s).bnd fun x => rd n (.items (l.app (one x))) := fun l => rfl
    rw [e1] at e ⊢
    by_cases h : (hd s).1.kind = 0
    · rw [if_pos h] at e ⊢
      cases e
      rfl
    · rw [if_neg h] at e ⊢
      cases h1 : rd n .item s with
      | ok y s1 =>
        rw [h1] at e
        simp only [bnd_ok] at e ⊢
        rw [app_assoc3]
        exact ih _ _ _ _ e
      | bad _ _ => rw [h1] at e; cases e
      | out => rw [h1] at e; cases e
theorem items_on (v : Mv) (hd0 : v.d = 0) : ∀ (n : Nat) (P : Fo) (s : St) (x : Nd) (s' : St), rd n (.items P) s = .ok x s' → Wf s → Ends s → s.o = 0 → ∃ m k, n = m + k ∧ k + 1 ≤ s.t.length ∧ rd n (.items P) (sim v s) = rd m (.items x.2) ⟨v.L2, 0, s'.c⟩ := by
  intro n
  induction n with
  | zero => intro P s x s' e; cases e
  | succ n ih =>
    intro P s x s' e hw hs ho
    obtain ⟨u, p, hu, hk⟩ := wf_ends hw hs
    have e1 : ∀ s, rd (n + 1) (.items P) s = if (hd s).1.kind = 0 then .ok (nk 1, P) s else (rd n .item s).bnd fun x => rd n (.items (P.app (one x))) := fun l => rfl
    rw [e1] at e
    by_cases h : (hd s).1.kind = 0
    · rw [if_pos h] at e
      cases e
      have hu0 : u = [] := by
        cases u with
        | nil => rfl
        | cons q u =>
          exfalso
          refine hk q List.mem_cons_self ?_
          rw [show hd s = q by unfold hd; rw [hu]; rfl] at h
          exact h
      refine ⟨n + 1, 0, rfl, by rw [hu]; simp, ?_⟩
      congr 1
      unfold sim
      rw [hu, hu0, ho, hd0]
      rfl
    · rw [if_neg h] at e
      have h2 : 2 ≤ s.t.length := by
        cases u with
        | nil =>
          exfalso
          apply h
          rw [show hd s = (endTk, p) by unfold hd; rw [hu]; rfl]
          rfl
        | cons q u => rw [hu]; simp
      cases h1 : rd n .item s with
      | ok y s1 =>
        rw [h1] at e
        simp only [bnd_ok] at e
        have post := rd_post (nt := .item) hw trivial h1
        have ho1 : s1.o = 0 := by have := post.o; simp only [od] at this; omega
        have hc := (sc_item v n s).h hs y s1 h1 post.wf.ne (by rw [ho1]; decide) (by rw [hd0]; exact post.wf.c)
        obtain ⟨m, k, hn, hk1, hr⟩ := ih _ _ _ _ e post.wf ((mo_rd n .item s y s1 h1).ends hs post.wf.ne) ho1
        have hlen := post.len
        simp only [d1] at hlen
        refine ⟨m, k + 1, by omega, by omega, ?_⟩
        rw [e1, if_neg (by rw [hd_long h2]; exact h), hc]
        exact hr
      | bad _ _ => rw [h1] at e; cases e
      | out => rw [h1] at e; cases e

theorem toks_join (l1 l2 : List UInt8) (h1 : (Lx.lex 0 l1).2 = none) : toks (l1 ++ 10 :: l2) = (Lx.lex 0 l1).1 ++ ((Lx.lex 0 l2).1.map (fun q => (q.1, q.2 + (l1.length + 1))) ++ [(endTk, l2.length + (l1.length + 1))]) ∧ (Lx.lex 0 (l1 ++ 10 :: l2)).2 = (Lx.lex 0 l2).2.map (· + (l1.length + 1)) := by
  have hj := (Lx.lex_join l2 l1.length l1 (Nat.le_refl _) 0).1 h1
  have hm := Lx.lex_moved (l1.length + 1) l2.length l2 (Nat.le_refl _) 0
  rw [show 0 + l1.length + 1 = 0 + (l1.length + 1) by omega, hm] at hj
  constructor
  · unfold toks
    rw [hj]
    simp only [List.append_assoc]
    congr 3
    simp
    omega
  · rw [hj]

theorem prog_join (l1 l2 : List UInt8) (h1 : (Lx.lex 0 l1).2 = none) (hl : l1.length + l2.length < 65536) {x1 x2 : Nd} {s1 s2 : St} (e1 : prog (toks l1) = .ok x1 s1) (e2 : prog (toks l2) = .ok x2 s2) (hz : x1.2.size + x2.2.size + 2 ≤ 4000) : ∃ st, prog (toks (l1 ++ 10 :: l2)) = .ok (nk 1, x1.2.app x2.2) st := by
  obtain ⟨p1, c1, o1, _⟩ := show _ from (by have := prog_post l1 (by omega); rw [e1] at this; exact this)
  obtain ⟨p2, c2, o2, _⟩ := show _ from (by have := prog_post l2 (by omega); rw [e2] at this; exact this)
  have w1 : Wf ⟨toks l1, 0, 1⟩ := ⟨(toks_wf l1 (by omega)).ends, (toks_wf l1 (by omega)).tw, by show (1 : Nat) ≤ 4000; omega⟩
  have w2 : Wf ⟨toks l2, 0, 1⟩ := ⟨(toks_wf l2 (by omega)).ends, (toks_wf l2 (by omega)).tw, by show (1 : Nat) ≤ 4000; omega⟩
  have r1 : rd (10 * (toks l1).length + 13) (.items .nil) ⟨toks l1, 0, 1⟩ = .ok x1 s1 := e1
  have r2 : rd (10 * (toks l2).length + 13) (.items .nil) ⟨toks l2, 0, 1⟩ = .ok x2 s2 := e2
  have hT := (toks_join l1 l2 h1).1
  have len1 : (toks l1).length = (Lx.lex 0 l1).1.length + 1 := by simp [toks]
  have len2 : (toks l2).length = (Lx.lex 0 l2).1.length + 1 := by simp [toks]
  have lenL : (toks (l1 ++ 10 :: l2)).length = (Lx.lex 0 l1).1.length + (toks l2).length := by rw [hT, len2]; simp
  let M := l1.length + 1
  let L2 : List Tok := (Lx.lex 0 l2).1.map (fun q => (q.1, q.2 + M)) ++ [(endTk, l2.length + M)]
  let v1 : Mv := ⟨0, 0, L2, false, fun h => by cases h⟩
  let v2 : Mv := ⟨M, s1.c - 1, [(endTk, l2.length + M)], true, fun _ => ⟨_, rfl⟩⟩
  have sv1 : sim v1 ⟨toks l1, 0, 1⟩ = ⟨toks (l1 ++ 10 :: l2), 0, 1⟩ := by
    unfold sim
    rw [hT]
    simp only [toks, List.dropLast_concat]
    congr 2
    show List.map (mv v1) _ = _
    have : mv v1 = id := by funext q; simp [mv, v1]
    rw [this, List.map_id]
  have sv2 : sim v2 ⟨toks l2, 0, 1⟩ = ⟨L2, 0, s1.c⟩ := by
    unfold sim
    simp only [toks, List.dropLast_concat]
    rw [show 1 + v2.d = s1.c by show 1 + (s1.c - 1) = s1.c; omega]
    rfl
  have g1 : rd (10 * (toks (l1 ++ 10 :: l2)).length + 13) (.items .nil) ⟨toks l1, 0, 1⟩ = .ok x1 s1 := by
    have := rd_grow (n := 10 * (toks l1).length + 13) (nt := .items .nil) (s := ⟨toks l1, 0, 1⟩) (by rw [r1]; exact fun e => by cases e) (10 * (toks (l1 ++ 10 :: l2)).length - 10 * (toks l1).length)
    rw [r1] at this
    rw [← this]
    congr 1
    omega
  obtain ⟨m, k, hn, hk, hr⟩ := items_on v1 rfl _ _ _ _ _ g1 w1 ⟨_, _, rfl⟩ rfl
  have q2 := (sm_rd v2 _ _ _).h ⟨_, _, rfl⟩ x2 s2 r2 ⟨(mo_rd _ _ _ _ _ r2).ends ⟨_, _, rfl⟩ p2.ne, Or.inr rfl, by show s2.c + (s1.c - 1) ≤ 4000; omega⟩
  rw [sv2] at q2
  have q3 := items_acc x1.2 _ _ _ _ _ q2
  rw [show x1.2.app .nil = x1.2 from app_nil'' _] at q3
  have q4 := rd_grow (by rw [q3]; exact fun e => by cases e) (m - (10 * (toks l2).length + 13))
  rw [q3, show 10 * (toks l2).length + 13 + (m - (10 * (toks l2).length + 13)) = m by simp only at hk; omega] at q4
  refine ⟨sim v2 s2, ?_⟩
  show rd _ (.items .nil) ⟨toks (l1 ++ 10 :: l2), 0, 1⟩ = _
  rw [← sv1, hr]
  exact q4
theorem app_depth (f g : Fo) : (f.app g).depth = max f.depth g.depth := by
  induction f with
  | nil => simp [Fo.app, Fo.depth]
  | cons v a c k r _ ih => simp only [Fo.app, Fo.depth, ih]; omega

/-- The node at a place of a list. -/
def nthF : Fo → Nat → Option (NF × Fo)
  | .nil, _ => none
  | .cons v _ _ k _, 0 => some (v, k)
  | .cons _ _ _ _ r, i + 1 => nthF r i
theorem nth_drop {f : Fo} : ∀ {i : Nat} {v : NF} {a : Option Addr} {c : Nat} {k r : Fo}, f.drop i = .cons v a c k r → nthF f i = some (v, k) := by
  induction f with
  | nil => intro i v a c k r e; cases i <;> cases e
  | cons v0 a0 c0 k0 r0 _ ih =>
    intro i v a c k r e
    cases i with
    | zero => simp only [Fo.drop, Fo.cons.injEq] at e; obtain ⟨rfl, _, _, rfl, _⟩ := e; rfl
    | succ i => exact ih e
theorem nth_cp : ∀ {F f : Fo}, Cp F f → ∀ {i : Nat} {v : NF} {k : Fo}, nthF f i = some (v, k) → ∃ K, nthF F i = some (v, K) ∧ Cp K k := by
  intro F
  induction F with
  | nil => intro f h i v k e; cases f with
    | nil => cases e
    | cons => exact h.elim
  | cons V A C K R _ ih =>
    intro f h i v k e
    cases f with
    | nil => exact h.elim
    | cons v1 a1 c1 k1 r1 =>
      obtain ⟨h1, h2, h3⟩ := h
      cases i with
      | zero => simp only [nthF, Option.some.injEq, Prod.mk.injEq] at e; obtain ⟨rfl, rfl⟩ := e; exact ⟨K, by rw [← h1]; rfl, h2⟩
      | succ i => exact ih h3 e
theorem nth_app (F G : Fo) : ∀ i, nthF (F.app G) i = if i < F.len then nthF F i else nthF G (i - F.len) := by
  induction F with
  | nil => intro i; simp [Fo.app, Fo.len]
  | cons v a c k r _ ih =>
    intro i
    cases i with
    | zero => rw [if_pos (by simp only [Fo.len]; omega)]; rfl
    | succ i =>
      show nthF (r.app G) i = _
      rw [ih]
      by_cases h : i < r.len
      · rw [if_pos h, if_pos (by simp only [Fo.len]; omega)]; rfl
      · rw [if_neg h, if_neg (by simp only [Fo.len]; omega)]
        congr 1
        simp only [Fo.len]
        omega

end Go.Proofs.YtoilhcklflmamaaGreatDoor
