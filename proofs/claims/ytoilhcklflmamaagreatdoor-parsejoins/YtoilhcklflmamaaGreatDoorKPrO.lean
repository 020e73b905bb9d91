/-
  Lists of nodes that a reader makes, and what the two readers of lists answer: contracts over the program; the conditions: the reader lies in memory as it should, and what is called keeps its own contract.
-/
import Derived.Test.YtoilhcklflmamaaGreatDoorKPrG
import Derived.Test.YtoilhcklflmamaaGreatDoorKRdD
import Derived.Deep.LoopGhost
import Derived.Laws.AppendOwnNone
import Derived.Deep.RegionLawGrows
namespace Go.Proofs.YtoilhcklflmamaaGreatDoor
open Go.RowKit
open Pr
set_option linter.unusedVariables false

/-- A list that grows. -/
structure LI (B : Nat) (w : World) (u : Value) (P G : Fo) : Prop where
  own : w.ownsRow B 27 10 u G.len (cellsF G)
  ki : KI w G
  av : KAv (fun b => B ≤ b ∧ u.ownBlock ≠ some b) G
  cp : Cp P G
theorem LI.nil (B : Nat) (w : World) : LI B w (.slice none 0 0) .nil .nil := ⟨⟨rfl, Or.inl ⟨rfl, rfl⟩⟩, trivial, trivial, trivial⟩
theorem LI.fr {R B : Nat} {w x : World} {u : Value} {P G : Fo} (h : LI B w u P G) (hR : R < B) (f : Fr R w x) : LI B x u P G :=
  ⟨ownsRow_block h.own (fun k hk => f.block k (h.own.lt k hk).2 (fun e => by have := (h.own.lt k hk).1; cases e; omega)), ki_grown f h.ki (h.av.mono fun b hb e => by cases e; omega), h.av, h.cp⟩
theorem LI.alloc {B : Nat} {w : World} {u : Value} {P G : Fo} (h : LI B w u P G) (hB : 0 < B) (o : Obj) : LI B (w.alloc o) u P G := h.fr (R := 0) hB ((Fr.refl 0 w).alloc o)
theorem own_form {y : World} {B : Nat} {vv : Value} {G : Fo} (h : y.ownsRow B 27 10 vv G.len (cellsF G)) (hk : KI y G) : ∃ a' c', vv = .slice a' G.len c' ∧ sok a' G.len c' ∧ In y a' G ∧ (∀ P : Nat → Prop, (∀ b, B ≤ b → P b) → KAv P G → Av P a' G) := by
  rcases h.2 with ⟨h1, h2⟩ | ⟨g, cap, cur, rfl, hg, hh, hn, hc, hs, ht⟩
  · have e : G = .nil := by
      cases G
      · rfl
      · simp [Fo.len] at h2
    subst e
    exact ⟨none, 0, h1, ⟨Nat.le_refl _, Nat.zero_le _, fun _ => rfl⟩, trivial, fun _ _ _ => trivial⟩
  · refine ⟨some ⟨g, 0, none⟩, cap, rfl, ⟨hn, hc, fun h => by cases h⟩, In.of_cells (fun j hj => ?_) hk, fun P hP hK => av_of_kids (hP g hg) hK⟩
    rw [show 0 + j = j by omega, cell_of_block hh, ← ht, List.getElem?_take_of_lt (by rw [cellsF_len] at hj; omega)]
    simp
/-- A list as a value. -/
def VL (B : Nat) (x : Nd) (v : Value) (w : World) : Prop := ∃ a c f, v = .slice a (Fo.len f) c ∧ Cp x.2 f ∧ sok a f.len c ∧ In w a f ∧ Av (fun b => B ≤ b) a f
theorem VL.out {B : Nat} {x : Nd} {v : Value} {w : World} (h : VL B x v w) : ∃ a c f, v = .slice a (Fo.len f) c ∧ Cp x.2 f ∧ sok a f.len c ∧ Ls B w.heap.size w a f := by
  obtain ⟨a, c, f, h1, h2, h3, h4, h5⟩ := h
  exact ⟨a, c, f, h1, h2, h3, ⟨h4, h5.and (av_in h4)⟩⟩
theorem LI.done {B : Nat} {w : World} {u : Value} {x : Nd} {G : Fo} (h : LI B w u x.2 G) : VL B x u w := by
  obtain ⟨a', c', e, p2, p3, p4⟩ := own_form h.own h.ki
  exact ⟨a', c', G, e, h.cp, p2, p3, p4 _ (fun b hb => hb) (h.av.mono fun b hb => hb.1)⟩
/-- A node is appended. -/
theorem LI.app {B B' U : Nat} {w w1 : World} {u : Value} {P G : Fo} (h : LI B w u P G) {y : Nd} {a : Option Addr} {c : Nat} {f : Fo} (hl : Ls B' U w a f) (hB : B ≤ B') (hu : ∀ k, u.ownBlock = some k → k < B') (hok : y.1.ok) (hs : sok a f.len c) (hc : Cp y.2 f) {g cap : Nat}
    (hown : w1.ownsRow B 27 10 (.slice (some ⟨g, 0, none⟩) (G.len + 1) cap) (G.len + 1) (cellsF G ++ cellsN y.1 (.slice a f.len c))) (hgrow : w.grownBy w1 u.ownBlock) (hat : u.ownBlock = some g ∨ w.heap.size ≤ g) :
    LI B w1 (.slice (some ⟨g, 0, none⟩) (G.len + 1) cap) (P.app (one y)) (G.app (.cons y.1 a c f .nil)) := by
  have hK : KI w (G.app (.cons y.1 a c f .nil)) := h.ki.app ⟨hok, hs, hl.i, trivial⟩
  have hA : KAv (fun b => (B ≤ b ∧ u.ownBlock ≠ some b)) (G.app (.cons y.1 a c f .nil)) := h.av.app ⟨hl.v.mono fun b hb => ⟨by omega, fun e => by have := hu b e; omega⟩, trivial⟩
  have hL := hA.and (kav_lt hK)
  refine ⟨?_, ki_grown hgrow hK (hA.mono fun b hb e => hb.2 e), hL.mono fun b hb => ⟨hb.1.1, ?_⟩, h.cp.app ⟨rfl, hc, trivial⟩⟩
  · rw [app_len, cellsF_app]
    simpa [cellsF, Fo.len] using hown
  · show some g ≠ some b
    rintro e
    cases e
    rcases hat with e | e
    · exact hb.1.2 e
    · have := hb.2
      omega
theorem LI.bound {B : Nat} {w : World} {u : Value} {P G : Fo} (h : LI B w u P G) : G.len ≤ P.size := by
  have := h.cp.len
  have := P.len_le_size
  omega
theorem Tryz.infoNode : (Tryz.prog.info? 27).map (fun i => (i.zero, i.size, i.bytes)) = some (some (.agg #[.int .u8 0, .int .u8 0, .int .u8 0, .int .u8 0, .int .i64 0, .int .i64 0, .int .i64 0, .string ⟨#[]⟩, .string ⟨#[]⟩, .slice none 0 0]), 10, 96) := by kernel_rfl
theorem cellsN_one (v : NF) (a : Option Addr) (n c : Nat) : ∀ u ∈ cellsN v (.slice a n c), u.oneCell' = true := by
  intro u h
  simp [cellsN] at h
  rcases h with h | h | h | h | h | h | h | h | h | h <;> subst h <;> rfl

theorem cellsF_one : ∀ (f : Fo), ∀ u ∈ cellsF f, u.oneCell' = true := by
  intro f
  induction f with
  | nil => intro u h; simp [cellsF] at h
  | cons v a c k r _ ih =>
    intro u h
    simp only [cellsF, List.mem_append] at h
    rcases h with h | h
    · exact cellsN_one v a k.len c u h
    · exact ih u h

set_option maxRecDepth 100000 in
/-- The append of a node that a call answered, behind the block of one that the translation lays for it. -/
theorem app_node {B : Nat} {X : World} {u : Value} {P G : Fo} (h : LI B X u P G) (hB : B ≤ X.heap.size) (hB0 : 0 < B) {B' U : Nat} {y : Nd} {a : Option Addr} {c : Nat} {f : Fo} (hl : Ls B' U X a f) (hBB : B ≤ B') (hu : ∀ k, u.ownBlock = some k → k < B') (hok : y.1.ok) (hs : sok a f.len c) (hc : Cp y.2 f) (hG : G.len ≤ 70002)
    {ops : Array Oper} {rest : List Oper} {o : Oper} {ac : Act} {Q' : Exit → Act → World → Prop} (hgd : o.guard = none) (s z : Operand)
    (ho : o.op = Op.call { callee := Callee.builtin Builtin.append, args := #[s, z], argTypes := #[25, 25] }) (hsv : ac.eval s = u) (hx : ac.eval z = .slice (some ⟨X.heap.size, 0, none⟩) 1 1)
    (k : ∀ g cap w', LI B w' (.slice (some ⟨g, 0, none⟩) (G.len + 1) cap) (P.app (one y)) (G.app (.cons y.1 a c f .nil)) → (X.alloc (.cells (cellsN y.1 (.slice a f.len c)).toArray 27)).grownBy w' u.ownBlock → wpList Tryz.prog ops Q' rest (ac.put o.dst (.slice (some ⟨g, 0, none⟩) (G.len + 1) cap)) w') :
    wpList Tryz.prog ops Q' (o :: rest) ac (X.alloc (.cells (cellsN y.1 (.slice a f.len c)).toArray 27)) := by
  obtain ⟨i0, hi, hz0, hz1, hz2⟩ := info_parts Tryz.infoNode
  refine wpList_append_lies _ hgd s z 25 ho B 27 i0 (.agg #[.int .u8 0, .int .u8 0, .int .u8 0, .int .u8 0, .int .i64 0, .int .i64 0, .int .i64 0, .string ⟨#[]⟩, .string ⟨#[]⟩, .slice none 0 0]) 10 96 Tryz.underlying25 hi hz0 hz1 hz2 rfl (by decide) u G.len (cellsF G) hsv (h.alloc hB0 _).own ⟨X.heap.size, 0, none⟩ 1 1 (cellsN y.1 (.slice a f.len c)) hx rfl ?_ (cellsN_one _ _ _ _) (by decide) (by unfold maxLen; omega) (by omega) (by simp; omega) (X.heap.size + 1) (by simp) ?_
  · intro j u' hu'
    exact cell_new _ _ j u' hu'
  · intro g cap w' h1 h2 h3 h4
    exact k g cap w' (LI.app (h.alloc hB0 _) (hl.alloc _) hBB hu hok hs hc h1 h2 (h3.imp id (fun e => by simp; omega))) h2

set_option maxRecDepth 100000 in
/-- The same, at a step of a region that draws its order. -/
theorem app_step {B : Nat} {X : World} {u : Value} {P G : Fo} (h : LI B X u P G) (hB : B ≤ X.heap.size) (hB0 : 0 < B) {B' U : Nat} {y : Nd} {a : Option Addr} {c : Nat} {f : Fo} (hl : Ls B' U X a f) (hBB : B ≤ B') (hu : ∀ k, u.ownBlock = some k → k < B') (hok : y.1.ok) (hs : sok a f.len c) (hc : Cp y.2 f) (hG : G.len ≤ 70002)
    {ops : Array Oper} {o : Oper} {ac : Act} {K : Act → World → Prop} {Q' : Exit → Act → World → Prop} {E : Prop} (hgd : o.guard = none) (s z : Operand)
    (ho : o.op = Op.call { callee := Callee.builtin Builtin.append, args := #[s, z], argTypes := #[25, 25] }) (hsv : ac.eval s = u) (hx : ac.eval z = .slice (some ⟨X.heap.size, 0, none⟩) 1 1)
    (k : ∀ g cap w', LI B w' (.slice (some ⟨g, 0, none⟩) (G.len + 1) cap) (P.app (one y)) (G.app (.cons y.1 a c f .nil)) → (X.alloc (.cells (cellsN y.1 (.slice a f.len c)).toArray 27)).grownBy w' u.ownBlock → K (ac.put o.dst (.slice (some ⟨g, 0, none⟩) (G.len + 1) cap)) w') :
    if Region.wanted o (yielded ops ac.tmps) = true then Oper.wp Tryz.prog o ac (X.alloc (.cells (cellsN y.1 (.slice a f.len c)).toArray 27)) K Q' else E := by
  obtain ⟨i0, hi, hz0, hz1, hz2⟩ := info_parts Tryz.infoNode
  refine step_append_lies _ hgd s z 25 ho B 27 i0 (.agg #[.int .u8 0, .int .u8 0, .int .u8 0, .int .u8 0, .int .i64 0, .int .i64 0, .int .i64 0, .string ⟨#[]⟩, .string ⟨#[]⟩, .slice none 0 0]) 10 96 Tryz.underlying25 hi hz0 hz1 hz2 rfl (by decide) u G.len (cellsF G) hsv (h.alloc hB0 _).own ⟨X.heap.size, 0, none⟩ 1 1 (cellsN y.1 (.slice a f.len c)) hx rfl ?_ (cellsN_one _ _ _ _) (by decide) (by unfold maxLen; omega) (by omega) (by simp; omega) (X.heap.size + 1) (by simp) ?_
  · intro j u' hu'
    exact cell_new _ _ j u' hu'
  · intro g cap w' h1 h2 h3 h4
    exact k g cap w' (LI.app (h.alloc hB0 _) (hl.alloc _) hBB hu hok hs hc h1 h2 (h3.imp id (fun e => by simp; omega))) h2

theorem LI.mono {B B' : Nat} {w : World} {u : Value} {P G : Fo} (h : LI B w u P G) (hB : B' ≤ B) : LI B' w u P G := by
  refine ⟨⟨h.own.1, ?_⟩, h.ki, h.av.mono fun b hb => ⟨by omega, hb.2⟩, h.cp⟩
  rcases h.own.2 with h2 | ⟨g, cap, cur, hv, hg, hh, r⟩
  · exact Or.inl h2
  · exact Or.inr ⟨g, cap, cur, hv, by omega, hh, r⟩
/-- How long a list between brackets can be. -/
theorem listed_len {n : Nat} {nt : NT} (hnt : nt = .param ∨ nt = .argument) {s s' : St} {l : Nd} (hw : Wf s) (h : ((needM [40] s).bnd fun _ s => (tryM [41] s).bnd fun b s => if b then Rs.ok (nk 0, .nil) s else (rd n nt s).bnd fun x => rd n (.more nt (one x))) = .ok l s') : l.2.size ≤ 8000 := by
  cases h1 : needM [40] s with
  | out => rw [h1] at h; cases h
  | bad k p => rw [h1] at h; cases h
  | ok u s1 =>
    rw [h1] at h
    simp only [bnd_ok] at h
    have w1 : Wf s1 := by
      have := need_k (f := fun b s => .ok b s) (P := fun _ s' => Wf s') hw (x := [40]) (by decide) (fun s' h => h.wf)
      rw [h1] at this
      exact this
    cases h2 : tryM [41] s1 with
    | out => rw [h2] at h; cases h
    | bad k p => rw [h2] at h; cases h
    | ok b s2 =>
      rw [h2] at h
      simp only [bnd_ok] at h
      cases b with
      | true =>
        simp only [if_true] at h
        cases h
        simp [Fo.size]
      | false =>
        simp only [Bool.false_eq_true, if_false] at h
        have w2 := try_wf w1 (by decide) h2
        cases h3 : rd n nt s2 with
        | out => rw [h3] at h; cases h
        | bad k p => rw [h3] at h; cases h
        | ok x s3 =>
          rw [h3] at h
          simp only [bnd_ok] at h
          have p3 := rd_post w2 (by rcases hnt with rfl | rfl <;> trivial) h3
          have p4 := rd_post (nt := .more nt (one x)) p3.wf hnt h
          have c3 := p3.c
          have c4 := p4.c
          have k4 := p4.wf.c
          have k3 := p3.wf.c
          simp only [lo, e1, one_size] at c4
          have l3 : lo nt = 0 := by rcases hnt with rfl | rfl <;> rfl
          have e3 : e1 nt = 1 := by rcases hnt with rfl | rfl <;> rfl
          rw [l3, e3] at c3
          omega
theorem LI.two {B B1 U1 B2 U2 : Nat} {X : World} {x y : Nd} {a a2 : Option Addr} {c c2 : Nat} {f f2 : Fo} (h1 : Ls B1 U1 X a f) (h2 : Ls B2 U2 X a2 f2) (hB1 : B ≤ B1) (hB2 : B ≤ B2) {b : Nat} (hb : X.heap.size = b) (hB : B ≤ b) (hok : x.1.ok) (hs : sok a f.len c) (hc : Cp x.2 f) (hok2 : y.1.ok) (hs2 : sok a2 f2.len c2) (hc2 : Cp y.2 f2) (hU1 : U1 ≤ b) (hU2 : U2 ≤ b) :
    LI B (X.alloc (.cells (cellsN x.1 (.slice a f.len c) ++ cellsN y.1 (.slice a2 f2.len c2)).toArray 27)) (.slice (some ⟨b, 0, none⟩) 2 2) ((Pr.one x).app (Pr.one y)) (.cons x.1 a c f (.cons y.1 a2 c2 f2 .nil)) := by
  subst hb
  refine ⟨⟨by simp [cellsF, cellsN, Fo.len], Or.inr ⟨X.heap.size, 2, (cellsN x.1 (.slice a f.len c) ++ cellsN y.1 (.slice a2 f2.len c2)).toArray, rfl, hB, heap_alloc_new X _, by simp [Fo.len], by decide, rfl, by simp [cellsF, cellsN, Fo.len]⟩⟩, ⟨hok, hs, (h1.alloc _).i, hok2, hs2, (h2.alloc _).i, trivial⟩, ⟨h1.v.mono fun b hb => ⟨by omega, fun e => absurd (show X.heap.size = b by simpa [Value.ownBlock] using e) (by omega)⟩, h2.v.mono fun b hb => ⟨by omega, fun e => absurd (show X.heap.size = b by simpa [Value.ownBlock] using e) (by omega)⟩, trivial⟩, ⟨rfl, hc, rfl, hc2, trivial⟩⟩
theorem app_nil' (f : Fo) : f.app .nil = f := by
  induction f with
  | nil => rfl
  | cons v a c k r _ ih => simp only [Fo.app, ih]
theorem LI.appL {B B2 : Nat} {w w1 : World} {u v3 : Value} {P G P2 G2 : Fo} (h : LI B w u P G) (h2 : LI B2 w v3 P2 G2) (hB : B ≤ B2) (hu : ∀ k, u.ownBlock = some k → k < B2) {g cap : Nat}
    (hown : w1.ownsRow B 27 10 (.slice (some ⟨g, 0, none⟩) (G.len + G2.len) cap) (G.len + G2.len) (cellsF G ++ cellsF G2)) (hgrow : w.grownBy w1 u.ownBlock) (hat : u.ownBlock = some g ∨ w.heap.size ≤ g) :
    LI B w1 (.slice (some ⟨g, 0, none⟩) (G.len + G2.len) cap) (P.app P2) (G.app G2) := by
  have hK : KI w (G.app G2) := h.ki.app h2.ki
  have hA : KAv (fun b => (B ≤ b ∧ u.ownBlock ≠ some b)) (G.app G2) := h.av.app (h2.av.mono fun b hb => ⟨by omega, fun e => by have := hu b e; omega⟩)
  have hL := hA.and (kav_lt hK)
  refine ⟨?_, ki_grown hgrow hK (hA.mono fun b hb e => hb.2 e), hL.mono fun b hb => ⟨hb.1.1, ?_⟩, h.cp.app h2.cp⟩
  · rw [app_len, cellsF_app]
    exact hown
  · show some g ≠ some b
    rintro e
    cases e
    rcases hat with e | e
    · exact hb.1.2 e
    · have := hb.2
      omega
theorem LI.setAt {B U : Nat} {w : World} {u : Value} {P G : Fo} (h : LI B w u P G) (hU : KAv (fun b => b < U) G) (hrow : ∀ k, u.ownBlock = some k → k < U) {p : Addr} (hp : U ≤ p.block) (x : Value) : LI B (w.setCell p x) u P G :=
  ⟨ownsRow_block h.own (fun k hk => Below.heap_setCell w p x k (by have := hrow k hk; omega)), ki_set h.ki (hU.mono fun b hb => by omega), h.av, h.cp⟩
set_option maxRecDepth 100000 in
/-- A list appended to a list without room, at a step of a region that draws its order. -/
theorem app_full_step {B B2 : Nat} {X : World} {u v3 : Value} {P G P2 G2 : Fo} (h : LI B X u P G) {a0 : Option Addr} (hu : u = .slice a0 G.len G.len) (h2 : LI B2 X v3 P2 G2) (hnil : P2 = .nil → v3 = .slice none 0 0) (hB : B ≤ X.heap.size) (hBB : B ≤ B2) (hG : G.len ≤ 10000) (hG2 : G2.len ≤ 10000)
    {ops : Array Oper} {o : Oper} {ac : Act} {K : Act → World → Prop} {Q' : Exit → Act → World → Prop} {E : Prop} (hgd : o.guard = none) (s z : Operand)
    (ho : o.op = Op.call { callee := Callee.builtin Builtin.append, args := #[s, z], argTypes := #[25, 25] }) (hsv : ac.eval s = u) (hx : ac.eval z = v3)
    (k : ∀ a' n' c' w', LI B w' (.slice a' n' c') (P.app P2) (G.app G2) → X.grownBy w' none → (∀ i, Value.ownBlock (.slice a' n' c') = some i → u.ownBlock = some i ∨ X.heap.size ≤ i) → K (ac.put o.dst (.slice a' n' c')) w') :
    if Region.wanted o (yielded ops ac.tmps) = true then Oper.wp Tryz.prog o ac X K Q' else E := by
  obtain ⟨i0, hi, hz0, hz1, hz2⟩ := info_parts Tryz.infoNode
  cases G2 with
  | nil =>
    have e2 : P2 = .nil := by
      have := h2.cp
      cases P2 with
      | nil => rfl
      | cons => exact this.elim
    subst e2
    have hw : Region.wanted o (yielded ops ac.tmps) = true := by simp [Region.wanted, hgd]
    rw [if_pos hw]
    have hrun := run_append_owned_none (P := Tryz.prog) (w := X) B 25 o.type 27 i0 10 Tryz.underlying25 hi u G.len (cellsF G) h.own
    have hk := k a0 G.len G.len X (by rw [app_nil', app_nil', ← hu]; exact h) ⟨rfl, rfl, rfl, Nat.le_refl _, fun _ _ _ => rfl⟩ (fun i hi => Or.inl (by rw [hu]; exact hi))
    rw [hnil rfl] at hx
    unfold Oper.wp
    simp [execOp, ho, resolve, invoke, builtin, hsv, hx, hrun, Result.andThen]
    rw [← hu] at hk
    exact hk
  | cons v a c ks rest =>
    rcases h2.own.2 with ⟨_, h0⟩ | ⟨g, cap, cur, hv, hg, hh, hn, hc, hs, ht⟩
    · simp [Fo.len] at h0
    · subst hv
      have hold : ∀ b, a0 = some b → ∀ j u', (cellsF G)[j]? = some u' → X.cell? (b.add j) = some u' := by
        intro b hb j u' hj
        rcases h.own.2 with ⟨h1, _⟩ | ⟨g0, cap0, cur0, hv0, _, hh0, _, _, _, ht0⟩
        · rw [hu, hb] at h1
          cases h1
        · rw [hu, hb] at hv0
          cases hv0
          have hjl : j < (cellsF G).length := (List.getElem?_eq_some_iff.1 hj).1
          have e : (⟨g0, 0, none⟩ : Addr).add j = ⟨g0, j, none⟩ := by
            by_cases hz : j = 0
            · subst hz; rfl
            · simp [Addr.add, hz]
          rw [e, cell_of_block hh0]
          rw [← ht0] at hj
          rw [cellsF_len] at hjl
          rw [List.getElem?_take_of_lt (by omega)] at hj
          simpa using hj
      have hnone : a0 = none → G.len = 0 ∧ G.len = 0 := by
        intro hb
        rcases h.own.2 with ⟨_, h0⟩ | ⟨g0, cap0, cur0, hv0, _⟩
        · exact ⟨h0, h0⟩
        · rw [hu, hb] at hv0
          cases hv0
      refine step_append_grows hgd s z 25 ho 27 i0 (.agg #[.int .u8 0, .int .u8 0, .int .u8 0, .int .u8 0, .int .i64 0, .int .i64 0, .int .i64 0, .string ⟨#[]⟩, .string ⟨#[]⟩, .slice none 0 0]) 10 96 Tryz.underlying25 hi hz0 hz1 hz2 rfl (by decide) a0 G.len G.len (cellsF G) (hsv.trans hu) hnone (cellsF_len _) hold ⟨g, 0, none⟩ (Fo.cons v a c ks rest).len cap (cellsF (.cons v a c ks rest)) hx (cellsF_len _) ?_ (cellsF_one _) (by simp [Fo.len]) (by unfold maxLen; omega) (by omega) ?_
      · intro j u' hu'
        have hj : j < (cellsF (.cons v a c ks rest)).length := (List.getElem?_eq_some_iff.1 hu').1
        have e : (⟨g, 0, none⟩ : Addr).add j = ⟨g, j, none⟩ := by
          by_cases hz : j = 0
          · subst hz; rfl
          · simp [Addr.add, hz]
        rw [e, cell_of_block hh]
        rw [← ht] at hu'
        rw [cellsF_len] at hj
        rw [List.getElem?_take_of_lt (by omega)] at hu'
        simpa using hu'
      · intro v' w' h1 h2'
        obtain ⟨gg, cc, rfl, hgg, _⟩ := h1.form (by simp only [Fo.len]; omega)
        have hK : KI X (G.app (.cons v a c ks rest)) := h.ki.app h2.ki
        have hA : KAv (fun b => B ≤ b) (G.app (.cons v a c ks rest)) := (h.av.mono fun b hb => hb.1).app (h2.av.mono fun b hb => by omega)
        have hL := hA.and (kav_lt hK)
        refine k _ _ _ w' ⟨?_, ki_grown h2' hK (hA.mono fun b _ e => by cases e), hL.mono fun b hb => ⟨hb.1, fun e => absurd (show gg = b by simpa [Value.ownBlock] using e) (by omega)⟩, h.cp.app h2.cp⟩ h2' (fun i hi => Or.inr (by have e : gg = i := (by simpa [Value.ownBlock] using hi); omega))
        rw [app_len, cellsF_app]
        rcases h1.2 with ⟨e0, _⟩ | ⟨g1, cap1, cur1, hv1, hg1, r⟩
        · cases e0
        · exact ⟨h1.1, Or.inr ⟨g1, cap1, cur1, hv1, by omega, r⟩⟩
/-- A list of one's own as a value. -/
def VLI (B : Nat) (x : Nd) (v : Value) (w : World) : Prop := ∃ G, LI B w v x.2 G
/-- The same, where an empty one is nil. -/
def VLJ (B : Nat) (x : Nd) (v : Value) (w : World) : Prop := (∃ G, LI B w v x.2 G) ∧ (x.2 = .nil → v = .slice none 0 0)
theorem VLI.out {B : Nat} {x : Nd} {v : Value} {w : World} (h : VLI B x v w) : ∃ a c f, v = .slice a (Fo.len f) c ∧ Cp x.2 f ∧ sok a f.len c ∧ Ls B w.heap.size w a f := by
  obtain ⟨G, h⟩ := h
  exact h.done.out
theorem Bx.grown {X w' : World} {b : Nat} {v : NF} {s : Value} {row : Option Nat} (h : Bx X b v s) (k : X.grownBy w' row) (hr : row ≠ some b) : Bx w' b v s := (k.block b h.lt (fun e => hr e.symm)).trans h
theorem stp_true {x : List UInt8} {s s' : St} (hw : Wf s) (hx : x ≠ []) (h : tryM x s = .ok true s') : Wf s' ∧ s'.t.length + 1 = s.t.length := by
  have := try_k (f := fun b s => .ok b s) (P := fun b s' => b = true → Wf s' ∧ s'.t.length + 1 = s.t.length) hw hx (fun s' h _ => ⟨h.wf, h.len⟩) (fun e => by cases e)
  rw [h] at this
  exact this rfl
theorem Fr.grown {R : Nat} {w X w' : World} {row : Option Nat} (h : Fr R w X) (k : X.grownBy w' row) (hr : ∀ i, row = some i → w.heap.size ≤ i) : Fr R w w' :=
  ⟨k.os.trans h.os, k.tape.trans h.tape, k.output.trans h.output, Nat.le_trans h.size k.size, fun i hi hn => (k.block i (Nat.lt_of_lt_of_le hi h.size) (fun e => by have := hr i e.symm; omega)).trans (h.block i hi hn)⟩
theorem RD.grown {X w' : World} {R g cap : Nat} {L : List Tok} {s : St} {row : Option Nat} (h : RD X R g cap L s) (k : X.grownBy w' row) (hr : ∀ i, row = some i → R < i) : RD w' R g cap L s :=
  ⟨h.b.far k.size (fun i hi => k.block i (Nat.lt_of_le_of_lt hi h.b.lt_size) (fun e => by have := hr i e.symm; omega)), h.p⟩
theorem LI.lt {B : Nat} {w : World} {u : Value} {P G : Fo} (h : LI B w u P G) : ∀ k, u.ownBlock = some k → B ≤ k ∧ k < w.heap.size := fun k hk => h.own.lt k hk
theorem LI.one {B B' U : Nat} {X : World} {y : Nd} {a : Option Addr} {c : Nat} {f : Fo} (hl : Ls B' U X a f) (hBB : B ≤ B') (hB : B ≤ X.heap.size) (hok : y.1.ok) (hs : sok a f.len c) (hc : Cp y.2 f) (hU : U ≤ X.heap.size) :
    LI B (X.alloc (.cells (cellsN y.1 (.slice a f.len c)).toArray 27)) (.slice (some ⟨X.heap.size, 0, none⟩) 1 1) (Pr.one y) (.cons y.1 a c f .nil) := by
  refine ⟨⟨by simp [cellsF, cellsN, Fo.len], Or.inr ⟨X.heap.size, 1, (cellsN y.1 (.slice a f.len c)).toArray, rfl, hB, heap_alloc_new X _, by simp [Fo.len], by decide, rfl, by simp [cellsF, cellsN, Fo.len]⟩⟩, ⟨hok, hs, (hl.alloc _).i, trivial⟩, ⟨hl.v.mono fun b hb => ⟨by omega, fun e => absurd (show X.heap.size = b by simpa [Value.ownBlock] using e) (by omega)⟩, trivial⟩, ⟨rfl, hc, trivial⟩⟩

end Go.Proofs.YtoilhcklflmamaaGreatDoor
