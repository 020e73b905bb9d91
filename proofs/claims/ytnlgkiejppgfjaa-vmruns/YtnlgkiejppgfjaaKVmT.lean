/-
  The machine: a run: a contract over the program; the conditions: the machine lies there, and its program can be run.
-/
import Derived.Test.YtnlgkiejppgfjaaKVmS
namespace Go.Proofs.Ytnlgkiejppgfjaa
open Go.RowKit
set_option linter.unusedVariables false

/-- An outcome's box. -/
abbrev ocA (h : Bool) (x t : Int) (sp : Bool) (n : Nat) (tv : Value) : Array Value := #[.bool h, .int .i64 x, .int .u8 t, .bool sp, .int .i64 (n : Int), tv]
def OutPost (w0 : World) (o : Oc) (v : Value) (w' : World) : Prop :=
  ∃ ta tc, v = .agg (ocA o.h o.x o.t o.sp o.n (.slice ta o.tr.length tc)) ∧ w'.ownsRow w0.heap.size 2 1 (.slice ta o.tr.length tc) o.tr.length (rowI o.tr) ∧ Below w0.heap.size w0 w'

section
variable {w w' w0 : World} {R : Nat} {col col' : Col} {im : PIm} {mem ce : List Int} {cls : List Cl} {W : Nat → List Int} {tr : List Int} {ex : Int} {N : Nat}

/-- Where a run stands: it goes on, or has trapped, or has halted. -/
def Stands (im : PIm) (fuel : Nat) (n : Nat) (t : Int) (mem : List Int) (cls : List Cl) (tr : List Int) (ex : Int) (RES : Oc) : Prop :=
  (t = 0 ∧ cls.length ≠ 0 ∧ loopP im (fuel - n) n mem cls tr = RES) ∨ (t ≠ 0 ∧ RES = ⟨false, 0, t, false, n, tr⟩) ∨ (t = 0 ∧ cls = [] ∧ RES = ⟨true, ex, 0, false, n, tr⟩)
def rank (fuel n : Nat) (t : Int) (cls : List Cl) : Nat := if t = 0 ∧ cls.length ≠ 0 then fuel - n + 1 else 0
theorem Stands.step {fuel n : Nat} {RES : Oc} {t : Int} {m' : List Int} {c' : List Cl} {s' : List Int} {x' : Int} (hl : loopP im (fuel - n) n mem cls tr = RES) (hn : n < fuel) (hp : StepPost (stepP im mem cls tr) tr t m' c' s' x') : Stands im fuel (n + 1) t m' c' s' x' RES := by
  rw [show fuel - n = (fuel - (n + 1)) + 1 by omega, loopP] at hl
  unfold StepPost at hp
  cases hs : stepP im mem cls tr with
  | go m c s =>
    rw [hs] at hl hp
    obtain ⟨rfl, rfl, rfl, rfl, h5⟩ := hp
    exact .inl ⟨rfl, h5, hl⟩
  | stop q =>
    rw [hs] at hl hp
    obtain ⟨rfl, h2, rfl⟩ := hp
    exact .inr (.inl ⟨h2, hl.symm⟩)
  | halt x =>
    rw [hs] at hl hp
    obtain ⟨rfl, rfl, rfl, rfl⟩ := hp
    exact .inr (.inr ⟨rfl, rfl, hl.symm⟩)
theorem MV.tr8 (h : MV w w0 R col im mem cls tr ex N) : ∃ a c ta tc, w.cell? ⟨R, 6, none⟩ = some (.slice a cls.length c) ∧ w.cell? ⟨R, 7, none⟩ = some (.int .i64 ex) ∧ w.cell? ⟨R, 8, none⟩ = some (.slice ta tr.length tc) ∧ w.ownsRow w0.heap.size 2 1 (.slice ta tr.length tc) tr.length (rowI tr) ∧ (∀ b, (Value.slice ta tr.length tc).ownBlock = some b → col b = some .tr) ∧ Below w0.heap.size w0 w ∧ R < w.heap.size := by
  obtain ⟨ce, W, cv, kv, tv, h1, p⟩ := h
  obtain ⟨a, c, rfl⟩ := h1.kform
  obtain ⟨ta, tc, rfl, -, -⟩ := own_form h1.tro
  obtain ⟨-, -, -, -, -, -, c6, c7, c8⟩ := h1.c0
  exact ⟨a, c, ta, tc, c6, c7, c8, h1.tro, h1.trc, h1.bel, h1.ltR⟩

/-- The run's own box. -/
structure BX (z w : World) (col : Col) (n : Nat) (t : Int) : Prop where
  blk : z.heap[w.heap.size + 1]? = some (.cells (ocA false 0 t false n (.slice none 0 0)) 31 (0, 0))
  res : z.heap[w.heap.size]? = some (.cells (ocA false 0 0 false 0 (.slice none 0 0)) 31 (0, 0))
  c1 : col (w.heap.size + 1) = none
  c0 : col w.heap.size = none
theorem BX.cells {z : World} {n : Nat} {t : Int} (h : BX z w col n t) : z.cell? ⟨w.heap.size + 1, 0, none⟩ = some (.bool false) ∧ z.cell? ⟨w.heap.size + 1, 1, none⟩ = some (.int .i64 0) ∧ z.cell? ⟨w.heap.size + 1, 2, none⟩ = some (.int .u8 t) ∧ z.cell? ⟨w.heap.size + 1, 3, none⟩ = some (.bool false) ∧ z.cell? ⟨w.heap.size + 1, 4, none⟩ = some (.int .i64 (n : Int)) ∧ z.cell? ⟨w.heap.size + 1, 5, none⟩ = some (.slice none 0 0) :=
  ⟨cell_of_block h.blk 0, cell_of_block h.blk 1, cell_of_block h.blk 2, cell_of_block h.blk 3, cell_of_block h.blk 4, cell_of_block h.blk 5⟩
theorem BX.free {z : World} {n : Nat} {t : Int} (h : BX z w col n t) (j : Nat) : z.frozen? ⟨w.heap.size + 1, j, none⟩ = false := free_of_block h.blk j
theorem BX.over {z y : World} {n : Nat} {t : Int} (h : BX z w col n t) (hE : Ex col z col' y) : BX y w col' n t :=
  ⟨(hE.block _ (lt_of_some h.blk) h.c1).trans h.blk, (hE.block _ (lt_of_some h.res) h.c0).trans h.res, hE.none (lt_of_some h.blk) h.c1, hE.none (lt_of_some h.res) h.c0⟩
theorem BX.steps {z : World} {n : Nat} {t : Int} (h : BX z w col n t) : BX (z.setCell ⟨w.heap.size + 1, 4, none⟩ (.int .i64 ((n : Int) + 1))) w col (n + 1) t := by
  refine ⟨?_, (heap_setCell_other z _ _ _ (show w.heap.size ≠ w.heap.size + 1 by omega)).trans h.res, h.c1, h.c0⟩
  rw [heap_setCell_same z _ 4 _ _ _ h.blk]
  simp
theorem BX.trap {z : World} {n : Nat} {t : Int} (h : BX z w col n t) (q : Int) : BX (z.setCell ⟨w.heap.size + 1, 2, none⟩ (.int .u8 q)) w col n q := by
  refine ⟨?_, (heap_setCell_other z _ _ _ (show w.heap.size ≠ w.heap.size + 1 by omega)).trans h.res, h.c1, h.c0⟩
  rw [heap_setCell_same z _ 2 _ _ _ h.blk]
  simp

/-- What holds ahead of each round. -/
def RunInv (w w0 : World) (R : Nat) (im : PIm) (fuel : Nat) (RES : Oc) (g : Nat) (z : World) : Prop :=
  ∃ n t col mem cls tr ex, n ≤ fuel ∧ BX z w col n t ∧ MV z w0 R col im mem cls tr ex n ∧ Stands im fuel n t mem cls tr ex RES ∧ rank fuel n t cls ≤ g ∧ w0.heap.size ≤ w.heap.size ∧ R < w.heap.size

abbrev z0A : Array Value := #[.bool false, .int .i64 0, .int .u8 0, .bool false, .int .i64 0, .slice none 0 0]
set_option maxRecDepth 100000 in
set_option maxHeartbeats 4000000 in
theorem run_any (hm : MV w w0 R col im im.da [] [] 0 0) (hok : im.ok w0) (hF : formP im = true) (fuel : Nat) (hf : fuel ≤ 8388608) :
    Calls Try.prog 16 #[.pointer (some ⟨R, 0, none⟩), .int .i64 (fuel : Int)] w fun e w' => ∃ v, e = .returned v ∧ OutPost w0 (runP im fuel) v w' := by
  obtain ⟨hlw, hst⟩ := form_len hF
  have hq : Q w ((w.alloc (.cells (z0A) 31)).alloc (.cells (z0A) 31)) := ((Q.refl w).alloc _).alloc _
  obtain ⟨a0, c0, ta0, tc0, -, -, -, -, -, hbel, ltR⟩ := hm.tr8
  have hfr : ∀ b, w.heap.size ≤ b → col b = none := fun b hb => by obtain ⟨ce, W, cv, kv, tv, h1, p⟩ := hm; exact h1.fresh hb
  have c3 : w.cell? ⟨R, 3, none⟩ = some (.slice im.sa im.st.length im.sc) := by obtain ⟨ce, W, cv, kv, tv, h1, p⟩ := hm; exact h1.c0.2.2.2.1
  have c3 := cell_keep hq c3
  obtain ⟨s, hs⟩ : ∃ s, im.st.length = s + 1 := ⟨im.st.length - 1, by omega⟩
  have hsl : im.st.length ≤ 9223372036854775807 := hok.ssok.len
  have z1 : IntKind.i64.wrap ((s : Int) + 1 - 1) = (s : Int) := by rw [IntKind.wrap_i64]; omega
  have z2 : IntKind.i64.wrap (s : Int) = (s : Int) := by rw [IntKind.wrap_i64]; omega
  have b1 : ((w.alloc (.cells (z0A) 31)).alloc (.cells (z0A) 31)).heap[w.heap.size + 1]? = some (.cells (z0A) 31 (0, 0)) := heap_at (by simp)
  have b0 : ((w.alloc (.cells (z0A) 31)).alloc (.cells (z0A) 31)).heap[w.heap.size]? = some (.cells (z0A) 31 (0, 0)) := heap_old _ (heap_new w _)
  have HBEG := hideIt (show Calls Try.prog 29 #[.pointer (some ⟨R, 0, none⟩), .int .i64 (s : Int), .agg #[.int .i64 0, .int .i64 0, .int .i64 0, .int .i64 0, .int .i64 0, .int .i64 0], .int .u8 0] ((w.alloc (.cells (z0A) 31)).alloc (.cells (z0A) 31)) fun e y => ∃ t : Int, e = .returned (.int .u8 t) ∧ (∃ u, y.cell? ⟨w.heap.size + 1, 2, none⟩ = some u) ∧ y.frozen? ⟨w.heap.size + 1, 2, none⟩ = false ∧ RunInv w w0 R im fuel (runP im fuel) (fuel + 1) (y.setCell ⟨w.heap.size + 1, 2, none⟩ (.int .u8 t)) from by
    refine (begin_any (hm.keep hq) hok hF s 0 0 0 0 0 0 0 (by omega)).mono ?_
    intro e y hy
    have hB0 : BX ((w.alloc (.cells (z0A) 31)).alloc (.cells (z0A) 31)) w col 0 0 := ⟨b1, b0, hfr _ (Nat.le_succ _), hfr _ (Nat.le_refl _)⟩
    have hrun : runP im fuel = (match beginP im s z6 0 im.da [] with | none => ⟨false, 0, 5, false, 0, []⟩ | some (m, c) => loopP im fuel 0 m c []) := by unfold runP; rw [show im.st.length - 1 = s by omega]; rfl
    have nB : w0.heap.size ≤ w.heap.size + 1 := Nat.le_succ_of_le hbel.size
    cases hb : beginP im s z6 0 im.da [] with
    | none =>
      rw [hb] at hy hrun
      obtain ⟨rfl, qy⟩ := hy
      have hB := hB0.over (Ex.q (c0 := col) qy)
      refine ⟨5, rfl, ⟨_, hB.cells.2.2.1⟩, hB.free 2, 0, 5, col, im.da, [], [], 0, Nat.zero_le _, hB.trap 5, ((hm.keep hq).keep qy).other hB.c1 nB _, .inr (.inl ⟨by decide, hrun⟩), ?_, hbel.size, ltR⟩
      unfold rank; rw [if_neg (by simp)]; exact Nat.zero_le _
    | some mc =>
      obtain ⟨m, cl⟩ := mc
      rw [hb] at hy hrun
      obtain ⟨rfl, ⟨col', m1, e1⟩, hl⟩ := hy
      have hB := hB0.over e1
      refine ⟨0, rfl, ⟨_, hB.cells.2.2.1⟩, hB.free 2, 0, 0, col', m, cl, [], 0, Nat.zero_le _, hB.trap 0, m1.other hB.c1 nB _, .inl ⟨rfl, hl, hrun.symm⟩, ?_, hbel.size, ltR⟩
      unfold rank; rw [if_pos ⟨rfl, hl⟩]; omega)
  generalize runP im fuel = RES at *
  rw [hs] at c3
  have hw0 : w0.heap.size ≤ w.heap.size := hbel.size
  have FIN := hideIt (show ∀ (z : World) (col : Col) (n : Nat) (t0 : Int) (tr : List Int) (ta : Option Addr) (tc : Nat), BX z w col n t0 → (z.ownsRow w0.heap.size 2 1 (.slice ta tr.length tc) tr.length (rowI tr) ∧ (∀ b, (Value.slice ta tr.length tc).ownBlock = some b → col b = some .tr) ∧ Below w0.heap.size w0 z) → ∀ Z1 : World, (∃ l : List (Nat × Value), Z1 = l.foldl (fun X p => X.setCell ⟨w.heap.size + 1, p.1, none⟩ p.2) z) → (∀ u0 u1 u2 u3 u4 u5 : Value, (six Z1 w.heap.size u0 u1 u2 u3 u4 u5).heap[w.heap.size]? = some (.cells #[u0, u1, u2, u3, u4, u5] 31 (0, 0))) ∧ (∀ (h : Bool) (x t : Int) (sp : Bool), OutPost w0 ⟨h, x, t, sp, n, tr⟩ (.agg (ocA h x t sp n (.slice ta tr.length tc))) (six Z1 w.heap.size (.bool h) (.int .i64 x) (.int .u8 t) (.bool sp) (.int .i64 (n : Int)) (.slice ta tr.length tc))) from fun z col n t0 tr ta tc hB hT Z1 ⟨l, hl⟩ => by
    have keepO : ∀ (l : List (Nat × Value)) (X : World) (b : Nat), b ≠ w.heap.size + 1 → (l.foldl (fun X p => X.setCell ⟨w.heap.size + 1, p.1, none⟩ p.2) X).heap[b]? = X.heap[b]? := by
      intro l
      induction l with
      | nil => intro X b _; rfl
      | cons p l ih => intro X b hb; rw [List.foldl_cons, ih _ b hb]; exact heap_setCell_other X _ b _ hb
    have keepB : ∀ (l : List (Nat × Value)) (X : World), Below w0.heap.size w0 X → Below w0.heap.size w0 (l.foldl (fun X p => X.setCell ⟨w.heap.size + 1, p.1, none⟩ p.2) X) := by
      intro l
      induction l with
      | nil => intro X h; exact h
      | cons p l ih => intro X h; rw [List.foldl_cons]; exact ih _ (Below.setCell h (Nat.le_succ_of_le hw0) _)
    subst hl
    refine ⟨fun u0 u1 u2 u3 u4 u5 => six_blk ((keepO l z _ (by omega)).trans hB.res) u0 u1 u2 u3 u4 u5, fun h x t sp => ⟨ta, tc, rfl, row_keep hT.1 (fun b q => ?_), ?_⟩⟩
    · have hc := hT.2.1 b q
      have n1 : b ≠ w.heap.size + 1 := fun e => by rw [e, hB.c1] at hc; cases hc
      have n0 : b ≠ w.heap.size := fun e => by rw [e, hB.c0] at hc; cases hc
      rw [six_oth _ n0, keepO l z b n1]
    · have hb := keepB l z hT.2.2
      exact Below.setCell (Below.setCell (Below.setCell (Below.setCell (Below.setCell (Below.setCell hb hw0 _) hw0 _) hw0 _) hw0 _) hw0 _) hw0 _)
  have STEP := hideIt (show ∀ (z : World) (col : Col) (mem : List Int) (cls : List Cl) (tr : List Int) (ex : Int) (n : Nat) (t : Int), n < fuel → t = 0 → BX z w col n t → MV z w0 R col im mem cls tr ex n → cls.length ≠ 0 → loopP im (fuel - n) n mem cls tr = RES → Calls Try.prog 30 #[.pointer (some ⟨R, 0, none⟩)] (z.setCell ⟨w.heap.size + 1, 4, none⟩ (.int .i64 ((n : Int) + 1))) fun e y => ∃ t : Int, e = .returned (.int .u8 t) ∧ (∃ u, y.cell? ⟨w.heap.size + 1, 2, none⟩ = some u) ∧ y.frozen? ⟨w.heap.size + 1, 2, none⟩ = false ∧ RunInv w w0 R im fuel RES (fuel - n) (y.setCell ⟨w.heap.size + 1, 2, none⟩ (.int .u8 t)) from fun z col mem cls tr ex n t hn ht hB hM hl hL => by
    subst ht
    have hB1 := hB.steps
    have hM1 := hM.other (p := ⟨w.heap.size + 1, 4, none⟩) hB.c1 (Nat.le_succ_of_le hw0) (.int .i64 ((n : Int) + 1))
    refine (step_any hM1 hl (by omega) hok hF).mono ?_
    rintro e y ⟨t, col', m', c', s', x', rfl, m1, e1, hp⟩
    have hB2 := hB1.over e1
    refine ⟨t, rfl, ⟨_, hB2.cells.2.2.1⟩, hB2.free 2, n + 1, t, col', m', c', s', x', by omega, hB2.trap t, m1.other hB2.c1 (Nat.le_succ_of_le hw0) _, Stands.step hL hn hp, ?_, hw0, ltR⟩
    unfold rank
    split <;> omega)
  clear hm hq hbel hfr b1 b0 hst hlw hs hsl
  go_enter Try.func16, Try.ntmps16
  go_wp2_with (first | (go_at_call 29; refine HBEG.out.mono ?_; rintro e y ⟨t, rfl, ⟨u, k1⟩, k2, k3⟩; have HI := hideIt k3; clear k3) | fail)
  go_loopg [] (fuel + 1) (fun g z => RunInv w w0 R im fuel RES g z)
  case atStart => exact HI.out
  case round =>
    obtain ⟨n, t0, col, mem, cls, tr, ex, hnf, hB, hM, hS, hR, -, -⟩ := hrel
    have HB := hideIt hB
    have HM := hideIt hM
    obtain ⟨o0, o1, o2, o3, o4, o5⟩ := hB.cells
    have g0 := hB.free 0
    have g1 := hB.free 1
    have g2 := hB.free 2
    have g3 := hB.free 3
    have g4 := hB.free 4
    have g5 := hB.free 5
    obtain ⟨ka, kc, ta, tc, r6, r7, r8, rt, rc, rb, -⟩ := hM.tr8
    have HT := hideIt (And.intro rt (And.intro rc rb))
    have v0 := free_of_block hB.res 0
    have v1 := free_of_block hB.res 1
    have v2 := free_of_block hB.res 2
    have v3 := free_of_block hB.res 3
    have v4 := free_of_block hB.res 4
    have v5 := free_of_block hB.res 5
    obtain ⟨u0, u1, u2, u3, u4, u5⟩ := six_cells hB.res
    have nR0 : ¬ R = w.heap.size := by omega
    have nR1 : ¬ R = w.heap.size + 1 := by omega
    have nR2 : ¬ w.heap.size + 1 = R := by omega
    have nR3 : ¬ w.heap.size = R := by omega
    clear hB hM rt rc rb
    rcases hS with ⟨ht, hl, hL⟩ | ⟨ht, rfl⟩ | ⟨ht, hl, rfl⟩
    · subst ht
      have hlb : decide (0 < (cls.length : Int)) = true := by simp; omega
      by_cases hn : n = fuel
      · subst hn
        rw [Nat.sub_self, loopP] at hL
        subst hL
        go_wp2_with (fail)
        obtain ⟨bz, pz⟩ := FIN.out wr col n 0 tr ta tc HB.out HT.out (((wr.setCell ⟨w.heap.size + 1, 3, none⟩ (.bool true)).setCell ⟨w.heap.size + 1, 0, none⟩ (.bool false)).setCell ⟨w.heap.size + 1, 5, none⟩ (.slice ta tr.length tc)) ⟨[(3, .bool true), (0, .bool false), (5, .slice ta tr.length tc)], by simp only [List.foldl_cons, List.foldl_nil]⟩
        have bz := bz (.bool false) (.int .i64 0) (.int .u8 0) (.bool true) (.int .i64 (n : Int)) (.slice ta tr.length tc)
        have pz := pz false 0 0 true
        dsimp only [six] at bz pz
        generalize hZ : (((((((((wr.setCell ⟨w.heap.size + 1, 3, none⟩ (.bool true)).setCell ⟨w.heap.size + 1, 0, none⟩ (.bool false)).setCell ⟨w.heap.size + 1, 5, none⟩ (.slice ta tr.length tc)).setCell ⟨w.heap.size, 0, none⟩ (.bool false)).setCell ⟨w.heap.size, 1, none⟩ (.int .i64 0)).setCell ⟨w.heap.size, 2, none⟩ (.int .u8 0)).setCell ⟨w.heap.size, 3, none⟩ (.bool true)).setCell ⟨w.heap.size, 4, none⟩ (.int .i64 (n : Int))).setCell ⟨w.heap.size, 5, none⟩ (.slice ta tr.length tc)) = Z at *
        obtain ⟨y0, y1, y2, y3, y4, y5⟩ := six_cells bz
        exact bodyPost_ret (v := .agg #[.bool false, .int .i64 0, .int .u8 0, .bool true, .int .i64 (n : Int), .slice ta tr.length tc]) (by simp [results, Try.results16, go_sem, y0, y1, y2, y3, y4, y5]) rfl ⟨_, rfl, pz⟩
      · have hnb : ((n : Int) == (fuel : Int)) = false := by simp; omega
        have zn : IntKind.i64.wrap ((n : Int) + 1) = (n : Int) + 1 := by rw [IntKind.wrap_i64]; omega
        have CS := hideIt (STEP.out wr col mem cls tr ex n 0 (by omega) rfl HB.out HM.out hl hL)
        unfold rank at hR
        rw [if_pos ⟨rfl, hl⟩] at hR
        clear hL
        go_wp2_with (first | (go_at_call 30; refine CS.out.mono ?_; rintro e y2 ⟨t, rfl, ⟨u, k1⟩, k2, k3⟩; have HI2 := hideIt k3; clear k3) | fail)
        go_roundg (fuel - n)
        case measure => omega
        case rel => exact HI2.out
    · have htb : (t0 == 0) = false := by simpa using ht
      go_wp2_with (fail)
      obtain ⟨bz, pz⟩ := FIN.out wr col n t0 tr ta tc HB.out HT.out ((wr.setCell ⟨w.heap.size + 1, 0, none⟩ (.bool false)).setCell ⟨w.heap.size + 1, 5, none⟩ (.slice ta tr.length tc)) ⟨[(0, .bool false), (5, .slice ta tr.length tc)], by simp only [List.foldl_cons, List.foldl_nil]⟩
      have bz := bz (.bool false) (.int .i64 0) (.int .u8 t0) (.bool false) (.int .i64 (n : Int)) (.slice ta tr.length tc)
      have pz := pz false 0 t0 false
      dsimp only [six] at bz pz
      generalize hZ : ((((((((wr.setCell ⟨w.heap.size + 1, 0, none⟩ (.bool false)).setCell ⟨w.heap.size + 1, 5, none⟩ (.slice ta tr.length tc)).setCell ⟨w.heap.size, 0, none⟩ (.bool false)).setCell ⟨w.heap.size, 1, none⟩ (.int .i64 0)).setCell ⟨w.heap.size, 2, none⟩ (.int .u8 t0)).setCell ⟨w.heap.size, 3, none⟩ (.bool false)).setCell ⟨w.heap.size, 4, none⟩ (.int .i64 (n : Int))).setCell ⟨w.heap.size, 5, none⟩ (.slice ta tr.length tc)) = Z at *
      obtain ⟨y0, y1, y2, y3, y4, y5⟩ := six_cells bz
      exact bodyPost_ret (v := .agg #[.bool false, .int .i64 0, .int .u8 t0, .bool false, .int .i64 (n : Int), .slice ta tr.length tc]) (by simp [results, Try.results16, go_sem, y0, y1, y2, y3, y4, y5]) rfl ⟨_, rfl, pz⟩
    · subst ht
      subst hl
      go_wp2_with (fail)
      obtain ⟨bz, pz⟩ := FIN.out wr col n 0 tr ta tc HB.out HT.out (((wr.setCell ⟨w.heap.size + 1, 0, none⟩ (.bool true)).setCell ⟨w.heap.size + 1, 1, none⟩ (.int .i64 ex)).setCell ⟨w.heap.size + 1, 5, none⟩ (.slice ta tr.length tc)) ⟨[(0, .bool true), (1, .int .i64 ex), (5, .slice ta tr.length tc)], by simp only [List.foldl_cons, List.foldl_nil]⟩
      have bz := bz (.bool true) (.int .i64 ex) (.int .u8 0) (.bool false) (.int .i64 (n : Int)) (.slice ta tr.length tc)
      have pz := pz true ex 0 false
      dsimp only [six] at bz pz
      generalize hZ : (((((((((wr.setCell ⟨w.heap.size + 1, 0, none⟩ (.bool true)).setCell ⟨w.heap.size + 1, 1, none⟩ (.int .i64 ex)).setCell ⟨w.heap.size + 1, 5, none⟩ (.slice ta tr.length tc)).setCell ⟨w.heap.size, 0, none⟩ (.bool true)).setCell ⟨w.heap.size, 1, none⟩ (.int .i64 ex)).setCell ⟨w.heap.size, 2, none⟩ (.int .u8 0)).setCell ⟨w.heap.size, 3, none⟩ (.bool false)).setCell ⟨w.heap.size, 4, none⟩ (.int .i64 (n : Int))).setCell ⟨w.heap.size, 5, none⟩ (.slice ta tr.length tc)) = Z at *
      obtain ⟨y0, y1, y2, y3, y4, y5⟩ := six_cells bz
      exact bodyPost_ret (v := .agg #[.bool true, .int .i64 ex, .int .u8 0, .bool false, .int .i64 (n : Int), .slice ta tr.length tc]) (by simp [results, Try.results16, go_sem, y0, y1, y2, y3, y4, y5]) rfl ⟨_, rfl, pz⟩
end
end Go.Proofs.Ytnlgkiejppgfjaa
