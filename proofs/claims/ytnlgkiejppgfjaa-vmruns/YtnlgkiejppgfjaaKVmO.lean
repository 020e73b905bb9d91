/-
  The machine: a step, what its cases share: facts over worlds and the program; the conditions: the machine lies there.
-/
import Derived.Test.YtnlgkiejppgfjaaKVmN
import Derived.Test.YtnlgkiejppgfjaaKVmM1
import Derived.Test.YtnlgkiejppgfjaaKVmM2
import Derived.Test.YtnlgkiejppgfjaaKVmM3
namespace Go.Proofs.Ytnlgkiejppgfjaa
open Go.RowKit
set_option linter.unusedVariables false

/-- How a step ends. -/
def StepPost (r : Rs) (tr : List Int) (t : Int) (mem' : List Int) (cls' : List Cl) (tr' : List Int) (ex' : Int) : Prop :=
  match r with
  | .go m c s => t = 0 ∧ mem' = m ∧ cls' = c ∧ tr' = s ∧ c.length ≠ 0
  | .stop q => t = q ∧ q ≠ 0 ∧ tr' = tr
  | .halt x => t = 0 ∧ cls' = [] ∧ ex' = x ∧ tr' = tr

section
variable {w w' w0 : World} {R : Nat} {col col' : Col} {im : PIm} {mn : Nat} {mem ce : List Int} {cls : List Cl} {W : Nat → List Int} {tr : List Int} {ex : Int} {cv kv tv : Value} {N : Nat}

/-- How a step leaves the machine. -/
def StepEnd (w w0 : World) (R : Nat) (col : Col) (im : PIm) (tr : List Int) (N : Nat) (r : Rs) (e : Ending) (w' : World) : Prop :=
  ∃ t col' mem' cls' tr' ex', e = .returned (.int .u8 t) ∧ MV w' w0 R col' im mem' cls' tr' ex' (N + 1) ∧ Ex col w col' w' ∧ StepPost r tr t mem' cls' tr' ex'

theorem onP_at {c : Cl} {k : Nat} (hk : k + 1 = cls.length) : onP cls c = cls.set k { c with pl := c.pl + 1 } := by unfold onP; rw [← hk]; rfl
theorem Cl.ok_pl {c : Cl} (h : c.ok) {q : Nat} (hq : q ≤ 4294967296) : ({ c with pl := q } : Cl).ok := ⟨h.rg, h.gt, h.rd, hq, h.ba, h.an⟩

/-- The machine with its calls' block in sight. -/
def MK (w w0 : World) (R C : Nat) (col : Col) (im : PIm) (mem : List Int) (cls : List Cl) (tr : List Int) (ex : Int) (N : Nat) : Prop :=
  ∃ ce W cv cap tv ks, MX w w0 R col im mem.length ce cls W tr ex cv (.slice (some ⟨C, 0, none⟩) cls.length cap) tv ∧ KS w w0.heap.size C cap ks col cls W ∧ PL mem cls W ce tr N
theorem MK.mv {C : Nat} (h : MK w w0 R C col im mem cls tr ex N) : MV w w0 R col im mem cls tr ex N := by
  obtain ⟨ce, W, cv, cap, tv, ks, h1, h2, h3⟩ := h
  exact ⟨ce, W, cv, _, tv, h1, h3⟩
theorem MV.mk (h : MV w w0 R col im mem cls tr ex N) (hn : cls.length ≠ 0) : ∃ C, MK w w0 R C col im mem cls tr ex N := by
  obtain ⟨ce, W, cv, kv, tv, h1, p⟩ := h
  obtain ⟨C, cap, ks, rfl, K, -⟩ := h1.kopen hn
  exact ⟨C, ce, W, cv, cap, tv, ks, h1, K, p⟩
theorem MK.keep {C : Nat} (h : MK w w0 R C col im mem cls tr ex N) (hq : Q w w') : MK w' w0 R C col im mem cls tr ex N := by
  obtain ⟨ce, W, cv, cap, tv, ks, h1, h2, h3⟩ := h
  exact ⟨ce, W, cv, cap, tv, ks, h1.keep hq, h2.keep (hq.block C (lt_of_some h2.blk)) (fun b _ hb _ => hq.block b hb) (fun _ _ => rfl), h3⟩
theorem MK.c6 {C : Nat} (h : MK w w0 R C col im mem cls tr ex N) : ∃ cap, w.cell? ⟨R, 6, none⟩ = some (.slice (some ⟨C, 0, none⟩) cls.length cap) := by
  obtain ⟨ce, W, cv, cap, tv, ks, h1, h2, h3⟩ := h
  exact ⟨cap, h1.c0.2.2.2.2.2.2.1⟩
theorem MK.cell {C k j : Nat} {c : Cl} {u : Value} (h : MK w w0 R C col im mem cls tr ex N) (hc : cls[k]? = some c) (hj : j < 23) (hu : c.cs[j]? = some u) : w.cell? ⟨C, k * 24 + j, none⟩ = some u := by
  obtain ⟨ce, W, cv, cap, tv, ks, h1, h2, h3⟩ := h
  exact h2.cell hc hj hu
theorem MK.ok {C k : Nat} {c : Cl} (h : MK w w0 R C col im mem cls tr ex N) (hc : cls[k]? = some c) : c.ok := by
  obtain ⟨ce, W, cv, cap, tv, ks, h1, h2, h3⟩ := h
  exact h3.ok k c hc
theorem MK.free {C : Nat} (h : MK w w0 R C col im mem cls tr ex N) (j : Nat) : w.frozen? ⟨C, j, none⟩ = false := by
  obtain ⟨ce, W, cv, cap, tv, ks, h1, h2, h3⟩ := h
  exact free_of_block h2.blk j
theorem MK.size {C : Nat} (h : MK w w0 R C col im mem cls tr ex N) : C < w.heap.size ∧ R < w.heap.size := by
  obtain ⟨ce, W, cv, cap, tv, ks, h1, h2, h3⟩ := h
  exact ⟨lt_of_some h2.blk, h1.ltR⟩
/-- A cell of a call is written, the base stays. -/
theorem MK.put {C k j : Nat} {c c' : Cl} {u : Value} (h : MK w w0 R C col im mem cls tr ex N) (hc : cls[k]? = some c) (hj : j < 23) (he : c'.cs = c.cs.set j u) (hb : c'.ba = c.ba) (hok : c'.ok) : MK (w.setCell ⟨C, k * 24 + j, none⟩ u) w0 R C col im mem (cls.set k c') tr ex N ∧ Ex col w col (w.setCell ⟨C, k * 24 + j, none⟩ u) := by
  obtain ⟨ce, W, cv, cap, tv, ks, h1, h2, h3⟩ := h
  obtain ⟨ks', m1, k1, e1⟩ := h1.put rfl h2 hc hj he
  exact ⟨⟨ce, W, cv, cap, tv, ks', by rw [List.length_set]; exact m1, k1, h3.set hc hb hok⟩, e1⟩

/-- The next word is a good one. -/
theorem next_mk {C k : Nat} {c : Cl} (h : MK w w0 R C col im mem cls tr ex N) (hk : k + 1 = cls.length) (hc : cls[k]? = some c) (hok : im.ok w0) {v : Int} (hv : im.ws[c.pl]? = some v) (hlw : im.ws.length ≤ 240000) (hg : goodW v = true) (m : Nat) :
    Calls Try.prog 38 #[.pointer (some ⟨R, 0, none⟩), .pointer (some ⟨C, k * 24, none⟩)] (w.drewN m) fun e y => e = .returned (.tuple #[Cd.wv (fo v) (ft v) (fd v) (fa v) (fb v) (fi v), .bool true]) ∧ MK y w0 R C col im mem (onP cls c) tr ex N ∧ Ex col w col y := by
  obtain ⟨ce, W, cv, cap, tv, ks, h1, h2, h3⟩ := h
  have hq : Q w (w.drewN m) := (Q.refl w).drewN m
  have hpl := (List.getElem?_eq_some_iff.1 hv).1
  refine (next_good (h1.keep hq) (h2.keep rfl (fun b _ _ _ => rfl) (fun _ _ => rfl)) hc (h3.ok k c hc) hok hv hlw hg).mono ?_
  rintro e y ⟨rfl, m1, e1⟩
  rw [onP_at hk]
  obtain ⟨C', cap', ks', e', K', -⟩ := m1.kopen (by rw [List.length_set]; omega)
  injection e' with e2 _ e3
  injection e2 with e2
  injection e2 with e2
  subst e2; subst e3
  exact ⟨rfl, ⟨ce, W, cv, cap, tv, ks', by rw [List.length_set]; exact m1, K', h3.set hc rfl (Cl.ok_pl (h3.ok k c hc) (by omega))⟩, ((Ex.refl col w).drewN m).trans e1⟩

/-- There is none, or it isn't good. -/
theorem next_off {C k : Nat} {c : Cl} (h : MK w w0 R C col im mem cls tr ex N) (hk : k + 1 = cls.length) (hc : cls[k]? = some c) (hok : im.ok w0) (hlw : im.ws.length ≤ 240000) (hv : ∀ v, im.ws[c.pl]? = some v → goodW v = false) (m : Nat) :
    Calls Try.prog 38 #[.pointer (some ⟨R, 0, none⟩), .pointer (some ⟨C, k * 24, none⟩)] (w.drewN m) fun e y => ∃ a0 a1 a2 a3 a4 a5 : Int, e = .returned (.tuple #[Cd.wv a0 a1 a2 a3 a4 a5, .bool false]) ∧ (∃ cls', MV y w0 R col im mem cls' tr ex N) ∧ Ex col w col y := by
  obtain ⟨ce, W, cv, cap, tv, ks, h1, h2, h3⟩ := h
  have hq : Q w (w.drewN m) := (Q.refl w).drewN m
  have h1' := h1.keep hq
  have h2' : KS (w.drewN m) w0.heap.size C cap ks col cls W := h2.keep rfl (fun b _ _ _ => rfl) (fun _ _ => rfl)
  have hco := h3.ok k c hc
  cases e : im.ws[c.pl]? with
  | none =>
    refine (next_none h1' h2' hc hco (by rw [List.getElem?_eq_none_iff] at e; exact e) (by omega)).mono ?_
    rintro e y ⟨rfl, qy⟩
    exact ⟨0, 0, 0, 0, 0, 0, rfl, ⟨cls, ce, W, cv, _, tv, h1'.keep qy, h3⟩, Ex.q (hq.trans qy)⟩
  | some v =>
    have hg := hv v e
    have hpl := (List.getElem?_eq_some_iff.1 e).1
    have fin : ∀ y, MX y w0 R col im mem.length ce (cls.set k { c with pl := c.pl + 1 }) W tr ex cv (.slice (some ⟨C, 0, none⟩) cls.length cap) tv → Ex col (w.drewN m) col y → (∃ cls', MV y w0 R col im mem cls' tr ex N) ∧ Ex col w col y := fun y m1 e1 =>
      ⟨⟨_, ce, W, cv, _, tv, m1, h3.set hc rfl (Cl.ok_pl hco (by omega))⟩, ((Ex.refl col w).drewN m).trans e1⟩
    by_cases g0 : f0 v = 0
    · by_cases gm : fd v < 8 ∧ fa v < 8 ∧ fb v < 8
      · have g4 : ¬ ft v ≤ 5 := fun q => by
          unfold goodW at hg
          simp [g0, gm.1, gm.2.1, gm.2.2, q] at hg
        refine (next_bad3 h1' h2' hc hco hok e hlw g0 gm.1 gm.2.1 gm.2.2 g4).mono ?_
        rintro e y ⟨rfl, m1, e1⟩
        exact ⟨_, _, _, _, _, _, rfl, fin y m1 e1⟩
      · refine (next_bad2 h1' h2' hc hco hok e hlw g0 gm).mono ?_
        rintro e y ⟨rfl, m1, e1⟩
        exact ⟨_, _, _, _, _, _, rfl, fin y m1 e1⟩
    · refine (next_bad1 h1' h2' hc hco hok e hlw g0).mono ?_
      rintro e y ⟨rfl, m1, e1⟩
      exact ⟨_, _, _, _, _, _, rfl, fin y m1 e1⟩
end
end Go.Proofs.Ytnlgkiejppgfjaa
