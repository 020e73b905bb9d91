/-
  The least code of the statements, and that it is right: contracts over the program.
-/
import Derived.Test.YtiiggldapncknaaIrN
namespace Go.Proofs.Ytiiggldapncknaa
open Go.RowKit
set_option linter.unusedVariables false

theorem cell_of_block {w : World} {b : Nat} {cs : Array Value} {t : TypeId} (h : w.heap[b]? = some (.cells cs t (0, 0))) (j : Nat) : w.cell? ⟨b, j, none⟩ = cs[j]? := by simp [World.cell?, h]
theorem At.block {w : World} {b : Nat} {cs : List Value} {t : TypeId} (h : w.heap[b]? = some (.cells cs.toArray t (0, 0))) : At w b 0 cs := fun j hj => by rw [cell_of_block h]; simp
theorem Lst.nil {α : Type} {sz : Nat} {P : Nat → Nat → α → Prop} {a : Option Addr} : Lst sz P a [] := fun k x e => by simp at e
theorem Lst.one {α : Type} {sz : Nat} {P : Nat → Nat → α → Prop} {b o : Nat} {x : α} (h : P b o x) : Lst sz P (some ⟨b, o, none⟩) [x] := fun k y e => by
  cases k with
  | zero => simp at e; subst e; exact ⟨b, o, rfl, by simpa using h⟩
  | succ k => simp at e

/-- The blocks of the least code. -/
def lsP (ins : List PI) (ia : Option Addr) (ic : Nat) : PP := ⟨ins, true, 0, 0, 0, ia, ic⟩
def lsF (regs : Int) (slots : List Int) (sa : Option Addr) (sc : Nat) (p : PP) (g1 : Nat) : PF := ⟨0, regs, slots, [p], sa, sc, some ⟨g1, 0, none⟩, 1⟩
def lsC (gl ini : List Int) (ga : Option Addr) (gc : Nat) (na : Option Addr) (nc : Nat) (f : PF) (g2 : Nat) : PC := ⟨gl, ini, [f], ga, gc, na, nc, some ⟨g2, 0, none⟩, 1⟩
theorem ls_ok {w : World} {ins : List PI} {ia : Option Addr} {ic : Nat} {regs : Int} {slots gl ini : List Int} {sa ga na : Option Addr} {sc gc nc g1 g2 : Nat}
    (h1 : w.heap[g1]? = some (.cells #[.slice ia ins.length ic, .bool true, .int .i64 0, .int .i64 0, .int .i64 0] 44 (0, 0)))
    (h2 : w.heap[g2]? = some (.cells #[.int .i64 0, .int .i64 regs, .slice sa slots.length sc, .slice (some ⟨g1, 0, none⟩) 1 1] 41 (0, 0)))
    (hi : sok 64 ia ins.length ic) (hin : Insts w ia ins) (hr : I64 regs) (hs : sok 8 sa slots.length sc) (hsl : Ints w sa slots)
    (hg : sok 8 ga gl.length gc) (hgl : Ints w ga gl) (hn : sok 8 na ini.length nc) (hnl : Ints w na ini) : (lsC gl ini ga gc na nc (lsF regs slots sa sc (lsP ins ia ic) g1) g2).ok w := by
  have z : I64 0 := by unfold I64; omega
  have s1 : ∀ g z, z ≤ 64 → sok z (some ⟨g, 0, none⟩) 1 1 := fun g z hz => ⟨Nat.le_refl _, by decide, (fun h => by cases h), by omega⟩
  refine ⟨hg, hgl, hn, hnl, s1 _ _ (by omega), Lst.one ⟨At.block h2, ⟨z, hr, hs, hsl, s1 _ _ (by omega), Lst.one ⟨At.block h1, ⟨z, z, z, hi, hin⟩⟩⟩⟩⟩
theorem sok_none (z : Nat) : sok z none 0 0 := ⟨Nat.le_refl _, by decide, fun _ => rfl, by omega⟩

theorem heap_new (X : World) (o : Obj) : (X.alloc o).heap[X.heap.size]? = some o := heap_alloc_new X _
theorem heap_old {X : World} {k : Nat} {o : Obj} (o' : Obj) (h : X.heap[k]? = some o) : (X.alloc o').heap[k]? = some o := by
  rw [Below.heap_alloc X o' k ((Array.getElem?_eq_some_iff.1 h).1)]
  exact h

def Least (w : World) (e : Ending) (w' : World) : Prop :=
  ∃ g1 g2, w.heap.size ≤ g1 ∧ g1 < g2 ∧ e = .returned (.agg #[.slice none 0 0, .slice none 0 0, .slice (some ⟨g2, 0, none⟩) 1 1]) ∧
    w'.heap[g1]? = some (.cells #[.slice none 0 0, .bool true, .int .i64 0, .int .i64 0, .int .i64 0] 44 (0, 0)) ∧
    w'.heap[g2]? = some (.cells #[.int .i64 0, .int .i64 1, .slice none 0 0, .slice (some ⟨g1, 0, none⟩) 1 1] 41 (0, 0)) ∧ Q w w'

theorem least_any (w : World) : Calls Try.prog 19 #[] w fun e w' => Least w e w' := by
  go_enter Try.func19, Try.ntmps19
  go_wp2
  refine bodyPost_ret (v := .agg #[.slice none 0 0, .slice none 0 0, .slice (some ⟨w.heap.size + 1 + 1, 0, none⟩) 1 1]) (by simp [results, Try.results19, go_sem]) rfl ?_
  refine ⟨w.heap.size + 1, w.heap.size + 1 + 1, by omega, by omega, rfl, ?_, ?_, (((Q.refl w).alloc _).alloc _).alloc _⟩
  · refine heap_old _ ?_
    have := heap_new (w.alloc (.cells #[.slice none 0 0, .slice none 0 0, .slice (some ⟨w.heap.size + 1 + 1, 0, none⟩) 1 1] 26)) (.cells #[.slice none 0 0, .bool true, .int .i64 0, .int .i64 0, .int .i64 0] 44)
    simpa using this
  · have := heap_new ((w.alloc (.cells #[.slice none 0 0, .slice none 0 0, .slice (some ⟨w.heap.size + 1 + 1, 0, none⟩) 1 1] 26)).alloc (.cells #[.slice none 0 0, .bool true, .int .i64 0, .int .i64 0, .int .i64 0] 44)) (.cells #[.int .i64 0, .int .i64 1, .slice none 0 0, .slice (some ⟨w.heap.size + 1, 0, none⟩) 1 1] 41)
    simpa using this

theorem Least.code {w w' : World} {e : Ending} (h : Least w e w') : ∃ c : PC, e = .returned c.v ∧ c.ok w' ∧ validP c = 0 ∧ IntKind.i64.wrap (codeN c) = 1 ∧ Q w w' := by
  obtain ⟨g1, g2, _, _, rfl, h1, h2, q⟩ := h
  refine ⟨lsC [] [] none 0 none 0 (lsF 1 [] none 0 (lsP [] none 0) g1) g2, rfl, ls_ok h1 h2 (sok_none _) Lst.nil (by unfold I64; omega) (sok_none _) Lst.nil (sok_none _) Lst.nil (sok_none _) Lst.nil, ?_, ?_, q⟩
  · rfl
  · rfl

def nilC : PC := ⟨[], [], [], none, 0, none, 0, none, 0⟩
theorem nilC_ok (w : World) : nilC.ok w := ⟨sok_none _, Lst.nil, sok_none _, Lst.nil, sok_none _, Lst.nil⟩

theorem awake_any (w : World) : Calls Try.prog 7 #[] w fun e w' => e = .returned (.bool true) ∧ Q w w' := by
  have CL := hideIt (fun X => (least_any X).mono fun _ _ h => Least.code h)
  have CN : Hid (∀ X, Calls Try.prog 8 #[.agg #[.slice none 0 0, .slice none 0 0, .slice none 0 0]] X fun e w' => e = .returned (.int .i64 3) ∧ Q X w') := fun X => by
    have := valid_any X nilC (nilC_ok X)
    rw [show validP nilC = 3 by decide +kernel] at this
    exact this
  go_enter Try.func7, Try.ntmps7
  go_wp2_with (first
    | (go_at_call 19; refine (CL.out _).mono ?_; rintro e x1 ⟨c, rfl, hc, hv, hn, q1⟩; have CC := hideIt (count_any x1 c hc); rw [hn] at CC; have CV := hideIt (valid_any x1 c hc); rw [hv] at CV; (first | (have HQ2 := hideIt (HQ1.out.trans q1)) | (have HQ1 := hideIt q1)); clear hc hv hn q1)
    | (go_at_call 10; refine CC.out.mono ?_; rintro e x2 ⟨rfl, q2⟩; have HX := hideIt (HQ1.out.trans q2); clear HQ1 CC CV; have HQ1 := hideIt HX.out; clear HX q2)
    | (go_at_call_of 8 (Value.slice none 0 0); refine (CN.out _).mono ?_; rintro e x3 ⟨rfl, q3⟩; have HE := hideIt (HQ3.out.trans q3); clear q3)
    | (go_at_call 8; refine CV.out.mono ?_; rintro e x2 ⟨rfl, q2⟩; have HQ3 := hideIt (HQ2.out.trans q2); clear CC CV q2)
    | fail)
  go_ret
  exact ⟨rfl, HE.out⟩

end Go.Proofs.Ytiiggldapncknaa
