/-
 The least code of the statements, and that it is right: contracts over the program.
 The registers that an instruction reads, by layer 13 and by the document's answer: contracts over the program.
-/
import Derived.Test.YtphknepblchkdaaKIrN
namespace Go.Proofs.Ytphknepblchkdaa
open Go.RowKit
set_option linter.unusedVariables false

theorem cell_of_block {w : World} {b : Nat} {cs : Array Value} {t : TypeId} (h : w.heap[b]? = some (.cells cs t (0, 0))) (j : Nat) : w.cell? ⟨b, j, none⟩ = cs[j]? := by simp [World.cell?, h]
theorem At.block {w : World} {b : Nat} {cs : List Value} {t : TypeId} (h : w.heap[b]? = some (.cells cs.toArray t (0, 0))) : At w b 0 cs := fun j hj => by rw [cell_of_block h]; simp
theorem Lst.nil {α : Type} {sz : Nat} {P : Nat → Nat → α → Prop} {a : Option Addr} : Lst sz P a [] := fun k x e => by simp at e
theorem Lst.one {α : Type} {sz : Nat} {P : Nat → Nat → α → Prop} {b o : Nat} {x : α} (h : P b o x) : Lst sz P (some ⟨b, o, none⟩) [x] := fun k y e => by
 cases k with
 | zero => simp at e; subst e; exact ⟨b, o, rfl, by simpa using h⟩
 | succ k => simp at e

/-- The blocks of the least code. -/
def lsP (ins : List PI) (ia : Option Addr) (ic : Nat) : PP := ⟨ins, true, 0, 0, 0, ia, ic⟩
def lsF (regs : Int) (slots : List Int) (sa : Option Addr) (sc : Nat) (p : PP) (g1 : Nat) : PF := ⟨0, regs, slots, [p], sa, sc, some ⟨g1, 0, none⟩, 1⟩
def lsC (gl ini : List Int) (ga : Option Addr) (gc : Nat) (na : Option Addr) (nc : Nat) (f : PF) (g2 : Nat) : PC := ⟨gl, ini, [f], ga, gc, na, nc, some ⟨g2, 0, none⟩, 1⟩
theorem ls_ok {w : World} {ins : List PI} {ia : Option Addr} {ic : Nat} {regs : Int} {slots gl ini : List Int} {sa ga na : Option Addr} {sc gc nc g1 g2 : Nat}
  (h1 : w.heap[g1]? = some (.cells #[.slice ia ins.length ic, .bool true, .int .i64 0, .int .i64 0, .int .i64 0] 47 (0, 0)))
  (h2 : w.heap[g2]? = some (.cells #[.int .i64 0, .int .i64 regs, .slice sa slots.length sc, .slice (some ⟨g1, 0, none⟩) 1 1] 44 (0, 0)))
  (hi : sok 64 ia ins.length ic) (hin : Insts w ia ins) (hr : I64 regs) (hs : sok 8 sa slots.length sc) (hsl : Ints w sa slots)
  (hg : sok 8 ga gl.length gc) (hgl : Ints w ga gl) (hn : sok 8 na ini.length nc) (hnl : Ints w na ini) : (lsC gl ini ga gc na nc (lsF regs slots sa sc (lsP ins ia ic) g1) g2).ok w := by
 have z : I64 0 := by unfold I64; omega
 have s1 : ∀ g z, z ≤ 64 → sok z (some ⟨g, 0, none⟩) 1 1 := fun g z hz => ⟨Nat.le_refl _, by decide, (fun h => by cases h), by omega⟩
 refine ⟨hg, hgl, hn, hnl, s1 _ _ (by omega), Lst.one ⟨At.block h2, ⟨z, hr, hs, hsl, s1 _ _ (by omega), Lst.one ⟨At.block h1, ⟨z, z, z, hi, hin⟩⟩⟩⟩⟩
theorem sok_none (z : Nat) : sok z none 0 0 := ⟨Nat.le_refl _, by decide, fun _ => rfl, by omega⟩

theorem heap_new (X : World) (o : Obj) : (X.alloc o).heap[X.heap.size]? = some o := heap_alloc_new X _
theorem heap_old {X : World} {k : Nat} {o : Obj} (o' : Obj) (h : X.heap[k]? = some o) : (X.alloc o').heap[k]? = some o := by
 rw [Below.heap_alloc X o' k ((Array.getElem?_eq_some_iff.1 h).1)]
 exact h

def Least (w : World) (e : Ending) (w' : World) : Prop :=
 ∃ g1 g2, w.heap.size ≤ g1 ∧ g1 < g2 ∧ e = .returned (.agg #[.slice none 0 0, .slice none 0 0, .slice (some ⟨g2, 0, none⟩) 1 1]) ∧
  w'.heap[g1]? = some (.cells #[.slice none 0 0, .bool true, .int .i64 0, .int .i64 0, .int .i64 0] 47 (0, 0)) ∧
  w'.heap[g2]? = some (.cells #[.int .i64 0, .int .i64 1, .slice none 0 0, .slice (some ⟨g1, 0, none⟩) 1 1] 44 (0, 0)) ∧ Q w w'

theorem Least.code {w w' : World} {e : Ending} (h : Least w e w') : ∃ c : PC, e = .returned c.v ∧ c.ok w' ∧ validP c = 0 ∧ IntKind.i64.wrap (codeN c) = 1 ∧ Q w w' := by
 obtain ⟨g1, g2, _, _, rfl, h1, h2, q⟩ := h
 refine ⟨lsC [] [] none 0 none 0 (lsF 1 [] none 0 (lsP [] none 0) g1) g2, rfl, ls_ok h1 h2 (sok_none _) Lst.nil (by unfold I64; omega) (sok_none _) Lst.nil (sok_none _) Lst.nil (sok_none _) Lst.nil, ?_, ?_, q⟩
 ·rfl
 ·rfl

end Go.Proofs.Ytphknepblchkdaa

namespace Go.Proofs.Ytphknepblchkdaa
open Go.RowKit
set_option linter.unusedVariables false

def usesP (x : PI) : List Int := if x.op = 32 then x.args else [x.a, x.b].take (rdP x.op)
/-- A list of numbers that came. -/
def GotL (L : List Int) (w : World) (e : Ending) (w' : World) : Prop := ∃ ao c, e = .returned (.slice ao L.length c) ∧ Ints w' ao L ∧ Q w w'

theorem mem_one {l : List Int} : ∀ v ∈ l.map (Value.int .i64), v.oneCell' = true := fun v hv => by
 obtain ⟨x, _, rfl⟩ := List.mem_map.1 hv
 rfl
theorem ints_src {w : World} {a : Option Addr} {l : List Int} (h : Ints w a l) : ∀ ad, a = some ad → ∀ j v, (l.map (Value.int .i64))[j]? = some v → w.cell? (ad.add j) = some v := fun ad e j v hv => by
 simp only [List.getElem?_map, Option.map_eq_some_iff] at hv
 obtain ⟨x, hx, rfl⟩ := hv
 obtain ⟨b, o, e', hc⟩ := h j x hx
 rw [e] at e'
 simp at e'
 subst e'
 have := hc.1
 rw [Nat.mul_one] at this
 unfold Addr.add
 by_cases hz : j = 0
 ·subst hz; simpa using this
 ·simpa [hz] using this
theorem ints_block {w : World} {g : Nat} {l : List Int} {t : TypeId} (h : w.heap[g]? = some (.cells (l.map (Value.int .i64)).toArray t (0, 0))) (hb : ∀ x ∈ l, I64 x) : Ints w (some ⟨g, 0, none⟩) l := fun k x e => by
 refine ⟨g, 0, rfl, ?_, hb x (List.mem_of_getElem? e)⟩
 rw [Nat.zero_add, Nat.mul_one, cell_of_block h]
 simp [e]
theorem ints_bound {w : World} {a : Option Addr} {l : List Int} (h : Ints w a l) : ∀ x ∈ l, I64 x := fun x hx => by
 obtain ⟨k, hk⟩ := List.mem_iff_getElem?.1 hx
 obtain ⟨b, o, _, hc⟩ := h k x hk
 exact hc.2

theorem heap_new2 (X : World) (o1 o2 : Obj) : ((X.alloc o1).alloc o2).heap[X.heap.size + 1]? = some o2 := by
 have := heap_new (X.alloc o1) o2
 simpa using this

theorem ints_take2 {Y : World} {g : Nat} {a b : Int} (n : Nat) (ha : I64 a) (hb : I64 b) (hg : Y.heap[g]? = some (.cells #[.int .i64 a, .int .i64 b] 3 (0, 0))) : Ints Y (some ⟨g, 0, none⟩) ([a, b].take n) := by
 have h2 : Ints Y (some ⟨g, 0, none⟩) [a, b] := ints_block hg (fun x hx => by simp at hx; rcases hx with rfl | rfl <;> assumption)
 refine fun k x hk => h2 k x ?_
 rw [List.getElem?_take] at hk
 split at hk
 ·exact hk
 ·cases hk

set_option maxRecDepth 100000 in
theorem ruses_any (x : PI) (w : World) (hx : x.ok w) : Calls Try.prog 70 #[x.v] w fun e w' => GotL (usesP x) w e w' := by
 have HB := hideIt (fun w' (h : Q (bxI w x) w') => (bxI_at h).seven)
 have q := hideIt (bxI_q w x)
 have C32 := hideIt (hx.args.keep (bxI_q w x))
 have CR := hideIt (fun X => rreads_any x.op X)
 have HT := hideIt (fun (Y : World) (g n : Nat) hg => ints_take2 (Y := Y) (g := g) n hx.a hx.b hg)
 clear hx
 unfold usesP
 have hle := rdP_le x.op
 rcases x with ⟨op, ty, d, a, b, im, args, aa, ac⟩
 dsimp only [PI.v, bxI] at *
 by_cases h32 : op = 32
 ·subst h32
  rw [if_pos rfl]
  clear CR hle
  go_enter Try.func70, Try.ntmps70
  go_wp2_with (fail)
  go_ret
  exact ⟨aa, ac, rfl, C32.out, q.out⟩
 ·rw [if_neg h32]
  generalize rdP op = n at *
  clear C32 HB
  obtain rfl | rfl | rfl : n = 0 ∨ n = 1 ∨ n = 2 := by omega
  all_goals
   clear hle
   go_enter Try.func70, Try.ntmps70
   go_wp2_with (first | (go_at_call 80; refine (CR.out _).mono ?_; rintro e y ⟨rfl, rfl⟩) | fail)
   go_ret
   refine ⟨_, _, rfl, HT.out _ _ _ ?_, q.out.trans ((Q.refl _).alloc _)⟩
   exact heap_new2 _ _ _

end Go.Proofs.Ytphknepblchkdaa
