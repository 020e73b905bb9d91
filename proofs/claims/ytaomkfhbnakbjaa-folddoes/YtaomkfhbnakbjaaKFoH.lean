/-
  Run of fold: contracts over the program; the conditions: the code lies in memory.
-/
import Derived.Test.YtaomkfhbnakbjaaKFoF
import Derived.Test.YtaomkfhbnakbjaaKFoG
namespace Go.Proofs.Ytaomkfhbnakbjaa.Fo
open Go.RowKit
set_option linter.unusedVariables false

/-- The first i of a list changed. -/
def upTo {α : Type} (φ : α → α) (l : List α) (i : Nat) : List α := (l.take i).map φ ++ l.drop i
theorem upTo_zero {α : Type} (φ : α → α) (l : List α) : upTo φ l 0 = l := by simp [upTo]
theorem upTo_all {α : Type} (φ : α → α) (l : List α) : upTo φ l l.length = l.map φ := by simp [upTo]
theorem upTo_len {α : Type} (φ : α → α) (l : List α) {i : Nat} (h : i ≤ l.length) : (upTo φ l i).length = l.length := by simp [upTo]; omega
theorem upTo_at {α : Type} (φ : α → α) {l : List α} {i : Nat} {x : α} (h : l[i]? = some x) : (upTo φ l i)[i]? = some x := mid_get (by have := (List.getElem?_eq_some_iff.1 h).1; simp; omega) h
theorem upTo_set {α : Type} (φ : α → α) {l : List α} {i : Nat} {x : α} (h : l[i]? = some x) : (upTo φ l i).set i (φ x) = upTo φ l (i + 1) := by
  have hl := (List.getElem?_eq_some_iff.1 h).1
  unfold upTo
  rw [mid_set (by simp; omega) h, List.take_add_one, h]
  simp
theorem set_same {α : Type} {l : List α} {i : Nat} {x : α} (h : l[i]? = some x) : l.set i x = l := by
  obtain ⟨hl, e⟩ := List.getElem?_eq_some_iff.1 h
  rw [← e]; exact List.set_getElem_self hl

/-- The code while it is folded. -/
def stC (fault : Bool) (a : PC) (i : Nat) : PC := PC.wf a (upTo (foldF fault) a.fns i)
def stF (fault : Bool) (a : PC) (i : Nat) (f : PF) (j : Nat) : PC := PC.wf a ((upTo (foldF fault) a.fns i).set i (PF.wp f (upTo (foldP fault) f.parts j)))
theorem stF_zero {fault : Bool} {a : PC} {i : Nat} {f : PF} (h : a.fns[i]? = some f) : stF fault a i f 0 = stC fault a i := by
  unfold stF stC
  rw [upTo_zero, set_same (upTo_at _ h)]
theorem stF_all {fault : Bool} {a : PC} {i : Nat} {f : PF} (h : a.fns[i]? = some f) : stF fault a i f f.parts.length = stC fault a (i + 1) := by
  unfold stF stC
  rw [upTo_all, ← upTo_set (foldF fault) h]
  rfl
theorem stF_get {fault : Bool} {a : PC} {i : Nat} {f : PF} (h : a.fns[i]? = some f) (j : Nat) : (stF fault a i f j).fns[i]? = some (PF.wp f (upTo (foldP fault) f.parts j)) := by
  unfold stF
  have hl := (List.getElem?_eq_some_iff.1 h).1
  show ((upTo (foldF fault) a.fns i).set i _)[i]? = _
  rw [List.getElem?_set_self (by rw [upTo_len _ _ (by omega)]; exact hl)]
theorem stF_step {fault : Bool} {a : PC} {i : Nat} {f : PF} (h : a.fns[i]? = some f) {j : Nat} {p : PP} (hp : f.parts[j]? = some p) :
    PC.wf (stF fault a i f j) ((stF fault a i f j).fns.set i (PF.wp (PF.wp f (upTo (foldP fault) f.parts j)) ((PF.wp f (upTo (foldP fault) f.parts j)).parts.set j (PP.wi p (foldL fault (fun _ => none) p.ins))))) = stF fault a i f (j + 1) := by
  unfold stF
  simp only [PC.wf, PF.wp, List.set_set]
  rw [show PP.wi p (foldL fault (fun _ => none) p.ins) = foldP fault p from rfl, upTo_set _ hp]

theorem CodeL.q {lo : Nat} {W W' : World} {A : PC} (h : CodeL lo W A) (hlo : 0 < lo) (q : Q W W') : CodeL lo W' A := h.frx hlo (FrX.of_q q)
theorem fs_frx {w W z : World} {g M : Nat} (q : Q w W) (h : Fs (fun b => b = g ∨ b = M) W z) (hM : w.heap.size ≤ M) : FrX g w z := by
  have := ((Fs.of_q (S := fun b => b = g ∨ b = M) q).trans h).less (T := fun b => b = g) (fun k hk => hk.elim Or.inl (fun e => Or.inr (by omega)))
  exact ⟨this.os, this.tape, this.output, this.size, fun k hk hn => this.block k hk hn⟩

theorem fold_nil (w : World) (a : Option Addr) (cp : Nat) (kb : Nat) : Calls Try.prog 38 #[.pointer (some ⟨kb, 0, none⟩), .slice a 0 cp] w fun e w' => e = .returned (.tuple #[]) ∧ w' = w := by
  go_enter Try.func38, Try.ntmps38
  go_wp2_with (fail)
  refine wp_loop_rounds 1 ?_
  rw [rounds_succ]
  go_wp2
  go_end0
  exact ⟨rfl, rfl⟩

abbrev zeroC : Array Value := #[.slice none 0 0, .slice none 0 0, .slice none 0 0]
abbrev bxZ (w : World) : World := w.alloc (.cells zeroC 26)
theorem bz_out (w : World) (c : PC) : (bxZ (bxC w c)).heap[w.heap.size + 1]? = some (.cells zeroC 26 (0, 0)) := by
  have := heap_alloc_new (bxC w c) (.cells zeroC 26)
  simpa using this
theorem bz_code (w : World) (c : PC) : (bxZ (bxC w c)).heap[w.heap.size]? = some (.cells #[.slice c.ga c.gl.length c.gc, .slice c.na c.ini.length c.nc, .slice c.fa c.fns.length c.fc] 26 (0, 0)) := by
  rw [Below.heap_alloc _ _ _ (by simp)]
  exact heap_alloc_new w _

set_option maxRecDepth 100000 in
theorem run_bad (w : World) (c : PC) (fault : Bool) (hcok : c.ok w) (hv : ¬ validP c = 0) : Calls Try.prog 15 #[c.v, .bool fault] w fun e w' => e = .returned (.tuple #[.agg zeroC, .int .i64 (validP c)]) ∧ Q w w' := by
  have VA := hideIt (valid_any (bxZ (bxC w c)) c (hcok.keep (((Q.refl w).alloc _).alloc _)))
  have B1 := hideIt (bz_out w c)
  have d2 : (validP c != 0) = true := by simpa using hv
  generalize validP c = v at *
  clear hcok hv
  go_enter Try.func15, Try.ntmps15
  go_wp2_with (first | (go_at_call 30; refine VA.out.mono ?_; rintro e x ⟨rfl, q⟩; have HQ := hideIt q; have b1 := (q.block (w.heap.size + 1) (by simp)).trans B1.out; have v0 := cell_of_block b1 0; have v1 := cell_of_block b1 1; have v2 := cell_of_block b1 2; have f0 := fun j : Nat => free_of_block b1 j; clear q b1) | fail)
  exact bodyPost_ret (v := .tuple #[.agg zeroC, .int .i64 v]) (by simp [results, Try.results15, go_sem, v0, v1, v2]) rfl ⟨rfl, by
    have hq := (((Q.refl w).alloc _).alloc _).trans HQ.out
    have hle : w.heap.size ≤ w.heap.size + 1 := Nat.le_succ _
    exact ((hq.set hle _).set hle _).set hle _⟩

end Go.Proofs.Ytaomkfhbnakbjaa.Fo
