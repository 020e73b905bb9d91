/-
  When the program tells two trees for the same: contracts over the program; the conditions: the arguments are trees that lie in memory.
-/
import Derived.Test.YtioeoillogpdoaaSameB1
import Derived.Test.YtioeoillogpdoaaSameB2
import Derived.Test.YtioeoillogpdoaaSameB3
import Derived.Test.YtioeoillogpdoaaSameC
namespace Go.Proofs.Ytioeoillogpdoaa
open Go.RowKit
set_option linter.unusedVariables false

theorem bne_f {a b : Int} (h : a = b) : (a != b) = false := by simp [h]
theorem bne_t {a b : Int} (h : ¬ a = b) : (a != b) = true := by simp [h]
theorem beq_t {a b : Int} (h : a = b) : (a == b) = true := by simp [h]
theorem beq_f {a b : Int} (h : ¬ a = b) : (a == b) = false := by simp [h]
theorem beqs_t {a b : List UInt8} (h : a = b) : (a == b) = true := by simp [h]
theorem beqs_f {a b : List UInt8} (h : ¬ a = b) : (a == b) = false := by simp [h]

theorem same_any (N : Nat) : ∀ (f : Fo), f.size < N → ∀ (g : Fo) (x y : NF) (b o b' o' : Nat) (a a' : Option Addr) (c c' : Nat) (w : World), At w b o (cellsN x (.slice a f.len c)) → At w b' o' (cellsN y (.slice a' g.len c')) → In w a f → In w a' g → sok a f.len c → sok a' g.len c' →
    Calls Try.prog 46 #[.pointer (some ⟨b, o, none⟩), .pointer (some ⟨b', o', none⟩)] w fun e w' => e = .returned (.bool (eqN x y && f.same g)) ∧ ∃ n, w' = w.drewN n := by
  induction N with
  | zero => intro f h; omega
  | succ N ih =>
    intro f hf g x y b o b' o' a a' c c' w hx hy hin hin' hs hs'
    by_cases h0 : x.k = y.k
    · by_cases h1 : x.op = y.op
      · by_cases h2 : x.tk = y.tk
        · by_cases h3 : x.ti = y.ti
          · by_cases h4 : x.tn = y.tn
            · by_cases h5 : x.n = y.n
              · by_cases h6 : x.m = y.m
                · by_cases h7 : x.nm.toList = y.nm.toList
                  · by_cases h8 : x.fd.toList = y.fd.toList
                    · have e : eqN x y = true := by unfold eqN; simp [h0, h1, h2, h3, h4, h5, h6, h7, h8]
                      rw [e, Bool.true_and]
                      exact same_yes x y b o b' o' f g a a' c c' w hx hy hin hin' hs hs' (fun ks hk ls v1 v2 b1 o1 b2 o2 ka la kc lc W q1 q2 q3 q4 q5 q6 => ih ks (by omega) ls v1 v2 b1 o1 b2 o2 ka la kc lc W q1 q2 q3 q4 q5 q6) (bne_f h0) (bne_f h1) (beq_t h2) (beq_t h3) (beq_t h4) (bne_f h5) (bne_f h6) (beqs_t h7) (beqs_t h8)
                    · have e : eqN x y = false := by unfold eqN; simp [h8]
                      rw [e, Bool.false_and]
                      exact same_no8 x y b o b' o' _ _ w hx hy (bne_f h0) (bne_f h1) (beq_t h2) (beq_t h3) (beq_t h4) (bne_f h5) (bne_f h6) (beqs_t h7) (beqs_f h8)
                  · have e : eqN x y = false := by unfold eqN; simp [h7]
                    rw [e, Bool.false_and]
                    exact same_no7 x y b o b' o' _ _ w hx hy (bne_f h0) (bne_f h1) (beq_t h2) (beq_t h3) (beq_t h4) (bne_f h5) (bne_f h6) (beqs_f h7)
                · have e : eqN x y = false := by unfold eqN; simp [h6]
                  rw [e, Bool.false_and]
                  exact same_no6 x y b o b' o' _ _ w hx hy (bne_f h0) (bne_f h1) (beq_t h2) (beq_t h3) (beq_t h4) (bne_f h5) (bne_t h6)
              · have e : eqN x y = false := by unfold eqN; simp [h5]
                rw [e, Bool.false_and]
                exact same_no5 x y b o b' o' _ _ w hx hy (bne_f h0) (bne_f h1) (beq_t h2) (beq_t h3) (beq_t h4) (bne_t h5)
            · have e : eqN x y = false := by unfold eqN; simp [h4]
              rw [e, Bool.false_and]
              exact same_no4 x y b o b' o' _ _ w hx hy (bne_f h0) (bne_f h1) (beq_t h2) (beq_t h3) (beq_f h4)
          · have e : eqN x y = false := by unfold eqN; simp [h3]
            rw [e, Bool.false_and]
            exact same_no3 x y b o b' o' _ _ w hx hy (bne_f h0) (bne_f h1) (beq_t h2) (beq_f h3)
        · have e : eqN x y = false := by unfold eqN; simp [h2]
          rw [e, Bool.false_and]
          exact same_no2 x y b o b' o' _ _ w hx hy (bne_f h0) (bne_f h1) (beq_f h2)
      · have e : eqN x y = false := by unfold eqN; simp [h1]
        rw [e, Bool.false_and]
        exact same_no1 x y b o b' o' _ _ w hx hy (bne_f h0) (bne_t h1)
    · have e : eqN x y = false := by unfold eqN; simp [h0]
      rw [e, Bool.false_and]
      exact same_no0 x y b o b' o' _ _ w hx hy (bne_t h0)

theorem at_boxed2_a (w : World) (x y : NF) (s t : Value) : At (boxed2 w x s y t) w.heap.size 0 (cellsN x s) := (at_boxed w x s).keep (Nat.le_refl _) (boxed_q _ _ _)
theorem at_boxed2_b (w : World) (x y : NF) (s t : Value) : At (boxed2 w x s y t) (w.heap.size + 1) 0 (cellsN y t) := by
  have := at_boxed (boxed w x s) y t
  simpa using this

theorem Same_any (f g : Fo) (x y : NF) (a a' : Option Addr) (c c' : Nat) (w : World) (hin : In w a f) (hin' : In w a' g) (hs : sok a f.len c) (hs' : sok a' g.len c') :
    Calls Try.prog 26 #[nodeV x (.slice a f.len c), nodeV y (.slice a' g.len c')] w fun e w' => e = .returned (.bool (eqN x y && f.same g)) ∧ Q w w' := by
  have HC := hideIt (same_any (f.size + 1) f (by omega) g x y w.heap.size 0 (w.heap.size + 1) 0 a a' c c' (boxed2 w x (.slice a f.len c) y (.slice a' g.len c')) (at_boxed2_a _ _ _ _ _) (at_boxed2_b _ _ _ _ _) (hin.keep (Nat.le_refl _) (boxed2_q _ _ _ _ _)) (hin'.keep (Nat.le_refl _) (boxed2_q _ _ _ _ _)) hs hs')
  clear hin hin' hs hs'
  generalize (eqN x y && f.same g) = bb at *
  go_enter Try.func26, Try.ntmps26
  go_wp2_with (go_at_call 46; refine HC.out.mono ?_; rintro e z ⟨rfl, n, rfl⟩)
  go_ret
  exact ⟨rfl, below_drewN (boxed2_q _ _ _ _ _) _⟩
end Go.Proofs.Ytioeoillogpdoaa
