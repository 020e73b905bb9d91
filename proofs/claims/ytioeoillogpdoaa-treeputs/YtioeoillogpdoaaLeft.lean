/-
  Whether a tree is great: a contract over the program; the conditions: the argument is a tree that lies in memory.
-/
import Derived.Test.YtioeoillogpdoaaForest
import Derived.Below
namespace Go.Proofs.Ytioeoillogpdoaa
open Go.RowKit
set_option linter.unusedVariables false

theorem hideIt {q : Prop} (h : q) : Hid q := h
abbrev Q (w w' : World) : Prop := Below w.heap.size w w'
theorem Q.trans {a b c : World} (h : Q a b) (k : Q b c) : Q a c := Below.trans h (k.mono h.size)

theorem cell_box {X : World} (cs : Array Value) (t : TypeId) (j : Nat) : (X.alloc (.cells cs t)).cell? ⟨X.heap.size, j, none⟩ = cs[j]? := by
  have h : (X.alloc (.cells cs t (0, 0))).heap[X.heap.size]? = some (.cells cs t (0, 0)) := heap_alloc_new X _
  unfold World.cell?
  rw [h]
  rfl

/-- The world behind the boxing of a node. -/
abbrev boxed (w : World) (v : NF) (s : Value) : World := w.alloc (.cells (cellsN v s).toArray 26)
theorem boxed_q (w : World) (v : NF) (s : Value) : Q w (boxed w v s) := (Below.refl _ _).alloc (Nat.le_refl _) _
theorem boxed_cell {w w' : World} {v : NF} {s : Value} (h : Q (boxed w v s) w') (j : Nat) (u : Value) (e : (cellsN v s)[j]? = some u) : w'.cell? ⟨w.heap.size, j, none⟩ = some u := by
  have h1 : (boxed w v s).cell? ⟨w.heap.size, j, none⟩ = some u := by
    rw [cell_box]
    simpa using e
  exact (h.cell (p := ⟨w.heap.size, j, none⟩) (by simp)).trans h1

/-- The ten cells of a node. -/
theorem At.ten {w : World} {b o : Nat} {v : NF} {s : Value} (h : At w b o (cellsN v s)) : w.cell? ⟨b, o, none⟩ = some (.int .u8 v.k) ∧ w.cell? ⟨b, o + 1, none⟩ = some (.int .u8 v.op) ∧ w.cell? ⟨b, o + 2, none⟩ = some (.int .u8 v.tk) ∧ w.cell? ⟨b, o + 3, none⟩ = some (.int .u8 v.ti) ∧ w.cell? ⟨b, o + 4, none⟩ = some (.int .i64 v.tn) ∧ w.cell? ⟨b, o + 5, none⟩ = some (.int .i64 v.n) ∧ w.cell? ⟨b, o + 6, none⟩ = some (.int .i64 v.m) ∧ w.cell? ⟨b, o + 7, none⟩ = some (.string v.nm) ∧ w.cell? ⟨b, o + 8, none⟩ = some (.string v.fd) ∧ w.cell? ⟨b, o + 9, none⟩ = some s :=
  ⟨h.cell 0 _ rfl, h.cell 1 _ rfl, h.cell 2 _ rfl, h.cell 3 _ rfl, h.cell 4 _ rfl, h.cell 5 _ rfl, h.cell 6 _ rfl, h.cell 7 _ rfl, h.cell 8 _ rfl, h.cell 9 _ rfl⟩

theorem left_any (N : Nat) : ∀ (f : Fo), f.size < N → ∀ (v : NF) (a : Option Addr) (c : Nat) (most : Int) (w : World), In w a f → sok a f.len c → 0 ≤ most → most ≤ 6000 →
    Calls Try.prog 27 #[nodeV v (.slice a f.len c), .int .i64 most] w fun e w' => (∃ r, e = .returned (.int .i64 r) ∧ -1 ≤ r ∧ r ≤ most ∧ (0 ≤ r → r = most - (f.size + 1)) ∧ (r < 0 → most < f.size + 1)) ∧ Q w w' := by
  induction N with
  | zero => intro f h; omega
  | succ N ih =>
    intro f hf v a c most w hin hs h0 h1
    have HIN := hideIt hin
    have HS := hideIt hs
    have hlen : f.len ≤ 9223372036854775807 := by have := hs.1; have := hs.2.1; unfold maxLen at this; omega
    clear hin hs
    go_enter Try.func27, Try.ntmps27
    go_wp2_with (fail)
    go_loopw [1, 5] (fun m i wr => ∃ (k : Nat) (r : Int), m = .int .i64 r ∧ i = .int .i64 k ∧ k ≤ f.len ∧ -1 ≤ r ∧ r ≤ most - 1 ∧ (0 ≤ r → r = most - 1 - (f.size - (f.drop k).size)) ∧ (r < 0 → most < f.size + 1) ∧ Q (boxed w v (.slice a f.len c)) wr) (fun _ i _ => f.len - (intOf i).toNat)
    case atStart => exact ⟨0, most - 1, rfl, rfl, by omega, by omega, by omega, fun _ => by simp [Fo.drop], fun _ => by omega, Below.refl _ _⟩
    case round =>
      obtain ⟨k, r, rfl, rfl, hk, r1, r2, r3, r4, hq⟩ := hrel
      have HR3 := hideIt r3
      have HR4 := hideIt r4
      have hbx : wr.cell? ⟨w.heap.size, 9, none⟩ = some (.slice a f.len c) := boxed_cell hq 9 _ rfl
      have HQ := hideIt hq
      clear r3 r4 hq
      by_cases hlt : k < f.len
      · by_cases hr : 0 ≤ r
        · obtain ⟨b, o, v', ka, kc, ks, rfl, e, hat, hv', hs', hin'⟩ := HIN.out.elem k hlt
          have hkl : (k : Int) < (f.len : Int) := by omega
          have hat' : At wr b (o + k * 10) (cellsN v' (.slice ka ks.len kc)) := hat.keep (Nat.le_refl _) ((boxed_q w v _).trans HQ.out)
          obtain ⟨c0, c1, c2, c3, c4, c5, c6, c7, c8, c9⟩ := hat'.ten
          clear hat'
          have hsz : (f.drop k).size = ks.size + 1 + (f.drop (k + 1)).size := by rw [e]; rfl
          have hle := f.size_drop k
          have HE := hideIt hsz
          have HC := hideIt (ih ks (by omega) v' ka kc r wr (hin'.keep (Nat.le_refl _) ((boxed_q w v _).trans HQ.out)) hs' hr (by omega))
          clear e hat hv' hs' hin' ih hsz
          go_wp2_with (go_at_call 27; refine HC.out.mono ?_; rintro e x ⟨⟨r', rfl, p1, p2, p3, p4⟩, q1⟩; have HP := hideIt (And.intro p3 (And.intro p4 q1)); clear p3 p4 q1)
          go_roundw
          case rel =>
            refine ⟨k + 1, r', rfl, by go_num, by omega, p1, by omega, ?_, ?_, HQ.out.trans HP.out.2.2⟩
            · have := HP.out.1; have := HR3.out; have := HE.out; omega
            · have := HP.out.2.1; have := HR3.out; have := HE.out; omega
          case measure => simp [intOf]; omega
        · have hr' : decide (0 ≤ r) = false := by simp; omega
          go_wp2_with (fail)
          go_ret
          refine ⟨⟨r, rfl, r1, by omega, by omega, fun _ => HR4.out (by omega)⟩, (boxed_q w v _).trans HQ.out⟩
      · have ek : k = f.len := by omega
        go_wp2_with (fail)
        go_ret
        have := HR3.out
        rw [ek, Fo.drop_all] at this
        refine ⟨⟨r, rfl, r1, by omega, fun h => ?_, fun h => HR4.out h⟩, (boxed_q w v _).trans HQ.out⟩
        have := this h
        simp [Fo.size] at this
        omega
end Go.Proofs.Ytioeoillogpdoaa
