/-
  For every tree and number: a node put back in its own place leaves the tree as it is; left out, there are as many nodes fewer as stood in it; the tree at hand stays as it was (the law TreeBack returns true); no conditions but the row's own (the tree does not lead back into itself).
-/
import Derived.Test.YtioeoillogpdoaaRows
import Derived.WalkKit
import Derived.ProofKit
import Derived.OpenShut
import Derived.ShutString
import Derived.ChangeOld
import Derived.Below
import Derived.Test.YtioeoillogpdoaaPutsJ
import Derived.Deep.RegionHeld3
import Derived.Deep.RegionWith
namespace Go.Proofs.Ytioeoillogpdoaa.treeBack
open Go.ChangeShapes Go.WideShapes Go.ChangeAt Go.RowKit
set_option linter.unusedVariables false

theorem own : ownKnob Try.prog.godebug = none := by kernel_rfl
theorem laidOut : laidOutB Try.prog = true := by kernel_rfl

theorem at_good (f : Fo) (v : NF) (a : Option Addr) (c i : Nat) (w : World) (hv : v.ok) (hin : In w a f) (hs : sok a f.len c) (hff : f.fine = true) (i1 : 1 ≤ i) (i2 : i ≤ f.size) :
    Calls Try.prog 18 #[nodeV v (.slice a f.len c), .int .i64 (i : Int)] w fun e w' => ∃ (v' : NF) (k : Fo) (a' : Option Addr) (c' : Nat) (k' : Fo), (∃ ka kc, (Fo.cons v a c f .nil).flat.get i = some (v', ka, kc, k)) ∧ e = .returned (.tuple #[nodeV v' (.slice a' k'.len c'), .int .i64 0]) ∧ Cp k k' ∧ sok a' k'.len c' ∧ In w' a' k' ∧ Q w w' := by
  have hz := fine_size hff
  refine (at_any f v a c (i : Int) w hv hin hs (by omega) ⟨by omega, by omega⟩).mono ?_
  rintro e w' ⟨hq, h | h | h⟩
  · rw [hff] at h
    cases h.1
  · obtain ⟨_, h, _⟩ := h
    omega
  · obtain ⟨j, v', ka, kc, k, a', c', k', _, e1, e2, rfl, e4, e5, e6⟩ := h
    have : j = i := by omega
    subst this
    have hl := e4.len
    exact ⟨v', k, a', c', k', ⟨ka, kc, e2⟩, by rw [hl], e4, by rw [hl]; exact e5, e6, hq⟩
theorem in_one {w : World} {N : Nat} {v' : NF} {a' : Option Addr} {c' : Nat} {k' : Fo} (hc : At w N 0 (cellsN v' (.slice a' k'.len c'))) (hv : v'.ok) (hs : sok a' k'.len c') (hin : In w a' k') : In w (some ⟨N, 0, none⟩) (.cons v' a' c' k' .nil) :=
  ⟨N, 0, rfl, hc, hv, hs, hin, trivial⟩

set_option maxRecDepth 100000 in
set_option maxHeartbeats 4000000 in
theorem walk_short (f : Fo) (v : NF) (a : Option Addr) (c : Nat) (u : Int) (w : World) (hv : v.ok) (hin : In w a f) (hs : sok a f.len c) (hno : f.fine = false ∨ f.size = 0) :
    Calls Try.prog 7 #[nodeV v (.slice a f.len c), .int .u16 u] w fun e w' => e = .returned (.bool true) ∧ Below w.heap.size w w' := by
  have hin' : ∀ X, Q (boxed w v (.slice a f.len c)) X → In X a f := fun X hX => hin.keep (Nat.le_refl _) ((boxed_q _ _ _).trans hX)
  have HG := hideIt (great_any f v a c (boxed w v (.slice a f.len c)) (hin' _ (Below.refl _ _)) hs)
  by_cases hz : 6000 < f.size + 1
  · have hd : decide (6000 < f.size + 1) = true := decide_eq_true hz
    rw [hd] at HG
    clear hd hin hin' hs hv hz
    go_enter Try.func7, Try.ntmps7
    go_wp2_with (first | (go_at_call 8; refine HG.out.mono ?_; rintro e x ⟨rfl, q1⟩) | (go_at_call 9; refine (awake_any _).mono ?_; rintro e y ⟨rfl, q2⟩) | fail)
    go_ret
    exact ⟨rfl, (boxed_q _ _ _).trans (q1.trans q2)⟩
  · have hd : decide (6000 < f.size + 1) = false := decide_eq_false hz
    rw [hd] at HG
    have C15 := hideIt (fun (X : World) (hX : Q (boxed w v (.slice a f.len c)) X) => rFine_any f v a c X (hin' X hX) hs)
    have C11 := hideIt (fun (X : World) (hX : Q (boxed w v (.slice a f.len c)) X) => rsize_any (f.size + 1) f (by omega) v a c X (hin' X hX) hs)
    cases hff : f.fine with
    | false =>
      have HFF := hideIt hff
      clear hd hin hin' hs hv hz C11 hff hno
      go_enter Try.func7, Try.ntmps7
      go_wp2_with (first
        | (go_at_call 8; refine HG.out.mono ?_; rintro e x1 ⟨rfl, q1⟩; have Q1 := hideIt q1; clear q1)
        | (go_at_call 9; refine (awake_any _).mono ?_; rintro e x4 ⟨rfl, q4⟩; have Q4 := hideIt (Q3.out.trans q4); clear q4)
        | (go_at_call 9; refine (awake_any _).mono ?_; rintro e x2 ⟨rfl, q2⟩; have Q2 := hideIt (Q1.out.trans q2); obtain ⟨c0, c1, c2, c3, c4, c5, c6, c7, c8, c9⟩ := boxed_ten Q2.out; clear q2)
        | (go_at_call 15; refine (C15.out _ Q2.out).mono ?_; rw [HFF.out]; rintro e x3 ⟨rfl, q3⟩; have Q3 := hideIt (Q2.out.trans q3); clear q3)
        | fail)
      go_ret
      exact ⟨rfl, (boxed_q _ _ _).trans Q4.out⟩
    | true =>
      have h0 : f.size = 0 := by
        rcases hno with h | h
        · rw [hff] at h; cases h
        · exact h
      have HFF := hideIt hff
      have hm : Hid (((min (f.size + 1) 4001 : Nat) : Int) = 1) := by show _ = _; omega
      clear hd hin hin' hs hv hz hff hno h0
      go_enter Try.func7, Try.ntmps7
      go_wp2_with (first
        | (go_at_call 8; refine HG.out.mono ?_; rintro e x1 ⟨rfl, q1⟩; have Q1 := hideIt q1; clear q1)
        | (go_at_call 9; refine (awake_any _).mono ?_; rintro e x2 ⟨rfl, q2⟩; have Q2 := hideIt (Q1.out.trans q2); obtain ⟨c0, c1, c2, c3, c4, c5, c6, c7, c8, c9⟩ := boxed_ten Q2.out; clear q2)
        | (go_at_call 15; refine (C15.out _ Q2.out).mono ?_; rw [HFF.out]; rintro e x3 ⟨rfl, q3⟩; have Q3 := hideIt (Q2.out.trans q3); (try clear c0 c1 c2 c3 c4 c5 c6 c7 c8 c9); obtain ⟨c0, c1, c2, c3, c4, c5, c6, c7, c8, c9⟩ := boxed_ten Q3.out; clear q3)
        | (go_at_call 11; refine (C11.out _ Q3.out).mono ?_; rw [hm.out]; rintro e x4 ⟨rfl, q4⟩; have Q4 := hideIt (Q3.out.trans q4); clear q4)
        | fail)
      go_ret
      exact ⟨rfl, (boxed_q _ _ _).trans Q4.out⟩

theorem at_box2 (x : World) (v : NF) (s : Value) : At (boxed (boxed x v s) v s) (x.heap.size + 1) 0 (cellsN v s) := fun j hj => by
  have h := heap_alloc_new (boxed x v s) (.cells (cellsN v s).toArray 26 (0, 0))
  have e : (boxed x v s).heap.size = x.heap.size + 1 := by simp
  rw [e] at h
  rw [show 0 + j = j by omega, cell_of_block h]
  simp

theorem put_back {x6 : World} (f : Fo) (v : NF) (a : Option Addr) (c i : Nat) {v' : NF} {k k' : Fo} {am : Option Addr} {cm : Nat} (hv : v.ok) (hin : In (boxed (boxed x6 v' (.slice am k'.len cm)) v' (.slice am k'.len cm)) a f) (hs : sok a f.len c) (hff : f.fine = true) (i1 : 1 ≤ i) (i2 : i ≤ f.size)
    (d1 : v'.ok) (d2 : k.fine = true) (d4 : ∀ k'' a'' c'', Cp k k'' → Cp f (putS (.cons v' a'' c'' k'' .nil) ((i : Int) - 1) f)) (t2 : Cp k k') (t3 : sok am k'.len cm) (t4 : In x6 am k') :
    Calls Try.prog 23 #[nodeV v (.slice a f.len c), .int .i64 (i : Int), .slice (some ⟨x6.heap.size + 1, 0, none⟩) 1 1] (boxed (boxed x6 v' (.slice am k'.len cm)) v' (.slice am k'.len cm)) fun e w' => ∃ a' c' f', e = .returned (.tuple #[nodeV v (.slice a' f'.len c'), .int .i64 0]) ∧ Cp f' f ∧ sok a' f'.len c' ∧ In w' a' f' ∧ Q (boxed (boxed x6 v' (.slice am k'.len cm)) v' (.slice am k'.len cm)) w' := by
  have hk := fine_size d2
  have h := put_good f v a c (i : Int) (.cons v' am cm k' .nil) (some ⟨x6.heap.size + 1, 0, none⟩) 1 (boxed (boxed x6 v' (.slice am k'.len cm)) v' (.slice am k'.len cm)) hv hin hs (in_one (at_box2 x6 v' _) d1 t3 (t4.keep (Nat.le_refl _) ((boxed_q _ _ _).trans (boxed_q _ _ _)))) ⟨Nat.le_refl _, by unfold maxLen; omega, fun h => by cases h⟩ hff (by have := t2.size; simp only [Fo.size]; omega) (by simp only [Fo.eachFine, t2.fine, d2]; rfl) (by omega) (by omega) (by rw [(d4 k' am cm t2).fine]; exact hff)
  refine h.mono ?_
  rintro e w' ⟨a', c', f', rfl, p1, p2, p3, p4⟩
  exact ⟨a', c', f', rfl, ((d4 k' am cm t2).trans p1).symm, p2, p3, p4⟩

theorem join5 {q : Prop} {p0 : Prop} {p1 : Prop} {p2 : Prop} {p3 : Prop} {p4 : Prop} {p5 : Prop} {p6 : Prop} {p7 : Prop} {p8 : Prop} {p9 : Prop} {p10 : Prop} {p11 : Prop} {p12 : Prop} {p13 : Prop} {p14 : Prop} {p15 : Prop} {p16 : Prop} {p17 : Prop} {p18 : Prop} {p19 : Prop} {p20 : Prop} {p21 : Prop} {p22 : Prop} {p23 : Prop} {p24 : Prop} {p25 : Prop} {p26 : Prop} {p27 : Prop} {p28 : Prop} {p29 : Prop} {p30 : Prop} {p31 : Prop} {p32 : Prop} {p33 : Prop} {p34 : Prop} {p35 : Prop} {p36 : Prop} {p37 : Prop} {p38 : Prop} {p39 : Prop} {p40 : Prop} {p41 : Prop} {p42 : Prop} {p43 : Prop} {p44 : Prop} {p45 : Prop} {p46 : Prop} {p47 : Prop} {p48 : Prop} {p49 : Prop} (h : q) (h0 : p0 ∧ p1 ∧ p2 ∧ p3 ∧ p4 ∧ p5 ∧ p6 ∧ p7 ∧ p8 ∧ p9) (h1 : p10 ∧ p11 ∧ p12 ∧ p13 ∧ p14 ∧ p15 ∧ p16 ∧ p17 ∧ p18 ∧ p19) (h2 : p20 ∧ p21 ∧ p22 ∧ p23 ∧ p24 ∧ p25 ∧ p26 ∧ p27 ∧ p28 ∧ p29) (h3 : p30 ∧ p31 ∧ p32 ∧ p33 ∧ p34 ∧ p35 ∧ p36 ∧ p37 ∧ p38 ∧ p39) (h4 : p40 ∧ p41 ∧ p42 ∧ p43 ∧ p44 ∧ p45 ∧ p46 ∧ p47 ∧ p48 ∧ p49) : q ∧ p0 ∧ p1 ∧ p2 ∧ p3 ∧ p4 ∧ p5 ∧ p6 ∧ p7 ∧ p8 ∧ p9 ∧ p10 ∧ p11 ∧ p12 ∧ p13 ∧ p14 ∧ p15 ∧ p16 ∧ p17 ∧ p18 ∧ p19 ∧ p20 ∧ p21 ∧ p22 ∧ p23 ∧ p24 ∧ p25 ∧ p26 ∧ p27 ∧ p28 ∧ p29 ∧ p30 ∧ p31 ∧ p32 ∧ p33 ∧ p34 ∧ p35 ∧ p36 ∧ p37 ∧ p38 ∧ p39 ∧ p40 ∧ p41 ∧ p42 ∧ p43 ∧ p44 ∧ p45 ∧ p46 ∧ p47 ∧ p48 ∧ p49 := by
  obtain ⟨a0, a1, a2, a3, a4, a5, a6, a7, a8, a9⟩ := h0
  obtain ⟨b0, b1, b2, b3, b4, b5, b6, b7, b8, b9⟩ := h1
  obtain ⟨c0, c1, c2, c3, c4, c5, c6, c7, c8, c9⟩ := h2
  obtain ⟨d0, d1, d2, d3, d4, d5, d6, d7, d8, d9⟩ := h3
  exact ⟨h, a0, a1, a2, a3, a4, a5, a6, a7, a8, a9, b0, b1, b2, b3, b4, b5, b6, b7, b8, b9, c0, c1, c2, c3, c4, c5, c6, c7, c8, c9, d0, d1, d2, d3, d4, d5, d6, d7, d8, d9, h4⟩

set_option maxRecDepth 100000 in
set_option maxHeartbeats 16000000 in
theorem walk_long (f : Fo) (v : NF) (a : Option Addr) (c : Nat) (u : Int) (w : World) (hv : v.ok) (hin : In w a f) (hs : sok a f.len c) (hff : f.fine = true) (hf1 : 1 ≤ f.size) (hu : 0 ≤ u) (hu2 : u ≤ 65535) :
    Calls Try.prog 7 #[nodeV v (.slice a f.len c), .int .u16 u] w fun e w' => e = .returned (.bool true) ∧ Below w.heap.size w w' := by
  have hz := fine_size hff
  have hin' : ∀ X, Q (boxed w v (.slice a f.len c)) X → In X a f := fun X hX => hin.keep (Nat.le_refl _) ((boxed_q _ _ _).trans hX)
  have HG := hideIt (great_any f v a c (boxed w v (.slice a f.len c)) (hin' _ (Below.refl _ _)) hs)
  have hd : decide (6000 < f.size + 1) = false := decide_eq_false (by omega)
  rw [hd] at HG
  obtain ⟨i, hi⟩ : ∃ i : Nat, 1 + u % (f.size : Int) = (i : Int) := ⟨(1 + u % (f.size : Int)).toNat, by have := Int.emod_nonneg u (show (f.size : Int) ≠ 0 by omega); omega⟩
  have i1 : 1 ≤ i := by have := Int.emod_nonneg u (show (f.size : Int) ≠ 0 by omega); omega
  have i2 : i ≤ f.size := by have := Int.emod_lt_of_pos u (show (0 : Int) < (f.size : Int) by omega); omega
  have fpos : (0 : Int) < (f.size : Int) := by omega
  have fle : (f.size : Int) ≤ 4000 := by omega
  have C15 := hideIt (fun (X : World) (hX : Q (boxed w v (.slice a f.len c)) X) => rFine_any f v a c X (hin' X hX) hs)
  have C11 := hideIt (fun (X : World) (hX : Q (boxed w v (.slice a f.len c)) X) => rsize_any (f.size + 1) f (by omega) v a c X (hin' X hX) hs)
  have hm : Hid (((min (f.size + 1) 4001 : Nat) : Int) = (f.size : Int) + 1) := by show _ = _; omega
  have C25 := hideIt (fun (X : World) (hX : Q (boxed w v (.slice a f.len c)) X) => copy_any f v a c X (hin' X hX) hs (by omega))
  have C18 := hideIt (fun (X : World) (hX : Q (boxed w v (.slice a f.len c)) X) => at_good f v a c i X hv (hin' X hX) hs hff i1 i2)
  have BA := hideIt (fun (v' : NF) (k : Fo) (h : ∃ ka kc, (Fo.cons v a c f .nil).flat.get i = some (v', ka, kc, k)) => (let ⟨ka, kc, h'⟩ := h; back_at hin hff i1 h'))
  have C23 := hideIt (fun (X : World) (hX : Q (boxed w v (.slice a f.len c)) X) (F : Fo) (la : Option Addr) (lc : Nat) (hinF : In X la F) (hsF : sok la F.len lc) (hFz : F.size ≤ 7000) (hFf : F.eachFine = true) (hT : (putS F ((i : Int) - 1) f).fine = true) => put_good f v a c (i : Int) F la lc X hv (hin' X hX) hs hinF hsF hff hFz hFf (by omega) (by omega) hT)
  have C16 := hideIt (fun (X : World) (hX : Q (boxed w v (.slice a f.len c)) X) => weight_any f v a c X hv (hin' X hX) hs (by omega))
  have C16' := hideIt (fun (X : World) (g : Fo) (a' : Option Addr) (c' : Nat) (h1 : In X a' g) (h2 : sok a' g.len c') (h3 : g.fine = true) => weight_any g v a' c' X hv h1 h2 (by have := fine_size h3; omega))
  have C21 := hideIt (fun (X : World) (hX : Q (boxed w v (.slice a f.len c)) X) (g : Fo) (a' : Option Addr) (c' : Nat) (h1 : In X a' g) (h2 : sok a' g.len c') (hc : Cp g f) => (show Calls Try.prog 21 #[nodeV v (.slice a' g.len c'), nodeV v (.slice a f.len c)] X fun e w' => e = .returned (.bool true) ∧ Q X w' by
    have := rsame_any (g.size + 1) g (by omega) f v v a' a c' c X h1 h2 (hin' X hX) hs
    rw [eqN_refl, hc.same] at this
    exact this))
  have HFF := hideIt hff
  have HV := hideIt hv
  have HIN := hideIt hin'
  have HSO := hideIt hs
  have HF1 := hideIt hf1
  clear hd hin hin' hs hv hz hff hf1
  go_enter Try.func7, Try.ntmps7
  go_wp2_with (first
    | (go_at_call 8; refine HG.out.mono ?_; rintro e x1 ⟨rfl, q1⟩; have Q1 := hideIt q1; clear q1)
    | (go_at_call 9; refine (awake_any _).mono ?_; rintro e x2 ⟨rfl, q2⟩; have Q2 := hideIt (Q1.out.trans q2); obtain ⟨nx0, nx1, nx2, nx3, nx4, nx5, nx6, nx7, nx8, nx9⟩ := boxed_ten Q2.out; clear q2)
    | (go_at_call 15; refine (C15.out _ Q2.out).mono ?_; rw [HFF.out]; rintro e x3 ⟨rfl, q3⟩; have Q3 := hideIt (Q2.out.trans q3); (try clear nx0 nx1 nx2 nx3 nx4 nx5 nx6 nx7 nx8 nx9); obtain ⟨nx0, nx1, nx2, nx3, nx4, nx5, nx6, nx7, nx8, nx9⟩ := boxed_ten Q3.out; clear q3)
    | (go_at_call 11; refine (C11.out _ Q3.out).mono ?_; rw [hm.out]; rintro e x4 ⟨rfl, q4⟩; have Q4 := hideIt (Q3.out.trans q4); (try clear nx0 nx1 nx2 nx3 nx4 nx5 nx6 nx7 nx8 nx9); obtain ⟨nx0, nx1, nx2, nx3, nx4, nx5, nx6, nx7, nx8, nx9⟩ := boxed_ten Q4.out; clear q4)
    | (go_at_call 25; refine (C25.out _ Q4.out).mono ?_; rintro e x5 ⟨a5, cw5, f5, rfl, t1, t2, t3, t4, t5, t6⟩; have HW := hideIt (And.intro t1 (And.intro (show sok a5 f5.len cw5 by rw [t1.len]; exact t2) t3)); have hl5 := hideIt t1.len; have Q5 := hideIt (Q4.out.trans (t6.trans (boxed_q x5 v (.slice a5 f.len cw5)))); have A18 := hideIt (C18.out _ Q5.out); (try clear nx0 nx1 nx2 nx3 nx4 nx5 nx6 nx7 nx8 nx9); have tn : (x5.alloc (.cells #[.int .u8 v.k, .int .u8 v.op, .int .u8 v.tk, .int .u8 v.ti, .int .i64 v.tn, .int .i64 v.n, .int .i64 v.m, .string v.nm, .string v.fd, .slice a5 f.len cw5] 26)).cell? ⟨w.heap.size, 0, none⟩ = some (.int .u8 v.k) ∧ (x5.alloc (.cells #[.int .u8 v.k, .int .u8 v.op, .int .u8 v.tk, .int .u8 v.ti, .int .i64 v.tn, .int .i64 v.n, .int .i64 v.m, .string v.nm, .string v.fd, .slice a5 f.len cw5] 26)).cell? ⟨w.heap.size, 1, none⟩ = some (.int .u8 v.op) ∧ (x5.alloc (.cells #[.int .u8 v.k, .int .u8 v.op, .int .u8 v.tk, .int .u8 v.ti, .int .i64 v.tn, .int .i64 v.n, .int .i64 v.m, .string v.nm, .string v.fd, .slice a5 f.len cw5] 26)).cell? ⟨w.heap.size, 2, none⟩ = some (.int .u8 v.tk) ∧ (x5.alloc (.cells #[.int .u8 v.k, .int .u8 v.op, .int .u8 v.tk, .int .u8 v.ti, .int .i64 v.tn, .int .i64 v.n, .int .i64 v.m, .string v.nm, .string v.fd, .slice a5 f.len cw5] 26)).cell? ⟨w.heap.size, 3, none⟩ = some (.int .u8 v.ti) ∧ (x5.alloc (.cells #[.int .u8 v.k, .int .u8 v.op, .int .u8 v.tk, .int .u8 v.ti, .int .i64 v.tn, .int .i64 v.n, .int .i64 v.m, .string v.nm, .string v.fd, .slice a5 f.len cw5] 26)).cell? ⟨w.heap.size, 4, none⟩ = some (.int .i64 v.tn) ∧ (x5.alloc (.cells #[.int .u8 v.k, .int .u8 v.op, .int .u8 v.tk, .int .u8 v.ti, .int .i64 v.tn, .int .i64 v.n, .int .i64 v.m, .string v.nm, .string v.fd, .slice a5 f.len cw5] 26)).cell? ⟨w.heap.size, 5, none⟩ = some (.int .i64 v.n) ∧ (x5.alloc (.cells #[.int .u8 v.k, .int .u8 v.op, .int .u8 v.tk, .int .u8 v.ti, .int .i64 v.tn, .int .i64 v.n, .int .i64 v.m, .string v.nm, .string v.fd, .slice a5 f.len cw5] 26)).cell? ⟨w.heap.size, 6, none⟩ = some (.int .i64 v.m) ∧ (x5.alloc (.cells #[.int .u8 v.k, .int .u8 v.op, .int .u8 v.tk, .int .u8 v.ti, .int .i64 v.tn, .int .i64 v.n, .int .i64 v.m, .string v.nm, .string v.fd, .slice a5 f.len cw5] 26)).cell? ⟨w.heap.size, 7, none⟩ = some (.string v.nm) ∧ (x5.alloc (.cells #[.int .u8 v.k, .int .u8 v.op, .int .u8 v.tk, .int .u8 v.ti, .int .i64 v.tn, .int .i64 v.n, .int .i64 v.m, .string v.nm, .string v.fd, .slice a5 f.len cw5] 26)).cell? ⟨w.heap.size, 8, none⟩ = some (.string v.fd) ∧ (x5.alloc (.cells #[.int .u8 v.k, .int .u8 v.op, .int .u8 v.tk, .int .u8 v.ti, .int .i64 v.tn, .int .i64 v.n, .int .i64 v.m, .string v.nm, .string v.fd, .slice a5 f.len cw5] 26)).cell? ⟨w.heap.size, 9, none⟩ = some (.slice a f.len c) := boxed_ten Q5.out; obtain ⟨nx0, nx1, nx2, nx3, nx4, nx5, nx6, nx7, nx8, nx9⟩ := tn; clear t1 t2 t3 t4 t5 t6)
    | (go_at_call 18; refine A18.out.mono ?_; rintro e x6 ⟨v', k, am, cm, k', hget, rfl, t2, t3, t4, t5⟩; obtain ⟨d1, d2, d3, d4, d5, d6, d7⟩ := BA.out v' k hget; have QA := hideIt (Q5.out.trans t5); have P5 := hideIt t5; have Q6 := hideIt (QA.out.trans (boxed_q x6 v' (.slice am k'.len cm))); have HM := hideIt (And.intro t2 (And.intro t3 t4)); have HD := hideIt (And.intro d2 (And.intro d3 (And.intro d4 (And.intro d5 (And.intro d6 d7))))); have A23 := hideIt (put_back f v a c i HV.out (HIN.out _ (Q6.out.trans (boxed_q _ _ _))) HSO.out HFF.out i1 i2 d1 d2 d4 t2 t3 t4); (try clear nx0 nx1 nx2 nx3 nx4 nx5 nx6 nx7 nx8 nx9); have tn : (x6.alloc (.cells #[.int .u8 v'.k, .int .u8 v'.op, .int .u8 v'.tk, .int .u8 v'.ti, .int .i64 v'.tn, .int .i64 v'.n, .int .i64 v'.m, .string v'.nm, .string v'.fd, .slice am k'.len cm] 26)).cell? ⟨w.heap.size, 0, none⟩ = some (.int .u8 v.k) ∧ (x6.alloc (.cells #[.int .u8 v'.k, .int .u8 v'.op, .int .u8 v'.tk, .int .u8 v'.ti, .int .i64 v'.tn, .int .i64 v'.n, .int .i64 v'.m, .string v'.nm, .string v'.fd, .slice am k'.len cm] 26)).cell? ⟨w.heap.size, 1, none⟩ = some (.int .u8 v.op) ∧ (x6.alloc (.cells #[.int .u8 v'.k, .int .u8 v'.op, .int .u8 v'.tk, .int .u8 v'.ti, .int .i64 v'.tn, .int .i64 v'.n, .int .i64 v'.m, .string v'.nm, .string v'.fd, .slice am k'.len cm] 26)).cell? ⟨w.heap.size, 2, none⟩ = some (.int .u8 v.tk) ∧ (x6.alloc (.cells #[.int .u8 v'.k, .int .u8 v'.op, .int .u8 v'.tk, .int .u8 v'.ti, .int .i64 v'.tn, .int .i64 v'.n, .int .i64 v'.m, .string v'.nm, .string v'.fd, .slice am k'.len cm] 26)).cell? ⟨w.heap.size, 3, none⟩ = some (.int .u8 v.ti) ∧ (x6.alloc (.cells #[.int .u8 v'.k, .int .u8 v'.op, .int .u8 v'.tk, .int .u8 v'.ti, .int .i64 v'.tn, .int .i64 v'.n, .int .i64 v'.m, .string v'.nm, .string v'.fd, .slice am k'.len cm] 26)).cell? ⟨w.heap.size, 4, none⟩ = some (.int .i64 v.tn) ∧ (x6.alloc (.cells #[.int .u8 v'.k, .int .u8 v'.op, .int .u8 v'.tk, .int .u8 v'.ti, .int .i64 v'.tn, .int .i64 v'.n, .int .i64 v'.m, .string v'.nm, .string v'.fd, .slice am k'.len cm] 26)).cell? ⟨w.heap.size, 5, none⟩ = some (.int .i64 v.n) ∧ (x6.alloc (.cells #[.int .u8 v'.k, .int .u8 v'.op, .int .u8 v'.tk, .int .u8 v'.ti, .int .i64 v'.tn, .int .i64 v'.n, .int .i64 v'.m, .string v'.nm, .string v'.fd, .slice am k'.len cm] 26)).cell? ⟨w.heap.size, 6, none⟩ = some (.int .i64 v.m) ∧ (x6.alloc (.cells #[.int .u8 v'.k, .int .u8 v'.op, .int .u8 v'.tk, .int .u8 v'.ti, .int .i64 v'.tn, .int .i64 v'.n, .int .i64 v'.m, .string v'.nm, .string v'.fd, .slice am k'.len cm] 26)).cell? ⟨w.heap.size, 7, none⟩ = some (.string v.nm) ∧ (x6.alloc (.cells #[.int .u8 v'.k, .int .u8 v'.op, .int .u8 v'.tk, .int .u8 v'.ti, .int .i64 v'.tn, .int .i64 v'.n, .int .i64 v'.m, .string v'.nm, .string v'.fd, .slice am k'.len cm] 26)).cell? ⟨w.heap.size, 8, none⟩ = some (.string v.fd) ∧ (x6.alloc (.cells #[.int .u8 v'.k, .int .u8 v'.op, .int .u8 v'.tk, .int .u8 v'.ti, .int .i64 v'.tn, .int .i64 v'.n, .int .i64 v'.m, .string v'.nm, .string v'.fd, .slice am k'.len cm] 26)).cell? ⟨w.heap.size, 9, none⟩ = some (.slice a f.len c) := boxed_ten Q6.out; obtain ⟨nx0, nx1, nx2, nx3, nx4, nx5, nx6, nx7, nx8, nx9⟩ := tn; clear d1 d2 d3 d4 d5 d6 d7 t2 t3 t4 t5 hget)
    | (go_at_call_of 23 (Value.slice none 0 0); refine A23b.out.mono ?_; rintro e x8 ⟨a8, c8, f8, rfl, l1, l2, l3, l4⟩; have HL := hideIt (And.intro l1 (And.intro l2 l3)); have P7 := hideIt (l4.trans (boxed_q x8 v (.slice a8 f8.len c8))); clear l1 l2 l3 l4)
    | (go_at_call 23; refine A23.out.mono ?_; rintro e x7 ⟨a7, c7, f7, rfl, s1, s2, s3, s4⟩; have HS7 := hideIt (And.intro s1 (And.intro s2 s3)); have P6 := hideIt ((boxed_q _ _ _).trans s4); have Q7 := hideIt (Q6.out.trans (P6.out.trans (boxed_q x7 v (.slice a7 f7.len c7)))); have A23b : Hid (Calls Try.prog 23 #[nodeV v (.slice a f.len c), .int .i64 (i : Int), .slice none 0 0] (boxed x7 v (.slice a7 f7.len c7)) fun e w' => ∃ a' c' f', e = .returned (.tuple #[nodeV v (.slice a' f'.len c'), .int .i64 0]) ∧ Cp (putS .nil ((i : Int) - 1) f) f' ∧ sok a' f'.len c' ∧ In w' a' f' ∧ Q (boxed x7 v (.slice a7 f7.len c7)) w') := C23.out _ Q7.out .nil none 0 trivial ⟨Nat.le_refl _, Nat.zero_le _, fun _ => rfl⟩ (Nat.zero_le _) rfl HD.out.2.2.2.1; (try clear nx0 nx1 nx2 nx3 nx4 nx5 nx6 nx7 nx8 nx9); have tn : (x7.alloc (.cells #[.int .u8 v.k, .int .u8 v.op, .int .u8 v.tk, .int .u8 v.ti, .int .i64 v.tn, .int .i64 v.n, .int .i64 v.m, .string v.nm, .string v.fd, .slice a7 f7.len c7] 26)).cell? ⟨w.heap.size, 0, none⟩ = some (.int .u8 v.k) ∧ (x7.alloc (.cells #[.int .u8 v.k, .int .u8 v.op, .int .u8 v.tk, .int .u8 v.ti, .int .i64 v.tn, .int .i64 v.n, .int .i64 v.m, .string v.nm, .string v.fd, .slice a7 f7.len c7] 26)).cell? ⟨w.heap.size, 1, none⟩ = some (.int .u8 v.op) ∧ (x7.alloc (.cells #[.int .u8 v.k, .int .u8 v.op, .int .u8 v.tk, .int .u8 v.ti, .int .i64 v.tn, .int .i64 v.n, .int .i64 v.m, .string v.nm, .string v.fd, .slice a7 f7.len c7] 26)).cell? ⟨w.heap.size, 2, none⟩ = some (.int .u8 v.tk) ∧ (x7.alloc (.cells #[.int .u8 v.k, .int .u8 v.op, .int .u8 v.tk, .int .u8 v.ti, .int .i64 v.tn, .int .i64 v.n, .int .i64 v.m, .string v.nm, .string v.fd, .slice a7 f7.len c7] 26)).cell? ⟨w.heap.size, 3, none⟩ = some (.int .u8 v.ti) ∧ (x7.alloc (.cells #[.int .u8 v.k, .int .u8 v.op, .int .u8 v.tk, .int .u8 v.ti, .int .i64 v.tn, .int .i64 v.n, .int .i64 v.m, .string v.nm, .string v.fd, .slice a7 f7.len c7] 26)).cell? ⟨w.heap.size, 4, none⟩ = some (.int .i64 v.tn) ∧ (x7.alloc (.cells #[.int .u8 v.k, .int .u8 v.op, .int .u8 v.tk, .int .u8 v.ti, .int .i64 v.tn, .int .i64 v.n, .int .i64 v.m, .string v.nm, .string v.fd, .slice a7 f7.len c7] 26)).cell? ⟨w.heap.size, 5, none⟩ = some (.int .i64 v.n) ∧ (x7.alloc (.cells #[.int .u8 v.k, .int .u8 v.op, .int .u8 v.tk, .int .u8 v.ti, .int .i64 v.tn, .int .i64 v.n, .int .i64 v.m, .string v.nm, .string v.fd, .slice a7 f7.len c7] 26)).cell? ⟨w.heap.size, 6, none⟩ = some (.int .i64 v.m) ∧ (x7.alloc (.cells #[.int .u8 v.k, .int .u8 v.op, .int .u8 v.tk, .int .u8 v.ti, .int .i64 v.tn, .int .i64 v.n, .int .i64 v.m, .string v.nm, .string v.fd, .slice a7 f7.len c7] 26)).cell? ⟨w.heap.size, 7, none⟩ = some (.string v.nm) ∧ (x7.alloc (.cells #[.int .u8 v.k, .int .u8 v.op, .int .u8 v.tk, .int .u8 v.ti, .int .i64 v.tn, .int .i64 v.n, .int .i64 v.m, .string v.nm, .string v.fd, .slice a7 f7.len c7] 26)).cell? ⟨w.heap.size, 8, none⟩ = some (.string v.fd) ∧ (x7.alloc (.cells #[.int .u8 v.k, .int .u8 v.op, .int .u8 v.tk, .int .u8 v.ti, .int .i64 v.tn, .int .i64 v.n, .int .i64 v.m, .string v.nm, .string v.fd, .slice a7 f7.len c7] 26)).cell? ⟨w.heap.size, 9, none⟩ = some (.slice a f.len c) := boxed_ten Q7.out; obtain ⟨nx0, nx1, nx2, nx3, nx4, nx5, nx6, nx7, nx8, nx9⟩ := tn; clear s1 s2 s3 s4)
    | fail)
  have QZ : Hid (∀ W, Q (boxed x8 v (.slice a8 f8.len c8)) W → Q (boxed w v (.slice a f.len c)) W) := fun W hW => (Q7.out.trans P7.out).trans hW
  have Q8 : Hid (∀ W, Q (boxed x8 v (.slice a8 f8.len c8)) W → Q (boxed x7 v (.slice a7 f7.len c7)) W) := fun W hW => P7.out.trans hW
  have Q8' : Hid (∀ W, Q (boxed x8 v (.slice a8 f8.len c8)) W → Q (boxed x6 v' (.slice am k'.len cm)) W) := fun W hW => P6.out.trans ((boxed_q x7 v (.slice a7 f7.len c7)).trans (Q8.out W hW))
  have Q8'' : Hid (∀ W, Q (boxed x8 v (.slice a8 f8.len c8)) W → Q (boxed x5 v (.slice a5 f.len cw5)) W) := fun W hW => P5.out.trans ((boxed_q x6 v' (.slice am k'.len cm)).trans (Q8'.out W hW))
  have SO : Hid (∀ w', Q (boxed x8 v (.slice a8 f8.len c8)) w' → Q (boxed x8 v (.slice a8 f8.len c8)) w' ∧ w'.cell? ⟨w.heap.size, 0, none⟩ = some (.int .u8 v.k) ∧ w'.cell? ⟨w.heap.size, 1, none⟩ = some (.int .u8 v.op) ∧ w'.cell? ⟨w.heap.size, 2, none⟩ = some (.int .u8 v.tk) ∧ w'.cell? ⟨w.heap.size, 3, none⟩ = some (.int .u8 v.ti) ∧ w'.cell? ⟨w.heap.size, 4, none⟩ = some (.int .i64 v.tn) ∧ w'.cell? ⟨w.heap.size, 5, none⟩ = some (.int .i64 v.n) ∧ w'.cell? ⟨w.heap.size, 6, none⟩ = some (.int .i64 v.m) ∧ w'.cell? ⟨w.heap.size, 7, none⟩ = some (.string v.nm) ∧ w'.cell? ⟨w.heap.size, 8, none⟩ = some (.string v.fd) ∧ w'.cell? ⟨w.heap.size, 9, none⟩ = some (.slice a f.len c) ∧ w'.cell? ⟨x5.heap.size, 0, none⟩ = some (.int .u8 v.k) ∧ w'.cell? ⟨x5.heap.size, 1, none⟩ = some (.int .u8 v.op) ∧ w'.cell? ⟨x5.heap.size, 2, none⟩ = some (.int .u8 v.tk) ∧ w'.cell? ⟨x5.heap.size, 3, none⟩ = some (.int .u8 v.ti) ∧ w'.cell? ⟨x5.heap.size, 4, none⟩ = some (.int .i64 v.tn) ∧ w'.cell? ⟨x5.heap.size, 5, none⟩ = some (.int .i64 v.n) ∧ w'.cell? ⟨x5.heap.size, 6, none⟩ = some (.int .i64 v.m) ∧ w'.cell? ⟨x5.heap.size, 7, none⟩ = some (.string v.nm) ∧ w'.cell? ⟨x5.heap.size, 8, none⟩ = some (.string v.fd) ∧ w'.cell? ⟨x5.heap.size, 9, none⟩ = some (.slice a5 f.len cw5) ∧ w'.cell? ⟨x6.heap.size, 0, none⟩ = some (.int .u8 v'.k) ∧ w'.cell? ⟨x6.heap.size, 1, none⟩ = some (.int .u8 v'.op) ∧ w'.cell? ⟨x6.heap.size, 2, none⟩ = some (.int .u8 v'.tk) ∧ w'.cell? ⟨x6.heap.size, 3, none⟩ = some (.int .u8 v'.ti) ∧ w'.cell? ⟨x6.heap.size, 4, none⟩ = some (.int .i64 v'.tn) ∧ w'.cell? ⟨x6.heap.size, 5, none⟩ = some (.int .i64 v'.n) ∧ w'.cell? ⟨x6.heap.size, 6, none⟩ = some (.int .i64 v'.m) ∧ w'.cell? ⟨x6.heap.size, 7, none⟩ = some (.string v'.nm) ∧ w'.cell? ⟨x6.heap.size, 8, none⟩ = some (.string v'.fd) ∧ w'.cell? ⟨x6.heap.size, 9, none⟩ = some (Value.slice am k'.len cm) ∧ w'.cell? ⟨x7.heap.size, 0, none⟩ = some (.int .u8 v.k) ∧ w'.cell? ⟨x7.heap.size, 1, none⟩ = some (.int .u8 v.op) ∧ w'.cell? ⟨x7.heap.size, 2, none⟩ = some (.int .u8 v.tk) ∧ w'.cell? ⟨x7.heap.size, 3, none⟩ = some (.int .u8 v.ti) ∧ w'.cell? ⟨x7.heap.size, 4, none⟩ = some (.int .i64 v.tn) ∧ w'.cell? ⟨x7.heap.size, 5, none⟩ = some (.int .i64 v.n) ∧ w'.cell? ⟨x7.heap.size, 6, none⟩ = some (.int .i64 v.m) ∧ w'.cell? ⟨x7.heap.size, 7, none⟩ = some (.string v.nm) ∧ w'.cell? ⟨x7.heap.size, 8, none⟩ = some (.string v.fd) ∧ w'.cell? ⟨x7.heap.size, 9, none⟩ = some (Value.slice a7 f7.len c7) ∧ w'.cell? ⟨x8.heap.size, 0, none⟩ = some (.int .u8 v.k) ∧ w'.cell? ⟨x8.heap.size, 1, none⟩ = some (.int .u8 v.op) ∧ w'.cell? ⟨x8.heap.size, 2, none⟩ = some (.int .u8 v.tk) ∧ w'.cell? ⟨x8.heap.size, 3, none⟩ = some (.int .u8 v.ti) ∧ w'.cell? ⟨x8.heap.size, 4, none⟩ = some (.int .i64 v.tn) ∧ w'.cell? ⟨x8.heap.size, 5, none⟩ = some (.int .i64 v.n) ∧ w'.cell? ⟨x8.heap.size, 6, none⟩ = some (.int .i64 v.m) ∧ w'.cell? ⟨x8.heap.size, 7, none⟩ = some (.string v.nm) ∧ w'.cell? ⟨x8.heap.size, 8, none⟩ = some (.string v.fd) ∧ w'.cell? ⟨x8.heap.size, 9, none⟩ = some (Value.slice a8 f8.len c8)) := fun w' h => (join5 h (boxed_ten (QZ.out w' h)) (boxed_ten (Q8''.out w' h)) (boxed_ten (Q8'.out w' h)) (boxed_ten (Q8.out w' h)) (boxed_ten h))
  obtain ⟨e1, e2, e3, e4, e5, e6⟩ := HD.out
  have l8 : f8.size + (k.size + 1) = f.size := by rw [HL.out.1.size]; exact e5
  have wl8 : f8.weight < f.weight := by rw [HL.out.1.weight]; exact e6
  have f8f : f8.fine = true := by rw [HL.out.1.fine]; exact e4
  have hk' := HM.out.1.size
  obtain ⟨D1, hD1⟩ : ∃ D : Int, (f.size : Int) + 1 - ((k.size : Int) + 1) = D := ⟨_, rfl⟩
  obtain ⟨B1, hB1⟩ : ∃ B : Int, (k.size : Int) + 1 = B := ⟨_, rfl⟩
  obtain ⟨W8, hW8⟩ : ∃ W : Int, ((if f8.fine then 1 + nb v + f8.weight else 0 : Nat) : Int) = W := ⟨_, rfl⟩
  obtain ⟨W0, hW0⟩ : ∃ W : Int, ((if f.fine then 1 + nb v + f.weight else 0 : Nat) : Int) = W := ⟨_, rfl⟩
  have m2 : Hid (((min (f8.size + 1) 4001 : Nat) : Int) = D1) := by have := fine_size HFF.out; show _ = _; omega
  have m3 : Hid (((min (k'.size + 1) 4001 : Nat) : Int) = B1) := by have := fine_size HFF.out; show _ = _; omega
  have hwlt : W8 < W0 := by
    rw [← hW8, ← hW0, f8f, HFF.out]
    simp
    omega
  have hwd : decide (W8 < W0) = true := by simpa using hwlt
  have hwr : IntKind.i64.wrap ((f.size : Int) + 1 - B1) = D1 := by
    rw [hB1] at hD1
    rw [← hD1]
    exact wrap_small _ (by omega) (by omega)
  have sl5 : Hid (sok a5 f.len cw5) := by have := HW.out.2.1; rw [hl5.out] at this; exact this
  have R1 : Hid (∀ W, Q (boxed x8 v (.slice a8 f8.len c8)) W → Calls Try.prog 21 #[nodeV v (.slice a7 f7.len c7), nodeV v (.slice a f.len c)] W fun e w' => e = .returned (.bool true) ∧ Q (boxed x8 v (.slice a8 f8.len c8)) w') := fun W hW => ((C21.out W (QZ.out W hW) f7 a7 c7 (HS7.out.2.2.keep (Nat.le_refl _) ((boxed_q x7 v (.slice a7 f7.len c7)).trans (Q8.out W hW))) HS7.out.2.1 HS7.out.1).mono fun e w' ⟨h1, h2⟩ => ⟨h1, hW.trans h2⟩)
  have R2 : Hid (∀ W, Q (boxed x8 v (.slice a8 f8.len c8)) W → Calls Try.prog 11 #[nodeV v (.slice a8 f8.len c8)] W fun e w' => e = .returned (.int .i64 D1) ∧ Q (boxed x8 v (.slice a8 f8.len c8)) w') := fun W hW => ((rsize_any (f8.size + 1) f8 (by omega) v a8 c8 W (HL.out.2.2.keep (Nat.le_refl _) ((boxed_q x8 v (.slice a8 f8.len c8)).trans hW)) HL.out.2.1).mono fun e w' ⟨h1, h2⟩ => ⟨by rw [h1, m2.out], hW.trans h2⟩)
  have R3 : Hid (∀ W, Q (boxed x8 v (.slice a8 f8.len c8)) W → Calls Try.prog 11 #[nodeV v' (.slice am k'.len cm)] W fun e w' => e = .returned (.int .i64 B1) ∧ Q (boxed x8 v (.slice a8 f8.len c8)) w') := fun W hW => ((rsize_any (k'.size + 1) k' (by omega) v' am cm W (HM.out.2.2.keep (Nat.le_refl _) ((boxed_q x6 v' (.slice am k'.len cm)).trans (Q8'.out W hW))) HM.out.2.1).mono fun e w' ⟨h1, h2⟩ => ⟨by rw [h1, m3.out], hW.trans h2⟩)
  have R4 : Hid (∀ W, Q (boxed x8 v (.slice a8 f8.len c8)) W → Calls Try.prog 21 #[nodeV v (.slice a5 f.len cw5), nodeV v (.slice a f.len c)] W fun e w' => e = .returned (.bool true) ∧ Q (boxed x8 v (.slice a8 f8.len c8)) w') := fun W hW => by
    have h := C21.out W (QZ.out W hW) f5 a5 cw5 (HW.out.2.2.keep (Nat.le_refl _) ((boxed_q x5 v (.slice a5 f.len cw5)).trans (Q8''.out W hW))) HW.out.2.1 HW.out.1.symm
    rw [hl5.out] at h
    exact h.mono fun e w' h' => ⟨h'.1, hW.trans h'.2⟩
  have R5 : Hid (∀ W, Q (boxed x8 v (.slice a8 f8.len c8)) W → Calls Try.prog 16 #[nodeV v (.slice a8 f8.len c8)] W fun e w' => e = .returned (.int .i64 W8) ∧ Q (boxed x8 v (.slice a8 f8.len c8)) w') := fun W hW => ((C16'.out W f8 a8 c8 (HL.out.2.2.keep (Nat.le_refl _) ((boxed_q x8 v (.slice a8 f8.len c8)).trans hW)) HL.out.2.1 f8f).mono fun e w' ⟨h1, h2⟩ => ⟨by rw [h1, ← hW8], hW.trans h2⟩)
  have R6 : Hid (∀ W, Q (boxed x8 v (.slice a8 f8.len c8)) W → Calls Try.prog 16 #[nodeV v (.slice a f.len c)] W fun e w' => e = .returned (.int .i64 W0) ∧ Q (boxed x8 v (.slice a8 f8.len c8)) w') := fun W hW => ((C16.out W (QZ.out W hW)).mono fun e w' ⟨h1, h2⟩ => ⟨by rw [h1, ← hW0], hW.trans h2⟩)
  have QQ := hideIt ((boxed_q w v (.slice a f.len c)).trans (Q7.out.trans P7.out))
  clear e1 e2 e3 e4 e5 e6 l8 wl8 f8f hk' hD1 hB1 hW8 hW0 hwlt
  clear nx0 nx1 nx2 nx3 nx4 nx5 nx6 nx7 nx8 nx9
  go_region_held3 (fun w' => Q (boxed x8 v (.slice a8 f8.len c8)) w' ∧ w'.cell? ⟨w.heap.size, 0, none⟩ = some (.int .u8 v.k) ∧ w'.cell? ⟨w.heap.size, 1, none⟩ = some (.int .u8 v.op) ∧ w'.cell? ⟨w.heap.size, 2, none⟩ = some (.int .u8 v.tk) ∧ w'.cell? ⟨w.heap.size, 3, none⟩ = some (.int .u8 v.ti) ∧ w'.cell? ⟨w.heap.size, 4, none⟩ = some (.int .i64 v.tn) ∧ w'.cell? ⟨w.heap.size, 5, none⟩ = some (.int .i64 v.n) ∧ w'.cell? ⟨w.heap.size, 6, none⟩ = some (.int .i64 v.m) ∧ w'.cell? ⟨w.heap.size, 7, none⟩ = some (.string v.nm) ∧ w'.cell? ⟨w.heap.size, 8, none⟩ = some (.string v.fd) ∧ w'.cell? ⟨w.heap.size, 9, none⟩ = some (.slice a f.len c) ∧ w'.cell? ⟨x5.heap.size, 0, none⟩ = some (.int .u8 v.k) ∧ w'.cell? ⟨x5.heap.size, 1, none⟩ = some (.int .u8 v.op) ∧ w'.cell? ⟨x5.heap.size, 2, none⟩ = some (.int .u8 v.tk) ∧ w'.cell? ⟨x5.heap.size, 3, none⟩ = some (.int .u8 v.ti) ∧ w'.cell? ⟨x5.heap.size, 4, none⟩ = some (.int .i64 v.tn) ∧ w'.cell? ⟨x5.heap.size, 5, none⟩ = some (.int .i64 v.n) ∧ w'.cell? ⟨x5.heap.size, 6, none⟩ = some (.int .i64 v.m) ∧ w'.cell? ⟨x5.heap.size, 7, none⟩ = some (.string v.nm) ∧ w'.cell? ⟨x5.heap.size, 8, none⟩ = some (.string v.fd) ∧ w'.cell? ⟨x5.heap.size, 9, none⟩ = some (.slice a5 f.len cw5) ∧ w'.cell? ⟨x6.heap.size, 0, none⟩ = some (.int .u8 v'.k) ∧ w'.cell? ⟨x6.heap.size, 1, none⟩ = some (.int .u8 v'.op) ∧ w'.cell? ⟨x6.heap.size, 2, none⟩ = some (.int .u8 v'.tk) ∧ w'.cell? ⟨x6.heap.size, 3, none⟩ = some (.int .u8 v'.ti) ∧ w'.cell? ⟨x6.heap.size, 4, none⟩ = some (.int .i64 v'.tn) ∧ w'.cell? ⟨x6.heap.size, 5, none⟩ = some (.int .i64 v'.n) ∧ w'.cell? ⟨x6.heap.size, 6, none⟩ = some (.int .i64 v'.m) ∧ w'.cell? ⟨x6.heap.size, 7, none⟩ = some (.string v'.nm) ∧ w'.cell? ⟨x6.heap.size, 8, none⟩ = some (.string v'.fd) ∧ w'.cell? ⟨x6.heap.size, 9, none⟩ = some (Value.slice am k'.len cm) ∧ w'.cell? ⟨x7.heap.size, 0, none⟩ = some (.int .u8 v.k) ∧ w'.cell? ⟨x7.heap.size, 1, none⟩ = some (.int .u8 v.op) ∧ w'.cell? ⟨x7.heap.size, 2, none⟩ = some (.int .u8 v.tk) ∧ w'.cell? ⟨x7.heap.size, 3, none⟩ = some (.int .u8 v.ti) ∧ w'.cell? ⟨x7.heap.size, 4, none⟩ = some (.int .i64 v.tn) ∧ w'.cell? ⟨x7.heap.size, 5, none⟩ = some (.int .i64 v.n) ∧ w'.cell? ⟨x7.heap.size, 6, none⟩ = some (.int .i64 v.m) ∧ w'.cell? ⟨x7.heap.size, 7, none⟩ = some (.string v.nm) ∧ w'.cell? ⟨x7.heap.size, 8, none⟩ = some (.string v.fd) ∧ w'.cell? ⟨x7.heap.size, 9, none⟩ = some (Value.slice a7 f7.len c7) ∧ w'.cell? ⟨x8.heap.size, 0, none⟩ = some (.int .u8 v.k) ∧ w'.cell? ⟨x8.heap.size, 1, none⟩ = some (.int .u8 v.op) ∧ w'.cell? ⟨x8.heap.size, 2, none⟩ = some (.int .u8 v.tk) ∧ w'.cell? ⟨x8.heap.size, 3, none⟩ = some (.int .u8 v.ti) ∧ w'.cell? ⟨x8.heap.size, 4, none⟩ = some (.int .i64 v.tn) ∧ w'.cell? ⟨x8.heap.size, 5, none⟩ = some (.int .i64 v.n) ∧ w'.cell? ⟨x8.heap.size, 6, none⟩ = some (.int .i64 v.m) ∧ w'.cell? ⟨x8.heap.size, 7, none⟩ = some (.string v.nm) ∧ w'.cell? ⟨x8.heap.size, 8, none⟩ = some (.string v.fd) ∧ w'.cell? ⟨x8.heap.size, 9, none⟩ = some (Value.slice a8 f8.len c8)) (first | exact SO.out _ qq | exact SO.out _ (Below.refl _ _) | exact SO.out _ (q_drew (Below.refl _ _)) | go_keep)
    (first
      | (go_at_call_of 21 (Value.slice a7 f7.len c7); refine (R1.out _ (by first | assumption | exact (q_drew (Below.refl _ _)) | exact (Below.refl _ _))).mono ?_; rintro e y ⟨rfl, qq⟩)
      | (go_at_call_of 21 (Value.slice a5 f.len cw5); refine (R4.out _ (by first | assumption | exact (q_drew (Below.refl _ _)) | exact (Below.refl _ _))).mono ?_; rintro e y ⟨rfl, qq⟩)
      | (go_at_call_of 11 (Value.slice a8 f8.len c8); refine (R2.out _ (by first | assumption | exact (q_drew (Below.refl _ _)) | exact (Below.refl _ _))).mono ?_; rintro e y ⟨rfl, qq⟩)
      | (go_at_call_of 11 (Value.slice am k'.len cm); refine (R3.out _ (by first | assumption | exact (q_drew (Below.refl _ _)) | exact (Below.refl _ _))).mono ?_; rintro e y ⟨rfl, qq⟩)
      | (go_at_call_of 16 (Value.slice a8 f8.len c8); refine (R5.out _ (by first | assumption | exact (q_drew (Below.refl _ _)) | exact (Below.refl _ _))).mono ?_; rintro e y ⟨rfl, qq⟩)
      | (go_at_call_of 16 (Value.slice a f.len c); refine (R6.out _ (by first | assumption | exact (q_drew (Below.refl _ _)) | exact (Below.refl _ _))).mono ?_; rintro e y ⟨rfl, qq⟩))
  go_wp2_with (fail)
  go_ret
  exact ⟨by first | rfl | simp, QQ.out.trans (by assumption)⟩

theorem walk (f : Fo) (v : NF) (a : Option Addr) (c : Nat) (u : Int) (w : World) (hv : v.ok) (hin : In w a f) (hs : sok a f.len c) (hu : 0 ≤ u) (hu2 : u ≤ 65535) :
    Calls Try.prog 7 #[nodeV v (.slice a f.len c), .int .u16 u] w fun e w' => e = .returned (.bool true) ∧ Below w.heap.size w w' := by
  by_cases h : f.fine = true ∧ 1 ≤ f.size
  · exact walk_long f v a c u w hv hin hs h.1 h.2 hu hu2
  · refine walk_short f v a c u w hv hin hs ?_
    cases hf : f.fine with
    | false => exact Or.inl rfl
    | true => exact Or.inr (by
        rcases Nat.eq_zero_or_pos f.size with h0 | h0
        · exact h0
        · exact absurd ⟨hf, h0⟩ h)

set_option maxRecDepth 100000 in
set_option maxHeartbeats 400000 in
theorem lifted (os : Os) (started : os.Started) (H : Type) (enc : TypeId × Value → H) :
    ReturnsInHanded {} Try.checked os 7 .any (Rows.treeBackSpec.pre6 enc Try.prog Try.f7 Rows.treeBackRow.domain false) (Rows.treeBackSpec.post enc Try.prog Try.f7 false true false false) := by
  refine returnsInHanded_of_change (C := Try.checked) own started (by kernel_rfl) Try.func7
    (ChangeSpec.witness6 (enc := enc) (C := Try.checked) false ⟨#[], #[.agg #[.int .u8 0, .int .u8 0, .int .u8 0, .int .u8 0, .int .i64 0, .int .i64 0, .int .i64 0, .string ⟨#[]⟩, .string ⟨#[]⟩, .slice none 0 0], .int .u16 0], []⟩ 8 (by kernel_rfl) (by kernel_rfl) (by kernel_rfl) (by kernel_rfl)) ?_
  intro W base args ds gs before hval0 hW hcnd _
  have hval : ∀ (j : Nat) t v, Try.f7.params[j]? = some t → args[j]? = some v → Value.okWide Try.prog W .any base t v := hval0
  have hW' := hW
  obtain ⟨p, q, hA0, hV, rfl, hfz, hnd⟩ := hW
  have hA : DataW.TrodAll enc Try.prog W 0 (fun _ => true) true Try.f7.params.toList args.toList ds p := hA0
  rw [Try.params7] at hA hval
  obtain ⟨v0, vs0, d0, ds0, p0, q0, hargs, rfl, rfl, h0, r0⟩ := trodAll_cons hA
  obtain ⟨v1, vs1, d1, ds1, p1, q1, rfl, rfl, rfl, h1, r1⟩ := trodAll_cons r0
  obtain ⟨rfl, rfl, rfl⟩ := trodAll_nil r1
  obtain rfl : args = #[v0, v1] := by cases args; simp_all
  obtain ⟨rfl, rfl⟩ := trodVars_none hV
  have k0 := h0
  have lt0 : ∀ x ∈ p0, x.block < W.heap.size := by obtain ⟨m, hm⟩ := k0; exact DataW.trod_lt m _ _ _ hm
  obtain ⟨v, a, c, f, rfl, hv, hs, hin⟩ := open_tree h0
  obtain ⟨u, rfl, rfl, rfl, w1⟩ := open_int Try.underlying45 (hval 1 45 v1 rfl rfl) h1
  clear hA0 hval0
  have hb : 0 ≤ u ∧ u ≤ 65535 := by
    simp only [Lit.wf, Bool.and_eq_true, decide_eq_true_eq] at w1
    exact w1
  refine (walk f v a c u W hv hin hs hb.1 hb.2).mono fun e W' ⟨he, bel⟩ => ?_
  subst he
  exact ⟨_, rfl, _, _, _, [], _, [], hW', trodAll_mk1 (shut_bool Try.underlying4 _), (trodAll_cons_mk (Below.trod laidOut (by kernel_rfl) (of_decide_eq_true (by kernel_rfl)) k0 bel lt0) (trodAll_cons_mk (shut_int Try.underlying45 w1) trodAll_mk0)), rfl, bel.frame _, fun h => by cases h⟩

theorem over : Rows.treeBackRow.holds Try.pinned (OpenSpec.ofChange Rows.treeBackSpec) :=
  OpenClaim.holds_of_wide 7 Try.f7 rfl rfl rfl rfl rfl rfl rfl ⟨rfl, rfl, rfl, rfl, rfl⟩ rfl rfl rfl rfl rfl (by kernel_rfl) Try.func7 (by kernel_rfl)
    (of_decide_eq_true (by kernel_rfl)) (by unfold Func.isWrapper; first | (rw [if_pos (by decide +kernel)]; kernel_rfl) | (rw [if_neg (by decide +kernel)]; exact ⟨rfl, rfl⟩))
    (fun os started H enc _ => lifted os started H enc)

/-- The statement. -/
theorem proved : Rows.TreeBackSaid := over
#print axioms proved
end Go.Proofs.Ytioeoillogpdoaa.treeBack
