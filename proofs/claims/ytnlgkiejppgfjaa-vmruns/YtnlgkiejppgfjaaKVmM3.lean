/-
  The machine: a word that is none: a contract over the program; the conditions: the machine lies there.
-/
import Derived.Test.YtnlgkiejppgfjaaKVmM
namespace Go.Proofs.Ytnlgkiejppgfjaa
open Go.RowKit
set_option linter.unusedVariables false

section
variable {w w' w0 : World} {R : Nat} {col col' : Col} {im : PIm} {mn : Nat} {mem ce : List Int} {cls : List Cl} {W : Nat → List Int} {tr : List Int} {ex : Int} {cv kv tv : Value} {N : Nat}
attribute [local go_sem ↓] run_max3

set_option maxRecDepth 100000 in
set_option maxHeartbeats 20000000 in
/-- Decode has answered: the rest. -/
theorem next_bad3 {C cap k : Nat} {ks : Array Value} {c : Cl} (h : MX w w0 R col im mn ce cls W tr ex cv (.slice (some ⟨C, 0, none⟩) cls.length cap) tv) (K : KS w w0.heap.size C cap ks col cls W) (hc : cls[k]? = some c) (hcok : c.ok) (hok : im.ok w0) {v : Int} (hv : im.ws[c.pl]? = some v) (hlw : im.ws.length ≤ 240000) (g0 : f0 v = 0) (g1 : fd v < 8) (g2 : fa v < 8) (g3 : fb v < 8) (g4 : ¬ ft v ≤ 5) :
    Calls Try.prog 38 #[.pointer (some ⟨R, 0, none⟩), .pointer (some ⟨C, k * 24, none⟩)] w fun e w' => e = .returned (.tuple #[.agg #[.int .u8 (v / 72057594037927936), .int .u8 (v / 4503599627370496 % 16), .int .u8 (v / 281474976710656 % 16), .int .u8 (v / 17592186044416 % 16), .int .u8 (v / 1099511627776 % 16), .int .u32 (v % 4294967296)], .bool false]) ∧ MX w' w0 R col im mn ce (cls.set k { c with pl := c.pl + 1 }) W tr ex cv (.slice (some ⟨C, 0, none⟩) cls.length cap) tv ∧ Ex col w col w' := by
  have hq : Q w (w.alloc (.cells #[.int .u8 0, .int .u8 0, .int .u8 0, .int .u8 0, .int .u8 0, .int .u32 0] 88)) := (Q.refl w).alloc _
  have c2 := cell_keep hq h.c0.2.2.1
  obtain ⟨q20, -, -⟩ := Cl.cs_pl hcok
  have c20 := cell_keep hq (K.cell hc (by omega) q20)
  have hpl := (List.getElem?_eq_some_iff.1 hv).1
  have hd : decide ((im.ws.length : Int) ≤ (c.pl : Int)) = false := by simp; omega
  obtain ⟨b, o, ewa, cw, hU⟩ := Wds.at hok.ws hv
  have cw := cell_keep (h.bq.trans hq) cw
  rw [ewa] at c2
  have hpl2 : (c.pl : Int) < (im.ws.length : Int) := by omega
  have ltR := h.ltR
  have ltC := (h.lt C _ K.colC).2
  have CD := hideIt (fun X => Cd.dec_ok v X hU g0)
  have FS := hideIt (show ∀ y, Q (w.alloc (.cells #[.int .u8 0, .int .u8 0, .int .u8 0, .int .u8 0, .int .u8 0, .int .u32 0] 88)) y → (fun y : World => Q (w.alloc (.cells #[.int .u8 0, .int .u8 0, .int .u8 0, .int .u8 0, .int .u8 0, .int .u32 0] 88)) y ∧ y.cell? ⟨R, 2, none⟩ = some (.slice (some ⟨b, o, none⟩) im.ws.length im.wc) ∧ y.cell? ⟨C, k * 24 + 20, none⟩ = some (.int .i64 (c.pl : Int)) ∧ y.cell? ⟨b, o + c.pl, none⟩ = some (.int .u64 v)) y from fun y hy => ⟨hy, cell_keep hy c2, cell_keep hy c20, cell_keep hy cw⟩)
  have HT := hideIt (show ∀ (Z : World) (Bx : Nat), Z.heap[Bx]? = some (.cells #[.int .u8 (v / 72057594037927936), .int .u8 (v / 4503599627370496 % 16), .int .u8 (v / 281474976710656 % 16), .int .u8 (v / 17592186044416 % 16), .int .u8 (v / 1099511627776 % 16), .int .u32 (v % 4294967296)] 88 (0, 0)) → Q (w.alloc (.cells #[.int .u8 0, .int .u8 0, .int .u8 0, .int .u8 0, .int .u8 0, .int .u32 0] 88)) Z → w.heap.size + 1 ≤ Bx → ¬ Bx = C ∧ ¬ C = Bx ∧ ¬ w.heap.size = C ∧ ¬ C = w.heap.size ∧ Z.cell? ⟨C, k * 24 + 20, none⟩ = some (.int .i64 (c.pl : Int)) ∧ Z.frozen? ⟨C, k * 24 + 20, none⟩ = false ∧ Z.cell? ⟨Bx, 0, none⟩ = some (.int .u8 (v / 72057594037927936)) ∧ Z.cell? ⟨Bx, 1, none⟩ = some (.int .u8 (v / 4503599627370496 % 16)) ∧ Z.cell? ⟨Bx, 2, none⟩ = some (.int .u8 (v / 281474976710656 % 16)) ∧ Z.cell? ⟨Bx, 3, none⟩ = some (.int .u8 (v / 17592186044416 % 16)) ∧ Z.cell? ⟨Bx, 4, none⟩ = some (.int .u8 (v / 1099511627776 % 16)) ∧ Z.cell? ⟨Bx, 5, none⟩ = some (.int .u32 (v % 4294967296)) ∧ Z.cell? ⟨w.heap.size, 0, none⟩ = some (.int .u8 0) ∧ Z.cell? ⟨w.heap.size, 1, none⟩ = some (.int .u8 0) ∧ Z.cell? ⟨w.heap.size, 2, none⟩ = some (.int .u8 0) ∧ Z.cell? ⟨w.heap.size, 3, none⟩ = some (.int .u8 0) ∧ Z.cell? ⟨w.heap.size, 4, none⟩ = some (.int .u8 0) ∧ Z.cell? ⟨w.heap.size, 5, none⟩ = some (.int .u32 0) ∧ Z.frozen? ⟨w.heap.size, 0, none⟩ = false ∧ Z.frozen? ⟨w.heap.size, 1, none⟩ = false ∧ Z.frozen? ⟨w.heap.size, 2, none⟩ = false ∧ Z.frozen? ⟨w.heap.size, 3, none⟩ = false ∧ Z.frozen? ⟨w.heap.size, 4, none⟩ = false ∧ Z.frozen? ⟨w.heap.size, 5, none⟩ = false ∧ (((Z.setCell ⟨C, k * 24 + 20, none⟩ (.int .i64 ((c.pl : Int) + 1))).drew).cell? ⟨Bx, 0, none⟩ = some (.int .u8 (v / 72057594037927936)) ∧ ((Z.setCell ⟨C, k * 24 + 20, none⟩ (.int .i64 ((c.pl : Int) + 1))).drew).cell? ⟨Bx, 1, none⟩ = some (.int .u8 (v / 4503599627370496 % 16)) ∧ ((Z.setCell ⟨C, k * 24 + 20, none⟩ (.int .i64 ((c.pl : Int) + 1))).drew).cell? ⟨Bx, 2, none⟩ = some (.int .u8 (v / 281474976710656 % 16)) ∧ ((Z.setCell ⟨C, k * 24 + 20, none⟩ (.int .i64 ((c.pl : Int) + 1))).drew).cell? ⟨Bx, 3, none⟩ = some (.int .u8 (v / 17592186044416 % 16)) ∧ ((Z.setCell ⟨C, k * 24 + 20, none⟩ (.int .i64 ((c.pl : Int) + 1))).drew).cell? ⟨Bx, 4, none⟩ = some (.int .u8 (v / 1099511627776 % 16)) ∧ ((Z.setCell ⟨C, k * 24 + 20, none⟩ (.int .i64 ((c.pl : Int) + 1))).drew).cell? ⟨Bx, 5, none⟩ = some (.int .u32 (v % 4294967296))) ∧ (((six (Z.setCell ⟨C, k * 24 + 20, none⟩ (.int .i64 ((c.pl : Int) + 1))) w.heap.size (.int .u8 (v / 72057594037927936)) (.int .u8 (v / 4503599627370496 % 16)) (.int .u8 (v / 281474976710656 % 16)) (.int .u8 (v / 17592186044416 % 16)) (.int .u8 (v / 1099511627776 % 16)) (.int .u32 (v % 4294967296))).drew).cell? ⟨Bx, 0, none⟩ = some (.int .u8 (v / 72057594037927936)) ∧ ((six (Z.setCell ⟨C, k * 24 + 20, none⟩ (.int .i64 ((c.pl : Int) + 1))) w.heap.size (.int .u8 (v / 72057594037927936)) (.int .u8 (v / 4503599627370496 % 16)) (.int .u8 (v / 281474976710656 % 16)) (.int .u8 (v / 17592186044416 % 16)) (.int .u8 (v / 1099511627776 % 16)) (.int .u32 (v % 4294967296))).drew).cell? ⟨Bx, 1, none⟩ = some (.int .u8 (v / 4503599627370496 % 16)) ∧ ((six (Z.setCell ⟨C, k * 24 + 20, none⟩ (.int .i64 ((c.pl : Int) + 1))) w.heap.size (.int .u8 (v / 72057594037927936)) (.int .u8 (v / 4503599627370496 % 16)) (.int .u8 (v / 281474976710656 % 16)) (.int .u8 (v / 17592186044416 % 16)) (.int .u8 (v / 1099511627776 % 16)) (.int .u32 (v % 4294967296))).drew).cell? ⟨Bx, 2, none⟩ = some (.int .u8 (v / 281474976710656 % 16)) ∧ ((six (Z.setCell ⟨C, k * 24 + 20, none⟩ (.int .i64 ((c.pl : Int) + 1))) w.heap.size (.int .u8 (v / 72057594037927936)) (.int .u8 (v / 4503599627370496 % 16)) (.int .u8 (v / 281474976710656 % 16)) (.int .u8 (v / 17592186044416 % 16)) (.int .u8 (v / 1099511627776 % 16)) (.int .u32 (v % 4294967296))).drew).cell? ⟨Bx, 3, none⟩ = some (.int .u8 (v / 17592186044416 % 16)) ∧ ((six (Z.setCell ⟨C, k * 24 + 20, none⟩ (.int .i64 ((c.pl : Int) + 1))) w.heap.size (.int .u8 (v / 72057594037927936)) (.int .u8 (v / 4503599627370496 % 16)) (.int .u8 (v / 281474976710656 % 16)) (.int .u8 (v / 17592186044416 % 16)) (.int .u8 (v / 1099511627776 % 16)) (.int .u32 (v % 4294967296))).drew).cell? ⟨Bx, 4, none⟩ = some (.int .u8 (v / 1099511627776 % 16)) ∧ ((six (Z.setCell ⟨C, k * 24 + 20, none⟩ (.int .i64 ((c.pl : Int) + 1))) w.heap.size (.int .u8 (v / 72057594037927936)) (.int .u8 (v / 4503599627370496 % 16)) (.int .u8 (v / 281474976710656 % 16)) (.int .u8 (v / 17592186044416 % 16)) (.int .u8 (v / 1099511627776 % 16)) (.int .u32 (v % 4294967296))).drew).cell? ⟨Bx, 5, none⟩ = some (.int .u32 (v % 4294967296))) ∧ ((six (Z.setCell ⟨C, k * 24 + 20, none⟩ (.int .i64 ((c.pl : Int) + 1))) w.heap.size (.int .u8 (v / 72057594037927936)) (.int .u8 (v / 4503599627370496 % 16)) (.int .u8 (v / 281474976710656 % 16)) (.int .u8 (v / 17592186044416 % 16)) (.int .u8 (v / 1099511627776 % 16)) (.int .u32 (v % 4294967296))).drew).heap[w.heap.size]? = some (.cells #[.int .u8 (v / 72057594037927936), .int .u8 (v / 4503599627370496 % 16), .int .u8 (v / 281474976710656 % 16), .int .u8 (v / 17592186044416 % 16), .int .u8 (v / 1099511627776 % 16), .int .u32 (v % 4294967296)] 88 (0, 0)) ∧ MX ((six (Z.setCell ⟨C, k * 24 + 20, none⟩ (.int .i64 ((c.pl : Int) + 1))) w.heap.size (.int .u8 (v / 72057594037927936)) (.int .u8 (v / 4503599627370496 % 16)) (.int .u8 (v / 281474976710656 % 16)) (.int .u8 (v / 17592186044416 % 16)) (.int .u8 (v / 1099511627776 % 16)) (.int .u32 (v % 4294967296))).drew) w0 R col im mn ce (cls.set k { c with pl := c.pl + 1 }) W tr ex cv (.slice (some ⟨C, 0, none⟩) cls.length cap) tv ∧ Ex col w col ((six (Z.setCell ⟨C, k * 24 + 20, none⟩ (.int .i64 ((c.pl : Int) + 1))) w.heap.size (.int .u8 (v / 72057594037927936)) (.int .u8 (v / 4503599627370496 % 16)) (.int .u8 (v / 281474976710656 % 16)) (.int .u8 (v / 17592186044416 % 16)) (.int .u8 (v / 1099511627776 % 16)) (.int .u32 (v % 4294967296))).drew) from fun Z Bx hzb hzq hbx => by
    have hqz : Q w Z := hq.trans hzq
    have h1 := h.keep hqz
    have K1 := K.keep (w' := Z) (col' := col) (hqz.block C ltC) (fun b _ hb _ => hqz.block b hb) (fun _ _ => rfl)
    obtain ⟨ks', m1, k1, e1⟩ := h1.put rfl K1 (k := k) (j := 20) (c' := { c with pl := c.pl + 1 }) (u := .int .i64 ((c.pl : Int) + 1)) hc (by omega) (Cl.cs_setp hcok _)
    have b4 : Z.heap[w.heap.size]? = _ := (hzq.block w.heap.size (by simp)).trans (heap_new w _)
    have b5 : ∀ m : Nat, (Z.setCell ⟨C, k * 24 + 20, none⟩ (.int .i64 ((c.pl : Int) + 1))).heap[w.heap.size]? = _ := fun m => (heap_setCell_other Z _ w.heap.size _ (show w.heap.size ≠ C by omega)).trans b4
    obtain ⟨x0, x1, x2, x3, x4, x5⟩ := six_cells hzb
    obtain ⟨y0, y1, y2, y3, y4, y5⟩ := six_cells b4
    obtain ⟨t0, t1, t2, t3, t4, t5⟩ := six_free b4
    have nB : col w.heap.size = none := h.fresh (Nat.le_refl _)
    have lB : w0.heap.size ≤ w.heap.size := h.bel.size
    refine ⟨by omega, by omega, by omega, by omega, K1.cell hc (by omega) q20, free_of_block K1.blk _, x0, x1, x2, x3, x4, x5, y0, y1, y2, y3, y4, y5, t0, t1, t2, t3, t4, t5, six_cells (drewH ((heap_setCell_other Z _ Bx _ (show Bx ≠ C by omega)).trans hzb)), six_cells (drewH ((six_oth (Z.setCell ⟨C, k * 24 + 20, none⟩ (.int .i64 ((c.pl : Int) + 1))) (show Bx ≠ w.heap.size by omega) (.int .u8 (v / 72057594037927936)) (.int .u8 (v / 4503599627370496 % 16)) (.int .u8 (v / 281474976710656 % 16)) (.int .u8 (v / 17592186044416 % 16)) (.int .u8 (v / 1099511627776 % 16)) (.int .u32 (v % 4294967296))).trans ((heap_setCell_other Z _ Bx _ (show Bx ≠ C by omega)).trans hzb))), drewH (six_blk (b5 0) (.int .u8 (v / 72057594037927936)) (.int .u8 (v / 4503599627370496 % 16)) (.int .u8 (v / 281474976710656 % 16)) (.int .u8 (v / 17592186044416 % 16)) (.int .u8 (v / 1099511627776 % 16)) (.int .u32 (v % 4294967296))), ?_, ?_⟩
    · exact MX.keep ((((((m1.other (p := ⟨_, 0, none⟩) nB lB _).other (p := ⟨_, 1, none⟩) nB lB _).other (p := ⟨_, 2, none⟩) nB lB _).other (p := ⟨_, 3, none⟩) nB lB _).other (p := ⟨_, 4, none⟩) nB lB _).other (p := ⟨_, 5, none⟩) nB lB _) ((Q.refl _).drew)
    · have e2 := (Ex.q hqz).trans e1
      exact Ex.drew1 ((((((e2.set (p := ⟨_, 0, none⟩) (.inr (Nat.le_refl _)) _).set (p := ⟨_, 1, none⟩) (.inr (Nat.le_refl _)) _).set (p := ⟨_, 2, none⟩) (.inr (Nat.le_refl _)) _).set (p := ⟨_, 3, none⟩) (.inr (Nat.le_refl _)) _).set (p := ⟨_, 4, none⟩) (.inr (Nat.le_refl _)) _).set (p := ⟨_, 5, none⟩) (.inr (Nat.le_refl _)) _))
  have CF := hideIt (fun X => Nu.form_any (v / 4503599627370496 % 16) X)
  have d5 : decide (v / 4503599627370496 % 16 ≤ 5) = false := by unfold ft at g4; simpa using g4
  have dm : decide (mx3 (v / 281474976710656 % 16) (v / 17592186044416 % 16) (v / 1099511627776 % 16) < 8) = true := by unfold mx3; unfold fd at g1; unfold fa at g2; unfold fb at g3; simp; omega
  have z1 : IntKind.i64.wrap ((c.pl : Int) + 1) = (c.pl : Int) + 1 := by rw [IntKind.wrap_i64]; omega
  clear h K g0 g1 g2 g3 g4 hU
  go_enter Try.func38, Try.ntmps38
  go_wp2_with (fail)
  go_quiet (fail)
  go_wp2_with (fail)
  refine wp_region_held_drew (S := fun y : World => Q (w.alloc (.cells #[.int .u8 0, .int .u8 0, .int .u8 0, .int .u8 0, .int .u8 0, .int .u32 0] 88)) y ∧ y.cell? ⟨R, 2, none⟩ = some (.slice (some ⟨b, o, none⟩) im.ws.length im.wc) ∧ y.cell? ⟨C, k * 24 + 20, none⟩ = some (.int .i64 (c.pl : Int)) ∧ y.cell? ⟨b, o + c.pl, none⟩ = some (.int .u64 v)) (by kernel_rfl) (FS.out _ ((Q.refl _).drewN _).drew) (fun hHeld => ?_)
  refine wpAnyH_take (i := 0) (oi := ⟨_, _, _, _, _, _⟩) (v := ?_) rfl (by kernel_rfl) (by kernel_rfl) (by kernel_rfl) (fun _ _ _ h => h) (Or.inl ⟨by rfl, ?_⟩) (by assumption) ?_
  rotate_left 1
  · intro w hSw; (try dsimp only at hSw); go_simp; all_goals with_reducible rfl
  try simp only [Act.put, List.setIfInBounds_toArray, List.set_cons_zero, List.set_cons_succ]
  refine wpAnyH_take (i := 1) (oi := ⟨_, _, _, _, _, _⟩) (v := ?_) rfl (by kernel_rfl) (by kernel_rfl) (by kernel_rfl) (fun _ _ _ h => h) (Or.inl ⟨by rfl, ?_⟩) (by assumption) ?_
  rotate_left 1
  · intro w hSw; (try dsimp only at hSw); go_simp; all_goals with_reducible rfl
  try simp only [Act.put, List.setIfInBounds_toArray, List.set_cons_zero, List.set_cons_succ]
  refine wpAnyH_take (i := 2) (oi := ⟨_, _, _, _, _, _⟩) (v := ?_) rfl (by kernel_rfl) (by kernel_rfl) (by kernel_rfl) (fun _ _ _ h => h) (Or.inl ⟨by rfl, ?_⟩) (by assumption) ?_
  rotate_left 1
  · intro w hSw; (try dsimp only at hSw); go_simp; all_goals with_reducible rfl
  try simp only [Act.put, List.setIfInBounds_toArray, List.set_cons_zero, List.set_cons_succ]
  refine wpAnyH_take (i := 3) (oi := ⟨_, _, _, _, _, _⟩) (v := ?_) rfl (by kernel_rfl) (by kernel_rfl) (by kernel_rfl) (fun _ _ _ h => h) (Or.inl ⟨by rfl, ?_⟩) (by assumption) ?_
  rotate_left 1
  · intro w hSw; (try dsimp only at hSw); go_simp; all_goals with_reducible rfl
  try simp only [Act.put, List.setIfInBounds_toArray, List.set_cons_zero, List.set_cons_succ]
  refine wpAnyH_take (i := 4) (oi := ⟨_, _, _, _, _, _⟩) (v := ?_) rfl (by kernel_rfl) (by kernel_rfl) (by kernel_rfl) (fun _ _ _ h => h) (Or.inl ⟨by rfl, ?_⟩) (by assumption) ?_
  rotate_left 1
  · intro w hSw; (try dsimp only at hSw); go_simp; all_goals with_reducible rfl
  try simp only [Act.put, List.setIfInBounds_toArray, List.set_cons_zero, List.set_cons_succ]
  refine wpAnyH_take (i := 5) (oi := ⟨_, _, _, _, _, _⟩) (v := ?_) rfl (by kernel_rfl) (by kernel_rfl) (by kernel_rfl) (fun _ _ _ h => h) (Or.inl ⟨by rfl, ?_⟩) (by assumption) ?_
  rotate_left 1
  · intro w hSw; (try dsimp only at hSw); go_simp; all_goals with_reducible rfl
  try simp only [Act.put, List.setIfInBounds_toArray, List.set_cons_zero, List.set_cons_succ]
  refine wpAnyH_take (i := 6) (oi := ⟨_, _, _, _, _, _⟩) (v := ?_) rfl (by kernel_rfl) (by kernel_rfl) (by kernel_rfl) (fun _ _ _ h => h) (Or.inl ⟨by rfl, ?_⟩) (by assumption) ?_
  rotate_left 1
  · intro w hSw; (try dsimp only at hSw); go_simp; all_goals with_reducible rfl
  try simp only [Act.put, List.setIfInBounds_toArray, List.set_cons_zero, List.set_cons_succ]
  refine wpAnyH_take (i := 7) (oi := ⟨_, _, _, _, _, _⟩) (v := ?_) rfl (by kernel_rfl) (by kernel_rfl) (by kernel_rfl) (fun _ _ _ h => h) (Or.inl ⟨by rfl, ?_⟩) (by assumption) ?_
  rotate_left 1
  · intro w hSw; (try dsimp only at hSw); go_simp; all_goals with_reducible rfl
  try simp only [Act.put, List.setIfInBounds_toArray, List.set_cons_zero, List.set_cons_succ]
  refine wpAnyH_take (i := 8) (oi := ⟨_, _, _, _, _, _⟩) (v := ?_) rfl (by kernel_rfl) (by kernel_rfl) (by kernel_rfl) (fun _ _ _ h => h) (Or.inl ⟨by rfl, ?_⟩) (by assumption) ?_
  rotate_left 1
  · intro w hSw; (try dsimp only at hSw); go_simp; all_goals with_reducible rfl
  try simp only [Act.put, List.setIfInBounds_toArray, List.set_cons_zero, List.set_cons_succ]
  refine wpAnyH_take (i := 9) (oi := ⟨_, _, _, _, _, _⟩) (v := ?_) rfl (by kernel_rfl) (by kernel_rfl) (by kernel_rfl) (fun _ _ _ h => h) (Or.inl ⟨by rfl, ?_⟩) (by assumption) ?_
  rotate_left 1
  · intro w hSw; (try dsimp only at hSw); go_simp; all_goals with_reducible rfl
  try simp only [Act.put, List.setIfInBounds_toArray, List.set_cons_zero, List.set_cons_succ]
  refine wpAnyH_take (i := 10) (oi := ⟨_, _, _, _, _, _⟩) (v := ?_) rfl (by kernel_rfl) (by kernel_rfl) (by kernel_rfl) (fun _ _ _ h => h) (Or.inl ⟨by rfl, ?_⟩) (by assumption) ?_
  rotate_left 1
  · intro w hSw; (try dsimp only at hSw); go_simp; all_goals with_reducible rfl
  try simp only [Act.put, List.setIfInBounds_toArray, List.set_cons_zero, List.set_cons_succ]
  refine wpAnyH_ready (rs := [11, 15]) (by kernel_rfl) (by simp) (AllReadyH.cons (o := ⟨_, _, _, _, _, _⟩) rfl (fun K hK => ?_) (AllReadyH.cons (o := ⟨_, _, _, _, _, _⟩) rfl (fun K hK => ?_) AllReadyH.nil))
  · go_simp
    go_at_call 44; refine (CD.out _).mono ?_; rintro e y ⟨rfl, qy⟩
    refine hK.out _ _ ?_ (fun hHeld => ?_)
    · exact FS.out _ (hHeld.1.trans qy)
    clear hK K
    try simp only [Act.put, List.setIfInBounds_toArray, List.set_cons_zero, List.set_cons_succ]
    refine wpAnyH_take (i := 12) (oi := ⟨_, _, _, _, _, _⟩) (v := ?_) rfl (by kernel_rfl) (by kernel_rfl) (by kernel_rfl) (fun _ _ _ h => h) (Or.inl ⟨by rfl, ?_⟩) (by assumption) ?_
    rotate_left 1
    · intro w hSw; (try dsimp only at hSw); go_simp; all_goals with_reducible rfl
    try simp only [Act.put, List.setIfInBounds_toArray, List.set_cons_zero, List.set_cons_succ]
    refine wpAnyH_take (i := 13) (oi := ⟨_, _, _, _, _, _⟩) (v := ?_) rfl (by kernel_rfl) (by kernel_rfl) (by kernel_rfl) (fun _ _ _ h => h) (Or.inl ⟨by rfl, ?_⟩) (by assumption) ?_
    rotate_left 1
    · intro w hSw; (try dsimp only at hSw); go_simp; all_goals with_reducible rfl
    try simp only [Act.put, List.setIfInBounds_toArray, List.set_cons_zero, List.set_cons_succ]
    refine wpAnyH_take (i := 14) (oi := ⟨_, _, _, _, _, _⟩) (v := ?_) rfl (by kernel_rfl) (by kernel_rfl) (by kernel_rfl) (fun _ _ _ h => h) (Or.inl ⟨by rfl, ?_⟩) (by assumption) ?_
    rotate_left 1
    · intro w hSw; (try dsimp only at hSw); go_simp; all_goals with_reducible rfl
    try simp only [Act.put, List.setIfInBounds_toArray, List.set_cons_zero, List.set_cons_succ]
    refine wpAnyH_ready (rs := [15]) (by kernel_rfl) (by simp) (AllReadyH.cons (o := ⟨_, _, _, _, _, _⟩) rfl (fun K hK => ?_) AllReadyH.nil)
    go_simp
    refine hK.out _ _ ?_ (fun hHeld => ?_)
    · exact FS.out _ (hHeld.1.alloc _)
    clear hK K
    try simp only [Act.put, List.setIfInBounds_toArray, List.set_cons_zero, List.set_cons_succ]
    refine wpAnyH_ready (rs := [16]) (by kernel_rfl) (by simp) (AllReadyH.cons (o := ⟨_, _, _, _, _, _⟩) rfl (fun K hK => ?_) AllReadyH.nil)
    go_simp
    refine hK.out _ _ ?_ (fun hHeld => ?_)
    · exact FS.out _ ((((Q.refl _).drewN (nq + 1)).trans qy).alloc _)
    clear hK K
    try simp only [Act.put, List.setIfInBounds_toArray, List.set_cons_zero, List.set_cons_succ]
    refine wpAnyH_take (i := 17) (oi := ⟨_, _, _, _, _, _⟩) (v := ?_) rfl (by kernel_rfl) (by kernel_rfl) (by kernel_rfl) (fun _ _ _ h => h) (Or.inl ⟨by rfl, ?_⟩) (by assumption) ?_
    rotate_left 1
    · intro w hSw; (try dsimp only at hSw); go_simp; all_goals with_reducible rfl
    try simp only [Act.put, List.setIfInBounds_toArray, List.set_cons_zero, List.set_cons_succ]
    refine wpAnyH_done (by kernel_rfl) ?_ _
    have hzb := heap_new y (.cells #[.int .u8 (v / 72057594037927936), .int .u8 (v / 4503599627370496 % 16), .int .u8 (v / 281474976710656 % 16), .int .u8 (v / 17592186044416 % 16), .int .u8 (v / 1099511627776 % 16), .int .u32 (v % 4294967296)] 88 (0, 0))
    have hzq := (hHeld.1 : Q (w.alloc (.cells #[.int .u8 0, .int .u8 0, .int .u8 0, .int .u8 0, .int .u8 0, .int .u32 0] 88)) (y.alloc (.cells #[.int .u8 (v / 72057594037927936), .int .u8 (v / 4503599627370496 % 16), .int .u8 (v / 281474976710656 % 16), .int .u8 (v / 17592186044416 % 16), .int .u8 (v / 1099511627776 % 16), .int .u32 (v % 4294967296)] 88)))
    have hbe : ((w.alloc (.cells #[.int .u8 0, .int .u8 0, .int .u8 0, .int .u8 0, .int .u8 0, .int .u32 0] 88)).drewN (nq + 1)).heap.size = w.heap.size + 1 := by show (w.alloc (.cells #[.int .u8 0, .int .u8 0, .int .u8 0, .int .u8 0, .int .u8 0, .int .u32 0] 88)).heap.size = _; simp
    have hbx : w.heap.size + 1 ≤ y.heap.size := by rw [← hbe]; exact qy.size
    generalize hZ : y.alloc (.cells #[.int .u8 (v / 72057594037927936), .int .u8 (v / 4503599627370496 % 16), .int .u8 (v / 281474976710656 % 16), .int .u8 (v / 17592186044416 % 16), .int .u8 (v / 1099511627776 % 16), .int .u32 (v % 4294967296)] 88) = Z at *
    generalize hBx : y.heap.size = Bx at *
    obtain ⟨n1, n2, n3, n4, p20, pf, x0, x1, x2, x3, x4, x5, y0, y1, y2, y3, y4, y5, f0', f1', f2', f3', f4', f5', xb, xc, fin⟩ := HT.out Z Bx hzb hzq hbx
    have FIN := hideIt fin
    have XB := hideIt xb
    have XC := hideIt xc
    clear fin xb xc hzb hzq qy HT FS CD
    (try clear hZ); (try clear hBx); (try clear hbe); (try clear hbx); (try clear HBX); (try clear hHeld); (try clear c2); (try clear c20); (try clear cw); (try clear hd); (try clear hpl2)
    go_wp2_with (fail)
    refine wp_region_held_drew (S := fun y : World => y.cell? ⟨Bx, 0, none⟩ = some (.int .u8 (v / 72057594037927936)) ∧ y.cell? ⟨Bx, 1, none⟩ = some (.int .u8 (v / 4503599627370496 % 16)) ∧ y.cell? ⟨Bx, 2, none⟩ = some (.int .u8 (v / 281474976710656 % 16)) ∧ y.cell? ⟨Bx, 3, none⟩ = some (.int .u8 (v / 17592186044416 % 16)) ∧ y.cell? ⟨Bx, 4, none⟩ = some (.int .u8 (v / 1099511627776 % 16)) ∧ y.cell? ⟨Bx, 5, none⟩ = some (.int .u32 (v % 4294967296))) (by kernel_rfl) (XB.out) (fun hHeld => ?_)
    refine wpAnyH_take (i := 0) (oi := ⟨_, _, _, _, _, _⟩) (v := ?_) rfl (by kernel_rfl) (by kernel_rfl) (by kernel_rfl) (fun _ _ _ h => h) (Or.inl ⟨by rfl, ?_⟩) (by assumption) ?_
    rotate_left 1
    · intro w hSw; (try dsimp only at hSw); go_simp; all_goals with_reducible rfl
    try simp only [Act.put, List.setIfInBounds_toArray, List.set_cons_zero, List.set_cons_succ]
    refine wpAnyH_take (i := 1) (oi := ⟨_, _, _, _, _, _⟩) (v := ?_) rfl (by kernel_rfl) (by kernel_rfl) (by kernel_rfl) (fun _ _ _ h => h) (Or.inl ⟨by rfl, ?_⟩) (by assumption) ?_
    rotate_left 1
    · intro w hSw; (try dsimp only at hSw); go_simp; all_goals with_reducible rfl
    try simp only [Act.put, List.setIfInBounds_toArray, List.set_cons_zero, List.set_cons_succ]
    refine wpAnyH_take (i := 2) (oi := ⟨_, _, _, _, _, _⟩) (v := ?_) rfl (by kernel_rfl) (by kernel_rfl) (by kernel_rfl) (fun _ _ _ h => h) (Or.inl ⟨by rfl, ?_⟩) (by assumption) ?_
    rotate_left 1
    · intro w hSw; (try dsimp only at hSw); go_simp; all_goals with_reducible rfl
    try simp only [Act.put, List.setIfInBounds_toArray, List.set_cons_zero, List.set_cons_succ]
    refine wpAnyH_take (i := 3) (oi := ⟨_, _, _, _, _, _⟩) (v := ?_) rfl (by kernel_rfl) (by kernel_rfl) (by kernel_rfl) (fun _ _ _ h => h) (Or.inl ⟨by rfl, ?_⟩) (by assumption) ?_
    rotate_left 1
    · intro w hSw; (try dsimp only at hSw); go_simp; all_goals with_reducible rfl
    try simp only [Act.put, List.setIfInBounds_toArray, List.set_cons_zero, List.set_cons_succ]
    refine wpAnyH_take (i := 4) (oi := ⟨_, _, _, _, _, _⟩) (v := ?_) rfl (by kernel_rfl) (by kernel_rfl) (by kernel_rfl) (fun _ _ _ h => h) (Or.inl ⟨by rfl, ?_⟩) (by assumption) ?_
    rotate_left 1
    · intro w hSw; (try dsimp only at hSw); go_simp; all_goals with_reducible rfl
    try simp only [Act.put, List.setIfInBounds_toArray, List.set_cons_zero, List.set_cons_succ]
    refine wpAnyH_take (i := 5) (oi := ⟨_, _, _, _, _, _⟩) (v := ?_) rfl (by kernel_rfl) (by kernel_rfl) (by kernel_rfl) (fun _ _ _ h => h) (Or.inl ⟨by rfl, ?_⟩) (by assumption) ?_
    rotate_left 1
    · intro w hSw; (try dsimp only at hSw); go_simp; all_goals with_reducible rfl
    try simp only [Act.put, List.setIfInBounds_toArray, List.set_cons_zero, List.set_cons_succ]
    refine wpAnyH_take (i := 6) (oi := ⟨_, _, _, _, _, _⟩) (v := ?_) rfl (by kernel_rfl) (by kernel_rfl) (by kernel_rfl) (fun _ _ _ h => h) (Or.inl ⟨by rfl, ?_⟩) (by assumption) ?_
    rotate_left 1
    · intro w hSw; (try dsimp only at hSw); go_simp; all_goals with_reducible rfl
    try simp only [Act.put, List.setIfInBounds_toArray, List.set_cons_zero, List.set_cons_succ]
    refine wpAnyH_take (i := 7) (oi := ⟨_, _, _, _, _, _⟩) (v := ?_) rfl (by kernel_rfl) (by kernel_rfl) (by kernel_rfl) (fun _ _ _ h => h) (Or.inl ⟨by rfl, ?_⟩) (by assumption) ?_
    rotate_left 1
    · intro w hSw; (try dsimp only at hSw); go_simp; all_goals with_reducible rfl
    try simp only [Act.put, List.setIfInBounds_toArray, List.set_cons_zero, List.set_cons_succ]
    refine wpAnyH_take (i := 8) (oi := ⟨_, _, _, _, _, _⟩) (v := ?_) rfl (by kernel_rfl) (by kernel_rfl) (by kernel_rfl) (fun _ _ _ h => h) (Or.inl ⟨by rfl, ?_⟩) (by assumption) ?_
    rotate_left 1
    · intro w hSw; (try dsimp only at hSw); go_simp; all_goals with_reducible rfl
    try simp only [Act.put, List.setIfInBounds_toArray, List.set_cons_zero, List.set_cons_succ]
    refine wpAnyH_take (i := 9) (oi := ⟨_, _, _, _, _, _⟩) (v := ?_) rfl (by kernel_rfl) (by kernel_rfl) (by kernel_rfl) (fun _ _ _ h => h) (Or.inl ⟨by rfl, ?_⟩) (by assumption) ?_
    rotate_left 1
    · intro w hSw; (try dsimp only at hSw); go_simp; all_goals with_reducible rfl
    try simp only [Act.put, List.setIfInBounds_toArray, List.set_cons_zero, List.set_cons_succ]
    refine wpAnyH_take (i := 10) (oi := ⟨_, _, _, _, _, _⟩) (v := ?_) rfl (by kernel_rfl) (by kernel_rfl) (by kernel_rfl) (fun _ _ _ h => h) (Or.inl ⟨by rfl, ?_⟩) (by assumption) ?_
    rotate_left 1
    · intro w hSw; (try dsimp only at hSw); go_simp; all_goals with_reducible rfl
    try simp only [Act.put, List.setIfInBounds_toArray, List.set_cons_zero, List.set_cons_succ]
    refine wpAnyH_take (i := 11) (oi := ⟨_, _, _, _, _, _⟩) (v := ?_) rfl (by kernel_rfl) (by kernel_rfl) (by kernel_rfl) (fun _ _ _ h => h) (Or.inl ⟨by rfl, ?_⟩) (by assumption) ?_
    rotate_left 1
    · intro w hSw; (try dsimp only at hSw); go_simp; (try simp only [dm]); all_goals with_reducible rfl
    try simp only [Act.put, List.setIfInBounds_toArray, List.set_cons_zero, List.set_cons_succ]
    refine wpAnyH_take (i := 12) (oi := ⟨_, _, _, _, _, _⟩) (v := ?_) rfl (by kernel_rfl) (by kernel_rfl) (by kernel_rfl) (fun _ _ _ h => h) (Or.inl ⟨by rfl, ?_⟩) (by assumption) ?_
    rotate_left 1
    · intro w hSw; (try dsimp only at hSw); go_simp; all_goals with_reducible rfl
    try simp only [Act.put, List.setIfInBounds_toArray, List.set_cons_zero, List.set_cons_succ]
    refine wpAnyH_take (i := 13) (oi := ⟨_, _, _, _, _, _⟩) (v := ?_) rfl (by kernel_rfl) (by kernel_rfl) (by kernel_rfl) (fun _ _ _ h => h) (Or.inl ⟨by rfl, ?_⟩) (by assumption) ?_
    rotate_left 1
    · intro w hSw; (try dsimp only at hSw); go_simp; all_goals with_reducible rfl
    try simp only [Act.put, List.setIfInBounds_toArray, List.set_cons_zero, List.set_cons_succ]
    refine wpAnyH_take (i := 14) (oi := ⟨_, _, _, _, _, _⟩) (v := ?_) rfl (by kernel_rfl) (by kernel_rfl) (by kernel_rfl) (fun _ _ _ h => h) (Or.inl ⟨by rfl, ?_⟩) (by assumption) ?_
    rotate_left 1
    · intro w hSw; (try dsimp only at hSw); go_simp; all_goals with_reducible rfl
    try simp only [Act.put, List.setIfInBounds_toArray, List.set_cons_zero, List.set_cons_succ]
    refine wpAnyH_take (i := 15) (oi := ⟨_, _, _, _, _, _⟩) (v := ?_) rfl (by kernel_rfl) (by kernel_rfl) (by kernel_rfl) (fun _ _ _ h => h) (Or.inl ⟨by rfl, ?_⟩) (by assumption) ?_
    rotate_left 1
    · intro w hSw; (try dsimp only at hSw); go_simp; all_goals with_reducible rfl
    try simp only [Act.put, List.setIfInBounds_toArray, List.set_cons_zero, List.set_cons_succ]
    refine wpAnyH_ready (rs := [16]) (by kernel_rfl) (by simp) (AllReadyH.cons (o := ⟨_, _, _, _, _, _⟩) rfl (fun K hK => ?_) AllReadyH.nil)
    go_simp
    go_at_call 45; refine (CF.out _).mono ?_; rintro e u ⟨rfl, rfl⟩
    refine hK.out _ _ ?_ (fun hHeld => ?_)
    · exact hHeld
    clear hK K
    try simp only [Act.put, List.setIfInBounds_toArray, List.set_cons_zero, List.set_cons_succ]
    refine wpAnyH_take (i := 17) (oi := ⟨_, _, _, _, _, _⟩) (v := ?_) rfl (by kernel_rfl) (by kernel_rfl) (by kernel_rfl) (fun _ _ _ h => h) (Or.inl ⟨by rfl, ?_⟩) (by assumption) ?_
    rotate_left 1
    · intro w hSw; (try dsimp only at hSw); go_simp; all_goals with_reducible rfl
    try simp only [Act.put, List.setIfInBounds_toArray, List.set_cons_zero, List.set_cons_succ]
    refine wpAnyH_ready (rs := [18]) (by kernel_rfl) (by simp) (AllReadyH.cons (o := ⟨_, _, _, _, _, _⟩) rfl (fun K hK => ?_) AllReadyH.nil)
    go_simp
    refine hK.out _ _ ?_ (fun hHeld => ?_)
    · exact XC.out
    clear hK K
    try simp only [Act.put, List.setIfInBounds_toArray, List.set_cons_zero, List.set_cons_succ]
    refine wpAnyH_take (i := 19) (oi := ⟨_, _, _, _, _, _⟩) (v := ?_) rfl (by kernel_rfl) (by kernel_rfl) (by kernel_rfl) (fun _ _ _ h => h) (Or.inl ⟨by rfl, ?_⟩) (by assumption) ?_
    rotate_left 1
    · intro w hSw; (try dsimp only at hSw); go_simp; all_goals with_reducible rfl
    try simp only [Act.put, List.setIfInBounds_toArray, List.set_cons_zero, List.set_cons_succ]
    refine wpAnyH_done (by kernel_rfl) ?_ _
    go_wp2_with (fail)
    obtain ⟨q1, q2, q3⟩ := FIN.out
    obtain ⟨z0, z1, z2, z3, z4, z5⟩ := six_cells q1
    exact bodyPost_ret (v := .tuple #[.agg #[.int .u8 (v / 72057594037927936), .int .u8 (v / 4503599627370496 % 16), .int .u8 (v / 281474976710656 % 16), .int .u8 (v / 17592186044416 % 16), .int .u8 (v / 1099511627776 % 16), .int .u32 (v % 4294967296)], .bool false]) (by simp [results, Try.results38, go_sem, z0, z1, z2, z3, z4, z5]) rfl ⟨rfl, q2, q3⟩
  · go_simp
    refine hK.out _ _ ?_ (fun hHeld => ?_)
    · exact FS.out _ (hHeld.1.alloc _)
    clear hK K
    try simp only [Act.put, List.setIfInBounds_toArray, List.set_cons_zero, List.set_cons_succ]
    refine wpAnyH_ready (rs := [11]) (by kernel_rfl) (by simp) (AllReadyH.cons (o := ⟨_, _, _, _, _, _⟩) rfl (fun K hK => ?_) AllReadyH.nil)
    go_simp
    go_at_call 44; refine (CD.out _).mono ?_; rintro e y ⟨rfl, qy⟩; have hb := boxf qy; rw [show ((w.alloc (.cells #[.int .u8 0, .int .u8 0, .int .u8 0, .int .u8 0, .int .u8 0, .int .u32 0] 88)).drewN (nq + 1)).heap.size = w.heap.size + 1 by show (w.alloc (.cells #[.int .u8 0, .int .u8 0, .int .u8 0, .int .u8 0, .int .u8 0, .int .u32 0] 88)).heap.size = _; simp] at hb; obtain ⟨b0, b1, b2, b3, b4, b5⟩ := six_cells hb; obtain ⟨t0, t1, t2, t3, t4, t5⟩ := six_free hb
    refine hK.out _ _ ?_ (fun hHeld => ?_)
    · exact FS.out _ (hHeld.1.trans qy)
    clear hK K
    try simp only [Act.put, List.setIfInBounds_toArray, List.set_cons_zero, List.set_cons_succ]
    refine wpAnyH_take (i := 12) (oi := ⟨_, _, _, _, _, _⟩) (v := ?_) rfl (by kernel_rfl) (by kernel_rfl) (by kernel_rfl) (fun _ _ _ h => h) (Or.inl ⟨by rfl, ?_⟩) (by assumption) ?_
    rotate_left 1
    · intro w hSw; (try dsimp only at hSw); go_simp; all_goals with_reducible rfl
    try simp only [Act.put, List.setIfInBounds_toArray, List.set_cons_zero, List.set_cons_succ]
    refine wpAnyH_take (i := 13) (oi := ⟨_, _, _, _, _, _⟩) (v := ?_) rfl (by kernel_rfl) (by kernel_rfl) (by kernel_rfl) (fun _ _ _ h => h) (Or.inl ⟨by rfl, ?_⟩) (by assumption) ?_
    rotate_left 1
    · intro w hSw; (try dsimp only at hSw); go_simp; all_goals with_reducible rfl
    try simp only [Act.put, List.setIfInBounds_toArray, List.set_cons_zero, List.set_cons_succ]
    refine wpAnyH_take (i := 14) (oi := ⟨_, _, _, _, _, _⟩) (v := ?_) rfl (by kernel_rfl) (by kernel_rfl) (by kernel_rfl) (fun _ _ _ h => h) (Or.inl ⟨by rfl, ?_⟩) (by assumption) ?_
    rotate_left 1
    · intro w hSw; (try dsimp only at hSw); go_simp; all_goals with_reducible rfl
    try simp only [Act.put, List.setIfInBounds_toArray, List.set_cons_zero, List.set_cons_succ]
    refine wpAnyH_ready (rs := [16]) (by kernel_rfl) (by simp) (AllReadyH.cons (o := ⟨_, _, _, _, _, _⟩) rfl (fun K hK => ?_) AllReadyH.nil)
    go_simp
    refine hK.out _ _ ?_ (fun hHeld => ?_)
    · exact FS.out _ (six_q hHeld.1 (by simp) _ _ _ _ _ _)
    clear hK K
    try simp only [Act.put, List.setIfInBounds_toArray, List.set_cons_zero, List.set_cons_succ]
    refine wpAnyH_take (i := 17) (oi := ⟨_, _, _, _, _, _⟩) (v := ?_) rfl (by kernel_rfl) (by kernel_rfl) (by kernel_rfl) (fun _ _ _ h => h) (Or.inl ⟨by rfl, ?_⟩) (by assumption) ?_
    rotate_left 1
    · intro w hSw; (try dsimp only at hSw); go_simp; all_goals with_reducible rfl
    try simp only [Act.put, List.setIfInBounds_toArray, List.set_cons_zero, List.set_cons_succ]
    refine wpAnyH_done (by kernel_rfl) ?_ _
    have hzb := six_blk hb (.int .u8 (v / 72057594037927936)) (.int .u8 (v / 4503599627370496 % 16)) (.int .u8 (v / 281474976710656 % 16)) (.int .u8 (v / 17592186044416 % 16)) (.int .u8 (v / 1099511627776 % 16)) (.int .u32 (v % 4294967296))
    have hzq := (hHeld.1 : Q (w.alloc (.cells #[.int .u8 0, .int .u8 0, .int .u8 0, .int .u8 0, .int .u8 0, .int .u32 0] 88)) ((((((y.setCell ⟨w.heap.size + 1, 0, none⟩ (.int .u8 (v / 72057594037927936))).setCell ⟨w.heap.size + 1, 1, none⟩ (.int .u8 (v / 4503599627370496 % 16))).setCell ⟨w.heap.size + 1, 2, none⟩ (.int .u8 (v / 281474976710656 % 16))).setCell ⟨w.heap.size + 1, 3, none⟩ (.int .u8 (v / 17592186044416 % 16))).setCell ⟨w.heap.size + 1, 4, none⟩ (.int .u8 (v / 1099511627776 % 16))).setCell ⟨w.heap.size + 1, 5, none⟩ (.int .u32 (v % 4294967296))))
    have hbx : w.heap.size + 1 ≤ w.heap.size + 1 := Nat.le_refl _
    dsimp only [six] at hzb
    generalize hZ : (((((y.setCell ⟨w.heap.size + 1, 0, none⟩ (.int .u8 (v / 72057594037927936))).setCell ⟨w.heap.size + 1, 1, none⟩ (.int .u8 (v / 4503599627370496 % 16))).setCell ⟨w.heap.size + 1, 2, none⟩ (.int .u8 (v / 281474976710656 % 16))).setCell ⟨w.heap.size + 1, 3, none⟩ (.int .u8 (v / 17592186044416 % 16))).setCell ⟨w.heap.size + 1, 4, none⟩ (.int .u8 (v / 1099511627776 % 16))).setCell ⟨w.heap.size + 1, 5, none⟩ (.int .u32 (v % 4294967296)) = Z at *
    clear b0 b1 b2 b3 b4 b5 t0 t1 t2 t3 t4 t5 hb
    obtain ⟨Bx, hBx⟩ : ∃ Bx, w.heap.size + 1 = Bx := ⟨_, rfl⟩
    have HBX := hideIt hBx
    obtain ⟨n1, n2, n3, n4, p20, pf, x0, x1, x2, x3, x4, x5, y0, y1, y2, y3, y4, y5, f0', f1', f2', f3', f4', f5', xb, xc, fin⟩ := HT.out Z (w.heap.size + 1) hzb hzq hbx
    have FIN := hideIt fin
    have XB := hideIt xb
    have XC := hideIt xc
    clear fin xb xc hzb hzq qy HT FS CD
    (try clear hZ); (try clear hBx); (try clear hbe); (try clear hbx); (try clear HBX); (try clear hHeld); (try clear c2); (try clear c20); (try clear cw); (try clear hd); (try clear hpl2)
    go_wp2_with (fail)
    refine wp_region_held_drew (S := fun y : World => y.cell? ⟨w.heap.size + 1, 0, none⟩ = some (.int .u8 (v / 72057594037927936)) ∧ y.cell? ⟨w.heap.size + 1, 1, none⟩ = some (.int .u8 (v / 4503599627370496 % 16)) ∧ y.cell? ⟨w.heap.size + 1, 2, none⟩ = some (.int .u8 (v / 281474976710656 % 16)) ∧ y.cell? ⟨w.heap.size + 1, 3, none⟩ = some (.int .u8 (v / 17592186044416 % 16)) ∧ y.cell? ⟨w.heap.size + 1, 4, none⟩ = some (.int .u8 (v / 1099511627776 % 16)) ∧ y.cell? ⟨w.heap.size + 1, 5, none⟩ = some (.int .u32 (v % 4294967296))) (by kernel_rfl) (XB.out) (fun hHeld => ?_)
    refine wpAnyH_take (i := 0) (oi := ⟨_, _, _, _, _, _⟩) (v := ?_) rfl (by kernel_rfl) (by kernel_rfl) (by kernel_rfl) (fun _ _ _ h => h) (Or.inl ⟨by rfl, ?_⟩) (by assumption) ?_
    rotate_left 1
    · intro w hSw; (try dsimp only at hSw); go_simp; all_goals with_reducible rfl
    try simp only [Act.put, List.setIfInBounds_toArray, List.set_cons_zero, List.set_cons_succ]
    refine wpAnyH_take (i := 1) (oi := ⟨_, _, _, _, _, _⟩) (v := ?_) rfl (by kernel_rfl) (by kernel_rfl) (by kernel_rfl) (fun _ _ _ h => h) (Or.inl ⟨by rfl, ?_⟩) (by assumption) ?_
    rotate_left 1
    · intro w hSw; (try dsimp only at hSw); go_simp; all_goals with_reducible rfl
    try simp only [Act.put, List.setIfInBounds_toArray, List.set_cons_zero, List.set_cons_succ]
    refine wpAnyH_take (i := 2) (oi := ⟨_, _, _, _, _, _⟩) (v := ?_) rfl (by kernel_rfl) (by kernel_rfl) (by kernel_rfl) (fun _ _ _ h => h) (Or.inl ⟨by rfl, ?_⟩) (by assumption) ?_
    rotate_left 1
    · intro w hSw; (try dsimp only at hSw); go_simp; all_goals with_reducible rfl
    try simp only [Act.put, List.setIfInBounds_toArray, List.set_cons_zero, List.set_cons_succ]
    refine wpAnyH_take (i := 3) (oi := ⟨_, _, _, _, _, _⟩) (v := ?_) rfl (by kernel_rfl) (by kernel_rfl) (by kernel_rfl) (fun _ _ _ h => h) (Or.inl ⟨by rfl, ?_⟩) (by assumption) ?_
    rotate_left 1
    · intro w hSw; (try dsimp only at hSw); go_simp; all_goals with_reducible rfl
    try simp only [Act.put, List.setIfInBounds_toArray, List.set_cons_zero, List.set_cons_succ]
    refine wpAnyH_take (i := 4) (oi := ⟨_, _, _, _, _, _⟩) (v := ?_) rfl (by kernel_rfl) (by kernel_rfl) (by kernel_rfl) (fun _ _ _ h => h) (Or.inl ⟨by rfl, ?_⟩) (by assumption) ?_
    rotate_left 1
    · intro w hSw; (try dsimp only at hSw); go_simp; all_goals with_reducible rfl
    try simp only [Act.put, List.setIfInBounds_toArray, List.set_cons_zero, List.set_cons_succ]
    refine wpAnyH_take (i := 5) (oi := ⟨_, _, _, _, _, _⟩) (v := ?_) rfl (by kernel_rfl) (by kernel_rfl) (by kernel_rfl) (fun _ _ _ h => h) (Or.inl ⟨by rfl, ?_⟩) (by assumption) ?_
    rotate_left 1
    · intro w hSw; (try dsimp only at hSw); go_simp; all_goals with_reducible rfl
    try simp only [Act.put, List.setIfInBounds_toArray, List.set_cons_zero, List.set_cons_succ]
    refine wpAnyH_take (i := 6) (oi := ⟨_, _, _, _, _, _⟩) (v := ?_) rfl (by kernel_rfl) (by kernel_rfl) (by kernel_rfl) (fun _ _ _ h => h) (Or.inl ⟨by rfl, ?_⟩) (by assumption) ?_
    rotate_left 1
    · intro w hSw; (try dsimp only at hSw); go_simp; all_goals with_reducible rfl
    try simp only [Act.put, List.setIfInBounds_toArray, List.set_cons_zero, List.set_cons_succ]
    refine wpAnyH_take (i := 7) (oi := ⟨_, _, _, _, _, _⟩) (v := ?_) rfl (by kernel_rfl) (by kernel_rfl) (by kernel_rfl) (fun _ _ _ h => h) (Or.inl ⟨by rfl, ?_⟩) (by assumption) ?_
    rotate_left 1
    · intro w hSw; (try dsimp only at hSw); go_simp; all_goals with_reducible rfl
    try simp only [Act.put, List.setIfInBounds_toArray, List.set_cons_zero, List.set_cons_succ]
    refine wpAnyH_take (i := 8) (oi := ⟨_, _, _, _, _, _⟩) (v := ?_) rfl (by kernel_rfl) (by kernel_rfl) (by kernel_rfl) (fun _ _ _ h => h) (Or.inl ⟨by rfl, ?_⟩) (by assumption) ?_
    rotate_left 1
    · intro w hSw; (try dsimp only at hSw); go_simp; all_goals with_reducible rfl
    try simp only [Act.put, List.setIfInBounds_toArray, List.set_cons_zero, List.set_cons_succ]
    refine wpAnyH_take (i := 9) (oi := ⟨_, _, _, _, _, _⟩) (v := ?_) rfl (by kernel_rfl) (by kernel_rfl) (by kernel_rfl) (fun _ _ _ h => h) (Or.inl ⟨by rfl, ?_⟩) (by assumption) ?_
    rotate_left 1
    · intro w hSw; (try dsimp only at hSw); go_simp; all_goals with_reducible rfl
    try simp only [Act.put, List.setIfInBounds_toArray, List.set_cons_zero, List.set_cons_succ]
    refine wpAnyH_take (i := 10) (oi := ⟨_, _, _, _, _, _⟩) (v := ?_) rfl (by kernel_rfl) (by kernel_rfl) (by kernel_rfl) (fun _ _ _ h => h) (Or.inl ⟨by rfl, ?_⟩) (by assumption) ?_
    rotate_left 1
    · intro w hSw; (try dsimp only at hSw); go_simp; all_goals with_reducible rfl
    try simp only [Act.put, List.setIfInBounds_toArray, List.set_cons_zero, List.set_cons_succ]
    refine wpAnyH_take (i := 11) (oi := ⟨_, _, _, _, _, _⟩) (v := ?_) rfl (by kernel_rfl) (by kernel_rfl) (by kernel_rfl) (fun _ _ _ h => h) (Or.inl ⟨by rfl, ?_⟩) (by assumption) ?_
    rotate_left 1
    · intro w hSw; (try dsimp only at hSw); go_simp; (try simp only [dm]); all_goals with_reducible rfl
    try simp only [Act.put, List.setIfInBounds_toArray, List.set_cons_zero, List.set_cons_succ]
    refine wpAnyH_take (i := 12) (oi := ⟨_, _, _, _, _, _⟩) (v := ?_) rfl (by kernel_rfl) (by kernel_rfl) (by kernel_rfl) (fun _ _ _ h => h) (Or.inl ⟨by rfl, ?_⟩) (by assumption) ?_
    rotate_left 1
    · intro w hSw; (try dsimp only at hSw); go_simp; all_goals with_reducible rfl
    try simp only [Act.put, List.setIfInBounds_toArray, List.set_cons_zero, List.set_cons_succ]
    refine wpAnyH_take (i := 13) (oi := ⟨_, _, _, _, _, _⟩) (v := ?_) rfl (by kernel_rfl) (by kernel_rfl) (by kernel_rfl) (fun _ _ _ h => h) (Or.inl ⟨by rfl, ?_⟩) (by assumption) ?_
    rotate_left 1
    · intro w hSw; (try dsimp only at hSw); go_simp; all_goals with_reducible rfl
    try simp only [Act.put, List.setIfInBounds_toArray, List.set_cons_zero, List.set_cons_succ]
    refine wpAnyH_take (i := 14) (oi := ⟨_, _, _, _, _, _⟩) (v := ?_) rfl (by kernel_rfl) (by kernel_rfl) (by kernel_rfl) (fun _ _ _ h => h) (Or.inl ⟨by rfl, ?_⟩) (by assumption) ?_
    rotate_left 1
    · intro w hSw; (try dsimp only at hSw); go_simp; all_goals with_reducible rfl
    try simp only [Act.put, List.setIfInBounds_toArray, List.set_cons_zero, List.set_cons_succ]
    refine wpAnyH_take (i := 15) (oi := ⟨_, _, _, _, _, _⟩) (v := ?_) rfl (by kernel_rfl) (by kernel_rfl) (by kernel_rfl) (fun _ _ _ h => h) (Or.inl ⟨by rfl, ?_⟩) (by assumption) ?_
    rotate_left 1
    · intro w hSw; (try dsimp only at hSw); go_simp; all_goals with_reducible rfl
    try simp only [Act.put, List.setIfInBounds_toArray, List.set_cons_zero, List.set_cons_succ]
    refine wpAnyH_ready (rs := [16]) (by kernel_rfl) (by simp) (AllReadyH.cons (o := ⟨_, _, _, _, _, _⟩) rfl (fun K hK => ?_) AllReadyH.nil)
    go_simp
    go_at_call 45; refine (CF.out _).mono ?_; rintro e u ⟨rfl, rfl⟩
    refine hK.out _ _ ?_ (fun hHeld => ?_)
    · exact hHeld
    clear hK K
    try simp only [Act.put, List.setIfInBounds_toArray, List.set_cons_zero, List.set_cons_succ]
    refine wpAnyH_take (i := 17) (oi := ⟨_, _, _, _, _, _⟩) (v := ?_) rfl (by kernel_rfl) (by kernel_rfl) (by kernel_rfl) (fun _ _ _ h => h) (Or.inl ⟨by rfl, ?_⟩) (by assumption) ?_
    rotate_left 1
    · intro w hSw; (try dsimp only at hSw); go_simp; all_goals with_reducible rfl
    try simp only [Act.put, List.setIfInBounds_toArray, List.set_cons_zero, List.set_cons_succ]
    refine wpAnyH_ready (rs := [18]) (by kernel_rfl) (by simp) (AllReadyH.cons (o := ⟨_, _, _, _, _, _⟩) rfl (fun K hK => ?_) AllReadyH.nil)
    go_simp
    refine hK.out _ _ ?_ (fun hHeld => ?_)
    · exact XC.out
    clear hK K
    try simp only [Act.put, List.setIfInBounds_toArray, List.set_cons_zero, List.set_cons_succ]
    refine wpAnyH_take (i := 19) (oi := ⟨_, _, _, _, _, _⟩) (v := ?_) rfl (by kernel_rfl) (by kernel_rfl) (by kernel_rfl) (fun _ _ _ h => h) (Or.inl ⟨by rfl, ?_⟩) (by assumption) ?_
    rotate_left 1
    · intro w hSw; (try dsimp only at hSw); go_simp; all_goals with_reducible rfl
    try simp only [Act.put, List.setIfInBounds_toArray, List.set_cons_zero, List.set_cons_succ]
    refine wpAnyH_done (by kernel_rfl) ?_ _
    go_wp2_with (fail)
    obtain ⟨q1, q2, q3⟩ := FIN.out
    obtain ⟨z0, z1, z2, z3, z4, z5⟩ := six_cells q1
    exact bodyPost_ret (v := .tuple #[.agg #[.int .u8 (v / 72057594037927936), .int .u8 (v / 4503599627370496 % 16), .int .u8 (v / 281474976710656 % 16), .int .u8 (v / 17592186044416 % 16), .int .u8 (v / 1099511627776 % 16), .int .u32 (v % 4294967296)], .bool false]) (by simp [results, Try.results38, go_sem, z0, z1, z2, z3, z4, z5]) rfl ⟨rfl, q2, q3⟩
end
end Go.Proofs.Ytnlgkiejppgfjaa
