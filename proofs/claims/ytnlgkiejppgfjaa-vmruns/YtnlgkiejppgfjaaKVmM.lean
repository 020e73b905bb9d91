/-
  The machine: the next word: a contract over the program; the conditions: the machine lies there.
-/
import Derived.Test.YtnlgkiejppgfjaaKVmI
namespace Go.Proofs.Ytnlgkiejppgfjaa
open Go.RowKit
set_option linter.unusedVariables false

theorem Wds.at {a : Option Addr} {l : List Int} {X : World} (h : Wds X a l) {k : Nat} {x : Int} (hx : l[k]? = some x) : ∃ b o, a = some ⟨b, o, none⟩ ∧ X.cell? ⟨b, o + k, none⟩ = some (.int .u64 x) ∧ Cd.U64 x := by
  obtain ⟨b, o, e, h1, h2⟩ := h k x hx
  rw [Nat.mul_one] at h1
  exact ⟨b, o, e, h1, h2⟩

/-- Six cells are written, one behind the other. -/
abbrev six (X : World) (b : Nat) (u0 u1 u2 u3 u4 u5 : Value) : World := (((((X.setCell ⟨b, 0, none⟩ u0).setCell ⟨b, 1, none⟩ u1).setCell ⟨b, 2, none⟩ u2).setCell ⟨b, 3, none⟩ u3).setCell ⟨b, 4, none⟩ u4).setCell ⟨b, 5, none⟩ u5
theorem six_blk {X : World} {b : Nat} {T : TypeId} {a0 a1 a2 a3 a4 a5 : Value} (h : X.heap[b]? = some (.cells #[a0, a1, a2, a3, a4, a5] T (0, 0))) (u0 u1 u2 u3 u4 u5 : Value) : (six X b u0 u1 u2 u3 u4 u5).heap[b]? = some (.cells #[u0, u1, u2, u3, u4, u5] T (0, 0)) := by
  have h0 := heap_setCell_same X b 0 _ T u0 h
  have h1 := heap_setCell_same _ b 1 _ T u1 h0
  have h2 := heap_setCell_same _ b 2 _ T u2 h1
  have h3 := heap_setCell_same _ b 3 _ T u3 h2
  have h4 := heap_setCell_same _ b 4 _ T u4 h3
  have h5 := heap_setCell_same _ b 5 _ T u5 h4
  rw [h5]
  simp
theorem six_q {a X : World} {b : Nat} (h : Q a X) (hb : a.heap.size ≤ b) (u0 u1 u2 u3 u4 u5 : Value) : Q a (six X b u0 u1 u2 u3 u4 u5) := (((((h.set (p := ⟨b, 0, none⟩) hb u0).set (p := ⟨b, 1, none⟩) hb u1).set (p := ⟨b, 2, none⟩) hb u2).set (p := ⟨b, 3, none⟩) hb u3).set (p := ⟨b, 4, none⟩) hb u4).set (p := ⟨b, 5, none⟩) hb u5
theorem six_oth (X : World) {b k : Nat} (hk : k ≠ b) (u0 u1 u2 u3 u4 u5 : Value) : (six X b u0 u1 u2 u3 u4 u5).heap[k]? = X.heap[k]? := by
  unfold six
  rw [heap_setCell_other _ _ k _ hk, heap_setCell_other _ _ k _ hk, heap_setCell_other _ _ k _ hk, heap_setCell_other _ _ k _ hk, heap_setCell_other _ _ k _ hk, heap_setCell_other _ _ k _ hk]
theorem drewH {X : World} {b : Nat} {o : Obj} (h : X.heap[b]? = some o) : X.drew.heap[b]? = some o := h
theorem Ex.drew1 {c0 c1 : Col} {a b : World} (h : Ex c0 a c1 b) : Ex c0 a c1 b.drew := ⟨h.os, h.tape, h.output, h.size, h.block, h.col⟩
theorem six_cells {X : World} {b : Nat} {T : TypeId} {u0 u1 u2 u3 u4 u5 : Value} (h : X.heap[b]? = some (.cells #[u0, u1, u2, u3, u4, u5] T (0, 0))) : X.cell? ⟨b, 0, none⟩ = some u0 ∧ X.cell? ⟨b, 1, none⟩ = some u1 ∧ X.cell? ⟨b, 2, none⟩ = some u2 ∧ X.cell? ⟨b, 3, none⟩ = some u3 ∧ X.cell? ⟨b, 4, none⟩ = some u4 ∧ X.cell? ⟨b, 5, none⟩ = some u5 :=
  ⟨cell_of_block h 0, cell_of_block h 1, cell_of_block h 2, cell_of_block h 3, cell_of_block h 4, cell_of_block h 5⟩

theorem boxf {X y : World} {a0 a1 a2 a3 a4 a5 : Value} {t : TypeId} (h : Q (X.alloc (.cells #[a0, a1, a2, a3, a4, a5] t)) y) : y.heap[X.heap.size]? = some (.cells #[a0, a1, a2, a3, a4, a5] t (0, 0)) := (h.block _ (by simp)).trans (heap_new X _)
theorem six_free {X : World} {b : Nat} {T : TypeId} {cs : Array Value} (h : X.heap[b]? = some (.cells cs T (0, 0))) : X.frozen? ⟨b, 0, none⟩ = false ∧ X.frozen? ⟨b, 1, none⟩ = false ∧ X.frozen? ⟨b, 2, none⟩ = false ∧ X.frozen? ⟨b, 3, none⟩ = false ∧ X.frozen? ⟨b, 4, none⟩ = false ∧ X.frozen? ⟨b, 5, none⟩ = false :=
  ⟨free_of_block h 0, free_of_block h 1, free_of_block h 2, free_of_block h 3, free_of_block h 4, free_of_block h 5⟩

section
variable {w w' w0 : World} {R : Nat} {col col' : Col} {im : PIm} {mn : Nat} {mem ce : List Int} {cls : List Cl} {W : Nat → List Int} {tr : List Int} {ex : Int} {cv kv tv : Value} {N : Nat}

set_option maxRecDepth 100000 in
theorem next_none {C cap k : Nat} {ks : Array Value} {c : Cl} (h : MX w w0 R col im mn ce cls W tr ex cv (.slice (some ⟨C, 0, none⟩) cls.length cap) tv) (K : KS w w0.heap.size C cap ks col cls W) (hc : cls[k]? = some c) (hcok : c.ok) (hl : im.ws.length ≤ c.pl) (hll : im.ws.length ≤ 9223372036854775807) :
    Calls Try.prog 38 #[.pointer (some ⟨R, 0, none⟩), .pointer (some ⟨C, k * 24, none⟩)] w fun e w' => e = .returned (.tuple #[Cd.wv 0 0 0 0 0 0, .bool false]) ∧ Q w w' := by
  have hq : Q w (w.alloc (.cells #[.int .u8 0, .int .u8 0, .int .u8 0, .int .u8 0, .int .u8 0, .int .u32 0] 88)) := (Q.refl w).alloc _
  have c2 := cell_keep hq h.c0.2.2.1
  obtain ⟨q20, -, -⟩ := Cl.cs_pl hcok
  have c20 := cell_keep hq (K.cell hc (by omega) q20)
  have hd : decide ((im.ws.length : Int) ≤ (c.pl : Int)) = true := by simp; omega
  have ltR := h.ltR
  have ltC := (h.lt C _ K.colC).2
  clear h K
  go_enter Try.func38, Try.ntmps38
  go_wp2_with (fail)
  go_quiet (fail)
  go_wp2_with (fail)
  have bz := six_blk (X := (w.alloc (.cells #[.int .u8 0, .int .u8 0, .int .u8 0, .int .u8 0, .int .u8 0, .int .u32 0] 88)).drewN nq) (heap_new w _) (.int .u8 0) (.int .u8 0) (.int .u8 0) (.int .u8 0) (.int .u8 0) (.int .u32 0)
  have qz := six_q (hq.drewN nq) (Nat.le_refl w.heap.size) (.int .u8 0) (.int .u8 0) (.int .u8 0) (.int .u8 0) (.int .u8 0) (.int .u32 0)
  generalize hZ : six ((w.alloc (.cells #[.int .u8 0, .int .u8 0, .int .u8 0, .int .u8 0, .int .u8 0, .int .u32 0] 88)).drewN nq) w.heap.size (.int .u8 0) (.int .u8 0) (.int .u8 0) (.int .u8 0) (.int .u8 0) (.int .u32 0) = Z at *
  rw [show (((((((w.alloc (.cells #[.int .u8 0, .int .u8 0, .int .u8 0, .int .u8 0, .int .u8 0, .int .u32 0] 88)).drewN nq).setCell ⟨w.heap.size, 0, none⟩ (.int .u8 0)).setCell ⟨w.heap.size, 1, none⟩ (.int .u8 0)).setCell ⟨w.heap.size, 2, none⟩ (.int .u8 0)).setCell ⟨w.heap.size, 3, none⟩ (.int .u8 0)).setCell ⟨w.heap.size, 4, none⟩ (.int .u8 0)).setCell ⟨w.heap.size, 5, none⟩ (.int .u32 0) = Z from hZ]
  obtain ⟨z0, z1, z2, z3, z4, z5⟩ := six_cells bz
  exact bodyPost_ret (v := .tuple #[Cd.wv 0 0 0 0 0 0, .bool false]) (by simp [results, Try.results38, go_sem, z0, z1, z2, z3, z4, z5]) rfl ⟨rfl, qz⟩

theorem Cl.cs_setp {c : Cl} (h : c.ok) (q : Nat) : ({ c with pl := q } : Cl).cs = c.cs.set 20 (.int .i64 (q : Int)) := by
  unfold Cl.cs
  have h1 := h.rg
  have h2 := h.gt
  have h3 := h.rd
  rw [List.set_append_right _ _ (by rw [rowI_len]; omega), rowI_len, h1, List.set_append_right _ _ (by rw [rowI_len]; omega), rowI_len, h2, List.set_append_right _ _ (by rw [rowI_len]; omega), rowI_len, h3]
  rfl

def mx3 (a b c : Int) : Int := max (max a b) c
theorem ite_max3 (x y : Int) : (if y > x then y else x) = max x y := by omega
theorem run_max3 {P : Program} {w : World} (ts : Array TypeId) (t : TypeId) (a b c : Int) : (Builtin.max_ ts t #[.int .u8 a, .int .u8 b, .int .u8 c]).run P w = .ok (.int .u8 (mx3 a b c)) w := by
  simp [Builtin.max_, Builtin.max2, mx3, ite_max3]
  try omega
attribute [local go_sem ↓] run_max3

set_option maxRecDepth 100000 in
set_option maxHeartbeats 20000000 in
/-- Decode has answered: the rest. -/
theorem next_good {C cap k : Nat} {ks : Array Value} {c : Cl} (h : MX w w0 R col im mn ce cls W tr ex cv (.slice (some ⟨C, 0, none⟩) cls.length cap) tv) (K : KS w w0.heap.size C cap ks col cls W) (hc : cls[k]? = some c) (hcok : c.ok) (hok : im.ok w0) {v : Int} (hv : im.ws[c.pl]? = some v) (hlw : im.ws.length ≤ 240000) (hg : goodW v = true) :
    Calls Try.prog 38 #[.pointer (some ⟨R, 0, none⟩), .pointer (some ⟨C, k * 24, none⟩)] w fun e w' => e = .returned (.tuple #[Cd.wv (fo v) (ft v) (fd v) (fa v) (fb v) (fi v), .bool true]) ∧ MX w' w0 R col im mn ce (cls.set k { c with pl := c.pl + 1 }) W tr ex cv (.slice (some ⟨C, 0, none⟩) cls.length cap) tv ∧ Ex col w col w' := by
  have hq : Q w (w.alloc (.cells #[.int .u8 0, .int .u8 0, .int .u8 0, .int .u8 0, .int .u8 0, .int .u32 0] 88)) := (Q.refl w).alloc _
  have c2 := cell_keep hq h.c0.2.2.1
  obtain ⟨q20, -, -⟩ := Cl.cs_pl hcok
  have c20 := cell_keep hq (K.cell hc (by omega) q20)
  have hpl := (List.getElem?_eq_some_iff.1 hv).1
  have hd : decide ((im.ws.length : Int) ≤ (c.pl : Int)) = false := by simp; omega
  obtain ⟨b, o, ewa, cw, hU⟩ := Wds.at hok.ws hv
  have cw := cell_keep (h.bq.trans hq) cw
  rw [ewa] at c2
  have hpl2 : (c.pl : Int) < (im.ws.length : Int) := by omega
  have ltR := h.ltR
  have ltC := (h.lt C _ K.colC).2
  unfold goodW at hg
  simp only [Bool.and_eq_true, decide_eq_true_eq] at hg
  obtain ⟨⟨⟨⟨g0, g1⟩, g2⟩, g3⟩, g4⟩ := hg
  have CD := hideIt (fun X => Cd.dec_ok v X hU g0)
  have FS := hideIt (show ∀ y, Q (w.alloc (.cells #[.int .u8 0, .int .u8 0, .int .u8 0, .int .u8 0, .int .u8 0, .int .u32 0] 88)) y → (fun y : World => Q (w.alloc (.cells #[.int .u8 0, .int .u8 0, .int .u8 0, .int .u8 0, .int .u8 0, .int .u32 0] 88)) y ∧ y.cell? ⟨R, 2, none⟩ = some (.slice (some ⟨b, o, none⟩) im.ws.length im.wc) ∧ y.cell? ⟨C, k * 24 + 20, none⟩ = some (.int .i64 (c.pl : Int)) ∧ y.cell? ⟨b, o + c.pl, none⟩ = some (.int .u64 v)) y from fun y hy => ⟨hy, cell_keep hy c2, cell_keep hy c20, cell_keep hy cw⟩)
  have HT := hideIt (show ∀ (Z : World) (Bx : Nat), Z.heap[Bx]? = some (.cells #[.int .u8 (v / 72057594037927936), .int .u8 (v / 4503599627370496 % 16), .int .u8 (v / 281474976710656 % 16), .int .u8 (v / 17592186044416 % 16), .int .u8 (v / 1099511627776 % 16), .int .u32 (v % 4294967296)] 88 (0, 0)) → Q (w.alloc (.cells #[.int .u8 0, .int .u8 0, .int .u8 0, .int .u8 0, .int .u8 0, .int .u32 0] 88)) Z → w.heap.size + 1 ≤ Bx → ¬ Bx = C ∧ ¬ C = Bx ∧ ¬ w.heap.size = C ∧ ¬ C = w.heap.size ∧ Z.cell? ⟨C, k * 24 + 20, none⟩ = some (.int .i64 (c.pl : Int)) ∧ Z.frozen? ⟨C, k * 24 + 20, none⟩ = false ∧ Z.cell? ⟨Bx, 0, none⟩ = some (.int .u8 (v / 72057594037927936)) ∧ Z.cell? ⟨Bx, 1, none⟩ = some (.int .u8 (v / 4503599627370496 % 16)) ∧ Z.cell? ⟨Bx, 2, none⟩ = some (.int .u8 (v / 281474976710656 % 16)) ∧ Z.cell? ⟨Bx, 3, none⟩ = some (.int .u8 (v / 17592186044416 % 16)) ∧ Z.cell? ⟨Bx, 4, none⟩ = some (.int .u8 (v / 1099511627776 % 16)) ∧ Z.cell? ⟨Bx, 5, none⟩ = some (.int .u32 (v % 4294967296)) ∧ Z.cell? ⟨w.heap.size, 0, none⟩ = some (.int .u8 0) ∧ Z.cell? ⟨w.heap.size, 1, none⟩ = some (.int .u8 0) ∧ Z.cell? ⟨w.heap.size, 2, none⟩ = some (.int .u8 0) ∧ Z.cell? ⟨w.heap.size, 3, none⟩ = some (.int .u8 0) ∧ Z.cell? ⟨w.heap.size, 4, none⟩ = some (.int .u8 0) ∧ Z.cell? ⟨w.heap.size, 5, none⟩ = some (.int .u32 0) ∧ Z.frozen? ⟨w.heap.size, 0, none⟩ = false ∧ Z.frozen? ⟨w.heap.size, 1, none⟩ = false ∧ Z.frozen? ⟨w.heap.size, 2, none⟩ = false ∧ Z.frozen? ⟨w.heap.size, 3, none⟩ = false ∧ Z.frozen? ⟨w.heap.size, 4, none⟩ = false ∧ Z.frozen? ⟨w.heap.size, 5, none⟩ = false ∧ (((Z.setCell ⟨C, k * 24 + 20, none⟩ (.int .i64 ((c.pl : Int) + 1))).drew).cell? ⟨Bx, 0, none⟩ = some (.int .u8 (v / 72057594037927936)) ∧ ((Z.setCell ⟨C, k * 24 + 20, none⟩ (.int .i64 ((c.pl : Int) + 1))).drew).cell? ⟨Bx, 1, none⟩ = some (.int .u8 (v / 4503599627370496 % 16)) ∧ ((Z.setCell ⟨C, k * 24 + 20, none⟩ (.int .i64 ((c.pl : Int) + 1))).drew).cell? ⟨Bx, 2, none⟩ = some (.int .u8 (v / 281474976710656 % 16)) ∧ ((Z.setCell ⟨C, k * 24 + 20, none⟩ (.int .i64 ((c.pl : Int) + 1))).drew).cell? ⟨Bx, 3, none⟩ = some (.int .u8 (v / 17592186044416 % 16)) ∧ ((Z.setCell ⟨C, k * 24 + 20, none⟩ (.int .i64 ((c.pl : Int) + 1))).drew).cell? ⟨Bx, 4, none⟩ = some (.int .u8 (v / 1099511627776 % 16)) ∧ ((Z.setCell ⟨C, k * 24 + 20, none⟩ (.int .i64 ((c.pl : Int) + 1))).drew).cell? ⟨Bx, 5, none⟩ = some (.int .u32 (v % 4294967296))) ∧ (((six (Z.setCell ⟨C, k * 24 + 20, none⟩ (.int .i64 ((c.pl : Int) + 1))) w.heap.size (.int .u8 (v / 72057594037927936)) (.int .u8 (v / 4503599627370496 % 16)) (.int .u8 (v / 281474976710656 % 16)) (.int .u8 (v / 17592186044416 % 16)) (.int .u8 (v / 1099511627776 % 16)) (.int .u32 (v % 4294967296))).drew).cell? ⟨Bx, 0, none⟩ = some (.int .u8 (v / 72057594037927936)) ∧ ((six (Z.setCell ⟨C, k * 24 + 20, none⟩ (.int .i64 ((c.pl : Int) + 1))) w.heap.size (.int .u8 (v / 72057594037927936)) (.int .u8 (v / 4503599627370496 % 16)) (.int .u8 (v / 281474976710656 % 16)) (.int .u8 (v / 17592186044416 % 16)) (.int .u8 (v / 1099511627776 % 16)) (.int .u32 (v % 4294967296))).drew).cell? ⟨Bx, 1, none⟩ = some (.int .u8 (v / 4503599627370496 % 16)) ∧ ((six (Z.setCell ⟨C, k * 24 + 20, none⟩ (.int .i64 ((c.pl : Int) + 1))) w.heap.size (.int .u8 (v / 72057594037927936)) (.int .u8 (v / 4503599627370496 % 16)) (.int .u8 (v / 281474976710656 % 16)) (.int .u8 (v / 17592186044416 % 16)) (.int .u8 (v / 1099511627776 % 16)) (.int .u32 (v % 4294967296))).drew).cell? ⟨Bx, 2, none⟩ = some (.int .u8 (v / 281474976710656 % 16)) ∧ ((six (Z.setCell ⟨C, k * 24 + 20, none⟩ (.int .i64 ((c.pl : Int) + 1))) w.heap.size (.int .u8 (v / 72057594037927936)) (.int .u8 (v / 4503599627370496 % 16)) (.int .u8 (v / 281474976710656 % 16)) (.int .u8 (v / 17592186044416 % 16)) (.int .u8 (v / 1099511627776 % 16)) (.int .u32 (v % 4294967296))).drew).cell? ⟨Bx, 3, none⟩ = some (.int .u8 (v / 17592186044416 % 16)) ∧ ((six (Z.setCell ⟨C, k * 24 + 20, none⟩ (.int .i64 ((c.pl : Int) + 1))) w.heap.size (.int .u8 (v / 72057594037927936)) (.int .u8 (v / 4503599627370496 % 16)) (.int .u8 (v / 281474976710656 % 16)) (.int .u8 (v / 17592186044416 % 16)) (.int .u8 (v / 1099511627776 % 16)) (.int .u32 (v % 4294967296))).drew).cell? ⟨Bx, 4, none⟩ = some (.int .u8 (v / 1099511627776 % 16)) ∧ ((six (Z.setCell ⟨C, k * 24 + 20, none⟩ (.int .i64 ((c.pl : Int) + 1))) w.heap.size (.int .u8 (v / 72057594037927936)) (.int .u8 (v / 4503599627370496 % 16)) (.int .u8 (v / 281474976710656 % 16)) (.int .u8 (v / 17592186044416 % 16)) (.int .u8 (v / 1099511627776 % 16)) (.int .u32 (v % 4294967296))).drew).cell? ⟨Bx, 5, none⟩ = some (.int .u32 (v % 4294967296))) ∧ ((six (Z.setCell ⟨C, k * 24 + 20, none⟩ (.int .i64 ((c.pl : Int) + 1))) w.heap.size (.int .u8 (v / 72057594037927936)) (.int .u8 (v / 4503599627370496 % 16)) (.int .u8 (v / 281474976710656 % 16)) (.int .u8 (v / 17592186044416 % 16)) (.int .u8 (v / 1099511627776 % 16)) (.int .u32 (v % 4294967296))).drew).heap[w.heap.size]? = some (.cells #[.int .u8 (v / 72057594037927936), .int .u8 (v / 4503599627370496 % 16), .int .u8 (v / 281474976710656 % 16), .int .u8 (v / 17592186044416 % 16), .int .u8 (v / 1099511627776 % 16), .int .u32 (v % 4294967296)] 88 (0, 0)) ∧ MX ((six (Z.setCell ⟨C, k * 24 + 20, none⟩ (.int .i64 ((c.pl : Int) + 1))) w.heap.size (.int .u8 (v / 72057594037927936)) (.int .u8 (v / 4503599627370496 % 16)) (.int .u8 (v / 281474976710656 % 16)) (.int .u8 (v / 17592186044416 % 16)) (.int .u8 (v / 1099511627776 % 16)) (.int .u32 (v % 4294967296))).drew) w0 R col im mn ce (cls.set k { c with pl := c.pl + 1 }) W tr ex cv (.slice (some ⟨C, 0, none⟩) cls.length cap) tv ∧ Ex col w col ((six (Z.setCell ⟨C, k * 24 + 20, none⟩ (.int .i64 ((c.pl : Int) + 1))) w.heap.size (.int .u8 (v / 72057594037927936)) (.int .u8 (v / 4503599627370496 % 16)) (.int .u8 (v / 281474976710656 % 16)) (.int .u8 (v / 17592186044416 % 16)) (.int .u8 (v / 1099511627776 % 16)) (.int .u32 (v % 4294967296))).drew) from fun Z Bx hzb hzq hbx => by
    have hqz : Q w Z := hq.trans hzq
    have h1 := h.keep hqz
    have K1 := K.keep (w' := Z) (col' := col) (hqz.block C ltC) (fun b _ hb _ => hqz.block b hb) (fun _ _ => rfl)
    obtain ⟨ks', m1, k1, e1⟩ := h1.put rfl K1 (k := k) (j := 20) (c' := { c with pl := c.pl + 1 }) (u := .int .i64 ((c.pl : Int) + 1)) hc (by omega) (Cl.cs_setp hcok _)
    have b4 : Z.heap[w.heap.size]? = _ := (hzq.block w.heap.size (by simp)).trans (heap_new w _)
    have b5 : ∀ m : Nat, (Z.setCell ⟨C, k * 24 + 20, none⟩ (.int .i64 ((c.pl : Int) + 1))).heap[w.heap.size]? = _ := fun m => (heap_setCell_other Z _ w.heap.size _ (show w.heap.size ≠ C by omega)).trans b4
    obtain ⟨x0, x1, x2, x3, x4, x5⟩ := six_cells hzb
    obtain ⟨y0, y1, y2, y3, y4, y5⟩ := six_cells b4
    obtain ⟨t0, t1, t2, t3, t4, t5⟩ := six_free b4
    have nB : col w.heap.size = none := h.fresh (Nat.le_refl _)
    have lB : w0.heap.size ≤ w.heap.size := h.bel.size
    refine ⟨by omega, by omega, by omega, by omega, K1.cell hc (by omega) q20, free_of_block K1.blk _, x0, x1, x2, x3, x4, x5, y0, y1, y2, y3, y4, y5, t0, t1, t2, t3, t4, t5, six_cells (drewH ((heap_setCell_other Z _ Bx _ (show Bx ≠ C by omega)).trans hzb)), six_cells (drewH ((six_oth (Z.setCell ⟨C, k * 24 + 20, none⟩ (.int .i64 ((c.pl : Int) + 1))) (show Bx ≠ w.heap.size by omega) (.int .u8 (v / 72057594037927936)) (.int .u8 (v / 4503599627370496 % 16)) (.int .u8 (v / 281474976710656 % 16)) (.int .u8 (v / 17592186044416 % 16)) (.int .u8 (v / 1099511627776 % 16)) (.int .u32 (v % 4294967296))).trans ((heap_setCell_other Z _ Bx _ (show Bx ≠ C by omega)).trans hzb))), drewH (six_blk (b5 0) (.int .u8 (v / 72057594037927936)) (.int .u8 (v / 4503599627370496 % 16)) (.int .u8 (v / 281474976710656 % 16)) (.int .u8 (v / 17592186044416 % 16)) (.int .u8 (v / 1099511627776 % 16)) (.int .u32 (v % 4294967296))), ?_, ?_⟩
    · exact MX.keep ((((((m1.other (p := ⟨_, 0, none⟩) nB lB _).other (p := ⟨_, 1, none⟩) nB lB _).other (p := ⟨_, 2, none⟩) nB lB _).other (p := ⟨_, 3, none⟩) nB lB _).other (p := ⟨_, 4, none⟩) nB lB _).other (p := ⟨_, 5, none⟩) nB lB _) ((Q.refl _).drew)
    · have e2 := (Ex.q hqz).trans e1
      exact Ex.drew1 ((((((e2.set (p := ⟨_, 0, none⟩) (.inr (Nat.le_refl _)) _).set (p := ⟨_, 1, none⟩) (.inr (Nat.le_refl _)) _).set (p := ⟨_, 2, none⟩) (.inr (Nat.le_refl _)) _).set (p := ⟨_, 3, none⟩) (.inr (Nat.le_refl _)) _).set (p := ⟨_, 4, none⟩) (.inr (Nat.le_refl _)) _).set (p := ⟨_, 5, none⟩) (.inr (Nat.le_refl _)) _))
  have CF := hideIt (fun X => Nu.form_any (v / 4503599627370496 % 16) X)
  have d5 : decide (v / 4503599627370496 % 16 ≤ 5) = true := by unfold ft at g4; simpa using g4
  have dm : decide (mx3 (v / 281474976710656 % 16) (v / 17592186044416 % 16) (v / 1099511627776 % 16) < 8) = true := by unfold mx3; unfold fd at g1; unfold fa at g2; unfold fb at g3; simp; omega
  have z1 : IntKind.i64.wrap ((c.pl : Int) + 1) = (c.pl : Int) + 1 := by rw [IntKind.wrap_i64]; omega
  clear h K g0 g1 g2 g3 g4 hU
  go_enter Try.func38, Try.ntmps38
  go_wp2_with (fail)
  go_quiet (fail)
  go_wp2_with (fail)
  refine wp_region_held_drew (S := fun y : World => Q (w.alloc (.cells #[.int .u8 0, .int .u8 0, .int .u8 0, .int .u8 0, .int .u8 0, .int .u32 0] 88)) y ∧ y.cell? ⟨R, 2, none⟩ = some (.slice (some ⟨b, o, none⟩) im.ws.length im.wc) ∧ y.cell? ⟨C, k * 24 + 20, none⟩ = some (.int .i64 (c.pl : Int)) ∧ y.cell? ⟨b, o + c.pl, none⟩ = some (.int .u64 v)) (by kernel_rfl) (FS.out _ ((Q.refl _).drewN _).drew) (fun hHeld => ?_)
  refine wpAnyH_take (i := 0) (oi := ⟨_, _, _, _, _, _⟩) (v := ?_) rfl (by kernel_rfl) (by kernel_rfl) (by kernel_rfl) (fun _ _ _ h => h) (Or.inl ⟨by rfl, ?_⟩) (by assumption) ?_
  rotate_left 1
  · intro w hSw; (try dsimp only at hSw); go_simp; all_goals with_reducible rfl
  try simp only [Act.put, List.setIfInBounds_toArray, List.set_cons_zero, List.set_cons_succ]
  refine wpAnyH_take (i := 1) (oi := ⟨_, _, _, _, _, _⟩) (v := ?_) rfl (by kernel_rfl) (by kernel_rfl) (by kernel_rfl) (fun _ _ _ h => h) (Or.inl ⟨by rfl, ?_⟩) (by assumption) ?_
  rotate_left 1
  · intro w hSw; (try dsimp only at hSw); go_simp; all_goals with_reducible rfl
  try simp only [Act.put, List.setIfInBounds_toArray, List.set_cons_zero, List.set_cons_succ]
  refine wpAnyH_take (i := 2) (oi := ⟨_, _, _, _, _, _⟩) (v := ?_) rfl (by kernel_rfl) (by kernel_rfl) (by kernel_rfl) (fun _ _ _ h => h) (Or.inl ⟨by rfl, ?_⟩) (by assumption) ?_
  rotate_left 1
  · intro w hSw; (try dsimp only at hSw); go_simp; all_goals with_reducible rfl
  try simp only [Act.put, List.setIfInBounds_toArray, List.set_cons_zero, List.set_cons_succ]
  refine wpAnyH_take (i := 3) (oi := ⟨_, _, _, _, _, _⟩) (v := ?_) rfl (by kernel_rfl) (by kernel_rfl) (by kernel_rfl) (fun _ _ _ h => h) (Or.inl ⟨by rfl, ?_⟩) (by assumption) ?_
  rotate_left 1
  · intro w hSw; (try dsimp only at hSw); go_simp; all_goals with_reducible rfl
  try simp only [Act.put, List.setIfInBounds_toArray, List.set_cons_zero, List.set_cons_succ]
  refine wpAnyH_take (i := 4) (oi := ⟨_, _, _, _, _, _⟩) (v := ?_) rfl (by kernel_rfl) (by kernel_rfl) (by kernel_rfl) (fun _ _ _ h => h) (Or.inl ⟨by rfl, ?_⟩) (by assumption) ?_
  rotate_left 1
  · intro w hSw; (try dsimp only at hSw); go_simp; all_goals with_reducible rfl
  try simp only [Act.put, List.setIfInBounds_toArray, List.set_cons_zero, List.set_cons_succ]
  refine wpAnyH_take (i := 5) (oi := ⟨_, _, _, _, _, _⟩) (v := ?_) rfl (by kernel_rfl) (by kernel_rfl) (by kernel_rfl) (fun _ _ _ h => h) (Or.inl ⟨by rfl, ?_⟩) (by assumption) ?_
  rotate_left 1
  · intro w hSw; (try dsimp only at hSw); go_simp; all_goals with_reducible rfl
  try simp only [Act.put, List.setIfInBounds_toArray, List.set_cons_zero, List.set_cons_succ]
  refine wpAnyH_take (i := 6) (oi := ⟨_, _, _, _, _, _⟩) (v := ?_) rfl (by kernel_rfl) (by kernel_rfl) (by kernel_rfl) (fun _ _ _ h => h) (Or.inl ⟨by rfl, ?_⟩) (by assumption) ?_
  rotate_left 1
  · intro w hSw; (try dsimp only at hSw); go_simp; all_goals with_reducible rfl
  try simp only [Act.put, List.setIfInBounds_toArray, List.set_cons_zero, List.set_cons_succ]
  refine wpAnyH_take (i := 7) (oi := ⟨_, _, _, _, _, _⟩) (v := ?_) rfl (by kernel_rfl) (by kernel_rfl) (by kernel_rfl) (fun _ _ _ h => h) (Or.inl ⟨by rfl, ?_⟩) (by assumption) ?_
  rotate_left 1
  · intro w hSw; (try dsimp only at hSw); go_simp; all_goals with_reducible rfl
  try simp only [Act.put, List.setIfInBounds_toArray, List.set_cons_zero, List.set_cons_succ]
  refine wpAnyH_take (i := 8) (oi := ⟨_, _, _, _, _, _⟩) (v := ?_) rfl (by kernel_rfl) (by kernel_rfl) (by kernel_rfl) (fun _ _ _ h => h) (Or.inl ⟨by rfl, ?_⟩) (by assumption) ?_
  rotate_left 1
  · intro w hSw; (try dsimp only at hSw); go_simp; all_goals with_reducible rfl
  try simp only [Act.put, List.setIfInBounds_toArray, List.set_cons_zero, List.set_cons_succ]
  refine wpAnyH_take (i := 9) (oi := ⟨_, _, _, _, _, _⟩) (v := ?_) rfl (by kernel_rfl) (by kernel_rfl) (by kernel_rfl) (fun _ _ _ h => h) (Or.inl ⟨by rfl, ?_⟩) (by assumption) ?_
  rotate_left 1
  · intro w hSw; (try dsimp only at hSw); go_simp; all_goals with_reducible rfl
  try simp only [Act.put, List.setIfInBounds_toArray, List.set_cons_zero, List.set_cons_succ]
  refine wpAnyH_take (i := 10) (oi := ⟨_, _, _, _, _, _⟩) (v := ?_) rfl (by kernel_rfl) (by kernel_rfl) (by kernel_rfl) (fun _ _ _ h => h) (Or.inl ⟨by rfl, ?_⟩) (by assumption) ?_
  rotate_left 1
  · intro w hSw; (try dsimp only at hSw); go_simp; all_goals with_reducible rfl
  try simp only [Act.put, List.setIfInBounds_toArray, List.set_cons_zero, List.set_cons_succ]
  refine wpAnyH_ready (rs := [11, 15]) (by kernel_rfl) (by simp) (AllReadyH.cons (o := ⟨_, _, _, _, _, _⟩) rfl (fun K hK => ?_) (AllReadyH.cons (o := ⟨_, _, _, _, _, _⟩) rfl (fun K hK => ?_) AllReadyH.nil))
  · go_simp
    go_at_call 44; refine (CD.out _).mono ?_; rintro e y ⟨rfl, qy⟩
    refine hK.out _ _ ?_ (fun hHeld => ?_)
    · exact FS.out _ (hHeld.1.trans qy)
    clear hK K
    try simp only [Act.put, List.setIfInBounds_toArray, List.set_cons_zero, List.set_cons_succ]
    refine wpAnyH_take (i := 12) (oi := ⟨_, _, _, _, _, _⟩) (v := ?_) rfl (by kernel_rfl) (by kernel_rfl) (by kernel_rfl) (fun _ _ _ h => h) (Or.inl ⟨by rfl, ?_⟩) (by assumption) ?_
    rotate_left 1
    · intro w hSw; (try dsimp only at hSw); go_simp; all_goals with_reducible rfl
    try simp only [Act.put, List.setIfInBounds_toArray, List.set_cons_zero, List.set_cons_succ]
    refine wpAnyH_take (i := 13) (oi := ⟨_, _, _, _, _, _⟩) (v := ?_) rfl (by kernel_rfl) (by kernel_rfl) (by kernel_rfl) (fun _ _ _ h => h) (Or.inl ⟨by rfl, ?_⟩) (by assumption) ?_
    rotate_left 1
    · intro w hSw; (try dsimp only at hSw); go_simp; all_goals with_reducible rfl
    try simp only [Act.put, List.setIfInBounds_toArray, List.set_cons_zero, List.set_cons_succ]
    refine wpAnyH_take (i := 14) (oi := ⟨_, _, _, _, _, _⟩) (v := ?_) rfl (by kernel_rfl) (by kernel_rfl) (by kernel_rfl) (fun _ _ _ h => h) (Or.inl ⟨by rfl, ?_⟩) (by assumption) ?_
    rotate_left 1
    · intro w hSw; (try dsimp only at hSw); go_simp; all_goals with_reducible rfl
    try simp only [Act.put, List.setIfInBounds_toArray, List.set_cons_zero, List.set_cons_succ]
    refine wpAnyH_ready (rs := [15]) (by kernel_rfl) (by simp) (AllReadyH.cons (o := ⟨_, _, _, _, _, _⟩) rfl (fun K hK => ?_) AllReadyH.nil)
    go_simp
    refine hK.out _ _ ?_ (fun hHeld => ?_)
    · exact FS.out _ (hHeld.1.alloc _)
    clear hK K
    try simp only [Act.put, List.setIfInBounds_toArray, List.set_cons_zero, List.set_cons_succ]
    refine wpAnyH_ready (rs := [16]) (by kernel_rfl) (by simp) (AllReadyH.cons (o := ⟨_, _, _, _, _, _⟩) rfl (fun K hK => ?_) AllReadyH.nil)
    go_simp
    refine hK.out _ _ ?_ (fun hHeld => ?_)
    · exact FS.out _ ((((Q.refl _).drewN (nq + 1)).trans qy).alloc _)
    clear hK K
    try simp only [Act.put, List.setIfInBounds_toArray, List.set_cons_zero, List.set_cons_succ]
    refine wpAnyH_take (i := 17) (oi := ⟨_, _, _, _, _, _⟩) (v := ?_) rfl (by kernel_rfl) (by kernel_rfl) (by kernel_rfl) (fun _ _ _ h => h) (Or.inl ⟨by rfl, ?_⟩) (by assumption) ?_
    rotate_left 1
    · intro w hSw; (try dsimp only at hSw); go_simp; all_goals with_reducible rfl
    try simp only [Act.put, List.setIfInBounds_toArray, List.set_cons_zero, List.set_cons_succ]
    refine wpAnyH_done (by kernel_rfl) ?_ _
    have hzb := heap_new y (.cells #[.int .u8 (v / 72057594037927936), .int .u8 (v / 4503599627370496 % 16), .int .u8 (v / 281474976710656 % 16), .int .u8 (v / 17592186044416 % 16), .int .u8 (v / 1099511627776 % 16), .int .u32 (v % 4294967296)] 88 (0, 0))
    have hzq := (hHeld.1 : Q (w.alloc (.cells #[.int .u8 0, .int .u8 0, .int .u8 0, .int .u8 0, .int .u8 0, .int .u32 0] 88)) (y.alloc (.cells #[.int .u8 (v / 72057594037927936), .int .u8 (v / 4503599627370496 % 16), .int .u8 (v / 281474976710656 % 16), .int .u8 (v / 17592186044416 % 16), .int .u8 (v / 1099511627776 % 16), .int .u32 (v % 4294967296)] 88)))
    have hbe : ((w.alloc (.cells #[.int .u8 0, .int .u8 0, .int .u8 0, .int .u8 0, .int .u8 0, .int .u32 0] 88)).drewN (nq + 1)).heap.size = w.heap.size + 1 := by show (w.alloc (.cells #[.int .u8 0, .int .u8 0, .int .u8 0, .int .u8 0, .int .u8 0, .int .u32 0] 88)).heap.size = _; simp
    have hbx : w.heap.size + 1 ≤ y.heap.size := by rw [← hbe]; exact qy.size
    generalize hZ : y.alloc (.cells #[.int .u8 (v / 72057594037927936), .int .u8 (v / 4503599627370496 % 16), .int .u8 (v / 281474976710656 % 16), .int .u8 (v / 17592186044416 % 16), .int .u8 (v / 1099511627776 % 16), .int .u32 (v % 4294967296)] 88) = Z at *
    generalize hBx : y.heap.size = Bx at *
    obtain ⟨n1, n2, n3, n4, p20, pf, x0, x1, x2, x3, x4, x5, y0, y1, y2, y3, y4, y5, f0', f1', f2', f3', f4', f5', xb, xc, fin⟩ := HT.out Z Bx hzb hzq hbx
    have FIN := hideIt fin
    have XB := hideIt xb
    have XC := hideIt xc
    clear fin xb xc hzb hzq qy HT FS CD
    (try clear hZ); (try clear hBx); (try clear hbe); (try clear hbx); (try clear HBX); (try clear hHeld); (try clear c2); (try clear c20); (try clear cw); (try clear hd); (try clear hpl2)
    go_wp2_with (fail)
    refine wp_region_held_drew (S := fun y : World => y.cell? ⟨Bx, 0, none⟩ = some (.int .u8 (v / 72057594037927936)) ∧ y.cell? ⟨Bx, 1, none⟩ = some (.int .u8 (v / 4503599627370496 % 16)) ∧ y.cell? ⟨Bx, 2, none⟩ = some (.int .u8 (v / 281474976710656 % 16)) ∧ y.cell? ⟨Bx, 3, none⟩ = some (.int .u8 (v / 17592186044416 % 16)) ∧ y.cell? ⟨Bx, 4, none⟩ = some (.int .u8 (v / 1099511627776 % 16)) ∧ y.cell? ⟨Bx, 5, none⟩ = some (.int .u32 (v % 4294967296))) (by kernel_rfl) (XB.out) (fun hHeld => ?_)
    refine wpAnyH_take (i := 0) (oi := ⟨_, _, _, _, _, _⟩) (v := ?_) rfl (by kernel_rfl) (by kernel_rfl) (by kernel_rfl) (fun _ _ _ h => h) (Or.inl ⟨by rfl, ?_⟩) (by assumption) ?_
    rotate_left 1
    · intro w hSw; (try dsimp only at hSw); go_simp; all_goals with_reducible rfl
    try simp only [Act.put, List.setIfInBounds_toArray, List.set_cons_zero, List.set_cons_succ]
    refine wpAnyH_take (i := 1) (oi := ⟨_, _, _, _, _, _⟩) (v := ?_) rfl (by kernel_rfl) (by kernel_rfl) (by kernel_rfl) (fun _ _ _ h => h) (Or.inl ⟨by rfl, ?_⟩) (by assumption) ?_
    rotate_left 1
    · intro w hSw; (try dsimp only at hSw); go_simp; all_goals with_reducible rfl
    try simp only [Act.put, List.setIfInBounds_toArray, List.set_cons_zero, List.set_cons_succ]
    refine wpAnyH_take (i := 2) (oi := ⟨_, _, _, _, _, _⟩) (v := ?_) rfl (by kernel_rfl) (by kernel_rfl) (by kernel_rfl) (fun _ _ _ h => h) (Or.inl ⟨by rfl, ?_⟩) (by assumption) ?_
    rotate_left 1
    · intro w hSw; (try dsimp only at hSw); go_simp; all_goals with_reducible rfl
    try simp only [Act.put, List.setIfInBounds_toArray, List.set_cons_zero, List.set_cons_succ]
    refine wpAnyH_take (i := 3) (oi := ⟨_, _, _, _, _, _⟩) (v := ?_) rfl (by kernel_rfl) (by kernel_rfl) (by kernel_rfl) (fun _ _ _ h => h) (Or.inl ⟨by rfl, ?_⟩) (by assumption) ?_
    rotate_left 1
    · intro w hSw; (try dsimp only at hSw); go_simp; all_goals with_reducible rfl
    try simp only [Act.put, List.setIfInBounds_toArray, List.set_cons_zero, List.set_cons_succ]
    refine wpAnyH_take (i := 4) (oi := ⟨_, _, _, _, _, _⟩) (v := ?_) rfl (by kernel_rfl) (by kernel_rfl) (by kernel_rfl) (fun _ _ _ h => h) (Or.inl ⟨by rfl, ?_⟩) (by assumption) ?_
    rotate_left 1
    · intro w hSw; (try dsimp only at hSw); go_simp; all_goals with_reducible rfl
    try simp only [Act.put, List.setIfInBounds_toArray, List.set_cons_zero, List.set_cons_succ]
    refine wpAnyH_take (i := 5) (oi := ⟨_, _, _, _, _, _⟩) (v := ?_) rfl (by kernel_rfl) (by kernel_rfl) (by kernel_rfl) (fun _ _ _ h => h) (Or.inl ⟨by rfl, ?_⟩) (by assumption) ?_
    rotate_left 1
    · intro w hSw; (try dsimp only at hSw); go_simp; all_goals with_reducible rfl
    try simp only [Act.put, List.setIfInBounds_toArray, List.set_cons_zero, List.set_cons_succ]
    refine wpAnyH_take (i := 6) (oi := ⟨_, _, _, _, _, _⟩) (v := ?_) rfl (by kernel_rfl) (by kernel_rfl) (by kernel_rfl) (fun _ _ _ h => h) (Or.inl ⟨by rfl, ?_⟩) (by assumption) ?_
    rotate_left 1
    · intro w hSw; (try dsimp only at hSw); go_simp; all_goals with_reducible rfl
    try simp only [Act.put, List.setIfInBounds_toArray, List.set_cons_zero, List.set_cons_succ]
    refine wpAnyH_take (i := 7) (oi := ⟨_, _, _, _, _, _⟩) (v := ?_) rfl (by kernel_rfl) (by kernel_rfl) (by kernel_rfl) (fun _ _ _ h => h) (Or.inl ⟨by rfl, ?_⟩) (by assumption) ?_
    rotate_left 1
    · intro w hSw; (try dsimp only at hSw); go_simp; all_goals with_reducible rfl
    try simp only [Act.put, List.setIfInBounds_toArray, List.set_cons_zero, List.set_cons_succ]
    refine wpAnyH_take (i := 8) (oi := ⟨_, _, _, _, _, _⟩) (v := ?_) rfl (by kernel_rfl) (by kernel_rfl) (by kernel_rfl) (fun _ _ _ h => h) (Or.inl ⟨by rfl, ?_⟩) (by assumption) ?_
    rotate_left 1
    · intro w hSw; (try dsimp only at hSw); go_simp; all_goals with_reducible rfl
    try simp only [Act.put, List.setIfInBounds_toArray, List.set_cons_zero, List.set_cons_succ]
    refine wpAnyH_take (i := 9) (oi := ⟨_, _, _, _, _, _⟩) (v := ?_) rfl (by kernel_rfl) (by kernel_rfl) (by kernel_rfl) (fun _ _ _ h => h) (Or.inl ⟨by rfl, ?_⟩) (by assumption) ?_
    rotate_left 1
    · intro w hSw; (try dsimp only at hSw); go_simp; all_goals with_reducible rfl
    try simp only [Act.put, List.setIfInBounds_toArray, List.set_cons_zero, List.set_cons_succ]
    refine wpAnyH_take (i := 10) (oi := ⟨_, _, _, _, _, _⟩) (v := ?_) rfl (by kernel_rfl) (by kernel_rfl) (by kernel_rfl) (fun _ _ _ h => h) (Or.inl ⟨by rfl, ?_⟩) (by assumption) ?_
    rotate_left 1
    · intro w hSw; (try dsimp only at hSw); go_simp; all_goals with_reducible rfl
    try simp only [Act.put, List.setIfInBounds_toArray, List.set_cons_zero, List.set_cons_succ]
    refine wpAnyH_take (i := 11) (oi := ⟨_, _, _, _, _, _⟩) (v := ?_) rfl (by kernel_rfl) (by kernel_rfl) (by kernel_rfl) (fun _ _ _ h => h) (Or.inl ⟨by rfl, ?_⟩) (by assumption) ?_
    rotate_left 1
    · intro w hSw; (try dsimp only at hSw); go_simp; (try simp only [dm]); all_goals with_reducible rfl
    try simp only [Act.put, List.setIfInBounds_toArray, List.set_cons_zero, List.set_cons_succ]
    refine wpAnyH_take (i := 12) (oi := ⟨_, _, _, _, _, _⟩) (v := ?_) rfl (by kernel_rfl) (by kernel_rfl) (by kernel_rfl) (fun _ _ _ h => h) (Or.inl ⟨by rfl, ?_⟩) (by assumption) ?_
    rotate_left 1
    · intro w hSw; (try dsimp only at hSw); go_simp; all_goals with_reducible rfl
    try simp only [Act.put, List.setIfInBounds_toArray, List.set_cons_zero, List.set_cons_succ]
    refine wpAnyH_take (i := 13) (oi := ⟨_, _, _, _, _, _⟩) (v := ?_) rfl (by kernel_rfl) (by kernel_rfl) (by kernel_rfl) (fun _ _ _ h => h) (Or.inl ⟨by rfl, ?_⟩) (by assumption) ?_
    rotate_left 1
    · intro w hSw; (try dsimp only at hSw); go_simp; all_goals with_reducible rfl
    try simp only [Act.put, List.setIfInBounds_toArray, List.set_cons_zero, List.set_cons_succ]
    refine wpAnyH_take (i := 14) (oi := ⟨_, _, _, _, _, _⟩) (v := ?_) rfl (by kernel_rfl) (by kernel_rfl) (by kernel_rfl) (fun _ _ _ h => h) (Or.inl ⟨by rfl, ?_⟩) (by assumption) ?_
    rotate_left 1
    · intro w hSw; (try dsimp only at hSw); go_simp; all_goals with_reducible rfl
    try simp only [Act.put, List.setIfInBounds_toArray, List.set_cons_zero, List.set_cons_succ]
    refine wpAnyH_take (i := 15) (oi := ⟨_, _, _, _, _, _⟩) (v := ?_) rfl (by kernel_rfl) (by kernel_rfl) (by kernel_rfl) (fun _ _ _ h => h) (Or.inl ⟨by rfl, ?_⟩) (by assumption) ?_
    rotate_left 1
    · intro w hSw; (try dsimp only at hSw); go_simp; all_goals with_reducible rfl
    try simp only [Act.put, List.setIfInBounds_toArray, List.set_cons_zero, List.set_cons_succ]
    refine wpAnyH_ready (rs := [16]) (by kernel_rfl) (by simp) (AllReadyH.cons (o := ⟨_, _, _, _, _, _⟩) rfl (fun K hK => ?_) AllReadyH.nil)
    go_simp
    go_at_call 45; refine (CF.out _).mono ?_; rintro e u ⟨rfl, rfl⟩
    refine hK.out _ _ ?_ (fun hHeld => ?_)
    · exact hHeld
    clear hK K
    try simp only [Act.put, List.setIfInBounds_toArray, List.set_cons_zero, List.set_cons_succ]
    refine wpAnyH_take (i := 17) (oi := ⟨_, _, _, _, _, _⟩) (v := ?_) rfl (by kernel_rfl) (by kernel_rfl) (by kernel_rfl) (fun _ _ _ h => h) (Or.inl ⟨by rfl, ?_⟩) (by assumption) ?_
    rotate_left 1
    · intro w hSw; (try dsimp only at hSw); go_simp; all_goals with_reducible rfl
    try simp only [Act.put, List.setIfInBounds_toArray, List.set_cons_zero, List.set_cons_succ]
    refine wpAnyH_ready (rs := [18]) (by kernel_rfl) (by simp) (AllReadyH.cons (o := ⟨_, _, _, _, _, _⟩) rfl (fun K hK => ?_) AllReadyH.nil)
    go_simp
    refine hK.out _ _ ?_ (fun hHeld => ?_)
    · exact XC.out
    clear hK K
    try simp only [Act.put, List.setIfInBounds_toArray, List.set_cons_zero, List.set_cons_succ]
    refine wpAnyH_take (i := 19) (oi := ⟨_, _, _, _, _, _⟩) (v := ?_) rfl (by kernel_rfl) (by kernel_rfl) (by kernel_rfl) (fun _ _ _ h => h) (Or.inl ⟨by rfl, ?_⟩) (by assumption) ?_
    rotate_left 1
    · intro w hSw; (try dsimp only at hSw); go_simp; all_goals with_reducible rfl
    try simp only [Act.put, List.setIfInBounds_toArray, List.set_cons_zero, List.set_cons_succ]
    refine wpAnyH_done (by kernel_rfl) ?_ _
    go_wp2_with (fail)
    obtain ⟨q1, q2, q3⟩ := FIN.out
    obtain ⟨z0, z1, z2, z3, z4, z5⟩ := six_cells q1
    exact bodyPost_ret (v := .tuple #[Cd.wv (fo v) (ft v) (fd v) (fa v) (fb v) (fi v), .bool true]) (by simp [results, Try.results38, go_sem, z0, z1, z2, z3, z4, z5, fo, ft, fd, fa, fb, fi]) rfl ⟨rfl, q2, q3⟩
  · go_simp
    refine hK.out _ _ ?_ (fun hHeld => ?_)
    · exact FS.out _ (hHeld.1.alloc _)
    clear hK K
    try simp only [Act.put, List.setIfInBounds_toArray, List.set_cons_zero, List.set_cons_succ]
    refine wpAnyH_ready (rs := [11]) (by kernel_rfl) (by simp) (AllReadyH.cons (o := ⟨_, _, _, _, _, _⟩) rfl (fun K hK => ?_) AllReadyH.nil)
    go_simp
    go_at_call 44; refine (CD.out _).mono ?_; rintro e y ⟨rfl, qy⟩; have hb := boxf qy; rw [show ((w.alloc (.cells #[.int .u8 0, .int .u8 0, .int .u8 0, .int .u8 0, .int .u8 0, .int .u32 0] 88)).drewN (nq + 1)).heap.size = w.heap.size + 1 by show (w.alloc (.cells #[.int .u8 0, .int .u8 0, .int .u8 0, .int .u8 0, .int .u8 0, .int .u32 0] 88)).heap.size = _; simp] at hb; obtain ⟨b0, b1, b2, b3, b4, b5⟩ := six_cells hb; obtain ⟨t0, t1, t2, t3, t4, t5⟩ := six_free hb
    refine hK.out _ _ ?_ (fun hHeld => ?_)
    · exact FS.out _ (hHeld.1.trans qy)
    clear hK K
    try simp only [Act.put, List.setIfInBounds_toArray, List.set_cons_zero, List.set_cons_succ]
    refine wpAnyH_take (i := 12) (oi := ⟨_, _, _, _, _, _⟩) (v := ?_) rfl (by kernel_rfl) (by kernel_rfl) (by kernel_rfl) (fun _ _ _ h => h) (Or.inl ⟨by rfl, ?_⟩) (by assumption) ?_
    rotate_left 1
    · intro w hSw; (try dsimp only at hSw); go_simp; all_goals with_reducible rfl
    try simp only [Act.put, List.setIfInBounds_toArray, List.set_cons_zero, List.set_cons_succ]
    refine wpAnyH_take (i := 13) (oi := ⟨_, _, _, _, _, _⟩) (v := ?_) rfl (by kernel_rfl) (by kernel_rfl) (by kernel_rfl) (fun _ _ _ h => h) (Or.inl ⟨by rfl, ?_⟩) (by assumption) ?_
    rotate_left 1
    · intro w hSw; (try dsimp only at hSw); go_simp; all_goals with_reducible rfl
    try simp only [Act.put, List.setIfInBounds_toArray, List.set_cons_zero, List.set_cons_succ]
    refine wpAnyH_take (i := 14) (oi := ⟨_, _, _, _, _, _⟩) (v := ?_) rfl (by kernel_rfl) (by kernel_rfl) (by kernel_rfl) (fun _ _ _ h => h) (Or.inl ⟨by rfl, ?_⟩) (by assumption) ?_
    rotate_left 1
    · intro w hSw; (try dsimp only at hSw); go_simp; all_goals with_reducible rfl
    try simp only [Act.put, List.setIfInBounds_toArray, List.set_cons_zero, List.set_cons_succ]
    refine wpAnyH_ready (rs := [16]) (by kernel_rfl) (by simp) (AllReadyH.cons (o := ⟨_, _, _, _, _, _⟩) rfl (fun K hK => ?_) AllReadyH.nil)
    go_simp
    refine hK.out _ _ ?_ (fun hHeld => ?_)
    · exact FS.out _ (six_q hHeld.1 (by simp) _ _ _ _ _ _)
    clear hK K
    try simp only [Act.put, List.setIfInBounds_toArray, List.set_cons_zero, List.set_cons_succ]
    refine wpAnyH_take (i := 17) (oi := ⟨_, _, _, _, _, _⟩) (v := ?_) rfl (by kernel_rfl) (by kernel_rfl) (by kernel_rfl) (fun _ _ _ h => h) (Or.inl ⟨by rfl, ?_⟩) (by assumption) ?_
    rotate_left 1
    · intro w hSw; (try dsimp only at hSw); go_simp; all_goals with_reducible rfl
    try simp only [Act.put, List.setIfInBounds_toArray, List.set_cons_zero, List.set_cons_succ]
    refine wpAnyH_done (by kernel_rfl) ?_ _
    have hzb := six_blk hb (.int .u8 (v / 72057594037927936)) (.int .u8 (v / 4503599627370496 % 16)) (.int .u8 (v / 281474976710656 % 16)) (.int .u8 (v / 17592186044416 % 16)) (.int .u8 (v / 1099511627776 % 16)) (.int .u32 (v % 4294967296))
    have hzq := (hHeld.1 : Q (w.alloc (.cells #[.int .u8 0, .int .u8 0, .int .u8 0, .int .u8 0, .int .u8 0, .int .u32 0] 88)) ((((((y.setCell ⟨w.heap.size + 1, 0, none⟩ (.int .u8 (v / 72057594037927936))).setCell ⟨w.heap.size + 1, 1, none⟩ (.int .u8 (v / 4503599627370496 % 16))).setCell ⟨w.heap.size + 1, 2, none⟩ (.int .u8 (v / 281474976710656 % 16))).setCell ⟨w.heap.size + 1, 3, none⟩ (.int .u8 (v / 17592186044416 % 16))).setCell ⟨w.heap.size + 1, 4, none⟩ (.int .u8 (v / 1099511627776 % 16))).setCell ⟨w.heap.size + 1, 5, none⟩ (.int .u32 (v % 4294967296))))
    have hbx : w.heap.size + 1 ≤ w.heap.size + 1 := Nat.le_refl _
    dsimp only [six] at hzb
    generalize hZ : (((((y.setCell ⟨w.heap.size + 1, 0, none⟩ (.int .u8 (v / 72057594037927936))).setCell ⟨w.heap.size + 1, 1, none⟩ (.int .u8 (v / 4503599627370496 % 16))).setCell ⟨w.heap.size + 1, 2, none⟩ (.int .u8 (v / 281474976710656 % 16))).setCell ⟨w.heap.size + 1, 3, none⟩ (.int .u8 (v / 17592186044416 % 16))).setCell ⟨w.heap.size + 1, 4, none⟩ (.int .u8 (v / 1099511627776 % 16))).setCell ⟨w.heap.size + 1, 5, none⟩ (.int .u32 (v % 4294967296)) = Z at *
    clear b0 b1 b2 b3 b4 b5 t0 t1 t2 t3 t4 t5 hb
    obtain ⟨Bx, hBx⟩ : ∃ Bx, w.heap.size + 1 = Bx := ⟨_, rfl⟩
    have HBX := hideIt hBx
    obtain ⟨n1, n2, n3, n4, p20, pf, x0, x1, x2, x3, x4, x5, y0, y1, y2, y3, y4, y5, f0', f1', f2', f3', f4', f5', xb, xc, fin⟩ := HT.out Z (w.heap.size + 1) hzb hzq hbx
    have FIN := hideIt fin
    have XB := hideIt xb
    have XC := hideIt xc
    clear fin xb xc hzb hzq qy HT FS CD
    (try clear hZ); (try clear hBx); (try clear hbe); (try clear hbx); (try clear HBX); (try clear hHeld); (try clear c2); (try clear c20); (try clear cw); (try clear hd); (try clear hpl2)
    go_wp2_with (fail)
    refine wp_region_held_drew (S := fun y : World => y.cell? ⟨w.heap.size + 1, 0, none⟩ = some (.int .u8 (v / 72057594037927936)) ∧ y.cell? ⟨w.heap.size + 1, 1, none⟩ = some (.int .u8 (v / 4503599627370496 % 16)) ∧ y.cell? ⟨w.heap.size + 1, 2, none⟩ = some (.int .u8 (v / 281474976710656 % 16)) ∧ y.cell? ⟨w.heap.size + 1, 3, none⟩ = some (.int .u8 (v / 17592186044416 % 16)) ∧ y.cell? ⟨w.heap.size + 1, 4, none⟩ = some (.int .u8 (v / 1099511627776 % 16)) ∧ y.cell? ⟨w.heap.size + 1, 5, none⟩ = some (.int .u32 (v % 4294967296))) (by kernel_rfl) (XB.out) (fun hHeld => ?_)
    refine wpAnyH_take (i := 0) (oi := ⟨_, _, _, _, _, _⟩) (v := ?_) rfl (by kernel_rfl) (by kernel_rfl) (by kernel_rfl) (fun _ _ _ h => h) (Or.inl ⟨by rfl, ?_⟩) (by assumption) ?_
    rotate_left 1
    · intro w hSw; (try dsimp only at hSw); go_simp; all_goals with_reducible rfl
    try simp only [Act.put, List.setIfInBounds_toArray, List.set_cons_zero, List.set_cons_succ]
    refine wpAnyH_take (i := 1) (oi := ⟨_, _, _, _, _, _⟩) (v := ?_) rfl (by kernel_rfl) (by kernel_rfl) (by kernel_rfl) (fun _ _ _ h => h) (Or.inl ⟨by rfl, ?_⟩) (by assumption) ?_
    rotate_left 1
    · intro w hSw; (try dsimp only at hSw); go_simp; all_goals with_reducible rfl
    try simp only [Act.put, List.setIfInBounds_toArray, List.set_cons_zero, List.set_cons_succ]
    refine wpAnyH_take (i := 2) (oi := ⟨_, _, _, _, _, _⟩) (v := ?_) rfl (by kernel_rfl) (by kernel_rfl) (by kernel_rfl) (fun _ _ _ h => h) (Or.inl ⟨by rfl, ?_⟩) (by assumption) ?_
    rotate_left 1
    · intro w hSw; (try dsimp only at hSw); go_simp; all_goals with_reducible rfl
    try simp only [Act.put, List.setIfInBounds_toArray, List.set_cons_zero, List.set_cons_succ]
    refine wpAnyH_take (i := 3) (oi := ⟨_, _, _, _, _, _⟩) (v := ?_) rfl (by kernel_rfl) (by kernel_rfl) (by kernel_rfl) (fun _ _ _ h => h) (Or.inl ⟨by rfl, ?_⟩) (by assumption) ?_
    rotate_left 1
    · intro w hSw; (try dsimp only at hSw); go_simp; all_goals with_reducible rfl
    try simp only [Act.put, List.setIfInBounds_toArray, List.set_cons_zero, List.set_cons_succ]
    refine wpAnyH_take (i := 4) (oi := ⟨_, _, _, _, _, _⟩) (v := ?_) rfl (by kernel_rfl) (by kernel_rfl) (by kernel_rfl) (fun _ _ _ h => h) (Or.inl ⟨by rfl, ?_⟩) (by assumption) ?_
    rotate_left 1
    · intro w hSw; (try dsimp only at hSw); go_simp; all_goals with_reducible rfl
    try simp only [Act.put, List.setIfInBounds_toArray, List.set_cons_zero, List.set_cons_succ]
    refine wpAnyH_take (i := 5) (oi := ⟨_, _, _, _, _, _⟩) (v := ?_) rfl (by kernel_rfl) (by kernel_rfl) (by kernel_rfl) (fun _ _ _ h => h) (Or.inl ⟨by rfl, ?_⟩) (by assumption) ?_
    rotate_left 1
    · intro w hSw; (try dsimp only at hSw); go_simp; all_goals with_reducible rfl
    try simp only [Act.put, List.setIfInBounds_toArray, List.set_cons_zero, List.set_cons_succ]
    refine wpAnyH_take (i := 6) (oi := ⟨_, _, _, _, _, _⟩) (v := ?_) rfl (by kernel_rfl) (by kernel_rfl) (by kernel_rfl) (fun _ _ _ h => h) (Or.inl ⟨by rfl, ?_⟩) (by assumption) ?_
    rotate_left 1
    · intro w hSw; (try dsimp only at hSw); go_simp; all_goals with_reducible rfl
    try simp only [Act.put, List.setIfInBounds_toArray, List.set_cons_zero, List.set_cons_succ]
    refine wpAnyH_take (i := 7) (oi := ⟨_, _, _, _, _, _⟩) (v := ?_) rfl (by kernel_rfl) (by kernel_rfl) (by kernel_rfl) (fun _ _ _ h => h) (Or.inl ⟨by rfl, ?_⟩) (by assumption) ?_
    rotate_left 1
    · intro w hSw; (try dsimp only at hSw); go_simp; all_goals with_reducible rfl
    try simp only [Act.put, List.setIfInBounds_toArray, List.set_cons_zero, List.set_cons_succ]
    refine wpAnyH_take (i := 8) (oi := ⟨_, _, _, _, _, _⟩) (v := ?_) rfl (by kernel_rfl) (by kernel_rfl) (by kernel_rfl) (fun _ _ _ h => h) (Or.inl ⟨by rfl, ?_⟩) (by assumption) ?_
    rotate_left 1
    · intro w hSw; (try dsimp only at hSw); go_simp; all_goals with_reducible rfl
    try simp only [Act.put, List.setIfInBounds_toArray, List.set_cons_zero, List.set_cons_succ]
    refine wpAnyH_take (i := 9) (oi := ⟨_, _, _, _, _, _⟩) (v := ?_) rfl (by kernel_rfl) (by kernel_rfl) (by kernel_rfl) (fun _ _ _ h => h) (Or.inl ⟨by rfl, ?_⟩) (by assumption) ?_
    rotate_left 1
    · intro w hSw; (try dsimp only at hSw); go_simp; all_goals with_reducible rfl
    try simp only [Act.put, List.setIfInBounds_toArray, List.set_cons_zero, List.set_cons_succ]
    refine wpAnyH_take (i := 10) (oi := ⟨_, _, _, _, _, _⟩) (v := ?_) rfl (by kernel_rfl) (by kernel_rfl) (by kernel_rfl) (fun _ _ _ h => h) (Or.inl ⟨by rfl, ?_⟩) (by assumption) ?_
    rotate_left 1
    · intro w hSw; (try dsimp only at hSw); go_simp; all_goals with_reducible rfl
    try simp only [Act.put, List.setIfInBounds_toArray, List.set_cons_zero, List.set_cons_succ]
    refine wpAnyH_take (i := 11) (oi := ⟨_, _, _, _, _, _⟩) (v := ?_) rfl (by kernel_rfl) (by kernel_rfl) (by kernel_rfl) (fun _ _ _ h => h) (Or.inl ⟨by rfl, ?_⟩) (by assumption) ?_
    rotate_left 1
    · intro w hSw; (try dsimp only at hSw); go_simp; (try simp only [dm]); all_goals with_reducible rfl
    try simp only [Act.put, List.setIfInBounds_toArray, List.set_cons_zero, List.set_cons_succ]
    refine wpAnyH_take (i := 12) (oi := ⟨_, _, _, _, _, _⟩) (v := ?_) rfl (by kernel_rfl) (by kernel_rfl) (by kernel_rfl) (fun _ _ _ h => h) (Or.inl ⟨by rfl, ?_⟩) (by assumption) ?_
    rotate_left 1
    · intro w hSw; (try dsimp only at hSw); go_simp; all_goals with_reducible rfl
    try simp only [Act.put, List.setIfInBounds_toArray, List.set_cons_zero, List.set_cons_succ]
    refine wpAnyH_take (i := 13) (oi := ⟨_, _, _, _, _, _⟩) (v := ?_) rfl (by kernel_rfl) (by kernel_rfl) (by kernel_rfl) (fun _ _ _ h => h) (Or.inl ⟨by rfl, ?_⟩) (by assumption) ?_
    rotate_left 1
    · intro w hSw; (try dsimp only at hSw); go_simp; all_goals with_reducible rfl
    try simp only [Act.put, List.setIfInBounds_toArray, List.set_cons_zero, List.set_cons_succ]
    refine wpAnyH_take (i := 14) (oi := ⟨_, _, _, _, _, _⟩) (v := ?_) rfl (by kernel_rfl) (by kernel_rfl) (by kernel_rfl) (fun _ _ _ h => h) (Or.inl ⟨by rfl, ?_⟩) (by assumption) ?_
    rotate_left 1
    · intro w hSw; (try dsimp only at hSw); go_simp; all_goals with_reducible rfl
    try simp only [Act.put, List.setIfInBounds_toArray, List.set_cons_zero, List.set_cons_succ]
    refine wpAnyH_take (i := 15) (oi := ⟨_, _, _, _, _, _⟩) (v := ?_) rfl (by kernel_rfl) (by kernel_rfl) (by kernel_rfl) (fun _ _ _ h => h) (Or.inl ⟨by rfl, ?_⟩) (by assumption) ?_
    rotate_left 1
    · intro w hSw; (try dsimp only at hSw); go_simp; all_goals with_reducible rfl
    try simp only [Act.put, List.setIfInBounds_toArray, List.set_cons_zero, List.set_cons_succ]
    refine wpAnyH_ready (rs := [16]) (by kernel_rfl) (by simp) (AllReadyH.cons (o := ⟨_, _, _, _, _, _⟩) rfl (fun K hK => ?_) AllReadyH.nil)
    go_simp
    go_at_call 45; refine (CF.out _).mono ?_; rintro e u ⟨rfl, rfl⟩
    refine hK.out _ _ ?_ (fun hHeld => ?_)
    · exact hHeld
    clear hK K
    try simp only [Act.put, List.setIfInBounds_toArray, List.set_cons_zero, List.set_cons_succ]
    refine wpAnyH_take (i := 17) (oi := ⟨_, _, _, _, _, _⟩) (v := ?_) rfl (by kernel_rfl) (by kernel_rfl) (by kernel_rfl) (fun _ _ _ h => h) (Or.inl ⟨by rfl, ?_⟩) (by assumption) ?_
    rotate_left 1
    · intro w hSw; (try dsimp only at hSw); go_simp; all_goals with_reducible rfl
    try simp only [Act.put, List.setIfInBounds_toArray, List.set_cons_zero, List.set_cons_succ]
    refine wpAnyH_ready (rs := [18]) (by kernel_rfl) (by simp) (AllReadyH.cons (o := ⟨_, _, _, _, _, _⟩) rfl (fun K hK => ?_) AllReadyH.nil)
    go_simp
    refine hK.out _ _ ?_ (fun hHeld => ?_)
    · exact XC.out
    clear hK K
    try simp only [Act.put, List.setIfInBounds_toArray, List.set_cons_zero, List.set_cons_succ]
    refine wpAnyH_take (i := 19) (oi := ⟨_, _, _, _, _, _⟩) (v := ?_) rfl (by kernel_rfl) (by kernel_rfl) (by kernel_rfl) (fun _ _ _ h => h) (Or.inl ⟨by rfl, ?_⟩) (by assumption) ?_
    rotate_left 1
    · intro w hSw; (try dsimp only at hSw); go_simp; all_goals with_reducible rfl
    try simp only [Act.put, List.setIfInBounds_toArray, List.set_cons_zero, List.set_cons_succ]
    refine wpAnyH_done (by kernel_rfl) ?_ _
    go_wp2_with (fail)
    obtain ⟨q1, q2, q3⟩ := FIN.out
    obtain ⟨z0, z1, z2, z3, z4, z5⟩ := six_cells q1
    exact bodyPost_ret (v := .tuple #[Cd.wv (fo v) (ft v) (fd v) (fa v) (fb v) (fi v), .bool true]) (by simp [results, Try.results38, go_sem, z0, z1, z2, z3, z4, z5, fo, ft, fd, fa, fb, fi]) rfl ⟨rfl, q2, q3⟩
end
end Go.Proofs.Ytnlgkiejppgfjaa
