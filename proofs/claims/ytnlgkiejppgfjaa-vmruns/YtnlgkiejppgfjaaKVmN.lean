/-
  The machine: what an instruction writes: contracts over the program, by kinds; the conditions: the machine lies there.
-/
import Derived.Test.YtnlgkiejppgfjaaKVmL
namespace Go.Proofs.Ytnlgkiejppgfjaa
open Go.RowKit
set_option linter.unusedVariables false

section
variable {w w' w0 : World} {R : Nat} {col col' : Col} {im : PIm} {mn : Nat} {mem ce : List Int} {cls : List Cl} {W : Nat → List Int} {tr : List Int} {ex : Int} {cv kv tv : Value} {N : Nat}

set_option maxHeartbeats 1000000 in
theorem val_20 (hm : MV w w0 R col im mem cls tr ex N) {C o : Nat} {c : Cl} (hcok : c.ok) (hcell : ∀ X, Q w X → (X.cell? ⟨C, o + 21, none⟩ = some (.int .i64 (c.ba : Int)) ∧ ∀ (j : Nat) (g : Int), c.gt[j]? = some g → X.cell? ⟨C, o + 8 + j, none⟩ = some (.int .i64 g))) ( t d a b i x y : Int) (h0 : 0 ≤ t) (hi0 : 0 ≤ i) (hi1 : i ≤ 4294967295) :
    Calls Try.prog 43 #[.pointer (some ⟨R, 0, none⟩), .pointer (some ⟨C, o, none⟩), .agg #[.int .u8 20, .int .u8 t, .int .u8 d, .int .u8 a, .int .u8 b, .int .u32 i], .int .i64 x, .int .i64 y] w fun e w' => e = .returned (.tuple #[.int .i64 (Burin.wr t i), .int .u8 (0)]) ∧ Q w w' := by
  have hq : Q w (w.alloc (.cells #[.int .u8 20, .int .u8 t, .int .u8 d, .int .u8 a, .int .u8 b, .int .u32 i] 88)) := (Q.refl w).alloc _
  have z1 : IntKind.i64.wrap i = i := by rw [IntKind.wrap_i64]; omega
  have CW := hideIt (Nu.wrap_any t i (w.alloc (.cells #[.int .u8 20, .int .u8 t, .int .u8 d, .int .u8 a, .int .u8 b, .int .u32 i] 88)) h0)
  clear hm hcell
  go_enter Try.func43, Try.ntmps43
  go_wp2_with (first | (go_at_call 49; refine CW.out.mono ?_; rintro e y1 ⟨rfl, rfl⟩) | fail)
  all_goals go_ret2
  all_goals exact ⟨rfl, hq⟩

set_option maxHeartbeats 1000000 in
theorem val_21 (hm : MV w w0 R col im mem cls tr ex N) {C o : Nat} {c : Cl} (hcok : c.ok) (hcell : ∀ X, Q w X → (X.cell? ⟨C, o + 21, none⟩ = some (.int .i64 (c.ba : Int)) ∧ ∀ (j : Nat) (g : Int), c.gt[j]? = some g → X.cell? ⟨C, o + 8 + j, none⟩ = some (.int .i64 g))) ( t d a b i x y : Int) (h0 : 0 ≤ t) (hi0 : 0 ≤ i) (hi1 : i ≤ 4294967295) :
    Calls Try.prog 43 #[.pointer (some ⟨R, 0, none⟩), .pointer (some ⟨C, o, none⟩), .agg #[.int .u8 21, .int .u8 t, .int .u8 d, .int .u8 a, .int .u8 b, .int .u32 i], .int .i64 x, .int .i64 y] w fun e w' => e = .returned (.tuple #[.int .i64 (x), .int .u8 (0)]) ∧ Q w w' := by
  have hq : Q w (w.alloc (.cells #[.int .u8 21, .int .u8 t, .int .u8 d, .int .u8 a, .int .u8 b, .int .u32 i] 88)) := (Q.refl w).alloc _
  have z1 : IntKind.i64.wrap i = i := by rw [IntKind.wrap_i64]; omega
  clear hm hcell
  go_enter Try.func43, Try.ntmps43
  go_wp2_with (first | fail)
  all_goals go_ret2
  all_goals exact ⟨rfl, hq⟩

set_option maxHeartbeats 1000000 in
theorem val_22 (hm : MV w w0 R col im mem cls tr ex N) {C o : Nat} {c : Cl} (hcok : c.ok) (hcell : ∀ X, Q w X → (X.cell? ⟨C, o + 21, none⟩ = some (.int .i64 (c.ba : Int)) ∧ ∀ (j : Nat) (g : Int), c.gt[j]? = some g → X.cell? ⟨C, o + 8 + j, none⟩ = some (.int .i64 g))) ( t d a b i x y : Int) (h0 : 0 ≤ t) (hi0 : 0 ≤ i) (hi1 : i ≤ 4294967295) :
    Calls Try.prog 43 #[.pointer (some ⟨R, 0, none⟩), .pointer (some ⟨C, o, none⟩), .agg #[.int .u8 22, .int .u8 t, .int .u8 d, .int .u8 a, .int .u8 b, .int .u32 i], .int .i64 x, .int .i64 y] w fun e w' => e = .returned (.tuple #[.int .i64 (Burin.un1 1 t x), .int .u8 (Burin.un2 1 t x)]) ∧ Q w w' := by
  have hq : Q w (w.alloc (.cells #[.int .u8 22, .int .u8 t, .int .u8 d, .int .u8 a, .int .u8 b, .int .u32 i] 88)) := (Q.refl w).alloc _
  have z1 : IntKind.i64.wrap i = i := by rw [IntKind.wrap_i64]; omega
  have CU := hideIt (Nu.un_any 1 t x (w.alloc (.cells #[.int .u8 22, .int .u8 t, .int .u8 d, .int .u8 a, .int .u8 b, .int .u32 i] 88)) h0)
  clear hm hcell
  go_enter Try.func43, Try.ntmps43
  go_wp2_with (first | (go_at_call 50; refine CU.out.mono ?_; rintro e y1 ⟨rfl, q1⟩) | fail)
  go_ret2
  exact ⟨rfl, hq.trans q1⟩

set_option maxHeartbeats 1000000 in
theorem val_23 (hm : MV w w0 R col im mem cls tr ex N) {C o : Nat} {c : Cl} (hcok : c.ok) (hcell : ∀ X, Q w X → (X.cell? ⟨C, o + 21, none⟩ = some (.int .i64 (c.ba : Int)) ∧ ∀ (j : Nat) (g : Int), c.gt[j]? = some g → X.cell? ⟨C, o + 8 + j, none⟩ = some (.int .i64 g))) ( t d a b i x y : Int) (h0 : 0 ≤ t) (hi0 : 0 ≤ i) (hi1 : i ≤ 4294967295) :
    Calls Try.prog 43 #[.pointer (some ⟨R, 0, none⟩), .pointer (some ⟨C, o, none⟩), .agg #[.int .u8 23, .int .u8 t, .int .u8 d, .int .u8 a, .int .u8 b, .int .u32 i], .int .i64 x, .int .i64 y] w fun e w' => e = .returned (.tuple #[.int .i64 (Burin.un1 2 t x), .int .u8 (Burin.un2 2 t x)]) ∧ Q w w' := by
  have hq : Q w (w.alloc (.cells #[.int .u8 23, .int .u8 t, .int .u8 d, .int .u8 a, .int .u8 b, .int .u32 i] 88)) := (Q.refl w).alloc _
  have z1 : IntKind.i64.wrap i = i := by rw [IntKind.wrap_i64]; omega
  have CU := hideIt (Nu.un_any 2 t x (w.alloc (.cells #[.int .u8 23, .int .u8 t, .int .u8 d, .int .u8 a, .int .u8 b, .int .u32 i] 88)) h0)
  clear hm hcell
  go_enter Try.func43, Try.ntmps43
  go_wp2_with (first | (go_at_call 50; refine CU.out.mono ?_; rintro e y1 ⟨rfl, q1⟩) | fail)
  go_ret2
  exact ⟨rfl, hq.trans q1⟩

set_option maxHeartbeats 1000000 in
theorem val_24 (hm : MV w w0 R col im mem cls tr ex N) {C o : Nat} {c : Cl} (hcok : c.ok) (hcell : ∀ X, Q w X → (X.cell? ⟨C, o + 21, none⟩ = some (.int .i64 (c.ba : Int)) ∧ ∀ (j : Nat) (g : Int), c.gt[j]? = some g → X.cell? ⟨C, o + 8 + j, none⟩ = some (.int .i64 g))) ( t d a b i x y : Int) (h0 : 0 ≤ t) (hi0 : 0 ≤ i) (hi1 : i ≤ 4294967295) :
    Calls Try.prog 43 #[.pointer (some ⟨R, 0, none⟩), .pointer (some ⟨C, o, none⟩), .agg #[.int .u8 24, .int .u8 t, .int .u8 d, .int .u8 a, .int .u8 b, .int .u32 i], .int .i64 x, .int .i64 y] w fun e w' => e = .returned (.tuple #[.int .i64 (Burin.un1 3 t x), .int .u8 (Burin.un2 3 t x)]) ∧ Q w w' := by
  have hq : Q w (w.alloc (.cells #[.int .u8 24, .int .u8 t, .int .u8 d, .int .u8 a, .int .u8 b, .int .u32 i] 88)) := (Q.refl w).alloc _
  have z1 : IntKind.i64.wrap i = i := by rw [IntKind.wrap_i64]; omega
  have CU := hideIt (Nu.un_any 3 t x (w.alloc (.cells #[.int .u8 24, .int .u8 t, .int .u8 d, .int .u8 a, .int .u8 b, .int .u32 i] 88)) h0)
  clear hm hcell
  go_enter Try.func43, Try.ntmps43
  go_wp2_with (first | (go_at_call 50; refine CU.out.mono ?_; rintro e y1 ⟨rfl, q1⟩) | fail)
  go_ret2
  exact ⟨rfl, hq.trans q1⟩

set_option maxHeartbeats 1000000 in
theorem val_25 (hm : MV w w0 R col im mem cls tr ex N) {C o : Nat} {c : Cl} (hcok : c.ok) (hcell : ∀ X, Q w X → (X.cell? ⟨C, o + 21, none⟩ = some (.int .i64 (c.ba : Int)) ∧ ∀ (j : Nat) (g : Int), c.gt[j]? = some g → X.cell? ⟨C, o + 8 + j, none⟩ = some (.int .i64 g))) ( t d a b i x y : Int) (h0 : 0 ≤ t) (hi0 : 0 ≤ i) (hi1 : i ≤ 4294967295) :
    Calls Try.prog 43 #[.pointer (some ⟨R, 0, none⟩), .pointer (some ⟨C, o, none⟩), .agg #[.int .u8 25, .int .u8 t, .int .u8 d, .int .u8 a, .int .u8 b, .int .u32 i], .int .i64 x, .int .i64 y] w fun e w' => e = .returned (.tuple #[.int .i64 (Burin.wr t x), .int .u8 (0)]) ∧ Q w w' := by
  have hq : Q w (w.alloc (.cells #[.int .u8 25, .int .u8 t, .int .u8 d, .int .u8 a, .int .u8 b, .int .u32 i] 88)) := (Q.refl w).alloc _
  have z1 : IntKind.i64.wrap i = i := by rw [IntKind.wrap_i64]; omega
  have CW := hideIt (Nu.wrap_any t x (w.alloc (.cells #[.int .u8 25, .int .u8 t, .int .u8 d, .int .u8 a, .int .u8 b, .int .u32 i] 88)) h0)
  clear hm hcell
  go_enter Try.func43, Try.ntmps43
  go_wp2_with (first | (go_at_call 49; refine CW.out.mono ?_; rintro e y1 ⟨rfl, rfl⟩) | fail)
  all_goals go_ret2
  all_goals exact ⟨rfl, hq⟩

set_option maxHeartbeats 1000000 in
theorem val_26 (hm : MV w w0 R col im mem cls tr ex N) {C o : Nat} {c : Cl} (hcok : c.ok) (hcell : ∀ X, Q w X → (X.cell? ⟨C, o + 21, none⟩ = some (.int .i64 (c.ba : Int)) ∧ ∀ (j : Nat) (g : Int), c.gt[j]? = some g → X.cell? ⟨C, o + 8 + j, none⟩ = some (.int .i64 g))) ( t d a b i x y : Int) (h0 : 0 ≤ t) (hi0 : 0 ≤ i) (hi1 : i ≤ 4294967295) :
    Calls Try.prog 43 #[.pointer (some ⟨R, 0, none⟩), .pointer (some ⟨C, o, none⟩), .agg #[.int .u8 26, .int .u8 t, .int .u8 d, .int .u8 a, .int .u8 b, .int .u32 i], .int .i64 x, .int .i64 y] w fun e w' => e = .returned (.tuple #[.int .i64 ((c.ba : Int) + i), .int .u8 (0)]) ∧ Q w w' := by
  have hq : Q w (w.alloc (.cells #[.int .u8 26, .int .u8 t, .int .u8 d, .int .u8 a, .int .u8 b, .int .u32 i] 88)) := (Q.refl w).alloc _
  have z1 : IntKind.i64.wrap i = i := by rw [IntKind.wrap_i64]; omega
  have CC := hideIt (fcell_any (w.alloc (.cells #[.int .u8 26, .int .u8 t, .int .u8 d, .int .u8 a, .int .u8 b, .int .u32 i] 88)) C o c.ba i (hcell _ hq).1 hcok.ba hi0 hi1)
  clear hm hcell
  go_enter Try.func43, Try.ntmps43
  go_wp2_with (first | (go_at_call 42; refine CC.out.mono ?_; rintro e y1 ⟨rfl, rfl⟩) | fail)
  all_goals go_ret2
  all_goals exact ⟨rfl, hq⟩

set_option maxHeartbeats 1000000 in
theorem val_27 (hm : MV w w0 R col im mem cls tr ex N) {C o : Nat} {c : Cl} (hcok : c.ok) (hcell : ∀ X, Q w X → (X.cell? ⟨C, o + 21, none⟩ = some (.int .i64 (c.ba : Int)) ∧ ∀ (j : Nat) (g : Int), c.gt[j]? = some g → X.cell? ⟨C, o + 8 + j, none⟩ = some (.int .i64 g))) ( t d a b i x y : Int) (h0 : 0 ≤ t) (hi0 : 0 ≤ i) (hi1 : i ≤ 4294967295) :
    Calls Try.prog 43 #[.pointer (some ⟨R, 0, none⟩), .pointer (some ⟨C, o, none⟩), .agg #[.int .u8 27, .int .u8 t, .int .u8 d, .int .u8 a, .int .u8 b, .int .u32 i], .int .i64 x, .int .i64 y] w fun e w' => e = .returned (.tuple #[.int .i64 (i), .int .u8 (0)]) ∧ Q w w' := by
  have hq : Q w (w.alloc (.cells #[.int .u8 27, .int .u8 t, .int .u8 d, .int .u8 a, .int .u8 b, .int .u32 i] 88)) := (Q.refl w).alloc _
  have z1 : IntKind.i64.wrap i = i := by rw [IntKind.wrap_i64]; omega
  clear hm hcell
  go_enter Try.func43, Try.ntmps43
  go_wp2_with (first | fail)
  all_goals go_ret2
  all_goals exact ⟨rfl, hq⟩

set_option maxHeartbeats 1000000 in
theorem val_28 (hm : MV w w0 R col im mem cls tr ex N) {C o : Nat} {c : Cl} (hcok : c.ok) (hcell : ∀ X, Q w X → (X.cell? ⟨C, o + 21, none⟩ = some (.int .i64 (c.ba : Int)) ∧ ∀ (j : Nat) (g : Int), c.gt[j]? = some g → X.cell? ⟨C, o + 8 + j, none⟩ = some (.int .i64 g))) ( t d a b i x y : Int) (h0 : 0 ≤ t) (hi0 : 0 ≤ i) (hi1 : i ≤ 4294967295) :
    Calls Try.prog 43 #[.pointer (some ⟨R, 0, none⟩), .pointer (some ⟨C, o, none⟩), .agg #[.int .u8 28, .int .u8 t, .int .u8 d, .int .u8 a, .int .u8 b, .int .u32 i], .int .i64 x, .int .i64 y] w fun e w' => e = .returned (.tuple #[.int .i64 (if y < 0 ∨ i ≤ y then 0 else wrap64 (x + y)), .int .u8 (if y < 0 ∨ i ≤ y then 4 else 0)]) ∧ Q w w' := by
  have hq : Q w (w.alloc (.cells #[.int .u8 28, .int .u8 t, .int .u8 d, .int .u8 a, .int .u8 b, .int .u32 i] 88)) := (Q.refl w).alloc _
  have z1 : IntKind.i64.wrap i = i := by rw [IntKind.wrap_i64]; omega
  have CI := hideIt (index_any (w.alloc (.cells #[.int .u8 28, .int .u8 t, .int .u8 d, .int .u8 a, .int .u8 b, .int .u32 i] 88)) x y i)
  clear hm hcell
  go_enter Try.func43, Try.ntmps43
  go_wp2_with (first | (go_at_call 51; refine CI.out.mono ?_; rintro e y1 ⟨rfl, rfl⟩) | fail)
  all_goals go_ret2
  all_goals exact ⟨rfl, hq⟩

set_option maxHeartbeats 1000000 in
theorem val_29 (hm : MV w w0 R col im mem cls tr ex N) {C o : Nat} {c : Cl} (hcok : c.ok) (hcell : ∀ X, Q w X → (X.cell? ⟨C, o + 21, none⟩ = some (.int .i64 (c.ba : Int)) ∧ ∀ (j : Nat) (g : Int), c.gt[j]? = some g → X.cell? ⟨C, o + 8 + j, none⟩ = some (.int .i64 g))) ( t d a b i x y : Int) (h0 : 0 ≤ t) (hi0 : 0 ≤ i) (hi1 : i ≤ 4294967295) :
    Calls Try.prog 43 #[.pointer (some ⟨R, 0, none⟩), .pointer (some ⟨C, o, none⟩), .agg #[.int .u8 29, .int .u8 t, .int .u8 d, .int .u8 a, .int .u8 b, .int .u32 i], .int .i64 x, .int .i64 y] w fun e w' => e = .returned (.tuple #[.int .i64 (wrap64 (x + i)), .int .u8 (0)]) ∧ Q w w' := by
  have hq : Q w (w.alloc (.cells #[.int .u8 29, .int .u8 t, .int .u8 d, .int .u8 a, .int .u8 b, .int .u32 i] 88)) := (Q.refl w).alloc _
  have z1 : IntKind.i64.wrap i = i := by rw [IntKind.wrap_i64]; omega
  clear hm hcell
  go_enter Try.func43, Try.ntmps43
  go_wp2_with (first | fail)
  all_goals go_ret2
  all_goals exact ⟨rfl, hq⟩

set_option maxHeartbeats 1000000 in
theorem val_30 (hm : MV w w0 R col im mem cls tr ex N) {C o : Nat} {c : Cl} (hcok : c.ok) (hcell : ∀ X, Q w X → (X.cell? ⟨C, o + 21, none⟩ = some (.int .i64 (c.ba : Int)) ∧ ∀ (j : Nat) (g : Int), c.gt[j]? = some g → X.cell? ⟨C, o + 8 + j, none⟩ = some (.int .i64 g))) ( t d a b i x y : Int) (h0 : 0 ≤ t) (hi0 : 0 ≤ i) (hi1 : i ≤ 4294967295) :
    Calls Try.prog 43 #[.pointer (some ⟨R, 0, none⟩), .pointer (some ⟨C, o, none⟩), .agg #[.int .u8 30, .int .u8 t, .int .u8 d, .int .u8 a, .int .u8 b, .int .u32 i], .int .i64 x, .int .i64 y] w fun e w' => e = .returned (.tuple #[.int .i64 (if inM mem x then getM mem x else 0), .int .u8 (if inM mem x then 0 else 5)]) ∧ Q w w' := by
  have hq : Q w (w.alloc (.cells #[.int .u8 30, .int .u8 t, .int .u8 d, .int .u8 a, .int .u8 b, .int .u32 i] 88)) := (Q.refl w).alloc _
  have z1 : IntKind.i64.wrap i = i := by rw [IntKind.wrap_i64]; omega
  have CL := hideIt (load_any (hm.keep hq) x)
  clear hm hcell
  go_enter Try.func43, Try.ntmps43
  go_wp2_with (first | (go_at_call 52; refine CL.out.mono ?_; rintro e y1 ⟨rfl, rfl⟩) | fail)
  all_goals go_ret2
  all_goals exact ⟨rfl, hq⟩

set_option maxHeartbeats 1000000 in
theorem val_38 (hm : MV w w0 R col im mem cls tr ex N) {C o : Nat} {c : Cl} (hcok : c.ok) (hcell : ∀ X, Q w X → (X.cell? ⟨C, o + 21, none⟩ = some (.int .i64 (c.ba : Int)) ∧ ∀ (j : Nat) (g : Int), c.gt[j]? = some g → X.cell? ⟨C, o + 8 + j, none⟩ = some (.int .i64 g))) ( t d a b i x y : Int) (h0 : 0 ≤ t) (hi0 : 0 ≤ i) (hi1 : i ≤ 4294967295) :
    Calls Try.prog 43 #[.pointer (some ⟨R, 0, none⟩), .pointer (some ⟨C, o, none⟩), .agg #[.int .u8 38, .int .u8 t, .int .u8 d, .int .u8 a, .int .u8 b, .int .u32 i], .int .i64 x, .int .i64 y] w fun e w' => e = .returned (.tuple #[.int .i64 (if inM mem ((c.ba : Int) + i) then getM mem ((c.ba : Int) + i) else 0), .int .u8 (if inM mem ((c.ba : Int) + i) then 0 else 5)]) ∧ Q w w' := by
  have hq : Q w (w.alloc (.cells #[.int .u8 38, .int .u8 t, .int .u8 d, .int .u8 a, .int .u8 b, .int .u32 i] 88)) := (Q.refl w).alloc _
  have z1 : IntKind.i64.wrap i = i := by rw [IntKind.wrap_i64]; omega
  have CC := hideIt (fun m => fcell_any ((w.alloc (.cells #[.int .u8 38, .int .u8 t, .int .u8 d, .int .u8 a, .int .u8 b, .int .u32 i] 88)).drewN m) C o c.ba i (hcell _ (hq.drewN m)).1 hcok.ba hi0 hi1)
  have CL := hideIt (fun m => load_any (hm.keep (hq.drewN m)) ((c.ba : Int) + i))
  generalize (if inM mem ((c.ba : Int) + i) then getM mem ((c.ba : Int) + i) else 0) = r1 at *
  generalize (if inM mem ((c.ba : Int) + i) then (0 : Int) else 5) = r2 at *
  clear hm hcell
  go_enter Try.func43, Try.ntmps43
  go_wp2_with (first | fail)
  go_region_with (first | (go_at_call 42; refine (CC.out 1).mono ?_; rintro e y1 ⟨rfl, rfl⟩) | (go_at_call 52; refine (CL.out 1).mono ?_; rintro e y1 ⟨rfl, rfl⟩))
  all_goals go_wp2_with (fail)
  all_goals go_ret2
  all_goals exact ⟨rfl, hq.drewN 1⟩

set_option maxHeartbeats 1000000 in
theorem val_40b (hm : MV w w0 R col im mem cls tr ex N) {C o : Nat} {c : Cl} (hcok : c.ok) (hcell : ∀ X, Q w X → (X.cell? ⟨C, o + 21, none⟩ = some (.int .i64 (c.ba : Int)) ∧ ∀ (j : Nat) (g : Int), c.gt[j]? = some g → X.cell? ⟨C, o + 8 + j, none⟩ = some (.int .i64 g))) ( t d a b i x y : Int) (h0 : 0 ≤ t) (hi0 : 0 ≤ i) (hi1 : i ≤ 4294967295) (h6 : 6 ≤ i) :
    Calls Try.prog 43 #[.pointer (some ⟨R, 0, none⟩), .pointer (some ⟨C, o, none⟩), .agg #[.int .u8 40, .int .u8 t, .int .u8 d, .int .u8 a, .int .u8 b, .int .u32 i], .int .i64 x, .int .i64 y] w fun e w' => e = .returned (.tuple #[.int .i64 (0), .int .u8 (5)]) ∧ Q w w' := by
  have hq : Q w (w.alloc (.cells #[.int .u8 40, .int .u8 t, .int .u8 d, .int .u8 a, .int .u8 b, .int .u32 i] 88)) := (Q.refl w).alloc _
  have z1 : IntKind.i64.wrap i = i := by rw [IntKind.wrap_i64]; omega
  have CP := hideIt (param_bad (w.alloc (.cells #[.int .u8 40, .int .u8 t, .int .u8 d, .int .u8 a, .int .u8 b, .int .u32 i] 88)) C o i h6)
  clear hm hcell
  go_enter Try.func43, Try.ntmps43
  go_wp2_with (first | (go_at_call 53; refine CP.out.mono ?_; rintro e y1 ⟨rfl, rfl⟩) | fail)
  all_goals go_ret2
  all_goals exact ⟨rfl, hq⟩

set_option maxHeartbeats 1000000 in
theorem val_40 (hm : MV w w0 R col im mem cls tr ex N) {C o : Nat} {c : Cl} (hcok : c.ok) (hcell : ∀ X, Q w X → (X.cell? ⟨C, o + 21, none⟩ = some (.int .i64 (c.ba : Int)) ∧ ∀ (j : Nat) (g : Int), c.gt[j]? = some g → X.cell? ⟨C, o + 8 + j, none⟩ = some (.int .i64 g))) ( t d a b i x y : Int) (h0 : 0 ≤ t) (hi0 : 0 ≤ i) (hi1 : i ≤ 4294967295) (h6 : ¬ 6 ≤ i) :
    Calls Try.prog 43 #[.pointer (some ⟨R, 0, none⟩), .pointer (some ⟨C, o, none⟩), .agg #[.int .u8 40, .int .u8 t, .int .u8 d, .int .u8 a, .int .u8 b, .int .u32 i], .int .i64 x, .int .i64 y] w fun e w' => e = .returned (.tuple #[.int .i64 (c.gt.getD i.toNat 0), .int .u8 (0)]) ∧ Q w w' := by
  have hq : Q w (w.alloc (.cells #[.int .u8 40, .int .u8 t, .int .u8 d, .int .u8 a, .int .u8 b, .int .u32 i] 88)) := (Q.refl w).alloc _
  have z1 : IntKind.i64.wrap i = i := by rw [IntKind.wrap_i64]; omega
  obtain ⟨n, rfl⟩ : ∃ n : Nat, i = (n : Int) := ⟨i.toNat, by omega⟩
  obtain ⟨g, hg⟩ := get_of_lt (l := c.gt) (k := n) (by rw [hcok.gt]; omega)
  have eg : c.gt.getD (n : Int).toNat 0 = g := by rw [List.getD_eq_getElem?_getD, Int.toNat_natCast, hg]; rfl
  rw [eg]
  have CP := hideIt (param_ok (w.alloc (.cells #[.int .u8 40, .int .u8 t, .int .u8 d, .int .u8 a, .int .u8 b, .int .u32 (n : Int)] 88)) C o n g (by omega) ((hcell _ hq).2 n g hg))
  clear eg hg
  clear hm hcell
  go_enter Try.func43, Try.ntmps43
  go_wp2_with (first | (go_at_call 53; refine CP.out.mono ?_; rintro e y1 ⟨rfl, rfl⟩) | fail)
  all_goals go_ret2
  all_goals exact ⟨rfl, hq⟩

set_option maxHeartbeats 1000000 in
theorem val_do (hm : MV w w0 R col im mem cls tr ex N) {C o : Nat} {c : Cl} (hcok : c.ok) (hcell : ∀ X, Q w X → (X.cell? ⟨C, o + 21, none⟩ = some (.int .i64 (c.ba : Int)) ∧ ∀ (j : Nat) (g : Int), c.gt[j]? = some g → X.cell? ⟨C, o + 8 + j, none⟩ = some (.int .i64 g))) (op t d a b i x y : Int) (h0 : 0 ≤ t) (hi0 : 0 ≤ i) (hi1 : i ≤ 4294967295) (n20 : op ≠ 20) (n21 : op ≠ 21) (n22 : op ≠ 22) (n23 : op ≠ 23) (n24 : op ≠ 24) (n25 : op ≠ 25) (n26 : op ≠ 26) (n27 : op ≠ 27) (n28 : op ≠ 28) (n29 : op ≠ 29) (n30 : op ≠ 30) (n38 : op ≠ 38) (n40 : op ≠ 40) :
    Calls Try.prog 43 #[.pointer (some ⟨R, 0, none⟩), .pointer (some ⟨C, o, none⟩), .agg #[.int .u8 op, .int .u8 t, .int .u8 d, .int .u8 a, .int .u8 b, .int .u32 i], .int .i64 x, .int .i64 y] w fun e w' => e = .returned (.tuple #[.int .i64 (Burin.do1 op t x y), .int .u8 (Burin.do2 op t x y)]) ∧ Q w w' := by
  have hq : Q w (w.alloc (.cells #[.int .u8 op, .int .u8 t, .int .u8 d, .int .u8 a, .int .u8 b, .int .u32 i] 88)) := (Q.refl w).alloc _
  have z1 : IntKind.i64.wrap i = i := by rw [IntKind.wrap_i64]; omega
  have e20 : (op == 20) = false := by simpa using n20
  have e21 : (op == 21) = false := by simpa using n21
  have e22 : (op == 22) = false := by simpa using n22
  have e23 : (op == 23) = false := by simpa using n23
  have e24 : (op == 24) = false := by simpa using n24
  have e25 : (op == 25) = false := by simpa using n25
  have e26 : (op == 26) = false := by simpa using n26
  have e27 : (op == 27) = false := by simpa using n27
  have e28 : (op == 28) = false := by simpa using n28
  have e29 : (op == 29) = false := by simpa using n29
  have e30 : (op == 30) = false := by simpa using n30
  have e38 : (op == 38) = false := by simpa using n38
  have e40 : (op == 40) = false := by simpa using n40
  have CD := hideIt (Nu.do_any op t x y (w.alloc (.cells #[.int .u8 op, .int .u8 t, .int .u8 d, .int .u8 a, .int .u8 b, .int .u32 i] 88)) h0)
  clear n20 n21 n22 n23 n24 n25 n26 n27 n28 n29 n30 n38 n40
  clear hm hcell
  go_enter Try.func43, Try.ntmps43
  go_wp2_with (first | (go_at_call 54; refine CD.out.mono ?_; rintro e y1 ⟨rfl, q1⟩) | fail)
  go_ret2
  exact ⟨rfl, hq.trans q1⟩

theorem value_any (hm : MV w w0 R col im mem cls tr ex N) {C o : Nat} {c : Cl} (hcok : c.ok) (hcell : ∀ X, Q w X → (X.cell? ⟨C, o + 21, none⟩ = some (.int .i64 (c.ba : Int)) ∧ ∀ (j : Nat) (g : Int), c.gt[j]? = some g → X.cell? ⟨C, o + 8 + j, none⟩ = some (.int .i64 g))) (v x y : Int) (hU : Cd.U64 v) :
    Calls Try.prog 43 #[.pointer (some ⟨R, 0, none⟩), .pointer (some ⟨C, o, none⟩), .agg #[.int .u8 (fo v), .int .u8 (ft v), .int .u8 (fd v), .int .u8 (fa v), .int .u8 (fb v), .int .u32 (fi v)], .int .i64 x, .int .i64 y] w fun e w' => e = .returned (.tuple #[.int .i64 (val1 mem c v x y), .int .u8 (val2 mem c v x y)]) ∧ Q w w' := by
  have ht : 0 ≤ ft v := by unfold ft; omega
  have hi0 : 0 ≤ fi v := by unfold fi; omega
  have hi1 : fi v ≤ 4294967295 := by unfold fi; omega
  unfold val1 val2
  by_cases h20 : fo v = 20
  · rw [if_pos h20, if_pos h20]; rw [h20]; exact val_20 hm hcok hcell _ _ _ _ _ _ _ ht hi0 hi1
  by_cases h21 : fo v = 21
  · rw [if_neg h20, if_pos h21, if_neg h20, if_pos h21]; rw [h21]; exact val_21 hm hcok hcell _ _ _ _ _ _ _ ht hi0 hi1
  by_cases h22 : fo v = 22
  · rw [if_neg h20, if_neg h21, if_pos h22, if_neg h20, if_neg h21, if_pos h22]; rw [h22]; exact val_22 hm hcok hcell _ _ _ _ _ _ _ ht hi0 hi1
  by_cases h23 : fo v = 23
  · rw [if_neg h20, if_neg h21, if_neg h22, if_pos h23, if_neg h20, if_neg h21, if_neg h22, if_pos h23]; rw [h23]; exact val_23 hm hcok hcell _ _ _ _ _ _ _ ht hi0 hi1
  by_cases h24 : fo v = 24
  · rw [if_neg h20, if_neg h21, if_neg h22, if_neg h23, if_pos h24, if_neg h20, if_neg h21, if_neg h22, if_neg h23, if_pos h24]; rw [h24]; exact val_24 hm hcok hcell _ _ _ _ _ _ _ ht hi0 hi1
  by_cases h25 : fo v = 25
  · rw [if_neg h20, if_neg h21, if_neg h22, if_neg h23, if_neg h24, if_pos h25, if_neg h20, if_neg h21, if_neg h22, if_neg h23, if_neg h24, if_pos h25]; rw [h25]; exact val_25 hm hcok hcell _ _ _ _ _ _ _ ht hi0 hi1
  by_cases h26 : fo v = 26
  · rw [if_neg h20, if_neg h21, if_neg h22, if_neg h23, if_neg h24, if_neg h25, if_pos h26, if_neg h20, if_neg h21, if_neg h22, if_neg h23, if_neg h24, if_neg h25, if_pos h26]; rw [h26]; exact val_26 hm hcok hcell _ _ _ _ _ _ _ ht hi0 hi1
  by_cases h27 : fo v = 27
  · rw [if_neg h20, if_neg h21, if_neg h22, if_neg h23, if_neg h24, if_neg h25, if_neg h26, if_pos h27, if_neg h20, if_neg h21, if_neg h22, if_neg h23, if_neg h24, if_neg h25, if_neg h26, if_pos h27]; rw [h27]; exact val_27 hm hcok hcell _ _ _ _ _ _ _ ht hi0 hi1
  by_cases h28 : fo v = 28
  · rw [if_neg h20, if_neg h21, if_neg h22, if_neg h23, if_neg h24, if_neg h25, if_neg h26, if_neg h27, if_pos h28, if_neg h20, if_neg h21, if_neg h22, if_neg h23, if_neg h24, if_neg h25, if_neg h26, if_neg h27, if_pos h28]; rw [h28]; exact val_28 hm hcok hcell _ _ _ _ _ _ _ ht hi0 hi1
  by_cases h29 : fo v = 29
  · rw [if_neg h20, if_neg h21, if_neg h22, if_neg h23, if_neg h24, if_neg h25, if_neg h26, if_neg h27, if_neg h28, if_pos h29, if_neg h20, if_neg h21, if_neg h22, if_neg h23, if_neg h24, if_neg h25, if_neg h26, if_neg h27, if_neg h28, if_pos h29]; rw [h29]; exact val_29 hm hcok hcell _ _ _ _ _ _ _ ht hi0 hi1
  by_cases h30 : fo v = 30
  · rw [if_neg h20, if_neg h21, if_neg h22, if_neg h23, if_neg h24, if_neg h25, if_neg h26, if_neg h27, if_neg h28, if_neg h29, if_pos h30, if_neg h20, if_neg h21, if_neg h22, if_neg h23, if_neg h24, if_neg h25, if_neg h26, if_neg h27, if_neg h28, if_neg h29, if_pos h30]; rw [h30]; exact val_30 hm hcok hcell _ _ _ _ _ _ _ ht hi0 hi1
  by_cases h38 : fo v = 38
  · rw [if_neg h20, if_neg h21, if_neg h22, if_neg h23, if_neg h24, if_neg h25, if_neg h26, if_neg h27, if_neg h28, if_neg h29, if_neg h30, if_pos h38, if_neg h20, if_neg h21, if_neg h22, if_neg h23, if_neg h24, if_neg h25, if_neg h26, if_neg h27, if_neg h28, if_neg h29, if_neg h30, if_pos h38]; rw [h38]; exact val_38 hm hcok hcell _ _ _ _ _ _ _ ht hi0 hi1
  by_cases h40 : fo v = 40
  · rw [if_neg h20, if_neg h21, if_neg h22, if_neg h23, if_neg h24, if_neg h25, if_neg h26, if_neg h27, if_neg h28, if_neg h29, if_neg h30, if_neg h38, if_pos h40, if_neg h20, if_neg h21, if_neg h22, if_neg h23, if_neg h24, if_neg h25, if_neg h26, if_neg h27, if_neg h28, if_neg h29, if_neg h30, if_neg h38, if_pos h40]; rw [h40]
    by_cases h6 : 6 ≤ fi v
    · rw [if_pos h6, if_pos h6]; exact val_40b hm hcok hcell _ _ _ _ _ _ _ ht hi0 hi1 h6
    · rw [if_neg h6, if_neg h6]; exact val_40 hm hcok hcell _ _ _ _ _ _ _ ht hi0 hi1 h6
  rw [if_neg h20, if_neg h21, if_neg h22, if_neg h23, if_neg h24, if_neg h25, if_neg h26, if_neg h27, if_neg h28, if_neg h29, if_neg h30, if_neg h38, if_neg h40, if_neg h20, if_neg h21, if_neg h22, if_neg h23, if_neg h24, if_neg h25, if_neg h26, if_neg h27, if_neg h28, if_neg h29, if_neg h30, if_neg h38, if_neg h40]
  exact val_do hm hcok hcell _ _ _ _ _ _ _ _ ht hi0 hi1 h20 h21 h22 h23 h24 h25 h26 h27 h28 h29 h30 h38 h40
end
end Go.Proofs.Ytnlgkiejppgfjaa
