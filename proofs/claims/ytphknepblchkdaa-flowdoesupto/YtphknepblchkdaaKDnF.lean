/-
 An instruction of the document's run (what is reckoned by layer 1): contracts over the program; the conditions: a run lies there, the registers lie there, and the instruction is right.
-/
import Derived.Test.YtphknepblchkdaaKDnE
import Derived.Test.YtphknepblchkdaaKNuDo
import Derived.Deep.RegionHeld3
namespace Go.Proofs.Ytphknepblchkdaa.Dn
open Go.RowKit
set_option linter.unusedVariables false

section
variable {w w' w0 : World} {R : Nat} {col : Col} {c : PC} {fuel : Nat} {s : St} {G rn : Nat} {ρ : Rg}

set_option maxRecDepth 100000 in
set_option maxHeartbeats 2000000 in
theorem in_22 (h : IA w w0 R col c fuel s G rn ρ) (hrn : rn ≤ 20000) (keep : Nat) (ty imm : Int) (dst : Nat) (a : Nat) (b : Int) (aa : Option Addr) (an ac : Nat) (hd : dst < rn) (ha : a < rn) (ht : 0 ≤ ty) (ht5 : ty ≤ 255) (hr : Burin.un2 1 ty (ρ a) = 0) :
  Calls Try.prog 56 (insA R G rn keep 22 ty (dst : Int) (a : Int) b imm aa an ac) w fun e w' => e = .returned (.tuple #[]) ∧ IA w' w0 R col c fuel s G rn (setR ρ dst (Burin.un1 1 ty (ρ a))) ∧ Ex (atG G) col w col w' := by
 obtain ⟨B, hB⟩ : ∃ B, w.alloc (.cells #[.int .u8 22, .int .u8 ty, .int .i64 (dst : Int), .int .i64 (a : Int), .int .i64 b, .int .i64 imm, .slice aa an ac] 49) = B := ⟨_, rfl⟩
 obtain ⟨O, hO⟩ : ∃ O, w.heap.size = O := ⟨_, rfl⟩
 have qB : Q w B := by rw [← hB]; exact (Q.refl w).alloc _
 have HF : Hid (∀ y, Q B y → y.cell? ⟨O, 0, none⟩ = some (.int .u8 22) ∧ y.cell? ⟨O, 1, none⟩ = some (.int .u8 ty) ∧ y.cell? ⟨O, 2, none⟩ = some (.int .i64 (dst : Int)) ∧ y.cell? ⟨O, 3, none⟩ = some (.int .i64 (a : Int)) ∧ y.cell? ⟨G, a, none⟩ = some (.int .i64 (ρ a))) := fun y hy => by
  have hat : y.heap[O]? = some (.cells #[.int .u8 22, .int .u8 ty, .int .i64 (dst : Int), .int .i64 (a : Int), .int .i64 b, .int .i64 imm, .slice aa an ac] 49 (0, 0)) := by
   rw [hy.block O (by rw [← hB, ← hO]; simp), ← hB, ← hO]
   exact heap_alloc_new w _
  have hn := (h.keep (qB.trans hy)).nums
  exact ⟨cell_blk hat 0, cell_blk hat 1, cell_blk hat 2, cell_blk hat 3, hn.cell ha⟩
 have HR6 : Hid (∀ y, Q B y → y.cell? ⟨R, 6, none⟩ = some (.int .i64 0) ∧ y.frozen? ⟨R, 6, none⟩ = false) := fun y hy => (h.keep (qB.trans hy)).c6
 have CU : Hid (∀ X, Q B X → Calls Try.prog 72 #[.int .i64 1, .int .i64 ty, .int .i64 (ρ a)] X fun e w' => e = .returned (.tuple #[.int .i64 (Burin.un1 1 ty (ρ a)), .int .i64 (Burin.un2 1 ty (ρ a))]) ∧ Q B w' ∧ w'.cell? ⟨O, 0, none⟩ = some (.int .u8 22) ∧ w'.cell? ⟨O, 1, none⟩ = some (.int .u8 ty) ∧ w'.cell? ⟨O, 2, none⟩ = some (.int .i64 (dst : Int)) ∧ w'.cell? ⟨O, 3, none⟩ = some (.int .i64 (a : Int)) ∧ w'.cell? ⟨G, a, none⟩ = some (.int .i64 (ρ a))) := fun X hX => (Nu.run_any 1 ty (ρ a) X ht).mono fun e w' q => ⟨q.1, hX.trans q.2, HF.out _ (hX.trans q.2)⟩
 have hlR := h.ltR
 have nR : ¬ R = O := by omega
 have nR' : ¬ O = R := by omega
 have nG := h.gr
 have nG' : ¬ R = G := fun e => nG e.symm
 have hbd := Burin.un2_bd 1 ty (ρ a)
 generalize Burin.un1 1 ty (ρ a) = v at *
 generalize Burin.un2 1 ty (ρ a) = tr at *
 subst hr
 have TR := hideIt (fun z (hz : Q B z) => h.trap (qB.trans hz) (t := 0) (by decide))
 have FN := hideIt (fun z (hz : Q B z) => (show IA (z.setCell ⟨R, 6, none⟩ (.int .i64 0)) w0 R col c fuel s G rn ρ from ⟨(TR.out z hz).1, (TR.out z hz).2.1, h.hg, h.hb⟩).fin dst v)
 have CO := hideIt (fun z (hz : Q B z) => over_no (TR.out z hz).1)
 have HD := hideIt (fun z (hz : Q B z) => And.intro ((TR.out z hz).2.1.cell hd) ((TR.out z hz).2.1.free dst))
 have hdl : (dst : Int) < (rn : Int) := by omega
 have hal : (a : Int) < (rn : Int) := by omega
 have HQB := hideIt qB
 have ew : IntKind.i64.wrap ty = ty := by rw [IntKind.wrap_i64]; omega
 clear h qB hbd hlR
 generalize ρ a = va at *
 obtain ⟨p0, p1, p2, p3, p4⟩ := HF.out B (Q.refl B)
 go_enter Try.func56, Try.ntmps56
 go_wp2_with (fail)
 first | go_region_held3 (fun y : World => y.cell? ⟨O, 0, none⟩ = some (.int .u8 22) ∧ y.cell? ⟨O, 1, none⟩ = some (.int .u8 ty) ∧ y.cell? ⟨O, 2, none⟩ = some (.int .i64 (dst : Int)) ∧ y.cell? ⟨O, 3, none⟩ = some (.int .i64 (a : Int)) ∧ y.cell? ⟨G, a, none⟩ = some (.int .i64 va)) (first | exact HF.out _ (Q.refl _).drew | go_keep) (first | (go_at_call 72; refine Calls.mono (CU.out _ (by first | assumption | exact (Q.refl _).drew)) ?_; rintro e z ⟨rfl, hz, s0, s1, s2, s3, s4⟩; obtain ⟨z6, zf⟩ := HR6.out z hz; have HZ := hideIt hz; clear hz)) | fail
 all_goals rename_i hHeld
 all_goals clear hHeld
 all_goals go_wp2_with (first | (go_at_call 30; refine Calls.mono (CO.out _ HZ.out) ?_; rintro e y ⟨rfl, hy⟩; have hy2 := hy.symm; clear hy; subst hy2; obtain ⟨d1, d2⟩ := HD.out _ HZ.out) | fail)
 all_goals go_end0
 all_goals exact ⟨rfl, (FN.out _ HZ.out).1, ((TR.out _ HZ.out).2.2.mono (fun _ q => q.elim)).trans (FN.out _ HZ.out).2⟩

set_option maxRecDepth 100000 in
set_option maxHeartbeats 2000000 in
theorem in_22x (h : IA w w0 R col c fuel s G rn ρ) (hrn : rn ≤ 20000) (keep : Nat) (ty imm : Int) (dst : Nat) (a : Nat) (b : Int) (aa : Option Addr) (an ac : Nat) (ha : a < rn) (ht : 0 ≤ ty) (ht5 : ty ≤ 255) (hr : ¬ Burin.un2 1 ty (ρ a) = 0) :
  Calls Try.prog 56 (insA R G rn keep 22 ty (dst : Int) (a : Int) b imm aa an ac) w fun e w' => e = .returned (.tuple #[]) ∧ DI w' w0 R col c fuel s (Burin.un2 1 ty (ρ a)) false ∧ Ex (atG G) col w col w' := by
 obtain ⟨B, hB⟩ : ∃ B, w.alloc (.cells #[.int .u8 22, .int .u8 ty, .int .i64 (dst : Int), .int .i64 (a : Int), .int .i64 b, .int .i64 imm, .slice aa an ac] 49) = B := ⟨_, rfl⟩
 obtain ⟨O, hO⟩ : ∃ O, w.heap.size = O := ⟨_, rfl⟩
 have qB : Q w B := by rw [← hB]; exact (Q.refl w).alloc _
 have HF : Hid (∀ y, Q B y → y.cell? ⟨O, 0, none⟩ = some (.int .u8 22) ∧ y.cell? ⟨O, 1, none⟩ = some (.int .u8 ty) ∧ y.cell? ⟨O, 2, none⟩ = some (.int .i64 (dst : Int)) ∧ y.cell? ⟨O, 3, none⟩ = some (.int .i64 (a : Int)) ∧ y.cell? ⟨G, a, none⟩ = some (.int .i64 (ρ a))) := fun y hy => by
  have hat : y.heap[O]? = some (.cells #[.int .u8 22, .int .u8 ty, .int .i64 (dst : Int), .int .i64 (a : Int), .int .i64 b, .int .i64 imm, .slice aa an ac] 49 (0, 0)) := by
   rw [hy.block O (by rw [← hB, ← hO]; simp), ← hB, ← hO]
   exact heap_alloc_new w _
  have hn := (h.keep (qB.trans hy)).nums
  exact ⟨cell_blk hat 0, cell_blk hat 1, cell_blk hat 2, cell_blk hat 3, hn.cell ha⟩
 have HR6 : Hid (∀ y, Q B y → y.cell? ⟨R, 6, none⟩ = some (.int .i64 0) ∧ y.frozen? ⟨R, 6, none⟩ = false) := fun y hy => (h.keep (qB.trans hy)).c6
 have CU : Hid (∀ X, Q B X → Calls Try.prog 72 #[.int .i64 1, .int .i64 ty, .int .i64 (ρ a)] X fun e w' => e = .returned (.tuple #[.int .i64 (Burin.un1 1 ty (ρ a)), .int .i64 (Burin.un2 1 ty (ρ a))]) ∧ Q B w' ∧ w'.cell? ⟨O, 0, none⟩ = some (.int .u8 22) ∧ w'.cell? ⟨O, 1, none⟩ = some (.int .u8 ty) ∧ w'.cell? ⟨O, 2, none⟩ = some (.int .i64 (dst : Int)) ∧ w'.cell? ⟨O, 3, none⟩ = some (.int .i64 (a : Int)) ∧ w'.cell? ⟨G, a, none⟩ = some (.int .i64 (ρ a))) := fun X hX => (Nu.run_any 1 ty (ρ a) X ht).mono fun e w' q => ⟨q.1, hX.trans q.2, HF.out _ (hX.trans q.2)⟩
 have hlR := h.ltR
 have nR : ¬ R = O := by omega
 have nR' : ¬ O = R := by omega
 have nG := h.gr
 have nG' : ¬ R = G := fun e => nG e.symm
 have hbd := Burin.un2_bd 1 ty (ρ a)
 generalize Burin.un1 1 ty (ρ a) = v at *
 generalize Burin.un2 1 ty (ρ a) = tr at *
 have TR := hideIt (fun z (hz : Q B z) => h.trap (qB.trans hz) (t := tr) (by omega))
 have CO := hideIt (fun z (hz : Q B z) => over_di (TR.out z hz).1)
 have eo : (tr != 0 || false) = true := by simpa using hr
 rw [eo] at CO
 clear eo hr
 have hal : (a : Int) < (rn : Int) := by omega
 have HQB := hideIt qB
 have ew : IntKind.i64.wrap ty = ty := by rw [IntKind.wrap_i64]; omega
 clear h qB hbd hlR
 generalize ρ a = va at *
 obtain ⟨p0, p1, p2, p3, p4⟩ := HF.out B (Q.refl B)
 go_enter Try.func56, Try.ntmps56
 go_wp2_with (fail)
 first | go_region_held3 (fun y : World => y.cell? ⟨O, 0, none⟩ = some (.int .u8 22) ∧ y.cell? ⟨O, 1, none⟩ = some (.int .u8 ty) ∧ y.cell? ⟨O, 2, none⟩ = some (.int .i64 (dst : Int)) ∧ y.cell? ⟨O, 3, none⟩ = some (.int .i64 (a : Int)) ∧ y.cell? ⟨G, a, none⟩ = some (.int .i64 va)) (first | exact HF.out _ (Q.refl _).drew | go_keep) (first | (go_at_call 72; refine Calls.mono (CU.out _ (by first | assumption | exact (Q.refl _).drew)) ?_; rintro e z ⟨rfl, hz, s0, s1, s2, s3, s4⟩; obtain ⟨z6, zf⟩ := HR6.out z hz; have HZ := hideIt hz; clear hz)) | fail
 all_goals rename_i hHeld
 all_goals clear hHeld
 all_goals go_wp2_with (first | (go_at_call 30; refine Calls.mono (CO.out _ HZ.out) ?_; rintro e y ⟨rfl, hy⟩; have hy2 := hy.symm; clear hy; subst hy2) | fail)
 all_goals go_end0
 all_goals exact ⟨rfl, (TR.out _ HZ.out).1, (TR.out _ HZ.out).2.2.mono (fun _ q => q.elim)⟩

set_option maxRecDepth 100000 in
set_option maxHeartbeats 2000000 in
theorem in_23 (h : IA w w0 R col c fuel s G rn ρ) (hrn : rn ≤ 20000) (keep : Nat) (ty imm : Int) (dst : Nat) (a : Nat) (b : Int) (aa : Option Addr) (an ac : Nat) (hd : dst < rn) (ha : a < rn) (ht : 0 ≤ ty) (ht5 : ty ≤ 255) (hr : Burin.un2 2 ty (ρ a) = 0) :
  Calls Try.prog 56 (insA R G rn keep 23 ty (dst : Int) (a : Int) b imm aa an ac) w fun e w' => e = .returned (.tuple #[]) ∧ IA w' w0 R col c fuel s G rn (setR ρ dst (Burin.un1 2 ty (ρ a))) ∧ Ex (atG G) col w col w' := by
 obtain ⟨B, hB⟩ : ∃ B, w.alloc (.cells #[.int .u8 23, .int .u8 ty, .int .i64 (dst : Int), .int .i64 (a : Int), .int .i64 b, .int .i64 imm, .slice aa an ac] 49) = B := ⟨_, rfl⟩
 obtain ⟨O, hO⟩ : ∃ O, w.heap.size = O := ⟨_, rfl⟩
 have qB : Q w B := by rw [← hB]; exact (Q.refl w).alloc _
 have HF : Hid (∀ y, Q B y → y.cell? ⟨O, 0, none⟩ = some (.int .u8 23) ∧ y.cell? ⟨O, 1, none⟩ = some (.int .u8 ty) ∧ y.cell? ⟨O, 2, none⟩ = some (.int .i64 (dst : Int)) ∧ y.cell? ⟨O, 3, none⟩ = some (.int .i64 (a : Int)) ∧ y.cell? ⟨G, a, none⟩ = some (.int .i64 (ρ a))) := fun y hy => by
  have hat : y.heap[O]? = some (.cells #[.int .u8 23, .int .u8 ty, .int .i64 (dst : Int), .int .i64 (a : Int), .int .i64 b, .int .i64 imm, .slice aa an ac] 49 (0, 0)) := by
   rw [hy.block O (by rw [← hB, ← hO]; simp), ← hB, ← hO]
   exact heap_alloc_new w _
  have hn := (h.keep (qB.trans hy)).nums
  exact ⟨cell_blk hat 0, cell_blk hat 1, cell_blk hat 2, cell_blk hat 3, hn.cell ha⟩
 have HR6 : Hid (∀ y, Q B y → y.cell? ⟨R, 6, none⟩ = some (.int .i64 0) ∧ y.frozen? ⟨R, 6, none⟩ = false) := fun y hy => (h.keep (qB.trans hy)).c6
 have CU : Hid (∀ X, Q B X → Calls Try.prog 72 #[.int .i64 2, .int .i64 ty, .int .i64 (ρ a)] X fun e w' => e = .returned (.tuple #[.int .i64 (Burin.un1 2 ty (ρ a)), .int .i64 (Burin.un2 2 ty (ρ a))]) ∧ Q B w' ∧ w'.cell? ⟨O, 0, none⟩ = some (.int .u8 23) ∧ w'.cell? ⟨O, 1, none⟩ = some (.int .u8 ty) ∧ w'.cell? ⟨O, 2, none⟩ = some (.int .i64 (dst : Int)) ∧ w'.cell? ⟨O, 3, none⟩ = some (.int .i64 (a : Int)) ∧ w'.cell? ⟨G, a, none⟩ = some (.int .i64 (ρ a))) := fun X hX => (Nu.run_any 2 ty (ρ a) X ht).mono fun e w' q => ⟨q.1, hX.trans q.2, HF.out _ (hX.trans q.2)⟩
 have hlR := h.ltR
 have nR : ¬ R = O := by omega
 have nR' : ¬ O = R := by omega
 have nG := h.gr
 have nG' : ¬ R = G := fun e => nG e.symm
 have hbd := Burin.un2_bd 2 ty (ρ a)
 generalize Burin.un1 2 ty (ρ a) = v at *
 generalize Burin.un2 2 ty (ρ a) = tr at *
 subst hr
 have TR := hideIt (fun z (hz : Q B z) => h.trap (qB.trans hz) (t := 0) (by decide))
 have FN := hideIt (fun z (hz : Q B z) => (show IA (z.setCell ⟨R, 6, none⟩ (.int .i64 0)) w0 R col c fuel s G rn ρ from ⟨(TR.out z hz).1, (TR.out z hz).2.1, h.hg, h.hb⟩).fin dst v)
 have CO := hideIt (fun z (hz : Q B z) => over_no (TR.out z hz).1)
 have HD := hideIt (fun z (hz : Q B z) => And.intro ((TR.out z hz).2.1.cell hd) ((TR.out z hz).2.1.free dst))
 have hdl : (dst : Int) < (rn : Int) := by omega
 have hal : (a : Int) < (rn : Int) := by omega
 have HQB := hideIt qB
 have ew : IntKind.i64.wrap ty = ty := by rw [IntKind.wrap_i64]; omega
 clear h qB hbd hlR
 generalize ρ a = va at *
 obtain ⟨p0, p1, p2, p3, p4⟩ := HF.out B (Q.refl B)
 go_enter Try.func56, Try.ntmps56
 go_wp2_with (fail)
 first | go_region_held3 (fun y : World => y.cell? ⟨O, 0, none⟩ = some (.int .u8 23) ∧ y.cell? ⟨O, 1, none⟩ = some (.int .u8 ty) ∧ y.cell? ⟨O, 2, none⟩ = some (.int .i64 (dst : Int)) ∧ y.cell? ⟨O, 3, none⟩ = some (.int .i64 (a : Int)) ∧ y.cell? ⟨G, a, none⟩ = some (.int .i64 va)) (first | exact HF.out _ (Q.refl _).drew | go_keep) (first | (go_at_call 72; refine Calls.mono (CU.out _ (by first | assumption | exact (Q.refl _).drew)) ?_; rintro e z ⟨rfl, hz, s0, s1, s2, s3, s4⟩; obtain ⟨z6, zf⟩ := HR6.out z hz; have HZ := hideIt hz; clear hz)) | fail
 all_goals rename_i hHeld
 all_goals clear hHeld
 all_goals go_wp2_with (first | (go_at_call 30; refine Calls.mono (CO.out _ HZ.out) ?_; rintro e y ⟨rfl, hy⟩; have hy2 := hy.symm; clear hy; subst hy2; obtain ⟨d1, d2⟩ := HD.out _ HZ.out) | fail)
 all_goals go_end0
 all_goals exact ⟨rfl, (FN.out _ HZ.out).1, ((TR.out _ HZ.out).2.2.mono (fun _ q => q.elim)).trans (FN.out _ HZ.out).2⟩

set_option maxRecDepth 100000 in
set_option maxHeartbeats 2000000 in
theorem in_23x (h : IA w w0 R col c fuel s G rn ρ) (hrn : rn ≤ 20000) (keep : Nat) (ty imm : Int) (dst : Nat) (a : Nat) (b : Int) (aa : Option Addr) (an ac : Nat) (ha : a < rn) (ht : 0 ≤ ty) (ht5 : ty ≤ 255) (hr : ¬ Burin.un2 2 ty (ρ a) = 0) :
  Calls Try.prog 56 (insA R G rn keep 23 ty (dst : Int) (a : Int) b imm aa an ac) w fun e w' => e = .returned (.tuple #[]) ∧ DI w' w0 R col c fuel s (Burin.un2 2 ty (ρ a)) false ∧ Ex (atG G) col w col w' := by
 obtain ⟨B, hB⟩ : ∃ B, w.alloc (.cells #[.int .u8 23, .int .u8 ty, .int .i64 (dst : Int), .int .i64 (a : Int), .int .i64 b, .int .i64 imm, .slice aa an ac] 49) = B := ⟨_, rfl⟩
 obtain ⟨O, hO⟩ : ∃ O, w.heap.size = O := ⟨_, rfl⟩
 have qB : Q w B := by rw [← hB]; exact (Q.refl w).alloc _
 have HF : Hid (∀ y, Q B y → y.cell? ⟨O, 0, none⟩ = some (.int .u8 23) ∧ y.cell? ⟨O, 1, none⟩ = some (.int .u8 ty) ∧ y.cell? ⟨O, 2, none⟩ = some (.int .i64 (dst : Int)) ∧ y.cell? ⟨O, 3, none⟩ = some (.int .i64 (a : Int)) ∧ y.cell? ⟨G, a, none⟩ = some (.int .i64 (ρ a))) := fun y hy => by
  have hat : y.heap[O]? = some (.cells #[.int .u8 23, .int .u8 ty, .int .i64 (dst : Int), .int .i64 (a : Int), .int .i64 b, .int .i64 imm, .slice aa an ac] 49 (0, 0)) := by
   rw [hy.block O (by rw [← hB, ← hO]; simp), ← hB, ← hO]
   exact heap_alloc_new w _
  have hn := (h.keep (qB.trans hy)).nums
  exact ⟨cell_blk hat 0, cell_blk hat 1, cell_blk hat 2, cell_blk hat 3, hn.cell ha⟩
 have HR6 : Hid (∀ y, Q B y → y.cell? ⟨R, 6, none⟩ = some (.int .i64 0) ∧ y.frozen? ⟨R, 6, none⟩ = false) := fun y hy => (h.keep (qB.trans hy)).c6
 have CU : Hid (∀ X, Q B X → Calls Try.prog 72 #[.int .i64 2, .int .i64 ty, .int .i64 (ρ a)] X fun e w' => e = .returned (.tuple #[.int .i64 (Burin.un1 2 ty (ρ a)), .int .i64 (Burin.un2 2 ty (ρ a))]) ∧ Q B w' ∧ w'.cell? ⟨O, 0, none⟩ = some (.int .u8 23) ∧ w'.cell? ⟨O, 1, none⟩ = some (.int .u8 ty) ∧ w'.cell? ⟨O, 2, none⟩ = some (.int .i64 (dst : Int)) ∧ w'.cell? ⟨O, 3, none⟩ = some (.int .i64 (a : Int)) ∧ w'.cell? ⟨G, a, none⟩ = some (.int .i64 (ρ a))) := fun X hX => (Nu.run_any 2 ty (ρ a) X ht).mono fun e w' q => ⟨q.1, hX.trans q.2, HF.out _ (hX.trans q.2)⟩
 have hlR := h.ltR
 have nR : ¬ R = O := by omega
 have nR' : ¬ O = R := by omega
 have nG := h.gr
 have nG' : ¬ R = G := fun e => nG e.symm
 have hbd := Burin.un2_bd 2 ty (ρ a)
 generalize Burin.un1 2 ty (ρ a) = v at *
 generalize Burin.un2 2 ty (ρ a) = tr at *
 have TR := hideIt (fun z (hz : Q B z) => h.trap (qB.trans hz) (t := tr) (by omega))
 have CO := hideIt (fun z (hz : Q B z) => over_di (TR.out z hz).1)
 have eo : (tr != 0 || false) = true := by simpa using hr
 rw [eo] at CO
 clear eo hr
 have hal : (a : Int) < (rn : Int) := by omega
 have HQB := hideIt qB
 have ew : IntKind.i64.wrap ty = ty := by rw [IntKind.wrap_i64]; omega
 clear h qB hbd hlR
 generalize ρ a = va at *
 obtain ⟨p0, p1, p2, p3, p4⟩ := HF.out B (Q.refl B)
 go_enter Try.func56, Try.ntmps56
 go_wp2_with (fail)
 first | go_region_held3 (fun y : World => y.cell? ⟨O, 0, none⟩ = some (.int .u8 23) ∧ y.cell? ⟨O, 1, none⟩ = some (.int .u8 ty) ∧ y.cell? ⟨O, 2, none⟩ = some (.int .i64 (dst : Int)) ∧ y.cell? ⟨O, 3, none⟩ = some (.int .i64 (a : Int)) ∧ y.cell? ⟨G, a, none⟩ = some (.int .i64 va)) (first | exact HF.out _ (Q.refl _).drew | go_keep) (first | (go_at_call 72; refine Calls.mono (CU.out _ (by first | assumption | exact (Q.refl _).drew)) ?_; rintro e z ⟨rfl, hz, s0, s1, s2, s3, s4⟩; obtain ⟨z6, zf⟩ := HR6.out z hz; have HZ := hideIt hz; clear hz)) | fail
 all_goals rename_i hHeld
 all_goals clear hHeld
 all_goals go_wp2_with (first | (go_at_call 30; refine Calls.mono (CO.out _ HZ.out) ?_; rintro e y ⟨rfl, hy⟩; have hy2 := hy.symm; clear hy; subst hy2) | fail)
 all_goals go_end0
 all_goals exact ⟨rfl, (TR.out _ HZ.out).1, (TR.out _ HZ.out).2.2.mono (fun _ q => q.elim)⟩

set_option maxRecDepth 100000 in
set_option maxHeartbeats 2000000 in
theorem in_24 (h : IA w w0 R col c fuel s G rn ρ) (hrn : rn ≤ 20000) (keep : Nat) (ty imm : Int) (dst : Nat) (a : Nat) (b : Int) (aa : Option Addr) (an ac : Nat) (hd : dst < rn) (ha : a < rn) (ht : 0 ≤ ty) (ht5 : ty ≤ 255) (hr : Burin.un2 3 ty (ρ a) = 0) :
  Calls Try.prog 56 (insA R G rn keep 24 ty (dst : Int) (a : Int) b imm aa an ac) w fun e w' => e = .returned (.tuple #[]) ∧ IA w' w0 R col c fuel s G rn (setR ρ dst (Burin.un1 3 ty (ρ a))) ∧ Ex (atG G) col w col w' := by
 obtain ⟨B, hB⟩ : ∃ B, w.alloc (.cells #[.int .u8 24, .int .u8 ty, .int .i64 (dst : Int), .int .i64 (a : Int), .int .i64 b, .int .i64 imm, .slice aa an ac] 49) = B := ⟨_, rfl⟩
 obtain ⟨O, hO⟩ : ∃ O, w.heap.size = O := ⟨_, rfl⟩
 have qB : Q w B := by rw [← hB]; exact (Q.refl w).alloc _
 have HF : Hid (∀ y, Q B y → y.cell? ⟨O, 0, none⟩ = some (.int .u8 24) ∧ y.cell? ⟨O, 1, none⟩ = some (.int .u8 ty) ∧ y.cell? ⟨O, 2, none⟩ = some (.int .i64 (dst : Int)) ∧ y.cell? ⟨O, 3, none⟩ = some (.int .i64 (a : Int)) ∧ y.cell? ⟨G, a, none⟩ = some (.int .i64 (ρ a))) := fun y hy => by
  have hat : y.heap[O]? = some (.cells #[.int .u8 24, .int .u8 ty, .int .i64 (dst : Int), .int .i64 (a : Int), .int .i64 b, .int .i64 imm, .slice aa an ac] 49 (0, 0)) := by
   rw [hy.block O (by rw [← hB, ← hO]; simp), ← hB, ← hO]
   exact heap_alloc_new w _
  have hn := (h.keep (qB.trans hy)).nums
  exact ⟨cell_blk hat 0, cell_blk hat 1, cell_blk hat 2, cell_blk hat 3, hn.cell ha⟩
 have HR6 : Hid (∀ y, Q B y → y.cell? ⟨R, 6, none⟩ = some (.int .i64 0) ∧ y.frozen? ⟨R, 6, none⟩ = false) := fun y hy => (h.keep (qB.trans hy)).c6
 have CU : Hid (∀ X, Q B X → Calls Try.prog 72 #[.int .i64 3, .int .i64 ty, .int .i64 (ρ a)] X fun e w' => e = .returned (.tuple #[.int .i64 (Burin.un1 3 ty (ρ a)), .int .i64 (Burin.un2 3 ty (ρ a))]) ∧ Q B w' ∧ w'.cell? ⟨O, 0, none⟩ = some (.int .u8 24) ∧ w'.cell? ⟨O, 1, none⟩ = some (.int .u8 ty) ∧ w'.cell? ⟨O, 2, none⟩ = some (.int .i64 (dst : Int)) ∧ w'.cell? ⟨O, 3, none⟩ = some (.int .i64 (a : Int)) ∧ w'.cell? ⟨G, a, none⟩ = some (.int .i64 (ρ a))) := fun X hX => (Nu.run_any 3 ty (ρ a) X ht).mono fun e w' q => ⟨q.1, hX.trans q.2, HF.out _ (hX.trans q.2)⟩
 have hlR := h.ltR
 have nR : ¬ R = O := by omega
 have nR' : ¬ O = R := by omega
 have nG := h.gr
 have nG' : ¬ R = G := fun e => nG e.symm
 have hbd := Burin.un2_bd 3 ty (ρ a)
 generalize Burin.un1 3 ty (ρ a) = v at *
 generalize Burin.un2 3 ty (ρ a) = tr at *
 subst hr
 have TR := hideIt (fun z (hz : Q B z) => h.trap (qB.trans hz) (t := 0) (by decide))
 have FN := hideIt (fun z (hz : Q B z) => (show IA (z.setCell ⟨R, 6, none⟩ (.int .i64 0)) w0 R col c fuel s G rn ρ from ⟨(TR.out z hz).1, (TR.out z hz).2.1, h.hg, h.hb⟩).fin dst v)
 have CO := hideIt (fun z (hz : Q B z) => over_no (TR.out z hz).1)
 have HD := hideIt (fun z (hz : Q B z) => And.intro ((TR.out z hz).2.1.cell hd) ((TR.out z hz).2.1.free dst))
 have hdl : (dst : Int) < (rn : Int) := by omega
 have hal : (a : Int) < (rn : Int) := by omega
 have HQB := hideIt qB
 have ew : IntKind.i64.wrap ty = ty := by rw [IntKind.wrap_i64]; omega
 clear h qB hbd hlR
 generalize ρ a = va at *
 obtain ⟨p0, p1, p2, p3, p4⟩ := HF.out B (Q.refl B)
 go_enter Try.func56, Try.ntmps56
 go_wp2_with (fail)
 first | go_region_held3 (fun y : World => y.cell? ⟨O, 0, none⟩ = some (.int .u8 24) ∧ y.cell? ⟨O, 1, none⟩ = some (.int .u8 ty) ∧ y.cell? ⟨O, 2, none⟩ = some (.int .i64 (dst : Int)) ∧ y.cell? ⟨O, 3, none⟩ = some (.int .i64 (a : Int)) ∧ y.cell? ⟨G, a, none⟩ = some (.int .i64 va)) (first | exact HF.out _ (Q.refl _).drew | go_keep) (first | (go_at_call 72; refine Calls.mono (CU.out _ (by first | assumption | exact (Q.refl _).drew)) ?_; rintro e z ⟨rfl, hz, s0, s1, s2, s3, s4⟩; obtain ⟨z6, zf⟩ := HR6.out z hz; have HZ := hideIt hz; clear hz)) | fail
 all_goals rename_i hHeld
 all_goals clear hHeld
 all_goals go_wp2_with (first | (go_at_call 30; refine Calls.mono (CO.out _ HZ.out) ?_; rintro e y ⟨rfl, hy⟩; have hy2 := hy.symm; clear hy; subst hy2; obtain ⟨d1, d2⟩ := HD.out _ HZ.out) | fail)
 all_goals go_end0
 all_goals exact ⟨rfl, (FN.out _ HZ.out).1, ((TR.out _ HZ.out).2.2.mono (fun _ q => q.elim)).trans (FN.out _ HZ.out).2⟩

set_option maxRecDepth 100000 in
set_option maxHeartbeats 2000000 in
theorem in_24x (h : IA w w0 R col c fuel s G rn ρ) (hrn : rn ≤ 20000) (keep : Nat) (ty imm : Int) (dst : Nat) (a : Nat) (b : Int) (aa : Option Addr) (an ac : Nat) (ha : a < rn) (ht : 0 ≤ ty) (ht5 : ty ≤ 255) (hr : ¬ Burin.un2 3 ty (ρ a) = 0) :
  Calls Try.prog 56 (insA R G rn keep 24 ty (dst : Int) (a : Int) b imm aa an ac) w fun e w' => e = .returned (.tuple #[]) ∧ DI w' w0 R col c fuel s (Burin.un2 3 ty (ρ a)) false ∧ Ex (atG G) col w col w' := by
 obtain ⟨B, hB⟩ : ∃ B, w.alloc (.cells #[.int .u8 24, .int .u8 ty, .int .i64 (dst : Int), .int .i64 (a : Int), .int .i64 b, .int .i64 imm, .slice aa an ac] 49) = B := ⟨_, rfl⟩
 obtain ⟨O, hO⟩ : ∃ O, w.heap.size = O := ⟨_, rfl⟩
 have qB : Q w B := by rw [← hB]; exact (Q.refl w).alloc _
 have HF : Hid (∀ y, Q B y → y.cell? ⟨O, 0, none⟩ = some (.int .u8 24) ∧ y.cell? ⟨O, 1, none⟩ = some (.int .u8 ty) ∧ y.cell? ⟨O, 2, none⟩ = some (.int .i64 (dst : Int)) ∧ y.cell? ⟨O, 3, none⟩ = some (.int .i64 (a : Int)) ∧ y.cell? ⟨G, a, none⟩ = some (.int .i64 (ρ a))) := fun y hy => by
  have hat : y.heap[O]? = some (.cells #[.int .u8 24, .int .u8 ty, .int .i64 (dst : Int), .int .i64 (a : Int), .int .i64 b, .int .i64 imm, .slice aa an ac] 49 (0, 0)) := by
   rw [hy.block O (by rw [← hB, ← hO]; simp), ← hB, ← hO]
   exact heap_alloc_new w _
  have hn := (h.keep (qB.trans hy)).nums
  exact ⟨cell_blk hat 0, cell_blk hat 1, cell_blk hat 2, cell_blk hat 3, hn.cell ha⟩
 have HR6 : Hid (∀ y, Q B y → y.cell? ⟨R, 6, none⟩ = some (.int .i64 0) ∧ y.frozen? ⟨R, 6, none⟩ = false) := fun y hy => (h.keep (qB.trans hy)).c6
 have CU : Hid (∀ X, Q B X → Calls Try.prog 72 #[.int .i64 3, .int .i64 ty, .int .i64 (ρ a)] X fun e w' => e = .returned (.tuple #[.int .i64 (Burin.un1 3 ty (ρ a)), .int .i64 (Burin.un2 3 ty (ρ a))]) ∧ Q B w' ∧ w'.cell? ⟨O, 0, none⟩ = some (.int .u8 24) ∧ w'.cell? ⟨O, 1, none⟩ = some (.int .u8 ty) ∧ w'.cell? ⟨O, 2, none⟩ = some (.int .i64 (dst : Int)) ∧ w'.cell? ⟨O, 3, none⟩ = some (.int .i64 (a : Int)) ∧ w'.cell? ⟨G, a, none⟩ = some (.int .i64 (ρ a))) := fun X hX => (Nu.run_any 3 ty (ρ a) X ht).mono fun e w' q => ⟨q.1, hX.trans q.2, HF.out _ (hX.trans q.2)⟩
 have hlR := h.ltR
 have nR : ¬ R = O := by omega
 have nR' : ¬ O = R := by omega
 have nG := h.gr
 have nG' : ¬ R = G := fun e => nG e.symm
 have hbd := Burin.un2_bd 3 ty (ρ a)
 generalize Burin.un1 3 ty (ρ a) = v at *
 generalize Burin.un2 3 ty (ρ a) = tr at *
 have TR := hideIt (fun z (hz : Q B z) => h.trap (qB.trans hz) (t := tr) (by omega))
 have CO := hideIt (fun z (hz : Q B z) => over_di (TR.out z hz).1)
 have eo : (tr != 0 || false) = true := by simpa using hr
 rw [eo] at CO
 clear eo hr
 have hal : (a : Int) < (rn : Int) := by omega
 have HQB := hideIt qB
 have ew : IntKind.i64.wrap ty = ty := by rw [IntKind.wrap_i64]; omega
 clear h qB hbd hlR
 generalize ρ a = va at *
 obtain ⟨p0, p1, p2, p3, p4⟩ := HF.out B (Q.refl B)
 go_enter Try.func56, Try.ntmps56
 go_wp2_with (fail)
 first | go_region_held3 (fun y : World => y.cell? ⟨O, 0, none⟩ = some (.int .u8 24) ∧ y.cell? ⟨O, 1, none⟩ = some (.int .u8 ty) ∧ y.cell? ⟨O, 2, none⟩ = some (.int .i64 (dst : Int)) ∧ y.cell? ⟨O, 3, none⟩ = some (.int .i64 (a : Int)) ∧ y.cell? ⟨G, a, none⟩ = some (.int .i64 va)) (first | exact HF.out _ (Q.refl _).drew | go_keep) (first | (go_at_call 72; refine Calls.mono (CU.out _ (by first | assumption | exact (Q.refl _).drew)) ?_; rintro e z ⟨rfl, hz, s0, s1, s2, s3, s4⟩; obtain ⟨z6, zf⟩ := HR6.out z hz; have HZ := hideIt hz; clear hz)) | fail
 all_goals rename_i hHeld
 all_goals clear hHeld
 all_goals go_wp2_with (first | (go_at_call 30; refine Calls.mono (CO.out _ HZ.out) ?_; rintro e y ⟨rfl, hy⟩; have hy2 := hy.symm; clear hy; subst hy2) | fail)
 all_goals go_end0
 all_goals exact ⟨rfl, (TR.out _ HZ.out).1, (TR.out _ HZ.out).2.2.mono (fun _ q => q.elim)⟩

set_option maxRecDepth 100000 in
set_option maxHeartbeats 2000000 in
theorem in_25 (h : IA w w0 R col c fuel s G rn ρ) (hrn : rn ≤ 20000) (keep : Nat) (ty imm : Int) (dst : Nat) (a : Nat) (b : Int) (aa : Option Addr) (an ac : Nat) (hd : dst < rn) (ha : a < rn) (ht : 0 ≤ ty) (ht5 : ty ≤ 255) :
  Calls Try.prog 56 (insA R G rn keep 25 ty (dst : Int) (a : Int) b imm aa an ac) w fun e w' => e = .returned (.tuple #[]) ∧ IA w' w0 R col c fuel s G rn (setR ρ dst (Burin.wr ty (ρ a))) ∧ Ex (atG G) col w col w' := by
 obtain ⟨B, hB⟩ : ∃ B, w.alloc (.cells #[.int .u8 25, .int .u8 ty, .int .i64 (dst : Int), .int .i64 (a : Int), .int .i64 b, .int .i64 imm, .slice aa an ac] 49) = B := ⟨_, rfl⟩
 obtain ⟨O, hO⟩ : ∃ O, w.heap.size = O := ⟨_, rfl⟩
 have qB : Q w B := by rw [← hB]; exact (Q.refl w).alloc _
 have HF : Hid (∀ y, Q B y → y.cell? ⟨O, 0, none⟩ = some (.int .u8 25) ∧ y.cell? ⟨O, 1, none⟩ = some (.int .u8 ty) ∧ y.cell? ⟨O, 2, none⟩ = some (.int .i64 (dst : Int)) ∧ y.cell? ⟨O, 3, none⟩ = some (.int .i64 (a : Int)) ∧ y.cell? ⟨G, a, none⟩ = some (.int .i64 (ρ a))) := fun y hy => by
  have hat : y.heap[O]? = some (.cells #[.int .u8 25, .int .u8 ty, .int .i64 (dst : Int), .int .i64 (a : Int), .int .i64 b, .int .i64 imm, .slice aa an ac] 49 (0, 0)) := by
   rw [hy.block O (by rw [← hB, ← hO]; simp), ← hB, ← hO]
   exact heap_alloc_new w _
  have hn := (h.keep (qB.trans hy)).nums
  exact ⟨cell_blk hat 0, cell_blk hat 1, cell_blk hat 2, cell_blk hat 3, hn.cell ha⟩
 have CU : Hid (∀ X, Q B X → Calls Try.prog 73 #[.int .i64 ty, .int .i64 (ρ a)] X fun e w' => e = .returned (.int .i64 (Burin.wr ty (ρ a))) ∧ Q B w' ∧ w'.cell? ⟨O, 0, none⟩ = some (.int .u8 25) ∧ w'.cell? ⟨O, 1, none⟩ = some (.int .u8 ty) ∧ w'.cell? ⟨O, 2, none⟩ = some (.int .i64 (dst : Int)) ∧ w'.cell? ⟨O, 3, none⟩ = some (.int .i64 (a : Int)) ∧ w'.cell? ⟨G, a, none⟩ = some (.int .i64 (ρ a))) := fun X hX => (Nu.rwrap_any ty (ρ a) X ht).mono fun e w' q => ⟨q.1, hX.trans q.2, HF.out _ (hX.trans q.2)⟩
 generalize Burin.wr ty (ρ a) = v at *
 have FN := hideIt (fun z (hz : Q B z) => h.fin' (qB.trans hz) dst v)
 have CO := hideIt (fun z (hz : Q B z) => over_no (h.di.keep (qB.trans hz)))
 have HD := hideIt (fun z (hz : Q B z) => And.intro ((h.keep (qB.trans hz)).nums.cell hd) ((h.keep (qB.trans hz)).nums.free dst))
 have hdl : (dst : Int) < (rn : Int) := by omega
 have hal : (a : Int) < (rn : Int) := by omega
 have ew : IntKind.i64.wrap ty = ty := by rw [IntKind.wrap_i64]; omega
 clear h qB
 generalize ρ a = va at *
 obtain ⟨p0, p1, p2, p3, p4⟩ := HF.out B (Q.refl B)
 go_enter Try.func56, Try.ntmps56
 go_wp2_with (fail)
 first | go_region_held3 (fun y : World => y.cell? ⟨O, 0, none⟩ = some (.int .u8 25) ∧ y.cell? ⟨O, 1, none⟩ = some (.int .u8 ty) ∧ y.cell? ⟨O, 2, none⟩ = some (.int .i64 (dst : Int)) ∧ y.cell? ⟨O, 3, none⟩ = some (.int .i64 (a : Int)) ∧ y.cell? ⟨G, a, none⟩ = some (.int .i64 va)) (first | exact HF.out _ (Q.refl _).drew | go_keep) (first | (go_at_call 73; refine Calls.mono (CU.out _ (by first | assumption | exact (Q.refl _).drew)) ?_; rintro e z ⟨rfl, hz, s0, s1, s2, s3, s4⟩; obtain ⟨d1, d2⟩ := HD.out z hz; have HZ := hideIt hz; clear hz)) | fail
 all_goals rename_i hHeld
 all_goals clear hHeld
 all_goals go_wp2_with (first | (go_at_call 30; refine Calls.mono (CO.out _ HZ.out) ?_; rintro e y ⟨rfl, hy⟩; have hy2 := hy.symm; clear hy; subst hy2) | fail)
 all_goals go_end0
 all_goals exact ⟨rfl, FN.out _ HZ.out⟩

end
end Go.Proofs.Ytphknepblchkdaa.Dn
