/-
 An instruction of the document's run (an operation of two numbers): contracts over the program; the conditions: a run lies there, the registers lie there, and the instruction is right.
-/
import Derived.Test.YtphknepblchkdaaKDnE
import Derived.Test.YtphknepblchkdaaKNuDo
import Derived.Deep.RegionHeld3
namespace Go.Proofs.Ytphknepblchkdaa.Dn
open Go.RowKit
set_option linter.unusedVariables false

section
variable {w w' w0 : World} {R : Nat} {col : Col} {c : PC} {fuel : Nat} {s : St} {G rn : Nat} {ρ : Rg}

set_option maxRecDepth 100000 in
set_option maxHeartbeats 2000000 in
theorem in_do (h : IA w w0 R col c fuel s G rn ρ) (hrn : rn ≤ 20000) (keep : Nat) (o : Int) (ty imm : Int) (dst : Nat) (a : Nat) (b : Nat) (aa : Option Addr) (an ac : Nat) (hd : dst < rn) (ha : a < rn) (hb : b < rn) (ht : 0 ≤ ty) (ht5 : ty ≤ 255) (ho1 : 1 ≤ o) (ho16 : o ≤ 16) (hr : Burin.do2 o ty (ρ a) (ρ b) = 0) :
  Calls Try.prog 56 (insA R G rn keep o ty (dst : Int) (a : Int) (b : Int) imm aa an ac) w fun e w' => e = .returned (.tuple #[]) ∧ IA w' w0 R col c fuel s G rn (setR ρ dst (Burin.do1 o ty (ρ a) (ρ b))) ∧ Ex (atG G) col w col w' := by
 obtain ⟨B, hB⟩ : ∃ B, w.alloc (.cells #[.int .u8 o, .int .u8 ty, .int .i64 (dst : Int), .int .i64 (a : Int), .int .i64 (b : Int), .int .i64 imm, .slice aa an ac] 49) = B := ⟨_, rfl⟩
 obtain ⟨O, hO⟩ : ∃ O, w.heap.size = O := ⟨_, rfl⟩
 have qB : Q w B := by rw [← hB]; exact (Q.refl w).alloc _
 have HF : Hid (∀ y, Q B y → y.cell? ⟨O, 0, none⟩ = some (.int .u8 o) ∧ y.cell? ⟨O, 1, none⟩ = some (.int .u8 ty) ∧ y.cell? ⟨O, 2, none⟩ = some (.int .i64 (dst : Int)) ∧ y.cell? ⟨O, 3, none⟩ = some (.int .i64 (a : Int)) ∧ y.cell? ⟨O, 4, none⟩ = some (.int .i64 (b : Int)) ∧ y.cell? ⟨G, a, none⟩ = some (.int .i64 (ρ a)) ∧ y.cell? ⟨G, b, none⟩ = some (.int .i64 (ρ b))) := fun y hy => by
  have hat : y.heap[O]? = some (.cells #[.int .u8 o, .int .u8 ty, .int .i64 (dst : Int), .int .i64 (a : Int), .int .i64 (b : Int), .int .i64 imm, .slice aa an ac] 49 (0, 0)) := by
   rw [hy.block O (by rw [← hB, ← hO]; simp), ← hB, ← hO]
   exact heap_alloc_new w _
  have hn := (h.keep (qB.trans hy)).nums
  exact ⟨cell_blk hat 0, cell_blk hat 1, cell_blk hat 2, cell_blk hat 3, cell_blk hat 4, hn.cell ha, hn.cell hb⟩
 have HR6 : Hid (∀ y, Q B y → y.cell? ⟨R, 6, none⟩ = some (.int .i64 0) ∧ y.frozen? ⟨R, 6, none⟩ = false) := fun y hy => (h.keep (qB.trans hy)).c6
 have CU : Hid (∀ X, Q B X → Calls Try.prog 75 #[.int .i64 o, .int .i64 ty, .int .i64 (ρ a), .int .i64 (ρ b)] X fun e w' => e = .returned (.tuple #[.int .i64 (Burin.do1 o ty (ρ a) (ρ b)), .int .i64 (Burin.do2 o ty (ρ a) (ρ b))]) ∧ Q B w' ∧ w'.cell? ⟨O, 0, none⟩ = some (.int .u8 o) ∧ w'.cell? ⟨O, 1, none⟩ = some (.int .u8 ty) ∧ w'.cell? ⟨O, 2, none⟩ = some (.int .i64 (dst : Int)) ∧ w'.cell? ⟨O, 3, none⟩ = some (.int .i64 (a : Int)) ∧ w'.cell? ⟨O, 4, none⟩ = some (.int .i64 (b : Int)) ∧ w'.cell? ⟨G, a, none⟩ = some (.int .i64 (ρ a)) ∧ w'.cell? ⟨G, b, none⟩ = some (.int .i64 (ρ b))) := fun X hX => (Nu.rdo_any o ty (ρ a) (ρ b) X ht).mono fun e w' q => ⟨q.1, hX.trans q.2, HF.out _ (hX.trans q.2)⟩
 have hlR := h.ltR
 have nR : ¬ R = O := by omega
 have nR' : ¬ O = R := by omega
 have nG := h.gr
 have nG' : ¬ R = G := fun e => nG e.symm
 have hbd := Burin.do2_bd o ty (ρ a) (ρ b)
 generalize Burin.do1 o ty (ρ a) (ρ b) = v at *
 generalize Burin.do2 o ty (ρ a) (ρ b) = tr at *
 subst hr
 have TR := hideIt (fun z (hz : Q B z) => h.trap (qB.trans hz) (t := 0) (by decide))
 have FN := hideIt (fun z (hz : Q B z) => (show IA (z.setCell ⟨R, 6, none⟩ (.int .i64 0)) w0 R col c fuel s G rn ρ from ⟨(TR.out z hz).1, (TR.out z hz).2.1, h.hg, h.hb⟩).fin dst v)
 have CO := hideIt (fun z (hz : Q B z) => over_no (TR.out z hz).1)
 have HD := hideIt (fun z (hz : Q B z) => And.intro ((TR.out z hz).2.1.cell hd) ((TR.out z hz).2.1.free dst))
 have hdl : (dst : Int) < (rn : Int) := by omega
 have hal : (a : Int) < (rn : Int) := by omega
 have hbl : (b : Int) < (rn : Int) := by omega
 have HQB := hideIt qB
 have ew : IntKind.i64.wrap ty = ty := by rw [IntKind.wrap_i64]; omega
 have eo2 : IntKind.i64.wrap o = o := by rw [IntKind.wrap_i64]; omega
 have n20 : (o == 20) = false := by simp; omega
 have n21 : (o == 21) = false := by simp; omega
 have n22 : (o == 22) = false := by simp; omega
 have n23 : (o == 23) = false := by simp; omega
 have n24 : (o == 24) = false := by simp; omega
 have n25 : (o == 25) = false := by simp; omega
 have n26 : (o == 26) = false := by simp; omega
 have n27 : (o == 27) = false := by simp; omega
 have n28 : (o == 28) = false := by simp; omega
 have n29 : (o == 29) = false := by simp; omega
 have n30 : (o == 30) = false := by simp; omega
 have n31 : (o == 31) = false := by simp; omega
 have n32 : (o == 32) = false := by simp; omega
 have n33 : (o == 33) = false := by simp; omega
 clear h qB hbd hlR
 generalize ρ a = va at *
 generalize ρ b = vb at *
 obtain ⟨p0, p1, p2, p3, p4, p5, p6⟩ := HF.out B (Q.refl B)
 go_enter Try.func56, Try.ntmps56
 go_wp2_with (fail)
 first | go_region_held3 (fun y : World => y.cell? ⟨O, 0, none⟩ = some (.int .u8 o) ∧ y.cell? ⟨O, 1, none⟩ = some (.int .u8 ty) ∧ y.cell? ⟨O, 2, none⟩ = some (.int .i64 (dst : Int)) ∧ y.cell? ⟨O, 3, none⟩ = some (.int .i64 (a : Int)) ∧ y.cell? ⟨O, 4, none⟩ = some (.int .i64 (b : Int)) ∧ y.cell? ⟨G, a, none⟩ = some (.int .i64 va) ∧ y.cell? ⟨G, b, none⟩ = some (.int .i64 vb)) (first | exact HF.out _ (Q.refl _).drew | go_keep) (first | (go_at_call 75; refine Calls.mono (CU.out _ (by first | assumption | exact (Q.refl _).drew)) ?_; rintro e z ⟨rfl, hz, s0, s1, s2, s3, s4, s5, s6⟩; obtain ⟨z6, zf⟩ := HR6.out z hz; have HZ := hideIt hz; clear hz)) | fail
 all_goals rename_i hHeld
 all_goals clear hHeld
 all_goals go_wp2_with (first | (go_at_call 30; refine Calls.mono (CO.out _ HZ.out) ?_; rintro e y ⟨rfl, hy⟩; have hy2 := hy.symm; clear hy; subst hy2; obtain ⟨d1, d2⟩ := HD.out _ HZ.out) | fail)
 all_goals go_end0
 all_goals exact ⟨rfl, (FN.out _ HZ.out).1, ((TR.out _ HZ.out).2.2.mono (fun _ q => q.elim)).trans (FN.out _ HZ.out).2⟩

set_option maxRecDepth 100000 in
set_option maxHeartbeats 2000000 in
theorem in_dox (h : IA w w0 R col c fuel s G rn ρ) (hrn : rn ≤ 20000) (keep : Nat) (o : Int) (ty imm : Int) (dst : Nat) (a : Nat) (b : Nat) (aa : Option Addr) (an ac : Nat) (ha : a < rn) (hb : b < rn) (ht : 0 ≤ ty) (ht5 : ty ≤ 255) (ho1 : 1 ≤ o) (ho16 : o ≤ 16) (hr : ¬ Burin.do2 o ty (ρ a) (ρ b) = 0) :
  Calls Try.prog 56 (insA R G rn keep o ty (dst : Int) (a : Int) (b : Int) imm aa an ac) w fun e w' => e = .returned (.tuple #[]) ∧ DI w' w0 R col c fuel s (Burin.do2 o ty (ρ a) (ρ b)) false ∧ Ex (atG G) col w col w' := by
 obtain ⟨B, hB⟩ : ∃ B, w.alloc (.cells #[.int .u8 o, .int .u8 ty, .int .i64 (dst : Int), .int .i64 (a : Int), .int .i64 (b : Int), .int .i64 imm, .slice aa an ac] 49) = B := ⟨_, rfl⟩
 obtain ⟨O, hO⟩ : ∃ O, w.heap.size = O := ⟨_, rfl⟩
 have qB : Q w B := by rw [← hB]; exact (Q.refl w).alloc _
 have HF : Hid (∀ y, Q B y → y.cell? ⟨O, 0, none⟩ = some (.int .u8 o) ∧ y.cell? ⟨O, 1, none⟩ = some (.int .u8 ty) ∧ y.cell? ⟨O, 2, none⟩ = some (.int .i64 (dst : Int)) ∧ y.cell? ⟨O, 3, none⟩ = some (.int .i64 (a : Int)) ∧ y.cell? ⟨O, 4, none⟩ = some (.int .i64 (b : Int)) ∧ y.cell? ⟨G, a, none⟩ = some (.int .i64 (ρ a)) ∧ y.cell? ⟨G, b, none⟩ = some (.int .i64 (ρ b))) := fun y hy => by
  have hat : y.heap[O]? = some (.cells #[.int .u8 o, .int .u8 ty, .int .i64 (dst : Int), .int .i64 (a : Int), .int .i64 (b : Int), .int .i64 imm, .slice aa an ac] 49 (0, 0)) := by
   rw [hy.block O (by rw [← hB, ← hO]; simp), ← hB, ← hO]
   exact heap_alloc_new w _
  have hn := (h.keep (qB.trans hy)).nums
  exact ⟨cell_blk hat 0, cell_blk hat 1, cell_blk hat 2, cell_blk hat 3, cell_blk hat 4, hn.cell ha, hn.cell hb⟩
 have HR6 : Hid (∀ y, Q B y → y.cell? ⟨R, 6, none⟩ = some (.int .i64 0) ∧ y.frozen? ⟨R, 6, none⟩ = false) := fun y hy => (h.keep (qB.trans hy)).c6
 have CU : Hid (∀ X, Q B X → Calls Try.prog 75 #[.int .i64 o, .int .i64 ty, .int .i64 (ρ a), .int .i64 (ρ b)] X fun e w' => e = .returned (.tuple #[.int .i64 (Burin.do1 o ty (ρ a) (ρ b)), .int .i64 (Burin.do2 o ty (ρ a) (ρ b))]) ∧ Q B w' ∧ w'.cell? ⟨O, 0, none⟩ = some (.int .u8 o) ∧ w'.cell? ⟨O, 1, none⟩ = some (.int .u8 ty) ∧ w'.cell? ⟨O, 2, none⟩ = some (.int .i64 (dst : Int)) ∧ w'.cell? ⟨O, 3, none⟩ = some (.int .i64 (a : Int)) ∧ w'.cell? ⟨O, 4, none⟩ = some (.int .i64 (b : Int)) ∧ w'.cell? ⟨G, a, none⟩ = some (.int .i64 (ρ a)) ∧ w'.cell? ⟨G, b, none⟩ = some (.int .i64 (ρ b))) := fun X hX => (Nu.rdo_any o ty (ρ a) (ρ b) X ht).mono fun e w' q => ⟨q.1, hX.trans q.2, HF.out _ (hX.trans q.2)⟩
 have hlR := h.ltR
 have nR : ¬ R = O := by omega
 have nR' : ¬ O = R := by omega
 have nG := h.gr
 have nG' : ¬ R = G := fun e => nG e.symm
 have hbd := Burin.do2_bd o ty (ρ a) (ρ b)
 generalize Burin.do1 o ty (ρ a) (ρ b) = v at *
 generalize Burin.do2 o ty (ρ a) (ρ b) = tr at *
 have TR := hideIt (fun z (hz : Q B z) => h.trap (qB.trans hz) (t := tr) (by omega))
 have CO := hideIt (fun z (hz : Q B z) => over_di (TR.out z hz).1)
 have eo : (tr != 0 || false) = true := by simpa using hr
 rw [eo] at CO
 clear eo hr
 have hal : (a : Int) < (rn : Int) := by omega
 have hbl : (b : Int) < (rn : Int) := by omega
 have HQB := hideIt qB
 have ew : IntKind.i64.wrap ty = ty := by rw [IntKind.wrap_i64]; omega
 have eo2 : IntKind.i64.wrap o = o := by rw [IntKind.wrap_i64]; omega
 have n20 : (o == 20) = false := by simp; omega
 have n21 : (o == 21) = false := by simp; omega
 have n22 : (o == 22) = false := by simp; omega
 have n23 : (o == 23) = false := by simp; omega
 have n24 : (o == 24) = false := by simp; omega
 have n25 : (o == 25) = false := by simp; omega
 have n26 : (o == 26) = false := by simp; omega
 have n27 : (o == 27) = false := by simp; omega
 have n28 : (o == 28) = false := by simp; omega
 have n29 : (o == 29) = false := by simp; omega
 have n30 : (o == 30) = false := by simp; omega
 have n31 : (o == 31) = false := by simp; omega
 have n32 : (o == 32) = false := by simp; omega
 have n33 : (o == 33) = false := by simp; omega
 clear h qB hbd hlR
 generalize ρ a = va at *
 generalize ρ b = vb at *
 obtain ⟨p0, p1, p2, p3, p4, p5, p6⟩ := HF.out B (Q.refl B)
 go_enter Try.func56, Try.ntmps56
 go_wp2_with (fail)
 first | go_region_held3 (fun y : World => y.cell? ⟨O, 0, none⟩ = some (.int .u8 o) ∧ y.cell? ⟨O, 1, none⟩ = some (.int .u8 ty) ∧ y.cell? ⟨O, 2, none⟩ = some (.int .i64 (dst : Int)) ∧ y.cell? ⟨O, 3, none⟩ = some (.int .i64 (a : Int)) ∧ y.cell? ⟨O, 4, none⟩ = some (.int .i64 (b : Int)) ∧ y.cell? ⟨G, a, none⟩ = some (.int .i64 va) ∧ y.cell? ⟨G, b, none⟩ = some (.int .i64 vb)) (first | exact HF.out _ (Q.refl _).drew | go_keep) (first | (go_at_call 75; refine Calls.mono (CU.out _ (by first | assumption | exact (Q.refl _).drew)) ?_; rintro e z ⟨rfl, hz, s0, s1, s2, s3, s4, s5, s6⟩; obtain ⟨z6, zf⟩ := HR6.out z hz; have HZ := hideIt hz; clear hz)) | fail
 all_goals rename_i hHeld
 all_goals clear hHeld
 all_goals go_wp2_with (first | (go_at_call 30; refine Calls.mono (CO.out _ HZ.out) ?_; rintro e y ⟨rfl, hy⟩; have hy2 := hy.symm; clear hy; subst hy2) | fail)
 all_goals go_end0
 all_goals exact ⟨rfl, (TR.out _ HZ.out).1, (TR.out _ HZ.out).2.2.mono (fun _ q => q.elim)⟩

end
end Go.Proofs.Ytphknepblchkdaa.Dn
