/-
 An instruction of the document's run (what looks at registers alone): contracts over the program; the conditions: a run lies there, the registers lie there, and the instruction is right.
-/
import Derived.Test.YtphknepblchkdaaKDnD
namespace Go.Proofs.Ytphknepblchkdaa.Dn
open Go.RowKit
set_option linter.unusedVariables false

/-- What an instruction does behind its step. -/
def exB (cf : CallT) (keep : Nat) (i : PI) (ρ : Rg) (s : St) : Rs Rg :=
 if i.op = 33 then .ok ρ { s with tr := s.tr ++ [rg ρ i.a] }
 else if i.op = 31 then (if Me.inB s.bs (hiA (rg ρ i.a)) (loA (rg ρ i.a)) then .ok ρ { s with f := Me.upd s.f (hiA (rg ρ i.a)) (loA (rg ρ i.a)) (rg ρ i.b) } else .over 5 false s)
 else if i.op = 30 then (if Me.inB s.bs (hiA (rg ρ i.a)) (loA (rg ρ i.a)) then .ok (setR ρ i.dst.toNat (s.f (hiA (rg ρ i.a)) (loA (rg ρ i.a)))) s else .over 5 false s)
 else if i.op = 32 then (match cf i.imm.toNat (i.args.map (rg ρ)) s with | .ok v s2 => .ok (setR ρ i.dst.toNat v) s2 | .over t sp s2 => .over t sp s2)
 else if reck2 ρ i = 0 then .ok (setR ρ i.dst.toNat (reck1 keep ρ i)) s else .over (reck2 ρ i) false s
theorem exI_B (cf : CallT) (fuel keep : Nat) (i : PI) (ρ : Rg) (s : St) : exI cf fuel keep i ρ s = if s.n = fuel then .over 0 true s else exB cf keep i ρ s.up := rfl

/-- A run goes on, with the registers of a call at block G. -/
structure IA (w w0 : World) (R : Nat) (col : Col) (c : PC) (fuel : Nat) (s : St) (G rn : Nat) (ρ : Rg) : Prop where
 di : DI w w0 R col c fuel s 0 false
 nums : Nums w G rn ρ
 hg : col G = none
 hb : w0.heap.size ≤ G
abbrev atG (G : Nat) : Nat → Prop := fun b => b = G

section
variable {w w' w0 : World} {R : Nat} {col : Col} {c : PC} {fuel : Nat} {s : St} {G rn : Nat} {ρ : Rg}
theorem IA.keep (h : IA w w0 R col c fuel s G rn ρ) (hq : Q w w') : IA w' w0 R col c fuel s G rn ρ := ⟨h.di.keep hq, h.nums.keep (hq.block G h.nums.lt), h.hg, h.hb⟩
/-- A register is written. -/
theorem IA.fin (h : IA w w0 R col c fuel s G rn ρ) (n : Nat) (v : Int) : IA (w.setCell ⟨G, n, none⟩ (.int .i64 v)) w0 R col c fuel s G rn (setR ρ n v) ∧ Ex (atG G) col w col (w.setCell ⟨G, n, none⟩ (.int .i64 v)) :=
 ⟨⟨h.di.other h.hg h.hb _ _, h.nums.set v, h.hg, h.hb⟩, (Ex.refl (atG G) col w).set (p := ⟨G, n, none⟩) (Or.inr (Or.inl rfl)) _⟩
theorem IA.fin' {Y : World} (h : IA w w0 R col c fuel s G rn ρ) (hq : Q w Y) (n : Nat) (v : Int) : IA (Y.setCell ⟨G, n, none⟩ (.int .i64 v)) w0 R col c fuel s G rn (setR ρ n v) ∧ Ex (atG G) col w col (Y.setCell ⟨G, n, none⟩ (.int .i64 v)) := by
 obtain ⟨a, b⟩ := (h.keep hq).fin n v
 exact ⟨a, (Ex.q hq).trans b⟩
theorem over_no (h : DI w w0 R col c fuel s 0 false) : Calls Try.prog 30 #[.pointer (some ⟨R, 0, none⟩)] w fun e w' => e = .returned (.bool false) ∧ w' = w := over_di h
theorem IA.c6 (h : IA w w0 R col c fuel s G rn ρ) : w.cell? ⟨R, 6, none⟩ = some (.int .i64 0) ∧ w.frozen? ⟨R, 6, none⟩ = false := by
 obtain ⟨lv, tv, gs, d⟩ := h.di
 exact ⟨d.cs.2.2.2.2.1, d.fz 6⟩
theorem IA.gr (h : IA w w0 R col c fuel s G rn ρ) : ¬ G = R := fun e => by
 obtain ⟨lv, tv, gs, d⟩ := h.di
 have := d.colR
 rw [← e, h.hg] at this; cases this
theorem IA.ltR (h : IA w w0 R col c fuel s G rn ρ) : R < w.heap.size := by
 obtain ⟨lv, tv, gs, d⟩ := h.di
 exact d.ltR
/-- A trap is told. -/
theorem IA.trap {Y : World} (h : IA w w0 R col c fuel s G rn ρ) (hq : Q w Y) {t : Int} (ht : 0 ≤ t ∧ t ≤ 255) : DI (Y.setCell ⟨R, 6, none⟩ (.int .i64 t)) w0 R col c fuel s t false ∧ Nums (Y.setCell ⟨R, 6, none⟩ (.int .i64 t)) G rn ρ ∧ Ex noX col w col (Y.setCell ⟨R, 6, none⟩ (.int .i64 t)) := by
 have h' := h.keep hq
 have hne := h.gr
 obtain ⟨lv, tv, gs, d⟩ := h'.di
 obtain ⟨a, b⟩ := d.trap ht 0
 exact ⟨⟨lv, tv, gs, a⟩, h'.nums.keep (Below.heap_setCell _ _ _ _ hne), (Ex.q hq).trans b⟩

abbrev insA (R G rn keep : Nat) (op ty dst a b imm : Int) (aa : Option Addr) (an ac : Nat) : Array Value := #[.pointer (some ⟨R, 0, none⟩), .slice (some ⟨G, 0, none⟩) rn rn, .int .i64 (keep : Int), .agg #[.int .u8 op, .int .u8 ty, .int .i64 dst, .int .i64 a, .int .i64 b, .int .i64 imm, .slice aa an ac]]

set_option maxRecDepth 100000 in
set_option maxHeartbeats 2000000 in
theorem in_20 (h : IA w w0 R col c fuel s G rn ρ) (hrn : rn ≤ 20000) (keep : Nat) (ty imm : Int) (dst : Nat) (a : Int) (b : Int) (aa : Option Addr) (an ac : Nat) (hd : dst < rn) :
  Calls Try.prog 56 (insA R G rn keep 20 ty (dst : Int) a b imm aa an ac) w fun e w' => e = .returned (.tuple #[]) ∧ IA w' w0 R col c fuel s G rn (setR ρ dst (imm)) ∧ Ex (atG G) col w col w' := by
 have HQB := hideIt (show Q w (w.alloc (.cells #[.int .u8 20, .int .u8 ty, .int .i64 (dst : Int), .int .i64 a, .int .i64 b, .int .i64 imm, .slice aa an ac] 49)) from (Q.refl w).alloc _)
 have CO := hideIt (fun X (hX : Q w X) => over_no (h.di.keep hX))
 have FN := hideIt (fun Y (hY : Q w Y) => h.fin' hY dst (imm))
 have nb : ∀ ob, Nums (w.alloc ob) G rn ρ := fun ob => h.nums.keep (Below.heap_alloc _ _ _ h.nums.lt)
 have rd := fun ob => (nb ob).cell hd
 have fd := fun ob => (nb ob).free dst
 have hdl : (dst : Int) < (rn : Int) := by omega
 clear h nb hd
 go_enter Try.func56, Try.ntmps56
 go_wp2_with (first | (go_at_call 30; refine Calls.mono (CO.out _ (by first | exact HQB.out | exact HQB.out.drewN _ | exact HQB.out.drew)) ?_; rintro e y ⟨rfl, hy⟩; have hy2 := hy.symm; clear hy; subst hy2) | fail)
 go_end0
 first | exact ⟨rfl, FN.out _ HQB.out⟩ | exact ⟨rfl, FN.out _ (HQB.out.drewN _)⟩ | exact ⟨rfl, FN.out _ HQB.out.drew⟩

set_option maxRecDepth 100000 in
set_option maxHeartbeats 2000000 in
theorem in_21 (h : IA w w0 R col c fuel s G rn ρ) (hrn : rn ≤ 20000) (keep : Nat) (ty imm : Int) (dst : Nat) (a : Nat) (b : Int) (aa : Option Addr) (an ac : Nat) (hd : dst < rn) (ha : a < rn) :
  Calls Try.prog 56 (insA R G rn keep 21 ty (dst : Int) (a : Int) b imm aa an ac) w fun e w' => e = .returned (.tuple #[]) ∧ IA w' w0 R col c fuel s G rn (setR ρ dst (ρ a)) ∧ Ex (atG G) col w col w' := by
 have HQB := hideIt (show Q w (w.alloc (.cells #[.int .u8 21, .int .u8 ty, .int .i64 (dst : Int), .int .i64 (a : Int), .int .i64 b, .int .i64 imm, .slice aa an ac] 49)) from (Q.refl w).alloc _)
 have CO := hideIt (fun X (hX : Q w X) => over_no (h.di.keep hX))
 have FN := hideIt (fun Y (hY : Q w Y) => h.fin' hY dst (ρ a))
 have nb : ∀ ob, Nums (w.alloc ob) G rn ρ := fun ob => h.nums.keep (Below.heap_alloc _ _ _ h.nums.lt)
 have rd := fun ob => (nb ob).cell hd
 have fd := fun ob => (nb ob).free dst
 have hdl : (dst : Int) < (rn : Int) := by omega
 have ra := fun ob => (nb ob).cell ha
 have hal : (a : Int) < (rn : Int) := by omega
 clear h nb ha hd
 go_enter Try.func56, Try.ntmps56
 go_wp2_with (first | (go_at_call 30; refine Calls.mono (CO.out _ (by first | exact HQB.out | exact HQB.out.drewN _ | exact HQB.out.drew)) ?_; rintro e y ⟨rfl, hy⟩; have hy2 := hy.symm; clear hy; subst hy2) | fail)
 go_end0
 first | exact ⟨rfl, FN.out _ HQB.out⟩ | exact ⟨rfl, FN.out _ (HQB.out.drewN _)⟩ | exact ⟨rfl, FN.out _ HQB.out.drew⟩

set_option maxRecDepth 100000 in
set_option maxHeartbeats 2000000 in
theorem in_26 (h : IA w w0 R col c fuel s G rn ρ) (hrn : rn ≤ 20000) (keep : Nat) (ty imm : Int) (dst : Nat) (a : Int) (b : Int) (aa : Option Addr) (an ac : Nat) (hd : dst < rn) (hk : keep ≤ 65536) (hi0 : 0 ≤ imm) (hi1 : imm ≤ 65536) :
  Calls Try.prog 56 (insA R G rn keep 26 ty (dst : Int) a b imm aa an ac) w fun e w' => e = .returned (.tuple #[]) ∧ IA w' w0 R col c fuel s G rn (setR ρ dst (((keep : Int) + imm) * 1048576)) ∧ Ex (atG G) col w col w' := by
 have HQB := hideIt (show Q w (w.alloc (.cells #[.int .u8 26, .int .u8 ty, .int .i64 (dst : Int), .int .i64 a, .int .i64 b, .int .i64 imm, .slice aa an ac] 49)) from (Q.refl w).alloc _)
 have CO := hideIt (fun X (hX : Q w X) => over_no (h.di.keep hX))
 have FN := hideIt (fun Y (hY : Q w Y) => h.fin' hY dst (((keep : Int) + imm) * 1048576))
 have nb : ∀ ob, Nums (w.alloc ob) G rn ρ := fun ob => h.nums.keep (Below.heap_alloc _ _ _ h.nums.lt)
 have rd := fun ob => (nb ob).cell hd
 have fd := fun ob => (nb ob).free dst
 have hdl : (dst : Int) < (rn : Int) := by omega
 clear h nb hd
 go_enter Try.func56, Try.ntmps56
 go_wp2_with (first | (go_at_call 30; refine Calls.mono (CO.out _ (by first | exact HQB.out | exact HQB.out.drewN _ | exact HQB.out.drew)) ?_; rintro e y ⟨rfl, hy⟩; have hy2 := hy.symm; clear hy; subst hy2) | fail)
 go_end0
 first | exact ⟨rfl, FN.out _ HQB.out⟩ | exact ⟨rfl, FN.out _ (HQB.out.drewN _)⟩ | exact ⟨rfl, FN.out _ HQB.out.drew⟩

set_option maxRecDepth 100000 in
set_option maxHeartbeats 2000000 in
theorem in_27 (h : IA w w0 R col c fuel s G rn ρ) (hrn : rn ≤ 20000) (keep : Nat) (ty imm : Int) (dst : Nat) (a : Int) (b : Int) (aa : Option Addr) (an ac : Nat) (hd : dst < rn) (hi0 : 0 ≤ imm) (hi1 : imm ≤ 65536) :
  Calls Try.prog 56 (insA R G rn keep 27 ty (dst : Int) a b imm aa an ac) w fun e w' => e = .returned (.tuple #[]) ∧ IA w' w0 R col c fuel s G rn (setR ρ dst (imm * 1048576)) ∧ Ex (atG G) col w col w' := by
 have HQB := hideIt (show Q w (w.alloc (.cells #[.int .u8 27, .int .u8 ty, .int .i64 (dst : Int), .int .i64 a, .int .i64 b, .int .i64 imm, .slice aa an ac] 49)) from (Q.refl w).alloc _)
 have CO := hideIt (fun X (hX : Q w X) => over_no (h.di.keep hX))
 have FN := hideIt (fun Y (hY : Q w Y) => h.fin' hY dst (imm * 1048576))
 have nb : ∀ ob, Nums (w.alloc ob) G rn ρ := fun ob => h.nums.keep (Below.heap_alloc _ _ _ h.nums.lt)
 have rd := fun ob => (nb ob).cell hd
 have fd := fun ob => (nb ob).free dst
 have hdl : (dst : Int) < (rn : Int) := by omega
 clear h nb hd
 go_enter Try.func56, Try.ntmps56
 go_wp2_with (first | (go_at_call 30; refine Calls.mono (CO.out _ (by first | exact HQB.out | exact HQB.out.drewN _ | exact HQB.out.drew)) ?_; rintro e y ⟨rfl, hy⟩; have hy2 := hy.symm; clear hy; subst hy2) | fail)
 go_end0
 first | exact ⟨rfl, FN.out _ HQB.out⟩ | exact ⟨rfl, FN.out _ (HQB.out.drewN _)⟩ | exact ⟨rfl, FN.out _ HQB.out.drew⟩

set_option maxRecDepth 100000 in
set_option maxHeartbeats 2000000 in
theorem in_29 (h : IA w w0 R col c fuel s G rn ρ) (hrn : rn ≤ 20000) (keep : Nat) (ty imm : Int) (dst : Nat) (a : Nat) (b : Int) (aa : Option Addr) (an ac : Nat) (hd : dst < rn) (ha : a < rn) :
  Calls Try.prog 56 (insA R G rn keep 29 ty (dst : Int) (a : Int) b imm aa an ac) w fun e w' => e = .returned (.tuple #[]) ∧ IA w' w0 R col c fuel s G rn (setR ρ dst (wrap64 (ρ a + imm))) ∧ Ex (atG G) col w col w' := by
 have HQB := hideIt (show Q w (w.alloc (.cells #[.int .u8 29, .int .u8 ty, .int .i64 (dst : Int), .int .i64 (a : Int), .int .i64 b, .int .i64 imm, .slice aa an ac] 49)) from (Q.refl w).alloc _)
 have CO := hideIt (fun X (hX : Q w X) => over_no (h.di.keep hX))
 have FN := hideIt (fun Y (hY : Q w Y) => h.fin' hY dst (wrap64 (ρ a + imm)))
 have nb : ∀ ob, Nums (w.alloc ob) G rn ρ := fun ob => h.nums.keep (Below.heap_alloc _ _ _ h.nums.lt)
 have rd := fun ob => (nb ob).cell hd
 have fd := fun ob => (nb ob).free dst
 have hdl : (dst : Int) < (rn : Int) := by omega
 have ra := fun ob => (nb ob).cell ha
 have hal : (a : Int) < (rn : Int) := by omega
 clear h nb ha hd
 go_enter Try.func56, Try.ntmps56
 go_wp2_with (first | (go_at_call 30; refine Calls.mono (CO.out _ (by first | exact HQB.out | exact HQB.out.drewN _ | exact HQB.out.drew)) ?_; rintro e y ⟨rfl, hy⟩; have hy2 := hy.symm; clear hy; subst hy2) | fail)
 go_quiet (fail)
 go_wp2_with (first | (go_at_call 30; refine Calls.mono (CO.out _ (by first | exact HQB.out | exact HQB.out.drewN _ | exact HQB.out.drew)) ?_; rintro e y ⟨rfl, hy⟩; have hy2 := hy.symm; clear hy; subst hy2) | fail)
 go_end0
 first | exact ⟨rfl, FN.out _ HQB.out⟩ | exact ⟨rfl, FN.out _ (HQB.out.drewN _)⟩ | exact ⟨rfl, FN.out _ HQB.out.drew⟩

set_option maxRecDepth 100000 in
set_option maxHeartbeats 2000000 in
theorem in_28 (h : IA w w0 R col c fuel s G rn ρ) (hrn : rn ≤ 20000) (keep : Nat) (ty imm : Int) (dst : Nat) (a : Nat) (b : Nat) (aa : Option Addr) (an ac : Nat) (hd : dst < rn) (ha : a < rn) (hb : b < rn) (i0 : ¬ ρ b < 0) (i1 : ρ b < imm) :
  Calls Try.prog 56 (insA R G rn keep 28 ty (dst : Int) (a : Int) (b : Int) imm aa an ac) w fun e w' => e = .returned (.tuple #[]) ∧ IA w' w0 R col c fuel s G rn (setR ρ dst (wrap64 (ρ a + ρ b))) ∧ Ex (atG G) col w col w' := by
 have HQB := hideIt (show Q w (w.alloc (.cells #[.int .u8 28, .int .u8 ty, .int .i64 (dst : Int), .int .i64 (a : Int), .int .i64 (b : Int), .int .i64 imm, .slice aa an ac] 49)) from (Q.refl w).alloc _)
 have CO := hideIt (fun X (hX : Q w X) => over_no (h.di.keep hX))
 have FN := hideIt (fun Y (hY : Q w Y) => h.fin' hY dst (wrap64 (ρ a + ρ b)))
 have nb : ∀ ob, Nums (w.alloc ob) G rn ρ := fun ob => h.nums.keep (Below.heap_alloc _ _ _ h.nums.lt)
 have rd := fun ob => (nb ob).cell hd
 have fd := fun ob => (nb ob).free dst
 have hdl : (dst : Int) < (rn : Int) := by omega
 have ra := fun ob => (nb ob).cell ha
 have hal : (a : Int) < (rn : Int) := by omega
 have rb := fun ob => (nb ob).cell hb
 have hbl : (b : Int) < (rn : Int) := by omega
 have hb0 : decide (ρ b < 0) = false := by simpa using i0
 have hb1 : decide (imm ≤ ρ b) = false := by simp; omega
 clear h nb ha hb hd
 go_enter Try.func56, Try.ntmps56
 go_wp2_with (first | (go_at_call 30; refine Calls.mono (CO.out _ (by first | exact HQB.out | exact HQB.out.drewN _ | exact HQB.out.drew)) ?_; rintro e y ⟨rfl, hy⟩; have hy2 := hy.symm; clear hy; subst hy2) | fail)
 go_quiet (fail)
 go_wp2_with (first | (go_at_call 30; refine Calls.mono (CO.out _ (by first | exact HQB.out | exact HQB.out.drewN _ | exact HQB.out.drew)) ?_; rintro e y ⟨rfl, hy⟩; have hy2 := hy.symm; clear hy; subst hy2) | fail)
 go_quiet (fail)
 go_wp2_with (first | (go_at_call 30; refine Calls.mono (CO.out _ (by first | exact HQB.out | exact HQB.out.drewN _ | exact HQB.out.drew)) ?_; rintro e y ⟨rfl, hy⟩; have hy2 := hy.symm; clear hy; subst hy2) | fail)
 go_end0
 first | exact ⟨rfl, FN.out _ HQB.out⟩ | exact ⟨rfl, FN.out _ (HQB.out.drewN _)⟩ | exact ⟨rfl, FN.out _ (HQB.out.drewN _).drew⟩ | exact ⟨rfl, FN.out _ ((HQB.out.drewN _).drewN _)⟩

set_option maxRecDepth 100000 in
set_option maxHeartbeats 2000000 in
theorem in_28n (h : IA w w0 R col c fuel s G rn ρ) (hrn : rn ≤ 20000) (keep : Nat) (ty imm dst a : Int) (b : Nat) (aa : Option Addr) (an ac : Nat) (hb : b < rn) (i0 : ρ b < 0) :
  Calls Try.prog 56 (insA R G rn keep 28 ty dst a (b : Int) imm aa an ac) w fun e w' => e = .returned (.tuple #[]) ∧ DI w' w0 R col c fuel s 4 false ∧ Ex (atG G) col w col w' := by
 have HQB := hideIt (show Q w (w.alloc (.cells #[.int .u8 28, .int .u8 ty, .int .i64 dst, .int .i64 a, .int .i64 (b : Int), .int .i64 imm, .slice aa an ac] 49)) from (Q.refl w).alloc _)
 have FN := hideIt (fun Y (hY : Q w Y) => h.trap hY (t := 4) (by decide))
 have nb : ∀ ob, Nums (w.alloc ob) G rn ρ := fun ob => h.nums.keep (Below.heap_alloc _ _ _ h.nums.lt)
 have rb := fun ob => (nb ob).cell hb
 have hbl : (b : Int) < (rn : Int) := by omega
 have r6 := fun ob => (h.keep ((Q.refl w).alloc ob)).c6.1
 have f6 := fun ob => (h.keep ((Q.refl w).alloc ob)).c6.2
 have hb0 : decide (ρ b < 0) = true := by simpa using i0
 clear h nb hb
 go_enter Try.func56, Try.ntmps56
 go_wp2_with (fail)
 go_quiet (fail)
 go_wp2_with (fail)
 refine bodyPost_ret (v := .tuple #[]) (results_none rfl _ _ _) rfl ?_
 obtain ⟨a1, -, a2⟩ := FN.out _ (HQB.out.drewN _)
 exact ⟨rfl, a1, a2.mono (fun _ q => q.elim)⟩

set_option maxRecDepth 100000 in
set_option maxHeartbeats 2000000 in
theorem in_28f (h : IA w w0 R col c fuel s G rn ρ) (hrn : rn ≤ 20000) (keep : Nat) (ty imm dst a : Int) (b : Nat) (aa : Option Addr) (an ac : Nat) (hb : b < rn) (i0 : ¬ ρ b < 0) (i1 : imm ≤ ρ b) :
  Calls Try.prog 56 (insA R G rn keep 28 ty dst a (b : Int) imm aa an ac) w fun e w' => e = .returned (.tuple #[]) ∧ DI w' w0 R col c fuel s 4 false ∧ Ex (atG G) col w col w' := by
 have HQB := hideIt (show Q w (w.alloc (.cells #[.int .u8 28, .int .u8 ty, .int .i64 dst, .int .i64 a, .int .i64 (b : Int), .int .i64 imm, .slice aa an ac] 49)) from (Q.refl w).alloc _)
 have FN := hideIt (fun Y (hY : Q w Y) => h.trap hY (t := 4) (by decide))
 have nb : ∀ ob, Nums (w.alloc ob) G rn ρ := fun ob => h.nums.keep (Below.heap_alloc _ _ _ h.nums.lt)
 have rb := fun ob => (nb ob).cell hb
 have hbl : (b : Int) < (rn : Int) := by omega
 have r6 := fun ob => (h.keep ((Q.refl w).alloc ob)).c6.1
 have f6 := fun ob => (h.keep ((Q.refl w).alloc ob)).c6.2
 have hb0 : decide (ρ b < 0) = false := by simpa using i0
 have hb1 : decide (imm ≤ ρ b) = true := by simpa using i1
 clear h nb hb
 go_enter Try.func56, Try.ntmps56
 go_wp2_with (fail)
 go_quiet (fail)
 go_wp2_with (fail)
 refine bodyPost_ret (v := .tuple #[]) (results_none rfl _ _ _) rfl ?_
 obtain ⟨a1, -, a2⟩ := FN.out _ (HQB.out.drewN _)
 exact ⟨rfl, a1, a2.mono (fun _ q => q.elim)⟩

end
end Go.Proofs.Ytphknepblchkdaa.Dn
