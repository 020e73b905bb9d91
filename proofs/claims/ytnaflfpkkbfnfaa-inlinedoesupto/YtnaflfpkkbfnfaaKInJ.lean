/-
  A call is done in the place of an instruction (call of inline): a contract over the program; the conditions: the function and the body lie in memory, and the body may be put there.
-/
import Derived.Test.YtnaflfpkkbfnfaaKInI
import Derived.Deep.RegionLaw
namespace Go.Proofs.Ytnaflfpkkbfnfaa.In
open Go.RowKit
set_option linter.unusedVariables false

abbrev boxO (x : PI) : Obj := .cells #[.int .u8 x.op, .int .u8 x.ty, .int .i64 x.dst, .int .i64 x.a, .int .i64 x.b, .int .i64 x.imm, .slice x.aa x.args.length x.ac] 41 (0, 0)
theorem box7 {w : World} {B : Nat} {x : PI} (h : w.heap[B]? = some (boxO x)) : w.cell? ⟨B, 0, none⟩ = some (.int .u8 x.op) ∧ w.cell? ⟨B, 1, none⟩ = some (.int .u8 x.ty) ∧ w.cell? ⟨B, 2, none⟩ = some (.int .i64 x.dst) ∧ w.cell? ⟨B, 3, none⟩ = some (.int .i64 x.a) ∧ w.cell? ⟨B, 4, none⟩ = some (.int .i64 x.b) ∧ w.cell? ⟨B, 5, none⟩ = some (.int .i64 x.imm) ∧ w.cell? ⟨B, 6, none⟩ = some (.slice x.aa x.args.length x.ac) :=
  ⟨(cell_of_block h 0).trans rfl, (cell_of_block h 1).trans rfl, (cell_of_block h 2).trans rfl, (cell_of_block h 3).trans rfl, (cell_of_block h 4).trans rfl, (cell_of_block h 5).trans rfl, (cell_of_block h 6).trans rfl⟩

/-- What the walk of a call stands on: contracts of what it calls, in the frame of the call. -/
structure CallK (X : Cx) (cur : Nat) (x : PI) (q : Nat) (b : Bd) (fb fo : Nat) (G : PF) (ua : Option Addr) (uc : Nat) : Prop where
  bs : ∀ y, X.Fr y → BodyAt y q b fb fo G ua uc
  put : ∀ (s : Cl) (y : World) (i : PI), CW X cur s y → s.here < s.ps.length → opn X cur s.here → cntS s.ps ≤ 1000000000 → XF X i → Calls Try.prog 49 #[.pointer (some ⟨X.C, 0, none⟩), i.v] y fun e w' => e = .returned (.tuple #[]) ∧ CW X cur (s.put (zI i)) w'
  goOn : ∀ (s : Cl) (y : World) (e : PP), CW X cur s y → s.here < s.ps.length → opn X cur s.here → cntS s.ps ≤ 1000000000 → I64 e.cond ∧ I64 e.next ∧ I64 e.els → Calls Try.prog 68 #[.pointer (some ⟨X.C, 0, none⟩), .agg #[.slice none 0 0, .bool e.e, .int .i64 e.cond, .int .i64 e.next, .int .i64 e.els]] y fun r w' => r = .returned (.tuple #[]) ∧ CW X cur (s.goOn e) w'
  copy : ∀ (s : Cl) (y : World) (k : Nat) (p : PP), CW X cur s y → s.here < s.ps.length → opn X cur s.here → cntS s.ps ≤ 900000000 → b.f.parts[k]? = some p → ∀ (pb po : Nat) (base : Int), G.pa = some ⟨pb, po, none⟩ → 0 ≤ base → base ≤ 1000000000 → Calls Try.prog 66 #[.pointer (some ⟨X.C, 0, none⟩), .pointer (some ⟨pb, po + k * 5, none⟩), .int .i64 base] y fun e w' => e = .returned (.tuple #[]) ∧ CW X cur (s.puts (copyL base p)) w'
  ans : ∀ (s : Cl) (y : World) (k : Nat) (p : PP), CW X cur s y → b.f.parts[k]? = some p → (p.e = true ∨ 0 ≤ p.cond) → ∀ (pb po : Nat) (base : Int), G.pa = some ⟨pb, po, none⟩ → 0 ≤ base → base ≤ 1000000000 → Calls Try.prog 67 #[x.v, .pointer (some ⟨pb, po + k * 5, none⟩), .int .i64 base] y fun e w' => e = .returned (ansI x p base).v ∧ Q y w'

theorem callK (X : Cx) (hx : X.ok) (cur : Nat) (x : PI) (hxf : XF X x) (q : Nat) (b : Bd) (hbd : BdOk b) {fb fo : Nat} {G : PF} {ua : Option Addr} {uc : Nat} (hb : ∀ y, X.Fr y → BodyAt y q b fb fo G ua uc) : CallK X cur x q b fb fo G ua uc := by
  have prt : ∀ (k : Nat) (p : PP), b.f.parts[k]? = some p → ∀ (y0 : World), X.Fr y0 → ∀ (pb po : Nat), G.pa = some ⟨pb, po, none⟩ → ∃ p0, G.parts[k]? = some p0 ∧ zP p0 = p ∧ ∀ y, X.Fr y → At y pb (po + k * 5) p0.cells ∧ p0.ok y := fun k p hk y0 h0 pb po hpa => by
    obtain ⟨p0, e0, e1⟩ := (hb y0 h0).part hk
    refine ⟨p0, e0, e1, fun y hy => ?_⟩
    obtain ⟨b2, o2, e2, e3, e4⟩ := (hb y hy).ok.parts k p0 e0
    rw [hpa] at e2
    injection e2 with e2
    injection e2 with e5 e6
    subst e5; subst e6
    exact ⟨e3, e4⟩
  refine ⟨hb, fun s y i h h1 h2 h3 h4 => put_any X hx cur s y h h1 h2 h3 i h4, fun s y e h h1 h2 h3 h4 => goOn_any X hx cur s y h h1 h2 h3 e h4 none 0 0, fun s y k p h h1 h2 h3 hk pb po base hpa h0 h01 => ?_, fun s y k p h hk hc pb po base hpa h0 h01 => ?_⟩
  · obtain ⟨p0, e0, e1, e2⟩ := prt k p hk y h.fr pb po hpa
    have hm := List.mem_of_getElem? hk
    have hcp := ins_le hk
    have hcn := hbd.cnt
    have hnum := (zP_num e1).2.2.2.2
    have e3 : copyL base p = copyL base p0 := by rw [← e1, copyL_z]
    rw [e3]
    exact copy_part X hx cur s y h h1 h2 p0 (by omega) pb (po + k * 5) e2 (zP_si e1 (hbd.si p hm)) base h0 h01
  · obtain ⟨p0, e0, e1, e2⟩ := prt k p hk y h.fr pb po hpa
    have e3 : ansI x p base = ansI x p0 base := by unfold ansI; rw [(zP_num e1).2.1]
    rw [e3]
    exact answer_any y x p0 pb (po + k * 5) (e2 y h.fr).1 base h0 h01 (by rw [(zP_num e1).2.1]; exact hbd.ec p (List.mem_of_getElem? hk) hc)

theorem BodyAt.pa {w : World} {q fb fo uc : Nat} {b : Bd} {G : PF} {ua : Option Addr} (h : BodyAt w q b fb fo G ua uc) (hbd : BdOk b) : ∃ pb po, G.pa = some ⟨pb, po, none⟩ := by
  have hl : 0 < G.parts.length := by rw [h.glen]; exact List.length_pos_iff.2 hbd.pne
  obtain ⟨p0, hp0⟩ := get_of_lt hl
  obtain ⟨pb, po, e, -⟩ := h.ok.parts 0 p0 hp0
  exact ⟨pb, po, e⟩

set_option maxRecDepth 100000 in
set_option maxHeartbeats 8000000 in
theorem call_any (X0 : Cx) (hx0 : X0.ok) (cur : Nat) (s : Cl) (w : World) (h : CW X0 cur s w) (hh : s.here < s.ps.length) (ho : opn X0 cur s.here) (x : PI) (hxf : XF X0 x) (q : Nat) (b : Bd) (hb : BodyS X0 q b) (hbd : BdOk b) (hal : x.args.length ≤ 20) (hs : cntS s.ps + 200 ≤ 900000000) (hr0 : 0 ≤ s.regs) (hr1 : s.regs ≤ 100000000) :
    Calls Try.prog 48 #[.pointer (some ⟨X0.C, 0, none⟩), x.v, .pointer (some ⟨q, 0, none⟩)] w fun e w' => e = .returned (.tuple #[]) ∧ CW X0 cur (callP x b X0.fault s) w' := by
  obtain ⟨W0, hW0⟩ : ∃ W0, w.alloc (.cells #[.int .u8 x.op, .int .u8 x.ty, .int .i64 x.dst, .int .i64 x.a, .int .i64 x.b, .int .i64 x.imm, .slice x.aa x.args.length x.ac] 41) = W0 := ⟨_, rfl⟩
  have q0 : Q w W0 := by rw [← hW0]; exact (Q.refl w).alloc _
  have bx : W0.heap[w.heap.size]? = some (boxO x) := by rw [← hW0]; exact heap_alloc_new w _
  obtain ⟨X, hX⟩ : ∃ X, X0.add w.heap.size (boxO x) = X := ⟨_, rfl⟩
  have hx : X.ok := by rw [← hX]; exact Cx.add_ok hx0 _ _
  have h1 : CW X cur s W0 := by rw [← hX]; exact h.add hx0 rfl q0 bx
  have BOX : Hid (∀ S y, CW X cur S y → y.heap[w.heap.size]? = some (boxO x)) := fun S y hy => by rw [← hX] at hy; exact hy.blk
  have DROP : Hid (∀ S y, CW X cur S y → CW X0 cur S y) := fun S y hy => by rw [← hX] at hy; exact hy.drop
  have eC : X0.C = X.C := by rw [← hX]; rfl
  have eF : X0.fault = X.fault := by rw [← hX]; rfl
  have ho1 : opn X cur s.here := by rw [← hX]; exact ho
  have hxf1 : XF X x := by rw [← hX]; exact hxf
  have hb1 : BodyS X q b := by rw [← hX]; exact hb
  rw [eC, eF]
  obtain ⟨gb, go, G, ua, uc, hbs⟩ := hb1
  have HK := hideIt (callK X hx cur x hxf1 q b hbd hbs)
  obtain ⟨pb, po, hpa⟩ := (hbs _ h1.fr).pa hbd
  have BEG : Hid (∀ y, CW X cur { s with regs := s.regs + b.f.regs } y → Calls Try.prog 64 #[.pointer (some ⟨X.C, 0, none⟩), .slice x.aa x.args.length x.ac, .pointer (some ⟨q, 0, none⟩), .int .i64 s.regs] y fun e w' => e = .returned (.tuple #[]) ∧ CW X cur (begC x b X.fault s) w') := fun y hy =>
    begin_any X hx cur _ y hy hh ho1 x hxf1 q b ⟨gb, go, G, ua, uc, hbs⟩ hal hbd.ul hbd.un (by show cntS s.ps + 40 ≤ _; omega) s.regs hr0 (by omega)
  obtain ⟨p, l, hpl⟩ : ∃ p l, b.f.parts = p :: l := by
    cases e : b.f.parts with
    | nil => exact absurd e hbd.pne
    | cons p l => exact ⟨p, l, rfl⟩
  have STR : Hid (∀ y, X.Fr y → Calls Try.prog 65 #[.pointer (some ⟨q, 0, none⟩)] y fun e w' => e = .returned (.bool p.e) ∧ Q y w') := fun y hy => straight_any y q b (hbs y hy) p l hpl
  have hbr := hbd.regs
  have wr : IntKind.i64.wrap (s.regs + b.f.regs) = s.regs + b.f.regs := by rw [IntKind.wrap_i64]; omega
  have REG := hideIt (fun (y : World) (hy : CW X cur s y) => hy.reg hx (r := s.regs + b.f.regs) (r' := s.regs + b.f.regs) rfl)
  have HX := hideIt hx
  have H1 := hideIt h1
  have HW := hideIt hW0
  have HBS := hideIt hbs
  have HBD := hideIt hbd
  have HO := hideIt ho1
  have HPL := hideIt hpl
  have HPA := hideIt hpa
  have HXD := hideIt (hxf1.fr hx h1.fr).1.dst
  obtain ⟨c0, c3, -, f1, g1, -, -⟩ := h1.reads
  have hbA := hbs _ h1.fr
  have q0' := hbA.h0
  obtain ⟨-, G1, -, -⟩ := hbA.at'.four
  rw [hbA.regs] at G1
  clear hX h hx h1 hbs hbd ho ho1 hxf hxf1 hb hpl hpa hbA bx q0 hW0 hx0 eC eF
  generalize hC : X.C = C at *
  rw [← HW.out] at c0 c3 f1 g1 q0' G1
  go_enter Try.func48, Try.ntmps48
  go_wp2_with (fail)
  rw [HW.out] at c0 c3 f1 g1 q0' G1
  rw [show w.alloc (.cells #[.int .u8 x.op, .int .u8 x.ty, .int .i64 x.dst, .int .i64 x.a, .int .i64 x.b, .int .i64 x.imm, .slice x.aa x.args.length x.ac] 41) = W0 from HW.out]
  go_region
  have C1 := hideIt (CW.q (REG.out W0 H1.out) HX.out (Q.refl _).drew)
  generalize hY1 : (W0.setCell ⟨X.fb, X.fo + 1, none⟩ (.int .i64 (s.regs + b.f.regs))).drew = Y1 at *
  clear hY1 c0 c3 f1 g1 q0' G1 H1 REG wr
  obtain ⟨k0, k1, k2, k3, k4, k5, k6⟩ := box7 (BOX.out _ _ C1.out)
  go_wp2_with (fail)
  go_at_call 64
  refine Calls.mono (BEG.out Y1 C1.out) ?_
  rintro e Y2 ⟨rfl, c⟩
  have C2 := hideIt c
  clear c k0 k1 k2 k3 k4 k5 k6 C1 BEG
  go_wp2_with (fail)
  go_at_call 65
  refine Calls.mono (STR.out Y2 C2.out.fr) ?_
  rintro e Y3 ⟨rfl, q3⟩
  have C3 := hideIt (C2.out.q HX.out q3)
  clear q3 C2 STR
  generalize hS : begC x b X.fault s = S at *
  have hS1 : S.ps.length = s.ps.length := by rw [← hS]; exact begC_len x b X.fault s
  have hS2 : S.here = s.here := by rw [← hS]; exact begC_here x b X.fault s
  have hS3 : cntS S.ps ≤ cntS s.ps + 40 := by have := begC_cnt x b X.fault s; rw [hS] at this; have := HBD.out.ul; omega
  have HS := hideIt hS
  clear hS
  have hbA := HBS.out _ C3.out.fr
  have q3 := hbA.h0
  have hGl := hbA.glen
  obtain ⟨-, -, -, G3⟩ := hbA.at'.four
  rw [HPA.out, hGl] at G3
  have hl0 : 0 < b.f.parts.length := by rw [HPL.out]; simp
  have hl10 := HBD.out.len
  obtain ⟨N, hN⟩ : ∃ N, b.f.parts.length = N := ⟨_, rfl⟩
  have HN := hideIt hN
  rw [hN] at hl0 hl10 G3 hGl
  have hgl0 : (0 : Int) < (N : Int) := by omega
  clear hbA hN
  cases hpe : p.e
  · obtain ⟨first, hfirst⟩ : ∃ first, S.ps.length = first := ⟨_, rfl⟩
    have hfl := len_cnt S.ps
    have hf0 : first ≤ 900000000 := by omega
    have eD : Hid (callP x b X.fault s = longC x b s.regs S) := by
      show _ = _
      unfold callP
      rw [HPL.out]
      dsimp only
      rw [hpe, if_neg (by simp), HS.out]
    have hn0 := C3.out.n0
    have GO1 : Hid (Calls Try.prog 68 #[.pointer (some ⟨C, 0, none⟩), .agg #[.slice none 0 0, .bool false, .int .i64 (-1), .int .i64 (first : Int), .int .i64 0]] Y3 fun r w' => r = .returned (.tuple #[]) ∧ CW X cur (S.goOn (jmp first)) w') := by
      have := HK.out.goOn S Y3 (jmp first) C3.out (by omega) (by rw [hS2]; exact HO.out) (by omega) ⟨by unfold I64 jmp; dsimp only; omega, by unfold I64 jmp; dsimp only; omega, z64⟩
      rw [hC] at this
      exact this
    obtain ⟨c0, -, -, -, -, -, pa3, pc3, f3⟩ := C3.out.reads
    rw [hC] at c0
    rw [hfirst] at f3
    have hfm : first ≤ 9223372036854775807 := by omega
    go_wp2_with (fail)
    go_at_call 68
    refine Calls.mono GO1.out ?_
    rintro e Y4 ⟨rfl, c⟩
    have C4 := hideIt c
    clear c q3 G3 C3 GO1 c0 f3
    obtain ⟨S1, hS1e⟩ : ∃ S1, S.goOn (jmp first) = S1 := ⟨_, rfl⟩
    have hS1l : S1.ps.length = first := by rw [← hS1e, goOn_len]; exact hfirst
    have hS1c : cntS S1.ps ≤ cntS S.ps := by rw [← hS1e]; exact goOn_cnt S _
    rw [hS1e] at C4
    have HS1E := hideIt hS1e
    clear hS1e
    obtain ⟨c0, -, -, -, -, z4, pa4, pc4, f4⟩ := C4.out.reads
    rw [hC] at c0
    rw [hS1l] at f4
    have hbA := HBS.out _ C4.out.fr
    have q3 := hbA.h0
    obtain ⟨-, -, -, G3⟩ := hbA.at'.four
    rw [HPA.out, hGl] at G3
    clear hbA
    have wN : IntKind.i64.wrap ((N : Int) + 1) = (N : Int) + 1 := by rw [IntKind.wrap_i64]; omega
    have GRW : Hid (∀ y, Dr Y4 y → ∃ g' cap' w', (Builtin.append_ #[33, 3] 33 #[.slice pa4 first pc4, .int .i64 ((N : Int) + 1)]).run Try.prog y = .ok (.slice (some ⟨g', 0, none⟩) (first + (N + 1)) cap') w' ∧ (w'.cell? ⟨X.fb, X.fo + 3, none⟩ = some (.slice pa4 first pc4) ∧ w'.cell? ⟨C, 0, none⟩ = some (.pointer (some ⟨X.fb, X.fo, none⟩)) ∧ (w'.frozen? ⟨X.fb, X.fo + 3, none⟩ = false ∧ (w'.cell? ⟨q, 0, none⟩ = some (.pointer (some ⟨gb, go, none⟩)) ∧ w'.cell? ⟨gb, go + 3, none⟩ = some (.slice (some ⟨pb, po, none⟩) N G.pc)))) ∧ CW X cur { S1 with ps := S1.ps ++ List.replicate (N + 1) zeroPP } (w'.setCell ⟨X.fb, X.fo + 3, none⟩ (.slice (some ⟨g', 0, none⟩) (first + (N + 1)) cap'))) := fun y hd => by
      have hy := hd.q
      obtain ⟨g', cap', w', r1, r2, r3, r5, r6, r4⟩ := (C4.out.q HX.out hy).grow HX.out (by omega) (N + 1) (by omega) (by omega) pa4 pc4 (by rw [hS1l]; exact cell_keep hy f4)
      rw [hS1l] at r1 r2 r4
      rw [hC] at r5
      have hbA := HBS.out _ r6
      obtain ⟨-, -, -, G5⟩ := hbA.at'.four
      rw [HPA.out, hGl] at G5
      exact ⟨g', cap', w', r1, ⟨r2, r5, r3, hbA.h0, G5⟩, r4⟩
    have REST : Hid (∀ (S' : Cl) (y : World), CW X cur S' y → y.cell? ⟨C, 0, none⟩ = some (.pointer (some ⟨X.fb, X.fo, none⟩)) ∧ (y.frozen? ⟨X.fb, X.fo + 3, none⟩ = false ∧ (y.cell? ⟨q, 0, none⟩ = some (.pointer (some ⟨gb, go, none⟩)) ∧ y.cell? ⟨gb, go + 3, none⟩ = some (.slice (some ⟨pb, po, none⟩) N G.pc)))) := fun S' y hy => by
      obtain ⟨e0, -, -, -, -, e5, -⟩ := hy.reads
      rw [hC] at e0
      have hbA := HBS.out _ hy.fr
      obtain ⟨-, -, -, G5⟩ := hbA.at'.four
      rw [HPA.out, hGl] at G5
      exact ⟨e0, e5, hbA.h0, G5⟩
    go_wp2_with (fail)
    refine wp_region_held_drew (S := fun y => y.cell? ⟨C, 0, none⟩ = some (.pointer (some ⟨X.fb, X.fo, none⟩)) ∧ (y.frozen? ⟨X.fb, X.fo + 3, none⟩ = false ∧ (y.cell? ⟨q, 0, none⟩ = some (.pointer (some ⟨gb, go, none⟩)) ∧ y.cell? ⟨gb, go + 3, none⟩ = some (.slice (some ⟨pb, po, none⟩) N G.pc)))) (by kernel_rfl) (⟨c0, z4, q3, G3⟩) (fun hHeld => ?_)
    refine wpAnyH_take (i := 0) (oi := ⟨_, _, _, _, _, _⟩) (v := ?_) rfl (by kernel_rfl) (by kernel_rfl) (by kernel_rfl) (fun _ _ _ h => h) (Or.inl ⟨by rfl, ?_⟩) (by assumption) ?_
    rotate_left 1
    · intro w hSw; (try dsimp only at hSw); go_simp; all_goals with_reducible rfl
    try simp only [Act.put, List.setIfInBounds_toArray, List.set_cons_zero, List.set_cons_succ]
    refine wpAnyH_take (i := 1) (oi := ⟨_, _, _, _, _, _⟩) (v := ?_) rfl (by kernel_rfl) (by kernel_rfl) (by kernel_rfl) (fun _ _ _ h => h) (Or.inl ⟨by rfl, ?_⟩) (by assumption) ?_
    rotate_left 1
    · intro w hSw; (try dsimp only at hSw); go_simp; all_goals with_reducible rfl
    try simp only [Act.put, List.setIfInBounds_toArray, List.set_cons_zero, List.set_cons_succ]
    refine wpAnyH_take (i := 2) (oi := ⟨_, _, _, _, _, _⟩) (v := ?_) rfl (by kernel_rfl) (by kernel_rfl) (by kernel_rfl) (fun _ _ _ h => h) (Or.inl ⟨by rfl, ?_⟩) (by assumption) ?_
    rotate_left 1
    · intro w hSw; (try dsimp only at hSw); go_simp; all_goals with_reducible rfl
    try simp only [Act.put, List.setIfInBounds_toArray, List.set_cons_zero, List.set_cons_succ]
    refine wpAnyH_take (i := 3) (oi := ⟨_, _, _, _, _, _⟩) (v := ?_) rfl (by kernel_rfl) (by kernel_rfl) (by kernel_rfl) (fun _ _ _ h => h) (Or.inl ⟨by rfl, ?_⟩) (by assumption) ?_
    rotate_left 1
    · intro w hSw; (try dsimp only at hSw); go_simp; all_goals with_reducible rfl
    try simp only [Act.put, List.setIfInBounds_toArray, List.set_cons_zero, List.set_cons_succ]
    refine wpAnyH_take (i := 4) (oi := ⟨_, _, _, _, _, _⟩) (v := ?_) rfl (by kernel_rfl) (by kernel_rfl) (by kernel_rfl) (fun _ _ _ h => h) (Or.inl ⟨by rfl, ?_⟩) (by assumption) ?_
    rotate_left 1
    · intro w hSw; (try dsimp only at hSw); go_simp; all_goals with_reducible rfl
    try simp only [Act.put, List.setIfInBounds_toArray, List.set_cons_zero, List.set_cons_succ]
    refine wpAnyH_take (i := 5) (oi := ⟨_, _, _, _, _, _⟩) (v := ?_) rfl (by kernel_rfl) (by kernel_rfl) (by kernel_rfl) (fun _ _ _ h => h) (Or.inl ⟨by rfl, ?_⟩) (by assumption) ?_
    rotate_left 1
    · intro w hSw; (try dsimp only at hSw); go_simp; all_goals with_reducible rfl
    try simp only [Act.put, List.setIfInBounds_toArray, List.set_cons_zero, List.set_cons_succ]
    refine wpAnyH_take (i := 6) (oi := ⟨_, _, _, _, _, _⟩) (v := ?_) rfl (by kernel_rfl) (by kernel_rfl) (by kernel_rfl) (fun _ _ _ h => h) (Or.inl ⟨by rfl, ?_⟩) (by assumption) ?_
    rotate_left 1
    · intro w hSw; (try dsimp only at hSw); go_simp; all_goals with_reducible rfl
    try simp only [Act.put, List.setIfInBounds_toArray, List.set_cons_zero, List.set_cons_succ]
    refine wpAnyH_take (i := 7) (oi := ⟨_, _, _, _, _, _⟩) (v := ?_) rfl (by kernel_rfl) (by kernel_rfl) (by kernel_rfl) (fun _ _ _ h => h) (Or.inl ⟨by rfl, ?_⟩) (by assumption) ?_
    rotate_left 1
    · intro w hSw; (try dsimp only at hSw); go_simp; all_goals with_reducible rfl
    try simp only [Act.put, List.setIfInBounds_toArray, List.set_cons_zero, List.set_cons_succ]
    refine wpAnyH_take (i := 8) (oi := ⟨_, _, _, _, _, _⟩) (v := ?_) rfl (by kernel_rfl) (by kernel_rfl) (by kernel_rfl) (fun _ _ _ h => h) (Or.inl ⟨by rfl, ?_⟩) (by assumption) ?_
    rotate_left 1
    · intro w hSw; (try dsimp only at hSw); go_simp; all_goals with_reducible rfl
    try simp only [Act.put, List.setIfInBounds_toArray, List.set_cons_zero, List.set_cons_succ]
    refine wpAnyH_take (i := 9) (oi := ⟨_, _, _, _, _, _⟩) (v := ?_) rfl (by kernel_rfl) (by kernel_rfl) (by kernel_rfl) (fun _ _ _ h => h) (Or.inl ⟨by rfl, ?_⟩) (by assumption) ?_
    rotate_left 1
    · intro w hSw; (try dsimp only at hSw); go_simp; all_goals with_reducible rfl
    try simp only [Act.put, List.setIfInBounds_toArray, List.set_cons_zero, List.set_cons_succ]
    refine wpAnyH_take (i := 11) (oi := ⟨_, _, _, _, _, _⟩) (v := ?_) rfl (by kernel_rfl) (by kernel_rfl) (by kernel_rfl) (fun _ _ _ h => h) (Or.inl ⟨by rfl, ?_⟩) (by assumption) ?_
    rotate_left 1
    · intro w hSw; (try dsimp only at hSw); go_simp; all_goals with_reducible rfl
    try simp only [Act.put, List.setIfInBounds_toArray, List.set_cons_zero, List.set_cons_succ]
    refine wpAnyH_take (i := 12) (oi := ⟨_, _, _, _, _, _⟩) (v := ?_) rfl (by kernel_rfl) (by kernel_rfl) (by kernel_rfl) (fun _ _ _ h => h) (Or.inl ⟨by rfl, ?_⟩) (by assumption) ?_
    rotate_left 1
    · intro w hSw; (try dsimp only at hSw); go_simp; all_goals with_reducible rfl
    try simp only [Act.put, List.setIfInBounds_toArray, List.set_cons_zero, List.set_cons_succ]
    refine wpAnyH_take (i := 13) (oi := ⟨_, _, _, _, _, _⟩) (v := ?_) rfl (by kernel_rfl) (by kernel_rfl) (by kernel_rfl) (fun _ _ _ h => h) (Or.inl ⟨by rfl, ?_⟩) (by assumption) ?_
    rotate_left 1
    · intro w hSw; (try dsimp only at hSw); go_simp; all_goals with_reducible rfl
    try simp only [Act.put, List.setIfInBounds_toArray, List.set_cons_zero, List.set_cons_succ]
    refine wpAnyH_take (i := 14) (oi := ⟨_, _, _, _, _, _⟩) (v := ?_) rfl (by kernel_rfl) (by kernel_rfl) (by kernel_rfl) (fun _ _ _ h => h) (Or.inl ⟨by rfl, ?_⟩) (by assumption) ?_
    rotate_left 1
    · intro w hSw; (try dsimp only at hSw); go_simp; all_goals with_reducible rfl
    try simp only [Act.put, List.setIfInBounds_toArray, List.set_cons_zero, List.set_cons_succ]
    refine wpAnyH_take (i := 15) (oi := ⟨_, _, _, _, _, _⟩) (v := ?_) rfl (by kernel_rfl) (by kernel_rfl) (by kernel_rfl) (fun _ _ _ h => h) (Or.inl ⟨by rfl, ?_⟩) (by assumption) ?_
    rotate_left 1
    · intro w hSw; (try dsimp only at hSw); go_simp; all_goals with_reducible rfl
    try simp only [Act.put, List.setIfInBounds_toArray, List.set_cons_zero, List.set_cons_succ]
    refine wpAnyH_take (i := 16) (oi := ⟨_, _, _, _, _, _⟩) (v := ?_) rfl (by kernel_rfl) (by kernel_rfl) (by kernel_rfl) (fun _ _ _ h => h) (Or.inl ⟨by rfl, ?_⟩) (by assumption) ?_
    rotate_left 1
    · intro w hSw; (try dsimp only at hSw); go_simp; all_goals with_reducible rfl
    try simp only [Act.put, List.setIfInBounds_toArray, List.set_cons_zero, List.set_cons_succ]
    refine wpAnyH_take (i := 17) (oi := ⟨_, _, _, _, _, _⟩) (v := ?_) rfl (by kernel_rfl) (by kernel_rfl) (by kernel_rfl) (fun _ _ _ h => h) (Or.inl ⟨by rfl, ?_⟩) (by assumption) ?_
    rotate_left 1
    · intro w hSw; (try dsimp only at hSw); go_simp; all_goals with_reducible rfl
    try simp only [Act.put, List.setIfInBounds_toArray, List.set_cons_zero, List.set_cons_succ]
    refine wpAnyH_take (i := 18) (oi := ⟨_, _, _, _, _, _⟩) (v := ?_) rfl (by kernel_rfl) (by kernel_rfl) (by kernel_rfl) (fun _ _ _ h => h) (Or.inl ⟨by rfl, ?_⟩) (by assumption) ?_
    rotate_left 1
    · intro w hSw; (try dsimp only at hSw); go_simp; all_goals with_reducible rfl
    try simp only [Act.put, List.setIfInBounds_toArray, List.set_cons_zero, List.set_cons_succ]
    refine wpAnyH_take (i := 19) (oi := ⟨_, _, _, _, _, _⟩) (v := ?_) rfl (by kernel_rfl) (by kernel_rfl) (by kernel_rfl) (fun _ _ _ h => h) (Or.inl ⟨by rfl, ?_⟩) (by assumption) ?_
    rotate_left 1
    · intro w hSw; (try dsimp only at hSw); go_simp; all_goals with_reducible rfl
    try simp only [Act.put, List.setIfInBounds_toArray, List.set_cons_zero, List.set_cons_succ]
    refine wpAnyH_ready (rs := [10]) (by kernel_rfl) (by simp) (AllReadyH.cons (o := ⟨_, _, _, _, _, _⟩) rfl (fun K hK => ?_) AllReadyH.nil)
    go_simp
    refine hK.out _ _ ?_ (fun hHeld => ?_)
    · exact ⟨c0, z4, q3, G3⟩
    clear hK K
    try simp only [Act.put, List.setIfInBounds_toArray, List.set_cons_zero, List.set_cons_succ]
    refine wpAnyH_ready (rs := [20]) (by kernel_rfl) (by simp) (AllReadyH.cons (o := ⟨_, _, _, _, _, _⟩) rfl (fun K hK => ?_) AllReadyH.nil)
    obtain ⟨g', cap', w', r1, hSx, r4⟩ := GRW.out _ ⟨_, rfl⟩; have s1 := hSx.1; refine step_append_run (by rfl) (.tmp 99) (.tmp 108) 33 3 (by rfl) (.slice pa4 first pc4) (.int .i64 ((N : Int) + 1)) (by rfl) (by rfl) _ _ r1 ?_; have C5 := hideIt r4; clear r1 r4
    refine hK.out _ _ ?_ (fun hHeld => ?_)
    · exact hSx.2
    clear hK K
    try simp only [Act.put, List.setIfInBounds_toArray, List.set_cons_zero, List.set_cons_succ]
    refine wpAnyH_take (i := 21) (oi := ⟨_, _, _, _, _, _⟩) (v := ?_) rfl (by kernel_rfl) (by kernel_rfl) (by kernel_rfl) (fun _ _ _ h => h) (Or.inl ⟨by rfl, ?_⟩) (by assumption) ?_
    rotate_left 1
    · intro w hSw; (try dsimp only at hSw); go_simp; all_goals with_reducible rfl
    try simp only [Act.put, List.setIfInBounds_toArray, List.set_cons_zero, List.set_cons_succ]
    refine wpAnyH_take (i := 22) (oi := ⟨_, _, _, _, _, _⟩) (v := ?_) rfl (by kernel_rfl) (by kernel_rfl) (by kernel_rfl) (fun _ _ _ h => h) (Or.inl ⟨by rfl, ?_⟩) (by assumption) ?_
    rotate_left 1
    · intro w hSw; (try dsimp only at hSw); go_simp; all_goals with_reducible rfl
    try simp only [Act.put, List.setIfInBounds_toArray, List.set_cons_zero, List.set_cons_succ]
    refine wpAnyH_ready (rs := [23]) (by kernel_rfl) (by simp) (AllReadyH.cons (o := ⟨_, _, _, _, _, _⟩) rfl (fun K hK => ?_) AllReadyH.nil)
    go_simp
    refine hK.out _ _ ?_ (fun hHeld => ?_)
    · exact REST.out _ _ C5.out
    clear hK K
    try simp only [Act.put, List.setIfInBounds_toArray, List.set_cons_zero, List.set_cons_succ]
    refine wpAnyH_done (by kernel_rfl) ?_ _
    have C6 := hideIt (C5.out.q HX.out (by first | exact Q.refl _ | exact (Q.refl _).drew))
    obtain ⟨S2, hS2e⟩ : ∃ S2 : Cl, { S1 with ps := S1.ps ++ List.replicate (N + 1) zeroPP } = S2 := ⟨_, rfl⟩
    have hS2l : S2.ps.length = first + (N + 1) := by rw [← hS2e]; simp [hS1l]
    have hS2c : cntS S2.ps ≤ cntS S.ps + 11 := by
      rw [← hS2e]
      show cntS (S1.ps ++ List.replicate (N + 1) zeroPP) ≤ _
      rw [cntS_app, cntS_zero]
      omega
    rw [hS2e] at C6
    have HS2E := hideIt hS2e
    clear hS2e C5 hSx s1 GRW C4
    generalize w'.setCell ⟨X.fb, X.fo + 3, none⟩ (.slice (some ⟨g', 0, none⟩) (first + (N + 1)) cap') = Y5 at C6 ⊢
    obtain ⟨T, hT⟩ : ∃ T : Nat → Cl, (fun k => partsB x s.regs first N S2 0 (b.f.parts.take k)) = T := ⟨_, rfl⟩
    have TL : Hid (∀ k, (T k).ps.length = first + (N + 1)) := fun k => by rw [← hT]; dsimp only; rw [partsB_len]; exact hS2l
    have TC : Hid (∀ k, cntS (T k).ps + 100 ≤ 900000000) := fun k => by
      rw [← hT]
      dsimp only
      have h1 := partsB_cnt (x := x) (base := s.regs) (first := first) (len := N) (b.f.parts.take k) S2 0
      have h2 : cntS (b.f.parts.take k) ≤ cntS b.f.parts := by
        have h3 := cntS_app (b.f.parts.take k) (b.f.parts.drop k)
        rw [List.take_append_drop] at h3
        omega
      have h4 := HBD.out.cnt
      omega
    have TS : Hid (∀ (k : Nat) (p : PP), b.f.parts[k]? = some p → T (k + 1) = stepB x s.regs first N (T k) k p) := fun k p hk => by
      have hkl := (List.getElem?_eq_some_iff.1 hk).1
      rw [← hT]
      dsimp only
      rw [List.take_add_one, hk]
      show partsB x s.regs first N S2 0 (b.f.parts.take k ++ [p]) = _
      rw [partsB_snoc, Nat.zero_add, List.length_take_of_le (by omega)]
    have T0 : T 0 = S2 := by rw [← hT]; rfl
    have TF : Hid (callP x b X.fault s = (T N).at (first + N)) := by
      show _ = _
      rw [eD.out, ← hT]
      unfold longC
      dsimp only
      rw [hfirst, HN.out, HS1E.out, HS2E.out, List.take_of_length_le (by rw [HN.out]; exact Nat.le_refl _)]
    clear hT
    rw [← T0] at C6
    obtain ⟨c0, z4, q3, G3⟩ := REST.out _ _ C6.out
    have GOK : Hid (∀ (S' : Cl) (y : World) (e : PP), CW X cur S' y → S'.here < S'.ps.length → first ≤ S'.here → cntS S'.ps ≤ 1000000000 → I64 e.cond ∧ I64 e.next ∧ I64 e.els → Calls Try.prog 68 #[.pointer (some ⟨C, 0, none⟩), .agg #[.slice none 0 0, .bool e.e, .int .i64 e.cond, .int .i64 e.next, .int .i64 e.els]] y fun r w' => r = .returned (.tuple #[]) ∧ CW X cur (S'.goOn e) w') := fun S' y e h1 h2 h3 h4 h5 => by
      have := HK.out.goOn S' y e h1 h2 (Or.inr (by omega)) h4 h5
      rw [hC] at this
      exact this
    go_wp2_with (fail)
    clear c0 z4 q3 G3
    go_loopw [9, 10, 120, 163, 178] (fun d9 d10 i d163 d178 wr => ∃ (k : Nat), i = .int .i64 k ∧ k ≤ N ∧ Hid (CW X cur (T k) wr)) (fun _ _ i _ _ _ => N - (intOf i).toNat)
    case atStart => exact ⟨0, rfl, Nat.zero_le _, C6⟩
    case round =>
      obtain ⟨k, rfl, hk, HC⟩ := hrel
      generalize wr = y at *
      clear C6 T0
      by_cases hlt : k < N
      · obtain ⟨p2, hp2⟩ := get_of_lt (l := b.f.parts) (k := k) (by rw [HN.out]; exact hlt)
        obtain ⟨c0, z4, q3, G3⟩ := REST.out _ _ HC.out
        obtain ⟨-, c3, cf3, -⟩ := HC.out.reads
        rw [hC] at c3 cf3
        have hkl : (k : Int) < (N : Int) := by omega
        have C7 := hideIt (HC.out.her HX.out (first + k) (z := (first : Int) + (k : Int)) (by omega))
        rw [hC] at C7
        have HP2 := hideIt hp2
        clear hp2
        have CPY : Hid (∀ Y, CW X cur ((T k).at (first + k)) Y → Calls Try.prog 66 #[.pointer (some ⟨C, 0, none⟩), .pointer (some ⟨pb, po + k * 5, none⟩), .int .i64 s.regs] Y fun e w' => e = .returned (.tuple #[]) ∧ CW X cur (((T k).at (first + k)).puts (copyL s.regs p2)) w') := fun Y hY => by
          have h1 := TL.out k
          have h2 := TC.out k
          have := HK.out.copy _ Y k p2 hY (by show first + k < (T k).ps.length; omega) (Or.inr (by show X.F0.parts.length ≤ first + k; omega)) (by show cntS (T k).ps ≤ _; omega) HP2.out pb po s.regs HPA.out hr0 (by omega)
          rw [hC] at this
          exact this
        go_wp2_with (fail)
        generalize y.setCell ⟨C, 3, none⟩ (.int .i64 ((first : Int) + (k : Int))) = Y7 at C7 ⊢
        go_at_call 66
        refine Calls.mono (CPY.out Y7 C7.out) ?_
        rintro e Y8 ⟨rfl, c⟩
        have C8 := hideIt c
        clear c c0 z4 q3 G3 c3 cf3 C7 CPY HC
        obtain ⟨S8, hS8⟩ : ∃ S8, ((T k).at (first + k)).puts (copyL s.regs p2) = S8 := ⟨_, rfl⟩
        have h8l : S8.ps.length = first + (N + 1) := by rw [← hS8, puts_len]; exact TL.out k
        have h8h : S8.here = first + k := by rw [← hS8, puts_here]; rfl
        have h8c : cntS S8.ps + 50 ≤ 900000000 := by
          rw [← hS8]
          have h1 := puts_cnt (copyL s.regs p2) ((T k).at (first + k))
          have h2 : (copyL s.regs p2).length = p2.ins.length := by simp [copyL]
          have h3 := ins_le HP2.out
          have h4 := HBD.out.cnt
          have h5 := TC.out k
          have h6 : cntS ((T k).at (first + k)).ps = cntS (T k).ps := rfl
          omega
        have TS1 := hideIt (TS.out k p2 HP2.out)
        rw [hS8] at C8
        have HS8 := hideIt hS8
        clear hS8
        have hpm := List.mem_of_getElem? HP2.out
        have hec := HBD.out.ec p2 hpm
        have hnx := HBD.out.nx p2 hpm
        have hel := HBD.out.el p2 hpm
        rw [HN.out] at hnx hel
        have hbA := HBS.out _ C8.out.fr
        obtain ⟨p0, hp0, ez⟩ := hbA.part HP2.out
        obtain ⟨pb', po', e', hat, -⟩ := hbA.ok.parts k p0 hp0
        rw [HPA.out] at e'
        injection e' with e'
        injection e' with e1 e2
        subst e1; subst e2
        obtain ⟨-, d1, d2, d3, d4⟩ := hat.five
        obtain ⟨n1, n2, n3, n4, -⟩ := zP_num ez
        have CELLS : Hid (∀ (S' : Cl) (Y : World), CW X cur S' Y → Y.cell? ⟨pb, po + k * 5 + 2, none⟩ = some (.int .i64 p2.cond) ∧ (Y.cell? ⟨pb, po + k * 5 + 3, none⟩ = some (.int .i64 p2.next) ∧ Y.cell? ⟨pb, po + k * 5 + 4, none⟩ = some (.int .i64 p2.els))) := fun S' Y hY => by
          obtain ⟨b3, o3, e3, hat3, -⟩ := (HBS.out _ hY.fr).ok.parts k p0 hp0
          rw [HPA.out] at e3
          injection e3 with e3
          injection e3 with e4 e5
          subst e4; subst e5
          obtain ⟨-, -, a2, a3, a4⟩ := hat3.five
          rw [n2] at a2
          rw [n3] at a3
          rw [n4] at a4
          exact ⟨a2, a3, a4⟩
        rw [n1] at d1
        rw [n2] at d2
        rw [n3] at d3
        rw [n4] at d4
        clear hbA hp0 hat hpm ez n1 n2 n3 n4
        cases he : p2.e
        · rw [he] at d1 hnx hel hec
          obtain ⟨hn1, hn2⟩ := hnx rfl
          by_cases hc : p2.cond < 0
          · have STEP : Hid (T (k + 1) = S8.goOn (jmp ((first : Int) + p2.next))) := by
              show _ = _
              rw [TS1.out]
              unfold stepB
              dsimp only
              rw [he, if_neg (by simp), HS8.out]
              unfold endL
              rw [if_pos hc]
            have GO := hideIt (GOK.out S8 Y8 (jmp ((first : Int) + p2.next)) C8.out (by omega) (by omega) (by omega) ⟨by unfold I64 jmp; dsimp only; omega, by unfold I64 jmp; dsimp only; omega, z64⟩)
            have hc1 : decide (p2.cond < 0) = true := by simpa using hc
            clear hnx hel hec hc
            go_wp2_with (fail)
            go_at_call 68
            refine Calls.mono GO.out ?_
            rintro e Y9 ⟨rfl, c⟩
            have C9 := hideIt c
            clear c d1 d2 d3 d4 C8 GO
            rw [← STEP.out] at C9
            go_wp2_with (fail)
            go_roundw
            case rel => exact ⟨k + 1, by go_num, by omega, C9⟩
            case measure => simp [intOf]; omega
          · obtain ⟨he1, he2⟩ := hel rfl (by omega)
            obtain ⟨hd1, hd2⟩ := hec (Or.inr (by omega))
            have STEP : Hid (T (k + 1) = S8.goOn ⟨[], false, s.regs + p2.cond, (first : Int) + p2.next, (first : Int) + p2.els, none, 0⟩) := by
              show _ = _
              rw [TS1.out]
              unfold stepB
              dsimp only
              rw [he, if_neg (by simp), HS8.out]
              unfold endL
              rw [if_neg hc]
            have GO := hideIt (fun (Y : World) (hY : CW X cur S8 Y) => GOK.out S8 Y ⟨[], false, s.regs + p2.cond, (first : Int) + p2.next, (first : Int) + p2.els, none, 0⟩ hY (by omega) (by omega) (by omega) ⟨by unfold I64; dsimp only; omega, by unfold I64; dsimp only; omega, by unfold I64; dsimp only; omega⟩)
            have hc1 : decide (p2.cond < 0) = false := by simpa using hc
            have w1 : IntKind.i64.wrap (s.regs + p2.cond) = s.regs + p2.cond := by rw [IntKind.wrap_i64]; omega
            have w2 : IntKind.i64.wrap ((first : Int) + p2.next) = (first : Int) + p2.next := by rw [IntKind.wrap_i64]; omega
            have w3 : IntKind.i64.wrap ((first : Int) + p2.els) = (first : Int) + p2.els := by rw [IntKind.wrap_i64]; omega
            clear hnx hel hec hc
            go_wp2_with (fail)
            refine wp_region_held_drew (S := fun y => y.cell? ⟨pb, po + k * 5 + 2, none⟩ = some (.int .i64 p2.cond) ∧ (y.cell? ⟨pb, po + k * 5 + 3, none⟩ = some (.int .i64 p2.next) ∧ y.cell? ⟨pb, po + k * 5 + 4, none⟩ = some (.int .i64 p2.els))) (by kernel_rfl) (⟨d2, d3, d4⟩) (fun hHeld => ?_)
            refine wpAnyH_take (i := 0) (oi := ⟨_, _, _, _, _, _⟩) (v := ?_) rfl (by kernel_rfl) (by kernel_rfl) (by kernel_rfl) (fun _ _ _ h => h) (Or.inl ⟨by rfl, ?_⟩) (by assumption) ?_
            rotate_left 1
            · intro w hSw; (try dsimp only at hSw); go_simp; all_goals with_reducible rfl
            try simp only [Act.put, List.setIfInBounds_toArray, List.set_cons_zero, List.set_cons_succ]
            refine wpAnyH_take (i := 1) (oi := ⟨_, _, _, _, _, _⟩) (v := ?_) rfl (by kernel_rfl) (by kernel_rfl) (by kernel_rfl) (fun _ _ _ h => h) (Or.inl ⟨by rfl, ?_⟩) (by assumption) ?_
            rotate_left 1
            · intro w hSw; (try dsimp only at hSw); go_simp; all_goals with_reducible rfl
            try simp only [Act.put, List.setIfInBounds_toArray, List.set_cons_zero, List.set_cons_succ]
            refine wpAnyH_take (i := 2) (oi := ⟨_, _, _, _, _, _⟩) (v := ?_) rfl (by kernel_rfl) (by kernel_rfl) (by kernel_rfl) (fun _ _ _ h => h) (Or.inl ⟨by rfl, ?_⟩) (by assumption) ?_
            rotate_left 1
            · intro w hSw; (try dsimp only at hSw); go_simp; all_goals with_reducible rfl
            try simp only [Act.put, List.setIfInBounds_toArray, List.set_cons_zero, List.set_cons_succ]
            refine wpAnyH_take (i := 3) (oi := ⟨_, _, _, _, _, _⟩) (v := ?_) rfl (by kernel_rfl) (by kernel_rfl) (by kernel_rfl) (fun _ _ _ h => h) (Or.inl ⟨by rfl, ?_⟩) (by assumption) ?_
            rotate_left 1
            · intro w hSw; (try dsimp only at hSw); go_simp; all_goals with_reducible rfl
            try simp only [Act.put, List.setIfInBounds_toArray, List.set_cons_zero, List.set_cons_succ]
            refine wpAnyH_take (i := 4) (oi := ⟨_, _, _, _, _, _⟩) (v := ?_) rfl (by kernel_rfl) (by kernel_rfl) (by kernel_rfl) (fun _ _ _ h => h) (Or.inl ⟨by rfl, ?_⟩) (by assumption) ?_
            rotate_left 1
            · intro w hSw; (try dsimp only at hSw); go_simp; all_goals with_reducible rfl
            try simp only [Act.put, List.setIfInBounds_toArray, List.set_cons_zero, List.set_cons_succ]
            refine wpAnyH_take (i := 5) (oi := ⟨_, _, _, _, _, _⟩) (v := ?_) rfl (by kernel_rfl) (by kernel_rfl) (by kernel_rfl) (fun _ _ _ h => h) (Or.inl ⟨by rfl, ?_⟩) (by assumption) ?_
            rotate_left 1
            · intro w hSw; (try dsimp only at hSw); go_simp; all_goals with_reducible rfl
            try simp only [Act.put, List.setIfInBounds_toArray, List.set_cons_zero, List.set_cons_succ]
            refine wpAnyH_take (i := 6) (oi := ⟨_, _, _, _, _, _⟩) (v := ?_) rfl (by kernel_rfl) (by kernel_rfl) (by kernel_rfl) (fun _ _ _ h => h) (Or.inl ⟨by rfl, ?_⟩) (by assumption) ?_
            rotate_left 1
            · intro w hSw; (try dsimp only at hSw); go_simp; all_goals with_reducible rfl
            try simp only [Act.put, List.setIfInBounds_toArray, List.set_cons_zero, List.set_cons_succ]
            refine wpAnyH_take (i := 7) (oi := ⟨_, _, _, _, _, _⟩) (v := ?_) rfl (by kernel_rfl) (by kernel_rfl) (by kernel_rfl) (fun _ _ _ h => h) (Or.inl ⟨by rfl, ?_⟩) (by assumption) ?_
            rotate_left 1
            · intro w hSw; (try dsimp only at hSw); go_simp; all_goals with_reducible rfl
            try simp only [Act.put, List.setIfInBounds_toArray, List.set_cons_zero, List.set_cons_succ]
            refine wpAnyH_take (i := 8) (oi := ⟨_, _, _, _, _, _⟩) (v := ?_) rfl (by kernel_rfl) (by kernel_rfl) (by kernel_rfl) (fun _ _ _ h => h) (Or.inl ⟨by rfl, ?_⟩) (by assumption) ?_
            rotate_left 1
            · intro w hSw; (try dsimp only at hSw); go_simp; all_goals with_reducible rfl
            try simp only [Act.put, List.setIfInBounds_toArray, List.set_cons_zero, List.set_cons_succ]
            refine wpAnyH_take (i := 9) (oi := ⟨_, _, _, _, _, _⟩) (v := ?_) rfl (by kernel_rfl) (by kernel_rfl) (by kernel_rfl) (fun _ _ _ h => h) (Or.inl ⟨by rfl, ?_⟩) (by assumption) ?_
            rotate_left 1
            · intro w hSw; (try dsimp only at hSw); go_simp; all_goals with_reducible rfl
            try simp only [Act.put, List.setIfInBounds_toArray, List.set_cons_zero, List.set_cons_succ]
            refine wpAnyH_take (i := 10) (oi := ⟨_, _, _, _, _, _⟩) (v := ?_) rfl (by kernel_rfl) (by kernel_rfl) (by kernel_rfl) (fun _ _ _ h => h) (Or.inl ⟨by rfl, ?_⟩) (by assumption) ?_
            rotate_left 1
            · intro w hSw; (try dsimp only at hSw); go_simp; all_goals with_reducible rfl
            try simp only [Act.put, List.setIfInBounds_toArray, List.set_cons_zero, List.set_cons_succ]
            refine wpAnyH_take (i := 11) (oi := ⟨_, _, _, _, _, _⟩) (v := ?_) rfl (by kernel_rfl) (by kernel_rfl) (by kernel_rfl) (fun _ _ _ h => h) (Or.inl ⟨by rfl, ?_⟩) (by assumption) ?_
            rotate_left 1
            · intro w hSw; (try dsimp only at hSw); go_simp; all_goals with_reducible rfl
            try simp only [Act.put, List.setIfInBounds_toArray, List.set_cons_zero, List.set_cons_succ]
            refine wpAnyH_take (i := 12) (oi := ⟨_, _, _, _, _, _⟩) (v := ?_) rfl (by kernel_rfl) (by kernel_rfl) (by kernel_rfl) (fun _ _ _ h => h) (Or.inl ⟨by rfl, ?_⟩) (by assumption) ?_
            rotate_left 1
            · intro w hSw; (try dsimp only at hSw); go_simp; all_goals with_reducible rfl
            try simp only [Act.put, List.setIfInBounds_toArray, List.set_cons_zero, List.set_cons_succ]
            refine wpAnyH_take (i := 13) (oi := ⟨_, _, _, _, _, _⟩) (v := ?_) rfl (by kernel_rfl) (by kernel_rfl) (by kernel_rfl) (fun _ _ _ h => h) (Or.inl ⟨by rfl, ?_⟩) (by assumption) ?_
            rotate_left 1
            · intro w hSw; (try dsimp only at hSw); go_simp; all_goals with_reducible rfl
            try simp only [Act.put, List.setIfInBounds_toArray, List.set_cons_zero, List.set_cons_succ]
            refine wpAnyH_take (i := 14) (oi := ⟨_, _, _, _, _, _⟩) (v := ?_) rfl (by kernel_rfl) (by kernel_rfl) (by kernel_rfl) (fun _ _ _ h => h) (Or.inl ⟨by rfl, ?_⟩) (by assumption) ?_
            rotate_left 1
            · intro w hSw; (try dsimp only at hSw); go_simp; all_goals with_reducible rfl
            try simp only [Act.put, List.setIfInBounds_toArray, List.set_cons_zero, List.set_cons_succ]
            refine wpAnyH_take (i := 15) (oi := ⟨_, _, _, _, _, _⟩) (v := ?_) rfl (by kernel_rfl) (by kernel_rfl) (by kernel_rfl) (fun _ _ _ h => h) (Or.inl ⟨by rfl, ?_⟩) (by assumption) ?_
            rotate_left 1
            · intro w hSw; (try dsimp only at hSw); go_simp; all_goals with_reducible rfl
            try simp only [Act.put, List.setIfInBounds_toArray, List.set_cons_zero, List.set_cons_succ]
            refine wpAnyH_take (i := 16) (oi := ⟨_, _, _, _, _, _⟩) (v := ?_) rfl (by kernel_rfl) (by kernel_rfl) (by kernel_rfl) (fun _ _ _ h => h) (Or.inl ⟨by rfl, ?_⟩) (by assumption) ?_
            rotate_left 1
            · intro w hSw; (try dsimp only at hSw); go_simp; all_goals with_reducible rfl
            try simp only [Act.put, List.setIfInBounds_toArray, List.set_cons_zero, List.set_cons_succ]
            refine wpAnyH_take (i := 17) (oi := ⟨_, _, _, _, _, _⟩) (v := ?_) rfl (by kernel_rfl) (by kernel_rfl) (by kernel_rfl) (fun _ _ _ h => h) (Or.inl ⟨by rfl, ?_⟩) (by assumption) ?_
            rotate_left 1
            · intro w hSw; (try dsimp only at hSw); go_simp; all_goals with_reducible rfl
            try simp only [Act.put, List.setIfInBounds_toArray, List.set_cons_zero, List.set_cons_succ]
            refine wpAnyH_take (i := 18) (oi := ⟨_, _, _, _, _, _⟩) (v := ?_) rfl (by kernel_rfl) (by kernel_rfl) (by kernel_rfl) (fun _ _ _ h => h) (Or.inl ⟨by rfl, ?_⟩) (by assumption) ?_
            rotate_left 1
            · intro w hSw; (try dsimp only at hSw); go_simp; all_goals with_reducible rfl
            try simp only [Act.put, List.setIfInBounds_toArray, List.set_cons_zero, List.set_cons_succ]
            refine wpAnyH_take (i := 19) (oi := ⟨_, _, _, _, _, _⟩) (v := ?_) rfl (by kernel_rfl) (by kernel_rfl) (by kernel_rfl) (fun _ _ _ h => h) (Or.inl ⟨by rfl, ?_⟩) (by assumption) ?_
            rotate_left 1
            · intro w hSw; (try dsimp only at hSw); go_simp; all_goals with_reducible rfl
            try simp only [Act.put, List.setIfInBounds_toArray, List.set_cons_zero, List.set_cons_succ]
            refine wpAnyH_ready (rs := [20]) (by kernel_rfl) (by simp) (AllReadyH.cons (o := ⟨_, _, _, _, _, _⟩) rfl (fun K hK => ?_) AllReadyH.nil)
            go_simp
            go_at_call 68; refine Calls.mono (GO.out _ (C8.out.q HX.out (by first | exact Q.refl _ | exact (Q.refl _).drew))) ?_; rintro e Y9 ⟨rfl, c⟩; have C9 := hideIt c; clear c; have hS9 := hideIt (CELLS.out _ _ C9.out)
            refine hK.out _ _ ?_ (fun hHeld => ?_)
            · exact hS9.out
            clear hK K
            try simp only [Act.put, List.setIfInBounds_toArray, List.set_cons_zero, List.set_cons_succ]
            refine wpAnyH_done (by kernel_rfl) ?_ _
            clear d1 d2 d3 d4 C8 GO
            rw [← STEP.out] at C9
            go_wp2_with (fail)
            go_roundw
            case rel => exact ⟨k + 1, by go_num, by omega, C9⟩
            case measure => simp [intOf]; omega
        · rw [he] at d1 hnx hel hec
          obtain ⟨hd1, hd2⟩ := hec (Or.inl rfl)
          have STEP : Hid (T (k + 1) = (S8.put (ansI x p2 s.regs)).goOn (jmp ((first + N : Nat) : Int))) := by
            show _ = _
            rw [TS1.out]
            unfold stepB
            dsimp only
            rw [he, if_pos rfl, HS8.out]
          have ANS := hideIt (HK.out.ans S8 Y8 k p2 C8.out HP2.out (Or.inl he) pb po s.regs HPA.out hr0 (by omega))
          have PUTA : Hid (∀ Y, CW X cur S8 Y → Calls Try.prog 49 #[.pointer (some ⟨C, 0, none⟩), (ansI x p2 s.regs).v] Y fun e w' => e = .returned (.tuple #[]) ∧ CW X cur (S8.put (ansI x p2 s.regs)) w') := fun Y hY => by
            have := HK.out.put S8 Y (ansI x p2 s.regs) hY (by omega) (Or.inr (by omega)) (by omega) (xf_mv X HXD.out (by unfold I64; omega))
            rw [hC] at this
            exact this
          have GO : Hid (∀ Y, CW X cur (S8.put (ansI x p2 s.regs)) Y → Calls Try.prog 68 #[.pointer (some ⟨C, 0, none⟩), .agg #[.slice none 0 0, .bool false, .int .i64 (-1), .int .i64 ((first : Int) + (N : Int)), .int .i64 0]] Y fun r w' => r = .returned (.tuple #[]) ∧ CW X cur ((S8.put (ansI x p2 s.regs)).goOn (jmp ((first + N : Nat) : Int))) w') := fun Y hY => by
            have h9 := put_cnt S8 (ansI x p2 s.regs)
            have := GOK.out _ Y (jmp ((first + N : Nat) : Int)) hY (by rw [put_here, put_len]; omega) (by rw [put_here]; omega) (by omega) ⟨by unfold I64 jmp; dsimp only; omega, by unfold I64 jmp; dsimp only; omega, z64⟩
            unfold jmp at this
            dsimp only at this
            rw [show ((first + N : Nat) : Int) = (first : Int) + (N : Int) by omega] at this
            unfold jmp
            rw [show ((first + N : Nat) : Int) = (first : Int) + (N : Int) by omega]
            exact this
          obtain ⟨k0, k1, k2, k3, k4, k5, k6⟩ := box7 (BOX.out _ _ C8.out)
          clear hnx hel hec
          go_wp2_with (fail)
          go_at_call 67
          refine Calls.mono ANS.out ?_
          rintro e Y9 ⟨rfl, q9⟩
          have C9 := hideIt (C8.out.q HX.out q9)
          clear q9 d1 d2 d3 d4 C8 ANS k0 k1 k2 k3 k4 k5 k6
          go_wp2_with (fail)
          go_at_call 49
          refine Calls.mono (PUTA.out _ C9.out) ?_
          rintro e Y10 ⟨rfl, c⟩
          have C10 := hideIt c
          clear c C9 PUTA
          go_wp2_with (fail)
          go_at_call 68
          refine Calls.mono (GO.out _ C10.out) ?_
          rintro e Y11 ⟨rfl, c⟩
          have C11 := hideIt c
          clear c C10 GO
          rw [← STEP.out] at C11
          go_wp2_with (fail)
          go_roundw
          case rel => exact ⟨k + 1, by go_num, by omega, C11⟩
          case measure => simp [intOf]; omega
      · have ek : k = N := by omega
        subst ek
        have hlt2 : ¬ (k : Int) < (k : Int) := by omega
        obtain ⟨c0, c3, cf3, -⟩ := HC.out.reads
        rw [hC] at c0 c3 cf3
        have C7 := hideIt (HC.out.her HX.out (first + k) (z := (first : Int) + (k : Int)) (by omega))
        rw [hC] at C7
        go_wp2_with (fail)
        go_end0
        refine ⟨rfl, ?_⟩
        rw [TF.out]
        exact DROP.out _ _ C7.out
  · have CPY : Hid (Calls Try.prog 66 #[.pointer (some ⟨C, 0, none⟩), .pointer (some ⟨pb, po, none⟩), .int .i64 s.regs] Y3 fun e w' => e = .returned (.tuple #[]) ∧ CW X cur (S.puts (copyL s.regs p)) w') := by
      have := HK.out.copy S Y3 0 p C3.out (by omega) (by rw [hS2]; exact HO.out) (by omega) (by rw [HPL.out]; rfl) pb po s.regs HPA.out hr0 (by omega)
      rw [hC] at this
      exact this
    have PUTA : Hid (∀ y, CW X cur (S.puts (copyL s.regs p)) y → Calls Try.prog 49 #[.pointer (some ⟨C, 0, none⟩), (ansI x p s.regs).v] y fun e w' => e = .returned (.tuple #[]) ∧ CW X cur ((S.puts (copyL s.regs p)).put (ansI x p s.regs)) w') := fun y hy => by
      have hcl : (copyL s.regs p).length + 1 ≤ 10 := by
        have h1 : (copyL s.regs p).length = p.ins.length := by simp [copyL]
        have h2 := ins_le (l := b.f.parts) (k := 0) (p := p) (by rw [HPL.out]; rfl)
        have h3 := HBD.out.cnt
        omega
      have hcn := puts_cnt (copyL s.regs p) S
      have hec := HBD.out.ec p (by rw [HPL.out]; exact List.mem_cons_self ..) (Or.inl hpe)
      have := HK.out.put (S.puts (copyL s.regs p)) y (ansI x p s.regs) hy (by rw [puts_here, puts_len]; omega) (by rw [puts_here, hS2]; exact HO.out) (by omega) (xf_mv X HXD.out (by unfold I64; omega))
      rw [hC] at this
      exact this
    have ANS : Hid (∀ y S', CW X cur S' y → Calls Try.prog 67 #[x.v, .pointer (some ⟨pb, po, none⟩), .int .i64 s.regs] y fun e w' => e = .returned (ansI x p s.regs).v ∧ Q y w') := fun y S' hy => HK.out.ans S' y 0 p hy (by rw [HPL.out]; rfl) (Or.inl hpe) pb po s.regs HPA.out hr0 (by omega)
    have eD : Hid (callP x b X.fault s = (S.puts (copyL s.regs p)).put (ansI x p s.regs)) := by
      show _ = _
      unfold callP
      rw [HPL.out]
      dsimp only
      rw [hpe, if_pos rfl, HS.out]
    go_wp2_with (fail)
    go_at_call 66
    refine Calls.mono CPY.out ?_
    rintro e Y4 ⟨rfl, c⟩
    have C4 := hideIt c
    clear c q3 G3 C3 CPY
    have hbA := HBS.out _ C4.out.fr
    have q3 := hbA.h0
    obtain ⟨-, -, -, G3⟩ := hbA.at'.four
    rw [HPA.out, hGl] at G3
    obtain ⟨k0, k1, k2, k3, k4, k5, k6⟩ := box7 (BOX.out _ _ C4.out)
    clear hbA
    go_wp2_with (fail)
    go_region_with (first | (go_at_call 67; refine Calls.mono (ANS.out _ _ (C4.out.q HX.out (by first | exact Q.refl _ | exact (Q.refl _).drew | exact (Q.refl _).drewN _))) ?_; rintro e Y5 ⟨rfl, q5⟩; have C5 := hideIt (C4.out.q HX.out (Q.trans (by first | exact Q.refl _ | exact (Q.refl _).drew | exact (Q.refl _).drewN _) q5)); clear q5) | (go_at_call 49; refine Calls.mono (PUTA.out _ C5.out) ?_; rintro e Y6 ⟨rfl, c6⟩; have C6 := hideIt c6; clear c6))
    all_goals go_wp2_with (fail)
    all_goals refine bodyPost_ret (v := .tuple #[]) (results_none rfl _ _ _) rfl ⟨rfl, ?_⟩
    all_goals (rw [eD.out]; exact DROP.out _ _ C6.out)

end Go.Proofs.Ytnaflfpkkbfnfaa.In
