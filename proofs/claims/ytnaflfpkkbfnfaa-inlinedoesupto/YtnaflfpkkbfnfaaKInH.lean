/-
  What a call's end does, whether a body is straight, which body an instruction calls (answer, straight, body of inline): contracts over the program; the conditions: what is handed in lies in memory.
  A body's part is copied, a call is begun (copyPart, begin of inline): contracts over the program; the conditions: the function and the body lie in memory, and the numbers are small.
  A call is begun (begin of inline): a contract over the program; the conditions: the function and the body lie in memory, and the numbers are small.
-/
import Derived.Test.YtnaflfpkkbfnfaaKInD
import Derived.Test.YtnaflfpkkbfnfaaKInE
namespace Go.Proofs.Ytnaflfpkkbfnfaa.In
open Go.RowKit
set_option linter.unusedVariables false

set_option maxRecDepth 100000 in
set_option maxHeartbeats 4000000 in
theorem answer_any (w : World) (i : PI) (p : PP) (pb po : Nat) (hp : At w pb po p.cells) (base : Int) (h0 : 0 ≤ base) (h1 : base ≤ 1000000000) (hc : 0 ≤ p.cond ∧ p.cond < 20) : Calls Try.prog 67 #[i.v, .pointer (some ⟨pb, po, none⟩), .int .i64 base] w fun e w' => e = .returned (ansI i p base).v ∧ Q w w' := by
  have wd : IntKind.i64.wrap (base + p.cond) = base + p.cond := by rw [IntKind.wrap_i64]; omega
  obtain ⟨X0, hX0⟩ : ∃ X0, (w.alloc (.cells #[.int .u8 i.op, .int .u8 i.ty, .int .i64 i.dst, .int .i64 i.a, .int .i64 i.b, .int .i64 i.imm, .slice i.aa i.args.length i.ac] 41)).alloc (.cells #[.int .u8 0, .int .u8 0, .int .i64 0, .int .i64 0, .int .i64 0, .int .i64 0, .slice none 0 0] 41) = X0 := ⟨_, rfl⟩
  have q0 : Q w X0 := by rw [← hX0]; exact ((Q.refl w).alloc _).alloc _
  have b0 : X0.heap[w.heap.size]? = some (.cells #[.int .u8 i.op, .int .u8 i.ty, .int .i64 i.dst, .int .i64 i.a, .int .i64 i.b, .int .i64 i.imm, .slice i.aa i.args.length i.ac] 41 (0, 0)) := by rw [← hX0]; exact (heap_new2' _ _ _).1
  have b1 : X0.heap[w.heap.size + 1]? = some (.cells #[.int .u8 0, .int .u8 0, .int .i64 0, .int .i64 0, .int .i64 0, .int .i64 0, .slice none 0 0] 41 (0, 0)) := by rw [← hX0]; exact heap_new2 _ _ _
  have k2 : X0.cell? ⟨w.heap.size, 2, none⟩ = some (.int .i64 i.dst) := (cell_of_block b0 2).trans rfl
  have r0 : X0.cell? ⟨w.heap.size + 1, 0, none⟩ = some (.int .u8 0) := (cell_of_block b1 0).trans rfl
  have r1 : X0.cell? ⟨w.heap.size + 1, 1, none⟩ = some (.int .u8 0) := (cell_of_block b1 1).trans rfl
  have r2 : X0.cell? ⟨w.heap.size + 1, 2, none⟩ = some (.int .i64 0) := (cell_of_block b1 2).trans rfl
  have r3 : X0.cell? ⟨w.heap.size + 1, 3, none⟩ = some (.int .i64 0) := (cell_of_block b1 3).trans rfl
  have r4 : X0.cell? ⟨w.heap.size + 1, 4, none⟩ = some (.int .i64 0) := (cell_of_block b1 4).trans rfl
  have r5 : X0.cell? ⟨w.heap.size + 1, 5, none⟩ = some (.int .i64 0) := (cell_of_block b1 5).trans rfl
  have r6 : X0.cell? ⟨w.heap.size + 1, 6, none⟩ = some (.slice none 0 0) := (cell_of_block b1 6).trans rfl
  have g0 := free_of_block b1 0
  have g1 := free_of_block b1 1
  have g2 := free_of_block b1 2
  have g3 := free_of_block b1 3
  have g4 := free_of_block b1 4
  have g5 := free_of_block b1 5
  have g6 := free_of_block b1 6
  obtain ⟨p0, p1, p2, p3, p4⟩ := (hp.keep q0).five
  have HX := hideIt hX0
  have HQ := hideIt q0
  clear hX0 q0 b0 b1 hp
  go_enter Try.func67, Try.ntmps67
  go_wp2_with (fail)
  rw [show (w.alloc (.cells #[.int .u8 i.op, .int .u8 i.ty, .int .i64 i.dst, .int .i64 i.a, .int .i64 i.b, .int .i64 i.imm, .slice i.aa i.args.length i.ac] 41)).alloc (.cells #[.int .u8 0, .int .u8 0, .int .i64 0, .int .i64 0, .int .i64 0, .int .i64 0, .slice none 0 0] 41) = X0 from HX.out]
  go_region
  go_wp2_with (fail)
  refine bodyPost_ret (v := .agg #[.int .u8 21, .int .u8 0, .int .i64 i.dst, .int .i64 (base + p.cond), .int .i64 0, .int .i64 0, .slice none 0 0]) (by simp [results, Try.results67, go_sem, r0, r1, r2, r3, r4, r5, r6]) rfl ⟨rfl, ?_⟩
  refine Q.drew ?_
  iterate 7 refine Q.set ?_ (by show w.heap.size ≤ w.heap.size + 1; omega) _
  exact HQ.out

/-- A body in memory: its function and its list. -/
structure BodyAt (w : World) (q : Nat) (b : Bd) (fb fo : Nat) (G : PF) (ua : Option Addr) (uc : Nat) : Prop where
  h0 : w.cell? ⟨q, 0, none⟩ = some (.pointer (some ⟨fb, fo, none⟩))
  h1 : w.cell? ⟨q, 1, none⟩ = some (.slice ua b.un.length uc)
  us : Ints w ua b.un
  at' : At w fb fo G.cells
  ok : G.ok w
  z : G.parts.map zP = b.f.parts
  regs : G.regs = b.f.regs
def BodyS (X : Cx) (q : Nat) (b : Bd) : Prop := ∃ fb fo G ua uc, ∀ y, X.Fr y → BodyAt y q b fb fo G ua uc

set_option maxRecDepth 100000 in
set_option maxHeartbeats 4000000 in
theorem straight_any (w : World) (q : Nat) (b : Bd) {fb fo : Nat} {G : PF} {ua : Option Addr} {uc : Nat} (hb : BodyAt w q b fb fo G ua uc) (p : PP) (l : List PP) (hp : b.f.parts = p :: l) : Calls Try.prog 65 #[.pointer (some ⟨q, 0, none⟩)] w fun e w' => e = .returned (.bool p.e) ∧ Q w w' := by
  obtain ⟨h0, h1, -, hG, hGo, hz, -⟩ := hb
  obtain ⟨f0, f1, f2, f3⟩ := hG.four
  have hlen0 : (G.parts.map zP).length = (p :: l).length := by rw [hz, hp]
  have hlen1 : 0 < G.parts.length := by simp at hlen0; omega
  obtain ⟨p0, hp0⟩ := get_of_lt hlen1
  have ez : zP p0 = p := by
    have : (G.parts.map zP)[0]? = (p :: l)[0]? := by rw [hz, hp]
    simp [hp0] at this
    exact this
  have ee : p0.e = p.e := by rw [← ez]; rfl
  obtain ⟨pb, po, ea, hat, -⟩ := hGo.parts 0 p0 hp0
  obtain ⟨c0, c1, c2, c3, c4⟩ := hat.five
  have hl := hGo.psok.len
  have hl0 : 0 < G.parts.length := (List.getElem?_eq_some_iff.1 hp0).1
  rw [ea] at f3
  rw [ee] at c1
  have hl1 : (0 : Int) < (G.parts.length : Int) := by omega
  simp only [Nat.zero_mul, Nat.add_zero] at c1
  clear hG hGo hz hp hp0 ez ee ea hat
  go_enter Try.func65, Try.ntmps65
  go_wp2_with (fail)
  go_ret
  exact ⟨rfl, Q.refl _⟩

/-- The bodies, by the functions' numbers. -/
def BodsIn (X : Cx) (K : Nat) (bs : List (Option Bd)) : Prop := ∃ (g o c : Nat), X.bod = .slice (some ⟨g, o, none⟩) bs.length c ∧ bs.length ≤ 100000 ∧ K ≤ bs.length ∧ ∀ m b, m < K → bs[m]? = some b → (b = none ∧ ∀ y, X.Fr y → y.cell? ⟨g, o + m, none⟩ = some (.pointer none)) ∨ ∃ q bd, b = some bd ∧ (∀ y, X.Fr y → y.cell? ⟨g, o + m, none⟩ = some (.pointer (some ⟨q, 0, none⟩))) ∧ BodyS X q bd
set_option maxRecDepth 100000 in
set_option maxHeartbeats 4000000 in
theorem body_any (X : Cx) (hx : X.ok) (cur : Nat) (s : Cl) (w : World) (h : CW X cur s w) (K : Nat) (bs : List (Option Bd)) (hb : BodsIn X K bs) (i : PI) (hi : i.op = 32 → 0 ≤ i.imm ∧ i.imm < K) :
    Calls Try.prog 47 #[.pointer (some ⟨X.C, 0, none⟩), i.v] w fun e w' => Q w w' ∧ ((bodyP bs i = none ∧ e = .returned (.pointer none)) ∨ ∃ q bd, bodyP bs i = some bd ∧ e = .returned (.pointer (some ⟨q, 0, none⟩)) ∧ BodyS X q bd) := by
  obtain ⟨L, pa, pc, hm⟩ := h
  obtain ⟨g, o, c, eb, hbl, hKb, hbs⟩ := hb
  obtain ⟨X0, hX0⟩ : ∃ X0, w.alloc (.cells #[.int .u8 i.op, .int .u8 i.ty, .int .i64 i.dst, .int .i64 i.a, .int .i64 i.b, .int .i64 i.imm, .slice i.aa i.args.length i.ac] 41) = X0 := ⟨_, rfl⟩
  have q0 : Q w X0 := by rw [← hX0]; exact (Q.refl w).alloc _
  have bx : X0.heap[w.heap.size]? = some (.cells #[.int .u8 i.op, .int .u8 i.ty, .int .i64 i.dst, .int .i64 i.a, .int .i64 i.b, .int .i64 i.imm, .slice i.aa i.args.length i.ac] 41 (0, 0)) := by rw [← hX0]; exact heap_alloc_new w _
  obtain ⟨-, c1, -, -, -⟩ := (hm.q hx q0).c3
  rw [eb] at c1
  have k0 : X0.cell? ⟨w.heap.size, 0, none⟩ = some (.int .u8 i.op) := (cell_of_block bx 0).trans rfl
  have k5 : X0.cell? ⟨w.heap.size, 5, none⟩ = some (.int .i64 i.imm) := (cell_of_block bx 5).trans rfl
  have HX := hideIt hX0
  have HQ := hideIt q0
  have HFr := hideIt hm.fk
  by_cases h32 : i.op = 32
  · obtain ⟨i1, i2⟩ := hi h32
    obtain ⟨op, ty, dst, a, b', imm, args, aa, ac⟩ := i
    dsimp only at *
    subst h32
    obtain ⟨m, hm'⟩ : ∃ m : Nat, imm = (m : Int) := ⟨imm.toNat, by omega⟩
    subst hm'
    obtain ⟨b, hb⟩ := get_of_lt (l := bs) (k := m) (by omega)
    have hml : (m : Int) < (bs.length : Int) := by omega
    have ebp : bodyP bs ⟨32, ty, dst, a, b', (m : Int), args, aa, ac⟩ = b := by
      unfold bodyP
      rw [if_pos rfl]
      dsimp only
      rw [Int.toNat_natCast, hb]
    have hcell := hbs m b (by omega) hb
    have HE := hideIt ebp
    have HC := hideIt hcell
    clear ebp hcell hb hbs hi hm eb bx q0 hX0
    have key : ∀ u, w.cell? ⟨g, o + m, none⟩ = some u → Calls Try.prog 47 #[.pointer (some ⟨X.C, 0, none⟩), .agg #[.int .u8 32, .int .u8 ty, .int .i64 dst, .int .i64 a, .int .i64 b', .int .i64 (m : Int), .slice aa args.length ac]] w fun e w' => Q w w' ∧ e = .returned u := fun u hu => by
      have hu' := cell_keep HQ.out hu
      clear hu
      generalize hC : X.C = C at *
      go_enter Try.func47, Try.ntmps47
      go_wp2_with (fail)
      rw [show w.alloc (.cells #[.int .u8 32, .int .u8 ty, .int .i64 dst, .int .i64 a, .int .i64 b', .int .i64 (m : Int), .slice aa args.length ac] 41) = X0 from HX.out]
      go_quiet (fail)
      go_wp2_with (fail)
      go_ret
      exact ⟨HQ.out.trans ((Q.refl _).drewN _), rfl⟩
    rcases HC.out with ⟨e1, e2⟩ | ⟨q, bd, e1, e2, e3⟩
    · refine (key _ (e2 w HFr.out)).mono fun e w' ⟨h1, h2⟩ => ⟨h1, Or.inl ⟨HE.out.trans e1, h2⟩⟩
    · refine (key _ (e2 w HFr.out)).mono fun e w' ⟨h1, h2⟩ => ⟨h1, Or.inr ⟨q, bd, HE.out.trans e1, h2, e3⟩⟩
  · have e0 : bodyP bs i = none := by unfold bodyP; rw [if_neg h32]
    have HE := hideIt e0
    clear e0 hbs hi hm eb bx q0 hX0 c1
    generalize hC : X.C = C at *
    go_enter Try.func47, Try.ntmps47
    go_wp2_with (fail)
    rw [show w.alloc (.cells #[.int .u8 i.op, .int .u8 i.ty, .int .i64 i.dst, .int .i64 i.a, .int .i64 i.b, .int .i64 i.imm, .slice i.aa i.args.length i.ac] 41) = X0 from HX.out]
    go_wp2_with (fail)
    go_ret
    exact ⟨HQ.out, Or.inl ⟨HE.out, rfl⟩⟩

end Go.Proofs.Ytnaflfpkkbfnfaa.In

namespace Go.Proofs.Ytnaflfpkkbfnfaa.In
open Go.RowKit
set_option linter.unusedVariables false

theorem xf_inReg (X : Cx) {x : PI} {w : World} (h : x.ok w) (si : SI x) {base : Int} (h0 : 0 ≤ base) (h1 : base ≤ 1000000000) : XF X (inReg base x) := by
  refine xf_plain X rfl rfl rfl h.op h.ty ?_ ?_ ?_ h.imm
  · show I64 (if wrP x.op then base + x.dst else 0)
    split
    · rename_i e; have := si.dst e; unfold I64; omega
    · exact z64
  · show I64 (if 0 < rdP x.op then base + x.a else 0)
    split
    · rename_i e; have := si.a e; unfold I64; omega
    · exact z64
  · show I64 (if 1 < rdP x.op then base + x.b else 0)
    split
    · rename_i e; have := si.b e; unfold I64; omega
    · exact z64
theorem zI_inReg (base : Int) (x : PI) : zI (inReg base x) = inReg base x := rfl
theorem copyL_z (base : Int) (p : PP) : copyL base (zP p) = copyL base p := by
  unfold copyL zP
  dsimp only
  rw [List.map_map]
  rfl
theorem puts_snoc (s : Cl) (l : List PI) (x : PI) : s.puts (l ++ [x]) = (s.puts l).put x := by rw [puts_app]; rfl
theorem take_map_snoc {α β : Type} (f : α → β) {l : List α} {k : Nat} {x : α} (h : l[k]? = some x) : (l.map f).take (k + 1) = (l.map f).take k ++ [f x] := by
  rw [List.take_add_one]
  simp [h]

set_option maxRecDepth 100000 in
set_option maxHeartbeats 4000000 in
theorem copy_part (X : Cx) (hx : X.ok) (cur : Nat) (s : Cl) (w : World) (h : CW X cur s w) (hh : s.here < s.ps.length) (ho : opn X cur s.here) (p : PP) (hs : cntS s.ps + p.ins.length ≤ 1000000000) (pb po : Nat) (hp : ∀ y, X.Fr y → At y pb po p.cells ∧ p.ok y) (hsi : ∀ x ∈ p.ins, SI x) (base : Int) (h0 : 0 ≤ base) (h1 : base ≤ 1000000000) :
    Calls Try.prog 66 #[.pointer (some ⟨X.C, 0, none⟩), .pointer (some ⟨pb, po, none⟩), .int .i64 base] w fun e w' => e = .returned (.tuple #[]) ∧ CW X cur (s.puts (copyL base p)) w' := by
  have hfr : X.Fr w := by obtain ⟨_, _, _, hm⟩ := h; exact hm.fk
  obtain ⟨c0, -, -, -, -⟩ := (hp w hfr).1.five
  have hl := (hp w hfr).2.sok.len
  have HI := hideIt (fun y (hy : X.Fr y) => (hp y hy).2.ins)
  have PUT : Hid (∀ (k : Nat) (x : PI) (y : World), p.ins[k]? = some x → x.ok w → CW X cur (s.puts ((copyL base p).take k)) y → Calls Try.prog 49 #[.pointer (some ⟨X.C, 0, none⟩), (inReg base x).v] y fun e w' => e = .returned (.tuple #[]) ∧ CW X cur (s.puts ((copyL base p).take (k + 1))) w') := fun k x y hk hxo hy => by
    have hkl := (List.getElem?_eq_some_iff.1 hk).1
    have hcl : (copyL base p).length = p.ins.length := by simp [copyL]
    have hcn := puts_cnt ((copyL base p).take k) s
    rw [List.length_take, hcl] at hcn
    have e1 : s.puts ((copyL base p).take (k + 1)) = (s.puts ((copyL base p).take k)).put (zI (inReg base x)) := by
      unfold copyL
      rw [take_map_snoc (inReg base) hk, puts_snoc, zI_inReg]
    rw [e1]
    exact put_any X hx cur _ y hy (by rw [puts_here, puts_len]; exact hh) (by rw [puts_here]; exact ho) (by omega) _ (xf_inReg X hxo (hsi x (List.mem_of_getElem? hk)) h0 h1)
  have REG : Hid (∀ (x : PI) (y : World), x ∈ p.ins → x.ok y → Calls Try.prog 85 #[x.v, .int .i64 base] y fun e w' => e = .returned (inReg base x).v ∧ Q y w') := fun x y hm hy => inReg_any y x hy (hsi x hm) base h0 h1
  have CW0 : Hid (CW X cur (s.puts ((copyL base p).take 0)) w) := h
  have HX := hideIt hx
  have HP := hideIt (hp w hfr).2.ins
  clear h hp hsi hs hh ho hfr
  generalize hC : X.C = C at *
  go_enter Try.func66, Try.ntmps66
  go_wp2_with (fail)
  go_loopw [7, 13] (fun d i wr => ∃ (k : Nat), i = .int .i64 k ∧ k ≤ p.ins.length ∧ Hid (CW X cur (s.puts ((copyL base p).take k)) wr)) (fun _ i _ => p.ins.length - (intOf i).toNat)
  case atStart => exact ⟨0, rfl, Nat.zero_le _, CW0⟩
  case round =>
    obtain ⟨k, rfl, hk, HC⟩ := hrel
    generalize wr = y at *
    clear CW0 c0
    by_cases hlt : k < p.ins.length
    · obtain ⟨x, hxk⟩ := get_of_lt hlt
      have hyf : X.Fr y := by obtain ⟨_, _, _, hm⟩ := HC.out; exact hm.fk
      obtain ⟨ib, io, ea, hat, hxo⟩ := HI.out y hyf k x hxk
      obtain ⟨_, _, -, -, hxw⟩ := HP.out k x hxk
      obtain ⟨k0, k1, k2, k3, k4, k5, k6⟩ := hat.seven
      have hkl : (k : Int) < (p.ins.length : Int) := by omega
      have R1 := hideIt (fun (z : World) (hz : Q y z) => REG.out x z (List.mem_of_getElem? hxk) (hxo.keep hz))
      have P1 := hideIt (fun (z : World) (hz : Q y z) => PUT.out k x z hxk hxw (HC.out.q HX.out hz))
      clear hat hxo hxw hyf hxk
      rw [show (Value.slice p.ia p.ins.length p.ic) = .slice (some ⟨ib, io, none⟩) p.ins.length p.ic by rw [ea]]
      clear ea
      go_wp2_with (fail)
      have QA : Hid (Q y (y.alloc (.cells #[.int .u8 x.op, .int .u8 x.ty, .int .i64 x.dst, .int .i64 x.a, .int .i64 x.b, .int .i64 x.imm, .slice x.aa x.args.length x.ac] 41))) := (Q.refl y).alloc _
      go_at_call 85
      refine Calls.mono (R1.out _ QA.out) ?_
      rintro e z ⟨rfl, q⟩
      have HQ := hideIt (QA.out.trans q)
      clear q
      go_wp2_with (fail)
      go_at_call 49
      refine Calls.mono (P1.out _ HQ.out) ?_
      rintro e z2 ⟨rfl, c2⟩
      have HC2 := hideIt c2
      clear c2 k0 k1 k2 k3 k4 k5 k6
      go_wp2_with (fail)
      go_roundw
      case rel => exact ⟨k + 1, by go_num, by omega, HC2⟩
      case measure => simp [intOf]; omega
    · have ek : k = p.ins.length := by omega
      subst ek
      have hlt2 : ¬ (p.ins.length : Int) < (p.ins.length : Int) := by omega
      go_wp2_with (fail)
      go_end0
      refine ⟨rfl, ?_⟩
      have := HC.out
      rwa [List.take_of_length_le (by simp [copyL])] at this

end Go.Proofs.Ytnaflfpkkbfnfaa.In

namespace Go.Proofs.Ytnaflfpkkbfnfaa.In
open Go.RowKit
set_option linter.unusedVariables false

theorem movesL_take (base : Int) : ∀ (l : List Int) (n k : Nat) (a : Int), l[k]? = some a → (movesL base n l).take (k + 1) = (movesL base n l).take k ++ [mvI (base + ((n + k : Nat) : Int)) a]
  | [], n, k, a, h => by simp at h
  | b :: l, n, 0, a, h => by simp at h; subst h; simp [movesL]
  | b :: l, n, k + 1, a, h => by
    have := movesL_take base l (n + 1) k a (by simpa using h)
    simp only [movesL, List.take_succ_cons, List.cons_append]
    rw [this, show n + 1 + k = n + (k + 1) by omega]
theorem xf_mv (X : Cx) {d a : Int} (hd : I64 d) (ha : I64 a) : XF X (mvI d a) := xf_plain X rfl rfl rfl ⟨by show (0 : Int) ≤ 21; omega, by show (21 : Int) ≤ 255; omega⟩ ⟨by show (0 : Int) ≤ 0; omega, by show (0 : Int) ≤ 255; omega⟩ hd ha z64 z64
theorem xf_k0 (X : Cx) {d : Int} (hd : I64 d) : XF X (k0I d) := xf_plain X rfl rfl rfl ⟨by show (0 : Int) ≤ 20; omega, by show (20 : Int) ≤ 255; omega⟩ ⟨by show (0 : Int) ≤ 0; omega, by show (0 : Int) ≤ 255; omega⟩ hd z64 z64 z64
abbrev argA (X : Cx) (x : PI) : List Int := if X.fault then x.args.reverse else x.args
theorem argA_len (X : Cx) (x : PI) : (argA X x).length = x.args.length := by unfold argA; split <;> simp

set_option maxRecDepth 100000 in
set_option maxHeartbeats 4000000 in
theorem begin_any (X : Cx) (hx : X.ok) (cur : Nat) (s : Cl) (w : World) (h : CW X cur s w) (hh : s.here < s.ps.length) (ho : opn X cur s.here) (x : PI) (hxf : XF X x) (q : Nat) (b : Bd) (hb : BodyS X q b) (hal : x.args.length ≤ 20) (hul : b.un.length ≤ 20) (hun : ∀ r ∈ b.un, 0 ≤ r ∧ r < 20) (hs : cntS s.ps + 40 ≤ 1000000000) (base : Int) (h0 : 0 ≤ base) (h1 : base ≤ 1000000000) :
    Calls Try.prog 64 #[.pointer (some ⟨X.C, 0, none⟩), .slice x.aa x.args.length x.ac, .pointer (some ⟨q, 0, none⟩), .int .i64 base] w fun e w' => e = .returned (.tuple #[]) ∧ CW X cur (s.puts (beginL X.fault x.args b.un base)) w' := by
  obtain ⟨fb, fo, G, ua, uc, hbs⟩ := hb
  have hmv : (movesL base 0 (argA X x)).length = x.args.length := by rw [movesL_len, argA_len]
  have PUT : Hid (∀ (k : Nat) (a : Int) (y : World), (argA X x)[k]? = some a → I64 a → CW X cur (s.puts ((movesL base 0 (argA X x)).take k)) y → Calls Try.prog 49 #[.pointer (some ⟨X.C, 0, none⟩), (mvI (base + (k : Int)) a).v] y fun e w' => e = .returned (.tuple #[]) ∧ CW X cur (s.puts ((movesL base 0 (argA X x)).take (k + 1))) w') := fun k a y hk ha hy => by
    have hkl := (List.getElem?_eq_some_iff.1 hk).1
    rw [argA_len] at hkl
    have hcn := puts_cnt ((movesL base 0 (argA X x)).take k) s
    rw [List.length_take, hmv] at hcn
    have e1 : s.puts ((movesL base 0 (argA X x)).take (k + 1)) = (s.puts ((movesL base 0 (argA X x)).take k)).put (zI (mvI (base + (k : Int)) a)) := by
      rw [movesL_take base _ 0 k a hk, puts_snoc, Nat.zero_add]
      rfl
    rw [e1]
    exact put_any X hx cur _ y hy (by rw [puts_here, puts_len]; exact hh) (by rw [puts_here]; exact ho) (by omega) _ (xf_mv X (by unfold I64; omega) ha)
  have PUT2 : Hid (∀ (k : Nat) (r : Int) (y : World), b.un[k]? = some r → CW X cur ((s.puts (movesL base 0 (argA X x))).puts ((b.un.map fun r => k0I (base + r)).take k)) y → Calls Try.prog 49 #[.pointer (some ⟨X.C, 0, none⟩), (k0I (base + r)).v] y fun e w' => e = .returned (.tuple #[]) ∧ CW X cur ((s.puts (movesL base 0 (argA X x))).puts ((b.un.map fun r => k0I (base + r)).take (k + 1))) w') := fun k r y hk hy => by
    have hkl := (List.getElem?_eq_some_iff.1 hk).1
    have hr := hun r (List.mem_of_getElem? hk)
    have hcn := puts_cnt ((b.un.map fun r => k0I (base + r)).take k) (s.puts (movesL base 0 (argA X x)))
    have hcn2 := puts_cnt (movesL base 0 (argA X x)) s
    rw [List.length_take, List.length_map] at hcn
    rw [hmv] at hcn2
    have e1 : (s.puts (movesL base 0 (argA X x))).puts ((b.un.map fun r => k0I (base + r)).take (k + 1)) = ((s.puts (movesL base 0 (argA X x))).puts ((b.un.map fun r => k0I (base + r)).take k)).put (zI (k0I (base + r))) := by
      rw [take_map_snoc (fun r => k0I (base + r)) hk, puts_snoc]
      rfl
    rw [e1]
    exact put_any X hx cur _ y hy (by rw [puts_here, puts_len, puts_here, puts_len]; exact hh) (by rw [puts_here, puts_here]; exact ho) (by omega) _ (xf_k0 X (by unfold I64; omega))
  have HXF := hideIt hxf
  have HBS := hideIt hbs
  have HUN := hideIt hun
  have HX := hideIt hx
  have HA := hideIt (argA_len X x)
  have HMV := hideIt hmv
  have CW0 : Hid (CW X cur (s.puts ((movesL base 0 (argA X x)).take 0)) w) := h
  have HFR : Hid (∀ S y, CW X cur S y → X.Fr y) := fun S y hy => by obtain ⟨_, _, _, hm⟩ := hy; exact hm.fk
  have HC2 : Hid (∀ S y, CW X cur S y → y.cell? ⟨X.C, 2, none⟩ = some (.bool X.fault)) := fun S y hy => by obtain ⟨_, _, _, hm⟩ := hy; exact hm.c3.2.2.1
  have FIN : Hid (s.puts (beginL X.fault x.args b.un base) = (s.puts (movesL base 0 (argA X x))).puts (b.un.map fun r => k0I (base + r))) := by
    show _ = _
    unfold beginL
    rw [puts_app]
  have hw := HFR.out _ _ h
  have hal2 := (hxf.fr hx hw).1.sok.len
  clear h hs hh ho hxf hbs hun hw hmv
  generalize hC : X.C = C at *
  go_enter Try.func64, Try.ntmps64
  go_wp2_with (fail)
  go_loopw [9, 10, 18] (fun d d' i wr => ∃ (k : Nat), i = .int .i64 k ∧ k ≤ x.args.length ∧ Hid (CW X cur (s.puts ((movesL base 0 (argA X x)).take k)) wr)) (fun _ _ i _ => x.args.length - (intOf i).toNat)
  case atStart => exact ⟨0, rfl, Nat.zero_le _, CW0⟩
  case round =>
    obtain ⟨k, rfl, hk, HC⟩ := hrel
    generalize wr = y at *
    clear CW0
    have hyf := HFR.out _ _ HC.out
    have c2 := HC2.out _ _ HC.out
    by_cases hlt : k < x.args.length
    · obtain ⟨a, hak⟩ := get_of_lt hlt
      obtain ⟨ab, ao, ea, k0, hai⟩ := (HXF.out.fr HX.out hyf).1.args k a hak
      rw [Nat.mul_one] at k0
      have hkl : (k : Int) < (x.args.length : Int) := by omega
      have wk : IntKind.i64.wrap (base + (k : Int)) = base + (k : Int) := by rw [IntKind.wrap_i64]; omega
      rw [show (Value.slice x.aa x.args.length x.ac) = .slice (some ⟨ab, ao, none⟩) x.args.length x.ac by rw [ea]]
      cases hf : X.fault
      · rw [hf] at c2
        have P1 := hideIt (PUT.out k a y (by unfold argA; rw [hf]; exact hak) hai HC.out)
        clear ea hak hyf
        go_wp2_with (fail)
        go_at_call 49
        refine Calls.mono P1.out ?_
        rintro e z ⟨rfl, c⟩
        have HZ := hideIt c
        clear c c2 k0
        go_wp2_with (fail)
        go_roundw
        case rel => exact ⟨k + 1, by go_num, by omega, HZ⟩
        case measure => simp [intOf]; omega
      · rw [hf] at c2
        obtain ⟨j, hj⟩ : ∃ j, x.args.length - 1 - k = j := ⟨_, rfl⟩
        obtain ⟨a', ha'⟩ := get_of_lt (l := x.args) (k := j) (by omega)
        obtain ⟨ab2, ao2, ea2, k2, hai2⟩ := (HXF.out.fr HX.out hyf).1.args j a' ha'
        rw [ea] at ea2
        injection ea2 with ea2
        injection ea2 with e1 e2
        subst e1; subst e2
        rw [Nat.mul_one] at k2
        have P1 := hideIt (PUT.out k a' y (by unfold argA; rw [hf]; show x.args.reverse[k]? = _; rw [List.getElem?_reverse hlt, hj]; exact ha') hai2 HC.out)
        have ej : (x.args.length : Int) - 1 - (k : Int) = (j : Int) := by omega
        clear ea hak hyf ha'
        go_wp2_with (fail)
        go_at_call 49
        refine Calls.mono P1.out ?_
        rintro e z ⟨rfl, c⟩
        have HZ := hideIt c
        clear c c2 k0 k2
        go_wp2_with (fail)
        go_roundw
        case rel => exact ⟨k + 1, by go_num, by omega, HZ⟩
        case measure => simp [intOf]; omega
    · have ek : k = x.args.length := by omega
      subst ek
      have hlt2 : ¬ (x.args.length : Int) < (x.args.length : Int) := by omega
      have h1c := (HBS.out y hyf).h1
      have CW1 : Hid (CW X cur ((s.puts (movesL base 0 (argA X x))).puts ((b.un.map fun r => k0I (base + r)).take 0)) y) := by
        have := HC.out
        rw [List.take_of_length_le (by rw [HMV.out]; exact Nat.le_refl _)] at this
        exact this
      clear HC hyf c2
      go_wp2_with (fail)
      clear h1c
      go_loopw [12, 46] (fun d i wr => ∃ (k : Nat), i = .int .i64 k ∧ k ≤ b.un.length ∧ Hid (CW X cur ((s.puts (movesL base 0 (argA X x))).puts ((b.un.map fun r => k0I (base + r)).take k)) wr)) (fun _ i _ => b.un.length - (intOf i).toNat)
      case atStart => exact ⟨0, rfl, Nat.zero_le _, CW1⟩
      case round =>
        obtain ⟨k, rfl, hk2, HC⟩ := hrel
        generalize wr = y2 at *
        clear CW1
        have hyf := HFR.out _ _ HC.out
        by_cases hlt : k < b.un.length
        · obtain ⟨r, hrk⟩ := get_of_lt hlt
          obtain ⟨ub, uo, ea, k0, -⟩ := (HBS.out y2 hyf).us k r hrk
          rw [Nat.mul_one] at k0
          have hkl : (k : Int) < (b.un.length : Int) := by omega
          have hr := HUN.out r (List.mem_of_getElem? hrk)
          have wk : IntKind.i64.wrap (base + r) = base + r := by rw [IntKind.wrap_i64]; omega
          rw [show (Value.slice ua b.un.length uc) = .slice (some ⟨ub, uo, none⟩) b.un.length uc by rw [ea]]
          have P1 := hideIt (PUT2.out k r y2 hrk HC.out)
          clear ea hrk hyf hr
          go_wp2_with (fail)
          go_at_call 49
          refine Calls.mono P1.out ?_
          rintro e z ⟨rfl, c⟩
          have HZ := hideIt c
          clear c k0
          go_wp2_with (fail)
          go_roundw
          case rel => exact ⟨k + 1, by go_num, by omega, HZ⟩
          case measure => simp [intOf]; omega
        · have ek : k = b.un.length := by omega
          subst ek
          have hlt3 : ¬ (b.un.length : Int) < (b.un.length : Int) := by omega
          go_wp2_with (fail)
          go_end0
          refine ⟨rfl, ?_⟩
          rw [FIN.out]
          have := HC.out
          rwa [List.take_of_length_le (by rw [List.length_map]; exact Nat.le_refl _)] at this

end Go.Proofs.Ytnaflfpkkbfnfaa.In
