/-
  Whether an instruction may be left as it is, by the document (left of the statements of layer 16): a contract over the program; the conditions: the instructions lie in memory, and nothing that is known is left.
-/
import Derived.Test.YtaomkfhbnakbjaaKFpB
import Derived.Test.YtaomkfhbnakbjaaKNuDo
namespace Go.Proofs.Ytaomkfhbnakbjaa.Fo
open Go.RowKit
set_option linter.unusedVariables false

/-- The world behind the two boxes of left. -/
abbrev bxI (w : World) (p : PP) (x : PI) : World := (bxP w p).alloc (.cells #[.int .u8 x.op, .int .u8 x.ty, .int .i64 x.dst, .int .i64 x.a, .int .i64 x.b, .int .i64 x.imm, .slice x.aa x.args.length x.ac] 51)
theorem bxI_p {w X : World} {p : PP} {x : PI} (h : Q (bxI w p x) X) : X.heap[w.heap.size]? = some (.cells #[.slice p.ia p.ins.length p.ic, .bool p.e, .int .i64 p.cond, .int .i64 p.next, .int .i64 p.els] 49 (0, 0)) := heap_keep h (heap_old _ (heap_new _ _))
theorem bxI_x {w X : World} {p : PP} {x : PI} (h : Q (bxI w p x) X) : X.heap[w.heap.size + 1]? = some (.cells #[.int .u8 x.op, .int .u8 x.ty, .int .i64 x.dst, .int .i64 x.a, .int .i64 x.b, .int .i64 x.imm, .slice x.aa x.args.length x.ac] 51 (0, 0)) := heap_keep h (heap_at (by simp))
/-- What known answers. -/
def KnC (w : World) (p : PP) (x : PI) (r : Int) (k : Nat) (o : Option Int) : Prop := ∀ X, Q (bxI w p x) X → Calls Try.prog 42 #[ptV p, .int .i64 r, .int .i64 (k : Int)] X fun e w' => e = .returned (.tuple #[.int .i64 (o.getD 0), .bool o.isSome]) ∧ Q X w'
theorem knc {w : World} {p : PP} {x : PI} {r : Int} {k : Nat} (hp : p.ok w) (hk : k ≤ p.ins.length) : KnC w p x r k (kf p.ins k r) := fun X h => by
  have := known_any X p r k (hp.keep (((bxP_q w p).alloc _).trans h)) hk
  rw [← known_kf p.ins r k hk] at this
  exact this

set_option maxRecDepth 100000 in
set_option maxHeartbeats 400000 in
theorem left_two (w : World) (p : PP) (k : Nat) (x : PI) (hp : p.ok w) (hx : p.ins[k]? = some x) (fb : Option Int) (a b : Int) (h1 : 1 ≤ x.op) (h2 : x.op ≤ 16) (hd : ¬ Burin.do2 x.op x.ty a b = 0) (hA : KnC w p x x.a k (some a)) (hB : KnC w p x x.b k (some b)) : Calls Try.prog 20 #[ptV p, .int .i64 (k : Int)] w fun e w' => e = .returned (.bool true) ∧ Q w w' := by
  obtain ⟨ib, io, eia, hat⟩ := hp.ins k x hx
  obtain ⟨c0, c1, c2, c3, c4, c5, c6⟩ := hat.1.seven
  have d0 := fun ob => cell_keep ((Q.refl w).alloc ob) c0
  have d1 := fun ob => cell_keep ((Q.refl w).alloc ob) c1
  have d2 := fun ob => cell_keep ((Q.refl w).alloc ob) c2
  have d3 := fun ob => cell_keep ((Q.refl w).alloc ob) c3
  have d4 := fun ob => cell_keep ((Q.refl w).alloc ob) c4
  have d5 := fun ob => cell_keep ((Q.refl w).alloc ob) c5
  have d6 := fun ob => cell_keep ((Q.refl w).alloc ob) c6
  have hlen : p.ins.length ≤ 9223372036854775807 := hp.sok.len
  have hkl : (k : Int) < (p.ins.length : Int) := by have := (List.getElem?_eq_some_iff.1 hx).1; omega
  obtain ⟨o1, o2⟩ := hat.2.op
  obtain ⟨t1, t2⟩ := hat.2.ty
  have wo : IntKind.i64.wrap x.op = x.op := by simp [IntKind.wrap, IntKind.bits, IntKind.signed]; omega
  have wt : IntKind.i64.wrap x.ty = x.ty := by simp [IntKind.wrap, IntKind.bits, IntKind.signed]; omega
  have PB := hideIt (fun X (h : Q (bxI w p x) X) => bxI_p h)
  have XB := hideIt (fun X (h : Q (bxI w p x) X) => bxI_x h)
  have CA := hideIt hA
  have CB := hideIt hB
  have CD : Hid (∀ X, Calls Try.prog 23 #[.int .i64 x.op, .int .i64 x.ty, .int .i64 a, .int .i64 b] X fun e w' => e = .returned (.tuple #[.int .i64 (Burin.do1 x.op x.ty a b), .int .i64 (Burin.do2 x.op x.ty a b)]) ∧ Q X w') := fun X => Nu.rdo_any x.op x.ty a b X t1
  have hd' : (Burin.do2 x.op x.ty a b != 0) = true := by simpa using hd
  generalize Burin.do1 x.op x.ty a b = D1 at *
  generalize Burin.do2 x.op x.ty a b = D2 at *
  clear hd
  clear hA hB hat c0 c1 c2 c3 c4 c5 c6 hx hp
  unfold KnC at CA CB
  dsimp only [Option.getD, Option.isSome] at CA CB
  obtain ⟨ins, pe, cond, next, els, ia, ic⟩ := p
  dsimp only at *
  subst eia
  go_enter Try.func20, Try.ntmps20
  go_wp2_with (first
    | (go_at_call 42; first
        | (have hh := Q1; clear hh; refine Calls.mono (CB.out z1 Q1.out) ?_; rintro e z2 ⟨rfl, q⟩; have Q2 := hideIt (Q1.out.trans q); clear q b0 b1 b2 b3 b4 y0 y1 y3 y4; have hb2 := XB.out z2 Q2.out; have y0 := cell_of_block hb2 0; have y1 := cell_of_block hb2 1; clear hb2)
        | (refine Calls.mono (CA.out _ (Q.refl _)) ?_; rintro e z1 ⟨rfl, q⟩; have Q1 := hideIt q; have hb1 := PB.out z1 q; have b0 := cell_of_block hb1 0; have b1 := cell_of_block hb1 1; have b2 := cell_of_block hb1 2; have b3 := cell_of_block hb1 3; have b4 := cell_of_block hb1 4; have hb2 := XB.out z1 q; have y0 := cell_of_block hb2 0; have y1 := cell_of_block hb2 1; have y3 := cell_of_block hb2 3; have y4 := cell_of_block hb2 4; clear q hb1 hb2))
    | (go_at_call 23; refine Calls.mono (CD.out _) ?_; rintro e z3 ⟨rfl, q⟩; have Q3 := hideIt (Q2.out.trans q); clear q)
    | fail)
  go_ret
  exact ⟨rfl, (((Q.refl w).alloc _).alloc _).trans Q3.out⟩

set_option maxRecDepth 100000 in
set_option maxHeartbeats 400000 in
theorem left_one (w : World) (p : PP) (k : Nat) (x : PI) (hp : p.ok w) (hx : p.ins[k]? = some x) (fb : Option Int) (a : Int) (h1 : 1 ≤ x.op) (h2 : x.op ≤ 16) (hA : KnC w p x x.a k (some a)) (hB : KnC w p x x.b k none) : Calls Try.prog 20 #[ptV p, .int .i64 (k : Int)] w fun e w' => e = .returned (.bool true) ∧ Q w w' := by
  obtain ⟨ib, io, eia, hat⟩ := hp.ins k x hx
  obtain ⟨c0, c1, c2, c3, c4, c5, c6⟩ := hat.1.seven
  have d0 := fun ob => cell_keep ((Q.refl w).alloc ob) c0
  have d1 := fun ob => cell_keep ((Q.refl w).alloc ob) c1
  have d2 := fun ob => cell_keep ((Q.refl w).alloc ob) c2
  have d3 := fun ob => cell_keep ((Q.refl w).alloc ob) c3
  have d4 := fun ob => cell_keep ((Q.refl w).alloc ob) c4
  have d5 := fun ob => cell_keep ((Q.refl w).alloc ob) c5
  have d6 := fun ob => cell_keep ((Q.refl w).alloc ob) c6
  have hlen : p.ins.length ≤ 9223372036854775807 := hp.sok.len
  have hkl : (k : Int) < (p.ins.length : Int) := by have := (List.getElem?_eq_some_iff.1 hx).1; omega
  obtain ⟨o1, o2⟩ := hat.2.op
  obtain ⟨t1, t2⟩ := hat.2.ty
  have wo : IntKind.i64.wrap x.op = x.op := by simp [IntKind.wrap, IntKind.bits, IntKind.signed]; omega
  have wt : IntKind.i64.wrap x.ty = x.ty := by simp [IntKind.wrap, IntKind.bits, IntKind.signed]; omega
  have n25 : (x.op != 25) = true := by simp; omega
  have n21 : (x.op != 21) = true := by simp; omega
  have PB := hideIt (fun X (h : Q (bxI w p x) X) => bxI_p h)
  have XB := hideIt (fun X (h : Q (bxI w p x) X) => bxI_x h)
  have CA := hideIt hA
  have CB := hideIt hB
  clear hA hB hat c0 c1 c2 c3 c4 c5 c6 hx hp
  unfold KnC at CA CB
  dsimp only [Option.getD, Option.isSome] at CA CB
  obtain ⟨ins, pe, cond, next, els, ia, ic⟩ := p
  dsimp only at *
  subst eia
  go_enter Try.func20, Try.ntmps20
  go_wp2_with (first
    | (go_at_call 42; first
        | (have hh := Q1; clear hh; refine Calls.mono (CB.out z1 Q1.out) ?_; rintro e z2 ⟨rfl, q⟩; have Q2 := hideIt (Q1.out.trans q); clear q b0 b1 b2 b3 b4 y0 y1 y3 y4; have hb2 := XB.out z2 Q2.out; have y0 := cell_of_block hb2 0; have y1 := cell_of_block hb2 1; clear hb2)
        | (refine Calls.mono (CA.out _ (Q.refl _)) ?_; rintro e z1 ⟨rfl, q⟩; have Q1 := hideIt q; have hb1 := PB.out z1 q; have b0 := cell_of_block hb1 0; have b1 := cell_of_block hb1 1; have b2 := cell_of_block hb1 2; have b3 := cell_of_block hb1 3; have b4 := cell_of_block hb1 4; have hb2 := XB.out z1 q; have y0 := cell_of_block hb2 0; have y1 := cell_of_block hb2 1; have y3 := cell_of_block hb2 3; have y4 := cell_of_block hb2 4; clear q hb1 hb2))
    | fail)
  go_ret
  exact ⟨rfl, (((Q.refl w).alloc _).alloc _).trans Q2.out⟩

set_option maxRecDepth 100000 in
set_option maxHeartbeats 400000 in
theorem left_no (w : World) (p : PP) (k : Nat) (x : PI) (hp : p.ok w) (hx : p.ins[k]? = some x) (fb : Option Int) (h1 : 1 ≤ x.op) (h2 : x.op ≤ 16) (hA : KnC w p x x.a k none) (hB : KnC w p x x.b k fb) : Calls Try.prog 20 #[ptV p, .int .i64 (k : Int)] w fun e w' => e = .returned (.bool true) ∧ Q w w' := by
  obtain ⟨ib, io, eia, hat⟩ := hp.ins k x hx
  obtain ⟨c0, c1, c2, c3, c4, c5, c6⟩ := hat.1.seven
  have d0 := fun ob => cell_keep ((Q.refl w).alloc ob) c0
  have d1 := fun ob => cell_keep ((Q.refl w).alloc ob) c1
  have d2 := fun ob => cell_keep ((Q.refl w).alloc ob) c2
  have d3 := fun ob => cell_keep ((Q.refl w).alloc ob) c3
  have d4 := fun ob => cell_keep ((Q.refl w).alloc ob) c4
  have d5 := fun ob => cell_keep ((Q.refl w).alloc ob) c5
  have d6 := fun ob => cell_keep ((Q.refl w).alloc ob) c6
  have hlen : p.ins.length ≤ 9223372036854775807 := hp.sok.len
  have hkl : (k : Int) < (p.ins.length : Int) := by have := (List.getElem?_eq_some_iff.1 hx).1; omega
  obtain ⟨o1, o2⟩ := hat.2.op
  obtain ⟨t1, t2⟩ := hat.2.ty
  have wo : IntKind.i64.wrap x.op = x.op := by simp [IntKind.wrap, IntKind.bits, IntKind.signed]; omega
  have wt : IntKind.i64.wrap x.ty = x.ty := by simp [IntKind.wrap, IntKind.bits, IntKind.signed]; omega
  have PB := hideIt (fun X (h : Q (bxI w p x) X) => bxI_p h)
  have XB := hideIt (fun X (h : Q (bxI w p x) X) => bxI_x h)
  have CA := hideIt hA
  have CB := hideIt hB
  clear hA hB hat c0 c1 c2 c3 c4 c5 c6 hx hp
  unfold KnC at CA CB
  dsimp only [Option.getD, Option.isSome] at CA
  generalize fb.getD 0 = fv at CB
  generalize fb.isSome = fs at CB
  obtain ⟨ins, pe, cond, next, els, ia, ic⟩ := p
  dsimp only at *
  subst eia
  go_enter Try.func20, Try.ntmps20
  go_wp2_with (first
    | (go_at_call 42; first
        | (have hh := Q1; clear hh; refine Calls.mono (CB.out z1 Q1.out) ?_; rintro e z2 ⟨rfl, q⟩; have Q2 := hideIt (Q1.out.trans q); clear q b0 b1 b2 b3 b4 y0 y1 y3 y4; have hb2 := XB.out z2 Q2.out; have y0 := cell_of_block hb2 0; have y1 := cell_of_block hb2 1; clear hb2)
        | (refine Calls.mono (CA.out _ (Q.refl _)) ?_; rintro e z1 ⟨rfl, q⟩; have Q1 := hideIt q; have hb1 := PB.out z1 q; have b0 := cell_of_block hb1 0; have b1 := cell_of_block hb1 1; have b2 := cell_of_block hb1 2; have b3 := cell_of_block hb1 3; have b4 := cell_of_block hb1 4; have hb2 := XB.out z1 q; have y0 := cell_of_block hb2 0; have y1 := cell_of_block hb2 1; have y3 := cell_of_block hb2 3; have y4 := cell_of_block hb2 4; clear q hb1 hb2))
    | fail)
  go_ret
  exact ⟨rfl, (((Q.refl w).alloc _).alloc _).trans Q2.out⟩

set_option maxRecDepth 100000 in
set_option maxHeartbeats 400000 in
theorem left_un22 (w : World) (p : PP) (k : Nat) (x : PI) (hp : p.ok w) (hx : p.ins[k]? = some x) (fb : Option Int) (a : Int) (h1 : x.op = 22) (hd : ¬ Burin.un2 1 x.ty a = 0) (hA : KnC w p x x.a k (some a)) (hB : KnC w p x x.b k fb) : Calls Try.prog 20 #[ptV p, .int .i64 (k : Int)] w fun e w' => e = .returned (.bool true) ∧ Q w w' := by
  obtain ⟨ib, io, eia, hat⟩ := hp.ins k x hx
  obtain ⟨c0, c1, c2, c3, c4, c5, c6⟩ := hat.1.seven
  have d0 := fun ob => cell_keep ((Q.refl w).alloc ob) c0
  have d1 := fun ob => cell_keep ((Q.refl w).alloc ob) c1
  have d2 := fun ob => cell_keep ((Q.refl w).alloc ob) c2
  have d3 := fun ob => cell_keep ((Q.refl w).alloc ob) c3
  have d4 := fun ob => cell_keep ((Q.refl w).alloc ob) c4
  have d5 := fun ob => cell_keep ((Q.refl w).alloc ob) c5
  have d6 := fun ob => cell_keep ((Q.refl w).alloc ob) c6
  have hlen : p.ins.length ≤ 9223372036854775807 := hp.sok.len
  have hkl : (k : Int) < (p.ins.length : Int) := by have := (List.getElem?_eq_some_iff.1 hx).1; omega
  obtain ⟨o1, o2⟩ := hat.2.op
  obtain ⟨t1, t2⟩ := hat.2.ty
  have wo : IntKind.i64.wrap x.op = x.op := by simp [IntKind.wrap, IntKind.bits, IntKind.signed]; omega
  have wt : IntKind.i64.wrap x.ty = x.ty := by simp [IntKind.wrap, IntKind.bits, IntKind.signed]; omega
  have PB := hideIt (fun X (h : Q (bxI w p x) X) => bxI_p h)
  have XB := hideIt (fun X (h : Q (bxI w p x) X) => bxI_x h)
  have CA := hideIt hA
  have CB := hideIt hB
  have CU : Hid (∀ X, Calls Try.prog 43 #[.int .i64 1, .int .i64 x.ty, .int .i64 a] X fun e w' => e = .returned (.tuple #[.int .i64 (Burin.un1 1 x.ty a), .int .i64 (Burin.un2 1 x.ty a)]) ∧ Q X w') := fun X => Nu.run_any 1 x.ty a X t1
  have hd' : (Burin.un2 1 x.ty a != 0) = true := by simpa using hd
  generalize Burin.un1 1 x.ty a = D1 at *
  generalize Burin.un2 1 x.ty a = D2 at *
  clear hd
  clear hA hB hat c0 c1 c2 c3 c4 c5 c6 hx hp
  unfold KnC at CA CB
  dsimp only [Option.getD, Option.isSome] at CA
  generalize fb.getD 0 = fv at CB
  generalize fb.isSome = fs at CB
  obtain ⟨ins, pe, cond, next, els, ia, ic⟩ := p
  dsimp only at *
  subst eia
  obtain ⟨xop, xty, xdst, xa, xb, xim, xargs, xaa, xac⟩ := x
  dsimp only at *
  subst h1
  clear wo o1 o2
  go_enter Try.func20, Try.ntmps20
  go_wp2_with (first
    | (go_at_call 42; first
        | (have hh := Q1; clear hh; refine Calls.mono (CB.out z1 Q1.out) ?_; rintro e z2 ⟨rfl, q⟩; have Q2 := hideIt (Q1.out.trans q); clear q b0 b1 b2 b3 b4 y0 y1 y3 y4; have hb2 := XB.out z2 Q2.out; have y0 := cell_of_block hb2 0; have y1 := cell_of_block hb2 1; clear hb2)
        | (refine Calls.mono (CA.out _ (Q.refl _)) ?_; rintro e z1 ⟨rfl, q⟩; have Q1 := hideIt q; have hb1 := PB.out z1 q; have b0 := cell_of_block hb1 0; have b1 := cell_of_block hb1 1; have b2 := cell_of_block hb1 2; have b3 := cell_of_block hb1 3; have b4 := cell_of_block hb1 4; have hb2 := XB.out z1 q; have y0 := cell_of_block hb2 0; have y1 := cell_of_block hb2 1; have y3 := cell_of_block hb2 3; have y4 := cell_of_block hb2 4; clear q hb1 hb2))
    | (go_at_call 43; refine Calls.mono (CU.out _) ?_; rintro e z3 ⟨rfl, q⟩; have Q3 := hideIt (Q2.out.trans q); clear q)
    | fail)
  go_ret
  exact ⟨rfl, (((Q.refl w).alloc _).alloc _).trans Q3.out⟩

set_option maxRecDepth 100000 in
set_option maxHeartbeats 400000 in
theorem left_un23 (w : World) (p : PP) (k : Nat) (x : PI) (hp : p.ok w) (hx : p.ins[k]? = some x) (fb : Option Int) (a : Int) (h1 : x.op = 23) (hd : ¬ Burin.un2 2 x.ty a = 0) (hA : KnC w p x x.a k (some a)) (hB : KnC w p x x.b k fb) : Calls Try.prog 20 #[ptV p, .int .i64 (k : Int)] w fun e w' => e = .returned (.bool true) ∧ Q w w' := by
  obtain ⟨ib, io, eia, hat⟩ := hp.ins k x hx
  obtain ⟨c0, c1, c2, c3, c4, c5, c6⟩ := hat.1.seven
  have d0 := fun ob => cell_keep ((Q.refl w).alloc ob) c0
  have d1 := fun ob => cell_keep ((Q.refl w).alloc ob) c1
  have d2 := fun ob => cell_keep ((Q.refl w).alloc ob) c2
  have d3 := fun ob => cell_keep ((Q.refl w).alloc ob) c3
  have d4 := fun ob => cell_keep ((Q.refl w).alloc ob) c4
  have d5 := fun ob => cell_keep ((Q.refl w).alloc ob) c5
  have d6 := fun ob => cell_keep ((Q.refl w).alloc ob) c6
  have hlen : p.ins.length ≤ 9223372036854775807 := hp.sok.len
  have hkl : (k : Int) < (p.ins.length : Int) := by have := (List.getElem?_eq_some_iff.1 hx).1; omega
  obtain ⟨o1, o2⟩ := hat.2.op
  obtain ⟨t1, t2⟩ := hat.2.ty
  have wo : IntKind.i64.wrap x.op = x.op := by simp [IntKind.wrap, IntKind.bits, IntKind.signed]; omega
  have wt : IntKind.i64.wrap x.ty = x.ty := by simp [IntKind.wrap, IntKind.bits, IntKind.signed]; omega
  have PB := hideIt (fun X (h : Q (bxI w p x) X) => bxI_p h)
  have XB := hideIt (fun X (h : Q (bxI w p x) X) => bxI_x h)
  have CA := hideIt hA
  have CB := hideIt hB
  have CU : Hid (∀ X, Calls Try.prog 43 #[.int .i64 2, .int .i64 x.ty, .int .i64 a] X fun e w' => e = .returned (.tuple #[.int .i64 (Burin.un1 2 x.ty a), .int .i64 (Burin.un2 2 x.ty a)]) ∧ Q X w') := fun X => Nu.run_any 2 x.ty a X t1
  have hd' : (Burin.un2 2 x.ty a != 0) = true := by simpa using hd
  generalize Burin.un1 2 x.ty a = D1 at *
  generalize Burin.un2 2 x.ty a = D2 at *
  clear hd
  clear hA hB hat c0 c1 c2 c3 c4 c5 c6 hx hp
  unfold KnC at CA CB
  dsimp only [Option.getD, Option.isSome] at CA
  generalize fb.getD 0 = fv at CB
  generalize fb.isSome = fs at CB
  obtain ⟨ins, pe, cond, next, els, ia, ic⟩ := p
  dsimp only at *
  subst eia
  obtain ⟨xop, xty, xdst, xa, xb, xim, xargs, xaa, xac⟩ := x
  dsimp only at *
  subst h1
  clear wo o1 o2
  go_enter Try.func20, Try.ntmps20
  go_wp2_with (first
    | (go_at_call 42; first
        | (have hh := Q1; clear hh; refine Calls.mono (CB.out z1 Q1.out) ?_; rintro e z2 ⟨rfl, q⟩; have Q2 := hideIt (Q1.out.trans q); clear q b0 b1 b2 b3 b4 y0 y1 y3 y4; have hb2 := XB.out z2 Q2.out; have y0 := cell_of_block hb2 0; have y1 := cell_of_block hb2 1; clear hb2)
        | (refine Calls.mono (CA.out _ (Q.refl _)) ?_; rintro e z1 ⟨rfl, q⟩; have Q1 := hideIt q; have hb1 := PB.out z1 q; have b0 := cell_of_block hb1 0; have b1 := cell_of_block hb1 1; have b2 := cell_of_block hb1 2; have b3 := cell_of_block hb1 3; have b4 := cell_of_block hb1 4; have hb2 := XB.out z1 q; have y0 := cell_of_block hb2 0; have y1 := cell_of_block hb2 1; have y3 := cell_of_block hb2 3; have y4 := cell_of_block hb2 4; clear q hb1 hb2))
    | (go_at_call 43; refine Calls.mono (CU.out _) ?_; rintro e z3 ⟨rfl, q⟩; have Q3 := hideIt (Q2.out.trans q); clear q)
    | fail)
  go_ret
  exact ⟨rfl, (((Q.refl w).alloc _).alloc _).trans Q3.out⟩

set_option maxRecDepth 100000 in
set_option maxHeartbeats 400000 in
theorem left_un24 (w : World) (p : PP) (k : Nat) (x : PI) (hp : p.ok w) (hx : p.ins[k]? = some x) (fb : Option Int) (a : Int) (h1 : x.op = 24) (hd : ¬ Burin.un2 3 x.ty a = 0) (hA : KnC w p x x.a k (some a)) (hB : KnC w p x x.b k fb) : Calls Try.prog 20 #[ptV p, .int .i64 (k : Int)] w fun e w' => e = .returned (.bool true) ∧ Q w w' := by
  obtain ⟨ib, io, eia, hat⟩ := hp.ins k x hx
  obtain ⟨c0, c1, c2, c3, c4, c5, c6⟩ := hat.1.seven
  have d0 := fun ob => cell_keep ((Q.refl w).alloc ob) c0
  have d1 := fun ob => cell_keep ((Q.refl w).alloc ob) c1
  have d2 := fun ob => cell_keep ((Q.refl w).alloc ob) c2
  have d3 := fun ob => cell_keep ((Q.refl w).alloc ob) c3
  have d4 := fun ob => cell_keep ((Q.refl w).alloc ob) c4
  have d5 := fun ob => cell_keep ((Q.refl w).alloc ob) c5
  have d6 := fun ob => cell_keep ((Q.refl w).alloc ob) c6
  have hlen : p.ins.length ≤ 9223372036854775807 := hp.sok.len
  have hkl : (k : Int) < (p.ins.length : Int) := by have := (List.getElem?_eq_some_iff.1 hx).1; omega
  obtain ⟨o1, o2⟩ := hat.2.op
  obtain ⟨t1, t2⟩ := hat.2.ty
  have wo : IntKind.i64.wrap x.op = x.op := by simp [IntKind.wrap, IntKind.bits, IntKind.signed]; omega
  have wt : IntKind.i64.wrap x.ty = x.ty := by simp [IntKind.wrap, IntKind.bits, IntKind.signed]; omega
  have PB := hideIt (fun X (h : Q (bxI w p x) X) => bxI_p h)
  have XB := hideIt (fun X (h : Q (bxI w p x) X) => bxI_x h)
  have CA := hideIt hA
  have CB := hideIt hB
  have CU : Hid (∀ X, Calls Try.prog 43 #[.int .i64 3, .int .i64 x.ty, .int .i64 a] X fun e w' => e = .returned (.tuple #[.int .i64 (Burin.un1 3 x.ty a), .int .i64 (Burin.un2 3 x.ty a)]) ∧ Q X w') := fun X => Nu.run_any 3 x.ty a X t1
  have hd' : (Burin.un2 3 x.ty a != 0) = true := by simpa using hd
  generalize Burin.un1 3 x.ty a = D1 at *
  generalize Burin.un2 3 x.ty a = D2 at *
  clear hd
  clear hA hB hat c0 c1 c2 c3 c4 c5 c6 hx hp
  unfold KnC at CA CB
  dsimp only [Option.getD, Option.isSome] at CA
  generalize fb.getD 0 = fv at CB
  generalize fb.isSome = fs at CB
  obtain ⟨ins, pe, cond, next, els, ia, ic⟩ := p
  dsimp only at *
  subst eia
  obtain ⟨xop, xty, xdst, xa, xb, xim, xargs, xaa, xac⟩ := x
  dsimp only at *
  subst h1
  clear wo o1 o2
  go_enter Try.func20, Try.ntmps20
  go_wp2_with (first
    | (go_at_call 42; first
        | (have hh := Q1; clear hh; refine Calls.mono (CB.out z1 Q1.out) ?_; rintro e z2 ⟨rfl, q⟩; have Q2 := hideIt (Q1.out.trans q); clear q b0 b1 b2 b3 b4 y0 y1 y3 y4; have hb2 := XB.out z2 Q2.out; have y0 := cell_of_block hb2 0; have y1 := cell_of_block hb2 1; clear hb2)
        | (refine Calls.mono (CA.out _ (Q.refl _)) ?_; rintro e z1 ⟨rfl, q⟩; have Q1 := hideIt q; have hb1 := PB.out z1 q; have b0 := cell_of_block hb1 0; have b1 := cell_of_block hb1 1; have b2 := cell_of_block hb1 2; have b3 := cell_of_block hb1 3; have b4 := cell_of_block hb1 4; have hb2 := XB.out z1 q; have y0 := cell_of_block hb2 0; have y1 := cell_of_block hb2 1; have y3 := cell_of_block hb2 3; have y4 := cell_of_block hb2 4; clear q hb1 hb2))
    | (go_at_call 43; refine Calls.mono (CU.out _) ?_; rintro e z3 ⟨rfl, q⟩; have Q3 := hideIt (Q2.out.trans q); clear q)
    | fail)
  go_ret
  exact ⟨rfl, (((Q.refl w).alloc _).alloc _).trans Q3.out⟩

set_option maxRecDepth 100000 in
set_option maxHeartbeats 400000 in
theorem left_none (w : World) (p : PP) (k : Nat) (x : PI) (hp : p.ok w) (hx : p.ins[k]? = some x) (fb : Option Int) (h1 : x.op < 1 ∨ 16 < x.op) (hA : KnC w p x x.a k none) (hB : KnC w p x x.b k fb) : Calls Try.prog 20 #[ptV p, .int .i64 (k : Int)] w fun e w' => e = .returned (.bool true) ∧ Q w w' := by
  obtain ⟨ib, io, eia, hat⟩ := hp.ins k x hx
  obtain ⟨c0, c1, c2, c3, c4, c5, c6⟩ := hat.1.seven
  have d0 := fun ob => cell_keep ((Q.refl w).alloc ob) c0
  have d1 := fun ob => cell_keep ((Q.refl w).alloc ob) c1
  have d2 := fun ob => cell_keep ((Q.refl w).alloc ob) c2
  have d3 := fun ob => cell_keep ((Q.refl w).alloc ob) c3
  have d4 := fun ob => cell_keep ((Q.refl w).alloc ob) c4
  have d5 := fun ob => cell_keep ((Q.refl w).alloc ob) c5
  have d6 := fun ob => cell_keep ((Q.refl w).alloc ob) c6
  have hlen : p.ins.length ≤ 9223372036854775807 := hp.sok.len
  have hkl : (k : Int) < (p.ins.length : Int) := by have := (List.getElem?_eq_some_iff.1 hx).1; omega
  obtain ⟨o1, o2⟩ := hat.2.op
  obtain ⟨t1, t2⟩ := hat.2.ty
  have wo : IntKind.i64.wrap x.op = x.op := by simp [IntKind.wrap, IntKind.bits, IntKind.signed]; omega
  have wt : IntKind.i64.wrap x.ty = x.ty := by simp [IntKind.wrap, IntKind.bits, IntKind.signed]; omega
  have PB := hideIt (fun X (h : Q (bxI w p x) X) => bxI_p h)
  have XB := hideIt (fun X (h : Q (bxI w p x) X) => bxI_x h)
  have CA := hideIt hA
  have CB := hideIt hB
  clear hA hB hat c0 c1 c2 c3 c4 c5 c6 hx hp
  unfold KnC at CA CB
  dsimp only [Option.getD, Option.isSome] at CA
  generalize fb.getD 0 = fv at CB
  generalize fb.isSome = fs at CB
  obtain ⟨ins, pe, cond, next, els, ia, ic⟩ := p
  dsimp only at *
  subst eia
  go_enter Try.func20, Try.ntmps20
  go_wp2_with (first
    | (go_at_call 42; first
        | (have hh := Q1; clear hh; refine Calls.mono (CB.out z1 Q1.out) ?_; rintro e z2 ⟨rfl, q⟩; have Q2 := hideIt (Q1.out.trans q); clear q b0 b1 b2 b3 b4 y0 y1 y3 y4; have hb2 := XB.out z2 Q2.out; have y0 := cell_of_block hb2 0; have y1 := cell_of_block hb2 1; clear hb2)
        | (refine Calls.mono (CA.out _ (Q.refl _)) ?_; rintro e z1 ⟨rfl, q⟩; have Q1 := hideIt q; have hb1 := PB.out z1 q; have b0 := cell_of_block hb1 0; have b1 := cell_of_block hb1 1; have b2 := cell_of_block hb1 2; have b3 := cell_of_block hb1 3; have b4 := cell_of_block hb1 4; have hb2 := XB.out z1 q; have y0 := cell_of_block hb2 0; have y1 := cell_of_block hb2 1; have y3 := cell_of_block hb2 3; have y4 := cell_of_block hb2 4; clear q hb1 hb2))
    | fail)
  all_goals
    go_ret
    exact ⟨rfl, (((Q.refl w).alloc _).alloc _).trans Q2.out⟩

set_option maxRecDepth 100000 in
set_option maxHeartbeats 400000 in
theorem left_low (w : World) (p : PP) (k : Nat) (x : PI) (hp : p.ok w) (hx : p.ins[k]? = some x) (fb : Option Int) (a : Int) (h1 : x.op < 1) (hA : KnC w p x x.a k (some a)) (hB : KnC w p x x.b k fb) : Calls Try.prog 20 #[ptV p, .int .i64 (k : Int)] w fun e w' => e = .returned (.bool true) ∧ Q w w' := by
  obtain ⟨ib, io, eia, hat⟩ := hp.ins k x hx
  obtain ⟨c0, c1, c2, c3, c4, c5, c6⟩ := hat.1.seven
  have d0 := fun ob => cell_keep ((Q.refl w).alloc ob) c0
  have d1 := fun ob => cell_keep ((Q.refl w).alloc ob) c1
  have d2 := fun ob => cell_keep ((Q.refl w).alloc ob) c2
  have d3 := fun ob => cell_keep ((Q.refl w).alloc ob) c3
  have d4 := fun ob => cell_keep ((Q.refl w).alloc ob) c4
  have d5 := fun ob => cell_keep ((Q.refl w).alloc ob) c5
  have d6 := fun ob => cell_keep ((Q.refl w).alloc ob) c6
  have hlen : p.ins.length ≤ 9223372036854775807 := hp.sok.len
  have hkl : (k : Int) < (p.ins.length : Int) := by have := (List.getElem?_eq_some_iff.1 hx).1; omega
  obtain ⟨o1, o2⟩ := hat.2.op
  obtain ⟨t1, t2⟩ := hat.2.ty
  have wo : IntKind.i64.wrap x.op = x.op := by simp [IntKind.wrap, IntKind.bits, IntKind.signed]; omega
  have wt : IntKind.i64.wrap x.ty = x.ty := by simp [IntKind.wrap, IntKind.bits, IntKind.signed]; omega
  have n25 : (x.op != 25) = true := by simp; omega
  have n21 : (x.op != 21) = true := by simp; omega
  have PB := hideIt (fun X (h : Q (bxI w p x) X) => bxI_p h)
  have XB := hideIt (fun X (h : Q (bxI w p x) X) => bxI_x h)
  have CA := hideIt hA
  have CB := hideIt hB
  clear hA hB hat c0 c1 c2 c3 c4 c5 c6 hx hp
  unfold KnC at CA CB
  dsimp only [Option.getD, Option.isSome] at CA
  generalize fb.getD 0 = fv at CB
  generalize fb.isSome = fs at CB
  obtain ⟨ins, pe, cond, next, els, ia, ic⟩ := p
  dsimp only at *
  subst eia
  go_enter Try.func20, Try.ntmps20
  go_wp2_with (first
    | (go_at_call 42; first
        | (have hh := Q1; clear hh; refine Calls.mono (CB.out z1 Q1.out) ?_; rintro e z2 ⟨rfl, q⟩; have Q2 := hideIt (Q1.out.trans q); clear q b0 b1 b2 b3 b4 y0 y1 y3 y4; have hb2 := XB.out z2 Q2.out; have y0 := cell_of_block hb2 0; have y1 := cell_of_block hb2 1; clear hb2)
        | (refine Calls.mono (CA.out _ (Q.refl _)) ?_; rintro e z1 ⟨rfl, q⟩; have Q1 := hideIt q; have hb1 := PB.out z1 q; have b0 := cell_of_block hb1 0; have b1 := cell_of_block hb1 1; have b2 := cell_of_block hb1 2; have b3 := cell_of_block hb1 3; have b4 := cell_of_block hb1 4; have hb2 := XB.out z1 q; have y0 := cell_of_block hb2 0; have y1 := cell_of_block hb2 1; have y3 := cell_of_block hb2 3; have y4 := cell_of_block hb2 4; clear q hb1 hb2))
    | fail)
  go_ret
  exact ⟨rfl, (((Q.refl w).alloc _).alloc _).trans Q2.out⟩

set_option maxRecDepth 100000 in
set_option maxHeartbeats 400000 in
theorem left_mid (w : World) (p : PP) (k : Nat) (x : PI) (hp : p.ok w) (hx : p.ins[k]? = some x) (fb : Option Int) (a : Int) (h1 : 17 ≤ x.op) (h2 : x.op ≤ 20) (hA : KnC w p x x.a k (some a)) (hB : KnC w p x x.b k fb) : Calls Try.prog 20 #[ptV p, .int .i64 (k : Int)] w fun e w' => e = .returned (.bool true) ∧ Q w w' := by
  obtain ⟨ib, io, eia, hat⟩ := hp.ins k x hx
  obtain ⟨c0, c1, c2, c3, c4, c5, c6⟩ := hat.1.seven
  have d0 := fun ob => cell_keep ((Q.refl w).alloc ob) c0
  have d1 := fun ob => cell_keep ((Q.refl w).alloc ob) c1
  have d2 := fun ob => cell_keep ((Q.refl w).alloc ob) c2
  have d3 := fun ob => cell_keep ((Q.refl w).alloc ob) c3
  have d4 := fun ob => cell_keep ((Q.refl w).alloc ob) c4
  have d5 := fun ob => cell_keep ((Q.refl w).alloc ob) c5
  have d6 := fun ob => cell_keep ((Q.refl w).alloc ob) c6
  have hlen : p.ins.length ≤ 9223372036854775807 := hp.sok.len
  have hkl : (k : Int) < (p.ins.length : Int) := by have := (List.getElem?_eq_some_iff.1 hx).1; omega
  obtain ⟨o1, o2⟩ := hat.2.op
  obtain ⟨t1, t2⟩ := hat.2.ty
  have wo : IntKind.i64.wrap x.op = x.op := by simp [IntKind.wrap, IntKind.bits, IntKind.signed]; omega
  have wt : IntKind.i64.wrap x.ty = x.ty := by simp [IntKind.wrap, IntKind.bits, IntKind.signed]; omega
  have n25 : (x.op != 25) = true := by simp; omega
  have n21 : (x.op != 21) = true := by simp; omega
  have PB := hideIt (fun X (h : Q (bxI w p x) X) => bxI_p h)
  have XB := hideIt (fun X (h : Q (bxI w p x) X) => bxI_x h)
  have CA := hideIt hA
  have CB := hideIt hB
  clear hA hB hat c0 c1 c2 c3 c4 c5 c6 hx hp
  unfold KnC at CA CB
  dsimp only [Option.getD, Option.isSome] at CA
  generalize fb.getD 0 = fv at CB
  generalize fb.isSome = fs at CB
  obtain ⟨ins, pe, cond, next, els, ia, ic⟩ := p
  dsimp only at *
  subst eia
  go_enter Try.func20, Try.ntmps20
  go_wp2_with (first
    | (go_at_call 42; first
        | (have hh := Q1; clear hh; refine Calls.mono (CB.out z1 Q1.out) ?_; rintro e z2 ⟨rfl, q⟩; have Q2 := hideIt (Q1.out.trans q); clear q b0 b1 b2 b3 b4 y0 y1 y3 y4; have hb2 := XB.out z2 Q2.out; have y0 := cell_of_block hb2 0; have y1 := cell_of_block hb2 1; clear hb2)
        | (refine Calls.mono (CA.out _ (Q.refl _)) ?_; rintro e z1 ⟨rfl, q⟩; have Q1 := hideIt q; have hb1 := PB.out z1 q; have b0 := cell_of_block hb1 0; have b1 := cell_of_block hb1 1; have b2 := cell_of_block hb1 2; have b3 := cell_of_block hb1 3; have b4 := cell_of_block hb1 4; have hb2 := XB.out z1 q; have y0 := cell_of_block hb2 0; have y1 := cell_of_block hb2 1; have y3 := cell_of_block hb2 3; have y4 := cell_of_block hb2 4; clear q hb1 hb2))
    | fail)
  go_ret
  exact ⟨rfl, (((Q.refl w).alloc _).alloc _).trans Q2.out⟩

set_option maxRecDepth 100000 in
set_option maxHeartbeats 400000 in
theorem left_high (w : World) (p : PP) (k : Nat) (x : PI) (hp : p.ok w) (hx : p.ins[k]? = some x) (fb : Option Int) (a : Int) (h1 : 26 ≤ x.op) (hA : KnC w p x x.a k (some a)) (hB : KnC w p x x.b k fb) : Calls Try.prog 20 #[ptV p, .int .i64 (k : Int)] w fun e w' => e = .returned (.bool true) ∧ Q w w' := by
  obtain ⟨ib, io, eia, hat⟩ := hp.ins k x hx
  obtain ⟨c0, c1, c2, c3, c4, c5, c6⟩ := hat.1.seven
  have d0 := fun ob => cell_keep ((Q.refl w).alloc ob) c0
  have d1 := fun ob => cell_keep ((Q.refl w).alloc ob) c1
  have d2 := fun ob => cell_keep ((Q.refl w).alloc ob) c2
  have d3 := fun ob => cell_keep ((Q.refl w).alloc ob) c3
  have d4 := fun ob => cell_keep ((Q.refl w).alloc ob) c4
  have d5 := fun ob => cell_keep ((Q.refl w).alloc ob) c5
  have d6 := fun ob => cell_keep ((Q.refl w).alloc ob) c6
  have hlen : p.ins.length ≤ 9223372036854775807 := hp.sok.len
  have hkl : (k : Int) < (p.ins.length : Int) := by have := (List.getElem?_eq_some_iff.1 hx).1; omega
  obtain ⟨o1, o2⟩ := hat.2.op
  obtain ⟨t1, t2⟩ := hat.2.ty
  have wo : IntKind.i64.wrap x.op = x.op := by simp [IntKind.wrap, IntKind.bits, IntKind.signed]; omega
  have wt : IntKind.i64.wrap x.ty = x.ty := by simp [IntKind.wrap, IntKind.bits, IntKind.signed]; omega
  have n25 : (x.op != 25) = true := by simp; omega
  have n21 : (x.op != 21) = true := by simp; omega
  have PB := hideIt (fun X (h : Q (bxI w p x) X) => bxI_p h)
  have XB := hideIt (fun X (h : Q (bxI w p x) X) => bxI_x h)
  have CA := hideIt hA
  have CB := hideIt hB
  clear hA hB hat c0 c1 c2 c3 c4 c5 c6 hx hp
  unfold KnC at CA CB
  dsimp only [Option.getD, Option.isSome] at CA
  generalize fb.getD 0 = fv at CB
  generalize fb.isSome = fs at CB
  obtain ⟨ins, pe, cond, next, els, ia, ic⟩ := p
  dsimp only at *
  subst eia
  go_enter Try.func20, Try.ntmps20
  go_wp2_with (first
    | (go_at_call 42; first
        | (have hh := Q1; clear hh; refine Calls.mono (CB.out z1 Q1.out) ?_; rintro e z2 ⟨rfl, q⟩; have Q2 := hideIt (Q1.out.trans q); clear q b0 b1 b2 b3 b4 y0 y1 y3 y4; have hb2 := XB.out z2 Q2.out; have y0 := cell_of_block hb2 0; have y1 := cell_of_block hb2 1; clear hb2)
        | (refine Calls.mono (CA.out _ (Q.refl _)) ?_; rintro e z1 ⟨rfl, q⟩; have Q1 := hideIt q; have hb1 := PB.out z1 q; have b0 := cell_of_block hb1 0; have b1 := cell_of_block hb1 1; have b2 := cell_of_block hb1 2; have b3 := cell_of_block hb1 3; have b4 := cell_of_block hb1 4; have hb2 := XB.out z1 q; have y0 := cell_of_block hb2 0; have y1 := cell_of_block hb2 1; have y3 := cell_of_block hb2 3; have y4 := cell_of_block hb2 4; clear q hb1 hb2))
    | fail)
  go_ret
  exact ⟨rfl, (((Q.refl w).alloc _).alloc _).trans Q2.out⟩

theorem left_any (w : World) (p : PP) (k : Nat) (x : PI) (hp : p.ok w) (hx : p.ins[k]? = some x) (hl : Left (kf p.ins k) x) : Calls Try.prog 20 #[ptV p, .int .i64 (k : Int)] w fun e w' => e = .returned (.bool true) ∧ Q w w' := by
  have hk : k ≤ p.ins.length := Nat.le_of_lt (List.getElem?_eq_some_iff.1 hx).1
  have hA : KnC w p x x.a k (kf p.ins k x.a) := knc hp hk
  have hB : KnC w p x x.b k (kf p.ins k x.b) := knc hp hk
  by_cases h : 1 ≤ x.op ∧ x.op ≤ 16
  · cases ha : kf p.ins k x.a with
    | none => rw [ha] at hA; exact left_no w p k x hp hx _ h.1 h.2 hA hB
    | some a =>
      rw [ha] at hA
      cases hb : kf p.ins k x.b with
      | none => rw [hb] at hB; exact left_one w p k x hp hx none a h.1 h.2 hA hB
      | some b => rw [hb] at hB; exact left_two w p k x hp hx none a b h.1 h.2 (hl.two a b h.1 h.2 ha hb) hA hB
  · cases ha : kf p.ins k x.a with
    | none => rw [ha] at hA; exact left_none w p k x hp hx _ (by omega) hA hB
    | some a =>
      rw [ha] at hA
      have h' : x.op < 1 ∨ (17 ≤ x.op ∧ x.op ≤ 20) ∨ x.op = 21 ∨ x.op = 22 ∨ x.op = 23 ∨ x.op = 24 ∨ x.op = 25 ∨ 26 ≤ x.op := by omega
      rcases h' with h' | h' | h' | h' | h' | h' | h' | h'
      · exact left_low w p k x hp hx _ a h' hA hB
      · exact left_mid w p k x hp hx _ a h'.1 h'.2 hA hB
      · exact (hl.one a (.inl h') ha).elim
      · exact left_un22 w p k x hp hx _ a h' (by have := hl.un a (.inl h') ha; rw [h'] at this; exact this) hA hB
      · exact left_un23 w p k x hp hx _ a h' (by have := hl.un a (.inr (.inl h')) ha; rw [h'] at this; exact this) hA hB
      · exact left_un24 w p k x hp hx _ a h' (by have := hl.un a (.inr (.inr h')) ha; rw [h'] at this; exact this) hA hB
      · exact (hl.one a (.inr h') ha).elim
      · exact left_high w p k x hp hx _ a h' hA hB

end Go.Proofs.Ytaomkfhbnakbjaa.Fo
