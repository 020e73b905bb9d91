/-
  live.After: what it tells of each instruction of a part: contracts over the program.
-/
import Derived.Test.YtdiidmmmemmjjaaDoorKLvZx
import Derived.Sort.LoopGhostIn
import Derived.Sort.CutIn
namespace Go.Proofs.YtdiidmmmemmjjaaDoor.Lv
open Go.RowKit Go.Deep Go.Shelf
set_option linter.unusedVariables false
attribute [local go_sem] Oper.semAt_some

def remF (x : PI) (p : Int → Bool) : Int → Bool := if wrP x.op then (fun q => p q && !decide (q = x.dst)) else p
def addsF (l : List Int) (p : Int → Bool) : Int → Bool := l.foldl (fun p r => fun q => p q || decide (q = r)) p
theorem addsF_snoc (l : List Int) (r : Int) (p : Int → Bool) : addsF (l ++ [r]) p = fun q => addsF l p q || decide (q = r) := by simp [addsF]
def stF {zs : List PI} (s : (Nat → Option (Int → Bool)) × (Int → Bool)) (x : NI zs) : (Nat → Option (Int → Bool)) × (Int → Bool) :=
  (fun j => if j = x.1.1 then some s.2 else s.1 j, addsF (usesP x.1.2) (remF x.1.2 s.2))
def runF {zs : List PI} (p0 : Int → Bool) (pre : List (NI zs)) : (Nat → Option (Int → Bool)) × (Int → Bool) := pre.foldl stF (fun _ => none, p0)
theorem runF_snoc {zs : List PI} (p0 : Int → Bool) (pre : List (NI zs)) (x : NI zs) : runF p0 (pre ++ [x]) = stF (runF p0 pre) x := by simp [runF]
def cdF (p : PP) (p0 : Int → Bool) : Int → Bool := if 0 ≤ p.cond then (fun q => p0 q || decide (q = p.cond)) else p0

def AI {zs : List PI} (n₀ bN bl bL Bs Bd : Nat) (w : World) (p0 : Int → Bool) (pre : List (NI zs)) (W : World) : Prop :=
  ∃ v L, LI n₀ bN bl bL zs.length w (runF p0 pre).1 (runF p0 pre).2 v L W ∧ v.ownBlock ≠ some Bs ∧ Bd ≤ W.heap.size
def AX {zs : List PI} (Bd : Nat) (f : NI zs → Nat → Array Value) (x : NI zs) (a' : Act) (W : World) : Prop :=
  ∃ Bx, Bd ≤ Bx ∧ W.heap[Bx]? = some (.cells x.1.2.cells.toArray 57 (0, 0)) ∧ a' = { tmps := f x Bx, defers := [] }
theorem AI.own {zs : List PI} {n₀ bN bl bL Bs Bd B : Nat} (hB : n₀ ≤ B) {w : World} {p0 : Int → Bool} : OwnFrom B (AI (zs := zs) n₀ bN bl bL Bs Bd w p0) := fun pre W W' row h hg hr => by
  obtain ⟨v, L, h1, h2, h3⟩ := h
  exact ⟨v, L, h1.from hB hg hr, h2, Nat.le_trans h3 hg.size⟩
theorem AX.own {zs : List PI} {Bd B : Nat} {f : NI zs → Nat → Array Value} (x : NI zs) (a' : Act) : OwnFrom B (fun (_ : Unit) W => AX Bd f x a' W) := fun _ W W' row h hg hr => by
  obtain ⟨Bx, h1, h2, h3⟩ := h
  refine ⟨Bx, h1, (hg.block Bx (Array.getElem?_eq_some_iff.1 h2).1 (fun e => ?_)).trans h2, h3⟩
  obtain ⟨-, o, h4, h5⟩ := hr Bx e.symm
  rw [h2] at h4; cases h4; cases h5

theorem uses_len {w : World} {x : PI} (hxo : x.ok w) : (usesP x).length ≤ 9223372036854775807 := by
  unfold usesP
  split
  · exact hxo.sok.len
  · rw [List.length_take]; simp only [List.length_cons, List.length_nil]; omega
theorem wrap_succ {j ul : Nat} (h : j < ul) (hu : ul ≤ 9223372036854775807) : wrap64 ((j : Int) + 1) = (j : Int) + 1 := by unfold wrap64; omega

theorem meas5 {j ul : Nat} (h : j < ul) : ul - (intOf (.int .i64 ((j : Int) + 1))).toNat < ul - (intOf (.int .i64 (j : Int))).toNat := by
  show ul - ((j : Int) + 1).toNat < ul - (j : Int).toNat
  omega
theorem adds_next {us : List Int} {j : Nat} {z : Int} (hz : us[j]? = some z) {h p0 : Int → Bool} (hh : ∀ r, h r = addsF (us.take j) p0 r) : (fun q => h q || decide (q = z)) = addsF (us.take (j + 1)) p0 := by
  have e6 : us.take (j + 1) = us.take j ++ [z] := by rw [List.take_add_one, hz]; rfl
  rw [e6, addsF_snoc]
  funext q
  rw [hh q]
theorem RO.cast {n₀ bN bl bL len : Nat} {w : World} {X : List (Nat × Obj)} {W : World} {T : Nat → Option (Int → Bool)} {p p' : Int → Bool} {v : Value} {L : List (Int × Int)} {W' : World} (h : RO n₀ bN bl bL len w X W T p v L W') (e : p = p') : RO n₀ bN bl bL len w X W T p' v L W' := e ▸ h

set_option maxRecDepth 100000 in
set_option maxHeartbeats 1000000 in
theorem after_any (w : World) (p : PP) (hp : p.ok w) (v0 : Value) (L0 : List (Int × Int)) (hv : Wds w v0 L0) (hu : Up L0) (hb0 : ∀ x ∈ L0, x.1 ≤ 1000) (hcd : p.cond ≤ 64000) (hn60 : p.ins.length ≤ 1000000)
    (hf : ∀ x ∈ p.ins, (wrP x.op = true → 0 ≤ x.dst ∧ x.dst ≤ 64000) ∧ ∀ u ∈ usesP x, 0 ≤ u ∧ u ≤ 64000) :
    Calls Tryd.prog 14 #[p.v, .agg #[v0]] w fun e w' => ∃ bl, e = .returned (.slice (some ⟨bl, 0, none⟩) p.ins.length p.ins.length) ∧ Q w w' ∧ ∃ bN bL v, ∀ j, j < p.ins.length → ∃ u, w'.cell? ⟨bl, j, none⟩ = some u ∧ ∀ F, (runF (zs := p.ins) (cdF p (hasB L0)) (bw p.ins p.ins.length)).1 j = some F → ToldS w.heap.size bN bl bL v w' u F := by
  refine (callsIn_wide (n := 12)).1 ?_
  obtain ⟨n, hn⟩ : ∃ n, p.ins.length = n := ⟨_, rfl⟩
  have hreach : p.ins.length * 64 ≤ 140737488351232 := by have := hp.sok; unfold sok at this; omega
  obtain ⟨w1, hw1⟩ : ∃ w1, (w.alloc (.cells #[.slice p.ia n p.ic, .bool p.e, .int .i64 p.cond, .int .i64 p.next, .int .i64 p.els] 49)).alloc (.cells #[v0] 43) = w1 := ⟨_, rfl⟩
  have QW1 : Hid (Q w w1) := by rw [← hw1]; exact ((Q.refl w).alloc _).alloc _
  have z1 : w1.heap.size = w.heap.size + 2 := by rw [← hw1]; simp
  have HP1 : Hid (w1.heap[w.heap.size]? = some (.cells #[.slice p.ia n p.ic, .bool p.e, .int .i64 p.cond, .int .i64 p.next, .int .i64 p.els] 49 (0, 0))) := by
    rw [← hw1]; exact (Below.heap_alloc _ _ _ (by simp)).trans (World.alloc_heap_new w _)
  have c0 : w1.cell? ⟨w.heap.size, 0, none⟩ = some (.slice p.ia n p.ic) := by simp [World.cell?, HP1.out]
  have c2 : w1.cell? ⟨w.heap.size, 2, none⟩ = some (.int .i64 p.cond) := by simp [World.cell?, HP1.out]
  have cO : w1.cell? ⟨w.heap.size + 1, 0, none⟩ = some v0 := by
    rw [← hw1]; have := Boxed.new (w.alloc (.cells #[.slice p.ia n p.ic, .bool p.e, .int .i64 p.cond, .int .i64 p.next, .int .i64 p.els] 49)) 43 v0
    rw [World.size_alloc] at this; exact this.cell
  have hmk := make_set n (by omega) w1
  have HC := hideIt (fun y (q : Q w y) => clone_any y v0 L0 (hv.keep q))
  refine callsIn_of_wp_marks Tryd.func14 rfl trivial ?_ rfl
  simp only [Tryd.ntmps14, List.size_toArray, List.length_cons, List.length_nil, Nat.reduceAdd, Nat.reduceSub, Array.replicate_succ, Array.replicate_zero, List.push_toArray, List.append_toArray, List.nil_append, List.cons_append]
  dsimp only [PP.v]
  rw [hn]
  gi_upto_region 2 with fail
  obtain ⟨w2, hw2⟩ : ∃ w2, (w1.alloc (.cells (Array.replicate n (.slice none 0 0)) 43)).alloc (.cells #[.slice (some ⟨w.heap.size + 2, 0, none⟩) n n] 29) = w2 := ⟨_, rfl⟩
  have QW2 : Hid (Q w w2) := by rw [← hw2]; exact (QW1.out.alloc _).alloc _
  have z2 : w2.heap.size = w.heap.size + 4 := by rw [← hw2]; simp [z1]
  have b12 : ∀ k, k < w1.heap.size → w2.heap[k]? = w1.heap[k]? := fun k hk => by
    rw [← hw2]; exact (Below.heap_alloc _ _ _ (by simp; omega)).trans (Below.heap_alloc _ _ _ hk)
  have HP2 : Hid (w2.heap[w.heap.size]? = some (.cells #[.slice p.ia n p.ic, .bool p.e, .int .i64 p.cond, .int .i64 p.next, .int .i64 p.els] 49 (0, 0))) := (b12 _ (by omega)).trans HP1.out
  have d2 : w2.cell? ⟨w.heap.size, 2, none⟩ = some (.int .i64 p.cond) := by simp [World.cell?, HP2.out]
  have dO : w2.cell? ⟨w.heap.size + 1, 0, none⟩ = some v0 := (World.cell?_of_block (w := w1) (b12 _ (by show w.heap.size + 1 < _; omega))).trans cO
  have HL2 : Hid (w2.heap[w.heap.size + 2 + 1]? = some (.cells #[.slice (some ⟨w.heap.size + 2, 0, none⟩) n n] 29 (0, 0))) := by
    rw [← hw2]
    have := World.alloc_heap_new (w1.alloc (.cells (Array.replicate n (.slice none 0 0)) 43)) (.cells #[.slice (some ⟨w.heap.size + 2, 0, none⟩) n n] 29)
    rwa [World.size_alloc, z1] at this
  have HR2 : Hid (w2.heap[w.heap.size + 2]? = some (.cells (Array.replicate n (.slice none 0 0)) 43 (0, 0))) := by
    rw [← hw2]
    refine (Below.heap_alloc _ _ _ (by simp; omega)).trans ?_
    have := World.alloc_heap_new w1 (.cells (Array.replicate n (.slice none 0 0)) 43)
    rwa [z1] at this
  rw [hw2]
  clear hw2 b12 HP1 c0 c2 cO hmk z1 QW1 hw1 w1
  gi_upto_if 19 with (first | (refine ⟨trivial, ?_⟩; gi_at_call 29; refine CallsIn.mono (callsIn_wide.2 (HC.out w2 QW2.out)) ?_; rintro e y ⟨v1, rfl, qy, oy⟩; obtain ⟨a1, m1, rfl⟩ := own_form oy; have e2 : (y.alloc (.cells #[.slice a1 L0.length m1] 43)).cell? ⟨w.heap.size, 2, none⟩ = some (.int .i64 p.cond) := cell_keep (qy.alloc _) d2) | fail)
  obtain ⟨w3, hw3⟩ : ∃ w3, y.alloc (.cells #[.slice a1 L0.length m1] 43) = w3 := ⟨_, rfl⟩
  have sy := qy.size
  have QW3 : Hid (Q w2 w3) := by rw [← hw3]; exact qy.alloc _
  have hbN := Boxed.new y 43 (.slice a1 L0.length m1)
  rw [hw3] at hbN e2 ⊢
  have z3 : w3.heap.size = y.heap.size + 1 := by rw [← hw3]; simp
  have k3 : ∀ {k : Nat} {o : Obj}, w2.heap[k]? = some o → w3.heap[k]? = some o := fun {k o} e => (QW3.out.block k (Array.getElem?_eq_some_iff.1 e).1).trans e
  have hown : ∀ g, (Value.slice a1 L0.length m1).ownBlock = some g → w2.heap.size ≤ g ∧ g < y.heap.size := fun g hg => ⟨(own_at oy hg).1, (own_at oy hg).2.1⟩
  have hLI : LI w.heap.size y.heap.size (w.heap.size + 2) (w.heap.size + 2 + 1) n w (fun _ => none) (hasB L0) (.slice a1 L0.length m1) L0 w3 := by
    have hR := k3 HR2.out
    refine ⟨QW2.out.trans QW3.out, by simp [World.cell?, k3 HL2.out], ⟨hbN.cell, hbN.frozen, row_q (own_base (by omega) oy) (fun g hg => ?_), fun e => ?_, hu, hb0, by omega⟩, fun _ => rfl, fun e => ?_, fun e => ?_, fun i => by simp [World.frozen?, hR], ⟨_, hR, rfl⟩, fun j hj => ⟨.slice none 0 0, by simp [World.cell?, hR, hj], fun F hF => by cases hF⟩⟩
    · rw [← hw3]; exact Below.heap_alloc _ _ _ (hown g hg).2
    · have := (hown _ e).2; omega
    · have := (hown _ e).1; omega
    · have := (hown _ e).1; omega
  have HLI := hideIt hLI
  have HPW : Hid (w3.heap[w.heap.size]? = some (.cells #[.slice p.ia n p.ic, .bool p.e, .int .i64 p.cond, .int .i64 p.next, .int .i64 p.els] 49 (0, 0))) := k3 HP2.out
  have HOW : Hid ((Value.slice a1 L0.length m1).ownBlock ≠ some w.heap.size) := fun e => by have := (hown _ e).1; omega
  obtain ⟨bN, hbn⟩ : ∃ bN, y.heap.size = bN := ⟨_, rfl⟩
  have hN : w.heap.size + 4 ≤ bN := by omega
  rw [hbn] at HLI hbN ⊢
  rw [hbn] at z3
  clear hLI hown k3 hw3 qy oy d2 dO HP2 HL2 HR2 QW2 QW3 hv HC hbn z2 sy
  gi_cut [] from 18 (fun W => ∃ v L, Hid (LI w.heap.size bN (w.heap.size + 2) (w.heap.size + 2 + 1) n w (fun _ => none) (cdF p (hasB L0)) v L W) ∧ Hid (W.heap[w.heap.size]? = some (.cells #[.slice p.ia n p.ic, .bool p.e, .int .i64 p.cond, .int .i64 p.next, .int .i64 p.els] 49 (0, 0))) ∧ Hid (bN < W.heap.size))
  case first =>
    have HO := HLI.out
    by_cases hc : 0 ≤ p.cond
    · obtain ⟨cn, hcn⟩ : ∃ cn : Nat, p.cond = (cn : Int) := ⟨p.cond.toNat, by omega⟩
      have HA := hideIt (add_any w3 w.heap.size bN _ L0 cn (by omega) HO.st)
      rw [← hcn] at HA
      have hcdF : cdF p (hasB L0) = fun q => hasB L0 q || decide (q = p.cond) := by unfold cdF; rw [if_pos hc]
      clear hcn
      gi_wp2_with (first | (refine ⟨trivial, ?_⟩; gi_at_call 30; refine CallsIn.mono (callsIn_wide.2 HA.out) ?_; rintro e y2 ⟨rfl, sp⟩) | fail)
      gi_meet
      obtain ⟨v', L', i1, i2, i3, i4⟩ := HO.stp (by omega) (by omega) (by omega) sp
      exact ⟨v', L', by rw [hcdF]; exact i1, (i2.block _ (by omega) (by omega) HOW.out).trans HPW.out, by have := i2.size; show bN < y2.heap.size; omega⟩
    · have hcdF : cdF p (hasB L0) = hasB L0 := by unfold cdF; rw [if_neg hc]
      gi_wp2_with fail
      gi_meet
      exact ⟨_, _, by rw [hcdF]; exact HO, HPW.out, by show bN < w3.heap.size; omega⟩
  case rest =>
    obtain ⟨v, L, HI, HP, HS⟩ := hcut
    have c0 : wc.cell? ⟨w.heap.size, 0, none⟩ = some (.slice p.ia n p.ic) := by simp [World.cell?, HP.out]
    gi_wp2_with (first | (refine ⟨trivial, ?_⟩; gi_at_call 31; refine CallsIn.mono (backward_in Fence.wide _ trivial rfl _ _ _ _) ?_; rintro e y ⟨rfl, rfl⟩) | fail)
    have bS := Boxed.new wc 47 (.slice p.ia n p.ic)
    have HI0 := hideIt (HI.out.keep ((Q.refl wc).alloc (.cells #[.slice p.ia n p.ic] 47)))
    have hz : (wc.alloc (.cells #[.slice p.ia n p.ic] 47)).heap.size = wc.heap.size + 1 := by simp
    have hlw : w.heap.size < wc.heap.size := by have := HS.out; omega
    obtain ⟨Bs, hBs⟩ : ∃ Bs, wc.heap.size = Bs := ⟨_, rfl⟩
    obtain ⟨W0, hW0⟩ : ∃ W0, wc.alloc (.cells #[.slice p.ia n p.ic] 47) = W0 := ⟨_, rfl⟩
    rw [hBs] at bS hz hlw ⊢
    rw [hW0] at bS HI0 hz ⊢
    have hNs : bN < wc.heap.size := HS.out
    rw [hBs] at hNs
    have hvs : v.ownBlock ≠ some Bs := fun e => by have := (own_at HI.out.st.own e).2.1; omega
    clear hW0 hBs c0
    have hI00 : AI (zs := p.ins) w.heap.size bN (w.heap.size + 2) (w.heap.size + 2 + 1) Bs W0.heap.size w (cdF p (hasB L0)) [] W0 := ⟨v, L, by rw [hn]; exact HI0.out, hvs, Nat.le_refl _⟩
    refine wpIn_rangeFunc_ownH (F := Fence.wide) rfl (by omega) (gf := 51) (lb := #[.pointer (some ⟨Bs, 0, none⟩)]) rfl trivial (enters_of Tryd.func51 (by kernel_rfl) rfl)
      (back_stops Fence.wide _ trivial rfl (by omega) Bs w.heap.size p.ia p.ic p.ins hreach W0 (by omega) (by omega) (by rw [hn]; exact bS.cell) ?pc)
      (fun h k => KB.trans h k) (KB.b (by omega) (by omega)) (Below.refl _ _) (fun _ => rfl)
      (AI (zs := p.ins) w.heap.size bN (w.heap.size + 2) (w.heap.size + 2 + 1) Bs W0.heap.size w (cdF p (hasB L0)))
      (fun _ _ _ => False) (AI.own (by omega)) (fun _ _ _ _ _ hs _ _ => hs) hI00
      (AX W0.heap.size (fun x Bx => #[.agg #[.slice p.ia n p.ic, .bool p.e, .int .i64 p.cond, .int .i64 p.next, .int .i64 p.els], .agg #[v0], .pointer (some ⟨w.heap.size, 0, none⟩), .pointer (some ⟨w.heap.size + 1, 0, none⟩), .slice none 0 0, .pointer (some ⟨w.heap.size + 2 + 1, 0, none⟩), .pointer (some ⟨bN, 0, none⟩), .int .i64 (x.1.1 : Int), .pointer (some ⟨Bx, 0, none⟩), undef, undef, .pointer (some ⟨w.heap.size, 0, none⟩), .slice p.ia n p.ic, .int .i64 (n : Int), .slice (some ⟨w.heap.size + 2, 0, none⟩) n n, .agg #[v0], .agg #[.slice a1 L0.length m1], .pointer (some ⟨w.heap.size, 2, none⟩), u18, u19, u20, u21, u22, .pointer (some ⟨w.heap.size, 0, none⟩), .slice p.ia n p.ic, .func (.func 51) #[] #[.pointer (some ⟨Bs, 0, none⟩)], .int .i64 (x.1.1 : Int), x.1.2.v, u28, u29, u30, u31, u32, u33, u34, u35, u36, u37, u38, u39, u40, u41, u42, u43, u44, u45, u46, u47, u48]))
      (fun x a' => AX.own x a') ?assign ?body ?done ?stop
    case pc =>
      intro k x e
      obtain ⟨g, o, e1, h1⟩ := hp.ins k x e
      exact ⟨g, o, e1, World.block_lt_of_cell? w _ h1.1.seven.1, (h1.keep HI0.out.q).1⟩
    case assign =>
      rintro l pre x W K ⟨v1, L1, i1, i2, i3⟩ hK
      rcases x with ⟨⟨k, x⟩, hx⟩
      dsimp only [NI.enc, PI.v]
      gi_wp2
      have qa : Q W (W.alloc (.cells #[.int .u8 x.op, .int .u8 x.ty, .int .i64 x.dst, .int .i64 x.a, .int .i64 x.b, .int .i64 x.imm, .slice x.aa x.args.length x.ac] 57)) := (Q.refl W).alloc _
      exact hK _ _ ((KeepsOthers.alloc _ _).from _) ⟨qa.mono i1.st.bb, qa.block _ (by omega)⟩ ⟨v1, L1, i1.keep qa, i2, Nat.le_trans i3 qa.size⟩ ⟨W.heap.size, i3, World.alloc_heap_new W _, rfl⟩
    case body =>
      rintro l pre x a' W hl ⟨r, hr⟩ ⟨v1, L1, i1, i2, i3⟩ ⟨Bx, hBx, bX, rfl⟩ hlt
      rcases x with ⟨⟨k, x⟩, hx⟩
      dsimp only at hx bX ⊢
      have hkn' : k < p.ins.length := (List.getElem?_eq_some_iff.1 hx).1
      have hkn : (k : Int) < (n : Int) := by omega
      obtain ⟨hfd, hfu⟩ := hf x (List.mem_of_getElem? hx)
      have hxo : x.ok w := by obtain ⟨g, o, -, h1⟩ := hp.ins k x hx; exact h1.2
      obtain ⟨a2, m2, rfl⟩ := own_form i1.st.own
      have hst := runF_snoc (cdF p (hasB L0)) pre ⟨(k, x), hx⟩
      obtain ⟨T0, hT0⟩ : ∃ T0, (runF (zs := p.ins) (cdF p (hasB L0)) pre).1 = T0 := ⟨_, rfl⟩
      obtain ⟨p0, hp0⟩ : ∃ p0, (runF (zs := p.ins) (cdF p (hasB L0)) pre).2 = p0 := ⟨_, rfl⟩
      unfold stF at hst
      rw [hT0, hp0] at i1
      rw [hT0, hp0] at hst
      obtain ⟨oS, hoS⟩ : ∃ oS, W.heap[Bs]? = some oS := ⟨_, Array.getElem?_eq_getElem (by omega)⟩
      have HST := hideIt hst
      have HOS := hideIt hoS
      have HR0 : Hid (RO w.heap.size bN (w.heap.size + 2) (w.heap.size + 2 + 1) p.ins.length w [(Bs, oS), (Bx, .cells x.cells.toArray 57 (0, 0))] W T0 p0 (.slice a2 L1.length m2) L1 W) := by
        refine ⟨i1, fun b hb => ?_, Below.refl _ _, fun B => KeepsFrom.refl _ _⟩
        rcases List.mem_cons.1 hb with rfl | hb
        · exact ⟨hoS, i2, by dsimp only; omega, by dsimp only; omega⟩
        · rcases List.mem_cons.1 hb with rfl | hb
          · refine ⟨bX, fun e => ?_, by dsimp only; omega, by dsimp only; omega⟩
            obtain ⟨-, ⟨e1, -⟩ | ⟨g, cap, cur, e1, -, e2, -⟩⟩ := i1.st.own
            · rw [e1] at e; simp [Value.ownBlock] at e
            · rw [e1] at e; simp [Value.ownBlock] at e
              subst e
              rw [bX] at e2
              cases e2
          · simp at hb
      have HC8 := hideIt (fun y (q : Q W y) => clone_any y (.slice a2 L1.length m2) L1 (own_wds (by have := i1.st.len; omega) (row_q i1.st.own (fun g hg => q.block g (own_at i1.st.own hg).2.1))))
      obtain ⟨u, hu1, -⟩ := i1.row k hkn'
      have HF : Hid (∀ y, Q W y → y.cell? ⟨w.heap.size + 2 + 1, 0, none⟩ = some (.slice (some ⟨w.heap.size + 2, 0, none⟩) n n) ∧ y.cell? ⟨bN, 0, none⟩ = some (.slice a2 L1.length m2) ∧ y.frozen? ⟨w.heap.size + 2, k, none⟩ = false ∧ y.cell? ⟨w.heap.size + 2, k, none⟩ = some u) := by
        intro y q
        have k1 := i1.keep q
        exact ⟨by rw [← hn]; exact k1.lb, k1.st.cell, k1.fz k, cell_keep q hu1⟩
      have HE : Hid (∀ (y W' : World) (s : Nat) (v2 : Value), Q W y → W.heap.size ≤ s → y.ownsRow s 80 2 v2 L1.length (wdC L1) → W'.heap = (y.setCell ⟨w.heap.size + 2, k, none⟩ v2).heap → W'.os = y.os → W'.tape = y.tape → W'.output = y.output →
          RO w.heap.size bN (w.heap.size + 2) (w.heap.size + 2 + 1) p.ins.length w [(Bs, oS), (Bx, .cells x.cells.toArray 57 (0, 0))] W (fun j => if j = k then some p0 else T0 j) p0 (.slice a2 L1.length m2) L1 W') := fun y W' s v2 q hs ho e1 e2 e3 e4 =>
        HR0.out.tell (by omega) (by omega) (by omega) q hs ho hkn' e1 e2 e3 e4
      have hd1 : 1 ≤ 12 - 1 - 1 := by omega
      have hmx : Tryd.prog.follows .mixedOrders = true := by kernel_rfl
      have HWB : Hid (∃ wb, wrP x.op = wb) := ⟨_, rfl⟩
      clear hst i1 i2 hoS bX hu1
      gi_upto_region 8 with fail
      gi_cut [] from 28 (fun W' => Hid (RO w.heap.size bN (w.heap.size + 2) (w.heap.size + 2 + 1) p.ins.length w [(Bs, oS), (Bx, .cells x.cells.toArray 57 (0, 0))] W (fun j => if j = k then some p0 else T0 j) p0 (.slice a2 L1.length m2) L1 W'))
      case first =>
        obtain ⟨c1, c2, c3, c4⟩ := HF.out W (Q.refl W)
        gi_region_with_o (first | (refine ⟨trivial, ?_⟩; gi_at_call 29; refine CallsIn.mono (CallsIn.inRound l (callsIn_wide.2 (HC8.out _ (by first | exact Q.refl _ | exact (Q.refl _).drew | exact (Q.refl _).drewN _)))) ?_; rintro e y ⟨v2, rfl, qy, oy⟩; have QY : Hid (Q W y) := (by first | exact qy | exact (Q.refl W).drew.trans qy | exact ((Q.refl W).drewN _).trans qy); obtain ⟨a3, m3, rfl⟩ := own_form oy; obtain ⟨d1, d2, d3, d4⟩ := HF.out y QY.out; have OY := hideIt oy; clear qy oy) | fail)
        all_goals gi_wp2_with (fail)
        all_goals gi_meet
        all_goals exact HE.out y _ _ _ QY.out (Nat.le_refl _) OY.out rfl rfl rfl rfl
      case rest =>
        generalize wc = W1 at *
        have HR1 := hcut
        clear hcut HE HF HC8 HR0
        obtain ⟨wb, hwb⟩ := HWB.out
        have HCX : Hid (∀ (W2 : World) (T : Nat → Option (Int → Bool)) (q : Int → Bool) (v : Value) (L : List (Int × Int)), RO w.heap.size bN (w.heap.size + 2) (w.heap.size + 2 + 1) p.ins.length w [(Bs, oS), (Bx, .cells x.cells.toArray 57 (0, 0))] W T q v L W2 →
            W2.cell? ⟨Bx, 0, none⟩ = some (.int .u8 x.op) ∧ W2.cell? ⟨Bx, 1, none⟩ = some (.int .u8 x.ty) ∧ W2.cell? ⟨Bx, 2, none⟩ = some (.int .i64 x.dst) ∧ W2.cell? ⟨Bx, 3, none⟩ = some (.int .i64 x.a) ∧ W2.cell? ⟨Bx, 4, none⟩ = some (.int .i64 x.b) ∧ W2.cell? ⟨Bx, 5, none⟩ = some (.int .i64 x.imm) ∧ W2.cell? ⟨Bx, 6, none⟩ = some (.slice x.aa x.args.length x.ac)) := by
          intro W2 T q v L h
          have hb := (h.ex (Bx, .cells x.cells.toArray 57 (0, 0)) (by simp)).1
          dsimp only at hb
          refine ⟨?_, ?_, ?_, ?_, ?_, ?_, ?_⟩ <;> simp [World.cell?, hb, PI.cells]
        obtain ⟨x0, x1, x2, x3, x4, x5, x6⟩ := HCX.out _ _ _ _ _ HR1.out
        have HD := hideIt (dst_any x W1)
        rw [hwb] at HD
        have HWP := hideIt hwb
        clear hwb
        dsimp only [PI.v] at HD ⊢
        gi_upto_if 34 with (first | (refine ⟨trivial, ?_⟩; gi_at_call 32; refine CallsIn.mono (CallsIn.inRound l (callsIn_wide.2 HD.out)) ?_; rintro e y ⟨rfl, qy⟩; have HR2 := hideIt (HR1.out.keep qy); clear qy) | fail)
        obtain ⟨y0, y1, y2, y3, y4, y5, y6⟩ := HCX.out _ _ _ _ _ HR2.out
        gi_cut [] from 33 (fun W' => ∃ v L, Hid (RO w.heap.size bN (w.heap.size + 2) (w.heap.size + 2 + 1) p.ins.length w [(Bs, oS), (Bx, .cells x.cells.toArray 57 (0, 0))] W (fun j => if j = k then some p0 else T0 j) (remF x p0) v L W'))
        case first =>
          cases wb with
          | true =>
            obtain ⟨e1, e2⟩ := hfd HWP.out
            obtain ⟨dn, hdn⟩ : ∃ dn : Nat, x.dst = (dn : Int) := ⟨x.dst.toNat, by omega⟩
            have HA := hideIt (remove_any y w.heap.size bN _ L1 dn (by omega) HR2.out.li.st)
            rw [← hdn] at HA
            clear hdn
            gi_wp2_with (first | (refine ⟨trivial, ?_⟩; gi_at_call 33; refine CallsIn.mono (CallsIn.inRound l (callsIn_wide.2 HA.out)) ?_; rintro e z ⟨rfl, sp⟩) | fail)
            gi_meet
            have := HR2.out.stp (by omega) (by omega) (by omega) sp
            have e3 : remF x p0 = fun q => p0 q && !decide (q = x.dst) := by unfold remF; rw [if_pos HWP.out]
            rw [e3]
            obtain ⟨v', L', h'⟩ := this
            have hh : ∀ q, hasB L1 q = p0 q := HR2.out.li.has
            simp only [hh] at h'
            exact ⟨v', L', h'⟩
          | false =>
            gi_wp2_with fail
            gi_meet
            have e3 : remF x p0 = p0 := by unfold remF; rw [if_neg (by rw [HWP.out]; simp)]
            rw [e3]
            exact ⟨_, _, HR2.out⟩
        case rest =>
          obtain ⟨v3, L3, HR3⟩ := hcut
          generalize wc = W3 at *
          clear y0 y1 y2 y3 y4 y5 y6 x0 x1 x2 x3 x4 x5 x6 HR2 HR1 HD
          obtain ⟨x0, x1, x2, x3, x4, x5, x6⟩ := HCX.out _ _ _ _ _ HR3.out
          have HU := hideIt (usesF_any x W3 (hxo.keep HR3.out.li.q))
          have hub := uses_len hxo
          obtain ⟨us, hus⟩ : ∃ us, usesP x = us := ⟨_, rfl⟩
          have HUP := hideIt hus
          rw [hus] at HU hfu hub
          clear hus
          dsimp only [PI.v] at HU ⊢
          gi_wp2_with (first | (refine ⟨trivial, ?_⟩; gi_at_call 34; refine CallsIn.mono (CallsIn.inRound l (callsIn_wide.2 HU.out)) ?_; rintro e y hg; obtain ⟨ao, uc, X', rfl, hR4, hX, hA⟩ := HR3.out.uses hg; have HR4 := hideIt hR4; have HX := hideIt hX; have HAO := hideIt hA; clear hg hR4 hX hA) | fail)
          obtain ⟨ul, hul⟩ : ∃ ul, us.length = ul := ⟨_, rfl⟩
          rw [hul] at hub
          have HUB := hideIt hub
          clear hub
          rw [hul]
          gi_loopw [41] (fun i wr => ∃ (j : Nat) (v5 : Value) (L5 : List (Int × Int)), i = .int .i64 (j : Int) ∧ j ≤ ul ∧ Hid (RO w.heap.size bN (w.heap.size + 2) (w.heap.size + 2 + 1) p.ins.length w X' W (fun j => if j = k then some p0 else T0 j) (addsF (us.take j) (remF x p0)) v5 L5 wr))
            (fun i _ => ul - (intOf i).toNat)
          case atStart => exact ⟨0, v3, L3, rfl, Nat.zero_le _, HR4.out⟩
          case round =>
            obtain ⟨j, v5, L5, rfl, hj, H5⟩ := hrel
            by_cases hlt5 : j < ul
            · obtain ⟨z, hz⟩ : ∃ z, us[j]? = some z := ⟨_, List.getElem?_eq_getElem (by omega)⟩
              obtain ⟨b, o, oA, rfl, hm, hc⟩ := HAO.out j z hz
              have cz : wr.cell? ⟨b, o + j, none⟩ = some (.int .i64 z) := hc wr (H5.out.ex (b, oA) hm).1
              obtain ⟨hz0, hz1⟩ := hfu z (List.mem_of_getElem? hz)
              obtain ⟨zn, hzn⟩ : ∃ zn : Nat, z = (zn : Int) := ⟨z.toNat, by omega⟩
              have HA := hideIt (add_any wr w.heap.size bN _ L5 zn (by omega) H5.out.li.st)
              rw [← hzn] at HA
              have HZ := hideIt hz
              clear hzn hz hc hm hul
              gi_wp2_with (first | (refine ⟨trivial, ?_⟩; gi_at_call 30; refine CallsIn.mono (CallsIn.inRound l (callsIn_wide.2 HA.out)) ?_; rintro e y5 ⟨rfl, sp⟩) | fail)
              go_roundw
              case rel =>
                obtain ⟨v6, L6, h6⟩ := H5.out.stp (by omega) (by omega) (by omega) sp
                have h7 := h6.cast (adds_next HZ.out H5.out.li.has)
                have ew := wrap_succ hlt5 HUB.out
                exact ⟨j + 1, v6, L6, by rw [ew]; simp, hlt5, hideIt h7⟩
              case measure =>
                have ew := wrap_succ hlt5 HUB.out
                rw [ew]
                exact meas5 hlt5
            · obtain rfl : j = ul := by omega
              gi_wp2_with fail
              have h5 := H5.out
              have e7 : us.take j = usesP x := by rw [← hul, List.take_length]; exact HUP.out.symm
              rw [e7] at h5
              have hbs := h5.ex (Bs, oS) (HX.out _ (by simp))
              refine ⟨h5.kf _, ⟨h5.bw, hbs.1.trans HOS.out.symm⟩, v5, L5, ?_, hbs.2.1, Nat.le_trans i3 h5.bw.size⟩
              rw [HST.out]
              exact h5.li
    case done =>
      rintro D ys W hD rfl ⟨v1, L1, i1, i2, i3⟩ hK
      have cL : W.cell? ⟨w.heap.size + 2 + 1, 0, none⟩ = some (.slice (some ⟨w.heap.size + 2, 0, none⟩) n n) := by rw [← hn]; exact i1.lb
      gi_wp2
      refine ⟨by simp, .inl ⟨_, _, rfl, run_takeDeferred hK, ?_⟩⟩
      have i4 := i1.from (B := W0.heap.size) (by omega) (grownBy_putObj' W D (.deferred none)) (fun r e => by cases e; exact ⟨hD, _, hK, rfl⟩)
      refine ⟨_, results_tmp rfl _ _ _, _, rfl, i4.q, bN, w.heap.size + 2 + 1, v1, fun j hj => ?_⟩
      have := i4.row j (by omega)
      rwa [hn] at this
    case stop =>
      rintro D c pre W _ _ h _
      exact h.elim
end Go.Proofs.YtdiidmmmemmjjaaDoor.Lv
