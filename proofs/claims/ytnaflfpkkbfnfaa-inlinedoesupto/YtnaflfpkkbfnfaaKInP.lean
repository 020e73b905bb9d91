/-
  What is read from the beginning of a part on (readFrom of inline): a contract over the program; the conditions: the part and the words lie in memory, the part's registers are some of the first twenty.
  The registers that a small function may read ahead of writing them (unset of inline): a contract over the program.
-/
import Derived.Test.YtnaflfpkkbfnfaaKInV
import Derived.Test.YtnaflfpkkbfnfaaKIrZc
import Derived.Sort.LoopGhostIn
import Derived.Sort.CutIn
import Derived.Test.YtnaflfpkkbfnfaaKDnI
import Derived.Deep.OwnRows
namespace Go.Proofs.Ytnaflfpkkbfnfaa.In
open Go.RowKit Go.Deep Go.Shelf
set_option linter.unusedVariables false
attribute [local go_sem] Oper.semAt_some

/-! ### What holds in a round: the box of now, the instruction's box, the rest unchanged -/
def AI {zs : List PI} (Bd : Nat) (w : World) (n2 : Int) (pre : List (NI zs)) (W : World) : Prop :=
  W.heap[w.heap.size]? = some (.cells #[.int .u32 (pre.foldl (fun n x => stepR n x.1.2) n2)] 93 (0, 0)) ∧ Q w W ∧ Bd ≤ W.heap.size
def AX {zs : List PI} (Bd : Nat) (f : NI zs → Nat → Array Value) (x : NI zs) (a' : Act) (W : World) : Prop :=
  ∃ Bx, Bd ≤ Bx ∧ W.heap[Bx]? = some (.cells x.1.2.cells.toArray 41 (0, 0)) ∧ a' = { tmps := f x Bx, defers := [] }
theorem AI.own {zs : List PI} {Bd B : Nat} {w : World} (hB : w.heap.size ≤ B) (hBd : w.heap.size < Bd) {n2 : Int} : OwnFrom B (AI (zs := zs) Bd w n2) := fun pre W W' row h hg hr => by
  obtain ⟨h1, h2, h3⟩ := h
  have hblk : ∀ (k : Nat) (o : Obj), W.heap[k]? = some o → o.isCells = true → W'.heap[k]? = some o := fun k o e ho => (hg.block k (Array.getElem?_eq_some_iff.1 e).1 (fun e' => by
    obtain ⟨-, o', h4, h5⟩ := hr k e'.symm
    rw [e] at h4; cases h4; rw [ho] at h5; cases h5)).trans e
  refine ⟨hblk _ _ h1 rfl, ⟨hg.os.trans h2.os, hg.tape.trans h2.tape, hg.output.trans h2.output, Nat.le_trans h2.size hg.size, fun k hk => (hg.block k (Nat.lt_of_lt_of_le hk h2.size) (fun e' => ?_)).trans (h2.block k hk)⟩, Nat.le_trans h3 hg.size⟩
  have := (hr k e'.symm).1
  omega
theorem AX.own {zs : List PI} {Bd B : Nat} {f : NI zs → Nat → Array Value} (x : NI zs) (a' : Act) : OwnFrom B (fun (_ : Unit) W => AX Bd f x a' W) := fun _ W W' row h hg hr => by
  obtain ⟨Bx, h1, h2, h3⟩ := h
  refine ⟨Bx, h1, (hg.block Bx (Array.getElem?_eq_some_iff.1 h2).1 (fun e => ?_)).trans h2, h3⟩
  obtain ⟨-, o, h4, h5⟩ := hr Bx e.symm
  rw [h2] at h4; cases h4; cases h5
/-- In a round, out of W. -/
structure RB (w W : World) (Bx : Nat) (x : PI) (n : Int) (V : World) : Prop where
  q : Q w V
  box : V.heap[w.heap.size]? = some (.cells #[.int .u32 n] 93 (0, 0))
  bx : V.heap[Bx]? = some (.cells x.cells.toArray 41 (0, 0))
  sm : ∀ k, k < W.heap.size → k ≠ w.heap.size → V.heap[k]? = W.heap[k]?
  sz : W.heap.size ≤ V.heap.size
  kf : ∀ B, KeepsFrom B W V
theorem keeps_q {A B : World} (q : Q A B) (C : Nat) : KeepsFrom C A B := ⟨q.size, fun k o _ e _ => (q.block k (Array.getElem?_eq_some_iff.1 e).1).trans e⟩
section
variable {w W V V' : World} {Bx : Nat} {x : PI} {n m : Int}
theorem RB.keep (h : RB w W Bx x n V) (q : Q V V') : RB w W Bx x n V' :=
  ⟨h.q.trans q, (q.block _ (Array.getElem?_eq_some_iff.1 h.box).1).trans h.box, (q.block _ (Array.getElem?_eq_some_iff.1 h.bx).1).trans h.bx, fun k h1 h2 => (q.block k (Nat.lt_of_lt_of_le h1 h.sz)).trans (h.sm k h1 h2), Nat.le_trans h.sz q.size, fun B => (h.kf B).trans (keeps_q q B)⟩
theorem RB.set (h : RB w W Bx x n V) (hne : Bx ≠ w.heap.size) (m : Int) : RB w W Bx x m (V.setCell ⟨w.heap.size, 0, none⟩ (.int .u32 m)) := by
  have ho : ∀ k, k ≠ w.heap.size → (V.setCell ⟨w.heap.size, 0, none⟩ (.int .u32 m)).heap[k]? = V.heap[k]? := fun k hk => Below.heap_setCell _ _ _ _ hk
  refine ⟨h.q.set (p := ⟨w.heap.size, 0, none⟩) (Nat.le_refl _) _, (block_setCell h.box _).trans (by simp), (ho _ hne).trans h.bx, fun k h1 h2 => (ho k h2).trans (h.sm k h1 h2), Nat.le_trans h.sz (by rw [World.size_setCell]; exact Nat.le_refl _), fun B => (h.kf B).trans ((KeepsOthers.setCell V _ _).from B)⟩
theorem RB.five (h : RB w W Bx x n V) : V.cell? ⟨w.heap.size, 0, none⟩ = some (.int .u32 n) ∧ V.frozen? ⟨w.heap.size, 0, none⟩ = false := ⟨(cell_of_block h.box 0).trans rfl, free_of_block h.box 0⟩
theorem RB.seven (h : RB w W Bx x n V) : V.cell? ⟨Bx, 0, none⟩ = some (.int .u8 x.op) ∧ V.cell? ⟨Bx, 1, none⟩ = some (.int .u8 x.ty) ∧ V.cell? ⟨Bx, 2, none⟩ = some (.int .i64 x.dst) ∧ V.cell? ⟨Bx, 3, none⟩ = some (.int .i64 x.a) ∧ V.cell? ⟨Bx, 4, none⟩ = some (.int .i64 x.b) ∧ V.cell? ⟨Bx, 5, none⟩ = some (.int .i64 x.imm) ∧ V.cell? ⟨Bx, 6, none⟩ = some (.slice x.aa x.args.length x.ac) := by
  refine ⟨?_, ?_, ?_, ?_, ?_, ?_, ?_⟩ <;> simp [World.cell?, h.bx, PI.cells]
end
/-- The registers that an instruction reads, in memory of their own. -/
def UsL (w : World) (a : Option Addr) (l : List Int) (V : World) : Prop := ∀ j z, l[j]? = some z → ∃ b o, a = some ⟨b, o, none⟩ ∧ w.heap.size < b ∧ V.cell? ⟨b, o + j, none⟩ = some (.int .i64 z)
theorem UsL.keep {w V V' : World} {a : Option Addr} {l : List Int} (h : UsL w a l V) (q : Q V V') : UsL w a l V' := fun j z e => by
  obtain ⟨b, o, e1, e2, e3⟩ := h j z e
  exact ⟨b, o, e1, e2, cell_keep q e3⟩
theorem UsL.set {w V : World} {a : Option Addr} {l : List Int} (h : UsL w a l V) (u : Value) : UsL w a l (V.setCell ⟨w.heap.size, 0, none⟩ u) := fun j z e => by
  obtain ⟨b, o, e1, e2, e3⟩ := h j z e
  exact ⟨b, o, e1, e2, set_cell_ne e3 (fun e => by have := congrArg Addr.block e; dsimp only at this; omega)⟩
theorem orL_take {n : Int} {l : List Int} {j : Nat} {z : Int} (hz : l[j]? = some z) : orL n (l.take (j + 1)) = bits .or .u32 (orL n (l.take j)) (bt z) := by
  rw [List.take_add_one, hz]; unfold orL; simp [List.foldl_append]
theorem wrap_succ {j ul : Nat} (h : j < ul) (hu : ul ≤ 9223372036854775807) : wrap64 ((j : Int) + 1) = (j : Int) + 1 := by unfold wrap64; omega
theorem meas5 {j ul : Nat} (h : j < ul) : ul - (intOf (.int .i64 ((j : Int) + 1))).toNat < ul - (intOf (.int .i64 (j : Int))).toNat := by
  show ul - ((j : Int) + 1).toNat < ul - (j : Int).toNat
  omega
theorem usesP_len2 {x : PI} (h : x.op ≠ 32) : (usesP x).length ≤ 2 := by
  unfold usesP
  rw [if_neg h, List.length_take]; simp only [List.length_cons, List.length_nil]; omega
theorem shlw {nx : Nat} (h : nx < 20) : IntKind.u32.wrap (2 ^ min nx 32) = bt (nx : Int) := by rw [Nat.min_eq_left (by omega)]; exact shl1 (by omega)
theorem shlm {nx : Nat} (h : nx < 20) : ((2 : Int) ^ nx % 4294967296) = bt (nx : Int) := by
  have h1 : (2 : Nat) ^ nx < 4294967296 := Nat.lt_of_lt_of_le (Nat.pow_lt_pow_right (by omega) h) (by decide)
  have h2 : (2 : Int) ^ nx = ((2 ^ nx : Nat) : Int) := by simp
  rw [h2]
  unfold bt
  rw [Int.toNat_natCast]
  exact Int.emod_eq_of_lt (Int.natCast_nonneg _) (Int.ofNat_lt.2 h1)
theorem bw_map (zs : List PI) : ∀ k, k ≤ zs.length → (bw zs k).map (fun x => x.1.2) = zs.reverse.take k
  | 0, _ => by simp [bw]
  | k + 1, h => by
    have h1 : zs.length - 1 - k < zs.length := by omega
    rw [bw_succ zs (m := zs.length - 1 - k) (by omega) _ (List.getElem?_eq_getElem h1), List.map_append, bw_map zs k (by omega), List.take_add_one, List.getElem?_reverse (by omega), List.getElem?_eq_getElem h1]
    rfl
theorem bw_all (zs : List PI) (n2 : Int) : (bw zs zs.length).foldl (fun n x => stepR n x.1.2) n2 = zs.reverse.foldl stepR n2 := by
  have h := bw_map zs zs.length (Nat.le_refl _)
  rw [List.take_of_length_le (by simp)] at h
  rw [← h, List.foldl_map]

set_option maxRecDepth 100000 in
set_option maxHeartbeats 4000000 in
theorem readFrom_any (w : World) (pb po : Nat) (p : PP) (hp : At w pb po p.cells) (hpo : p.ok w) (N : Nat) (hr : RP N p) (g : Nat) (b : Nat → Int) (hb : ∀ n, n < N → w.cell? ⟨g, n, none⟩ = some (.int .u32 (b n))) (hu : ∀ n, U32 (b n)) (hN : N ≤ 1000000) :
    Calls Try.prog 46 #[.pointer (some ⟨pb, po, none⟩), .slice (some ⟨g, 0, none⟩) N N] w fun e w' => e = .returned (.int .u32 (readP p b)) ∧ Q w w' := by
  refine (callsIn_wide (n := 12)).1 ?_
  have hreach : p.ins.length * 64 ≤ 140737488351232 := by have := hpo.sok; unfold sok at this; omega
  obtain ⟨w1, hw1⟩ : ∃ w1, w.alloc (.cells #[.int .u32 0] 93) = w1 := ⟨_, rfl⟩
  have QW1 : Hid (Q w w1) := by rw [← hw1]; exact (Q.refl w).alloc _
  have z1 : w1.heap.size = w.heap.size + 1 := by rw [← hw1]; simp
  have HB1 : Hid (w1.heap[w.heap.size]? = some (.cells #[.int .u32 0] 93 (0, 0))) := by rw [← hw1]; exact heap_alloc_new w _
  refine callsIn_of_wp_marks Try.func46 rfl trivial ?_ rfl
  simp only [Try.ntmps46, List.size_toArray, List.length_cons, List.length_nil, Nat.reduceAdd, Nat.reduceSub, Array.replicate_succ, Array.replicate_zero, List.push_toArray, List.append_toArray, List.nil_append, List.cons_append]
  obtain ⟨d0, d1, d2, d3, d4⟩ := (hp.keep QW1.out).five
  have HP := hideIt hp
  have HU := hideIt hu
  have HR := hideIt hr
  have HBG := hideIt hb
  -- what the box holds on the way
  obtain ⟨n0, hn0⟩ : ∃ n0, (if p.e then 0 else bits .or .u32 0 (b p.next.toNat)) = n0 := ⟨_, rfl⟩
  obtain ⟨n1, hn1⟩ : ∃ n1, (if p.e = false ∧ 0 ≤ p.cond then bits .or .u32 n0 (b p.els.toNat) else n0) = n1 := ⟨_, rfl⟩
  obtain ⟨n2, hn2⟩ : ∃ n2, (if 0 ≤ p.cond then bits .or .u32 n1 (bt p.cond) else n1) = n2 := ⟨_, rfl⟩
  have HN0 := hideIt hn0
  have HN1 := hideIt hn1
  have HN2 := hideIt hn2
  have HH : Hid (headR p b = n2) := by show headR p b = n2; rw [← hn2, ← hn1, ← hn0]; rfl
  clear hn0 hn1 hn2
  have BB : Hid (∀ (W : World) (n : Int), Q w W → W.heap[w.heap.size]? = some (.cells #[.int .u32 n] 93 (0, 0)) → (W.cell? ⟨pb, po, none⟩ = some (.slice p.ia p.ins.length p.ic) ∧ W.cell? ⟨pb, po + 1, none⟩ = some (.bool p.e) ∧ W.cell? ⟨pb, po + 2, none⟩ = some (.int .i64 p.cond) ∧ W.cell? ⟨pb, po + 3, none⟩ = some (.int .i64 p.next) ∧ W.cell? ⟨pb, po + 4, none⟩ = some (.int .i64 p.els)) ∧ (∀ k, k < N → W.cell? ⟨g, k, none⟩ = some (.int .u32 (b k))) ∧ W.cell? ⟨w.heap.size, 0, none⟩ = some (.int .u32 n) ∧ W.frozen? ⟨w.heap.size, 0, none⟩ = false) := fun W n q h =>
    ⟨(hp.keep q).five, fun k hk => cell_keep q (hb k hk), (cell_of_block h 0).trans rfl, free_of_block h 0⟩
  have SB : Hid (∀ (W : World) (n m : Int), Q w W → W.heap[w.heap.size]? = some (.cells #[.int .u32 n] 93 (0, 0)) → (W.setCell ⟨w.heap.size, 0, none⟩ (.int .u32 m)).heap[w.heap.size]? = some (.cells #[.int .u32 m] 93 (0, 0)) ∧ Q w (W.setCell ⟨w.heap.size, 0, none⟩ (.int .u32 m))) := fun W n m q h =>
    ⟨(block_setCell h _).trans (by simp), q.set (p := ⟨w.heap.size, 0, none⟩) (Nat.le_refl _) _⟩
  have HE1 : Hid (p.e = false → 0 ≤ p.next ∧ p.next < N) := hr.nx
  have HE2 : Hid (p.e = false → 0 ≤ p.cond → 0 ≤ p.els ∧ p.els < N) := hr.el
  have HE3 : Hid (0 ≤ p.cond → p.cond < 20) := hr.ec
  have HIN := hideIt hpo.ins
  have HW1 := hideIt hw1
  have hN' : N ≤ 1000000 := hN
  have hmx : Try.prog.follows .mixedOrders = true := by kernel_rfl
  clear hp hpo hr hb hu hN z1
  gi_upto_if 14 with fail
  clear hw1
  gi_cut [] from 10 (fun W => Hid (W.heap[w.heap.size]? = some (.cells #[.int .u32 n0] 93 (0, 0))) ∧ Hid (Q w W))
  case first =>
    clear d0 d1 d2 d3 d4
    obtain ⟨⟨d0, d1, d2, d3, d4⟩, hbk, c0, f0⟩ := BB.out w1 0 QW1.out HB1.out
    cases he : p.e
    · obtain ⟨x1, x2⟩ := HE1.out he
      obtain ⟨nx, hnx⟩ : ∃ nx : Nat, p.next = (nx : Int) := ⟨p.next.toNat, by omega⟩
      have e0 := HN0.out
      rw [he, if_neg (by simp), hnx, Int.toNat_natCast] at e0
      have hb1 := hbk nx (by omega)
      have hnl : (nx : Int) < (N : Int) := by omega
      rw [hnx] at d3
      have S1 := hideIt (SB.out w1 0 n0 QW1.out HB1.out)
      clear hbk hnx x1 x2
      gi_wp2_with fail
      first | gi_region_with_o (fail) | fail
      all_goals gi_wp2_with fail
      all_goals gi_meet
      all_goals exact ⟨S1.out.1, S1.out.2.drew⟩
    · have e0 := HN0.out
      rw [he, if_pos rfl] at e0
      clear hbk
      gi_wp2_with fail
      gi_meet
      exact ⟨by rw [← e0]; exact HB1.out, QW1.out⟩
  case rest =>
    obtain ⟨B2, Q2⟩ := hcut
    generalize wc = w2 at *
    clear d0 d1 d2 d3 d4 HB1 QW1 HW1
    obtain ⟨⟨d0, d1, d2, d3, d4⟩, -, c0, f0⟩ := BB.out w2 n0 Q2.out B2.out
    clear c0 f0
    gi_upto_region 4 with fail
    gi_cut [35] from 10 (fun v W => v = .bool (!p.e && decide (0 ≤ p.cond)) ∧ W = w2)
    case first =>
      cases he : p.e <;> cases hc : decide (0 ≤ p.cond) <;> rw [he] at d1
      all_goals gi_wp2_with fail
      all_goals gi_meet
      all_goals exact ⟨by rw [he, hc]; rfl, rfl⟩
    case rest =>
      obtain ⟨rfl, rfl⟩ := hcut
      clear d0 d1 d2 d3 d4
      gi_upto_if 35 with fail
      gi_cut [] from 10 (fun W => Hid (W.heap[w.heap.size]? = some (.cells #[.int .u32 n1] 93 (0, 0))) ∧ Hid (Q w W))
      case first =>
        obtain ⟨⟨d0, d1, d2, d3, d4⟩, hbk, c0, f0⟩ := BB.out wc n0 Q2.out B2.out
        by_cases hec : p.e = false ∧ 0 ≤ p.cond
        · obtain ⟨he, hc⟩ := hec
          have hB : (!p.e && decide (0 ≤ p.cond)) = true := by rw [he]; simpa using hc
          rw [hB]
          obtain ⟨x1, x2⟩ := HE2.out he hc
          obtain ⟨nx, hnx⟩ : ∃ nx : Nat, p.els = (nx : Int) := ⟨p.els.toNat, by omega⟩
          have e0 := HN1.out
          rw [if_pos ⟨he, hc⟩, hnx, Int.toNat_natCast] at e0
          have hb1 := hbk nx (by omega)
          have hnl : (nx : Int) < (N : Int) := by omega
          rw [hnx] at d4
          have S1 := hideIt (SB.out wc n0 n1 Q2.out B2.out)
          clear hbk hnx x1 x2 hB hc
          gi_wp2_with fail
          first | gi_region_with_o (fail) | fail
          all_goals gi_wp2_with fail
          all_goals gi_meet
          all_goals exact ⟨S1.out.1, S1.out.2.drew⟩
        · have hB : (!p.e && decide (0 ≤ p.cond)) = false := by
            cases he : p.e
            · have : ¬ 0 ≤ p.cond := fun q => hec ⟨he, q⟩
              simpa using this
            · rfl
          rw [hB]
          have e0 := HN1.out
          rw [if_neg hec] at e0
          clear hbk hec hB
          gi_wp2_with fail
          gi_meet
          exact ⟨by rw [← e0]; exact B2.out, Q2.out⟩
      case rest =>
        obtain ⟨B3, Q3⟩ := hcut
        clear B2 Q2
        obtain ⟨⟨d0, d1, d2, d3, d4⟩, -, -, -⟩ := BB.out _ n1 Q3.out B3.out
        gi_upto_if 49 with fail
        gi_cut [] from 10 (fun W => Hid (W.heap[w.heap.size]? = some (.cells #[.int .u32 n2] 93 (0, 0))) ∧ Hid (Q w W))
        case first =>
          rename_i w3
          clear d0 d1 d2 d3 d4
          obtain ⟨⟨d0, d1, d2, d3, d4⟩, -, c0, f0⟩ := BB.out _ n1 Q3.out B3.out
          by_cases hc : 0 ≤ p.cond
          · have hx := HE3.out hc
            obtain ⟨nx, hnx⟩ : ∃ nx : Nat, p.cond = (nx : Int) := ⟨p.cond.toNat, by omega⟩
            have e0 := HN2.out
            rw [if_pos hc, hnx] at e0
            have hs : IntKind.u32.wrap (2 ^ min nx 32) = bt (nx : Int) := by rw [Nat.min_eq_left (by omega)]; exact shl1 (by omega)
            rw [hnx] at d2
            have S1 := hideIt (SB.out _ n1 n2 Q3.out B3.out)
            have hB : decide (0 ≤ (nx : Int)) = true := by simp
            rw [hnx]
            clear hc hx hnx
            gi_wp2_with fail
            first | gi_region_with_o (fail) | fail
            all_goals gi_wp2_with fail
            all_goals gi_meet
            all_goals exact ⟨S1.out.1, S1.out.2.drew⟩
          · have hB : decide (0 ≤ p.cond) = false := by simpa using hc
            have e0 := HN2.out
            rw [if_neg hc] at e0
            have hc' : p.cond < 0 := by omega
            gi_wp2_with fail
            gi_meet
            exact ⟨by rw [← e0]; exact B3.out, Q3.out⟩
        case rest =>
          obtain ⟨B4, Q4⟩ := hcut
          clear B3 Q3
          obtain ⟨⟨d0, d1, d2, d3, d4⟩, -, -, -⟩ := BB.out _ n2 Q4.out B4.out
          clear d1 d2 d3 d4
          gi_wp2_with (first | (refine ⟨trivial, ?_⟩; gi_at_call 61; refine CallsIn.mono (backward_in Fence.wide _ trivial rfl _ _ _ _) ?_; rintro e y ⟨rfl, rfl⟩) | fail)
          have bS := Boxed.new wc 37 (.slice p.ia p.ins.length p.ic)
          have hz : (wc.alloc (.cells #[.slice p.ia p.ins.length p.ic] 37)).heap.size = wc.heap.size + 1 := by simp
          have hlw : w.heap.size < wc.heap.size := (Array.getElem?_eq_some_iff.1 B4.out).1
          obtain ⟨Bs, hBs⟩ : ∃ Bs, wc.heap.size = Bs := ⟨_, rfl⟩
          obtain ⟨W0, hW0⟩ : ∃ W0, wc.alloc (.cells #[.slice p.ia p.ins.length p.ic] 37) = W0 := ⟨_, rfl⟩
          have hI00 : AI (zs := p.ins) W0.heap.size w n2 [] W0 := by
            rw [← hW0]
            exact ⟨(Below.heap_alloc _ _ _ hlw).trans B4.out, Q4.out.alloc _, Nat.le_refl _⟩
          have QW0 : Hid (Q w W0) := by rw [← hW0]; exact Q4.out.alloc _
          rw [hBs] at bS hz hlw ⊢
          rw [hW0] at bS hz ⊢
          clear hW0 hBs d0 B4 Q4
          refine wpIn_rangeFunc_ownH (F := Fence.wide) rfl (by omega) (gf := 83) (lb := #[.pointer (some ⟨Bs, 0, none⟩)]) rfl trivial (enters_of Try.func83 (by kernel_rfl) rfl)
            (back_stops Fence.wide _ trivial rfl (by omega) Bs w.heap.size p.ia p.ic p.ins hreach W0 (by omega) (by omega) bS.cell ?pc)
            (fun h k => KB.trans h k) (KB.b (by omega) (by omega)) (Below.refl _ _) (fun _ => rfl)
            (AI (zs := p.ins) W0.heap.size w n2)
            (fun _ _ _ => False) (AI.own (by omega) (by omega)) (fun _ _ _ _ _ hs _ _ => hs) hI00
            (AX W0.heap.size (fun x Bx => #[.pointer (some ⟨pb, po, none⟩), .slice (some ⟨g, 0, none⟩) N N, undef, undef, .int .u32 0, .pointer (some ⟨w.heap.size, 0, none⟩), undef, .pointer (some ⟨Bx, 0, none⟩), undef, undef, u10, u11, u12, u13, u14, u15, u16, u17, u18, u19, u20, u21, u22, u23, u24, u25, u26, u27, u28, u29, u30, u31, u32, u33, u34, u35, u36, u37, u38, u39, u40, u41, u42, u43, u44, u45, u46, u47, u48, u49, u50, u51, u52, u53, u54, u55, u56, .pointer (some ⟨pb, po, none⟩), .pointer (some ⟨pb, po, none⟩), .pointer (some ⟨pb, po, none⟩), .slice p.ia p.ins.length p.ic, .func (.func 83) #[] #[.pointer (some ⟨Bs, 0, none⟩)], .int .i64 (x.1.1 : Int), x.1.2.v, u64, u65, u66, u67, u68, u69, u70, u71, u72, u73, u74, u75, u76, u77, u78, u79, u80, u81, u82, u83]))
            (fun x a' => AX.own x a') ?assign ?body ?done ?stop
          case pc =>
            intro k x e
            obtain ⟨g, o, e1, h1⟩ := HIN.out k x e
            exact ⟨g, o, e1, World.block_lt_of_cell? w _ h1.1.seven.1, (h1.keep QW0.out).1⟩
          case assign =>
            rintro l pre x W K ⟨i1, i2, i3⟩ hK
            rcases x with ⟨⟨k, x⟩, hx⟩
            dsimp only [NI.enc, PI.v]
            gi_wp2
            have qa : Q W (W.alloc (.cells #[.int .u8 x.op, .int .u8 x.ty, .int .i64 x.dst, .int .i64 x.a, .int .i64 x.b, .int .i64 x.imm, .slice x.aa x.args.length x.ac] 41)) := (Q.refl W).alloc _
            exact hK _ _ ((KeepsOthers.alloc _ _).from _) ⟨qa.mono i2.size, qa.block _ (by omega)⟩ ⟨(qa.block _ (Array.getElem?_eq_some_iff.1 i1).1).trans i1, i2.trans qa, Nat.le_trans i3 qa.size⟩ ⟨W.heap.size, i3, World.alloc_heap_new W _, rfl⟩
          case body =>
            rintro l pre x a' W hl ⟨r, hr⟩ ⟨i1, i2, i3⟩ ⟨Bx, hBx, bX, rfl⟩ hlt
            rcases x with ⟨⟨k, x⟩, hx⟩
            dsimp only at hx bX ⊢
            have HF0 : Hid ((pre ++ ([⟨(k, x), hx⟩] : List (NI p.ins))).foldl (fun n (x : NI p.ins) => stepR n x.1.2) n2 = stepR (pre.foldl (fun n (x : NI p.ins) => stepR n x.1.2) n2) x) := by show _ = _; rw [List.foldl_append]; rfl
            obtain ⟨n, hn⟩ : ∃ n, pre.foldl (fun n (x : NI p.ins) => stepR n x.1.2) n2 = n := ⟨_, rfl⟩
            rw [hn] at i1 HF0
            have HF1 : Hid ((pre ++ ([⟨(k, x), hx⟩] : List (NI p.ins))).foldl (fun n (x : NI p.ins) => stepR n x.1.2) n2 = orL (cutR n x) (usesP x)) := HF0.out
            obtain ⟨h32, hfd, hfu⟩ := HR.out.si x (List.mem_of_getElem? hx)
            have hxo : x.ok w := by obtain ⟨g, o, -, h1⟩ := HIN.out k x hx; exact h1.2
            have HR1 : Hid (RB w W Bx x n W) := ⟨i2, i1, bX, fun _ _ _ => rfl, Nat.le_refl _, fun B => KeepsFrom.refl _ _⟩
            have HBX : Hid (Bx ≠ w.heap.size) := by show Bx ≠ _; omega
            have HXO := hideIt hxo
            have hd1 : 1 ≤ 12 - 1 - 1 := by omega
            obtain ⟨wb, hwb⟩ : ∃ wb, wrP x.op = wb := ⟨_, rfl⟩
            have HQW := hideIt i2
            clear hn i1 i2 bX HF0 hxo
            obtain ⟨x0, x1, x2, x3, x4, x5, x6⟩ := HR1.out.seven
            have HD := hideIt (dst_any x W)
            rw [hwb] at HD
            have HWP := hideIt hwb
            clear hwb
            dsimp only [PI.v] at HD ⊢
            gi_upto_if 65 with (first | (refine ⟨trivial, ?_⟩; gi_at_call 62; refine CallsIn.mono (CallsIn.inRound l (callsIn_wide.2 HD.out)) ?_; rintro e y ⟨rfl, qy⟩; have HR2 := hideIt (HR1.out.keep qy); clear qy) | fail)
            clear x0 x1 x2 x3 x4 x5 x6
            gi_cut [] from 64 (fun W' => Hid (RB w W Bx x (cutR n x) W'))
            case first =>
              obtain ⟨y0, y1, y2, y3, y4, y5, y6⟩ := HR2.out.seven
              obtain ⟨c0, f0⟩ := HR2.out.five
              cases wb with
              | true =>
                obtain ⟨e1, e2⟩ := hfd HWP.out
                obtain ⟨dn, hdn⟩ : ∃ dn : Nat, x.dst = (dn : Int) := ⟨x.dst.toNat, by omega⟩
                have hs := shlw (nx := dn) (by omega)
                have e3 : cutR n x = bits .andNot .u32 n (bt (dn : Int)) := by unfold cutR; rw [if_pos HWP.out, hdn]
                have S1 := hideIt (HR2.out.set HBX.out (cutR n x))
                have E3 := hideIt e3
                rw [hdn] at y2
                clear hdn e1 e2 e3
                gi_wp2_with fail
                first | gi_region_with_o (fail) | fail
                all_goals gi_wp2_with fail
                all_goals gi_meet
                all_goals (rw [E3.out] at S1; rw [E3.out]; exact S1.out.keep (Q.refl _).drew)
              | false =>
                have e3 : cutR n x = n := by unfold cutR; rw [if_neg]; rw [HWP.out]; simp
                gi_wp2_with fail
                gi_meet
                rw [e3]; exact HR2
            case rest =>
              have HR3 := hcut
              clear hcut HR2 HD HWP HR1
              generalize wc = W1 at *
              obtain ⟨x0, x1, x2, x3, x4, x5, x6⟩ := HR3.out.seven
              have HU1 := hideIt (usesF_any x W1 (HXO.out.keep HR3.out.q))
              have hul := usesP_len2 h32
              obtain ⟨us, hus⟩ : ∃ us, usesP x = us := ⟨_, rfl⟩
              obtain ⟨m0, hm0⟩ : ∃ m0, cutR n x = m0 := ⟨_, rfl⟩
              rw [hus] at HU1 hul hfu HF1
              rw [hm0] at HR3 HF1
              obtain ⟨ul, hu1⟩ : ∃ ul, us.length = ul := ⟨_, rfl⟩
              rw [hu1] at hul
              have HUL := hideIt hu1
              clear hus hm0 hu1
              dsimp only [PI.v] at HU1 ⊢
              gi_wp2_with (first | (refine ⟨trivial, ?_⟩; gi_at_call 63; refine CallsIn.mono (CallsIn.inRound l (callsIn_wide.2 HU1.out)) ?_; rintro e y ⟨ao, uc, rfl, hi, qy, hnw⟩; have HI := hideIt hi; have HNW := hideIt hnw; have HR4 := hideIt (HR3.out.keep qy); have QY := hideIt qy; clear hi hnw qy) | fail)
              rw [HUL.out]
              gi_loopw [74] (fun i wr => ∃ (j : Nat), i = .int .i64 (j : Int) ∧ j ≤ ul ∧ Hid (RB w W Bx x (orL m0 (us.take j)) wr) ∧ Hid (UsL w ao us wr))
                (fun i _ => ul - (intOf i).toNat)
              case atStart =>
                refine ⟨0, rfl, Nat.zero_le _, HR4.out, fun j z hz => ?_⟩
                obtain ⟨b', o', e1, e2, -⟩ := HI.out j z hz
                exact ⟨b', o', e1, by have := HNW.out b' o' e1; have := HR3.out.sz; omega, by simpa using e2⟩
              case round =>
                obtain ⟨j, rfl, hj, H5, H6⟩ := hrel
                by_cases hlt5 : j < ul
                · obtain ⟨z, hz⟩ : ∃ z, us[j]? = some z := ⟨_, List.getElem?_eq_getElem (by rw [HUL.out]; omega)⟩
                  obtain ⟨b', o', rfl, hm, hc⟩ := H6.out j z hz
                  obtain ⟨hz0, hz1⟩ := hfu z (List.mem_of_getElem? hz)
                  obtain ⟨zn, rfl⟩ : ∃ zn : Nat, z = (zn : Int) := ⟨z.toNat, by omega⟩
                  have hs := shlw (nx := zn) (by omega)
                  have hm2 := shlm (nx := zn) (by omega)
                  obtain ⟨c0, f0⟩ := H5.out.five
                  have HZ := hideIt (orL_take (n := m0) hz)
                  have S1 := hideIt (H5.out.set HBX.out (orL m0 (us.take (j + 1))))
                  have S2 := hideIt (H6.out.set (.int .u32 (orL m0 (us.take (j + 1)))))
                  rw [HZ.out] at S1 S2
                  clear hz hm
                  gi_wp2_with fail
                  first | gi_region_with_o (fail) | fail
                  all_goals gi_wp2_with fail
                  all_goals go_roundw
                  all_goals first
                    | (refine ⟨j + 1, by simp, hlt5, ?_, ?_⟩
                       · (try rw [hm2]); rw [HZ.out]; exact S1.out.keep (Q.refl _).drew
                       · (try rw [hm2]); exact S2.out.keep (Q.refl _).drew)
                    | exact meas5 hlt5
                · obtain rfl : j = ul := by omega
                  gi_wp2_with fail
                  have h5 := H5.out
                  have e7 : us.take j = us := by rw [← HUL.out, List.take_length]
                  rw [e7] at h5
                  refine ⟨h5.kf _, ⟨?_, ?_⟩, ?_, h5.q, Nat.le_trans i3 h5.sz⟩
                  · exact ⟨h5.q.os.trans HQW.out.os.symm, h5.q.tape.trans HQW.out.tape.symm, h5.q.output.trans HQW.out.output.symm, h5.sz, fun k hk => h5.sm k (Nat.lt_of_lt_of_le hk HQW.out.size) (by omega)⟩
                  · exact h5.sm Bs (by omega) (by omega)
                  · rw [HF1.out]; exact h5.box
          case done =>
            rintro D ys W hD rfl ⟨i1, i2, i3⟩ hK
            have c0 : W.cell? ⟨w.heap.size, 0, none⟩ = some _ := (cell_of_block i1 0).trans rfl
            gi_wp2
            refine ⟨by simp, .inl ⟨_, _, rfl, run_takeDeferred hK, ?_⟩⟩
            have i4 := AI.own (B := W0.heap.size) (by omega) (by omega) _ _ _ _ ⟨i1, i2, i3⟩ (grownBy_putObj' W D (.deferred none)) (fun r e => by cases e; exact ⟨hD, _, hK, rfl⟩)
            refine ⟨_, results_tmp rfl _ _ _, ?_, i4.2.1⟩
            rw [bw_all, ← HH.out]; rfl
          case stop =>
            rintro D c pre W _ _ h _
            exact h.elim

end Go.Proofs.Ytnaflfpkkbfnfaa.In

namespace Go.Proofs.Ytnaflfpkkbfnfaa.In
open Go.RowKit Go.Deep Go.Shelf
set_option linter.unusedVariables false
attribute [local go_sem] Oper.semAt_some

theorem uSetT : Try.prog.underlying 91 = some (.slice 93) := by kernel_rfl
theorem infoSetT : (Try.prog.info? 93).map (fun i => (i.zero, i.size, i.bytes)) = some (some (.int .u32 0), 1, 4) := by kernel_rfl

/-! ### How much is missing -/
def mu (N : Nat) (b : Nat → Int) : Nat := ((List.range N).map fun k => miss (b k)).sum
theorem mu_congr {N : Nat} {b c : Nat → Int} (h : ∀ k, k < N → b k = c k) : mu N b = mu N c := by
  unfold mu
  congr 1
  exact List.map_congr_left (fun k hk => by rw [h k (List.mem_range.1 hk)])
theorem mu_succ (N : Nat) (b : Nat → Int) : mu (N + 1) b = mu N b + miss (b N) := by
  unfold mu; rw [List.range_succ]; simp
def upd (b : Nat → Int) (k : Nat) (x : Int) : Nat → Int := fun j => if j = k then x else b j
theorem mu_upd {b : Nat → Int} {x : Int} {k : Nat} (h : miss x < miss (b k)) : ∀ N, (k < N → mu N (upd b k x) < mu N b) ∧ (N ≤ k → mu N (upd b k x) = mu N b)
  | 0 => ⟨fun h => by omega, fun _ => rfl⟩
  | N + 1 => by
    have ih := mu_upd h N
    rw [mu_succ, mu_succ]
    by_cases e : N = k
    · have h1 := ih.2 (by omega)
      have h2 : upd b k x N = x := if_pos e
      rw [h1, h2, e]
      exact ⟨fun _ => by omega, fun q => by omega⟩
    · have h2 : upd b k x N = b N := if_neg e
      rw [h2]
      exact ⟨fun q => by have := ih.1 (by omega); omega, fun q => by rw [ih.2 (by omega)]⟩
/-- The words of a row. -/
def wv (g : Nat) (W : World) (k : Nat) : Int := match W.cell? ⟨g, k, none⟩ with | some v => intOf v | none => 0
def muW (g N : Nat) (W : World) : Nat := mu N (wv g W)

/-! ### What holds while the words grow -/
/-- What is known of the words: below every closed list of words, and each below what its part reads. -/
structure US (l : List PP) (b : Nat → Int) : Prop where
  u : ∀ n, U32 (b n)
  z : ∀ n, l.length ≤ n → b n = 0
  up : ∀ k p, l[k]? = some p → sub (b k) (readP p b)
  least : ∀ c : Nat → Int, (∀ n, U32 (c n)) → (∀ k p, l[k]? = some p → sub (readP p c) (c k)) → ∀ k, k < l.length → sub (b k) (c k)
theorem US.zero (l : List PP) : US l (fun _ => 0) :=
  ⟨fun _ => U32.zero, fun _ _ => rfl, fun _ _ _ r h => (by rw [tb_zero] at h; cases h), fun _ _ _ _ _ r h => (by rw [tb_zero] at h; cases h)⟩
theorem US.leastA {l : List PP} {b : Nat → Int} (h : US l b) {c : Nat → Int} (hc : ∀ n, U32 (c n)) (hs : ∀ k p, l[k]? = some p → sub (readP p c) (c k)) (k : Nat) : sub (b k) (c k) := by
  by_cases e : k < l.length
  · exact h.least c hc hs k e
  · rw [h.z k (by omega)]; intro r q; rw [tb_zero] at q; cases q
theorem US.step {l : List PP} {b : Nat → Int} (h : US l b) (hr : ∀ p ∈ l, RP l.length p) {k : Nat} {p : PP} (hk : l[k]? = some p) : US l (upd b k (readP p b)) := by
  have hkl := (List.getElem?_eq_some_iff.1 hk).1
  have hp := hr p (List.mem_of_getElem? hk)
  have hu : ∀ n, U32 (upd b k (readP p b) n) := fun n => by
    unfold upd; split
    · exact readP_u hp h.u
    · exact h.u n
  have hle : ∀ n, sub (b n) (upd b k (readP p b) n) := fun n => by
    unfold upd; split
    · rename_i e; subst e; exact h.up _ p hk
    · exact sub.refl _
  refine ⟨hu, fun n hn => ?_, fun j q hj => ?_, fun c hc hs j hj => ?_⟩
  · have : n ≠ k := by omega
    unfold upd; rw [if_neg this]; exact h.z n hn
  · have hq := readP_sub (hr q (List.mem_of_getElem? hj)) h.u hu hle
    by_cases e : j = k
    · subst e
      rw [hk] at hj
      injection hj with hj
      subst hj
      unfold upd; rw [if_pos rfl]; exact hq
    · have e2 : upd b k (readP p b) j = b j := if_neg e
      rw [e2]
      exact (h.up j q hj).trans hq
  · by_cases e : j = k
    · subst e
      have e2 : upd b j (readP p b) j = readP p b := if_pos rfl
      rw [e2]
      exact (readP_sub hp h.u hc (h.leastA hc hs)).trans (hs j p hk)
    · have e2 : upd b k (readP p b) j = b j := if_neg e
      rw [e2]; exact h.least c hc hs j hj
theorem US.lfp {l : List PP} {b : Nat → Int} (h : US l b) (hf : ∀ k p, l[k]? = some p → readP p b = b k) : Lfp l b := ⟨h.u, hf, h.least⟩

theorem US.less {l : List PP} {b b1 : Nat → Int} (h : US l b1) (hr : ∀ p ∈ l, RP l.length p) {k N : Nat} {p : PP} (hk : l[k]? = some p) {x : Int} (hx : readP p b1 = x) (hne : x ≠ b1 k) (hle : mu N b1 ≤ mu N b) (hkN : k < N) : mu N (upd b1 k x) < mu N b := by
  subst hx
  have h1 := miss_lt (h.u k) (readP_u (hr p (List.mem_of_getElem? hk)) h.u) (h.up k p hk) (Ne.symm hne)
  have h2 := (mu_upd h1 N).1 hkN
  omega

/-! ### The words in memory -/
def wsC (N : Nat) (b : Nat → Int) : List Value := (List.range N).map fun k => .int .u32 (b k)
structure UW (w : World) (l : List PP) (b : Nat → Int) (W : World) : Prop where
  us : US l b
  q : Q w W
  at_ : W.heap[w.heap.size]? = some (.cells (wsC l.length b).toArray 93 (0, 0))
theorem UW.cell {w W : World} {l : List PP} {b : Nat → Int} (h : UW w l b W) {k : Nat} (hk : k < l.length) : W.cell? ⟨w.heap.size, k, none⟩ = some (.int .u32 (b k)) := by
  rw [cell_of_block h.at_]
  simp [wsC, hk]
theorem UW.mu {w W : World} {l : List PP} {b : Nat → Int} (h : UW w l b W) : muW w.heap.size l.length W = mu l.length b :=
  mu_congr fun k hk => by unfold wv; rw [h.cell hk]; rfl
theorem UW.keep {w W V : World} {l : List PP} {b : Nat → Int} (h : UW w l b W) (q : Q W V) : UW w l b V := ⟨h.us, h.q.trans q, (q.block _ (Array.getElem?_eq_some_iff.1 h.at_).1).trans h.at_⟩
theorem UW.step {w W : World} {l : List PP} {b : Nat → Int} (h : UW w l b W) (hr : ∀ p ∈ l, RP l.length p) {k : Nat} {p : PP} (hk : l[k]? = some p) : UW w l (upd b k (readP p b)) (W.setCell ⟨w.heap.size, k, none⟩ (.int .u32 (readP p b))) := by
  refine ⟨h.us.step hr hk, h.q.set (p := ⟨w.heap.size, k, none⟩) (Nat.le_refl _) _, (block_setCell h.at_ _).trans ?_⟩
  congr 2
  refine Array.ext' ?_
  have hkl := (List.getElem?_eq_some_iff.1 hk).1
  refine List.ext_getElem? fun j => ?_
  rw [Array.toList_setIfInBounds, List.getElem?_set]
  show (if k = j then _ else (wsC l.length b)[j]?) = (wsC l.length (upd b k (readP p b)))[j]?
  unfold wsC
  rw [List.getElem?_map, List.getElem?_map]
  by_cases e : k = j
  · subst e
    simp [hkl, upd]
  · rw [if_neg e]
    by_cases hj : j < l.length
    · simp [hj, upd, Ne.symm e]
    · simp [hj]

theorem info_int : ∃ i0, Try.prog.info? 3 = some i0 ∧ i0.zero = some (.int .i64 0) ∧ i0.size = 1 ∧ i0.bytes = 8 := by
  obtain ⟨i, hi, hzz⟩ := Option.map_eq_some_iff.1 Try.infoInt
  simp only [Prod.mk.injEq] at hzz
  exact ⟨i, hi, hzz.1, hzz.2.1, hzz.2.2⟩
/-- The registers from the parameters on, as far as n, that a word names. -/
def unT (pn : Nat) (x : Int) (n : Nat) : List Int := ((List.range n).filter fun (r : Nat) => decide ((pn : Int) ≤ (r : Int)) && tb x r).map (fun (r : Nat) => (r : Int))
theorem unT_succ (pn : Nat) (x : Int) (n : Nat) (h : pn ≤ n) : unT pn x (n + 1) = unT pn x n ++ (if tb x n then [(n : Int)] else []) := by
  unfold unT
  rw [List.range_succ, List.filter_append, List.map_append]
  congr 1
  cases ht : tb x n <;> simp [ht, h]
theorem unT_low (pn : Nat) (x : Int) : ∀ n, n ≤ pn → unT pn x n = []
  | n, h => by
    unfold unT
    have : (List.range n).filter (fun (r : Nat) => decide ((pn : Int) ≤ (r : Int)) && tb x r) = [] := List.filter_eq_nil_iff.2 (fun a ha => by
      have := List.mem_range.1 ha
      simp; omega)
    rw [this]; rfl
theorem unT_start (pn : Nat) (x : Int) : unT pn x pn = [] := unT_low pn x pn (Nat.le_refl _)
theorem unT_all (f : PF) (x : Int) {pn rn n : Nat} (hp : f.params = (pn : Int)) (hr : f.regs = (rn : Int)) (h1 : f.params ≤ n) (h2 : rn ≤ n) (h3 : n ≤ rn ∨ n = pn) : unT pn x n = unL f x := by
  have e : unL f x = unT pn x rn := by unfold unL unT; rw [hp, hr]; rfl
  rw [e]
  rcases h3 with h | rfl
  · rw [show n = rn by omega]
  · rw [unT_low _ _ _ (Nat.le_refl _), unT_low _ _ _ h2]
theorem unT_len (pn : Nat) (x : Int) (n : Nat) : (unT pn x n).length ≤ n := by
  unfold unT
  rw [List.length_map]
  exact Nat.le_trans (List.length_filter_le _ _) (by simp)

theorem own_ints {w : World} {B : Nat} {T : TypeId} {a : Option Addr} {c : Nat} {L : List Int} (h : w.ownsRow B T 1 (.slice a L.length c) L.length (Dn.rowI L)) (hb : ∀ x ∈ L, I64 x) : Ints w a L ∧ ∀ b o, a = some ⟨b, o, none⟩ → B ≤ b := by
  rcases h.2 with ⟨e, e0⟩ | ⟨g, cap, cur, e, hB, hg, hc, hm, hs, hx⟩
  · injection e with e1 e2 e3
    subst e1
    refine ⟨fun k x hk => ?_, fun b o e => by cases e⟩
    have := (List.getElem?_eq_some_iff.1 hk).1
    omega
  · injection e with e1 e2 e3
    subst e1 e3
    refine ⟨fun k x hk => ⟨g, 0, rfl, ?_, hb x (List.mem_of_getElem? hk)⟩, fun b o e => by injection e with e; injection e with e1 e2; omega⟩
    have hkl := (List.getElem?_eq_some_iff.1 hk).1
    rw [Nat.zero_add, Nat.mul_one, h.cellAt k (by omega)]
    simp [Dn.rowI, hk]

set_option maxRecDepth 100000 in
set_option maxHeartbeats 4000000 in
theorem unset_any (w : World) (fb fo : Nat) (f : PF) (hf : At w fb fo f.cells) (hok : f.ok w) (hne : f.parts ≠ []) (hl : f.parts.length ≤ 10) (hrg : 0 ≤ f.regs ∧ f.regs ≤ 20) (hpr : 0 ≤ f.params) (hrp : ∀ p ∈ f.parts, RP f.parts.length p) :
    Calls Try.prog 35 #[.pointer (some ⟨fb, fo, none⟩)] w fun e w' => ∃ a c, e = .returned (.slice a (unP f).length c) ∧ Ints w' a (unP f) ∧ Q w w' ∧ ∀ b o, a = some ⟨b, o, none⟩ → w.heap.size ≤ b := by
  obtain ⟨f0, f1, f2, f3⟩ := hf.four
  obtain ⟨N, hN⟩ : ∃ N, f.parts.length = N := ⟨_, rfl⟩
  rw [hN] at f3 hl hrp
  obtain ⟨pb, po, hpe⟩ : ∃ pb po, f.pa = some ⟨pb, po, none⟩ := by
    obtain ⟨p0, hp0⟩ := get_of_lt (List.length_pos_iff.2 hne)
    obtain ⟨b, o, e, -⟩ := hok.parts 0 p0 hp0
    exact ⟨b, o, e⟩
  have HPE := hideIt hpe
  have hmk := run_make_row' (P := Try.prog) 91 93 (.int .u32 0) 4 uSetT infoSetT rfl .i64 .i64 N (by omega) (by omega) w
  go_enter Try.func35, Try.ntmps35
  rw [hpe] at f3
  go_wp2_with (fail)
  obtain ⟨W0, hW0⟩ : ∃ W0, w.alloc (.cells (madeCells #[.int .u32 0] N) 93) = W0 := ⟨_, rfl⟩
  have HU0 : Hid (UW w f.parts (fun _ => 0) W0) := by
    rw [← hW0]
    refine ⟨US.zero _, (Q.refl w).alloc _, (heap_alloc_new w _).trans ?_⟩
    congr 2
    refine Array.ext (by simp [madeCells, wsC, hN]) (fun i h1 h2 => ?_)
    simp [madeCells, wsC, Nat.mod_one]
  rw [hW0]
  clear hmk hW0
  have HF := hideIt (fun (y : World) (hy : Q w y) => (hf.keep hy).four)
  have HO := hideIt hok
  rw [hN, hpe] at HF
  clear hpe
  clear f0 f1 f2 f3 hf hok
  go_loopw [4] (fun v wr => ∃ (ch : Bool) (b : Nat → Int), v = .bool ch ∧ Hid (UW w f.parts b wr) ∧ Hid (ch = false → ∀ k p, f.parts[k]? = some p → readP p b = b k))
    (fun v wr => 2 * muW w.heap.size N wr + (match v with | .bool true => 1 | _ => 0))
  case atStart => exact ⟨true, _, rfl, HU0, (fun h => Bool.noConfusion h : true = false → _)⟩
  case round =>
    obtain ⟨ch, b, rfl, HU, HC⟩ := hrel
    obtain ⟨f0, f1, f2, f3⟩ := HF.out wr HU.out.q
    cases ch with
    | false =>
      obtain ⟨j0, hj, hz0, hz1, hz2⟩ := info_int
      have HT := hideIt (And.intro hj (And.intro hz0 (And.intro hz1 hz2)))
      clear hj hz0 hz1 hz2
      have HL := hideIt (HU.out.us.lfp (HC.out rfl))
      obtain ⟨pn, hpn⟩ : ∃ pn : Nat, f.params = (pn : Int) := ⟨f.params.toNat, by omega⟩
      obtain ⟨rn, hrn⟩ : ∃ rn : Nat, f.regs = (rn : Int) := ⟨f.regs.toNat, by omega⟩
      obtain ⟨W1, hW1⟩ : ∃ W1, wr = W1 := ⟨_, rfl⟩
      have HUL := hideIt (fun (n : Nat) (h1 : f.params ≤ n) (h2 : rn ≤ n) (h3 : n ≤ rn ∨ n = pn) => unT_all f (b 0) hpn hrn h1 h2 h3)
      rw [hpn] at f0
      rw [hrn] at f1
      rw [hpn, hrn] at HF
      rw [hrn] at hrg
      have H0 : Hid (W1.ownsRow W1.heap.size 3 1 (.slice none 0 0) (unT pn (b 0) pn).length (Dn.rowI (unT pn (b 0) pn))) := by
        rw [unT_start]; exact World.ownsRow_nil _ _ _ _
      rw [hW1] at f0 f1 f2 f3 HU ⊢
      clear hW1
      go_wp2_with (fail)
      go_loopw [7, 8] (fun v r wr2 => ∃ (n : Nat), r = .int .i64 (n : Int) ∧ pn ≤ n ∧ (n ≤ rn ∨ n = pn) ∧ Hid (wr2.ownsRow W1.heap.size 3 1 v (unT pn (b 0) n).length (Dn.rowI (unT pn (b 0) n))) ∧ Hid (Q W1 wr2)) (fun _ r _ => rn - (intOf r).toNat)
      case atStart => exact ⟨pn, rfl, Nat.le_refl _, .inr rfl, H0, hideIt (Q.refl W1)⟩
      case round =>
        obtain ⟨n, rfl, hn1, hn2, HO2, HQ⟩ := hrel
        obtain ⟨f0, f1, f2, f3⟩ := HF.out _ (HU.out.q.trans HQ.out)
        have c0 := (HU.out.keep HQ.out).cell (k := 0) (List.length_pos_iff.2 hne)
        obtain ⟨va, vc, rfl⟩ := Dn.row_form HO2.out
        by_cases hlt : n < rn
        · have hs := shlw (nx := n) (by omega)
          have hm2 := shlm (nx := n) (by omega)
          have HAB := hideIt (and_bit (HU.out.us.u 0) (r := n) (by omega))
          have hlk : (n : Int) < (rn : Int) := by omega
          have hN0 : (0 : Int) < (N : Int) := by have := List.length_pos_iff.2 hne; omega
          go_wp2_with (fail)
          go_quiet (fail)
          obtain ⟨W2, hW2⟩ : ∃ W2, wr.drewN nq = W2 := ⟨_, rfl⟩
          have q2 : Q wr W2 := by rw [← hW2]; exact (Q.refl wr).drewN _
          rw [hW2]
          have HQ2 := hideIt (HQ.out.trans q2)
          have HO3 := hideIt (Dn.row_keep HO2.out (fun k hk => q2.block k (Dn.own_lt HO2.out hk)))
          obtain ⟨L, hL⟩ : ∃ L, unT pn (b 0) n = L := ⟨_, rfl⟩
          have hLl := unT_len pn (b 0) n
          have HSU := hideIt (unT_succ pn (b 0) n hn1)
          rw [hL] at hLl HO3 HSU ⊢
          have HR2 : Hid ((W2.alloc (.cells #[.int .i64 (n : Int)] 3)).ownsRow W1.heap.size 3 1 (.slice va L.length vc) L.length (Dn.rowI L)) := Dn.row_keep HO3.out (fun q hq => heap_alloc_old W2 _ (Dn.own_lt HO3.out hq))
          have HLt : Hid (∀ q, (Value.slice va L.length vc).ownBlock = some q → W1.heap.size ≤ q) := fun q hq => (HO3.out.lt q hq).1
          have HM3 := hideIt (show L.length + 1 ≤ maxLen by unfold maxLen; omega)
          have HM4 := hideIt (show (L.length + 1) * 8 ≤ 140737488355328 by omega)
          have HB := hideIt HQ2.out.size
          clear hL hW2 q2 c0 f0 f1 f2 f3 HO2 hLl
          go_wp2_with (first | (at_builtin; refine wpList_append_lies _ rfl _ _ 22 rfl W1.heap.size 3 j0 (.int .i64 0) 1 8 Try.underlying22 HT.out.1 HT.out.2.1 HT.out.2.2.1 HT.out.2.2.2 rfl (by decide) (.slice va L.length vc) L.length (Dn.rowI L) rfl HR2.out ⟨W2.heap.size, 0, none⟩ 1 1 [.int .i64 (n : Int)] rfl rfl (World.news_of_block (heap_alloc_new W2 _)) (Dn.one_i64 _) (by decide) HM3.out HM4.out (by have := HB.out; simp; omega) (W2.heap.size + 1) (by simp) ?_; intro g cap w1 hown hgrow hat hlt; have HO1 := hideIt hown; have HG1 := hideIt hgrow; clear hown hgrow hat hlt) | fail)
          all_goals go_roundw
          all_goals rename_i hbt
          case rel =>
            have e1 : unT pn (b 0) (n + 1) = L ++ [(n : Int)] := by
              rw [HSU.out, if_pos (by rw [← HAB.out]; exact hbt)]
            refine ⟨n + 1, by go_num, by omega, by omega, ?_, hideIt (Dn.q_grown (HQ2.out.alloc _) HG1.out HLt.out)⟩
            rw [e1, List.length_append, Dn.rowI_app]
            exact HO1.out
          case measure => simp [intOf]; omega
          case rel =>
            have e1 : unT pn (b 0) (n + 1) = L := by
              rw [HSU.out, if_neg (by rw [← HAB.out, hbt]; simp)]; simp
            refine ⟨n + 1, by go_num, by omega, by omega, ?_, HQ2⟩
            rw [e1]; exact HO3
          case measure => simp [intOf]; omega
        · have e1 := HUL.out n (by omega) (by omega) hn2
          rw [e1] at HO2 ⊢
          have e2 := unP_eq HL.out hne
          clear HUL
          go_wp2_with (fail)
          go_ret
          rw [e2]
          obtain ⟨i1, i2⟩ := own_ints HO2.out (fun x hx => by
            have := unL_mem hx
            unfold I64
            omega)
          exact ⟨_, _, rfl, i1, HU.out.q.trans HQ.out, fun b o e => Nat.le_trans HU.out.q.size (i2 b o e)⟩
    | true =>
      have HM := hideIt HU.out.mu
      go_wp2_with (fail)
      go_loopw [21, 4] (fun i v wr1 => ∃ (k : Nat) (ch : Bool) (b1 : Nat → Int), i = .int .i64 (k : Int) ∧ v = .bool ch ∧ k ≤ N ∧ Hid (UW w f.parts b1 wr1) ∧ Hid (ch = false → b1 = b ∧ ∀ j p, j < k → f.parts[j]? = some p → readP p b = b j) ∧ Hid (ch = true → mu N b1 < mu N b))
        (fun i _ _ => N - (intOf i).toNat)
      case atStart => exact ⟨0, false, b, rfl, rfl, Nat.zero_le _, HU, (fun _ => ⟨rfl, fun j p h => absurd h (Nat.not_lt_zero _)⟩ : false = false → _), (fun h => Bool.noConfusion h : false = true → _)⟩
      case round =>
        obtain ⟨k, ch, b1, rfl, rfl, hk, HU1, HC1, HC2⟩ := hrel
        obtain ⟨f0, f1, f2, f3⟩ := HF.out _ HU1.out.q
        have HM1 := hideIt HU1.out.mu
        by_cases hlt : k < N
        · obtain ⟨p, hp⟩ := get_of_lt (show k < f.parts.length by omega)
          obtain ⟨pb', po', epa, hpat, hpok⟩ := (HO.out.keep HU1.out.q).parts k p hp
          rw [HPE.out] at epa
          injection epa with epa
          injection epa with epa1 epa2
          subst epa1 epa2
          have hrf := readFrom_any _ pb (po + k * 5) p hpat hpok N (hrp p (List.mem_of_getElem? hp)) w.heap.size b1 (fun n hn => HU1.out.cell (by omega)) HU1.out.us.u (by omega)
          have HS := hideIt (fun y (q : Q _ y) => (HU1.out.keep q).step (by rw [hN]; exact hrp) hp)
          have HX := hideIt (fun y (q : Q _ y) => And.intro ((HU1.out.keep q).cell (k := k) (by omega)) (free_of_block (HU1.out.keep q).at_ k))
          have HP := hideIt hp
          obtain ⟨x, hx⟩ : ∃ x, readP p b1 = x := ⟨_, rfl⟩
          obtain ⟨z, hz⟩ : ∃ z, b1 k = z := ⟨_, rfl⟩
          have HU1x := hideIt HU1.out.us
          rw [hx] at hrf HS
          rw [hz] at HX
          have HRF := hideIt hrf
          have HXE := hideIt hx
          have HZE := hideIt hz
          have hkN : (k : Int) < (N : Int) := by omega
          clear hp hpat hpok hrf hx hz
          go_wp2_with (first | (go_at_call 46; refine HRF.out.mono ?_; rintro e y ⟨rfl, qy⟩; obtain ⟨g0, g1⟩ := HX.out y qy; have HS1 := hideIt (HS.out y qy); have QY := hideIt qy; clear qy) | fail)
          all_goals go_roundw
          all_goals rename_i hxz
          case rel =>
            have hne : x ≠ b1 k := by rw [HZE.out]; simpa using hxz
            refine ⟨k + 1, true, upd b1 k x, by go_num, rfl, hlt, HS1, (fun h => Bool.noConfusion h : true = false → _), ((fun _ => US.less HU1x.out (by rw [hN]; exact hrp) HP.out HXE.out hne ?_ hlt) : true = true → _)⟩
            cases ch with
            | false => rw [(HC1.out rfl).1]; exact Nat.le_refl _
            | true => exact Nat.le_of_lt (HC2.out rfl)
          case measure => simp [intOf]; omega
          case rel =>
            have hne : x = z := by simpa using hxz
            refine ⟨k + 1, ch, b1, by go_num, rfl, hlt, hideIt (HU1.out.keep QY.out), ((fun h => ⟨(HC1.out h).1, fun j q hj hq => ?_⟩) : ch = false → _), HC2⟩
            obtain ⟨e1, e2⟩ := HC1.out h
            by_cases e : j = k
            · subst e
              have e3 := HP.out
              rw [hq] at e3
              injection e3 with e3
              rw [← e1, e3, HXE.out, HZE.out, hne]
            · exact e2 j q (by omega) hq
          case measure => simp [intOf]; omega
        · have e1 : k = N := by omega
          subst e1
          go_wp2_with (fail)
          go_roundw
          case rel => exact ⟨ch, b1, rfl, HU1, ((fun h j p hj => by
            obtain ⟨e1, e2⟩ := HC1.out h
            rw [e1]
            exact e2 j p (by have := (List.getElem?_eq_some_iff.1 hj).1; omega) hj) : ch = false → ∀ j p, f.parts[j]? = some p → readP p b1 = b1 j)⟩
          case measure =>
            have h1 := HM1.out
            have h2 := HM.out
            rw [hN] at h1 h2
            cases ch with
            | false =>
              show 2 * muW _ _ _ + 0 < 2 * muW _ _ _ + 1
              rw [h1, h2, (HC1.out rfl).1]; omega
            | true =>
              show 2 * muW _ _ _ + 1 < 2 * muW _ _ _ + 1
              rw [h1, h2]
              have := HC2.out rfl
              omega
end Go.Proofs.Ytnaflfpkkbfnfaa.In
