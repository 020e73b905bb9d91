/-
  The document's expressions of numbers with signs between: contracts over the program; the conditions: the reader lies in memory, and what stands there is such an expression.
  The document's expression of numbers: contracts over the program; the conditions: the reader lies in memory, and what stands there is such an expression.
-/
import Derived.Test.YtoilhcklflmamaaGreatDoorKRfB
import Derived.Test.YtoilhcklflmamaaGreatDoorKPrO
namespace Go.Proofs.YtoilhcklflmamaaGreatDoor
open Go.RowKit
open Pr
set_option linter.unusedVariables false

/-- A node's kids in memory, from the block B on but not in the block N. -/
structure HN (B N : Nat) (w : World) (a : Nd) (aa : Option Addr) (cc : Nat) (ff : Fo) : Prop where
  cp : Cp a.2 ff
  sk : sok aa ff.len cc
  i : In w aa ff
  v : Av (fun b => B ≤ b ∧ b ≠ N) aa ff
  ok : a.1.ok
theorem HN.fr {R B N : Nat} {w x : World} {a : Nd} {aa : Option Addr} {cc : Nat} {ff : Fo} (h : HN B N w a aa cc ff) (hR : R < B) (k : Fr R w x) : HN B N x a aa cc ff :=
  ⟨h.cp, h.sk, in_grown k h.i (h.v.mono fun b hb e => by cases e; omega), h.v, h.ok⟩
theorem HN.q {B N : Nat} {w x : World} {a : Nd} {aa : Option Addr} {cc : Nat} {ff : Fo} (h : HN B N w a aa cc ff) (k : Q w x) : HN B N x a aa cc ff := ⟨h.cp, h.sk, h.i.keep (Nat.le_refl _) k, h.v, h.ok⟩
theorem HN.alloc {B N : Nat} {w : World} {a : Nd} {aa : Option Addr} {cc : Nat} {ff : Fo} (h : HN B N w a aa cc ff) (o : Obj) : HN B N (w.alloc o) a aa cc ff := h.q ((Q.refl w).alloc o)
theorem HN.drew {B N : Nat} {w : World} {a : Nd} {aa : Option Addr} {cc : Nat} {ff : Fo} (h : HN B N w a aa cc ff) : HN B N w.drew a aa cc ff := h.q (Q.refl w).drew
theorem HN.set {B N : Nat} {w : World} {a : Nd} {aa : Option Addr} {cc : Nat} {ff : Fo} (h : HN B N w a aa cc ff) {p : Addr} (hp : p.block = N) (u : Value) : HN B N (w.setCell p u) a aa cc ff :=
  ⟨h.cp, h.sk, in_set h.i (h.v.mono fun b hb e => by omega), h.v, h.ok⟩
theorem HN.setX {B N : Nat} {w : World} {a : Nd} {aa : Option Addr} {cc : Nat} {ff : Fo} (h : HN B N w a aa cc ff) (j : Nat) (u : Value) : HN B N (w.setCell ⟨N, j, none⟩ u) a aa cc ff := h.set rfl u
theorem HN.ls {B N : Nat} {w : World} {a : Nd} {aa : Option Addr} {cc : Nat} {ff : Fo} (h : HN B N w a aa cc ff) : Ls B w.heap.size w aa ff := ⟨h.i, (h.v.and (av_in h.i)).mono fun b hb => ⟨hb.1.1, hb.2⟩⟩
theorem li_form {B N : Nat} {w : World} {u : Value} {P G : Fo} (h : LI B w u P G) (hk : KAv (fun b => b ≠ N) G) (hrow : ∀ k, u.ownBlock = some k → k ≠ N) (h1 : 1 ≤ G.len) : ∃ a c, u = .slice a G.len c ∧ sok a G.len c ∧ In w a G ∧ Av (fun b => B ≤ b ∧ b ≠ N) a G := by
  rcases h.own.2 with ⟨_, h0⟩ | ⟨g, cap, cur, rfl, hg, hh, hn, hc, hs, ht⟩
  · omega
  · have hgN : g ≠ N := hrow g rfl
    refine ⟨some ⟨g, 0, none⟩, cap, rfl, ⟨hn, hc, fun h => by cases h⟩, In.of_cells (fun j hj => ?_) h.ki, av_of_kids ⟨hg, hgN⟩ ?_⟩
    · rw [show 0 + j = j by omega, cell_of_block hh, ← ht, List.getElem?_take_of_lt (by rw [cellsF_len] at hj; omega)]
      simp
    · exact ((h.av.mono fun b hb => hb.1).and hk).mono fun b hb => hb
theorem LI.setNe {B : Nat} {w : World} {u : Value} {P G : Fo} (h : LI B w u P G) {p : Addr} (hG : KAv (fun b => b ≠ p.block) G) (hrow : ∀ k, u.ownBlock = some k → k ≠ p.block) (x : Value) : LI B (w.setCell p x) u P G :=
  ⟨ownsRow_block h.own (fun k hk => Below.heap_setCell w p x k (hrow k hk)), ki_set h.ki hG, h.av, h.cp⟩

set_option maxRecDepth 100000 in
theorem app_node2 {B : Nat} {X : World} {u : Value} {P G : Fo} (h : LI B X u P G) (hB : B ≤ X.heap.size) (hB0 : 0 < B) {B' U : Nat} {y : Nd} {a : Option Addr} {c : Nat} {f : Fo} (hl : Ls B' U X a f) (hBB : B ≤ B') (hu : ∀ k, u.ownBlock = some k → k < B') (hok : y.1.ok) (hs : sok a f.len c) (hc : Cp y.2 f) (hG : G.len ≤ 70002) (H : Nat) (hH : X.heap.size = H)
    {ops : Array Oper} {rest : List Oper} {o : Oper} {ac : Act} {Q' : Exit → Act → World → Prop} (hgd : o.guard = none) (s z : Operand)
    (ho : o.op = Op.call { callee := Callee.builtin Builtin.append, args := #[s, z], argTypes := #[25, 25] }) (hsv : ac.eval s = u) (hx : ac.eval z = .slice (some ⟨H, 0, none⟩) 1 1)
    (k : ∀ g cap w', LI B w' (.slice (some ⟨g, 0, none⟩) (G.len + 1) cap) (P.app (one y)) (G.app (.cons y.1 a c f .nil)) → (X.alloc (.cells (cellsN y.1 (.slice a f.len c)).toArray 27)).grownBy w' u.ownBlock → (u.ownBlock = some g ∨ g = H + 1) → wpList Tryz.prog ops Q' rest (ac.put o.dst (.slice (some ⟨g, 0, none⟩) (G.len + 1) cap)) w') :
    wpList Tryz.prog ops Q' (o :: rest) ac (X.alloc (.cells (cellsN y.1 (.slice a f.len c)).toArray 27)) := by
  subst hH
  obtain ⟨i0, hi, hz0, hz1, hz2⟩ := info_parts Tryz.infoNode
  refine wpList_append_lies _ hgd s z 25 ho B 27 i0 (.agg #[.int .u8 0, .int .u8 0, .int .u8 0, .int .u8 0, .int .i64 0, .int .i64 0, .int .i64 0, .string ⟨#[]⟩, .string ⟨#[]⟩, .slice none 0 0]) 10 96 Tryz.underlying25 hi hz0 hz1 hz2 rfl (by decide) u G.len (cellsF G) hsv (h.alloc hB0 _).own ⟨X.heap.size, 0, none⟩ 1 1 (cellsN y.1 (.slice a f.len c)) hx rfl ?_ (cellsN_one _ _ _ _) (by decide) (by unfold maxLen; omega) (by omega) (by simp; omega) (X.heap.size + 1) (by simp) ?_
  · intro j u' hu'
    exact cell_new _ _ j u' hu'
  · intro g cap w' h1 h2 h3 h4
    exact k g cap w' (LI.app (h.alloc hB0 _) (hl.alloc _) hBB hu hok hs hc h1 h2 (h3.imp id (fun e => by simp; omega))) h2 h3

set_option maxRecDepth 100000 in
theorem app_step2 {B : Nat} {X : World} {u : Value} {P G : Fo} (h : LI B X u P G) (hB : B ≤ X.heap.size) (hB0 : 0 < B) {B' U : Nat} {y : Nd} {a : Option Addr} {c : Nat} {f : Fo} (hl : Ls B' U X a f) (hBB : B ≤ B') (hu : ∀ k, u.ownBlock = some k → k < B') (hok : y.1.ok) (hs : sok a f.len c) (hc : Cp y.2 f) (hG : G.len ≤ 70002) (H : Nat) (hH : X.heap.size = H)
    {ops : Array Oper} {o : Oper} {ac : Act} {K : Act → World → Prop} {Q' : Exit → Act → World → Prop} {E : Prop} (hgd : o.guard = none) (s z : Operand)
    (ho : o.op = Op.call { callee := Callee.builtin Builtin.append, args := #[s, z], argTypes := #[25, 25] }) (hsv : ac.eval s = u) (hx : ac.eval z = .slice (some ⟨H, 0, none⟩) 1 1)
    (k : ∀ g cap w', LI B w' (.slice (some ⟨g, 0, none⟩) (G.len + 1) cap) (P.app (one y)) (G.app (.cons y.1 a c f .nil)) → (X.alloc (.cells (cellsN y.1 (.slice a f.len c)).toArray 27)).grownBy w' u.ownBlock → (u.ownBlock = some g ∨ g = H + 1) → K (ac.put o.dst (.slice (some ⟨g, 0, none⟩) (G.len + 1) cap)) w') :
    if Region.wanted o (yielded ops ac.tmps) = true then Oper.wp Tryz.prog o ac (X.alloc (.cells (cellsN y.1 (.slice a f.len c)).toArray 27)) K Q' else E := by
  subst hH
  obtain ⟨i0, hi, hz0, hz1, hz2⟩ := info_parts Tryz.infoNode
  refine step_append_lies _ hgd s z 25 ho B 27 i0 (.agg #[.int .u8 0, .int .u8 0, .int .u8 0, .int .u8 0, .int .i64 0, .int .i64 0, .int .i64 0, .string ⟨#[]⟩, .string ⟨#[]⟩, .slice none 0 0]) 10 96 Tryz.underlying25 hi hz0 hz1 hz2 rfl (by decide) u G.len (cellsF G) hsv (h.alloc hB0 _).own ⟨X.heap.size, 0, none⟩ 1 1 (cellsN y.1 (.slice a f.len c)) hx rfl ?_ (cellsN_one _ _ _ _) (by decide) (by unfold maxLen; omega) (by omega) (by simp; omega) (X.heap.size + 1) (by simp) ?_
  · intro j u' hu'
    exact cell_new _ _ j u' hu'
  · intro g cap w' h1 h2 h3 h4
    exact k g cap w' (LI.app (h.alloc hB0 _) (hl.alloc _) hBB hu hok hs hc h1 h2 (h3.imp id (fun e => by simp; omega))) h2 h3

abbrev nq (kk : Nat) : NF := ⟨21, (kk : Int), 0, 0, 0, 0, 0, ⟨#[]⟩, ⟨#[]⟩⟩
abbrev LevC (R g cap : Nat) (L : List Tok) (o : Int) (m : Nat) : Prop := ∀ p i x j, 1 ≤ p → p ≤ 11 → lv L m p none i = some (x, j) → ∀ X, RR X R g cap L i o → Calls Tryz.prog 100 #[rp R, .int .i64 (p : Int)] X (PN x R g cap L j o X)

set_option maxRecDepth 100000 in
set_option maxHeartbeats 4000000 in
theorem rlevel_last (R g cap : Nat) (L : List Tok) (hL : L.length ≤ 70000) (o : Int) (n i : Nat) (x : Nd) (j : Nat) (h : lv L (n + 1) 11 none i = some (x, j)) (w : World) (hw : RR w R g cap L i o) :
    Calls Tryz.prog 100 #[rp R, .int .i64 11] w (PN x R g cap L j o w) := by
  unfold lv at h
  rw [if_pos (by decide)] at h
  cases hq : L[i]? with
  | none => rw [hq] at h; cases h
  | some q =>
    rw [hq] at h
    by_cases hc : q.1.kind = 3 ∧ i + 1 < L.length ∧ q.1.ty ≤ 5 ∧ -4294967296 ≤ q.1.n ∧ q.1.n ≤ 4294967296
    · simp only [if_pos hc, Option.some.injEq, Prod.mk.injEq] at h
      obtain ⟨rfl, rfl⟩ := h
      have HU := hideIt (fun X => runary_num R g cap L i o q hq hc.1 hc.2.1 hL hc.2.2 X)
      have HD := hideIt hw
      have hR := hw.lt_size
      clear hw hc hq
      go_enter Tryz.func100, Tryz.ntmps100
      go_wp2_with (first | (go_at_call 112; refine Calls.mono (HU.out _ (HD.out.alloc _)) ?_; rintro e x1 ⟨v1, rfl, hv1, f1, d1⟩; obtain ⟨a1, c1, g1, rfl, cp1, sk1, l1, ok1⟩ := hv1.out; have D1 := hideIt d1; have F1 := hideIt (((Fr.refl R w).alloc _).trans f1); have B1 := hideIt (Bx.fr (b := w.heap.size) (v := nk 0) (s := .slice none 0 0) (Bx.newAt _ (nk 0) (.slice none 0 0) rfl) (by omega) f1); obtain ⟨n0, n1, n2, n3, n4, n5, n6, n7, n8, n9⟩ := B1.out.ten; have nf := B1.out.free; have y1 := B1.out.lt; have LL := hideIt (Ls.mono (B' := w.heap.size + 1) l1 (by simp) (Nat.le_refl _)); have KK := hideIt (And.intro cp1 (And.intro sk1 ok1)); clear hv1 f1 d1 cp1 sk1 ok1 l1) | fail)
      refine bodyPost_ret (v := nodeV (litN q).1 (.slice a1 g1.len c1)) (by simp [results, Tryz.results100, go_sem, *]) rfl ⟨_, rfl, NV.mk (x := litN q) (B' := w.heap.size + 1) (U := x1.heap.size) KK.out.1 KK.out.2.1 (by repeat (first | with_reducible exact LL.out | (with_reducible refine Ls.set ?_ ?hh _; case hh => ((try dsimp only); omega)))) (by omega) KK.out.2.2, (by repeat with_reducible first | exact F1.out | apply Fr.alloc | apply Fr.drew | refine Fr.setNew ?_ (by (try dsimp only); omega) _), (by repeat with_reducible first | exact D1.out | apply RR.alloc | apply RR.drew | refine RR.setCell ?_ (by (try dsimp only); omega) _)⟩
    · simp only [if_neg hc] at h
      cases h

set_option maxRecDepth 100000 in
set_option maxHeartbeats 4000000 in
theorem rlevel_step (R g cap : Nat) (L : List Tok) (hL : L.length ≤ 70000) (o : Int) (n : Nat) (IH : ∀ m, m ≤ n → LevC R g cap L o m) (p i : Nat) (x : Nd) (j : Nat) (hp1 : 1 ≤ p) (hp : p ≤ 10) (h : lv L (n + 1) p none i = some (x, j)) (w : World) (hw : RR w R g cap L i o) :
    Calls Tryz.prog 100 #[rp R, .int .i64 (p : Int)] w (PN x R g cap L j o w) := by
  have e : lv L (n + 1) p none i = (lv L n (p + 1) none i).bind fun r => lv L n p (some r.1) r.2 := by
    show (if 10 < p then _ else _) = _
    rw [if_neg (by omega)]
  rw [e] at h
  clear e
  cases h0 : lv L n (p + 1) none i with
  | none => rw [h0] at h; cases h
  | some r0 =>
    obtain ⟨a0, i0⟩ := r0
    rw [h0] at h
    simp only [Option.bind_some] at h
    have HX := hideIt h
    have CL := hideIt (fun X hX => IH n (Nat.le_refl _) (p + 1) i a0 i0 (by omega) (by omega) h0 X hX)
    have HIH := hideIt IH
    have HD := hideIt hw
    have hR := hw.lt_size
    have hpi : (p : Int) ≤ 10 := by omega
    have hpd : decide ((10 : Int) < (p : Int)) = false := by simp; omega
    have hpc : ((p + 1 : Nat) : Int) = (p : Int) + 1 := by omega
    rw [hpc] at CL
    clear hw h h0 IH hpc
    go_enter Tryz.func100, Tryz.ntmps100
    go_wp2_with (first | (go_at_call 100; refine Calls.mono (CL.out _ (HD.out.alloc _)) ?_; rintro e x1 ⟨v1, rfl, hv1, f1, d1⟩; obtain ⟨a1, c1, g1, rfl, cp1, sk1, l1, ok1⟩ := hv1.out; have D1 := hideIt d1; have F1 := hideIt (((Fr.refl R w).alloc _).trans f1); have B1 := hideIt (Bx.fr (b := w.heap.size) (v := nk 0) (s := .slice none 0 0) (Bx.newAt _ (nk 0) (.slice none 0 0) rfl) (by omega) f1); have y1 := B1.out.lt; have LL := hideIt (Ls.mono (B' := w.heap.size + 1) l1 (by simp) (Nat.le_refl _)); have KK := hideIt (And.intro cp1 (And.intro sk1 ok1)); clear CL hv1 f1 d1 cp1 sk1 ok1 l1) | fail)
    go_loopg [] n (fun m wr => ∃ (a : Nd) (i1 : Nat) (aa : Option Addr) (cc : Nat) (ff : Fo), Hid (lv L m p (some a) i1 = some (x, j)) ∧ m ≤ n ∧ Hid (Bx wr w.heap.size (nk 0) (.slice none 0 0)) ∧ Hid (Bx wr x1.heap.size a.1 (.slice aa ff.len cc)) ∧ Hid (HN (w.heap.size + 1) x1.heap.size wr a aa cc ff) ∧ Hid (RR wr R g cap L i1 o) ∧ Hid (Fr R w wr))
    case atStart => exact ⟨a0, i0, a1, c1, g1, HX.out, Nat.le_refl _, B1.out.alloc _, Bx.new x1 a0.1 (.slice a1 g1.len c1), ⟨KK.out.1, KK.out.2.1, (LL.out.alloc _).i, LL.out.v.mono fun b hb => ⟨hb.1, by omega⟩, KK.out.2.2⟩, D1.out.alloc _, F1.out.alloc _⟩
    case round =>
      obtain ⟨a, i1, aa, cc, ff, EE, hm, BR, BA, HA, D2, F2⟩ := hrel
      clear D1 F1 B1 LL KK HX HD
      generalize wr = w2 at *
      have hR2 := D2.out.lt_size
      have yr2 := BR.out.lt
      have ya2 := BA.out.lt
      have hx1 : w.heap.size + 1 ≤ x1.heap.size := by omega
      cases gk with
      | zero => exact absurd EE.out (by unfold lv; exact fun e => by cases e)
      | succ m =>
        cases hq : L[i1]? with
        | none => exact absurd EE.out (by unfold lv; simp only [hq]; exact fun e => by cases e)
        | some q =>
          have E1 : lv L (m + 1) p (some a) i1 = if opTo q p 18 = 0 then some (a, i1) else if i1 + 1 < L.length then (lv L m (p + 1) none (i1 + 1)).bind fun r => lv L m p (some (binN (opTo q p 18) a r.1)) r.2 else none := by
            show (match L[i1]? with | none => none | some q => _) = _
            rw [hq]
          rw [E1] at EE
          clear E1
          have HQ := hideIt hq
          have HIS := hideIt (fun x X => ris_any R g cap L i1 o q hq x X)
          clear hq
          go_wp2_with (fail)
          go_loopw [6, 7] (fun op k wr => ∃ kq : Nat, op = .int .i64 (opTo q p kq : Nat) ∧ k = .int .i64 ((kq : Int) + 1) ∧ kq ≤ 18 ∧ Hid (Q w2 wr)) (fun _ k _ => 20 - (intOf k).toNat)
          case atStart => exact ⟨0, rfl, rfl, by omega, Q.refl _⟩
          case round =>
            obtain ⟨kq, rfl, rfl, hkq, G0⟩ := hrel
            by_cases hlt : kq < 18
            · have hki : (kq : Int) + 1 ≤ 18 := by omega
              have HPW := hideIt (fun X => rpower_any (kq + 1) (by omega) (by omega) X)
              have HSG := hideIt (fun X => rsign_any' (kq + 1) (by omega) (by omega) X)
              have hc1 : ((kq + 1 : Nat) : Int) = (kq : Int) + 1 := by omega
              rw [hc1] at HPW HSG
              have hop : opTo q p (kq + 1) = if powT (kq + 1) = p ∧ isB q (sgnT (kq + 1)) = true then kq + 1 else opTo q p kq := rfl
              have HOP := hideIt hop
              clear hop hc1
              by_cases hpp : powT (kq + 1) = p
              · have hpe : ((powT (kq + 1) : Int) == (p : Int)) = true := by rw [hpp]; simp
                cases hb : isB q (sgnT (kq + 1)) with
                | true =>
                  have HO := hideIt (show opTo q p (kq + 1) = kq + 1 by rw [HOP.out, if_pos ⟨hpp, hb⟩])
                  clear hpp
                  go_wp2_with (first | (go_at_call 14; refine Calls.mono (HPW.out _) ?_; rintro e z1 ⟨rfl, q1⟩; have G1 := hideIt (G0.out.trans q1); clear q1) | (go_at_call 13; refine Calls.mono (HSG.out _) ?_; rintro e z2 ⟨rfl, q2⟩; have G2 := hideIt (G1.out.trans q2); clear q2) | (go_at_call 45; refine Calls.mono (HIS.out _ _ (D2.out.q G2.out)) ?_; (try rw [hb]); rintro e z3 ⟨rfl, q3⟩; have G3 := hideIt (G2.out.trans q3); clear q3) | fail)
                  go_roundw
                  case rel => exact ⟨kq + 1, by rw [HO.out]; go_num, by go_num, by omega, G3⟩
                  case measure => simp [intOf]; omega
                | false =>
                  have HO := hideIt (show opTo q p (kq + 1) = opTo q p kq by rw [HOP.out, if_neg (by rw [hb]; simp)])
                  clear hpp
                  go_wp2_with (first | (go_at_call 14; refine Calls.mono (HPW.out _) ?_; rintro e z1 ⟨rfl, q1⟩; have G1 := hideIt (G0.out.trans q1); clear q1) | (go_at_call 13; refine Calls.mono (HSG.out _) ?_; rintro e z2 ⟨rfl, q2⟩; have G2 := hideIt (G1.out.trans q2); clear q2) | (go_at_call 45; refine Calls.mono (HIS.out _ _ (D2.out.q G2.out)) ?_; (try rw [hb]); rintro e z3 ⟨rfl, q3⟩; have G3 := hideIt (G2.out.trans q3); clear q3) | fail)
                  go_roundw
                  case rel => exact ⟨kq + 1, by rw [HO.out], by go_num, by omega, G3⟩
                  case measure => simp [intOf]; omega
              · have hpe : ((powT (kq + 1) : Int) == (p : Int)) = false := by simp; omega
                have HO := hideIt (show opTo q p (kq + 1) = opTo q p kq by rw [HOP.out, if_neg (fun h => hpp h.1)])
                clear hpp
                go_wp2_with (first | (go_at_call 14; refine Calls.mono (HPW.out _) ?_; rintro e z1 ⟨rfl, q1⟩; have G1 := hideIt (G0.out.trans q1); clear q1) | fail)
                go_roundw
                case rel => exact ⟨kq + 1, by rw [HO.out], by go_num, by omega, G1⟩
                case measure => simp [intOf]; omega
            · obtain rfl : kq = 18 := by omega
              have hole := opTo_le q p 18
              obtain ⟨kk, hkk⟩ : ∃ kk, opTo q p 18 = kk := ⟨_, rfl⟩
              rw [hkk] at EE hole ⊢
              clear hkk HIS
              by_cases hz : kk = 0
              · rw [if_pos hz] at EE
                subst hz
                have EX := EE.out
                simp only [Option.some.injEq, Prod.mk.injEq] at EX
                obtain ⟨rfl, rfl⟩ := EX
                have BA3 := hideIt (show Bx wr x1.heap.size a.1 (.slice aa ff.len cc) from (G0.out.block _ ya2).trans BA.out)
                have BR3 := hideIt (show Bx wr w.heap.size (nk 0) (.slice none 0 0) from (G0.out.block _ yr2).trans BR.out)
                have HA3 := hideIt (HA.out.q G0.out)
                have D3 := hideIt (D2.out.q G0.out)
                have F3 := hideIt (F2.out.q G0.out)
                obtain ⟨n0, n1, n2, n3, n4, n5, n6, n7, n8, n9⟩ := BR3.out.ten
                have nf := BR3.out.free
                obtain ⟨b0, b1, b2, b3, b4, b5, b6, b7, b8, b9⟩ := BA3.out.ten
                have y3 := BR3.out.lt
                have y4 := BA3.out.lt
                go_wp2_with (fail)
                refine bodyPost_ret (v := nodeV a.1 (.slice aa ff.len cc)) (by simp [results, Tryz.results100, go_sem, *]) rfl ⟨_, rfl, ⟨aa, cc, ff, rfl, HA3.out.cp, HA3.out.sk, ?_, HA3.out.v.mono fun b hb => by omega, HA3.out.ok⟩, (by repeat with_reducible first | exact F3.out | apply Fr.alloc | apply Fr.drew | refine Fr.setNew ?_ (by (try dsimp only); omega) _), (by repeat with_reducible first | exact D3.out | apply RR.alloc | apply RR.drew | refine RR.setCell ?_ (by (try dsimp only); omega) _)⟩
                refine Ls.i (B := w.heap.size + 1) (U := wr.heap.size) ?_
                repeat (refine Ls.set ?_ (Or.inl (by dsimp only; omega)) _)
                exact HA3.out.ls
              · rw [if_neg hz] at EE
                by_cases hl : i1 + 1 < L.length
                · rw [if_pos hl] at EE
                  cases h7 : lv L m (p + 1) none (i1 + 1) with
                  | none => rw [h7] at EE; exact absurd EE.out (fun e => by cases e)
                  | some r7 =>
                    obtain ⟨y, i2⟩ := r7
                    rw [h7] at EE
                    simp only [Option.bind_some] at EE
                    have C7 := hideIt (fun X hX => HIH.out m (by omega) (p + 1) (i1 + 1) y i2 (by omega) (by omega) h7 X hX)
                    have hpc : ((p + 1 : Nat) : Int) = (p : Int) + 1 := by omega
                    rw [hpc] at C7
                    have HNX := hideIt (fun X => rnext_any R g cap L i1 o hl hL X)
                    clear h7 hpc HIH
                    have BA3 := hideIt (show Bx wr x1.heap.size a.1 (.slice aa ff.len cc) from (G0.out.block _ ya2).trans BA.out)
                    have BR3 := hideIt (show Bx wr w.heap.size (nk 0) (.slice none 0 0) from (G0.out.block _ yr2).trans BR.out)
                    have HA3 := hideIt (HA.out.q G0.out)
                    have D3 := hideIt (D2.out.q G0.out)
                    have F3 := hideIt (F2.out.q G0.out)
                    clear G0 BA BR HA D2 F2 yr2 ya2 hR2
                    have hw8 : IntKind.u8.wrap (kk : Int) = (kk : Int) := by rw [IntKind.wrap_u8]; omega
                    have hkz : ((kk : Int) == 0) = false := by simp; omega
                    have OKB := hideIt (show (binN kk a y).1.ok by refine nf_ok ?_ ?_ ?_ ?_ ?_ ?_ ?_ ?_ ?_ <;> first | omega | decide | exact Nat.zero_le _)
                    have yr3 := BR3.out.lt
                    have ya3 := BA3.out.lt
                    go_wp2_with (first | (go_at_call 77; refine Calls.mono (HNX.out _ D3.out) ?_; rintro e x5 ⟨rfl, f5, d5⟩; have D5 := hideIt d5; have F5 := hideIt (F3.out.trans f5); have BA5 := hideIt (Bx.fr BA3.out (by omega) f5); have BR5 := hideIt (Bx.fr BR3.out (by omega) f5); have HA5 := hideIt (HA3.out.fr (R := R) (by omega) f5); have yr5 := BR5.out.lt; have ya5 := BA5.out.lt; obtain ⟨b0, b1, b2, b3, b4, b5, b6, b7, b8, b9⟩ := BA5.out.ten; clear HNX f5 d5) | (at_builtin; refine app_node2 (B := w.heap.size + 1) (X := x5.alloc (.cells (cellsN (nq kk) (.slice none 0 0)).toArray 27)) (LI.nil _ _) (by simp; omega) (by omega) (y := a) (HA5.out.alloc _).ls (Nat.le_refl _) (fun k hk => by cases hk) HA5.out.ok HA5.out.sk HA5.out.cp (by simp [Fo.len]) (x5.heap.size + 1) (by simp) rfl (.tmp 41) (.tmp 43) rfl rfl rfl ?_; intro g6 c6 x5b li6 gr6 at6; have AT6 := hideIt (show g6 = x5.heap.size + 1 + 1 from at6.elim (fun e => by cases e) id); have Z6 : x5.heap.size + 1 + 1 ≤ x5b.heap.size := (by have z := gr6.size; (try simp at z); omega); have BN5 := hideIt (Bx.grown ((Bx.new x5 (nq kk) (.slice none 0 0)).alloc _) gr6 (fun e => by cases e)); have BR5b := hideIt (Bx.grown ((BR5.out.alloc _).alloc _) gr6 (fun e => by cases e)); have BA5b := hideIt (Bx.grown ((BA5.out.alloc _).alloc _) gr6 (fun e => by cases e)); have D5b := hideIt (RR.grown ((D5.out.alloc _).alloc _) gr6 (fun k hk => by cases hk)); have F5b := hideIt (Fr.grown ((F5.out.alloc _).alloc _) gr6 (fun k hk => by cases hk)); have g6lt := (li6.lt g6 rfl).2; have I5b := hideIt li6; obtain ⟨n0, n1, n2, n3, n4, n5, n6, n7, n8, n9⟩ := BN5.out.ten; have nf := BN5.out.free; have yn5 := BN5.out.lt; clear li6 gr6 at6) | fail)
                    have BN6 := hideIt (BN5.out.at9 (.slice (some ⟨g6, 0, none⟩) (Fo.nil.len + 1) c6))
                    have I6 := hideIt (LI.setNe (p := ⟨x5.heap.size, 9, none⟩) I5b.out ⟨HA5.out.ls.v.mono fun b hb => by show b ≠ x5.heap.size; omega, trivial⟩ (fun k hk => by have e : g6 = k := (by simpa [Value.ownBlock] using hk); have := AT6.out; show k ≠ x5.heap.size; omega) (.slice (some ⟨g6, 0, none⟩) (Fo.nil.len + 1) c6))
                    have BR6 := hideIt (BR5b.out.set (p := ⟨x5.heap.size, 9, none⟩) (by show w.heap.size ≠ x5.heap.size; omega) (.slice (some ⟨g6, 0, none⟩) (Fo.nil.len + 1) c6))
                    have BA6 := hideIt (BA5b.out.set (p := ⟨x5.heap.size, 9, none⟩) (by show x1.heap.size ≠ x5.heap.size; omega) (.slice (some ⟨g6, 0, none⟩) (Fo.nil.len + 1) c6))
                    have D6 := hideIt (D5b.out.setCell (p := ⟨x5.heap.size, 9, none⟩) (by show R < x5.heap.size; omega) (.slice (some ⟨g6, 0, none⟩) (Fo.nil.len + 1) c6))
                    have F6 := hideIt (F5b.out.setNew (p := ⟨x5.heap.size, 9, none⟩) (by show w.heap.size ≤ x5.heap.size; omega) (.slice (some ⟨g6, 0, none⟩) (Fo.nil.len + 1) c6))
                    have Z6b : g6 < (x5b.setCell ⟨x5.heap.size, 9, none⟩ (.slice (some ⟨g6, 0, none⟩) (Fo.nil.len + 1) c6)).heap.size := by simpa using g6lt
                    clear n0 n1 n2 n3 n4 n5 n6 n7 n8 n9 nf yn5 Z6 g6lt BN5 BR5b BA5b D5b F5b I5b
                    generalize x5b.setCell ⟨x5.heap.size, 9, none⟩ (.slice (some ⟨g6, 0, none⟩) (Fo.nil.len + 1) c6) = x6 at *
                    obtain ⟨n0, n1, n2, n3, n4, n5, n6, n7, n8, n9⟩ := BN6.out.ten
                    have nf := BN6.out.free
                    have yn6 := BN6.out.lt
                    have hwp : IntKind.i64.wrap ((p : Int) + 1) = (p : Int) + 1 := by rw [IntKind.wrap_i64]; omega
                    refine wp_region_held_drew (S := fun _ => True) (by kernel_rfl) (trivial) (fun hHeld => ?_)
                    refine wpAnyH_take (i := 0) (oi := ⟨_, _, _, _, _, _⟩) (v := ?_) rfl (by kernel_rfl) (by kernel_rfl) (by kernel_rfl) (fun _ _ _ h => h) (Or.inl ⟨by rfl, ?_⟩) (by assumption) ?_
                    rotate_left 1
                    · intro w hSw; (try dsimp only at hSw); go_simp; all_goals with_reducible rfl
                    try simp only [Act.put, List.setIfInBounds_toArray, List.set_cons_zero, List.set_cons_succ]
                    refine wpAnyH_take (i := 2) (oi := ⟨_, _, _, _, _, _⟩) (v := ?_) rfl (by kernel_rfl) (by kernel_rfl) (by kernel_rfl) (fun _ _ _ h => h) (Or.inl ⟨by rfl, ?_⟩) (by assumption) ?_
                    rotate_left 1
                    · intro w hSw; (try dsimp only at hSw); go_simp; all_goals with_reducible rfl
                    try simp only [Act.put, List.setIfInBounds_toArray, List.set_cons_zero, List.set_cons_succ]
                    refine wpAnyH_take (i := 3) (oi := ⟨_, _, _, _, _, _⟩) (v := ?_) rfl (by kernel_rfl) (by kernel_rfl) (by kernel_rfl) (fun _ _ _ h => h) (Or.inl ⟨by rfl, ?_⟩) (by assumption) ?_
                    rotate_left 1
                    · intro w hSw; (try dsimp only at hSw); go_simp; all_goals with_reducible rfl
                    try simp only [Act.put, List.setIfInBounds_toArray, List.set_cons_zero, List.set_cons_succ]
                    refine wpAnyH_take (i := 4) (oi := ⟨_, _, _, _, _, _⟩) (v := ?_) rfl (by kernel_rfl) (by kernel_rfl) (by kernel_rfl) (fun _ _ _ h => h) (Or.inl ⟨by rfl, ?_⟩) (by assumption) ?_
                    rotate_left 1
                    · intro w hSw; (try dsimp only at hSw); go_simp; all_goals with_reducible rfl
                    try simp only [Act.put, List.setIfInBounds_toArray, List.set_cons_zero, List.set_cons_succ]
                    refine wpAnyH_ready (rs := [1, 5]) (by kernel_rfl) (by simp) (AllReadyH.cons (o := ⟨_, _, _, _, _, _⟩) rfl (fun K hK => ?_) (AllReadyH.cons (o := ⟨_, _, _, _, _, _⟩) rfl (fun K hK => ?_) AllReadyH.nil))
                    · go_simp
                      refine hK.out _ _ ?_ (fun hHeld => ?_)
                      · trivial
                      clear hK K
                      try simp only [Act.put, List.setIfInBounds_toArray, List.set_cons_zero, List.set_cons_succ]
                      refine wpAnyH_ready (rs := [5]) (by kernel_rfl) (by simp) (AllReadyH.cons (o := ⟨_, _, _, _, _, _⟩) rfl (fun K hK => ?_) AllReadyH.nil)
                      go_simp
                      (go_at_call 100; refine Calls.mono (C7.out _ (D6.out.drew)) ?_; rintro e x7 ⟨v7, rfl, hv7, f7, d7⟩; obtain ⟨a7, c7, g7, rfl, cp7, sk7, l7, ok7⟩ := hv7.out; have D7 := hideIt d7; have F7 := hideIt (show Fr R w x7 from Fr.trans (F6.out.drew) f7); have Z7 : x6.heap.size ≤ x7.heap.size := (by have z := f7.size; (try simp at z); omega); have LY := hideIt (Ls.mono (B' := x6.heap.size) l7 (by (try simp) <;> (try omega)) (Nat.le_refl _)); have KY := hideIt (And.intro cp7 (And.intro sk7 ok7)); have I7 := hideIt (LI.fr (I6.out.fr (R := R) (by omega) (Fr.refl R x6).drew) (R := R) (by omega) f7); have BN7 := hideIt (Bx.fr BN6.out.drew (by omega) f7); have BR7 := hideIt (Bx.fr BR6.out.drew (by omega) f7); have BA7 := hideIt (Bx.fr BA6.out.drew (by omega) f7); have yn7 := BN7.out.lt; have yr7 := BR7.out.lt; have ya7 := BA7.out.lt; clear n0 n1 n2 n3 n4 n5 n6 n7 n8 n9 nf; obtain ⟨n0, n1, n2, n3, n4, n5, n6, n7, n8, n9⟩ := BN7.out.ten; have nf := BN7.out.free; clear C7 hv7 l7 cp7 sk7 ok7 d7 f7)
                      refine hK.out _ _ ?_ (fun hHeld => ?_)
                      · trivial
                      clear hK K
                      try simp only [Act.put, List.setIfInBounds_toArray, List.set_cons_zero, List.set_cons_succ]
                      refine wpAnyH_ready (rs := [6]) (by kernel_rfl) (by simp) (AllReadyH.cons (o := ⟨_, _, _, _, _, _⟩) rfl (fun K hK => ?_) AllReadyH.nil)
                      go_simp
                      refine hK.out _ _ ?_ (fun hHeld => ?_)
                      · trivial
                      clear hK K
                      try simp only [Act.put, List.setIfInBounds_toArray, List.set_cons_zero, List.set_cons_succ]
                      refine wpAnyH_ready (rs := [7]) (by kernel_rfl) (by simp) (AllReadyH.cons (o := ⟨_, _, _, _, _, _⟩) rfl (fun K hK => ?_) AllReadyH.nil)
                      refine app_step2 (B := w.heap.size + 1) (X := x7) I7.out (by omega) (by omega) (y := y) LY.out (by omega) (fun k hk => by have e : g6 = k := (by simpa [Value.ownBlock] using hk); omega) KY.out.2.2 KY.out.2.1 KY.out.1 (by show (1 : Nat) ≤ 70002; omega) x7.heap.size rfl rfl (.tmp 47) (.tmp 52) rfl rfl rfl ?_; intro gg cg x9 li9 gr9 at9; have I9 := hideIt li9; have AT9 := hideIt (show gg = g6 ∨ gg = x7.heap.size + 1 from at9.imp (fun e => (by simpa [Value.ownBlock] using e.symm)) id); have ROW := hideIt (fun (k : Nat) (hk : Value.ownBlock (.slice (some ⟨g6, 0, none⟩) (Fo.nil.len + 1) c6) = some k) => (show k = g6 by simpa [Value.ownBlock] using hk.symm)); have D9 := hideIt (RR.grown (D7.out.alloc _) gr9 (fun k hk => by have := ROW.out k hk; have := AT6.out; omega)); have F9 := hideIt (Fr.grown (F7.out.alloc _) gr9 (fun k hk => by have := ROW.out k hk; have := AT6.out; omega)); have BN9 := hideIt (Bx.grown (BN7.out.alloc _) gr9 (fun e => by have := ROW.out _ e; have := AT6.out; omega)); have BR9 := hideIt (Bx.grown (BR7.out.alloc _) gr9 (fun e => by have := ROW.out _ e; have := AT6.out; omega)); have BA9 := hideIt (Bx.grown (BA7.out.alloc _) gr9 (fun e => by have := ROW.out _ e; have := AT6.out; omega)); have yn9 := BN9.out.lt; have yr9 := BR9.out.lt; have ya9 := BA9.out.lt; clear n0 n1 n2 n3 n4 n5 n6 n7 n8 n9 nf; obtain ⟨n0, n1, n2, n3, n4, n5, n6, n7, n8, n9⟩ := BN9.out.ten; have nf := BN9.out.free; obtain ⟨b0, b1, b2, b3, b4, b5, b6, b7, b8, b9⟩ := BA9.out.ten; have bf := BA9.out.free; clear li9 gr9 at9
                      refine hK.out _ _ ?_ (fun hHeld => ?_)
                      · trivial
                      clear hK K
                      try simp only [Act.put, List.setIfInBounds_toArray, List.set_cons_zero, List.set_cons_succ]
                      refine wpAnyH_take (i := 8) (oi := ⟨_, _, _, _, _, _⟩) (v := ?_) rfl (by kernel_rfl) (by kernel_rfl) (by kernel_rfl) (fun _ _ _ h => h) (Or.inl ⟨by rfl, ?_⟩) (by assumption) ?_
                      rotate_left 1
                      · intro w hSw; (try dsimp only at hSw); go_simp; all_goals with_reducible rfl
                      try simp only [Act.put, List.setIfInBounds_toArray, List.set_cons_zero, List.set_cons_succ]
                      refine wpAnyH_ready (rs := [9]) (by kernel_rfl) (by simp) (AllReadyH.cons (o := ⟨_, _, _, _, _, _⟩) rfl (fun K hK => ?_) AllReadyH.nil)
                      go_simp
                      refine hK.out _ _ ?_ (fun hHeld => ?_)
                      · trivial
                      clear hK K
                      try simp only [Act.put, List.setIfInBounds_toArray, List.set_cons_zero, List.set_cons_succ]
                      refine wpAnyH_done (by kernel_rfl) ?_ _
                      go_wp2_with (fail)
                      go_roundg m
                      case measure => omega
                      case rel =>
                        have KA := hideIt (show KAv (fun b => b ≠ x1.heap.size) (Fo.app (.cons a.1 aa cc ff .nil) (.cons y.1 a7 c7 g7 .nil)) from ⟨HA5.out.v.mono fun b hb => hb.2, LY.out.v.mono fun b hb => by omega, trivial⟩)
                        have KN := hideIt (show KAv (fun b => b ≠ x5.heap.size) (Fo.app (.cons a.1 aa cc ff .nil) (.cons y.1 a7 c7 g7 .nil)) from ⟨HA5.out.ls.v.mono fun b hb => by omega, LY.out.v.mono fun b hb => by omega, trivial⟩)
                        obtain ⟨a', c', eu, sk', in', av'⟩ := li_form (N := x1.heap.size) I9.out KA.out (fun k hk => by have e : gg = k := (by simpa [Value.ownBlock] using hk); have := AT9.out; have := AT6.out; omega) (by simp [Fo.len, Fo.app])
                        obtain ⟨a2', c2', eu2, _, _, av2⟩ := li_form (N := x5.heap.size) I9.out KN.out (fun k hk => by have e : gg = k := (by simpa [Value.ownBlock] using hk); have := AT9.out; have := AT6.out; omega) (by simp [Fo.len, Fo.app])
                        simp only [Value.slice.injEq] at eu eu2
                        obtain ⟨rfl, _, rfl⟩ := eu
                        obtain ⟨rfl, _, rfl⟩ := eu2
                        have HH2 : HN (w.heap.size + 1) x1.heap.size (x9.setCell ⟨x5.heap.size, 9, none⟩ (.slice (some ⟨gg, 0, none⟩) 2 cg)) (binN kk a y) (some ⟨gg, 0, none⟩) cg (Fo.app (.cons a.1 aa cc ff .nil) (.cons y.1 a7 c7 g7 .nil)) := ⟨I9.out.cp, sk', in_set in' (av2.mono fun b hb e => hb.2 e), av', OKB.out⟩
                        refine ⟨binN kk a y, i2, some ⟨gg, 0, none⟩, cg, Fo.app (.cons a.1 aa cc ff .nil) (.cons y.1 a7 c7 g7 .nil), EE.out, by omega, ?_, ?_, ?_, ?_, ?_⟩
                        · refine hideIt ?_
                          exact (by repeat with_reducible first | exact BR9.out | apply Bx.alloc | apply Bx.drew | refine Bx.set ?_ (by (try dsimp only); omega) _)
                        · exact hideIt ((BA9.out.set (by dsimp only; omega) _).whole (binN kk a y).1 _)
                        · refine hideIt ?_
                          iterate 10 (refine HN.setX ?_ _ _)
                          exact HH2
                        · refine hideIt ?_
                          exact (by repeat with_reducible first | exact D9.out | apply RR.alloc | apply RR.drew | refine RR.setCell ?_ (by (try dsimp only); omega) _)
                        · refine hideIt ?_
                          exact (by repeat with_reducible first | exact F9.out | apply Fr.alloc | apply Fr.drew | refine Fr.setNew ?_ (by (try dsimp only); omega) _)
                    · go_simp
                      (go_at_call 100; refine Calls.mono (C7.out _ (D6.out.drew)) ?_; rintro e x7 ⟨v7, rfl, hv7, f7, d7⟩; obtain ⟨a7, c7, g7, rfl, cp7, sk7, l7, ok7⟩ := hv7.out; have D7 := hideIt d7; have F7 := hideIt (show Fr R w x7 from Fr.trans (F6.out.drew) f7); have Z7 : x6.heap.size ≤ x7.heap.size := (by have z := f7.size; (try simp at z); omega); have LY := hideIt (Ls.mono (B' := x6.heap.size) l7 (by (try simp) <;> (try omega)) (Nat.le_refl _)); have KY := hideIt (And.intro cp7 (And.intro sk7 ok7)); have I7 := hideIt (LI.fr (I6.out.fr (R := R) (by omega) (Fr.refl R x6).drew) (R := R) (by omega) f7); have BN7 := hideIt (Bx.fr BN6.out.drew (by omega) f7); have BR7 := hideIt (Bx.fr BR6.out.drew (by omega) f7); have BA7 := hideIt (Bx.fr BA6.out.drew (by omega) f7); have yn7 := BN7.out.lt; have yr7 := BR7.out.lt; have ya7 := BA7.out.lt; clear n0 n1 n2 n3 n4 n5 n6 n7 n8 n9 nf; obtain ⟨n0, n1, n2, n3, n4, n5, n6, n7, n8, n9⟩ := BN7.out.ten; have nf := BN7.out.free; clear C7 hv7 l7 cp7 sk7 ok7 d7 f7)
                      refine hK.out _ _ ?_ (fun hHeld => ?_)
                      · trivial
                      clear hK K
                      try simp only [Act.put, List.setIfInBounds_toArray, List.set_cons_zero, List.set_cons_succ]
                      refine wpAnyH_ready (rs := [1, 6]) (by kernel_rfl) (by simp) (AllReadyH.cons (o := ⟨_, _, _, _, _, _⟩) rfl (fun K hK => ?_) (AllReadyH.cons (o := ⟨_, _, _, _, _, _⟩) rfl (fun K hK => ?_) AllReadyH.nil))
                      · go_simp
                        refine hK.out _ _ ?_ (fun hHeld => ?_)
                        · trivial
                        clear hK K
                        try simp only [Act.put, List.setIfInBounds_toArray, List.set_cons_zero, List.set_cons_succ]
                        refine wpAnyH_ready (rs := [6]) (by kernel_rfl) (by simp) (AllReadyH.cons (o := ⟨_, _, _, _, _, _⟩) rfl (fun K hK => ?_) AllReadyH.nil)
                        go_simp
                        refine hK.out _ _ ?_ (fun hHeld => ?_)
                        · trivial
                        clear hK K
                        try simp only [Act.put, List.setIfInBounds_toArray, List.set_cons_zero, List.set_cons_succ]
                        refine wpAnyH_ready (rs := [7]) (by kernel_rfl) (by simp) (AllReadyH.cons (o := ⟨_, _, _, _, _, _⟩) rfl (fun K hK => ?_) AllReadyH.nil)
                        refine app_step2 (B := w.heap.size + 1) (X := x7) I7.out (by omega) (by omega) (y := y) LY.out (by omega) (fun k hk => by have e : g6 = k := (by simpa [Value.ownBlock] using hk); omega) KY.out.2.2 KY.out.2.1 KY.out.1 (by show (1 : Nat) ≤ 70002; omega) x7.heap.size rfl rfl (.tmp 47) (.tmp 52) rfl rfl rfl ?_; intro gg cg x9 li9 gr9 at9; have I9 := hideIt li9; have AT9 := hideIt (show gg = g6 ∨ gg = x7.heap.size + 1 from at9.imp (fun e => (by simpa [Value.ownBlock] using e.symm)) id); have ROW := hideIt (fun (k : Nat) (hk : Value.ownBlock (.slice (some ⟨g6, 0, none⟩) (Fo.nil.len + 1) c6) = some k) => (show k = g6 by simpa [Value.ownBlock] using hk.symm)); have D9 := hideIt (RR.grown (D7.out.alloc _) gr9 (fun k hk => by have := ROW.out k hk; have := AT6.out; omega)); have F9 := hideIt (Fr.grown (F7.out.alloc _) gr9 (fun k hk => by have := ROW.out k hk; have := AT6.out; omega)); have BN9 := hideIt (Bx.grown (BN7.out.alloc _) gr9 (fun e => by have := ROW.out _ e; have := AT6.out; omega)); have BR9 := hideIt (Bx.grown (BR7.out.alloc _) gr9 (fun e => by have := ROW.out _ e; have := AT6.out; omega)); have BA9 := hideIt (Bx.grown (BA7.out.alloc _) gr9 (fun e => by have := ROW.out _ e; have := AT6.out; omega)); have yn9 := BN9.out.lt; have yr9 := BR9.out.lt; have ya9 := BA9.out.lt; clear n0 n1 n2 n3 n4 n5 n6 n7 n8 n9 nf; obtain ⟨n0, n1, n2, n3, n4, n5, n6, n7, n8, n9⟩ := BN9.out.ten; have nf := BN9.out.free; obtain ⟨b0, b1, b2, b3, b4, b5, b6, b7, b8, b9⟩ := BA9.out.ten; have bf := BA9.out.free; clear li9 gr9 at9
                        refine hK.out _ _ ?_ (fun hHeld => ?_)
                        · trivial
                        clear hK K
                        try simp only [Act.put, List.setIfInBounds_toArray, List.set_cons_zero, List.set_cons_succ]
                        refine wpAnyH_take (i := 8) (oi := ⟨_, _, _, _, _, _⟩) (v := ?_) rfl (by kernel_rfl) (by kernel_rfl) (by kernel_rfl) (fun _ _ _ h => h) (Or.inl ⟨by rfl, ?_⟩) (by assumption) ?_
                        rotate_left 1
                        · intro w hSw; (try dsimp only at hSw); go_simp; all_goals with_reducible rfl
                        try simp only [Act.put, List.setIfInBounds_toArray, List.set_cons_zero, List.set_cons_succ]
                        refine wpAnyH_ready (rs := [9]) (by kernel_rfl) (by simp) (AllReadyH.cons (o := ⟨_, _, _, _, _, _⟩) rfl (fun K hK => ?_) AllReadyH.nil)
                        go_simp
                        refine hK.out _ _ ?_ (fun hHeld => ?_)
                        · trivial
                        clear hK K
                        try simp only [Act.put, List.setIfInBounds_toArray, List.set_cons_zero, List.set_cons_succ]
                        refine wpAnyH_done (by kernel_rfl) ?_ _
                        go_wp2_with (fail)
                        go_roundg m
                        case measure => omega
                        case rel =>
                          have KA := hideIt (show KAv (fun b => b ≠ x1.heap.size) (Fo.app (.cons a.1 aa cc ff .nil) (.cons y.1 a7 c7 g7 .nil)) from ⟨HA5.out.v.mono fun b hb => hb.2, LY.out.v.mono fun b hb => by omega, trivial⟩)
                          have KN := hideIt (show KAv (fun b => b ≠ x5.heap.size) (Fo.app (.cons a.1 aa cc ff .nil) (.cons y.1 a7 c7 g7 .nil)) from ⟨HA5.out.ls.v.mono fun b hb => by omega, LY.out.v.mono fun b hb => by omega, trivial⟩)
                          obtain ⟨a', c', eu, sk', in', av'⟩ := li_form (N := x1.heap.size) I9.out KA.out (fun k hk => by have e : gg = k := (by simpa [Value.ownBlock] using hk); have := AT9.out; have := AT6.out; omega) (by simp [Fo.len, Fo.app])
                          obtain ⟨a2', c2', eu2, _, _, av2⟩ := li_form (N := x5.heap.size) I9.out KN.out (fun k hk => by have e : gg = k := (by simpa [Value.ownBlock] using hk); have := AT9.out; have := AT6.out; omega) (by simp [Fo.len, Fo.app])
                          simp only [Value.slice.injEq] at eu eu2
                          obtain ⟨rfl, _, rfl⟩ := eu
                          obtain ⟨rfl, _, rfl⟩ := eu2
                          have HH2 : HN (w.heap.size + 1) x1.heap.size (x9.setCell ⟨x5.heap.size, 9, none⟩ (.slice (some ⟨gg, 0, none⟩) 2 cg)) (binN kk a y) (some ⟨gg, 0, none⟩) cg (Fo.app (.cons a.1 aa cc ff .nil) (.cons y.1 a7 c7 g7 .nil)) := ⟨I9.out.cp, sk', in_set in' (av2.mono fun b hb e => hb.2 e), av', OKB.out⟩
                          refine ⟨binN kk a y, i2, some ⟨gg, 0, none⟩, cg, Fo.app (.cons a.1 aa cc ff .nil) (.cons y.1 a7 c7 g7 .nil), EE.out, by omega, ?_, ?_, ?_, ?_, ?_⟩
                          · refine hideIt ?_
                            exact (by repeat with_reducible first | exact BR9.out | apply Bx.alloc | apply Bx.drew | refine Bx.set ?_ (by (try dsimp only); omega) _)
                          · exact hideIt ((BA9.out.set (by dsimp only; omega) _).whole (binN kk a y).1 _)
                          · refine hideIt ?_
                            iterate 10 (refine HN.setX ?_ _ _)
                            exact HH2
                          · refine hideIt ?_
                            exact (by repeat with_reducible first | exact D9.out | apply RR.alloc | apply RR.drew | refine RR.setCell ?_ (by (try dsimp only); omega) _)
                          · refine hideIt ?_
                            exact (by repeat with_reducible first | exact F9.out | apply Fr.alloc | apply Fr.drew | refine Fr.setNew ?_ (by (try dsimp only); omega) _)
                      · go_simp
                        refine hK.out _ _ ?_ (fun hHeld => ?_)
                        · trivial
                        clear hK K
                        try simp only [Act.put, List.setIfInBounds_toArray, List.set_cons_zero, List.set_cons_succ]
                        refine wpAnyH_ready (rs := [1]) (by kernel_rfl) (by simp) (AllReadyH.cons (o := ⟨_, _, _, _, _, _⟩) rfl (fun K hK => ?_) AllReadyH.nil)
                        go_simp
                        refine hK.out _ _ ?_ (fun hHeld => ?_)
                        · trivial
                        clear hK K
                        try simp only [Act.put, List.setIfInBounds_toArray, List.set_cons_zero, List.set_cons_succ]
                        refine wpAnyH_ready (rs := [7]) (by kernel_rfl) (by simp) (AllReadyH.cons (o := ⟨_, _, _, _, _, _⟩) rfl (fun K hK => ?_) AllReadyH.nil)
                        refine app_step2 (B := w.heap.size + 1) (X := x7) I7.out (by omega) (by omega) (y := y) LY.out (by omega) (fun k hk => by have e : g6 = k := (by simpa [Value.ownBlock] using hk); omega) KY.out.2.2 KY.out.2.1 KY.out.1 (by show (1 : Nat) ≤ 70002; omega) x7.heap.size rfl rfl (.tmp 47) (.tmp 52) rfl rfl rfl ?_; intro gg cg x9 li9 gr9 at9; have I9 := hideIt li9; have AT9 := hideIt (show gg = g6 ∨ gg = x7.heap.size + 1 from at9.imp (fun e => (by simpa [Value.ownBlock] using e.symm)) id); have ROW := hideIt (fun (k : Nat) (hk : Value.ownBlock (.slice (some ⟨g6, 0, none⟩) (Fo.nil.len + 1) c6) = some k) => (show k = g6 by simpa [Value.ownBlock] using hk.symm)); have D9 := hideIt (RR.grown (D7.out.alloc _) gr9 (fun k hk => by have := ROW.out k hk; have := AT6.out; omega)); have F9 := hideIt (Fr.grown (F7.out.alloc _) gr9 (fun k hk => by have := ROW.out k hk; have := AT6.out; omega)); have BN9 := hideIt (Bx.grown (BN7.out.alloc _) gr9 (fun e => by have := ROW.out _ e; have := AT6.out; omega)); have BR9 := hideIt (Bx.grown (BR7.out.alloc _) gr9 (fun e => by have := ROW.out _ e; have := AT6.out; omega)); have BA9 := hideIt (Bx.grown (BA7.out.alloc _) gr9 (fun e => by have := ROW.out _ e; have := AT6.out; omega)); have yn9 := BN9.out.lt; have yr9 := BR9.out.lt; have ya9 := BA9.out.lt; clear n0 n1 n2 n3 n4 n5 n6 n7 n8 n9 nf; obtain ⟨n0, n1, n2, n3, n4, n5, n6, n7, n8, n9⟩ := BN9.out.ten; have nf := BN9.out.free; obtain ⟨b0, b1, b2, b3, b4, b5, b6, b7, b8, b9⟩ := BA9.out.ten; have bf := BA9.out.free; clear li9 gr9 at9
                        refine hK.out _ _ ?_ (fun hHeld => ?_)
                        · trivial
                        clear hK K
                        try simp only [Act.put, List.setIfInBounds_toArray, List.set_cons_zero, List.set_cons_succ]
                        refine wpAnyH_take (i := 8) (oi := ⟨_, _, _, _, _, _⟩) (v := ?_) rfl (by kernel_rfl) (by kernel_rfl) (by kernel_rfl) (fun _ _ _ h => h) (Or.inl ⟨by rfl, ?_⟩) (by assumption) ?_
                        rotate_left 1
                        · intro w hSw; (try dsimp only at hSw); go_simp; all_goals with_reducible rfl
                        try simp only [Act.put, List.setIfInBounds_toArray, List.set_cons_zero, List.set_cons_succ]
                        refine wpAnyH_ready (rs := [9]) (by kernel_rfl) (by simp) (AllReadyH.cons (o := ⟨_, _, _, _, _, _⟩) rfl (fun K hK => ?_) AllReadyH.nil)
                        go_simp
                        refine hK.out _ _ ?_ (fun hHeld => ?_)
                        · trivial
                        clear hK K
                        try simp only [Act.put, List.setIfInBounds_toArray, List.set_cons_zero, List.set_cons_succ]
                        refine wpAnyH_done (by kernel_rfl) ?_ _
                        go_wp2_with (fail)
                        go_roundg m
                        case measure => omega
                        case rel =>
                          have KA := hideIt (show KAv (fun b => b ≠ x1.heap.size) (Fo.app (.cons a.1 aa cc ff .nil) (.cons y.1 a7 c7 g7 .nil)) from ⟨HA5.out.v.mono fun b hb => hb.2, LY.out.v.mono fun b hb => by omega, trivial⟩)
                          have KN := hideIt (show KAv (fun b => b ≠ x5.heap.size) (Fo.app (.cons a.1 aa cc ff .nil) (.cons y.1 a7 c7 g7 .nil)) from ⟨HA5.out.ls.v.mono fun b hb => by omega, LY.out.v.mono fun b hb => by omega, trivial⟩)
                          obtain ⟨a', c', eu, sk', in', av'⟩ := li_form (N := x1.heap.size) I9.out KA.out (fun k hk => by have e : gg = k := (by simpa [Value.ownBlock] using hk); have := AT9.out; have := AT6.out; omega) (by simp [Fo.len, Fo.app])
                          obtain ⟨a2', c2', eu2, _, _, av2⟩ := li_form (N := x5.heap.size) I9.out KN.out (fun k hk => by have e : gg = k := (by simpa [Value.ownBlock] using hk); have := AT9.out; have := AT6.out; omega) (by simp [Fo.len, Fo.app])
                          simp only [Value.slice.injEq] at eu eu2
                          obtain ⟨rfl, _, rfl⟩ := eu
                          obtain ⟨rfl, _, rfl⟩ := eu2
                          have HH2 : HN (w.heap.size + 1) x1.heap.size (x9.setCell ⟨x5.heap.size, 9, none⟩ (.slice (some ⟨gg, 0, none⟩) 2 cg)) (binN kk a y) (some ⟨gg, 0, none⟩) cg (Fo.app (.cons a.1 aa cc ff .nil) (.cons y.1 a7 c7 g7 .nil)) := ⟨I9.out.cp, sk', in_set in' (av2.mono fun b hb e => hb.2 e), av', OKB.out⟩
                          refine ⟨binN kk a y, i2, some ⟨gg, 0, none⟩, cg, Fo.app (.cons a.1 aa cc ff .nil) (.cons y.1 a7 c7 g7 .nil), EE.out, by omega, ?_, ?_, ?_, ?_, ?_⟩
                          · refine hideIt ?_
                            exact (by repeat with_reducible first | exact BR9.out | apply Bx.alloc | apply Bx.drew | refine Bx.set ?_ (by (try dsimp only); omega) _)
                          · exact hideIt ((BA9.out.set (by dsimp only; omega) _).whole (binN kk a y).1 _)
                          · refine hideIt ?_
                            iterate 10 (refine HN.setX ?_ _ _)
                            exact HH2
                          · refine hideIt ?_
                            exact (by repeat with_reducible first | exact D9.out | apply RR.alloc | apply RR.drew | refine RR.setCell ?_ (by (try dsimp only); omega) _)
                          · refine hideIt ?_
                            exact (by repeat with_reducible first | exact F9.out | apply Fr.alloc | apply Fr.drew | refine Fr.setNew ?_ (by (try dsimp only); omega) _)
                · rw [if_neg hl] at EE
                  exact absurd EE.out (fun e => by cases e)

end Go.Proofs.YtoilhcklflmamaaGreatDoor

namespace Go.Proofs.YtoilhcklflmamaaGreatDoor
open Go.RowKit
open Pr
set_option linter.unusedVariables false

theorem rlevel_any (R g cap : Nat) (L : List Tok) (hL : L.length ≤ 70000) (o : Int) (n : Nat) : LevC R g cap L o n := by
  induction n using Nat.strongRecOn with
  | _ n ih =>
    cases n with
    | zero => intro p i x j _ _ h; cases h
    | succ n =>
      intro p i x j hp1 hp2 h X hX
      by_cases h11 : p = 11
      · subst h11
        exact rlevel_last R g cap L hL o n i x j h X hX
      · exact rlevel_step R g cap L hL o n (fun m hm => ih m (by omega)) p i x j hp1 (by omega) h X hX

set_option maxRecDepth 100000 in
set_option maxHeartbeats 4000000 in
theorem rexpr_any (R g cap : Nat) (L : List Tok) (hL : L.length ≤ 70000) (o : Int) (n i : Nat) (x : Nd) (j : Nat) (q : Tok) (hq : L[j]? = some q) (hb : isB q [63] = false) (h : lv L n 1 none i = some (x, j)) (w : World) (hw : RR w R g cap L i o) :
    Calls Tryz.prog 81 #[rp R] w (PN x R g cap L j o w) := by
  have C1 := hideIt (fun X hX => rlevel_any R g cap L hL o n 1 i x j (by decide) (by decide) h X hX)
  have C2 := hideIt (fun X hX => rtake_no R g cap L j o q hq [63] hb X hX)
  have HD := hideIt hw
  have hR := hw.lt_size
  clear hw h hq hb
  go_enter Tryz.func81, Tryz.ntmps81
  go_wp2_with (first | (go_at_call 100; refine Calls.mono (C1.out _ (HD.out.alloc _)) ?_; rintro e x1 ⟨v1, rfl, hv1, f1, d1⟩; obtain ⟨a1, c1, g1, rfl, cp1, sk1, l1, ok1⟩ := hv1.out; have D1 := hideIt d1; have F1 := hideIt (((Fr.refl R w).alloc _).trans f1); have B1 := hideIt (Bx.fr (b := w.heap.size) (v := nk 0) (s := .slice none 0 0) (Bx.newAt _ (nk 0) (.slice none 0 0) rfl) (by omega) f1); have y1 := B1.out.lt; have LL := hideIt (Ls.mono (B' := w.heap.size + 1) l1 (by simp) (Nat.le_refl _)); have KK := hideIt (And.intro cp1 (And.intro sk1 ok1)); clear C1 hv1 f1 d1 cp1 sk1 ok1 l1) | (go_at_call 43; refine Calls.mono (C2.out _ (D1.out.alloc _)) ?_; rintro e x2 ⟨rfl, f2, d2⟩; have D2 := hideIt d2; have F2 := hideIt ((F1.out.alloc _).trans f2); have B2 := hideIt (Bx.fr (B1.out.alloc _) (by omega) f2); have A2 := hideIt (Bx.fr (Bx.new x1 x.1 (.slice a1 g1.len c1)) (by omega) f2); have L2 := hideIt (Ls.fr (B := w.heap.size + 1) (U := x1.heap.size) (a := a1) (f := g1) (LL.out.alloc _) (by omega) f2); obtain ⟨n0, n1, n2, n3, n4, n5, n6, n7, n8, n9⟩ := B2.out.ten; have nf := B2.out.free; have y2 := B2.out.lt; obtain ⟨b0, b1, b2, b3, b4, b5, b6, b7, b8, b9⟩ := A2.out.ten; have ya2 := A2.out.lt; clear C2 f2 d2) | fail)
  refine bodyPost_ret (v := nodeV x.1 (.slice a1 g1.len c1)) (by simp [results, Tryz.results81, go_sem, *]) rfl ⟨_, rfl, NV.mk (x := x) (B' := w.heap.size + 1) (U := x1.heap.size) KK.out.1 KK.out.2.1 (by repeat (first | with_reducible exact L2.out | (with_reducible refine Ls.set ?_ ?hh _; case hh => ((try dsimp only); omega)))) (by omega) KK.out.2.2, (by repeat with_reducible first | exact F2.out | apply Fr.alloc | apply Fr.drew | refine Fr.setNew ?_ (by (try dsimp only); omega) _), (by repeat with_reducible first | exact D2.out | apply RR.alloc | apply RR.drew | refine RR.setCell ?_ (by (try dsimp only); omega) _)⟩

end Go.Proofs.YtoilhcklflmamaaGreatDoor
