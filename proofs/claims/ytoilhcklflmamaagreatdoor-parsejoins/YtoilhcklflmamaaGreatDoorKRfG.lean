/-
  A block of the document's reader: contracts over the program; the conditions: the reader lies in memory, and what stands there is such a thing.
  A function without parameters of the document's reader: contracts over the program; the conditions: the reader lies in memory, and what stands there is such a thing.
-/
import Derived.Test.YtoilhcklflmamaaGreatDoorKRfE
import Derived.Test.YtoilhcklflmamaaGreatDoorKPrO
namespace Go.Proofs.YtoilhcklflmamaaGreatDoor
open Go.RowKit
open Pr
set_option linter.unusedVariables false

/-- One thing behind the other. -/
def Chain (C : Nat → Nd → Nat → Prop) : Nat → List (Nd × Nat) → Nat → Prop
  | i, [], j => i = j
  | i, (x, k) :: l, j => C i x k ∧ Chain C k l j
def foL (P : Fo) (l : List (Nd × Nat)) : Fo := l.foldl (fun P r => P.app (one r.1)) P

set_option maxRecDepth 100000 in
set_option maxHeartbeats 4000000 in
theorem rblock_any (R g cap : Nat) (L : List Tok) (hL : L.length ≤ 70000) (o : Int) (ho : 0 ≤ o ∧ o < 40) (i j : Nat) (ss : List (Nd × Nat)) (h0 : At1 L i [123]) (hi : i + 1 < L.length)
    (HC : Chain (fun i x k => At0 L i [125] ∧ ∀ X, RR X R g cap L i (o + 1) → Calls Tryz.prog 82 #[rp R] X (PN x R g cap L k (o + 1) X)) (i + 1) ss j) (hss : ss.length ≤ 1000) (h9 : At1 L j [125]) (hj : j + 1 < L.length) (w : World) (hw : RR w R g cap L i o) :
    Calls Tryz.prog 51 #[rp R] w (PN (nk 7, foL .nil ss) R g cap L (j + 1) o w) := by
  obtain ⟨q0, hq0, hb0⟩ := h0
  obtain ⟨q9, hq9, hb9⟩ := h9
  have C1 := hideIt (fun X hX => ropens_any R g cap L i o ho q0 hq0 [123] hb0 (by omega) hL X hX)
  have C5 := hideIt (fun X hX => rshuts_any R g cap L j (o + 1) ⟨by omega, by omega⟩ q9 hq9 [125] hb9 (by omega) hL X hX)
  rw [show o + 1 - 1 = o by omega] at C5
  have HI9 := hideIt (fun X hX => ris_any R g cap L j (o + 1) q9 hq9 [125] X hX)
  rw [hb9] at HI9
  have CH0 := hideIt HC
  obtain ⟨PF, hPF⟩ : ∃ PF, foL .nil ss = PF := ⟨_, rfl⟩
  rw [hPF]
  have HPF := hideIt hPF
  have HD := hideIt hw
  have hR := hw.lt_size
  clear hw HC hPF hq0 hb0 hq9 hb9 ho
  go_enter Tryz.func51, Tryz.ntmps51
  go_wp2_with (first | (go_at_call_of 47 (Value.string ⟨#[123]⟩); refine Calls.mono (C1.out _ (by repeat with_reducible first | exact HD.out | apply RR.alloc | apply RR.drew | refine RR.setCell ?_ (by (try dsimp only); omega) _)) ?_; rintro e x1 ⟨rfl, f1, d1⟩; have D1 := hideIt d1; have F1 := hideIt (show Fr R w x1 from Fr.trans (by repeat with_reducible first | exact (Fr.refl R w) | apply Fr.alloc | apply Fr.drew | refine Fr.setNew ?_ (by (try dsimp only); omega) _) f1); have Z1 : w.heap.size + 2 ≤ x1.heap.size := (by have z := f1.size; (try simp at z); omega); have BR1 := hideIt (Bx.fr (b := w.heap.size) (v := (nk 0)) (s := (.slice none 0 0)) (by repeat first | refine Bx.newAt _ (nk 0) (.slice none 0 0) (by (try simp); done) | with_reducible apply Bx.alloc | with_reducible apply Bx.drew | with_reducible refine Bx.set ?_ (by (try dsimp only); omega) _) (by omega) f1); have yr1 := BR1.out.lt; (try clear r0 r1 r2 r3 r4 r5 r6 r7 r8 r9 rf); obtain ⟨r0, r1, r2, r3, r4, r5, r6, r7, r8, r9⟩ := BR1.out.ten; have rf := BR1.out.free; have BN1 := hideIt (Bx.fr (b := w.heap.size + 1) (v := (nk 7)) (s := (.slice none 0 0)) (by repeat first | refine Bx.newAt _ (nk 7) (.slice none 0 0) (by (try simp); done) | with_reducible apply Bx.alloc | with_reducible apply Bx.drew | with_reducible refine Bx.set ?_ (by (try dsimp only); omega) _) (by omega) f1); have yn1 := BN1.out.lt; (try clear n0 n1 n2 n3 n4 n5 n6 n7 n8 n9 nf); obtain ⟨n0, n1, n2, n3, n4, n5, n6, n7, n8, n9⟩ := BN1.out.ten; have nf := BN1.out.free; clear f1 d1) | fail)
  go_loopg [] ss.length (fun m wr => ∃ (P G : Fo) (u : Value) (l : List (Nd × Nat)) (i1 : Nat), m = l.length ∧ Hid (Chain (fun i x k => At0 L i [125] ∧ ∀ X, RR X R g cap L i (o + 1) → Calls Tryz.prog 82 #[rp R] X (PN x R g cap L k (o + 1) X)) i1 l j) ∧ Hid (foL P l = PF) ∧ P.len + l.length ≤ 1000 ∧ Hid (LI (w.heap.size + 2) wr u P G) ∧ Hid (Bx wr (w.heap.size + 1) (nk 7) u) ∧ Hid (Bx wr w.heap.size (nk 0) (.slice none 0 0)) ∧ Hid (RR wr R g cap L i1 (o + 1)) ∧ Hid (Fr R w wr))
  case atStart => exact ⟨.nil, .nil, .slice none 0 0, ss, i + 1, rfl, CH0.out, HPF.out, by simp [Fo.len]; omega, LI.nil _ _, BN1.out, BR1.out, D1.out, F1.out⟩
  case round =>
    obtain ⟨P, G, u, l, i1, rfl, CH, EP, hlen, I0, BN, BR, D0, F0⟩ := hrel
    clear D1 F1 BN1 BR1 CH0 HPF C1 HD n0 n1 n2 n3 n4 n5 n6 n7 n8 n9 nf r0 r1 r2 r3 r4 r5 r6 r7 r8 r9 rf
    have Z0 := F0.out.size
    have yn0 := BN.out.lt
    have yr0 := BR.out.lt
    have hR0 := D0.out.lt_size
    obtain ⟨k0, k1, k2, k3, k4⟩ := D0.out.five
    have hGL : G.len ≤ 1000 := by have := I0.out.cp.len; omega
    obtain ⟨a0', c0', eu, _, _, _⟩ := own_form I0.out.own I0.out.ki
    cases l with
    | nil =>
      obtain rfl : i1 = j := CH.out
      have EPF : P = PF := EP.out
      subst EPF
      have HIS := HI9
      subst eu
      go_wp2_with (first | (go_at_call_of 45 (Value.string ⟨#[125]⟩); refine Calls.mono (HIS.out _ D0.out) ?_; rintro e x2 ⟨rfl, q2⟩; have D2 := hideIt (D0.out.q q2); have F2 := hideIt (F0.out.q q2); have BN2 := hideIt (show Bx x2 (w.heap.size + 1) (nk 7) (.slice a0' G.len c0') from (q2.block _ BN.out.lt).trans BN.out); have BR2 := hideIt (show Bx x2 w.heap.size (nk 0) (.slice none 0 0) from (q2.block _ BR.out.lt).trans BR.out); have I2 := hideIt (I0.out.fr (R := R) (by omega) (Fr.of_q q2)); have Z2 : wr.heap.size ≤ x2.heap.size := q2.size; (try clear n0 n1 n2 n3 n4 n5 n6 n7 n8 n9 nf); obtain ⟨n0, n1, n2, n3, n4, n5, n6, n7, n8, n9⟩ := BN2.out.ten; have nf := BN2.out.free; obtain ⟨r0, r1, r2, r3, r4, r5, r6, r7, r8, r9⟩ := BR2.out.ten; have rf := BR2.out.free; have yn2 := BN2.out.lt; have yr2 := BR2.out.lt; clear q2) | (go_at_call_of 49 (Value.string ⟨#[125]⟩); refine Calls.mono (C5.out _ (by repeat with_reducible first | exact D2.out | apply RR.alloc | apply RR.drew | refine RR.setCell ?_ (by (try dsimp only); omega) _)) ?_; rintro e x5 ⟨rfl, f5, d5⟩; have D5 := hideIt d5; have F5 := hideIt (show Fr R w x5 from Fr.trans (by repeat with_reducible first | exact F2.out | apply Fr.alloc | apply Fr.drew | refine Fr.setNew ?_ (by (try dsimp only); omega) _) f5); have Z5 : x2.heap.size ≤ x5.heap.size := (by have z := f5.size; (try simp at z); omega); have BR5 := hideIt (Bx.fr (b := w.heap.size) (v := (nk 0)) (s := (.slice none 0 0)) (by repeat with_reducible first | exact BR2.out | apply Bx.alloc | apply Bx.drew | refine Bx.set ?_ (by (try dsimp only); omega) _) (by omega) f5); have yr5 := BR5.out.lt; (try clear r0 r1 r2 r3 r4 r5 r6 r7 r8 r9 rf); obtain ⟨r0, r1, r2, r3, r4, r5, r6, r7, r8, r9⟩ := BR5.out.ten; have rf := BR5.out.free; have BN5 := hideIt (Bx.fr (b := w.heap.size + 1) (v := (nk 7)) (s := (.slice a0' G.len c0')) (by repeat with_reducible first | exact BN2.out | apply Bx.alloc | apply Bx.drew | refine Bx.set ?_ (by (try dsimp only); omega) _) (by omega) f5); have yn5 := BN5.out.lt; (try clear n0 n1 n2 n3 n4 n5 n6 n7 n8 n9 nf); obtain ⟨n0, n1, n2, n3, n4, n5, n6, n7, n8, n9⟩ := BN5.out.ten; have nf := BN5.out.free; have I5 := hideIt (LI.fr (R := R) (I2.out) (by omega) f5); clear f5 d5) | fail)
      obtain ⟨aL, cL, fL, eL, cpL, skL, lsL⟩ := (LI.done (x := (nk 7, P)) I5.out).out
      have EL := hideIt eL
      refine bodyPost_ret (v := nodeV (nk 7) (.slice a0' G.len c0')) (by simp [results, Tryz.results51, go_sem, *]) rfl ⟨_, rfl, ?_, (by repeat with_reducible first | exact F5.out | apply Fr.alloc | apply Fr.drew | refine Fr.setNew ?_ (by (try dsimp only); omega) _), (by repeat with_reducible first | exact D5.out | apply RR.alloc | apply RR.drew | refine RR.setCell ?_ (by (try dsimp only); omega) _)⟩
      rw [EL.out]
      exact NV.mk (x := (nk 7, P)) (B' := w.heap.size + 2) (U := x5.heap.size) cpL skL (by repeat (first | with_reducible exact lsL | (with_reducible refine Ls.set ?_ ?hh _; case hh => ((try dsimp only); omega)))) (by omega) (by refine nf_ok ?_ ?_ ?_ ?_ ?_ ?_ ?_ ?_ ?_ <;> first | omega | decide | exact Nat.zero_le _)
    | cons r l =>
      obtain ⟨x, k⟩ := r
      obtain ⟨qi, hqi, hbi⟩ := CH.out.1.1
      have HIS := hideIt (fun X hX => ris_any R g cap L i1 (o + 1) qi hqi [125] X hX)
      rw [hbi] at HIS
      have C3 := hideIt CH.out.1.2
      clear hqi hbi HI9
      subst eu
      go_wp2_with (first | (go_at_call_of 45 (Value.string ⟨#[125]⟩); refine Calls.mono (HIS.out _ D0.out) ?_; rintro e x2 ⟨rfl, q2⟩; have D2 := hideIt (D0.out.q q2); have F2 := hideIt (F0.out.q q2); have BN2 := hideIt (show Bx x2 (w.heap.size + 1) (nk 7) (.slice a0' G.len c0') from (q2.block _ BN.out.lt).trans BN.out); have BR2 := hideIt (show Bx x2 w.heap.size (nk 0) (.slice none 0 0) from (q2.block _ BR.out.lt).trans BR.out); have I2 := hideIt (I0.out.fr (R := R) (by omega) (Fr.of_q q2)); have Z2 : wr.heap.size ≤ x2.heap.size := q2.size; (try clear n0 n1 n2 n3 n4 n5 n6 n7 n8 n9 nf); obtain ⟨n0, n1, n2, n3, n4, n5, n6, n7, n8, n9⟩ := BN2.out.ten; have nf := BN2.out.free; obtain ⟨r0, r1, r2, r3, r4, r5, r6, r7, r8, r9⟩ := BR2.out.ten; have rf := BR2.out.free; have yn2 := BN2.out.lt; have yr2 := BR2.out.lt; clear q2) | fail)
      have ULT := hideIt (fun k (hk : Value.ownBlock (.slice a0' G.len c0') = some k) => (I2.out.lt k hk).2)
      refine wp_region_held_drew (S := fun _ => True) (by kernel_rfl) (trivial) (fun hHeld => ?_)
      refine wpAnyH_take (i := 0) (oi := ⟨_, _, _, _, _, _⟩) (v := ?_) rfl (by kernel_rfl) (by kernel_rfl) (by kernel_rfl) (fun _ _ _ h => h) (Or.inl ⟨by rfl, ?_⟩) (by assumption) ?_
      rotate_left 1
      · intro w hSw; (try dsimp only at hSw); go_simp; all_goals with_reducible rfl
      try simp only [Act.put, List.setIfInBounds_toArray, List.set_cons_zero, List.set_cons_succ]
      refine wpAnyH_take (i := 2) (oi := ⟨_, _, _, _, _, _⟩) (v := ?_) rfl (by kernel_rfl) (by kernel_rfl) (by kernel_rfl) (fun _ _ _ h => h) (Or.inl ⟨by rfl, ?_⟩) (by assumption) ?_
      rotate_left 1
      · intro w hSw; (try dsimp only at hSw); go_simp; all_goals with_reducible rfl
      try simp only [Act.put, List.setIfInBounds_toArray, List.set_cons_zero, List.set_cons_succ]
      refine wpAnyH_ready (rs := [1, 3]) (by kernel_rfl) (by simp) (AllReadyH.cons (o := ⟨_, _, _, _, _, _⟩) rfl (fun K hK => ?_) (AllReadyH.cons (o := ⟨_, _, _, _, _, _⟩) rfl (fun K hK => ?_) AllReadyH.nil))
      · go_simp
        refine hK.out _ _ ?_ (fun hHeld => ?_)
        · trivial
        clear hK K
        try simp only [Act.put, List.setIfInBounds_toArray, List.set_cons_zero, List.set_cons_succ]
        refine wpAnyH_ready (rs := [3]) (by kernel_rfl) (by simp) (AllReadyH.cons (o := ⟨_, _, _, _, _, _⟩) rfl (fun K hK => ?_) AllReadyH.nil)
        go_simp
        (go_at_call 82; refine Calls.mono (C3.out _ (by repeat with_reducible first | exact D2.out | apply RR.alloc | apply RR.drew | refine RR.setCell ?_ (by (try dsimp only); omega) _)) ?_; rintro e x3 ⟨v3, rfl, hv3, f3, d3⟩; obtain ⟨a3, c3, g3, rfl, cp3, sk3, l3, ok3⟩ := hv3.out; have D3 := hideIt d3; have F3 := hideIt (show Fr R w x3 from Fr.trans (by repeat with_reducible first | exact F2.out | apply Fr.alloc | apply Fr.drew | refine Fr.setNew ?_ (by (try dsimp only); omega) _) f3); have Z3 : x2.heap.size ≤ x3.heap.size := (by have z := f3.size; (try simp at z); omega); have LY := hideIt (Ls.mono (B' := x2.heap.size) l3 (by (try simp) <;> (try omega)) (Nat.le_refl _)); have KY := hideIt (And.intro cp3 (And.intro sk3 ok3)); have BN3 := hideIt (Bx.fr BN2.out.drew (by omega) f3); have BR3 := hideIt (Bx.fr BR2.out.drew (by omega) f3); have yn3 := BN3.out.lt; have yr3 := BR3.out.lt; have I3 := hideIt (LI.fr (I2.out.fr (R := R) (by omega) (Fr.refl R x2).drew) (R := R) (by omega) f3); (try clear n0 n1 n2 n3 n4 n5 n6 n7 n8 n9 nf r0 r1 r2 r3 r4 r5 r6 r7 r8 r9 rf); obtain ⟨n0, n1, n2, n3, n4, n5, n6, n7, n8, n9⟩ := BN3.out.ten; have nf := BN3.out.free; clear C3 hv3 l3 cp3 sk3 ok3 d3 f3)
        refine hK.out _ _ ?_ (fun hHeld => ?_)
        · trivial
        clear hK K
        try simp only [Act.put, List.setIfInBounds_toArray, List.set_cons_zero, List.set_cons_succ]
        refine wpAnyH_ready (rs := [4]) (by kernel_rfl) (by simp) (AllReadyH.cons (o := ⟨_, _, _, _, _, _⟩) rfl (fun K hK => ?_) AllReadyH.nil)
        go_simp
        refine hK.out _ _ ?_ (fun hHeld => ?_)
        · trivial
        clear hK K
        try simp only [Act.put, List.setIfInBounds_toArray, List.set_cons_zero, List.set_cons_succ]
        refine wpAnyH_ready (rs := [5]) (by kernel_rfl) (by simp) (AllReadyH.cons (o := ⟨_, _, _, _, _, _⟩) rfl (fun K hK => ?_) AllReadyH.nil)
        refine app_step (B := w.heap.size + 2) (X := x3) I3.out (by omega) (by omega) (y := x) LY.out (by omega) (fun k hk => ULT.out k hk) KY.out.2.2 KY.out.2.1 KY.out.1 (by omega) rfl (.tmp 18) (.tmp 21) rfl rfl rfl ?_; intro gg cg x9 li9 gr9; have I9 := hideIt li9; have RL := hideIt (fun k hk => (I3.out.lt k hk).1); have D9 := hideIt (RR.grown (D3.out.alloc _) gr9 (fun k hk => by have := RL.out k hk; omega)); have F9 := hideIt (Fr.grown (F3.out.alloc _) gr9 (fun k hk => by have := RL.out k hk; omega)); have BN9 := hideIt (Bx.grown (BN3.out.alloc _) gr9 (fun e => by have := RL.out _ e; omega)); have BR9 := hideIt (Bx.grown (BR3.out.alloc _) gr9 (fun e => by have := RL.out _ e; omega)); have yn9 := BN9.out.lt; have yr9 := BR9.out.lt; have Z9 : x3.heap.size ≤ x9.heap.size := (by have z := gr9.size; (try simp at z); omega); (try clear n0 n1 n2 n3 n4 n5 n6 n7 n8 n9 nf); obtain ⟨n0, n1, n2, n3, n4, n5, n6, n7, n8, n9⟩ := BN9.out.ten; have nf := BN9.out.free; clear li9 gr9
        refine hK.out _ _ ?_ (fun hHeld => ?_)
        · trivial
        clear hK K
        try simp only [Act.put, List.setIfInBounds_toArray, List.set_cons_zero, List.set_cons_succ]
        refine wpAnyH_take (i := 6) (oi := ⟨_, _, _, _, _, _⟩) (v := ?_) rfl (by kernel_rfl) (by kernel_rfl) (by kernel_rfl) (fun _ _ _ h => h) (Or.inl ⟨by rfl, ?_⟩) (by assumption) ?_
        rotate_left 1
        · intro w hSw; (try dsimp only at hSw); go_simp; all_goals with_reducible rfl
        try simp only [Act.put, List.setIfInBounds_toArray, List.set_cons_zero, List.set_cons_succ]
        refine wpAnyH_ready (rs := [7]) (by kernel_rfl) (by simp) (AllReadyH.cons (o := ⟨_, _, _, _, _, _⟩) rfl (fun K hK => ?_) AllReadyH.nil)
        go_simp
        refine hK.out _ _ ?_ (fun hHeld => ?_)
        · trivial
        clear hK K
        try simp only [Act.put, List.setIfInBounds_toArray, List.set_cons_zero, List.set_cons_succ]
        refine wpAnyH_done (by kernel_rfl) ?_ _
        go_wp2_with (fail)
        go_roundg l.length
        case measure => simp
        case rel =>
          refine ⟨P.app (one x), G.app (.cons x.1 a3 c3 g3 .nil), .slice (some ⟨gg, 0, none⟩) (G.len + 1) cg, l, k, rfl, CH.out.2, EP, by rw [app_len]; simp only [one, Fo.len]; simp at hlen; omega, ?_, ?_, ?_, ?_, ?_⟩
          · exact hideIt (I9.out.fr (R := w.heap.size + 1) (by omega) ((Fr.refl _ _).setR 9 _))
          · exact hideIt (Bx.put BN9.out 9 _ rfl)
          · refine hideIt ?_
            exact (by repeat with_reducible first | exact BR9.out | apply Bx.alloc | apply Bx.drew | refine Bx.set ?_ (by (try dsimp only); omega) _)
          · refine hideIt ?_
            exact (by repeat with_reducible first | exact D9.out | apply RR.alloc | apply RR.drew | refine RR.setCell ?_ (by (try dsimp only); omega) _)
          · refine hideIt ?_
            exact (by repeat with_reducible first | exact F9.out | apply Fr.alloc | apply Fr.drew | refine Fr.setNew ?_ (by (try dsimp only); omega) _)
      · go_simp
        (go_at_call 82; refine Calls.mono (C3.out _ (by repeat with_reducible first | exact D2.out | apply RR.alloc | apply RR.drew | refine RR.setCell ?_ (by (try dsimp only); omega) _)) ?_; rintro e x3 ⟨v3, rfl, hv3, f3, d3⟩; obtain ⟨a3, c3, g3, rfl, cp3, sk3, l3, ok3⟩ := hv3.out; have D3 := hideIt d3; have F3 := hideIt (show Fr R w x3 from Fr.trans (by repeat with_reducible first | exact F2.out | apply Fr.alloc | apply Fr.drew | refine Fr.setNew ?_ (by (try dsimp only); omega) _) f3); have Z3 : x2.heap.size ≤ x3.heap.size := (by have z := f3.size; (try simp at z); omega); have LY := hideIt (Ls.mono (B' := x2.heap.size) l3 (by (try simp) <;> (try omega)) (Nat.le_refl _)); have KY := hideIt (And.intro cp3 (And.intro sk3 ok3)); have BN3 := hideIt (Bx.fr BN2.out.drew (by omega) f3); have BR3 := hideIt (Bx.fr BR2.out.drew (by omega) f3); have yn3 := BN3.out.lt; have yr3 := BR3.out.lt; have I3 := hideIt (LI.fr (I2.out.fr (R := R) (by omega) (Fr.refl R x2).drew) (R := R) (by omega) f3); (try clear n0 n1 n2 n3 n4 n5 n6 n7 n8 n9 nf r0 r1 r2 r3 r4 r5 r6 r7 r8 r9 rf); obtain ⟨n0, n1, n2, n3, n4, n5, n6, n7, n8, n9⟩ := BN3.out.ten; have nf := BN3.out.free; clear C3 hv3 l3 cp3 sk3 ok3 d3 f3)
        refine hK.out _ _ ?_ (fun hHeld => ?_)
        · trivial
        clear hK K
        try simp only [Act.put, List.setIfInBounds_toArray, List.set_cons_zero, List.set_cons_succ]
        refine wpAnyH_ready (rs := [1, 4]) (by kernel_rfl) (by simp) (AllReadyH.cons (o := ⟨_, _, _, _, _, _⟩) rfl (fun K hK => ?_) (AllReadyH.cons (o := ⟨_, _, _, _, _, _⟩) rfl (fun K hK => ?_) AllReadyH.nil))
        · go_simp
          refine hK.out _ _ ?_ (fun hHeld => ?_)
          · trivial
          clear hK K
          try simp only [Act.put, List.setIfInBounds_toArray, List.set_cons_zero, List.set_cons_succ]
          refine wpAnyH_ready (rs := [4]) (by kernel_rfl) (by simp) (AllReadyH.cons (o := ⟨_, _, _, _, _, _⟩) rfl (fun K hK => ?_) AllReadyH.nil)
          go_simp
          refine hK.out _ _ ?_ (fun hHeld => ?_)
          · trivial
          clear hK K
          try simp only [Act.put, List.setIfInBounds_toArray, List.set_cons_zero, List.set_cons_succ]
          refine wpAnyH_ready (rs := [5]) (by kernel_rfl) (by simp) (AllReadyH.cons (o := ⟨_, _, _, _, _, _⟩) rfl (fun K hK => ?_) AllReadyH.nil)
          refine app_step (B := w.heap.size + 2) (X := x3) I3.out (by omega) (by omega) (y := x) LY.out (by omega) (fun k hk => ULT.out k hk) KY.out.2.2 KY.out.2.1 KY.out.1 (by omega) rfl (.tmp 18) (.tmp 21) rfl rfl rfl ?_; intro gg cg x9 li9 gr9; have I9 := hideIt li9; have RL := hideIt (fun k hk => (I3.out.lt k hk).1); have D9 := hideIt (RR.grown (D3.out.alloc _) gr9 (fun k hk => by have := RL.out k hk; omega)); have F9 := hideIt (Fr.grown (F3.out.alloc _) gr9 (fun k hk => by have := RL.out k hk; omega)); have BN9 := hideIt (Bx.grown (BN3.out.alloc _) gr9 (fun e => by have := RL.out _ e; omega)); have BR9 := hideIt (Bx.grown (BR3.out.alloc _) gr9 (fun e => by have := RL.out _ e; omega)); have yn9 := BN9.out.lt; have yr9 := BR9.out.lt; have Z9 : x3.heap.size ≤ x9.heap.size := (by have z := gr9.size; (try simp at z); omega); (try clear n0 n1 n2 n3 n4 n5 n6 n7 n8 n9 nf); obtain ⟨n0, n1, n2, n3, n4, n5, n6, n7, n8, n9⟩ := BN9.out.ten; have nf := BN9.out.free; clear li9 gr9
          refine hK.out _ _ ?_ (fun hHeld => ?_)
          · trivial
          clear hK K
          try simp only [Act.put, List.setIfInBounds_toArray, List.set_cons_zero, List.set_cons_succ]
          refine wpAnyH_take (i := 6) (oi := ⟨_, _, _, _, _, _⟩) (v := ?_) rfl (by kernel_rfl) (by kernel_rfl) (by kernel_rfl) (fun _ _ _ h => h) (Or.inl ⟨by rfl, ?_⟩) (by assumption) ?_
          rotate_left 1
          · intro w hSw; (try dsimp only at hSw); go_simp; all_goals with_reducible rfl
          try simp only [Act.put, List.setIfInBounds_toArray, List.set_cons_zero, List.set_cons_succ]
          refine wpAnyH_ready (rs := [7]) (by kernel_rfl) (by simp) (AllReadyH.cons (o := ⟨_, _, _, _, _, _⟩) rfl (fun K hK => ?_) AllReadyH.nil)
          go_simp
          refine hK.out _ _ ?_ (fun hHeld => ?_)
          · trivial
          clear hK K
          try simp only [Act.put, List.setIfInBounds_toArray, List.set_cons_zero, List.set_cons_succ]
          refine wpAnyH_done (by kernel_rfl) ?_ _
          go_wp2_with (fail)
          go_roundg l.length
          case measure => simp
          case rel =>
            refine ⟨P.app (one x), G.app (.cons x.1 a3 c3 g3 .nil), .slice (some ⟨gg, 0, none⟩) (G.len + 1) cg, l, k, rfl, CH.out.2, EP, by rw [app_len]; simp only [one, Fo.len]; simp at hlen; omega, ?_, ?_, ?_, ?_, ?_⟩
            · exact hideIt (I9.out.fr (R := w.heap.size + 1) (by omega) ((Fr.refl _ _).setR 9 _))
            · exact hideIt (Bx.put BN9.out 9 _ rfl)
            · refine hideIt ?_
              exact (by repeat with_reducible first | exact BR9.out | apply Bx.alloc | apply Bx.drew | refine Bx.set ?_ (by (try dsimp only); omega) _)
            · refine hideIt ?_
              exact (by repeat with_reducible first | exact D9.out | apply RR.alloc | apply RR.drew | refine RR.setCell ?_ (by (try dsimp only); omega) _)
            · refine hideIt ?_
              exact (by repeat with_reducible first | exact F9.out | apply Fr.alloc | apply Fr.drew | refine Fr.setNew ?_ (by (try dsimp only); omega) _)
        · go_simp
          refine hK.out _ _ ?_ (fun hHeld => ?_)
          · trivial
          clear hK K
          try simp only [Act.put, List.setIfInBounds_toArray, List.set_cons_zero, List.set_cons_succ]
          refine wpAnyH_ready (rs := [1]) (by kernel_rfl) (by simp) (AllReadyH.cons (o := ⟨_, _, _, _, _, _⟩) rfl (fun K hK => ?_) AllReadyH.nil)
          go_simp
          refine hK.out _ _ ?_ (fun hHeld => ?_)
          · trivial
          clear hK K
          try simp only [Act.put, List.setIfInBounds_toArray, List.set_cons_zero, List.set_cons_succ]
          refine wpAnyH_ready (rs := [5]) (by kernel_rfl) (by simp) (AllReadyH.cons (o := ⟨_, _, _, _, _, _⟩) rfl (fun K hK => ?_) AllReadyH.nil)
          refine app_step (B := w.heap.size + 2) (X := x3) I3.out (by omega) (by omega) (y := x) LY.out (by omega) (fun k hk => ULT.out k hk) KY.out.2.2 KY.out.2.1 KY.out.1 (by omega) rfl (.tmp 18) (.tmp 21) rfl rfl rfl ?_; intro gg cg x9 li9 gr9; have I9 := hideIt li9; have RL := hideIt (fun k hk => (I3.out.lt k hk).1); have D9 := hideIt (RR.grown (D3.out.alloc _) gr9 (fun k hk => by have := RL.out k hk; omega)); have F9 := hideIt (Fr.grown (F3.out.alloc _) gr9 (fun k hk => by have := RL.out k hk; omega)); have BN9 := hideIt (Bx.grown (BN3.out.alloc _) gr9 (fun e => by have := RL.out _ e; omega)); have BR9 := hideIt (Bx.grown (BR3.out.alloc _) gr9 (fun e => by have := RL.out _ e; omega)); have yn9 := BN9.out.lt; have yr9 := BR9.out.lt; have Z9 : x3.heap.size ≤ x9.heap.size := (by have z := gr9.size; (try simp at z); omega); (try clear n0 n1 n2 n3 n4 n5 n6 n7 n8 n9 nf); obtain ⟨n0, n1, n2, n3, n4, n5, n6, n7, n8, n9⟩ := BN9.out.ten; have nf := BN9.out.free; clear li9 gr9
          refine hK.out _ _ ?_ (fun hHeld => ?_)
          · trivial
          clear hK K
          try simp only [Act.put, List.setIfInBounds_toArray, List.set_cons_zero, List.set_cons_succ]
          refine wpAnyH_take (i := 6) (oi := ⟨_, _, _, _, _, _⟩) (v := ?_) rfl (by kernel_rfl) (by kernel_rfl) (by kernel_rfl) (fun _ _ _ h => h) (Or.inl ⟨by rfl, ?_⟩) (by assumption) ?_
          rotate_left 1
          · intro w hSw; (try dsimp only at hSw); go_simp; all_goals with_reducible rfl
          try simp only [Act.put, List.setIfInBounds_toArray, List.set_cons_zero, List.set_cons_succ]
          refine wpAnyH_ready (rs := [7]) (by kernel_rfl) (by simp) (AllReadyH.cons (o := ⟨_, _, _, _, _, _⟩) rfl (fun K hK => ?_) AllReadyH.nil)
          go_simp
          refine hK.out _ _ ?_ (fun hHeld => ?_)
          · trivial
          clear hK K
          try simp only [Act.put, List.setIfInBounds_toArray, List.set_cons_zero, List.set_cons_succ]
          refine wpAnyH_done (by kernel_rfl) ?_ _
          go_wp2_with (fail)
          go_roundg l.length
          case measure => simp
          case rel =>
            refine ⟨P.app (one x), G.app (.cons x.1 a3 c3 g3 .nil), .slice (some ⟨gg, 0, none⟩) (G.len + 1) cg, l, k, rfl, CH.out.2, EP, by rw [app_len]; simp only [one, Fo.len]; simp at hlen; omega, ?_, ?_, ?_, ?_, ?_⟩
            · exact hideIt (I9.out.fr (R := w.heap.size + 1) (by omega) ((Fr.refl _ _).setR 9 _))
            · exact hideIt (Bx.put BN9.out 9 _ rfl)
            · refine hideIt ?_
              exact (by repeat with_reducible first | exact BR9.out | apply Bx.alloc | apply Bx.drew | refine Bx.set ?_ (by (try dsimp only); omega) _)
            · refine hideIt ?_
              exact (by repeat with_reducible first | exact D9.out | apply RR.alloc | apply RR.drew | refine RR.setCell ?_ (by (try dsimp only); omega) _)
            · refine hideIt ?_
              exact (by repeat with_reducible first | exact F9.out | apply Fr.alloc | apply Fr.drew | refine Fr.setNew ?_ (by (try dsimp only); omega) _)

end Go.Proofs.YtoilhcklflmamaaGreatDoor

namespace Go.Proofs.YtoilhcklflmamaaGreatDoor
open Go.RowKit
open Pr
set_option linter.unusedVariables false

set_option maxRecDepth 100000 in
set_option maxHeartbeats 4000000 in
theorem ritem_fun (R g cap : Nat) (L : List Tok) (hL : L.length ≤ 70000) (o : Int) (ho : 0 ≤ o ∧ o < 40) (i j : Nat) (x : Nd) (q0 : Tok) (hq0 : L[i]? = some q0) (hk0 : q0.1.kind = 2) (t : Nat) (hy : Lx.intT q0.1.text = t) (ht : t < 6) (hs0 : isB q0 [115, 116, 114, 117, 99, 116] = false)
    (q1 : Tok) (hq1 : L[i + 1]? = some q1) (hk1 : q1.1.kind = 1) (hn1 : q1.1.text.length ≤ 65536) (h2 : At1 L (i + 2) [40]) (h3 : At1 L (i + 3) [41]) (hi : i + 4 < L.length)
    (HB : ∀ X, RR X R g cap L (i + 4) o → Calls Tryz.prog 51 #[rp R] X (PN x R g cap L j o X)) (w : World) (hw : RR w R g cap L i o) :
    Calls Tryz.prog 24 #[rp R] w (PN (⟨5, 0, 0, (t : Int), 0, 0, 0, bs q1.1.text, ⟨#[]⟩⟩, one x) R g cap L j o w) := by
  obtain ⟨q2, hq2, hb2⟩ := h2
  obtain ⟨q3, hq3, hb3⟩ := h3
  have C1 := hideIt (fun X hX => rtake_no R g cap L i o q0 hq0 [115, 116, 114, 117, 99, 116] hs0 X hX)
  have C2 := hideIt (fun X hX => rint_rd R g cap L i o q0 hq0 hk0 t hy ht (by omega) hL X hX)
  have C3 := hideIt (fun X hX => rname_rd R g cap L (i + 1) o q1 hq1 hk1 (by omega) hL X hX)
  have C4 := hideIt (fun X hX => ris_any R g cap L (i + 2) o q2 hq2 [40] X hX)
  rw [hb2] at C4
  have C5 := hideIt (fun X hX => ropens_any R g cap L (i + 2) o ho q2 hq2 [40] hb2 (by omega) hL X hX)
  have C6 := hideIt (fun X hX => ris_any R g cap L (i + 3) (o + 1) q3 hq3 [41] X hX)
  rw [hb3] at C6
  have C7 := hideIt (fun X hX => rshuts_any R g cap L (i + 3) (o + 1) ⟨by omega, by omega⟩ q3 hq3 [41] hb3 (by omega) hL X hX)
  rw [show o + 1 - 1 = o by omega] at C7
  have C8 := hideIt HB
  have HD := hideIt hw
  have hR := hw.lt_size
  clear hw HB hq0 hk0 hq1 hk1 hq2 hq3 hb2 hb3 hs0 hy ho
  go_enter Tryz.func24, Tryz.ntmps24
  go_wp2_with (first | (go_at_call_of 43 (Value.string ⟨#[115, 116, 114, 117, 99, 116]⟩); refine Calls.mono (C1.out _ (by repeat with_reducible first | exact HD.out | apply RR.alloc | apply RR.drew | refine RR.setCell ?_ (by (try dsimp only); omega) _)) ?_; rintro e x1 ⟨rfl, f1, d1⟩; have D1 := hideIt d1; have F1 := hideIt (show Fr R w x1 from Fr.trans (by repeat with_reducible first | exact (Fr.refl R w) | apply Fr.alloc | apply Fr.drew | refine Fr.setNew ?_ (by (try dsimp only); omega) _) f1); have Z1 : w.heap.size + 1 ≤ x1.heap.size := (by have z := f1.size; (try simp at z); omega); have BR1 := hideIt (Bx.fr (b := w.heap.size) (v := (nk 0)) (s := (.slice none 0 0)) (by repeat first | refine Bx.newAt _ (nk 0) (.slice none 0 0) (by (try simp); done) | with_reducible apply Bx.alloc | with_reducible apply Bx.drew | with_reducible refine Bx.set ?_ (by (try dsimp only); omega) _) (by omega) f1); have yr1 := BR1.out.lt; (try clear r0 r1 r2 r3 r4 r5 r6 r7 r8 r9 rf); obtain ⟨r0, r1, r2, r3, r4, r5, r6, r7, r8, r9⟩ := BR1.out.ten; have rf := BR1.out.free; clear f1 d1) | (go_at_call 48; refine Calls.mono (C2.out _ (by repeat with_reducible first | exact D1.out | apply RR.alloc | apply RR.drew | refine RR.setCell ?_ (by (try dsimp only); omega) _)) ?_; rintro e x2 ⟨rfl, f2, d2⟩; have D2 := hideIt d2; have F2 := hideIt (show Fr R w x2 from Fr.trans (by repeat with_reducible first | exact F1.out | apply Fr.alloc | apply Fr.drew | refine Fr.setNew ?_ (by (try dsimp only); omega) _) f2); have Z2 : x1.heap.size ≤ x2.heap.size := (by have z := f2.size; (try simp at z); omega); have BR2 := hideIt (Bx.fr (b := w.heap.size) (v := (nk 0)) (s := (.slice none 0 0)) (by repeat with_reducible first | exact BR1.out | apply Bx.alloc | apply Bx.drew | refine Bx.set ?_ (by (try dsimp only); omega) _) (by omega) f2); have yr2 := BR2.out.lt; (try clear r0 r1 r2 r3 r4 r5 r6 r7 r8 r9 rf); obtain ⟨r0, r1, r2, r3, r4, r5, r6, r7, r8, r9⟩ := BR2.out.ten; have rf := BR2.out.free; clear f2 d2) | (go_at_call 44; refine Calls.mono (C3.out _ (by repeat with_reducible first | exact D2.out | apply RR.alloc | apply RR.drew | refine RR.setCell ?_ (by (try dsimp only); omega) _)) ?_; rintro e x3 ⟨rfl, f3, d3⟩; have D3 := hideIt d3; have F3 := hideIt (show Fr R w x3 from Fr.trans (by repeat with_reducible first | exact F2.out | apply Fr.alloc | apply Fr.drew | refine Fr.setNew ?_ (by (try dsimp only); omega) _) f3); have Z3 : x2.heap.size ≤ x3.heap.size := (by have z := f3.size; (try simp at z); omega); have BR3 := hideIt (Bx.fr (b := w.heap.size) (v := (nk 0)) (s := (.slice none 0 0)) (by repeat with_reducible first | exact BR2.out | apply Bx.alloc | apply Bx.drew | refine Bx.set ?_ (by (try dsimp only); omega) _) (by omega) f3); have yr3 := BR3.out.lt; (try clear r0 r1 r2 r3 r4 r5 r6 r7 r8 r9 rf); obtain ⟨r0, r1, r2, r3, r4, r5, r6, r7, r8, r9⟩ := BR3.out.ten; have rf := BR3.out.free; clear f3 d3) | (go_at_call_of 45 (Value.string ⟨#[40]⟩); refine Calls.mono (C4.out _ D3.out) ?_; rintro e x4 ⟨rfl, q4⟩; have D4 := hideIt (D3.out.q q4); have F4 := hideIt (F3.out.q q4); have BR4 := hideIt (show Bx x4 w.heap.size (nk 0) (.slice none 0 0) from (q4.block _ BR3.out.lt).trans BR3.out); have Z4 : x3.heap.size ≤ x4.heap.size := q4.size; have yr4 := BR4.out.lt; (try clear r0 r1 r2 r3 r4 r5 r6 r7 r8 r9 rf); obtain ⟨r0, r1, r2, r3, r4, r5, r6, r7, r8, r9⟩ := BR4.out.ten; have rf := BR4.out.free; clear q4) | (go_at_call_of 47 (Value.string ⟨#[40]⟩); refine Calls.mono (C5.out _ (by repeat with_reducible first | exact D4.out | apply RR.alloc | apply RR.drew | refine RR.setCell ?_ (by (try dsimp only); omega) _)) ?_; rintro e x5 ⟨rfl, f5, d5⟩; have D5 := hideIt d5; have F5 := hideIt (show Fr R w x5 from Fr.trans (by repeat with_reducible first | exact F4.out | apply Fr.alloc | apply Fr.drew | refine Fr.setNew ?_ (by (try dsimp only); omega) _) f5); have Z5 : x4.heap.size + 1 ≤ x5.heap.size := (by have z := f5.size; (try simp at z); omega); have BR5 := hideIt (Bx.fr (b := w.heap.size) (v := (nk 0)) (s := (.slice none 0 0)) (by repeat with_reducible first | exact BR4.out | apply Bx.alloc | apply Bx.drew | refine Bx.set ?_ (by (try dsimp only); omega) _) (by omega) f5); have yr5 := BR5.out.lt; (try clear r0 r1 r2 r3 r4 r5 r6 r7 r8 r9 rf); obtain ⟨r0, r1, r2, r3, r4, r5, r6, r7, r8, r9⟩ := BR5.out.ten; have rf := BR5.out.free; have BN5 := hideIt (Bx.fr (b := x4.heap.size) (v := ⟨5, 0, 0, (t : Int), 0, 0, 0, bs q1.1.text, ⟨#[]⟩⟩) (s := (.slice none 0 0)) ((by repeat (first | (refine Bx.newAt _ ⟨5, 0, 0, (t : Int), 0, 0, 0, bs q1.1.text, ⟨#[]⟩⟩ (.slice none 0 0) ?hh; case hh => ((try simp); done)) | exact (Bx.put (Bx.new _ ⟨5, 0, 0, 0, 0, 0, 0, bs q1.1.text, ⟨#[]⟩⟩ (.slice none 0 0)) 3 _ rfl) | with_reducible refine Bx.alloc ?_ _ | with_reducible refine Bx.drew ?_))) (by omega) f5); have yn5 := BN5.out.lt; (try clear n0 n1 n2 n3 n4 n5 n6 n7 n8 n9 nf); obtain ⟨n0, n1, n2, n3, n4, n5, n6, n7, n8, n9⟩ := BN5.out.ten; have nf := BN5.out.free; clear f5 d5) | fail)
  go_loopw [] (fun wr => wr = x5) (fun _ => 0)
  case atStart => rfl
  case round =>
    subst hrel
    obtain ⟨k0, k1, k2, k3, k4⟩ := D5.out.five
    go_wp2_with (first | (go_at_call_of 45 (Value.string ⟨#[41]⟩); refine Calls.mono (C6.out _ D5.out) ?_; rintro e x6 ⟨rfl, q6⟩; have D6 := hideIt (D5.out.q q6); have F6 := hideIt (F5.out.q q6); have BR6 := hideIt (show Bx x6 w.heap.size (nk 0) (.slice none 0 0) from (q6.block _ BR5.out.lt).trans BR5.out); have BN6 := hideIt (show Bx x6 x4.heap.size ⟨5, 0, 0, (t : Int), 0, 0, 0, bs q1.1.text, ⟨#[]⟩⟩ (.slice none 0 0) from (q6.block _ BN5.out.lt).trans BN5.out); have Z6 : wr.heap.size ≤ x6.heap.size := q6.size; have yr6 := BR6.out.lt; have yn6 := BN6.out.lt; (try clear r0 r1 r2 r3 r4 r5 r6 r7 r8 r9 rf n0 n1 n2 n3 n4 n5 n6 n7 n8 n9 nf); obtain ⟨r0, r1, r2, r3, r4, r5, r6, r7, r8, r9⟩ := BR6.out.ten; have rf := BR6.out.free; obtain ⟨n0, n1, n2, n3, n4, n5, n6, n7, n8, n9⟩ := BN6.out.ten; have nf := BN6.out.free; clear q6) | (go_at_call_of 49 (Value.string ⟨#[41]⟩); refine Calls.mono (C7.out _ (by repeat with_reducible first | exact D6.out | apply RR.alloc | apply RR.drew | refine RR.setCell ?_ (by (try dsimp only); omega) _)) ?_; rintro e x7 ⟨rfl, f7, d7⟩; have D7 := hideIt d7; have F7 := hideIt (show Fr R w x7 from Fr.trans (by repeat with_reducible first | exact F6.out | apply Fr.alloc | apply Fr.drew | refine Fr.setNew ?_ (by (try dsimp only); omega) _) f7); have Z7 : x6.heap.size ≤ x7.heap.size := (by have z := f7.size; (try simp at z); omega); have BR7 := hideIt (Bx.fr (b := w.heap.size) (v := (nk 0)) (s := (.slice none 0 0)) (by repeat with_reducible first | exact BR6.out | apply Bx.alloc | apply Bx.drew | refine Bx.set ?_ (by (try dsimp only); omega) _) (by omega) f7); have yr7 := BR7.out.lt; (try clear r0 r1 r2 r3 r4 r5 r6 r7 r8 r9 rf); obtain ⟨r0, r1, r2, r3, r4, r5, r6, r7, r8, r9⟩ := BR7.out.ten; have rf := BR7.out.free; have BN7 := hideIt (Bx.fr (b := x4.heap.size) (v := ⟨5, 0, 0, (t : Int), 0, 0, 0, bs q1.1.text, ⟨#[]⟩⟩) (s := (.slice none 0 0)) (by repeat with_reducible first | exact BN6.out | apply Bx.alloc | apply Bx.drew | refine Bx.set ?_ (by (try dsimp only); omega) _) (by omega) f7); have yn7 := BN7.out.lt; (try clear n0 n1 n2 n3 n4 n5 n6 n7 n8 n9 nf); obtain ⟨n0, n1, n2, n3, n4, n5, n6, n7, n8, n9⟩ := BN7.out.ten; have nf := BN7.out.free; clear f7 d7) | fail)
    refine wp_region_held_drew (S := fun _ => True) (by kernel_rfl) (trivial) (fun hHeld => ?_)
    refine wpAnyH_take (i := 0) (oi := ⟨_, _, _, _, _, _⟩) (v := ?_) rfl (by kernel_rfl) (by kernel_rfl) (by kernel_rfl) (fun _ _ _ h => h) (Or.inl ⟨by rfl, ?_⟩) (by assumption) ?_
    rotate_left 1
    · intro w hSw; (try dsimp only at hSw); go_simp; all_goals with_reducible rfl
    try simp only [Act.put, List.setIfInBounds_toArray, List.set_cons_zero, List.set_cons_succ]
    refine wpAnyH_take (i := 2) (oi := ⟨_, _, _, _, _, _⟩) (v := ?_) rfl (by kernel_rfl) (by kernel_rfl) (by kernel_rfl) (fun _ _ _ h => h) (Or.inl ⟨by rfl, ?_⟩) (by assumption) ?_
    rotate_left 1
    · intro w hSw; (try dsimp only at hSw); go_simp; all_goals with_reducible rfl
    try simp only [Act.put, List.setIfInBounds_toArray, List.set_cons_zero, List.set_cons_succ]
    refine wpAnyH_ready (rs := [1, 3]) (by kernel_rfl) (by simp) (AllReadyH.cons (o := ⟨_, _, _, _, _, _⟩) rfl (fun K hK => ?_) (AllReadyH.cons (o := ⟨_, _, _, _, _, _⟩) rfl (fun K hK => ?_) AllReadyH.nil))
    · go_simp
      refine hK.out _ _ ?_ (fun hHeld => ?_)
      · trivial
      clear hK K
      try simp only [Act.put, List.setIfInBounds_toArray, List.set_cons_zero, List.set_cons_succ]
      refine wpAnyH_ready (rs := [3]) (by kernel_rfl) (by simp) (AllReadyH.cons (o := ⟨_, _, _, _, _, _⟩) rfl (fun K hK => ?_) AllReadyH.nil)
      go_simp
      (go_at_call 51; refine Calls.mono (C8.out _ (by repeat with_reducible first | exact D7.out | apply RR.alloc | apply RR.drew | refine RR.setCell ?_ (by (try dsimp only); omega) _)) ?_; rintro e x8 ⟨v8, rfl, hv8, f8, d8⟩; obtain ⟨a8, c8, g8, rfl, cp8, sk8, l8, ok8⟩ := hv8.out; have D8 := hideIt d8; have F8 := hideIt (show Fr R w x8 from Fr.trans (by repeat with_reducible first | exact F7.out | apply Fr.alloc | apply Fr.drew | refine Fr.setNew ?_ (by (try dsimp only); omega) _) f8); have Z8 : x7.heap.size ≤ x8.heap.size := (by have z := f8.size; (try simp at z); omega); have LY := hideIt (Ls.mono (B' := x7.heap.size) l8 (by (try simp) <;> (try omega)) (Nat.le_refl _)); have KY := hideIt (And.intro cp8 (And.intro sk8 ok8)); have BN8 := hideIt (Bx.fr BN7.out.drew (by omega) f8); have BR8 := hideIt (Bx.fr BR7.out.drew (by omega) f8); have yn8 := BN8.out.lt; have yr8 := BR8.out.lt; (try clear n0 n1 n2 n3 n4 n5 n6 n7 n8 n9 nf); obtain ⟨n0, n1, n2, n3, n4, n5, n6, n7, n8, n9⟩ := BN8.out.ten; have nf := BN8.out.free; (try clear r0 r1 r2 r3 r4 r5 r6 r7 r8 r9 rf); clear C8 hv8 l8 cp8 sk8 ok8 d8 f8)
      refine hK.out _ _ ?_ (fun hHeld => ?_)
      · trivial
      clear hK K
      try simp only [Act.put, List.setIfInBounds_toArray, List.set_cons_zero, List.set_cons_succ]
      refine wpAnyH_ready (rs := [4]) (by kernel_rfl) (by simp) (AllReadyH.cons (o := ⟨_, _, _, _, _, _⟩) rfl (fun K hK => ?_) AllReadyH.nil)
      go_simp
      refine hK.out _ _ ?_ (fun hHeld => ?_)
      · trivial
      clear hK K
      try simp only [Act.put, List.setIfInBounds_toArray, List.set_cons_zero, List.set_cons_succ]
      refine wpAnyH_ready (rs := [5]) (by kernel_rfl) (by simp) (AllReadyH.cons (o := ⟨_, _, _, _, _, _⟩) rfl (fun K hK => ?_) AllReadyH.nil)
      refine app_step (B := x7.heap.size) (X := x8) (LI.nil _ _) (by omega) (by omega) (y := x) LY.out (by omega) (fun k hk => by cases hk) KY.out.2.2 KY.out.2.1 KY.out.1 (by show (0 : Nat) ≤ 70002; omega) rfl (.tmp 114) (.tmp 117) rfl rfl rfl ?_; intro gg cg x9 li9 gr9; have I9 := hideIt li9; have RL := hideIt (fun (k : Nat) (hk : Value.ownBlock (.slice none 0 0) = some k) => (show x7.heap.size ≤ k by cases hk)); have D9 := hideIt (RR.grown (D8.out.alloc _) gr9 (fun k hk => by have := RL.out k hk; omega)); have F9 := hideIt (Fr.grown (F8.out.alloc _) gr9 (fun k hk => by have := RL.out k hk; omega)); have BN9 := hideIt (Bx.grown (BN8.out.alloc _) gr9 (fun e => by have := RL.out _ e; omega)); have BR9 := hideIt (Bx.grown (BR8.out.alloc _) gr9 (fun e => by have := RL.out _ e; omega)); have yn9 := BN9.out.lt; have yr9 := BR9.out.lt; have Z9 : x8.heap.size ≤ x9.heap.size := (by have z := gr9.size; (try simp at z); omega); (try clear n0 n1 n2 n3 n4 n5 n6 n7 n8 n9 nf); obtain ⟨n0, n1, n2, n3, n4, n5, n6, n7, n8, n9⟩ := BN9.out.ten; have nf := BN9.out.free; clear li9 gr9
      refine hK.out _ _ ?_ (fun hHeld => ?_)
      · trivial
      clear hK K
      try simp only [Act.put, List.setIfInBounds_toArray, List.set_cons_zero, List.set_cons_succ]
      refine wpAnyH_take (i := 6) (oi := ⟨_, _, _, _, _, _⟩) (v := ?_) rfl (by kernel_rfl) (by kernel_rfl) (by kernel_rfl) (fun _ _ _ h => h) (Or.inl ⟨by rfl, ?_⟩) (by assumption) ?_
      rotate_left 1
      · intro w hSw; (try dsimp only at hSw); go_simp; all_goals with_reducible rfl
      try simp only [Act.put, List.setIfInBounds_toArray, List.set_cons_zero, List.set_cons_succ]
      refine wpAnyH_ready (rs := [7]) (by kernel_rfl) (by simp) (AllReadyH.cons (o := ⟨_, _, _, _, _, _⟩) rfl (fun K hK => ?_) AllReadyH.nil)
      go_simp
      refine hK.out _ _ ?_ (fun hHeld => ?_)
      · trivial
      clear hK K
      try simp only [Act.put, List.setIfInBounds_toArray, List.set_cons_zero, List.set_cons_succ]
      refine wpAnyH_done (by kernel_rfl) ?_ _
      obtain ⟨r0, r1, r2, r3, r4, r5, r6, r7, r8, r9⟩ := BR9.out.ten
      have rf := BR9.out.free
      go_wp2_with (fail)
      obtain ⟨aL, cL, fL, eL, cpL, skL, lsL⟩ := (LI.done (x := (⟨5, 0, 0, (t : Int), 0, 0, 0, bs q1.1.text, ⟨#[]⟩⟩, one x)) I9.out).out
      have EL := hideIt eL
      refine bodyPost_ret (v := nodeV ⟨5, 0, 0, (t : Int), 0, 0, 0, bs q1.1.text, ⟨#[]⟩⟩ (.slice (some ⟨gg, 0, none⟩) (Fo.nil.len + 1) cg)) (by simp [results, Tryz.results24, go_sem, *]) rfl ⟨_, rfl, ?_, (by repeat with_reducible first | exact F9.out | apply Fr.alloc | apply Fr.drew | refine Fr.setNew ?_ (by (try dsimp only); omega) _), (by repeat with_reducible first | exact D9.out | apply RR.alloc | apply RR.drew | refine RR.setCell ?_ (by (try dsimp only); omega) _)⟩
      rw [EL.out]
      exact NV.mk (x := (⟨5, 0, 0, (t : Int), 0, 0, 0, bs q1.1.text, ⟨#[]⟩⟩, one x)) (B' := x7.heap.size) (U := x9.heap.size) cpL skL (by repeat (first | with_reducible exact lsL | (with_reducible refine Ls.set ?_ ?hh _; case hh => ((try dsimp only); omega)))) (by omega) (by refine nf_ok ?_ ?_ ?_ ?_ ?_ ?_ ?_ ?_ ?_ <;> first | omega | decide | (rw [bs_size]; omega) | exact Nat.zero_le _)
    · go_simp
      (go_at_call 51; refine Calls.mono (C8.out _ (by repeat with_reducible first | exact D7.out | apply RR.alloc | apply RR.drew | refine RR.setCell ?_ (by (try dsimp only); omega) _)) ?_; rintro e x8 ⟨v8, rfl, hv8, f8, d8⟩; obtain ⟨a8, c8, g8, rfl, cp8, sk8, l8, ok8⟩ := hv8.out; have D8 := hideIt d8; have F8 := hideIt (show Fr R w x8 from Fr.trans (by repeat with_reducible first | exact F7.out | apply Fr.alloc | apply Fr.drew | refine Fr.setNew ?_ (by (try dsimp only); omega) _) f8); have Z8 : x7.heap.size ≤ x8.heap.size := (by have z := f8.size; (try simp at z); omega); have LY := hideIt (Ls.mono (B' := x7.heap.size) l8 (by (try simp) <;> (try omega)) (Nat.le_refl _)); have KY := hideIt (And.intro cp8 (And.intro sk8 ok8)); have BN8 := hideIt (Bx.fr BN7.out.drew (by omega) f8); have BR8 := hideIt (Bx.fr BR7.out.drew (by omega) f8); have yn8 := BN8.out.lt; have yr8 := BR8.out.lt; (try clear n0 n1 n2 n3 n4 n5 n6 n7 n8 n9 nf); obtain ⟨n0, n1, n2, n3, n4, n5, n6, n7, n8, n9⟩ := BN8.out.ten; have nf := BN8.out.free; (try clear r0 r1 r2 r3 r4 r5 r6 r7 r8 r9 rf); clear C8 hv8 l8 cp8 sk8 ok8 d8 f8)
      refine hK.out _ _ ?_ (fun hHeld => ?_)
      · trivial
      clear hK K
      try simp only [Act.put, List.setIfInBounds_toArray, List.set_cons_zero, List.set_cons_succ]
      refine wpAnyH_ready (rs := [1, 4]) (by kernel_rfl) (by simp) (AllReadyH.cons (o := ⟨_, _, _, _, _, _⟩) rfl (fun K hK => ?_) (AllReadyH.cons (o := ⟨_, _, _, _, _, _⟩) rfl (fun K hK => ?_) AllReadyH.nil))
      · go_simp
        refine hK.out _ _ ?_ (fun hHeld => ?_)
        · trivial
        clear hK K
        try simp only [Act.put, List.setIfInBounds_toArray, List.set_cons_zero, List.set_cons_succ]
        refine wpAnyH_ready (rs := [4]) (by kernel_rfl) (by simp) (AllReadyH.cons (o := ⟨_, _, _, _, _, _⟩) rfl (fun K hK => ?_) AllReadyH.nil)
        go_simp
        refine hK.out _ _ ?_ (fun hHeld => ?_)
        · trivial
        clear hK K
        try simp only [Act.put, List.setIfInBounds_toArray, List.set_cons_zero, List.set_cons_succ]
        refine wpAnyH_ready (rs := [5]) (by kernel_rfl) (by simp) (AllReadyH.cons (o := ⟨_, _, _, _, _, _⟩) rfl (fun K hK => ?_) AllReadyH.nil)
        refine app_step (B := x7.heap.size) (X := x8) (LI.nil _ _) (by omega) (by omega) (y := x) LY.out (by omega) (fun k hk => by cases hk) KY.out.2.2 KY.out.2.1 KY.out.1 (by show (0 : Nat) ≤ 70002; omega) rfl (.tmp 114) (.tmp 117) rfl rfl rfl ?_; intro gg cg x9 li9 gr9; have I9 := hideIt li9; have RL := hideIt (fun (k : Nat) (hk : Value.ownBlock (.slice none 0 0) = some k) => (show x7.heap.size ≤ k by cases hk)); have D9 := hideIt (RR.grown (D8.out.alloc _) gr9 (fun k hk => by have := RL.out k hk; omega)); have F9 := hideIt (Fr.grown (F8.out.alloc _) gr9 (fun k hk => by have := RL.out k hk; omega)); have BN9 := hideIt (Bx.grown (BN8.out.alloc _) gr9 (fun e => by have := RL.out _ e; omega)); have BR9 := hideIt (Bx.grown (BR8.out.alloc _) gr9 (fun e => by have := RL.out _ e; omega)); have yn9 := BN9.out.lt; have yr9 := BR9.out.lt; have Z9 : x8.heap.size ≤ x9.heap.size := (by have z := gr9.size; (try simp at z); omega); (try clear n0 n1 n2 n3 n4 n5 n6 n7 n8 n9 nf); obtain ⟨n0, n1, n2, n3, n4, n5, n6, n7, n8, n9⟩ := BN9.out.ten; have nf := BN9.out.free; clear li9 gr9
        refine hK.out _ _ ?_ (fun hHeld => ?_)
        · trivial
        clear hK K
        try simp only [Act.put, List.setIfInBounds_toArray, List.set_cons_zero, List.set_cons_succ]
        refine wpAnyH_take (i := 6) (oi := ⟨_, _, _, _, _, _⟩) (v := ?_) rfl (by kernel_rfl) (by kernel_rfl) (by kernel_rfl) (fun _ _ _ h => h) (Or.inl ⟨by rfl, ?_⟩) (by assumption) ?_
        rotate_left 1
        · intro w hSw; (try dsimp only at hSw); go_simp; all_goals with_reducible rfl
        try simp only [Act.put, List.setIfInBounds_toArray, List.set_cons_zero, List.set_cons_succ]
        refine wpAnyH_ready (rs := [7]) (by kernel_rfl) (by simp) (AllReadyH.cons (o := ⟨_, _, _, _, _, _⟩) rfl (fun K hK => ?_) AllReadyH.nil)
        go_simp
        refine hK.out _ _ ?_ (fun hHeld => ?_)
        · trivial
        clear hK K
        try simp only [Act.put, List.setIfInBounds_toArray, List.set_cons_zero, List.set_cons_succ]
        refine wpAnyH_done (by kernel_rfl) ?_ _
        obtain ⟨r0, r1, r2, r3, r4, r5, r6, r7, r8, r9⟩ := BR9.out.ten
        have rf := BR9.out.free
        go_wp2_with (fail)
        obtain ⟨aL, cL, fL, eL, cpL, skL, lsL⟩ := (LI.done (x := (⟨5, 0, 0, (t : Int), 0, 0, 0, bs q1.1.text, ⟨#[]⟩⟩, one x)) I9.out).out
        have EL := hideIt eL
        refine bodyPost_ret (v := nodeV ⟨5, 0, 0, (t : Int), 0, 0, 0, bs q1.1.text, ⟨#[]⟩⟩ (.slice (some ⟨gg, 0, none⟩) (Fo.nil.len + 1) cg)) (by simp [results, Tryz.results24, go_sem, *]) rfl ⟨_, rfl, ?_, (by repeat with_reducible first | exact F9.out | apply Fr.alloc | apply Fr.drew | refine Fr.setNew ?_ (by (try dsimp only); omega) _), (by repeat with_reducible first | exact D9.out | apply RR.alloc | apply RR.drew | refine RR.setCell ?_ (by (try dsimp only); omega) _)⟩
        rw [EL.out]
        exact NV.mk (x := (⟨5, 0, 0, (t : Int), 0, 0, 0, bs q1.1.text, ⟨#[]⟩⟩, one x)) (B' := x7.heap.size) (U := x9.heap.size) cpL skL (by repeat (first | with_reducible exact lsL | (with_reducible refine Ls.set ?_ ?hh _; case hh => ((try dsimp only); omega)))) (by omega) (by refine nf_ok ?_ ?_ ?_ ?_ ?_ ?_ ?_ ?_ ?_ <;> first | omega | decide | (rw [bs_size]; omega) | exact Nat.zero_le _)
      · go_simp
        refine hK.out _ _ ?_ (fun hHeld => ?_)
        · trivial
        clear hK K
        try simp only [Act.put, List.setIfInBounds_toArray, List.set_cons_zero, List.set_cons_succ]
        refine wpAnyH_ready (rs := [1]) (by kernel_rfl) (by simp) (AllReadyH.cons (o := ⟨_, _, _, _, _, _⟩) rfl (fun K hK => ?_) AllReadyH.nil)
        go_simp
        refine hK.out _ _ ?_ (fun hHeld => ?_)
        · trivial
        clear hK K
        try simp only [Act.put, List.setIfInBounds_toArray, List.set_cons_zero, List.set_cons_succ]
        refine wpAnyH_ready (rs := [5]) (by kernel_rfl) (by simp) (AllReadyH.cons (o := ⟨_, _, _, _, _, _⟩) rfl (fun K hK => ?_) AllReadyH.nil)
        refine app_step (B := x7.heap.size) (X := x8) (LI.nil _ _) (by omega) (by omega) (y := x) LY.out (by omega) (fun k hk => by cases hk) KY.out.2.2 KY.out.2.1 KY.out.1 (by show (0 : Nat) ≤ 70002; omega) rfl (.tmp 114) (.tmp 117) rfl rfl rfl ?_; intro gg cg x9 li9 gr9; have I9 := hideIt li9; have RL := hideIt (fun (k : Nat) (hk : Value.ownBlock (.slice none 0 0) = some k) => (show x7.heap.size ≤ k by cases hk)); have D9 := hideIt (RR.grown (D8.out.alloc _) gr9 (fun k hk => by have := RL.out k hk; omega)); have F9 := hideIt (Fr.grown (F8.out.alloc _) gr9 (fun k hk => by have := RL.out k hk; omega)); have BN9 := hideIt (Bx.grown (BN8.out.alloc _) gr9 (fun e => by have := RL.out _ e; omega)); have BR9 := hideIt (Bx.grown (BR8.out.alloc _) gr9 (fun e => by have := RL.out _ e; omega)); have yn9 := BN9.out.lt; have yr9 := BR9.out.lt; have Z9 : x8.heap.size ≤ x9.heap.size := (by have z := gr9.size; (try simp at z); omega); (try clear n0 n1 n2 n3 n4 n5 n6 n7 n8 n9 nf); obtain ⟨n0, n1, n2, n3, n4, n5, n6, n7, n8, n9⟩ := BN9.out.ten; have nf := BN9.out.free; clear li9 gr9
        refine hK.out _ _ ?_ (fun hHeld => ?_)
        · trivial
        clear hK K
        try simp only [Act.put, List.setIfInBounds_toArray, List.set_cons_zero, List.set_cons_succ]
        refine wpAnyH_take (i := 6) (oi := ⟨_, _, _, _, _, _⟩) (v := ?_) rfl (by kernel_rfl) (by kernel_rfl) (by kernel_rfl) (fun _ _ _ h => h) (Or.inl ⟨by rfl, ?_⟩) (by assumption) ?_
        rotate_left 1
        · intro w hSw; (try dsimp only at hSw); go_simp; all_goals with_reducible rfl
        try simp only [Act.put, List.setIfInBounds_toArray, List.set_cons_zero, List.set_cons_succ]
        refine wpAnyH_ready (rs := [7]) (by kernel_rfl) (by simp) (AllReadyH.cons (o := ⟨_, _, _, _, _, _⟩) rfl (fun K hK => ?_) AllReadyH.nil)
        go_simp
        refine hK.out _ _ ?_ (fun hHeld => ?_)
        · trivial
        clear hK K
        try simp only [Act.put, List.setIfInBounds_toArray, List.set_cons_zero, List.set_cons_succ]
        refine wpAnyH_done (by kernel_rfl) ?_ _
        obtain ⟨r0, r1, r2, r3, r4, r5, r6, r7, r8, r9⟩ := BR9.out.ten
        have rf := BR9.out.free
        go_wp2_with (fail)
        obtain ⟨aL, cL, fL, eL, cpL, skL, lsL⟩ := (LI.done (x := (⟨5, 0, 0, (t : Int), 0, 0, 0, bs q1.1.text, ⟨#[]⟩⟩, one x)) I9.out).out
        have EL := hideIt eL
        refine bodyPost_ret (v := nodeV ⟨5, 0, 0, (t : Int), 0, 0, 0, bs q1.1.text, ⟨#[]⟩⟩ (.slice (some ⟨gg, 0, none⟩) (Fo.nil.len + 1) cg)) (by simp [results, Tryz.results24, go_sem, *]) rfl ⟨_, rfl, ?_, (by repeat with_reducible first | exact F9.out | apply Fr.alloc | apply Fr.drew | refine Fr.setNew ?_ (by (try dsimp only); omega) _), (by repeat with_reducible first | exact D9.out | apply RR.alloc | apply RR.drew | refine RR.setCell ?_ (by (try dsimp only); omega) _)⟩
        rw [EL.out]
        exact NV.mk (x := (⟨5, 0, 0, (t : Int), 0, 0, 0, bs q1.1.text, ⟨#[]⟩⟩, one x)) (B' := x7.heap.size) (U := x9.heap.size) cpL skL (by repeat (first | with_reducible exact lsL | (with_reducible refine Ls.set ?_ ?hh _; case hh => ((try dsimp only); omega)))) (by omega) (by refine nf_ok ?_ ?_ ?_ ?_ ?_ ?_ ?_ ?_ ?_ <;> first | omega | decide | (rw [bs_size]; omega) | exact Nat.zero_le _)

end Go.Proofs.YtoilhcklflmamaaGreatDoor
