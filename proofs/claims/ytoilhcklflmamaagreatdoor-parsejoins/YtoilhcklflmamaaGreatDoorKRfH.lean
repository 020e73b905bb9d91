/-
  The document's Parse of a text with one item: contracts over the program; the conditions: the reader lies in memory, and what stands there is such a thing.
-/
import Derived.Test.YtoilhcklflmamaaGreatDoorKRfE
import Derived.Test.YtoilhcklflmamaaGreatDoorKLxRefC
import Derived.Test.YtoilhcklflmamaaGreatDoorKSizes
import Derived.Test.YtoilhcklflmamaaGreatDoorKPrO
namespace Go.Proofs.YtoilhcklflmamaaGreatDoor
open Go.RowKit
open Pr
set_option linter.unusedVariables false

theorem cp_depth : ∀ {f g : Fo}, Cp f g → g.depth = f.depth := by
  intro f
  induction f with
  | nil => intro g h; cases g with
    | nil => rfl
    | cons => exact h.elim
  | cons v a c k r ihk ihr =>
    intro g h
    cases g with
    | nil => exact h.elim
    | cons v' a' c' k' r' => simp only [Fo.depth, ihk h.2.1, ihr h.2.2]
theorem fr_q {R : Nat} {w x : World} (h : Fr R w x) (hR : w.heap.size ≤ R) : Q w x := ⟨h.os, h.tape, h.output, h.size, fun k hk => h.block k hk (fun e => by cases e; omega)⟩
theorem rlex_ok (s : ByteArray) (w : World) (hs : s.size ≤ 65536) (h : (Lx.lex 0 (bl s)).2 = none) :
    Calls Tryz.prog 23 #[.string s] w fun e w' => ∃ g cap, e = .returned (.tuple #[.slice (some ⟨g, 0, none⟩) (toks (bl s)).length cap, .int .i64 0, .int .i64 0]) ∧ Tks w' g cap (toks (bl s)) ∧ w.heap.size ≤ g ∧ Q w w' := by
  refine (rlex_any s w hs).mono ?_
  rintro e w' ⟨hq, h1, _⟩
  obtain ⟨v, rfl, ho⟩ := h1 h
  have el : (toks (bl s)).length = (Lx.lex 0 (bl s)).1.length + 1 := by simp [toks]
  rw [← bl_len s] at ho
  have ho' : w'.ownsRow w.heap.size 58 5 v (toks (bl s)).length (tksC (toks (bl s))) := by rw [el]; exact ho
  obtain ⟨g, cap, rfl, hb, ht⟩ := tks_of ho' (by rw [el]; omega)
  exact ⟨g, cap, rfl, ht, hb, hq⟩
theorem RR.start {x : World} {g cap : Nat} {L : List Tok} (h : Tks x g cap L) : RR (x.alloc (.cells #[.slice (some ⟨g, 0, none⟩) L.length cap, .int .i64 0, .int .i64 0, .int .i64 0, .int .i64 0] 56)) x.heap.size g cap L 0 0 :=
  ⟨heap_alloc_new x _, h.keep ((Q.refl x).alloc _), h.lt⟩

set_option maxRecDepth 100000 in
set_option maxHeartbeats 4000000 in
theorem rparse_one (s : ByteArray) (hs : s.size ≤ 65536) (h : (Lx.lex 0 (bl s)).2 = none) (L : List Tok) (hT : toks (bl s) = L) (hL : L.length ≤ 70000) (x : Nd) (hsz : x.2.size ≤ 3000) (hdp : x.2.depth ≤ 30) (j : Nat) (q0 qj : Tok) (hq0 : L[0]? = some q0) (hk0 : q0.1.kind ≠ 0) (hqj : L[j]? = some qj) (hkj : qj.1.kind = 0)
    (HI : ∀ R g cap X, RR X R g cap L 0 0 → Calls Tryz.prog 24 #[rp R] X (PN x R g cap L j 0 X)) (w : World) :
    Calls Tryz.prog 10 #[.string s] w fun e w' => (∃ a c f, e = .returned (.tuple #[nodeV (nk 1) (.slice a (Fo.len f) c), .int .i64 0, .int .i64 0, .bool false]) ∧ Cp (one x) f ∧ sok a f.len c ∧ In w' a f) ∧ Q w w' := by
  have CL := hideIt (fun X => rlex_ok s X hs h)
  rw [hT] at CL
  have CI := hideIt HI
  have HQ0 := hideIt hq0
  have HQJ := hideIt hqj
  have HSZ := hideIt (And.intro hsz hdp)
  clear HI h hs hT hq0 hqj hsz hdp
  go_enter Tryz.func10, Tryz.ntmps10
  go_wp2_with (first | (go_at_call 23; refine Calls.mono (CL.out _) ?_; rintro e x1 ⟨g, cap, rfl, ht, hg, q1⟩; have TK := hideIt ht; have Q1 := hideIt (((Q.refl w).alloc _).trans q1); have Z1 : w.heap.size + 1 ≤ x1.heap.size := (by have z := q1.size; (try simp at z); omega); have BR1 := hideIt (show Bx x1 w.heap.size (nk 0) (.slice none 0 0) from (q1.block _ (by simp)).trans (Bx.newAt w (nk 0) (.slice none 0 0) rfl)); clear CL ht q1) | fail)
  go_loopg [] 1 (fun m wr => (m = 1 ∧ Hid (Bx wr (x1.heap.size + 1) (nk 1) (.slice none 0 0)) ∧ Hid (Bx wr w.heap.size (nk 0) (.slice none 0 0)) ∧ Hid (RR wr x1.heap.size g cap L 0 0) ∧ Hid (Fr x1.heap.size w wr)) ∨ (m = 0 ∧ ∃ (G : Fo) (u : Value), Hid (LI (x1.heap.size + 2) wr u (one x) G) ∧ Hid (Bx wr (x1.heap.size + 1) (nk 1) u) ∧ Hid (Bx wr w.heap.size (nk 0) (.slice none 0 0)) ∧ Hid (RR wr x1.heap.size g cap L j 0) ∧ Hid (Fr x1.heap.size w wr)))
  case atStart => exact Or.inl ⟨rfl, Bx.newAt _ (nk 1) (.slice none 0 0) (by simp), (BR1.out.alloc _).alloc _, (RR.start TK.out).alloc _, Fr.of_q ((Q1.out.alloc _).alloc _)⟩
  case round =>
    clear BR1 TK
    rcases hrel with ⟨rfl, BN, BR, D0, F0⟩ | ⟨rfl, G, u, I0, BN, BR, D0, F0⟩
    · obtain ⟨k0, k1, k2, k3, k4⟩ := D0.out.five
      obtain ⟨t0, t1, t2, t3, t4⟩ := D0.out.tks.five _ _ HQ0.out
      have hlt : (0 : Int) < (L.length : Int) := by have := (List.getElem?_eq_some_iff.1 HQ0.out).1; omega
      have hkn : ((q0.1.kind : Int) != 0) = true := by simp; omega
      have hgl := D0.out.tks.lt
      have hRl := D0.out.lt_size
      have Z0 := F0.out.size
      go_wp2_with (fail)
      go_quiet (fail)
      clear k0 k1 k2 k3 k4 t0 t1 t2 t3 t4
      have D2 := hideIt (RR.drewN D0.out nq)
      have F2 := hideIt (Fr.drewN F0.out nq)
      have BN2 := hideIt (show Bx (wr.drewN nq) (x1.heap.size + 1) (nk 1) (.slice none 0 0) from BN.out)
      have BR2 := hideIt (show Bx (wr.drewN nq) w.heap.size (nk 0) (.slice none 0 0) from BR.out)
      have hRl2 : x1.heap.size < (wr.drewN nq).heap.size := hRl
      clear hgl hRl Z0 D0 F0 BN BR
      go_wp2_with (fail)
      generalize wr.drewN nq = x2 at *
      have yn2 := BN2.out.lt
      have yr2 := BR2.out.lt
      obtain ⟨n0, n1, n2, n3, n4, n5, n6, n7, n8, n9⟩ := BN2.out.ten
      have nf := BN2.out.free
      refine wp_region_held_drew (S := fun _ => True) (by kernel_rfl) (trivial) (fun hHeld => ?_)
      refine wpAnyH_take (i := 0) (oi := ⟨_, _, _, _, _, _⟩) (v := ?_) rfl (by kernel_rfl) (by kernel_rfl) (by kernel_rfl) (fun _ _ _ h => h) (Or.inl ⟨by rfl, ?_⟩) (by assumption) ?_
      rotate_left 1
      · intro w hSw; (try dsimp only at hSw); go_simp; all_goals with_reducible rfl
      try simp only [Act.put, List.setIfInBounds_toArray, List.set_cons_zero, List.set_cons_succ]
      refine wpAnyH_take (i := 2) (oi := ⟨_, _, _, _, _, _⟩) (v := ?_) rfl (by kernel_rfl) (by kernel_rfl) (by kernel_rfl) (fun _ _ _ h => h) (Or.inl ⟨by rfl, ?_⟩) (by assumption) ?_
      rotate_left 1
      · intro w hSw; (try dsimp only at hSw); go_simp; all_goals with_reducible rfl
      try simp only [Act.put, List.setIfInBounds_toArray, List.set_cons_zero, List.set_cons_succ]
      refine wpAnyH_ready (rs := [1, 3]) (by kernel_rfl) (by simp) (AllReadyH.cons (o := ⟨_, _, _, _, _, _⟩) rfl (fun K hK => ?_) (AllReadyH.cons (o := ⟨_, _, _, _, _, _⟩) rfl (fun K hK => ?_) AllReadyH.nil))
      · go_simp
        refine hK.out _ _ ?_ (fun hHeld => ?_)
        · trivial
        clear hK K
        try simp only [Act.put, List.setIfInBounds_toArray, List.set_cons_zero, List.set_cons_succ]
        refine wpAnyH_ready (rs := [3]) (by kernel_rfl) (by simp) (AllReadyH.cons (o := ⟨_, _, _, _, _, _⟩) rfl (fun K hK => ?_) AllReadyH.nil)
        go_simp
        (go_at_call 24; refine Calls.mono (CI.out x1.heap.size g cap _ D2.out.drew) ?_; rintro e x3 ⟨v3, rfl, hv3, f3, d3⟩; obtain ⟨a3, c3, g3, rfl, cp3, sk3, l3, ok3⟩ := hv3.out; have D3 := hideIt d3; have F3 := hideIt (show Fr x1.heap.size w x3 from Fr.trans F2.out.drew f3); have Z3 : x2.heap.size ≤ x3.heap.size := (by have z := f3.size; (try simp at z); omega); have LY := hideIt (Ls.mono (B' := x2.heap.size) l3 (by (try simp) <;> (try omega)) (Nat.le_refl _)); have KY := hideIt (And.intro cp3 (And.intro sk3 ok3)); have BN3 := hideIt (Bx.fr BN2.out.drew (by omega) f3); have BR3 := hideIt (Bx.fr BR2.out.drew (by omega) f3); have yn3 := BN3.out.lt; have yr3 := BR3.out.lt; (try clear n0 n1 n2 n3 n4 n5 n6 n7 n8 n9 nf); obtain ⟨n0, n1, n2, n3, n4, n5, n6, n7, n8, n9⟩ := BN3.out.ten; have nf := BN3.out.free; clear CI hv3 l3 cp3 sk3 ok3 d3 f3)
        refine hK.out _ _ ?_ (fun hHeld => ?_)
        · trivial
        clear hK K
        try simp only [Act.put, List.setIfInBounds_toArray, List.set_cons_zero, List.set_cons_succ]
        refine wpAnyH_ready (rs := [4]) (by kernel_rfl) (by simp) (AllReadyH.cons (o := ⟨_, _, _, _, _, _⟩) rfl (fun K hK => ?_) AllReadyH.nil)
        go_simp
        refine hK.out _ _ ?_ (fun hHeld => ?_)
        · trivial
        clear hK K
        try simp only [Act.put, List.setIfInBounds_toArray, List.set_cons_zero, List.set_cons_succ]
        refine wpAnyH_ready (rs := [5]) (by kernel_rfl) (by simp) (AllReadyH.cons (o := ⟨_, _, _, _, _, _⟩) rfl (fun K hK => ?_) AllReadyH.nil)
        refine app_step (B := x1.heap.size + 2) (X := x3) (LI.nil _ _) (by omega) (by omega) (y := x) LY.out (by omega) (fun k hk => by cases hk) KY.out.2.2 KY.out.2.1 KY.out.1 (by show (0 : Nat) ≤ 70002; omega) rfl (.tmp 47) (.tmp 50) rfl rfl rfl ?_; intro gg cg x9 li9 gr9; have I9 := hideIt li9; have RL := hideIt (fun (k : Nat) (hk : Value.ownBlock (.slice none 0 0) = some k) => (show x1.heap.size + 2 ≤ k by cases hk)); have D9 := hideIt (RR.grown (D3.out.alloc _) gr9 (fun k hk => by have := RL.out k hk; omega)); have F9 := hideIt (Fr.grown (F3.out.alloc _) gr9 (fun k hk => by have := RL.out k hk; omega)); have BN9 := hideIt (Bx.grown (BN3.out.alloc _) gr9 (fun e => by have := RL.out _ e; omega)); have BR9 := hideIt (Bx.grown (BR3.out.alloc _) gr9 (fun e => by have := RL.out _ e; omega)); have yn9 := BN9.out.lt; have yr9 := BR9.out.lt; have Z9 : x3.heap.size ≤ x9.heap.size := (by have z := gr9.size; (try simp at z); omega); (try clear n0 n1 n2 n3 n4 n5 n6 n7 n8 n9 nf); obtain ⟨n0, n1, n2, n3, n4, n5, n6, n7, n8, n9⟩ := BN9.out.ten; have nf := BN9.out.free; clear li9 gr9
        refine hK.out _ _ ?_ (fun hHeld => ?_)
        · trivial
        clear hK K
        try simp only [Act.put, List.setIfInBounds_toArray, List.set_cons_zero, List.set_cons_succ]
        refine wpAnyH_take (i := 6) (oi := ⟨_, _, _, _, _, _⟩) (v := ?_) rfl (by kernel_rfl) (by kernel_rfl) (by kernel_rfl) (fun _ _ _ h => h) (Or.inl ⟨by rfl, ?_⟩) (by assumption) ?_
        rotate_left 1
        · intro w hSw; (try dsimp only at hSw); go_simp; all_goals with_reducible rfl
        try simp only [Act.put, List.setIfInBounds_toArray, List.set_cons_zero, List.set_cons_succ]
        refine wpAnyH_ready (rs := [7]) (by kernel_rfl) (by simp) (AllReadyH.cons (o := ⟨_, _, _, _, _, _⟩) rfl (fun K hK => ?_) AllReadyH.nil)
        go_simp
        refine hK.out _ _ ?_ (fun hHeld => ?_)
        · trivial
        clear hK K
        try simp only [Act.put, List.setIfInBounds_toArray, List.set_cons_zero, List.set_cons_succ]
        refine wpAnyH_done (by kernel_rfl) ?_ _
        go_wp2_with (fail)
        go_roundg 0
        case measure => omega
        case rel =>
          refine Or.inr ⟨rfl, .cons x.1 a3 c3 g3 .nil, .slice (some ⟨gg, 0, none⟩) (Fo.nil.len + 1) cg, ?_, ?_, ?_, ?_, ?_⟩
          · exact hideIt (I9.out.fr (R := x1.heap.size + 1) (by omega) ((Fr.refl _ _).setR 9 _))
          · exact hideIt (Bx.put BN9.out 9 _ rfl)
          · refine hideIt ?_
            exact (by repeat with_reducible first | exact BR9.out | apply Bx.alloc | apply Bx.drew | refine Bx.set ?_ (by (try dsimp only); omega) _)
          · refine hideIt ?_
            exact (by repeat with_reducible first | exact D9.out | apply RR.alloc | apply RR.drew | refine RR.setCell ?_ (by (try dsimp only); omega) _)
          · refine hideIt ?_
            exact (by repeat with_reducible first | exact F9.out | apply Fr.alloc | apply Fr.drew | refine Fr.setNew ?_ (by (try dsimp only); omega) _)
      · go_simp
        (go_at_call 24; refine Calls.mono (CI.out x1.heap.size g cap _ D2.out.drew) ?_; rintro e x3 ⟨v3, rfl, hv3, f3, d3⟩; obtain ⟨a3, c3, g3, rfl, cp3, sk3, l3, ok3⟩ := hv3.out; have D3 := hideIt d3; have F3 := hideIt (show Fr x1.heap.size w x3 from Fr.trans F2.out.drew f3); have Z3 : x2.heap.size ≤ x3.heap.size := (by have z := f3.size; (try simp at z); omega); have LY := hideIt (Ls.mono (B' := x2.heap.size) l3 (by (try simp) <;> (try omega)) (Nat.le_refl _)); have KY := hideIt (And.intro cp3 (And.intro sk3 ok3)); have BN3 := hideIt (Bx.fr BN2.out.drew (by omega) f3); have BR3 := hideIt (Bx.fr BR2.out.drew (by omega) f3); have yn3 := BN3.out.lt; have yr3 := BR3.out.lt; (try clear n0 n1 n2 n3 n4 n5 n6 n7 n8 n9 nf); obtain ⟨n0, n1, n2, n3, n4, n5, n6, n7, n8, n9⟩ := BN3.out.ten; have nf := BN3.out.free; clear CI hv3 l3 cp3 sk3 ok3 d3 f3)
        refine hK.out _ _ ?_ (fun hHeld => ?_)
        · trivial
        clear hK K
        try simp only [Act.put, List.setIfInBounds_toArray, List.set_cons_zero, List.set_cons_succ]
        refine wpAnyH_ready (rs := [1, 4]) (by kernel_rfl) (by simp) (AllReadyH.cons (o := ⟨_, _, _, _, _, _⟩) rfl (fun K hK => ?_) (AllReadyH.cons (o := ⟨_, _, _, _, _, _⟩) rfl (fun K hK => ?_) AllReadyH.nil))
        · go_simp
          refine hK.out _ _ ?_ (fun hHeld => ?_)
          · trivial
          clear hK K
          try simp only [Act.put, List.setIfInBounds_toArray, List.set_cons_zero, List.set_cons_succ]
          refine wpAnyH_ready (rs := [4]) (by kernel_rfl) (by simp) (AllReadyH.cons (o := ⟨_, _, _, _, _, _⟩) rfl (fun K hK => ?_) AllReadyH.nil)
          go_simp
          refine hK.out _ _ ?_ (fun hHeld => ?_)
          · trivial
          clear hK K
          try simp only [Act.put, List.setIfInBounds_toArray, List.set_cons_zero, List.set_cons_succ]
          refine wpAnyH_ready (rs := [5]) (by kernel_rfl) (by simp) (AllReadyH.cons (o := ⟨_, _, _, _, _, _⟩) rfl (fun K hK => ?_) AllReadyH.nil)
          refine app_step (B := x1.heap.size + 2) (X := x3) (LI.nil _ _) (by omega) (by omega) (y := x) LY.out (by omega) (fun k hk => by cases hk) KY.out.2.2 KY.out.2.1 KY.out.1 (by show (0 : Nat) ≤ 70002; omega) rfl (.tmp 47) (.tmp 50) rfl rfl rfl ?_; intro gg cg x9 li9 gr9; have I9 := hideIt li9; have RL := hideIt (fun (k : Nat) (hk : Value.ownBlock (.slice none 0 0) = some k) => (show x1.heap.size + 2 ≤ k by cases hk)); have D9 := hideIt (RR.grown (D3.out.alloc _) gr9 (fun k hk => by have := RL.out k hk; omega)); have F9 := hideIt (Fr.grown (F3.out.alloc _) gr9 (fun k hk => by have := RL.out k hk; omega)); have BN9 := hideIt (Bx.grown (BN3.out.alloc _) gr9 (fun e => by have := RL.out _ e; omega)); have BR9 := hideIt (Bx.grown (BR3.out.alloc _) gr9 (fun e => by have := RL.out _ e; omega)); have yn9 := BN9.out.lt; have yr9 := BR9.out.lt; have Z9 : x3.heap.size ≤ x9.heap.size := (by have z := gr9.size; (try simp at z); omega); (try clear n0 n1 n2 n3 n4 n5 n6 n7 n8 n9 nf); obtain ⟨n0, n1, n2, n3, n4, n5, n6, n7, n8, n9⟩ := BN9.out.ten; have nf := BN9.out.free; clear li9 gr9
          refine hK.out _ _ ?_ (fun hHeld => ?_)
          · trivial
          clear hK K
          try simp only [Act.put, List.setIfInBounds_toArray, List.set_cons_zero, List.set_cons_succ]
          refine wpAnyH_take (i := 6) (oi := ⟨_, _, _, _, _, _⟩) (v := ?_) rfl (by kernel_rfl) (by kernel_rfl) (by kernel_rfl) (fun _ _ _ h => h) (Or.inl ⟨by rfl, ?_⟩) (by assumption) ?_
          rotate_left 1
          · intro w hSw; (try dsimp only at hSw); go_simp; all_goals with_reducible rfl
          try simp only [Act.put, List.setIfInBounds_toArray, List.set_cons_zero, List.set_cons_succ]
          refine wpAnyH_ready (rs := [7]) (by kernel_rfl) (by simp) (AllReadyH.cons (o := ⟨_, _, _, _, _, _⟩) rfl (fun K hK => ?_) AllReadyH.nil)
          go_simp
          refine hK.out _ _ ?_ (fun hHeld => ?_)
          · trivial
          clear hK K
          try simp only [Act.put, List.setIfInBounds_toArray, List.set_cons_zero, List.set_cons_succ]
          refine wpAnyH_done (by kernel_rfl) ?_ _
          go_wp2_with (fail)
          go_roundg 0
          case measure => omega
          case rel =>
            refine Or.inr ⟨rfl, .cons x.1 a3 c3 g3 .nil, .slice (some ⟨gg, 0, none⟩) (Fo.nil.len + 1) cg, ?_, ?_, ?_, ?_, ?_⟩
            · exact hideIt (I9.out.fr (R := x1.heap.size + 1) (by omega) ((Fr.refl _ _).setR 9 _))
            · exact hideIt (Bx.put BN9.out 9 _ rfl)
            · refine hideIt ?_
              exact (by repeat with_reducible first | exact BR9.out | apply Bx.alloc | apply Bx.drew | refine Bx.set ?_ (by (try dsimp only); omega) _)
            · refine hideIt ?_
              exact (by repeat with_reducible first | exact D9.out | apply RR.alloc | apply RR.drew | refine RR.setCell ?_ (by (try dsimp only); omega) _)
            · refine hideIt ?_
              exact (by repeat with_reducible first | exact F9.out | apply Fr.alloc | apply Fr.drew | refine Fr.setNew ?_ (by (try dsimp only); omega) _)
        · go_simp
          refine hK.out _ _ ?_ (fun hHeld => ?_)
          · trivial
          clear hK K
          try simp only [Act.put, List.setIfInBounds_toArray, List.set_cons_zero, List.set_cons_succ]
          refine wpAnyH_ready (rs := [1]) (by kernel_rfl) (by simp) (AllReadyH.cons (o := ⟨_, _, _, _, _, _⟩) rfl (fun K hK => ?_) AllReadyH.nil)
          go_simp
          refine hK.out _ _ ?_ (fun hHeld => ?_)
          · trivial
          clear hK K
          try simp only [Act.put, List.setIfInBounds_toArray, List.set_cons_zero, List.set_cons_succ]
          refine wpAnyH_ready (rs := [5]) (by kernel_rfl) (by simp) (AllReadyH.cons (o := ⟨_, _, _, _, _, _⟩) rfl (fun K hK => ?_) AllReadyH.nil)
          refine app_step (B := x1.heap.size + 2) (X := x3) (LI.nil _ _) (by omega) (by omega) (y := x) LY.out (by omega) (fun k hk => by cases hk) KY.out.2.2 KY.out.2.1 KY.out.1 (by show (0 : Nat) ≤ 70002; omega) rfl (.tmp 47) (.tmp 50) rfl rfl rfl ?_; intro gg cg x9 li9 gr9; have I9 := hideIt li9; have RL := hideIt (fun (k : Nat) (hk : Value.ownBlock (.slice none 0 0) = some k) => (show x1.heap.size + 2 ≤ k by cases hk)); have D9 := hideIt (RR.grown (D3.out.alloc _) gr9 (fun k hk => by have := RL.out k hk; omega)); have F9 := hideIt (Fr.grown (F3.out.alloc _) gr9 (fun k hk => by have := RL.out k hk; omega)); have BN9 := hideIt (Bx.grown (BN3.out.alloc _) gr9 (fun e => by have := RL.out _ e; omega)); have BR9 := hideIt (Bx.grown (BR3.out.alloc _) gr9 (fun e => by have := RL.out _ e; omega)); have yn9 := BN9.out.lt; have yr9 := BR9.out.lt; have Z9 : x3.heap.size ≤ x9.heap.size := (by have z := gr9.size; (try simp at z); omega); (try clear n0 n1 n2 n3 n4 n5 n6 n7 n8 n9 nf); obtain ⟨n0, n1, n2, n3, n4, n5, n6, n7, n8, n9⟩ := BN9.out.ten; have nf := BN9.out.free; clear li9 gr9
          refine hK.out _ _ ?_ (fun hHeld => ?_)
          · trivial
          clear hK K
          try simp only [Act.put, List.setIfInBounds_toArray, List.set_cons_zero, List.set_cons_succ]
          refine wpAnyH_take (i := 6) (oi := ⟨_, _, _, _, _, _⟩) (v := ?_) rfl (by kernel_rfl) (by kernel_rfl) (by kernel_rfl) (fun _ _ _ h => h) (Or.inl ⟨by rfl, ?_⟩) (by assumption) ?_
          rotate_left 1
          · intro w hSw; (try dsimp only at hSw); go_simp; all_goals with_reducible rfl
          try simp only [Act.put, List.setIfInBounds_toArray, List.set_cons_zero, List.set_cons_succ]
          refine wpAnyH_ready (rs := [7]) (by kernel_rfl) (by simp) (AllReadyH.cons (o := ⟨_, _, _, _, _, _⟩) rfl (fun K hK => ?_) AllReadyH.nil)
          go_simp
          refine hK.out _ _ ?_ (fun hHeld => ?_)
          · trivial
          clear hK K
          try simp only [Act.put, List.setIfInBounds_toArray, List.set_cons_zero, List.set_cons_succ]
          refine wpAnyH_done (by kernel_rfl) ?_ _
          go_wp2_with (fail)
          go_roundg 0
          case measure => omega
          case rel =>
            refine Or.inr ⟨rfl, .cons x.1 a3 c3 g3 .nil, .slice (some ⟨gg, 0, none⟩) (Fo.nil.len + 1) cg, ?_, ?_, ?_, ?_, ?_⟩
            · exact hideIt (I9.out.fr (R := x1.heap.size + 1) (by omega) ((Fr.refl _ _).setR 9 _))
            · exact hideIt (Bx.put BN9.out 9 _ rfl)
            · refine hideIt ?_
              exact (by repeat with_reducible first | exact BR9.out | apply Bx.alloc | apply Bx.drew | refine Bx.set ?_ (by (try dsimp only); omega) _)
            · refine hideIt ?_
              exact (by repeat with_reducible first | exact D9.out | apply RR.alloc | apply RR.drew | refine RR.setCell ?_ (by (try dsimp only); omega) _)
            · refine hideIt ?_
              exact (by repeat with_reducible first | exact F9.out | apply Fr.alloc | apply Fr.drew | refine Fr.setNew ?_ (by (try dsimp only); omega) _)
    · obtain ⟨k0, k1, k2, k3, k4⟩ := D0.out.five
      obtain ⟨t0, t1, t2, t3, t4⟩ := D0.out.tks.five _ _ HQJ.out
      rw [hkj] at t0
      have hlt : (j : Int) < (L.length : Int) := by have := (List.getElem?_eq_some_iff.1 HQJ.out).1; omega
      have hgl := D0.out.tks.lt
      have hRl := D0.out.lt_size
      have Z0 := F0.out.size
      obtain ⟨a', c', eu, skG, inG, avG⟩ := own_form I0.out.own I0.out.ki
      have AVG := hideIt (avG (fun b => x1.heap.size + 2 ≤ b) (fun b hb => hb) (I0.out.av.mono fun b hb => hb.1))
      have CPG := hideIt I0.out.cp
      clear avG
      subst eu
      have hGs : G.size = x.2.size + 1 := by have := I0.out.cp.size; rw [this]; simp [one, Fo.size]
      have hGd : G.depth = x.2.depth + 1 := by have := cp_depth I0.out.cp; rw [this]; simp [one, Fo.depth]
      have SKG := hideIt skG
      have ING := hideIt inG
      have GSD := hideIt (And.intro hGs hGd)
      clear skG inG hGs hGd
      go_wp2_with (fail)
      go_quiet (fail)
      clear k0 k1 k2 k3 k4 t0 t1 t2 t3 t4
      have D2 := hideIt (RR.drewN D0.out nq)
      have F2 := hideIt (Fr.drewN F0.out nq)
      have BN2 := hideIt (show Bx (wr.drewN nq) (x1.heap.size + 1) (nk 1) (.slice a' G.len c') from BN.out)
      have BR2 := hideIt (show Bx (wr.drewN nq) w.heap.size (nk 0) (.slice none 0 0) from BR.out)
      have IN2 := hideIt (show In (wr.drewN nq) a' G from ING.out.keep (Nat.le_refl _) (fr_q (Fr.drewN (Fr.refl wr.heap.size wr) nq) (Nat.le_refl _)))
      clear hgl hRl Z0 D0 F0 BN BR ING I0
      generalize wr.drewN nq = x2 at *
      have yn2 := BN2.out.lt
      have yr2 := BR2.out.lt
      obtain ⟨n0, n1, n2, n3, n4, n5, n6, n7, n8, n9⟩ := BN2.out.ten
      have CS := hideIt (fun X (h : In X a' G) => rsize_any (G.size + 1) G (by omega) (nk 1) a' c' X h SKG.out)
      have CD := hideIt (fun X (h : In X a' G) => rDepth_any G (nk 1) a' c' X h SKG.out)
      obtain ⟨M, hM⟩ : ∃ M, min (G.size + 1) 4001 = M := ⟨_, rfl⟩
      have hM1 : M ≤ 4000 := by have := GSD.out; have := HSZ.out; omega
      rw [hM] at CS
      have hMd : decide ((4000 : Int) < (M : Int)) = false := by simp; omega
      obtain ⟨M2, hM2⟩ : ∃ M2, min (G.depth + 1) 41 = M2 := ⟨_, rfl⟩
      have hM3 : M2 ≤ 40 := by have := GSD.out; have := HSZ.out; omega
      rw [hM2] at CD
      have hMd2 : decide ((40 : Int) < (M2 : Int)) = false := by simp; omega
      clear hM hM1 hM2 hM3
      go_wp2_with (first | (go_at_call 16; refine Calls.mono (CS.out _ IN2.out) ?_; rintro e x3 ⟨rfl, q3⟩; have D3 := hideIt (D2.out.q q3); have F3 := hideIt (F2.out.q q3); have BN3 := hideIt (show Bx x3 (x1.heap.size + 1) (nk 1) (.slice a' G.len c') from (q3.block _ BN2.out.lt).trans BN2.out); have BR3 := hideIt (show Bx x3 w.heap.size (nk 0) (.slice none 0 0) from (q3.block _ BR2.out.lt).trans BR2.out); have IN3 := hideIt (IN2.out.keep (Nat.le_refl _) q3); have yn3 := BN3.out.lt; have yr3 := BR3.out.lt; have hR3 := D3.out.lt_size; clear n0 n1 n2 n3 n4 n5 n6 n7 n8 n9; obtain ⟨n0, n1, n2, n3, n4, n5, n6, n7, n8, n9⟩ := BN3.out.ten; obtain ⟨k0, k1, k2, k3, k4⟩ := D3.out.five; clear q3) | (go_at_call 25; refine Calls.mono (CD.out _ IN3.out) ?_; rintro e x4 ⟨rfl, q4⟩; have F4 := hideIt (F3.out.q q4); have BN4 := hideIt (show Bx x4 (x1.heap.size + 1) (nk 1) (.slice a' G.len c') from (q4.block _ BN3.out.lt).trans BN3.out); have BR4 := hideIt (show Bx x4 w.heap.size (nk 0) (.slice none 0 0) from (q4.block _ BR3.out.lt).trans BR3.out); have IN4 := hideIt (IN3.out.keep (Nat.le_refl _) q4); have yn4 := BN4.out.lt; have yr4 := BR4.out.lt; clear n0 n1 n2 n3 n4 n5 n6 n7 n8 n9; obtain ⟨n0, n1, n2, n3, n4, n5, n6, n7, n8, n9⟩ := BN4.out.ten; obtain ⟨r0, r1, r2, r3, r4, r5, r6, r7, r8, r9⟩ := BR4.out.ten; have rf := BR4.out.free; clear q4) | fail)
      refine bodyPost_ret (v := .tuple #[nodeV (nk 1) (.slice a' G.len c'), .int .i64 0, .int .i64 0, .bool false]) (by simp [results, Tryz.results10, go_sem, *]) rfl ⟨⟨a', c', G, rfl, CPG.out, SKG.out, ?_⟩, fr_q (R := x1.heap.size) (by repeat with_reducible first | exact F4.out | apply Fr.alloc | apply Fr.drew | refine Fr.setNew ?_ (by (try dsimp only); omega) _) (by omega)⟩
      have LL : Ls (x1.heap.size + 2) x4.heap.size x4 a' G := ⟨IN4.out, AVG.out.and (av_in IN4.out)⟩
      refine Ls.i (B := x1.heap.size + 2) (U := x4.heap.size) ?_
      repeat (refine Ls.set ?_ (Or.inl (by dsimp only; omega)) _)
      exact LL

end Go.Proofs.YtoilhcklflmamaaGreatDoor
