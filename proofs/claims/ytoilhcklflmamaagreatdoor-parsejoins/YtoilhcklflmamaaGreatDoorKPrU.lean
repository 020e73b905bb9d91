/-
  A program: contracts over the program; the conditions: the reader lies in memory as it should, and what is called keeps its own contract.
-/
import Derived.Test.YtoilhcklflmamaaGreatDoorKPrO
import Derived.Test.YtoilhcklflmamaaGreatDoorKPrG
namespace Go.Proofs.YtoilhcklflmamaaGreatDoor
open Go.RowKit
open Pr
set_option linter.unusedVariables false

set_option maxRecDepth 100000 in
set_option maxHeartbeats 4000000 in
theorem program_rd (R g cap : Nat) (L : List Tok) (n : Nat) (HI : ∀ m, m ≤ n → ∀ s, rd m .item s ≠ .out → Rule 33 #[] R g cap L s (rd m .item s)) (s : St) (hno : ((nodeM s).bnd fun _ s => rd n (.items .nil) s) ≠ .out) :
    Rule 21 #[] R g cap L s ((nodeM s).bnd fun _ s => rd n (.items .nil) s) := by
  intro w h
  have HD := hideIt h
  have hR := h.b.lt_size
  have hlen := h.p.len
  have FL := fld0
  clear h
  have C1 := hideIt (fun X (h : RD X R g cap L s) => node_rd R g cap L s X h (nk 1) none 0 0)
  cases h1 : nodeM s with
  | out => rw [h1] at hno; exact absurd rfl hno
  | bad k p =>
    clear hno HI
    go_enter Tryz.func21, Tryz.ntmps21
    go_wp2_with (first | (go_at_call 31; refine Calls.mono (badc h1 (C1.out _ (HD.out.alloc _))) ?_; rintro e x1 ⟨rfl, f1⟩; have F1 := hideIt (show Fr R w x1 from Fr.trans ((Fr.refl R w).alloc _) f1); clear f1) | fail)
    exact ⟨rfl, F1.out, rfl⟩
  | ok u1 s1 =>
    rw [h1] at hno
    simp only [bnd_ok] at hno ⊢
    have HXX := hideIt HI
    clear HI
    obtain ⟨r, hr⟩ : ∃ r, rd n (.items .nil) s1 = r := ⟨_, rfl⟩
    rw [hr] at hno ⊢
    have HR := hideIt hr
    have HN := hideIt hno
    clear hr hno
    go_enter Tryz.func21, Tryz.ntmps21
    go_wp2_with (first | (go_at_call 31; refine Calls.mono (okc h1 (C1.out _ (HD.out.alloc _))) ?_; rintro e x1 ⟨v1, rfl, rfl, f1, d1⟩; have D1 := hideIt d1; have F1 := hideIt (show Fr R w x1 from Fr.trans ((Fr.refl R w).alloc _) f1); have Z1 : w.heap.size + 1 ≤ x1.heap.size := (by have z := f1.size; (try simp at z); omega); have BR1 := hideIt (Bx.fr (b := w.heap.size) (v := (nk 0)) (s := (.slice none 0 0)) (Bx.newAt _ (nk 0) (.slice none 0 0) rfl) (by omega) f1); clear C1 f1 d1) | fail)
    go_loopg [] n (fun m wr => ∃ (P G : Fo) (u : Value) (st : St), Hid (rd m (.items P) st = r) ∧ m ≤ n ∧ P.len + st.t.length ≤ 70000 ∧ Hid (LI (x1.heap.size + 1) wr u P G) ∧ Hid (Bx wr x1.heap.size (nk 1) u) ∧ Hid (Bx wr w.heap.size (nk 0) (.slice none 0 0)) ∧ Hid (RD wr R g cap L st) ∧ Hid (Fr R w wr))
    case atStart => exact ⟨.nil, .nil, .slice none 0 0, s1, HR.out, Nat.le_refl _, by have := D1.out.p; obtain ⟨pre, e⟩ := this.suf; have := congrArg List.length e; simp at this; simp [Fo.len]; omega, LI.nil _ _, Bx.newAt _ (nk 1) (.slice none 0 0) rfl, BR1.out.alloc _, D1.out.alloc _, F1.out.alloc _⟩
    case round =>
      obtain ⟨P, G, u, st, EE, hm, hP, I0, BN, BR, D0, F0⟩ := hrel
      clear D1 F1 HR h1 BR1
      have hGL : G.len ≤ 70000 := by have := I0.out.cp.len; omega
      have C2 := hideIt (fun X (h : RD X R g cap L st) => here_any R g cap L st X h)
      have hwf := hideIt D0.out.p.wf
      cases gk with
      | zero => exact absurd EE.out.symm HN.out
      | succ m =>
        have E1 : rd (m + 1) (.items P) st = if (hd st).1.kind = 0 then .ok (nk 1, P) st else (rd m .item st).bnd fun x => rd m (.items (P.app (one x))) := rfl
        rw [E1] at EE
        clear E1
        by_cases hk : (hd st).1.kind = 0
        · rw [if_pos hk] at EE
          have ER : r = .ok (nk 1, P) st := EE.out.symm
          subst ER
          obtain ⟨a', c', f', e', cp', sk', l'⟩ := (I0.out.done (x := (nk 1, P))).out
          have KK := hideIt (And.intro cp' sk')
          have LL := hideIt l'
          rw [e'] at BN
          clear e' cp' sk' l' I0
          generalize hd st = q at *
          obtain ⟨⟨kd, tx, n, ty⟩, at_⟩ := q
          simp only at hk
          subst hk
          go_wp2_with (first | (go_at_call 32; refine Calls.mono (C2.out _ D0.out) ?_; rintro e x2 ⟨rfl, q2⟩; have f2 := Fr.of_q (R := R) q2; have D2 := hideIt (D0.out.q q2); have F2 := hideIt (F0.out.trans f2); have BN2 := hideIt (BN.out.fr (by omega) f2); have BR2 := hideIt (BR.out.fr (by omega) f2); have LL2 := hideIt (LL.out.q q2); have y2 := BN2.out.lt; have z2 := BR2.out.lt; obtain ⟨n0, n1, n2, n3, n4, n5, n6, n7, n8, n9⟩ := BN2.out.ten; have nf := BN2.out.free; obtain ⟨r0, r1, r2, r3, r4, r5, r6, r7, r8, r9⟩ := BR2.out.ten; have rf := BR2.out.free; clear C2 q2 f2) | fail)
          refine bodyPost_ret (v := nodeV (nk 1) (.slice a' f'.len c')) (by simp [results, Tryz.results21, go_sem, r0, r1, r2, r3, r4, r5, r6, r7, r8, r9]) rfl ⟨(by repeat with_reducible first | exact F2.out | apply Fr.alloc | apply Fr.drew | refine Fr.setNew ?_ (by (try dsimp only); omega) _), _, rfl, ?_, (by repeat with_reducible first | exact D2.out | apply RD.alloc | apply RD.drew | refine RD.setCell ?_ (by (try dsimp only); omega) _)⟩
          refine NV.mk (x := (nk 1, P)) (B' := x1.heap.size + 1) (U := wr.heap.size) KK.out.1 KK.out.2 ?_ (by omega) (nf_ok (by decide) (by decide) (by decide) (by decide) (by decide) (by decide) (by decide) (Nat.zero_le _) (Nat.zero_le _))
          exact (by repeat with_reducible first | exact LL2.out | apply Ls.alloc | apply Ls.drew | refine Ls.set ?_ (by (try dsimp only); omega) _)
        · rw [if_neg hk] at EE
          have HXI := hideIt (HXX.out m (by omega) st)
          have hk2 : ((((hd st).1.kind : Nat) : Int) != 0) = true := by simp; omega
          generalize hq : hd st = q at *
          obtain ⟨⟨kd, tx, n, ty⟩, at_⟩ := q
          simp only at hk hk2
          clear hq
          cases h3 : rd m .item st with
          | out => rw [h3] at EE; exact absurd EE.out.symm HN.out
          | bad k p =>
            rw [h3] at EE
            have ER : r = .bad k p := EE.out.symm
            subst ER
            have C3 := hideIt (fun X (h : RD X R g cap L st) => (HXI.out (by rw [h3]; exact fun e => by cases e)) X h)
            go_wp2_with (first | (go_at_call 32; refine Calls.mono (C2.out _ D0.out) ?_; rintro e x2 ⟨rfl, q2⟩; have f2 := Fr.of_q (R := R) q2; have D2 := hideIt (D0.out.q q2); have F2 := hideIt (F0.out.trans f2); have BN2 := hideIt (BN.out.fr (by omega) f2); have BR2 := hideIt (BR.out.fr (by omega) f2); have I2 := hideIt (I0.out.fr (R := R) (by omega) f2); have y2 := BN2.out.lt; have z2 := BR2.out.lt; obtain ⟨n0, n1, n2, n3, n4, n5, n6, n7, n8, n9⟩ := BN2.out.ten; have nf := BN2.out.free; clear C2 q2 f2) | fail)
            refine wp_region_held_drew (S := fun _ => True) (by kernel_rfl) (trivial) (fun hHeld => ?_)
            refine wpAnyH_take (i := 0) (oi := ⟨_, _, _, _, _, _⟩) (v := ?_) rfl (by kernel_rfl) (by kernel_rfl) (by kernel_rfl) (fun _ _ _ h => h) (Or.inl ⟨by rfl, ?_⟩) (by assumption) ?_
            rotate_left 1
            · intro w hSw; (try dsimp only at hSw); go_simp; all_goals with_reducible rfl
            try simp only [Act.put, List.setIfInBounds_toArray, List.set_cons_zero, List.set_cons_succ]
            refine wpAnyH_take (i := 2) (oi := ⟨_, _, _, _, _, _⟩) (v := ?_) rfl (by kernel_rfl) (by kernel_rfl) (by kernel_rfl) (fun _ _ _ h => h) (Or.inl ⟨by rfl, ?_⟩) (by assumption) ?_
            rotate_left 1
            · intro w hSw; (try dsimp only at hSw); go_simp; all_goals with_reducible rfl
            try simp only [Act.put, List.setIfInBounds_toArray, List.set_cons_zero, List.set_cons_succ]
            refine wpAnyH_ready (rs := [1, 3]) (by kernel_rfl) (by simp) (AllReadyH.cons (o := ⟨_, _, _, _, _, _⟩) rfl (fun K hK => ?_) (AllReadyH.cons (o := ⟨_, _, _, _, _, _⟩) rfl (fun K hK => ?_) AllReadyH.nil))
            · go_simp
              refine hK.out _ _ ?_ (fun hHeld => ?_)
              · trivial
              clear hK K
              try simp only [Act.put, List.setIfInBounds_toArray, List.set_cons_zero, List.set_cons_succ]
              refine wpAnyH_ready (rs := [3]) (by kernel_rfl) (by simp) (AllReadyH.cons (o := ⟨_, _, _, _, _, _⟩) rfl (fun K hK => ?_) AllReadyH.nil)
              go_simp
              (go_at_call 33; refine Calls.mono (badc h3 (C3.out _ D2.out.drew)) ?_; rintro e x3 ⟨rfl, f3⟩; have F3 := hideIt (show Fr R w x3 from Fr.trans F2.out.drew f3); clear f3)
              exact ⟨rfl, F3.out, rfl⟩
            · go_simp
              (go_at_call 33; refine Calls.mono (badc h3 (C3.out _ D2.out.drew)) ?_; rintro e x3 ⟨rfl, f3⟩; have F3 := hideIt (show Fr R w x3 from Fr.trans F2.out.drew f3); clear f3)
              exact ⟨rfl, F3.out, rfl⟩
          | ok y s3 =>
            rw [h3] at EE
            simp only [bnd_ok] at EE
            have hl := (rd_post (nt := .item) hwf.out trivial h3).len
            simp only [d1] at hl
            have hPP : (P.app (one y)).len + s3.t.length ≤ 70000 := by rw [app_len]; simp only [one, Fo.len]; omega
            have C3 := hideIt (fun X (h : RD X R g cap L st) => (HXI.out (by rw [h3]; exact fun e => by cases e)) X h)
            go_wp2_with (first | (go_at_call 32; refine Calls.mono (C2.out _ D0.out) ?_; rintro e x2 ⟨rfl, q2⟩; have f2 := Fr.of_q (R := R) q2; have D2 := hideIt (D0.out.q q2); have F2 := hideIt (F0.out.trans f2); have BN2 := hideIt (BN.out.fr (by omega) f2); have BR2 := hideIt (BR.out.fr (by omega) f2); have I2 := hideIt (I0.out.fr (R := R) (by omega) f2); have y2 := BN2.out.lt; have z2 := BR2.out.lt; obtain ⟨n0, n1, n2, n3, n4, n5, n6, n7, n8, n9⟩ := BN2.out.ten; have nf := BN2.out.free; clear C2 q2 f2) | fail)
            have ULT := hideIt (fun k hk => (I2.out.lt k hk).2)
            refine wp_region_held_drew (S := fun _ => True) (by kernel_rfl) (trivial) (fun hHeld => ?_)
            refine wpAnyH_take (i := 0) (oi := ⟨_, _, _, _, _, _⟩) (v := ?_) rfl (by kernel_rfl) (by kernel_rfl) (by kernel_rfl) (fun _ _ _ h => h) (Or.inl ⟨by rfl, ?_⟩) (by assumption) ?_
            rotate_left 1
            · intro w hSw; (try dsimp only at hSw); go_simp; all_goals with_reducible rfl
            try simp only [Act.put, List.setIfInBounds_toArray, List.set_cons_zero, List.set_cons_succ]
            refine wpAnyH_take (i := 2) (oi := ⟨_, _, _, _, _, _⟩) (v := ?_) rfl (by kernel_rfl) (by kernel_rfl) (by kernel_rfl) (fun _ _ _ h => h) (Or.inl ⟨by rfl, ?_⟩) (by assumption) ?_
            rotate_left 1
            · intro w hSw; (try dsimp only at hSw); go_simp; all_goals with_reducible rfl
            try simp only [Act.put, List.setIfInBounds_toArray, List.set_cons_zero, List.set_cons_succ]
            refine wpAnyH_ready (rs := [1, 3]) (by kernel_rfl) (by simp) (AllReadyH.cons (o := ⟨_, _, _, _, _, _⟩) rfl (fun K hK => ?_) (AllReadyH.cons (o := ⟨_, _, _, _, _, _⟩) rfl (fun K hK => ?_) AllReadyH.nil))
            · go_simp
              refine hK.out _ _ ?_ (fun hHeld => ?_)
              · trivial
              clear hK K
              try simp only [Act.put, List.setIfInBounds_toArray, List.set_cons_zero, List.set_cons_succ]
              refine wpAnyH_ready (rs := [3]) (by kernel_rfl) (by simp) (AllReadyH.cons (o := ⟨_, _, _, _, _, _⟩) rfl (fun K hK => ?_) AllReadyH.nil)
              go_simp
              (go_at_call 33; refine Calls.mono (okc h3 (C3.out _ D2.out.drew)) ?_; rintro e x3 ⟨v3, rfl, hv3, f3, d3⟩; obtain ⟨a3, c3, g3, rfl, cp3, sk3, l3, ok3⟩ := hv3.out; have D3 := hideIt d3; have F3 := hideIt (show Fr R w x3 from Fr.trans F2.out.drew f3); have Z3 : x2.heap.size ≤ x3.heap.size := (by have z := f3.size; (try simp at z); omega); have LY := hideIt (Ls.mono (B' := x2.heap.size) l3 (by (try simp) <;> (try omega)) (Nat.le_refl _)); have KY := hideIt (And.intro cp3 (And.intro sk3 ok3)); have I3 := hideIt (LI.fr (I2.out.fr (R := R) (by omega) (Fr.refl R x2).drew) (R := R) (by omega) f3); have BN3 := hideIt (Bx.fr BN2.out.drew (by omega) f3); have BR3 := hideIt (Bx.fr BR2.out.drew (by omega) f3); have yn3 := BN3.out.lt; have yr3 := BR3.out.lt; clear n0 n1 n2 n3 n4 n5 n6 n7 n8 n9 nf; obtain ⟨n0, n1, n2, n3, n4, n5, n6, n7, n8, n9⟩ := BN3.out.ten; have nf := BN3.out.free; clear C3 hv3 l3 cp3 sk3 ok3 d3 f3)
              refine hK.out _ _ ?_ (fun hHeld => ?_)
              · trivial
              clear hK K
              try simp only [Act.put, List.setIfInBounds_toArray, List.set_cons_zero, List.set_cons_succ]
              refine wpAnyH_ready (rs := [4]) (by kernel_rfl) (by simp) (AllReadyH.cons (o := ⟨_, _, _, _, _, _⟩) rfl (fun K hK => ?_) AllReadyH.nil)
              go_simp
              refine hK.out _ _ ?_ (fun hHeld => ?_)
              · trivial
              clear hK K
              try simp only [Act.put, List.setIfInBounds_toArray, List.set_cons_zero, List.set_cons_succ]
              refine wpAnyH_ready (rs := [5]) (by kernel_rfl) (by simp) (AllReadyH.cons (o := ⟨_, _, _, _, _, _⟩) rfl (fun K hK => ?_) AllReadyH.nil)
              refine app_step (B := x1.heap.size + 1) (X := x3) I3.out (by omega) (by omega) (y := y) LY.out (by omega) (fun k hk => ULT.out k hk) KY.out.2.2 KY.out.2.1 KY.out.1 (by omega) rfl (.tmp 12) (.tmp 15) rfl rfl rfl ?_; intro gg cc x9 li9 gr9; have I9 := hideIt li9; have RL := hideIt (fun k hk => (I3.out.lt k hk).1); have D9 := hideIt (RD.grown (D3.out.alloc _) gr9 (fun k hk => by have := RL.out k hk; omega)); have F9 := hideIt (Fr.grown (F3.out.alloc _) gr9 (fun k hk => by have := RL.out k hk; omega)); have BN9 := hideIt (Bx.grown (BN3.out.alloc _) gr9 (fun e => by have := RL.out _ e; omega)); have BR9 := hideIt (Bx.grown (BR3.out.alloc _) gr9 (fun e => by have := RL.out _ e; omega)); have yn9 := BN9.out.lt; have yr9 := BR9.out.lt; clear n0 n1 n2 n3 n4 n5 n6 n7 n8 n9 nf; obtain ⟨n0, n1, n2, n3, n4, n5, n6, n7, n8, n9⟩ := BN9.out.ten; have nf := BN9.out.free; clear li9 gr9
              refine hK.out _ _ ?_ (fun hHeld => ?_)
              · trivial
              clear hK K
              try simp only [Act.put, List.setIfInBounds_toArray, List.set_cons_zero, List.set_cons_succ]
              refine wpAnyH_take (i := 6) (oi := ⟨_, _, _, _, _, _⟩) (v := ?_) rfl (by kernel_rfl) (by kernel_rfl) (by kernel_rfl) (fun _ _ _ h => h) (Or.inl ⟨by rfl, ?_⟩) (by assumption) ?_
              rotate_left 1
              · intro w hSw; (try dsimp only at hSw); go_simp; all_goals with_reducible rfl
              try simp only [Act.put, List.setIfInBounds_toArray, List.set_cons_zero, List.set_cons_succ]
              refine wpAnyH_ready (rs := [7]) (by kernel_rfl) (by simp) (AllReadyH.cons (o := ⟨_, _, _, _, _, _⟩) rfl (fun K hK => ?_) AllReadyH.nil)
              go_simp
              refine hK.out _ _ ?_ (fun hHeld => ?_)
              · trivial
              clear hK K
              try simp only [Act.put, List.setIfInBounds_toArray, List.set_cons_zero, List.set_cons_succ]
              refine wpAnyH_done (by kernel_rfl) ?_ _
              go_wp2_with (fail)
              go_roundg m
              case measure => omega
              case rel =>
                refine ⟨P.app (one y), G.app (.cons y.1 a3 c3 g3 .nil), .slice (some ⟨gg, 0, none⟩) (G.len + 1) cc, s3, EE.out, by omega, hPP, ?_, ?_, ?_, ?_, ?_⟩
                · exact hideIt (I9.out.fr (R := x1.heap.size) (by omega) ((Fr.refl _ _).setR 9 _))
                · exact hideIt (Bx.put BN9.out 9 _ rfl)
                · refine hideIt ?_
                  exact (by repeat (first | with_reducible exact BR9.out | with_reducible refine Bx.alloc ?_ _ | (with_reducible refine Bx.set ?_ ?hh _; case hh => ((try dsimp only); omega)) | with_reducible refine Bx.drew ?_))
                · refine hideIt ?_
                  exact (by repeat with_reducible first | exact D9.out | apply RD.alloc | apply RD.drew | refine RD.setCell ?_ (by (try dsimp only); omega) _)
                · refine hideIt ?_
                  exact (by repeat with_reducible first | exact F9.out | apply Fr.alloc | apply Fr.drew | refine Fr.setNew ?_ (by (try dsimp only); omega) _)
            · go_simp
              (go_at_call 33; refine Calls.mono (okc h3 (C3.out _ D2.out.drew)) ?_; rintro e x3 ⟨v3, rfl, hv3, f3, d3⟩; obtain ⟨a3, c3, g3, rfl, cp3, sk3, l3, ok3⟩ := hv3.out; have D3 := hideIt d3; have F3 := hideIt (show Fr R w x3 from Fr.trans F2.out.drew f3); have Z3 : x2.heap.size ≤ x3.heap.size := (by have z := f3.size; (try simp at z); omega); have LY := hideIt (Ls.mono (B' := x2.heap.size) l3 (by (try simp) <;> (try omega)) (Nat.le_refl _)); have KY := hideIt (And.intro cp3 (And.intro sk3 ok3)); have I3 := hideIt (LI.fr (I2.out.fr (R := R) (by omega) (Fr.refl R x2).drew) (R := R) (by omega) f3); have BN3 := hideIt (Bx.fr BN2.out.drew (by omega) f3); have BR3 := hideIt (Bx.fr BR2.out.drew (by omega) f3); have yn3 := BN3.out.lt; have yr3 := BR3.out.lt; clear n0 n1 n2 n3 n4 n5 n6 n7 n8 n9 nf; obtain ⟨n0, n1, n2, n3, n4, n5, n6, n7, n8, n9⟩ := BN3.out.ten; have nf := BN3.out.free; clear C3 hv3 l3 cp3 sk3 ok3 d3 f3)
              refine hK.out _ _ ?_ (fun hHeld => ?_)
              · trivial
              clear hK K
              try simp only [Act.put, List.setIfInBounds_toArray, List.set_cons_zero, List.set_cons_succ]
              refine wpAnyH_ready (rs := [1, 4]) (by kernel_rfl) (by simp) (AllReadyH.cons (o := ⟨_, _, _, _, _, _⟩) rfl (fun K hK => ?_) (AllReadyH.cons (o := ⟨_, _, _, _, _, _⟩) rfl (fun K hK => ?_) AllReadyH.nil))
              · go_simp
                refine hK.out _ _ ?_ (fun hHeld => ?_)
                · trivial
                clear hK K
                try simp only [Act.put, List.setIfInBounds_toArray, List.set_cons_zero, List.set_cons_succ]
                refine wpAnyH_ready (rs := [4]) (by kernel_rfl) (by simp) (AllReadyH.cons (o := ⟨_, _, _, _, _, _⟩) rfl (fun K hK => ?_) AllReadyH.nil)
                go_simp
                refine hK.out _ _ ?_ (fun hHeld => ?_)
                · trivial
                clear hK K
                try simp only [Act.put, List.setIfInBounds_toArray, List.set_cons_zero, List.set_cons_succ]
                refine wpAnyH_ready (rs := [5]) (by kernel_rfl) (by simp) (AllReadyH.cons (o := ⟨_, _, _, _, _, _⟩) rfl (fun K hK => ?_) AllReadyH.nil)
                refine app_step (B := x1.heap.size + 1) (X := x3) I3.out (by omega) (by omega) (y := y) LY.out (by omega) (fun k hk => ULT.out k hk) KY.out.2.2 KY.out.2.1 KY.out.1 (by omega) rfl (.tmp 12) (.tmp 15) rfl rfl rfl ?_; intro gg cc x9 li9 gr9; have I9 := hideIt li9; have RL := hideIt (fun k hk => (I3.out.lt k hk).1); have D9 := hideIt (RD.grown (D3.out.alloc _) gr9 (fun k hk => by have := RL.out k hk; omega)); have F9 := hideIt (Fr.grown (F3.out.alloc _) gr9 (fun k hk => by have := RL.out k hk; omega)); have BN9 := hideIt (Bx.grown (BN3.out.alloc _) gr9 (fun e => by have := RL.out _ e; omega)); have BR9 := hideIt (Bx.grown (BR3.out.alloc _) gr9 (fun e => by have := RL.out _ e; omega)); have yn9 := BN9.out.lt; have yr9 := BR9.out.lt; clear n0 n1 n2 n3 n4 n5 n6 n7 n8 n9 nf; obtain ⟨n0, n1, n2, n3, n4, n5, n6, n7, n8, n9⟩ := BN9.out.ten; have nf := BN9.out.free; clear li9 gr9
                refine hK.out _ _ ?_ (fun hHeld => ?_)
                · trivial
                clear hK K
                try simp only [Act.put, List.setIfInBounds_toArray, List.set_cons_zero, List.set_cons_succ]
                refine wpAnyH_take (i := 6) (oi := ⟨_, _, _, _, _, _⟩) (v := ?_) rfl (by kernel_rfl) (by kernel_rfl) (by kernel_rfl) (fun _ _ _ h => h) (Or.inl ⟨by rfl, ?_⟩) (by assumption) ?_
                rotate_left 1
                · intro w hSw; (try dsimp only at hSw); go_simp; all_goals with_reducible rfl
                try simp only [Act.put, List.setIfInBounds_toArray, List.set_cons_zero, List.set_cons_succ]
                refine wpAnyH_ready (rs := [7]) (by kernel_rfl) (by simp) (AllReadyH.cons (o := ⟨_, _, _, _, _, _⟩) rfl (fun K hK => ?_) AllReadyH.nil)
                go_simp
                refine hK.out _ _ ?_ (fun hHeld => ?_)
                · trivial
                clear hK K
                try simp only [Act.put, List.setIfInBounds_toArray, List.set_cons_zero, List.set_cons_succ]
                refine wpAnyH_done (by kernel_rfl) ?_ _
                go_wp2_with (fail)
                go_roundg m
                case measure => omega
                case rel =>
                  refine ⟨P.app (one y), G.app (.cons y.1 a3 c3 g3 .nil), .slice (some ⟨gg, 0, none⟩) (G.len + 1) cc, s3, EE.out, by omega, hPP, ?_, ?_, ?_, ?_, ?_⟩
                  · exact hideIt (I9.out.fr (R := x1.heap.size) (by omega) ((Fr.refl _ _).setR 9 _))
                  · exact hideIt (Bx.put BN9.out 9 _ rfl)
                  · refine hideIt ?_
                    exact (by repeat (first | with_reducible exact BR9.out | with_reducible refine Bx.alloc ?_ _ | (with_reducible refine Bx.set ?_ ?hh _; case hh => ((try dsimp only); omega)) | with_reducible refine Bx.drew ?_))
                  · refine hideIt ?_
                    exact (by repeat with_reducible first | exact D9.out | apply RD.alloc | apply RD.drew | refine RD.setCell ?_ (by (try dsimp only); omega) _)
                  · refine hideIt ?_
                    exact (by repeat with_reducible first | exact F9.out | apply Fr.alloc | apply Fr.drew | refine Fr.setNew ?_ (by (try dsimp only); omega) _)
              · go_simp
                refine hK.out _ _ ?_ (fun hHeld => ?_)
                · trivial
                clear hK K
                try simp only [Act.put, List.setIfInBounds_toArray, List.set_cons_zero, List.set_cons_succ]
                refine wpAnyH_ready (rs := [1]) (by kernel_rfl) (by simp) (AllReadyH.cons (o := ⟨_, _, _, _, _, _⟩) rfl (fun K hK => ?_) AllReadyH.nil)
                go_simp
                refine hK.out _ _ ?_ (fun hHeld => ?_)
                · trivial
                clear hK K
                try simp only [Act.put, List.setIfInBounds_toArray, List.set_cons_zero, List.set_cons_succ]
                refine wpAnyH_ready (rs := [5]) (by kernel_rfl) (by simp) (AllReadyH.cons (o := ⟨_, _, _, _, _, _⟩) rfl (fun K hK => ?_) AllReadyH.nil)
                refine app_step (B := x1.heap.size + 1) (X := x3) I3.out (by omega) (by omega) (y := y) LY.out (by omega) (fun k hk => ULT.out k hk) KY.out.2.2 KY.out.2.1 KY.out.1 (by omega) rfl (.tmp 12) (.tmp 15) rfl rfl rfl ?_; intro gg cc x9 li9 gr9; have I9 := hideIt li9; have RL := hideIt (fun k hk => (I3.out.lt k hk).1); have D9 := hideIt (RD.grown (D3.out.alloc _) gr9 (fun k hk => by have := RL.out k hk; omega)); have F9 := hideIt (Fr.grown (F3.out.alloc _) gr9 (fun k hk => by have := RL.out k hk; omega)); have BN9 := hideIt (Bx.grown (BN3.out.alloc _) gr9 (fun e => by have := RL.out _ e; omega)); have BR9 := hideIt (Bx.grown (BR3.out.alloc _) gr9 (fun e => by have := RL.out _ e; omega)); have yn9 := BN9.out.lt; have yr9 := BR9.out.lt; clear n0 n1 n2 n3 n4 n5 n6 n7 n8 n9 nf; obtain ⟨n0, n1, n2, n3, n4, n5, n6, n7, n8, n9⟩ := BN9.out.ten; have nf := BN9.out.free; clear li9 gr9
                refine hK.out _ _ ?_ (fun hHeld => ?_)
                · trivial
                clear hK K
                try simp only [Act.put, List.setIfInBounds_toArray, List.set_cons_zero, List.set_cons_succ]
                refine wpAnyH_take (i := 6) (oi := ⟨_, _, _, _, _, _⟩) (v := ?_) rfl (by kernel_rfl) (by kernel_rfl) (by kernel_rfl) (fun _ _ _ h => h) (Or.inl ⟨by rfl, ?_⟩) (by assumption) ?_
                rotate_left 1
                · intro w hSw; (try dsimp only at hSw); go_simp; all_goals with_reducible rfl
                try simp only [Act.put, List.setIfInBounds_toArray, List.set_cons_zero, List.set_cons_succ]
                refine wpAnyH_ready (rs := [7]) (by kernel_rfl) (by simp) (AllReadyH.cons (o := ⟨_, _, _, _, _, _⟩) rfl (fun K hK => ?_) AllReadyH.nil)
                go_simp
                refine hK.out _ _ ?_ (fun hHeld => ?_)
                · trivial
                clear hK K
                try simp only [Act.put, List.setIfInBounds_toArray, List.set_cons_zero, List.set_cons_succ]
                refine wpAnyH_done (by kernel_rfl) ?_ _
                go_wp2_with (fail)
                go_roundg m
                case measure => omega
                case rel =>
                  refine ⟨P.app (one y), G.app (.cons y.1 a3 c3 g3 .nil), .slice (some ⟨gg, 0, none⟩) (G.len + 1) cc, s3, EE.out, by omega, hPP, ?_, ?_, ?_, ?_, ?_⟩
                  · exact hideIt (I9.out.fr (R := x1.heap.size) (by omega) ((Fr.refl _ _).setR 9 _))
                  · exact hideIt (Bx.put BN9.out 9 _ rfl)
                  · refine hideIt ?_
                    exact (by repeat (first | with_reducible exact BR9.out | with_reducible refine Bx.alloc ?_ _ | (with_reducible refine Bx.set ?_ ?hh _; case hh => ((try dsimp only); omega)) | with_reducible refine Bx.drew ?_))
                  · refine hideIt ?_
                    exact (by repeat with_reducible first | exact D9.out | apply RD.alloc | apply RD.drew | refine RD.setCell ?_ (by (try dsimp only); omega) _)
                  · refine hideIt ?_
                    exact (by repeat with_reducible first | exact F9.out | apply Fr.alloc | apply Fr.drew | refine Fr.setNew ?_ (by (try dsimp only); omega) _)

end Go.Proofs.YtoilhcklflmamaaGreatDoor
