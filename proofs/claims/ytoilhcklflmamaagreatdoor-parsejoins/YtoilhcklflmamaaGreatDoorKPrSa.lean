/-
  An assignment: contracts over the program; the conditions: the reader lies in memory as it should, and what is called keeps its own contract.
-/
import Derived.Test.YtoilhcklflmamaaGreatDoorKPrO
import Derived.Test.YtoilhcklflmamaaGreatDoorKPrG
namespace Go.Proofs.YtoilhcklflmamaaGreatDoor
open Go.RowKit
open Pr
set_option linter.unusedVariables false

set_option maxRecDepth 100000 in
set_option maxHeartbeats 4000000 in
theorem assignment_rd (R g cap : Nat) (L : List Tok) (n : Nat) (HV : ∀ s, rd n .lvalue s ≠ .out → Rule 122 #[] R g cap L s (rd n .lvalue s)) (HE : ∀ s, rd n .expression s ≠ .out → Rule 114 #[] R g cap L s (rd n .expression s)) (HCL : ∀ (v : NF) (k : Fo), v.ok → ∀ s, rd n (.call v k) s ≠ .out → ∀ X (B : Nat) (a : Option Addr) (c : Nat) (f : Fo), R < B → B ≤ X.heap.size → LI B X (.slice a f.len c) k f → f.len ≤ 1 → c = f.len → RD X R g cap L s → Calls Tryz.prog 121 #[rp R, nodeV v (.slice a f.len c)] X (PostG (NV B) R g cap L X (rd n (.call v k) s))) (s : St) (hno : rd (n + 1) .assignment s ≠ .out) :
    Rule 118 #[] R g cap L s (rd (n + 1) .assignment s) := by
  intro w h
  have e : rd (n + 1) .assignment s = if (hd s).1.kind = 1 ∧ tx ⟨s.t.tail, s.o, s.c⟩ = [40] then rd n (.call (nk 13) .nil) s else (rd n .lvalue s).bnd fun x s => (needM [61] s).bnd fun _ s => if (hd s).1.kind = 1 ∧ tx ⟨s.t.tail, s.o, s.c⟩ = [40] then rd n (.call { nk 13 with n := 1 } (one x)) s else (nodeM s).bnd fun _ s => (rd n .expression s).bnd fun y s => (needM [59] s).bnd fun _ s => .ok (nk 9, (one x).app (one y)) s := rfl
  rw [e] at hno ⊢
  clear e
  have HD := hideIt h
  have hR := h.b.lt_size
  clear h
  obtain ⟨r, hr⟩ : ∃ r, (if (hd s).1.kind = 1 ∧ tx ⟨s.t.tail, s.o, s.c⟩ = [40] then rd n (.call (nk 13) .nil) s else (rd n .lvalue s).bnd fun x s => (needM [61] s).bnd fun _ s => if (hd s).1.kind = 1 ∧ tx ⟨s.t.tail, s.o, s.c⟩ = [40] then rd n (.call { nk 13 with n := 1 } (one x)) s else (nodeM s).bnd fun _ s => (rd n .expression s).bnd fun y s => (needM [59] s).bnd fun _ s => .ok (nk 9, (one x).app (one y)) s : Rs Nd) = r := ⟨_, rfl⟩
  rw [hr] at hno ⊢
  have HR := hideIt hr
  have HN := hideIt hno
  clear hr hno
  go_enter Tryz.func118, Tryz.ntmps118
  go_wp2_with (fail)
  by_cases h1 : (hd s).1.kind = 1 ∧ tx ⟨s.t.tail, s.o, s.c⟩ = [40]
  · rw [if_pos h1] at HR
    have C1 := hideIt (fun X (h : RD X R g cap L s) => calls_any R g cap L s X h)
    (go_at_call 120; refine Calls.mono (C1.out _ (by repeat with_reducible first | exact HD.out | apply RD.alloc | apply RD.drew | refine RD.setCell ?_ (by (try dsimp only); omega) _)) ?_; rw [decide_eq_true h1]; rintro e x1 ⟨rfl, q1⟩; have f1 := Fr.of_q (R := R) q1; have D1 := hideIt (show RD x1 R g cap L s from RD.q (by repeat with_reducible first | exact HD.out | apply RD.alloc | apply RD.drew | refine RD.setCell ?_ (by (try dsimp only); omega) _) q1); have F1 := hideIt (show Fr R w x1 from Fr.trans (by repeat with_reducible first | exact (Fr.refl R w) | apply Fr.alloc | apply Fr.drew | refine Fr.setNew ?_ (by (try dsimp only); omega) _) f1); have Z1 : w.heap.size + 1 ≤ x1.heap.size := (by have z := f1.size; (try simp at z); omega); have Br_1 := hideIt (Bx.fr (b := w.heap.size) (v := (nk 0)) (s := (.slice none 0 0)) (by repeat first | refine Bx.newAt _ (nk 0) (.slice none 0 0) (by simp; done) | with_reducible apply Bx.alloc | with_reducible refine Bx.set ?_ (by (try dsimp only); omega) _ | with_reducible apply Bx.drew) (by omega) f1); have yr1 := Br_1.out.lt; clear C1; clear f1 q1)
    go_wp2_with (fail)
    cases h2 : rd n (.call ⟨13, 0, 0, 0, 0, 0, 0, ⟨#[]⟩, ⟨#[]⟩⟩ .nil) s with
    | out => rw [h2] at HR; exact absurd HR.out.symm HN.out
    | bad k p =>
     rw [h2] at HR
     have C2 := hideIt (fun X (h : RD X R g cap L s) => (HCL ⟨13, 0, 0, 0, 0, 0, 0, ⟨#[]⟩, ⟨#[]⟩⟩ .nil (by refine nf_ok ?_ ?_ ?_ ?_ ?_ ?_ ?_ ?_ ?_ <;> first | omega | decide | (rw [bs_size]; omega) | exact Nat.zero_le _) s (by rw [h2]; exact fun e => by cases e)) X X.heap.size none 0 .nil (by have := h.b.lt_size; exact this) (Nat.le_refl _) (LI.nil _ _) (by decide) rfl h)
     (go_at_call 121; refine Calls.mono (badc h2 (C2.out _ (by repeat with_reducible first | exact D1.out | apply RD.alloc | apply RD.drew | refine RD.setCell ?_ (by (try dsimp only); omega) _))) ?_; rintro e x2 ⟨rfl, f2⟩; have F2 := hideIt (show Fr R w x2 from Fr.trans (by repeat with_reducible first | exact F1.out | apply Fr.alloc | apply Fr.drew | refine Fr.setNew ?_ (by (try dsimp only); omega) _) f2); clear f2)
     have ER : Rs.bad k p = r := HR.out
     subst ER
     exact ⟨rfl, F2.out, rfl⟩
    | ok z s2 =>
     rw [h2] at HR
     try simp only [bnd_ok] at HR
     have C2 := hideIt (fun X (h : RD X R g cap L s) => (HCL ⟨13, 0, 0, 0, 0, 0, 0, ⟨#[]⟩, ⟨#[]⟩⟩ .nil (by refine nf_ok ?_ ?_ ?_ ?_ ?_ ?_ ?_ ?_ ?_ <;> first | omega | decide | (rw [bs_size]; omega) | exact Nat.zero_le _) s (by rw [h2]; exact fun e => by cases e)) X X.heap.size none 0 .nil (by have := h.b.lt_size; exact this) (Nat.le_refl _) (LI.nil _ _) (by decide) rfl h)
     (go_at_call 121; refine Calls.mono (okc h2 (C2.out _ (by repeat with_reducible first | exact D1.out | apply RD.alloc | apply RD.drew | refine RD.setCell ?_ (by (try dsimp only); omega) _))) ?_; rintro e x2 ⟨v2, rfl, hv2, f2, d2⟩; have D2 := hideIt d2; have F2 := hideIt (show Fr R w x2 from Fr.trans (by repeat with_reducible first | exact F1.out | apply Fr.alloc | apply Fr.drew | refine Fr.setNew ?_ (by (try dsimp only); omega) _) f2); have Z2 : x1.heap.size ≤ x2.heap.size := (by have z := f2.size; (try simp at z); omega); obtain ⟨a2, c2, g2, rfl, cp2, sk2, l2, ok2⟩ := hv2.out; have Lz_2 := hideIt (Ls.mono (B' := x1.heap.size) l2 (by (try simp); try omega) (Nat.le_refl _)); have Kz := hideIt (And.intro cp2 (And.intro sk2 ok2)); clear hv2 l2 cp2 sk2 ok2; have Br_2 := hideIt (Bx.fr (b := w.heap.size) (v := (nk 0)) (s := (.slice none 0 0)) (by repeat first | with_reducible exact Br_1.out | with_reducible apply Bx.alloc | with_reducible refine Bx.set ?_ (by (try dsimp only); omega) _ | with_reducible apply Bx.drew) (by omega) f2); have yr2 := Br_2.out.lt; obtain ⟨r0, r1, r2, r3, r4, r5, r6, r7, r8, r9⟩ := Br_2.out.ten; have rf := Br_2.out.free; clear Br_1; clear C2; clear f2 d2)
     go_wp2_with (fail)
     have ER := HR.out
     subst ER
     refine bodyPost_ret (v := nodeV z.1 (.slice a2 g2.len c2)) (by simp [results, Tryz.results118, go_sem, *]) rfl ⟨(by repeat with_reducible first | exact F2.out | apply Fr.alloc | apply Fr.drew | refine Fr.setNew ?_ (by (try dsimp only); omega) _), _, rfl, ?_, (by repeat with_reducible first | exact D2.out | apply RD.alloc | apply RD.drew | refine RD.setCell ?_ (by (try dsimp only); omega) _)⟩
     exact NV.mk (x := z) (B' := x1.heap.size) (U := x2.heap.size) Kz.out.1 Kz.out.2.1 (by repeat with_reducible first | exact Lz_2.out | apply Ls.alloc | apply Ls.drew | refine Ls.set ?_ (by (try dsimp only); omega) _) (by omega) Kz.out.2.2
  · rw [if_neg h1] at HR
    have C1 := hideIt (fun X (h : RD X R g cap L s) => calls_any R g cap L s X h)
    (go_at_call 120; refine Calls.mono (C1.out _ (by repeat with_reducible first | exact HD.out | apply RD.alloc | apply RD.drew | refine RD.setCell ?_ (by (try dsimp only); omega) _)) ?_; rw [decide_eq_false h1]; rintro e x1 ⟨rfl, q1⟩; have f1 := Fr.of_q (R := R) q1; have D1 := hideIt (show RD x1 R g cap L s from RD.q (by repeat with_reducible first | exact HD.out | apply RD.alloc | apply RD.drew | refine RD.setCell ?_ (by (try dsimp only); omega) _) q1); have F1 := hideIt (show Fr R w x1 from Fr.trans (by repeat with_reducible first | exact (Fr.refl R w) | apply Fr.alloc | apply Fr.drew | refine Fr.setNew ?_ (by (try dsimp only); omega) _) f1); have Z1 : w.heap.size + 1 ≤ x1.heap.size := (by have z := f1.size; (try simp at z); omega); have Br_1 := hideIt (Bx.fr (b := w.heap.size) (v := (nk 0)) (s := (.slice none 0 0)) (by repeat first | refine Bx.newAt _ (nk 0) (.slice none 0 0) (by simp; done) | with_reducible apply Bx.alloc | with_reducible refine Bx.set ?_ (by (try dsimp only); omega) _ | with_reducible apply Bx.drew) (by omega) f1); have yr1 := Br_1.out.lt; clear C1; clear f1 q1)
    go_wp2_with (fail)
    cases h2 : rd n .lvalue s with
    | out => rw [h2] at HR; exact absurd HR.out.symm HN.out
    | bad k p =>
     rw [h2] at HR
     have C2 := hideIt (fun X (h : RD X R g cap L s) => (HV s (by rw [h2]; exact fun e => by cases e)) X h)
     (go_at_call 122; refine Calls.mono (badc h2 (C2.out _ (by repeat with_reducible first | exact D1.out | apply RD.alloc | apply RD.drew | refine RD.setCell ?_ (by (try dsimp only); omega) _))) ?_; rintro e x2 ⟨rfl, f2⟩; have F2 := hideIt (show Fr R w x2 from Fr.trans (by repeat with_reducible first | exact F1.out | apply Fr.alloc | apply Fr.drew | refine Fr.setNew ?_ (by (try dsimp only); omega) _) f2); clear f2)
     have ER : Rs.bad k p = r := HR.out
     subst ER
     exact ⟨rfl, F2.out, rfl⟩
    | ok x s2 =>
     rw [h2] at HR
     try simp only [bnd_ok] at HR
     have C2 := hideIt (fun X (h : RD X R g cap L s) => (HV s (by rw [h2]; exact fun e => by cases e)) X h)
     (go_at_call 122; refine Calls.mono (okc h2 (C2.out _ (by repeat with_reducible first | exact D1.out | apply RD.alloc | apply RD.drew | refine RD.setCell ?_ (by (try dsimp only); omega) _))) ?_; rintro e x2 ⟨v2, rfl, hv2, f2, d2⟩; have D2 := hideIt d2; have F2 := hideIt (show Fr R w x2 from Fr.trans (by repeat with_reducible first | exact F1.out | apply Fr.alloc | apply Fr.drew | refine Fr.setNew ?_ (by (try dsimp only); omega) _) f2); have Z2 : x1.heap.size ≤ x2.heap.size := (by have z := f2.size; (try simp at z); omega); obtain ⟨a2, c2, g2, rfl, cp2, sk2, l2, ok2⟩ := hv2.out; have Lx_2 := hideIt (Ls.mono (B' := x1.heap.size) l2 (by (try simp); try omega) (Nat.le_refl _)); have Kx := hideIt (And.intro cp2 (And.intro sk2 ok2)); clear hv2 l2 cp2 sk2 ok2; have Br_2 := hideIt (Bx.fr (b := w.heap.size) (v := (nk 0)) (s := (.slice none 0 0)) (by repeat first | with_reducible exact Br_1.out | with_reducible apply Bx.alloc | with_reducible refine Bx.set ?_ (by (try dsimp only); omega) _ | with_reducible apply Bx.drew) (by omega) f2); have yr2 := Br_2.out.lt; clear Br_1; clear C2; clear f2 d2)
     go_wp2_with (fail)
     cases h3 : needM [61] s2 with
     | out => rw [h3] at HR; exact absurd HR.out.symm HN.out
     | bad k p =>
      rw [h3] at HR
      have C3 := hideIt (fun X (h : RD X R g cap L s2) => need_any [61] (by decide) R g cap L s2 X h)
      (go_at_call_of 91 (Value.string ⟨#[61]⟩); refine Calls.mono (badc h3 (C3.out _ (by repeat with_reducible first | exact D2.out | apply RD.alloc | apply RD.drew | refine RD.setCell ?_ (by (try dsimp only); omega) _))) ?_; rintro e x3 ⟨rfl, f3⟩; have F3 := hideIt (show Fr R w x3 from Fr.trans (by repeat with_reducible first | exact F2.out | apply Fr.alloc | apply Fr.drew | refine Fr.setNew ?_ (by (try dsimp only); omega) _) f3); clear f3)
      have ER : Rs.bad k p = r := HR.out
      subst ER
      exact ⟨rfl, F3.out, rfl⟩
     | ok u3 s3 =>
      rw [h3] at HR
      try simp only [bnd_ok] at HR
      have C3 := hideIt (fun X (h : RD X R g cap L s2) => need_any [61] (by decide) R g cap L s2 X h)
      (go_at_call_of 91 (Value.string ⟨#[61]⟩); refine Calls.mono (okc h3 (C3.out _ (by repeat with_reducible first | exact D2.out | apply RD.alloc | apply RD.drew | refine RD.setCell ?_ (by (try dsimp only); omega) _))) ?_; rintro e x3 ⟨v3, rfl, rfl, f3, d3⟩; have D3 := hideIt d3; have F3 := hideIt (show Fr R w x3 from Fr.trans (by repeat with_reducible first | exact F2.out | apply Fr.alloc | apply Fr.drew | refine Fr.setNew ?_ (by (try dsimp only); omega) _) f3); have Z3 : x2.heap.size + 1 ≤ x3.heap.size := (by have z := f3.size; (try simp at z); omega); have Lx_3 := hideIt (Ls.fr (B := x1.heap.size) (U := x2.heap.size) (a := a2) (f := g2) (by repeat with_reducible first | exact Lx_2.out | apply Ls.alloc | apply Ls.drew | refine Ls.set ?_ (by (try dsimp only); omega) _) (by omega) f3); have Br_3 := hideIt (Bx.fr (b := w.heap.size) (v := (nk 0)) (s := (.slice none 0 0)) (by repeat first | with_reducible exact Br_2.out | with_reducible apply Bx.alloc | with_reducible refine Bx.set ?_ (by (try dsimp only); omega) _ | with_reducible apply Bx.drew) (by omega) f3); have yr3 := Br_3.out.lt; have Bl_3 := hideIt (Bx.fr (b := x2.heap.size) (v := x.1) (s := (.slice a2 g2.len c2)) (by repeat first | refine Bx.newAt _ x.1 (.slice a2 g2.len c2) (by simp; done) | with_reducible apply Bx.alloc | with_reducible refine Bx.set ?_ (by (try dsimp only); omega) _ | with_reducible apply Bx.drew) (by omega) f3); have yl3 := Bl_3.out.lt; obtain ⟨l0, l1, l2, l3, l4, l5, l6, l7, l8, l9⟩ := Bl_3.out.ten; have lf := Bl_3.out.free; clear Lx_2 Br_2; clear C3; clear f3 d3)
      go_wp2_with (fail)
      by_cases h4 : (hd s3).1.kind = 1 ∧ tx ⟨s3.t.tail, s3.o, s3.c⟩ = [40]
      · rw [if_pos h4] at HR
        have C4 := hideIt (fun X (h : RD X R g cap L s3) => calls_any R g cap L s3 X h)
        (go_at_call 120; refine Calls.mono (C4.out _ (by repeat with_reducible first | exact D3.out | apply RD.alloc | apply RD.drew | refine RD.setCell ?_ (by (try dsimp only); omega) _)) ?_; rw [decide_eq_true h4]; rintro e x4 ⟨rfl, q4⟩; have f4 := Fr.of_q (R := R) q4; have D4 := hideIt (show RD x4 R g cap L s3 from RD.q (by repeat with_reducible first | exact D3.out | apply RD.alloc | apply RD.drew | refine RD.setCell ?_ (by (try dsimp only); omega) _) q4); have F4 := hideIt (show Fr R w x4 from Fr.trans (by repeat with_reducible first | exact F3.out | apply Fr.alloc | apply Fr.drew | refine Fr.setNew ?_ (by (try dsimp only); omega) _) f4); have Z4 : x3.heap.size ≤ x4.heap.size := (by have z := f4.size; (try simp at z); omega); have Lx_4 := hideIt (Ls.fr (B := x1.heap.size) (U := x2.heap.size) (a := a2) (f := g2) (by repeat with_reducible first | exact Lx_3.out | apply Ls.alloc | apply Ls.drew | refine Ls.set ?_ (by (try dsimp only); omega) _) (by omega) f4); have Br_4 := hideIt (Bx.fr (b := w.heap.size) (v := (nk 0)) (s := (.slice none 0 0)) (by repeat first | with_reducible exact Br_3.out | with_reducible apply Bx.alloc | with_reducible refine Bx.set ?_ (by (try dsimp only); omega) _ | with_reducible apply Bx.drew) (by omega) f4); have yr4 := Br_4.out.lt; have Bl_4 := hideIt (Bx.fr (b := x2.heap.size) (v := x.1) (s := (.slice a2 g2.len c2)) (by repeat first | with_reducible exact Bl_3.out | with_reducible apply Bx.alloc | with_reducible refine Bx.set ?_ (by (try dsimp only); omega) _ | with_reducible apply Bx.drew) (by omega) f4); have yl4 := Bl_4.out.lt; clear l0 l1 l2 l3 l4 l5 l6 l7 l8 l9 lf yl3; obtain ⟨l0, l1, l2, l3, l4, l5, l6, l7, l8, l9⟩ := Bl_4.out.ten; have lf := Bl_4.out.free; clear Lx_3 Br_3 Bl_3; clear C4; clear f4 q4)
        go_wp2_with (fail)
        cases h5 : rd n (.call ⟨13, 0, 0, 0, 0, 1, 0, ⟨#[]⟩, ⟨#[]⟩⟩ (one x)) s3 with
        | out => rw [h5] at HR; exact absurd HR.out.symm HN.out
        | bad k p =>
         rw [h5] at HR
         have C5 := hideIt (fun X (h : RD X R g cap L s3) => fun B a c f j1 j2 j3 j4 j5 => (HCL ⟨13, 0, 0, 0, 0, 1, 0, ⟨#[]⟩, ⟨#[]⟩⟩ (one x) (by refine nf_ok ?_ ?_ ?_ ?_ ?_ ?_ ?_ ?_ ?_ <;> first | omega | decide | (rw [bs_size]; omega) | exact Nat.zero_le _) s3 (by rw [h5]; exact fun e => by cases e)) X B a c f j1 j2 j3 j4 j5 h)
         (go_at_call 121; refine Calls.mono (badc h5 (C5.out _ (by repeat with_reducible first | exact D4.out | apply RD.alloc | apply RD.drew | refine RD.setCell ?_ (by (try dsimp only); omega) _) x1.heap.size (some ⟨x4.heap.size, 0, none⟩) 1 (.cons x.1 a2 c2 g2 .nil) (by omega) (by (try simp) <;> omega) (LI.one (y := x) (B' := x1.heap.size) (U := x2.heap.size) Lx_4.out (Nat.le_refl _) (by omega) Kx.out.2.2 Kx.out.2.1 Kx.out.1 (by omega)) (by simp [Fo.len]) rfl)) ?_; rintro e x5 ⟨rfl, f5⟩; have F5 := hideIt (show Fr R w x5 from Fr.trans (by repeat with_reducible first | exact F4.out | apply Fr.alloc | apply Fr.drew | refine Fr.setNew ?_ (by (try dsimp only); omega) _) f5); clear f5)
         have ER : Rs.bad k p = r := HR.out
         subst ER
         exact ⟨rfl, F5.out, rfl⟩
        | ok z s5 =>
         rw [h5] at HR
         try simp only [bnd_ok] at HR
         have C5 := hideIt (fun X (h : RD X R g cap L s3) => fun B a c f j1 j2 j3 j4 j5 => (HCL ⟨13, 0, 0, 0, 0, 1, 0, ⟨#[]⟩, ⟨#[]⟩⟩ (one x) (by refine nf_ok ?_ ?_ ?_ ?_ ?_ ?_ ?_ ?_ ?_ <;> first | omega | decide | (rw [bs_size]; omega) | exact Nat.zero_le _) s3 (by rw [h5]; exact fun e => by cases e)) X B a c f j1 j2 j3 j4 j5 h)
         (go_at_call 121; refine Calls.mono (okc h5 (C5.out _ (by repeat with_reducible first | exact D4.out | apply RD.alloc | apply RD.drew | refine RD.setCell ?_ (by (try dsimp only); omega) _) x1.heap.size (some ⟨x4.heap.size, 0, none⟩) 1 (.cons x.1 a2 c2 g2 .nil) (by omega) (by (try simp) <;> omega) (LI.one (y := x) (B' := x1.heap.size) (U := x2.heap.size) Lx_4.out (Nat.le_refl _) (by omega) Kx.out.2.2 Kx.out.2.1 Kx.out.1 (by omega)) (by simp [Fo.len]) rfl)) ?_; rintro e x5 ⟨v5, rfl, hv5, f5, d5⟩; have D5 := hideIt d5; have F5 := hideIt (show Fr R w x5 from Fr.trans (by repeat with_reducible first | exact F4.out | apply Fr.alloc | apply Fr.drew | refine Fr.setNew ?_ (by (try dsimp only); omega) _) f5); have Z5 : x1.heap.size ≤ x5.heap.size := (by have z := f5.size; (try simp at z); omega); obtain ⟨a5, c5, g5, rfl, cp5, sk5, l5, ok5⟩ := hv5.out; have Lz_5 := hideIt (Ls.mono (B' := x1.heap.size) l5 (by (try simp); try omega) (Nat.le_refl _)); have Kz := hideIt (And.intro cp5 (And.intro sk5 ok5)); clear hv5 l5 cp5 sk5 ok5; have Lx_5 := hideIt (Ls.fr (B := x1.heap.size) (U := x2.heap.size) (a := a2) (f := g2) (by repeat with_reducible first | exact Lx_4.out | apply Ls.alloc | apply Ls.drew | refine Ls.set ?_ (by (try dsimp only); omega) _) (by omega) f5); have Br_5 := hideIt (Bx.fr (b := w.heap.size) (v := (nk 0)) (s := (.slice none 0 0)) (by repeat first | with_reducible exact Br_4.out | with_reducible apply Bx.alloc | with_reducible refine Bx.set ?_ (by (try dsimp only); omega) _ | with_reducible apply Bx.drew) (by omega) f5); have yr5 := Br_5.out.lt; obtain ⟨r0, r1, r2, r3, r4, r5, r6, r7, r8, r9⟩ := Br_5.out.ten; have rf := Br_5.out.free; clear Lx_4 Br_4; clear C5; clear f5 d5)
         go_wp2_with (fail)
         have ER := HR.out
         subst ER
         refine bodyPost_ret (v := nodeV z.1 (.slice a5 g5.len c5)) (by simp [results, Tryz.results118, go_sem, *]) rfl ⟨(by repeat with_reducible first | exact F5.out | apply Fr.alloc | apply Fr.drew | refine Fr.setNew ?_ (by (try dsimp only); omega) _), _, rfl, ?_, (by repeat with_reducible first | exact D5.out | apply RD.alloc | apply RD.drew | refine RD.setCell ?_ (by (try dsimp only); omega) _)⟩
         exact NV.mk (x := z) (B' := x1.heap.size) (U := x5.heap.size) Kz.out.1 Kz.out.2.1 (by repeat with_reducible first | exact Lz_5.out | apply Ls.alloc | apply Ls.drew | refine Ls.set ?_ (by (try dsimp only); omega) _) (by omega) Kz.out.2.2
      · rw [if_neg h4] at HR
        have C4 := hideIt (fun X (h : RD X R g cap L s3) => calls_any R g cap L s3 X h)
        (go_at_call 120; refine Calls.mono (C4.out _ (by repeat with_reducible first | exact D3.out | apply RD.alloc | apply RD.drew | refine RD.setCell ?_ (by (try dsimp only); omega) _)) ?_; rw [decide_eq_false h4]; rintro e x4 ⟨rfl, q4⟩; have f4 := Fr.of_q (R := R) q4; have D4 := hideIt (show RD x4 R g cap L s3 from RD.q (by repeat with_reducible first | exact D3.out | apply RD.alloc | apply RD.drew | refine RD.setCell ?_ (by (try dsimp only); omega) _) q4); have F4 := hideIt (show Fr R w x4 from Fr.trans (by repeat with_reducible first | exact F3.out | apply Fr.alloc | apply Fr.drew | refine Fr.setNew ?_ (by (try dsimp only); omega) _) f4); have Z4 : x3.heap.size ≤ x4.heap.size := (by have z := f4.size; (try simp at z); omega); have Lx_4 := hideIt (Ls.fr (B := x1.heap.size) (U := x2.heap.size) (a := a2) (f := g2) (by repeat with_reducible first | exact Lx_3.out | apply Ls.alloc | apply Ls.drew | refine Ls.set ?_ (by (try dsimp only); omega) _) (by omega) f4); have Br_4 := hideIt (Bx.fr (b := w.heap.size) (v := (nk 0)) (s := (.slice none 0 0)) (by repeat first | with_reducible exact Br_3.out | with_reducible apply Bx.alloc | with_reducible refine Bx.set ?_ (by (try dsimp only); omega) _ | with_reducible apply Bx.drew) (by omega) f4); have yr4 := Br_4.out.lt; have Bl_4 := hideIt (Bx.fr (b := x2.heap.size) (v := x.1) (s := (.slice a2 g2.len c2)) (by repeat first | with_reducible exact Bl_3.out | with_reducible apply Bx.alloc | with_reducible refine Bx.set ?_ (by (try dsimp only); omega) _ | with_reducible apply Bx.drew) (by omega) f4); have yl4 := Bl_4.out.lt; clear l0 l1 l2 l3 l4 l5 l6 l7 l8 l9 lf yl3; obtain ⟨l0, l1, l2, l3, l4, l5, l6, l7, l8, l9⟩ := Bl_4.out.ten; have lf := Bl_4.out.free; clear Lx_3 Br_3 Bl_3; clear C4; clear f4 q4)
        go_wp2_with (fail)
        cases h5 : nodeM s3 with
        | out => rw [h5] at HR; exact absurd HR.out.symm HN.out
        | bad k p =>
         rw [h5] at HR
         have C5 := hideIt (fun X (h : RD X R g cap L s3) => node_rd R g cap L s3 X h (nk 9) none 0 0)
         (go_at_call 31; refine Calls.mono (badc h5 (C5.out _ (by repeat with_reducible first | exact D4.out | apply RD.alloc | apply RD.drew | refine RD.setCell ?_ (by (try dsimp only); omega) _))) ?_; rintro e x5 ⟨rfl, f5⟩; have F5 := hideIt (show Fr R w x5 from Fr.trans (by repeat with_reducible first | exact F4.out | apply Fr.alloc | apply Fr.drew | refine Fr.setNew ?_ (by (try dsimp only); omega) _) f5); clear f5)
         have ER : Rs.bad k p = r := HR.out
         subst ER
         exact ⟨rfl, F5.out, rfl⟩
        | ok u5 s5 =>
         rw [h5] at HR
         try simp only [bnd_ok] at HR
         have C5 := hideIt (fun X (h : RD X R g cap L s3) => node_rd R g cap L s3 X h (nk 9) none 0 0)
         (go_at_call 31; refine Calls.mono (okc h5 (C5.out _ (by repeat with_reducible first | exact D4.out | apply RD.alloc | apply RD.drew | refine RD.setCell ?_ (by (try dsimp only); omega) _))) ?_; rintro e x5 ⟨v5, rfl, rfl, f5, d5⟩; have D5 := hideIt d5; have F5 := hideIt (show Fr R w x5 from Fr.trans (by repeat with_reducible first | exact F4.out | apply Fr.alloc | apply Fr.drew | refine Fr.setNew ?_ (by (try dsimp only); omega) _) f5); have Z5 : x4.heap.size ≤ x5.heap.size := (by have z := f5.size; (try simp at z); omega); have Lx_5 := hideIt (Ls.fr (B := x1.heap.size) (U := x2.heap.size) (a := a2) (f := g2) (by repeat with_reducible first | exact Lx_4.out | apply Ls.alloc | apply Ls.drew | refine Ls.set ?_ (by (try dsimp only); omega) _) (by omega) f5); have Br_5 := hideIt (Bx.fr (b := w.heap.size) (v := (nk 0)) (s := (.slice none 0 0)) (by repeat first | with_reducible exact Br_4.out | with_reducible apply Bx.alloc | with_reducible refine Bx.set ?_ (by (try dsimp only); omega) _ | with_reducible apply Bx.drew) (by omega) f5); have yr5 := Br_5.out.lt; have Bl_5 := hideIt (Bx.fr (b := x2.heap.size) (v := x.1) (s := (.slice a2 g2.len c2)) (by repeat first | with_reducible exact Bl_4.out | with_reducible apply Bx.alloc | with_reducible refine Bx.set ?_ (by (try dsimp only); omega) _ | with_reducible apply Bx.drew) (by omega) f5); have yl5 := Bl_5.out.lt; clear l0 l1 l2 l3 l4 l5 l6 l7 l8 l9 lf yl4; obtain ⟨l0, l1, l2, l3, l4, l5, l6, l7, l8, l9⟩ := Bl_5.out.ten; have lf := Bl_5.out.free; clear Lx_4 Br_4 Bl_4; clear C5; clear f5 d5)
         go_wp2_with (fail)
         cases h6 : rd n .expression s5 with
         | out => rw [h6] at HR; exact absurd HR.out.symm HN.out
         | bad k p =>
          rw [h6] at HR
          have C6 := hideIt (fun X (h : RD X R g cap L s5) => (HE s5 (by rw [h6]; exact fun e => by cases e)) X h)
          refine wp_region_held_drew (S := fun w' => Bx w' x2.heap.size x.1 (.slice a2 g2.len c2)) (by kernel_rfl) ((by repeat (first | with_reducible exact Bl_5.out | with_reducible refine Bx.alloc ?_ _ | (with_reducible refine Bx.set ?_ ?hh _; case hh => ((try dsimp only); omega)) | with_reducible refine Bx.drew ?_))) (fun hHeld => ?_)
          refine wpAnyH_take (i := 0) (oi := ⟨_, _, _, _, _, _⟩) (v := ?_) rfl (by kernel_rfl) (by kernel_rfl) (by kernel_rfl) (fun _ _ _ h => h) (Or.inl ⟨by rfl, ?_⟩) (by assumption) ?_
          rotate_left 1
          · intro w' hSw; obtain ⟨ql0, ql1, ql2, ql3, ql4, ql5, ql6, ql7, ql8, ql9⟩ := Bx.ten hSw; go_simp; all_goals with_reducible rfl
          try simp only [Act.put, List.setIfInBounds_toArray, List.set_cons_zero, List.set_cons_succ]
          refine wpAnyH_take (i := 1) (oi := ⟨_, _, _, _, _, _⟩) (v := ?_) rfl (by kernel_rfl) (by kernel_rfl) (by kernel_rfl) (fun _ _ _ h => h) (Or.inl ⟨by rfl, ?_⟩) (by assumption) ?_
          rotate_left 1
          · intro w' hSw; go_simp; all_goals with_reducible rfl
          try simp only [Act.put, List.setIfInBounds_toArray, List.set_cons_zero, List.set_cons_succ]
          refine wpAnyH_ready (rs := [2]) (by kernel_rfl) (by simp) (AllReadyH.cons (o := ⟨_, _, _, _, _, _⟩) rfl (fun K hK => ?_) AllReadyH.nil)
          go_simp
          (go_at_call 114; refine Calls.mono (badc h6 (C6.out _ (by repeat with_reducible first | exact D5.out | apply RD.alloc | apply RD.drew | refine RD.setCell ?_ (by (try dsimp only); omega) _))) ?_; rintro e x6 ⟨rfl, f6⟩; have F6 := hideIt (show Fr R w x6 from Fr.trans (by repeat with_reducible first | exact F5.out | apply Fr.alloc | apply Fr.drew | refine Fr.setNew ?_ (by (try dsimp only); omega) _) f6); clear f6)
          have ER : Rs.bad k p = r := HR.out
          subst ER
          exact ⟨rfl, F6.out, rfl⟩
         | ok y s6 =>
          rw [h6] at HR
          try simp only [bnd_ok] at HR
          have C6 := hideIt (fun X (h : RD X R g cap L s5) => (HE s5 (by rw [h6]; exact fun e => by cases e)) X h)
          refine wp_region_held_drew (S := fun w' => Bx w' x2.heap.size x.1 (.slice a2 g2.len c2)) (by kernel_rfl) ((by repeat (first | with_reducible exact Bl_5.out | with_reducible refine Bx.alloc ?_ _ | (with_reducible refine Bx.set ?_ ?hh _; case hh => ((try dsimp only); omega)) | with_reducible refine Bx.drew ?_))) (fun hHeld => ?_)
          refine wpAnyH_take (i := 0) (oi := ⟨_, _, _, _, _, _⟩) (v := ?_) rfl (by kernel_rfl) (by kernel_rfl) (by kernel_rfl) (fun _ _ _ h => h) (Or.inl ⟨by rfl, ?_⟩) (by assumption) ?_
          rotate_left 1
          · intro w' hSw; obtain ⟨ql0, ql1, ql2, ql3, ql4, ql5, ql6, ql7, ql8, ql9⟩ := Bx.ten hSw; go_simp; all_goals with_reducible rfl
          try simp only [Act.put, List.setIfInBounds_toArray, List.set_cons_zero, List.set_cons_succ]
          refine wpAnyH_take (i := 1) (oi := ⟨_, _, _, _, _, _⟩) (v := ?_) rfl (by kernel_rfl) (by kernel_rfl) (by kernel_rfl) (fun _ _ _ h => h) (Or.inl ⟨by rfl, ?_⟩) (by assumption) ?_
          rotate_left 1
          · intro w' hSw; go_simp; all_goals with_reducible rfl
          try simp only [Act.put, List.setIfInBounds_toArray, List.set_cons_zero, List.set_cons_succ]
          refine wpAnyH_ready (rs := [2]) (by kernel_rfl) (by simp) (AllReadyH.cons (o := ⟨_, _, _, _, _, _⟩) rfl (fun K hK => ?_) AllReadyH.nil)
          go_simp
          (go_at_call 114; refine Calls.mono (okc h6 (C6.out _ (by repeat with_reducible first | exact D5.out | apply RD.alloc | apply RD.drew | refine RD.setCell ?_ (by (try dsimp only); omega) _))) ?_; rintro e x6 ⟨v6, rfl, hv6, f6, d6⟩; have D6 := hideIt d6; have F6 := hideIt (show Fr R w x6 from Fr.trans (by repeat with_reducible first | exact F5.out | apply Fr.alloc | apply Fr.drew | refine Fr.setNew ?_ (by (try dsimp only); omega) _) f6); have Z6 : x5.heap.size + 1 ≤ x6.heap.size := (by have z := f6.size; (try simp at z); omega); obtain ⟨a6, c6, g6, rfl, cp6, sk6, l6, ok6⟩ := hv6.out; have Ly_6 := hideIt (Ls.mono (B' := x5.heap.size + 1) l6 (by (try simp); try omega) (Nat.le_refl _)); have Ky := hideIt (And.intro cp6 (And.intro sk6 ok6)); clear hv6 l6 cp6 sk6 ok6; have Lx_6 := hideIt (Ls.fr (B := x1.heap.size) (U := x2.heap.size) (a := a2) (f := g2) (by repeat with_reducible first | exact Lx_5.out | apply Ls.alloc | apply Ls.drew | refine Ls.set ?_ (by (try dsimp only); omega) _) (by omega) f6); have Br_6 := hideIt (Bx.fr (b := w.heap.size) (v := (nk 0)) (s := (.slice none 0 0)) (by repeat first | with_reducible exact Br_5.out | with_reducible apply Bx.alloc | with_reducible refine Bx.set ?_ (by (try dsimp only); omega) _ | with_reducible apply Bx.drew) (by omega) f6); have yr6 := Br_6.out.lt; have Bl_6 := hideIt (Bx.fr (b := x2.heap.size) (v := x.1) (s := (.slice a2 g2.len c2)) (by repeat first | with_reducible exact Bl_5.out | with_reducible apply Bx.alloc | with_reducible refine Bx.set ?_ (by (try dsimp only); omega) _ | with_reducible apply Bx.drew) (by omega) f6); have yl6 := Bl_6.out.lt; have Bn_6 := hideIt (Bx.fr (b := x5.heap.size) (v := (nk 9)) (s := (.slice none 0 0)) (by repeat first | refine Bx.newAt _ (nk 9) (.slice none 0 0) (by simp; done) | with_reducible apply Bx.alloc | with_reducible refine Bx.set ?_ (by (try dsimp only); omega) _ | with_reducible apply Bx.drew) (by omega) f6); have yn6 := Bn_6.out.lt; obtain ⟨r0, r1, r2, r3, r4, r5, r6, r7, r8, r9⟩ := Br_6.out.ten; have rf := Br_6.out.free; clear l0 l1 l2 l3 l4 l5 l6 l7 l8 l9 lf yl5; obtain ⟨l0, l1, l2, l3, l4, l5, l6, l7, l8, l9⟩ := Bl_6.out.ten; have lf := Bl_6.out.free; obtain ⟨n0, n1, n2, n3, n4, n5, n6, n7, n8, n9⟩ := Bn_6.out.ten; have nf := Bn_6.out.free; clear Lx_5 Br_5 Bl_5; clear C6; clear f6 d6)
          refine hK.out _ _ ?_ (fun hHeld => ?_)
          · exact Bl_6.out
          clear hK K
          try simp only [Act.put, List.setIfInBounds_toArray, List.set_cons_zero, List.set_cons_succ]
          refine wpAnyH_ready (rs := [3]) (by kernel_rfl) (by simp) (AllReadyH.cons (o := ⟨_, _, _, _, _, _⟩) rfl (fun K hK => ?_) AllReadyH.nil)
          go_simp
          refine hK.out _ _ ?_ (fun hHeld => ?_)
          · exact (by repeat (first | with_reducible exact Bl_6.out | with_reducible refine Bx.alloc ?_ _ | (with_reducible refine Bx.set ?_ ?hh _; case hh => ((try dsimp only); omega)) | with_reducible refine Bx.drew ?_))
          clear hK K
          try simp only [Act.put, List.setIfInBounds_toArray, List.set_cons_zero, List.set_cons_succ]
          refine wpAnyH_take (i := 4) (oi := ⟨_, _, _, _, _, _⟩) (v := ?_) rfl (by kernel_rfl) (by kernel_rfl) (by kernel_rfl) (fun _ _ _ h => h) (Or.inl ⟨by rfl, ?_⟩) (by assumption) ?_
          rotate_left 1
          · intro w' hSw; go_simp; all_goals with_reducible rfl
          try simp only [Act.put, List.setIfInBounds_toArray, List.set_cons_zero, List.set_cons_succ]
          refine wpAnyH_ready (rs := [5]) (by kernel_rfl) (by simp) (AllReadyH.cons (o := ⟨_, _, _, _, _, _⟩) rfl (fun K hK => ?_) AllReadyH.nil)
          go_simp
          refine hK.out _ _ ?_ (fun hHeld => ?_)
          · exact (by repeat (first | with_reducible exact Bl_6.out | with_reducible refine Bx.alloc ?_ _ | (with_reducible refine Bx.set ?_ ?hh _; case hh => ((try dsimp only); omega)) | with_reducible refine Bx.drew ?_))
          clear hK K
          try simp only [Act.put, List.setIfInBounds_toArray, List.set_cons_zero, List.set_cons_succ]
          refine wpAnyH_done (by kernel_rfl) ?_ _
          go_wp2_with (fail)
          cases h7 : needM [59] s6 with
          | out => rw [h7] at HR; exact absurd HR.out.symm HN.out
          | bad k p =>
           rw [h7] at HR
           have C7 := hideIt (fun X (h : RD X R g cap L s6) => need_any [59] (by decide) R g cap L s6 X h)
           (go_at_call_of 91 (Value.string ⟨#[59]⟩); refine Calls.mono (badc h7 (C7.out _ (by repeat with_reducible first | exact D6.out | apply RD.alloc | apply RD.drew | refine RD.setCell ?_ (by (try dsimp only); omega) _))) ?_; rintro e x7 ⟨rfl, f7⟩; have F7 := hideIt (show Fr R w x7 from Fr.trans (by repeat with_reducible first | exact F6.out | apply Fr.alloc | apply Fr.drew | refine Fr.setNew ?_ (by (try dsimp only); omega) _) f7); clear f7)
           have ER : Rs.bad k p = r := HR.out
           subst ER
           exact ⟨rfl, F7.out, rfl⟩
          | ok u7 s7 =>
           rw [h7] at HR
           try simp only [bnd_ok] at HR
           have C7 := hideIt (fun X (h : RD X R g cap L s6) => need_any [59] (by decide) R g cap L s6 X h)
           (go_at_call_of 91 (Value.string ⟨#[59]⟩); refine Calls.mono (okc h7 (C7.out _ (by repeat with_reducible first | exact D6.out | apply RD.alloc | apply RD.drew | refine RD.setCell ?_ (by (try dsimp only); omega) _))) ?_; rintro e x7 ⟨v7, rfl, rfl, f7, d7⟩; have D7 := hideIt d7; have F7 := hideIt (show Fr R w x7 from Fr.trans (by repeat with_reducible first | exact F6.out | apply Fr.alloc | apply Fr.drew | refine Fr.setNew ?_ (by (try dsimp only); omega) _) f7); have Z7 : x6.heap.size + 1 ≤ x7.heap.size := (by have z := f7.size; (try simp at z); omega); have Lx_7 := hideIt (Ls.fr (B := x1.heap.size) (U := x2.heap.size) (a := a2) (f := g2) (by repeat with_reducible first | exact Lx_6.out | apply Ls.alloc | apply Ls.drew | refine Ls.set ?_ (by (try dsimp only); omega) _) (by omega) f7); have Ly_7 := hideIt (Ls.fr (B := x5.heap.size + 1) (U := x6.heap.size) (a := a6) (f := g6) (by repeat with_reducible first | exact Ly_6.out | apply Ls.alloc | apply Ls.drew | refine Ls.set ?_ (by (try dsimp only); omega) _) (by omega) f7); have Lk_7 := hideIt (Ls.fr (B := w.heap.size + 1) (U := x6.heap.size + 1) (a := (some ⟨x6.heap.size, 0, none⟩)) (f := (.cons x.1 a2 c2 g2 (.cons y.1 a6 c6 g6 .nil))) (Ls.two (B := x1.heap.size) (U := x2.heap.size) (B2 := x5.heap.size + 1) (U2 := x6.heap.size) (B' := w.heap.size + 1) (by repeat with_reducible first | exact Lx_6.out | apply Ls.alloc | apply Ls.drew | refine Ls.set ?_ (by (try dsimp only); omega) _) Kx.out.2.2 Kx.out.2.1 (by simp; try omega) (by repeat with_reducible first | exact Ly_6.out | apply Ls.alloc | apply Ls.drew | refine Ls.set ?_ (by (try dsimp only); omega) _) Ky.out.2.2 Ky.out.2.1 (by simp; try omega) (by simp) (by omega) (by omega) (by simp; try omega)) (by omega) f7); have Br_7 := hideIt (Bx.fr (b := w.heap.size) (v := (nk 0)) (s := (.slice none 0 0)) (by repeat first | with_reducible exact Br_6.out | with_reducible apply Bx.alloc | with_reducible refine Bx.set ?_ (by (try dsimp only); omega) _ | with_reducible apply Bx.drew) (by omega) f7); have yr7 := Br_7.out.lt; have Bl_7 := hideIt (Bx.fr (b := x2.heap.size) (v := x.1) (s := (.slice a2 g2.len c2)) (by repeat first | with_reducible exact Bl_6.out | with_reducible apply Bx.alloc | with_reducible refine Bx.set ?_ (by (try dsimp only); omega) _ | with_reducible apply Bx.drew) (by omega) f7); have yl7 := Bl_7.out.lt; have Bn_7 := hideIt (Bx.fr (b := x5.heap.size) (v := (nk 9)) (s := (.slice (some ⟨x6.heap.size, 0, none⟩) 2 2)) (by repeat first | exact (Bx.put Bn_6.out 9 _ rfl) | with_reducible apply Bx.alloc | with_reducible refine Bx.set ?_ (by (try dsimp only); omega) _ | with_reducible apply Bx.drew) (by omega) f7); have yn7 := Bn_7.out.lt; clear r0 r1 r2 r3 r4 r5 r6 r7 r8 r9 rf yr6; obtain ⟨r0, r1, r2, r3, r4, r5, r6, r7, r8, r9⟩ := Br_7.out.ten; have rf := Br_7.out.free; clear l0 l1 l2 l3 l4 l5 l6 l7 l8 l9 lf yl6; obtain ⟨l0, l1, l2, l3, l4, l5, l6, l7, l8, l9⟩ := Bl_7.out.ten; have lf := Bl_7.out.free; clear n0 n1 n2 n3 n4 n5 n6 n7 n8 n9 nf yn6; obtain ⟨n0, n1, n2, n3, n4, n5, n6, n7, n8, n9⟩ := Bn_7.out.ten; have nf := Bn_7.out.free; clear Lx_6 Ly_6 Br_6 Bl_6 Bn_6; clear C7; clear f7 d7)
           go_wp2_with (fail)
           have ER := HR.out
           subst ER
           refine bodyPost_ret (v := nodeV (nk 9) (.slice (some ⟨x6.heap.size, 0, none⟩) 2 2)) (by simp [results, Tryz.results118, go_sem, *]) rfl ⟨(by repeat with_reducible first | exact F7.out | apply Fr.alloc | apply Fr.drew | refine Fr.setNew ?_ (by (try dsimp only); omega) _), _, rfl, ?_, (by repeat with_reducible first | exact D7.out | apply RD.alloc | apply RD.drew | refine RD.setCell ?_ (by (try dsimp only); omega) _)⟩
           exact NV.mk (x := (nk 9, (one x).app (one y))) (B' := w.heap.size + 1) (U := x6.heap.size + 1) (f := .cons x.1 a2 c2 g2 (.cons y.1 a6 c6 g6 .nil)) ⟨rfl, Kx.out.1, rfl, Ky.out.1, trivial⟩ sok2 (by repeat with_reducible first | exact Lk_7.out | apply Ls.alloc | apply Ls.drew | refine Ls.set ?_ (by (try dsimp only); omega) _) (by omega) (by refine nf_ok ?_ ?_ ?_ ?_ ?_ ?_ ?_ ?_ ?_ <;> first | omega | decide | (rw [bs_size]; omega) | exact Nat.zero_le _)

end Go.Proofs.YtoilhcklflmamaaGreatDoor
