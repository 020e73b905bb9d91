/-
  Variables: contracts over the program; the conditions: the reader lies in memory as it should, and what is called keeps its own contract.
-/
import Derived.Test.YtoilhcklflmamaaGreatDoorKPrG
namespace Go.Proofs.YtoilhcklflmamaaGreatDoor
open Go.RowKit
open Pr
set_option linter.unusedVariables false

set_option maxRecDepth 100000 in
set_option maxHeartbeats 4000000 in
theorem variable_rd_e (R g cap : Nat) (L : List Tok) (n : Nat) (HF : ∀ s, rd n .expression s ≠ .out → Rule 114 #[] R g cap L s (rd n .expression s)) (v : NF) (hv : v.ok) (s : St) (hno : rd (n + 1) (.variable v true) s ≠ .out) :
    Rule 72 #[nodeV v (.slice none 0 0), .func (.func 114) #[rp R] #[]] R g cap L s (rd (n + 1) (.variable v true) s) := by
  intro w h
  have e : rd (n + 1) (.variable v true) s = (nodeM s).bnd fun _ s => (tryM [91] s).bnd fun b s => if b then (countM s).bnd fun k s => (needM [93] s).bnd fun _ s => (needM [59] s).bnd fun _ s => .ok ({ v with tk := 1, tn := k }, .nil) s else (tryM [61] s).bnd fun b s => if b then (rd n .expression s).bnd fun x s => (needM [59] s).bnd fun _ s => .ok (v, one x) s else (needM [59] s).bnd fun _ s => .ok (v, .nil) s := rfl
  rw [e] at hno ⊢
  clear e
  have HD := hideIt h
  have hR := h.b.lt_size
  clear h
  obtain ⟨r, hr⟩ : ∃ r, ((nodeM s).bnd fun _ s => (tryM [91] s).bnd fun b s => if b then (countM s).bnd fun k s => (needM [93] s).bnd fun _ s => (needM [59] s).bnd fun _ s => .ok ({ v with tk := 1, tn := k }, .nil) s else (tryM [61] s).bnd fun b s => if b then (rd n .expression s).bnd fun x s => (needM [59] s).bnd fun _ s => .ok (v, one x) s else (needM [59] s).bnd fun _ s => .ok (v, .nil) s : Rs Nd) = r := ⟨_, rfl⟩
  rw [hr] at hno ⊢
  have HR := hideIt hr
  have HN := hideIt hno
  clear hr hno
  go_enter Tryz.func72, Tryz.ntmps72
  go_wp2_with (fail)
  cases h1 : nodeM s with
  | out => rw [h1] at HR; exact absurd HR.out.symm HN.out
  | bad k p =>
   rw [h1] at HR
   have C1 := hideIt (fun X (h : RD X R g cap L s) => node_rd R g cap L s X h v none 0 0)
   (go_at_call 31; refine Calls.mono (badc h1 (C1.out _ (by repeat with_reducible first | exact HD.out | apply RD.alloc | apply RD.drew | refine RD.setCell ?_ (by (try dsimp only); omega) _))) ?_; rintro e x1 ⟨rfl, f1⟩; have F1 := hideIt (show Fr R w x1 from Fr.trans (by repeat with_reducible first | exact (Fr.refl R w) | apply Fr.alloc | apply Fr.drew | refine Fr.setNew ?_ (by (try dsimp only); omega) _) f1); clear f1)
   have ER : Rs.bad k p = r := HR.out
   subst ER
   exact ⟨rfl, F1.out, rfl⟩
  | ok u1 s1 =>
   rw [h1] at HR
   try simp only [bnd_ok] at HR
   have C1 := hideIt (fun X (h : RD X R g cap L s) => node_rd R g cap L s X h v none 0 0)
   (go_at_call 31; refine Calls.mono (okc h1 (C1.out _ (by repeat with_reducible first | exact HD.out | apply RD.alloc | apply RD.drew | refine RD.setCell ?_ (by (try dsimp only); omega) _))) ?_; rintro e x1 ⟨v1, rfl, rfl, f1, d1⟩; have D1 := hideIt d1; have F1 := hideIt (show Fr R w x1 from Fr.trans (by repeat with_reducible first | exact (Fr.refl R w) | apply Fr.alloc | apply Fr.drew | refine Fr.setNew ?_ (by (try dsimp only); omega) _) f1); have Z1 : w.heap.size + 2 ≤ x1.heap.size := (by have z := f1.size; (try simp at z); omega); have Bp_1 := hideIt (Bx.fr (b := w.heap.size) (v := v) (s := (.slice none 0 0)) (by repeat first | refine Bx.newAt _ v (.slice none 0 0) (by simp; done) | with_reducible apply Bx.alloc | with_reducible refine Bx.set ?_ (by (try dsimp only); omega) _ | with_reducible apply Bx.drew) (by omega) f1); have yp1 := Bp_1.out.lt; have Br_1 := hideIt (Bx.fr (b := w.heap.size + 1) (v := (nk 0)) (s := (.slice none 0 0)) (by repeat first | refine Bx.newAt _ (nk 0) (.slice none 0 0) (by simp; done) | with_reducible apply Bx.alloc | with_reducible refine Bx.set ?_ (by (try dsimp only); omega) _ | with_reducible apply Bx.drew) (by omega) f1); have yr1 := Br_1.out.lt; obtain ⟨p0, p1, p2, p3, p4, p5, p6, p7, p8, p9⟩ := Bp_1.out.ten; have pf := Bp_1.out.free; have ep0 := Bp_1.out.same 0 _ rfl; have ep1 := Bp_1.out.same 1 _ rfl; have ep2 := Bp_1.out.same 2 _ rfl; have ep3 := Bp_1.out.same 3 _ rfl; have ep4 := Bp_1.out.same 4 _ rfl; have ep5 := Bp_1.out.same 5 _ rfl; have ep6 := Bp_1.out.same 6 _ rfl; have ep7 := Bp_1.out.same 7 _ rfl; have ep8 := Bp_1.out.same 8 _ rfl; have ep9 := Bp_1.out.same 9 _ rfl; clear C1; clear f1 d1)
   go_wp2_with (fail)
   cases h2 : tryM [91] s1 with
   | out => rw [h2] at HR; exact absurd HR.out.symm HN.out
   | bad k p =>
    rw [h2] at HR
    have C2 := hideIt (fun X (h : RD X R g cap L s1) => try_any [91] (by decide) R g cap L s1 X h)
    (go_at_call_of 64 (Value.string ⟨#[91]⟩); refine Calls.mono (badc h2 (C2.out _ (by repeat with_reducible first | exact D1.out | apply RD.alloc | apply RD.drew | refine RD.setCell ?_ (by (try dsimp only); omega) _))) ?_; rintro e x2 ⟨rfl, f2⟩; have F2 := hideIt (show Fr R w x2 from Fr.trans (by repeat with_reducible first | exact F1.out | apply Fr.alloc | apply Fr.drew | refine Fr.setNew ?_ (by (try dsimp only); omega) _) f2); clear f2)
    have ER : Rs.bad k p = r := HR.out
    subst ER
    exact ⟨rfl, F2.out, rfl⟩
   | ok b2 s2 =>
    rw [h2] at HR
    try simp only [bnd_ok] at HR
    cases b2 with
    | true =>
     try simp only [if_true] at HR
     have C2 := hideIt (fun X (h : RD X R g cap L s1) => try_any [91] (by decide) R g cap L s1 X h)
     (go_at_call_of 64 (Value.string ⟨#[91]⟩); refine Calls.mono (okc h2 (C2.out _ (by repeat with_reducible first | exact D1.out | apply RD.alloc | apply RD.drew | refine RD.setCell ?_ (by (try dsimp only); omega) _))) ?_; rintro e x2 ⟨v2, rfl, rfl, f2, d2⟩; have D2 := hideIt d2; have F2 := hideIt (show Fr R w x2 from Fr.trans (by repeat with_reducible first | exact F1.out | apply Fr.alloc | apply Fr.drew | refine Fr.setNew ?_ (by (try dsimp only); omega) _) f2); have Z2 : x1.heap.size ≤ x2.heap.size := (by have z := f2.size; (try simp at z); omega); have Bp_2 := hideIt (Bx.fr (b := w.heap.size) (v := v) (s := (.slice none 0 0)) (by repeat first | with_reducible exact Bp_1.out | with_reducible apply Bx.alloc | with_reducible refine Bx.set ?_ (by (try dsimp only); omega) _ | with_reducible apply Bx.drew) (by omega) f2); have yp2 := Bp_2.out.lt; have Br_2 := hideIt (Bx.fr (b := w.heap.size + 1) (v := (nk 0)) (s := (.slice none 0 0)) (by repeat first | with_reducible exact Br_1.out | with_reducible apply Bx.alloc | with_reducible refine Bx.set ?_ (by (try dsimp only); omega) _ | with_reducible apply Bx.drew) (by omega) f2); have yr2 := Br_2.out.lt; clear p0 p1 p2 p3 p4 p5 p6 p7 p8 p9 pf yp1; clear ep0 ep1 ep2 ep3 ep4 ep5 ep6 ep7 ep8 ep9; obtain ⟨p0, p1, p2, p3, p4, p5, p6, p7, p8, p9⟩ := Bp_2.out.ten; have pf := Bp_2.out.free; clear Bp_1 Br_1; clear C2; clear f2 d2)
     go_wp2_with (fail)
     cases h3 : countM s2 with
     | out => rw [h3] at HR; exact absurd HR.out.symm HN.out
     | bad k p =>
      rw [h3] at HR
      have C3 := hideIt (fun X (h : RD X R g cap L s2) => count_rd R g cap L s2 X h)
      (go_at_call 95; refine Calls.mono (badc h3 (C3.out _ (by repeat with_reducible first | exact D2.out | apply RD.alloc | apply RD.drew | refine RD.setCell ?_ (by (try dsimp only); omega) _))) ?_; rintro e x3 ⟨rfl, f3⟩; have F3 := hideIt (show Fr R w x3 from Fr.trans (by repeat with_reducible first | exact F2.out | apply Fr.alloc | apply Fr.drew | refine Fr.setNew ?_ (by (try dsimp only); omega) _) f3); clear f3)
      have ER : Rs.bad k p = r := HR.out
      subst ER
      exact ⟨rfl, F3.out, rfl⟩
     | ok z s3 =>
      rw [h3] at HR
      try simp only [bnd_ok] at HR
      have C3 := hideIt (fun X (h : RD X R g cap L s2) => count_rd R g cap L s2 X h)
      (go_at_call 95; refine Calls.mono (okc h3 (C3.out _ (by repeat with_reducible first | exact D2.out | apply RD.alloc | apply RD.drew | refine RD.setCell ?_ (by (try dsimp only); omega) _))) ?_; rintro e x3 ⟨v3, rfl, rfl, f3, d3⟩; have D3 := hideIt d3; have F3 := hideIt (show Fr R w x3 from Fr.trans (by repeat with_reducible first | exact F2.out | apply Fr.alloc | apply Fr.drew | refine Fr.setNew ?_ (by (try dsimp only); omega) _) f3); have Z3 : x2.heap.size ≤ x3.heap.size := (by have z := f3.size; (try simp at z); omega); have Bp_3 := hideIt (Bx.fr (b := w.heap.size) (v := { v with tk := 1 }) (s := (.slice none 0 0)) (by repeat first | exact (Bx.put Bp_2.out 2 _ rfl) | with_reducible apply Bx.alloc | with_reducible refine Bx.set ?_ (by (try dsimp only); omega) _ | with_reducible apply Bx.drew) (by omega) f3); have yp3 := Bp_3.out.lt; have Br_3 := hideIt (Bx.fr (b := w.heap.size + 1) (v := (nk 0)) (s := (.slice none 0 0)) (by repeat first | with_reducible exact Br_2.out | with_reducible apply Bx.alloc | with_reducible refine Bx.set ?_ (by (try dsimp only); omega) _ | with_reducible apply Bx.drew) (by omega) f3); have yr3 := Br_3.out.lt; clear p0 p1 p2 p3 p4 p5 p6 p7 p8 p9 pf yp2; obtain ⟨p0, p1, p2, p3, p4, p5, p6, p7, p8, p9⟩ := Bp_3.out.ten; have pf := Bp_3.out.free; clear Bp_2 Br_2; clear C3; clear f3 d3)
      go_wp2_with (fail)
      cases h4 : needM [93] s3 with
      | out => rw [h4] at HR; exact absurd HR.out.symm HN.out
      | bad k p =>
       rw [h4] at HR
       have C4 := hideIt (fun X (h : RD X R g cap L s3) => need_any [93] (by decide) R g cap L s3 X h)
       (go_at_call_of 91 (Value.string ⟨#[93]⟩); refine Calls.mono (badc h4 (C4.out _ (by repeat with_reducible first | exact D3.out | apply RD.alloc | apply RD.drew | refine RD.setCell ?_ (by (try dsimp only); omega) _))) ?_; rintro e x4 ⟨rfl, f4⟩; have F4 := hideIt (show Fr R w x4 from Fr.trans (by repeat with_reducible first | exact F3.out | apply Fr.alloc | apply Fr.drew | refine Fr.setNew ?_ (by (try dsimp only); omega) _) f4); clear f4)
       have ER : Rs.bad k p = r := HR.out
       subst ER
       exact ⟨rfl, F4.out, rfl⟩
      | ok u4 s4 =>
       rw [h4] at HR
       try simp only [bnd_ok] at HR
       have C4 := hideIt (fun X (h : RD X R g cap L s3) => need_any [93] (by decide) R g cap L s3 X h)
       (go_at_call_of 91 (Value.string ⟨#[93]⟩); refine Calls.mono (okc h4 (C4.out _ (by repeat with_reducible first | exact D3.out | apply RD.alloc | apply RD.drew | refine RD.setCell ?_ (by (try dsimp only); omega) _))) ?_; rintro e x4 ⟨v4, rfl, rfl, f4, d4⟩; have D4 := hideIt d4; have F4 := hideIt (show Fr R w x4 from Fr.trans (by repeat with_reducible first | exact F3.out | apply Fr.alloc | apply Fr.drew | refine Fr.setNew ?_ (by (try dsimp only); omega) _) f4); have Z4 : x3.heap.size ≤ x4.heap.size := (by have z := f4.size; (try simp at z); omega); have Bp_4 := hideIt (Bx.fr (b := w.heap.size) (v := { v with tk := 1, tn := z }) (s := (.slice none 0 0)) (by repeat first | exact (Bx.put Bp_3.out 4 _ rfl) | with_reducible apply Bx.alloc | with_reducible refine Bx.set ?_ (by (try dsimp only); omega) _ | with_reducible apply Bx.drew) (by omega) f4); have yp4 := Bp_4.out.lt; have Br_4 := hideIt (Bx.fr (b := w.heap.size + 1) (v := (nk 0)) (s := (.slice none 0 0)) (by repeat first | with_reducible exact Br_3.out | with_reducible apply Bx.alloc | with_reducible refine Bx.set ?_ (by (try dsimp only); omega) _ | with_reducible apply Bx.drew) (by omega) f4); have yr4 := Br_4.out.lt; clear p0 p1 p2 p3 p4 p5 p6 p7 p8 p9 pf yp3; obtain ⟨p0, p1, p2, p3, p4, p5, p6, p7, p8, p9⟩ := Bp_4.out.ten; have pf := Bp_4.out.free; clear Bp_3 Br_3; clear C4; clear f4 d4)
       go_wp2_with (fail)
       cases h5 : needM [59] s4 with
       | out => rw [h5] at HR; exact absurd HR.out.symm HN.out
       | bad k p =>
        rw [h5] at HR
        have C5 := hideIt (fun X (h : RD X R g cap L s4) => need_any [59] (by decide) R g cap L s4 X h)
        (go_at_call_of 91 (Value.string ⟨#[59]⟩); refine Calls.mono (badc h5 (C5.out _ (by repeat with_reducible first | exact D4.out | apply RD.alloc | apply RD.drew | refine RD.setCell ?_ (by (try dsimp only); omega) _))) ?_; rintro e x5 ⟨rfl, f5⟩; have F5 := hideIt (show Fr R w x5 from Fr.trans (by repeat with_reducible first | exact F4.out | apply Fr.alloc | apply Fr.drew | refine Fr.setNew ?_ (by (try dsimp only); omega) _) f5); clear f5)
        have ER : Rs.bad k p = r := HR.out
        subst ER
        exact ⟨rfl, F5.out, rfl⟩
       | ok u5 s5 =>
        rw [h5] at HR
        try simp only [bnd_ok] at HR
        have C5 := hideIt (fun X (h : RD X R g cap L s4) => need_any [59] (by decide) R g cap L s4 X h)
        (go_at_call_of 91 (Value.string ⟨#[59]⟩); refine Calls.mono (okc h5 (C5.out _ (by repeat with_reducible first | exact D4.out | apply RD.alloc | apply RD.drew | refine RD.setCell ?_ (by (try dsimp only); omega) _))) ?_; rintro e x5 ⟨v5, rfl, rfl, f5, d5⟩; have D5 := hideIt d5; have F5 := hideIt (show Fr R w x5 from Fr.trans (by repeat with_reducible first | exact F4.out | apply Fr.alloc | apply Fr.drew | refine Fr.setNew ?_ (by (try dsimp only); omega) _) f5); have Z5 : x4.heap.size ≤ x5.heap.size := (by have z := f5.size; (try simp at z); omega); have Bp_5 := hideIt (Bx.fr (b := w.heap.size) (v := { v with tk := 1, tn := z }) (s := (.slice none 0 0)) (by repeat first | with_reducible exact Bp_4.out | with_reducible apply Bx.alloc | with_reducible refine Bx.set ?_ (by (try dsimp only); omega) _ | with_reducible apply Bx.drew) (by omega) f5); have yp5 := Bp_5.out.lt; have Br_5 := hideIt (Bx.fr (b := w.heap.size + 1) (v := (nk 0)) (s := (.slice none 0 0)) (by repeat first | with_reducible exact Br_4.out | with_reducible apply Bx.alloc | with_reducible refine Bx.set ?_ (by (try dsimp only); omega) _ | with_reducible apply Bx.drew) (by omega) f5); have yr5 := Br_5.out.lt; clear p0 p1 p2 p3 p4 p5 p6 p7 p8 p9 pf yp4; obtain ⟨p0, p1, p2, p3, p4, p5, p6, p7, p8, p9⟩ := Bp_5.out.ten; have pf := Bp_5.out.free; obtain ⟨r0, r1, r2, r3, r4, r5, r6, r7, r8, r9⟩ := Br_5.out.ten; have rf := Br_5.out.free; clear Bp_4 Br_4; clear C5; clear f5 d5)
        go_wp2_with (fail)
        have ER := HR.out
        subst ER
        have ob3 := count_ok h3 D2.out.p.wf
        refine bodyPost_ret (v := nodeV { v with tk := 1, tn := z } (.slice none 0 0)) (by simp [results, Tryz.results72, go_sem, *]) rfl ⟨(by repeat with_reducible first | exact F5.out | apply Fr.alloc | apply Fr.drew | refine Fr.setNew ?_ (by (try dsimp only); omega) _), _, rfl, ?_, (by repeat with_reducible first | exact D5.out | apply RD.alloc | apply RD.drew | refine RD.setCell ?_ (by (try dsimp only); omega) _)⟩
        exact NV.leaf (nf_tn hv ob3)
    | false =>
     try simp only [Bool.false_eq_true, if_false] at HR
     have C2 := hideIt (fun X (h : RD X R g cap L s1) => try_any [91] (by decide) R g cap L s1 X h)
     (go_at_call_of 64 (Value.string ⟨#[91]⟩); refine Calls.mono (okc h2 (C2.out _ (by repeat with_reducible first | exact D1.out | apply RD.alloc | apply RD.drew | refine RD.setCell ?_ (by (try dsimp only); omega) _))) ?_; rintro e x2 ⟨v2, rfl, rfl, f2, d2⟩; have D2 := hideIt d2; have F2 := hideIt (show Fr R w x2 from Fr.trans (by repeat with_reducible first | exact F1.out | apply Fr.alloc | apply Fr.drew | refine Fr.setNew ?_ (by (try dsimp only); omega) _) f2); have Z2 : x1.heap.size ≤ x2.heap.size := (by have z := f2.size; (try simp at z); omega); have Bp_2 := hideIt (Bx.fr (b := w.heap.size) (v := v) (s := (.slice none 0 0)) (by repeat first | with_reducible exact Bp_1.out | with_reducible apply Bx.alloc | with_reducible refine Bx.set ?_ (by (try dsimp only); omega) _ | with_reducible apply Bx.drew) (by omega) f2); have yp2 := Bp_2.out.lt; have Br_2 := hideIt (Bx.fr (b := w.heap.size + 1) (v := (nk 0)) (s := (.slice none 0 0)) (by repeat first | with_reducible exact Br_1.out | with_reducible apply Bx.alloc | with_reducible refine Bx.set ?_ (by (try dsimp only); omega) _ | with_reducible apply Bx.drew) (by omega) f2); have yr2 := Br_2.out.lt; clear p0 p1 p2 p3 p4 p5 p6 p7 p8 p9 pf yp1; clear ep0 ep1 ep2 ep3 ep4 ep5 ep6 ep7 ep8 ep9; obtain ⟨p0, p1, p2, p3, p4, p5, p6, p7, p8, p9⟩ := Bp_2.out.ten; have pf := Bp_2.out.free; clear Bp_1 Br_1; clear C2; clear f2 d2)
     go_wp2_with (fail)
     cases h3 : tryM [61] s2 with
     | out => rw [h3] at HR; exact absurd HR.out.symm HN.out
     | bad k p =>
      rw [h3] at HR
      have C3 := hideIt (fun X (h : RD X R g cap L s2) => try_any [61] (by decide) R g cap L s2 X h)
      (go_at_call_of 64 (Value.string ⟨#[61]⟩); refine Calls.mono (badc h3 (C3.out _ (by repeat with_reducible first | exact D2.out | apply RD.alloc | apply RD.drew | refine RD.setCell ?_ (by (try dsimp only); omega) _))) ?_; rintro e x3 ⟨rfl, f3⟩; have F3 := hideIt (show Fr R w x3 from Fr.trans (by repeat with_reducible first | exact F2.out | apply Fr.alloc | apply Fr.drew | refine Fr.setNew ?_ (by (try dsimp only); omega) _) f3); clear f3)
      have ER : Rs.bad k p = r := HR.out
      subst ER
      exact ⟨rfl, F3.out, rfl⟩
     | ok b3 s3 =>
      rw [h3] at HR
      try simp only [bnd_ok] at HR
      cases b3 with
      | true =>
       try simp only [if_true] at HR
       have C3 := hideIt (fun X (h : RD X R g cap L s2) => try_any [61] (by decide) R g cap L s2 X h)
       (go_at_call_of 64 (Value.string ⟨#[61]⟩); refine Calls.mono (okc h3 (C3.out _ (by repeat with_reducible first | exact D2.out | apply RD.alloc | apply RD.drew | refine RD.setCell ?_ (by (try dsimp only); omega) _))) ?_; rintro e x3 ⟨v3, rfl, rfl, f3, d3⟩; have D3 := hideIt d3; have F3 := hideIt (show Fr R w x3 from Fr.trans (by repeat with_reducible first | exact F2.out | apply Fr.alloc | apply Fr.drew | refine Fr.setNew ?_ (by (try dsimp only); omega) _) f3); have Z3 : x2.heap.size ≤ x3.heap.size := (by have z := f3.size; (try simp at z); omega); have Bp_3 := hideIt (Bx.fr (b := w.heap.size) (v := v) (s := (.slice none 0 0)) (by repeat first | with_reducible exact Bp_2.out | with_reducible apply Bx.alloc | with_reducible refine Bx.set ?_ (by (try dsimp only); omega) _ | with_reducible apply Bx.drew) (by omega) f3); have yp3 := Bp_3.out.lt; have Br_3 := hideIt (Bx.fr (b := w.heap.size + 1) (v := (nk 0)) (s := (.slice none 0 0)) (by repeat first | with_reducible exact Br_2.out | with_reducible apply Bx.alloc | with_reducible refine Bx.set ?_ (by (try dsimp only); omega) _ | with_reducible apply Bx.drew) (by omega) f3); have yr3 := Br_3.out.lt; clear p0 p1 p2 p3 p4 p5 p6 p7 p8 p9 pf yp2; obtain ⟨p0, p1, p2, p3, p4, p5, p6, p7, p8, p9⟩ := Bp_3.out.ten; have pf := Bp_3.out.free; clear Bp_2 Br_2; clear C3; clear f3 d3)
       go_wp2_with (fail)
       cases h4 : rd n .expression s3 with
       | out => rw [h4] at HR; exact absurd HR.out.symm HN.out
       | bad k p =>
        rw [h4] at HR
        have C4 := hideIt (fun X (h : RD X R g cap L s3) => (HF s3 (by rw [h4]; exact fun e => by cases e)) X h)
        (go_at_call 114; refine Calls.mono (badc h4 (C4.out _ (by repeat with_reducible first | exact D3.out | apply RD.alloc | apply RD.drew | refine RD.setCell ?_ (by (try dsimp only); omega) _))) ?_; rintro e x4 ⟨rfl, f4⟩; have F4 := hideIt (show Fr R w x4 from Fr.trans (by repeat with_reducible first | exact F3.out | apply Fr.alloc | apply Fr.drew | refine Fr.setNew ?_ (by (try dsimp only); omega) _) f4); clear f4)
        have ER : Rs.bad k p = r := HR.out
        subst ER
        exact ⟨rfl, F4.out, rfl⟩
       | ok x s4 =>
        rw [h4] at HR
        try simp only [bnd_ok] at HR
        have C4 := hideIt (fun X (h : RD X R g cap L s3) => (HF s3 (by rw [h4]; exact fun e => by cases e)) X h)
        (go_at_call 114; refine Calls.mono (okc h4 (C4.out _ (by repeat with_reducible first | exact D3.out | apply RD.alloc | apply RD.drew | refine RD.setCell ?_ (by (try dsimp only); omega) _))) ?_; rintro e x4 ⟨v4, rfl, hv4, f4, d4⟩; have D4 := hideIt d4; have F4 := hideIt (show Fr R w x4 from Fr.trans (by repeat with_reducible first | exact F3.out | apply Fr.alloc | apply Fr.drew | refine Fr.setNew ?_ (by (try dsimp only); omega) _) f4); have Z4 : x3.heap.size ≤ x4.heap.size := (by have z := f4.size; (try simp at z); omega); obtain ⟨a4, c4, g4, rfl, cp4, sk4, l4, ok4⟩ := hv4.out; have Lx_4 := hideIt (Ls.mono (B' := x3.heap.size) l4 (by (try simp); try omega) (Nat.le_refl _)); have Kx := hideIt (And.intro cp4 (And.intro sk4 ok4)); clear hv4 l4 cp4 sk4 ok4; have Bp_4 := hideIt (Bx.fr (b := w.heap.size) (v := v) (s := (.slice none 0 0)) (by repeat first | with_reducible exact Bp_3.out | with_reducible apply Bx.alloc | with_reducible refine Bx.set ?_ (by (try dsimp only); omega) _ | with_reducible apply Bx.drew) (by omega) f4); have yp4 := Bp_4.out.lt; have Br_4 := hideIt (Bx.fr (b := w.heap.size + 1) (v := (nk 0)) (s := (.slice none 0 0)) (by repeat first | with_reducible exact Br_3.out | with_reducible apply Bx.alloc | with_reducible refine Bx.set ?_ (by (try dsimp only); omega) _ | with_reducible apply Bx.drew) (by omega) f4); have yr4 := Br_4.out.lt; clear p0 p1 p2 p3 p4 p5 p6 p7 p8 p9 pf yp3; obtain ⟨p0, p1, p2, p3, p4, p5, p6, p7, p8, p9⟩ := Bp_4.out.ten; have pf := Bp_4.out.free; clear Bp_3 Br_3; clear C4; clear f4 d4)
        go_wp2_with (fail)
        cases h5 : needM [59] s4 with
        | out => rw [h5] at HR; exact absurd HR.out.symm HN.out
        | bad k p =>
         rw [h5] at HR
         have C5 := hideIt (fun X (h : RD X R g cap L s4) => need_any [59] (by decide) R g cap L s4 X h)
         (go_at_call_of 91 (Value.string ⟨#[59]⟩); refine Calls.mono (badc h5 (C5.out _ (by repeat with_reducible first | exact D4.out | apply RD.alloc | apply RD.drew | refine RD.setCell ?_ (by (try dsimp only); omega) _))) ?_; rintro e x5 ⟨rfl, f5⟩; have F5 := hideIt (show Fr R w x5 from Fr.trans (by repeat with_reducible first | exact F4.out | apply Fr.alloc | apply Fr.drew | refine Fr.setNew ?_ (by (try dsimp only); omega) _) f5); clear f5)
         have ER : Rs.bad k p = r := HR.out
         subst ER
         exact ⟨rfl, F5.out, rfl⟩
        | ok u5 s5 =>
         rw [h5] at HR
         try simp only [bnd_ok] at HR
         have C5 := hideIt (fun X (h : RD X R g cap L s4) => need_any [59] (by decide) R g cap L s4 X h)
         (go_at_call_of 91 (Value.string ⟨#[59]⟩); refine Calls.mono (okc h5 (C5.out _ (by repeat with_reducible first | exact D4.out | apply RD.alloc | apply RD.drew | refine RD.setCell ?_ (by (try dsimp only); omega) _))) ?_; rintro e x5 ⟨v5, rfl, rfl, f5, d5⟩; have D5 := hideIt d5; have F5 := hideIt (show Fr R w x5 from Fr.trans (by repeat with_reducible first | exact F4.out | apply Fr.alloc | apply Fr.drew | refine Fr.setNew ?_ (by (try dsimp only); omega) _) f5); have Z5 : x4.heap.size + 1 ≤ x5.heap.size := (by have z := f5.size; (try simp at z); omega); have Lx_5 := hideIt (Ls.fr (B := x3.heap.size) (U := x4.heap.size) (a := a4) (f := g4) (by repeat with_reducible first | exact Lx_4.out | apply Ls.alloc | apply Ls.drew | refine Ls.set ?_ (by (try dsimp only); omega) _) (by omega) f5); have Lk_5 := hideIt (Ls.fr (B := w.heap.size + 2) (U := x4.heap.size + 1) (a := (some ⟨x4.heap.size, 0, none⟩)) (f := (.cons x.1 a4 c4 g4 .nil)) (Ls.one (B := x3.heap.size) (U := x4.heap.size) (B' := w.heap.size + 2) (by repeat with_reducible first | exact Lx_4.out | apply Ls.alloc | apply Ls.drew | refine Ls.set ?_ (by (try dsimp only); omega) _) Kx.out.2.2 Kx.out.2.1 (by (try simp) <;> (try omega)) (by first | (simp; done) | rfl) (by omega) (by (try simp) <;> (try omega))) (by omega) f5); have Bp_5 := hideIt (Bx.fr (b := w.heap.size) (v := v) (s := (.slice (some ⟨x4.heap.size, 0, none⟩) 1 1)) (by repeat first | exact (Bx.put Bp_4.out 9 _ rfl) | with_reducible apply Bx.alloc | with_reducible refine Bx.set ?_ (by (try dsimp only); omega) _ | with_reducible apply Bx.drew) (by omega) f5); have yp5 := Bp_5.out.lt; have Br_5 := hideIt (Bx.fr (b := w.heap.size + 1) (v := (nk 0)) (s := (.slice none 0 0)) (by repeat first | with_reducible exact Br_4.out | with_reducible apply Bx.alloc | with_reducible refine Bx.set ?_ (by (try dsimp only); omega) _ | with_reducible apply Bx.drew) (by omega) f5); have yr5 := Br_5.out.lt; clear p0 p1 p2 p3 p4 p5 p6 p7 p8 p9 pf yp4; obtain ⟨p0, p1, p2, p3, p4, p5, p6, p7, p8, p9⟩ := Bp_5.out.ten; have pf := Bp_5.out.free; obtain ⟨r0, r1, r2, r3, r4, r5, r6, r7, r8, r9⟩ := Br_5.out.ten; have rf := Br_5.out.free; clear Lx_4 Bp_4 Br_4; clear C5; clear f5 d5)
         go_wp2_with (fail)
         have ER := HR.out
         subst ER
         refine bodyPost_ret (v := nodeV v (.slice (some ⟨x4.heap.size, 0, none⟩) 1 1)) (by simp [results, Tryz.results72, go_sem, *]) rfl ⟨(by repeat with_reducible first | exact F5.out | apply Fr.alloc | apply Fr.drew | refine Fr.setNew ?_ (by (try dsimp only); omega) _), _, rfl, ?_, (by repeat with_reducible first | exact D5.out | apply RD.alloc | apply RD.drew | refine RD.setCell ?_ (by (try dsimp only); omega) _)⟩
         exact NV.mk (x := (v, one x)) (B' := w.heap.size + 2) (U := x4.heap.size + 1) (f := .cons x.1 a4 c4 g4 .nil) ⟨rfl, Kx.out.1, trivial⟩ sok1 (by repeat with_reducible first | exact Lk_5.out | apply Ls.alloc | apply Ls.drew | refine Ls.set ?_ (by (try dsimp only); omega) _) (by omega) hv
      | false =>
       try simp only [Bool.false_eq_true, if_false] at HR
       have C3 := hideIt (fun X (h : RD X R g cap L s2) => try_any [61] (by decide) R g cap L s2 X h)
       (go_at_call_of 64 (Value.string ⟨#[61]⟩); refine Calls.mono (okc h3 (C3.out _ (by repeat with_reducible first | exact D2.out | apply RD.alloc | apply RD.drew | refine RD.setCell ?_ (by (try dsimp only); omega) _))) ?_; rintro e x3 ⟨v3, rfl, rfl, f3, d3⟩; have D3 := hideIt d3; have F3 := hideIt (show Fr R w x3 from Fr.trans (by repeat with_reducible first | exact F2.out | apply Fr.alloc | apply Fr.drew | refine Fr.setNew ?_ (by (try dsimp only); omega) _) f3); have Z3 : x2.heap.size ≤ x3.heap.size := (by have z := f3.size; (try simp at z); omega); have Bp_3 := hideIt (Bx.fr (b := w.heap.size) (v := v) (s := (.slice none 0 0)) (by repeat first | with_reducible exact Bp_2.out | with_reducible apply Bx.alloc | with_reducible refine Bx.set ?_ (by (try dsimp only); omega) _ | with_reducible apply Bx.drew) (by omega) f3); have yp3 := Bp_3.out.lt; have Br_3 := hideIt (Bx.fr (b := w.heap.size + 1) (v := (nk 0)) (s := (.slice none 0 0)) (by repeat first | with_reducible exact Br_2.out | with_reducible apply Bx.alloc | with_reducible refine Bx.set ?_ (by (try dsimp only); omega) _ | with_reducible apply Bx.drew) (by omega) f3); have yr3 := Br_3.out.lt; clear p0 p1 p2 p3 p4 p5 p6 p7 p8 p9 pf yp2; obtain ⟨p0, p1, p2, p3, p4, p5, p6, p7, p8, p9⟩ := Bp_3.out.ten; have pf := Bp_3.out.free; clear Bp_2 Br_2; clear C3; clear f3 d3)
       go_wp2_with (fail)
       cases h4 : needM [59] s3 with
       | out => rw [h4] at HR; exact absurd HR.out.symm HN.out
       | bad k p =>
        rw [h4] at HR
        have C4 := hideIt (fun X (h : RD X R g cap L s3) => need_any [59] (by decide) R g cap L s3 X h)
        (go_at_call_of 91 (Value.string ⟨#[59]⟩); refine Calls.mono (badc h4 (C4.out _ (by repeat with_reducible first | exact D3.out | apply RD.alloc | apply RD.drew | refine RD.setCell ?_ (by (try dsimp only); omega) _))) ?_; rintro e x4 ⟨rfl, f4⟩; have F4 := hideIt (show Fr R w x4 from Fr.trans (by repeat with_reducible first | exact F3.out | apply Fr.alloc | apply Fr.drew | refine Fr.setNew ?_ (by (try dsimp only); omega) _) f4); clear f4)
        have ER : Rs.bad k p = r := HR.out
        subst ER
        exact ⟨rfl, F4.out, rfl⟩
       | ok u4 s4 =>
        rw [h4] at HR
        try simp only [bnd_ok] at HR
        have C4 := hideIt (fun X (h : RD X R g cap L s3) => need_any [59] (by decide) R g cap L s3 X h)
        (go_at_call_of 91 (Value.string ⟨#[59]⟩); refine Calls.mono (okc h4 (C4.out _ (by repeat with_reducible first | exact D3.out | apply RD.alloc | apply RD.drew | refine RD.setCell ?_ (by (try dsimp only); omega) _))) ?_; rintro e x4 ⟨v4, rfl, rfl, f4, d4⟩; have D4 := hideIt d4; have F4 := hideIt (show Fr R w x4 from Fr.trans (by repeat with_reducible first | exact F3.out | apply Fr.alloc | apply Fr.drew | refine Fr.setNew ?_ (by (try dsimp only); omega) _) f4); have Z4 : x3.heap.size ≤ x4.heap.size := (by have z := f4.size; (try simp at z); omega); have Bp_4 := hideIt (Bx.fr (b := w.heap.size) (v := v) (s := (.slice none 0 0)) (by repeat first | with_reducible exact Bp_3.out | with_reducible apply Bx.alloc | with_reducible refine Bx.set ?_ (by (try dsimp only); omega) _ | with_reducible apply Bx.drew) (by omega) f4); have yp4 := Bp_4.out.lt; have Br_4 := hideIt (Bx.fr (b := w.heap.size + 1) (v := (nk 0)) (s := (.slice none 0 0)) (by repeat first | with_reducible exact Br_3.out | with_reducible apply Bx.alloc | with_reducible refine Bx.set ?_ (by (try dsimp only); omega) _ | with_reducible apply Bx.drew) (by omega) f4); have yr4 := Br_4.out.lt; clear p0 p1 p2 p3 p4 p5 p6 p7 p8 p9 pf yp3; obtain ⟨p0, p1, p2, p3, p4, p5, p6, p7, p8, p9⟩ := Bp_4.out.ten; have pf := Bp_4.out.free; obtain ⟨r0, r1, r2, r3, r4, r5, r6, r7, r8, r9⟩ := Br_4.out.ten; have rf := Br_4.out.free; clear Bp_3 Br_3; clear C4; clear f4 d4)
        go_wp2_with (fail)
        have ER := HR.out
        subst ER
        refine bodyPost_ret (v := nodeV v (.slice none 0 0)) (by simp [results, Tryz.results72, go_sem, *]) rfl ⟨(by repeat with_reducible first | exact F4.out | apply Fr.alloc | apply Fr.drew | refine Fr.setNew ?_ (by (try dsimp only); omega) _), _, rfl, ?_, (by repeat with_reducible first | exact D4.out | apply RD.alloc | apply RD.drew | refine RD.setCell ?_ (by (try dsimp only); omega) _)⟩
        exact NV.leaf hv

end Go.Proofs.YtoilhcklflmamaaGreatDoor

namespace Go.Proofs.YtoilhcklflmamaaGreatDoor
open Go.RowKit
open Pr
set_option linter.unusedVariables false

set_option maxRecDepth 100000 in
set_option maxHeartbeats 4000000 in
theorem variable_rd_l (R g cap : Nat) (L : List Tok) (n : Nat) (HF : ∀ s, rd n .literal s ≠ .out → Rule 73 #[] R g cap L s (rd n .literal s)) (v : NF) (hv : v.ok) (s : St) (hno : rd (n + 1) (.variable v false) s ≠ .out) :
    Rule 72 #[nodeV v (.slice none 0 0), .func (.func 73) #[rp R] #[]] R g cap L s (rd (n + 1) (.variable v false) s) := by
  intro w h
  have e : rd (n + 1) (.variable v false) s = (nodeM s).bnd fun _ s => (tryM [91] s).bnd fun b s => if b then (countM s).bnd fun k s => (needM [93] s).bnd fun _ s => (needM [59] s).bnd fun _ s => .ok ({ v with tk := 1, tn := k }, .nil) s else (tryM [61] s).bnd fun b s => if b then (rd n .literal s).bnd fun x s => (needM [59] s).bnd fun _ s => .ok (v, one x) s else (needM [59] s).bnd fun _ s => .ok (v, .nil) s := rfl
  rw [e] at hno ⊢
  clear e
  have HD := hideIt h
  have hR := h.b.lt_size
  clear h
  obtain ⟨r, hr⟩ : ∃ r, ((nodeM s).bnd fun _ s => (tryM [91] s).bnd fun b s => if b then (countM s).bnd fun k s => (needM [93] s).bnd fun _ s => (needM [59] s).bnd fun _ s => .ok ({ v with tk := 1, tn := k }, .nil) s else (tryM [61] s).bnd fun b s => if b then (rd n .literal s).bnd fun x s => (needM [59] s).bnd fun _ s => .ok (v, one x) s else (needM [59] s).bnd fun _ s => .ok (v, .nil) s : Rs Nd) = r := ⟨_, rfl⟩
  rw [hr] at hno ⊢
  have HR := hideIt hr
  have HN := hideIt hno
  clear hr hno
  go_enter Tryz.func72, Tryz.ntmps72
  go_wp2_with (fail)
  cases h1 : nodeM s with
  | out => rw [h1] at HR; exact absurd HR.out.symm HN.out
  | bad k p =>
   rw [h1] at HR
   have C1 := hideIt (fun X (h : RD X R g cap L s) => node_rd R g cap L s X h v none 0 0)
   (go_at_call 31; refine Calls.mono (badc h1 (C1.out _ (by repeat with_reducible first | exact HD.out | apply RD.alloc | apply RD.drew | refine RD.setCell ?_ (by (try dsimp only); omega) _))) ?_; rintro e x1 ⟨rfl, f1⟩; have F1 := hideIt (show Fr R w x1 from Fr.trans (by repeat with_reducible first | exact (Fr.refl R w) | apply Fr.alloc | apply Fr.drew | refine Fr.setNew ?_ (by (try dsimp only); omega) _) f1); clear f1)
   have ER : Rs.bad k p = r := HR.out
   subst ER
   exact ⟨rfl, F1.out, rfl⟩
  | ok u1 s1 =>
   rw [h1] at HR
   try simp only [bnd_ok] at HR
   have C1 := hideIt (fun X (h : RD X R g cap L s) => node_rd R g cap L s X h v none 0 0)
   (go_at_call 31; refine Calls.mono (okc h1 (C1.out _ (by repeat with_reducible first | exact HD.out | apply RD.alloc | apply RD.drew | refine RD.setCell ?_ (by (try dsimp only); omega) _))) ?_; rintro e x1 ⟨v1, rfl, rfl, f1, d1⟩; have D1 := hideIt d1; have F1 := hideIt (show Fr R w x1 from Fr.trans (by repeat with_reducible first | exact (Fr.refl R w) | apply Fr.alloc | apply Fr.drew | refine Fr.setNew ?_ (by (try dsimp only); omega) _) f1); have Z1 : w.heap.size + 2 ≤ x1.heap.size := (by have z := f1.size; (try simp at z); omega); have Bp_1 := hideIt (Bx.fr (b := w.heap.size) (v := v) (s := (.slice none 0 0)) (by repeat first | refine Bx.newAt _ v (.slice none 0 0) (by simp; done) | with_reducible apply Bx.alloc | with_reducible refine Bx.set ?_ (by (try dsimp only); omega) _ | with_reducible apply Bx.drew) (by omega) f1); have yp1 := Bp_1.out.lt; have Br_1 := hideIt (Bx.fr (b := w.heap.size + 1) (v := (nk 0)) (s := (.slice none 0 0)) (by repeat first | refine Bx.newAt _ (nk 0) (.slice none 0 0) (by simp; done) | with_reducible apply Bx.alloc | with_reducible refine Bx.set ?_ (by (try dsimp only); omega) _ | with_reducible apply Bx.drew) (by omega) f1); have yr1 := Br_1.out.lt; obtain ⟨p0, p1, p2, p3, p4, p5, p6, p7, p8, p9⟩ := Bp_1.out.ten; have pf := Bp_1.out.free; have ep0 := Bp_1.out.same 0 _ rfl; have ep1 := Bp_1.out.same 1 _ rfl; have ep2 := Bp_1.out.same 2 _ rfl; have ep3 := Bp_1.out.same 3 _ rfl; have ep4 := Bp_1.out.same 4 _ rfl; have ep5 := Bp_1.out.same 5 _ rfl; have ep6 := Bp_1.out.same 6 _ rfl; have ep7 := Bp_1.out.same 7 _ rfl; have ep8 := Bp_1.out.same 8 _ rfl; have ep9 := Bp_1.out.same 9 _ rfl; clear C1; clear f1 d1)
   go_wp2_with (fail)
   cases h2 : tryM [91] s1 with
   | out => rw [h2] at HR; exact absurd HR.out.symm HN.out
   | bad k p =>
    rw [h2] at HR
    have C2 := hideIt (fun X (h : RD X R g cap L s1) => try_any [91] (by decide) R g cap L s1 X h)
    (go_at_call_of 64 (Value.string ⟨#[91]⟩); refine Calls.mono (badc h2 (C2.out _ (by repeat with_reducible first | exact D1.out | apply RD.alloc | apply RD.drew | refine RD.setCell ?_ (by (try dsimp only); omega) _))) ?_; rintro e x2 ⟨rfl, f2⟩; have F2 := hideIt (show Fr R w x2 from Fr.trans (by repeat with_reducible first | exact F1.out | apply Fr.alloc | apply Fr.drew | refine Fr.setNew ?_ (by (try dsimp only); omega) _) f2); clear f2)
    have ER : Rs.bad k p = r := HR.out
    subst ER
    exact ⟨rfl, F2.out, rfl⟩
   | ok b2 s2 =>
    rw [h2] at HR
    try simp only [bnd_ok] at HR
    cases b2 with
    | true =>
     try simp only [if_true] at HR
     have C2 := hideIt (fun X (h : RD X R g cap L s1) => try_any [91] (by decide) R g cap L s1 X h)
     (go_at_call_of 64 (Value.string ⟨#[91]⟩); refine Calls.mono (okc h2 (C2.out _ (by repeat with_reducible first | exact D1.out | apply RD.alloc | apply RD.drew | refine RD.setCell ?_ (by (try dsimp only); omega) _))) ?_; rintro e x2 ⟨v2, rfl, rfl, f2, d2⟩; have D2 := hideIt d2; have F2 := hideIt (show Fr R w x2 from Fr.trans (by repeat with_reducible first | exact F1.out | apply Fr.alloc | apply Fr.drew | refine Fr.setNew ?_ (by (try dsimp only); omega) _) f2); have Z2 : x1.heap.size ≤ x2.heap.size := (by have z := f2.size; (try simp at z); omega); have Bp_2 := hideIt (Bx.fr (b := w.heap.size) (v := v) (s := (.slice none 0 0)) (by repeat first | with_reducible exact Bp_1.out | with_reducible apply Bx.alloc | with_reducible refine Bx.set ?_ (by (try dsimp only); omega) _ | with_reducible apply Bx.drew) (by omega) f2); have yp2 := Bp_2.out.lt; have Br_2 := hideIt (Bx.fr (b := w.heap.size + 1) (v := (nk 0)) (s := (.slice none 0 0)) (by repeat first | with_reducible exact Br_1.out | with_reducible apply Bx.alloc | with_reducible refine Bx.set ?_ (by (try dsimp only); omega) _ | with_reducible apply Bx.drew) (by omega) f2); have yr2 := Br_2.out.lt; clear p0 p1 p2 p3 p4 p5 p6 p7 p8 p9 pf yp1; clear ep0 ep1 ep2 ep3 ep4 ep5 ep6 ep7 ep8 ep9; obtain ⟨p0, p1, p2, p3, p4, p5, p6, p7, p8, p9⟩ := Bp_2.out.ten; have pf := Bp_2.out.free; clear Bp_1 Br_1; clear C2; clear f2 d2)
     go_wp2_with (fail)
     cases h3 : countM s2 with
     | out => rw [h3] at HR; exact absurd HR.out.symm HN.out
     | bad k p =>
      rw [h3] at HR
      have C3 := hideIt (fun X (h : RD X R g cap L s2) => count_rd R g cap L s2 X h)
      (go_at_call 95; refine Calls.mono (badc h3 (C3.out _ (by repeat with_reducible first | exact D2.out | apply RD.alloc | apply RD.drew | refine RD.setCell ?_ (by (try dsimp only); omega) _))) ?_; rintro e x3 ⟨rfl, f3⟩; have F3 := hideIt (show Fr R w x3 from Fr.trans (by repeat with_reducible first | exact F2.out | apply Fr.alloc | apply Fr.drew | refine Fr.setNew ?_ (by (try dsimp only); omega) _) f3); clear f3)
      have ER : Rs.bad k p = r := HR.out
      subst ER
      exact ⟨rfl, F3.out, rfl⟩
     | ok z s3 =>
      rw [h3] at HR
      try simp only [bnd_ok] at HR
      have C3 := hideIt (fun X (h : RD X R g cap L s2) => count_rd R g cap L s2 X h)
      (go_at_call 95; refine Calls.mono (okc h3 (C3.out _ (by repeat with_reducible first | exact D2.out | apply RD.alloc | apply RD.drew | refine RD.setCell ?_ (by (try dsimp only); omega) _))) ?_; rintro e x3 ⟨v3, rfl, rfl, f3, d3⟩; have D3 := hideIt d3; have F3 := hideIt (show Fr R w x3 from Fr.trans (by repeat with_reducible first | exact F2.out | apply Fr.alloc | apply Fr.drew | refine Fr.setNew ?_ (by (try dsimp only); omega) _) f3); have Z3 : x2.heap.size ≤ x3.heap.size := (by have z := f3.size; (try simp at z); omega); have Bp_3 := hideIt (Bx.fr (b := w.heap.size) (v := { v with tk := 1 }) (s := (.slice none 0 0)) (by repeat first | exact (Bx.put Bp_2.out 2 _ rfl) | with_reducible apply Bx.alloc | with_reducible refine Bx.set ?_ (by (try dsimp only); omega) _ | with_reducible apply Bx.drew) (by omega) f3); have yp3 := Bp_3.out.lt; have Br_3 := hideIt (Bx.fr (b := w.heap.size + 1) (v := (nk 0)) (s := (.slice none 0 0)) (by repeat first | with_reducible exact Br_2.out | with_reducible apply Bx.alloc | with_reducible refine Bx.set ?_ (by (try dsimp only); omega) _ | with_reducible apply Bx.drew) (by omega) f3); have yr3 := Br_3.out.lt; clear p0 p1 p2 p3 p4 p5 p6 p7 p8 p9 pf yp2; obtain ⟨p0, p1, p2, p3, p4, p5, p6, p7, p8, p9⟩ := Bp_3.out.ten; have pf := Bp_3.out.free; clear Bp_2 Br_2; clear C3; clear f3 d3)
      go_wp2_with (fail)
      cases h4 : needM [93] s3 with
      | out => rw [h4] at HR; exact absurd HR.out.symm HN.out
      | bad k p =>
       rw [h4] at HR
       have C4 := hideIt (fun X (h : RD X R g cap L s3) => need_any [93] (by decide) R g cap L s3 X h)
       (go_at_call_of 91 (Value.string ⟨#[93]⟩); refine Calls.mono (badc h4 (C4.out _ (by repeat with_reducible first | exact D3.out | apply RD.alloc | apply RD.drew | refine RD.setCell ?_ (by (try dsimp only); omega) _))) ?_; rintro e x4 ⟨rfl, f4⟩; have F4 := hideIt (show Fr R w x4 from Fr.trans (by repeat with_reducible first | exact F3.out | apply Fr.alloc | apply Fr.drew | refine Fr.setNew ?_ (by (try dsimp only); omega) _) f4); clear f4)
       have ER : Rs.bad k p = r := HR.out
       subst ER
       exact ⟨rfl, F4.out, rfl⟩
      | ok u4 s4 =>
       rw [h4] at HR
       try simp only [bnd_ok] at HR
       have C4 := hideIt (fun X (h : RD X R g cap L s3) => need_any [93] (by decide) R g cap L s3 X h)
       (go_at_call_of 91 (Value.string ⟨#[93]⟩); refine Calls.mono (okc h4 (C4.out _ (by repeat with_reducible first | exact D3.out | apply RD.alloc | apply RD.drew | refine RD.setCell ?_ (by (try dsimp only); omega) _))) ?_; rintro e x4 ⟨v4, rfl, rfl, f4, d4⟩; have D4 := hideIt d4; have F4 := hideIt (show Fr R w x4 from Fr.trans (by repeat with_reducible first | exact F3.out | apply Fr.alloc | apply Fr.drew | refine Fr.setNew ?_ (by (try dsimp only); omega) _) f4); have Z4 : x3.heap.size ≤ x4.heap.size := (by have z := f4.size; (try simp at z); omega); have Bp_4 := hideIt (Bx.fr (b := w.heap.size) (v := { v with tk := 1, tn := z }) (s := (.slice none 0 0)) (by repeat first | exact (Bx.put Bp_3.out 4 _ rfl) | with_reducible apply Bx.alloc | with_reducible refine Bx.set ?_ (by (try dsimp only); omega) _ | with_reducible apply Bx.drew) (by omega) f4); have yp4 := Bp_4.out.lt; have Br_4 := hideIt (Bx.fr (b := w.heap.size + 1) (v := (nk 0)) (s := (.slice none 0 0)) (by repeat first | with_reducible exact Br_3.out | with_reducible apply Bx.alloc | with_reducible refine Bx.set ?_ (by (try dsimp only); omega) _ | with_reducible apply Bx.drew) (by omega) f4); have yr4 := Br_4.out.lt; clear p0 p1 p2 p3 p4 p5 p6 p7 p8 p9 pf yp3; obtain ⟨p0, p1, p2, p3, p4, p5, p6, p7, p8, p9⟩ := Bp_4.out.ten; have pf := Bp_4.out.free; clear Bp_3 Br_3; clear C4; clear f4 d4)
       go_wp2_with (fail)
       cases h5 : needM [59] s4 with
       | out => rw [h5] at HR; exact absurd HR.out.symm HN.out
       | bad k p =>
        rw [h5] at HR
        have C5 := hideIt (fun X (h : RD X R g cap L s4) => need_any [59] (by decide) R g cap L s4 X h)
        (go_at_call_of 91 (Value.string ⟨#[59]⟩); refine Calls.mono (badc h5 (C5.out _ (by repeat with_reducible first | exact D4.out | apply RD.alloc | apply RD.drew | refine RD.setCell ?_ (by (try dsimp only); omega) _))) ?_; rintro e x5 ⟨rfl, f5⟩; have F5 := hideIt (show Fr R w x5 from Fr.trans (by repeat with_reducible first | exact F4.out | apply Fr.alloc | apply Fr.drew | refine Fr.setNew ?_ (by (try dsimp only); omega) _) f5); clear f5)
        have ER : Rs.bad k p = r := HR.out
        subst ER
        exact ⟨rfl, F5.out, rfl⟩
       | ok u5 s5 =>
        rw [h5] at HR
        try simp only [bnd_ok] at HR
        have C5 := hideIt (fun X (h : RD X R g cap L s4) => need_any [59] (by decide) R g cap L s4 X h)
        (go_at_call_of 91 (Value.string ⟨#[59]⟩); refine Calls.mono (okc h5 (C5.out _ (by repeat with_reducible first | exact D4.out | apply RD.alloc | apply RD.drew | refine RD.setCell ?_ (by (try dsimp only); omega) _))) ?_; rintro e x5 ⟨v5, rfl, rfl, f5, d5⟩; have D5 := hideIt d5; have F5 := hideIt (show Fr R w x5 from Fr.trans (by repeat with_reducible first | exact F4.out | apply Fr.alloc | apply Fr.drew | refine Fr.setNew ?_ (by (try dsimp only); omega) _) f5); have Z5 : x4.heap.size ≤ x5.heap.size := (by have z := f5.size; (try simp at z); omega); have Bp_5 := hideIt (Bx.fr (b := w.heap.size) (v := { v with tk := 1, tn := z }) (s := (.slice none 0 0)) (by repeat first | with_reducible exact Bp_4.out | with_reducible apply Bx.alloc | with_reducible refine Bx.set ?_ (by (try dsimp only); omega) _ | with_reducible apply Bx.drew) (by omega) f5); have yp5 := Bp_5.out.lt; have Br_5 := hideIt (Bx.fr (b := w.heap.size + 1) (v := (nk 0)) (s := (.slice none 0 0)) (by repeat first | with_reducible exact Br_4.out | with_reducible apply Bx.alloc | with_reducible refine Bx.set ?_ (by (try dsimp only); omega) _ | with_reducible apply Bx.drew) (by omega) f5); have yr5 := Br_5.out.lt; clear p0 p1 p2 p3 p4 p5 p6 p7 p8 p9 pf yp4; obtain ⟨p0, p1, p2, p3, p4, p5, p6, p7, p8, p9⟩ := Bp_5.out.ten; have pf := Bp_5.out.free; obtain ⟨r0, r1, r2, r3, r4, r5, r6, r7, r8, r9⟩ := Br_5.out.ten; have rf := Br_5.out.free; clear Bp_4 Br_4; clear C5; clear f5 d5)
        go_wp2_with (fail)
        have ER := HR.out
        subst ER
        have ob3 := count_ok h3 D2.out.p.wf
        refine bodyPost_ret (v := nodeV { v with tk := 1, tn := z } (.slice none 0 0)) (by simp [results, Tryz.results72, go_sem, *]) rfl ⟨(by repeat with_reducible first | exact F5.out | apply Fr.alloc | apply Fr.drew | refine Fr.setNew ?_ (by (try dsimp only); omega) _), _, rfl, ?_, (by repeat with_reducible first | exact D5.out | apply RD.alloc | apply RD.drew | refine RD.setCell ?_ (by (try dsimp only); omega) _)⟩
        exact NV.leaf (nf_tn hv ob3)
    | false =>
     try simp only [Bool.false_eq_true, if_false] at HR
     have C2 := hideIt (fun X (h : RD X R g cap L s1) => try_any [91] (by decide) R g cap L s1 X h)
     (go_at_call_of 64 (Value.string ⟨#[91]⟩); refine Calls.mono (okc h2 (C2.out _ (by repeat with_reducible first | exact D1.out | apply RD.alloc | apply RD.drew | refine RD.setCell ?_ (by (try dsimp only); omega) _))) ?_; rintro e x2 ⟨v2, rfl, rfl, f2, d2⟩; have D2 := hideIt d2; have F2 := hideIt (show Fr R w x2 from Fr.trans (by repeat with_reducible first | exact F1.out | apply Fr.alloc | apply Fr.drew | refine Fr.setNew ?_ (by (try dsimp only); omega) _) f2); have Z2 : x1.heap.size ≤ x2.heap.size := (by have z := f2.size; (try simp at z); omega); have Bp_2 := hideIt (Bx.fr (b := w.heap.size) (v := v) (s := (.slice none 0 0)) (by repeat first | with_reducible exact Bp_1.out | with_reducible apply Bx.alloc | with_reducible refine Bx.set ?_ (by (try dsimp only); omega) _ | with_reducible apply Bx.drew) (by omega) f2); have yp2 := Bp_2.out.lt; have Br_2 := hideIt (Bx.fr (b := w.heap.size + 1) (v := (nk 0)) (s := (.slice none 0 0)) (by repeat first | with_reducible exact Br_1.out | with_reducible apply Bx.alloc | with_reducible refine Bx.set ?_ (by (try dsimp only); omega) _ | with_reducible apply Bx.drew) (by omega) f2); have yr2 := Br_2.out.lt; clear p0 p1 p2 p3 p4 p5 p6 p7 p8 p9 pf yp1; clear ep0 ep1 ep2 ep3 ep4 ep5 ep6 ep7 ep8 ep9; obtain ⟨p0, p1, p2, p3, p4, p5, p6, p7, p8, p9⟩ := Bp_2.out.ten; have pf := Bp_2.out.free; clear Bp_1 Br_1; clear C2; clear f2 d2)
     go_wp2_with (fail)
     cases h3 : tryM [61] s2 with
     | out => rw [h3] at HR; exact absurd HR.out.symm HN.out
     | bad k p =>
      rw [h3] at HR
      have C3 := hideIt (fun X (h : RD X R g cap L s2) => try_any [61] (by decide) R g cap L s2 X h)
      (go_at_call_of 64 (Value.string ⟨#[61]⟩); refine Calls.mono (badc h3 (C3.out _ (by repeat with_reducible first | exact D2.out | apply RD.alloc | apply RD.drew | refine RD.setCell ?_ (by (try dsimp only); omega) _))) ?_; rintro e x3 ⟨rfl, f3⟩; have F3 := hideIt (show Fr R w x3 from Fr.trans (by repeat with_reducible first | exact F2.out | apply Fr.alloc | apply Fr.drew | refine Fr.setNew ?_ (by (try dsimp only); omega) _) f3); clear f3)
      have ER : Rs.bad k p = r := HR.out
      subst ER
      exact ⟨rfl, F3.out, rfl⟩
     | ok b3 s3 =>
      rw [h3] at HR
      try simp only [bnd_ok] at HR
      cases b3 with
      | true =>
       try simp only [if_true] at HR
       have C3 := hideIt (fun X (h : RD X R g cap L s2) => try_any [61] (by decide) R g cap L s2 X h)
       (go_at_call_of 64 (Value.string ⟨#[61]⟩); refine Calls.mono (okc h3 (C3.out _ (by repeat with_reducible first | exact D2.out | apply RD.alloc | apply RD.drew | refine RD.setCell ?_ (by (try dsimp only); omega) _))) ?_; rintro e x3 ⟨v3, rfl, rfl, f3, d3⟩; have D3 := hideIt d3; have F3 := hideIt (show Fr R w x3 from Fr.trans (by repeat with_reducible first | exact F2.out | apply Fr.alloc | apply Fr.drew | refine Fr.setNew ?_ (by (try dsimp only); omega) _) f3); have Z3 : x2.heap.size ≤ x3.heap.size := (by have z := f3.size; (try simp at z); omega); have Bp_3 := hideIt (Bx.fr (b := w.heap.size) (v := v) (s := (.slice none 0 0)) (by repeat first | with_reducible exact Bp_2.out | with_reducible apply Bx.alloc | with_reducible refine Bx.set ?_ (by (try dsimp only); omega) _ | with_reducible apply Bx.drew) (by omega) f3); have yp3 := Bp_3.out.lt; have Br_3 := hideIt (Bx.fr (b := w.heap.size + 1) (v := (nk 0)) (s := (.slice none 0 0)) (by repeat first | with_reducible exact Br_2.out | with_reducible apply Bx.alloc | with_reducible refine Bx.set ?_ (by (try dsimp only); omega) _ | with_reducible apply Bx.drew) (by omega) f3); have yr3 := Br_3.out.lt; clear p0 p1 p2 p3 p4 p5 p6 p7 p8 p9 pf yp2; obtain ⟨p0, p1, p2, p3, p4, p5, p6, p7, p8, p9⟩ := Bp_3.out.ten; have pf := Bp_3.out.free; clear Bp_2 Br_2; clear C3; clear f3 d3)
       go_wp2_with (fail)
       cases h4 : rd n .literal s3 with
       | out => rw [h4] at HR; exact absurd HR.out.symm HN.out
       | bad k p =>
        rw [h4] at HR
        have C4 := hideIt (fun X (h : RD X R g cap L s3) => (HF s3 (by rw [h4]; exact fun e => by cases e)) X h)
        (go_at_call 73; refine Calls.mono (badc h4 (C4.out _ (by repeat with_reducible first | exact D3.out | apply RD.alloc | apply RD.drew | refine RD.setCell ?_ (by (try dsimp only); omega) _))) ?_; rintro e x4 ⟨rfl, f4⟩; have F4 := hideIt (show Fr R w x4 from Fr.trans (by repeat with_reducible first | exact F3.out | apply Fr.alloc | apply Fr.drew | refine Fr.setNew ?_ (by (try dsimp only); omega) _) f4); clear f4)
        have ER : Rs.bad k p = r := HR.out
        subst ER
        exact ⟨rfl, F4.out, rfl⟩
       | ok x s4 =>
        rw [h4] at HR
        try simp only [bnd_ok] at HR
        have C4 := hideIt (fun X (h : RD X R g cap L s3) => (HF s3 (by rw [h4]; exact fun e => by cases e)) X h)
        (go_at_call 73; refine Calls.mono (okc h4 (C4.out _ (by repeat with_reducible first | exact D3.out | apply RD.alloc | apply RD.drew | refine RD.setCell ?_ (by (try dsimp only); omega) _))) ?_; rintro e x4 ⟨v4, rfl, hv4, f4, d4⟩; have D4 := hideIt d4; have F4 := hideIt (show Fr R w x4 from Fr.trans (by repeat with_reducible first | exact F3.out | apply Fr.alloc | apply Fr.drew | refine Fr.setNew ?_ (by (try dsimp only); omega) _) f4); have Z4 : x3.heap.size ≤ x4.heap.size := (by have z := f4.size; (try simp at z); omega); obtain ⟨a4, c4, g4, rfl, cp4, sk4, l4, ok4⟩ := hv4.out; have Lx_4 := hideIt (Ls.mono (B' := x3.heap.size) l4 (by (try simp); try omega) (Nat.le_refl _)); have Kx := hideIt (And.intro cp4 (And.intro sk4 ok4)); clear hv4 l4 cp4 sk4 ok4; have Bp_4 := hideIt (Bx.fr (b := w.heap.size) (v := v) (s := (.slice none 0 0)) (by repeat first | with_reducible exact Bp_3.out | with_reducible apply Bx.alloc | with_reducible refine Bx.set ?_ (by (try dsimp only); omega) _ | with_reducible apply Bx.drew) (by omega) f4); have yp4 := Bp_4.out.lt; have Br_4 := hideIt (Bx.fr (b := w.heap.size + 1) (v := (nk 0)) (s := (.slice none 0 0)) (by repeat first | with_reducible exact Br_3.out | with_reducible apply Bx.alloc | with_reducible refine Bx.set ?_ (by (try dsimp only); omega) _ | with_reducible apply Bx.drew) (by omega) f4); have yr4 := Br_4.out.lt; clear p0 p1 p2 p3 p4 p5 p6 p7 p8 p9 pf yp3; obtain ⟨p0, p1, p2, p3, p4, p5, p6, p7, p8, p9⟩ := Bp_4.out.ten; have pf := Bp_4.out.free; clear Bp_3 Br_3; clear C4; clear f4 d4)
        go_wp2_with (fail)
        cases h5 : needM [59] s4 with
        | out => rw [h5] at HR; exact absurd HR.out.symm HN.out
        | bad k p =>
         rw [h5] at HR
         have C5 := hideIt (fun X (h : RD X R g cap L s4) => need_any [59] (by decide) R g cap L s4 X h)
         (go_at_call_of 91 (Value.string ⟨#[59]⟩); refine Calls.mono (badc h5 (C5.out _ (by repeat with_reducible first | exact D4.out | apply RD.alloc | apply RD.drew | refine RD.setCell ?_ (by (try dsimp only); omega) _))) ?_; rintro e x5 ⟨rfl, f5⟩; have F5 := hideIt (show Fr R w x5 from Fr.trans (by repeat with_reducible first | exact F4.out | apply Fr.alloc | apply Fr.drew | refine Fr.setNew ?_ (by (try dsimp only); omega) _) f5); clear f5)
         have ER : Rs.bad k p = r := HR.out
         subst ER
         exact ⟨rfl, F5.out, rfl⟩
        | ok u5 s5 =>
         rw [h5] at HR
         try simp only [bnd_ok] at HR
         have C5 := hideIt (fun X (h : RD X R g cap L s4) => need_any [59] (by decide) R g cap L s4 X h)
         (go_at_call_of 91 (Value.string ⟨#[59]⟩); refine Calls.mono (okc h5 (C5.out _ (by repeat with_reducible first | exact D4.out | apply RD.alloc | apply RD.drew | refine RD.setCell ?_ (by (try dsimp only); omega) _))) ?_; rintro e x5 ⟨v5, rfl, rfl, f5, d5⟩; have D5 := hideIt d5; have F5 := hideIt (show Fr R w x5 from Fr.trans (by repeat with_reducible first | exact F4.out | apply Fr.alloc | apply Fr.drew | refine Fr.setNew ?_ (by (try dsimp only); omega) _) f5); have Z5 : x4.heap.size + 1 ≤ x5.heap.size := (by have z := f5.size; (try simp at z); omega); have Lx_5 := hideIt (Ls.fr (B := x3.heap.size) (U := x4.heap.size) (a := a4) (f := g4) (by repeat with_reducible first | exact Lx_4.out | apply Ls.alloc | apply Ls.drew | refine Ls.set ?_ (by (try dsimp only); omega) _) (by omega) f5); have Lk_5 := hideIt (Ls.fr (B := w.heap.size + 2) (U := x4.heap.size + 1) (a := (some ⟨x4.heap.size, 0, none⟩)) (f := (.cons x.1 a4 c4 g4 .nil)) (Ls.one (B := x3.heap.size) (U := x4.heap.size) (B' := w.heap.size + 2) (by repeat with_reducible first | exact Lx_4.out | apply Ls.alloc | apply Ls.drew | refine Ls.set ?_ (by (try dsimp only); omega) _) Kx.out.2.2 Kx.out.2.1 (by (try simp) <;> (try omega)) (by first | (simp; done) | rfl) (by omega) (by (try simp) <;> (try omega))) (by omega) f5); have Bp_5 := hideIt (Bx.fr (b := w.heap.size) (v := v) (s := (.slice (some ⟨x4.heap.size, 0, none⟩) 1 1)) (by repeat first | exact (Bx.put Bp_4.out 9 _ rfl) | with_reducible apply Bx.alloc | with_reducible refine Bx.set ?_ (by (try dsimp only); omega) _ | with_reducible apply Bx.drew) (by omega) f5); have yp5 := Bp_5.out.lt; have Br_5 := hideIt (Bx.fr (b := w.heap.size + 1) (v := (nk 0)) (s := (.slice none 0 0)) (by repeat first | with_reducible exact Br_4.out | with_reducible apply Bx.alloc | with_reducible refine Bx.set ?_ (by (try dsimp only); omega) _ | with_reducible apply Bx.drew) (by omega) f5); have yr5 := Br_5.out.lt; clear p0 p1 p2 p3 p4 p5 p6 p7 p8 p9 pf yp4; obtain ⟨p0, p1, p2, p3, p4, p5, p6, p7, p8, p9⟩ := Bp_5.out.ten; have pf := Bp_5.out.free; obtain ⟨r0, r1, r2, r3, r4, r5, r6, r7, r8, r9⟩ := Br_5.out.ten; have rf := Br_5.out.free; clear Lx_4 Bp_4 Br_4; clear C5; clear f5 d5)
         go_wp2_with (fail)
         have ER := HR.out
         subst ER
         refine bodyPost_ret (v := nodeV v (.slice (some ⟨x4.heap.size, 0, none⟩) 1 1)) (by simp [results, Tryz.results72, go_sem, *]) rfl ⟨(by repeat with_reducible first | exact F5.out | apply Fr.alloc | apply Fr.drew | refine Fr.setNew ?_ (by (try dsimp only); omega) _), _, rfl, ?_, (by repeat with_reducible first | exact D5.out | apply RD.alloc | apply RD.drew | refine RD.setCell ?_ (by (try dsimp only); omega) _)⟩
         exact NV.mk (x := (v, one x)) (B' := w.heap.size + 2) (U := x4.heap.size + 1) (f := .cons x.1 a4 c4 g4 .nil) ⟨rfl, Kx.out.1, trivial⟩ sok1 (by repeat with_reducible first | exact Lk_5.out | apply Ls.alloc | apply Ls.drew | refine Ls.set ?_ (by (try dsimp only); omega) _) (by omega) hv
      | false =>
       try simp only [Bool.false_eq_true, if_false] at HR
       have C3 := hideIt (fun X (h : RD X R g cap L s2) => try_any [61] (by decide) R g cap L s2 X h)
       (go_at_call_of 64 (Value.string ⟨#[61]⟩); refine Calls.mono (okc h3 (C3.out _ (by repeat with_reducible first | exact D2.out | apply RD.alloc | apply RD.drew | refine RD.setCell ?_ (by (try dsimp only); omega) _))) ?_; rintro e x3 ⟨v3, rfl, rfl, f3, d3⟩; have D3 := hideIt d3; have F3 := hideIt (show Fr R w x3 from Fr.trans (by repeat with_reducible first | exact F2.out | apply Fr.alloc | apply Fr.drew | refine Fr.setNew ?_ (by (try dsimp only); omega) _) f3); have Z3 : x2.heap.size ≤ x3.heap.size := (by have z := f3.size; (try simp at z); omega); have Bp_3 := hideIt (Bx.fr (b := w.heap.size) (v := v) (s := (.slice none 0 0)) (by repeat first | with_reducible exact Bp_2.out | with_reducible apply Bx.alloc | with_reducible refine Bx.set ?_ (by (try dsimp only); omega) _ | with_reducible apply Bx.drew) (by omega) f3); have yp3 := Bp_3.out.lt; have Br_3 := hideIt (Bx.fr (b := w.heap.size + 1) (v := (nk 0)) (s := (.slice none 0 0)) (by repeat first | with_reducible exact Br_2.out | with_reducible apply Bx.alloc | with_reducible refine Bx.set ?_ (by (try dsimp only); omega) _ | with_reducible apply Bx.drew) (by omega) f3); have yr3 := Br_3.out.lt; clear p0 p1 p2 p3 p4 p5 p6 p7 p8 p9 pf yp2; obtain ⟨p0, p1, p2, p3, p4, p5, p6, p7, p8, p9⟩ := Bp_3.out.ten; have pf := Bp_3.out.free; clear Bp_2 Br_2; clear C3; clear f3 d3)
       go_wp2_with (fail)
       cases h4 : needM [59] s3 with
       | out => rw [h4] at HR; exact absurd HR.out.symm HN.out
       | bad k p =>
        rw [h4] at HR
        have C4 := hideIt (fun X (h : RD X R g cap L s3) => need_any [59] (by decide) R g cap L s3 X h)
        (go_at_call_of 91 (Value.string ⟨#[59]⟩); refine Calls.mono (badc h4 (C4.out _ (by repeat with_reducible first | exact D3.out | apply RD.alloc | apply RD.drew | refine RD.setCell ?_ (by (try dsimp only); omega) _))) ?_; rintro e x4 ⟨rfl, f4⟩; have F4 := hideIt (show Fr R w x4 from Fr.trans (by repeat with_reducible first | exact F3.out | apply Fr.alloc | apply Fr.drew | refine Fr.setNew ?_ (by (try dsimp only); omega) _) f4); clear f4)
        have ER : Rs.bad k p = r := HR.out
        subst ER
        exact ⟨rfl, F4.out, rfl⟩
       | ok u4 s4 =>
        rw [h4] at HR
        try simp only [bnd_ok] at HR
        have C4 := hideIt (fun X (h : RD X R g cap L s3) => need_any [59] (by decide) R g cap L s3 X h)
        (go_at_call_of 91 (Value.string ⟨#[59]⟩); refine Calls.mono (okc h4 (C4.out _ (by repeat with_reducible first | exact D3.out | apply RD.alloc | apply RD.drew | refine RD.setCell ?_ (by (try dsimp only); omega) _))) ?_; rintro e x4 ⟨v4, rfl, rfl, f4, d4⟩; have D4 := hideIt d4; have F4 := hideIt (show Fr R w x4 from Fr.trans (by repeat with_reducible first | exact F3.out | apply Fr.alloc | apply Fr.drew | refine Fr.setNew ?_ (by (try dsimp only); omega) _) f4); have Z4 : x3.heap.size ≤ x4.heap.size := (by have z := f4.size; (try simp at z); omega); have Bp_4 := hideIt (Bx.fr (b := w.heap.size) (v := v) (s := (.slice none 0 0)) (by repeat first | with_reducible exact Bp_3.out | with_reducible apply Bx.alloc | with_reducible refine Bx.set ?_ (by (try dsimp only); omega) _ | with_reducible apply Bx.drew) (by omega) f4); have yp4 := Bp_4.out.lt; have Br_4 := hideIt (Bx.fr (b := w.heap.size + 1) (v := (nk 0)) (s := (.slice none 0 0)) (by repeat first | with_reducible exact Br_3.out | with_reducible apply Bx.alloc | with_reducible refine Bx.set ?_ (by (try dsimp only); omega) _ | with_reducible apply Bx.drew) (by omega) f4); have yr4 := Br_4.out.lt; clear p0 p1 p2 p3 p4 p5 p6 p7 p8 p9 pf yp3; obtain ⟨p0, p1, p2, p3, p4, p5, p6, p7, p8, p9⟩ := Bp_4.out.ten; have pf := Bp_4.out.free; obtain ⟨r0, r1, r2, r3, r4, r5, r6, r7, r8, r9⟩ := Br_4.out.ten; have rf := Br_4.out.free; clear Bp_3 Br_3; clear C4; clear f4 d4)
        go_wp2_with (fail)
        have ER := HR.out
        subst ER
        refine bodyPost_ret (v := nodeV v (.slice none 0 0)) (by simp [results, Tryz.results72, go_sem, *]) rfl ⟨(by repeat with_reducible first | exact F4.out | apply Fr.alloc | apply Fr.drew | refine Fr.setNew ?_ (by (try dsimp only); omega) _), _, rfl, ?_, (by repeat with_reducible first | exact D4.out | apply RD.alloc | apply RD.drew | refine RD.setCell ?_ (by (try dsimp only); omega) _)⟩
        exact NV.leaf hv

end Go.Proofs.YtoilhcklflmamaaGreatDoor
