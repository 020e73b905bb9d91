/-
  A statement: contracts over the program; the conditions: the reader lies in memory as it should, and what is called keeps its own contract.
  A function: contracts over the program; the conditions: the reader lies in memory as it should, and what is called keeps its own contract.
-/
import Derived.Test.YtoilhcklflmamaaGreatDoorKPrG
import Derived.Test.YtoilhcklflmamaaGreatDoorKPrPa
namespace Go.Proofs.YtoilhcklflmamaaGreatDoor
open Go.RowKit
open Pr
set_option linter.unusedVariables false

set_option maxRecDepth 100000 in
set_option maxHeartbeats 4000000 in
theorem statement_rd (R g cap : Nat) (L : List Tok) (n : Nat) (HVE : ∀ v : NF, v.ok → ∀ s, rd n (.variable v true) s ≠ .out → Rule 72 #[nodeV v (.slice none 0 0), .func (.func 114) #[rp R] #[]] R g cap L s (rd n (.variable v true) s)) (HS : ∀ (k : Int), 0 ≤ k ∧ k ≤ 255 → ∀ of : List UInt8, of.length ≤ 65536 → ∀ s, rd n (.structured k of) s ≠ .out → Rule 69 #[.int .u8 k, .string (bs of)] R g cap L s (rd n (.structured k of) s)) (HC : ∀ s, rd n .choice s ≠ .out → Rule 115 #[] R g cap L s (rd n .choice s)) (HLP : ∀ s, rd n .loop s ≠ .out → Rule 116 #[] R g cap L s (rd n .loop s)) (HBR : ∀ s, rd n .bracketed s ≠ .out → Rule 117 #[] R g cap L s (rd n .bracketed s)) (HE : ∀ s, rd n .expression s ≠ .out → Rule 114 #[] R g cap L s (rd n .expression s)) (HA : ∀ s, rd n .assignment s ≠ .out → Rule 118 #[] R g cap L s (rd n .assignment s)) (s : St) (hno : rd (n + 1) .statement s ≠ .out) :
    Rule 110 #[] R g cap L s (rd (n + 1) .statement s) := by
  intro w h
  have e : rd (n + 1) .statement s = if Lx.intT (tx s) < 6 then (intM s).bnd fun t s => (nameM s).bnd fun nm s => rd n (.variable ⟨8, 0, 0, t, 0, 0, 0, bs nm, ⟨#[]⟩⟩ true) s else (tryM [115, 116, 114, 117, 99, 116] s).bnd fun b s => if b then (nameM s).bnd fun nm s => rd n (.structured 8 nm) s else (tryM [105, 102] s).bnd fun b s => if b then rd n .choice s else (tryM [102, 111, 114] s).bnd fun b s => if b then rd n .loop s else (tryM [112, 114, 105, 110, 116] s).bnd fun b s => if b then (nodeM s).bnd fun _ s => (rd n .bracketed s).bnd fun x s => (needM [59] s).bnd fun _ s => .ok (nk 12, one x) s else (tryM [114, 101, 116, 117, 114, 110] s).bnd fun b s => if b then (nodeM s).bnd fun _ s => (rd n .expression s).bnd fun x s => (needM [59] s).bnd fun _ s => .ok (nk 14, one x) s else rd n .assignment s := rfl
  rw [e] at hno ⊢
  clear e
  have HD := hideIt h
  have hR := h.b.lt_size
  have wf0 := hideIt h.p.wf
  clear h
  obtain ⟨r, hr⟩ : ∃ r, (if Lx.intT (tx s) < 6 then (intM s).bnd fun t s => (nameM s).bnd fun nm s => rd n (.variable ⟨8, 0, 0, t, 0, 0, 0, bs nm, ⟨#[]⟩⟩ true) s else (tryM [115, 116, 114, 117, 99, 116] s).bnd fun b s => if b then (nameM s).bnd fun nm s => rd n (.structured 8 nm) s else (tryM [105, 102] s).bnd fun b s => if b then rd n .choice s else (tryM [102, 111, 114] s).bnd fun b s => if b then rd n .loop s else (tryM [112, 114, 105, 110, 116] s).bnd fun b s => if b then (nodeM s).bnd fun _ s => (rd n .bracketed s).bnd fun x s => (needM [59] s).bnd fun _ s => .ok (nk 12, one x) s else (tryM [114, 101, 116, 117, 114, 110] s).bnd fun b s => if b then (nodeM s).bnd fun _ s => (rd n .expression s).bnd fun x s => (needM [59] s).bnd fun _ s => .ok (nk 14, one x) s else rd n .assignment s : Rs Nd) = r := ⟨_, rfl⟩
  rw [hr] at hno ⊢
  have HR := hideIt hr
  have HN := hideIt hno
  clear hr hno
  have hmf : ∀ (fn : Fn) (first cap : Array Value) (w : World), (Instr.makeFunc fn first cap).run Tryz.prog w = .ok (.func fn first cap) w := fun _ _ _ _ => rfl
  go_enter Tryz.func110, Tryz.ntmps110
  go_wp2_with (fail)
  by_cases h1 : Lx.intT (tx s) < 6
  · rw [if_pos h1] at HR
    have C1 := hideIt (fun X (h : RD X R g cap L s) => isInt_any R g cap L s X h)
    (go_at_call 113; refine Calls.mono (C1.out _ (by repeat with_reducible first | exact HD.out | apply RD.alloc | apply RD.drew | refine RD.setCell ?_ (by (try dsimp only); omega) _)) ?_; rw [decide_eq_true h1]; rintro e x1 ⟨rfl, q1⟩; have f1 := Fr.of_q (R := R) q1; have D1 := hideIt (show RD x1 R g cap L s from RD.q (by repeat with_reducible first | exact HD.out | apply RD.alloc | apply RD.drew | refine RD.setCell ?_ (by (try dsimp only); omega) _) q1); have F1 := hideIt (show Fr R w x1 from Fr.trans (by repeat with_reducible first | exact (Fr.refl R w) | apply Fr.alloc | apply Fr.drew | refine Fr.setNew ?_ (by (try dsimp only); omega) _) f1); have Z1 : w.heap.size + 1 ≤ x1.heap.size := (by have z := f1.size; (try simp at z); omega); have Br_1 := hideIt (Bx.fr (b := w.heap.size) (v := (nk 0)) (s := (.slice none 0 0)) (by repeat first | refine Bx.newAt _ (nk 0) (.slice none 0 0) (by simp; done) | with_reducible apply Bx.alloc | with_reducible refine Bx.set ?_ (by (try dsimp only); omega) _ | with_reducible apply Bx.drew) (by omega) f1); have yr1 := Br_1.out.lt; clear C1; clear f1 q1)
    go_wp2_with (fail)
    cases h2 : intM s with
    | out => rw [h2] at HR; exact absurd HR.out.symm HN.out
    | bad k p =>
     rw [h2] at HR
     have C2 := hideIt (fun X (h : RD X R g cap L s) => int_rd R g cap L s X h)
     (go_at_call 70; refine Calls.mono (badc h2 (C2.out _ (by repeat with_reducible first | exact D1.out | apply RD.alloc | apply RD.drew | refine RD.setCell ?_ (by (try dsimp only); omega) _))) ?_; rintro e x2 ⟨rfl, f2⟩; have F2 := hideIt (show Fr R w x2 from Fr.trans (by repeat with_reducible first | exact F1.out | apply Fr.alloc | apply Fr.drew | refine Fr.setNew ?_ (by (try dsimp only); omega) _) f2); clear f2)
     have ER : Rs.bad k p = r := HR.out
     subst ER
     exact ⟨rfl, F2.out, rfl⟩
    | ok t s2 =>
     rw [h2] at HR
     try simp only [bnd_ok] at HR
     have C2 := hideIt (fun X (h : RD X R g cap L s) => int_rd R g cap L s X h)
     (go_at_call 70; refine Calls.mono (okc h2 (C2.out _ (by repeat with_reducible first | exact D1.out | apply RD.alloc | apply RD.drew | refine RD.setCell ?_ (by (try dsimp only); omega) _))) ?_; rintro e x2 ⟨v2, rfl, rfl, f2, d2⟩; have D2 := hideIt d2; have F2 := hideIt (show Fr R w x2 from Fr.trans (by repeat with_reducible first | exact F1.out | apply Fr.alloc | apply Fr.drew | refine Fr.setNew ?_ (by (try dsimp only); omega) _) f2); have Z2 : x1.heap.size ≤ x2.heap.size := (by have z := f2.size; (try simp at z); omega); have Br_2 := hideIt (Bx.fr (b := w.heap.size) (v := (nk 0)) (s := (.slice none 0 0)) (by repeat first | with_reducible exact Br_1.out | with_reducible apply Bx.alloc | with_reducible refine Bx.set ?_ (by (try dsimp only); omega) _ | with_reducible apply Bx.drew) (by omega) f2); have yr2 := Br_2.out.lt; clear Br_1; clear C2; clear f2 d2)
     go_wp2_with (fail)
     cases h3 : nameM s2 with
     | out => rw [h3] at HR; exact absurd HR.out.symm HN.out
     | bad k p =>
      rw [h3] at HR
      have C3 := hideIt (fun X (h : RD X R g cap L s2) => name_rd R g cap L s2 X h)
      (go_at_call 65; refine Calls.mono (badc h3 (C3.out _ (by repeat with_reducible first | exact D2.out | apply RD.alloc | apply RD.drew | refine RD.setCell ?_ (by (try dsimp only); omega) _))) ?_; rintro e x3 ⟨rfl, f3⟩; have F3 := hideIt (show Fr R w x3 from Fr.trans (by repeat with_reducible first | exact F2.out | apply Fr.alloc | apply Fr.drew | refine Fr.setNew ?_ (by (try dsimp only); omega) _) f3); clear f3)
      have ER : Rs.bad k p = r := HR.out
      subst ER
      exact ⟨rfl, F3.out, rfl⟩
     | ok nm s3 =>
      rw [h3] at HR
      try simp only [bnd_ok] at HR
      have C3 := hideIt (fun X (h : RD X R g cap L s2) => name_rd R g cap L s2 X h)
      (go_at_call 65; refine Calls.mono (okc h3 (C3.out _ (by repeat with_reducible first | exact D2.out | apply RD.alloc | apply RD.drew | refine RD.setCell ?_ (by (try dsimp only); omega) _))) ?_; rintro e x3 ⟨v3, rfl, rfl, f3, d3⟩; have D3 := hideIt d3; have F3 := hideIt (show Fr R w x3 from Fr.trans (by repeat with_reducible first | exact F2.out | apply Fr.alloc | apply Fr.drew | refine Fr.setNew ?_ (by (try dsimp only); omega) _) f3); have Z3 : x2.heap.size ≤ x3.heap.size := (by have z := f3.size; (try simp at z); omega); have Br_3 := hideIt (Bx.fr (b := w.heap.size) (v := (nk 0)) (s := (.slice none 0 0)) (by repeat first | with_reducible exact Br_2.out | with_reducible apply Bx.alloc | with_reducible refine Bx.set ?_ (by (try dsimp only); omega) _ | with_reducible apply Bx.drew) (by omega) f3); have yr3 := Br_3.out.lt; clear Br_2; clear C3; clear f3 d3)
      go_wp2_with (fail)
      cases h4 : rd n (.variable ⟨8, 0, 0, t, 0, 0, 0, bs nm, ⟨#[]⟩⟩ true) s3 with
      | out => rw [h4] at HR; exact absurd HR.out.symm HN.out
      | bad k p =>
       rw [h4] at HR
       have C4 := hideIt (fun X (h : RD X R g cap L s3) => (HVE ⟨8, 0, 0, t, 0, 0, 0, bs nm, ⟨#[]⟩⟩ (by have o1 := int_ok h2 wf0.out; have o2 := name_ok h3 (int_wf wf0.out h2); exact (by refine nf_ok ?_ ?_ ?_ ?_ ?_ ?_ ?_ ?_ ?_ <;> first | omega | decide | (rw [bs_size]; omega) | exact Nat.zero_le _)) s3 (by rw [h4]; exact fun e => by cases e)) X h)
       (go_at_call 72; refine Calls.mono (badc h4 (C4.out _ (by repeat with_reducible first | exact D3.out | apply RD.alloc | apply RD.drew | refine RD.setCell ?_ (by (try dsimp only); omega) _))) ?_; rintro e x4 ⟨rfl, f4⟩; have F4 := hideIt (show Fr R w x4 from Fr.trans (by repeat with_reducible first | exact F3.out | apply Fr.alloc | apply Fr.drew | refine Fr.setNew ?_ (by (try dsimp only); omega) _) f4); clear f4)
       have ER : Rs.bad k p = r := HR.out
       subst ER
       exact ⟨rfl, F4.out, rfl⟩
      | ok x s4 =>
       rw [h4] at HR
       try simp only [bnd_ok] at HR
       have C4 := hideIt (fun X (h : RD X R g cap L s3) => (HVE ⟨8, 0, 0, t, 0, 0, 0, bs nm, ⟨#[]⟩⟩ (by have o1 := int_ok h2 wf0.out; have o2 := name_ok h3 (int_wf wf0.out h2); exact (by refine nf_ok ?_ ?_ ?_ ?_ ?_ ?_ ?_ ?_ ?_ <;> first | omega | decide | (rw [bs_size]; omega) | exact Nat.zero_le _)) s3 (by rw [h4]; exact fun e => by cases e)) X h)
       (go_at_call 72; refine Calls.mono (okc h4 (C4.out _ (by repeat with_reducible first | exact D3.out | apply RD.alloc | apply RD.drew | refine RD.setCell ?_ (by (try dsimp only); omega) _))) ?_; rintro e x4 ⟨v4, rfl, hv4, f4, d4⟩; have D4 := hideIt d4; have F4 := hideIt (show Fr R w x4 from Fr.trans (by repeat with_reducible first | exact F3.out | apply Fr.alloc | apply Fr.drew | refine Fr.setNew ?_ (by (try dsimp only); omega) _) f4); have Z4 : x3.heap.size ≤ x4.heap.size := (by have z := f4.size; (try simp at z); omega); obtain ⟨a4, c4, g4, rfl, cp4, sk4, l4, ok4⟩ := hv4.out; have Lx_4 := hideIt (Ls.mono (B' := x3.heap.size) l4 (by (try simp); try omega) (Nat.le_refl _)); have Kx := hideIt (And.intro cp4 (And.intro sk4 ok4)); clear hv4 l4 cp4 sk4 ok4; have Br_4 := hideIt (Bx.fr (b := w.heap.size) (v := (nk 0)) (s := (.slice none 0 0)) (by repeat first | with_reducible exact Br_3.out | with_reducible apply Bx.alloc | with_reducible refine Bx.set ?_ (by (try dsimp only); omega) _ | with_reducible apply Bx.drew) (by omega) f4); have yr4 := Br_4.out.lt; obtain ⟨r0, r1, r2, r3, r4, r5, r6, r7, r8, r9⟩ := Br_4.out.ten; have rf := Br_4.out.free; clear Br_3; clear C4; clear f4 d4)
       go_wp2_with (fail)
       have ER := HR.out
       subst ER
       have ob2 := int_ok h2 D1.out.p.wf
       have ob3 := name_ok h3 D2.out.p.wf
       refine bodyPost_ret (v := nodeV x.1 (.slice a4 g4.len c4)) (by simp [results, Tryz.results110, go_sem, *]) rfl ⟨(by repeat with_reducible first | exact F4.out | apply Fr.alloc | apply Fr.drew | refine Fr.setNew ?_ (by (try dsimp only); omega) _), _, rfl, ?_, (by repeat with_reducible first | exact D4.out | apply RD.alloc | apply RD.drew | refine RD.setCell ?_ (by (try dsimp only); omega) _)⟩
       exact NV.mk (x := x) (B' := x3.heap.size) (U := x4.heap.size) Kx.out.1 Kx.out.2.1 (by repeat with_reducible first | exact Lx_4.out | apply Ls.alloc | apply Ls.drew | refine Ls.set ?_ (by (try dsimp only); omega) _) (by omega) Kx.out.2.2
  · rw [if_neg h1] at HR
    have C1 := hideIt (fun X (h : RD X R g cap L s) => isInt_any R g cap L s X h)
    (go_at_call 113; refine Calls.mono (C1.out _ (by repeat with_reducible first | exact HD.out | apply RD.alloc | apply RD.drew | refine RD.setCell ?_ (by (try dsimp only); omega) _)) ?_; rw [decide_eq_false h1]; rintro e x1 ⟨rfl, q1⟩; have f1 := Fr.of_q (R := R) q1; have D1 := hideIt (show RD x1 R g cap L s from RD.q (by repeat with_reducible first | exact HD.out | apply RD.alloc | apply RD.drew | refine RD.setCell ?_ (by (try dsimp only); omega) _) q1); have F1 := hideIt (show Fr R w x1 from Fr.trans (by repeat with_reducible first | exact (Fr.refl R w) | apply Fr.alloc | apply Fr.drew | refine Fr.setNew ?_ (by (try dsimp only); omega) _) f1); have Z1 : w.heap.size + 1 ≤ x1.heap.size := (by have z := f1.size; (try simp at z); omega); have Br_1 := hideIt (Bx.fr (b := w.heap.size) (v := (nk 0)) (s := (.slice none 0 0)) (by repeat first | refine Bx.newAt _ (nk 0) (.slice none 0 0) (by simp; done) | with_reducible apply Bx.alloc | with_reducible refine Bx.set ?_ (by (try dsimp only); omega) _ | with_reducible apply Bx.drew) (by omega) f1); have yr1 := Br_1.out.lt; clear C1; clear f1 q1)
    go_wp2_with (fail)
    cases h2 : tryM [115, 116, 114, 117, 99, 116] s with
    | out => rw [h2] at HR; exact absurd HR.out.symm HN.out
    | bad k p =>
     rw [h2] at HR
     have C2 := hideIt (fun X (h : RD X R g cap L s) => try_any [115, 116, 114, 117, 99, 116] (by decide) R g cap L s X h)
     (go_at_call_of 64 (Value.string ⟨#[115, 116, 114, 117, 99, 116]⟩); refine Calls.mono (badc h2 (C2.out _ (by repeat with_reducible first | exact D1.out | apply RD.alloc | apply RD.drew | refine RD.setCell ?_ (by (try dsimp only); omega) _))) ?_; rintro e x2 ⟨rfl, f2⟩; have F2 := hideIt (show Fr R w x2 from Fr.trans (by repeat with_reducible first | exact F1.out | apply Fr.alloc | apply Fr.drew | refine Fr.setNew ?_ (by (try dsimp only); omega) _) f2); clear f2)
     have ER : Rs.bad k p = r := HR.out
     subst ER
     exact ⟨rfl, F2.out, rfl⟩
    | ok b2 s2 =>
     rw [h2] at HR
     try simp only [bnd_ok] at HR
     cases b2 with
     | true =>
      try simp only [if_true] at HR
      have C2 := hideIt (fun X (h : RD X R g cap L s) => try_any [115, 116, 114, 117, 99, 116] (by decide) R g cap L s X h)
      (go_at_call_of 64 (Value.string ⟨#[115, 116, 114, 117, 99, 116]⟩); refine Calls.mono (okc h2 (C2.out _ (by repeat with_reducible first | exact D1.out | apply RD.alloc | apply RD.drew | refine RD.setCell ?_ (by (try dsimp only); omega) _))) ?_; rintro e x2 ⟨v2, rfl, rfl, f2, d2⟩; have D2 := hideIt d2; have F2 := hideIt (show Fr R w x2 from Fr.trans (by repeat with_reducible first | exact F1.out | apply Fr.alloc | apply Fr.drew | refine Fr.setNew ?_ (by (try dsimp only); omega) _) f2); have Z2 : x1.heap.size ≤ x2.heap.size := (by have z := f2.size; (try simp at z); omega); have Br_2 := hideIt (Bx.fr (b := w.heap.size) (v := (nk 0)) (s := (.slice none 0 0)) (by repeat first | with_reducible exact Br_1.out | with_reducible apply Bx.alloc | with_reducible refine Bx.set ?_ (by (try dsimp only); omega) _ | with_reducible apply Bx.drew) (by omega) f2); have yr2 := Br_2.out.lt; clear Br_1; clear C2; clear f2 d2)
      go_wp2_with (fail)
      cases h3 : nameM s2 with
      | out => rw [h3] at HR; exact absurd HR.out.symm HN.out
      | bad k p =>
       rw [h3] at HR
       have C3 := hideIt (fun X (h : RD X R g cap L s2) => name_rd R g cap L s2 X h)
       (go_at_call 65; refine Calls.mono (badc h3 (C3.out _ (by repeat with_reducible first | exact D2.out | apply RD.alloc | apply RD.drew | refine RD.setCell ?_ (by (try dsimp only); omega) _))) ?_; rintro e x3 ⟨rfl, f3⟩; have F3 := hideIt (show Fr R w x3 from Fr.trans (by repeat with_reducible first | exact F2.out | apply Fr.alloc | apply Fr.drew | refine Fr.setNew ?_ (by (try dsimp only); omega) _) f3); clear f3)
       have ER : Rs.bad k p = r := HR.out
       subst ER
       exact ⟨rfl, F3.out, rfl⟩
      | ok nm s3 =>
       rw [h3] at HR
       try simp only [bnd_ok] at HR
       have C3 := hideIt (fun X (h : RD X R g cap L s2) => name_rd R g cap L s2 X h)
       (go_at_call 65; refine Calls.mono (okc h3 (C3.out _ (by repeat with_reducible first | exact D2.out | apply RD.alloc | apply RD.drew | refine RD.setCell ?_ (by (try dsimp only); omega) _))) ?_; rintro e x3 ⟨v3, rfl, rfl, f3, d3⟩; have D3 := hideIt d3; have F3 := hideIt (show Fr R w x3 from Fr.trans (by repeat with_reducible first | exact F2.out | apply Fr.alloc | apply Fr.drew | refine Fr.setNew ?_ (by (try dsimp only); omega) _) f3); have Z3 : x2.heap.size ≤ x3.heap.size := (by have z := f3.size; (try simp at z); omega); have Br_3 := hideIt (Bx.fr (b := w.heap.size) (v := (nk 0)) (s := (.slice none 0 0)) (by repeat first | with_reducible exact Br_2.out | with_reducible apply Bx.alloc | with_reducible refine Bx.set ?_ (by (try dsimp only); omega) _ | with_reducible apply Bx.drew) (by omega) f3); have yr3 := Br_3.out.lt; clear Br_2; clear C3; clear f3 d3)
       go_wp2_with (fail)
       cases h4 : rd n (.structured 8 nm) s3 with
       | out => rw [h4] at HR; exact absurd HR.out.symm HN.out
       | bad k p =>
        rw [h4] at HR
        have C4 := hideIt (fun X (h : RD X R g cap L s3) => (HS 8 (by decide) nm (name_ok h3 (try_wf wf0.out (by decide) h2)) s3 (by rw [h4]; exact fun e => by cases e)) X h)
        (go_at_call 69; refine Calls.mono (badc h4 (C4.out _ (by repeat with_reducible first | exact D3.out | apply RD.alloc | apply RD.drew | refine RD.setCell ?_ (by (try dsimp only); omega) _))) ?_; rintro e x4 ⟨rfl, f4⟩; have F4 := hideIt (show Fr R w x4 from Fr.trans (by repeat with_reducible first | exact F3.out | apply Fr.alloc | apply Fr.drew | refine Fr.setNew ?_ (by (try dsimp only); omega) _) f4); clear f4)
        have ER : Rs.bad k p = r := HR.out
        subst ER
        exact ⟨rfl, F4.out, rfl⟩
       | ok x s4 =>
        rw [h4] at HR
        try simp only [bnd_ok] at HR
        have C4 := hideIt (fun X (h : RD X R g cap L s3) => (HS 8 (by decide) nm (name_ok h3 (try_wf wf0.out (by decide) h2)) s3 (by rw [h4]; exact fun e => by cases e)) X h)
        (go_at_call 69; refine Calls.mono (okc h4 (C4.out _ (by repeat with_reducible first | exact D3.out | apply RD.alloc | apply RD.drew | refine RD.setCell ?_ (by (try dsimp only); omega) _))) ?_; rintro e x4 ⟨v4, rfl, hv4, f4, d4⟩; have D4 := hideIt d4; have F4 := hideIt (show Fr R w x4 from Fr.trans (by repeat with_reducible first | exact F3.out | apply Fr.alloc | apply Fr.drew | refine Fr.setNew ?_ (by (try dsimp only); omega) _) f4); have Z4 : x3.heap.size ≤ x4.heap.size := (by have z := f4.size; (try simp at z); omega); obtain ⟨a4, c4, g4, rfl, cp4, sk4, l4, ok4⟩ := hv4.out; have Lx_4 := hideIt (Ls.mono (B' := x3.heap.size) l4 (by (try simp); try omega) (Nat.le_refl _)); have Kx := hideIt (And.intro cp4 (And.intro sk4 ok4)); clear hv4 l4 cp4 sk4 ok4; have Br_4 := hideIt (Bx.fr (b := w.heap.size) (v := (nk 0)) (s := (.slice none 0 0)) (by repeat first | with_reducible exact Br_3.out | with_reducible apply Bx.alloc | with_reducible refine Bx.set ?_ (by (try dsimp only); omega) _ | with_reducible apply Bx.drew) (by omega) f4); have yr4 := Br_4.out.lt; obtain ⟨r0, r1, r2, r3, r4, r5, r6, r7, r8, r9⟩ := Br_4.out.ten; have rf := Br_4.out.free; clear Br_3; clear C4; clear f4 d4)
        go_wp2_with (fail)
        have ER := HR.out
        subst ER
        have ob3 := name_ok h3 D2.out.p.wf
        refine bodyPost_ret (v := nodeV x.1 (.slice a4 g4.len c4)) (by simp [results, Tryz.results110, go_sem, *]) rfl ⟨(by repeat with_reducible first | exact F4.out | apply Fr.alloc | apply Fr.drew | refine Fr.setNew ?_ (by (try dsimp only); omega) _), _, rfl, ?_, (by repeat with_reducible first | exact D4.out | apply RD.alloc | apply RD.drew | refine RD.setCell ?_ (by (try dsimp only); omega) _)⟩
        exact NV.mk (x := x) (B' := x3.heap.size) (U := x4.heap.size) Kx.out.1 Kx.out.2.1 (by repeat with_reducible first | exact Lx_4.out | apply Ls.alloc | apply Ls.drew | refine Ls.set ?_ (by (try dsimp only); omega) _) (by omega) Kx.out.2.2
     | false =>
      try simp only [Bool.false_eq_true, if_false] at HR
      have C2 := hideIt (fun X (h : RD X R g cap L s) => try_any [115, 116, 114, 117, 99, 116] (by decide) R g cap L s X h)
      (go_at_call_of 64 (Value.string ⟨#[115, 116, 114, 117, 99, 116]⟩); refine Calls.mono (okc h2 (C2.out _ (by repeat with_reducible first | exact D1.out | apply RD.alloc | apply RD.drew | refine RD.setCell ?_ (by (try dsimp only); omega) _))) ?_; rintro e x2 ⟨v2, rfl, rfl, f2, d2⟩; have D2 := hideIt d2; have F2 := hideIt (show Fr R w x2 from Fr.trans (by repeat with_reducible first | exact F1.out | apply Fr.alloc | apply Fr.drew | refine Fr.setNew ?_ (by (try dsimp only); omega) _) f2); have Z2 : x1.heap.size ≤ x2.heap.size := (by have z := f2.size; (try simp at z); omega); have Br_2 := hideIt (Bx.fr (b := w.heap.size) (v := (nk 0)) (s := (.slice none 0 0)) (by repeat first | with_reducible exact Br_1.out | with_reducible apply Bx.alloc | with_reducible refine Bx.set ?_ (by (try dsimp only); omega) _ | with_reducible apply Bx.drew) (by omega) f2); have yr2 := Br_2.out.lt; clear Br_1; clear C2; clear f2 d2)
      go_wp2_with (fail)
      cases h3 : tryM [105, 102] s2 with
      | out => rw [h3] at HR; exact absurd HR.out.symm HN.out
      | bad k p =>
       rw [h3] at HR
       have C3 := hideIt (fun X (h : RD X R g cap L s2) => try_any [105, 102] (by decide) R g cap L s2 X h)
       (go_at_call_of 64 (Value.string ⟨#[105, 102]⟩); refine Calls.mono (badc h3 (C3.out _ (by repeat with_reducible first | exact D2.out | apply RD.alloc | apply RD.drew | refine RD.setCell ?_ (by (try dsimp only); omega) _))) ?_; rintro e x3 ⟨rfl, f3⟩; have F3 := hideIt (show Fr R w x3 from Fr.trans (by repeat with_reducible first | exact F2.out | apply Fr.alloc | apply Fr.drew | refine Fr.setNew ?_ (by (try dsimp only); omega) _) f3); clear f3)
       have ER : Rs.bad k p = r := HR.out
       subst ER
       exact ⟨rfl, F3.out, rfl⟩
      | ok b3 s3 =>
       rw [h3] at HR
       try simp only [bnd_ok] at HR
       cases b3 with
       | true =>
        try simp only [if_true] at HR
        have C3 := hideIt (fun X (h : RD X R g cap L s2) => try_any [105, 102] (by decide) R g cap L s2 X h)
        (go_at_call_of 64 (Value.string ⟨#[105, 102]⟩); refine Calls.mono (okc h3 (C3.out _ (by repeat with_reducible first | exact D2.out | apply RD.alloc | apply RD.drew | refine RD.setCell ?_ (by (try dsimp only); omega) _))) ?_; rintro e x3 ⟨v3, rfl, rfl, f3, d3⟩; have D3 := hideIt d3; have F3 := hideIt (show Fr R w x3 from Fr.trans (by repeat with_reducible first | exact F2.out | apply Fr.alloc | apply Fr.drew | refine Fr.setNew ?_ (by (try dsimp only); omega) _) f3); have Z3 : x2.heap.size ≤ x3.heap.size := (by have z := f3.size; (try simp at z); omega); have Br_3 := hideIt (Bx.fr (b := w.heap.size) (v := (nk 0)) (s := (.slice none 0 0)) (by repeat first | with_reducible exact Br_2.out | with_reducible apply Bx.alloc | with_reducible refine Bx.set ?_ (by (try dsimp only); omega) _ | with_reducible apply Bx.drew) (by omega) f3); have yr3 := Br_3.out.lt; clear Br_2; clear C3; clear f3 d3)
        go_wp2_with (fail)
        cases h4 : rd n .choice s3 with
        | out => rw [h4] at HR; exact absurd HR.out.symm HN.out
        | bad k p =>
         rw [h4] at HR
         have C4 := hideIt (fun X (h : RD X R g cap L s3) => (HC s3 (by rw [h4]; exact fun e => by cases e)) X h)
         (go_at_call 115; refine Calls.mono (badc h4 (C4.out _ (by repeat with_reducible first | exact D3.out | apply RD.alloc | apply RD.drew | refine RD.setCell ?_ (by (try dsimp only); omega) _))) ?_; rintro e x4 ⟨rfl, f4⟩; have F4 := hideIt (show Fr R w x4 from Fr.trans (by repeat with_reducible first | exact F3.out | apply Fr.alloc | apply Fr.drew | refine Fr.setNew ?_ (by (try dsimp only); omega) _) f4); clear f4)
         have ER : Rs.bad k p = r := HR.out
         subst ER
         exact ⟨rfl, F4.out, rfl⟩
        | ok x s4 =>
         rw [h4] at HR
         try simp only [bnd_ok] at HR
         have C4 := hideIt (fun X (h : RD X R g cap L s3) => (HC s3 (by rw [h4]; exact fun e => by cases e)) X h)
         (go_at_call 115; refine Calls.mono (okc h4 (C4.out _ (by repeat with_reducible first | exact D3.out | apply RD.alloc | apply RD.drew | refine RD.setCell ?_ (by (try dsimp only); omega) _))) ?_; rintro e x4 ⟨v4, rfl, hv4, f4, d4⟩; have D4 := hideIt d4; have F4 := hideIt (show Fr R w x4 from Fr.trans (by repeat with_reducible first | exact F3.out | apply Fr.alloc | apply Fr.drew | refine Fr.setNew ?_ (by (try dsimp only); omega) _) f4); have Z4 : x3.heap.size ≤ x4.heap.size := (by have z := f4.size; (try simp at z); omega); obtain ⟨a4, c4, g4, rfl, cp4, sk4, l4, ok4⟩ := hv4.out; have Lx_4 := hideIt (Ls.mono (B' := x3.heap.size) l4 (by (try simp); try omega) (Nat.le_refl _)); have Kx := hideIt (And.intro cp4 (And.intro sk4 ok4)); clear hv4 l4 cp4 sk4 ok4; have Br_4 := hideIt (Bx.fr (b := w.heap.size) (v := (nk 0)) (s := (.slice none 0 0)) (by repeat first | with_reducible exact Br_3.out | with_reducible apply Bx.alloc | with_reducible refine Bx.set ?_ (by (try dsimp only); omega) _ | with_reducible apply Bx.drew) (by omega) f4); have yr4 := Br_4.out.lt; obtain ⟨r0, r1, r2, r3, r4, r5, r6, r7, r8, r9⟩ := Br_4.out.ten; have rf := Br_4.out.free; clear Br_3; clear C4; clear f4 d4)
         go_wp2_with (fail)
         have ER := HR.out
         subst ER
         refine bodyPost_ret (v := nodeV x.1 (.slice a4 g4.len c4)) (by simp [results, Tryz.results110, go_sem, *]) rfl ⟨(by repeat with_reducible first | exact F4.out | apply Fr.alloc | apply Fr.drew | refine Fr.setNew ?_ (by (try dsimp only); omega) _), _, rfl, ?_, (by repeat with_reducible first | exact D4.out | apply RD.alloc | apply RD.drew | refine RD.setCell ?_ (by (try dsimp only); omega) _)⟩
         exact NV.mk (x := x) (B' := x3.heap.size) (U := x4.heap.size) Kx.out.1 Kx.out.2.1 (by repeat with_reducible first | exact Lx_4.out | apply Ls.alloc | apply Ls.drew | refine Ls.set ?_ (by (try dsimp only); omega) _) (by omega) Kx.out.2.2
       | false =>
        try simp only [Bool.false_eq_true, if_false] at HR
        have C3 := hideIt (fun X (h : RD X R g cap L s2) => try_any [105, 102] (by decide) R g cap L s2 X h)
        (go_at_call_of 64 (Value.string ⟨#[105, 102]⟩); refine Calls.mono (okc h3 (C3.out _ (by repeat with_reducible first | exact D2.out | apply RD.alloc | apply RD.drew | refine RD.setCell ?_ (by (try dsimp only); omega) _))) ?_; rintro e x3 ⟨v3, rfl, rfl, f3, d3⟩; have D3 := hideIt d3; have F3 := hideIt (show Fr R w x3 from Fr.trans (by repeat with_reducible first | exact F2.out | apply Fr.alloc | apply Fr.drew | refine Fr.setNew ?_ (by (try dsimp only); omega) _) f3); have Z3 : x2.heap.size ≤ x3.heap.size := (by have z := f3.size; (try simp at z); omega); have Br_3 := hideIt (Bx.fr (b := w.heap.size) (v := (nk 0)) (s := (.slice none 0 0)) (by repeat first | with_reducible exact Br_2.out | with_reducible apply Bx.alloc | with_reducible refine Bx.set ?_ (by (try dsimp only); omega) _ | with_reducible apply Bx.drew) (by omega) f3); have yr3 := Br_3.out.lt; clear Br_2; clear C3; clear f3 d3)
        go_wp2_with (fail)
        cases h4 : tryM [102, 111, 114] s3 with
        | out => rw [h4] at HR; exact absurd HR.out.symm HN.out
        | bad k p =>
         rw [h4] at HR
         have C4 := hideIt (fun X (h : RD X R g cap L s3) => try_any [102, 111, 114] (by decide) R g cap L s3 X h)
         (go_at_call_of 64 (Value.string ⟨#[102, 111, 114]⟩); refine Calls.mono (badc h4 (C4.out _ (by repeat with_reducible first | exact D3.out | apply RD.alloc | apply RD.drew | refine RD.setCell ?_ (by (try dsimp only); omega) _))) ?_; rintro e x4 ⟨rfl, f4⟩; have F4 := hideIt (show Fr R w x4 from Fr.trans (by repeat with_reducible first | exact F3.out | apply Fr.alloc | apply Fr.drew | refine Fr.setNew ?_ (by (try dsimp only); omega) _) f4); clear f4)
         have ER : Rs.bad k p = r := HR.out
         subst ER
         exact ⟨rfl, F4.out, rfl⟩
        | ok b4 s4 =>
         rw [h4] at HR
         try simp only [bnd_ok] at HR
         cases b4 with
         | true =>
          try simp only [if_true] at HR
          have C4 := hideIt (fun X (h : RD X R g cap L s3) => try_any [102, 111, 114] (by decide) R g cap L s3 X h)
          (go_at_call_of 64 (Value.string ⟨#[102, 111, 114]⟩); refine Calls.mono (okc h4 (C4.out _ (by repeat with_reducible first | exact D3.out | apply RD.alloc | apply RD.drew | refine RD.setCell ?_ (by (try dsimp only); omega) _))) ?_; rintro e x4 ⟨v4, rfl, rfl, f4, d4⟩; have D4 := hideIt d4; have F4 := hideIt (show Fr R w x4 from Fr.trans (by repeat with_reducible first | exact F3.out | apply Fr.alloc | apply Fr.drew | refine Fr.setNew ?_ (by (try dsimp only); omega) _) f4); have Z4 : x3.heap.size ≤ x4.heap.size := (by have z := f4.size; (try simp at z); omega); have Br_4 := hideIt (Bx.fr (b := w.heap.size) (v := (nk 0)) (s := (.slice none 0 0)) (by repeat first | with_reducible exact Br_3.out | with_reducible apply Bx.alloc | with_reducible refine Bx.set ?_ (by (try dsimp only); omega) _ | with_reducible apply Bx.drew) (by omega) f4); have yr4 := Br_4.out.lt; clear Br_3; clear C4; clear f4 d4)
          go_wp2_with (fail)
          cases h5 : rd n .loop s4 with
          | out => rw [h5] at HR; exact absurd HR.out.symm HN.out
          | bad k p =>
           rw [h5] at HR
           have C5 := hideIt (fun X (h : RD X R g cap L s4) => (HLP s4 (by rw [h5]; exact fun e => by cases e)) X h)
           (go_at_call 116; refine Calls.mono (badc h5 (C5.out _ (by repeat with_reducible first | exact D4.out | apply RD.alloc | apply RD.drew | refine RD.setCell ?_ (by (try dsimp only); omega) _))) ?_; rintro e x5 ⟨rfl, f5⟩; have F5 := hideIt (show Fr R w x5 from Fr.trans (by repeat with_reducible first | exact F4.out | apply Fr.alloc | apply Fr.drew | refine Fr.setNew ?_ (by (try dsimp only); omega) _) f5); clear f5)
           have ER : Rs.bad k p = r := HR.out
           subst ER
           exact ⟨rfl, F5.out, rfl⟩
          | ok x s5 =>
           rw [h5] at HR
           try simp only [bnd_ok] at HR
           have C5 := hideIt (fun X (h : RD X R g cap L s4) => (HLP s4 (by rw [h5]; exact fun e => by cases e)) X h)
           (go_at_call 116; refine Calls.mono (okc h5 (C5.out _ (by repeat with_reducible first | exact D4.out | apply RD.alloc | apply RD.drew | refine RD.setCell ?_ (by (try dsimp only); omega) _))) ?_; rintro e x5 ⟨v5, rfl, hv5, f5, d5⟩; have D5 := hideIt d5; have F5 := hideIt (show Fr R w x5 from Fr.trans (by repeat with_reducible first | exact F4.out | apply Fr.alloc | apply Fr.drew | refine Fr.setNew ?_ (by (try dsimp only); omega) _) f5); have Z5 : x4.heap.size ≤ x5.heap.size := (by have z := f5.size; (try simp at z); omega); obtain ⟨a5, c5, g5, rfl, cp5, sk5, l5, ok5⟩ := hv5.out; have Lx_5 := hideIt (Ls.mono (B' := x4.heap.size) l5 (by (try simp); try omega) (Nat.le_refl _)); have Kx := hideIt (And.intro cp5 (And.intro sk5 ok5)); clear hv5 l5 cp5 sk5 ok5; have Br_5 := hideIt (Bx.fr (b := w.heap.size) (v := (nk 0)) (s := (.slice none 0 0)) (by repeat first | with_reducible exact Br_4.out | with_reducible apply Bx.alloc | with_reducible refine Bx.set ?_ (by (try dsimp only); omega) _ | with_reducible apply Bx.drew) (by omega) f5); have yr5 := Br_5.out.lt; obtain ⟨r0, r1, r2, r3, r4, r5, r6, r7, r8, r9⟩ := Br_5.out.ten; have rf := Br_5.out.free; clear Br_4; clear C5; clear f5 d5)
           go_wp2_with (fail)
           have ER := HR.out
           subst ER
           refine bodyPost_ret (v := nodeV x.1 (.slice a5 g5.len c5)) (by simp [results, Tryz.results110, go_sem, *]) rfl ⟨(by repeat with_reducible first | exact F5.out | apply Fr.alloc | apply Fr.drew | refine Fr.setNew ?_ (by (try dsimp only); omega) _), _, rfl, ?_, (by repeat with_reducible first | exact D5.out | apply RD.alloc | apply RD.drew | refine RD.setCell ?_ (by (try dsimp only); omega) _)⟩
           exact NV.mk (x := x) (B' := x4.heap.size) (U := x5.heap.size) Kx.out.1 Kx.out.2.1 (by repeat with_reducible first | exact Lx_5.out | apply Ls.alloc | apply Ls.drew | refine Ls.set ?_ (by (try dsimp only); omega) _) (by omega) Kx.out.2.2
         | false =>
          try simp only [Bool.false_eq_true, if_false] at HR
          have C4 := hideIt (fun X (h : RD X R g cap L s3) => try_any [102, 111, 114] (by decide) R g cap L s3 X h)
          (go_at_call_of 64 (Value.string ⟨#[102, 111, 114]⟩); refine Calls.mono (okc h4 (C4.out _ (by repeat with_reducible first | exact D3.out | apply RD.alloc | apply RD.drew | refine RD.setCell ?_ (by (try dsimp only); omega) _))) ?_; rintro e x4 ⟨v4, rfl, rfl, f4, d4⟩; have D4 := hideIt d4; have F4 := hideIt (show Fr R w x4 from Fr.trans (by repeat with_reducible first | exact F3.out | apply Fr.alloc | apply Fr.drew | refine Fr.setNew ?_ (by (try dsimp only); omega) _) f4); have Z4 : x3.heap.size ≤ x4.heap.size := (by have z := f4.size; (try simp at z); omega); have Br_4 := hideIt (Bx.fr (b := w.heap.size) (v := (nk 0)) (s := (.slice none 0 0)) (by repeat first | with_reducible exact Br_3.out | with_reducible apply Bx.alloc | with_reducible refine Bx.set ?_ (by (try dsimp only); omega) _ | with_reducible apply Bx.drew) (by omega) f4); have yr4 := Br_4.out.lt; clear Br_3; clear C4; clear f4 d4)
          go_wp2_with (fail)
          cases h5 : tryM [112, 114, 105, 110, 116] s4 with
          | out => rw [h5] at HR; exact absurd HR.out.symm HN.out
          | bad k p =>
           rw [h5] at HR
           have C5 := hideIt (fun X (h : RD X R g cap L s4) => try_any [112, 114, 105, 110, 116] (by decide) R g cap L s4 X h)
           (go_at_call_of 64 (Value.string ⟨#[112, 114, 105, 110, 116]⟩); refine Calls.mono (badc h5 (C5.out _ (by repeat with_reducible first | exact D4.out | apply RD.alloc | apply RD.drew | refine RD.setCell ?_ (by (try dsimp only); omega) _))) ?_; rintro e x5 ⟨rfl, f5⟩; have F5 := hideIt (show Fr R w x5 from Fr.trans (by repeat with_reducible first | exact F4.out | apply Fr.alloc | apply Fr.drew | refine Fr.setNew ?_ (by (try dsimp only); omega) _) f5); clear f5)
           have ER : Rs.bad k p = r := HR.out
           subst ER
           exact ⟨rfl, F5.out, rfl⟩
          | ok b5 s5 =>
           rw [h5] at HR
           try simp only [bnd_ok] at HR
           cases b5 with
           | true =>
            try simp only [if_true] at HR
            have C5 := hideIt (fun X (h : RD X R g cap L s4) => try_any [112, 114, 105, 110, 116] (by decide) R g cap L s4 X h)
            (go_at_call_of 64 (Value.string ⟨#[112, 114, 105, 110, 116]⟩); refine Calls.mono (okc h5 (C5.out _ (by repeat with_reducible first | exact D4.out | apply RD.alloc | apply RD.drew | refine RD.setCell ?_ (by (try dsimp only); omega) _))) ?_; rintro e x5 ⟨v5, rfl, rfl, f5, d5⟩; have D5 := hideIt d5; have F5 := hideIt (show Fr R w x5 from Fr.trans (by repeat with_reducible first | exact F4.out | apply Fr.alloc | apply Fr.drew | refine Fr.setNew ?_ (by (try dsimp only); omega) _) f5); have Z5 : x4.heap.size ≤ x5.heap.size := (by have z := f5.size; (try simp at z); omega); have Br_5 := hideIt (Bx.fr (b := w.heap.size) (v := (nk 0)) (s := (.slice none 0 0)) (by repeat first | with_reducible exact Br_4.out | with_reducible apply Bx.alloc | with_reducible refine Bx.set ?_ (by (try dsimp only); omega) _ | with_reducible apply Bx.drew) (by omega) f5); have yr5 := Br_5.out.lt; clear Br_4; clear C5; clear f5 d5)
            go_wp2_with (fail)
            cases h6 : nodeM s5 with
            | out => rw [h6] at HR; exact absurd HR.out.symm HN.out
            | bad k p =>
             rw [h6] at HR
             have C6 := hideIt (fun X (h : RD X R g cap L s5) => node_rd R g cap L s5 X h (nk 12) none 0 0)
             (go_at_call 31; refine Calls.mono (badc h6 (C6.out _ (by repeat with_reducible first | exact D5.out | apply RD.alloc | apply RD.drew | refine RD.setCell ?_ (by (try dsimp only); omega) _))) ?_; rintro e x6 ⟨rfl, f6⟩; have F6 := hideIt (show Fr R w x6 from Fr.trans (by repeat with_reducible first | exact F5.out | apply Fr.alloc | apply Fr.drew | refine Fr.setNew ?_ (by (try dsimp only); omega) _) f6); clear f6)
             have ER : Rs.bad k p = r := HR.out
             subst ER
             exact ⟨rfl, F6.out, rfl⟩
            | ok u6 s6 =>
             rw [h6] at HR
             try simp only [bnd_ok] at HR
             have C6 := hideIt (fun X (h : RD X R g cap L s5) => node_rd R g cap L s5 X h (nk 12) none 0 0)
             (go_at_call 31; refine Calls.mono (okc h6 (C6.out _ (by repeat with_reducible first | exact D5.out | apply RD.alloc | apply RD.drew | refine RD.setCell ?_ (by (try dsimp only); omega) _))) ?_; rintro e x6 ⟨v6, rfl, rfl, f6, d6⟩; have D6 := hideIt d6; have F6 := hideIt (show Fr R w x6 from Fr.trans (by repeat with_reducible first | exact F5.out | apply Fr.alloc | apply Fr.drew | refine Fr.setNew ?_ (by (try dsimp only); omega) _) f6); have Z6 : x5.heap.size ≤ x6.heap.size := (by have z := f6.size; (try simp at z); omega); have Br_6 := hideIt (Bx.fr (b := w.heap.size) (v := (nk 0)) (s := (.slice none 0 0)) (by repeat first | with_reducible exact Br_5.out | with_reducible apply Bx.alloc | with_reducible refine Bx.set ?_ (by (try dsimp only); omega) _ | with_reducible apply Bx.drew) (by omega) f6); have yr6 := Br_6.out.lt; clear Br_5; clear C6; clear f6 d6)
             go_wp2_with (fail)
             cases h7 : rd n .bracketed s6 with
             | out => rw [h7] at HR; exact absurd HR.out.symm HN.out
             | bad k p =>
              rw [h7] at HR
              have C7 := hideIt (fun X (h : RD X R g cap L s6) => (HBR s6 (by rw [h7]; exact fun e => by cases e)) X h)
              (go_at_call 117; refine Calls.mono (badc h7 (C7.out _ (by repeat with_reducible first | exact D6.out | apply RD.alloc | apply RD.drew | refine RD.setCell ?_ (by (try dsimp only); omega) _))) ?_; rintro e x7 ⟨rfl, f7⟩; have F7 := hideIt (show Fr R w x7 from Fr.trans (by repeat with_reducible first | exact F6.out | apply Fr.alloc | apply Fr.drew | refine Fr.setNew ?_ (by (try dsimp only); omega) _) f7); clear f7)
              have ER : Rs.bad k p = r := HR.out
              subst ER
              exact ⟨rfl, F7.out, rfl⟩
             | ok x s7 =>
              rw [h7] at HR
              try simp only [bnd_ok] at HR
              have C7 := hideIt (fun X (h : RD X R g cap L s6) => (HBR s6 (by rw [h7]; exact fun e => by cases e)) X h)
              (go_at_call 117; refine Calls.mono (okc h7 (C7.out _ (by repeat with_reducible first | exact D6.out | apply RD.alloc | apply RD.drew | refine RD.setCell ?_ (by (try dsimp only); omega) _))) ?_; rintro e x7 ⟨v7, rfl, hv7, f7, d7⟩; have D7 := hideIt d7; have F7 := hideIt (show Fr R w x7 from Fr.trans (by repeat with_reducible first | exact F6.out | apply Fr.alloc | apply Fr.drew | refine Fr.setNew ?_ (by (try dsimp only); omega) _) f7); have Z7 : x6.heap.size + 1 ≤ x7.heap.size := (by have z := f7.size; (try simp at z); omega); obtain ⟨a7, c7, g7, rfl, cp7, sk7, l7, ok7⟩ := hv7.out; have Lx_7 := hideIt (Ls.mono (B' := x6.heap.size + 1) l7 (by (try simp); try omega) (Nat.le_refl _)); have Kx := hideIt (And.intro cp7 (And.intro sk7 ok7)); clear hv7 l7 cp7 sk7 ok7; have Br_7 := hideIt (Bx.fr (b := w.heap.size) (v := (nk 0)) (s := (.slice none 0 0)) (by repeat first | with_reducible exact Br_6.out | with_reducible apply Bx.alloc | with_reducible refine Bx.set ?_ (by (try dsimp only); omega) _ | with_reducible apply Bx.drew) (by omega) f7); have yr7 := Br_7.out.lt; have Bn_7 := hideIt (Bx.fr (b := x6.heap.size) (v := (nk 12)) (s := (.slice none 0 0)) (by repeat first | refine Bx.newAt _ (nk 12) (.slice none 0 0) (by simp; done) | with_reducible apply Bx.alloc | with_reducible refine Bx.set ?_ (by (try dsimp only); omega) _ | with_reducible apply Bx.drew) (by omega) f7); have yn7 := Bn_7.out.lt; obtain ⟨n0, n1, n2, n3, n4, n5, n6, n7, n8, n9⟩ := Bn_7.out.ten; have nf := Bn_7.out.free; clear Br_6; clear C7; clear f7 d7)
              go_wp2_with (fail)
              cases h8 : needM [59] s7 with
              | out => rw [h8] at HR; exact absurd HR.out.symm HN.out
              | bad k p =>
               rw [h8] at HR
               have C8 := hideIt (fun X (h : RD X R g cap L s7) => need_any [59] (by decide) R g cap L s7 X h)
               (go_at_call_of 91 (Value.string ⟨#[59]⟩); refine Calls.mono (badc h8 (C8.out _ (by repeat with_reducible first | exact D7.out | apply RD.alloc | apply RD.drew | refine RD.setCell ?_ (by (try dsimp only); omega) _))) ?_; rintro e x8 ⟨rfl, f8⟩; have F8 := hideIt (show Fr R w x8 from Fr.trans (by repeat with_reducible first | exact F7.out | apply Fr.alloc | apply Fr.drew | refine Fr.setNew ?_ (by (try dsimp only); omega) _) f8); clear f8)
               have ER : Rs.bad k p = r := HR.out
               subst ER
               exact ⟨rfl, F8.out, rfl⟩
              | ok u8 s8 =>
               rw [h8] at HR
               try simp only [bnd_ok] at HR
               have C8 := hideIt (fun X (h : RD X R g cap L s7) => need_any [59] (by decide) R g cap L s7 X h)
               (go_at_call_of 91 (Value.string ⟨#[59]⟩); refine Calls.mono (okc h8 (C8.out _ (by repeat with_reducible first | exact D7.out | apply RD.alloc | apply RD.drew | refine RD.setCell ?_ (by (try dsimp only); omega) _))) ?_; rintro e x8 ⟨v8, rfl, rfl, f8, d8⟩; have D8 := hideIt d8; have F8 := hideIt (show Fr R w x8 from Fr.trans (by repeat with_reducible first | exact F7.out | apply Fr.alloc | apply Fr.drew | refine Fr.setNew ?_ (by (try dsimp only); omega) _) f8); have Z8 : x7.heap.size + 1 ≤ x8.heap.size := (by have z := f8.size; (try simp at z); omega); have Lx_8 := hideIt (Ls.fr (B := x6.heap.size + 1) (U := x7.heap.size) (a := a7) (f := g7) (by repeat with_reducible first | exact Lx_7.out | apply Ls.alloc | apply Ls.drew | refine Ls.set ?_ (by (try dsimp only); omega) _) (by omega) f8); have Lk_8 := hideIt (Ls.fr (B := w.heap.size + 1) (U := x7.heap.size + 1) (a := (some ⟨x7.heap.size, 0, none⟩)) (f := (.cons x.1 a7 c7 g7 .nil)) (Ls.one (B := x6.heap.size + 1) (U := x7.heap.size) (B' := w.heap.size + 1) (by repeat with_reducible first | exact Lx_7.out | apply Ls.alloc | apply Ls.drew | refine Ls.set ?_ (by (try dsimp only); omega) _) Kx.out.2.2 Kx.out.2.1 (by (try simp) <;> (try omega)) (by first | (simp; done) | rfl) (by omega) (by (try simp) <;> (try omega))) (by omega) f8); have Br_8 := hideIt (Bx.fr (b := w.heap.size) (v := (nk 0)) (s := (.slice none 0 0)) (by repeat first | with_reducible exact Br_7.out | with_reducible apply Bx.alloc | with_reducible refine Bx.set ?_ (by (try dsimp only); omega) _ | with_reducible apply Bx.drew) (by omega) f8); have yr8 := Br_8.out.lt; have Bn_8 := hideIt (Bx.fr (b := x6.heap.size) (v := (nk 12)) (s := (.slice (some ⟨x7.heap.size, 0, none⟩) 1 1)) (by repeat first | exact (Bx.put Bn_7.out 9 _ rfl) | with_reducible apply Bx.alloc | with_reducible refine Bx.set ?_ (by (try dsimp only); omega) _ | with_reducible apply Bx.drew) (by omega) f8); have yn8 := Bn_8.out.lt; obtain ⟨r0, r1, r2, r3, r4, r5, r6, r7, r8, r9⟩ := Br_8.out.ten; have rf := Br_8.out.free; clear n0 n1 n2 n3 n4 n5 n6 n7 n8 n9 nf yn7; obtain ⟨n0, n1, n2, n3, n4, n5, n6, n7, n8, n9⟩ := Bn_8.out.ten; have nf := Bn_8.out.free; clear Lx_7 Br_7 Bn_7; clear C8; clear f8 d8)
               go_wp2_with (fail)
               have ER := HR.out
               subst ER
               refine bodyPost_ret (v := nodeV (nk 12) (.slice (some ⟨x7.heap.size, 0, none⟩) 1 1)) (by simp [results, Tryz.results110, go_sem, *]) rfl ⟨(by repeat with_reducible first | exact F8.out | apply Fr.alloc | apply Fr.drew | refine Fr.setNew ?_ (by (try dsimp only); omega) _), _, rfl, ?_, (by repeat with_reducible first | exact D8.out | apply RD.alloc | apply RD.drew | refine RD.setCell ?_ (by (try dsimp only); omega) _)⟩
               exact NV.mk (x := ((nk 12), one x)) (B' := w.heap.size + 1) (U := x7.heap.size + 1) (f := .cons x.1 a7 c7 g7 .nil) ⟨rfl, Kx.out.1, trivial⟩ sok1 (by repeat with_reducible first | exact Lk_8.out | apply Ls.alloc | apply Ls.drew | refine Ls.set ?_ (by (try dsimp only); omega) _) (by omega) (by refine nf_ok ?_ ?_ ?_ ?_ ?_ ?_ ?_ ?_ ?_ <;> first | omega | decide | (rw [bs_size]; omega) | exact Nat.zero_le _)
           | false =>
            try simp only [Bool.false_eq_true, if_false] at HR
            have C5 := hideIt (fun X (h : RD X R g cap L s4) => try_any [112, 114, 105, 110, 116] (by decide) R g cap L s4 X h)
            (go_at_call_of 64 (Value.string ⟨#[112, 114, 105, 110, 116]⟩); refine Calls.mono (okc h5 (C5.out _ (by repeat with_reducible first | exact D4.out | apply RD.alloc | apply RD.drew | refine RD.setCell ?_ (by (try dsimp only); omega) _))) ?_; rintro e x5 ⟨v5, rfl, rfl, f5, d5⟩; have D5 := hideIt d5; have F5 := hideIt (show Fr R w x5 from Fr.trans (by repeat with_reducible first | exact F4.out | apply Fr.alloc | apply Fr.drew | refine Fr.setNew ?_ (by (try dsimp only); omega) _) f5); have Z5 : x4.heap.size ≤ x5.heap.size := (by have z := f5.size; (try simp at z); omega); have Br_5 := hideIt (Bx.fr (b := w.heap.size) (v := (nk 0)) (s := (.slice none 0 0)) (by repeat first | with_reducible exact Br_4.out | with_reducible apply Bx.alloc | with_reducible refine Bx.set ?_ (by (try dsimp only); omega) _ | with_reducible apply Bx.drew) (by omega) f5); have yr5 := Br_5.out.lt; clear Br_4; clear C5; clear f5 d5)
            go_wp2_with (fail)
            cases h6 : tryM [114, 101, 116, 117, 114, 110] s5 with
            | out => rw [h6] at HR; exact absurd HR.out.symm HN.out
            | bad k p =>
             rw [h6] at HR
             have C6 := hideIt (fun X (h : RD X R g cap L s5) => try_any [114, 101, 116, 117, 114, 110] (by decide) R g cap L s5 X h)
             (go_at_call_of 64 (Value.string ⟨#[114, 101, 116, 117, 114, 110]⟩); refine Calls.mono (badc h6 (C6.out _ (by repeat with_reducible first | exact D5.out | apply RD.alloc | apply RD.drew | refine RD.setCell ?_ (by (try dsimp only); omega) _))) ?_; rintro e x6 ⟨rfl, f6⟩; have F6 := hideIt (show Fr R w x6 from Fr.trans (by repeat with_reducible first | exact F5.out | apply Fr.alloc | apply Fr.drew | refine Fr.setNew ?_ (by (try dsimp only); omega) _) f6); clear f6)
             have ER : Rs.bad k p = r := HR.out
             subst ER
             exact ⟨rfl, F6.out, rfl⟩
            | ok b6 s6 =>
             rw [h6] at HR
             try simp only [bnd_ok] at HR
             cases b6 with
             | true =>
              try simp only [if_true] at HR
              have C6 := hideIt (fun X (h : RD X R g cap L s5) => try_any [114, 101, 116, 117, 114, 110] (by decide) R g cap L s5 X h)
              (go_at_call_of 64 (Value.string ⟨#[114, 101, 116, 117, 114, 110]⟩); refine Calls.mono (okc h6 (C6.out _ (by repeat with_reducible first | exact D5.out | apply RD.alloc | apply RD.drew | refine RD.setCell ?_ (by (try dsimp only); omega) _))) ?_; rintro e x6 ⟨v6, rfl, rfl, f6, d6⟩; have D6 := hideIt d6; have F6 := hideIt (show Fr R w x6 from Fr.trans (by repeat with_reducible first | exact F5.out | apply Fr.alloc | apply Fr.drew | refine Fr.setNew ?_ (by (try dsimp only); omega) _) f6); have Z6 : x5.heap.size ≤ x6.heap.size := (by have z := f6.size; (try simp at z); omega); have Br_6 := hideIt (Bx.fr (b := w.heap.size) (v := (nk 0)) (s := (.slice none 0 0)) (by repeat first | with_reducible exact Br_5.out | with_reducible apply Bx.alloc | with_reducible refine Bx.set ?_ (by (try dsimp only); omega) _ | with_reducible apply Bx.drew) (by omega) f6); have yr6 := Br_6.out.lt; clear Br_5; clear C6; clear f6 d6)
              go_wp2_with (fail)
              cases h7 : nodeM s6 with
              | out => rw [h7] at HR; exact absurd HR.out.symm HN.out
              | bad k p =>
               rw [h7] at HR
               have C7 := hideIt (fun X (h : RD X R g cap L s6) => node_rd R g cap L s6 X h (nk 14) none 0 0)
               (go_at_call 31; refine Calls.mono (badc h7 (C7.out _ (by repeat with_reducible first | exact D6.out | apply RD.alloc | apply RD.drew | refine RD.setCell ?_ (by (try dsimp only); omega) _))) ?_; rintro e x7 ⟨rfl, f7⟩; have F7 := hideIt (show Fr R w x7 from Fr.trans (by repeat with_reducible first | exact F6.out | apply Fr.alloc | apply Fr.drew | refine Fr.setNew ?_ (by (try dsimp only); omega) _) f7); clear f7)
               have ER : Rs.bad k p = r := HR.out
               subst ER
               exact ⟨rfl, F7.out, rfl⟩
              | ok u7 s7 =>
               rw [h7] at HR
               try simp only [bnd_ok] at HR
               have C7 := hideIt (fun X (h : RD X R g cap L s6) => node_rd R g cap L s6 X h (nk 14) none 0 0)
               (go_at_call 31; refine Calls.mono (okc h7 (C7.out _ (by repeat with_reducible first | exact D6.out | apply RD.alloc | apply RD.drew | refine RD.setCell ?_ (by (try dsimp only); omega) _))) ?_; rintro e x7 ⟨v7, rfl, rfl, f7, d7⟩; have D7 := hideIt d7; have F7 := hideIt (show Fr R w x7 from Fr.trans (by repeat with_reducible first | exact F6.out | apply Fr.alloc | apply Fr.drew | refine Fr.setNew ?_ (by (try dsimp only); omega) _) f7); have Z7 : x6.heap.size ≤ x7.heap.size := (by have z := f7.size; (try simp at z); omega); have Br_7 := hideIt (Bx.fr (b := w.heap.size) (v := (nk 0)) (s := (.slice none 0 0)) (by repeat first | with_reducible exact Br_6.out | with_reducible apply Bx.alloc | with_reducible refine Bx.set ?_ (by (try dsimp only); omega) _ | with_reducible apply Bx.drew) (by omega) f7); have yr7 := Br_7.out.lt; clear Br_6; clear C7; clear f7 d7)
               go_wp2_with (fail)
               cases h8 : rd n .expression s7 with
               | out => rw [h8] at HR; exact absurd HR.out.symm HN.out
               | bad k p =>
                rw [h8] at HR
                have C8 := hideIt (fun X (h : RD X R g cap L s7) => (HE s7 (by rw [h8]; exact fun e => by cases e)) X h)
                (go_at_call 114; refine Calls.mono (badc h8 (C8.out _ (by repeat with_reducible first | exact D7.out | apply RD.alloc | apply RD.drew | refine RD.setCell ?_ (by (try dsimp only); omega) _))) ?_; rintro e x8 ⟨rfl, f8⟩; have F8 := hideIt (show Fr R w x8 from Fr.trans (by repeat with_reducible first | exact F7.out | apply Fr.alloc | apply Fr.drew | refine Fr.setNew ?_ (by (try dsimp only); omega) _) f8); clear f8)
                have ER : Rs.bad k p = r := HR.out
                subst ER
                exact ⟨rfl, F8.out, rfl⟩
               | ok x s8 =>
                rw [h8] at HR
                try simp only [bnd_ok] at HR
                have C8 := hideIt (fun X (h : RD X R g cap L s7) => (HE s7 (by rw [h8]; exact fun e => by cases e)) X h)
                (go_at_call 114; refine Calls.mono (okc h8 (C8.out _ (by repeat with_reducible first | exact D7.out | apply RD.alloc | apply RD.drew | refine RD.setCell ?_ (by (try dsimp only); omega) _))) ?_; rintro e x8 ⟨v8, rfl, hv8, f8, d8⟩; have D8 := hideIt d8; have F8 := hideIt (show Fr R w x8 from Fr.trans (by repeat with_reducible first | exact F7.out | apply Fr.alloc | apply Fr.drew | refine Fr.setNew ?_ (by (try dsimp only); omega) _) f8); have Z8 : x7.heap.size + 1 ≤ x8.heap.size := (by have z := f8.size; (try simp at z); omega); obtain ⟨a8, c8, g8, rfl, cp8, sk8, l8, ok8⟩ := hv8.out; have Lx_8 := hideIt (Ls.mono (B' := x7.heap.size + 1) l8 (by (try simp); try omega) (Nat.le_refl _)); have Kx := hideIt (And.intro cp8 (And.intro sk8 ok8)); clear hv8 l8 cp8 sk8 ok8; have Br_8 := hideIt (Bx.fr (b := w.heap.size) (v := (nk 0)) (s := (.slice none 0 0)) (by repeat first | with_reducible exact Br_7.out | with_reducible apply Bx.alloc | with_reducible refine Bx.set ?_ (by (try dsimp only); omega) _ | with_reducible apply Bx.drew) (by omega) f8); have yr8 := Br_8.out.lt; have Bn_8 := hideIt (Bx.fr (b := x7.heap.size) (v := (nk 14)) (s := (.slice none 0 0)) (by repeat first | refine Bx.newAt _ (nk 14) (.slice none 0 0) (by simp; done) | with_reducible apply Bx.alloc | with_reducible refine Bx.set ?_ (by (try dsimp only); omega) _ | with_reducible apply Bx.drew) (by omega) f8); have yn8 := Bn_8.out.lt; obtain ⟨n0, n1, n2, n3, n4, n5, n6, n7, n8, n9⟩ := Bn_8.out.ten; have nf := Bn_8.out.free; clear Br_7; clear C8; clear f8 d8)
                go_wp2_with (fail)
                cases h9 : needM [59] s8 with
                | out => rw [h9] at HR; exact absurd HR.out.symm HN.out
                | bad k p =>
                 rw [h9] at HR
                 have C9 := hideIt (fun X (h : RD X R g cap L s8) => need_any [59] (by decide) R g cap L s8 X h)
                 (go_at_call_of 91 (Value.string ⟨#[59]⟩); refine Calls.mono (badc h9 (C9.out _ (by repeat with_reducible first | exact D8.out | apply RD.alloc | apply RD.drew | refine RD.setCell ?_ (by (try dsimp only); omega) _))) ?_; rintro e x9 ⟨rfl, f9⟩; have F9 := hideIt (show Fr R w x9 from Fr.trans (by repeat with_reducible first | exact F8.out | apply Fr.alloc | apply Fr.drew | refine Fr.setNew ?_ (by (try dsimp only); omega) _) f9); clear f9)
                 have ER : Rs.bad k p = r := HR.out
                 subst ER
                 exact ⟨rfl, F9.out, rfl⟩
                | ok u9 s9 =>
                 rw [h9] at HR
                 try simp only [bnd_ok] at HR
                 have C9 := hideIt (fun X (h : RD X R g cap L s8) => need_any [59] (by decide) R g cap L s8 X h)
                 (go_at_call_of 91 (Value.string ⟨#[59]⟩); refine Calls.mono (okc h9 (C9.out _ (by repeat with_reducible first | exact D8.out | apply RD.alloc | apply RD.drew | refine RD.setCell ?_ (by (try dsimp only); omega) _))) ?_; rintro e x9 ⟨v9, rfl, rfl, f9, d9⟩; have D9 := hideIt d9; have F9 := hideIt (show Fr R w x9 from Fr.trans (by repeat with_reducible first | exact F8.out | apply Fr.alloc | apply Fr.drew | refine Fr.setNew ?_ (by (try dsimp only); omega) _) f9); have Z9 : x8.heap.size + 1 ≤ x9.heap.size := (by have z := f9.size; (try simp at z); omega); have Lx_9 := hideIt (Ls.fr (B := x7.heap.size + 1) (U := x8.heap.size) (a := a8) (f := g8) (by repeat with_reducible first | exact Lx_8.out | apply Ls.alloc | apply Ls.drew | refine Ls.set ?_ (by (try dsimp only); omega) _) (by omega) f9); have Lk_9 := hideIt (Ls.fr (B := w.heap.size + 1) (U := x8.heap.size + 1) (a := (some ⟨x8.heap.size, 0, none⟩)) (f := (.cons x.1 a8 c8 g8 .nil)) (Ls.one (B := x7.heap.size + 1) (U := x8.heap.size) (B' := w.heap.size + 1) (by repeat with_reducible first | exact Lx_8.out | apply Ls.alloc | apply Ls.drew | refine Ls.set ?_ (by (try dsimp only); omega) _) Kx.out.2.2 Kx.out.2.1 (by (try simp) <;> (try omega)) (by first | (simp; done) | rfl) (by omega) (by (try simp) <;> (try omega))) (by omega) f9); have Br_9 := hideIt (Bx.fr (b := w.heap.size) (v := (nk 0)) (s := (.slice none 0 0)) (by repeat first | with_reducible exact Br_8.out | with_reducible apply Bx.alloc | with_reducible refine Bx.set ?_ (by (try dsimp only); omega) _ | with_reducible apply Bx.drew) (by omega) f9); have yr9 := Br_9.out.lt; have Bn_9 := hideIt (Bx.fr (b := x7.heap.size) (v := (nk 14)) (s := (.slice (some ⟨x8.heap.size, 0, none⟩) 1 1)) (by repeat first | exact (Bx.put Bn_8.out 9 _ rfl) | with_reducible apply Bx.alloc | with_reducible refine Bx.set ?_ (by (try dsimp only); omega) _ | with_reducible apply Bx.drew) (by omega) f9); have yn9 := Bn_9.out.lt; obtain ⟨r0, r1, r2, r3, r4, r5, r6, r7, r8, r9⟩ := Br_9.out.ten; have rf := Br_9.out.free; clear n0 n1 n2 n3 n4 n5 n6 n7 n8 n9 nf yn8; obtain ⟨n0, n1, n2, n3, n4, n5, n6, n7, n8, n9⟩ := Bn_9.out.ten; have nf := Bn_9.out.free; clear Lx_8 Br_8 Bn_8; clear C9; clear f9 d9)
                 go_wp2_with (fail)
                 have ER := HR.out
                 subst ER
                 refine bodyPost_ret (v := nodeV (nk 14) (.slice (some ⟨x8.heap.size, 0, none⟩) 1 1)) (by simp [results, Tryz.results110, go_sem, *]) rfl ⟨(by repeat with_reducible first | exact F9.out | apply Fr.alloc | apply Fr.drew | refine Fr.setNew ?_ (by (try dsimp only); omega) _), _, rfl, ?_, (by repeat with_reducible first | exact D9.out | apply RD.alloc | apply RD.drew | refine RD.setCell ?_ (by (try dsimp only); omega) _)⟩
                 exact NV.mk (x := ((nk 14), one x)) (B' := w.heap.size + 1) (U := x8.heap.size + 1) (f := .cons x.1 a8 c8 g8 .nil) ⟨rfl, Kx.out.1, trivial⟩ sok1 (by repeat with_reducible first | exact Lk_9.out | apply Ls.alloc | apply Ls.drew | refine Ls.set ?_ (by (try dsimp only); omega) _) (by omega) (by refine nf_ok ?_ ?_ ?_ ?_ ?_ ?_ ?_ ?_ ?_ <;> first | omega | decide | (rw [bs_size]; omega) | exact Nat.zero_le _)
             | false =>
              try simp only [Bool.false_eq_true, if_false] at HR
              have C6 := hideIt (fun X (h : RD X R g cap L s5) => try_any [114, 101, 116, 117, 114, 110] (by decide) R g cap L s5 X h)
              (go_at_call_of 64 (Value.string ⟨#[114, 101, 116, 117, 114, 110]⟩); refine Calls.mono (okc h6 (C6.out _ (by repeat with_reducible first | exact D5.out | apply RD.alloc | apply RD.drew | refine RD.setCell ?_ (by (try dsimp only); omega) _))) ?_; rintro e x6 ⟨v6, rfl, rfl, f6, d6⟩; have D6 := hideIt d6; have F6 := hideIt (show Fr R w x6 from Fr.trans (by repeat with_reducible first | exact F5.out | apply Fr.alloc | apply Fr.drew | refine Fr.setNew ?_ (by (try dsimp only); omega) _) f6); have Z6 : x5.heap.size ≤ x6.heap.size := (by have z := f6.size; (try simp at z); omega); have Br_6 := hideIt (Bx.fr (b := w.heap.size) (v := (nk 0)) (s := (.slice none 0 0)) (by repeat first | with_reducible exact Br_5.out | with_reducible apply Bx.alloc | with_reducible refine Bx.set ?_ (by (try dsimp only); omega) _ | with_reducible apply Bx.drew) (by omega) f6); have yr6 := Br_6.out.lt; clear Br_5; clear C6; clear f6 d6)
              go_wp2_with (fail)
              cases h7 : rd n .assignment s6 with
              | out => rw [h7] at HR; exact absurd HR.out.symm HN.out
              | bad k p =>
               rw [h7] at HR
               have C7 := hideIt (fun X (h : RD X R g cap L s6) => (HA s6 (by rw [h7]; exact fun e => by cases e)) X h)
               (go_at_call 118; refine Calls.mono (badc h7 (C7.out _ (by repeat with_reducible first | exact D6.out | apply RD.alloc | apply RD.drew | refine RD.setCell ?_ (by (try dsimp only); omega) _))) ?_; rintro e x7 ⟨rfl, f7⟩; have F7 := hideIt (show Fr R w x7 from Fr.trans (by repeat with_reducible first | exact F6.out | apply Fr.alloc | apply Fr.drew | refine Fr.setNew ?_ (by (try dsimp only); omega) _) f7); clear f7)
               have ER : Rs.bad k p = r := HR.out
               subst ER
               exact ⟨rfl, F7.out, rfl⟩
              | ok x s7 =>
               rw [h7] at HR
               try simp only [bnd_ok] at HR
               have C7 := hideIt (fun X (h : RD X R g cap L s6) => (HA s6 (by rw [h7]; exact fun e => by cases e)) X h)
               (go_at_call 118; refine Calls.mono (okc h7 (C7.out _ (by repeat with_reducible first | exact D6.out | apply RD.alloc | apply RD.drew | refine RD.setCell ?_ (by (try dsimp only); omega) _))) ?_; rintro e x7 ⟨v7, rfl, hv7, f7, d7⟩; have D7 := hideIt d7; have F7 := hideIt (show Fr R w x7 from Fr.trans (by repeat with_reducible first | exact F6.out | apply Fr.alloc | apply Fr.drew | refine Fr.setNew ?_ (by (try dsimp only); omega) _) f7); have Z7 : x6.heap.size ≤ x7.heap.size := (by have z := f7.size; (try simp at z); omega); obtain ⟨a7, c7, g7, rfl, cp7, sk7, l7, ok7⟩ := hv7.out; have Lx_7 := hideIt (Ls.mono (B' := x6.heap.size) l7 (by (try simp); try omega) (Nat.le_refl _)); have Kx := hideIt (And.intro cp7 (And.intro sk7 ok7)); clear hv7 l7 cp7 sk7 ok7; have Br_7 := hideIt (Bx.fr (b := w.heap.size) (v := (nk 0)) (s := (.slice none 0 0)) (by repeat first | with_reducible exact Br_6.out | with_reducible apply Bx.alloc | with_reducible refine Bx.set ?_ (by (try dsimp only); omega) _ | with_reducible apply Bx.drew) (by omega) f7); have yr7 := Br_7.out.lt; obtain ⟨r0, r1, r2, r3, r4, r5, r6, r7, r8, r9⟩ := Br_7.out.ten; have rf := Br_7.out.free; clear Br_6; clear C7; clear f7 d7)
               go_wp2_with (fail)
               have ER := HR.out
               subst ER
               refine bodyPost_ret (v := nodeV x.1 (.slice a7 g7.len c7)) (by simp [results, Tryz.results110, go_sem, *]) rfl ⟨(by repeat with_reducible first | exact F7.out | apply Fr.alloc | apply Fr.drew | refine Fr.setNew ?_ (by (try dsimp only); omega) _), _, rfl, ?_, (by repeat with_reducible first | exact D7.out | apply RD.alloc | apply RD.drew | refine RD.setCell ?_ (by (try dsimp only); omega) _)⟩
               exact NV.mk (x := x) (B' := x6.heap.size) (U := x7.heap.size) Kx.out.1 Kx.out.2.1 (by repeat with_reducible first | exact Lx_7.out | apply Ls.alloc | apply Ls.drew | refine Ls.set ?_ (by (try dsimp only); omega) _) (by omega) Kx.out.2.2

end Go.Proofs.YtoilhcklflmamaaGreatDoor

namespace Go.Proofs.YtoilhcklflmamaaGreatDoor
open Go.RowKit
open Pr
set_option linter.unusedVariables false

theorem node_wf {s s' : St} {u : Unit} (hw : Wf s) (h : nodeM s = .ok u s') : Wf s' := by
  have := node_k (f := fun b s => .ok b s) (P := fun _ s' => Wf s') hw (fun s' h _ _ _ => h)
  rw [h] at this
  exact this

set_option maxRecDepth 100000 in
set_option maxHeartbeats 4000000 in
theorem function_rd (R g cap : Nat) (L : List Tok) (n : Nat) (HX : ∀ m, m ≤ n → ∀ s, rd m .param s ≠ .out → Rule 93 #[] R g cap L s (rd m .param s)) (HB : ∀ s, rd n .block s ≠ .out → Rule 94 #[] R g cap L s (rd n .block s)) (t : Nat) (nm : List UInt8) (ht : t < 6) (hnm : nm.length ≤ 65536) (s : St) (hno : rd (n + 1) (.function t nm) s ≠ .out) :
    Rule 71 #[.agg #[.int .u8 0, .int .u8 (t : Int), .int .i64 0], .string (bs nm)] R g cap L s (rd (n + 1) (.function t nm) s) := by
  intro w h
  have e : rd (n + 1) (.function t nm) s = (nodeM s).bnd fun _ s => ((needM [40] s).bnd fun _ s => (tryM [41] s).bnd fun b s => if b then Rs.ok (nk 0, .nil) s else (rd n .param s).bnd fun x => rd n (.more .param (one x))).bnd fun l s => (rd n .block s).bnd fun x s => .ok (⟨5, 0, 0, t, 0, 0, 0, bs nm, ⟨#[]⟩⟩, l.2.app (one x)) s := by simp only [rd, bnd_assoc]
  rw [e] at hno ⊢
  clear e
  have HD := hideIt h
  have hR := h.b.lt_size
  have wf0 := hideIt h.p.wf
  clear h
  obtain ⟨r, hr⟩ : ∃ r, ((nodeM s).bnd fun _ s => ((needM [40] s).bnd fun _ s => (tryM [41] s).bnd fun b s => if b then Rs.ok (nk 0, .nil) s else (rd n .param s).bnd fun x => rd n (.more .param (one x))).bnd fun l s => (rd n .block s).bnd fun x s => .ok (⟨5, 0, 0, t, 0, 0, 0, bs nm, ⟨#[]⟩⟩, l.2.app (one x)) s : Rs Nd) = r := ⟨_, rfl⟩
  rw [hr] at hno ⊢
  have HR := hideIt hr
  have HN := hideIt hno
  clear hr hno
  have hmf : ∀ (fn : Fn) (first cap : Array Value) (w : World), (Instr.makeFunc fn first cap).run Tryz.prog w = .ok (.func fn first cap) w := fun _ _ _ _ => rfl
  go_enter Tryz.func71, Tryz.ntmps71
  go_wp2_with (fail)
  cases h1 : nodeM s with
  | out => rw [h1] at HR; exact absurd HR.out.symm HN.out
  | bad k p =>
   rw [h1] at HR
   have C1 := hideIt (fun X (h : RD X R g cap L s) => node_rd R g cap L s X h ⟨5, 0, 0, t, 0, 0, 0, bs nm, ⟨#[]⟩⟩ none 0 0)
   (go_at_call 31; refine Calls.mono (badc h1 (C1.out _ (by repeat with_reducible first | exact HD.out | apply RD.alloc | apply RD.drew | refine RD.setCell ?_ (by (try dsimp only); omega) _))) ?_; rintro e x1 ⟨rfl, f1⟩; have F1 := hideIt (show Fr R w x1 from Fr.trans (by repeat with_reducible first | exact (Fr.refl R w) | apply Fr.alloc | apply Fr.drew | refine Fr.setNew ?_ (by (try dsimp only); omega) _) f1); clear f1)
   have ER : Rs.bad k p = r := HR.out
   subst ER
   exact ⟨rfl, F1.out, rfl⟩
  | ok u1 s1 =>
   rw [h1] at HR
   try simp only [bnd_ok] at HR
   have C1 := hideIt (fun X (h : RD X R g cap L s) => node_rd R g cap L s X h ⟨5, 0, 0, t, 0, 0, 0, bs nm, ⟨#[]⟩⟩ none 0 0)
   (go_at_call 31; refine Calls.mono (okc h1 (C1.out _ (by repeat with_reducible first | exact HD.out | apply RD.alloc | apply RD.drew | refine RD.setCell ?_ (by (try dsimp only); omega) _))) ?_; rintro e x1 ⟨v1, rfl, rfl, f1, d1⟩; have D1 := hideIt d1; have F1 := hideIt (show Fr R w x1 from Fr.trans (by repeat with_reducible first | exact (Fr.refl R w) | apply Fr.alloc | apply Fr.drew | refine Fr.setNew ?_ (by (try dsimp only); omega) _) f1); have Z1 : w.heap.size + 2 ≤ x1.heap.size := (by have z := f1.size; (try simp at z); omega); have Br_1 := hideIt (Bx.fr (b := w.heap.size + 1) (v := (nk 0)) (s := (.slice none 0 0)) (by repeat first | refine Bx.newAt _ (nk 0) (.slice none 0 0) (by simp; done) | with_reducible apply Bx.alloc | with_reducible refine Bx.set ?_ (by (try dsimp only); omega) _ | with_reducible apply Bx.drew) (by omega) f1); have yr1 := Br_1.out.lt; clear C1; clear f1 d1)
   go_wp2_with (fail)
   cases h2 : (needM [40] s1).bnd fun _ s => (tryM [41] s).bnd fun b s => if b then Rs.ok (nk 0, .nil) s else (rd n .param s).bnd fun x => rd n (.more .param (one x)) with
   | out => rw [h2] at HR; exact absurd HR.out.symm HN.out
   | bad k p =>
    rw [h2] at HR
    have C2 := hideIt (fun X (h : RD X R g cap L s1) => listed_rd_p R g cap L n HX s1 (by rw [h2]; exact fun e => by cases e) X h)
    (go_at_call 92; refine Calls.mono (badc h2 (C2.out _ (by repeat with_reducible first | exact D1.out | apply RD.alloc | apply RD.drew | refine RD.setCell ?_ (by (try dsimp only); omega) _))) ?_; rintro e x2 ⟨rfl, f2⟩; have F2 := hideIt (show Fr R w x2 from Fr.trans (by repeat with_reducible first | exact F1.out | apply Fr.alloc | apply Fr.drew | refine Fr.setNew ?_ (by (try dsimp only); omega) _) f2); clear f2)
    have ER : Rs.bad k p = r := HR.out
    subst ER
    exact ⟨rfl, F2.out, rfl⟩
   | ok l s2 =>
    have LLEN := hideIt (listed_len (Or.inl rfl) (node_wf wf0.out h1) h2)
    rw [h2] at HR
    try simp only [bnd_ok] at HR
    have C2 := hideIt (fun X (h : RD X R g cap L s1) => listed_rd_p R g cap L n HX s1 (by rw [h2]; exact fun e => by cases e) X h)
    (go_at_call 92; refine Calls.mono (okc h2 (C2.out _ (by repeat with_reducible first | exact D1.out | apply RD.alloc | apply RD.drew | refine RD.setCell ?_ (by (try dsimp only); omega) _))) ?_; rintro e x2 ⟨v2, rfl, ⟨⟨G2, li2⟩, hj2⟩, f2, d2⟩; have D2 := hideIt d2; have F2 := hideIt (show Fr R w x2 from Fr.trans (by repeat with_reducible first | exact F1.out | apply Fr.alloc | apply Fr.drew | refine Fr.setNew ?_ (by (try dsimp only); omega) _) f2); have Z2 : x1.heap.size + 1 ≤ x2.heap.size := (by have z := f2.size; (try simp at z); omega); have Il_2 := hideIt (LI.mono (B' := x1.heap.size + 1) li2 (by (try simp); try omega)); clear li2; have Jl := hideIt hj2; clear hj2; have Br_2 := hideIt (Bx.fr (b := w.heap.size + 1) (v := (nk 0)) (s := (.slice none 0 0)) (by repeat first | with_reducible exact Br_1.out | with_reducible apply Bx.alloc | with_reducible refine Bx.set ?_ (by (try dsimp only); omega) _ | with_reducible apply Bx.drew) (by omega) f2); have yr2 := Br_2.out.lt; have Bn_2 := hideIt (Bx.fr (b := x1.heap.size) (v := ⟨5, 0, 0, t, 0, 0, 0, bs nm, ⟨#[]⟩⟩) (s := (.slice none 0 0)) (by repeat first | refine Bx.newAt _ ⟨5, 0, 0, t, 0, 0, 0, bs nm, ⟨#[]⟩⟩ (.slice none 0 0) (by simp; done) | with_reducible apply Bx.alloc | with_reducible refine Bx.set ?_ (by (try dsimp only); omega) _ | with_reducible apply Bx.drew) (by omega) f2); have yn2 := Bn_2.out.lt; obtain ⟨n0, n1, n2, n3, n4, n5, n6, n7, n8, n9⟩ := Bn_2.out.ten; have nf := Bn_2.out.free; clear Br_1; clear C2; clear f2 d2)
    go_wp2_with (fail)
    cases h3 : rd n .block s2 with
    | out => rw [h3] at HR; exact absurd HR.out.symm HN.out
    | bad k p =>
     rw [h3] at HR
     have C3 := hideIt (fun X (h : RD X R g cap L s2) => (HB s2 (by rw [h3]; exact fun e => by cases e)) X h)
     (go_at_call 94; refine Calls.mono (badc h3 (C3.out _ (by repeat with_reducible first | exact D2.out | apply RD.alloc | apply RD.drew | refine RD.setCell ?_ (by (try dsimp only); omega) _))) ?_; rintro e x3 ⟨rfl, f3⟩; have F3 := hideIt (show Fr R w x3 from Fr.trans (by repeat with_reducible first | exact F2.out | apply Fr.alloc | apply Fr.drew | refine Fr.setNew ?_ (by (try dsimp only); omega) _) f3); clear f3)
     have ER : Rs.bad k p = r := HR.out
     subst ER
     exact ⟨rfl, F3.out, rfl⟩
    | ok x s3 =>
     rw [h3] at HR
     try simp only [bnd_ok] at HR
     have C3 := hideIt (fun X (h : RD X R g cap L s2) => (HB s2 (by rw [h3]; exact fun e => by cases e)) X h)
     (go_at_call 94; refine Calls.mono (okc h3 (C3.out _ (by repeat with_reducible first | exact D2.out | apply RD.alloc | apply RD.drew | refine RD.setCell ?_ (by (try dsimp only); omega) _))) ?_; rintro e x3 ⟨v3, rfl, hv3, f3, d3⟩; have D3 := hideIt d3; have F3 := hideIt (show Fr R w x3 from Fr.trans (by repeat with_reducible first | exact F2.out | apply Fr.alloc | apply Fr.drew | refine Fr.setNew ?_ (by (try dsimp only); omega) _) f3); have Z3 : x2.heap.size ≤ x3.heap.size := (by have z := f3.size; (try simp at z); omega); obtain ⟨a3, c3, g3, rfl, cp3, sk3, l3, ok3⟩ := hv3.out; have Lx_3 := hideIt (Ls.mono (B' := x2.heap.size) l3 (by (try simp); try omega) (Nat.le_refl _)); have Kx := hideIt (And.intro cp3 (And.intro sk3 ok3)); clear hv3 l3 cp3 sk3 ok3; have Il_3 := hideIt (Il_2.out.fr (R := R) (by omega) f3); have Br_3 := hideIt (Bx.fr (b := w.heap.size + 1) (v := (nk 0)) (s := (.slice none 0 0)) (by repeat first | with_reducible exact Br_2.out | with_reducible apply Bx.alloc | with_reducible refine Bx.set ?_ (by (try dsimp only); omega) _ | with_reducible apply Bx.drew) (by omega) f3); have yr3 := Br_3.out.lt; have Bn_3 := hideIt (Bx.fr (b := x1.heap.size) (v := ⟨5, 0, 0, t, 0, 0, 0, bs nm, ⟨#[]⟩⟩) (s := (.slice none 0 0)) (by repeat first | with_reducible exact Bn_2.out | with_reducible apply Bx.alloc | with_reducible refine Bx.set ?_ (by (try dsimp only); omega) _ | with_reducible apply Bx.drew) (by omega) f3); have yn3 := Bn_3.out.lt; obtain ⟨r0, r1, r2, r3, r4, r5, r6, r7, r8, r9⟩ := Br_3.out.ten; have rf := Br_3.out.free; clear n0 n1 n2 n3 n4 n5 n6 n7 n8 n9 nf yn2; obtain ⟨n0, n1, n2, n3, n4, n5, n6, n7, n8, n9⟩ := Bn_3.out.ten; have nf := Bn_3.out.free; have RLT := hideIt (fun k hk => (Il_2.out.lt k hk).2); have GLT := hideIt (show G2.len ≤ 70002 by have := Il_2.out.bound; have := LLEN.out; omega); clear Il_2 Br_2 Bn_2; clear C3; clear f3 d3)
     go_wp2_with (first | (at_builtin; refine app_node (B := x1.heap.size + 1) (X := x3) Il_3.out (by omega) (by omega) (y := x) Lx_3.out (by omega) (fun k hk => RLT.out k hk) Kx.out.2.2 Kx.out.2.1 Kx.out.1 GLT.out rfl (.tmp 16) (.tmp 19) rfl rfl rfl ?_; intro gg cc x9 li9 gr9; have I9 := hideIt li9; have RL := hideIt (fun k hk => (Il_3.out.lt k hk).1); have D9 := hideIt (RD.grown (D3.out.alloc _) gr9 (fun k hk => by have := RL.out k hk; omega)); have F9 := hideIt (Fr.grown (F3.out.alloc _) gr9 (fun k hk => by have := RL.out k hk; omega)); have Bn_9 := hideIt (Bx.grown (Bn_3.out.alloc _) gr9 (fun e => by have := RL.out _ e; omega)); have Br_9 := hideIt (Bx.grown (Br_3.out.alloc _) gr9 (fun e => by have := RL.out _ e; omega)); have yn9 := Bn_9.out.lt; have yr9 := Br_9.out.lt; clear n0 n1 n2 n3 n4 n5 n6 n7 n8 n9 nf yn3 r0 r1 r2 r3 r4 r5 r6 r7 r8 r9 rf yr3; obtain ⟨n0, n1, n2, n3, n4, n5, n6, n7, n8, n9⟩ := Bn_9.out.ten; have nf := Bn_9.out.free; obtain ⟨r0, r1, r2, r3, r4, r5, r6, r7, r8, r9⟩ := Br_9.out.ten; have rf := Br_9.out.free; clear li9 gr9) | fail)
     have ER := HR.out
     subst ER
     refine bodyPost_ret (v := nodeV ⟨5, 0, 0, t, 0, 0, 0, bs nm, ⟨#[]⟩⟩ (.slice (some ⟨gg, 0, none⟩) (G2.len + 1) cc)) (by simp [results, Tryz.results71, go_sem, *]) rfl ⟨(by repeat with_reducible first | exact F9.out | apply Fr.alloc | apply Fr.drew | refine Fr.setNew ?_ (by (try dsimp only); omega) _), _, rfl, ?_, (by repeat with_reducible first | exact D9.out | apply RD.alloc | apply RD.drew | refine RD.setCell ?_ (by (try dsimp only); omega) _)⟩
     obtain ⟨a9, c9, f9, e9, cp9, sk9, l9⟩ := (I9.out.done (x := (⟨5, 0, 0, t, 0, 0, 0, bs nm, ⟨#[]⟩⟩, l.2.app (one x)))).out
     have L9 := hideIt l9
     rw [e9]
     exact NV.mk (x := (⟨5, 0, 0, t, 0, 0, 0, bs nm, ⟨#[]⟩⟩, l.2.app (one x))) (B' := x1.heap.size + 1) (U := x9.heap.size) cp9 sk9 (by repeat with_reducible first | exact L9.out | apply Ls.alloc | apply Ls.drew | refine Ls.set ?_ (by (try dsimp only); omega) _) (by omega) (by refine nf_ok ?_ ?_ ?_ ?_ ?_ ?_ ?_ ?_ ?_ <;> first | omega | decide | (rw [bs_size]; omega) | exact Nat.zero_le _)

end Go.Proofs.YtoilhcklflmamaaGreatDoor
