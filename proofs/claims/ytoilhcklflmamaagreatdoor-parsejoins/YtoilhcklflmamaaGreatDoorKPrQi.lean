/-
  A block: contracts over the program; the conditions: the reader lies in memory as it should, and what is called keeps its own contract.
  An item: contracts over the program; the conditions: the reader lies in memory as it should, and what is called keeps its own contract.
-/
import Derived.Test.YtoilhcklflmamaaGreatDoorKPrPa
import Derived.Test.YtoilhcklflmamaaGreatDoorKPrG
namespace Go.Proofs.YtoilhcklflmamaaGreatDoor
open Go.RowKit
open Pr
set_option linter.unusedVariables false

set_option maxRecDepth 100000 in
set_option maxHeartbeats 4000000 in
theorem block_rd (R g cap : Nat) (L : List Tok) (n : Nat) (HX : ∀ m, m ≤ n → ∀ s, rd m .statement s ≠ .out → Rule 110 #[] R g cap L s (rd m .statement s)) (s : St) (hno : rd (n + 1) .block s ≠ .out) :
    Rule 94 #[] R g cap L s (rd (n + 1) .block s) := by
  intro w h
  have e : rd (n + 1) .block s = (nodeM s).bnd fun _ s => ((needM [123] s).bnd fun _ s => rd n (.rep .statement .nil) s).bnd fun l s => .ok (nk 7, l.2) s := by simp only [rd, bnd_assoc]
  rw [e] at hno ⊢
  clear e
  have HD := hideIt h
  have hR := h.b.lt_size
  clear h
  obtain ⟨r, hr⟩ : ∃ r, ((nodeM s).bnd fun _ s => ((needM [123] s).bnd fun _ s => rd n (.rep .statement .nil) s).bnd fun l s => .ok (nk 7, l.2) s : Rs Nd) = r := ⟨_, rfl⟩
  rw [hr] at hno ⊢
  have HR := hideIt hr
  have HN := hideIt hno
  clear hr hno
  have hmf : ∀ (fn : Fn) (first cap : Array Value) (w : World), (Instr.makeFunc fn first cap).run Tryz.prog w = .ok (.func fn first cap) w := fun _ _ _ _ => rfl
  go_enter Tryz.func94, Tryz.ntmps94
  go_wp2_with (fail)
  cases h1 : nodeM s with
  | out => rw [h1] at HR; exact absurd HR.out.symm HN.out
  | bad k p =>
   rw [h1] at HR
   have C1 := hideIt (fun X (h : RD X R g cap L s) => node_rd R g cap L s X h (nk 7) none 0 0)
   (go_at_call 31; refine Calls.mono (badc h1 (C1.out _ (by repeat with_reducible first | exact HD.out | apply RD.alloc | apply RD.drew | refine RD.setCell ?_ (by (try dsimp only); omega) _))) ?_; rintro e x1 ⟨rfl, f1⟩; have F1 := hideIt (show Fr R w x1 from Fr.trans (by repeat with_reducible first | exact (Fr.refl R w) | apply Fr.alloc | apply Fr.drew | refine Fr.setNew ?_ (by (try dsimp only); omega) _) f1); clear f1)
   have ER : Rs.bad k p = r := HR.out
   subst ER
   exact ⟨rfl, F1.out, rfl⟩
  | ok u1 s1 =>
   rw [h1] at HR
   try simp only [bnd_ok] at HR
   have C1 := hideIt (fun X (h : RD X R g cap L s) => node_rd R g cap L s X h (nk 7) none 0 0)
   (go_at_call 31; refine Calls.mono (okc h1 (C1.out _ (by repeat with_reducible first | exact HD.out | apply RD.alloc | apply RD.drew | refine RD.setCell ?_ (by (try dsimp only); omega) _))) ?_; rintro e x1 ⟨v1, rfl, rfl, f1, d1⟩; have D1 := hideIt d1; have F1 := hideIt (show Fr R w x1 from Fr.trans (by repeat with_reducible first | exact (Fr.refl R w) | apply Fr.alloc | apply Fr.drew | refine Fr.setNew ?_ (by (try dsimp only); omega) _) f1); have Z1 : w.heap.size + 1 ≤ x1.heap.size := (by have z := f1.size; (try simp at z); omega); have Br_1 := hideIt (Bx.fr (b := w.heap.size) (v := (nk 0)) (s := (.slice none 0 0)) (by repeat first | refine Bx.newAt _ (nk 0) (.slice none 0 0) (by simp; done) | with_reducible apply Bx.alloc | with_reducible refine Bx.set ?_ (by (try dsimp only); omega) _ | with_reducible apply Bx.drew) (by omega) f1); have yr1 := Br_1.out.lt; clear C1; clear f1 d1)
   go_wp2_with (fail)
   cases h2 : (needM [123] s1).bnd fun _ s => rd n (.rep .statement .nil) s with
   | out => rw [h2] at HR; exact absurd HR.out.symm HN.out
   | bad k p =>
    rw [h2] at HR
    have C2 := hideIt (fun X (h : RD X R g cap L s1) => repeated_rd_s R g cap L n HX s1 (by rw [h2]; exact fun e => by cases e) X h)
    (go_at_call 67; refine Calls.mono (badc h2 (C2.out _ (by repeat with_reducible first | exact D1.out | apply RD.alloc | apply RD.drew | refine RD.setCell ?_ (by (try dsimp only); omega) _))) ?_; rintro e x2 ⟨rfl, f2⟩; have F2 := hideIt (show Fr R w x2 from Fr.trans (by repeat with_reducible first | exact F1.out | apply Fr.alloc | apply Fr.drew | refine Fr.setNew ?_ (by (try dsimp only); omega) _) f2); clear f2)
    have ER : Rs.bad k p = r := HR.out
    subst ER
    exact ⟨rfl, F2.out, rfl⟩
   | ok l s2 =>
    rw [h2] at HR
    try simp only [bnd_ok] at HR
    have C2 := hideIt (fun X (h : RD X R g cap L s1) => repeated_rd_s R g cap L n HX s1 (by rw [h2]; exact fun e => by cases e) X h)
    (go_at_call 67; refine Calls.mono (okc h2 (C2.out _ (by repeat with_reducible first | exact D1.out | apply RD.alloc | apply RD.drew | refine RD.setCell ?_ (by (try dsimp only); omega) _))) ?_; rintro e x2 ⟨v2, rfl, hv2, f2, d2⟩; have D2 := hideIt d2; have F2 := hideIt (show Fr R w x2 from Fr.trans (by repeat with_reducible first | exact F1.out | apply Fr.alloc | apply Fr.drew | refine Fr.setNew ?_ (by (try dsimp only); omega) _) f2); have Z2 : x1.heap.size + 1 ≤ x2.heap.size := (by have z := f2.size; (try simp at z); omega); obtain ⟨a2, c2, g2, rfl, cp2, sk2, l2⟩ := hv2.out; have Ll_2 := hideIt (Ls.mono (B' := x1.heap.size + 1) l2 (by (try simp); try omega) (Nat.le_refl _)); have Kl := hideIt (And.intro cp2 sk2); clear hv2 l2 cp2 sk2; have Br_2 := hideIt (Bx.fr (b := w.heap.size) (v := (nk 0)) (s := (.slice none 0 0)) (by repeat first | with_reducible exact Br_1.out | with_reducible apply Bx.alloc | with_reducible refine Bx.set ?_ (by (try dsimp only); omega) _ | with_reducible apply Bx.drew) (by omega) f2); have yr2 := Br_2.out.lt; have Bn_2 := hideIt (Bx.fr (b := x1.heap.size) (v := (nk 7)) (s := (.slice none 0 0)) (by repeat first | refine Bx.newAt _ (nk 7) (.slice none 0 0) (by simp; done) | with_reducible apply Bx.alloc | with_reducible refine Bx.set ?_ (by (try dsimp only); omega) _ | with_reducible apply Bx.drew) (by omega) f2); have yn2 := Bn_2.out.lt; obtain ⟨r0, r1, r2, r3, r4, r5, r6, r7, r8, r9⟩ := Br_2.out.ten; have rf := Br_2.out.free; obtain ⟨n0, n1, n2, n3, n4, n5, n6, n7, n8, n9⟩ := Bn_2.out.ten; have nf := Bn_2.out.free; clear Br_1; clear C2; clear f2 d2)
    go_wp2_with (fail)
    have ER := HR.out
    subst ER
    refine bodyPost_ret (v := nodeV (nk 7) (.slice a2 g2.len c2)) (by simp [results, Tryz.results94, go_sem, *]) rfl ⟨(by repeat with_reducible first | exact F2.out | apply Fr.alloc | apply Fr.drew | refine Fr.setNew ?_ (by (try dsimp only); omega) _), _, rfl, ?_, (by repeat with_reducible first | exact D2.out | apply RD.alloc | apply RD.drew | refine RD.setCell ?_ (by (try dsimp only); omega) _)⟩
    exact NV.mk (x := ((nk 7), l.2)) (B' := x1.heap.size + 1) (U := x2.heap.size) Kl.out.1 Kl.out.2 (by repeat with_reducible first | exact Ll_2.out | apply Ls.alloc | apply Ls.drew | refine Ls.set ?_ (by (try dsimp only); omega) _) (by omega) (by refine nf_ok ?_ ?_ ?_ ?_ ?_ ?_ ?_ ?_ ?_ <;> first | omega | decide | (rw [bs_size]; omega) | exact Nat.zero_le _)

end Go.Proofs.YtoilhcklflmamaaGreatDoor

namespace Go.Proofs.YtoilhcklflmamaaGreatDoor
open Go.RowKit
open Pr
set_option linter.unusedVariables false

set_option maxRecDepth 100000 in
set_option maxHeartbeats 4000000 in
theorem item_rd (R g cap : Nat) (L : List Tok) (n : Nat) (HX : ∀ m, m ≤ n → ∀ s, rd m .field s ≠ .out → Rule 68 #[] R g cap L s (rd m .field s)) (HS : ∀ (k : Int), 0 ≤ k ∧ k ≤ 255 → ∀ of : List UInt8, of.length ≤ 65536 → ∀ s, rd n (.structured k of) s ≠ .out → Rule 69 #[.int .u8 k, .string (bs of)] R g cap L s (rd n (.structured k of) s)) (HFN : ∀ (t : Nat) (nm : List UInt8), t < 6 → nm.length ≤ 65536 → ∀ s, rd n (.function t nm) s ≠ .out → Rule 71 #[.agg #[.int .u8 0, .int .u8 (t : Int), .int .i64 0], .string (bs nm)] R g cap L s (rd n (.function t nm) s)) (HVL : ∀ v : NF, v.ok → ∀ s, rd n (.variable v false) s ≠ .out → Rule 72 #[nodeV v (.slice none 0 0), .func (.func 73) #[rp R] #[]] R g cap L s (rd n (.variable v false) s)) (s : St) (hno : rd (n + 1) .item s ≠ .out) :
    Rule 33 #[] R g cap L s (rd (n + 1) .item s) := by
  intro w h
  have e : rd (n + 1) .item s = (tryM [115, 116, 114, 117, 99, 116] s).bnd fun b s => if b then (nameM s).bnd fun nm s => if tx s = [123] then (nodeM s).bnd fun _ s => ((needM [123] s).bnd fun _ s => rd n (.rep .field .nil) s).bnd fun l s => .ok (⟨2, 0, 0, 0, 0, 0, 0, bs nm, ⟨#[]⟩⟩, l.2) s else rd n (.structured 4 nm) s else (intM s).bnd fun t s => (nameM s).bnd fun nm s => if tx s = [40] then rd n (.function t nm) s else rd n (.variable ⟨4, 0, 0, t, 0, 0, 0, bs nm, ⟨#[]⟩⟩ false) s := by simp only [rd, bnd_assoc]
  rw [e] at hno ⊢
  clear e
  have HD := hideIt h
  have hR := h.b.lt_size
  have wf0 := hideIt h.p.wf
  clear h
  obtain ⟨r, hr⟩ : ∃ r, ((tryM [115, 116, 114, 117, 99, 116] s).bnd fun b s => if b then (nameM s).bnd fun nm s => if tx s = [123] then (nodeM s).bnd fun _ s => ((needM [123] s).bnd fun _ s => rd n (.rep .field .nil) s).bnd fun l s => .ok (⟨2, 0, 0, 0, 0, 0, 0, bs nm, ⟨#[]⟩⟩, l.2) s else rd n (.structured 4 nm) s else (intM s).bnd fun t s => (nameM s).bnd fun nm s => if tx s = [40] then rd n (.function t nm) s else rd n (.variable ⟨4, 0, 0, t, 0, 0, 0, bs nm, ⟨#[]⟩⟩ false) s : Rs Nd) = r := ⟨_, rfl⟩
  rw [hr] at hno ⊢
  have HR := hideIt hr
  have HN := hideIt hno
  clear hr hno
  have hmf : ∀ (fn : Fn) (first cap : Array Value) (w : World), (Instr.makeFunc fn first cap).run Tryz.prog w = .ok (.func fn first cap) w := fun _ _ _ _ => rfl
  go_enter Tryz.func33, Tryz.ntmps33
  go_wp2_with (fail)
  cases h1 : tryM [115, 116, 114, 117, 99, 116] s with
  | out => rw [h1] at HR; exact absurd HR.out.symm HN.out
  | bad k p =>
   rw [h1] at HR
   have C1 := hideIt (fun X (h : RD X R g cap L s) => try_any [115, 116, 114, 117, 99, 116] (by decide) R g cap L s X h)
   (go_at_call_of 64 (Value.string ⟨#[115, 116, 114, 117, 99, 116]⟩); refine Calls.mono (badc h1 (C1.out _ (by repeat with_reducible first | exact HD.out | apply RD.alloc | apply RD.drew | refine RD.setCell ?_ (by (try dsimp only); omega) _))) ?_; rintro e x1 ⟨rfl, f1⟩; have F1 := hideIt (show Fr R w x1 from Fr.trans (by repeat with_reducible first | exact (Fr.refl R w) | apply Fr.alloc | apply Fr.drew | refine Fr.setNew ?_ (by (try dsimp only); omega) _) f1); clear f1)
   have ER : Rs.bad k p = r := HR.out
   subst ER
   exact ⟨rfl, F1.out, rfl⟩
  | ok b1 s1 =>
   rw [h1] at HR
   try simp only [bnd_ok] at HR
   cases b1 with
   | true =>
    try simp only [if_true] at HR
    have C1 := hideIt (fun X (h : RD X R g cap L s) => try_any [115, 116, 114, 117, 99, 116] (by decide) R g cap L s X h)
    (go_at_call_of 64 (Value.string ⟨#[115, 116, 114, 117, 99, 116]⟩); refine Calls.mono (okc h1 (C1.out _ (by repeat with_reducible first | exact HD.out | apply RD.alloc | apply RD.drew | refine RD.setCell ?_ (by (try dsimp only); omega) _))) ?_; rintro e x1 ⟨v1, rfl, rfl, f1, d1⟩; have D1 := hideIt d1; have F1 := hideIt (show Fr R w x1 from Fr.trans (by repeat with_reducible first | exact (Fr.refl R w) | apply Fr.alloc | apply Fr.drew | refine Fr.setNew ?_ (by (try dsimp only); omega) _) f1); have Z1 : w.heap.size + 1 ≤ x1.heap.size := (by have z := f1.size; (try simp at z); omega); have Br_1 := hideIt (Bx.fr (b := w.heap.size) (v := (nk 0)) (s := (.slice none 0 0)) (by repeat first | refine Bx.newAt _ (nk 0) (.slice none 0 0) (by simp; done) | with_reducible apply Bx.alloc | with_reducible refine Bx.set ?_ (by (try dsimp only); omega) _ | with_reducible apply Bx.drew) (by omega) f1); have yr1 := Br_1.out.lt; clear C1; clear f1 d1)
    go_wp2_with (fail)
    cases h2 : nameM s1 with
    | out => rw [h2] at HR; exact absurd HR.out.symm HN.out
    | bad k p =>
     rw [h2] at HR
     have C2 := hideIt (fun X (h : RD X R g cap L s1) => name_rd R g cap L s1 X h)
     (go_at_call 65; refine Calls.mono (badc h2 (C2.out _ (by repeat with_reducible first | exact D1.out | apply RD.alloc | apply RD.drew | refine RD.setCell ?_ (by (try dsimp only); omega) _))) ?_; rintro e x2 ⟨rfl, f2⟩; have F2 := hideIt (show Fr R w x2 from Fr.trans (by repeat with_reducible first | exact F1.out | apply Fr.alloc | apply Fr.drew | refine Fr.setNew ?_ (by (try dsimp only); omega) _) f2); clear f2)
     have ER : Rs.bad k p = r := HR.out
     subst ER
     exact ⟨rfl, F2.out, rfl⟩
    | ok nm s2 =>
     rw [h2] at HR
     try simp only [bnd_ok] at HR
     have C2 := hideIt (fun X (h : RD X R g cap L s1) => name_rd R g cap L s1 X h)
     (go_at_call 65; refine Calls.mono (okc h2 (C2.out _ (by repeat with_reducible first | exact D1.out | apply RD.alloc | apply RD.drew | refine RD.setCell ?_ (by (try dsimp only); omega) _))) ?_; rintro e x2 ⟨v2, rfl, rfl, f2, d2⟩; have D2 := hideIt d2; have F2 := hideIt (show Fr R w x2 from Fr.trans (by repeat with_reducible first | exact F1.out | apply Fr.alloc | apply Fr.drew | refine Fr.setNew ?_ (by (try dsimp only); omega) _) f2); have Z2 : x1.heap.size ≤ x2.heap.size := (by have z := f2.size; (try simp at z); omega); have Br_2 := hideIt (Bx.fr (b := w.heap.size) (v := (nk 0)) (s := (.slice none 0 0)) (by repeat first | with_reducible exact Br_1.out | with_reducible apply Bx.alloc | with_reducible refine Bx.set ?_ (by (try dsimp only); omega) _ | with_reducible apply Bx.drew) (by omega) f2); have yr2 := Br_2.out.lt; clear Br_1; clear C2; clear f2 d2)
     go_wp2_with (fail)
     by_cases h3 : tx s2 = [123]
     · rw [if_pos h3] at HR
       have C3 := hideIt (fun X (h : RD X R g cap L s2) => is_any R g cap L s2 X h [123])
       (go_at_call_of 66 (Value.string ⟨#[123]⟩); refine Calls.mono (C3.out _ (by repeat with_reducible first | exact D2.out | apply RD.alloc | apply RD.drew | refine RD.setCell ?_ (by (try dsimp only); omega) _)) ?_; rw [decide_eq_true h3]; rintro e x3 ⟨rfl, q3⟩; have f3 := Fr.of_q (R := R) q3; have D3 := hideIt (show RD x3 R g cap L s2 from RD.q (by repeat with_reducible first | exact D2.out | apply RD.alloc | apply RD.drew | refine RD.setCell ?_ (by (try dsimp only); omega) _) q3); have F3 := hideIt (show Fr R w x3 from Fr.trans (by repeat with_reducible first | exact F2.out | apply Fr.alloc | apply Fr.drew | refine Fr.setNew ?_ (by (try dsimp only); omega) _) f3); have Z3 : x2.heap.size ≤ x3.heap.size := (by have z := f3.size; (try simp at z); omega); have Br_3 := hideIt (Bx.fr (b := w.heap.size) (v := (nk 0)) (s := (.slice none 0 0)) (by repeat first | with_reducible exact Br_2.out | with_reducible apply Bx.alloc | with_reducible refine Bx.set ?_ (by (try dsimp only); omega) _ | with_reducible apply Bx.drew) (by omega) f3); have yr3 := Br_3.out.lt; clear Br_2; clear C3; clear f3 q3)
       go_wp2_with (fail)
       cases h4 : nodeM s2 with
       | out => rw [h4] at HR; exact absurd HR.out.symm HN.out
       | bad k p =>
        rw [h4] at HR
        have C4 := hideIt (fun X (h : RD X R g cap L s2) => node_rd R g cap L s2 X h ⟨2, 0, 0, 0, 0, 0, 0, bs nm, ⟨#[]⟩⟩ none 0 0)
        (go_at_call 31; refine Calls.mono (badc h4 (C4.out _ (by repeat with_reducible first | exact D3.out | apply RD.alloc | apply RD.drew | refine RD.setCell ?_ (by (try dsimp only); omega) _))) ?_; rintro e x4 ⟨rfl, f4⟩; have F4 := hideIt (show Fr R w x4 from Fr.trans (by repeat with_reducible first | exact F3.out | apply Fr.alloc | apply Fr.drew | refine Fr.setNew ?_ (by (try dsimp only); omega) _) f4); clear f4)
        have ER : Rs.bad k p = r := HR.out
        subst ER
        exact ⟨rfl, F4.out, rfl⟩
       | ok u4 s4 =>
        rw [h4] at HR
        try simp only [bnd_ok] at HR
        have C4 := hideIt (fun X (h : RD X R g cap L s2) => node_rd R g cap L s2 X h ⟨2, 0, 0, 0, 0, 0, 0, bs nm, ⟨#[]⟩⟩ none 0 0)
        (go_at_call 31; refine Calls.mono (okc h4 (C4.out _ (by repeat with_reducible first | exact D3.out | apply RD.alloc | apply RD.drew | refine RD.setCell ?_ (by (try dsimp only); omega) _))) ?_; rintro e x4 ⟨v4, rfl, rfl, f4, d4⟩; have D4 := hideIt d4; have F4 := hideIt (show Fr R w x4 from Fr.trans (by repeat with_reducible first | exact F3.out | apply Fr.alloc | apply Fr.drew | refine Fr.setNew ?_ (by (try dsimp only); omega) _) f4); have Z4 : x3.heap.size ≤ x4.heap.size := (by have z := f4.size; (try simp at z); omega); have Br_4 := hideIt (Bx.fr (b := w.heap.size) (v := (nk 0)) (s := (.slice none 0 0)) (by repeat first | with_reducible exact Br_3.out | with_reducible apply Bx.alloc | with_reducible refine Bx.set ?_ (by (try dsimp only); omega) _ | with_reducible apply Bx.drew) (by omega) f4); have yr4 := Br_4.out.lt; clear Br_3; clear C4; clear f4 d4)
        go_wp2_with (fail)
        cases h5 : (needM [123] s4).bnd fun _ s => rd n (.rep .field .nil) s with
        | out => rw [h5] at HR; exact absurd HR.out.symm HN.out
        | bad k p =>
         rw [h5] at HR
         have C5 := hideIt (fun X (h : RD X R g cap L s4) => repeated_rd_f R g cap L n HX s4 (by rw [h5]; exact fun e => by cases e) X h)
         (go_at_call 67; refine Calls.mono (badc h5 (C5.out _ (by repeat with_reducible first | exact D4.out | apply RD.alloc | apply RD.drew | refine RD.setCell ?_ (by (try dsimp only); omega) _))) ?_; rintro e x5 ⟨rfl, f5⟩; have F5 := hideIt (show Fr R w x5 from Fr.trans (by repeat with_reducible first | exact F4.out | apply Fr.alloc | apply Fr.drew | refine Fr.setNew ?_ (by (try dsimp only); omega) _) f5); clear f5)
         have ER : Rs.bad k p = r := HR.out
         subst ER
         exact ⟨rfl, F5.out, rfl⟩
        | ok l s5 =>
         rw [h5] at HR
         try simp only [bnd_ok] at HR
         have C5 := hideIt (fun X (h : RD X R g cap L s4) => repeated_rd_f R g cap L n HX s4 (by rw [h5]; exact fun e => by cases e) X h)
         (go_at_call 67; refine Calls.mono (okc h5 (C5.out _ (by repeat with_reducible first | exact D4.out | apply RD.alloc | apply RD.drew | refine RD.setCell ?_ (by (try dsimp only); omega) _))) ?_; rintro e x5 ⟨v5, rfl, hv5, f5, d5⟩; have D5 := hideIt d5; have F5 := hideIt (show Fr R w x5 from Fr.trans (by repeat with_reducible first | exact F4.out | apply Fr.alloc | apply Fr.drew | refine Fr.setNew ?_ (by (try dsimp only); omega) _) f5); have Z5 : x4.heap.size + 1 ≤ x5.heap.size := (by have z := f5.size; (try simp at z); omega); obtain ⟨a5, c5, g5, rfl, cp5, sk5, l5⟩ := hv5.out; have Ll_5 := hideIt (Ls.mono (B' := x4.heap.size + 1) l5 (by (try simp); try omega) (Nat.le_refl _)); have Kl := hideIt (And.intro cp5 sk5); clear hv5 l5 cp5 sk5; have Br_5 := hideIt (Bx.fr (b := w.heap.size) (v := (nk 0)) (s := (.slice none 0 0)) (by repeat first | with_reducible exact Br_4.out | with_reducible apply Bx.alloc | with_reducible refine Bx.set ?_ (by (try dsimp only); omega) _ | with_reducible apply Bx.drew) (by omega) f5); have yr5 := Br_5.out.lt; have Bn_5 := hideIt (Bx.fr (b := x4.heap.size) (v := ⟨2, 0, 0, 0, 0, 0, 0, bs nm, ⟨#[]⟩⟩) (s := (.slice none 0 0)) (by repeat first | refine Bx.newAt _ ⟨2, 0, 0, 0, 0, 0, 0, bs nm, ⟨#[]⟩⟩ (.slice none 0 0) (by simp; done) | with_reducible apply Bx.alloc | with_reducible refine Bx.set ?_ (by (try dsimp only); omega) _ | with_reducible apply Bx.drew) (by omega) f5); have yn5 := Bn_5.out.lt; obtain ⟨r0, r1, r2, r3, r4, r5, r6, r7, r8, r9⟩ := Br_5.out.ten; have rf := Br_5.out.free; obtain ⟨n0, n1, n2, n3, n4, n5, n6, n7, n8, n9⟩ := Bn_5.out.ten; have nf := Bn_5.out.free; clear Br_4; clear C5; clear f5 d5)
         go_wp2_with (fail)
         have ER := HR.out
         subst ER
         have ob2 := name_ok h2 D1.out.p.wf
         refine bodyPost_ret (v := nodeV ⟨2, 0, 0, 0, 0, 0, 0, bs nm, ⟨#[]⟩⟩ (.slice a5 g5.len c5)) (by simp [results, Tryz.results33, go_sem, *]) rfl ⟨(by repeat with_reducible first | exact F5.out | apply Fr.alloc | apply Fr.drew | refine Fr.setNew ?_ (by (try dsimp only); omega) _), _, rfl, ?_, (by repeat with_reducible first | exact D5.out | apply RD.alloc | apply RD.drew | refine RD.setCell ?_ (by (try dsimp only); omega) _)⟩
         exact NV.mk (x := (⟨2, 0, 0, 0, 0, 0, 0, bs nm, ⟨#[]⟩⟩, l.2)) (B' := x4.heap.size + 1) (U := x5.heap.size) Kl.out.1 Kl.out.2 (by repeat with_reducible first | exact Ll_5.out | apply Ls.alloc | apply Ls.drew | refine Ls.set ?_ (by (try dsimp only); omega) _) (by omega) (by refine nf_ok ?_ ?_ ?_ ?_ ?_ ?_ ?_ ?_ ?_ <;> first | omega | decide | (rw [bs_size]; omega) | exact Nat.zero_le _)
     · rw [if_neg h3] at HR
       have C3 := hideIt (fun X (h : RD X R g cap L s2) => is_any R g cap L s2 X h [123])
       (go_at_call_of 66 (Value.string ⟨#[123]⟩); refine Calls.mono (C3.out _ (by repeat with_reducible first | exact D2.out | apply RD.alloc | apply RD.drew | refine RD.setCell ?_ (by (try dsimp only); omega) _)) ?_; rw [decide_eq_false h3]; rintro e x3 ⟨rfl, q3⟩; have f3 := Fr.of_q (R := R) q3; have D3 := hideIt (show RD x3 R g cap L s2 from RD.q (by repeat with_reducible first | exact D2.out | apply RD.alloc | apply RD.drew | refine RD.setCell ?_ (by (try dsimp only); omega) _) q3); have F3 := hideIt (show Fr R w x3 from Fr.trans (by repeat with_reducible first | exact F2.out | apply Fr.alloc | apply Fr.drew | refine Fr.setNew ?_ (by (try dsimp only); omega) _) f3); have Z3 : x2.heap.size ≤ x3.heap.size := (by have z := f3.size; (try simp at z); omega); have Br_3 := hideIt (Bx.fr (b := w.heap.size) (v := (nk 0)) (s := (.slice none 0 0)) (by repeat first | with_reducible exact Br_2.out | with_reducible apply Bx.alloc | with_reducible refine Bx.set ?_ (by (try dsimp only); omega) _ | with_reducible apply Bx.drew) (by omega) f3); have yr3 := Br_3.out.lt; clear Br_2; clear C3; clear f3 q3)
       go_wp2_with (fail)
       cases h4 : rd n (.structured 4 nm) s2 with
       | out => rw [h4] at HR; exact absurd HR.out.symm HN.out
       | bad k p =>
        rw [h4] at HR
        have C4 := hideIt (fun X (h : RD X R g cap L s2) => (HS 4 (by decide) nm (name_ok h2 (try_wf wf0.out (by decide) h1)) s2 (by rw [h4]; exact fun e => by cases e)) X h)
        (go_at_call 69; refine Calls.mono (badc h4 (C4.out _ (by repeat with_reducible first | exact D3.out | apply RD.alloc | apply RD.drew | refine RD.setCell ?_ (by (try dsimp only); omega) _))) ?_; rintro e x4 ⟨rfl, f4⟩; have F4 := hideIt (show Fr R w x4 from Fr.trans (by repeat with_reducible first | exact F3.out | apply Fr.alloc | apply Fr.drew | refine Fr.setNew ?_ (by (try dsimp only); omega) _) f4); clear f4)
        have ER : Rs.bad k p = r := HR.out
        subst ER
        exact ⟨rfl, F4.out, rfl⟩
       | ok x s4 =>
        rw [h4] at HR
        try simp only [bnd_ok] at HR
        have C4 := hideIt (fun X (h : RD X R g cap L s2) => (HS 4 (by decide) nm (name_ok h2 (try_wf wf0.out (by decide) h1)) s2 (by rw [h4]; exact fun e => by cases e)) X h)
        (go_at_call 69; refine Calls.mono (okc h4 (C4.out _ (by repeat with_reducible first | exact D3.out | apply RD.alloc | apply RD.drew | refine RD.setCell ?_ (by (try dsimp only); omega) _))) ?_; rintro e x4 ⟨v4, rfl, hv4, f4, d4⟩; have D4 := hideIt d4; have F4 := hideIt (show Fr R w x4 from Fr.trans (by repeat with_reducible first | exact F3.out | apply Fr.alloc | apply Fr.drew | refine Fr.setNew ?_ (by (try dsimp only); omega) _) f4); have Z4 : x3.heap.size ≤ x4.heap.size := (by have z := f4.size; (try simp at z); omega); obtain ⟨a4, c4, g4, rfl, cp4, sk4, l4, ok4⟩ := hv4.out; have Lx_4 := hideIt (Ls.mono (B' := x3.heap.size) l4 (by (try simp); try omega) (Nat.le_refl _)); have Kx := hideIt (And.intro cp4 (And.intro sk4 ok4)); clear hv4 l4 cp4 sk4 ok4; have Br_4 := hideIt (Bx.fr (b := w.heap.size) (v := (nk 0)) (s := (.slice none 0 0)) (by repeat first | with_reducible exact Br_3.out | with_reducible apply Bx.alloc | with_reducible refine Bx.set ?_ (by (try dsimp only); omega) _ | with_reducible apply Bx.drew) (by omega) f4); have yr4 := Br_4.out.lt; obtain ⟨r0, r1, r2, r3, r4, r5, r6, r7, r8, r9⟩ := Br_4.out.ten; have rf := Br_4.out.free; clear Br_3; clear C4; clear f4 d4)
        go_wp2_with (fail)
        have ER := HR.out
        subst ER
        have ob2 := name_ok h2 D1.out.p.wf
        refine bodyPost_ret (v := nodeV x.1 (.slice a4 g4.len c4)) (by simp [results, Tryz.results33, go_sem, *]) rfl ⟨(by repeat with_reducible first | exact F4.out | apply Fr.alloc | apply Fr.drew | refine Fr.setNew ?_ (by (try dsimp only); omega) _), _, rfl, ?_, (by repeat with_reducible first | exact D4.out | apply RD.alloc | apply RD.drew | refine RD.setCell ?_ (by (try dsimp only); omega) _)⟩
        exact NV.mk (x := x) (B' := x3.heap.size) (U := x4.heap.size) Kx.out.1 Kx.out.2.1 (by repeat with_reducible first | exact Lx_4.out | apply Ls.alloc | apply Ls.drew | refine Ls.set ?_ (by (try dsimp only); omega) _) (by omega) Kx.out.2.2
   | false =>
    try simp only [Bool.false_eq_true, if_false] at HR
    have C1 := hideIt (fun X (h : RD X R g cap L s) => try_any [115, 116, 114, 117, 99, 116] (by decide) R g cap L s X h)
    (go_at_call_of 64 (Value.string ⟨#[115, 116, 114, 117, 99, 116]⟩); refine Calls.mono (okc h1 (C1.out _ (by repeat with_reducible first | exact HD.out | apply RD.alloc | apply RD.drew | refine RD.setCell ?_ (by (try dsimp only); omega) _))) ?_; rintro e x1 ⟨v1, rfl, rfl, f1, d1⟩; have D1 := hideIt d1; have F1 := hideIt (show Fr R w x1 from Fr.trans (by repeat with_reducible first | exact (Fr.refl R w) | apply Fr.alloc | apply Fr.drew | refine Fr.setNew ?_ (by (try dsimp only); omega) _) f1); have Z1 : w.heap.size + 1 ≤ x1.heap.size := (by have z := f1.size; (try simp at z); omega); have Br_1 := hideIt (Bx.fr (b := w.heap.size) (v := (nk 0)) (s := (.slice none 0 0)) (by repeat first | refine Bx.newAt _ (nk 0) (.slice none 0 0) (by simp; done) | with_reducible apply Bx.alloc | with_reducible refine Bx.set ?_ (by (try dsimp only); omega) _ | with_reducible apply Bx.drew) (by omega) f1); have yr1 := Br_1.out.lt; clear C1; clear f1 d1)
    go_wp2_with (fail)
    cases h2 : intM s1 with
    | out => rw [h2] at HR; exact absurd HR.out.symm HN.out
    | bad k p =>
     rw [h2] at HR
     have C2 := hideIt (fun X (h : RD X R g cap L s1) => int_rd R g cap L s1 X h)
     (go_at_call 70; refine Calls.mono (badc h2 (C2.out _ (by repeat with_reducible first | exact D1.out | apply RD.alloc | apply RD.drew | refine RD.setCell ?_ (by (try dsimp only); omega) _))) ?_; rintro e x2 ⟨rfl, f2⟩; have F2 := hideIt (show Fr R w x2 from Fr.trans (by repeat with_reducible first | exact F1.out | apply Fr.alloc | apply Fr.drew | refine Fr.setNew ?_ (by (try dsimp only); omega) _) f2); clear f2)
     have ER : Rs.bad k p = r := HR.out
     subst ER
     exact ⟨rfl, F2.out, rfl⟩
    | ok t s2 =>
     rw [h2] at HR
     try simp only [bnd_ok] at HR
     have C2 := hideIt (fun X (h : RD X R g cap L s1) => int_rd R g cap L s1 X h)
     (go_at_call 70; refine Calls.mono (okc h2 (C2.out _ (by repeat with_reducible first | exact D1.out | apply RD.alloc | apply RD.drew | refine RD.setCell ?_ (by (try dsimp only); omega) _))) ?_; rintro e x2 ⟨v2, rfl, rfl, f2, d2⟩; have D2 := hideIt d2; have F2 := hideIt (show Fr R w x2 from Fr.trans (by repeat with_reducible first | exact F1.out | apply Fr.alloc | apply Fr.drew | refine Fr.setNew ?_ (by (try dsimp only); omega) _) f2); have Z2 : x1.heap.size ≤ x2.heap.size := (by have z := f2.size; (try simp at z); omega); have Br_2 := hideIt (Bx.fr (b := w.heap.size) (v := (nk 0)) (s := (.slice none 0 0)) (by repeat first | with_reducible exact Br_1.out | with_reducible apply Bx.alloc | with_reducible refine Bx.set ?_ (by (try dsimp only); omega) _ | with_reducible apply Bx.drew) (by omega) f2); have yr2 := Br_2.out.lt; clear Br_1; clear C2; clear f2 d2)
     go_wp2_with (fail)
     cases h3 : nameM s2 with
     | out => rw [h3] at HR; exact absurd HR.out.symm HN.out
     | bad k p =>
      rw [h3] at HR
      have C3 := hideIt (fun X (h : RD X R g cap L s2) => name_rd R g cap L s2 X h)
      (go_at_call 65; refine Calls.mono (badc h3 (C3.out _ (by repeat with_reducible first | exact D2.out | apply RD.alloc | apply RD.drew | refine RD.setCell ?_ (by (try dsimp only); omega) _))) ?_; rintro e x3 ⟨rfl, f3⟩; have F3 := hideIt (show Fr R w x3 from Fr.trans (by repeat with_reducible first | exact F2.out | apply Fr.alloc | apply Fr.drew | refine Fr.setNew ?_ (by (try dsimp only); omega) _) f3); clear f3)
      have ER : Rs.bad k p = r := HR.out
      subst ER
      exact ⟨rfl, F3.out, rfl⟩
     | ok nm s3 =>
      rw [h3] at HR
      try simp only [bnd_ok] at HR
      have C3 := hideIt (fun X (h : RD X R g cap L s2) => name_rd R g cap L s2 X h)
      (go_at_call 65; refine Calls.mono (okc h3 (C3.out _ (by repeat with_reducible first | exact D2.out | apply RD.alloc | apply RD.drew | refine RD.setCell ?_ (by (try dsimp only); omega) _))) ?_; rintro e x3 ⟨v3, rfl, rfl, f3, d3⟩; have D3 := hideIt d3; have F3 := hideIt (show Fr R w x3 from Fr.trans (by repeat with_reducible first | exact F2.out | apply Fr.alloc | apply Fr.drew | refine Fr.setNew ?_ (by (try dsimp only); omega) _) f3); have Z3 : x2.heap.size + 1 ≤ x3.heap.size := (by have z := f3.size; (try simp at z); omega); have Br_3 := hideIt (Bx.fr (b := w.heap.size) (v := (nk 0)) (s := (.slice none 0 0)) (by repeat first | with_reducible exact Br_2.out | with_reducible apply Bx.alloc | with_reducible refine Bx.set ?_ (by (try dsimp only); omega) _ | with_reducible apply Bx.drew) (by omega) f3); have yr3 := Br_3.out.lt; have TB3 := hideIt (Fr.box (R := R) (x := x2) (by omega) f3); have tc0 := cell_of_block TB3.out 0; have tc1 := cell_of_block TB3.out 1; have tc2 := cell_of_block TB3.out 2; have ty3 := lt_of_heap TB3.out; clear Br_2; clear C3; clear f3 d3)
      go_wp2_with (fail)
      by_cases h4 : tx s3 = [40]
      · rw [if_pos h4] at HR
        have C4 := hideIt (fun X (h : RD X R g cap L s3) => is_any R g cap L s3 X h [40])
        (go_at_call_of 66 (Value.string ⟨#[40]⟩); refine Calls.mono (C4.out _ (by repeat with_reducible first | exact D3.out | apply RD.alloc | apply RD.drew | refine RD.setCell ?_ (by (try dsimp only); omega) _)) ?_; rw [decide_eq_true h4]; rintro e x4 ⟨rfl, q4⟩; have f4 := Fr.of_q (R := R) q4; have D4 := hideIt (show RD x4 R g cap L s3 from RD.q (by repeat with_reducible first | exact D3.out | apply RD.alloc | apply RD.drew | refine RD.setCell ?_ (by (try dsimp only); omega) _) q4); have F4 := hideIt (show Fr R w x4 from Fr.trans (by repeat with_reducible first | exact F3.out | apply Fr.alloc | apply Fr.drew | refine Fr.setNew ?_ (by (try dsimp only); omega) _) f4); have Z4 : x3.heap.size ≤ x4.heap.size := (by have z := f4.size; (try simp at z); omega); have Br_4 := hideIt (Bx.fr (b := w.heap.size) (v := (nk 0)) (s := (.slice none 0 0)) (by repeat first | with_reducible exact Br_3.out | with_reducible apply Bx.alloc | with_reducible refine Bx.set ?_ (by (try dsimp only); omega) _ | with_reducible apply Bx.drew) (by omega) f4); have yr4 := Br_4.out.lt; have TB4 := hideIt (Fr.kept TB3.out (by omega) f4); clear tc0 tc1 tc2 ty3; have tc0 := cell_of_block TB4.out 0; have tc1 := cell_of_block TB4.out 1; have tc2 := cell_of_block TB4.out 2; have ty4 := lt_of_heap TB4.out; clear Br_3; clear C4; clear f4 q4)
        go_wp2_with (fail)
        cases h5 : rd n (.function t nm) s3 with
        | out => rw [h5] at HR; exact absurd HR.out.symm HN.out
        | bad k p =>
         rw [h5] at HR
         have C5 := hideIt (fun X (h : RD X R g cap L s3) => (HFN t nm (int_ok h2 (try_wf wf0.out (by decide) h1)) (name_ok h3 (int_wf (try_wf wf0.out (by decide) h1) h2)) s3 (by rw [h5]; exact fun e => by cases e)) X h)
         (go_at_call 71; refine Calls.mono (badc h5 (C5.out _ (by repeat with_reducible first | exact D4.out | apply RD.alloc | apply RD.drew | refine RD.setCell ?_ (by (try dsimp only); omega) _))) ?_; rintro e x5 ⟨rfl, f5⟩; have F5 := hideIt (show Fr R w x5 from Fr.trans (by repeat with_reducible first | exact F4.out | apply Fr.alloc | apply Fr.drew | refine Fr.setNew ?_ (by (try dsimp only); omega) _) f5); clear f5)
         have ER : Rs.bad k p = r := HR.out
         subst ER
         exact ⟨rfl, F5.out, rfl⟩
        | ok x s5 =>
         rw [h5] at HR
         try simp only [bnd_ok] at HR
         have C5 := hideIt (fun X (h : RD X R g cap L s3) => (HFN t nm (int_ok h2 (try_wf wf0.out (by decide) h1)) (name_ok h3 (int_wf (try_wf wf0.out (by decide) h1) h2)) s3 (by rw [h5]; exact fun e => by cases e)) X h)
         (go_at_call 71; refine Calls.mono (okc h5 (C5.out _ (by repeat with_reducible first | exact D4.out | apply RD.alloc | apply RD.drew | refine RD.setCell ?_ (by (try dsimp only); omega) _))) ?_; rintro e x5 ⟨v5, rfl, hv5, f5, d5⟩; have D5 := hideIt d5; have F5 := hideIt (show Fr R w x5 from Fr.trans (by repeat with_reducible first | exact F4.out | apply Fr.alloc | apply Fr.drew | refine Fr.setNew ?_ (by (try dsimp only); omega) _) f5); have Z5 : x4.heap.size ≤ x5.heap.size := (by have z := f5.size; (try simp at z); omega); obtain ⟨a5, c5, g5, rfl, cp5, sk5, l5, ok5⟩ := hv5.out; have Lx_5 := hideIt (Ls.mono (B' := x4.heap.size) l5 (by (try simp); try omega) (Nat.le_refl _)); have Kx := hideIt (And.intro cp5 (And.intro sk5 ok5)); clear hv5 l5 cp5 sk5 ok5; have Br_5 := hideIt (Bx.fr (b := w.heap.size) (v := (nk 0)) (s := (.slice none 0 0)) (by repeat first | with_reducible exact Br_4.out | with_reducible apply Bx.alloc | with_reducible refine Bx.set ?_ (by (try dsimp only); omega) _ | with_reducible apply Bx.drew) (by omega) f5); have yr5 := Br_5.out.lt; obtain ⟨r0, r1, r2, r3, r4, r5, r6, r7, r8, r9⟩ := Br_5.out.ten; have rf := Br_5.out.free; clear Br_4; clear C5; clear f5 d5)
         go_wp2_with (fail)
         have ER := HR.out
         subst ER
         have ob2 := int_ok h2 D1.out.p.wf
         have ob3 := name_ok h3 D2.out.p.wf
         refine bodyPost_ret (v := nodeV x.1 (.slice a5 g5.len c5)) (by simp [results, Tryz.results33, go_sem, *]) rfl ⟨(by repeat with_reducible first | exact F5.out | apply Fr.alloc | apply Fr.drew | refine Fr.setNew ?_ (by (try dsimp only); omega) _), _, rfl, ?_, (by repeat with_reducible first | exact D5.out | apply RD.alloc | apply RD.drew | refine RD.setCell ?_ (by (try dsimp only); omega) _)⟩
         exact NV.mk (x := x) (B' := x4.heap.size) (U := x5.heap.size) Kx.out.1 Kx.out.2.1 (by repeat with_reducible first | exact Lx_5.out | apply Ls.alloc | apply Ls.drew | refine Ls.set ?_ (by (try dsimp only); omega) _) (by omega) Kx.out.2.2
      · rw [if_neg h4] at HR
        have C4 := hideIt (fun X (h : RD X R g cap L s3) => is_any R g cap L s3 X h [40])
        (go_at_call_of 66 (Value.string ⟨#[40]⟩); refine Calls.mono (C4.out _ (by repeat with_reducible first | exact D3.out | apply RD.alloc | apply RD.drew | refine RD.setCell ?_ (by (try dsimp only); omega) _)) ?_; rw [decide_eq_false h4]; rintro e x4 ⟨rfl, q4⟩; have f4 := Fr.of_q (R := R) q4; have D4 := hideIt (show RD x4 R g cap L s3 from RD.q (by repeat with_reducible first | exact D3.out | apply RD.alloc | apply RD.drew | refine RD.setCell ?_ (by (try dsimp only); omega) _) q4); have F4 := hideIt (show Fr R w x4 from Fr.trans (by repeat with_reducible first | exact F3.out | apply Fr.alloc | apply Fr.drew | refine Fr.setNew ?_ (by (try dsimp only); omega) _) f4); have Z4 : x3.heap.size ≤ x4.heap.size := (by have z := f4.size; (try simp at z); omega); have Br_4 := hideIt (Bx.fr (b := w.heap.size) (v := (nk 0)) (s := (.slice none 0 0)) (by repeat first | with_reducible exact Br_3.out | with_reducible apply Bx.alloc | with_reducible refine Bx.set ?_ (by (try dsimp only); omega) _ | with_reducible apply Bx.drew) (by omega) f4); have yr4 := Br_4.out.lt; have TB4 := hideIt (Fr.kept TB3.out (by omega) f4); clear tc0 tc1 tc2 ty3; have tc0 := cell_of_block TB4.out 0; have tc1 := cell_of_block TB4.out 1; have tc2 := cell_of_block TB4.out 2; have ty4 := lt_of_heap TB4.out; clear Br_3; clear C4; clear f4 q4)
        go_wp2_with (fail)
        cases h5 : rd n (.variable ⟨4, 0, 0, t, 0, 0, 0, bs nm, ⟨#[]⟩⟩ false) s3 with
        | out => rw [h5] at HR; exact absurd HR.out.symm HN.out
        | bad k p =>
         rw [h5] at HR
         have C5 := hideIt (fun X (h : RD X R g cap L s3) => (HVL ⟨4, 0, 0, t, 0, 0, 0, bs nm, ⟨#[]⟩⟩ (by have o1 := int_ok h2 (try_wf wf0.out (by decide) h1); have o2 := name_ok h3 (int_wf (try_wf wf0.out (by decide) h1) h2); exact (by refine nf_ok ?_ ?_ ?_ ?_ ?_ ?_ ?_ ?_ ?_ <;> first | omega | decide | (rw [bs_size]; omega) | exact Nat.zero_le _)) s3 (by rw [h5]; exact fun e => by cases e)) X h)
         (go_at_call 72; refine Calls.mono (badc h5 (C5.out _ (by repeat with_reducible first | exact D4.out | apply RD.alloc | apply RD.drew | refine RD.setCell ?_ (by (try dsimp only); omega) _))) ?_; rintro e x5 ⟨rfl, f5⟩; have F5 := hideIt (show Fr R w x5 from Fr.trans (by repeat with_reducible first | exact F4.out | apply Fr.alloc | apply Fr.drew | refine Fr.setNew ?_ (by (try dsimp only); omega) _) f5); clear f5)
         have ER : Rs.bad k p = r := HR.out
         subst ER
         exact ⟨rfl, F5.out, rfl⟩
        | ok x s5 =>
         rw [h5] at HR
         try simp only [bnd_ok] at HR
         have C5 := hideIt (fun X (h : RD X R g cap L s3) => (HVL ⟨4, 0, 0, t, 0, 0, 0, bs nm, ⟨#[]⟩⟩ (by have o1 := int_ok h2 (try_wf wf0.out (by decide) h1); have o2 := name_ok h3 (int_wf (try_wf wf0.out (by decide) h1) h2); exact (by refine nf_ok ?_ ?_ ?_ ?_ ?_ ?_ ?_ ?_ ?_ <;> first | omega | decide | (rw [bs_size]; omega) | exact Nat.zero_le _)) s3 (by rw [h5]; exact fun e => by cases e)) X h)
         (go_at_call 72; refine Calls.mono (okc h5 (C5.out _ (by repeat with_reducible first | exact D4.out | apply RD.alloc | apply RD.drew | refine RD.setCell ?_ (by (try dsimp only); omega) _))) ?_; rintro e x5 ⟨v5, rfl, hv5, f5, d5⟩; have D5 := hideIt d5; have F5 := hideIt (show Fr R w x5 from Fr.trans (by repeat with_reducible first | exact F4.out | apply Fr.alloc | apply Fr.drew | refine Fr.setNew ?_ (by (try dsimp only); omega) _) f5); have Z5 : x4.heap.size ≤ x5.heap.size := (by have z := f5.size; (try simp at z); omega); obtain ⟨a5, c5, g5, rfl, cp5, sk5, l5, ok5⟩ := hv5.out; have Lx_5 := hideIt (Ls.mono (B' := x4.heap.size) l5 (by (try simp); try omega) (Nat.le_refl _)); have Kx := hideIt (And.intro cp5 (And.intro sk5 ok5)); clear hv5 l5 cp5 sk5 ok5; have Br_5 := hideIt (Bx.fr (b := w.heap.size) (v := (nk 0)) (s := (.slice none 0 0)) (by repeat first | with_reducible exact Br_4.out | with_reducible apply Bx.alloc | with_reducible refine Bx.set ?_ (by (try dsimp only); omega) _ | with_reducible apply Bx.drew) (by omega) f5); have yr5 := Br_5.out.lt; obtain ⟨r0, r1, r2, r3, r4, r5, r6, r7, r8, r9⟩ := Br_5.out.ten; have rf := Br_5.out.free; clear Br_4; clear C5; clear f5 d5)
         go_wp2_with (fail)
         have ER := HR.out
         subst ER
         have ob2 := int_ok h2 D1.out.p.wf
         have ob3 := name_ok h3 D2.out.p.wf
         refine bodyPost_ret (v := nodeV x.1 (.slice a5 g5.len c5)) (by simp [results, Tryz.results33, go_sem, *]) rfl ⟨(by repeat with_reducible first | exact F5.out | apply Fr.alloc | apply Fr.drew | refine Fr.setNew ?_ (by (try dsimp only); omega) _), _, rfl, ?_, (by repeat with_reducible first | exact D5.out | apply RD.alloc | apply RD.drew | refine RD.setCell ?_ (by (try dsimp only); omega) _)⟩
         exact NV.mk (x := x) (B' := x4.heap.size) (U := x5.heap.size) Kx.out.1 Kx.out.2.1 (by repeat with_reducible first | exact Lx_5.out | apply Ls.alloc | apply Ls.drew | refine Ls.set ?_ (by (try dsimp only); omega) _) (by omega) Kx.out.2.2

end Go.Proofs.YtoilhcklflmamaaGreatDoor
