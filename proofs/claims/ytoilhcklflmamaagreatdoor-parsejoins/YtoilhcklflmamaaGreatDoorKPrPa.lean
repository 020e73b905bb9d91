/-
  The reader of what stands between curly brackets: a contract over the program; the conditions: the reader lies in memory as it should, and what is called keeps its own contract.
  The reader of what stands between brackets, with commas between: a contract over the program; the conditions: the reader lies in memory as it should, and what is called keeps its own contract.
-/
import Derived.Test.YtoilhcklflmamaaGreatDoorKPrO
namespace Go.Proofs.YtoilhcklflmamaaGreatDoor
open Go.RowKit
open Pr
set_option linter.unusedVariables false

set_option maxRecDepth 100000 in
set_option maxHeartbeats 4000000 in
theorem repeated_rd_f (R g cap : Nat) (L : List Tok) (n : Nat) (HX : ∀ m, m ≤ n → ∀ s, rd m .field s ≠ .out → Rule 68 #[] R g cap L s (rd m .field s)) (s : St) (hno : ((needM [123] s).bnd fun _ s => rd n (.rep .field .nil) s) ≠ .out) :
    ∀ w, RD w R g cap L s → Calls Tryz.prog 67 #[rp R, .func (.func 68) #[rp R] #[]] w (PostG (VLI w.heap.size) R g cap L w ((needM [123] s).bnd fun _ s => rd n (.rep .field .nil) s)) := by
  intro w h
  have HD := hideIt h
  have hR := h.b.lt_size
  have hlen := h.p.len
  clear h
  cases h1 : needM [123] s with
  | out => rw [h1] at hno; exact absurd rfl hno
  | bad k p =>
    have C1 := hideIt (fun X (h : RD X R g cap L s) => need_any [123] (by decide) R g cap L s X h)
    clear hno HX
    go_enter Tryz.func67, Tryz.ntmps67
    go_wp2_with (first | (go_at_call_of 91 (Value.string ⟨#[123]⟩); refine Calls.mono (badc h1 (C1.out _ (by repeat with_reducible first | exact HD.out | apply RD.alloc | apply RD.drew | refine RD.setCell ?_ (by (try dsimp only); omega) _))) ?_; rintro e x1 ⟨rfl, f1⟩; have F1 := hideIt (show Fr R w x1 from Fr.trans (by repeat with_reducible first | exact (Fr.refl R w) | apply Fr.alloc | apply Fr.drew | refine Fr.setNew ?_ (by (try dsimp only); omega) _) f1); clear f1) | fail)
    exact ⟨rfl, F1.out, rfl⟩
  | ok u1 s1 =>
    rw [h1] at hno
    simp only [bnd_ok] at hno ⊢
    have HXX := hideIt HX
    clear HX
    obtain ⟨r, hr⟩ : ∃ r, rd n (.rep .field .nil) s1 = r := ⟨_, rfl⟩
    rw [hr] at hno ⊢
    have HR := hideIt hr
    have HN := hideIt hno
    clear hr hno
    have C1 := hideIt (fun X (h : RD X R g cap L s) => need_any [123] (by decide) R g cap L s X h)
    go_enter Tryz.func67, Tryz.ntmps67
    go_wp2_with (first | (go_at_call_of 91 (Value.string ⟨#[123]⟩); refine Calls.mono (okc h1 (C1.out _ (by repeat with_reducible first | exact HD.out | apply RD.alloc | apply RD.drew | refine RD.setCell ?_ (by (try dsimp only); omega) _))) ?_; rintro e x1 ⟨v1, rfl, rfl, f1, d1⟩; have D1 := hideIt d1; have F1 := hideIt (show Fr R w x1 from Fr.trans (by repeat with_reducible first | exact (Fr.refl R w) | apply Fr.alloc | apply Fr.drew | refine Fr.setNew ?_ (by (try dsimp only); omega) _) f1); clear f1 d1) | fail)
    go_loopg [5] n (fun m u wr => ∃ (P G : Fo) (st : St), Hid (rd m (.rep .field P) st = r) ∧ m ≤ n ∧ P.len + st.t.length ≤ 70000 ∧ Hid (LI w.heap.size wr u P G) ∧ Hid (RD wr R g cap L st) ∧ Hid (Fr R w wr))
    case atStart => exact ⟨.nil, .nil, s1, HR.out, Nat.le_refl _, by have := D1.out.p; obtain ⟨pre, e⟩ := this.suf; have := congrArg List.length e; simp at this; simp [Fo.len]; omega, LI.nil _ _, D1.out, F1.out⟩
    case round =>
      obtain ⟨P, G, st, EE, hm, hP, I0, D2, F2⟩ := hrel
      clear D1 F1 HR h1
      have hGL : G.len ≤ 70000 := by have := I0.out.cp.len; omega
      have Z0 : w.heap.size ≤ wr.heap.size := F2.out.size
      cases gk with
      | zero => exact absurd EE.out.symm HN.out
      | succ m =>
        have E1 : rd (m + 1) (.rep .field P) st = (tryM [125] st).bnd fun b s => if b then .ok (nk 0, P) s else (rd m .field s).bnd fun y => rd m (.rep .field (P.app (one y))) := rfl
        rw [E1] at EE
        clear E1
        have hwf := hideIt D2.out.p.wf
        cases h3 : tryM [125] st with
        | out => rw [h3] at EE; exact absurd EE.out.symm HN.out
        | bad k p =>
          rw [h3] at EE
          have ER : r = .bad k p := EE.out.symm
          subst ER
          have C3 := hideIt (fun X (h : RD X R g cap L st) => try_any [125] (by decide) R g cap L st X h)
          go_wp2_with (first | (go_at_call_of 64 (Value.string ⟨#[125]⟩); refine Calls.mono (badc h3 (C3.out _ (by repeat with_reducible first | exact D2.out | apply RD.alloc | apply RD.drew | refine RD.setCell ?_ (by (try dsimp only); omega) _))) ?_; rintro e x3 ⟨rfl, f3⟩; have F3 := hideIt (show Fr R w x3 from Fr.trans (by repeat with_reducible first | exact F2.out | apply Fr.alloc | apply Fr.drew | refine Fr.setNew ?_ (by (try dsimp only); omega) _) f3); clear f3) | fail)
          exact ⟨rfl, F3.out, rfl⟩
        | ok b s3 =>
          rw [h3] at EE
          simp only [bnd_ok] at EE
          have C3 := hideIt (fun X (h : RD X R g cap L st) => try_any [125] (by decide) R g cap L st X h)
          cases b with
          | true =>
            simp only [if_true] at EE
            have ER : r = .ok (nk 0, P) s3 := EE.out.symm
            subst ER
            go_wp2_with (first | (go_at_call_of 64 (Value.string ⟨#[125]⟩); refine Calls.mono (okc h3 (C3.out _ (by repeat with_reducible first | exact D2.out | apply RD.alloc | apply RD.drew | refine RD.setCell ?_ (by (try dsimp only); omega) _))) ?_; rintro e x3 ⟨v3, rfl, rfl, f3, d3⟩; have D3 := hideIt d3; have F3 := hideIt (show Fr R w x3 from Fr.trans (by repeat with_reducible first | exact F2.out | apply Fr.alloc | apply Fr.drew | refine Fr.setNew ?_ (by (try dsimp only); omega) _) f3); have I3 := hideIt (I0.out.fr (R := R) (by omega) f3); have Z3 : w.heap.size ≤ x3.heap.size := F3.out.size; clear f3 d3) | fail)
            go_ret
            exact ⟨F3.out, _, rfl, ⟨_, I3.out⟩, D3.out⟩
          | false =>
            simp only [Bool.false_eq_true, if_false] at EE
            have e3 : s3 = st := by
              unfold tryM at h3
              split at h3
              · rcases takeM_cases st with hh | ⟨q, hh⟩ <;> rw [hh] at h3 <;> simp at h3
              · cases h3; rfl
            subst e3
            cases h4 : rd m .field s3 with
            | out => rw [h4] at EE; exact absurd EE.out.symm HN.out
            | bad k p =>
              rw [h4] at EE
              have ER : r = .bad k p := EE.out.symm
              subst ER
              have C4 := hideIt (fun X (h : RD X R g cap L s3) => (HXX.out m (by omega) s3 (by rw [h4]; exact fun e => by cases e)) X h)
              go_wp2_with (first | (go_at_call_of 64 (Value.string ⟨#[125]⟩); refine Calls.mono (okc h3 (C3.out _ (by repeat with_reducible first | exact D2.out | apply RD.alloc | apply RD.drew | refine RD.setCell ?_ (by (try dsimp only); omega) _))) ?_; rintro e x3 ⟨v3, rfl, rfl, f3, d3⟩; have D3 := hideIt d3; have F3 := hideIt (show Fr R w x3 from Fr.trans (by repeat with_reducible first | exact F2.out | apply Fr.alloc | apply Fr.drew | refine Fr.setNew ?_ (by (try dsimp only); omega) _) f3); have I3 := hideIt (I0.out.fr (R := R) (by omega) f3); have Z3 : w.heap.size ≤ x3.heap.size := F3.out.size; clear f3 d3) | (go_at_call 68; refine Calls.mono (badc h4 (C4.out _ (by repeat with_reducible first | exact D3.out | apply RD.alloc | apply RD.drew | refine RD.setCell ?_ (by (try dsimp only); omega) _))) ?_; rintro e x4 ⟨rfl, f4⟩; have F4 := hideIt (show Fr R w x4 from Fr.trans (by repeat with_reducible first | exact F3.out | apply Fr.alloc | apply Fr.drew | refine Fr.setNew ?_ (by (try dsimp only); omega) _) f4); clear f4) | fail)
              exact ⟨rfl, F4.out, rfl⟩
            | ok y s4 =>
              rw [h4] at EE
              simp only [bnd_ok] at EE
              have hl := (rd_post (nt := .field) hwf.out trivial h4).len
              have C4 := hideIt (fun X (h : RD X R g cap L s3) => (HXX.out m (by omega) s3 (by rw [h4]; exact fun e => by cases e)) X h)
              simp only [d1] at hl
              have hPP : (P.app (one y)).len + s4.t.length ≤ 70000 := by rw [app_len]; simp only [one, Fo.len]; omega
              go_wp2_with (first | (go_at_call_of 64 (Value.string ⟨#[125]⟩); refine Calls.mono (okc h3 (C3.out _ (by repeat with_reducible first | exact D2.out | apply RD.alloc | apply RD.drew | refine RD.setCell ?_ (by (try dsimp only); omega) _))) ?_; rintro e x3 ⟨v3, rfl, rfl, f3, d3⟩; have D3 := hideIt d3; have F3 := hideIt (show Fr R w x3 from Fr.trans (by repeat with_reducible first | exact F2.out | apply Fr.alloc | apply Fr.drew | refine Fr.setNew ?_ (by (try dsimp only); omega) _) f3); have I3 := hideIt (I0.out.fr (R := R) (by omega) f3); have Z3 : w.heap.size ≤ x3.heap.size := F3.out.size; clear f3 d3) | (go_at_call 68; refine Calls.mono (okc h4 (C4.out _ (by repeat with_reducible first | exact D3.out | apply RD.alloc | apply RD.drew | refine RD.setCell ?_ (by (try dsimp only); omega) _))) ?_; rintro e x4 ⟨v4, rfl, hv4, f4, d4⟩; obtain ⟨a4, c4, g4, rfl, cp4, sk4, l4, ok4⟩ := hv4.out; have D4 := hideIt d4; have F4 := hideIt (show Fr R w x4 from Fr.trans (by repeat with_reducible first | exact F3.out | apply Fr.alloc | apply Fr.drew | refine Fr.setNew ?_ (by (try dsimp only); omega) _) f4); have Z4 : w.heap.size ≤ x4.heap.size := F4.out.size; have KK := hideIt (And.intro l4 (And.intro cp4 (And.intro sk4 ok4))); have I4 := hideIt (I3.out.fr (R := R) (by omega) f4); clear hv4 l4 cp4 sk4 ok4 f4 d4) | (at_builtin; refine app_node (B := w.heap.size) (X := x4) I4.out Z4 (by omega) (y := y) KK.out.1 Z3 (fun k hk => (I3.out.lt k hk).2) KK.out.2.2.2 KK.out.2.2.1 KK.out.2.1 (by omega) rfl (.tmp 11) (.tmp 14) rfl rfl rfl ?_; intro gg cc x9 li9 gr9; have I9 := hideIt li9; have D9 := hideIt (RD.grown (D4.out.alloc _) gr9 (fun k hk => by have := (I4.out.lt k hk).1; omega)); have F9 := hideIt (Fr.grown (F4.out.alloc _) gr9 (fun k hk => (I4.out.lt k hk).1)); clear li9 gr9) | fail)
              go_roundg m
              case measure => omega
              case rel => exact ⟨P.app (one y), G.app (.cons y.1 a4 c4 g4 .nil), s4, EE.out, by omega, hPP, I9.out, D9.out, F9.out⟩

end Go.Proofs.YtoilhcklflmamaaGreatDoor

namespace Go.Proofs.YtoilhcklflmamaaGreatDoor
open Go.RowKit
open Pr
set_option linter.unusedVariables false

set_option maxRecDepth 100000 in
set_option maxHeartbeats 4000000 in
theorem repeated_rd_s (R g cap : Nat) (L : List Tok) (n : Nat) (HX : ∀ m, m ≤ n → ∀ s, rd m .statement s ≠ .out → Rule 110 #[] R g cap L s (rd m .statement s)) (s : St) (hno : ((needM [123] s).bnd fun _ s => rd n (.rep .statement .nil) s) ≠ .out) :
    ∀ w, RD w R g cap L s → Calls Tryz.prog 67 #[rp R, .func (.func 110) #[rp R] #[]] w (PostG (VLI w.heap.size) R g cap L w ((needM [123] s).bnd fun _ s => rd n (.rep .statement .nil) s)) := by
  intro w h
  have HD := hideIt h
  have hR := h.b.lt_size
  have hlen := h.p.len
  clear h
  cases h1 : needM [123] s with
  | out => rw [h1] at hno; exact absurd rfl hno
  | bad k p =>
    have C1 := hideIt (fun X (h : RD X R g cap L s) => need_any [123] (by decide) R g cap L s X h)
    clear hno HX
    go_enter Tryz.func67, Tryz.ntmps67
    go_wp2_with (first | (go_at_call_of 91 (Value.string ⟨#[123]⟩); refine Calls.mono (badc h1 (C1.out _ (by repeat with_reducible first | exact HD.out | apply RD.alloc | apply RD.drew | refine RD.setCell ?_ (by (try dsimp only); omega) _))) ?_; rintro e x1 ⟨rfl, f1⟩; have F1 := hideIt (show Fr R w x1 from Fr.trans (by repeat with_reducible first | exact (Fr.refl R w) | apply Fr.alloc | apply Fr.drew | refine Fr.setNew ?_ (by (try dsimp only); omega) _) f1); clear f1) | fail)
    exact ⟨rfl, F1.out, rfl⟩
  | ok u1 s1 =>
    rw [h1] at hno
    simp only [bnd_ok] at hno ⊢
    have HXX := hideIt HX
    clear HX
    obtain ⟨r, hr⟩ : ∃ r, rd n (.rep .statement .nil) s1 = r := ⟨_, rfl⟩
    rw [hr] at hno ⊢
    have HR := hideIt hr
    have HN := hideIt hno
    clear hr hno
    have C1 := hideIt (fun X (h : RD X R g cap L s) => need_any [123] (by decide) R g cap L s X h)
    go_enter Tryz.func67, Tryz.ntmps67
    go_wp2_with (first | (go_at_call_of 91 (Value.string ⟨#[123]⟩); refine Calls.mono (okc h1 (C1.out _ (by repeat with_reducible first | exact HD.out | apply RD.alloc | apply RD.drew | refine RD.setCell ?_ (by (try dsimp only); omega) _))) ?_; rintro e x1 ⟨v1, rfl, rfl, f1, d1⟩; have D1 := hideIt d1; have F1 := hideIt (show Fr R w x1 from Fr.trans (by repeat with_reducible first | exact (Fr.refl R w) | apply Fr.alloc | apply Fr.drew | refine Fr.setNew ?_ (by (try dsimp only); omega) _) f1); clear f1 d1) | fail)
    go_loopg [5] n (fun m u wr => ∃ (P G : Fo) (st : St), Hid (rd m (.rep .statement P) st = r) ∧ m ≤ n ∧ P.len + st.t.length ≤ 70000 ∧ Hid (LI w.heap.size wr u P G) ∧ Hid (RD wr R g cap L st) ∧ Hid (Fr R w wr))
    case atStart => exact ⟨.nil, .nil, s1, HR.out, Nat.le_refl _, by have := D1.out.p; obtain ⟨pre, e⟩ := this.suf; have := congrArg List.length e; simp at this; simp [Fo.len]; omega, LI.nil _ _, D1.out, F1.out⟩
    case round =>
      obtain ⟨P, G, st, EE, hm, hP, I0, D2, F2⟩ := hrel
      clear D1 F1 HR h1
      have hGL : G.len ≤ 70000 := by have := I0.out.cp.len; omega
      have Z0 : w.heap.size ≤ wr.heap.size := F2.out.size
      cases gk with
      | zero => exact absurd EE.out.symm HN.out
      | succ m =>
        have E1 : rd (m + 1) (.rep .statement P) st = (tryM [125] st).bnd fun b s => if b then .ok (nk 0, P) s else (rd m .statement s).bnd fun y => rd m (.rep .statement (P.app (one y))) := rfl
        rw [E1] at EE
        clear E1
        have hwf := hideIt D2.out.p.wf
        cases h3 : tryM [125] st with
        | out => rw [h3] at EE; exact absurd EE.out.symm HN.out
        | bad k p =>
          rw [h3] at EE
          have ER : r = .bad k p := EE.out.symm
          subst ER
          have C3 := hideIt (fun X (h : RD X R g cap L st) => try_any [125] (by decide) R g cap L st X h)
          go_wp2_with (first | (go_at_call_of 64 (Value.string ⟨#[125]⟩); refine Calls.mono (badc h3 (C3.out _ (by repeat with_reducible first | exact D2.out | apply RD.alloc | apply RD.drew | refine RD.setCell ?_ (by (try dsimp only); omega) _))) ?_; rintro e x3 ⟨rfl, f3⟩; have F3 := hideIt (show Fr R w x3 from Fr.trans (by repeat with_reducible first | exact F2.out | apply Fr.alloc | apply Fr.drew | refine Fr.setNew ?_ (by (try dsimp only); omega) _) f3); clear f3) | fail)
          exact ⟨rfl, F3.out, rfl⟩
        | ok b s3 =>
          rw [h3] at EE
          simp only [bnd_ok] at EE
          have C3 := hideIt (fun X (h : RD X R g cap L st) => try_any [125] (by decide) R g cap L st X h)
          cases b with
          | true =>
            simp only [if_true] at EE
            have ER : r = .ok (nk 0, P) s3 := EE.out.symm
            subst ER
            go_wp2_with (first | (go_at_call_of 64 (Value.string ⟨#[125]⟩); refine Calls.mono (okc h3 (C3.out _ (by repeat with_reducible first | exact D2.out | apply RD.alloc | apply RD.drew | refine RD.setCell ?_ (by (try dsimp only); omega) _))) ?_; rintro e x3 ⟨v3, rfl, rfl, f3, d3⟩; have D3 := hideIt d3; have F3 := hideIt (show Fr R w x3 from Fr.trans (by repeat with_reducible first | exact F2.out | apply Fr.alloc | apply Fr.drew | refine Fr.setNew ?_ (by (try dsimp only); omega) _) f3); have I3 := hideIt (I0.out.fr (R := R) (by omega) f3); have Z3 : w.heap.size ≤ x3.heap.size := F3.out.size; clear f3 d3) | fail)
            go_ret
            exact ⟨F3.out, _, rfl, ⟨_, I3.out⟩, D3.out⟩
          | false =>
            simp only [Bool.false_eq_true, if_false] at EE
            have e3 : s3 = st := by
              unfold tryM at h3
              split at h3
              · rcases takeM_cases st with hh | ⟨q, hh⟩ <;> rw [hh] at h3 <;> simp at h3
              · cases h3; rfl
            subst e3
            cases h4 : rd m .statement s3 with
            | out => rw [h4] at EE; exact absurd EE.out.symm HN.out
            | bad k p =>
              rw [h4] at EE
              have ER : r = .bad k p := EE.out.symm
              subst ER
              have C4 := hideIt (fun X (h : RD X R g cap L s3) => (HXX.out m (by omega) s3 (by rw [h4]; exact fun e => by cases e)) X h)
              go_wp2_with (first | (go_at_call_of 64 (Value.string ⟨#[125]⟩); refine Calls.mono (okc h3 (C3.out _ (by repeat with_reducible first | exact D2.out | apply RD.alloc | apply RD.drew | refine RD.setCell ?_ (by (try dsimp only); omega) _))) ?_; rintro e x3 ⟨v3, rfl, rfl, f3, d3⟩; have D3 := hideIt d3; have F3 := hideIt (show Fr R w x3 from Fr.trans (by repeat with_reducible first | exact F2.out | apply Fr.alloc | apply Fr.drew | refine Fr.setNew ?_ (by (try dsimp only); omega) _) f3); have I3 := hideIt (I0.out.fr (R := R) (by omega) f3); have Z3 : w.heap.size ≤ x3.heap.size := F3.out.size; clear f3 d3) | (go_at_call 110; refine Calls.mono (badc h4 (C4.out _ (by repeat with_reducible first | exact D3.out | apply RD.alloc | apply RD.drew | refine RD.setCell ?_ (by (try dsimp only); omega) _))) ?_; rintro e x4 ⟨rfl, f4⟩; have F4 := hideIt (show Fr R w x4 from Fr.trans (by repeat with_reducible first | exact F3.out | apply Fr.alloc | apply Fr.drew | refine Fr.setNew ?_ (by (try dsimp only); omega) _) f4); clear f4) | fail)
              exact ⟨rfl, F4.out, rfl⟩
            | ok y s4 =>
              rw [h4] at EE
              simp only [bnd_ok] at EE
              have hl := (rd_post (nt := .statement) hwf.out trivial h4).len
              have C4 := hideIt (fun X (h : RD X R g cap L s3) => (HXX.out m (by omega) s3 (by rw [h4]; exact fun e => by cases e)) X h)
              simp only [d1] at hl
              have hPP : (P.app (one y)).len + s4.t.length ≤ 70000 := by rw [app_len]; simp only [one, Fo.len]; omega
              go_wp2_with (first | (go_at_call_of 64 (Value.string ⟨#[125]⟩); refine Calls.mono (okc h3 (C3.out _ (by repeat with_reducible first | exact D2.out | apply RD.alloc | apply RD.drew | refine RD.setCell ?_ (by (try dsimp only); omega) _))) ?_; rintro e x3 ⟨v3, rfl, rfl, f3, d3⟩; have D3 := hideIt d3; have F3 := hideIt (show Fr R w x3 from Fr.trans (by repeat with_reducible first | exact F2.out | apply Fr.alloc | apply Fr.drew | refine Fr.setNew ?_ (by (try dsimp only); omega) _) f3); have I3 := hideIt (I0.out.fr (R := R) (by omega) f3); have Z3 : w.heap.size ≤ x3.heap.size := F3.out.size; clear f3 d3) | (go_at_call 110; refine Calls.mono (okc h4 (C4.out _ (by repeat with_reducible first | exact D3.out | apply RD.alloc | apply RD.drew | refine RD.setCell ?_ (by (try dsimp only); omega) _))) ?_; rintro e x4 ⟨v4, rfl, hv4, f4, d4⟩; obtain ⟨a4, c4, g4, rfl, cp4, sk4, l4, ok4⟩ := hv4.out; have D4 := hideIt d4; have F4 := hideIt (show Fr R w x4 from Fr.trans (by repeat with_reducible first | exact F3.out | apply Fr.alloc | apply Fr.drew | refine Fr.setNew ?_ (by (try dsimp only); omega) _) f4); have Z4 : w.heap.size ≤ x4.heap.size := F4.out.size; have KK := hideIt (And.intro l4 (And.intro cp4 (And.intro sk4 ok4))); have I4 := hideIt (I3.out.fr (R := R) (by omega) f4); clear hv4 l4 cp4 sk4 ok4 f4 d4) | (at_builtin; refine app_node (B := w.heap.size) (X := x4) I4.out Z4 (by omega) (y := y) KK.out.1 Z3 (fun k hk => (I3.out.lt k hk).2) KK.out.2.2.2 KK.out.2.2.1 KK.out.2.1 (by omega) rfl (.tmp 11) (.tmp 14) rfl rfl rfl ?_; intro gg cc x9 li9 gr9; have I9 := hideIt li9; have D9 := hideIt (RD.grown (D4.out.alloc _) gr9 (fun k hk => by have := (I4.out.lt k hk).1; omega)); have F9 := hideIt (Fr.grown (F4.out.alloc _) gr9 (fun k hk => (I4.out.lt k hk).1)); clear li9 gr9) | fail)
              go_roundg m
              case measure => omega
              case rel => exact ⟨P.app (one y), G.app (.cons y.1 a4 c4 g4 .nil), s4, EE.out, by omega, hPP, I9.out, D9.out, F9.out⟩

end Go.Proofs.YtoilhcklflmamaaGreatDoor

namespace Go.Proofs.YtoilhcklflmamaaGreatDoor
open Go.RowKit
open Pr
set_option linter.unusedVariables false

set_option maxRecDepth 100000 in
set_option maxHeartbeats 4000000 in
theorem listed_rd_p (R g cap : Nat) (L : List Tok) (n : Nat) (HX : ∀ m, m ≤ n → ∀ s, rd m .param s ≠ .out → Rule 93 #[] R g cap L s (rd m .param s)) (s : St) (hno : ((needM [40] s).bnd fun _ s => (tryM [41] s).bnd fun b s => if b then Rs.ok (nk 0, .nil) s else (rd n .param s).bnd fun x => rd n (.more .param (one x))) ≠ .out) :
    ∀ w, RD w R g cap L s → Calls Tryz.prog 92 #[rp R, .func (.func 93) #[rp R] #[]] w (PostG (VLJ w.heap.size) R g cap L w ((needM [40] s).bnd fun _ s => (tryM [41] s).bnd fun b s => if b then Rs.ok (nk 0, .nil) s else (rd n .param s).bnd fun x => rd n (.more .param (one x)))) := by
  intro w h
  have HD := hideIt h
  have hR := h.b.lt_size
  have hlen := h.p.len
  clear h
  cases h1 : needM [40] s with
  | out => rw [h1] at hno; exact absurd rfl hno
  | bad k p =>
    have C1 := hideIt (fun X (h : RD X R g cap L s) => need_any [40] (by decide) R g cap L s X h)
    clear hno HX
    go_enter Tryz.func92, Tryz.ntmps92
    go_wp2_with (first | (go_at_call_of 91 (Value.string ⟨#[40]⟩); refine Calls.mono (badc h1 (C1.out _ (by repeat with_reducible first | exact HD.out | apply RD.alloc | apply RD.drew | refine RD.setCell ?_ (by (try dsimp only); omega) _))) ?_; rintro e x1 ⟨rfl, f1⟩; have F1 := hideIt (show Fr R w x1 from Fr.trans (by repeat with_reducible first | exact (Fr.refl R w) | apply Fr.alloc | apply Fr.drew | refine Fr.setNew ?_ (by (try dsimp only); omega) _) f1); clear f1) | fail)
    exact ⟨rfl, F1.out, rfl⟩
  | ok u1 s1 =>
    rw [h1] at hno
    simp only [bnd_ok] at hno ⊢
    have C1 := hideIt (fun X (h : RD X R g cap L s) => need_any [40] (by decide) R g cap L s X h)
    have C2 := hideIt (fun X (h : RD X R g cap L s1) => try_any [41] (by decide) R g cap L s1 X h)
    cases h2 : tryM [41] s1 with
    | out => rw [h2] at hno; exact absurd rfl hno
    | bad k p =>
      clear hno HX
      go_enter Tryz.func92, Tryz.ntmps92
      go_wp2_with (first | (go_at_call_of 91 (Value.string ⟨#[40]⟩); refine Calls.mono (okc h1 (C1.out _ (by repeat with_reducible first | exact HD.out | apply RD.alloc | apply RD.drew | refine RD.setCell ?_ (by (try dsimp only); omega) _))) ?_; rintro e x1 ⟨v1, rfl, rfl, f1, d1⟩; have D1 := hideIt d1; have F1 := hideIt (show Fr R w x1 from Fr.trans (by repeat with_reducible first | exact (Fr.refl R w) | apply Fr.alloc | apply Fr.drew | refine Fr.setNew ?_ (by (try dsimp only); omega) _) f1); clear f1 d1) | (go_at_call_of 64 (Value.string ⟨#[41]⟩); refine Calls.mono (badc h2 (C2.out _ (by repeat with_reducible first | exact D1.out | apply RD.alloc | apply RD.drew | refine RD.setCell ?_ (by (try dsimp only); omega) _))) ?_; rintro e x2 ⟨rfl, f2⟩; have F2 := hideIt (show Fr R w x2 from Fr.trans (by repeat with_reducible first | exact F1.out | apply Fr.alloc | apply Fr.drew | refine Fr.setNew ?_ (by (try dsimp only); omega) _) f2); clear f2) | fail)
      exact ⟨rfl, F2.out, rfl⟩
    | ok b s2 =>
      rw [h2] at hno
      simp only [bnd_ok] at hno ⊢
      cases b with
      | true =>
        simp only [if_true] at hno ⊢
        clear hno HX
        go_enter Tryz.func92, Tryz.ntmps92
        go_wp2_with (first | (go_at_call_of 91 (Value.string ⟨#[40]⟩); refine Calls.mono (okc h1 (C1.out _ (by repeat with_reducible first | exact HD.out | apply RD.alloc | apply RD.drew | refine RD.setCell ?_ (by (try dsimp only); omega) _))) ?_; rintro e x1 ⟨v1, rfl, rfl, f1, d1⟩; have D1 := hideIt d1; have F1 := hideIt (show Fr R w x1 from Fr.trans (by repeat with_reducible first | exact (Fr.refl R w) | apply Fr.alloc | apply Fr.drew | refine Fr.setNew ?_ (by (try dsimp only); omega) _) f1); clear f1 d1) | (go_at_call_of 64 (Value.string ⟨#[41]⟩); refine Calls.mono (okc h2 (C2.out _ (by repeat with_reducible first | exact D1.out | apply RD.alloc | apply RD.drew | refine RD.setCell ?_ (by (try dsimp only); omega) _))) ?_; rintro e x2 ⟨v2, rfl, rfl, f2, d2⟩; have D2 := hideIt d2; have F2 := hideIt (show Fr R w x2 from Fr.trans (by repeat with_reducible first | exact F1.out | apply Fr.alloc | apply Fr.drew | refine Fr.setNew ?_ (by (try dsimp only); omega) _) f2); clear f2 d2) | fail)
        go_ret
        exact ⟨F2.out, _, rfl, ⟨⟨_, LI.nil _ _⟩, fun _ => rfl⟩, D2.out⟩
      | false =>
        simp only [Bool.false_eq_true, if_false] at hno ⊢
        cases h3 : rd n .param s2 with
        | out => rw [h3] at hno; exact absurd rfl hno
        | bad k p =>
          have C3 := hideIt (fun X (h : RD X R g cap L s2) => (HX n (Nat.le_refl _) s2 (by rw [h3]; exact fun e => by cases e)) X h)
          clear hno HX
          go_enter Tryz.func92, Tryz.ntmps92
          go_wp2_with (first | (go_at_call_of 91 (Value.string ⟨#[40]⟩); refine Calls.mono (okc h1 (C1.out _ (by repeat with_reducible first | exact HD.out | apply RD.alloc | apply RD.drew | refine RD.setCell ?_ (by (try dsimp only); omega) _))) ?_; rintro e x1 ⟨v1, rfl, rfl, f1, d1⟩; have D1 := hideIt d1; have F1 := hideIt (show Fr R w x1 from Fr.trans (by repeat with_reducible first | exact (Fr.refl R w) | apply Fr.alloc | apply Fr.drew | refine Fr.setNew ?_ (by (try dsimp only); omega) _) f1); clear f1 d1) | (go_at_call_of 64 (Value.string ⟨#[41]⟩); refine Calls.mono (okc h2 (C2.out _ (by repeat with_reducible first | exact D1.out | apply RD.alloc | apply RD.drew | refine RD.setCell ?_ (by (try dsimp only); omega) _))) ?_; rintro e x2 ⟨v2, rfl, rfl, f2, d2⟩; have D2 := hideIt d2; have F2 := hideIt (show Fr R w x2 from Fr.trans (by repeat with_reducible first | exact F1.out | apply Fr.alloc | apply Fr.drew | refine Fr.setNew ?_ (by (try dsimp only); omega) _) f2); clear f2 d2) | (go_at_call 93; refine Calls.mono (badc h3 (C3.out _ (by repeat with_reducible first | exact D2.out | apply RD.alloc | apply RD.drew | refine RD.setCell ?_ (by (try dsimp only); omega) _))) ?_; rintro e x3 ⟨rfl, f3⟩; have F3 := hideIt (show Fr R w x3 from Fr.trans (by repeat with_reducible first | exact F2.out | apply Fr.alloc | apply Fr.drew | refine Fr.setNew ?_ (by (try dsimp only); omega) _) f3); clear f3) | fail)
          exact ⟨rfl, F3.out, rfl⟩
        | ok y s3 =>
          rw [h3] at hno
          simp only [bnd_ok] at hno ⊢
          have C3 := hideIt (fun X (h : RD X R g cap L s2) => (HX n (Nat.le_refl _) s2 (by rw [h3]; exact fun e => by cases e)) X h)
          have HXX := hideIt HX
          clear HX
          obtain ⟨r, hr⟩ : ∃ r, rd n (.more .param (one y)) s3 = r := ⟨_, rfl⟩
          rw [hr] at hno ⊢
          have HR := hideIt hr
          have HN := hideIt hno
          clear hr hno
          go_enter Tryz.func92, Tryz.ntmps92
          go_wp2_with (first | (go_at_call_of 91 (Value.string ⟨#[40]⟩); refine Calls.mono (okc h1 (C1.out _ (by repeat with_reducible first | exact HD.out | apply RD.alloc | apply RD.drew | refine RD.setCell ?_ (by (try dsimp only); omega) _))) ?_; rintro e x1 ⟨v1, rfl, rfl, f1, d1⟩; have D1 := hideIt d1; have F1 := hideIt (show Fr R w x1 from Fr.trans (by repeat with_reducible first | exact (Fr.refl R w) | apply Fr.alloc | apply Fr.drew | refine Fr.setNew ?_ (by (try dsimp only); omega) _) f1); clear f1 d1) | (go_at_call_of 64 (Value.string ⟨#[41]⟩); refine Calls.mono (okc h2 (C2.out _ (by repeat with_reducible first | exact D1.out | apply RD.alloc | apply RD.drew | refine RD.setCell ?_ (by (try dsimp only); omega) _))) ?_; rintro e x2 ⟨v2, rfl, rfl, f2, d2⟩; have D2 := hideIt d2; have F2 := hideIt (show Fr R w x2 from Fr.trans (by repeat with_reducible first | exact F1.out | apply Fr.alloc | apply Fr.drew | refine Fr.setNew ?_ (by (try dsimp only); omega) _) f2); clear f2 d2) | (go_at_call 93; refine Calls.mono (okc h3 (C3.out _ (by repeat with_reducible first | exact D2.out | apply RD.alloc | apply RD.drew | refine RD.setCell ?_ (by (try dsimp only); omega) _))) ?_; rintro e x3 ⟨v3, rfl, hv3, f3, d3⟩; obtain ⟨a3, c3, g3, rfl, cp3, sk3, l3, ok3⟩ := hv3.out; have D3 := hideIt d3; have F3 := hideIt (show Fr R w x3 from Fr.trans (by repeat with_reducible first | exact F2.out | apply Fr.alloc | apply Fr.drew | refine Fr.setNew ?_ (by (try dsimp only); omega) _) f3); have Z3 : w.heap.size ≤ x3.heap.size := F3.out.size; have KK := hideIt (And.intro l3 (And.intro cp3 (And.intro sk3 ok3))); clear hv3 l3 cp3 sk3 ok3 f3 d3) | fail)
          go_loopg [5] n (fun m u wr => ∃ (P G : Fo) (st : St), Hid (rd m (.more .param P) st = r) ∧ m ≤ n ∧ P.len + st.t.length ≤ 70002 ∧ 1 ≤ P.len ∧ Hid (LI w.heap.size wr u P G) ∧ Hid (RD wr R g cap L st) ∧ Hid (Fr R w wr))
          case atStart => exact ⟨one y, .cons y.1 a3 c3 g3 .nil, s3, HR.out, Nat.le_refl _, by have := D3.out.p; obtain ⟨pre, e⟩ := this.suf; have := congrArg List.length e; simp at this; simp [one, Fo.len]; omega, by simp [one, Fo.len], LI.one KK.out.1 F2.out.size Z3 KK.out.2.2.2 KK.out.2.2.1 KK.out.2.1 (Nat.le_refl _), D3.out.alloc _, F3.out.alloc _⟩
          case round =>
            obtain ⟨P, G, st, EE, hm, hP, hP1, I0, DA, FA⟩ := hrel
            clear D1 F1 D2 F2 D3 F3 HR h1 h2 h3 KK Z3 C1 C2 C3
            have hGL : G.len ≤ 70002 := by have := I0.out.cp.len; omega
            have Z0 : w.heap.size ≤ wr.heap.size := FA.out.size
            cases gk with
            | zero => exact absurd EE.out.symm HN.out
            | succ m =>
              have E1 : rd (m + 1) (.more .param P) st = (tryM [44] st).bnd fun b s => if b then (rd m .param s).bnd fun y => rd m (.more .param (P.app (one y))) else (needM [41] s).bnd fun _ s => .ok (nk 0, P) s := rfl
              rw [E1] at EE
              clear E1
              have C3 := hideIt (fun X (h : RD X R g cap L st) => try_any [44] (by decide) R g cap L st X h)
              have hwf := hideIt DA.out.p.wf
              cases h3 : tryM [44] st with
              | out => rw [h3] at EE; exact absurd EE.out.symm HN.out
              | bad k p =>
                rw [h3] at EE
                have ER : r = .bad k p := EE.out.symm
                subst ER
                go_wp2_with (first | (go_at_call_of 64 (Value.string ⟨#[44]⟩); refine Calls.mono (badc h3 (C3.out _ (by repeat with_reducible first | exact DA.out | apply RD.alloc | apply RD.drew | refine RD.setCell ?_ (by (try dsimp only); omega) _))) ?_; rintro e x3 ⟨rfl, f3⟩; have F3 := hideIt (show Fr R w x3 from Fr.trans (by repeat with_reducible first | exact FA.out | apply Fr.alloc | apply Fr.drew | refine Fr.setNew ?_ (by (try dsimp only); omega) _) f3); clear f3) | fail)
                exact ⟨rfl, F3.out, rfl⟩
              | ok b s4 =>
                rw [h3] at EE
                simp only [bnd_ok] at EE
                cases b with
                | false =>
                  simp only [Bool.false_eq_true, if_false] at EE
                  have C4 := hideIt (fun X (h : RD X R g cap L s4) => need_any [41] (by decide) R g cap L s4 X h)
                  cases h4 : needM [41] s4 with
                  | out => rw [h4] at EE; exact absurd EE.out.symm HN.out
                  | bad k p =>
                    rw [h4] at EE
                    have ER : r = .bad k p := EE.out.symm
                    subst ER
                    go_wp2_with (first | (go_at_call_of 64 (Value.string ⟨#[44]⟩); refine Calls.mono (okc h3 (C3.out _ (by repeat with_reducible first | exact DA.out | apply RD.alloc | apply RD.drew | refine RD.setCell ?_ (by (try dsimp only); omega) _))) ?_; rintro e x3 ⟨v3, rfl, rfl, f3, d3⟩; have D3 := hideIt d3; have F3 := hideIt (show Fr R w x3 from Fr.trans (by repeat with_reducible first | exact FA.out | apply Fr.alloc | apply Fr.drew | refine Fr.setNew ?_ (by (try dsimp only); omega) _) f3); have I3 := hideIt (I0.out.fr (R := R) (by omega) f3); have Z3 : w.heap.size ≤ x3.heap.size := F3.out.size; clear f3 d3) | (go_at_call_of 91 (Value.string ⟨#[41]⟩); refine Calls.mono (badc h4 (C4.out _ (by repeat with_reducible first | exact D3.out | apply RD.alloc | apply RD.drew | refine RD.setCell ?_ (by (try dsimp only); omega) _))) ?_; rintro e x4 ⟨rfl, f4⟩; have F4 := hideIt (show Fr R w x4 from Fr.trans (by repeat with_reducible first | exact F3.out | apply Fr.alloc | apply Fr.drew | refine Fr.setNew ?_ (by (try dsimp only); omega) _) f4); clear f4) | fail)
                    exact ⟨rfl, F4.out, rfl⟩
                  | ok u5 s5 =>
                    rw [h4] at EE
                    simp only [bnd_ok] at EE
                    have ER : r = .ok (nk 0, P) s5 := EE.out.symm
                    subst ER
                    go_wp2_with (first | (go_at_call_of 64 (Value.string ⟨#[44]⟩); refine Calls.mono (okc h3 (C3.out _ (by repeat with_reducible first | exact DA.out | apply RD.alloc | apply RD.drew | refine RD.setCell ?_ (by (try dsimp only); omega) _))) ?_; rintro e x3 ⟨v3, rfl, rfl, f3, d3⟩; have D3 := hideIt d3; have F3 := hideIt (show Fr R w x3 from Fr.trans (by repeat with_reducible first | exact FA.out | apply Fr.alloc | apply Fr.drew | refine Fr.setNew ?_ (by (try dsimp only); omega) _) f3); have I3 := hideIt (I0.out.fr (R := R) (by omega) f3); have Z3 : w.heap.size ≤ x3.heap.size := F3.out.size; clear f3 d3) | (go_at_call_of 91 (Value.string ⟨#[41]⟩); refine Calls.mono (okc h4 (C4.out _ (by repeat with_reducible first | exact D3.out | apply RD.alloc | apply RD.drew | refine RD.setCell ?_ (by (try dsimp only); omega) _))) ?_; rintro e x4 ⟨v4, rfl, rfl, f4, d4⟩; have D4 := hideIt d4; have F4 := hideIt (show Fr R w x4 from Fr.trans (by repeat with_reducible first | exact F3.out | apply Fr.alloc | apply Fr.drew | refine Fr.setNew ?_ (by (try dsimp only); omega) _) f4); have I4 := hideIt (I3.out.fr (R := R) (by omega) f4); clear f4 d4) | fail)
                    go_ret
                    exact ⟨F4.out, _, rfl, ⟨⟨_, I4.out⟩, fun e => by have e' : P = .nil := e; rw [e'] at hP1; simp [Fo.len] at hP1⟩, D4.out⟩
                | true =>
                  simp only [if_true] at EE
                  have hw4 := stp_true hwf.out (by decide) h3
                  cases h4 : rd m .param s4 with
                  | out => rw [h4] at EE; exact absurd EE.out.symm HN.out
                  | bad k p =>
                    rw [h4] at EE
                    have ER : r = .bad k p := EE.out.symm
                    subst ER
                    have C4 := hideIt (fun X (h : RD X R g cap L s4) => (HXX.out m (by omega) s4 (by rw [h4]; exact fun e => by cases e)) X h)
                    go_wp2_with (first | (go_at_call_of 64 (Value.string ⟨#[44]⟩); refine Calls.mono (okc h3 (C3.out _ (by repeat with_reducible first | exact DA.out | apply RD.alloc | apply RD.drew | refine RD.setCell ?_ (by (try dsimp only); omega) _))) ?_; rintro e x3 ⟨v3, rfl, rfl, f3, d3⟩; have D3 := hideIt d3; have F3 := hideIt (show Fr R w x3 from Fr.trans (by repeat with_reducible first | exact FA.out | apply Fr.alloc | apply Fr.drew | refine Fr.setNew ?_ (by (try dsimp only); omega) _) f3); have I3 := hideIt (I0.out.fr (R := R) (by omega) f3); have Z3 : w.heap.size ≤ x3.heap.size := F3.out.size; clear f3 d3) | (go_at_call 93; refine Calls.mono (badc h4 (C4.out _ (by repeat with_reducible first | exact D3.out | apply RD.alloc | apply RD.drew | refine RD.setCell ?_ (by (try dsimp only); omega) _))) ?_; rintro e x4 ⟨rfl, f4⟩; have F4 := hideIt (show Fr R w x4 from Fr.trans (by repeat with_reducible first | exact F3.out | apply Fr.alloc | apply Fr.drew | refine Fr.setNew ?_ (by (try dsimp only); omega) _) f4); clear f4) | fail)
                    exact ⟨rfl, F4.out, rfl⟩
                  | ok y4 s5 =>
                    rw [h4] at EE
                    simp only [bnd_ok] at EE
                    have hl := (rd_post (nt := .param) hw4.1 trivial h4).len
                    have C4 := hideIt (fun X (h : RD X R g cap L s4) => (HXX.out m (by omega) s4 (by rw [h4]; exact fun e => by cases e)) X h)
                    simp only [d1] at hl
                    have hl4 := hw4.2
                    have hPP : (P.app (one y4)).len + s5.t.length ≤ 70002 := by rw [app_len]; simp only [one, Fo.len]; omega
                    clear hw4
                    go_wp2_with (first | (go_at_call_of 64 (Value.string ⟨#[44]⟩); refine Calls.mono (okc h3 (C3.out _ (by repeat with_reducible first | exact DA.out | apply RD.alloc | apply RD.drew | refine RD.setCell ?_ (by (try dsimp only); omega) _))) ?_; rintro e x3 ⟨v3, rfl, rfl, f3, d3⟩; have D3 := hideIt d3; have F3 := hideIt (show Fr R w x3 from Fr.trans (by repeat with_reducible first | exact FA.out | apply Fr.alloc | apply Fr.drew | refine Fr.setNew ?_ (by (try dsimp only); omega) _) f3); have I3 := hideIt (I0.out.fr (R := R) (by omega) f3); have Z3 : w.heap.size ≤ x3.heap.size := F3.out.size; clear f3 d3) | (go_at_call 93; refine Calls.mono (okc h4 (C4.out _ (by repeat with_reducible first | exact D3.out | apply RD.alloc | apply RD.drew | refine RD.setCell ?_ (by (try dsimp only); omega) _))) ?_; rintro e x4 ⟨v4, rfl, hv4, f4, d4⟩; obtain ⟨a4, c4, g4, rfl, cp4, sk4, l4, ok4⟩ := hv4.out; have D4 := hideIt d4; have F4 := hideIt (show Fr R w x4 from Fr.trans (by repeat with_reducible first | exact F3.out | apply Fr.alloc | apply Fr.drew | refine Fr.setNew ?_ (by (try dsimp only); omega) _) f4); have Z4 : w.heap.size ≤ x4.heap.size := F4.out.size; have KK := hideIt (And.intro l4 (And.intro cp4 (And.intro sk4 ok4))); have I4 := hideIt (I3.out.fr (R := R) (by omega) f4); clear hv4 l4 cp4 sk4 ok4 f4 d4) | (at_builtin; refine app_node (B := w.heap.size) (X := x4) I4.out Z4 (by omega) (y := y4) KK.out.1 Z3 (fun k hk => (I3.out.lt k hk).2) KK.out.2.2.2 KK.out.2.2.1 KK.out.2.1 (by omega) rfl (.tmp 15) (.tmp 18) rfl rfl rfl ?_; intro gg cc x9 li9 gr9; have I9 := hideIt li9; have D9 := hideIt (RD.grown (D4.out.alloc _) gr9 (fun k hk => by have := (I4.out.lt k hk).1; omega)); have F9 := hideIt (Fr.grown (F4.out.alloc _) gr9 (fun k hk => (I4.out.lt k hk).1)); clear li9 gr9) | fail)
                    go_roundg m
                    case measure => omega
                    case rel => exact ⟨P.app (one y4), G.app (.cons y4.1 a4 c4 g4 .nil), s5, EE.out, by omega, hPP, by rw [app_len]; omega, I9.out, D9.out, F9.out⟩

end Go.Proofs.YtoilhcklflmamaaGreatDoor

namespace Go.Proofs.YtoilhcklflmamaaGreatDoor
open Go.RowKit
open Pr
set_option linter.unusedVariables false

set_option maxRecDepth 100000 in
set_option maxHeartbeats 4000000 in
theorem listed_rd_a (R g cap : Nat) (L : List Tok) (n : Nat) (HX : ∀ m, m ≤ n → ∀ s, rd m .argument s ≠ .out → Rule 125 #[] R g cap L s (rd m .argument s)) (s : St) (hno : ((needM [40] s).bnd fun _ s => (tryM [41] s).bnd fun b s => if b then Rs.ok (nk 0, .nil) s else (rd n .argument s).bnd fun x => rd n (.more .argument (one x))) ≠ .out) :
    ∀ w, RD w R g cap L s → Calls Tryz.prog 92 #[rp R, .func (.func 125) #[rp R] #[]] w (PostG (VLJ w.heap.size) R g cap L w ((needM [40] s).bnd fun _ s => (tryM [41] s).bnd fun b s => if b then Rs.ok (nk 0, .nil) s else (rd n .argument s).bnd fun x => rd n (.more .argument (one x)))) := by
  intro w h
  have HD := hideIt h
  have hR := h.b.lt_size
  have hlen := h.p.len
  clear h
  cases h1 : needM [40] s with
  | out => rw [h1] at hno; exact absurd rfl hno
  | bad k p =>
    have C1 := hideIt (fun X (h : RD X R g cap L s) => need_any [40] (by decide) R g cap L s X h)
    clear hno HX
    go_enter Tryz.func92, Tryz.ntmps92
    go_wp2_with (first | (go_at_call_of 91 (Value.string ⟨#[40]⟩); refine Calls.mono (badc h1 (C1.out _ (by repeat with_reducible first | exact HD.out | apply RD.alloc | apply RD.drew | refine RD.setCell ?_ (by (try dsimp only); omega) _))) ?_; rintro e x1 ⟨rfl, f1⟩; have F1 := hideIt (show Fr R w x1 from Fr.trans (by repeat with_reducible first | exact (Fr.refl R w) | apply Fr.alloc | apply Fr.drew | refine Fr.setNew ?_ (by (try dsimp only); omega) _) f1); clear f1) | fail)
    exact ⟨rfl, F1.out, rfl⟩
  | ok u1 s1 =>
    rw [h1] at hno
    simp only [bnd_ok] at hno ⊢
    have C1 := hideIt (fun X (h : RD X R g cap L s) => need_any [40] (by decide) R g cap L s X h)
    have C2 := hideIt (fun X (h : RD X R g cap L s1) => try_any [41] (by decide) R g cap L s1 X h)
    cases h2 : tryM [41] s1 with
    | out => rw [h2] at hno; exact absurd rfl hno
    | bad k p =>
      clear hno HX
      go_enter Tryz.func92, Tryz.ntmps92
      go_wp2_with (first | (go_at_call_of 91 (Value.string ⟨#[40]⟩); refine Calls.mono (okc h1 (C1.out _ (by repeat with_reducible first | exact HD.out | apply RD.alloc | apply RD.drew | refine RD.setCell ?_ (by (try dsimp only); omega) _))) ?_; rintro e x1 ⟨v1, rfl, rfl, f1, d1⟩; have D1 := hideIt d1; have F1 := hideIt (show Fr R w x1 from Fr.trans (by repeat with_reducible first | exact (Fr.refl R w) | apply Fr.alloc | apply Fr.drew | refine Fr.setNew ?_ (by (try dsimp only); omega) _) f1); clear f1 d1) | (go_at_call_of 64 (Value.string ⟨#[41]⟩); refine Calls.mono (badc h2 (C2.out _ (by repeat with_reducible first | exact D1.out | apply RD.alloc | apply RD.drew | refine RD.setCell ?_ (by (try dsimp only); omega) _))) ?_; rintro e x2 ⟨rfl, f2⟩; have F2 := hideIt (show Fr R w x2 from Fr.trans (by repeat with_reducible first | exact F1.out | apply Fr.alloc | apply Fr.drew | refine Fr.setNew ?_ (by (try dsimp only); omega) _) f2); clear f2) | fail)
      exact ⟨rfl, F2.out, rfl⟩
    | ok b s2 =>
      rw [h2] at hno
      simp only [bnd_ok] at hno ⊢
      cases b with
      | true =>
        simp only [if_true] at hno ⊢
        clear hno HX
        go_enter Tryz.func92, Tryz.ntmps92
        go_wp2_with (first | (go_at_call_of 91 (Value.string ⟨#[40]⟩); refine Calls.mono (okc h1 (C1.out _ (by repeat with_reducible first | exact HD.out | apply RD.alloc | apply RD.drew | refine RD.setCell ?_ (by (try dsimp only); omega) _))) ?_; rintro e x1 ⟨v1, rfl, rfl, f1, d1⟩; have D1 := hideIt d1; have F1 := hideIt (show Fr R w x1 from Fr.trans (by repeat with_reducible first | exact (Fr.refl R w) | apply Fr.alloc | apply Fr.drew | refine Fr.setNew ?_ (by (try dsimp only); omega) _) f1); clear f1 d1) | (go_at_call_of 64 (Value.string ⟨#[41]⟩); refine Calls.mono (okc h2 (C2.out _ (by repeat with_reducible first | exact D1.out | apply RD.alloc | apply RD.drew | refine RD.setCell ?_ (by (try dsimp only); omega) _))) ?_; rintro e x2 ⟨v2, rfl, rfl, f2, d2⟩; have D2 := hideIt d2; have F2 := hideIt (show Fr R w x2 from Fr.trans (by repeat with_reducible first | exact F1.out | apply Fr.alloc | apply Fr.drew | refine Fr.setNew ?_ (by (try dsimp only); omega) _) f2); clear f2 d2) | fail)
        go_ret
        exact ⟨F2.out, _, rfl, ⟨⟨_, LI.nil _ _⟩, fun _ => rfl⟩, D2.out⟩
      | false =>
        simp only [Bool.false_eq_true, if_false] at hno ⊢
        cases h3 : rd n .argument s2 with
        | out => rw [h3] at hno; exact absurd rfl hno
        | bad k p =>
          have C3 := hideIt (fun X (h : RD X R g cap L s2) => (HX n (Nat.le_refl _) s2 (by rw [h3]; exact fun e => by cases e)) X h)
          clear hno HX
          go_enter Tryz.func92, Tryz.ntmps92
          go_wp2_with (first | (go_at_call_of 91 (Value.string ⟨#[40]⟩); refine Calls.mono (okc h1 (C1.out _ (by repeat with_reducible first | exact HD.out | apply RD.alloc | apply RD.drew | refine RD.setCell ?_ (by (try dsimp only); omega) _))) ?_; rintro e x1 ⟨v1, rfl, rfl, f1, d1⟩; have D1 := hideIt d1; have F1 := hideIt (show Fr R w x1 from Fr.trans (by repeat with_reducible first | exact (Fr.refl R w) | apply Fr.alloc | apply Fr.drew | refine Fr.setNew ?_ (by (try dsimp only); omega) _) f1); clear f1 d1) | (go_at_call_of 64 (Value.string ⟨#[41]⟩); refine Calls.mono (okc h2 (C2.out _ (by repeat with_reducible first | exact D1.out | apply RD.alloc | apply RD.drew | refine RD.setCell ?_ (by (try dsimp only); omega) _))) ?_; rintro e x2 ⟨v2, rfl, rfl, f2, d2⟩; have D2 := hideIt d2; have F2 := hideIt (show Fr R w x2 from Fr.trans (by repeat with_reducible first | exact F1.out | apply Fr.alloc | apply Fr.drew | refine Fr.setNew ?_ (by (try dsimp only); omega) _) f2); clear f2 d2) | (go_at_call 125; refine Calls.mono (badc h3 (C3.out _ (by repeat with_reducible first | exact D2.out | apply RD.alloc | apply RD.drew | refine RD.setCell ?_ (by (try dsimp only); omega) _))) ?_; rintro e x3 ⟨rfl, f3⟩; have F3 := hideIt (show Fr R w x3 from Fr.trans (by repeat with_reducible first | exact F2.out | apply Fr.alloc | apply Fr.drew | refine Fr.setNew ?_ (by (try dsimp only); omega) _) f3); clear f3) | fail)
          exact ⟨rfl, F3.out, rfl⟩
        | ok y s3 =>
          rw [h3] at hno
          simp only [bnd_ok] at hno ⊢
          have C3 := hideIt (fun X (h : RD X R g cap L s2) => (HX n (Nat.le_refl _) s2 (by rw [h3]; exact fun e => by cases e)) X h)
          have HXX := hideIt HX
          clear HX
          obtain ⟨r, hr⟩ : ∃ r, rd n (.more .argument (one y)) s3 = r := ⟨_, rfl⟩
          rw [hr] at hno ⊢
          have HR := hideIt hr
          have HN := hideIt hno
          clear hr hno
          go_enter Tryz.func92, Tryz.ntmps92
          go_wp2_with (first | (go_at_call_of 91 (Value.string ⟨#[40]⟩); refine Calls.mono (okc h1 (C1.out _ (by repeat with_reducible first | exact HD.out | apply RD.alloc | apply RD.drew | refine RD.setCell ?_ (by (try dsimp only); omega) _))) ?_; rintro e x1 ⟨v1, rfl, rfl, f1, d1⟩; have D1 := hideIt d1; have F1 := hideIt (show Fr R w x1 from Fr.trans (by repeat with_reducible first | exact (Fr.refl R w) | apply Fr.alloc | apply Fr.drew | refine Fr.setNew ?_ (by (try dsimp only); omega) _) f1); clear f1 d1) | (go_at_call_of 64 (Value.string ⟨#[41]⟩); refine Calls.mono (okc h2 (C2.out _ (by repeat with_reducible first | exact D1.out | apply RD.alloc | apply RD.drew | refine RD.setCell ?_ (by (try dsimp only); omega) _))) ?_; rintro e x2 ⟨v2, rfl, rfl, f2, d2⟩; have D2 := hideIt d2; have F2 := hideIt (show Fr R w x2 from Fr.trans (by repeat with_reducible first | exact F1.out | apply Fr.alloc | apply Fr.drew | refine Fr.setNew ?_ (by (try dsimp only); omega) _) f2); clear f2 d2) | (go_at_call 125; refine Calls.mono (okc h3 (C3.out _ (by repeat with_reducible first | exact D2.out | apply RD.alloc | apply RD.drew | refine RD.setCell ?_ (by (try dsimp only); omega) _))) ?_; rintro e x3 ⟨v3, rfl, hv3, f3, d3⟩; obtain ⟨a3, c3, g3, rfl, cp3, sk3, l3, ok3⟩ := hv3.out; have D3 := hideIt d3; have F3 := hideIt (show Fr R w x3 from Fr.trans (by repeat with_reducible first | exact F2.out | apply Fr.alloc | apply Fr.drew | refine Fr.setNew ?_ (by (try dsimp only); omega) _) f3); have Z3 : w.heap.size ≤ x3.heap.size := F3.out.size; have KK := hideIt (And.intro l3 (And.intro cp3 (And.intro sk3 ok3))); clear hv3 l3 cp3 sk3 ok3 f3 d3) | fail)
          go_loopg [5] n (fun m u wr => ∃ (P G : Fo) (st : St), Hid (rd m (.more .argument P) st = r) ∧ m ≤ n ∧ P.len + st.t.length ≤ 70002 ∧ 1 ≤ P.len ∧ Hid (LI w.heap.size wr u P G) ∧ Hid (RD wr R g cap L st) ∧ Hid (Fr R w wr))
          case atStart => exact ⟨one y, .cons y.1 a3 c3 g3 .nil, s3, HR.out, Nat.le_refl _, by have := D3.out.p; obtain ⟨pre, e⟩ := this.suf; have := congrArg List.length e; simp at this; simp [one, Fo.len]; omega, by simp [one, Fo.len], LI.one KK.out.1 F2.out.size Z3 KK.out.2.2.2 KK.out.2.2.1 KK.out.2.1 (Nat.le_refl _), D3.out.alloc _, F3.out.alloc _⟩
          case round =>
            obtain ⟨P, G, st, EE, hm, hP, hP1, I0, DA, FA⟩ := hrel
            clear D1 F1 D2 F2 D3 F3 HR h1 h2 h3 KK Z3 C1 C2 C3
            have hGL : G.len ≤ 70002 := by have := I0.out.cp.len; omega
            have Z0 : w.heap.size ≤ wr.heap.size := FA.out.size
            cases gk with
            | zero => exact absurd EE.out.symm HN.out
            | succ m =>
              have E1 : rd (m + 1) (.more .argument P) st = (tryM [44] st).bnd fun b s => if b then (rd m .argument s).bnd fun y => rd m (.more .argument (P.app (one y))) else (needM [41] s).bnd fun _ s => .ok (nk 0, P) s := rfl
              rw [E1] at EE
              clear E1
              have C3 := hideIt (fun X (h : RD X R g cap L st) => try_any [44] (by decide) R g cap L st X h)
              have hwf := hideIt DA.out.p.wf
              cases h3 : tryM [44] st with
              | out => rw [h3] at EE; exact absurd EE.out.symm HN.out
              | bad k p =>
                rw [h3] at EE
                have ER : r = .bad k p := EE.out.symm
                subst ER
                go_wp2_with (first | (go_at_call_of 64 (Value.string ⟨#[44]⟩); refine Calls.mono (badc h3 (C3.out _ (by repeat with_reducible first | exact DA.out | apply RD.alloc | apply RD.drew | refine RD.setCell ?_ (by (try dsimp only); omega) _))) ?_; rintro e x3 ⟨rfl, f3⟩; have F3 := hideIt (show Fr R w x3 from Fr.trans (by repeat with_reducible first | exact FA.out | apply Fr.alloc | apply Fr.drew | refine Fr.setNew ?_ (by (try dsimp only); omega) _) f3); clear f3) | fail)
                exact ⟨rfl, F3.out, rfl⟩
              | ok b s4 =>
                rw [h3] at EE
                simp only [bnd_ok] at EE
                cases b with
                | false =>
                  simp only [Bool.false_eq_true, if_false] at EE
                  have C4 := hideIt (fun X (h : RD X R g cap L s4) => need_any [41] (by decide) R g cap L s4 X h)
                  cases h4 : needM [41] s4 with
                  | out => rw [h4] at EE; exact absurd EE.out.symm HN.out
                  | bad k p =>
                    rw [h4] at EE
                    have ER : r = .bad k p := EE.out.symm
                    subst ER
                    go_wp2_with (first | (go_at_call_of 64 (Value.string ⟨#[44]⟩); refine Calls.mono (okc h3 (C3.out _ (by repeat with_reducible first | exact DA.out | apply RD.alloc | apply RD.drew | refine RD.setCell ?_ (by (try dsimp only); omega) _))) ?_; rintro e x3 ⟨v3, rfl, rfl, f3, d3⟩; have D3 := hideIt d3; have F3 := hideIt (show Fr R w x3 from Fr.trans (by repeat with_reducible first | exact FA.out | apply Fr.alloc | apply Fr.drew | refine Fr.setNew ?_ (by (try dsimp only); omega) _) f3); have I3 := hideIt (I0.out.fr (R := R) (by omega) f3); have Z3 : w.heap.size ≤ x3.heap.size := F3.out.size; clear f3 d3) | (go_at_call_of 91 (Value.string ⟨#[41]⟩); refine Calls.mono (badc h4 (C4.out _ (by repeat with_reducible first | exact D3.out | apply RD.alloc | apply RD.drew | refine RD.setCell ?_ (by (try dsimp only); omega) _))) ?_; rintro e x4 ⟨rfl, f4⟩; have F4 := hideIt (show Fr R w x4 from Fr.trans (by repeat with_reducible first | exact F3.out | apply Fr.alloc | apply Fr.drew | refine Fr.setNew ?_ (by (try dsimp only); omega) _) f4); clear f4) | fail)
                    exact ⟨rfl, F4.out, rfl⟩
                  | ok u5 s5 =>
                    rw [h4] at EE
                    simp only [bnd_ok] at EE
                    have ER : r = .ok (nk 0, P) s5 := EE.out.symm
                    subst ER
                    go_wp2_with (first | (go_at_call_of 64 (Value.string ⟨#[44]⟩); refine Calls.mono (okc h3 (C3.out _ (by repeat with_reducible first | exact DA.out | apply RD.alloc | apply RD.drew | refine RD.setCell ?_ (by (try dsimp only); omega) _))) ?_; rintro e x3 ⟨v3, rfl, rfl, f3, d3⟩; have D3 := hideIt d3; have F3 := hideIt (show Fr R w x3 from Fr.trans (by repeat with_reducible first | exact FA.out | apply Fr.alloc | apply Fr.drew | refine Fr.setNew ?_ (by (try dsimp only); omega) _) f3); have I3 := hideIt (I0.out.fr (R := R) (by omega) f3); have Z3 : w.heap.size ≤ x3.heap.size := F3.out.size; clear f3 d3) | (go_at_call_of 91 (Value.string ⟨#[41]⟩); refine Calls.mono (okc h4 (C4.out _ (by repeat with_reducible first | exact D3.out | apply RD.alloc | apply RD.drew | refine RD.setCell ?_ (by (try dsimp only); omega) _))) ?_; rintro e x4 ⟨v4, rfl, rfl, f4, d4⟩; have D4 := hideIt d4; have F4 := hideIt (show Fr R w x4 from Fr.trans (by repeat with_reducible first | exact F3.out | apply Fr.alloc | apply Fr.drew | refine Fr.setNew ?_ (by (try dsimp only); omega) _) f4); have I4 := hideIt (I3.out.fr (R := R) (by omega) f4); clear f4 d4) | fail)
                    go_ret
                    exact ⟨F4.out, _, rfl, ⟨⟨_, I4.out⟩, fun e => by have e' : P = .nil := e; rw [e'] at hP1; simp [Fo.len] at hP1⟩, D4.out⟩
                | true =>
                  simp only [if_true] at EE
                  have hw4 := stp_true hwf.out (by decide) h3
                  cases h4 : rd m .argument s4 with
                  | out => rw [h4] at EE; exact absurd EE.out.symm HN.out
                  | bad k p =>
                    rw [h4] at EE
                    have ER : r = .bad k p := EE.out.symm
                    subst ER
                    have C4 := hideIt (fun X (h : RD X R g cap L s4) => (HXX.out m (by omega) s4 (by rw [h4]; exact fun e => by cases e)) X h)
                    go_wp2_with (first | (go_at_call_of 64 (Value.string ⟨#[44]⟩); refine Calls.mono (okc h3 (C3.out _ (by repeat with_reducible first | exact DA.out | apply RD.alloc | apply RD.drew | refine RD.setCell ?_ (by (try dsimp only); omega) _))) ?_; rintro e x3 ⟨v3, rfl, rfl, f3, d3⟩; have D3 := hideIt d3; have F3 := hideIt (show Fr R w x3 from Fr.trans (by repeat with_reducible first | exact FA.out | apply Fr.alloc | apply Fr.drew | refine Fr.setNew ?_ (by (try dsimp only); omega) _) f3); have I3 := hideIt (I0.out.fr (R := R) (by omega) f3); have Z3 : w.heap.size ≤ x3.heap.size := F3.out.size; clear f3 d3) | (go_at_call 125; refine Calls.mono (badc h4 (C4.out _ (by repeat with_reducible first | exact D3.out | apply RD.alloc | apply RD.drew | refine RD.setCell ?_ (by (try dsimp only); omega) _))) ?_; rintro e x4 ⟨rfl, f4⟩; have F4 := hideIt (show Fr R w x4 from Fr.trans (by repeat with_reducible first | exact F3.out | apply Fr.alloc | apply Fr.drew | refine Fr.setNew ?_ (by (try dsimp only); omega) _) f4); clear f4) | fail)
                    exact ⟨rfl, F4.out, rfl⟩
                  | ok y4 s5 =>
                    rw [h4] at EE
                    simp only [bnd_ok] at EE
                    have hl := (rd_post (nt := .argument) hw4.1 trivial h4).len
                    have C4 := hideIt (fun X (h : RD X R g cap L s4) => (HXX.out m (by omega) s4 (by rw [h4]; exact fun e => by cases e)) X h)
                    simp only [d1] at hl
                    have hl4 := hw4.2
                    have hPP : (P.app (one y4)).len + s5.t.length ≤ 70002 := by rw [app_len]; simp only [one, Fo.len]; omega
                    clear hw4
                    go_wp2_with (first | (go_at_call_of 64 (Value.string ⟨#[44]⟩); refine Calls.mono (okc h3 (C3.out _ (by repeat with_reducible first | exact DA.out | apply RD.alloc | apply RD.drew | refine RD.setCell ?_ (by (try dsimp only); omega) _))) ?_; rintro e x3 ⟨v3, rfl, rfl, f3, d3⟩; have D3 := hideIt d3; have F3 := hideIt (show Fr R w x3 from Fr.trans (by repeat with_reducible first | exact FA.out | apply Fr.alloc | apply Fr.drew | refine Fr.setNew ?_ (by (try dsimp only); omega) _) f3); have I3 := hideIt (I0.out.fr (R := R) (by omega) f3); have Z3 : w.heap.size ≤ x3.heap.size := F3.out.size; clear f3 d3) | (go_at_call 125; refine Calls.mono (okc h4 (C4.out _ (by repeat with_reducible first | exact D3.out | apply RD.alloc | apply RD.drew | refine RD.setCell ?_ (by (try dsimp only); omega) _))) ?_; rintro e x4 ⟨v4, rfl, hv4, f4, d4⟩; obtain ⟨a4, c4, g4, rfl, cp4, sk4, l4, ok4⟩ := hv4.out; have D4 := hideIt d4; have F4 := hideIt (show Fr R w x4 from Fr.trans (by repeat with_reducible first | exact F3.out | apply Fr.alloc | apply Fr.drew | refine Fr.setNew ?_ (by (try dsimp only); omega) _) f4); have Z4 : w.heap.size ≤ x4.heap.size := F4.out.size; have KK := hideIt (And.intro l4 (And.intro cp4 (And.intro sk4 ok4))); have I4 := hideIt (I3.out.fr (R := R) (by omega) f4); clear hv4 l4 cp4 sk4 ok4 f4 d4) | (at_builtin; refine app_node (B := w.heap.size) (X := x4) I4.out Z4 (by omega) (y := y4) KK.out.1 Z3 (fun k hk => (I3.out.lt k hk).2) KK.out.2.2.2 KK.out.2.2.1 KK.out.2.1 (by omega) rfl (.tmp 15) (.tmp 18) rfl rfl rfl ?_; intro gg cc x9 li9 gr9; have I9 := hideIt li9; have D9 := hideIt (RD.grown (D4.out.alloc _) gr9 (fun k hk => by have := (I4.out.lt k hk).1; omega)); have F9 := hideIt (Fr.grown (F4.out.alloc _) gr9 (fun k hk => (I4.out.lt k hk).1)); clear li9 gr9) | fail)
                    go_roundg m
                    case measure => omega
                    case rel => exact ⟨P.app (one y4), G.app (.cons y4.1 a4 c4 g4 .nil), s5, EE.out, by omega, hPP, by rw [app_len]; omega, I9.out, D9.out, F9.out⟩

end Go.Proofs.YtoilhcklflmamaaGreatDoor
