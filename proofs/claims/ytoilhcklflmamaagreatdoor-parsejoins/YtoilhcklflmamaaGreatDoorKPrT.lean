/-
  Operations of two numbers: contracts over the program; the conditions: the reader lies in memory as it should, and what is called keeps its own contract.
-/
import Derived.Deep.LoopGhost
import Derived.Test.YtoilhcklflmamaaGreatDoorKPrG
namespace Go.Proofs.YtoilhcklflmamaaGreatDoor
open Go.RowKit
open Pr
set_option linter.unusedVariables false

/-- A forest in memory, in blocks of a kind. -/
structure Lq (P : Nat → Prop) (w : World) (a : Option Addr) (f : Fo) : Prop where
  i : In w a f
  v : Av P a f
theorem Lq.of_ls {B U : Nat} {P : Nat → Prop} {w : World} {a : Option Addr} {f : Fo} (h : Ls B U w a f) (hP : ∀ b, B ≤ b → b < U → P b) : Lq P w a f := ⟨h.i, h.v.mono fun b hb => hP b hb.1 hb.2⟩
theorem Lq.mono {P P' : Nat → Prop} {w : World} {a : Option Addr} {f : Fo} (h : Lq P w a f) (hP : ∀ b, P b → P' b) : Lq P' w a f := ⟨h.i, h.v.mono hP⟩
theorem Lq.fr {R : Nat} {P : Nat → Prop} {w x : World} {a : Option Addr} {f : Fo} (h : Lq P w a f) (hR : ∀ b, P b → b ≠ R) (k : Fr R w x) : Lq P x a f := ⟨in_grown k h.i (h.v.mono fun b hb => (fun e => hR b hb (Option.some.inj e).symm : some R ≠ some b)), h.v⟩
theorem Lq.q {P : Nat → Prop} {w x : World} {a : Option Addr} {f : Fo} (h : Lq P w a f) (k : Q w x) : Lq P x a f := ⟨h.i.keep (Nat.le_refl _) k, h.v⟩
theorem Lq.alloc {P : Nat → Prop} {w : World} {a : Option Addr} {f : Fo} (h : Lq P w a f) (o : Obj) : Lq P (w.alloc o) a f := h.q ((Q.refl w).alloc o)
theorem Lq.drew {P : Nat → Prop} {w : World} {a : Option Addr} {f : Fo} (h : Lq P w a f) : Lq P w.drew a f := h.q (Q.refl w).drew
theorem Lq.set {P : Nat → Prop} {w : World} {a : Option Addr} {f : Fo} (h : Lq P w a f) {p : Addr} (hp : ¬ P p.block) (u : Value) : Lq P (w.setCell p u) a f := ⟨in_set h.i (h.v.mono fun b hb => (fun e => hp (by rw [← e]; exact hb) : b ≠ p.block)), h.v⟩
theorem Lq.two {P P1 P2 : Nat → Prop} {w : World} {a a2 : Option Addr} {c c2 : Nat} {f f2 : Fo} {v v2 : NF} (h : Lq P1 w a f) (hv : v.ok) (hs : sok a f.len c) (h2 : Lq P2 w a2 f2) (hv2 : v2.ok) (hs2 : sok a2 f2.len c2) {b : Nat} (hb : w.heap.size = b) (h1P : ∀ b, P1 b → P b) (h2P : ∀ b, P2 b → P b) (hbP : P b) :
    Lq P (w.alloc (.cells (cellsN v (.slice a f.len c) ++ cellsN v2 (.slice a2 f2.len c2)).toArray 27)) (some ⟨b, 0, none⟩) (.cons v a c f (.cons v2 a2 c2 f2 .nil)) := by
  subst hb
  have h' := h.q ((Q.refl w).alloc (.cells (cellsN v (.slice a f.len c) ++ cellsN v2 (.slice a2 f2.len c2)).toArray 27))
  have h2' := h2.q ((Q.refl w).alloc (.cells (cellsN v (.slice a f.len c) ++ cellsN v2 (.slice a2 f2.len c2)).toArray 27))
  refine ⟨in_block (heap_alloc_new w _) (by simp [cellsF]) ⟨hv, hs, h'.i, hv2, hs2, h2'.i, trivial⟩, ?_⟩
  exact av_of_kids hbP ⟨h.v.mono h1P, h2.v.mono h2P, trivial⟩

set_option maxRecDepth 100000 in
set_option maxHeartbeats 4000000 in
theorem binary_rd (R g cap : Nat) (L : List Tok) (n : Nat) (HU : ∀ s, rd n .unary s ≠ .out → Rule 123 #[] R g cap L s (rd n .unary s)) (HB : ∀ m, m ≤ n → ∀ k : Nat, 1 ≤ k → k ≤ 11 → ∀ s, rd m (.binary k) s ≠ .out → Rule 119 #[.int .i64 k] R g cap L s (rd m (.binary k) s)) (least : Nat) (hl1 : 1 ≤ least) (hl2 : least ≤ 11) (s : St) (hno : rd (n + 1) (.binary least) s ≠ .out) :
    Rule 119 #[.int .i64 least] R g cap L s (rd (n + 1) (.binary least) s) := by
  intro w h
  have e : rd (n + 1) (.binary least) s = (rd n .unary s).bnd fun x => rd n (.ops least x) := rfl
  rw [e] at hno ⊢
  clear e
  have HD := hideIt h
  have hR := h.b.lt_size
  clear h
  cases h1 : rd n .unary s with
  | out => rw [h1] at hno; exact absurd rfl hno
  | bad k p =>
    have C1 := hideIt (fun X (h : RD X R g cap L s) => (HU s (by rw [h1]; exact fun e => by cases e)) X h)
    clear hno HB
    go_enter Tryz.func119, Tryz.ntmps119
    go_wp2_with (first | (go_at_call 123; refine Calls.mono (badc h1 (C1.out _ (HD.out.alloc _))) ?_; rintro e x1 ⟨rfl, f1⟩; have F1 := hideIt (show Fr R w x1 from Fr.trans ((Fr.refl R w).alloc _) f1); clear f1) | fail)
    exact ⟨rfl, F1.out, rfl⟩
  | ok x0 s1 =>
    rw [h1] at hno
    simp only [bnd_ok] at hno ⊢
    have C1 := hideIt (fun X (h : RD X R g cap L s) => (HU s (by rw [h1]; exact fun e => by cases e)) X h)
    have HXX := hideIt HB
    clear HB HU
    obtain ⟨r, hr⟩ : ∃ r, rd n (.ops least x0) s1 = r := ⟨_, rfl⟩
    rw [hr] at hno ⊢
    have HR := hideIt hr
    have HN := hideIt hno
    clear hr hno
    go_enter Tryz.func119, Tryz.ntmps119
    go_wp2_with (first | (go_at_call 123; refine Calls.mono (okc h1 (C1.out _ (HD.out.alloc _))) ?_; rintro e x1 ⟨v1, rfl, hv1, f1, d1⟩; obtain ⟨a1, c1, g1, rfl, cp1, sk1, l1, ok1⟩ := hv1.out; have D1 := hideIt d1; have F1 := hideIt (show Fr R w x1 from Fr.trans ((Fr.refl R w).alloc _) f1); have Z1 : w.heap.size + 1 ≤ x1.heap.size := (by have z := f1.size; (try simp at z); omega); have BR1 := hideIt (Bx.fr (b := w.heap.size) (v := (nk 0)) (s := (.slice none 0 0)) (Bx.newAt _ (nk 0) (.slice none 0 0) rfl) (by omega) f1); have LX1 := hideIt (Lq.of_ls (P := fun b => w.heap.size + 1 ≤ b ∧ b ≠ x1.heap.size) l1 (fun b h1 h2 => by (try simp at h1); omega)); have KX1 := hideIt (And.intro cp1 (And.intro sk1 ok1)); clear C1 hv1 f1 d1 l1 cp1 sk1 ok1) | fail)
    go_loopg [] n (fun m wr => ∃ (x : Nd) (st : St) (a : Option Addr) (c : Nat) (f : Fo), Hid (rd m (.ops least x) st = r) ∧ m ≤ n ∧ Hid (Bx wr x1.heap.size x.1 (.slice a f.len c)) ∧ Hid (Bx wr w.heap.size (nk 0) (.slice none 0 0)) ∧ Hid (Lq (fun b => w.heap.size + 1 ≤ b ∧ b ≠ x1.heap.size) wr a f) ∧ Hid (Cp x.2 f ∧ sok a f.len c ∧ x.1.ok) ∧ Hid (RD wr R g cap L st) ∧ Hid (Fr R w wr))
    case atStart => exact ⟨x0, s1, a1, c1, g1, HR.out, Nat.le_refl _, Bx.newAt _ x0.1 (.slice a1 g1.len c1) rfl, BR1.out.alloc _, LX1.out.q ((Q.refl _).alloc _), KX1.out, D1.out.alloc _, F1.out.alloc _⟩
    case round =>
      obtain ⟨x, st, a, c, f, EE, hm, BL, BR, LX, KX, D0, F0⟩ := hrel
      clear D1 F1 HR h1 BR1 LX1 KX1
      have C2 := hideIt (fun X (h : RD X R g cap L st) => operation_rd R g cap L st X h)
      have hp10 := powT_le (opT (tx st))
      have ho18 := opT_le (tx st)
      cases gk with
      | zero => exact absurd EE.out.symm HN.out
      | succ m =>
        have E1 : rd (m + 1) (.ops least x) st = if powT (opT (tx st)) < least then .ok x st else (takeM st).bnd fun _ s' => (nodeM s').bnd fun _ s' => (rd m (.binary (powT (opT (tx st)) + 1)) s').bnd fun y => rd m (.ops least ({ nk 21 with op := opT (tx st) }, (one x).app (one y))) := rfl
        rw [E1] at EE
        clear E1
        by_cases hp : powT (opT (tx st)) < least
        · rw [if_pos hp] at EE
          have ER : r = .ok x st := EE.out.symm
          subst ER
          have hp' : (powT (opT (tx st)) : Int) < (least : Int) := by omega
          generalize powT (opT (tx st)) = pp at *
          generalize opT (tx st) = oo at *
          go_wp2_with (first | (go_at_call 124; refine Calls.mono (C2.out _ D0.out) ?_; rintro e x2 ⟨rfl, q2⟩; have f2 := Fr.of_q (R := R) q2; have D2 := hideIt (D0.out.q q2); have F2 := hideIt (F0.out.trans f2); have BL2 := hideIt (BL.out.fr (by omega) f2); have BR2 := hideIt (BR.out.fr (by omega) f2); have LX2 := hideIt (LX.out.q q2); have y2 := BL2.out.lt; have z2 := BR2.out.lt; obtain ⟨l0, l1, l2, l3, l4, l5, l6, l7, l8, l9⟩ := BL2.out.ten; have lf := BL2.out.free; obtain ⟨r0, r1, r2, r3, r4, r5, r6, r7, r8, r9⟩ := BR2.out.ten; have rf := BR2.out.free; clear C2 q2 f2) | fail)
          refine bodyPost_ret (v := nodeV x.1 (.slice a f.len c)) (by simp [results, Tryz.results119, go_sem, r0, r1, r2, r3, r4, r5, r6, r7, r8, r9]) rfl ⟨(by repeat with_reducible first | exact F2.out | apply Fr.alloc | apply Fr.drew | refine Fr.setNew ?_ (by (try dsimp only); omega) _), _, rfl, ?_, (by repeat with_reducible first | exact D2.out | apply RD.alloc | apply RD.drew | refine RD.setCell ?_ (by (try dsimp only); omega) _)⟩
          refine ⟨a, c, f, rfl, KX.out.1, KX.out.2.1, ?_, ?_, KX.out.2.2⟩
          · refine Lq.i (P := fun b => w.heap.size + 1 ≤ b ∧ b ≠ x1.heap.size) ?_
            exact (by repeat (first | with_reducible exact LX2.out | with_reducible refine Lq.alloc ?_ _ | (with_reducible refine Lq.set ?_ ?hh _; case hh => ((try dsimp only); omega)) | with_reducible refine Lq.drew ?_))
          · exact LX2.out.v.mono fun b hb => (show w.heap.size ≤ b by have := hb.1; omega)
        · rw [if_neg hp] at EE
          have hp' : ¬ (powT (opT (tx st)) : Int) < (least : Int) := by omega
          have hne : powT (opT (tx st)) ≠ 0 := by omega
          have C3 := hideIt (fun X (h : RD X R g cap L st) => take_any R g cap L st X h (Or.inr (op_text _ hne).1))
          cases h3 : takeM st with
          | out => rw [h3] at EE; exact absurd EE.out.symm HN.out
          | bad k p =>
            rw [h3] at EE
            have ER : r = .bad k p := EE.out.symm
            subst ER
            generalize powT (opT (tx st)) = pp at *
            generalize opT (tx st) = oo at *
            go_wp2_with (first | (go_at_call 124; refine Calls.mono (C2.out _ D0.out) ?_; rintro e x2 ⟨rfl, q2⟩; have f2 := Fr.of_q (R := R) q2; have D2 := hideIt (D0.out.q q2); have F2 := hideIt (F0.out.trans f2); have BL2 := hideIt (BL.out.fr (by omega) f2); have BR2 := hideIt (BR.out.fr (by omega) f2); have LX2 := hideIt (LX.out.q q2); have y2 := BL2.out.lt; have z2 := BR2.out.lt; obtain ⟨l0, l1, l2, l3, l4, l5, l6, l7, l8, l9⟩ := BL2.out.ten; have lf := BL2.out.free; obtain ⟨r0, r1, r2, r3, r4, r5, r6, r7, r8, r9⟩ := BR2.out.ten; have rf := BR2.out.free; clear C2 q2 f2) | (go_at_call 89; refine Calls.mono (badc h3 (C3.out _ D2.out)) ?_; rintro e x3 ⟨rfl, f3⟩; have F3 := hideIt (F2.out.trans f3); clear f3) | fail)
            exact ⟨rfl, F3.out, rfl⟩
          | ok u3 s3 =>
            rw [h3] at EE
            simp only [bnd_ok] at EE
            have C4 := hideIt (fun X (h : RD X R g cap L s3) => node_rd R g cap L s3 X h ⟨21, (opT (tx st) : Int), 0, 0, 0, 0, 0, ⟨#[]⟩, ⟨#[]⟩⟩ none 0 0)
            cases h4 : nodeM s3 with
            | out => rw [h4] at EE; exact absurd EE.out.symm HN.out
            | bad k p =>
              rw [h4] at EE
              have ER : r = .bad k p := EE.out.symm
              subst ER
              generalize powT (opT (tx st)) = pp at *
              generalize opT (tx st) = oo at *
              go_wp2_with (first | (go_at_call 124; refine Calls.mono (C2.out _ D0.out) ?_; rintro e x2 ⟨rfl, q2⟩; have f2 := Fr.of_q (R := R) q2; have D2 := hideIt (D0.out.q q2); have F2 := hideIt (F0.out.trans f2); have BL2 := hideIt (BL.out.fr (by omega) f2); have BR2 := hideIt (BR.out.fr (by omega) f2); have LX2 := hideIt (LX.out.q q2); have y2 := BL2.out.lt; have z2 := BR2.out.lt; obtain ⟨l0, l1, l2, l3, l4, l5, l6, l7, l8, l9⟩ := BL2.out.ten; have lf := BL2.out.free; obtain ⟨r0, r1, r2, r3, r4, r5, r6, r7, r8, r9⟩ := BR2.out.ten; have rf := BR2.out.free; clear C2 q2 f2) | (go_at_call 89; refine Calls.mono (okc h3 (C3.out _ D2.out)) ?_; rintro e x3 ⟨v3, rfl, rfl, f3, d3⟩; have D3 := hideIt d3; have F3 := hideIt (F2.out.trans f3); have BL3 := hideIt (BL2.out.fr (by omega) f3); have BR3 := hideIt (BR2.out.fr (by omega) f3); have LX3 := hideIt (LX2.out.fr (fun b (hb : w.heap.size + 1 ≤ b ∧ b ≠ x1.heap.size) => (by omega)) f3); have y3 := BL3.out.lt; have z3 := BR3.out.lt; clear C3 d3 f3) | (go_at_call 31; refine Calls.mono (badc h4 (C4.out _ D3.out)) ?_; rintro e x4 ⟨rfl, f4⟩; have F4 := hideIt (F3.out.trans f4); clear f4) | fail)
              exact ⟨rfl, F4.out, rfl⟩
            | ok u4 s4 =>
              rw [h4] at EE
              simp only [bnd_ok] at EE
              cases h5 : rd m (.binary (powT (opT (tx st)) + 1)) s4 with
              | out => rw [h5] at EE; exact absurd EE.out.symm HN.out
              | bad k p =>
                rw [h5] at EE
                have ER : r = .bad k p := EE.out.symm
                subst ER
                have C5 := hideIt (fun X (h : RD X R g cap L s4) => (HXX.out m (by omega) (powT (opT (tx st)) + 1) (by omega) (by omega) s4 (by rw [h5]; exact fun e => by cases e)) X h)
                have ec : ((powT (opT (tx st)) + 1 : Nat) : Int) = (powT (opT (tx st)) : Int) + 1 := by omega
                have hw1 : IntKind.i64.wrap ((powT (opT (tx st)) : Int) + 1) = (powT (opT (tx st)) : Int) + 1 := by rw [IntKind.wrap_i64]; omega
                rw [ec] at C5
                clear ec
                generalize powT (opT (tx st)) = pp at *
                generalize opT (tx st) = oo at *
                go_wp2_with (first | (go_at_call 124; refine Calls.mono (C2.out _ D0.out) ?_; rintro e x2 ⟨rfl, q2⟩; have f2 := Fr.of_q (R := R) q2; have D2 := hideIt (D0.out.q q2); have F2 := hideIt (F0.out.trans f2); have BL2 := hideIt (BL.out.fr (by omega) f2); have BR2 := hideIt (BR.out.fr (by omega) f2); have LX2 := hideIt (LX.out.q q2); have y2 := BL2.out.lt; have z2 := BR2.out.lt; obtain ⟨l0, l1, l2, l3, l4, l5, l6, l7, l8, l9⟩ := BL2.out.ten; have lf := BL2.out.free; obtain ⟨r0, r1, r2, r3, r4, r5, r6, r7, r8, r9⟩ := BR2.out.ten; have rf := BR2.out.free; clear C2 q2 f2) | (go_at_call 89; refine Calls.mono (okc h3 (C3.out _ D2.out)) ?_; rintro e x3 ⟨v3, rfl, rfl, f3, d3⟩; have D3 := hideIt d3; have F3 := hideIt (F2.out.trans f3); have BL3 := hideIt (BL2.out.fr (by omega) f3); have BR3 := hideIt (BR2.out.fr (by omega) f3); have LX3 := hideIt (LX2.out.fr (fun b (hb : w.heap.size + 1 ≤ b ∧ b ≠ x1.heap.size) => (by omega)) f3); have y3 := BL3.out.lt; have z3 := BR3.out.lt; clear C3 d3 f3) | (go_at_call 31; refine Calls.mono (okc h4 (C4.out _ D3.out)) ?_; rintro e x4 ⟨v4, rfl, rfl, f4, d4⟩; have D4 := hideIt d4; have F4 := hideIt (F3.out.trans f4); have BL4 := hideIt (BL3.out.fr (by omega) f4); have BR4 := hideIt (BR3.out.fr (by omega) f4); have LX4 := hideIt (LX3.out.fr (fun b (hb : w.heap.size + 1 ≤ b ∧ b ≠ x1.heap.size) => (by omega)) f4); have y4 := BL4.out.lt; have z4 := BR4.out.lt; have Z4 : w.heap.size ≤ x4.heap.size := F4.out.size; clear C4 d4 f4) | fail)
                refine wp_region_held_drew (S := fun w' => Bx w' x1.heap.size x.1 (.slice a f.len c)) (by kernel_rfl) ((BL4.out.alloc _).drew) (fun hHeld => ?_)
                refine wpAnyH_take (i := 0) (oi := ⟨_, _, _, _, _, _⟩) (v := ?_) rfl (by kernel_rfl) (by kernel_rfl) (by kernel_rfl) (fun _ _ _ h => h) (Or.inl ⟨by rfl, ?_⟩) (by assumption) ?_
                rotate_left 1
                · intro w' hSw; obtain ⟨ql0, ql1, ql2, ql3, ql4, ql5, ql6, ql7, ql8, ql9⟩ := Bx.ten hSw; go_simp; all_goals with_reducible rfl
                try simp only [Act.put, List.setIfInBounds_toArray, List.set_cons_zero, List.set_cons_succ]
                refine wpAnyH_take (i := 1) (oi := ⟨_, _, _, _, _, _⟩) (v := ?_) rfl (by kernel_rfl) (by kernel_rfl) (by kernel_rfl) (fun _ _ _ h => h) (Or.inl ⟨by rfl, ?_⟩) (by assumption) ?_
                rotate_left 1
                · intro w' hSw; go_simp; all_goals with_reducible rfl
                try simp only [Act.put, List.setIfInBounds_toArray, List.set_cons_zero, List.set_cons_succ]
                refine wpAnyH_take (i := 2) (oi := ⟨_, _, _, _, _, _⟩) (v := ?_) rfl (by kernel_rfl) (by kernel_rfl) (by kernel_rfl) (fun _ _ _ h => h) (Or.inl ⟨by rfl, ?_⟩) (by assumption) ?_
                rotate_left 1
                · intro w' hSw; go_simp; all_goals with_reducible rfl
                try simp only [Act.put, List.setIfInBounds_toArray, List.set_cons_zero, List.set_cons_succ]
                refine wpAnyH_take (i := 3) (oi := ⟨_, _, _, _, _, _⟩) (v := ?_) rfl (by kernel_rfl) (by kernel_rfl) (by kernel_rfl) (fun _ _ _ h => h) (Or.inl ⟨by rfl, ?_⟩) (by assumption) ?_
                rotate_left 1
                · intro w' hSw; go_simp; all_goals with_reducible rfl
                try simp only [Act.put, List.setIfInBounds_toArray, List.set_cons_zero, List.set_cons_succ]
                refine wpAnyH_ready (rs := [4]) (by kernel_rfl) (by simp) (AllReadyH.cons (o := ⟨_, _, _, _, _, _⟩) rfl (fun K hK => ?_) AllReadyH.nil)
                go_simp
                (go_at_call 119; refine Calls.mono (badc h5 (C5.out _ (D4.out.alloc _).drew)) ?_; rintro e x5 ⟨rfl, f5⟩; have F5 := hideIt (show Fr R w x5 from Fr.trans (F4.out.alloc _).drew f5); clear f5)
                exact ⟨rfl, F5.out, rfl⟩
              | ok y s5 =>
                rw [h5] at EE
                simp only [bnd_ok] at EE
                have C5 := hideIt (fun X (h : RD X R g cap L s4) => (HXX.out m (by omega) (powT (opT (tx st)) + 1) (by omega) (by omega) s4 (by rw [h5]; exact fun e => by cases e)) X h)
                have ec : ((powT (opT (tx st)) + 1 : Nat) : Int) = (powT (opT (tx st)) : Int) + 1 := by omega
                have hw1 : IntKind.i64.wrap ((powT (opT (tx st)) : Int) + 1) = (powT (opT (tx st)) : Int) + 1 := by rw [IntKind.wrap_i64]; omega
                rw [ec] at C5
                clear ec
                have OKN : Hid (⟨21, (opT (tx st) : Int), 0, 0, 0, 0, 0, ⟨#[]⟩, ⟨#[]⟩⟩ : NF).ok := nf_ok (by decide) (by omega) (by decide) (by decide) (by decide) (by decide) (by decide) (Nat.zero_le _) (Nat.zero_le _)
                generalize powT (opT (tx st)) = pp at *
                generalize opT (tx st) = oo at *
                go_wp2_with (first | (go_at_call 124; refine Calls.mono (C2.out _ D0.out) ?_; rintro e x2 ⟨rfl, q2⟩; have f2 := Fr.of_q (R := R) q2; have D2 := hideIt (D0.out.q q2); have F2 := hideIt (F0.out.trans f2); have BL2 := hideIt (BL.out.fr (by omega) f2); have BR2 := hideIt (BR.out.fr (by omega) f2); have LX2 := hideIt (LX.out.q q2); have y2 := BL2.out.lt; have z2 := BR2.out.lt; obtain ⟨l0, l1, l2, l3, l4, l5, l6, l7, l8, l9⟩ := BL2.out.ten; have lf := BL2.out.free; obtain ⟨r0, r1, r2, r3, r4, r5, r6, r7, r8, r9⟩ := BR2.out.ten; have rf := BR2.out.free; clear C2 q2 f2) | (go_at_call 89; refine Calls.mono (okc h3 (C3.out _ D2.out)) ?_; rintro e x3 ⟨v3, rfl, rfl, f3, d3⟩; have D3 := hideIt d3; have F3 := hideIt (F2.out.trans f3); have BL3 := hideIt (BL2.out.fr (by omega) f3); have BR3 := hideIt (BR2.out.fr (by omega) f3); have LX3 := hideIt (LX2.out.fr (fun b (hb : w.heap.size + 1 ≤ b ∧ b ≠ x1.heap.size) => (by omega)) f3); have y3 := BL3.out.lt; have z3 := BR3.out.lt; clear C3 d3 f3) | (go_at_call 31; refine Calls.mono (okc h4 (C4.out _ D3.out)) ?_; rintro e x4 ⟨v4, rfl, rfl, f4, d4⟩; have D4 := hideIt d4; have F4 := hideIt (F3.out.trans f4); have BL4 := hideIt (BL3.out.fr (by omega) f4); have BR4 := hideIt (BR3.out.fr (by omega) f4); have LX4 := hideIt (LX3.out.fr (fun b (hb : w.heap.size + 1 ≤ b ∧ b ≠ x1.heap.size) => (by omega)) f4); have y4 := BL4.out.lt; have z4 := BR4.out.lt; have Z4 : w.heap.size ≤ x4.heap.size := F4.out.size; clear C4 d4 f4) | fail)
                have LX4U := hideIt (show Lq (fun b => w.heap.size + 1 ≤ b ∧ b ≠ x1.heap.size ∧ b < x4.heap.size) x4 a f from ⟨LX4.out.i, (LX4.out.v.and (av_in LX4.out.i)).mono fun b hb => ⟨hb.1.1, hb.1.2, hb.2⟩⟩)
                refine wp_region_held_drew (S := fun w' => Bx w' x1.heap.size x.1 (.slice a f.len c)) (by kernel_rfl) ((BL4.out.alloc _).drew) (fun hHeld => ?_)
                refine wpAnyH_take (i := 0) (oi := ⟨_, _, _, _, _, _⟩) (v := ?_) rfl (by kernel_rfl) (by kernel_rfl) (by kernel_rfl) (fun _ _ _ h => h) (Or.inl ⟨by rfl, ?_⟩) (by assumption) ?_
                rotate_left 1
                · intro w' hSw; obtain ⟨ql0, ql1, ql2, ql3, ql4, ql5, ql6, ql7, ql8, ql9⟩ := Bx.ten hSw; go_simp; all_goals with_reducible rfl
                try simp only [Act.put, List.setIfInBounds_toArray, List.set_cons_zero, List.set_cons_succ]
                refine wpAnyH_take (i := 1) (oi := ⟨_, _, _, _, _, _⟩) (v := ?_) rfl (by kernel_rfl) (by kernel_rfl) (by kernel_rfl) (fun _ _ _ h => h) (Or.inl ⟨by rfl, ?_⟩) (by assumption) ?_
                rotate_left 1
                · intro w' hSw; go_simp; all_goals with_reducible rfl
                try simp only [Act.put, List.setIfInBounds_toArray, List.set_cons_zero, List.set_cons_succ]
                refine wpAnyH_take (i := 2) (oi := ⟨_, _, _, _, _, _⟩) (v := ?_) rfl (by kernel_rfl) (by kernel_rfl) (by kernel_rfl) (fun _ _ _ h => h) (Or.inl ⟨by rfl, ?_⟩) (by assumption) ?_
                rotate_left 1
                · intro w' hSw; go_simp; all_goals with_reducible rfl
                try simp only [Act.put, List.setIfInBounds_toArray, List.set_cons_zero, List.set_cons_succ]
                refine wpAnyH_take (i := 3) (oi := ⟨_, _, _, _, _, _⟩) (v := ?_) rfl (by kernel_rfl) (by kernel_rfl) (by kernel_rfl) (fun _ _ _ h => h) (Or.inl ⟨by rfl, ?_⟩) (by assumption) ?_
                rotate_left 1
                · intro w' hSw; go_simp; all_goals with_reducible rfl
                try simp only [Act.put, List.setIfInBounds_toArray, List.set_cons_zero, List.set_cons_succ]
                refine wpAnyH_ready (rs := [4]) (by kernel_rfl) (by simp) (AllReadyH.cons (o := ⟨_, _, _, _, _, _⟩) rfl (fun K hK => ?_) AllReadyH.nil)
                go_simp
                (go_at_call 119; refine Calls.mono (okc h5 (C5.out _ (D4.out.alloc _).drew)) ?_; rintro e x5 ⟨v5, rfl, hv5, f5, d5⟩; obtain ⟨a5, c5, g5, rfl, cp5, sk5, l5, ok5⟩ := hv5.out; have D5 := hideIt d5; have F5 := hideIt (show Fr R w x5 from Fr.trans (F4.out.alloc _).drew f5); have Z5 : x4.heap.size + 1 ≤ x5.heap.size := (by have z := f5.size; (try simp at z); omega); have LY := hideIt (Lq.of_ls (P := fun b => w.heap.size + 1 ≤ b ∧ b ≠ x1.heap.size ∧ b ≠ x4.heap.size) l5 (fun b hb _ => by (try simp at hb); omega)); have KY := hideIt (And.intro cp5 (And.intro sk5 ok5)); have BL5 := hideIt (Bx.fr (BL4.out.alloc _).drew (by omega) f5); have BR5 := hideIt (Bx.fr (BR4.out.alloc _).drew (by omega) f5); have BN5 := hideIt (Bx.fr (b := x4.heap.size) (v := ⟨21, (oo : Int), 0, 0, 0, 0, 0, ⟨#[]⟩, ⟨#[]⟩⟩) (s := (.slice none 0 0)) (Bx.newAt _ ⟨21, (oo : Int), 0, 0, 0, 0, 0, ⟨#[]⟩, ⟨#[]⟩⟩ (.slice none 0 0) (by simp)).drew (by omega) f5); have LX5 := hideIt (Lq.fr (P := fun b => w.heap.size + 1 ≤ b ∧ b ≠ x1.heap.size ∧ b < x4.heap.size) (LX4U.out.alloc _).drew (fun b (hb : w.heap.size + 1 ≤ b ∧ b ≠ x1.heap.size ∧ b < x4.heap.size) => (by omega)) f5); have y5 := BL5.out.lt; have z5 := BR5.out.lt; have u5 := BN5.out.lt; obtain ⟨l0, l1, l2, l3, l4, l5', l6, l7, l8, l9⟩ := BL5.out.ten; have lf := BL5.out.free; obtain ⟨n0, n1, n2, n3, n4, n5, n6, n7, n8, n9⟩ := BN5.out.ten; have nf := BN5.out.free; clear C5 hv5 l5 cp5 sk5 ok5 d5 f5)
                refine hK.out _ _ ?_ (fun hHeld => ?_)
                · exact BL5.out
                clear hK K
                try simp only [Act.put, List.setIfInBounds_toArray, List.set_cons_zero, List.set_cons_succ]
                refine wpAnyH_ready (rs := [5]) (by kernel_rfl) (by simp) (AllReadyH.cons (o := ⟨_, _, _, _, _, _⟩) rfl (fun K hK => ?_) AllReadyH.nil)
                go_simp
                refine hK.out _ _ ?_ (fun hHeld => ?_)
                · exact BL5.out.alloc _
                clear hK K
                try simp only [Act.put, List.setIfInBounds_toArray, List.set_cons_zero, List.set_cons_succ]
                refine wpAnyH_take (i := 6) (oi := ⟨_, _, _, _, _, _⟩) (v := ?_) rfl (by kernel_rfl) (by kernel_rfl) (by kernel_rfl) (fun _ _ _ h => h) (Or.inl ⟨by rfl, ?_⟩) (by assumption) ?_
                rotate_left 1
                · intro w' hSw; go_simp; all_goals with_reducible rfl
                try simp only [Act.put, List.setIfInBounds_toArray, List.set_cons_zero, List.set_cons_succ]
                refine wpAnyH_ready (rs := [7]) (by kernel_rfl) (by simp) (AllReadyH.cons (o := ⟨_, _, _, _, _, _⟩) rfl (fun K hK => ?_) AllReadyH.nil)
                go_simp
                refine hK.out _ _ ?_ (fun hHeld => ?_)
                · exact (by repeat (first | with_reducible exact BL5.out | with_reducible refine Bx.alloc ?_ _ | (with_reducible refine Bx.set ?_ ?hh _; case hh => ((try dsimp only); omega)) | with_reducible refine Bx.drew ?_))
                clear hK K
                try simp only [Act.put, List.setIfInBounds_toArray, List.set_cons_zero, List.set_cons_succ]
                refine wpAnyH_done (by kernel_rfl) ?_ _
                go_wp2_with (fail)
                go_roundg m
                case measure => omega
                case rel =>
                  refine ⟨(⟨21, (oo : Int), 0, 0, 0, 0, 0, ⟨#[]⟩, ⟨#[]⟩⟩, (one x).app (one y)), s5, some ⟨x5.heap.size, 0, none⟩, 2, .cons x.1 a c f (.cons y.1 a5 c5 g5 .nil), EE.out, by omega, ?_, ?_, ?_, ⟨⟨rfl, KX.out.1, rfl, KY.out.1, trivial⟩, sok2, OKN.out⟩, ?_, ?_⟩
                  · refine hideIt ?_
                    exact Bx.alloc (Bx.whole (Bx.set BL5.out (by (try dsimp only); omega) _) ⟨21, (oo : Int), 0, 0, 0, 0, 0, ⟨#[]⟩, ⟨#[]⟩⟩ (.slice (some ⟨x5.heap.size, 0, none⟩) 2 2)) _
                  · refine hideIt ?_
                    exact (by repeat (first | with_reducible exact BR5.out | with_reducible refine Bx.alloc ?_ _ | (with_reducible refine Bx.set ?_ ?hh _; case hh => ((try dsimp only); omega)) | with_reducible refine Bx.drew ?_))
                  · refine hideIt ?_
                    refine Lq.two (P := fun b => w.heap.size + 1 ≤ b ∧ b ≠ x1.heap.size) (P1 := fun b => w.heap.size + 1 ≤ b ∧ b ≠ x1.heap.size ∧ b < x4.heap.size) (P2 := fun b => w.heap.size + 1 ≤ b ∧ b ≠ x1.heap.size ∧ b ≠ x4.heap.size) ?_ KX.out.2.2 KX.out.2.1 ?_ KY.out.2.2 KY.out.2.1 (by simp) (fun b hb => ⟨hb.1, hb.2.1⟩) (fun b hb => ⟨hb.1, hb.2.1⟩) (by (try dsimp only); omega)
                    · exact (by repeat (first | with_reducible exact LX5.out | with_reducible refine Lq.alloc ?_ _ | (with_reducible refine Lq.set ?_ ?hh _; case hh => ((try dsimp only); omega)) | with_reducible refine Lq.drew ?_))
                    · exact (by repeat (first | with_reducible exact LY.out | with_reducible refine Lq.alloc ?_ _ | (with_reducible refine Lq.set ?_ ?hh _; case hh => ((try dsimp only); omega)) | with_reducible refine Lq.drew ?_))
                  · refine hideIt ?_
                    exact (by repeat with_reducible first | exact D5.out | apply RD.alloc | apply RD.drew | refine RD.setCell ?_ (by (try dsimp only); omega) _)
                  · refine hideIt ?_
                    exact (by repeat with_reducible first | exact F5.out | apply Fr.alloc | apply Fr.drew | refine Fr.setNew ?_ (by (try dsimp only); omega) _)

end Go.Proofs.YtoilhcklflmamaaGreatDoor
