/-
  Two statements of the document's reader: contracts over the program; the conditions: the reader lies in memory, and what stands there is such a thing.
-/
import Derived.Test.YtoilhcklflmamaaGreatDoorKRfA
import Derived.Test.YtoilhcklflmamaaGreatDoorKPrO
namespace Go.Proofs.YtoilhcklflmamaaGreatDoor
open Go.RowKit
open Pr
set_option linter.unusedVariables false

/-- The token at a place is that word or sign. -/
def At1 (L : List Tok) (i : Nat) (x : List UInt8) : Prop := ∃ q, L[i]? = some q ∧ isB q x = true
def At0 (L : List Tok) (i : Nat) (x : List UInt8) : Prop := ∃ q, L[i]? = some q ∧ isB q x = false

theorem LI.setNe' {B : Nat} {w : World} {u : Value} {P G : Fo} (h : LI B w u P G) {p : Addr} (hp : p.block < B) (x : Value) : LI B (w.setCell p x) u P G :=
  ⟨ownsRow_block h.own (fun k hk => Below.heap_setCell w p x k (by have := (h.own.lt k hk).1; omega)), ki_set h.ki (h.av.mono fun b hb e => by omega), h.av, h.cp⟩

set_option maxRecDepth 100000 in
set_option maxHeartbeats 4000000 in
theorem rstat_print (R g cap : Nat) (L : List Tok) (hL : L.length ≤ 70000) (o : Int) (ho : 0 ≤ o ∧ o < 40) (i j : Nat) (x : Nd) (q0 : Tok) (hq0 : L[i]? = some q0) (hk0 : q0.1.kind = 2) (ht0 : q0.1.text = [112, 114, 105, 110, 116]) (h1 : At1 L (i + 1) [40]) (h2 : At1 L j [41]) (h3 : At1 L (j + 1) [59]) (hj : j + 2 < L.length) (hij : i + 2 < L.length)
    (HE : ∀ X, RR X R g cap L (i + 2) (o + 1) → Calls Tryz.prog 81 #[rp R] X (PN x R g cap L j (o + 1) X)) (w : World) (hw : RR w R g cap L i o) :
    Calls Tryz.prog 82 #[rp R] w (PN (nk 12, one x) R g cap L (j + 2) o w) := by
  obtain ⟨q1, hq1, hb1⟩ := h1
  obtain ⟨q2, hq2, hb2⟩ := h2
  obtain ⟨q3, hq3, hb3⟩ := h3
  have C1 := hideIt (fun X hX => rtyped_no R g cap L i o q0 hq0 hk0 (by rw [ht0]; decide) X hX)
  have C2 := hideIt (fun X hX => rtake_no R g cap L i o q0 hq0 [115, 116, 114, 117, 99, 116] (by unfold isB; rw [hk0, ht0]; decide) X hX)
  have C3 := hideIt (fun X hX => rtake_no R g cap L i o q0 hq0 [105, 102] (by unfold isB; rw [hk0, ht0]; decide) X hX)
  have C4 := hideIt (fun X hX => rtake_no R g cap L i o q0 hq0 [102, 111, 114] (by unfold isB; rw [hk0, ht0]; decide) X hX)
  have C5 := hideIt (fun X hX => rtake_yes R g cap L i o q0 hq0 [112, 114, 105, 110, 116] (by unfold isB; rw [hk0, ht0]; decide) (by omega) hL X hX)
  have C6 := hideIt (fun X hX => ropens_any R g cap L (i + 1) o ho q1 hq1 [40] hb1 (by omega) hL X hX)
  have C7 := hideIt (fun X hX => HE X hX)
  have C10 := hideIt (fun X hX => rshuts_any R g cap L j (o + 1) ⟨by omega, by omega⟩ q2 hq2 [41] hb2 (by omega) hL X hX)
  rw [show o + 1 - 1 = o by omega] at C10
  have C11 := hideIt (fun X hX => rwant_any R g cap L (j + 1) o q3 hq3 [59] hb3 (by omega) hL X hX)
  have HD := hideIt hw
  have hR := hw.lt_size
  clear hw HE hq0 hk0 ht0 ho
  go_enter Tryz.func82, Tryz.ntmps82
  go_wp2_with (first | (go_at_call 79; refine Calls.mono (C1.out _ (by repeat with_reducible first | exact HD.out | apply RR.alloc | apply RR.drew | refine RR.setCell ?_ (by (try dsimp only); omega) _)) ?_; rintro e x1 ⟨rfl, f1, d1⟩; have D1 := hideIt d1; have F1 := hideIt (show Fr R w x1 from Fr.trans (by repeat with_reducible first | exact (Fr.refl R w) | apply Fr.alloc | apply Fr.drew | refine Fr.setNew ?_ (by (try dsimp only); omega) _) f1); have Z1 : w.heap.size + 1 ≤ x1.heap.size := (by have z := f1.size; (try simp at z); omega); have BR1 := hideIt (Bx.fr (b := w.heap.size) (v := (nk 0)) (s := (.slice none 0 0)) (by repeat first | refine Bx.newAt _ (nk 0) (.slice none 0 0) (by simp; done) | with_reducible apply Bx.alloc | with_reducible apply Bx.drew | with_reducible refine Bx.set ?_ (by (try dsimp only); omega) _) (by omega) f1); have yr1 := BR1.out.lt; (try clear r0 r1 r2 r3 r4 r5 r6 r7 r8 r9 rf); obtain ⟨r0, r1, r2, r3, r4, r5, r6, r7, r8, r9⟩ := BR1.out.ten; have rf := BR1.out.free; clear C1 f1 d1) | (go_at_call_of 43 (Value.string ⟨#[115, 116, 114, 117, 99, 116]⟩); refine Calls.mono (C2.out _ (by repeat with_reducible first | exact D1.out | apply RR.alloc | apply RR.drew | refine RR.setCell ?_ (by (try dsimp only); omega) _)) ?_; rintro e x2 ⟨rfl, f2, d2⟩; have D2 := hideIt d2; have F2 := hideIt (show Fr R w x2 from Fr.trans (by repeat with_reducible first | exact F1.out | apply Fr.alloc | apply Fr.drew | refine Fr.setNew ?_ (by (try dsimp only); omega) _) f2); have Z2 : x1.heap.size ≤ x2.heap.size := (by have z := f2.size; (try simp at z); omega); have BR2 := hideIt (Bx.fr (b := w.heap.size) (v := (nk 0)) (s := (.slice none 0 0)) (by repeat with_reducible first | exact BR1.out | apply Bx.alloc | apply Bx.drew | refine Bx.set ?_ (by (try dsimp only); omega) _) (by omega) f2); have yr2 := BR2.out.lt; (try clear r0 r1 r2 r3 r4 r5 r6 r7 r8 r9 rf); obtain ⟨r0, r1, r2, r3, r4, r5, r6, r7, r8, r9⟩ := BR2.out.ten; have rf := BR2.out.free; have BN2 := hideIt (Bx.fr (b := x1.heap.size) (v := (nk 0)) (s := (.slice none 0 0)) (by repeat first | refine Bx.newAt _ (nk 0) (.slice none 0 0) (by simp; done) | with_reducible apply Bx.alloc | with_reducible apply Bx.drew | with_reducible refine Bx.set ?_ (by (try dsimp only); omega) _) (by omega) f2); have yn2 := BN2.out.lt; (try clear n0 n1 n2 n3 n4 n5 n6 n7 n8 n9 nf); obtain ⟨n0, n1, n2, n3, n4, n5, n6, n7, n8, n9⟩ := BN2.out.ten; have nf := BN2.out.free; clear C2 f2 d2) | (go_at_call_of 43 (Value.string ⟨#[105, 102]⟩); refine Calls.mono (C3.out _ (by repeat with_reducible first | exact D2.out | apply RR.alloc | apply RR.drew | refine RR.setCell ?_ (by (try dsimp only); omega) _)) ?_; rintro e x3 ⟨rfl, f3, d3⟩; have D3 := hideIt d3; have F3 := hideIt (show Fr R w x3 from Fr.trans (by repeat with_reducible first | exact F2.out | apply Fr.alloc | apply Fr.drew | refine Fr.setNew ?_ (by (try dsimp only); omega) _) f3); have Z3 : x2.heap.size ≤ x3.heap.size := (by have z := f3.size; (try simp at z); omega); have BR3 := hideIt (Bx.fr (b := w.heap.size) (v := (nk 0)) (s := (.slice none 0 0)) (by repeat with_reducible first | exact BR2.out | apply Bx.alloc | apply Bx.drew | refine Bx.set ?_ (by (try dsimp only); omega) _) (by omega) f3); have yr3 := BR3.out.lt; (try clear r0 r1 r2 r3 r4 r5 r6 r7 r8 r9 rf); obtain ⟨r0, r1, r2, r3, r4, r5, r6, r7, r8, r9⟩ := BR3.out.ten; have rf := BR3.out.free; have BN3 := hideIt (Bx.fr (b := x1.heap.size) (v := (nk 0)) (s := (.slice none 0 0)) (by repeat with_reducible first | exact BN2.out | apply Bx.alloc | apply Bx.drew | refine Bx.set ?_ (by (try dsimp only); omega) _) (by omega) f3); have yn3 := BN3.out.lt; (try clear n0 n1 n2 n3 n4 n5 n6 n7 n8 n9 nf); obtain ⟨n0, n1, n2, n3, n4, n5, n6, n7, n8, n9⟩ := BN3.out.ten; have nf := BN3.out.free; clear C3 f3 d3) | (go_at_call_of 43 (Value.string ⟨#[102, 111, 114]⟩); refine Calls.mono (C4.out _ (by repeat with_reducible first | exact D3.out | apply RR.alloc | apply RR.drew | refine RR.setCell ?_ (by (try dsimp only); omega) _)) ?_; rintro e x4 ⟨rfl, f4, d4⟩; have D4 := hideIt d4; have F4 := hideIt (show Fr R w x4 from Fr.trans (by repeat with_reducible first | exact F3.out | apply Fr.alloc | apply Fr.drew | refine Fr.setNew ?_ (by (try dsimp only); omega) _) f4); have Z4 : x3.heap.size ≤ x4.heap.size := (by have z := f4.size; (try simp at z); omega); have BR4 := hideIt (Bx.fr (b := w.heap.size) (v := (nk 0)) (s := (.slice none 0 0)) (by repeat with_reducible first | exact BR3.out | apply Bx.alloc | apply Bx.drew | refine Bx.set ?_ (by (try dsimp only); omega) _) (by omega) f4); have yr4 := BR4.out.lt; (try clear r0 r1 r2 r3 r4 r5 r6 r7 r8 r9 rf); obtain ⟨r0, r1, r2, r3, r4, r5, r6, r7, r8, r9⟩ := BR4.out.ten; have rf := BR4.out.free; have BN4 := hideIt (Bx.fr (b := x1.heap.size) (v := (nk 0)) (s := (.slice none 0 0)) (by repeat with_reducible first | exact BN3.out | apply Bx.alloc | apply Bx.drew | refine Bx.set ?_ (by (try dsimp only); omega) _) (by omega) f4); have yn4 := BN4.out.lt; (try clear n0 n1 n2 n3 n4 n5 n6 n7 n8 n9 nf); obtain ⟨n0, n1, n2, n3, n4, n5, n6, n7, n8, n9⟩ := BN4.out.ten; have nf := BN4.out.free; clear C4 f4 d4) | (go_at_call_of 43 (Value.string ⟨#[112, 114, 105, 110, 116]⟩); refine Calls.mono (C5.out _ (by repeat with_reducible first | exact D4.out | apply RR.alloc | apply RR.drew | refine RR.setCell ?_ (by (try dsimp only); omega) _)) ?_; rintro e x5 ⟨rfl, f5, d5⟩; have D5 := hideIt d5; have F5 := hideIt (show Fr R w x5 from Fr.trans (by repeat with_reducible first | exact F4.out | apply Fr.alloc | apply Fr.drew | refine Fr.setNew ?_ (by (try dsimp only); omega) _) f5); have Z5 : x4.heap.size ≤ x5.heap.size := (by have z := f5.size; (try simp at z); omega); have BR5 := hideIt (Bx.fr (b := w.heap.size) (v := (nk 0)) (s := (.slice none 0 0)) (by repeat with_reducible first | exact BR4.out | apply Bx.alloc | apply Bx.drew | refine Bx.set ?_ (by (try dsimp only); omega) _) (by omega) f5); have yr5 := BR5.out.lt; (try clear r0 r1 r2 r3 r4 r5 r6 r7 r8 r9 rf); obtain ⟨r0, r1, r2, r3, r4, r5, r6, r7, r8, r9⟩ := BR5.out.ten; have rf := BR5.out.free; have BN5 := hideIt (Bx.fr (b := x1.heap.size) (v := (nk 0)) (s := (.slice none 0 0)) (by repeat with_reducible first | exact BN4.out | apply Bx.alloc | apply Bx.drew | refine Bx.set ?_ (by (try dsimp only); omega) _) (by omega) f5); have yn5 := BN5.out.lt; (try clear n0 n1 n2 n3 n4 n5 n6 n7 n8 n9 nf); obtain ⟨n0, n1, n2, n3, n4, n5, n6, n7, n8, n9⟩ := BN5.out.ten; have nf := BN5.out.free; clear C5 f5 d5) | (go_at_call_of 47 (Value.string ⟨#[40]⟩); refine Calls.mono (C6.out _ (by repeat with_reducible first | exact D5.out | apply RR.alloc | apply RR.drew | refine RR.setCell ?_ (by (try dsimp only); omega) _)) ?_; rintro e x6 ⟨rfl, f6, d6⟩; have D6 := hideIt d6; have F6 := hideIt (show Fr R w x6 from Fr.trans (by repeat with_reducible first | exact F5.out | apply Fr.alloc | apply Fr.drew | refine Fr.setNew ?_ (by (try dsimp only); omega) _) f6); have Z6 : x5.heap.size ≤ x6.heap.size := (by have z := f6.size; (try simp at z); omega); have BR6 := hideIt (Bx.fr (b := w.heap.size) (v := (nk 0)) (s := (.slice none 0 0)) (by repeat with_reducible first | exact BR5.out | apply Bx.alloc | apply Bx.drew | refine Bx.set ?_ (by (try dsimp only); omega) _) (by omega) f6); have yr6 := BR6.out.lt; (try clear r0 r1 r2 r3 r4 r5 r6 r7 r8 r9 rf); obtain ⟨r0, r1, r2, r3, r4, r5, r6, r7, r8, r9⟩ := BR6.out.ten; have rf := BR6.out.free; have BN6 := hideIt (Bx.fr (b := x1.heap.size) (v := (nk 12)) (s := (.slice none 0 0)) (Bx.put BN5.out 0 _ rfl) (by omega) f6); have yn6 := BN6.out.lt; (try clear n0 n1 n2 n3 n4 n5 n6 n7 n8 n9 nf); obtain ⟨n0, n1, n2, n3, n4, n5, n6, n7, n8, n9⟩ := BN6.out.ten; have nf := BN6.out.free; clear C6 f6 d6) | fail)
  refine wp_region_held_drew (S := fun _ => True) (by kernel_rfl) (trivial) (fun hHeld => ?_)
  refine wpAnyH_take (i := 0) (oi := ⟨_, _, _, _, _, _⟩) (v := ?_) rfl (by kernel_rfl) (by kernel_rfl) (by kernel_rfl) (fun _ _ _ h => h) (Or.inl ⟨by rfl, ?_⟩) (by assumption) ?_
  rotate_left 1
  · intro w hSw; (try dsimp only at hSw); go_simp; all_goals with_reducible rfl
  try simp only [Act.put, List.setIfInBounds_toArray, List.set_cons_zero, List.set_cons_succ]
  refine wpAnyH_take (i := 2) (oi := ⟨_, _, _, _, _, _⟩) (v := ?_) rfl (by kernel_rfl) (by kernel_rfl) (by kernel_rfl) (fun _ _ _ h => h) (Or.inl ⟨by rfl, ?_⟩) (by assumption) ?_
  rotate_left 1
  · intro w hSw; (try dsimp only at hSw); go_simp; all_goals with_reducible rfl
  try simp only [Act.put, List.setIfInBounds_toArray, List.set_cons_zero, List.set_cons_succ]
  refine wpAnyH_ready (rs := [1, 3]) (by kernel_rfl) (by simp) (AllReadyH.cons (o := ⟨_, _, _, _, _, _⟩) rfl (fun K hK => ?_) (AllReadyH.cons (o := ⟨_, _, _, _, _, _⟩) rfl (fun K hK => ?_) AllReadyH.nil))
  · go_simp
    refine hK.out _ _ ?_ (fun hHeld => ?_)
    · trivial
    clear hK K
    try simp only [Act.put, List.setIfInBounds_toArray, List.set_cons_zero, List.set_cons_succ]
    refine wpAnyH_ready (rs := [3]) (by kernel_rfl) (by simp) (AllReadyH.cons (o := ⟨_, _, _, _, _, _⟩) rfl (fun K hK => ?_) AllReadyH.nil)
    go_simp
    (go_at_call 81; refine Calls.mono (C7.out _ (by repeat with_reducible first | exact D6.out | apply RR.alloc | apply RR.drew | refine RR.setCell ?_ (by (try dsimp only); omega) _)) ?_; rintro e x7 ⟨v7, rfl, hv7, f7, d7⟩; obtain ⟨a7, c7, g7, rfl, cp7, sk7, l7, ok7⟩ := hv7.out; have D7 := hideIt d7; have F7 := hideIt (show Fr R w x7 from Fr.trans (by repeat with_reducible first | exact F6.out | apply Fr.alloc | apply Fr.drew | refine Fr.setNew ?_ (by (try dsimp only); omega) _) f7); have Z7 : x6.heap.size ≤ x7.heap.size := (by have z := f7.size; (try simp at z); omega); have LY := hideIt (Ls.mono (B' := x6.heap.size) l7 (by (try simp) <;> (try omega)) (Nat.le_refl _)); have KY := hideIt (And.intro cp7 (And.intro sk7 ok7)); have BN7 := hideIt (Bx.fr BN6.out.drew (by omega) f7); have BR7 := hideIt (Bx.fr BR6.out.drew (by omega) f7); have yn7 := BN7.out.lt; have yr7 := BR7.out.lt; (try clear n0 n1 n2 n3 n4 n5 n6 n7 n8 n9 nf); obtain ⟨n0, n1, n2, n3, n4, n5, n6, n7, n8, n9⟩ := BN7.out.ten; have nf := BN7.out.free; clear C7 hv7 l7 cp7 sk7 ok7 d7 f7)
    refine hK.out _ _ ?_ (fun hHeld => ?_)
    · trivial
    clear hK K
    try simp only [Act.put, List.setIfInBounds_toArray, List.set_cons_zero, List.set_cons_succ]
    refine wpAnyH_ready (rs := [4]) (by kernel_rfl) (by simp) (AllReadyH.cons (o := ⟨_, _, _, _, _, _⟩) rfl (fun K hK => ?_) AllReadyH.nil)
    go_simp
    refine hK.out _ _ ?_ (fun hHeld => ?_)
    · trivial
    clear hK K
    try simp only [Act.put, List.setIfInBounds_toArray, List.set_cons_zero, List.set_cons_succ]
    refine wpAnyH_ready (rs := [5]) (by kernel_rfl) (by simp) (AllReadyH.cons (o := ⟨_, _, _, _, _, _⟩) rfl (fun K hK => ?_) AllReadyH.nil)
    refine app_step (B := x6.heap.size) (X := x7) (LI.nil _ _) (by omega) (by omega) (y := x) LY.out (by omega) (fun k hk => by cases hk) KY.out.2.2 KY.out.2.1 KY.out.1 (by show (0 : Nat) ≤ 70002; omega) rfl (.tmp 92) (.tmp 95) rfl rfl rfl ?_; intro gg cg x9 li9 gr9; have I9 := hideIt li9; have RL := hideIt (fun (k : Nat) (hk : Value.ownBlock (.slice none 0 0) = some k) => (show x6.heap.size ≤ k by cases hk)); have D9 := hideIt (RR.grown (D7.out.alloc _) gr9 (fun k hk => by have := RL.out k hk; omega)); have F9 := hideIt (Fr.grown (F7.out.alloc _) gr9 (fun k hk => by have := RL.out k hk; omega)); have BN9 := hideIt (Bx.grown (BN7.out.alloc _) gr9 (fun e => by have := RL.out _ e; omega)); have BR9 := hideIt (Bx.grown (BR7.out.alloc _) gr9 (fun e => by have := RL.out _ e; omega)); have yn9 := BN9.out.lt; have yr9 := BR9.out.lt; have Z9 : x7.heap.size ≤ x9.heap.size := (by have z := gr9.size; (try simp at z); omega); (try clear n0 n1 n2 n3 n4 n5 n6 n7 n8 n9 nf); obtain ⟨n0, n1, n2, n3, n4, n5, n6, n7, n8, n9⟩ := BN9.out.ten; have nf := BN9.out.free; clear li9 gr9
    refine hK.out _ _ ?_ (fun hHeld => ?_)
    · trivial
    clear hK K
    try simp only [Act.put, List.setIfInBounds_toArray, List.set_cons_zero, List.set_cons_succ]
    refine wpAnyH_take (i := 6) (oi := ⟨_, _, _, _, _, _⟩) (v := ?_) rfl (by kernel_rfl) (by kernel_rfl) (by kernel_rfl) (fun _ _ _ h => h) (Or.inl ⟨by rfl, ?_⟩) (by assumption) ?_
    rotate_left 1
    · intro w hSw; (try dsimp only at hSw); go_simp; all_goals with_reducible rfl
    try simp only [Act.put, List.setIfInBounds_toArray, List.set_cons_zero, List.set_cons_succ]
    refine wpAnyH_ready (rs := [7]) (by kernel_rfl) (by simp) (AllReadyH.cons (o := ⟨_, _, _, _, _, _⟩) rfl (fun K hK => ?_) AllReadyH.nil)
    go_simp
    refine hK.out _ _ ?_ (fun hHeld => ?_)
    · trivial
    clear hK K
    try simp only [Act.put, List.setIfInBounds_toArray, List.set_cons_zero, List.set_cons_succ]
    refine wpAnyH_done (by kernel_rfl) ?_ _
    go_wp2_with (first | (go_at_call_of 49 (Value.string ⟨#[41]⟩); refine Calls.mono (C10.out _ (by repeat with_reducible first | exact D9.out | apply RR.alloc | apply RR.drew | refine RR.setCell ?_ (by (try dsimp only); omega) _)) ?_; rintro e x10 ⟨rfl, f10, d10⟩; have D10 := hideIt d10; have F10 := hideIt (show Fr R w x10 from Fr.trans (by repeat with_reducible first | exact F9.out | apply Fr.alloc | apply Fr.drew | refine Fr.setNew ?_ (by (try dsimp only); omega) _) f10); have Z10 : x9.heap.size ≤ x10.heap.size := (by have z := f10.size; (try simp at z); omega); have BR10 := hideIt (Bx.fr (b := w.heap.size) (v := (nk 0)) (s := (.slice none 0 0)) (by repeat with_reducible first | exact BR9.out | apply Bx.alloc | apply Bx.drew | refine Bx.set ?_ (by (try dsimp only); omega) _) (by omega) f10); have yr10 := BR10.out.lt; have BN10 := hideIt (Bx.fr (BN9.out.at9 (.slice (some ⟨gg, 0, none⟩) (Fo.nil.len + 1) cg)) (by omega) f10); have yn10 := BN10.out.lt; have IL10 := hideIt (LI.fr (R := R) (LI.setNe' (p := ⟨x1.heap.size, 9, none⟩) I9.out (by show x1.heap.size < x6.heap.size; omega) (.slice (some ⟨gg, 0, none⟩) (Fo.nil.len + 1) cg)) (by omega) f10); (try clear n0 n1 n2 n3 n4 n5 n6 n7 n8 n9 nf r0 r1 r2 r3 r4 r5 r6 r7 r8 r9 rf); obtain ⟨n0, n1, n2, n3, n4, n5, n6, n7, n8, n9⟩ := BN10.out.ten; have nf := BN10.out.free; obtain ⟨r0, r1, r2, r3, r4, r5, r6, r7, r8, r9⟩ := BR10.out.ten; have rf := BR10.out.free; clear C10 f10 d10) | (go_at_call_of 46 (Value.string ⟨#[59]⟩); refine Calls.mono (C11.out _ (by repeat with_reducible first | exact D10.out | apply RR.alloc | apply RR.drew | refine RR.setCell ?_ (by (try dsimp only); omega) _)) ?_; rintro e x11 ⟨rfl, f11, d11⟩; have D11 := hideIt d11; have F11 := hideIt (show Fr R w x11 from Fr.trans (by repeat with_reducible first | exact F10.out | apply Fr.alloc | apply Fr.drew | refine Fr.setNew ?_ (by (try dsimp only); omega) _) f11); have Z11 : x10.heap.size ≤ x11.heap.size := (by have z := f11.size; (try simp at z); omega); have BR11 := hideIt (Bx.fr (b := w.heap.size) (v := (nk 0)) (s := (.slice none 0 0)) (by repeat with_reducible first | exact BR10.out | apply Bx.alloc | apply Bx.drew | refine Bx.set ?_ (by (try dsimp only); omega) _) (by omega) f11); have yr11 := BR11.out.lt; have BN11 := hideIt (Bx.fr BN10.out (by omega) f11); have yn11 := BN11.out.lt; have IL11 := hideIt (LI.fr (R := R) IL10.out (by omega) f11); (try clear n0 n1 n2 n3 n4 n5 n6 n7 n8 n9 nf r0 r1 r2 r3 r4 r5 r6 r7 r8 r9 rf); obtain ⟨n0, n1, n2, n3, n4, n5, n6, n7, n8, n9⟩ := BN11.out.ten; have nf := BN11.out.free; obtain ⟨r0, r1, r2, r3, r4, r5, r6, r7, r8, r9⟩ := BR11.out.ten; have rf := BR11.out.free; clear C11 f11 d11) | fail)
    obtain ⟨aL, cL, fL, eL, cpL, skL, lsL⟩ := (LI.done (x := (nk 12, one x)) IL11.out).out
    have EL := hideIt eL
    refine bodyPost_ret (v := nodeV (nk 12) (.slice (some ⟨gg, 0, none⟩) (Fo.nil.len + 1) cg)) (by simp [results, Tryz.results82, go_sem, *]) rfl ⟨_, rfl, ?_, (by repeat with_reducible first | exact F11.out | apply Fr.alloc | apply Fr.drew | refine Fr.setNew ?_ (by (try dsimp only); omega) _), (by repeat with_reducible first | exact D11.out | apply RR.alloc | apply RR.drew | refine RR.setCell ?_ (by (try dsimp only); omega) _)⟩
    rw [EL.out]
    exact NV.mk (x := (nk 12, one x)) (B' := x6.heap.size) (U := x11.heap.size) cpL skL (by repeat (first | with_reducible exact lsL | (with_reducible refine Ls.set ?_ ?hh _; case hh => ((try dsimp only); omega)))) (by omega) (by refine nf_ok ?_ ?_ ?_ ?_ ?_ ?_ ?_ ?_ ?_ <;> first | omega | decide | exact Nat.zero_le _)
  · go_simp
    (go_at_call 81; refine Calls.mono (C7.out _ (by repeat with_reducible first | exact D6.out | apply RR.alloc | apply RR.drew | refine RR.setCell ?_ (by (try dsimp only); omega) _)) ?_; rintro e x7 ⟨v7, rfl, hv7, f7, d7⟩; obtain ⟨a7, c7, g7, rfl, cp7, sk7, l7, ok7⟩ := hv7.out; have D7 := hideIt d7; have F7 := hideIt (show Fr R w x7 from Fr.trans (by repeat with_reducible first | exact F6.out | apply Fr.alloc | apply Fr.drew | refine Fr.setNew ?_ (by (try dsimp only); omega) _) f7); have Z7 : x6.heap.size ≤ x7.heap.size := (by have z := f7.size; (try simp at z); omega); have LY := hideIt (Ls.mono (B' := x6.heap.size) l7 (by (try simp) <;> (try omega)) (Nat.le_refl _)); have KY := hideIt (And.intro cp7 (And.intro sk7 ok7)); have BN7 := hideIt (Bx.fr BN6.out.drew (by omega) f7); have BR7 := hideIt (Bx.fr BR6.out.drew (by omega) f7); have yn7 := BN7.out.lt; have yr7 := BR7.out.lt; (try clear n0 n1 n2 n3 n4 n5 n6 n7 n8 n9 nf); obtain ⟨n0, n1, n2, n3, n4, n5, n6, n7, n8, n9⟩ := BN7.out.ten; have nf := BN7.out.free; clear C7 hv7 l7 cp7 sk7 ok7 d7 f7)
    refine hK.out _ _ ?_ (fun hHeld => ?_)
    · trivial
    clear hK K
    try simp only [Act.put, List.setIfInBounds_toArray, List.set_cons_zero, List.set_cons_succ]
    refine wpAnyH_ready (rs := [1, 4]) (by kernel_rfl) (by simp) (AllReadyH.cons (o := ⟨_, _, _, _, _, _⟩) rfl (fun K hK => ?_) (AllReadyH.cons (o := ⟨_, _, _, _, _, _⟩) rfl (fun K hK => ?_) AllReadyH.nil))
    · go_simp
      refine hK.out _ _ ?_ (fun hHeld => ?_)
      · trivial
      clear hK K
      try simp only [Act.put, List.setIfInBounds_toArray, List.set_cons_zero, List.set_cons_succ]
      refine wpAnyH_ready (rs := [4]) (by kernel_rfl) (by simp) (AllReadyH.cons (o := ⟨_, _, _, _, _, _⟩) rfl (fun K hK => ?_) AllReadyH.nil)
      go_simp
      refine hK.out _ _ ?_ (fun hHeld => ?_)
      · trivial
      clear hK K
      try simp only [Act.put, List.setIfInBounds_toArray, List.set_cons_zero, List.set_cons_succ]
      refine wpAnyH_ready (rs := [5]) (by kernel_rfl) (by simp) (AllReadyH.cons (o := ⟨_, _, _, _, _, _⟩) rfl (fun K hK => ?_) AllReadyH.nil)
      refine app_step (B := x6.heap.size) (X := x7) (LI.nil _ _) (by omega) (by omega) (y := x) LY.out (by omega) (fun k hk => by cases hk) KY.out.2.2 KY.out.2.1 KY.out.1 (by show (0 : Nat) ≤ 70002; omega) rfl (.tmp 92) (.tmp 95) rfl rfl rfl ?_; intro gg cg x9 li9 gr9; have I9 := hideIt li9; have RL := hideIt (fun (k : Nat) (hk : Value.ownBlock (.slice none 0 0) = some k) => (show x6.heap.size ≤ k by cases hk)); have D9 := hideIt (RR.grown (D7.out.alloc _) gr9 (fun k hk => by have := RL.out k hk; omega)); have F9 := hideIt (Fr.grown (F7.out.alloc _) gr9 (fun k hk => by have := RL.out k hk; omega)); have BN9 := hideIt (Bx.grown (BN7.out.alloc _) gr9 (fun e => by have := RL.out _ e; omega)); have BR9 := hideIt (Bx.grown (BR7.out.alloc _) gr9 (fun e => by have := RL.out _ e; omega)); have yn9 := BN9.out.lt; have yr9 := BR9.out.lt; have Z9 : x7.heap.size ≤ x9.heap.size := (by have z := gr9.size; (try simp at z); omega); (try clear n0 n1 n2 n3 n4 n5 n6 n7 n8 n9 nf); obtain ⟨n0, n1, n2, n3, n4, n5, n6, n7, n8, n9⟩ := BN9.out.ten; have nf := BN9.out.free; clear li9 gr9
      refine hK.out _ _ ?_ (fun hHeld => ?_)
      · trivial
      clear hK K
      try simp only [Act.put, List.setIfInBounds_toArray, List.set_cons_zero, List.set_cons_succ]
      refine wpAnyH_take (i := 6) (oi := ⟨_, _, _, _, _, _⟩) (v := ?_) rfl (by kernel_rfl) (by kernel_rfl) (by kernel_rfl) (fun _ _ _ h => h) (Or.inl ⟨by rfl, ?_⟩) (by assumption) ?_
      rotate_left 1
      · intro w hSw; (try dsimp only at hSw); go_simp; all_goals with_reducible rfl
      try simp only [Act.put, List.setIfInBounds_toArray, List.set_cons_zero, List.set_cons_succ]
      refine wpAnyH_ready (rs := [7]) (by kernel_rfl) (by simp) (AllReadyH.cons (o := ⟨_, _, _, _, _, _⟩) rfl (fun K hK => ?_) AllReadyH.nil)
      go_simp
      refine hK.out _ _ ?_ (fun hHeld => ?_)
      · trivial
      clear hK K
      try simp only [Act.put, List.setIfInBounds_toArray, List.set_cons_zero, List.set_cons_succ]
      refine wpAnyH_done (by kernel_rfl) ?_ _
      go_wp2_with (first | (go_at_call_of 49 (Value.string ⟨#[41]⟩); refine Calls.mono (C10.out _ (by repeat with_reducible first | exact D9.out | apply RR.alloc | apply RR.drew | refine RR.setCell ?_ (by (try dsimp only); omega) _)) ?_; rintro e x10 ⟨rfl, f10, d10⟩; have D10 := hideIt d10; have F10 := hideIt (show Fr R w x10 from Fr.trans (by repeat with_reducible first | exact F9.out | apply Fr.alloc | apply Fr.drew | refine Fr.setNew ?_ (by (try dsimp only); omega) _) f10); have Z10 : x9.heap.size ≤ x10.heap.size := (by have z := f10.size; (try simp at z); omega); have BR10 := hideIt (Bx.fr (b := w.heap.size) (v := (nk 0)) (s := (.slice none 0 0)) (by repeat with_reducible first | exact BR9.out | apply Bx.alloc | apply Bx.drew | refine Bx.set ?_ (by (try dsimp only); omega) _) (by omega) f10); have yr10 := BR10.out.lt; have BN10 := hideIt (Bx.fr (BN9.out.at9 (.slice (some ⟨gg, 0, none⟩) (Fo.nil.len + 1) cg)) (by omega) f10); have yn10 := BN10.out.lt; have IL10 := hideIt (LI.fr (R := R) (LI.setNe' (p := ⟨x1.heap.size, 9, none⟩) I9.out (by show x1.heap.size < x6.heap.size; omega) (.slice (some ⟨gg, 0, none⟩) (Fo.nil.len + 1) cg)) (by omega) f10); (try clear n0 n1 n2 n3 n4 n5 n6 n7 n8 n9 nf r0 r1 r2 r3 r4 r5 r6 r7 r8 r9 rf); obtain ⟨n0, n1, n2, n3, n4, n5, n6, n7, n8, n9⟩ := BN10.out.ten; have nf := BN10.out.free; obtain ⟨r0, r1, r2, r3, r4, r5, r6, r7, r8, r9⟩ := BR10.out.ten; have rf := BR10.out.free; clear C10 f10 d10) | (go_at_call_of 46 (Value.string ⟨#[59]⟩); refine Calls.mono (C11.out _ (by repeat with_reducible first | exact D10.out | apply RR.alloc | apply RR.drew | refine RR.setCell ?_ (by (try dsimp only); omega) _)) ?_; rintro e x11 ⟨rfl, f11, d11⟩; have D11 := hideIt d11; have F11 := hideIt (show Fr R w x11 from Fr.trans (by repeat with_reducible first | exact F10.out | apply Fr.alloc | apply Fr.drew | refine Fr.setNew ?_ (by (try dsimp only); omega) _) f11); have Z11 : x10.heap.size ≤ x11.heap.size := (by have z := f11.size; (try simp at z); omega); have BR11 := hideIt (Bx.fr (b := w.heap.size) (v := (nk 0)) (s := (.slice none 0 0)) (by repeat with_reducible first | exact BR10.out | apply Bx.alloc | apply Bx.drew | refine Bx.set ?_ (by (try dsimp only); omega) _) (by omega) f11); have yr11 := BR11.out.lt; have BN11 := hideIt (Bx.fr BN10.out (by omega) f11); have yn11 := BN11.out.lt; have IL11 := hideIt (LI.fr (R := R) IL10.out (by omega) f11); (try clear n0 n1 n2 n3 n4 n5 n6 n7 n8 n9 nf r0 r1 r2 r3 r4 r5 r6 r7 r8 r9 rf); obtain ⟨n0, n1, n2, n3, n4, n5, n6, n7, n8, n9⟩ := BN11.out.ten; have nf := BN11.out.free; obtain ⟨r0, r1, r2, r3, r4, r5, r6, r7, r8, r9⟩ := BR11.out.ten; have rf := BR11.out.free; clear C11 f11 d11) | fail)
      obtain ⟨aL, cL, fL, eL, cpL, skL, lsL⟩ := (LI.done (x := (nk 12, one x)) IL11.out).out
      have EL := hideIt eL
      refine bodyPost_ret (v := nodeV (nk 12) (.slice (some ⟨gg, 0, none⟩) (Fo.nil.len + 1) cg)) (by simp [results, Tryz.results82, go_sem, *]) rfl ⟨_, rfl, ?_, (by repeat with_reducible first | exact F11.out | apply Fr.alloc | apply Fr.drew | refine Fr.setNew ?_ (by (try dsimp only); omega) _), (by repeat with_reducible first | exact D11.out | apply RR.alloc | apply RR.drew | refine RR.setCell ?_ (by (try dsimp only); omega) _)⟩
      rw [EL.out]
      exact NV.mk (x := (nk 12, one x)) (B' := x6.heap.size) (U := x11.heap.size) cpL skL (by repeat (first | with_reducible exact lsL | (with_reducible refine Ls.set ?_ ?hh _; case hh => ((try dsimp only); omega)))) (by omega) (by refine nf_ok ?_ ?_ ?_ ?_ ?_ ?_ ?_ ?_ ?_ <;> first | omega | decide | exact Nat.zero_le _)
    · go_simp
      refine hK.out _ _ ?_ (fun hHeld => ?_)
      · trivial
      clear hK K
      try simp only [Act.put, List.setIfInBounds_toArray, List.set_cons_zero, List.set_cons_succ]
      refine wpAnyH_ready (rs := [1]) (by kernel_rfl) (by simp) (AllReadyH.cons (o := ⟨_, _, _, _, _, _⟩) rfl (fun K hK => ?_) AllReadyH.nil)
      go_simp
      refine hK.out _ _ ?_ (fun hHeld => ?_)
      · trivial
      clear hK K
      try simp only [Act.put, List.setIfInBounds_toArray, List.set_cons_zero, List.set_cons_succ]
      refine wpAnyH_ready (rs := [5]) (by kernel_rfl) (by simp) (AllReadyH.cons (o := ⟨_, _, _, _, _, _⟩) rfl (fun K hK => ?_) AllReadyH.nil)
      refine app_step (B := x6.heap.size) (X := x7) (LI.nil _ _) (by omega) (by omega) (y := x) LY.out (by omega) (fun k hk => by cases hk) KY.out.2.2 KY.out.2.1 KY.out.1 (by show (0 : Nat) ≤ 70002; omega) rfl (.tmp 92) (.tmp 95) rfl rfl rfl ?_; intro gg cg x9 li9 gr9; have I9 := hideIt li9; have RL := hideIt (fun (k : Nat) (hk : Value.ownBlock (.slice none 0 0) = some k) => (show x6.heap.size ≤ k by cases hk)); have D9 := hideIt (RR.grown (D7.out.alloc _) gr9 (fun k hk => by have := RL.out k hk; omega)); have F9 := hideIt (Fr.grown (F7.out.alloc _) gr9 (fun k hk => by have := RL.out k hk; omega)); have BN9 := hideIt (Bx.grown (BN7.out.alloc _) gr9 (fun e => by have := RL.out _ e; omega)); have BR9 := hideIt (Bx.grown (BR7.out.alloc _) gr9 (fun e => by have := RL.out _ e; omega)); have yn9 := BN9.out.lt; have yr9 := BR9.out.lt; have Z9 : x7.heap.size ≤ x9.heap.size := (by have z := gr9.size; (try simp at z); omega); (try clear n0 n1 n2 n3 n4 n5 n6 n7 n8 n9 nf); obtain ⟨n0, n1, n2, n3, n4, n5, n6, n7, n8, n9⟩ := BN9.out.ten; have nf := BN9.out.free; clear li9 gr9
      refine hK.out _ _ ?_ (fun hHeld => ?_)
      · trivial
      clear hK K
      try simp only [Act.put, List.setIfInBounds_toArray, List.set_cons_zero, List.set_cons_succ]
      refine wpAnyH_take (i := 6) (oi := ⟨_, _, _, _, _, _⟩) (v := ?_) rfl (by kernel_rfl) (by kernel_rfl) (by kernel_rfl) (fun _ _ _ h => h) (Or.inl ⟨by rfl, ?_⟩) (by assumption) ?_
      rotate_left 1
      · intro w hSw; (try dsimp only at hSw); go_simp; all_goals with_reducible rfl
      try simp only [Act.put, List.setIfInBounds_toArray, List.set_cons_zero, List.set_cons_succ]
      refine wpAnyH_ready (rs := [7]) (by kernel_rfl) (by simp) (AllReadyH.cons (o := ⟨_, _, _, _, _, _⟩) rfl (fun K hK => ?_) AllReadyH.nil)
      go_simp
      refine hK.out _ _ ?_ (fun hHeld => ?_)
      · trivial
      clear hK K
      try simp only [Act.put, List.setIfInBounds_toArray, List.set_cons_zero, List.set_cons_succ]
      refine wpAnyH_done (by kernel_rfl) ?_ _
      go_wp2_with (first | (go_at_call_of 49 (Value.string ⟨#[41]⟩); refine Calls.mono (C10.out _ (by repeat with_reducible first | exact D9.out | apply RR.alloc | apply RR.drew | refine RR.setCell ?_ (by (try dsimp only); omega) _)) ?_; rintro e x10 ⟨rfl, f10, d10⟩; have D10 := hideIt d10; have F10 := hideIt (show Fr R w x10 from Fr.trans (by repeat with_reducible first | exact F9.out | apply Fr.alloc | apply Fr.drew | refine Fr.setNew ?_ (by (try dsimp only); omega) _) f10); have Z10 : x9.heap.size ≤ x10.heap.size := (by have z := f10.size; (try simp at z); omega); have BR10 := hideIt (Bx.fr (b := w.heap.size) (v := (nk 0)) (s := (.slice none 0 0)) (by repeat with_reducible first | exact BR9.out | apply Bx.alloc | apply Bx.drew | refine Bx.set ?_ (by (try dsimp only); omega) _) (by omega) f10); have yr10 := BR10.out.lt; have BN10 := hideIt (Bx.fr (BN9.out.at9 (.slice (some ⟨gg, 0, none⟩) (Fo.nil.len + 1) cg)) (by omega) f10); have yn10 := BN10.out.lt; have IL10 := hideIt (LI.fr (R := R) (LI.setNe' (p := ⟨x1.heap.size, 9, none⟩) I9.out (by show x1.heap.size < x6.heap.size; omega) (.slice (some ⟨gg, 0, none⟩) (Fo.nil.len + 1) cg)) (by omega) f10); (try clear n0 n1 n2 n3 n4 n5 n6 n7 n8 n9 nf r0 r1 r2 r3 r4 r5 r6 r7 r8 r9 rf); obtain ⟨n0, n1, n2, n3, n4, n5, n6, n7, n8, n9⟩ := BN10.out.ten; have nf := BN10.out.free; obtain ⟨r0, r1, r2, r3, r4, r5, r6, r7, r8, r9⟩ := BR10.out.ten; have rf := BR10.out.free; clear C10 f10 d10) | (go_at_call_of 46 (Value.string ⟨#[59]⟩); refine Calls.mono (C11.out _ (by repeat with_reducible first | exact D10.out | apply RR.alloc | apply RR.drew | refine RR.setCell ?_ (by (try dsimp only); omega) _)) ?_; rintro e x11 ⟨rfl, f11, d11⟩; have D11 := hideIt d11; have F11 := hideIt (show Fr R w x11 from Fr.trans (by repeat with_reducible first | exact F10.out | apply Fr.alloc | apply Fr.drew | refine Fr.setNew ?_ (by (try dsimp only); omega) _) f11); have Z11 : x10.heap.size ≤ x11.heap.size := (by have z := f11.size; (try simp at z); omega); have BR11 := hideIt (Bx.fr (b := w.heap.size) (v := (nk 0)) (s := (.slice none 0 0)) (by repeat with_reducible first | exact BR10.out | apply Bx.alloc | apply Bx.drew | refine Bx.set ?_ (by (try dsimp only); omega) _) (by omega) f11); have yr11 := BR11.out.lt; have BN11 := hideIt (Bx.fr BN10.out (by omega) f11); have yn11 := BN11.out.lt; have IL11 := hideIt (LI.fr (R := R) IL10.out (by omega) f11); (try clear n0 n1 n2 n3 n4 n5 n6 n7 n8 n9 nf r0 r1 r2 r3 r4 r5 r6 r7 r8 r9 rf); obtain ⟨n0, n1, n2, n3, n4, n5, n6, n7, n8, n9⟩ := BN11.out.ten; have nf := BN11.out.free; obtain ⟨r0, r1, r2, r3, r4, r5, r6, r7, r8, r9⟩ := BR11.out.ten; have rf := BR11.out.free; clear C11 f11 d11) | fail)
      obtain ⟨aL, cL, fL, eL, cpL, skL, lsL⟩ := (LI.done (x := (nk 12, one x)) IL11.out).out
      have EL := hideIt eL
      refine bodyPost_ret (v := nodeV (nk 12) (.slice (some ⟨gg, 0, none⟩) (Fo.nil.len + 1) cg)) (by simp [results, Tryz.results82, go_sem, *]) rfl ⟨_, rfl, ?_, (by repeat with_reducible first | exact F11.out | apply Fr.alloc | apply Fr.drew | refine Fr.setNew ?_ (by (try dsimp only); omega) _), (by repeat with_reducible first | exact D11.out | apply RR.alloc | apply RR.drew | refine RR.setCell ?_ (by (try dsimp only); omega) _)⟩
      rw [EL.out]
      exact NV.mk (x := (nk 12, one x)) (B' := x6.heap.size) (U := x11.heap.size) cpL skL (by repeat (first | with_reducible exact lsL | (with_reducible refine Ls.set ?_ ?hh _; case hh => ((try dsimp only); omega)))) (by omega) (by refine nf_ok ?_ ?_ ?_ ?_ ?_ ?_ ?_ ?_ ?_ <;> first | omega | decide | exact Nat.zero_le _)

set_option maxRecDepth 100000 in
set_option maxHeartbeats 4000000 in
theorem rstat_return (R g cap : Nat) (L : List Tok) (hL : L.length ≤ 70000) (o : Int) (ho : 0 ≤ o ∧ o < 40) (i j : Nat) (x : Nd) (q0 : Tok) (hq0 : L[i]? = some q0) (hk0 : q0.1.kind = 2) (ht0 : q0.1.text = [114, 101, 116, 117, 114, 110]) (h3 : At1 L j [59]) (hj : j + 1 < L.length) (hij : i + 2 < L.length)
    (HE : ∀ X, RR X R g cap L (i + 1) o → Calls Tryz.prog 81 #[rp R] X (PN x R g cap L j o X)) (w : World) (hw : RR w R g cap L i o) :
    Calls Tryz.prog 82 #[rp R] w (PN (nk 14, one x) R g cap L (j + 1) o w) := by
  obtain ⟨q3, hq3, hb3⟩ := h3
  have C1 := hideIt (fun X hX => rtyped_no R g cap L i o q0 hq0 hk0 (by rw [ht0]; decide) X hX)
  have C2 := hideIt (fun X hX => rtake_no R g cap L i o q0 hq0 [115, 116, 114, 117, 99, 116] (by unfold isB; rw [hk0, ht0]; decide) X hX)
  have C3 := hideIt (fun X hX => rtake_no R g cap L i o q0 hq0 [105, 102] (by unfold isB; rw [hk0, ht0]; decide) X hX)
  have C4 := hideIt (fun X hX => rtake_no R g cap L i o q0 hq0 [102, 111, 114] (by unfold isB; rw [hk0, ht0]; decide) X hX)
  have C5 := hideIt (fun X hX => rtake_no R g cap L i o q0 hq0 [112, 114, 105, 110, 116] (by unfold isB; rw [hk0, ht0]; decide) X hX)
  have C6 := hideIt (fun X hX => rtake_yes R g cap L i o q0 hq0 [114, 101, 116, 117, 114, 110] (by unfold isB; rw [hk0, ht0]; decide) (by omega) hL X hX)
  have C7 := hideIt (fun X hX => HE X hX)
  have C10 := hideIt (fun X hX => rwant_any R g cap L j o q3 hq3 [59] hb3 (by omega) hL X hX)
  have HD := hideIt hw
  have hR := hw.lt_size
  clear hw HE hq0 hk0 ht0 ho
  go_enter Tryz.func82, Tryz.ntmps82
  go_wp2_with (first | (go_at_call 79; refine Calls.mono (C1.out _ (by repeat with_reducible first | exact HD.out | apply RR.alloc | apply RR.drew | refine RR.setCell ?_ (by (try dsimp only); omega) _)) ?_; rintro e x1 ⟨rfl, f1, d1⟩; have D1 := hideIt d1; have F1 := hideIt (show Fr R w x1 from Fr.trans (by repeat with_reducible first | exact (Fr.refl R w) | apply Fr.alloc | apply Fr.drew | refine Fr.setNew ?_ (by (try dsimp only); omega) _) f1); have Z1 : w.heap.size + 1 ≤ x1.heap.size := (by have z := f1.size; (try simp at z); omega); have BR1 := hideIt (Bx.fr (b := w.heap.size) (v := (nk 0)) (s := (.slice none 0 0)) (by repeat first | refine Bx.newAt _ (nk 0) (.slice none 0 0) (by simp; done) | with_reducible apply Bx.alloc | with_reducible apply Bx.drew | with_reducible refine Bx.set ?_ (by (try dsimp only); omega) _) (by omega) f1); have yr1 := BR1.out.lt; (try clear r0 r1 r2 r3 r4 r5 r6 r7 r8 r9 rf); obtain ⟨r0, r1, r2, r3, r4, r5, r6, r7, r8, r9⟩ := BR1.out.ten; have rf := BR1.out.free; clear C1 f1 d1) | (go_at_call_of 43 (Value.string ⟨#[115, 116, 114, 117, 99, 116]⟩); refine Calls.mono (C2.out _ (by repeat with_reducible first | exact D1.out | apply RR.alloc | apply RR.drew | refine RR.setCell ?_ (by (try dsimp only); omega) _)) ?_; rintro e x2 ⟨rfl, f2, d2⟩; have D2 := hideIt d2; have F2 := hideIt (show Fr R w x2 from Fr.trans (by repeat with_reducible first | exact F1.out | apply Fr.alloc | apply Fr.drew | refine Fr.setNew ?_ (by (try dsimp only); omega) _) f2); have Z2 : x1.heap.size ≤ x2.heap.size := (by have z := f2.size; (try simp at z); omega); have BR2 := hideIt (Bx.fr (b := w.heap.size) (v := (nk 0)) (s := (.slice none 0 0)) (by repeat with_reducible first | exact BR1.out | apply Bx.alloc | apply Bx.drew | refine Bx.set ?_ (by (try dsimp only); omega) _) (by omega) f2); have yr2 := BR2.out.lt; (try clear r0 r1 r2 r3 r4 r5 r6 r7 r8 r9 rf); obtain ⟨r0, r1, r2, r3, r4, r5, r6, r7, r8, r9⟩ := BR2.out.ten; have rf := BR2.out.free; have BN2 := hideIt (Bx.fr (b := x1.heap.size) (v := (nk 0)) (s := (.slice none 0 0)) (by repeat first | refine Bx.newAt _ (nk 0) (.slice none 0 0) (by simp; done) | with_reducible apply Bx.alloc | with_reducible apply Bx.drew | with_reducible refine Bx.set ?_ (by (try dsimp only); omega) _) (by omega) f2); have yn2 := BN2.out.lt; (try clear n0 n1 n2 n3 n4 n5 n6 n7 n8 n9 nf); obtain ⟨n0, n1, n2, n3, n4, n5, n6, n7, n8, n9⟩ := BN2.out.ten; have nf := BN2.out.free; clear C2 f2 d2) | (go_at_call_of 43 (Value.string ⟨#[105, 102]⟩); refine Calls.mono (C3.out _ (by repeat with_reducible first | exact D2.out | apply RR.alloc | apply RR.drew | refine RR.setCell ?_ (by (try dsimp only); omega) _)) ?_; rintro e x3 ⟨rfl, f3, d3⟩; have D3 := hideIt d3; have F3 := hideIt (show Fr R w x3 from Fr.trans (by repeat with_reducible first | exact F2.out | apply Fr.alloc | apply Fr.drew | refine Fr.setNew ?_ (by (try dsimp only); omega) _) f3); have Z3 : x2.heap.size ≤ x3.heap.size := (by have z := f3.size; (try simp at z); omega); have BR3 := hideIt (Bx.fr (b := w.heap.size) (v := (nk 0)) (s := (.slice none 0 0)) (by repeat with_reducible first | exact BR2.out | apply Bx.alloc | apply Bx.drew | refine Bx.set ?_ (by (try dsimp only); omega) _) (by omega) f3); have yr3 := BR3.out.lt; (try clear r0 r1 r2 r3 r4 r5 r6 r7 r8 r9 rf); obtain ⟨r0, r1, r2, r3, r4, r5, r6, r7, r8, r9⟩ := BR3.out.ten; have rf := BR3.out.free; have BN3 := hideIt (Bx.fr (b := x1.heap.size) (v := (nk 0)) (s := (.slice none 0 0)) (by repeat with_reducible first | exact BN2.out | apply Bx.alloc | apply Bx.drew | refine Bx.set ?_ (by (try dsimp only); omega) _) (by omega) f3); have yn3 := BN3.out.lt; (try clear n0 n1 n2 n3 n4 n5 n6 n7 n8 n9 nf); obtain ⟨n0, n1, n2, n3, n4, n5, n6, n7, n8, n9⟩ := BN3.out.ten; have nf := BN3.out.free; clear C3 f3 d3) | (go_at_call_of 43 (Value.string ⟨#[102, 111, 114]⟩); refine Calls.mono (C4.out _ (by repeat with_reducible first | exact D3.out | apply RR.alloc | apply RR.drew | refine RR.setCell ?_ (by (try dsimp only); omega) _)) ?_; rintro e x4 ⟨rfl, f4, d4⟩; have D4 := hideIt d4; have F4 := hideIt (show Fr R w x4 from Fr.trans (by repeat with_reducible first | exact F3.out | apply Fr.alloc | apply Fr.drew | refine Fr.setNew ?_ (by (try dsimp only); omega) _) f4); have Z4 : x3.heap.size ≤ x4.heap.size := (by have z := f4.size; (try simp at z); omega); have BR4 := hideIt (Bx.fr (b := w.heap.size) (v := (nk 0)) (s := (.slice none 0 0)) (by repeat with_reducible first | exact BR3.out | apply Bx.alloc | apply Bx.drew | refine Bx.set ?_ (by (try dsimp only); omega) _) (by omega) f4); have yr4 := BR4.out.lt; (try clear r0 r1 r2 r3 r4 r5 r6 r7 r8 r9 rf); obtain ⟨r0, r1, r2, r3, r4, r5, r6, r7, r8, r9⟩ := BR4.out.ten; have rf := BR4.out.free; have BN4 := hideIt (Bx.fr (b := x1.heap.size) (v := (nk 0)) (s := (.slice none 0 0)) (by repeat with_reducible first | exact BN3.out | apply Bx.alloc | apply Bx.drew | refine Bx.set ?_ (by (try dsimp only); omega) _) (by omega) f4); have yn4 := BN4.out.lt; (try clear n0 n1 n2 n3 n4 n5 n6 n7 n8 n9 nf); obtain ⟨n0, n1, n2, n3, n4, n5, n6, n7, n8, n9⟩ := BN4.out.ten; have nf := BN4.out.free; clear C4 f4 d4) | (go_at_call_of 43 (Value.string ⟨#[112, 114, 105, 110, 116]⟩); refine Calls.mono (C5.out _ (by repeat with_reducible first | exact D4.out | apply RR.alloc | apply RR.drew | refine RR.setCell ?_ (by (try dsimp only); omega) _)) ?_; rintro e x5 ⟨rfl, f5, d5⟩; have D5 := hideIt d5; have F5 := hideIt (show Fr R w x5 from Fr.trans (by repeat with_reducible first | exact F4.out | apply Fr.alloc | apply Fr.drew | refine Fr.setNew ?_ (by (try dsimp only); omega) _) f5); have Z5 : x4.heap.size ≤ x5.heap.size := (by have z := f5.size; (try simp at z); omega); have BR5 := hideIt (Bx.fr (b := w.heap.size) (v := (nk 0)) (s := (.slice none 0 0)) (by repeat with_reducible first | exact BR4.out | apply Bx.alloc | apply Bx.drew | refine Bx.set ?_ (by (try dsimp only); omega) _) (by omega) f5); have yr5 := BR5.out.lt; (try clear r0 r1 r2 r3 r4 r5 r6 r7 r8 r9 rf); obtain ⟨r0, r1, r2, r3, r4, r5, r6, r7, r8, r9⟩ := BR5.out.ten; have rf := BR5.out.free; have BN5 := hideIt (Bx.fr (b := x1.heap.size) (v := (nk 0)) (s := (.slice none 0 0)) (by repeat with_reducible first | exact BN4.out | apply Bx.alloc | apply Bx.drew | refine Bx.set ?_ (by (try dsimp only); omega) _) (by omega) f5); have yn5 := BN5.out.lt; (try clear n0 n1 n2 n3 n4 n5 n6 n7 n8 n9 nf); obtain ⟨n0, n1, n2, n3, n4, n5, n6, n7, n8, n9⟩ := BN5.out.ten; have nf := BN5.out.free; clear C5 f5 d5) | (go_at_call_of 43 (Value.string ⟨#[114, 101, 116, 117, 114, 110]⟩); refine Calls.mono (C6.out _ (by repeat with_reducible first | exact D5.out | apply RR.alloc | apply RR.drew | refine RR.setCell ?_ (by (try dsimp only); omega) _)) ?_; rintro e x6 ⟨rfl, f6, d6⟩; have D6 := hideIt d6; have F6 := hideIt (show Fr R w x6 from Fr.trans (by repeat with_reducible first | exact F5.out | apply Fr.alloc | apply Fr.drew | refine Fr.setNew ?_ (by (try dsimp only); omega) _) f6); have Z6 : x5.heap.size ≤ x6.heap.size := (by have z := f6.size; (try simp at z); omega); have BR6 := hideIt (Bx.fr (b := w.heap.size) (v := (nk 0)) (s := (.slice none 0 0)) (by repeat with_reducible first | exact BR5.out | apply Bx.alloc | apply Bx.drew | refine Bx.set ?_ (by (try dsimp only); omega) _) (by omega) f6); have yr6 := BR6.out.lt; (try clear r0 r1 r2 r3 r4 r5 r6 r7 r8 r9 rf); obtain ⟨r0, r1, r2, r3, r4, r5, r6, r7, r8, r9⟩ := BR6.out.ten; have rf := BR6.out.free; have BN6 := hideIt (Bx.fr (b := x1.heap.size) (v := (nk 0)) (s := (.slice none 0 0)) (by repeat with_reducible first | exact BN5.out | apply Bx.alloc | apply Bx.drew | refine Bx.set ?_ (by (try dsimp only); omega) _) (by omega) f6); have yn6 := BN6.out.lt; (try clear n0 n1 n2 n3 n4 n5 n6 n7 n8 n9 nf); obtain ⟨n0, n1, n2, n3, n4, n5, n6, n7, n8, n9⟩ := BN6.out.ten; have nf := BN6.out.free; clear C6 f6 d6) | fail)
  have BNk := hideIt (Bx.put BN6.out 0 (.int .u8 14) (v' := (nk 14)) (s' := (.slice none 0 0)) rfl)
  have BRk := hideIt (BR6.out.set (p := ⟨x1.heap.size, 0, none⟩) (by show w.heap.size ≠ x1.heap.size; omega) (.int .u8 14))
  have Dk := hideIt (D6.out.setCell (p := ⟨x1.heap.size, 0, none⟩) (by show R < x1.heap.size; omega) (.int .u8 14))
  have Fk := hideIt (F6.out.setNew (p := ⟨x1.heap.size, 0, none⟩) (by show w.heap.size ≤ x1.heap.size; omega) (.int .u8 14))
  have Zk : x6.heap.size = (x6.setCell ⟨x1.heap.size, 0, none⟩ (.int .u8 14)).heap.size := by simp
  clear BN6 BR6 D6 F6 n0 n1 n2 n3 n4 n5 n6 n7 n8 n9 nf r0 r1 r2 r3 r4 r5 r6 r7 r8 r9 rf yn6 yr6
  generalize x6.setCell ⟨x1.heap.size, 0, none⟩ (.int .u8 14) = xk at *
  obtain ⟨n0, n1, n2, n3, n4, n5, n6, n7, n8, n9⟩ := BNk.out.ten
  have nf := BNk.out.free
  have ynk := BNk.out.lt
  have yrk := BRk.out.lt
  refine wp_region_held_drew (S := fun _ => True) (by kernel_rfl) (trivial) (fun hHeld => ?_)
  refine wpAnyH_take (i := 0) (oi := ⟨_, _, _, _, _, _⟩) (v := ?_) rfl (by kernel_rfl) (by kernel_rfl) (by kernel_rfl) (fun _ _ _ h => h) (Or.inl ⟨by rfl, ?_⟩) (by assumption) ?_
  rotate_left 1
  · intro w hSw; (try dsimp only at hSw); go_simp; all_goals with_reducible rfl
  try simp only [Act.put, List.setIfInBounds_toArray, List.set_cons_zero, List.set_cons_succ]
  refine wpAnyH_take (i := 2) (oi := ⟨_, _, _, _, _, _⟩) (v := ?_) rfl (by kernel_rfl) (by kernel_rfl) (by kernel_rfl) (fun _ _ _ h => h) (Or.inl ⟨by rfl, ?_⟩) (by assumption) ?_
  rotate_left 1
  · intro w hSw; (try dsimp only at hSw); go_simp; all_goals with_reducible rfl
  try simp only [Act.put, List.setIfInBounds_toArray, List.set_cons_zero, List.set_cons_succ]
  refine wpAnyH_ready (rs := [1, 3]) (by kernel_rfl) (by simp) (AllReadyH.cons (o := ⟨_, _, _, _, _, _⟩) rfl (fun K hK => ?_) (AllReadyH.cons (o := ⟨_, _, _, _, _, _⟩) rfl (fun K hK => ?_) AllReadyH.nil))
  · go_simp
    refine hK.out _ _ ?_ (fun hHeld => ?_)
    · trivial
    clear hK K
    try simp only [Act.put, List.setIfInBounds_toArray, List.set_cons_zero, List.set_cons_succ]
    refine wpAnyH_ready (rs := [3]) (by kernel_rfl) (by simp) (AllReadyH.cons (o := ⟨_, _, _, _, _, _⟩) rfl (fun K hK => ?_) AllReadyH.nil)
    go_simp
    (go_at_call 81; refine Calls.mono (C7.out _ (by repeat with_reducible first | exact Dk.out | apply RR.alloc | apply RR.drew | refine RR.setCell ?_ (by (try dsimp only); omega) _)) ?_; rintro e x7 ⟨v7, rfl, hv7, f7, d7⟩; obtain ⟨a7, c7, g7, rfl, cp7, sk7, l7, ok7⟩ := hv7.out; have D7 := hideIt d7; have F7 := hideIt (show Fr R w x7 from Fr.trans (by repeat with_reducible first | exact Fk.out | apply Fr.alloc | apply Fr.drew | refine Fr.setNew ?_ (by (try dsimp only); omega) _) f7); have Z7 : xk.heap.size ≤ x7.heap.size := (by have z := f7.size; (try simp at z); omega); have LY := hideIt (Ls.mono (B' := xk.heap.size) l7 (by (try simp) <;> (try omega)) (Nat.le_refl _)); have KY := hideIt (And.intro cp7 (And.intro sk7 ok7)); have BN7 := hideIt (Bx.fr BNk.out.drew (by omega) f7); have BR7 := hideIt (Bx.fr BRk.out.drew (by omega) f7); have yn7 := BN7.out.lt; have yr7 := BR7.out.lt; (try clear n0 n1 n2 n3 n4 n5 n6 n7 n8 n9 nf); obtain ⟨n0, n1, n2, n3, n4, n5, n6, n7, n8, n9⟩ := BN7.out.ten; have nf := BN7.out.free; clear C7 hv7 l7 cp7 sk7 ok7 d7 f7)
    refine hK.out _ _ ?_ (fun hHeld => ?_)
    · trivial
    clear hK K
    try simp only [Act.put, List.setIfInBounds_toArray, List.set_cons_zero, List.set_cons_succ]
    refine wpAnyH_ready (rs := [4]) (by kernel_rfl) (by simp) (AllReadyH.cons (o := ⟨_, _, _, _, _, _⟩) rfl (fun K hK => ?_) AllReadyH.nil)
    go_simp
    refine hK.out _ _ ?_ (fun hHeld => ?_)
    · trivial
    clear hK K
    try simp only [Act.put, List.setIfInBounds_toArray, List.set_cons_zero, List.set_cons_succ]
    refine wpAnyH_ready (rs := [5]) (by kernel_rfl) (by simp) (AllReadyH.cons (o := ⟨_, _, _, _, _, _⟩) rfl (fun K hK => ?_) AllReadyH.nil)
    refine app_step (B := xk.heap.size) (X := x7) (LI.nil _ _) (by omega) (by omega) (y := x) LY.out (by omega) (fun k hk => by cases hk) KY.out.2.2 KY.out.2.1 KY.out.1 (by show (0 : Nat) ≤ 70002; omega) rfl (.tmp 107) (.tmp 110) rfl rfl rfl ?_; intro gg cg x9 li9 gr9; have I9 := hideIt li9; have RL := hideIt (fun (k : Nat) (hk : Value.ownBlock (.slice none 0 0) = some k) => (show xk.heap.size ≤ k by cases hk)); have D9 := hideIt (RR.grown (D7.out.alloc _) gr9 (fun k hk => by have := RL.out k hk; omega)); have F9 := hideIt (Fr.grown (F7.out.alloc _) gr9 (fun k hk => by have := RL.out k hk; omega)); have BN9 := hideIt (Bx.grown (BN7.out.alloc _) gr9 (fun e => by have := RL.out _ e; omega)); have BR9 := hideIt (Bx.grown (BR7.out.alloc _) gr9 (fun e => by have := RL.out _ e; omega)); have yn9 := BN9.out.lt; have yr9 := BR9.out.lt; have Z9 : x7.heap.size ≤ x9.heap.size := (by have z := gr9.size; (try simp at z); omega); (try clear n0 n1 n2 n3 n4 n5 n6 n7 n8 n9 nf); obtain ⟨n0, n1, n2, n3, n4, n5, n6, n7, n8, n9⟩ := BN9.out.ten; have nf := BN9.out.free; clear li9 gr9
    refine hK.out _ _ ?_ (fun hHeld => ?_)
    · trivial
    clear hK K
    try simp only [Act.put, List.setIfInBounds_toArray, List.set_cons_zero, List.set_cons_succ]
    refine wpAnyH_take (i := 6) (oi := ⟨_, _, _, _, _, _⟩) (v := ?_) rfl (by kernel_rfl) (by kernel_rfl) (by kernel_rfl) (fun _ _ _ h => h) (Or.inl ⟨by rfl, ?_⟩) (by assumption) ?_
    rotate_left 1
    · intro w hSw; (try dsimp only at hSw); go_simp; all_goals with_reducible rfl
    try simp only [Act.put, List.setIfInBounds_toArray, List.set_cons_zero, List.set_cons_succ]
    refine wpAnyH_ready (rs := [7]) (by kernel_rfl) (by simp) (AllReadyH.cons (o := ⟨_, _, _, _, _, _⟩) rfl (fun K hK => ?_) AllReadyH.nil)
    go_simp
    refine hK.out _ _ ?_ (fun hHeld => ?_)
    · trivial
    clear hK K
    try simp only [Act.put, List.setIfInBounds_toArray, List.set_cons_zero, List.set_cons_succ]
    refine wpAnyH_done (by kernel_rfl) ?_ _
    go_wp2_with (first | (go_at_call_of 46 (Value.string ⟨#[59]⟩); refine Calls.mono (C10.out _ (by repeat with_reducible first | exact D9.out | apply RR.alloc | apply RR.drew | refine RR.setCell ?_ (by (try dsimp only); omega) _)) ?_; rintro e x10 ⟨rfl, f10, d10⟩; have D10 := hideIt d10; have F10 := hideIt (show Fr R w x10 from Fr.trans (by repeat with_reducible first | exact F9.out | apply Fr.alloc | apply Fr.drew | refine Fr.setNew ?_ (by (try dsimp only); omega) _) f10); have Z10 : x9.heap.size ≤ x10.heap.size := (by have z := f10.size; (try simp at z); omega); have BR10 := hideIt (Bx.fr (b := w.heap.size) (v := (nk 0)) (s := (.slice none 0 0)) (by repeat with_reducible first | exact BR9.out | apply Bx.alloc | apply Bx.drew | refine Bx.set ?_ (by (try dsimp only); omega) _) (by omega) f10); have yr10 := BR10.out.lt; have BN10 := hideIt (Bx.fr (BN9.out.at9 (.slice (some ⟨gg, 0, none⟩) (Fo.nil.len + 1) cg)) (by omega) f10); have yn10 := BN10.out.lt; have IL10 := hideIt (LI.fr (R := R) (LI.setNe' (p := ⟨x1.heap.size, 9, none⟩) I9.out (by show x1.heap.size < xk.heap.size; omega) (.slice (some ⟨gg, 0, none⟩) (Fo.nil.len + 1) cg)) (by omega) f10); (try clear n0 n1 n2 n3 n4 n5 n6 n7 n8 n9 nf r0 r1 r2 r3 r4 r5 r6 r7 r8 r9 rf); obtain ⟨n0, n1, n2, n3, n4, n5, n6, n7, n8, n9⟩ := BN10.out.ten; have nf := BN10.out.free; obtain ⟨r0, r1, r2, r3, r4, r5, r6, r7, r8, r9⟩ := BR10.out.ten; have rf := BR10.out.free; clear C10 f10 d10) | fail)
    obtain ⟨aL, cL, fL, eL, cpL, skL, lsL⟩ := (LI.done (x := (nk 14, one x)) IL10.out).out
    have EL := hideIt eL
    refine bodyPost_ret (v := nodeV (nk 14) (.slice (some ⟨gg, 0, none⟩) (Fo.nil.len + 1) cg)) (by simp [results, Tryz.results82, go_sem, *]) rfl ⟨_, rfl, ?_, (by repeat with_reducible first | exact F10.out | apply Fr.alloc | apply Fr.drew | refine Fr.setNew ?_ (by (try dsimp only); omega) _), (by repeat with_reducible first | exact D10.out | apply RR.alloc | apply RR.drew | refine RR.setCell ?_ (by (try dsimp only); omega) _)⟩
    rw [EL.out]
    exact NV.mk (x := (nk 14, one x)) (B' := xk.heap.size) (U := x10.heap.size) cpL skL (by repeat (first | with_reducible exact lsL | (with_reducible refine Ls.set ?_ ?hh _; case hh => ((try dsimp only); omega)))) (by omega) (by refine nf_ok ?_ ?_ ?_ ?_ ?_ ?_ ?_ ?_ ?_ <;> first | omega | decide | exact Nat.zero_le _)
  · go_simp
    (go_at_call 81; refine Calls.mono (C7.out _ (by repeat with_reducible first | exact Dk.out | apply RR.alloc | apply RR.drew | refine RR.setCell ?_ (by (try dsimp only); omega) _)) ?_; rintro e x7 ⟨v7, rfl, hv7, f7, d7⟩; obtain ⟨a7, c7, g7, rfl, cp7, sk7, l7, ok7⟩ := hv7.out; have D7 := hideIt d7; have F7 := hideIt (show Fr R w x7 from Fr.trans (by repeat with_reducible first | exact Fk.out | apply Fr.alloc | apply Fr.drew | refine Fr.setNew ?_ (by (try dsimp only); omega) _) f7); have Z7 : xk.heap.size ≤ x7.heap.size := (by have z := f7.size; (try simp at z); omega); have LY := hideIt (Ls.mono (B' := xk.heap.size) l7 (by (try simp) <;> (try omega)) (Nat.le_refl _)); have KY := hideIt (And.intro cp7 (And.intro sk7 ok7)); have BN7 := hideIt (Bx.fr BNk.out.drew (by omega) f7); have BR7 := hideIt (Bx.fr BRk.out.drew (by omega) f7); have yn7 := BN7.out.lt; have yr7 := BR7.out.lt; (try clear n0 n1 n2 n3 n4 n5 n6 n7 n8 n9 nf); obtain ⟨n0, n1, n2, n3, n4, n5, n6, n7, n8, n9⟩ := BN7.out.ten; have nf := BN7.out.free; clear C7 hv7 l7 cp7 sk7 ok7 d7 f7)
    refine hK.out _ _ ?_ (fun hHeld => ?_)
    · trivial
    clear hK K
    try simp only [Act.put, List.setIfInBounds_toArray, List.set_cons_zero, List.set_cons_succ]
    refine wpAnyH_ready (rs := [1, 4]) (by kernel_rfl) (by simp) (AllReadyH.cons (o := ⟨_, _, _, _, _, _⟩) rfl (fun K hK => ?_) (AllReadyH.cons (o := ⟨_, _, _, _, _, _⟩) rfl (fun K hK => ?_) AllReadyH.nil))
    · go_simp
      refine hK.out _ _ ?_ (fun hHeld => ?_)
      · trivial
      clear hK K
      try simp only [Act.put, List.setIfInBounds_toArray, List.set_cons_zero, List.set_cons_succ]
      refine wpAnyH_ready (rs := [4]) (by kernel_rfl) (by simp) (AllReadyH.cons (o := ⟨_, _, _, _, _, _⟩) rfl (fun K hK => ?_) AllReadyH.nil)
      go_simp
      refine hK.out _ _ ?_ (fun hHeld => ?_)
      · trivial
      clear hK K
      try simp only [Act.put, List.setIfInBounds_toArray, List.set_cons_zero, List.set_cons_succ]
      refine wpAnyH_ready (rs := [5]) (by kernel_rfl) (by simp) (AllReadyH.cons (o := ⟨_, _, _, _, _, _⟩) rfl (fun K hK => ?_) AllReadyH.nil)
      refine app_step (B := xk.heap.size) (X := x7) (LI.nil _ _) (by omega) (by omega) (y := x) LY.out (by omega) (fun k hk => by cases hk) KY.out.2.2 KY.out.2.1 KY.out.1 (by show (0 : Nat) ≤ 70002; omega) rfl (.tmp 107) (.tmp 110) rfl rfl rfl ?_; intro gg cg x9 li9 gr9; have I9 := hideIt li9; have RL := hideIt (fun (k : Nat) (hk : Value.ownBlock (.slice none 0 0) = some k) => (show xk.heap.size ≤ k by cases hk)); have D9 := hideIt (RR.grown (D7.out.alloc _) gr9 (fun k hk => by have := RL.out k hk; omega)); have F9 := hideIt (Fr.grown (F7.out.alloc _) gr9 (fun k hk => by have := RL.out k hk; omega)); have BN9 := hideIt (Bx.grown (BN7.out.alloc _) gr9 (fun e => by have := RL.out _ e; omega)); have BR9 := hideIt (Bx.grown (BR7.out.alloc _) gr9 (fun e => by have := RL.out _ e; omega)); have yn9 := BN9.out.lt; have yr9 := BR9.out.lt; have Z9 : x7.heap.size ≤ x9.heap.size := (by have z := gr9.size; (try simp at z); omega); (try clear n0 n1 n2 n3 n4 n5 n6 n7 n8 n9 nf); obtain ⟨n0, n1, n2, n3, n4, n5, n6, n7, n8, n9⟩ := BN9.out.ten; have nf := BN9.out.free; clear li9 gr9
      refine hK.out _ _ ?_ (fun hHeld => ?_)
      · trivial
      clear hK K
      try simp only [Act.put, List.setIfInBounds_toArray, List.set_cons_zero, List.set_cons_succ]
      refine wpAnyH_take (i := 6) (oi := ⟨_, _, _, _, _, _⟩) (v := ?_) rfl (by kernel_rfl) (by kernel_rfl) (by kernel_rfl) (fun _ _ _ h => h) (Or.inl ⟨by rfl, ?_⟩) (by assumption) ?_
      rotate_left 1
      · intro w hSw; (try dsimp only at hSw); go_simp; all_goals with_reducible rfl
      try simp only [Act.put, List.setIfInBounds_toArray, List.set_cons_zero, List.set_cons_succ]
      refine wpAnyH_ready (rs := [7]) (by kernel_rfl) (by simp) (AllReadyH.cons (o := ⟨_, _, _, _, _, _⟩) rfl (fun K hK => ?_) AllReadyH.nil)
      go_simp
      refine hK.out _ _ ?_ (fun hHeld => ?_)
      · trivial
      clear hK K
      try simp only [Act.put, List.setIfInBounds_toArray, List.set_cons_zero, List.set_cons_succ]
      refine wpAnyH_done (by kernel_rfl) ?_ _
      go_wp2_with (first | (go_at_call_of 46 (Value.string ⟨#[59]⟩); refine Calls.mono (C10.out _ (by repeat with_reducible first | exact D9.out | apply RR.alloc | apply RR.drew | refine RR.setCell ?_ (by (try dsimp only); omega) _)) ?_; rintro e x10 ⟨rfl, f10, d10⟩; have D10 := hideIt d10; have F10 := hideIt (show Fr R w x10 from Fr.trans (by repeat with_reducible first | exact F9.out | apply Fr.alloc | apply Fr.drew | refine Fr.setNew ?_ (by (try dsimp only); omega) _) f10); have Z10 : x9.heap.size ≤ x10.heap.size := (by have z := f10.size; (try simp at z); omega); have BR10 := hideIt (Bx.fr (b := w.heap.size) (v := (nk 0)) (s := (.slice none 0 0)) (by repeat with_reducible first | exact BR9.out | apply Bx.alloc | apply Bx.drew | refine Bx.set ?_ (by (try dsimp only); omega) _) (by omega) f10); have yr10 := BR10.out.lt; have BN10 := hideIt (Bx.fr (BN9.out.at9 (.slice (some ⟨gg, 0, none⟩) (Fo.nil.len + 1) cg)) (by omega) f10); have yn10 := BN10.out.lt; have IL10 := hideIt (LI.fr (R := R) (LI.setNe' (p := ⟨x1.heap.size, 9, none⟩) I9.out (by show x1.heap.size < xk.heap.size; omega) (.slice (some ⟨gg, 0, none⟩) (Fo.nil.len + 1) cg)) (by omega) f10); (try clear n0 n1 n2 n3 n4 n5 n6 n7 n8 n9 nf r0 r1 r2 r3 r4 r5 r6 r7 r8 r9 rf); obtain ⟨n0, n1, n2, n3, n4, n5, n6, n7, n8, n9⟩ := BN10.out.ten; have nf := BN10.out.free; obtain ⟨r0, r1, r2, r3, r4, r5, r6, r7, r8, r9⟩ := BR10.out.ten; have rf := BR10.out.free; clear C10 f10 d10) | fail)
      obtain ⟨aL, cL, fL, eL, cpL, skL, lsL⟩ := (LI.done (x := (nk 14, one x)) IL10.out).out
      have EL := hideIt eL
      refine bodyPost_ret (v := nodeV (nk 14) (.slice (some ⟨gg, 0, none⟩) (Fo.nil.len + 1) cg)) (by simp [results, Tryz.results82, go_sem, *]) rfl ⟨_, rfl, ?_, (by repeat with_reducible first | exact F10.out | apply Fr.alloc | apply Fr.drew | refine Fr.setNew ?_ (by (try dsimp only); omega) _), (by repeat with_reducible first | exact D10.out | apply RR.alloc | apply RR.drew | refine RR.setCell ?_ (by (try dsimp only); omega) _)⟩
      rw [EL.out]
      exact NV.mk (x := (nk 14, one x)) (B' := xk.heap.size) (U := x10.heap.size) cpL skL (by repeat (first | with_reducible exact lsL | (with_reducible refine Ls.set ?_ ?hh _; case hh => ((try dsimp only); omega)))) (by omega) (by refine nf_ok ?_ ?_ ?_ ?_ ?_ ?_ ?_ ?_ ?_ <;> first | omega | decide | exact Nat.zero_le _)
    · go_simp
      refine hK.out _ _ ?_ (fun hHeld => ?_)
      · trivial
      clear hK K
      try simp only [Act.put, List.setIfInBounds_toArray, List.set_cons_zero, List.set_cons_succ]
      refine wpAnyH_ready (rs := [1]) (by kernel_rfl) (by simp) (AllReadyH.cons (o := ⟨_, _, _, _, _, _⟩) rfl (fun K hK => ?_) AllReadyH.nil)
      go_simp
      refine hK.out _ _ ?_ (fun hHeld => ?_)
      · trivial
      clear hK K
      try simp only [Act.put, List.setIfInBounds_toArray, List.set_cons_zero, List.set_cons_succ]
      refine wpAnyH_ready (rs := [5]) (by kernel_rfl) (by simp) (AllReadyH.cons (o := ⟨_, _, _, _, _, _⟩) rfl (fun K hK => ?_) AllReadyH.nil)
      refine app_step (B := xk.heap.size) (X := x7) (LI.nil _ _) (by omega) (by omega) (y := x) LY.out (by omega) (fun k hk => by cases hk) KY.out.2.2 KY.out.2.1 KY.out.1 (by show (0 : Nat) ≤ 70002; omega) rfl (.tmp 107) (.tmp 110) rfl rfl rfl ?_; intro gg cg x9 li9 gr9; have I9 := hideIt li9; have RL := hideIt (fun (k : Nat) (hk : Value.ownBlock (.slice none 0 0) = some k) => (show xk.heap.size ≤ k by cases hk)); have D9 := hideIt (RR.grown (D7.out.alloc _) gr9 (fun k hk => by have := RL.out k hk; omega)); have F9 := hideIt (Fr.grown (F7.out.alloc _) gr9 (fun k hk => by have := RL.out k hk; omega)); have BN9 := hideIt (Bx.grown (BN7.out.alloc _) gr9 (fun e => by have := RL.out _ e; omega)); have BR9 := hideIt (Bx.grown (BR7.out.alloc _) gr9 (fun e => by have := RL.out _ e; omega)); have yn9 := BN9.out.lt; have yr9 := BR9.out.lt; have Z9 : x7.heap.size ≤ x9.heap.size := (by have z := gr9.size; (try simp at z); omega); (try clear n0 n1 n2 n3 n4 n5 n6 n7 n8 n9 nf); obtain ⟨n0, n1, n2, n3, n4, n5, n6, n7, n8, n9⟩ := BN9.out.ten; have nf := BN9.out.free; clear li9 gr9
      refine hK.out _ _ ?_ (fun hHeld => ?_)
      · trivial
      clear hK K
      try simp only [Act.put, List.setIfInBounds_toArray, List.set_cons_zero, List.set_cons_succ]
      refine wpAnyH_take (i := 6) (oi := ⟨_, _, _, _, _, _⟩) (v := ?_) rfl (by kernel_rfl) (by kernel_rfl) (by kernel_rfl) (fun _ _ _ h => h) (Or.inl ⟨by rfl, ?_⟩) (by assumption) ?_
      rotate_left 1
      · intro w hSw; (try dsimp only at hSw); go_simp; all_goals with_reducible rfl
      try simp only [Act.put, List.setIfInBounds_toArray, List.set_cons_zero, List.set_cons_succ]
      refine wpAnyH_ready (rs := [7]) (by kernel_rfl) (by simp) (AllReadyH.cons (o := ⟨_, _, _, _, _, _⟩) rfl (fun K hK => ?_) AllReadyH.nil)
      go_simp
      refine hK.out _ _ ?_ (fun hHeld => ?_)
      · trivial
      clear hK K
      try simp only [Act.put, List.setIfInBounds_toArray, List.set_cons_zero, List.set_cons_succ]
      refine wpAnyH_done (by kernel_rfl) ?_ _
      go_wp2_with (first | (go_at_call_of 46 (Value.string ⟨#[59]⟩); refine Calls.mono (C10.out _ (by repeat with_reducible first | exact D9.out | apply RR.alloc | apply RR.drew | refine RR.setCell ?_ (by (try dsimp only); omega) _)) ?_; rintro e x10 ⟨rfl, f10, d10⟩; have D10 := hideIt d10; have F10 := hideIt (show Fr R w x10 from Fr.trans (by repeat with_reducible first | exact F9.out | apply Fr.alloc | apply Fr.drew | refine Fr.setNew ?_ (by (try dsimp only); omega) _) f10); have Z10 : x9.heap.size ≤ x10.heap.size := (by have z := f10.size; (try simp at z); omega); have BR10 := hideIt (Bx.fr (b := w.heap.size) (v := (nk 0)) (s := (.slice none 0 0)) (by repeat with_reducible first | exact BR9.out | apply Bx.alloc | apply Bx.drew | refine Bx.set ?_ (by (try dsimp only); omega) _) (by omega) f10); have yr10 := BR10.out.lt; have BN10 := hideIt (Bx.fr (BN9.out.at9 (.slice (some ⟨gg, 0, none⟩) (Fo.nil.len + 1) cg)) (by omega) f10); have yn10 := BN10.out.lt; have IL10 := hideIt (LI.fr (R := R) (LI.setNe' (p := ⟨x1.heap.size, 9, none⟩) I9.out (by show x1.heap.size < xk.heap.size; omega) (.slice (some ⟨gg, 0, none⟩) (Fo.nil.len + 1) cg)) (by omega) f10); (try clear n0 n1 n2 n3 n4 n5 n6 n7 n8 n9 nf r0 r1 r2 r3 r4 r5 r6 r7 r8 r9 rf); obtain ⟨n0, n1, n2, n3, n4, n5, n6, n7, n8, n9⟩ := BN10.out.ten; have nf := BN10.out.free; obtain ⟨r0, r1, r2, r3, r4, r5, r6, r7, r8, r9⟩ := BR10.out.ten; have rf := BR10.out.free; clear C10 f10 d10) | fail)
      obtain ⟨aL, cL, fL, eL, cpL, skL, lsL⟩ := (LI.done (x := (nk 14, one x)) IL10.out).out
      have EL := hideIt eL
      refine bodyPost_ret (v := nodeV (nk 14) (.slice (some ⟨gg, 0, none⟩) (Fo.nil.len + 1) cg)) (by simp [results, Tryz.results82, go_sem, *]) rfl ⟨_, rfl, ?_, (by repeat with_reducible first | exact F10.out | apply Fr.alloc | apply Fr.drew | refine Fr.setNew ?_ (by (try dsimp only); omega) _), (by repeat with_reducible first | exact D10.out | apply RR.alloc | apply RR.drew | refine RR.setCell ?_ (by (try dsimp only); omega) _)⟩
      rw [EL.out]
      exact NV.mk (x := (nk 14, one x)) (B' := xk.heap.size) (U := x10.heap.size) cpL skL (by repeat (first | with_reducible exact lsL | (with_reducible refine Ls.set ?_ ?hh _; case hh => ((try dsimp only); omega)))) (by omega) (by refine nf_ok ?_ ?_ ?_ ?_ ?_ ?_ ?_ ?_ ?_ <;> first | omega | decide | exact Nat.zero_le _)

end Go.Proofs.YtoilhcklflmamaaGreatDoor
