/-
  A call: contracts over the program; the conditions: the reader lies in memory as it should, and what is called keeps its own contract.
-/
import Derived.Test.YtoilhcklflmamaaGreatDoorKPrPa
import Derived.Test.YtoilhcklflmamaaGreatDoorKPrR
import Derived.Test.YtoilhcklflmamaaGreatDoorKPrT
import Derived.Test.YtoilhcklflmamaaGreatDoorKPrG
namespace Go.Proofs.YtoilhcklflmamaaGreatDoor
open Go.RowKit
open Pr
set_option linter.unusedVariables false

theorem name_wf {s s' : St} {nm : List UInt8} (hw : Wf s) (h : nameM s = .ok nm s') : Wf s' := by
  have := name_k (f := fun b s => .ok b s) (P := fun _ s' => Wf s') hw (fun nm s' _ h => h.wf)
  rw [h] at this
  exact this
theorem LI.lq {B : Nat} {w : World} {a' : Option Addr} {n' c' : Nat} {P G : Fo} {Pd : Nat → Prop} (h : LI B w (.slice a' n' c') P G) (hK : KAv Pd G) (hrow : ∀ i, Value.ownBlock (.slice a' n' c') = some i → Pd i) : n' = G.len ∧ sok a' G.len c' ∧ Lq Pd w a' G := by
  obtain ⟨a1, c1, e1, p2, p3, _⟩ := own_form h.own h.ki
  cases e1
  refine ⟨rfl, p2, p3, ?_⟩
  cases a' with
  | none =>
    cases G with
    | nil => trivial
    | cons => obtain ⟨b, o, e, _⟩ := p3; cases e
  | some p =>
    cases G with
    | nil => trivial
    | cons v a c k r =>
      obtain ⟨b, o, e, _⟩ := p3
      cases e
      exact av_of_kids (hrow b rfl) hK

set_option maxRecDepth 100000 in
set_option maxHeartbeats 4000000 in
theorem call_rd (R g cap : Nat) (L : List Tok) (n : Nat) (HX : ∀ m, m ≤ n → ∀ s, rd m .argument s ≠ .out → Rule 125 #[] R g cap L s (rd m .argument s)) (v : NF) (k : Fo) (hv : v.ok) (s : St) (hno : rd (n + 1) (.call v k) s ≠ .out) :
    ∀ (w : World) (B : Nat) (a : Option Addr) (c : Nat) (f : Fo), R < B → B ≤ w.heap.size → LI B w (.slice a f.len c) k f → f.len ≤ 1 → c = f.len → RD w R g cap L s → Calls Tryz.prog 121 #[rp R, nodeV v (.slice a f.len c)] w (PostG (NV B) R g cap L w (rd (n + 1) (.call v k) s)) := by
  intro w B a c f hRB hBw hI hf1 hc h
  subst hc
  have IK := hideIt hI
  have UK := hideIt (And.intro (kav_lt hI.ki) (fun i hi => (hI.lt i hi).2))
  clear hI
  have e : rd (n + 1) (.call v k) s = (nodeM s).bnd fun _ s => (nameM s).bnd fun nm s => ((needM [40] s).bnd fun _ s => (tryM [41] s).bnd fun b s => if b then Rs.ok (nk 0, .nil) s else (rd n .argument s).bnd fun x => rd n (.more .argument (one x))).bnd fun l s => (needM [59] s).bnd fun _ s => .ok ({ v with nm := bs nm }, k.app l.2) s := by simp only [rd, bnd_assoc]
  rw [e] at hno ⊢
  clear e
  have HD := hideIt h
  have hR := h.b.lt_size
  have wf0 := hideIt h.p.wf
  clear h
  obtain ⟨r, hr⟩ : ∃ r, ((nodeM s).bnd fun _ s => (nameM s).bnd fun nm s => ((needM [40] s).bnd fun _ s => (tryM [41] s).bnd fun b s => if b then Rs.ok (nk 0, .nil) s else (rd n .argument s).bnd fun x => rd n (.more .argument (one x))).bnd fun l s => (needM [59] s).bnd fun _ s => .ok ({ v with nm := bs nm }, k.app l.2) s : Rs Nd) = r := ⟨_, rfl⟩
  rw [hr] at hno ⊢
  have HR := hideIt hr
  have HN := hideIt hno
  clear hr hno
  have hmf : ∀ (fn : Fn) (first cap : Array Value) (w : World), (Instr.makeFunc fn first cap).run Tryz.prog w = .ok (.func fn first cap) w := fun _ _ _ _ => rfl
  go_enter Tryz.func121, Tryz.ntmps121
  go_wp2_with (fail)
  cases h1 : nodeM s with
  | out => rw [h1] at HR; exact absurd HR.out.symm HN.out
  | bad k p =>
   rw [h1] at HR
   have C1 := hideIt (fun X (h : RD X R g cap L s) => node_rd R g cap L s X h v a f.len f.len)
   (go_at_call 31; refine Calls.mono (badc h1 (C1.out _ (by repeat with_reducible first | exact HD.out | apply RD.alloc | apply RD.drew | refine RD.setCell ?_ (by (try dsimp only); omega) _))) ?_; rintro e x1 ⟨rfl, f1⟩; have F1 := hideIt (show Fr R w x1 from Fr.trans (by repeat with_reducible first | exact (Fr.refl R w) | apply Fr.alloc | apply Fr.drew | refine Fr.setNew ?_ (by (try dsimp only); omega) _) f1); clear f1)
   have ER : Rs.bad k p = r := HR.out
   subst ER
   exact ⟨rfl, F1.out, rfl⟩
  | ok u1 s1 =>
   rw [h1] at HR
   try simp only [bnd_ok] at HR
   have C1 := hideIt (fun X (h : RD X R g cap L s) => node_rd R g cap L s X h v a f.len f.len)
   (go_at_call 31; refine Calls.mono (okc h1 (C1.out _ (by repeat with_reducible first | exact HD.out | apply RD.alloc | apply RD.drew | refine RD.setCell ?_ (by (try dsimp only); omega) _))) ?_; rintro e x1 ⟨v1, rfl, rfl, f1, d1⟩; have D1 := hideIt d1; have F1 := hideIt (show Fr R w x1 from Fr.trans (by repeat with_reducible first | exact (Fr.refl R w) | apply Fr.alloc | apply Fr.drew | refine Fr.setNew ?_ (by (try dsimp only); omega) _) f1); have Z1 : w.heap.size + 2 ≤ x1.heap.size := (by have z := f1.size; (try simp at z); omega); have Bp_1 := hideIt (Bx.fr (b := w.heap.size) (v := v) (s := (.slice a f.len f.len)) (by repeat first | refine Bx.newAt _ v (.slice a f.len f.len) (by simp; done) | with_reducible apply Bx.alloc | with_reducible refine Bx.set ?_ (by (try dsimp only); omega) _ | with_reducible apply Bx.drew) (by omega) f1); have yp1 := Bp_1.out.lt; have Br_1 := hideIt (Bx.fr (b := w.heap.size + 1) (v := (nk 0)) (s := (.slice none 0 0)) (by repeat first | refine Bx.newAt _ (nk 0) (.slice none 0 0) (by simp; done) | with_reducible apply Bx.alloc | with_reducible refine Bx.set ?_ (by (try dsimp only); omega) _ | with_reducible apply Bx.drew) (by omega) f1); have yr1 := Br_1.out.lt; obtain ⟨p0, p1, p2, p3, p4, p5, p6, p7, p8, p9⟩ := Bp_1.out.ten; have pf := Bp_1.out.free; have ep0 := Bp_1.out.same 0 _ rfl; have ep1 := Bp_1.out.same 1 _ rfl; have ep2 := Bp_1.out.same 2 _ rfl; have ep3 := Bp_1.out.same 3 _ rfl; have ep4 := Bp_1.out.same 4 _ rfl; have ep5 := Bp_1.out.same 5 _ rfl; have ep6 := Bp_1.out.same 6 _ rfl; have ep7 := Bp_1.out.same 7 _ rfl; have ep8 := Bp_1.out.same 8 _ rfl; have ep9 := Bp_1.out.same 9 _ rfl; have Ik_1 := hideIt (LI.fr (R := R) ((IK.out.alloc (by omega) _).alloc (by omega) _) (by omega) f1); clear C1; clear f1 d1)
   go_wp2_with (fail)
   cases h2 : nameM s1 with
   | out => rw [h2] at HR; exact absurd HR.out.symm HN.out
   | bad k p =>
    rw [h2] at HR
    have C2 := hideIt (fun X (h : RD X R g cap L s1) => name_rd R g cap L s1 X h)
    (go_at_call 65; refine Calls.mono (badc h2 (C2.out _ (by repeat with_reducible first | exact D1.out | apply RD.alloc | apply RD.drew | refine RD.setCell ?_ (by (try dsimp only); omega) _))) ?_; rintro e x2 ⟨rfl, f2⟩; have F2 := hideIt (show Fr R w x2 from Fr.trans (by repeat with_reducible first | exact F1.out | apply Fr.alloc | apply Fr.drew | refine Fr.setNew ?_ (by (try dsimp only); omega) _) f2); clear f2)
    have ER : Rs.bad k p = r := HR.out
    subst ER
    exact ⟨rfl, F2.out, rfl⟩
   | ok nm s2 =>
    rw [h2] at HR
    try simp only [bnd_ok] at HR
    have C2 := hideIt (fun X (h : RD X R g cap L s1) => name_rd R g cap L s1 X h)
    (go_at_call 65; refine Calls.mono (okc h2 (C2.out _ (by repeat with_reducible first | exact D1.out | apply RD.alloc | apply RD.drew | refine RD.setCell ?_ (by (try dsimp only); omega) _))) ?_; rintro e x2 ⟨v2, rfl, rfl, f2, d2⟩; have D2 := hideIt d2; have F2 := hideIt (show Fr R w x2 from Fr.trans (by repeat with_reducible first | exact F1.out | apply Fr.alloc | apply Fr.drew | refine Fr.setNew ?_ (by (try dsimp only); omega) _) f2); have Z2 : x1.heap.size ≤ x2.heap.size := (by have z := f2.size; (try simp at z); omega); have Bp_2 := hideIt (Bx.fr (b := w.heap.size) (v := v) (s := (.slice a f.len f.len)) (by repeat first | with_reducible exact Bp_1.out | with_reducible apply Bx.alloc | with_reducible refine Bx.set ?_ (by (try dsimp only); omega) _ | with_reducible apply Bx.drew) (by omega) f2); have yp2 := Bp_2.out.lt; have Br_2 := hideIt (Bx.fr (b := w.heap.size + 1) (v := (nk 0)) (s := (.slice none 0 0)) (by repeat first | with_reducible exact Br_1.out | with_reducible apply Bx.alloc | with_reducible refine Bx.set ?_ (by (try dsimp only); omega) _ | with_reducible apply Bx.drew) (by omega) f2); have yr2 := Br_2.out.lt; clear p0 p1 p2 p3 p4 p5 p6 p7 p8 p9 pf yp1; clear ep0 ep1 ep2 ep3 ep4 ep5 ep6 ep7 ep8 ep9; obtain ⟨p0, p1, p2, p3, p4, p5, p6, p7, p8, p9⟩ := Bp_2.out.ten; have pf := Bp_2.out.free; have Ik_2 := hideIt (Ik_1.out.fr (R := R) (by omega) f2); clear Bp_1 Br_1; clear C2; clear f2 d2)
    go_wp2_with (fail)
    cases h3 : (needM [40] s2).bnd fun _ s => (tryM [41] s).bnd fun b s => if b then Rs.ok (nk 0, .nil) s else (rd n .argument s).bnd fun x => rd n (.more .argument (one x)) with
    | out => rw [h3] at HR; exact absurd HR.out.symm HN.out
    | bad k p =>
     rw [h3] at HR
     have C3 := hideIt (fun X (h : RD X R g cap L s2) => listed_rd_a R g cap L n HX s2 (by rw [h3]; exact fun e => by cases e) X h)
     refine wp_region_held_drew (S := fun _ => True) (by kernel_rfl) (trivial) (fun hHeld => ?_)
     refine wpAnyH_take (i := 0) (oi := ⟨_, _, _, _, _, _⟩) (v := ?_) rfl (by kernel_rfl) (by kernel_rfl) (by kernel_rfl) (fun _ _ _ h => h) (Or.inl ⟨by rfl, ?_⟩) (by assumption) ?_
     rotate_left 1
     · intro w hSw; (try dsimp only at hSw); go_simp; all_goals with_reducible rfl
     try simp only [Act.put, List.setIfInBounds_toArray, List.set_cons_zero, List.set_cons_succ]
     refine wpAnyH_take (i := 2) (oi := ⟨_, _, _, _, _, _⟩) (v := ?_) rfl (by kernel_rfl) (by kernel_rfl) (by kernel_rfl) (fun _ _ _ h => h) (Or.inl ⟨by rfl, ?_⟩) (by assumption) ?_
     rotate_left 1
     · intro w hSw; (try dsimp only at hSw); go_simp; all_goals with_reducible rfl
     try simp only [Act.put, List.setIfInBounds_toArray, List.set_cons_zero, List.set_cons_succ]
     refine wpAnyH_take (i := 3) (oi := ⟨_, _, _, _, _, _⟩) (v := ?_) rfl (by kernel_rfl) (by kernel_rfl) (by kernel_rfl) (fun _ _ _ h => h) (Or.inl ⟨by rfl, ?_⟩) (by assumption) ?_
     rotate_left 1
     · intro w hSw; (try dsimp only at hSw); go_simp; all_goals with_reducible rfl
     try simp only [Act.put, List.setIfInBounds_toArray, List.set_cons_zero, List.set_cons_succ]
     refine wpAnyH_take (i := 4) (oi := ⟨_, _, _, _, _, _⟩) (v := ?_) rfl (by kernel_rfl) (by kernel_rfl) (by kernel_rfl) (fun _ _ _ h => h) (Or.inl ⟨by rfl, ?_⟩) (by assumption) ?_
     rotate_left 1
     · intro w hSw; (try dsimp only at hSw); go_simp; all_goals with_reducible rfl
     try simp only [Act.put, List.setIfInBounds_toArray, List.set_cons_zero, List.set_cons_succ]
     refine wpAnyH_ready (rs := [1, 5]) (by kernel_rfl) (by simp) (AllReadyH.cons (o := ⟨_, _, _, _, _, _⟩) rfl (fun K hK => ?_) (AllReadyH.cons (o := ⟨_, _, _, _, _, _⟩) rfl (fun K hK => ?_) AllReadyH.nil))
     · go_simp
       refine hK.out _ _ ?_ (fun hHeld => ?_)
       · trivial
       clear hK K
       try simp only [Act.put, List.setIfInBounds_toArray, List.set_cons_zero, List.set_cons_succ]
       refine wpAnyH_ready (rs := [5]) (by kernel_rfl) (by simp) (AllReadyH.cons (o := ⟨_, _, _, _, _, _⟩) rfl (fun K hK => ?_) AllReadyH.nil)
       go_simp
       (go_at_call 92; refine Calls.mono (badc h3 (C3.out _ (by repeat with_reducible first | exact D2.out | apply RD.alloc | apply RD.drew | refine RD.setCell ?_ (by (try dsimp only); omega) _))) ?_; rintro e x3 ⟨rfl, f3⟩; have F3 := hideIt (show Fr R w x3 from Fr.trans (by repeat with_reducible first | exact F2.out | apply Fr.alloc | apply Fr.drew | refine Fr.setNew ?_ (by (try dsimp only); omega) _) f3); clear f3)
       have ER : Rs.bad k p = r := HR.out
       subst ER
       exact ⟨rfl, F3.out, rfl⟩
     · go_simp
       (go_at_call 92; refine Calls.mono (badc h3 (C3.out _ (by repeat with_reducible first | exact D2.out | apply RD.alloc | apply RD.drew | refine RD.setCell ?_ (by (try dsimp only); omega) _))) ?_; rintro e x3 ⟨rfl, f3⟩; have F3 := hideIt (show Fr R w x3 from Fr.trans (by repeat with_reducible first | exact F2.out | apply Fr.alloc | apply Fr.drew | refine Fr.setNew ?_ (by (try dsimp only); omega) _) f3); clear f3)
       have ER : Rs.bad k p = r := HR.out
       subst ER
       exact ⟨rfl, F3.out, rfl⟩
    | ok l s3 =>
     have LLEN := hideIt (listed_len (Or.inr rfl) (name_wf (node_wf wf0.out h1) h2) h3)
     rw [h3] at HR
     try simp only [bnd_ok] at HR
     have C3 := hideIt (fun X (h : RD X R g cap L s2) => listed_rd_a R g cap L n HX s2 (by rw [h3]; exact fun e => by cases e) X h)
     refine wp_region_held_drew (S := fun _ => True) (by kernel_rfl) (trivial) (fun hHeld => ?_)
     refine wpAnyH_take (i := 0) (oi := ⟨_, _, _, _, _, _⟩) (v := ?_) rfl (by kernel_rfl) (by kernel_rfl) (by kernel_rfl) (fun _ _ _ h => h) (Or.inl ⟨by rfl, ?_⟩) (by assumption) ?_
     rotate_left 1
     · intro w hSw; (try dsimp only at hSw); go_simp; all_goals with_reducible rfl
     try simp only [Act.put, List.setIfInBounds_toArray, List.set_cons_zero, List.set_cons_succ]
     refine wpAnyH_take (i := 2) (oi := ⟨_, _, _, _, _, _⟩) (v := ?_) rfl (by kernel_rfl) (by kernel_rfl) (by kernel_rfl) (fun _ _ _ h => h) (Or.inl ⟨by rfl, ?_⟩) (by assumption) ?_
     rotate_left 1
     · intro w hSw; (try dsimp only at hSw); go_simp; all_goals with_reducible rfl
     try simp only [Act.put, List.setIfInBounds_toArray, List.set_cons_zero, List.set_cons_succ]
     refine wpAnyH_take (i := 3) (oi := ⟨_, _, _, _, _, _⟩) (v := ?_) rfl (by kernel_rfl) (by kernel_rfl) (by kernel_rfl) (fun _ _ _ h => h) (Or.inl ⟨by rfl, ?_⟩) (by assumption) ?_
     rotate_left 1
     · intro w hSw; (try dsimp only at hSw); go_simp; all_goals with_reducible rfl
     try simp only [Act.put, List.setIfInBounds_toArray, List.set_cons_zero, List.set_cons_succ]
     refine wpAnyH_take (i := 4) (oi := ⟨_, _, _, _, _, _⟩) (v := ?_) rfl (by kernel_rfl) (by kernel_rfl) (by kernel_rfl) (fun _ _ _ h => h) (Or.inl ⟨by rfl, ?_⟩) (by assumption) ?_
     rotate_left 1
     · intro w hSw; (try dsimp only at hSw); go_simp; all_goals with_reducible rfl
     try simp only [Act.put, List.setIfInBounds_toArray, List.set_cons_zero, List.set_cons_succ]
     refine wpAnyH_ready (rs := [1, 5]) (by kernel_rfl) (by simp) (AllReadyH.cons (o := ⟨_, _, _, _, _, _⟩) rfl (fun K hK => ?_) (AllReadyH.cons (o := ⟨_, _, _, _, _, _⟩) rfl (fun K hK => ?_) AllReadyH.nil))
     · go_simp
       refine hK.out _ _ ?_ (fun hHeld => ?_)
       · trivial
       clear hK K
       try simp only [Act.put, List.setIfInBounds_toArray, List.set_cons_zero, List.set_cons_succ]
       refine wpAnyH_ready (rs := [5]) (by kernel_rfl) (by simp) (AllReadyH.cons (o := ⟨_, _, _, _, _, _⟩) rfl (fun K hK => ?_) AllReadyH.nil)
       go_simp
       (go_at_call 92; refine Calls.mono (okc h3 (C3.out _ (by repeat with_reducible first | exact D2.out | apply RD.alloc | apply RD.drew | refine RD.setCell ?_ (by (try dsimp only); omega) _))) ?_; rintro e x3 ⟨v3, rfl, ⟨⟨G3, li3⟩, hj3⟩, f3, d3⟩; have D3 := hideIt d3; have F3 := hideIt (show Fr R w x3 from Fr.trans (by repeat with_reducible first | exact F2.out | apply Fr.alloc | apply Fr.drew | refine Fr.setNew ?_ (by (try dsimp only); omega) _) f3); have Z3 : x2.heap.size ≤ x3.heap.size := (by have z := f3.size; (try simp at z); omega); have Il_3 := hideIt (LI.mono (B' := x2.heap.size) li3 (by (try simp); try omega)); clear li3; have Jl := hideIt hj3; clear hj3; have Bp_3 := hideIt (Bx.fr (b := w.heap.size) (v := { v with nm := bs nm }) (s := (.slice a f.len f.len)) (by repeat first | exact (Bx.put Bp_2.out 7 _ rfl) | with_reducible apply Bx.alloc | with_reducible refine Bx.set ?_ (by (try dsimp only); omega) _ | with_reducible apply Bx.drew) (by omega) f3); have yp3 := Bp_3.out.lt; have Br_3 := hideIt (Bx.fr (b := w.heap.size + 1) (v := (nk 0)) (s := (.slice none 0 0)) (by repeat first | with_reducible exact Br_2.out | with_reducible apply Bx.alloc | with_reducible refine Bx.set ?_ (by (try dsimp only); omega) _ | with_reducible apply Bx.drew) (by omega) f3); have yr3 := Br_3.out.lt; clear p0 p1 p2 p3 p4 p5 p6 p7 p8 p9 pf yp2; obtain ⟨p0, p1, p2, p3, p4, p5, p6, p7, p8, p9⟩ := Bp_3.out.ten; have pf := Bp_3.out.free; obtain ⟨r0, r1, r2, r3, r4, r5, r6, r7, r8, r9⟩ := Br_3.out.ten; have rf := Br_3.out.free; have Ik_3 := hideIt (LI.fr (R := R) ((Ik_2.out.setAt UK.out.1 UK.out.2 (p := ⟨w.heap.size, 7, none⟩) (Nat.le_refl _) _).fr (R := R) (by omega) (Fr.refl R _).drew) (by omega) f3); clear Bp_2 Br_2; clear C3; clear f3 d3)
       refine hK.out _ _ ?_ (fun hHeld => ?_)
       · trivial
       clear hK K
       try simp only [Act.put, List.setIfInBounds_toArray, List.set_cons_zero, List.set_cons_succ]
       refine wpAnyH_ready (rs := [6]) (by kernel_rfl) (by simp) (AllReadyH.cons (o := ⟨_, _, _, _, _, _⟩) rfl (fun K hK => ?_) AllReadyH.nil)
       refine app_full_step (B := B) (X := x3) Ik_3.out rfl (B2 := x2.heap.size) Il_3.out Jl.out (by omega) (by omega) (by omega) (by have := Il_3.out.bound; have := LLEN.out; omega) rfl (.tmp 12) (.tmp 16) rfl rfl rfl ?_; intro ga gn gc x9 li9 gr9 ro9; have LQ3 := hideIt (li9.lq (Pd := fun b => B ≤ b ∧ b ≠ w.heap.size ∧ b ≠ w.heap.size + 1) (KAv.app (KAv.mono (fun b hb => ⟨hb.1.1, (by have := hb.2; omega), (by have := hb.2; omega)⟩) ((Ik_3.out.av).and UK.out.1)) (KAv.mono (fun b hb => ⟨(by have := hb.1; omega), (by have := hb.1; omega), (by have := hb.1; omega)⟩) Il_3.out.av)) (fun i hi => (ro9 i hi).elim (fun e => ⟨(Ik_3.out.lt i e).1, (by have := UK.out.2 i e; omega), (by have := UK.out.2 i e; omega)⟩) (fun e => ⟨(by omega), (by omega), (by omega)⟩))); have D3 := hideIt (RD.grown D3.out gr9 (fun k hk => by cases hk)); have F3 := hideIt (Fr.grown F3.out gr9 (fun k hk => by cases hk)); have Z9 : x3.heap.size ≤ x9.heap.size := gr9.size; have Bp_3 := hideIt (Bx.grown Bp_3.out gr9 (fun e => by cases e)); have Br_3 := hideIt (Bx.grown Br_3.out gr9 (fun e => by cases e)); clear p0 p1 p2 p3 p4 p5 p6 p7 p8 p9 pf yp3 r0 r1 r2 r3 r4 r5 r6 r7 r8 r9 rf yr3; have yp3 := Bp_3.out.lt; have yr3 := Br_3.out.lt; obtain ⟨p0, p1, p2, p3, p4, p5, p6, p7, p8, p9⟩ := Bp_3.out.ten; have pf := Bp_3.out.free; obtain ⟨r0, r1, r2, r3, r4, r5, r6, r7, r8, r9⟩ := Br_3.out.ten; have rf := Br_3.out.free; have CP3 := hideIt li9.cp; clear li9 gr9 ro9
       refine hK.out _ _ ?_ (fun hHeld => ?_)
       · trivial
       clear hK K
       try simp only [Act.put, List.setIfInBounds_toArray, List.set_cons_zero, List.set_cons_succ]
       refine wpAnyH_take (i := 7) (oi := ⟨_, _, _, _, _, _⟩) (v := ?_) rfl (by kernel_rfl) (by kernel_rfl) (by kernel_rfl) (fun _ _ _ h => h) (Or.inl ⟨by rfl, ?_⟩) (by assumption) ?_
       rotate_left 1
       · intro w hSw; (try dsimp only at hSw); go_simp; all_goals with_reducible rfl
       try simp only [Act.put, List.setIfInBounds_toArray, List.set_cons_zero, List.set_cons_succ]
       refine wpAnyH_ready (rs := [8]) (by kernel_rfl) (by simp) (AllReadyH.cons (o := ⟨_, _, _, _, _, _⟩) rfl (fun K hK => ?_) AllReadyH.nil)
       go_simp
       refine hK.out _ _ ?_ (fun hHeld => ?_)
       · trivial
       clear hK K
       try simp only [Act.put, List.setIfInBounds_toArray, List.set_cons_zero, List.set_cons_succ]
       refine wpAnyH_done (by kernel_rfl) ?_ _
       go_wp2_with (fail)
       cases h4 : needM [59] s3 with
       | out => rw [h4] at HR; exact absurd HR.out.symm HN.out
       | bad k p =>
        rw [h4] at HR
        have C4 := hideIt (fun X (h : RD X R g cap L s3) => need_any [59] (by decide) R g cap L s3 X h)
        (go_at_call_of 91 (Value.string ⟨#[59]⟩); refine Calls.mono (badc h4 (C4.out _ (by repeat with_reducible first | exact D3.out | apply RD.alloc | apply RD.drew | refine RD.setCell ?_ (by (try dsimp only); omega) _))) ?_; rintro e x4 ⟨rfl, f4⟩; have F4 := hideIt (show Fr R w x4 from Fr.trans (by repeat with_reducible first | exact F3.out | apply Fr.alloc | apply Fr.drew | refine Fr.setNew ?_ (by (try dsimp only); omega) _) f4); clear f4)
        have ER : Rs.bad k p = r := HR.out
        subst ER
        exact ⟨rfl, F4.out, rfl⟩
       | ok u4 s4 =>
        rw [h4] at HR
        try simp only [bnd_ok] at HR
        have C4 := hideIt (fun X (h : RD X R g cap L s3) => need_any [59] (by decide) R g cap L s3 X h)
        (go_at_call_of 91 (Value.string ⟨#[59]⟩); refine Calls.mono (okc h4 (C4.out _ (by repeat with_reducible first | exact D3.out | apply RD.alloc | apply RD.drew | refine RD.setCell ?_ (by (try dsimp only); omega) _))) ?_; rintro e x4 ⟨v4, rfl, rfl, f4, d4⟩; have D4 := hideIt d4; have F4 := hideIt (show Fr R w x4 from Fr.trans (by repeat with_reducible first | exact F3.out | apply Fr.alloc | apply Fr.drew | refine Fr.setNew ?_ (by (try dsimp only); omega) _) f4); have Z4 : x9.heap.size ≤ x4.heap.size := (by have z := f4.size; (try simp at z); omega); have Bp_4 := hideIt (Bx.fr (b := w.heap.size) (v := { v with nm := bs nm }) (s := (.slice ga gn gc)) (by repeat first | exact (Bx.put Bp_3.out 9 _ rfl) | with_reducible apply Bx.alloc | with_reducible refine Bx.set ?_ (by (try dsimp only); omega) _ | with_reducible apply Bx.drew) (by omega) f4); have yp4 := Bp_4.out.lt; have Br_4 := hideIt (Bx.fr (b := w.heap.size + 1) (v := (nk 0)) (s := (.slice none 0 0)) (by repeat first | with_reducible exact Br_3.out | with_reducible apply Bx.alloc | with_reducible refine Bx.set ?_ (by (try dsimp only); omega) _ | with_reducible apply Bx.drew) (by omega) f4); have yr4 := Br_4.out.lt; clear p0 p1 p2 p3 p4 p5 p6 p7 p8 p9 pf yp3; obtain ⟨p0, p1, p2, p3, p4, p5, p6, p7, p8, p9⟩ := Bp_4.out.ten; have pf := Bp_4.out.free; clear r0 r1 r2 r3 r4 r5 r6 r7 r8 r9 rf yr3; obtain ⟨r0, r1, r2, r3, r4, r5, r6, r7, r8, r9⟩ := Br_4.out.ten; have rf := Br_4.out.free; have LQ4 := hideIt (Lq.fr (P := fun b => B ≤ b ∧ b ≠ w.heap.size ∧ b ≠ w.heap.size + 1) (a := ga) (f := f.app G3) (R := R) (by repeat (first | with_reducible exact LQ3.out.2.2 | with_reducible refine Lq.alloc ?_ _ | (with_reducible refine Lq.set ?_ ?hh _; case hh => ((try dsimp only); omega)) | with_reducible refine Lq.drew ?_)) (fun b hb => (by have := hb.1; omega)) f4); clear Bp_3 Br_3; clear C4; clear f4 d4)
        go_wp2_with (fail)
        have ER := HR.out
        subst ER
        have ob2 := name_ok h2 D1.out.p.wf
        refine bodyPost_ret (v := nodeV { v with nm := bs nm } (.slice ga gn gc)) (by simp [results, Tryz.results121, go_sem, *]) rfl ⟨(by repeat with_reducible first | exact F4.out | apply Fr.alloc | apply Fr.drew | refine Fr.setNew ?_ (by (try dsimp only); omega) _), _, rfl, ?_, (by repeat with_reducible first | exact D4.out | apply RD.alloc | apply RD.drew | refine RD.setCell ?_ (by (try dsimp only); omega) _)⟩
        refine ⟨ga, gc, f.app G3, by rw [LQ3.out.1], CP3.out, LQ3.out.2.1, ?_, ?_, ?_⟩
        · refine Lq.i (P := fun b => B ≤ b ∧ b ≠ w.heap.size ∧ b ≠ w.heap.size + 1) ?_
          exact (by repeat (first | with_reducible exact LQ4.out | with_reducible refine Lq.alloc ?_ _ | (with_reducible refine Lq.set ?_ ?hh _; case hh => ((try dsimp only); omega)) | with_reducible refine Lq.drew ?_))
        · exact LQ4.out.v.mono fun b hb => hb.1
        · exact ⟨hv.k, hv.op, hv.tk, hv.ti, hv.tn, hv.n, hv.m, by show (bs nm).size ≤ _; rw [bs_size]; exact Nat.le_trans ob2 (by decide), hv.fd⟩
     · go_simp
       (go_at_call 92; refine Calls.mono (okc h3 (C3.out _ (by repeat with_reducible first | exact D2.out | apply RD.alloc | apply RD.drew | refine RD.setCell ?_ (by (try dsimp only); omega) _))) ?_; rintro e x3 ⟨v3, rfl, ⟨⟨G3, li3⟩, hj3⟩, f3, d3⟩; have D3 := hideIt d3; have F3 := hideIt (show Fr R w x3 from Fr.trans (by repeat with_reducible first | exact F2.out | apply Fr.alloc | apply Fr.drew | refine Fr.setNew ?_ (by (try dsimp only); omega) _) f3); have Z3 : x2.heap.size ≤ x3.heap.size := (by have z := f3.size; (try simp at z); omega); have Il_3 := hideIt (LI.mono (B' := x2.heap.size) li3 (by (try simp); try omega)); clear li3; have Jl := hideIt hj3; clear hj3; have Bp_3 := hideIt (Bx.fr (b := w.heap.size) (v := { v with nm := bs nm }) (s := (.slice a f.len f.len)) (by repeat first | exact (Bx.put Bp_2.out 7 _ rfl) | with_reducible apply Bx.alloc | with_reducible refine Bx.set ?_ (by (try dsimp only); omega) _ | with_reducible apply Bx.drew) (by omega) f3); have yp3 := Bp_3.out.lt; have Br_3 := hideIt (Bx.fr (b := w.heap.size + 1) (v := (nk 0)) (s := (.slice none 0 0)) (by repeat first | with_reducible exact Br_2.out | with_reducible apply Bx.alloc | with_reducible refine Bx.set ?_ (by (try dsimp only); omega) _ | with_reducible apply Bx.drew) (by omega) f3); have yr3 := Br_3.out.lt; clear p0 p1 p2 p3 p4 p5 p6 p7 p8 p9 pf yp2; obtain ⟨p0, p1, p2, p3, p4, p5, p6, p7, p8, p9⟩ := Bp_3.out.ten; have pf := Bp_3.out.free; obtain ⟨r0, r1, r2, r3, r4, r5, r6, r7, r8, r9⟩ := Br_3.out.ten; have rf := Br_3.out.free; have Ik_3 := hideIt (LI.fr (R := R) ((Ik_2.out.setAt UK.out.1 UK.out.2 (p := ⟨w.heap.size, 7, none⟩) (Nat.le_refl _) _).fr (R := R) (by omega) (Fr.refl R _).drew) (by omega) f3); clear Bp_2 Br_2; clear C3; clear f3 d3)
       refine hK.out _ _ ?_ (fun hHeld => ?_)
       · trivial
       clear hK K
       try simp only [Act.put, List.setIfInBounds_toArray, List.set_cons_zero, List.set_cons_succ]
       refine wpAnyH_ready (rs := [1]) (by kernel_rfl) (by simp) (AllReadyH.cons (o := ⟨_, _, _, _, _, _⟩) rfl (fun K hK => ?_) AllReadyH.nil)
       go_simp
       refine hK.out _ _ ?_ (fun hHeld => ?_)
       · trivial
       clear hK K
       try simp only [Act.put, List.setIfInBounds_toArray, List.set_cons_zero, List.set_cons_succ]
       refine wpAnyH_ready (rs := [6]) (by kernel_rfl) (by simp) (AllReadyH.cons (o := ⟨_, _, _, _, _, _⟩) rfl (fun K hK => ?_) AllReadyH.nil)
       refine app_full_step (B := B) (X := x3) Ik_3.out rfl (B2 := x2.heap.size) Il_3.out Jl.out (by omega) (by omega) (by omega) (by have := Il_3.out.bound; have := LLEN.out; omega) rfl (.tmp 12) (.tmp 16) rfl rfl rfl ?_; intro ga gn gc x9 li9 gr9 ro9; have LQ3 := hideIt (li9.lq (Pd := fun b => B ≤ b ∧ b ≠ w.heap.size ∧ b ≠ w.heap.size + 1) (KAv.app (KAv.mono (fun b hb => ⟨hb.1.1, (by have := hb.2; omega), (by have := hb.2; omega)⟩) ((Ik_3.out.av).and UK.out.1)) (KAv.mono (fun b hb => ⟨(by have := hb.1; omega), (by have := hb.1; omega), (by have := hb.1; omega)⟩) Il_3.out.av)) (fun i hi => (ro9 i hi).elim (fun e => ⟨(Ik_3.out.lt i e).1, (by have := UK.out.2 i e; omega), (by have := UK.out.2 i e; omega)⟩) (fun e => ⟨(by omega), (by omega), (by omega)⟩))); have D3 := hideIt (RD.grown D3.out gr9 (fun k hk => by cases hk)); have F3 := hideIt (Fr.grown F3.out gr9 (fun k hk => by cases hk)); have Z9 : x3.heap.size ≤ x9.heap.size := gr9.size; have Bp_3 := hideIt (Bx.grown Bp_3.out gr9 (fun e => by cases e)); have Br_3 := hideIt (Bx.grown Br_3.out gr9 (fun e => by cases e)); clear p0 p1 p2 p3 p4 p5 p6 p7 p8 p9 pf yp3 r0 r1 r2 r3 r4 r5 r6 r7 r8 r9 rf yr3; have yp3 := Bp_3.out.lt; have yr3 := Br_3.out.lt; obtain ⟨p0, p1, p2, p3, p4, p5, p6, p7, p8, p9⟩ := Bp_3.out.ten; have pf := Bp_3.out.free; obtain ⟨r0, r1, r2, r3, r4, r5, r6, r7, r8, r9⟩ := Br_3.out.ten; have rf := Br_3.out.free; have CP3 := hideIt li9.cp; clear li9 gr9 ro9
       refine hK.out _ _ ?_ (fun hHeld => ?_)
       · trivial
       clear hK K
       try simp only [Act.put, List.setIfInBounds_toArray, List.set_cons_zero, List.set_cons_succ]
       refine wpAnyH_take (i := 7) (oi := ⟨_, _, _, _, _, _⟩) (v := ?_) rfl (by kernel_rfl) (by kernel_rfl) (by kernel_rfl) (fun _ _ _ h => h) (Or.inl ⟨by rfl, ?_⟩) (by assumption) ?_
       rotate_left 1
       · intro w hSw; (try dsimp only at hSw); go_simp; all_goals with_reducible rfl
       try simp only [Act.put, List.setIfInBounds_toArray, List.set_cons_zero, List.set_cons_succ]
       refine wpAnyH_ready (rs := [8]) (by kernel_rfl) (by simp) (AllReadyH.cons (o := ⟨_, _, _, _, _, _⟩) rfl (fun K hK => ?_) AllReadyH.nil)
       go_simp
       refine hK.out _ _ ?_ (fun hHeld => ?_)
       · trivial
       clear hK K
       try simp only [Act.put, List.setIfInBounds_toArray, List.set_cons_zero, List.set_cons_succ]
       refine wpAnyH_done (by kernel_rfl) ?_ _
       go_wp2_with (fail)
       cases h4 : needM [59] s3 with
       | out => rw [h4] at HR; exact absurd HR.out.symm HN.out
       | bad k p =>
        rw [h4] at HR
        have C4 := hideIt (fun X (h : RD X R g cap L s3) => need_any [59] (by decide) R g cap L s3 X h)
        (go_at_call_of 91 (Value.string ⟨#[59]⟩); refine Calls.mono (badc h4 (C4.out _ (by repeat with_reducible first | exact D3.out | apply RD.alloc | apply RD.drew | refine RD.setCell ?_ (by (try dsimp only); omega) _))) ?_; rintro e x4 ⟨rfl, f4⟩; have F4 := hideIt (show Fr R w x4 from Fr.trans (by repeat with_reducible first | exact F3.out | apply Fr.alloc | apply Fr.drew | refine Fr.setNew ?_ (by (try dsimp only); omega) _) f4); clear f4)
        have ER : Rs.bad k p = r := HR.out
        subst ER
        exact ⟨rfl, F4.out, rfl⟩
       | ok u4 s4 =>
        rw [h4] at HR
        try simp only [bnd_ok] at HR
        have C4 := hideIt (fun X (h : RD X R g cap L s3) => need_any [59] (by decide) R g cap L s3 X h)
        (go_at_call_of 91 (Value.string ⟨#[59]⟩); refine Calls.mono (okc h4 (C4.out _ (by repeat with_reducible first | exact D3.out | apply RD.alloc | apply RD.drew | refine RD.setCell ?_ (by (try dsimp only); omega) _))) ?_; rintro e x4 ⟨v4, rfl, rfl, f4, d4⟩; have D4 := hideIt d4; have F4 := hideIt (show Fr R w x4 from Fr.trans (by repeat with_reducible first | exact F3.out | apply Fr.alloc | apply Fr.drew | refine Fr.setNew ?_ (by (try dsimp only); omega) _) f4); have Z4 : x9.heap.size ≤ x4.heap.size := (by have z := f4.size; (try simp at z); omega); have Bp_4 := hideIt (Bx.fr (b := w.heap.size) (v := { v with nm := bs nm }) (s := (.slice ga gn gc)) (by repeat first | exact (Bx.put Bp_3.out 9 _ rfl) | with_reducible apply Bx.alloc | with_reducible refine Bx.set ?_ (by (try dsimp only); omega) _ | with_reducible apply Bx.drew) (by omega) f4); have yp4 := Bp_4.out.lt; have Br_4 := hideIt (Bx.fr (b := w.heap.size + 1) (v := (nk 0)) (s := (.slice none 0 0)) (by repeat first | with_reducible exact Br_3.out | with_reducible apply Bx.alloc | with_reducible refine Bx.set ?_ (by (try dsimp only); omega) _ | with_reducible apply Bx.drew) (by omega) f4); have yr4 := Br_4.out.lt; clear p0 p1 p2 p3 p4 p5 p6 p7 p8 p9 pf yp3; obtain ⟨p0, p1, p2, p3, p4, p5, p6, p7, p8, p9⟩ := Bp_4.out.ten; have pf := Bp_4.out.free; clear r0 r1 r2 r3 r4 r5 r6 r7 r8 r9 rf yr3; obtain ⟨r0, r1, r2, r3, r4, r5, r6, r7, r8, r9⟩ := Br_4.out.ten; have rf := Br_4.out.free; have LQ4 := hideIt (Lq.fr (P := fun b => B ≤ b ∧ b ≠ w.heap.size ∧ b ≠ w.heap.size + 1) (a := ga) (f := f.app G3) (R := R) (by repeat (first | with_reducible exact LQ3.out.2.2 | with_reducible refine Lq.alloc ?_ _ | (with_reducible refine Lq.set ?_ ?hh _; case hh => ((try dsimp only); omega)) | with_reducible refine Lq.drew ?_)) (fun b hb => (by have := hb.1; omega)) f4); clear Bp_3 Br_3; clear C4; clear f4 d4)
        go_wp2_with (fail)
        have ER := HR.out
        subst ER
        have ob2 := name_ok h2 D1.out.p.wf
        refine bodyPost_ret (v := nodeV { v with nm := bs nm } (.slice ga gn gc)) (by simp [results, Tryz.results121, go_sem, *]) rfl ⟨(by repeat with_reducible first | exact F4.out | apply Fr.alloc | apply Fr.drew | refine Fr.setNew ?_ (by (try dsimp only); omega) _), _, rfl, ?_, (by repeat with_reducible first | exact D4.out | apply RD.alloc | apply RD.drew | refine RD.setCell ?_ (by (try dsimp only); omega) _)⟩
        refine ⟨ga, gc, f.app G3, by rw [LQ3.out.1], CP3.out, LQ3.out.2.1, ?_, ?_, ?_⟩
        · refine Lq.i (P := fun b => B ≤ b ∧ b ≠ w.heap.size ∧ b ≠ w.heap.size + 1) ?_
          exact (by repeat (first | with_reducible exact LQ4.out | with_reducible refine Lq.alloc ?_ _ | (with_reducible refine Lq.set ?_ ?hh _; case hh => ((try dsimp only); omega)) | with_reducible refine Lq.drew ?_))
        · exact LQ4.out.v.mono fun b hb => hb.1
        · exact ⟨hv.k, hv.op, hv.tk, hv.ti, hv.tn, hv.n, hv.m, by show (bs nm).size ≤ _; rw [bs_size]; exact Nat.le_trans ob2 (by decide), hv.fd⟩

end Go.Proofs.YtoilhcklflmamaaGreatDoor
