/-
 Classes that become one, again and again: plain facts, no program in sight; no conditions but those that each fact bears.
 All parts that stand for others go on at such ones (passBy of flow): a contract over the program; the conditions: the parts lie in a row of their own, their ways lead to parts, there are a thousand at most.
-/
import Derived.Test.YtphknepblchkdaaKFlC
import Derived.Test.YtphknepblchkdaaKFlG
import Derived.Test.YtphknepblchkdaaKFlH
import Derived.Deep.LoopGhost
namespace Go.Proofs.Ytphknepblchkdaa.Fl
open Go.RowKit
set_option linter.unusedVariables false

theorem flat_set : ∀ (l : List (List Nat)) (i : Nat) (x y : List Nat), l[i]? = some y → (l.set i x).flatten.length + y.length = l.flatten.length + x.length
 | [], i, x, y, h => by simp at h
 | a :: l, 0, x, y, h => by simp at h; subst h; simp; omega
 | a :: l, i + 1, x, y, h => by
  have := flat_set l i x y (by simpa using h)
  simp only [List.set_cons_succ, List.flatten_cons, List.length_append]
  omega
theorem flat_get {l : List (List Nat)} {i : Nat} (h : i < l.length) : ∃ y, l[i]? = some y := ⟨l[i], List.getElem?_eq_getElem h⟩
theorem filter_lt {l : List Nat} {p q : Nat → Bool} {a : Nat} (ha : a ∈ l) (hp : p a = true) (hq : q a = false) (h : ∀ x, q x = true → p x = true) : (l.filter q).length + 1 ≤ (l.filter p).length := by
 have le : ∀ m : List Nat, (m.filter q).length ≤ (m.filter p).length := fun m => by
  induction m with
  | nil => simp
  | cons x m ih =>
   cases hx : q x with
   | true => rw [List.filter_cons_of_pos hx, List.filter_cons_of_pos (h x hx)]; simp; exact ih
   | false =>
    rw [List.filter_cons_of_neg (by simp [hx])]
    cases hx2 : p x with
    | true => rw [List.filter_cons_of_pos hx2]; simp; omega
    | false => rw [List.filter_cons_of_neg (by simp [hx2])]; exact ih
 induction l with
 | nil => cases ha
 | cons x l ih =>
  rcases List.mem_cons.1 ha with rfl | ha
  ·rw [List.filter_cons_of_pos hp, List.filter_cons_of_neg (by simp [hq])]
   have := le l
   simp; omega
  ·have := ih ha
   cases hx : q x with
   | true => rw [List.filter_cons_of_pos hx, List.filter_cons_of_pos (h x hx)]; simp; omega
   | false =>
    rw [List.filter_cons_of_neg (by simp [hx])]
    cases hx2 : p x with
    | true => rw [List.filter_cons_of_pos hx2]; simp; omega
    | false => rw [List.filter_cons_of_neg (by simp [hx2])]; exact this
/-- A part that may be looked at. -/
def Lk (L : List PP) (n : Nat) : Prop := ∃ p, L[n]? = some p ∧ p.e = false ∧ p.ins.length = 0
structure Gd (L : List PP) (N : Nat) (s : Cs) : Prop where
 hd : s.hd.length = N
 fr : s.fr.length = N
 rl : ∀ x, x < N → s.rt x < N
 rr : ∀ x, x < N → s.rt (s.rt x) = s.rt x
 td : ∀ n ∈ s.td, Lk L n
 fl : ∀ l ∈ s.fr, ∀ n ∈ l, Lk L n
 sz : s.fr.flatten.length ≤ 2 * N
section
variable {L : List PP} {N : Nat} {s : Cs}
theorem Gd.pop (h : Gd L N s) : Gd L N s.pop := ⟨h.hd, h.fr, h.rl, h.rr, fun n hn => h.td n (List.dropLast_subset _ hn), h.fl, h.sz⟩
theorem Gd.one (h : Gd L N s) {a b : Nat} (ha : a < N) (hb : b < N) (hne : a ≠ b) (ra : s.rt a = a) (rb : s.rt b = b) (hd : Nat) : Gd L N (s.one a b hd) ∧ (s.one a b hd).td.length ≤ s.td.length + 2 * N ∧ ((List.range N).filter fun x => (s.one a b hd).rt x = x).length + 1 ≤ ((List.range N).filter fun x => s.rt x = x).length := by
 obtain ⟨la, hla⟩ := flat_get (l := s.fr) (i := a) (by rw [h.fr]; exact ha)
 obtain ⟨lb, hlb⟩ := flat_get (l := s.fr) (i := b) (by rw [h.fr]; exact hb)
 have e1 : (s.one a b hd).fr = (s.fr.set b (lb ++ la)).set a [] := by unfold Cs.one; simp only [hla, hlb, Option.getD_some]
 have e2 : (s.one a b hd).td = s.td ++ la := by unfold Cs.one; simp only [hla, Option.getD_some]
 have e3 : ∀ x, (s.one a b hd).rt x = if s.rt x = a then b else s.rt x := fun x => rfl
 have mla : la ∈ s.fr := List.mem_of_getElem? hla
 have mlb : lb ∈ s.fr := List.mem_of_getElem? hlb
 have f1 := flat_set s.fr b (lb ++ la) lb hlb
 have f2 := flat_set (s.fr.set b (lb ++ la)) a [] la (by rw [List.getElem?_set_ne (fun q => hne q.symm)]; exact hla)
 have f3 := (List.sublist_flatten_of_mem mla).length_le
 have hsz := h.sz
 refine ⟨⟨by show (s.hd.set b hd).length = N; simp [h.hd], by rw [e1]; simp [h.fr], fun x hx => ?_, fun x hx => ?_, fun n hn => ?_, fun l hl n hn => ?_, ?_⟩, ?_, ?_⟩
 ·rw [e3]; split
  ·exact hb
  ·exact h.rl x hx
 ·rw [e3 x]
  split
  ·rw [e3, rb, if_neg (fun q => hne q.symm)]
  ·rename_i q
   rw [e3, h.rr x hx, if_neg q]
 ·rw [e2] at hn
  rcases List.mem_append.1 hn with hn | hn
  ·exact h.td n hn
  ·exact h.fl la mla n hn
 ·rw [e1] at hl
  rcases List.mem_or_eq_of_mem_set hl with hl | rfl
  ·rcases List.mem_or_eq_of_mem_set hl with hl | rfl
   ·exact h.fl l hl n hn
   ·rcases List.mem_append.1 hn with hn | hn
    ·exact h.fl lb mlb n hn
    ·exact h.fl la mla n hn
  ·cases hn
 ·rw [e1]
  rw [List.length_append] at f1
  simp only [List.length_nil] at f2
  omega
 ·rw [e2, List.length_append]; omega
 ·refine filter_lt (a := a) (List.mem_range.2 ha) (by simp [ra]) ?_ (fun x hx => ?_)
  ·rw [e3, if_pos ra]; simp; exact fun q => hne q.symm
  ·simp only [decide_eq_true_eq] at hx ⊢
   rw [e3] at hx
   split at hx
   ·rename_i q
    rw [← hx] at q
    rw [rb] at q
    exact absurd q.symm hne
   ·exact hx
theorem Gd.look (h : Gd L N s) (hL : L.length = N) (hw : WyL L) {n : Nat} (hn : Lk L n) : Gd L N (s.look L n) ∧ (s.look L n).mu ≤ s.mu := by
 obtain ⟨p, hp, he, -⟩ := hn
 have hnl : n < N := by have := (List.getElem?_eq_some_iff.1 hp).1; omega
 have hwy := hw p (List.mem_of_getElem? hp)
 have hnx := hwy.nx he
 unfold Cs.look
 rw [hp]
 dsimp only
 split
 ·rename_i q
  obtain ⟨-, q2⟩ := q
  have a1 := h.rl n hnl
  have a2 := h.rr n hnl
  have b1 : (s.ends p).1 < N := h.rl p.next.toNat (by omega)
  have b2 : s.rt (s.ends p).1 = (s.ends p).1 := h.rr p.next.toNat (by omega)
  have mulem : ∀ a b hd, a < N → b < N → a ≠ b → s.rt a = a → s.rt b = b → Gd L N (s.one a b hd) ∧ (s.one a b hd).mu ≤ s.mu := fun a b hd ha hb hne ra rb => by
   obtain ⟨g1, g2, g3⟩ := h.one ha hb hne ra rb hd
   refine ⟨g1, ?_⟩
   unfold Cs.mu
   rw [g1.hd, h.hd]
   have := Nat.mul_le_mul_right (2 * N + 1) g3
   rw [Nat.add_mul, Nat.one_mul] at this
   omega
  unfold Cs.unite
  split
  ·exact mulem _ _ _ b1 a1 q2 b2 a2
  ·exact mulem _ _ _ a1 b1 (fun e => q2 e.symm) a2 b2
 ·exact ⟨h, Nat.le_refl _⟩
theorem Gd.step (h : Gd L N s) (hL : L.length = N) (hw : WyL L) {n : Nat} (hn : s.td.getLast? = some n) : Lk L n ∧ Gd L N (s.pop.look L n) ∧ (s.pop.look L n).mu < s.mu ∧ s.loop L = (s.pop.look L n).loop L := by
 have hm : n ∈ s.td := List.mem_of_getLast? hn
 have hne : s.td ≠ [] := fun e => by rw [e] at hm; cases hm
 have hlk := h.td n hm
 obtain ⟨g1, g2⟩ := h.pop.look hL hw hlk
 have hpm : s.pop.mu < s.mu := by
  unfold Cs.mu Cs.pop
  dsimp only
  rw [List.length_dropLast]
  have := List.length_pos_iff.2 hne
  omega
 have hlt : (s.pop.look L n).mu < s.mu := by omega
 refine ⟨hlk, g1, hlt, ?_⟩
 conv => lhs; unfold Cs.loop
 rw [hn]
 dsimp only
 rw [dif_pos hlt]
theorem loop_end (L : List PP) (s : Cs) (h : s.td.getLast? = none) : s.loop L = s := by
 unfold Cs.loop
 rw [h]
theorem mu_le (h : Gd L N s) (hN : N ≤ 1000) (ht : s.td.length ≤ N) : s.mu ≤ 2100000 := by
 unfold Cs.mu
 rw [h.hd]
 have h1 : ((List.range N).filter fun x => s.rt x = x).length ≤ N := by have := List.length_filter_le (fun x => decide (s.rt x = x)) (List.range N); simpa using this
 have h2 := Nat.mul_le_mul h1 (show 2 * N + 1 ≤ 2001 by omega)
 have h3 : N * 2001 ≤ 1000 * 2001 := Nat.mul_le_mul_right _ hN
 omega
theorem td_mu (s : Cs) : s.td.length ≤ s.mu := by unfold Cs.mu; omega
end
/-- At the beginning. -/
theorem begTo_gd {L : List PP} (hw : WyL L) : ∀ k, k ≤ L.length → Gd L L.length (Cs.begTo L k) ∧ (Cs.begTo L k).rt = id ∧ (Cs.begTo L k).td.length ≤ k ∧ (Cs.begTo L k).fr.flatten.length ≤ 2 * k
 | 0, _ => ⟨⟨by simp [Cs.begTo], by simp [Cs.begTo], fun x hx => hx, fun x hx => rfl, fun n hn => (by cases hn), fun l hl n hn => (by have := (List.mem_replicate.1 hl).2; subst this; cases hn), by simp [Cs.begTo]⟩, rfl, by simp [Cs.begTo], by simp [Cs.begTo]⟩
 | k + 1, hk => by
  obtain ⟨h1, h2, h3, h4⟩ := begTo_gd hw k (by omega)
  obtain ⟨p, hp⟩ := get_of_lt (l := L) (k := k) (by omega)
  have e : Cs.begTo L (k + 1) = (Cs.begTo L k).begS k p := by
   show (match L[k]? with | some p => (Cs.begTo L k).begS k p | none => Cs.begTo L k) = _
   rw [hp]
  rw [e]
  have up : ∀ (l : List (List Nat)) (m : Nat), (∀ x ∈ l, ∀ n ∈ x, Lk L n) → Lk L k → (∀ x ∈ updL l m k, ∀ n ∈ x, Lk L n) ∧ (updL l m k).flatten.length ≤ l.flatten.length + 1 ∧ (updL l m k).length = l.length := fun l m hl hlk => by
   refine ⟨fun x hx n hn => ?_, ?_, by simp [updL]⟩
   ·rcases List.mem_or_eq_of_mem_set hx with hx | rfl
    ·exact hl x hx n hn
    ·rcases List.mem_append.1 hn with hn | hn
     ·cases hm : l[m]? with
      | none => rw [hm] at hn; cases hn
      | some y => rw [hm] at hn; exact hl y (List.mem_of_getElem? hm) n hn
     ·simp at hn; subst hn; exact hlk
   ·unfold updL
    cases hm : l[m]? with
    | none => rw [List.set_eq_of_length_le (by simpa using hm)]; omega
    | some y =>
     have := flat_set l m (y ++ [k]) y hm
     simp only [Option.getD_some]
     rw [List.length_append] at this
     simp at this ⊢
     omega
  unfold Cs.begS
  split
  ·exact ⟨⟨by simp [h1.hd], h1.fr, h1.rl, h1.rr, h1.td, h1.fl, h1.sz⟩, h2, by show (Cs.begTo L k).td.length ≤ _; omega, by show (Cs.begTo L k).fr.flatten.length ≤ _; omega⟩
  ·rename_i q
   have hlk : Lk L k := ⟨p, hp, by cases he : p.e with | false => rfl | true => exact absurd (.inl he) q, by omega⟩
   obtain ⟨u1, u2, u3⟩ := up (Cs.begTo L k).fr p.next.toNat h1.fl hlk
   obtain ⟨v1, v2, v3⟩ := up _ p.els.toNat u1 hlk
   have htd : ∀ n ∈ (Cs.begTo L k).td ++ [k], Lk L n := fun n hn => by
    rcases List.mem_append.1 hn with hn | hn
    ·exact h1.td n hn
    ·simp at hn; subst hn; exact hlk
   by_cases hb : brP p = true
   ·simp only [hb, if_true]
    exact ⟨⟨by simp [h1.hd], v3.trans (u3.trans h1.fr), h1.rl, h1.rr, htd, v1, by show (updL (updL _ _ _) _ _).flatten.length ≤ _; omega⟩, h2, by simp; exact h3, by show (updL (updL _ _ _) _ _).flatten.length ≤ _; omega⟩
   ·simp only [hb]
    exact ⟨⟨by simp [h1.hd], h1.fr, h1.rl, h1.rr, htd, h1.fl, h1.sz⟩, h2, by simp; exact h3, by show (Cs.begTo L k).fr.flatten.length ≤ _; omega⟩
end Go.Proofs.Ytphknepblchkdaa.Fl

namespace Go.Proofs.Ytphknepblchkdaa.Fl
open Go.RowKit
set_option linter.unusedVariables false

set_option maxRecDepth 100000 in
set_option maxHeartbeats 1000000 in
/-- As root_any; the header of head stays as it is. -/
theorem root_any2 (X : Fx) (hX : X.ok) (cb : Nat) (L : List PP) (s : Cs) (w : World) (h : CM X cb L s w) (n : Nat) (hn : n < X.N) : Calls Try.prog 48 #[.pointer (some ⟨cb, 0, none⟩), .int .i64 (n : Int)] w fun e w' => e = .returned (.int .i64 (s.rt n : Int)) ∧ CM X cb L s w' ∧ w'.cell? ⟨cb, 2, none⟩ = w.cell? ⟨cb, 2, none⟩ := by
 obtain ⟨up, d, R, h⟩ := h
 have hN : X.N ≤ 1000000 := hX.N
 have hUp : ∀ (up : List Nat), X.N ≤ 1000000 := fun _ => hN
 go_enter Try.func48, Try.ntmps48
 go_wp2_with (fail)
 go_loopw [1] (fun v z => ∃ (m : Nat) (up : List Nat) (R : Nat → Rw), v = .int .i64 m ∧ m < X.N ∧ s.rt m = s.rt n ∧ Hid (CMx X cb L s up d R z) ∧ Hid (z.cell? ⟨cb, 2, none⟩ = w.cell? ⟨cb, 2, none⟩)) (fun v _ => d (intOf v).toNat)
 case atStart => exact ⟨n, up, R, rfl, hn, rfl, h, rfl⟩
 case round =>
  obtain ⟨m, up, R, rfl, hm, hrt, H1, HC2⟩ := hrel
  generalize wr = z at *
  obtain ⟨U, hU, hUv, huc, huf⟩ := H1.out.ups hX
  obtain ⟨-, b1, -, -, -, -⟩ := H1.out.bx
  rw [hUv] at b1
  generalize (R 1).c = uc at *
  obtain ⟨y, hy, hyN⟩ := H1.out.up.get hm
  obtain ⟨x, hx, hxN⟩ := H1.out.up.get hyN
  have u1 := huc m y hy
  have u2 := huc y x hx
  have f1 := huf m
  have hmi : (m : Int) < (X.N : Int) := by omega
  have hyi : (y : Int) < (X.N : Int) := by omega
  have HY := hideIt hy
  have HX2 := hideIt hx
  have HU := hideIt hU
  by_cases e : y = m
  ·subst e
   have e1 : ((y : Int) != (y : Int)) = false := by simp
   have er := H1.out.up.fx y hy
   have HE := hideIt (show s.rt n = y by omega)
   clear huc huf hUv hU hy hx h hUp hrt er u2 HX2
   go_wp2_with (fail)
   go_ret
   exact ⟨by rw [HE.out]; rfl, ⟨up, d, R, H1.out⟩, HC2.out⟩
  ·have e1 : ((y : Int) != (m : Int)) = true := by simp; omega
   obtain ⟨R', hR'⟩ := H1.out.half hX hU hy hx e
   have H2 := hideIt hR'
   have hd : d x < d m := by
    have h1 := (H1.out.up.ds m y hy).resolve_left e
    rcases H1.out.up.ds y x hx with q | q
    ·rw [q]; exact h1
    ·omega
   have HD := hideIt hd
   have HRT := hideIt (show s.rt x = s.rt n by rw [H1.out.up.sm y x hx, H1.out.up.sm m y hy]; exact hrt)
   have hNE : Hid (cb ≠ U) := fun q => H1.out.sep.apart 5 1 (kD_lt (by omega)) (kD_lt (by omega)) (by omega) _ _ H1.out.cr.ba hU q
   have b1' : (z.setCell ⟨U, m, none⟩ (.int .i64 (x : Int))).cell? ⟨cb, 1, none⟩ = some (.slice (some ⟨U, 0, none⟩) X.N uc) := set_cell_ne b1 (fun q => hNE.out (by injection q with q1))
   have u1' : (z.setCell ⟨U, m, none⟩ (.int .i64 (x : Int))).cell? ⟨U, m, none⟩ = some (.int .i64 (x : Int)) := World.cell?_setCell_same _ _ _ u1
   clear huc huf hUv hU hy hx h hUp hR' hd
   go_wp2_with (fail)
   go_region
   all_goals go_wp2_with (fail)
   all_goals exact ⟨⟨x, up.set m x, R', rfl, hxN, HRT.out, hideIt (H2.out.q (Q.refl _).drew), hideIt (by show (z.setCell ⟨U, m, none⟩ (.int .i64 (x : Int))).cell? ⟨cb, 2, none⟩ = _; rw [World.cell?_setCell_other (h := fun e => hNE.out (congrArg Addr.block e).symm)]; exact HC2.out)⟩, by simpa [intOf] using HD.out⟩

section
variable {X : Fx} {cb : Nat} {L : List PP} {s : Cs} {up : List Nat} {d : Nat → Nat} {R : Nat → Rw} {w z : World}
theorem CMy.st {s' : Cs} (h : CMy X cb L s up R w) (h1 : s'.hd = s.hd) (h2 : s'.fr = s.fr) (h3 : s'.td = s.td) : CMy X cb L s' up R w := ⟨h.sep, h.cr.st h1 h2 h3, h.fs, h.pv⟩
/-- The last of todo is taken away. -/
theorem CMx.pop (h : CMx X cb L s up d R w) (hne : s.td ≠ []) : ∃ g R', (R 4).a = some ⟨g, 0, none⟩ ∧ (∀ n, s.td.getLast? = some n → w.cell? ⟨g, s.td.length - 1, none⟩ = some (.int .i64 (n : Int))) ∧ CMx X cb L s.pop up d R' (w.setCell ⟨cb, 4, none⟩ (.slice (some ⟨g, 0, none⟩) (s.td.length - 1) (R 4).c)) := by
 have k4 : kD X.N 4 := kD_lt (by omega)
 have k5 : kD X.N 5 := kD_lt (by omega)
 have hl := List.length_pos_iff.2 hne
 have ho := h.sep.own 4 k4
 obtain ⟨g, ea, -, -⟩ := at_ex ho (by rw [h.cr.t.n]; exact hl)
 have s0 := h.sep.cut k4 (m := s.td.length - 1) (by rw [h.cr.t.n]; omega) (by rw [ea]; simp)
 have e5 : upR R 4 { R 4 with n := s.td.length - 1, xs := (R 4).xs.take ((s.td.length - 1) * (R 4).sz) } 5 = R 5 := upR_other (by omega)
 have s1 := s0.set k5 (g := cb) (by rw [e5]; exact h.cr.ba) 4 (.slice (some ⟨g, 0, none⟩) (s.td.length - 1) (R 4).c)
 rw [e5] at s1
 obtain ⟨R', hR'⟩ : ∃ R', R' = upR (upR R 4 ⟨(R 4).a, s.td.length - 1, (R 4).c, (R 4).ty, (R 4).sz, (R 4).xs.take ((s.td.length - 1) * (R 4).sz)⟩) 5 ⟨(R 5).a, (R 5).n, (R 5).c, (R 5).ty, (R 5).sz, (R 5).xs.set 4 (.slice (some ⟨g, 0, none⟩) (s.td.length - 1) (R 4).c)⟩ := ⟨_, rfl⟩
 have s2 : Sep (w.setCell ⟨cb, 4, Option.none⟩ (.slice (some ⟨g, 0, none⟩) (s.td.length - 1) (R 4).c)) X.l (kD X.N) R' := by rw [hR']; exact s1
 have e0 : ∀ k, k ≠ 4 → k ≠ 5 → R' k = R k := fun k h1 h2 => by rw [hR', upR_other h2, upR_other h1]
 have e4 : R' 4 = ⟨(R 4).a, s.td.length - 1, (R 4).c, (R 4).ty, (R 4).sz, (R 4).xs.take ((s.td.length - 1) * (R 4).sz)⟩ := by rw [hR', upR_other (by omega), upR_same]
 have e5' : R' 5 = ⟨(R 5).a, (R 5).n, (R 5).c, (R 5).ty, (R 5).sz, (R 5).xs.set 4 (.slice (some ⟨g, 0, none⟩) (s.td.length - 1) (R 4).c)⟩ := by rw [hR', upR_same]
 have hcb := (at_lt (h.sep.own 5 k5) h.cr.ba).2.1
 rw [l_new (by omega)] at hcb
 clear hR' s1 s0
 refine ⟨g, R', ea, fun n hn => ?_, ⟨s2, ⟨?_, ?_, ?_, ?_, ?_, ?_, ?_, fun j l hl => ?_, h.cr.nl, h.cr.nf⟩, h.up, ?_, ?_⟩⟩
 ·rw [List.getLast?_eq_getElem?] at hn
  rw [at_cell ho ea (by rw [h.cr.t.n, h.cr.t.sz]; omega), h.cr.t.xs, NV_get hn]
 ·rw [e0 0 (by omega) (by omega)]; exact h.cr.p
 ·rw [e0 1 (by omega) (by omega)]; exact h.cr.u
 ·rw [e0 2 (by omega) (by omega)]; exact h.cr.h
 ·rw [e0 3 (by omega) (by omega)]
  exact ⟨h.cr.f.ty, h.cr.f.sz, h.cr.f.n, h.cr.f.xs.trans (map_keep fun j _ => e0 (8 + j) (by omega) (by omega)).symm⟩
 ·rw [e4]
  refine ⟨h.cr.t.ty, h.cr.t.sz, by show _ = s.td.dropLast.length; simp, ?_⟩
  show (R 4).xs.take ((s.td.length - 1) * (R 4).sz) = NV s.td.dropLast
  rw [h.cr.t.xs, h.cr.t.sz, Nat.mul_one, NV_take, List.dropLast_eq_take]
 ·rw [e5', e4, e0 0 (by omega) (by omega), e0 1 (by omega) (by omega), e0 2 (by omega) (by omega), e0 3 (by omega) (by omega)]
  refine ⟨h.cr.b.ty, h.cr.b.sz, h.cr.b.n, ?_⟩
  show (R 5).xs.set 4 _ = _
  rw [h.cr.b.xs]
  unfold Rw.v
  dsimp only
  rw [ea]
  rfl
 ·rw [e5']; exact h.cr.ba
 ·rw [e0 (8 + j) (by omega) (by omega)]; exact h.cr.fr j l hl
 ·exact h.fs.grown (row := some cb) ⟨rfl, rfl, rfl, by simp, fun k _ hk => Below.heap_setCell _ _ _ _ (fun e => hk (by rw [e]))⟩ (fun g e => by injection e with e; subst e; exact .inr hcb)
 ·rw [e0 0 (by omega) (by omega)]; exact h.pv
/-- A cell of a part is written. -/
theorem CMx.setP (h : CMx X cb L s up d R w) {k : Nat} {p p' : PP} (hp : L[k]? = some p) {j : Nat} (hj : j < 5) {v : Value} (hc : p'.cells = p.cells.set j v) : ∃ R', CMx X cb (L.set k p') s up d R' (w.setCell ⟨X.P, k * 5 + j, none⟩ v) := by
 have k0 : kD X.N 0 := kD_lt (by omega)
 have hs := h.sep.set k0 h.pa (k * 5 + j) v
 have ho := h.sep.own 0 k0
 have hg : w.grownBy (w.setCell ⟨X.P, k * 5 + j, none⟩ v) (some X.P) := ⟨rfl, rfl, rfl, by simp, fun b _ hb => Below.heap_setCell _ _ _ _ (fun e => hb (by rw [e]))⟩
 have e0 : ∀ j', j' ≠ 0 → upR R 0 { R 0 with xs := (R 0).xs.set (k * 5 + j) v } j' = R j' := fun j' hj' => upR_other hj'
 have hxs : (R 0).xs.set (k * 5 + j) v = (L.set k p').flatMap PP.cells := by
  rw [h.cr.p.xs]
  refine List.ext_getElem? fun i => ?_
  have hkl := (List.getElem?_eq_some_iff.1 hp).1
  have hl1 : (L.flatMap PP.cells).length = L.length * 5 := flat_len _ 5 PP.len _
  have hl2 : ((L.set k p').flatMap PP.cells).length = L.length * 5 := by rw [flat_len _ 5 PP.len, List.length_set]
  by_cases hi : i < L.length * 5
  ·obtain ⟨a, b, e, hb⟩ : ∃ a b, i = a * 5 + b ∧ b < 5 := ⟨i / 5, i % 5, by omega, Nat.mod_lt _ (by omega)⟩
   subst e
   have ha : a < L.length := by omega
   obtain ⟨q, hq⟩ := get_of_lt ha
   rw [List.getElem?_set]
   by_cases ea : a = k
   ·subst ea
    rw [hp] at hq
    injection hq with hq
    subst hq
    rw [flat_at PP.cells 5 PP.len (L.set a p') a p' b (by rw [List.getElem?_set_self hkl]) hb, hc, List.getElem?_set]
    by_cases eb : j = b
    ·subst eb
     rw [if_pos rfl, if_pos rfl, if_pos (by rw [hl1]; exact hi), if_pos (by rw [PP.len]; exact hb)]
    ·rw [if_neg (by omega), if_neg eb, flat_at PP.cells 5 PP.len L a p b hp hb]
   ·rw [if_neg (by omega), flat_at PP.cells 5 PP.len L a q b hq hb, flat_at PP.cells 5 PP.len (L.set k p') a q b (by rw [List.getElem?_set_ne (fun q => ea q.symm)]; exact hq) hb]
  ·rw [List.getElem?_eq_none (by rw [List.length_set, hl1]; omega), List.getElem?_eq_none (by rw [hl2]; omega)]
 refine ⟨_, hs, ⟨?_, ?_, ?_, ?_, ?_, ?_, ?_, fun j l hl => ?_, by simp [h.cr.nl], h.cr.nf⟩, h.up, h.fs.grown hg (fun g e => by injection e with e; exact .inl e.symm), ?_⟩
 ·rw [upR_same]; exact ⟨h.cr.p.ty, h.cr.p.sz, h.cr.p.n, hxs⟩
 ·rw [e0 1 (by omega)]; exact h.cr.u
 ·rw [e0 2 (by omega)]; exact h.cr.h
 ·rw [e0 3 (by omega)]
  exact ⟨h.cr.f.ty, h.cr.f.sz, h.cr.f.n, h.cr.f.xs.trans (map_keep fun j _ => e0 (8 + j) (by omega)).symm⟩
 ·rw [e0 4 (by omega)]; exact h.cr.t
 ·rw [e0 5 (by omega), e0 1 (by omega), e0 2 (by omega), e0 3 (by omega), e0 4 (by omega), upR_same]; exact h.cr.b
 ·rw [e0 5 (by omega)]; exact h.cr.ba
 ·rw [e0 (8 + j) (by omega)]; exact h.cr.fr j l hl
 ·rw [upR_same]; exact h.pv
theorem CM.setP (h : CM X cb L s w) {k : Nat} {p p' : PP} (hp : L[k]? = some p) {j : Nat} (hj : j < 5) {v : Value} (hc : p'.cells = p.cells.set j v) : CM X cb (L.set k p') s (w.setCell ⟨X.P, k * 5 + j, none⟩ v) := by
 obtain ⟨up, d, R, h⟩ := h
 obtain ⟨R', h'⟩ := h.setP hp hj hc
 exact ⟨up, d, R', h'⟩
end
/-- The first k parts are done. -/
def upTo (f : PP → PP) (L : List PP) (k : Nat) : List PP := (L.take k).map f ++ L.drop k
theorem upTo_get {f : PP → PP} {L : List PP} {k : Nat} {p : PP} (hp : L[k]? = some p) : (upTo f L k)[k]? = some p := by
 have hk := (List.getElem?_eq_some_iff.1 hp).1
 unfold upTo
 rw [List.getElem?_append_right (by simp; omega)]
 simp only [List.length_map, List.length_take]
 rw [List.getElem?_drop, show min k L.length = k by omega, show k + (k - k) = k by omega]
 exact hp
theorem upTo_succ {f : PP → PP} {L : List PP} {k : Nat} {p : PP} (hp : L[k]? = some p) : upTo f L (k + 1) = (upTo f L k).set k (f p) := by
 have hk := (List.getElem?_eq_some_iff.1 hp).1
 unfold upTo
 rw [List.set_append_right _ _ (by simp; omega), List.take_add_one, hp]
 have e : L.drop k = p :: L.drop (k + 1) := by
  rw [List.drop_eq_getElem_cons hk]
  congr 1
  have := (List.getElem?_eq_some_iff.1 hp).2
  exact this
 rw [e]
 simp only [Option.toList_some, List.map_append, List.map_cons, List.map_nil, List.length_map, List.length_take, show min k L.length = k by omega, Nat.sub_self, List.set_cons_zero, List.append_assoc, List.cons_append, List.nil_append]
theorem upTo_all (f : PP → PP) (L : List PP) : upTo f L L.length = L.map f := by unfold upTo; simp
theorem upTo_zero (f : PP → PP) (L : List PP) : upTo f L 0 = L := by unfold upTo; simp

set_option maxRecDepth 100000 in
set_option maxHeartbeats 4000000 in
theorem passBy_any (X : Fx) (hX : X.ok) (L : List PP) (hL : L.length = X.N) (hw : WyL L) (hN : X.N ≤ 1000) (h0 : X.w0.ownsRow X.lo 47 5 (.slice (some ⟨X.P, 0, none⟩) X.N X.pc) X.N (L.flatMap PP.cells)) :
  Calls Try.prog 23 #[.slice (some ⟨X.P, 0, none⟩) X.N X.pc] X.w0 fun e w' => e = .returned (.int .i64 (fstL L : Int)) ∧ w'.ownsRow X.lo 47 5 (.slice (some ⟨X.P, 0, none⟩) X.N X.pc) X.N ((pasL L).flatMap PP.cells) ∧ Fs (fun b => b = X.P) X.w0 w' := by
 have CN := hideIt (newClasses_any X hX L hL hw h0)
 have CL : Hid (∀ (cb : Nat) (s : Cs) (y : World), CM X cb L s y → Gd L X.N s → s.mu ≤ 2200000 → ∀ n, Lk L n → Calls Try.prog 46 #[.pointer (some ⟨cb, 0, none⟩), .int .i64 (n : Int)] y fun e w' => e = .returned (.tuple #[]) ∧ CM X cb L (s.look L n) w') := fun cb s y hy g hm n hn => by
  obtain ⟨p, hp, he, -⟩ := hn
  have hwy := hw p (List.mem_of_getElem? hp)
  rw [hL] at hwy
  exact look_any X hX cb L s y hy n p hp hwy he (by have := td_mu s; have := g.sz; omega) g.hd hL
 have G0 : Hid (Gd L X.N (Cs.begTo L X.N) ∧ (Cs.begTo L X.N).loop L = endC L ∧ (Cs.begTo L X.N).mu ≤ 2100000) := by
  have := begTo_gd hw X.N (by omega)
  rw [hL] at this
  exact ⟨this.1, by unfold endC; rw [hL], mu_le this.1 hN this.2.2.1⟩
 have HW := hideIt hw
 have HL := hideIt hL
 have hNN : X.N ≤ 1000 := hN
 clear h0 hN
 go_enter Try.func23, Try.ntmps23
 go_wp2_with (first | (go_at_call 45; refine CN.out.mono ?_; rintro e z0 ⟨cb, rfl, hm⟩; have M0 := hideIt hm; clear hm) | fail)
 go_loopg [4] 2100001 (fun kx v z => ∃ s, Hid (CM X cb L s z ∧ Gd L X.N s ∧ s.loop L = endC L) ∧ s.mu < kx ∧ kx ≤ 2100001)
 case atStart => exact ⟨_, ⟨M0.out, G0.out.1, G0.out.2.1⟩, by have := G0.out.2.2; omega, by omega⟩
 case round =>
  obtain ⟨s, H1, hmu, hkx⟩ := hrel
  generalize wr = z at *
  clear M0 G0 CN
  obtain ⟨up, d, R, hx⟩ := H1.out.1
  have HX := hideIt hx
  have hbx := hx.bx
  cases htd : s.td.getLast? with
  | none =>
   have htl : s.td = [] := List.getLast?_eq_none_iff.1 htd
   have hE : s = endC L := (loop_end L s htd).symm.trans H1.out.2.2
   have b4 : z.cell? ⟨cb, 4, none⟩ = some (.slice (R 4).a 0 (R 4).c) := by
    have := hbx.2.2.2.2.1
    unfold Rw.v at this
    rw [hx.cr.t.n, htl] at this
    exact this
   have ME : Hid (CM X cb L (endC L) z) := by rw [← hE]; exact H1.out.1
   have GE : Hid (Gd L X.N (endC L)) := by rw [← hE]; exact H1.out.2.1
   have HF : Hid (endC L = endC L) := rfl
   generalize hsE : endC L = sE at *
   have HSE := hideIt hsE
   clear hbx hx HX hE htl htd H1 hmu hkx CL HF hsE
   go_wp2_with (fail)
   clear b4
   go_loopw [5, 6, 7, 8, 48] (fun v5 v6 v7 v8 v z => ∃ k : Nat, v = .int .i64 k ∧ k ≤ X.N ∧ Hid (CM X cb (upTo (pasP sE) L k) sE z)) (fun v5 v6 v7 v8 v _ => X.N - (intOf v).toNat)
   case atStart => exact ⟨0, rfl, by omega, by rw [upTo_zero]; exact ME⟩
   case round =>
    obtain ⟨k, rfl, hk, M1⟩ := hrel
    generalize wr = z1 at *
    clear ME
    by_cases hlt : k < X.N
    ·obtain ⟨p, hp⟩ := get_of_lt (l := L) (k := k) (by rw [HL.out]; exact hlt)
     have hpk := upTo_get (f := pasP sE) hp
     have HT := hideIt (upTo_succ (f := pasP sE) hp)
     have hwy : Wy X.N p := by have := HW.out p (List.mem_of_getElem? hp); rwa [HL.out] at this
     obtain ⟨Lk', hLk⟩ : ∃ Lk', upTo (pasP sE) L k = Lk' := ⟨_, rfl⟩
     rw [hLk] at hpk HT M1
     have hki : (k : Int) < (X.N : Int) := by omega
     have PC : Hid (∀ y, CM X cb Lk' sE y → At y X.P (k * 5) p.cells ∧ ∀ j, y.frozen? ⟨X.P, j, none⟩ = false) := fun y hy => by
      obtain ⟨up, d, R, hy⟩ := hy
      exact hy.y.part hpk
     obtain ⟨c0, c1, c2, c3, c4⟩ := (PC.out _ M1.out).1.five
     clear hLk
     cases he : p.e with
     | true =>
      rw [he] at c1
      have e9 : pasP sE p = p := by unfold pasP; rw [if_pos he]
      have E9 : Hid (Lk'.set k (pasP sE p) = Lk') := by
       show _ = _
       rw [e9]
       refine List.ext_getElem? fun j => ?_
       rw [List.getElem?_set]
       split
       ·rename_i e; subst e; rw [if_pos (List.getElem?_eq_some_iff.1 hpk).1, hpk]
       ·rfl
      clear e9 he hwy hp hpk
      go_wp2_with (fail)
      go_roundw
      case rel => exact ⟨k + 1, by go_num, by omega, by show CM X cb _ sE _; rw [HT.out, E9.out]; exact M1.out⟩
      case measure => simp [intOf]; omega
     | false =>
      rw [he] at c1
      have CE : Hid (Calls Try.prog 47 #[.pointer (some ⟨cb, 0, none⟩), .pointer (some ⟨X.P, k * 5, none⟩)] z1 fun e w' => e = .returned (.tuple #[.int .i64 ((sE.ends p).1 : Int), .int .i64 ((sE.ends p).2 : Int)]) ∧ CM X cb Lk' sE w') := ends_any X hX cb Lk' sE z1 M1.out k p hpk hwy he
      have hx1 : (sE.ends p).1 < X.N := GE.out.rl _ (by have := hwy.nx he; omega)
      have hx2 : (sE.ends p).2 < X.N := by
       unfold Cs.ends
       dsimp only
       split
       ·exact GE.out.rl _ (by have := hwy.nx he; omega)
       ·exact GE.out.rl _ (by have := hwy.el he (by omega); omega)
      have HPP : Hid (pasP sE p = if (sE.ends p).1 = (sE.ends p).2 then goP p ((sE.hd[(sE.ends p).1]?).getD 0) else { p with next := (sE.hd[(sE.ends p).1]?).getD 0, els := (sE.hd[(sE.ends p).2]?).getD 0 }) := by show pasP sE p = _; unfold pasP; rw [if_neg (by simp [he])]
      generalize (sE.ends p).1 = x1 at *
      generalize (sE.ends p).2 = x2 at *
      obtain ⟨h1, hh1⟩ := get_of_lt (l := sE.hd) (k := x1) (by rw [GE.out.hd]; exact hx1)
      obtain ⟨h2, hh2⟩ := get_of_lt (l := sE.hd) (k := x2) (by rw [GE.out.hd]; exact hx2)
      rw [hh1, hh2, Option.getD_some, Option.getD_some] at HPP
      have PB : Hid (∀ y, CM X cb Lk' sE y → ∃ Hd hc, y.cell? ⟨cb, 2, none⟩ = some (.slice (some ⟨Hd, 0, none⟩) X.N hc) ∧ y.cell? ⟨Hd, x1, none⟩ = some (.int .i64 (h1 : Int)) ∧ y.cell? ⟨Hd, x2, none⟩ = some (.int .i64 (h2 : Int))) := fun y hy => by
       obtain ⟨up, d, R, hy⟩ := hy
       obtain ⟨g, e1, e2, e3, -⟩ := hy.nums (kD_lt (k := 2) (by omega)) hy.cr.h hX.pos GE.out.hd
       obtain ⟨-, -, q2, -⟩ := hy.bx
       rw [e2] at q2
       exact ⟨g, (R 2).c, q2, e3 x1 h1 hh1, e3 x2 h2 hh2⟩
      have SP : Hid (∀ y, CM X cb Lk' sE y → CM X cb (Lk'.set k { p with next := (h1 : Int), els := (h2 : Int) }) sE ((y.setCell ⟨X.P, k * 5 + 3, none⟩ (.int .i64 (h1 : Int))).setCell ⟨X.P, k * 5 + 4, none⟩ (.int .i64 (h2 : Int)))) := fun y hy => by
       have a1 := hy.setP (p' := { p with next := (h1 : Int) }) hpk (j := 3) (by omega) (v := .int .i64 (h1 : Int)) rfl
       have a2 := a1.setP (k := k) (p := { p with next := (h1 : Int) }) (p' := { p with next := (h1 : Int), els := (h2 : Int) }) (List.getElem?_set_self (List.getElem?_eq_some_iff.1 hpk).1) (j := 4) (by omega) (v := .int .i64 (h2 : Int)) rfl
       rwa [List.set_set] at a2
      have GP : Hid (∀ W, CM X cb (Lk'.set k { p with next := (h1 : Int), els := (h2 : Int) }) sE W → W.cell? ⟨X.P, k * 5 + 3, none⟩ = some (.int .i64 (h1 : Int)) ∧ Calls Try.prog 43 #[.pointer (some ⟨X.P, k * 5, none⟩), .int .i64 (h1 : Int)] W fun e w' => e = .returned (.tuple #[]) ∧ CM X cb (Lk'.set k (goP p h1)) sE w') := fun W hW => by
       have hk2 : (Lk'.set k { p with next := (h1 : Int), els := (h2 : Int) })[k]? = some { p with next := (h1 : Int), els := (h2 : Int) } := List.getElem?_set_self (List.getElem?_eq_some_iff.1 hpk).1
       have hat : At W X.P (k * 5) (PP.cells { p with next := (h1 : Int), els := (h2 : Int) }) ∧ ∀ j, W.frozen? ⟨X.P, j, none⟩ = false := by
        obtain ⟨up, d, R, hW'⟩ := hW
        exact hW'.y.part hk2
       refine ⟨hat.1.five.2.2.2.1, (goOn_any W X.P (k * 5) _ hat.1 hat.2 (h1 : Int)).mono ?_⟩
       rintro e w' ⟨rfl, rfl⟩
       have hkl := (List.getElem?_eq_some_iff.1 hpk).1
       have a1 := hW.setP hk2 (p' := { p with cond := -1, next := (h1 : Int), els := (h2 : Int) }) (j := 2) (by omega) (v := .int .i64 (-1)) rfl
       rw [List.set_set] at a1
       have a2 := a1.setP (k := k) (List.getElem?_set_self hkl) (p' := { p with cond := -1, next := (h1 : Int), els := (h2 : Int) }) (j := 3) (by omega) (v := .int .i64 (h1 : Int)) rfl
       rw [List.set_set] at a2
       have a3 := a2.setP (k := k) (List.getElem?_set_self hkl) (p' := goP p h1) (j := 4) (by omega) (v := .int .i64 0) rfl
       rw [List.set_set] at a3
       exact ⟨rfl, a3⟩
      have PC2 : Hid (∀ y, CM X cb Lk' sE y → (∃ v, y.cell? ⟨X.P, k * 5 + 3, none⟩ = some (.int .i64 v)) ∧ (∃ v, y.cell? ⟨X.P, k * 5 + 4, none⟩ = some (.int .i64 v)) ∧ y.frozen? ⟨X.P, k * 5 + 3, none⟩ = false ∧ y.frozen? ⟨X.P, k * 5 + 4, none⟩ = false) := fun y hy => by
       obtain ⟨h5, hf5⟩ := PC.out y hy
       exact ⟨⟨_, h5.five.2.2.2.1⟩, ⟨_, h5.five.2.2.2.2⟩, hf5 _, hf5 _⟩
      have hx1i : (x1 : Int) < (X.N : Int) := by omega
      have hx2i : (x2 : Int) < (X.N : Int) := by omega
      have hh12 : x1 = x2 → h1 = h2 := fun e => by rw [e, hh2] at hh1; injection hh1 with hh1; exact hh1.symm
      clear hh1 hh2 he hwy hp hpk
      by_cases hxx : x1 = x2
      ·have dxx : ((x1 : Int) == (x2 : Int)) = true := by simp [hxx]
       have e9 := HPP.out
       rw [if_pos hxx] at e9
       have E9 := hideIt e9
       clear e9 HPP
       subst hxx
       obtain rfl := hh12 rfl
       clear hh12
       have dxx : ((x1 : Int) == (x1 : Int)) = true := by simp
       go_wp2_with (first | (go_at_call 47; refine CE.out.mono ?_; rintro e y ⟨rfl, hy⟩; have HY := hideIt hy; obtain ⟨Hd, hc, d2, d3, d4⟩ := PB.out y hy; obtain ⟨⟨v3, k3⟩, ⟨v4, k4⟩, f3, f4⟩ := PC2.out y hy; clear hy c0 c1 c2 c3 c4) | fail)
       have S2 := hideIt (SP.out y HY.out)
       obtain ⟨s3, -⟩ := GP.out _ S2.out
       go_region
       all_goals go_wp2_with (first | (go_at_call 43; refine Calls.mono (GP.out _ (by first | exact S2.out | exact S2.out.q (Q.refl _).drew)).2 ?_; rintro e v ⟨rfl, hv⟩; have HV := hideIt hv; clear hv) | fail)
       all_goals go_roundw
       all_goals first | exact ⟨k + 1, by go_num, by omega, by show CM X cb _ sE _; rw [HT.out, E9.out]; exact HV.out⟩ | (simp [intOf]; omega)
      ·have dxx : ((x1 : Int) == (x2 : Int)) = false := by simp; omega
       have e9 := HPP.out
       rw [if_neg hxx] at e9
       have E9 := hideIt e9
       clear e9 HPP hxx
       go_wp2_with (first | (go_at_call 47; refine CE.out.mono ?_; rintro e y ⟨rfl, hy⟩; have HY := hideIt hy; obtain ⟨Hd, hc, d2, d3, d4⟩ := PB.out y hy; obtain ⟨⟨v3, k3⟩, ⟨v4, k4⟩, f3, f4⟩ := PC2.out y hy; clear hy c0 c1 c2 c3 c4) | fail)
       have S2 := hideIt (SP.out y HY.out)
       go_region
       all_goals go_wp2_with (fail)
       all_goals go_roundw
       all_goals first | exact ⟨k + 1, by go_num, by omega, by show CM X cb _ sE _; rw [HT.out, E9.out]; first | exact S2.out | exact S2.out.q (Q.refl _).drew⟩ | (simp [intOf]; omega)
    ·have hki : ¬ (k : Int) < (X.N : Int) := by omega
     obtain rfl : k = X.N := by omega
     have ME : Hid (CM X cb (pasL L) sE z1) := by
      have := M1.out
      rw [← HL.out, upTo_all] at this
      show CM X cb (L.map (pasP (endC L))) sE z1
      rw [HSE.out]; exact this
     have hr0 : sE.rt 0 < X.N := GE.out.rl 0 hX.pos
     obtain ⟨h1, hh1⟩ := get_of_lt (l := sE.hd) (k := sE.rt 0) (by rw [GE.out.hd]; exact hr0)
     have HFS : Hid (fstL L = h1) := by show fstL L = h1; unfold fstL hdOf; rw [HSE.out, hh1]; rfl
     have CR0 : Hid (∀ y, CM X cb (pasL L) sE y → Calls Try.prog 48 #[.pointer (some ⟨cb, 0, none⟩), .int .i64 0] y fun e w' => e = .returned (.int .i64 (sE.rt 0 : Int)) ∧ CM X cb (pasL L) sE w' ∧ w'.cell? ⟨cb, 2, none⟩ = y.cell? ⟨cb, 2, none⟩) := fun y hy => root_any2 X hX cb _ sE y hy 0 hX.pos
     have PB : Hid (∀ y, CM X cb (pasL L) sE y → ∃ Hd hc, y.cell? ⟨cb, 2, none⟩ = some (.slice (some ⟨Hd, 0, none⟩) X.N hc) ∧ y.cell? ⟨Hd, sE.rt 0, none⟩ = some (.int .i64 (h1 : Int))) := fun y hy => by
      obtain ⟨up, d, R, hy⟩ := hy
      obtain ⟨g, e1, e2, e3, -⟩ := hy.nums (kD_lt (k := 2) (by omega)) hy.cr.h hX.pos GE.out.hd
      obtain ⟨-, -, q2, -⟩ := hy.bx
      rw [e2] at q2
      exact ⟨g, (R 2).c, q2, e3 _ h1 hh1⟩
     have hri : ((sE.rt 0 : Nat) : Int) < (X.N : Int) := by omega
     generalize sE.rt 0 = r0 at *
     clear hh1 hr0 M1 GE
     have QF : Hid (∀ y, CM X cb (pasL L) sE y → y.ownsRow X.lo 47 5 (.slice (some ⟨X.P, 0, none⟩) X.N X.pc) X.N ((pasL L).flatMap PP.cells) ∧ Fs (fun b => b = X.P) X.w0 y) := fun y hy => by
      obtain ⟨up, d, R, hy⟩ := hy
      have ho := hy.sep.own 0 (kD_lt (by omega))
      unfold Rw.at at ho
      rw [hy.cr.p.ty, hy.cr.p.sz, hy.cr.p.n, hy.cr.p.xs, hy.pv] at ho
      exact ⟨ho, hy.fs⟩
     obtain ⟨Hd, hc, e2, e3⟩ := PB.out z1 ME.out
     have SAME : Hid (∀ (o : Option Value) (A B C D : Nat), o = some (.slice (some ⟨A, 0, none⟩) X.N B) → o = some (.slice (some ⟨C, 0, none⟩) X.N D) → A = C ∧ B = D) := fun o A B C D h1 h2 => by
      rw [h1] at h2
      injection h2 with h2
      injection h2 with h2 _ h3
      injection h2 with h2
      injection h2 with h2
      exact ⟨h2, h3⟩
     go_wp2_with (fail)
     go_region_with (go_at_call 48; refine Calls.mono (CR0.out _ (by first | exact ME.out | exact ME.out.q (Q.refl _).drew | exact ME.out.q ((Q.refl _).drewN _))) ?_; rintro e v ⟨rfl, hv, hv2⟩; obtain ⟨Hd2, hc2, k2, k3⟩ := PB.out v hv; have HV := hideIt hv; obtain ⟨q1, q2⟩ := SAME.out _ Hd hc Hd2 hc2 e2 (hv2.symm.trans k2); subst q1; subst q2; clear hv hv2)
     all_goals go_wp2_with (fail)
     all_goals go_ret
     all_goals exact ⟨by rw [HFS.out]; rfl, (QF.out _ HV.out).1, (QF.out _ HV.out).2⟩
  | some n =>
   have hne : s.td ≠ [] := fun e => by rw [e] at htd; cases htd
   obtain ⟨hlk, g1, m1, l1⟩ := H1.out.2.1.step HL.out HW.out htd
   have HST : Hid (Lk L n ∧ Gd L X.N (s.pop.look L n) ∧ (s.pop.look L n).mu < s.mu ∧ (s.pop.look L n).loop L = endC L) := ⟨hlk, g1, m1, l1.symm.trans H1.out.2.2⟩
   obtain ⟨m, hm⟩ : ∃ m, s.td.length = m + 1 := ⟨s.td.length - 1, by have := List.length_pos_iff.2 hne; omega⟩
   have hmb : m + 1 ≤ 2200000 := by have := td_mu s; omega
   have PF : Hid (∀ z, CMx X cb L s up d R z → ∃ g, z.cell? ⟨cb, 4, none⟩ = some (.slice (some ⟨g, 0, none⟩) (m + 1) (R 4).c) ∧ z.frozen? ⟨cb, 4, none⟩ = false ∧ z.cell? ⟨g, m, none⟩ = some (.int .i64 (n : Int)) ∧ CM X cb L s.pop (z.setCell ⟨cb, 4, none⟩ (.slice (some ⟨g, 0, none⟩) m (R 4).c)) ∧ (R 4).a = some ⟨g, 0, none⟩ ∧ m + 1 ≤ (R 4).c) := fun z hz => by
    obtain ⟨g, R', ea, hl, hp⟩ := hz.pop hne
    obtain ⟨-, -, -, -, q4, qf⟩ := hz.bx
    refine ⟨g, ?_, qf 4, ?_, ⟨up, d, R', ?_⟩, ea, ?_⟩
    ·rw [q4]; unfold Rw.v; rw [ea, hz.cr.t.n, hm]
    ·have := hl n htd; rwa [hm] at this
    ·rw [hm] at hp; exact hp
    ·have := own_addr (hz.sep.own 4 (kD_lt (by omega))) ea
     have h2 := hz.cr.t.n
     omega
   obtain ⟨g, b4, f4, hl, -, hga, hmc⟩ := PF.out z hx
   have HGA := hideIt hga
   have CLs : Hid (∀ y, CM X cb L s.pop y → Calls Try.prog 46 #[.pointer (some ⟨cb, 0, none⟩), .int .i64 (n : Int)] y fun e w' => e = .returned (.tuple #[]) ∧ CM X cb L (s.pop.look L n) w') := fun y hy => CL.out cb s.pop y hy H1.out.2.1.pop (by have : s.pop.mu ≤ s.mu := (by unfold Cs.mu Cs.pop; dsimp only; rw [List.length_dropLast]; omega); omega) n hlk
   have HMU := hideIt hmu
   have HKX := hideIt hkx
   clear hbx hx H1 hlk g1 m1 l1 hne htd hmu hkx CL hga hm
   generalize (R 4).c = tc at *
   go_wp2_with (fail)
   go_quiet (fail)
   generalize hz1 : z.drewN nq = z1 at *
   have HX1 : Hid (CMx X cb L s up d R z1) := by show CMx X cb L s up d R z1; rw [← hz1]; exact HX.out.q ((Q.refl z).drewN _)
   clear hz1 b4 f4 hl HX
   obtain ⟨g', b4, f4, hl, hpop, hga, -⟩ := PF.out z1 HX1.out
   have hmi : (m : Int) ≤ (tc : Int) := by omega
   rw [HGA.out] at hga
   injection hga with hga
   injection hga with hga
   subst hga
   have HP := hideIt hpop
   clear hpop HX1 PF
   go_wp2_with (fail)
   go_region
   all_goals go_wp2_with (first | (go_at_call 46; refine Calls.mono (CLs.out _ (by first | exact HP.out | exact HP.out.q (Q.refl _).drew)) ?_; rintro e y ⟨rfl, hy⟩; have HY := hideIt hy; clear hy) | fail)
   all_goals go_roundg s.mu
   all_goals first | exact HMU.out | exact ⟨_, ⟨HY.out, HST.out.2.1, HST.out.2.2.2⟩, HST.out.2.2.1, by have := HMU.out; have := HKX.out; omega⟩
end Go.Proofs.Ytphknepblchkdaa.Fl
