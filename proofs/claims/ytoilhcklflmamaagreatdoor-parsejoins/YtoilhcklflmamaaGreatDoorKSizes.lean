/-
  When two trees are the same, as the document's answer tells it: contracts over the program; the conditions: the arguments are trees that lie in memory.
  What walk does with a closure: a contract over the program for every closure that keeps a contract of its own; the conditions: the pointer leads to a tree that lies in memory, of a size that is bounded.
  What Size, Depth and Fine answer: contracts over the program; the conditions: the argument is a tree of at most 6000 nodes that lies in memory.
-/
import Derived.Test.YtoilhcklflmamaaGreatDoorKRefA
import Derived.BigQuiet
import Derived.Deep.RegionHeld3
import Derived.Deep.RegionWith
import Derived.Deep.QuietTactic
import Derived.Shelf.Abstract
namespace Go.Proofs.YtoilhcklflmamaaGreatDoor
open Go.RowKit
set_option linter.unusedVariables false

abbrev boxed2 (w : World) (x : NF) (s : Value) (y : NF) (t : Value) : World := boxed (boxed w x s) y t

set_option maxRecDepth 100000 in
set_option maxHeartbeats 1000000 in
theorem bare_any (x y : NF) (s t : Value) (w : World) :
    Calls Tryz.prog 26 #[nodeV x s, nodeV y t] w fun e w' => e = .returned (.bool (eqN x y)) ∧ Q w w' := by
  go_enter Tryz.func26, Tryz.ntmps26
  go_wp2_with (fail)
  all_goals go_ret
  all_goals refine ⟨congrArg Ending.returned (congrArg Value.bool ?_), Below.alloc (Below.alloc (Below.refl _ _) (Nat.le_refl _) _) (by simp) _⟩
  all_goals (unfold eqN; simp [*])

theorem boxed2_q (w : World) (x : NF) (s : Value) (y : NF) (t : Value) : Q w (boxed2 w x s y t) := (boxed_q w x s).trans (boxed_q _ y t)
theorem boxed2_a {w w' : World} {x y : NF} {s t : Value} (h : Q (boxed2 w x s y t) w') (j : Nat) (u : Value) (e : (cellsN x s)[j]? = some u) : w'.cell? ⟨w.heap.size, j, none⟩ = some u := boxed_cell ((boxed_q _ y t).trans h) j u e
theorem boxed2_b {w w' : World} {x y : NF} {s t : Value} (h : Q (boxed2 w x s y t) w') (j : Nat) (u : Value) (e : (cellsN y t)[j]? = some u) : w'.cell? ⟨w.heap.size + 1, j, none⟩ = some u := by
  have := boxed_cell (w := boxed w x s) h j u e
  simpa using this

theorem Fo.same_len {f : Fo} : ∀ {g : Fo}, f.len ≠ g.len → f.same g = false := by
  induction f with
  | nil =>
    intro g h
    cases g with
    | nil => simp at h
    | cons => rfl
  | cons v a c k r _ ih =>
    intro g h
    cases g with
    | nil => rfl
    | cons v' a' c' k' r' =>
      simp only [Fo.len, ne_eq, Nat.add_right_cancel_iff] at h
      simp only [Fo.same, ih h, Bool.and_false]

theorem ten2 {w w' : World} {b o : Nat} {v : NF} {s : Value} (h : At w b o (cellsN v s)) (hq : Q w w') : At w' b o (cellsN v s) := h.keep (Nat.le_refl _) hq

set_option maxRecDepth 100000 in
set_option maxHeartbeats 4000000 in
theorem rsame_any (N : Nat) : ∀ (f : Fo), f.size < N → ∀ (g : Fo) (x y : NF) (a a' : Option Addr) (c c' : Nat) (w : World), In w a f → sok a f.len c → In w a' g → sok a' g.len c' →
    Calls Tryz.prog 11 #[nodeV x (.slice a f.len c), nodeV y (.slice a' g.len c')] w fun e w' => e = .returned (.bool (eqN x y && f.same g)) ∧ Q w w' := by
  induction N with
  | zero => intro f h; omega
  | succ N ih =>
    intro f hf g x y a a' c c' w hin hs hin' hs'
    have HIN := hideIt hin
    have HIN' := hideIt hin'
    have hlen : f.len ≤ 9223372036854775807 := by have := hs.1; have := hs.2.1; unfold maxLen at this; omega
    have hlen' : g.len ≤ 9223372036854775807 := by have := hs'.1; have := hs'.2.1; unfold maxLen at this; omega
    have HB := hideIt (bare_any x y (.slice a f.len c) (.slice a' g.len c') (boxed2 w x (.slice a f.len c) y (.slice a' g.len c')))
    clear hin hs hin' hs'
    cases hb : eqN x y with
    | false =>
      rw [hb] at HB
      rw [Bool.false_and]
      clear hb
      go_enter Tryz.func11, Tryz.ntmps11
      go_wp2_with (go_at_call 26; refine HB.out.mono ?_; rintro e z ⟨rfl, q1⟩)
      go_ret
      exact ⟨rfl, (boxed2_q _ _ _ _ _).trans q1⟩
    | true =>
      rw [hb] at HB
      rw [Bool.true_and]
      clear hb
      by_cases hl : f.len = g.len
      · have hld : (((f.len : Nat) : Int) != ((g.len : Nat) : Int)) = false := by rw [hl]; simp
        have HL := hideIt hl
        clear hl
        have HIH := hideIt ih
        clear ih
        go_enter Tryz.func11, Tryz.ntmps11
        go_wp2_with (go_at_call 26; refine HB.out.mono ?_; rintro e z ⟨rfl, q1⟩; have d9 := boxed2_a q1 9 _ rfl; have e9 := boxed2_b q1 9 _ rfl; have HQ0 := hideIt q1; clear q1)
        clear d9 e9
        go_loopw [5] (fun i wr => ∃ k : Nat, i = .int .i64 k ∧ k ≤ f.len ∧ f.same g = (f.drop k).same (g.drop k) ∧ Q (boxed2 w x (.slice a f.len c) y (.slice a' g.len c')) wr) (fun i _ => f.len - (intOf i).toNat)
        case atStart => exact ⟨0, rfl, by omega, by simp [Fo.drop], HQ0.out⟩
        case round =>
          obtain ⟨k, rfl, hk, he, hq⟩ := hrel
          have HE := hideIt he
          have d9 := boxed2_a hq 9 _ rfl
          have e9 := boxed2_b hq 9 _ rfl
          clear he HQ0
          by_cases hlt : k < f.len
          · have hlt' : k < g.len := by have := HL.out; omega
            obtain ⟨b, o, v1, ka, kc, ks, rfl, e1, hat1, hv1, hs1, hin1⟩ := HIN.out.elem k hlt
            obtain ⟨b', o', v2, la, lc, ls, rfl, e2, hat2, hv2, hs2, hin2⟩ := HIN'.out.elem k hlt'
            have hkl : (k : Int) < (f.len : Int) := by omega
            have hkl' : (k : Int) < (g.len : Int) := by omega
            have hsz : (f.drop k).size = ks.size + 1 + (f.drop (k + 1)).size := by rw [e1]; rfl
            have hle := f.size_drop k
            have HE2 : Hid (f.same g = ((eqN v1 v2 && ks.same ls) && (f.drop (k + 1)).same (g.drop (k + 1)))) := by
              have := HE.out
              rw [e1, e2] at this
              exact this
            have HC : Hid (∀ X, Q (boxed2 w x (.slice (some ⟨b, o, none⟩) f.len c) y (.slice (some ⟨b', o', none⟩) g.len c')) X → Calls Tryz.prog 11 #[nodeV v1 (.slice ka ks.len kc), nodeV v2 (.slice la ls.len lc)] X fun e w' => e = .returned (.bool (eqN v1 v2 && ks.same ls)) ∧ (Q (boxed2 w x (.slice (some ⟨b, o, none⟩) f.len c) y (.slice (some ⟨b', o', none⟩) g.len c')) w' ∧ w'.cell? ⟨w.heap.size, 9, none⟩ = some (.slice (some ⟨b, o, none⟩) f.len c) ∧ w'.cell? ⟨w.heap.size + 1, 9, none⟩ = some (.slice (some ⟨b', o', none⟩) g.len c') ∧ w'.cell? ⟨b, o + k * 10, none⟩ = some (.int .u8 v1.k) ∧ w'.cell? ⟨b, o + k * 10 + 1, none⟩ = some (.int .u8 v1.op) ∧ w'.cell? ⟨b, o + k * 10 + 2, none⟩ = some (.int .u8 v1.tk) ∧ w'.cell? ⟨b, o + k * 10 + 3, none⟩ = some (.int .u8 v1.ti) ∧ w'.cell? ⟨b, o + k * 10 + 4, none⟩ = some (.int .i64 v1.tn) ∧ w'.cell? ⟨b, o + k * 10 + 5, none⟩ = some (.int .i64 v1.n) ∧ w'.cell? ⟨b, o + k * 10 + 6, none⟩ = some (.int .i64 v1.m) ∧ w'.cell? ⟨b, o + k * 10 + 7, none⟩ = some (.string v1.nm) ∧ w'.cell? ⟨b, o + k * 10 + 8, none⟩ = some (.string v1.fd) ∧ w'.cell? ⟨b, o + k * 10 + 9, none⟩ = some ((.slice ka ks.len kc)) ∧ w'.cell? ⟨b', o' + k * 10, none⟩ = some (.int .u8 v2.k) ∧ w'.cell? ⟨b', o' + k * 10 + 1, none⟩ = some (.int .u8 v2.op) ∧ w'.cell? ⟨b', o' + k * 10 + 2, none⟩ = some (.int .u8 v2.tk) ∧ w'.cell? ⟨b', o' + k * 10 + 3, none⟩ = some (.int .u8 v2.ti) ∧ w'.cell? ⟨b', o' + k * 10 + 4, none⟩ = some (.int .i64 v2.tn) ∧ w'.cell? ⟨b', o' + k * 10 + 5, none⟩ = some (.int .i64 v2.n) ∧ w'.cell? ⟨b', o' + k * 10 + 6, none⟩ = some (.int .i64 v2.m) ∧ w'.cell? ⟨b', o' + k * 10 + 7, none⟩ = some (.string v2.nm) ∧ w'.cell? ⟨b', o' + k * 10 + 8, none⟩ = some (.string v2.fd) ∧ w'.cell? ⟨b', o' + k * 10 + 9, none⟩ = some ((.slice la ls.len lc)))) := fun X hX => by
              have hX' := (boxed2_q _ _ _ _ _).trans hX
              refine (HIH.out ks (by omega) ls v1 v2 ka la kc lc X (hin1.keep (Nat.le_refl _) hX') hs1 (hin2.keep (Nat.le_refl _) hX') hs2).mono fun e w' ⟨h1, h2⟩ => ⟨h1, ?_⟩
              have hq' := hX.trans h2
              have hq2 := hX'.trans h2
              exact ⟨hq', boxed2_a hq' 9 _ rfl, boxed2_b hq' 9 _ rfl, (ten2 hat1 hq2).cell 0 _ rfl, (ten2 hat1 hq2).cell 1 _ rfl, (ten2 hat1 hq2).cell 2 _ rfl, (ten2 hat1 hq2).cell 3 _ rfl, (ten2 hat1 hq2).cell 4 _ rfl, (ten2 hat1 hq2).cell 5 _ rfl, (ten2 hat1 hq2).cell 6 _ rfl, (ten2 hat1 hq2).cell 7 _ rfl, (ten2 hat1 hq2).cell 8 _ rfl, (ten2 hat1 hq2).cell 9 _ rfl, (ten2 hat2 hq2).ten⟩
            obtain ⟨c0, c1, c2, c3, c4, c5, c6, c7, c8, c9⟩ := (ten2 hat1 ((boxed2_q _ _ _ _ _).trans hq)).ten
            obtain ⟨f0, f1, f2, f3, f4, f5, f6, f7, f8, f9⟩ := (ten2 hat2 ((boxed2_q _ _ _ _ _).trans hq)).ten
            have hqd : Q (boxed2 w x (.slice (some ⟨b, o, none⟩) f.len c) y (.slice (some ⟨b', o', none⟩) g.len c')) wr.drew := Below.drew hq
            clear e1 e2 hat1 hat2 hv1 hv2 hs1 hs2 hin1 hin2 hsz HE HB
            generalize (eqN v1 v2 && ks.same ls) = bb at HC HE2
            go_wp2_with (fail)
            go_region_held3 (fun w' => Q (boxed2 w x (.slice (some ⟨b, o, none⟩) f.len c) y (.slice (some ⟨b', o', none⟩) g.len c')) w' ∧ w'.cell? ⟨w.heap.size, 9, none⟩ = some (.slice (some ⟨b, o, none⟩) f.len c) ∧ w'.cell? ⟨w.heap.size + 1, 9, none⟩ = some (.slice (some ⟨b', o', none⟩) g.len c') ∧ w'.cell? ⟨b, o + k * 10, none⟩ = some (.int .u8 v1.k) ∧ w'.cell? ⟨b, o + k * 10 + 1, none⟩ = some (.int .u8 v1.op) ∧ w'.cell? ⟨b, o + k * 10 + 2, none⟩ = some (.int .u8 v1.tk) ∧ w'.cell? ⟨b, o + k * 10 + 3, none⟩ = some (.int .u8 v1.ti) ∧ w'.cell? ⟨b, o + k * 10 + 4, none⟩ = some (.int .i64 v1.tn) ∧ w'.cell? ⟨b, o + k * 10 + 5, none⟩ = some (.int .i64 v1.n) ∧ w'.cell? ⟨b, o + k * 10 + 6, none⟩ = some (.int .i64 v1.m) ∧ w'.cell? ⟨b, o + k * 10 + 7, none⟩ = some (.string v1.nm) ∧ w'.cell? ⟨b, o + k * 10 + 8, none⟩ = some (.string v1.fd) ∧ w'.cell? ⟨b, o + k * 10 + 9, none⟩ = some ((.slice ka ks.len kc)) ∧ w'.cell? ⟨b', o' + k * 10, none⟩ = some (.int .u8 v2.k) ∧ w'.cell? ⟨b', o' + k * 10 + 1, none⟩ = some (.int .u8 v2.op) ∧ w'.cell? ⟨b', o' + k * 10 + 2, none⟩ = some (.int .u8 v2.tk) ∧ w'.cell? ⟨b', o' + k * 10 + 3, none⟩ = some (.int .u8 v2.ti) ∧ w'.cell? ⟨b', o' + k * 10 + 4, none⟩ = some (.int .i64 v2.tn) ∧ w'.cell? ⟨b', o' + k * 10 + 5, none⟩ = some (.int .i64 v2.n) ∧ w'.cell? ⟨b', o' + k * 10 + 6, none⟩ = some (.int .i64 v2.m) ∧ w'.cell? ⟨b', o' + k * 10 + 7, none⟩ = some (.string v2.nm) ∧ w'.cell? ⟨b', o' + k * 10 + 8, none⟩ = some (.string v2.fd) ∧ w'.cell? ⟨b', o' + k * 10 + 9, none⟩ = some ((.slice la ls.len lc))) (go_keep) (first | (go_at_call 11; refine (HC.out _ (by assumption)).mono ?_; rintro e z ⟨rfl, s0, s1, s2, s3, s4, s5, s6, s7, s8, s9, s10, s11, s12, s13, s14, s15, s16, s17, s18, s19, s20, s21, s22⟩))
            cases bb with
            | false =>
              go_wp2_with (fail)
              go_ret
              have h5 := HE2.out
              rw [Bool.false_and] at h5
              rw [h5]
              exact ⟨rfl, (boxed2_q _ _ _ _ _).trans (by assumption)⟩
            | true =>
              go_wp2_with (fail)
              go_roundw
              case rel =>
                refine ⟨k + 1, by go_num, by omega, ?_, by assumption⟩
                have h5 := HE2.out
                rw [Bool.true_and] at h5
                exact h5
              case measure => simp [intOf]; omega
          · have ek : k = f.len := by omega
            go_wp2_with (fail)
            go_ret
            have h5 := HE.out
            have h6 := HL.out
            rw [ek, Fo.drop_all, h6, Fo.drop_all] at h5
            rw [h5]
            exact ⟨rfl, (boxed2_q _ _ _ _ _).trans hq⟩
      · rw [Fo.same_len hl]
        have hld : (((f.len : Nat) : Int) != ((g.len : Nat) : Int)) = true := by simp; omega
        go_enter Tryz.func11, Tryz.ntmps11
        go_wp2_with (go_at_call 26; refine HB.out.mono ?_; rintro e z ⟨rfl, q1⟩; have d9 := boxed2_a q1 9 _ rfl; have e9 := boxed2_b q1 9 _ rfl; have HQ := hideIt q1; clear q1)
        go_ret
        exact ⟨rfl, (boxed2_q _ _ _ _ _).trans HQ.out⟩
end Go.Proofs.YtoilhcklflmamaaGreatDoor

namespace Go.Proofs.YtoilhcklflmamaaGreatDoor
open Go.RowKit
set_option linter.unusedVariables false

/-- A node that is shown: where it lies, its fields, its kids, how deep it stands. -/
structure El where
  a : Option Addr
  v : NF
  ka : Option Addr
  kc : Nat
  ks : Fo
  d : Nat

def next10 (a : Option Addr) : Option Addr := a.map fun p => ⟨p.block, p.off + 10, none⟩

/-- The walk, as a fold that may end early. -/
def wkF {S : Type} (st : S → El → S) (go : S → El → Bool) : Option Addr → Fo → Nat → S → S × Bool
  | _, .nil, _, s => (s, true)
  | a, .cons v ka kc ks rest, d, s =>
    if go s ⟨a, v, ka, kc, ks, d⟩ then
      if (wkF st go ka ks (d + 1) (st s ⟨a, v, ka, kc, ks, d⟩)).2 then wkF st go (next10 a) rest d (wkF st go ka ks (d + 1) (st s ⟨a, v, ka, kc, ks, d⟩)).1
      else ((wkF st go ka ks (d + 1) (st s ⟨a, v, ka, kc, ks, d⟩)).1, false)
    else (st s ⟨a, v, ka, kc, ks, d⟩, false)

theorem wkF_cons {S : Type} (st : S → El → S) (go : S → El → Bool) (a : Option Addr) (v : NF) (ka : Option Addr) (kc : Nat) (ks rest : Fo) (d : Nat) (s : S) :
    wkF st go a (.cons v ka kc ks rest) d s = if (wkF st go a (.cons v ka kc ks .nil) d s).2 then wkF st go (next10 a) rest d (wkF st go a (.cons v ka kc ks .nil) d s).1 else ((wkF st go a (.cons v ka kc ks .nil) d s).1, false) := by
  simp only [wkF]
  split
  · split
    · simp
    · simp
  · simp

set_option maxHeartbeats 200000 in
theorem walk_any {S : Type} (st : S → El → S) (go : S → El → Bool) (Inv : Nat → S → World → Prop) (LIM K : Nat) (cp : Array Value) (W0 : World)
    (hent : ∀ args w, (callFunc K args).run Tryz.prog w = .ok (.enter K args) w)
    (hQ : ∀ n s w, Inv n s w → Q W0 w)
    (hcl : ∀ n s w b o v ka kc ks (d : Nat), n < LIM → Inv n s w → At W0 b o (cellsN v (.slice ka (Fo.len ks) kc)) → v.ok → sok ka ks.len kc → In W0 ka ks → 1 ≤ d → d ≤ 8000 →
      Calls Tryz.prog K (#[.pointer (some ⟨b, o, none⟩), .int .i64 d] ++ cp) w fun e w' => e = .returned (.bool (go s ⟨some ⟨b, o, none⟩, v, ka, kc, ks, d⟩)) ∧ Inv (n + 1) (st s ⟨some ⟨b, o, none⟩, v, ka, kc, ks, d⟩) w') (N : Nat) :
    ∀ (f : Fo), f.size < N → ∀ (v : NF) (a : Option Addr) (c b o d n : Nat) (s : S) (w : World), At W0 b o (cellsN v (.slice a f.len c)) → v.ok → In W0 a f → sok a f.len c → Inv n s w → n + f.size + 1 ≤ LIM → 1 ≤ d → d + f.size ≤ 8000 →
    Calls Tryz.prog 34 #[.pointer (some ⟨b, o, none⟩), .int .i64 d, .func (.func K) #[] cp] w fun e w' => ∃ n', n' ≤ n + f.size + 1 ∧
      e = .returned (.bool (wkF st go (some ⟨b, o, none⟩) (.cons v a c f .nil) d s).2) ∧ Inv n' (wkF st go (some ⟨b, o, none⟩) (.cons v a c f .nil) d s).1 w' := by
  induction N with
  | zero => intro f h; omega
  | succ N ih =>
    intro f hf v a c b o d n s w hat hv hin hs hI hn hd1 hd2
    have HAT := hideIt hat
    have HIN := hideIt hin
    have HI := hideIt hI
    have hlen : f.len ≤ 9223372036854775807 := by have := hs.1; have := hs.2.1; unfold maxLen at this; omega
    have HC := hideIt (hcl n s w b o v a c f d (by omega) hI hat hv hs hin hd1 (by omega))
    have HW : Hid (wkF st go (some ⟨b, o, none⟩) (.cons v a c f .nil) d s = if go s ⟨some ⟨b, o, none⟩, v, a, c, f, d⟩ then wkF st go a f (d + 1) (st s ⟨some ⟨b, o, none⟩, v, a, c, f, d⟩) else (st s ⟨some ⟨b, o, none⟩, v, a, c, f, d⟩, false)) := by
      show _ = _
      simp only [wkF]
      split
      · split
        · rename_i h
          exact Prod.ext rfl h.symm
        · rename_i h
          simp at h
          exact Prod.ext rfl h.symm
      · rfl
    obtain ⟨g0, hg0⟩ : ∃ g0, go s ⟨some ⟨b, o, none⟩, v, a, c, f, d⟩ = g0 := ⟨_, rfl⟩
    obtain ⟨s1, hs1⟩ : ∃ s1, st s ⟨some ⟨b, o, none⟩, v, a, c, f, d⟩ = s1 := ⟨_, rfl⟩
    rw [hg0, hs1] at HW HC
    have HCL := hideIt hcl
    have HQQ := hideIt hQ
    have HIH := hideIt ih
    clear hat hin hI hs hg0 hs1 hcl hQ ih
    cases g0 with
    | false =>
      go_enter Tryz.func34, Tryz.ntmps34
      go_wp2_with (go_at_fn K; refine HC.out.mono ?_; rintro e x ⟨rfl, q1⟩)
      go_ret
      rw [HW.out]
      exact ⟨n + 1, by omega, rfl, q1⟩
    | true =>
      have h9 : ∀ w', Q W0 w' → w'.cell? ⟨b, o + 9, none⟩ = some (.slice a f.len c) := fun w' hq => (HAT.out.keep (Nat.le_refl _) hq).cell 9 _ rfl
      have H9 := hideIt h9
      clear h9
      rw [HW.out, if_pos rfl]
      obtain ⟨T, hT⟩ : ∃ T, wkF st go a f (d + 1) s1 = T := ⟨_, rfl⟩
      rw [hT]
      have HT := hideIt hT
      clear hT HW
      go_enter Tryz.func34, Tryz.ntmps34
      go_wp2_with (go_at_fn K; refine HC.out.mono ?_; rintro e x ⟨rfl, q1⟩; have hc9 := H9.out _ (HQQ.out _ _ _ q1); have HJ := hideIt q1; clear q1)
      clear HC HI
      go_loopw [18] (fun i wr => ∃ (k n' : Nat) (si : S), i = .int .i64 k ∧ k ≤ f.len ∧ wkF st go (a.map fun p => ⟨p.block, p.off + k * 10, none⟩) (f.drop k) (d + 1) si = T ∧ Inv n' si wr ∧ n' + (f.drop k).size ≤ n + 1 + f.size) (fun i _ => f.len - (intOf i).toNat)
      case atStart =>
        refine ⟨0, n + 1, s1, rfl, by omega, ?_, HJ.out, by simp [Fo.drop]⟩
        have h5 := HT.out
        cases f with
        | nil => simpa [Fo.drop, wkF] using h5
        | cons =>
          obtain ⟨b', o', rfl, _⟩ := HIN.out
          simpa [Fo.drop] using h5
      case round =>
        obtain ⟨k, n', si, rfl, hk, hw, hI', hn'⟩ := hrel
        have hc9 := H9.out _ (HQQ.out _ _ _ hI')
        have HW := hideIt hw
        have HI := hideIt hI'
        clear hw hI' HJ
        by_cases hlt : k < f.len
        · obtain ⟨b', o', v', ka, kc, ks, rfl, e, hat, hv', hs', hin'⟩ := HIN.out.elem k hlt
          have hkl : (k : Int) < (f.len : Int) := by omega
          have hsz : (f.drop k).size = ks.size + 1 + (f.drop (k + 1)).size := by rw [e]; rfl
          have hle := f.size_drop k
          have hx := HW.out
          rw [e, wkF_cons] at hx
          have HC := hideIt (HIH.out ks (by omega) v' ka kc b' (o' + k * 10) (d + 1) n' si wr hat hv' hin' hs' HI.out (by omega) (by omega) (by omega))
          obtain ⟨g1, hg1⟩ : ∃ g1, (wkF st go (some ⟨b', o' + k * 10, none⟩) (.cons v' ka kc ks .nil) (d + 1) si).2 = g1 := ⟨_, rfl⟩
          obtain ⟨s2, hs2⟩ : ∃ s2, (wkF st go (some ⟨b', o' + k * 10, none⟩) (.cons v' ka kc ks .nil) (d + 1) si).1 = s2 := ⟨_, rfl⟩
          simp only [Option.map_some] at hx
          rw [hg1, hs2] at hx HC
          have ed : ((d + 1 : Nat) : Int) = (d : Int) + 1 := by omega
          rw [ed] at HC
          have HX := hideIt hx
          clear e hat hv' hs' hin' hx hg1 hs2 ed HW
          cases g1 with
          | false =>
            go_wp2_with (go_at_call 34; refine HC.out.mono ?_; rintro e x ⟨n2, h2, rfl, q1⟩)
            go_ret
            have h5 := HX.out
            simp at h5
            rw [← h5]
            exact ⟨n2, by omega, rfl, q1⟩
          | true =>
            go_wp2_with (go_at_call 34; refine HC.out.mono ?_; rintro e x ⟨n2, h2, rfl, q1⟩; have hc9' := H9.out _ (HQQ.out _ _ _ q1); have HJ := hideIt q1; clear q1)
            go_roundw
            case rel =>
              refine ⟨k + 1, n2, s2, by go_num, by omega, ?_, HJ.out, by omega⟩
              have h5 := HX.out
              simp only [if_true] at h5
              rw [← h5]
              simp only [Option.map_some, next10]
              rw [show o' + (k + 1) * 10 = o' + k * 10 + 10 by omega]
            case measure => simp [intOf]; omega
        · have ek : k = f.len := by omega
          go_wp2_with (fail)
          go_ret
          have h5 := HW.out
          rw [ek, Fo.drop_all] at h5
          simp only [wkF] at h5
          rw [← h5]
          exact ⟨n', by omega, rfl, HI.out⟩
end Go.Proofs.YtoilhcklflmamaaGreatDoor

namespace Go.Proofs.YtoilhcklflmamaaGreatDoor
open Go.RowKit
set_option linter.unusedVariables false

/-- A counter of one's own at block p, behind the world W0. -/
structure CI (W0 : World) (p : Nat) (s : Nat) (w : World) : Prop where
  q : Q W0 w
  lo : W0.heap.size ≤ p
  c : w.heap[p]? = some (.cells #[.int .i64 s] 3 (0, 0))

theorem block_setCell {w : World} {b j : Nat} {cs : Array Value} {t : TypeId} (h : w.heap[b]? = some (.cells cs t (0, 0))) (u : Value) : (w.setCell ⟨b, j, none⟩ u).heap[b]? = some (.cells (cs.setIfInBounds j u) t (0, 0)) := by
  have hlt := lt_of_block h
  have h' : w.heap[b] = .cells cs t (0, 0) := by simpa [Array.getElem?_eq_getElem hlt] using h
  show (w.heap.modify b _)[b]? = _
  rw [Array.getElem?_eq_getElem (by simpa using hlt), Array.getElem_modify_self, h']
  rfl
theorem cell_of_block {w : World} {b : Nat} {cs : Array Value} {t : TypeId} (h : w.heap[b]? = some (.cells cs t (0, 0))) (j : Nat) : w.cell? ⟨b, j, none⟩ = cs[j]? := by simp [World.cell?, h]
theorem free_of_block {w : World} {b : Nat} {cs : Array Value} {t : TypeId} (h : w.heap[b]? = some (.cells cs t (0, 0))) (j : Nat) : w.frozen? ⟨b, j, none⟩ = false := by simp [World.frozen?, h]

theorem CI.cell {W0 w : World} {p s : Nat} (h : CI W0 p s w) : w.cell? ⟨p, 0, none⟩ = some (.int .i64 s) := by rw [cell_of_block h.c]; rfl
theorem CI.free {W0 w : World} {p s : Nat} (h : CI W0 p s w) : w.frozen? ⟨p, 0, none⟩ = false := free_of_block h.c 0
theorem CI.set {W0 w : World} {p s : Nat} (h : CI W0 p s w) (z : Int) (s' : Nat) (e : z = s') : CI W0 p s' (w.setCell ⟨p, 0, none⟩ (.int .i64 z)) := by
  subst e
  refine ⟨h.q.setCell h.lo _, h.lo, ?_⟩
  rw [block_setCell h.c]
  rfl
theorem CI.start (w : World) (v : NF) (s : Value) : CI (boxed w v s) (w.heap.size + 1) 0 ((boxed w v s).alloc (.cells #[.int .i64 0] 3)) := by
  refine ⟨(Below.refl _ _).alloc (Nat.le_refl _) _, by simp, ?_⟩
  have := heap_alloc_new (boxed w v s) (.cells #[.int .i64 0] 3 (0, 0))
  simpa using this

theorem ent31 : ∀ args w, (callFunc 35 args).run Tryz.prog w = .ok (.enter 35 args) w := enters_of Tryz.func35 (by kernel_rfl) rfl

theorem retb {p q : Prop} [Decidable p] [Decidable q] (h : p ↔ q) : Ending.returned (.bool (decide p)) = .returned (.bool (decide q)) := by
  have : decide p = decide q := by rw [decide_eq_decide]; exact h
  rw [this]

theorem wkSize (f : Fo) : ∀ (a : Option Addr) (d s : Nat), s ≤ 4000 → (wkF (fun s _ => s + 1) (fun s _ => decide (s + 1 ≤ 4000)) a f d s).1 = min (s + f.size) 4001 ∧ ((wkF (fun s _ => s + 1) (fun s _ => decide (s + 1 ≤ 4000)) a f d s).2 = true ↔ s + f.size ≤ 4000) := by
  induction f with
  | nil =>
    intro a d s h
    have e : (Fo.nil).size = 0 := rfl
    rw [e]
    exact ⟨by show s = _; omega, by show true = true ↔ _; simp; omega⟩
  | cons v ka kc ks rest ihk ihr =>
    intro a d s h
    have e : (Fo.cons v ka kc ks rest).size = ks.size + 1 + rest.size := rfl
    rw [e]
    unfold wkF
    by_cases h1 : s + 1 ≤ 4000
    · rw [if_pos (decide_eq_true h1)]
      obtain ⟨k1, k2⟩ := ihk ka (d + 1) (s + 1) h1
      by_cases h2 : s + 1 + ks.size ≤ 4000
      · rw [if_pos (k2.2 h2), k1]
        obtain ⟨r1, r2⟩ := ihr (next10 a) d (min (s + 1 + ks.size) 4001) (by omega)
        rw [r1, r2]
        omega
      · have h2' : ¬ (wkF (fun s _ => s + 1) (fun s _ => decide (s + 1 ≤ 4000)) ka ks (d + 1) (s + 1)).2 = true := fun x => h2 (k2.1 x)
        rw [if_neg h2', k1]
        refine ⟨by show min _ _ = _; omega, ?_⟩
        show false = true ↔ _
        simp
        omega
    · rw [if_neg (by rw [decide_eq_true_eq]; exact h1)]
      refine ⟨by show s + 1 = _; omega, ?_⟩
      show false = true ↔ _
      simp
      omega

theorem cl31 (W0 : World) (p s : Nat) (w : World) (x : Value) (d : Nat) (hI : CI W0 p s w) (hs : s ≤ 100000) (hd : d ≤ 100000) :
    Calls Tryz.prog 35 #[x, .int .i64 d, .pointer (some ⟨p, 0, none⟩)] w fun e w' => e = .returned (.bool (decide (max s d ≤ 40))) ∧ CI W0 p (max s d) w' := by
  have hc := hI.cell
  have hf := hI.free
  have HI := hideIt hI
  clear hI
  have hlt : p < w.heap.size := World.block_lt_of_cell? w _ hc
  go_enter Tryz.func35, Tryz.ntmps35
  go_wp2_with (fail)
  · go_ret
    have em : max s d = d := by omega
    rw [em]
    exact ⟨retb (by omega), HI.out.set _ _ rfl⟩
  · go_ret
    have em : max s d = s := by omega
    rw [em]
    exact ⟨retb (by omega), HI.out.set _ _ rfl⟩

theorem wkDepth (f : Fo) : ∀ (a : Option Addr) (d s : Nat), 1 ≤ d → d ≤ s + 1 → s ≤ 40 → (wkF (fun s e => max s e.d) (fun s e => decide (max s e.d ≤ 40)) a f d s).1 = min (max s (d + f.depth - 1)) 41 ∧ ((wkF (fun s e => max s e.d) (fun s e => decide (max s e.d ≤ 40)) a f d s).2 = true ↔ d + f.depth ≤ 41) := by
  induction f with
  | nil =>
    intro a d s h h' hs
    have e : (Fo.nil).depth = 0 := rfl
    rw [e]
    exact ⟨by show s = _; omega, by show true = true ↔ _; simp; omega⟩
  | cons v ka kc ks rest ihk ihr =>
    intro a d s h h' hs
    have e : (Fo.cons v ka kc ks rest).depth = max (ks.depth + 1) rest.depth := rfl
    rw [e]
    unfold wkF
    by_cases h1 : max s d ≤ 40
    · rw [if_pos (decide_eq_true h1)]
      obtain ⟨k1, k2⟩ := ihk ka (d + 1) (max s d) (by omega) (by omega) h1
      by_cases h2 : d + 1 + ks.depth ≤ 41
      · rw [if_pos (k2.2 h2)]
        obtain ⟨X, hX⟩ : ∃ X, (wkF (fun s (e : El) => max s e.d) (fun s e => decide (max s e.d ≤ 40)) ka ks (d + 1) (max s d)).1 = X := ⟨_, rfl⟩
        rw [hX] at k1
        have hX1 : X = max s (d + ks.depth) := by omega
        obtain ⟨r1, r2⟩ := ihr (next10 a) d X h (by omega) (by omega)
        show (wkF _ _ _ _ _ (wkF (fun s (e : El) => max s e.d) (fun s e => decide (max s e.d ≤ 40)) ka ks (d + 1) (max s d)).1).1 = _ ∧ ((wkF _ _ _ _ _ (wkF (fun s (e : El) => max s e.d) (fun s e => decide (max s e.d ≤ 40)) ka ks (d + 1) (max s d)).1).2 = true ↔ _)
        rw [hX, r1, r2, hX1]
        clear hX r1 r2 k1 k2 ihk ihr hX1
        generalize ks.depth = A at *
        generalize rest.depth = B at *
        refine ⟨?_, ?_⟩
        · omega
        · omega
      · have h2' : ¬ (wkF (fun s (e : El) => max s e.d) (fun s e => decide (max s e.d ≤ 40)) ka ks (d + 1) (max s d)).2 = true := fun x => h2 (k2.1 x)
        rw [if_neg h2']
        refine ⟨?_, ?_⟩
        · show (wkF (fun s (e : El) => max s e.d) (fun s e => decide (max s e.d ≤ 40)) ka ks (d + 1) (max s d)).1 = _
          rw [k1]
          clear k1 k2 ihk ihr h2'
          omega
        · show false = true ↔ _
          simp
          omega
    · rw [if_neg (by rw [decide_eq_true_eq]; exact h1)]
      refine ⟨?_, ?_⟩
      · show max s d = _
        clear ihk ihr
        omega
      · show false = true ↔ _
        simp
        omega

theorem wkFine (f : Fo) : ∀ (a : Option Addr) (d s : Nat), 1 ≤ d → d ≤ 41 → s ≤ 4000 → ((wkF (fun s _ => s + 1) (fun s e => decide (s + 1 ≤ 4000) && decide (e.d ≤ 40)) a f d s).2 = true ↔ (s + f.size ≤ 4000 ∧ (f.depth = 0 ∨ d + f.depth ≤ 41))) ∧ ((wkF (fun s _ => s + 1) (fun s e => decide (s + 1 ≤ 4000) && decide (e.d ≤ 40)) a f d s).2 = true → (wkF (fun s _ => s + 1) (fun s e => decide (s + 1 ≤ 4000) && decide (e.d ≤ 40)) a f d s).1 = s + f.size) := by
  induction f with
  | nil =>
    intro a d s h h' hs
    have e : (Fo.nil).depth = 0 := rfl
    have e2 : (Fo.nil).size = 0 := rfl
    rw [e, e2]
    exact ⟨by show true = true ↔ _; simp; omega, fun _ => rfl⟩
  | cons v ka kc ks rest ihk ihr =>
    intro a d s h h' hs
    have e : (Fo.cons v ka kc ks rest).depth = max (ks.depth + 1) rest.depth := rfl
    have e2 : (Fo.cons v ka kc ks rest).size = ks.size + 1 + rest.size := rfl
    rw [e, e2]
    unfold wkF
    by_cases h1 : s + 1 ≤ 4000 ∧ d ≤ 40
    · rw [if_pos (by simp only [Bool.and_eq_true, decide_eq_true_eq]; exact h1)]
      obtain ⟨k1, k2⟩ := ihk ka (d + 1) (s + 1) (by omega) (by omega) h1.1
      by_cases h2 : s + 1 + ks.size ≤ 4000 ∧ (ks.depth = 0 ∨ d + 1 + ks.depth ≤ 41)
      · have hb := k1.2 h2
        rw [if_pos hb, k2 hb]
        obtain ⟨r1, r2⟩ := ihr (next10 a) d (s + 1 + ks.size) h h' h2.1
        refine ⟨?_, fun x => ?_⟩
        · rw [r1]; omega
        · rw [r2 x]; omega
      · have h2' : ¬ (wkF (fun s (_ : El) => s + 1) (fun s e => decide (s + 1 ≤ 4000) && decide (e.d ≤ 40)) ka ks (d + 1) (s + 1)).2 = true := fun x => h2 (k1.1 x)
        rw [if_neg h2']
        refine ⟨?_, fun x => by simp at x⟩
        show false = true ↔ _
        simp
        omega
    · rw [if_neg (by simp only [Bool.and_eq_true, decide_eq_true_eq]; exact h1)]
      refine ⟨?_, fun x => by simp at x⟩
      show false = true ↔ _
      simp
      omega

theorem at_boxed (w : World) (v : NF) (s : Value) : At (boxed w v s) w.heap.size 0 (cellsN v s) := fun j hj => by rw [show 0 + j = j by omega, cell_box]; simp

theorem depth_any (f : Fo) (v : NF) (a : Option Addr) (c : Nat) (w : World) (hv : v.ok) (hin : In w a f) (hs : sok a f.len c) (hz : f.size ≤ 7000) :
    Calls Tryz.prog 22 #[nodeV v (.slice a f.len c)] w fun e w' => e = .returned (.int .i64 ((min (f.depth + 1) 41 : Nat) : Int)) ∧ Q w w' := by
  have HC := hideIt (walk_any (fun s e => max s e.d) (fun s e => decide (max s e.d ≤ 40)) (fun n s W => CI (boxed w v (.slice a f.len c)) (w.heap.size + 1) s W ∧ s ≤ 8000) 8000 35 #[.pointer (some ⟨w.heap.size + 1, 0, none⟩)] (boxed w v (.slice a f.len c)) ent31 (fun n s W h => h.1.q)
    (fun n s W b o v' ka kc ks d hn h _ _ _ _ _ hd => (cl31 _ _ s W _ d h.1 (by omega) (by omega)).mono fun e w' ⟨q1, q2⟩ => ⟨q1, q2, by show max s d ≤ 8000; omega⟩) (f.size + 1) f (by omega) v a c w.heap.size 0 1 0 0 _ (at_boxed w v _) hv (hin.keep (Nat.le_refl _) (boxed_q _ _ _)) hs ⟨CI.start w v _, by omega⟩ (by omega) (by omega) (by omega))
  have hm := (wkDepth (.cons v a c f .nil) (some ⟨w.heap.size, 0, none⟩) 1 0 (by omega) (by omega) (by omega)).1
  rw [hm] at HC
  clear hm hin hs
  have em : min (max 0 (1 + (Fo.cons v a c f .nil).depth - 1)) 41 = min (f.depth + 1) 41 := by simp [Fo.depth]
  rw [em] at HC
  obtain ⟨M, hM⟩ : ∃ M, min (f.depth + 1) 41 = M := ⟨_, rfl⟩
  rw [hM] at HC ⊢
  clear em hM
  go_enter Tryz.func22, Tryz.ntmps22
  go_wp2_with (go_at_call 34; refine HC.out.mono ?_; rintro e x ⟨n', h1, rfl, h2, h3⟩; have hcc := h2.cell; have HH := hideIt h2; clear h2 h1 h3)
  go_ret
  exact ⟨rfl, (boxed_q _ _ _).trans HH.out.q⟩

end Go.Proofs.YtoilhcklflmamaaGreatDoor
