/-
  What a new walk holds is fit to go back: facts on lists; the conditions: the function's registers and parts are some of its own.
  Word after word: what all parts' lists hold behind some words: facts on lists; no conditions but those that each fact bears.
  Of each part what is live at its beginning and behind its end (Parts of live), where the code is right and there is that function: a contract over the program; the conditions: the code lies in memory, the function's registers and parts are some of its own.
  Parts of live where the code is wrong, or there is no such function: contracts over the program; the conditions: the code lies in memory.
-/
import Derived.Test.YtdiidmmmemmjjaaDoorKLvP
import Derived.Test.YtdiidmmmemmjjaaDoorKLvV
import Derived.Test.YtdiidmmmemmjjaaDoorKIrN
namespace Go.Proofs.YtdiidmmmemmjjaaDoor.Lv
open Go.RowKit
set_option linter.unusedVariables false

def gE (many : Nat) (e : Int × Int) : Prop := inM many e.1 ∧ U64 e.2 ∧ e.2 ≠ 0
/-- The lists of a walk that has looked, not gone back. -/
structure Gd (many : Nat) (es : Es) : Prop where
  rd : ∀ a, ∀ e ∈ es (.rd a), gE many e
  wt : ∀ a, ∀ e ∈ es (.wt a), gE many e
  fr : ∀ k, ∀ e ∈ es (.fr k), inM many e.1
  inn : ∀ k, es (.inn k) = []
  out : ∀ k, es (.out k) = []
  work : es .work = []
theorem bitN_good (r : Nat) : U64 (bitN r) ∧ bitN r ≠ 0 := by
  have h1 : 2 ^ (r % 64) < 2 ^ 64 := Nat.pow_lt_pow_right (by omega) (by omega)
  have h2 : 0 < 2 ^ (r % 64) := Nat.pow_pos (by omega)
  unfold bitN
  exact ⟨U64.nat h1, by omega⟩
theorem push_good {many : Nat} {l : List (Int × Int)} (h : ∀ e ∈ l, gE many e) {e : Int × Int} (he : gE many e) : ∀ x ∈ pushL l e, gE many x := fun x hx => by
  unfold pushL at hx
  split at hx
  · rcases List.mem_append.1 hx with q | q
    · exact h x q
    · simp at q; subst q; exact he
  · rename_i hz
    rcases List.mem_append.1 hx with q | q
    · exact h x ((List.dropLast_sublist l).subset q)
    · simp at q
      subst q
      have hu : U64 (lastOf l e.1) := by
        unfold lastOf at hz ⊢
        split
        · rename_i y hy
          split
          · exact (h y (List.mem_of_getLast? hy)).2.1
          · exact U64.zero
        · exact U64.zero
      exact ⟨he.1, hu.or he.2.1, or_ne hu he.2.1 hz⟩
section
variable {many : Nat} {es : Es}
theorem Gd.putR (h : Gd many es) (a : Nat) {e : Int × Int} (he : gE many e) : Gd many (upd es (.rd a) (pushL (es (.rd a)) e)) := by
  have eo : ∀ m, m ≠ .rd a → upd es (.rd a) (pushL (es (.rd a)) e) m = es m := fun m hm => upd_other _ _ hm
  have es' : upd es (.rd a) (pushL (es (.rd a)) e) (.rd a) = pushL (es (.rd a)) e := upd_same _ _ _
  refine ⟨fun c x hx => ?_, fun c => ?_, fun c => ?_, fun c => ?_, fun c => ?_, ?_⟩
  · by_cases q : c = a
    · subst q; rw [es'] at hx; exact push_good (h.rd c) he x hx
    · rw [eo _ (fun p => q (by injection p))] at hx; exact h.rd c x hx
  · rw [eo _ (fun p => by cases p)]; exact h.wt c
  · rw [eo _ (fun p => by cases p)]; exact h.fr c
  · rw [eo _ (fun p => by cases p)]; exact h.inn c
  · rw [eo _ (fun p => by cases p)]; exact h.out c
  · rw [eo _ (fun p => by cases p)]; exact h.work
theorem Gd.putW (h : Gd many es) (a : Nat) {e : Int × Int} (he : gE many e) : Gd many (upd es (.wt a) (pushL (es (.wt a)) e)) := by
  have eo : ∀ m, m ≠ .wt a → upd es (.wt a) (pushL (es (.wt a)) e) m = es m := fun m hm => upd_other _ _ hm
  have es' : upd es (.wt a) (pushL (es (.wt a)) e) (.wt a) = pushL (es (.wt a)) e := upd_same _ _ _
  refine ⟨fun c => ?_, fun c x hx => ?_, fun c => ?_, fun c => ?_, fun c => ?_, ?_⟩
  · rw [eo _ (fun p => by cases p)]; exact h.rd c
  · by_cases q : c = a
    · subst q; rw [es'] at hx; exact push_good (h.wt c) he x hx
    · rw [eo _ (fun p => q (by injection p))] at hx; exact h.wt c x hx
  · rw [eo _ (fun p => by cases p)]; exact h.fr c
  · rw [eo _ (fun p => by cases p)]; exact h.inn c
  · rw [eo _ (fun p => by cases p)]; exact h.out c
  · rw [eo _ (fun p => by cases p)]; exact h.work
theorem Gd.putF (h : Gd many es) (a : Nat) {n : Nat} (hn : n < many) : Gd many (upd es (.fr a) (es (.fr a) ++ [((n : Int), 0)])) := by
  have eo : ∀ m, m ≠ .fr a → upd es (.fr a) (es (.fr a) ++ [((n : Int), 0)]) m = es m := fun m hm => upd_other _ _ hm
  have es' : upd es (.fr a) (es (.fr a) ++ [((n : Int), 0)]) (.fr a) = es (.fr a) ++ [((n : Int), 0)] := upd_same _ _ _
  refine ⟨fun c => ?_, fun c => ?_, fun c x hx => ?_, fun c => ?_, fun c => ?_, ?_⟩
  · rw [eo _ (fun p => by cases p)]; exact h.rd c
  · rw [eo _ (fun p => by cases p)]; exact h.wt c
  · by_cases q : c = a
    · subst q
      rw [es'] at hx
      rcases List.mem_append.1 hx with r | r
      · exact h.fr c x r
      · simp at r; subst r; exact ⟨by omega, by omega⟩
    · rw [eo _ (fun p => q (by injection p))] at hx; exact h.fr c x hx
  · rw [eo _ (fun p => by cases p)]; exact h.inn c
  · rw [eo _ (fun p => by cases p)]; exact h.out c
  · rw [eo _ (fun p => by cases p)]; exact h.work
theorem Gd.read (h : Gd many es) {n : Nat} (hn : n < many) (r : Nat) : Gd many (readE es n r) := by
  unfold readE
  split
  · exact h.putR _ ⟨⟨by omega, by omega⟩, bitN_good r⟩
  · exact h
theorem Gd.readL (h : Gd many es) {n : Nat} (hn : n < many) (L : List Int) : Gd many (readL es n L) := by
  unfold Lv.readL
  induction L generalizing es with
  | nil => exact h
  | cons r L ih => exact ih (h.read hn r.toNat)
theorem Gd.lookI (h : Gd many es) {n : Nat} (hn : n < many) (x : PI) : Gd many (lookI es n x) := by
  unfold Lv.lookI
  split
  · exact (h.readL hn _).putW _ ⟨⟨by omega, by omega⟩, bitN_good _⟩
  · exact h.readL hn _
theorem Gd.lookL (h : Gd many es) {n : Nat} (hn : n < many) (l : List PI) : Gd many (lookL es n l) := by
  unfold Lv.lookL
  induction l generalizing es with
  | nil => exact h
  | cons x l ih => exact ih (h.lookI hn x)
theorem Gd.lookP (h : Gd many es) {n : Nat} (hn : n < many) (p : PP) : Gd many (lookP es n p) := by
  unfold Lv.lookP
  split
  · exact h.lookL hn _
  · exact (h.lookL hn _).read hn _
theorem Gd.from (h : Gd many es) {n : Nat} (hn : n < many) (L : List Int) : Gd many (fromE es n L) := by
  unfold fromE
  induction L generalizing es with
  | nil => exact h
  | cons r L ih => exact ih (h.putF r.toNat hn)
end
theorem walk_good (l : List PP) : Gd l.length (walkE l) := by
  have h : ∀ n, n ≤ l.length → Gd l.length (walkE (l.take n)) := fun n => by
    induction n with
    | zero => intro _; exact ⟨by simp [walkE], by simp [walkE], by simp [walkE], by simp [walkE], by simp [walkE], by simp [walkE]⟩
    | succ n ih =>
      intro hn
      obtain ⟨p, hp⟩ := get_of_lt (l := l) (k := n) (by omega)
      rw [take_snoc hp, walkE_snoc, List.length_take_of_le (by omega)]
      unfold stepE
      exact ((ih (by omega)).from (by omega) _).lookP (by omega) p
  have := h l.length (Nat.le_refl _)
  rwa [List.take_length] at this

end Go.Proofs.YtdiidmmmemmjjaaDoor.Lv

namespace Go.Proofs.YtdiidmmmemmjjaaDoor.Lv
open Go.RowKit
set_option linter.unusedVariables false

/-- The words ahead of one that are not empty. -/
def wordsOf (g : Nat → Int) : Nat → List (Int × Int)
  | 0 => []
  | a + 1 => if g a = 0 then wordsOf g a else wordsOf g a ++ [((a : Int), g a)]
theorem wordsOf_lt (g : Nat → Int) : ∀ a, ∀ e ∈ wordsOf g a, 0 ≤ e.1 ∧ e.1 < a := fun a => by
  induction a with
  | zero => intro e he; simp [wordsOf] at he
  | succ a ih =>
    intro e he
    unfold wordsOf at he
    split at he
    · have := ih e he; omega
    · rcases List.mem_append.1 he with q | q
      · have := ih e q; omega
      · simp at q; subst q; exact ⟨by omega, by omega⟩
theorem wordsOf_len (g : Nat → Int) : ∀ a, (wordsOf g a).length ≤ a := fun a => by
  induction a with
  | zero => simp [wordsOf]
  | succ a ih =>
    unfold wordsOf
    split
    · omega
    · simp; omega
theorem wordsOf_last (g : Nat → Int) (a c : Nat) (hc : a ≤ c) : lastOf (wordsOf g a) c = 0 := by
  unfold lastOf
  split
  · rename_i e he
    have := wordsOf_lt g a e (List.mem_of_getLast? he)
    rw [if_neg (by omega)]
  · rfl
theorem wordsOf_congr {g h : Nat → Int} : ∀ {a : Nat}, (∀ c, c < a → g c = h c) → wordsOf g a = wordsOf h a := fun {a} e => by
  induction a with
  | zero => rfl
  | succ a ih =>
    unfold wordsOf
    rw [ih (fun c hc => e c (by omega)), e a (by omega)]
/-- One more. -/
theorem Sh.words {g : Nat → Int} {a : Nat} {l : List (Int × Int)} (h : Sh a (wordsOf g a) l) : l = wordsOf (fun c => if c = a then lastOf l a else g c) (a + 1) := by
  have hc : wordsOf (fun c => if c = a then lastOf l a else g c) a = wordsOf g a := wordsOf_congr (fun c hc => by simp; omega)
  unfold wordsOf
  rw [hc]
  obtain ⟨h0, e | ⟨x, hx, hn, e⟩⟩ := h
  · have : lastOf l a = 0 := by rw [e]; exact h0
    simp only [if_true, this]
    exact e
  · have : lastOf l a = x := by rw [e]; exact last_snoc _ _ _
    rw [this]
    simp only [if_true]
    rw [if_neg hn]
    exact e

abbrev Wv (many : Nat) (e0 : Es) (c : Nat) : List Int := setW (List.replicate many 0) (e0 (.wt c))
/-- Behind some words. -/
structure Pg (many : Nat) (e0 : Es) (a : Nat) (gi go : Nat → Nat → Int) (es : Es) : Prop where
  oth : ∀ m, m.lv = false → es m = e0 m
  work : es .work = []
  inn : ∀ k, k < many → es (.inn k) = wordsOf (gi k) a
  out : ∀ k, k < many → es (.out k) = wordsOf (go k) a
  gI : ∀ k, k < many → ∀ c, c < a → U64 (gi k c) ∧ ∀ b, tb (gi k c) b = true ↔ LV c (Wv many e0 c) e0 k b
  gO : ∀ k, k < many → ∀ c, c < a → U64 (go k c) ∧ ∀ b, tb (go k c) b = true ↔ ∃ s, s < many ∧ tF e0 s k ∧ LV c (Wv many e0 c) e0 s b
theorem LV_same {a : Nat} {wo : List Int} {es e0 : Es} (h : ∀ m, m.lv = false → es m = e0 m) : LV a wo es = LV a wo e0 := by
  have h1 : es (.rd a) = e0 (.rd a) := h _ rfl
  have h2 : tF es = tF e0 := by funext k p; unfold tF; rw [h (.fr k) rfl]
  unfold LV
  rw [h1, h2]
theorem tF_same {es e0 : Es} (h : ∀ m, m.lv = false → es m = e0 m) : tF es = tF e0 := by funext k p; unfold tF; rw [h (.fr k) rfl]
theorem Pg.step {many a : Nat} {e0 es es' : Es} {gi go : Nat → Nat → Int} (h : Pg many e0 a gi go es) (t : Told many a (Wv many e0 a) es es') : Pg many e0 (a + 1) (fun k c => if c = a then lastOf (es' (.inn k)) a else gi k c) (fun k c => if c = a then lastOf (es' (.out k)) a else go k c) es' := by
  refine ⟨fun m hm => (t.oth m hm).trans (h.oth m hm), t.work, fun k hk => ?_, fun k hk => ?_, fun k hk c hc => ?_, fun k hk c hc => ?_⟩
  · have := (t.inn k hk).1
    rw [h.inn k hk] at this
    exact this.words
  · have := (t.out k hk).1
    rw [h.out k hk] at this
    exact this.words
  · by_cases e : c = a
    · subst e
      simp only [if_true]
      refine ⟨(t.inn k hk).1.u, fun b => ?_⟩
      have := (t.inn k hk).2 b
      rw [LV_same h.oth] at this
      exact this
    · simp only [if_neg e]
      exact h.gI k hk c (by omega)
  · by_cases e : c = a
    · subst e
      simp only [if_true]
      refine ⟨(t.out k hk).1.u, fun b => ?_⟩
      have := (t.out k hk).2 b
      rw [LV_same h.oth, tF_same h.oth] at this
      exact this
    · simp only [if_neg e]
      exact h.gO k hk c (by omega)

theorem setW_get (l : List (Int × Int)) (h : ∀ e ∈ l, U64 e.2) : ∀ (wo : List Int), (∀ (k : Nat) (x : Int), wo[k]? = some x → U64 x) → ∀ (k : Nat) (x : Int), (setW wo l)[k]? = some x → U64 x := by
  induction l with
  | nil => intro wo hw; exact hw
  | cons e l ih =>
    intro wo hw k x hx
    refine ih (fun y hy => h y (List.mem_cons_of_mem _ hy)) (wo.set e.1.toNat e.2) (fun j z hz => ?_) k x hx
    rw [List.getElem?_set] at hz
    split at hz
    · split at hz
      · simp at hz; subst hz; exact h e (List.mem_cons_self ..)
      · cases hz
    · exact hw j z hz
theorem clr_get (l : List (Int × Int)) : ∀ (wo : List Int) (k : Nat), (clrW wo l)[k]? = if (∃ e ∈ l, e.1.toNat = k) ∧ k < wo.length then some 0 else wo[k]? := by
  induction l with
  | nil => intro wo k; simp [clrW]
  | cons e l ih =>
    intro wo k
    have := ih (wo.set e.1.toNat 0) k
    simp only [clrW, List.foldl_cons] at this ⊢
    rw [this, List.length_set, List.getElem?_set]
    by_cases h2 : k < wo.length
    · by_cases h1 : ∃ x ∈ l, x.1.toNat = k
      · rw [if_pos ⟨h1, h2⟩, if_pos ⟨by obtain ⟨x, hx, q⟩ := h1; exact ⟨x, List.mem_cons_of_mem _ hx, q⟩, h2⟩]
      · rw [if_neg (fun q => h1 q.1)]
        by_cases h3 : e.1.toNat = k
        · rw [if_pos h3, if_pos (by omega), if_pos ⟨⟨e, List.mem_cons_self .., h3⟩, h2⟩]
        · rw [if_neg h3, if_neg (fun q => ?_)]
          obtain ⟨x, hx, r⟩ := q.1
          rcases List.mem_cons.1 hx with s | s
          · subst s; exact h3 r
          · exact h1 ⟨x, s, r⟩
    · have hn : wo[k]? = none := by simp; omega
      rw [if_neg (fun q => h2 q.2), if_neg (c := (∃ x ∈ e :: l, x.1.toNat = k) ∧ k < wo.length) (fun q => h2 q.2), hn]
      split
      · rw [if_neg (by omega)]
      · rfl
theorem setW_other (l : List (Int × Int)) (k : Nat) (h : ¬ ∃ e ∈ l, e.1.toNat = k) : ∀ wo : List Int, (setW wo l)[k]? = wo[k]? := by
  induction l with
  | nil => intro wo; rfl
  | cons e l ih =>
    intro wo
    have := ih (fun ⟨x, hx, q⟩ => h ⟨x, List.mem_cons_of_mem _ hx, q⟩) (wo.set e.1.toNat e.2)
    simp only [setW, List.foldl_cons] at this ⊢
    rw [this, List.getElem?_set_ne (fun q => h ⟨e, List.mem_cons_self .., q⟩)]
theorem clr_set (many : Nat) (l : List (Int × Int)) : clrW (setW (List.replicate many 0) l) l = List.replicate many 0 := by
  refine List.ext_getElem? (fun k => ?_)
  rw [clr_get]
  by_cases h1 : ∃ e ∈ l, e.1.toNat = k
  · by_cases h2 : k < many
    · rw [if_pos ⟨h1, by rw [setW_len]; simpa using h2⟩]; simp [h2]
    · rw [if_neg (fun q => h2 (by have := q.2; rw [setW_len] at this; simpa using this))]
      have e1 : (setW (List.replicate many 0) l)[k]? = none := by simp [setW_len]; omega
      rw [e1]
      simp
      omega
  · rw [if_neg (fun q => h1 q.1), setW_other l k h1]
theorem miss_64 (x : Int) : miss x ≤ 64 := by
  have := List.countP_le_length (p := fun b => !tb x b) (l := List.range 64)
  simpa [miss] using this
theorem sumK_const {f : Nat → Nat} {c : Nat} : ∀ {many : Nat}, (∀ k, f k ≤ c) → sumK many f ≤ many * c := fun {many} h => by
  induction many with
  | zero => simp [sumK]
  | succ n ih =>
    have h2 := h n
    simp only [sumK, List.range_succ, List.map_append, List.sum_append, List.map_cons, List.map_nil, List.sum_cons, List.sum_nil] at ih ⊢
    rw [Nat.succ_mul]
    omega
theorem Pg.fit {many a : Nat} {e0 es : Es} {gi go : Nat → Nat → Int} (g : Gd many e0) (h : Pg many e0 a gi go es) (ha : a + 1 ≤ bd) (hm : many * 192 ≤ bd) : Fit many a (Wv many e0 a) es (many * 192) := by
  refine ⟨by rw [setW_len]; simp, setW_get _ (fun e he => (g.wt a e he).2.1) _ (fun k x hx => ?_), fun k hk => ?_, fun k hk => ?_, h.work, fun e he => ?_, fun k hk e he => ?_, ?_, hm⟩
  · rw [List.getElem?_replicate] at hx
    split at hx
    · simp at hx; subst hx; exact U64.zero
    · cases hx
  · rw [h.inn k hk]
    exact ⟨wordsOf_last _ _ _ (Nat.le_refl _), by have := wordsOf_len (gi k) a; omega⟩
  · rw [h.out k hk]
    exact ⟨wordsOf_last _ _ _ (Nat.le_refl _), by have := wordsOf_len (go k) a; omega⟩
  · rw [h.oth _ rfl] at he
    exact g.rd a e he
  · rw [h.oth _ rfl] at he
    exact g.fr k e he
  · unfold muE
    rw [h.work]
    have := sumK_const (many := many) (f := fun k => 2 * miss (lastOf (es (.inn k)) a) + miss (lastOf (es (.out k)) a)) (c := 192) (fun k => by
      have h1 := miss_64 (lastOf (es (.inn k)) a)
      have h2 := miss_64 (lastOf (es (.out k)) a)
      omega)
    simpa using this

end Go.Proofs.YtdiidmmmemmjjaaDoor.Lv

namespace Go.Proofs.YtdiidmmmemmjjaaDoor.Lv
open Go.RowKit
set_option linter.unusedVariables false

set_option maxRecDepth 100000 in
set_option maxHeartbeats 8000000 in
theorem parts_good (w : World) (c : PC) (hc : c.ok w) (hv : validP c = 0) (fn : Nat) (f : PF) (hf : c.fns[fn]? = some f) (many words : Nat) (hok : okF f many words) (hm : many * 192 ≤ 1099511627775) :
    Calls Tryd.prog 10 #[c.v, .int .i64 (fn : Int)] w fun e w' => ∃ base B v es gi go, e = .returned (.tuple #[.slice (some ⟨B.In, 0, none⟩) many many, .slice (some ⟨B.Ou, 0, none⟩) many many, .int .i64 0]) ∧ w.heap.size ≤ base ∧ WM w' base B many words v es (List.replicate many 0) ∧ Pg many (walkE f.parts) words gi go es ∧ Q w w' := by
  have hlt := (List.getElem?_eq_some_iff.1 hf).1
  have hfl : (fn : Int) < (c.fns.length : Int) := by omega
  have hfl2 := hc.fsok.len
  have q0 : Q w (bxC w c) := (Q.refl w).alloc _
  have VA := hideIt (valid_any (bxC w c) c (hc.keep q0))
  rw [hv] at VA
  have HB := hideIt (fun w' (h : Q (bxC w c) w') => (bxC_at h).three)
  have HQ0 := hideIt q0
  have HC := hideIt hc
  have HOK := hideIt hok
  have HFN := hideIt hf
  obtain ⟨b0, b1, b2⟩ := HB.out _ (Q.refl _)
  have hwl : words ≤ 9223372036854775807 := by have := hok.regs; omega
  clear hc hv hf hok q0
  rcases c with ⟨gl, ini, fns, ga, gc, na, nc, fa, fc⟩
  dsimp only [PC.v, bxC] at *
  go_enter Tryd.func10, Tryd.ntmps10
  go_wp2_with (first | (go_at_call 21; refine VA.out.mono ?_; rintro e y ⟨rfl, qy⟩; have HY := hideIt qy; have hb2 := (HB.out y qy).2.2; obtain ⟨fb, fo, ea, hat, hfo⟩ := (HC.out.keep (HQ0.out.trans qy)).fns fn f HFN.out; obtain ⟨d0, d1, d2, d3⟩ := hat.four; have NW := hideIt (newWalk_any y f hfo many words HOK.out); dsimp only at ea; subst ea; clear qy hat hfo) | (go_at_call 22; refine NW.out.mono ?_; rintro e z0 ⟨B, v, rfl, hwm, qz⟩; have HWM := hideIt hwm; have HQZ := hideIt qz; have c1 := hwm.c1; clear hwm qz) | fail)
  clear c1 d0 d1 d2 d3 hb2 b0 b1 b2 VA NW
  have HG : Hid (Gd many (walkE f.parts) ∧ ∀ m, (walkE f.parts m).length ≤ 1099511627000) := ⟨by have := walk_good f.parts; rw [HOK.out.len] at this; exact this, fun m => Nat.le_trans (Bd.walk f.parts m) HOK.out.size⟩
  have HS : Hid (w.heap.size ≤ y.heap.size ∧ y.heap.size ≤ z0.heap.size) := ⟨Nat.le_trans HQ0.out.size HY.out.size, HQZ.out.size⟩
  have H0 : Hid ((∃ v es gi go, WM z0 y.heap.size B many words v es (List.replicate many 0) ∧ Pg many (walkE f.parts) 0 gi go es) ∧ Q w z0 ∧ y.heap.size ≤ z0.heap.size) := by
    refine ⟨⟨v, _, (fun _ _ => 0), (fun _ _ => 0), HWM.out, ⟨fun m _ => rfl, HG.out.1.work, fun k _ => HG.out.1.inn k, fun k _ => HG.out.1.out k, fun k _ c hc => by omega, fun k _ c hc => by omega⟩⟩, (HQ0.out.trans HY.out).trans HQZ.out, HQZ.out.size⟩
  have hwb : words ≤ 1099511627000 := by have := HOK.out.regs; omega
  clear HWM HQZ HQ0 HY HB HC HFN
  go_loopw [35] (fun iv z => ∃ a : Nat, iv = .int .i64 (a : Int) ∧ a ≤ words ∧ Hid ((∃ v es gi go, WM z y.heap.size B many words v es (List.replicate many 0) ∧ Pg many (walkE f.parts) a gi go es) ∧ Q w z ∧ y.heap.size ≤ z.heap.size)) (fun iv _ => words - (intOf iv).toNat)
  case atStart => exact ⟨0, rfl, Nat.zero_le _, H0.out⟩
  case round =>
    obtain ⟨a, rfl, ha, HI⟩ := hrel
    generalize wr = z at *
    clear H0
    by_cases hla : a < words
    · have hal : (a : Int) < (words : Int) := by omega
      have BK : Hid (Calls Tryd.prog 23 #[.pointer (some ⟨B.Wk, 0, none⟩), .int .i64 (a : Int)] z fun r w' => r = .returned (.tuple #[]) ∧ ((∃ v es gi go, WM w' y.heap.size B many words v es (List.replicate many 0) ∧ Pg many (walkE f.parts) (a + 1) gi go es) ∧ Q w w' ∧ y.heap.size ≤ w'.heap.size)) := by
        obtain ⟨⟨v1, es, gi, go, m1, p1⟩, q1, s1⟩ := HI.out
        have ewt : es (.wt a) = walkE f.parts (.wt a) := p1.oth _ rfl
        have erd : es (.rd a) = walkE f.parts (.rd a) := p1.oth _ rfl
        have ft := p1.fit HG.out.1 (show a + 1 ≤ bd by unfold bd; omega) hm
        have hbl : ∀ m, (walkE f.parts m).length ≤ bd := fun m => Nat.le_trans (HG.out.2 m) (by unfold bd; omega)
        refine (back_live z y.heap.size B many words v1 es (List.replicate many 0) m1 s1 a hla (many * 192) (by rw [ewt]; exact ft) (fun e he => by rw [ewt] at he; exact (HG.out.1.wt a e he).1) (by rw [ewt]; exact hbl _) (by rw [erd]; exact hbl _) (fun k _ => by rw [p1.oth (.fr k) rfl]; exact hbl _)).mono ?_
        rintro e z2 ⟨rfl, ⟨v2, es2, m2, t2, -⟩, b2⟩
        rw [clr_set] at m2
        rw [ewt] at t2
        refine ⟨rfl, ⟨v2, es2, _, _, m2, p1.step t2⟩, ?_, Nat.le_trans s1 b2.size⟩
        have hs := HS.out.1
        exact Below.trans q1 ⟨b2.os, b2.tape, b2.output, b2.size, fun b hb => b2.block b (by omega)⟩
      go_wp2_with (first | (go_at_call 23; refine BK.out.mono ?_; rintro e z2 ⟨rfl, hz⟩; have HZ := hideIt hz; clear hz) | fail)
      exact ⟨⟨a + 1, by go_num, by omega, HZ.out⟩, by simp [intOf]; omega⟩
    · have hal : ¬ (a : Int) < (words : Int) := by omega
      have ea : a = words := by omega
      have M1 := HI.out
      rw [ea] at M1
      obtain ⟨⟨v1, es, gi, go, m1, p1⟩, q1, s1⟩ := M1
      have c3 := m1.c3
      have c4 := m1.c4
      have HM1 := hideIt m1
      have HP1 := hideIt p1
      have HQ1 := hideIt q1
      clear HI m1 p1 q1 s1
      go_wp2_with (fail)
      go_region
      all_goals go_wp2_with (fail)
      all_goals go_ret3
      all_goals exact ⟨y.heap.size, B, v1, es, gi, go, rfl, HS.out.1, HM1.out.q (Q.refl z).drew, HP1.out, HQ1.out.drew⟩

end Go.Proofs.YtdiidmmmemmjjaaDoor.Lv

namespace Go.Proofs.YtdiidmmmemmjjaaDoor.Lv
open Go.RowKit
set_option linter.unusedVariables false

set_option maxRecDepth 100000 in
set_option maxHeartbeats 4000000 in
theorem parts_wrong (w : World) (c : PC) (hc : c.ok w) (hv : validP c ≠ 0) (fn : Int) :
    Calls Tryd.prog 10 #[c.v, .int .i64 fn] w fun e w' => e = .returned (.tuple #[.slice none 0 0, .slice none 0 0, .int .i64 (validP c)]) ∧ Q w w' := by
  have q0 : Q w (bxC w c) := (Q.refl w).alloc _
  have VA := hideIt (valid_any (bxC w c) c (hc.keep q0))
  have HB := hideIt (fun w' (h : Q (bxC w c) w') => (bxC_at h).three)
  have HQ0 := hideIt q0
  obtain ⟨b0, b1, b2⟩ := HB.out _ (Q.refl _)
  generalize validP c = vv at *
  have hv1 : (vv != 0) = true := by simpa using hv
  clear hc hv q0
  rcases c with ⟨gl, ini, fns, ga, gc, na, nc, fa, fc⟩
  dsimp only [PC.v, bxC] at *
  go_enter Tryd.func10, Tryd.ntmps10
  go_wp2_with (first | (go_at_call 21; refine VA.out.mono ?_; rintro e y ⟨rfl, qy⟩; have HY := hideIt qy; clear qy) | fail)
  go_ret3
  exact ⟨rfl, HQ0.out.trans HY.out⟩

set_option maxRecDepth 100000 in
set_option maxHeartbeats 4000000 in
theorem parts_none (w : World) (c : PC) (hc : c.ok w) (hv : validP c = 0) (fn : Int) (hf : fn < 0 ∨ (c.fns.length : Int) ≤ fn) :
    Calls Tryd.prog 10 #[c.v, .int .i64 fn] w fun e w' => e = .returned (.tuple #[.slice none 0 0, .slice none 0 0, .int .i64 12]) ∧ Q w w' := by
  have hfl2 := hc.fsok.len
  have q0 : Q w (bxC w c) := (Q.refl w).alloc _
  have VA := hideIt (valid_any (bxC w c) c (hc.keep q0))
  rw [hv] at VA
  have HB := hideIt (fun w' (h : Q (bxC w c) w') => (bxC_at h).three)
  have HQ0 := hideIt q0
  obtain ⟨b0, b1, b2⟩ := HB.out _ (Q.refl _)
  clear hc hv q0
  rcases c with ⟨gl, ini, fns, ga, gc, na, nc, fa, fc⟩
  dsimp only [PC.v, bxC] at *
  by_cases h1 : fn < 0
  · have h1' : decide (fn < 0) = true := by simpa using h1
    clear hf h1
    go_enter Tryd.func10, Tryd.ntmps10
    go_wp2_with (first | (go_at_call 21; refine VA.out.mono ?_; rintro e y ⟨rfl, qy⟩; have HY := hideIt qy; have hb2 := (HB.out y qy).2.2; clear qy) | fail)
    go_ret3
    exact ⟨rfl, HQ0.out.trans HY.out⟩
  · have h1' : decide (fn < 0) = false := by simpa using h1
    have h2 : (fns.length : Int) ≤ fn := by rcases hf with q | q; exact absurd q h1; exact q
    clear hf h1
    go_enter Tryd.func10, Tryd.ntmps10
    go_wp2_with (first | (go_at_call 21; refine VA.out.mono ?_; rintro e y ⟨rfl, qy⟩; have HY := hideIt qy; have hb2 := (HB.out y qy).2.2; clear qy) | fail)
    go_ret3
    exact ⟨rfl, HQ0.out.trans HY.out⟩

end Go.Proofs.YtdiidmmmemmjjaaDoor.Lv
