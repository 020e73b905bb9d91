/-
  What Copy makes: a tree of new memory; contracts over the program; the conditions: the argument is a tree of at most 7000 nodes that lies in memory.
-/
import Derived.Test.YtioeoillogpdoaaCells
namespace Go.Proofs.Ytioeoillogpdoaa
open Go.RowKit
set_option linter.unusedVariables false

/-- All but the blocks S, and new ones, is as it was. -/
structure Fr (S : Nat → Prop) (w w' : World) : Prop where
  os : w'.os = w.os
  tape : w'.tape = w.tape
  output : w'.output = w.output
  size : w.heap.size ≤ w'.heap.size
  block : ∀ k, k < w.heap.size → ¬ S k → w'.heap[k]? = w.heap[k]?

theorem Fr.refl (S : Nat → Prop) (w : World) : Fr S w w := ⟨rfl, rfl, rfl, Nat.le_refl _, fun _ _ _ => rfl⟩
theorem Fr.trans {S : Nat → Prop} {a b c : World} (h : Fr S a b) (k : Fr S b c) : Fr S a c :=
  ⟨k.os.trans h.os, k.tape.trans h.tape, k.output.trans h.output, Nat.le_trans h.size k.size, fun j hj hn => (k.block j (Nat.lt_of_lt_of_le hj h.size) hn).trans (h.block j hj hn)⟩
/-- Behind a first step the second one may have written what the first one made, too. -/
theorem Fr.trans' {S T : Nat → Prop} {a b c : World} (h : Fr S a b) (k : Fr T b c) (hT : ∀ j, T j → S j ∨ a.heap.size ≤ j) : Fr S a c :=
  ⟨k.os.trans h.os, k.tape.trans h.tape, k.output.trans h.output, Nat.le_trans h.size k.size, fun j hj hn => (k.block j (Nat.lt_of_lt_of_le hj h.size) (fun ht => (hT j ht).elim hn (fun g => by omega))).trans (h.block j hj hn)⟩
theorem Fr.mono {S T : Nat → Prop} {a b : World} (h : Fr S a b) (hs : ∀ j, S j → T j) : Fr T a b :=
  ⟨h.os, h.tape, h.output, h.size, fun j hj hn => h.block j hj (fun s => hn (hs j s))⟩
theorem Fr.drewN {S : Nat → Prop} {a w : World} (h : Fr S a w) (n : Nat) : Fr S a (w.drewN n) := ⟨h.os, h.tape, h.output, h.size, h.block⟩
theorem Fr.alloc {S : Nat → Prop} {a w : World} (h : Fr S a w) (o : Obj) : Fr S a (w.alloc o) :=
  ⟨h.os, h.tape, h.output, by have := h.size; simp; omega, fun j hj hn => (Below.heap_alloc w o j (Nat.lt_of_lt_of_le hj h.size)).trans (h.block j hj hn)⟩
theorem Fr.setCell {S : Nat → Prop} {a w : World} (h : Fr S a w) {p : Addr} (hp : S p.block ∨ a.heap.size ≤ p.block) (u : Value) : Fr S a (w.setCell p u) :=
  ⟨h.os, h.tape, h.output, by have := h.size; simpa using this, fun j hj hn => (Below.heap_setCell w p u j (fun e => by subst e; exact hp.elim hn (fun g => by omega))).trans (h.block j hj hn)⟩
theorem Fr.grown {S : Nat → Prop} {a w w' : World} {row : Option Nat} (h : Fr S a w) (hg : w.grownBy w' row) (hr : ∀ k, row = some k → S k ∨ a.heap.size ≤ k) : Fr S a w' :=
  ⟨hg.os.trans h.os, hg.tape.trans h.tape, hg.output.trans h.output, Nat.le_trans h.size hg.size,
    fun j hj hn => (hg.block j (Nat.lt_of_lt_of_le hj h.size) (fun e => (hr j e.symm).elim hn (fun g => by omega))).trans (h.block j hj hn)⟩
theorem Fr.below {S : Nat → Prop} {B : Nat} {a w : World} (h : Fr S a w) (hB : B ≤ a.heap.size) (hs : ∀ k, S k → B ≤ k) : Below B a w :=
  ⟨h.os, h.tape, h.output, h.size, fun k hk => h.block k (Nat.lt_of_lt_of_le hk hB) (fun s => by have := hs k s; omega)⟩

/-- A copy of elements of several cells each into a row of one's own. -/
theorem run_copy_sz {P : Program} (w : World) (dT sT ty elem : TypeId) (g dLen dCap : Nat) (a : Addr) (sLen sCap sz : Nat) (cur : Array Value) (t : TypeId) (cs : List Value)
    (hu : P.underlying dT = some (.slice elem)) (hs : (P.info? elem).map (·.size) = some sz)
    (hg : w.heap[g]? = some (.cells cur t (0, 0))) (hn : cs.length = Nat.min sLen dLen * sz)
    (hsrc : ∀ j v, cs[j]? = some v → w.cell? (a.add j) = some v) (hfit : cs.length ≤ cur.size) (h1 : ∀ v ∈ cs, v.oneCell' = true) :
    (Builtin.copy_ #[dT, sT] ty #[.slice (some ⟨g, 0, none⟩) dLen dCap, .slice (some a) sLen sCap]).run P w =
      .ok (goInt (Nat.min sLen dLen)) (w.setRow g (cs ++ cur.toList.drop cs.length).toArray) := by
  have hl := run_loadCells_list (P := P) w a cs hsrc
  have hst := run_storeCells_at P g 0 t cs 0 cur w hg (by simpa using hfit) h1
  cases hq : P.info? elem with
  | none => simp [hq] at hs
  | some i =>
    have hi : i.size = sz := by simpa [hq] using hs
    rw [hn] at hl
    simp [Builtin.copy_, run_underlying hu, Builtin.lenOf, Builtin.firstCells, sizeOf, typeInfo, hq, hi, hl, hst]

theorem wpList_copy_sz {P : Program} {w : World} {ops : Array Oper} {rest : List Oper} {o : Oper} {a : Act} {Q : Exit → Act → World → Prop} (hgd : o.guard = none) (d s : Operand) (dT sT : TypeId)
    (ho : o.op = .call { callee := .builtin .copy, args := #[d, s], argTypes := #[dT, sT] }) (elem : TypeId) (sz : Nat) (hu : P.underlying dT = some (.slice elem)) (hsz : (P.info? elem).map (·.size) = some sz)
    (g n sCap : Nat) (ao : Option Addr) (hd : a.eval d = .slice (some ⟨g, 0, none⟩) n n) (hs : a.eval s = .slice ao n sCap) (hno : ao = none → n = 0 ∧ sCap = 0)
    (cur : Array Value) (t : TypeId) (hg : w.heap[g]? = some (.cells cur t (0, 0))) (cs : List Value) (hn : cs.length = n * sz) (hcur : cur.size = n * sz)
    (hsrc : ∀ ad, ao = some ad → ∀ j v, cs[j]? = some v → w.cell? (ad.add j) = some v) (h1 : ∀ v ∈ cs, v.oneCell' = true)
    (h : ∀ w', w'.heap[g]? = some (.cells cs.toArray t (0, 0)) → Fr (fun k => k = g) w w' → wpList P ops Q rest (a.put o.dst (goInt n)) w') : wpList P ops Q (o :: rest) a w := by
  cases ao with
  | none =>
    obtain ⟨rfl, rfl⟩ := hno rfl
    have hc0 : cs = [] := List.eq_nil_of_length_eq_zero (by simpa using hn)
    subst hc0
    refine wpList_plain hgd fun K hK => ?_
    have hrun := run_copy_nil P w dT sT o.type elem ⟨g, 0, none⟩ 0 0 hu (by rw [hsz]; rfl)
    unfold Oper.wp
    simp [execOp, ho, resolve, invoke, builtin, hd, hs, hrun, Result.andThen]
    refine hK _ _ (h w ?_ (Fr.refl _ _))
    rw [hg]
    have : cur = #[] := Array.eq_empty_of_size_eq_zero (by simpa using hcur)
    rw [this]
  | some ad =>
    refine wpList_plain hgd fun K hK => ?_
    have hrun := run_copy_sz (P := P) w dT sT o.type elem g n n ad n sCap sz cur t cs hu hsz hg (by rw [hn]; simp) (hsrc ad rfl) (by omega) h1
    have e1 : Nat.min n n = n := Nat.min_self n
    rw [e1] at hrun
    unfold Oper.wp
    simp [execOp, ho, resolve, invoke, builtin, hd, hs, hrun, Result.andThen]
    have e : (cs ++ cur.toList.drop cs.length) = cs := by
      rw [List.drop_eq_nil_of_le (by simp; omega), List.append_nil]
    have hk := h (w.setRow g (cs ++ cur.toList.drop cs.length).toArray) (by rw [setRow_heap w g cur _ t _ hg, e]) ⟨rfl, rfl, rfl, by simp, fun k hk hne => setRow_other w g k _ hne⟩
    exact hK _ _ hk

theorem Try.info26 : (Try.prog.info? 26).map (fun i => (i.zero, i.size, i.bytes)) = some (some (.agg #[.int .u8 0, .int .u8 0, .int .u8 0, .int .u8 0, .int .i64 0, .int .i64 0, .int .i64 0, .string ⟨#[]⟩, .string ⟨#[]⟩, .slice none 0 0]), 10, 96) := by kernel_rfl
theorem Try.size26 : (Try.prog.info? 26).map (·.size) = some 10 := by kernel_rfl
theorem made_ten {w : World} {base g n : Nat} {e : TypeId} {xs : List Value} (h : w.ownsRow base e 10 (.slice (some ⟨g, 0, none⟩) n n) n xs) : ∃ cur, w.heap[g]? = some (.cells cur e (0, 0)) ∧ cur.size = n * 10 := by
  rcases h.2 with ⟨h, _⟩ | ⟨g', cap, cur, h, _, hh, _, _, hs, ht⟩
  · simp at h
  · simp at h
    obtain ⟨rfl, rfl⟩ := h
    exact ⟨cur, hh, hs⟩
theorem cellsF_one (f : Fo) : ∀ v ∈ cellsF f, v.oneCell' = true := by
  induction f with
  | nil => intro v h; simp [cellsF] at h
  | cons x a c k r _ ih =>
    intro v h
    simp only [cellsF, List.mem_append] at h
    rcases h with h | h
    · simp [cellsN] at h
      rcases h with h | h | h | h | h | h | h | h | h | h <;> subst h <;> rfl
    · exact ih v h
theorem src_of {w : World} {a : Option Addr} {f : Fo} (h : In w a f) : ∀ ad, a = some ad → ∀ j v, (cellsF f)[j]? = some v → w.cell? (ad.add j) = some v := by
  intro ad e j v hj
  subst e
  obtain ⟨hlt, _⟩ := List.getElem?_eq_some_iff.1 hj
  cases f with
  | nil => simp [cellsF] at hj
  | cons x ka kc k r =>
    obtain ⟨b, o, e, _⟩ := id h
    simp at e
    subst e
    have := h.cells j hlt
    rw [hj] at this
    by_cases hz : j = 0
    · subst hz; simpa [Addr.add] using this
    · simpa [Addr.add, hz] using this

theorem In.setCell {w : World} {B : Nat} {p : Addr} {u : Value} (hp : p.block < B) : ∀ {f : Fo} {a : Option Addr}, In w a f → Lo B a f → In (w.setCell p u) a f := by
  intro f
  induction f with
  | nil => intro a _ _; trivial
  | cons v ka kc k r ihk ihr =>
    rintro a ⟨b, o, rfl, h1, h2, h3, h4, h5⟩ ⟨l1, l2, l3⟩
    refine ⟨b, o, rfl, fun j hj => ?_, h2, h3, ihk h4 l2, ihr h5 l3⟩
    have hb := (l1 _ rfl).1
    rw [World.cell?_setCell_far _ _ _ _ (by simp only at hb ⊢; omega)]
    exact h1 j hj
theorem KI.setCell {w : World} {B : Nat} {p : Addr} {u : Value} (hp : p.block < B) : ∀ {f : Fo}, KI w f → KLo B f → KI (w.setCell p u) f := by
  intro f
  induction f with
  | nil => intro _ _; trivial
  | cons v ka kc k r _ ih =>
    rintro ⟨h2, h3, h4, h5⟩ ⟨l1, l2⟩
    exact ⟨h2, h3, h4.setCell hp l1, ih h5 l2⟩
theorem set_kids (G R : Fo) (v : NF) (ka a' : Option Addr) (kc c' : Nat) (ks ks' : Fo) (h : ks'.len = ks.len) :
    (cellsF (G.app (.cons v ka kc ks R))).toArray.setIfInBounds (G.len * 10 + 9) (.slice a' ks.len c') = (cellsF ((G.app (.cons v a' c' ks' .nil)).app R)).toArray := by
  rw [List.setIfInBounds_toArray]
  congr 1
  rw [cellsF_app, cellsF_app, cellsF_app, ← cellsF_len, List.set_append_right _ _ (by omega), Nat.add_sub_cancel_left]
  simp only [cellsF, List.append_nil, List.append_assoc]
  rw [List.set_append_left _ _ (by rw [cellsN_len]; omega), h]
  rfl
theorem kid_cell (G R : Fo) (v : NF) (ka : Option Addr) (kc : Nat) (ks : Fo) : (cellsF (G.app (.cons v ka kc ks R))).toArray[G.len * 10 + 9]? = some (.slice ka ks.len kc) := by
  rw [List.getElem?_toArray, cellsF_app, ← cellsF_len, List.getElem?_append_right (by omega), Nat.add_sub_cancel_left]
  rfl
theorem take_succ (f : Fo) : ∀ (k : Nat) (v : NF) (ka : Option Addr) (kc : Nat) (ks : Fo), f.drop k = .cons v ka kc ks (f.drop (k + 1)) → f.take (k + 1) = (f.take k).app (.cons v ka kc ks .nil) := by
  induction f with
  | nil => intro k v ka kc ks h; cases k <;> simp [Fo.drop] at h
  | cons x a c kk r _ ih =>
    intro k v ka kc ks h
    cases k with
    | zero =>
      simp only [Fo.drop] at h
      injection h with h1 h2 h3 h4 h5
      subst h1 h2 h3 h4
      rfl
    | succ k =>
      simp only [Fo.drop] at h
      simp only [Fo.take, Fo.app]
      rw [ih k v ka kc ks h]
theorem take_all (f : Fo) : f.take f.len = f := by
  induction f with
  | nil => rfl
  | cons v a c k r _ ih => simp only [Fo.len, Fo.take, ih]
theorem app_nil (f : Fo) : f.app .nil = f := by
  induction f with
  | nil => rfl
  | cons v a c k r _ ih => simp only [Fo.app, ih]

/-- The world in the midst of a copy: k kids are copied, the others are as they were. -/
structure Mid (w : World) (f : Fo) (k : Nat) (wr : World) : Prop where
  ex : ∃ G, wr.heap[w.heap.size]? = some (.cells (cellsF (G.app (f.drop k))).toArray 26 (0, 0)) ∧ G.len = k ∧ Cp (f.take k) G ∧ KI wr G ∧ KLo (w.heap.size + 1) G ∧ KFrN wr G
  q : Q w wr

theorem Mid.next {w wr x : World} {f : Fo} {k : Nat} {v : NF} {ka a' : Option Addr} {kc c' : Nat} {ks ks' : Fo} (h : Mid w f k wr) (e : f.drop k = .cons v ka kc ks (f.drop (k + 1))) (hv : v.ok) (hc : Cp ks ks') (hs : sok a' ks.len c') (hin : In x a' ks') (hlo : Lo wr.heap.size a' ks') (hfr : FrN x a' ks') (hq : Q wr x) :
    Mid w f (k + 1) (x.setCell ⟨w.heap.size, k * 10 + 9, none⟩ (.slice a' ks.len c')) := by
  obtain ⟨⟨G, hb, hl, hcp, hki, hklo, hkf⟩, hQ⟩ := h
  have hg : w.heap.size < wr.heap.size := lt_of_block hb
  have hb2 : x.heap[w.heap.size]? = some (.cells (cellsF (G.app (f.drop k))).toArray 26 (0, 0)) := (hq.block _ hg).trans hb
  have hl2 : Lo (w.heap.size + 1) a' ks' := hlo.mono (by omega)
  refine ⟨⟨G.app (.cons v a' c' ks' .nil), ?_, ?_, ?_, ?_, ?_, ?_⟩, (hQ.trans hq).setCell (Nat.le_refl _) _⟩
  · rw [block_setCell hb2, e, ← hl, set_kids G (f.drop (G.len + 1)) v ka a' kc c' ks ks' hc.len]
  · rw [app_len, hl]; rfl
  · rw [take_succ f k v ka kc ks e]
    exact hcp.app ⟨rfl, hc, trivial⟩
  · refine KI.app (KI.setCell (B := w.heap.size + 1) (by simp) (hki.keep hq) hklo) ⟨hv, by rw [hc.len]; exact hs, In.setCell (B := w.heap.size + 1) (by simp) hin hl2, trivial⟩
  · exact KLo.app hklo ⟨hl2, trivial⟩
  · exact KFrN.app (KFrN.setCell (hkf.keep hq)) ⟨hfr.setCell, trivial⟩
theorem Mid.last {w wr : World} {f : Fo} (h : Mid w f f.len wr) : ∃ f', Cp f f' ∧ In wr (some ⟨w.heap.size, 0, none⟩) f' ∧ Lo w.heap.size (some ⟨w.heap.size, 0, none⟩) f' ∧ FrN wr (some ⟨w.heap.size, 0, none⟩) f' := by
  obtain ⟨⟨G, hb, hl, hcp, hki, hklo, hkf⟩, hQ⟩ := h
  rw [take_all] at hcp
  rw [Fo.drop_all, app_nil] at hb
  refine ⟨G, hcp, In.of_cells (at_block hb 0 _ fun j hj => by simp) hki, ?_, FrN.of_kids (lt_of_block hb) (free_of_block hb) hkf⟩
  refine Lo.of_kids (Nat.le_refl _) rfl ?_
  clear hb hl hcp hki hQ hkf
  induction G with
  | nil => trivial
  | cons v ka kc k r _ ih => exact ⟨hklo.1.mono (by omega), ih hklo.2⟩
theorem Mid.cell {w wr x : World} {f : Fo} {k : Nat} {v : NF} {ka : Option Addr} {kc : Nat} {ks : Fo} (h : Mid w f k wr) (e : f.drop k = .cons v ka kc ks (f.drop (k + 1))) (hq : Q wr x) : x.cell? ⟨w.heap.size, k * 10 + 9, none⟩ = some (.slice ka ks.len kc) ∧ x.frozen? ⟨w.heap.size, k * 10 + 9, none⟩ = false := by
  obtain ⟨⟨G, hb, hl, _⟩, hQ⟩ := h
  have hb2 : x.heap[w.heap.size]? = some (.cells (cellsF (G.app (f.drop k))).toArray 26 (0, 0)) := (hq.block _ (lt_of_block hb)).trans hb
  rw [e, ← hl] at hb2
  refine ⟨?_, free_of_block hb2 _⟩
  rw [cell_of_block hb2, ← hl, kid_cell]

set_option maxRecDepth 100000 in
set_option maxHeartbeats 1000000 in
theorem copies_any (N : Nat) : ∀ (f : Fo), f.size < N → ∀ (a : Option Addr) (c : Nat) (w : World), In w a f → sok a f.len c → f.size ≤ 7000 →
    Calls Try.prog 45 #[.slice a f.len c] w fun e w' => ∃ a' c' f', e = .returned (.slice a' f.len c') ∧ Cp f f' ∧ sok a' f.len c' ∧ In w' a' f' ∧ Lo w.heap.size a' f' ∧ FrN w' a' f' ∧ Q w w' := by
  induction N with
  | zero => intro f h; omega
  | succ N ih =>
    intro f hf a c w hin hs hz
    obtain ⟨i0, hi, hz0, hz1, hz2⟩ := info_parts Try.info26
    by_cases h0 : f.len = 0
    · obtain rfl : f = .nil := by cases f with
        | nil => rfl
        | cons => simp [Fo.len] at h0
      clear hin hs ih
      go_enter Try.func45, Try.ntmps45
      go_wp2_with (fail)
      go_ret
      exact ⟨none, 0, .nil, rfl, trivial, ⟨Nat.le_refl _, Nat.zero_le _, fun _ => rfl⟩, trivial, trivial, trivial, Below.refl _ _⟩
    · have HIN := hideIt hin
      have HIH := hideIt ih
      have hll := f.len_le_size
      obtain ⟨L, hL⟩ : ∃ L, f.len = L := ⟨_, rfl⟩
      have hno : a = none → L = 0 ∧ c = 0 := fun e => by
        exfalso
        subst e
        cases f with
        | nil => simp [Fo.len] at h0
        | cons => obtain ⟨b, o, e, _⟩ := hin; simp at e
      have HNO := hideIt hno
      have HS := hideIt hs
      have hd : (((f.len : Nat) : Int) == 0) = false := by simp; omega
      rw [hL] at hd hll HS ⊢
      have hL0 : ¬ L = 0 := by omega
      have HL := hideIt hL
      clear hin hs ih h0 hno hL
      go_enter Try.func45, Try.ntmps45
      go_wp2_with (first | (at_make; refine wpList_make_full _ rfl (.tmp 9) (.tmp 9) 24 rfl w.heap.size 26 i0 (.agg #[.int .u8 0, .int .u8 0, .int .u8 0, .int .u8 0, .int .i64 0, .int .i64 0, .int .i64 0, .string ⟨#[]⟩, .string ⟨#[]⟩, .slice none 0 0]) 10 Try.underlying24 hi hz0 hz1 .i64 .i64 (L : Int) (L : Int) L rfl rfl rfl rfl (by rw [hz2]; omega) (by unfold maxLen; omega) (Nat.le_refl _) ?_; intro w1 ho1 hg1; have HM := hideIt (made_ten ho1); have HG := hideIt hg1; clear ho1 hg1; obtain ⟨cur, hcur⟩ := HM.out; have HU := hideIt hcur; clear hcur HM) | (refine wpList_copy_sz rfl (.tmp 11) (.tmp 12) 24 24 rfl 26 10 Try.underlying24 Try.size26 w.heap.size L c a rfl rfl HNO.out cur 26 HU.out.1 (cellsF f) (by rw [cellsF_len, HL.out]) HU.out.2 (src_of (HIN.out.keep (Nat.le_refl _) ⟨HG.out.os, HG.out.tape, HG.out.output, HG.out.size, fun k hk => HG.out.block k hk (by simp)⟩)) (cellsF_one f) ?_; intro w2 hw2 hf2; have HW := hideIt hw2; have HF := hideIt hf2; clear hw2 hf2))
      have HM : Hid (Mid w f 0 w2) := by
        refine ⟨⟨.nil, HW.out, rfl, trivial, trivial, trivial, trivial⟩, ?_⟩
        have f1 : Fr (fun _ => False) w w1 := (Fr.refl _ w).grown HG.out (fun k h => by cases h)
        have f2 : Fr (fun _ => False) w w2 := f1.trans' HF.out (fun j hj => Or.inr (by omega))
        exact f2.below (Nat.le_refl _) (fun k h => h.elim)
      clear HW HF HU HG
      go_loopw [16] (fun i wr => ∃ k : Nat, i = .int .i64 k ∧ k ≤ L ∧ Mid w f k wr) (fun i _ => L - (intOf i).toNat)
      case atStart => exact ⟨0, rfl, by omega, HM.out⟩
      case round =>
        obtain ⟨k, rfl, hk, hm⟩ := hrel
        have HMM := hideIt hm
        clear hm HM
        by_cases hlt : k < L
        · obtain ⟨b, o, v, ka, kc, ks, rfl, e, hat, hv, hs1, hin1⟩ := HIN.out.elem k (by rw [HL.out]; exact hlt)
          have hkl : (k : Int) < (L : Int) := by omega
          have hsz : (f.drop k).size = ks.size + 1 + (f.drop (k + 1)).size := by rw [e]; rfl
          have hle := f.size_drop k
          have HC := hideIt (HIH.out ks (by omega) ka kc wr (hin1.keep (Nat.le_refl _) HMM.out.q) hs1 (by omega))
          have HE := hideIt (And.intro e hv)
          obtain ⟨m1, m2⟩ := HMM.out.cell e (Below.refl _ _)
          clear e hat hv hs1 hin1 hsz
          go_wp2_with (first | (go_at_call 45; refine HC.out.mono ?_; rintro e x ⟨a', c', f', rfl, p1, p2, p3, p4, p6, p5⟩; obtain ⟨x1, x2⟩ := HMM.out.cell HE.out.1 p5; have HX := hideIt (HMM.out.next HE.out.1 HE.out.2 p1 p2 p3 p4 p6 p5); clear p1 p2 p3 p4 p5 p6))
          go_roundw
          case rel => exact ⟨k + 1, by go_num, by omega, HX.out⟩
          case measure => simp [intOf]; omega
        · have ek : k = L := by omega
          subst ek
          go_wp2_with (fail)
          go_ret
          have h5 := HMM.out
          rw [← HL.out] at h5
          obtain ⟨f', q1, q2, q3, q4⟩ := h5.last
          exact ⟨_, _, f', rfl, q1, ⟨Nat.le_refl _, by unfold maxLen; omega, fun h => by cases h⟩, q2, q3, q4, h5.q⟩
end Go.Proofs.Ytioeoillogpdoaa
