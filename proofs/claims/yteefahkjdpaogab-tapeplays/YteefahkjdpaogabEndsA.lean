/-
  Steps of the statement TapeEnds, outside of its walk: facts on worlds and lists; no conditions but those that each fact bears.
-/
import Derived.Test.YteefahkjdpaogabNew
import Derived.Laws.AppendOwnNone
namespace Go.Proofs.Yteefahkjdpaogab
open Go.RowKit
set_option linter.unusedVariables false

/-- A slice of numbers that came in. -/
def IsRow (k : IntKind) (w : World) (a : Option Addr) (len cap : Nat) (zs : List Int) : Prop :=
  (a = none ∧ len = 0 ∧ cap = 0 ∧ zs = []) ∨
  ∃ x, a = some x ∧ len ≤ cap ∧ cap ≤ maxLen ∧ zs.length = cap ∧ (∀ i, i < zs.length → w.cell? (x.add i) = some (.int k (zs.getD i 0))) ∧ ∀ n ∈ zs, (Lit.int k n).wf = true

theorem row_len {k : IntKind} {w : World} {a : Option Addr} {len cap : Nat} {zs : List Int} (h : IsRow k w a len cap zs) : (zs.take len).length = len := by
  rcases h with ⟨_, rfl, _, rfl⟩ | ⟨x, _, h1, _, h3, _⟩
  · rfl
  · simp; omega
theorem row_reads {k : IntKind} {w : World} {a : Option Addr} {len cap : Nat} {zs : List Int} (h : IsRow k w a len cap zs) : Reads k w a (zs.take len) := by
  have hl := row_len h
  intro j hj
  rw [hl] at hj
  rcases h with ⟨_, rfl, _, _⟩ | ⟨x, rfl, h1, _, h3, h4, _⟩
  · omega
  · refine ⟨x, rfl, ?_⟩
    rw [h4 j (by omega)]
    simp [hj]
theorem row_wf {k : IntKind} {w : World} {a : Option Addr} {len cap : Nat} {zs : List Int} (h : IsRow k w a len cap zs) : ∀ n ∈ zs.take len, (Lit.int k n).wf = true := by
  intro n hn
  rcases h with ⟨_, _, _, rfl⟩ | ⟨x, _, _, _, _, _, h5⟩
  · simp at hn
  · exact h5 n (List.mem_of_mem_take hn)
theorem wf_u64 {n : Int} (h : (Lit.int .u64 n).wf = true) : 0 ≤ n ∧ n ≤ 18446744073709551615 := by
  simpa [Lit.wf, IntKind.min, IntKind.max, IntKind.signed, IntKind.bits] using h
theorem wf_i64 {n : Int} (h : (Lit.int .i64 n).wf = true) : -9223372036854775808 ≤ n ∧ n ≤ 9223372036854775807 := by
  simpa [Lit.wf, IntKind.min, IntKind.max, IntKind.signed, IntKind.bits] using h
theorem Reads.keep {k : IntKind} {w w' : World} {a : Option Addr} {xs : List Int} (h : Reads k w a xs) (hb : Below w.heap.size w w') : Reads k w' a xs := by
  intro j hj
  obtain ⟨ad, e, hc⟩ := h j hj
  exact ⟨ad, e, by rw [hb.cell (World.block_lt_of_cell? w _ hc)]; exact hc⟩
theorem Reads.keepB {k : IntKind} {w w' w'' : World} {a : Option Addr} {xs : List Int} (h : Reads k w a xs) (hb : Below w.heap.size w w'') : Reads k w'' a xs := h.keep hb
/-- A row of one's own reads as its numbers. -/
theorem owns_reads {k : IntKind} {w : World} {B : Nat} {e : TypeId} {a : Option Addr} {n c : Nat} {xs : List Int} (h : w.ownsRow B e 1 (.slice a n c) n (xs.map (Value.int k))) : Reads k w a xs := by
  intro j hj
  have hl : (xs.map (Value.int k)).length = n * 1 := h.1
  simp at hl
  rcases h.2 with ⟨h', h0⟩ | ⟨g, cap, cur, h', _⟩
  · omega
  · simp at h'
    obtain ⟨rfl, rfl⟩ := h'
    refine ⟨_, rfl, ?_⟩
    refine h.cells rfl j _ ?_
    simp [hj]

/-- Two tapes side by side. -/
structure Two (w0 w : World) (B p1 p2 : Nat) (ds : List Int) (u1 u2 n1 n2 : Nat) : Prop where
  ex : ∃ (b1 b2 : Nat → Prop) (l1 l2 : List (Int × Int)), TP w B b1 p1 ds u1 l1 ∧ TP w B b2 p2 ds u2 l2 ∧ (∀ k, b1 k → ¬ b2 k) ∧ l1.length = n1 ∧ l2.length = n2
  bel : Below B w0 w

/-- An append of a whole slice to none. -/
theorem wpList_append_to_nil {P : Program} (w : World) {ops : Array Oper} {rest : List Oper} {o : Oper} {a : Act} {Q : Exit → Act → World → Prop} (hgd : o.guard = none) (s x : Operand) (t : TypeId)
    (ho : o.op = Op.call { callee := Callee.builtin Builtin.append, args := #[s, x], argTypes := #[t, t] })
    (e : TypeId) (i : TypeInfo) (z : Value) (size bytes : Nat) (ht : P.underlying t = some (.slice e)) (hi : P.info? e = some i) (hz : i.zero = some z)
    (hsize : i.size = size) (hby : i.bytes = bytes) (hzs : z.cells.size = size) (hsz : 0 < size)
    (hs : a.eval s = .slice none 0 0) (ao : Option Addr) (m c : Nat) (hx : a.eval x = .slice ao m c) (hn : ao = none → m = 0 ∧ c = 0)
    (news : List Value) (hl : news.length = m * size) (hnews : ∀ ad, ao = some ad → ∀ j u, news[j]? = some u → w.cell? (ad.add j) = some u) (h1 : ∀ u ∈ news, u.oneCell' = true)
    (h63 : m ≤ maxLen) (hbytes : m * bytes ≤ 140737488355328)
    (h : ∀ la lc w', w'.ownsRow w.heap.size e size (.slice la m lc) m news → w.grownBy w' none → wpList P ops Q rest (a.put o.dst (.slice la m lc)) w') : wpList P ops Q (o :: rest) a w := by
  cases ao with
  | none =>
    obtain ⟨rfl, rfl⟩ := hn rfl
    have hx0 : news = [] := List.eq_nil_of_length_eq_zero (by simpa using hl)
    subst hx0
    refine wpList_append_own_none hgd s x t ho w.heap.size e i size ht hi (.slice none 0 0) 0 [] hs (World.ownsRow_nil _ _ _ _) hx ?_
    exact h none 0 w (World.ownsRow_nil _ _ _ _) (World.grownBy.refl w none)
  | some ad =>
    refine wpList_append_own w hgd s x t ho w.heap.size e i z size bytes ht hi hz hsize hby hzs hsz (.slice none 0 0) 0 [] hs (World.ownsRow_nil _ _ _ _) ad m c news hx hl (hnews ad rfl) h1 (by omega) (by rw [Nat.zero_add]; exact hbytes) (Nat.le_refl _) ?_
    intro v' w' r1 r2 _
    rw [Nat.zero_add, List.nil_append] at r1
    rcases r1.2 with ⟨rfl, h0⟩ | ⟨g, cap, cur, rfl, _⟩
    · subst h0
      exact h none 0 w' r1 r2
    · exact h (some ⟨g, 0, none⟩) cap w' r1 r2

theorem reads_at {k : IntKind} {w : World} {a : Option Addr} {xs : List Int} (h : Reads k w a xs) (h0 : 0 < xs.length) : ∃ b off, a = some ⟨b, off, none⟩ ∧ ∀ j, j < xs.length → w.cell? ⟨b, off + j, none⟩ = some (.int k (xs.getD j 0)) := by
  obtain ⟨⟨b, off, spot⟩, rfl, hc⟩ := h 0 h0
  have hspot : spot = none := by simpa [Addr.add] using World.cell?_spot hc
  subst hspot
  refine ⟨b, off, rfl, fun j hj => ?_⟩
  obtain ⟨ad, e, hc'⟩ := h j hj
  cases e
  have ea : (⟨b, off, none⟩ : Addr).add j = ⟨b, off + j, none⟩ := by
    unfold Addr.add
    split
    · rename_i h'; subst h'; rfl
    · rfl
  rw [ea] at hc'
  exact hc'

theorem news_of {k : IntKind} {w w1 : World} {a : Option Addr} {xs : List Int} (h : Reads k w a xs) (hb : Below w.heap.size w w1) : ∀ ad, a = some ad → ∀ j u, (xs.map (Value.int k))[j]? = some u → w1.cell? (ad.add j) = some u := by
  intro ad e j u hj
  have hj' : j < xs.length := by
    have := (List.getElem?_eq_some_iff.1 hj).1
    simpa using this
  obtain ⟨ad', e', hc⟩ := (h.keep hb) j hj'
  rw [e] at e'
  cases e'
  rw [hc, ← hj]
  simp [hj']

/-- Two tapes and the slice that was handed in, of one's own. -/
structure St1 (w0 w : World) (B p1 p2 : Nat) (ds : List Int) (v : Value) (n : Nat) : Prop where
  ex : ∃ (b1 b2 : Nat → Prop) (ys : List Int), TP w B b1 p1 ds 0 [] ∧ TP w B b2 p2 ds 0 [] ∧ (∀ k, b1 k → ¬ b2 k) ∧ ys.length = n ∧ w.ownsRow B 43 1 v n (ys.map (Value.int .u64)) ∧ (∀ k, v.ownBlock = some k → ¬ b1 k ∧ ¬ b2 k)
  bel : Below B w0 w

theorem st1_start {w x1 w1 y1 y2 : World} {p1 p2 n c : Nat} {la : Option Addr} {xs : List Int} {b1 b2 : Nat → Prop} (q1 : Below w.heap.size w x1)
    (ho : w1.ownsRow x1.heap.size 43 1 (.slice la n c) n (xs.map (Value.int .u64))) (hg : x1.grownBy w1 none)
    (t1 : TP y1 w1.heap.size b1 p1 xs 0 []) (f1 : Fr (fun _ => False) w1 y1) (t2 : TP y2 y1.heap.size b2 p2 xs 0 []) (f2 : Fr (fun _ => False) y1 y2) (hx : xs.length = n) : St1 w y2 w.heap.size p1 p2 xs (.slice la n c) n := by
  have s1 := q1.size
  have s2 := hg.size
  have s3 := f1.size
  have s4 := f2.size
  have c1 : Below w.heap.size w w1 := q1.grown hg s1 (fun k h => by cases h)
  have c2 := c1.trans ((f1.below (B := w.heap.size) (by omega) (fun k h => h.elim)))
  have c3 := c2.trans ((f2.below (B := w.heap.size) (by omega) (fun k h => h.elim)))
  have hlt := ho.lt
  refine ⟨⟨b1, b2, xs, ?_, t2.base (by omega), ?_, hx, ?_, ?_⟩, c3⟩
  · exact (t1.fr f2 (fun k _ h => h)).base (by omega)
  · intro k h1 h2
    have := (t1.rng k h1).2
    have := (t2.rng k h2).1
    omega
  · refine ownsRow_mono (ownsRow_block ho fun k hk => ?_) s1
    have := (hlt k hk).2
    rw [f2.block k (by omega) (fun h => h), f1.block k this (fun h => h)]
  · intro k hk
    have := (hlt k hk).2
    refine ⟨fun h => ?_, fun h => ?_⟩
    · have := (t1.rng k h).1
      omega
    · have := (t2.rng k h).1
      omega

theorem st1_some {w0 w : World} {B p1 p2 n c : Nat} {la : Option Addr} {ds : List Int} (h : St1 w0 w B p1 p2 ds (.slice la n c) n) (hn : 0 < n) : ∃ g, la = some ⟨g, 0, none⟩ := by
  obtain ⟨b1, b2, ys, _, _, _, _, ho, _⟩ := h.ex
  rcases ho.2 with ⟨_, h0⟩ | ⟨g, cap, cur, h', _⟩
  · omega
  · simp at h'
    exact ⟨g, h'.1⟩
theorem st1_cell {w0 w : World} {B p1 p2 n c g : Nat} {ds : List Int} (h : St1 w0 w B p1 p2 ds (.slice (some ⟨g, 0, none⟩) n c) n) (j : Nat) (hj : j < n) : ∃ y, w.cell? ⟨g, j, none⟩ = some (.int .u64 y) ∧ w.frozen? ⟨g, j, none⟩ = false := by
  obtain ⟨b1, b2, ys, _, _, _, hl, ho, _⟩ := h.ex
  refine ⟨ys.getD j 0, ?_, ho.frozenAt j⟩
  rw [ho.cellAt j (by omega)]
  simp [hl, hj]
theorem st1_set {w0 w : World} {B p1 p2 n c g : Nat} {ds : List Int} (h : St1 w0 w B p1 p2 ds (.slice (some ⟨g, 0, none⟩) n c) n) (j : Nat) (z : Int) : St1 w0 (w.setCell ⟨g, j, none⟩ (.int .u64 z)) B p1 p2 ds (.slice (some ⟨g, 0, none⟩) n c) n := by
  obtain ⟨b1, b2, ys, t1, t2, hap, hl, ho, hno⟩ := h.ex
  have hg := hno g rfl
  have hgB := (ho.lt g rfl).1
  have hf : Fr (fun k => k = g) w (w.setCell ⟨g, j, none⟩ (.int .u64 z)) := (Fr.refl (fun k => k = g) w).setCell (p := ⟨g, j, none⟩) (Or.inl rfl) _
  refine ⟨⟨b1, b2, ys.set j z, t1.fr hf (fun k hk e => ?_), t2.fr hf (fun k hk e => ?_), hap, by simpa using hl, ?_, hno⟩, h.bel.setCell hgB _⟩
  · subst e; exact hg.1 hk
  · subst e; exact hg.2 hk
  · have := ho.stored j (.int .u64 z)
    rw [← List.map_set] at this
    exact this.1

theorem st1_two {w0 w : World} {B p1 p2 n : Nat} {v : Value} {ds : List Int} (h : St1 w0 w B p1 p2 ds v n) : Two w0 w B p1 p2 ds 0 0 0 0 := by
  obtain ⟨b1, b2, ys, t1, t2, hap, _⟩ := h.ex
  exact ⟨⟨b1, b2, [], [], t1, t2, hap, rfl, rfl⟩, h.bel⟩
theorem Two.swap {w0 w : World} {B p1 p2 : Nat} {ds : List Int} {u1 u2 n1 n2 : Nat} (h : Two w0 w B p1 p2 ds u1 u2 n1 n2) : Two w0 w B p2 p1 ds u2 u1 n2 n1 := by
  obtain ⟨b1, b2, l1, l2, t1, t2, hap, e1, e2⟩ := h.ex
  exact ⟨⟨b2, b1, l2, l1, t2, t1, fun k a b => hap k b a, e2, e1⟩, h.bel⟩
theorem two_size {w0 w : World} {B p1 p2 : Nat} {ds : List Int} {u1 u2 n1 n2 : Nat} (h : Two w0 w B p1 p2 ds u1 u2 n1 n2) : B ≤ w.heap.size := by
  obtain ⟨b1, b2, l1, l2, t1, t2, hap, e1, e2⟩ := h.ex
  have := t1.rng p1 t1.inp
  omega
/-- A draw of the first of two tapes. -/
theorem two_below (w : World) {w0 : World} {B p1 p2 : Nat} {ds : List Int} {u1 u2 n1 n2 : Nat} (n : Int) (h : Two w0 w B p1 p2 ds u1 u2 n1 n2) (hn : 1 ≤ n) (hn2 : n ≤ 9223372036854775807) (hl : n1 ≤ 1000000) :
    Calls Try.prog 11 #[.pointer (some ⟨p1, 0, none⟩), .int .i64 n] w fun e w' => e = .returned (.int .i64 (val ds u1 n)) ∧ Two w0 w' B p1 p2 ds (nxt ds u1) u2 (n1 + 1) n2 := by
  obtain ⟨b1, b2, l1, l2, t1, t2, hap, e1, e2⟩ := h.ex
  have hs := two_size h
  refine (below_any w n t1 hn hn2 (by omega) hs).mono fun e w' ⟨he, hb, hF⟩ => ⟨he, ?_⟩
  obtain ⟨b1', r1, r2, r3⟩ := two_step (u1 := u1) (l1 := l1) t2 hap hb hF
  exact ⟨⟨b1', b2, _, l2, r1, r2, r3, by simp [e1], e2⟩, h.bel.trans (hF.below hs (fun k hk => (t1.rng k hk).1))⟩

set_option maxHeartbeats 400000 in
theorem used_nil (w : World) : Calls Try.prog 14 #[.pointer none] w fun e w' => e = .returned (.int .i64 0) ∧ w' = w := by
  go_enter Try.func14, Try.ntmps14
  go_wp2
  go_ret
  exact ⟨rfl, rfl⟩
set_option maxHeartbeats 400000 in
theorem left_nil (w : World) : Calls Try.prog 15 #[.pointer none] w fun e w' => e = .returned (.int .i64 0) ∧ w' = w := by
  go_enter Try.func15, Try.ntmps15
  go_wp2
  go_ret
  exact ⟨rfl, rfl⟩
set_option maxHeartbeats 400000 in
theorem log_nil (w : World) : Calls Try.prog 13 #[.pointer none] w fun e w' => e = .returned (.slice none 0 0) ∧ w' = w := by
  go_enter Try.func13, Try.ntmps13
  go_wp2
  go_ret
  exact ⟨rfl, rfl⟩
set_option maxHeartbeats 400000 in
theorem pick_nil (v : Value) (w : World) : Calls Try.prog 9 #[.pointer none, v] w fun e w' => e = .returned (.int .i64 0) ∧ w' = w := by
  go_enter Try.func9, Try.ntmps9
  go_wp2
  go_ret
  exact ⟨rfl, rfl⟩

theorem val_spent (ds : List Int) (u : Nat) (n : Int) (h : ds.length ≤ u) : val ds u n = 0 := by
  unfold val
  rw [if_neg (by omega)]
theorem nxt_spent (ds : List Int) (u : Nat) (h : ds.length ≤ u) : nxt ds u = u := by
  unfold nxt
  rw [if_neg (by omega)]
theorem nxt_more (ds : List Int) (u : Nat) (h : u < ds.length) : nxt ds u = u + 1 := by
  unfold nxt
  rw [if_pos h]
/-- A draw of the first of two tapes that is spent. -/
theorem two_spent (w : World) {w0 : World} {B p1 p2 : Nat} {ds : List Int} {u1 u2 n1 n2 : Nat} (n : Int) (h : Two w0 w B p1 p2 ds u1 u2 n1 n2) (hu : ds.length ≤ u1) (hn2 : n ≤ 9223372036854775807) (hl : n1 ≤ 1000000) :
    Calls Try.prog 11 #[.pointer (some ⟨p1, 0, none⟩), .int .i64 n] w fun e w' => e = .returned (.int .i64 0) ∧ ∃ m, n1 ≤ m ∧ m ≤ n1 + 1 ∧ Two w0 w' B p1 p2 ds u1 u2 m n2 := by
  by_cases hn : 1 ≤ n
  · have := two_below w n h hn hn2 hl
    rw [val_spent _ _ _ hu, nxt_spent _ _ hu] at this
    exact this.mono fun e w' ⟨he, ht⟩ => ⟨he, n1 + 1, by omega, by omega, ht⟩
  · exact (below_none w p1 n (by omega)).mono fun e w' ⟨he, hw⟩ => ⟨he, n1, by omega, by omega, by subst hw; exact h⟩
theorem two_used (w : World) {w0 : World} {B p1 p2 : Nat} {ds : List Int} {u1 u2 n1 n2 : Nat} (h : Two w0 w B p1 p2 ds u1 u2 n1 n2) :
    Calls Try.prog 14 #[.pointer (some ⟨p1, 0, none⟩)] w fun e w' => e = .returned (.int .i64 u1) ∧ w' = w := by
  obtain ⟨b1, b2, l1, l2, t1, t2, hap, e1, e2⟩ := h.ex
  exact used_any w t1
theorem two_left (w : World) {w0 : World} {B p1 p2 : Nat} {ds : List Int} {u1 u2 n1 n2 : Nat} (h : Two w0 w B p1 p2 ds u1 u2 n1 n2) :
    Calls Try.prog 15 #[.pointer (some ⟨p1, 0, none⟩)] w fun e w' => e = .returned (.int .i64 ((ds.length : Int) - u1)) ∧ ∃ k, w' = w.drewN k := by
  obtain ⟨b1, b2, l1, l2, t1, t2, hap, e1, e2⟩ := h.ex
  exact left_any w t1

end Go.Proofs.Yteefahkjdpaogab
