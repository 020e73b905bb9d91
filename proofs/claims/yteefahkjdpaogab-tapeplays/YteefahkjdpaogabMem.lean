/-
  What a tape is in memory, and what stays of it while other memory is written; facts on worlds, with no program in sight; no conditions but those that each fact bears.
-/
import Derived.WalkKit
import Derived.WalkSpells
import Derived.WalkLawsBesides
namespace Go.Proofs.Yteefahkjdpaogab
open Go.RowKit

/-- All but the blocks S, and new ones, is as it was. -/
structure Fr (S : Nat → Prop) (w w' : World) : Prop where
  os : w'.os = w.os
  tape : w'.tape = w.tape
  output : w'.output = w.output
  size : w.heap.size ≤ w'.heap.size
  block : ∀ k, k < w.heap.size → ¬ S k → w'.heap[k]? = w.heap[k]?

theorem Fr.refl (S : Nat → Prop) (w : World) : Fr S w w := ⟨rfl, rfl, rfl, Nat.le_refl _, fun _ _ _ => rfl⟩
theorem Fr.trans {S : Nat → Prop} {a b c : World} (h : Fr S a b) (k : Fr S b c) : Fr S a c :=
  ⟨k.os.trans h.os, k.tape.trans h.tape, k.output.trans h.output, Nat.le_trans h.size k.size, fun j hj hn => (k.block j (Nat.lt_of_lt_of_le hj h.size) hn).trans (h.block j hj hn)⟩
/-- Behind a first step the second one may have written what the first one made, too. -/
theorem Fr.trans' {S T : Nat → Prop} {a b c : World} (h : Fr S a b) (k : Fr T b c) (hT : ∀ j, T j → S j ∨ a.heap.size ≤ j) : Fr S a c :=
  ⟨k.os.trans h.os, k.tape.trans h.tape, k.output.trans h.output, Nat.le_trans h.size k.size, fun j hj hn => (k.block j (Nat.lt_of_lt_of_le hj h.size) (fun ht => (hT j ht).elim hn (fun g => by omega))).trans (h.block j hj hn)⟩
theorem Fr.mono {S T : Nat → Prop} {a b : World} (h : Fr S a b) (hs : ∀ j, S j → T j) : Fr T a b :=
  ⟨h.os, h.tape, h.output, h.size, fun j hj hn => h.block j hj (fun s => hn (hs j s))⟩
theorem Fr.drewN {S : Nat → Prop} {a w : World} (h : Fr S a w) (n : Nat) : Fr S a (w.drewN n) := ⟨h.os, h.tape, h.output, h.size, h.block⟩
theorem Fr.alloc {S : Nat → Prop} {a w : World} (h : Fr S a w) (o : Obj) : Fr S a (w.alloc o) :=
  ⟨h.os, h.tape, h.output, by have := h.size; simp; omega, fun j hj hn => (Below.heap_alloc w o j (Nat.lt_of_lt_of_le hj h.size)).trans (h.block j hj hn)⟩
theorem Fr.setCell {S : Nat → Prop} {a w : World} (h : Fr S a w) {p : Addr} (hp : S p.block ∨ a.heap.size ≤ p.block) (u : Value) : Fr S a (w.setCell p u) :=
  ⟨h.os, h.tape, h.output, by have := h.size; simpa using this, fun j hj hn => (Below.heap_setCell w p u j (fun e => by subst e; exact hp.elim hn (fun g => by omega))).trans (h.block j hj hn)⟩
theorem Fr.grown {S : Nat → Prop} {a w w' : World} {row : Option Nat} (h : Fr S a w) (hg : w.grownBy w' row) (hr : ∀ k, row = some k → S k ∨ a.heap.size ≤ k) : Fr S a w' :=
  ⟨hg.os.trans h.os, hg.tape.trans h.tape, hg.output.trans h.output, Nat.le_trans h.size hg.size,
    fun j hj hn => (hg.block j (Nat.lt_of_lt_of_le hj h.size) (fun e => (hr j e.symm).elim hn (fun g => by omega))).trans (h.block j hj hn)⟩
theorem Fr.below {S : Nat → Prop} {B : Nat} {a w : World} (h : Fr S a w) (hB : B ≤ a.heap.size) (hs : ∀ k, S k → B ≤ k) : Below B a w :=
  ⟨h.os, h.tape, h.output, h.size, fun k hk => h.block k (Nat.lt_of_lt_of_le hk hB) (fun s => by have := hs k s; omega)⟩

/-- The cells of a log. -/
def logCells (lg : List (Int × Int)) : List Value := lg.flatMap fun d => [.int .i64 d.1, .int .i64 d.2]
theorem logCells_append (a b : List (Int × Int)) : logCells (a ++ b) = logCells a ++ logCells b := by simp [logCells]
theorem logCells_length (a : List (Int × Int)) : (logCells a).length = a.length * 2 := by
  induction a with
  | nil => rfl
  | cons x r ih => simp [logCells] at ih ⊢; omega

/-- A tape at block p: its draws, how many were used, its log; bl: the blocks that are its own. -/
structure TP (w : World) (B : Nat) (bl : Nat → Prop) (p : Nat) (ds : List Int) (u : Nat) (lg : List (Int × Int)) : Prop where
  rng : ∀ k, bl k → B ≤ k ∧ k < w.heap.size
  inp : bl p
  ule : u ≤ ds.length
  dlen : ds.length ≤ 4096
  dwf : ∀ d ∈ ds, 0 ≤ d ∧ d ≤ 18446744073709551615
  ex : ∃ db la lc, bl db ∧ (∀ k, (Value.slice la lg.length lc).ownBlock = some k → bl k) ∧
    w.heap[p]? = some (.cells #[.slice (some ⟨db, 0, none⟩) ds.length ds.length, .int .i64 u, .slice la lg.length lc] 48 (0, 0)) ∧
    w.heap[db]? = some (.cells (ds.map (Value.int .u64)).toArray 43 (0, 0)) ∧ w.ownsRow B 41 2 (.slice la lg.length lc) lg.length (logCells lg)

theorem ownsRow_block {w w' : World} {base : Nat} {e : TypeId} {size : Nat} {v : Value} {n : Nat} {xs : List Value} (h : w.ownsRow base e size v n xs) (hk : ∀ k, v.ownBlock = some k → w'.heap[k]? = w.heap[k]?) : w'.ownsRow base e size v n xs := by
  obtain ⟨h1, h2⟩ := h
  refine ⟨h1, ?_⟩
  rcases h2 with h2 | ⟨g, cap, cur, hv, hg, hh, r⟩
  · exact Or.inl h2
  · refine Or.inr ⟨g, cap, cur, hv, hg, ?_, r⟩
    rw [hk g (by rw [hv]; rfl)]
    exact hh

theorem TP.kept {w w' : World} {B : Nat} {bl : Nat → Prop} {p : Nat} {ds : List Int} {u : Nat} {lg : List (Int × Int)} (h : TP w B bl p ds u lg) (hb : ∀ k, bl k → w'.heap[k]? = w.heap[k]?) (hs : w.heap.size ≤ w'.heap.size) : TP w' B bl p ds u lg := by
  obtain ⟨db, la, lc, h1, h2, h3, h4, h5⟩ := h.ex
  refine ⟨fun k hk => ⟨(h.rng k hk).1, Nat.lt_of_lt_of_le (h.rng k hk).2 hs⟩, h.inp, h.ule, h.dlen, h.dwf, db, la, lc, h1, h2, ?_, ?_, ?_⟩
  · rw [hb p h.inp]; exact h3
  · rw [hb db h1]; exact h4
  · exact ownsRow_block h5 fun k hk => hb k (h2 k hk)
theorem TP.fr {w w' : World} {B : Nat} {S bl : Nat → Prop} {p : Nat} {ds : List Int} {u : Nat} {lg : List (Int × Int)} (h : TP w B bl p ds u lg) (hf : Fr S w w') (hd : ∀ k, bl k → ¬ S k) : TP w' B bl p ds u lg :=
  h.kept (fun k hk => hf.block k (h.rng k hk).2 (hd k hk)) hf.size

theorem cell_of_block {w : World} {b : Nat} {cs : Array Value} {t : TypeId} (h : w.heap[b]? = some (.cells cs t (0, 0))) (j : Nat) : w.cell? ⟨b, j, none⟩ = cs[j]? := by simp [World.cell?, h]
theorem free_of_block {w : World} {b : Nat} {cs : Array Value} {t : TypeId} (h : w.heap[b]? = some (.cells cs t (0, 0))) (j : Nat) : w.frozen? ⟨b, j, none⟩ = false := by simp [World.frozen?, h]
theorem block_setCell {w : World} {b j : Nat} {cs : Array Value} {t : TypeId} (h : w.heap[b]? = some (.cells cs t (0, 0))) (u : Value) : (w.setCell ⟨b, j, none⟩ u).heap[b]? = some (.cells (cs.setIfInBounds j u) t (0, 0)) := by
  have hlt := lt_of_block h
  have h' : w.heap[b] = .cells cs t (0, 0) := by simpa [Array.getElem?_eq_getElem hlt] using h
  show (w.heap.modify b _)[b]? = _
  rw [Array.getElem?_eq_getElem (by simpa using hlt), Array.getElem_modify_self, h']
  rfl

def val (ds : List Int) (u : Nat) (n : Int) : Int := if u < ds.length then ds.getD u 0 % n else 0
def nxt (ds : List Int) (u : Nat) : Nat := if u < ds.length then u + 1 else u

theorem ownsRow_mono {w : World} {b b' : Nat} {e : TypeId} {size : Nat} {v : Value} {n : Nat} {xs : List Value} (h : w.ownsRow b e size v n xs) (hb : b' ≤ b) : w.ownsRow b' e size v n xs := by
  obtain ⟨h1, h2⟩ := h
  refine ⟨h1, ?_⟩
  rcases h2 with h2 | ⟨g, cap, cur, hv, hg, r⟩
  · exact Or.inl h2
  · exact Or.inr ⟨g, cap, cur, hv, Nat.le_trans hb hg, r⟩

/-- An append to a row of one's own: what it leaves lies where the row lay, or in a new block. -/
theorem wpList_append_mine {P : Program} (w : World) {ops : Array Oper} {rest : List Oper} {o : Oper} {a : Act} {Q : Exit → Act → World → Prop} (hgd : o.guard = none) (s x : Operand) (t : TypeId)
    (ho : o.op = Op.call { callee := Callee.builtin Builtin.append, args := #[s, x], argTypes := #[t, t] })
    (base : Nat) (e : TypeId) (i : TypeInfo) (z : Value) (size bytes : Nat) (ht : P.underlying t = some (.slice e)) (hi : P.info? e = some i) (hz : i.zero = some z)
    (hsize : i.size = size) (hby : i.bytes = bytes) (hzs : z.cells.size = size) (hsz : 0 < size)
    (v : Value) (n : Nat) (xs : List Value) (hs : a.eval s = v) (hown : w.ownsRow base e size v n xs)
    (ad : Addr) (m c : Nat) (news : List Value) (hx : a.eval x = .slice (some ad) m c) (hl : news.length = m * size) (hnews : ∀ j u, news[j]? = some u → w.cell? (ad.add j) = some u) (h1 : ∀ u ∈ news, u.oneCell' = true)
    (hm : 0 < m) (h63 : n + m ≤ maxLen) (hbytes : (n + m) * bytes ≤ 140737488355328) (hbase : base ≤ w.heap.size)
    (h : ∀ v' w', w'.ownsRow base e size v' (n + m) (xs ++ news) → w.grownBy w' v.ownBlock → (v'.ownBlock = v.ownBlock ∨ ∀ k, v'.ownBlock = some k → w.heap.size ≤ k) → wpList P ops Q rest (a.put o.dst v') w') : wpList P ops Q (o :: rest) a w := by
  have ho' := hown
  rcases hown.2 with ⟨rfl, rfl⟩ | ⟨g, cap, cur, rfl, hbg, hg, hnc, hcm, hcs, htake⟩
  · have hx0 : xs = [] := List.eq_nil_of_length_eq_zero (by simpa using hown.1)
    subst hx0
    refine wpList_append_grows w hgd s x t ho e i z size bytes ht hi hz hsize hby hzs hsz none 0 0 [] hs (fun _ => ⟨rfl, rfl⟩) (by simp) (fun b hb => by cases hb) ad m c news hx hl hnews h1 (by omega) h63 hbytes ?_
    intro v' w' r1 r2
    exact h v' w' (ownsRow_mono r1 hbase) r2 (Or.inr fun k hk => (r1.lt k hk).1)
  · by_cases hroom : n + m ≤ cap
    · refine wpList_append_fits w hgd s x t ho base e i size ht hi hsize g n cap xs hs ho' ad m c news hx hl hnews h1 hroom ?_
      intro w' r1 r2
      exact h _ w' r1 r2 (Or.inl rfl)
    · refine wpList_append_grows w hgd s x t ho e i z size bytes ht hi hz hsize hby hzs hsz (some ⟨g, 0, none⟩) n cap xs hs (fun hb => by cases hb) hown.1 (fun b hb j u hu => by cases hb; exact ho'.cells rfl j u hu) ad m c news hx hl hnews h1 (by omega) h63 hbytes ?_
      intro v' w' r1 r2
      exact h v' w' (ownsRow_mono r1 hbase) ⟨r2.os, r2.tape, r2.output, r2.size, fun k hk _ => r2.block k hk (by simp)⟩ (Or.inr fun k hk => (r1.lt k hk).1)

/-- The world behind an append to the log of the tape at block p, and the store of the new slice into cell c. -/
def Logged (w w' : World) (B p c : Nat) (e : TypeId) (size L : Nat) (v : Value) (xs : List Value) : Prop :=
  ∃ g cap w1, w1.ownsRow B e size (.slice (some ⟨g, 0, none⟩) (L + 1) cap) (L + 1) xs ∧ w.grownBy w1 v.ownBlock ∧ (v.ownBlock = some g ∨ w.heap.size ≤ g) ∧ w' = w1.setCell ⟨p, c, none⟩ (.slice (some ⟨g, 0, none⟩) (L + 1) cap)

/-- What an append to its log makes of a tape. -/
theorem tp_logged {w X w' : World} {B : Nat} {bl : Nat → Prop} {p db lc : Nat} {la : Option Addr} {ds : List Int} {u u' : Nat} {lg : List (Int × Int)} (n x : Int) (hT : TP w B bl p ds u lg) (hu : u' ≤ ds.length)
    (hX : Fr bl w X) (hdb : bl db) (hla : ∀ k, (Value.slice la lg.length lc).ownBlock = some k → bl k) (hne : db ≠ p) (hnl : (Value.slice la lg.length lc).ownBlock ≠ some p) (hnd : (Value.slice la lg.length lc).ownBlock ≠ some db)
    (h1 : X.heap[p]? = some (.cells #[.slice (some ⟨db, 0, none⟩) ds.length ds.length, .int .i64 u', .slice la lg.length lc] 48 (0, 0)))
    (h2 : X.heap[db]? = some (.cells (ds.map (Value.int .u64)).toArray 43 (0, 0)))
    (hL : Logged X w' B p 2 41 2 lg.length (.slice la lg.length lc) (logCells lg ++ [.int .i64 n, .int .i64 x])) :
    (∃ bl', (∀ k, bl k → bl' k) ∧ (∀ k, bl' k → bl k ∨ w.heap.size ≤ k) ∧ TP w' B bl' p ds u' (lg ++ [(n, x)])) ∧ Fr bl w w' := by
  obtain ⟨g, cap, w1, ho, hg, hfr, rfl⟩ := hL
  have hgl := ho.lt g rfl
  have hpX : p < X.heap.size := lt_of_block h1
  have hdX : db < X.heap.size := lt_of_block h2
  have q1 : w1.heap[p]? = X.heap[p]? := hg.block p hpX (fun e => hnl e.symm)
  have q2 : w1.heap[db]? = X.heap[db]? := hg.block db hdX (fun e => hnd e.symm)
  have hF1 : Fr bl w w1 := hX.grown hg (fun k hk => Or.inl (hla k hk))
  have hgp : g ≠ p := by
    rcases hfr with hfr | hfr
    · intro e; subst e; exact hnl hfr
    · omega
  refine ⟨⟨fun k => bl k ∨ k = g, fun k hk => Or.inl hk, fun k hk => ?_, ?_⟩, hF1.setCell (Or.inl hT.inp) _⟩
  · rcases hk with hk | rfl
    · exact Or.inl hk
    · rcases hfr with hfr | hfr
      · exact Or.inl (hla k hfr)
      · exact Or.inr (Nat.le_trans hX.size hfr)
  · refine ⟨fun k hk => ?_, Or.inl hT.inp, hu, hT.dlen, hT.dwf, db, some ⟨g, 0, none⟩, cap, Or.inl hdb, fun k hk => ?_, ?_, ?_, ?_⟩
    · rcases hk with hk | rfl
      · have := hT.rng k hk
        have := hF1.size
        simp
        omega
      · simp
        omega
    · simp [Value.ownBlock] at hk
      exact Or.inr hk.symm
    · rw [block_setCell (q1.trans h1)]
      simp
    · rw [Below.heap_setCell _ _ _ _ hne]
      exact q2.trans h2
    · have : logCells (lg ++ [(n, x)]) = logCells lg ++ [.int .i64 n, .int .i64 x] := by rw [logCells_append]; rfl
      rw [this, List.length_append]
      exact ownsRow_setCell_other ho (by simp [Value.ownBlock]; exact hgp) _

end Go.Proofs.Yteefahkjdpaogab
