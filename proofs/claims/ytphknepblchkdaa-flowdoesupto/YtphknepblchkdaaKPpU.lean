/-
 How great code is that came in, by how many values its reading holds: facts on readings alone; no conditions but those that each fact bears.
-/
import Derived.Test.YtphknepblchkdaaRows
import Derived.Test.YtphknepblchkdaaKIrB
import Derived.Test.YtphknepblchkdaaKIrN
namespace Go.Proofs.Ytphknepblchkdaa.Pp
open Go.RowKit Go.Deep
set_option linter.unusedVariables false

theorem one_le {H : Type} (d : DataW H) : 1 ≤ Rows.uptoBulk d := by
 cases d with
 | lit l => cases l <;> simp [Rows.uptoBulk]
 | nil => simp [Rows.uptoBulk]
 | ptr d => simp [Rows.uptoBulk]
 | slice elems spare => simp [Rows.uptoBulk]
 | agg parts => simp [Rows.uptoBulk]
 | iface t d => simp [Rows.uptoBulk]
 | map entries => simp [Rows.uptoBulk]
 | held h => simp [Rows.uptoBulk]
theorem part_le {H : Type} {d : DataW H} {l : List (DataW H)} (h : d ∈ l) : Rows.uptoBulk d ≤ Rows.uptoBulkAll l := by
 induction l with
 | nil => cases h
 | cons x r ih =>
  simp only [Rows.uptoBulkAll]
  cases List.mem_cons.1 h with
  | inl e => subst e; omega
  | inr e => have := ih e; omega
theorem sum_le : ∀ {l m : List Nat}, l.length = m.length → (∀ (k x y : Nat), l[k]? = some x → m[k]? = some y → x ≤ y) → l.sum ≤ m.sum
 | [], [], _, _ => Nat.le_refl _
 | [], y :: m, h, _ => by simp at h
 | x :: l, [], h, _ => by simp at h
 | x :: l, y :: m, h, hk => by
  have h1 := hk 0 x y rfl rfl
  have h2 := sum_le (l := l) (m := m) (by simpa using h) (fun k a b ha hb => hk (k + 1) a b (by simpa using ha) (by simpa using hb))
  simp only [List.sum_cons]
  omega
theorem bulk_sum {H : Type} {β : Type} (l : List (DataW H × β)) : (l.map fun y => Rows.uptoBulk y.1).sum = Rows.uptoBulkAll (l.map (·.1)) := by
 induction l with
 | nil => simp [Rows.uptoBulkAll]
 | cons x r ih => simp only [List.map_cons, List.sum_cons, Rows.uptoBulkAll, ih]
theorem agg_le {H : Type} {β : Type} {xs : List (DataW H × β)} {j : Nat} {y : DataW H × β} (h : xs[j]? = some y) : Rows.uptoBulk y.1 + 1 ≤ Rows.uptoBulk (DataW.agg (xs.map (·.1))) := by
 have := part_le (d := y.1) (l := xs.map (·.1)) (List.mem_map.2 ⟨y, List.mem_of_getElem? h, rfl⟩)
 simp only [Rows.uptoBulk]
 omega

variable {H : Type} {enc : TypeId × Value → H} {w : World} {base : Nat} {spare : Nat → Bool} {held : Bool}

theorem open_lst2 {α : Type} {P : Nat → Nat → α → Prop} {μ : α → Nat} {t et : TypeId} {sz : Nat} (hu : Try.prog.underlying t = some (.slice et)) (hc : Try.prog.cellsOf et = sz + 1) {bz : Nat} (hbz : Try.prog.bytesOf et = bz) {fuel : Nat} {u : Value} {x : DataW H × List MemPlace}
  (h : DataW.trod enc Try.prog w base spare held fuel t [u] = some x) (hw : Light t x.1)
  (each : ∀ (n : Nat) (cs : List Value) (y : DataW H × List MemPlace) (b o : Nat), n < fuel → DataW.trod enc Try.prog w base spare held n et cs = some y → Light et y.1 → At w b o cs → ∃ x, P b o x ∧ μ x ≤ Rows.uptoBulk y.1) :
  ∃ a c l, u = .slice a (List.length l) c ∧ sok bz a l.length c ∧ Lst (sz + 1) P a l ∧ (l.map μ).sum + 1 ≤ Rows.uptoBulk x.1 := by
 rcases DataW.trod_slice hu h with ⟨h0, _⟩ | ⟨a, len, cap, elems, rest, n, hn, h0, rfl, hb, hl, hm, hlen, hel, _, _⟩
 ·simp at h0
  exact ⟨none, 0, [], h0, ⟨Nat.zero_le _, by decide, fun _ => rfl, by simp⟩, fun k x e => (by simp at e), one_le _⟩
 ·simp at h0
  subst h0
  subst hn
  rw [hc] at hel
  have hwl : len * bz ≤ 140737488351232 := by
   have := hw ((elems.length + rest.length) * Try.prog.bytesOf et) (by simp [DataW.weights, hu])
   rw [hbz, hlen] at this
   refine Nat.le_trans (Nat.mul_le_mul_right bz (Nat.le_add_right len rest.length)) ?_
   simpa [reachBytes] using this
  have hwe : ∀ (i : Nat) (y : DataW H × List MemPlace), elems[i]? = some y → Light et y.1 := fun i y hy n hn => by
   refine hw n ?_
   simp only [DataW.weights, hu]
   exact List.mem_cons_of_mem _ (List.mem_append_left _ (weights_mem_all (j := i) (d := y.1) (by simp [hy]) n hn))
  have each' : ∀ i, i < len → (a.add (i * (sz + 1))).spot = none ∧ ∃ x, P a.block (a.add (i * (sz + 1))).off x ∧ ∀ y, elems[i]? = some y → μ x ≤ Rows.uptoBulk y.1 := by
   intro i hi
   have := hel i hi
   rw [List.getElem?_eq_getElem (by omega), Option.bind_eq_some_iff] at this
   obtain ⟨cs, hcs, ht⟩ := this
   have hbl : (a.add (i * (sz + 1))).block = a.block := by unfold Addr.add; split <;> rfl
   obtain ⟨_, hl', hc'⟩ := World.cells?_some hcs
   have h0 := hc' 0 (by omega)
   obtain ⟨u0, hu0⟩ : ∃ u, cs[0]? = some u := ⟨cs[0]'(by omega), List.getElem?_eq_getElem (by omega)⟩
   have hs : (a.add (i * (sz + 1))).spot = none := by
    rw [hu0] at h0
    refine World.cell?_spot (w := w) (v := u0) ?_
    simpa [Addr.add] using h0
   refine ⟨hs, ?_⟩
   rw [← hbl]
   have hget : elems[i]? = some elems[i] := List.getElem?_eq_getElem (by omega)
   have hat : At w (a.add (i * (sz + 1))).block (a.add (i * (sz + 1))).off cs := ?_
   ·obtain ⟨x, x1, x2⟩ := each _ cs _ _ _ (by omega) ht (hwe i _ hget) hat
    exact ⟨x, x1, fun y hy => by rw [hget] at hy; injection hy with hy; subst hy; exact x2⟩
   intro j hj
   have hj' := hc' j (by omega)
   rw [← hj']
   generalize a.add (i * (sz + 1)) = z at *
   obtain ⟨zb, zo, zs⟩ := z
   dsimp at hs
   subst hs
   by_cases hz : j = 0
   ·subst hz; rfl
   ·simp [Addr.add, hz]
  by_cases hz : len = 0
  ·subst hz
   exact ⟨some a, cap, [], rfl, ⟨hl, hm, (fun h => by cases h), hwl⟩, fun k x e => (by simp at e), one_le _⟩
  ·have hs : a.spot = none := by
    obtain ⟨q, _⟩ := each' 0 (by omega)
    simpa [Addr.add] using q
   obtain ⟨b, o, s⟩ := a
   dsimp at hs
   subst hs
   have ex : ∀ i : Fin len, ∃ x, P b (o + i.1 * (sz + 1)) x ∧ ∀ y, elems[i.1]? = some y → μ x ≤ Rows.uptoBulk y.1 := fun i => by
    obtain ⟨_, x, q2, q3⟩ := each' i.1 i.2
    have ho : ((⟨b, o, none⟩ : Addr).add (i.1 * (sz + 1))).off = o + i.1 * (sz + 1) := by unfold Addr.add; split <;> simp_all
    rw [ho] at q2
    exact ⟨x, q2, q3⟩
   obtain ⟨f, hf⟩ := Classical.skolem.1 ex
   refine ⟨some ⟨b, o, none⟩, cap, List.ofFn f, by simp, by rw [List.length_ofFn]; exact ⟨hl, hm, (fun h => by cases h), hwl⟩, fun k x e => ⟨b, o, rfl, ?_⟩, ?_⟩
   ·obtain ⟨hk, e'⟩ := List.getElem?_eq_some_iff.1 e
    simp at hk e'
    subst e'
    exact (hf ⟨k, hk⟩).1
   ·have hsum : ((List.ofFn f).map μ).sum ≤ (elems.map fun y => Rows.uptoBulk y.1).sum := sum_le (by simp [hlen]) fun k x y hx hy => by
     rw [List.getElem?_map] at hx hy
     obtain ⟨x0, hx0, rfl⟩ := Option.map_eq_some_iff.1 hx
     obtain ⟨y0, hy0, rfl⟩ := Option.map_eq_some_iff.1 hy
     obtain ⟨hk, e'⟩ := List.getElem?_eq_some_iff.1 hx0
     simp at hk e'
     subst e'
     exact (hf ⟨k, hk⟩).2 y0 hy0
    have hb2 : (elems.map fun y => Rows.uptoBulk y.1).sum = Rows.uptoBulkAll (elems.map (·.1)) := bulk_sum elems
    show _ + 1 ≤ Rows.uptoBulk (DataW.slice (elems.map (·.1)) (rest.map (·.1)))
    simp only [Rows.uptoBulk]
    omega

def one1 (_ : PI) : Nat := 1
theorem open_insts2 {fuel : Nat} {u : Value} {x : DataW H × List MemPlace} (h : DataW.trod enc Try.prog w base spare held fuel 45 [u] = some x) (hw : Light 45 x.1) : ∃ a c l, u = .slice a (List.length l) c ∧ sok 64 a l.length c ∧ Insts w a l ∧ (l.map one1).sum + 1 ≤ Rows.uptoBulk x.1 :=
 open_lst2 Try.underlying45 Try.cellsInst Try.bytesInst h hw fun n cs y b o hn ht hy hat => by
  obtain ⟨v, rfl, hv⟩ := open_inst ht hy
  exact ⟨v, ⟨hat, hv⟩, one_le _⟩
theorem one_sum (l : List PI) : (l.map one1).sum = l.length := by
 induction l with
 | nil => rfl
 | cons x l ih => simp only [List.map_cons, List.sum_cons, List.length_cons, ih, one1]; omega
def szP (p : PP) : Nat := 1 + p.ins.length
def szF (f : PF) : Nat := (f.parts.map szP).sum
def szC (c : PC) : Nat := (c.fns.map szF).sum

set_option maxRecDepth 100000 in
theorem open_part2 {fuel : Nat} {cs : List Value} {x : DataW H × List MemPlace} (h : DataW.trod enc Try.prog w base spare held fuel 47 cs = some x) (hw : Light 47 x.1) : ∃ v : PP, cs = v.cells ∧ v.ok w ∧ szP v ≤ Rows.uptoBulk x.1 := by
 obtain ⟨xs, n, rfl, rfl, hl, hxl, hf⟩ := DataW.trod_struct Try.underlying47 h
 have hp := @Light.part H 47 _ Try.underlying47 xs [] hw
 rw [Try.cellsPart] at hl
 have g0 : DataW.trod enc Try.prog w base spare held n 45 ((cs.drop 0).take (Try.prog.cellsOf 45)) = xs[0]? := hf 0 _ rfl
 have g1 : DataW.trod enc Try.prog w base spare held n 4 ((cs.drop 1).take (Try.prog.cellsOf 4)) = xs[1]? := hf 1 _ rfl
 have g2 : DataW.trod enc Try.prog w base spare held n 3 ((cs.drop 2).take (Try.prog.cellsOf 3)) = xs[2]? := hf 2 _ rfl
 have g3 : DataW.trod enc Try.prog w base spare held n 3 ((cs.drop 3).take (Try.prog.cellsOf 3)) = xs[3]? := hf 3 _ rfl
 have g4 : DataW.trod enc Try.prog w base spare held n 3 ((cs.drop 4).take (Try.prog.cellsOf 3)) = xs[4]? := hf 4 _ rfl
 simp only [Try.cellsInsts, Try.cellsInt, Try.cellsBool] at g0 g1 g2 g3 g4
 have ex : ∀ i, i < 5 → ∃ y, xs[i]? = some y := fun i hi => ⟨_, List.getElem?_eq_getElem (by rw [hxl]; exact hi)⟩
 obtain ⟨y0, e0⟩ := ex 0 (by decide)
 obtain ⟨y1, e1⟩ := ex 1 (by decide)
 obtain ⟨y2, e2⟩ := ex 2 (by decide)
 obtain ⟨y3, e3⟩ := ex 3 (by decide)
 obtain ⟨y4, e4⟩ := ex 4 (by decide)
 rw [e0] at g0
 rw [e1] at g1
 rw [e2] at g2
 rw [e3] at g3
 rw [e4] at g4
 obtain ⟨z1, c1, _⟩ := DataW.trod_bool Try.underlying4 g1
 obtain ⟨z2, c2, _, w2⟩ := DataW.trod_int Try.underlying3 g2
 obtain ⟨z3, c3, _, w3⟩ := DataW.trod_int Try.underlying3 g3
 obtain ⟨z4, c4, _, w4⟩ := DataW.trod_int Try.underlying3 g4
 match cs, hl with
 | [a0, a1, a2, a3, a4], _ =>
  simp at c1 c2 c3 c4 g0
  obtain ⟨aa, ac, l, rfl, hs, hi, hsz⟩ := open_insts2 g0 (hp (j := 0) rfl e0)
  subst c1 c2 c3 c4
  exact ⟨⟨l, z1, z2, z3, z4, aa, ac⟩, rfl, ⟨wf64 w2, wf64 w3, wf64 w4, hs, hi⟩, by rw [one_sum] at hsz; exact Nat.le_trans (show 1 + l.length ≤ Rows.uptoBulk y0.1 + 1 by omega) (agg_le e0)⟩

theorem open_parts2 {fuel : Nat} {u : Value} {x : DataW H × List MemPlace} (h : DataW.trod enc Try.prog w base spare held fuel 42 [u] = some x) (hw : Light 42 x.1) : ∃ a c l, u = .slice a (List.length l) c ∧ sok 56 a l.length c ∧ Prts w a l ∧ (l.map szP).sum + 1 ≤ Rows.uptoBulk x.1 :=
 open_lst2 Try.underlying42 Try.cellsPart Try.bytesPart h hw fun n cs y b o hn ht hy hat => by
  obtain ⟨v, rfl, hv, hz⟩ := open_part2 ht hy
  exact ⟨v, ⟨hat, hv⟩, hz⟩

set_option maxRecDepth 100000 in
theorem open_fn2 {fuel : Nat} {cs : List Value} {x : DataW H × List MemPlace} (h : DataW.trod enc Try.prog w base spare held fuel 44 cs = some x) (hw : Light 44 x.1) : ∃ v : PF, cs = v.cells ∧ v.ok w ∧ szF v ≤ Rows.uptoBulk x.1 := by
 obtain ⟨xs, n, rfl, rfl, hl, hxl, hf⟩ := DataW.trod_struct Try.underlying44 h
 have hp := @Light.part H 44 _ Try.underlying44 xs [] hw
 rw [Try.cellsFn] at hl
 have g0 : DataW.trod enc Try.prog w base spare held n 3 ((cs.drop 0).take (Try.prog.cellsOf 3)) = xs[0]? := hf 0 _ rfl
 have g1 : DataW.trod enc Try.prog w base spare held n 3 ((cs.drop 1).take (Try.prog.cellsOf 3)) = xs[1]? := hf 1 _ rfl
 have g2 : DataW.trod enc Try.prog w base spare held n 22 ((cs.drop 2).take (Try.prog.cellsOf 22)) = xs[2]? := hf 2 _ rfl
 have g3 : DataW.trod enc Try.prog w base spare held n 42 ((cs.drop 3).take (Try.prog.cellsOf 42)) = xs[3]? := hf 3 _ rfl
 simp only [Try.cellsInts, Try.cellsInt, Try.cellsParts] at g0 g1 g2 g3
 have ex : ∀ i, i < 4 → ∃ y, xs[i]? = some y := fun i hi => ⟨_, List.getElem?_eq_getElem (by rw [hxl]; exact hi)⟩
 obtain ⟨y0, e0⟩ := ex 0 (by decide)
 obtain ⟨y1, e1⟩ := ex 1 (by decide)
 obtain ⟨y2, e2⟩ := ex 2 (by decide)
 obtain ⟨y3, e3⟩ := ex 3 (by decide)
 rw [e0] at g0
 rw [e1] at g1
 rw [e2] at g2
 rw [e3] at g3
 obtain ⟨z0, c0, _, w0⟩ := DataW.trod_int Try.underlying3 g0
 obtain ⟨z1, c1, _, w1⟩ := DataW.trod_int Try.underlying3 g1
 match cs, hl with
 | [a0, a1, a2, a3], _ =>
  simp at c0 c1 g2 g3
  obtain ⟨sa, sc, sl, rfl, hs, hi⟩ := open_ints g2 (hp (j := 2) rfl e2)
  obtain ⟨pa, pc, pl, rfl, hs2, hi2, hsz⟩ := open_parts2 g3 (hp (j := 3) rfl e3)
  subst c0 c1
  exact ⟨⟨z0, z1, sl, pl, sa, sc, pa, pc⟩, rfl, ⟨wf64 w0, wf64 w1, hs, hi, hs2, hi2⟩, Nat.le_trans (show (pl.map szP).sum ≤ Rows.uptoBulk y3.1 + 1 by omega) (agg_le e3)⟩

theorem open_fns2 {fuel : Nat} {u : Value} {x : DataW H × List MemPlace} (h : DataW.trod enc Try.prog w base spare held fuel 24 [u] = some x) (hw : Light 24 x.1) : ∃ a c l, u = .slice a (List.length l) c ∧ sok 64 a l.length c ∧ Fns w a l ∧ (l.map szF).sum + 1 ≤ Rows.uptoBulk x.1 :=
 open_lst2 Try.underlying24 Try.cellsFn Try.bytesFn h hw fun n cs y b o hn ht hy hat => by
  obtain ⟨v, rfl, hv, hz⟩ := open_fn2 ht hy
  exact ⟨v, ⟨hat, hv⟩, hz⟩

set_option maxRecDepth 100000 in
theorem open_code2 {fuel : Nat} {cs : List Value} {x : DataW H × List MemPlace} (h : DataW.trod enc Try.prog w base spare held fuel 26 cs = some x) (hw : Light 26 x.1) : ∃ v : PC, cs = v.cells ∧ v.ok w ∧ szC v ≤ Rows.uptoBulk x.1 := by
 obtain ⟨xs, n, rfl, rfl, hl, hxl, hf⟩ := DataW.trod_struct Try.underlying26 h
 have hp := @Light.part H 26 _ Try.underlying26 xs [] hw
 rw [Try.cellsCode] at hl
 have g0 : DataW.trod enc Try.prog w base spare held n 22 ((cs.drop 0).take (Try.prog.cellsOf 22)) = xs[0]? := hf 0 _ rfl
 have g1 : DataW.trod enc Try.prog w base spare held n 23 ((cs.drop 1).take (Try.prog.cellsOf 23)) = xs[1]? := hf 1 _ rfl
 have g2 : DataW.trod enc Try.prog w base spare held n 24 ((cs.drop 2).take (Try.prog.cellsOf 24)) = xs[2]? := hf 2 _ rfl
 simp only [Try.cellsInts, Try.cellsI64s, Try.cellsFns] at g0 g1 g2
 have ex : ∀ i, i < 3 → ∃ y, xs[i]? = some y := fun i hi => ⟨_, List.getElem?_eq_getElem (by rw [hxl]; exact hi)⟩
 obtain ⟨y0, e0⟩ := ex 0 (by decide)
 obtain ⟨y1, e1⟩ := ex 1 (by decide)
 obtain ⟨y2, e2⟩ := ex 2 (by decide)
 rw [e0] at g0
 rw [e1] at g1
 rw [e2] at g2
 match cs, hl with
 | [a0, a1, a2], _ =>
  simp at g0 g1 g2
  obtain ⟨sa, sc, sl, rfl, hs, hi⟩ := open_ints g0 (hp (j := 0) rfl e0)
  obtain ⟨na, nc, nl, rfl, hs1, hi1⟩ := open_i64s g1 (hp (j := 1) rfl e1)
  obtain ⟨pa, pc, pl, rfl, hs2, hi2, hsz⟩ := open_fns2 g2 (hp (j := 2) rfl e2)
  exact ⟨⟨sl, nl, pl, sa, sc, na, nc, pa, pc⟩, rfl, ⟨hs, hi, hs1, hi1, hs2, hi2⟩, Nat.le_trans (show (pl.map szF).sum ≤ Rows.uptoBulk y2.1 + 1 by omega) (agg_le e2)⟩

/-- An argument that is code. -/
theorem open_arg_code2 {v0 : Value} {d : DataW H} {ps : List MemPlace} (h : DataW.Trod enc Try.prog w base spare held 26 v0 d ps) (hw : Light 26 d) : ∃ v : PC, v0 = v.v ∧ v.ok w ∧ szC v ≤ Rows.uptoBulk d := by
 obtain ⟨fuel, h⟩ := h
 obtain ⟨v, e, hv, hz⟩ := open_code2 h hw
 refine ⟨v, ?_, hv, hz⟩
 have e' := congrArg List.toArray e
 rw [Array.toArray_toList] at e'
 cases v0 with
 | agg cs => simpa [Value.cells, PC.cells] using e'
 | _ => simp [Value.cells, PC.cells] at e'

theorem sz_code (c : PC) : codeN c = (szC c : Int) := by
 have hp : ∀ l : List PP, (l.map partN).sum = ((l.map szP).sum : Nat) := fun l => by
  induction l with
  | nil => simp
  | cons p l ih => simp only [List.map_cons, List.sum_cons, ih, partN, szP]; omega
 have hf : ∀ l : List PF, (l.map fnN).sum = ((l.map szF).sum : Nat) := fun l => by
  induction l with
  | nil => simp
  | cons f l ih =>
   have := hp f.parts
   simp only [List.map_cons, List.sum_cons, ih, fnN, szF]
   omega
 exact hf c.fns
/-- What the bound gives. -/
theorem upto_code {H : Type} {d : DataW H} {l : List (DataW H)} {c : PC} (hk : Rows.uptoSmall H (d :: l) = true) (h : szC c ≤ Rows.uptoBulk d) : codeN c ≤ 1099511627776 := by
 have h1 : Rows.uptoBulkAll (d :: l) ≤ 1048576 := of_decide_eq_true hk
 simp only [Rows.uptoBulkAll] at h1
 rw [sz_code]
 omega

end Go.Proofs.Ytphknepblchkdaa.Pp
