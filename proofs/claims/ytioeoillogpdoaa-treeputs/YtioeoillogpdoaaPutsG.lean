/-
  What replace makes of a tree, but for its walk: what is answered, and the kids in the place of which others stand; no conditions but those that each fact bears.
-/
import Derived.Test.YtioeoillogpdoaaPutsF
import Derived.Test.YtioeoillogpdoaaCopy
import Derived.Deep.RegionWith
namespace Go.Proofs.Ytioeoillogpdoaa
open Go.RowKit
set_option linter.unusedVariables false

/-- What is answered: a node with these kids, old ones or new. -/
def Rpl (w : World) (W0 : Nat) (v : NF) (T : Fo) (e : Ending) (w' : World) : Prop :=
  ∃ a' c' f', e = .returned (nodeV v (.slice a' f'.len c')) ∧ Cp T f' ∧ sok a' f'.len c' ∧ In w' a' f' ∧ Av (fun b => b < W0 ∨ w.heap.size ≤ b) a' f' ∧ Q w w'

theorem wrap_small (n : Int) (h0 : 0 ≤ n) (h1 : n < 9223372036854775808) : IntKind.i64.wrap n = n := by
  unfold IntKind.wrap
  simp [IntKind.bits, IntKind.signed]
  omega
/-- A list of one's own. -/
theorem own_form {y : World} {B : Nat} {vv : Value} {G : Fo} (h : y.ownsRow B 26 10 vv G.len (cellsF G)) (hk : KI y G) : ∃ a' c', vv = .slice a' G.len c' ∧ sok a' G.len c' ∧ In y a' G ∧ (∀ P : Nat → Prop, (∀ b, B ≤ b → P b) → KAv P G → Av P a' G) := by
  rcases h.2 with ⟨h1, h2⟩ | ⟨g, cap, cur, rfl, hg, hh, hn, hc, hs, ht⟩
  · have e : G = .nil := by
      cases G
      · rfl
      · simp [Fo.len] at h2
    subst e
    exact ⟨none, 0, h1, ⟨Nat.le_refl _, Nat.zero_le _, fun _ => rfl⟩, trivial, fun _ _ _ => trivial⟩
  · refine ⟨some ⟨g, 0, none⟩, cap, rfl, ⟨hn, hc, fun h => by cases h⟩, In.of_cells (fun j hj => ?_) hk, fun P hP hK => av_of_kids (hP g hg) hK⟩
    rw [show 0 + j = j by omega, cell_of_block hh, ← ht, List.getElem?_take_of_lt (by rw [cellsF_len] at hj; omega)]
    simp

/-- The kids ahead of the place, the list, and the kids behind it. -/
theorem cat_at {w wr : World} {f F : Fo} {b o c k lc C3 W0 : Nat} {la A3 : Option Addr} (K : Obj) (hq : Q w wr) (hin : In w (some ⟨b, o, none⟩) f) (hs : sok (some ⟨b, o, none⟩) f.len c) (hk : k < f.len) (hinF : In w la F) (hsF : sok la F.len lc) (h3 : In w A3 (f.drop (k + 1))) (s3 : sok A3 (f.drop (k + 1)).len C3)
    (hav : Av (fun b => b < W0) (some ⟨b, o, none⟩) f) (havF : Av (fun b => b < W0) la F) (hlen : f.len ≤ 4000) (hFl : F.len ≤ 7000) (B : Nat) (hB : B ≤ wr.heap.size) :
    Calls Try.prog 48 #[.slice (some ⟨wr.heap.size + 1, 0, none⟩) 3 3] ((wr.alloc K).alloc (.cells #[.slice (some ⟨b, o, none⟩) k c, .slice la F.len lc, .slice A3 (f.len - (k + 1)) C3] 24)).drew fun e y =>
      ∃ a' c' G, e = .returned (.slice a' G.len c') ∧ (f.take k).app (F.app (f.drop (k + 1))) = G ∧ sok a' G.len c' ∧ In y a' G ∧ Av (fun b => b < W0 ∨ B ≤ b) a' G ∧ Q wr y := by
  have e1 : (f.take k).len = k := take_len f k (by omega)
  have e3 : (f.drop (k + 1)).len = f.len - (k + 1) := Fo.drop_len f (k + 1)
  have q1 : Q wr ((wr.alloc K).alloc (.cells #[.slice (some ⟨b, o, none⟩) k c, .slice la F.len lc, .slice A3 (f.len - (k + 1)) C3] 24)).drew := q_drew (((Below.refl _ _).alloc (Nat.le_refl _) K).alloc (by simp) _)
  have hX : (((wr.alloc K).alloc (.cells #[.slice (some ⟨b, o, none⟩) k c, .slice la F.len lc, .slice A3 (f.len - (k + 1)) C3] 24)).drew).heap[wr.heap.size + 1]? = some (.cells #[.slice (some ⟨b, o, none⟩) k c, .slice la F.len lc, .slice A3 (f.len - (k + 1)) C3] 24 (0, 0)) := by
    have := heap_alloc_new (wr.alloc K) (.cells #[.slice (some ⟨b, o, none⟩) k c, .slice la F.len lc, .slice A3 (f.len - (k + 1)) C3] 24)
    have e : (wr.alloc K).heap.size = wr.heap.size + 1 := by simp
    rw [e] at this
    exact this
  have hsz : (((wr.alloc K).alloc (.cells #[.slice (some ⟨b, o, none⟩) k c, .slice la F.len lc, .slice A3 (f.len - (k + 1)) C3] 24)).drew).heap.size = wr.heap.size + 2 := by simp
  generalize ((wr.alloc K).alloc (.cells #[.slice (some ⟨b, o, none⟩) k c, .slice la F.len lc, .slice A3 (f.len - (k + 1)) C3] 24)).drew = X at q1 hX hsz
  have q2 : Q w X := hq.trans q1
  have hc := concat_any (f.take k) F (f.drop (k + 1)) (some ⟨b, o, none⟩) la A3 c lc C3 (wr.heap.size + 1) X (by rw [e1]; exact cell_of_block hX 0) (cell_of_block hX 1) (by rw [e3]; exact cell_of_block hX 2)
    ((in_take hin k).keep (Nat.le_refl _) q2) (hinF.keep (Nat.le_refl _) q2) (h3.keep (Nat.le_refl _) q2) (by rw [e1]; exact ⟨by have := hs.1; omega, hs.2.1, hs.2.2⟩) hsF s3 (by rw [e1, e3]; omega)
  refine hc.mono ?_
  rintro e y ⟨vv, rfl, ho, hq3⟩
  have q4 : Q w y := q2.trans hq3
  have hKI : KI y (((f.take k).app F).app (f.drop (k + 1))) := (((in_take hin k).kids.app hinF.kids).app h3.kids).keep q4
  obtain ⟨a', c', rfl, p2, p3, p4⟩ := own_form ho hKI
  rw [app_assoc] at p2 p3 p4
  refine ⟨a', c', _, by rw [app_assoc], rfl, p2, p3, p4 _ (fun b hb => Or.inr (by omega)) ?_, q1.trans hq3⟩
  have m : ∀ {g : Fo}, KAv (fun b => b < W0) g → KAv (fun b => b < W0 ∨ B ≤ b) g := fun h => h.mono (fun b hb => Or.inl hb)
  exact (m (hav.kids.take k)).app ((m havF.kids).app (m (hav.kids.drop (k + 1))))

/-- The node's box behind the kids' change, and the result's. -/
theorem rpl_end {w y : World} {v : NF} {s : Value} {W0 c' : Nat} {a' : Option Addr} {T G : Fo} (hW : W0 ≤ w.heap.size) (hq : Q (boxed2 w v s (nf 0 0) (.slice none 0 0)) y) (hc : Cp T G) (hs : sok a' G.len c') (hin : In y a' G) (hav : Av (fun b => b < W0 ∨ w.heap.size + 2 ≤ b) a' G) :
    ∀ z, (∃ u0 u1 u2 u3 u4 u5 u6 u7 u8 u9 u10, z = (((((((((((y.setCell ⟨w.heap.size, 9, none⟩ u10).setCell ⟨w.heap.size + 1, 0, none⟩ u0).setCell ⟨w.heap.size + 1, 1, none⟩ u1).setCell ⟨w.heap.size + 1, 2, none⟩ u2).setCell ⟨w.heap.size + 1, 3, none⟩ u3).setCell ⟨w.heap.size + 1, 4, none⟩ u4).setCell ⟨w.heap.size + 1, 5, none⟩ u5).setCell ⟨w.heap.size + 1, 6, none⟩ u6).setCell ⟨w.heap.size + 1, 7, none⟩ u7).setCell ⟨w.heap.size + 1, 8, none⟩ u8).setCell ⟨w.heap.size + 1, 9, none⟩ u9)) →
      Rpl w W0 v T (.returned (nodeV v (.slice a' G.len c'))) z := by
  rintro z ⟨u0, u1, u2, u3, u4, u5, u6, u7, u8, u9, u10, rfl⟩
  have hA : Av (fun b => b ≠ w.heap.size) a' G := hav.mono (fun b hb => by omega)
  have hB : Av (fun b => b ≠ w.heap.size + 1) a' G := hav.mono (fun b hb => by omega)
  refine ⟨a', c', G, rfl, hc, hs, ?_, hav.mono (fun b hb => by omega), ?_⟩
  · refine in_set (in_set (in_set (in_set (in_set (in_set (in_set (in_set (in_set (in_set (in_set hin hA) hB) hB) hB) hB) hB) hB) hB) hB) hB) hB
  · repeat (refine Below.setCell ?_ (by simp <;> omega) _)
    exact (boxed2_q _ _ _ _ _).trans hq

/-- Clone of the kids. -/
theorem clone_at {f : Fo} {b o c : Nat} {w y0 : World} (hq : Q w y0) (hin : In w (some ⟨b, o, none⟩) f) (hs : sok (some ⟨b, o, none⟩) f.len c) (h0 : 0 < f.len) (hlen : f.len ≤ 4000) :
    Calls Try.prog 49 #[.slice (some ⟨b, o, none⟩) f.len c] y0 fun e y1 => ∃ g c1 cur, e = .returned (.slice (some ⟨g, 0, none⟩) f.len c1) ∧ sok (some ⟨g, 0, none⟩) f.len c1 ∧ y0.heap.size ≤ g ∧ y1.heap[g]? = some (.cells cur 26 (0, 0)) ∧ cur.toList.take (f.len * 10) = cellsF f ∧ cur.size = c1 * 10 ∧ Q y0 y1 := by
  refine (clone_any f ⟨b, o, none⟩ c y0 (hin.keep (Nat.le_refl _) hq) hs (by omega)).mono ?_
  rintro e y1 ⟨vv, rfl, ho, hq1⟩
  rcases ho.2 with ⟨_, h2⟩ | ⟨g, cap, cur, rfl, hg, hh, hn, hc, hs, ht⟩
  · omega
  · exact ⟨g, cap, cur, rfl, ⟨hn, hc, fun h => by cases h⟩, hg, hh, ht, hs, hq1⟩
/-- The boxes behind the kids' change. -/
theorem box_facts {w y1 z : World} {v : NF} {s vv : Value} (hq : Q (boxed2 w v s (nf 0 0) (.slice none 0 0)) y1) (hz : Q (y1.setCell ⟨w.heap.size, 9, none⟩ vv) z) :
    (∀ j u, j < 9 → (cellsN v s)[j]? = some u → z.cell? ⟨w.heap.size, j, none⟩ = some u) ∧ z.cell? ⟨w.heap.size, 9, none⟩ = some vv ∧ (∀ j u, (cellsN (nf 0 0) (.slice none 0 0))[j]? = some u → z.cell? ⟨w.heap.size + 1, j, none⟩ = some u) ∧
      (∀ j, z.frozen? ⟨w.heap.size, j, none⟩ = false ∧ z.frozen? ⟨w.heap.size + 1, j, none⟩ = false) := by
  have hsz : w.heap.size + 2 ≤ y1.heap.size := by have := hq.size; simp at this; omega
  have hb1 : y1.heap[w.heap.size]? = some (.cells (cellsN v s).toArray 26 (0, 0)) := by
    rw [hq.block _ (by simp; omega), Below.heap_alloc _ _ _ (by simp)]
    exact heap_alloc_new w _
  have hb2 : y1.heap[w.heap.size + 1]? = some (.cells (cellsN (nf 0 0) (.slice none 0 0)).toArray 26 (0, 0)) := by
    rw [hq.block _ (by simp)]
    have := heap_alloc_new (boxed w v s) (.cells (cellsN (nf 0 0) (.slice none 0 0)).toArray 26 (0, 0))
    simpa using this
  have z1 : z.heap[w.heap.size]? = some (.cells ((cellsN v s).toArray.setIfInBounds 9 vv) 26 (0, 0)) := by
    rw [hz.block _ (by simp; omega)]
    exact block_setCell hb1 vv
  have z2 : z.heap[w.heap.size + 1]? = some (.cells (cellsN (nf 0 0) (.slice none 0 0)).toArray 26 (0, 0)) := by
    rw [hz.block _ (by simp; omega), Below.heap_setCell _ _ _ _ (by simp)]
    exact hb2
  refine ⟨fun j u hj hu => ?_, ?_, fun j u hu => ?_, fun j => ⟨free_of_block z1 j, free_of_block z2 j⟩⟩
  · rw [cell_of_block z1, Array.getElem?_setIfInBounds_ne (by omega)]
    simpa using hu
  · rw [cell_of_block z1]
    simp [cellsN]
  · rw [cell_of_block z2]
    simpa using hu
/-- The clone with one kid changed. -/
theorem clone_set {w y1 z : World} {f G2 ks : Fo} {g c1 k kc c2 W0 : Nat} {cur : Array Value} {ka a2 : Option Addr} {v' : NF} {b o : Nat} (hw : W0 ≤ w.heap.size) (hin : In w (some ⟨b, o, none⟩) f) (hav : Av (fun b => b < W0) (some ⟨b, o, none⟩) f) (e : f.drop k = .cons v' ka kc ks (f.drop (k + 1))) (hk : k < f.len)
    (hg : w.heap.size + 2 ≤ g) (hz : z.heap[g]? = some (.cells cur 26 (0, 0))) (ht : cur.toList.take (f.len * 10) = cellsF f) (hcs : cur.size = c1 * 10) (hfc : f.len ≤ c1) (hqz : Q w z) (hi2 : In z a2 G2) (hs2 : sok a2 G2.len c2) (hv' : v'.ok) (ha2 : Av (fun b => b < W0 ∨ g < b) a2 G2) :
    In (z.setCell ⟨g, k * 10 + 9, none⟩ (.slice a2 G2.len c2)) (some ⟨g, 0, none⟩) ((f.take k).app (.cons v' a2 c2 G2 (f.drop (k + 1)))) ∧ Av (fun b => b < W0 ∨ w.heap.size + 2 ≤ b) (some ⟨g, 0, none⟩) ((f.take k).app (.cons v' a2 c2 G2 (f.drop (k + 1)))) ∧
      Q w (z.setCell ⟨g, k * 10 + 9, none⟩ (.slice a2 G2.len c2)) := by
  have hfk : (f.take k).len = k := take_len f k (by omega)
  have hf : f = (f.take k).app (.cons v' ka kc ks (f.drop (k + 1))) := by rw [← e, take_drop]
  have hQ : Q w (z.setCell ⟨g, k * 10 + 9, none⟩ (.slice a2 G2.len c2)) := Below.setCell hqz (by simp; omega) _
  have hKav : KAv (fun b => b < W0) f := hav.kids
  have m : ∀ {g' : Fo}, KAv (fun b => b < W0) g' → KAv (fun b => b < W0 ∨ w.heap.size + 2 ≤ b) g' := fun h => h.mono (fun b hb => Or.inl hb)
  refine ⟨In.of_cells (fun j hj => ?_) ?_, av_of_kids (Or.inr hg) ((m (hKav.take k)).app ⟨ha2.mono (fun b hb => by omega), m (hKav.drop (k + 1))⟩), hQ⟩
  · have hG := set_kid (f.take k) (f.drop (k + 1)) v' ka a2 kc c2 ks G2
    rw [← hf, hfk] at hG
    rw [← hG] at hj ⊢
    rw [show 0 + j = j by omega, cell_of_block (block_setCell hz _), ← ht]
    simp at hj
    rw [List.getElem?_set, List.getElem?_take_of_lt (by rw [cellsF_len] at hj; omega)]
    rw [Array.getElem?_setIfInBounds]
    split
    · rename_i e'
      subst e'
      rw [if_pos (by omega), if_pos (by simp; omega)]
    · simp
  · have hKI : KI (z.setCell ⟨g, k * 10 + 9, none⟩ (.slice a2 G2.len c2)) f := hin.kids.keep hQ
    exact (hKI.take k).app ⟨hv', hs2, in_set hi2 (ha2.mono (fun b hb => by simp; omega)), hKI.drop (k + 1)⟩
/-- The result's box is filled. -/
theorem rpl_fin {w y : World} {v : NF} {W0 c' : Nat} {a' : Option Addr} {T G : Fo} (hW : W0 ≤ w.heap.size) (hq : Q w y) (hc : Cp T G) (hs : sok a' G.len c') (hin : In y a' G) (hav : Av (fun b => b < W0 ∨ w.heap.size + 2 ≤ b) a' G) :
    ∀ z, (∃ u0 u1 u2 u3 u4 u5 u6 u7 u8 u9, z = ((((((((((y.setCell ⟨w.heap.size + 1, 0, none⟩ u0).setCell ⟨w.heap.size + 1, 1, none⟩ u1).setCell ⟨w.heap.size + 1, 2, none⟩ u2).setCell ⟨w.heap.size + 1, 3, none⟩ u3).setCell ⟨w.heap.size + 1, 4, none⟩ u4).setCell ⟨w.heap.size + 1, 5, none⟩ u5).setCell ⟨w.heap.size + 1, 6, none⟩ u6).setCell ⟨w.heap.size + 1, 7, none⟩ u7).setCell ⟨w.heap.size + 1, 8, none⟩ u8).setCell ⟨w.heap.size + 1, 9, none⟩ u9)) →
      Rpl w W0 v T (.returned (nodeV v (.slice a' G.len c'))) z := by
  rintro z ⟨u0, u1, u2, u3, u4, u5, u6, u7, u8, u9, rfl⟩
  have hB : Av (fun b => b ≠ w.heap.size + 1) a' G := hav.mono (fun b hb => by omega)
  refine ⟨a', c', G, rfl, hc, hs, ?_, hav.mono (fun b hb => by omega), ?_⟩
  · refine in_set (in_set (in_set (in_set (in_set (in_set (in_set (in_set (in_set (in_set hin hB) hB) hB) hB) hB) hB) hB) hB) hB) hB
  · repeat (refine Below.setCell ?_ (by simp <;> omega) _)
    exact hq

theorem elem_cells {f ks : Fo} {k kc : Nat} {v' : NF} {ka : Option Addr} (e : f.drop k = .cons v' ka kc ks (f.drop (k + 1))) (hk : k < f.len) (j : Nat) (hj : j < 10) : (cellsF f)[k * 10 + j]? = (cellsN v' (.slice ka ks.len kc))[j]? := by
  have hf : f = (f.take k).app (.cons v' ka kc ks (f.drop (k + 1))) := by rw [← e, take_drop]
  rw [hf, cellsF_app, List.getElem?_append_right (by rw [cellsF_len, take_len f k (by omega)]; omega), cellsF_len, take_len f k (by omega), show k * 10 + j - k * 10 = j by omega]
  show (cellsN v' (.slice ka ks.len kc) ++ cellsF (f.drop (k + 1)))[j]? = _
  rw [List.getElem?_append_left (by rw [cellsN_len]; exact hj)]
/-- The clone's element behind the call, and the boxes behind its change. -/
theorem z_facts {w y1 z : World} {v v' : NF} {s vv : Value} {f ks : Fo} {k kc g c1 : Nat} {ka : Option Addr} {cur : Array Value} (hq : Q (boxed2 w v s (nf 0 0) (.slice none 0 0)) y1) (hz : Q (y1.setCell ⟨w.heap.size, 9, none⟩ vv).drew z) (hg : w.heap.size + 2 ≤ g) (hh : y1.heap[g]? = some (.cells cur 26 (0, 0)))
    (ht : cur.toList.take (f.len * 10) = cellsF f) (e : f.drop k = .cons v' ka kc ks (f.drop (k + 1))) (hk : k < f.len) :
    z.heap[g]? = some (.cells cur 26 (0, 0)) ∧ (∀ j u, j < 10 → (cellsN v' (.slice ka ks.len kc))[j]? = some u → z.cell? ⟨g, k * 10 + j, none⟩ = some u ∧ z.frozen? ⟨g, k * 10 + j, none⟩ = false ∧ z.setCell ⟨g, k * 10 + j, none⟩ u = z) ∧
      ∀ (q : Nat) (u : Value), (∀ j u', j < 9 → (cellsN v s)[j]? = some u' → (z.setCell ⟨g, q, none⟩ u).cell? ⟨w.heap.size, j, none⟩ = some u') ∧ (z.setCell ⟨g, q, none⟩ u).cell? ⟨w.heap.size, 9, none⟩ = some vv ∧
        (∀ j u', (cellsN (nf 0 0) (.slice none 0 0))[j]? = some u' → (z.setCell ⟨g, q, none⟩ u).cell? ⟨w.heap.size + 1, j, none⟩ = some u') ∧ ∀ j, (z.setCell ⟨g, q, none⟩ u).frozen? ⟨w.heap.size + 1, j, none⟩ = false := by
  have hz' : Q (y1.setCell ⟨w.heap.size, 9, none⟩ vv) z := ⟨hz.os, hz.tape, hz.output, hz.size, hz.block⟩
  obtain ⟨b1, b2, b3, b4⟩ := box_facts hq hz'
  have hgl : g < y1.heap.size := lt_of_block hh
  have zg : z.heap[g]? = some (.cells cur 26 (0, 0)) := by
    rw [hz'.block g (by simpa using hgl), Below.heap_setCell _ _ _ _ (by simp; omega)]
    exact hh
  refine ⟨zg, fun j u hj hu => ?_, fun q u => ⟨fun j u' hj hu => ?_, ?_, fun j u' hu => ?_, fun j => ?_⟩⟩
  · have hc : cur[k * 10 + j]? = some u := by
      have := elem_cells e hk j hj
      rw [← ht, List.getElem?_take_of_lt (by omega), hu] at this
      simpa using this
    exact ⟨(cell_of_block zg _).trans hc, free_of_block zg _, setCell_same zg hc⟩
  · rw [World.cell?_of_block (Below.heap_setCell z ⟨g, q, none⟩ u w.heap.size (by simp; omega))]
    exact b1 j u' hj hu
  · rw [World.cell?_of_block (Below.heap_setCell z ⟨g, q, none⟩ u w.heap.size (by simp; omega))]
    exact b2
  · rw [World.cell?_of_block (Below.heap_setCell z ⟨g, q, none⟩ u (w.heap.size + 1) (by simp; omega))]
    exact b3 j u' hu
  · rw [World.frozen?_of_block (Below.heap_setCell z ⟨g, q, none⟩ u (w.heap.size + 1) (by simp; omega))]
    exact (b4 j).2

end Go.Proofs.Ytioeoillogpdoaa
