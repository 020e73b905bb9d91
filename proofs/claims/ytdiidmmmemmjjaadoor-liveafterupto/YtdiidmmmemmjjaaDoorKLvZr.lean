/-
  A word taken out of a set's own words (slices.Delete at live's words): a contract over the program; the condition: the words are a row of one's own.
  A register taken from a set whose words are a row of its own (live's remove): contracts over the program.
  A register taken from a set whose words are a row of its own, where its word gets empty (live's remove): a contract over the program.
-/
import Derived.Test.YtdiidmmmemmjjaaDoorKLvZo
import Derived.Laws.OwnMore
import Derived.Laws.CopyRow
import Derived.Deep.RegionLaw
namespace Go.Proofs.YtdiidmmmemmjjaaDoor.Lv
open Go.RowKit
set_option linter.unusedVariables false

/-- An append with room, at a step of a region that draws its order: where the row lies, and what it holds. -/
theorem step_append_fits {ops : Array Oper} {o : Oper} {ac : Act} {w : World} {K : Act → World → Prop} {Q' : Exit → Act → World → Prop} {E : Prop} (hgd : o.guard = none) (s x : Operand) (t : TypeId)
    (ho : o.op = Op.call { callee := Callee.builtin Builtin.append, args := #[s, x], argTypes := #[t, t] })
    (base : Nat) (e : TypeId) (i : TypeInfo) (size : Nat) (ht : Tryd.prog.underlying t = some (.slice e)) (hi : Tryd.prog.info? e = some i) (hsize : i.size = size)
    (g n cap : Nat) (xs : List Value) (hs : ac.eval s = .slice (some ⟨g, 0, none⟩) n cap) (hown : w.ownsRow base e size (.slice (some ⟨g, 0, none⟩) n cap) n xs)
    (ad : Addr) (m c : Nat) (news : List Value) (hx : ac.eval x = .slice (some ad) m c) (hl : news.length = m * size) (hnews : ∀ j u, news[j]? = some u → w.cell? (ad.add j) = some u) (h1 : ∀ u ∈ news, u.oneCell' = true)
    (hroom : n + m ≤ cap) (q : Nat) (hq : n + m = q)
    (k : ∀ w', w'.ownsRow base e size (.slice (some ⟨g, 0, none⟩) q cap) q (xs ++ news) → w.grownBy w' (some g) → K (ac.put o.dst (.slice (some ⟨g, 0, none⟩) q cap)) w') :
    if Region.wanted o (yielded ops ac.tmps) = true then Oper.wp Tryd.prog o ac w K Q' else E := by
  subst hq
  have hw : Region.wanted o (yielded ops ac.tmps) = true := by simp [Region.wanted, hgd]
  rw [if_pos hw]
  obtain ⟨w', hrun, h2, h3⟩ := run_append_fits (P := Tryd.prog) w base t o.type e i size ht hi hsize g n cap xs hown ad m c news hl hnews h1 hroom
  unfold Oper.wp
  simp [execOp, ho, resolve, invoke, builtin, hs, hx, hrun, Result.andThen]
  exact k w' h2 h3
theorem wdC_append (L M : List (Int × Int)) : wdC (L ++ M) = wdC L ++ wdC M := by
  induction L with
  | nil => rfl
  | cons x L ih => rw [List.cons_append, wdC_cons, wdC_cons, ih]; rfl
theorem wdC_take (k : Nat) (L : List (Int × Int)) : (wdC L).take (k * 2) = wdC (L.take k) := by
  induction L generalizing k with
  | nil => simp [show wdC [] = [] from rfl]
  | cons x L ih =>
    rcases k with - | k
    · simp [show wdC [] = [] from rfl]
    · rw [wdC_cons, List.take_succ_cons, wdC_cons, ← ih, show (k + 1) * 2 = k * 2 + 1 + 1 by omega, List.take_succ_cons, List.take_succ_cons]
theorem wdC_drop (k : Nat) (L : List (Int × Int)) : (wdC L).drop (k * 2) = wdC (L.drop k) := by
  induction L generalizing k with
  | nil => simp [show wdC [] = [] from rfl]
  | cons x L ih =>
    rcases k with - | k
    · simp
    · rw [wdC_cons, List.drop_succ_cons, ← ih, show (k + 1) * 2 = k * 2 + 1 + 1 by omega, List.drop_succ_cons, List.drop_succ_cons]
/-- A word cleared behind a row. -/
theorem clear_run (W : World) (g q : Nat) (cur : Array Value) (h : W.heap[g]? = some (.cells cur 80 (0, 0))) (hs : q * 2 + 2 ≤ cur.size) :
    ∃ W', (∀ ty c, (Builtin.clear_ #[41] ty #[.slice (some ⟨g, q * 2, none⟩) 1 c]).run Tryd.prog W = .ok (.tuple #[]) W') ∧ (∀ k, k ≠ g → W'.heap[k]? = W.heap[k]?) ∧ (∃ cur', W'.heap[g]? = some (.cells cur' 80 (0, 0)) ∧ cur'.size = cur.size ∧ cur'.toList.take (q * 2) = cur.toList.take (q * 2)) ∧ W'.os = W.os ∧ W'.tape = W.tape ∧ W'.output = W.output ∧ W'.heap.size = W.heap.size := by
  have hz : (zeroValue 80).run Tryd.prog W = .ok (.agg #[.int .i64 0, .int .u64 0]) W := by kernel_rfl
  have hr := run_storeCells_at (P := Tryd.prog) g (q * 2) 80 [.int .i64 0, .int .u64 0] 0 cur W h (by simpa using hs) (by intro v hv; simp at hv; rcases hv with rfl | rfl <;> rfl)
  have hu : Tryd.prog.underlying 41 = some (.slice 80) := by kernel_rfl
  have hzc : (Builtin.zeroCells (Value.agg #[Value.int .i64 0, Value.int .u64 0]).cells 1).toList = [Value.int .i64 0, Value.int .u64 0] := by kernel_rfl
  refine ⟨W.setRow g (cur.toList.take (q * 2 + 0) ++ [Value.int .i64 0, Value.int .u64 0] ++ cur.toList.drop (q * 2 + 0 + [Value.int .i64 0, Value.int .u64 0].length)).toArray, ?_, ?_, ⟨_, setRow_heap W g cur _ _ _ h, ?_, ?_⟩, rfl, rfl, rfl, by simp⟩
  · intro ty c
    simp [Builtin.clear_, run_underlying hu, hz, hzc, hr, Result.andThen]
  · intro k hk; exact setRow_other W g k _ hk
  · simp; omega
  · simp [List.take_append, List.take_take]; omega

set_option maxRecDepth 100000 in
set_option maxHeartbeats 2000000 in
theorem delete_word (w : World) (base g cap : Nat) (L : List (Int × Int)) (i : Nat) (hi : i < L.length) (hl : L.length ≤ 1099511627776) (h : w.ownsRow base 80 2 (.slice (some ⟨g, 0, none⟩) L.length cap) L.length (wdC L)) :
    Calls Tryd.prog 53 #[.slice (some ⟨g, 0, none⟩) L.length cap, .int .i64 (i : Int), .int .i64 ((i : Int) + 1)] w fun e w' => e = .returned (.slice (some ⟨g, 0, none⟩) (L.length - 1) cap) ∧ w'.ownsRow base 80 2 (.slice (some ⟨g, 0, none⟩) (L.length - 1) cap) (L.length - 1) (wdC (L.take i ++ L.drop (i + 1))) ∧ w.grownBy w' (some g) := by
  have HO := hideIt h
  obtain ⟨n, hn⟩ : ∃ n, L.length = n := ⟨_, rfl⟩
  have hcap : n ≤ cap := by
    rcases h.2 with ⟨e, _⟩ | ⟨g', cap', cur, e, _, _, h1, _⟩
    · cases e
    · cases e; exact hn ▸ h1
  rw [hn]
  rw [hn] at hi hl HO
  have HA : Hid (∀ W : World, W.heap = w.heap → W.ownsRow base 80 2 (.slice (some ⟨g, 0, none⟩) i cap) i (wdC (L.take i)) ∧ (∀ j u, (wdC (L.drop (i + 1)))[j]? = some u → W.cell? ((⟨g, (i + 1) * 2, none⟩ : Addr).add j) = some u)) := by
    intro W hW
    rw [hn] at h
    have h' : W.ownsRow base 80 2 (.slice (some ⟨g, 0, none⟩) n cap) n (wdC L) := by
      unfold World.ownsRow
      rw [hW]
      exact h
    refine ⟨⟨by rw [wdC_len, List.length_take]; omega, ?_⟩, ?_⟩
    · rcases h'.2 with ⟨e, _⟩ | ⟨g', cap', cur, e, hb, hg, h1, h2, h3, h4⟩
      · cases e
      · cases e
        refine .inr ⟨g, cap, cur, rfl, hb, hg, by omega, h2, h3, ?_⟩
        rw [← wdC_take, ← h4, List.take_take, show min (i * 2) (n * 2) = i * 2 by omega]
    · intro j u hj
      have hlt : j < (wdC (L.drop (i + 1))).length := by
        rcases Nat.lt_or_ge j (wdC (L.drop (i + 1))).length with h | h
        · exact h
        · rw [List.getElem?_eq_none h] at hj; cases hj
      rw [wdC_len, List.length_drop] at hlt
      rw [← wdC_drop, List.getElem?_drop] at hj
      rw [← hj]
      rw [show (⟨g, (i + 1) * 2, none⟩ : Addr).add j = ⟨g, (i + 1) * 2 + j, none⟩ by simp [Addr.add]]
      exact h'.cellAt ((i + 1) * 2 + j) (by omega)
  have HL : Hid ((wdC (L.drop (i + 1))).length = (n - (i + 1)) * 2) := by
    show _ = _
    rw [wdC_len, List.length_drop, hn]
  have H1 : Hid (∀ u ∈ wdC (L.drop (i + 1)), u.oneCell' = true) := wdC_one _
  have HR : Hid (i + (n - (i + 1)) ≤ cap ∧ i + (n - (i + 1)) = n - 1) := by
    show _ ∧ _
    omega
  have HC : Hid (∀ W w' : World, W.grownBy w' (some g) → W.heap = w.heap → W.os = w.os → W.tape = w.tape → W.output = w.output → w'.ownsRow base 80 2 (.slice (some ⟨g, 0, none⟩) (n - 1) cap) (n - 1) (wdC (L.take i) ++ wdC (L.drop (i + 1))) → ∃ W', (∀ ty c, (Builtin.clear_ #[41] ty #[.slice (some ⟨g, (n - 1) * 2, none⟩) (n - (n - 1)) c]).run Tryd.prog w' = .ok (.tuple #[]) W') ∧ W'.ownsRow base 80 2 (.slice (some ⟨g, 0, none⟩) (n - 1) cap) (n - 1) (wdC (L.take i ++ L.drop (i + 1))) ∧ w.grownBy W' (some g)) := by
    intro W w' hgr q1 q2 q3 q4 hown
    rcases hown.2 with ⟨e, _⟩ | ⟨g', cap', cur, e, hb, hg, h1, h2, h3, h4⟩
    · cases e
    cases e
    obtain ⟨W', r1, r2, ⟨cur', r3, r4, r5⟩, r6, r7, r8, r9⟩ := clear_run w' g (n - 1) cur hg (by omega)
    refine ⟨W', ?_, ⟨?_, .inr ⟨g, cap, cur', rfl, hb, r3, h1, h2, by omega, ?_⟩⟩, ?_⟩
    · rw [show n - (n - 1) = 1 by omega]; exact r1
    · rw [wdC_len]; simp; omega
    · rw [r5, h4, wdC_append]
    · refine ⟨by rw [r6, hgr.os, q2], by rw [r7, hgr.tape, q3], by rw [r8, hgr.output, q4], by rw [r9, ← q1]; exact hgr.size, fun k hk hne => ?_⟩
      rw [r2 k (fun e => hne (by rw [e])), hgr.block k (by rw [q1]; exact hk) hne, q1]
  obtain ⟨i0, ti0, tz, ti1, tz2⟩ := info_word
  have HI := hideIt (And.intro ti0 ti1)
  have c9 : (0 : Int) ≤ (i : Int) + 1 := by omega
  have hA := HA.out
  obtain ⟨ad, c10, hcl⟩ : ∃ ad : Addr, (if cap = i + 1 then some (⟨g, 0, none⟩ : Addr) else some ⟨g, (i + 1) * 2, none⟩) = some ad ∧ ∀ W : World, W.heap = w.heap → ∀ j u, (wdC (L.drop (i + 1)))[j]? = some u → W.cell? (ad.add j) = some u := by
    by_cases hc : cap = i + 1
    · refine ⟨_, if_pos hc, fun W hW j u hj => ?_⟩
      rw [List.drop_of_length_le (by omega)] at hj
      simp [show wdC [] = [] from rfl] at hj
    · exact ⟨_, if_neg hc, fun W hW => (hA W hW).2⟩
  have HD := hideIt hcl
  clear hcl hA
  have c11 : ¬ cap = n - 1 := by omega
  have c8 : ((n - 1 : Nat) : Int) ≤ (n : Int) := by omega
  clear ti0 ti1 tz tz2
  have c1 : (i : Int) ≤ (i : Int) + 1 := by omega
  have c2 : (i : Int) + 1 ≤ (n : Int) := by omega
  have c3 : (n : Int) ≤ (cap : Int) := by omega
  have c4 : (i : Int) ≤ (n : Int) := by omega
  have c5 : ((i : Int) == (i : Int) + 1) = false := by simp; omega
  have c6 : (i : Int) ≤ (cap : Int) := by omega
  have c7 : (i : Int) + 1 ≤ (cap : Int) := by omega
  clear h
  go_enter Tryd.func53, Tryd.ntmps53
  go_wp2_with (fail)
  go_region_law (refine step_append_fits (by rfl) _ _ 41 (by rfl) base 80 i0 2 Tryd.underlying41 HI.out.1 HI.out.2 g i cap (wdC (L.take i)) (by rfl) (HA.out _ rfl).1 ad (n - (i + 1)) (cap - (i + 1)) (wdC (L.drop (i + 1))) (by rfl) HL.out (HD.out _ rfl) H1.out HR.out.1 (n - 1) HR.out.2 ?_; intro w1 hown hgrow; obtain ⟨W', t1, t2, t3⟩ := HC.out _ w1 hgrow rfl rfl rfl rfl hown; have H3 := hideIt (And.intro t2 t3); clear hown hgrow t2 t3)
  all_goals go_wp2_with (fail)
  all_goals go_ret
  all_goals exact ⟨rfl, H3.out⟩

end Go.Proofs.YtdiidmmmemmjjaaDoor.Lv

namespace Go.Proofs.YtdiidmmmemmjjaaDoor.Lv
open Go.RowKit
set_option linter.unusedVariables false

set_option maxRecDepth 100000 in
set_option maxHeartbeats 2000000 in
theorem remove_none (w : World) (b : Nat) (v : Value) (L : List (Int × Int)) (r : Nat) (hr : I64 (r : Int)) (hc : w.cell? ⟨b, 0, none⟩ = some v) (h : Wds w v L) (hu : Up L) (hno : ∀ x ∈ L, x.1 ≠ (r : Int) / 64) :
    Calls Tryd.prog 33 #[.pointer (some ⟨b, 0, none⟩), .int .i64 (r : Int)] w fun e w' => e = .returned (.tuple #[]) ∧ Q w w' := by
  have HF := hideIt (fun w' (q : Q w w') => find_any w' v L (h.keep q) hu r hr)
  clear h
  have HN : Hid (∀ i fd, Fnd L ((r : Int) / 64) i fd → fd = false) := by
    intro i fd hf
    cases fd with
    | false => rfl
    | true =>
      obtain ⟨x, hx, e⟩ := hf.fd.1 rfl
      exact (hno x (List.mem_of_getElem? hx) e).elim
  have HW := hideIt (Q.refl w)
  clear hno hu hr
  go_enter Tryd.func33, Tryd.ntmps33
  go_wp2_with (first | (go_at_call 37; refine Calls.mono (HF.out _ (by first | exact HW.out | exact HW.out.drew | exact HW.out.drewN _)) ?_; rintro e y ⟨i, fd, rfl, qy, hf⟩; have QY : Hid (Q w y) := (by first | exact qy | exact HW.out.drew.trans qy | exact (HW.out.drewN _).trans qy); have hfd := HN.out i fd hf; subst hfd; clear qy hf) | fail)
  all_goals refine bodyPost_ret (v := .tuple #[]) (results_none rfl _ _ _) rfl ?_
  all_goals exact ⟨rfl, QY.out⟩

theorem wdC_get {L : List (Int × Int)} {k : Nat} {e : Int × Int} (h : L[k]? = some e) : (wdC L)[k * 2]? = some (.int .i64 e.1) ∧ (wdC L)[k * 2 + 1]? = some (.int .u64 e.2) := by
  induction L generalizing k with
  | nil => simp at h
  | cons x L ih =>
    rcases k with - | k
    · simp at h; subst h; exact ⟨rfl, rfl⟩
    · have h' : L[k]? = some e := by simpa using h
      rw [wdC_cons, show (k + 1) * 2 = k * 2 + 1 + 1 by omega]
      simpa using ih h'
theorem wds_own {w : World} {base g cap : Nat} {L : List (Int × Int)} (hl : L.length ≤ 1099511627776) (h : w.ownsRow base 80 2 (.slice (some ⟨g, 0, none⟩) L.length cap) L.length (wdC L)) : Wds w (.slice (some ⟨g, 0, none⟩) L.length cap) L := by
  refine ⟨hl, .inr ⟨g, cap, rfl, fun k e hk => ?_⟩⟩
  have hk1 : k < L.length := (List.getElem?_eq_some_iff.1 hk).1
  obtain ⟨h1, h2⟩ := wdC_get hk
  exact ⟨(h.cellAt (k * 2) (by omega)).trans h1, (h.cellAt (k * 2 + 1) (by omega)).trans h2⟩
theorem own_keep {w w' : World} (q : Q w w') {base g cap n : Nat} {xs : List Value} (h : w.ownsRow base 80 2 (.slice (some ⟨g, 0, none⟩) n cap) n xs) : w'.ownsRow base 80 2 (.slice (some ⟨g, 0, none⟩) n cap) n xs := by
  rcases h.2 with ⟨e, _⟩ | ⟨g', cap', cur, e, hb, hg, h1⟩
  · cases e
  · cases e
    exact ⟨h.1, .inr ⟨g, cap, cur, rfl, hb, by rw [q.block g (Array.getElem?_eq_some_iff.1 hg).1]; exact hg, h1⟩⟩
theorem fnd_is {L : List (Int × Int)} (hu : Up L) {i : Nat} {x : Int × Int} (hx : L[i]? = some x) {t : Int} (ht : x.1 = t) {i' : Nat} {fd : Bool} (h : Fnd L t i' fd) : fd = true ∧ i' = i := by
  have hil : i < L.length := (List.getElem?_eq_some_iff.1 hx).1
  have e : i' = i := by
    rcases Nat.lt_trichotomy i i' with h1 | h1 | h1
    · have := h.lo i x hx h1; omega
    · exact h1.symm
    · have hy : L[i']? = some L[i'] := List.getElem?_eq_getElem (by omega)
      have h2 := hu.lt i' i _ x hy hx h1
      have h3 := h.hi i' _ hy (Nat.le_refl _)
      omega
  subst e
  exact ⟨h.fd.2 ⟨x, hx, ht⟩, rfl⟩
theorem wdC_set {L : List (Int × Int)} {k : Nat} {e : Int × Int} (h : L[k]? = some e) (u : Int) : (wdC L).set (k * 2 + 1) (.int .u64 u) = wdC (L.set k (e.1, u)) := by
  induction L generalizing k with
  | nil => simp at h
  | cons x L ih =>
    rcases k with - | k
    · simp at h; subst h; rfl
    · have h' : L[k]? = some e := by simpa using h
      rw [wdC_cons, show (k + 1) * 2 + 1 = k * 2 + 1 + 1 + 1 by omega, List.set_cons_succ, List.set_cons_succ, ih h', List.set_cons_succ, wdC_cons]

set_option maxRecDepth 100000 in
set_option maxHeartbeats 2000000 in
theorem remove_keep (w : World) (b base g cap : Nat) (L : List (Int × Int)) (r : Nat) (hr : I64 (r : Int)) (hc : w.cell? ⟨b, 0, none⟩ = some (.slice (some ⟨g, 0, none⟩) L.length cap)) (hbg : b ≠ g) (hl : L.length ≤ 1099511627776) (hu : Up L) (i : Nat) (x : Int × Int) (hx : L[i]? = some x) (hxr : x.1 = (r : Int) / 64) (hnz : bits .andNot .u64 x.2 (bitN r) ≠ 0)
    (h : w.ownsRow base 80 2 (.slice (some ⟨g, 0, none⟩) L.length cap) L.length (wdC L)) :
    Calls Tryd.prog 33 #[.pointer (some ⟨b, 0, none⟩), .int .i64 (r : Int)] w fun e w' => e = .returned (.tuple #[]) ∧ w'.ownsRow base 80 2 (.slice (some ⟨g, 0, none⟩) L.length cap) L.length (wdC (L.set i (x.1, bits .andNot .u64 x.2 (bitN r)))) ∧ w'.cell? ⟨b, 0, none⟩ = some (.slice (some ⟨g, 0, none⟩) L.length cap) ∧ w.grownBy w' (some g) := by
  have hw := wds_own hl h
  have HF := hideIt (fun w' (q : Q w w') => find_any w' _ L (hw.keep q) hu r hr)
  have HB := hideIt (fun w => bit_any w r)
  have HN : Hid (∀ i' fd, Fnd L ((r : Int) / 64) i' fd → fd = true ∧ i' = i) := fun i' fd hf => fnd_is hu hx hxr hf
  have HW := hideIt (Q.refl w)
  have hil : i < L.length := (List.getElem?_eq_some_iff.1 hx).1
  obtain ⟨u, hub⟩ : ∃ u, bits .andNot .u64 x.2 (bitN r) = u := ⟨_, rfl⟩
  have HC : Hid (∀ y, Q w y → y.cell? ⟨b, 0, none⟩ = some (.slice (some ⟨g, 0, none⟩) L.length cap) ∧ y.cell? ⟨g, i * 2 + 1, none⟩ = some (.int .u64 x.2) ∧ y.frozen? ⟨g, i * 2 + 1, none⟩ = false ∧ (y.setCell ⟨g, i * 2 + 1, none⟩ (.int .u64 u)).cell? ⟨b, 0, none⟩ = some (.slice (some ⟨g, 0, none⟩) L.length cap) ∧ (y.setCell ⟨g, i * 2 + 1, none⟩ (.int .u64 u)).cell? ⟨g, i * 2 + 1, none⟩ = some (.int .u64 u)) := by
    intro y q
    have ho := own_keep q h
    have hb := cell_keep q hc
    have ho2 := (ho.stored (i * 2 + 1) (.int .u64 u)).1
    refine ⟨hb, (ho.cellAt (i * 2 + 1) (by omega)).trans (wdC_get hx).2, ho.frozenAt _, ?_, ?_⟩
    · rw [World.cell?_of_block (w := y) (heap_setCell_other y ⟨g, i * 2 + 1, none⟩ b _ hbg)]; exact hb
    · rw [ho2.cellAt (i * 2 + 1) (by omega), List.getElem?_set_self (by rw [wdC_len]; omega)]
  have HE : Hid (∀ y w' : World, Q w y → w'.heap = (y.setCell ⟨g, i * 2 + 1, none⟩ (.int .u64 u)).heap → w'.os = y.os → w'.tape = y.tape → w'.output = y.output → w'.ownsRow base 80 2 (.slice (some ⟨g, 0, none⟩) L.length cap) L.length (wdC (L.set i (x.1, u))) ∧ w'.cell? ⟨b, 0, none⟩ = some (.slice (some ⟨g, 0, none⟩) L.length cap) ∧ w.grownBy w' (some g)) := by
    intro y w' q e1 e2 e3 e4
    obtain ⟨s1, s2⟩ := (own_keep q h).stored (i * 2 + 1) (.int .u64 u)
    rw [wdC_set hx] at s1
    refine ⟨?_, ?_, ⟨e2.trans q.os, e3.trans q.tape, e4.trans q.output, ?_, fun k hk hne => ?_⟩⟩
    · unfold World.ownsRow at s1 ⊢; rw [e1]; exact s1
    · have := (HC.out y q).2.2.2.1
      unfold World.cell? at this ⊢; rw [e1]; exact this
    · rw [e1]; exact Nat.le_trans q.size s2.size
    · rw [e1, s2.block k (Nat.lt_of_lt_of_le hk q.size) hne]; exact q.block k hk
  obtain ⟨n, hn⟩ : ∃ n, L.length = n := ⟨_, rfl⟩
  have k1 : (i : Int) < (n : Int) := by omega
  have k2 : (u == 0) = false := by rw [hub] at hnz; simpa using hnz
  clear h hu hr hw hx hxr hnz
  rw [hn] at hc HF HC HE
  rw [hub, hn]
  go_enter Tryd.func33, Tryd.ntmps33
  go_wp2_with (first | (go_at_call 37; refine Calls.mono (HF.out _ (by first | exact HW.out | exact HW.out.drew | exact HW.out.drewN _)) ?_; rintro e y ⟨i', fd, rfl, qy, hf⟩; obtain ⟨hfd, hi'⟩ := HN.out i' fd hf; subst hfd; subst hi'; have QY : Hid (Q w y) := (by first | exact qy | exact HW.out.drew.trans qy | exact (HW.out.drewN _).trans qy); obtain ⟨y1, y2, y3, y4, y5⟩ := HC.out y QY.out; clear qy hf) | fail)
  go_region_with (go_at_call 38; refine Calls.mono (HB.out _) ?_; rintro e z ⟨rfl, rfl⟩)
  all_goals go_wp2_with (fail)
  all_goals refine bodyPost_end (v := .tuple #[]) (results_none rfl _ _ _) rfl ?_
  all_goals exact ⟨rfl, HE.out y _ QY.out rfl rfl rfl rfl⟩
end Go.Proofs.YtdiidmmmemmjjaaDoor.Lv

namespace Go.Proofs.YtdiidmmmemmjjaaDoor.Lv
open Go.RowKit
set_option linter.unusedVariables false

theorem fz_set (w : World) (p : Addr) (u : Value) (q : Addr) : (w.setCell p u).frozen? q = w.frozen? q := by simp
set_option maxRecDepth 100000 in
set_option maxHeartbeats 2000000 in
theorem remove_gone (w : World) (b base g cap : Nat) (L : List (Int × Int)) (r : Nat) (hr : I64 (r : Int)) (hc : w.cell? ⟨b, 0, none⟩ = some (.slice (some ⟨g, 0, none⟩) L.length cap)) (hbg : b ≠ g) (hl : L.length ≤ 1099511627776) (hu : Up L) (i : Nat) (x : Int × Int) (hx : L[i]? = some x) (hxr : x.1 = (r : Int) / 64) (hnz : bits .andNot .u64 x.2 (bitN r) = 0) (hfz : w.frozen? ⟨b, 0, none⟩ = false)
    (h : w.ownsRow base 80 2 (.slice (some ⟨g, 0, none⟩) L.length cap) L.length (wdC L)) :
    Calls Tryd.prog 33 #[.pointer (some ⟨b, 0, none⟩), .int .i64 (r : Int)] w fun e w' => e = .returned (.tuple #[]) ∧ w'.ownsRow base 80 2 (.slice (some ⟨g, 0, none⟩) (L.length - 1) cap) (L.length - 1) (wdC (L.take i ++ L.drop (i + 1))) ∧ w'.cell? ⟨b, 0, none⟩ = some (.slice (some ⟨g, 0, none⟩) (L.length - 1) cap) ∧ (∀ k, k < w.heap.size → k ≠ g → k ≠ b → w'.heap[k]? = w.heap[k]?) ∧ w'.os = w.os ∧ w'.tape = w.tape ∧ w'.output = w.output ∧ w.heap.size ≤ w'.heap.size ∧ w'.frozen? ⟨b, 0, none⟩ = false := by
  have hw := wds_own hl h
  have HF := hideIt (fun w' (q : Q w w') => find_any w' _ L (hw.keep q) hu r hr)
  have HB := hideIt (fun w => bit_any w r)
  have HN : Hid (∀ i' fd, Fnd L ((r : Int) / 64) i' fd → fd = true ∧ i' = i) := fun i' fd hf => fnd_is hu hx hxr hf
  have HW := hideIt (Q.refl w)
  have hil : i < L.length := (List.getElem?_eq_some_iff.1 hx).1
  obtain ⟨u, hub⟩ : ∃ u, bits .andNot .u64 x.2 (bitN r) = u := ⟨_, rfl⟩
  have HC : Hid (∀ y, Q w y → y.cell? ⟨b, 0, none⟩ = some (.slice (some ⟨g, 0, none⟩) L.length cap) ∧ y.cell? ⟨g, i * 2 + 1, none⟩ = some (.int .u64 x.2) ∧ y.frozen? ⟨g, i * 2 + 1, none⟩ = false ∧ (y.setCell ⟨g, i * 2 + 1, none⟩ (.int .u64 u)).cell? ⟨b, 0, none⟩ = some (.slice (some ⟨g, 0, none⟩) L.length cap) ∧ (y.setCell ⟨g, i * 2 + 1, none⟩ (.int .u64 u)).cell? ⟨g, i * 2 + 1, none⟩ = some (.int .u64 u)) := by
    intro y q
    have ho := own_keep q h
    have hb := cell_keep q hc
    have ho2 := (ho.stored (i * 2 + 1) (.int .u64 u)).1
    refine ⟨hb, (ho.cellAt (i * 2 + 1) (by omega)).trans (wdC_get hx).2, ho.frozenAt _, ?_, ?_⟩
    · rw [World.cell?_of_block (w := y) (heap_setCell_other y ⟨g, i * 2 + 1, none⟩ b _ hbg)]; exact hb
    · rw [ho2.cellAt (i * 2 + 1) (by omega), List.getElem?_set_self (by rw [wdC_len]; omega)]
  have HE : Hid (∀ y w' : World, Q w y → w'.heap = (y.setCell ⟨g, i * 2 + 1, none⟩ (.int .u64 u)).heap → w'.os = y.os → w'.tape = y.tape → w'.output = y.output → w'.ownsRow base 80 2 (.slice (some ⟨g, 0, none⟩) L.length cap) L.length (wdC (L.set i (x.1, u))) ∧ w'.cell? ⟨b, 0, none⟩ = some (.slice (some ⟨g, 0, none⟩) L.length cap) ∧ w.grownBy w' (some g)) := by
    intro y w' q e1 e2 e3 e4
    obtain ⟨s1, s2⟩ := (own_keep q h).stored (i * 2 + 1) (.int .u64 u)
    rw [wdC_set hx] at s1
    refine ⟨?_, ?_, ⟨e2.trans q.os, e3.trans q.tape, e4.trans q.output, ?_, fun k hk hne => ?_⟩⟩
    · unfold World.ownsRow at s1 ⊢; rw [e1]; exact s1
    · have := (HC.out y q).2.2.2.1
      unfold World.cell? at this ⊢; rw [e1]; exact this
    · rw [e1]; exact Nat.le_trans q.size s2.size
    · rw [e1, s2.block k (Nat.lt_of_lt_of_le hk q.size) hne]; exact q.block k hk
  obtain ⟨n, hn⟩ : ∃ n, L.length = n := ⟨_, rfl⟩
  have k1 : (i : Int) < (n : Int) := by omega
  have hu0 : u = 0 := by rw [← hub]; exact hnz
  have hfb : ∀ y, Q w y → y.frozen? ⟨b, 0, none⟩ = false := fun y q => by
    rw [World.frozen?_of_block (w := w) (q.block b (World.block_lt_of_cell? w _ hc))]; exact hfz
  have HD : Hid (∀ y W : World, Q w y → W.heap = (y.setCell ⟨g, i * 2 + 1, none⟩ (.int .u64 u)).heap → W.os = y.os → W.tape = y.tape → W.output = y.output → Calls Tryd.prog 53 #[.slice (some ⟨g, 0, none⟩) L.length cap, .int .i64 (i : Int), .int .i64 ((i : Int) + 1)] W fun e w' => e = .returned (.slice (some ⟨g, 0, none⟩) (L.length - 1) cap) ∧ w'.ownsRow base 80 2 (.slice (some ⟨g, 0, none⟩) (L.length - 1) cap) (L.length - 1) (wdC (L.take i ++ L.drop (i + 1))) ∧ w'.cell? ⟨b, 0, none⟩ = some (.slice (some ⟨g, 0, none⟩) L.length cap) ∧ w'.frozen? ⟨b, 0, none⟩ = false ∧ w.grownBy w' (some g)) := by
    intro y W q e1 e2 e3 e4
    obtain ⟨s1, s2, s3⟩ := HE.out y W q e1 e2 e3 e4
    have hl2 : (L.set i (x.1, u)).length = L.length := List.length_set
    have hd := delete_word W base g cap (L.set i (x.1, u)) i (by omega) (by omega) (by rw [hl2]; exact s1)
    rw [hl2] at hd
    have et : (L.set i (x.1, u)).take i ++ (L.set i (x.1, u)).drop (i + 1) = L.take i ++ L.drop (i + 1) := by
      rw [List.take_set_of_le (by omega), List.drop_set_of_lt (by omega)]
    rw [et] at hd
    refine hd.mono ?_
    rintro e w' ⟨h1, h2, h3⟩
    have hbl : b < W.heap.size := World.block_lt_of_cell? W _ s2
    have hbW := h3.block b hbl (fun e => hbg (by simpa using e))
    refine ⟨h1, h2, h3.cell s2 (fun e => hbg (by simpa using e)), ?_, ⟨h3.os.trans s3.os, h3.tape.trans s3.tape, h3.output.trans s3.output, Nat.le_trans s3.size h3.size, fun k hk hne => (h3.block k (Nat.lt_of_lt_of_le hk s3.size) hne).trans (s3.block k hk hne)⟩⟩
    rw [World.frozen?_of_block (w := W) hbW, World.frozen?_of_block (w := w) (s3.block b (World.block_lt_of_cell? w _ hc) (fun e => hbg (by simpa using e)))]
    exact hfz
  have HP : Hid (∀ w2 : World, w2.ownsRow base 80 2 (.slice (some ⟨g, 0, none⟩) (L.length - 1) cap) (L.length - 1) (wdC (L.take i ++ L.drop (i + 1))) → w2.cell? ⟨b, 0, none⟩ = some (.slice (some ⟨g, 0, none⟩) L.length cap) → w2.frozen? ⟨b, 0, none⟩ = false → w.grownBy w2 (some g) → ∀ w' : World, w'.heap = (w2.setCell ⟨b, 0, none⟩ (.slice (some ⟨g, 0, none⟩) (L.length - 1) cap)).heap → w'.os = w2.os → w'.tape = w2.tape → w'.output = w2.output → w'.ownsRow base 80 2 (.slice (some ⟨g, 0, none⟩) (L.length - 1) cap) (L.length - 1) (wdC (L.take i ++ L.drop (i + 1))) ∧ w'.cell? ⟨b, 0, none⟩ = some (.slice (some ⟨g, 0, none⟩) (L.length - 1) cap) ∧ (∀ k, k < w.heap.size → k ≠ g → k ≠ b → w'.heap[k]? = w.heap[k]?) ∧ w'.os = w.os ∧ w'.tape = w.tape ∧ w'.output = w.output ∧ w.heap.size ≤ w'.heap.size ∧ w'.frozen? ⟨b, 0, none⟩ = false) := by
    intro w2 d1 d2 d3 d4 w' e1 e2 e3 e4
    have hog : ∀ k, k ≠ b → w'.heap[k]? = w2.heap[k]? := fun k hk => by rw [e1]; exact heap_setCell_other w2 ⟨b, 0, none⟩ k _ hk
    refine ⟨?_, ?_, fun k hk h1 h2 => (hog k h2).trans (d4.block k hk (fun e => h1 (by simpa using e))), e2.trans d4.os, e3.trans d4.tape, e4.trans d4.output, ?_, ?_⟩
    · rcases d1.2 with ⟨e, _⟩ | ⟨g', cap', cur, e, hb, hg, h1⟩
      · cases e
      · cases e
        exact ⟨d1.1, .inr ⟨g, cap, cur, rfl, hb, (hog g (fun e => hbg e.symm)).trans hg, h1⟩⟩
    · have := World.cell?_setCell_same' w2 ⟨b, 0, none⟩ (.slice (some ⟨g, 0, none⟩) (L.length - 1) cap) (by rw [d2]; rfl)
      unfold World.cell? at this ⊢; rw [e1]; exact this
    · rw [e1]; simpa using d4.size
    · have := fz_set w2 ⟨b, 0, none⟩ (.slice (some ⟨g, 0, none⟩) (L.length - 1) cap) ⟨b, 0, none⟩
      rw [d3] at this
      unfold World.frozen? at this ⊢; rw [e1]; exact this
  clear h hu hr hw hx hxr hnz HE hfb hfz
  subst hu0
  rw [hn] at hc HF HC HD HP
  rw [hn] at hl hil ⊢
  go_enter Tryd.func33, Tryd.ntmps33
  go_wp2_with (first | (go_at_call 37; refine Calls.mono (HF.out _ (by first | exact HW.out | exact HW.out.drew | exact HW.out.drewN _)) ?_; rintro e y ⟨i', fd, rfl, qy, hf⟩; obtain ⟨hfd, hi'⟩ := HN.out i' fd hf; subst hfd; subst hi'; have QY : Hid (Q w y) := (by first | exact qy | exact HW.out.drew.trans qy | exact (HW.out.drewN _).trans qy); obtain ⟨y1, y2, y3, y4, y5⟩ := HC.out y QY.out; clear qy hf) | fail)
  go_region_with (go_at_call 38; refine Calls.mono (HB.out _) ?_; rintro e z ⟨rfl, rfl⟩)
  all_goals go_wp2_with (first | (go_at_call 53; refine Calls.mono (HD.out y _ QY.out rfl rfl rfl rfl) ?_; rintro e w2 ⟨rfl, d1, d2, d3, d4⟩; have D1 := hideIt d1; have D4 := hideIt d4; clear d1 d4) | fail)
  all_goals refine bodyPost_end (v := .tuple #[]) (results_none rfl _ _ _) rfl ?_
  all_goals exact ⟨rfl, HP.out w2 D1.out d2 d3 D4.out _ rfl rfl rfl rfl⟩
end Go.Proofs.YtdiidmmmemmjjaaDoor.Lv
