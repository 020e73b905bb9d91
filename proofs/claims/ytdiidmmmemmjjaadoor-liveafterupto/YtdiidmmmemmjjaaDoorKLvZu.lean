/-
  A register added to a set whose words are a row of its own (live's add): contracts over the program.
-/
import Derived.Test.YtdiidmmmemmjjaaDoorKLvZt
import Derived.Deep.DeepCutAuto
namespace Go.Proofs.YtdiidmmmemmjjaaDoor.Lv
open Go.RowKit Go.Deep
set_option linter.unusedVariables false

theorem boolEq {a b : Bool} (h : a = true ↔ b = true) : a = b := by cases a <;> cases b <;> simp_all
theorem up_len : ∀ (L : List (Int × Int)) (lo M : Nat), L.Pairwise (fun x y => x.1 < y.1) → (∀ x ∈ L, (lo : Int) ≤ x.1 ∧ x.1 ≤ (M : Int)) → L.length + lo ≤ M + 1 ∨ L = []
  | [], _, _, _, _ => .inr rfl
  | x :: L, lo, M, hp, hr => by
    left
    have h1 := hr x (by simp)
    rw [List.pairwise_cons] at hp
    rcases up_len L (x.1.toNat + 1) M hp.2 (fun y hy => ⟨by have := hp.1 y hy; omega, (hr y (by simp [hy])).2⟩) with h | rfl
    · rw [List.length_cons]; omega
    · simp; omega
/-- A set in a box: its words a row of its own. -/
structure St (base : Nat) (w : World) (b : Nat) (v : Value) (L : List (Int × Int)) : Prop where
  cell : w.cell? ⟨b, 0, none⟩ = some v
  fz : w.frozen? ⟨b, 0, none⟩ = false
  own : w.ownsRow base 80 2 v L.length (wdC L)
  ne : v.ownBlock ≠ some b
  up : Up L
  at' : ∀ x ∈ L, x.1 ≤ 1000
  bb : base ≤ w.heap.size
theorem St.len {base : Nat} {w : World} {b : Nat} {v : Value} {L : List (Int × Int)} (h : St base w b v L) : L.length ≤ 1001 := by
  rcases up_len L 0 1000 h.up.pw (fun x hx => ⟨(h.up.rng x hx).1, h.at' x hx⟩) with h | rfl
  · omega
  · simp
/-- What stays while a set changes. -/
structure Ch (b : Nat) (o : Option Nat) (w w' : World) : Prop where
  os : w'.os = w.os
  tape : w'.tape = w.tape
  output : w'.output = w.output
  size : w.heap.size ≤ w'.heap.size
  block : ∀ k, k < w.heap.size → k ≠ b → o ≠ some k → w'.heap[k]? = w.heap[k]?
theorem Ch.refl (b : Nat) (o : Option Nat) (w : World) : Ch b o w w := ⟨rfl, rfl, rfl, Nat.le_refl _, fun _ _ _ _ => rfl⟩
theorem Ch.q {b : Nat} {o : Option Nat} {w w' : World} (h : Q w w') : Ch b o w w' := ⟨h.os, h.tape, h.output, h.size, fun k hk _ _ => h.block k hk⟩
theorem Ch.trans {b : Nat} {o o' : Option Nat} {w w1 w2 : World} (h : Ch b o w w1) (k : Ch b o' w1 w2) (ho : ∀ g, o' = some g → o = some g ∨ w.heap.size ≤ g) : Ch b o w w2 :=
  ⟨k.os.trans h.os, k.tape.trans h.tape, k.output.trans h.output, Nat.le_trans h.size k.size, fun j hj hb hn => (k.block j (Nat.lt_of_lt_of_le hj h.size) hb (fun e => by rcases ho j e with q | q; exact hn q; omega)).trans (h.block j hj hb hn)⟩
/-- How a set has changed. -/
def StP (base b : Nat) (v : Value) (p : Int → Bool) (w w' : World) : Prop := ∃ v' L', St base w' b v' L' ∧ (∀ q, hasB L' q = p q) ∧ Ch b v.ownBlock w w' ∧ ∀ g, v'.ownBlock = some g → v.ownBlock = some g ∨ w.heap.size ≤ g

theorem own_wds {w : World} {base : Nat} {v : Value} {L : List (Int × Int)} (hl : L.length ≤ 1099511627776) (h : w.ownsRow base 80 2 v L.length (wdC L)) : Wds w v L := by
  rcases h.2 with ⟨e0, e1⟩ | ⟨g, cap, cur, e0, hb, hg, hnc, hcm, hcs, ht⟩
  · have : L = [] := List.eq_nil_of_length_eq_zero e1
    subst this
    exact ⟨by simp, .inl ⟨e0, rfl⟩⟩
  · subst e0
    exact wds_own hl h

/-- An insertion, wherever. -/
theorem insert_any (w : World) (base vb : Nat) (v : Value) (L : List (Int × Int)) (i : Nat) (x : Int × Int) (hi : i ≤ L.length) (hl : L.length ≤ 1099511627776) (hb : base ≤ w.heap.size) (hne : v.ownBlock ≠ some vb)
    (h : w.ownsRow base 80 2 v L.length (wdC L)) (hv : w.heap[vb]? = some (.cells (wdC [x]).toArray 80 (0, 0))) :
    Calls Tryd.prog 50 #[v, .int .i64 (i : Int), .slice (some ⟨vb, 0, none⟩) 1 1] w (InsP w base L.length v (L.take i ++ x :: L.drop i)) := by
  by_cases he : i = L.length
  · subst he
    have := insert_end w base vb v L x hl hb h (fun j u hj => by
      have := box_cell hv j u hj
      rwa [show (⟨vb, 0, none⟩ : Addr).add j = ⟨vb, j, none⟩ by unfold Addr.add; split <;> simp_all] at this)
    rwa [List.take_of_length_le (Nat.le_refl _), List.drop_of_length_le (Nat.le_refl _)]
  · rcases h.2 with ⟨e0, e1⟩ | ⟨g, cap, cur, e0, -⟩
    · omega
    · subst e0
      have hn : vb ≠ g := fun e => hne (by simp [Value.ownBlock, e])
      by_cases hr : L.length + 1 ≤ cap
      · exact insert_room w base vb g cap L i x (by omega) hr hn h hv
      · exact insert_grow w base vb g cap L i x (by omega) (by omega) hl hb hn h hv

theorem or_zero {b : Int} (h : U64 b) : bits .or .u64 0 b = b := by
  obtain ⟨h1, h2⟩ := h
  obtain ⟨x, rfl⟩ : ∃ x : Nat, b = (x : Int) := ⟨b.toNat, by omega⟩
  have := bits_or_u64_nat 0 x (by decide) (by omega)
  simpa using this

set_option maxRecDepth 100000 in
set_option maxHeartbeats 4000000 in
/-- Its word stands there. -/
theorem add_found (w : World) (base b : Nat) (v : Value) (L : List (Int × Int)) (r : Nat) (hr : I64 (r : Int)) (h : St base w b v L) (i : Nat) (x : Int × Int) (hx : L[i]? = some x) (hxr : x.1 = (r : Int) / 64) :
    Calls Tryd.prog 30 #[.pointer (some ⟨b, 0, none⟩), .int .i64 (r : Int)] w fun e w' => e = .returned (.tuple #[]) ∧ StP base b v (fun q => hasB L q || decide (q = (r : Int))) w w' := by
  have hl := h.len
  have hil : i < L.length := (List.getElem?_eq_some_iff.1 hx).1
  have ho := h.own
  rcases ho.2 with ⟨e0, e1⟩ | ⟨g, cap, cur, e0, hbg, hg, hnc, hcm, hcs, ht⟩
  · omega
  subst e0
  have hne : b ≠ g := fun e => h.ne (by simp [Value.ownBlock, e])
  have hw := wds_own (by omega) ho
  have hc : w.cell? ⟨b, 0, none⟩ = some (.slice (some ⟨g, 0, none⟩) L.length cap) := h.cell
  have HF := hideIt (fun w' (q : Q w w') => find_any w' _ L (hw.keep q) h.up r hr)
  have HB := hideIt (fun w => bit_any w r)
  have HN : Hid (∀ i' fd, Fnd L ((r : Int) / 64) i' fd → fd = true ∧ i' = i) := fun i' fd hf => fnd_is h.up hx hxr hf
  have HW := hideIt (Q.refl w)
  obtain ⟨u, hub⟩ : ∃ u, bits .or .u64 x.2 (bitN r) = u := ⟨_, rfl⟩
  have HC : Hid (∀ y, Q w y → y.cell? ⟨b, 0, none⟩ = some (.slice (some ⟨g, 0, none⟩) L.length cap) ∧ y.cell? ⟨g, i * 2 + 1, none⟩ = some (.int .u64 x.2) ∧ y.frozen? ⟨g, i * 2 + 1, none⟩ = false) := by
    intro y q
    have ho' := own_keep q ho
    exact ⟨cell_keep q hc, (ho'.cellAt (i * 2 + 1) (by omega)).trans (wdC_get hx).2, ho'.frozenAt _⟩
  obtain ⟨up', has'⟩ := add_set h.up hx hxr
  rw [hub] at up' has'
  have HE : Hid (∀ y w' : World, Q w y → w'.heap = (y.setCell ⟨g, i * 2 + 1, none⟩ (.int .u64 u)).heap → w'.os = y.os → w'.tape = y.tape → w'.output = y.output → StP base b (.slice (some ⟨g, 0, none⟩) L.length cap) (fun q => hasB L q || decide (q = (r : Int))) w w') := by
    intro y w' q e1 e2 e3 e4
    obtain ⟨s1, s2⟩ := (own_keep q ho).stored (i * 2 + 1) (.int .u64 u)
    rw [wdC_set hx] at s1
    have hls : (L.set i (x.1, u)).length = L.length := List.length_set
    have hbk : w'.heap[b]? = w.heap[b]? := by rw [e1, heap_setCell_other y ⟨g, i * 2 + 1, none⟩ b _ hne, q.block b (World.block_lt_of_cell? w _ hc)]
    refine ⟨.slice (some ⟨g, 0, none⟩) L.length cap, L.set i (x.1, u), ⟨?_, ?_, ?_, fun e => hne (by simp [Value.ownBlock] at e; exact e.symm), up', fun z hz => ?_, ?_⟩, fun q' => ?_, ⟨e2.trans q.os, e3.trans q.tape, e4.trans q.output, ?_, fun k hk hkb hkg => ?_⟩, fun g' e => .inl e⟩
    · rw [World.cell?_of_block (w := w) hbk]; exact hc
    · rw [World.frozen?_of_block (w := w) hbk]; exact h.fz
    · rw [hls]; unfold World.ownsRow at s1 ⊢; rw [e1]; exact s1
    · rcases List.mem_or_eq_of_mem_set hz with hz | rfl
      · exact h.at' z hz
      · exact h.at' x (List.mem_of_getElem? hx)
    · rw [e1]; have := q.size; have := h.bb; simp; omega
    · apply boolEq
      rw [hasB_iff, has', Bool.or_eq_true, hasB_iff, decide_eq_true_eq]
    · rw [e1]; simpa using q.size
    · have : k ≠ g := fun e => hkg (by simp [Value.ownBlock, e])
      rw [e1, heap_setCell_other y ⟨g, i * 2 + 1, none⟩ k _ this]
      exact q.block k hk
  obtain ⟨n, hn⟩ : ∃ n, L.length = n := ⟨_, rfl⟩
  have k1 : (i : Int) < (n : Int) := by omega
  clear h ho hr hw hx hxr hbg hg hnc hcm hcs ht hc up' has' hl
  rw [hn] at HF HC HE ⊢
  go_enter Tryd.func30, Tryd.ntmps30
  obtain ⟨c0, -, -⟩ := HC.out w HW.out
  go_wp2_with (first | (go_at_call 37; refine Calls.mono (HF.out _ (by first | exact HW.out | exact HW.out.drew | exact HW.out.drewN _)) ?_; rintro e y ⟨i', fd, rfl, qy, hf⟩; obtain ⟨hfd, hi'⟩ := HN.out i' fd hf; subst hfd; subst hi'; have QY : Hid (Q w y) := (by first | exact qy | exact HW.out.drew.trans qy | exact (HW.out.drewN _).trans qy); obtain ⟨y1, y2, y3⟩ := HC.out y QY.out; clear qy hf c0) | fail)
  go_region_with (go_at_call 38; refine Calls.mono (HB.out _) ?_; rintro e z ⟨rfl, rfl⟩)
  all_goals go_wp2_with (fail)
  all_goals refine bodyPost_end (v := .tuple #[]) (results_none rfl _ _ _) rfl ?_
  all_goals exact ⟨rfl, HE.out y _ QY.out rfl rfl rfl rfl⟩
set_option maxRecDepth 100000 in
set_option maxHeartbeats 4000000 in
/-- There is no word of it. -/
theorem add_new (w : World) (base b : Nat) (v : Value) (L : List (Int × Int)) (r : Nat) (hr : I64 (r : Int)) (hr1 : r ≤ 64000) (h : St base w b v L) (hno : ∀ x ∈ L, x.1 ≠ (r : Int) / 64) :
    Calls Tryd.prog 30 #[.pointer (some ⟨b, 0, none⟩), .int .i64 (r : Int)] w fun e w' => e = .returned (.tuple #[]) ∧ StP base b v (fun q => hasB L q || decide (q = (r : Int))) w w' := by
  have hl := h.len
  have ho := h.own
  have hw := own_wds (by omega) ho
  have hc := h.cell
  have hbw : b < w.heap.size := World.block_lt_of_cell? w _ hc
  have HF := hideIt (fun w' (q : Q w w') => find_any w' _ L (hw.keep q) h.up r hr)
  have HB := hideIt (fun w => bit_any w r)
  have HPL := hideIt (fun w => place_int w (r : Int))
  have HN : Hid (∀ i fd, Fnd L ((r : Int) / 64) i fd → fd = false ∧ i ≤ L.length) := by
    intro i fd hf
    refine ⟨?_, hf.le⟩
    cases fd with
    | false => rfl
    | true =>
      obtain ⟨x, hx, e⟩ := hf.fd.1 rfl
      exact (hno x (List.mem_of_getElem? hx) e).elim
  have HW := hideIt (Q.refl w)
  obtain ⟨va, vc, rfl, hvc, hvm⟩ : ∃ a c, v = .slice a L.length c ∧ L.length ≤ c ∧ c ≤ maxLen := by
    rcases ho.2 with ⟨e0, e1⟩ | ⟨g, cap, cur, e0, -, -, h1, h2, -⟩
    · exact ⟨none, 0, by rw [e0, e1], by omega, by decide⟩
    · exact ⟨_, _, e0, h1, h2⟩
  -- the insertion, in any world behind, with the word's box
  have HI : Hid (∀ y X : World, Q w y → Q y X → ∀ i, Fnd L ((r : Int) / 64) i false → i ≤ L.length → ∀ vb, w.heap.size ≤ vb → X.heap[vb]? = some (.cells (wdC [((r : Int) / 64, 0)]).toArray 80 (0, 0)) → Calls Tryd.prog 50 #[.slice va L.length vc, .int .i64 (i : Int), .slice (some ⟨vb, 0, none⟩) 1 1] X fun e X' => ∃ g cap, e = .returned (.slice (some ⟨g, 0, none⟩) (L.length + 1) cap) ∧ X'.cell? ⟨b, 0, none⟩ = some (.slice va L.length vc) ∧ X'.frozen? ⟨b, 0, none⟩ = false ∧ ∀ Y : World, Y.heap = (X'.setCell ⟨b, 0, none⟩ (.slice (some ⟨g, 0, none⟩) (L.length + 1) cap)).heap →
      (Y.cell? ⟨b, 0, none⟩ = some (.slice (some ⟨g, 0, none⟩) (L.length + 1) cap) ∧ Y.cell? ⟨g, i * 2 + 1, none⟩ = some (.int .u64 0) ∧ Y.frozen? ⟨g, i * 2 + 1, none⟩ = false) ∧
      ∀ w' : World, w'.heap = (Y.setCell ⟨g, i * 2 + 1, none⟩ (.int .u64 (bitN r))).heap → w'.os = X'.os → w'.tape = X'.tape → w'.output = X'.output → StP base b (.slice va L.length vc) (fun q => hasB L q || decide (q = (r : Int))) w w') := by
    intro y X q1 q2 i hf hi vb hvb hv
    have qX := q1.trans q2
    have hoX : X.ownsRow base 80 2 (.slice va L.length vc) L.length (wdC L) := row_q ho (fun k hk => qX.block k (ho.lt k hk).2)
    have hneX : (Value.slice va L.length vc).ownBlock ≠ some vb := fun e => by have := (ho.lt vb e).2; omega
    refine (insert_any X base vb _ L i ((r : Int) / 64, 0) hi (by omega) (Nat.le_trans h.bb qX.size) hneX hoX hv).mono ?_
    rintro e X' ⟨g, cap, rfl, p1, p2, p3⟩
    have hbX : X'.heap[b]? = w.heap[b]? := (p2.block b (Nat.lt_of_lt_of_le hbw qX.size) (fun e => h.ne e.symm)).trans (qX.block b hbw)
    refine ⟨g, cap, rfl, by rw [World.cell?_of_block (w := w) hbX]; exact hc, by rw [World.frozen?_of_block (w := w) hbX]; exact h.fz, ?_⟩
    intro Y hY
    have hgb : g ≠ b := fun e => by
      subst e
      rcases p3 with q | q
      · exact h.ne q
      · have := qX.size; omega
    obtain ⟨L1, hL1⟩ : ∃ L1, L1 = L.take i ++ ((r : Int) / 64, 0) :: L.drop i := ⟨_, rfl⟩
    have hlen1 : L1.length = L.length + 1 := by rw [hL1, List.length_append, List.length_cons, List.length_take, List.length_drop]; omega
    have hx1 : L1[i]? = some ((r : Int) / 64, 0) := by rw [hL1, List.getElem?_append_right (by rw [List.length_take]; omega), List.length_take, Nat.min_eq_left hi, Nat.sub_self]; rfl
    have hset : L1.set i ((r : Int) / 64, bitN r) = L.take i ++ ((r : Int) / 64, bitN r) :: L.drop i := by rw [hL1, List.set_append_right _ _ (by rw [List.length_take]; omega), List.length_take, Nat.min_eq_left hi, Nat.sub_self]; rfl
    rw [← hL1] at p1
    have hYg : Y.heap[g]? = X'.heap[g]? := by rw [hY]; exact heap_setCell_other X' ⟨b, 0, none⟩ g _ hgb
    have oY : Y.ownsRow base 80 2 (.slice (some ⟨g, 0, none⟩) (L.length + 1) cap) (L.length + 1) (wdC L1) := row_q p1 (fun k hk => by simp only [Value.ownBlock] at hk; injection hk with hk; subst hk; exact hYg)
    have hYc : Y.cell? ⟨b, 0, none⟩ = some (.slice (some ⟨g, 0, none⟩) (L.length + 1) cap) := by
      have := World.cell?_setCell_same' X' ⟨b, 0, none⟩ (.slice (some ⟨g, 0, none⟩) (L.length + 1) cap) (by rw [World.cell?_of_block (w := w) hbX, hc]; rfl)
      unfold World.cell? at this ⊢; rw [hY]; exact this
    refine ⟨⟨hYc, (oY.cellAt (i * 2 + 1) (by omega)).trans (wdC_get hx1).2, oY.frozenAt _⟩, fun w' e1 e2 e3 e4 => ?_⟩
    obtain ⟨s1, s2⟩ := oY.stored (i * 2 + 1) (.int .u64 (bitN r))
    rw [wdC_set hx1, hset] at s1
    obtain ⟨up', has'⟩ := add_ins h.up hf (by omega)
    have hln : (L.take i ++ ((r : Int) / 64, bitN r) :: L.drop i).length = L.length + 1 := by rw [List.length_append, List.length_cons, List.length_take, List.length_drop]; omega
    have hwb : w'.heap[b]? = Y.heap[b]? := by rw [e1]; exact heap_setCell_other Y ⟨g, i * 2 + 1, none⟩ b _ (fun e => hgb e.symm)
    have szY : Y.heap.size = X'.heap.size := by rw [hY]; simp
    have szw : w'.heap.size = X'.heap.size := by rw [e1]; simpa using szY
    refine ⟨.slice (some ⟨g, 0, none⟩) (L.length + 1) cap, L.take i ++ ((r : Int) / 64, bitN r) :: L.drop i, ⟨?_, ?_, ?_, fun e => hgb (by simp [Value.ownBlock] at e; exact e), up', fun z hz => ?_, ?_⟩, fun q' => ?_, ⟨e2.trans (p2.os.trans qX.os), e3.trans (p2.tape.trans qX.tape), e4.trans (p2.output.trans qX.output), ?_, fun k hk hkb hkg => ?_⟩, fun g' e => ?_⟩
    · rw [World.cell?_of_block (w := Y) hwb]; exact hYc
    · rw [World.frozen?_of_block (w := Y) hwb]
      have e0 : X'.frozen? ⟨b, 0, none⟩ = false := by rw [World.frozen?_of_block (w := w) hbX]; exact h.fz
      have := (fz_set X' ⟨b, 0, none⟩ (.slice (some ⟨g, 0, none⟩) (L.length + 1) cap) ⟨b, 0, none⟩).trans e0
      unfold World.frozen? at this ⊢; rw [hY]; exact this
    · rw [hln]; unfold World.ownsRow at s1 ⊢; rw [e1]; exact s1
    · rcases List.mem_append.1 hz with hz | hz
      · exact h.at' z (List.mem_of_mem_take hz)
      · rcases List.mem_cons.1 hz with rfl | hz
        · show (r : Int) / 64 ≤ 1000; omega
        · exact h.at' z (List.mem_of_mem_drop hz)
    · rw [szw]; have := p2.size; have := qX.size; have := h.bb; omega
    · apply boolEq
      rw [hasB_iff, has', Bool.or_eq_true, hasB_iff, decide_eq_true_eq]
    · rw [szw]; exact Nat.le_trans qX.size p2.size
    · have hkg' : k ≠ g := fun e => by
        subst e
        rcases p3 with q | q
        · exact hkg q
        · have := qX.size; omega
      rw [e1, heap_setCell_other Y ⟨g, i * 2 + 1, none⟩ k _ hkg', hY, heap_setCell_other X' ⟨b, 0, none⟩ k _ hkb, p2.block k (Nat.lt_of_lt_of_le hk qX.size) (fun e => hkg e.symm)]
      exact qX.block k hk
    · have : g' = g := by simp [Value.ownBlock] at e; exact e.symm
      subst this
      rcases p3 with q | q
      · exact .inl q
      · exact .inr (Nat.le_trans qX.size q)
  have HZ := hideIt (or_zero (bitN_u r))
  obtain ⟨n, hn⟩ : ∃ n, L.length = n := ⟨_, rfl⟩
  have HLE := hideIt (show n ≤ 1001 by omega)
  have HBC := hideIt (And.intro hc h.fz)
  clear h ho hr hw hno hvc hvm hl hbw
  rw [hn] at hc HN HF HI ⊢
  go_enter Tryd.func30, Tryd.ntmps30
  go_wp2_with (first | (go_at_call 37; refine Calls.mono (HF.out _ (by first | exact HW.out | exact HW.out.drew | exact HW.out.drewN _)) ?_; rintro e y ⟨i, fd, rfl, qy, hf⟩; obtain ⟨hfd, hi⟩ := HN.out i fd hf; subst hfd; have QY : Hid (Q w y) := (by first | exact qy | exact HW.out.drew.trans qy | exact (HW.out.drewN _).trans qy); have HFD := hideIt (And.intro hf hi); have cy := cell_keep QY.out hc; clear qy hf hc) | fail)
  have HS := hideIt (show y.cell? ⟨b, 0, none⟩ = some (.slice va n vc) ∧ y.frozen? ⟨b, 0, none⟩ = false from ⟨cy, by rw [World.frozen?_of_block (w := w) (QY.out.block b (World.block_lt_of_cell? w _ HBC.out.1))]; exact HBC.out.2⟩)
  have fz1 : ∀ ob, (y.alloc ob).frozen? ⟨b, 0, none⟩ = false := fun ob => by rw [World.frozen?_of_block (w := w) ((((Q.refl y).alloc ob).block b (World.block_lt_of_cell? y _ HS.out.1)).trans (QY.out.block b (World.block_lt_of_cell? w _ HBC.out.1)))]; exact HBC.out.2
  have fz0 := HS.out.2
  have c1 := fun ob => cell_keep ((Q.refl y).alloc ob) cy
  -- region 2 of add
  refine wp_region_held_drew (S := fun _ => True) (by kernel_rfl) (trivial) (fun hHeld => ?_)
  refine wpAnyH_take (i := 0) (oi := ⟨_, _, _, _, _, _⟩) (v := ?_) rfl (by kernel_rfl) (by kernel_rfl) (by kernel_rfl) (fun _ _ _ h => h) (Or.inl ⟨by rfl, ?_⟩) (by assumption) ?_
  rotate_left 1
  · intro w hSw; (try dsimp only at hSw); go_simp; all_goals with_reducible rfl
  try simp only [Act.put, List.setIfInBounds_toArray, List.set_cons_zero, List.set_cons_succ]
  refine wpAnyH_take (i := 1) (oi := ⟨_, _, _, _, _, _⟩) (v := ?_) rfl (by kernel_rfl) (by kernel_rfl) (by kernel_rfl) (fun _ _ _ h => h) (Or.inl ⟨by rfl, ?_⟩) (by assumption) ?_
  rotate_left 1
  · intro w hSw; (try dsimp only at hSw); go_simp; all_goals with_reducible rfl
  try simp only [Act.put, List.setIfInBounds_toArray, List.set_cons_zero, List.set_cons_succ]
  refine wpAnyH_take (i := 2) (oi := ⟨_, _, _, _, _, _⟩) (v := ?_) rfl (by kernel_rfl) (by kernel_rfl) (by kernel_rfl) (fun _ _ _ h => h) (Or.inl ⟨by rfl, ?_⟩) (by assumption) ?_
  rotate_left 1
  · intro w hSw; (try dsimp only at hSw); go_simp; all_goals with_reducible rfl
  try simp only [Act.put, List.setIfInBounds_toArray, List.set_cons_zero, List.set_cons_succ]
  refine wpAnyH_take (i := 3) (oi := ⟨_, _, _, _, _, _⟩) (v := ?_) rfl (by kernel_rfl) (by kernel_rfl) (by kernel_rfl) (fun _ _ _ h => h) (Or.inl ⟨by rfl, ?_⟩) (by assumption) ?_
  rotate_left 1
  · intro w hSw; (try dsimp only at hSw); go_simp; all_goals with_reducible rfl
  try simp only [Act.put, List.setIfInBounds_toArray, List.set_cons_zero, List.set_cons_succ]
  refine wpAnyH_take (i := 5) (oi := ⟨_, _, _, _, _, _⟩) (v := ?_) rfl (by kernel_rfl) (by kernel_rfl) (by kernel_rfl) (fun _ _ _ h => h) (Or.inl ⟨by rfl, ?_⟩) (by assumption) ?_
  rotate_left 1
  · intro w hSw; (try dsimp only at hSw); go_simp; all_goals with_reducible rfl
  try simp only [Act.put, List.setIfInBounds_toArray, List.set_cons_zero, List.set_cons_succ]
  refine wpAnyH_take (i := 6) (oi := ⟨_, _, _, _, _, _⟩) (v := ?_) rfl (by kernel_rfl) (by kernel_rfl) (by kernel_rfl) (fun _ _ _ h => h) (Or.inl ⟨by rfl, ?_⟩) (by assumption) ?_
  rotate_left 1
  · intro w hSw; (try dsimp only at hSw); go_simp; all_goals with_reducible rfl
  try simp only [Act.put, List.setIfInBounds_toArray, List.set_cons_zero, List.set_cons_succ]
  refine wpAnyH_ready (rs := [4, 7]) (by kernel_rfl) (by simp) (AllReadyH.cons (o := ⟨_, _, _, _, _, _⟩) rfl (fun K hK => ?_) (AllReadyH.cons (o := ⟨_, _, _, _, _, _⟩) rfl (fun K hK => ?_) AllReadyH.nil))
  · go_simp
    refine hK.out _ _ ?_ (fun hHeld => ?_)
    · trivial
    clear hK K
    try simp only [Act.put, List.setIfInBounds_toArray, List.set_cons_zero, List.set_cons_succ]
    refine wpAnyH_ready (rs := [7]) (by kernel_rfl) (by simp) (AllReadyH.cons (o := ⟨_, _, _, _, _, _⟩) rfl (fun K hK => ?_) AllReadyH.nil)
    go_simp
    go_at_call 42; refine Calls.mono (HPL.out _) ?_; rintro e z ⟨rfl, rfl⟩
    refine hK.out _ _ ?_ (fun hHeld => ?_)
    · trivial
    clear hK K
    try simp only [Act.put, List.setIfInBounds_toArray, List.set_cons_zero, List.set_cons_succ]
    refine wpAnyH_take (i := 8) (oi := ⟨_, _, _, _, _, _⟩) (v := ?_) rfl (by kernel_rfl) (by kernel_rfl) (by kernel_rfl) (fun _ _ _ h => h) (Or.inl ⟨by rfl, ?_⟩) (by assumption) ?_
    rotate_left 1
    · intro w hSw; (try dsimp only at hSw); go_simp; all_goals with_reducible rfl
    try simp only [Act.put, List.setIfInBounds_toArray, List.set_cons_zero, List.set_cons_succ]
    refine wpAnyH_ready (rs := [9]) (by kernel_rfl) (by simp) (AllReadyH.cons (o := ⟨_, _, _, _, _, _⟩) rfl (fun K hK => ?_) AllReadyH.nil)
    go_simp
    refine hK.out _ _ ?_ (fun hHeld => ?_)
    · trivial
    clear hK K
    try simp only [Act.put, List.setIfInBounds_toArray, List.set_cons_zero, List.set_cons_succ]
    refine wpAnyH_ready (rs := [10]) (by kernel_rfl) (by simp) (AllReadyH.cons (o := ⟨_, _, _, _, _, _⟩) rfl (fun K hK => ?_) AllReadyH.nil)
    go_simp
    go_at_call 50; refine Calls.mono (HI.out y _ QY.out (by first | exact (Q.refl y).drew.alloc _ | exact ((Q.refl y).alloc _).drew | exact (Q.refl y).alloc _) i HFD.out.1 HFD.out.2 _ (by have := QY.out.size; first | exact this | (simp; omega)) (by exact heap_alloc_new _ _)) ?_; rintro e x2 ⟨g, cap, rfl, x3, x4, x5⟩; obtain ⟨⟨f1, f2, f3⟩, x6⟩ := x5 (x2.setCell ⟨b, 0, none⟩ (.slice (some ⟨g, 0, none⟩) (n + 1) cap)) rfl; have X6 := hideIt x6; clear x5 x6
    refine hK.out _ _ ?_ (fun hHeld => ?_)
    · trivial
    clear hK K
    try simp only [Act.put, List.setIfInBounds_toArray, List.set_cons_zero, List.set_cons_succ]
    refine wpAnyH_take (i := 11) (oi := ⟨_, _, _, _, _, _⟩) (v := ?_) rfl (by kernel_rfl) (by kernel_rfl) (by kernel_rfl) (fun _ _ _ h => h) (Or.inl ⟨by rfl, ?_⟩) (by assumption) ?_
    rotate_left 1
    · intro w hSw; (try dsimp only at hSw); go_simp; all_goals with_reducible rfl
    try simp only [Act.put, List.setIfInBounds_toArray, List.set_cons_zero, List.set_cons_succ]
    refine wpAnyH_take (i := 12) (oi := ⟨_, _, _, _, _, _⟩) (v := ?_) rfl (by kernel_rfl) (by kernel_rfl) (by kernel_rfl) (fun _ _ _ h => h) (Or.inl ⟨by rfl, ?_⟩) (by assumption) ?_
    rotate_left 1
    · intro w hSw; (try dsimp only at hSw); go_simp; all_goals with_reducible rfl
    try simp only [Act.put, List.setIfInBounds_toArray, List.set_cons_zero, List.set_cons_succ]
    refine wpAnyH_ready (rs := [13]) (by kernel_rfl) (by simp) (AllReadyH.cons (o := ⟨_, _, _, _, _, _⟩) rfl (fun K hK => ?_) AllReadyH.nil)
    go_simp
    refine hK.out _ _ ?_ (fun hHeld => ?_)
    · trivial
    clear hK K
    try simp only [Act.put, List.setIfInBounds_toArray, List.set_cons_zero, List.set_cons_succ]
    refine wpAnyH_done (by kernel_rfl) ?_ _
    clear cy c1 fz1 fz0
    go_upto_region 3 with (fail)
    clear x3 x4
    go_region_with (go_at_call 38; refine Calls.mono (HB.out _) ?_; rintro e z ⟨rfl, rfl⟩)
    all_goals go_wp2_with (fail)
    all_goals refine bodyPost_end (v := .tuple #[]) (results_none rfl _ _ _) rfl ?_
    all_goals exact ⟨rfl, X6.out _ (by first | rfl | (rw [HZ.out]; rfl) | (simp only [HZ.out]; rfl)) rfl rfl rfl⟩
  · go_simp
    go_at_call 42; refine Calls.mono (HPL.out _) ?_; rintro e z ⟨rfl, rfl⟩
    refine hK.out _ _ ?_ (fun hHeld => ?_)
    · trivial
    clear hK K
    try simp only [Act.put, List.setIfInBounds_toArray, List.set_cons_zero, List.set_cons_succ]
    refine wpAnyH_take (i := 8) (oi := ⟨_, _, _, _, _, _⟩) (v := ?_) rfl (by kernel_rfl) (by kernel_rfl) (by kernel_rfl) (fun _ _ _ h => h) (Or.inl ⟨by rfl, ?_⟩) (by assumption) ?_
    rotate_left 1
    · intro w hSw; (try dsimp only at hSw); go_simp; all_goals with_reducible rfl
    try simp only [Act.put, List.setIfInBounds_toArray, List.set_cons_zero, List.set_cons_succ]
    refine wpAnyH_ready (rs := [4, 9]) (by kernel_rfl) (by simp) (AllReadyH.cons (o := ⟨_, _, _, _, _, _⟩) rfl (fun K hK => ?_) (AllReadyH.cons (o := ⟨_, _, _, _, _, _⟩) rfl (fun K hK => ?_) AllReadyH.nil))
    · go_simp
      refine hK.out _ _ ?_ (fun hHeld => ?_)
      · trivial
      clear hK K
      try simp only [Act.put, List.setIfInBounds_toArray, List.set_cons_zero, List.set_cons_succ]
      refine wpAnyH_ready (rs := [9]) (by kernel_rfl) (by simp) (AllReadyH.cons (o := ⟨_, _, _, _, _, _⟩) rfl (fun K hK => ?_) AllReadyH.nil)
      go_simp
      refine hK.out _ _ ?_ (fun hHeld => ?_)
      · trivial
      clear hK K
      try simp only [Act.put, List.setIfInBounds_toArray, List.set_cons_zero, List.set_cons_succ]
      refine wpAnyH_ready (rs := [10]) (by kernel_rfl) (by simp) (AllReadyH.cons (o := ⟨_, _, _, _, _, _⟩) rfl (fun K hK => ?_) AllReadyH.nil)
      go_simp
      go_at_call 50; refine Calls.mono (HI.out y _ QY.out (by first | exact (Q.refl y).drew.alloc _ | exact ((Q.refl y).alloc _).drew | exact (Q.refl y).alloc _) i HFD.out.1 HFD.out.2 _ (by have := QY.out.size; first | exact this | (simp; omega)) (by exact heap_alloc_new _ _)) ?_; rintro e x2 ⟨g, cap, rfl, x3, x4, x5⟩; obtain ⟨⟨f1, f2, f3⟩, x6⟩ := x5 (x2.setCell ⟨b, 0, none⟩ (.slice (some ⟨g, 0, none⟩) (n + 1) cap)) rfl; have X6 := hideIt x6; clear x5 x6
      refine hK.out _ _ ?_ (fun hHeld => ?_)
      · trivial
      clear hK K
      try simp only [Act.put, List.setIfInBounds_toArray, List.set_cons_zero, List.set_cons_succ]
      refine wpAnyH_take (i := 11) (oi := ⟨_, _, _, _, _, _⟩) (v := ?_) rfl (by kernel_rfl) (by kernel_rfl) (by kernel_rfl) (fun _ _ _ h => h) (Or.inl ⟨by rfl, ?_⟩) (by assumption) ?_
      rotate_left 1
      · intro w hSw; (try dsimp only at hSw); go_simp; all_goals with_reducible rfl
      try simp only [Act.put, List.setIfInBounds_toArray, List.set_cons_zero, List.set_cons_succ]
      refine wpAnyH_take (i := 12) (oi := ⟨_, _, _, _, _, _⟩) (v := ?_) rfl (by kernel_rfl) (by kernel_rfl) (by kernel_rfl) (fun _ _ _ h => h) (Or.inl ⟨by rfl, ?_⟩) (by assumption) ?_
      rotate_left 1
      · intro w hSw; (try dsimp only at hSw); go_simp; all_goals with_reducible rfl
      try simp only [Act.put, List.setIfInBounds_toArray, List.set_cons_zero, List.set_cons_succ]
      refine wpAnyH_ready (rs := [13]) (by kernel_rfl) (by simp) (AllReadyH.cons (o := ⟨_, _, _, _, _, _⟩) rfl (fun K hK => ?_) AllReadyH.nil)
      go_simp
      refine hK.out _ _ ?_ (fun hHeld => ?_)
      · trivial
      clear hK K
      try simp only [Act.put, List.setIfInBounds_toArray, List.set_cons_zero, List.set_cons_succ]
      refine wpAnyH_done (by kernel_rfl) ?_ _
      clear cy c1 fz1 fz0
      go_upto_region 3 with (fail)
      clear x3 x4
      go_region_with (go_at_call 38; refine Calls.mono (HB.out _) ?_; rintro e z ⟨rfl, rfl⟩)
      all_goals go_wp2_with (fail)
      all_goals refine bodyPost_end (v := .tuple #[]) (results_none rfl _ _ _) rfl ?_
      all_goals exact ⟨rfl, X6.out _ (by first | rfl | (rw [HZ.out]; rfl) | (simp only [HZ.out]; rfl)) rfl rfl rfl⟩
    · go_simp
      refine hK.out _ _ ?_ (fun hHeld => ?_)
      · trivial
      clear hK K
      try simp only [Act.put, List.setIfInBounds_toArray, List.set_cons_zero, List.set_cons_succ]
      refine wpAnyH_ready (rs := [4]) (by kernel_rfl) (by simp) (AllReadyH.cons (o := ⟨_, _, _, _, _, _⟩) rfl (fun K hK => ?_) AllReadyH.nil)
      go_simp
      refine hK.out _ _ ?_ (fun hHeld => ?_)
      · trivial
      clear hK K
      try simp only [Act.put, List.setIfInBounds_toArray, List.set_cons_zero, List.set_cons_succ]
      refine wpAnyH_ready (rs := [10]) (by kernel_rfl) (by simp) (AllReadyH.cons (o := ⟨_, _, _, _, _, _⟩) rfl (fun K hK => ?_) AllReadyH.nil)
      go_simp
      go_at_call 50; refine Calls.mono (HI.out y _ QY.out (by first | exact (Q.refl y).drew.alloc _ | exact ((Q.refl y).alloc _).drew | exact (Q.refl y).alloc _) i HFD.out.1 HFD.out.2 _ (by have := QY.out.size; first | exact this | (simp; omega)) (by exact heap_alloc_new _ _)) ?_; rintro e x2 ⟨g, cap, rfl, x3, x4, x5⟩; obtain ⟨⟨f1, f2, f3⟩, x6⟩ := x5 (x2.setCell ⟨b, 0, none⟩ (.slice (some ⟨g, 0, none⟩) (n + 1) cap)) rfl; have X6 := hideIt x6; clear x5 x6
      refine hK.out _ _ ?_ (fun hHeld => ?_)
      · trivial
      clear hK K
      try simp only [Act.put, List.setIfInBounds_toArray, List.set_cons_zero, List.set_cons_succ]
      refine wpAnyH_take (i := 11) (oi := ⟨_, _, _, _, _, _⟩) (v := ?_) rfl (by kernel_rfl) (by kernel_rfl) (by kernel_rfl) (fun _ _ _ h => h) (Or.inl ⟨by rfl, ?_⟩) (by assumption) ?_
      rotate_left 1
      · intro w hSw; (try dsimp only at hSw); go_simp; all_goals with_reducible rfl
      try simp only [Act.put, List.setIfInBounds_toArray, List.set_cons_zero, List.set_cons_succ]
      refine wpAnyH_take (i := 12) (oi := ⟨_, _, _, _, _, _⟩) (v := ?_) rfl (by kernel_rfl) (by kernel_rfl) (by kernel_rfl) (fun _ _ _ h => h) (Or.inl ⟨by rfl, ?_⟩) (by assumption) ?_
      rotate_left 1
      · intro w hSw; (try dsimp only at hSw); go_simp; all_goals with_reducible rfl
      try simp only [Act.put, List.setIfInBounds_toArray, List.set_cons_zero, List.set_cons_succ]
      refine wpAnyH_ready (rs := [13]) (by kernel_rfl) (by simp) (AllReadyH.cons (o := ⟨_, _, _, _, _, _⟩) rfl (fun K hK => ?_) AllReadyH.nil)
      go_simp
      refine hK.out _ _ ?_ (fun hHeld => ?_)
      · trivial
      clear hK K
      try simp only [Act.put, List.setIfInBounds_toArray, List.set_cons_zero, List.set_cons_succ]
      refine wpAnyH_done (by kernel_rfl) ?_ _
      clear cy c1 fz1 fz0
      go_upto_region 3 with (fail)
      clear x3 x4
      go_region_with (go_at_call 38; refine Calls.mono (HB.out _) ?_; rintro e z ⟨rfl, rfl⟩)
      all_goals go_wp2_with (fail)
      all_goals refine bodyPost_end (v := .tuple #[]) (results_none rfl _ _ _) rfl ?_
      all_goals exact ⟨rfl, X6.out _ (by first | rfl | (rw [HZ.out]; rfl) | (simp only [HZ.out]; rfl)) rfl rfl rfl⟩
end Go.Proofs.YtdiidmmmemmjjaaDoor.Lv
