/-
  What List answers: contracts over the program; the conditions: the argument is a tree of at most 7000 nodes that lies in memory.
-/
import Derived.Test.YtioeoillogpdoaaPartsD
import Derived.BigRegion
namespace Go.Proofs.Ytioeoillogpdoaa
open Go.RowKit
set_option linter.unusedVariables false

/-- The kinds of all nodes in their order. -/
def Fo.kinds : Fo → List Int
  | nil => []
  | cons v _ _ k r => v.k :: (k.kinds ++ r.kinds)
theorem kinds_len (f : Fo) : f.kinds.length = f.size := by
  induction f with
  | nil => rfl
  | cons v a c k r ihk ihr => simp only [Fo.kinds, Fo.size, List.length_cons, List.length_append, ihk, ihr]; omega
theorem wkKinds (f : Fo) : ∀ (a : Option Addr) (d : Nat) (s : List Int), wkF (fun s e => s ++ [e.v.k]) (fun _ _ => true) a f d s = (s ++ f.kinds, true) := by
  induction f with
  | nil => intro a d s; simp [wkF, Fo.kinds]
  | cons v ka kc ks rest ihk ihr =>
    intro a d s
    unfold wkF
    rw [if_pos rfl, ihk]
    rw [if_pos rfl, ihr]
    simp only [Fo.kinds]
    exact Prod.ext (by simp) rfl

/-- The list that the closure fills: its slice in block pk, its bytes in block g. -/
structure LI (W0 : World) (pk g cap : Nat) (s : List Int) (w : World) : Prop where
  q : Q W0 w
  lop : W0.heap.size ≤ pk
  log : W0.heap.size ≤ g
  ne : pk ≠ g
  len : s.length ≤ cap
  cp : w.heap[pk]? = some (.cells #[.slice (some ⟨g, 0, none⟩) s.length cap] 36 (0, 0))
  cg : ∃ cur : Array Value, w.heap[g]? = some (.cells cur 5 (0, 0)) ∧ cur.size = cap ∧ ∀ j, j < s.length → cur[j]? = (s.map (Value.int .u8))[j]?

theorem LI.step {W0 w : World} {pk g cap : Nat} {s : List Int} {z : Int} (h : LI W0 pk g cap s w) (hl : s.length < cap) : LI W0 pk g cap (s ++ [z]) ((((w.setCell ⟨g, s.length, none⟩ (.int .u8 z)).setCell ⟨pk, 0, none⟩ (.slice (some ⟨g, 0, none⟩) (s.length + 1) cap)).alloc (.cells #[.int .u8 z] 5)).drew) := by
  obtain ⟨cur, h1, h2, h3⟩ := h.cg
  have hb : pk < ((w.setCell ⟨g, s.length, none⟩ (.int .u8 z)).setCell ⟨pk, 0, none⟩ (.slice (some ⟨g, 0, none⟩) (s.length + 1) cap)).heap.size := by simpa using lt_of_block h.cp
  have hb2 : g < ((w.setCell ⟨g, s.length, none⟩ (.int .u8 z)).setCell ⟨pk, 0, none⟩ (.slice (some ⟨g, 0, none⟩) (s.length + 1) cap)).heap.size := by simpa using lt_of_block h1
  refine ⟨Below.drew (Below.alloc ((h.q.setCell h.log _).setCell h.lop _) (by have := h.q.size; simpa using this) _), h.lop, h.log, h.ne, by simp; omega, ?_, (cur.setIfInBounds s.length (.int .u8 z)), ?_, by simpa using h2, ?_⟩
  · show (World.alloc _ _).heap[pk]? = _
    rw [Below.heap_alloc _ _ _ hb]
    have : (w.setCell ⟨g, s.length, none⟩ (.int .u8 z)).heap[pk]? = some (.cells #[.slice (some ⟨g, 0, none⟩) s.length cap] 36 (0, 0)) := by
      rw [Below.heap_setCell _ _ _ _ h.ne]
      exact h.cp
    rw [block_setCell this]
    simp
  · show (World.alloc _ _).heap[g]? = _
    rw [Below.heap_alloc _ _ _ hb2, Below.heap_setCell _ _ _ _ (Ne.symm h.ne), block_setCell h1]
  · intro j hj
    simp only [List.length_append, List.length_cons, List.length_nil] at hj
    rw [List.map_append]
    by_cases e : j = s.length
    · subst e
      rw [List.getElem?_append_right (by simp)]
      simp [h2, hl]
    · rw [List.getElem?_append_left (by simp; omega), ← h3 j (by omega)]
      rw [Array.getElem?_setIfInBounds]
      simp [Ne.symm e]

theorem ent39 : ∀ args w, (callFunc 39 args).run Try.prog w = .ok (.enter 39 args) w := enters_of Try.func39 (by kernel_rfl) rfl

set_option maxRecDepth 100000 in
theorem cl39 (W0 : World) (pk g cap : Nat) (s : List Int) (w : World) (b o d : Nat) (v : NF) (sl : Value) (hI : LI W0 pk g cap s w) (hn : s.length < cap) (hc : cap ≤ 8000) (hat : At W0 b o (cellsN v sl)) :
    Calls Try.prog 39 #[.pointer (some ⟨b, o, none⟩), .int .i64 d, .pointer (some ⟨pk, 0, none⟩)] w fun e w' => e = .returned (.bool true) ∧ LI W0 pk g cap (s ++ [v.k]) w' := by
  obtain ⟨cur, k1, k2, k3⟩ := hI.cg
  have c1 : w.cell? ⟨pk, 0, none⟩ = some (.slice (some ⟨g, 0, none⟩) s.length cap) := by rw [cell_of_block hI.cp]; rfl
  have c2 : w.cell? ⟨b, o, none⟩ = some (.int .u8 v.k) := (hat.keep (Nat.le_refl _) hI.q).cell 0 _ rfl
  have f1 : w.frozen? ⟨pk, 0, none⟩ = false := free_of_block hI.cp 0
  have f3 : w.frozen? ⟨g, s.length, none⟩ = false := free_of_block k1 _
  obtain ⟨u, c3⟩ : ∃ u, w.cell? ⟨g, s.length, none⟩ = some u := by rw [cell_of_block k1]; exact ⟨_, Array.getElem?_eq_getElem (by omega)⟩
  have hpg := hI.ne
  have HI := hideIt hI
  have HN := hideIt hn
  clear hI k1 k2 k3 hat
  generalize hsn : s.length = n at *
  have HSN := hideIt hsn
  generalize hvz : v.k = z at *
  have HVZ := hideIt hvz
  clear hsn hvz
  have l1 : pk < w.heap.size := World.block_lt_of_cell? w _ c1
  have l2 : g < w.heap.size := World.block_lt_of_cell? w _ c3
  have l3 : b < w.heap.size := World.block_lt_of_cell? w _ c2
  have hn1 : n + 1 ≤ cap := by omega
  have a1 : (w.alloc (.cells #[.int .u8 z] 5)).cell? ⟨g, n, none⟩ = some u := by rw [World.cell?_alloc_past _ _ _ l2]; exact c3
  have a2 : (w.alloc (.cells #[.int .u8 z] 5)).frozen? ⟨g, n, none⟩ = false := by rw [World.frozen?_alloc_past _ _ _ l2]; exact f3
  have a3 : (w.alloc (.cells #[.int .u8 z] 5)).cell? ⟨pk, 0, none⟩ = some (.slice (some ⟨g, 0, none⟩) n cap) := by rw [World.cell?_alloc_past _ _ _ l1]; exact c1
  have a4 : (w.alloc (.cells #[.int .u8 z] 5)).frozen? ⟨pk, 0, none⟩ = false := by rw [World.frozen?_alloc_past _ _ _ l1]; exact f1
  have a5 : ((w.alloc (.cells #[.int .u8 z] 5)).setCell ⟨g, n, none⟩ (.int .u8 z)).cell? ⟨pk, 0, none⟩ = some (.slice (some ⟨g, 0, none⟩) n cap) := by rw [World.cell?_setCell_far _ _ _ _ (fun h => hpg h.symm)]; exact a3
  go_enter Try.func39, Try.ntmps39
  go_wp2_with (fail)
  go_region
  go_wp2_with (fail)
  go_ret
  refine ⟨rfl, ?_⟩
  have h5 := LI.step (z := z) HI.out (by rw [HSN.out]; exact hn)
  rw [HSN.out] at h5
  exact h5

theorem Try.info5 : (Try.prog.info? 5).map (fun i => (i.zero, i.size, i.bytes)) = some (some (.int .u8 0), 1, 1) := by kernel_rfl

theorem made_one {w : World} {base g n : Nat} (h : w.ownsRow base 5 1 (.slice (some ⟨g, 0, none⟩) 0 n) 0 []) : base ≤ g ∧ ∃ cur : Array Value, w.heap[g]? = some (.cells cur 5 (0, 0)) ∧ cur.size = n := by
  rcases h.2 with ⟨h, _⟩ | ⟨g', cap, cur, h, hb, hh, _, _, hs, ht⟩
  · simp at h
  · simp at h
    obtain ⟨rfl, rfl⟩ := h
    exact ⟨hb, cur, hh, by omega⟩

theorem list_start {W0 x2 x3 : World} {M : Nat} (h2 : Q W0 x2) (hm : W0.heap.size ≤ x2.heap.size ∧ ∃ cur : Array Value, x3.heap[x2.heap.size]? = some (.cells cur 5 (0, 0)) ∧ cur.size = M) (hg : x2.grownBy x3 none) : LI W0 x3.heap.size x2.heap.size M [] (x3.alloc (.cells #[.slice (some ⟨x2.heap.size, 0, none⟩) 0 M] 36)) := by
  obtain ⟨hb, cur, h3, h4⟩ := hm
  have hlt := lt_of_block h3
  have hq : Q W0 x3 := Below.grown h2 hg h2.size (fun k hk => by cases hk)
  refine ⟨Below.alloc hq hq.size _, hq.size, hb, by omega, Nat.zero_le _, heap_alloc_new x3 _, cur, ?_, h4, fun j hj => by simp at hj⟩
  rw [Below.heap_alloc _ _ _ hlt]
  exact h3

/-- What List answers. -/
def ListSaid (f : Fo) (v : NF) (w : World) (e : Ending) (w' : World) : Prop :=
  Q w w' ∧ ((f.fine = false ∧ e = .returned (.tuple #[.slice none 0 0, .int .i64 2])) ∨
    (∃ g cap, f.fine = true ∧ e = .returned (.tuple #[.slice (some ⟨g, 0, none⟩) (f.size + 1) cap, .int .i64 0]) ∧ ∀ j, j < f.size + 1 → w'.cell? ⟨g, j, none⟩ = ((v.k :: f.kinds).map (Value.int .u8))[j]?))

set_option maxRecDepth 100000 in
set_option maxHeartbeats 2000000 in
theorem list_any (f : Fo) (v : NF) (a : Option Addr) (c : Nat) (w : World) (hv : v.ok) (hin : In w a f) (hs : sok a f.len c) (hz : f.size ≤ 7000) :
    Calls Try.prog 20 #[nodeV v (.slice a f.len c)] w fun e w' => ListSaid f v w e w' := by
  have HF := hideIt (fine_any f v a c (boxed w v (.slice a f.len c)) hv (hin.keep (Nat.le_refl _) (boxed_q _ _ _)) hs hz)
  obtain ⟨i0, hi, hz0, hz1, hz2⟩ := info_parts Try.info5
  cases hfi : f.fine with
  | false =>
    rw [hfi] at HF
    have HFI := hideIt hfi
    clear hin hs hfi
    go_enter Try.func20, Try.ntmps20
    go_wp2_with (go_at_call 14; refine HF.out.mono ?_; rintro e x ⟨rfl, q1⟩)
    refine bodyPost_ret (v := .tuple #[.slice none 0 0, .int .i64 2]) (by simp [results, Try.results20, go_sem]) rfl ⟨(boxed_q _ _ _).trans q1, Or.inl ⟨HFI.out, rfl⟩⟩
  | true =>
    rw [hfi] at HF
    have HFI := hideIt hfi
    have hf4 : f.size + 1 ≤ 4000 := by unfold Fo.fine at hfi; simp at hfi; omega
    have HS : Hid (∀ X, Q (boxed w v (.slice a f.len c)) X → Calls Try.prog 10 #[nodeV v (.slice a f.len c)] X fun e w' => e = .returned (.int .i64 ((f.size + 1 : Nat) : Int)) ∧ Q (boxed w v (.slice a f.len c)) w') := fun X hX => by
      have := size_any f v a c X hv (hin.keep (Nat.le_refl _) ((boxed_q _ _ _).trans hX)) hs hz
      rw [show min (f.size + 1) 4001 = f.size + 1 by omega] at this
      exact this.mono fun e w' ⟨h1, h2⟩ => ⟨h1, hX.trans h2⟩
    have HC : Hid (∀ pk g W, LI (boxed w v (.slice a f.len c)) pk g (f.size + 1) [] W → Calls Try.prog 29 #[.pointer (some ⟨w.heap.size, 0, none⟩), .int .i64 1, .func (.func 39) #[] #[.pointer (some ⟨pk, 0, none⟩)]] W fun e w' => e = .returned (.bool true) ∧ LI (boxed w v (.slice a f.len c)) pk g (f.size + 1) (v.k :: f.kinds) w') := fun pk g W hW => by
      have := walk_any (fun s e => s ++ [e.v.k]) (fun _ _ => true) (fun n s W => LI (boxed w v (.slice a f.len c)) pk g (f.size + 1) s W ∧ s.length = n) (f.size + 1) 39 #[.pointer (some ⟨pk, 0, none⟩)] (boxed w v (.slice a f.len c)) ent39 (fun n s W h => h.1.q)
        (fun n s W b o v' ka kc ks d hn h hat hv' _ _ _ hd => (cl39 _ pk g _ s W b o d v' _ h.1 (by omega) (by omega) hat).mono fun e w' ⟨q1, q2⟩ => ⟨q1, q2, by simp; omega⟩) (f.size + 1) f (by omega) v a c w.heap.size 0 1 0 [] W (at_boxed w v _) hv (hin.keep (Nat.le_refl _) (boxed_q _ _ _)) hs ⟨hW, rfl⟩ (by omega) (by omega) (by omega)
      refine this.mono ?_
      rintro e w' ⟨n', _, h2, h3, _⟩
      rw [wkKinds] at h2 h3
      refine ⟨h2, ?_⟩
      simpa [Fo.kinds] using h3
    have hkl : (v.k :: f.kinds).length = f.size + 1 := by simp [kinds_len]
    have HKL := hideIt hkl
    clear hin hs hfi hkl
    obtain ⟨M, hM⟩ : ∃ M, f.size + 1 = M := ⟨_, rfl⟩
    rw [hM] at HS HC hf4 HKL
    have HM := hideIt hM
    clear hM
    go_enter Try.func20, Try.ntmps20
    go_wp2_with (first | (go_at_call 14; refine HF.out.mono ?_; rintro e x ⟨rfl, q1⟩; obtain ⟨c0, c1, c2, c3, c4, c5, c6, c7, c8, c9⟩ := boxed_ten q1; have HX := hideIt q1; clear q1) | (go_at_call 10; refine (HS.out x HX.out).mono ?_; rintro e x2 ⟨rfl, q1⟩; clear c0 c1 c2 c3 c4 c5 c6 c7 c8 c9; have H2 := hideIt q1; clear q1) | (at_make; refine wpList_make_own _ rfl (.const (.int .i64 0)) (.tmp 9) 36 rfl (boxed w v (.slice a f.len c)).heap.size 5 i0 (.int .u8 0) 1 Try.underlying36 hi hz0 hz1 .i64 .i64 (M : Int) M rfl rfl rfl (by rw [hz2]; omega) (by unfold maxLen; omega) H2.out.size ?_; intro x3 ho1 hg1; have HM1 := hideIt (made_one ho1); have HG := hideIt hg1; clear ho1 hg1) | (go_at_call 29; refine (HC.out x3.heap.size x2.heap.size _ (list_start H2.out HM1.out HG.out)).mono ?_; rintro e y ⟨rfl, hI⟩; have cf : y.cell? ⟨x3.heap.size, 0, none⟩ = some (.slice (some ⟨x2.heap.size, 0, none⟩) (v.k :: f.kinds).length M) := (cell_of_block hI.cp 0).trans rfl; rw [HKL.out] at cf; have HI := hideIt hI; clear hI))
    obtain ⟨cur, k1, k2, k3⟩ := HI.out.cg
    refine bodyPost_ret (v := .tuple #[.slice (some ⟨x2.heap.size, 0, none⟩) M M, .int .i64 0]) (by simp [results, Try.results20, go_sem]) rfl ⟨(boxed_q _ _ _).trans HI.out.q, Or.inr ⟨x2.heap.size, M, HFI.out, by rw [HM.out], fun j hj => ?_⟩⟩
    rw [cell_of_block k1, k3 j (by rw [HKL.out, ← HM.out]; exact hj)]

end Go.Proofs.Ytioeoillogpdoaa
