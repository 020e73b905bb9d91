/-
  What Size, Depth and Fine answer: contracts over the program; the conditions: the argument is a tree of at most 6000 nodes that lies in memory.
-/
import Derived.Test.YtioeoillogpdoaaWalk
namespace Go.Proofs.Ytioeoillogpdoaa
open Go.RowKit
set_option linter.unusedVariables false

/-- A counter of one's own at block p, behind the world W0. -/
structure CI (W0 : World) (p : Nat) (s : Nat) (w : World) : Prop where
  q : Q W0 w
  lo : W0.heap.size ≤ p
  c : w.heap[p]? = some (.cells #[.int .i64 s] 3 (0, 0))

theorem block_setCell {w : World} {b j : Nat} {cs : Array Value} {t : TypeId} (h : w.heap[b]? = some (.cells cs t (0, 0))) (u : Value) : (w.setCell ⟨b, j, none⟩ u).heap[b]? = some (.cells (cs.setIfInBounds j u) t (0, 0)) := by
  have hlt := lt_of_block h
  have h' : w.heap[b] = .cells cs t (0, 0) := by simpa [Array.getElem?_eq_getElem hlt] using h
  show (w.heap.modify b _)[b]? = _
  rw [Array.getElem?_eq_getElem (by simpa using hlt), Array.getElem_modify_self, h']
  rfl
theorem cell_of_block {w : World} {b : Nat} {cs : Array Value} {t : TypeId} (h : w.heap[b]? = some (.cells cs t (0, 0))) (j : Nat) : w.cell? ⟨b, j, none⟩ = cs[j]? := by simp [World.cell?, h]
theorem free_of_block {w : World} {b : Nat} {cs : Array Value} {t : TypeId} (h : w.heap[b]? = some (.cells cs t (0, 0))) (j : Nat) : w.frozen? ⟨b, j, none⟩ = false := by simp [World.frozen?, h]

theorem CI.cell {W0 w : World} {p s : Nat} (h : CI W0 p s w) : w.cell? ⟨p, 0, none⟩ = some (.int .i64 s) := by rw [cell_of_block h.c]; rfl
theorem CI.free {W0 w : World} {p s : Nat} (h : CI W0 p s w) : w.frozen? ⟨p, 0, none⟩ = false := free_of_block h.c 0
theorem CI.set {W0 w : World} {p s : Nat} (h : CI W0 p s w) (z : Int) (s' : Nat) (e : z = s') : CI W0 p s' (w.setCell ⟨p, 0, none⟩ (.int .i64 z)) := by
  subst e
  refine ⟨h.q.setCell h.lo _, h.lo, ?_⟩
  rw [block_setCell h.c]
  rfl
theorem CI.start (w : World) (v : NF) (s : Value) : CI (boxed w v s) (w.heap.size + 1) 0 ((boxed w v s).alloc (.cells #[.int .i64 0] 3)) := by
  refine ⟨(Below.refl _ _).alloc (Nat.le_refl _) _, by simp, ?_⟩
  have := heap_alloc_new (boxed w v s) (.cells #[.int .i64 0] 3 (0, 0))
  simpa using this

theorem ent30 : ∀ args w, (callFunc 30 args).run Try.prog w = .ok (.enter 30 args) w := enters_of Try.func30 (by kernel_rfl) rfl
theorem ent31 : ∀ args w, (callFunc 31 args).run Try.prog w = .ok (.enter 31 args) w := enters_of Try.func31 (by kernel_rfl) rfl
theorem ent33 : ∀ args w, (callFunc 33 args).run Try.prog w = .ok (.enter 33 args) w := enters_of Try.func33 (by kernel_rfl) rfl

theorem retb {p q : Prop} [Decidable p] [Decidable q] (h : p ↔ q) : Ending.returned (.bool (decide p)) = .returned (.bool (decide q)) := by
  have : decide p = decide q := by rw [decide_eq_decide]; exact h
  rw [this]

theorem cl30 (W0 : World) (p s : Nat) (w : World) (x : Value) (d : Nat) (hI : CI W0 p s w) (hs : s ≤ 100000) :
    Calls Try.prog 30 #[x, .int .i64 d, .pointer (some ⟨p, 0, none⟩)] w fun e w' => e = .returned (.bool (decide (s + 1 ≤ 4000))) ∧ CI W0 p (s + 1) w' := by
  have hc := hI.cell
  have hf := hI.free
  have HI := hideIt hI
  clear hI
  have hlt : p < w.heap.size := World.block_lt_of_cell? w _ hc
  go_enter Try.func30, Try.ntmps30
  go_wp2_with (fail)
  go_ret
  exact ⟨retb (by omega), HI.out.set _ _ (by omega)⟩

theorem wkSize (f : Fo) : ∀ (a : Option Addr) (d s : Nat), s ≤ 4000 → (wkF (fun s _ => s + 1) (fun s _ => decide (s + 1 ≤ 4000)) a f d s).1 = min (s + f.size) 4001 ∧ ((wkF (fun s _ => s + 1) (fun s _ => decide (s + 1 ≤ 4000)) a f d s).2 = true ↔ s + f.size ≤ 4000) := by
  induction f with
  | nil =>
    intro a d s h
    have e : (Fo.nil).size = 0 := rfl
    rw [e]
    exact ⟨by show s = _; omega, by show true = true ↔ _; simp; omega⟩
  | cons v ka kc ks rest ihk ihr =>
    intro a d s h
    have e : (Fo.cons v ka kc ks rest).size = ks.size + 1 + rest.size := rfl
    rw [e]
    unfold wkF
    by_cases h1 : s + 1 ≤ 4000
    · rw [if_pos (decide_eq_true h1)]
      obtain ⟨k1, k2⟩ := ihk ka (d + 1) (s + 1) h1
      by_cases h2 : s + 1 + ks.size ≤ 4000
      · rw [if_pos (k2.2 h2), k1]
        obtain ⟨r1, r2⟩ := ihr (next10 a) d (min (s + 1 + ks.size) 4001) (by omega)
        rw [r1, r2]
        omega
      · have h2' : ¬ (wkF (fun s _ => s + 1) (fun s _ => decide (s + 1 ≤ 4000)) ka ks (d + 1) (s + 1)).2 = true := fun x => h2 (k2.1 x)
        rw [if_neg h2', k1]
        refine ⟨by show min _ _ = _; omega, ?_⟩
        show false = true ↔ _
        simp
        omega
    · rw [if_neg (by rw [decide_eq_true_eq]; exact h1)]
      refine ⟨by show s + 1 = _; omega, ?_⟩
      show false = true ↔ _
      simp
      omega

theorem size_any (f : Fo) (v : NF) (a : Option Addr) (c : Nat) (w : World) (hv : v.ok) (hin : In w a f) (hs : sok a f.len c) (hz : f.size ≤ 7000) :
    Calls Try.prog 10 #[nodeV v (.slice a f.len c)] w fun e w' => e = .returned (.int .i64 ((min (f.size + 1) 4001 : Nat) : Int)) ∧ Q w w' := by
  have hat : At (boxed w v (.slice a f.len c)) w.heap.size 0 (cellsN v (.slice a f.len c)) := fun j hj => by rw [show 0 + j = j by omega, cell_box]; simp
  have HC := hideIt (walk_any (fun s _ => s + 1) (fun s _ => decide (s + 1 ≤ 4000)) (fun n s W => CI (boxed w v (.slice a f.len c)) (w.heap.size + 1) s W ∧ s = n) 8000 30 #[.pointer (some ⟨w.heap.size + 1, 0, none⟩)] (boxed w v (.slice a f.len c)) ent30 (fun n s W h => h.1.q)
    (fun n s W b o v' ka kc ks d hn h _ _ _ _ _ _ => (cl30 _ _ s W _ d h.1 (by omega)).mono fun e w' ⟨q1, q2⟩ => ⟨q1, q2, by omega⟩) (f.size + 1) f (by omega) v a c w.heap.size 0 1 0 0 _ hat hv (hin.keep (Nat.le_refl _) (boxed_q _ _ _)) hs ⟨CI.start w v _, rfl⟩ (by omega) (by omega) (by omega))
  have hm := (wkSize (.cons v a c f .nil) (some ⟨w.heap.size, 0, none⟩) 1 0 (by omega)).1
  rw [hm] at HC
  clear hm hat hin hs
  have em : min (0 + (Fo.cons v a c f .nil).size) 4001 = min (f.size + 1) 4001 := by simp [Fo.size]
  rw [em] at HC
  obtain ⟨M, hM⟩ : ∃ M, min (f.size + 1) 4001 = M := ⟨_, rfl⟩
  rw [hM] at HC ⊢
  clear em hM
  go_enter Try.func10, Try.ntmps10
  go_wp2_with (go_at_call 29; refine HC.out.mono ?_; rintro e x ⟨n', h1, rfl, h2, h3⟩; have hcc := h2.cell; have HH := hideIt h2; clear h2 h1 h3)
  go_ret
  exact ⟨rfl, (boxed_q _ _ _).trans HH.out.q⟩
theorem cl31 (W0 : World) (p s : Nat) (w : World) (x : Value) (d : Nat) (hI : CI W0 p s w) (hs : s ≤ 100000) (hd : d ≤ 100000) :
    Calls Try.prog 31 #[x, .int .i64 d, .pointer (some ⟨p, 0, none⟩)] w fun e w' => e = .returned (.bool (decide (max s d ≤ 40))) ∧ CI W0 p (max s d) w' := by
  have hc := hI.cell
  have hf := hI.free
  have HI := hideIt hI
  clear hI
  have hlt : p < w.heap.size := World.block_lt_of_cell? w _ hc
  go_enter Try.func31, Try.ntmps31
  go_wp2_with (fail)
  · go_ret
    have em : max s d = d := by omega
    rw [em]
    exact ⟨retb (by omega), HI.out.set _ _ rfl⟩
  · go_ret
    have em : max s d = s := by omega
    rw [em]
    exact ⟨retb (by omega), HI.out.set _ _ rfl⟩
theorem cl33 (W0 : World) (p s : Nat) (w : World) (x : Value) (d : Nat) (hI : CI W0 p s w) (hs : s ≤ 100000) (hd : d ≤ 100000) :
    Calls Try.prog 33 #[x, .int .i64 d, .pointer (some ⟨p, 0, none⟩)] w fun e w' => e = .returned (.bool (decide (s + 1 ≤ 4000) && decide (d ≤ 40))) ∧ CI W0 p (s + 1) w' := by
  have hc := hI.cell
  have hf := hI.free
  have HI := hideIt hI
  clear hI
  have hlt : p < w.heap.size := World.block_lt_of_cell? w _ hc
  by_cases h1 : s + 1 ≤ 4000
  · have h1' : (s : Int) + 1 ≤ 4000 := by omega
    have e1 : decide (s + 1 ≤ 4000) = true := decide_eq_true h1
    rw [e1, Bool.true_and]
    go_enter Try.func33, Try.ntmps33
    go_wp2_with (fail)
    go_ret
    exact ⟨retb (by omega), HI.out.set _ _ (by omega)⟩
  · have h1' : decide ((s : Int) + 1 ≤ 4000) = false := by rw [decide_eq_false_iff_not]; omega
    have e1 : decide (s + 1 ≤ 4000) = false := decide_eq_false h1
    rw [e1, Bool.false_and]
    clear h1 e1
    go_enter Try.func33, Try.ntmps33
    go_wp2_with (fail)
    go_ret
    exact ⟨rfl, HI.out.set _ _ (by omega)⟩

theorem wkDepth (f : Fo) : ∀ (a : Option Addr) (d s : Nat), 1 ≤ d → d ≤ s + 1 → s ≤ 40 → (wkF (fun s e => max s e.d) (fun s e => decide (max s e.d ≤ 40)) a f d s).1 = min (max s (d + f.depth - 1)) 41 ∧ ((wkF (fun s e => max s e.d) (fun s e => decide (max s e.d ≤ 40)) a f d s).2 = true ↔ d + f.depth ≤ 41) := by
  induction f with
  | nil =>
    intro a d s h h' hs
    have e : (Fo.nil).depth = 0 := rfl
    rw [e]
    exact ⟨by show s = _; omega, by show true = true ↔ _; simp; omega⟩
  | cons v ka kc ks rest ihk ihr =>
    intro a d s h h' hs
    have e : (Fo.cons v ka kc ks rest).depth = max (ks.depth + 1) rest.depth := rfl
    rw [e]
    unfold wkF
    by_cases h1 : max s d ≤ 40
    · rw [if_pos (decide_eq_true h1)]
      obtain ⟨k1, k2⟩ := ihk ka (d + 1) (max s d) (by omega) (by omega) h1
      by_cases h2 : d + 1 + ks.depth ≤ 41
      · rw [if_pos (k2.2 h2)]
        obtain ⟨X, hX⟩ : ∃ X, (wkF (fun s (e : El) => max s e.d) (fun s e => decide (max s e.d ≤ 40)) ka ks (d + 1) (max s d)).1 = X := ⟨_, rfl⟩
        rw [hX] at k1
        have hX1 : X = max s (d + ks.depth) := by omega
        obtain ⟨r1, r2⟩ := ihr (next10 a) d X h (by omega) (by omega)
        show (wkF _ _ _ _ _ (wkF (fun s (e : El) => max s e.d) (fun s e => decide (max s e.d ≤ 40)) ka ks (d + 1) (max s d)).1).1 = _ ∧ ((wkF _ _ _ _ _ (wkF (fun s (e : El) => max s e.d) (fun s e => decide (max s e.d ≤ 40)) ka ks (d + 1) (max s d)).1).2 = true ↔ _)
        rw [hX, r1, r2, hX1]
        clear hX r1 r2 k1 k2 ihk ihr hX1
        generalize ks.depth = A at *
        generalize rest.depth = B at *
        refine ⟨?_, ?_⟩
        · omega
        · omega
      · have h2' : ¬ (wkF (fun s (e : El) => max s e.d) (fun s e => decide (max s e.d ≤ 40)) ka ks (d + 1) (max s d)).2 = true := fun x => h2 (k2.1 x)
        rw [if_neg h2']
        refine ⟨?_, ?_⟩
        · show (wkF (fun s (e : El) => max s e.d) (fun s e => decide (max s e.d ≤ 40)) ka ks (d + 1) (max s d)).1 = _
          rw [k1]
          clear k1 k2 ihk ihr h2'
          omega
        · show false = true ↔ _
          simp
          omega
    · rw [if_neg (by rw [decide_eq_true_eq]; exact h1)]
      refine ⟨?_, ?_⟩
      · show max s d = _
        clear ihk ihr
        omega
      · show false = true ↔ _
        simp
        omega

theorem wkFine (f : Fo) : ∀ (a : Option Addr) (d s : Nat), 1 ≤ d → d ≤ 41 → s ≤ 4000 → ((wkF (fun s _ => s + 1) (fun s e => decide (s + 1 ≤ 4000) && decide (e.d ≤ 40)) a f d s).2 = true ↔ (s + f.size ≤ 4000 ∧ (f.depth = 0 ∨ d + f.depth ≤ 41))) ∧ ((wkF (fun s _ => s + 1) (fun s e => decide (s + 1 ≤ 4000) && decide (e.d ≤ 40)) a f d s).2 = true → (wkF (fun s _ => s + 1) (fun s e => decide (s + 1 ≤ 4000) && decide (e.d ≤ 40)) a f d s).1 = s + f.size) := by
  induction f with
  | nil =>
    intro a d s h h' hs
    have e : (Fo.nil).depth = 0 := rfl
    have e2 : (Fo.nil).size = 0 := rfl
    rw [e, e2]
    exact ⟨by show true = true ↔ _; simp; omega, fun _ => rfl⟩
  | cons v ka kc ks rest ihk ihr =>
    intro a d s h h' hs
    have e : (Fo.cons v ka kc ks rest).depth = max (ks.depth + 1) rest.depth := rfl
    have e2 : (Fo.cons v ka kc ks rest).size = ks.size + 1 + rest.size := rfl
    rw [e, e2]
    unfold wkF
    by_cases h1 : s + 1 ≤ 4000 ∧ d ≤ 40
    · rw [if_pos (by simp only [Bool.and_eq_true, decide_eq_true_eq]; exact h1)]
      obtain ⟨k1, k2⟩ := ihk ka (d + 1) (s + 1) (by omega) (by omega) h1.1
      by_cases h2 : s + 1 + ks.size ≤ 4000 ∧ (ks.depth = 0 ∨ d + 1 + ks.depth ≤ 41)
      · have hb := k1.2 h2
        rw [if_pos hb, k2 hb]
        obtain ⟨r1, r2⟩ := ihr (next10 a) d (s + 1 + ks.size) h h' h2.1
        refine ⟨?_, fun x => ?_⟩
        · rw [r1]; omega
        · rw [r2 x]; omega
      · have h2' : ¬ (wkF (fun s (_ : El) => s + 1) (fun s e => decide (s + 1 ≤ 4000) && decide (e.d ≤ 40)) ka ks (d + 1) (s + 1)).2 = true := fun x => h2 (k1.1 x)
        rw [if_neg h2']
        refine ⟨?_, fun x => by simp at x⟩
        show false = true ↔ _
        simp
        omega
    · rw [if_neg (by simp only [Bool.and_eq_true, decide_eq_true_eq]; exact h1)]
      refine ⟨?_, fun x => by simp at x⟩
      show false = true ↔ _
      simp
      omega

theorem at_boxed (w : World) (v : NF) (s : Value) : At (boxed w v s) w.heap.size 0 (cellsN v s) := fun j hj => by rw [show 0 + j = j by omega, cell_box]; simp

theorem depth_any (f : Fo) (v : NF) (a : Option Addr) (c : Nat) (w : World) (hv : v.ok) (hin : In w a f) (hs : sok a f.len c) (hz : f.size ≤ 7000) :
    Calls Try.prog 12 #[nodeV v (.slice a f.len c)] w fun e w' => e = .returned (.int .i64 ((min (f.depth + 1) 41 : Nat) : Int)) ∧ Q w w' := by
  have HC := hideIt (walk_any (fun s e => max s e.d) (fun s e => decide (max s e.d ≤ 40)) (fun n s W => CI (boxed w v (.slice a f.len c)) (w.heap.size + 1) s W ∧ s ≤ 8000) 8000 31 #[.pointer (some ⟨w.heap.size + 1, 0, none⟩)] (boxed w v (.slice a f.len c)) ent31 (fun n s W h => h.1.q)
    (fun n s W b o v' ka kc ks d hn h _ _ _ _ _ hd => (cl31 _ _ s W _ d h.1 (by omega) (by omega)).mono fun e w' ⟨q1, q2⟩ => ⟨q1, q2, by show max s d ≤ 8000; omega⟩) (f.size + 1) f (by omega) v a c w.heap.size 0 1 0 0 _ (at_boxed w v _) hv (hin.keep (Nat.le_refl _) (boxed_q _ _ _)) hs ⟨CI.start w v _, by omega⟩ (by omega) (by omega) (by omega))
  have hm := (wkDepth (.cons v a c f .nil) (some ⟨w.heap.size, 0, none⟩) 1 0 (by omega) (by omega) (by omega)).1
  rw [hm] at HC
  clear hm hin hs
  have em : min (max 0 (1 + (Fo.cons v a c f .nil).depth - 1)) 41 = min (f.depth + 1) 41 := by simp [Fo.depth]
  rw [em] at HC
  obtain ⟨M, hM⟩ : ∃ M, min (f.depth + 1) 41 = M := ⟨_, rfl⟩
  rw [hM] at HC ⊢
  clear em hM
  go_enter Try.func12, Try.ntmps12
  go_wp2_with (go_at_call 29; refine HC.out.mono ?_; rintro e x ⟨n', h1, rfl, h2, h3⟩; have hcc := h2.cell; have HH := hideIt h2; clear h2 h1 h3)
  go_ret
  exact ⟨rfl, (boxed_q _ _ _).trans HH.out.q⟩

theorem fine_any (f : Fo) (v : NF) (a : Option Addr) (c : Nat) (w : World) (hv : v.ok) (hin : In w a f) (hs : sok a f.len c) (hz : f.size ≤ 7000) :
    Calls Try.prog 14 #[nodeV v (.slice a f.len c)] w fun e w' => e = .returned (.bool f.fine) ∧ Q w w' := by
  have HC := hideIt (walk_any (fun s _ => s + 1) (fun s e => decide (s + 1 ≤ 4000) && decide (e.d ≤ 40)) (fun n s W => CI (boxed w v (.slice a f.len c)) (w.heap.size + 1) s W ∧ s = n) 8000 33 #[.pointer (some ⟨w.heap.size + 1, 0, none⟩)] (boxed w v (.slice a f.len c)) ent33 (fun n s W h => h.1.q)
    (fun n s W b o v' ka kc ks d hn h _ _ _ _ _ hd => (cl33 _ _ s W _ d h.1 (by omega) (by omega)).mono fun e w' ⟨q1, q2⟩ => ⟨q1, q2, by omega⟩) (f.size + 1) f (by omega) v a c w.heap.size 0 1 0 0 _ (at_boxed w v _) hv (hin.keep (Nat.le_refl _) (boxed_q _ _ _)) hs ⟨CI.start w v _, rfl⟩ (by omega) (by omega) (by omega))
  have hm := (wkFine (.cons v a c f .nil) (some ⟨w.heap.size, 0, none⟩) 1 0 (by omega) (by omega) (by omega)).1
  have em : (wkF (fun s (_ : El) => s + 1) (fun s e => decide (s + 1 ≤ 4000) && decide (e.d ≤ 40)) (some ⟨w.heap.size, 0, none⟩) (.cons v a c f .nil) 1 0).2 = f.fine := by
    rw [Bool.eq_iff_iff, hm]
    unfold Fo.fine
    simp only [Fo.size, Fo.depth, Bool.and_eq_true, decide_eq_true_eq]
    omega
  rw [em] at HC
  clear hm em hin hs
  generalize f.fine = bb at HC ⊢
  go_enter Try.func14, Try.ntmps14
  go_wp2_with (go_at_call 29; refine HC.out.mono ?_; rintro e x ⟨n', h1, rfl, h2, h3⟩; have HH := hideIt h2; clear h2 h1 h3)
  go_ret
  exact ⟨rfl, (boxed_q _ _ _).trans HH.out.q⟩

end Go.Proofs.Ytioeoillogpdoaa
