/-
  What At answers: contracts over the program; the conditions: the argument is a tree of at most 7000 nodes that lies in memory.
-/
import Derived.Test.YtioeoillogpdoaaPartsA
namespace Go.Proofs.Ytioeoillogpdoaa
open Go.RowKit
set_option linter.unusedVariables false

def fp : Option El → Option Addr
  | none => none
  | some e => e.a
theorem fp_some {el : El} {b o : Nat} (ha : el.a = some ⟨b, o, none⟩) : (#[Value.pointer (fp (some el))] : Array Value)[0]? = some (.pointer (some ⟨b, o, none⟩)) := by simp [fp, ha]
/-- Where the closure keeps what it found (block pf) and the next number (block pn). -/
structure FI (W0 : World) (pf pn : Nat) (s : Fd) (w : World) : Prop where
  q : Q W0 w
  lof : W0.heap.size ≤ pf
  lon : W0.heap.size ≤ pn
  ne : pf ≠ pn
  ok : ∀ e, s.2 = some e → ∃ b o, e.a = some ⟨b, o, none⟩ ∧ At W0 b o (cellsN e.v (.slice e.ka e.ks.len e.kc)) ∧ sok e.ka e.ks.len e.kc ∧ In W0 e.ka e.ks
  cf : w.heap[pf]? = some (.cells #[.pointer (fp s.2)] 50 (0, 0))
  cn : w.heap[pn]? = some (.cells #[.int .i64 s.1] 3 (0, 0))

theorem FI.step {W0 w : World} {pf pn : Nat} {s : Fd} {id : Int} {e : El} {b o : Nat} (h : FI W0 pf pn s w) (ha : e.a = some ⟨b, o, none⟩) (hat : At W0 b o (cellsN e.v (.slice e.ka e.ks.len e.kc))) (hsk : sok e.ka e.ks.len e.kc) (hin : In W0 e.ka e.ks) (hs : (s.1 : Int) = id) : FI W0 pf pn (fdSt id s e) ((w.setCell ⟨pf, 0, none⟩ (.pointer (some ⟨b, o, none⟩))).setCell ⟨pn, 0, none⟩ (.int .i64 (s.1 + 1))) := by
  have e1 : fdSt id s e = (s.1 + 1, some e) := by simp [fdSt, hs]
  rw [e1]
  refine ⟨(h.q.setCell h.lof _).setCell h.lon _, h.lof, h.lon, h.ne, fun x hx => by cases hx; exact ⟨b, o, ha, hat, hsk, hin⟩, ?_, ?_⟩
  · rw [Below.heap_setCell _ _ _ _ h.ne, block_setCell h.cf]
    simp [fp, ha]
  · have : (w.setCell ⟨pf, 0, none⟩ (.pointer (some ⟨b, o, none⟩))).heap[pn]? = some (.cells #[.int .i64 s.1] 3 (0, 0)) := by
      rw [Below.heap_setCell _ _ _ _ (Ne.symm h.ne)]
      exact h.cn
    rw [block_setCell this]
    rfl
theorem FI.pass {W0 w : World} {pf pn : Nat} {s : Fd} {id : Int} {e : El} (h : FI W0 pf pn s w) (hs : ¬ (s.1 : Int) = id) : FI W0 pf pn (fdSt id s e) (w.setCell ⟨pn, 0, none⟩ (.int .i64 (s.1 + 1))) := by
  have e1 : fdSt id s e = (s.1 + 1, s.2) := by simp [fdSt, hs]
  rw [e1]
  refine ⟨h.q.setCell h.lon _, h.lof, h.lon, h.ne, h.ok, ?_, ?_⟩
  · rw [Below.heap_setCell _ _ _ _ h.ne]
    exact h.cf
  · rw [block_setCell h.cn]
    rfl

theorem ent38 : ∀ args w, (callFunc 38 args).run Try.prog w = .ok (.enter 38 args) w := enters_of Try.func38 (by kernel_rfl) rfl

set_option maxRecDepth 100000 in
theorem cl38 (W0 : World) (pf pn pi : Nat) (s : Fd) (id : Int) (w : World) (b o d : Nat) (v : NF) (ka : Option Addr) (kc : Nat) (ks : Fo) (hI : FI W0 pf pn s w) (hid : W0.cell? ⟨pi, 0, none⟩ = some (.int .i64 id)) (hs : s.1 ≤ 100000) (hat : At W0 b o (cellsN v (.slice ka ks.len kc))) (hsk : sok ka ks.len kc) (hin : In W0 ka ks) :
    Calls Try.prog 38 #[.pointer (some ⟨b, o, none⟩), .int .i64 d, .pointer (some ⟨pn, 0, none⟩), .pointer (some ⟨pi, 0, none⟩), .pointer (some ⟨pf, 0, none⟩)] w fun e w' => e = .returned (.bool (fdGo id s ⟨some ⟨b, o, none⟩, v, ka, kc, ks, d⟩)) ∧ FI W0 pf pn (fdSt id s ⟨some ⟨b, o, none⟩, v, ka, kc, ks, d⟩) w' := by
  have c1 : w.cell? ⟨pn, 0, none⟩ = some (.int .i64 s.1) := by rw [cell_of_block hI.cn]; rfl
  have c2 : w.cell? ⟨pf, 0, none⟩ = some (.pointer (fp s.2)) := by rw [cell_of_block hI.cf]; rfl
  have hpi : pi < W0.heap.size := World.block_lt_of_cell? W0 _ hid
  have c3 : w.cell? ⟨pi, 0, none⟩ = some (.int .i64 id) := (hI.q.cell (p := ⟨pi, 0, none⟩) hpi).trans hid
  have f1 : w.frozen? ⟨pn, 0, none⟩ = false := free_of_block hI.cn 0
  have f2 : w.frozen? ⟨pf, 0, none⟩ = false := free_of_block hI.cf 0
  have hne := hI.ne
  have hne' : pn ≠ pf := fun h => hne h.symm
  have HI := hideIt hI
  have HT := hideIt (And.intro hat (And.intro hsk hin))
  clear hid hpi hI hat hsk hin
  by_cases hs : (s.1 : Int) = id
  · have hg : fdGo id s ⟨some ⟨b, o, none⟩, v, ka, kc, ks, d⟩ = false := by simp [fdGo, hs]
    rw [hg]
    have HS := hideIt hs
    have hb : (((s.1 : Nat) : Int) == id) = true := by simpa using hs
    clear hs hg
    go_enter Try.func38, Try.ntmps38
    go_wp2_with (fail)
    go_ret
    exact ⟨rfl, HI.out.step rfl HT.out.1 HT.out.2.1 HT.out.2.2 HS.out⟩
  · have hb : (((s.1 : Nat) : Int) == id) = false := by simpa using hs
    have HS := hideIt hs
    clear hs
    go_enter Try.func38, Try.ntmps38
    go_wp2_with (fail)
    go_ret
    refine ⟨?_, HI.out.pass HS.out⟩
    have e1 : fdGo id s ⟨some ⟨b, o, none⟩, v, ka, kc, ks, d⟩ = (fp s.2).isNone := by
      simp only [fdGo, decide_eq_false HS.out, Bool.not_false, Bool.true_and]
      cases h : s.2 with
      | none => rfl
      | some e =>
        obtain ⟨b, o, ha, _⟩ := HI.out.ok e h
        simp [fp, ha]
    rw [e1]
    rfl

theorem get_size (f : Fo) : ∀ (i : Nat) (v : NF) (a : Option Addr) (c : Nat) (k : Fo), f.flat.get i = some (v, a, c, k) → k.size < f.size := by
  induction f with
  | nil => intro i v a c k h; simp [Fo.flat, Fo.get] at h
  | cons x xa xc xk r ihk ihr =>
    intro i v a c k h
    cases i with
    | zero =>
      simp only [Fo.flat, Fo.get, Option.some.injEq, Prod.mk.injEq] at h
      obtain ⟨rfl, rfl, rfl, rfl⟩ := h
      simp only [Fo.size]
      omega
    | succ i =>
      simp only [Fo.flat, Fo.get] at h
      rw [get_app] at h
      simp only [Fo.size]
      split at h
      · have := ihk i v a c k h
        omega
      · have := ihr _ v a c k h
        omega

/-- The world in which At begins to look. -/
abbrev atW (w : World) (v : NF) (s : Value) (id : Int) : World := ((boxed w v s).alloc (.cells #[.int .i64 id] 3)).alloc (.cells (cellsN (nf 0 0) (.slice none 0 0)).toArray 26)
theorem atW_q (w : World) (v : NF) (s : Value) (id : Int) : Q w (atW w v s id) := ((boxed_q w v s).alloc (by simp) _).alloc (by simp; omega) _
theorem atW_n (w : World) (v : NF) (s : Value) (id : Int) : At (atW w v s id) w.heap.size 0 (cellsN v s) := (at_boxed w v s).keep (Nat.le_refl _) (((Below.refl _ _).alloc (Nat.le_refl _) _).alloc (by simp) _)
theorem atW_blocks (w : World) (v : NF) (s : Value) (id : Int) : (atW w v s id).heap[w.heap.size + 1]? = some (.cells #[.int .i64 id] 3 (0, 0)) ∧ (atW w v s id).heap[w.heap.size + 1 + 1]? = some (.cells (cellsN (nf 0 0) (.slice none 0 0)).toArray 26 (0, 0)) := by
  constructor
  · rw [Below.heap_alloc _ _ _ (by simp)]
    simpa using heap_alloc_new (boxed w v s) (.cells #[.int .i64 id] 3 (0, 0))
  · simpa using heap_alloc_new ((boxed w v s).alloc (.cells #[.int .i64 id] 3)) (.cells (cellsN (nf 0 0) (.slice none 0 0)).toArray 26 (0, 0))

theorem zero_ten {w x : World} {v : NF} {s : Value} {id : Int} (h : Q (atW w v s id) x) : x.cell? ⟨w.heap.size + 1 + 1, 0, none⟩ = some (.int .u8 0) ∧ x.cell? ⟨w.heap.size + 1 + 1, 1, none⟩ = some (.int .u8 0) ∧ x.cell? ⟨w.heap.size + 1 + 1, 2, none⟩ = some (.int .u8 0) ∧ x.cell? ⟨w.heap.size + 1 + 1, 3, none⟩ = some (.int .u8 0) ∧ x.cell? ⟨w.heap.size + 1 + 1, 4, none⟩ = some (.int .i64 0) ∧ x.cell? ⟨w.heap.size + 1 + 1, 5, none⟩ = some (.int .i64 0) ∧ x.cell? ⟨w.heap.size + 1 + 1, 6, none⟩ = some (.int .i64 0) ∧ x.cell? ⟨w.heap.size + 1 + 1, 7, none⟩ = some (.string ⟨#[]⟩) ∧ x.cell? ⟨w.heap.size + 1 + 1, 8, none⟩ = some (.string ⟨#[]⟩) ∧ x.cell? ⟨w.heap.size + 1 + 1, 9, none⟩ = some (.slice none 0 0) := by
  have hb := (atW_blocks w v s id).2
  have hb2 := (h.block _ (lt_of_block hb)).trans hb
  refine ⟨?_, ?_, ?_, ?_, ?_, ?_, ?_, ?_, ?_, ?_⟩ <;> rw [cell_of_block hb2] <;> rfl
theorem zero_free {w x : World} {v : NF} {s : Value} {id : Int} (h : Q (atW w v s id) x) : ∀ j, x.frozen? ⟨w.heap.size + 1 + 1, j, none⟩ = false := by
  have hb := (atW_blocks w v s id).2
  have hb2 := (h.block _ (lt_of_block hb)).trans hb
  exact free_of_block hb2

/-- What At answers. -/
def AtSaid (f : Fo) (v : NF) (a : Option Addr) (c : Nat) (id : Int) (w : World) (e : Ending) (w' : World) : Prop :=
  Q w w' ∧ ((f.fine = false ∧ e = .returned (.tuple #[nodeV (nf 0 0) (.slice none 0 0), .int .i64 2])) ∨
    (f.fine = true ∧ (id < 0 ∨ (f.size : Int) + 1 ≤ id) ∧ e = .returned (.tuple #[nodeV (nf 0 0) (.slice none 0 0), .int .i64 12])) ∨
    (∃ (i : Nat) (v' : NF) (ka : Option Addr) (kc : Nat) (k : Fo) (a' : Option Addr) (c' : Nat) (k' : Fo), f.fine = true ∧ id = i ∧ (Fo.cons v a c f .nil).flat.get i = some (v', ka, kc, k) ∧ e = .returned (.tuple #[nodeV v' (.slice a' k.len c'), .int .i64 0]) ∧ Cp k k' ∧ sok a' k.len c' ∧ In w' a' k'))

set_option maxRecDepth 100000 in
set_option maxHeartbeats 2000000 in
theorem at_any (f : Fo) (v : NF) (a : Option Addr) (c : Nat) (id : Int) (w : World) (hv : v.ok) (hin : In w a f) (hs : sok a f.len c) (hz : f.size ≤ 7000) (hid : -9223372036854775808 ≤ id ∧ id ≤ 9223372036854775807) :
    Calls Try.prog 18 #[nodeV v (.slice a f.len c), .int .i64 id] w fun e w' => AtSaid f v a c id w e w' := by
  have HF := hideIt (fine_any f v a c (atW w v (.slice a f.len c) id) hv (hin.keep (Nat.le_refl _) (atW_q _ _ _ _)) hs hz)
  cases hfi : f.fine with
  | false =>
    rw [hfi] at HF
    have HFI := hideIt hfi
    clear hin hs hfi
    go_enter Try.func18, Try.ntmps18
    go_wp2_with (go_at_call 14; refine HF.out.mono ?_; rintro e x ⟨rfl, q1⟩; obtain ⟨g0, g1, g2, g3, g4, g5, g6, g7, g8, g9⟩ := zero_ten q1; have gf := zero_free q1; have gf0 := gf 0; have gf1 := gf 1; have gf2 := gf 2; have gf3 := gf 3; have gf4 := gf 4; have gf5 := gf 5; have gf6 := gf 6; have gf7 := gf 7; have gf8 := gf 8; have gf9 := gf 9; clear gf; have HX := hideIt q1; clear q1)
    refine bodyPost_ret (v := .tuple #[nodeV (nf 0 0) (.slice none 0 0), .int .i64 2]) (by simp [results, Try.results18, go_sem, *, nf]) rfl ⟨?_, Or.inl ⟨HFI.out, rfl⟩⟩
    repeat (refine Below.setCell ?_ (by simp <;> omega) _)
    exact (atW_q _ _ _ _).trans HX.out
  | true =>
    rw [hfi] at HF
    have HFI := hideIt hfi
    have HC : Hid (∀ X, Q (atW w v (.slice a f.len c) id) X → Calls Try.prog 29 #[.pointer (some ⟨w.heap.size, 0, none⟩), .int .i64 1, .func (.func 38) #[] #[.pointer (some ⟨X.heap.size + 1, 0, none⟩), .pointer (some ⟨w.heap.size + 1, 0, none⟩), .pointer (some ⟨X.heap.size, 0, none⟩)]] ((X.alloc (.cells #[.pointer none] 50)).alloc (.cells #[.int .i64 0] 3)) fun e w' => e = .returned (.bool (wkF (fdSt id) (fdGo id) (some ⟨w.heap.size, 0, none⟩) (.cons v a c f .nil) 1 (0, none)).2) ∧ FI (atW w v (.slice a f.len c) id) X.heap.size (X.heap.size + 1) (wkF (fdSt id) (fdGo id) (some ⟨w.heap.size, 0, none⟩) (.cons v a c f .nil) 1 (0, none)).1 w') := fun X hX => by
      have hfi0 : FI (atW w v (.slice a f.len c) id) X.heap.size (X.heap.size + 1) (0, none) ((X.alloc (.cells #[.pointer none] 50)).alloc (.cells #[.int .i64 0] 3)) := by
        refine ⟨(hX.alloc hX.size _).alloc (by have := hX.size; simp at this ⊢; omega) _, hX.size, by have := hX.size; omega, by omega, (fun e h => by cases h), ?_, ?_⟩
        · rw [Below.heap_alloc _ _ _ (by simp)]
          exact heap_alloc_new X _
        · simpa using heap_alloc_new (X.alloc (.cells #[.pointer none] 50)) (.cells #[.int .i64 0] 3 (0, 0))
      have hidc : (atW w v (.slice a f.len c) id).cell? ⟨w.heap.size + 1, 0, none⟩ = some (.int .i64 id) := by rw [cell_of_block (atW_blocks _ _ _ _).1]; rfl
      have := walk_any (fdSt id) (fdGo id) (fun n s W => FI (atW w v (.slice a f.len c) id) X.heap.size (X.heap.size + 1) s W ∧ s.1 = n) 8000 38 #[.pointer (some ⟨X.heap.size + 1, 0, none⟩), .pointer (some ⟨w.heap.size + 1, 0, none⟩), .pointer (some ⟨X.heap.size, 0, none⟩)] (atW w v (.slice a f.len c) id) ent38 (fun n s W h => h.1.q)
        (fun n s W b o v' ka kc ks d hn h hat hv' hsk hin' _ hd => (cl38 _ _ _ (w.heap.size + 1) s id W b o d v' ka kc ks h.1 hidc (by omega) hat hsk hin').mono fun e w' ⟨q1, q2⟩ => ⟨q1, q2, by show s.1 + 1 = _; omega⟩) (f.size + 1) f (by omega) v a c w.heap.size 0 1 0 (0, none) _ (atW_n w v _ id) hv (hin.keep (Nat.le_refl _) (atW_q _ _ _ _)) hs ⟨hfi0, rfl⟩ (by omega) (by omega) (by omega)
      exact this.mono fun e w' ⟨n', _, h2, h3, _⟩ => ⟨h2, h3⟩
    obtain ⟨w1, w2⟩ := wkFd id (.cons v a c f .nil) (some ⟨w.heap.size, 0, none⟩) 1 0
    have es : (Fo.cons v a c f .nil).size = f.size + 1 := rfl
    by_cases hr : id < 0 ∨ (f.size : Int) + 1 ≤ id
    · rw [w1 (by rw [es]; omega)] at HC
      have HR := hideIt hr
      clear hin hs hfi w1 w2 es hr
      go_enter Try.func18, Try.ntmps18
      go_wp2_with (first | (go_at_call 14; refine HF.out.mono ?_; rintro e x ⟨rfl, q1⟩; have HX := hideIt q1; clear q1) | (go_at_call 29; refine (HC.out x HX.out).mono ?_; rintro e y ⟨rfl, hI⟩; have cf : y.cell? ⟨x.heap.size, 0, none⟩ = some (.pointer none) := (cell_of_block hI.cf 0).trans rfl; obtain ⟨g0, g1, g2, g3, g4, g5, g6, g7, g8, g9⟩ := zero_ten hI.q; have gf := zero_free hI.q; have gf0 := gf 0; have gf1 := gf 1; have gf2 := gf 2; have gf3 := gf 3; have gf4 := gf 4; have gf5 := gf 5; have gf6 := gf 6; have gf7 := gf 7; have gf8 := gf 8; have gf9 := gf 9; clear gf; have HY := hideIt hI.q; clear hI))
      refine bodyPost_ret (v := .tuple #[nodeV (nf 0 0) (.slice none 0 0), .int .i64 12]) (by simp [results, Try.results18, go_sem, *, nf]) rfl ⟨?_, Or.inr (Or.inl ⟨HFI.out, HR.out, rfl⟩)⟩
      repeat (refine Below.setCell ?_ (by simp <;> omega) _)
      exact (atW_q _ _ _ _).trans HY.out
    · obtain ⟨i, hi⟩ : ∃ i : Nat, id = i := ⟨id.toNat, by omega⟩
      obtain ⟨el, s', q1, q2⟩ := w2 i (by omega) (by rw [es]; omega)
      rw [q1] at HC
      have hsz := get_size _ i _ _ _ _ q2
      rw [es] at hsz
      have HG := hideIt q2
      have HII := hideIt hi
      clear hin hs hfi w1 w2 es hr q1 q2 hi
      go_enter Try.func18, Try.ntmps18
      go_wp2_with (first | (go_at_call 14; refine HF.out.mono ?_; rintro e x ⟨rfl, q1⟩; have HX := hideIt q1; clear q1) | (go_at_call 29; refine (HC.out x HX.out).mono ?_; rintro e y ⟨rfl, hI⟩; obtain ⟨b, o, ha, hat, hsk, hin'⟩ := hI.ok el rfl; have cf : y.cell? ⟨x.heap.size, 0, none⟩ = some (.pointer (some ⟨b, o, none⟩)) := (cell_of_block hI.cf 0).trans (fp_some ha); obtain ⟨c0, c1, c2, c3, c4, c5, c6, c7, c8, c9⟩ := (hat.keep (Nat.le_refl _) hI.q).ten; have HK := hideIt (copy_any el.ks el.v el.ka el.kc y (hin'.keep (Nat.le_refl _) hI.q) hsk (by omega)); have HY := hideIt hI.q; clear hI hat hin' hsk ha) | (go_at_call 25; refine HK.out.mono ?_; rintro e u ⟨a', c', k', rfl, p1, p2, p3, p4, p5, p6⟩; have hu := HY.out.trans p6; obtain ⟨g0, g1, g2, g3, g4, g5, g6, g7, g8, g9⟩ := zero_ten hu; have gf := zero_free hu; have gf0 := gf 0; have gf1 := gf 1; have gf2 := gf 2; have gf3 := gf 3; have gf4 := gf 4; have gf5 := gf 5; have gf6 := gf 6; have gf7 := gf 7; have gf8 := gf 8; have gf9 := gf 9; clear gf; have HU := hideIt hu; have HP := hideIt (And.intro p1 (And.intro p2 (And.intro p3 p4))); clear hu p1 p2 p3 p4 p5 p6))
      have hlo : Lo (w.heap.size + 1 + 1 + 1) a' k' := HP.out.2.2.2.mono (by have := HY.out.size; simp at this; omega)
      refine bodyPost_ret (v := .tuple #[nodeV el.v (.slice a' el.ks.len c'), .int .i64 0]) (by simp [results, Try.results18, go_sem, *]) rfl ⟨?_, Or.inr (Or.inr ⟨i, el.v, el.ka, el.kc, el.ks, a', c', k', HFI.out, HII.out, HG.out, rfl, HP.out.1, HP.out.2.1, ?_⟩)⟩
      · repeat (refine Below.setCell ?_ (by simp <;> omega) _)
        exact (atW_q _ _ _ _).trans HU.out
      · repeat (refine In.setCell (B := w.heap.size + 1 + 1 + 1) (by simp <;> omega) ?_ hlo)
        exact HP.out.2.2.1
end Go.Proofs.Ytioeoillogpdoaa
