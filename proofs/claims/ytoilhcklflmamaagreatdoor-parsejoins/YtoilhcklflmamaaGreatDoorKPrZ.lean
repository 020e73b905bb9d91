/-
  What Parse's deferred function does with a reader that gave up, and with none: contracts over the program; the conditions: the two results that it writes lie in memory.
  The tokens of a text that has them are well formed, so the plain reader may read them; no program; no conditions but those that each fact bears.
  What Parse answers: contracts over the program; the conditions: the lists of the program hold what its text says.
-/
import Derived.Test.YtoilhcklflmamaaGreatDoorKPrX
import Derived.Defers
import Derived.Recover
import Derived.Test.YtoilhcklflmamaaGreatDoorKRdD
import Derived.Test.YtoilhcklflmamaaGreatDoorKLexC
namespace Go.Proofs.YtoilhcklflmamaaGreatDoor
open Go.RowKit
open Pr
set_option linter.unusedVariables false

theorem slots (a b V : Value) : (#[a, b] ++ (Array.replicate 20 undef).setIfInBounds 5 V : Array Value) = #[a, b, undef, undef, undef, undef, undef, V, undef, undef, undef, undef, undef, undef, undef, undef, undef, undef, undef, undef, undef, undef] := by
  simp [Array.replicate, List.replicate]

theorem asLongLong (z : Int) (w : World) : (Instr.typeAssert (.iface 46 (.int .i64 z)) 20 46 true).run Tryz.prog w = .ok (.tuple #[.int .i64 z, .bool true]) w := by kernel_rfl
theorem asLongDeep (z : Int) (w : World) : (Instr.typeAssert (.iface 46 (.int .i64 z)) 20 47 true).run Tryz.prog w = .ok (.tuple #[.int .i64 0, .bool false]) w := by kernel_rfl
theorem asLongText (z : Int) (w : World) : (Instr.typeAssert (.iface 46 (.int .i64 z)) 20 48 true).run Tryz.prog w = .ok (.tuple #[.int .i64 0, .bool false]) w := by kernel_rfl
theorem asDeepLong (z : Int) (w : World) : (Instr.typeAssert (.iface 47 (.int .i64 z)) 20 46 true).run Tryz.prog w = .ok (.tuple #[.int .i64 0, .bool false]) w := by kernel_rfl
theorem asDeepDeep (z : Int) (w : World) : (Instr.typeAssert (.iface 47 (.int .i64 z)) 20 47 true).run Tryz.prog w = .ok (.tuple #[.int .i64 z, .bool true]) w := by kernel_rfl
theorem asDeepText (z : Int) (w : World) : (Instr.typeAssert (.iface 47 (.int .i64 z)) 20 48 true).run Tryz.prog w = .ok (.tuple #[.int .i64 0, .bool false]) w := by kernel_rfl
theorem asTextLong (z : Int) (w : World) : (Instr.typeAssert (.iface 48 (.int .i64 z)) 20 46 true).run Tryz.prog w = .ok (.tuple #[.int .i64 0, .bool false]) w := by kernel_rfl
theorem asTextDeep (z : Int) (w : World) : (Instr.typeAssert (.iface 48 (.int .i64 z)) 20 47 true).run Tryz.prog w = .ok (.tuple #[.int .i64 0, .bool false]) w := by kernel_rfl
theorem asTextText (z : Int) (w : World) : (Instr.typeAssert (.iface 48 (.int .i64 z)) 20 48 true).run Tryz.prog w = .ok (.tuple #[.int .i64 z, .bool true]) w := by kernel_rfl

set_option maxRecDepth 100000 in
set_option maxHeartbeats 1000000 in
theorem catch_idle (pa pe : Nat) (w : World) :
    CallsD Tryz.prog 20 #[.pointer (some ⟨pa, 0, none⟩), .pointer (some ⟨pe, 0, none⟩)] .returning w fun e u' w' => e = .returned (.tuple #[]) ∧ u' = .returning ∧ w' = w := by
  refine callsD_of_wpS Tryz.func20 rfl fun c₀ cs hu => ?_
  apply wpS_seq
  apply wpS_region
  simp [wpOpsS, go_sem, recoverD, hu, Tryz.ntmps20, Exit.thenS]
  rw [slots]
  refine wpS_of_wp ?_
  go_wp2_with (fail)
  cases c₀
  simp_all [bodyPostS, results, Tryz.results20]

set_option maxRecDepth 100000 in
set_option maxHeartbeats 1000000 in
theorem catchLong (pa pe p : Nat) (x y : Int) (w : World) (h1 : w.cell? ⟨pa, 0, none⟩ = some (.int .i64 x)) (h2 : w.cell? ⟨pe, 0, none⟩ = some (.int .i64 y)) (f1 : w.frozen? ⟨pa, 0, none⟩ = false) (f2 : w.frozen? ⟨pe, 0, none⟩ = false) (hne : ¬ pa = pe) :
    CallsD Tryz.prog 20 #[.pointer (some ⟨pa, 0, none⟩), .pointer (some ⟨pe, 0, none⟩)] (.panicking ({ v := .iface 46 (.int .i64 (p : Int)), recovered := false } :: [])) w fun e u' w' =>
      e = .returned (.tuple #[]) ∧ u' = .panicking ({ v := .iface 46 (.int .i64 (p : Int)), recovered := true } :: []) ∧ w' = (w.setCell ⟨pa, 0, none⟩ (.int .i64 (p : Int))).setCell ⟨pe, 0, none⟩ (.int .i64 2) := by
  have t1 := asLongLong
  have t2 := asLongDeep
  have t3 := asLongText
  refine callsD_of_wpS Tryz.func20 rfl fun c₀ cs hu => ?_
  apply wpS_seq
  apply wpS_region
  simp [wpOpsS, go_sem, recoverD, hu, Tryz.ntmps20, Exit.thenS]
  rw [slots]
  refine wpS_of_wp ?_
  go_wp2_with (fail)
  cases c₀
  simp_all [bodyPostS, results, Tryz.results20]

set_option maxRecDepth 100000 in
set_option maxHeartbeats 1000000 in
theorem catchDeep (pa pe p : Nat) (x y : Int) (w : World) (h1 : w.cell? ⟨pa, 0, none⟩ = some (.int .i64 x)) (h2 : w.cell? ⟨pe, 0, none⟩ = some (.int .i64 y)) (f1 : w.frozen? ⟨pa, 0, none⟩ = false) (f2 : w.frozen? ⟨pe, 0, none⟩ = false) (hne : ¬ pa = pe) :
    CallsD Tryz.prog 20 #[.pointer (some ⟨pa, 0, none⟩), .pointer (some ⟨pe, 0, none⟩)] (.panicking ({ v := .iface 47 (.int .i64 (p : Int)), recovered := false } :: [])) w fun e u' w' =>
      e = .returned (.tuple #[]) ∧ u' = .panicking ({ v := .iface 47 (.int .i64 (p : Int)), recovered := true } :: []) ∧ w' = (w.setCell ⟨pa, 0, none⟩ (.int .i64 (p : Int))).setCell ⟨pe, 0, none⟩ (.int .i64 4) := by
  have t1 := asDeepLong
  have t2 := asDeepDeep
  have t3 := asDeepText
  refine callsD_of_wpS Tryz.func20 rfl fun c₀ cs hu => ?_
  apply wpS_seq
  apply wpS_region
  simp [wpOpsS, go_sem, recoverD, hu, Tryz.ntmps20, Exit.thenS]
  rw [slots]
  refine wpS_of_wp ?_
  go_wp2_with (fail)
  cases c₀
  simp_all [bodyPostS, results, Tryz.results20]

set_option maxRecDepth 100000 in
set_option maxHeartbeats 1000000 in
theorem catchText (pa pe p : Nat) (x y : Int) (w : World) (h1 : w.cell? ⟨pa, 0, none⟩ = some (.int .i64 x)) (h2 : w.cell? ⟨pe, 0, none⟩ = some (.int .i64 y)) (f1 : w.frozen? ⟨pa, 0, none⟩ = false) (f2 : w.frozen? ⟨pe, 0, none⟩ = false) (hne : ¬ pa = pe) :
    CallsD Tryz.prog 20 #[.pointer (some ⟨pa, 0, none⟩), .pointer (some ⟨pe, 0, none⟩)] (.panicking ({ v := .iface 48 (.int .i64 (p : Int)), recovered := false } :: [])) w fun e u' w' =>
      e = .returned (.tuple #[]) ∧ u' = .panicking ({ v := .iface 48 (.int .i64 (p : Int)), recovered := true } :: []) ∧ w' = (w.setCell ⟨pa, 0, none⟩ (.int .i64 (p : Int))).setCell ⟨pe, 0, none⟩ (.int .i64 5) := by
  have t1 := asTextLong
  have t2 := asTextDeep
  have t3 := asTextText
  refine callsD_of_wpS Tryz.func20 rfl fun c₀ cs hu => ?_
  apply wpS_seq
  apply wpS_region
  simp [wpOpsS, go_sem, recoverD, hu, Tryz.ntmps20, Exit.thenS]
  rw [slots]
  refine wpS_of_wp ?_
  go_wp2_with (fail)
  cases c₀
  simp_all [bodyPostS, results, Tryz.results20]

end Go.Proofs.YtoilhcklflmamaaGreatDoor

namespace Go.Proofs.YtoilhcklflmamaaGreatDoor
set_option linter.unusedVariables false
open Pr

theorem lex_place : ∀ (k : Nat) (l : List UInt8), l.length ≤ k → ∀ at_ q, q ∈ (Lx.lex at_ l).1 → q.2 + q.1.text.length ≤ at_ + l.length := by
  intro k
  induction k with
  | zero =>
    intro l hk at_ q hq
    have : l = [] := List.eq_nil_of_length_eq_zero (by omega)
    subst this
    simp [Lx.lex_nil] at hq
  | succ k ih =>
    intro l hk at_ q hq
    by_cases hl : l = []
    · subst hl
      simp [Lx.lex_nil] at hq
    · have hl1 : 1 ≤ l.length := List.length_pos_iff.2 hl
      by_cases hb : Lx.blankN l = 0
      · cases ht : Lx.tok l with
        | none => rw [Lx.lex_none _ _ hb hl ht] at hq; simp at hq
        | some t =>
          have hn := Lx.tok_len ht
          have hd : (l.drop t.text.length).length = l.length - t.text.length := List.length_drop
          rw [Lx.lex_tok _ _ _ hb ht] at hq
          simp only [List.mem_cons] at hq
          rcases hq with rfl | hq
          · show at_ + t.text.length ≤ at_ + l.length; omega
          · have := ih (l.drop t.text.length) (by omega) (at_ + t.text.length) q hq
            omega
      · have hd : (l.drop (Lx.blankN l)).length = l.length - Lx.blankN l := List.length_drop
        rw [Lx.lex_blank _ _ hb] at hq
        have h0 := ih (l.drop (Lx.blankN l)) (by omega) (at_ + Lx.blankN l) q hq
        have hle : Lx.blankN l ≤ l.length := by
          unfold Lx.blankN
          split
          · exact Lx.lineN_le l
          · split
            · omega
            · split
              · simp
              · omega
        omega

theorem first_plain {c : UInt8} {l : List UInt8} (h : c ≠ 40 ∧ c ≠ 123 ∧ c ≠ 91 ∧ c ≠ 41 ∧ c ≠ 125 ∧ c ≠ 93) : opensB (c :: l) = false ∧ closesB (c :: l) = false := by
  obtain ⟨h1, h2, h3, h4, h5, h6⟩ := h
  unfold opensB closesB
  simp [h1, h2, h3, h4, h5, h6]
theorem tok_plain {l : List UInt8} {t : Lx.Tk} (h : Lx.tok l = some t) (hk : t.kind = 1 ∨ t.kind = 3) : opensB t.text = false ∧ closesB t.text = false := by
  have hn := Lx.tok_len h
  cases l with
  | nil => simp [Lx.tok] at h
  | cons c l =>
    have e : t.text = c :: (t.text.tail) := by
      have h2 := hn.2.1
      have h1 := hn.1
      cases ht : t.text with
      | nil => rw [ht] at h1; simp at h1
      | cons d r =>
        rw [ht] at h2
        simp only [List.length_cons, List.take_succ_cons, List.cons.injEq] at h2
        simp [h2.1]
    rw [e]
    simp only [Lx.tok] at h
    apply first_plain
    by_cases h1 : Lx.letter c = true
    · simp only [Lx.letter, Bool.and_eq_true, decide_eq_true_eq] at h1
      refine ⟨?_, ?_, ?_, ?_, ?_, ?_⟩ <;> (rintro rfl; revert h1; decide)
    · by_cases h2 : Lx.numC c = true
      · refine ⟨?_, ?_, ?_, ?_, ?_, ?_⟩ <;> (rintro rfl; revert h2; decide)
      · rw [if_neg h1, if_neg h2] at h
        exfalso
        unfold Lx.signT at h
        split at h
        · obtain rfl := Option.some.inj h
          simp at hk
        · split at h
          · obtain rfl := Option.some.inj h
            simp at hk
          · cases h

theorem toks_wf (l : List UInt8) (hl : l.length ≤ 65536) : Wf ⟨toks l, 0, 0⟩ := by
  have each := fun q hq => Lx.lex_each l.length l (Nat.le_refl _) 0 q hq
  refine ⟨⟨(Lx.lex 0 l).1, (endTk, l.length), rfl, rfl, rfl, fun q hq => ?_⟩, fun q hq => ?_, Nat.zero_le _⟩
  · obtain ⟨l', h1, _⟩ := each q hq
    have := Lx.tok_len h1
    omega
  · have hq' : q ∈ (Lx.lex 0 l).1 ∨ q = (endTk, l.length) := by simpa [toks] using hq
    rcases hq' with hq' | rfl
    · obtain ⟨l', h1, _⟩ := each q hq'
      have hn := Lx.tok_len h1
      have hp := lex_place l.length l (Nat.le_refl _) 0 q hq'
      exact ⟨by omega, by omega, ⟨by omega, by omega⟩, by omega, by omega, fun hk => tok_plain h1 hk⟩
    · exact ⟨by simp [endTk], by simp [endTk], by simp [endTk], by simp [endTk], hl, fun hk => by simp [endTk] at hk⟩

end Go.Proofs.YtoilhcklflmamaaGreatDoor

namespace Go.Proofs.YtoilhcklflmamaaGreatDoor
open Go.RowKit
open Pr
set_option linter.unusedVariables false

theorem LaidP.keep {w w' : World} (h : LaidP w) (q : Q w w') : LaidP w' := by
  obtain ⟨⟨⟨t, fr, h1⟩, ⟨t', fr', h2⟩⟩, ⟨t2, fr2, h3⟩⟩ := h
  exact ⟨⟨⟨t, fr, (q.block _ (lt_of_heap h1)).trans h1⟩, ⟨t', fr', (q.block _ (lt_of_heap h2)).trans h2⟩⟩, ⟨t2, fr2, (q.block _ (lt_of_heap h3)).trans h3⟩⟩
theorem LaidP.pos {w : World} (h : LaidP w) : 1 ≤ w.heap.size := by
  obtain ⟨t2, fr2, h3⟩ := h.b
  have := lt_of_heap h3
  omega
theorem three {w x : World} {A B C : Array Value} {ta tb tc : TypeId} (q : Q (((w.alloc (.cells A ta)).alloc (.cells B tb)).alloc (.cells C tc)) x) :
    x.heap[w.heap.size]? = some (.cells A ta (0, 0)) ∧ x.heap[w.heap.size + 1]? = some (.cells B tb (0, 0)) ∧ x.heap[w.heap.size + 1 + 1]? = some (.cells C tc (0, 0)) := by
  have s1 : (w.alloc (.cells A ta)).heap.size = w.heap.size + 1 := by simp
  have s2 : ((w.alloc (.cells A ta)).alloc (.cells B tb)).heap.size = w.heap.size + 1 + 1 := by simp
  have s3 : (((w.alloc (.cells A ta)).alloc (.cells B tb)).alloc (.cells C tc)).heap.size = w.heap.size + 1 + 1 + 1 := by simp
  refine ⟨?_, ?_, ?_⟩
  · rw [q.block _ (by omega), Below.heap_alloc _ _ _ (by omega), Below.heap_alloc _ _ _ (by omega)]
    exact heap_alloc_new w _
  · rw [q.block _ (by omega), Below.heap_alloc _ _ _ (by omega), ← s1]
    exact heap_alloc_new _ _
  · rw [q.block _ (by omega), ← s2]
    exact heap_alloc_new _ _
theorem Fr.toQ {w x y : World} {R : Nat} (h1 : Q w x) (h2 : Fr R x y) (hR : w.heap.size ≤ R) : Q w y :=
  ⟨h2.os.trans h1.os, h2.tape.trans h1.tape, h2.output.trans h1.output, Nat.le_trans h1.size h2.size, fun k hk => (h2.block k (Nat.lt_of_lt_of_le hk h1.size) (fun e => by cases e; omega)).trans (h1.block k hk)⟩
/-- The program of tokens, as the plain reader reads it. -/
def prog (L : List Tok) : Rs Nd := (nodeM ⟨L, 0, 0⟩).bnd fun _ s => rd (10 * L.length + 13) (.items .nil) s
theorem prog_post (l : List UInt8) (hl : l.length ≤ 65536) : Ok (prog (toks l)) (fun x s' => Wf s' ∧ s'.c = x.2.size + 1 ∧ s'.o = 0 ∧ x.1.ok) := by
  unfold prog
  refine node_k (toks_wf l hl) (fun s' h1 h2 h3 h4 => ?_)
  refine (rd_ok _ (.items .nil) s' h1 trivial (by rw [h2]; simp only [rank]; omega)).mono (fun x s2 p => ?_)
  have c := p.c
  have o := p.o
  simp only [lo, e1, od, Fo.size] at c o
  exact ⟨p.wf, by rw [h3] at c; simp at c; omega, by rw [h4] at o; simpa using o, p.ok⟩

theorem RD.start {x : World} {g cap : Nat} {l : List UInt8} (hl : l.length ≤ 65536) (ht : Tks x g cap (toks l)) (hL : LaidP x) (h4 : 4 ≤ x.heap.size) (hn : (toks l).length ≤ 70000) :
    RD (x.alloc (.cells #[.slice (some ⟨g, 0, none⟩) (toks l).length cap, .int .i64 0, .int .i64 0, .int .i64 0] 50)) x.heap.size g cap (toks l) ⟨toks l, 0, 0⟩ := by
  have hq : Q x (x.alloc (.cells #[.slice (some ⟨g, 0, none⟩) (toks l).length cap, .int .i64 0, .int .i64 0, .int .i64 0] 50)) := (Q.refl x).alloc _
  refine ⟨⟨?_, ht.keep hq, ht.lt, hL.keep hq, h4⟩, ⟨[], rfl⟩, toks_wf l hl, hn, ?_⟩
  · have e : (pos (toks l) ⟨toks l, 0, 0⟩ : Nat) = 0 := Nat.sub_self _
    rw [e]
    exact heap_alloc_new x _
  · have e : (pos (toks l) ⟨toks l, 0, 0⟩ : Nat) = 0 := Nat.sub_self _
    rw [e]
    exact ⟨Int.le_refl _, Int.le_refl _⟩

set_option maxRecDepth 100000 in
set_option maxHeartbeats 2000000 in
theorem parse_bad (s : ByteArray) (w : World) (hL : LaidP w) (hs : s.size ≤ 65536) (h : (Lx.lex 0 (bl s)).2 = none) (hn : (toks (bl s)).length ≤ 70000) (k p : Nat) (hb : prog (toks (bl s)) = .bad k p) :
    Calls Tryz.prog 9 #[.string s] w fun e w' => e = .returned (.tuple #[nodeV (nk 0) (.slice none 0 0), .int .i64 (p : Int), .int .i64 (k : Int)]) ∧ Q w w' := by
  have hmf : ∀ (fn : Fn) (first cap : Array Value) (w : World), (Instr.makeFunc fn first cap).run Tryz.prog w = .ok (.func fn first cap) w := fun _ _ _ _ => rfl
  have HX : Hid (∀ X, Q w X → _) := fun X q => lex_ok s X hs (hL.keep q).a h
  have HP := hideIt (fun (R g cap : Nat) => program_all R g cap (toks (bl s)) (10 * (toks (bl s)).length + 13) ⟨toks (bl s), 0, 0⟩ (show prog (toks (bl s)) ≠ .out by rw [hb]; exact fun e => by cases e))
  have HB := hideIt hb
  have HLD := hideIt hL
  have hp1 := hL.pos
  have hl : (bl s).length ≤ 65536 := by rw [bl_len]; exact hs
  have HK : Hid (k = 2 ∨ k = 4 ∨ k = 5) := by
    have := prog_post (bl s) hl
    rw [hb] at this
    exact this.1
  clear hL hb h
  go_enter_defers Tryz.func9, Tryz.ntmps9
  go_wp2_with (first | (go_at_call 19; refine Calls.mono (HX.out _ ((((Q.refl w).alloc _).alloc _).alloc _)) ?_; rintro e x1 ⟨g, cap, rfl, hg, ht, q1⟩; have TK := hideIt ht; have Q1 := hideIt q1; have Z1 : w.heap.size + 1 + 1 + 1 ≤ x1.heap.size := (by have z := q1.size; (try simp at z); omega); have T3 := hideIt (three q1); have m1 := cell_of_block T3.out.2.1 0; have m2 := cell_of_block T3.out.2.2 0; have g1 := free_of_block T3.out.2.1 0; have g2 := free_of_block T3.out.2.2 0; have e1 := setCell_same (j := 0) (u := .int .i64 0) T3.out.2.1 rfl; have e2 := setCell_same (j := 0) (u := .int .i64 0) T3.out.2.2 rfl; have l1 : w.heap.size + 1 < x1.heap.size := (by omega); have l2 : w.heap.size + 1 + 1 < x1.heap.size := (by omega); have QW1 := hideIt ((((Q.refl w).alloc _).alloc _).alloc _ |>.trans q1); have RS := hideIt (RD.start hl TK.out (HLD.out.keep ((((Q.refl w).alloc _).alloc _).alloc _ |>.trans q1)) (by omega) hn); clear HX ht q1) | (go_at_call 21; refine Calls.mono (badc HB.out (HP.out x1.heap.size g cap _ RS.out)) ?_; rintro e x2 ⟨rfl, f2⟩; have F2 := hideIt f2; clear f2) | fail)
  have N0 : Bx x2 w.heap.size (nk 0) (.slice none 0 0) := Fr.kept (R := x1.heap.size) ((Below.heap_alloc x1 _ _ (by omega)).trans T3.out.1) (by omega) F2.out
  have b1 := Fr.kept (R := x1.heap.size) ((Below.heap_alloc x1 _ _ (by omega)).trans T3.out.2.1) (by omega) F2.out
  have b2 := Fr.kept (R := x1.heap.size) ((Below.heap_alloc x1 _ _ (by omega)).trans T3.out.2.2) (by omega) F2.out
  obtain ⟨n0, n1, n2, n3, n4, n5, n6, n7, n8, n9⟩ := N0.ten
  have c1 := cell_of_block b1 0
  have c2 := cell_of_block b2 0
  have z1 := free_of_block b1 0
  have z2 := free_of_block b2 0
  have QW : Q w x2 := Fr.toQ (QW1.out.alloc _) F2.out (by omega)
  refine leaves_cons (f := 20) (args := #[.pointer (some ⟨w.heap.size + 1, 0, none⟩), .pointer (some ⟨w.heap.size + 1 + 1, 0, none⟩)]) (by simp) (by simp [go_sem]) ?_
  have QE : ∀ u v : Value, Q w ((x2.setCell ⟨w.heap.size + 1, 0, none⟩ u).setCell ⟨w.heap.size + 1 + 1, 0, none⟩ v) := fun u v => (QW.setCell (by dsimp only; omega) u).setCell (by dsimp only; omega) v
  rcases HK.out with rfl | rfl | rfl
  · refine (catchLong (w.heap.size + 1) (w.heap.size + 1 + 1) p 0 0 x2 c1 c2 z1 z2 (by omega)).mono ?_
    rintro e u' w'' ⟨rfl, rfl, rfl⟩
    exact (by simp [Leaves, settle, results, Tryz.results9, go_sem, n0, n1, n2, n3, n4, n5, n6, n7, n8, n9, c1, c2, QE])
  · refine (catchDeep (w.heap.size + 1) (w.heap.size + 1 + 1) p 0 0 x2 c1 c2 z1 z2 (by omega)).mono ?_
    rintro e u' w'' ⟨rfl, rfl, rfl⟩
    exact (by simp [Leaves, settle, results, Tryz.results9, go_sem, n0, n1, n2, n3, n4, n5, n6, n7, n8, n9, c1, c2, QE])
  · refine (catchText (w.heap.size + 1) (w.heap.size + 1 + 1) p 0 0 x2 c1 c2 z1 z2 (by omega)).mono ?_
    rintro e u' w'' ⟨rfl, rfl, rfl⟩
    exact (by simp [Leaves, settle, results, Tryz.results9, go_sem, n0, n1, n2, n3, n4, n5, n6, n7, n8, n9, c1, c2, QE])

end Go.Proofs.YtoilhcklflmamaaGreatDoor
