/-
  The machine: a cell is written: a contract over the program; the conditions: the machine lies there.
-/
import Derived.Test.YtnlgkiejppgfjaaKVmK
namespace Go.Proofs.Ytnlgkiejppgfjaa
open Go.RowKit
set_option linter.unusedVariables false

theorem one_i64 (x : Int) : ∀ u ∈ ([.int .i64 x] : List Value), u.oneCell' = true := fun u hu => by simp at hu; subst hu; rfl

section
variable {w w' w0 : World} {R : Nat} {col col' : Col} {im : PIm} {mn : Nat} {mem ce : List Int} {cls : List Cl} {W : Nat → List Int} {tr : List Int} {ex : Int} {cv kv tv : Value} {N : Nat}

theorem store_bad (hm : MV w w0 R col im mem cls tr ex N) (a x : Int) (hin : inM mem a = false) :
    Calls Try.prog 41 #[.pointer (some ⟨R, 0, none⟩), .int .i64 a, .int .i64 x] w fun e w' => e = .returned (.int .u8 5) ∧ w' = w := by
  obtain ⟨ce, W, cv, kv, tv, h, p⟩ := hm
  have CH := hideIt (has_any w R (mem.length : Int) a h.c0.2.1)
  rw [show (decide (0 ≤ a) && decide (a < (mem.length : Int))) = false from hin] at CH
  clear h p hin
  go_enter Try.func41, Try.ntmps41
  go_wp2_with (first | (go_at_call 47; refine CH.out.mono ?_; rintro e y ⟨rfl, rfl⟩) | fail)
  go_ret
  exact ⟨rfl, rfl⟩

set_option maxHeartbeats 1000000 in
/-- Nothing is to be remembered. -/
theorem store_plain (hm : MV w w0 R col im mem cls tr ex N) (i : Nat) (x o : Int) (ho : mem[i]? = some o) (hw : x = 0 ∨ o ≠ 0) :
    Calls Try.prog 41 #[.pointer (some ⟨R, 0, none⟩), .int .i64 (i : Int), .int .i64 x] w fun e w' => e = .returned (.int .u8 0) ∧ MV w' w0 R col im (mem.set i x) cls tr ex N ∧ Ex col w col w' := by
  obtain ⟨ce, W, cv, kv, tv, h, p⟩ := hm
  have hi := (List.getElem?_eq_some_iff.1 ho).1
  have CH := hideIt (has_any w R (mem.length : Int) (i : Int) h.c0.2.1)
  rw [show (decide ((0 : Int) ≤ (i : Int)) && decide ((i : Int) < (mem.length : Int))) = true by simp; omega] at CH
  obtain ⟨g, cap, cur, e1, e2, e3, -, -⟩ := row_at h.ce (p.ce_at ho)
  subst e1
  have c0 := h.c0.1
  have ci : w.cell? ⟨g, i, none⟩ = some (.int .i64 o) := (cell_of_block e2 i).trans e3
  have fi : w.frozen? ⟨g, i, none⟩ = false := free_of_block e2 i
  have hl : (i : Int) < (ce.length : Int) := by have := p.mle; omega
  obtain ⟨m1, m2⟩ := h.setE i x
  rw [List.length_set] at m1
  have HM := hideIt (show MV (w.setCell ⟨g, i, none⟩ (.int .i64 x)) w0 R col im (mem.set i x) cls tr ex N ∧ Ex col w col (w.setCell ⟨g, i, none⟩ (.int .i64 x)) from ⟨⟨ce.set i x, W, .slice (some ⟨g, 0, none⟩) ce.length cap, kv, tv, by rw [List.length_set]; exact m1, p.put ho (hw.imp id .inl)⟩, m2⟩)
  clear h p e2 e3 m1 m2
  by_cases hx : x = 0
  · subst hx
    go_enter Try.func41, Try.ntmps41
    go_wp2_with (first | (go_at_call 47; refine CH.out.mono ?_; rintro e y ⟨rfl, rfl⟩) | fail)
    go_ret
    exact ⟨rfl, HM.out⟩
  · have hd : (x != 0) = true := by simpa using hx
    have hd2 : (o == 0) = false := by simpa using (hw.resolve_left hx)
    go_enter Try.func41, Try.ntmps41
    go_wp2_with (first | (go_at_call 47; refine CH.out.mono ?_; rintro e y ⟨rfl, rfl⟩) | fail)
    go_ret
    exact ⟨rfl, HM.out⟩

theorem PL.count (p : PL mem cls W ce tr N) (a : Nat) : ∀ n, n ≤ cls.length → ∃ r, r ≤ n ∧ (∀ (i : Nat) (c : Cl), cls[i]? = some c → i < r → c.ba ≤ a) ∧ (∀ (i : Nat) (c : Cl), cls[i]? = some c → r ≤ i → i < n → a < c.ba) := by
  intro n
  induction n with
  | zero => intro _; exact ⟨0, Nat.le_refl _, fun i c _ h => by omega, fun i c _ _ h => by omega⟩
  | succ n ih =>
    intro hn
    obtain ⟨r, h1, h2, h3⟩ := ih (by omega)
    obtain ⟨d, hd⟩ := get_of_lt (l := cls) (k := n) (by omega)
    by_cases hb : d.ba ≤ a
    · refine ⟨n + 1, Nat.le_refl _, fun i c hc hi => ?_, fun i c _ _ h => by omega⟩
      have := p.ups (n - i) i c d hc (by rw [show i + (n - i) = n by omega]; exact hd)
      omega
    · refine ⟨r, by omega, h2, fun i c hc h4 h5 => ?_⟩
      by_cases e : i = n
      · subst e; rw [hd] at hc; obtain rfl := Option.some.inj hc; omega
      · exact h3 i c hc h4 (by omega)
theorem owner_at {C cap : Nat} {ks : Array Value} (h : MX w w0 R col im mn ce cls W tr ex cv (.slice (some ⟨C, 0, none⟩) cls.length cap) tv) (p : PL mem cls W ce tr N) (K : KS w w0.heap.size C cap ks col cls W) (a r : Nat) (hr : r ≤ cls.length) (h1 : ∀ (i : Nat) (c : Cl), cls[i]? = some c → i < r → c.ba ≤ a) (h2 : ∀ (i : Nat) (c : Cl), cls[i]? = some c → r ≤ i → a < c.ba) :
    Calls Try.prog 48 #[.pointer (some ⟨R, 0, none⟩), .int .i64 (a : Int)] w fun e w' => e = .returned (if r = 0 then .pointer none else .pointer (some ⟨C, (r - 1) * 24, none⟩)) ∧ Q w w' := by
  refine (owner_any h p K a).mono ?_
  rintro e y ⟨q, q1, q2, q3, rfl, q4⟩
  have : q = r := by
    rcases Nat.lt_trichotomy q r with hlt | hlt | hlt
    · obtain ⟨c, hc⟩ := get_of_lt (show q < cls.length by omega)
      have := h1 q c hc hlt; have := q3 q c hc (Nat.le_refl _); omega
    · exact hlt
    · obtain ⟨c, hc⟩ := get_of_lt (show r < cls.length by omega)
      have := h2 r c hc (Nat.le_refl _); have := q2 r c hc hlt; omega
  subst this
  exact ⟨rfl, q4⟩

set_option maxRecDepth 100000 in
set_option maxHeartbeats 2000000 in
/-- It is remembered, or it is a global's. -/
theorem store_new (hm : MV w w0 R col im mem cls tr ex N) (hn : cls.length ≠ 0) (hN : N + 1 ≤ 8388608) (i : Nat) (x : Int) (ho : mem[i]? = some 0) (hx : x ≠ 0) :
    Calls Try.prog 41 #[.pointer (some ⟨R, 0, none⟩), .int .i64 (i : Int), .int .i64 x] w fun e w' => e = .returned (.int .u8 0) ∧ ∃ col', MV w' w0 R col' im (mem.set i x) cls tr ex (N + 1) ∧ Ex col w col' w' := by
  obtain ⟨ce, W, cv, kv, tv, h, p⟩ := hm
  obtain ⟨C, ccap, ks, rfl, K, neC⟩ := h.kopen hn
  have neC' : ¬ R = C := fun q => neC q.symm
  have hi := (List.getElem?_eq_some_iff.1 ho).1
  have CH := hideIt (has_any w R (mem.length : Int) (i : Int) h.c0.2.1)
  rw [show (decide ((0 : Int) ≤ (i : Int)) && decide ((i : Int) < (mem.length : Int))) = true by simp; omega] at CH
  obtain ⟨g, cap, cur, e1, e2, e3, -, -⟩ := row_at h.ce (p.ce_at ho)
  subst e1
  have c0 := h.c0.1
  have ci : w.cell? ⟨g, i, none⟩ = some (.int .i64 0) := (cell_of_block e2 i).trans e3
  have hl : (i : Int) < (ce.length : Int) := by have := p.mle; omega
  have hd : (x != 0) = true := by simpa using hx
  obtain ⟨r, hr, r1, r2'⟩ := p.count i cls.length (Nat.le_refl _)
  have r2 : ∀ (j : Nat) (c : Cl), cls[j]? = some c → r ≤ j → i < c.ba := fun j c e hj => r2' j c e hj (List.getElem?_eq_some_iff.1 e).1
  have CO := hideIt (owner_at h p K i r hr r1 r2)
  have HR := hideIt (And.intro r1 r2)
  have hg := h.cec g rfl
  have neg : ∀ k : Nat, C ≠ g := fun _ q => by have := K.colC; rw [q, hg] at this; cases this
  have neCg : ¬ C = g := neg 0
  have negC : ¬ g = C := fun q => neCg q.symm
  have neRg : ¬ R = g := fun q => by have := h.colR; rw [q, hg] at this; cases this
  have F0 := hideIt (show ∀ y, Q w y → (∀ (j : Nat) (c : Cl), cls[j]? = some c → 0 ≤ j → i < c.ba) → y.cell? ⟨R, 0, none⟩ = some (.slice (some ⟨g, 0, none⟩) ce.length cap) ∧ y.cell? ⟨g, i, none⟩ = some (.int .i64 0) ∧ y.frozen? ⟨g, i, none⟩ = false ∧ ∃ col', MV (y.setCell ⟨g, i, none⟩ (.int .i64 x)) w0 R col' im (mem.set i x) cls tr ex (N + 1) ∧ Ex col w col' (y.setCell ⟨g, i, none⟩ (.int .i64 x)) from fun y hy hno => by
    have h1 := h.keep hy
    have bg := (hy.block g (lt_of_some e2)).trans e2
    obtain ⟨m1, m2⟩ := h1.setE i x
    rw [List.length_set] at m1
    exact ⟨h1.c0.1, (cell_of_block bg i).trans e3, free_of_block bg i, col, ⟨ce.set i x, W, .slice (some ⟨g, 0, none⟩) ce.length cap, _, tv, by rw [List.length_set]; exact m1, (p.put ho (.inr (.inr (fun k c e => hno k c e (Nat.zero_le _))))).mono (Nat.le_succ N) hN⟩, (Ex.q hy).trans m2⟩)
  obtain ⟨i0, hi0, hz0, hz1, hz2⟩ := info_parts infoInt
  have F1 := hideIt (show ∀ y (r : Nat), Q w y → r + 1 ≤ cls.length → (∀ (j : Nat) (c : Cl), cls[j]? = some c → j < r + 1 → c.ba ≤ i) → (∀ (j : Nat) (c : Cl), cls[j]? = some c → r + 1 ≤ j → i < c.ba) → ∃ wa wl wc, y.cell? ⟨C, r * 24 + 23, none⟩ = some (.slice wa wl wc) ∧ ∃ g2 cap2 X, (Builtin.append_ #[23, 23] 23 #[.slice wa wl wc, .slice (some ⟨y.heap.size, 0, none⟩) 1 1]).run Try.prog (y.alloc (.cells #[.int .i64 (i : Int)] 3)) = .ok (.slice (some ⟨g2, 0, none⟩) (wl + 1) cap2) X ∧
      X.cell? ⟨C, r * 24 + 23, none⟩ = some (.slice wa wl wc) ∧ X.frozen? ⟨C, r * 24 + 23, none⟩ = false ∧ X.cell? ⟨R, 0, none⟩ = some (.slice (some ⟨g, 0, none⟩) ce.length cap) ∧ X.cell? ⟨g, i, none⟩ = some (.int .i64 0) ∧ X.frozen? ⟨g, i, none⟩ = false ∧ ∃ col', MV ((X.setCell ⟨C, r * 24 + 23, none⟩ (.slice (some ⟨g2, 0, none⟩) (wl + 1) cap2)).setCell ⟨g, i, none⟩ (.int .i64 x)) w0 R col' im (mem.set i x) cls tr ex (N + 1) ∧ Ex col w col' ((X.setCell ⟨C, r * 24 + 23, none⟩ (.slice (some ⟨g2, 0, none⟩) (wl + 1) cap2)).setCell ⟨g, i, none⟩ (.int .i64 x)) from fun y r hy hr hlo hhi => by
    have hyq : Q w (y.alloc (.cells #[.int .i64 (i : Int)] 3)) := hy.alloc _
    have h1 := h.keep hyq
    have K1 := K.keep (w' := y.alloc (.cells #[.int .i64 (i : Int)] 3)) (col' := col) (hyq.block C (lt_of_some K.blk)) (fun b _ hb _ => hyq.block b hb) (fun _ _ => rfl)
    have hrc : r < ccap := by have := K.le; omega
    obtain ⟨wv, s1, s2, s3⟩ := K1.slot r hrc
    obtain ⟨wa, wc, rfl, -, -⟩ := own_form s2
    have hlen := p.len r
    obtain ⟨g2, cap2, X, r1, r2, r3, r4, r5⟩ := run_append_lies (P := Try.prog) (y.alloc (.cells #[.int .i64 (i : Int)] 3)) 23 23 w0.heap.size 3 i0 (.int .i64 0) 1 8 Try.underlying23 hi0 hz0 hz1 hz2 rfl (by decide) _ (W r).length (rowI (W r)) s2 ⟨y.heap.size, 0, none⟩ 1 1 [.int .i64 (i : Int)] rfl (World.news_of_block (heap_new y _)) (one_i64 _) (by decide) (by unfold maxLen; omega) (by omega) h1.bel.size _ rfl
    have r2' : X.ownsRow w0.heap.size 3 1 (.slice (some ⟨g2, 0, none⟩) ((W r).length + 1) cap2) (W r ++ [(i : Int)]).length (rowI (W r ++ [(i : Int)])) := by rw [rowI_app, List.length_append]; exact r2
    obtain ⟨bC, bR, bE, col', m1, m2⟩ := h1.growW K1 hrc s1 r3 r2' ⟨g2, rfl, r4.imp id (fun e => by rw [e]; exact Nat.le_refl _)⟩
    obtain ⟨c0r, hc0⟩ := get_of_lt (show r < cls.length by omega)
    have bg : X.heap[g]? = some (.cells cur 2 (0, 0)) := (bE g rfl).trans ((hyq.block g (lt_of_some e2)).trans e2)
    have bR' : X.heap[R]? = _ := bR.trans h1.blk
    obtain ⟨n1, n2⟩ := m1.setE i x
    rw [List.length_set] at n1
    refine ⟨wa, (W r).length, wc, ?_, g2, cap2, X, r1, (cell_of_block bC _).trans s1, free_of_block bC _, cell_of_block bR' 0, (cell_of_block bg i).trans e3, free_of_block bg i, col', ⟨ce.set i x, _, .slice (some ⟨g, 0, none⟩) ce.length cap, _, tv, by rw [List.length_set]; exact n1, p.put2 ho hc0 (hlo r c0r hc0 (by omega)) (fun k c e hk => hhi k c e (by omega)) hN⟩, ((Ex.q hyq).trans m2).trans n2⟩
    have bCy : y.heap[C]? = some (.cells ks 86 (0, 0)) := (hy.block C (lt_of_some K.blk)).trans K.blk
    exact (cell_of_block bCy _).trans s1)
  clear h p K e2 e3 hi0 hz0 hz1 hz2 hg r1 r2 r2'
  by_cases hr0 : r = 0
  · subst hr0
    simp only [if_true] at CO
    go_enter Try.func41, Try.ntmps41
    go_wp2_with (first | (go_at_call 47; refine CH.out.mono ?_; rintro e y ⟨rfl, rfl⟩) | (go_at_call 48; refine CO.out.mono ?_; rintro e y ⟨rfl, qy⟩; obtain ⟨k1, k2, k3, k4⟩ := F0.out y qy HR.out.2; have K4 := hideIt k4; clear k4 qy) | fail)
    go_ret
    exact ⟨rfl, K4.out⟩
  · obtain ⟨k, rfl⟩ : ∃ k, r = k + 1 := ⟨r - 1, by omega⟩
    simp only [hr0, if_false, Nat.add_sub_cancel] at CO
    go_enter Try.func41, Try.ntmps41
    go_wp2_with (first | (go_at_call 47; refine CH.out.mono ?_; rintro e y ⟨rfl, rfl⟩) | (go_at_call 48; refine CO.out.mono ?_; rintro e y2 ⟨rfl, qy⟩; obtain ⟨wa, wl, wc, k1, g2, cap2, X, hrun, k2, k3, k4, k5, k6, k7⟩ := F1.out y2 k qy hr HR.out.1 HR.out.2; have K7 := hideIt k7; have HRUN := hideIt hrun; clear k7 hrun qy) | (at_builtin; refine wpList_append_run (by rfl) (.tmp 36) (.tmp 38) 23 23 (by rfl) _ _ (by rfl) (by rfl) _ _ HRUN.out ?_) | fail)
    go_ret
    exact ⟨rfl, K7.out⟩
end
end Go.Proofs.Ytnlgkiejppgfjaa
