/-
  The machine: a cell is written: a contract over the program; the conditions: the machine lies there.
-/
import Derived.Test.YtnlgkiejppgfjaaKVmI
import Derived.Test.YtnlgkiejppgfjaaKVmJ
namespace Go.Proofs.Ytnlgkiejppgfjaa
open Go.RowKit
set_option linter.unusedVariables false

section
variable {w w' w0 : World} {R : Nat} {col col' : Col} {im : PIm} {mn : Nat} {mem ce : List Int} {cls : List Cl} {W : Nat → List Int} {tr : List Int} {ex : Int} {cv kv tv : Value} {N : Nat}

theorem PL.mono (p : PL mem cls W ce tr N) {N' : Nat} (h : N ≤ N') (h' : N' ≤ 8388608) : PL mem cls W ce tr N' :=
  ⟨p.cez, p.cel, p.inn, p.own, fun k => Nat.le_trans (p.len k) h, p.ok, p.up, p.top, Nat.le_trans p.trl h, h', p.cll⟩
theorem MV.mono (m : MV w w0 R col im mem cls tr ex N) {N' : Nat} (h : N ≤ N') (h' : N' ≤ 8388608) : MV w w0 R col im mem cls tr ex N' := by
  obtain ⟨ce, W, cv, kv, tv, h1, p⟩ := m
  exact ⟨ce, W, cv, kv, tv, h1, p.mono h h'⟩
theorem PL.ups (p : PL mem cls W ce tr N) : ∀ (m i : Nat) (c d : Cl), cls[i]? = some c → cls[i + m]? = some d → c.ba ≤ d.ba := by
  intro m
  induction m with
  | zero => intro i c d hc hd; rw [Nat.add_zero, hc] at hd; obtain rfl := Option.some.inj hd; exact Nat.le_refl _
  | succ m ih =>
    intro i c d hc hd
    have := (List.getElem?_eq_some_iff.1 hd).1
    obtain ⟨e, he⟩ := get_of_lt (l := cls) (k := i + 1) (by omega)
    exact Nat.le_trans (p.up i c e hc he) (ih (i + 1) e d he (by rw [show i + 1 + m = i + (m + 1) by omega]; exact hd))

/-- What the lists say, a cell written. -/
theorem PL.put (p : PL mem cls W ce tr N) {i : Nat} {x o : Int} (ho : mem[i]? = some o) (hw : x = 0 ∨ o ≠ 0 ∨ ∀ (k : Nat) (c : Cl), cls[k]? = some c → i < c.ba) : PL (mem.set i x) cls W (ce.set i x) tr N := by
  have hi := (List.getElem?_eq_some_iff.1 ho).1
  obtain ⟨z, ez⟩ := p.cez
  refine ⟨⟨z, by rw [ez, List.set_append_left _ _ hi]⟩, by rw [List.length_set]; exact p.cel, fun k c e y hy => ?_, fun j y hj hy k c e hb hn => ?_, p.len, p.ok, p.up, fun k c e => by rw [List.length_set]; exact p.top k c e, p.trl, p.nle, p.cll⟩
  · rw [List.length_set]; exact p.inn k c e y hy
  · by_cases ej : i = j
    · subst ej
      rw [List.getElem?_set_self hi] at hj
      obtain rfl := Option.some.inj hj
      rcases hw with hw | hw | hw
      · exact absurd hw hy
      · exact p.own i o ho hw k c e hb hn
      · have := hw k c e; omega
    · rw [List.getElem?_set_ne ej] at hj
      exact p.own j y hj hy k c e hb hn
theorem PL.put2 (p : PL mem cls W ce tr N) {i r : Nat} {x o : Int} {c0 : Cl} (ho : mem[i]? = some o) (hr : cls[r]? = some c0) (hlo : c0.ba ≤ i) (hhi : ∀ (k : Nat) (c : Cl), cls[k]? = some c → r < k → i < c.ba) (hN : N + 1 ≤ 8388608) : PL (mem.set i x) cls (fun k => if k = r then W r ++ [(i : Int)] else W k) (ce.set i x) tr (N + 1) := by
  have hi := (List.getElem?_eq_some_iff.1 ho).1
  obtain ⟨z, ez⟩ := p.cez
  have hml := p.mle
  refine ⟨⟨z, by rw [ez, List.set_append_left _ _ hi]⟩, by rw [List.length_set]; exact p.cel, fun k c e y hy => ?_, fun j y hj hy k c e hb hn => ?_, fun k => ?_, p.ok, p.up, fun k c e => by rw [List.length_set]; exact p.top k c e, Nat.le_succ_of_le p.trl, hN, p.cll⟩
  · rw [List.length_set]
    by_cases ek : k = r
    · subst ek
      rw [if_pos rfl] at hy
      rw [hr] at e
      obtain rfl := Option.some.inj e
      rcases List.mem_append.1 hy with hy | hy
      · exact p.inn _ _ hr y hy
      · simp at hy; exact ⟨i, hy, hlo, by omega⟩
    · rw [if_neg ek] at hy; exact p.inn k c e y hy
  · by_cases ej : i = j
    · subst ej
      have : k = r := by
        rcases Nat.lt_trichotomy k r with h | h | h
        · obtain ⟨d, hd⟩ := get_of_lt (l := cls) (k := k + 1) (by have := (List.getElem?_eq_some_iff.1 hr).1; omega)
          have h1 := hn d hd
          have h2 := p.ups (r - (k + 1)) (k + 1) d c0 hd (by rw [show k + 1 + (r - (k + 1)) = r by omega]; exact hr)
          omega
        · exact h
        · have := hhi k c e h; omega
      subst this
      rw [if_pos rfl]; simp
    · rw [List.getElem?_set_ne ej] at hj
      have := p.own j y hj hy k c e hb hn
      by_cases ek : k = r
      · subst ek; rw [if_pos rfl]; exact List.mem_append_left _ this
      · rw [if_neg ek]; exact this
  · have := p.len k
    by_cases ek : k = r
    · subst ek; rw [if_pos rfl, List.length_append]; simp; omega
    · rw [if_neg ek]; omega

/-- Whose a cell is. -/
def OwnP (C n : Nat) (cls : List Cl) (a : Nat) (w : World) : Ending → World → Prop := fun e w' => ∃ r : Nat, r ≤ n ∧ (∀ (i : Nat) (c : Cl), cls[i]? = some c → i < r → c.ba ≤ a) ∧ (∀ (i : Nat) (c : Cl), cls[i]? = some c → r ≤ i → a < c.ba) ∧ e = .returned (if r = 0 then .pointer none else .pointer (some ⟨C, (r - 1) * 24, none⟩)) ∧ Q w w'

set_option maxRecDepth 100000 in
set_option maxHeartbeats 1000000 in
theorem owner_any {C cap : Nat} {ks : Array Value} (h : MX w w0 R col im mn ce cls W tr ex cv (.slice (some ⟨C, 0, none⟩) cls.length cap) tv) (p : PL mem cls W ce tr N) (K : KS w w0.heap.size C cap ks col cls W) (a : Nat) :
    Calls Try.prog 48 #[.pointer (some ⟨R, 0, none⟩), .int .i64 (a : Int)] w (OwnP C cls.length cls a w) := by
  have hq : Q w ((w.alloc (.cells #[.pointer (some ⟨R, 0, none⟩)] 49)).alloc (.cells #[.int .i64 (a : Int)] 3)) := ((Q.refl w).alloc _).alloc _
  have ltR := h.ltR
  have c6 := cell_keep hq h.c0.2.2.2.2.2.2.1
  have b1 : ∀ x, Q ((w.alloc (.cells #[.pointer (some ⟨R, 0, none⟩)] 49)).alloc (.cells #[.int .i64 (a : Int)] 3)) x → x.cell? ⟨w.heap.size, 0, none⟩ = some (.pointer (some ⟨R, 0, none⟩)) ∧ x.cell? ⟨w.heap.size + 1, 0, none⟩ = some (.int .i64 (a : Int)) ∧ x.cell? ⟨R, 6, none⟩ = some (.slice (some ⟨C, 0, none⟩) cls.length cap) := fun x hx =>
    ⟨cell_keep hx ((cell_of_block (heap_old _ (heap_new w _)) 0).trans rfl), cell_keep hx ((cell_of_block (heap_at (by simp)) 0).trans rfl), cell_keep hx c6⟩
  have hcl := p.cll
  have HB := hideIt b1
  have CS := hideIt (search_any ((w.alloc (.cells #[.pointer (some ⟨R, 0, none⟩)] 49)).alloc (.cells #[.int .i64 (a : Int)] 3)) w.heap.size (w.heap.size + 1) cls.length (a : Int) (fun i => ((cls[i]?).map (fun c => (c.ba : Int))).getD 0) (by omega) (fun i j hij hj => by
    obtain ⟨c, hc⟩ := get_of_lt (show i < cls.length by omega)
    obtain ⟨d, hd⟩ := get_of_lt hj
    have := p.ups (j - i) i c d hc (by rw [show i + (j - i) = j by omega]; exact hd)
    simp only [hc, hd, Option.map_some, Option.getD_some]
    omega) (fun x hx i hi => by
    obtain ⟨c, hc⟩ := get_of_lt hi
    obtain ⟨-, q21, -⟩ := Cl.cs_pl (p.ok i c hc)
    obtain ⟨x1, x2, x3⟩ := HB.out x hx
    have := asks_any x w.heap.size (w.heap.size + 1) R C cls.length cap i (a : Int) (c.ba : Int) x1 x2 x3 hi (by omega) (cell_keep (hq.trans hx) (K.cell hc (by omega) q21))
    simp only [hc, Option.map_some, Option.getD_some]
    exact this))
  have FIN := hideIt (show ∀ r : Nat, r ≤ cls.length → (∀ i, i < r → ((cls[i]?).map (fun c => (c.ba : Int))).getD 0 ≤ (a : Int)) → (∀ i, r ≤ i → i < cls.length → (a : Int) < ((cls[i]?).map (fun c => (c.ba : Int))).getD 0) → (∀ (i : Nat) (c : Cl), cls[i]? = some c → i < r → c.ba ≤ a) ∧ (∀ (i : Nat) (c : Cl), cls[i]? = some c → r ≤ i → a < c.ba) from fun r _ h1 h2 => ⟨fun i c hc hi => by have := h1 i hi; rw [hc] at this; simpa using this, fun i c hc hi => by have := h2 i hi (List.getElem?_eq_some_iff.1 hc).1; rw [hc] at this; simpa using this⟩)
  obtain ⟨s1, s2, s3⟩ := b1 _ (Q.refl _)
  have HQ := hideIt hq
  clear h K b1 c6 p hq
  go_enter Try.func48, Try.ntmps48
  go_wp2_with (first | (go_at_call 55; refine CS.out.mono ?_; rintro e y ⟨r, hr, r1, r2, rfl, qy⟩; have HF := hideIt (And.intro (FIN.out r hr r1 r2) qy); obtain ⟨t1, t2, t3⟩ := HB.out y qy; clear r1 r2 qy; by_cases hr0 : r = 0) | fail)
  · subst hr0
    go_wp2_with (fail)
    go_ret
    exact ⟨0, hr, HF.out.1.1, HF.out.1.2, rfl, HQ.out.trans HF.out.2⟩
  · obtain ⟨k, rfl⟩ : ∃ k, r = k + 1 := ⟨r - 1, by omega⟩
    have hz : ((k : Int) + 1 == 0) = false := by simp; omega
    have z1 : IntKind.i64.wrap ((k : Int) + 1 - 1) = (k : Int) := by rw [IntKind.wrap_i64]; omega
    have z2 : IntKind.i64.wrap (k : Int) = (k : Int) := by rw [IntKind.wrap_i64]; omega
    have hkl : (k : Int) < (cls.length : Int) := by omega
    go_wp2_with (fail)
    go_ret
    exact ⟨k + 1, hr, HF.out.1.1, HF.out.1.2, rfl, HQ.out.trans HF.out.2⟩
end
end Go.Proofs.Ytnlgkiejppgfjaa
