/-
  The machine: a function is called: a contract over the program; the conditions: the machine lies there.
-/
import Derived.Test.YtnlgkiejppgfjaaKVmF
namespace Go.Proofs.Ytnlgkiejppgfjaa
open Go.RowKit
set_option linter.unusedVariables false

section
variable {w w' w0 : World} {R : Nat} {col col' : Col} {im : PIm} {mn : Nat} {mem ce : List Int} {cls : List Cl} {W : Nat → List Int} {tr : List Int} {ex : Int} {cv kv tv : Value} {N : Nat}

/-- A cell of a call that is open is written. -/
theorem MX.put {C cap n : Nat} {ks : Array Value} (h : MX w w0 R col im mn ce cls W tr ex cv (.slice (some ⟨C, 0, none⟩) n cap) tv) (hn : n = cls.length) (hk : KS w w0.heap.size C cap ks col cls W) {k j : Nat} {c c' : Cl} {u : Value} (hc : cls[k]? = some c) (hj : j < 23) (he : c'.cs = c.cs.set j u) :
    ∃ ks', MX (w.setCell ⟨C, k * 24 + j, none⟩ u) w0 R col im mn ce (cls.set k c') W tr ex cv (.slice (some ⟨C, 0, none⟩) n cap) tv ∧ KS (w.setCell ⟨C, k * 24 + j, none⟩ u) w0.heap.size C cap ks' col (cls.set k c') W ∧ Ex col w col (w.setCell ⟨C, k * 24 + j, none⟩ u) := by
  subst hn
  have hkl := (List.getElem?_eq_some_iff.1 hc).1
  have hsz : k * 24 + 24 ≤ ks.size := by have := hk.size; have := hk.le; omega
  obtain ⟨a, b, d⟩ := h.setK hk (i := k * 24 + j) (u := u) (cls' := cls.set k c') (by simp) (fun k' _ => by omega) (fun k' x hx j' y h23 hy => by
    by_cases e : k' = k
    · subst e
      rw [List.getElem?_set_self hkl] at hx
      obtain rfl := Option.some.inj hx
      rw [he] at hy
      by_cases ej : j = j'
      · subst ej
        have hjl : j < c.cs.length := by have := (List.getElem?_eq_some_iff.1 hy).1; simpa using this
        rw [List.getElem?_set_self hjl] at hy
        rw [Array.getElem?_setIfInBounds_self_of_lt (by omega)]; exact hy
      · rw [List.getElem?_set_ne ej] at hy
        rw [Array.getElem?_setIfInBounds_ne (by omega)]
        exact hk.call _ _ hc j' y h23 hy
    · rw [List.getElem?_set_ne (fun q => e q.symm)] at hx
      rw [Array.getElem?_setIfInBounds_ne (by omega)]
      exact hk.call k' x hx j' y h23 hy)
  rw [List.length_set] at a
  exact ⟨_, a, b, d⟩
theorem set_last (l : List Cl) (c c' : Cl) : (l ++ [c]).set l.length c' = l ++ [c'] := by
  rw [List.set_append_right _ _ (Nat.le_refl _), Nat.sub_self]; rfl
theorem get_last (l : List Cl) (c : Cl) : (l ++ [c])[l.length]? = some c := by
  rw [List.getElem?_append_right (Nat.le_refl _), Nat.sub_self]; rfl

/-- A call's place, base and so on are written, one behind the other. -/
theorem MX.begun {C cap : Nat} {ks : Array Value} (h : MX w w0 R col im mn ce (cls ++ [cl0]) W tr ex cv (.slice (some ⟨C, 0, none⟩) (cls.length + 1) cap) tv) (hk : KS w w0.heap.size C cap ks col (cls ++ [cl0]) W) (g0 g1 g2 g3 g4 g5 : Int) (pl ba an : Nat) :
    ∃ ks', MX (((((((((w.setCell ⟨C, cls.length * 24 + 8, none⟩ (.int .i64 g0)).setCell ⟨C, cls.length * 24 + 9, none⟩ (.int .i64 g1)).setCell ⟨C, cls.length * 24 + 10, none⟩ (.int .i64 g2)).setCell ⟨C, cls.length * 24 + 11, none⟩ (.int .i64 g3)).setCell ⟨C, cls.length * 24 + 12, none⟩ (.int .i64 g4)).setCell ⟨C, cls.length * 24 + 13, none⟩ (.int .i64 g5)).setCell ⟨C, cls.length * 24 + 20, none⟩ (.int .i64 (pl : Int))).setCell ⟨C, cls.length * 24 + 21, none⟩ (.int .i64 (ba : Int))).setCell ⟨C, cls.length * 24 + 22, none⟩ (.int .u8 (an : Int))) w0 R col im mn ce (cls ++ [⟨z8, [g0, g1, g2, g3, g4, g5], z6, pl, ba, an⟩]) W tr ex cv (.slice (some ⟨C, 0, none⟩) (cls.length + 1) cap) tv ∧
      KS (((((((((w.setCell ⟨C, cls.length * 24 + 8, none⟩ (.int .i64 g0)).setCell ⟨C, cls.length * 24 + 9, none⟩ (.int .i64 g1)).setCell ⟨C, cls.length * 24 + 10, none⟩ (.int .i64 g2)).setCell ⟨C, cls.length * 24 + 11, none⟩ (.int .i64 g3)).setCell ⟨C, cls.length * 24 + 12, none⟩ (.int .i64 g4)).setCell ⟨C, cls.length * 24 + 13, none⟩ (.int .i64 g5)).setCell ⟨C, cls.length * 24 + 20, none⟩ (.int .i64 (pl : Int))).setCell ⟨C, cls.length * 24 + 21, none⟩ (.int .i64 (ba : Int))).setCell ⟨C, cls.length * 24 + 22, none⟩ (.int .u8 (an : Int))) w0.heap.size C cap ks' col (cls ++ [⟨z8, [g0, g1, g2, g3, g4, g5], z6, pl, ba, an⟩]) W ∧
      Ex col w col (((((((((w.setCell ⟨C, cls.length * 24 + 8, none⟩ (.int .i64 g0)).setCell ⟨C, cls.length * 24 + 9, none⟩ (.int .i64 g1)).setCell ⟨C, cls.length * 24 + 10, none⟩ (.int .i64 g2)).setCell ⟨C, cls.length * 24 + 11, none⟩ (.int .i64 g3)).setCell ⟨C, cls.length * 24 + 12, none⟩ (.int .i64 g4)).setCell ⟨C, cls.length * 24 + 13, none⟩ (.int .i64 g5)).setCell ⟨C, cls.length * 24 + 20, none⟩ (.int .i64 (pl : Int))).setCell ⟨C, cls.length * 24 + 21, none⟩ (.int .i64 (ba : Int))).setCell ⟨C, cls.length * 24 + 22, none⟩ (.int .u8 (an : Int))) := by
  have ln : ∀ c : Cl, cls.length + 1 = (cls ++ [c]).length := fun c => by simp
  obtain ⟨k1, a1, b1, d1⟩ := h.put (ln _) hk (k := cls.length) (j := 8) (c' := ⟨z8, [g0, 0, 0, 0, 0, 0], z6, 0, 0, 0⟩) (u := .int .i64 g0) (get_last _ _) (by omega) rfl
  rw [set_last] at a1 b1
  obtain ⟨k2, a2, b2, d2⟩ := a1.put (ln _) b1 (k := cls.length) (j := 9) (c' := ⟨z8, [g0, g1, 0, 0, 0, 0], z6, 0, 0, 0⟩) (u := .int .i64 g1) (get_last _ _) (by omega) rfl
  rw [set_last] at a2 b2
  obtain ⟨k3, a3, b3, d3⟩ := a2.put (ln _) b2 (k := cls.length) (j := 10) (c' := ⟨z8, [g0, g1, g2, 0, 0, 0], z6, 0, 0, 0⟩) (u := .int .i64 g2) (get_last _ _) (by omega) rfl
  rw [set_last] at a3 b3
  obtain ⟨k4, a4, b4, d4⟩ := a3.put (ln _) b3 (k := cls.length) (j := 11) (c' := ⟨z8, [g0, g1, g2, g3, 0, 0], z6, 0, 0, 0⟩) (u := .int .i64 g3) (get_last _ _) (by omega) rfl
  rw [set_last] at a4 b4
  obtain ⟨k5, a5, b5, d5⟩ := a4.put (ln _) b4 (k := cls.length) (j := 12) (c' := ⟨z8, [g0, g1, g2, g3, g4, 0], z6, 0, 0, 0⟩) (u := .int .i64 g4) (get_last _ _) (by omega) rfl
  rw [set_last] at a5 b5
  obtain ⟨k6, a6, b6, d6⟩ := a5.put (ln _) b5 (k := cls.length) (j := 13) (c' := ⟨z8, [g0, g1, g2, g3, g4, g5], z6, 0, 0, 0⟩) (u := .int .i64 g5) (get_last _ _) (by omega) rfl
  rw [set_last] at a6 b6
  obtain ⟨k7, a7, b7, d7⟩ := a6.put (ln _) b6 (k := cls.length) (j := 20) (c' := ⟨z8, [g0, g1, g2, g3, g4, g5], z6, pl, 0, 0⟩) (u := .int .i64 (pl : Int)) (get_last _ _) (by omega) rfl
  rw [set_last] at a7 b7
  obtain ⟨k8, a8, b8, d8⟩ := a7.put (ln _) b7 (k := cls.length) (j := 21) (c' := ⟨z8, [g0, g1, g2, g3, g4, g5], z6, pl, ba, 0⟩) (u := .int .i64 (ba : Int)) (get_last _ _) (by omega) rfl
  rw [set_last] at a8 b8
  obtain ⟨k9, a9, b9, d9⟩ := a8.put (ln _) b8 (k := cls.length) (j := 22) (c' := ⟨z8, [g0, g1, g2, g3, g4, g5], z6, pl, ba, an⟩) (u := .int .u8 (an : Int)) (get_last _ _) (by omega) rfl
  rw [set_last] at a9 b9
  exact ⟨_, a9, b9, (((((((d1.trans d2).trans d3).trans d4).trans d5).trans d6).trans d7).trans d8).trans d9⟩

/-- What the lists say, one call more. -/
theorem PL.call {W' : Nat → List Int} {b : Nat} (p : PL mem cls W ce tr N) {c : Cl} (hc : c.ok) (hb : c.ba = b) (hbm : b ≤ mem.length) (hz : ∀ (j : Nat) (x : Int), mem[j]? = some x → b ≤ j → x = 0) (hup : ∀ (k : Nat) (c' : Cl), cls[k]? = some c' → c'.ba ≤ b) (hl : cls.length < 2000) (h1 : ∀ k, k < cls.length → W' k = W k) (h2 : W' cls.length = []) (h3 : ∀ k, (W' k).length ≤ (W k).length) : PL mem (cls ++ [c]) W' ce tr N := by
  have old : ∀ (k : Nat) (d : Cl), (cls ++ [c])[k]? = some d → (k < cls.length ∧ cls[k]? = some d) ∨ (k = cls.length ∧ d = c) := fun k d e => by
    by_cases hk : k < cls.length
    · rw [List.getElem?_append_left hk] at e; exact .inl ⟨hk, e⟩
    · have hkl : k = cls.length := by have := (List.getElem?_eq_some_iff.1 e).1; simp at this; omega
      subst hkl
      rw [get_last] at e
      exact .inr ⟨rfl, (Option.some.inj e).symm⟩
  refine ⟨p.cez, p.cel, fun k d e x hx => ?_, fun j x hj hx k d e hbd hn => ?_, fun k => Nat.le_trans (h3 k) (p.len k), fun k d e => ?_, fun k d d' e e' => ?_, fun k d e => ?_, p.trl, p.nle, by simp; omega⟩
  · rcases old k d e with ⟨hk, e⟩ | ⟨rfl, rfl⟩
    · rw [h1 k hk] at hx; exact p.inn k d e x hx
    · rw [h2] at hx; cases hx
  · rcases old k d e with ⟨hk, e1⟩ | ⟨rfl, rfl⟩
    · rw [h1 k hk]
      refine p.own j x hj hx k d e1 hbd (fun c' e' => hn c' ?_)
      rw [List.getElem?_append_left (List.getElem?_eq_some_iff.1 e').1]; exact e'
    · exact absurd (hz j x hj (by omega)) hx
  · rcases old k d e with ⟨hk, e⟩ | ⟨rfl, rfl⟩
    · exact p.ok k d e
    · exact hc
  · rcases old (k + 1) d' e' with ⟨hk, e1⟩ | ⟨hk, rfl⟩
    · rcases old k d e with ⟨hk', e2⟩ | ⟨hk', e2⟩
      · exact p.up k d d' e2 e1
      · omega
    · rcases old k d e with ⟨hk', e2⟩ | ⟨hk', e2⟩
      · rw [hb]; exact hup k d e2
      · omega
  · rcases old k d e with ⟨hk, e⟩ | ⟨rfl, rfl⟩
    · exact p.top k d e
    · omega

theorem MX.kform (h : MX w w0 R col im mn ce cls W tr ex cv kv tv) : ∃ a c, kv = .slice a cls.length c := by
  rcases h.kvo with ⟨e, e0⟩ | ⟨C, cap, ks, e, K⟩
  · exact ⟨none, 0, by rw [e, e0]; rfl⟩
  · exact ⟨_, _, e⟩

set_option maxRecDepth 100000 in
theorem begin_none (hm : MV w w0 R col im mem cls tr ex N) (n : Nat) (g0 g1 g2 g3 g4 g5 : Int) (an : Int) (h : im.st.length ≤ n ∨ cls.length = 2000) :
    Calls Try.prog 29 #[.pointer (some ⟨R, 0, none⟩), .int .i64 (n : Int), .agg #[.int .i64 g0, .int .i64 g1, .int .i64 g2, .int .i64 g3, .int .i64 g4, .int .i64 g5], .int .u8 an] w fun e w' => e = .returned (.int .u8 5) ∧ Q w w' := by
  obtain ⟨ce, W, cv, kv, tv, h1, p⟩ := hm
  obtain ⟨a, c, rfl⟩ := h1.kform
  obtain ⟨-, -, -, c3, -, -, c6, -⟩ := h1.c0
  have hq : Q w (w.alloc (.cells #[.int .i64 g0, .int .i64 g1, .int .i64 g2, .int .i64 g3, .int .i64 g4, .int .i64 g5] 59)) := (Q.refl w).alloc _
  have d3 := cell_keep hq c3
  have d6 := cell_keep hq c6
  have ltR := h1.ltR
  by_cases h2 : im.st.length ≤ n
  · have hd : decide ((im.st.length : Int) ≤ (n : Int)) = true := by simp; omega
    clear h1 p c3 c6
    go_enter Try.func29, Try.ntmps29
    go_wp2_with (fail)
    go_ret
    exact ⟨rfl, hq⟩
  · have hd : decide ((im.st.length : Int) ≤ (n : Int)) = false := by simp; omega
    have he : ((cls.length : Int) == 2000) = true := by simp; omega
    clear h1 p c3 c6
    go_enter Try.func29, Try.ntmps29
    go_wp2_with (fail)
    go_ret
    exact ⟨rfl, hq⟩

theorem MX.bq (h : MX w w0 R col im mn ce cls W tr ex cv kv tv) : Q w0 w := h.bel
theorem MX.fresh (h : MX w w0 R col im mn ce cls W tr ex cv kv tv) {b : Nat} (hb : w.heap.size ≤ b) : col b = none := by
  cases e : col b with
  | none => rfl
  | some τ => have := h.lt b τ e; omega
theorem Ints.at {a : Option Addr} {l : List Int} {X : World} (h : Ints X a l) {k : Nat} {x : Int} (hx : l[k]? = some x) : ∃ b o, a = some ⟨b, o, none⟩ ∧ X.cell? ⟨b, o + k, none⟩ = some (.int .i64 x) := by
  obtain ⟨b, o, e, h1, -⟩ := h k x hx
  rw [Nat.mul_one] at h1
  exact ⟨b, o, e, h1⟩

set_option maxRecDepth 100000 in
set_option maxHeartbeats 1000000 in
theorem begin_tight (hm : MV w w0 R col im mem cls tr ex N) (hok : im.ok w0) (n k : Nat) (g0 g1 g2 g3 g4 g5 : Int) (an : Int) (h1 : n < im.st.length) (h2 : ¬ cls.length = 2000) (hf : im.fr[n]? = some (k : Int)) (hk : 65536 - (mem.length : Int) < (k : Int)) :
    Calls Try.prog 29 #[.pointer (some ⟨R, 0, none⟩), .int .i64 (n : Int), .agg #[.int .i64 g0, .int .i64 g1, .int .i64 g2, .int .i64 g3, .int .i64 g4, .int .i64 g5], .int .u8 an] w fun e w' => e = .returned (.int .u8 5) ∧ Q w w' := by
  have hq : Q w (w.alloc (.cells #[.int .i64 g0, .int .i64 g1, .int .i64 g2, .int .i64 g3, .int .i64 g4, .int .i64 g5] 59)) := (Q.refl w).alloc _
  have CG := hideIt (fun m => grow_bad ((hm.keep hq).keep ((Q.refl _).drewN m)) k hk)
  obtain ⟨ce, W, cv, kv, tv, hx, p⟩ := hm
  obtain ⟨a, c, rfl⟩ := hx.kform
  obtain ⟨-, c1, -, c3, c4, -, c6, -⟩ := (hx.keep hq).c0
  have ltR := hx.ltR
  have hl := (List.getElem?_eq_some_iff.1 hf).1
  obtain ⟨fb, fo, efa, cf⟩ := Ints.at hok.fr hf
  have cf := cell_keep (hx.bq.trans hq) cf
  rw [efa] at c4
  have hd : decide ((im.st.length : Int) ≤ (n : Int)) = false := by simp; omega
  have he : ((cls.length : Int) == 2000) = false := by simp; omega
  have hnl : (n : Int) < (im.fr.length : Int) := by omega
  have hfl : im.fr.length ≤ 9223372036854775807 := hok.fsok.len
  clear hx p hok
  go_enter Try.func29, Try.ntmps29
  go_wp2_with (fail)
  go_region_with (first | (go_at_call 36; refine (CG.out 1).mono ?_; rintro e y ⟨rfl, rfl⟩))
  all_goals go_wp2_with (fail)
  all_goals go_ret
  all_goals exact ⟨rfl, hq.drewN 1⟩

set_option maxRecDepth 100000 in
set_option maxHeartbeats 2000000 in
theorem begin_ok (hm : MV w w0 R col im mem cls tr ex N) (hok : im.ok w0) (n k pl : Nat) (g0 g1 g2 g3 g4 g5 : Int) (an : Nat) (h1 : n < im.st.length) (h2 : cls.length < 2000) (hf : im.fr[n]? = some (k : Int)) (hs : im.st[n]? = some (pl : Int)) (hk : ¬ 65536 - (mem.length : Int) < (k : Int)) (hpl : pl ≤ 4294967296) (han : an < 8) :
    Calls Try.prog 29 #[.pointer (some ⟨R, 0, none⟩), .int .i64 (n : Int), .agg #[.int .i64 g0, .int .i64 g1, .int .i64 g2, .int .i64 g3, .int .i64 g4, .int .i64 g5], .int .u8 (an : Int)] w fun e w' => e = .returned (.int .u8 0) ∧ ∃ col', MV w' w0 R col' im (mem ++ List.replicate k 0) (cls ++ [⟨z8, [g0, g1, g2, g3, g4, g5], z6, pl, mem.length, an⟩]) tr ex N ∧ Ex col w col' w' := by
  have hq : Q w (w.alloc (.cells #[.int .i64 g0, .int .i64 g1, .int .i64 g2, .int .i64 g3, .int .i64 g4, .int .i64 g5] 59)) := (Q.refl w).alloc _
  have CG := hideIt (fun m => grow_ok ((hm.keep hq).keep ((Q.refl _).drewN m)) k hk)
  obtain ⟨ce, W, cv, kv, tv, hx, p⟩ := hm
  obtain ⟨a, c, rfl⟩ := hx.kform
  obtain ⟨-, c1, -, c3, c4, -, c6, -⟩ := (hx.keep hq).c0
  have ltR := hx.ltR
  have hl := (List.getElem?_eq_some_iff.1 hf).1
  obtain ⟨fb, fo, efa, cf⟩ := Ints.at hok.fr hf
  have cf := cell_keep (hx.bq.trans hq) cf
  rw [efa] at c4
  have hd : decide ((im.st.length : Int) ≤ (n : Int)) = false := by simp; omega
  have he : ((cls.length : Int) == 2000) = false := by simp; omega
  have hnl : (n : Int) < (im.fr.length : Int) := by omega
  have hns : (n : Int) < (im.st.length : Int) := by omega
  have hfl : im.fr.length ≤ 9223372036854775807 := hok.fsok.len
  have hsl : im.st.length ≤ 9223372036854775807 := hok.ssok.len
  have hml : mem.length ≤ 65536 := Nat.le_trans p.mle p.cel
  obtain ⟨sb, so, esa, cs⟩ := Ints.at hok.st hs
  have hB : col w.heap.size = none := hx.fresh (Nat.le_refl _)
  have HOPEN := hideIt (show ∀ y col1, MV y w0 R col1 im (mem ++ List.replicate k 0) cls tr ex N → Ex col ((w.alloc (.cells #[.int .i64 g0, .int .i64 g1, .int .i64 g2, .int .i64 g3, .int .i64 g4, .int .i64 g5] 59)).drewN 1) col1 y →
    Calls Try.prog 37 #[.pointer (some ⟨R, 0, none⟩)] y fun e z => ∃ C, e = .returned (.pointer (some ⟨C, cls.length * 24, none⟩)) ∧ ¬ C = R ∧ ¬ R = C ∧ ¬ C = w.heap.size ∧ ¬ C = sb ∧ ¬ R = sb ∧ ¬ sb = C ∧ ¬ sb = R ∧ z.cell? ⟨R, 3, none⟩ = some (.slice (some ⟨sb, so, none⟩) im.st.length im.sc) ∧ z.cell? ⟨sb, so + n, none⟩ = some (.int .i64 (pl : Int)) ∧
      z.cell? ⟨w.heap.size, 0, none⟩ = some (.int .i64 g0) ∧ z.cell? ⟨w.heap.size, 1, none⟩ = some (.int .i64 g1) ∧ z.cell? ⟨w.heap.size, 2, none⟩ = some (.int .i64 g2) ∧ z.cell? ⟨w.heap.size, 3, none⟩ = some (.int .i64 g3) ∧ z.cell? ⟨w.heap.size, 4, none⟩ = some (.int .i64 g4) ∧ z.cell? ⟨w.heap.size, 5, none⟩ = some (.int .i64 g5) ∧
      (∀ j, j < 22 → z.cell? ⟨C, cls.length * 24 + j, none⟩ = some (.int .i64 0)) ∧ z.cell? ⟨C, cls.length * 24 + 22, none⟩ = some (.int .u8 0) ∧ (∀ j, z.frozen? ⟨C, j, none⟩ = false) ∧
      ∃ col', ∀ X : World, X = (((((((((z.setCell ⟨C, cls.length * 24 + 8, none⟩ (.int .i64 g0)).setCell ⟨C, cls.length * 24 + 9, none⟩ (.int .i64 g1)).setCell ⟨C, cls.length * 24 + 10, none⟩ (.int .i64 g2)).setCell ⟨C, cls.length * 24 + 11, none⟩ (.int .i64 g3)).setCell ⟨C, cls.length * 24 + 12, none⟩ (.int .i64 g4)).setCell ⟨C, cls.length * 24 + 13, none⟩ (.int .i64 g5)).setCell ⟨C, cls.length * 24 + 20, none⟩ (.int .i64 (pl : Int))).setCell ⟨C, cls.length * 24 + 21, none⟩ (.int .i64 (mem.length : Int))).setCell ⟨C, cls.length * 24 + 22, none⟩ (.int .u8 (an : Int))) → ∀ m, MV (X.drewN m) w0 R col' im (mem ++ List.replicate k 0) (cls ++ [⟨z8, [g0, g1, g2, g3, g4, g5], z6, pl, mem.length, an⟩]) tr ex N ∧ Ex col w col' (X.drewN m) from fun y col1 hy hxy => by
    obtain ⟨ce1, W1, cv1, kv1, tv1, hy1, p1⟩ := hy
    refine (open_any hy1 h2).mono ?_
    rintro e z ⟨C, cap, ks, W', col', rfl, m1, k1, ex1, w1, w2, w3⟩
    have hbx : ∀ j u, ((w.alloc (.cells #[.int .i64 g0, .int .i64 g1, .int .i64 g2, .int .i64 g3, .int .i64 g4, .int .i64 g5] 59)).drewN 1).cell? ⟨w.heap.size, j, none⟩ = some u → z.cell? ⟨w.heap.size, j, none⟩ = some u := fun j u hu => (hxy.trans ex1).cell hB hu
    have ltC := (m1.lt C _ k1.colC).1
    have ltC' := (m1.lt R _ m1.colR).1
    have sblt : sb < w0.heap.size := World.block_lt_of_cell? w0 _ cs
    have neC : ¬ C = R := fun q => by have := k1.colC; rw [q, m1.colR] at this; cases this
    have hw : w0.heap.size ≤ w.heap.size := hx.bel.size
    have c3z := m1.c0.2.2.2.1
    rw [esa] at c3z
    have bx : ((w.alloc (.cells #[.int .i64 g0, .int .i64 g1, .int .i64 g2, .int .i64 g3, .int .i64 g4, .int .i64 g5] 59)).drewN 1).heap[w.heap.size]? = some (.cells #[.int .i64 g0, .int .i64 g1, .int .i64 g2, .int .i64 g3, .int .i64 g4, .int .i64 g5] 59 (0, 0)) := heap_new w _
    have kc : ∀ j u, j < 23 → cl0.cs[j]? = some u → z.cell? ⟨C, cls.length * 24 + j, none⟩ = some u := fun j u hj hu => (cell_of_block k1.blk _).trans (k1.call cls.length cl0 (get_last _ _) j u hj hu)
    refine ⟨C, rfl, neC, fun q => neC q.symm, fun q => ?_, by omega, by omega, by omega, by omega, c3z, cell_keep m1.bq cs, hbx 0 _ (cell_of_block bx 0), hbx 1 _ (cell_of_block bx 1), hbx 2 _ (cell_of_block bx 2), hbx 3 _ (cell_of_block bx 3), hbx 4 _ (cell_of_block bx 4), hbx 5 _ (cell_of_block bx 5), fun j hj => kc j _ (by omega) ?_, kc 22 _ (by omega) rfl, fun j => free_of_block k1.blk j, col', ?_⟩
    · have hn2 := (hxy.trans ex1).col w.heap.size (by simp)
      rw [hB, ← q, k1.colC] at hn2
      cases hn2
    · have e : cl0.cs = List.replicate 22 (Value.int .i64 0) ++ [.int .u8 0] := rfl
      rw [e, List.getElem?_append_left (by simpa using hj), List.getElem?_replicate, if_pos hj]
    · rintro X rfl m
      obtain ⟨ks', m2, k2, ex2⟩ := m1.begun k1 g0 g1 g2 g3 g4 g5 pl mem.length an
      refine ⟨MV.keep ⟨ce1, W', cv1, _, tv1, m2, p1.call (b := mem.length) ⟨rfl, rfl, rfl, hpl, hml, han⟩ rfl (by simp) (fun j x hj hb => ?_) (fun k c' e => p.top k c' e) h2 w1 w2 w3⟩ ((Q.refl _).drewN m), ((((Ex.refl col w).alloc _).drewN 1).trans (hxy.trans (ex1.trans ex2))).drewN m⟩
      rw [List.getElem?_append_right hb, List.getElem?_replicate] at hj
      split at hj
      · exact (Option.some.inj hj).symm
      · cases hj)
  clear hx p hok cs efa esa
  generalize hcc : cls ++ [⟨z8, [g0, g1, g2, g3, g4, g5], z6, pl, mem.length, an⟩] = CC at *
  go_enter Try.func29, Try.ntmps29
  go_wp2_with (fail)
  go_region_with (first | (go_at_call 36; refine (CG.out 1).mono ?_; rintro e y ⟨rfl, col1, q1, q2⟩; have HQ := hideIt (And.intro q1 q2); clear q1 q2))
  all_goals go_wp2_with (first | (go_at_call 37; refine (HOPEN.out _ col1 HQ.out.1 HQ.out.2).mono ?_; rintro e z ⟨C, rfl, n1, n2, n3, n4, n5, n6, n7, r3, rs, x0, x1, x2, x3, x4, x5, y0, y22, yf, col', fin⟩; have FIN := hideIt fin; have t8 := y0 8 (by omega); have t9 := y0 9 (by omega); have t10 := y0 10 (by omega); have t11 := y0 11 (by omega); have t12 := y0 12 (by omega); have t13 := y0 13 (by omega); have t20 := y0 20 (by omega); have t21 := y0 21 (by omega); have u8 := yf (cls.length * 24 + 8); have u9 := yf (cls.length * 24 + 9); have u10 := yf (cls.length * 24 + 10); have u11 := yf (cls.length * 24 + 11); have u12 := yf (cls.length * 24 + 12); have u13 := yf (cls.length * 24 + 13); have u20 := yf (cls.length * 24 + 20); have u21 := yf (cls.length * 24 + 21); have u22 := yf (cls.length * 24 + 22); clear fin y0 yf) | fail)
  all_goals go_region_with (fail)
  all_goals go_wp2_with (fail)
  all_goals go_ret
  all_goals exact ⟨rfl, col', FIN.out _ rfl 1⟩
end
end Go.Proofs.Ytnlgkiejppgfjaa
