/-
  The machine: a frame is forgotten, a call ends: contracts over the program; the conditions: the machine lies there.
-/
import Derived.Test.YtnlgkiejppgfjaaKVmF
namespace Go.Proofs.Ytnlgkiejppgfjaa
open Go.RowKit
set_option linter.unusedVariables false

/-- Cells that are 0 again. -/
def zer (ce : List Int) : List Int → List Int
  | [] => ce
  | x :: l => zer (ce.set x.toNat 0) l
theorem zer_len : ∀ (l ce : List Int), (zer ce l).length = ce.length
  | [], ce => rfl
  | x :: l, ce => by rw [zer, zer_len l, List.length_set]
theorem zer_snoc : ∀ (l ce : List Int) (x : Int), zer ce (l ++ [x]) = (zer ce l).set x.toNat 0
  | [], ce, x => rfl
  | y :: l, ce, x => by rw [List.cons_append, zer, zer_snoc l, zer]
theorem zer_at : ∀ (l ce : List Int) (j : Nat) (x : Int), (zer ce l)[j]? = some x → x = 0 ∨ (ce[j]? = some x ∧ ∀ y ∈ l, y.toNat ≠ j)
  | [], ce, j, x, h => .inr ⟨h, fun y hy => by cases hy⟩
  | y :: l, ce, j, x, h => by
    rw [zer] at h
    rcases zer_at l _ j x h with h1 | ⟨h1, h2⟩
    · exact .inl h1
    · by_cases e : y.toNat = j
      · subst e
        rw [List.getElem?_set] at h1
        split at h1
        · split at h1
          · exact .inl (Option.some.inj h1).symm
          · cases h1
        · rename_i q; exact absurd rfl q
      · rw [List.getElem?_set_ne e] at h1
        exact .inr ⟨h1, fun z hz => by rcases List.mem_cons.1 hz with rfl | hz; exact e; exact h2 z hz⟩
theorem zer_keep : ∀ (l ce : List Int) (j : Nat), (∀ y ∈ l, y.toNat ≠ j) → (zer ce l)[j]? = ce[j]?
  | [], ce, j, h => rfl
  | y :: l, ce, j, h => by
    rw [zer, zer_keep l _ j (fun z hz => h z (List.mem_cons_of_mem _ hz)), List.getElem?_set_ne (h y (List.mem_cons_self ..))]

section
variable {w w' w0 : World} {R : Nat} {col col' : Col} {im : PIm} {mn : Nat} {mem ce : List Int} {cls : List Cl} {W : Nat → List Int} {tr : List Int} {ex : Int} {cv kv tv : Value} {N : Nat}

set_option maxHeartbeats 1000000 in
theorem shrink_any (h : MX w w0 R col im mn ce cls W tr ex cv kv tv) {wa : Option Addr} {wc k0 : Nat} {L : List Int} (hw : w.ownsRow w0.heap.size 3 1 (.slice wa L.length wc) L.length (rowI L)) (hc : ∀ b, (Value.slice wa L.length wc).ownBlock = some b → col b = some (.wr k0)) (hL : ∀ x ∈ L, ∃ n : Nat, x = (n : Int) ∧ n < ce.length) (hlen : L.length ≤ 8388608) (hcl : ce.length ≤ 65536) (b : Nat) :
    Calls Try.prog 46 #[.pointer (some ⟨R, 0, none⟩), .int .i64 (b : Int), .slice wa L.length wc] w fun e w' => e = .returned (.tuple #[]) ∧ MX w' w0 R col im b (zer ce L) cls W tr ex cv kv tv ∧ Ex col w col w' := by
  obtain ⟨ca, cc, ecv, -, -⟩ := own_form h.ce
  subst ecv
  have HX0 := hideIt h
  have HW0 := hideIt hw
  have HC := hideIt hc
  have HL := hideIt hL
  clear h hw hc hL
  go_enter Try.func46, Try.ntmps46
  go_wp2_with (fail)
  go_loopw [7, 10] (fun _ iv z => ∃ i : Nat, iv = .int .i64 i ∧ i ≤ L.length ∧ MX z w0 R col im mn (zer ce (L.take i)) cls W tr ex (.slice ca ce.length cc) kv tv ∧ z.ownsRow w0.heap.size 3 1 (.slice wa L.length wc) L.length (rowI L) ∧ Ex col w col z) (fun _ iv _ => L.length - (intOf iv).toNat)
  case atStart => exact ⟨0, rfl, Nat.zero_le _, HX0.out, HW0.out, Ex.refl _ _⟩
  case round =>
    obtain ⟨i, rfl, hi, hx, hw, he⟩ := hrel
    have HX := hideIt hx
    have HW := hideIt hw
    have HE := hideIt he
    obtain ⟨c0, c1, -⟩ := hx.c0
    have f1 := hx.fz 1
    by_cases hlt : i < L.length
    · obtain ⟨x, hxx⟩ := get_of_lt hlt
      obtain ⟨n, rfl, hn⟩ := HL.out x (List.mem_of_getElem? hxx)
      obtain ⟨g, cap, cur, e1, e2, e3, e4, e5⟩ := row_at hw hxx
      injection e1 with e1 _ _
      subst e1
      have ci : wr.cell? ⟨g, i, none⟩ = some (.int .i64 (n : Int)) := (cell_of_block e2 i).trans e3
      have hn2 : n < (zer ce (L.take i)).length := by rw [zer_len]; exact hn
      obtain ⟨y, hy⟩ := get_of_lt hn2
      have hce := hx.ce
      obtain ⟨g', cap', cur', d1, d2, d3, d4, d5⟩ := row_at hce hy
      rw [zer_len] at d1
      injection d1 with d1 _ d6
      subst d1
      subst d6
      have cn : wr.cell? ⟨g', n, none⟩ = some (.int .i64 y) := (cell_of_block d2 n).trans d3
      have fn : wr.frozen? ⟨g', n, none⟩ = false := free_of_block d2 n
      have hil : (i : Int) < (L.length : Int) := by omega
      have hnl : (n : Int) < (ce.length : Int) := by omega
      have HT := hideIt (show L.take (i + 1) = L.take i ++ [(n : Int)] by rw [List.take_add_one, hxx]; rfl)
      clear hx hw he hxx e2 e3 e4 e5 hy hce d2 d3 d4 d5 hn2 c1
      go_wp2_with (fail)
      go_roundw
      case rel =>
        have hm := HX.out
        obtain ⟨m1, m2⟩ := MX.setE (ce := zer ce (L.take i)) (g := g') (cap := cc) (by rw [zer_len]; exact hm) n 0
        rw [List.length_set, zer_len] at m1
        refine ⟨i + 1, by go_num, by omega, ?_, row_keep HW.out (fun b q => ?_), HE.out.trans m2⟩
        · rw [HT.out, zer_snoc, Int.toNat_natCast]; exact m1
        · refine heap_setCell_other _ _ b _ (fun e => ?_)
          have q1 := HC.out b q
          have q2 := hm.cec g' rfl
          rw [e] at q1
          rw [q1] at q2
          cases q2
      case measure => simp [intOf]; omega
    · clear hx hw he
      go_wp2_with (fail)
      go_end0
      obtain ⟨m1, m2⟩ := HX.out.setR (j := 1) (u := .int .i64 (b : Int)) (mn' := b) (ex' := ex) (kv' := kv) (cls' := cls) (by simp) HX.out.kvo
      rw [show L.take i = L from List.take_of_length_le (by omega)] at m1
      exact ⟨rfl, m1, HE.out.trans m2⟩

theorem KS.cut {C cap : Nat} {ks : Array Value} {B : Nat} (h : KS w B C cap ks col cls W) (k : Nat) : KS w B C cap ks col (cls.take k) W :=
  ⟨h.blk, h.size, h.capm, by have := h.le; rw [List.length_take]; omega, h.colC, h.slot, fun k' c e j u h23 hu => h.call k' c (by rw [List.getElem?_take] at e; split at e; exact e; cases e) j u h23 hu⟩

/-- What the lists say, the last call gone. -/
theorem PL.cut (p : PL mem cls W ce tr N) {k : Nat} {c : Cl} (hk : k + 1 = cls.length) (hc : cls[k]? = some c) : PL (mem.take c.ba) (cls.take k) W (zer ce (W k)) tr N := by
  have hba := p.top k c hc
  have hml := p.mle
  have old : ∀ (k' : Nat) (d : Cl), (cls.take k)[k']? = some d → k' < k ∧ cls[k']? = some d := fun k' d e => by
    rw [List.getElem?_take] at e
    split at e
    · exact ⟨by assumption, e⟩
    · cases e
  have hz : ∀ (j : Nat) (x : Int), c.ba ≤ j → (zer ce (W k))[j]? = some x → x = 0 := fun j x hj hx => by
    rcases zer_at _ _ j x hx with h1 | ⟨h1, h2⟩
    · exact h1
    · by_cases hx0 : x = 0
      · exact hx0
      · by_cases hjm : j < mem.length
        · obtain ⟨y, hy⟩ := get_of_lt hjm
          have := p.ce_at hy
          rw [h1] at this
          obtain rfl := Option.some.inj this
          have := p.own j x hy hx0 k c hc hj (fun c' e' => by have := (List.getElem?_eq_some_iff.1 e').1; omega)
          exact absurd (Int.toNat_natCast j) (h2 _ this)
        · obtain ⟨z, e⟩ := p.cez
          rw [e, List.getElem?_append_right (by omega), List.getElem?_replicate] at h1
          split at h1
          · exact (Option.some.inj h1).symm
          · cases h1
  have hlow : ∀ j, j < c.ba → (zer ce (W k))[j]? = mem[j]? := fun j hj => by
    rw [zer_keep _ _ j (fun y hy => ?_)]
    · obtain ⟨y, hy⟩ := get_of_lt (show j < mem.length by omega)
      rw [hy]; exact p.ce_at hy
    · obtain ⟨n, rfl, h1, h2⟩ := p.inn k c hc y hy
      rw [Int.toNat_natCast]; omega
  refine ⟨⟨ce.length - c.ba, ?_⟩, by rw [zer_len]; exact p.cel, fun k' d e x hx => ?_, fun j x hj hx k' d e hb hn => ?_, p.len, fun k' d e => p.ok k' d (old k' d e).2, fun k' d d' e e' => p.up k' d d' (old _ _ e).2 (old _ _ e').2, fun k' d e => ?_, p.trl, p.nle, by have := p.cll; rw [List.length_take]; omega⟩
  · apply List.ext_getElem?
    intro j
    by_cases h1 : j < c.ba
    · rw [hlow j h1, List.getElem?_append_left (by rw [List.length_take]; omega), List.getElem?_take, if_pos h1]
    · rw [List.getElem?_append_right (by rw [List.length_take]; omega), List.length_take, Nat.min_eq_left hba, List.getElem?_replicate]
      by_cases h2 : j < ce.length
      · obtain ⟨x, hx⟩ := get_of_lt (show j < (zer ce (W k)).length by rw [zer_len]; exact h2)
        rw [if_pos (by omega), hx, hz j x (by omega) hx]
      · rw [if_neg (by omega), List.getElem?_eq_none (by rw [zer_len]; omega)]
  · obtain ⟨n, a, b, d⟩ := p.inn k' d (old _ _ e).2 x hx
    exact ⟨n, a, b, by rw [zer_len]; exact d⟩
  · rw [List.getElem?_take] at hj
    split at hj
    · rename_i hjb
      obtain ⟨hk', e1⟩ := old _ _ e
      refine p.own j x hj hx k' d e1 hb (fun c' e' => ?_)
      by_cases hkk : k' + 1 = k
      · rw [hkk, hc] at e'
        obtain rfl := Option.some.inj e'
        exact hjb
      · exact hn c' (by rw [List.getElem?_take, if_pos (by omega)]; exact e')
    · cases hj
  · obtain ⟨hk', e1⟩ := old _ _ e
    have hup : ∀ (m : Nat) (i : Nat) (d : Cl), i + m = k → cls[i]? = some d → d.ba ≤ c.ba := by
      intro m
      induction m with
      | zero => intro i d hi hd; rw [show i = k by omega, hc] at hd; obtain rfl := Option.some.inj hd; exact Nat.le_refl _
      | succ m ih =>
        intro i d hi hd
        obtain ⟨d', hd'⟩ := get_of_lt (l := cls) (k := i + 1) (by omega)
        exact Nat.le_trans (p.up i d d' hd hd') (ih (i + 1) d' (by omega) hd')
    have := hup (k - k') k' d (by omega) e1
    rw [List.length_take]; omega

/-- A call is another one, at the same base. -/
theorem PL.set (p : PL mem cls W ce tr N) {k : Nat} {c c' : Cl} (hc : cls[k]? = some c) (hb : c'.ba = c.ba) (hok : c'.ok) : PL mem (cls.set k c') W ce tr N := by
  have hkl := (List.getElem?_eq_some_iff.1 hc).1
  have old : ∀ (k' : Nat) (d : Cl), (cls.set k c')[k']? = some d → ∃ d0, cls[k']? = some d0 ∧ d.ba = d0.ba ∧ (d = d0 ∨ d = c') := fun k' d e => by
    by_cases ek : k = k'
    · subst ek
      rw [List.getElem?_set_self hkl] at e
      obtain rfl := Option.some.inj e
      exact ⟨c, hc, hb, .inr rfl⟩
    · rw [List.getElem?_set_ne ek] at e
      exact ⟨d, e, rfl, .inl rfl⟩
  have new : ∀ (k' : Nat) (d : Cl), cls[k']? = some d → ∃ d1, (cls.set k c')[k']? = some d1 ∧ d1.ba = d.ba := fun k' d e => by
    by_cases ek : k = k'
    · subst ek
      rw [hc] at e
      obtain rfl := Option.some.inj e
      exact ⟨c', List.getElem?_set_self hkl, hb⟩
    · exact ⟨d, by rw [List.getElem?_set_ne ek]; exact e, rfl⟩
  refine ⟨p.cez, p.cel, fun k' d e x hx => ?_, fun j x hj hx k' d e hbd hn => ?_, p.len, fun k' d e => ?_, fun k' d d' e e' => ?_, fun k' d e => ?_, p.trl, p.nle, by rw [List.length_set]; exact p.cll⟩
  · obtain ⟨d0, e0, e1, -⟩ := old k' d e
    rw [e1]; exact p.inn k' d0 e0 x hx
  · obtain ⟨d0, e0, e1, -⟩ := old k' d e
    refine p.own j x hj hx k' d0 e0 (by omega) (fun d2 e2 => ?_)
    obtain ⟨d3, e3, e4⟩ := new _ _ e2
    rw [← e4]; exact hn d3 e3
  · obtain ⟨d0, e0, e1, e2 | e2⟩ := old k' d e
    · rw [e2]; exact p.ok k' d0 e0
    · rw [e2]; exact hok
  · obtain ⟨d0, e0, e1, -⟩ := old k' d e
    obtain ⟨d2, e2, e3, -⟩ := old (k' + 1) d' e'
    rw [e1, e3]; exact p.up k' d0 d2 e0 e2
  · obtain ⟨d0, e0, e1, -⟩ := old k' d e
    rw [e1]; exact p.top k' d0 e0
end
end Go.Proofs.Ytnlgkiejppgfjaa
