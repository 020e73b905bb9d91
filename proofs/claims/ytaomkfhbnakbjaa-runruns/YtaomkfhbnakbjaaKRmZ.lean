/-
  Run of layer 14: contracts over the program; the conditions: the code lies in memory.
  Run of layer 14, of code that is right: a contract over the program; the conditions: the code lies in memory, and is right.
-/
import Derived.Test.YtaomkfhbnakbjaaKRmX
import Derived.Laws.MakeOwn
namespace Go.Proofs.Ytaomkfhbnakbjaa
open Go.RowKit
set_option linter.unusedVariables false

abbrev zeroO : Value := .agg #[.bool false, .int .i64 0, .int .u8 0, .bool false, .int .i64 0, .slice none 0 0]

set_option maxRecDepth 100000 in
theorem run_fuel (w : World) (c : PC) (n : Int) (hn : n < 0 ∨ 8388608 < n) : Calls Try.prog 10 #[c.v, .int .i64 n] w fun e w' => e = .returned (.tuple #[zeroO, .int .i64 1]) ∧ Q w w' := by
  by_cases h0 : n < 0
  · have h1 : decide (n < 0) = true := by simpa using h0
    go_enter Try.func10, Try.ntmps10
    go_wp2_with (fail)
    exact bodyPost_ret (v := .tuple #[zeroO, .int .i64 1]) (by simp [results, Try.results10, go_sem]) rfl ⟨rfl, ((Q.refl w).alloc _).alloc _⟩
  · have h1 : decide (n < 0) = false := by simpa using h0
    have h2 : decide (8388608 < n) = true := by simp; omega
    go_enter Try.func10, Try.ntmps10
    go_wp2_with (fail)
    exact bodyPost_ret (v := .tuple #[zeroO, .int .i64 1]) (by simp [results, Try.results10, go_sem]) rfl ⟨rfl, ((Q.refl w).alloc _).alloc _⟩

theorem bxO_at (w : World) (c : PC) : (bxO (bxC w c)).heap[w.heap.size + 1]? = some (.cells #[.bool false, .int .i64 0, .int .u8 0, .bool false, .int .i64 0, .slice none 0 0] 31 (0, 0)) := by
  have := heap_alloc_new (bxC w c) (.cells #[.bool false, .int .i64 0, .int .u8 0, .bool false, .int .i64 0, .slice none 0 0] 31)
  simpa using this

set_option maxRecDepth 100000 in
theorem run_bad (w : World) (c : PC) (hcok : c.ok w) (n : Int) (h0 : ¬ n < 0) (h1 : ¬ 8388608 < n) (hv : ¬ validP c = 0) : Calls Try.prog 10 #[c.v, .int .i64 n] w fun e w' => e = .returned (.tuple #[zeroO, .int .i64 (validP c)]) ∧ Q w w' := by
  have VA := hideIt (valid_any (bxO (bxC w c)) c (hcok.keep (((Q.refl w).alloc _).alloc _)))
  have B1 := hideIt (bxO_at w c)
  have d0 : decide (n < 0) = false := by simpa using h0
  have d1 : decide (8388608 < n) = false := by simpa using h1
  have d2 : (validP c != 0) = true := by simpa using hv
  generalize validP c = v at *
  clear hcok hv
  go_enter Try.func10, Try.ntmps10
  go_wp2_with (first | (go_at_call 30; refine VA.out.mono ?_; rintro e x ⟨rfl, q⟩; have HQ := hideIt q; have b1 := (q.block (w.heap.size + 1) (by simp)).trans B1.out; have v0 := Me.cell_of_block b1 0; have v1 := Me.cell_of_block b1 1; have v2 := Me.cell_of_block b1 2; have v3 := Me.cell_of_block b1 3; have v4 := Me.cell_of_block b1 4; have v5 := Me.cell_of_block b1 5; have f0 := fun j : Nat => Me.free_of_block b1 j; clear q b1) | fail)
  exact bodyPost_ret (v := .tuple #[zeroO, .int .i64 v]) (by simp [results, Try.results10, go_sem, v0, v1, v2, v3, v4, v5]) rfl ⟨rfl, by
    have hq := (((Q.refl w).alloc _).alloc _).trans HQ.out
    have hle : w.heap.size ≤ w.heap.size + 1 := Nat.le_succ _
    exact (((((hq.set hle _).set hle _).set hle _).set hle _).set hle _).set hle _⟩

theorem made_at (n j : Nat) (h : j < n) : (madeCells #[.slice none 0 0, .slice none 0 0] n)[j]? = some (.slice none 0 0) := by
  unfold madeCells
  rw [Array.getElem?_map, Array.getElem?_range]
  simp only [h, if_true, Option.map_some]
  have : j % 2 = 0 ∨ j % 2 = 1 := by omega
  rcases this with q | q <;> simp [q]

/-- A run at its beginning. -/
theorem gs_init {W w0 : World} {R p gb : Nat} {c : PC} {fuel : Nat} {bl : Nat → Prop} {B : Nat} (hq : Q w0 W) (hR : W.heap[R]? = some (.cells #[.slice c.ga c.gl.length c.gc, .slice c.na c.ini.length c.nc, .slice c.fa c.fns.length c.fc, .int .i64 (fuel : Int), .int .i64 0, .slice none 0 0, .pointer (some ⟨p, 0, none⟩), .slice (some ⟨gb, 0, none⟩) c.fns.length c.fns.length, .slice none 0 0] 65 (0, 0)))
    (hg : W.heap[gb]? = some (.cells (madeCells #[.slice none 0 0, .slice none 0 0] (c.fns.length * 2)) 133 (0, 0))) (hM : Me.MI W B bl p 0 [] (fun _ _ => 0) 0) (hB : w0.heap.size ≤ B) (n1 : R ≠ gb) (n2 : ¬ bl R) (n3 : ¬ bl gb) (l1 : w0.heap.size ≤ R) (l2 : w0.heap.size ≤ gb) :
    ∃ col, GS W W w0 R p gb c.fns.length col col c fuel (fun _ => ([], [])) 0 := by
  classical
  have hM' : Me.MI W w0.heap.size bl p 0 [] (fun _ _ => 0) 0 := by
    obtain ⟨L, F, M, la, lc, h1, h2, h3⟩ := hM
    obtain rfl : L = [] := by simpa [Me.szs] using h3
    exact ⟨[], F, M, la, lc, ⟨fun k hk => ⟨Nat.le_trans hB (h1.rng k hk).1, (h1.rng k hk).2⟩, h1.inp, h1.inM, h1.Mnp, h1.own, h1.cells, h1.map, Me.ownsRow_mono h1.row hB, fun i d e => by simp at e, fun i d k e => by simp at e, fun i j d e k h1 => by simp at h1⟩, h2, rfl⟩
  have hgl : glS c 0 = ⟨0, [], [], fun _ _ => 0⟩ := by
    unfold glS
    simp only [List.take_zero, List.map_nil]
    congr 1
    funext a b
    simp [glF]
  have lR := (Array.getElem?_eq_some_iff.1 hR).1
  have lg := (Array.getElem?_eq_some_iff.1 hg).1
  have cR : (fun b => if b = R then some Tg.rn else if b = gb then some Tg.rg else if bl b then some Tg.me else none) R = some .rn := by simp
  have cg : (fun b => if b = R then some Tg.rn else if b = gb then some Tg.rg else if bl b then some Tg.me else none) gb = some .rg := by have e : gb ≠ R := fun h => n1 h.symm; simp [e]
  have cm : ∀ b, bl b → (fun b => if b = R then some Tg.rn else if b = gb then some Tg.rg else if bl b then some Tg.me else none) b = some .me := fun b hb => by
    have e1 : b ≠ R := fun q => n2 (by rw [← q]; exact hb)
    have e2 : b ≠ gb := fun q => n3 (by rw [← q]; exact hb)
    simp [e1, e2, hb]
  refine ⟨_, ?_, Ex.refl _ _, bl, 0, cm, Nat.le_refl _, by rw [hgl]; exact hM'⟩
  rw [hgl]
  refine ⟨hq, fun b τ e => ?_, cR, cg, ⟨_, _, hR, World.ownsRow_nil _ _ _ _, World.ownsRow_nil _ _ _ _, fun b q => (by cases q), fun b q => (by cases q)⟩, ⟨bl, 0, cm, Nat.zero_le _, hM'⟩, ⟨_, hg, fun k hk => ⟨_, _, made_at _ _ (by omega), made_at _ _ (by omega), World.ownsRow_nil _ _ _ _, World.ownsRow_nil _ _ _ _, fun b q => (by cases q), fun b q => (by cases q)⟩⟩, by simp, fun x hx => (by cases hx), Nat.zero_le _, Nat.zero_le _, fun k hk => ⟨Nat.zero_le _, fun m hm => (by cases hm), Nat.zero_le _⟩, Nat.zero_le _⟩
  by_cases e1 : b = R
  · subst e1; exact ⟨l1, lR⟩
  · rw [if_neg e1] at e
    by_cases e2 : b = gb
    · subst e2; exact ⟨l2, lg⟩
    · rw [if_neg e2] at e
      by_cases e3 : bl b
      · exact hM'.rng e3
      · rw [if_neg e3] at e; cases e

end Go.Proofs.Ytaomkfhbnakbjaa

namespace Go.Proofs.Ytaomkfhbnakbjaa
open Go.RowKit
set_option linter.unusedVariables false

theorem rg_infoR : (Try.prog.info? 133).map (fun i => (i.zero, i.size, i.bytes)) = some (some (.agg #[.slice none 0 0, .slice none 0 0]), 2, 48) := by kernel_rfl

theorem right_vc {c : PC} {w0 : World} (hok : c.ok w0) (h : validP c = 0) : VC c w0 ∧ roomL 65536 c.gl = true ∧ c.ini.length = c.gl.length ∧ ∃ f, c.fns[c.fns.length - 1]? = some f ∧ f.params = 0 := by
  unfold validP at h
  split at h
  · cases h
  · split at h
    · rename_i hr
      unfold rightP at hr
      simp only [Bool.and_eq_true] at hr
      obtain ⟨h1, h2⟩ := hr
      unfold hdP at h1
      simp only [Bool.and_eq_true, decide_eq_true_eq] at h1
      obtain ⟨h3, h4, h5⟩ := h1
      have hfn : ∀ (n : Nat) (k : Nat) (f : PF), n + k = c.fns.length → fnsP c k (c.fns.drop k) = true → ∀ j, c.fns[k + j]? = some f → fnP c (k + j) f = true := by
        intro n
        induction n with
        | zero => intro k f hn _ j hj; have := (List.getElem?_eq_some_iff.1 hj).1; omega
        | succ n ih =>
          intro k f hn hp j hj
          obtain ⟨g, hg⟩ := get_of_lt (l := c.fns) (k := k) (by omega)
          rw [fnsP_drop hg] at hp
          simp only [Bool.and_eq_true] at hp
          cases j with
          | zero => rw [Nat.add_zero, hg] at hj; obtain rfl := Option.some.inj hj; exact hp.1
          | succ j =>
            have := ih (k + 1) f (by omega) hp.2 j (by rw [show k + 1 + j = k + (j + 1) by omega]; exact hj)
            rw [show k + 1 + j = k + (j + 1) by omega] at this
            exact this
      have hgl := roomL_len _ _ h5 (by decide)
      refine ⟨⟨hok, fun k f hf => ?_, by omega⟩, h5, h4, ?_⟩
      · have := hfn c.fns.length 0 f (by omega) (by simpa using h2) k (by simpa using hf)
        simpa using this
      · unfold lastP at h3
        cases e : c.fns[c.fns.length - 1]? with
        | none => rw [e] at h3; simp at h3
        | some f => rw [e] at h3; exact ⟨f, rfl, by simpa using h3⟩
    · cases h

theorem frq {a b : World} (h : Me.Fr (fun _ => False) a b) : Q a b := ⟨h.os, h.tape, h.output, h.size, fun k hk => h.block k hk (fun q => q)⟩

theorem q_cell {a b : World} (h : Q a b) : ∀ (k j : Nat), k < a.heap.size → b.cell? ⟨k, j, none⟩ = a.cell? ⟨k, j, none⟩ := fun k j hk => h.cell (p := ⟨k, j, none⟩) hk
theorem q_frozen {a b : World} (h : Q a b) : ∀ (k j : Nat), k < a.heap.size → b.frozen? ⟨k, j, none⟩ = a.frozen? ⟨k, j, none⟩ := fun k j hk => by
  simp only [World.frozen?]
  rw [h.block k hk]

set_option maxRecDepth 100000 in
theorem new_exact (w : World) : Calls Try.prog 31 #[] w fun e w' => e = .returned (.pointer (some ⟨w.heap.size + 1, 0, none⟩)) ∧ w' = (w.alloc (.map #[] 0)).alloc (.cells #[.map (some w.heap.size), .slice none 0 0, .int .i64 0] 102) := by
  have hmk := run_makeMap (P := Try.prog) 99
  go_enter Try.func31, Try.ntmps31
  go_wp2
  go_ret
  exact ⟨rfl, rfl⟩

theorem four (x : World) (a b c d : Obj) : ((((x.alloc a).alloc b).alloc c).alloc d).heap[x.heap.size]? = some a ∧ ((((x.alloc a).alloc b).alloc c).alloc d).heap[x.heap.size + 1]? = some b ∧ ((((x.alloc a).alloc b).alloc c).alloc d).heap[x.heap.size + 1 + 1]? = some c ∧ ((((x.alloc a).alloc b).alloc c).alloc d).heap[x.heap.size + 1 + 1 + 1]? = some d := by
  have s1 : (x.alloc a).heap.size = x.heap.size + 1 := by simp
  have s2 : ((x.alloc a).alloc b).heap.size = x.heap.size + 1 + 1 := by simp
  have s3 : (((x.alloc a).alloc b).alloc c).heap.size = x.heap.size + 1 + 1 + 1 := by simp
  have a1 := heap_alloc_new x a
  have a2 := heap_alloc_new (x.alloc a) b
  have a3 := heap_alloc_new ((x.alloc a).alloc b) c
  have a4 := heap_alloc_new (((x.alloc a).alloc b).alloc c) d
  rw [s1] at a2
  rw [s2] at a3
  rw [s3] at a4
  refine ⟨?_, ?_, ?_, a4⟩
  · rw [Below.heap_alloc _ _ _ (by omega), Below.heap_alloc _ _ _ (by omega), Below.heap_alloc _ _ _ (by omega)]; exact a1
  · rw [Below.heap_alloc _ _ _ (by omega), Below.heap_alloc _ _ _ (by omega)]; exact a2
  · rw [Below.heap_alloc _ _ _ (by omega)]; exact a3
theorem mc_empty {W : World} {M : Nat} (h : W.heap[M]? = some (.map #[] 0)) : Me.Mc W M 0 (fun _ _ => none) := by
  obtain ⟨D, ⟨es, ck, hb, hF, hs, hD⟩, h2, h3⟩ := Me.mc_made W
  have hb' := heap_alloc_new W (.map #[] 0)
  rw [hb'] at hb
  injection hb with hb
  injection hb with e1 e2
  subst e1; subst e2
  exact ⟨D, ⟨_, _, h, hF, hs, hD⟩, h2, h3⟩
def twoB (M P : Nat) : Nat → Prop := fun k => k = M ∨ k = P
theorem mi_two {W : World} {M p B : Nat} (h1 : W.heap[M]? = some (.map #[] 0)) (h2 : W.heap[p]? = some (.cells #[.map (some M), .slice none 0 0, .int .i64 0] 102 (0, 0))) (hne : M ≠ p) (l1 : B ≤ M) (l2 : B ≤ p) : Me.MI W B (twoB M p) p 0 [] (fun _ _ => 0) 0 := by
  have lM := (Array.getElem?_eq_some_iff.1 h1).1
  have lp := (Array.getElem?_eq_some_iff.1 h2).1
  exact ⟨[], fun _ _ => none, M, none, 0, ⟨fun k hk => (by rcases hk with rfl | rfl; exact ⟨l1, lM⟩; exact ⟨l2, lp⟩), Or.inr rfl, Or.inl rfl, hne, fun k hk => (by simp [Value.ownBlock] at hk), h2, mc_empty h1, World.ownsRow_nil _ _ _ _, fun i d e => (by simp at e), fun i d k e => (by simp at e), fun i j d e k h1 => (by simp at h1)⟩, ⟨fun a b => rfl, fun _ _ _ => rfl, fun i d b v k e => (by simp at e), fun i d k o _ e => (by simp at e), fun i d e => (by simp at e)⟩, rfl⟩

/-- Behind the runner's making: the outcome. -/
theorem run_rest {W w0 : World} {R p gb : Nat} {c : PC} {fuel : Nat} {bl : Nat → Prop} {B : Nat} (hok : c.ok w0) (hv : validP c = 0) (hf : fuel ≤ 8388608) (hq : Q w0 W) (hR : W.heap[R]? = some (.cells #[.slice c.ga c.gl.length c.gc, .slice c.na c.ini.length c.nc, .slice c.fa c.fns.length c.fc, .int .i64 (fuel : Int), .int .i64 0, .slice none 0 0, .pointer (some ⟨p, 0, none⟩), .slice (some ⟨gb, 0, none⟩) c.fns.length c.fns.length, .slice none 0 0] 65 (0, 0)))
    (hg : W.heap[gb]? = some (.cells (madeCells #[.slice none 0 0, .slice none 0 0] (c.fns.length * 2)) 133 (0, 0))) (hM : Me.MI W B bl p 0 [] (fun _ _ => 0) 0) (hB : w0.heap.size ≤ B) (n1 : R ≠ gb) (n2 : ¬ bl R) (n3 : ¬ bl gb) (l1 : w0.heap.size ≤ R) (l2 : w0.heap.size ≤ gb) :
    Calls Try.prog 32 #[.pointer (some ⟨R, 0, none⟩)] W fun e w' => ∃ v, e = .returned v ∧ OutPost w0 w0.heap.size (ocP (runP c fuel)) v w' := by
  obtain ⟨h1, h2, h3, f, h4, h5⟩ := right_vc hok hv
  obtain ⟨col, h6⟩ := gs_init hq hR hg hM hB n1 n2 n3 l1 l2
  exact outcome_ri h6 hf h1 h2 h3 (fun j fj hj hfj => ⟨rfl, fun n _ => rfl⟩) h4 h5

theorem ord1 {x : World} {c : PC} {fuel : Nat} (hok : c.ok x) (hv : validP c = 0) (hf : fuel ≤ 8388608) :
    Calls Try.prog 32 #[.pointer (some ⟨x.heap.size + 1 + 1 + 1, 0, none⟩)] (((((x.alloc (.map #[] 0)).alloc (.cells #[.map (some (x.heap.size)), .slice none 0 0, .int .i64 0] 102)).alloc (.cells (madeCells #[.slice none 0 0, .slice none 0 0] (c.fns.length * 2)) 133)).alloc (.cells #[.slice c.ga c.gl.length c.gc, .slice c.na c.ini.length c.nc, .slice c.fa c.fns.length c.fc, .int .i64 (fuel : Int), .int .i64 0, .slice none 0 0, .pointer (some ⟨x.heap.size + 1, 0, none⟩), .slice (some ⟨x.heap.size + 1 + 1, 0, none⟩) c.fns.length c.fns.length, .slice none 0 0] 65)).drew) fun e w' => ∃ v, e = .returned v ∧ OutPost x x.heap.size (ocP (runP c fuel)) v w' := by
  obtain ⟨w1, w2, w3, w4⟩ := four x (.map #[] 0) (.cells #[.map (some (x.heap.size)), .slice none 0 0, .int .i64 0] 102) (.cells (madeCells #[.slice none 0 0, .slice none 0 0] (c.fns.length * 2)) 133) (.cells #[.slice c.ga c.gl.length c.gc, .slice c.na c.ini.length c.nc, .slice c.fa c.fns.length c.fc, .int .i64 (fuel : Int), .int .i64 0, .slice none 0 0, .pointer (some ⟨x.heap.size + 1, 0, none⟩), .slice (some ⟨x.heap.size + 1 + 1, 0, none⟩) c.fns.length c.fns.length, .slice none 0 0] 65)
  exact run_rest (p := x.heap.size + 1) (gb := x.heap.size + 1 + 1) (bl := twoB (x.heap.size) (x.heap.size + 1)) (B := x.heap.size) hok hv hf (((((Q.refl x).alloc _).alloc _).alloc _).alloc _).drew w4 w3 (mi_two (M := x.heap.size) (p := x.heap.size + 1) w1 w2 (by omega) (by omega) (by omega)) (Nat.le_refl _) (by omega) (by unfold twoB; omega) (by unfold twoB; omega) (by omega) (by omega)
theorem ord2 {x : World} {c : PC} {fuel : Nat} (hok : c.ok x) (hv : validP c = 0) (hf : fuel ≤ 8388608) :
    Calls Try.prog 32 #[.pointer (some ⟨x.heap.size + 1 + 1, 0, none⟩)] (((((x.alloc (.map #[] 0)).alloc (.cells #[.map (some (x.heap.size)), .slice none 0 0, .int .i64 0] 102)).alloc (.cells #[.slice c.ga c.gl.length c.gc, .slice c.na c.ini.length c.nc, .slice c.fa c.fns.length c.fc, .int .i64 (fuel : Int), .int .i64 0, .slice none 0 0, .pointer (some ⟨x.heap.size + 1, 0, none⟩), .slice (some ⟨x.heap.size + 1 + 1 + 1, 0, none⟩) c.fns.length c.fns.length, .slice none 0 0] 65)).alloc (.cells (madeCells #[.slice none 0 0, .slice none 0 0] (c.fns.length * 2)) 133)).drew) fun e w' => ∃ v, e = .returned v ∧ OutPost x x.heap.size (ocP (runP c fuel)) v w' := by
  obtain ⟨w1, w2, w3, w4⟩ := four x (.map #[] 0) (.cells #[.map (some (x.heap.size)), .slice none 0 0, .int .i64 0] 102) (.cells #[.slice c.ga c.gl.length c.gc, .slice c.na c.ini.length c.nc, .slice c.fa c.fns.length c.fc, .int .i64 (fuel : Int), .int .i64 0, .slice none 0 0, .pointer (some ⟨x.heap.size + 1, 0, none⟩), .slice (some ⟨x.heap.size + 1 + 1 + 1, 0, none⟩) c.fns.length c.fns.length, .slice none 0 0] 65) (.cells (madeCells #[.slice none 0 0, .slice none 0 0] (c.fns.length * 2)) 133)
  exact run_rest (p := x.heap.size + 1) (gb := x.heap.size + 1 + 1 + 1) (bl := twoB (x.heap.size) (x.heap.size + 1)) (B := x.heap.size) hok hv hf (((((Q.refl x).alloc _).alloc _).alloc _).alloc _).drew w3 w4 (mi_two (M := x.heap.size) (p := x.heap.size + 1) w1 w2 (by omega) (by omega) (by omega)) (Nat.le_refl _) (by omega) (by unfold twoB; omega) (by unfold twoB; omega) (by omega) (by omega)
theorem ord3 {x : World} {c : PC} {fuel : Nat} (hok : c.ok x) (hv : validP c = 0) (hf : fuel ≤ 8388608) :
    Calls Try.prog 32 #[.pointer (some ⟨x.heap.size + 1 + 1 + 1, 0, none⟩)] (((((x.alloc (.cells (madeCells #[.slice none 0 0, .slice none 0 0] (c.fns.length * 2)) 133)).alloc (.map #[] 0)).alloc (.cells #[.map (some (x.heap.size + 1)), .slice none 0 0, .int .i64 0] 102)).alloc (.cells #[.slice c.ga c.gl.length c.gc, .slice c.na c.ini.length c.nc, .slice c.fa c.fns.length c.fc, .int .i64 (fuel : Int), .int .i64 0, .slice none 0 0, .pointer (some ⟨x.heap.size + 1 + 1, 0, none⟩), .slice (some ⟨x.heap.size, 0, none⟩) c.fns.length c.fns.length, .slice none 0 0] 65)).drew) fun e w' => ∃ v, e = .returned v ∧ OutPost x x.heap.size (ocP (runP c fuel)) v w' := by
  obtain ⟨w1, w2, w3, w4⟩ := four x (.cells (madeCells #[.slice none 0 0, .slice none 0 0] (c.fns.length * 2)) 133) (.map #[] 0) (.cells #[.map (some (x.heap.size + 1)), .slice none 0 0, .int .i64 0] 102) (.cells #[.slice c.ga c.gl.length c.gc, .slice c.na c.ini.length c.nc, .slice c.fa c.fns.length c.fc, .int .i64 (fuel : Int), .int .i64 0, .slice none 0 0, .pointer (some ⟨x.heap.size + 1 + 1, 0, none⟩), .slice (some ⟨x.heap.size, 0, none⟩) c.fns.length c.fns.length, .slice none 0 0] 65)
  exact run_rest (p := x.heap.size + 1 + 1) (gb := x.heap.size) (bl := twoB (x.heap.size + 1) (x.heap.size + 1 + 1)) (B := x.heap.size) hok hv hf (((((Q.refl x).alloc _).alloc _).alloc _).alloc _).drew w4 w1 (mi_two (M := x.heap.size + 1) (p := x.heap.size + 1 + 1) w2 w3 (by omega) (by omega) (by omega)) (Nat.le_refl _) (by omega) (by unfold twoB; omega) (by unfold twoB; omega) (by omega) (by omega)
theorem ord4 {x : World} {c : PC} {fuel : Nat} (hok : c.ok x) (hv : validP c = 0) (hf : fuel ≤ 8388608) :
    Calls Try.prog 32 #[.pointer (some ⟨x.heap.size, 0, none⟩)] (((((x.alloc (.cells #[.slice c.ga c.gl.length c.gc, .slice c.na c.ini.length c.nc, .slice c.fa c.fns.length c.fc, .int .i64 (fuel : Int), .int .i64 0, .slice none 0 0, .pointer (some ⟨x.heap.size + 1 + 1, 0, none⟩), .slice (some ⟨x.heap.size + 1 + 1 + 1, 0, none⟩) c.fns.length c.fns.length, .slice none 0 0] 65)).alloc (.map #[] 0)).alloc (.cells #[.map (some (x.heap.size + 1)), .slice none 0 0, .int .i64 0] 102)).alloc (.cells (madeCells #[.slice none 0 0, .slice none 0 0] (c.fns.length * 2)) 133)).drew) fun e w' => ∃ v, e = .returned v ∧ OutPost x x.heap.size (ocP (runP c fuel)) v w' := by
  obtain ⟨w1, w2, w3, w4⟩ := four x (.cells #[.slice c.ga c.gl.length c.gc, .slice c.na c.ini.length c.nc, .slice c.fa c.fns.length c.fc, .int .i64 (fuel : Int), .int .i64 0, .slice none 0 0, .pointer (some ⟨x.heap.size + 1 + 1, 0, none⟩), .slice (some ⟨x.heap.size + 1 + 1 + 1, 0, none⟩) c.fns.length c.fns.length, .slice none 0 0] 65) (.map #[] 0) (.cells #[.map (some (x.heap.size + 1)), .slice none 0 0, .int .i64 0] 102) (.cells (madeCells #[.slice none 0 0, .slice none 0 0] (c.fns.length * 2)) 133)
  exact run_rest (p := x.heap.size + 1 + 1) (gb := x.heap.size + 1 + 1 + 1) (bl := twoB (x.heap.size + 1) (x.heap.size + 1 + 1)) (B := x.heap.size) hok hv hf (((((Q.refl x).alloc _).alloc _).alloc _).alloc _).drew w1 w4 (mi_two (M := x.heap.size + 1) (p := x.heap.size + 1 + 1) w2 w3 (by omega) (by omega) (by omega)) (Nat.le_refl _) (by omega) (by unfold twoB; omega) (by unfold twoB; omega) (by omega) (by omega)
theorem ord5 {x : World} {c : PC} {fuel : Nat} (hok : c.ok x) (hv : validP c = 0) (hf : fuel ≤ 8388608) :
    Calls Try.prog 32 #[.pointer (some ⟨x.heap.size + 1, 0, none⟩)] (((((x.alloc (.cells (madeCells #[.slice none 0 0, .slice none 0 0] (c.fns.length * 2)) 133)).alloc (.cells #[.slice c.ga c.gl.length c.gc, .slice c.na c.ini.length c.nc, .slice c.fa c.fns.length c.fc, .int .i64 (fuel : Int), .int .i64 0, .slice none 0 0, .pointer (some ⟨x.heap.size + 1 + 1 + 1, 0, none⟩), .slice (some ⟨x.heap.size, 0, none⟩) c.fns.length c.fns.length, .slice none 0 0] 65)).alloc (.map #[] 0)).alloc (.cells #[.map (some (x.heap.size + 1 + 1)), .slice none 0 0, .int .i64 0] 102)).drew) fun e w' => ∃ v, e = .returned v ∧ OutPost x x.heap.size (ocP (runP c fuel)) v w' := by
  obtain ⟨w1, w2, w3, w4⟩ := four x (.cells (madeCells #[.slice none 0 0, .slice none 0 0] (c.fns.length * 2)) 133) (.cells #[.slice c.ga c.gl.length c.gc, .slice c.na c.ini.length c.nc, .slice c.fa c.fns.length c.fc, .int .i64 (fuel : Int), .int .i64 0, .slice none 0 0, .pointer (some ⟨x.heap.size + 1 + 1 + 1, 0, none⟩), .slice (some ⟨x.heap.size, 0, none⟩) c.fns.length c.fns.length, .slice none 0 0] 65) (.map #[] 0) (.cells #[.map (some (x.heap.size + 1 + 1)), .slice none 0 0, .int .i64 0] 102)
  exact run_rest (p := x.heap.size + 1 + 1 + 1) (gb := x.heap.size) (bl := twoB (x.heap.size + 1 + 1) (x.heap.size + 1 + 1 + 1)) (B := x.heap.size) hok hv hf (((((Q.refl x).alloc _).alloc _).alloc _).alloc _).drew w2 w1 (mi_two (M := x.heap.size + 1 + 1) (p := x.heap.size + 1 + 1 + 1) w3 w4 (by omega) (by omega) (by omega)) (Nat.le_refl _) (by omega) (by unfold twoB; omega) (by unfold twoB; omega) (by omega) (by omega)
theorem ord6 {x : World} {c : PC} {fuel : Nat} (hok : c.ok x) (hv : validP c = 0) (hf : fuel ≤ 8388608) :
    Calls Try.prog 32 #[.pointer (some ⟨x.heap.size, 0, none⟩)] (((((x.alloc (.cells #[.slice c.ga c.gl.length c.gc, .slice c.na c.ini.length c.nc, .slice c.fa c.fns.length c.fc, .int .i64 (fuel : Int), .int .i64 0, .slice none 0 0, .pointer (some ⟨x.heap.size + 1 + 1 + 1, 0, none⟩), .slice (some ⟨x.heap.size + 1, 0, none⟩) c.fns.length c.fns.length, .slice none 0 0] 65)).alloc (.cells (madeCells #[.slice none 0 0, .slice none 0 0] (c.fns.length * 2)) 133)).alloc (.map #[] 0)).alloc (.cells #[.map (some (x.heap.size + 1 + 1)), .slice none 0 0, .int .i64 0] 102)).drew) fun e w' => ∃ v, e = .returned v ∧ OutPost x x.heap.size (ocP (runP c fuel)) v w' := by
  obtain ⟨w1, w2, w3, w4⟩ := four x (.cells #[.slice c.ga c.gl.length c.gc, .slice c.na c.ini.length c.nc, .slice c.fa c.fns.length c.fc, .int .i64 (fuel : Int), .int .i64 0, .slice none 0 0, .pointer (some ⟨x.heap.size + 1 + 1 + 1, 0, none⟩), .slice (some ⟨x.heap.size + 1, 0, none⟩) c.fns.length c.fns.length, .slice none 0 0] 65) (.cells (madeCells #[.slice none 0 0, .slice none 0 0] (c.fns.length * 2)) 133) (.map #[] 0) (.cells #[.map (some (x.heap.size + 1 + 1)), .slice none 0 0, .int .i64 0] 102)
  exact run_rest (p := x.heap.size + 1 + 1 + 1) (gb := x.heap.size + 1) (bl := twoB (x.heap.size + 1 + 1) (x.heap.size + 1 + 1 + 1)) (B := x.heap.size) hok hv hf (((((Q.refl x).alloc _).alloc _).alloc _).alloc _).drew w1 w2 (mi_two (M := x.heap.size + 1 + 1) (p := x.heap.size + 1 + 1 + 1) w3 w4 (by omega) (by omega) (by omega)) (Nat.le_refl _) (by omega) (by unfold twoB; omega) (by unfold twoB; omega) (by omega) (by omega)

theorem run_end {w x u : World} {o : Oc} {ta : Option Addr} {tc O : Nat} (hq : Q w x) (ho : u.ownsRow x.heap.size 2 1 (.slice ta o.tr.length tc) o.tr.length (rowI o.tr)) (hb : Below x.heap.size x u) (h1 : w.heap.size ≤ O) (h2 : O < x.heap.size) (a0 a1 a2 a3 a4 a5 : Value) :
    OutPost w w.heap.size o (.agg (ocA o (.slice ta o.tr.length tc))) ((((((u.setCell ⟨O, 0, none⟩ a0).setCell ⟨O, 1, none⟩ a1).setCell ⟨O, 2, none⟩ a2).setCell ⟨O, 3, none⟩ a3).setCell ⟨O, 4, none⟩ a4).setCell ⟨O, 5, none⟩ a5) := by
  refine ⟨ta, tc, rfl, Me.ownsRow_mono (row_keep ho (fun k hk => ?_)) hq.size, ?_⟩
  · have hk2 : x.heap.size ≤ k := by
      rcases ho.2 with ⟨e0, -⟩ | ⟨g, cap, cur, e0, hg, -⟩
      · rw [e0] at hk; cases hk
      · rw [e0] at hk; injection hk with hk; subst hk; exact hg
    have hne : k ≠ O := by omega
    rw [Below.heap_setCell _ _ _ _ hne, Below.heap_setCell _ _ _ _ hne, Below.heap_setCell _ _ _ _ hne, Below.heap_setCell _ _ _ _ hne, Below.heap_setCell _ _ _ _ hne, Below.heap_setCell _ _ _ _ hne]
  · have hqu : Q w u := hq.trans hb
    exact (((((hqu.set h1 _).set h1 _).set h1 _).set h1 _).set h1 _).set h1 _

set_option maxRecDepth 100000 in
set_option maxHeartbeats 4000000 in
theorem run_good (w : World) (c : PC) (hcok : c.ok w) (fuel : Nat) (hf : fuel ≤ 8388608) (hv : validP c = 0) : Calls Try.prog 10 #[c.v, .int .i64 (fuel : Int)] w fun e w' => ∃ v, e = .returned (.tuple #[v, .int .i64 0]) ∧ OutPost w w.heap.size (ocP (runP c fuel)) v w' := by
  have VA := hideIt (valid_any (bxO (bxC w c)) c (hcok.keep (((Q.refl w).alloc _).alloc _)))
  rw [hv] at VA
  have d0 : decide ((fuel : Int) < 0) = false := by simp
  have d1 : decide (8388608 < (fuel : Int)) = false := by rw [decide_eq_false_iff_not]; omega
  obtain ⟨i0, hi, hz0, hz1, hz2⟩ := info_parts rg_infoR
  have hfs := hcok.fsok
  have h4 : c.fns.length * 64 ≤ 140737488351232 := hfs.2.2.2
  have hfl : c.fns.length ≤ 2199023255488 := Nat.le_of_mul_le_mul_right (c := 64) (Nat.le_trans h4 (by decide)) (by decide)
  have hmk : ∀ X : World, (Instr.makeSlice 63 (.int .i64 (c.fns.length : Int)) (.int .i64 (c.fns.length : Int))).run Try.prog X = .ok (.slice (some ⟨X.heap.size, 0, none⟩) c.fns.length c.fns.length) (X.alloc (.cells (madeCells #[.slice none 0 0, .slice none 0 0] (c.fns.length * 2)) 133)) := fun X => by
    have := run_make (P := Try.prog) X 63 133 i0 _ Try.underlying63 hi hz0 .i64 .i64 (c.fns.length : Int) (c.fns.length : Int) (by omega) (Int.le_refl _) (by rw [hz2]; omega) (by omega)
    rw [hz1] at this
    simpa [Value.cells] using this
  have B1 := hideIt (bxO_at w c)
  have NW := hideIt (fun X => new_exact X)
  have HC := hideIt (And.intro hcok (And.intro hv hf))
  have CB0 := hideIt (show ∀ X, Q (bxO (bxC w c)) X → X.cell? ⟨w.heap.size, 0, none⟩ = some (.slice c.ga c.gl.length c.gc) ∧ X.cell? ⟨w.heap.size, 1, none⟩ = some (.slice c.na c.ini.length c.nc) ∧ X.cell? ⟨w.heap.size, 2, none⟩ = some (.slice c.fa c.fns.length c.fc) from fun X hX => (bxC_at (((Q.refl _).alloc _).trans hX)).three)
  clear hcok hv hf hi hz0 hz1 hz2 hfs
  go_enter Try.func10, Try.ntmps10
  go_wp2_with (first | (go_at_call 30; refine VA.out.mono ?_; rintro e x ⟨rfl, q⟩; have HQ := hideIt q; obtain ⟨x0, x1, x2⟩ := CB0.out x q; clear q) | fail)
  have hq := HQ.out
  go_region_held3 (fun y : World => Q x y ∧ y.cell? ⟨w.heap.size, 0, none⟩ = some (.slice c.ga c.gl.length c.gc) ∧ y.cell? ⟨w.heap.size, 1, none⟩ = some (.slice c.na c.ini.length c.nc) ∧ y.cell? ⟨w.heap.size, 2, none⟩ = some (.slice c.fa c.fns.length c.fc)) (first | exact ⟨(Q.refl x).drew, CB0.out _ (hq.trans (Q.refl x).drew)⟩ | (refine (fun q => ⟨q, CB0.out _ (hq.trans q)⟩) ?_; repeat (first | assumption | with_reducible exact Q.refl x | with_reducible refine Q.drew ?_ | with_reducible refine Q.alloc ?_ _ )) | go_keep) (first | (go_at_call 31; refine (NW.out _).mono ?_; rintro e y ⟨rfl, rfl⟩))
  all_goals rename_i hHeld
  all_goals clear hHeld
  all_goals have hb1 := (hq.block (w.heap.size + 1) (by simp)).trans B1.out
  all_goals have lx : w.heap.size + 2 ≤ x.heap.size := by have := hq.size; simp at this; omega
  all_goals have QW := hideIt ((((Q.refl w).alloc _).alloc _).trans hq)
  all_goals go_wp2_with (fail)
  all_goals go_at_call 32
  all_goals have hok := HC.out.1.keep QW.out
  all_goals first
    | with_reducible refine Calls.mono (ord1 hok HC.out.2.1 HC.out.2.2) ?_
    | with_reducible refine Calls.mono (ord2 hok HC.out.2.1 HC.out.2.2) ?_
    | with_reducible refine Calls.mono (ord3 hok HC.out.2.1 HC.out.2.2) ?_
    | with_reducible refine Calls.mono (ord4 hok HC.out.2.1 HC.out.2.2) ?_
    | with_reducible refine Calls.mono (ord5 hok HC.out.2.1 HC.out.2.2) ?_
    | with_reducible refine Calls.mono (ord6 hok HC.out.2.1 HC.out.2.2) ?_
  all_goals
    rintro e u ⟨v, rfl, ta, tc, rfl, ho, hb⟩
    have b2 := (hb.block (w.heap.size + 1) (by omega)).trans hb1
    have v0 := Me.cell_of_block b2 0
    have v1 := Me.cell_of_block b2 1
    have v2 := Me.cell_of_block b2 2
    have v3 := Me.cell_of_block b2 3
    have v4 := Me.cell_of_block b2 4
    have v5 := Me.cell_of_block b2 5
    have f0 := fun j : Nat => Me.free_of_block b2 j
    have FE := hideIt (run_end (O := w.heap.size + 1) QW.out ho hb (by omega) (by omega))
    generalize hoc : ocP (runP c fuel) = oc at *
    obtain ⟨oh, ox, ot, os, on, otr⟩ := oc
    have HOC := hideIt hoc
    clear hoc ho hb b2 hb1 hok x0 x1 x2 hmk
    go_wp2_with (fail)
    exact bodyPost_ret (v := .tuple #[.agg (ocA ⟨oh, ox, ot, os, on, otr⟩ (.slice ta otr.length tc)), .int .i64 0]) (by simp [results, Try.results10, go_sem, v0, v1, v2, v3, v4, v5]) rfl ⟨_, rfl, by rw [HOC.out]; exact FE.out _ _ _ _ _ _⟩

end Go.Proofs.Ytaomkfhbnakbjaa
