/-
  The program of the statement VmCalls, and its plain run: calls within calls, as deep as may be, and one more; no program in sight; the conditions: 1 to 2100 functions, frames of 1 to 9 cells.
-/
import Derived.Test.YtejkblbhnbbjaaaVmRa
namespace Go.Proofs.Ytejkblbhnbbjaaa
open Go.RowKit
set_option linter.unusedVariables false
set_option linter.unusedSimpArgs false

namespace Ca
abbrev q0 : Int := Cd.pk 40 0 1 0 0 0
abbrev q1 : Int := Cd.pk 39 0 0 1 0 0
abbrev q2 : Int := Cd.pk 20 4 2 0 0 1
abbrev q3 : Int := Cd.pk 1 4 3 1 2 0
abbrev q4 : Int := Cd.pk 32 0 0 3 0 0
abbrev q5 (i : Nat) : Int := Cd.pk 33 0 4 0 0 (i : Int)
abbrev q6 : Int := Cd.pk 38 0 5 0 0 0
abbrev q7 : Int := Cd.pk 1 4 6 4 5 0
abbrev q8 : Int := Cd.pk 37 0 0 6 0 0
abbrev qz : Int := Cd.pk 37 0 0 1 0 0
/-- A function's words. -/
def cw : Nat → List Int
  | 0 => [q0, q1, qz]
  | i + 1 => [q0, q1, q2, q3, q4, q5 i, q6, q7, q8]
def wsL : Nat → List Int
  | 0 => []
  | n + 1 => wsL n ++ cw n
def stL : Nat → List Int
  | 0 => []
  | n + 1 => stL n ++ [((wsL n).length : Int)]
theorem st_len (n : Nat) : (stL n).length = n := by induction n with
  | zero => rfl
  | succ n ih => simp [stL, ih]
theorem ws_len (n : Nat) : (wsL (n + 1)).length = 3 + 9 * n := by induction n with
  | zero => rfl
  | succ n ih => rw [wsL, List.length_append, ih]; simp [cw]; omega
theorem ws_len_le (n : Nat) : (wsL n).length ≤ 9 * n := by
  cases n with
  | zero => simp [wsL]
  | succ n => rw [ws_len]; omega
theorem ws_lt {i n : Nat} (h : i < n) : (wsL i).length < (wsL n).length := by
  cases n with
  | zero => omega
  | succ n =>
    cases i with
    | zero => rw [ws_len]; simp [wsL]; omega
    | succ i => rw [ws_len, ws_len]; omega
theorem ws_at : ∀ (n : Nat) {i j : Nat} {v : Int}, i < n → (cw i)[j]? = some v → (wsL n)[(wsL i).length + j]? = some v
  | 0, i, j, v, h, _ => by omega
  | n + 1, i, j, v, h, e => by
    rw [wsL]
    by_cases hi : i < n
    · have := ws_at n hi e
      rw [List.getElem?_append_left (List.getElem?_eq_some_iff.1 this).1]
      exact this
    · obtain rfl : i = n := by omega
      rw [List.getElem?_append_right (by omega), show (wsL i).length + j - (wsL i).length = j by omega]
      exact e
theorem st_at : ∀ (n : Nat) {i : Nat}, i < n → (stL n).getD i 0 = ((wsL i).length : Int)
  | 0, i, h => by omega
  | n + 1, i, h => by
    rw [stL]
    by_cases hi : i < n
    · have := st_at n hi
      rw [List.getD_eq_getElem?_getD] at this ⊢
      rw [List.getElem?_append_left (by rw [st_len]; exact hi)]
      exact this
    · obtain rfl : i = n := by omega
      rw [List.getD_eq_getElem?_getD, List.getElem?_append_right (by rw [st_len]; omega), st_len]
      simp

/-- The program of n functions, each with a frame of g + 1 cells. -/
structure Im (im : PIm) (n g : Nat) : Prop where
  ws : im.ws = wsL n
  st : im.st = stL n
  fr : im.fr = List.replicate n ((g + 1 : Nat) : Int)
  da : im.da = []

theorem allP_snoc (N : Nat) : ∀ (l m : List Int) (a b : Int), l.length = m.length → allP N (l ++ [a]) (m ++ [b]) = (allP N l m && oneP N a b)
  | [], [], a, b, _ => by simp [allP]
  | x :: l, y :: m, a, b, h => by
    simp only [List.cons_append, allP, allP_snoc N l m a b (by simpa using h), Bool.and_assoc]
  | [], y :: m, a, b, h => by simp at h
  | x :: l, [], a, b, h => by simp at h
theorem rep_snoc (n : Nat) (x : Int) : List.replicate (n + 1) x = List.replicate n x ++ [x] := List.replicate_succ'
theorem all_ok (N g : Nat) (hg : g < 9) : ∀ n, (∀ i, i < n → (wsL i).length < N) → allP N (stL n) (List.replicate n ((g + 1 : Nat) : Int)) = true
  | 0, _ => rfl
  | n + 1, h => by
    rw [stL, rep_snoc, allP_snoc _ _ _ _ _ (by simp [st_len]), all_ok N g hg n (fun i hi => h i (by omega))]
    have := h n (by omega)
    simp [oneP]; omega
theorem form {im : PIm} {n g : Nat} (H : Im im n g) (hn : 1 ≤ n) (hn2 : n ≤ 2100) (hg : g < 9) : formP im = true := by
  have hl := ws_len_le n
  unfold formP
  rw [H.ws, H.st, H.fr, H.da, all_ok _ g hg n (fun i hi => ws_lt hi)]
  simp [st_len]
  omega

theorem f0 : Fs q0 40 0 1 0 0 0 := fs_pk (by omega) (by omega) (by omega) (by omega) (by omega) (by omega)
theorem f1 : Fs q1 39 0 0 1 0 0 := fs_pk (by omega) (by omega) (by omega) (by omega) (by omega) (by omega)
theorem f2 : Fs q2 20 4 2 0 0 1 := fs_pk (by omega) (by omega) (by omega) (by omega) (by omega) (by omega)
theorem f3 : Fs q3 1 4 3 1 2 0 := fs_pk (by omega) (by omega) (by omega) (by omega) (by omega) (by omega)
theorem f4 : Fs q4 32 0 0 3 0 0 := fs_pk (by omega) (by omega) (by omega) (by omega) (by omega) (by omega)
theorem f5 {i : Nat} (h : i ≤ 4294967295) : Fs (q5 i) 33 0 4 0 0 i := fs_pk (by omega) (by omega) (by omega) (by omega) (by omega) (by omega)
theorem f6 : Fs q6 38 0 5 0 0 0 := fs_pk (by omega) (by omega) (by omega) (by omega) (by omega) (by omega)
theorem f7 : Fs q7 1 4 6 4 5 0 := fs_pk (by omega) (by omega) (by omega) (by omega) (by omega) (by omega)
theorem f8 : Fs q8 37 0 0 6 0 0 := fs_pk (by omega) (by omega) (by omega) (by omega) (by omega) (by omega)
theorem fz : Fs qz 37 0 0 1 0 0 := fs_pk (by omega) (by omega) (by omega) (by omega) (by omega) (by omega)
theorem add1 {x y : Int} (h : 0 ≤ x ∧ x ≤ 1000000000) (k : 0 ≤ y ∧ y ≤ 1000000000) : Burin.do1 1 4 x y = x + y := by
  simp [Burin.do1, Burin.keep1, Burin.fit, Burin.wr, Burin.low, Burin.high]; omega
theorem add2 {x y : Int} (h : 0 ≤ x ∧ x ≤ 1000000000) (k : 0 ≤ y ∧ y ≤ 1000000000) : Burin.do2 1 4 x y = 0 := by
  simp [Burin.do2, Burin.keep2, Burin.fit, Burin.wr, Burin.low, Burin.high]; omega
theorem wr1 : Burin.wr 4 1 = 1 := by decide

theorem last_at (C : List Cl) (c : Cl) : (C ++ [c])[C.length]? = some c := by simp
theorem last_set (C : List Cl) (c d : Cl) : (C ++ [c]).set C.length d = C ++ [d] := by rw [List.set_append_right _ _ (Nat.le_refl _), Nat.sub_self]; rfl
theorem len1 (C : List Cl) (c : Cl) : (C ++ [c]).length - 1 = C.length := by simp
theorem step_c {im : PIm} {mem : List Int} {C : List Cl} {rg gt rd : List Int} {pl ba an : Nat} {tr : List Int} {v : Int} (hv : im.ws[pl]? = some v) (hg : goodW v = true) : stepP im mem (C ++ [⟨rg, gt, rd, pl, ba, an⟩]) tr = doP im mem (C ++ [⟨rg, gt, rd, pl + 1, ba, an⟩]) tr ⟨rg, gt, rd, pl + 1, ba, an⟩ v := by
  unfold stepP onP
  rw [len1, last_at]
  dsimp only
  rw [hv]
  dsimp only
  rw [last_set, if_pos hg]

variable {im : PIm} {n g : Nat}
section
variable {C : List Cl} {m tr : List Int} {x : Int} {an i k N : Nat}
abbrev got (x : Int) : List Int := [x, 0, 0, 0, 0, 0]
/-- The first two words. -/
theorem two (H : Im im n g) (hi : i < n) :
    loopP im (k + 2) N (m ++ 0 :: List.replicate g 0) (C ++ [⟨z8, got x, z6, (wsL i).length, m.length, an⟩]) tr = loopP im k (N + 2) (m ++ x :: List.replicate g 0) (C ++ [⟨[0, x, 0, 0, 0, 0, 0, 0], got x, z6, (wsL i).length + 2, m.length, an⟩]) tr := by
  have v0 : im.ws[(wsL i).length]? = some q0 := by rw [H.ws]; exact ws_at n (j := 0) hi (by cases i <;> rfl)
  have v1 : im.ws[(wsL i).length + 1]? = some q1 := by rw [H.ws]; exact ws_at n (j := 1) hi (by cases i <;> rfl)
  rw [loop_go (m' := m ++ 0 :: List.replicate g 0) (c' := C ++ [⟨[0, x, 0, 0, 0, 0, 0, 0], got x, z6, (wsL i).length + 1, m.length, an⟩]) (t' := tr) (by
    rw [step_c v0 f0.g]
    simp [doP, f0.o, f0.t, f0.d, f0.a, f0.b, f0.i, val1, val2])]
  rw [loop_go (m' := m ++ x :: List.replicate g 0) (c' := C ++ [⟨[0, x, 0, 0, 0, 0, 0, 0], got x, z6, (wsL i).length + 2, m.length, an⟩]) (t' := tr) (by
    rw [step_c v1 f1.g]
    simp [doP, f1.o, f1.t, f1.d, f1.a, f1.b, f1.i, storeP, inM]
    omega)]
/-- The three words behind them, of a function that calls. -/
theorem five (H : Im im n g) (hi : i + 1 < n) (hx : 0 ≤ x ∧ x ≤ 1000000000) :
    loopP im (k + 5) N (m ++ 0 :: List.replicate g 0) (C ++ [⟨z8, got x, z6, (wsL (i + 1)).length, m.length, an⟩]) tr = loopP im k (N + 5) (m ++ x :: List.replicate g 0) (C ++ [⟨[0, x, 1, x + 1, 0, 0, 0, 0], got x, got (x + 1), (wsL (i + 1)).length + 5, m.length, an⟩]) tr := by
  have v2 : im.ws[(wsL (i + 1)).length + 2]? = some q2 := by rw [H.ws]; exact ws_at n (j := 2) hi rfl
  have v3 : im.ws[(wsL (i + 1)).length + 3]? = some q3 := by rw [H.ws]; exact ws_at n (j := 3) hi rfl
  have v4 : im.ws[(wsL (i + 1)).length + 4]? = some q4 := by rw [H.ws]; exact ws_at n (j := 4) hi rfl
  rw [show k + 5 = (k + 3) + 2 by omega, two H hi]
  generalize (wsL (i + 1)).length = s at *
  rw [loop_go (m' := m ++ x :: List.replicate g 0) (c' := C ++ [⟨[0, x, 1, 0, 0, 0, 0, 0], got x, z6, s + 3, m.length, an⟩]) (t' := tr) (by
    rw [step_c v2 f2.g]
    simp [doP, f2.o, f2.t, f2.d, f2.a, f2.b, f2.i, val1, val2, wr1])]
  rw [loop_go (m' := m ++ x :: List.replicate g 0) (c' := C ++ [⟨[0, x, 1, x + 1, 0, 0, 0, 0], got x, z6, s + 4, m.length, an⟩]) (t' := tr) (by
    rw [step_c v3 f3.g]
    simp [doP, f3.o, f3.t, f3.d, f3.a, f3.b, f3.i, val1, val2, add1 hx (show 0 ≤ (1 : Int) ∧ (1 : Int) ≤ 1000000000 by omega), add2 hx (show 0 ≤ (1 : Int) ∧ (1 : Int) ≤ 1000000000 by omega)])]
  rw [loop_go (m' := m ++ x :: List.replicate g 0) (c' := C ++ [⟨[0, x, 1, x + 1, 0, 0, 0, 0], got x, got (x + 1), s + 5, m.length, an⟩]) (t' := tr) (by
    rw [step_c v4 f4.g]
    simp [doP, f4.o, f4.t, f4.d, f4.a, f4.b, f4.i])]
theorem rep_g : List.replicate (g + 1) (0 : Int) = 0 :: List.replicate g 0 := rfl
/-- A call. -/
theorem six (H : Im im n g) (hi : i + 1 < n) (hn : n ≤ 2100) (hx : 0 ≤ x ∧ x ≤ 1000000000) (hC : C.length + 1 < 2000) (hm : m.length + 2 * (g + 1) ≤ 65536) :
    loopP im (k + 6) N (m ++ 0 :: List.replicate g 0) (C ++ [⟨z8, got x, z6, (wsL (i + 1)).length, m.length, an⟩]) tr = loopP im k (N + 6) ((m ++ x :: List.replicate g 0) ++ 0 :: List.replicate g 0) ((C ++ [⟨[0, x, 1, x + 1, 0, 0, 0, 0], got x, got (x + 1), (wsL (i + 1)).length + 6, m.length, an⟩]) ++ [⟨z8, got (x + 1), z6, (wsL i).length, (m ++ x :: List.replicate g 0).length, 4⟩]) tr := by
  have v5 : im.ws[(wsL (i + 1)).length + 5]? = some (q5 i) := by rw [H.ws]; exact ws_at n (j := 5) hi rfl
  have F := f5 (i := i) (by omega)
  rw [show k + 6 = (k + 1) + 5 by omega, five H hi hx]
  refine loop_go ?_
  rw [step_c v5 F.g]
  have hs : im.st.length = n := by rw [H.st, st_len]
  have hr : im.fr.getD i 0 = ((g + 1 : Nat) : Int) := by rw [H.fr, List.getD_eq_getElem?_getD, List.getElem?_replicate, if_pos (by omega)]; rfl
  have ht : im.st.getD i 0 = ((wsL i).length : Int) := by rw [H.st]; exact st_at n (by omega)
  simp only [doP, F.o, F.i, F.d, if_true]
  rw [show ((i : Int)).toNat = i by omega, show ((4 : Int)).toNat = 4 by rfl]
  unfold beginP
  rw [if_neg (by rw [hs]; simp; omega), hr, if_neg (by simp; omega), ht]
  simp [rep_g]
theorem six_bad (H : Im im n g) (hi : i + 1 < n) (hn : n ≤ 2100) (hx : 0 ≤ x ∧ x ≤ 1000000000) (hC : C.length + 1 = 2000) :
    loopP im (k + 6) N (m ++ 0 :: List.replicate g 0) (C ++ [⟨z8, got x, z6, (wsL (i + 1)).length, m.length, an⟩]) tr = ⟨false, 0, 5, false, N + 6, tr⟩ := by
  have v5 : im.ws[(wsL (i + 1)).length + 5]? = some (q5 i) := by rw [H.ws]; exact ws_at n (j := 5) hi rfl
  have F := f5 (i := i) (by omega)
  rw [show k + 6 = (k + 1) + 5 by omega, five H hi hx]
  refine loop_stop ?_
  rw [step_c v5 F.g]
  simp only [doP, F.o, F.i, F.d, if_true]
  unfold beginP
  rw [if_pos (by simp; omega)]
/-- The words behind a call, but the last. -/
theorem eight (H : Im im n g) (hi : i + 1 < n) (hx : 0 ≤ x ∧ x ≤ 1000000000) {s : Int} (hs : 0 ≤ s ∧ s ≤ 1000000000) :
    loopP im (k + 2) N (m ++ x :: List.replicate g 0) (C ++ [⟨[0, x, 1, x + 1, s, 0, 0, 0], got x, got (x + 1), (wsL (i + 1)).length + 6, m.length, an⟩]) tr = loopP im k (N + 2) (m ++ x :: List.replicate g 0) (C ++ [⟨[0, x, 1, x + 1, s, x, s + x, 0], got x, got (x + 1), (wsL (i + 1)).length + 8, m.length, an⟩]) tr := by
  have v6 : im.ws[(wsL (i + 1)).length + 6]? = some q6 := by rw [H.ws]; exact ws_at n (j := 6) hi rfl
  have v7 : im.ws[(wsL (i + 1)).length + 7]? = some q7 := by rw [H.ws]; exact ws_at n (j := 7) hi rfl
  generalize (wsL (i + 1)).length = p at *
  rw [loop_go (m' := m ++ x :: List.replicate g 0) (c' := C ++ [⟨[0, x, 1, x + 1, s, x, 0, 0], got x, got (x + 1), p + 7, m.length, an⟩]) (t' := tr) (by
    rw [step_c v6 f6.g]
    have h1 : inM (m ++ x :: List.replicate g 0) (m.length : Int) = true := by simp [inM]; omega
    have h2 : getM (m ++ x :: List.replicate g 0) (m.length : Int) = x := by simp [getM]
    simp [doP, f6.o, f6.t, f6.d, f6.a, f6.b, f6.i, val1, val2, h1, h2])]
  rw [loop_go (m' := m ++ x :: List.replicate g 0) (c' := C ++ [⟨[0, x, 1, x + 1, s, x, s + x, 0], got x, got (x + 1), p + 8, m.length, an⟩]) (t' := tr) (by
    rw [step_c v7 f7.g]
    simp [doP, f7.o, f7.t, f7.d, f7.a, f7.b, f7.i, val1, val2, add1 hs hx, add2 hs hx])]
/-- The answer: in a call, and at the end. -/
theorem ret_c {v : Int} {a : Nat} {r : Int} {rg gt rd : List Int} {pl : Nat} {p : Cl} {tr' : List Int} (hv : im.ws[pl]? = some v) (F : Fs v 37 0 0 a 0 0) (hr : rg.getD a 0 = r) :
    loopP im (k + 1) N (m ++ tr') ((C ++ [p]) ++ [⟨rg, gt, rd, pl, m.length, an⟩]) tr = loopP im k (N + 1) m (C ++ [{ p with rg := p.rg.set an r }]) tr := by
  refine loop_go ?_
  rw [step_c hv F.g]
  simp only [doP, F.o, F.a, show ((37 : Int) = 33) = False by simp, if_false, if_true]
  have e1 : ((C ++ [p]) ++ [(⟨rg, gt, rd, pl + 1, m.length, an⟩ : Cl)]).length = C.length + 2 := by simp
  have e2 : ((a : Int)).toNat = a := by omega
  rw [e1, e2, hr, if_neg (by omega), show C.length + 2 - 2 = C.length by omega, show C.length + 2 - 1 = (C ++ [p]).length by simp]
  rw [List.append_assoc, List.getElem?_append_right (Nat.le_refl _), Nat.sub_self]
  simp only [List.singleton_append, List.getElem?_cons_zero]
  rw [show List.take (C ++ [p]).length (C ++ [p, (⟨rg, gt, rd, pl + 1, m.length, an⟩ : Cl)]) = C ++ [p] by rw [show C ++ [p, (⟨rg, gt, rd, pl + 1, m.length, an⟩ : Cl)] = (C ++ [p]) ++ [(⟨rg, gt, rd, pl + 1, m.length, an⟩ : Cl)] by simp]; exact List.take_left, last_set, show List.take m.length (m ++ tr') = m from List.take_left]
theorem ret_z {v : Int} {a : Nat} {r : Int} {rg gt rd : List Int} {pl ba : Nat} {mem : List Int} (hv : im.ws[pl]? = some v) (F : Fs v 37 0 0 a 0 0) (hr : rg.getD a 0 = r) :
    loopP im (k + 1) N mem ([⟨rg, gt, rd, pl, ba, an⟩]) tr = ⟨true, r, 0, false, N + 1, tr⟩ := by
  refine loop_halt ?_
  have := step_c (C := []) (im := im) (mem := mem) (tr := tr) (rg := rg) (gt := gt) (rd := rd) (ba := ba) (an := an) hv F.g
  rw [List.nil_append, List.nil_append] at this
  rw [this]
  have e2 : ((a : Int)).toNat = a := by omega
  simp only [doP, F.o, F.a, show ((37 : Int) = 33) = False by simp, if_false, if_true, e2, hr]
  simp

/-- What function i answers, where it is given x. -/
def S : Nat → Int → Int
  | 0, x => x
  | i + 1, x => S i (x + 1) + x
theorem S_bd : ∀ (i : Nat) (x : Int), 0 ≤ x → x + i ≤ 2100 → 0 ≤ S i x ∧ S i x ≤ 2100 * ((i : Int) + 1)
  | 0, x, h, k => by simp [S]; omega
  | i + 1, x, h, k => by
    have := S_bd i (x + 1) (by omega) (by omega)
    rw [S]; omega
theorem S_two : ∀ (i : Nat) (x : Int), 2 * S i x = ((i : Int) + 1) * (2 * x + (i : Int))
  | 0, x => by simp [S]
  | i + 1, x => by
    have := S_two i (x + 1)
    rw [S, Int.mul_add, this]
    push_cast
    simp only [Int.add_mul, Int.mul_add]
    omega
theorem goes (H : Im im n g) (hn : n ≤ 2100) (hg : g < 9) : ∀ (i : Nat) {C : List Cl} {p : Cl} {m : List Int} {x : Int} {an k N : Nat}, i < n → 0 ≤ x → x + i ≤ 2100 → C.length + i + 2 ≤ 2000 → m.length + 9 * (i + 1) ≤ 65536 →
    loopP im (k + (9 * i + 3)) N (m ++ 0 :: List.replicate g 0) ((C ++ [p]) ++ [⟨z8, got x, z6, (wsL i).length, m.length, an⟩]) tr = loopP im k (N + (9 * i + 3)) m (C ++ [{ p with rg := p.rg.set an (S i x) }]) tr
  | 0, C, p, m, x, an, k, N, hi, h0, hx, hC, hm => by
    have v : im.ws[(wsL 0).length + 2]? = some qz := by rw [H.ws]; exact ws_at n (j := 2) hi rfl
    rw [show k + (9 * 0 + 3) = (k + 1) + 2 by omega, two H hi, ret_c (r := x) (a := 1) v fz rfl]
    rfl
  | i + 1, C, p, m, x, an, k, N, hi, h0, hx, hC, hm => by
    have v : im.ws[(wsL (i + 1)).length + 8]? = some q8 := by rw [H.ws]; exact ws_at n (j := 8) hi rfl
    have hb := S_bd i (x + 1) (by omega) (by omega)
    rw [show k + (9 * (i + 1) + 3) = ((k + 1 + 2) + (9 * i + 3)) + 6 by omega, six H hi hn (by omega) (by simp; omega) (by omega), goes H hn hg i (by omega) (by omega) (by omega) (by simp; omega) (by simp; omega)]
    rw [show ([0, x, 1, x + 1, 0, 0, 0, 0] : List Int).set 4 (S i (x + 1)) = [0, x, 1, x + 1, S i (x + 1), 0, 0, 0] from rfl, eight H hi (by omega) (by omega), ret_c (r := S i (x + 1) + x) (a := 6) v f8 rfl]
    rw [show N + 6 + (9 * i + 3) + 2 + 1 = N + (9 * (i + 1) + 3) by omega]
    rfl
theorem deep (H : Im im n g) (hn : n ≤ 2100) (hg : g < 9) : ∀ (r : Nat) {C : List Cl} {m : List Int} {x : Int} {an i k N : Nat}, C.length + 1 + r = 2000 → r < i → i < n → 0 ≤ x → x + r ≤ 2100 → m.length + 9 * (r + 1) ≤ 65536 →
    loopP im (k + 6 * (r + 1)) N (m ++ 0 :: List.replicate g 0) (C ++ [⟨z8, got x, z6, (wsL i).length, m.length, an⟩]) tr = ⟨false, 0, 5, false, N + 6 * (r + 1), tr⟩
  | 0, C, m, x, an, i, k, N, hC, hr, hi, h0, hx, hm => by
    obtain ⟨j, rfl⟩ : ∃ j, i = j + 1 := ⟨i - 1, by omega⟩
    exact six_bad H hi hn (by omega) (by omega)
  | r + 1, C, m, x, an, i, k, N, hC, hr, hi, h0, hx, hm => by
    obtain ⟨j, rfl⟩ : ∃ j, i = j + 1 := ⟨i - 1, by omega⟩
    rw [show k + 6 * (r + 1 + 1) = (k + 6 * (r + 1)) + 6 by omega, six H hi hn (by omega) (by omega) (by omega), deep H hn hg r (by simp; omega) (by omega) (by omega) (by omega) (by omega) (by simp; omega)]
    rw [show N + 6 + 6 * (r + 1) = N + 6 * (r + 1 + 1) by omega]
end
theorem begin0 (H : Im im n g) (hn : 1 ≤ n) (hg : g < 9) : beginP im (im.st.length - 1) z6 0 im.da [] = some ([] ++ 0 :: List.replicate g 0, [] ++ [⟨z8, got 0, z6, (wsL (n - 1)).length, ([] : List Int).length, 0⟩]) := by
  have hs : im.st.length = n := by rw [H.st, st_len]
  have hr : im.fr.getD (n - 1) 0 = ((g + 1 : Nat) : Int) := by rw [H.fr, List.getD_eq_getElem?_getD, List.getElem?_replicate, if_pos (by omega)]; rfl
  have ht : im.st.getD (n - 1) 0 = ((wsL (n - 1)).length : Int) := by rw [H.st]; exact st_at n (by omega)
  unfold beginP
  rw [hs, if_neg (by simp; omega), hr, H.da, if_neg (by simp; omega), ht]
  simp [rep_g]
theorem run_deep (H : Im im n g) (hn : 2000 < n) (hn2 : n ≤ 2100) (hg : g < 9) : runP im 40000 = ⟨false, 0, 5, false, 12000, []⟩ := by
  unfold runP
  rw [begin0 H (by omega) hg]
  exact deep (k := 28000) (N := 0) H hn2 hg 1999 (C := []) (m := []) (x := 0) (an := 0) (i := n - 1) (by simp) (by omega) (by omega) (by omega) (by omega) (by simp)
theorem run_halts (H : Im im n g) (hn : 1 ≤ n) (hn2 : n ≤ 2000) (hg : g < 9) : ∃ N : Nat, runP im 40000 = ⟨true, S (n - 1) 0, 0, false, N, []⟩ := by
  unfold runP
  rw [begin0 H hn hg]
  dsimp only
  by_cases h1 : n = 1
  · subst h1
    have v : im.ws[(wsL 0).length + 2]? = some qz := by rw [H.ws]; exact ws_at 1 (j := 2) (by omega) rfl
    refine ⟨3, ?_⟩
    rw [show 40000 = (39997 + 1) + 2 by rfl, two (i := 0) H (by omega), List.nil_append, List.nil_append]
    exact ret_z (r := 0) (a := 1) v fz rfl
  · obtain ⟨i, rfl⟩ : ∃ i, n = i + 2 := ⟨n - 2, by omega⟩
    have hb := S_bd i (0 + 1) (by omega) (by omega)
    have v : im.ws[(wsL (i + 1)).length + 8]? = some q8 := by rw [H.ws]; exact ws_at (i + 2) (j := 8) (by omega) rfl
    refine ⟨9 * i + 12, ?_⟩
    rw [show i + 2 - 1 = i + 1 by omega, show 40000 = ((39988 - 9 * i + 1 + 2) + (9 * i + 3)) + 6 by omega, six H (by omega) (by omega) (by omega) (by simp) (by simp; omega), goes H (by omega) hg i (by omega) (by omega) (by omega) (by simp; omega) (by simp; omega)]
    rw [show ([0, 0, 1, 0 + 1, 0, 0, 0, 0] : List Int).set 4 (S i (0 + 1)) = [0, 0, 1, 0 + 1, S i (0 + 1), 0, 0, 0] from rfl, eight H (by omega) (by omega) (by omega), List.nil_append, List.nil_append]
    refine (ret_z (r := S i (0 + 1) + 0) (a := 6) v f8 rfl).trans ?_
    rw [show 0 + 6 + (9 * i + 3) + 2 + 1 = 9 * i + 12 by omega]
    rfl
theorem S_is (n : Nat) (h : 1 ≤ n) : S (n - 1) 0 = (n : Int) * ((n : Int) - 1) / 2 := by
  have := S_two (n - 1) 0
  have e : ((n - 1 : Nat) : Int) = (n : Int) - 1 := by omega
  rw [e] at this
  have e2 : (n : Int) - 1 + 1 = n := by omega
  rw [e2, Int.mul_zero, Int.zero_add] at this
  omega
end Ca
end Go.Proofs.Ytejkblbhnbbjaaa
