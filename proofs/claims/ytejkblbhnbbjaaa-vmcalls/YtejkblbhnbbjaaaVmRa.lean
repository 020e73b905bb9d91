/-
  The program of the statement VmReckons, and its plain run; no program in sight; the conditions: an operation of two numbers, a type, two numbers of 32 bits.
-/
import Derived.Test.YtejkblbhnbbjaaaVmZa
import Derived.Test.YtejkblbhnbbjaaaNuDo
namespace Go.Proofs.Ytejkblbhnbbjaaa
open Go.RowKit
set_option linter.unusedVariables false
set_option linter.unusedSimpArgs false

/-- A number of 32 bits, without sign. -/
abbrev u32 (x : Int) : Int := x % 4294967296
abbrev rkW (op t x y : Int) : List Int := [Cd.pk 20 4 0 0 0 (u32 x), Cd.pk 20 4 1 0 0 (u32 y), Cd.pk op t 2 0 1 0, Cd.pk 39 0 0 2 0 1, Cd.pk 38 0 3 0 0 1, Cd.pk 27 0 4 0 0 0, Cd.pk 31 0 0 4 3 0, Cd.pk 30 0 5 4 0 0, Cd.pk 34 0 0 5 0 0, Cd.pk 37 0 0 2 0 0]
abbrev rkI (op t x y : Int) (n : Nat) : PIm := ⟨rkW op t x y, [0], [2], [9], some ⟨n, 0, none⟩, 10, some ⟨n + 1, 0, none⟩, 1, some ⟨n + 2, 0, none⟩, 1, some ⟨n + 3, 0, none⟩, 1⟩
set_option maxRecDepth 100000 in
theorem rk_form (op t x y : Int) (n : Nat) : formP (rkI op t x y n) = true := by rfl

structure Fs (v o t d a b i : Int) : Prop where
  o : fo v = o
  t : ft v = t
  d : fd v = d
  a : fa v = a
  b : fb v = b
  i : fi v = i
  g : goodW v = true
theorem fs_pk {o t d a b i : Int} (ho : 0 ≤ o ∧ o ≤ 255) (ht : 0 ≤ t ∧ t ≤ 5) (hd : 0 ≤ d ∧ d ≤ 7) (ha : 0 ≤ a ∧ a ≤ 7) (hb : 0 ≤ b ∧ b ≤ 7) (hi : 0 ≤ i ∧ i ≤ 4294967295) : Fs (Cd.pk o t d a b i) o t d a b i := by
  have h : fo (Cd.pk o t d a b i) = o ∧ ft (Cd.pk o t d a b i) = t ∧ fd (Cd.pk o t d a b i) = d ∧ fa (Cd.pk o t d a b i) = a ∧ fb (Cd.pk o t d a b i) = b ∧ fi (Cd.pk o t d a b i) = i ∧ f0 (Cd.pk o t d a b i) = 0 := by
    unfold fo ft fd fa fb fi f0 Cd.pk
    refine ⟨?_, ?_, ?_, ?_, ?_, ?_, ?_⟩ <;> omega
  obtain ⟨h1, h2, h3, h4, h5, h6, h7⟩ := h
  refine ⟨h1, h2, h3, h4, h5, h6, ?_⟩
  unfold goodW
  rw [h7, h3, h4, h5, h2]
  simp
  omega
theorem u32_bd (x : Int) : 0 ≤ u32 x ∧ u32 x ≤ 4294967295 := by unfold u32; omega
theorem wr_u32 {x : Int} (h : -2147483648 ≤ x ∧ x ≤ 2147483647) : Burin.wr 4 (u32 x) = x := by
  simp [Burin.wr]; omega

structure Ten (op t x y : Int) (w0 w1 w2 w3 w4 w5 w6 w7 w8 w9 : Int) : Prop where
  f0 : Fs w0 20 4 0 0 0 (u32 x)
  f1 : Fs w1 20 4 1 0 0 (u32 y)
  f2 : Fs w2 op t 2 0 1 0
  f3 : Fs w3 39 0 0 2 0 1
  f4 : Fs w4 38 0 3 0 0 1
  f5 : Fs w5 27 0 4 0 0 0
  f6 : Fs w6 31 0 0 4 3 0
  f7 : Fs w7 30 0 5 4 0 0
  f8 : Fs w8 34 0 0 5 0 0
  f9 : Fs w9 37 0 0 2 0 0
theorem ten_pk {op t x y : Int} (h1 : 1 ≤ op) (h2 : op ≤ 16) (h3 : 0 ≤ t) (h4 : t ≤ 5) : Ten op t x y (Cd.pk 20 4 0 0 0 (u32 x)) (Cd.pk 20 4 1 0 0 (u32 y)) (Cd.pk op t 2 0 1 0) (Cd.pk 39 0 0 2 0 1) (Cd.pk 38 0 3 0 0 1) (Cd.pk 27 0 4 0 0 0) (Cd.pk 31 0 0 4 3 0) (Cd.pk 30 0 5 4 0 0) (Cd.pk 34 0 0 5 0 0) (Cd.pk 37 0 0 2 0 0) :=
  ⟨fs_pk (by omega) (by omega) (by omega) (by omega) (by omega) (u32_bd _), fs_pk (by omega) (by omega) (by omega) (by omega) (by omega) (u32_bd _), fs_pk (by omega) (by omega) (by omega) (by omega) (by omega) (by omega), fs_pk (by omega) (by omega) (by omega) (by omega) (by omega) (by omega), fs_pk (by omega) (by omega) (by omega) (by omega) (by omega) (by omega), fs_pk (by omega) (by omega) (by omega) (by omega) (by omega) (by omega), fs_pk (by omega) (by omega) (by omega) (by omega) (by omega) (by omega), fs_pk (by omega) (by omega) (by omega) (by omega) (by omega) (by omega), fs_pk (by omega) (by omega) (by omega) (by omega) (by omega) (by omega), fs_pk (by omega) (by omega) (by omega) (by omega) (by omega) (by omega)⟩

theorem loop_go {im : PIm} {k n : Nat} {mem : List Int} {cls : List Cl} {tr m' : List Int} {c' : List Cl} {t' : List Int} (h : stepP im mem cls tr = .go m' c' t') : loopP im (k + 1) n mem cls tr = loopP im k (n + 1) m' c' t' := by
  rw [loopP, h]
theorem loop_stop {im : PIm} {k n : Nat} {mem : List Int} {cls : List Cl} {tr : List Int} {x : Int} (h : stepP im mem cls tr = .stop x) : loopP im (k + 1) n mem cls tr = ⟨false, 0, x, false, n + 1, tr⟩ := by
  rw [loopP, h]
theorem loop_halt {im : PIm} {k n : Nat} {mem : List Int} {cls : List Cl} {tr : List Int} {x : Int} (h : stepP im mem cls tr = .halt x) : loopP im (k + 1) n mem cls tr = ⟨true, x, 0, false, n + 1, tr⟩ := by
  rw [loopP, h]

section
variable {op t x y w0 w1 w2 w3 w4 w5 w6 w7 w8 w9 : Int} {sa fa' ea wa : Option Addr} {wc sc fc ec : Nat}
abbrev tenI (w0 w1 w2 w3 w4 w5 w6 w7 w8 w9 : Int) (wa : Option Addr) (wc : Nat) (sa : Option Addr) (sc : Nat) (fa' : Option Addr) (fc : Nat) (ea : Option Addr) (ec : Nat) : PIm := ⟨[w0, w1, w2, w3, w4, w5, w6, w7, w8, w9], [0], [2], [9], wa, wc, sa, sc, fa', fc, ea, ec⟩
theorem ten_bad (H : Ten op t x y w0 w1 w2 w3 w4 w5 w6 w7 w8 w9) (hx : Burin.wr 4 (u32 x) = x) (hy : Burin.wr 4 (u32 y) = y) (h1 : 1 ≤ op) (h2 : op ≤ 16) (hd : ¬ Burin.do2 op t x y = 0) :
    runP (tenI w0 w1 w2 w3 w4 w5 w6 w7 w8 w9 wa wc sa sc fa' fc ea ec) 100 = ⟨false, 0, Burin.do2 op t x y, false, 3, []⟩ := by
  have b : ¬ op = 20 ∧ ¬ op = 21 ∧ ¬ op = 22 ∧ ¬ op = 23 ∧ ¬ op = 24 ∧ ¬ op = 25 ∧ ¬ op = 26 ∧ ¬ op = 27 ∧ ¬ op = 28 ∧ ¬ op = 29 ∧ ¬ op = 30 ∧ ¬ op = 31 ∧ ¬ op = 32 ∧ ¬ op = 33 ∧ ¬ op = 34 ∧ ¬ op = 35 ∧ ¬ op = 36 ∧ ¬ op = 37 ∧ ¬ op = 38 ∧ ¬ op = 39 ∧ ¬ op = 40 := by omega
  show loopP _ (97 + 1 + 1 + 1) 0 [9, 0, 0] [⟨z8, z6, z6, 0, 1, 0⟩] [] = _
  rw [loop_go (m' := [9, 0, 0]) (c' := [⟨[x, 0, 0, 0, 0, 0, 0, 0], z6, z6, 1, 1, 0⟩]) (t' := []) (by simp [stepP, doP, onP, H.f0.g, H.f0.o, H.f0.t, H.f0.d, H.f0.a, H.f0.b, H.f0.i, val1, val2, hx])]
  rw [loop_go (m' := [9, 0, 0]) (c' := [⟨[x, y, 0, 0, 0, 0, 0, 0], z6, z6, 2, 1, 0⟩]) (t' := []) (by simp [stepP, doP, onP, H.f1.g, H.f1.o, H.f1.t, H.f1.d, H.f1.a, H.f1.b, H.f1.i, val1, val2, hy])]
  exact loop_stop (by simp [stepP, doP, onP, H.f2.g, H.f2.o, H.f2.t, H.f2.d, H.f2.a, H.f2.b, H.f2.i, val1, val2, b, hd])
theorem ten_good (H : Ten op t x y w0 w1 w2 w3 w4 w5 w6 w7 w8 w9) (hx : Burin.wr 4 (u32 x) = x) (hy : Burin.wr 4 (u32 y) = y) (h1 : 1 ≤ op) (h2 : op ≤ 16) (hd : Burin.do2 op t x y = 0) :
    runP (tenI w0 w1 w2 w3 w4 w5 w6 w7 w8 w9 wa wc sa sc fa' fc ea ec) 100 = ⟨true, Burin.do1 op t x y, 0, false, 10, [Burin.do1 op t x y]⟩ := by
  have b : ¬ op = 20 ∧ ¬ op = 21 ∧ ¬ op = 22 ∧ ¬ op = 23 ∧ ¬ op = 24 ∧ ¬ op = 25 ∧ ¬ op = 26 ∧ ¬ op = 27 ∧ ¬ op = 28 ∧ ¬ op = 29 ∧ ¬ op = 30 ∧ ¬ op = 31 ∧ ¬ op = 32 ∧ ¬ op = 33 ∧ ¬ op = 34 ∧ ¬ op = 35 ∧ ¬ op = 36 ∧ ¬ op = 37 ∧ ¬ op = 38 ∧ ¬ op = 39 ∧ ¬ op = 40 := by omega
  show loopP _ (90 + 1 + 1 + 1 + 1 + 1 + 1 + 1 + 1 + 1 + 1) 0 [9, 0, 0] [⟨z8, z6, z6, 0, 1, 0⟩] [] = _
  rw [loop_go (m' := [9, 0, 0]) (c' := [⟨[x, 0, 0, 0, 0, 0, 0, 0], z6, z6, 1, 1, 0⟩]) (t' := []) (by simp [stepP, doP, onP, H.f0.g, H.f0.o, H.f0.t, H.f0.d, H.f0.a, H.f0.b, H.f0.i, val1, val2, hx])]
  rw [loop_go (m' := [9, 0, 0]) (c' := [⟨[x, y, 0, 0, 0, 0, 0, 0], z6, z6, 2, 1, 0⟩]) (t' := []) (by simp [stepP, doP, onP, H.f1.g, H.f1.o, H.f1.t, H.f1.d, H.f1.a, H.f1.b, H.f1.i, val1, val2, hy])]
  rw [loop_go (m' := [9, 0, 0]) (c' := [⟨[x, y, Burin.do1 op t x y, 0, 0, 0, 0, 0], z6, z6, 3, 1, 0⟩]) (t' := []) (by simp [stepP, doP, onP, H.f2.g, H.f2.o, H.f2.t, H.f2.d, H.f2.a, H.f2.b, H.f2.i, val1, val2, b, hd])]
  generalize Burin.do1 op t x y = r
  rw [loop_go (m' := [9, 0, r]) (c' := [⟨[x, y, r, 0, 0, 0, 0, 0], z6, z6, 4, 1, 0⟩]) (t' := []) (by simp [stepP, doP, onP, H.f3.g, H.f3.o, H.f3.t, H.f3.d, H.f3.a, H.f3.b, H.f3.i, storeP, inM])]
  rw [loop_go (m' := [9, 0, r]) (c' := [⟨[x, y, r, r, 0, 0, 0, 0], z6, z6, 5, 1, 0⟩]) (t' := []) (by simp [stepP, doP, onP, H.f4.g, H.f4.o, H.f4.t, H.f4.d, H.f4.a, H.f4.b, H.f4.i, val1, val2, inM, getM])]
  rw [loop_go (m' := [9, 0, r]) (c' := [⟨[x, y, r, r, 0, 0, 0, 0], z6, z6, 6, 1, 0⟩]) (t' := []) (by simp [stepP, doP, onP, H.f5.g, H.f5.o, H.f5.t, H.f5.d, H.f5.a, H.f5.b, H.f5.i, val1, val2])]
  rw [loop_go (m' := [r, 0, r]) (c' := [⟨[x, y, r, r, 0, 0, 0, 0], z6, z6, 7, 1, 0⟩]) (t' := []) (by simp [stepP, doP, onP, H.f6.g, H.f6.o, H.f6.t, H.f6.d, H.f6.a, H.f6.b, H.f6.i, storeP, inM])]
  rw [loop_go (m' := [r, 0, r]) (c' := [⟨[x, y, r, r, 0, r, 0, 0], z6, z6, 8, 1, 0⟩]) (t' := []) (by simp [stepP, doP, onP, H.f7.g, H.f7.o, H.f7.t, H.f7.d, H.f7.a, H.f7.b, H.f7.i, val1, val2, inM, getM])]
  rw [loop_go (m' := [r, 0, r]) (c' := [⟨[x, y, r, r, 0, r, 0, 0], z6, z6, 9, 1, 0⟩]) (t' := [r]) (by simp [stepP, doP, onP, H.f8.g, H.f8.o, H.f8.t, H.f8.d, H.f8.a, H.f8.b, H.f8.i])]
  exact loop_halt (by simp [stepP, doP, onP, H.f9.g, H.f9.o, H.f9.t, H.f9.d, H.f9.a, H.f9.b, H.f9.i])
end
end Go.Proofs.Ytejkblbhnbbjaaa
