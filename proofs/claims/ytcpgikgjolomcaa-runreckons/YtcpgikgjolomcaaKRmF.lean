/-
  What an instruction answers that looks at registers alone (reckon): the contract over the program; the arguments of a call are got ready (ready); the conditions: a run lies there, and the instruction is right.
-/
import Derived.Test.YtcpgikgjolomcaaKRmE
import Derived.Deep.RegionLaw
namespace Go.Proofs.Ytcpgikgjolomcaa
open Go.RowKit
set_option linter.unusedVariables false

/-- A call of function k that is open: its struct at block Cb, its function at (fb, fo). -/
structure CB (w : World) (Cb gb k fb fo first : Nat) : Prop where
  c0 : w.cell? ⟨Cb, 0, none⟩ = some (.pointer (some ⟨gb, k * 2, none⟩))
  c1 : w.cell? ⟨Cb, 1, none⟩ = some (.pointer (some ⟨fb, fo, none⟩))
  c2 : w.cell? ⟨Cb, 2, none⟩ = some (.int .i64 (first : Int))
theorem CB.keep {w w' : World} {Cb gb k fb fo first : Nat} (h : CB w Cb gb k fb fo first) (hq : Q w w') : CB w' Cb gb k fb fo first := ⟨cell_keep hq h.c0, cell_keep hq h.c1, cell_keep hq h.c2⟩
theorem CB.ex {col col' : Col} {w w' : World} {Cb gb k fb fo first : Nat} (h : CB w Cb gb k fb fo first) (hc : col Cb = none) (hq : Ex col w col' w') : CB w' Cb gb k fb fo first := ⟨hq.cell hc h.c0, hq.cell hc h.c1, hq.cell hc h.c2⟩

theorem wrap64_i64 (z : Int) : wrap64 z = IntKind.i64.wrap z := by simp [IntKind.wrap_i64, wrap64]

theorem reckon_ri {w w0 : World} {R p gb gc : Nat} {col : Col} {c : PC} {fuel : Nat} {s : St} {A : List Int} {G : GG} (h : RI w w0 R p gb gc col c fuel s A G) {k : Nat} (hk : k < c.fns.length) {ρ : Rg} (hρ : ∀ n, regAt (G k).1 n = ρ n) {Cb ib io fb fo first : Nat} (hC : CB w Cb gb k fb fo first) (hfi : first ≤ 65536) {x : PI} (hx : At w ib io x.cells) (ht : 0 ≤ x.ty) {f : PF} (hfl : f.slots.length ≤ 65536) (hgl : c.gl.length ≤ 65536) (hins : insP c k f x = true) (hop : x.op < 30) :
    Calls Try.prog 77 #[.pointer (some ⟨Cb, 0, none⟩), .pointer (some ⟨ib, io, none⟩)] w fun e w' => e = .returned (.tuple #[.int .i64 (reck1 first ρ x), .int .u8 (reck2 ρ x)]) ∧ Q w w' := by
  have hG : GetT w gb k ρ := fun y hy n hn => get_int (h.keep hy) hk hρ n hn
  have hF : ∀ y, Q w y → RcF gb k Cb ib io first x.op x.ty x.a x.b x.imm y := fun y hy => by
    obtain ⟨e0, e1, e2, e3, e4, e5, e6⟩ := (hx.keep hy).seven
    have hc := hC.keep hy
    exact ⟨hc.c0, e0, e1, e3, e4, e5, hc.c2⟩
  unfold insP at hins
  simp only [Bool.and_eq_true] at hins
  obtain ⟨i1, i2, i3, i4, i5⟩ := hins
  have ka : ∀ q : 0 < rdP x.op, 0 ≤ x.a := fun q => by
    unfold rdsP at i4
    simp [q, blP] at i4
    exact i4.1.1.1
  have kb : ∀ q : 1 < rdP x.op, 0 ≤ x.b := fun q => by
    unfold rdsP at i4
    simp [q, blP] at i4
    exact i4.1.2.1
  by_cases n20 : x.op = 20
  · rw [show reck1 first ρ x = x.imm by simp [reck1, n20], show reck2 ρ x = 0 by simp [reck2, n20]]
    exact reck_20 w gb k Cb ib io first ρ x.op x.ty x.a x.b x.imm hG hF n20
  by_cases n21 : x.op = 21
  · rw [show reck1 first ρ x = rg ρ x.a by simp [reck1, n21], show reck2 ρ x = 0 by simp [reck2, n21]]
    exact reck_21 w gb k Cb ib io first ρ x.op x.ty x.a x.b x.imm hG hF n21 (ka (by rw [n21]; decide))
  by_cases n22 : x.op = 22
  · rw [show reck1 first ρ x = Burin.un1 1 x.ty (rg ρ x.a) by simp [reck1, n22], show reck2 ρ x = Burin.un2 1 x.ty (rg ρ x.a) by simp [reck2, n22]]
    exact reck_22 w gb k Cb ib io first ρ x.op x.ty x.a x.b x.imm hG hF n22 (ka (by rw [n22]; decide)) ht
  by_cases n23 : x.op = 23
  · rw [show reck1 first ρ x = Burin.un1 2 x.ty (rg ρ x.a) by simp [reck1, n23], show reck2 ρ x = Burin.un2 2 x.ty (rg ρ x.a) by simp [reck2, n23]]
    exact reck_23 w gb k Cb ib io first ρ x.op x.ty x.a x.b x.imm hG hF n23 (ka (by rw [n23]; decide)) ht
  by_cases n24 : x.op = 24
  · rw [show reck1 first ρ x = Burin.un1 3 x.ty (rg ρ x.a) by simp [reck1, n24], show reck2 ρ x = Burin.un2 3 x.ty (rg ρ x.a) by simp [reck2, n24]]
    exact reck_24 w gb k Cb ib io first ρ x.op x.ty x.a x.b x.imm hG hF n24 (ka (by rw [n24]; decide)) ht
  by_cases n25 : x.op = 25
  · rw [show reck1 first ρ x = Burin.wr x.ty (rg ρ x.a) by simp [reck1, n25], show reck2 ρ x = 0 by simp [reck2, n25]]
    exact reck_25 w gb k Cb ib io first ρ x.op x.ty x.a x.b x.imm hG hF n25 (ka (by rw [n25]; decide)) ht
  by_cases n26 : x.op = 26
  · rw [show reck1 first ρ x = ((first : Int) + x.imm) * 1048576 by simp [reck1, n26], show reck2 ρ x = 0 by simp [reck2, n26]]
    unfold immP at i5
    simp [n26, blP] at i5
    exact reck_26 w gb k Cb ib io first ρ x.op x.ty x.a x.b x.imm hG hF n26 (by omega) (by omega) hfi
  by_cases n27 : x.op = 27
  · rw [show reck1 first ρ x = x.imm * 1048576 by simp [reck1, n27], show reck2 ρ x = 0 by simp [reck2, n27]]
    unfold immP at i5
    simp [n27, blP] at i5
    exact reck_27 w gb k Cb ib io first ρ x.op x.ty x.a x.b x.imm hG hF n27 (by omega) (by omega)
  by_cases n28 : x.op = 28
  · rw [show reck1 first ρ x = (if rg ρ x.b < 0 ∨ x.imm ≤ rg ρ x.b then 0 else wrap64 (rg ρ x.a + rg ρ x.b)) by simp [reck1, n28], show reck2 ρ x = (if rg ρ x.b < 0 ∨ x.imm ≤ rg ρ x.b then 4 else 0) by simp [reck2, n28]]
    exact reck_28 w gb k Cb ib io first ρ x.op x.ty x.a x.b x.imm hG hF n28 (ka (by rw [n28]; decide)) (kb (by rw [n28]; decide))
  by_cases n29 : x.op = 29
  · rw [show reck1 first ρ x = IntKind.i64.wrap (rg ρ x.a + x.imm) by simp [reck1, n29, wrap64_i64], show reck2 ρ x = 0 by simp [reck2, n29]]
    exact reck_29 w gb k Cb ib io first ρ x.op x.ty x.a x.b x.imm hG hF n29 (ka (by rw [n29]; decide))
  · rw [show reck1 first ρ x = Burin.do1 x.op x.ty (rg ρ x.a) (rg ρ x.b) by simp [reck1, *], show reck2 ρ x = Burin.do2 x.op x.ty (rg ρ x.a) (rg ρ x.b) by simp [reck2, *]]
    have hrd : rdP x.op = 2 := by
      have : opP x.op = true := by
        unfold knP at i1
        simp at i1
        rcases i1 with q | q
        · exact q
        · omega
      simp [rdP, this]
    exact reck_do w gb k Cb ib io first ρ x.op x.ty x.a x.b x.imm hG hF ⟨n20, n21, n22, n23, n24, n25, n26, n27, n28, n29⟩ (ka (by omega)) (kb (by omega)) ht

end Go.Proofs.Ytcpgikgjolomcaa
