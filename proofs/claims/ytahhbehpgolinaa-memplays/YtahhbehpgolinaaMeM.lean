/-
  One memory in a law: the calls' contracts over what is known of it; and how a list of numbers that is handed in reads; no conditions but those that each fact bears.
-/
import Derived.Test.YtahhbehpgolinaaMeL
import Derived.ProofKit
import Derived.OpenShut
import Derived.ChangeSame
namespace Go.Proofs.Ytahhbehpgolinaa.Me
open Go.ChangeShapes Go.WideShapes Go.RowKit
set_option linter.unusedVariables false

theorem cells31 : Try.prog.cellsOf 31 = 2 := by kernel_rfl
theorem cells3 : Try.prog.cellsOf 3 = 1 := by kernel_rfl
theorem row_base {w : World} {base base' : Nat} {e : TypeId} {size : Nat} {v : Value} {n : Nat} {xs : List Value} (h : w.ownsRow base e size v n xs) (hb : base' ≤ base) : w.ownsRow base' e size v n xs := by
  obtain ⟨h1, h2 | ⟨g, cap, cur, e1, e2, e3⟩⟩ := h
  · exact ⟨h1, Or.inl h2⟩
  · exact ⟨h1, Or.inr ⟨g, cap, cur, e1, Nat.le_trans hb e2, e3⟩⟩
theorem MI.base {w : World} {B B' : Nat} {bl : Nat → Prop} {p n : Nat} {bs : List Nat} {f : Int → Int → Int} {t : Int} (h : MI w B bl p n bs f t) (hb : B' ≤ B) : MI w B' bl p n bs f t := by
  obtain ⟨L, F, M, la, lc, h, hf, hs⟩ := h
  exact ⟨L, F, M, la, lc, ⟨fun k hk => ⟨Nat.le_trans hb (h.rng k hk).1, (h.rng k hk).2⟩, h.inp, h.inM, h.Mnp, h.own, h.cells, h.map, row_base h.row hb, fun i d e => row_base (h.hld i d e) hb, h.hin, h.dif⟩, hf, hs⟩
theorem I64.of_wf' {a : Int} (h : (Lit.int .i64 a).wf = true) : I64 a := by
  simp [Lit.wf, IntKind.min, IntKind.max, IntKind.signed, IntKind.bits] at h
  exact ⟨by omega, by omega⟩
theorem arr2 {cs : Array Value} (h : cs.size = 2) : ∃ a b, cs = #[a, b] := by
  refine ⟨cs[0], cs[1], ?_⟩
  apply Array.ext
  · simp [h]
  · intro i h1 h2
    have : i = 0 ∨ i = 1 := by omega
    rcases this with rfl | rfl <;> rfl
theorem open31 {H : Type} {enc : TypeId × Value → H} {W : World} {r : Reach} {base b0 : Nat} {sp : Nat → Bool} {held : Bool} {v : Value} {d : DataW H} {ps : List MemPlace} (hv : Value.okWide Try.prog W r b0 31 v) (h : DataW.Trod enc Try.prog W base sp held 31 v d ps) :
    ∃ a b, v = .agg #[.int .i64 a, .int .i64 b] ∧ I64 a ∧ I64 b := by
  obtain ⟨cs, rfl, hsz⟩ := okWide_struct Try.underlying31 hv
  obtain ⟨fuel, hf⟩ := h
  obtain ⟨y0, y1, m, hx, hlen, g0, g1⟩ := trod_struct2 Try.underlying31 hf
  obtain ⟨x0, e0, _, w0⟩ := DataW.trod_int Try.underlying3 g0
  obtain ⟨x1, e1, _, w1⟩ := DataW.trod_int Try.underlying3 g1
  rw [cells31] at hsz
  obtain ⟨c0, c1, rfl⟩ := arr2 hsz
  simp [Value.cells, cells3] at e0 e1
  exact ⟨x0, x1, by rw [e0, e1], I64.of_wf' w0, I64.of_wf' w1⟩

/-- All that was there at w0 is as it was, and behind it lies a memory. -/
def One (w0 w : World) (p n : Nat) (bs : List Nat) (f : Int → Int → Int) (t : Int) : Prop := Below w0.heap.size w0 w ∧ n ≤ 100000000 ∧ ∃ bl, MI w w0.heap.size bl p n bs f t

theorem One.below {w0 w w' : World} {p n : Nat} {bs : List Nat} {f : Int → Int → Int} {t : Int} (h : One w0 w p n bs f t) (hb : Below w.heap.size w w') : One w0 w' p n bs f t := by
  obtain ⟨h1, hnn, bl, h2⟩ := h
  exact ⟨h1.trans (hb.mono h1.size), hnn, bl, h2.below hb⟩
theorem One.fr {w0 w w' : World} {p n n' : Nat} {bs bs' : List Nat} {f f' : Int → Int → Int} {t t' : Int} {bl bl' : Nat → Prop} (h : Below w0.heap.size w0 w) (hm : MI w w0.heap.size bl p n bs f t) (hf : Fr bl w w') (hm' : MI w' w0.heap.size bl' p n' bs' f' t') (hnn : n' ≤ 100000000) : One w0 w' p n' bs' f' t' :=
  ⟨h.trans (hf.below h.size (fun k hk => (hm.rng hk).1)), hnn, bl', hm'⟩

theorem one_new {w0 w : World} (h : Below w0.heap.size w0 w) : Calls Try.prog 9 #[] w fun e w' => ∃ p, e = .returned (.pointer (some ⟨p, 0, none⟩)) ∧ One w0 w' p 0 [] (fun _ _ => 0) 0 := by
  refine (new_any w).mono ?_
  rintro e w' ⟨p, rfl, hM, hF⟩
  exact ⟨p, rfl, h.trans (hF.below h.size (fun _ h => h.elim)), by omega, _, hM.base h.size⟩
theorem one_alloc {w0 w : World} {p n : Nat} {bs : List Nat} {f : Int → Int → Int} {t : Int} (h : One w0 w p n bs f t) (ht : 0 ≤ t) (ht2 : t ≤ 65536) (c : Int) (hc : 0 ≤ c) (hc2 : c ≤ 65536 - t) (hl : bs.length ≤ 1000000) :
    Calls Try.prog 10 #[.pointer (some ⟨p, 0, none⟩), .int .i64 c] w fun e w' => e = .returned (.tuple #[.int .i64 bs.length, .int .i64 0]) ∧ One w0 w' p n (bs ++ [c.toNat]) f (t + c) := by
  obtain ⟨h1, hnn, bl, h2⟩ := h
  refine (alloc_int h2 ht ht2 c hc hc2 hl).mono ?_
  rintro e w' ⟨rfl, ⟨bl', -, -, hM⟩, hF⟩
  exact ⟨rfl, One.fr h1 h2 hF hM (by omega)⟩
theorem one_load {w0 w : World} {p n : Nat} {bs : List Nat} {f : Int → Int → Int} {t : Int} (h : One w0 w p n bs f t) {a b : Int} (ha : I64 a) (hb : I64 b) (hl : bs.length ≤ 1000000) :
    Calls Try.prog 14 #[.pointer (some ⟨p, 0, none⟩), .agg #[.int .i64 a, .int .i64 b]] w fun e w' => e = .returned (.tuple #[.int .i64 (f a b), .int .i64 (if inB bs a b then 0 else 12)]) ∧ One w0 w' p n bs f t := by
  obtain ⟨h1, hnn, bl, h2⟩ := h
  refine (load_any h2 ha hb hl).mono ?_
  rintro e w' ⟨rfl, hB⟩
  exact ⟨rfl, One.below ⟨h1, hnn, bl, h2⟩ hB⟩
theorem one_store {w0 w : World} {p n : Nat} {bs : List Nat} {f : Int → Int → Int} {t : Int} (h : One w0 w p n bs f t) {a b v : Int} (ha : I64 a) (hb : I64 b) (hv : I64 v) (hl : bs.length ≤ 1000000) (hn : n ≤ 1000000) (hc : ∀ c ∈ bs, c ≤ 100000) (hin : inB bs a b = true) :
    Calls Try.prog 16 #[.pointer (some ⟨p, 0, none⟩), .agg #[.int .i64 a, .int .i64 b], .int .i64 v] w fun e w' => e = .returned (.int .i64 0) ∧ One w0 w' p (n + 1) bs (upd f a b v) t := by
  obtain ⟨h1, hnn, bl, h2⟩ := h
  refine (store_ok h2 a b v hl hc hnn hin).mono ?_
  rintro e w' ⟨rfl, ⟨bl', -, -, hM⟩, hF⟩
  exact ⟨rfl, One.fr h1 h2 hF hM (by omega)⟩
theorem one_keep {w0 w : World} {p n : Nat} {bs : List Nat} {f : Int → Int → Int} {t : Int} (h : One w0 w p n bs f t) (k : Int) (hk0 : 0 ≤ k) (hk : k ≤ bs.length) (ht : t = ((bs.sum : Nat) : Int)) (hs : bs.sum ≤ 65536) (hl : bs.length ≤ 1000000) :
    Calls Try.prog 12 #[.pointer (some ⟨p, 0, none⟩), .int .i64 k] w fun e w' => e = .returned (.int .i64 0) ∧ One w0 w' p n (bs.take k.toNat) (keepf f k.toNat) (((bs.take k.toNat).sum : Nat) : Int) := by
  obtain ⟨h1, hnn, bl, h2⟩ := h
  have e : k = ((k.toNat : Nat) : Int) := by omega
  have := keep_any h2 k.toNat (by omega) ht hs hl hnn
  rw [← e] at this
  refine this.mono ?_
  rintro e w' ⟨rfl, hM, hF⟩
  exact ⟨rfl, One.fr h1 h2 hF hM (by omega)⟩
theorem one_total {w0 w : World} {p n : Nat} {bs : List Nat} {f : Int → Int → Int} {t : Int} (h : One w0 w p n bs f t) : Calls Try.prog 18 #[.pointer (some ⟨p, 0, none⟩)] w fun e w' => e = .returned (.int .i64 t) ∧ w' = w := by
  obtain ⟨h1, hnn, bl, h2⟩ := h
  exact total_any h2

/-! ### a list of numbers that came in -/

def Reads (k : IntKind) (w : World) (a : Option Addr) (xs : List Int) : Prop :=
  0 < xs.length → ∃ b off, a = some ⟨b, off, none⟩ ∧ ∀ j, j < xs.length → w.cell? ⟨b, off + j, none⟩ = some (.int k (xs.getD j 0))
theorem add_none (b off j : Nat) : (⟨b, off, none⟩ : Addr).add j = ⟨b, off + j, none⟩ := by
  unfold Addr.add
  split
  · rename_i h'; subst h'; rfl
  · rfl
theorem open_row {H : Type} {enc : TypeId × Value → H} {W : World} {r : Reach} {b0 : Nat} {k : IntKind} {t e : TypeId} {v : Value} {d : DataW H} {ps : List MemPlace} (ht : Try.prog.underlying t = some (.slice e)) (he : Try.prog.underlying e = some (.int k)) (hc : Try.prog.cellsOf e = 1)
    (hv : Value.okWide Try.prog W r b0 t v) (h : DataW.Trod enc Try.prog W 0 (fun _ => true) true t v d ps) :
    ∃ a len cap xs, v = .slice a len cap ∧ xs.length = len ∧ len ≤ maxLen ∧ Reads k W a xs ∧ ∀ n ∈ xs, (Lit.int k n).wf = true := by
  obtain ⟨a, len, cap, rfl⟩ := okWide_slice ht hv
  obtain ⟨fuel, hf⟩ := h
  rcases open_ints ht he hc hf with ⟨hcs, _⟩ | ⟨x, l, c, zs, hcs, _, hl, hm, hz, _, hcell, hwz⟩
  · simp [Value.cells] at hcs
    obtain ⟨rfl, rfl, rfl⟩ := hcs
    exact ⟨none, 0, 0, [], rfl, rfl, Nat.zero_le _, fun h => by simp at h, fun n hn => by simp at hn⟩
  · simp [Value.cells] at hcs
    obtain ⟨rfl, rfl, rfl⟩ := hcs
    simp at hz
    refine ⟨some x, len, cap, zs.take len, rfl, by simp; omega, by omega, fun h0 => ?_, fun n hn => hwz n (List.mem_of_mem_take hn)⟩
    simp at h0
    obtain ⟨b, off, spot⟩ := x
    have hc0 := hcell 0 (by omega)
    have hspot : spot = none := by simpa [Addr.add] using World.cell?_spot hc0
    subst hspot
    refine ⟨b, off, rfl, fun j hj => ?_⟩
    simp at hj
    have := hcell j (by omega)
    rw [add_none] at this
    have h2 : j < zs.length := by omega
    rw [this]
    simp [hj, h2]
theorem getD_mem (ds : List Int) (u : Nat) (hu : u < ds.length) : ds.getD u 0 ∈ ds := by
  have e : ds.getD u 0 = ds[u] := by simp [hu]
  rw [e]
  exact List.getElem_mem _
theorem wf_i64 {n : Int} (h : (Lit.int .i64 n).wf = true) : I64 n := I64.of_wf' h
theorem wf_u8 {n : Int} (h : (Lit.int .u8 n).wf = true) : 0 ≤ n ∧ n ≤ 255 := by
  simpa [Lit.wf, IntKind.min, IntKind.max, IntKind.signed, IntKind.bits] using h
theorem wf_u16 {n : Int} (h : (Lit.int .u16 n).wf = true) : 0 ≤ n ∧ n ≤ 65535 := by
  simpa [Lit.wf, IntKind.min, IntKind.max, IntKind.signed, IntKind.bits] using h

end Go.Proofs.Ytahhbehpgolinaa.Me
