/-
  What is read in a register's place, plainly: who wrote it last, what it was copied from, and how a part comes of it; plain facts; no program in sight; no conditions but those that each fact bears.
  The reader of package prop in memory, and what a register was copied from (copied of prop): a contract over the program; the conditions: the reader and the instructions lie in memory, and the registers are there.
  The register that is read in another one's place (source of prop): a contract over the program; the conditions: the reader and the instructions lie in memory, the registers are there, and copies make no ring.
  Instructions in memory of their own, of which one is changed where it lies: facts on worlds; no conditions but those that each fact bears.
-/
import Derived.Test.YtipmbamcldlmeaaKIrZf
import Derived.BigQuiet
namespace Go.Proofs.Ytipmbamcldlmeaa.Pp
open Go.RowKit
set_option linter.unusedVariables false

theorem snoc_ind {α : Type} {p : List α → Prop} (h0 : p []) (hs : ∀ P y, p P → p (P ++ [y])) (P : List α) : p P := by
  have h : ∀ Q : List α, p Q.reverse := fun Q => by
    induction Q with
    | nil => exact h0
    | cons y Q ih => rw [List.reverse_cons]; exact hs _ _ ih
  have := h P.reverse
  rwa [List.reverse_reverse] at this

abbrev WF := Int → Option Nat
def updW (W : WF) (d : Int) (n : Nat) : WF := fun r => if r = d then some n else W r
def stpW (W : WF) (n : Nat) (y : PI) : WF := if wrP y.op = true then updW W y.dst n else W
def lastG : List PI → Nat → WF → WF
  | [], _, W => W
  | y :: l, n, W => lastG l (n + 1) (stpW W n y)
/-- Who wrote a register last. -/
def lastW (P : List PI) : WF := lastG P 0 (fun _ => none)
theorem lastG_snoc : ∀ (l : List PI) (n : Nat) (W : WF) (y : PI), lastG (l ++ [y]) n W = stpW (lastG l n W) (n + l.length) y
  | [], n, W, y => rfl
  | x :: l, n, W, y => by
    simp only [List.cons_append, lastG]
    rw [lastG_snoc l (n + 1) _ y]
    simp only [List.length_cons]
    rw [show n + 1 + l.length = n + (l.length + 1) by omega]
theorem lastW_snoc (P : List PI) (y : PI) : lastW (P ++ [y]) = stpW (lastW P) P.length y := by
  unfold lastW
  rw [lastG_snoc, Nat.zero_add]
/-- Does it write r? -/
def wrs (y : PI) (r : Int) : Prop := wrP y.op = true ∧ y.dst = r
theorem last_same {P : List PI} {y : PI} {r : Int} (h : ¬ wrs y r) : lastW (P ++ [y]) r = lastW P r := by
  rw [lastW_snoc]
  unfold stpW
  split
  · rename_i hw
    unfold updW
    rw [if_neg (fun e => h ⟨hw, e.symm⟩)]
  · rfl
theorem last_new {P : List PI} {y : PI} {r : Int} (h : wrs y r) : lastW (P ++ [y]) r = some P.length := by
  rw [lastW_snoc]
  unfold stpW
  rw [if_pos h.1]
  unfold updW
  rw [if_pos h.2.symm]
theorem wrs_dec (y : PI) (r : Int) : wrs y r ∨ ¬ wrs y r := Classical.em _
theorem last_nil (r : Int) : lastW [] r = none := rfl

theorem get_snoc {P : List PI} {y : PI} {k : Nat} (h : k < P.length) : (P ++ [y])[k]? = P[k]? := List.getElem?_append_left h
theorem get_end {P : List PI} {y : PI} : (P ++ [y])[P.length]? = some y := by rw [List.getElem?_append_right (Nat.le_refl _), Nat.sub_self]; rfl
theorem last_at (P : List PI) : ∀ (r : Int) (k : Nat), lastW P r = some k → ∃ i, P[k]? = some i ∧ wrs i r := by
  refine snoc_ind (p := fun P => ∀ (r : Int) (k : Nat), lastW P r = some k → ∃ i, P[k]? = some i ∧ wrs i r) (fun r k h => by rw [last_nil] at h; cases h) (fun P y ih r k h => ?_) P
  rcases wrs_dec y r with q | q
  · rw [last_new q] at h
    injection h with h
    subst h
    exact ⟨y, get_end, q⟩
  · rw [last_same q] at h
    obtain ⟨i, h1, h2⟩ := ih r k h
    exact ⟨i, by rw [get_snoc (List.getElem?_eq_some_iff.1 h1).1]; exact h1, h2⟩
theorem last_lt {P : List PI} {r : Int} {k : Nat} (h : lastW P r = some k) : k < P.length := by
  obtain ⟨i, h1, h2⟩ := last_at P r k h
  exact (List.getElem?_eq_some_iff.1 h1).1

/-- Was it written ahead of n? -/
def bef (o : Option Nat) (n : Nat) : Bool := match o with | none => true | some k => decide (k < n)
/-- The register that r was copied from, where that one is to be read for it. -/
def cp (fault : Bool) (P : List PI) (r : Int) : Option Int :=
  match lastW P r with
  | none => none
  | some k => match P[k]? with
    | none => none
    | some i => if i.op = 21 ∧ i.a ≠ r ∧ (fault = true ∨ bef (lastW P i.a) k = true) then some i.a else none
theorem cp_none {fault : Bool} {P : List PI} {r : Int} (h : lastW P r = none) : cp fault P r = none := by unfold cp; rw [h]
theorem cp_at {fault : Bool} {P : List PI} {r : Int} {k : Nat} {i : PI} (h : lastW P r = some k) (hi : P[k]? = some i) : cp fault P r = if i.op = 21 ∧ i.a ≠ r ∧ (fault = true ∨ bef (lastW P i.a) k = true) then some i.a else none := by
  unfold cp
  rw [h]
  dsimp only
  rw [hi]
theorem cp_inv {fault : Bool} {P : List PI} {r a : Int} (h : cp fault P r = some a) : ∃ k i, lastW P r = some k ∧ P[k]? = some i ∧ wrs i r ∧ i.op = 21 ∧ i.a = a ∧ a ≠ r ∧ (fault = true ∨ bef (lastW P a) k = true) := by
  cases hl : lastW P r with
  | none => rw [cp_none hl] at h; cases h
  | some k =>
    obtain ⟨i, h1, h2⟩ := last_at P r k hl
    rw [cp_at hl h1] at h
    split at h
    · rename_i hc
      injection h with h
      exact ⟨k, i, rfl, h1, h2, hc.1, h, by rw [← h]; exact hc.2.1, by rw [← h]; exact hc.2.2⟩
    · cases h
/-- What holds behind one more instruction that doesn't write r. -/
theorem cp_back {fault : Bool} {P : List PI} {y : PI} {r a : Int} (hr : ¬ wrs y r) (h : cp fault (P ++ [y]) r = some a) : cp fault P r = some a ∧ (fault = false → ¬ wrs y a) := by
  obtain ⟨k, i, h1, h2, h3, h4, h5, h6, h7⟩ := cp_inv h
  rw [last_same hr] at h1
  have hk := last_lt h1
  rw [get_snoc hk] at h2
  have hb : fault = false → bef (lastW (P ++ [y]) a) k = true := fun e => by
    rcases h7 with q | q
    · rw [e] at q; cases q
    · exact q
  have hn : fault = false → ¬ wrs y a := fun e q => by
    have h0 := hb e
    rw [last_new q] at h0
    have h1 : P.length < k := of_decide_eq_true h0
    omega
  have hq : fault = true ∨ bef (lastW P i.a) k = true := by
    cases fault with
    | true => exact Or.inl rfl
    | false =>
      have h0 := hb rfl
      rw [last_same (hn rfl)] at h0
      rw [h5]
      exact Or.inr h0
  refine ⟨?_, hn⟩
  rw [cp_at h1 h2, if_pos ⟨h4, (by rw [h5]; exact h6), hq⟩, h5]
theorem cp_still {fault : Bool} {P : List PI} {y : PI} {r : Int} (hr : ¬ wrs y r) (h : cp fault P r = none) : cp fault (P ++ [y]) r = none := by
  cases hc : cp fault (P ++ [y]) r with
  | none => rfl
  | some a => rw [(cp_back hr hc).1] at h; cases h
theorem cp_new {fault : Bool} {P : List PI} {y : PI} {r a : Int} (hr : wrs y r) (h : cp fault (P ++ [y]) r = some a) : y.op = 21 ∧ y.a = a ∧ a ≠ r ∧ ¬ wrs y a := by
  obtain ⟨k, i, h1, h2, h3, h4, h5, h6, h7⟩ := cp_inv h
  rw [last_new hr] at h1
  injection h1 with h1
  subst h1
  rw [get_end] at h2
  injection h2 with h2
  subst h2
  exact ⟨h4, h5, h6, fun q => h6 (q.2.symm.trans hr.2)⟩

/-- Copies make no ring. -/
def RF (fault : Bool) (P : List PI) : Prop := ∀ r a, cp fault P r = some a → cp fault P a = none ∨ ∃ k k', lastW P r = some k ∧ lastW P a = some k' ∧ k < k'
theorem rf_nil (fault : Bool) : RF fault [] := fun r a h => by rw [cp_none (last_nil r)] at h; cases h
theorem rf_snoc {fault : Bool} {P : List PI} {y : PI} (h : RF fault P) (hy : y.op = 21 → cp fault P y.a = none) : RF fault (P ++ [y]) := fun r a hc => by
  rcases wrs_dec y r with q | q
  · obtain ⟨h1, h2, h3, h4⟩ := cp_new q hc
    exact Or.inl (cp_still h4 (by rw [← h2]; exact hy h1))
  · have hb := (cp_back q hc).1
    obtain ⟨k, i, k1, k2, -⟩ := cp_inv hb
    rcases wrs_dec y a with q2 | q2
    · exact Or.inr ⟨k, P.length, by rw [last_same q]; exact k1, last_new q2, last_lt k1⟩
    · rcases h r a hb with h1 | ⟨m, m', h1, h2, h3⟩
      · exact Or.inl (cp_still q2 h1)
      · exact Or.inr ⟨m, m', by rw [last_same q]; exact h1, by rw [last_same q2]; exact h2, h3⟩
/-- Without the fault a copy's source is none. -/
theorem rf_one {P : List PI} (h : RF false P) {r a : Int} (hc : cp false P r = some a) : cp false P a = none := by
  rcases h r a hc with q | ⟨k, k', h1, h2, h3⟩
  · exact q
  · obtain ⟨k2, i, k1, -, -, -, -, -, k7⟩ := cp_inv hc
    rw [h1] at k1
    injection k1 with k1
    subst k1
    rcases k7 with q | q
    · cases q
    · rw [h2] at q
      simp [bef] at q
      omega

def mu (fault : Bool) (P : List PI) (r : Int) : Nat := match cp fault P r with | none => 0 | some _ => match lastW P r with | none => 0 | some k => P.length - k
theorem mu_le (fault : Bool) (P : List PI) (r : Int) : mu fault P r ≤ P.length := by
  unfold mu
  split
  · omega
  · split
    · omega
    · omega
theorem mu_lt {fault : Bool} {P : List PI} (h : RF fault P) {r a : Int} (hc : cp fault P r = some a) : mu fault P a < mu fault P r := by
  obtain ⟨k, i, h1, h2, -⟩ := cp_inv hc
  have hk := last_lt h1
  have e1 : mu fault P r = P.length - k := by unfold mu; rw [hc]; dsimp only; rw [h1]
  rw [e1]
  rcases h r a hc with q | ⟨m, m', m1, m2, m3⟩
  · have : mu fault P a = 0 := by unfold mu; rw [q]
    omega
  · rw [h1] at m1
    injection m1 with m1
    have hm := last_lt m2
    unfold mu
    split
    · omega
    · rw [m2]
      dsimp only
      omega

def srcN (fault : Bool) (P : List PI) : Nat → Int → Int
  | 0, r => r
  | n + 1, r => match cp fault P r with | none => r | some a => srcN fault P n a
/-- The register that is read in r's place. -/
def src (fault : Bool) (P : List PI) (r : Int) : Int := srcN fault P P.length r
theorem srcN_none {fault : Bool} {P : List PI} {r : Int} (h : cp fault P r = none) (n : Nat) : srcN fault P n r = r := by
  cases n with
  | zero => rfl
  | succ n => simp only [srcN]; rw [h]
theorem srcN_all {fault : Bool} {P : List PI} (h : RF fault P) : ∀ (n : Nat) (r : Int), mu fault P r ≤ n → cp fault P (srcN fault P n r) = none ∧ ∀ m, mu fault P r ≤ m → srcN fault P m r = srcN fault P n r
  | 0, r, hn => by
    cases hc : cp fault P r with
    | none => exact ⟨hc, fun m _ => by rw [srcN_none hc, srcN_none hc]⟩
    | some a => have := mu_lt h hc; omega
  | n + 1, r, hn => by
    cases hc : cp fault P r with
    | none => exact ⟨by rw [srcN_none hc]; exact hc, fun m _ => by rw [srcN_none hc, srcN_none hc]⟩
    | some a =>
      have hm := mu_lt h hc
      obtain ⟨h1, h2⟩ := srcN_all h n a (by omega)
      have e : srcN fault P (n + 1) r = srcN fault P n a := by simp only [srcN]; rw [hc]
      rw [e]
      refine ⟨h1, fun m hm2 => ?_⟩
      cases m with
      | zero => omega
      | succ m =>
        have e2 : srcN fault P (m + 1) r = srcN fault P m a := by simp only [srcN]; rw [hc]
        rw [e2]
        exact h2 m (by omega)
theorem src_stop {fault : Bool} {P : List PI} (h : RF fault P) (r : Int) : cp fault P (src fault P r) = none := (srcN_all h P.length r (mu_le _ _ _)).1
theorem src_none {fault : Bool} {P : List PI} {r : Int} (h : cp fault P r = none) : src fault P r = r := srcN_none h _
theorem src_some {fault : Bool} {P : List PI} (h : RF fault P) {r a : Int} (hc : cp fault P r = some a) : src fault P r = src fault P a := by
  have hm := mu_lt h hc
  have hl := mu_le fault P r
  obtain ⟨n, hn⟩ : ∃ n, P.length = n + 1 := ⟨P.length - 1, by omega⟩
  have e : src fault P r = srcN fault P n a := by unfold src; rw [hn]; simp only [srcN]; rw [hc]
  rw [e]
  exact ((srcN_all h n a (by omega)).2 P.length (mu_le _ _ _)).symm
theorem srcN_in {fault : Bool} {P : List PI} : ∀ (n : Nat) (r : Int), srcN fault P n r = r ∨ ∃ i ∈ P, i.op = 21 ∧ srcN fault P n r = i.a
  | 0, r => Or.inl rfl
  | n + 1, r => by
    cases hc : cp fault P r with
    | none => exact Or.inl (srcN_none hc _)
    | some a =>
      have e : srcN fault P (n + 1) r = srcN fault P n a := by simp only [srcN]; rw [hc]
      obtain ⟨k, i, h1, h2, h3, h4, h5, -⟩ := cp_inv hc
      rw [e]
      rcases srcN_in n a with q | q
      · exact Or.inr ⟨i, List.mem_of_getElem? h2, h4, by rw [q, h5]⟩
      · exact Or.inr q

/-- An instruction whose registers are read elsewhere. -/
def readI (s : Int → Int) (x : PI) : PI := if x.op = 32 then { x with args := x.args.map s } else if rdP x.op = 2 then { x with a := s x.a, b := s x.b } else if rdP x.op = 1 then { x with a := s x.a } else x
theorem readI_op (s : Int → Int) (x : PI) : (readI s x).op = x.op := by unfold readI; (repeat' split) <;> rfl
theorem readI_ty (s : Int → Int) (x : PI) : (readI s x).ty = x.ty := by unfold readI; (repeat' split) <;> rfl
theorem readI_dst (s : Int → Int) (x : PI) : (readI s x).dst = x.dst := by unfold readI; (repeat' split) <;> rfl
theorem readI_imm (s : Int → Int) (x : PI) : (readI s x).imm = x.imm := by unfold readI; (repeat' split) <;> rfl
theorem readI_aa (s : Int → Int) (x : PI) : (readI s x).aa = x.aa := by unfold readI; (repeat' split) <;> rfl
theorem readI_ac (s : Int → Int) (x : PI) : (readI s x).ac = x.ac := by unfold readI; (repeat' split) <;> rfl
theorem readI_len (s : Int → Int) (x : PI) : (readI s x).args.length = x.args.length := by unfold readI; (repeat' split) <;> simp
theorem readI_move {s : Int → Int} {x : PI} (h : x.op = 21) : (readI s x).a = s x.a := by
  unfold readI
  rw [if_neg (by omega), if_neg (by rw [h]; decide), if_pos (by rw [h]; decide)]

/-- The instructions behind P, read so. -/
def propL (fault : Bool) : List PI → List PI → List PI
  | _, [] => []
  | P, x :: l => readI (src fault P) x :: propL fault (P ++ [readI (src fault P) x]) l
def propP (fault : Bool) (p : PP) : PP := { p with ins := propL fault [] p.ins, cond := if 0 ≤ p.cond then src fault (propL fault [] p.ins) p.cond else p.cond }
def propF (fault : Bool) (f : PF) : PF := { f with parts := f.parts.map (propP fault) }
def propC (fault : Bool) (c : PC) : PC := { c with fns := c.fns.map (propF fault) }
theorem propL_len (fault : Bool) : ∀ (l P : List PI), (propL fault P l).length = l.length
  | [], _ => rfl
  | x :: l, P => by simp [propL, propL_len fault l]
theorem rf_step {fault : Bool} {P : List PI} (h : RF fault P) (x : PI) : RF fault (P ++ [readI (src fault P) x]) := rf_snoc h fun e => by
  rw [readI_op] at e
  rw [readI_move e]
  exact src_stop h _
theorem rf_all {fault : Bool} : ∀ (l P : List PI), RF fault P → RF fault (P ++ propL fault P l)
  | [], P, h => by simpa [propL] using h
  | x :: l, P, h => by
    have := rf_all l _ (rf_step h x)
    simpa [propL] using this

/-- Registers below N. -/
def inN (N r : Int) : Prop := 0 ≤ r ∧ r < N
structure InR (N : Int) (x : PI) : Prop where
  dst : wrP x.op = true → inN N x.dst
  a : rdP x.op = 1 ∨ rdP x.op = 2 → inN N x.a
  b : rdP x.op = 2 → inN N x.b
  args : x.op = 32 → ∀ r ∈ x.args, inN N r
theorem InR.move {N : Int} {x : PI} (h : InR N x) (e : x.op = 21) : inN N x.a := h.a (by rw [e]; decide)
theorem src_in {fault : Bool} {P : List PI} {N r : Int} (hP : ∀ i ∈ P, InR N i) (hr : inN N r) : inN N (src fault P r) := by
  rcases srcN_in (fault := fault) (P := P) P.length r with q | ⟨i, h1, h2, h3⟩
  · show inN N (srcN fault P P.length r); rw [q]; exact hr
  · show inN N (srcN fault P P.length r); rw [h3]; exact (hP i h1).move h2
theorem InR.read {N : Int} {x : PI} (h : InR N x) {s : Int → Int} (hs : ∀ r, inN N r → inN N (s r)) : InR N (readI s x) := by
  refine ⟨fun hw => ?_, fun hr => ?_, fun hr => ?_, fun ho => ?_⟩
  · rw [readI_dst]; rw [readI_op] at hw; exact h.dst hw
  · rw [readI_op] at hr
    unfold readI
    split
    · exact h.a hr
    · split
      · exact hs _ (h.a hr)
      · split
        · exact hs _ (h.a hr)
        · exact h.a hr
  · rw [readI_op] at hr
    unfold readI
    split
    · exact h.b hr
    · exact hs _ (h.b hr)
  · rw [readI_op] at ho
    unfold readI
    rw [if_pos ho]
    intro r hr
    obtain ⟨q, hq, rfl⟩ := List.mem_map.1 hr
    exact hs _ (h.args ho q hq)

end Go.Proofs.Ytipmbamcldlmeaa.Pp

namespace Go.Proofs.Ytipmbamcldlmeaa.Pp
open Go.RowKit
set_option linter.unusedVariables false

/-- The reader at block R, its list at block Wb. -/
structure RD (W : World) (R Wb : Nat) (fault : Bool) (first : Int) (ia : Option Addr) (n ic : Nat) (wr : List Int) : Prop where
  blk : W.heap[R]? = some (.cells #[.bool fault, .int .i64 first, .slice ia n ic, .slice (some ⟨Wb, 0, none⟩) wr.length wr.length] 60 (0, 0))
  wb : W.heap[Wb]? = some (.cells (wr.map (Value.int .i64)).toArray 3 (0, 0))
theorem RD.q {W W' : World} {R Wb : Nat} {fault : Bool} {first : Int} {ia : Option Addr} {n ic : Nat} {wr : List Int} (h : RD W R Wb fault first ia n ic wr) (q : Q W W') : RD W' R Wb fault first ia n ic wr := ⟨heap_keep q h.blk, heap_keep q h.wb⟩
theorem RD.at' {W : World} {R Wb : Nat} {fault : Bool} {first : Int} {ia : Option Addr} {n ic : Nat} {wr : List Int} (h : RD W R Wb fault first ia n ic wr) {r : Nat} {v : Int} (hv : wr[r]? = some v) : W.cell? ⟨Wb, r, none⟩ = some (.int .i64 v) := by
  rw [cell_of_block h.wb]
  simp [hv]
/-- What the list says of who wrote last. -/
def WOk (first : Int) (wr : List Int) (P : List PI) : Prop := ∀ (r : Nat) (v : Int), wr[r]? = some v → (lastW P (r : Int) = none → v < first) ∧ ∀ k, lastW P (r : Int) = some k → v = first + k
/-- The instructions that were looked at lie from ia on. -/
def PAt (w : World) (ia : Option Addr) (P : List PI) : Prop := ∀ (k : Nat) (i : PI), P[k]? = some i → ∃ b o, ia = some ⟨b, o, none⟩ ∧ w.cell? ⟨b, o + k * 7, none⟩ = some (.int .u8 i.op) ∧ w.cell? ⟨b, o + k * 7 + 3, none⟩ = some (.int .i64 i.a)
theorem PAt.q {w w' : World} {ia : Option Addr} {P : List PI} (h : PAt w ia P) (q : Q w w') : PAt w' ia P := fun k i hi => by
  obtain ⟨b, o, e, h1, h2⟩ := h k i hi
  exact ⟨b, o, e, cell_keep q h1, cell_keep q h2⟩

set_option maxRecDepth 100000 in
set_option maxHeartbeats 1000000 in
theorem copied_any (w : World) (R Wb : Nat) (fault : Bool) (first : Int) (ia : Option Addr) (n ic : Nat) (wr : List Int) (P : List PI) (hR : RD w R Wb fault first ia n ic wr) (hW : WOk first wr P) (hP : PAt w ia P) (hn : P.length ≤ n) (h1 : 0 ≤ first) (h2 : first + P.length ≤ 4611686018427387904) (hM : ∀ i ∈ P, i.op = 21 → inN wr.length i.a) (r : Nat) (hr : r < wr.length) :
    Calls Try.prog 54 #[.pointer (some ⟨R, 0, none⟩), .int .i64 (r : Int)] w fun e w' => (∃ v, e = .returned (.tuple #[.int .i64 v, .bool (cp fault P r).isSome]) ∧ ∀ a, cp fault P r = some a → v = a) ∧ Q w w' := by
  obtain ⟨v, hv⟩ := get_of_lt hr
  have c0 : w.cell? ⟨R, 0, none⟩ = some (.bool fault) := (cell_of_block hR.blk 0).trans rfl
  have c1 : w.cell? ⟨R, 1, none⟩ = some (.int .i64 first) := (cell_of_block hR.blk 1).trans rfl
  have c2 : w.cell? ⟨R, 2, none⟩ = some (.slice ia n ic) := (cell_of_block hR.blk 2).trans rfl
  have c3 : w.cell? ⟨R, 3, none⟩ = some (.slice (some ⟨Wb, 0, none⟩) wr.length wr.length) := (cell_of_block hR.blk 3).trans rfl
  have cv := hR.at' hv
  have hrl : (r : Int) < (wr.length : Int) := by omega
  have hwv := hW r v hv
  cases hl : lastW P (r : Int) with
  | none =>
    have hlt := hwv.1 hl
    rw [cp_none hl]
    clear hR hW hP hM hwv hl hv
    go_enter Try.func54, Try.ntmps54
    go_wp2_with (fail)
    go_ret2
    exact ⟨⟨0, rfl, fun a h => by cases h⟩, Q.refl _⟩
  | some k =>
    obtain ⟨i, hi, hwi⟩ := last_at P r k hl
    have hk := last_lt hl
    obtain rfl := hwv.2 k hl
    obtain ⟨b, o, rfl, d0, d3⟩ := hP k i hi
    have hnlt : ¬ first + (k : Int) < first := by omega
    have hsub : IntKind.i64.wrap (first + (k : Int) - first) = (k : Int) := by
      rw [show first + (k : Int) - first = (k : Int) by omega, IntKind.wrap_i64]
      omega
    have hkn : (k : Int) < (n : Int) := by omega
    by_cases ho : i.op = 21
    · obtain ⟨m1, m2⟩ := hM i (List.mem_of_getElem? hi) ho
      obtain ⟨a', ha'⟩ : ∃ a' : Nat, i.a = (a' : Int) := ⟨i.a.toNat, by omega⟩
      rw [ha'] at d3
      have hal : (a' : Int) < (wr.length : Int) := by omega
      obtain ⟨u, hu⟩ := get_of_lt (l := wr) (k := a') (by omega)
      have cu := hR.at' hu
      have hwu := hW a' u hu
      have hc := cp_at (fault := fault) hl hi
      rw [ho] at d0
      rw [ha'] at hc
      by_cases he : (a' : Int) = (r : Int)
      · rw [if_neg (fun q => q.2.1 he)] at hc
        rw [hc]
        rw [he] at d3
        clear hR hW hP hM hwv hl hv hc hwu hu cu
        go_enter Try.func54, Try.ntmps54
        go_wp2_with (fail)
        go_quiet (fail)
        go_wp2_with (fail)
        go_ret2
        exact ⟨⟨0, rfl, fun a h => by cases h⟩, (Q.refl w).drewN _⟩
      · have hne : decide ((a' : Int) = (r : Int)) = false := by simpa using he
        cases fault with
        | true =>
          rw [if_pos ⟨ho, he, Or.inl rfl⟩] at hc
          rw [hc]
          clear hR hW hP hM hwv hl hv hc hwu hu cu
          go_enter Try.func54, Try.ntmps54
          go_wp2_with (fail)
          go_quiet (fail)
          go_wp2_with (fail)
          go_quiet (fail)
          go_wp2_with (fail)
          go_ret2
          exact ⟨⟨(a' : Int), rfl, fun a h => by injection h⟩, ((Q.refl w).drewN _).drewN _⟩
        | false =>
          have hd : decide (u < first + (k : Int)) = bef (lastW P (a' : Int)) k := by
            cases hla : lastW P (a' : Int) with
            | none =>
              have := hwu.1 hla
              simp [bef]
              omega
            | some k2 =>
              have := hwu.2 k2 hla
              subst this
              simp [bef]
          have hpost : ∃ v, Ending.returned (.tuple #[.int .i64 (a' : Int), .bool (decide (u < first + (k : Int)))]) = .returned (.tuple #[.int .i64 v, .bool (cp false P r).isSome]) ∧ ∀ a, cp false P r = some a → v = a := by
            rw [hd, hc]
            cases hb : bef (lastW P (a' : Int)) k with
            | true => rw [if_pos ⟨ho, he, Or.inr rfl⟩]; exact ⟨_, rfl, fun a h => by injection h⟩
            | false => rw [if_neg (fun q => by rcases q.2.2 with q | q <;> cases q)]; exact ⟨_, rfl, fun a h => by cases h⟩
          have HP := hideIt hpost
          clear hR hW hP hM hwv hl hv hc hwu hu hd hpost
          go_enter Try.func54, Try.ntmps54
          go_wp2_with (fail)
          go_quiet (fail)
          go_wp2_with (fail)
          go_quiet (fail)
          go_wp2_with (fail)
          go_ret2
          exact ⟨HP.out, ((Q.refl w).drewN _).drewN _⟩
    · have hc : cp fault P r = none := by rw [cp_at hl hi, if_neg (fun q => ho q.1)]
      rw [hc]
      have hne : decide (i.op = 21) = false := by simpa using ho
      clear hR hW hP hM hwv hl hv hc
      go_enter Try.func54, Try.ntmps54
      go_wp2_with (fail)
      go_quiet (fail)
      go_wp2_with (fail)
      go_ret2
      exact ⟨⟨0, rfl, fun a h => by cases h⟩, (Q.refl w).drewN _⟩

end Go.Proofs.Ytipmbamcldlmeaa.Pp

namespace Go.Proofs.Ytipmbamcldlmeaa.Pp
open Go.RowKit
set_option linter.unusedVariables false

/-- What the reader needs to look registers up. -/
structure RdOk (w : World) (R Wb : Nat) (fault : Bool) (first : Int) (ia : Option Addr) (n ic : Nat) (ws : List Int) (P : List PI) : Prop where
  rd : RD w R Wb fault first ia n ic ws
  wok : WOk first ws P
  pat : PAt w ia P
  len : P.length ≤ n
  lo : 0 ≤ first
  hi : first + P.length ≤ 4611686018427387904
  reg : ∀ i ∈ P, i.op = 21 → inN ws.length i.a
  rf : RF fault P
theorem RdOk.q {w w' : World} {R Wb : Nat} {fault : Bool} {first : Int} {ia : Option Addr} {n ic : Nat} {ws : List Int} {P : List PI} (h : RdOk w R Wb fault first ia n ic ws P) (q : Q w w') : RdOk w' R Wb fault first ia n ic ws P := ⟨h.rd.q q, h.wok, h.pat.q q, h.len, h.lo, h.hi, h.reg, h.rf⟩
theorem RdOk.src {w : World} {R Wb : Nat} {fault : Bool} {first : Int} {ia : Option Addr} {n ic : Nat} {ws : List Int} {P : List PI} (h : RdOk w R Wb fault first ia n ic ws P) {r : Int} (hr : inN ws.length r) : inN ws.length (src fault P r) := by
  rcases srcN_in (fault := fault) (P := P) P.length r with q | ⟨i, h1, h2, h3⟩
  · show inN _ (srcN fault P P.length r); rw [q]; exact hr
  · show inN _ (srcN fault P P.length r); rw [h3]; exact h.reg i h1 h2

set_option maxRecDepth 100000 in
set_option maxHeartbeats 1000000 in
theorem source_any (w : World) (R Wb : Nat) (fault : Bool) (first : Int) (ia : Option Addr) (n ic : Nat) (ws : List Int) (P : List PI) (h : RdOk w R Wb fault first ia n ic ws P) (r : Int) (hr : inN ws.length r) :
    Calls Try.prog 43 #[.pointer (some ⟨R, 0, none⟩), .int .i64 r] w fun e w' => e = .returned (.int .i64 (src fault P r)) ∧ Q w w' := by
  have HH := hideIt h
  have HR := hideIt hr
  have CC : Hid (∀ X, Q w X → ∀ m : Nat, m < ws.length → Calls Try.prog 54 #[.pointer (some ⟨R, 0, none⟩), .int .i64 (m : Int)] X fun e w' => (∃ v, e = .returned (.tuple #[.int .i64 v, .bool (cp fault P m).isSome]) ∧ ∀ a, cp fault P m = some a → v = a) ∧ Q X w') := fun X hX m hm => by
    have h' := h.q hX
    exact copied_any X R Wb fault first ia n ic ws P h'.rd h'.wok h'.pat h'.len h'.lo h'.hi h'.reg m hm
  clear h hr
  go_enter Try.func43, Try.ntmps43
  go_wp2_with (fail)
  go_loopw [1, 5, 6, 7] (fun nv d5 d6 d7 w9 => ∃ m : Nat, nv = .int .i64 (m : Int) ∧ m < ws.length ∧ Hid (src fault P m = src fault P r ∧ Q w w9)) (fun nv _ _ _ _ => mu fault P (intOf nv))
  case atStart =>
    obtain ⟨h1, h2⟩ := HR.out
    exact ⟨r.toNat, by rw [Int.toNat_of_nonneg h1], by omega, by rw [Int.toNat_of_nonneg h1], Q.refl _⟩
  case round =>
    obtain ⟨m, rfl, hm, HI⟩ := hrel
    generalize wr = w1 at *
    have CM := hideIt (CC.out w1 HI.out.2 m hm)
    cases hc : cp fault P m with
    | none =>
      rw [hc] at CM
      have FIN : Hid (src fault P r = (m : Int)) := by rw [← HI.out.1]; exact src_none hc
      clear hc
      go_wp2_with (first | (go_at_call 54; refine CM.out.mono ?_; rintro e y ⟨⟨v, rfl, -⟩, q⟩; have HQ := hideIt (HI.out.2.trans q); clear q) | fail)
      go_ret
      exact ⟨by rw [FIN.out]; rfl, HQ.out⟩
    | some a =>
      have hin : inN ws.length a := by
        obtain ⟨k, i, k1, k2, k3, k4, k5, -⟩ := cp_inv hc
        rw [← k5]
        exact HH.out.reg i (List.mem_of_getElem? k2) k4
      obtain ⟨a', rfl⟩ : ∃ a' : Nat, a = (a' : Int) := ⟨a.toNat, by have := hin.1; omega⟩
      have ha : a' < ws.length := by have := hin.2; omega
      have hs := src_some HH.out.rf hc
      have HM := hideIt (mu_lt HH.out.rf hc)
      have HS : Hid (src fault P a' = src fault P r) := by rw [← hs]; exact HI.out.1
      rw [hc] at CM
      clear hc hs hin
      go_wp2_with (first | (go_at_call 54; refine CM.out.mono ?_; rintro e y ⟨⟨v, rfl, hv⟩, q⟩; have ev := hv _ rfl; subst ev; have HQ := hideIt (HI.out.2.trans q); clear q hv) | fail)
      go_roundw
      case rel => exact ⟨a', rfl, ha, HS.out, HQ.out⟩
      case measure => simpa [intOf] using HM.out

end Go.Proofs.Ytipmbamcldlmeaa.Pp

namespace Go.Proofs.Ytipmbamcldlmeaa.Pp
open Go.RowKit
set_option linter.unusedVariables false

/-- All but the blocks S, and new ones, is as it was. -/
structure Fs (S : Nat → Prop) (W W' : World) : Prop where
  os : W'.os = W.os
  tape : W'.tape = W.tape
  output : W'.output = W.output
  size : W.heap.size ≤ W'.heap.size
  block : ∀ k, k < W.heap.size → ¬ S k → W'.heap[k]? = W.heap[k]?
theorem Fs.refl (S : Nat → Prop) (W : World) : Fs S W W := ⟨rfl, rfl, rfl, Nat.le_refl _, fun _ _ _ => rfl⟩
theorem Fs.trans {S : Nat → Prop} {A B C : World} (h : Fs S A B) (k : Fs S B C) : Fs S A C := ⟨k.os.trans h.os, k.tape.trans h.tape, k.output.trans h.output, Nat.le_trans h.size k.size, fun j hj hn => (k.block j (Nat.lt_of_lt_of_le hj h.size) hn).trans (h.block j hj hn)⟩
theorem Fs.of_q {S : Nat → Prop} {W W' : World} (q : Q W W') : Fs S W W' := ⟨q.os, q.tape, q.output, q.size, fun k hk _ => q.block k hk⟩
theorem Fs.set {S : Nat → Prop} {A B : World} (h : Fs S A B) {p : Addr} (hp : S p.block ∨ A.heap.size ≤ p.block) (u : Value) : Fs S A (B.setCell p u) :=
  ⟨h.os, h.tape, h.output, by have := h.size; simpa using this, fun j hj hn => (Below.heap_setCell B p u j (fun e => by rcases hp with hp | hp; exact hn (by rw [e]; exact hp); omega)).trans (h.block j hj hn)⟩
theorem Fs.drew {S : Nat → Prop} {A B : World} (h : Fs S A B) : Fs S A B.drew := ⟨h.os, h.tape, h.output, h.size, h.block⟩
theorem Fs.drewN {S : Nat → Prop} {A B : World} (h : Fs S A B) (n : Nat) : Fs S A (B.drewN n) := ⟨h.os, h.tape, h.output, h.size, h.block⟩
theorem Fs.less {S T : Nat → Prop} {A B : World} (h : Fs S A B) (hs : ∀ k, S k → T k ∨ A.heap.size ≤ k) : Fs T A B := ⟨h.os, h.tape, h.output, h.size, fun k hk hn => h.block k hk (fun q => (hs k q).elim hn (fun e => by omega))⟩
theorem Fs.heap {S : Nat → Prop} {W W' : World} (f : Fs S W W') {k : Nat} {o : Obj} (h : W.heap[k]? = some o) (hn : ¬ S k) : W'.heap[k]? = some o := (f.block k (Array.getElem?_eq_some_iff.1 h).1 hn).trans h
theorem Fs.cell {S : Nat → Prop} {W W' : World} (f : Fs S W W') {q : Addr} {v : Value} (h : W.cell? q = some v) (hn : ¬ S q.block) : W'.cell? q = some v := (World.cell?_of_block (f.block q.block (World.block_lt_of_cell? W _ h) hn)).trans h

/-- Another instruction whose list lies where it lay. -/
structure Alk (x y : PI) : Prop where
  aa : y.aa = x.aa
  ac : y.ac = x.ac
  len : y.args.length = x.args.length
theorem Alk.aaB {x y : PI} (h : Alk x y) {b : Nat} (hb : aaB y b) : aaB x b := ⟨fun e => hb.1 (List.eq_nil_of_length_eq_zero (by rw [h.len, e]; rfl)), by rw [← h.aa]; exact hb.2⟩
theorem Alk.of_read (s : Int → Int) (x : PI) : Alk x (readI s x) := ⟨readI_aa s x, readI_ac s x, readI_len s x⟩
theorem set_get {α : Type} {L : List α} {n k : Nat} {x y z : α} (hx : L[n]? = some x) (h : (L.set n y)[k]? = some z) : (k = n ∧ z = y) ∨ (k ≠ n ∧ L[k]? = some z) := by
  have hn := (List.getElem?_eq_some_iff.1 hx).1
  rw [List.getElem?_set] at h
  split at h
  · rename_i e
    subst e
    simp at h
    exact Or.inl ⟨rfl, h.symm⟩
  · rename_i e
    exact Or.inr ⟨fun q => e q.symm, h⟩
theorem OrdI.set {a : Option Addr} {L : List PI} (h : OrdI a L) {n : Nat} {x y : PI} (hx : L[n]? = some x) (hy : Alk x y) : OrdI a (L.set n y) := by
  have get : ∀ k z b, (L.set n y)[k]? = some z → aaB z b → ∃ z', L[k]? = some z' ∧ aaB z' b := fun k z b hz hb => by
    rcases set_get hx hz with ⟨rfl, rfl⟩ | ⟨-, h2⟩
    · exact ⟨x, hx, hy.aaB hb⟩
    · exact ⟨z, h2, hb⟩
  refine ⟨fun k1 k2 x1 x2 b1 b2 e1 e2 h12 a1 a2 => ?_, fun z hz b hb g hg => ?_⟩
  · obtain ⟨y1, f1, g1⟩ := get k1 x1 b1 e1 a1
    obtain ⟨y2, f2, g2⟩ := get k2 x2 b2 e2 a2
    exact h.up k1 k2 y1 y2 b1 b2 f1 f2 h12 g1 g2
  · obtain ⟨k, hk⟩ := List.mem_iff_getElem?.1 hz
    obtain ⟨y1, f1, g1⟩ := get k z b hk hb
    exact h.beh y1 (List.mem_of_getElem? f1) b g1 g hg
theorem ord_ne {a : Option Addr} {L : List PI} (h : OrdI a L) {k n : Nat} {x z : PI} {b b' : Nat} (hx : L[n]? = some x) (hz : L[k]? = some z) (hk : k ≠ n) (hb : aaB x b) (hb' : aaB z b') : b' ≠ b := fun e => by
  subst e
  rcases Nat.lt_or_gt_of_ne hk with q | q
  · have := h.up k n z x b' b' hz hx q hb' hb; omega
  · have := h.up n k x z b' b' hx hz q hb hb'; omega

theorem ints_set {lo : Nat} {W : World} {aa : Option Addr} {l : List Int} (h : Ints W aa l) (hn : NB lo W aa l.length) {p : Addr} {u : Value} (hne : ∀ b, l ≠ [] → aa = some ⟨b, 0, none⟩ → b ≠ p.block) : Ints (W.setCell p u) aa l := fun k y hy => by
  obtain ⟨b, o, e, h1, h2⟩ := h k y hy
  have hl : l ≠ [] := fun q => by rw [q] at hy; simp at hy
  have hb : b ≠ p.block := by
    rcases hn with q | ⟨b', cs, t, e', -, -⟩
    · exact absurd (List.eq_nil_of_length_eq_zero q) hl
    · rw [e] at e'
      simp at e'
      rw [e'.1]
      exact hne b' hl (by rw [e, e'.1, e'.2])
  exact ⟨b, o, e, set_cell_ne h1 (fun q => hb (by rw [← q])), h2⟩
theorem ok_set {lo : Nat} {W : World} {x : PI} (h : x.ok W) (hn : NB lo W x.aa x.args.length) {p : Addr} {u : Value} (hne : ∀ b, aaB x b → b ≠ p.block) : x.ok (W.setCell p u) := ⟨h.op, h.ty, h.dst, h.a, h.b, h.imm, h.sok, ints_set h.args hn fun b h1 h2 => hne b ⟨h1, h2⟩⟩

variable {lo g n : Nat} {W : World} {L : List PI} {x : PI}
/-- A number of an instruction is written. -/
theorem InsL.setF (h : InsL lo W (some ⟨g, 0, none⟩) L) (hx : L[n]? = some x) {y : PI} {j : Nat} {u : Value} (hj : j < 7) (hc : y.cells = x.cells.set j u) (hy : Alk x y) (ha : y.args = x.args) (hok : ∀ W', x.ok W' → y.ok W') : InsL lo (W.setCell ⟨g, n * 7 + j, none⟩ u) (some ⟨g, 0, none⟩) (L.set n y) := by
  have far : ∀ z ∈ L, ∀ b, aaB z b → b ≠ g := fun z hz b hb e => by have := h.ord.beh z hz b hb g rfl; omega
  refine ⟨fun k z hz => ?_, by rw [List.length_set]; exact h.nb.set _, fun z hz => ?_, OrdI.set h.ord hx hy⟩
  · rcases set_get hx hz with ⟨rfl, rfl⟩ | ⟨h1, h2⟩
    · obtain ⟨b, o, e, hat, hxo⟩ := h.at' k x hx
      simp at e
      obtain ⟨rfl, rfl⟩ := e
      refine ⟨g, 0, rfl, ?_, hok _ (ok_set hxo (h.each x (List.mem_of_getElem? hx)) (far x (List.mem_of_getElem? hx)))⟩
      rw [Nat.zero_add] at hat ⊢
      intro i hi
      rw [hc]
      by_cases e : i = j
      · subst e
        have hi' : i < x.cells.length := hj
        rw [List.getElem?_set_self hi']
        exact World.cell?_setCell_same _ _ _ ((hat i hi').trans (List.getElem?_eq_getElem hi'))
      · rw [List.getElem?_set_ne (fun q => e q.symm)]
        have hi' : i < x.cells.length := hi
        rw [World.cell?_setCell_other (h := fun q => by injection q with q1 q2; omega)]
        exact hat i hi'
    · obtain ⟨b, o, e, hat, hzo⟩ := h.at' k z h2
      simp at e
      obtain ⟨rfl, rfl⟩ := e
      refine ⟨g, 0, rfl, fun i hi => ?_, ok_set hzo (h.each z (List.mem_of_getElem? h2)) (far z (List.mem_of_getElem? h2))⟩
      have hi7 : i < 7 := hi
      rw [World.cell?_setCell_other (h := fun q => by injection q with q1 q2; omega)]
      exact hat i hi
  · obtain ⟨k, hk⟩ := List.mem_iff_getElem?.1 hz
    rcases set_get hx hk with ⟨rfl, rfl⟩ | ⟨h1, h2⟩
    · rw [hy.aa, hy.len]
      exact (h.each x (List.mem_of_getElem? hx)).set _
    · exact (h.each z (List.mem_of_getElem? h2)).set _
/-- An argument of an instruction is written. -/
theorem InsL.setArg (h : InsL lo W (some ⟨g, 0, none⟩) L) (hx : L[n]? = some x) {b m : Nat} (hb : aaB x b) {v : Int} (hv : I64 v) : InsL lo (W.setCell ⟨b, m, none⟩ (.int .i64 v)) (some ⟨g, 0, none⟩) (L.set n { x with args := x.args.set m v }) := by
  have hbg : g ≠ b := fun e => by have := h.ord.beh x (List.mem_of_getElem? hx) b hb g rfl; omega
  have hy : Alk x { x with args := x.args.set m v } := ⟨rfl, rfl, by simp⟩
  refine ⟨fun k z hz => ?_, by rw [List.length_set]; exact h.nb.set _, fun z hz => ?_, OrdI.set h.ord hx hy⟩
  · rcases set_get hx hz with ⟨rfl, rfl⟩ | ⟨h1, h2⟩
    · obtain ⟨b0, o, e, hat, hxo⟩ := h.at' k x hx
      simp at e
      obtain ⟨rfl, rfl⟩ := e
      refine ⟨g, 0, rfl, ?_, hxo.op, hxo.ty, hxo.dst, hxo.a, hxo.b, hxo.imm, by have := hxo.sok; simpa using this, fun i y hy => ?_⟩
      · have := At.set (p := ⟨b, m, none⟩) (u := .int .i64 v) hat hbg
        simpa [PI.cells] using this
      · have hi := (List.getElem?_eq_some_iff.1 hy).1
        rw [List.length_set] at hi
        obtain ⟨y0, hy0⟩ := get_of_lt hi
        obtain ⟨b1, o1, e1, c1, c2⟩ := hxo.args i y0 hy0
        have e2 := e1
        rw [hb.2] at e2
        simp at e2
        obtain ⟨rfl, rfl⟩ := e2
        refine ⟨b, 0, hb.2, ?_⟩
        rw [Nat.mul_one, Nat.zero_add] at c1 ⊢
        rw [List.getElem?_set] at hy
        split at hy
        · rename_i e
          subst e
          simp [hi] at hy
          subst hy
          exact ⟨World.cell?_setCell_same _ _ _ c1, hv⟩
        · rename_i e
          rw [hy0] at hy
          injection hy with hy
          subst hy
          exact ⟨set_cell_ne c1 (fun q => by injection q with q1 q2; omega), c2⟩
    · obtain ⟨b0, o, e, hat, hzo⟩ := h.at' k z h2
      exact ⟨b0, o, e, hat.set (by simp at e; show b0 ≠ b; omega), ok_set hzo (h.each z (List.mem_of_getElem? h2)) (fun b' hb' => ord_ne h.ord hx h2 h1 hb hb')⟩
  · obtain ⟨k, hk⟩ := List.mem_iff_getElem?.1 hz
    rcases set_get hx hk with ⟨rfl, rfl⟩ | ⟨h1, h2⟩
    · rw [hy.aa, hy.len]
      exact (h.each x (List.mem_of_getElem? hx)).set _
    · exact (h.each z (List.mem_of_getElem? h2)).set _

end Go.Proofs.Ytipmbamcldlmeaa.Pp
