/-
  Code in memory of its own while the instructions of one part are changed where they lie: facts on worlds; no conditions but those that each fact bears.
-/
import Derived.Test.YtaomkfhbnakbjaaKFoE
import Derived.Test.YtaomkfhbnakbjaaKIrZi
namespace Go.Proofs.Ytaomkfhbnakbjaa.Fo
open Go.RowKit
set_option linter.unusedVariables false

section
variable {lo : Nat} {W W' : World} {g : Nat} {u : Int}

theorem cell_fr (f : FrX g W W') {b j : Nat} {v : Value} (h : W.cell? ⟨b, j, none⟩ = some v) (hn : b ≠ g) : W'.cell? ⟨b, j, none⟩ = some v := f.cell h hn
/-- A list whose first cell is no small number lies elsewhere. -/
theorem lst_far {α : Type} {sz : Nat} {P : Nat → Nat → α → Prop} (hu : W.cell? ⟨g, 0, none⟩ = some (.int .u8 u)) {a : Option Addr} {l : List α} (h : Lst sz P a l) (hn : NB lo W a l.length) (hc : ∀ b x, P b 0 x → ∃ v, W.cell? ⟨b, 0, none⟩ = some v ∧ v ≠ .int .u8 u) : l = [] ∨ ∃ b, a = some ⟨b, 0, none⟩ ∧ b ≠ g := by
  rcases hn with h0 | ⟨b, cs, t, e, hl, hh⟩
  · exact Or.inl (List.eq_nil_of_length_eq_zero h0)
  · by_cases h0 : l = []
    · exact Or.inl h0
    · refine Or.inr ⟨b, e, fun q => ?_⟩
      obtain ⟨y, hy⟩ := get_of_lt (l := l) (k := 0) (by have : l.length ≠ 0 := fun h => h0 (List.eq_nil_of_length_eq_zero h); omega)
      obtain ⟨b', o', e', hp⟩ := h 0 y hy
      rw [e] at e'
      simp at e'
      obtain ⟨rfl, rfl⟩ := e'
      rw [Nat.zero_mul] at hp
      obtain ⟨v, h1, h2⟩ := hc b y hp
      rw [q, hu] at h1
      exact h2 (Option.some.inj h1).symm
theorem nb_far {α : Type} {a : Option Addr} {l : List α} (h : l = [] ∨ ∃ b, a = some ⟨b, 0, none⟩ ∧ b ≠ g) (hn : NB lo W a l.length) (f : FrX g W W') : NB lo W' a l.length := by
  rcases h with h0 | ⟨b, e, hb⟩
  · exact Or.inl (by rw [h0]; rfl)
  · rcases hn with q | ⟨b', cs, t, e', hl, hh⟩
    · exact Or.inl q
    · have eb : b' = b := by rw [e] at e'; simp at e'; exact e'.symm
      exact Or.inr ⟨b', cs, t, e', hl, f.heap hh (by rw [eb]; exact hb)⟩
theorem addr_far {α : Type} {a : Option Addr} {l : List α} (h : l = [] ∨ ∃ b, a = some ⟨b, 0, none⟩ ∧ b ≠ g) {k : Nat} {x : α} (hx : l[k]? = some x) {b o : Nat} (e : a = some ⟨b, o, none⟩) : b ≠ g := by
  rcases h with h0 | ⟨b', e', hb⟩
  · rw [h0] at hx; simp at hx
  · rw [e] at e'; simp at e'; rw [e'.1]; exact hb

theorem ints_fr (hu : W.cell? ⟨g, 0, none⟩ = some (.int .u8 u)) {a : Option Addr} {l : List Int} (h : Ints W a l) (hn : NB lo W a l.length) (f : FrX g W W') : Ints W' a l ∧ NB lo W' a l.length := by
  have far := lst_far hu h hn (fun b x hp => ⟨_, hp.1, by simp⟩)
  exact ⟨fun k x hx => by
    obtain ⟨b, o, e, hc⟩ := h k x hx
    exact ⟨b, o, e, cell_fr f hc.1 (addr_far far hx e), hc.2⟩, nb_far far hn f⟩
theorem insl_fr (hu : W.cell? ⟨g, 0, none⟩ = some (.int .u8 u)) {p : PP} (h : InsL lo W p.ia p.ins) (hne : ∀ b, iaB p b → b ≠ g) (f : FrX g W W') : InsL lo W' p.ia p.ins := by
  have far : p.ins = [] ∨ ∃ b, p.ia = some ⟨b, 0, none⟩ ∧ b ≠ g := by
    by_cases h0 : p.ins = []
    · exact Or.inl h0
    · rcases h.nb with q | ⟨b, cs, t, e, hl, hh⟩
      · exact absurd (List.eq_nil_of_length_eq_zero q) h0
      · exact Or.inr ⟨b, e, hne b ⟨h0, e⟩⟩
  have oks : ∀ x ∈ p.ins, x.ok W → x.ok W' ∧ NB lo W' x.aa x.args.length := fun x hx hxo => by
    obtain ⟨a1, a2⟩ := ints_fr hu hxo.args (h.each x hx) f
    exact ⟨⟨hxo.op, hxo.ty, hxo.dst, hxo.a, hxo.b, hxo.imm, hxo.sok, a1⟩, a2⟩
  refine ⟨fun k x hx => ?_, nb_far far h.nb f, fun x hx => ?_⟩
  · obtain ⟨b, o, e, hat, hok⟩ := h.at' k x hx
    exact ⟨b, o, e, hat.frx (addr_far far hx e) f, (oks x (List.mem_of_getElem? hx) hok).1⟩
  · obtain ⟨k, hk⟩ := List.mem_iff_getElem?.1 hx
    obtain ⟨b, o, e, hat, hok⟩ := h.at' k x hk
    exact (oks x hx hok).2
/-- A part whose instructions lie elsewhere. -/
theorem prt_ok_fr (hu : W.cell? ⟨g, 0, none⟩ = some (.int .u8 u)) {p : PP} (h : p.ok W) (hi : InsL lo W p.ia p.ins) (hne : ∀ b, iaB p b → b ≠ g) (f : FrX g W W') : p.ok W' := ⟨h.cond, h.next, h.els, h.sok, (insl_fr hu hi hne f).at'⟩

/-- The instructions of a part, changed where they lie. -/
theorem il_insl {p : PP} {L : List PI} (hg : iaB p g) (hl : L.length = p.ins.length) (h : IL lo W g L) (hlo : lo ≤ g) : InsL lo W p.ia L := by
  obtain ⟨cs, t, hb⟩ := h.blk
  refine ⟨fun k x hx => ?_, Or.inr ⟨g, cs, t, hg.2, hlo, hb⟩, fun x hx => ?_⟩
  · obtain ⟨z1, z2, z3⟩ := h.at' k x hx
    exact ⟨g, 0, hg.2, by rw [Nat.zero_add]; exact z1, z2⟩
  · obtain ⟨k, hk⟩ := List.mem_iff_getElem?.1 hx
    exact (h.at' k x hk).2.2
theorem insl_il {p : PP} (h : InsL lo W p.ia p.ins) (hg : iaB p g) : IL lo W g p.ins := by
  rcases h.nb with q | ⟨b, cs, t, e, hl, hh⟩
  · exact absurd (List.eq_nil_of_length_eq_zero q) hg.1
  · rw [hg.2] at e
    simp at e
    subst e
    refine ⟨⟨cs, t, hh⟩, fun k x hx => ?_⟩
    obtain ⟨b, o, e', hat, hok⟩ := h.at' k x hx
    rw [hg.2] at e'
    simp at e'
    obtain ⟨rfl, rfl⟩ := e'
    rw [Nat.zero_add] at hat
    exact ⟨hat, hok, h.each x (List.mem_of_getElem? hx)⟩

/-- A part's other face. -/
abbrev PP.wi (p : PP) (L : List PI) : PP := { p with ins := L }
theorem wi_cells {p : PP} {L : List PI} (hl : L.length = p.ins.length) : (PP.wi p L).cells = p.cells := by simp [PP.cells, hl]
theorem wi_iaB {p : PP} {L : List PI} (hl : L.length = p.ins.length) {b : Nat} (h : iaB (PP.wi p L) b) : iaB p b := ⟨fun e => h.1 (List.eq_nil_of_length_eq_zero (by show L.length = 0; rw [hl, e]; rfl)), h.2⟩

theorem prtl_set (hu : W.cell? ⟨g, 0, none⟩ = some (.int .u8 u)) {a : Option Addr} {l : List PP} (h : PrtL lo W a l) {m : Nat} {p : PP} (hm : l[m]? = some p) (hg : iaB p g) (hlo : lo ≤ g) {L : List PI} (hl : L.length = p.ins.length) (hs : sok 64 p.ia L.length p.ic) (f : FrX g W W') (hil : IL lo W' g L) : PrtL lo W' a (l.set m (PP.wi p L)) := by
  have far := lst_far hu h.at' h.nb (fun b x hp => ⟨_, hp.1.five.1, by simp⟩)
  have hml := (List.getElem?_eq_some_iff.1 hm).1
  have hne : ∀ k x, k ≠ m → l[k]? = some x → ∀ b, iaB x b → b ≠ g := fun k x hk hx b hb e => by
    subst e
    rcases Nat.lt_or_gt_of_ne hk with q | q
    · have := h.ord k m x p b b hx hm q hb hg; omega
    · have := h.ord m k p x b b hm hx q hg hb; omega
  have inew := il_insl hg hl hil hlo
  refine ⟨fun k x hx => ?_, ?_, fun x hx => ?_, fun k1 k2 x1 x2 g1 g2 e1 e2 h12 b1 b2 => ?_⟩
  · rw [List.getElem?_set] at hx
    split at hx
    · rename_i e
      subst e
      simp at hx
      obtain ⟨b, o, e', hat, hok⟩ := h.at' m p hm
      have hx' : x = PP.wi p L := by simpa [hml] using hx.symm
      subst hx'
      refine ⟨b, o, e', ?_, ⟨hok.cond, hok.next, hok.els, hs, inew.at'⟩⟩
      rw [wi_cells hl]
      exact hat.frx (addr_far far hm e') f
    · rename_i e
      obtain ⟨b, o, e', hat, hok⟩ := h.at' k x hx
      exact ⟨b, o, e', hat.frx (addr_far far hx e') f, prt_ok_fr hu hok (h.each x (List.mem_of_getElem? hx)) (hne k x (fun q => e q.symm) hx) f⟩
  · rw [List.length_set]
    exact nb_far far h.nb f
  · obtain ⟨k, hk⟩ := List.mem_iff_getElem?.1 hx
    rw [List.getElem?_set] at hk
    split at hk
    · have hx' : x = PP.wi p L := by simpa [hml] using hk.symm
      subst hx'
      exact inew
    · rename_i e
      exact insl_fr hu (h.each x (List.mem_of_getElem? hk)) (hne k x (fun q => e q.symm) hk) f
  · have get : ∀ k x b, (l.set m (PP.wi p L))[k]? = some x → iaB x b → ∃ x', l[k]? = some x' ∧ iaB x' b := fun k x b hx hb => by
      rw [List.getElem?_set] at hx
      split at hx
      · rename_i e
        have hx' : x = PP.wi p L := by simpa [hml] using hx.symm
        subst hx'
        exact ⟨p, by rw [← e]; exact hm, wi_iaB hl hb⟩
      · exact ⟨x, hx, hb⟩
    obtain ⟨y1, f1, f2⟩ := get k1 x1 g1 e1 b1
    obtain ⟨y2, f3, f4⟩ := get k2 x2 g2 e2 b2
    exact h.ord k1 k2 y1 y2 g1 g2 f1 f3 h12 f2 f4

theorem prtl_fr (hu : W.cell? ⟨g, 0, none⟩ = some (.int .u8 u)) {a : Option Addr} {l : List PP} (h : PrtL lo W a l) (hne : ∀ x ∈ l, ∀ b, iaB x b → b ≠ g) (f : FrX g W W') : PrtL lo W' a l := by
  have far := lst_far hu h.at' h.nb (fun b x hp => ⟨_, hp.1.five.1, by simp⟩)
  refine ⟨fun k x hx => ?_, nb_far far h.nb f, fun x hx => insl_fr hu (h.each x hx) (hne x hx) f, h.ord⟩
  obtain ⟨b, o, e', hat, hok⟩ := h.at' k x hx
  exact ⟨b, o, e', hat.frx (addr_far far hx e') f, prt_ok_fr hu hok (h.each x (List.mem_of_getElem? hx)) (hne x (List.mem_of_getElem? hx)) f⟩

abbrev PF.wp (f : PF) (L : List PP) : PF := { f with parts := L }
abbrev PC.wf (c : PC) (L : List PF) : PC := { c with fns := L }
/-- Code, the instructions of one part changed where they lie. -/
theorem codel_set {A : PC} (h : CodeL lo W A) {k : Nat} {fn : PF} (hk : A.fns[k]? = some fn) {m : Nat} {p : PP} (hm : fn.parts[m]? = some p) (hg : iaB p g) {L : List PI} (hl : L.length = p.ins.length) (f : FrX g W W') (hil : IL lo W' g L) :
    CodeL lo W' (PC.wf A (A.fns.set k (PF.wp fn (fn.parts.set m (PP.wi p L))))) := by
  have hfn := h.fn.each fn (List.mem_of_getElem? hk)
  have hip := hfn.parts.each p (List.mem_of_getElem? hm)
  obtain ⟨u, hu⟩ : ∃ u, W.cell? ⟨g, 0, none⟩ = some (.int .u8 u) := by
    obtain ⟨x, hx⟩ := get_of_lt (l := p.ins) (k := 0) (by have : p.ins.length ≠ 0 := fun h => hg.1 (List.eq_nil_of_length_eq_zero h); omega)
    exact (insl_il hip hg).first hx
  have hlo := (InsL.lb hip hg).1
  obtain ⟨_, _, -, -, hfo⟩ := h.fn.at' k fn hk
  obtain ⟨_, _, -, -, hpo⟩ := hfo.parts m p hm
  have hs : sok 64 p.ia L.length p.ic := by rw [hl]; exact hpo.sok
  have hkl := (List.getElem?_eq_some_iff.1 hk).1
  have far := lst_far hu h.fn.at' h.fn.nb (fun b x hp => ⟨_, hp.1.four.1, by simp⟩)
  obtain ⟨g1, g2⟩ := ints_fr hu h.ok.gl h.gn f
  obtain ⟨n1, n2⟩ := ints_fr hu h.ok.ini h.nn f
  have hne : ∀ j x, j ≠ k → A.fns[j]? = some x → ∀ y ∈ x.parts, ∀ b, iaB y b → b ≠ g := fun j x hj hx y hy b hb e => by
    subst e
    rcases Nat.lt_or_gt_of_ne hj with q | q
    · have := h.fn.ord j k x fn hx hk q y hy p (List.mem_of_getElem? hm) b b hb hg; omega
    · have := h.fn.ord k j fn x hk hx q p (List.mem_of_getElem? hm) y hy b b hg hb; omega
  have newp := prtl_set hu hfn.parts hm hg hlo hl hs f hil
  have fnok : ∀ j x, (A.fns.set k (PF.wp fn (fn.parts.set m (PP.wi p L))))[j]? = some x → FnN lo W' x ∧ ∃ b o, A.fa = some ⟨b, o, none⟩ ∧ FnAt W' b (o + j * 4) x := fun j x hx => by
    rw [List.getElem?_set] at hx
    split at hx
    · rename_i e
      have hx' : x = PF.wp fn (fn.parts.set m (PP.wi p L)) := by simpa [hkl] using hx.symm
      subst hx'
      subst e
      obtain ⟨b, o, e', hat, hok⟩ := h.fn.at' k fn hk
      obtain ⟨s1, s2⟩ := ints_fr hu hok.slots hfn.slots f
      refine ⟨⟨s2, newp⟩, b, o, e', ?_, ⟨hok.params, hok.regs, hok.ssok, s1, by rw [List.length_set]; exact hok.psok, newp.at'⟩⟩
      have ec : (PF.wp fn (fn.parts.set m (PP.wi p L))).cells = fn.cells := by simp [PF.cells]
      rw [ec]
      exact hat.frx (addr_far far hk e') f
    · rename_i e
      obtain ⟨b, o, e', hat, hok⟩ := h.fn.at' j x hx
      have hfx := h.fn.each x (List.mem_of_getElem? hx)
      obtain ⟨s1, s2⟩ := ints_fr hu hok.slots hfx.slots f
      have pf := prtl_fr hu hfx.parts (hne j x (fun q => e q.symm) hx) f
      exact ⟨⟨s2, pf⟩, b, o, e', hat.frx (addr_far far hx e') f, ⟨hok.params, hok.regs, hok.ssok, s1, hok.psok, pf.at'⟩⟩
  have hfns : FnL lo W' A.fa (A.fns.set k (PF.wp fn (fn.parts.set m (PP.wi p L)))) := by
    refine ⟨fun j x hx => (fnok j x hx).2, by rw [List.length_set]; exact nb_far far h.fn.nb f, fun x hx => ?_, fun k1 k2 f1 f2 e1 e2 h12 x1 m1 x2 m2 g1 g2 b1 b2 => ?_⟩
    · obtain ⟨j, hj⟩ := List.mem_iff_getElem?.1 hx
      exact (fnok j x hj).1
    · have get : ∀ (j : Nat) (x : PF), (A.fns.set k (PF.wp fn (fn.parts.set m (PP.wi p L))))[j]? = some x → ∃ x' : PF, A.fns[j]? = some x' ∧ ∀ y ∈ x.parts, ∀ b, iaB y b → ∃ y' ∈ x'.parts, iaB y' b := fun j x hx => by
        rw [List.getElem?_set] at hx
        split at hx
        · rename_i e
          have hx' : x = PF.wp fn (fn.parts.set m (PP.wi p L)) := by simpa [hkl] using hx.symm
          subst hx'
          refine ⟨fn, by rw [← e]; exact hk, fun y hy b hb => ?_⟩
          rcases List.mem_or_eq_of_mem_set hy with q | q
          · exact ⟨y, q, hb⟩
          · subst q
            exact ⟨p, List.mem_of_getElem? hm, wi_iaB hl hb⟩
        · exact ⟨x, hx, fun y hy b hb => ⟨y, hy, hb⟩⟩
      obtain ⟨y1, f1', q1⟩ := get k1 f1 e1
      obtain ⟨y2, f2', q2⟩ := get k2 f2 e2
      obtain ⟨z1, mz1, bz1⟩ := q1 x1 m1 g1 b1
      obtain ⟨z2, mz2, bz2⟩ := q2 x2 m2 g2 b2
      exact h.fn.ord k1 k2 y1 y2 f1' f2' h12 z1 mz1 z2 mz2 g1 g2 bz1 bz2
  exact ⟨⟨h.ok.gsok, g1, h.ok.nsok, n1, by rw [List.length_set]; exact h.ok.fsok, hfns.at'⟩, g2, n2, hfns⟩
end

end Go.Proofs.Ytaomkfhbnakbjaa.Fo
