/-
  Lists of yes and no in memory; what is live ahead of instructions (before of the document's layer 19): a contract over the program; the conditions: the part and the list lie in memory, the registers are some of the list's.
-/
import Derived.Test.YtkcniahpkcdhoaaDoorKLvZl
import Derived.Deep.DeepCutAuto
namespace Go.Proofs.YtkcniahpkcdhoaaDoor.Lv
open Go.RowKit
set_option linter.unusedVariables false

abbrev mapB (n : Nat) (G : Nat → Bool) : List Value := (List.range n).map (fun r => Value.bool (G r))
theorem mapB_len (n : Nat) (G : Nat → Bool) : (mapB n G).length = n := by simp [mapB]
theorem mapB_get {n : Nat} (G : Nat → Bool) {r : Nat} (h : r < n) : (mapB n G)[r]? = some (.bool (G r)) := by simp [mapB, h]
theorem mapB_congr {n : Nat} {G G' : Nat → Bool} (h : ∀ r, r < n → G r = G' r) : mapB n G = mapB n G' := List.map_congr_left (fun r hr => by rw [h r (List.mem_range.1 hr)])
/-- A list of yes and no of one's own. -/
abbrev OwnB (base : Nat) (z : World) (v : Value) (n : Nat) (G : Nat → Bool) : Prop := z.ownsRow base 4 1 v n (mapB n G)
theorem OwnB.q {base : Nat} {z z' : World} {v : Value} {n : Nat} {G : Nat → Bool} (h : OwnB base z v n G) (q : Q z z') : OwnB base z' v n G := row_q h (fun b hb => q.block b (h.lt b hb).2)
theorem OwnB.congr {base : Nat} {z : World} {v : Value} {n : Nat} {G G' : Nat → Bool} (h : OwnB base z v n G) (e : ∀ r, r < n → G r = G' r) : OwnB base z v n G' := by
  have := mapB_congr e
  show z.ownsRow base 4 1 v n (mapB n G')
  rw [← this]
  exact h
/-- One that can be read. -/
def RdB (w : World) (v : Value) (n : Nat) (G : Nat → Bool) : Prop := ∃ ao c, v = .slice ao n c ∧ ∀ r, r < n → ∃ g, ao = some ⟨g, 0, none⟩ ∧ w.cell? ⟨g, r, none⟩ = some (.bool (G r))
theorem RdB.keep {w w' : World} {v : Value} {n : Nat} {G : Nat → Bool} (h : RdB w v n G) (q : Q w w') : RdB w' v n G := by
  obtain ⟨ao, c, e, h1⟩ := h
  exact ⟨ao, c, e, fun r hr => by obtain ⟨g, e1, e2⟩ := h1 r hr; exact ⟨g, e1, cell_keep q e2⟩⟩
theorem OwnB.rd {base : Nat} {z : World} {v : Value} {n : Nat} {G : Nat → Bool} (h : OwnB base z v n G) : RdB z v n G := by
  obtain ⟨ao, c, rfl⟩ := own_form h
  refine ⟨ao, c, rfl, fun r hr => ?_⟩
  obtain ⟨g, cap, e, -, -⟩ := h.form (by omega)
  injection e with e _ _
  subst e
  refine ⟨g, rfl, ?_⟩
  rw [World.ownsRow.cellAt h r (by omega), mapB_get G hr]
def updB (G : Nat → Bool) (r : Nat) (b : Bool) : Nat → Bool := fun q => if q = r then b else G q
/-- One is written. -/
theorem own_setB {w z : World} {g c n : Nat} {G : Nat → Bool} (hq : Q w z) (h : OwnB w.heap.size z (.slice (some ⟨g, 0, none⟩) n c) n G) {r : Nat} (hr : r < n) (b : Bool) : z.cell? ⟨g, r, none⟩ = some (.bool (G r)) ∧ z.frozen? ⟨g, r, none⟩ = false ∧ Q w (z.setCell ⟨g, r, none⟩ (.bool b)) ∧ OwnB w.heap.size (z.setCell ⟨g, r, none⟩ (.bool b)) (.slice (some ⟨g, 0, none⟩) n c) n (updB G r b) := by
  have hc : z.cell? ⟨g, r, none⟩ = some (.bool (G r)) := by rw [World.ownsRow.cellAt h r (by omega), mapB_get G hr]
  have hg : w.heap.size ≤ g := (h.lt g rfl).1
  refine ⟨hc, h.frozenAt r, ⟨hq.os, hq.tape, hq.output, by have := hq.size; simpa using this, fun b' hb => ?_⟩, ?_⟩
  · rw [Below.heap_setCell z ⟨g, r, none⟩ _ b' (by show b' ≠ g; omega)]
    exact hq.block b' hb
  · obtain ⟨h1, h2 | ⟨g', cap, cur, e1, e2, e3, e4, e5, e6, e7⟩⟩ := h
    · cases h2.1
    · injection e1 with e1 _ e8
      injection e1 with e1
      injection e1 with e1 _
      subst e1
      subst e8
      refine ⟨by simp [mapB], Or.inr ⟨g, c, cur.setIfInBounds r (.bool b), rfl, e2, block_set e3 _, e4, e5, by simpa using e6, ?_⟩⟩
      rw [Array.toList_setIfInBounds, List.take_set, e7]
      refine List.ext_getElem? (fun i => ?_)
      rw [List.getElem?_set]
      by_cases hi : i < n
      · by_cases e : r = i
        · subst e
          rw [if_pos rfl, if_pos (by rw [mapB_len]; exact hr), mapB_get _ hi]
          simp [updB]
        · rw [if_neg e, mapB_get _ hi, mapB_get _ hi]
          have : ¬ i = r := fun q => e q.symm
          simp [updB, this]
      · have n1 : (mapB n G)[i]? = none := List.getElem?_eq_none (by rw [mapB_len]; omega)
        have n2 : (mapB n (updB G r b))[i]? = none := List.getElem?_eq_none (by rw [mapB_len]; omega)
        rw [n1, n2]
        by_cases e : r = i
        · omega
        · rw [if_neg e]

/-- What is asked of a part: its registers are some. -/
structure okB (p : PP) (n : Nat) : Prop where
  us : ∀ x ∈ p.ins, ∀ u ∈ usesP x, 0 ≤ u ∧ u < (n : Int)
  wt : ∀ x ∈ p.ins, wrP x.op = true → 0 ≤ x.dst ∧ x.dst < (n : Int)
  cd : 0 ≤ p.cond → p.cond < (n : Int)
theorem infoB : ∃ i0, Tryd.prog.info? 4 = some i0 ∧ i0.zero = some (.bool false) ∧ i0.size = 1 ∧ i0.bytes = 1 := by
  have h : (Tryd.prog.info? 4).map (fun i => (i.zero, i.size, i.bytes)) = some (some (.bool false), 1, 1) := by kernel_rfl
  obtain ⟨i, hi, hz⟩ := Option.map_eq_some_iff.1 h
  simp only [Prod.mk.injEq] at hz
  exact ⟨i, hi, hz.1, hz.2.1, hz.2.2⟩
def usT (L : List Int) (r : Nat) : Bool := L.any (fun u => u.toNat == r)
theorem usT_snoc (L : List Int) (u : Int) (r : Nat) : usT (L ++ [u]) r = (usT L r || u.toNat == r) := by simp [usT]

/-- The world behind the box of a part. -/
abbrev bxP (w : World) (p : PP) : World := w.alloc (.cells #[.slice p.ia p.ins.length p.ic, .bool p.e, .int .i64 p.cond, .int .i64 p.next, .int .i64 p.els] 49)

theorem row_mono {w : World} {base base' : Nat} {e : TypeId} {size : Nat} {v : Value} {n : Nat} {xs : List Value} (h : w.ownsRow base e size v n xs) (hb : base' ≤ base) : w.ownsRow base' e size v n xs := by
  obtain ⟨h1, h2 | ⟨g, cap, cur, e1, e2, e3⟩⟩ := h
  · exact ⟨h1, Or.inl h2⟩
  · exact ⟨h1, Or.inr ⟨g, cap, cur, e1, Nat.le_trans hb e2, e3⟩⟩
theorem grown_q {w Z w1 : World} {o : Option Nat} (hq : Q w Z) (hg : Z.grownBy w1 o) (hb : ∀ b, o = some b → w.heap.size ≤ b) : Q w w1 := by
  have hs := hq.size
  refine ⟨by rw [hg.os]; exact hq.os, by rw [hg.tape]; exact hq.tape, by rw [hg.output]; exact hq.output, by have := hg.size; omega, fun b h => ?_⟩
  rw [hg.block b (by omega) (fun e => by have := hb b e.symm; omega)]
  exact hq.block b h
theorem own_none (X : World) (base : Nat) (h : base ≤ X.heap.size) : (X.alloc (.cells #[] 4)).ownsRow base 4 1 (.slice (some ⟨X.heap.size, 0, none⟩) 0 0) 0 [] := ⟨rfl, Or.inr ⟨X.heap.size, 0, #[], rfl, h, heap_alloc_new X _, Nat.le_refl _, by decide, rfl, rfl⟩⟩
theorem mapB_one (n : Nat) (G : Nat → Bool) : ∀ u ∈ mapB n G, u.oneCell' = true := fun u hu => by
  obtain ⟨r, -, e⟩ := List.mem_map.1 hu
  subst e
  rfl
/-- A step back over one instruction. -/
theorem bef_step (l : List PI) (S : Nat → Bool) (m : Nat) (x : PI) (hx : l[m]? = some x) (r : Nat) : befL (l.drop m) S r = (usT (usesP x) r || (!wtB x r && befL (l.drop (m + 1)) S r)) := by
  have e : l.drop m = x :: l.drop (m + 1) := by
    obtain ⟨h1, h2⟩ := List.getElem?_eq_some_iff.1 hx
    rw [List.drop_eq_getElem_cons h1, h2]
  rw [e]
  rfl

set_option maxRecDepth 100000 in
set_option maxHeartbeats 16000000 in
theorem before_any (w : World) (p : PP) (hp : p.ok w) (upto n : Nat) (hn0 : 0 < n) (hn : n ≤ 1000000) (hb : okB p n) (hu : upto ≤ p.ins.length) (v : Value) (G : Nat → Bool) (hv : RdB w v n G) :
    Calls Tryd.prog 26 #[p.v, v, .int .i64 (upto : Int)] w fun e w' => ∃ nv, e = .returned nv ∧ OwnB w.heap.size w' nv n (befL (p.ins.drop upto) (fun r => cdB p r || G r)) ∧ Q w w' := by
  obtain ⟨X, hX⟩ : ∃ X, bxP w p = X := ⟨_, rfl⟩
  have qX : Q w X := by rw [← hX]; exact (Q.refl w).alloc _
  have bx : X.heap[w.heap.size]? = some (.cells #[.slice p.ia p.ins.length p.ic, .bool p.e, .int .i64 p.cond, .int .i64 p.next, .int .i64 p.els] 49 (0, 0)) := by rw [← hX]; exact heap_alloc_new w _
  have BX := hideIt bx
  have QX := hideIt qX
  have HP := hideIt hp
  have HOB := hideIt hb
  obtain ⟨ao, cc, rfl, hrd⟩ := hv
  obtain ⟨g0, rfl, -⟩ := hrd 0 hn0
  have HRD : Hid (∀ Y, Q w Y → ∀ (j : Nat) (u : Value), (mapB n G)[j]? = some u → Y.cell? ((⟨g0, 0, none⟩ : Addr).add j) = some u) := fun Y q j u hj => by
    have hjn : j < n := by have := (List.getElem?_eq_some_iff.1 hj).1; rw [mapB_len] at this; exact this
    rw [mapB_get G hjn] at hj
    injection hj with hj
    subst hj
    obtain ⟨g, e, hc⟩ := hrd j hjn
    injection e with e
    injection e with e _
    subst e
    have hadd : (⟨g0, 0, none⟩ : Addr).add j = ⟨g0, j, none⟩ := by unfold Addr.add; split <;> simp_all
    rw [hadd]
    exact cell_keep q hc
  obtain ⟨i0, ti, tz0, tz1, tz2⟩ := infoB
  have HTI := hideIt (And.intro ti (And.intro tz0 (And.intro tz1 tz2)))
  have hpn : p.ins.length ≤ 9223372036854775807 := hp.sok.len
  have hci := hp.cond
  clear ti tz0 tz1 tz2 hrd hp hb qX bx
  have b2 : X.cell? ⟨w.heap.size, 2, none⟩ = some (.int .i64 p.cond) := (cell_of_block BX.out 2).trans rfl
  have hX' : w.alloc (.cells #[.slice p.ia p.ins.length p.ic, .bool p.e, .int .i64 p.cond, .int .i64 p.next, .int .i64 p.els] 49) = X := hX
  clear hX
  go_enter Tryd.func26, Tryd.ntmps26
  go_wp2_with (first | (at_builtin; refine wpList_append_lies _ rfl _ _ 44 rfl X.heap.size 4 i0 (.bool false) 1 1 Tryd.underlying44 HTI.out.1 HTI.out.2.1 HTI.out.2.2.1 HTI.out.2.2.2 rfl (by decide) _ 0 [] rfl ?_ ⟨g0, 0, none⟩ n cc (mapB n G) rfl (by rw [mapB_len, Nat.mul_one]) ?_ ?_ hn0 (by unfold maxLen; omega) (by omega) ?_ _ rfl ?_) | fail)
  · exact own_none X X.heap.size (Nat.le_refl _)
  · exact HRD.out _ (QX.out.alloc _)
  · exact mapB_one n G
  · simp
  intro g cap w1 hown hgrow hat hlt
  have HO : Hid (OwnB X.heap.size w1 (.slice (some ⟨g, 0, none⟩) n cap) n G) := hown
  have HQ1 := hideIt (grown_q ((Q.refl X).alloc _) hgrow (fun b e => by injection e with e; have e' : X.heap.size = b := e; omega))
  clear hown hgrow hat hlt
  clear hX' b2
  have SB : Hid (∀ Y, Q X Y → Y.cell? ⟨w.heap.size, 0, none⟩ = some (.slice p.ia p.ins.length p.ic) ∧ Y.cell? ⟨w.heap.size, 2, none⟩ = some (.int .i64 p.cond)) := fun Y q => ⟨cell_keep q ((cell_of_block BX.out 0).trans rfl), cell_keep q ((cell_of_block BX.out 2).trans rfl)⟩
  obtain ⟨sb0, sb2⟩ := SB.out w1 HQ1.out
  generalize hS : (fun r => cdB p r || G r) = S at *
  have HS := hideIt hS
  clear hS
  go_upto_if 17 with fail
  go_cut [] (fun wc => Hid (Q X wc ∧ OwnB X.heap.size wc (.slice (some ⟨g, 0, none⟩) n cap) n S))
  case first =>
    by_cases hc : 0 ≤ p.cond
    · obtain ⟨cn, hcn⟩ : ∃ cn : Nat, p.cond = (cn : Int) := ⟨p.cond.toNat, by omega⟩
      have hcl : cn < n := by have := HOB.out.cd hc; omega
      obtain ⟨t1, t2, t3, t4⟩ := own_setB HQ1.out HO.out hcl true
      have HQ2 := hideIt t3
      have HO2 : Hid (OwnB X.heap.size (w1.setCell ⟨g, cn, none⟩ (.bool true)) (.slice (some ⟨g, 0, none⟩) n cap) n S) := OwnB.congr t4 (fun r _ => by
        rw [← HS.out]
        unfold updB cdB
        rw [hcn, Int.toNat_natCast]
        by_cases e : r = cn
        · simp [e]
        · have : ¬ cn = r := fun q => e q.symm
          simp [e, this])
      have hcn1 : (cn : Int) < (n : Int) := by omega
      have hc1 : (0 : Int) ≤ (cn : Int) := by omega
      rw [hcn] at sb2 ⊢
      clear t3 t4 hc hcn hci
      go_wp2_with (fail)
      go_meet
      exact ⟨HQ2.out, HO2.out⟩
    · have HO2 : Hid (OwnB X.heap.size w1 (.slice (some ⟨g, 0, none⟩) n cap) n S) := OwnB.congr HO.out (fun r _ => by
        rw [← HS.out]
        unfold cdB
        simp [hc])
      go_wp2_with (fail)
      go_meet
      exact ⟨HQ1.out, HO2.out⟩
  case rest =>
    obtain ⟨HQ2, HO2⟩ := hcut
    generalize wc = w2 at *
    clear sb0 sb2
    obtain ⟨sb0, -⟩ := SB.out w2 HQ2
    go_wp2_with (fail)
    go_loopg [8] (p.ins.length + 1) (fun kx iv z => ∃ m : Nat, iv = .int .i64 ((m : Int) - 1) ∧ upto ≤ m ∧ m ≤ p.ins.length ∧ m + 1 ≤ kx ∧ Hid (Q X z ∧ OwnB X.heap.size z (.slice (some ⟨g, 0, none⟩) n cap) n (befL (p.ins.drop m) S)))
    case atStart => exact ⟨p.ins.length, rfl, hu, Nat.le_refl _, Nat.le_refl _, HQ2, by rw [List.drop_length]; exact HO2⟩
    case round =>
      obtain ⟨m, rfl, hm1, hm2, hm3, HI⟩ := hrel
      generalize wr = z at *
      clear sb0
      by_cases hmu : upto < m
      · obtain ⟨m', rfl⟩ : ∃ m', m = m' + 1 := ⟨m - 1, by omega⟩
        have e1 : ((m' + 1 : Nat) : Int) - 1 = (m' : Int) := by omega
        rw [e1]
        have c2 : (upto : Int) ≤ (m' : Int) := by omega
        have c3 : (m' : Int) < (p.ins.length : Int) := by omega
        obtain ⟨x, hx⟩ := get_of_lt (l := p.ins) (k := m') (by omega)
        obtain ⟨ib, io, eia, hiat⟩ := (HP.out.keep (QX.out.trans HI.out.1)).ins m' x hx
        obtain ⟨a0, a1, a2, a3, a4, a5, a6⟩ := hiat.1.seven
        obtain ⟨sb0, -⟩ := SB.out z HI.out.1
        rw [eia] at sb0
        have HST := hideIt (fun r => bef_step p.ins S m' x hx r)
        have hxm := List.mem_of_getElem? hx
        have HUS := hideIt (HOB.out.us x hxm)
        have HWT := hideIt (HOB.out.wt x hxm)
        obtain ⟨Z, hZ⟩ : ∃ Z, z.alloc (.cells #[.int .u8 x.op, .int .u8 x.ty, .int .i64 x.dst, .int .i64 x.a, .int .i64 x.b, .int .i64 x.imm, .slice x.aa x.args.length x.ac] 57) = Z := ⟨_, rfl⟩
        have qZ : Q z Z := by rw [← hZ]; exact (Q.refl z).alloc _
        have bz : Z.heap[z.heap.size]? = some (.cells #[.int .u8 x.op, .int .u8 x.ty, .int .i64 x.dst, .int .i64 x.a, .int .i64 x.b, .int .i64 x.imm, .slice x.aa x.args.length x.ac] 57 (0, 0)) := by rw [← hZ]; exact heap_alloc_new z _
        have HZQ := hideIt (HI.out.1.trans qZ)
        have HZO := hideIt (OwnB.q HI.out.2 qZ)
        have HZB := hideIt bz
        have HXO : Hid (∀ Y, Q X Y → x.ok Y) := fun Y q => by
          obtain ⟨_, _, _, h⟩ := (HP.out.keep (QX.out.trans q)).ins m' x hx
          exact h.2
        have hgz : Hid (g ≠ z.heap.size) := fun e => by have := (HI.out.2.lt g rfl).2; omega
        obtain ⟨wb, hwb⟩ : ∃ wb, wrP x.op = wb := ⟨_, rfl⟩
        have CW := hideIt (fun X => writes_any x.op X)
        rw [hwb] at CW
        have HWB := hideIt hwb
        clear hwb
        have ZC : Hid (∀ (Y : World), Y.heap[z.heap.size]? = Z.heap[z.heap.size]? → Y.cell? ⟨z.heap.size, 0, none⟩ = some (.int .u8 x.op) ∧ Y.cell? ⟨z.heap.size, 1, none⟩ = some (.int .u8 x.ty) ∧ Y.cell? ⟨z.heap.size, 2, none⟩ = some (.int .i64 x.dst) ∧ Y.cell? ⟨z.heap.size, 3, none⟩ = some (.int .i64 x.a) ∧ Y.cell? ⟨z.heap.size, 4, none⟩ = some (.int .i64 x.b) ∧ Y.cell? ⟨z.heap.size, 5, none⟩ = some (.int .i64 x.imm) ∧ Y.cell? ⟨z.heap.size, 6, none⟩ = some (.slice x.aa x.args.length x.ac)) := fun Y hY => by
          rw [HZB.out] at hY
          exact ⟨(cell_of_block hY 0).trans rfl, (cell_of_block hY 1).trans rfl, (cell_of_block hY 2).trans rfl, (cell_of_block hY 3).trans rfl, (cell_of_block hY 4).trans rfl, (cell_of_block hY 5).trans rfl, (cell_of_block hY 6).trans rfl⟩
        obtain ⟨d0, d1, d2, d3, d4, d5, d6⟩ := ZC.out Z rfl
        have hub : Hid ((usesP x).length ≤ 9223372036854775807) := by
          show (usesP x).length ≤ 9223372036854775807
          unfold usesP
          split
          · exact (HXO.out _ HZQ.out).sok.len
          · simp; omega
        generalize hT : befL (p.ins.drop (m' + 1)) S = T0 at *
        clear hx hiat qZ bz hxm eia e1 hT HI
        go_upto_if 38 with (first | (go_at_call 49; refine Calls.mono (CW.out _) ?_; rintro e y ⟨rfl, hy⟩; rw [hy]; clear hy) | fail)
        go_cut [] (fun wc => Hid (Q X wc ∧ OwnB X.heap.size wc (.slice (some ⟨g, 0, none⟩) n cap) n (fun r => !wtB x r && T0 r) ∧ wc.heap[z.heap.size]? = Z.heap[z.heap.size]?))
        case first =>
          cases wb with
          | true =>
            have hw := HWB.out
            obtain ⟨hd0, hd1⟩ := HWT.out hw
            obtain ⟨dn, hdn⟩ : ∃ dn : Nat, x.dst = (dn : Int) := ⟨x.dst.toNat, by omega⟩
            have hdl : dn < n := by omega
            obtain ⟨t1, t2, t3, t4⟩ := own_setB HZQ.out HZO.out hdl false
            have hdn1 : (dn : Int) < (n : Int) := by omega
            have H3 := hideIt t3
            have H4 : Hid (OwnB X.heap.size (Z.setCell ⟨g, dn, none⟩ (.bool false)) (.slice (some ⟨g, 0, none⟩) n cap) n (fun r => !wtB x r && T0 r)) := OwnB.congr t4 (fun r _ => by
              unfold updB wtB
              rw [hw, hdn, Int.toNat_natCast]
              by_cases e : r = dn
              · simp [e]
              · have : ¬ dn = r := fun q => e q.symm
                simp [e, this])
            have hbz := hideIt (Below.heap_setCell Z ⟨g, dn, none⟩ (.bool false) z.heap.size (fun e => hgz.out e.symm))
            rw [hdn] at d2
            clear t3 t4 hdn hd0 hd1 hZ hw
            go_wp2_with (fail)
            go_meet
            exact ⟨H3.out, H4.out, hbz.out⟩
          | false =>
            have hw' := HWB.out
            have H4 : Hid (OwnB X.heap.size Z (.slice (some ⟨g, 0, none⟩) n cap) n (fun r => !wtB x r && T0 r)) := OwnB.congr HZO.out (fun r _ => by
              unfold wtB
              rw [hw']
              simp)
            clear hw' hZ
            go_wp2_with (fail)
            go_meet
            exact ⟨HZQ.out, H4.out, rfl⟩
        case rest =>
          obtain ⟨hq2, ho2, hb2⟩ := hcut
          generalize wc = z2 at *
          have HQ3 := hideIt hq2
          have HO3 := hideIt ho2
          clear d0 d1 d2 d3 d4 d5 d6 a0 a1 a2 a3 a4 a5 a6 sb0 hZ
          obtain ⟨d0, d1, d2, d3, d4, d5, d6⟩ := ZC.out z2 hb2
          have CU := hideIt (ruses_any x z2 (HXO.out z2 hq2))
          clear hq2 ho2 hb2
          have HPX : Hid (∀ r, usB x r = usT (usesP x) r) := fun r => rfl
          rcases x with ⟨op, ty, dst, xa, xb, imm, args, aa, ac⟩
          dsimp only [PI.v] at *
          go_wp2_with (first | (go_at_call 18; refine Calls.mono CU.out ?_; rintro e y ⟨ao2, cc2, rfl, hints, q1⟩; have HIN := hideIt hints; have QY := hideIt q1; clear q1 hints) | fail)
          generalize wtB ⟨op, ty, dst, xa, xb, imm, args, aa, ac⟩ = WT at *
          generalize usesP ⟨op, ty, dst, xa, xb, imm, args, aa, ac⟩ = L at *
          have hub2 := hub.out
          clear d0 d1 d2 d3 d4 d5 d6 HWT HXO CW ZC CU HPX hub HWB
          go_loopg [11] (L.length + 1) (fun kx jv z' => ∃ j : Nat, jv = .int .i64 (j : Int) ∧ j ≤ L.length ∧ L.length - j + 1 ≤ kx ∧ Hid (Q X z' ∧ OwnB X.heap.size z' (.slice (some ⟨g, 0, none⟩) n cap) n (fun r => usT (L.take j) r || (!WT r && T0 r)) ∧ Ints z' ao2 L))
          case atStart => exact ⟨0, rfl, Nat.zero_le _, by omega, HQ3.out.trans QY.out, OwnB.congr (OwnB.q HO3.out QY.out) (fun r _ => by simp [usT]), HIN.out⟩
          case round =>
            obtain ⟨j, rfl, hj, hjk, HJ⟩ := hrel
            generalize wr = z3 at *
            by_cases hjl : j < L.length
            · have hjl2 : (j : Int) < (L.length : Int) := by omega
              obtain ⟨u, hu'⟩ := get_of_lt hjl
              obtain ⟨ub, uo, eao, hcu, -⟩ := HJ.out.2.2 j u hu'
              obtain ⟨u0, u1⟩ := HUS.out u (List.mem_of_getElem? hu')
              obtain ⟨un, rfl⟩ : ∃ un : Nat, u = (un : Int) := ⟨u.toNat, by omega⟩
              have hun : un < n := by omega
              have hun2 : (un : Int) < (n : Int) := by omega
              obtain ⟨t1, t2, t3, t4⟩ := own_setB HJ.out.1 HJ.out.2.1 hun true
              have H3 := hideIt t3
              have H4 : Hid (OwnB X.heap.size (z3.setCell ⟨g, un, none⟩ (.bool true)) (.slice (some ⟨g, 0, none⟩) n cap) n (fun r => usT (L.take (j + 1)) r || (!WT r && T0 r))) := OwnB.congr t4 (fun r _ => by
                rw [take_snoc hu', usT_snoc, Int.toNat_natCast]
                unfold updB
                by_cases e : r = un
                · rw [if_pos e]; simp [e]
                · have t : (un == r) = false := by rw [beq_eq_false_iff_ne]; exact fun q => e q.symm
                  rw [t, if_neg e, Bool.or_false])
              have H5 : Hid (Ints (z3.setCell ⟨g, un, none⟩ (.bool true)) ao2 L) := HJ.out.2.2.mono fun b o v hp => ⟨set_cell_ne' hp.1 (fun e => by
                have e1 : b = g := congrArg Addr.block e
                have e2 : o = un := congrArg Addr.off e
                have h1 := hp.1
                rw [e1, e2, t1] at h1
                cases h1), hp.2⟩
              simp only [Nat.mul_one] at hcu
              subst eao
              clear t3 t4 hu' HJ
              go_wp2_with (fail)
              go_roundg (L.length - (j + 1) + 1)
              case measure => omega
              case rel => exact ⟨j + 1, by first | rfl | go_num, by omega, Nat.le_refl _, H3.out, H4.out, H5.out⟩
            · have hjl2 : ¬ (j : Int) < (L.length : Int) := by omega
              have ej : j = L.length := by omega
              have H6 : Hid (Q X z3 ∧ OwnB X.heap.size z3 (.slice (some ⟨g, 0, none⟩) n cap) n (befL (p.ins.drop m') S)) := by
                refine ⟨HJ.out.1, OwnB.congr HJ.out.2.1 (fun r _ => ?_)⟩
                rw [HST.out r, ej, List.take_length]
              clear HJ ej
              go_wp2_with (fail)
              go_roundg (m' + 1)
              case measure => omega
              case rel => exact ⟨m', by first | rfl | go_num, by omega, by omega, Nat.le_refl _, H6.out⟩
      · have em : m = upto := by omega
        have c2 : ¬ ((m : Int) - 1 ≥ (upto : Int)) := by omega
        have c4 : ¬ ((upto : Int) ≤ (m : Int) - 1) := by omega
        have HJ := HI.out
        rw [em] at HJ
        have H7 := hideIt HJ
        clear HJ HI em
        go_wp2_with (fail)
        go_ret
        have H8 := H7.out
        rw [← HS.out] at H8
        refine ⟨_, rfl, row_mono H8.2 (by have := QX.out.size; omega), QX.out.trans H7.out.1⟩

end Go.Proofs.YtkcniahpkcdhoaaDoor.Lv
