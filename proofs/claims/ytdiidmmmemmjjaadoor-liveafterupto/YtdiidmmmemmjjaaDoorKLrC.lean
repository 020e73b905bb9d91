/-
  Lists of yes and no in memory; what is live ahead of instructions (before of the document's layer 19): a contract over the program; the conditions: the part and the list lie in memory, the registers are some of the list's.
  What is live behind a part, of what is live ahead of all (behind of the document's layer 19): contracts over the program; the conditions: the function and the lists lie in memory.
  Lists of lists of yes and no of one's own; the document's steps of what is live, plainly: facts on worlds and lists; no conditions but those that each fact bears.
-/
import Derived.Test.YtdiidmmmemmjjaaDoorKLvZl
import Derived.Deep.DeepCutAuto
namespace Go.Proofs.YtdiidmmmemmjjaaDoor.Lv
open Go.RowKit
set_option linter.unusedVariables false

abbrev mapB (n : Nat) (G : Nat → Bool) : List Value := (List.range n).map (fun r => Value.bool (G r))
theorem mapB_len (n : Nat) (G : Nat → Bool) : (mapB n G).length = n := by simp [mapB]
theorem mapB_get {n : Nat} (G : Nat → Bool) {r : Nat} (h : r < n) : (mapB n G)[r]? = some (.bool (G r)) := by simp [mapB, h]
theorem mapB_congr {n : Nat} {G G' : Nat → Bool} (h : ∀ r, r < n → G r = G' r) : mapB n G = mapB n G' := List.map_congr_left (fun r hr => by rw [h r (List.mem_range.1 hr)])
/-- A list of yes and no of one's own. -/
abbrev OwnB (base : Nat) (z : World) (v : Value) (n : Nat) (G : Nat → Bool) : Prop := z.ownsRow base 4 1 v n (mapB n G)
theorem OwnB.q {base : Nat} {z z' : World} {v : Value} {n : Nat} {G : Nat → Bool} (h : OwnB base z v n G) (q : Q z z') : OwnB base z' v n G := row_q h (fun b hb => q.block b (h.lt b hb).2)
theorem OwnB.congr {base : Nat} {z : World} {v : Value} {n : Nat} {G G' : Nat → Bool} (h : OwnB base z v n G) (e : ∀ r, r < n → G r = G' r) : OwnB base z v n G' := by
  have := mapB_congr e
  show z.ownsRow base 4 1 v n (mapB n G')
  rw [← this]
  exact h
/-- One that can be read. -/
def RdB (w : World) (v : Value) (n : Nat) (G : Nat → Bool) : Prop := ∃ ao c, v = .slice ao n c ∧ ∀ r, r < n → ∃ g, ao = some ⟨g, 0, none⟩ ∧ w.cell? ⟨g, r, none⟩ = some (.bool (G r))
theorem RdB.keep {w w' : World} {v : Value} {n : Nat} {G : Nat → Bool} (h : RdB w v n G) (q : Q w w') : RdB w' v n G := by
  obtain ⟨ao, c, e, h1⟩ := h
  exact ⟨ao, c, e, fun r hr => by obtain ⟨g, e1, e2⟩ := h1 r hr; exact ⟨g, e1, cell_keep q e2⟩⟩
theorem OwnB.rd {base : Nat} {z : World} {v : Value} {n : Nat} {G : Nat → Bool} (h : OwnB base z v n G) : RdB z v n G := by
  obtain ⟨ao, c, rfl⟩ := own_form h
  refine ⟨ao, c, rfl, fun r hr => ?_⟩
  obtain ⟨g, cap, e, -, -⟩ := h.form (by omega)
  injection e with e _ _
  subst e
  refine ⟨g, rfl, ?_⟩
  rw [World.ownsRow.cellAt h r (by omega), mapB_get G hr]
def updB (G : Nat → Bool) (r : Nat) (b : Bool) : Nat → Bool := fun q => if q = r then b else G q
/-- One is written. -/
theorem own_setB {w z : World} {g c n : Nat} {G : Nat → Bool} (hq : Q w z) (h : OwnB w.heap.size z (.slice (some ⟨g, 0, none⟩) n c) n G) {r : Nat} (hr : r < n) (b : Bool) : z.cell? ⟨g, r, none⟩ = some (.bool (G r)) ∧ z.frozen? ⟨g, r, none⟩ = false ∧ Q w (z.setCell ⟨g, r, none⟩ (.bool b)) ∧ OwnB w.heap.size (z.setCell ⟨g, r, none⟩ (.bool b)) (.slice (some ⟨g, 0, none⟩) n c) n (updB G r b) := by
  have hc : z.cell? ⟨g, r, none⟩ = some (.bool (G r)) := by rw [World.ownsRow.cellAt h r (by omega), mapB_get G hr]
  have hg : w.heap.size ≤ g := (h.lt g rfl).1
  refine ⟨hc, h.frozenAt r, ⟨hq.os, hq.tape, hq.output, by have := hq.size; simpa using this, fun b' hb => ?_⟩, ?_⟩
  · rw [Below.heap_setCell z ⟨g, r, none⟩ _ b' (by show b' ≠ g; omega)]
    exact hq.block b' hb
  · obtain ⟨h1, h2 | ⟨g', cap, cur, e1, e2, e3, e4, e5, e6, e7⟩⟩ := h
    · cases h2.1
    · injection e1 with e1 _ e8
      injection e1 with e1
      injection e1 with e1 _
      subst e1
      subst e8
      refine ⟨by simp [mapB], Or.inr ⟨g, c, cur.setIfInBounds r (.bool b), rfl, e2, block_set e3 _, e4, e5, by simpa using e6, ?_⟩⟩
      rw [Array.toList_setIfInBounds, List.take_set, e7]
      refine List.ext_getElem? (fun i => ?_)
      rw [List.getElem?_set]
      by_cases hi : i < n
      · by_cases e : r = i
        · subst e
          rw [if_pos rfl, if_pos (by rw [mapB_len]; exact hr), mapB_get _ hi]
          simp [updB]
        · rw [if_neg e, mapB_get _ hi, mapB_get _ hi]
          have : ¬ i = r := fun q => e q.symm
          simp [updB, this]
      · have n1 : (mapB n G)[i]? = none := List.getElem?_eq_none (by rw [mapB_len]; omega)
        have n2 : (mapB n (updB G r b))[i]? = none := List.getElem?_eq_none (by rw [mapB_len]; omega)
        rw [n1, n2]
        by_cases e : r = i
        · omega
        · rw [if_neg e]

/-- What is asked of a part: its registers are some. -/
structure okB (p : PP) (n : Nat) : Prop where
  us : ∀ x ∈ p.ins, ∀ u ∈ usesP x, 0 ≤ u ∧ u < (n : Int)
  wt : ∀ x ∈ p.ins, wrP x.op = true → 0 ≤ x.dst ∧ x.dst < (n : Int)
  cd : 0 ≤ p.cond → p.cond < (n : Int)
theorem infoB : ∃ i0, Tryd.prog.info? 4 = some i0 ∧ i0.zero = some (.bool false) ∧ i0.size = 1 ∧ i0.bytes = 1 := by
  have h : (Tryd.prog.info? 4).map (fun i => (i.zero, i.size, i.bytes)) = some (some (.bool false), 1, 1) := by kernel_rfl
  obtain ⟨i, hi, hz⟩ := Option.map_eq_some_iff.1 h
  simp only [Prod.mk.injEq] at hz
  exact ⟨i, hi, hz.1, hz.2.1, hz.2.2⟩
def usT (L : List Int) (r : Nat) : Bool := L.any (fun u => u.toNat == r)
theorem usT_snoc (L : List Int) (u : Int) (r : Nat) : usT (L ++ [u]) r = (usT L r || u.toNat == r) := by simp [usT]

/-- The world behind the box of a part. -/
abbrev bxP (w : World) (p : PP) : World := w.alloc (.cells #[.slice p.ia p.ins.length p.ic, .bool p.e, .int .i64 p.cond, .int .i64 p.next, .int .i64 p.els] 49)

theorem row_mono {w : World} {base base' : Nat} {e : TypeId} {size : Nat} {v : Value} {n : Nat} {xs : List Value} (h : w.ownsRow base e size v n xs) (hb : base' ≤ base) : w.ownsRow base' e size v n xs := by
  obtain ⟨h1, h2 | ⟨g, cap, cur, e1, e2, e3⟩⟩ := h
  · exact ⟨h1, Or.inl h2⟩
  · exact ⟨h1, Or.inr ⟨g, cap, cur, e1, Nat.le_trans hb e2, e3⟩⟩
theorem grown_q {w Z w1 : World} {o : Option Nat} (hq : Q w Z) (hg : Z.grownBy w1 o) (hb : ∀ b, o = some b → w.heap.size ≤ b) : Q w w1 := by
  have hs := hq.size
  refine ⟨by rw [hg.os]; exact hq.os, by rw [hg.tape]; exact hq.tape, by rw [hg.output]; exact hq.output, by have := hg.size; omega, fun b h => ?_⟩
  rw [hg.block b (by omega) (fun e => by have := hb b e.symm; omega)]
  exact hq.block b h
theorem own_none (X : World) (base : Nat) (h : base ≤ X.heap.size) : (X.alloc (.cells #[] 4)).ownsRow base 4 1 (.slice (some ⟨X.heap.size, 0, none⟩) 0 0) 0 [] := ⟨rfl, Or.inr ⟨X.heap.size, 0, #[], rfl, h, heap_alloc_new X _, Nat.le_refl _, by decide, rfl, rfl⟩⟩
theorem mapB_one (n : Nat) (G : Nat → Bool) : ∀ u ∈ mapB n G, u.oneCell' = true := fun u hu => by
  obtain ⟨r, -, e⟩ := List.mem_map.1 hu
  subst e
  rfl
/-- A step back over one instruction. -/
theorem bef_step (l : List PI) (S : Nat → Bool) (m : Nat) (x : PI) (hx : l[m]? = some x) (r : Nat) : befL (l.drop m) S r = (usT (usesP x) r || (!wtB x r && befL (l.drop (m + 1)) S r)) := by
  have e : l.drop m = x :: l.drop (m + 1) := by
    obtain ⟨h1, h2⟩ := List.getElem?_eq_some_iff.1 hx
    rw [List.drop_eq_getElem_cons h1, h2]
  rw [e]
  rfl

set_option maxRecDepth 100000 in
set_option maxHeartbeats 16000000 in
theorem before_any (w : World) (p : PP) (hp : p.ok w) (upto n : Nat) (hn0 : 0 < n) (hn : n ≤ 1000000) (hb : okB p n) (hu : upto ≤ p.ins.length) (v : Value) (G : Nat → Bool) (hv : RdB w v n G) :
    Calls Tryd.prog 26 #[p.v, v, .int .i64 (upto : Int)] w fun e w' => ∃ nv, e = .returned nv ∧ OwnB w.heap.size w' nv n (befL (p.ins.drop upto) (fun r => cdB p r || G r)) ∧ Q w w' := by
  obtain ⟨X, hX⟩ : ∃ X, bxP w p = X := ⟨_, rfl⟩
  have qX : Q w X := by rw [← hX]; exact (Q.refl w).alloc _
  have bx : X.heap[w.heap.size]? = some (.cells #[.slice p.ia p.ins.length p.ic, .bool p.e, .int .i64 p.cond, .int .i64 p.next, .int .i64 p.els] 49 (0, 0)) := by rw [← hX]; exact heap_alloc_new w _
  have BX := hideIt bx
  have QX := hideIt qX
  have HP := hideIt hp
  have HOB := hideIt hb
  obtain ⟨ao, cc, rfl, hrd⟩ := hv
  obtain ⟨g0, rfl, -⟩ := hrd 0 hn0
  have HRD : Hid (∀ Y, Q w Y → ∀ (j : Nat) (u : Value), (mapB n G)[j]? = some u → Y.cell? ((⟨g0, 0, none⟩ : Addr).add j) = some u) := fun Y q j u hj => by
    have hjn : j < n := by have := (List.getElem?_eq_some_iff.1 hj).1; rw [mapB_len] at this; exact this
    rw [mapB_get G hjn] at hj
    injection hj with hj
    subst hj
    obtain ⟨g, e, hc⟩ := hrd j hjn
    injection e with e
    injection e with e _
    subst e
    have hadd : (⟨g0, 0, none⟩ : Addr).add j = ⟨g0, j, none⟩ := by unfold Addr.add; split <;> simp_all
    rw [hadd]
    exact cell_keep q hc
  obtain ⟨i0, ti, tz0, tz1, tz2⟩ := infoB
  have HTI := hideIt (And.intro ti (And.intro tz0 (And.intro tz1 tz2)))
  have hpn : p.ins.length ≤ 9223372036854775807 := hp.sok.len
  have hci := hp.cond
  clear ti tz0 tz1 tz2 hrd hp hb qX bx
  have b2 : X.cell? ⟨w.heap.size, 2, none⟩ = some (.int .i64 p.cond) := (cell_of_block BX.out 2).trans rfl
  have hX' : w.alloc (.cells #[.slice p.ia p.ins.length p.ic, .bool p.e, .int .i64 p.cond, .int .i64 p.next, .int .i64 p.els] 49) = X := hX
  clear hX
  go_enter Tryd.func26, Tryd.ntmps26
  go_wp2_with (first | (at_builtin; refine wpList_append_lies _ rfl _ _ 44 rfl X.heap.size 4 i0 (.bool false) 1 1 Tryd.underlying44 HTI.out.1 HTI.out.2.1 HTI.out.2.2.1 HTI.out.2.2.2 rfl (by decide) _ 0 [] rfl ?_ ⟨g0, 0, none⟩ n cc (mapB n G) rfl (by rw [mapB_len, Nat.mul_one]) ?_ ?_ hn0 (by unfold maxLen; omega) (by omega) ?_ _ rfl ?_) | fail)
  · exact own_none X X.heap.size (Nat.le_refl _)
  · exact HRD.out _ (QX.out.alloc _)
  · exact mapB_one n G
  · simp
  intro g cap w1 hown hgrow hat hlt
  have HO : Hid (OwnB X.heap.size w1 (.slice (some ⟨g, 0, none⟩) n cap) n G) := hown
  have HQ1 := hideIt (grown_q ((Q.refl X).alloc _) hgrow (fun b e => by injection e with e; have e' : X.heap.size = b := e; omega))
  clear hown hgrow hat hlt
  clear hX' b2
  have SB : Hid (∀ Y, Q X Y → Y.cell? ⟨w.heap.size, 0, none⟩ = some (.slice p.ia p.ins.length p.ic) ∧ Y.cell? ⟨w.heap.size, 2, none⟩ = some (.int .i64 p.cond)) := fun Y q => ⟨cell_keep q ((cell_of_block BX.out 0).trans rfl), cell_keep q ((cell_of_block BX.out 2).trans rfl)⟩
  obtain ⟨sb0, sb2⟩ := SB.out w1 HQ1.out
  generalize hS : (fun r => cdB p r || G r) = S at *
  have HS := hideIt hS
  clear hS
  go_upto_if 17 with fail
  go_cut [] (fun wc => Hid (Q X wc ∧ OwnB X.heap.size wc (.slice (some ⟨g, 0, none⟩) n cap) n S))
  case first =>
    by_cases hc : 0 ≤ p.cond
    · obtain ⟨cn, hcn⟩ : ∃ cn : Nat, p.cond = (cn : Int) := ⟨p.cond.toNat, by omega⟩
      have hcl : cn < n := by have := HOB.out.cd hc; omega
      obtain ⟨t1, t2, t3, t4⟩ := own_setB HQ1.out HO.out hcl true
      have HQ2 := hideIt t3
      have HO2 : Hid (OwnB X.heap.size (w1.setCell ⟨g, cn, none⟩ (.bool true)) (.slice (some ⟨g, 0, none⟩) n cap) n S) := OwnB.congr t4 (fun r _ => by
        rw [← HS.out]
        unfold updB cdB
        rw [hcn, Int.toNat_natCast]
        by_cases e : r = cn
        · simp [e]
        · have : ¬ cn = r := fun q => e q.symm
          simp [e, this])
      have hcn1 : (cn : Int) < (n : Int) := by omega
      have hc1 : (0 : Int) ≤ (cn : Int) := by omega
      rw [hcn] at sb2 ⊢
      clear t3 t4 hc hcn hci
      go_wp2_with (fail)
      go_meet
      exact ⟨HQ2.out, HO2.out⟩
    · have HO2 : Hid (OwnB X.heap.size w1 (.slice (some ⟨g, 0, none⟩) n cap) n S) := OwnB.congr HO.out (fun r _ => by
        rw [← HS.out]
        unfold cdB
        simp [hc])
      go_wp2_with (fail)
      go_meet
      exact ⟨HQ1.out, HO2.out⟩
  case rest =>
    obtain ⟨HQ2, HO2⟩ := hcut
    generalize wc = w2 at *
    clear sb0 sb2
    obtain ⟨sb0, -⟩ := SB.out w2 HQ2
    go_wp2_with (fail)
    go_loopg [8] (p.ins.length + 1) (fun kx iv z => ∃ m : Nat, iv = .int .i64 ((m : Int) - 1) ∧ upto ≤ m ∧ m ≤ p.ins.length ∧ m + 1 ≤ kx ∧ Hid (Q X z ∧ OwnB X.heap.size z (.slice (some ⟨g, 0, none⟩) n cap) n (befL (p.ins.drop m) S)))
    case atStart => exact ⟨p.ins.length, rfl, hu, Nat.le_refl _, Nat.le_refl _, HQ2, by rw [List.drop_length]; exact HO2⟩
    case round =>
      obtain ⟨m, rfl, hm1, hm2, hm3, HI⟩ := hrel
      generalize wr = z at *
      clear sb0
      by_cases hmu : upto < m
      · obtain ⟨m', rfl⟩ : ∃ m', m = m' + 1 := ⟨m - 1, by omega⟩
        have e1 : ((m' + 1 : Nat) : Int) - 1 = (m' : Int) := by omega
        rw [e1]
        have c2 : (upto : Int) ≤ (m' : Int) := by omega
        have c3 : (m' : Int) < (p.ins.length : Int) := by omega
        obtain ⟨x, hx⟩ := get_of_lt (l := p.ins) (k := m') (by omega)
        obtain ⟨ib, io, eia, hiat⟩ := (HP.out.keep (QX.out.trans HI.out.1)).ins m' x hx
        obtain ⟨a0, a1, a2, a3, a4, a5, a6⟩ := hiat.1.seven
        obtain ⟨sb0, -⟩ := SB.out z HI.out.1
        rw [eia] at sb0
        have HST := hideIt (fun r => bef_step p.ins S m' x hx r)
        have hxm := List.mem_of_getElem? hx
        have HUS := hideIt (HOB.out.us x hxm)
        have HWT := hideIt (HOB.out.wt x hxm)
        obtain ⟨Z, hZ⟩ : ∃ Z, z.alloc (.cells #[.int .u8 x.op, .int .u8 x.ty, .int .i64 x.dst, .int .i64 x.a, .int .i64 x.b, .int .i64 x.imm, .slice x.aa x.args.length x.ac] 57) = Z := ⟨_, rfl⟩
        have qZ : Q z Z := by rw [← hZ]; exact (Q.refl z).alloc _
        have bz : Z.heap[z.heap.size]? = some (.cells #[.int .u8 x.op, .int .u8 x.ty, .int .i64 x.dst, .int .i64 x.a, .int .i64 x.b, .int .i64 x.imm, .slice x.aa x.args.length x.ac] 57 (0, 0)) := by rw [← hZ]; exact heap_alloc_new z _
        have HZQ := hideIt (HI.out.1.trans qZ)
        have HZO := hideIt (OwnB.q HI.out.2 qZ)
        have HZB := hideIt bz
        have HXO : Hid (∀ Y, Q X Y → x.ok Y) := fun Y q => by
          obtain ⟨_, _, _, h⟩ := (HP.out.keep (QX.out.trans q)).ins m' x hx
          exact h.2
        have hgz : Hid (g ≠ z.heap.size) := fun e => by have := (HI.out.2.lt g rfl).2; omega
        obtain ⟨wb, hwb⟩ : ∃ wb, wrP x.op = wb := ⟨_, rfl⟩
        have CW := hideIt (fun X => writes_any x.op X)
        rw [hwb] at CW
        have HWB := hideIt hwb
        clear hwb
        have ZC : Hid (∀ (Y : World), Y.heap[z.heap.size]? = Z.heap[z.heap.size]? → Y.cell? ⟨z.heap.size, 0, none⟩ = some (.int .u8 x.op) ∧ Y.cell? ⟨z.heap.size, 1, none⟩ = some (.int .u8 x.ty) ∧ Y.cell? ⟨z.heap.size, 2, none⟩ = some (.int .i64 x.dst) ∧ Y.cell? ⟨z.heap.size, 3, none⟩ = some (.int .i64 x.a) ∧ Y.cell? ⟨z.heap.size, 4, none⟩ = some (.int .i64 x.b) ∧ Y.cell? ⟨z.heap.size, 5, none⟩ = some (.int .i64 x.imm) ∧ Y.cell? ⟨z.heap.size, 6, none⟩ = some (.slice x.aa x.args.length x.ac)) := fun Y hY => by
          rw [HZB.out] at hY
          exact ⟨(cell_of_block hY 0).trans rfl, (cell_of_block hY 1).trans rfl, (cell_of_block hY 2).trans rfl, (cell_of_block hY 3).trans rfl, (cell_of_block hY 4).trans rfl, (cell_of_block hY 5).trans rfl, (cell_of_block hY 6).trans rfl⟩
        obtain ⟨d0, d1, d2, d3, d4, d5, d6⟩ := ZC.out Z rfl
        have hub : Hid ((usesP x).length ≤ 9223372036854775807) := by
          show (usesP x).length ≤ 9223372036854775807
          unfold usesP
          split
          · exact (HXO.out _ HZQ.out).sok.len
          · simp; omega
        generalize hT : befL (p.ins.drop (m' + 1)) S = T0 at *
        clear hx hiat qZ bz hxm eia e1 hT HI
        go_upto_if 38 with (first | (go_at_call 49; refine Calls.mono (CW.out _) ?_; rintro e y ⟨rfl, hy⟩; rw [hy]; clear hy) | fail)
        go_cut [] (fun wc => Hid (Q X wc ∧ OwnB X.heap.size wc (.slice (some ⟨g, 0, none⟩) n cap) n (fun r => !wtB x r && T0 r) ∧ wc.heap[z.heap.size]? = Z.heap[z.heap.size]?))
        case first =>
          cases wb with
          | true =>
            have hw := HWB.out
            obtain ⟨hd0, hd1⟩ := HWT.out hw
            obtain ⟨dn, hdn⟩ : ∃ dn : Nat, x.dst = (dn : Int) := ⟨x.dst.toNat, by omega⟩
            have hdl : dn < n := by omega
            obtain ⟨t1, t2, t3, t4⟩ := own_setB HZQ.out HZO.out hdl false
            have hdn1 : (dn : Int) < (n : Int) := by omega
            have H3 := hideIt t3
            have H4 : Hid (OwnB X.heap.size (Z.setCell ⟨g, dn, none⟩ (.bool false)) (.slice (some ⟨g, 0, none⟩) n cap) n (fun r => !wtB x r && T0 r)) := OwnB.congr t4 (fun r _ => by
              unfold updB wtB
              rw [hw, hdn, Int.toNat_natCast]
              by_cases e : r = dn
              · simp [e]
              · have : ¬ dn = r := fun q => e q.symm
                simp [e, this])
            have hbz := hideIt (Below.heap_setCell Z ⟨g, dn, none⟩ (.bool false) z.heap.size (fun e => hgz.out e.symm))
            rw [hdn] at d2
            clear t3 t4 hdn hd0 hd1 hZ hw
            go_wp2_with (fail)
            go_meet
            exact ⟨H3.out, H4.out, hbz.out⟩
          | false =>
            have hw' := HWB.out
            have H4 : Hid (OwnB X.heap.size Z (.slice (some ⟨g, 0, none⟩) n cap) n (fun r => !wtB x r && T0 r)) := OwnB.congr HZO.out (fun r _ => by
              unfold wtB
              rw [hw']
              simp)
            clear hw' hZ
            go_wp2_with (fail)
            go_meet
            exact ⟨HZQ.out, H4.out, rfl⟩
        case rest =>
          obtain ⟨hq2, ho2, hb2⟩ := hcut
          generalize wc = z2 at *
          have HQ3 := hideIt hq2
          have HO3 := hideIt ho2
          clear d0 d1 d2 d3 d4 d5 d6 a0 a1 a2 a3 a4 a5 a6 sb0 hZ
          obtain ⟨d0, d1, d2, d3, d4, d5, d6⟩ := ZC.out z2 hb2
          have CU := hideIt (ruses_any x z2 (HXO.out z2 hq2))
          clear hq2 ho2 hb2
          have HPX : Hid (∀ r, usB x r = usT (usesP x) r) := fun r => rfl
          rcases x with ⟨op, ty, dst, xa, xb, imm, args, aa, ac⟩
          dsimp only [PI.v] at *
          go_wp2_with (first | (go_at_call 18; refine Calls.mono CU.out ?_; rintro e y ⟨ao2, cc2, rfl, hints, q1⟩; have HIN := hideIt hints; have QY := hideIt q1; clear q1 hints) | fail)
          generalize wtB ⟨op, ty, dst, xa, xb, imm, args, aa, ac⟩ = WT at *
          generalize usesP ⟨op, ty, dst, xa, xb, imm, args, aa, ac⟩ = L at *
          have hub2 := hub.out
          clear d0 d1 d2 d3 d4 d5 d6 HWT HXO CW ZC CU HPX hub HWB
          go_loopg [11] (L.length + 1) (fun kx jv z' => ∃ j : Nat, jv = .int .i64 (j : Int) ∧ j ≤ L.length ∧ L.length - j + 1 ≤ kx ∧ Hid (Q X z' ∧ OwnB X.heap.size z' (.slice (some ⟨g, 0, none⟩) n cap) n (fun r => usT (L.take j) r || (!WT r && T0 r)) ∧ Ints z' ao2 L))
          case atStart => exact ⟨0, rfl, Nat.zero_le _, by omega, HQ3.out.trans QY.out, OwnB.congr (OwnB.q HO3.out QY.out) (fun r _ => by simp [usT]), HIN.out⟩
          case round =>
            obtain ⟨j, rfl, hj, hjk, HJ⟩ := hrel
            generalize wr = z3 at *
            by_cases hjl : j < L.length
            · have hjl2 : (j : Int) < (L.length : Int) := by omega
              obtain ⟨u, hu'⟩ := get_of_lt hjl
              obtain ⟨ub, uo, eao, hcu, -⟩ := HJ.out.2.2 j u hu'
              obtain ⟨u0, u1⟩ := HUS.out u (List.mem_of_getElem? hu')
              obtain ⟨un, rfl⟩ : ∃ un : Nat, u = (un : Int) := ⟨u.toNat, by omega⟩
              have hun : un < n := by omega
              have hun2 : (un : Int) < (n : Int) := by omega
              obtain ⟨t1, t2, t3, t4⟩ := own_setB HJ.out.1 HJ.out.2.1 hun true
              have H3 := hideIt t3
              have H4 : Hid (OwnB X.heap.size (z3.setCell ⟨g, un, none⟩ (.bool true)) (.slice (some ⟨g, 0, none⟩) n cap) n (fun r => usT (L.take (j + 1)) r || (!WT r && T0 r))) := OwnB.congr t4 (fun r _ => by
                rw [take_snoc hu', usT_snoc, Int.toNat_natCast]
                unfold updB
                by_cases e : r = un
                · rw [if_pos e]; simp [e]
                · have t : (un == r) = false := by rw [beq_eq_false_iff_ne]; exact fun q => e q.symm
                  rw [t, if_neg e, Bool.or_false])
              have H5 : Hid (Ints (z3.setCell ⟨g, un, none⟩ (.bool true)) ao2 L) := HJ.out.2.2.mono fun b o v hp => ⟨set_cell_ne' hp.1 (fun e => by
                have e1 : b = g := congrArg Addr.block e
                have e2 : o = un := congrArg Addr.off e
                have h1 := hp.1
                rw [e1, e2, t1] at h1
                cases h1), hp.2⟩
              simp only [Nat.mul_one] at hcu
              subst eao
              clear t3 t4 hu' HJ
              go_wp2_with (fail)
              go_roundg (L.length - (j + 1) + 1)
              case measure => omega
              case rel => exact ⟨j + 1, by first | rfl | go_num, by omega, Nat.le_refl _, H3.out, H4.out, H5.out⟩
            · have hjl2 : ¬ (j : Int) < (L.length : Int) := by omega
              have ej : j = L.length := by omega
              have H6 : Hid (Q X z3 ∧ OwnB X.heap.size z3 (.slice (some ⟨g, 0, none⟩) n cap) n (befL (p.ins.drop m') S)) := by
                refine ⟨HJ.out.1, OwnB.congr HJ.out.2.1 (fun r _ => ?_)⟩
                rw [HST.out r, ej, List.take_length]
              clear HJ ej
              go_wp2_with (fail)
              go_roundg (m' + 1)
              case measure => omega
              case rel => exact ⟨m', by first | rfl | go_num, by omega, by omega, Nat.le_refl _, H6.out⟩
      · have em : m = upto := by omega
        have c2 : ¬ ((m : Int) - 1 ≥ (upto : Int)) := by omega
        have c4 : ¬ ((upto : Int) ≤ (m : Int) - 1) := by omega
        have HJ := HI.out
        rw [em] at HJ
        have H7 := hideIt HJ
        clear HJ HI em
        go_wp2_with (fail)
        go_ret
        have H8 := H7.out
        rw [← HS.out] at H8
        refine ⟨_, rfl, row_mono H8.2 (by have := QX.out.size; omega), QX.out.trans H7.out.1⟩

end Go.Proofs.YtdiidmmmemmjjaaDoor.Lv

namespace Go.Proofs.YtdiidmmmemmjjaaDoor.Lv
open Go.RowKit
set_option linter.unusedVariables false

set_option maxRecDepth 100000 in
set_option maxHeartbeats 4000000 in
theorem before_zero (w : World) (p : PP) (hi : p.ins = []) (hc : p.cond < 0) (ad : Addr) (cc : Nat) :
    Calls Tryd.prog 26 #[p.v, .slice (some ad) 0 cc, .int .i64 0] w fun e w' => ∃ nv, e = .returned nv ∧ OwnB w.heap.size w' nv 0 (fun _ => false) ∧ Q w w' := by
  have e1 : ∀ X : World, Sem.run Tryd.prog (pure #[] : Sem (Array Value)) X = .ok #[] X := fun _ => rfl
  have e2 : ∀ (X : World) (a : Addr), Sem.run Tryd.prog (storeCells a []) X = .ok () X := fun _ _ => rfl
  obtain ⟨ins, pe, cond, next, els, ia, ic⟩ := p
  dsimp only at hi hc
  subst hi
  dsimp only [PP.v]
  have hc1 : ¬ cond ≥ 0 := by omega
  have hc2 : ¬ 0 ≤ cond := by omega
  go_enter Tryd.func26, Tryd.ntmps26
  go_wp2_with (fail)
  go_loopg [8] 1 (fun kx iv z => iv = .int .i64 (-1) ∧ 1 ≤ kx ∧ Hid (OwnB w.heap.size z (.slice (some ⟨w.heap.size + 1, 0, none⟩) 0 0) 0 (fun _ => false) ∧ Q w z))
  case atStart =>
    refine ⟨rfl, Nat.le_refl _, ?_, ((Q.refl w).alloc _).alloc _⟩
    have := own_none (w.alloc (.cells #[.slice ia 0 ic, .bool pe, .int .i64 cond, .int .i64 next, .int .i64 els] 49)) w.heap.size (by simp)
    have h2 : ((w.alloc (.cells #[.slice ia 0 ic, .bool pe, .int .i64 cond, .int .i64 next, .int .i64 els] 49)).alloc (.cells #[] 4)).ownsRow w.heap.size 4 1 (.slice (some ⟨w.heap.size + 1, 0, none⟩) 0 0) 0 [] := by simpa using this
    exact h2
  case round =>
    obtain ⟨rfl, -, HI⟩ := hrel
    go_wp2_with (fail)
    go_ret
    exact ⟨_, rfl, HI.out.1, HI.out.2⟩

/-- Lists of yes and no, one for each part. -/
def Rws (w : World) (v : Value) (many n : Nat) (G : Nat → Nat → Bool) : Prop := ∃ g cap, v = .slice (some ⟨g, 0, none⟩) many cap ∧ ∀ k, k < many → ∃ vk, w.cell? ⟨g, k, none⟩ = some vk ∧ RdB w vk n (G k)
theorem Rws.keep {w w' : World} {v : Value} {many n : Nat} {G : Nat → Nat → Bool} (h : Rws w v many n G) (q : Q w w') : Rws w' v many n G := by
  obtain ⟨g, cap, e, h1⟩ := h
  exact ⟨g, cap, e, fun k hk => by obtain ⟨vk, c, r⟩ := h1 k hk; exact ⟨vk, cell_keep q c, r.keep q⟩⟩
/-- What is live behind a part, of what is live ahead of all. -/
def behG (l : List PP) (k : Nat) (G : Nat → Nat → Bool) (r : Nat) : Bool := match l[k]? with | some p => (waysP p).any (fun x => G x.toNat r) | none => false
theorem infoBs : (Tryd.prog.info? 4).map (fun i => (i.zero, i.size, i.bytes)) = some (some (.bool false), 1, 1) := by kernel_rfl
theorem make_b (N : Nat) (hN : N ≤ 1099511627776) (X : World) : (Instr.makeSlice 44 (.int .i64 (N : Int)) (.int .i64 (N : Int))).run Tryd.prog X = .ok (.slice (some ⟨X.heap.size, 0, none⟩) N N) (X.alloc (.cells (Array.replicate N (.bool false)) 4)) := make_one Tryd.underlying44 infoBs rfl (by omega) N hN X
theorem own_made (X : World) (base N : Nat) (h : base ≤ X.heap.size) (hN : N ≤ 1000000) : OwnB base (X.alloc (.cells (Array.replicate N (.bool false)) 4)) (.slice (some ⟨X.heap.size, 0, none⟩) N N) N (fun _ => false) := by
  refine ⟨by rw [mapB_len, Nat.mul_one], Or.inr ⟨X.heap.size, N, _, rfl, h, heap_alloc_new X _, Nat.le_refl _, by unfold maxLen; omega, by simp, ?_⟩⟩
  refine List.ext_getElem? (fun i => ?_)
  rw [Nat.mul_one]
  by_cases hi : i < N
  · rw [mapB_get _ hi]
    simp [hi]
  · rw [List.getElem?_eq_none (by simp; omega), List.getElem?_eq_none (by rw [mapB_len]; omega)]

theorem ways_any' (ins : List PI) (cond next els : Int) (ia : Option Addr) (ic : Nat) (F : Int → Bool) : (waysP ⟨ins, false, cond, next, els, ia, ic⟩).any F = (F next || (decide (0 ≤ cond) && F els)) := by
  unfold waysP
  dsimp only
  rw [if_neg (by simp)]
  by_cases h : cond < 0
  · have : decide (0 ≤ cond) = false := decide_eq_false (by omega)
    rw [if_pos h, this]
    simp
  · have : decide (0 ≤ cond) = true := decide_eq_true (by omega)
    rw [if_neg h, this]
    simp
theorem next_mem (ins : List PI) (cond next els : Int) (ia : Option Addr) (ic : Nat) : next ∈ waysP ⟨ins, false, cond, next, els, ia, ic⟩ := by
  unfold waysP
  dsimp only
  rw [if_neg (by simp)]
  by_cases h : cond < 0
  · rw [if_pos h]; simp
  · rw [if_neg h]; simp
theorem els_mem (ins : List PI) (cond next els : Int) (ia : Option Addr) (ic : Nat) (h : 0 ≤ cond) : els ∈ waysP ⟨ins, false, cond, next, els, ia, ic⟩ := by
  unfold waysP
  dsimp only
  rw [if_neg (by simp), if_neg (by omega)]
  simp

abbrev bxF (w : World) (f : PF) : World := w.alloc (.cells #[.int .i64 f.params, .int .i64 f.regs, .slice f.sa f.slots.length f.sc, .slice f.pa f.parts.length f.pc] 39)

set_option maxRecDepth 100000 in
set_option maxHeartbeats 16000000 in
theorem behind_any (w : World) (f : PF) (hf : f.ok w) (n : Nat) (hn : n ≤ 1000000) (hr : f.regs = (n : Int)) (k : Nat) (hk : k < f.parts.length) (hw : ∀ p ∈ f.parts, ∀ x ∈ waysP p, 0 ≤ x ∧ x < (f.parts.length : Int)) (v : Value) (G : Nat → Nat → Bool) (hv : Rws w v f.parts.length n G) :
    Calls Tryd.prog 27 #[f.v, .int .i64 (k : Int), v] w fun e w' => ∃ g, e = .returned (.slice (some ⟨g, 0, none⟩) n n) ∧ OwnB w.heap.size w' (.slice (some ⟨g, 0, none⟩) n n) n (behG f.parts k G) ∧ Q w w' := by
  obtain ⟨p, hp⟩ := get_of_lt hk
  obtain ⟨X, hX⟩ : ∃ X, w.alloc (.cells #[.int .i64 f.params, .int .i64 f.regs, .slice f.sa f.slots.length f.sc, .slice f.pa f.parts.length f.pc] 39) = X := ⟨_, rfl⟩
  have qX : Q w X := by rw [← hX]; exact (Q.refl w).alloc _
  have bx : X.heap[w.heap.size]? = some (.cells #[.int .i64 f.params, .int .i64 f.regs, .slice f.sa f.slots.length f.sc, .slice f.pa f.parts.length f.pc] 39 (0, 0)) := by rw [← hX]; exact heap_alloc_new w _
  obtain ⟨pb, po, epa, hpat⟩ := hf.parts k p hp
  rw [hr] at bx
  have PAT : Hid (∀ Y, Q w Y → PrtAt Y pb (po + k * 5) p) := fun Y q => hpat.keep q
  have B1 : Hid (∀ Y, Q X Y → Y.cell? ⟨w.heap.size, 1, none⟩ = some (.int .i64 (n : Int)) ∧ Y.cell? ⟨w.heap.size, 3, none⟩ = some (.slice (some ⟨pb, po, none⟩) f.parts.length f.pc)) := fun Y q => ⟨cell_keep q ((cell_of_block bx 1).trans rfl), by have := cell_keep q ((cell_of_block bx 3).trans rfl); rw [epa] at this; exact this⟩
  have hpl : f.parts.length ≤ 9223372036854775807 := hf.psok.len
  have HW := hideIt (hw p (List.mem_of_getElem? hp))
  have HBG : Hid (behG f.parts k G = fun r => (waysP p).any (fun x => G x.toNat r)) := by
    show behG f.parts k G = fun r => (waysP p).any (fun x => G x.toNat r)
    funext r
    unfold behG
    rw [hp]
  have QX := hideIt qX
  have HV := hideIt hv
  have MK := hideIt (fun Y => make_b n (by omega) Y)
  have hk2 : (k : Int) < (f.parts.length : Int) := by omega
  obtain ⟨gv, gcap, rfl, -⟩ := hv
  clear hp hpat epa hw qX bx hf
  obtain ⟨x1, x3⟩ := B1.out X (Q.refl _)
  -- the list that is made, the box of the part
  obtain ⟨Y, hY⟩ : ∃ Y, X.alloc (.cells (Array.replicate n (.bool false)) 4) = Y := ⟨_, rfl⟩
  have qY : Q X Y := by rw [← hY]; exact (Q.refl X).alloc _
  have HOY : Hid (OwnB w.heap.size Y (.slice (some ⟨X.heap.size, 0, none⟩) n n) n (fun _ => false)) := by
    show OwnB w.heap.size Y (.slice (some ⟨X.heap.size, 0, none⟩) n n) n (fun _ => false)
    rw [← hY]
    exact own_made X w.heap.size n QX.out.size hn
  have HOYX : Hid (OwnB X.heap.size Y (.slice (some ⟨X.heap.size, 0, none⟩) n n) n (fun _ => false)) := by
    show OwnB X.heap.size Y (.slice (some ⟨X.heap.size, 0, none⟩) n n) n (fun _ => false)
    rw [← hY]
    exact own_made X X.heap.size n (Nat.le_refl _) hn
  have QY := hideIt qY
  have mk := MK.out X
  rw [hY] at mk
  obtain ⟨a0, a1, a2, a3, a4⟩ := (PAT.out Y (QX.out.trans QY.out)).1.five
  obtain ⟨y1, y3⟩ := B1.out Y QY.out
  obtain ⟨Z, hZ⟩ : ∃ Z, Y.alloc (.cells #[.slice p.ia p.ins.length p.ic, .bool p.e, .int .i64 p.cond, .int .i64 p.next, .int .i64 p.els] 49) = Z := ⟨_, rfl⟩
  have qZ : Q Y Z := by rw [← hZ]; exact (Q.refl Y).alloc _
  have bz : Z.heap[Y.heap.size]? = some (.cells #[.slice p.ia p.ins.length p.ic, .bool p.e, .int .i64 p.cond, .int .i64 p.next, .int .i64 p.els] 49 (0, 0)) := by rw [← hZ]; exact heap_alloc_new Y _
  have BZ := hideIt bz
  have QZ := hideIt qZ
  have z1 : Z.cell? ⟨Y.heap.size, 1, none⟩ = some (.bool p.e) := (cell_of_block bz 1).trans rfl
  have hYX : Hid (X.heap.size < Y.heap.size) := by
    show X.heap.size < Y.heap.size
    rw [← hY]; simp
  have hX' := hX
  rw [hr] at hX'
  clear hY qY qZ bz hX
  rcases f with ⟨params, regs, slots, parts, sa, sc, pa, pc⟩
  dsimp only [PF.v] at *
  subst hr
  rcases p with ⟨ins, pe, cond, next, els, ia, ic⟩
  dsimp only at *
  cases pe with
  | true =>
    go_enter Tryd.func27, Tryd.ntmps27
    go_wp2_with (fail)
    go_ret
    refine ⟨X.heap.size, rfl, OwnB.congr (OwnB.q HOY.out QZ.out) (fun r _ => ?_), QX.out.trans (QY.out.trans QZ.out)⟩
    rw [HBG.out]
    rfl
  | false =>
    have ZB : Hid (∀ T : World, T.heap[Y.heap.size]? = Z.heap[Y.heap.size]? → T.cell? ⟨Y.heap.size, 2, none⟩ = some (.int .i64 cond) ∧ T.cell? ⟨Y.heap.size, 3, none⟩ = some (.int .i64 next) ∧ T.cell? ⟨Y.heap.size, 4, none⟩ = some (.int .i64 els)) := fun T hT => by
      rw [BZ.out] at hT
      exact ⟨(cell_of_block hT 2).trans rfl, (cell_of_block hT 3).trans rfl, (cell_of_block hT 4).trans rfl⟩
    have RG : Hid (∀ (T : World), Q w T → ∀ (x : Int), x ∈ waysP ⟨ins, false, cond, next, els, ia, ic⟩ → ∀ r, r < n → ∃ (xn g1 c1 : Nat), x = (xn : Int) ∧ xn < parts.length ∧ T.cell? ⟨gv, xn, none⟩ = some (.slice (some ⟨g1, 0, none⟩) n c1) ∧ T.cell? ⟨g1, r, none⟩ = some (.bool (G xn r))) := fun T q x hx r hr => by
      obtain ⟨x0, x1⟩ := HW.out x hx
      obtain ⟨xn, rfl⟩ : ∃ xn : Nat, x = (xn : Int) := ⟨x.toNat, by omega⟩
      have hxl : xn < parts.length := by omega
      obtain ⟨g', cap', e, hk'⟩ := HV.out.keep q
      injection e with e _ _
      injection e with e
      injection e with e _
      subst e
      obtain ⟨vk, c, ao, cc, rfl, hrd⟩ := hk' xn hxl
      obtain ⟨g1, rfl, hc⟩ := hrd r hr
      exact ⟨xn, g1, cc, rfl, hxl, c, hc⟩
    clear z1 a0 a1 a2 a3 a4
    obtain ⟨a0, a1, a2, a3, a4⟩ := (PAT.out Y (QX.out.trans QY.out)).1.five
    have z1 : Z.cell? ⟨Y.heap.size, 1, none⟩ = some (.bool false) := (cell_of_block BZ.out 1).trans rfl
    go_enter Tryd.func27, Tryd.ntmps27
    go_wp2_with (fail)
    clear a0 a1 a2 a3 a4 x1 x3 y1 y3 z1 mk hX' hZ
    go_loopg [9] (n + 1) (fun kx iv z => ∃ r : Nat, iv = .int .i64 (r : Int) ∧ r ≤ n ∧ n - r + 1 ≤ kx ∧ Hid (Q X z ∧ z.heap[Y.heap.size]? = Z.heap[Y.heap.size]? ∧ OwnB X.heap.size z (.slice (some ⟨X.heap.size, 0, none⟩) n n) n (fun q => if q < r then behG parts k G q else false)))
    case atStart => exact ⟨0, rfl, Nat.zero_le _, by omega, QY.out.trans QZ.out, rfl, OwnB.congr (OwnB.q HOYX.out QZ.out) (fun q _ => by simp)⟩
    case round =>
      obtain ⟨r, rfl, hrn, hkx, HI⟩ := hrel
      generalize wr = z at *
      obtain ⟨y1, -⟩ := B1.out z HI.out.1
      by_cases hrl : r < n
      · have hrl2 : (r : Int) < (n : Int) := by omega
        obtain ⟨b2, b3, b4⟩ := ZB.out z HI.out.2.1
        have qwz := QX.out.trans HI.out.1
        obtain ⟨xn, g1, c1, ex, hxl, ic1, ic2⟩ := RG.out z qwz next (next_mem _ _ _ _ _ _) r hrl
        have hxl2 : (xn : Int) < (parts.length : Int) := by omega
        obtain ⟨val, hval⟩ : ∃ val, behG parts k G r = val := ⟨_, rfl⟩
        obtain ⟨t1, t2, t3, t4⟩ := own_setB HI.out.1 HI.out.2.2 hrl val
        have H3 := hideIt t3
        have H4 : Hid (OwnB X.heap.size (z.setCell ⟨X.heap.size, r, none⟩ (.bool val)) (.slice (some ⟨X.heap.size, 0, none⟩) n n) n (fun q => if q < r + 1 then behG parts k G q else false)) := OwnB.congr t4 (fun q _ => by
          unfold updB
          by_cases e : q = r
          · subst e
            rw [if_pos rfl, if_pos (by omega), hval]
          · rw [if_neg e]
            dsimp only
            by_cases e2 : q < r
            · rw [if_pos e2, if_pos (by omega)]
            · rw [if_neg e2, if_neg (by omega)])
        have H5 : Hid ((z.setCell ⟨X.heap.size, r, none⟩ (.bool val)).heap[Y.heap.size]? = Z.heap[Y.heap.size]?) := (Below.heap_setCell z ⟨X.heap.size, r, none⟩ _ Y.heap.size (fun e => by have := hYX.out; have e' : Y.heap.size = X.heap.size := e; omega)).trans HI.out.2.1
        have HVAL : Hid (val = (waysP ⟨ins, false, cond, next, els, ia, ic⟩).any (fun x => G x.toNat r)) := by
          show val = _
          rw [← hval, HBG.out]
        subst ex
        generalize hgn : G xn r = gn at *
        clear t3 t4 hval
        cases gn with
        | true =>
          have ev : val = true := by
            rw [HVAL.out, ways_any', Int.toNat_natCast, hgn]
            rfl
          subst ev
          clear HVAL hgn
          go_wp2_with (fail)
          go_roundg (n - (r + 1) + 1)
          case measure => omega
          case rel => exact ⟨r + 1, by first | rfl | go_num, by omega, Nat.le_refl _, H3.out, H5.out, H4.out⟩
        | false =>
          by_cases hc : cond < 0
          · have ev : val = false := by
              rw [HVAL.out, ways_any', Int.toNat_natCast, hgn, show decide (0 ≤ cond) = false from decide_eq_false (by omega)]
              rfl
            subst ev
            have hc1 : ¬ 0 ≤ cond := by omega
            clear HVAL hgn
            go_wp2_with (fail)
            go_roundg (n - (r + 1) + 1)
            case measure => omega
            case rel => exact ⟨r + 1, by first | rfl | go_num, by omega, Nat.le_refl _, H3.out, H5.out, H4.out⟩
          · have hc1 : 0 ≤ cond := by omega
            obtain ⟨en, g2, c2, ee, hel, jc1, jc2⟩ := RG.out z qwz els (els_mem _ _ _ _ _ _ hc1) r hrl
            have hel2 : (en : Int) < (parts.length : Int) := by omega
            have ev : val = G en r := by
              rw [HVAL.out, ways_any', Int.toNat_natCast, hgn, show decide (0 ≤ cond) = true from decide_eq_true hc1, ee, Int.toNat_natCast]
              rfl
            subst ee
            generalize G en r = ge at *
            subst ev
            clear HVAL hgn
            go_wp2_with (fail)
            go_roundg (n - (r + 1) + 1)
            case measure => omega
            case rel => exact ⟨r + 1, by first | rfl | go_num, by omega, Nat.le_refl _, H3.out, H5.out, H4.out⟩
      · have hrl2 : ¬ (r : Int) < (n : Int) := by omega
        go_wp2_with (fail)
        go_ret
        exact ⟨X.heap.size, rfl, row_mono (OwnB.congr HI.out.2.2 (fun q hq => by rw [if_pos (by omega)])) QX.out.size, QX.out.trans HI.out.1⟩

end Go.Proofs.YtdiidmmmemmjjaaDoor.Lv

namespace Go.Proofs.YtdiidmmmemmjjaaDoor.Lv
open Go.RowKit
set_option linter.unusedVariables false

abbrev slc (b n : Nat) : Value := .slice (some ⟨b, 0, none⟩) n n
abbrev mapS (many n : Nat) (h : Nat → Nat) : List Value := (List.range many).map (fun k => slc (h k) n)
theorem mapS_len (many n : Nat) (h : Nat → Nat) : (mapS many n h).length = many := by simp [mapS]
theorem mapS_get {many n : Nat} (h : Nat → Nat) {k : Nat} (hk : k < many) : (mapS many n h)[k]? = some (slc (h k) n) := by simp [mapS, hk]
def upN {α : Type} (f : Nat → α) (i : Nat) (x : α) : Nat → α := fun k => if k = i then x else f k
theorem mapS_snoc (many n : Nat) (h : Nat → Nat) (b : Nat) : mapS (many + 1) n (upN h many b) = mapS many n h ++ [slc b n] := by
  unfold mapS
  rw [List.range_succ, List.map_append]
  congr 1
  · refine List.map_congr_left (fun k hk => ?_)
    have := List.mem_range.1 hk
    simp only [upN]
    rw [if_neg (by omega)]
  · simp [upN]
/-- Lists of one's own, one for each part. -/
structure IN (X z : World) (v : Value) (many n : Nat) (h : Nat → Nat) (G : Nat → Nat → Bool) : Prop where
  q : Q X z
  row : z.ownsRow X.heap.size 44 1 v many (mapS many n h)
  inn : ∀ k, k < many → OwnB X.heap.size z (slc (h k) n) n (G k)
  inj : ∀ k j, k < many → j < many → h k = h j → k = j
  far : ∀ k, k < many → v.ownBlock ≠ some (h k)
section
variable {X z z1 w1 : World} {v : Value} {many n : Nat} {h : Nat → Nat} {G : Nat → Nat → Bool}
theorem IN.keep (i : IN X z v many n h G) (q : Q z z1) : IN X z1 v many n h G := ⟨i.q.trans q, row_q i.row (fun b hb => q.block b (i.row.lt b hb).2), fun k hk => OwnB.q (i.inn k hk) q, i.inj, i.far⟩
theorem IN.congr {G' : Nat → Nat → Bool} (i : IN X z v many n h G) (e : ∀ k, k < many → ∀ r, r < n → G k r = G' k r) : IN X z v many n h G' := ⟨i.q, i.row, fun k hk => OwnB.congr (i.inn k hk) (e k hk), i.inj, i.far⟩
theorem IN.form (i : IN X z v many n h G) (hm : 0 < many) : ∃ g cap, v = .slice (some ⟨g, 0, none⟩) many cap ∧ ∀ k, k < many → z.cell? ⟨g, k, none⟩ = some (slc (h k) n) := by
  obtain ⟨g, cap, e, -, -⟩ := i.row.form hm
  subst e
  refine ⟨g, cap, rfl, fun k hk => ?_⟩
  rw [World.ownsRow.cellAt i.row k (by omega), mapS_get h hk]
theorem IN.rws (i : IN X z v many n h G) (hm : 0 < many) : Rws z v many n G := by
  obtain ⟨g, cap, e, hc⟩ := i.form hm
  exact ⟨g, cap, e, fun k hk => ⟨_, hc k hk, (i.inn k hk).rd⟩⟩
theorem IN.start (X : World) (n : Nat) : IN X X (.slice none 0 0) 0 n (fun _ => 0) (fun _ _ => false) := ⟨Q.refl X, ⟨rfl, Or.inl ⟨rfl, rfl⟩⟩, fun k hk => by omega, fun k j hk => by omega, fun k hk => by omega⟩
/-- One more. -/
theorem IN.app (i : IN X z v many n h G) (q : Q z z1) {b : Nat} {B : Nat → Bool} (hb : z.heap.size ≤ b) (ho : OwnB z.heap.size z1 (slc b n) n B) {g cap : Nat}
    (hg : (z1.alloc (.cells #[slc b n] 44)).grownBy w1 v.ownBlock) (hown : w1.ownsRow X.heap.size 44 1 (.slice (some ⟨g, 0, none⟩) (many + 1) cap) (many + 1) (mapS many n h ++ [slc b n])) (hat : v.ownBlock = some g ∨ g = z1.heap.size + 1) :
    IN X w1 (.slice (some ⟨g, 0, none⟩) (many + 1) cap) (many + 1) n (upN h many b) (upN G many B) := by
  have hXz := i.q.size
  have hzz := q.size
  have hs : (z1.alloc (.cells #[slc b n] 44)).heap.size = z1.heap.size + 1 := by simp
  have hbl : b < z1.heap.size := (ho.lt b rfl).2
  have vlt : ∀ c, v.ownBlock = some c → X.heap.size ≤ c ∧ c < z.heap.size := fun c hc => i.row.lt c hc
  have hlt : ∀ k, k < many → h k < z.heap.size := fun k hk => ((i.inn k hk).lt (h k) rfl).2
  have keep : ∀ c, c < z1.heap.size → v.ownBlock ≠ some c → w1.heap[c]? = z1.heap[c]? := fun c hc hn => (hg.block c (by omega) (fun e => hn e.symm)).trans (((Q.refl z1).alloc _).block c hc)
  have hgk : ∀ k, k < many → g ≠ h k := fun k hk e => by
    rcases hat with r | r
    · exact i.far k hk (by rw [r, e])
    · have := hlt k hk; omega
  have hgb : g ≠ b := fun e => by
    rcases hat with r | r
    · have := (vlt g r).2; omega
    · omega
  refine ⟨grown_q ((i.q.trans q).alloc _) hg (fun c hc => (vlt c hc).1), by rw [mapS_snoc]; exact hown, fun k hk => ?_, fun k j hk hj e => ?_, fun k hk e => ?_⟩
  · by_cases e : k = many
    · subst e
      simp only [upN, if_true]
      exact row_mono (row_q ho (fun c hc => by injection hc with hc; have hc' : b = c := hc; subst hc'; exact keep b hbl (fun e => by have := (vlt b e).2; omega))) (by omega)
    · simp only [upN, if_neg e]
      have hk' : k < many := by omega
      exact row_q (OwnB.q (i.inn k hk') q) (fun c hc => by injection hc with hc; have hc' : h k = c := hc; subst hc'; exact keep (h k) (by have := hlt k hk'; omega) (i.far k hk'))
  · by_cases e1 : k = many
    · by_cases e2 : j = many
      · omega
      · simp only [upN, if_pos e1, if_neg e2] at e
        have := hlt j (by omega)
        omega
    · by_cases e2 : j = many
      · simp only [upN, if_pos e2, if_neg e1] at e
        have := hlt k (by omega)
        omega
      · simp only [upN, if_neg e1, if_neg e2] at e
        exact i.inj k j (by omega) (by omega) e
  · injection e with e
    have e' : g = upN h many b k := e
    by_cases e1 : k = many
    · simp only [upN, if_pos e1] at e'
      exact hgb e'
    · simp only [upN, if_neg e1] at e'
      exact hgk k (by omega) e'
/-- A yes is written. -/
theorem IN.set (i : IN X z v many n h G) {k r : Nat} (hk : k < many) (hr : r < n) : z.cell? ⟨h k, r, none⟩ = some (.bool (G k r)) ∧ z.frozen? ⟨h k, r, none⟩ = false ∧ IN X (z.setCell ⟨h k, r, none⟩ (.bool true)) v many n h (upN G k (updB (G k) r true)) := by
  obtain ⟨t1, t2, t3, t4⟩ := own_setB i.q (i.inn k hk) hr true
  have other : ∀ c, c ≠ h k → (z.setCell ⟨h k, r, none⟩ (.bool true)).heap[c]? = z.heap[c]? := fun c hc => Below.heap_setCell z ⟨h k, r, none⟩ _ c hc
  refine ⟨t1, t2, t3, row_q i.row (fun c hc => other c (fun e => i.far k hk (by rw [hc, e]))), fun j hj => ?_, i.inj, i.far⟩
  by_cases e : j = k
  · subst e
    simp only [upN, if_true]
    exact t4
  · simp only [upN, if_neg e]
    exact row_q (i.inn j hj) (fun c hc => by injection hc with hc; have hc' : h j = c := hc; subst hc'; exact other _ (fun q => e (i.inj j k hj hk q)))
end

/-- A step of the document: what is live ahead of a part, of what is known so far. -/
def stepG (l : List PP) (p : PP) (k : Nat) (G : Nat → Nat → Bool) (r : Nat) : Bool := befL p.ins (fun r => cdB p r || behG l k G r) r
theorem beh_out (l : List PP) (k r : Nat) : behG l k (liB l) r = ouB l k r := by
  refine bool_iff ?_
  rw [ouB_iff]
  unfold behG OutR
  cases hp : l[k]? with
  | none => simp
  | some p =>
    simp only [List.any_eq_true, liB_iff]
    constructor
    · rintro ⟨x, hx, h⟩; exact ⟨p, rfl, x, hx, h⟩
    · rintro ⟨p', e, x, hx, h⟩; injection e with e; subst e; exact ⟨x, hx, h⟩
theorem step_li (l : List PP) (p : PP) (k : Nat) (hp : l[k]? = some p) (r : Nat) : stepG l p k (liB l) r = liB l k r := by
  rw [li_bef l k p hp r]
  unfold stepG
  have e : (fun r => cdB p r || behG l k (liB l) r) = (fun r => cdB p r || ouB l k r) := by
    funext r
    rw [beh_out]
  rw [e]
theorem beh_mono {l : List PP} {k : Nat} {G G' : Nat → Nat → Bool} (h : ∀ k r, G k r = true → G' k r = true) (r : Nat) : behG l k G r = true → behG l k G' r = true := by
  unfold behG
  cases l[k]? with
  | none => simp
  | some p =>
    simp only [List.any_eq_true]
    rintro ⟨x, hx, h1⟩
    exact ⟨x, hx, h _ _ h1⟩
theorem bef_mono {l : List PI} {S S' : Nat → Bool} (h : ∀ r, S r = true → S' r = true) (r : Nat) : befL l S r = true → befL l S' r = true := by
  rw [befL_iff, befL_iff]
  rintro (a | ⟨a, b⟩)
  · exact Or.inl a
  · exact Or.inr ⟨h r a, b⟩
theorem step_sound {l : List PP} {p : PP} {k : Nat} (hp : l[k]? = some p) {G : Nat → Nat → Bool} (h : ∀ k r, G k r = true → liB l k r = true) (r : Nat) : stepG l p k G r = true → liB l k r = true := by
  intro hs
  rw [← step_li l p k hp r]
  refine bef_mono (fun r h1 => ?_) r hs
  rw [Bool.or_eq_true] at h1 ⊢
  rcases h1 with a | a
  · exact Or.inl a
  · exact Or.inr (beh_mono h r a)
/-- What is closed under the steps is all. -/
theorem closed_all {l : List PP} {G : Nat → Nat → Bool} {n : Nat} (hc : ∀ k p, l[k]? = some p → ∀ r, r < n → stepG l p k G r = true → G k r = true) {k r : Nat} (hr : r < n) (h : LiveR l k r) : G k r = true := by
  induction h with
  | read hp h1 =>
    refine hc _ _ hp _ hr ?_
    unfold stepG
    rw [befL_iff]
    rw [RdQ_iff, befL_iff] at h1
    rcases h1 with a | ⟨a, b⟩
    · exact Or.inl a
    · exact Or.inr ⟨by rw [a]; rfl, b⟩
  | thru hp hx h1 h2 ih =>
    refine hc _ _ hp _ hr ?_
    unfold stepG
    rw [befL_iff]
    refine Or.inr ⟨?_, h2⟩
    rw [Bool.or_eq_true]
    refine Or.inr ?_
    unfold behG
    rw [hp]
    simp only [List.any_eq_true]
    exact ⟨_, hx, ih hr⟩

/-- How many are no. -/
def noG (many n : Nat) (G : Nat → Nat → Bool) : Nat := sumK many (fun k => (List.range n).countP (fun r => !G k r))
/-- The lists while a part's row is gone through. -/
def midG (G : Nat → Nat → Bool) (k : Nat) (S : Nat → Bool) (r : Nat) : Nat → Nat → Bool := upN G k (fun q => if q < r then (G k q || S q) else G k q)
def newG (G : Nat → Nat → Bool) (k : Nat) (S : Nat → Bool) (r : Nat) : Bool := (List.range r).any (fun q => S q && !G k q)
theorem new_snoc (G : Nat → Nat → Bool) (k : Nat) (S : Nat → Bool) (r : Nat) : newG G k S (r + 1) = (newG G k S r || (S r && !G k r)) := by
  unfold newG
  rw [List.range_succ, List.any_append]
  simp
theorem mid_zero (G : Nat → Nat → Bool) (k : Nat) (S : Nat → Bool) : midG G k S 0 = G := by
  funext j q
  unfold midG upN
  split
  · rename_i e; subst e; dsimp only; rw [if_neg (by omega)]
  · rfl
theorem mid_at (G : Nat → Nat → Bool) (k : Nat) (S : Nat → Bool) (r : Nat) : midG G k S r k r = G k r := by
  unfold midG upN
  rw [if_pos rfl, if_neg (by omega)]
/-- A yes, where there is one to be written. -/
theorem mid_yes {G : Nat → Nat → Bool} {k : Nat} {S : Nat → Bool} {r : Nat} (hs : S r = true) (j q : Nat) : upN (midG G k S r) k (updB (midG G k S r k) r true) j q = midG G k S (r + 1) j q := by
  unfold midG upN updB
  by_cases e : j = k
  · simp only [if_pos e, if_true]
    by_cases e2 : q = r
    · rw [if_pos e2, if_pos (by omega), e2, hs, Bool.or_true]
    · rw [if_neg e2]
      by_cases e3 : q < r
      · rw [if_pos e3, if_pos (by omega)]
      · rw [if_neg e3, if_neg (by omega)]
  · simp only [if_neg e]
theorem mid_no {G : Nat → Nat → Bool} {k : Nat} {S : Nat → Bool} {r : Nat} (hs : (S r && !G k r) = false) (j q : Nat) : midG G k S r j q = midG G k S (r + 1) j q := by
  unfold midG upN
  by_cases e : j = k
  · simp only [if_pos e]
    by_cases e3 : q < r
    · rw [if_pos e3, if_pos (by omega)]
    · rw [if_neg e3]
      by_cases e2 : q = r
      · subst e2
        rw [if_pos (by omega)]
        cases h1 : S q <;> cases h2 : G k q <;> simp_all
      · rw [if_neg (by omega)]
  · simp only [if_neg e]
theorem mid_le (G : Nat → Nat → Bool) (k : Nat) (S : Nat → Bool) (r : Nat) (j q : Nat) (h : G j q = true) : midG G k S r j q = true := by
  unfold midG upN
  split
  · rename_i e
    subst e
    dsimp only
    split
    · rw [h]; rfl
    · exact h
  · exact h
theorem mid_sound {G : Nat → Nat → Bool} {k : Nat} {S : Nat → Bool} {r : Nat} {L : Nat → Nat → Bool} (hG : ∀ j q, G j q = true → L j q = true) (hS : ∀ q, S q = true → L k q = true) (j q : Nat) (h : midG G k S r j q = true) : L j q = true := by
  unfold midG upN at h
  split at h
  · rename_i e
    subst e
    dsimp only at h
    split at h
    · rw [Bool.or_eq_true] at h
      rcases h with a | a
      · exact hG _ _ a
      · exact hS _ a
    · exact hG _ _ h
  · exact hG _ _ h
theorem noG_le {many n : Nat} {G G' : Nat → Nat → Bool} (h : ∀ j q, G j q = true → G' j q = true) : noG many n G' ≤ noG many n G := sumK_le (fun k _ => List.countP_mono_left (fun q _ hq => by
  cases hg : G k q with
  | false => rfl
  | true => rw [h k q hg] at hq; cases hq))
theorem noG_lt {many n : Nat} {G : Nat → Nat → Bool} {k : Nat} {S : Nat → Bool} (hk : k < many) (h : newG G k S n = true) : noG many n (midG G k S n) < noG many n G := by
  unfold newG at h
  rw [List.any_eq_true] at h
  obtain ⟨q, hq, h1⟩ := h
  rw [Bool.and_eq_true] at h1
  have hq' := List.mem_range.1 hq
  refine Nat.lt_of_succ_le (sumK_lt (f := fun k => (List.range n).countP (fun r => !G k r)) (g := fun j => (List.range n).countP (fun r => !midG G k S n j r)) (fun j _ => List.countP_mono_left (fun q _ hq => ?_)) hk (d := 1) (Nat.succ_le_of_lt (countP_lt (fun q _ hq => ?_) hq ?_ ?_)))
  · cases hg : G j q with
    | false => rfl
    | true => rw [mid_le G k S n j q hg] at hq; cases hq
  · cases hg : G k q with
    | false => rfl
    | true => rw [mid_le G k S n k q hg] at hq; cases hq
  · unfold midG upN
    rw [if_pos rfl, if_pos hq', h1.1]
    simp
  · exact h1.2
theorem mid_same {G : Nat → Nat → Bool} {k : Nat} {S : Nat → Bool} {n : Nat} (h : newG G k S n = false) : midG G k S n = G ∧ ∀ q, q < n → S q = true → G k q = true := by
  have h' : ∀ q, q < n → S q = true → G k q = true := fun q hq hs => by
    unfold newG at h
    rw [List.any_eq_false] at h
    have := h q (List.mem_range.2 hq)
    rw [hs] at this
    simpa using this
  refine ⟨?_, h'⟩
  funext j q
  unfold midG upN
  split
  · rename_i e
    subst e
    dsimp only
    split
    · rename_i hq
      cases hs : S q with
      | false => rw [Bool.or_false]
      | true => rw [h' q hq hs]; rfl
    · rfl
  · rfl

end Go.Proofs.YtdiidmmmemmjjaaDoor.Lv
