/-
  What is live behind a part, of what is live ahead of all (behind of the document's layer 19): contracts over the program; the conditions: the function and the lists lie in memory.
-/
import Derived.Test.YtkcniahpkcdhoaaDoorKLrA
namespace Go.Proofs.YtkcniahpkcdhoaaDoor.Lv
open Go.RowKit
set_option linter.unusedVariables false

set_option maxRecDepth 100000 in
set_option maxHeartbeats 4000000 in
theorem before_zero (w : World) (p : PP) (hi : p.ins = []) (hc : p.cond < 0) (ad : Addr) (cc : Nat) :
    Calls Tryd.prog 26 #[p.v, .slice (some ad) 0 cc, .int .i64 0] w fun e w' => ∃ nv, e = .returned nv ∧ OwnB w.heap.size w' nv 0 (fun _ => false) ∧ Q w w' := by
  have e1 : ∀ X : World, Sem.run Tryd.prog (pure #[] : Sem (Array Value)) X = .ok #[] X := fun _ => rfl
  have e2 : ∀ (X : World) (a : Addr), Sem.run Tryd.prog (storeCells a []) X = .ok () X := fun _ _ => rfl
  obtain ⟨ins, pe, cond, next, els, ia, ic⟩ := p
  dsimp only at hi hc
  subst hi
  dsimp only [PP.v]
  have hc1 : ¬ cond ≥ 0 := by omega
  have hc2 : ¬ 0 ≤ cond := by omega
  go_enter Tryd.func26, Tryd.ntmps26
  go_wp2_with (fail)
  go_loopg [8] 1 (fun kx iv z => iv = .int .i64 (-1) ∧ 1 ≤ kx ∧ Hid (OwnB w.heap.size z (.slice (some ⟨w.heap.size + 1, 0, none⟩) 0 0) 0 (fun _ => false) ∧ Q w z))
  case atStart =>
    refine ⟨rfl, Nat.le_refl _, ?_, ((Q.refl w).alloc _).alloc _⟩
    have := own_none (w.alloc (.cells #[.slice ia 0 ic, .bool pe, .int .i64 cond, .int .i64 next, .int .i64 els] 49)) w.heap.size (by simp)
    have h2 : ((w.alloc (.cells #[.slice ia 0 ic, .bool pe, .int .i64 cond, .int .i64 next, .int .i64 els] 49)).alloc (.cells #[] 4)).ownsRow w.heap.size 4 1 (.slice (some ⟨w.heap.size + 1, 0, none⟩) 0 0) 0 [] := by simpa using this
    exact h2
  case round =>
    obtain ⟨rfl, -, HI⟩ := hrel
    go_wp2_with (fail)
    go_ret
    exact ⟨_, rfl, HI.out.1, HI.out.2⟩

/-- Lists of yes and no, one for each part. -/
def Rws (w : World) (v : Value) (many n : Nat) (G : Nat → Nat → Bool) : Prop := ∃ g cap, v = .slice (some ⟨g, 0, none⟩) many cap ∧ ∀ k, k < many → ∃ vk, w.cell? ⟨g, k, none⟩ = some vk ∧ RdB w vk n (G k)
theorem Rws.keep {w w' : World} {v : Value} {many n : Nat} {G : Nat → Nat → Bool} (h : Rws w v many n G) (q : Q w w') : Rws w' v many n G := by
  obtain ⟨g, cap, e, h1⟩ := h
  exact ⟨g, cap, e, fun k hk => by obtain ⟨vk, c, r⟩ := h1 k hk; exact ⟨vk, cell_keep q c, r.keep q⟩⟩
/-- What is live behind a part, of what is live ahead of all. -/
def behG (l : List PP) (k : Nat) (G : Nat → Nat → Bool) (r : Nat) : Bool := match l[k]? with | some p => (waysP p).any (fun x => G x.toNat r) | none => false
theorem infoBs : (Tryd.prog.info? 4).map (fun i => (i.zero, i.size, i.bytes)) = some (some (.bool false), 1, 1) := by kernel_rfl
theorem make_b (N : Nat) (hN : N ≤ 1099511627776) (X : World) : (Instr.makeSlice 44 (.int .i64 (N : Int)) (.int .i64 (N : Int))).run Tryd.prog X = .ok (.slice (some ⟨X.heap.size, 0, none⟩) N N) (X.alloc (.cells (Array.replicate N (.bool false)) 4)) := make_one Tryd.underlying44 infoBs rfl (by omega) N hN X
theorem own_made (X : World) (base N : Nat) (h : base ≤ X.heap.size) (hN : N ≤ 1000000) : OwnB base (X.alloc (.cells (Array.replicate N (.bool false)) 4)) (.slice (some ⟨X.heap.size, 0, none⟩) N N) N (fun _ => false) := by
  refine ⟨by rw [mapB_len, Nat.mul_one], Or.inr ⟨X.heap.size, N, _, rfl, h, heap_alloc_new X _, Nat.le_refl _, by unfold maxLen; omega, by simp, ?_⟩⟩
  refine List.ext_getElem? (fun i => ?_)
  rw [Nat.mul_one]
  by_cases hi : i < N
  · rw [mapB_get _ hi]
    simp [hi]
  · rw [List.getElem?_eq_none (by simp; omega), List.getElem?_eq_none (by rw [mapB_len]; omega)]

theorem ways_any' (ins : List PI) (cond next els : Int) (ia : Option Addr) (ic : Nat) (F : Int → Bool) : (waysP ⟨ins, false, cond, next, els, ia, ic⟩).any F = (F next || (decide (0 ≤ cond) && F els)) := by
  unfold waysP
  dsimp only
  rw [if_neg (by simp)]
  by_cases h : cond < 0
  · have : decide (0 ≤ cond) = false := decide_eq_false (by omega)
    rw [if_pos h, this]
    simp
  · have : decide (0 ≤ cond) = true := decide_eq_true (by omega)
    rw [if_neg h, this]
    simp
theorem next_mem (ins : List PI) (cond next els : Int) (ia : Option Addr) (ic : Nat) : next ∈ waysP ⟨ins, false, cond, next, els, ia, ic⟩ := by
  unfold waysP
  dsimp only
  rw [if_neg (by simp)]
  by_cases h : cond < 0
  · rw [if_pos h]; simp
  · rw [if_neg h]; simp
theorem els_mem (ins : List PI) (cond next els : Int) (ia : Option Addr) (ic : Nat) (h : 0 ≤ cond) : els ∈ waysP ⟨ins, false, cond, next, els, ia, ic⟩ := by
  unfold waysP
  dsimp only
  rw [if_neg (by simp), if_neg (by omega)]
  simp

abbrev bxF (w : World) (f : PF) : World := w.alloc (.cells #[.int .i64 f.params, .int .i64 f.regs, .slice f.sa f.slots.length f.sc, .slice f.pa f.parts.length f.pc] 39)

set_option maxRecDepth 100000 in
set_option maxHeartbeats 16000000 in
theorem behind_any (w : World) (f : PF) (hf : f.ok w) (n : Nat) (hn : n ≤ 1000000) (hr : f.regs = (n : Int)) (k : Nat) (hk : k < f.parts.length) (hw : ∀ p ∈ f.parts, ∀ x ∈ waysP p, 0 ≤ x ∧ x < (f.parts.length : Int)) (v : Value) (G : Nat → Nat → Bool) (hv : Rws w v f.parts.length n G) :
    Calls Tryd.prog 27 #[f.v, .int .i64 (k : Int), v] w fun e w' => ∃ g, e = .returned (.slice (some ⟨g, 0, none⟩) n n) ∧ OwnB w.heap.size w' (.slice (some ⟨g, 0, none⟩) n n) n (behG f.parts k G) ∧ Q w w' := by
  obtain ⟨p, hp⟩ := get_of_lt hk
  obtain ⟨X, hX⟩ : ∃ X, w.alloc (.cells #[.int .i64 f.params, .int .i64 f.regs, .slice f.sa f.slots.length f.sc, .slice f.pa f.parts.length f.pc] 39) = X := ⟨_, rfl⟩
  have qX : Q w X := by rw [← hX]; exact (Q.refl w).alloc _
  have bx : X.heap[w.heap.size]? = some (.cells #[.int .i64 f.params, .int .i64 f.regs, .slice f.sa f.slots.length f.sc, .slice f.pa f.parts.length f.pc] 39 (0, 0)) := by rw [← hX]; exact heap_alloc_new w _
  obtain ⟨pb, po, epa, hpat⟩ := hf.parts k p hp
  rw [hr] at bx
  have PAT : Hid (∀ Y, Q w Y → PrtAt Y pb (po + k * 5) p) := fun Y q => hpat.keep q
  have B1 : Hid (∀ Y, Q X Y → Y.cell? ⟨w.heap.size, 1, none⟩ = some (.int .i64 (n : Int)) ∧ Y.cell? ⟨w.heap.size, 3, none⟩ = some (.slice (some ⟨pb, po, none⟩) f.parts.length f.pc)) := fun Y q => ⟨cell_keep q ((cell_of_block bx 1).trans rfl), by have := cell_keep q ((cell_of_block bx 3).trans rfl); rw [epa] at this; exact this⟩
  have hpl : f.parts.length ≤ 9223372036854775807 := hf.psok.len
  have HW := hideIt (hw p (List.mem_of_getElem? hp))
  have HBG : Hid (behG f.parts k G = fun r => (waysP p).any (fun x => G x.toNat r)) := by
    show behG f.parts k G = fun r => (waysP p).any (fun x => G x.toNat r)
    funext r
    unfold behG
    rw [hp]
  have QX := hideIt qX
  have HV := hideIt hv
  have MK := hideIt (fun Y => make_b n (by omega) Y)
  have hk2 : (k : Int) < (f.parts.length : Int) := by omega
  obtain ⟨gv, gcap, rfl, -⟩ := hv
  clear hp hpat epa hw qX bx hf
  obtain ⟨x1, x3⟩ := B1.out X (Q.refl _)
  -- the list that is made, the box of the part
  obtain ⟨Y, hY⟩ : ∃ Y, X.alloc (.cells (Array.replicate n (.bool false)) 4) = Y := ⟨_, rfl⟩
  have qY : Q X Y := by rw [← hY]; exact (Q.refl X).alloc _
  have HOY : Hid (OwnB w.heap.size Y (.slice (some ⟨X.heap.size, 0, none⟩) n n) n (fun _ => false)) := by
    show OwnB w.heap.size Y (.slice (some ⟨X.heap.size, 0, none⟩) n n) n (fun _ => false)
    rw [← hY]
    exact own_made X w.heap.size n QX.out.size hn
  have HOYX : Hid (OwnB X.heap.size Y (.slice (some ⟨X.heap.size, 0, none⟩) n n) n (fun _ => false)) := by
    show OwnB X.heap.size Y (.slice (some ⟨X.heap.size, 0, none⟩) n n) n (fun _ => false)
    rw [← hY]
    exact own_made X X.heap.size n (Nat.le_refl _) hn
  have QY := hideIt qY
  have mk := MK.out X
  rw [hY] at mk
  obtain ⟨a0, a1, a2, a3, a4⟩ := (PAT.out Y (QX.out.trans QY.out)).1.five
  obtain ⟨y1, y3⟩ := B1.out Y QY.out
  obtain ⟨Z, hZ⟩ : ∃ Z, Y.alloc (.cells #[.slice p.ia p.ins.length p.ic, .bool p.e, .int .i64 p.cond, .int .i64 p.next, .int .i64 p.els] 49) = Z := ⟨_, rfl⟩
  have qZ : Q Y Z := by rw [← hZ]; exact (Q.refl Y).alloc _
  have bz : Z.heap[Y.heap.size]? = some (.cells #[.slice p.ia p.ins.length p.ic, .bool p.e, .int .i64 p.cond, .int .i64 p.next, .int .i64 p.els] 49 (0, 0)) := by rw [← hZ]; exact heap_alloc_new Y _
  have BZ := hideIt bz
  have QZ := hideIt qZ
  have z1 : Z.cell? ⟨Y.heap.size, 1, none⟩ = some (.bool p.e) := (cell_of_block bz 1).trans rfl
  have hYX : Hid (X.heap.size < Y.heap.size) := by
    show X.heap.size < Y.heap.size
    rw [← hY]; simp
  have hX' := hX
  rw [hr] at hX'
  clear hY qY qZ bz hX
  rcases f with ⟨params, regs, slots, parts, sa, sc, pa, pc⟩
  dsimp only [PF.v] at *
  subst hr
  rcases p with ⟨ins, pe, cond, next, els, ia, ic⟩
  dsimp only at *
  cases pe with
  | true =>
    go_enter Tryd.func27, Tryd.ntmps27
    go_wp2_with (fail)
    go_ret
    refine ⟨X.heap.size, rfl, OwnB.congr (OwnB.q HOY.out QZ.out) (fun r _ => ?_), QX.out.trans (QY.out.trans QZ.out)⟩
    rw [HBG.out]
    rfl
  | false =>
    have ZB : Hid (∀ T : World, T.heap[Y.heap.size]? = Z.heap[Y.heap.size]? → T.cell? ⟨Y.heap.size, 2, none⟩ = some (.int .i64 cond) ∧ T.cell? ⟨Y.heap.size, 3, none⟩ = some (.int .i64 next) ∧ T.cell? ⟨Y.heap.size, 4, none⟩ = some (.int .i64 els)) := fun T hT => by
      rw [BZ.out] at hT
      exact ⟨(cell_of_block hT 2).trans rfl, (cell_of_block hT 3).trans rfl, (cell_of_block hT 4).trans rfl⟩
    have RG : Hid (∀ (T : World), Q w T → ∀ (x : Int), x ∈ waysP ⟨ins, false, cond, next, els, ia, ic⟩ → ∀ r, r < n → ∃ (xn g1 c1 : Nat), x = (xn : Int) ∧ xn < parts.length ∧ T.cell? ⟨gv, xn, none⟩ = some (.slice (some ⟨g1, 0, none⟩) n c1) ∧ T.cell? ⟨g1, r, none⟩ = some (.bool (G xn r))) := fun T q x hx r hr => by
      obtain ⟨x0, x1⟩ := HW.out x hx
      obtain ⟨xn, rfl⟩ : ∃ xn : Nat, x = (xn : Int) := ⟨x.toNat, by omega⟩
      have hxl : xn < parts.length := by omega
      obtain ⟨g', cap', e, hk'⟩ := HV.out.keep q
      injection e with e _ _
      injection e with e
      injection e with e _
      subst e
      obtain ⟨vk, c, ao, cc, rfl, hrd⟩ := hk' xn hxl
      obtain ⟨g1, rfl, hc⟩ := hrd r hr
      exact ⟨xn, g1, cc, rfl, hxl, c, hc⟩
    clear z1 a0 a1 a2 a3 a4
    obtain ⟨a0, a1, a2, a3, a4⟩ := (PAT.out Y (QX.out.trans QY.out)).1.five
    have z1 : Z.cell? ⟨Y.heap.size, 1, none⟩ = some (.bool false) := (cell_of_block BZ.out 1).trans rfl
    go_enter Tryd.func27, Tryd.ntmps27
    go_wp2_with (fail)
    clear a0 a1 a2 a3 a4 x1 x3 y1 y3 z1 mk hX' hZ
    go_loopg [9] (n + 1) (fun kx iv z => ∃ r : Nat, iv = .int .i64 (r : Int) ∧ r ≤ n ∧ n - r + 1 ≤ kx ∧ Hid (Q X z ∧ z.heap[Y.heap.size]? = Z.heap[Y.heap.size]? ∧ OwnB X.heap.size z (.slice (some ⟨X.heap.size, 0, none⟩) n n) n (fun q => if q < r then behG parts k G q else false)))
    case atStart => exact ⟨0, rfl, Nat.zero_le _, by omega, QY.out.trans QZ.out, rfl, OwnB.congr (OwnB.q HOYX.out QZ.out) (fun q _ => by simp)⟩
    case round =>
      obtain ⟨r, rfl, hrn, hkx, HI⟩ := hrel
      generalize wr = z at *
      obtain ⟨y1, -⟩ := B1.out z HI.out.1
      by_cases hrl : r < n
      · have hrl2 : (r : Int) < (n : Int) := by omega
        obtain ⟨b2, b3, b4⟩ := ZB.out z HI.out.2.1
        have qwz := QX.out.trans HI.out.1
        obtain ⟨xn, g1, c1, ex, hxl, ic1, ic2⟩ := RG.out z qwz next (next_mem _ _ _ _ _ _) r hrl
        have hxl2 : (xn : Int) < (parts.length : Int) := by omega
        obtain ⟨val, hval⟩ : ∃ val, behG parts k G r = val := ⟨_, rfl⟩
        obtain ⟨t1, t2, t3, t4⟩ := own_setB HI.out.1 HI.out.2.2 hrl val
        have H3 := hideIt t3
        have H4 : Hid (OwnB X.heap.size (z.setCell ⟨X.heap.size, r, none⟩ (.bool val)) (.slice (some ⟨X.heap.size, 0, none⟩) n n) n (fun q => if q < r + 1 then behG parts k G q else false)) := OwnB.congr t4 (fun q _ => by
          unfold updB
          by_cases e : q = r
          · subst e
            rw [if_pos rfl, if_pos (by omega), hval]
          · rw [if_neg e]
            dsimp only
            by_cases e2 : q < r
            · rw [if_pos e2, if_pos (by omega)]
            · rw [if_neg e2, if_neg (by omega)])
        have H5 : Hid ((z.setCell ⟨X.heap.size, r, none⟩ (.bool val)).heap[Y.heap.size]? = Z.heap[Y.heap.size]?) := (Below.heap_setCell z ⟨X.heap.size, r, none⟩ _ Y.heap.size (fun e => by have := hYX.out; have e' : Y.heap.size = X.heap.size := e; omega)).trans HI.out.2.1
        have HVAL : Hid (val = (waysP ⟨ins, false, cond, next, els, ia, ic⟩).any (fun x => G x.toNat r)) := by
          show val = _
          rw [← hval, HBG.out]
        subst ex
        generalize hgn : G xn r = gn at *
        clear t3 t4 hval
        cases gn with
        | true =>
          have ev : val = true := by
            rw [HVAL.out, ways_any', Int.toNat_natCast, hgn]
            rfl
          subst ev
          clear HVAL hgn
          go_wp2_with (fail)
          go_roundg (n - (r + 1) + 1)
          case measure => omega
          case rel => exact ⟨r + 1, by first | rfl | go_num, by omega, Nat.le_refl _, H3.out, H5.out, H4.out⟩
        | false =>
          by_cases hc : cond < 0
          · have ev : val = false := by
              rw [HVAL.out, ways_any', Int.toNat_natCast, hgn, show decide (0 ≤ cond) = false from decide_eq_false (by omega)]
              rfl
            subst ev
            have hc1 : ¬ 0 ≤ cond := by omega
            clear HVAL hgn
            go_wp2_with (fail)
            go_roundg (n - (r + 1) + 1)
            case measure => omega
            case rel => exact ⟨r + 1, by first | rfl | go_num, by omega, Nat.le_refl _, H3.out, H5.out, H4.out⟩
          · have hc1 : 0 ≤ cond := by omega
            obtain ⟨en, g2, c2, ee, hel, jc1, jc2⟩ := RG.out z qwz els (els_mem _ _ _ _ _ _ hc1) r hrl
            have hel2 : (en : Int) < (parts.length : Int) := by omega
            have ev : val = G en r := by
              rw [HVAL.out, ways_any', Int.toNat_natCast, hgn, show decide (0 ≤ cond) = true from decide_eq_true hc1, ee, Int.toNat_natCast]
              rfl
            subst ee
            generalize G en r = ge at *
            subst ev
            clear HVAL hgn
            go_wp2_with (fail)
            go_roundg (n - (r + 1) + 1)
            case measure => omega
            case rel => exact ⟨r + 1, by first | rfl | go_num, by omega, Nat.le_refl _, H3.out, H5.out, H4.out⟩
      · have hrl2 : ¬ (r : Int) < (n : Int) := by omega
        go_wp2_with (fail)
        go_ret
        exact ⟨X.heap.size, rfl, row_mono (OwnB.congr HI.out.2.2 (fun q hq => by rw [if_pos (by omega)])) QX.out.size, QX.out.trans HI.out.1⟩

end Go.Proofs.YtkcniahpkcdhoaaDoor.Lv
