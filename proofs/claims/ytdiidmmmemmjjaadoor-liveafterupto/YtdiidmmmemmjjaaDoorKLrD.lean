/-
  What is live ahead of each part and behind it (Parts of the document's layer 19): a contract over the program; the conditions: the function lies in memory and is one of right code.
-/
import Derived.Test.YtdiidmmmemmjjaaDoorKLrC
import Derived.Deep.RegionHeld3
namespace Go.Proofs.YtdiidmmmemmjjaaDoor.Lv
open Go.RowKit
set_option linter.unusedVariables false

/-- The parts of a function of right code. -/
theorem okB_of {c : PC} (hv : validP c = 0) {fn : Nat} {f : PF} (hf : c.fns[fn]? = some f) {n : Nat} (hn : f.regs = (n : Int)) (hcn : codeN c ≤ 60000) {p : PP} (hp : p ∈ f.parts) : okB p n ∧ (n = 0 → p.ins = [] ∧ p.cond < 0) ∧ ∀ x ∈ waysP p, 0 ≤ x ∧ x < (f.parts.length : Int) := by
  have hfn := right_fn hv hf
  unfold fnP at hfn
  rw [Bool.and_eq_true] at hfn
  have h2 := List.all_eq_true.1 hfn.2 p hp
  unfold ptP at h2
  rw [Bool.and_eq_true] at h2
  obtain ⟨he, hi⟩ := h2
  have hi := List.all_eq_true.1 hi
  have wt : ∀ x ∈ p.ins, wrP x.op = true → 0 ≤ x.dst ∧ x.dst < (n : Int) := fun x hx hw => by
    have h4 := hi x hx
    unfold insP wtP at h4
    simp only [Bool.and_eq_true] at h4
    have h6 := h4.2.2.1
    rw [hw] at h6
    have := blP_iff.1 (show blP x.dst f.regs = true by simpa using h6)
    omega
  have us : ∀ x ∈ p.ins, ∀ u ∈ usesP x, 0 ≤ u ∧ u < (n : Int) := fun x hx u hu => by have := uses_right hv hf hp hx hu; omega
  have cd : 0 ≤ p.cond → p.cond < (n : Int) := fun hc => by
    unfold endP at he
    split at he
    · have := blP_iff.1 he; omega
    · have h3 : ¬ p.cond < 0 := by omega
      simp only [if_neg h3, Bool.and_eq_true] at he
      have := blP_iff.1 he.1
      omega
  refine ⟨⟨us, wt, cd⟩, fun h0 => ⟨?_, ?_⟩, fun r hr => ?_⟩
  · cases hins : p.ins with
    | nil => rfl
    | cons x l =>
      exfalso
      have hx : x ∈ p.ins := by rw [hins]; simp
      have h4 := hi x hx
      unfold insP at h4
      simp only [Bool.and_eq_true] at h4
      have hk := h4.1
      have hw : ¬ wrP x.op = true := fun q => by have := wt x hx q; omega
      have h5 : x.op = 31 ∨ x.op = 33 := by
        unfold wrP at hw
        rw [hk] at hw
        simp at hw
        omega
      have h6 := us x hx x.a (by
        unfold usesP
        rcases h5 with e | e
        · rw [e]; simp [rdP, opP]
        · rw [e]; simp [rdP, opP])
      omega
  · by_cases hc : 0 ≤ p.cond
    · have := cd hc; omega
    · omega
  · exact ((okF_few hv hf hcn).1.part p hp).2 r hr

/-- before, whatever the registers. -/
theorem before_all (w : World) (p : PP) (hp : p.ok w) (n : Nat) (hn : n ≤ 1000000) (hb : okB p n) (h0 : n = 0 → p.ins = [] ∧ p.cond < 0) (g : Nat) (G : Nat → Bool) (hv : RdB w (slc g n) n G) :
    Calls Tryd.prog 26 #[p.v, slc g n, .int .i64 0] w fun e w' => ∃ ao c, e = .returned (.slice ao n c) ∧ RdB w' (.slice ao n c) n (befL p.ins (fun r => cdB p r || G r)) ∧ Q w w' ∧ ∀ b, (Value.slice ao n c).ownBlock = some b → w.heap.size ≤ b := by
  by_cases hz : n = 0
  · subst hz
    obtain ⟨h1, h2⟩ := h0 rfl
    refine (before_zero w p h1 h2 ⟨g, 0, none⟩ 0).mono ?_
    rintro e w' ⟨nv, rfl, ho, q⟩
    obtain ⟨ao, c, rfl⟩ := own_form ho
    exact ⟨ao, c, rfl, ⟨ao, c, rfl, fun r hr => by omega⟩, q, fun b hb => (ho.lt b hb).1⟩
  · refine (before_any w p hp 0 n (by omega) hn hb (Nat.zero_le _) (slc g n) G hv).mono ?_
    rintro e w' ⟨nv, rfl, ho, q⟩
    obtain ⟨ao, c, rfl⟩ := own_form ho
    rw [List.drop_zero] at ho
    exact ⟨ao, c, rfl, ho.rd, q, fun b hb => (ho.lt b hb).1⟩
theorem infoS : ∃ i0, Tryd.prog.info? 44 = some i0 ∧ i0.zero = some (.slice none 0 0) ∧ i0.size = 1 ∧ i0.bytes = 24 := by
  have h : (Tryd.prog.info? 44).map (fun i => (i.zero, i.size, i.bytes)) = some (some (.slice none 0 0), 1, 24) := by kernel_rfl
  obtain ⟨i, hi, hz⟩ := Option.map_eq_some_iff.1 h
  simp only [Prod.mk.injEq] at hz
  exact ⟨i, hi, hz.1, hz.2.1, hz.2.2⟩

theorem IN.cellV {X z : World} {g cap many n : Nat} {h : Nat → Nat} {G : Nat → Nat → Bool} (i : IN X z (.slice (some ⟨g, 0, none⟩) many cap) many n h G) {k : Nat} (hk : k < many) : z.cell? ⟨g, k, none⟩ = some (slc (h k) n) := by
  obtain ⟨g', cap', e, hc⟩ := i.form (by omega)
  injection e with e _ _
  injection e with e
  injection e with e _
  subst e
  exact hc k hk
theorem RdB.set {z : World} {ao : Option Addr} {c n : Nat} {S : Nat → Bool} (h : RdB z (.slice ao n c) n S) {b r : Nat} {u : Value} (hb : ∀ g, ao = some ⟨g, 0, none⟩ → g ≠ b) : RdB (z.setCell ⟨b, r, none⟩ u) (.slice ao n c) n S := by
  obtain ⟨ao', c', e, h1⟩ := h
  injection e with e1 e2 e3
  subst e1
  subst e3
  refine ⟨ao, c, rfl, fun q hq => ?_⟩
  obtain ⟨g, e, hc⟩ := h1 q hq
  exact ⟨g, e, set_cell_ne' hc (fun q => hb g e (congrArg Addr.block q))⟩

theorem or_f {a b : Bool} (h : false = (a || b)) : a = false ∧ b = false := by cases a <;> cases b <;> first | exact ⟨rfl, rfl⟩ | cases h
theorem RdB.congr {w : World} {v : Value} {n : Nat} {G G' : Nat → Bool} (h : RdB w v n G) (e : ∀ r, r < n → G r = G' r) : RdB w v n G' := by
  obtain ⟨ao, c, e1, h1⟩ := h
  exact ⟨ao, c, e1, fun r hr => by rw [← e r hr]; exact h1 r hr⟩
theorem Rws.congr {w : World} {v : Value} {many n : Nat} {G G' : Nat → Nat → Bool} (h : Rws w v many n G) (e : ∀ k, k < many → ∀ r, r < n → G k r = G' k r) : Rws w v many n G' := by
  obtain ⟨g, cap, e1, h1⟩ := h
  exact ⟨g, cap, e1, fun k hk => by obtain ⟨vk, c, r⟩ := h1 k hk; exact ⟨vk, c, r.congr (e k hk)⟩⟩
theorem beh_congr {l : List PP} {n : Nat} {G G' : Nat → Nat → Bool} (hw : ∀ p ∈ l, ∀ x ∈ waysP p, 0 ≤ x ∧ x < (l.length : Int)) (e : ∀ k, k < l.length → ∀ r, r < n → G k r = G' k r) (k r : Nat) (hr : r < n) : behG l k G r = behG l k G' r := by
  unfold behG
  cases hp : l[k]? with
  | none => rfl
  | some p =>
    have hm := List.mem_of_getElem? hp
    refine bool_iff ?_
    simp only [List.any_eq_true]
    constructor
    · rintro ⟨x, hx, h⟩
      have := hw p hm x hx
      exact ⟨x, hx, by rw [← e x.toNat (by omega) r hr]; exact h⟩
    · rintro ⟨x, hx, h⟩
      have := hw p hm x hx
      exact ⟨x, hx, by rw [e x.toNat (by omega) r hr]; exact h⟩

/-- What the document's Parts answers. -/
def RPartsP (l : List PP) (n : Nat) (w : World) (e : Ending) (w' : World) : Prop := ∃ ga ca gb cb, e = .returned (.tuple #[.slice (some ⟨ga, 0, none⟩) l.length ca, .slice (some ⟨gb, 0, none⟩) l.length cb]) ∧ Rws w' (.slice (some ⟨ga, 0, none⟩) l.length ca) l.length n (liB l) ∧ Rws w' (.slice (some ⟨gb, 0, none⟩) l.length cb) l.length n (ouB l) ∧ Q w w'

set_option maxRecDepth 100000 in
set_option maxHeartbeats 40000000 in
theorem rparts_any (w : World) (f : PF) (hf : f.ok w) (n : Nat) (hn : n ≤ 20000) (hr : f.regs = (n : Int)) (hm0 : 0 < f.parts.length) (hm : f.parts.length ≤ 60000) (hok : ∀ p ∈ f.parts, okB p n ∧ (n = 0 → p.ins = [] ∧ p.cond < 0) ∧ ∀ x ∈ waysP p, 0 ≤ x ∧ x < (f.parts.length : Int)) (hlt : ∀ k r, LiveR f.parts k r → r < n) :
    Calls Tryd.prog 12 #[f.v] w (RPartsP f.parts n w) := by
  obtain ⟨X, hX⟩ : ∃ X, w.alloc (.cells #[.int .i64 f.params, .int .i64 f.regs, .slice f.sa f.slots.length f.sc, .slice f.pa f.parts.length f.pc] 39) = X := ⟨_, rfl⟩
  have qX : Q w X := by rw [← hX]; exact (Q.refl w).alloc _
  have bx : X.heap[w.heap.size]? = some (.cells #[.int .i64 f.params, .int .i64 f.regs, .slice f.sa f.slots.length f.sc, .slice f.pa f.parts.length f.pc] 39 (0, 0)) := by rw [← hX]; exact heap_alloc_new w _
  have FB : Hid (∀ Y, Q X Y → Y.cell? ⟨w.heap.size, 0, none⟩ = some (.int .i64 f.params) ∧ Y.cell? ⟨w.heap.size, 1, none⟩ = some (.int .i64 f.regs) ∧ Y.cell? ⟨w.heap.size, 2, none⟩ = some (.slice f.sa f.slots.length f.sc) ∧ Y.cell? ⟨w.heap.size, 3, none⟩ = some (.slice f.pa f.parts.length f.pc)) := fun Y q => ⟨cell_keep q ((cell_of_block bx 0).trans rfl), cell_keep q ((cell_of_block bx 1).trans rfl), cell_keep q ((cell_of_block bx 2).trans rfl), cell_keep q ((cell_of_block bx 3).trans rfl)⟩
  have HF : Hid (∀ Y, Q X Y → f.ok Y) := fun Y q => hf.keep (qX.trans q)
  have QX := hideIt qX
  have HOK := hideIt hok
  have HLT := hideIt hlt
  have MK := hideIt (fun Y => make_b n (by omega) Y)
  have CBH : Hid (∀ Y (k : Nat) v G, Q X Y → k < f.parts.length → Rws Y v f.parts.length n G → Calls Tryd.prog 27 #[f.v, .int .i64 (k : Int), v] Y fun e w' => ∃ g, e = .returned (slc g n) ∧ OwnB Y.heap.size w' (slc g n) n (behG f.parts k G) ∧ Q Y w') := fun Y k v G q hk hv => behind_any Y f (hf.keep (qX.trans q)) n (by omega) hr k hk (fun p hp => (hok p hp).2.2) v G hv
  obtain ⟨i0, ti, tz0, tz1, tz2⟩ := infoS
  have HTI := hideIt (And.intro ti (And.intro tz0 (And.intro tz1 tz2)))
  have hpl : f.parts.length ≤ 9223372036854775807 := by omega
  clear ti tz0 tz1 tz2 qX bx hok hlt hf
  obtain ⟨x0, x1, x2, x3⟩ := FB.out X (Q.refl _)
  have FV := hideIt (show f.v = .agg #[.int .i64 f.params, .int .i64 f.regs, .slice f.sa f.slots.length f.sc, .slice f.pa f.parts.length f.pc] from rfl)
  rcases f with ⟨params, regs, slots, parts, sa, sc, pa, pc⟩
  dsimp only [PF.v] at *
  subst hr
  obtain ⟨p0, hp0⟩ := get_of_lt hm0
  obtain ⟨pb, po, epa, -⟩ := (HF.out X (Q.refl _)).parts 0 p0 hp0
  dsimp only at epa
  subst epa
  clear hp0 p0
  go_enter Tryd.func12, Tryd.ntmps12
  go_wp2_with (fail)
  clear x0 x1 x2 x3 hX
  go_loopg [4, 5] (parts.length + 1) (fun kx v iv z => ∃ i : Nat, iv = .int .i64 (i : Int) ∧ i ≤ parts.length ∧ parts.length - i + 1 ≤ kx ∧ Hid (∃ h, IN X z v i n h (fun _ _ => false)))
  case atStart => exact ⟨0, rfl, Nat.zero_le _, by omega, _, IN.start X n⟩
  case round =>
    obtain ⟨i, rfl, hi, hik, HI⟩ := hrel
    generalize wr = z at *
    obtain ⟨h, HIN⟩ := HI.out
    obtain ⟨x0, x1, x2, x3⟩ := FB.out z HIN.q
    by_cases hil : i < parts.length
    · have hil2 : (i : Int) < (parts.length : Int) := by omega
      obtain ⟨va, vc, rfl⟩ := own_form HIN.row
      have HH := hideIt HIN
      have mk := MK.out z
      obtain ⟨z1, hz1⟩ : ∃ z1, z.alloc (.cells (Array.replicate n (.bool false)) 4) = z1 := ⟨_, rfl⟩
      rw [hz1] at mk
      have QZ1 : Hid (Q z z1) := by
        show Q z z1
        rw [← hz1]; exact (Q.refl z).alloc _
      have HO1 : Hid (OwnB z.heap.size z1 (slc z.heap.size n) n (fun _ => false)) := by
        show OwnB z.heap.size z1 (slc z.heap.size n) n (fun _ => false)
        rw [← hz1]; exact own_made z z.heap.size n (Nat.le_refl _) (by omega)
      have HM := hideIt (show i + 1 ≤ maxLen by unfold maxLen; omega)
      have HM2 := hideIt (show (i + 1) * 24 ≤ 140737488355328 by omega)
      have HR : Hid ((z1.alloc (.cells #[slc z.heap.size n] 44)).ownsRow X.heap.size 44 1 (.slice va i vc) i (mapS i n h)) := row_q HIN.row (fun b hb => ((QZ1.out.alloc _).block b (HIN.row.lt b hb).2))
      have HS : Hid (X.heap.size ≤ (z1.alloc (.cells #[slc z.heap.size n] 44)).heap.size) := by
        have h1 := HIN.q.size
        have h2 := QZ1.out.size
        show X.heap.size ≤ _
        simp
        omega
      clear HIN HI
      go_wp2_with (first | (at_builtin; refine wpList_append_lies _ rfl _ _ 34 rfl X.heap.size 44 i0 (.slice none 0 0) 1 24 Tryd.underlying34 HTI.out.1 HTI.out.2.1 HTI.out.2.2.1 HTI.out.2.2.2 rfl (by decide) (.slice va i vc) i (mapS i n h) rfl HR.out ⟨z1.heap.size, 0, none⟩ 1 1 [slc z.heap.size n] rfl rfl ?_ ?_ (by decide) HM.out HM2.out HS.out (z1.heap.size + 1) ?_ ?_) | fail)
      · exact World.news_of_block (heap_alloc_new z1 _)
      · intro u hu
        simp at hu
        subst hu
        rfl
      · simp
      · intro g cap w1 hown hgrow hat hlt'
        have HNI := hideIt (HH.out.app QZ1.out (Nat.le_refl _) HO1.out hgrow hown hat)
        clear hown hgrow hat hlt'
        go_wp2_with (fail)
        go_roundg (parts.length - (i + 1) + 1)
        case measure => omega
        case rel =>
          refine ⟨i + 1, by first | rfl | go_num, by omega, Nat.le_refl _, _, HNI.out.congr (fun k _ r _ => ?_)⟩
          unfold upN
          split <;> rfl
    · have hil2 : ¬ (i : Int) < (parts.length : Int) := by omega
      obtain rfl : i = parts.length := by omega
      have HH := hideIt HIN
      obtain ⟨g, cap, rfl, -⟩ := HIN.form hm0
      clear HIN HI
      go_wp2_with (fail)
      clear x0 x1 x2 x3
      go_loopg [6] (noG parts.length n (fun _ _ => false) + 1) (fun kx mv z' => ∃ (more : Bool) (G : Nat → Nat → Bool), mv = .bool more ∧ (more = true → noG parts.length n G + 1 ≤ kx) ∧ Hid (IN X z' (.slice (some ⟨g, 0, none⟩) parts.length cap) parts.length n h G ∧ (∀ k r, G k r = true → liB parts k r = true) ∧ (more = false → ∀ k p, parts[k]? = some p → ∀ r, r < n → stepG parts p k G r = true → G k r = true)))
      case atStart => exact ⟨true, fun _ _ => false, rfl, fun _ => Nat.le_refl _, HH.out, (fun k r e => by cases e), (fun e => by cases e)⟩
      case round =>
        obtain ⟨more, G, rfl, hgk, HG⟩ := hrel
        generalize wr = zA at *
        clear HH
        cases more with
        | true =>
          have hgk' := hgk rfl
          obtain ⟨x0, x1, x2, x3⟩ := FB.out zA HG.out.1.q
          go_wp2_with (fail)
          clear x0 x1 x2 x3 hgk
          go_loopg [6, 7] (parts.length + 1) (fun kx mv iv z' => ∃ (m : Nat) (more : Bool) (G1 : Nat → Nat → Bool), mv = .bool more ∧ iv = .int .i64 ((m : Int) - 1) ∧ m ≤ parts.length ∧ m + 1 ≤ kx ∧ Hid (IN X z' (.slice (some ⟨g, 0, none⟩) parts.length cap) parts.length n h G1 ∧ (∀ k r, G1 k r = true → liB parts k r = true) ∧ noG parts.length n G1 ≤ noG parts.length n G ∧ (more = true → noG parts.length n G1 < noG parts.length n G) ∧ (more = false → ∀ k p, m ≤ k → parts[k]? = some p → ∀ r, r < n → stepG parts p k G1 r = true → G1 k r = true)))
          case atStart => exact ⟨parts.length, false, G, rfl, rfl, Nat.le_refl _, Nat.le_refl _, HG.out.1, HG.out.2.1, Nat.le_refl _, (fun e => by cases e), fun _ k p hk hp => by have := (List.getElem?_eq_some_iff.1 hp).1; omega⟩
          case round =>
            obtain ⟨m, more, G1, rfl, rfl, hm1, hm2, HM⟩ := hrel
            generalize wr = zB at *
            by_cases hmz : 0 < m
            · obtain ⟨k, rfl⟩ : ∃ k, m = k + 1 := ⟨m - 1, by omega⟩
              have e1 : ((k + 1 : Nat) : Int) - 1 = (k : Int) := by omega
              rw [e1]
              have c2 : (0 : Int) ≤ (k : Int) := by omega
              have hkl : k < parts.length := by omega
              have c3 : (k : Int) < (parts.length : Int) := by omega
              obtain ⟨p, hp⟩ := get_of_lt hkl
              have hpm := List.mem_of_getElem? hp
              obtain ⟨hB1, hB2, -⟩ := HOK.out p hpm
              have SC : Hid (∀ Y, Q zB Y → PrtAt Y pb (po + k * 5) p) := fun Y q => by
                obtain ⟨b', o', e, ha⟩ := (HF.out Y (HM.out.1.q.trans q)).parts k p hp
                injection e with e
                injection e with e1 e2
                subst e1
                subst e2
                exact ha
              have HP := hideIt hp
              obtain ⟨St, hSt⟩ : ∃ St, stepG parts p k G1 = St := ⟨_, rfl⟩
              have HST := hideIt hSt
              obtain ⟨BG, hBG⟩ : ∃ BG, behG parts k G1 = BG := ⟨_, rfl⟩
              have CL : Hid (∀ Y, Q zB Y → (Y.cell? ⟨w.heap.size, 0, none⟩ = some (.int .i64 params) ∧ Y.cell? ⟨w.heap.size, 1, none⟩ = some (.int .i64 (n : Int)) ∧ Y.cell? ⟨w.heap.size, 2, none⟩ = some (.slice sa slots.length sc) ∧ Y.cell? ⟨w.heap.size, 3, none⟩ = some (.slice (some ⟨pb, po, none⟩) parts.length pc)) ∧ (Y.cell? ⟨pb, po + k * 5, none⟩ = some (.slice p.ia p.ins.length p.ic) ∧ Y.cell? ⟨pb, po + k * 5 + 1, none⟩ = some (.bool p.e) ∧ Y.cell? ⟨pb, po + k * 5 + 2, none⟩ = some (.int .i64 p.cond) ∧ Y.cell? ⟨pb, po + k * 5 + 3, none⟩ = some (.int .i64 p.next) ∧ Y.cell? ⟨pb, po + k * 5 + 4, none⟩ = some (.int .i64 p.els))) := fun Y q => ⟨FB.out Y (HM.out.1.q.trans q), (SC.out Y q).1.five⟩
              have C1 : Hid (∀ Y, Q zB Y → Calls Tryd.prog 27 #[.agg #[.int .i64 params, .int .i64 (n : Int), .slice sa slots.length sc, .slice (some ⟨pb, po, none⟩) parts.length pc], .int .i64 (k : Int), (.slice (some ⟨g, 0, none⟩) parts.length cap)] Y fun e w' => (∃ g', e = .returned (slc g' n) ∧ RdB w' (slc g' n) n BG) ∧ Q zB w' ∧ (w'.cell? ⟨w.heap.size, 0, none⟩ = some (.int .i64 params) ∧ w'.cell? ⟨w.heap.size, 1, none⟩ = some (.int .i64 (n : Int)) ∧ w'.cell? ⟨w.heap.size, 2, none⟩ = some (.slice sa slots.length sc) ∧ w'.cell? ⟨w.heap.size, 3, none⟩ = some (.slice (some ⟨pb, po, none⟩) parts.length pc)) ∧ (w'.cell? ⟨pb, po + k * 5, none⟩ = some (.slice p.ia p.ins.length p.ic) ∧ w'.cell? ⟨pb, po + k * 5 + 1, none⟩ = some (.bool p.e) ∧ w'.cell? ⟨pb, po + k * 5 + 2, none⟩ = some (.int .i64 p.cond) ∧ w'.cell? ⟨pb, po + k * 5 + 3, none⟩ = some (.int .i64 p.next) ∧ w'.cell? ⟨pb, po + k * 5 + 4, none⟩ = some (.int .i64 p.els))) := fun Y q => (CBH.out Y k _ G1 (HM.out.1.q.trans q) hkl ((HM.out.1.rws hm0).keep q)).mono fun e w' ⟨g', e1, ho, q1⟩ => ⟨⟨g', e1, by rw [← hBG]; exact ho.rd⟩, q.trans q1, CL.out w' (q.trans q1)⟩
              have C2 : Hid (∀ Y g', Q zB Y → RdB Y (slc g' n) n BG → Calls Tryd.prog 26 #[.agg #[.slice p.ia p.ins.length p.ic, .bool p.e, .int .i64 p.cond, .int .i64 p.next, .int .i64 p.els], slc g' n, .int .i64 0] Y fun e w' => (∃ ao c, e = .returned (.slice ao n c) ∧ RdB w' (.slice ao n c) n St ∧ ∀ b, (Value.slice ao n c).ownBlock = some b → zB.heap.size ≤ b) ∧ Q zB w' ∧ (w'.cell? ⟨w.heap.size, 0, none⟩ = some (.int .i64 params) ∧ w'.cell? ⟨w.heap.size, 1, none⟩ = some (.int .i64 (n : Int)) ∧ w'.cell? ⟨w.heap.size, 2, none⟩ = some (.slice sa slots.length sc) ∧ w'.cell? ⟨w.heap.size, 3, none⟩ = some (.slice (some ⟨pb, po, none⟩) parts.length pc)) ∧ (w'.cell? ⟨pb, po + k * 5, none⟩ = some (.slice p.ia p.ins.length p.ic) ∧ w'.cell? ⟨pb, po + k * 5 + 1, none⟩ = some (.bool p.e) ∧ w'.cell? ⟨pb, po + k * 5 + 2, none⟩ = some (.int .i64 p.cond) ∧ w'.cell? ⟨pb, po + k * 5 + 3, none⟩ = some (.int .i64 p.next) ∧ w'.cell? ⟨pb, po + k * 5 + 4, none⟩ = some (.int .i64 p.els))) := fun Y g' q hrd => (before_all Y p (SC.out Y q).2 n (by omega) hB1 hB2 g' BG hrd).mono fun e w' ⟨ao, c, e1, hr2, q1, hb⟩ => ⟨⟨ao, c, e1, by rw [← hSt]; unfold stepG; rw [hBG]; exact hr2, fun b h => Nat.le_trans q.size (hb b h)⟩, q.trans q1, CL.out w' (q.trans q1)⟩
              obtain ⟨⟨x0, x1, x2, x3⟩, a0, a1, a2, a3, a4⟩ := CL.out zB (Q.refl _)
              clear hp hpm hB1 hB2 hSt hBG e1
              go_wp2_with (fail)
              first | go_region_held3 (fun y : World => Q zB y ∧ (y.cell? ⟨w.heap.size, 0, none⟩ = some (.int .i64 params) ∧ y.cell? ⟨w.heap.size, 1, none⟩ = some (.int .i64 (n : Int)) ∧ y.cell? ⟨w.heap.size, 2, none⟩ = some (.slice sa slots.length sc) ∧ y.cell? ⟨w.heap.size, 3, none⟩ = some (.slice (some ⟨pb, po, none⟩) parts.length pc)) ∧ (y.cell? ⟨pb, po + k * 5, none⟩ = some (.slice p.ia p.ins.length p.ic) ∧ y.cell? ⟨pb, po + k * 5 + 1, none⟩ = some (.bool p.e) ∧ y.cell? ⟨pb, po + k * 5 + 2, none⟩ = some (.int .i64 p.cond) ∧ y.cell? ⟨pb, po + k * 5 + 3, none⟩ = some (.int .i64 p.next) ∧ y.cell? ⟨pb, po + k * 5 + 4, none⟩ = some (.int .i64 p.els))) (first | exact ⟨(Q.refl _).drew, CL.out _ (Q.refl _).drew⟩ | go_keep) (first | (go_at_call 27; refine Calls.mono (C1.out _ (by first | assumption | exact (Q.refl _).drew)) ?_; rintro e y4 ⟨⟨g4, rfl, hrd4⟩, t0, t1, t2⟩) | (go_at_call 26; refine Calls.mono (C2.out _ _ (by assumption) (by assumption)) ?_; rintro e y5 ⟨⟨ao5, c5, rfl, hrd5, hnb5⟩, v0, v1, v2⟩)) | fail
              all_goals rename_i hHeld
              all_goals clear hHeld
              have Q5 := hideIt v0
              have R5 := hideIt hrd5
              have HNB : Hid (∀ g', ao5 = some ⟨g', 0, none⟩ → ∀ j, j < parts.length → g' ≠ h j) := fun g' e j hj q => by
                have h1 := hnb5 g' (by rw [e]; rfl)
                have h2 := ((HM.out.1.inn j hj).lt (h j) rfl).2
                omega
              have HI5 := hideIt (HM.out.1.keep v0)
              have HS5 : Hid (∀ Y, Q X Y → Y.cell? ⟨w.heap.size, 1, none⟩ = some (.int .i64 (n : Int))) := fun Y q => (FB.out Y q).2.1
              clear hrd4 t0 t1 t2 hrd5 hnb5 v0 v1 v2 x0 x1 x2 x3 a0 a1 a2 a3 a4 C1 C2 CL SC
              go_wp2_with (fail)
              go_loopg [6, 9] (n + 1) (fun kx mv rv z' => ∃ (r : Nat) (more' : Bool), mv = .bool more' ∧ rv = .int .i64 (r : Int) ∧ r ≤ n ∧ n - r + 1 ≤ kx ∧ Hid (more' = (more || newG G1 k St r)) ∧ Hid (IN X z' (.slice (some ⟨g, 0, none⟩) parts.length cap) parts.length n h (midG G1 k St r) ∧ RdB z' (.slice ao5 n c5) n St))
              case atStart => exact ⟨0, more, rfl, rfl, Nat.zero_le _, by omega, hideIt (by simp [newG]), hideIt ⟨by rw [mid_zero]; exact HI5.out, R5.out⟩⟩
              case round =>
                obtain ⟨r, more', rfl, rfl, hr1, hr2, HMO, HR⟩ := hrel
                generalize wr = zC at *
                have s1 := HS5.out zC HR.out.1.q
                by_cases hrl : r < n
                · have hrl2 : (r : Int) < (n : Int) := by omega
                  have cV := HR.out.1.cellV hkl
                  obtain ⟨t1, t2, t3⟩ := HR.out.1.set hkl hrl
                  rw [mid_at] at t1
                  obtain ⟨ao', c', ee, hrd'⟩ := HR.out.2
                  injection ee with e1 e2 e3
                  subst e1
                  subst e3
                  obtain ⟨gs, eao, cs⟩ := hrd' r hrl
                  have HYES : Hid (St r = true → IN X (zC.setCell ⟨h k, r, none⟩ (.bool true)) (.slice (some ⟨g, 0, none⟩) parts.length cap) parts.length n h (midG G1 k St (r + 1)) ∧ RdB (zC.setCell ⟨h k, r, none⟩ (.bool true)) (.slice ao5 n c5) n St) := fun hs => ⟨t3.congr (fun j _ q _ => mid_yes hs j q), HR.out.2.set (fun g' e => HNB.out g' e k hkl)⟩
                  have HNO : Hid ((St r && !G1 k r) = false → IN X zC (.slice (some ⟨g, 0, none⟩) parts.length cap) parts.length n h (midG G1 k St (r + 1)) ∧ RdB zC (.slice ao5 n c5) n St) := fun hs => ⟨HR.out.1.congr (fun j _ q _ => mid_no hs j q), HR.out.2⟩
                  have HNW := hideIt (new_snoc G1 k St r)
                  clear t3 hrd' HR
                  subst eao
                  cases hs : St r with
                  | false =>
                    rw [hs] at cs
                    have H1 := hideIt (HNO.out (by rw [hs]; rfl))
                    have H2 : Hid (more' = (more || newG G1 k St (r + 1))) := by
                      show more' = _
                      rw [HNW.out, hs, HMO.out]
                      simp
                    clear hs HYES HNO HNW
                    go_wp2_with (fail)
                    go_roundg (n - (r + 1) + 1)
                    case measure => omega
                    case rel => exact ⟨r + 1, more', rfl, by first | rfl | go_num, by omega, Nat.le_refl _, H2, H1⟩
                  | true =>
                    rw [hs] at cs
                    cases hg : G1 k r with
                    | true =>
                      rw [hg] at t1
                      have H1 := hideIt (HNO.out (by rw [hs, hg]; rfl))
                      have H2 : Hid (more' = (more || newG G1 k St (r + 1))) := by
                        show more' = _
                        rw [HNW.out, hs, hg, HMO.out]
                        simp
                      clear hs hg HYES HNO HNW
                      go_wp2_with (fail)
                      go_roundg (n - (r + 1) + 1)
                      case measure => omega
                      case rel => exact ⟨r + 1, more', rfl, by first | rfl | go_num, by omega, Nat.le_refl _, H2, H1⟩
                    | false =>
                      rw [hg] at t1
                      have H1 := hideIt (HYES.out hs)
                      have H2 : Hid (true = (more || newG G1 k St (r + 1))) := by
                        show true = _
                        rw [HNW.out, hs, hg]
                        simp
                      clear hs hg HYES HNO HNW
                      go_wp2_with (fail)
                      go_roundg (n - (r + 1) + 1)
                      case measure => omega
                      case rel => exact ⟨r + 1, true, rfl, by first | rfl | go_num, by omega, Nat.le_refl _, H2, H1⟩
                · have hrl2 : ¬ (r : Int) < (n : Int) := by omega
                  obtain rfl : r = n := by omega
                  have HF2 : Hid (IN X zC (.slice (some ⟨g, 0, none⟩) parts.length cap) parts.length r h (midG G1 k St r) ∧ (∀ j q, midG G1 k St r j q = true → liB parts j q = true) ∧ noG parts.length r (midG G1 k St r) ≤ noG parts.length r G ∧ (more' = true → noG parts.length r (midG G1 k St r) < noG parts.length r G) ∧ (more' = false → ∀ j p, k ≤ j → parts[j]? = some p → ∀ q, q < r → stepG parts p j (midG G1 k St r) q = true → midG G1 k St r j q = true)) := by
                    obtain ⟨m1, m2, m3, m4, m5⟩ := HM.out
                    have hss : ∀ q, St q = true → liB parts k q = true := fun q hq => step_sound HP.out m2 q (by rw [HST.out]; exact hq)
                    refine ⟨HR.out.1, fun j q hq => mid_sound m2 hss j q hq, Nat.le_trans (noG_le (fun j q hq => mid_le G1 k St r j q hq)) m3, fun hm => ?_, fun hm => ?_⟩
                    · have hmo := HMO.out
                      rw [hm] at hmo
                      cases hq : newG G1 k St r with
                      | true => exact Nat.lt_of_lt_of_le (noG_lt hkl hq) m3
                      | false =>
                        rw [hq, Bool.or_false] at hmo
                        exact Nat.lt_of_le_of_lt (noG_le (fun j q hq => mid_le G1 k St r j q hq)) (m4 hmo.symm)
                    · have hmo := HMO.out
                      rw [hm] at hmo
                      obtain ⟨h1, h2⟩ := or_f hmo
                      obtain ⟨s1', s2'⟩ := mid_same h2
                      rw [s1']
                      intro j p' hj hp' q hq hst
                      by_cases ej : j = k
                      · subst ej
                        rw [HP.out] at hp'
                        injection hp' with hp'
                        subst hp'
                        exact s2' q hq (by rw [← HST.out]; exact hst)
                      · exact m5 h1 j p' (by omega) hp' q hq hst
                  clear HMO HR
                  go_wp2_with (fail)
                  go_roundg (k + 1)
                  case measure => omega
                  case rel => exact ⟨k, more', midG G1 k St r, rfl, by first | rfl | go_num, by omega, Nat.le_refl _, HF2⟩
            · obtain rfl : m = 0 := by omega
              have c2 : ¬ (0 : Int) ≤ ((0 : Nat) : Int) - 1 := by omega
              have HF3 : Hid (IN X zB (.slice (some ⟨g, 0, none⟩) parts.length cap) parts.length n h G1 ∧ (∀ k r, G1 k r = true → liB parts k r = true) ∧ (more = false → ∀ k p, parts[k]? = some p → ∀ r, r < n → stepG parts p k G1 r = true → G1 k r = true)) := ⟨HM.out.1, HM.out.2.1, fun hm k p hp r hr => HM.out.2.2.2.2 hm k p (Nat.zero_le _) hp r hr⟩
              have hmt : more = true → noG parts.length n G1 < noG parts.length n G := HM.out.2.2.2.1
              cases more with
              | true =>
                have hlt := hmt rfl
                clear hmt HM
                go_wp2_with (fail)
                go_roundg (noG parts.length n G1 + 1)
                case measure => omega
                case rel => exact ⟨true, G1, rfl, fun _ => Nat.le_refl _, HF3⟩
              | false =>
                clear hmt HM
                go_wp2_with (fail)
                go_roundg 0
                case measure => omega
                case rel => exact ⟨false, G1, rfl, (fun e => by cases e), hideIt ⟨HF3.out.1, HF3.out.2.1, fun _ => HF3.out.2.2 trivial⟩⟩
        | false =>
          have EQ : Hid (∀ k, k < parts.length → ∀ r, r < n → G k r = liB parts k r) := fun k hk r hr => by
            refine bool_iff ⟨HG.out.2.1 k r, fun hl => ?_⟩
            exact closed_all (n := n) (fun k p hp r hr hs => HG.out.2.2 rfl k p hp r hr hs) hr ((liB_iff _ _ _).1 hl)
          have HIA := hideIt HG.out.1
          have HRW := hideIt (HIA.out.rws hm0)
          clear hgk HG
          go_wp2_with (fail)
          go_loopg [10, 11] (parts.length + 1) (fun kx v iv z => ∃ i : Nat, iv = .int .i64 (i : Int) ∧ i ≤ parts.length ∧ parts.length - i + 1 ≤ kx ∧ Hid (∃ h2, IN zA z v i n h2 (fun k => behG parts k G)))
          case atStart => exact ⟨0, rfl, Nat.zero_le _, by omega, _, (IN.start zA n).congr (fun k hk => by omega)⟩
          case round =>
            obtain ⟨i, rfl, hi, hik, HI⟩ := hrel
            generalize wr = zB at *
            obtain ⟨h2, HIN⟩ := HI.out
            obtain ⟨x0, x1, x2, x3⟩ := FB.out zB (HIA.out.q.trans HIN.q)
            by_cases hil : i < parts.length
            · have hil2 : (i : Int) < (parts.length : Int) := by omega
              obtain ⟨va, vc, rfl⟩ := own_form HIN.row
              have HH := hideIt HIN
              have CB := hideIt (CBH.out zB i _ G (HIA.out.q.trans HIN.q) hil (HRW.out.keep HIN.q))
              have HM := hideIt (show i + 1 ≤ maxLen by unfold maxLen; omega)
              have HM2 := hideIt (show (i + 1) * 24 ≤ 140737488355328 by omega)
              clear HIN HI
              go_wp2_with (first
                | (go_at_call 27; refine Calls.mono CB.out ?_; rintro e z1 ⟨g2, rfl, ho2, q2⟩; have QZ1 := hideIt q2; have HO1 := hideIt ho2; clear q2 ho2 x0 x1 x2 x3)
                | (at_builtin; refine wpList_append_lies _ rfl _ _ 34 rfl zA.heap.size 44 i0 (.slice none 0 0) 1 24 Tryd.underlying34 HTI.out.1 HTI.out.2.1 HTI.out.2.2.1 HTI.out.2.2.2 rfl (by decide) (.slice va i vc) i (mapS i n h2) rfl ?_ ⟨z1.heap.size, 0, none⟩ 1 1 [slc g2 n] rfl rfl ?_ ?_ (by decide) HM.out HM2.out ?_ (z1.heap.size + 1) ?_ ?_)
                | fail)
              · exact row_q HH.out.row (fun b hb => ((QZ1.out.alloc _).block b (HH.out.row.lt b hb).2))
              · exact World.news_of_block (heap_alloc_new z1 _)
              · intro u hu
                simp at hu
                subst hu
                rfl
              · have h1 := HH.out.q.size
                have h2 := QZ1.out.size
                simp
                omega
              · simp
              · intro g3 cap3 w1 hown hgrow hat hlt'
                have HNI := hideIt (HH.out.app QZ1.out (HO1.out.lt g2 rfl).1 HO1.out hgrow hown hat)
                clear hown hgrow hat hlt'
                go_wp2_with (fail)
                go_roundg (parts.length - (i + 1) + 1)
                case measure => omega
                case rel =>
                  refine ⟨i + 1, by first | rfl | go_num, by omega, Nat.le_refl _, _, HNI.out.congr (fun k _ r _ => ?_)⟩
                  unfold upN
                  split
                  · rename_i e; rw [e]
                  · rfl
            · have hil2 : ¬ (i : Int) < (parts.length : Int) := by omega
              obtain rfl : i = parts.length := by omega
              have HH := hideIt HIN
              obtain ⟨g3, cap3, rfl, -⟩ := HIN.form hm0
              clear HIN HI
              go_wp2_with (fail)
              go_ret2
              refine ⟨g, cap, g3, cap3, rfl, (HRW.out.keep HH.out.q).congr EQ.out, (HH.out.rws hm0).congr (fun k hk r hr => ?_), QX.out.trans (HIA.out.q.trans HH.out.q)⟩
              rw [← beh_out]
              exact beh_congr (fun p hp => (HOK.out p hp).2.2) EQ.out k r hr

end Go.Proofs.YtdiidmmmemmjjaaDoor.Lv
