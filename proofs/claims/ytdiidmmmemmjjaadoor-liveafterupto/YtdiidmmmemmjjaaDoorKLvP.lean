/-
  A new walk, with what all parts read and write (newWalk of live): a contract over the program; the conditions: the function lies in memory, and its registers and parts are some of its own.
-/
import Derived.Test.YtdiidmmmemmjjaaDoorKLvL
import Derived.Test.YtdiidmmmemmjjaaDoorKLvN
import Derived.Test.YtdiidmmmemmjjaaDoorKLvO
namespace Go.Proofs.YtdiidmmmemmjjaaDoor.Lv
open Go.RowKit
set_option linter.unusedVariables false

noncomputable def fromE (es : Es) (n : Nat) (L : List Int) : Es := L.foldl (fun es r => upd es (.fr r.toNat) (es (.fr r.toNat) ++ [((n : Int), 0)])) es
noncomputable def stepE (es : Es) (n : Nat) (p : PP) : Es := lookP (fromE es n (waysP p)) n p
noncomputable def walkE (l : List PP) : Es := l.zipIdx.foldl (fun es x => stepE es x.2 x.1) (fun _ => [])
theorem fromE_snoc (es : Es) (n : Nat) (L : List Int) (r : Int) : fromE es n (L ++ [r]) = upd (fromE es n L) (.fr r.toNat) (fromE es n L (.fr r.toNat) ++ [((n : Int), 0)]) := by simp [fromE]
theorem walkE_snoc (l : List PP) (p : PP) : walkE (l ++ [p]) = stepE (walkE l) l.length p := by simp [walkE, List.zipIdx_append]
theorem Bd.from {es : Es} {n : Nat} (h : Bd es n) (k : Nat) (L : List Int) : Bd (fromE es k L) (n + L.length) := by
  unfold fromE
  induction L generalizing es n with
  | nil => exact h
  | cons r L ih =>
    refine (ih (es := Lv.upd es (.fr r.toNat) (es (.fr r.toNat) ++ [((k : Int), 0)])) (n := n + 1) (fun m => ?_)).mono (by simp; omega)
    by_cases e : m = .fr r.toNat
    · subst e; rw [upd_same]; have := h (.fr r.toNat); simp; omega
    · rw [upd_other _ _ e]; have := h m; omega
theorem ways_le (p : PP) : (waysP p).length ≤ 2 := by
  unfold waysP
  split
  · simp
  · split <;> simp
def wP (p : PP) : Nat := wL p.ins + 3
def wF (l : List PP) : Nat := (l.map wP).sum
theorem Bd.lookP {es : Es} {n : Nat} (h : Bd es n) (k : Nat) (p : PP) : Bd (lookP es k p) (n + wL p.ins + 1) := by
  unfold Lv.lookP
  split
  · exact (h.lookL k _).mono (by omega)
  · exact (h.lookL k _).read _ _
theorem wF_snoc (l : List PP) (p : PP) : wF (l ++ [p]) = wF l + wP p := by simp [wF]
theorem Bd.walk (l : List PP) : Bd (walkE l) (wF l) := by
  have h : ∀ n, Bd (walkE (l.take n)) (wF (l.take n)) := fun n => by
    induction n with
    | zero => intro m; simp [walkE, wF]
    | succ n ih =>
      cases hx : l[n]? with
      | none =>
        have hn : l.length ≤ n := by simpa using hx
        rw [List.take_of_length_le hn] at ih
        rw [List.take_of_length_le (by omega)]
        exact ih
      | some p =>
        rw [take_snoc hx, walkE_snoc, wF_snoc]
        unfold stepE
        refine ((ih.from _ (waysP p)).lookP _ p).mono ?_
        have := ways_le p
        unfold wP
        omega
  have := h l.length
  rwa [List.take_length] at this
theorem wF_take (l : List PP) (i : Nat) (x : PP) (h : l[i]? = some x) : wF (l.take i) + wP x ≤ wF l := by
  induction l generalizing i with
  | nil => simp at h
  | cons y l ih =>
    cases i with
    | zero => simp at h; subst h; simp [wF]
    | succ i =>
      have := ih i (by simpa using h)
      simp [wF] at this ⊢
      omega

/-- A function whose registers and parts are some of its own. -/
structure okF (f : PF) (many words : Nat) : Prop where
  len : f.parts.length = many
  regs : 0 ≤ f.regs ∧ f.regs ≤ 1099511627775 ∧ words = f.regs.toNat / 64 + 1
  part : ∀ p ∈ f.parts, okP words p ∧ ∀ r ∈ waysP p, inM many r
  size : wF f.parts ≤ 1099511627000

set_option maxRecDepth 100000 in
set_option maxHeartbeats 8000000 in
theorem newWalk_any (w : World) (f : PF) (hf : f.ok w) (many words : Nat) (hok : okF f many words) :
    Calls Tryd.prog 22 #[f.v] w fun e w' => ∃ B v, e = .returned (.pointer (some ⟨B.Wk, 0, none⟩)) ∧ WM w' w.heap.size B many words v (walkE f.parts) (List.replicate many 0) ∧ Q w w' := by
  obtain ⟨rn, hrn⟩ : ∃ rn : Nat, f.regs = (rn : Int) := ⟨f.regs.toNat, by have := hok.regs.1; omega⟩
  have hmb : many ≤ 1099511627776 := by
    have h1 := hok.size
    have h2 : ∀ l : List PP, l.length ≤ wF l := fun l => by
      induction l with
      | nil => simp
      | cons p l ih => simp [wF, wP] at ih ⊢; omega
    have := h2 f.parts
    rw [hok.len] at this
    omega
  have hwb : words ≤ 1099511627776 := by have := hok.regs; omega
  have hw : words = rn / 64 + 1 := by have := hok.regs.2.2; rw [hrn, Int.toNat_natCast] at this; exact this
  have HP := hideIt hf
  have HOK := hideIt hok
  have hlen := hok.len
  obtain ⟨X0, hX0⟩ : ∃ X0, w.alloc (.cells #[.int .i64 f.params, .int .i64 f.regs, .slice f.sa f.slots.length f.sc, .slice f.pa f.parts.length f.pc] 39) = X0 := ⟨_, rfl⟩
  have q0 : Q w X0 := by rw [← hX0]; exact (Q.refl w).alloc _
  have bx : X0.heap[w.heap.size]? = some (.cells #[.int .i64 f.params, .int .i64 f.regs, .slice f.sa f.slots.length f.sc, .slice f.pa f.parts.length f.pc] 39 (0, 0)) := by rw [← hX0]; exact heap_alloc_new w _
  rw [hrn] at bx
  have b1 : X0.cell? ⟨w.heap.size, 1, none⟩ = some (.int .i64 (rn : Int)) := (cell_of_block bx 1).trans rfl
  have b3 : X0.cell? ⟨w.heap.size, 3, none⟩ = some (.slice f.pa f.parts.length f.pc) := (cell_of_block bx 3).trans rfl
  have HX0 := hideIt hX0
  have HBX := hideIt bx
  have HQ0 := hideIt q0
  have HW := hideIt hw
  have PL := hideIt (fun w => place_any w rn)
  have hrb : rn / 64 ≤ 1099511627775 := by omega
  clear hf hok q0 bx hX0 hw hrn
  rcases f with ⟨params, regs, slots, parts, sa, sc, pa, pc⟩
  dsimp only [PF.v] at *
  subst hlen
  go_enter Tryd.func22, Tryd.ntmps22
  go_wp2_with (fail)
  rw [show w.alloc (.cells #[.int .i64 params, .int .i64 regs, .slice sa slots.length sc, .slice pa parts.length pc] 39) = X0 from HX0.out]
  generalize rn / 64 = rq at *
  go_quiet (first | (go_at_call 42; exact Calls.quiet_of_same (PL.out _)))
  go_wp2_with (fail)
  generalize hX1 : X0.drewN nq = X1 at *
  have HQX : Hid (Q X0 X1) := by show Q X0 X1; rw [← hX1]; exact (Q.refl X0).drewN _
  have HQ1 : Hid (Q w X1) := HQ0.out.trans HQX.out
  have ew : ((rq : Int) + 1) = (words : Int) := by have := HW.out; omega
  rw [ew]
  clear ew PL hrb b1 b3 hX1
  have BX1 := hideIt (heap_keep (show Q X0 X1 from HQX.out) HBX.out)
  apply makes parts.length words hmb hwb
  · intro c a d v w h
    cases d <;> exact h
  intro b18 b20 b22 b24 b26 b28 w' hM
  dsimp only
  have HM0 := hideIt (WM.new (w0 := w) (w1 := X1.drew) HQ1.out.drew.size hM)
  have HB2 := hideIt (heap_keep (((Q.refl X1).drew.trans hM.q).alloc (.cells #[.slice (some ⟨b18, 0, none⟩) parts.length parts.length, .slice (some ⟨b20, 0, none⟩) words words, .slice (some ⟨b22, 0, none⟩) words words, .slice (some ⟨b24, 0, none⟩) parts.length parts.length, .slice (some ⟨b26, 0, none⟩) parts.length parts.length, .slice (some ⟨b28, 0, none⟩) parts.length parts.length, .slice none 0 0] 67)) BX1.out)
  have HQ2 : Hid (Q w (w'.alloc (.cells #[.slice (some ⟨b18, 0, none⟩) parts.length parts.length, .slice (some ⟨b20, 0, none⟩) words words, .slice (some ⟨b22, 0, none⟩) words words, .slice (some ⟨b24, 0, none⟩) parts.length parts.length, .slice (some ⟨b26, 0, none⟩) parts.length parts.length, .slice (some ⟨b28, 0, none⟩) parts.length parts.length, .slice none 0 0] 67))) := (HQ1.out.drew.trans hM.q).alloc _
  clear hM BX1
  generalize w'.alloc (.cells #[.slice (some ⟨b18, 0, none⟩) parts.length parts.length, .slice (some ⟨b20, 0, none⟩) words words, .slice (some ⟨b22, 0, none⟩) words words, .slice (some ⟨b24, 0, none⟩) parts.length parts.length, .slice (some ⟨b26, 0, none⟩) parts.length parts.length, .slice (some ⟨b28, 0, none⟩) parts.length parts.length, .slice none 0 0] 67) = X2 at *
  generalize hBB : (⟨b18, b20, b22, b24, b26, b28, w'.heap.size⟩ : Bl) = B at *
  have hWk : w'.heap.size = B.Wk := by rw [← hBB]
  rw [hWk]
  clear hBB hWk
  have c3 : X2.cell? ⟨w.heap.size, 3, none⟩ = some (.slice pa parts.length pc) := (cell_of_block HB2.out 3).trans rfl
  go_wp2_with (fail)
  have H0 : Hid ((∃ v, WM X2 w.heap.size B parts.length words v (walkE (parts.take 0)) (List.replicate parts.length 0)) ∧ Q w X2) := ⟨⟨_, HM0.out⟩, HQ2.out⟩
  have hpl : parts.length ≤ 9223372036854775807 := by omega
  clear c3 HM0 HQ2 HB2 HBX HX0 HQ1 HQX HQ0 HW
  generalize hwo : List.replicate parts.length (0 : Int) = wo at *
  have HWO := hideIt hwo
  clear hwo
  go_loopw [34] (fun iv z => ∃ i : Nat, iv = .int .i64 (i : Int) ∧ i ≤ parts.length ∧ Hid ((∃ v, WM z w.heap.size B parts.length words v (walkE (parts.take i)) wo) ∧ Q w z)) (fun iv _ => parts.length - (intOf iv).toNat)
  case atStart => exact ⟨0, rfl, Nat.zero_le _, H0.out⟩
  case round =>
    obtain ⟨i, rfl, hi, HI⟩ := hrel
    generalize wr = z at *
    clear H0
    by_cases hlt : i < parts.length
    · obtain ⟨x, hx⟩ := get_of_lt hlt
      have hxm := List.mem_of_getElem? hx
      obtain ⟨⟨v1, m1⟩, q1⟩ := HI.out
      obtain ⟨bb, oo, ea, hat, hxo⟩ := (HP.out.keep q1).parts i x hx
      obtain ⟨-, -, -, -, hxw⟩ := HP.out.parts i x hx
      dsimp only at ea
      obtain ⟨d0, d1, d2, d3, d4⟩ := hat.five
      obtain ⟨Z1, hZ1⟩ : ∃ Z1, z.alloc (.cells #[.slice x.ia x.ins.length x.ic, .bool x.e, .int .i64 x.cond, .int .i64 x.next, .int .i64 x.els] 49) = Z1 := ⟨_, rfl⟩
      have qz : Q z Z1 := by rw [← hZ1]; exact (Q.refl z).alloc _
      have CU : Hid (Calls Tryd.prog 43 #[x.v] (z.alloc (.cells #[.slice x.ia x.ins.length x.ic, .bool x.e, .int .i64 x.cond, .int .i64 x.next, .int .i64 x.els] 49)) fun e w' => GotF (waysP x) Z1 e w') := by
        rw [hZ1]
        exact ways_any x Z1 (hxo.keep qz)
      have HBZ : Hid (Z1.heap[z.heap.size]? = some (.cells #[.slice x.ia x.ins.length x.ic, .bool x.e, .int .i64 x.cond, .int .i64 x.next, .int .i64 x.els] 49 (0, 0))) := by show Z1.heap[z.heap.size]? = _; rw [← hZ1]; exact heap_alloc_new z _
      have hib : (i : Int) < (parts.length : Int) := by omega
      have HPO := hideIt (HOK.out.part x hxm)
      have HXW := hideIt hxw
      have HM1 := hideIt m1
      have HQ1 := hideIt q1
      have HQZ := hideIt qz
      have HN1 : Hid (Bd (walkE (parts.take i)) (wF (parts.take i)) ∧ wF (parts.take i) + wP x ≤ 1099511627000) := ⟨Bd.walk _, Nat.le_trans (wF_take parts i x hx) HOK.out.size⟩
      have HT : Hid (walkE (parts.take (i + 1)) = lookP (fromE (walkE (parts.take i)) i (waysP x)) i x) := by
        show walkE (parts.take (i + 1)) = _
        rw [take_snoc hx, walkE_snoc, List.length_take_of_le (by omega)]
        rfl
      subst ea
      clear hx hxm m1 q1 hat hxo hxw HI hZ1 qz
      go_wp2_with (first | (go_at_call 43; refine CU.out.mono ?_; rintro e y ⟨ao, c, rfl, hi, hq, hf⟩; have HII := hideIt hi; have HQ := hideIt hq; have HFF := hideIt hf; clear hi hq hf) | fail)
      clear d0 d1 d2 d3 d4 CU
      have hul : (waysP x).length ≤ 9223372036854775807 := by have := ways_le x; omega
      have YF : Hid (Fre B parts.length words v1 z.heap.size ∧ (∀ b o, ao = some ⟨b, o, none⟩ → Fre B parts.length words v1 b) ∧ Q z y) := ⟨HM1.out.fre (Nat.le_refl _), fun b o e => HM1.out.fre (Nat.le_trans HQZ.out.size (HFF.out b o e)), HQZ.out.trans HQ.out⟩
      have YA := hideIt (heap_keep HQ.out HBZ.out)
      have N0 : Hid ((∃ v', WM y w.heap.size B parts.length words v' (fromE (walkE (parts.take i)) i ((waysP x).take 0)) wo ∧ Kp B parts.length words y v1 y v') ∧ Q w y) := ⟨⟨v1, HM1.out.q YF.out.2.2, Kp.refl⟩, HQ1.out.trans YF.out.2.2⟩
      clear HQZ HBZ HFF HQ
      go_loopw [42] (fun jv z => ∃ j : Nat, jv = .int .i64 (j : Int) ∧ j ≤ (waysP x).length ∧ Hid ((∃ v', WM z w.heap.size B parts.length words v' (fromE (walkE (parts.take i)) i ((waysP x).take j)) wo ∧ Kp B parts.length words y v1 z v') ∧ Q w z)) (fun iv _ => (waysP x).length - (intOf iv).toNat)
      case atStart => exact ⟨0, rfl, Nat.zero_le _, N0.out⟩
      case round =>
        obtain ⟨j, rfl, hj, HJ⟩ := hrel
        generalize wr = y2 at *
        clear N0
        by_cases hlt2 : j < (waysP x).length
        · obtain ⟨r, hr⟩ := get_of_lt hlt2
          obtain ⟨r0, r1⟩ := HPO.out.2 r (List.mem_of_getElem? hr)
          obtain ⟨⟨v2, m2, k2⟩, q2⟩ := HJ.out
          obtain ⟨gb, go, ea, hc, -⟩ := HII.out j r hr
          have cu : y2.cell? ⟨gb, go + j, none⟩ = some (.int .i64 r) := by
            have := k2.cell hc (YF.out.2.1 gb go ea)
            rwa [Nat.mul_one] at this
          obtain ⟨rk, hrk⟩ : ∃ rk : Nat, r = (rk : Int) := ⟨r.toNat, by omega⟩
          have hjb : (j : Int) < ((waysP x).length : Int) := by omega
          have hkn : rk < parts.length := by omega
          have hkm : (rk : Int) < (parts.length : Int) := by omega
          obtain ⟨E2, hE2⟩ : ∃ E2, fromE (walkE (parts.take i)) i ((waysP x).take j) = E2 := ⟨_, rfl⟩
          have hEn : fromE (walkE (parts.take i)) i ((waysP x).take (j + 1)) = upd E2 (.fr rk) (E2 (.fr rk) ++ [((i : Int), 0)]) := by rw [take_snoc hr, fromE_snoc, hrk, Int.toNat_natCast, hE2]
          have hlen2 : (E2 (.fr rk)).length ≤ 1099511627002 := by
            have hbd := HN1.out.1.from i ((waysP x).take j)
            have hsz := HN1.out.2
            have hwl := ways_le x
            have h1 := hbd (.fr rk)
            rw [hE2] at h1
            have h2 : ((waysP x).take j).length ≤ 2 := by simp; omega
            omega
          rw [hE2] at m2
          obtain ⟨va, vc, ev⟩ := own_form (m2.fm.row (.fr rk) hkn)
          have c0 := m2.c0
          have cF : y2.cell? ⟨B.F, rk, none⟩ = some (.slice va (E2 (.fr rk)).length vc) := by have := (m2.fm.head (.fr rk) hkn).1; rw [ev] at this; exact this
          have AF := hideIt (fr_facts m2 q2.size (i : Int))
          have AR : Hid (∀ X : World, X.heap = (y2.alloc (.cells #[.int .i64 (i : Int)] 3)).heap → X.os = y2.os → X.tape = y2.tape → X.output = y2.output → X.ownsRow w.heap.size 3 1 (.slice va (E2 (.fr rk)).length vc) (E2 (.fr rk)).length (rowN (.fr rk) (E2 (.fr rk)))) := fun X x0 x1 x2 x3 => by
            have := (AF.out X x0 x1 x2 x3).1.fm.row (.fr rk) hkn
            rw [ev] at this
            exact this
          have NX : Hid (∀ (X w1 : World) (g cap : Nat), X.grownBy w1 (Value.slice va (E2 (.fr rk)).length vc).ownBlock → X.heap = (y2.alloc (.cells #[.int .i64 (i : Int)] 3)).heap → X.os = y2.os → X.tape = y2.tape → X.output = y2.output → w1.ownsRow w.heap.size 3 1 (.slice (some ⟨g, 0, none⟩) ((E2 (.fr rk)).length + 1) cap) ((E2 (.fr rk)).length + 1) (rowN (.fr rk) (E2 (.fr rk)) ++ [.int .i64 (i : Int)]) → ((Value.slice va (E2 (.fr rk)).length vc).ownBlock = some g ∨ g = y2.heap.size + 1) → w1.cell? ⟨B.F, rk, none⟩ = some (.slice va (E2 (.fr rk)).length vc) ∧ w1.frozen? ⟨B.F, rk, none⟩ = false ∧ w1.cell? ⟨B.Wk, 0, none⟩ = some (.slice (some ⟨B.F, 0, none⟩) parts.length parts.length) ∧ (∃ v', WM (w1.setCell ⟨B.F, rk, none⟩ (.slice (some ⟨g, 0, none⟩) ((E2 (.fr rk)).length + 1) cap)) w.heap.size B parts.length words v' (fromE (walkE (parts.take i)) i ((waysP x).take (j + 1))) wo ∧ Kp B parts.length words y v1 (w1.setCell ⟨B.F, rk, none⟩ (.slice (some ⟨g, 0, none⟩) ((E2 (.fr rk)).length + 1) cap)) v') ∧ Q w (w1.setCell ⟨B.F, rk, none⟩ (.slice (some ⟨g, 0, none⟩) ((E2 (.fr rk)).length + 1) cap))) := fun X w1 g cap hg x0 x1 x2 x3 hown hat => by
            obtain ⟨f1, f2, -, f4, f5⟩ := AF.out X x0 x1 x2 x3
            obtain ⟨a1, a2, a3, ⟨v', a4, a5⟩, a6⟩ := f1.fapp f4 f2 f2.size rk hkn q2.size ev hown hg (by rw [f5]; exact hat)
            refine ⟨a1, a2, a3, ⟨v', ?_, k2.trans a5⟩, Below.trans q2 a6⟩
            rw [hEn]
            exact a4
          have HM := hideIt (show (E2 (.fr rk)).length + 1 ≤ maxLen by unfold maxLen; omega)
          have HM2 := hideIt (show ((E2 (.fr rk)).length + 1) * 8 ≤ 140737488355328 by omega)
          obtain ⟨i0, ti, tz0, tz1, tz2⟩ := info_int
          have HTI := hideIt (And.intro ti (And.intro tz0 (And.intro tz1 tz2)))
          have c0' := fun ob => cell_keep ((Q.refl y2).alloc ob) c0
          have cF' := fun ob => cell_keep ((Q.refl y2).alloc ob) cF
          rw [hrk] at cu
          subst ea
          clear hr r0 r1 m2 k2 q2 hc hrk hE2 hEn ev ti tz0 tz1 tz2
          generalize E2 (.fr rk) = ll at *
          go_wp2_with (fail)
          go_region_law (refine step_append_lies _ (by rfl) _ _ 22 (by rfl) w.heap.size 3 i0 (.int .i64 0) 1 8 Tryd.underlying22 HTI.out.1 HTI.out.2.1 HTI.out.2.2.1 HTI.out.2.2.2 rfl (by decide) (.slice va ll.length vc) ll.length (rowN (.fr rk) ll) (by rfl) (AR.out _ rfl rfl rfl rfl) ⟨y2.heap.size, 0, none⟩ 1 1 [.int .i64 (i : Int)] (by rfl) rfl (AF.out _ rfl rfl rfl rfl).2.2.1 (fun u hu => by simp at hu; subst hu; rfl) (by decide) HM.out HM2.out (AF.out _ rfl rfl rfl rfl).2.2.2.1 (y2.heap.size + 1) (AF.out _ rfl rfl rfl rfl).2.2.2.2 ?_; intro g cap w1 hown hgrow hat hlt; obtain ⟨t1, t2, t3, t4, t5⟩ := NX.out _ w1 g cap hgrow rfl rfl rfl rfl hown hat; have H3 := hideIt t4; have H4 := hideIt t5; clear hown hgrow hat t4 t5)
          all_goals go_wp2_with (fail)
          all_goals exact ⟨⟨j + 1, by go_num, by omega, H3.out, H4.out⟩, by simp [intOf]; omega⟩
        · have hjb : ¬ (j : Int) < ((waysP x).length : Int) := by omega
          have ej : j = (waysP x).length := by omega
          have M2 : Hid ((∃ v', WM y2 w.heap.size B parts.length words v' (fromE (walkE (parts.take i)) i (waysP x)) wo ∧ Kp B parts.length words y v1 y2 v') ∧ Q w y2) := by
            have := HJ.out
            rw [ej, List.take_length] at this
            exact this
          clear HJ ej HII
          obtain ⟨⟨v2, m2, k2⟩, q2⟩ := M2.out
          have bz := k2.keep YA.out YF.out.1
          have e0 : y2.cell? ⟨z.heap.size, 0, none⟩ = some (.slice x.ia x.ins.length x.ic) := (cell_of_block bz 0).trans rfl
          have e1 : y2.cell? ⟨z.heap.size, 1, none⟩ = some (.bool x.e) := (cell_of_block bz 1).trans rfl
          have e2 : y2.cell? ⟨z.heap.size, 2, none⟩ = some (.int .i64 x.cond) := (cell_of_block bz 2).trans rfl
          have e3 : y2.cell? ⟨z.heap.size, 3, none⟩ = some (.int .i64 x.next) := (cell_of_block bz 3).trans rfl
          have e4 : y2.cell? ⟨z.heap.size, 4, none⟩ = some (.int .i64 x.els) := (cell_of_block bz 4).trans rfl
          have LK : Hid (Calls Tryd.prog 44 #[.pointer (some ⟨B.Wk, 0, none⟩), .int .i64 (i : Int), x.v] y2 fun e w' => e = .returned (.tuple #[]) ∧ (∃ v', WM w' w.heap.size B parts.length words v' (walkE (parts.take (i + 1))) wo) ∧ Q w w') := by
            have hbd := HN1.out.1.from i (waysP x)
            have hsz := HN1.out.2
            have hwl := ways_le x
            unfold wP at hsz
            refine (look_any w y2 B parts.length words v2 _ wo m2 q2 i x HXW.out HPO.out.1 _ hbd (by omega)).mono ?_
            rintro e y3 ⟨rfl, ⟨v3, h1, h2⟩, h3⟩
            refine ⟨rfl, ⟨v3, ?_⟩, h3⟩
            rw [HT.out]
            exact h1
          clear m2 k2 q2 bz
          go_wp2_with (first | (go_at_call 44; refine LK.out.mono ?_; rintro e y3 ⟨rfl, hy, qy⟩; have HY := hideIt hy; have QY := hideIt qy; clear hy qy) | fail)
          exact ⟨⟨i + 1, by go_num, by omega, HY.out, QY.out⟩, by simp [intOf]; omega⟩
    · have hib : ¬ (i : Int) < (parts.length : Int) := by omega
      have ei : i = parts.length := by omega
      have M1 : Hid ((∃ v, WM z w.heap.size B parts.length words v (walkE parts) wo) ∧ Q w z) := by
        have := HI.out
        rw [ei, List.take_length] at this
        exact this
      clear HI ei
      go_wp2_with (fail)
      go_ret
      obtain ⟨⟨v1, m1⟩, q1⟩ := M1.out
      rw [← HWO.out] at m1
      first | exact ⟨B, v1, rfl, m1, q1⟩ | exact ⟨B, rfl, ⟨v1, m1⟩, q1⟩

end Go.Proofs.YtdiidmmmemmjjaaDoor.Lv
