/-
  The instructions of a part are folded where they lie (fold of fold), the walk: a contract over the program; the conditions: what is known and the instructions lie in memory.
-/
import Derived.Test.YtaomkfhbnakbjaaKFoE
import Derived.Test.YtaomkfhbnakbjaaKNuPlainE
namespace Go.Proofs.Ytaomkfhbnakbjaa.Fo
open Go.RowKit
set_option linter.unusedVariables false

theorem foldL_drop {fault : Bool} {F : KF} {l : List PI} {i : Nat} {x : PI} (h : l[i]? = some x) : foldL fault F (l.drop i) = foldI fault F x :: foldL fault (learn F (foldI fault F x)) (l.drop (i + 1)) := by
  obtain ⟨hl, e⟩ := List.getElem?_eq_some_iff.1 h
  rw [List.drop_eq_getElem_cons hl, e]
  rfl
theorem mid_get {α : Type} {P l : List α} {i : Nat} {x : α} (hP : P.length = i) (h : l[i]? = some x) : (P ++ l.drop i)[i]? = some x := by
  rw [List.getElem?_append_right (by omega), hP, Nat.sub_self, List.getElem?_drop, Nat.add_zero]; exact h
theorem mid_set {α : Type} {P l : List α} {i : Nat} {x y : α} (hP : P.length = i) (h : l[i]? = some x) : (P ++ l.drop i).set i y = P ++ [y] ++ l.drop (i + 1) := by
  obtain ⟨hl, e⟩ := List.getElem?_eq_some_iff.1 h
  have hd : l.drop i = x :: l.drop (i + 1) := by rw [List.drop_eq_getElem_cons hl, e]
  rw [hd, List.set_append_right _ _ (by omega), hP, Nat.sub_self, List.set_cons_zero]
  simp
theorem mid_same {α : Type} {P l : List α} {i : Nat} {x : α} (h : l[i]? = some x) : P ++ l.drop i = P ++ [x] ++ l.drop (i + 1) := by
  obtain ⟨hl, e⟩ := List.getElem?_eq_some_iff.1 h
  rw [List.drop_eq_getElem_cons hl, e]
  simp

/-- What holds while a part is folded: i instructions are. -/
structure FW (lo : Nat) (w wr : World) (g kb M : Nat) (fault : Bool) (l : List PI) (i : Nat) (P : List PI) (F : KF) : Prop where
  len : P.length = i
  eq : foldL fault (fun _ => none) l = P ++ foldL fault F (l.drop i)
  il : IL lo wr g (P ++ l.drop i)
  kn : KN wr kb M i fault F
  fs : Fs (fun b => b = g ∨ b = M) w wr

theorem cst_ok {lo : Nat} {W0 : World} {x : PI} (h : x.ok W0) {v : Int} (hv : I64 v) (W : World) : (cst x v).ok W ∧ NB lo W (cst x v).aa (cst x v).args.length :=
  ⟨⟨by simp [cst], by simp [cst], h.dst, by simp [cst, I64], by simp [cst, I64], hv, sok_none _, Lst.nil⟩, Or.inl rfl⟩
/-- One more, as it was. -/
theorem FW.same {lo : Nat} {w wr y z : World} {g kb M : Nat} {fault : Bool} {l : List PI} {i : Nat} {P : List PI} {F : KF} (h : FW lo w wr g kb M fault l i P F) {x : PI} (hx : l[i]? = some x) (hr : reckP fault F x = none) (hq : Q wr y) (hk : KN z kb M (i + 1) fault (learn F x)) (hf : FrX M y z) : FW lo w z g kb M fault l (i + 1) (P ++ [x]) (learn F x) := by
  have hfi : foldI fault F x = x := by unfold foldI; rw [hr]
  have e1 := h.eq
  rw [foldL_drop hx, hfi] at e1
  obtain ⟨cs, t, hb⟩ := h.il.blk
  have hgM : g ≠ M := h.kn.map.notc hb
  have hgl := (Array.getElem?_eq_some_iff.1 hb).1
  have hil : IL lo z g (P ++ l.drop i) := by
    have hs : wr.heap.size ≤ z.heap.size := Nat.le_trans hq.size hf.size
    refine h.il.ne hs ((hf.block g (Nat.lt_of_lt_of_le hgl hq.size) hgM).trans (hq.block g hgl)) (fun b u hu hbl => ?_)
    have hbM : b ≠ M := fun e => by
      obtain ⟨D, ⟨es, c, h1, -⟩, -⟩ := h.kn.map
      rw [e] at hu
      simp [World.cell?, h1] at hu
    exact (hf.block b (Nat.lt_of_lt_of_le hbl hq.size) hbM).trans (hq.block b hbl)
  rw [mid_same hx] at hil
  refine ⟨by simp [h.len], by rw [e1]; simp, hil, hk, h.fs.trans ((Fs.of_q hq).trans (Fs.of_frx hf (Or.inr rfl)))⟩
/-- One more, reckoned. -/
theorem FW.next {lo : Nat} {w wr y : World} {g kb M : Nat} {fault : Bool} {l : List PI} {i : Nat} {P : List PI} {F : KF} (h : FW lo w wr g kb M fault l i P F) {x : PI} (hx : l[i]? = some x) {v : Int} (hr : reckP fault F x = some v) (hv : I64 v) (hq : Q wr y) :
    IL lo (put7 y g (i * 7) (.int .u8 20) (.int .u8 0) (.int .i64 x.dst) (.int .i64 0) (.int .i64 0) (.int .i64 v) (.slice none 0 0)) g (P ++ [cst x v] ++ l.drop (i + 1)) ∧ KN (put7 y g (i * 7) (.int .u8 20) (.int .u8 0) (.int .i64 x.dst) (.int .i64 0) (.int .i64 0) (.int .i64 v) (.slice none 0 0)) kb M i fault F ∧
    ∀ z, KN z kb M (i + 1) fault (learn F (cst x v)) → FrX M (put7 y g (i * 7) (.int .u8 20) (.int .u8 0) (.int .i64 x.dst) (.int .i64 0) (.int .i64 0) (.int .i64 v) (.slice none 0 0)) z → FW lo w z g kb M fault l (i + 1) (P ++ [cst x v]) (learn F (cst x v)) := by
  have hfi : foldI fault F x = cst x v := by unfold foldI; rw [hr]
  have e1 := h.eq
  rw [foldL_drop hx, hfi] at e1
  have hm := mid_get (P := P) h.len hx
  obtain ⟨cs, t, hb⟩ := h.il.blk
  have hgM : g ≠ M := h.kn.map.notc hb
  have hgl := (Array.getElem?_eq_some_iff.1 hb).1
  have ily : IL lo y g (P ++ l.drop i) := h.il.ne hq.size (hq.block g hgl) (fun b u hu hbl => hq.block b hbl)
  have hxo := (ily.at' i x hm).2.1
  have ilp := ily.put hm (y := cst x v) (fun W' => cst_ok hxo hv W')
  rw [mid_set h.len hx] at ilp
  have kny := h.kn.q hq
  obtain ⟨u0, hu0⟩ := ily.first hm
  have hkg : kb ≠ g := fun e => by
    have := cell_of_block kny.blk 0
    rw [e, hu0] at this
    simp at this
  refine ⟨ilp, kny.keep (put7_other _ _ _ _ _ _ _ _ _ _ _ hkg) (put7_other _ _ _ _ _ _ _ _ _ _ _ (Ne.symm hgM)), fun z hk hf => ?_⟩
  obtain ⟨cs', t', hb'⟩ := ilp.blk
  have hgl' := (Array.getElem?_eq_some_iff.1 hb').1
  have ilz := ilp.ne hf.size (hf.block g hgl' hgM) (fun b u hu hbl => hf.block b hbl (fun e => by
    have km := (kny.keep (put7_other y g (i * 7) (.int .u8 20) (.int .u8 0) (.int .i64 x.dst) (.int .i64 0) (.int .i64 0) (.int .i64 v) (.slice none 0 0) kb hkg) (put7_other y g (i * 7) (.int .u8 20) (.int .u8 0) (.int .i64 x.dst) (.int .i64 0) (.int .i64 0) (.int .i64 v) (.slice none 0 0) M (Ne.symm hgM))).map
    obtain ⟨D, ⟨es, c, h1, -⟩, -⟩ := km
    rw [e] at hu
    have h1' : (put7 y g (i * 7) (.int .u8 20) (.int .u8 0) (.int .i64 x.dst) (.int .i64 0) (.int .i64 0) (.int .i64 v) (.slice none 0 0)).heap[M]? = some (.map es c) := h1
    unfold World.cell? at hu
    dsimp only [cst, List.length_nil] at hu
    rw [h1'] at hu
    cases hu))
  refine ⟨by simp [h.len], by rw [e1]; simp, ilz, hk, h.fs.trans ((Fs.of_q hq).trans (Fs.trans (Fs.set (Fs.set (Fs.set (Fs.set (Fs.set (Fs.set (Fs.set (Fs.refl _ y) (Or.inl (Or.inl rfl)) _) (Or.inl (Or.inl rfl)) _) (Or.inl (Or.inl rfl)) _) (Or.inl (Or.inl rfl)) _) (Or.inl (Or.inl rfl)) _) (Or.inl (Or.inl rfl)) _) (Or.inl (Or.inl rfl)) _) (Fs.of_frx hf (Or.inr rfl))))⟩

def All64 (F : KF) : Prop := ∀ a u, F a = some u → I64 u
theorem wr64 (t v : Int) : I64 (Burin.wr t v) := by have := Burin.wr_bd t v; unfold I64; omega
theorem do64 (op t a b : Int) (ht : 0 ≤ t) (h : Burin.do2 op t a b = 0) : I64 (Burin.do1 op t a b) := by
  by_cases ho : op < 11
  · have := Burin.wr_of_fit _ _ (Burin.do_fit op t a b ht h ho)
    rw [← this]; exact wr64 _ _
  · rcases Burin.do_cmp op t a b (by omega) with e | e <;> (rw [e]; unfold I64; omega)
theorem un64 (k t a : Int) : I64 (Burin.un1 k t a) := by
  unfold Burin.un1 Burin.keep1 Burin.tr
  have h1 := Burin.wr_bd t (-Burin.wr t a)
  have h2 := Burin.wr_bd t (-1 - Burin.wr t a)
  unfold I64
  (repeat' split) <;> omega
theorem reck64 {fault : Bool} {F : KF} (hF : All64 F) {x : PI} (ht : 0 ≤ x.ty) {v : Int} (h : reckP fault F x = some v) : I64 v := by
  unfold reckP at h
  cases ha : F x.a with
  | none => rw [ha] at h; cases h
  | some a =>
    rw [ha] at h
    dsimp only at h
    have hun : ∀ k, un k x a = some v → I64 v := fun k hk => by
      unfold un at hk
      split at hk
      · injection hk with hk; rw [← hk]; exact un64 _ _ _
      · cases hk
    split at h
    · injection h with h; subst h; exact hF _ _ ha
    · split at h
      · exact hun _ h
      · split at h
        · exact hun _ h
        · split at h
          · exact hun _ h
          · split at h
            · injection h with h; rw [← h]; exact wr64 _ _
            · cases hb : F x.b with
              | none => rw [hb] at h; cases h
              | some b =>
                rw [hb] at h
                dsimp only at h
                split at h
                · cases h
                · unfold two at h
                  split at h
                  · rename_i hd
                    injection h with h
                    rw [← h]
                    split
                    · exact wr64 _ _
                    · exact do64 _ _ _ _ ht hd
                  · cases h
theorem learn64 {F : KF} (hF : All64 F) {y : PI} (hy : I64 y.imm) : All64 (learn F y) := fun a u h => by
  unfold learn at h
  split at h
  · unfold updK at h
    split at h
    · injection h with h; rw [← h]; exact hy
    · exact hF a u h
  · split at h
    · unfold updK at h
      split at h
      · cases h
      · exact hF a u h
    · exact hF a u h

set_option maxRecDepth 100000 in
set_option maxHeartbeats 2000000 in
theorem fold_any (w : World) (lo g kb M : Nat) (fault : Bool) (l : List PI) (cp : Nat) (hl : l.length ≤ 2199023255552) (hil : IL lo w g l) (hk : KN w kb M 0 fault (fun _ => none)) :
    Calls Try.prog 38 #[.pointer (some ⟨kb, 0, none⟩), .slice (some ⟨g, 0, none⟩) l.length cp] w fun e w' => e = .returned (.tuple #[]) ∧ IL lo w' g (foldL fault (fun _ => none) l) ∧ Fs (fun b => b = g ∨ b = M) w w' := by
  have H0 : Hid (FW lo w w g kb M fault l 0 [] (fun _ => none)) := ⟨rfl, by simp, by simpa using hil, hk, Fs.refl _ _⟩
  have A0 : Hid (All64 (fun _ => none)) := fun a u h => by cases h
  clear hil hk
  go_enter Try.func38, Try.ntmps38
  go_wp2_with (fail)
  go_loopw [10] (fun o wr => ∃ (i : Nat) (P : List PI) (F : KF), o = .int .i64 i ∧ i ≤ l.length ∧ Hid (FW lo w wr g kb M fault l i P F) ∧ Hid (All64 F)) (fun o _ => l.length - (intOf o).toNat)
  case atStart => exact ⟨0, [], _, rfl, Nat.zero_le _, H0, A0⟩
  case round =>
    obtain ⟨i, P, F, rfl, hi, HW, HA⟩ := hrel
    generalize wr = w1 at *
    clear H0 A0
    by_cases hic : i < l.length
    · obtain ⟨x, hx⟩ := get_of_lt hic
      obtain ⟨hat, hxo, -⟩ := HW.out.il.at' i x (mid_get HW.out.len hx)
      have RA := hideIt (reckon_any w1 kb M i fault F HW.out.kn g (i * 7) x hat hxo)
      have HX := hideIt hx
      have HXO := hideIt hxo
      have HAT := hideIt hat
      have k1 : (i : Int) < (l.length : Int) := by omega
      have HM : Hid (i < maxLen) := by show i < maxLen; unfold maxLen; omega
      clear hx hat hxo
      cases hr : reckP fault F x with
      | none =>
        rw [hr] at RA
        have LN := hideIt (fun (y : World) (hy : Q w1 y) => learn_any y kb M i fault F (HW.out.kn.q hy) HM.out g (i * 7) x (HAT.out.keep hy) (HXO.out.keep hy))
        have HR := hideIt hr
        clear hr
        go_wp2_with (first | (go_at_call 69; refine RA.out.mono ?_; rintro e y ⟨v, rfl, -, q⟩; have HY := hideIt q; clear q) | (go_at_call 70; refine Calls.mono (LN.out _ HY.out) ?_; rintro e z ⟨rfl, a1, a2⟩; have HZ := hideIt (HW.out.same HX.out HR.out HY.out a1 a2); clear a1 a2) | fail)
        go_roundw
        case rel => exact ⟨i + 1, P ++ [x], _, by go_num, hic, HZ, hideIt (learn64 HA.out HXO.out.imm)⟩
        case measure => simp [intOf]; omega
      | some v =>
        have hv := reck64 HA.out HXO.out.ty.1 hr
        rw [hr] at RA
        have NX := hideIt (fun (y : World) (hy : Q w1 y) => HW.out.next HX.out hr hv hy)
        have LN := hideIt (fun (y : World) (hy : Q w1 y) => learn_any _ kb M i fault F (NX.out y hy).2.1 HM.out g (i * 7) (cst x v) ((NX.out y hy).1.at' i (cst x v) (by rw [List.append_assoc, List.getElem?_append_right (by rw [HW.out.len]; exact Nat.le_refl _), HW.out.len, Nat.sub_self]; rfl)).1 ((NX.out y hy).1.at' i (cst x v) (by rw [List.append_assoc, List.getElem?_append_right (by rw [HW.out.len]; exact Nat.le_refl _), HW.out.len, Nat.sub_self]; rfl)).2.1)
        have HC := hideIt (fun (y : World) (hy : Q w1 y) => show (y.cell? ⟨g, i * 7, none⟩ = some (.int .u8 x.op) ∧ y.cell? ⟨g, i * 7 + 1, none⟩ = some (.int .u8 x.ty) ∧ y.cell? ⟨g, i * 7 + 2, none⟩ = some (.int .i64 x.dst) ∧ y.cell? ⟨g, i * 7 + 3, none⟩ = some (.int .i64 x.a) ∧ y.cell? ⟨g, i * 7 + 4, none⟩ = some (.int .i64 x.b) ∧ y.cell? ⟨g, i * 7 + 5, none⟩ = some (.int .i64 x.imm) ∧ y.cell? ⟨g, i * 7 + 6, none⟩ = some (.slice x.aa x.args.length x.ac)) ∧ ∀ j, y.frozen? ⟨g, j, none⟩ = false from by
          obtain ⟨cs, t, hb⟩ := HW.out.il.blk
          exact ⟨(HAT.out.keep hy).seven, fun j => free_of_block (heap_keep hy hb) j⟩)
        have HV := hideIt hv
        clear hr hv
        go_wp2_with (first | (go_at_call 69; refine RA.out.mono ?_; rintro e y ⟨v', rfl, hvv, q⟩; have e1 := hvv v rfl; subst e1; have HY := hideIt q; obtain ⟨⟨c0, c1, c2, c3, c4, c5, c6⟩, cf⟩ := HC.out y q; clear q hvv) | (go_at_call 70; refine Calls.mono (LN.out _ HY.out) ?_; rintro e z ⟨rfl, a1, a2⟩; have HZ := hideIt ((NX.out _ HY.out).2.2 z a1 a2); clear a1 a2 c0 c1 c2 c3 c4 c5 c6 cf) | fail)
        go_roundw
        case rel => exact ⟨i + 1, _, _, by go_num, hic, HZ, hideIt (learn64 HA.out HV.out)⟩
        case measure => simp [intOf]; omega
    · have ei : i = l.length := by omega
      subst ei
      have k1 : decide ((l.length : Int) < (l.length : Int)) = false := by simp
      have FIN : Hid (IL lo w1 g (foldL fault (fun _ => none) l) ∧ Fs (fun b => b = g ∨ b = M) w w1) := by
        have e := HW.out.eq
        have h2 := HW.out.il
        rw [List.drop_length] at e h2
        simp only [foldL, List.append_nil] at e h2
        rw [e]
        exact ⟨h2, HW.out.fs⟩
      go_wp2_with (fail)
      go_end0
      exact ⟨rfl, FIN.out⟩

end Go.Proofs.Ytaomkfhbnakbjaa.Fo
