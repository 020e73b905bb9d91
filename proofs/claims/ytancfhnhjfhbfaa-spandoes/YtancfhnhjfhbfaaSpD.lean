/-
  What divide, bitwise, shift, compare and Do of layer 10 return: contracts over the program, for every operation's and type's number and all spans.
-/
import Derived.Test.YtancfhnhjfhbfaaSpC
import Derived.StillTailTactics
set_option linter.unusedVariables false
namespace Burin
open Go
/-- An answer: the span, and whether it never traps. -/
abbrev Ans := Int × Int × Bool
def fiA (t l h : Int) : Ans := (fiL t l h, fiH t l h, fiB t l h)
def baB (t al ah bl bh : Int) : Bool := hasB bl bh 0 || (sgn t && hasB al ah (low t) && hasB bl bh (-1))
def divA (op t al ah bl bh : Int) : Ans :=
  if baB t al ah bl bh then (low t, high t, false) else if op = 5 then (reL al bl bh, reH ah bl bh, true) else (coL 4 al ah bl bh, coH 4 al ah bl bh, true)
def biL (op t al ah bl bh : Int) : Int := if decide (al < 0) || decide (bl < 0) then low t else if op = 7 then max al bl else 0
def biH (op t al ah bl bh : Int) : Int := if decide (al < 0) || decide (bl < 0) then high t else if op = 6 then min ah bh else onesP (max ah bh)
def shB (t bl bh : Int) : Bool := decide (bl < 0) || decide (wid t ≤ bh)
def shA (op t al ah bl bh : Int) : Ans :=
  if nonB bl bh then (1, 0, false) else if shB t bl bh then (low t, high t, false) else if op = 10 then (coL 10 al ah bl bh, coH 10 al ah bl bh, true) else fiA t (coL 9 al ah bl bh) (coH 9 al ah bl bh)
def saB (al ah bl bh : Int) : Bool := decide (al = bl ∧ ah = bh) && decide (al = ah)
def apB (al ah bl bh : Int) : Bool := decide (ah < bl) || decide (bh < al)
def alB (op al ah bl bh : Int) : Bool := if op = 11 then decide (ah < bl) else if op = 12 then decide (ah ≤ bl) else if op = 13 then decide (bh < al) else if op = 14 then decide (bh ≤ al) else if op = 15 then saB al ah bl bh else apB al ah bl bh
def noB (op al ah bl bh : Int) : Bool := if op = 11 then decide (bh ≤ al) else if op = 12 then decide (bh < al) else if op = 13 then decide (ah ≤ bl) else if op = 14 then decide (ah < bl) else if op = 15 then apB al ah bl bh else saB al ah bl bh
def cmA (op al ah bl bh : Int) : Int × Int := (trL (alB op al ah bl bh) (noB op al ah bl bh), trH (alB op al ah bl bh) (noB op al ah bl bh))
def doA (op t al ah bl bh : Int) : Ans :=
  if op < 1 ∨ 16 < op ∨ rtB t al ah = false then (1, 0, false)
  else if op = 9 ∨ op = 10 then shA op t al ah bl bh
  else if rtB t bl bh = false then (1, 0, false)
  else if op ≤ 3 then fiA t (coL op al ah bl bh) (coH op al ah bl bh)
  else if op ≤ 5 then divA op t al ah bl bh
  else if op ≤ 8 then (biL op t al ah bl bh, biH op t al ah bl bh, true)
  else ((cmA op al ah bl bh).1, (cmA op al ah bl bh).2, true)
end Burin
namespace Go.Proofs.Ytancfhnhjfhbfaa
open Go.RowKit
open Burin
set_option linter.unusedVariables false
theorem run_fld0 (w : World) (a b : Int) : (Instr.field 23 (.agg #[.int .i64 a, .int .i64 b]) 0).run Try.prog w = .ok (.int .i64 a) w := by
  simp [Instr.field, go_sem, asAgg]
theorem run_fld1 (w : World) (a b : Int) : (Instr.field 23 (.agg #[.int .i64 a, .int .i64 b]) 1).run Try.prog w = .ok (.int .i64 b) w := by
  simp [Instr.field, go_sem, asAgg]
attribute [local go_sem ↓] run_min2 run_max2 run_min4 run_max4 run_fld0 run_fld1
abbrev retA (r : Ans) : Value := .tuple #[spV r.1 r.2.1, .bool r.2.2]

theorem region_tail {P : Program} {id : Nat} {Q : Exit → Act → World → Prop} {a : Act} {w : World} {l : List Oper} (n : Nat) (hm : P.follows .mixedOrders = true) (hB : Region.lexTailB .any l.toArray n = true)
    (h : wpStill P l.toArray w.drew (fun a' => wpList P l.toArray Q (l.drop n) a' w.drew) (l.take n) a) : (Code.region id l.toArray true).wp P Q a w := wp_region_still_tail n hm hB h

theorem full_agg (t : Int) (w : World) (h0 : 0 ≤ t) :
    Calls Try.prog 16 #[.int .u8 t] w fun e w' => e = .returned (.agg #[.int .i64 (low t), .int .i64 (high t)]) ∧ Q w w' := full_any t w h0

theorem hasB_ne {l h y : Int} (hb : hasB l h 0 = false) (y1 : l ≤ y) (y2 : y ≤ h) : y ≠ 0 := by
  rintro rfl
  unfold hasB at hb
  simp at hb
  omega

set_option maxHeartbeats 8000000 in
theorem sdiv_any (op t al ah bl bh : Int) (w : World) (h0 : 0 ≤ t) (ho : op = 4 ∨ op = 5) (hab : al ≤ ah) (hbb : bl ≤ bh) (a1 : nb al) (a2 : nb ah) (b1 : nb bl) (b2 : nb bh) :
    Calls Try.prog 37 #[.int .u8 op, .int .u8 t, spV al ah, spV bl bh] w fun e w' => e = .returned (retA (divA op t al ah bl bh)) ∧ Q w w' := by
  have R := hideIt (Q.refl (bx3 w al ah bl bh))
  have HR := hideIt (fun x => rest_any al ah bl bh x a1 a2 b1 b2)
  have HC : Hid (hasB bl bh 0 = false → ∀ x, Calls Try.prog 33 #[spV al ah, spV bl bh, .func (.func 66) #[] #[]] x fun e w' => e = .returned (spV (coL 4 al ah bl bh) (coH 4 al ah bl bh)) ∧ Q x w') := fun hb x => corners_5 (atP 4) al ah bl bh x (fun p q hp hq u => clo_5 p q u (by rcases hp with rfl | rfl <;> assumption) (by rcases hq with rfl | rfl <;> assumption) (by rcases hq with rfl | rfl <;> exact hasB_ne hb (by omega) (by omega)))
  have HF := hideIt (fun x => full_agg t x h0)
  have HG := hideIt (fun x => signed_any t x h0)
  have HH := hideIt hasB_any
  unfold divA baB
  generalize low t = tl at *
  generalize high t = th at *
  generalize sgn t = sg at *
  clear a1 a2 b1 b2
  cases hz : hasB bl bh 0 with
  | true =>
    go_enter Try.func37, Try.ntmps37
    go_wp2_with (first | (go_at_call 16; refine (HF.out _).mono ?_; rintro e x ⟨rfl, q⟩; (try clear c0 c1 c2 c3 c4 c5 f4 f5); have R := hideIt (R.out.trans q); clear q; obtain ⟨c0, c1, c2, c3, c4, c5, f4, f5⟩ := R.out.c6) | (go_at_call 18; refine (HH.out _ _ _ _).mono ?_; rintro e x ⟨rfl, q⟩; (try clear c0 c1 c2 c3 c4 c5 f4 f5); have R := hideIt (R.out.trans q); clear q; obtain ⟨c0, c1, c2, c3, c4, c5, f4, f5⟩ := R.out.c6))
    exact bodyPost_ret (v := .tuple #[spV (tl) (th), .bool false]) (by simp [results, Try.results37, go_sem, c4, c5]) rfl ⟨rfl, q_set3 R.out _ _⟩
  | false =>
    have HC' := hideIt (HC.out hz)
    clear HC
    cases hs : sg with
    | true =>
      rw [hs] at HG
      cases hl : hasB al ah tl with
      | true =>
        cases hm : hasB bl bh (-1) with
        | true =>
          go_enter Try.func37, Try.ntmps37
          go_wp2_with (first | (go_at_call 16; refine (HF.out _).mono ?_; rintro e x ⟨rfl, q⟩; (try clear c0 c1 c2 c3 c4 c5 f4 f5); have R := hideIt (R.out.trans q); clear q; obtain ⟨c0, c1, c2, c3, c4, c5, f4, f5⟩ := R.out.c6) | (go_at_call 18; refine (HH.out _ _ _ _).mono ?_; rintro e x ⟨rfl, q⟩; (try clear c0 c1 c2 c3 c4 c5 f4 f5); have R := hideIt (R.out.trans q); clear q; obtain ⟨c0, c1, c2, c3, c4, c5, f4, f5⟩ := R.out.c6) | (go_at_call 51; refine (HG.out _).mono ?_; rintro e x ⟨rfl, rfl⟩))
          exact bodyPost_ret (v := .tuple #[spV (tl) (th), .bool false]) (by simp [results, Try.results37, go_sem, c4, c5]) rfl ⟨rfl, q_set3 R.out _ _⟩
        | false =>
          rcases ho with rfl | rfl
          · go_enter Try.func37, Try.ntmps37
            go_wp2_with (first | (go_at_call 16; refine (HF.out _).mono ?_; rintro e x ⟨rfl, q⟩; (try clear c0 c1 c2 c3 c4 c5 f4 f5); have R := hideIt (R.out.trans q); clear q; obtain ⟨c0, c1, c2, c3, c4, c5, f4, f5⟩ := R.out.c6) | (go_at_call 18; refine (HH.out _ _ _ _).mono ?_; rintro e x ⟨rfl, q⟩; (try clear c0 c1 c2 c3 c4 c5 f4 f5); have R := hideIt (R.out.trans q); clear q; obtain ⟨c0, c1, c2, c3, c4, c5, f4, f5⟩ := R.out.c6) | (go_at_call 51; refine (HG.out _).mono ?_; rintro e x ⟨rfl, rfl⟩) | (go_at_call 33; refine (HC'.out _).mono ?_; rintro e x ⟨rfl, q⟩; (try clear c0 c1 c2 c3 c4 c5 f4 f5); have R := hideIt (R.out.trans q); clear q; obtain ⟨c0, c1, c2, c3, c4, c5, f4, f5⟩ := R.out.c6))
            exact bodyPost_ret (v := .tuple #[spV (coL 4 al ah bl bh) (coH 4 al ah bl bh), .bool true]) (by simp [results, Try.results37, go_sem, c4, c5]) rfl ⟨rfl, q_set3 R.out _ _⟩
          · go_enter Try.func37, Try.ntmps37
            go_wp2_with (first | (go_at_call 16; refine (HF.out _).mono ?_; rintro e x ⟨rfl, q⟩; (try clear c0 c1 c2 c3 c4 c5 f4 f5); have R := hideIt (R.out.trans q); clear q; obtain ⟨c0, c1, c2, c3, c4, c5, f4, f5⟩ := R.out.c6) | (go_at_call 18; refine (HH.out _ _ _ _).mono ?_; rintro e x ⟨rfl, q⟩; (try clear c0 c1 c2 c3 c4 c5 f4 f5); have R := hideIt (R.out.trans q); clear q; obtain ⟨c0, c1, c2, c3, c4, c5, f4, f5⟩ := R.out.c6) | (go_at_call 51; refine (HG.out _).mono ?_; rintro e x ⟨rfl, rfl⟩) | (go_at_call 65; refine (HR.out _).mono ?_; rintro e x ⟨rfl, q⟩; (try clear c0 c1 c2 c3 c4 c5 f4 f5); have R := hideIt (R.out.trans q); clear q; obtain ⟨c0, c1, c2, c3, c4, c5, f4, f5⟩ := R.out.c6))
            exact bodyPost_ret (v := .tuple #[spV (reL al bl bh) (reH ah bl bh), .bool true]) (by simp [results, Try.results37, go_sem, c4, c5]) rfl ⟨rfl, q_set3 R.out _ _⟩
      | false =>
        rcases ho with rfl | rfl
        · go_enter Try.func37, Try.ntmps37
          go_wp2_with (first | (go_at_call 16; refine (HF.out _).mono ?_; rintro e x ⟨rfl, q⟩; (try clear c0 c1 c2 c3 c4 c5 f4 f5); have R := hideIt (R.out.trans q); clear q; obtain ⟨c0, c1, c2, c3, c4, c5, f4, f5⟩ := R.out.c6) | (go_at_call 18; refine (HH.out _ _ _ _).mono ?_; rintro e x ⟨rfl, q⟩; (try clear c0 c1 c2 c3 c4 c5 f4 f5); have R := hideIt (R.out.trans q); clear q; obtain ⟨c0, c1, c2, c3, c4, c5, f4, f5⟩ := R.out.c6) | (go_at_call 51; refine (HG.out _).mono ?_; rintro e x ⟨rfl, rfl⟩) | (go_at_call 33; refine (HC'.out _).mono ?_; rintro e x ⟨rfl, q⟩; (try clear c0 c1 c2 c3 c4 c5 f4 f5); have R := hideIt (R.out.trans q); clear q; obtain ⟨c0, c1, c2, c3, c4, c5, f4, f5⟩ := R.out.c6))
          exact bodyPost_ret (v := .tuple #[spV (coL 4 al ah bl bh) (coH 4 al ah bl bh), .bool true]) (by simp [results, Try.results37, go_sem, c4, c5]) rfl ⟨rfl, q_set3 R.out _ _⟩
        · go_enter Try.func37, Try.ntmps37
          go_wp2_with (first | (go_at_call 16; refine (HF.out _).mono ?_; rintro e x ⟨rfl, q⟩; (try clear c0 c1 c2 c3 c4 c5 f4 f5); have R := hideIt (R.out.trans q); clear q; obtain ⟨c0, c1, c2, c3, c4, c5, f4, f5⟩ := R.out.c6) | (go_at_call 18; refine (HH.out _ _ _ _).mono ?_; rintro e x ⟨rfl, q⟩; (try clear c0 c1 c2 c3 c4 c5 f4 f5); have R := hideIt (R.out.trans q); clear q; obtain ⟨c0, c1, c2, c3, c4, c5, f4, f5⟩ := R.out.c6) | (go_at_call 51; refine (HG.out _).mono ?_; rintro e x ⟨rfl, rfl⟩) | (go_at_call 65; refine (HR.out _).mono ?_; rintro e x ⟨rfl, q⟩; (try clear c0 c1 c2 c3 c4 c5 f4 f5); have R := hideIt (R.out.trans q); clear q; obtain ⟨c0, c1, c2, c3, c4, c5, f4, f5⟩ := R.out.c6))
          exact bodyPost_ret (v := .tuple #[spV (reL al bl bh) (reH ah bl bh), .bool true]) (by simp [results, Try.results37, go_sem, c4, c5]) rfl ⟨rfl, q_set3 R.out _ _⟩
    | false =>
      rw [hs] at HG
      rcases ho with rfl | rfl
      · go_enter Try.func37, Try.ntmps37
        go_wp2_with (first | (go_at_call 16; refine (HF.out _).mono ?_; rintro e x ⟨rfl, q⟩; (try clear c0 c1 c2 c3 c4 c5 f4 f5); have R := hideIt (R.out.trans q); clear q; obtain ⟨c0, c1, c2, c3, c4, c5, f4, f5⟩ := R.out.c6) | (go_at_call 18; refine (HH.out _ _ _ _).mono ?_; rintro e x ⟨rfl, q⟩; (try clear c0 c1 c2 c3 c4 c5 f4 f5); have R := hideIt (R.out.trans q); clear q; obtain ⟨c0, c1, c2, c3, c4, c5, f4, f5⟩ := R.out.c6) | (go_at_call 51; refine (HG.out _).mono ?_; rintro e x ⟨rfl, rfl⟩) | (go_at_call 33; refine (HC'.out _).mono ?_; rintro e x ⟨rfl, q⟩; (try clear c0 c1 c2 c3 c4 c5 f4 f5); have R := hideIt (R.out.trans q); clear q; obtain ⟨c0, c1, c2, c3, c4, c5, f4, f5⟩ := R.out.c6))
        exact bodyPost_ret (v := .tuple #[spV (coL 4 al ah bl bh) (coH 4 al ah bl bh), .bool true]) (by simp [results, Try.results37, go_sem, c4, c5]) rfl ⟨rfl, q_set3 R.out _ _⟩
      · go_enter Try.func37, Try.ntmps37
        go_wp2_with (first | (go_at_call 16; refine (HF.out _).mono ?_; rintro e x ⟨rfl, q⟩; (try clear c0 c1 c2 c3 c4 c5 f4 f5); have R := hideIt (R.out.trans q); clear q; obtain ⟨c0, c1, c2, c3, c4, c5, f4, f5⟩ := R.out.c6) | (go_at_call 18; refine (HH.out _ _ _ _).mono ?_; rintro e x ⟨rfl, q⟩; (try clear c0 c1 c2 c3 c4 c5 f4 f5); have R := hideIt (R.out.trans q); clear q; obtain ⟨c0, c1, c2, c3, c4, c5, f4, f5⟩ := R.out.c6) | (go_at_call 51; refine (HG.out _).mono ?_; rintro e x ⟨rfl, rfl⟩) | (go_at_call 65; refine (HR.out _).mono ?_; rintro e x ⟨rfl, q⟩; (try clear c0 c1 c2 c3 c4 c5 f4 f5); have R := hideIt (R.out.trans q); clear q; obtain ⟨c0, c1, c2, c3, c4, c5, f4, f5⟩ := R.out.c6))
        exact bodyPost_ret (v := .tuple #[spV (reL al bl bh) (reH ah bl bh), .bool true]) (by simp [results, Try.results37, go_sem, c4, c5]) rfl ⟨rfl, q_set3 R.out _ _⟩

set_option maxHeartbeats 8000000 in
theorem sbit_any (op t al ah bl bh : Int) (w : World) (h0 : 0 ≤ t) (ho : op = 6 ∨ op = 7 ∨ op = 8) (a2 : nb ah) (b2 : nb bh) (hab : al ≤ ah) (hbb : bl ≤ bh) :
    Calls Try.prog 38 #[.int .u8 op, .int .u8 t, spV al ah, spV bl bh] w fun e w' => e = .returned (spV (biL op t al ah bl bh) (biH op t al ah bl bh)) ∧ Q w w' := by
  have R := hideIt (Q.refl (bx3 w al ah bl bh))
  have HF := hideIt (fun x => full_any t x h0)
  obtain ⟨a21, a22⟩ := a2
  obtain ⟨b21, b22⟩ := b2
  unfold biL biH
  cases ha : decide (al < 0) with
  | true =>
    generalize low t = tl at *
    generalize high t = th at *
    clear ho
    go_enter Try.func38, Try.ntmps38
    go_wp2_with (first | (go_at_call 16; refine (HF.out _).mono ?_; rintro e x ⟨rfl, q⟩; (try clear c0 c1 c2 c3 c4 c5 f4 f5); have R := hideIt (R.out.trans q); clear q; obtain ⟨c0, c1, c2, c3, c4, c5, f4, f5⟩ := R.out.c6))
    exact bodyPost_ret (v := spV tl th) (by simp [results, Try.results38, go_sem, c4, c5]) rfl ⟨rfl, q_set3 R.out _ _⟩
  | false =>
    cases hb : decide (bl < 0) with
    | true =>
      generalize low t = tl at *
      generalize high t = th at *
      clear ho
      go_enter Try.func38, Try.ntmps38
      go_wp2_with (first | (go_at_call 16; refine (HF.out _).mono ?_; rintro e x ⟨rfl, q⟩; (try clear c0 c1 c2 c3 c4 c5 f4 f5); have R := hideIt (R.out.trans q); clear q; obtain ⟨c0, c1, c2, c3, c4, c5, f4, f5⟩ := R.out.c6))
      exact bodyPost_ret (v := spV tl th) (by simp [results, Try.results38, go_sem, c4, c5]) rfl ⟨rfl, q_set3 R.out _ _⟩
    | false =>
      have ha' : 0 ≤ al := by simpa using ha
      have hb' : 0 ≤ bl := by simpa using hb
      have HO := hideIt (fun x => ones_any (max ah bh) x (by omega) (by omega))
      generalize onesP (max ah bh) = oo at *
      rcases ho with rfl | rfl | rfl
      · go_enter Try.func38, Try.ntmps38
        go_wp2_with (first | (go_at_call 67; refine (HO.out _).mono ?_; rintro e x ⟨rfl, rfl⟩))
        exact bodyPost_ret (v := spV 0 (min ah bh)) (by simp [results, Try.results38, go_sem]) rfl ⟨rfl, (((Q.refl _).alloc _).alloc _).alloc _⟩
      · go_enter Try.func38, Try.ntmps38
        go_wp2_with (fail)
        refine region_tail 11 (by kernel_rfl) (by kernel_rfl) ?_
        simp only [List.take_succ_cons, List.take_zero, List.drop_succ_cons, List.drop_zero]
        repeat still_step
        refine wpStill_step (fun K hK => ?_)
        go_simp
        refine ⟨_, HO.out _, hK _ ?_⟩
        clear hK K
        refine wpStill_nil ?_
        go_wp2_with (fail)
        exact bodyPost_ret (v := spV (max al bl) oo) (by simp [results, Try.results38, go_sem]) rfl ⟨rfl, ((((Q.refl _).alloc _).alloc _).alloc _).drew⟩
      · go_enter Try.func38, Try.ntmps38
        go_wp2_with (first | (go_at_call 67; refine (HO.out _).mono ?_; rintro e x ⟨rfl, rfl⟩))
        exact bodyPost_ret (v := spV 0 oo) (by simp [results, Try.results38, go_sem]) rfl ⟨rfl, (((Q.refl _).alloc _).alloc _).alloc _⟩

end Go.Proofs.Ytancfhnhjfhbfaa
