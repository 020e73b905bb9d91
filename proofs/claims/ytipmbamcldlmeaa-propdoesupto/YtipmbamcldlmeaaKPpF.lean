/-
  An instruction reads what its registers got their numbers from (read of prop): a contract over the program; the conditions: the reader and the instructions lie in memory, and the registers are there.
  An instruction that is no call reads what its registers got their numbers from (read of prop): a contract over the program; the conditions: the reader and the instructions lie in memory, and the registers are there.
-/
import Derived.Test.YtipmbamcldlmeaaKPpD
import Derived.Test.YtipmbamcldlmeaaKIrP
import Derived.Deep.RegionWith
namespace Go.Proofs.Ytipmbamcldlmeaa.Pp
open Go.RowKit
set_option linter.unusedVariables false

theorem mid_set {α : Type} {P l : List α} {i : Nat} {x y : α} (hP : P.length = i) (h : l[i]? = some x) : (P ++ l.drop i).set i y = P ++ [y] ++ l.drop (i + 1) := by
  obtain ⟨hl, e⟩ := List.getElem?_eq_some_iff.1 h
  have hd : l.drop i = x :: l.drop (i + 1) := by rw [List.drop_eq_getElem_cons hl, e]
  rw [hd, List.set_append_right _ _ (by omega), hP, Nat.sub_self, List.set_cons_zero]
  simp
theorem mid_get {α : Type} {P l : List α} {i : Nat} {x : α} (hP : P.length = i) (h : l[i]? = some x) : (P ++ l.drop i)[i]? = some x := by
  rw [List.getElem?_append_right (by omega), hP, Nat.sub_self, List.getElem?_drop, Nat.add_zero]; exact h
/-- The first k arguments are changed. -/
def argK (s : Int → Int) (x : PI) (k : Nat) : PI := { x with args := (x.args.take k).map s ++ x.args.drop k }
theorem argK_zero (s : Int → Int) (x : PI) : argK s x 0 = x := by unfold argK; simp
theorem argK_all (s : Int → Int) (x : PI) : argK s x x.args.length = { x with args := x.args.map s } := by unfold argK; simp
theorem argK_len (s : Int → Int) (x : PI) (k : Nat) : (argK s x k).args.length = x.args.length := by unfold argK; simp; omega
theorem argK_get {s : Int → Int} {x : PI} {k : Nat} {q : Int} (h : x.args[k]? = some q) : (argK s x k).args[k]? = some q := by
  have hl := (List.getElem?_eq_some_iff.1 h).1
  exact mid_get (by simp; omega) h
theorem argK_step {s : Int → Int} {x : PI} {k : Nat} {q : Int} (h : x.args[k]? = some q) : { argK s x k with args := (argK s x k).args.set k (s q) } = argK s x (k + 1) := by
  have hl := (List.getElem?_eq_some_iff.1 h).1
  unfold argK
  simp only
  rw [mid_set (by simp; omega) h, List.take_add_one, h]
  simp
theorem Alk.argK (s : Int → Int) (x : PI) (k : Nat) : Alk x (argK s x k) := ⟨rfl, rfl, argK_len s x k⟩

theorem RdOk.set {w : World} {R Wb : Nat} {fault : Bool} {first : Int} {ia : Option Addr} {n ic : Nat} {ws : List Int} {P : List PI} (h : RdOk w R Wb fault first ia n ic ws P) {p : Addr} {u : Value} (h1 : R ≠ p.block) (h2 : Wb ≠ p.block) (h3 : ∀ b o, ia = some ⟨b, o, none⟩ → p.block = b → o + P.length * 7 ≤ p.off) : RdOk (w.setCell p u) R Wb fault first ia n ic ws P := by
  refine ⟨⟨?_, ?_⟩, h.wok, fun k i hi => ?_, h.len, h.lo, h.hi, h.reg, h.rf⟩
  · rw [Below.heap_setCell w p u R h1]; exact h.rd.blk
  · rw [Below.heap_setCell w p u Wb h2]; exact h.rd.wb
  · obtain ⟨b, o, e, c0, c3⟩ := h.pat k i hi
    have hk := (List.getElem?_eq_some_iff.1 hi).1
    have hne : ∀ j, j < 7 → (⟨b, o + k * 7 + j, none⟩ : Addr) ≠ p := fun j hj q => by
      have := h3 b o e (by rw [← q])
      rw [← q] at this
      have h4 : o + P.length * 7 ≤ o + k * 7 + j := this
      omega
    exact ⟨b, o, e, set_cell_ne c0 (hne 0 (by omega)), set_cell_ne c3 (hne 3 (by omega))⟩

set_option maxRecDepth 100000 in
set_option maxHeartbeats 2000000 in
theorem read_call (w : World) (R Wb lo g n ic : Nat) (fault : Bool) (first : Int) (ws : List Int) (P L : List PI) (x : PI) (hil : InsL lo w (some ⟨g, 0, none⟩) L) (hx : L[n]? = some x) (hnm : n ≤ 4398046511104) (hrd : RdOk w R Wb fault first (some ⟨g, 0, none⟩) L.length ic ws P) (hP : P.length ≤ n) (hin : InR ws.length x) (hws : ws.length ≤ 9223372036854775807) (hRg : R ≠ g ∧ Wb ≠ g) (hRb : ∀ b, aaB x b → R ≠ b ∧ Wb ≠ b) (ho : x.op = 32) :
    Calls Try.prog 41 #[.pointer (some ⟨R, 0, none⟩), .pointer (some ⟨g, n * 7, none⟩)] w fun e w' => e = .returned (.tuple #[]) ∧ InsL lo w' (some ⟨g, 0, none⟩) (L.set n (readI (src fault P) x)) ∧ Fs (fun b => b = g ∨ aaB x b) w w' := by
  obtain ⟨b0, o0, e0, hat, hxo⟩ := hil.at' n x hx
  simp at e0
  obtain ⟨rfl, rfl⟩ := e0
  rw [Nat.zero_add] at hat
  obtain ⟨c0, c1, c2, c3, c4, c5, c6⟩ := hat.seven
  rw [ho] at c0
  have hnl := (List.getElem?_eq_some_iff.1 hx).1
  have hrI : readI (src fault P) x = { x with args := x.args.map (src fault P) } := by unfold readI; rw [if_pos ho]
  have HI0 : Hid (InsL lo w (some ⟨g, 0, none⟩) (L.set n (argK (src fault P) x 0)) ∧ RdOk w R Wb fault first (some ⟨g, 0, none⟩) L.length ic ws P ∧ Fs (fun b => b = g ∨ aaB x b) w w) := ⟨by rw [argK_zero, show L.set n x = L by rw [← (List.getElem?_eq_some_iff.1 hx).2]; simp]; exact hil, hrd, Fs.refl _ _⟩
  have hlen : x.args.length ≤ 9223372036854775807 := hxo.sok.len
  have HX := hideIt hx
  have HIN := hideIt hin
  have HNB := hideIt (hil.each x (List.mem_of_getElem? hx))
  have HRG := hideIt hRg
  have HRB := hideIt hRb
  have HRI := hideIt hrI
  have HPn := hideIt hP
  have HO := hideIt ho
  clear hil hx hrd hin hRg hRb hat hxo hrI c1 c2 c3 c4 c5 hP ho
  go_enter Try.func41, Try.ntmps41
  go_wp2_with (fail)
  clear c0 c6
  go_loopw [4, 5, 16] (fun d4 d5 kv w9 => ∃ k : Nat, kv = .int .i64 (k : Int) ∧ k ≤ x.args.length ∧ Hid (InsL lo w9 (some ⟨g, 0, none⟩) (L.set n (argK (src fault P) x k)) ∧ RdOk w9 R Wb fault first (some ⟨g, 0, none⟩) L.length ic ws P ∧ Fs (fun b => b = g ∨ aaB x b) w w9)) (fun _ _ kv _ => x.args.length - (intOf kv).toNat)
  case atStart => exact ⟨0, rfl, by omega, HI0⟩
  case round =>
    obtain ⟨k, rfl, hk, HI⟩ := hrel
    generalize wr = w1 at *
    clear HI0
    by_cases hlt : k < x.args.length
    · obtain ⟨q, hq⟩ := get_of_lt hlt
      have hLn : (L.set n (argK (src fault P) x k))[n]? = some (argK (src fault P) x k) := List.getElem?_set_self hnl
      obtain ⟨b0, o0, e0, hat, hxo⟩ := HI.out.1.at' n _ hLn
      simp at e0
      obtain ⟨rfl, rfl⟩ := e0
      rw [Nat.zero_add] at hat
      have c6 := hat.seven.2.2.2.2.2.2
      rw [argK_len] at c6
      obtain ⟨b, o, eb, hb1, hb2⟩ := hxo.args k q (argK_get hq)
      have hne : x.args ≠ [] := fun e => by rw [e] at hlt; simp at hlt
      obtain ⟨cs, t, eaa, hblk⟩ : ∃ cs t, x.aa = some ⟨b, 0, none⟩ ∧ w1.heap[b]? = some (.cells cs t (0, 0)) := by
        have h1 := HI.out.1.each _ (List.mem_of_getElem? hLn)
        rcases h1 with h0 | ⟨b', cs, t, e', -, hh⟩
        · rw [argK_len] at h0; omega
        · have e2 : some (⟨b', 0, none⟩ : Addr) = some ⟨b, o, none⟩ := e'.symm.trans eb
          injection e2 with e2
          injection e2 with e3 e4
          subst e3
          exact ⟨cs, t, e', hh⟩
      have hab : aaB x b := ⟨hne, eaa⟩
      have eo : o = 0 := by
        have e2 : some (⟨b, o, none⟩ : Addr) = some ⟨b, 0, none⟩ := eb.symm.trans eaa
        injection e2 with e2
        injection e2
      subst eo
      rw [Nat.zero_add, Nat.mul_one] at hb1
      have c6' : w1.cell? ⟨g, n * 7 + 6, none⟩ = some (.slice (some ⟨b, 0, none⟩) x.args.length x.ac) := by rw [← eaa]; exact c6
      rw [show (Value.slice x.aa x.args.length x.ac) = .slice (some ⟨b, 0, none⟩) x.args.length x.ac by rw [eaa]]
      have hqin : inN ws.length q := HIN.out.args HO.out q (List.mem_of_getElem? hq)
      have SC := hideIt (fun X (hX : Q w1 X) => source_any X R Wb fault first _ _ _ ws P (HI.out.2.1.q hX) q hqin)
      have sq := HI.out.2.1.src hqin
      have HC := hideIt (fun X (hX : Q w1 X) => show X.cell? ⟨b, k, none⟩ = some (.int .i64 q) ∧ X.cell? ⟨g, n * 7 + 6, none⟩ = some (.slice (some ⟨b, 0, none⟩) x.args.length x.ac) ∧ ∀ j, X.frozen? ⟨b, j, none⟩ = false from ⟨cell_keep hX hb1, cell_keep hX c6', fun j => free_of_block (heap_keep hX hblk) j⟩)
      have NX : Hid (∀ X, Q w1 X → InsL lo (X.setCell ⟨b, k, none⟩ (.int .i64 (src fault P q))) (some ⟨g, 0, none⟩) (L.set n (argK (src fault P) x (k + 1))) ∧ RdOk (X.setCell ⟨b, k, none⟩ (.int .i64 (src fault P q))) R Wb fault first (some ⟨g, 0, none⟩) L.length ic ws P ∧ Fs (fun b => b = g ∨ aaB x b) w (X.setCell ⟨b, k, none⟩ (.int .i64 (src fault P q)))) := fun X hX => by
        have h1 := InsL.setArg (HI.out.1.keep hX) hLn (m := k) (b := b) ⟨fun e => hne (List.eq_nil_of_length_eq_zero (by rw [← argK_len (src fault P) x k, e]; rfl)), eaa⟩ (v := src fault P q) (by obtain ⟨s1, s2⟩ := sq; unfold I64; omega)
        rw [argK_step hq, List.set_set] at h1
        refine ⟨h1, (HI.out.2.1.q hX).set (HRB.out b hab).1 (HRB.out b hab).2 (fun b' o' e1 e2 => ?_), (HI.out.2.2.trans (Fs.of_q hX)).set (p := ⟨b, k, none⟩) (Or.inl (Or.inr hab)) _⟩
        exfalso
        have e3 : g = b' := by simp at e1; exact e1.1
        have e4 : b = b' := e2
        have := HI.out.1.ord.beh _ (List.mem_of_getElem? hLn) b ⟨fun e => hne (List.eq_nil_of_length_eq_zero (by rw [← argK_len (src fault P) x k, e]; rfl)), eaa⟩ g rfl
        omega
      have hkl : (k : Int) < (x.args.length : Int) := by omega
      clear hq hat hxo c6 hb1 hb2 hblk c6' hqin sq hLn eb
      obtain ⟨k1, k2, k3⟩ := HC.out w1 (Q.refl _)
      go_wp2_with (fail)
      go_region_with (go_at_call 43; refine Calls.mono (SC.out _ (by first | exact Q.refl _ | exact (Q.refl w1).drew | exact (Q.refl w1).drewN _)) ?_; rintro e y ⟨rfl, qy⟩; have QY : Hid (Q w1 y) := (by first | exact qy | exact (Q.refl w1).drew.trans qy | exact ((Q.refl w1).drewN _).trans qy); clear qy k1 k2 k3; obtain ⟨k1, k2, k3⟩ := HC.out y QY.out)
      all_goals go_wp2_with (fail)
      all_goals go_roundw
      all_goals first
        | exact ⟨k + 1, by go_num, by omega, NX.out y QY.out⟩
        | exact ⟨k + 1, by go_num, by omega, (NX.out y QY.out).1, (NX.out y QY.out).2.1, (NX.out y QY.out).2.2⟩
        | (simp [intOf]; omega)
    · have ek : k = x.args.length := by omega
      have FIN : Hid (InsL lo w1 (some ⟨g, 0, none⟩) (L.set n (readI (src fault P) x)) ∧ Fs (fun b => b = g ∨ aaB x b) w w1) := by
        have h1 := HI.out.1
        rw [ek, argK_all] at h1
        rw [HRI.out]
        exact ⟨h1, HI.out.2.2⟩
      have hkl : ¬ (k : Int) < (x.args.length : Int) := by omega
      go_wp2_with (fail)
      refine bodyPost_ret (v := .tuple #[]) (results_none rfl _ _ _) rfl ?_
      exact ⟨rfl, FIN.out⟩

end Go.Proofs.Ytipmbamcldlmeaa.Pp

namespace Go.Proofs.Ytipmbamcldlmeaa.Pp
open Go.RowKit
set_option linter.unusedVariables false

theorem uses_len {x : PI} (h : ¬ x.op = 32) : (usesP x).length = rdP x.op := by
  unfold usesP
  rw [if_neg (by simpa using h)]
  have := rdP_le x.op
  simp
  omega
theorem RdOk.setI {w : World} {R Wb g n j m ic : Nat} {fault : Bool} {first : Int} {ws : List Int} {P : List PI} (h : RdOk w R Wb fault first (some ⟨g, 0, none⟩) m ic ws P) (hP : P.length ≤ n) (hRg : R ≠ g ∧ Wb ≠ g) (u : Value) : RdOk (w.setCell ⟨g, n * 7 + j, none⟩ u) R Wb fault first (some ⟨g, 0, none⟩) m ic ws P := h.set hRg.1 hRg.2 fun b o e _ => by
  simp at e
  obtain ⟨rfl, rfl⟩ := e
  show 0 + P.length * 7 ≤ n * 7 + j
  omega
theorem i64_in {N r : Int} (h : inN N r) (hN : N ≤ 9223372036854775807) : I64 r := by obtain ⟨h1, h2⟩ := h; unfold I64; omega

theorem uses_n {x : PI} {w : World} (hxo : x.ok w) (ho : ¬ x.op = 32) {k : Nat} (hr : rdP x.op = k) : Calls Try.prog 52 #[x.v] w fun e w' => ∃ ao c, e = .returned (.slice ao k c) ∧ Q w w' :=
  (uses_any x w hxo).mono fun e y ⟨ao, c, e1, _, q⟩ => ⟨ao, c, by rw [e1, uses_len ho, hr], q⟩

set_option maxRecDepth 100000 in
set_option maxHeartbeats 2000000 in
theorem read_none (w : World) (R lo g n : Nat) (s : Int → Int) (L : List PI) (x : PI) (hil : InsL lo w (some ⟨g, 0, none⟩) L) (hx : L[n]? = some x) (ho : ¬ x.op = 32) (hr : rdP x.op = 0) :
    Calls Try.prog 41 #[.pointer (some ⟨R, 0, none⟩), .pointer (some ⟨g, n * 7, none⟩)] w fun e w' => e = .returned (.tuple #[]) ∧ InsL lo w' (some ⟨g, 0, none⟩) (L.set n (readI s x)) ∧ Fs (fun b => b = g ∨ aaB x b) w w' := by
  obtain ⟨b0, o0, e0, hat, hxo⟩ := hil.at' n x hx
  simp at e0
  obtain ⟨rfl, rfl⟩ := e0
  rw [Nat.zero_add] at hat
  obtain ⟨c0, c1, c2, c3, c4, c5, c6⟩ := hat.seven
  have hrI : readI s x = x := by unfold readI; rw [if_neg ho, if_neg (by omega), if_neg (by omega)]
  have FIN : Hid (∀ X, Q w X → InsL lo X (some ⟨g, 0, none⟩) (L.set n (readI s x)) ∧ Fs (fun b => b = g ∨ aaB x b) w X) := fun X hX => by
    rw [hrI, show L.set n x = L by rw [← (List.getElem?_eq_some_iff.1 hx).2]; simp]
    exact ⟨hil.keep hX, Fs.of_q hX⟩
  have UC := hideIt (uses_n hxo ho hr)
  have hne : decide (x.op = 32) = false := by simpa using ho
  clear hil hx hat hxo hrI hr
  go_enter Try.func41, Try.ntmps41
  go_wp2_with (first | (go_at_call 52; refine UC.out.mono ?_; rintro e y ⟨ao, c, rfl, q⟩; have HQ := hideIt q; clear q c0 c1 c2 c3 c4 c5 c6) | fail)
  go_end0
  exact ⟨rfl, FIN.out _ HQ.out⟩

set_option maxRecDepth 100000 in
set_option maxHeartbeats 2000000 in
theorem read_one (w : World) (R Wb lo g n ic : Nat) (fault : Bool) (first : Int) (ws : List Int) (P L : List PI) (x : PI) (hil : InsL lo w (some ⟨g, 0, none⟩) L) (hx : L[n]? = some x) (hrd : RdOk w R Wb fault first (some ⟨g, 0, none⟩) L.length ic ws P) (hin : InR ws.length x) (hws : ws.length ≤ 9223372036854775807) (ho : ¬ x.op = 32) (hr : rdP x.op = 1) :
    Calls Try.prog 41 #[.pointer (some ⟨R, 0, none⟩), .pointer (some ⟨g, n * 7, none⟩)] w fun e w' => e = .returned (.tuple #[]) ∧ InsL lo w' (some ⟨g, 0, none⟩) (L.set n (readI (src fault P) x)) ∧ Fs (fun b => b = g ∨ aaB x b) w w' := by
  obtain ⟨b0, o0, e0, hat, hxo⟩ := hil.at' n x hx
  simp at e0
  obtain ⟨rfl, rfl⟩ := e0
  rw [Nat.zero_add] at hat
  have hsev := hat.seven
  obtain ⟨c0, c1, c2, c3, c4, c5, c6⟩ := hsev
  have ha := hin.a (Or.inl hr)
  have hrI : readI (src fault P) x = { x with a := src fault P x.a } := by unfold readI; rw [if_neg ho, if_neg (by omega), if_pos hr]
  have hsa := hrd.src ha
  obtain ⟨cs, t, hblk⟩ : ∃ cs t, w.heap[g]? = some (.cells cs t (0, 0)) := by
    rcases hil.nb with h0 | ⟨b, cs, t, e, -, hh⟩
    · have := (List.getElem?_eq_some_iff.1 hx).1; omega
    · simp at e; rw [← e] at hh; exact ⟨cs, t, hh⟩
  have FIN : Hid (∀ X, Q w X → InsL lo (X.setCell ⟨g, n * 7 + 3, none⟩ (.int .i64 (src fault P x.a))) (some ⟨g, 0, none⟩) (L.set n (readI (src fault P) x)) ∧ Fs (fun b => b = g ∨ aaB x b) w (X.setCell ⟨g, n * 7 + 3, none⟩ (.int .i64 (src fault P x.a)))) := fun X hX => by
    rw [hrI]
    exact ⟨InsL.setF (hil.keep hX) hx (by omega) rfl ⟨rfl, rfl, rfl⟩ rfl (fun W' h => ⟨h.op, h.ty, h.dst, i64_in hsa (by omega), h.b, h.imm, h.sok, h.args⟩), (Fs.of_q hX).set (p := ⟨g, n * 7 + 3, none⟩) (Or.inl (Or.inl rfl)) _⟩
  have UC := hideIt (uses_n hxo ho hr)
  have SC := hideIt (fun X (hX : Q w X) => source_any X R Wb fault first _ _ _ ws P (hrd.q hX) x.a ha)
  have HC := hideIt (fun X (hX : Q w X) => show X.cell? ⟨g, n * 7 + 3, none⟩ = some (.int .i64 x.a) ∧ X.frozen? ⟨g, n * 7 + 3, none⟩ = false from ⟨cell_keep hX c3, free_of_block (heap_keep hX hblk) _⟩)
  have hne : decide (x.op = 32) = false := by simpa using ho
  clear hil hx hat hxo hrI hr hrd hin ha hsa hblk
  go_enter Try.func41, Try.ntmps41
  go_wp2_with (first
    | (go_at_call 52; refine UC.out.mono ?_; rintro e y ⟨ao, c, rfl, q⟩; have HQ := hideIt q; clear q c0 c1 c2 c3 c4 c5 c6; obtain ⟨d3, -⟩ := HC.out y HQ.out)
    | (go_at_call 43; refine Calls.mono (SC.out y HQ.out) ?_; rintro e z ⟨rfl, q⟩; have HZ := hideIt (HQ.out.trans q); clear q d3; obtain ⟨d3, f3⟩ := HC.out z HZ.out)
    | fail)
  go_end0
  exact ⟨rfl, FIN.out _ HZ.out⟩

set_option maxRecDepth 100000 in
set_option maxHeartbeats 2000000 in
theorem read_two (w : World) (R Wb lo g n ic : Nat) (fault : Bool) (first : Int) (ws : List Int) (P L : List PI) (x : PI) (hil : InsL lo w (some ⟨g, 0, none⟩) L) (hx : L[n]? = some x) (hrd : RdOk w R Wb fault first (some ⟨g, 0, none⟩) L.length ic ws P) (hP : P.length ≤ n) (hin : InR ws.length x) (hws : ws.length ≤ 9223372036854775807) (hRg : R ≠ g ∧ Wb ≠ g) (ho : ¬ x.op = 32) (hr : rdP x.op = 2) :
    Calls Try.prog 41 #[.pointer (some ⟨R, 0, none⟩), .pointer (some ⟨g, n * 7, none⟩)] w fun e w' => e = .returned (.tuple #[]) ∧ InsL lo w' (some ⟨g, 0, none⟩) (L.set n (readI (src fault P) x)) ∧ Fs (fun b => b = g ∨ aaB x b) w w' := by
  obtain ⟨b0, o0, e0, hat, hxo⟩ := hil.at' n x hx
  simp at e0
  obtain ⟨rfl, rfl⟩ := e0
  rw [Nat.zero_add] at hat
  have hsev := hat.seven
  obtain ⟨c0, c1, c2, c3, c4, c5, c6⟩ := hsev
  have ha := hin.a (Or.inr hr)
  have hb := hin.b hr
  have hrI : readI (src fault P) x = { x with a := src fault P x.a, b := src fault P x.b } := by unfold readI; rw [if_neg ho, if_pos hr]
  have hsa := hrd.src ha
  have hsb := hrd.src hb
  have hnl := (List.getElem?_eq_some_iff.1 hx).1
  obtain ⟨cs, t, hblk⟩ : ∃ cs t, w.heap[g]? = some (.cells cs t (0, 0)) := by
    rcases hil.nb with h0 | ⟨b, cs, t, e, -, hh⟩
    · omega
    · simp at e; rw [← e] at hh; exact ⟨cs, t, hh⟩
  have NX : Hid (∀ X, Q w X → InsL lo (X.setCell ⟨g, n * 7 + 4, none⟩ (.int .i64 (src fault P x.b))) (some ⟨g, 0, none⟩) (L.set n { x with b := src fault P x.b })) := fun X hX => InsL.setF (hil.keep hX) hx (by omega) rfl ⟨rfl, rfl, rfl⟩ rfl (fun W' h => ⟨h.op, h.ty, h.dst, h.a, i64_in hsb (by omega), h.imm, h.sok, h.args⟩)
  have FIN : Hid (∀ X Y, Q w X → Q (X.setCell ⟨g, n * 7 + 4, none⟩ (.int .i64 (src fault P x.b))) Y → InsL lo (Y.setCell ⟨g, n * 7 + 3, none⟩ (.int .i64 (src fault P x.a))) (some ⟨g, 0, none⟩) (L.set n (readI (src fault P) x)) ∧ Fs (fun b => b = g ∨ aaB x b) w (Y.setCell ⟨g, n * 7 + 3, none⟩ (.int .i64 (src fault P x.a)))) := fun X Y hX hY => by
    rw [hrI]
    have h1 := InsL.setF ((NX.out X hX).keep hY) (x := { x with b := src fault P x.b }) (List.getElem?_set_self hnl) (y := { x with a := src fault P x.a, b := src fault P x.b }) (j := 3) (u := .int .i64 (src fault P x.a)) (by omega) rfl ⟨rfl, rfl, rfl⟩ rfl (fun W' h => ⟨h.op, h.ty, h.dst, i64_in hsa (by omega), h.b, h.imm, h.sok, h.args⟩)
    rw [List.set_set] at h1
    exact ⟨h1, (((Fs.of_q hX).set (p := ⟨g, n * 7 + 4, none⟩) (Or.inl (Or.inl rfl)) _).trans (Fs.of_q hY)).set (p := ⟨g, n * 7 + 3, none⟩) (Or.inl (Or.inl rfl)) _⟩
  have UC := hideIt (uses_n hxo ho hr)
  have SB := hideIt (fun X (hX : Q w X) => source_any X R Wb fault first _ _ _ ws P (hrd.q hX) x.b hb)
  have SA := hideIt (fun X (hX : Q w X) => source_any (X.setCell ⟨g, n * 7 + 4, none⟩ (.int .i64 (src fault P x.b))) R Wb fault first _ _ _ ws P ((hrd.q hX).setI hP hRg _) x.a ha)
  have HC := hideIt (fun X (hX : Q w X) => show X.cell? ⟨g, n * 7 + 3, none⟩ = some (.int .i64 x.a) ∧ X.cell? ⟨g, n * 7 + 4, none⟩ = some (.int .i64 x.b) ∧ X.frozen? ⟨g, n * 7 + 4, none⟩ = false from ⟨cell_keep hX c3, cell_keep hX c4, free_of_block (heap_keep hX hblk) _⟩)
  have HD := hideIt (fun X Y (hX : Q w X) (hY : Q (X.setCell ⟨g, n * 7 + 4, none⟩ (.int .i64 (src fault P x.b))) Y) => show Y.cell? ⟨g, n * 7 + 3, none⟩ = some (.int .i64 x.a) ∧ Y.frozen? ⟨g, n * 7 + 3, none⟩ = false from ⟨cell_keep hY (set_cell_ne (cell_keep hX c3) (fun q => by injection q with q1 q2; omega)), free_of_block (heap_keep hY (block_setCell (heap_keep hX hblk) _)) _⟩)
  have hne : decide (x.op = 32) = false := by simpa using ho
  clear hil hx hat hxo hrI hr hrd hin ha hb hsa hsb hblk NX
  go_enter Try.func41, Try.ntmps41
  go_wp2_with (first
    | (go_at_call 52; refine UC.out.mono ?_; rintro e y ⟨ao, c, rfl, q⟩; have HQ := hideIt q; clear q c0 c1 c2 c3 c4 c5 c6; obtain ⟨d3, d4, -⟩ := HC.out y HQ.out)
    | (go_at_call 43; first
        | (have hh := HZ; clear hh; refine Calls.mono (SA.out z HZ.out) ?_; rintro e v ⟨rfl, q⟩; have HV := hideIt q; clear q d3 d4; obtain ⟨d3, f3⟩ := HD.out z v HZ.out HV.out)
        | (refine Calls.mono (SB.out y HQ.out) ?_; rintro e z ⟨rfl, q⟩; have HZ := hideIt (HQ.out.trans q); clear q d3 d4; obtain ⟨d3, d4, f4⟩ := HC.out z HZ.out))
    | fail)
  go_end0
  exact ⟨rfl, FIN.out _ _ HZ.out HV.out⟩

theorem read_any (w : World) (R Wb lo g n ic : Nat) (fault : Bool) (first : Int) (ws : List Int) (P L : List PI) (x : PI) (hil : InsL lo w (some ⟨g, 0, none⟩) L) (hx : L[n]? = some x) (hnm : n ≤ 4398046511104) (hrd : RdOk w R Wb fault first (some ⟨g, 0, none⟩) L.length ic ws P) (hP : P.length ≤ n) (hin : InR ws.length x) (hws : ws.length ≤ 9223372036854775807) (hRg : R ≠ g ∧ Wb ≠ g) (hRb : ∀ b, aaB x b → R ≠ b ∧ Wb ≠ b) :
    Calls Try.prog 41 #[.pointer (some ⟨R, 0, none⟩), .pointer (some ⟨g, n * 7, none⟩)] w fun e w' => e = .returned (.tuple #[]) ∧ InsL lo w' (some ⟨g, 0, none⟩) (L.set n (readI (src fault P) x)) ∧ Fs (fun b => b = g ∨ aaB x b) w w' := by
  by_cases ho : x.op = 32
  · exact read_call w R Wb lo g n ic fault first ws P L x hil hx hnm hrd hP hin hws hRg hRb ho
  · have hl := rdP_le x.op
    rcases Nat.lt_or_ge (rdP x.op) 1 with h | h
    · exact read_none w R lo g n _ L x hil hx ho (by omega)
    · rcases Nat.lt_or_ge (rdP x.op) 2 with h2 | h2
      · exact read_one w R Wb lo g n ic fault first ws P L x hil hx hrd hin hws ho (by omega)
      · exact read_two w R Wb lo g n ic fault first ws P L x hil hx hrd hP hin hws hRg ho (by omega)

end Go.Proofs.Ytipmbamcldlmeaa.Pp
