/-
  What number returns: a contract over the program; the conditions: a length that fits, and the two lists of layer 4 lie as its text lays them.
-/
import Derived.Test.YtkjkobiliinneaaDoorBaseD
namespace Go.Proofs.YtkjkobiliinneaaDoor
open Go.RowKit
set_option linter.unusedVariables false

/-- The world behind the making of an empty token. -/
abbrev tokd (w : World) : World := w.alloc (.cells #[.int .u8 0, .string ⟨#[]⟩, .int .i64 0, .int .u8 0, .int .i64 0] 35)
theorem tokd_q (w : World) : Q w (tokd w) := (Q.refl _).alloc _
theorem tok_cells {w x : World} (q : Q (tokd w) x) : x.cell? ⟨w.heap.size, 0, none⟩ = some (.int .u8 0) ∧ x.cell? ⟨w.heap.size, 1, none⟩ = some (.string ⟨#[]⟩) ∧ x.cell? ⟨w.heap.size, 2, none⟩ = some (.int .i64 0) ∧ x.cell? ⟨w.heap.size, 3, none⟩ = some (.int .u8 0) ∧ x.cell? ⟨w.heap.size, 4, none⟩ = some (.int .i64 0) ∧ x.frozen? ⟨w.heap.size, 0, none⟩ = false ∧ x.frozen? ⟨w.heap.size, 1, none⟩ = false ∧ x.frozen? ⟨w.heap.size, 2, none⟩ = false ∧ x.frozen? ⟨w.heap.size, 3, none⟩ = false ∧ x.frozen? ⟨w.heap.size, 4, none⟩ = false := by
  have h : x.heap[w.heap.size]? = some (.cells #[.int .u8 0, .string ⟨#[]⟩, .int .i64 0, .int .u8 0, .int .i64 0] 35 (0, 0)) := (q.block _ (by simp)).trans (heap_alloc_new w _)
  have hc : ∀ j, x.cell? ⟨w.heap.size, j, none⟩ = (#[.int .u8 0, .string ⟨#[]⟩, .int .i64 0, .int .u8 0, .int .i64 0] : Array Value)[j]? := fun j => by simp [World.cell?, h]
  have hf : ∀ j, x.frozen? ⟨w.heap.size, j, none⟩ = false := fun j => by simp [World.frozen?, h]
  exact ⟨hc 0, hc 1, hc 2, hc 3, hc 4, hf 0, hf 1, hf 2, hf 3, hf 4⟩

theorem digs_all (l : List UInt8) : ∀ c ∈ l.take (Lx.digN l), Lx.digit c = true := by
  intro c hc
  rw [Lx.take_dig] at hc
  induction l with
  | nil => simp at hc
  | cons d l ih =>
    by_cases h : Lx.digit d = true
    · simp [h] at hc
      rcases hc with rfl | hc
      · exact h
      · exact ih hc
    · simp [h] at hc

theorem fits_six (v : Int) : Lx.fits 6 v = false := by simp [Lx.fits]

set_option maxHeartbeats 1000000 in
set_option maxRecDepth 100000 in
theorem number_any (s : ByteArray) (w : World) (hs : s.size ≤ 65536) (hL : Laid w) :
    Calls Tryd.prog 20 #[.string s] w fun e w' => e = .returned (optV (Lx.numberT (bl s))) ∧ Q w w' := by
  have HC0 := hideIt (cut_any s (tokd w))
  have hbl := Lx.body_len (bl s)
  rw [bl_len] at hbl
  -- the body, by the contract of CutPrefix: it is the one text with those bytes
  obtain ⟨b, hb⟩ : ∃ b : ByteArray, bl b = Lx.body (bl s) := ⟨⟨(Lx.body (bl s)).toArray⟩, bl_mk _⟩
  have HC : Hid (Calls Tryd.prog 32 #[.string s, .string ⟨#[35, 45]⟩] (tokd w) fun e w' => e = .returned (.tuple #[.string b, .bool (Lx.minusB (bl s))]) ∧ w' = tokd w) := by
    refine HC0.out.mono ?_
    rintro e w' ⟨⟨b', h1, rfl⟩, rfl⟩
    rw [bl_inj (h1.trans hb.symm)]
    exact ⟨rfl, rfl⟩
  have hbs : b.size ≤ s.size := by rw [← bl_len b, hb]; exact hbl
  have HD := hideIt (fun w => digits_any b w (by omega))
  have hd1 := Lx.digN_le (bl b)
  rw [bl_len] at hd1
  have en : Lx.numberT (bl s) = if Lx.numOk (Lx.minusB (bl s)) (bl b) then some ⟨3, (bl s).take (s.size - b.size + (Lx.digN (bl b) + Lx.runN ((bl b).drop (Lx.digN (bl b))))), Lx.numV (Lx.minusB (bl s)) (bl b), Lx.intT (Lx.tail (bl b))⟩ else none := by
    unfold Lx.numberT
    rw [← hb, bl_len, bl_len]
  rw [en]
  clear en HC0 hbl
  have hE := extract_take b (Lx.digN (bl b))
  have HV0 : Lx.digN (bl b) ≤ 10 → Hid (∀ w, Calls Tryd.prog 34 #[.string (b.extract 0 (Lx.digN (bl b)))] w fun e w' => e = .returned (.int .i64 (Lx.val ((bl b).take (Lx.digN (bl b))))) ∧ w' = w) := by
    intro h w
    have := value_any (b.extract 0 (Lx.digN (bl b))) w (by rw [← bl_len, bl_extract]; simp; omega) (by rw [bl_extract]; simpa using digs_all (bl b))
    rw [bl_extract] at this
    simpa using this
  have hvb : Lx.digN (bl b) ≤ 10 → 0 ≤ Lx.val ((bl b).take (Lx.digN (bl b))) ∧ Lx.val ((bl b).take (Lx.digN (bl b))) < 100000000000 := fun h => val_bd _ (digs_all _) (by rw [List.length_take]; omega)
  have ed : Lx.digsOk (bl b) = (decide (1 ≤ Lx.digN (bl b)) && decide (Lx.digN (bl b) ≤ 10) && !(decide (1 < Lx.digN (bl b)) && decide ((bl b).head? = some 48))) := rfl
  have er := bl_from b (Lx.digN (bl b))
  have HRN0 := hideIt (fun w => run_any (b.extract (Lx.digN (bl b)) b.size) w (by rw [← bl_len, er, List.length_drop, bl_len]; omega))
  rw [er] at HRN0
  have hrl := Lx.runN_le ((bl b).drop (Lx.digN (bl b)))
  rw [List.length_drop, bl_len] at hrl
  have et : bl (b.extract (Lx.digN (bl b)) (Lx.digN (bl b) + Lx.runN ((bl b).drop (Lx.digN (bl b))))) = Lx.tail (bl b) := by
    rw [bl_extract]
    unfold Lx.tail
    rw [Nat.add_sub_cancel_left]
  have HI0 := hideIt (int_any (b.extract (Lx.digN (bl b)) (Lx.digN (bl b) + Lx.runN ((bl b).drop (Lx.digN (bl b))))) (tokd w) (hL.keep (tokd_q w)))
  rw [et] at HI0
  have eno : ∀ m, Lx.numOk m (bl b) = (Lx.digsOk (bl b) && !(m && decide (Lx.val ((bl b).take (Lx.digN (bl b))) = 0)) && Lx.fits (Lx.intT (Lx.tail (bl b))) (if m then - Lx.val ((bl b).take (Lx.digN (bl b))) else Lx.val ((bl b).take (Lx.digN (bl b))))) := fun m => rfl
  have env : ∀ m, Lx.numV m (bl b) = if m then - Lx.val ((bl b).take (Lx.digN (bl b))) else Lx.val ((bl b).take (Lx.digN (bl b))) := fun m => rfl
  rw [eno, env, ed]
  have hit := intT_le (Lx.tail (bl b))
  unfold intV intB at HI0
  have hh : ∀ h : 0 < b.size, decide ((bl b).head? = some 48) = ((b[0].toNat : Int) == 48) := by
    intro h
    have := bl_at b 0 h
    simp only [List.drop_zero] at this
    rw [this, List.head?_cons, Bool.eq_iff_iff]
    simp only [Option.some.injEq, decide_eq_true_eq, beq_iff_eq]
    constructor
    · intro e; rw [e]; rfl
    · intro e; exact UInt8.toNat_inj.1 (by show b[0].toNat = 48; omega)
  generalize Lx.val ((bl b).take (Lx.digN (bl b))) = v at *
  generalize Lx.intT (Lx.tail (bl b)) = t at *
  generalize Lx.runN ((bl b).drop (Lx.digN (bl b))) = r at *
  generalize Lx.digN (bl b) = d at *
  generalize Lx.minusB (bl s) = m at *
  have HT := hideIt (extract_take s (s.size - b.size + (d + r)))
  clear ed er et eno env hE
  have hdi : (0 : Int) ≤ (d : Int) := by omega
  by_cases h1 : 1 ≤ d
  · have g1 : decide ((d : Int) < 1) = false := by simp; omega
    rw [decide_eq_true h1]
    by_cases h10 : d ≤ 10
    · have g10 : decide ((10 : Int) < (d : Int)) = false := by simp; omega
      rw [decide_eq_true h10]
      have HV := HV0 h10
      have hvb := hvb h10
      have HRN := HRN0
      have hz : (0 : Int) < (b.size : Int) := by omega
      have hh' := hh (by omega)
      rw [hh']
      generalize hzz : ((b[0].toNat : Int) == 48) = z at *
      have two : (1 < d ∧ z = true) ∨ ((1 < d ∧ z = false) ∨ ¬ 1 < d) := by
        cases z <;> by_cases h : 1 < d <;> simp [h]
      rcases two with ⟨hone, rfl⟩ | two
      · have gone : decide ((1 : Int) < (d : Int)) = true := by simp; omega
        rw [decide_eq_true hone, if_neg (by simp)]
        clear HV0 HRN0 HI0 hh HT
        go_enter Tryd.func20, Tryd.ntmps20
        go_wp2_with (first | (go_at_call 32; refine HC.out.mono ?_; rintro e w' ⟨rfl, rfl⟩) | (go_at_call 33; refine (HD.out _).mono ?_; rintro e w' ⟨rfl, rfl⟩) | (go_at_call 29; refine (HRN.out _).mono ?_; rintro e w' ⟨rfl, rfl⟩) | (go_at_call 12; refine HI.out.mono ?_; rintro e w' ⟨rfl, rfl⟩) | (go_at_call 34; refine (HV.out _).mono ?_; rintro e w' ⟨rfl, rfl⟩) | (go_at_call 35; refine (HF.out _).mono ?_; rintro e x ⟨rfl, q⟩; obtain ⟨c0, c1, c2, c3, c4, z0, z1, z2, z3, z4⟩ := tok_cells q; have HQ := hideIt q; clear q))
        exact bodyPost_ret (v := tkV 0 ⟨#[]⟩ 0 0 0) (by simp [results, Tryd.results20, go_sem]) rfl ⟨rfl, (Q.refl _).alloc _⟩
      · have hok : (true && true && !(decide (1 < d) && z)) = true := by
          rcases two with ⟨h, rfl⟩ | h
          · rw [decide_eq_true h]; rfl
          · rw [decide_eq_false h]; rfl
        rw [hok, Bool.true_and]
        have gone : (decide ((1 : Int) < (d : Int)) = true ∧ ((b[0].toNat : Int) == 48) = false) ∨ decide ((1 : Int) < (d : Int)) = false := by
          rcases two with ⟨h, rfl⟩ | h
          · left; exact ⟨by simp; omega, hzz⟩
          · right; simp; omega
        have hdr : d + r ≤ b.size := by omega
        have hdri : (d : Int) + (r : Int) ≤ (b.size : Int) := by omega
        clear hok two hh hh' hzz HV0 HRN0 z
        by_cases ht : t < 6
        · rw [if_pos ht, decide_eq_true ht] at HI0
          have HI := HI0
          clear HI0
          cases m with
          | false =>
            have HF := hideIt (fun w => fits_any t v w ht)
            simp only [Bool.false_and, Bool.not_false, Bool.true_and, Bool.false_eq_true, if_false]
            generalize Lx.fits t v = f at *
            cases f with
            | true =>
              rw [if_pos rfl]
              rcases gone with ⟨g2, g3⟩ | g2
              all_goals
                go_enter Tryd.func20, Tryd.ntmps20
                go_wp2_with (first | (go_at_call 32; refine HC.out.mono ?_; rintro e w' ⟨rfl, rfl⟩) | (go_at_call 33; refine (HD.out _).mono ?_; rintro e w' ⟨rfl, rfl⟩) | (go_at_call 29; refine (HRN.out _).mono ?_; rintro e w' ⟨rfl, rfl⟩) | (go_at_call 12; refine HI.out.mono ?_; rintro e w' ⟨rfl, rfl⟩) | (go_at_call 34; refine (HV.out _).mono ?_; rintro e w' ⟨rfl, rfl⟩) | (go_at_call 35; refine (HF.out _).mono ?_; rintro e x ⟨rfl, q⟩; obtain ⟨c0, c1, c2, c3, c4, z0, z1, z2, z3, z4⟩ := tok_cells q; have HQ := hideIt q; clear q))
                refine bodyPost_ret (v := tkV 3 ⟨((bl s).take (s.size - b.size + (d + r))).toArray⟩ v t 0) (by simp [results, Tryd.results20, go_sem, *]; exact HT.out) rfl ⟨rfl, ?_⟩
                repeat (refine Below.setCell ?_ (by simp) _)
                exact (tokd_q w).trans HQ.out
            | false =>
              rw [if_neg (by decide)]
              rcases gone with ⟨g2, g3⟩ | g2
              all_goals
                go_enter Tryd.func20, Tryd.ntmps20
                go_wp2_with (first | (go_at_call 32; refine HC.out.mono ?_; rintro e w' ⟨rfl, rfl⟩) | (go_at_call 33; refine (HD.out _).mono ?_; rintro e w' ⟨rfl, rfl⟩) | (go_at_call 29; refine (HRN.out _).mono ?_; rintro e w' ⟨rfl, rfl⟩) | (go_at_call 12; refine HI.out.mono ?_; rintro e w' ⟨rfl, rfl⟩) | (go_at_call 34; refine (HV.out _).mono ?_; rintro e w' ⟨rfl, rfl⟩) | (go_at_call 35; refine (HF.out _).mono ?_; rintro e x ⟨rfl, q⟩; obtain ⟨c0, c1, c2, c3, c4, z0, z1, z2, z3, z4⟩ := tok_cells q; have HQ := hideIt q; clear q))
                refine bodyPost_ret (v := tkV 0 ⟨#[]⟩ 0 0 0) (by simp [results, Tryd.results20, go_sem, *]) rfl ⟨rfl, ?_⟩
                repeat (refine Below.setCell ?_ (by simp) _)
                exact (tokd_q w).trans HQ.out
          | true =>
            simp only [Bool.true_and, if_true]
            by_cases hv0 : v = 0
            · have gv : (v != 0) = false := by simp [hv0]
              rw [decide_eq_true hv0]
              simp only [Bool.not_true, Bool.false_and]
              rw [if_neg (by decide)]
              clear hv0
              rcases gone with ⟨g2, g3⟩ | g2
              all_goals
                go_enter Tryd.func20, Tryd.ntmps20
                go_wp2_with (first | (go_at_call 32; refine HC.out.mono ?_; rintro e w' ⟨rfl, rfl⟩) | (go_at_call 33; refine (HD.out _).mono ?_; rintro e w' ⟨rfl, rfl⟩) | (go_at_call 29; refine (HRN.out _).mono ?_; rintro e w' ⟨rfl, rfl⟩) | (go_at_call 12; refine HI.out.mono ?_; rintro e w' ⟨rfl, rfl⟩) | (go_at_call 34; refine (HV.out _).mono ?_; rintro e w' ⟨rfl, rfl⟩) | (go_at_call 35; refine (HF.out _).mono ?_; rintro e x ⟨rfl, q⟩; obtain ⟨c0, c1, c2, c3, c4, z0, z1, z2, z3, z4⟩ := tok_cells q; have HQ := hideIt q; clear q))
                exact bodyPost_ret (v := tkV 0 ⟨#[]⟩ 0 0 0) (by simp [results, Tryd.results20, go_sem]) rfl ⟨rfl, (Q.refl _).alloc _⟩
            · have gv : (v != 0) = true := by simp [hv0]
              rw [decide_eq_false hv0]
              simp only [Bool.not_false, Bool.true_and]
              have HF := hideIt (fun w => fits_any t (-v) w ht)
              generalize Lx.fits t (-v) = f at *
              clear hv0
              cases f with
              | true =>
                rw [if_pos rfl]
                rcases gone with ⟨g2, g3⟩ | g2
                all_goals
                  go_enter Tryd.func20, Tryd.ntmps20
                  go_wp2_with (first | (go_at_call 32; refine HC.out.mono ?_; rintro e w' ⟨rfl, rfl⟩) | (go_at_call 33; refine (HD.out _).mono ?_; rintro e w' ⟨rfl, rfl⟩) | (go_at_call 29; refine (HRN.out _).mono ?_; rintro e w' ⟨rfl, rfl⟩) | (go_at_call 12; refine HI.out.mono ?_; rintro e w' ⟨rfl, rfl⟩) | (go_at_call 34; refine (HV.out _).mono ?_; rintro e w' ⟨rfl, rfl⟩) | (go_at_call 35; refine (HF.out _).mono ?_; rintro e x ⟨rfl, q⟩; obtain ⟨c0, c1, c2, c3, c4, z0, z1, z2, z3, z4⟩ := tok_cells q; have HQ := hideIt q; clear q))
                  refine bodyPost_ret (v := tkV 3 ⟨((bl s).take (s.size - b.size + (d + r))).toArray⟩ (-v) t 0) (by simp [results, Tryd.results20, go_sem, *]; exact HT.out) rfl ⟨rfl, ?_⟩
                  repeat (refine Below.setCell ?_ (by simp) _)
                  exact (tokd_q w).trans HQ.out
              | false =>
                rw [if_neg (by decide)]
                rcases gone with ⟨g2, g3⟩ | g2
                all_goals
                  go_enter Tryd.func20, Tryd.ntmps20
                  go_wp2_with (first | (go_at_call 32; refine HC.out.mono ?_; rintro e w' ⟨rfl, rfl⟩) | (go_at_call 33; refine (HD.out _).mono ?_; rintro e w' ⟨rfl, rfl⟩) | (go_at_call 29; refine (HRN.out _).mono ?_; rintro e w' ⟨rfl, rfl⟩) | (go_at_call 12; refine HI.out.mono ?_; rintro e w' ⟨rfl, rfl⟩) | (go_at_call 34; refine (HV.out _).mono ?_; rintro e w' ⟨rfl, rfl⟩) | (go_at_call 35; refine (HF.out _).mono ?_; rintro e x ⟨rfl, q⟩; obtain ⟨c0, c1, c2, c3, c4, z0, z1, z2, z3, z4⟩ := tok_cells q; have HQ := hideIt q; clear q))
                  refine bodyPost_ret (v := tkV 0 ⟨#[]⟩ 0 0 0) (by simp [results, Tryd.results20, go_sem, *]) rfl ⟨rfl, ?_⟩
                  repeat (refine Below.setCell ?_ (by simp) _)
                  exact (tokd_q w).trans HQ.out
        · have e6 : t = 6 := by omega
          subst e6
          rw [if_neg (by decide), decide_eq_false (by decide)] at HI0
          have HI := HI0
          clear HI0
          rw [fits_six, Bool.and_false, if_neg (by decide)]
          cases m with
          | false =>
            rcases gone with ⟨g2, g3⟩ | g2
            all_goals
              go_enter Tryd.func20, Tryd.ntmps20
              go_wp2_with (first | (go_at_call 32; refine HC.out.mono ?_; rintro e w' ⟨rfl, rfl⟩) | (go_at_call 33; refine (HD.out _).mono ?_; rintro e w' ⟨rfl, rfl⟩) | (go_at_call 29; refine (HRN.out _).mono ?_; rintro e w' ⟨rfl, rfl⟩) | (go_at_call 12; refine HI.out.mono ?_; rintro e w' ⟨rfl, rfl⟩) | (go_at_call 34; refine (HV.out _).mono ?_; rintro e w' ⟨rfl, rfl⟩) | (go_at_call 35; refine (HF.out _).mono ?_; rintro e x ⟨rfl, q⟩; obtain ⟨c0, c1, c2, c3, c4, z0, z1, z2, z3, z4⟩ := tok_cells q; have HQ := hideIt q; clear q))
              exact bodyPost_ret (v := tkV 0 ⟨#[]⟩ 0 0 0) (by simp [results, Tryd.results20, go_sem]) rfl ⟨rfl, (Q.refl _).alloc _⟩
          | true =>
            rcases gone with ⟨g2, g3⟩ | g2
            all_goals
              go_enter Tryd.func20, Tryd.ntmps20
              go_wp2_with (first | (go_at_call 32; refine HC.out.mono ?_; rintro e w' ⟨rfl, rfl⟩) | (go_at_call 33; refine (HD.out _).mono ?_; rintro e w' ⟨rfl, rfl⟩) | (go_at_call 29; refine (HRN.out _).mono ?_; rintro e w' ⟨rfl, rfl⟩) | (go_at_call 12; refine HI.out.mono ?_; rintro e w' ⟨rfl, rfl⟩) | (go_at_call 34; refine (HV.out _).mono ?_; rintro e w' ⟨rfl, rfl⟩) | (go_at_call 35; refine (HF.out _).mono ?_; rintro e x ⟨rfl, q⟩; obtain ⟨c0, c1, c2, c3, c4, z0, z1, z2, z3, z4⟩ := tok_cells q; have HQ := hideIt q; clear q))
              exact bodyPost_ret (v := tkV 0 ⟨#[]⟩ 0 0 0) (by simp [results, Tryd.results20, go_sem]) rfl ⟨rfl, (Q.refl _).alloc _⟩
    · have g10 : decide ((10 : Int) < (d : Int)) = true := by simp; omega
      rw [decide_eq_false h10]
      rw [if_neg (by simp)]
      clear HV0 hvb HRN0 HI0 hh HT
      go_enter Tryd.func20, Tryd.ntmps20
      go_wp2_with (first | (go_at_call 32; refine HC.out.mono ?_; rintro e w' ⟨rfl, rfl⟩) | (go_at_call 33; refine (HD.out _).mono ?_; rintro e w' ⟨rfl, rfl⟩) | (go_at_call 29; refine (HRN.out _).mono ?_; rintro e w' ⟨rfl, rfl⟩) | (go_at_call 12; refine HI.out.mono ?_; rintro e w' ⟨rfl, rfl⟩) | (go_at_call 34; refine (HV.out _).mono ?_; rintro e w' ⟨rfl, rfl⟩) | (go_at_call 35; refine (HF.out _).mono ?_; rintro e x ⟨rfl, q⟩; obtain ⟨c0, c1, c2, c3, c4, z0, z1, z2, z3, z4⟩ := tok_cells q; have HQ := hideIt q; clear q))
      exact bodyPost_ret (v := tkV 0 ⟨#[]⟩ 0 0 0) (by simp [results, Tryd.results20, go_sem]) rfl ⟨rfl, (Q.refl _).alloc _⟩
  · have g1 : decide ((d : Int) < 1) = true := by simp; omega
    rw [decide_eq_false h1]
    rw [if_neg (by simp)]
    clear HV0 hvb HRN0 HI0 hh HT
    go_enter Tryd.func20, Tryd.ntmps20
    go_wp2_with (first | (go_at_call 32; refine HC.out.mono ?_; rintro e w' ⟨rfl, rfl⟩) | (go_at_call 33; refine (HD.out _).mono ?_; rintro e w' ⟨rfl, rfl⟩) | (go_at_call 29; refine (HRN.out _).mono ?_; rintro e w' ⟨rfl, rfl⟩) | (go_at_call 12; refine HI.out.mono ?_; rintro e w' ⟨rfl, rfl⟩) | (go_at_call 34; refine (HV.out _).mono ?_; rintro e w' ⟨rfl, rfl⟩) | (go_at_call 35; refine (HF.out _).mono ?_; rintro e x ⟨rfl, q⟩; obtain ⟨c0, c1, c2, c3, c4, z0, z1, z2, z3, z4⟩ := tok_cells q; have HQ := hideIt q; clear q))
    exact bodyPost_ret (v := tkV 0 ⟨#[]⟩ 0 0 0) (by simp [results, Tryd.results20, go_sem]) rfl ⟨rfl, (Q.refl _).alloc _⟩
end Go.Proofs.YtkjkobiliinneaaDoor
