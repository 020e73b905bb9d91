/-
  For every text the statement ParsePlaces returns true, and its argument reads as it did; the lists of layers 4 and 5 are tied to the program's text; no conditions.
-/
import Derived.Test.YtoilhcklflmamaaGreatDoorKLawP
import Derived.Test.YtoilhcklflmamaaGreatDoorKRfL
import Derived.Test.YtoilhcklflmamaaGreatDoorKPrZc
namespace Go.Proofs.YtoilhcklflmamaaGreatDoor.parsePlaces
open Go.ChangeShapes Go.WideShapes Go.ChangeAt Go.RowKit
open Go.ChangeMaps (open_string shut_string)
open Pr
set_option linter.unusedVariables false

set_option maxRecDepth 100000 in
set_option maxHeartbeats 4000000 in
theorem walk_bad (s : ByteArray) (p k : Nat) (hp : p ≤ s.size) (hk : k = 2 ∨ k = 4 ∨ k = 5) (w : World) (hL : LaidP w)
    (HP : ∀ X, Q w X → Calls Tryz.prog 9 #[.string s] X fun e w' => e = .returned (.tuple #[nodeV (nk 0) (.slice none 0 0), .int .i64 (p : Int), .int .i64 (k : Int)]) ∧ Q X w') :
    Calls Tryz.prog 5 #[.string s] w fun e w' => e = .returned (.bool true) ∧ Below w.heap.size w w' := by
  have HA := hideIt (awake_any w hL)
  have C2 := hideIt HP
  have p1 : decide ((0 : Int) ≤ (p : Int)) = true := by simp
  have p2 : decide ((p : Int) ≤ (s.size : Int)) = true := by simp; omega
  have p3 : decide (p ≤ s.size) = true := by simp [hp]
  clear hL HP hp
  rcases hk with rfl | rfl | rfl
  all_goals
    go_enter Tryz.func5, Tryz.ntmps5
    go_wp2_with (first | (go_at_call 8; refine Calls.mono HA.out ?_; rintro e x1 ⟨rfl, q1⟩; have Q1 := hideIt q1; clear q1) | (go_at_call 9; refine Calls.mono (C2.out _ Q1.out) ?_; rintro e x2 ⟨rfl, q2⟩; have Q2 := hideIt (Q1.out.trans q2); clear q2) | fail)
    go_ret
    exact ⟨rfl, Q2.out.alloc _⟩

set_option maxRecDepth 100000 in
set_option maxHeartbeats 4000000 in
theorem walk_ok (s : ByteArray) (F : Fo) (hd : F.depth + 1 ≤ 40) (hz : F.size + 1 ≤ 4000) (w : World) (hL : LaidP w)
    (HP : ∀ X, Q w X → Calls Tryz.prog 9 #[.string s] X fun e w' => (∃ a c f, e = .returned (.tuple #[nodeV (nk 1) (.slice a (Fo.len f) c), .int .i64 0, .int .i64 0]) ∧ Cp F f ∧ sok a f.len c ∧ In w' a f) ∧ Q X w') :
    Calls Tryz.prog 5 #[.string s] w fun e w' => e = .returned (.bool true) ∧ Below w.heap.size w w' := by
  have HA := hideIt (awake_any w hL)
  have C2 := hideIt HP
  have HF := hideIt (And.intro hd hz)
  clear hL HP hd hz
  go_enter Tryz.func5, Tryz.ntmps5
  go_wp2_with (first | (go_at_call 8; refine Calls.mono HA.out ?_; rintro e x1 ⟨rfl, q1⟩; have Q1 := hideIt q1; clear q1) | (go_at_call 9; refine Calls.mono (C2.out _ Q1.out) ?_; rintro e x2 ⟨⟨a, c, f, rfl, cp, sk, hin⟩, q2⟩; have Q2 := hideIt (Q1.out.trans q2); have C3 := hideIt (fun X (h : In X a f) => rFine_any f (nk 1) a c X h sk); have hf : f.fine = true := (by unfold Fo.fine; rw [cp_depth cp, cp.size]; have := HF.out; simp; omega); rw [hf] at C3; have IN := hideIt hin; clear q2 cp sk hin hf) | (go_at_call 15; refine Calls.mono (C3.out _ (IN.out.keep (Nat.le_refl _) ((Q.refl x2).alloc _))) ?_; rintro e x3 ⟨rfl, q3⟩; have Q3 := hideIt ((Q2.out.alloc _).trans q3); clear q3) | fail)
  go_ret
  exact ⟨rfl, Q3.out⟩

theorem walk (s : ByteArray) (hs : s.size ≤ 140737488351232) (w : World) (hL : LaidP w) :
    Calls Tryz.prog 5 #[.string s] w fun e w' => e = .returned (.bool true) ∧ Below w.heap.size w w' := by
  by_cases hl : s.size ≤ 65536
  · have hbl : (bl s).length ≤ 65536 := by rw [bl_len]; exact hl
    cases hf : (Lx.lex 0 (bl s)).2 with
    | some p =>
      have hp : p ≤ s.size := by have := lex_fault (bl s).length (bl s) (Nat.le_refl _) 0 p hf; rw [bl_len] at this; omega
      exact walk_bad s p 5 hp (Or.inr (Or.inr rfl)) w hL fun X q => parse_lexbad s X (hL.keep q) hl p hf
    | none =>
      have hn := toks_len (bl s) hbl
      have hpost := prog_post (bl s) hbl
      cases hr : prog (toks (bl s)) with
      | out => rw [hr] at hpost; exact hpost.elim
      | bad k p =>
        have hp : p ≤ s.size := by have := prog_place hr; rw [bl_len] at this; exact this
        rw [hr] at hpost
        exact walk_bad s p k hp hpost.1 w hL fun X q => parse_bad s X (hL.keep q) hl hf hn k p hr
      | ok x st =>
        rw [hr] at hpost
        obtain ⟨hw, hc, _, hok⟩ := hpost
        have h4 := hw.c
        by_cases hd : x.2.depth + 1 ≤ 40
        · refine walk_ok s x.2 hd (by omega) w hL fun X q => (parse_ok s X (hL.keep q) hl hf hn x st hr hd).mono ?_
          rintro e w' ⟨⟨a, c, f, h1, h2, h3, h4, _⟩, q'⟩
          rw [prog_first hr] at h1
          exact ⟨⟨a, c, f, h1, h2, h3, h4⟩, q'⟩
        · exact walk_bad s 0 4 (Nat.zero_le _) (Or.inr (Or.inl rfl)) w hL fun X q => parse_deep s X (hL.keep q) hl hf hn x st hr (by omega)
  · exact walk_bad s 0 2 (Nat.zero_le _) (Or.inl rfl) w hL fun X q => parse_long s X (hL.keep q) (by omega)

set_option maxRecDepth 100000 in
theorem lifted (os : Os) (started : os.Started) (H : Type) (enc : TypeId × Value → H) :
    ReturnsInHanded {} Tryz.checked os 5 .any (fun w args => (Rows.parsePlacesSpec.pre enc Tryz.prog Tryz.f5 [] false w args ∧ laidMetH Tryz.prog laidBoth w) ∧ sizedMet enc Tryz.prog Tryz.f5 (OpenSpec.ofChange Rows.parsePlacesSpec) false w args)
      (Rows.parsePlacesSpec.post enc Tryz.prog Tryz.f5 false true false false) := by
  refine returnsInHanded_of_change_and (C := Tryz.checked) (X := fun w _ => laidMetH Tryz.prog laidBoth w) (fun _ _ _ hh h => h.of_heap hh) own started (by kernel_rfl) Tryz.func5
    (ChangeSpec.witness_shaped (enc := enc) (C := Tryz.checked) (os := os) (X := fun w _ => laidMetH Tryz.prog laidBoth w) false (World.doorLaid Tryz.prog 39 os) #[.string ⟨#[]⟩] 8 rfl (World.shaped_of_RefB (by kernel_rfl) (by kernel_rfl)) (by kernel_rfl) (by kernel_rfl) (by kernel_rfl) (door_met os _)) ?_
  intro W base args ds gs before hval0 hW _ hz hL _
  have hval : ∀ (j : Nat) t v, Tryz.f5.params[j]? = some t → args[j]? = some v → Value.okWide Tryz.prog W .any base t v := hval0
  have hW' := hW
  obtain ⟨p, q, hA0, hV, rfl, hfz, hnd⟩ := hW
  have hA : DataW.TrodAll enc Tryz.prog W 0 (fun _ => true) true Tryz.f5.params.toList args.toList ds p := hA0
  rw [Tryz.params5] at hA hval
  obtain ⟨v0, vs0, d0, ds0, p0, q0, hargs, rfl, rfl, h0, r0⟩ := trodAll_cons hA
  obtain ⟨rfl, rfl, rfl⟩ := trodAll_nil r0
  obtain rfl : args = #[v0] := by cases args; simp_all
  obtain ⟨rfl, rfl⟩ := trodVars_none hV
  have k0 := h0
  have lt0 : ∀ x ∈ p0, x.block < W.heap.size := by obtain ⟨m, hm⟩ := k0; exact DataW.trod_lt m _ _ _ hm
  obtain ⟨s0, rfl, hd0, _, _⟩ := open_string Tryz.underlying9 (hval 0 9 v0 rfl rfl) h0
  have ws0 : s0.size ≤ 140737488351232 := by rw [Lib.size_eq]; exact sized_string hz (j := 0) (t := 9) (by rw [Tryz.params5]; rfl) (by rw [hd0]; rfl)
  clear hA0 hval0
  refine (walk s0 ws0 W (of_laid hL)).mono fun e W' ⟨he, bel⟩ => ?_
  subst he
  exact ⟨_, rfl, _, _, _, [], _, [], hW', trodAll_mk1 (shut_bool Tryz.underlying4 _), (trodAll_cons_mk (Below.trod laidOut (by kernel_rfl) (of_decide_eq_true (by kernel_rfl)) k0 bel lt0) trodAll_mk0), rfl, bel.frame _, fun h => by cases h⟩

theorem over : Rows.ParsePlacesSaid :=
  OpenClaim.holds_of_wide 5 Tryz.f5 rfl rfl rfl rfl rfl rfl rfl ⟨rfl, rfl, rfl, rfl, rfl⟩ rfl rfl rfl rfl rfl (by kernel_rfl) Tryz.func5 (by kernel_rfl)
    (of_decide_eq_true (by kernel_rfl)) (by unfold Func.isWrapper; first | (rw [if_pos (by decide +kernel)]; kernel_rfl) | (rw [if_neg (by decide +kernel)]; exact ⟨rfl, rfl⟩))
    (fun os started H enc _ => lifted os started H enc)

/-- THE STATEMENT -/
theorem proved : Rows.ParsePlacesCardSaid :=
  Claim7.holds_tied_plain_at .later [] [.data, .data, .data] true (true, "38633228dfd1c445e316daefc5f5830a192a963cd2d43c2fb39f69237d0f4085") true
    over (fun _ h => by cases h) (by kernel_rfl) (fun _ h => by cases h) parsePlaces_row_tie rfl ⟨rfl, rfl⟩ (by kernel_rfl) rfl
    (fun f fn hf hfn => by
      obtain rfl : f = 5 := Option.some.inj ((show Tryz.prog.funcNamed "burin/burinlaw05.ParsePlaces" = some 5 by kernel_rfl).symm.trans hf) |>.symm
      obtain rfl : fn = Tryz.f5 := (Option.some.inj (Tryz.func5.symm.trans hfn)).symm
      exact ⟨by kernel_rfl, fun j t ht => by
        rw [Tryz.params5] at ht
        have hm : t ∈ [9] := by simpa using Array.mem_of_getElem? ht
        have hall : ([9].all fun u => !Tryz.prog.wantsStandIn u) = true := by kernel_rfl
        exact (show Tryz.prog.wantsStandIn t = false by simpa using List.all_eq_true.1 hall t hm)⟩)
    (by kernel_rfl)
#print axioms proved
end Go.Proofs.YtoilhcklflmamaaGreatDoor.parsePlaces
