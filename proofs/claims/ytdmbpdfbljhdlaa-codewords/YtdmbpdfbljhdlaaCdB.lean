/-
  Encode of layer 24, and the statements' example: contracts over the program, for every number.
-/
import Derived.Test.YtdmbpdfbljhdlaaCdA
import Derived.Deep.RegionWith
namespace Go.Proofs.Ytdmbpdfbljhdlaa.Cd
open Go.RowKit
set_option linter.unusedVariables false

def mx4 (a b c d : Int) : Int := max (max (max a b) c) d
theorem ite_max (x y : Int) : (if y > x then y else x) = max x y := by omega
theorem run_max4 {P : Program} {w : World} (ts : Array TypeId) (t : TypeId) (a b c d : Int) : (Builtin.max_ ts t #[.int .u8 a, .int .u8 b, .int .u8 c, .int .u8 d]).run P w = .ok (.int .u8 (mx4 a b c d)) w := by
  simp [Builtin.max_, Builtin.max2, mx4, ite_max]
  try omega
theorem enc_ok (o t d a b i : Int) (w : World) (ho : 0 ≤ o ∧ o ≤ 255) (ht : 0 ≤ t ∧ t ≤ 15) (hd : 0 ≤ d ∧ d ≤ 15) (ha : 0 ≤ a ∧ a ≤ 15) (hb : 0 ≤ b ∧ b ≤ 15) (hi : 0 ≤ i ∧ i ≤ 4294967295) :
    Calls Try.prog 6 #[wv o t d a b i] w fun e w' => e = .returned (.tuple #[.int .u64 (pk o t d a b i), .int .i64 0]) ∧ Q w w' := by
  have hm := @run_max4
  have hg : decide (15 < mx4 t d a b) = false := by unfold mx4; simp; omega
  go_enter Try.func6, Try.ntmps6
  go_wp2_with (first | (go_at_call 9; refine (pack_any o t d a b i _ ho ht hd ha hb hi).mono ?_; rintro e w1 ⟨rfl, hq⟩) | fail)
  go_ret2
  exact ⟨rfl, ((Q.refl _).alloc _).trans hq⟩
theorem enc_bad (o t d a b i : Int) (w : World) (hg : 15 < t ∨ 15 < d ∨ 15 < a ∨ 15 < b) :
    Calls Try.prog 6 #[wv o t d a b i] w fun e w' => e = .returned (.tuple #[.int .u64 0, .int .i64 3]) ∧ Q w w' := by
  have hm := @run_max4
  have hg : decide (15 < mx4 t d a b) = true := by unfold mx4; simp; omega
  go_enter Try.func6, Try.ntmps6
  go_wp2_with (fail)
  go_ret2
  exact ⟨rfl, (Q.refl _).alloc _⟩

theorem awake_any (w : World) : Calls Try.prog 5 #[] w fun e w' => e = .returned (.bool true) ∧ Q w w' := by
  go_enter Try.func5, Try.ntmps5
  go_wp2_with (first | (go_at_call 6; refine (enc_ok 20 4 1 0 0 5 _ (by decide) (by decide) (by decide) (by decide) (by decide) (by decide)).mono ?_; rintro e w1 ⟨rfl, hq⟩) | fail)
  go_ret
  exact ⟨by rw [show (pk 20 4 1 0 0 5 == 1459447754244751365) = true by decide]; rfl, hq⟩

set_option maxRecDepth 100000 in
set_option maxHeartbeats 2000000 in
theorem back_bad (v : Int) (w : World) (h : U64 v) (hf : v / 4294967296 % 256 ≠ 0) : Calls Try.prog 4 #[.int .u64 v] w fun e w' => e = .returned (.bool true) ∧ Q w w' := by
  have ef : ((v / 4294967296 % 256) != 0) = true := by simpa using hf
  have CA := hideIt (fun X => awake_any X)
  have CD := hideIt (fun X => dec_bad v X h hf)
  have CP := hideIt (fun X => part32 v X h)
  clear h hf
  generalize v / 4294967296 % 256 = z at *
  go_enter Try.func4, Try.ntmps4
  go_wp2_with (first
    | (go_at_call 5; refine (CA.out _).mono ?_; rintro e w1 ⟨rfl, q1⟩)
    | (go_at_call 7; refine (CD.out _).mono ?_; rintro e w2 ⟨rfl, q2⟩)
    | (go_at_call 8; refine (CP.out _).mono ?_; rintro e w3 ⟨rfl, q3⟩; obtain ⟨b0, b1, b2, b3, b4, b5⟩ := box6 q3) | fail)
  go_ret
  exact ⟨rfl, ((q1.trans q2).alloc _).trans q3⟩

set_option maxRecDepth 100000 in
set_option maxHeartbeats 2000000 in
theorem back_ok (v : Int) (w : World) (h : U64 v) (hf : v / 4294967296 % 256 = 0) : Calls Try.prog 4 #[.int .u64 v] w fun e w' => e = .returned (.bool true) ∧ Q w w' := by
  have ef : ((v / 4294967296 % 256) != 0) = false := by simpa using hf
  have CA := hideIt (fun X => awake_any X)
  have CD := hideIt (fun X => dec_ok v X h hf)
  have CP := hideIt (fun X => part32 v X h)
  obtain ⟨h1, h2⟩ := h
  have CE := hideIt (fun X => enc_ok (v / 72057594037927936) (v / 4503599627370496 % 16) (v / 281474976710656 % 16) (v / 17592186044416 % 16) (v / 1099511627776 % 16) (v % 4294967296) X (by omega) (by omega) (by omega) (by omega) (by omega) (by omega))
  have EP := hideIt (show pk (v / 72057594037927936) (v / 4503599627370496 % 16) (v / 281474976710656 % 16) (v / 17592186044416 % 16) (v / 1099511627776 % 16) (v % 4294967296) = v by unfold pk; omega)
  rw [EP.out] at CE
  clear h1 h2 hf EP
  generalize v / 4294967296 % 256 = z at *
  generalize v / 72057594037927936 = z1 at *
  generalize v / 4503599627370496 % 16 = z2 at *
  generalize v / 281474976710656 % 16 = z3 at *
  generalize v / 17592186044416 % 16 = z4 at *
  generalize v / 1099511627776 % 16 = z5 at *
  generalize v % 4294967296 = z6 at *
  go_enter Try.func4, Try.ntmps4
  go_wp2_with (first
    | (go_at_call 5; refine (CA.out _).mono ?_; rintro e w1 ⟨rfl, q1⟩)
    | (go_at_call 7; refine (CD.out _).mono ?_; rintro e w2 ⟨rfl, q2⟩)
    | (go_at_call 6; refine (CE.out _).mono ?_; rintro e w4 ⟨rfl, q4⟩)
    | (go_at_call 8; refine (CP.out _).mono ?_; rintro e w3 ⟨rfl, q3⟩; obtain ⟨b0, b1, b2, b3, b4, b5⟩ := box6 q3) | fail)
  go_ret
  exact ⟨rfl, (((q1.trans q2).alloc _).trans q3).trans q4⟩


theorem back_any (v : Int) (w : World) (h : U64 v) : Calls Try.prog 4 #[.int .u64 v] w fun e w' => e = .returned (.bool true) ∧ Q w w' := by
  by_cases hf : v / 4294967296 % 256 = 0
  · exact back_ok v w h hf
  · exact back_bad v w h hf

theorem heldF {B : World} {F : World → Prop} (hF : ∀ y, Q B y → F y) {K : Nat} {args : Array Value} {r : Ending} (h : ∀ x, Calls Try.prog K args x fun e w' => e = r ∧ Q x w') : ∀ x, Q B x → Calls Try.prog K args x fun e w' => e = r ∧ Q B w' ∧ F w' :=
  fun x hx => (h x).mono fun e w' ⟨e1, q⟩ => ⟨e1, hx.trans q, hF _ (hx.trans q)⟩

set_option maxRecDepth 100000 in
set_option maxHeartbeats 2000000 in
theorem words_bad (o t d a b i : Int) (w : World) (hg : 15 < t ∨ 15 < d ∨ 15 < a ∨ 15 < b) : Calls Try.prog 3 #[wv o t d a b i] w fun e w' => e = .returned (.bool true) ∧ Q w w' := by
  have CA := hideIt (fun X => awake_any X)
  have CE := hideIt (fun X => enc_bad o t d a b i X hg)
  go_enter Try.func3, Try.ntmps3
  go_wp2_with (first
    | (go_at_call 5; refine (CA.out _).mono ?_; rintro e w1 ⟨rfl, q1⟩; obtain ⟨b0, b1, b2, b3, b4, b5⟩ := box6 q1)
    | (go_at_call 6; refine (CE.out _).mono ?_; rintro e w2 ⟨rfl, q2⟩; clear b0 b1 b2 b3 b4 b5; obtain ⟨b0, b1, b2, b3, b4, b5⟩ := box6 (q1.trans q2)) | fail)
  all_goals first | (go_ret; exact ⟨rfl, ((Q.refl _).alloc _).trans (q1.trans q2)⟩) | (exfalso; omega) | trace_state

set_option maxRecDepth 100000 in
set_option maxHeartbeats 4000000 in
set_option linter.unusedSimpArgs false in
theorem words_ok (o t d a b i : Int) (w : World) (ho : 0 ≤ o ∧ o ≤ 255) (ht : 0 ≤ t ∧ t ≤ 15) (hd : 0 ≤ d ∧ d ≤ 15) (ha : 0 ≤ a ∧ a ≤ 15) (hb : 0 ≤ b ∧ b ≤ 15) (hi : 0 ≤ i ∧ i ≤ 4294967295) : Calls Try.prog 3 #[wv o t d a b i] w fun e w' => e = .returned (.bool true) ∧ Q w w' := by
  have CA := hideIt (fun X => awake_any X)
  have CE := hideIt (fun X => enc_ok o t d a b i X ho ht hd ha hb hi)
  have hU := pk_bd o t d a b i ho ht hd ha hb hi
  have f1 : pk o t d a b i / 72057594037927936 = o := by unfold pk; omega
  have f1' : pk o t d a b i / 72057594037927936 % 256 = o := by unfold pk; omega
  have f2 : pk o t d a b i / 4503599627370496 % 16 = t := by unfold pk; omega
  have f3 : pk o t d a b i / 281474976710656 % 16 = d := by unfold pk; omega
  have f4 : pk o t d a b i / 17592186044416 % 16 = a := by unfold pk; omega
  have f5 : pk o t d a b i / 1099511627776 % 16 = b := by unfold pk; omega
  have f6 : pk o t d a b i / 4294967296 % 256 = 0 := by unfold pk; omega
  have f7 : pk o t d a b i % 4294967296 = i := by unfold pk; omega
  have CD := hideIt (fun X => dec_ok (pk o t d a b i) X hU f6)
  have P56 := hideIt (fun X => part56 (pk o t d a b i) X hU)
  have P52 := hideIt (fun X => part52 (pk o t d a b i) X hU)
  have P48 := hideIt (fun X => part48 (pk o t d a b i) X hU)
  have P44 := hideIt (fun X => part44 (pk o t d a b i) X hU)
  have P40 := hideIt (fun X => part40 (pk o t d a b i) X hU)
  have P32 := hideIt (fun X => part32 (pk o t d a b i) X hU)
  have P0 := hideIt (fun X => part0 (pk o t d a b i) X hU)
  rw [f1, f2, f3, f4, f5, f7] at CD
  rw [f1'] at P56
  rw [f2] at P52
  rw [f3] at P48
  rw [f4] at P44
  rw [f5] at P40
  rw [f6] at P32
  rw [f7] at P0
  clear f1 f1' f2 f3 f4 f5 f6 f7 hU
  generalize pk o t d a b i = v at *
  have z1 : IntKind.i64.wrap o = o := by rw [IntKind.wrap_i64]; omega
  have z2 : IntKind.i64.wrap t = t := by rw [IntKind.wrap_i64]; omega
  have z3 : IntKind.i64.wrap d = d := by rw [IntKind.wrap_i64]; omega
  have z4 : IntKind.i64.wrap a = a := by rw [IntKind.wrap_i64]; omega
  have z5 : IntKind.i64.wrap b = b := by rw [IntKind.wrap_i64]; omega
  have z6 : IntKind.i64.wrap i = i := by rw [IntKind.wrap_i64]; omega
  go_enter Try.func3, Try.ntmps3
  go_wp2_with (first
    | (go_at_call 5; refine (CA.out _).mono ?_; rintro e w1 ⟨rfl, q1⟩; obtain ⟨b0, b1, b2, b3, b4, b5⟩ := box6 q1)
    | (go_at_call 6; refine (CE.out _).mono ?_; rintro e w2 ⟨rfl, q2⟩; have qs := q1.trans q2; clear b0 b1 b2 b3 b4 b5; obtain ⟨b0, b1, b2, b3, b4, b5⟩ := box6 qs)
    | (go_at_call 7; refine (CD.out _).mono ?_; rintro e w3 ⟨rfl, q3⟩; clear b0 b1 b2 b3 b4 b5)
    | fail)
  simp only [List.append]
  have HF := hideIt (show ∀ y, Q (w3.alloc (.cells #[.int .u8 o, .int .u8 t, .int .u8 d, .int .u8 a, .int .u8 b, .int .u32 i] 24)) y → y.cell? ⟨w.heap.size, 0, none⟩ = some (.int .u8 o) ∧ y.cell? ⟨w.heap.size, 1, none⟩ = some (.int .u8 t) ∧ y.cell? ⟨w.heap.size, 2, none⟩ = some (.int .u8 d) ∧ y.cell? ⟨w.heap.size, 3, none⟩ = some (.int .u8 a) ∧ y.cell? ⟨w.heap.size, 4, none⟩ = some (.int .u8 b) ∧ y.cell? ⟨w.heap.size, 5, none⟩ = some (.int .u32 i) ∧ y.cell? ⟨w3.heap.size, 0, none⟩ = some (.int .u8 o) ∧ y.cell? ⟨w3.heap.size, 1, none⟩ = some (.int .u8 t) ∧ y.cell? ⟨w3.heap.size, 2, none⟩ = some (.int .u8 d) ∧ y.cell? ⟨w3.heap.size, 3, none⟩ = some (.int .u8 a) ∧ y.cell? ⟨w3.heap.size, 4, none⟩ = some (.int .u8 b) ∧ y.cell? ⟨w3.heap.size, 5, none⟩ = some (.int .u32 i) from fun y hy => by
    obtain ⟨g0, g1, g2, g3, g4, g5⟩ := box6 (qs.trans (q3.trans (((Q.refl _).alloc _).trans hy)))
    obtain ⟨k0, k1, k2, k3, k4, k5⟩ := box6 hy
    exact ⟨g0, g1, g2, g3, g4, g5, k0, k1, k2, k3, k4, k5⟩)
  have R56 := hideIt (heldF HF.out P56.out)
  have R52 := hideIt (heldF HF.out P52.out)
  have R48 := hideIt (heldF HF.out P48.out)
  have R44 := hideIt (heldF HF.out P44.out)
  have R40 := hideIt (heldF HF.out P40.out)
  have R32 := hideIt (heldF HF.out P32.out)
  have R0 := hideIt (heldF HF.out P0.out)
  clear P56 P52 P48 P44 P40 P32 P0 CA CE CD
  refine wp_region_held_drew (S := fun y : World => Q (w3.alloc (.cells #[.int .u8 o, .int .u8 t, .int .u8 d, .int .u8 a, .int .u8 b, .int .u32 i] 24)) y ∧ y.cell? ⟨w.heap.size, 0, none⟩ = some (.int .u8 o) ∧ y.cell? ⟨w.heap.size, 1, none⟩ = some (.int .u8 t) ∧ y.cell? ⟨w.heap.size, 2, none⟩ = some (.int .u8 d) ∧ y.cell? ⟨w.heap.size, 3, none⟩ = some (.int .u8 a) ∧ y.cell? ⟨w.heap.size, 4, none⟩ = some (.int .u8 b) ∧ y.cell? ⟨w.heap.size, 5, none⟩ = some (.int .u32 i) ∧ y.cell? ⟨w3.heap.size, 0, none⟩ = some (.int .u8 o) ∧ y.cell? ⟨w3.heap.size, 1, none⟩ = some (.int .u8 t) ∧ y.cell? ⟨w3.heap.size, 2, none⟩ = some (.int .u8 d) ∧ y.cell? ⟨w3.heap.size, 3, none⟩ = some (.int .u8 a) ∧ y.cell? ⟨w3.heap.size, 4, none⟩ = some (.int .u8 b) ∧ y.cell? ⟨w3.heap.size, 5, none⟩ = some (.int .u32 i)) (by kernel_rfl) (⟨(Q.refl _).drew, HF.out _ (Q.refl _).drew⟩) (fun hHeld => ?_)
  refine wpAnyH_take (i := 0) (oi := ⟨_, _, _, _, _, _⟩) (v := ?_) rfl (by kernel_rfl) (by kernel_rfl) (by kernel_rfl) (fun _ _ _ h => h) (Or.inl ⟨by rfl, ?_⟩) (by assumption) ?_
  rotate_left 1
  · intro w hSw; (try dsimp only at hSw); go_simp; all_goals with_reducible rfl
  try simp only [Act.put, List.setIfInBounds_toArray, List.set_cons_zero, List.set_cons_succ]
  refine wpAnyH_take (i := 1) (oi := ⟨_, _, _, _, _, _⟩) (v := ?_) rfl (by kernel_rfl) (by kernel_rfl) (by kernel_rfl) (fun _ _ _ h => h) (Or.inl ⟨by rfl, ?_⟩) (by assumption) ?_
  rotate_left 1
  · intro w hSw; (try dsimp only at hSw); go_simp; (try simp only [z1, z2, z3, z4, z5, z6, beq_self_eq_true]); all_goals with_reducible rfl
  try simp only [Act.put, List.setIfInBounds_toArray, List.set_cons_zero, List.set_cons_succ]
  refine wpAnyH_take (i := 2) (oi := ⟨_, _, _, _, _, _⟩) (v := ?_) rfl (by kernel_rfl) (by kernel_rfl) (by kernel_rfl) (fun _ _ _ h => h) (Or.inl ⟨by rfl, ?_⟩) (by assumption) ?_
  rotate_left 1
  · intro w hSw; (try dsimp only at hSw); go_simp; all_goals with_reducible rfl
  try simp only [Act.put, List.setIfInBounds_toArray, List.set_cons_zero, List.set_cons_succ]
  refine wpAnyH_take (i := 3) (oi := ⟨_, _, _, _, _, _⟩) (v := ?_) rfl (by kernel_rfl) (by kernel_rfl) (by kernel_rfl) (fun _ _ _ h => h) (Or.inl ⟨by rfl, ?_⟩) (by assumption) ?_
  rotate_left 1
  · intro w hSw; (try dsimp only at hSw); go_simp; all_goals with_reducible rfl
  try simp only [Act.put, List.setIfInBounds_toArray, List.set_cons_zero, List.set_cons_succ]
  refine wpAnyH_take (i := 4) (oi := ⟨_, _, _, _, _, _⟩) (v := ?_) rfl (by kernel_rfl) (by kernel_rfl) (by kernel_rfl) (fun _ _ _ h => h) (Or.inl ⟨by rfl, ?_⟩) (by assumption) ?_
  rotate_left 1
  · intro w hSw; (try dsimp only at hSw); go_simp; (try simp only [z1, z2, z3, z4, z5, z6, beq_self_eq_true]); all_goals with_reducible rfl
  try simp only [Act.put, List.setIfInBounds_toArray, List.set_cons_zero, List.set_cons_succ]
  refine wpAnyH_take (i := 5) (oi := ⟨_, _, _, _, _, _⟩) (v := ?_) rfl (by kernel_rfl) (by kernel_rfl) (by kernel_rfl) (fun _ _ _ h => h) (Or.inl ⟨by rfl, ?_⟩) (by assumption) ?_
  rotate_left 1
  · intro w hSw; (try dsimp only at hSw); go_simp; all_goals with_reducible rfl
  try simp only [Act.put, List.setIfInBounds_toArray, List.set_cons_zero, List.set_cons_succ]
  refine wpAnyH_take (i := 6) (oi := ⟨_, _, _, _, _, _⟩) (v := ?_) rfl (by kernel_rfl) (by kernel_rfl) (by kernel_rfl) (fun _ _ _ h => h) (Or.inl ⟨by rfl, ?_⟩) (by assumption) ?_
  rotate_left 1
  · intro w hSw; (try dsimp only at hSw); go_simp; all_goals with_reducible rfl
  try simp only [Act.put, List.setIfInBounds_toArray, List.set_cons_zero, List.set_cons_succ]
  refine wpAnyH_take (i := 7) (oi := ⟨_, _, _, _, _, _⟩) (v := ?_) rfl (by kernel_rfl) (by kernel_rfl) (by kernel_rfl) (fun _ _ _ h => h) (Or.inl ⟨by rfl, ?_⟩) (by assumption) ?_
  rotate_left 1
  · intro w hSw; (try dsimp only at hSw); go_simp; all_goals with_reducible rfl
  try simp only [Act.put, List.setIfInBounds_toArray, List.set_cons_zero, List.set_cons_succ]
  refine wpAnyH_take (i := 8) (oi := ⟨_, _, _, _, _, _⟩) (v := ?_) rfl (by kernel_rfl) (by kernel_rfl) (by kernel_rfl) (fun _ _ _ h => h) (Or.inl ⟨by rfl, ?_⟩) (by assumption) ?_
  rotate_left 1
  · intro w hSw; (try dsimp only at hSw); go_simp; all_goals with_reducible rfl
  try simp only [Act.put, List.setIfInBounds_toArray, List.set_cons_zero, List.set_cons_succ]
  refine wpAnyH_take (i := 9) (oi := ⟨_, _, _, _, _, _⟩) (v := ?_) rfl (by kernel_rfl) (by kernel_rfl) (by kernel_rfl) (fun _ _ _ h => h) (Or.inl ⟨by rfl, ?_⟩) (by assumption) ?_
  rotate_left 1
  · intro w hSw; (try dsimp only at hSw); go_simp; (try simp only [z1, z2, z3, z4, z5, z6, beq_self_eq_true]); all_goals with_reducible rfl
  try simp only [Act.put, List.setIfInBounds_toArray, List.set_cons_zero, List.set_cons_succ]
  refine wpAnyH_take (i := 10) (oi := ⟨_, _, _, _, _, _⟩) (v := ?_) rfl (by kernel_rfl) (by kernel_rfl) (by kernel_rfl) (fun _ _ _ h => h) (Or.inl ⟨by rfl, ?_⟩) (by assumption) ?_
  rotate_left 1
  · intro w hSw; (try dsimp only at hSw); go_simp; all_goals with_reducible rfl
  try simp only [Act.put, List.setIfInBounds_toArray, List.set_cons_zero, List.set_cons_succ]
  refine wpAnyH_take (i := 11) (oi := ⟨_, _, _, _, _, _⟩) (v := ?_) rfl (by kernel_rfl) (by kernel_rfl) (by kernel_rfl) (fun _ _ _ h => h) (Or.inl ⟨by rfl, ?_⟩) (by assumption) ?_
  rotate_left 1
  · intro w hSw; (try dsimp only at hSw); go_simp; all_goals with_reducible rfl
  try simp only [Act.put, List.setIfInBounds_toArray, List.set_cons_zero, List.set_cons_succ]
  refine wpAnyH_take (i := 12) (oi := ⟨_, _, _, _, _, _⟩) (v := ?_) rfl (by kernel_rfl) (by kernel_rfl) (by kernel_rfl) (fun _ _ _ h => h) (Or.inl ⟨by rfl, ?_⟩) (by assumption) ?_
  rotate_left 1
  · intro w hSw; (try dsimp only at hSw); go_simp; all_goals with_reducible rfl
  try simp only [Act.put, List.setIfInBounds_toArray, List.set_cons_zero, List.set_cons_succ]
  refine wpAnyH_take (i := 14) (oi := ⟨_, _, _, _, _, _⟩) (v := ?_) rfl (by kernel_rfl) (by kernel_rfl) (by kernel_rfl) (fun _ _ _ h => h) (Or.inl ⟨by rfl, ?_⟩) (by assumption) ?_
  rotate_left 1
  · intro w hSw; (try dsimp only at hSw); go_simp; all_goals with_reducible rfl
  try simp only [Act.put, List.setIfInBounds_toArray, List.set_cons_zero, List.set_cons_succ]
  refine wpAnyH_take (i := 15) (oi := ⟨_, _, _, _, _, _⟩) (v := ?_) rfl (by kernel_rfl) (by kernel_rfl) (by kernel_rfl) (fun _ _ _ h => h) (Or.inl ⟨by rfl, ?_⟩) (by assumption) ?_
  rotate_left 1
  · intro w hSw; (try dsimp only at hSw); go_simp; all_goals with_reducible rfl
  try simp only [Act.put, List.setIfInBounds_toArray, List.set_cons_zero, List.set_cons_succ]
  refine wpAnyH_take (i := 16) (oi := ⟨_, _, _, _, _, _⟩) (v := ?_) rfl (by kernel_rfl) (by kernel_rfl) (by kernel_rfl) (fun _ _ _ h => h) (Or.inl ⟨by rfl, ?_⟩) (by assumption) ?_
  rotate_left 1
  · intro w hSw; (try dsimp only at hSw); go_simp; (try simp only [z1, z2, z3, z4, z5, z6, beq_self_eq_true]); all_goals with_reducible rfl
  try simp only [Act.put, List.setIfInBounds_toArray, List.set_cons_zero, List.set_cons_succ]
  refine wpAnyH_ready (rs := [13]) (by kernel_rfl) (by simp) (AllReadyH.cons (o := ⟨_, _, _, _, _, _⟩) rfl (fun K hK => ?_) AllReadyH.nil)
  go_simp
  go_at_call 8; refine (R56.out _ hHeld.1).mono ?_; rintro e y ⟨rfl, hS⟩
  refine hK.out _ _ ?_ (fun hHeld => ?_)
  · exact hS
  clear hK K
  try simp only [Act.put, List.setIfInBounds_toArray, List.set_cons_zero, List.set_cons_succ]
  refine wpAnyH_take (i := 17) (oi := ⟨_, _, _, _, _, _⟩) (v := ?_) rfl (by kernel_rfl) (by kernel_rfl) (by kernel_rfl) (fun _ _ _ h => h) (Or.inl ⟨by rfl, ?_⟩) (by assumption) ?_
  rotate_left 1
  · intro w hSw; (try dsimp only at hSw); go_simp; (try simp only [z1, z2, z3, z4, z5, z6, beq_self_eq_true]); all_goals with_reducible rfl
  try simp only [Act.put, List.setIfInBounds_toArray, List.set_cons_zero, List.set_cons_succ]
  refine wpAnyH_take (i := 18) (oi := ⟨_, _, _, _, _, _⟩) (v := ?_) rfl (by kernel_rfl) (by kernel_rfl) (by kernel_rfl) (fun _ _ _ h => h) (Or.inl ⟨by rfl, ?_⟩) (by assumption) ?_
  rotate_left 1
  · intro w hSw; (try dsimp only at hSw); go_simp; all_goals with_reducible rfl
  try simp only [Act.put, List.setIfInBounds_toArray, List.set_cons_zero, List.set_cons_succ]
  refine wpAnyH_take (i := 19) (oi := ⟨_, _, _, _, _, _⟩) (v := ?_) rfl (by kernel_rfl) (by kernel_rfl) (by kernel_rfl) (fun _ _ _ h => h) (Or.inl ⟨by rfl, ?_⟩) (by assumption) ?_
  rotate_left 1
  · intro w hSw; (try dsimp only at hSw); go_simp; all_goals with_reducible rfl
  try simp only [Act.put, List.setIfInBounds_toArray, List.set_cons_zero, List.set_cons_succ]
  refine wpAnyH_take (i := 20) (oi := ⟨_, _, _, _, _, _⟩) (v := ?_) rfl (by kernel_rfl) (by kernel_rfl) (by kernel_rfl) (fun _ _ _ h => h) (Or.inl ⟨by rfl, ?_⟩) (by assumption) ?_
  rotate_left 1
  · intro w hSw; (try dsimp only at hSw); go_simp; all_goals with_reducible rfl
  try simp only [Act.put, List.setIfInBounds_toArray, List.set_cons_zero, List.set_cons_succ]
  refine wpAnyH_take (i := 22) (oi := ⟨_, _, _, _, _, _⟩) (v := ?_) rfl (by kernel_rfl) (by kernel_rfl) (by kernel_rfl) (fun _ _ _ h => h) (Or.inl ⟨by rfl, ?_⟩) (by assumption) ?_
  rotate_left 1
  · intro w hSw; (try dsimp only at hSw); go_simp; all_goals with_reducible rfl
  try simp only [Act.put, List.setIfInBounds_toArray, List.set_cons_zero, List.set_cons_succ]
  refine wpAnyH_take (i := 23) (oi := ⟨_, _, _, _, _, _⟩) (v := ?_) rfl (by kernel_rfl) (by kernel_rfl) (by kernel_rfl) (fun _ _ _ h => h) (Or.inl ⟨by rfl, ?_⟩) (by assumption) ?_
  rotate_left 1
  · intro w hSw; (try dsimp only at hSw); go_simp; all_goals with_reducible rfl
  try simp only [Act.put, List.setIfInBounds_toArray, List.set_cons_zero, List.set_cons_succ]
  refine wpAnyH_take (i := 24) (oi := ⟨_, _, _, _, _, _⟩) (v := ?_) rfl (by kernel_rfl) (by kernel_rfl) (by kernel_rfl) (fun _ _ _ h => h) (Or.inl ⟨by rfl, ?_⟩) (by assumption) ?_
  rotate_left 1
  · intro w hSw; (try dsimp only at hSw); go_simp; (try simp only [z1, z2, z3, z4, z5, z6, beq_self_eq_true]); all_goals with_reducible rfl
  try simp only [Act.put, List.setIfInBounds_toArray, List.set_cons_zero, List.set_cons_succ]
  refine wpAnyH_ready (rs := [21]) (by kernel_rfl) (by simp) (AllReadyH.cons (o := ⟨_, _, _, _, _, _⟩) rfl (fun K hK => ?_) AllReadyH.nil)
  go_simp
  go_at_call 8; refine (R52.out _ hHeld.1).mono ?_; rintro e y ⟨rfl, hS⟩
  refine hK.out _ _ ?_ (fun hHeld => ?_)
  · exact hS
  clear hK K
  try simp only [Act.put, List.setIfInBounds_toArray, List.set_cons_zero, List.set_cons_succ]
  refine wpAnyH_take (i := 25) (oi := ⟨_, _, _, _, _, _⟩) (v := ?_) rfl (by kernel_rfl) (by kernel_rfl) (by kernel_rfl) (fun _ _ _ h => h) (Or.inl ⟨by rfl, ?_⟩) (by assumption) ?_
  rotate_left 1
  · intro w hSw; (try dsimp only at hSw); go_simp; (try simp only [z1, z2, z3, z4, z5, z6, beq_self_eq_true]); all_goals with_reducible rfl
  try simp only [Act.put, List.setIfInBounds_toArray, List.set_cons_zero, List.set_cons_succ]
  refine wpAnyH_take (i := 26) (oi := ⟨_, _, _, _, _, _⟩) (v := ?_) rfl (by kernel_rfl) (by kernel_rfl) (by kernel_rfl) (fun _ _ _ h => h) (Or.inl ⟨by rfl, ?_⟩) (by assumption) ?_
  rotate_left 1
  · intro w hSw; (try dsimp only at hSw); go_simp; all_goals with_reducible rfl
  try simp only [Act.put, List.setIfInBounds_toArray, List.set_cons_zero, List.set_cons_succ]
  refine wpAnyH_take (i := 27) (oi := ⟨_, _, _, _, _, _⟩) (v := ?_) rfl (by kernel_rfl) (by kernel_rfl) (by kernel_rfl) (fun _ _ _ h => h) (Or.inl ⟨by rfl, ?_⟩) (by assumption) ?_
  rotate_left 1
  · intro w hSw; (try dsimp only at hSw); go_simp; all_goals with_reducible rfl
  try simp only [Act.put, List.setIfInBounds_toArray, List.set_cons_zero, List.set_cons_succ]
  refine wpAnyH_take (i := 28) (oi := ⟨_, _, _, _, _, _⟩) (v := ?_) rfl (by kernel_rfl) (by kernel_rfl) (by kernel_rfl) (fun _ _ _ h => h) (Or.inl ⟨by rfl, ?_⟩) (by assumption) ?_
  rotate_left 1
  · intro w hSw; (try dsimp only at hSw); go_simp; all_goals with_reducible rfl
  try simp only [Act.put, List.setIfInBounds_toArray, List.set_cons_zero, List.set_cons_succ]
  refine wpAnyH_take (i := 30) (oi := ⟨_, _, _, _, _, _⟩) (v := ?_) rfl (by kernel_rfl) (by kernel_rfl) (by kernel_rfl) (fun _ _ _ h => h) (Or.inl ⟨by rfl, ?_⟩) (by assumption) ?_
  rotate_left 1
  · intro w hSw; (try dsimp only at hSw); go_simp; all_goals with_reducible rfl
  try simp only [Act.put, List.setIfInBounds_toArray, List.set_cons_zero, List.set_cons_succ]
  refine wpAnyH_take (i := 31) (oi := ⟨_, _, _, _, _, _⟩) (v := ?_) rfl (by kernel_rfl) (by kernel_rfl) (by kernel_rfl) (fun _ _ _ h => h) (Or.inl ⟨by rfl, ?_⟩) (by assumption) ?_
  rotate_left 1
  · intro w hSw; (try dsimp only at hSw); go_simp; all_goals with_reducible rfl
  try simp only [Act.put, List.setIfInBounds_toArray, List.set_cons_zero, List.set_cons_succ]
  refine wpAnyH_take (i := 32) (oi := ⟨_, _, _, _, _, _⟩) (v := ?_) rfl (by kernel_rfl) (by kernel_rfl) (by kernel_rfl) (fun _ _ _ h => h) (Or.inl ⟨by rfl, ?_⟩) (by assumption) ?_
  rotate_left 1
  · intro w hSw; (try dsimp only at hSw); go_simp; (try simp only [z1, z2, z3, z4, z5, z6, beq_self_eq_true]); all_goals with_reducible rfl
  try simp only [Act.put, List.setIfInBounds_toArray, List.set_cons_zero, List.set_cons_succ]
  refine wpAnyH_ready (rs := [29]) (by kernel_rfl) (by simp) (AllReadyH.cons (o := ⟨_, _, _, _, _, _⟩) rfl (fun K hK => ?_) AllReadyH.nil)
  go_simp
  go_at_call 8; refine (R48.out _ hHeld.1).mono ?_; rintro e y ⟨rfl, hS⟩
  refine hK.out _ _ ?_ (fun hHeld => ?_)
  · exact hS
  clear hK K
  try simp only [Act.put, List.setIfInBounds_toArray, List.set_cons_zero, List.set_cons_succ]
  refine wpAnyH_take (i := 33) (oi := ⟨_, _, _, _, _, _⟩) (v := ?_) rfl (by kernel_rfl) (by kernel_rfl) (by kernel_rfl) (fun _ _ _ h => h) (Or.inl ⟨by rfl, ?_⟩) (by assumption) ?_
  rotate_left 1
  · intro w hSw; (try dsimp only at hSw); go_simp; (try simp only [z1, z2, z3, z4, z5, z6, beq_self_eq_true]); all_goals with_reducible rfl
  try simp only [Act.put, List.setIfInBounds_toArray, List.set_cons_zero, List.set_cons_succ]
  refine wpAnyH_take (i := 34) (oi := ⟨_, _, _, _, _, _⟩) (v := ?_) rfl (by kernel_rfl) (by kernel_rfl) (by kernel_rfl) (fun _ _ _ h => h) (Or.inl ⟨by rfl, ?_⟩) (by assumption) ?_
  rotate_left 1
  · intro w hSw; (try dsimp only at hSw); go_simp; all_goals with_reducible rfl
  try simp only [Act.put, List.setIfInBounds_toArray, List.set_cons_zero, List.set_cons_succ]
  refine wpAnyH_take (i := 35) (oi := ⟨_, _, _, _, _, _⟩) (v := ?_) rfl (by kernel_rfl) (by kernel_rfl) (by kernel_rfl) (fun _ _ _ h => h) (Or.inl ⟨by rfl, ?_⟩) (by assumption) ?_
  rotate_left 1
  · intro w hSw; (try dsimp only at hSw); go_simp; all_goals with_reducible rfl
  try simp only [Act.put, List.setIfInBounds_toArray, List.set_cons_zero, List.set_cons_succ]
  refine wpAnyH_take (i := 36) (oi := ⟨_, _, _, _, _, _⟩) (v := ?_) rfl (by kernel_rfl) (by kernel_rfl) (by kernel_rfl) (fun _ _ _ h => h) (Or.inl ⟨by rfl, ?_⟩) (by assumption) ?_
  rotate_left 1
  · intro w hSw; (try dsimp only at hSw); go_simp; all_goals with_reducible rfl
  try simp only [Act.put, List.setIfInBounds_toArray, List.set_cons_zero, List.set_cons_succ]
  refine wpAnyH_take (i := 38) (oi := ⟨_, _, _, _, _, _⟩) (v := ?_) rfl (by kernel_rfl) (by kernel_rfl) (by kernel_rfl) (fun _ _ _ h => h) (Or.inl ⟨by rfl, ?_⟩) (by assumption) ?_
  rotate_left 1
  · intro w hSw; (try dsimp only at hSw); go_simp; all_goals with_reducible rfl
  try simp only [Act.put, List.setIfInBounds_toArray, List.set_cons_zero, List.set_cons_succ]
  refine wpAnyH_take (i := 39) (oi := ⟨_, _, _, _, _, _⟩) (v := ?_) rfl (by kernel_rfl) (by kernel_rfl) (by kernel_rfl) (fun _ _ _ h => h) (Or.inl ⟨by rfl, ?_⟩) (by assumption) ?_
  rotate_left 1
  · intro w hSw; (try dsimp only at hSw); go_simp; all_goals with_reducible rfl
  try simp only [Act.put, List.setIfInBounds_toArray, List.set_cons_zero, List.set_cons_succ]
  refine wpAnyH_take (i := 40) (oi := ⟨_, _, _, _, _, _⟩) (v := ?_) rfl (by kernel_rfl) (by kernel_rfl) (by kernel_rfl) (fun _ _ _ h => h) (Or.inl ⟨by rfl, ?_⟩) (by assumption) ?_
  rotate_left 1
  · intro w hSw; (try dsimp only at hSw); go_simp; (try simp only [z1, z2, z3, z4, z5, z6, beq_self_eq_true]); all_goals with_reducible rfl
  try simp only [Act.put, List.setIfInBounds_toArray, List.set_cons_zero, List.set_cons_succ]
  refine wpAnyH_ready (rs := [37]) (by kernel_rfl) (by simp) (AllReadyH.cons (o := ⟨_, _, _, _, _, _⟩) rfl (fun K hK => ?_) AllReadyH.nil)
  go_simp
  go_at_call 8; refine (R44.out _ hHeld.1).mono ?_; rintro e y ⟨rfl, hS⟩
  refine hK.out _ _ ?_ (fun hHeld => ?_)
  · exact hS
  clear hK K
  try simp only [Act.put, List.setIfInBounds_toArray, List.set_cons_zero, List.set_cons_succ]
  refine wpAnyH_take (i := 41) (oi := ⟨_, _, _, _, _, _⟩) (v := ?_) rfl (by kernel_rfl) (by kernel_rfl) (by kernel_rfl) (fun _ _ _ h => h) (Or.inl ⟨by rfl, ?_⟩) (by assumption) ?_
  rotate_left 1
  · intro w hSw; (try dsimp only at hSw); go_simp; (try simp only [z1, z2, z3, z4, z5, z6, beq_self_eq_true]); all_goals with_reducible rfl
  try simp only [Act.put, List.setIfInBounds_toArray, List.set_cons_zero, List.set_cons_succ]
  refine wpAnyH_take (i := 42) (oi := ⟨_, _, _, _, _, _⟩) (v := ?_) rfl (by kernel_rfl) (by kernel_rfl) (by kernel_rfl) (fun _ _ _ h => h) (Or.inl ⟨by rfl, ?_⟩) (by assumption) ?_
  rotate_left 1
  · intro w hSw; (try dsimp only at hSw); go_simp; all_goals with_reducible rfl
  try simp only [Act.put, List.setIfInBounds_toArray, List.set_cons_zero, List.set_cons_succ]
  refine wpAnyH_take (i := 43) (oi := ⟨_, _, _, _, _, _⟩) (v := ?_) rfl (by kernel_rfl) (by kernel_rfl) (by kernel_rfl) (fun _ _ _ h => h) (Or.inl ⟨by rfl, ?_⟩) (by assumption) ?_
  rotate_left 1
  · intro w hSw; (try dsimp only at hSw); go_simp; all_goals with_reducible rfl
  try simp only [Act.put, List.setIfInBounds_toArray, List.set_cons_zero, List.set_cons_succ]
  refine wpAnyH_take (i := 44) (oi := ⟨_, _, _, _, _, _⟩) (v := ?_) rfl (by kernel_rfl) (by kernel_rfl) (by kernel_rfl) (fun _ _ _ h => h) (Or.inl ⟨by rfl, ?_⟩) (by assumption) ?_
  rotate_left 1
  · intro w hSw; (try dsimp only at hSw); go_simp; all_goals with_reducible rfl
  try simp only [Act.put, List.setIfInBounds_toArray, List.set_cons_zero, List.set_cons_succ]
  refine wpAnyH_take (i := 46) (oi := ⟨_, _, _, _, _, _⟩) (v := ?_) rfl (by kernel_rfl) (by kernel_rfl) (by kernel_rfl) (fun _ _ _ h => h) (Or.inl ⟨by rfl, ?_⟩) (by assumption) ?_
  rotate_left 1
  · intro w hSw; (try dsimp only at hSw); go_simp; all_goals with_reducible rfl
  try simp only [Act.put, List.setIfInBounds_toArray, List.set_cons_zero, List.set_cons_succ]
  refine wpAnyH_take (i := 47) (oi := ⟨_, _, _, _, _, _⟩) (v := ?_) rfl (by kernel_rfl) (by kernel_rfl) (by kernel_rfl) (fun _ _ _ h => h) (Or.inl ⟨by rfl, ?_⟩) (by assumption) ?_
  rotate_left 1
  · intro w hSw; (try dsimp only at hSw); go_simp; all_goals with_reducible rfl
  try simp only [Act.put, List.setIfInBounds_toArray, List.set_cons_zero, List.set_cons_succ]
  refine wpAnyH_take (i := 48) (oi := ⟨_, _, _, _, _, _⟩) (v := ?_) rfl (by kernel_rfl) (by kernel_rfl) (by kernel_rfl) (fun _ _ _ h => h) (Or.inl ⟨by rfl, ?_⟩) (by assumption) ?_
  rotate_left 1
  · intro w hSw; (try dsimp only at hSw); go_simp; (try simp only [z1, z2, z3, z4, z5, z6, beq_self_eq_true]); all_goals with_reducible rfl
  try simp only [Act.put, List.setIfInBounds_toArray, List.set_cons_zero, List.set_cons_succ]
  refine wpAnyH_ready (rs := [45]) (by kernel_rfl) (by simp) (AllReadyH.cons (o := ⟨_, _, _, _, _, _⟩) rfl (fun K hK => ?_) AllReadyH.nil)
  go_simp
  go_at_call 8; refine (R40.out _ hHeld.1).mono ?_; rintro e y ⟨rfl, hS⟩
  refine hK.out _ _ ?_ (fun hHeld => ?_)
  · exact hS
  clear hK K
  try simp only [Act.put, List.setIfInBounds_toArray, List.set_cons_zero, List.set_cons_succ]
  refine wpAnyH_take (i := 49) (oi := ⟨_, _, _, _, _, _⟩) (v := ?_) rfl (by kernel_rfl) (by kernel_rfl) (by kernel_rfl) (fun _ _ _ h => h) (Or.inl ⟨by rfl, ?_⟩) (by assumption) ?_
  rotate_left 1
  · intro w hSw; (try dsimp only at hSw); go_simp; (try simp only [z1, z2, z3, z4, z5, z6, beq_self_eq_true]); all_goals with_reducible rfl
  try simp only [Act.put, List.setIfInBounds_toArray, List.set_cons_zero, List.set_cons_succ]
  refine wpAnyH_take (i := 50) (oi := ⟨_, _, _, _, _, _⟩) (v := ?_) rfl (by kernel_rfl) (by kernel_rfl) (by kernel_rfl) (fun _ _ _ h => h) (Or.inl ⟨by rfl, ?_⟩) (by assumption) ?_
  rotate_left 1
  · intro w hSw; (try dsimp only at hSw); go_simp; all_goals with_reducible rfl
  try simp only [Act.put, List.setIfInBounds_toArray, List.set_cons_zero, List.set_cons_succ]
  refine wpAnyH_take (i := 51) (oi := ⟨_, _, _, _, _, _⟩) (v := ?_) rfl (by kernel_rfl) (by kernel_rfl) (by kernel_rfl) (fun _ _ _ h => h) (Or.inl ⟨by rfl, ?_⟩) (by assumption) ?_
  rotate_left 1
  · intro w hSw; (try dsimp only at hSw); go_simp; all_goals with_reducible rfl
  try simp only [Act.put, List.setIfInBounds_toArray, List.set_cons_zero, List.set_cons_succ]
  refine wpAnyH_take (i := 52) (oi := ⟨_, _, _, _, _, _⟩) (v := ?_) rfl (by kernel_rfl) (by kernel_rfl) (by kernel_rfl) (fun _ _ _ h => h) (Or.inl ⟨by rfl, ?_⟩) (by assumption) ?_
  rotate_left 1
  · intro w hSw; (try dsimp only at hSw); go_simp; all_goals with_reducible rfl
  try simp only [Act.put, List.setIfInBounds_toArray, List.set_cons_zero, List.set_cons_succ]
  refine wpAnyH_ready (rs := [53]) (by kernel_rfl) (by simp) (AllReadyH.cons (o := ⟨_, _, _, _, _, _⟩) rfl (fun K hK => ?_) AllReadyH.nil)
  go_simp
  go_at_call 8; refine (R32.out _ hHeld.1).mono ?_; rintro e y ⟨rfl, hS⟩
  refine hK.out _ _ ?_ (fun hHeld => ?_)
  · exact hS
  clear hK K
  try simp only [Act.put, List.setIfInBounds_toArray, List.set_cons_zero, List.set_cons_succ]
  refine wpAnyH_take (i := 54) (oi := ⟨_, _, _, _, _, _⟩) (v := ?_) rfl (by kernel_rfl) (by kernel_rfl) (by kernel_rfl) (fun _ _ _ h => h) (Or.inl ⟨by rfl, ?_⟩) (by assumption) ?_
  rotate_left 1
  · intro w hSw; (try dsimp only at hSw); go_simp; (try simp only [z1, z2, z3, z4, z5, z6, beq_self_eq_true]); all_goals with_reducible rfl
  try simp only [Act.put, List.setIfInBounds_toArray, List.set_cons_zero, List.set_cons_succ]
  refine wpAnyH_take (i := 55) (oi := ⟨_, _, _, _, _, _⟩) (v := ?_) rfl (by kernel_rfl) (by kernel_rfl) (by kernel_rfl) (fun _ _ _ h => h) (Or.inl ⟨by rfl, ?_⟩) (by assumption) ?_
  rotate_left 1
  · intro w hSw; (try dsimp only at hSw); go_simp; all_goals with_reducible rfl
  try simp only [Act.put, List.setIfInBounds_toArray, List.set_cons_zero, List.set_cons_succ]
  refine wpAnyH_take (i := 56) (oi := ⟨_, _, _, _, _, _⟩) (v := ?_) rfl (by kernel_rfl) (by kernel_rfl) (by kernel_rfl) (fun _ _ _ h => h) (Or.inl ⟨by rfl, ?_⟩) (by assumption) ?_
  rotate_left 1
  · intro w hSw; (try dsimp only at hSw); go_simp; all_goals with_reducible rfl
  try simp only [Act.put, List.setIfInBounds_toArray, List.set_cons_zero, List.set_cons_succ]
  refine wpAnyH_take (i := 57) (oi := ⟨_, _, _, _, _, _⟩) (v := ?_) rfl (by kernel_rfl) (by kernel_rfl) (by kernel_rfl) (fun _ _ _ h => h) (Or.inl ⟨by rfl, ?_⟩) (by assumption) ?_
  rotate_left 1
  · intro w hSw; (try dsimp only at hSw); go_simp; all_goals with_reducible rfl
  try simp only [Act.put, List.setIfInBounds_toArray, List.set_cons_zero, List.set_cons_succ]
  refine wpAnyH_take (i := 59) (oi := ⟨_, _, _, _, _, _⟩) (v := ?_) rfl (by kernel_rfl) (by kernel_rfl) (by kernel_rfl) (fun _ _ _ h => h) (Or.inl ⟨by rfl, ?_⟩) (by assumption) ?_
  rotate_left 1
  · intro w hSw; (try dsimp only at hSw); go_simp; all_goals with_reducible rfl
  try simp only [Act.put, List.setIfInBounds_toArray, List.set_cons_zero, List.set_cons_succ]
  refine wpAnyH_take (i := 60) (oi := ⟨_, _, _, _, _, _⟩) (v := ?_) rfl (by kernel_rfl) (by kernel_rfl) (by kernel_rfl) (fun _ _ _ h => h) (Or.inl ⟨by rfl, ?_⟩) (by assumption) ?_
  rotate_left 1
  · intro w hSw; (try dsimp only at hSw); go_simp; all_goals with_reducible rfl
  try simp only [Act.put, List.setIfInBounds_toArray, List.set_cons_zero, List.set_cons_succ]
  refine wpAnyH_take (i := 61) (oi := ⟨_, _, _, _, _, _⟩) (v := ?_) rfl (by kernel_rfl) (by kernel_rfl) (by kernel_rfl) (fun _ _ _ h => h) (Or.inl ⟨by rfl, ?_⟩) (by assumption) ?_
  rotate_left 1
  · intro w hSw; (try dsimp only at hSw); go_simp; (try simp only [z1, z2, z3, z4, z5, z6, beq_self_eq_true]); all_goals with_reducible rfl
  try simp only [Act.put, List.setIfInBounds_toArray, List.set_cons_zero, List.set_cons_succ]
  refine wpAnyH_ready (rs := [58]) (by kernel_rfl) (by simp) (AllReadyH.cons (o := ⟨_, _, _, _, _, _⟩) rfl (fun K hK => ?_) AllReadyH.nil)
  go_simp
  go_at_call 8; refine (R0.out _ hHeld.1).mono ?_; rintro e y ⟨rfl, hS⟩
  refine hK.out _ _ ?_ (fun hHeld => ?_)
  · exact hS
  clear hK K
  try simp only [Act.put, List.setIfInBounds_toArray, List.set_cons_zero, List.set_cons_succ]
  refine wpAnyH_take (i := 62) (oi := ⟨_, _, _, _, _, _⟩) (v := ?_) rfl (by kernel_rfl) (by kernel_rfl) (by kernel_rfl) (fun _ _ _ h => h) (Or.inl ⟨by rfl, ?_⟩) (by assumption) ?_
  rotate_left 1
  · intro w hSw; (try dsimp only at hSw); go_simp; (try simp only [z1, z2, z3, z4, z5, z6, beq_self_eq_true]); all_goals with_reducible rfl
  try simp only [Act.put, List.setIfInBounds_toArray, List.set_cons_zero, List.set_cons_succ]
  refine wpAnyH_take (i := 63) (oi := ⟨_, _, _, _, _, _⟩) (v := ?_) rfl (by kernel_rfl) (by kernel_rfl) (by kernel_rfl) (fun _ _ _ h => h) (Or.inl ⟨by rfl, ?_⟩) (by assumption) ?_
  rotate_left 1
  · intro w hSw; (try dsimp only at hSw); go_simp; all_goals with_reducible rfl
  try simp only [Act.put, List.setIfInBounds_toArray, List.set_cons_zero, List.set_cons_succ]
  refine wpAnyH_take (i := 64) (oi := ⟨_, _, _, _, _, _⟩) (v := ?_) rfl (by kernel_rfl) (by kernel_rfl) (by kernel_rfl) (fun _ _ _ h => h) (Or.inl ⟨by rfl, ?_⟩) (by assumption) ?_
  rotate_left 1
  · intro w hSw; (try dsimp only at hSw); go_simp; all_goals with_reducible rfl
  try simp only [Act.put, List.setIfInBounds_toArray, List.set_cons_zero, List.set_cons_succ]
  refine wpAnyH_done (by kernel_rfl) ?_ _
  go_wp2
  go_ret
  exact ⟨rfl, ((Q.refl _).alloc _).trans (qs.trans (q3.trans (((Q.refl _).alloc _).trans hHeld.1)))⟩

end Go.Proofs.Ytdmbpdfbljhdlaa.Cd
