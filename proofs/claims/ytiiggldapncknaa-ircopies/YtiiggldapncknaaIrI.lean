/-
  Whether an instruction is right, by layer 13: contracts over the program.
-/
import Derived.Test.YtiiggldapncknaaIrH
namespace Go.Proofs.Ytiiggldapncknaa
open Go.RowKit
set_option linter.unusedVariables false

/-- A contract, from a first world on, with what is laid there. -/
theorem heldF {B : World} {F : World → Prop} (hF : ∀ y, Q B y → F y) {K : Nat} {args : Array Value} {r : Ending} (h : ∀ x, Calls Try.prog K args x fun e w' => e = r ∧ Q x w') : ∀ x, Q B x → Calls Try.prog K args x fun e w' => e = r ∧ Q B w' ∧ F w' :=
  fun x hx => (h x).mono fun _ _ ⟨e, q⟩ => ⟨e, hx.trans q, hF _ (hx.trans q)⟩

theorem sameQ {K : Nat} {args : Array Value} {r : Ending} {X : World} (h : Calls Try.prog K args X fun e w' => e = r ∧ w' = X) : Calls Try.prog K args X fun e w' => e = r ∧ Q X w' := h.mono fun _ _ ⟨e, q⟩ => ⟨e, by rw [q]; exact Q.refl _⟩
theorem drQ {K : Nat} {args : Array Value} {r : Ending} {X : World} (h : Calls Try.prog K args X fun e w' => e = r ∧ Dr X w') : Calls Try.prog K args X fun e w' => e = r ∧ Q X w' := h.mono fun _ _ ⟨e, q⟩ => ⟨e, q.q⟩

def wtP (f : PF) (x : PI) : Bool := !wrP x.op || blP x.dst f.regs

set_option maxRecDepth 100000 in
set_option maxHeartbeats 1000000 in
theorem written_any (w : World) (fb fo ib io : Nat) (f : PF) (x : PI) (hf : At w fb fo f.cells) (hx : At w ib io x.cells) :
    Calls Try.prog 44 #[.pointer (some ⟨fb, fo, none⟩), .pointer (some ⟨ib, io, none⟩)] w fun e w' => e = .returned (.bool (wtP f x)) ∧ Q w w' := by
  have hF : Hid (∀ y, Q w y → (fun y : World => y.cell? ⟨fb, fo + 1, none⟩ = some (.int .i64 f.regs) ∧ y.cell? ⟨ib, io, none⟩ = some (.int .u8 x.op) ∧ y.cell? ⟨ib, io + 1, none⟩ = some (.int .u8 x.ty) ∧ y.cell? ⟨ib, io + 2, none⟩ = some (.int .i64 x.dst) ∧ y.cell? ⟨ib, io + 3, none⟩ = some (.int .i64 x.a) ∧ y.cell? ⟨ib, io + 4, none⟩ = some (.int .i64 x.b) ∧ y.cell? ⟨ib, io + 5, none⟩ = some (.int .i64 x.imm) ∧ y.cell? ⟨ib, io + 6, none⟩ = some (.slice x.aa x.args.length x.ac)) y) := fun y h => ⟨(hf.keep h).four.2.1, (hx.keep h).seven⟩
  have CD := hideIt (fun X => dst_any x X)
  have CB := hideIt (fun X => sameQ (below_any x.dst f.regs X))
  clear hf hx
  unfold wtP
  cases h : wrP x.op <;> rw [h] at CD
  · have CD' := hideIt (heldF hF.out CD.out)
    clear CD CB
    go_enter Try.func44, Try.ntmps44
    go_wp2_with (fail)
    refine wp_region_held_drew (S := (fun y : World => Q w y ∧ y.cell? ⟨fb, fo + 1, none⟩ = some (.int .i64 f.regs) ∧ y.cell? ⟨ib, io, none⟩ = some (.int .u8 x.op) ∧ y.cell? ⟨ib, io + 1, none⟩ = some (.int .u8 x.ty) ∧ y.cell? ⟨ib, io + 2, none⟩ = some (.int .i64 x.dst) ∧ y.cell? ⟨ib, io + 3, none⟩ = some (.int .i64 x.a) ∧ y.cell? ⟨ib, io + 4, none⟩ = some (.int .i64 x.b) ∧ y.cell? ⟨ib, io + 5, none⟩ = some (.int .i64 x.imm) ∧ y.cell? ⟨ib, io + 6, none⟩ = some (.slice x.aa x.args.length x.ac))) (by kernel_rfl) (⟨(Q.refl _).drew, hF.out _ (Q.refl _).drew⟩) (fun hHeld => ?_)
    refine wpAnyH_take (i := 0) (oi := ⟨_, _, _, _, _, _⟩) (v := ?_) rfl (by kernel_rfl) (by kernel_rfl) (by kernel_rfl) (fun _ _ _ h => h) (Or.inl ⟨by rfl, ?_⟩) (by assumption) ?_
    rotate_left 1
    · intro w hSw; (try dsimp only at hSw); go_simp; all_goals with_reducible rfl
    try simp only [Act.put, List.setIfInBounds_toArray, List.set_cons_zero, List.set_cons_succ]
    refine wpAnyH_take (i := 1) (oi := ⟨_, _, _, _, _, _⟩) (v := ?_) rfl (by kernel_rfl) (by kernel_rfl) (by kernel_rfl) (fun _ _ _ h => h) (Or.inl ⟨by rfl, ?_⟩) (by assumption) ?_
    rotate_left 1
    · intro w hSw; (try dsimp only at hSw); go_simp; all_goals with_reducible rfl
    try simp only [Act.put, List.setIfInBounds_toArray, List.set_cons_zero, List.set_cons_succ]
    refine wpAnyH_take (i := 2) (oi := ⟨_, _, _, _, _, _⟩) (v := ?_) rfl (by kernel_rfl) (by kernel_rfl) (by kernel_rfl) (fun _ _ _ h => h) (Or.inl ⟨by rfl, ?_⟩) (by assumption) ?_
    rotate_left 1
    · intro w hSw; (try dsimp only at hSw); go_simp; all_goals with_reducible rfl
    try simp only [Act.put, List.setIfInBounds_toArray, List.set_cons_zero, List.set_cons_succ]
    refine wpAnyH_ready (rs := [3]) (by kernel_rfl) (by simp) (AllReadyH.cons (o := ⟨_, _, _, _, _, _⟩) rfl (fun K hK => ?_) AllReadyH.nil)
    go_simp
    go_at_call 14; refine (CD'.out _ hHeld.1).mono ?_; rintro e y ⟨rfl, s0, s1, s2, s3, s4, s5, s6, s7, s8⟩
    refine hK.out _ _ ?_ (fun hHeld => ?_)
    · exact ⟨s0, s1, s2, s3, s4, s5, s6, s7, s8⟩
    clear hK K
    try simp only [Act.put, List.setIfInBounds_toArray, List.set_cons_zero, List.set_cons_succ]
    refine wpAnyH_take (i := 4) (oi := ⟨_, _, _, _, _, _⟩) (v := ?_) rfl (by kernel_rfl) (by kernel_rfl) (by kernel_rfl) (fun _ _ _ h => h) (Or.inl ⟨by rfl, ?_⟩) (by assumption) ?_
    rotate_left 1
    · intro w hSw; (try dsimp only at hSw); go_simp; all_goals with_reducible rfl
    try simp only [Act.put, List.setIfInBounds_toArray, List.set_cons_zero, List.set_cons_succ]
    refine wpAnyH_take (i := 5) (oi := ⟨_, _, _, _, _, _⟩) (v := ?_) rfl (by kernel_rfl) (by kernel_rfl) (by kernel_rfl) (fun _ _ _ h => h) (Or.inl ⟨by rfl, ?_⟩) (by assumption) ?_
    rotate_left 1
    · intro w hSw; (try dsimp only at hSw); go_simp; all_goals with_reducible rfl
    try simp only [Act.put, List.setIfInBounds_toArray, List.set_cons_zero, List.set_cons_succ]
    refine wpAnyH_take (i := 6) (oi := ⟨_, _, _, _, _, _⟩) (v := undef) rfl (by kernel_rfl) (by kernel_rfl) (by kernel_rfl) (fun _ _ _ h => h) (Or.inr ⟨by rfl, rfl⟩) (by assumption) ?_
    try simp only [Act.put, List.setIfInBounds_toArray, List.set_cons_zero, List.set_cons_succ]
    refine wpAnyH_take (i := 7) (oi := ⟨_, _, _, _, _, _⟩) (v := undef) rfl (by kernel_rfl) (by kernel_rfl) (by kernel_rfl) (fun _ _ _ h => h) (Or.inr ⟨by rfl, rfl⟩) (by assumption) ?_
    try simp only [Act.put, List.setIfInBounds_toArray, List.set_cons_zero, List.set_cons_succ]
    refine wpAnyH_take (i := 8) (oi := ⟨_, _, _, _, _, _⟩) (v := undef) rfl (by kernel_rfl) (by kernel_rfl) (by kernel_rfl) (fun _ _ _ h => h) (Or.inr ⟨by rfl, rfl⟩) (by assumption) ?_
    try simp only [Act.put, List.setIfInBounds_toArray, List.set_cons_zero, List.set_cons_succ]
    refine wpAnyH_take (i := 9) (oi := ⟨_, _, _, _, _, _⟩) (v := undef) rfl (by kernel_rfl) (by kernel_rfl) (by kernel_rfl) (fun _ _ _ h => h) (Or.inr ⟨by rfl, rfl⟩) (by assumption) ?_
    try simp only [Act.put, List.setIfInBounds_toArray, List.set_cons_zero, List.set_cons_succ]
    refine wpAnyH_take (i := 10) (oi := ⟨_, _, _, _, _, _⟩) (v := undef) rfl (by kernel_rfl) (by kernel_rfl) (by kernel_rfl) (fun _ _ _ h => h) (Or.inr ⟨by rfl, rfl⟩) (by assumption) ?_
    try simp only [Act.put, List.setIfInBounds_toArray, List.set_cons_zero, List.set_cons_succ]
    refine wpAnyH_take (i := 11) (oi := ⟨_, _, _, _, _, _⟩) (v := undef) rfl (by kernel_rfl) (by kernel_rfl) (by kernel_rfl) (fun _ _ _ h => h) (Or.inr ⟨by rfl, rfl⟩) (by assumption) ?_
    try simp only [Act.put, List.setIfInBounds_toArray, List.set_cons_zero, List.set_cons_succ]
    refine wpAnyH_take (i := 12) (oi := ⟨_, _, _, _, _, _⟩) (v := undef) rfl (by kernel_rfl) (by kernel_rfl) (by kernel_rfl) (fun _ _ _ h => h) (Or.inr ⟨by rfl, rfl⟩) (by assumption) ?_
    try simp only [Act.put, List.setIfInBounds_toArray, List.set_cons_zero, List.set_cons_succ]
    refine wpAnyH_take (i := 13) (oi := ⟨_, _, _, _, _, _⟩) (v := undef) rfl (by kernel_rfl) (by kernel_rfl) (by kernel_rfl) (fun _ _ _ h => h) (Or.inr ⟨by rfl, rfl⟩) (by assumption) ?_
    try simp only [Act.put, List.setIfInBounds_toArray, List.set_cons_zero, List.set_cons_succ]
    refine wpAnyH_take (i := 14) (oi := ⟨_, _, _, _, _, _⟩) (v := undef) rfl (by kernel_rfl) (by kernel_rfl) (by kernel_rfl) (fun _ _ _ h => h) (Or.inr ⟨by rfl, rfl⟩) (by assumption) ?_
    try simp only [Act.put, List.setIfInBounds_toArray, List.set_cons_zero, List.set_cons_succ]
    refine wpAnyH_take (i := 15) (oi := ⟨_, _, _, _, _, _⟩) (v := ?_) rfl (by kernel_rfl) (by kernel_rfl) (by kernel_rfl) (fun _ _ _ h => h) (Or.inl ⟨by rfl, ?_⟩) (by assumption) ?_
    rotate_left 1
    · intro w hSw; (try dsimp only at hSw); go_simp; all_goals with_reducible rfl
    try simp only [Act.put, List.setIfInBounds_toArray, List.set_cons_zero, List.set_cons_succ]
    refine wpAnyH_take (i := 16) (oi := ⟨_, _, _, _, _, _⟩) (v := ?_) rfl (by kernel_rfl) (by kernel_rfl) (by kernel_rfl) (fun _ _ _ h => h) (Or.inl ⟨by rfl, ?_⟩) (by assumption) ?_
    rotate_left 1
    · intro w hSw; (try dsimp only at hSw); go_simp; all_goals with_reducible rfl
    try simp only [Act.put, List.setIfInBounds_toArray, List.set_cons_zero, List.set_cons_succ]
    refine wpAnyH_done (by kernel_rfl) ?_ _
    go_wp2
    go_ret
    exact ⟨rfl, hHeld.1⟩
  · have CD' := hideIt (heldF hF.out CD.out)
    have CB' := hideIt (heldF hF.out CB.out)
    clear CD CB
    go_enter Try.func44, Try.ntmps44
    go_wp2_with (fail)
    refine wp_region_held_drew (S := (fun y : World => Q w y ∧ y.cell? ⟨fb, fo + 1, none⟩ = some (.int .i64 f.regs) ∧ y.cell? ⟨ib, io, none⟩ = some (.int .u8 x.op) ∧ y.cell? ⟨ib, io + 1, none⟩ = some (.int .u8 x.ty) ∧ y.cell? ⟨ib, io + 2, none⟩ = some (.int .i64 x.dst) ∧ y.cell? ⟨ib, io + 3, none⟩ = some (.int .i64 x.a) ∧ y.cell? ⟨ib, io + 4, none⟩ = some (.int .i64 x.b) ∧ y.cell? ⟨ib, io + 5, none⟩ = some (.int .i64 x.imm) ∧ y.cell? ⟨ib, io + 6, none⟩ = some (.slice x.aa x.args.length x.ac))) (by kernel_rfl) (⟨(Q.refl _).drew, hF.out _ (Q.refl _).drew⟩) (fun hHeld => ?_)
    refine wpAnyH_take (i := 0) (oi := ⟨_, _, _, _, _, _⟩) (v := ?_) rfl (by kernel_rfl) (by kernel_rfl) (by kernel_rfl) (fun _ _ _ h => h) (Or.inl ⟨by rfl, ?_⟩) (by assumption) ?_
    rotate_left 1
    · intro w hSw; (try dsimp only at hSw); go_simp; all_goals with_reducible rfl
    try simp only [Act.put, List.setIfInBounds_toArray, List.set_cons_zero, List.set_cons_succ]
    refine wpAnyH_take (i := 1) (oi := ⟨_, _, _, _, _, _⟩) (v := ?_) rfl (by kernel_rfl) (by kernel_rfl) (by kernel_rfl) (fun _ _ _ h => h) (Or.inl ⟨by rfl, ?_⟩) (by assumption) ?_
    rotate_left 1
    · intro w hSw; (try dsimp only at hSw); go_simp; all_goals with_reducible rfl
    try simp only [Act.put, List.setIfInBounds_toArray, List.set_cons_zero, List.set_cons_succ]
    refine wpAnyH_take (i := 2) (oi := ⟨_, _, _, _, _, _⟩) (v := ?_) rfl (by kernel_rfl) (by kernel_rfl) (by kernel_rfl) (fun _ _ _ h => h) (Or.inl ⟨by rfl, ?_⟩) (by assumption) ?_
    rotate_left 1
    · intro w hSw; (try dsimp only at hSw); go_simp; all_goals with_reducible rfl
    try simp only [Act.put, List.setIfInBounds_toArray, List.set_cons_zero, List.set_cons_succ]
    refine wpAnyH_ready (rs := [3]) (by kernel_rfl) (by simp) (AllReadyH.cons (o := ⟨_, _, _, _, _, _⟩) rfl (fun K hK => ?_) AllReadyH.nil)
    go_simp
    go_at_call 14; refine (CD'.out _ hHeld.1).mono ?_; rintro e y ⟨rfl, s0, s1, s2, s3, s4, s5, s6, s7, s8⟩
    refine hK.out _ _ ?_ (fun hHeld => ?_)
    · exact ⟨s0, s1, s2, s3, s4, s5, s6, s7, s8⟩
    clear hK K
    try simp only [Act.put, List.setIfInBounds_toArray, List.set_cons_zero, List.set_cons_succ]
    refine wpAnyH_take (i := 4) (oi := ⟨_, _, _, _, _, _⟩) (v := ?_) rfl (by kernel_rfl) (by kernel_rfl) (by kernel_rfl) (fun _ _ _ h => h) (Or.inl ⟨by rfl, ?_⟩) (by assumption) ?_
    rotate_left 1
    · intro w hSw; (try dsimp only at hSw); go_simp; all_goals with_reducible rfl
    try simp only [Act.put, List.setIfInBounds_toArray, List.set_cons_zero, List.set_cons_succ]
    refine wpAnyH_take (i := 5) (oi := ⟨_, _, _, _, _, _⟩) (v := ?_) rfl (by kernel_rfl) (by kernel_rfl) (by kernel_rfl) (fun _ _ _ h => h) (Or.inl ⟨by rfl, ?_⟩) (by assumption) ?_
    rotate_left 1
    · intro w hSw; (try dsimp only at hSw); go_simp; all_goals with_reducible rfl
    try simp only [Act.put, List.setIfInBounds_toArray, List.set_cons_zero, List.set_cons_succ]
    refine wpAnyH_take (i := 6) (oi := ⟨_, _, _, _, _, _⟩) (v := ?_) rfl (by kernel_rfl) (by kernel_rfl) (by kernel_rfl) (fun _ _ _ h => h) (Or.inl ⟨by rfl, ?_⟩) (by assumption) ?_
    rotate_left 1
    · intro w hSw; (try dsimp only at hSw); go_simp; all_goals with_reducible rfl
    try simp only [Act.put, List.setIfInBounds_toArray, List.set_cons_zero, List.set_cons_succ]
    refine wpAnyH_take (i := 7) (oi := ⟨_, _, _, _, _, _⟩) (v := ?_) rfl (by kernel_rfl) (by kernel_rfl) (by kernel_rfl) (fun _ _ _ h => h) (Or.inl ⟨by rfl, ?_⟩) (by assumption) ?_
    rotate_left 1
    · intro w hSw; (try dsimp only at hSw); go_simp; all_goals with_reducible rfl
    try simp only [Act.put, List.setIfInBounds_toArray, List.set_cons_zero, List.set_cons_succ]
    refine wpAnyH_take (i := 8) (oi := ⟨_, _, _, _, _, _⟩) (v := ?_) rfl (by kernel_rfl) (by kernel_rfl) (by kernel_rfl) (fun _ _ _ h => h) (Or.inl ⟨by rfl, ?_⟩) (by assumption) ?_
    rotate_left 1
    · intro w hSw; (try dsimp only at hSw); go_simp; all_goals with_reducible rfl
    try simp only [Act.put, List.setIfInBounds_toArray, List.set_cons_zero, List.set_cons_succ]
    refine wpAnyH_take (i := 9) (oi := ⟨_, _, _, _, _, _⟩) (v := ?_) rfl (by kernel_rfl) (by kernel_rfl) (by kernel_rfl) (fun _ _ _ h => h) (Or.inl ⟨by rfl, ?_⟩) (by assumption) ?_
    rotate_left 1
    · intro w hSw; (try dsimp only at hSw); go_simp; all_goals with_reducible rfl
    try simp only [Act.put, List.setIfInBounds_toArray, List.set_cons_zero, List.set_cons_succ]
    refine wpAnyH_take (i := 10) (oi := ⟨_, _, _, _, _, _⟩) (v := ?_) rfl (by kernel_rfl) (by kernel_rfl) (by kernel_rfl) (fun _ _ _ h => h) (Or.inl ⟨by rfl, ?_⟩) (by assumption) ?_
    rotate_left 1
    · intro w hSw; (try dsimp only at hSw); go_simp; all_goals with_reducible rfl
    try simp only [Act.put, List.setIfInBounds_toArray, List.set_cons_zero, List.set_cons_succ]
    refine wpAnyH_take (i := 11) (oi := ⟨_, _, _, _, _, _⟩) (v := ?_) rfl (by kernel_rfl) (by kernel_rfl) (by kernel_rfl) (fun _ _ _ h => h) (Or.inl ⟨by rfl, ?_⟩) (by assumption) ?_
    rotate_left 1
    · intro w hSw; (try dsimp only at hSw); go_simp; all_goals with_reducible rfl
    try simp only [Act.put, List.setIfInBounds_toArray, List.set_cons_zero, List.set_cons_succ]
    refine wpAnyH_take (i := 12) (oi := ⟨_, _, _, _, _, _⟩) (v := ?_) rfl (by kernel_rfl) (by kernel_rfl) (by kernel_rfl) (fun _ _ _ h => h) (Or.inl ⟨by rfl, ?_⟩) (by assumption) ?_
    rotate_left 1
    · intro w hSw; (try dsimp only at hSw); go_simp; all_goals with_reducible rfl
    try simp only [Act.put, List.setIfInBounds_toArray, List.set_cons_zero, List.set_cons_succ]
    refine wpAnyH_take (i := 13) (oi := ⟨_, _, _, _, _, _⟩) (v := ?_) rfl (by kernel_rfl) (by kernel_rfl) (by kernel_rfl) (fun _ _ _ h => h) (Or.inl ⟨by rfl, ?_⟩) (by assumption) ?_
    rotate_left 1
    · intro w hSw; (try dsimp only at hSw); go_simp; all_goals with_reducible rfl
    try simp only [Act.put, List.setIfInBounds_toArray, List.set_cons_zero, List.set_cons_succ]
    refine wpAnyH_ready (rs := [14]) (by kernel_rfl) (by simp) (AllReadyH.cons (o := ⟨_, _, _, _, _, _⟩) rfl (fun K hK => ?_) AllReadyH.nil)
    go_simp
    go_at_call 42; refine (CB'.out _ hHeld.1).mono ?_; rintro e y ⟨rfl, s0, s1, s2, s3, s4, s5, s6, s7, s8⟩
    refine hK.out _ _ ?_ (fun hHeld => ?_)
    · exact ⟨s0, s1, s2, s3, s4, s5, s6, s7, s8⟩
    clear hK K
    try simp only [Act.put, List.setIfInBounds_toArray, List.set_cons_zero, List.set_cons_succ]
    refine wpAnyH_take (i := 15) (oi := ⟨_, _, _, _, _, _⟩) (v := ?_) rfl (by kernel_rfl) (by kernel_rfl) (by kernel_rfl) (fun _ _ _ h => h) (Or.inl ⟨by rfl, ?_⟩) (by assumption) ?_
    rotate_left 1
    · intro w hSw; (try dsimp only at hSw); go_simp; all_goals with_reducible rfl
    try simp only [Act.put, List.setIfInBounds_toArray, List.set_cons_zero, List.set_cons_succ]
    refine wpAnyH_take (i := 16) (oi := ⟨_, _, _, _, _, _⟩) (v := ?_) rfl (by kernel_rfl) (by kernel_rfl) (by kernel_rfl) (fun _ _ _ h => h) (Or.inl ⟨by rfl, ?_⟩) (by assumption) ?_
    rotate_left 1
    · intro w hSw; (try dsimp only at hSw); go_simp; all_goals with_reducible rfl
    try simp only [Act.put, List.setIfInBounds_toArray, List.set_cons_zero, List.set_cons_succ]
    refine wpAnyH_done (by kernel_rfl) ?_ _
    go_wp2
    go_ret
    exact ⟨rfl, hHeld.1⟩

def immP (c : PC) (k : Nat) (f : PF) (x : PI) : Bool :=
  if x.op = 26 then blP x.imm f.slots.length else if x.op = 27 then blP x.imm c.gl.length else if x.op = 28 then decide (1 ≤ x.imm) && decide (x.imm ≤ 65536) else if x.op = 29 then blP x.imm 65536
  else if x.op = 32 then blP x.imm k && (match c.fns[x.imm.toNat]? with | some g => (x.args.length : Int) == g.params | none => false) else true

theorem imm_cases (o : Int) : o = 26 ∨ o = 27 ∨ o = 28 ∨ o = 29 ∨ o = 32 ∨ (¬ o = 26 ∧ ¬ o = 27 ∧ ¬ o = 28 ∧ ¬ o = 29 ∧ ¬ o = 32) := by omega

set_option maxRecDepth 100000 in
set_option maxHeartbeats 1000000 in
theorem immediate_any (w : World) (cb co ib io k : Nat) (c : PC) (f : PF) (x : PI) (hc : At w cb co c.cells) (hcok : c.ok w) (hk : c.fns[k]? = some f) (hx : At w ib io x.cells) :
    Calls Try.prog 46 #[.pointer (some ⟨cb, co, none⟩), .int .i64 (k : Int), .pointer (some ⟨ib, io, none⟩)] w fun e w' => e = .returned (.bool (immP c k f x)) ∧ Dr w w' := by
  obtain ⟨c0, c1, c2⟩ := hc.three
  obtain ⟨i0, i1, i2, i3, i4, i5, i6⟩ := hx.seven
  obtain ⟨fb, fo, efa, hf, hfok⟩ := hcok.fns k f hk
  obtain ⟨f0, f1, f2, f3⟩ := hf.four
  have hkl : k < c.fns.length := (List.getElem?_eq_some_iff.1 hk).1
  have hkl' : (k : Int) < (c.fns.length : Int) := by omega
  have hlen : c.fns.length ≤ 9223372036854775807 := hcok.fsok.len
  rw [efa] at c2
  have HE := hideIt efa
  have HK := hideIt hcok
  clear hc hx hf hfok hk hcok efa
  unfold immP
  rcases x with ⟨op, ty, dst, a, b, imm, args, aa, ac⟩
  dsimp only at *
  have CB := hideIt (fun n m X => below64_any n m X)
  rcases imm_cases op with rfl | rfl | rfl | rfl | rfl | ⟨h26, h27, h28, h29, h32⟩
  · simp only [if_true]
    generalize hr : blP imm f.slots.length = r
    have CB := hideIt (fun X => below64_any imm f.slots.length X)
    rw [hr] at CB
    clear hr
    go_enter Try.func46, Try.ntmps46
    go_wp2_with (fail)
    go_quiet (first | (go_at_call 47; exact Calls.quiet_of_same (CB.out _)) | fail)
    go_wp2
    go_ret
    exact ⟨by first | rfl | simp, _, rfl⟩
  · have e : (if (27 : Int) = 26 then blP imm f.slots.length else if (27 : Int) = 27 then blP imm c.gl.length else if (27 : Int) = 28 then decide (1 ≤ imm) && decide (imm ≤ 65536) else if (27 : Int) = 29 then blP imm 65536 else if (27 : Int) = 32 then blP imm k && (match c.fns[imm.toNat]? with | some g => (args.length : Int) == g.params | none => false) else true) = blP imm c.gl.length := by simp
    rw [e]
    clear e
    generalize hr : blP imm c.gl.length = r
    have CB := hideIt (fun X => below64_any imm c.gl.length X)
    rw [hr] at CB
    clear hr
    go_enter Try.func46, Try.ntmps46
    go_wp2_with (fail)
    go_quiet (first | (go_at_call 47; exact Calls.quiet_of_same (CB.out _)) | fail)
    go_wp2
    go_ret
    exact ⟨by first | rfl | simp, _, rfl⟩
  · have e : (if (28 : Int) = 26 then blP imm f.slots.length else if (28 : Int) = 27 then blP imm c.gl.length else if (28 : Int) = 28 then decide (1 ≤ imm) && decide (imm ≤ 65536) else if (28 : Int) = 29 then blP imm 65536 else if (28 : Int) = 32 then blP imm k && (match c.fns[imm.toNat]? with | some g => (args.length : Int) == g.params | none => false) else true) = (decide (1 ≤ imm) && decide (imm ≤ 65536)) := by simp
    rw [e]
    clear e
    cases h1 : decide (1 ≤ imm) <;>
    · go_enter Try.func46, Try.ntmps46
      go_wp2_with (fail)
      go_ret
      exact ⟨by first | rfl | simp, Dr.refl _⟩
  · have e : (if (29 : Int) = 26 then blP imm f.slots.length else if (29 : Int) = 27 then blP imm c.gl.length else if (29 : Int) = 28 then decide (1 ≤ imm) && decide (imm ≤ 65536) else if (29 : Int) = 29 then blP imm 65536 else if (29 : Int) = 32 then blP imm k && (match c.fns[imm.toNat]? with | some g => (args.length : Int) == g.params | none => false) else true) = blP imm 65536 := by simp
    rw [e]
    clear e
    generalize hr : blP imm 65536 = r
    have CB := hideIt (fun X => below64_any imm 65536 X)
    rw [hr] at CB
    clear hr
    go_enter Try.func46, Try.ntmps46
    go_wp2_with (first | (go_at_call 47; refine (CB.out _).mono ?_; rintro e x ⟨rfl, rfl⟩) | fail)
    go_ret
    exact ⟨by first | rfl | simp, Dr.refl _⟩
  · have e : (if (32 : Int) = 26 then blP imm f.slots.length else if (32 : Int) = 27 then blP imm c.gl.length else if (32 : Int) = 28 then decide (1 ≤ imm) && decide (imm ≤ 65536) else if (32 : Int) = 29 then blP imm 65536 else if (32 : Int) = 32 then blP imm k && (match c.fns[imm.toNat]? with | some g => (args.length : Int) == g.params | none => false) else true) = (blP imm k && (match c.fns[imm.toNat]? with | some g => (args.length : Int) == g.params | none => false)) := by simp
    rw [e]
    clear e
    cases hr : blP imm k
    · have CB := hideIt (fun X => below64_any imm k X)
      rw [hr] at CB
      rw [Bool.false_and]
      clear hr
      go_enter Try.func46, Try.ntmps46
      go_wp2_with (fail)
      go_quiet (first | (go_at_call 47; exact Calls.quiet_of_same (CB.out _)) | fail)
      go_wp2
      go_ret
      exact ⟨by first | rfl | simp, _, rfl⟩
    · have CB := hideIt (fun X => below64_any imm k X)
      rw [hr] at CB
      have hb : 0 ≤ imm ∧ imm < k := by unfold blP at hr; simpa using hr
      clear hr
      obtain ⟨m, rfl⟩ : ∃ m : Nat, imm = m := ⟨imm.toNat, by omega⟩
      have hm : m < c.fns.length := by omega
      obtain ⟨g, hg⟩ := get_of_lt hm
      have e2 : ((m : Int)).toNat = m := by simp
      rw [e2, hg]
      clear e2
      obtain ⟨gb, go, ega, hgt, hgok⟩ := HK.out.fns m g hg
      rw [HE.out] at ega
      simp only [Option.some.injEq, Addr.mk.injEq, and_true] at ega
      obtain ⟨rfl, rfl⟩ := ega
      obtain ⟨g0, g1, g2, g3⟩ := hgt.four
      have hml : (m : Int) < (c.fns.length : Int) := by omega
      clear hg hgt hgok hb hm
      go_enter Try.func46, Try.ntmps46
      go_wp2_with (fail)
      go_quiet (first | (go_at_call 47; exact Calls.quiet_of_same (CB.out _)) | fail)
      go_wp2
      go_ret
      exact ⟨by first | rfl | simp, _, rfl⟩
  · simp only [h26, h27, h28, h29, h32, if_false]
    go_enter Try.func46, Try.ntmps46
    go_wp2_with (fail)
    go_ret
    exact ⟨by first | rfl | simp, Dr.refl _⟩

end Go.Proofs.Ytiiggldapncknaa
