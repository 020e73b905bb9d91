/-
  What slices.Concat makes of three lists of nodes: a contract over the program; the conditions: the lists lie in memory and have at most 20000 nodes side by side.
-/
import Derived.Test.YtioeoillogpdoaaPutsB
import Derived.Test.YtioeoillogpdoaaPartsC
import Derived.Laws.AppendOwnNone
namespace Go.Proofs.Ytioeoillogpdoaa
open Go.RowKit
set_option linter.unusedVariables false

/-- A list of nodes, nil or not, appended to one's own. -/
theorem wpList_app_fo {w X : World} {G F : Fo} {v : Value} {a : Option Addr} {c : Nat} (hq : Q w X) (hown : X.ownsRow w.heap.size 26 10 v G.len (cellsF G)) (hF : In X a F) (hs : sok a F.len c) (hb : G.len + F.len ≤ 20000)
    {ops : Array Oper} {rest : List Oper} {o : Oper} {act : Act} {Q' : Exit → Act → World → Prop} (hgd : o.guard = none) (s y : Operand)
    (ho : o.op = Op.call { callee := Callee.builtin Builtin.append, args := #[s, y], argTypes := #[24, 24] }) (hes : act.eval s = v) (hey : act.eval y = .slice a F.len c)
    (h : ∀ v' w', w'.ownsRow w.heap.size 26 10 v' (G.app F).len (cellsF (G.app F)) → Q w w' → wpList Try.prog ops Q' rest (act.put o.dst v') w') : wpList Try.prog ops Q' (o :: rest) act X := by
  obtain ⟨i0, hi, hz0, hz1, hz2⟩ := info_parts Try.info26
  cases a with
  | none =>
    have hc := hs.2.2 rfl
    have hl : F.len = 0 := by have := hs.1; omega
    have hF0 : F = .nil := by
      cases F with
      | nil => rfl
      | cons => simp [Fo.len] at hl
    subst hF0
    subst hc
    refine wpList_append_own_none hgd s y 24 ho w.heap.size 26 i0 10 Try.underlying24 hi v G.len (cellsF G) hes hown hey ?_
    refine h v X ?_ hq
    rw [app_nil]
    exact hown
  | some ad =>
    refine wpList_append_own _ hgd s y 24 ho w.heap.size 26 i0 (.agg #[.int .u8 0, .int .u8 0, .int .u8 0, .int .u8 0, .int .i64 0, .int .i64 0, .int .i64 0, .string ⟨#[]⟩, .string ⟨#[]⟩, .slice none 0 0]) 10 96 Try.underlying24 hi hz0 hz1 hz2 rfl (by decide) v G.len (cellsF G) hes hown ad F.len c (cellsF F) hey (cellsF_len F) (src_of hF ad rfl) (cellsF_one F) (by unfold maxLen; omega) (by omega) hq.size ?_
    intro v' w' r1 r2 r3
    refine h v' w' ?_ (Below.grown hq r2 hq.size (fun k hk => (hown.lt k hk).1))
    rw [app_len, cellsF_app]
    exact r1

set_option maxRecDepth 100000 in
set_option maxHeartbeats 1000000 in
theorem concat_any (F1 F2 F3 : Fo) (a1 a2 a3 : Option Addr) (c1 c2 c3 g : Nat) (w : World) (k1 : w.cell? ⟨g, 0, none⟩ = some (.slice a1 F1.len c1)) (k2 : w.cell? ⟨g, 1, none⟩ = some (.slice a2 F2.len c2)) (k3 : w.cell? ⟨g, 2, none⟩ = some (.slice a3 F3.len c3))
    (i1 : In w a1 F1) (i2 : In w a2 F2) (i3 : In w a3 F3) (s1 : sok a1 F1.len c1) (s2 : sok a2 F2.len c2) (s3 : sok a3 F3.len c3) (hb : F1.len + F2.len + F3.len ≤ 20000) :
    Calls Try.prog 48 #[.slice (some ⟨g, 0, none⟩) 3 3] w fun e w' => ∃ v, e = .returned v ∧ w'.ownsRow w.heap.size 26 10 v ((F1.app F2).app F3).len (cellsF ((F1.app F2).app F3)) ∧ Q w w' := by
  have hg : g < w.heap.size := World.block_lt_of_cell? w _ k1
  have K1 := hideIt k1
  have K2 := hideIt k2
  have K3 := hideIt k3
  have I1 := hideIt (And.intro i1 s1)
  have I2 := hideIt (And.intro i2 s2)
  have I3 := hideIt (And.intro i3 s3)
  have G0 : Hid (∀ w, Calls Try.prog 50 #[.slice none 0 0, .int .i64 ((F1.len + F2.len + F3.len : Nat) : Int)] w fun e w' => ∃ v, e = .returned v ∧ w'.ownsRow w.heap.size 26 10 v 0 [] ∧ Q w w') := by
    intro w
    by_cases h0 : 0 < F1.len + F2.len + F3.len
    · refine (grow_some _ w h0 hb).mono ?_
      rintro e w' ⟨cap, rfl, _, h2, h3⟩
      exact ⟨_, rfl, h2, h3⟩
    · have e0 : F1.len + F2.len + F3.len = 0 := by omega
      rw [e0]
      refine (grow_none w).mono ?_
      rintro e w' ⟨rfl, rfl⟩
      exact ⟨_, rfl, ⟨rfl, Or.inl ⟨rfl, rfl⟩⟩, Below.refl _ _⟩
  have ec : ((F1.len + F2.len + F3.len : Nat) : Int) = (F1.len : Int) + (F2.len : Int) + (F3.len : Int) := by omega
  rw [ec] at G0
  clear i1 i2 i3 s1 s2 s3 ec
  go_enter Try.func48, Try.ntmps48
  go_wp2_with (fail)
  go_loop [3, 11] (fun n i => (n = .int .i64 0 ∧ i = .int .i64 0) ∨ (n = .int .i64 (F1.len : Int) ∧ i = .int .i64 1) ∨ (n = .int .i64 ((F1.len : Int) + (F2.len : Int)) ∧ i = .int .i64 2) ∨ (n = .int .i64 ((F1.len : Int) + (F2.len : Int) + (F3.len : Int)) ∧ i = .int .i64 3)) (fun _ i => 3 - (intOf i).toNat)
  case atStart => exact Or.inl ⟨rfl, rfl⟩
  case round =>
    rcases hrel with ⟨rfl, rfl⟩ | ⟨rfl, rfl⟩ | ⟨rfl, rfl⟩ | ⟨rfl, rfl⟩
    · have t1 : decide ((F1.len : Int) < 0) = false := by simp
      go_wp2_with (fail)
      go_round
      case rel => exact Or.inr (Or.inl ⟨by go_num, by go_num⟩)
      case measure => simp [intOf]
    · have t1 : decide ((F1.len : Int) + (F2.len : Int) < 0) = false := by simp; omega
      go_wp2_with (fail)
      go_round
      case rel => exact Or.inr (Or.inr (Or.inl ⟨by go_num, by go_num⟩))
      case measure => simp [intOf]
    · have t1 : decide ((F1.len : Int) + (F2.len : Int) + (F3.len : Int) < 0) = false := by simp; omega
      go_wp2_with (fail)
      go_round
      case rel => exact Or.inr (Or.inr (Or.inr ⟨by go_num, by go_num⟩))
      case measure => simp [intOf]
    · clear k1 k2 k3
      go_wp2_with (first | (go_at_call 50; refine (G0.out _).mono ?_; rintro e x ⟨v0, rfl, o0, q0⟩; have O0 := hideIt o0; have Q0 := hideIt q0; clear o0 q0) | fail)
      go_loopw [6, 27] (fun v i wr => ∃ G : Fo, wr.ownsRow w.heap.size 26 10 v G.len (cellsF G) ∧ Q w wr ∧ ((G = .nil ∧ i = .int .i64 0) ∨ (G = F1 ∧ i = .int .i64 1) ∨ (G = F1.app F2 ∧ i = .int .i64 2) ∨ (G = (F1.app F2).app F3 ∧ i = .int .i64 3))) (fun _ i _ => 3 - (intOf i).toNat)
      case atStart => exact ⟨.nil, O0.out, Q0.out, Or.inl ⟨rfl, rfl⟩⟩
      case round =>
        obtain ⟨G, ho, hq, hc⟩ := hrel
        have HO := hideIt ho
        have HQ := hideIt hq
        have k1 : wr.cell? ⟨g, 0, none⟩ = some (.slice a1 F1.len c1) := (hq.cell (p := ⟨g, 0, none⟩) hg).trans K1.out
        have k2 : wr.cell? ⟨g, 1, none⟩ = some (.slice a2 F2.len c2) := (hq.cell (p := ⟨g, 1, none⟩) hg).trans K2.out
        have k3 : wr.cell? ⟨g, 2, none⟩ = some (.slice a3 F3.len c3) := (hq.cell (p := ⟨g, 2, none⟩) hg).trans K3.out
        clear ho hq O0 Q0
        rcases hc with ⟨rfl, rfl⟩ | ⟨rfl, rfl⟩ | ⟨rfl, rfl⟩ | ⟨rfl, rfl⟩
        · go_wp2_with (first | (at_builtin; refine wpList_app_fo (F := F1) (c := c1) HQ.out HO.out (I1.out.1.keep (Nat.le_refl _) HQ.out) I1.out.2 (by simp only [Fo.len]; omega) rfl (.tmp 31) (.tmp 32) rfl rfl rfl ?_; intro nv y r1 r2; have R1 := hideIt r1; have R2 := hideIt r2; clear r1 r2) | fail)
          go_roundw
          case rel => exact ⟨F1, R1.out, R2.out, Or.inr (Or.inl ⟨rfl, by go_num⟩)⟩
          case measure => simp [intOf]
        · go_wp2_with (first | (at_builtin; refine wpList_app_fo (F := F2) (c := c2) HQ.out HO.out (I2.out.1.keep (Nat.le_refl _) HQ.out) I2.out.2 (by omega) rfl (.tmp 31) (.tmp 32) rfl rfl rfl ?_; intro nv y r1 r2; have R1 := hideIt r1; have R2 := hideIt r2; clear r1 r2) | fail)
          go_roundw
          case rel => exact ⟨G.app F2, R1.out, R2.out, Or.inr (Or.inr (Or.inl ⟨rfl, by go_num⟩))⟩
          case measure => simp [intOf]
        · go_wp2_with (first | (at_builtin; refine wpList_app_fo (F := F3) (c := c3) HQ.out HO.out (I3.out.1.keep (Nat.le_refl _) HQ.out) I3.out.2 (by rw [app_len]; omega) rfl (.tmp 31) (.tmp 32) rfl rfl rfl ?_; intro nv y r1 r2; have R1 := hideIt r1; have R2 := hideIt r2; clear r1 r2) | fail)
          go_roundw
          case rel => exact ⟨_, R1.out, R2.out, Or.inr (Or.inr (Or.inr ⟨rfl, by go_num⟩))⟩
          case measure => simp [intOf]
        · go_wp2_with (fail)
          go_ret
          exact ⟨_, rfl, HO.out, HQ.out⟩
end Go.Proofs.Ytioeoillogpdoaa
