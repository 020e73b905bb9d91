/-
 The classes, when each part is one of its own (newClasses of flow): a contract over the program; the conditions: the parts lie in a row of their own.
-/
import Derived.Test.YtphknepblchkdaaKFlG
import Derived.Laws.MakeOwn
import Derived.Deep.Cut
import Derived.Deep.CutRange
import Derived.Deep.RegionLaw
import Derived.BigRegion
namespace Go.Proofs.Ytphknepblchkdaa.Fl
open Go.RowKit
set_option linter.unusedVariables false

theorem made1 (v : Value) (N : Nat) : madeCells #[v] N = Array.replicate N v := by
 refine Array.ext (by simp [madeCells]) (fun i h1 h2 => ?_)
 simp [madeCells, Nat.mod_one]
theorem infoFr : (Try.prog.info? 22).map (fun i => (i.zero, i.size, i.bytes)) = some (some (.slice none 0 0), 1, 24) := by kernel_rfl
theorem uFr : Try.prog.underlying 94 = some (.slice 22) := by kernel_rfl
theorem make_one {t e : TypeId} {z v : Value} {y : Nat} (hu : Try.prog.underlying t = some (.slice e)) (hi : (Try.prog.info? e).map (fun i => (i.zero, i.size, i.bytes)) = some (some z, 1, y)) (hz : z.cells = #[v]) (hy : y ≤ 24) (N : Nat) (hN : N ≤ 1000000) (X : World) :
  (Instr.makeSlice t (.int .i64 (N : Int)) (.int .i64 (N : Int))).run Try.prog X = .ok (.slice (some ⟨X.heap.size, 0, none⟩) N N) (X.alloc (.cells (Array.replicate N v) e)) := by
 obtain ⟨i, hi, hzz⟩ := Option.map_eq_some_iff.1 hi
 simp only [Prod.mk.injEq] at hzz
 obtain ⟨hz0, hz1, hz2⟩ := hzz
 have h1 : i.bytes * N ≤ 24 * N := Nat.mul_le_mul_right N (by omega)
 have h2 : (i.bytes : Int) * (N : Int) ≤ 281474976710656 := by
  have : ((i.bytes * N : Nat) : Int) ≤ 281474976710656 := by omega
  simpa using this
 have := run_make (P := Try.prog) X t e i _ hu hi hz0 .i64 .i64 (N : Int) (N : Int) (by omega) (Int.le_refl _) h2 (by omega)
 rw [hz1] at this
 simp only [Int.toNat_natCast, Nat.mul_one, hz, made1] at this
 exact this
theorem make_int (N : Nat) (hN : N ≤ 1000000) (X : World) : (Instr.makeSlice 22 (.int .i64 (N : Int)) (.int .i64 (N : Int))).run Try.prog X = .ok (.slice (some ⟨X.heap.size, 0, none⟩) N N) (X.alloc (.cells (Array.replicate N (.int .i64 0)) 3)) := make_one Try.underlying22 Try.infoInt rfl (by omega) N hN X
theorem make_fr (N : Nat) (hN : N ≤ 1000000) (X : World) : (Instr.makeSlice 94 (.int .i64 (N : Int)) (.int .i64 (N : Int))).run Try.prog X = .ok (.slice (some ⟨X.heap.size, 0, none⟩) N N) (X.alloc (.cells (Array.replicate N (.slice none 0 0)) 22)) := make_one uFr infoFr rfl (by omega) N hN X

theorem own_blk {z : World} {g base n sz : Nat} {cur : Array Value} {e : TypeId} (h : z.heap[g]? = some (.cells cur e (0, 0))) (hb : base ≤ g) (hs : cur.size = n * sz) (hn : n ≤ 1000000) : z.ownsRow base e sz (.slice (some ⟨g, 0, none⟩) n n) n cur.toList :=
 ⟨by simpa using hs, .inr ⟨g, n, cur, rfl, hb, h, Nat.le_refl _, by unfold maxLen; omega, hs, List.take_of_length_le (by rw [Array.length_toList, hs]; exact Nat.le_refl _)⟩⟩
theorem four (w : World) (o1 o2 o3 o4 : Obj) : Q w ((((w.alloc o1).alloc o2).alloc o3).alloc o4).drew ∧ ((((w.alloc o1).alloc o2).alloc o3).alloc o4).drew.heap[w.heap.size]? = some o1 ∧ ((((w.alloc o1).alloc o2).alloc o3).alloc o4).drew.heap[w.heap.size + 1]? = some o2 ∧ ((((w.alloc o1).alloc o2).alloc o3).alloc o4).drew.heap[w.heap.size + 1 + 1]? = some o3 ∧ ((((w.alloc o1).alloc o2).alloc o3).alloc o4).drew.heap[w.heap.size + 1 + 1 + 1]? = some o4 := by
 have q1 := (Q.refl (w.alloc o1)).alloc o2
 have q2 := (Q.refl ((w.alloc o1).alloc o2)).alloc o3
 have q3 := ((Q.refl (((w.alloc o1).alloc o2).alloc o3)).alloc o4).drew
 have h1 := heap_alloc_new w o1
 have h2 := heap_alloc_new (w.alloc o1) o2
 have h3 := heap_alloc_new ((w.alloc o1).alloc o2) o3
 have h4 := heap_alloc_new (((w.alloc o1).alloc o2).alloc o3) o4
 rw [World.size_alloc] at h2
 rw [World.size_alloc, World.size_alloc] at h3
 rw [World.size_alloc, World.size_alloc, World.size_alloc] at h4
 exact ⟨((((Q.refl w).alloc o1).alloc o2).alloc o3 |>.alloc o4).drew, heap_keep q3 (heap_keep q2 (heap_keep q1 h1)), heap_keep q3 (heap_keep q2 h2), heap_keep q3 h3, h4⟩
def rows0 (X : Fx) (L : List PP) (U H F cb : Nat) (k : Nat) : Rw :=
 if k = 0 then ⟨some ⟨X.P, 0, none⟩, X.N, X.pc, 47, 5, L.flatMap PP.cells⟩ else if k = 1 then ⟨some ⟨U, 0, none⟩, X.N, X.N, 3, 1, NV (List.replicate X.N 0)⟩ else if k = 2 then ⟨some ⟨H, 0, none⟩, X.N, X.N, 3, 1, NV (List.replicate X.N 0)⟩
 else if k = 3 then ⟨some ⟨F, 0, none⟩, X.N, X.N, 22, 1, List.replicate X.N (.slice none 0 0)⟩ else if k = 5 then ⟨some ⟨cb, 0, none⟩, 1, 1, 96, 5, [.slice (some ⟨X.P, 0, none⟩) X.N X.pc, .slice (some ⟨U, 0, none⟩) X.N X.N, .slice (some ⟨H, 0, none⟩) X.N X.N, .slice (some ⟨F, 0, none⟩) X.N X.N, .slice none 0 0]⟩
 else ⟨none, 0, 0, 3, 1, []⟩
theorem beg0 {X : Fx} (hX : X.ok) {L : List PP} (hL : L.length = X.N) (h0 : X.w0.ownsRow X.lo 47 5 (.slice (some ⟨X.P, 0, none⟩) X.N X.pc) X.N (L.flatMap PP.cells)) {z : World} (q : Q X.w0 z) {U H F cb : Nat}
  (hu : z.heap[U]? = some (.cells (Array.replicate X.N (.int .i64 0)) 3 (0, 0))) (hh : z.heap[H]? = some (.cells (Array.replicate X.N (.int .i64 0)) 3 (0, 0))) (hf : z.heap[F]? = some (.cells (Array.replicate X.N (.slice none 0 0)) 22 (0, 0)))
  (hb : z.heap[cb]? = some (.cells #[.slice (some ⟨X.P, 0, none⟩) X.N X.pc, .slice (some ⟨U, 0, none⟩) X.N X.N, .slice (some ⟨H, 0, none⟩) X.N X.N, .slice (some ⟨F, 0, none⟩) X.N X.N, .slice none 0 0] 96 (0, 0)))
  (l1 : X.w0.heap.size ≤ U) (l2 : X.w0.heap.size ≤ H) (l3 : X.w0.heap.size ≤ F) (l4 : X.w0.heap.size ≤ cb) (n1 : U ≠ H ∧ U ≠ F ∧ U ≠ cb ∧ H ≠ F ∧ H ≠ cb ∧ F ≠ cb) : CMy X cb L (Cs.begTo L 0) (List.replicate X.N 0) (rows0 X L U H F cb) z := by
 have hP := hX.P
 have hNN := hX.N
 have e0 : (Array.replicate X.N (Value.int .i64 0)).toList = NV (List.replicate X.N 0) := by rw [Array.toList_replicate, NV_rep]
 refine ⟨⟨fun k hk => ?_, fun i j hi hj hne a b ha hb' => ?_⟩, ⟨⟨rfl, rfl, rfl, rfl⟩, ⟨rfl, rfl, rfl, rfl⟩, ⟨rfl, rfl, rfl, by show NV (List.replicate X.N 0) = NV (List.replicate L.length 0); rw [hL]⟩, ⟨rfl, rfl, rfl, ?_⟩, ⟨rfl, rfl, rfl, rfl⟩, ⟨rfl, rfl, rfl, rfl⟩, rfl, fun j l hl => ?_, hL, by show (List.replicate L.length ([] : List Nat)).length = X.N; simp [hL]⟩, (Fs.of_q q), rfl⟩
 ·unfold rows0 Rw.at Fx.l
  split
  ·rename_i e; subst e
   exact row_kp h0 fun k hk => by injection hk with hk; subst hk; exact q.block _ hP
  ·split
   ·rw [← e0]; exact own_blk hu l1 (by simp) hNN
   ·split
    ·rw [← e0]; exact own_blk hh l2 (by simp) hNN
    ·split
     ·have := own_blk (n := X.N) (sz := 1) hf l3 (by simp) hNN
      rw [Array.toList_replicate] at this
      exact this
     ·split
      ·exact own_blk (n := 1) (sz := 5) hb l4 rfl (by omega)
      ·exact World.ownsRow_nil z _ _ _
 ·obtain ⟨m1, m2, m3, m4, m5, m6⟩ := n1
  have key : ∀ k a, (rows0 X L U H F cb k).a = some a → (k = 0 ∧ a.block = X.P) ∨ (k = 1 ∧ a.block = U) ∨ (k = 2 ∧ a.block = H) ∨ (k = 3 ∧ a.block = F) ∨ (k = 5 ∧ a.block = cb) := fun k a h => by
   unfold rows0 at h
   split at h
   ·injection h with h; subst h; exact .inl ⟨by assumption, rfl⟩
   ·split at h
    ·injection h with h; subst h; exact .inr (.inl ⟨by assumption, rfl⟩)
    ·split at h
     ·injection h with h; subst h; exact .inr (.inr (.inl ⟨by assumption, rfl⟩))
     ·split at h
      ·injection h with h; subst h; exact .inr (.inr (.inr (.inl ⟨by assumption, rfl⟩)))
      ·split at h
       ·injection h with h; subst h; exact .inr (.inr (.inr (.inr ⟨by assumption, rfl⟩)))
       ·cases h
  rcases key i a ha with ⟨x, y⟩ | ⟨x, y⟩ | ⟨x, y⟩ | ⟨x, y⟩ | ⟨x, y⟩ <;> rcases key j b hb' with ⟨x', y'⟩ | ⟨x', y'⟩ | ⟨x', y'⟩ | ⟨x', y'⟩ | ⟨x', y'⟩ <;> rw [y, y'] <;> omega
 ·show List.replicate X.N (Value.slice none 0 0) = _
  refine List.ext_getElem (by simp) fun i h1 h2 => ?_
  simp only [List.getElem_replicate, List.getElem_map, List.getElem_range]
  have : rows0 X L U H F cb (8 + i) = ⟨none, 0, 0, 3, 1, []⟩ := by unfold rows0; rw [if_neg (by omega), if_neg (by omega), if_neg (by omega), if_neg (by omega), if_neg (by omega)]
  rw [this]
 ·have hl' : l = [] := by
   have hl2 : (List.replicate L.length ([] : List Nat))[j]? = some l := hl
   have := List.mem_of_getElem? hl2
   exact (List.mem_replicate.1 this).2
  subst hl'
  have : rows0 X L U H F cb (8 + j) = ⟨none, 0, 0, 3, 1, []⟩ := by unfold rows0; rw [if_neg (by omega), if_neg (by omega), if_neg (by omega), if_neg (by omega), if_neg (by omega)]
  rw [this]
  exact ⟨rfl, rfl, rfl, rfl⟩

theorem begTo_succ {L : List PP} {k : Nat} {p : PP} (hp : L[k]? = some p) : Cs.begTo L (k + 1) = (Cs.begTo L k).begS k p := by
 show (match L[k]? with | some p => (Cs.begTo L k).begS k p | none => Cs.begTo L k) = _
 rw [hp]
def upB (N : Nat) : Nat → List Nat
 | 0 => List.replicate N 0
 | k + 1 => (upB N k).set k k
theorem upB_len (N : Nat) : ∀ k, (upB N k).length = N
 | 0 => by simp [upB]
 | k + 1 => by simp [upB, upB_len N k]
theorem upB_at (N : Nat) : ∀ k x, x < k → x < N → (upB N k)[x]? = some x
 | 0, x, h, _ => by omega
 | k + 1, x, h, hN => by
  show ((upB N k).set k k)[x]? = some x
  rw [List.getElem?_set]
  by_cases e : k = x
  ·subst e; rw [if_pos rfl, if_pos (by rw [upB_len]; exact hN)]
  ·rw [if_neg e]; exact upB_at N k x (by omega) hN
theorem upB_up (N : Nat) : Up N (upB N N) id (fun _ => 0) := by
 have at' : ∀ x y : Nat, (upB N N)[x]? = some y → y = x := fun x y h => by
  have hx := (List.getElem?_eq_some_iff.1 h).1
  rw [upB_len] at hx
  rw [upB_at N N x hx hx] at h
  injection h with h; exact h.symm
 exact ⟨upB_len N N, fun x y h => by have := at' x y h; have hx := (List.getElem?_eq_some_iff.1 h).1; rw [upB_len] at hx; omega, fun x y h => by rw [at' x y h], fun x y h => .inl (at' x y h), fun x _ => rfl, fun x hx => ⟨hx, upB_at N N x hx hx⟩⟩
theorem flat_updL (l : List (List Nat)) (m n : Nat) : (updL l m n).flatten.length ≤ l.flatten.length + 1 ∧ (updL l m n).length = l.length := by
 refine ⟨?_, by simp [updL]⟩
 unfold updL
 induction l generalizing m with
 | nil => simp
 | cons a l ih =>
  cases m with
  | zero => simp; omega
  | succ m =>
   have := ih m
   simp only [List.set_cons_succ, List.flatten_cons, List.length_append, List.getElem?_cons_succ] at this ⊢
   omega
theorem begS_bd (s : Cs) (n : Nat) (p : PP) : (s.begS n p).rt = s.rt ∧ (s.begS n p).td.length ≤ s.td.length + 1 ∧ (s.begS n p).fr.flatten.length ≤ s.fr.flatten.length + 2 ∧ (s.begS n p).hd.length = s.hd.length ∧ (s.begS n p).fr.length = s.fr.length := by
 unfold Cs.begS
 split
 ·simp
 ·dsimp only
  split
  ·have h1 := flat_updL s.fr p.next.toNat n
   have h2 := flat_updL (updL s.fr p.next.toNat n) p.els.toNat n
   refine ⟨rfl, by simp, by omega, by simp, by omega⟩
  ·simp
theorem begTo_bd (L : List PP) : ∀ k, (Cs.begTo L k).rt = id ∧ (Cs.begTo L k).td.length ≤ k ∧ (Cs.begTo L k).fr.flatten.length ≤ 2 * k ∧ (Cs.begTo L k).hd.length = L.length ∧ (Cs.begTo L k).fr.length = L.length
 | 0 => by simp [Cs.begTo]
 | k + 1 => by
  obtain ⟨h1, h2, h3, h4, h5⟩ := begTo_bd L k
  unfold Cs.begTo
  split
  ·rename_i p hp
   obtain ⟨g1, g2, g3, g4, g5⟩ := begS_bd (Cs.begTo L k) k p
   exact ⟨g1.trans h1, by omega, by omega, g4.trans h4, g5.trans h5⟩
  ·exact ⟨h1, by omega, by omega, h4, h5⟩

set_option maxRecDepth 100000 in
set_option maxHeartbeats 8000000 in
theorem newClasses_any (X : Fx) (hX : X.ok) (L : List PP) (hL : L.length = X.N) (hw : WyL L) (h0 : X.w0.ownsRow X.lo 47 5 (.slice (some ⟨X.P, 0, none⟩) X.N X.pc) X.N (L.flatMap PP.cells)) :
  Calls Try.prog 45 #[.slice (some ⟨X.P, 0, none⟩) X.N X.pc] X.w0 fun e w' => ∃ cb, e = .returned (.pointer (some ⟨cb, 0, none⟩)) ∧ CM X cb L (Cs.begTo L X.N) w' := by
 have hNN : X.N ≤ 1000000 := hX.N
 have hm1 := fun W => make_int X.N hNN W
 have hm2 := fun W => make_fr X.N hNN W
 go_enter Try.func45, Try.ntmps45
 go_upto_region 1 with (fail)
 go_cut [3] from 6 (fun v W => ∃ cb R, v = .pointer (some ⟨cb, 0, none⟩) ∧ Hid (CMy X cb L (Cs.begTo L 0) (List.replicate X.N 0) R W))
 case first =>
  go_region
  all_goals go_wp2_with (fail)
  all_goals go_meet
  all_goals
   obtain ⟨q, p1, p2, p3, p4⟩ := four X.w0 _ _ _ _
   refine ⟨X.w0.heap.size + 1 + 1 + 1, _, rfl, beg0 hX hL h0 q (by first | exact p1 | exact p2 | exact p3) (by first | exact p1 | exact p2 | exact p3) (by first | exact p1 | exact p2 | exact p3) p4 (by omega) (by omega) (by omega) (by omega) (by omega)⟩
 case rest =>
  obtain ⟨cb, R, rfl, M0⟩ := hcut
  generalize wc = z0 at *
  clear hm1 hm2 h0
  go_wp2_with (fail)
  go_loopw [4, 5, 20] (fun v4 v5 v z => ∃ (k : Nat) (R : Nat → Rw), v = .int .i64 k ∧ k ≤ X.N ∧ Hid (CMy X cb L (Cs.begTo L k) (upB X.N k) R z)) (fun v4 v5 v _ => X.N - (intOf v).toNat)
  case atStart => exact ⟨0, R, rfl, by omega, M0⟩
  case round =>
   obtain ⟨k, R, rfl, hk, M1⟩ := hrel
   generalize wr = z at *
   clear M0
   by_cases hlt : k < X.N
   ·obtain ⟨p, hp⟩ := get_of_lt (l := L) (k := k) (by omega)
    have HB : Hid (Cs.begTo L (k + 1) = (Cs.begTo L k).begS k p) := begTo_succ hp
    obtain ⟨-, bd2, bd3, bd4, bd5⟩ := begTo_bd L k
    have hul := upB_len X.N k
    have HUB : Hid (upB X.N (k + 1) = (upB X.N k).set k k) := rfl
    generalize Cs.begTo L k = s at *
    generalize upB X.N k = up at *
    have HWy := hideIt (hw p (List.mem_of_getElem? hp))
    have HP := hideIt hp
    have hki : (k : Int) < (X.N : Int) := by omega
    obtain ⟨U, hU, hUv, hUc, hUf⟩ := M1.out.nums (kD_lt (k := 1) (by omega)) M1.out.cr.u hX.pos hul
    obtain ⟨-, b1, b2, -, -, -⟩ := M1.out.bx
    obtain ⟨R1, m1, k1⟩ := M1.out.setU hU k k
    obtain ⟨H, hH, hHv, hHc, hHf⟩ := m1.nums (kD_lt (k := 2) (by omega)) m1.cr.h hX.pos (by omega)
    have hHv0 := hHv
    rw [k1 2 (by omega)] at hHv0
    obtain ⟨-, -, d2, -, -, -⟩ := m1.bx
    obtain ⟨R2, m2, -⟩ := m1.setH hH k k
    have M2 := hideIt m2
    rw [hUv] at b1
    rw [hHv0] at b2
    rw [hHv] at d2
    obtain ⟨u0, hu0⟩ := get_of_lt (l := up) (k := k) (by omega)
    obtain ⟨v0, hv0⟩ := get_of_lt (l := s.hd) (k := k) (by omega)
    have u1 := hUc k u0 hu0
    have uf := hUf k
    have v1 := hHc k v0 hv0
    have vf := hHf k
    generalize (R 1).c = uc at *
    generalize (R1 2).c = hc at *
    generalize (R 2).c = hc0 at *
    clear hp hU hUv hUc hUf hH hHv hHv0 hHc hHf hu0 hv0 m1 m2 k1
    go_upto_region 5 with (fail)
    go_cut [] from 23 to 108 (fun W => ∃ R', Hid (CMy X cb L { s with hd := s.hd.set k k } (up.set k k) R' W))
    case first =>
     go_region
     all_goals go_wp2_with (fail)
     all_goals go_meet
     all_goals exact ⟨R2, hideIt (M2.out.q (Q.refl _).drew)⟩
    case rest =>
     obtain ⟨R3, M3⟩ := hcut
     generalize wc = z3 at *
     clear b1 b2 d2 u1 uf v1 vf M2 M1
     obtain ⟨s1, hs1⟩ : ∃ s1 : Cs, s1 = { s with hd := s.hd.set k k } := ⟨_, rfl⟩
     rw [← hs1] at M3
     have HS1 := hideIt hs1
     have hfr1 : s1.fr = s.fr := by rw [hs1]
     have htd1 : s1.td = s.td := by rw [hs1]
     have HBX : Hid (s.begS k p = if p.e = true ∨ 0 < p.ins.length then s1 else { s1 with td := s1.td ++ [k], fr := if brP p = true then updL (updL s1.fr p.next.toNat k) p.els.toNat k else s1.fr }) := by rw [hs1]; exact rfl
     have PC : Hid (∀ y s' R', CMy X cb L s' (up.set k k) R' y → At y X.P (k * 5) p.cells) := fun y s' R' hy => (hy.part HP.out).1
     obtain ⟨c0, c1, c2, c3, c4⟩ := (PC.out _ _ _ M3.out).five
     generalize hil0 : p.ins.length = len at *
     have HIL0 := hideIt hil0
     clear hs1 hil0
     cases he : p.e with
     | true =>
      rw [he] at c1
      have e9 := HBX.out
      rw [if_pos (.inl he)] at e9
      have E9 := hideIt e9
      clear e9 he
      go_wp2_with (fail)
      go_roundw
      case rel => exact ⟨k + 1, R3, by go_num, by omega, by show CMy X cb L (Cs.begTo L (k + 1)) _ _ _; rw [HB.out, E9.out, HUB.out]; exact M3.out⟩
      case measure => simp [intOf]; omega
     | false =>
      rw [he] at c1
      by_cases hil : 0 < len
      ·have e9 := HBX.out
       rw [if_pos (.inr hil)] at e9
       have E9 := hideIt e9
       have hdl : decide ((0 : Int) < (len : Int)) = true := by simpa using hil
       clear e9 he
       go_wp2_with (fail)
       go_roundw
       case rel => exact ⟨k + 1, R3, by go_num, by omega, by show CMy X cb L (Cs.begTo L (k + 1)) _ _ _; rw [HB.out, E9.out, HUB.out]; exact M3.out⟩
       case measure => simp [intOf]; omega
      ·have e9 := HBX.out
       rw [if_neg (fun q => by rcases q with q | q; rw [he] at q; cases q; exact hil q)] at e9
       have E9 := hideIt e9
       have hdl : decide ((0 : Int) < (len : Int)) = false := by simpa using hil
       obtain ⟨-, -, -, -, b4, -⟩ := M3.out.bx
       have b4' : ∀ ob, (z3.alloc ob).cell? ⟨cb, 4, none⟩ = some (.slice (R3 4).a (R3 4).n (R3 4).c) := fun ob => cell_keep ((Q.refl z3).alloc ob) b4
       have b4'' : z3.cell? ⟨cb, 4, none⟩ = some (.slice (R3 4).a (R3 4).n (R3 4).c) := b4
       have NX8 := hideIt (fun ty => td_app M3.out k (by rw [htd1]; omega) (Y := z3.alloc (.cells #[.int .i64 (k : Int)] 3)) ((Q.refl z3).alloc _) (t := z3.heap.size) ((cell_of_block (heap_alloc_new z3 _) 0).trans rfl) ty)
       generalize (R3 4).a = ta at *
       generalize (R3 4).n = tl at *
       generalize (R3 4).c = tc at *
       clear e9 b4
       cases hbr : brP p with
       | false =>
        rw [hbr] at E9
        have CBR : Hid (∀ y, At y X.P (k * 5) p.cells → Calls Try.prog 40 #[.pointer (some ⟨X.P, k * 5, none⟩)] y fun e w' => e = .returned (.bool false) ∧ w' = y) := fun y hy => by have := branches_any y X.P (k * 5) p hy; rw [hbr] at this; exact this
        clear hbr
        go_wp2_with (first
         | (at_builtin; refine wpList_append_ex (by rfl) _ _ 22 22 (by rfl) _ _ (by rfl) (by rfl) _ _ (NX8.out _) ?_; rintro a5 c5 w5 ⟨t1, t2, R4, hm⟩; have M4 := hideIt hm; clear hm)
         | (go_at_call 40; refine (CBR.out _ (PC.out _ _ _ M4.out)).mono ?_; rintro e y ⟨rfl, rfl⟩)
         | fail)
        go_roundw
        case rel => exact ⟨k + 1, R4, by go_num, by omega, by show CMy X cb L (Cs.begTo L (k + 1)) _ _ _; rw [HB.out, E9.out, HUB.out]; exact M4.out⟩
        case measure => simp [intOf]; omega
       | true =>
        rw [hbr] at E9
        have CBR : Hid (∀ y, At y X.P (k * 5) p.cells → Calls Try.prog 40 #[.pointer (some ⟨X.P, k * 5, none⟩)] y fun e w' => e = .returned (.bool true) ∧ w' = y) := fun y hy => by have := branches_any y X.P (k * 5) p hy; rw [hbr] at this; exact this
        have hwy := HWy.out
        obtain ⟨n1, n2⟩ := hwy.nx he
        obtain ⟨m1, m2⟩ := hwy.el he (by unfold brP at hbr; simp at hbr; exact hbr.2)
        obtain ⟨nx, hnx⟩ : ∃ nx : Nat, p.next = (nx : Int) := ⟨p.next.toNat, by omega⟩
        obtain ⟨el, hel⟩ : ∃ el : Nat, p.els = (el : Int) := ⟨p.els.toNat, by omega⟩
        rw [hnx, hel, Int.toNat_natCast, Int.toNat_natCast] at E9
        have hnN : nx < X.N := by omega
        have heN : el < X.N := by omega
        have PC2 : Hid (∀ y s' R', CMy X cb L s' (up.set k k) R' y → y.cell? ⟨X.P, k * 5 + 3, none⟩ = some (.int .i64 (nx : Int)) ∧ y.cell? ⟨X.P, k * 5 + 4, none⟩ = some (.int .i64 (el : Int))) := fun y s' R' hy => by
         obtain ⟨-, -, -, q3, q4⟩ := (PC.out y s' R' hy).five
         rw [hnx] at q3
         rw [hel] at q4
         exact ⟨q3, q4⟩
        clear hbr n1 n2 m1 m2 hnx hel hwy
        go_upto_region 10 with (first
         | (at_builtin; refine wpList_append_ex (by rfl) _ _ 22 22 (by rfl) _ _ (by rfl) (by rfl) _ _ (NX8.out _) ?_; rintro a5 c5 w5 ⟨t1, t2, R4, hm⟩; have M4 := hideIt hm; clear hm)
         | (go_at_call 40; refine (CBR.out _ (PC.out _ _ _ M4.out)).mono ?_; rintro e y ⟨rfl, rfl⟩)
         | fail)
        obtain ⟨F, hF, hFv, hFc, hFf⟩ := M4.out.froms hX
        obtain ⟨-, -, -, b3, -, -⟩ := M4.out.bx
        rw [hFv] at b3
        obtain ⟨ln, hln, hin⟩ := fr_get M4.out hnN
        have hflat : ∀ (l : List Nat), l ∈ s1.fr → l.length ≤ 2 * k := fun l hl => by
         have h1 := (List.sublist_flatten_of_mem hl).length_le
         rw [hfr1] at h1
         omega
        have d1 : (w5.setCell ⟨cb, 4, none⟩ (.slice a5 (tl + 1) c5)).cell? ⟨F, nx, none⟩ = some (.slice (R4 (8 + nx)).a (R4 (8 + nx)).n (R4 (8 + nx)).c) := hFc nx hnN
        obtain ⟨p3, p4⟩ := PC2.out _ _ _ M4.out
        generalize hz4 : w5.setCell ⟨cb, 4, none⟩ (.slice a5 (tl + 1) c5) = z4 at *
        have NX10 := hideIt (fun (Y : World) (q : Q z4 Y) (ht : Y.cell? ⟨z4.heap.size, 0, none⟩ = some (.int .i64 (k : Int))) ty => fr_app M4.out hX hnN hln hF k (by have := hflat ln (List.mem_of_getElem? hln); omega) q ht ty)
        have NF1 : Hid (cb ≠ F) := fun q => M4.out.sep.apart 5 3 (kD_lt (by omega)) (kD_lt (by omega)) (by omega) _ _ M4.out.cr.ba hF q
        have NF2 : Hid (X.P ≠ F) := fun q => M4.out.sep.apart 0 3 (kD_lt (by omega)) (kD_lt (by omega)) (by omega) _ _ M4.out.pa hF q
        generalize (R4 3).c = fc at *
        have KS10 : Hid (∀ Y, Q z4 Y → Y.cell? ⟨cb, 3, none⟩ = some (.slice (some ⟨F, 0, none⟩) X.N fc) ∧ Y.cell? ⟨X.P, k * 5 + 3, none⟩ = some (.int .i64 (nx : Int))) := fun Y q => ⟨cell_keep q b3, cell_keep q p3⟩
        have d1' := fun ob => cell_keep ((Q.refl z4).alloc ob) d1
        have hni : (nx : Int) < (X.N : Int) := by omega
        have hei : (el : Int) < (X.N : Int) := by omega
        have HUP : Hid (s1.fr.set nx (ln ++ [k]) = updL s1.fr nx k) := by show _ = s1.fr.set nx ((s1.fr[nx]?).getD [] ++ [k]); rw [show s1.fr[nx]? = some ln from hln]; rfl
        have HFL := hideIt hflat
        have HZ4 := hideIt hz4
        have HF0 := hideIt hF
        rw [HUP.out] at NX10
        clear hF hFv hFc hFf hln hin t1 t2 b4' b4'' hz4 hflat
        generalize (R4 (8 + nx)).a = xa at *
        generalize (R4 (8 + nx)).n = xn at *
        generalize (R4 (8 + nx)).c = xc at *
        go_cut [] from 64 to 108 (fun W => ∃ R', Hid (CMy X cb L { s1 with td := s1.td ++ [k], fr := updL s1.fr nx k } (up.set k k) R' W))
        case first =>
         -- region 10
         refine wp_region_held_drew (S := fun Y => Y.cell? ⟨cb, 3, none⟩ = some (.slice (some ⟨F, 0, none⟩) X.N fc) ∧ Y.cell? ⟨X.P, k * 5 + 3, none⟩ = some (.int .i64 (nx : Int))) (by kernel_rfl) (KS10.out _ (by first | exact ((Q.refl z4).alloc _).drew | exact (Q.refl z4).drew.alloc _ | exact (Q.refl z4).alloc _ | exact (Q.refl z4).drew | exact Q.refl z4)) (fun hHeld => ?_)
         refine wpAnyH_take (i := 0) (oi := ⟨_, _, _, _, _, _⟩) (v := ?_) rfl (by kernel_rfl) (by kernel_rfl) (by kernel_rfl) (fun _ _ _ h => h) (Or.inl ⟨by rfl, ?_⟩) (by assumption) ?_
         rotate_left 1
         ·intro w hSw; (try dsimp only at hSw); go_simp; all_goals with_reducible rfl
         try simp only [Act.put, List.setIfInBounds_toArray, List.set_cons_zero, List.set_cons_succ]
         refine wpAnyH_take (i := 1) (oi := ⟨_, _, _, _, _, _⟩) (v := ?_) rfl (by kernel_rfl) (by kernel_rfl) (by kernel_rfl) (fun _ _ _ h => h) (Or.inl ⟨by rfl, ?_⟩) (by assumption) ?_
         rotate_left 1
         ·intro w hSw; (try dsimp only at hSw); go_simp; all_goals with_reducible rfl
         try simp only [Act.put, List.setIfInBounds_toArray, List.set_cons_zero, List.set_cons_succ]
         refine wpAnyH_take (i := 2) (oi := ⟨_, _, _, _, _, _⟩) (v := ?_) rfl (by kernel_rfl) (by kernel_rfl) (by kernel_rfl) (fun _ _ _ h => h) (Or.inl ⟨by rfl, ?_⟩) (by assumption) ?_
         rotate_left 1
         ·intro w hSw; (try dsimp only at hSw); go_simp; all_goals with_reducible rfl
         try simp only [Act.put, List.setIfInBounds_toArray, List.set_cons_zero, List.set_cons_succ]
         refine wpAnyH_take (i := 3) (oi := ⟨_, _, _, _, _, _⟩) (v := ?_) rfl (by kernel_rfl) (by kernel_rfl) (by kernel_rfl) (fun _ _ _ h => h) (Or.inl ⟨by rfl, ?_⟩) (by assumption) ?_
         rotate_left 1
         ·intro w hSw; (try dsimp only at hSw); go_simp; all_goals with_reducible rfl
         try simp only [Act.put, List.setIfInBounds_toArray, List.set_cons_zero, List.set_cons_succ]
         refine wpAnyH_take (i := 4) (oi := ⟨_, _, _, _, _, _⟩) (v := ?_) rfl (by kernel_rfl) (by kernel_rfl) (by kernel_rfl) (fun _ _ _ h => h) (Or.inl ⟨by rfl, ?_⟩) (by assumption) ?_
         rotate_left 1
         ·intro w hSw; (try dsimp only at hSw); go_simp; all_goals with_reducible rfl
         try simp only [Act.put, List.setIfInBounds_toArray, List.set_cons_zero, List.set_cons_succ]
         refine wpAnyH_take (i := 5) (oi := ⟨_, _, _, _, _, _⟩) (v := ?_) rfl (by kernel_rfl) (by kernel_rfl) (by kernel_rfl) (fun _ _ _ h => h) (Or.inl ⟨by rfl, ?_⟩) (by assumption) ?_
         rotate_left 1
         ·intro w hSw; (try dsimp only at hSw); go_simp; all_goals with_reducible rfl
         try simp only [Act.put, List.setIfInBounds_toArray, List.set_cons_zero, List.set_cons_succ]
         refine wpAnyH_take (i := 6) (oi := ⟨_, _, _, _, _, _⟩) (v := ?_) rfl (by kernel_rfl) (by kernel_rfl) (by kernel_rfl) (fun _ _ _ h => h) (Or.inl ⟨by rfl, ?_⟩) (by assumption) ?_
         rotate_left 1
         ·intro w hSw; (try dsimp only at hSw); go_simp; all_goals with_reducible rfl
         try simp only [Act.put, List.setIfInBounds_toArray, List.set_cons_zero, List.set_cons_succ]
         refine wpAnyH_take (i := 7) (oi := ⟨_, _, _, _, _, _⟩) (v := ?_) rfl (by kernel_rfl) (by kernel_rfl) (by kernel_rfl) (fun _ _ _ h => h) (Or.inl ⟨by rfl, ?_⟩) (by assumption) ?_
         rotate_left 1
         ·intro w hSw; (try dsimp only at hSw); go_simp; all_goals with_reducible rfl
         try simp only [Act.put, List.setIfInBounds_toArray, List.set_cons_zero, List.set_cons_succ]
         refine wpAnyH_take (i := 8) (oi := ⟨_, _, _, _, _, _⟩) (v := ?_) rfl (by kernel_rfl) (by kernel_rfl) (by kernel_rfl) (fun _ _ _ h => h) (Or.inl ⟨by rfl, ?_⟩) (by assumption) ?_
         rotate_left 1
         ·intro w hSw; (try dsimp only at hSw); go_simp; all_goals with_reducible rfl
         try simp only [Act.put, List.setIfInBounds_toArray, List.set_cons_zero, List.set_cons_succ]
         refine wpAnyH_take (i := 9) (oi := ⟨_, _, _, _, _, _⟩) (v := ?_) rfl (by kernel_rfl) (by kernel_rfl) (by kernel_rfl) (fun _ _ _ h => h) (Or.inl ⟨by rfl, ?_⟩) (by assumption) ?_
         rotate_left 1
         ·intro w hSw; (try dsimp only at hSw); go_simp; all_goals with_reducible rfl
         try simp only [Act.put, List.setIfInBounds_toArray, List.set_cons_zero, List.set_cons_succ]
         refine wpAnyH_take (i := 10) (oi := ⟨_, _, _, _, _, _⟩) (v := ?_) rfl (by kernel_rfl) (by kernel_rfl) (by kernel_rfl) (fun _ _ _ h => h) (Or.inl ⟨by rfl, ?_⟩) (by assumption) ?_
         rotate_left 1
         ·intro w hSw; (try dsimp only at hSw); go_simp; all_goals with_reducible rfl
         try simp only [Act.put, List.setIfInBounds_toArray, List.set_cons_zero, List.set_cons_succ]
         refine wpAnyH_take (i := 11) (oi := ⟨_, _, _, _, _, _⟩) (v := ?_) rfl (by kernel_rfl) (by kernel_rfl) (by kernel_rfl) (fun _ _ _ h => h) (Or.inl ⟨by rfl, ?_⟩) (by assumption) ?_
         rotate_left 1
         ·intro w hSw; (try dsimp only at hSw); go_simp; all_goals with_reducible rfl
         try simp only [Act.put, List.setIfInBounds_toArray, List.set_cons_zero, List.set_cons_succ]
         refine wpAnyH_take (i := 12) (oi := ⟨_, _, _, _, _, _⟩) (v := ?_) rfl (by kernel_rfl) (by kernel_rfl) (by kernel_rfl) (fun _ _ _ h => h) (Or.inl ⟨by rfl, ?_⟩) (by assumption) ?_
         rotate_left 1
         ·intro w hSw; (try dsimp only at hSw); go_simp; all_goals with_reducible rfl
         try simp only [Act.put, List.setIfInBounds_toArray, List.set_cons_zero, List.set_cons_succ]
         refine wpAnyH_take (i := 13) (oi := ⟨_, _, _, _, _, _⟩) (v := ?_) rfl (by kernel_rfl) (by kernel_rfl) (by kernel_rfl) (fun _ _ _ h => h) (Or.inl ⟨by rfl, ?_⟩) (by assumption) ?_
         rotate_left 1
         ·intro w hSw; (try dsimp only at hSw); go_simp; all_goals with_reducible rfl
         try simp only [Act.put, List.setIfInBounds_toArray, List.set_cons_zero, List.set_cons_succ]
         refine wpAnyH_take (i := 14) (oi := ⟨_, _, _, _, _, _⟩) (v := ?_) rfl (by kernel_rfl) (by kernel_rfl) (by kernel_rfl) (fun _ _ _ h => h) (Or.inl ⟨by rfl, ?_⟩) (by assumption) ?_
         rotate_left 1
         ·intro w hSw; (try dsimp only at hSw); go_simp; all_goals with_reducible rfl
         try simp only [Act.put, List.setIfInBounds_toArray, List.set_cons_zero, List.set_cons_succ]
         refine wpAnyH_take (i := 15) (oi := ⟨_, _, _, _, _, _⟩) (v := ?_) rfl (by kernel_rfl) (by kernel_rfl) (by kernel_rfl) (fun _ _ _ h => h) (Or.inl ⟨by rfl, ?_⟩) (by assumption) ?_
         rotate_left 1
         ·intro w hSw; (try dsimp only at hSw); go_simp; all_goals with_reducible rfl
         try simp only [Act.put, List.setIfInBounds_toArray, List.set_cons_zero, List.set_cons_succ]
         refine wpAnyH_take (i := 16) (oi := ⟨_, _, _, _, _, _⟩) (v := ?_) rfl (by kernel_rfl) (by kernel_rfl) (by kernel_rfl) (fun _ _ _ h => h) (Or.inl ⟨by rfl, ?_⟩) (by assumption) ?_
         rotate_left 1
         ·intro w hSw; (try dsimp only at hSw); go_simp; all_goals with_reducible rfl
         try simp only [Act.put, List.setIfInBounds_toArray, List.set_cons_zero, List.set_cons_succ]
         refine wpAnyH_take (i := 18) (oi := ⟨_, _, _, _, _, _⟩) (v := ?_) rfl (by kernel_rfl) (by kernel_rfl) (by kernel_rfl) (fun _ _ _ h => h) (Or.inl ⟨by rfl, ?_⟩) (by assumption) ?_
         rotate_left 1
         ·intro w hSw; (try dsimp only at hSw); go_simp; all_goals with_reducible rfl
         try simp only [Act.put, List.setIfInBounds_toArray, List.set_cons_zero, List.set_cons_succ]
         refine wpAnyH_ready (rs := [17, 19]) (by kernel_rfl) (by simp) (AllReadyH.cons (o := ⟨_, _, _, _, _, _⟩) rfl (fun K hK => ?_) (AllReadyH.cons (o := ⟨_, _, _, _, _, _⟩) rfl (fun K hK => ?_) AllReadyH.nil))
         ·go_simp
          refine hK.out _ _ ?_ (fun hHeld => ?_)
          ·exact KS10.out _ (by first | exact ((Q.refl z4).alloc _).drew | exact (Q.refl z4).drew.alloc _ | exact (Q.refl z4).alloc _ | exact (Q.refl z4).drew | exact Q.refl z4)
          clear hK K
          try simp only [Act.put, List.setIfInBounds_toArray, List.set_cons_zero, List.set_cons_succ]
          refine wpAnyH_ready (rs := [19]) (by kernel_rfl) (by simp) (AllReadyH.cons (o := ⟨_, _, _, _, _, _⟩) rfl (fun K hK => ?_) AllReadyH.nil)
          go_simp
          refine hK.out _ _ ?_ (fun hHeld => ?_)
          ·exact KS10.out _ (by first | exact ((Q.refl z4).alloc _).drew | exact (Q.refl z4).drew.alloc _ | exact (Q.refl z4).alloc _ | exact (Q.refl z4).drew | exact Q.refl z4)
          clear hK K
          try simp only [Act.put, List.setIfInBounds_toArray, List.set_cons_zero, List.set_cons_succ]
          refine wpAnyH_ready (rs := [20]) (by kernel_rfl) (by simp) (AllReadyH.cons (o := ⟨_, _, _, _, _, _⟩) rfl (fun K hK => ?_) AllReadyH.nil)
          refine step_append_ex (by rfl) _ _ 22 22 (by rfl) _ _ (by rfl) (by rfl) _ _ (NX10.out _ (by first | exact ((Q.refl z4).alloc _).drew | exact (Q.refl z4).drew.alloc _ | exact (Q.refl z4).alloc _ | exact (Q.refl z4).drew | exact Q.refl z4) (by first | exact (cell_of_block (heap_alloc_new z4 _) 0).trans rfl | exact (cell_of_block (heap_alloc_new z4.drew _) 0).trans rfl) _) ?_; rintro a6 c6 w6 ⟨t1, t2, t3, t4, hm⟩; have M5 := hideIt hm; have t5 := t4 ⟨X.P, k * 5 + 3, none⟩ _ rfl p3; have k1 := set_cell_ne (p := ⟨F, nx, none⟩) (u := .slice a6 (xn + 1) c6) t3 (fun e => NF1.out (congrArg Addr.block e)); have k2 := set_cell_ne (p := ⟨F, nx, none⟩) (u := .slice a6 (xn + 1) c6) t5 (fun e => NF2.out (congrArg Addr.block e)); clear hm t4
          refine hK.out _ _ ?_ (fun hHeld => ?_)
          ·exact ⟨t3, t5⟩
          clear hK K
          try simp only [Act.put, List.setIfInBounds_toArray, List.set_cons_zero, List.set_cons_succ]
          refine wpAnyH_take (i := 21) (oi := ⟨_, _, _, _, _, _⟩) (v := ?_) rfl (by kernel_rfl) (by kernel_rfl) (by kernel_rfl) (fun _ _ _ h => h) (Or.inl ⟨by rfl, ?_⟩) (by assumption) ?_
          rotate_left 1
          ·intro w hSw; (try dsimp only at hSw); go_simp; all_goals with_reducible rfl
          try simp only [Act.put, List.setIfInBounds_toArray, List.set_cons_zero, List.set_cons_succ]
          refine wpAnyH_ready (rs := [22]) (by kernel_rfl) (by simp) (AllReadyH.cons (o := ⟨_, _, _, _, _, _⟩) rfl (fun K hK => ?_) AllReadyH.nil)
          go_simp
          refine hK.out _ _ ?_ (fun hHeld => ?_)
          ·exact ⟨k1, k2⟩
          clear hK K
          try simp only [Act.put, List.setIfInBounds_toArray, List.set_cons_zero, List.set_cons_succ]
          refine wpAnyH_done (by kernel_rfl) ?_ _
          go_wp2_with (fail)
          go_meet
          exact M5.out
         ·go_simp
          refine hK.out _ _ ?_ (fun hHeld => ?_)
          ·exact KS10.out _ (by first | exact ((Q.refl z4).alloc _).drew | exact (Q.refl z4).drew.alloc _ | exact (Q.refl z4).alloc _ | exact (Q.refl z4).drew | exact Q.refl z4)
          clear hK K
          try simp only [Act.put, List.setIfInBounds_toArray, List.set_cons_zero, List.set_cons_succ]
          refine wpAnyH_ready (rs := [17]) (by kernel_rfl) (by simp) (AllReadyH.cons (o := ⟨_, _, _, _, _, _⟩) rfl (fun K hK => ?_) AllReadyH.nil)
          go_simp
          refine hK.out _ _ ?_ (fun hHeld => ?_)
          ·exact KS10.out _ (by first | exact ((Q.refl z4).alloc _).drew | exact (Q.refl z4).drew.alloc _ | exact (Q.refl z4).alloc _ | exact (Q.refl z4).drew | exact Q.refl z4)
          clear hK K
          try simp only [Act.put, List.setIfInBounds_toArray, List.set_cons_zero, List.set_cons_succ]
          refine wpAnyH_ready (rs := [20]) (by kernel_rfl) (by simp) (AllReadyH.cons (o := ⟨_, _, _, _, _, _⟩) rfl (fun K hK => ?_) AllReadyH.nil)
          refine step_append_ex (by rfl) _ _ 22 22 (by rfl) _ _ (by rfl) (by rfl) _ _ (NX10.out _ (by first | exact ((Q.refl z4).alloc _).drew | exact (Q.refl z4).drew.alloc _ | exact (Q.refl z4).alloc _ | exact (Q.refl z4).drew | exact Q.refl z4) (by first | exact (cell_of_block (heap_alloc_new z4 _) 0).trans rfl | exact (cell_of_block (heap_alloc_new z4.drew _) 0).trans rfl) _) ?_; rintro a6 c6 w6 ⟨t1, t2, t3, t4, hm⟩; have M5 := hideIt hm; have t5 := t4 ⟨X.P, k * 5 + 3, none⟩ _ rfl p3; have k1 := set_cell_ne (p := ⟨F, nx, none⟩) (u := .slice a6 (xn + 1) c6) t3 (fun e => NF1.out (congrArg Addr.block e)); have k2 := set_cell_ne (p := ⟨F, nx, none⟩) (u := .slice a6 (xn + 1) c6) t5 (fun e => NF2.out (congrArg Addr.block e)); clear hm t4
          refine hK.out _ _ ?_ (fun hHeld => ?_)
          ·exact ⟨t3, t5⟩
          clear hK K
          try simp only [Act.put, List.setIfInBounds_toArray, List.set_cons_zero, List.set_cons_succ]
          refine wpAnyH_take (i := 21) (oi := ⟨_, _, _, _, _, _⟩) (v := ?_) rfl (by kernel_rfl) (by kernel_rfl) (by kernel_rfl) (fun _ _ _ h => h) (Or.inl ⟨by rfl, ?_⟩) (by assumption) ?_
          rotate_left 1
          ·intro w hSw; (try dsimp only at hSw); go_simp; all_goals with_reducible rfl
          try simp only [Act.put, List.setIfInBounds_toArray, List.set_cons_zero, List.set_cons_succ]
          refine wpAnyH_ready (rs := [22]) (by kernel_rfl) (by simp) (AllReadyH.cons (o := ⟨_, _, _, _, _, _⟩) rfl (fun K hK => ?_) AllReadyH.nil)
          go_simp
          refine hK.out _ _ ?_ (fun hHeld => ?_)
          ·exact ⟨k1, k2⟩
          clear hK K
          try simp only [Act.put, List.setIfInBounds_toArray, List.set_cons_zero, List.set_cons_succ]
          refine wpAnyH_done (by kernel_rfl) ?_ _
          go_wp2_with (fail)
          go_meet
          exact M5.out
         -- end of region 10
        case rest =>
         obtain ⟨R5, M5⟩ := hcut
         clear NX10 KS10 b3 d1 d1' p3 p4 NF1 NF2 HF0
         generalize wc = z5 at *
         obtain ⟨F, hF, hFv, hFc, hFf⟩ := M5.out.froms hX
         obtain ⟨-, -, -, b3, -, -⟩ := M5.out.bx
         rw [hFv] at b3
         obtain ⟨le, hle, hin⟩ := fr_get M5.out heN
         have d1 : z5.cell? ⟨F, el, none⟩ = some (.slice (R5 (8 + el)).a (R5 (8 + el)).n (R5 (8 + el)).c) := hFc el heN
         obtain ⟨p3, p4⟩ := PC2.out _ _ _ M5.out
         have hlb : le.length ≤ 2 * k + 1 := by
          have h1 := flat_updL s1.fr nx k
          have h2 : le.length ≤ (updL s1.fr nx k).flatten.length := (List.sublist_flatten_of_mem (List.mem_of_getElem? hle)).length_le
          rw [hfr1] at h1 h2
          have h3 := h1.1
          omega
         have NX11 := hideIt (fun (Y : World) (q : Q z5 Y) (ht : Y.cell? ⟨z5.heap.size, 0, none⟩ = some (.int .i64 (k : Int))) ty => fr_app M5.out hX heN hle hF k (by omega) q ht ty)
         have NF1 : Hid (cb ≠ F) := fun q => M5.out.sep.apart 5 3 (kD_lt (by omega)) (kD_lt (by omega)) (by omega) _ _ M5.out.cr.ba hF q
         have NF2 : Hid (X.P ≠ F) := fun q => M5.out.sep.apart 0 3 (kD_lt (by omega)) (kD_lt (by omega)) (by omega) _ _ M5.out.pa hF q
         generalize (R5 3).c = fc at *
         have KS11 : Hid (∀ Y, Q z5 Y → Y.cell? ⟨cb, 3, none⟩ = some (.slice (some ⟨F, 0, none⟩) X.N fc) ∧ Y.cell? ⟨X.P, k * 5 + 4, none⟩ = some (.int .i64 (el : Int))) := fun Y q => ⟨cell_keep q b3, cell_keep q p4⟩
         have d1' := fun ob => cell_keep ((Q.refl z5).alloc ob) d1
         have HUP2 : Hid ((updL s1.fr nx k).set el (le ++ [k]) = updL (updL s1.fr nx k) el k) := by show _ = (updL s1.fr nx k).set el (((updL s1.fr nx k)[el]?).getD [] ++ [k]); rw [show (updL s1.fr nx k)[el]? = some le from hle]; rfl
         have NX12 : Hid (∀ W, (∃ R3, CMy X cb L { s1 with td := s1.td ++ [k], fr := (updL s1.fr nx k).set el (le ++ [k]) } (up.set k k) R3 W) → ∃ (k' : Nat) (R' : Nat → Rw), (.int .i64 ((k : Int) + 1) : Value) = .int .i64 (k' : Int) ∧ k' ≤ X.N ∧ Hid (CMy X cb L (Cs.begTo L k') (upB X.N k') R' W)) := fun W hW => by
          obtain ⟨R3, h3⟩ := hW
          refine ⟨k + 1, R3, by go_num, by omega, ?_⟩
          show CMy X cb L (Cs.begTo L (k + 1)) _ _ _
          rw [HB.out, E9.out, HUB.out, if_pos trivial, ← HUP2.out]
          exact h3
         have FIN11 := NX12
         clear NX12 HFL hlb hF hFv hFc hFf hle hin M5 M4 HZ4 HUP HUP2 p3
         generalize (R5 (8 + el)).a = ya at *
         generalize (R5 (8 + el)).n = yn at *
         generalize (R5 (8 + el)).c = yc at *
         go_upto_region 11 with (fail)
         -- region 11
         refine wp_region_held_drew (S := fun Y => Y.cell? ⟨cb, 3, none⟩ = some (.slice (some ⟨F, 0, none⟩) X.N fc) ∧ Y.cell? ⟨X.P, k * 5 + 4, none⟩ = some (.int .i64 (el : Int))) (by kernel_rfl) (KS11.out _ (by first | exact ((Q.refl z5).alloc _).drew | exact (Q.refl z5).drew.alloc _ | exact (Q.refl z5).alloc _ | exact (Q.refl z5).drew | exact Q.refl z5)) (fun hHeld => ?_)
         refine wpAnyH_take (i := 0) (oi := ⟨_, _, _, _, _, _⟩) (v := ?_) rfl (by kernel_rfl) (by kernel_rfl) (by kernel_rfl) (fun _ _ _ h => h) (Or.inl ⟨by rfl, ?_⟩) (by assumption) ?_
         rotate_left 1
         ·intro w hSw; (try dsimp only at hSw); go_simp; all_goals with_reducible rfl
         try simp only [Act.put, List.setIfInBounds_toArray, List.set_cons_zero, List.set_cons_succ]
         refine wpAnyH_take (i := 1) (oi := ⟨_, _, _, _, _, _⟩) (v := ?_) rfl (by kernel_rfl) (by kernel_rfl) (by kernel_rfl) (fun _ _ _ h => h) (Or.inl ⟨by rfl, ?_⟩) (by assumption) ?_
         rotate_left 1
         ·intro w hSw; (try dsimp only at hSw); go_simp; all_goals with_reducible rfl
         try simp only [Act.put, List.setIfInBounds_toArray, List.set_cons_zero, List.set_cons_succ]
         refine wpAnyH_take (i := 2) (oi := ⟨_, _, _, _, _, _⟩) (v := ?_) rfl (by kernel_rfl) (by kernel_rfl) (by kernel_rfl) (fun _ _ _ h => h) (Or.inl ⟨by rfl, ?_⟩) (by assumption) ?_
         rotate_left 1
         ·intro w hSw; (try dsimp only at hSw); go_simp; all_goals with_reducible rfl
         try simp only [Act.put, List.setIfInBounds_toArray, List.set_cons_zero, List.set_cons_succ]
         refine wpAnyH_take (i := 3) (oi := ⟨_, _, _, _, _, _⟩) (v := ?_) rfl (by kernel_rfl) (by kernel_rfl) (by kernel_rfl) (fun _ _ _ h => h) (Or.inl ⟨by rfl, ?_⟩) (by assumption) ?_
         rotate_left 1
         ·intro w hSw; (try dsimp only at hSw); go_simp; all_goals with_reducible rfl
         try simp only [Act.put, List.setIfInBounds_toArray, List.set_cons_zero, List.set_cons_succ]
         refine wpAnyH_take (i := 4) (oi := ⟨_, _, _, _, _, _⟩) (v := ?_) rfl (by kernel_rfl) (by kernel_rfl) (by kernel_rfl) (fun _ _ _ h => h) (Or.inl ⟨by rfl, ?_⟩) (by assumption) ?_
         rotate_left 1
         ·intro w hSw; (try dsimp only at hSw); go_simp; all_goals with_reducible rfl
         try simp only [Act.put, List.setIfInBounds_toArray, List.set_cons_zero, List.set_cons_succ]
         refine wpAnyH_take (i := 5) (oi := ⟨_, _, _, _, _, _⟩) (v := ?_) rfl (by kernel_rfl) (by kernel_rfl) (by kernel_rfl) (fun _ _ _ h => h) (Or.inl ⟨by rfl, ?_⟩) (by assumption) ?_
         rotate_left 1
         ·intro w hSw; (try dsimp only at hSw); go_simp; all_goals with_reducible rfl
         try simp only [Act.put, List.setIfInBounds_toArray, List.set_cons_zero, List.set_cons_succ]
         refine wpAnyH_take (i := 6) (oi := ⟨_, _, _, _, _, _⟩) (v := ?_) rfl (by kernel_rfl) (by kernel_rfl) (by kernel_rfl) (fun _ _ _ h => h) (Or.inl ⟨by rfl, ?_⟩) (by assumption) ?_
         rotate_left 1
         ·intro w hSw; (try dsimp only at hSw); go_simp; all_goals with_reducible rfl
         try simp only [Act.put, List.setIfInBounds_toArray, List.set_cons_zero, List.set_cons_succ]
         refine wpAnyH_take (i := 7) (oi := ⟨_, _, _, _, _, _⟩) (v := ?_) rfl (by kernel_rfl) (by kernel_rfl) (by kernel_rfl) (fun _ _ _ h => h) (Or.inl ⟨by rfl, ?_⟩) (by assumption) ?_
         rotate_left 1
         ·intro w hSw; (try dsimp only at hSw); go_simp; all_goals with_reducible rfl
         try simp only [Act.put, List.setIfInBounds_toArray, List.set_cons_zero, List.set_cons_succ]
         refine wpAnyH_take (i := 8) (oi := ⟨_, _, _, _, _, _⟩) (v := ?_) rfl (by kernel_rfl) (by kernel_rfl) (by kernel_rfl) (fun _ _ _ h => h) (Or.inl ⟨by rfl, ?_⟩) (by assumption) ?_
         rotate_left 1
         ·intro w hSw; (try dsimp only at hSw); go_simp; all_goals with_reducible rfl
         try simp only [Act.put, List.setIfInBounds_toArray, List.set_cons_zero, List.set_cons_succ]
         refine wpAnyH_take (i := 9) (oi := ⟨_, _, _, _, _, _⟩) (v := ?_) rfl (by kernel_rfl) (by kernel_rfl) (by kernel_rfl) (fun _ _ _ h => h) (Or.inl ⟨by rfl, ?_⟩) (by assumption) ?_
         rotate_left 1
         ·intro w hSw; (try dsimp only at hSw); go_simp; all_goals with_reducible rfl
         try simp only [Act.put, List.setIfInBounds_toArray, List.set_cons_zero, List.set_cons_succ]
         refine wpAnyH_take (i := 10) (oi := ⟨_, _, _, _, _, _⟩) (v := ?_) rfl (by kernel_rfl) (by kernel_rfl) (by kernel_rfl) (fun _ _ _ h => h) (Or.inl ⟨by rfl, ?_⟩) (by assumption) ?_
         rotate_left 1
         ·intro w hSw; (try dsimp only at hSw); go_simp; all_goals with_reducible rfl
         try simp only [Act.put, List.setIfInBounds_toArray, List.set_cons_zero, List.set_cons_succ]
         refine wpAnyH_take (i := 11) (oi := ⟨_, _, _, _, _, _⟩) (v := ?_) rfl (by kernel_rfl) (by kernel_rfl) (by kernel_rfl) (fun _ _ _ h => h) (Or.inl ⟨by rfl, ?_⟩) (by assumption) ?_
         rotate_left 1
         ·intro w hSw; (try dsimp only at hSw); go_simp; all_goals with_reducible rfl
         try simp only [Act.put, List.setIfInBounds_toArray, List.set_cons_zero, List.set_cons_succ]
         refine wpAnyH_take (i := 12) (oi := ⟨_, _, _, _, _, _⟩) (v := ?_) rfl (by kernel_rfl) (by kernel_rfl) (by kernel_rfl) (fun _ _ _ h => h) (Or.inl ⟨by rfl, ?_⟩) (by assumption) ?_
         rotate_left 1
         ·intro w hSw; (try dsimp only at hSw); go_simp; all_goals with_reducible rfl
         try simp only [Act.put, List.setIfInBounds_toArray, List.set_cons_zero, List.set_cons_succ]
         refine wpAnyH_take (i := 13) (oi := ⟨_, _, _, _, _, _⟩) (v := ?_) rfl (by kernel_rfl) (by kernel_rfl) (by kernel_rfl) (fun _ _ _ h => h) (Or.inl ⟨by rfl, ?_⟩) (by assumption) ?_
         rotate_left 1
         ·intro w hSw; (try dsimp only at hSw); go_simp; all_goals with_reducible rfl
         try simp only [Act.put, List.setIfInBounds_toArray, List.set_cons_zero, List.set_cons_succ]
         refine wpAnyH_take (i := 14) (oi := ⟨_, _, _, _, _, _⟩) (v := ?_) rfl (by kernel_rfl) (by kernel_rfl) (by kernel_rfl) (fun _ _ _ h => h) (Or.inl ⟨by rfl, ?_⟩) (by assumption) ?_
         rotate_left 1
         ·intro w hSw; (try dsimp only at hSw); go_simp; all_goals with_reducible rfl
         try simp only [Act.put, List.setIfInBounds_toArray, List.set_cons_zero, List.set_cons_succ]
         refine wpAnyH_take (i := 15) (oi := ⟨_, _, _, _, _, _⟩) (v := ?_) rfl (by kernel_rfl) (by kernel_rfl) (by kernel_rfl) (fun _ _ _ h => h) (Or.inl ⟨by rfl, ?_⟩) (by assumption) ?_
         rotate_left 1
         ·intro w hSw; (try dsimp only at hSw); go_simp; all_goals with_reducible rfl
         try simp only [Act.put, List.setIfInBounds_toArray, List.set_cons_zero, List.set_cons_succ]
         refine wpAnyH_take (i := 16) (oi := ⟨_, _, _, _, _, _⟩) (v := ?_) rfl (by kernel_rfl) (by kernel_rfl) (by kernel_rfl) (fun _ _ _ h => h) (Or.inl ⟨by rfl, ?_⟩) (by assumption) ?_
         rotate_left 1
         ·intro w hSw; (try dsimp only at hSw); go_simp; all_goals with_reducible rfl
         try simp only [Act.put, List.setIfInBounds_toArray, List.set_cons_zero, List.set_cons_succ]
         refine wpAnyH_take (i := 18) (oi := ⟨_, _, _, _, _, _⟩) (v := ?_) rfl (by kernel_rfl) (by kernel_rfl) (by kernel_rfl) (fun _ _ _ h => h) (Or.inl ⟨by rfl, ?_⟩) (by assumption) ?_
         rotate_left 1
         ·intro w hSw; (try dsimp only at hSw); go_simp; all_goals with_reducible rfl
         try simp only [Act.put, List.setIfInBounds_toArray, List.set_cons_zero, List.set_cons_succ]
         refine wpAnyH_ready (rs := [17, 19]) (by kernel_rfl) (by simp) (AllReadyH.cons (o := ⟨_, _, _, _, _, _⟩) rfl (fun K hK => ?_) (AllReadyH.cons (o := ⟨_, _, _, _, _, _⟩) rfl (fun K hK => ?_) AllReadyH.nil))
         ·go_simp
          refine hK.out _ _ ?_ (fun hHeld => ?_)
          ·exact KS11.out _ (by first | exact ((Q.refl z5).alloc _).drew | exact (Q.refl z5).drew.alloc _ | exact (Q.refl z5).alloc _ | exact (Q.refl z5).drew | exact Q.refl z5)
          clear hK K
          try simp only [Act.put, List.setIfInBounds_toArray, List.set_cons_zero, List.set_cons_succ]
          refine wpAnyH_ready (rs := [19]) (by kernel_rfl) (by simp) (AllReadyH.cons (o := ⟨_, _, _, _, _, _⟩) rfl (fun K hK => ?_) AllReadyH.nil)
          go_simp
          refine hK.out _ _ ?_ (fun hHeld => ?_)
          ·exact KS11.out _ (by first | exact ((Q.refl z5).alloc _).drew | exact (Q.refl z5).drew.alloc _ | exact (Q.refl z5).alloc _ | exact (Q.refl z5).drew | exact Q.refl z5)
          clear hK K
          try simp only [Act.put, List.setIfInBounds_toArray, List.set_cons_zero, List.set_cons_succ]
          refine wpAnyH_ready (rs := [20]) (by kernel_rfl) (by simp) (AllReadyH.cons (o := ⟨_, _, _, _, _, _⟩) rfl (fun K hK => ?_) AllReadyH.nil)
          refine step_append_ex (by rfl) _ _ 22 22 (by rfl) _ _ (by rfl) (by rfl) _ _ (NX11.out _ (by first | exact ((Q.refl z5).alloc _).drew | exact (Q.refl z5).drew.alloc _ | exact (Q.refl z5).alloc _ | exact (Q.refl z5).drew | exact Q.refl z5) (by first | exact (cell_of_block (heap_alloc_new z5 _) 0).trans rfl | exact (cell_of_block (heap_alloc_new z5.drew _) 0).trans rfl) _) ?_; rintro a6 c6 w6 ⟨t1, t2, t3, t4, hm⟩; have M6 := hideIt hm; have t5 := t4 ⟨X.P, k * 5 + 4, none⟩ _ rfl p4; have k1 := set_cell_ne (p := ⟨F, el, none⟩) (u := .slice a6 (yn + 1) c6) t3 (fun e => NF1.out (congrArg Addr.block e)); have k2 := set_cell_ne (p := ⟨F, el, none⟩) (u := .slice a6 (yn + 1) c6) t5 (fun e => NF2.out (congrArg Addr.block e)); clear hm t4
          refine hK.out _ _ ?_ (fun hHeld => ?_)
          ·exact ⟨t3, t5⟩
          clear hK K
          try simp only [Act.put, List.setIfInBounds_toArray, List.set_cons_zero, List.set_cons_succ]
          refine wpAnyH_take (i := 21) (oi := ⟨_, _, _, _, _, _⟩) (v := ?_) rfl (by kernel_rfl) (by kernel_rfl) (by kernel_rfl) (fun _ _ _ h => h) (Or.inl ⟨by rfl, ?_⟩) (by assumption) ?_
          rotate_left 1
          ·intro w hSw; (try dsimp only at hSw); go_simp; all_goals with_reducible rfl
          try simp only [Act.put, List.setIfInBounds_toArray, List.set_cons_zero, List.set_cons_succ]
          refine wpAnyH_ready (rs := [22]) (by kernel_rfl) (by simp) (AllReadyH.cons (o := ⟨_, _, _, _, _, _⟩) rfl (fun K hK => ?_) AllReadyH.nil)
          go_simp
          refine hK.out _ _ ?_ (fun hHeld => ?_)
          ·exact ⟨k1, k2⟩
          clear hK K
          try simp only [Act.put, List.setIfInBounds_toArray, List.set_cons_zero, List.set_cons_succ]
          refine wpAnyH_done (by kernel_rfl) ?_ _
          go_wp2_with (fail)
          go_roundw
          case rel => exact FIN11.out _ M6.out
          case measure => simp [intOf]; omega
         ·go_simp
          refine hK.out _ _ ?_ (fun hHeld => ?_)
          ·exact KS11.out _ (by first | exact ((Q.refl z5).alloc _).drew | exact (Q.refl z5).drew.alloc _ | exact (Q.refl z5).alloc _ | exact (Q.refl z5).drew | exact Q.refl z5)
          clear hK K
          try simp only [Act.put, List.setIfInBounds_toArray, List.set_cons_zero, List.set_cons_succ]
          refine wpAnyH_ready (rs := [17]) (by kernel_rfl) (by simp) (AllReadyH.cons (o := ⟨_, _, _, _, _, _⟩) rfl (fun K hK => ?_) AllReadyH.nil)
          go_simp
          refine hK.out _ _ ?_ (fun hHeld => ?_)
          ·exact KS11.out _ (by first | exact ((Q.refl z5).alloc _).drew | exact (Q.refl z5).drew.alloc _ | exact (Q.refl z5).alloc _ | exact (Q.refl z5).drew | exact Q.refl z5)
          clear hK K
          try simp only [Act.put, List.setIfInBounds_toArray, List.set_cons_zero, List.set_cons_succ]
          refine wpAnyH_ready (rs := [20]) (by kernel_rfl) (by simp) (AllReadyH.cons (o := ⟨_, _, _, _, _, _⟩) rfl (fun K hK => ?_) AllReadyH.nil)
          refine step_append_ex (by rfl) _ _ 22 22 (by rfl) _ _ (by rfl) (by rfl) _ _ (NX11.out _ (by first | exact ((Q.refl z5).alloc _).drew | exact (Q.refl z5).drew.alloc _ | exact (Q.refl z5).alloc _ | exact (Q.refl z5).drew | exact Q.refl z5) (by first | exact (cell_of_block (heap_alloc_new z5 _) 0).trans rfl | exact (cell_of_block (heap_alloc_new z5.drew _) 0).trans rfl) _) ?_; rintro a6 c6 w6 ⟨t1, t2, t3, t4, hm⟩; have M6 := hideIt hm; have t5 := t4 ⟨X.P, k * 5 + 4, none⟩ _ rfl p4; have k1 := set_cell_ne (p := ⟨F, el, none⟩) (u := .slice a6 (yn + 1) c6) t3 (fun e => NF1.out (congrArg Addr.block e)); have k2 := set_cell_ne (p := ⟨F, el, none⟩) (u := .slice a6 (yn + 1) c6) t5 (fun e => NF2.out (congrArg Addr.block e)); clear hm t4
          refine hK.out _ _ ?_ (fun hHeld => ?_)
          ·exact ⟨t3, t5⟩
          clear hK K
          try simp only [Act.put, List.setIfInBounds_toArray, List.set_cons_zero, List.set_cons_succ]
          refine wpAnyH_take (i := 21) (oi := ⟨_, _, _, _, _, _⟩) (v := ?_) rfl (by kernel_rfl) (by kernel_rfl) (by kernel_rfl) (fun _ _ _ h => h) (Or.inl ⟨by rfl, ?_⟩) (by assumption) ?_
          rotate_left 1
          ·intro w hSw; (try dsimp only at hSw); go_simp; all_goals with_reducible rfl
          try simp only [Act.put, List.setIfInBounds_toArray, List.set_cons_zero, List.set_cons_succ]
          refine wpAnyH_ready (rs := [22]) (by kernel_rfl) (by simp) (AllReadyH.cons (o := ⟨_, _, _, _, _, _⟩) rfl (fun K hK => ?_) AllReadyH.nil)
          go_simp
          refine hK.out _ _ ?_ (fun hHeld => ?_)
          ·exact ⟨k1, k2⟩
          clear hK K
          try simp only [Act.put, List.setIfInBounds_toArray, List.set_cons_zero, List.set_cons_succ]
          refine wpAnyH_done (by kernel_rfl) ?_ _
          go_wp2_with (fail)
          go_roundw
          case rel => exact FIN11.out _ M6.out
          case measure => simp [intOf]; omega
         -- end of region 11
   ·have hki : ¬ (k : Int) < (X.N : Int) := by omega
    obtain rfl : k = X.N := by omega
    go_wp2_with (fail)
    go_ret
    refine ⟨cb, rfl, upB X.N X.N, fun _ => 0, R, M1.out.x ?_⟩
    have := (begTo_bd L X.N).1
    rw [this]
    exact upB_up X.N
end Go.Proofs.Ytphknepblchkdaa.Fl
