/-
  A function's registers, as layer 14 holds them: what is asked of them; a contract over the program.
  append(s, make([]T, k)...) where s has room for k more; a function's registers, reached: contracts over the program.
  append(s, make([]T, k)...) to a row of one's own: the row behind it, and where it lies; a function's registers, reached.
  A function's registers, reached: the numbers behind it, and what else has changed.
  A function's registers: one is set (no new one to be remembered).
  A function's registers: one is set (the walk, where no new one is to be remembered).
  A function's registers: a new one is remembered: what each step of it leaves.
  A function's registers: one is set that is to be remembered.
-/
import Derived.Test.YtaomkfhbnakbjaaKIrN
import Derived.Lib.AppendZerosOnto
import Derived.Deep.AppendLies
namespace Go.Proofs.Ytaomkfhbnakbjaa
open Go.RowKit
set_option linter.unusedVariables false

/-- A register: those that were never reached are 0. -/
def regAt (H : List Int) (n : Nat) : Int := H.getD n 0

theorem get_any (w : World) (gb go : Nat) (ha : Option Addr) (hc : Nat) (H : List Int) (hcell : w.cell? ⟨gb, go, none⟩ = some (.slice ha H.length hc)) (hi : Ints w ha H) (hlen : H.length ≤ 9223372036854775807) (n : Nat) :
    Calls Try.prog 106 #[.pointer (some ⟨gb, go, none⟩), .int .i64 (n : Int)] w fun e w' => e = .returned (.int .i64 (regAt H n)) ∧ w' = w := by
  by_cases h : n < H.length
  · obtain ⟨x, hx⟩ := get_of_lt h
    obtain ⟨b, o, e, hc1, -⟩ := hi n x hx
    rw [Nat.mul_one] at hc1
    have er : regAt H n = x := by unfold regAt; rw [List.getD_eq_getElem?_getD, hx]; rfl
    rw [er]
    rw [e] at hcell
    have hn : (n : Int) < (H.length : Int) := by omega
    have hd : decide ((H.length : Int) ≤ (n : Int)) = false := by simp; omega
    clear hi hx e er
    go_enter Try.func106, Try.ntmps106
    go_wp2
    go_ret
    exact ⟨rfl, rfl⟩
  · have er : regAt H n = 0 := by unfold regAt; rw [List.getD_eq_getElem?_getD, List.getElem?_eq_none (by omega)]; rfl
    rw [er]
    have hd : decide ((H.length : Int) ≤ (n : Int)) = true := by simp; omega
    clear hi er
    go_enter Try.func106, Try.ntmps106
    go_wp2
    go_ret
    exact ⟨rfl, rfl⟩

/-- A step that is left is taken; where none is left nothing is. -/
theorem step_none (w : World) (R : Nat) (s : Int) (c3 : w.cell? ⟨R, 3, none⟩ = some (.int .i64 s)) (c4 : w.cell? ⟨R, 4, none⟩ = some (.int .i64 s)) :
    Calls Try.prog 105 #[.pointer (some ⟨R, 0, none⟩)] w fun e w' => e = .returned (.bool false) ∧ Dr w w' := by
  go_enter Try.func105, Try.ntmps105
  go_wp2_with (fail)
  go_quiet (fail)
  go_wp2
  go_ret
  exact ⟨rfl, _, rfl⟩
theorem step_one (w : World) (R : Nat) (s fu : Int) (c3 : w.cell? ⟨R, 3, none⟩ = some (.int .i64 fu)) (c4 : w.cell? ⟨R, 4, none⟩ = some (.int .i64 s)) (cf : w.frozen? ⟨R, 4, none⟩ = false) (h0 : 0 ≤ s) (h1 : s ≤ 8388608) (hne : ¬ s = fu) :
    Calls Try.prog 105 #[.pointer (some ⟨R, 0, none⟩)] w fun e w' => e = .returned (.bool true) ∧ Dr (w.setCell ⟨R, 4, none⟩ (.int .i64 (s + 1))) w' := by
  have hb : (s == fu) = false := by simpa using hne
  go_enter Try.func105, Try.ntmps105
  go_wp2_with (fail)
  go_quiet (fail)
  go_wp2
  go_ret
  exact ⟨rfl, _, rfl⟩

end Go.Proofs.Ytaomkfhbnakbjaa

namespace Go.Proofs.Ytaomkfhbnakbjaa
open Go.RowKit
set_option linter.unusedVariables false

theorem run_append_room_zeros {P : Program} (w : World) (t tn ty e : TypeId) (i : TypeInfo) (z : Value) (kq kn : IntKind) (ht : P.underlying t = some (.slice e)) (htn : P.underlying tn = some (.int kn)) (hi : P.info? e = some i) (hz : i.zero = some z)
    (b off sLen sCap : Nat) (k : Nat) (h0 : 0 < k) (hs : 0 < i.size) (hroom : sLen + k ≤ sCap) (h63 : (k : Int) ≤ 9223372036854775807) (h48 : k * i.bytes ≤ 281474976710656)
    (hc : ∀ j, j < (Builtin.zeroCells z.cells k).size → (w.cell? ⟨b, off + sLen * i.size + j, none⟩).isSome = true) (hf : ∀ j, j < (Builtin.zeroCells z.cells k).size → w.frozen? ⟨b, off + sLen * i.size + j, none⟩ = false)
    (h1 : ∀ u ∈ (Builtin.zeroCells z.cells k).toList, u.oneCell' = true) :
    (Builtin.append_ #[t, tn] ty #[.slice (some ⟨b, off, none⟩) sLen sCap, .int kq k]).run P w =
      .ok (.slice (some ⟨b, off, none⟩) (sLen + k) sCap) (w.setCells b (off + sLen * i.size) (Builtin.zeroCells z.cells k).toList) := by
  have hk : k ≠ 0 := by omega
  have hw : IntKind.i64.wrap (k : Int) = k := by rw [IntKind.wrap_i64]; omega
  have h48i : ¬ (281474976710656 < (k : Int) * (i.bytes : Int)) := by
    rw [← Int.natCast_mul]
    omega
  have hneg : ¬ ((k : Int) < 0) := by omega
  have hns : ¬ (k * i.size = 0) := Nat.mul_ne_zero hk (by omega)
  have hst := run_storeCells_cells (P := P) b (off + sLen * i.size) (Builtin.zeroCells z.cells k).toList 0 w (by simpa using hc) (by simpa using hf) h1
  simp only [Nat.add_zero] at hst
  simp [Builtin.append_, run_underlying ht, run_underlying htn, sizeOf, typeInfo, zeroValue, hi, hz, asInt, asIntOf, hw, hneg, hns, h48i, hroom, Addr.add_lit, hst]

/-- As many registers as are asked for are there. -/
theorem reach_stay (w : World) (gb go : Nat) (ha : Option Addr) (hl hc : Nat) (hcell : w.cell? ⟨gb, go, none⟩ = some (.slice ha hl hc)) (n : Nat) (h : n ≤ hl) :
    Calls Try.prog 103 #[.pointer (some ⟨gb, go, none⟩), .int .i64 (n : Int)] w fun e w' => e = .returned (.tuple #[]) ∧ w' = w := by
  have hd : decide ((hl : Int) < (n : Int)) = false := by simp; omega
  go_enter Try.func103, Try.ntmps103
  go_wp2
  go_end0
  exact ⟨rfl, rfl⟩

/-- The operation, as one step of a region that draws its order: an append whose run is known. -/
theorem step_append_run {P : Program} {ops : Array Oper} {o : Oper} {a : Act} {w : World} {K : Act → World → Prop} {Q : Exit → Act → World → Prop} {E : Prop} (hgd : o.guard = none) (s x : Operand) (t tn : TypeId)
    (ho : o.op = .call { callee := .builtin .append, args := #[s, x], argTypes := #[t, tn] }) (vs vx : Value) (hs : a.eval s = vs) (hx : a.eval x = vx)
    (v' : Value) (w' : World) (hr : (Builtin.append_ #[t, tn] o.type #[vs, vx]).run P w = .ok v' w') (h : K (a.put o.dst v') w') :
    if Region.wanted o (yielded ops a.tmps) = true then Oper.wp P o a w K Q else E := by
  have hw : Region.wanted o (yielded ops a.tmps) = true := by simp [Region.wanted, hgd]
  rw [if_pos hw]
  exact Lib.wp_append_run w s x t tn ho vs vx hs hx v' w' hr h

/-- They aren't: what append's run leaves is kept. -/
theorem reach_run (w : World) (gb go : Nat) (ha : Option Addr) (hl hc : Nat) (hcell : w.cell? ⟨gb, go, none⟩ = some (.slice ha hl hc)) (n : Nat) (h : hl < n) (hn : n ≤ 1048576) (R : Value → World → Prop)
    (hr : ∀ x, Dr w x → ∃ a' l' c' w1, (Builtin.append_ #[23, 3] 23 #[.slice ha hl hc, .int .i64 ((n : Int) - (hl : Int))]).run Try.prog x = .ok (.slice a' l' c') w1 ∧ w1.cell? ⟨gb, go, none⟩ = some (.slice ha hl hc) ∧ w1.frozen? ⟨gb, go, none⟩ = false ∧ R (.slice a' l' c') w1) :
    Calls Try.prog 103 #[.pointer (some ⟨gb, go, none⟩), .int .i64 (n : Int)] w fun e w' => e = .returned (.tuple #[]) ∧ ∃ v w1, R v w1 ∧ w' = w1.setCell ⟨gb, go, none⟩ v := by
  have hd : decide ((hl : Int) < (n : Int)) = true := by simp; omega
  have hwr : IntKind.i64.wrap ((n : Int) - (hl : Int)) = (n : Int) - (hl : Int) := by rw [IntKind.wrap_i64]; omega
  have HR := hideIt hr
  clear hr
  go_enter Try.func103, Try.ntmps103
  go_wp2_with (fail)
  go_region_law ((obtain ⟨a', l', c', w1, q0, q1, q2, q3⟩ := HR.out _ ⟨_, rfl⟩; refine step_append_run (by rfl) (.tmp 15) (.tmp 22) 23 3 (by rfl) (.slice ha hl hc) (.int .i64 ((n : Int) - (hl : Int))) (by rfl) (by rfl) _ _ q0 ?_; have Q3 := hideIt q3; clear q0 q3))
  all_goals go_wp2_with (fail)
  all_goals go_end0
  all_goals exact ⟨rfl, _, _, Q3.out, rfl⟩

end Go.Proofs.Ytaomkfhbnakbjaa

namespace Go.Proofs.Ytaomkfhbnakbjaa
open Go.RowKit
set_option linter.unusedVariables false

theorem run_append_zeros_lies {P : Program} (w : World) (t tn ty e : TypeId) (i : TypeInfo) (z : Value) (kq kn : IntKind) (ht : P.underlying t = some (.slice e)) (htn : P.underlying tn = some (.int kn)) (hi : P.info? e = some i) (hz : i.zero = some z)
    (base size bytes : Nat) (hsize : i.size = size) (hby : i.bytes = bytes) (hzs : z.cells.size = size) (hsz : 0 < size) (h1 : ∀ m, ∀ u ∈ (Builtin.zeroCells z.cells m).toList, u.oneCell' = true)
    (v : Value) (n : Nat) (xs : List Value) (hown : w.ownsRow base e size v n xs) (k : Nat) (hk : 0 < k) (h63 : n + k ≤ maxLen) (hbytes : (n + k) * bytes ≤ 140737488355328) (hbase : base ≤ w.heap.size) :
    ∃ g cap w', (Builtin.append_ #[t, tn] ty #[v, .int kq k]).run P w = .ok (.slice (some ⟨g, 0, none⟩) (n + k) cap) w' ∧
      w'.ownsRow base e size (.slice (some ⟨g, 0, none⟩) (n + k) cap) (n + k) (xs ++ (Builtin.zeroCells z.cells k).toList) ∧ w.grownBy w' v.ownBlock ∧ (v.ownBlock = some g ∨ g = w.heap.size) ∧ g < w'.heap.size := by
  subst hsize
  subst hby
  have hsmall : n + k ≤ 9223372036854775807 := by simp only [maxLen] at h63; omega
  have hl : (Builtin.zeroCells z.cells k).toList.length = k * i.size := by rw [Array.length_toList, size_zeroCells, hzs]
  have hlen : (xs ++ (Builtin.zeroCells z.cells k).toList).length = (n + k) * i.size := by rw [List.length_append, hown.1, hl, Nat.add_mul]
  have hkb : k * i.bytes ≤ 281474976710656 := by have := Nat.mul_le_mul_right i.bytes (Nat.le_add_left k n); omega
  have grow : ∀ (b : Option Addr) (cap : Nat), v = .slice b n cap → cap < n + k → (Builtin.firstCells i.size n (.slice b n cap)).run P w.drew = .ok xs.toArray w.drew →
      ∃ g cap w', (Builtin.append_ #[t, tn] ty #[v, .int kq k]).run P w = .ok (.slice (some ⟨g, 0, none⟩) (n + k) cap) w' ∧
      w'.ownsRow base e i.size (.slice (some ⟨g, 0, none⟩) (n + k) cap) (n + k) (xs ++ (Builtin.zeroCells z.cells k).toList) ∧ w.grownBy w' v.ownBlock ∧ (v.ownBlock = some g ∨ g = w.heap.size) ∧ g < w'.heap.size := by
    intro b cap e0 hc hold
    subst e0
    have hr := Lib.run_append_grow_zeros (P := P) w t tn ty e i z kq kn ht htn hi hz b n cap xs hold k hk hsz hc (by omega) hkb (growslice_fits (by omega) hbytes)
    have hge := grownCap_ge w (n + k) cap e
    have hcm : grownCap w (n + k) cap e ≤ maxLen := grownCap_le_maxLen w (n + k) cap e h63
    refine ⟨_, _, _, hr, ⟨hlen, .inr ⟨w.heap.size, _, _, rfl, hbase, heap_alloc_new w.drew _, hge, hcm, ?_, ?_⟩⟩, ⟨rfl, rfl, rfl, by simp, fun j hj _ => heap_alloc_old w.drew _ hj⟩, .inr rfl, by simp⟩
    · simp only [Array.size_append, List.size_toArray, size_zeroCells, hzs, hown.1, ← Nat.add_mul]
      congr 1
      omega
    · simp only [Array.toList_append, List.append_assoc]
      rw [← List.append_assoc, ← hlen]
      exact List.take_left
  rcases hown.2 with ⟨e0, e1⟩ | ⟨g, cap, cur, e0, hbg, hg, hnc, hcm, hcs, htake⟩
  · have hx : xs = [] := List.eq_nil_of_length_eq_zero (by rw [hown.1, e1]; simp)
    subst e1
    subst hx
    exact grow none 0 e0 (by omega) (run_firstCells_none w.drew i.size 0 0 0)
  · by_cases hroom : n + k ≤ cap
    · subst e0
      have hfit : n * i.size + (Builtin.zeroCells z.cells k).toList.length ≤ cur.size := by rw [hl, hcs, ← Nat.add_mul]; exact Nat.mul_le_mul_right _ hroom
      have hst := run_storeCells_at P g (n * i.size) e (Builtin.zeroCells z.cells k).toList 0 cur w hg (by simpa using hfit) (h1 k)
      simp only [Nat.add_zero] at hst
      have hw : IntKind.i64.wrap (k : Int) = k := by rw [IntKind.wrap_i64]; omega
      have h48i : ¬ (281474976710656 < (k : Int) * (i.bytes : Int)) := by rw [← Int.natCast_mul]; omega
      have hneg : ¬ ((k : Int) < 0) := by omega
      have hns : ¬ (k * i.size = 0) := Nat.mul_ne_zero (by omega) (by omega)
      have hr : (Builtin.append_ #[t, tn] ty #[.slice (some ⟨g, 0, none⟩) n cap, .int kq k]).run P w =
          .ok (.slice (some ⟨g, 0, none⟩) (n + k) cap) (w.setRow g (cur.toList.take (n * i.size) ++ (Builtin.zeroCells z.cells k).toList ++ cur.toList.drop (n * i.size + (Builtin.zeroCells z.cells k).toList.length)).toArray) := by
        simp [Builtin.append_, run_underlying ht, run_underlying htn, sizeOf, typeInfo, zeroValue, hi, hz, asInt, asIntOf, hw, hneg, hns, h48i, hroom, Addr.add_lit, hst]
      refine ⟨_, _, _, hr, ⟨hlen, .inr ⟨g, cap, _, rfl, hbg, setRow_heap w g cur _ e _ hg, hroom, hcm, ?_, ?_⟩⟩, ⟨rfl, rfl, rfl, by simp, fun j _ hj => setRow_other w g j _ (fun e => hj (by simp [Value.ownBlock, e]))⟩, .inl rfl, ?_⟩
      · simp only [List.size_toArray, List.length_append, List.length_take, List.length_drop, Array.length_toList] at hfit ⊢
        omega
      · rw [htake, ← hlen]
        exact List.take_left
      · have := (Array.getElem?_eq_some_iff.1 hg).1
        simpa using this
    · subst e0
      have holds : ∀ j u, xs[j]? = some u → w.cell? ((⟨g, 0, none⟩ : Addr).add j) = some u := hown.cells (g := g) rfl
      exact grow (some ⟨g, 0, none⟩) cap rfl (by omega) (run_firstCells_some w.drew i.size n ⟨g, 0, none⟩ n cap xs hown.1 (by simpa using holds))

end Go.Proofs.Ytaomkfhbnakbjaa

namespace Go.Proofs.Ytaomkfhbnakbjaa
open Go.RowKit
set_option linter.unusedVariables false

theorem rg_infoI64 : (Try.prog.info? 2).map (fun i => (i.zero, i.size, i.bytes)) = some (some (.int .i64 0), 1, 8) := by kernel_rfl

/-- Numbers, as cells. -/
def rowI (H : List Int) : List Value := H.map fun x => .int .i64 x
theorem rowI_app (A B : List Int) : rowI (A ++ B) = rowI A ++ rowI B := List.map_append ..
theorem rowI_len (H : List Int) : (rowI H).length = H.length := List.length_map ..

theorem zeros_row (k : Nat) : (Builtin.zeroCells (Value.int .i64 0).cells k).toList = rowI (List.replicate k 0) := by
  apply List.ext_getElem?
  intro j
  by_cases h : j < k
  · simp [Builtin.zeroCells, rowI, Value.cells, h, Nat.mod_one]
  · simp [Builtin.zeroCells, rowI, Value.cells, h]

/-- What reaching n registers makes of them. -/
def reached (H : List Int) (n : Nat) : List Int := H ++ List.replicate (n - H.length) 0

/-- Of the blocks that were there none has changed but gb and the row's own. -/
structure Rf (w w' : World) (gb : Nat) (row : Option Nat) : Prop where
  os : w'.os = w.os
  tape : w'.tape = w.tape
  output : w'.output = w.output
  size : w.heap.size ≤ w'.heap.size
  block : ∀ k, k < w.heap.size → k ≠ gb → some k ≠ row → w'.heap[k]? = w.heap[k]?

theorem reach_any (w : World) (gb go base : Nat) (v : Value) (H : List Int) (cs : Array Value) (T : TypeId) (hb : w.heap[gb]? = some (.cells cs T (0, 0))) (hv : cs[go]? = some v)
    (hown : w.ownsRow base 2 1 v H.length (rowI H)) (hne : v.ownBlock ≠ some gb) (hbase : base ≤ w.heap.size) (n : Nat) (hn : n ≤ 1048576) :
    Calls Try.prog 103 #[.pointer (some ⟨gb, go, none⟩), .int .i64 (n : Int)] w fun e w' => e = .returned (.tuple #[]) ∧
      ∃ v', w'.heap[gb]? = some (.cells (cs.setIfInBounds go v') T (0, 0)) ∧ w'.ownsRow base 2 1 v' (reached H n).length (rowI (reached H n)) ∧ (v'.ownBlock = v.ownBlock ∨ ∃ g, v'.ownBlock = some g ∧ w.heap.size ≤ g) ∧ Rf w w' gb v.ownBlock := by
  have hlt := (Array.getElem?_eq_some_iff.1 hb).1
  have hgo := (Array.getElem?_eq_some_iff.1 hv).1
  have hform : ∃ ha hc, v = .slice ha H.length hc := by
    rcases hown.2 with ⟨e0, e1⟩ | ⟨g, cap, cur, e0, -⟩
    · exact ⟨none, 0, by rw [e0, e1]⟩
    · exact ⟨_, _, e0⟩
  have hcell : w.cell? ⟨gb, go, none⟩ = some v := by simp [World.cell?, hb, hv]
  by_cases h : H.length < n
  · obtain ⟨i0, hi, hz0, hz1, hz2⟩ := info_parts rg_infoI64
    obtain ⟨ha, hc, e0⟩ := hform
    have hk : ((n : Int) - (H.length : Int)) = ((n - H.length : Nat) : Int) := by omega
    have hr : ∀ x, Dr w x → ∃ a' l' c' w1, (Builtin.append_ #[23, 3] 23 #[.slice ha H.length hc, .int .i64 ((n : Int) - (H.length : Int))]).run Try.prog x = .ok (.slice a' l' c') w1 ∧ w1.cell? ⟨gb, go, none⟩ = some (.slice ha H.length hc) ∧ w1.frozen? ⟨gb, go, none⟩ = false ∧
        (w1.heap[gb]? = some (.cells cs T (0, 0)) ∧ w1.ownsRow base 2 1 (.slice a' l' c') (reached H n).length (rowI (reached H n)) ∧ ((Value.slice a' l' c').ownBlock = v.ownBlock ∨ ∃ g, (Value.slice a' l' c').ownBlock = some g ∧ w.heap.size ≤ g) ∧ w.grownBy w1 v.ownBlock) := by
      rintro x ⟨m, rfl⟩
      have hown' : (w.drewN m).ownsRow base 2 1 v H.length (rowI H) := hown
      obtain ⟨g, cap, w1, r1, r2, r3, r4, r5⟩ := run_append_zeros_lies (P := Try.prog) (w.drewN m) 23 3 23 2 i0 _ .i64 .i64 Try.underlying23 Try.underlying3 hi hz0 base 1 8 hz1 hz2 rfl (by decide)
        (fun m u hu => by rw [zeros_row] at hu; obtain ⟨_, _, rfl⟩ := List.mem_map.1 hu; rfl) v H.length (rowI H) hown' (n - H.length) (by omega) (by unfold maxLen; omega) (by omega) hbase
      rw [zeros_row, ← rowI_app] at r2
      rw [← hk, e0] at r1
      have hg : w.grownBy w1 v.ownBlock := ⟨r3.os, r3.tape, r3.output, r3.size, r3.block⟩
      have b1 : w1.heap[gb]? = some (.cells cs T (0, 0)) := (hg.block gb hlt (fun e => hne e.symm)).trans hb
      have hl : H.length + (n - H.length) = (reached H n).length := by simp [reached]
      refine ⟨_, _, _, w1, r1, by simp [World.cell?, b1, hv, e0], by simp [World.frozen?, b1], b1, ?_, ?_, hg⟩
      · rw [← hl]; exact r2
      · rcases r4 with r4 | r4
        · exact .inl r4.symm
        · exact .inr ⟨g, rfl, by rw [r4]; exact Nat.le_refl _⟩
    rw [e0] at hcell
    refine (reach_run w gb go ha H.length hc hcell n h hn (fun v' w1 => w1.heap[gb]? = some (.cells cs T (0, 0)) ∧ w1.ownsRow base 2 1 v' (reached H n).length (rowI (reached H n)) ∧ (v'.ownBlock = v.ownBlock ∨ ∃ g, v'.ownBlock = some g ∧ w.heap.size ≤ g) ∧ w.grownBy w1 v.ownBlock) hr).mono ?_
    rintro e w' ⟨rfl, v', w1, ⟨q1, q2, q3, q4⟩, rfl⟩
    have hvg : v'.ownBlock ≠ some gb := by
      rcases q3 with q3 | ⟨g, q3, q3'⟩
      · rw [q3]; exact hne
      · rw [q3]; intro e; injection e with e; omega
    refine ⟨rfl, v', heap_setCell_same w1 gb go cs T v' q1, ⟨q2.1, ?_⟩, q3, ⟨q4.os, q4.tape, q4.output, by simpa using q4.size, fun k k1 k2 k3 => (heap_setCell_other w1 _ k v' k2).trans (q4.block k k1 k3)⟩⟩
    rcases q2.2 with q | ⟨g, cap, cur, e1, e2, e3, e4⟩
    · exact .inl q
    · refine .inr ⟨g, cap, cur, e1, e2, ?_, e4⟩
      rw [heap_setCell_other w1 _ g v' (fun e => hvg (by rw [e1]; simp [Value.ownBlock, e]))]
      exact e3
  · obtain ⟨ha, hc, e0⟩ := hform
    have er : reached H n = H := by unfold reached; rw [show n - H.length = 0 by omega]; simp
    rw [er]
    refine (reach_stay w gb go ha H.length hc (by rw [hcell, e0]) n (by omega)).mono ?_
    rintro e w' ⟨rfl, rfl⟩
    refine ⟨rfl, v, ?_, hown, .inl rfl, ⟨rfl, rfl, rfl, Nat.le_refl _, fun _ _ _ _ => rfl⟩⟩
    rw [hb]
    congr 2
    apply Array.ext_getElem?
    intro j
    by_cases hj : j = go
    · subst hj; rw [hv]; simp [hgo]
    · rw [Array.getElem?_setIfInBounds_ne (by omega)]

end Go.Proofs.Ytaomkfhbnakbjaa

namespace Go.Proofs.Ytaomkfhbnakbjaa
open Go.RowKit
set_option linter.unusedVariables false

theorem reached_at (H : List Int) (n : Nat) : (reached H (n + 1))[n]? = some (regAt H n) := by
  unfold reached regAt
  rw [List.getD_eq_getElem?_getD]
  by_cases h : n < H.length
  · rw [List.getElem?_append_left h, List.getElem?_eq_getElem h]; rfl
  · rw [List.getElem?_append_right (by omega), List.getElem?_eq_none (by omega : H.length ≤ n), List.getElem?_replicate]
    rw [if_pos (by omega)]; rfl

/-- A place of a row of one's own. -/
theorem row_at {w : World} {base : Nat} {T : TypeId} {v : Value} {L : List Int} (h : w.ownsRow base T 1 v L.length (rowI L)) {n : Nat} {x : Int} (hx : L[n]? = some x) :
    ∃ g cap cur, v = .slice (some ⟨g, 0, none⟩) L.length cap ∧ w.heap[g]? = some (.cells cur T (0, 0)) ∧ cur[n]? = some (.int .i64 x) ∧ L.length ≤ cap ∧ cap ≤ maxLen := by
  have hn : n < L.length := (List.getElem?_eq_some_iff.1 hx).1
  rcases h.2 with ⟨-, e1⟩ | ⟨g, cap, cur, e0, hb, hg, hnc, hcm, hcs, ht⟩
  · omega
  · refine ⟨g, cap, cur, e0, hg, ?_, hnc, hcm⟩
    have : (rowI L)[n]? = some (.int .i64 x) := by simp [rowI, hx]
    rw [← ht, Nat.mul_one, List.getElem?_take, if_pos hn] at this
    simpa using this

/-- A place of it is written. -/
theorem row_set {w : World} {base : Nat} {T : TypeId} {L : List Int} {g cap : Nat} (h : w.ownsRow base T 1 (.slice (some ⟨g, 0, none⟩) L.length cap) L.length (rowI L)) (n : Nat) (x : Int) :
    (w.setCell ⟨g, n, none⟩ (.int .i64 x)).ownsRow base T 1 (.slice (some ⟨g, 0, none⟩) (L.set n x).length cap) (L.set n x).length (rowI (L.set n x)) := by
  refine ⟨by rw [rowI_len, Nat.mul_one], ?_⟩
  rcases h.2 with ⟨e0, -⟩ | ⟨g', cap', cur, e0, hb, hg, hnc, hcm, hcs, ht⟩
  · injection e0 with e0; cases e0
  · injection e0 with e1 e2 e3
    injection e1 with e1
    injection e1 with e1
    subst e1; subst e3
    refine .inr ⟨g, cap, cur.setIfInBounds n (.int .i64 x), rfl, hb, heap_setCell_same w g n cur T _ hg, by simpa using hnc, hcm, by simpa using hcs, ?_⟩
    rw [List.length_set, Array.toList_setIfInBounds, List.take_set, ht]
    simp [rowI, List.map_set]

/-- The registers of one function at the block gb, from the place go on: the numbers, and which came to be other than 0. -/
structure RG (w : World) (gb go base : Nat) (H W : List Int) (cs : Array Value) (T : TypeId) (hv wv : Value) : Prop where
  blk : w.heap[gb]? = some (.cells cs T (0, 0))
  c0 : cs[go]? = some hv
  c1 : cs[go + 1]? = some wv
  oh : w.ownsRow base 2 1 hv H.length (rowI H)
  ow : w.ownsRow base 3 1 wv W.length (rowI W)
  nh : hv.ownBlock ≠ some gb
  nw : wv.ownBlock ≠ some gb
  hw : ∀ k, hv.ownBlock = some k → wv.ownBlock ≠ some k
  lw : ∀ k, wv.ownBlock = some k → k < w.heap.size

theorem row_keep {w w' : World} {base : Nat} {T : TypeId} {v : Value} {n : Nat} {xs : List Value} (h : w.ownsRow base T 1 v n xs) (hk : ∀ k, v.ownBlock = some k → w'.heap[k]? = w.heap[k]?) : w'.ownsRow base T 1 v n xs := by
  refine ⟨h.1, ?_⟩
  rcases h.2 with q | ⟨g, cap, cur, e1, e2, e3, e4⟩
  · exact .inl q
  · exact .inr ⟨g, cap, cur, e1, e2, by rw [hk g (by rw [e1]; rfl)]; exact e3, e4⟩

/-- What a setting leaves. -/
theorem set_left {w y : World} {gb go base : Nat} {H W : List Int} {cs : Array Value} {T : TypeId} {hv wv : Value} (h : RG w gb go base H W cs T hv wv) {n : Nat} {v' : Value} {g cap : Nat} (hbase : base ≤ w.heap.size)
    (b1 : y.heap[gb]? = some (.cells (cs.setIfInBounds go v') T (0, 0))) (e1 : v' = .slice (some ⟨g, 0, none⟩) (reached H (n + 1)).length cap) (o1 : y.ownsRow base 2 1 v' (reached H (n + 1)).length (rowI (reached H (n + 1))))
    (q1 : v'.ownBlock = hv.ownBlock ∨ ∃ g, v'.ownBlock = some g ∧ w.heap.size ≤ g) (f1 : Rf w y gb hv.ownBlock) (x : Int) :
    ∃ hv', RG (y.setCell ⟨g, n, none⟩ (.int .i64 x)) gb go base ((reached H (n + 1)).set n x) W (cs.setIfInBounds go hv') T hv' wv ∧ (hv'.ownBlock = hv.ownBlock ∨ ∃ g, hv'.ownBlock = some g ∧ w.heap.size ≤ g) ∧ Rf w (y.setCell ⟨g, n, none⟩ (.int .i64 x)) gb hv.ownBlock := by
  have hlt := (Array.getElem?_eq_some_iff.1 h.blk).1
  have hgo := (Array.getElem?_eq_some_iff.1 h.c0).1
  have hg : v'.ownBlock = some g := by rw [e1]; rfl
  have hgb : g ≠ gb := by
    intro e
    rcases q1 with q1 | ⟨g', q1, q2⟩
    · exact h.nh (by rw [← q1, hg, e])
    · rw [hg] at q1; injection q1 with q1; omega
  have hwg : ∀ k, wv.ownBlock = some k → k ≠ g := by
    intro k hk e
    rcases q1 with q1 | ⟨g', q1, q2⟩
    · exact h.hw g (by rw [← q1, hg]) (by rw [hk, e])
    · rw [hg] at q1; injection q1 with q1; have := h.lw k hk; omega
  subst e1
  refine ⟨_, ⟨?_, ?_, ?_, ?_, ?_, ?_, h.nw, ?_, ?_⟩, q1, ?_⟩
  · rw [heap_setCell_other y _ gb _ (fun e => hgb e.symm)]; exact b1
  · simp [hgo]
  · rw [Array.getElem?_setIfInBounds_ne (by omega)]; exact h.c1
  · have := row_set o1 n x
    simpa using this
  · refine row_keep h.ow (fun k hk => ?_)
    rw [heap_setCell_other y _ k _ (hwg k hk)]
    exact f1.block k (h.lw k hk) (fun e => h.nw (by rw [hk, e])) (fun e => h.hw k e.symm hk)
  · rw [hg]; intro e; injection e with e; exact hgb e
  · intro k hk hk'
    rw [hg] at hk; injection hk with hk
    exact hwg k hk' hk.symm
  · intro k hk
    have := h.lw k hk
    have := f1.size
    simp; omega
  · refine ⟨f1.os, f1.tape, f1.output, by simpa using f1.size, fun k k1 k2 k3 => ?_⟩
    rw [heap_setCell_other y _ k _ ?_]
    · exact f1.block k k1 k2 k3
    · show k ≠ g
      intro e
      rcases q1 with q1 | ⟨g', q1, q2⟩
      · exact k3 (by rw [← q1, hg, e])
      · rw [hg] at q1; injection q1 with q1; omega

end Go.Proofs.Ytaomkfhbnakbjaa

namespace Go.Proofs.Ytaomkfhbnakbjaa
open Go.RowKit
set_option linter.unusedVariables false

theorem set_plain (w : World) (gb go base : Nat) (H W : List Int) (cs : Array Value) (T : TypeId) (hv wv : Value) (h : RG w gb go base H W cs T hv wv) (hbase : base ≤ w.heap.size) (n : Nat) (hn : n < 1048576) (x : Int) (hp : ¬ (regAt H n = 0 ∧ ¬ x = 0)) :
    Calls Try.prog 123 #[.pointer (some ⟨gb, go, none⟩), .int .i64 (n : Int), .int .i64 x] w fun e w' => e = .returned (.tuple #[]) ∧
      ∃ hv', RG w' gb go base ((reached H (n + 1)).set n x) W (cs.setIfInBounds go hv') T hv' wv ∧ (hv'.ownBlock = hv.ownBlock ∨ ∃ g, hv'.ownBlock = some g ∧ w.heap.size ≤ g) ∧ Rf w w' gb hv.ownBlock := by
  have hwr : IntKind.i64.wrap ((n : Int) + 1) = (n : Int) + 1 := by rw [IntKind.wrap_i64]; omega
  have hgo := (Array.getElem?_eq_some_iff.1 h.c0).1
  have hr := reach_any w gb go base hv H cs T h.blk h.c0 h.oh h.nh hbase (n + 1) (by omega)
  rw [show ((n + 1 : Nat) : Int) = (n : Int) + 1 by omega] at hr
  have HC := hideIt hr
  clear hr
  have HS := hideIt (fun (y : World) (v' : Value) (g cap : Nat) => set_left (y := y) (n := n) (v' := v') (g := g) (cap := cap) h hbase)
  obtain ⟨r, er⟩ : ∃ r, regAt H n = r := ⟨_, rfl⟩
  have hat := reached_at H n
  rw [er] at hat hp
  obtain ⟨L, eL⟩ : ∃ L, reached H (n + 1) = L := ⟨_, rfl⟩
  rw [eL] at hat
  have hln : n < L.length := (List.getElem?_eq_some_iff.1 hat).1
  have hln' : (n : Int) < (L.length : Int) := by omega
  have HA := hideIt hat
  have HL := hideIt eL
  clear h hat eL er hbase
  by_cases h0 : r = 0
  · have hx : x = 0 := by by_cases hx : x = 0; exact hx; exact absurd ⟨h0, hx⟩ hp
    subst h0; subst hx
    clear hp
    go_enter Try.func123, Try.ntmps123
    go_wp2_with (fail)
    go_at_call 103
    refine HC.out.mono ?_
    rintro e y ⟨rfl, v', b1, o1, q1, f1⟩
    rw [HL.out] at o1
    obtain ⟨g, cap, cur, rfl, e2, e3, e4, e5⟩ := row_at o1 HA.out
    have HF := hideIt (HS.out y _ g cap b1 (by rw [HL.out]) (by rw [HL.out]; exact o1) q1 f1)
    have c1 : y.cell? ⟨gb, go, none⟩ = some (.slice (some ⟨g, 0, none⟩) L.length cap) := by simp [World.cell?, b1, hgo]
    have c2 : y.cell? ⟨g, n, none⟩ = some (.int .i64 0) := by simp [World.cell?, e2, e3]
    have c3 : y.frozen? ⟨g, n, none⟩ = false := by simp [World.frozen?, e2]
    clear b1 o1 q1 f1 e2 e3 e5
    go_wp2_with (fail)
    go_end0
    exact ⟨rfl, HF.out _⟩
  · have hb : (r == 0) = false := by simpa using h0
    clear hp
    go_enter Try.func123, Try.ntmps123
    go_wp2_with (fail)
    go_at_call 103
    refine HC.out.mono ?_
    rintro e y ⟨rfl, v', b1, o1, q1, f1⟩
    rw [HL.out] at o1
    obtain ⟨g, cap, cur, rfl, e2, e3, e4, e5⟩ := row_at o1 HA.out
    have HF := hideIt (HS.out y _ g cap b1 (by rw [HL.out]) (by rw [HL.out]; exact o1) q1 f1)
    have c1 : y.cell? ⟨gb, go, none⟩ = some (.slice (some ⟨g, 0, none⟩) L.length cap) := by simp [World.cell?, b1, hgo]
    have c2 : y.cell? ⟨g, n, none⟩ = some (.int .i64 r) := by simp [World.cell?, e2, e3]
    have c3 : y.frozen? ⟨g, n, none⟩ = false := by simp [World.frozen?, e2]
    clear b1 o1 q1 f1 e2 e3 e5
    go_wp2_with (fail)
    go_end0
    exact ⟨rfl, HF.out _⟩

end Go.Proofs.Ytaomkfhbnakbjaa

namespace Go.Proofs.Ytaomkfhbnakbjaa
open Go.RowKit
set_option linter.unusedVariables false

theorem own_lt {w : World} {base : Nat} {T : TypeId} {v : Value} {n : Nat} {xs : List Value} (h : w.ownsRow base T 1 v n xs) {k : Nat} (hk : v.ownBlock = some k) : k < w.heap.size := by
  rcases h.2 with ⟨e0, -⟩ | ⟨g, cap, cur, e0, -, hg, -⟩
  · rw [e0] at hk; cases hk
  · rw [e0] at hk; injection hk with hk; subst hk; exact (Array.getElem?_eq_some_iff.1 hg).1

/-- The registers are reached. -/
theorem rg_reach {w y : World} {gb go base : Nat} {H W L : List Int} {cs : Array Value} {T : TypeId} {hv wv v' : Value} (h : RG w gb go base H W cs T hv wv)
    (b1 : y.heap[gb]? = some (.cells (cs.setIfInBounds go v') T (0, 0))) (o1 : y.ownsRow base 2 1 v' L.length (rowI L))
    (q1 : v'.ownBlock = hv.ownBlock ∨ ∃ g, v'.ownBlock = some g ∧ w.heap.size ≤ g) (f1 : Rf w y gb hv.ownBlock) : RG y gb go base L W (cs.setIfInBounds go v') T v' wv := by
  have hlt := (Array.getElem?_eq_some_iff.1 h.blk).1
  have hgo := (Array.getElem?_eq_some_iff.1 h.c0).1
  refine ⟨b1, by simp [hgo], by rw [Array.getElem?_setIfInBounds_ne (by omega)]; exact h.c1, o1, row_keep h.ow (fun k hk => f1.block k (h.lw k hk) (fun e => h.nw (by rw [hk, e])) (fun e => h.hw k e.symm hk)), ?_, h.nw, ?_, fun k hk => Nat.lt_of_lt_of_le (h.lw k hk) f1.size⟩
  · rcases q1 with q1 | ⟨g, q1, q2⟩
    · rw [q1]; exact h.nh
    · rw [q1]; intro e; injection e with e; omega
  · intro k hk hk'
    rcases q1 with q1 | ⟨g, q1, q2⟩
    · exact h.hw k (by rw [← q1]; exact hk) hk'
    · rw [q1] at hk; injection hk with hk; have := h.lw k hk'; omega

/-- One is remembered. -/
theorem rg_app {y Y z : World} {gb go base : Nat} {L W W' : List Int} {cs : Array Value} {T : TypeId} {hv wv wv' : Value} (h : RG y gb go base L W cs T hv wv) (hY : ∀ k, k < y.heap.size → Y.heap[k]? = y.heap[k]?) (hs : y.heap.size ≤ Y.heap.size)
    (o1 : z.ownsRow base 3 1 wv' W'.length (rowI W')) (hg : Y.grownBy z wv.ownBlock) (hl : ∃ g, wv'.ownBlock = some g ∧ (wv.ownBlock = some g ∨ y.heap.size ≤ g)) :
    RG (z.setCell ⟨gb, go + 1, none⟩ wv') gb go base L W' (cs.setIfInBounds (go + 1) wv') T hv wv' ∧ z.heap[gb]? = some (.cells cs T (0, 0)) := by
  have hlt := (Array.getElem?_eq_some_iff.1 h.blk).1
  have hgo := (Array.getElem?_eq_some_iff.1 h.c1).1
  obtain ⟨g, g1, g2⟩ := hl
  have keep : ∀ k, k < y.heap.size → wv.ownBlock ≠ some k → z.heap[k]? = y.heap[k]? := fun k k1 k2 => (hg.block k (by omega) (fun e => k2 e.symm)).trans (hY k k1)
  have b1 : z.heap[gb]? = some (.cells cs T (0, 0)) := (keep gb hlt h.nw).trans h.blk
  have hgb : g ≠ gb := by
    intro e
    rcases g2 with g2 | g2
    · exact h.nw (by rw [g2, e])
    · omega
  refine ⟨⟨heap_setCell_same z gb (go + 1) cs T _ b1, by rw [Array.getElem?_setIfInBounds_ne (by omega)]; exact h.c0, by simp [hgo], ?_, ?_, h.nh, by rw [g1]; intro e; injection e with e; exact hgb e, ?_, ?_⟩, b1⟩
  · refine row_keep h.oh (fun k hk => ?_)
    rw [heap_setCell_other z _ k _ (fun e => h.nh (by rw [hk, e]))]
    exact keep k (own_lt h.oh hk) (h.hw k hk)
  · refine row_keep o1 (fun k hk => ?_)
    rw [g1] at hk; injection hk with hk; subst hk
    rw [heap_setCell_other z _ g _ hgb]
  · intro k hk hk'
    rw [g1] at hk'; injection hk' with hk'; subst hk'
    rcases g2 with g2 | g2
    · exact h.hw g hk g2
    · have := own_lt h.oh hk; omega
  · intro k hk
    rw [World.size_setCell]
    exact own_lt o1 hk

/-- One is written. -/
theorem rg_put {z : World} {gb go base : Nat} {L W : List Int} {cs : Array Value} {T : TypeId} {wv : Value} {g cap : Nat} (h : RG z gb go base L W cs T (.slice (some ⟨g, 0, none⟩) L.length cap) wv) (n : Nat) (x : Int) :
    RG (z.setCell ⟨g, n, none⟩ (.int .i64 x)) gb go base (L.set n x) W cs T (.slice (some ⟨g, 0, none⟩) L.length cap) wv := by
  have hgb : g ≠ gb := fun e => h.nh (by rw [← e]; rfl)
  refine ⟨by rw [heap_setCell_other z _ gb _ (fun e => hgb e.symm)]; exact h.blk, h.c0, h.c1, by simpa using row_set h.oh n x, row_keep h.ow (fun k hk => ?_), h.nh, h.nw, h.hw, fun k hk => by rw [World.size_setCell]; exact h.lw k hk⟩
  rw [heap_setCell_other z _ k _ (fun e => h.hw g rfl (by rw [hk, e]))]

end Go.Proofs.Ytaomkfhbnakbjaa

namespace Go.Proofs.Ytaomkfhbnakbjaa
open Go.RowKit
set_option linter.unusedVariables false

theorem rg_infoInt : (Try.prog.info? 3).map (fun i => (i.zero, i.size, i.bytes)) = some (some (.int .i64 0), 1, 8) := by kernel_rfl

/-- Of the blocks that were there none has changed but gb and the two rows' own. -/
structure Rf2 (w w' : World) (gb : Nat) (r1 r2 : Option Nat) : Prop where
  os : w'.os = w.os
  tape : w'.tape = w.tape
  output : w'.output = w.output
  size : w.heap.size ≤ w'.heap.size
  block : ∀ k, k < w.heap.size → k ≠ gb → some k ≠ r1 → some k ≠ r2 → w'.heap[k]? = w.heap[k]?

theorem set_new_left {w y z : World} {gb go base : Nat} {H W L : List Int} {cs : Array Value} {T : TypeId} {hv : Value} {wa : Option Addr} {wc g cap g2 cap2 n : Nat} {x : Int} (h : RG w gb go base H W cs T hv (.slice wa W.length wc)) (hr : RG y gb go base L W (cs.setIfInBounds go (.slice (some ⟨g, 0, none⟩) L.length cap)) T (.slice (some ⟨g, 0, none⟩) L.length cap) (.slice wa W.length wc))
    (q1 : (Value.slice (some ⟨g, 0, none⟩) L.length cap).ownBlock = hv.ownBlock ∨ ∃ g', (Value.slice (some ⟨g, 0, none⟩) L.length cap).ownBlock = some g' ∧ w.heap.size ≤ g') (f1 : Rf w y gb hv.ownBlock) (hat : L[n]? = some 0)
    (r1 : z.ownsRow base 3 1 (.slice (some ⟨g2, 0, none⟩) (W.length + 1) cap2) (W.length + 1) (rowI W ++ [.int .i64 (n : Int)])) (r2 : (y.alloc (.cells #[.int .i64 (n : Int)] 3)).grownBy z (Value.slice wa W.length wc).ownBlock)
    (r3 : (Value.slice wa W.length wc).ownBlock = some g2 ∨ g2 = y.heap.size + 1) :
    z.cell? ⟨gb, go + 1, none⟩ = some (.slice wa W.length wc) ∧ z.frozen? ⟨gb, go + 1, none⟩ = false ∧ z.cell? ⟨gb, go, none⟩ = some (.slice (some ⟨g, 0, none⟩) L.length cap) ∧ z.cell? ⟨g, n, none⟩ = some (.int .i64 0) ∧ z.frozen? ⟨g, n, none⟩ = false ∧ ¬ gb = g ∧
    ∃ hv' wv' cs', RG ((z.setCell ⟨gb, go + 1, none⟩ (.slice (some ⟨g2, 0, none⟩) (W.length + 1) cap2)).setCell ⟨g, n, none⟩ (.int .i64 x)) gb go base (L.set n x) (W ++ [(n : Int)]) cs' T hv' wv' ∧ (∀ j, j ≠ go → j ≠ go + 1 → cs'[j]? = cs[j]?) ∧ (hv'.ownBlock = hv.ownBlock ∨ ∃ g, hv'.ownBlock = some g ∧ w.heap.size ≤ g) ∧ (wv'.ownBlock = (Value.slice wa W.length wc).ownBlock ∨ ∃ g, wv'.ownBlock = some g ∧ w.heap.size ≤ g) ∧
      Rf2 w ((z.setCell ⟨gb, go + 1, none⟩ (.slice (some ⟨g2, 0, none⟩) (W.length + 1) cap2)).setCell ⟨g, n, none⟩ (.int .i64 x)) gb hv.ownBlock (Value.slice wa W.length wc).ownBlock := by
  have hys := f1.size
  have hgb : ¬ gb = g := fun e => hr.nh (by rw [e]; rfl)
  have hzs : y.heap.size + 1 ≤ z.heap.size := by have := r2.size; simpa using this
  obtain ⟨A, B⟩ := rg_app (W' := W ++ [(n : Int)]) (wv' := .slice (some ⟨g2, 0, none⟩) (W.length + 1) cap2) hr (fun k hk => heap_alloc_old y (.cells #[.int .i64 (n : Int)] 3) hk) (by simp) (by rw [rowI_app, List.length_append]; exact r1) r2 ⟨g2, rfl, r3.imp id (fun e => by omega)⟩
  have hgy : g < y.heap.size := own_lt hr.oh rfl
  have hgw : (Value.slice wa W.length wc).ownBlock ≠ some g := hr.hw g rfl
  have ezg : z.heap[g]? = y.heap[g]? := (r2.block g (by simp; omega) (fun e => hgw e.symm)).trans (heap_alloc_old y _ hgy)
  obtain ⟨g', cap', cur, e0, e2, e3, -, -⟩ := row_at hr.oh hat
  injection e0 with e0 _ _
  injection e0 with e0
  injection e0 with e0
  subst e0
  rw [← ezg] at e2
  refine ⟨by simp [World.cell?, B, hr.c1], by simp [World.frozen?, B], by simp [World.cell?, B, hr.c0], by simp [World.cell?, e2, e3], by simp [World.frozen?, e2], hgb, _, _, _, rg_put A n x, ?_, q1, ?_, ?_⟩
  · intro j j1 j2
    rw [Array.getElem?_setIfInBounds_ne (by omega), Array.getElem?_setIfInBounds_ne (by omega)]
  · rcases r3 with r3 | r3
    · exact .inl r3.symm
    · exact .inr ⟨g2, rfl, by omega⟩
  · refine ⟨r2.os.trans f1.os, r2.tape.trans f1.tape, r2.output.trans f1.output, by simp; omega, fun k k1 k2 k3 k4 => ?_⟩
    have hkg : k ≠ g := by
      intro e
      rcases q1 with q1 | ⟨g', q1, q2⟩
      · exact k3 (by rw [← q1, e]; rfl)
      · injection q1 with q1; simp at q1; omega
    rw [heap_setCell_other _ _ k _ hkg, heap_setCell_other _ _ k _ k2, r2.block k (by simp; omega) k4, heap_alloc_old y _ (by omega)]
    exact f1.block k k1 k2 k3

set_option maxHeartbeats 1000000 in
theorem set_new (w : World) (gb go base : Nat) (H W : List Int) (cs : Array Value) (T : TypeId) (hv wv : Value) (h : RG w gb go base H W cs T hv wv) (hbase : base ≤ w.heap.size) (n : Nat) (hn : n < 1048576) (x : Int) (hp : regAt H n = 0) (hx : ¬ x = 0) (hW : W.length ≤ 8388608) :
    Calls Try.prog 123 #[.pointer (some ⟨gb, go, none⟩), .int .i64 (n : Int), .int .i64 x] w fun e w' => e = .returned (.tuple #[]) ∧
      ∃ hv' wv' cs', RG w' gb go base ((reached H (n + 1)).set n x) (W ++ [(n : Int)]) cs' T hv' wv' ∧ (∀ j, j ≠ go → j ≠ go + 1 → cs'[j]? = cs[j]?) ∧ (hv'.ownBlock = hv.ownBlock ∨ ∃ g, hv'.ownBlock = some g ∧ w.heap.size ≤ g) ∧ (wv'.ownBlock = wv.ownBlock ∨ ∃ g, wv'.ownBlock = some g ∧ w.heap.size ≤ g) ∧ Rf2 w w' gb hv.ownBlock wv.ownBlock := by
  have hwr : IntKind.i64.wrap ((n : Int) + 1) = (n : Int) + 1 := by rw [IntKind.wrap_i64]; omega
  obtain ⟨i0, hi, hz0, hz1, hz2⟩ := info_parts rg_infoInt
  have HT := hideIt (And.intro hi (And.intro hz0 (And.intro hz1 hz2)))
  clear hi hz0 hz1 hz2
  have hr := reach_any w gb go base hv H cs T h.blk h.c0 h.oh h.nh hbase (n + 1) (by omega)
  rw [show ((n + 1 : Nat) : Int) = (n : Int) + 1 by omega] at hr
  have HC := hideIt hr
  clear hr
  have hat := reached_at H n
  rw [hp] at hat
  obtain ⟨L, eL⟩ : ∃ L, reached H (n + 1) = L := ⟨_, rfl⟩
  rw [eL] at hat
  have hln : n < L.length := (List.getElem?_eq_some_iff.1 hat).1
  have hln' : (n : Int) < (L.length : Int) := by omega
  have HA := hideIt hat
  have HL := hideIt eL
  have HH := hideIt h
  have HB := hideIt hbase
  have hb : (x != 0) = true := by simpa using hx
  have hwf : ∃ wa wc, wv = .slice wa W.length wc := by
    rcases h.ow.2 with ⟨e0, e1⟩ | ⟨g, cap, cur, e0, -⟩
    · exact ⟨none, 0, by rw [e0, e1]⟩
    · exact ⟨_, _, e0⟩
  obtain ⟨wa, wc, rfl⟩ := hwf
  clear h hat eL hbase hp
  go_enter Try.func123, Try.ntmps123
  go_wp2_with (fail)
  go_at_call 103
  refine HC.out.mono ?_
  rintro e y ⟨rfl, v', b1, o1, q1, f1⟩
  rw [HL.out] at o1
  have HR := hideIt (rg_reach HH.out b1 o1 q1 f1)
  obtain ⟨g, cap, cur, rfl, e2, e3, e4, e5⟩ := row_at o1 HA.out
  have c1 : y.cell? ⟨gb, go, none⟩ = some (.slice (some ⟨g, 0, none⟩) L.length cap) := by simp [World.cell?, b1, HR.out.c0]
  have c2 : y.cell? ⟨g, n, none⟩ = some (.int .i64 0) := by simp [World.cell?, e2, e3]
  have c3 : y.frozen? ⟨g, n, none⟩ = false := by simp [World.frozen?, e2]
  have c4 : y.cell? ⟨gb, go + 1, none⟩ = some (.slice wa W.length wc) := by simp [World.cell?, b1, HR.out.c1]
  have Q1 := hideIt q1
  have F1 := hideIt f1
  clear b1 o1 q1 f1 e2 e3 e5
  have HN := hideIt (show ∀ X : World, X.heap = (y.alloc (.cells #[.int .i64 (n : Int)] 3)).heap → X.ownsRow base 3 1 (.slice wa W.length wc) W.length (rowI W) ∧ (∀ j u, [Value.int .i64 (n : Int)][j]? = some u → X.cell? ((⟨y.heap.size, 0, none⟩ : Addr).add j) = some u) ∧ base ≤ X.heap.size ∧ X.heap.size = y.heap.size + 1 from fun X hX => by
    have hs : X.heap.size = y.heap.size + 1 := by rw [hX]; simp
    have hb' : X.heap[y.heap.size]? = some (.cells #[.int .i64 (n : Int)] 3 (0, 0)) := by rw [hX]; exact heap_alloc_new y _
    refine ⟨row_keep HR.out.ow (fun k hk => by rw [hX]; exact heap_alloc_old y _ (HR.out.lw k hk)), World.news_of_block hb', ?_, hs⟩
    have := HB.out
    have := F1.out.size
    omega)
  have H1 := hideIt (show ∀ u ∈ [Value.int .i64 (n : Int)], u.oneCell' = true from fun u hu => by simp at hu; subst hu; rfl)
  have HM := hideIt (show W.length + 1 ≤ maxLen by unfold maxLen; omega)
  have HM2 := hideIt (show (W.length + 1) * 8 ≤ 140737488355328 by omega)
  go_wp2_with (first | (at_builtin; refine wpList_append_lies _ rfl (.tmp 26) (.tmp 28) 22 rfl base 3 i0 (.int .i64 0) 1 8 Try.underlying22 HT.out.1 HT.out.2.1 HT.out.2.2.1 HT.out.2.2.2 rfl (by decide) (.slice wa W.length wc) W.length (rowI W) rfl (HN.out _ rfl).1 ⟨y.heap.size, 0, none⟩ 1 1 [.int .i64 (n : Int)] rfl rfl (HN.out _ rfl).2.1 H1.out (by decide) HM.out HM2.out (HN.out _ rfl).2.2.1 (y.heap.size + 1) (HN.out _ rfl).2.2.2 ?_; intro g2 cap2 z r1 r2 r3 r4; obtain ⟨d1, d2, d3, d4, d5, d6, d7⟩ := set_new_left (x := x) HH.out HR.out Q1.out F1.out HA.out r1 r2 r3; have HZ := hideIt d7; clear d7 r1 r2 r3 r4) | fail)
  go_end0
  rw [HL.out]
  exact ⟨rfl, HZ.out⟩

end Go.Proofs.Ytaomkfhbnakbjaa
