/-
  append(s, make([]T, k)...) onto a row of one's own: laws of no program's own; no conditions but those that each bears.
  What a call in the place of an instruction asks of a body, and what holds on the way: facts on states and worlds; no conditions but those that each fact bears.
-/
import Derived.Lib.AppendZerosOnto
import Derived.Laws.OwnMore
import Derived.Deep.AppendLies
import Derived.Test.YtnaflfpkkbfnfaaKIrB
import Derived.Test.YtnaflfpkkbfnfaaKInH
namespace Go.Proofs.Ytnaflfpkkbfnfaa.In
open Go.RowKit
set_option linter.unusedVariables false

theorem run_append_room_zeros {P : Program} (w : World) (t tn ty e : TypeId) (i : TypeInfo) (z : Value) (kq kn : IntKind) (ht : P.underlying t = some (.slice e)) (htn : P.underlying tn = some (.int kn)) (hi : P.info? e = some i) (hz : i.zero = some z)
    (g sLen sCap : Nat) (cur : Array Value) (hg : w.heap[g]? = some (.cells cur e (0, 0))) (k : Nat) (h0 : 0 < k) (hs : 0 < i.size) (hroom : sLen + k ≤ sCap) (h63 : (k : Int) ≤ 9223372036854775807) (h48 : k * i.bytes ≤ 281474976710656)
    (hfit : sLen * i.size + (Builtin.zeroCells z.cells k).toList.length ≤ cur.size) (h1 : ∀ u ∈ (Builtin.zeroCells z.cells k).toList, u.oneCell' = true) :
    (Builtin.append_ #[t, tn] ty #[.slice (some ⟨g, 0, none⟩) sLen sCap, .int kq k]).run P w =
      .ok (.slice (some ⟨g, 0, none⟩) (sLen + k) sCap) (w.setRow g (cur.toList.take (sLen * i.size) ++ (Builtin.zeroCells z.cells k).toList ++ cur.toList.drop (sLen * i.size + (Builtin.zeroCells z.cells k).toList.length)).toArray) := by
  have hk : k ≠ 0 := by omega
  have hw : IntKind.i64.wrap (k : Int) = k := by rw [IntKind.wrap_i64]; omega
  have h48i : ¬ (281474976710656 < (k : Int) * (i.bytes : Int)) := by
    rw [← Int.natCast_mul]
    omega
  have hneg : ¬ ((k : Int) < 0) := by omega
  have hns : ¬ (k * i.size = 0) := Nat.mul_ne_zero hk (by omega)
  have hst := run_storeCells_at P g (sLen * i.size) e (Builtin.zeroCells z.cells k).toList 0 cur w hg (by simpa using hfit) h1
  simp only [Nat.add_zero] at hst
  simp [Builtin.append_, run_underlying ht, run_underlying htn, sizeOf, typeInfo, zeroValue, hi, hz, asInt, asIntOf, hw, hneg, hns, h48i, hroom, Addr.add_lit, hst]

theorem append_zeros {P : Program} (w : World) (lo : Nat) (t tn ty e : TypeId) (i : TypeInfo) (z : Value) (size bytes : Nat) (kn : IntKind) (ht : P.underlying t = some (.slice e)) (htn : P.underlying tn = some (.int kn)) (hi : P.info? e = some i) (hz : i.zero = some z) (hsize : i.size = size) (hby : i.bytes = bytes) (hzs : z.cells.size = size) (hsz : 0 < size)
    (g n cap : Nat) (xs : List Value) (hown : w.ownsRow lo e size (.slice (some ⟨g, 0, none⟩) n cap) n xs) (k : Nat) (h0 : 0 < k) (h63 : n + k ≤ maxLen) (hbytes : (n + k) * bytes ≤ 140737488355328) (hbase : lo ≤ w.heap.size) (h1 : ∀ u ∈ (Builtin.zeroCells z.cells k).toList, u.oneCell' = true) :
    ∃ g' cap' w', (Builtin.append_ #[t, tn] ty #[.slice (some ⟨g, 0, none⟩) n cap, .int .i64 (k : Int)]).run P w = .ok (.slice (some ⟨g', 0, none⟩) (n + k) cap') w' ∧ w'.ownsRow lo e size (.slice (some ⟨g', 0, none⟩) (n + k) cap') (n + k) (xs ++ (Builtin.zeroCells z.cells k).toList) ∧ w.grownBy w' (some g) ∧ (g' = g ∨ w.heap.size ≤ g') := by
  subst hsize
  subst hby
  have hzl : (Builtin.zeroCells z.cells k).toList.length = k * i.size := by rw [Array.length_toList, size_zeroCells, hzs]
  have hlen : (xs ++ (Builtin.zeroCells z.cells k).toList).length = (n + k) * i.size := by rw [List.length_append, hown.1, hzl, Nat.add_mul]
  have hsmall : n + k ≤ 9223372036854775807 := by simp only [maxLen] at h63; omega
  have hb2 : k * i.bytes ≤ 281474976710656 := by have := Nat.mul_le_mul_right i.bytes (show k ≤ n + k by omega); omega
  rcases hown.2 with ⟨h, _⟩ | ⟨g2, cap2, cur, h, hbg, hg, hnc, hcm, hcs, htake⟩
  · simp at h
  · simp only [Value.slice.injEq, Option.some.injEq, Addr.mk.injEq, and_true, true_and] at h
    obtain ⟨rfl, rfl⟩ := h
    by_cases hroom : n + k ≤ cap
    · have hfit : n * i.size + (Builtin.zeroCells z.cells k).toList.length ≤ cur.size := by rw [hzl, hcs, ← Nat.add_mul]; exact Nat.mul_le_mul_right _ hroom
      have hr := run_append_room_zeros (P := P) w t tn ty e i z .i64 kn ht htn hi hz g n cap cur hg k h0 hsz hroom (by omega) hb2 hfit h1
      refine ⟨g, cap, _, hr, ⟨hlen, .inr ⟨g, cap, _, rfl, hbg, setRow_heap w g cur _ e _ hg, hroom, hcm, ?_, ?_⟩⟩, ⟨rfl, rfl, rfl, by simp, fun k _ hk => setRow_other w g k _ (fun e => hk (by simp [e]))⟩, Or.inl rfl⟩
      · simp only [List.size_toArray, List.length_append, List.length_take, List.length_drop, Array.length_toList]
        rw [Array.length_toList] at hfit
        omega
      · rw [htake, ← hlen]
        exact List.take_left
    · have hold : (Builtin.firstCells i.size n (.slice (some ⟨g, 0, none⟩) n cap)).run P w.drew = .ok xs.toArray w.drew := run_firstCells_some (P := P) w.drew i.size n ⟨g, 0, none⟩ n cap xs hown.1 (fun j u hu => by have := hown.cells (g := g) rfl j u hu; simpa using this)
      have hr := Lib.run_append_grow_zeros (P := P) w t tn ty e i z .i64 kn ht htn hi hz (some ⟨g, 0, none⟩) n cap xs hold k h0 hsz (by omega) (by omega) hb2 (growslice_fits (by omega) hbytes)
      have hge := grownCap_ge w (n + k) cap e
      have hcm2 : grownCap w (n + k) cap e ≤ maxLen := grownCap_le_maxLen w (n + k) cap e h63
      refine ⟨w.heap.size, _, _, hr, ⟨hlen, .inr ⟨w.heap.size, _, _, rfl, hbase, heap_alloc_new w.drew _, hge, hcm2, ?_, ?_⟩⟩, ⟨rfl, rfl, rfl, by simp, fun k hk _ => heap_alloc_old w.drew _ hk⟩, Or.inr (Nat.le_refl _)⟩
      · simp only [Array.size_append, List.size_toArray, size_zeroCells, hzs, hown.1, ← Nat.add_mul]
        congr 1
        omega
      · simp only [Array.toList_append, List.append_assoc]
        rw [← List.append_assoc, ← hlen]
        exact List.take_left

theorem step_append_run {P : Program} {ops : Array Oper} {o : Oper} {a : Act} {w : World} {K : Act → World → Prop} {Q : Exit → Act → World → Prop} {E : Prop} (hgd : o.guard = none) (s x : Operand) (t tn : TypeId)
    (ho : o.op = .call { callee := .builtin .append, args := #[s, x], argTypes := #[t, tn] }) (vs vx : Value) (hs : a.eval s = vs) (hx : a.eval x = vx)
    (v' : Value) (w' : World) (hr : (Builtin.append_ #[t, tn] o.type #[vs, vx]).run P w = .ok v' w') (h : K (a.put o.dst v') w') :
    if Region.wanted o (yielded ops a.tmps) = true then Oper.wp P o a w K Q else E := by
  have hw : Region.wanted o (yielded ops a.tmps) = true := by simp [Region.wanted, hgd]
  rw [if_pos hw]
  exact Lib.wp_append_run w s x t tn ho vs vx hs hx v' w' hr h

end Go.Proofs.Ytnaflfpkkbfnfaa.In

namespace Go.Proofs.Ytnaflfpkkbfnfaa.In
open Go.RowKit
set_option linter.unusedVariables false

/-- A body that may be put in the place of a call. -/
structure BdOk (b : Bd) : Prop where
  pne : b.f.parts ≠ []
  cnt : cntS b.f.parts ≤ 10
  regs : 0 ≤ b.f.regs ∧ b.f.regs ≤ 20
  ul : b.un.length ≤ 20
  un : ∀ r ∈ b.un, 0 ≤ r ∧ r < 20
  si : ∀ p ∈ b.f.parts, ∀ x ∈ p.ins, SI x
  ec : ∀ p ∈ b.f.parts, p.e = true ∨ 0 ≤ p.cond → 0 ≤ p.cond ∧ p.cond < 20
  nx : ∀ p ∈ b.f.parts, p.e = false → 0 ≤ p.next ∧ p.next < b.f.parts.length
  el : ∀ p ∈ b.f.parts, p.e = false → 0 ≤ p.cond → 0 ≤ p.els ∧ p.els < b.f.parts.length
theorem BdOk.len {b : Bd} (h : BdOk b) : b.f.parts.length ≤ 10 := Nat.le_trans (len_cnt _) h.cnt
theorem SI.z {x : PI} (h : SI (zI x)) : SI x := ⟨h.op, h.dst, h.a, h.b⟩
theorem BodyAt.part {w : World} {q fb fo uc : Nat} {b : Bd} {G : PF} {ua : Option Addr} (h : BodyAt w q b fb fo G ua uc) {k : Nat} {p : PP} (hk : b.f.parts[k]? = some p) : ∃ p0, G.parts[k]? = some p0 ∧ zP p0 = p := by
  rw [← h.z, List.getElem?_map] at hk
  cases e : G.parts[k]? with
  | none => rw [e] at hk; cases hk
  | some p0 => rw [e] at hk; injection hk with hk; exact ⟨p0, rfl, hk⟩
theorem BodyAt.glen {w : World} {q fb fo uc : Nat} {b : Bd} {G : PF} {ua : Option Addr} (h : BodyAt w q b fb fo G ua uc) : G.parts.length = b.f.parts.length := by rw [← h.z]; simp
theorem zP_si {p0 p : PP} (h : zP p0 = p) (hs : ∀ x ∈ p.ins, SI x) : ∀ x ∈ p0.ins, SI x := fun x hx => (hs (zI x) (by rw [← h]; exact List.mem_map_of_mem hx)).z
theorem zP_num {p0 p : PP} (h : zP p0 = p) : p0.e = p.e ∧ p0.cond = p.cond ∧ p0.next = p.next ∧ p0.els = p.els ∧ p0.ins.length = p.ins.length := by subst h; exact ⟨rfl, rfl, rfl, rfl, by simp [zP]⟩

section
variable {X : Cx} {cur : Nat} {s : Cl} {w : World}
theorem CW.fr (h : CW X cur s w) : X.Fr w := by obtain ⟨_, _, _, hm⟩ := h; exact hm.fk
theorem CW.n0 (h : CW X cur s w) : X.F0.parts.length ≤ s.ps.length := by
  obtain ⟨L, _, _, hm⟩ := h
  have := hm.len
  rw [← hm.z, List.length_map]
  exact this
theorem CW.reg (h : CW X cur s w) (hx : X.ok) {r r' : Int} (e : r' = r) : CW X cur { s with regs := r } (w.setCell ⟨X.fb, X.fo + 1, none⟩ (.int .i64 r')) := by
  subst e
  obtain ⟨L, pa, pc, hm⟩ := h
  exact ⟨L, pa, pc, hm.regd hx _⟩
theorem CW.her (h : CW X cur s w) (hx : X.ok) (n : Nat) {z : Int} (e : z = (n : Int)) : CW X cur (s.at n) (w.setCell ⟨X.C, 3, none⟩ (.int .i64 z)) := by
  subst e
  obtain ⟨L, pa, pc, hm⟩ := h
  exact ⟨L, pa, pc, hm.hered hx _⟩
/-- What the walks read. -/
theorem CW.reads (h : CW X cur s w) : w.cell? ⟨X.C, 0, none⟩ = some (.pointer (some ⟨X.fb, X.fo, none⟩)) ∧ w.cell? ⟨X.C, 3, none⟩ = some (.int .i64 (s.here : Int)) ∧ w.frozen? ⟨X.C, 3, none⟩ = false ∧ w.cell? ⟨X.fb, X.fo + 1, none⟩ = some (.int .i64 s.regs) ∧ w.frozen? ⟨X.fb, X.fo + 1, none⟩ = false ∧ w.frozen? ⟨X.fb, X.fo + 3, none⟩ = false ∧ ∃ pa pc, w.cell? ⟨X.fb, X.fo + 3, none⟩ = some (.slice pa s.ps.length pc) := by
  obtain ⟨L, pa, pc, hm⟩ := h
  obtain ⟨c0, -, -, c3, cf⟩ := hm.c3
  refine ⟨c0, c3, cf 3, hm.f1, hm.fz _, hm.fz _, pa, pc, ?_⟩
  rw [← hm.z, List.length_map]
  exact hm.f3
theorem zero_one : ∀ u ∈ (Value.agg #[.slice none 0 0, .bool false, .int .i64 0, .int .i64 0, .int .i64 0]).cells.toList, u.oneCell' = true := fun u hu => by
  simp [Value.cells] at hu
  rcases hu with rfl | rfl | rfl <;> rfl
theorem zeros_flat (k : Nat) : (Builtin.zeroCells (Value.agg #[.slice none 0 0, .bool false, .int .i64 0, .int .i64 0, .int .i64 0]).cells k).toList = (List.replicate k zeroPP).flatMap PP.cells := by
  apply List.ext_getElem?
  intro j
  by_cases hj : j < k * 5
  · have hk : j / 5 < k := by omega
    have h1 : (List.replicate k zeroPP)[j / 5]? = some zeroPP := by simp [hk]
    have h2 := flat_at PP.cells 5 PP.len (List.replicate k zeroPP) (j / 5) zeroPP (j % 5) h1 (Nat.mod_lt _ (by omega))
    rw [Nat.div_add_mod'] at h2
    rw [h2]
    have h3 : j % 5 < 5 := Nat.mod_lt _ (by omega)
    have hz : (Value.agg #[.slice none 0 0, .bool false, .int .i64 0, .int .i64 0, .int .i64 0]).cells = #[.slice none 0 0, .bool false, .int .i64 0, .int .i64 0, .int .i64 0] := by simp [Value.cells]
    rw [hz]
    unfold Builtin.zeroCells
    simp only [Array.toList_map, Array.toList_range, List.getElem?_map]
    rw [List.getElem?_range (by simpa using hj)]
    simp only [Option.map_some, List.size_toArray, List.length_cons, List.length_nil]
    generalize j % 5 = m at *
    match m, h3 with
    | 0, _ => rfl
    | 1, _ => rfl
    | 2, _ => rfl
    | 3, _ => rfl
    | 4, _ => rfl
  · have h1 : (List.replicate k zeroPP).flatMap PP.cells = (List.replicate k zeroPP).flatMap PP.cells := rfl
    rw [List.getElem?_eq_none, List.getElem?_eq_none]
    · rw [flat_len PP.cells 5 PP.len, List.length_replicate]; omega
    · rw [Array.length_toList, size_zeroCells]
      simp [Value.cells]
      omega
/-- Parts are made behind the others: the append's run, and what it leaves. -/
theorem CW.grow (h : CW X cur s w) (hx : X.ok) (hs : cntS s.ps ≤ 900000000) (k : Nat) (h0 : 0 < k) (hk : k ≤ 1000) (pa : Option Addr) (pc : Nat) (hc : w.cell? ⟨X.fb, X.fo + 3, none⟩ = some (.slice pa s.ps.length pc)) : ∃ g' cap' w', (Builtin.append_ #[33, 3] 33 #[.slice pa s.ps.length pc, .int .i64 (k : Int)]).run Try.prog w = .ok (.slice (some ⟨g', 0, none⟩) (s.ps.length + k) cap') w' ∧ w'.cell? ⟨X.fb, X.fo + 3, none⟩ = some (.slice pa s.ps.length pc) ∧ w'.frozen? ⟨X.fb, X.fo + 3, none⟩ = false ∧ w'.cell? ⟨X.C, 0, none⟩ = some (.pointer (some ⟨X.fb, X.fo, none⟩)) ∧ X.Fr w' ∧ CW X cur { s with ps := s.ps ++ List.replicate k zeroPP } (w'.setCell ⟨X.fb, X.fo + 3, none⟩ (.slice (some ⟨g', 0, none⟩) (s.ps.length + k) cap')) := by
  obtain ⟨L, pa', pc', hm⟩ := h
  have hll : L.length = s.ps.length := by rw [← hm.z]; simp
  have hlc := len_cnt s.ps
  have e3 := hm.f3
  rw [hll, hc] at e3
  injection e3 with e3
  injection e3 with e4 _ e5
  subst e4; subst e5
  obtain ⟨P, rfl, hPb, hPf, hPs, hPlo⟩ := hm.par hx
  obtain ⟨i0, hi0, hz0, hz1, hz2⟩ := info_part
  have hown := hm.prow
  rw [hll] at hown
  obtain ⟨g', cap', w', hr, ho, hg, hat⟩ := append_zeros (P := Try.prog) w X.lo 33 3 33 39 i0 _ 5 56 .i64 Try.underlying33 Try.underlying3 hi0 hz0 hz1 hz2 rfl (by decide) P s.ps.length pc _ hown k h0 (by unfold maxLen; omega) (by omega) (by omega) (fun u hu => by
    rw [zeros_flat] at hu
    obtain ⟨p, _, hp⟩ := List.mem_flatMap.1 hu
    exact cells_oneP p u hp)
  rw [zeros_flat] at ho
  rw [← hll] at ho
  obtain ⟨⟨m1, m2⟩, m3⟩ := hm.more hx rfl hg ho hat
  rw [hll] at m1 m3
  have hCl := (Array.getElem?_eq_some_iff.1 hm.box).1
  have hCP : X.C ≠ P := fun e => by rcases hPb with q | q <;> (have := hx.hPb; unfold Cx.C at *; omega)
  exact ⟨g', cap', w', hr, m1, m2, hg.cell hm.c3.1 (fun q => hCP (by injection q)), Fk.ch hm.fk hx.hfb hg.os hg.tape hg.output hg.size (S := fun b => b = P) (fun b hb => by subst hb; exact ⟨hPb.imp id (fun q => by unfold Cx.C at q; omega), hPf⟩) (fun b h1 h2 => hg.block b h1 (fun e => h2 (by injection e))), m3⟩
end

end Go.Proofs.Ytnaflfpkkbfnfaa.In
