/-
  Steps of the statement TapePlays, outside of its walk: a tape and the document's tape of the same draws, asked alike; no conditions but those that each fact bears.
-/
import Derived.Test.YteefahkjdpaogabRefB
import Derived.Test.YteefahkjdpaogabLogsA
namespace Go.Proofs.Yteefahkjdpaogab
open Go.RowKit
set_option linter.unusedVariables false

/-- A tape at p1 and the document's at p2, of the draws ds, which came in as the slice of address la. -/
structure PS (w0 w : World) (p1 p2 : Nat) (ds : List Int) (la : Option Addr) (D Lc : Nat) (u : Nat) (lg : List (Int × Int)) (u2 : Nat) (lg2 : List (Int × Int)) : Prop where
  ex : ∃ (b1 b2 : Nat → Prop), TP w w0.heap.size b1 p1 ds u lg ∧ RP w w0.heap.size b2 p2 (.slice la D Lc) u2 (lg2.map (·.1)) (lg2.map (·.2)) ∧ ∀ k, b1 k → ¬ b2 k
  rd : Reads .u64 w0 la ds
  len : ds.length = D
  le : D ≤ 4096
  wf : ∀ d ∈ ds, 0 ≤ d ∧ d ≤ 18446744073709551615
  ule : u2 ≤ D
  bel : Below w0.heap.size w0 w

theorem PS.drewN {w0 w : World} {p1 p2 : Nat} {ds : List Int} {la : Option Addr} {D Lc u u2 : Nat} {lg lg2 : List (Int × Int)} (h : PS w0 w p1 p2 ds la D Lc u lg u2 lg2) (n : Nat) : PS w0 (w.drewN n) p1 p2 ds la D Lc u lg u2 lg2 := by
  obtain ⟨b1, b2, t1, t2, r⟩ := h.ex
  exact ⟨⟨b1, b2, t1.kept (fun _ _ => rfl) (Nat.le_refl _), t2.kept (fun _ _ => rfl) (Nat.le_refl _), r⟩, h.rd, h.len, h.le, h.wf, h.ule, below_drewN h.bel n⟩

theorem ps_one {w0 w w' : World} {p1 p2 : Nat} {ds : List Int} {la : Option Addr} {D Lc u u' u2 : Nat} {lg lg' lg2 : List (Int × Int)} {b1 b2 : Nat → Prop} (h : PS w0 w p1 p2 ds la D Lc u lg u2 lg2) (t1 : TP w w0.heap.size b1 p1 ds u lg) (t2 : RP w w0.heap.size b2 p2 (.slice la D Lc) u2 (lg2.map (·.1)) (lg2.map (·.2))) (hap : ∀ k, b1 k → ¬ b2 k)
    (hst : Step w w' w0.heap.size b1 p1 ds u' lg') : PS w0 w' p1 p2 ds la D Lc u' lg' u2 lg2 := by
  obtain ⟨⟨b1', r1, r2, r3⟩, hF⟩ := hst
  have hs : w0.heap.size ≤ w.heap.size := by have := t1.rng p1 t1.inp; omega
  refine ⟨⟨b1', b2, r3, t2.fr hF (fun k a b => hap k b a), fun k a b => ?_⟩, h.rd, h.len, h.le, h.wf, h.ule, h.bel.trans (hF.below hs (fun k hk => (t1.rng k hk).1))⟩
  rcases r2 k a with c | c
  · exact hap k c b
  · have := (t2.rng k b).2; omega
theorem ps_two {w0 w w' : World} {p1 p2 : Nat} {ds : List Int} {la : Option Addr} {D Lc u u2 u2' : Nat} {lg lg2 lg2' : List (Int × Int)} {b1 b2 : Nat → Prop} (h : PS w0 w p1 p2 ds la D Lc u lg u2 lg2) (t1 : TP w w0.heap.size b1 p1 ds u lg) (t2 : RP w w0.heap.size b2 p2 (.slice la D Lc) u2 (lg2.map (·.1)) (lg2.map (·.2))) (hap : ∀ k, b1 k → ¬ b2 k) (hu : u2' ≤ D)
    (hst : RStep w w' w0.heap.size b2 p2 (.slice la D Lc) u2' (lg2'.map (·.1)) (lg2'.map (·.2))) : PS w0 w' p1 p2 ds la D Lc u lg u2' lg2' := by
  obtain ⟨⟨b2', r1, r2, r3⟩, hF⟩ := hst
  have hs : w0.heap.size ≤ w.heap.size := by have := t1.rng p1 t1.inp; omega
  refine ⟨⟨b1, b2', t1.fr hF (fun k a b => hap k a b), r3, fun k a b => ?_⟩, h.rd, h.len, h.le, h.wf, hu, h.bel.trans (hF.below hs (fun k hk => (t2.rng k hk).1))⟩
  rcases r2 k b with c | c
  · exact hap k a c
  · have := (t1.rng k a).2; omega

theorem nxtZ_le {ds : List Int} {u D : Nat} (n : Int) (hd : ds.length = D) (hu : u ≤ D) : nxtZ ds u n ≤ D := by
  unfold nxtZ nxt
  (repeat' split) <;> omega
theorem map_fst (ds : List Int) (u : Nat) (n : Int) (lg : List (Int × Int)) : (logZ ds u n lg).map (·.1) = appZ n (lg.map (·.1)) n := by
  unfold logZ appZ
  split <;> simp
theorem map_snd (ds : List Int) (u : Nat) (n : Int) (lg : List (Int × Int)) : (logZ ds u n lg).map (·.2) = appZ n (lg.map (·.2)) (val ds u n) := by
  unfold logZ appZ
  split <;> simp

theorem ps_below1 (w : World) {w0 : World} {p1 p2 : Nat} {ds : List Int} {la : Option Addr} {D Lc u u2 : Nat} {lg lg2 : List (Int × Int)} (n : Int) (h : PS w0 w p1 p2 ds la D Lc u lg u2 lg2) (hn : n ≤ 9223372036854775807) (hl : lg.length ≤ 1000000) :
    Calls Try.prog 11 #[.pointer (some ⟨p1, 0, none⟩), .int .i64 n] w fun e w' => e = .returned (.int .i64 (valZ ds u n)) ∧ PS w0 w' p1 p2 ds la D Lc (nxtZ ds u n) (logZ ds u n lg) u2 lg2 := by
  obtain ⟨b1, b2, t1, t2, hap⟩ := h.ex
  have hs : w0.heap.size ≤ w.heap.size := by have := t1.rng p1 t1.inp; omega
  exact (below_all w n t1 hn hl hs).mono fun e w' ⟨he, hst⟩ => ⟨he, ps_one h t1 t2 hap hst⟩
theorem ps_below2 (w : World) {w0 : World} {p1 p2 : Nat} {ds : List Int} {la : Option Addr} {D Lc u u2 : Nat} {lg lg2 : List (Int × Int)} (n : Int) (h : PS w0 w p1 p2 ds la D Lc u lg u2 lg2) (hn : n ≤ 9223372036854775807) (hl : lg2.length ≤ 1000000) :
    Calls Try.prog 12 #[.pointer (some ⟨p2, 0, none⟩), .int .i64 n] w fun e w' => e = .returned (.int .i64 (valZ ds u2 n)) ∧ PS w0 w' p1 p2 ds la D Lc u lg (nxtZ ds u2 n) (logZ ds u2 n lg2) := by
  obtain ⟨b1, b2, t1, t2, hap⟩ := h.ex
  have hs : w0.heap.size ≤ w.heap.size := by have := t1.rng p1 t1.inp; omega
  refine (rbelow_all w n t2 (h.rd.keep h.bel) h.len h.le h.wf h.ule hn (by simpa using hl) (by simp) hs).mono fun e w' ⟨he, hst⟩ => ⟨he, ?_⟩
  rw [← map_fst ds u2 n lg2, ← map_snd ds u2 n lg2] at hst
  exact ps_two h t1 t2 hap (nxtZ_le n h.len h.ule) hst

theorem weights_in {w0 w : World} {wa : Option Addr} {ws : List Int} (hr : Reads .i64 w0 wa ws) (h0 : 0 < ws.length) (hb : Below w0.heap.size w0 w) : ∃ b off, wa = some ⟨b, off, none⟩ ∧ b < w0.heap.size ∧ ∀ j, j < ws.length → w.cell? ⟨b, off + j, none⟩ = some (.int .i64 (ws.getD j 0)) := by
  obtain ⟨b, off, e, hc⟩ := reads_at hr h0
  have hlt : b < w0.heap.size := World.block_lt_of_cell? w0 _ (hc 0 h0)
  exact ⟨b, off, e, hlt, fun j hj => by rw [hb.cell (p := ⟨b, off + j, none⟩) hlt]; exact hc j hj⟩
theorem ps_pick1 (w : World) {w0 : World} {p1 p2 : Nat} {ds : List Int} {la : Option Addr} {D Lc u u2 : Nat} {lg lg2 : List (Int × Int)} (wa : Option Addr) (wl wc : Nat) (ws : List Int) (h : PS w0 w p1 p2 ds la D Lc u lg u2 lg2) (hr : Reads .i64 w0 wa ws) (hw : ws.length = wl) (h0 : 0 < wl) (hm : wl ≤ 9223372036854775807) (hl : lg.length ≤ 1000000) :
    Calls Try.prog 9 #[.pointer (some ⟨p1, 0, none⟩), .slice wa wl wc] w fun e w' => e = .returned (.int .i64 (pickV ds u ws)) ∧ PS w0 w' p1 p2 ds la D Lc (nxtZ ds u (askN ws)) (logZ ds u (askN ws) lg) u2 lg2 := by
  obtain ⟨b1, b2, t1, t2, hap⟩ := h.ex
  have hs : w0.heap.size ≤ w.heap.size := by have := t1.rng p1 t1.inp; omega
  obtain ⟨b, off, rfl, hb, hc⟩ := weights_in hr (by omega) h.bel
  exact (pick_any w b off wl wc ws t1 hl hs hw h0 hm hc (fun c => by have := (t1.rng b c).1; omega)).mono fun e w' ⟨he, hst⟩ => ⟨he, ps_one h t1 t2 hap hst⟩
theorem ps_pick2 (w : World) {w0 : World} {p1 p2 : Nat} {ds : List Int} {la : Option Addr} {D Lc u u2 : Nat} {lg lg2 : List (Int × Int)} (wa : Option Addr) (wl wc : Nat) (ws : List Int) (h : PS w0 w p1 p2 ds la D Lc u lg u2 lg2) (hr : Reads .i64 w0 wa ws) (hw : ws.length = wl) (h0 : 0 < wl) (hm : wl ≤ 9223372036854775807) (hl : lg2.length ≤ 1000000) :
    Calls Try.prog 10 #[.pointer (some ⟨p2, 0, none⟩), .slice wa wl wc] w fun e w' => e = .returned (.int .i64 (pickV ds u2 ws)) ∧ PS w0 w' p1 p2 ds la D Lc u lg (nxtZ ds u2 (askN ws)) (logZ ds u2 (askN ws) lg2) := by
  obtain ⟨b1, b2, t1, t2, hap⟩ := h.ex
  have hs : w0.heap.size ≤ w.heap.size := by have := t1.rng p1 t1.inp; omega
  obtain ⟨b, off, rfl, hb, hc⟩ := weights_in hr (by omega) h.bel
  refine (rpick_any w b off wl wc ws t2 (h.rd.keep h.bel) h.len h.le h.wf h.ule (by simpa using hl) (by simp) hs hw h0 hm hc (fun c => by have := (t2.rng b c).1; omega)).mono fun e w' ⟨he, hst⟩ => ⟨he, ?_⟩
  rw [← map_fst ds u2 (askN ws) lg2, ← map_snd ds u2 (askN ws) lg2] at hst
  exact ps_two h t1 t2 hap (nxtZ_le _ h.len h.ule) hst

set_option maxHeartbeats 400000 in
theorem new_long (w : World) (a : Option Addr) (len cap : Nat) (h : 4096 < len) (hm : len ≤ 9223372036854775807) :
    Calls Try.prog 8 #[.slice a len cap] w fun e w' => e = .returned (.tuple #[.pointer none, .int .i64 2]) ∧ w' = w := by
  have hd : decide ((4096 : Int) < (len : Int)) = true := by simp; omega
  go_enter Try.func8, Try.ntmps8
  go_wp2
  go_ret2
  exact ⟨rfl, rfl⟩

theorem ps_start {w x1 y1 : World} {p1 : Nat} {xs : List Int} {b1 : Nat → Prop} {la : Option Addr} {D Lc : Nat} (q1 : Below w.heap.size w x1)
    (t1 : TP y1 x1.heap.size b1 p1 xs 0 []) (f1 : Fr (fun _ => False) x1 y1) (hr : Reads .u64 w la xs) (hd : xs.length = D) (hD : D ≤ 4096) (hwf : ∀ d ∈ xs, 0 ≤ d ∧ d ≤ 18446744073709551615) :
    PS w (y1.alloc (.cells #[.slice la D Lc, .int .i64 0, .slice none 0 0, .slice none 0 0] 32)) p1 y1.heap.size xs la D Lc 0 [] 0 [] := by
  have s1 := q1.size
  have s3 := f1.size
  have c2 := q1.trans ((f1.below (B := w.heap.size) (by omega) (fun k h => h.elim)))
  have fa : Fr (fun _ => False) y1 (y1.alloc (.cells #[.slice la D Lc, .int .i64 0, .slice none 0 0, .slice none 0 0] 32)) := (Fr.refl _ y1).alloc _
  refine ⟨⟨b1, fun k => k = y1.heap.size, (t1.fr fa (fun _ _ h => h)).base s1, ?_, fun k a b => ?_⟩, hr, hd, hD, hwf, by omega, c2.alloc (by omega) _⟩
  · refine ⟨fun k hk => ?_, rfl, none, 0, none, 0, fun k hk => by simp [Value.ownBlock] at hk, fun k hk => by simp [Value.ownBlock] at hk, fun k hk => by simp [Value.ownBlock] at hk, heap_alloc_new _ _, World.ownsRow_nil _ _ _ _, World.ownsRow_nil _ _ _ _⟩
    subst hk
    simp
    omega
  · subst b
    have := (t1.rng _ a).2
    omega

/-- What is left to be held against the document: the copy of the log, and the cells of the document's tape. -/
structure PE (w0 w : World) (lb p2 bb vb bc vc L u : Nat) (lg : List (Int × Int)) : Prop where
  lc : ∀ j, j < L → w.cell? ⟨lb, j * 2, none⟩ = some (.int .i64 (bd lg j)) ∧ w.cell? ⟨lb, j * 2 + 1, none⟩ = some (.int .i64 (vl lg j))
  c2 : w.cell? ⟨p2, 2, none⟩ = some (.slice (some ⟨bb, 0, none⟩) L bc)
  c3 : w.cell? ⟨p2, 3, none⟩ = some (.slice (some ⟨vb, 0, none⟩) L vc)
  rc : ∀ j, j < L → w.cell? ⟨bb, j, none⟩ = some (.int .i64 (bd lg j)) ∧ w.cell? ⟨vb, j, none⟩ = some (.int .i64 (vl lg j))
  bel : Below w0.heap.size w0 w
theorem PE.drewN {w0 w : World} {lb p2 bb vb bc vc L u : Nat} {lg : List (Int × Int)} (h : PE w0 w lb p2 bb vb bc vc L u lg) (n : Nat) : PE w0 (w.drewN n) lb p2 bb vb bc vc L u lg :=
  ⟨h.lc, h.c2, h.c3, h.rc, below_drewN h.bel n⟩

theorem get_fst (lg : List (Int × Int)) (j : Nat) (h : j < lg.length) : (lg.map (·.1)).getD j 0 = bd lg j := by simp [bd, h]
theorem get_snd (lg : List (Int × Int)) (j : Nat) (h : j < lg.length) : (lg.map (·.2)).getD j 0 = vl lg j := by simp [vl, h]

/-- The log is told: what the end needs. -/
theorem ps_log (w : World) {w0 : World} {p1 p2 : Nat} {ds : List Int} {la : Option Addr} {D Lc u : Nat} {lg : List (Int × Int)} (L : Nat) (h : PS w0 w p1 p2 ds la D Lc u lg u lg) (hL : lg.length = L) (hl : L ≤ 1000000) :
    Calls Try.prog 13 #[.pointer (some ⟨p1, 0, none⟩)] w fun e w' => e = .returned (.slice (some ⟨w.heap.size, 0, none⟩) L L) ∧ PS w0 w' p1 p2 ds la D Lc u lg u lg ∧
      (∃ ba bc, w'.cell? ⟨p2, 2, none⟩ = some (.slice ba L bc) ∧ w'.cell? ⟨p2, 1, none⟩ = some (.int .i64 u)) ∧ (0 < L → ∃ bb vb bc vc, PE w0 w' w.heap.size p2 bb vb bc vc L u lg) := by
  obtain ⟨b1, b2, t1, t2, hap⟩ := h.ex
  have hs : w0.heap.size ≤ w.heap.size := by have := t1.rng p1 t1.inp; omega
  subst hL
  refine (log_any w t1 hl).mono fun e w' ⟨he, hc, hf⟩ => ?_
  have hbel : Below w0.heap.size w0 w' := h.bel.trans (hf.below hs (fun _ h => h.elim))
  have t2' := t2.fr hf (fun _ _ h => h)
  obtain ⟨ba, bc, va, vc, h1, h2, h3, h4, h5, h6⟩ := t2'.ex
  simp only [List.length_map] at h1 h2 h3 h4 h5 h6
  obtain ⟨_, e1, e2, e3, _⟩ := four h4
  refine ⟨he, ⟨⟨b1, b2, t1.fr hf (fun _ _ h => h), t2', hap⟩, h.rd, h.len, h.le, h.wf, h.ule, hbel⟩, ⟨ba, bc, e2, e1⟩, fun hp => ?_⟩
  obtain ⟨bb, eb⟩ : ∃ bb, ba = some ⟨bb, 0, none⟩ := by
    rcases h5.2 with ⟨_, h⟩ | ⟨g, cap, cur, h, _⟩
    · omega
    · simp at h; exact ⟨g, h.1⟩
  obtain ⟨vb, ev⟩ : ∃ vb, va = some ⟨vb, 0, none⟩ := by
    rcases h6.2 with ⟨_, h⟩ | ⟨g, cap, cur, h, _⟩
    · omega
    · simp at h; exact ⟨g, h.1⟩
  subst eb
  subst ev
  refine ⟨bb, vb, bc, vc, fun j hj => ?_, e2, e3, fun j hj => ?_, hbel⟩
  · have := logCells_get lg j hj
    rw [cell_of_block hc, cell_of_block hc]
    simpa using this
  · rw [h5.cellAt j (by omega), h6.cellAt j (by omega), ← get_fst lg j hj, ← get_snd lg j hj]
    simp [hj]

theorem ps_used (w : World) {w0 : World} {p1 p2 : Nat} {ds : List Int} {la : Option Addr} {D Lc u u2 : Nat} {lg lg2 : List (Int × Int)} (h : PS w0 w p1 p2 ds la D Lc u lg u2 lg2) :
    Calls Try.prog 14 #[.pointer (some ⟨p1, 0, none⟩)] w fun e w' => e = .returned (.int .i64 u) ∧ w' = w := by
  obtain ⟨b1, b2, t1, t2, hap⟩ := h.ex
  exact used_any w t1
theorem ps_left (w : World) {w0 : World} {p1 p2 : Nat} {ds : List Int} {la : Option Addr} {D Lc u u2 : Nat} {lg lg2 : List (Int × Int)} (h : PS w0 w p1 p2 ds la D Lc u lg u2 lg2) :
    Calls Try.prog 15 #[.pointer (some ⟨p1, 0, none⟩)] w fun e w' => e = .returned (.int .i64 ((D : Int) - u)) ∧ ∃ n, w' = w.drewN n := by
  obtain ⟨b1, b2, t1, t2, hap⟩ := h.ex
  have := left_any w t1
  rw [h.len] at this
  exact this

end Go.Proofs.Yteefahkjdpaogab
