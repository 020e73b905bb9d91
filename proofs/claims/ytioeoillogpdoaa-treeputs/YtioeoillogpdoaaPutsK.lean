/-
  Whether a greater tree is fine: contracts over the program; the conditions: the argument is a tree of at most 15000 nodes that lies in memory.
-/
import Derived.Test.YtioeoillogpdoaaSizes
namespace Go.Proofs.Ytioeoillogpdoaa
open Go.RowKit
set_option linter.unusedVariables false

set_option maxHeartbeats 200000 in
theorem walk_big {S : Type} (st : S → El → S) (go : S → El → Bool) (Inv : Nat → S → World → Prop) (LIM K : Nat) (cp : Array Value) (W0 : World)
    (hent : ∀ args w, (callFunc K args).run Try.prog w = .ok (.enter K args) w)
    (hQ : ∀ n s w, Inv n s w → Q W0 w)
    (hcl : ∀ n s w b o v ka kc ks (d : Nat), n < LIM → Inv n s w → At W0 b o (cellsN v (.slice ka (Fo.len ks) kc)) → v.ok → sok ka ks.len kc → In W0 ka ks → 1 ≤ d → d ≤ 16000 →
      Calls Try.prog K (#[.pointer (some ⟨b, o, none⟩), .int .i64 d] ++ cp) w fun e w' => e = .returned (.bool (go s ⟨some ⟨b, o, none⟩, v, ka, kc, ks, d⟩)) ∧ Inv (n + 1) (st s ⟨some ⟨b, o, none⟩, v, ka, kc, ks, d⟩) w') (N : Nat) :
    ∀ (f : Fo), f.size < N → ∀ (v : NF) (a : Option Addr) (c b o d n : Nat) (s : S) (w : World), At W0 b o (cellsN v (.slice a f.len c)) → v.ok → In W0 a f → sok a f.len c → Inv n s w → n + f.size + 1 ≤ LIM → 1 ≤ d → d + f.size ≤ 16000 →
    Calls Try.prog 29 #[.pointer (some ⟨b, o, none⟩), .int .i64 d, .func (.func K) #[] cp] w fun e w' => ∃ n', n' ≤ n + f.size + 1 ∧
      e = .returned (.bool (wkF st go (some ⟨b, o, none⟩) (.cons v a c f .nil) d s).2) ∧ Inv n' (wkF st go (some ⟨b, o, none⟩) (.cons v a c f .nil) d s).1 w' := by
  induction N with
  | zero => intro f h; omega
  | succ N ih =>
    intro f hf v a c b o d n s w hat hv hin hs hI hn hd1 hd2
    have HAT := hideIt hat
    have HIN := hideIt hin
    have HI := hideIt hI
    have hlen : f.len ≤ 9223372036854775807 := by have := hs.1; have := hs.2.1; unfold maxLen at this; omega
    have HC := hideIt (hcl n s w b o v a c f d (by omega) hI hat hv hs hin hd1 (by omega))
    have HW : Hid (wkF st go (some ⟨b, o, none⟩) (.cons v a c f .nil) d s = if go s ⟨some ⟨b, o, none⟩, v, a, c, f, d⟩ then wkF st go a f (d + 1) (st s ⟨some ⟨b, o, none⟩, v, a, c, f, d⟩) else (st s ⟨some ⟨b, o, none⟩, v, a, c, f, d⟩, false)) := by
      show _ = _
      simp only [wkF]
      split
      · split
        · rename_i h
          exact Prod.ext rfl h.symm
        · rename_i h
          simp at h
          exact Prod.ext rfl h.symm
      · rfl
    obtain ⟨g0, hg0⟩ : ∃ g0, go s ⟨some ⟨b, o, none⟩, v, a, c, f, d⟩ = g0 := ⟨_, rfl⟩
    obtain ⟨s1, hs1⟩ : ∃ s1, st s ⟨some ⟨b, o, none⟩, v, a, c, f, d⟩ = s1 := ⟨_, rfl⟩
    rw [hg0, hs1] at HW HC
    have HCL := hideIt hcl
    have HQQ := hideIt hQ
    have HIH := hideIt ih
    clear hat hin hI hs hg0 hs1 hcl hQ ih
    cases g0 with
    | false =>
      go_enter Try.func29, Try.ntmps29
      go_wp2_with (go_at_fn K; refine HC.out.mono ?_; rintro e x ⟨rfl, q1⟩)
      go_ret
      rw [HW.out]
      exact ⟨n + 1, by omega, rfl, q1⟩
    | true =>
      have h9 : ∀ w', Q W0 w' → w'.cell? ⟨b, o + 9, none⟩ = some (.slice a f.len c) := fun w' hq => (HAT.out.keep (Nat.le_refl _) hq).cell 9 _ rfl
      have H9 := hideIt h9
      clear h9
      rw [HW.out, if_pos rfl]
      obtain ⟨T, hT⟩ : ∃ T, wkF st go a f (d + 1) s1 = T := ⟨_, rfl⟩
      rw [hT]
      have HT := hideIt hT
      clear hT HW
      go_enter Try.func29, Try.ntmps29
      go_wp2_with (go_at_fn K; refine HC.out.mono ?_; rintro e x ⟨rfl, q1⟩; have hc9 := H9.out _ (HQQ.out _ _ _ q1); have HJ := hideIt q1; clear q1)
      clear HC HI
      go_loopw [18] (fun i wr => ∃ (k n' : Nat) (si : S), i = .int .i64 k ∧ k ≤ f.len ∧ wkF st go (a.map fun p => ⟨p.block, p.off + k * 10, none⟩) (f.drop k) (d + 1) si = T ∧ Inv n' si wr ∧ n' + (f.drop k).size ≤ n + 1 + f.size) (fun i _ => f.len - (intOf i).toNat)
      case atStart =>
        refine ⟨0, n + 1, s1, rfl, by omega, ?_, HJ.out, by simp [Fo.drop]⟩
        have h5 := HT.out
        cases f with
        | nil => simpa [Fo.drop, wkF] using h5
        | cons =>
          obtain ⟨b', o', rfl, _⟩ := HIN.out
          simpa [Fo.drop] using h5
      case round =>
        obtain ⟨k, n', si, rfl, hk, hw, hI', hn'⟩ := hrel
        have hc9 := H9.out _ (HQQ.out _ _ _ hI')
        have HW := hideIt hw
        have HI := hideIt hI'
        clear hw hI' HJ
        by_cases hlt : k < f.len
        · obtain ⟨b', o', v', ka, kc, ks, rfl, e, hat, hv', hs', hin'⟩ := HIN.out.elem k hlt
          have hkl : (k : Int) < (f.len : Int) := by omega
          have hsz : (f.drop k).size = ks.size + 1 + (f.drop (k + 1)).size := by rw [e]; rfl
          have hle := f.size_drop k
          have hx := HW.out
          rw [e, wkF_cons] at hx
          have HC := hideIt (HIH.out ks (by omega) v' ka kc b' (o' + k * 10) (d + 1) n' si wr hat hv' hin' hs' HI.out (by omega) (by omega) (by omega))
          obtain ⟨g1, hg1⟩ : ∃ g1, (wkF st go (some ⟨b', o' + k * 10, none⟩) (.cons v' ka kc ks .nil) (d + 1) si).2 = g1 := ⟨_, rfl⟩
          obtain ⟨s2, hs2⟩ : ∃ s2, (wkF st go (some ⟨b', o' + k * 10, none⟩) (.cons v' ka kc ks .nil) (d + 1) si).1 = s2 := ⟨_, rfl⟩
          simp only [Option.map_some] at hx
          rw [hg1, hs2] at hx HC
          have ed : ((d + 1 : Nat) : Int) = (d : Int) + 1 := by omega
          rw [ed] at HC
          have HX := hideIt hx
          clear e hat hv' hs' hin' hx hg1 hs2 ed HW
          cases g1 with
          | false =>
            go_wp2_with (go_at_call 29; refine HC.out.mono ?_; rintro e x ⟨n2, h2, rfl, q1⟩)
            go_ret
            have h5 := HX.out
            simp at h5
            rw [← h5]
            exact ⟨n2, by omega, rfl, q1⟩
          | true =>
            go_wp2_with (go_at_call 29; refine HC.out.mono ?_; rintro e x ⟨n2, h2, rfl, q1⟩; have hc9' := H9.out _ (HQQ.out _ _ _ q1); have HJ := hideIt q1; clear q1)
            go_roundw
            case rel =>
              refine ⟨k + 1, n2, s2, by go_num, by omega, ?_, HJ.out, by omega⟩
              have h5 := HX.out
              simp only [if_true] at h5
              rw [← h5]
              simp only [Option.map_some, next10]
              rw [show o' + (k + 1) * 10 = o' + k * 10 + 10 by omega]
            case measure => simp [intOf]; omega
        · have ek : k = f.len := by omega
          go_wp2_with (fail)
          go_ret
          have h5 := HW.out
          rw [ek, Fo.drop_all] at h5
          simp only [wkF] at h5
          rw [← h5]
          exact ⟨n', by omega, rfl, HI.out⟩
theorem fine_big (f : Fo) (v : NF) (a : Option Addr) (c : Nat) (w : World) (hv : v.ok) (hin : In w a f) (hs : sok a f.len c) (hz : f.size ≤ 15000) :
    Calls Try.prog 14 #[nodeV v (.slice a f.len c)] w fun e w' => e = .returned (.bool f.fine) ∧ Q w w' := by
  have HC := hideIt (walk_big (fun s _ => s + 1) (fun s e => decide (s + 1 ≤ 4000) && decide (e.d ≤ 40)) (fun n s W => CI (boxed w v (.slice a f.len c)) (w.heap.size + 1) s W ∧ s = n) 16000 33 #[.pointer (some ⟨w.heap.size + 1, 0, none⟩)] (boxed w v (.slice a f.len c)) ent33 (fun n s W h => h.1.q)
    (fun n s W b o v' ka kc ks d hn h _ _ _ _ _ hd => (cl33 _ _ s W _ d h.1 (by omega) (by omega)).mono fun e w' ⟨q1, q2⟩ => ⟨q1, q2, by omega⟩) (f.size + 1) f (by omega) v a c w.heap.size 0 1 0 0 _ (at_boxed w v _) hv (hin.keep (Nat.le_refl _) (boxed_q _ _ _)) hs ⟨CI.start w v _, rfl⟩ (by omega) (by omega) (by omega))
  have hm := (wkFine (.cons v a c f .nil) (some ⟨w.heap.size, 0, none⟩) 1 0 (by omega) (by omega) (by omega)).1
  have em : (wkF (fun s (_ : El) => s + 1) (fun s e => decide (s + 1 ≤ 4000) && decide (e.d ≤ 40)) (some ⟨w.heap.size, 0, none⟩) (.cons v a c f .nil) 1 0).2 = f.fine := by
    rw [Bool.eq_iff_iff, hm]
    unfold Fo.fine
    simp only [Fo.size, Fo.depth, Bool.and_eq_true, decide_eq_true_eq]
    omega
  rw [em] at HC
  clear hm em hin hs
  generalize f.fine = bb at HC ⊢
  go_enter Try.func14, Try.ntmps14
  go_wp2_with (go_at_call 29; refine HC.out.mono ?_; rintro e x ⟨n', h1, rfl, h2, h3⟩; have HH := hideIt h2; clear h2 h1 h3)
  go_ret
  exact ⟨rfl, (boxed_q _ _ _).trans HH.out.q⟩

end Go.Proofs.Ytioeoillogpdoaa
