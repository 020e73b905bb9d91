/-
  What the document's put makes of a tree: a contract over the program; the conditions: the tree and the list lie in memory, the tree has at most 4000 nodes below its root and the list at most 7000.
-/
import Derived.Test.YtioeoillogpdoaaPutsN
import Derived.Deep.RegionWith
import Derived.Deep.RegionLaw
namespace Go.Proofs.Ytioeoillogpdoaa
open Go.RowKit
set_option linter.unusedVariables false

theorem PI.start {w : World} {v : NF} {s : Value} {W0 : Nat} {F f : Fo} {d : Int} : PI w v s W0 F f d 0 .nil (.slice none 0 0) (boxed (boxed2 w v s (nf 0 0) (.slice none 0 0)) v (.slice none 0 0)) where
  hi := Nat.zero_le _
  pre := ⟨.nil, trivial, by simp [Fo.take, Fo.drop, Fo.size, Fo.app]⟩
  q := boxed_q _ _ _
  out := by
    have h := heap_alloc_new (boxed2 w v s (nf 0 0) (.slice none 0 0)) (.cells (cellsN v (.slice none 0 0)).toArray 26)
    have e : (boxed2 w v s (nf 0 0) (.slice none 0 0)).heap.size = w.heap.size + 1 + 1 := by simp
    rw [e] at h
    exact h
  own := ⟨rfl, Or.inl ⟨rfl, rfl⟩⟩
  ki := trivial
  av := trivial
theorem PI.kids {w : World} {v : NF} {s : Value} {W0 : Nat} {F f : Fo} {d : Int} {i : Nat} {G : Fo} {u : Value} {wr : World} (h : PI w v s W0 F f d i G u wr) : wr.cell? ⟨w.heap.size + 1 + 1, 9, none⟩ = some u ∧ wr.frozen? ⟨w.heap.size + 1 + 1, 9, none⟩ = false :=
  ⟨by simp [World.cell?, h.out, cellsN], by simp [World.frozen?, h.out]⟩

theorem PI.cells {w : World} {v : NF} {s : Value} {W0 : Nat} {F f : Fo} {d : Int} {i : Nat} {G : Fo} {u : Value} {wr : World} (h : PI w v s W0 F f d i G u wr) (j : Nat) (x : Value) (e : (cellsN v u)[j]? = some x) : wr.cell? ⟨w.heap.size + 1 + 1, j, none⟩ = some x := by
  rw [cell_of_block h.out]
  simpa using e
theorem PI.fin {w : World} {v : NF} {s : Value} {W0 : Nat} {F f : Fo} {d : Int} {i : Nat} {G : Fo} {u : Value} {wr : World} (h : PI w v s W0 F f d i G u wr) (hi : ¬i < f.len) :
    ∃ a' c', u = .slice a' G.len c' ∧ sok a' G.len c' ∧ In wr a' G ∧ Av (fun b => b < W0 ∨ w.heap.size + 1 + 1 + 1 ≤ b) a' G ∧ Cp (putS F d f) G := by
  obtain ⟨a', c', e, p2, p3, p4⟩ := own_form h.own h.ki
  refine ⟨a', c', e, p2, p3, p4 _ (fun b hb => Or.inr hb) (h.av.mono (fun b hb => hb.1)), ?_⟩
  obtain ⟨P, q1, q2⟩ := h.pre
  have hie : i = f.len := by have := h.hi; omega
  rw [hie, Fo.drop_all] at q2
  simp only [putS, app_nil] at q2
  rw [q2]
  exact q1

/-- A round in which nothing is appended. -/
theorem PI.next {w : World} {v : NF} {s : Value} {W0 : Nat} {F f : Fo} {d : Int} {i : Nat} {G : Fo} {u : Value} {wr : World} (h : PI w v s W0 F f d i G u wr) (hi' : i + 1 ≤ f.len)
    (pre' : ∃ P, Cp P (G.app .nil) ∧ putS F d f = P.app (putS F (d - ((f.take (i + 1)).size : Int)) (f.drop (i + 1)))) : PI w v s W0 F f d (i + 1) G u wr :=
  ⟨hi', by rw [app_nil] at pre'; exact pre', h.q, h.out, h.own, h.ki, h.av⟩
theorem PI.same {w : World} {v : NF} {s : Value} {W0 : Nat} {F f : Fo} {d : Int} {i : Nat} {G : Fo} {u : Value} {wr : World} (h : PI w v s W0 F f d i G u wr) : wr.setCell ⟨w.heap.size + 1 + 1, 9, none⟩ u = wr :=
  setCell_same h.out rfl

set_option maxRecDepth 100000 in
set_option maxHeartbeats 4000000 in
theorem rputi_step (F : Fo) (la : Option Addr) (lc : Nat) (id : Int) (W0 : Nat) (hid : -9223372036854775808 ≤ id ∧ id ≤ 9223372036854775807) (hFl : F.len ≤ 7000) (f : Fo)
    (ih : ∀ ks : Fo, ks.size < f.size → ∀ (v : NF) (a : Option Addr) (c : Nat) (t : Int) (w : World), In w a ks → sok a ks.len c → In w la F → sok la F.len lc → W0 ≤ w.heap.size → Av (fun b => b < W0) la F → 0 ≤ t → t + ks.size ≤ 20000 → ks.size ≤ 4000 →
      Calls Try.prog 44 #[nodeV v (.slice a ks.len c), .int .i64 t, .int .i64 id, .slice la F.len lc] w (Rpl w W0 v (putS F (id - t - 1) ks)))
    (v : NF) (a : Option Addr) (c : Nat) (t : Int) (w : World) (hin : In w a f) (hs : sok a f.len c) (hinF : In w la F) (hsF : sok la F.len lc) (hW : W0 ≤ w.heap.size) (havF : Av (fun b => b < W0) la F) (t0 : 0 ≤ t) (t1 : t + f.size ≤ 20000) (hf : f.size ≤ 4000) :
    Calls Try.prog 44 #[nodeV v (.slice a f.len c), .int .i64 t, .int .i64 id, .slice la F.len lc] w (Rpl w W0 v (putS F (id - t - 1) f)) := by
  obtain ⟨hid1, hid2⟩ := hid
  have hlen : f.len ≤ 9223372036854775807 := by have := hs.1; have := hs.2.1; unfold maxLen at this; omega
  have HIN := hideIt hin
  have HS := hideIt hs
  have HIF := hideIt hinF
  have HSF := hideIt hsF
  have HAF := hideIt havF
  have IH := hideIt ih
  clear hin hs hinF hsF havF ih
  go_enter Try.func44, Try.ntmps44
  go_wp2_with (fail)
  go_loopw [10, 11] (fun k o wr => ∃ (i : Nat) (G : Fo) (u : Value), o = .int .i64 i ∧ k = .int .i64 (t + 1 + ((f.take i).size : Int)) ∧ PI w v (.slice a f.len c) W0 F f (id - t - 1) i G u wr) (fun _ o _ => f.len - (intOf o).toNat)
  case atStart => exact ⟨0, .nil, .slice none 0 0, rfl, by simp [Fo.take, Fo.size], PI.start⟩
  case round =>
    obtain ⟨i, G, u, rfl, rfl, h⟩ := hrel
    have HP := hideIt h
    have x9 := boxed2_a h.q 9 _ rfl
    obtain ⟨y9, f9⟩ := h.kids
    have QW := hideIt ((boxed2_q _ _ _ _ _).trans h.q)
    clear h
    by_cases hlt : i < f.len
    · obtain ⟨b, o, v', ka, kc, ks, rfl, e, hat, hv', hs', hin'⟩ := HIN.out.elem i hlt
      have HAT := hideIt hat
      obtain ⟨c0, c1, c2, c3, c4, c5, c6, c7, c8, c9⟩ := (hat.keep (Nat.le_refl _) QW.out).ten
      have hil : (i : Int) < (f.len : Int) := by omega
      have hks : ks.size + 1 ≤ f.size := by
        have h1 := f.size_drop i
        rw [e] at h1
        simp only [Fo.size] at h1
        omega
      obtain ⟨P, hP1, hP2⟩ := HP.out.pre
      obtain ⟨st0, st1, st2⟩ := put_step F f (id - t - 1) i v' ka kc ks e hP2
      have hsm : Hid (((min (ks.size + 1) 4001 : Nat) : Int) = (ks.size : Int) + 1) := by show _ = _; omega
      have SZ := hideIt (fun (x : World) (hx : Q w x) => rsize_any (ks.size + 1) ks (by omega) v' ka kc x (hin'.keep (Nat.le_refl _) hx) hs')
      have hts : ((f.take i).size : Int) + ks.size + 1 ≤ f.size := by
        have h2 := size_take_drop f (i + 1)
        omega
      have HST := hideIt st0
      have HI1 := hideIt (show i + 1 ≤ f.len by omega)
      obtain ⟨i0, hi0, hz0, hz1, hz2⟩ := info_parts Try.info26
      have hbd := HP.out.bound
      have hfl : f.len ≤ 4000 := by have := Fo.len_le_size f; omega
      have HB3 := hideIt (show w.heap.size + 1 + 1 + 1 ≤ wr.heap.size from HP.out.lt)
      have HLT := hideIt HP.out.lt
      have HN9 : Hid (some (w.heap.size + 1 + 1) ≠ u.ownBlock) := fun e => by have := (HP.out.own.lt _ e.symm).1; omega
      have hge : 0 ≤ ((f.take i).size : Int) := by omega
      clear hat st0
      generalize hT : ((f.take i).size : Int) = T at *
      have HT := hideIt hT
      clear hT
      by_cases hk : t + 1 + T = id
      · have d1 : (t + 1 + T == id) = true := by simpa using hk
        have HPRE : Hid (∃ P, Cp P (G.app F) ∧ putS F (id - t - 1) f = P.app (putS F (id - t - 1 - ((f.take (i + 1)).size : Int)) (f.drop (i + 1)))) := ⟨P.app F, hP1.app (Cp.refl _), st1 (by omega)⟩
        have HKF := hideIt (show KI wr F from HIF.out.kids.keep QW.out)
        have HKA : Hid (KAv (fun b => (b < W0 ∨ w.heap.size + 1 + 1 + 1 ≤ b) ∧ u.ownBlock ≠ some b) F) := HAF.out.kids.mono (fun b hb => ⟨Or.inl hb, fun e => by have := (HP.out.own.lt _ e).1; omega⟩)
        clear hP1 hP2 st1 st2 hk e
        by_cases hm : 0 < F.len
        · obtain ⟨ad, rfl⟩ : ∃ ad, la = some ad := by
            cases la with
            | none => have := HSF.out.2.2 rfl; have := HSF.out.1; omega
            | some ad => exact ⟨ad, rfl⟩
          have HB1 := hideIt (show G.len + F.len ≤ maxLen by unfold maxLen; omega)
          have HB2 := hideIt (show (G.len + F.len) * 96 ≤ 140737488355328 by omega)
          go_wp2_with (first | (at_builtin; refine wpList_append_lies _ rfl (.tmp 27) (.tmp 28) 24 rfl (w.heap.size + 1 + 1 + 1) 26 i0 (.agg #[.int .u8 0, .int .u8 0, .int .u8 0, .int .u8 0, .int .i64 0, .int .i64 0, .int .i64 0, .string ⟨#[]⟩, .string ⟨#[]⟩, .slice none 0 0]) 10 96 Try.underlying24 hi0 hz0 hz1 hz2 rfl (by decide) u G.len (cellsF G) rfl HP.out.own ad F.len lc (cellsF F) rfl (cellsF_len F) (src_of (HIF.out.keep (Nat.le_refl _) QW.out) ad rfl) (cellsF_one F) hm HB1.out HB2.out HB3.out _ rfl ?_; intro g cap w1 r1 r2 r3 r4; have z9 := r2.cell y9 HN9.out; have zf := (r2.frozen_far ⟨w.heap.size + 1 + 1, 9, none⟩ HLT.out HN9.out).trans f9; have PI2 := hideIt (HP.out.app HI1.out F hW HKF.out HKA.out r1 r2 r3 HPRE.out); clear r1 r2 r3 r4 y9 f9 x9; have QW2 := hideIt (show Q w (w1.setCell ⟨w.heap.size + 1 + 1, 9, none⟩ (.slice (some ⟨g, 0, none⟩) (G.len + F.len) cap)) from (boxed2_q _ _ _ _ _).trans PI2.out.q); have n9 : (w1.setCell ⟨w.heap.size + 1 + 1, 9, none⟩ (.slice (some ⟨g, 0, none⟩) (G.len + F.len) cap)).cell? ⟨w.heap.size, 9, none⟩ = some (.slice (some ⟨b, o, none⟩) f.len c) := boxed2_a PI2.out.q 9 _ rfl; obtain ⟨e0, e1, e2, e3, e4, e5, e6, e7, e8, e9⟩ := (HAT.out.keep (Nat.le_refl _) QW2.out).ten; clear c0 c1 c2 c3 c4 c5 c6 c7 c8 c9) | (go_at_call 11; refine (SZ.out _ QW2.out).mono ?_; rw [hsm.out]; rintro e z ⟨rfl, qz⟩; have PZ := hideIt (PI2.out.keep qz); clear qz) | fail)
          go_roundw
          case rel => exact ⟨i + 1, G.app F, _, by go_num, by rw [HST.out]; go_num, PZ.out⟩
          case measure => simp [intOf]; omega
        · have hF0 : F = .nil := by
            cases F with
            | nil => rfl
            | cons => simp [Fo.len] at hm
          subst hF0
          clear hm HKF HKA
          cases la with
          | none =>
            obtain rfl : lc = 0 := HSF.out.2.2 rfl
            rcases HP.out.own.2 with ⟨hu, hG0⟩ | ⟨g, cap, cur, hu, hg1, hg2, hg3, hg4, hg5, hg6⟩
            · subst hu
              clear hG0
              have hset := HP.out.same
              have PI2 := hideIt (HP.out.next HI1.out HPRE.out)
              have QW2 := hideIt QW.out
              go_wp2_with (first | (at_builtin; refine wpList_append_own_none rfl (.tmp 27) (.tmp 28) 24 rfl (w.heap.size + 1 + 1 + 1) 26 i0 10 Try.underlying24 hi0 _ G.len (cellsF G) rfl HP.out.own rfl ?_) | (go_at_call 11; refine (SZ.out _ QW2.out).mono ?_; rw [hsm.out]; rintro e z ⟨rfl, qz⟩; have PZ := hideIt (PI2.out.keep qz); clear qz) | fail)
              go_roundw
              case rel => exact ⟨i + 1, G, _, by go_num, by rw [HST.out]; go_num, PZ.out⟩
              case measure => simp [intOf]; omega
            · subst hu
              clear hg1 hg2 hg3 hg4 hg5 hg6 cur
              have hset := HP.out.same
              have PI2 := hideIt (HP.out.next HI1.out HPRE.out)
              have QW2 := hideIt QW.out
              go_wp2_with (first | (at_builtin; refine wpList_append_own_none rfl (.tmp 27) (.tmp 28) 24 rfl (w.heap.size + 1 + 1 + 1) 26 i0 10 Try.underlying24 hi0 _ G.len (cellsF G) rfl HP.out.own rfl ?_) | (go_at_call 11; refine (SZ.out _ QW2.out).mono ?_; rw [hsm.out]; rintro e z ⟨rfl, qz⟩; have PZ := hideIt (PI2.out.keep qz); clear qz) | fail)
              go_roundw
              case rel => exact ⟨i + 1, G, _, by go_num, by rw [HST.out]; go_num, PZ.out⟩
              case measure => simp [intOf]; omega
          | some ad =>
            rcases HP.out.own.2 with ⟨hu, hG0⟩ | ⟨g, cap, cur, hu, hg1, hg2, hg3, hg4, hg5, hg6⟩
            · subst hu
              clear hG0
              go_wp2_with (first | (at_builtin; refine wpList_append_own _ rfl (.tmp 27) (.tmp 28) 24 rfl (w.heap.size + 1 + 1 + 1) 26 i0 (.agg #[.int .u8 0, .int .u8 0, .int .u8 0, .int .u8 0, .int .i64 0, .int .i64 0, .int .i64 0, .string ⟨#[]⟩, .string ⟨#[]⟩, .slice none 0 0]) 10 96 Try.underlying24 hi0 hz0 hz1 hz2 rfl (by decide) (.slice none 0 0) G.len (cellsF G) rfl HP.out.own ad 0 lc [] rfl rfl (fun j x h => by simp at h) (fun x h => by cases h) (by unfold maxLen; omega) (by omega) HB3.out ?_; intro v2 w1 r1 r2 r3; obtain rfl := r3.2 ⟨rfl, rfl⟩; have P1 := hideIt (HP.out.keep (Below.grown (Below.refl _ _) r2 (Nat.le_refl _) (fun k hk => by cases hk))); clear r1 r2 r3 y9 f9 x9; obtain ⟨z9, zf⟩ := P1.out.kids; have hset := P1.out.same; have PI2 := hideIt (P1.out.next HI1.out HPRE.out); have QW2 := hideIt (show Q w w1 from (boxed2_q _ _ _ _ _).trans PI2.out.q); have n9 : w1.cell? ⟨w.heap.size, 9, none⟩ = some (.slice (some ⟨b, o, none⟩) f.len c) := boxed2_a PI2.out.q 9 _ rfl; obtain ⟨e0, e1, e2, e3, e4, e5, e6, e7, e8, e9⟩ := (HAT.out.keep (Nat.le_refl _) QW2.out).ten; clear c0 c1 c2 c3 c4 c5 c6 c7 c8 c9) | (go_at_call 11; refine (SZ.out _ QW2.out).mono ?_; rw [hsm.out]; rintro e z ⟨rfl, qz⟩; have PZ := hideIt (PI2.out.keep qz); clear qz) | fail)
              go_roundw
              case rel => exact ⟨i + 1, G, _, by go_num, by rw [HST.out]; go_num, PZ.out⟩
              case measure => simp [intOf]; omega
            · subst hu
              clear hg1 hg2 hg5 hg6 cur
              go_wp2_with (first | (at_builtin; refine wpList_append_fits _ rfl (.tmp 27) (.tmp 28) 24 rfl (w.heap.size + 1 + 1 + 1) 26 i0 10 Try.underlying24 hi0 hz1 g G.len cap (cellsF G) rfl HP.out.own ad 0 lc [] rfl rfl (fun j x h => by simp at h) (fun x h => by cases h) hg3 ?_; intro w1 r1 r2; have z9 := r2.cell y9 HN9.out; have zf := (r2.frozen_far ⟨w.heap.size + 1 + 1, 9, none⟩ HLT.out HN9.out).trans f9; have PI2 : Hid (PI w v (.slice (some ⟨b, o, none⟩) f.len c) W0 .nil f (id - t - 1) (i + 1) (G.app .nil) (.slice (some ⟨g, 0, none⟩) G.len cap) (w1.setCell ⟨w.heap.size + 1 + 1, 9, none⟩ (.slice (some ⟨g, 0, none⟩) G.len cap))) := HP.out.app HI1.out .nil hW trivial trivial r1 r2 (Or.inl rfl) HPRE.out; clear r1 r2 y9 f9 x9; have QW2 := hideIt (show Q w (w1.setCell ⟨w.heap.size + 1 + 1, 9, none⟩ (.slice (some ⟨g, 0, none⟩) G.len cap)) from (boxed2_q _ _ _ _ _).trans PI2.out.q); have n9 : (w1.setCell ⟨w.heap.size + 1 + 1, 9, none⟩ (.slice (some ⟨g, 0, none⟩) G.len cap)).cell? ⟨w.heap.size, 9, none⟩ = some (.slice (some ⟨b, o, none⟩) f.len c) := boxed2_a PI2.out.q 9 _ rfl; obtain ⟨e0, e1, e2, e3, e4, e5, e6, e7, e8, e9⟩ := (HAT.out.keep (Nat.le_refl _) QW2.out).ten; clear c0 c1 c2 c3 c4 c5 c6 c7 c8 c9) | (go_at_call 11; refine (SZ.out _ QW2.out).mono ?_; rw [hsm.out]; rintro e z ⟨rfl, qz⟩; have PZ := hideIt (PI2.out.keep qz); clear qz) | fail)
              go_roundw
              case rel => exact ⟨i + 1, G.app .nil, _, by go_num, by rw [HST.out]; go_num, PZ.out⟩
              case measure => simp [intOf]; omega
      · have d1 : (t + 1 + T == id) = false := by simpa using hk
        have RC := hideIt (fun (x : World) (hx : Q w x) => IH.out ks (by omega) v' ka kc (t + 1 + T) x (hin'.keep (Nat.le_refl _) hx) hs' (HIF.out.keep (Nat.le_refl _) hx) HSF.out (Nat.le_trans hW hx.size) HAF.out (by omega) (by omega) (by omega))
        have qd : Q wr wr.drew := q_drew (Below.refl _ _)
        have HPd := hideIt (HP.out.keep qd)
        have QWd := hideIt (QW.out.trans qd)
        have hF : Hid (∀ y, Q (boxed2 w v (.slice (some ⟨b, o, none⟩) f.len c) (nf 0 0) (.slice none 0 0)) y → (fun y : World => y.cell? ⟨w.heap.size, 9, none⟩ = some (.slice (some ⟨b, o, none⟩) f.len c) ∧ y.cell? ⟨b, o + i * 10, none⟩ = some (.int .u8 v'.k) ∧ y.cell? ⟨b, o + i * 10 + 1, none⟩ = some (.int .u8 v'.op) ∧ y.cell? ⟨b, o + i * 10 + 2, none⟩ = some (.int .u8 v'.tk) ∧ y.cell? ⟨b, o + i * 10 + 3, none⟩ = some (.int .u8 v'.ti) ∧ y.cell? ⟨b, o + i * 10 + 4, none⟩ = some (.int .i64 v'.tn) ∧ y.cell? ⟨b, o + i * 10 + 5, none⟩ = some (.int .i64 v'.n) ∧ y.cell? ⟨b, o + i * 10 + 6, none⟩ = some (.int .i64 v'.m) ∧ y.cell? ⟨b, o + i * 10 + 7, none⟩ = some (.string v'.nm) ∧ y.cell? ⟨b, o + i * 10 + 8, none⟩ = some (.string v'.fd) ∧ y.cell? ⟨b, o + i * 10 + 9, none⟩ = some (.slice ka ks.len kc)) y) := fun y h => ⟨boxed2_a h 9 _ rfl, (HAT.out.keep (Nat.le_refl _) ((boxed2_q _ _ _ _ _).trans h)).ten⟩
        have HB1 := hideIt (show G.len + 1 ≤ maxLen by unfold maxLen; omega)
        have HB2 := hideIt (show (G.len + 1) * 96 ≤ 140737488355328 by omega)
        have HQG : Hid (∀ k, u.ownBlock = some k → (boxed2 w v (.slice (some ⟨b, o, none⟩) f.len c) (nf 0 0) (.slice none 0 0)).heap.size ≤ k) := fun k hk => by have := (HP.out.own.lt k hk).1; simp; omega
        have STEP : Hid (∀ (z : World) (a2 : Option Addr) (c2 : Nat) (G2 : Fo), PI w v (.slice (some ⟨b, o, none⟩) f.len c) W0 F f (id - t - 1) i G u z → (Cp (putS F (id - (t + 1 + T) - 1) ks) G2 ∧ sok a2 G2.len c2 ∧ In z a2 G2 ∧ Av (fun b => b < W0 ∨ wr.drew.heap.size ≤ b) a2 G2 ∧ Q wr.drew z) →
            PI w v (.slice (some ⟨b, o, none⟩) f.len c) W0 F f (id - t - 1) i G u (z.alloc (.cells (cellsN v' (.slice a2 G2.len c2)).toArray 26)) ∧ (∀ j x, (cellsF (Fo.cons v' a2 c2 G2 .nil))[j]? = some x → (z.alloc (.cells (cellsN v' (.slice a2 G2.len c2)).toArray 26)).cell? ((⟨z.heap.size, 0, none⟩ : Addr).add j) = some x) ∧ KI (z.alloc (.cells (cellsN v' (.slice a2 G2.len c2)).toArray 26)) (Fo.cons v' a2 c2 G2 .nil) ∧
            KAv (fun b => (b < W0 ∨ w.heap.size + 1 + 1 + 1 ≤ b) ∧ u.ownBlock ≠ some b) (Fo.cons v' a2 c2 G2 .nil) ∧ (∃ P, Cp P (G.app (Fo.cons v' a2 c2 G2 .nil)) ∧ putS F (id - t - 1) f = P.app (putS F (id - t - 1 - ((f.take (i + 1)).size : Int)) (f.drop (i + 1))))) := by
          intro z a2 c2 G2 hz ⟨p1, p2, p3, p4, p5⟩
          have qa : Q z (z.alloc (.cells (cellsN v' (.slice a2 G2.len c2)).toArray 26)) := (Below.refl _ _).alloc (Nat.le_refl _) _
          have hl := HLT.out
          have hw : wr.drew.heap.size = wr.heap.size := rfl
          refine ⟨hz.keep qa, fun j x hx => ?_, ⟨hv', p2, p3.keep (Nat.le_refl _) qa, trivial⟩, ⟨p4.mono (fun b hb => ⟨by omega, fun e => ?_⟩), trivial⟩, P.app (.cons v' ka kc (putS F (id - t - 1 - T - 1) ks) .nil), hP1.app ⟨rfl, ?_, trivial⟩, st2 (by omega)⟩
          · have hb := heap_alloc_new z (.cells (cellsN v' (.slice a2 G2.len c2)).toArray 26)
            rw [show (⟨z.heap.size, 0, none⟩ : Addr).add j = ⟨z.heap.size, j, none⟩ by (simp [Addr.add]; omega), cell_of_block hb]
            simpa [cellsF] using hx
          · have := HP.out.own.lt _ e
            omega
          · rw [show id - t - 1 - T - 1 = id - (t + 1 + T) - 1 by omega]
            exact p1
        clear hP1 hP2 st1 st2 hk e hin' hs' hv'
        have c2' := c2
        clear c2
        go_wp2_with (fail)
        refine wp_region_held_drew (S := (fun y : World => Q (boxed2 w v (.slice (some ⟨b, o, none⟩) f.len c) (nf 0 0) (.slice none 0 0)) y ∧ y.cell? ⟨w.heap.size, 9, none⟩ = some (.slice (some ⟨b, o, none⟩) f.len c) ∧ y.cell? ⟨b, o + i * 10, none⟩ = some (.int .u8 v'.k) ∧ y.cell? ⟨b, o + i * 10 + 1, none⟩ = some (.int .u8 v'.op) ∧ y.cell? ⟨b, o + i * 10 + 2, none⟩ = some (.int .u8 v'.tk) ∧ y.cell? ⟨b, o + i * 10 + 3, none⟩ = some (.int .u8 v'.ti) ∧ y.cell? ⟨b, o + i * 10 + 4, none⟩ = some (.int .i64 v'.tn) ∧ y.cell? ⟨b, o + i * 10 + 5, none⟩ = some (.int .i64 v'.n) ∧ y.cell? ⟨b, o + i * 10 + 6, none⟩ = some (.int .i64 v'.m) ∧ y.cell? ⟨b, o + i * 10 + 7, none⟩ = some (.string v'.nm) ∧ y.cell? ⟨b, o + i * 10 + 8, none⟩ = some (.string v'.fd) ∧ y.cell? ⟨b, o + i * 10 + 9, none⟩ = some (.slice ka ks.len kc))) (by kernel_rfl) (⟨HPd.out.q, hF.out _ HPd.out.q⟩) (fun hHeld => ?_)
        refine wpAnyH_take (i := 0) (oi := ⟨_, _, _, _, _, _⟩) (v := ?_) rfl (by kernel_rfl) (by kernel_rfl) (by kernel_rfl) (fun _ _ _ h => h) (Or.inl ⟨by rfl, ?_⟩) (by assumption) ?_
        rotate_left 1
        · intro w hSw; (try dsimp only at hSw); go_simp; all_goals with_reducible rfl
        try simp only [Act.put, List.setIfInBounds_toArray, List.set_cons_zero, List.set_cons_succ]
        refine wpAnyH_take (i := 2) (oi := ⟨_, _, _, _, _, _⟩) (v := ?_) rfl (by kernel_rfl) (by kernel_rfl) (by kernel_rfl) (fun _ _ _ h => h) (Or.inl ⟨by rfl, ?_⟩) (by assumption) ?_
        rotate_left 1
        · intro w hSw; (try dsimp only at hSw); go_simp; all_goals with_reducible rfl
        try simp only [Act.put, List.setIfInBounds_toArray, List.set_cons_zero, List.set_cons_succ]
        refine wpAnyH_take (i := 3) (oi := ⟨_, _, _, _, _, _⟩) (v := ?_) rfl (by kernel_rfl) (by kernel_rfl) (by kernel_rfl) (fun _ _ _ h => h) (Or.inl ⟨by rfl, ?_⟩) (by assumption) ?_
        rotate_left 1
        · intro w hSw; (try dsimp only at hSw); go_simp; all_goals with_reducible rfl
        try simp only [Act.put, List.setIfInBounds_toArray, List.set_cons_zero, List.set_cons_succ]
        refine wpAnyH_take (i := 4) (oi := ⟨_, _, _, _, _, _⟩) (v := ?_) rfl (by kernel_rfl) (by kernel_rfl) (by kernel_rfl) (fun _ _ _ h => h) (Or.inl ⟨by rfl, ?_⟩) (by assumption) ?_
        rotate_left 1
        · intro w hSw; (try dsimp only at hSw); go_simp; all_goals with_reducible rfl
        try simp only [Act.put, List.setIfInBounds_toArray, List.set_cons_zero, List.set_cons_succ]
        refine wpAnyH_take (i := 5) (oi := ⟨_, _, _, _, _, _⟩) (v := ?_) rfl (by kernel_rfl) (by kernel_rfl) (by kernel_rfl) (fun _ _ _ h => h) (Or.inl ⟨by rfl, ?_⟩) (by assumption) ?_
        rotate_left 1
        · intro w hSw; (try dsimp only at hSw); go_simp; all_goals with_reducible rfl
        try simp only [Act.put, List.setIfInBounds_toArray, List.set_cons_zero, List.set_cons_succ]
        refine wpAnyH_take (i := 6) (oi := ⟨_, _, _, _, _, _⟩) (v := ?_) rfl (by kernel_rfl) (by kernel_rfl) (by kernel_rfl) (fun _ _ _ h => h) (Or.inl ⟨by rfl, ?_⟩) (by assumption) ?_
        rotate_left 1
        · intro w hSw; (try dsimp only at hSw); go_simp; all_goals with_reducible rfl
        try simp only [Act.put, List.setIfInBounds_toArray, List.set_cons_zero, List.set_cons_succ]
        refine wpAnyH_take (i := 7) (oi := ⟨_, _, _, _, _, _⟩) (v := ?_) rfl (by kernel_rfl) (by kernel_rfl) (by kernel_rfl) (fun _ _ _ h => h) (Or.inl ⟨by rfl, ?_⟩) (by assumption) ?_
        rotate_left 1
        · intro w hSw; (try dsimp only at hSw); go_simp; all_goals with_reducible rfl
        try simp only [Act.put, List.setIfInBounds_toArray, List.set_cons_zero, List.set_cons_succ]
        refine wpAnyH_take (i := 8) (oi := ⟨_, _, _, _, _, _⟩) (v := ?_) rfl (by kernel_rfl) (by kernel_rfl) (by kernel_rfl) (fun _ _ _ h => h) (Or.inl ⟨by rfl, ?_⟩) (by assumption) ?_
        rotate_left 1
        · intro w hSw; (try dsimp only at hSw); go_simp; all_goals with_reducible rfl
        try simp only [Act.put, List.setIfInBounds_toArray, List.set_cons_zero, List.set_cons_succ]
        refine wpAnyH_take (i := 9) (oi := ⟨_, _, _, _, _, _⟩) (v := ?_) rfl (by kernel_rfl) (by kernel_rfl) (by kernel_rfl) (fun _ _ _ h => h) (Or.inl ⟨by rfl, ?_⟩) (by assumption) ?_
        rotate_left 1
        · intro w hSw; (try dsimp only at hSw); go_simp; all_goals with_reducible rfl
        try simp only [Act.put, List.setIfInBounds_toArray, List.set_cons_zero, List.set_cons_succ]
        refine wpAnyH_ready (rs := [1, 10]) (by kernel_rfl) (by simp) (AllReadyH.cons (o := ⟨_, _, _, _, _, _⟩) rfl (fun K hK => ?_) (AllReadyH.cons (o := ⟨_, _, _, _, _, _⟩) rfl (fun K hK => ?_) AllReadyH.nil))
        · go_simp
          refine hK.out _ _ ?_ (fun hHeld => ?_)
          · assumption
          clear hK K
          try simp only [Act.put, List.setIfInBounds_toArray, List.set_cons_zero, List.set_cons_succ]
          refine wpAnyH_ready (rs := [10]) (by kernel_rfl) (by simp) (AllReadyH.cons (o := ⟨_, _, _, _, _, _⟩) rfl (fun K hK => ?_) AllReadyH.nil)
          go_simp
          refine (RC.out _ (QWd.out)).mono ?_; rintro e z ⟨a2, c2, G2, rfl, p1, p2, p3, p4, p5⟩; have PZ := hideIt (HPd.out.keep p5); have HR := hideIt (And.intro p1 (And.intro p2 (And.intro p3 (And.intro p4 p5)))); have s0 := PZ.out.q; clear p1 p2 p3 p4 p5; have y9z := PZ.out.kids.1; have y9a : ∀ ob : Obj, (z.alloc ob).cell? ⟨w.heap.size + 1 + 1, 9, none⟩ = some u := fun ob => (PZ.out.keep ((Below.refl _ _).alloc (Nat.le_refl _) ob)).kids.1; go_wp2_with (fail)
          refine hK.out _ _ ?_ (fun hHeld => ?_)
          · exact ⟨s0, hF.out _ s0⟩
          clear hK K
          try simp only [Act.put, List.setIfInBounds_toArray, List.set_cons_zero, List.set_cons_succ]
          refine wpAnyH_ready (rs := [11]) (by kernel_rfl) (by simp) (AllReadyH.cons (o := ⟨_, _, _, _, _, _⟩) rfl (fun K hK => ?_) AllReadyH.nil)
          go_simp
          refine hK.out _ _ ?_ (fun hHeld => ?_)
          · exact ⟨s0.trans ((Below.refl _ _).alloc (Nat.le_refl _) _), hF.out _ (s0.trans ((Below.refl _ _).alloc (Nat.le_refl _) _))⟩
          clear hK K
          try simp only [Act.put, List.setIfInBounds_toArray, List.set_cons_zero, List.set_cons_succ]
          refine wpAnyH_ready (rs := [12]) (by kernel_rfl) (by simp) (AllReadyH.cons (o := ⟨_, _, _, _, _, _⟩) rfl (fun K hK => ?_) AllReadyH.nil)
          obtain ⟨PA, NW, KX, AX, PX⟩ := STEP.out z a2 c2 G2 PZ.out HR.out; refine step_append_lies _ rfl (.tmp 32) (.tmp 42) 24 rfl (w.heap.size + 1 + 1 + 1) 26 i0 (.agg #[.int .u8 0, .int .u8 0, .int .u8 0, .int .u8 0, .int .i64 0, .int .i64 0, .int .i64 0, .string ⟨#[]⟩, .string ⟨#[]⟩, .slice none 0 0]) 10 96 Try.underlying24 hi0 hz0 hz1 hz2 rfl (by decide) u G.len (cellsF G) rfl PA.own ⟨z.heap.size, 0, none⟩ 1 1 (cellsF (Fo.cons v' a2 c2 G2 .nil)) rfl rfl NW (cellsF_one _) (by decide) HB1.out HB2.out PA.lt _ rfl ?_; intro g cap w1 r1 r2 r3 r4; have z9 := r2.cell PA.kids.1 HN9.out; have zf := (r2.frozen_far ⟨w.heap.size + 1 + 1, 9, none⟩ PA.lt HN9.out).trans PA.kids.2; have PI2 := hideIt (PA.app HI1.out (Fo.cons v' a2 c2 G2 .nil) hW KX AX r1 r2 r3 PX); have qg := Below.grown PA.q r2 PA.q.size HQG.out; clear r1 r2 r3 r4 PA NW KX AX PX
          refine hK.out _ _ ?_ (fun hHeld => ?_)
          · exact ⟨qg, hF.out _ qg⟩
          clear hK K
          try simp only [Act.put, List.setIfInBounds_toArray, List.set_cons_zero, List.set_cons_succ]
          refine wpAnyH_take (i := 13) (oi := ⟨_, _, _, _, _, _⟩) (v := ?_) rfl (by kernel_rfl) (by kernel_rfl) (by kernel_rfl) (fun _ _ _ h => h) (Or.inl ⟨by rfl, ?_⟩) (by assumption) ?_
          rotate_left 1
          · intro w hSw; (try dsimp only at hSw); go_simp; all_goals with_reducible rfl
          try simp only [Act.put, List.setIfInBounds_toArray, List.set_cons_zero, List.set_cons_succ]
          refine wpAnyH_ready (rs := [14]) (by kernel_rfl) (by simp) (AllReadyH.cons (o := ⟨_, _, _, _, _, _⟩) rfl (fun K hK => ?_) AllReadyH.nil)
          go_simp
          refine hK.out _ _ ?_ (fun hHeld => ?_)
          · exact ⟨PI2.out.q, hF.out _ PI2.out.q⟩
          clear hK K
          try simp only [Act.put, List.setIfInBounds_toArray, List.set_cons_zero, List.set_cons_succ]
          refine wpAnyH_done (by kernel_rfl) ?_ _
          have QW2 := hideIt (show Q w (w1.setCell ⟨w.heap.size + 1 + 1, 9, none⟩ (.slice (some ⟨g, 0, none⟩) (G.len + 1) cap)) from (boxed2_q _ _ _ _ _).trans PI2.out.q)
          have n9 : (w1.setCell ⟨w.heap.size + 1 + 1, 9, none⟩ (.slice (some ⟨g, 0, none⟩) (G.len + 1) cap)).cell? ⟨w.heap.size, 9, none⟩ = some (.slice (some ⟨b, o, none⟩) f.len c) := boxed2_a PI2.out.q 9 _ rfl
          obtain ⟨e0, e1, e2, e3, e4, e5, e6, e7, e8, e9⟩ := (HAT.out.keep (Nat.le_refl _) QW2.out).ten
          clear c0 c1 c2' c3 c4 c5 c6 c7 c8 c9
          go_wp2_with (first | (go_at_call 11; refine (SZ.out _ QW2.out).mono ?_; rw [hsm.out]; rintro e z ⟨rfl, qz⟩; have PZ2 := hideIt (PI2.out.keep qz); clear qz) | fail)
          go_roundw
          case rel => exact ⟨i + 1, G.app (Fo.cons v' a2 c2 G2 .nil), _, by go_num, by rw [HST.out]; go_num, PZ2.out⟩
          case measure => simp [intOf]; omega
        · go_simp
          refine (RC.out _ (QWd.out)).mono ?_; rintro e z ⟨a2, c2, G2, rfl, p1, p2, p3, p4, p5⟩; have PZ := hideIt (HPd.out.keep p5); have HR := hideIt (And.intro p1 (And.intro p2 (And.intro p3 (And.intro p4 p5)))); have s0 := PZ.out.q; clear p1 p2 p3 p4 p5; have y9z := PZ.out.kids.1; have y9a : ∀ ob : Obj, (z.alloc ob).cell? ⟨w.heap.size + 1 + 1, 9, none⟩ = some u := fun ob => (PZ.out.keep ((Below.refl _ _).alloc (Nat.le_refl _) ob)).kids.1; go_wp2_with (fail)
          refine hK.out _ _ ?_ (fun hHeld => ?_)
          · exact ⟨s0, hF.out _ s0⟩
          clear hK K
          try simp only [Act.put, List.setIfInBounds_toArray, List.set_cons_zero, List.set_cons_succ]
          refine wpAnyH_ready (rs := [1, 11]) (by kernel_rfl) (by simp) (AllReadyH.cons (o := ⟨_, _, _, _, _, _⟩) rfl (fun K hK => ?_) (AllReadyH.cons (o := ⟨_, _, _, _, _, _⟩) rfl (fun K hK => ?_) AllReadyH.nil))
          · go_simp
            refine hK.out _ _ ?_ (fun hHeld => ?_)
            · assumption
            clear hK K
            try simp only [Act.put, List.setIfInBounds_toArray, List.set_cons_zero, List.set_cons_succ]
            refine wpAnyH_ready (rs := [11]) (by kernel_rfl) (by simp) (AllReadyH.cons (o := ⟨_, _, _, _, _, _⟩) rfl (fun K hK => ?_) AllReadyH.nil)
            go_simp
            refine hK.out _ _ ?_ (fun hHeld => ?_)
            · exact ⟨s0.trans ((Below.refl _ _).alloc (Nat.le_refl _) _), hF.out _ (s0.trans ((Below.refl _ _).alloc (Nat.le_refl _) _))⟩
            clear hK K
            try simp only [Act.put, List.setIfInBounds_toArray, List.set_cons_zero, List.set_cons_succ]
            refine wpAnyH_ready (rs := [12]) (by kernel_rfl) (by simp) (AllReadyH.cons (o := ⟨_, _, _, _, _, _⟩) rfl (fun K hK => ?_) AllReadyH.nil)
            obtain ⟨PA, NW, KX, AX, PX⟩ := STEP.out z a2 c2 G2 PZ.out HR.out; refine step_append_lies _ rfl (.tmp 32) (.tmp 42) 24 rfl (w.heap.size + 1 + 1 + 1) 26 i0 (.agg #[.int .u8 0, .int .u8 0, .int .u8 0, .int .u8 0, .int .i64 0, .int .i64 0, .int .i64 0, .string ⟨#[]⟩, .string ⟨#[]⟩, .slice none 0 0]) 10 96 Try.underlying24 hi0 hz0 hz1 hz2 rfl (by decide) u G.len (cellsF G) rfl PA.own ⟨z.heap.size, 0, none⟩ 1 1 (cellsF (Fo.cons v' a2 c2 G2 .nil)) rfl rfl NW (cellsF_one _) (by decide) HB1.out HB2.out PA.lt _ rfl ?_; intro g cap w1 r1 r2 r3 r4; have z9 := r2.cell PA.kids.1 HN9.out; have zf := (r2.frozen_far ⟨w.heap.size + 1 + 1, 9, none⟩ PA.lt HN9.out).trans PA.kids.2; have PI2 := hideIt (PA.app HI1.out (Fo.cons v' a2 c2 G2 .nil) hW KX AX r1 r2 r3 PX); have qg := Below.grown PA.q r2 PA.q.size HQG.out; clear r1 r2 r3 r4 PA NW KX AX PX
            refine hK.out _ _ ?_ (fun hHeld => ?_)
            · exact ⟨qg, hF.out _ qg⟩
            clear hK K
            try simp only [Act.put, List.setIfInBounds_toArray, List.set_cons_zero, List.set_cons_succ]
            refine wpAnyH_take (i := 13) (oi := ⟨_, _, _, _, _, _⟩) (v := ?_) rfl (by kernel_rfl) (by kernel_rfl) (by kernel_rfl) (fun _ _ _ h => h) (Or.inl ⟨by rfl, ?_⟩) (by assumption) ?_
            rotate_left 1
            · intro w hSw; (try dsimp only at hSw); go_simp; all_goals with_reducible rfl
            try simp only [Act.put, List.setIfInBounds_toArray, List.set_cons_zero, List.set_cons_succ]
            refine wpAnyH_ready (rs := [14]) (by kernel_rfl) (by simp) (AllReadyH.cons (o := ⟨_, _, _, _, _, _⟩) rfl (fun K hK => ?_) AllReadyH.nil)
            go_simp
            refine hK.out _ _ ?_ (fun hHeld => ?_)
            · exact ⟨PI2.out.q, hF.out _ PI2.out.q⟩
            clear hK K
            try simp only [Act.put, List.setIfInBounds_toArray, List.set_cons_zero, List.set_cons_succ]
            refine wpAnyH_done (by kernel_rfl) ?_ _
            have QW2 := hideIt (show Q w (w1.setCell ⟨w.heap.size + 1 + 1, 9, none⟩ (.slice (some ⟨g, 0, none⟩) (G.len + 1) cap)) from (boxed2_q _ _ _ _ _).trans PI2.out.q)
            have n9 : (w1.setCell ⟨w.heap.size + 1 + 1, 9, none⟩ (.slice (some ⟨g, 0, none⟩) (G.len + 1) cap)).cell? ⟨w.heap.size, 9, none⟩ = some (.slice (some ⟨b, o, none⟩) f.len c) := boxed2_a PI2.out.q 9 _ rfl
            obtain ⟨e0, e1, e2, e3, e4, e5, e6, e7, e8, e9⟩ := (HAT.out.keep (Nat.le_refl _) QW2.out).ten
            clear c0 c1 c2' c3 c4 c5 c6 c7 c8 c9
            go_wp2_with (first | (go_at_call 11; refine (SZ.out _ QW2.out).mono ?_; rw [hsm.out]; rintro e z ⟨rfl, qz⟩; have PZ2 := hideIt (PI2.out.keep qz); clear qz) | fail)
            go_roundw
            case rel => exact ⟨i + 1, G.app (Fo.cons v' a2 c2 G2 .nil), _, by go_num, by rw [HST.out]; go_num, PZ2.out⟩
            case measure => simp [intOf]; omega
          · go_simp
            refine hK.out _ _ ?_ (fun hHeld => ?_)
            · exact ⟨s0.trans ((Below.refl _ _).alloc (Nat.le_refl _) _), hF.out _ (s0.trans ((Below.refl _ _).alloc (Nat.le_refl _) _))⟩
            clear hK K
            try simp only [Act.put, List.setIfInBounds_toArray, List.set_cons_zero, List.set_cons_succ]
            refine wpAnyH_ready (rs := [1]) (by kernel_rfl) (by simp) (AllReadyH.cons (o := ⟨_, _, _, _, _, _⟩) rfl (fun K hK => ?_) AllReadyH.nil)
            go_simp
            refine hK.out _ _ ?_ (fun hHeld => ?_)
            · assumption
            clear hK K
            try simp only [Act.put, List.setIfInBounds_toArray, List.set_cons_zero, List.set_cons_succ]
            refine wpAnyH_ready (rs := [12]) (by kernel_rfl) (by simp) (AllReadyH.cons (o := ⟨_, _, _, _, _, _⟩) rfl (fun K hK => ?_) AllReadyH.nil)
            obtain ⟨PA, NW, KX, AX, PX⟩ := STEP.out z a2 c2 G2 PZ.out HR.out; refine step_append_lies _ rfl (.tmp 32) (.tmp 42) 24 rfl (w.heap.size + 1 + 1 + 1) 26 i0 (.agg #[.int .u8 0, .int .u8 0, .int .u8 0, .int .u8 0, .int .i64 0, .int .i64 0, .int .i64 0, .string ⟨#[]⟩, .string ⟨#[]⟩, .slice none 0 0]) 10 96 Try.underlying24 hi0 hz0 hz1 hz2 rfl (by decide) u G.len (cellsF G) rfl PA.own ⟨z.heap.size, 0, none⟩ 1 1 (cellsF (Fo.cons v' a2 c2 G2 .nil)) rfl rfl NW (cellsF_one _) (by decide) HB1.out HB2.out PA.lt _ rfl ?_; intro g cap w1 r1 r2 r3 r4; have z9 := r2.cell PA.kids.1 HN9.out; have zf := (r2.frozen_far ⟨w.heap.size + 1 + 1, 9, none⟩ PA.lt HN9.out).trans PA.kids.2; have PI2 := hideIt (PA.app HI1.out (Fo.cons v' a2 c2 G2 .nil) hW KX AX r1 r2 r3 PX); have qg := Below.grown PA.q r2 PA.q.size HQG.out; clear r1 r2 r3 r4 PA NW KX AX PX
            refine hK.out _ _ ?_ (fun hHeld => ?_)
            · exact ⟨qg, hF.out _ qg⟩
            clear hK K
            try simp only [Act.put, List.setIfInBounds_toArray, List.set_cons_zero, List.set_cons_succ]
            refine wpAnyH_take (i := 13) (oi := ⟨_, _, _, _, _, _⟩) (v := ?_) rfl (by kernel_rfl) (by kernel_rfl) (by kernel_rfl) (fun _ _ _ h => h) (Or.inl ⟨by rfl, ?_⟩) (by assumption) ?_
            rotate_left 1
            · intro w hSw; (try dsimp only at hSw); go_simp; all_goals with_reducible rfl
            try simp only [Act.put, List.setIfInBounds_toArray, List.set_cons_zero, List.set_cons_succ]
            refine wpAnyH_ready (rs := [14]) (by kernel_rfl) (by simp) (AllReadyH.cons (o := ⟨_, _, _, _, _, _⟩) rfl (fun K hK => ?_) AllReadyH.nil)
            go_simp
            refine hK.out _ _ ?_ (fun hHeld => ?_)
            · exact ⟨PI2.out.q, hF.out _ PI2.out.q⟩
            clear hK K
            try simp only [Act.put, List.setIfInBounds_toArray, List.set_cons_zero, List.set_cons_succ]
            refine wpAnyH_done (by kernel_rfl) ?_ _
            have QW2 := hideIt (show Q w (w1.setCell ⟨w.heap.size + 1 + 1, 9, none⟩ (.slice (some ⟨g, 0, none⟩) (G.len + 1) cap)) from (boxed2_q _ _ _ _ _).trans PI2.out.q)
            have n9 : (w1.setCell ⟨w.heap.size + 1 + 1, 9, none⟩ (.slice (some ⟨g, 0, none⟩) (G.len + 1) cap)).cell? ⟨w.heap.size, 9, none⟩ = some (.slice (some ⟨b, o, none⟩) f.len c) := boxed2_a PI2.out.q 9 _ rfl
            obtain ⟨e0, e1, e2, e3, e4, e5, e6, e7, e8, e9⟩ := (HAT.out.keep (Nat.le_refl _) QW2.out).ten
            clear c0 c1 c2' c3 c4 c5 c6 c7 c8 c9
            go_wp2_with (first | (go_at_call 11; refine (SZ.out _ QW2.out).mono ?_; rw [hsm.out]; rintro e z ⟨rfl, qz⟩; have PZ2 := hideIt (PI2.out.keep qz); clear qz) | fail)
            go_roundw
            case rel => exact ⟨i + 1, G.app (Fo.cons v' a2 c2 G2 .nil), _, by go_num, by rw [HST.out]; go_num, PZ2.out⟩
            case measure => simp [intOf]; omega
    · obtain ⟨a', c', rfl, p2, p3, hA, hC⟩ := HP.out.fin hlt
      have HE := hideIt (And.intro p2 (And.intro p3 (And.intro hA hC)))
      clear p2 p3 hA hC
      have o0 := HP.out.cells 0 _ rfl
      have o1 := HP.out.cells 1 _ rfl
      have o2 := HP.out.cells 2 _ rfl
      have o3 := HP.out.cells 3 _ rfl
      have o4 := HP.out.cells 4 _ rfl
      have o5 := HP.out.cells 5 _ rfl
      have o6 := HP.out.cells 6 _ rfl
      have o7 := HP.out.cells 7 _ rfl
      have o8 := HP.out.cells 8 _ rfl
      have o9 := HP.out.cells 9 _ rfl
      have ry0 := boxed2_b HP.out.q 0 _ rfl
      have gf0 := (boxed2_free HP.out.q 0).2
      have ry1 := boxed2_b HP.out.q 1 _ rfl
      have gf1 := (boxed2_free HP.out.q 1).2
      have ry2 := boxed2_b HP.out.q 2 _ rfl
      have gf2 := (boxed2_free HP.out.q 2).2
      have ry3 := boxed2_b HP.out.q 3 _ rfl
      have gf3 := (boxed2_free HP.out.q 3).2
      have ry4 := boxed2_b HP.out.q 4 _ rfl
      have gf4 := (boxed2_free HP.out.q 4).2
      have ry5 := boxed2_b HP.out.q 5 _ rfl
      have gf5 := (boxed2_free HP.out.q 5).2
      have ry6 := boxed2_b HP.out.q 6 _ rfl
      have gf6 := (boxed2_free HP.out.q 6).2
      have ry7 := boxed2_b HP.out.q 7 _ rfl
      have gf7 := (boxed2_free HP.out.q 7).2
      have ry8 := boxed2_b HP.out.q 8 _ rfl
      have gf8 := (boxed2_free HP.out.q 8).2
      have ry9 := boxed2_b HP.out.q 9 _ rfl
      have gf9 := (boxed2_free HP.out.q 9).2
      go_wp2_with (fail)
      refine bodyPost_ret (v := nodeV v (.slice a' G.len c')) (by simp [results, Try.results44, go_sem, nf, *]) rfl ⟨a', c', G, rfl, HE.out.2.2.2, HE.out.1, ?_, ?_, ?_⟩
      · have hA : Av (fun b => b ≠ w.heap.size + 1) a' G := HE.out.2.2.1.mono (fun b hb => by omega)
        repeat (refine in_set ?_ hA)
        exact HE.out.2.1
      · exact HE.out.2.2.1.mono (fun b hb => by omega)
      · repeat (refine Below.setCell ?_ (by simp <;> omega) _)
        exact QW.out

theorem rputi_any (F : Fo) (la : Option Addr) (lc : Nat) (id : Int) (W0 : Nat) (hid : -9223372036854775808 ≤ id ∧ id ≤ 9223372036854775807) (hFl : F.len ≤ 7000) : ∀ (n : Nat) (f : Fo), f.size ≤ n → ∀ (v : NF) (a : Option Addr) (c : Nat) (t : Int) (w : World), In w a f → sok a f.len c → In w la F → sok la F.len lc → W0 ≤ w.heap.size → Av (fun b => b < W0) la F → 0 ≤ t → t + f.size ≤ 20000 → f.size ≤ 4000 →
    Calls Try.prog 44 #[nodeV v (.slice a f.len c), .int .i64 t, .int .i64 id, .slice la F.len lc] w (Rpl w W0 v (putS F (id - t - 1) f)) := by
  intro n
  induction n with
  | zero =>
    intro f hn v a c t w h1 h2 h3 h4 h5 h6 h7 h8 h9
    exact rputi_step F la lc id W0 hid hFl f (fun ks hk => by omega) v a c t w h1 h2 h3 h4 h5 h6 h7 h8 h9
  | succ n ih =>
    intro f hn v a c t w h1 h2 h3 h4 h5 h6 h7 h8 h9
    exact rputi_step F la lc id W0 hid hFl f (fun ks hk => ih ks (by omega)) v a c t w h1 h2 h3 h4 h5 h6 h7 h8 h9

end Go.Proofs.Ytioeoillogpdoaa
