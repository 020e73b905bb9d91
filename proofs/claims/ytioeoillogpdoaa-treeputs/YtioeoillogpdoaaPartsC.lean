/-
  The document's list of all nodes of a tree, and its node with a number: contracts over the program; the conditions: the argument is a tree of at most 7000 nodes that lies in memory.
-/
import Derived.Test.YtioeoillogpdoaaPartsA
namespace Go.Proofs.Ytioeoillogpdoaa
open Go.RowKit
set_option linter.unusedVariables false

theorem ownsRow_block {w w' : World} {base : Nat} {e : TypeId} {size : Nat} {v : Value} {n : Nat} {xs : List Value} (h : w.ownsRow base e size v n xs) (hk : ∀ k, v.ownBlock = some k → w'.heap[k]? = w.heap[k]?) : w'.ownsRow base e size v n xs := by
  obtain ⟨h1, h2⟩ := h
  refine ⟨h1, ?_⟩
  rcases h2 with h2 | ⟨g, cap, cur, hv, hg, hh, r⟩
  · exact Or.inl h2
  · refine Or.inr ⟨g, cap, cur, hv, hg, ?_, r⟩
    rw [hk g (by rw [hv]; rfl)]
    exact hh

theorem ownsRow_mono {w : World} {b b' : Nat} {e : TypeId} {size : Nat} {v : Value} {n : Nat} {xs : List Value} (h : w.ownsRow b e size v n xs) (hb : b' ≤ b) : w.ownsRow b' e size v n xs := by
  obtain ⟨h1, h2⟩ := h
  refine ⟨h1, ?_⟩
  rcases h2 with h2 | ⟨g, cap, cur, hv, hg, r⟩
  · exact Or.inl h2
  · exact Or.inr ⟨g, cap, cur, hv, Nat.le_trans hb hg, r⟩

/-- An append to a row of one's own: what it leaves lies where the row lay, or in a new block. -/
theorem wpList_append_mine {P : Program} (w : World) {ops : Array Oper} {rest : List Oper} {o : Oper} {a : Act} {Q : Exit → Act → World → Prop} (hgd : o.guard = none) (s x : Operand) (t : TypeId)
    (ho : o.op = Op.call { callee := Callee.builtin Builtin.append, args := #[s, x], argTypes := #[t, t] })
    (base : Nat) (e : TypeId) (i : TypeInfo) (z : Value) (size bytes : Nat) (ht : P.underlying t = some (.slice e)) (hi : P.info? e = some i) (hz : i.zero = some z)
    (hsize : i.size = size) (hby : i.bytes = bytes) (hzs : z.cells.size = size) (hsz : 0 < size)
    (v : Value) (n : Nat) (xs : List Value) (hs : a.eval s = v) (hown : w.ownsRow base e size v n xs)
    (ad : Addr) (m c : Nat) (news : List Value) (hx : a.eval x = .slice (some ad) m c) (hl : news.length = m * size) (hnews : ∀ j u, news[j]? = some u → w.cell? (ad.add j) = some u) (h1 : ∀ u ∈ news, u.oneCell' = true)
    (hm : 0 < m) (h63 : n + m ≤ maxLen) (hbytes : (n + m) * bytes ≤ 140737488355328) (hbase : base ≤ w.heap.size)
    (h : ∀ v' w', w'.ownsRow base e size v' (n + m) (xs ++ news) → w.grownBy w' v.ownBlock → (v'.ownBlock = v.ownBlock ∨ ∀ k, v'.ownBlock = some k → w.heap.size ≤ k) → wpList P ops Q rest (a.put o.dst v') w') : wpList P ops Q (o :: rest) a w := by
  have ho' := hown
  rcases hown.2 with ⟨rfl, rfl⟩ | ⟨g, cap, cur, rfl, hbg, hg, hnc, hcm, hcs, htake⟩
  · have hx0 : xs = [] := List.eq_nil_of_length_eq_zero (by simpa using hown.1)
    subst hx0
    refine wpList_append_grows w hgd s x t ho e i z size bytes ht hi hz hsize hby hzs hsz none 0 0 [] hs (fun _ => ⟨rfl, rfl⟩) (by simp) (fun b hb => by cases hb) ad m c news hx hl hnews h1 (by omega) h63 hbytes ?_
    intro v' w' r1 r2
    exact h v' w' (ownsRow_mono r1 hbase) r2 (Or.inr fun k hk => (r1.lt k hk).1)
  · by_cases hroom : n + m ≤ cap
    · refine wpList_append_fits w hgd s x t ho base e i size ht hi hsize g n cap xs hs ho' ad m c news hx hl hnews h1 hroom ?_
      intro w' r1 r2
      exact h _ w' r1 r2 (Or.inl rfl)
    · refine wpList_append_grows w hgd s x t ho e i z size bytes ht hi hz hsize hby hzs hsz (some ⟨g, 0, none⟩) n cap xs hs (fun hb => by cases hb) hown.1 (fun b hb j u hu => by cases hb; exact ho'.cells rfl j u hu) ad m c news hx hl hnews h1 (by omega) h63 hbytes ?_
      intro v' w' r1 r2
      exact h v' w' (ownsRow_mono r1 hbase) ⟨r2.os, r2.tape, r2.output, r2.size, fun k hk _ => r2.block k hk (by simp)⟩ (Or.inr fun k hk => (r1.lt k hk).1)


theorem owns_new {w : World} {base g : Nat} {F : Fo} (hb : base ≤ g) (h : w.heap[g]? = some (.cells (cellsF F).toArray 26 (0, 0))) (hl : F.len ≤ maxLen) : w.ownsRow base 26 10 (.slice (some ⟨g, 0, none⟩) F.len F.len) F.len (cellsF F) := by
  refine ⟨by rw [cellsF_len], Or.inr ⟨g, F.len, (cellsF F).toArray, rfl, hb, h, Nat.le_refl _, hl, by simp [cellsF_len], ?_⟩⟩
  show (cellsF F).take (F.len * 10) = cellsF F
  rw [List.take_of_length_le (by rw [cellsF_len]; exact Nat.le_refl _)]
theorem owns_some {w : World} {base n : Nat} {v : Value} {xs : List Value} (h : w.ownsRow base 26 10 v n xs) (hn : 0 < n) : ∃ g cap, v = .slice (some ⟨g, 0, none⟩) n cap ∧ n ≤ cap ∧ cap ≤ maxLen ∧ base ≤ g := by
  rcases h.2 with ⟨_, h0⟩ | ⟨g, cap, cur, h1, h2, h3, h4, h5, _⟩
  · omega
  · exact ⟨g, cap, h1, h4, h5, h2⟩

theorem app_assoc (f g h : Fo) : (f.app g).app h = f.app (g.app h) := by
  induction f with
  | nil => rfl
  | cons v a c k r _ ih => simp only [Fo.app, ih]
theorem boxed_size (w : World) (v : NF) (s : Value) : w.heap.size + 1 = (boxed w v s).heap.size := by simp

set_option maxRecDepth 100000 in
set_option maxHeartbeats 1000000 in
theorem all_any (N : Nat) : ∀ (f : Fo), f.size < N → ∀ (v : NF) (a : Option Addr) (c : Nat) (w : World), In w a f → sok a f.len c → f.size ≤ 7000 →
    Calls Try.prog 22 #[nodeV v (.slice a f.len c)] w fun e w' => ∃ g cap, e = .returned (.slice (some ⟨g, 0, none⟩) (f.size + 1) cap) ∧ w'.ownsRow w.heap.size 26 10 (.slice (some ⟨g, 0, none⟩) (f.size + 1) cap) (f.size + 1) (cellsF (.cons v a c f f.flat)) ∧ Q w w' := by
  induction N with
  | zero => intro f h; omega
  | succ N ih =>
    intro f hf v a c w hin hs hz
    have HIN := hideIt hin
    have HIH := hideIt ih
    have hlen : f.len ≤ 9223372036854775807 := by have := hs.1; have := hs.2.1; unfold maxLen at this; omega
    obtain ⟨i0, hi, hz0, hz1, hz2⟩ := info_parts Try.info26
    clear hin hs ih
    go_enter Try.func22, Try.ntmps22
    go_wp2_with (fail)
    go_loopw [3, 4] (fun s i wr => ∃ (k : Nat) (G : Fo), i = .int .i64 k ∧ k ≤ f.len ∧ wr.ownsRow (w.heap.size + 1) 26 10 s G.len (cellsF G) ∧ 0 < G.len ∧ G.app (f.drop k).flat = .cons v a c f f.flat ∧ Q (boxed w v (.slice a f.len c)) wr) (fun _ i _ => f.len - (intOf i).toNat)
    case atStart =>
      refine ⟨0, .cons v a c f .nil, rfl, by omega, ?_, by simp [Fo.len], rfl, (Below.refl _ _).alloc (Nat.le_refl _) _⟩
      have h := heap_alloc_new (boxed w v (.slice a f.len c)) (.cells (cellsF (.cons v a c f .nil)).toArray 26 (0, 0))
      have hsz : (boxed w v (.slice a f.len c)).heap.size = w.heap.size + 1 := by simp
      rw [hsz] at h
      exact owns_new (F := .cons v a c f .nil) (Nat.le_refl _) h (by simp [Fo.len, maxLen])
    case round =>
      obtain ⟨k, G, rfl, hk, ho, hG0, hG, hq⟩ := hrel
      have hGl : G.len + (f.drop k).size = f.size + 1 := by
        have := congrArg Fo.len hG
        rw [app_len, flat_len] at this
        simp only [Fo.len, flat_len] at this
        omega
      obtain ⟨g, cap, rfl, hcap, hcm, hgb⟩ := owns_some ho hG0
      have hbx : wr.cell? ⟨w.heap.size, 9, none⟩ = some (.slice a f.len c) := boxed_cell hq 9 _ rfl
      have HO := hideIt ho
      have HG := hideIt hG
      have HQ := hideIt hq
      clear ho hG hq
      by_cases hlt : k < f.len
      · obtain ⟨b, o, v', ka, kc, ks, rfl, e, hat, hv', hs', hin'⟩ := HIN.out.elem k hlt
        have hkl : (k : Int) < (f.len : Int) := by omega
        have hat' : At wr b (o + k * 10) (cellsN v' (.slice ka ks.len kc)) := hat.keep (Nat.le_refl _) ((boxed_q w v _).trans HQ.out)
        obtain ⟨c0, c1, c2, c3, c4, c5, c6, c7, c8, c9⟩ := hat'.ten
        have hsz : (f.drop k).size = ks.size + 1 + (f.drop (k + 1)).size := by rw [e]; rfl
        have hle := f.size_drop k
        have HE : Hid ((f.drop k).flat = (Fo.cons v' ka kc ks ks.flat).app (f.drop (k + 1)).flat) := by show _ = _; rw [e]; rfl
        have HC := hideIt (HIH.out ks (by omega) v' ka kc wr (hin'.keep (Nat.le_refl _) ((boxed_q w v _).trans HQ.out)) hs' (by omega))
        have hGm : G.len + (ks.size + 1) ≤ 7001 := by omega
        have hgb' : (boxed w v (.slice (some ⟨b, o, none⟩) f.len c)).heap.size ≤ g := by simpa using hgb
        have A2 : Hid ((cellsF (.cons v' ka kc ks ks.flat)).length = (ks.size + 1) * 10) := by show _ = _; rw [cellsF_len]; simp only [Fo.len, flat_len]
        obtain ⟨L, hL⟩ : ∃ L, G.len = L := ⟨_, rfl⟩
        obtain ⟨M, hM⟩ : ∃ M, ks.size + 1 = M := ⟨_, rfl⟩
        have hM0 : 0 < M := by omega
        rw [hL] at HO hGm hcap ⊢
        rw [hM] at HC hGm A2
        have HLM := hideIt (And.intro hL hM)
        clear e hat hat' hv' hs' hin' hsz hL hM hGl hG0
        go_wp2_with (first | (go_at_call 22; refine HC.out.mono ?_; rintro e x ⟨g2, cap2, rfl, p1, p2⟩; have A1 := hideIt (ownsRow_block HO.out (fun k hk => p2.block k (HO.out.lt k hk).2)); have A3 := hideIt (p1.cells rfl); have A4 := hideIt (Nat.le_trans (Nat.le_trans (Nat.le_of_eq (boxed_size w v (.slice (some ⟨b, o, none⟩) f.len c))) HQ.out.size) p2.size); have P2 := hideIt (HQ.out.trans p2); clear p1 p2) | (at_builtin; refine wpList_append_mine _ rfl (.tmp 14) (.tmp 20) 24 rfl (w.heap.size + 1) 26 i0 (.agg #[.int .u8 0, .int .u8 0, .int .u8 0, .int .u8 0, .int .i64 0, .int .i64 0, .int .i64 0, .string ⟨#[]⟩, .string ⟨#[]⟩, .slice none 0 0]) 10 96 Try.underlying24 hi hz0 hz1 hz2 rfl (by decide) (.slice (some ⟨g, 0, none⟩) L cap) L (cellsF G) rfl A1.out ⟨g2, 0, none⟩ M cap2 (cellsF (.cons v' ka kc ks ks.flat)) rfl A2.out A3.out (cellsF_one _) hM0 (by unfold maxLen; omega) (by omega) A4.out ?_; intro nv x2 r1 r2 r3; obtain ⟨g3, cap3, rfl, _, _, _⟩ := owns_some r1 (by omega); have R1 := hideIt r1; have R2 := hideIt (Below.grown P2.out r2 P2.out.size (fun k hk => by (simp [Value.ownBlock] at hk; subst hk; exact hgb'))); clear r1 r2 r3))
        go_roundw
        case rel =>
          refine ⟨k + 1, G.app (.cons v' ka kc ks ks.flat), by go_num, by omega, ?_, by rw [app_len]; simp only [Fo.len]; omega, ?_, R2.out⟩
          · have h7 := R1.out
            rw [cellsF_app]
            have e7 : (G.app (.cons v' ka kc ks ks.flat)).len = L + M := by rw [app_len, HLM.out.1]; simp only [Fo.len, flat_len]; have := HLM.out.2; omega
            rw [e7]
            exact h7
          · rw [app_assoc, ← HE.out]
            exact HG.out
        case measure => simp [intOf]; omega
      · have ek : k = f.len := by omega
        go_wp2_with (fail)
        go_ret
        have h5 := HG.out
        rw [ek, Fo.drop_all] at h5
        simp only [Fo.flat, app_nil] at h5
        rw [ek, Fo.drop_all] at hGl
        simp only [Fo.size] at hGl
        have h6 := HO.out
        have e9 : G.len = f.size + 1 := by omega
        rw [h5] at h6
        have e10 : (Fo.cons v a c f f.flat).len = f.size + 1 := by simp only [Fo.len, flat_len]
        rw [e10] at h6
        refine ⟨g, cap, by rw [← e9]; rfl, ownsRow_mono ?_ (Nat.le_succ _), (boxed_q w v _).trans HQ.out⟩
        exact h6
end Go.Proofs.Ytioeoillogpdoaa
