/-
  What comes of right functions, when calls are done where they stand: every instruction is right among the registers of now, no call of a small function is left, every part's end is right; plain facts.
  What comes of right functions, when calls are done where they stand: the parts that are not gone through stay; the whole function is right, and so is the code; plain facts.
  What comes of right, small code, when calls are done where they stand, is right; no call of a small function is left; plain facts.
-/
import Derived.Test.YtnaflfpkkbfnfaaKInYa
namespace Go.Proofs.Ytnaflfpkkbfnfaa.In
open Go.RowKit
set_option linter.unusedVariables false

/-- An instruction is right among r registers. -/
structure IR (c : PC) (k : Nat) (f : PF) (bs : List (Option Bd)) (r : Int) (x : PI) : Prop where
  kn : knP x.op = true
  ty : x.ty ≤ 5
  dst : wrP x.op = true → 0 ≤ x.dst ∧ x.dst < r
  a : 0 < rdP x.op → 0 ≤ x.a ∧ x.a < r
  b : 1 < rdP x.op → 0 ≤ x.b ∧ x.b < r
  ar : x.op = 32 → ∀ n ∈ x.args, 0 ≤ n ∧ n < r
  im : immP c k f x = true
  no : x.op = 32 → bodyP bs x = none
/-- An end is right among r registers and n parts. -/
structure ER' (r : Int) (n : Nat) (p : PP) : Prop where
  cd : p.e = true ∨ 0 ≤ p.cond → 0 ≤ p.cond ∧ p.cond < r
  nx : p.e = false → 0 ≤ p.next ∧ p.next < n
  el : p.e = false → 0 ≤ p.cond → 0 ≤ p.els ∧ p.els < n
structure GC (c : PC) (k : Nat) (f : PF) (bs : List (Option Bd)) (O : Nat → Prop) (n : Nat) (s : Cl) : Prop where
  ins : ∀ j p, s.ps[j]? = some p → O j → ∀ x ∈ p.ins, IR c k f bs s.regs x
  ends : ∀ p ∈ s.ps, ER' s.regs n p
section
variable {c : PC} {k : Nat} {f : PF} {bs : List (Option Bd)} {O : Nat → Prop} {r r' : Int} {n n' : Nat} {s : Cl}
theorem IR.up {x : PI} (h : IR c k f bs r x) (hr : r ≤ r') : IR c k f bs r' x :=
  ⟨h.kn, h.ty, fun q => by have := h.dst q; omega, fun q => by have := h.a q; omega, fun q => by have := h.b q; omega, fun q m hm => by have := h.ar q m hm; omega, h.im, h.no⟩
theorem ER'.up {p : PP} (h : ER' r n p) (hr : r ≤ r') (hn : n ≤ n') : ER' r' n' p :=
  ⟨fun q => by have := h.cd q; omega, fun q => by have := h.nx q; omega, fun q1 q2 => by have := h.el q1 q2; omega⟩
theorem GC.up (h : GC c k f bs O n s) (hn : n ≤ n') (hr : s.regs ≤ r') : GC c k f bs O n' { s with regs := r' } :=
  ⟨fun j p hp ho x hx => (h.ins j p hp ho x hx).up hr, fun p hp => (h.ends p hp).up hr hn⟩
theorem GC.at (h : GC c k f bs O n s) (m : Nat) : GC c k f bs O n (s.at m) := ⟨h.ins, h.ends⟩
theorem GC.put (h : GC c k f bs O n s) {i : PI} (hi : IR c k f bs s.regs i) : GC c k f bs O n (s.put i) := by
  unfold Cl.put
  split
  · rename_i p hp
    have hm := List.mem_of_getElem? hp
    refine ⟨fun j q hq ho x hx => ?_, fun q hq => ?_⟩
    · rw [List.getElem?_set] at hq
      split at hq
      · rename_i e
        subst e
        split at hq
        · injection hq with hq
          subst hq
          rcases List.mem_append.1 hx with hx | hx
          · exact h.ins _ p hp ho x hx
          · simp at hx; subst hx; exact hi
        · cases hq
      · exact h.ins j q hq ho x hx
    · rcases List.mem_or_eq_of_mem_set hq with hq | rfl
      · exact h.ends q hq
      · have := h.ends p hm; exact ⟨this.cd, this.nx, this.el⟩
  · exact h
theorem GC.goOn (h : GC c k f bs O n s) {e : PP} (he : ER' s.regs n e) : GC c k f bs O n (s.goOn e) := by
  unfold Cl.goOn
  split
  · rename_i p hp
    have hm := List.mem_of_getElem? hp
    refine ⟨fun j q hq ho x hx => ?_, fun q hq => ?_⟩
    · rw [List.getElem?_set] at hq
      split at hq
      · rename_i e
        subst e
        split at hq
        · injection hq with hq
          subst hq
          exact h.ins _ p hp ho x hx
        · cases hq
      · exact h.ins j q hq ho x hx
    · rcases List.mem_or_eq_of_mem_set hq with hq | rfl
      · exact h.ends q hq
      · exact ⟨he.cd, he.nx, he.el⟩
  · exact h
theorem GC.puts : ∀ (l : List PI) {s : Cl}, GC c k f bs O n s → (∀ i ∈ l, IR c k f bs s.regs i) → GC c k f bs O n (s.puts l)
  | [], s, h, _ => h
  | i :: l, s, h, hi => by
    rw [puts_cons]
    refine GC.puts l (h.put (hi i (List.mem_cons_self ..))) fun j hj => ?_
    rw [put_regs]; exact hi j (List.mem_cons_of_mem _ hj)
theorem IR.mv {d a : Int} (hd : 0 ≤ d ∧ d < r) (ha : 0 ≤ a ∧ a < r) : IR c k f bs r (mvI d a) :=
  ⟨rfl, by show (0 : Int) ≤ 5; omega, fun _ => hd, fun _ => ha, fun q => absurd q (by show ¬ 1 < rdP 21; decide), fun q => absurd q (by show ¬ (21 : Int) = 32; decide), rfl, fun q => absurd q (by show ¬ (21 : Int) = 32; decide)⟩
theorem IR.k0 {d : Int} (hd : 0 ≤ d ∧ d < r) : IR c k f bs r (k0I d) :=
  ⟨rfl, by show (0 : Int) ≤ 5; omega, fun _ => hd, fun q => absurd q (by show ¬ 0 < rdP 20; decide), fun q => absurd q (by show ¬ 1 < rdP 20; decide), fun q => absurd q (by show ¬ (20 : Int) = 32; decide), rfl, fun q => absurd q (by show ¬ (20 : Int) = 32; decide)⟩
theorem ER'.jmp {m : Int} (h : 0 ≤ m ∧ m < n) : ER' r n (jmp m) :=
  ⟨fun q => by rcases q with q | q; exact absurd q (by simp [In.jmp]); exact absurd q (by simp [In.jmp]), fun _ => h, fun _ q => absurd q (by simp [In.jmp])⟩

/-- A body that may be put: its instructions are right in a function of the code's. -/
structure BR (c : PC) (b : Bd) : Prop where
  ok : BdOk b
  ins : ∀ p ∈ b.f.parts, ∀ x ∈ p.ins, knP x.op = true ∧ x.ty ≤ 5 ∧ (x.op = 26 → False) ∧ (x.op = 27 → blP x.imm c.gl.length = true) ∧ (x.op = 28 → 1 ≤ x.imm ∧ x.imm ≤ 65536) ∧ (x.op = 29 → blP x.imm 65536 = true) ∧ x.op ≠ 32 ∧ (wrP x.op = true → 0 ≤ x.dst ∧ x.dst < b.f.regs) ∧ (0 < rdP x.op → 0 ≤ x.a ∧ x.a < b.f.regs) ∧ (1 < rdP x.op → 0 ≤ x.b ∧ x.b < b.f.regs)
  cd : ∀ p ∈ b.f.parts, p.e = true ∨ 0 ≤ p.cond → 0 ≤ p.cond ∧ p.cond < b.f.regs
  un : ∀ m ∈ b.un, 0 ≤ m ∧ m < b.f.regs
theorem IR.copy {b : Bd} (hb : BR c b) {p : PP} (hp : p ∈ b.f.parts) {base : Int} (h0 : 0 ≤ base) (hr : base + b.f.regs ≤ r) : ∀ i ∈ copyL base p, IR c k f bs r i := fun i hi => by
  obtain ⟨x, hx, rfl⟩ := List.mem_map.1 hi
  obtain ⟨h1, h2, h3, h4, h5, h6, h7, h8, h9, h10⟩ := hb.ins p hp x hx
  refine ⟨h1, h2, fun q => ?_, fun q => ?_, fun q => ?_, fun q => absurd q h7, ?_, fun q => absurd q h7⟩
  · have := h8 q
    show 0 ≤ (if wrP x.op then base + x.dst else 0) ∧ (if wrP x.op then base + x.dst else 0) < r
    rw [if_pos (show wrP x.op = true from q)]; omega
  · have := h9 q
    show 0 ≤ (if 0 < rdP x.op then base + x.a else 0) ∧ (if 0 < rdP x.op then base + x.a else 0) < r
    rw [if_pos (show 0 < rdP x.op from q)]; omega
  · have := h10 q
    show 0 ≤ (if 1 < rdP x.op then base + x.b else 0) ∧ (if 1 < rdP x.op then base + x.b else 0) < r
    rw [if_pos (show 1 < rdP x.op from q)]; omega
  · show immP c k f (inReg base x) = true
    unfold immP
    have e1 : (inReg base x).op = x.op := rfl
    have e2 : (inReg base x).imm = x.imm := rfl
    rw [e1, e2, if_neg (fun q => h3 q)]
    split
    · rename_i q; exact h4 q
    · split
      · rename_i q; have := h5 q; simp; omega
      · split
        · rename_i q; exact h6 q
        · first | rfl | rw [if_neg h7]
theorem GC.stepB {b : Bd} (hb : BR c b) {x : PI} {base : Int} {first m : Nat} {p : PP} (h : GC c k f bs O n s) (hp : p ∈ b.f.parts) (h0 : 0 ≤ base) (hr : base + b.f.regs ≤ s.regs) (hx : 0 ≤ x.dst ∧ x.dst < s.regs) (hn : first + b.f.parts.length < n) :
    GC c k f bs O n (stepB x base first b.f.parts.length s m p) := by
  have h1 : GC c k f bs O n ((s.at (first + m)).puts (copyL base p)) := GC.puts _ (h.at _) (IR.copy hb hp h0 hr)
  have e1 : ((s.at (first + m)).puts (copyL base p)).regs = s.regs := by rw [puts_regs]; rfl
  have hcd := hb.cd p hp
  have hnx := hb.ok.nx p hp
  have hel := hb.ok.el p hp
  unfold In.stepB
  dsimp only
  split
  · rename_i he
    have h2 : GC c k f bs O n (((s.at (first + m)).puts (copyL base p)).put (ansI x p base)) := h1.put (by
      rw [e1]; have := hcd (.inl he); exact IR.mv hx ⟨by omega, by omega⟩)
    exact h2.goOn (ER'.jmp ⟨by omega, by omega⟩)
  · rename_i he
    have he' : p.e = false := by simpa using he
    refine h1.goOn ?_
    rw [e1]
    unfold endL
    have q1 := hnx he'
    split
    · exact ER'.jmp ⟨by omega, by omega⟩
    · rename_i hc
      have q2 := hel he' (by omega)
      have q3 := hcd (.inr (by omega))
      exact ⟨fun _ => ⟨by dsimp only; omega, by dsimp only; omega⟩, fun _ => ⟨by dsimp only; omega, by dsimp only; omega⟩, fun _ _ => ⟨by dsimp only; omega, by dsimp only; omega⟩⟩
theorem GC.partsB {b : Bd} (hb : BR c b) {x : PI} {base : Int} {first : Nat} (h0 : 0 ≤ base) (hn : first + b.f.parts.length < n) : ∀ (l : List PP), (∀ p ∈ l, p ∈ b.f.parts) → ∀ (s : Cl) (m : Nat), GC c k f bs O n s → base + b.f.regs ≤ s.regs → (0 ≤ x.dst ∧ x.dst < s.regs) → GC c k f bs O n (partsB x base first b.f.parts.length s m l)
  | [], _, s, m, h, _, _ => h
  | p :: l, hl, s, m, h, hr, hx => by
    show GC c k f bs O n (In.partsB x base first b.f.parts.length (In.stepB x base first b.f.parts.length s m p) (m + 1) l)
    exact GC.partsB hb h0 hn l (fun q hq => hl q (List.mem_cons_of_mem _ hq)) _ _ (h.stepB hb (hl p (List.mem_cons_self ..)) h0 hr hx hn) (by rw [stepB_regs]; exact hr) (by rw [stepB_regs]; exact hx)
theorem movesL_ir : ∀ (l : List Int) (base : Int) (m : Nat), 0 ≤ base → base + (m : Int) + (l.length : Int) ≤ r → (∀ a ∈ l, 0 ≤ a ∧ a < r) → ∀ i ∈ movesL base m l, IR c k f bs r i
  | [], base, m, _, _, _, i, hi => by cases hi
  | a :: l, base, m, h0, h1, h2, i, hi => by
    rw [List.length_cons] at h1
    rcases List.mem_cons.1 (show i ∈ mvI (base + m) a :: movesL base (m + 1) l from hi) with rfl | hi
    · exact IR.mv ⟨by omega, by omega⟩ (h2 a (List.mem_cons_self ..))
    · exact movesL_ir l base (m + 1) h0 (by omega) (fun b hb => h2 b (List.mem_cons_of_mem _ hb)) i hi
theorem GC.begC {b : Bd} (hb : BR c b) {x : PI} {fault : Bool} (h : GC c k f bs O n s) (h0 : 0 ≤ s.regs) (hal : (x.args.length : Int) ≤ b.f.regs) (ha : ∀ a ∈ x.args, 0 ≤ a ∧ a < s.regs) : GC c k f bs O n (begC x b fault s) := by
  have hr := hb.ok.regs
  unfold In.begC
  refine GC.puts _ (h.up (Nat.le_refl _) (by omega)) fun i hi => ?_
  show IR c k f bs (s.regs + b.f.regs) i
  rcases List.mem_append.1 (show i ∈ movesL s.regs 0 (if fault then x.args.reverse else x.args) ++ b.un.map fun r => k0I (s.regs + r) from hi) with hi | hi
  · refine movesL_ir _ s.regs 0 h0 ?_ (fun a hm => ?_) i hi
    · have : (if fault then x.args.reverse else x.args).length = x.args.length := by cases fault <;> simp
      rw [this]; omega
    · have : a ∈ x.args := by cases fault <;> simpa using hm
      have := ha a this
      omega
  · obtain ⟨m, hm, rfl⟩ := List.mem_map.1 hi
    have := hb.un m hm
    exact IR.k0 ⟨by omega, by omega⟩
theorem GC.longC {b : Bd} (hb : BR c b) {x : PI} {base : Int} (h : GC c k f bs O s.ps.length s) (h0 : 0 ≤ base) (hpos : 0 < s.regs) (hr : base + b.f.regs ≤ s.regs) (hx : 0 ≤ x.dst ∧ x.dst < s.regs) : GC c k f bs O (longC x b base s).ps.length (longC x b base s) := by
  rw [longC_len]
  unfold In.longC
  dsimp only
  have h1 : GC c k f bs O (s.ps.length + (b.f.parts.length + 1)) (s.goOn (jmp s.ps.length)) := GC.goOn ⟨h.ins, fun p hp => (h.ends p hp).up (Int.le_refl _) (by omega)⟩ (ER'.jmp ⟨by omega, by omega⟩)
  refine GC.at (GC.partsB hb h0 (by omega) _ (fun p hp => hp) _ 0 ⟨fun j p hp ho y hy => ?_, fun p hp => ?_⟩ ?_ ?_) _
  · by_cases hj : j < (s.goOn (jmp s.ps.length)).ps.length
    · rw [List.getElem?_append_left hj] at hp
      exact h1.ins j p hp ho y hy
    · rw [List.getElem?_append_right (by omega)] at hp
      rw [(List.mem_replicate.1 (List.mem_of_getElem? hp)).2] at hy; cases hy
  · rcases List.mem_append.1 hp with hp | hp
    · exact h1.ends p hp
    · rw [(List.mem_replicate.1 hp).2]
      have e : (s.goOn (jmp s.ps.length)).regs = s.regs := goOn_regs _ _
      exact ⟨fun _ => ⟨by show (0 : Int) ≤ 0; omega, by show (0 : Int) < (s.goOn (jmp s.ps.length)).regs; rw [e]; exact hpos⟩, fun _ => ⟨by show (0 : Int) ≤ 0; omega, by show (0 : Int) < _; omega⟩, fun _ _ => ⟨by show (0 : Int) ≤ 0; omega, by show (0 : Int) < _; omega⟩⟩
  · show base + b.f.regs ≤ (s.goOn (jmp s.ps.length)).regs
    rw [goOn_regs]; exact hr
  · show 0 ≤ x.dst ∧ x.dst < (s.goOn (jmp s.ps.length)).regs
    rw [goOn_regs]; exact hx
theorem GC.callP {b : Bd} (hb : BR c b) {x : PI} {fault : Bool} (h : GC c k f bs O s.ps.length s) (h0 : 0 ≤ s.regs) (hal : (x.args.length : Int) ≤ b.f.regs) (ha : ∀ a ∈ x.args, 0 ≤ a ∧ a < s.regs) (hx : 0 ≤ x.dst ∧ x.dst < s.regs) : GC c k f bs O (callP x b fault s).ps.length (callP x b fault s) := by
  have hr := hb.ok.regs
  have hB := h.begC hb (fault := fault) h0 hal ha
  have eR := begC_regs x b fault s
  have eL := begC_len x b fault s
  unfold In.callP
  split
  · exact h
  · rename_i p l hp
    have hpm : p ∈ b.f.parts := by rw [hp]; exact List.mem_cons_self ..
    split
    · rename_i he
      rw [put_len, puts_len, eL]
      have hc := hb.cd p hpm (.inl he)
      refine (GC.puts _ hB (IR.copy hb hpm h0 (by rw [eR]; omega))).put ?_
      rw [puts_regs, eR]
      exact IR.mv ⟨by omega, by omega⟩ ⟨by omega, by omega⟩
    · rw [← eL] at hB
      exact hB.longC hb h0 (by rw [eR]; omega) (by rw [eR]; omega) (by rw [eR]; omega)

/-! ### The function's own instructions and ends -/
theorem ir_of (h : fnP c k f = true) {p : PP} (hp : p ∈ f.parts) {x : PI} (hx : x ∈ p.ins) (hno : x.op = 32 → bodyP bs x = none) : IR c k f bs f.regs (zI x) := by
  obtain ⟨h1, h2, h3, -⟩ := fn_ins h hp hx
  have hi := (fn_part h hp).2 x hx
  unfold insP rdsP blP at hi
  simp only [Bool.and_eq_true, decide_eq_true_eq] at hi
  obtain ⟨i1, i2, -, ⟨-, i4⟩, i5⟩ := hi
  refine ⟨i1, i2, h1, h2, h3, fun q m hm => ?_, i5, hno⟩
  have q' : x.op = 32 := q
  rw [q'] at i4
  simp at i4
  exact i4 m hm
theorem er_of (h : fnP c k f = true) {p : PP} (hp : p ∈ f.parts) : ER' f.regs f.parts.length (zP p) := by
  obtain ⟨h1, h2, h3⟩ := fn_end h hp
  exact ⟨h1, h2, h3⟩
end
end Go.Proofs.Ytnaflfpkkbfnfaa.In

namespace Go.Proofs.Ytnaflfpkkbfnfaa.In
open Go.RowKit
set_option linter.unusedVariables false

/-! ### Parts that are not gone through -/
section
variable {bs : List (Option Bd)} {fault : Bool} {j : Nat} {s : Cl}
theorem put_get (i : PI) (h : s.here ≠ j) : (s.put i).ps[j]? = s.ps[j]? := by
  unfold Cl.put; split
  · rw [List.getElem?_set, if_neg h]
  · rfl
theorem goOn_get (e : PP) (h : s.here ≠ j) : (s.goOn e).ps[j]? = s.ps[j]? := by
  unfold Cl.goOn; split
  · rw [List.getElem?_set, if_neg h]
  · rfl
theorem puts_get : ∀ (l : List PI) (s : Cl), s.here ≠ j → (s.puts l).ps[j]? = s.ps[j]?
  | [], s, _ => rfl
  | i :: l, s, h => by rw [puts_cons, puts_get l _ (by rw [put_here]; exact h), put_get i h]
theorem stepB_get (x : PI) (base : Int) (first len m : Nat) (p : PP) (h : first + m ≠ j) : (stepB x base first len s m p).ps[j]? = s.ps[j]? := by
  have h1 : (s.at (first + m)).here ≠ j := h
  have e1 : ((s.at (first + m)).puts (copyL base p)).ps[j]? = s.ps[j]? := puts_get _ _ h1
  have h2 : ((s.at (first + m)).puts (copyL base p)).here ≠ j := by rw [puts_here]; exact h1
  unfold stepB
  dsimp only
  split
  · rw [goOn_get _ (by rw [put_here]; exact h2), put_get _ h2, e1]
  · rw [goOn_get _ h2, e1]
theorem partsB_get (x : PI) (base : Int) (first len : Nat) (hj : j < first) : ∀ (l : List PP) (s : Cl) (m : Nat), (partsB x base first len s m l).ps[j]? = s.ps[j]?
  | [], s, m => rfl
  | p :: l, s, m => by
    show (partsB x base first len (stepB x base first len s m p) (m + 1) l).ps[j]? = _
    rw [partsB_get x base first len hj l, stepB_get x base first len m p (by omega)]
theorem longC_get (x : PI) (b : Bd) (base : Int) (h : s.here ≠ j) (hj : j < s.ps.length) : (longC x b base s).ps[j]? = s.ps[j]? := by
  unfold longC
  dsimp only
  show (partsB x base s.ps.length b.f.parts.length _ 0 b.f.parts).ps[j]? = _
  rw [partsB_get _ _ _ _ hj]
  show ((s.goOn (jmp s.ps.length)).ps ++ _)[j]? = _
  rw [List.getElem?_append_left (by rw [goOn_len]; exact hj), goOn_get _ h]
theorem begC_get (x : PI) (b : Bd) (h : s.here ≠ j) : (begC x b fault s).ps[j]? = s.ps[j]? := by unfold begC; exact puts_get _ _ h
theorem callP_get (x : PI) (b : Bd) (h : s.here ≠ j) (hj : j < s.ps.length) : (callP x b fault s).ps[j]? = s.ps[j]? := by
  unfold callP
  split
  · rfl
  · split
    · rw [put_get _ (by rw [puts_here, begC_here]; exact h), puts_get _ _ (by rw [begC_here]; exact h), begC_get x b h]
    · rw [longC_get x b _ (by rw [begC_here]; exact h) (by rw [begC_len]; exact hj), begC_get x b h]
theorem stepI_get (x : PI) (h : s.here ≠ j) (hj : j < s.ps.length) : (stepI bs fault s x).ps[j]? = s.ps[j]? := by
  unfold stepI
  split
  · exact callP_get x _ h hj
  · exact put_get _ h
theorem foldI_get {K : Nat} {l : List PI} (hr : Rdy K bs l) : ∀ (m : List PI), (∀ x ∈ m, x ∈ l) → ∀ (s : Cl) (N : Nat), s.here < s.ps.length → N ≤ s.ps.length → j < N → (s.here ≠ j) → (m.foldl (stepI bs fault) s).ps[j]? = s.ps[j]?
  | [], _, s, N, _, _, _, _ => rfl
  | x :: m, hm, s, N, hh, hN, hj, hne => by
    have h1 := stepI_stp hr fault (first := N) s (hm x (List.mem_cons_self ..)) hh hN
    have hl := h1.len
    have h2 := h1.here
    rw [List.foldl_cons, foldI_get hr m (fun y hy => hm y (List.mem_cons_of_mem _ hy)) _ N h2.1 (by omega) hj (by rcases h2.2 with q | q <;> omega), stepI_get x hne (by omega)]
theorem stepP_get {K : Nat} {p : PP} {n : Nat} (hr : Rdy K bs p.ins) (hn : s.ps[n]? = some (zP p)) (hj : j < s.ps.length) (hne : n ≠ j) : (stepP bs fault s n).ps[j]? = s.ps[j]? := by
  have hnl := (List.getElem?_eq_some_iff.1 hn).1
  unfold stepP
  rw [hn]
  dsimp only
  rw [show (zP p).ins = p.ins.map zI from rfl, foldI_z]
  obtain ⟨s1, hs1⟩ : ∃ s1 : Cl, { s with ps := s.ps.set n { zP p with ins := [] }, here := n } = s1 := ⟨_, rfl⟩
  have h1l : s1.ps.length = s.ps.length := by rw [← hs1]; simp
  have h1h : s1.here = n := by rw [← hs1]
  have h1g : s1.ps[j]? = s.ps[j]? := by rw [← hs1]; show (s.ps.set n _)[j]? = _; rw [List.getElem?_set, if_neg hne]
  show ((p.ins.foldl (stepI bs fault) _).goOn (zP p)).ps[j]? = _
  rw [show ({ s with ps := s.ps.set n { zP p with ins := [] }, here := n } : Cl) = s1 from hs1]
  obtain ⟨a1, a2, a3, a4, a5, a6⟩ := foldI_stp hr fault (first := s1.ps.length) p.ins (fun x h => h) s1 (by omega) (Nat.le_refl _)
  rw [goOn_get _ (by rcases a6 with q | q <;> omega), foldI_get hr p.ins (fun x h => h) s1 s1.ps.length (by omega) (Nat.le_refl _) (by omega) (by omega), h1g]
end

/-! ### All of it -/
section
variable {c : PC} {k : Nat} {f : PF} {fault : Bool} {bs : List (Option Bd)} {O : Nat → Prop}
/-- A body that stands for a function of the code's. -/
theorem bd_br {g : PF} {m : Nat} (h : fnP c m g = true) (hs : smallP g = true) : BR c ⟨zF g, unP g⟩ := by
  obtain ⟨s1, s2, s3, s4⟩ := small_has hs
  have hz : ∀ p ∈ (zF g).parts, ∃ q ∈ g.parts, p = zP q := fun p hp => by
    obtain ⟨q, h1, h2⟩ := List.mem_map.1 hp
    exact ⟨q, h1, h2.symm⟩
  refine ⟨small_bd h hs, fun p hp x hx => ?_, fun p hp q => ?_, fun r hr => ?_⟩
  · obtain ⟨q, hq, rfl⟩ := hz p hp
    obtain ⟨y, hy, rfl⟩ := List.mem_map.1 (show x ∈ q.ins.map zI from hx)
    obtain ⟨i1, i2, i3, -⟩ := fn_ins h hq hy
    have hi := (fn_part h hq).2 y hy
    unfold insP at hi
    simp only [Bool.and_eq_true, decide_eq_true_eq] at hi
    obtain ⟨k1, k2, -, -, k5⟩ := hi
    have ho := callsP_zero s1 q hq y hy
    unfold immP at k5
    refine ⟨k1, k2, fun e => ?_, fun e => ?_, fun e => ?_, fun e => ?_, ho, i1, i2, i3⟩
    · have e' : y.op = 26 := e
      rw [if_pos e', s4] at k5
      unfold blP at k5
      simp at k5
      omega
    · have e' : y.op = 27 := e
      rw [if_neg (by omega), if_pos e'] at k5
      exact k5
    · have e' : y.op = 28 := e
      rw [if_neg (by omega), if_neg (by omega), if_pos e'] at k5
      simp at k5
      exact k5
    · have e' : y.op = 29 := e
      rw [if_neg (by omega), if_neg (by omega), if_neg (by omega), if_pos e'] at k5
      exact k5
  · obtain ⟨y, hy, rfl⟩ := hz p hp
    exact (fn_end h hy).1 q
  · have := unP_mem hr
    exact ⟨this.2.1, this.2.2⟩
theorem GC.stepI (hv : ∀ m g, c.fns[m]? = some g → fnP c m g = true) (hk : c.fns[k]? = some f) {p : PP} (hp : p ∈ f.parts) {x : PI} (hx : x ∈ p.ins) {s : Cl} (h : GC c k f (bsP c.fns) O s.ps.length s) (hr : f.regs ≤ s.regs) (hr0 : 0 ≤ s.regs) :
    GC c k f (bsP c.fns) O (stepI (bsP c.fns) fault s x).ps.length (stepI (bsP c.fns) fault s x) := by
  have hf := hv k f hk
  unfold In.stepI
  split
  · rename_i b hb
    have hop : x.op = 32 := by
      unfold bodyP at hb
      split at hb
      · assumption
      · cases hb
    obtain ⟨i1, -, -, i4⟩ := fn_ins hf hp hx
    obtain ⟨-, g, hg, hl⟩ := i4 hop
    have e2 : (bsP c.fns)[x.imm.toNat]? = some (bdOf g) := by unfold bsP; rw [List.getElem?_map, hg]; rfl
    unfold bodyP at hb
    rw [if_pos hop, e2] at hb
    dsimp only at hb
    unfold bdOf at hb
    split at hb
    · rename_i hs
      injection hb with hb
      subst hb
      have hbr := bd_br (hv _ g hg) hs
      have hh := fn_head (hv _ g hg)
      have ha := (ir_of (bs := []) hf hp hx (fun _ => by unfold bodyP; rw [if_pos hop]; rfl)).ar hop
      have hd := i1 (by rw [hop]; rfl)
      exact h.callP hbr hr0 (by show (x.args.length : Int) ≤ g.regs; omega) (fun a hm => by have := ha a hm; omega) (by omega)
    · cases hb
  · rename_i hb
    rw [put_len]
    exact h.put ((ir_of hf hp hx (fun _ => hb)).up hr)
theorem GC.fold (hv : ∀ m g, c.fns[m]? = some g → fnP c m g = true) (hk : c.fns[k]? = some f) {p : PP} (hp : p ∈ f.parts) : ∀ (l : List PI), (∀ x ∈ l, x ∈ p.ins) → ∀ (s : Cl), s.here < s.ps.length → GC c k f (bsP c.fns) O s.ps.length s → f.regs ≤ s.regs → 0 ≤ s.regs → GC c k f (bsP c.fns) O (l.foldl (In.stepI (bsP c.fns) fault) s).ps.length (l.foldl (In.stepI (bsP c.fns) fault) s)
  | [], _, s, _, h, _, _ => h
  | x :: l, hl, s, hh, h, hr, hr0 => by
    have h1 := stepI_stp (bsP_rdy hv hk hp) fault (first := s.ps.length) s (hl x (List.mem_cons_self ..)) hh (Nat.le_refl _)
    have g1 := h1.r0
    rw [List.foldl_cons]
    exact GC.fold hv hk hp l (fun y hy => hl y (List.mem_cons_of_mem _ hy)) _ h1.here.1 (h.stepI hv hk hp (hl x (List.mem_cons_self ..)) hr hr0) (by omega) (by omega)
theorem GC.done (hv : ∀ m g, c.fns[m]? = some g → fnP c m g = true) (hk : c.fns[k]? = some f) : ∀ n, n ≤ f.parts.length → GC c k f (bsP c.fns) (fun j => j < n ∨ f.parts.length ≤ j) (doneC (bsP c.fns) fault f n).ps.length (doneC (bsP c.fns) fault f n) ∧ f.regs ≤ (doneC (bsP c.fns) fault f n).regs ∧ f.parts.length ≤ (doneC (bsP c.fns) fault f n).ps.length ∧ ∀ j, n ≤ j → j < f.parts.length → (doneC (bsP c.fns) fault f n).ps[j]? = (f.parts[j]?).map zP
  | 0, _ => by
    have hf := hv k f hk
    have e : (doneC (bsP c.fns) fault f 0).ps = f.parts.map zP := rfl
    have e2 : (doneC (bsP c.fns) fault f 0).regs = f.regs := rfl
    refine ⟨⟨fun j p hp ho x hx => ?_, fun p hp => ?_⟩, by rw [e2]; exact Int.le_refl _, by rw [e]; simp, fun j _ _ => by rw [e, List.getElem?_map]⟩
    · rw [e] at hp
      have := (List.getElem?_eq_some_iff.1 hp).1
      rw [List.length_map] at this
      rcases ho with ho | ho <;> omega
    · rw [e] at hp
      obtain ⟨q, hq, rfl⟩ := List.mem_map.1 hp
      rw [e, e2, List.length_map]
      exact er_of hf hq
  | n + 1, hn => by
    have hf := hv k f hk
    obtain ⟨h1, h2, h3, h4⟩ := GC.done hv hk n (by omega)
    obtain ⟨p, hp⟩ := get_of_lt (l := f.parts) (k := n) (by omega)
    have hpm := List.mem_of_getElem? hp
    have hz : (doneC (bsP c.fns) fault f n).ps[n]? = some (zP p) := by rw [h4 n (Nat.le_refl _) (by omega), hp]; rfl
    have hrd := bsP_rdy hv hk hpm
    have hh := fn_head hf
    rw [doneC_succ]
    obtain ⟨s, hs⟩ : ∃ s, doneC (bsP c.fns) fault f n = s := ⟨_, rfl⟩
    rw [hs] at h1 h2 h3 h4 hz ⊢
    have hbd := stepP_bd hrd fault hz
    have hnl := (List.getElem?_eq_some_iff.1 hz).1
    refine ⟨?_, by omega, by omega, fun j hj1 hj2 => by rw [stepP_get hrd hz (by omega) (by omega)]; exact h4 j (by omega) hj2⟩
    obtain ⟨s1, hs1⟩ : ∃ s1 : Cl, { s with ps := s.ps.set n { zP p with ins := [] }, here := n } = s1 := ⟨_, rfl⟩
    have e1 : s1.ps = s.ps.set n { zP p with ins := [] } := by rw [← hs1]
    have h1l : s1.ps.length = s.ps.length := by rw [e1]; simp
    have h1h : s1.here = n := by rw [← hs1]
    have h1r : s1.regs = s.regs := by rw [← hs1]
    have hez := h1.ends _ (List.mem_of_getElem? hz)
    have g1 : GC c k f (bsP c.fns) (fun j => j < n + 1 ∨ f.parts.length ≤ j) s1.ps.length s1 := by
      refine ⟨fun j q hq ho x hx => ?_, fun q hq => ?_⟩
      · rw [e1, List.getElem?_set] at hq
        split at hq
        · injection hq with hq
          subst hq
          cases hx
        · rename_i hne
          rw [h1r]
          exact h1.ins j q hq (by rcases ho with ho | ho; exact .inl (by omega); exact .inr ho) x hx
      · rw [e1] at hq
        rw [h1l, h1r]
        rcases List.mem_or_eq_of_mem_set hq with hq | rfl
        · exact h1.ends q hq
        · exact ⟨hez.cd, hez.nx, hez.el⟩
    have g2 := GC.fold (fault := fault) hv hk hpm p.ins (fun x hx => hx) s1 (by omega) g1 (by omega) (by omega)
    obtain ⟨a1, a2, a3, a4, a5, a6⟩ := foldI_stp hrd fault (first := s1.ps.length) p.ins (fun x h => h) s1 (by omega) (Nat.le_refl _)
    have e3 : stepP (bsP c.fns) fault s n = (p.ins.foldl (In.stepI (bsP c.fns) fault) s1).goOn (zP p) := by
      unfold stepP
      rw [hz]
      dsimp only
      rw [show (zP p).ins = p.ins.map zI from rfl, foldI_z, hs1]
    rw [e3, goOn_len]
    exact g2.goOn (hez.up (by omega) (by omega))
end
end Go.Proofs.Ytnaflfpkkbfnfaa.In

namespace Go.Proofs.Ytnaflfpkkbfnfaa.In
open Go.RowKit
set_option linter.unusedVariables false

theorem validP_ev {a c : PC} (h : EvC a c) : validP a = validP c := by
  have hz : a.fns.map zF = c.fns.map zF := evl_map (g := zF) (fun _ _ => evf_z) h.fns
  have hl : lastP a = lastP c := by
    unfold lastP
    rw [h.fns.len]
    have e : (a.fns[c.fns.length - 1]?).map zF = (c.fns[c.fns.length - 1]?).map zF := by
      have := congrArg (·[c.fns.length - 1]?) hz
      simpa [List.getElem?_map] using this
    cases h1 : a.fns[c.fns.length - 1]? with
    | none => cases h2 : c.fns[c.fns.length - 1]? with
      | none => rfl
      | some g => rw [h1, h2] at e; cases e
    | some f => cases h2 : c.fns[c.fns.length - 1]? with
      | none => rw [h1, h2] at e; cases e
      | some g =>
        rw [h1, h2] at e
        injection e with e
        dsimp only
        rw [(z_evf e).params]
  have hf : ∀ (l m : List PF) (k : Nat), l.map zF = m.map zF → fnsP a k l = fnsP c k m := by
    intro l
    induction l with
    | nil => intro m k h; cases m with
      | nil => rfl
      | cons a m => cases h
    | cons x l ih => intro m k h'; cases m with
      | nil => cases h'
      | cons y m =>
        rw [List.map_cons, List.map_cons] at h'
        injection h' with h1 h2
        unfold fnsP
        rw [fnP_z (c := c) (d := a) h.gl hz k h1, ih m (k + 1) h2]
  unfold validP rightP hdP
  rw [codeN_z h, hl, hf _ _ 0 hz, h.gl, h.ini]
theorem fnsP_at {c : PC} : ∀ (l : List PF) (k0 : Nat), (∀ (i : Nat) (f : PF), l[i]? = some f → fnP c (k0 + i) f = true) → fnsP c k0 l = true
  | [], k0, h => rfl
  | x :: l, k0, h => by
    simp only [fnsP, Bool.and_eq_true]
    refine ⟨h 0 x rfl, fnsP_at l (k0 + 1) fun i f hf => ?_⟩
    have := h (i + 1) f (by simpa using hf)
    rwa [show k0 + (i + 1) = k0 + 1 + i by omega] at this
section
variable {c d : PC} {k : Nat} {f g : PF} {bs : List (Option Bd)}
theorem ins_of (hg : d.gl = c.gl) (hp : ∀ j : Nat, (d.fns[j]?).map (fun g : PF => g.params) = (c.fns[j]?).map (fun g : PF => g.params)) (hs : g.slots = f.slots) {x : PI} (h : IR c k f bs g.regs x) : insP d k g x = true := by
  have e6 : immP d k g x = immP c k f x := by
    unfold immP
    rw [hs, hg]
    have h5 := hp x.imm.toNat
    cases h1 : d.fns[x.imm.toNat]? with
    | none => cases h2 : c.fns[x.imm.toNat]? with
      | none => rfl
      | some g => rw [h1, h2] at h5; cases h5
    | some g' => cases h2 : c.fns[x.imm.toNat]? with
      | none => rw [h1, h2] at h5; cases h5
      | some g => rw [h1, h2] at h5; simp at h5; dsimp only; rw [h5]
  unfold insP
  rw [e6, h.im, h.kn, decide_eq_true h.ty]
  have h1 : wtP g x = true := by
    unfold wtP blP
    cases hw : wrP x.op with
    | false => rfl
    | true => have := h.dst hw; simp [this.1, this.2]
  have h2 : rdsP g x = true := by
    unfold rdsP blP
    simp only [Bool.and_eq_true]
    refine ⟨⟨?_, ?_⟩, ?_⟩
    · by_cases q : 0 < rdP x.op
      · have := h.a q; simp [this.1, this.2]
      · simp [q]
    · by_cases q : 1 < rdP x.op
      · have := h.b q; simp [this.1, this.2]
      · simp [q]
    · by_cases q : x.op = 32
      · simp only [q, beq_self_eq_true, Bool.not_true, Bool.false_or, List.all_eq_true]
        intro m hm
        have := h.ar q m hm
        simp [this.1, this.2]
      · simp [q]
  rw [h1, h2]; rfl
theorem end_of {p : PP} (h : ER' g.regs g.parts.length p) : endP g p = true := by
  unfold endP blP
  split
  · rename_i he
    have := h.cd (.inl he); simp [this.1, this.2]
  · rename_i he
    have he' : p.e = false := by simpa using he
    have h1 := h.nx he'
    split
    · simp [h1.1, h1.2]
    · rename_i hc
      have h2 := h.cd (.inr (by omega))
      have h3 := h.el he' (by omega)
      simp [h1.1, h1.2, h2.1, h2.2, h3.1, h3.2]
theorem fn_of (hg : d.gl = c.gl) (hp : ∀ j : Nat, (d.fns[j]?).map (fun g : PF => g.params) = (c.fns[j]?).map (fun g : PF => g.params)) (hs : g.slots = f.slots) (hf : fnP c k f = true) (h1 : g.params = f.params) (h2 : f.regs ≤ g.regs) (h3 : g.regs ≤ 20000) (h4 : g.parts ≠ [])
    (h5 : ∀ p ∈ g.parts, ER' g.regs g.parts.length p) (h6 : ∀ p ∈ g.parts, ∀ x ∈ p.ins, IR c k f bs g.regs x) : fnP d k g = true := by
  have hh := fn_head hf
  have hroom : roomL 65536 f.slots = true := by
    unfold fnP headP at hf
    simp only [Bool.and_eq_true] at hf
    exact hf.1.2.2.2.2
  unfold fnP headP
  simp only [Bool.and_eq_true, List.all_eq_true]
  refine ⟨⟨?_, ?_, ?_, ?_, ?_⟩, fun p hp' => ?_⟩
  · rw [h1]; simp; omega
  · rw [h1]; simp; omega
  · simp; omega
  · simpa using h4
  · rw [hs]; exact hroom
  · unfold ptP
    simp only [Bool.and_eq_true, List.all_eq_true]
    exact ⟨end_of (h5 p hp'), fun x hx => ins_of hg hp hs (h6 p hp' x hx)⟩
end
section
variable {c : PC} (hv : ∀ m g, c.fns[m]? = some g → fnP c m g = true) {k : Nat} {f : PF} (hk : c.fns[k]? = some f) (fault : Bool)
include hv hk
theorem done_bd : ∀ n, n ≤ f.parts.length → cntS (doneC (bsP c.fns) fault f n).ps ≤ cntS f.parts + 62 * iTo f.parts n ∧ (doneC (bsP c.fns) fault f n).regs ≤ f.regs + 20 * iTo f.parts n
  | 0, _ => by
    show cntS (f.parts.map zP) ≤ _ ∧ f.regs ≤ _
    rw [cntS_zP]
    exact ⟨by omega, by omega⟩
  | n + 1, hn => by
    obtain ⟨h1, h2⟩ := done_bd n (by omega)
    obtain ⟨-, -, -, h4⟩ := GC.done (fault := fault) hv hk n (by omega)
    obtain ⟨p, hp⟩ := get_of_lt (l := f.parts) (k := n) (by omega)
    have hz : (doneC (bsP c.fns) fault f n).ps[n]? = some (zP p) := by rw [h4 n (Nat.le_refl _) (by omega), hp]; rfl
    have hb := stepP_bd (bsP_rdy hv hk (List.mem_of_getElem? hp)) fault hz
    rw [doneC_succ, iTo_succ hp]
    exact ⟨by omega, by omega⟩
/-- What comes of a function. -/
structure OutOk (c : PC) (k : Nat) (f g : PF) : Prop where
  params : g.params = f.params
  slots : g.slots = f.slots
  rl : f.regs ≤ g.regs
  rh : g.regs ≤ 20000
  ne : g.parts ≠ []
  ends : ∀ p ∈ g.parts, ER' g.regs g.parts.length p
  cnt : cntS g.parts ≤ 63 * cntS f.parts
  ins : ∃ bs, (takesP f = true → bs = bsP c.fns) ∧ ∀ p ∈ g.parts, ∀ x ∈ p.ins, IR c k f bs g.regs x
theorem out_ok (hc : cntS f.parts ≤ 400) : OutOk c k f (outF (bsP c.fns) fault f) := by
  have hf := hv k f hk
  have hh := fn_head hf
  unfold outF
  cases ht : takesP f with
  | false =>
    rw [if_neg (by simp)]
    have e : (zF f).parts = f.parts.map zP := rfl
    refine ⟨rfl, rfl, Int.le_refl _, hh.2.2.1, by rw [e]; simpa using hh.2.2.2, fun p hp => ?_, by rw [e, cntS_zP]; omega, [], (fun q => by rw [ht] at q; cases q), fun p hp x hx => ?_⟩
    · obtain ⟨q, hq, rfl⟩ := List.mem_map.1 hp
      rw [e, List.length_map]
      exact er_of hf hq
    · obtain ⟨q, hq, rfl⟩ := List.mem_map.1 hp
      obtain ⟨y, hy, rfl⟩ := List.mem_map.1 (show x ∈ q.ins.map zI from hx)
      exact ir_of hf hq hy (fun _ => by unfold bodyP; split <;> rfl)
  | true =>
    rw [if_pos rfl]
    obtain ⟨g1, g2, g3, -⟩ := GC.done (fault := fault) hv hk f.parts.length (Nat.le_refl _)
    obtain ⟨b1, b2⟩ := done_bd hv hk fault f.parts.length (Nat.le_refl _)
    have hi := iTo_all f.parts
    have hr : f.regs ≤ 1000 := by
      unfold takesP at ht
      simp only [Bool.and_eq_true, decide_eq_true_eq] at ht
      exact ht.2.2
    have hpl := List.length_pos_iff.2 hh.2.2.2
    refine ⟨rfl, rfl, g2, ?_, ?_, g1.ends, ?_, bsP c.fns, fun _ => rfl, fun p hp x hx => ?_⟩
    · show (doneC (bsP c.fns) fault f f.parts.length).regs ≤ 20000
      omega
    · show (doneC (bsP c.fns) fault f f.parts.length).ps ≠ []
      intro q
      rw [q] at g3
      rw [List.length_nil] at g3
      omega
    · show cntS (doneC (bsP c.fns) fault f f.parts.length).ps ≤ _
      omega
    · obtain ⟨j, hj⟩ := List.getElem?_of_mem (show p ∈ (doneC (bsP c.fns) fault f f.parts.length).ps from hp)
      exact g1.ins j p hj (by omega) x hx
end
theorem sum_le {c : PC} {l : List PF} {φ : PF → PF} (h : ∀ f ∈ l, cntS (φ f).parts ≤ 63 * cntS f.parts) : ((l.map φ).map fnN).sum ≤ 63 * (l.map fnN).sum ∧ 0 ≤ ((l.map φ).map fnN).sum := by
  induction l with
  | nil => simp
  | cons f l ih =>
    have h1 := h f (List.mem_cons_self ..)
    obtain ⟨i1, i2⟩ := ih (fun g hg => h g (List.mem_cons_of_mem _ hg))
    simp only [List.map_cons, List.sum_cons]
    rw [cntS_fnN, cntS_fnN]
    exact ⟨by omega, by omega⟩
theorem inl_valid {c : PC} {w : World} (hok : c.ok w) (hv : validP c = 0) (hn : codeN c ≤ 400) (fault : Bool) : validP (inlC fault c) = 0 := by
  obtain ⟨vc, hroom, hli, fl, hfl, hpl⟩ := Dn.valid_vc hok hv
  have hfn : ∀ m g, c.fns[m]? = some g → fnP c m g = true := vc.fn
  have hcl : ∀ f ∈ c.fns, cntS f.parts ≤ 400 := fun f hf => by have := cnt_le hf; omega
  have hget : ∀ j : Nat, (inlC fault c).fns[j]? = (c.fns[j]?).map (outF (bsP c.fns) fault) := fun j => by show (c.fns.map _)[j]? = _; rw [List.getElem?_map]
  have hoo : ∀ j f, c.fns[j]? = some f → OutOk c j f (outF (bsP c.fns) fault f) := fun j f hj => out_ok hfn hj fault (hcl f (List.mem_of_getElem? hj))
  have hprm : ∀ j : Nat, ((inlC fault c).fns[j]?).map (fun g : PF => g.params) = (c.fns[j]?).map (fun g : PF => g.params) := fun j => by
    rw [hget j]
    cases hj : c.fns[j]? with
    | none => rfl
    | some f => show some (outF (bsP c.fns) fault f).params = some f.params; rw [(hoo j f hj).params]
  have hsum := sum_le (c := c) (l := c.fns) (φ := outF (bsP c.fns) fault) (fun f hf => by
    obtain ⟨j, hj⟩ := List.getElem?_of_mem hf
    exact (hoo j f hj).cnt)
  have hlen : (inlC fault c).fns.length = c.fns.length := by show (c.fns.map _).length = _; simp
  unfold validP
  have hN : codeN (inlC fault c) ≤ 25200 ∧ 0 ≤ codeN (inlC fault c) := by
    unfold codeN at hn ⊢
    show ((c.fns.map (outF (bsP c.fns) fault)).map fnN).sum ≤ _ ∧ 0 ≤ ((c.fns.map (outF (bsP c.fns) fault)).map fnN).sum
    exact ⟨by omega, hsum.2⟩
  rw [if_neg (by rw [IntKind.wrap_i64]; omega)]
  have hr : rightP (inlC fault c) = true := by
    unfold rightP hdP
    simp only [Bool.and_eq_true]
    refine ⟨⟨?_, ?_, hroom⟩, fnsP_at _ _ fun i g hg => ?_⟩
    · unfold lastP
      rw [hlen]
      have := hprm (c.fns.length - 1)
      rw [hfl] at this
      cases h1 : (inlC fault c).fns[c.fns.length - 1]? with
      | none => rw [h1] at this; cases this
      | some g =>
        rw [h1] at this
        simp at this
        dsimp only
        rw [this, hpl]; rfl
    · exact decide_eq_true hli
    · rw [Nat.zero_add]
      rw [hget i] at hg
      cases hj : c.fns[i]? with
      | none => rw [hj] at hg; cases hg
      | some f =>
        rw [hj] at hg
        injection hg with hg
        subst hg
        have o := hoo i f hj
        obtain ⟨bs, -, hi⟩ := o.ins
        exact fn_of (c := c) (d := inlC fault c) rfl hprm o.slots (hfn i f hj) o.params o.rl o.rh o.ne o.ends hi
  rw [hr]; rfl
/-- No call of a small function is left in a function in which calls are done. -/
theorem inl_small {c : PC} {w : World} (hok : c.ok w) (hv : validP c = 0) (hn : codeN c ≤ 400) {fault : Bool} {k : Nat} {f : PF} (hk : c.fns[k]? = some f) (ht : takesP f = true) {p : PP} (hp : p ∈ (outF (bsP c.fns) fault f).parts) {x : PI} (hx : x ∈ p.ins) (ho : x.op = 32) :
    0 ≤ x.imm ∧ ∃ h, c.fns[x.imm.toNat]? = some h ∧ smallP h = false := by
  have hfn : ∀ m g, c.fns[m]? = some g → fnP c m g = true := (Dn.valid_vc hok hv).1.fn
  have o := out_ok hfn hk fault (by have := cnt_le (List.mem_of_getElem? hk); omega)
  obtain ⟨bs, hb, hi⟩ := o.ins
  have h := hi p hp x hx
  have hno := h.no ho
  rw [hb ht] at hno
  have him := h.im
  unfold immP blP at him
  rw [ho] at him
  simp only [show ¬ (32 : Int) = 26 by decide, show ¬ (32 : Int) = 27 by decide, show ¬ (32 : Int) = 28 by decide, show ¬ (32 : Int) = 29 by decide, if_false, if_true, Bool.and_eq_true, decide_eq_true_eq] at him
  refine ⟨him.1.1, ?_⟩
  cases hg : c.fns[x.imm.toNat]? with
  | none => rw [hg] at him; cases him.2
  | some g =>
    refine ⟨g, rfl, ?_⟩
    unfold bodyP at hno
    have e2 : (bsP c.fns)[x.imm.toNat]? = some (bdOf g) := by unfold bsP; rw [List.getElem?_map, hg]; rfl
    rw [if_pos ho, e2] at hno
    dsimp only at hno
    unfold bdOf at hno
    split at hno
    · cases hno
    · rename_i hs; simpa using hs
end Go.Proofs.Ytnaflfpkkbfnfaa.In
