/-
  The reader of layer 5 as plain functions on tokens: what each rule of the grammar reads, or the fault; no program; no conditions but those that each fact bears.
  What every rule of the plain reader keeps: it ends, takes tokens, counts its nodes and closes its brackets; no program; no conditions but those that each fact bears.
  Every rule of the plain reader ends, within steps that the tokens bound, and keeps what it should; no program; the conditions: the tokens are well formed.
  More steps change nothing of what the plain reader answers; so what each rule keeps holds whenever it ends; no program; the conditions: the tokens are well formed.
-/
import Derived.Test.YtoilhcklflmamaaGreatDoorKLeft
import Derived.Test.YtoilhcklflmamaaGreatDoorKPlainC
namespace Go.Proofs.YtoilhcklflmamaaGreatDoor
set_option linter.unusedVariables false
namespace Pr

abbrev Tok := Lx.Tk × Nat

/-- Where a reader stands: the tokens from the one at hand on, how many brackets are open, how many nodes there are. -/
structure St where
  t : List Tok
  o : Int
  c : Nat

/-- How reading ends: with something; with a fault (2: too long, 4: too deep, 5: misplaced) at a place; or the steps were too few. -/
inductive Rs (α : Type) where
  | ok (a : α) (s : St) : Rs α
  | bad (f : Nat) (p : Nat) : Rs α
  | out : Rs α

abbrev M (α : Type) := St → Rs α
def Rs.bnd {α β : Type} (r : Rs α) (f : α → St → Rs β) : Rs β :=
  match r with
  | .ok a s => f a s
  | .bad k p => .bad k p
  | .out => .out
@[simp] theorem bnd_ok {α β : Type} (a : α) (s : St) (f : α → St → Rs β) : (Rs.ok a s).bnd f = f a s := rfl
@[simp] theorem bnd_bad {α β : Type} (k p : Nat) (f : α → St → Rs β) : (Rs.bad k p : Rs α).bnd f = .bad k p := rfl
@[simp] theorem bnd_out {α β : Type} (f : α → St → Rs β) : (Rs.out : Rs α).bnd f = .out := rfl

def eot : Tok := (⟨0, [], 0, 0⟩, 0)
def hd (s : St) : Tok := s.t.headD eot
/-- The token at hand, and its text. -/
abbrev tx (s : St) : List UInt8 := (hd s).1.text
def opensB (x : List UInt8) : Bool := x == [40] || x == [123] || x == [91]
def closesB (x : List UInt8) : Bool := x == [41] || x == [125] || x == [93]
/-- How many brackets are open behind the token at hand. -/
def o1 (s : St) : Int := if opensB (tx s) then s.o + 1 else if closesB (tx s) then s.o - 1 else s.o
/-- Behind the token at hand. -/
def s1 (s : St) : St := ⟨s.t.tail, o1 s, s.c⟩
def takeM (s : St) : Rs Unit := if opensB (tx (s1 s)) && (s1 s).o == 40 then .bad 4 (hd (s1 s)).2 else .ok () (s1 s)
def failM {α : Type} (s : St) : Rs α := .bad 5 (hd s).2
def tryM (x : List UInt8) (s : St) : Rs Bool := if tx s = x then (takeM s).bnd fun _ s => .ok true s else .ok false s
def needM (x : List UInt8) (s : St) : Rs Unit := if tx s = x then takeM s else failM s
def nodeM (s : St) : Rs Unit := if 4000 < s.c + 1 then .bad 2 (hd s).2 else .ok () ⟨s.t, s.o, s.c + 1⟩
def nameM (s : St) : Rs (List UInt8) := if (hd s).1.kind = 1 then (takeM s).bnd fun _ s' => .ok (tx s) s' else failM s
def numberM (s : St) : Rs Lx.Tk := if (hd s).1.kind = 3 then (takeM s).bnd fun _ s' => .ok (hd s).1 s' else failM s
def countM (s : St) : Rs Int := if (hd s).1.kind = 3 ∧ (hd s).1.ty = 4 ∧ 0 ≤ (hd s).1.n then (takeM s).bnd fun _ s' => .ok (hd s).1.n s' else failM s
def intM (s : St) : Rs Nat := if Lx.intT (tx s) < 6 then (takeM s).bnd fun _ s' => .ok (Lx.intT (tx s)) s' else failM s

/-- The signs of operations of two numbers, and how strongly they bind. -/
def ops : List (List UInt8 × Nat) := [([], 0), ([43], 9), ([45], 9), ([42], 10), ([47], 10), ([37], 10), ([38], 5), ([124], 3), ([94], 4), ([60, 60], 8), ([62, 62], 8), ([60], 7), ([60, 61], 7), ([62], 7), ([62, 61], 7), ([61, 61], 6), ([33, 61], 6), ([38, 38], 2), ([124, 124], 1)]
/-- The operation whose sign a text is; else 0. -/
def opT (x : List UInt8) : Nat := ((ops.findIdx? fun q => decide (0 < q.2) && (x == q.1)).getD 0)
def powT (k : Nat) : Nat := ((ops[k]?).map (·.2)).getD 0

abbrev bs (l : List UInt8) : ByteArray := ⟨l.toArray⟩
/-- A node's fields. -/
abbrev nk (k : Int) : NF := ⟨k, 0, 0, 0, 0, 0, 0, ⟨#[]⟩, ⟨#[]⟩⟩
abbrev Nd := NF × Fo
/-- A list of one. -/
def one (x : Nd) : Fo := .cons x.1 none 0 x.2 .nil

inductive NT where
  | item | field | param | block | statement | choice | loop | assignment | argument | lvalue | bracketed | expression | unary | opened | literal
  | function (t : Nat) (nm : List UInt8)
  | structured (k : Int) (of : List UInt8)
  | variable (v : NF) (first : Bool)
  | call (v : NF) (k : Fo)
  | binary (least : Nat)
  | ops (least : Nat) (left : Nd)
  | prefixed (v : NF)
  | rep (x : NT) (l : Fo)
  | more (x : NT) (l : Fo)
  | items (l : Fo)

def rd : Nat → NT → St → Rs Nd
  | 0, _, _ => .out
  | n + 1, nt, s =>
    match nt with
    | .items l => if (hd s).1.kind = 0 then .ok (nk 1, l) s else (rd n .item s).bnd fun x => rd n (.items (l.app (one x)))
    | .item => (tryM [115, 116, 114, 117, 99, 116] s).bnd fun b s => if b
        then (nameM s).bnd fun nm s => if tx s = [123]
          then (nodeM s).bnd fun _ s => (needM [123] s).bnd fun _ s => (rd n (.rep .field .nil) s).bnd fun l s => .ok (⟨2, 0, 0, 0, 0, 0, 0, bs nm, ⟨#[]⟩⟩, l.2) s
          else rd n (.structured 4 nm) s
        else (intM s).bnd fun t s => (nameM s).bnd fun nm s => if tx s = [40] then rd n (.function t nm) s else rd n (.variable ⟨4, 0, 0, t, 0, 0, 0, bs nm, ⟨#[]⟩⟩ false) s
    | .field => (intM s).bnd fun t s => (nameM s).bnd fun nm s => (nodeM s).bnd fun _ s => (needM [59] s).bnd fun _ s => .ok (⟨3, 0, 0, t, 0, 0, 0, bs nm, ⟨#[]⟩⟩, .nil) s
    | .function t nm => (nodeM s).bnd fun _ s => (needM [40] s).bnd fun _ s => (tryM [41] s).bnd fun b s =>
        (if b then Rs.ok (nk 0, .nil) s else (rd n .param s).bnd fun x => rd n (.more .param (one x))).bnd fun l s => (rd n .block s).bnd fun x s => .ok (⟨5, 0, 0, t, 0, 0, 0, bs nm, ⟨#[]⟩⟩, l.2.app (one x)) s
    | .param => (intM s).bnd fun t s => (tryM [42] s).bnd fun b s => (nameM s).bnd fun nm s => (nodeM s).bnd fun _ s => .ok (⟨6, 0, if b then 3 else 0, t, 0, 0, 0, bs nm, ⟨#[]⟩⟩, .nil) s
    | .structured k of => (nameM s).bnd fun nm s => (nodeM s).bnd fun _ s => (needM [59] s).bnd fun _ s => .ok (⟨k, 0, 2, 0, 0, 0, 0, bs nm, bs of⟩, .nil) s
    | .variable v first => (nodeM s).bnd fun _ s => (tryM [91] s).bnd fun b s => if b
        then (countM s).bnd fun k s => (needM [93] s).bnd fun _ s => (needM [59] s).bnd fun _ s => .ok ({ v with tk := 1, tn := k }, .nil) s
        else (tryM [61] s).bnd fun b s => if b
          then (rd n (if first then .expression else .literal) s).bnd fun x s => (needM [59] s).bnd fun _ s => .ok (v, one x) s
          else (needM [59] s).bnd fun _ s => .ok (v, .nil) s
    | .block => (nodeM s).bnd fun _ s => (needM [123] s).bnd fun _ s => (rd n (.rep .statement .nil) s).bnd fun l s => .ok (nk 7, l.2) s
    | .statement => if Lx.intT (tx s) < 6
        then (intM s).bnd fun t s => (nameM s).bnd fun nm s => rd n (.variable ⟨8, 0, 0, t, 0, 0, 0, bs nm, ⟨#[]⟩⟩ true) s
        else (tryM [115, 116, 114, 117, 99, 116] s).bnd fun b s => if b then (nameM s).bnd fun nm s => rd n (.structured 8 nm) s
        else (tryM [105, 102] s).bnd fun b s => if b then rd n .choice s
        else (tryM [102, 111, 114] s).bnd fun b s => if b then rd n .loop s
        else (tryM [112, 114, 105, 110, 116] s).bnd fun b s => if b then (nodeM s).bnd fun _ s => (rd n .bracketed s).bnd fun x s => (needM [59] s).bnd fun _ s => .ok (nk 12, one x) s
        else (tryM [114, 101, 116, 117, 114, 110] s).bnd fun b s => if b then (nodeM s).bnd fun _ s => (rd n .expression s).bnd fun x s => (needM [59] s).bnd fun _ s => .ok (nk 14, one x) s
        else rd n .assignment s
    | .choice => (nodeM s).bnd fun _ s => (rd n .bracketed s).bnd fun x s => (rd n .block s).bnd fun y s => (tryM [101, 108, 115, 101] s).bnd fun b s => if b
        then (rd n .block s).bnd fun z s => .ok (nk 10, ((one x).app (one y)).app (one z)) s
        else .ok (nk 10, (one x).app (one y)) s
    | .loop => (nameM s).bnd fun nm s => (nodeM s).bnd fun _ s => (needM [61] s).bnd fun _ s => (countM s).bnd fun a s => (needM [116, 111] s).bnd fun _ s => (countM s).bnd fun b s => (rd n .block s).bnd fun x s => .ok (⟨11, 0, 0, 0, 0, a, b, bs nm, ⟨#[]⟩⟩, one x) s
    | .assignment => if (hd s).1.kind = 1 ∧ tx ⟨s.t.tail, s.o, s.c⟩ = [40] then rd n (.call (nk 13) .nil) s
        else (rd n .lvalue s).bnd fun x s => (needM [61] s).bnd fun _ s => if (hd s).1.kind = 1 ∧ tx ⟨s.t.tail, s.o, s.c⟩ = [40] then rd n (.call { nk 13 with n := 1 } (one x)) s
        else (nodeM s).bnd fun _ s => (rd n .expression s).bnd fun y s => (needM [59] s).bnd fun _ s => .ok (nk 9, (one x).app (one y)) s
    | .call v k => (nodeM s).bnd fun _ s => (nameM s).bnd fun nm s => (needM [40] s).bnd fun _ s => (tryM [41] s).bnd fun b s =>
        (if b then Rs.ok (nk 0, .nil) s else (rd n .argument s).bnd fun x => rd n (.more .argument (one x))).bnd fun l s => (needM [59] s).bnd fun _ s => .ok ({ v with nm := bs nm }, k.app l.2) s
    | .argument => (tryM [38] s).bnd fun b s => if b then (nodeM s).bnd fun _ s => (rd n .lvalue s).bnd fun x s => .ok (nk 24, one x) s else rd n .expression s
    | .lvalue => (tryM [42] s).bnd fun b s => if b then (nameM s).bnd fun nm s => (nodeM s).bnd fun _ s => .ok (⟨19, 0, 0, 0, 0, 0, 0, bs nm, ⟨#[]⟩⟩, .nil) s
        else (nameM s).bnd fun nm s => (nodeM s).bnd fun _ s => (tryM [91] s).bnd fun b s => if b then (rd n .expression s).bnd fun x s => (needM [93] s).bnd fun _ s => .ok (⟨17, 0, 0, 0, 0, 0, 0, bs nm, ⟨#[]⟩⟩, one x) s
        else (tryM [46] s).bnd fun b s => if b then (nameM s).bnd fun f s => .ok (⟨18, 0, 0, 0, 0, 0, 0, bs nm, bs f⟩, .nil) s
        else .ok (⟨16, 0, 0, 0, 0, 0, 0, bs nm, ⟨#[]⟩⟩, .nil) s
    | .bracketed => (needM [40] s).bnd fun _ s => (rd n .expression s).bnd fun x s => (needM [41] s).bnd fun _ s => .ok x s
    | .expression => (rd n (.binary 1) s).bnd fun x s => (tryM [63] s).bnd fun b s => if b
        then (nodeM s).bnd fun _ s => (rd n .expression s).bnd fun y s => (needM [58] s).bnd fun _ s => (rd n .expression s).bnd fun z s => .ok (nk 23, ((one x).app (one y)).app (one z)) s
        else .ok x s
    | .binary least => (rd n .unary s).bnd fun x => rd n (.ops least x)
    | .ops least x => if powT (opT (tx s)) < least then .ok x s
        else (takeM s).bnd fun _ s' => (nodeM s').bnd fun _ s' => (rd n (.binary (powT (opT (tx s)) + 1)) s').bnd fun y => rd n (.ops least ({ nk 21 with op := opT (tx s) }, (one x).app (one y)))
    | .unary => (tryM [45] s).bnd fun b s => if b then rd n (.prefixed { nk 20 with op := 1 }) s
        else (tryM [126] s).bnd fun b s => if b then rd n (.prefixed { nk 20 with op := 2 }) s
        else (tryM [33] s).bnd fun b s => if b then rd n (.prefixed { nk 20 with op := 3 }) s
        else (tryM [40] s).bnd fun b s => if b then rd n .opened s
        else if (hd s).1.kind = 3 then rd n .literal s else rd n .lvalue s
    | .prefixed v => (nodeM s).bnd fun _ s => (rd n .unary s).bnd fun x s => .ok (v, one x) s
    | .opened => if Lx.intT (tx s) < 6 then (intM s).bnd fun t s => (needM [41] s).bnd fun _ s => rd n (.prefixed { nk 22 with ti := t }) s
        else (rd n .expression s).bnd fun x s => (needM [41] s).bnd fun _ s => .ok x s
    | .literal => (numberM s).bnd fun t s => (nodeM s).bnd fun _ s => .ok (⟨15, 0, 0, t.ty, 0, t.n, 0, ⟨#[]⟩, ⟨#[]⟩⟩, .nil) s
    | .rep x l => (tryM [125] s).bnd fun b s => if b then .ok (nk 0, l) s else (rd n x s).bnd fun y => rd n (.rep x (l.app (one y)))
    | .more x l => (tryM [44] s).bnd fun b s => if b then (rd n x s).bnd fun y => rd n (.more x (l.app (one y))) else (needM [41] s).bnd fun _ s => .ok (nk 0, l) s

end Pr
end Go.Proofs.YtoilhcklflmamaaGreatDoor

namespace Go.Proofs.YtoilhcklflmamaaGreatDoor
set_option linter.unusedVariables false
namespace Pr

/-- What holds of each token. -/
structure Tw (q : Tok) : Prop where
  kind : q.1.kind ≤ 4
  ty : q.1.ty ≤ 5
  n : -4294967296 ≤ q.1.n ∧ q.1.n ≤ 4294967296
  len : q.1.text.length ≤ 65536
  at_ : q.2 ≤ 65536
  plain : q.1.kind = 1 ∨ q.1.kind = 3 → opensB q.1.text = false ∧ closesB q.1.text = false

/-- Tokens with the end behind them. -/
def Ends (t : List Tok) : Prop := ∃ b e, t = b ++ [e] ∧ e.1.kind = 0 ∧ e.1.text = [] ∧ ∀ q ∈ b, q.1.kind ≠ 0
structure Wf (s : St) : Prop where
  ends : Ends s.t
  tw : ∀ q ∈ s.t, Tw q
  c : s.c ≤ 4000

theorem Wf.ne {s : St} (h : Wf s) : s.t ≠ [] := by
  obtain ⟨b, e, h1, _⟩ := h.ends
  rw [h1]; simp
theorem Wf.hd {s : St} (h : Wf s) : hd s ∈ s.t := by
  have := h.ne
  unfold Pr.hd
  cases hs : s.t with
  | nil => exact absurd hs this
  | cons q l => simp
theorem Wf.th {s : St} (h : Wf s) : Tw (Pr.hd s) := h.tw _ h.hd

def dl (x : List UInt8) : Int := if opensB x then 1 else if closesB x then -1 else 0
/-- One token is taken. -/
structure Stp (s s' : St) (d : Int) : Prop where
  wf : Wf s'
  len : s'.t.length + 1 = s.t.length
  c : s'.c = s.c
  o : s'.o = s.o + d

theorem o1_dl (s : St) : o1 s = s.o + dl (tx s) := by
  unfold o1 dl
  split
  · rfl
  · split
    · omega
    · omega

theorem stp_take {s : St} (h : Wf s) (hn : (hd s).1.kind ≠ 0 ∨ tx s ≠ []) : Stp s (s1 s) (dl (tx s)) := by
  obtain ⟨b, e, h1, h2, h3, h4⟩ := h.ends
  cases b with
  | nil =>
    exfalso
    have e0 : hd s = e := by unfold hd; rw [h1]; rfl
    rcases hn with k | k
    · rw [e0] at k; exact k h2
    · unfold tx at k; rw [e0] at k; exact k h3
  | cons q b =>
    have e1 : s.t.tail = b ++ [e] := by rw [h1]; rfl
    refine ⟨⟨⟨b, e, e1, h2, h3, fun p hp => h4 p (List.mem_cons_of_mem _ hp)⟩, fun p hp => h.tw p (List.mem_of_mem_tail hp), h.c⟩, ?_, rfl, o1_dl s⟩
    show s.t.tail.length + 1 = s.t.length
    rw [h1]; simp

def Ok {α : Type} (r : Rs α) (P : α → St → Prop) : Prop :=
  match r with
  | .ok a s => P a s
  | .bad f p => (f = 2 ∨ f = 4 ∨ f = 5) ∧ p ≤ 65536
  | .out => False
theorem Ok.bnd {α β : Type} {r : Rs α} {f : α → St → Rs β} {P' : α → St → Prop} {P : β → St → Prop} (h : Ok r P') (k : ∀ a s, P' a s → Ok (f a s) P) : Ok (r.bnd f) P := by
  cases r with
  | ok a s => exact k a s h
  | bad f p => exact h
  | out => exact h
theorem Ok.mono {α : Type} {r : Rs α} {P P' : α → St → Prop} (h : Ok r P') (k : ∀ a s, P' a s → P a s) : Ok r P := by
  cases r with
  | ok a s => exact k a s h
  | bad f p => exact h
  | out => exact h

theorem take_ok {s : St} (hw : Wf s) (hn : (hd s).1.kind ≠ 0 ∨ tx s ≠ []) : Ok (takeM s) (fun _ s' => Stp s s' (dl (tx s))) := by
  have hs := stp_take hw hn
  unfold takeM
  split
  · exact ⟨Or.inr (Or.inl rfl), hs.wf.th.at_⟩
  · exact hs
theorem fail_ok {α : Type} {s : St} (hw : Wf s) (P : α → St → Prop) : Ok (failM s : Rs α) P := ⟨Or.inr (Or.inr rfl), hw.th.at_⟩

theorem bnd_assoc {α β γ : Type} (r : Rs α) (f : α → St → Rs β) (g : β → St → Rs γ) : (r.bnd f).bnd g = r.bnd (fun a s => (f a s).bnd g) := by cases r <;> rfl
variable {β : Type} {P : β → St → Prop} {s : St}
theorem try_k {x : List UInt8} {f : Bool → St → Rs β} (hw : Wf s) (hx : x ≠ []) (h1 : ∀ s', Stp s s' (dl x) → Ok (f true s') P) (h0 : Ok (f false s) P) : Ok ((tryM x s).bnd f) P := by
  unfold tryM
  split
  · rename_i e
    have := take_ok hw (Or.inr (by rw [e]; exact hx))
    rw [e] at this
    rw [bnd_assoc]; exact this.bnd fun _ s' k => h1 s' k
  · exact h0
theorem need_k {x : List UInt8} {f : Unit → St → Rs β} (hw : Wf s) (hx : x ≠ []) (h1 : ∀ s', Stp s s' (dl x) → Ok (f () s') P) : Ok ((needM x s).bnd f) P := by
  unfold needM
  split
  · rename_i e
    have := take_ok hw (Or.inr (by rw [e]; exact hx))
    rw [e] at this
    exact this.bnd fun b s' k => h1 s' k
  · exact (fail_ok hw (fun _ _ => False)).bnd fun _ _ k => k.elim
theorem node_k {f : Unit → St → Rs β} (hw : Wf s) (h1 : ∀ s', Wf s' → s'.t = s.t → s'.c = s.c + 1 → s'.o = s.o → Ok (f () s') P) : Ok ((nodeM s).bnd f) P := by
  unfold nodeM
  split
  · exact ⟨Or.inl rfl, hw.th.at_⟩
  · exact h1 _ ⟨hw.ends, hw.tw, by show s.c + 1 ≤ 4000; omega⟩ rfl rfl rfl
theorem dl_plain {x : List UInt8} (h : opensB x = false ∧ closesB x = false) : dl x = 0 := by unfold dl; rw [h.1, h.2]; rfl
theorem name_k {f : List UInt8 → St → Rs β} (hw : Wf s) (h1 : ∀ nm s', nm.length ≤ 65536 → Stp s s' 0 → Ok (f nm s') P) : Ok ((nameM s).bnd f) P := by
  unfold nameM
  split
  · rename_i e
    have := take_ok hw (Or.inl (by rw [e]; decide))
    rw [dl_plain (hw.th.plain (Or.inl e))] at this
    rw [bnd_assoc]; exact this.bnd fun _ s' k => h1 _ s' hw.th.len k
  · exact (fail_ok hw (fun _ _ => False)).bnd fun _ _ k => k.elim
theorem number_k {f : Lx.Tk → St → Rs β} (hw : Wf s) (h1 : ∀ q s', Tw q → Stp s s' 0 → Ok (f q.1 s') P) : Ok ((numberM s).bnd f) P := by
  unfold numberM
  split
  · rename_i e
    have := take_ok hw (Or.inl (by rw [e]; decide))
    rw [dl_plain (hw.th.plain (Or.inr e))] at this
    rw [bnd_assoc]; exact this.bnd fun _ s' k => h1 _ s' hw.th k
  · exact (fail_ok hw (fun _ _ => False)).bnd fun _ _ k => k.elim
theorem count_k {f : Int → St → Rs β} (hw : Wf s) (h1 : ∀ z s', 0 ≤ z → z ≤ 4294967296 → Stp s s' 0 → Ok (f z s') P) : Ok ((countM s).bnd f) P := by
  unfold countM
  split
  · rename_i e
    have := take_ok hw (Or.inl (by rw [e.1]; decide))
    rw [dl_plain (hw.th.plain (Or.inr e.1))] at this
    rw [bnd_assoc]; exact this.bnd fun _ s' k => h1 _ s' e.2.2 hw.th.n.2 k
  · exact (fail_ok hw (fun _ _ => False)).bnd fun _ _ k => k.elim
theorem int_text {x : List UInt8} (h : Lx.intT x < 6) : x ≠ [] ∧ opensB x = false ∧ closesB x = false := by
  have hm : x ∈ Lx.types := by
    unfold Lx.intT at h
    have : Lx.types.findIdx (fun y => y == x) < Lx.types.length := h
    rw [List.findIdx_lt_length] at this
    obtain ⟨y, hy, e⟩ := this
    rw [← eq_of_beq e]
    exact hy
  revert x
  intro x _ hm
  have : ∀ x ∈ Lx.types, x ≠ [] ∧ opensB x = false ∧ closesB x = false := by decide
  exact this x hm
theorem int_k {f : Nat → St → Rs β} (hw : Wf s) (h1 : ∀ t s', t < 6 → Stp s s' 0 → Ok (f t s') P) : Ok ((intM s).bnd f) P := by
  unfold intM
  split
  · rename_i e
    have := take_ok hw (Or.inr (int_text e).1)
    rw [dl_plain (int_text e).2] at this
    rw [bnd_assoc]; exact this.bnd fun _ s' k => h1 _ s' e k
  · exact (fail_ok hw (fun _ _ => False)).bnd fun _ _ k => k.elim
theorem op_text (x : List UInt8) (h : powT (opT x) ≠ 0) : x ≠ [] ∧ opensB x = false ∧ closesB x = false := by
  have hm : x ∈ (ops.map (·.1)).tail := by
    unfold opT at h
    cases hf : ops.findIdx? (fun q => decide (0 < q.2) && (x == q.1)) with
    | none => rw [hf] at h; exact absurd (by decide) h
    | some i =>
      obtain ⟨hi, hp, _⟩ := List.findIdx?_eq_some_iff_getElem.1 hf
      simp only [Bool.and_eq_true, decide_eq_true_eq, beq_iff_eq] at hp
      rw [hp.2]
      have : ∀ (j : Nat) (hj : j < ops.length), 0 < (ops[j]).2 → (ops[j]).1 ∈ (ops.map (·.1)).tail := by decide
      exact this i hi hp.1
  have : ∀ x ∈ (ops.map (·.1)).tail, x ≠ [] ∧ opensB x = false ∧ closesB x = false := by decide
  exact this x hm
theorem opT_le (x : List UInt8) : opT x ≤ 18 := by
  unfold opT
  cases hf : ops.findIdx? (fun q => decide (0 < q.2) && (x == q.1)) with
  | none => decide
  | some i =>
    obtain ⟨hi, _⟩ := List.findIdx?_eq_some_iff_getElem.1 hf
    have : ops.length = 19 := rfl
    show i ≤ 18
    omega
theorem powT_le (k : Nat) : powT k ≤ 10 := by
  unfold powT
  by_cases h : k < 19
  · have : ∀ k < 19, ((ops[k]?).map (·.2)).getD 0 ≤ 10 := by decide
    exact this k h
  · rw [List.getElem?_eq_none (by show 19 ≤ k; omega)]; decide
theorem op_k {f : Unit → St → Rs β} (hw : Wf s) (ho : powT (opT (tx s)) ≠ 0) (h1 : ∀ s', Stp s s' 0 → Ok (f () s') P) : Ok ((takeM s).bnd f) P := by
  have := take_ok hw (Or.inr (op_text _ ho).1)
  rw [dl_plain (op_text _ ho).2] at this
  exact this.bnd fun _ s' k => h1 s' k

/-! ### All rules -/
def rank : NT → Nat
  | .literal => 1 | .lvalue => 1 | .unary => 2 | .prefixed _ => 3 | .binary _ => 3 | .ops _ _ => 3 | .expression => 4 | .bracketed => 5 | .argument => 5 | .opened => 5
  | .call _ _ => 2 | .assignment => 3 | .statement => 4 | .choice => 6 | .loop => 1 | .block => 1 | .field => 1 | .param => 1 | .structured _ _ => 1 | .function _ _ => 1 | .variable _ _ => 1
  | .item => 2 | .items _ => 3 | .rep _ _ => 6 | .more _ _ => 1
def lo : NT → Nat
  | .call _ k => k.size | .ops _ x => x.2.size | .rep _ l => l.size | .more _ l => l.size | .items l => l.size | _ => 0
def e1 : NT → Nat
  | .ops _ _ => 0 | .rep _ _ => 0 | .more _ _ => 0 | .items _ => 0 | _ => 1
def d1 : NT → Nat
  | .ops _ _ => 0 | .items _ => 0 | _ => 1
def od : NT → Int
  | .rep _ _ => -1 | .more _ _ => -1 | .opened => -1 | _ => 0
/-- What a rule is asked with. -/
def NT.ok : NT → Prop
  | .function t nm => t < 6 ∧ nm.length ≤ 65536
  | .structured k of => (k = 4 ∨ k = 8) ∧ of.length ≤ 65536
  | .variable v _ => v.ok
  | .call v _ => v.ok
  | .binary l => 1 ≤ l
  | .ops l x => 1 ≤ l ∧ x.1.ok
  | .prefixed v => v.ok
  | .rep x _ => x = .field ∨ x = .statement
  | .more x _ => x = .param ∨ x = .argument
  | _ => True
structure Post (nt : NT) (s : St) (x : Nd) (s' : St) : Prop where
  wf : Wf s'
  len : s'.t.length + d1 nt ≤ s.t.length
  c : s'.c + lo nt = s.c + x.2.size + e1 nt
  o : s'.o = s.o + od nt
  ok : x.1.ok

theorem one_size (x : Nd) : (one x).size = x.2.size + 1 := by simp [one, Fo.size]
theorem app_size' (f g : Fo) : (f.app g).size = f.size + g.size := by
  induction f with
  | nil => simp [Fo.app, Fo.size]
  | cons v a c k r _ ih => simp only [Fo.app, Fo.size, ih]; omega
theorem bs_size (l : List UInt8) : (bs l).size = l.length := by simp [ByteArray.size]
theorem nf_ok {k op tk ti tn n m : Int} {nm fd : ByteArray} (h1 : 0 ≤ k ∧ k ≤ 255) (h2 : 0 ≤ op ∧ op ≤ 255) (h3 : 0 ≤ tk ∧ tk ≤ 255) (h4 : 0 ≤ ti ∧ ti ≤ 255) (h5 : -4294967296 ≤ tn ∧ tn ≤ 4294967296) (h6 : -4294967296 ≤ n ∧ n ≤ 4294967296) (h7 : -4294967296 ≤ m ∧ m ≤ 4294967296) (h8 : nm.size ≤ 65536) (h9 : fd.size ≤ 65536) : (⟨k, op, tk, ti, tn, n, m, nm, fd⟩ : NF).ok :=
  ⟨h1, h2, h3, h4, ⟨by show _ ≤ tn; omega, by show tn ≤ _; omega⟩, ⟨by show _ ≤ n; omega, by show n ≤ _; omega⟩, ⟨by show _ ≤ m; omega, by show m ≤ _; omega⟩, Nat.le_trans h8 (by decide), Nat.le_trans h9 (by decide)⟩
end Pr
end Go.Proofs.YtoilhcklflmamaaGreatDoor

namespace Go.Proofs.YtoilhcklflmamaaGreatDoor
set_option linter.unusedVariables false
set_option linter.unusedSimpArgs false
namespace Pr

theorem nf_tn {v : NF} {z : Int} (h : v.ok) (hz : 0 ≤ z ∧ z ≤ 4294967296) : ({ v with tk := 1, tn := z } : NF).ok := ⟨h.k, h.op, (show (0 : Int) ≤ 1 ∧ (1 : Int) ≤ 255 by decide), h.ti, ⟨by show _ ≤ z; omega, by show z ≤ _; omega⟩, h.n, h.m, h.nm, h.fd⟩
theorem dl1 : dl [40] = 1 := by decide
theorem dl2 : dl [41] = -1 := by decide
theorem dl3 : dl [123] = 1 := by decide
theorem dl4 : dl [125] = -1 := by decide
theorem dl5 : dl [91] = 1 := by decide
theorem dl6 : dl [93] = -1 := by decide

/-- What a rule gives to what stands behind it. -/
theorem rd_k {β : Type} {P : β → St → Prop} {n : Nat} {nt : NT} {s : St} {f : Nd → St → Rs β} (h : Ok (rd n nt s) (Post nt s)) (k : ∀ x s', Post nt s x s' → Ok (f x s') P) : Ok ((rd n nt s).bnd f) P := h.bnd k

set_option maxHeartbeats 4000000 in
theorem rd_ok : ∀ (n : Nat) (nt : NT) (s : St), Wf s → nt.ok → 10 * s.t.length + rank nt ≤ n → Ok (rd n nt s) (Post nt s) := by
  intro n
  induction n with
  | zero =>
    intro nt s _ _ h
    exfalso
    cases nt <;> simp [rank] at h
  | succ n ih =>
    intro nt s hw hok hn
    cases nt
    case item | field | param | block | statement | choice | loop | assignment | argument | lvalue | bracketed | expression | unary | opened | literal | call v0 k0 | binary l0 | ops l0 x0 | prefixed v0 =>
      simp only [rd]
      repeat' first
        | refine try_k (by assumption) (by decide) (fun s' ⟨_, _, _, _⟩ => ?_) ?_
        | refine need_k (by assumption) (by decide) (fun s' ⟨_, _, _, _⟩ => ?_)
        | refine node_k (by assumption) (fun s' _ ht _ _ => ?_); replace ht := congrArg List.length ht
        | refine name_k (by assumption) (fun nm s' _ ⟨_, _, _, _⟩ => ?_)
        | refine int_k (by assumption) (fun t s' _ ⟨_, _, _, _⟩ => ?_)
        | refine count_k (by assumption) (fun z s' _ _ ⟨_, _, _, _⟩ => ?_)
        | refine number_k (by assumption) (fun q s' hq ⟨_, _, _, _⟩ => ?_)
        | (simp only [if_true, if_false, Bool.false_eq_true, bnd_ok])
        | rw [bnd_assoc]
        | refine op_k (by assumption) (by simp only [NT.ok] at hok; have := hok.1; omega) (fun s' ⟨_, _, _, _⟩ => ?_)
        | refine rd_k (ih _ _ (by assumption) (by first | trivial | exact Or.inl rfl | exact Or.inr rfl | (simp only [NT.ok] at *; first | (refine ⟨?_, ?_⟩ <;> first | assumption | omega | (left; rfl) | (right; rfl) | decide) | (left; rfl) | (right; rfl) | assumption | omega | (refine nf_ok ?_ ?_ ?_ ?_ ?_ ?_ ?_ ?_ ?_ <;> first | omega | decide | (rw [bs_size]; assumption) | exact Nat.zero_le _) | (refine ⟨hok.1, nf_ok ?_ ?_ ?_ ?_ ?_ ?_ ?_ ?_ ?_⟩ <;> first | omega | decide | (have := opT_le (tx s); omega) | exact Nat.zero_le _))) (by simp only [rank, d1] at *; omega)) (fun x s' ⟨_, _, _, _, _⟩ => ?_)
        | refine (ih _ _ (by assumption) (by first | trivial | exact Or.inl rfl | exact Or.inr rfl | (simp only [NT.ok] at *; first | (refine ⟨?_, ?_⟩ <;> first | assumption | omega | (left; rfl) | (right; rfl) | decide) | (left; rfl) | (right; rfl) | assumption | omega | (refine nf_ok ?_ ?_ ?_ ?_ ?_ ?_ ?_ ?_ ?_ <;> first | omega | decide | (rw [bs_size]; assumption) | exact Nat.zero_le _) | (refine ⟨hok.1, nf_ok ?_ ?_ ?_ ?_ ?_ ?_ ?_ ?_ ?_⟩ <;> first | omega | decide | (have := opT_le (tx s); omega) | exact Nat.zero_le _))) (by simp only [rank, d1] at *; omega)).mono (fun x s' ⟨_, _, _, _, _⟩ => ⟨by assumption, ?_, ?_, ?_, by assumption⟩)
        | split
      all_goals first
        | (simp only [d1, lo, e1, od, rank, one_size, app_size', Fo.size, dl1, dl2, dl3, dl4, dl5, dl6, show dl [101, 108, 115, 101] = 0 by decide, show dl [102, 111, 114] = 0 by decide, show dl [105, 102] = 0 by decide, show dl [112, 114, 105, 110, 116] = 0 by decide, show dl [114, 101, 116, 117, 114, 110] = 0 by decide, show dl [115, 116, 114, 117, 99, 116] = 0 by decide, show dl [116, 111] = 0 by decide, show dl [126] = 0 by decide, show dl [33] = 0 by decide, show dl [38] = 0 by decide, show dl [42] = 0 by decide, show dl [44] = 0 by decide, show dl [45] = 0 by decide, show dl [46] = 0 by decide, show dl [58] = 0 by decide, show dl [59] = 0 by decide, show dl [61] = 0 by decide, show dl [63] = 0 by decide] at *; omega)
        | (refine ⟨by assumption, ?_, ?_, ?_, ?_⟩
           · simp only [d1, lo, e1, od, rank, one_size, app_size', Fo.size, dl1, dl2, dl3, dl4, dl5, dl6, show dl [101, 108, 115, 101] = 0 by decide, show dl [102, 111, 114] = 0 by decide, show dl [105, 102] = 0 by decide, show dl [112, 114, 105, 110, 116] = 0 by decide, show dl [114, 101, 116, 117, 114, 110] = 0 by decide, show dl [115, 116, 114, 117, 99, 116] = 0 by decide, show dl [116, 111] = 0 by decide, show dl [126] = 0 by decide, show dl [33] = 0 by decide, show dl [38] = 0 by decide, show dl [42] = 0 by decide, show dl [44] = 0 by decide, show dl [45] = 0 by decide, show dl [46] = 0 by decide, show dl [58] = 0 by decide, show dl [59] = 0 by decide, show dl [61] = 0 by decide, show dl [63] = 0 by decide] at *; omega
           · simp only [d1, lo, e1, od, rank, one_size, app_size', Fo.size, dl1, dl2, dl3, dl4, dl5, dl6, show dl [101, 108, 115, 101] = 0 by decide, show dl [102, 111, 114] = 0 by decide, show dl [105, 102] = 0 by decide, show dl [112, 114, 105, 110, 116] = 0 by decide, show dl [114, 101, 116, 117, 114, 110] = 0 by decide, show dl [115, 116, 114, 117, 99, 116] = 0 by decide, show dl [116, 111] = 0 by decide, show dl [126] = 0 by decide, show dl [33] = 0 by decide, show dl [38] = 0 by decide, show dl [42] = 0 by decide, show dl [44] = 0 by decide, show dl [45] = 0 by decide, show dl [46] = 0 by decide, show dl [58] = 0 by decide, show dl [59] = 0 by decide, show dl [61] = 0 by decide, show dl [63] = 0 by decide] at *; omega
           · simp only [d1, lo, e1, od, rank, one_size, app_size', Fo.size, dl1, dl2, dl3, dl4, dl5, dl6, show dl [101, 108, 115, 101] = 0 by decide, show dl [102, 111, 114] = 0 by decide, show dl [105, 102] = 0 by decide, show dl [112, 114, 105, 110, 116] = 0 by decide, show dl [114, 101, 116, 117, 114, 110] = 0 by decide, show dl [115, 116, 114, 117, 99, 116] = 0 by decide, show dl [116, 111] = 0 by decide, show dl [126] = 0 by decide, show dl [33] = 0 by decide, show dl [38] = 0 by decide, show dl [42] = 0 by decide, show dl [44] = 0 by decide, show dl [45] = 0 by decide, show dl [46] = 0 by decide, show dl [58] = 0 by decide, show dl [59] = 0 by decide, show dl [61] = 0 by decide, show dl [63] = 0 by decide] at *; omega
           · first
             | assumption
             | (simp only [NT.ok] at *; assumption)
             | (refine nf_ok ?_ ?_ ?_ ?_ ?_ ?_ ?_ ?_ ?_ <;> first | omega | decide | (rw [bs_size]; assumption) | exact Nat.zero_le _ | (split <;> decide) | (have := hq.ty; omega) | exact hq.n)
             | exact nf_tn hok (by omega)
             | exact ⟨hok.k, hok.op, hok.tk, hok.ti, hok.tn, hok.n, hok.m, by show (bs _).size ≤ _; rw [bs_size]; exact Nat.le_trans (by assumption) (by decide), hok.fd⟩
             | exact hok.2)
    case function t0 nm0 =>
      obtain ⟨hk1, hk2⟩ := hok
      simp only [rd]
      repeat' first
        | refine try_k (by assumption) (by decide) (fun s' ⟨_, _, _, _⟩ => ?_) ?_
        | refine need_k (by assumption) (by decide) (fun s' ⟨_, _, _, _⟩ => ?_)
        | refine node_k (by assumption) (fun s' _ ht _ _ => ?_); replace ht := congrArg List.length ht
        | refine name_k (by assumption) (fun nm s' _ ⟨_, _, _, _⟩ => ?_)
        | refine int_k (by assumption) (fun t s' _ ⟨_, _, _, _⟩ => ?_)
        | refine count_k (by assumption) (fun z s' _ _ ⟨_, _, _, _⟩ => ?_)
        | refine number_k (by assumption) (fun q s' hq ⟨_, _, _, _⟩ => ?_)
        | (simp only [if_true, if_false, Bool.false_eq_true, bnd_ok])
        | rw [bnd_assoc]
        | refine op_k (by assumption) (by simp only [NT.ok] at hok; have := hok.1; omega) (fun s' ⟨_, _, _, _⟩ => ?_)
        | refine rd_k (ih _ _ (by assumption) (by first | trivial | exact Or.inl rfl | exact Or.inr rfl | (simp only [NT.ok] at *; first | (refine ⟨?_, ?_⟩ <;> first | assumption | omega | (left; rfl) | (right; rfl) | decide) | (left; rfl) | (right; rfl) | assumption | omega | (refine nf_ok ?_ ?_ ?_ ?_ ?_ ?_ ?_ ?_ ?_ <;> first | omega | decide | (rw [bs_size]; assumption) | exact Nat.zero_le _) | (refine ⟨hok.1, nf_ok ?_ ?_ ?_ ?_ ?_ ?_ ?_ ?_ ?_⟩ <;> first | omega | decide | (have := opT_le (tx s); omega) | exact Nat.zero_le _))) (by simp only [rank, d1] at *; omega)) (fun x s' ⟨_, _, _, _, _⟩ => ?_)
        | refine (ih _ _ (by assumption) (by first | trivial | exact Or.inl rfl | exact Or.inr rfl | (simp only [NT.ok] at *; first | (refine ⟨?_, ?_⟩ <;> first | assumption | omega | (left; rfl) | (right; rfl) | decide) | (left; rfl) | (right; rfl) | assumption | omega | (refine nf_ok ?_ ?_ ?_ ?_ ?_ ?_ ?_ ?_ ?_ <;> first | omega | decide | (rw [bs_size]; assumption) | exact Nat.zero_le _) | (refine ⟨hok.1, nf_ok ?_ ?_ ?_ ?_ ?_ ?_ ?_ ?_ ?_⟩ <;> first | omega | decide | (have := opT_le (tx s); omega) | exact Nat.zero_le _))) (by simp only [rank, d1] at *; omega)).mono (fun x s' ⟨_, _, _, _, _⟩ => ⟨by assumption, ?_, ?_, ?_, by assumption⟩)
        | split
      all_goals first
        | (simp only [d1, lo, e1, od, rank, one_size, app_size', Fo.size, dl1, dl2, dl3, dl4, dl5, dl6, show dl [101, 108, 115, 101] = 0 by decide, show dl [102, 111, 114] = 0 by decide, show dl [105, 102] = 0 by decide, show dl [112, 114, 105, 110, 116] = 0 by decide, show dl [114, 101, 116, 117, 114, 110] = 0 by decide, show dl [115, 116, 114, 117, 99, 116] = 0 by decide, show dl [116, 111] = 0 by decide, show dl [126] = 0 by decide, show dl [33] = 0 by decide, show dl [38] = 0 by decide, show dl [42] = 0 by decide, show dl [44] = 0 by decide, show dl [45] = 0 by decide, show dl [46] = 0 by decide, show dl [58] = 0 by decide, show dl [59] = 0 by decide, show dl [61] = 0 by decide, show dl [63] = 0 by decide] at *; omega)
        | (refine ⟨by assumption, ?_, ?_, ?_, ?_⟩
           · simp only [d1, lo, e1, od, rank, one_size, app_size', Fo.size, dl1, dl2, dl3, dl4, dl5, dl6, show dl [101, 108, 115, 101] = 0 by decide, show dl [102, 111, 114] = 0 by decide, show dl [105, 102] = 0 by decide, show dl [112, 114, 105, 110, 116] = 0 by decide, show dl [114, 101, 116, 117, 114, 110] = 0 by decide, show dl [115, 116, 114, 117, 99, 116] = 0 by decide, show dl [116, 111] = 0 by decide, show dl [126] = 0 by decide, show dl [33] = 0 by decide, show dl [38] = 0 by decide, show dl [42] = 0 by decide, show dl [44] = 0 by decide, show dl [45] = 0 by decide, show dl [46] = 0 by decide, show dl [58] = 0 by decide, show dl [59] = 0 by decide, show dl [61] = 0 by decide, show dl [63] = 0 by decide] at *; omega
           · simp only [d1, lo, e1, od, rank, one_size, app_size', Fo.size, dl1, dl2, dl3, dl4, dl5, dl6, show dl [101, 108, 115, 101] = 0 by decide, show dl [102, 111, 114] = 0 by decide, show dl [105, 102] = 0 by decide, show dl [112, 114, 105, 110, 116] = 0 by decide, show dl [114, 101, 116, 117, 114, 110] = 0 by decide, show dl [115, 116, 114, 117, 99, 116] = 0 by decide, show dl [116, 111] = 0 by decide, show dl [126] = 0 by decide, show dl [33] = 0 by decide, show dl [38] = 0 by decide, show dl [42] = 0 by decide, show dl [44] = 0 by decide, show dl [45] = 0 by decide, show dl [46] = 0 by decide, show dl [58] = 0 by decide, show dl [59] = 0 by decide, show dl [61] = 0 by decide, show dl [63] = 0 by decide] at *; omega
           · simp only [d1, lo, e1, od, rank, one_size, app_size', Fo.size, dl1, dl2, dl3, dl4, dl5, dl6, show dl [101, 108, 115, 101] = 0 by decide, show dl [102, 111, 114] = 0 by decide, show dl [105, 102] = 0 by decide, show dl [112, 114, 105, 110, 116] = 0 by decide, show dl [114, 101, 116, 117, 114, 110] = 0 by decide, show dl [115, 116, 114, 117, 99, 116] = 0 by decide, show dl [116, 111] = 0 by decide, show dl [126] = 0 by decide, show dl [33] = 0 by decide, show dl [38] = 0 by decide, show dl [42] = 0 by decide, show dl [44] = 0 by decide, show dl [45] = 0 by decide, show dl [46] = 0 by decide, show dl [58] = 0 by decide, show dl [59] = 0 by decide, show dl [61] = 0 by decide, show dl [63] = 0 by decide] at *; omega
           · first
             | assumption
             | (simp only [NT.ok] at *; assumption)
             | (refine nf_ok ?_ ?_ ?_ ?_ ?_ ?_ ?_ ?_ ?_ <;> first | omega | decide | (rw [bs_size]; assumption) | exact Nat.zero_le _ | (split <;> decide) | (have := hq.ty; omega) | exact hq.n)
             | exact nf_tn hok (by omega)
             | exact ⟨hok.k, hok.op, hok.tk, hok.ti, hok.tn, hok.n, hok.m, by show (bs _).size ≤ _; rw [bs_size]; exact Nat.le_trans (by assumption) (by decide), hok.fd⟩
             | exact hok.2)
    case structured k0 of0 =>
      obtain ⟨hk1, hk2⟩ := hok
      simp only [rd]
      repeat' first
        | refine try_k (by assumption) (by decide) (fun s' ⟨_, _, _, _⟩ => ?_) ?_
        | refine need_k (by assumption) (by decide) (fun s' ⟨_, _, _, _⟩ => ?_)
        | refine node_k (by assumption) (fun s' _ ht _ _ => ?_); replace ht := congrArg List.length ht
        | refine name_k (by assumption) (fun nm s' _ ⟨_, _, _, _⟩ => ?_)
        | refine int_k (by assumption) (fun t s' _ ⟨_, _, _, _⟩ => ?_)
        | refine count_k (by assumption) (fun z s' _ _ ⟨_, _, _, _⟩ => ?_)
        | refine number_k (by assumption) (fun q s' hq ⟨_, _, _, _⟩ => ?_)
        | (simp only [if_true, if_false, Bool.false_eq_true, bnd_ok])
        | rw [bnd_assoc]
        | refine op_k (by assumption) (by simp only [NT.ok] at hok; have := hok.1; omega) (fun s' ⟨_, _, _, _⟩ => ?_)
        | refine rd_k (ih _ _ (by assumption) (by first | trivial | exact Or.inl rfl | exact Or.inr rfl | (simp only [NT.ok] at *; first | (refine ⟨?_, ?_⟩ <;> first | assumption | omega | (left; rfl) | (right; rfl) | decide) | (left; rfl) | (right; rfl) | assumption | omega | (refine nf_ok ?_ ?_ ?_ ?_ ?_ ?_ ?_ ?_ ?_ <;> first | omega | decide | (rw [bs_size]; assumption) | exact Nat.zero_le _) | (refine ⟨hok.1, nf_ok ?_ ?_ ?_ ?_ ?_ ?_ ?_ ?_ ?_⟩ <;> first | omega | decide | (have := opT_le (tx s); omega) | exact Nat.zero_le _))) (by simp only [rank, d1] at *; omega)) (fun x s' ⟨_, _, _, _, _⟩ => ?_)
        | refine (ih _ _ (by assumption) (by first | trivial | exact Or.inl rfl | exact Or.inr rfl | (simp only [NT.ok] at *; first | (refine ⟨?_, ?_⟩ <;> first | assumption | omega | (left; rfl) | (right; rfl) | decide) | (left; rfl) | (right; rfl) | assumption | omega | (refine nf_ok ?_ ?_ ?_ ?_ ?_ ?_ ?_ ?_ ?_ <;> first | omega | decide | (rw [bs_size]; assumption) | exact Nat.zero_le _) | (refine ⟨hok.1, nf_ok ?_ ?_ ?_ ?_ ?_ ?_ ?_ ?_ ?_⟩ <;> first | omega | decide | (have := opT_le (tx s); omega) | exact Nat.zero_le _))) (by simp only [rank, d1] at *; omega)).mono (fun x s' ⟨_, _, _, _, _⟩ => ⟨by assumption, ?_, ?_, ?_, by assumption⟩)
        | split
      all_goals first
        | (simp only [d1, lo, e1, od, rank, one_size, app_size', Fo.size, dl1, dl2, dl3, dl4, dl5, dl6, show dl [101, 108, 115, 101] = 0 by decide, show dl [102, 111, 114] = 0 by decide, show dl [105, 102] = 0 by decide, show dl [112, 114, 105, 110, 116] = 0 by decide, show dl [114, 101, 116, 117, 114, 110] = 0 by decide, show dl [115, 116, 114, 117, 99, 116] = 0 by decide, show dl [116, 111] = 0 by decide, show dl [126] = 0 by decide, show dl [33] = 0 by decide, show dl [38] = 0 by decide, show dl [42] = 0 by decide, show dl [44] = 0 by decide, show dl [45] = 0 by decide, show dl [46] = 0 by decide, show dl [58] = 0 by decide, show dl [59] = 0 by decide, show dl [61] = 0 by decide, show dl [63] = 0 by decide] at *; omega)
        | (refine ⟨by assumption, ?_, ?_, ?_, ?_⟩
           · simp only [d1, lo, e1, od, rank, one_size, app_size', Fo.size, dl1, dl2, dl3, dl4, dl5, dl6, show dl [101, 108, 115, 101] = 0 by decide, show dl [102, 111, 114] = 0 by decide, show dl [105, 102] = 0 by decide, show dl [112, 114, 105, 110, 116] = 0 by decide, show dl [114, 101, 116, 117, 114, 110] = 0 by decide, show dl [115, 116, 114, 117, 99, 116] = 0 by decide, show dl [116, 111] = 0 by decide, show dl [126] = 0 by decide, show dl [33] = 0 by decide, show dl [38] = 0 by decide, show dl [42] = 0 by decide, show dl [44] = 0 by decide, show dl [45] = 0 by decide, show dl [46] = 0 by decide, show dl [58] = 0 by decide, show dl [59] = 0 by decide, show dl [61] = 0 by decide, show dl [63] = 0 by decide] at *; omega
           · simp only [d1, lo, e1, od, rank, one_size, app_size', Fo.size, dl1, dl2, dl3, dl4, dl5, dl6, show dl [101, 108, 115, 101] = 0 by decide, show dl [102, 111, 114] = 0 by decide, show dl [105, 102] = 0 by decide, show dl [112, 114, 105, 110, 116] = 0 by decide, show dl [114, 101, 116, 117, 114, 110] = 0 by decide, show dl [115, 116, 114, 117, 99, 116] = 0 by decide, show dl [116, 111] = 0 by decide, show dl [126] = 0 by decide, show dl [33] = 0 by decide, show dl [38] = 0 by decide, show dl [42] = 0 by decide, show dl [44] = 0 by decide, show dl [45] = 0 by decide, show dl [46] = 0 by decide, show dl [58] = 0 by decide, show dl [59] = 0 by decide, show dl [61] = 0 by decide, show dl [63] = 0 by decide] at *; omega
           · simp only [d1, lo, e1, od, rank, one_size, app_size', Fo.size, dl1, dl2, dl3, dl4, dl5, dl6, show dl [101, 108, 115, 101] = 0 by decide, show dl [102, 111, 114] = 0 by decide, show dl [105, 102] = 0 by decide, show dl [112, 114, 105, 110, 116] = 0 by decide, show dl [114, 101, 116, 117, 114, 110] = 0 by decide, show dl [115, 116, 114, 117, 99, 116] = 0 by decide, show dl [116, 111] = 0 by decide, show dl [126] = 0 by decide, show dl [33] = 0 by decide, show dl [38] = 0 by decide, show dl [42] = 0 by decide, show dl [44] = 0 by decide, show dl [45] = 0 by decide, show dl [46] = 0 by decide, show dl [58] = 0 by decide, show dl [59] = 0 by decide, show dl [61] = 0 by decide, show dl [63] = 0 by decide] at *; omega
           · first
             | assumption
             | (simp only [NT.ok] at *; assumption)
             | (refine nf_ok ?_ ?_ ?_ ?_ ?_ ?_ ?_ ?_ ?_ <;> first | omega | decide | (rw [bs_size]; assumption) | exact Nat.zero_le _ | (split <;> decide) | (have := hq.ty; omega) | exact hq.n)
             | exact nf_tn hok (by omega)
             | exact ⟨hok.k, hok.op, hok.tk, hok.ti, hok.tn, hok.n, hok.m, by show (bs _).size ≤ _; rw [bs_size]; exact Nat.le_trans (by assumption) (by decide), hok.fd⟩
             | exact hok.2)
    case «variable» v0 first0 =>
      simp only [rd]
      repeat' first
        | refine try_k (by assumption) (by decide) (fun s' ⟨_, _, _, _⟩ => ?_) ?_
        | refine need_k (by assumption) (by decide) (fun s' ⟨_, _, _, _⟩ => ?_)
        | refine node_k (by assumption) (fun s' _ ht _ _ => ?_); replace ht := congrArg List.length ht
        | refine name_k (by assumption) (fun nm s' _ ⟨_, _, _, _⟩ => ?_)
        | refine int_k (by assumption) (fun t s' _ ⟨_, _, _, _⟩ => ?_)
        | refine count_k (by assumption) (fun z s' _ _ ⟨_, _, _, _⟩ => ?_)
        | refine number_k (by assumption) (fun q s' hq ⟨_, _, _, _⟩ => ?_)
        | (simp only [if_true, if_false, Bool.false_eq_true, bnd_ok])
        | rw [bnd_assoc]
        | refine op_k (by assumption) (by simp only [NT.ok] at hok; have := hok.1; omega) (fun s' ⟨_, _, _, _⟩ => ?_)
        | refine rd_k (ih _ _ (by assumption) (by first | trivial | exact Or.inl rfl | exact Or.inr rfl | (simp only [NT.ok] at *; first | (refine ⟨?_, ?_⟩ <;> first | assumption | omega | (left; rfl) | (right; rfl) | decide) | (left; rfl) | (right; rfl) | assumption | omega | (refine nf_ok ?_ ?_ ?_ ?_ ?_ ?_ ?_ ?_ ?_ <;> first | omega | decide | (rw [bs_size]; assumption) | exact Nat.zero_le _) | (refine ⟨hok.1, nf_ok ?_ ?_ ?_ ?_ ?_ ?_ ?_ ?_ ?_⟩ <;> first | omega | decide | (have := opT_le (tx s); omega) | exact Nat.zero_le _))) (by simp only [rank, d1] at *; omega)) (fun x s' ⟨_, _, _, _, _⟩ => ?_)
        | refine (ih _ _ (by assumption) (by first | trivial | exact Or.inl rfl | exact Or.inr rfl | (simp only [NT.ok] at *; first | (refine ⟨?_, ?_⟩ <;> first | assumption | omega | (left; rfl) | (right; rfl) | decide) | (left; rfl) | (right; rfl) | assumption | omega | (refine nf_ok ?_ ?_ ?_ ?_ ?_ ?_ ?_ ?_ ?_ <;> first | omega | decide | (rw [bs_size]; assumption) | exact Nat.zero_le _) | (refine ⟨hok.1, nf_ok ?_ ?_ ?_ ?_ ?_ ?_ ?_ ?_ ?_⟩ <;> first | omega | decide | (have := opT_le (tx s); omega) | exact Nat.zero_le _))) (by simp only [rank, d1] at *; omega)).mono (fun x s' ⟨_, _, _, _, _⟩ => ⟨by assumption, ?_, ?_, ?_, by assumption⟩)
        | split
      all_goals first
        | (simp only [d1, lo, e1, od, rank, one_size, app_size', Fo.size, dl1, dl2, dl3, dl4, dl5, dl6, show dl [101, 108, 115, 101] = 0 by decide, show dl [102, 111, 114] = 0 by decide, show dl [105, 102] = 0 by decide, show dl [112, 114, 105, 110, 116] = 0 by decide, show dl [114, 101, 116, 117, 114, 110] = 0 by decide, show dl [115, 116, 114, 117, 99, 116] = 0 by decide, show dl [116, 111] = 0 by decide, show dl [126] = 0 by decide, show dl [33] = 0 by decide, show dl [38] = 0 by decide, show dl [42] = 0 by decide, show dl [44] = 0 by decide, show dl [45] = 0 by decide, show dl [46] = 0 by decide, show dl [58] = 0 by decide, show dl [59] = 0 by decide, show dl [61] = 0 by decide, show dl [63] = 0 by decide] at *; omega)
        | (refine ⟨by assumption, ?_, ?_, ?_, ?_⟩
           · simp only [d1, lo, e1, od, rank, one_size, app_size', Fo.size, dl1, dl2, dl3, dl4, dl5, dl6, show dl [101, 108, 115, 101] = 0 by decide, show dl [102, 111, 114] = 0 by decide, show dl [105, 102] = 0 by decide, show dl [112, 114, 105, 110, 116] = 0 by decide, show dl [114, 101, 116, 117, 114, 110] = 0 by decide, show dl [115, 116, 114, 117, 99, 116] = 0 by decide, show dl [116, 111] = 0 by decide, show dl [126] = 0 by decide, show dl [33] = 0 by decide, show dl [38] = 0 by decide, show dl [42] = 0 by decide, show dl [44] = 0 by decide, show dl [45] = 0 by decide, show dl [46] = 0 by decide, show dl [58] = 0 by decide, show dl [59] = 0 by decide, show dl [61] = 0 by decide, show dl [63] = 0 by decide] at *; omega
           · simp only [d1, lo, e1, od, rank, one_size, app_size', Fo.size, dl1, dl2, dl3, dl4, dl5, dl6, show dl [101, 108, 115, 101] = 0 by decide, show dl [102, 111, 114] = 0 by decide, show dl [105, 102] = 0 by decide, show dl [112, 114, 105, 110, 116] = 0 by decide, show dl [114, 101, 116, 117, 114, 110] = 0 by decide, show dl [115, 116, 114, 117, 99, 116] = 0 by decide, show dl [116, 111] = 0 by decide, show dl [126] = 0 by decide, show dl [33] = 0 by decide, show dl [38] = 0 by decide, show dl [42] = 0 by decide, show dl [44] = 0 by decide, show dl [45] = 0 by decide, show dl [46] = 0 by decide, show dl [58] = 0 by decide, show dl [59] = 0 by decide, show dl [61] = 0 by decide, show dl [63] = 0 by decide] at *; omega
           · simp only [d1, lo, e1, od, rank, one_size, app_size', Fo.size, dl1, dl2, dl3, dl4, dl5, dl6, show dl [101, 108, 115, 101] = 0 by decide, show dl [102, 111, 114] = 0 by decide, show dl [105, 102] = 0 by decide, show dl [112, 114, 105, 110, 116] = 0 by decide, show dl [114, 101, 116, 117, 114, 110] = 0 by decide, show dl [115, 116, 114, 117, 99, 116] = 0 by decide, show dl [116, 111] = 0 by decide, show dl [126] = 0 by decide, show dl [33] = 0 by decide, show dl [38] = 0 by decide, show dl [42] = 0 by decide, show dl [44] = 0 by decide, show dl [45] = 0 by decide, show dl [46] = 0 by decide, show dl [58] = 0 by decide, show dl [59] = 0 by decide, show dl [61] = 0 by decide, show dl [63] = 0 by decide] at *; omega
           · first
             | assumption
             | (simp only [NT.ok] at *; assumption)
             | (refine nf_ok ?_ ?_ ?_ ?_ ?_ ?_ ?_ ?_ ?_ <;> first | omega | decide | (rw [bs_size]; assumption) | exact Nat.zero_le _ | (split <;> decide) | (have := hq.ty; omega) | exact hq.n)
             | exact nf_tn hok (by omega)
             | exact ⟨hok.k, hok.op, hok.tk, hok.ti, hok.tn, hok.n, hok.m, by show (bs _).size ≤ _; rw [bs_size]; exact Nat.le_trans (by assumption) (by decide), hok.fd⟩
             | exact hok.2)
    case rep x0 l0 | more x0 l0 =>
      rcases hok with rfl | rfl <;> simp only [rd]
      all_goals repeat' first
        | refine try_k (by assumption) (by decide) (fun s' ⟨_, _, _, _⟩ => ?_) ?_
        | refine need_k (by assumption) (by decide) (fun s' ⟨_, _, _, _⟩ => ?_)
        | refine node_k (by assumption) (fun s' _ ht _ _ => ?_); replace ht := congrArg List.length ht
        | refine name_k (by assumption) (fun nm s' _ ⟨_, _, _, _⟩ => ?_)
        | refine int_k (by assumption) (fun t s' _ ⟨_, _, _, _⟩ => ?_)
        | refine count_k (by assumption) (fun z s' _ _ ⟨_, _, _, _⟩ => ?_)
        | refine number_k (by assumption) (fun q s' hq ⟨_, _, _, _⟩ => ?_)
        | (simp only [if_true, if_false, Bool.false_eq_true, bnd_ok])
        | rw [bnd_assoc]
        | refine op_k (by assumption) (by simp only [NT.ok] at hok; have := hok.1; omega) (fun s' ⟨_, _, _, _⟩ => ?_)
        | refine rd_k (ih _ _ (by assumption) (by first | trivial | exact Or.inl rfl | exact Or.inr rfl | (simp only [NT.ok] at *; first | (refine ⟨?_, ?_⟩ <;> first | assumption | omega | (left; rfl) | (right; rfl) | decide) | (left; rfl) | (right; rfl) | assumption | omega | (refine nf_ok ?_ ?_ ?_ ?_ ?_ ?_ ?_ ?_ ?_ <;> first | omega | decide | (rw [bs_size]; assumption) | exact Nat.zero_le _) | (refine ⟨hok.1, nf_ok ?_ ?_ ?_ ?_ ?_ ?_ ?_ ?_ ?_⟩ <;> first | omega | decide | (have := opT_le (tx s); omega) | exact Nat.zero_le _))) (by simp only [rank, d1] at *; omega)) (fun x s' ⟨_, _, _, _, _⟩ => ?_)
        | refine (ih _ _ (by assumption) (by first | trivial | exact Or.inl rfl | exact Or.inr rfl | (simp only [NT.ok] at *; first | (refine ⟨?_, ?_⟩ <;> first | assumption | omega | (left; rfl) | (right; rfl) | decide) | (left; rfl) | (right; rfl) | assumption | omega | (refine nf_ok ?_ ?_ ?_ ?_ ?_ ?_ ?_ ?_ ?_ <;> first | omega | decide | (rw [bs_size]; assumption) | exact Nat.zero_le _) | (refine ⟨hok.1, nf_ok ?_ ?_ ?_ ?_ ?_ ?_ ?_ ?_ ?_⟩ <;> first | omega | decide | (have := opT_le (tx s); omega) | exact Nat.zero_le _))) (by simp only [rank, d1] at *; omega)).mono (fun x s' ⟨_, _, _, _, _⟩ => ⟨by assumption, ?_, ?_, ?_, by assumption⟩)
        | split
      all_goals first
        | (simp only [d1, lo, e1, od, rank, one_size, app_size', Fo.size, dl1, dl2, dl3, dl4, dl5, dl6, show dl [101, 108, 115, 101] = 0 by decide, show dl [102, 111, 114] = 0 by decide, show dl [105, 102] = 0 by decide, show dl [112, 114, 105, 110, 116] = 0 by decide, show dl [114, 101, 116, 117, 114, 110] = 0 by decide, show dl [115, 116, 114, 117, 99, 116] = 0 by decide, show dl [116, 111] = 0 by decide, show dl [126] = 0 by decide, show dl [33] = 0 by decide, show dl [38] = 0 by decide, show dl [42] = 0 by decide, show dl [44] = 0 by decide, show dl [45] = 0 by decide, show dl [46] = 0 by decide, show dl [58] = 0 by decide, show dl [59] = 0 by decide, show dl [61] = 0 by decide, show dl [63] = 0 by decide] at *; omega)
        | (refine ⟨by assumption, ?_, ?_, ?_, ?_⟩
           · simp only [d1, lo, e1, od, rank, one_size, app_size', Fo.size, dl1, dl2, dl3, dl4, dl5, dl6, show dl [101, 108, 115, 101] = 0 by decide, show dl [102, 111, 114] = 0 by decide, show dl [105, 102] = 0 by decide, show dl [112, 114, 105, 110, 116] = 0 by decide, show dl [114, 101, 116, 117, 114, 110] = 0 by decide, show dl [115, 116, 114, 117, 99, 116] = 0 by decide, show dl [116, 111] = 0 by decide, show dl [126] = 0 by decide, show dl [33] = 0 by decide, show dl [38] = 0 by decide, show dl [42] = 0 by decide, show dl [44] = 0 by decide, show dl [45] = 0 by decide, show dl [46] = 0 by decide, show dl [58] = 0 by decide, show dl [59] = 0 by decide, show dl [61] = 0 by decide, show dl [63] = 0 by decide] at *; omega
           · simp only [d1, lo, e1, od, rank, one_size, app_size', Fo.size, dl1, dl2, dl3, dl4, dl5, dl6, show dl [101, 108, 115, 101] = 0 by decide, show dl [102, 111, 114] = 0 by decide, show dl [105, 102] = 0 by decide, show dl [112, 114, 105, 110, 116] = 0 by decide, show dl [114, 101, 116, 117, 114, 110] = 0 by decide, show dl [115, 116, 114, 117, 99, 116] = 0 by decide, show dl [116, 111] = 0 by decide, show dl [126] = 0 by decide, show dl [33] = 0 by decide, show dl [38] = 0 by decide, show dl [42] = 0 by decide, show dl [44] = 0 by decide, show dl [45] = 0 by decide, show dl [46] = 0 by decide, show dl [58] = 0 by decide, show dl [59] = 0 by decide, show dl [61] = 0 by decide, show dl [63] = 0 by decide] at *; omega
           · simp only [d1, lo, e1, od, rank, one_size, app_size', Fo.size, dl1, dl2, dl3, dl4, dl5, dl6, show dl [101, 108, 115, 101] = 0 by decide, show dl [102, 111, 114] = 0 by decide, show dl [105, 102] = 0 by decide, show dl [112, 114, 105, 110, 116] = 0 by decide, show dl [114, 101, 116, 117, 114, 110] = 0 by decide, show dl [115, 116, 114, 117, 99, 116] = 0 by decide, show dl [116, 111] = 0 by decide, show dl [126] = 0 by decide, show dl [33] = 0 by decide, show dl [38] = 0 by decide, show dl [42] = 0 by decide, show dl [44] = 0 by decide, show dl [45] = 0 by decide, show dl [46] = 0 by decide, show dl [58] = 0 by decide, show dl [59] = 0 by decide, show dl [61] = 0 by decide, show dl [63] = 0 by decide] at *; omega
           · first
             | assumption
             | (simp only [NT.ok] at *; assumption)
             | (refine nf_ok ?_ ?_ ?_ ?_ ?_ ?_ ?_ ?_ ?_ <;> first | omega | decide | (rw [bs_size]; assumption) | exact Nat.zero_le _ | (split <;> decide) | (have := hq.ty; omega) | exact hq.n)
             | exact nf_tn hok (by omega)
             | exact ⟨hok.k, hok.op, hok.tk, hok.ti, hok.tn, hok.n, hok.m, by show (bs _).size ≤ _; rw [bs_size]; exact Nat.le_trans (by assumption) (by decide), hok.fd⟩
             | exact hok.2)
    case items l0 =>
      simp only [rd]
      repeat' first
        | refine try_k (by assumption) (by decide) (fun s' ⟨_, _, _, _⟩ => ?_) ?_
        | refine need_k (by assumption) (by decide) (fun s' ⟨_, _, _, _⟩ => ?_)
        | refine node_k (by assumption) (fun s' _ ht _ _ => ?_); replace ht := congrArg List.length ht
        | refine name_k (by assumption) (fun nm s' _ ⟨_, _, _, _⟩ => ?_)
        | refine int_k (by assumption) (fun t s' _ ⟨_, _, _, _⟩ => ?_)
        | refine count_k (by assumption) (fun z s' _ _ ⟨_, _, _, _⟩ => ?_)
        | refine number_k (by assumption) (fun q s' hq ⟨_, _, _, _⟩ => ?_)
        | (simp only [if_true, if_false, Bool.false_eq_true, bnd_ok])
        | rw [bnd_assoc]
        | refine op_k (by assumption) (by simp only [NT.ok] at hok; have := hok.1; omega) (fun s' ⟨_, _, _, _⟩ => ?_)
        | refine rd_k (ih _ _ (by assumption) (by first | trivial | exact Or.inl rfl | exact Or.inr rfl | (simp only [NT.ok] at *; first | (refine ⟨?_, ?_⟩ <;> first | assumption | omega | (left; rfl) | (right; rfl) | decide) | (left; rfl) | (right; rfl) | assumption | omega | (refine nf_ok ?_ ?_ ?_ ?_ ?_ ?_ ?_ ?_ ?_ <;> first | omega | decide | (rw [bs_size]; assumption) | exact Nat.zero_le _) | (refine ⟨hok.1, nf_ok ?_ ?_ ?_ ?_ ?_ ?_ ?_ ?_ ?_⟩ <;> first | omega | decide | (have := opT_le (tx s); omega) | exact Nat.zero_le _))) (by simp only [rank, d1] at *; omega)) (fun x s' ⟨_, _, _, _, _⟩ => ?_)
        | refine (ih _ _ (by assumption) (by first | trivial | exact Or.inl rfl | exact Or.inr rfl | (simp only [NT.ok] at *; first | (refine ⟨?_, ?_⟩ <;> first | assumption | omega | (left; rfl) | (right; rfl) | decide) | (left; rfl) | (right; rfl) | assumption | omega | (refine nf_ok ?_ ?_ ?_ ?_ ?_ ?_ ?_ ?_ ?_ <;> first | omega | decide | (rw [bs_size]; assumption) | exact Nat.zero_le _) | (refine ⟨hok.1, nf_ok ?_ ?_ ?_ ?_ ?_ ?_ ?_ ?_ ?_⟩ <;> first | omega | decide | (have := opT_le (tx s); omega) | exact Nat.zero_le _))) (by simp only [rank, d1] at *; omega)).mono (fun x s' ⟨_, _, _, _, _⟩ => ⟨by assumption, ?_, ?_, ?_, by assumption⟩)
        | split
      all_goals first
        | (simp only [d1, lo, e1, od, rank, one_size, app_size', Fo.size, dl1, dl2, dl3, dl4, dl5, dl6, show dl [101, 108, 115, 101] = 0 by decide, show dl [102, 111, 114] = 0 by decide, show dl [105, 102] = 0 by decide, show dl [112, 114, 105, 110, 116] = 0 by decide, show dl [114, 101, 116, 117, 114, 110] = 0 by decide, show dl [115, 116, 114, 117, 99, 116] = 0 by decide, show dl [116, 111] = 0 by decide, show dl [126] = 0 by decide, show dl [33] = 0 by decide, show dl [38] = 0 by decide, show dl [42] = 0 by decide, show dl [44] = 0 by decide, show dl [45] = 0 by decide, show dl [46] = 0 by decide, show dl [58] = 0 by decide, show dl [59] = 0 by decide, show dl [61] = 0 by decide, show dl [63] = 0 by decide] at *; omega)
        | (refine ⟨by assumption, ?_, ?_, ?_, ?_⟩
           · simp only [d1, lo, e1, od, rank, one_size, app_size', Fo.size, dl1, dl2, dl3, dl4, dl5, dl6, show dl [101, 108, 115, 101] = 0 by decide, show dl [102, 111, 114] = 0 by decide, show dl [105, 102] = 0 by decide, show dl [112, 114, 105, 110, 116] = 0 by decide, show dl [114, 101, 116, 117, 114, 110] = 0 by decide, show dl [115, 116, 114, 117, 99, 116] = 0 by decide, show dl [116, 111] = 0 by decide, show dl [126] = 0 by decide, show dl [33] = 0 by decide, show dl [38] = 0 by decide, show dl [42] = 0 by decide, show dl [44] = 0 by decide, show dl [45] = 0 by decide, show dl [46] = 0 by decide, show dl [58] = 0 by decide, show dl [59] = 0 by decide, show dl [61] = 0 by decide, show dl [63] = 0 by decide] at *; omega
           · simp only [d1, lo, e1, od, rank, one_size, app_size', Fo.size, dl1, dl2, dl3, dl4, dl5, dl6, show dl [101, 108, 115, 101] = 0 by decide, show dl [102, 111, 114] = 0 by decide, show dl [105, 102] = 0 by decide, show dl [112, 114, 105, 110, 116] = 0 by decide, show dl [114, 101, 116, 117, 114, 110] = 0 by decide, show dl [115, 116, 114, 117, 99, 116] = 0 by decide, show dl [116, 111] = 0 by decide, show dl [126] = 0 by decide, show dl [33] = 0 by decide, show dl [38] = 0 by decide, show dl [42] = 0 by decide, show dl [44] = 0 by decide, show dl [45] = 0 by decide, show dl [46] = 0 by decide, show dl [58] = 0 by decide, show dl [59] = 0 by decide, show dl [61] = 0 by decide, show dl [63] = 0 by decide] at *; omega
           · simp only [d1, lo, e1, od, rank, one_size, app_size', Fo.size, dl1, dl2, dl3, dl4, dl5, dl6, show dl [101, 108, 115, 101] = 0 by decide, show dl [102, 111, 114] = 0 by decide, show dl [105, 102] = 0 by decide, show dl [112, 114, 105, 110, 116] = 0 by decide, show dl [114, 101, 116, 117, 114, 110] = 0 by decide, show dl [115, 116, 114, 117, 99, 116] = 0 by decide, show dl [116, 111] = 0 by decide, show dl [126] = 0 by decide, show dl [33] = 0 by decide, show dl [38] = 0 by decide, show dl [42] = 0 by decide, show dl [44] = 0 by decide, show dl [45] = 0 by decide, show dl [46] = 0 by decide, show dl [58] = 0 by decide, show dl [59] = 0 by decide, show dl [61] = 0 by decide, show dl [63] = 0 by decide] at *; omega
           · first
             | assumption
             | (simp only [NT.ok] at *; assumption)
             | (refine nf_ok ?_ ?_ ?_ ?_ ?_ ?_ ?_ ?_ ?_ <;> first | omega | decide | (rw [bs_size]; assumption) | exact Nat.zero_le _ | (split <;> decide) | (have := hq.ty; omega) | exact hq.n)
             | exact nf_tn hok (by omega)
             | exact ⟨hok.k, hok.op, hok.tk, hok.ti, hok.tn, hok.n, hok.m, by show (bs _).size ≤ _; rw [bs_size]; exact Nat.le_trans (by assumption) (by decide), hok.fd⟩
             | exact hok.2)
end Pr
end Go.Proofs.YtoilhcklflmamaaGreatDoor

namespace Go.Proofs.YtoilhcklflmamaaGreatDoor
set_option linter.unusedVariables false
namespace Pr

theorem bnd_mono {α β : Type} {r r' : Rs α} {f f' : α → St → Rs β} (h1 : r ≠ .out → r' = r) (h2 : ∀ a s, f a s ≠ .out → f' a s = f a s) (h : r.bnd f ≠ .out) : r'.bnd f' = r.bnd f := by
  have e : r' = r := h1 (fun e => h (by rw [e]; rfl))
  rw [e]
  cases r with
  | ok a s => exact h2 a s h
  | bad k p => rfl
  | out => rfl
theorem ite_mono {α : Type} {c : Prop} [Decidable c] {A B A' B' : Rs α} (h1 : c → A ≠ .out → A' = A) (h2 : ¬ c → B ≠ .out → B' = B) (h : (if c then A else B) ≠ .out) : (if c then A' else B') = if c then A else B := by
  by_cases hc : c
  · rw [if_pos hc] at h ⊢; rw [if_pos hc]; exact h1 hc h
  · rw [if_neg hc] at h ⊢; rw [if_neg hc]; exact h2 hc h

set_option maxHeartbeats 2000000 in
theorem rd_more : ∀ (n : Nat) (nt : NT) (s : St), rd n nt s ≠ .out → rd (n + 1) nt s = rd n nt s := by
  intro n
  induction n with
  | zero => intro nt s h; exact absurd rfl h
  | succ n ih =>
    intro nt s h
    cases nt <;> (rw [rd] at h ⊢; rw [rd])
    all_goals
      repeat' first
        | exact ih _ _ (by assumption)
        | refine bnd_mono (fun h => ih _ _ h) (fun a s h => ?_) (by assumption)
        | refine bnd_mono (fun _ => rfl) (fun a s h => ?_) (by assumption)
        | refine ite_mono (fun _ h => ?_) (fun _ h => ?_) (by assumption)
        | refine bnd_mono (fun h => ?_) (fun a s h => ?_) (by assumption)
        | rfl

theorem rd_grow {n nt s} (h : rd n nt s ≠ .out) : ∀ k, rd (n + k) nt s = rd n nt s
  | 0 => rfl
  | k + 1 => by
    have := rd_grow h k
    rw [show n + (k + 1) = (n + k) + 1 by omega, rd_more (n + k) nt s (by rw [this]; exact h), this]
/-- What each rule keeps, whenever it ends. -/
theorem rd_post {n : Nat} {nt : NT} {s s' : St} {x : Nd} (hw : Wf s) (hok : nt.ok) (h : rd n nt s = .ok x s') : Post nt s x s' := by
  have hg := rd_grow (n := n) (nt := nt) (s := s) (by rw [h]; exact fun e => by cases e) (10 * s.t.length + rank nt)
  have := rd_ok (n + (10 * s.t.length + rank nt)) nt s hw hok (by omega)
  rw [hg, h] at this
  exact this

end Pr
end Go.Proofs.YtoilhcklflmamaaGreatDoor
