/-
  Whether an instruction is right, and how many there are, by layer 13 and by the document's answer: contracts over the program.
-/
import Derived.Test.YtiiggldapncknaaIrI
namespace Go.Proofs.Ytiiggldapncknaa
open Go.RowKit
set_option linter.unusedVariables false

def insP (c : PC) (k : Nat) (f : PF) (x : PI) : Bool := knP x.op && (decide (x.ty ≤ 5) && (wtP f x && (rdsP f x && immP c k f x)))

set_option maxRecDepth 100000 in
theorem instruction_any (w : World) (cb co ib io k : Nat) (c : PC) (f : PF) (x : PI) (hc : At w cb co c.cells) (hcok : c.ok w) (hk : c.fns[k]? = some f) (hx : At w ib io x.cells) (hxok : x.ok w) :
    Calls Try.prog 40 #[.pointer (some ⟨cb, co, none⟩), .int .i64 (k : Int), .pointer (some ⟨ib, io, none⟩)] w fun e w' => e = .returned (.bool (insP c k f x)) ∧ Q w w' := by
  obtain ⟨c0, c1, c2⟩ := hc.three
  obtain ⟨i0, i1, -⟩ := hx.seven
  obtain ⟨fb, fo, efa, hf, hfok⟩ := hcok.fns k f hk
  have hkl : k < c.fns.length := (List.getElem?_eq_some_iff.1 hk).1
  have hkl' : (k : Int) < (c.fns.length : Int) := by omega
  have hlen : c.fns.length ≤ 9223372036854775807 := hcok.fsok.len
  rw [efa] at c2
  have CK := hideIt (fun X => known_any x.op X)
  have CF := hideIt (fun X => form_any x.ty X)
  have CW := hideIt (written_any w fb (fo + k * 4) ib io f x hf hx)
  have CR : Hid (∀ X, Q w X → Calls Try.prog 45 #[.pointer (some ⟨fb, fo + k * 4, none⟩), .pointer (some ⟨ib, io, none⟩)] X fun e w' => e = .returned (.bool (rdsP f x)) ∧ Q X w') := fun X h => drQ (read_any X fb (fo + k * 4) ib io f x (hf.keep h) (hx.keep h) (hxok.keep h))
  have CI : Hid (∀ X, Q w X → Calls Try.prog 46 #[.pointer (some ⟨cb, co, none⟩), .int .i64 (k : Int), .pointer (some ⟨ib, io, none⟩)] X fun e w' => e = .returned (.bool (immP c k f x)) ∧ Q X w') := fun X h => drQ (immediate_any X cb co ib io k c f x (hc.keep h) (hcok.keep h) hk (hx.keep h))
  clear hc hx hf hfok hk hcok efa hxok
  unfold insP
  generalize hb1 : knP x.op = b1 at *
  generalize hb2 : decide (x.ty ≤ 5) = b2 at *
  generalize wtP f x = b3 at *
  generalize rdsP f x = b4 at *
  generalize immP c k f x = b5 at *
  clear hb1 hb2
  cases b1
  · go_enter Try.func40, Try.ntmps40
    go_wp2_with (first | (go_at_call 27; refine (CK.out _).mono ?_; rintro e x1 ⟨rfl, rfl⟩) | fail)
    go_ret
    exact ⟨rfl, Q.refl _⟩
  · cases b2
    · go_enter Try.func40, Try.ntmps40
      go_wp2_with (first | (go_at_call 27; refine (CK.out _).mono ?_; rintro e x1 ⟨rfl, rfl⟩) | (go_at_call 43; refine (CF.out _).mono ?_; rintro e x1 ⟨rfl, rfl⟩) | fail)
      go_ret
      exact ⟨rfl, Q.refl _⟩
    · cases b3 <;> cases b4 <;>
      · go_enter Try.func40, Try.ntmps40
        go_wp2_with (first | (go_at_call 27; refine (CK.out _).mono ?_; rintro e x1 ⟨rfl, rfl⟩) | (go_at_call 43; refine (CF.out _).mono ?_; rintro e x1 ⟨rfl, rfl⟩) | (go_at_call 44; refine CW.out.mono ?_; rintro e x3 ⟨rfl, q3⟩; have H3 := hideIt q3; have HE := hideIt q3; clear q3) | (go_at_call 45; refine (CR.out _ H3.out).mono ?_; rintro e x4 ⟨rfl, q4⟩; have H4 := hideIt (H3.out.trans q4); clear HE; have HE := hideIt H4.out; clear q4) | (go_at_call 46; refine (CI.out _ H4.out).mono ?_; rintro e x5 ⟨rfl, q5⟩; have H5 := hideIt (H4.out.trans q5); clear HE; have HE := hideIt H5.out; clear q5) | fail)
        go_ret
        exact ⟨rfl, HE.out⟩

/-- How many instructions and parts. -/
def partN (p : PP) : Int := 1 + p.ins.length
def fnN (f : PF) : Int := (f.parts.map partN).sum
def codeN (c : PC) : Int := (c.fns.map fnN).sum

theorem wrap_add (a b : Int) : IntKind.i64.wrap (IntKind.i64.wrap a + b) = IntKind.i64.wrap (a + b) := by simp [IntKind.wrap_i64]; omega
theorem wrap_add' (a b : Int) : IntKind.i64.wrap (a + IntKind.i64.wrap b) = IntKind.i64.wrap (a + b) := by simp [IntKind.wrap_i64]; omega
theorem wrap_wrap (a : Int) : IntKind.i64.wrap (IntKind.i64.wrap a) = IntKind.i64.wrap a := by simp [IntKind.wrap_i64]

end Go.Proofs.Ytiiggldapncknaa
