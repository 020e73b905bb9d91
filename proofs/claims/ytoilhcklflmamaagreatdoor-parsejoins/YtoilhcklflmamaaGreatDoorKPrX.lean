/-
  Every reader of layer 5 reads what the plain reader reads: contracts over the program, all together, by the steps that the plain reader takes; the conditions: the reader lies in memory as it should.
-/
import Derived.Test.YtoilhcklflmamaaGreatDoorKPrJ
import Derived.Test.YtoilhcklflmamaaGreatDoorKPrK
import Derived.Test.YtoilhcklflmamaaGreatDoorKPrM
import Derived.Test.YtoilhcklflmamaaGreatDoorKPrNl
import Derived.Test.YtoilhcklflmamaaGreatDoorKPrQi
import Derived.Test.YtoilhcklflmamaaGreatDoorKPrR
import Derived.Test.YtoilhcklflmamaaGreatDoorKPrSe
import Derived.Test.YtoilhcklflmamaaGreatDoorKPrSp
import Derived.Test.YtoilhcklflmamaaGreatDoorKPrSa
import Derived.Test.YtoilhcklflmamaaGreatDoorKPrT
import Derived.Test.YtoilhcklflmamaaGreatDoorKPrU
import Derived.Test.YtoilhcklflmamaaGreatDoorKPrV
import Derived.Test.YtoilhcklflmamaaGreatDoorKPrW
namespace Go.Proofs.YtoilhcklflmamaaGreatDoor
open Go.RowKit
open Pr
set_option linter.unusedVariables false

/-- All contracts, with so many steps. -/
structure AllR (R g cap : Nat) (L : List Tok) (n : Nat) : Prop where
  item : ∀ s, rd n .item s ≠ .out → Rule 33 #[] R g cap L s (rd n .item s)
  field : ∀ s, rd n .field s ≠ .out → Rule 68 #[] R g cap L s (rd n .field s)
  param : ∀ s, rd n .param s ≠ .out → Rule 93 #[] R g cap L s (rd n .param s)
  block : ∀ s, rd n .block s ≠ .out → Rule 94 #[] R g cap L s (rd n .block s)
  statement : ∀ s, rd n .statement s ≠ .out → Rule 110 #[] R g cap L s (rd n .statement s)
  choice : ∀ s, rd n .choice s ≠ .out → Rule 115 #[] R g cap L s (rd n .choice s)
  loop : ∀ s, rd n .loop s ≠ .out → Rule 116 #[] R g cap L s (rd n .loop s)
  assignment : ∀ s, rd n .assignment s ≠ .out → Rule 118 #[] R g cap L s (rd n .assignment s)
  argument : ∀ s, rd n .argument s ≠ .out → Rule 125 #[] R g cap L s (rd n .argument s)
  lvalue : ∀ s, rd n .lvalue s ≠ .out → Rule 122 #[] R g cap L s (rd n .lvalue s)
  bracketed : ∀ s, rd n .bracketed s ≠ .out → Rule 117 #[] R g cap L s (rd n .bracketed s)
  expression : ∀ s, rd n .expression s ≠ .out → Rule 114 #[] R g cap L s (rd n .expression s)
  unary : ∀ s, rd n .unary s ≠ .out → Rule 123 #[] R g cap L s (rd n .unary s)
  opened : ∀ s, rd n .opened s ≠ .out → Rule 127 #[] R g cap L s (rd n .opened s)
  literal : ∀ s, rd n .literal s ≠ .out → Rule 73 #[] R g cap L s (rd n .literal s)
  function : ∀ (t : Nat) (nm : List UInt8), t < 6 → nm.length ≤ 65536 → ∀ s, rd n (.function t nm) s ≠ .out → Rule 71 #[.agg #[.int .u8 0, .int .u8 (t : Int), .int .i64 0], .string (bs nm)] R g cap L s (rd n (.function t nm) s)
  structured : ∀ (k : Int), 0 ≤ k ∧ k ≤ 255 → ∀ of : List UInt8, of.length ≤ 65536 → ∀ s, rd n (.structured k of) s ≠ .out → Rule 69 #[.int .u8 k, .string (bs of)] R g cap L s (rd n (.structured k of) s)
  variableE : ∀ v : NF, v.ok → ∀ s, rd n (.variable v true) s ≠ .out → Rule 72 #[nodeV v (.slice none 0 0), .func (.func 114) #[rp R] #[]] R g cap L s (rd n (.variable v true) s)
  variableL : ∀ v : NF, v.ok → ∀ s, rd n (.variable v false) s ≠ .out → Rule 72 #[nodeV v (.slice none 0 0), .func (.func 73) #[rp R] #[]] R g cap L s (rd n (.variable v false) s)
  call : ∀ (v : NF) (k : Fo), v.ok → ∀ s, rd n (.call v k) s ≠ .out → ∀ X (B : Nat) (a : Option Addr) (c : Nat) (f : Fo), R < B → B ≤ X.heap.size → LI B X (.slice a f.len c) k f → f.len ≤ 1 → c = f.len → RD X R g cap L s → Calls Tryz.prog 121 #[rp R, nodeV v (.slice a f.len c)] X (PostG (NV B) R g cap L X (rd n (.call v k) s))
  binary : ∀ k : Nat, 1 ≤ k → k ≤ 11 → ∀ s, rd n (.binary k) s ≠ .out → Rule 119 #[.int .i64 k] R g cap L s (rd n (.binary k) s)
  prefixed : ∀ v : NF, v.ok → ∀ s, rd n (.prefixed v) s ≠ .out → Rule 126 #[nodeV v (.slice none 0 0)] R g cap L s (rd n (.prefixed v) s)

theorem allR (R g cap : Nat) (L : List Tok) : ∀ n m, m ≤ n → AllR R g cap L m := by
  intro n
  induction n with
  | zero =>
    intro m hm
    obtain rfl : m = 0 := by omega
    exact ⟨fun _ h => absurd rfl h, fun _ h => absurd rfl h, fun _ h => absurd rfl h, fun _ h => absurd rfl h, fun _ h => absurd rfl h, fun _ h => absurd rfl h, fun _ h => absurd rfl h, fun _ h => absurd rfl h, fun _ h => absurd rfl h, fun _ h => absurd rfl h, fun _ h => absurd rfl h, fun _ h => absurd rfl h, fun _ h => absurd rfl h, fun _ h => absurd rfl h, fun _ h => absurd rfl h, fun _ _ _ _ _ h => absurd rfl h, fun _ _ _ _ _ h => absurd rfl h, fun _ _ _ h => absurd rfl h, fun _ _ _ h => absurd rfl h, fun _ _ _ _ h => absurd rfl h, fun _ _ _ _ h => absurd rfl h, fun _ _ _ h => absurd rfl h⟩
  | succ n ih =>
    intro m hm
    by_cases hle : m ≤ n
    · exact ih m hle
    · obtain rfl : m = n + 1 := by omega
      have A := ih n (Nat.le_refl _)
      exact {
        item := fun s h => item_rd R g cap L n (fun m hm => (ih m hm).field) A.structured A.function A.variableL s h
        field := fun s h => field_rd R g cap L n s h
        param := fun s h => param_rd R g cap L n s h
        block := fun s h => block_rd R g cap L n (fun m hm => (ih m hm).statement) s h
        statement := fun s h => statement_rd R g cap L n A.variableE A.structured A.choice A.loop A.bracketed A.expression A.assignment s h
        choice := fun s h => choice_rd R g cap L n A.bracketed A.block s h
        loop := fun s h => loop_rd R g cap L n A.block s h
        assignment := fun s h => assignment_rd R g cap L n A.lvalue A.expression A.call s h
        argument := fun s h => argument_rd R g cap L n A.lvalue A.expression s h
        lvalue := fun s h => lvalue_rd R g cap L n A.expression s h
        bracketed := fun s h => bracketed_rd R g cap L n A.expression s h
        expression := fun s h => expression_rd R g cap L n (A.binary 1 (Nat.le_refl _) (by decide)) A.expression s h
        unary := fun s h => unary_rd R g cap L n A.prefixed A.opened A.literal A.lvalue s h
        opened := fun s h => opened_rd R g cap L n A.expression A.prefixed s h
        literal := fun s h => literal_rd R g cap L n s h
        function := fun t nm ht hnm s h => function_rd R g cap L n (fun m hm => (ih m hm).param) A.block t nm ht hnm s h
        structured := fun k hk of hof s h => structured_rd R g cap L n k hk of hof s h
        variableE := fun v hv s h => variable_rd_e R g cap L n A.expression v hv s h
        variableL := fun v hv s h => variable_rd_l R g cap L n A.literal v hv s h
        call := fun v k hv s h => call_rd R g cap L n (fun m hm => (ih m hm).argument) v k hv s h
        binary := fun k h1 h2 s h => binary_rd R g cap L n A.unary (fun m hm => (ih m hm).binary) k h1 h2 s h
        prefixed := fun v hv s h => prefixed_rd R g cap L n A.unary v hv s h }

/-- A program. -/
theorem program_all (R g cap : Nat) (L : List Tok) (n : Nat) (s : St) (hno : ((nodeM s).bnd fun _ s => rd n (.items .nil) s) ≠ .out) : Rule 21 #[] R g cap L s ((nodeM s).bnd fun _ s => rd n (.items .nil) s) :=
  program_rd R g cap L n (fun m hm => (allR R g cap L n m hm).item) s hno

end Go.Proofs.YtoilhcklflmamaaGreatDoor
