/-
  What Low, Fits and Wrap return, in the program and in the document's answer: contracts over the program, for every type's number and every value of 64 bits.
-/
import Derived.Test.YtancfhnhjfhbfabBase
namespace Go.Proofs.Ytancfhnhjfhbfab
open Go.RowKit
open Burin

theorem wrap0 (v : Int) : wrap64 (IntKind.i8.wrap v) = wr 0 v := by
  simp [IntKind.wrap, IntKind.bits, IntKind.signed, wrap64, wr]
  split <;> omega
theorem wrap2 (v : Int) : wrap64 (IntKind.i16.wrap v) = wr 2 v := by
  simp [IntKind.wrap, IntKind.bits, IntKind.signed, wrap64, wr]
  split <;> omega
theorem wrap3 (v : Int) : wrap64 (IntKind.u16.wrap v) = wr 3 v := by
  simp [IntKind.wrap, IntKind.bits, IntKind.signed, wrap64, wr]
  omega
theorem wrap4 (v : Int) : wrap64 (wrap32 v) = wr 4 v := by
  simp [wrap32, wrap64, wr]
  omega

theorem tm_lo (v : Int) (m : Int) (h : 0 < m) : -m < v.tmod m := by
  have := Int.tmod_lt_of_pos (-v) h
  rw [Int.neg_tmod] at this
  omega
theorem tm_hi (v : Int) (m : Int) (h : 0 < m) : v.tmod m < m := Int.tmod_lt_of_pos v h

end Go.Proofs.Ytancfhnhjfhbfab
