/-
  A node's list in memory: how a list is made. No condition but those typed at each theorem.
-/
import Derived.Test.YtadlobmhnkfnfaaGreatMBa
import Derived.Test.YtadlobmhnkfnfaaGreatNo2
namespace Go.Proofs.YtadlobmhnkfnfaaGreat.Bd
open Go.RowKit Go.Sort
/-- a list's cells -/
def lcl (n z : Nat) (va : Value) (P : NmP) : List Value := va :: P.vn :: nmc n z P
end Go.Proofs.YtadlobmhnkfnfaaGreat.Bd
