/-
  A node's list in memory: how a list is made. No condition but those typed at each theorem.
-/
import Derived.Test.YtajpboclicnopaaGreatMBa
import Derived.Test.YtajpboclicnopaaGreatNo2
namespace Go.Proofs.YtajpboclicnopaaGreat.Bd
open Go.RowKit Go.Sort
/-- a list's cells -/
def lcl (n z : Nat) (va : Value) (P : NmP) : List Value := va :: P.vn :: nmc n z P
end Go.Proofs.YtajpboclicnopaaGreat.Bd
