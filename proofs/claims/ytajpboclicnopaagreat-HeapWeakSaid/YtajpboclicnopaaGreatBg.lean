/-
  The nodes' lists are filled: what stands in the midst of it. No condition but those typed at each theorem.
-/
import Derived.Test.YtajpboclicnopaaGreatMBb
namespace Go.Proofs.YtajpboclicnopaaGreat.Bd
open Go.RowKit Go.Sort
section
variable {w wr w' : World}  {RX : List S3} {cnt wt : Nat} {OV : List (Value × Value)} {Lf : Nat → List S3}
/-- one more at the node k -/
def upd (Lf : Nat → List S3) (k : Nat) (s : S3) : Nat → List S3 := fun j => if j = k then Lf k ++ [s] else Lf j
end
end Go.Proofs.YtajpboclicnopaaGreat.Bd
