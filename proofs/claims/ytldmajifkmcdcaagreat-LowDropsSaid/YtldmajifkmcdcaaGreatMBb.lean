/-
  A node's list in memory: who is between, how many, who is there, a drop. No condition but those typed at each theorem.
-/
import Derived.Test.YtldmajifkmcdcaaGreatMBa
import Derived.Test.YtldmajifkmcdcaaGreatMA
import Derived.Test.YtldmajifkmcdcaaGreatMF
import Derived.Test.YtldmajifkmcdcaaGreatMP
namespace Go.Proofs.YtldmajifkmcdcaaGreat.Bd
open Go.RowKit Go.Sort
/-- where a list lies -/
structure LsP where
  va : Value
  np : NmP
  z : Nat
section
variable {w w' : World} {b o : Nat} {SP A : List S3} {P : LsP}
end
end Go.Proofs.YtldmajifkmcdcaaGreat.Bd
/-
  A tree of points, plain: who stands at a node, what the canonical nodes of a range tell together, how many things are touched, how much it weighs. No condition but those typed at each theorem.
-/
namespace Go.Proofs.YtldmajifkmcdcaaGreat.Bd
open Go.RowKit Go.Sort
section
variable {RX LY : List S3}
theorem lgM {a b : Nat} (h : a ≤ b) (hb : b ≤ 100000) : lgN a ≤ lgN b := bl_mono (by omega) (by omega)
end
end Go.Proofs.YtldmajifkmcdcaaGreat.Bd
/-
  A tree of points in memory; the canonical nodes' lists handed down. No condition but those typed at each theorem.
-/
namespace Go.Proofs.YtldmajifkmcdcaaGreat.Bd
open Go.RowKit Go.Sort
/-- the blocks of a list -/
def lblk (lb : Nat) (p : LsP) : List Nat := lb :: (mbl p.np ++ (p.va.ownBlock.toList ++ p.np.vn.ownBlock.toList))
section
variable {w w' : World}  {RX LY A : List S3}
end
end Go.Proofs.YtldmajifkmcdcaaGreat.Bd
