/-
  What a law tells, as yes or no. No condition but those typed at each theorem.
-/
import Derived.Test.YtjobfpnlpfjoeaaRows
import Derived.WalkKit
import Derived.WalkSpells
import Derived.WalkLawsBesides
import Derived.Lib.Hide
import Derived.Deep.QuietTactic
import Derived.BigQuiet
import Derived.Shelf.Abstract
namespace Go.Proofs.Ytjobfpnlpfjoeaa
open Go.RowKit

theorem retb {p q : Bool} (h : p = true ↔ q = true) : Ending.returned (.bool p) = .returned (.bool q) := by rw [Bool.eq_iff_iff.2 h]
end Go.Proofs.Ytjobfpnlpfjoeaa
