/-
  Places in a row, of which some are there no more, kept in runs; what of a list is there, from a place on, ahead of another one: plain lists, no program. No condition but those typed at each theorem.
-/
import Derived.Test.YtldmajifkmcdcaaGreatMGen
namespace Go.Proofs.YtldmajifkmcdcaaGreat
open Go.RowKit
/-- O with all places from a on, ahead of b, at the run k -/
def own (O : List Nat) (a b k : Nat) : List Nat := (List.range O.length).map fun p => if a ≤ p ∧ p < b then k else O.getD p 0
section
variable {α : Type} [BEq α] [LawfulBEq α]
/-- those of a line that are there, from the place i on, ahead of k -/
def sg (SP A : List α) (i k : Nat) : List α := ((SP.drop i).take (k - i)).filter (fun s => decide (s ∈ A))
end
end Go.Proofs.YtldmajifkmcdcaaGreat
