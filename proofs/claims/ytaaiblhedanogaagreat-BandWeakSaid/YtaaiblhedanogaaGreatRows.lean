/-
  No cell of these rows narrows 'for every input' (looked for: loops, veiled, ifaces, maps, wideKeys, modest, calm, conditions, laid).
  DERIVED. THE GIVEN ROWS OF THIS SEAT. 6 by the template 'for every input the law returns true; each argument reads behind the call as it read before'; 0 by the template 'total and deterministic' (their statements: YtaaiblhedanogaaGreatTotals.lean).
  GIVEN WITH THE SEED: the statements are not yours to turn. If you find one false, say at which input.
  Laid BY PROGRAM, IN A SANDBOX (cutbox-rows.mjs): the forced cells as the released guide's own fill.sh prints them over the translation 32a334d6fcbea285… (all of the seat's roots in one cut). By AI agents, Wed Nov 11 2026. No macro, syntax, notation, axiom, sorry.
-/
import Derived.Test.YtaaiblhedanogaaGreatChecked
import GoSem.Claim
import GoSem.ClaimJoined
import GoSem.ClaimMapViews
import Derived.JoinedTies
import Derived.KernelRfl
namespace Go.Proofs.YtaaiblhedanogaaGreat
/- THE CELL 'sum', in the pinned program and in every row, IS THE sha256 OF THE DUMP (.gsa) THAT YtaaiblhedanogaaGreatProg.lean LOADS. Nothing in Lean hashes anything: it is a label: what it is worth is what the hold of that sum in a sandbox is worth. -/
noncomputable def Tryz.pinned : Pinned := { name := "ytaaiblhedanogaagreat", sum := "32a334d6fcbea285005b0298de231dc1d4ed0a9f9374dec9e0c3765c175097f2", checked := Tryz.checked }
namespace Rows
def none {H : Type} : Left H := { results := [], args := [] }

/-- 'gridironlaw10.BandTells': WHATEVER THE INPUT: true; the input reads as it did. -/
def bandTellsSpec : ChangeSpec := { name := "bandTells", fn := fun _ => fun
  | [d1, d2, d3] => { results := [.lit (.bool true)], args := [d1, d2, d3] }
  | _ => none }
def bandTellsRow : OpenClaim := { program := "ytaaiblhedanogaagreat", sum := "32a334d6fcbea285005b0298de231dc1d4ed0a9f9374dec9e0c3765c175097f2", func := "gridiron/gridironlaw10.BandTells", spec := "bandTells", unfollowed := true, recurses := true, apart := false }
def BandTellsSaid : Prop := bandTellsRow.holds Tryz.pinned (OpenSpec.ofChange bandTellsSpec)

/-- ITS FALSE NEIGHBOUR: 'it returns false'. Refute it at one input. -/
def bandTellsWrong : ChangeSpec := { name := "bandTells", fn := fun _ => fun
  | [d1, d2, d3] => { results := [.lit (.bool false)], args := [d1, d2, d3] }
  | _ => none }
def BandTellsWrongFalsely : Prop := bandTellsRow.holds Tryz.pinned (OpenSpec.ofChange bandTellsWrong)

/-- 'gridironlaw10.BandBound': WHATEVER THE INPUT: true; the input reads as it did. -/
def bandBoundSpec : ChangeSpec := { name := "bandBound", fn := fun _ => fun
  | [d1, d2, d3] => { results := [.lit (.bool true)], args := [d1, d2, d3] }
  | _ => none }
def bandBoundRow : OpenClaim := { program := "ytaaiblhedanogaagreat", sum := "32a334d6fcbea285005b0298de231dc1d4ed0a9f9374dec9e0c3765c175097f2", func := "gridiron/gridironlaw10.BandBound", spec := "bandBound", unfollowed := true, recurses := true, apart := false }
def BandBoundSaid : Prop := bandBoundRow.holds Tryz.pinned (OpenSpec.ofChange bandBoundSpec)

/-- ITS FALSE NEIGHBOUR: 'it returns false'. Refute it at one input. -/
def bandBoundWrong : ChangeSpec := { name := "bandBound", fn := fun _ => fun
  | [d1, d2, d3] => { results := [.lit (.bool false)], args := [d1, d2, d3] }
  | _ => none }
def BandBoundWrongFalsely : Prop := bandBoundRow.holds Tryz.pinned (OpenSpec.ofChange bandBoundWrong)

/-- 'gridironlaw10.BandSplit': WHATEVER THE INPUT: true; the input reads as it did. -/
def bandSplitSpec : ChangeSpec := { name := "bandSplit", fn := fun _ => fun
  | [d1, d2, d3, d4] => { results := [.lit (.bool true)], args := [d1, d2, d3, d4] }
  | _ => none }
def bandSplitRow : OpenClaim := { program := "ytaaiblhedanogaagreat", sum := "32a334d6fcbea285005b0298de231dc1d4ed0a9f9374dec9e0c3765c175097f2", func := "gridiron/gridironlaw10.BandSplit", spec := "bandSplit", unfollowed := true, recurses := true, apart := false }
def BandSplitSaid : Prop := bandSplitRow.holds Tryz.pinned (OpenSpec.ofChange bandSplitSpec)

/-- ITS FALSE NEIGHBOUR: 'it returns false'. Refute it at one input. -/
def bandSplitWrong : ChangeSpec := { name := "bandSplit", fn := fun _ => fun
  | [d1, d2, d3, d4] => { results := [.lit (.bool false)], args := [d1, d2, d3, d4] }
  | _ => none }
def BandSplitWrongFalsely : Prop := bandSplitRow.holds Tryz.pinned (OpenSpec.ofChange bandSplitWrong)

/-- 'gridironlaw10.BandTurned': WHATEVER THE INPUT: true; the input reads as it did. -/
def bandTurnedSpec : ChangeSpec := { name := "bandTurned", fn := fun _ => fun
  | [d1, d2] => { results := [.lit (.bool true)], args := [d1, d2] }
  | _ => none }
def bandTurnedRow : OpenClaim := { program := "ytaaiblhedanogaagreat", sum := "32a334d6fcbea285005b0298de231dc1d4ed0a9f9374dec9e0c3765c175097f2", func := "gridiron/gridironlaw10.BandTurned", spec := "bandTurned", unfollowed := true, recurses := true, apart := false }
def BandTurnedSaid : Prop := bandTurnedRow.holds Tryz.pinned (OpenSpec.ofChange bandTurnedSpec)

/-- ITS FALSE NEIGHBOUR: 'it returns false'. Refute it at one input. -/
def bandTurnedWrong : ChangeSpec := { name := "bandTurned", fn := fun _ => fun
  | [d1, d2] => { results := [.lit (.bool false)], args := [d1, d2] }
  | _ => none }
def BandTurnedWrongFalsely : Prop := bandTurnedRow.holds Tryz.pinned (OpenSpec.ofChange bandTurnedWrong)

/-- 'gridironlaw10.BandWeak': WHATEVER THE INPUT: true; the input reads as it did. -/
def bandWeakSpec : ChangeSpec := { name := "bandWeak", fn := fun _ => fun
  | [d1, d2, d3] => { results := [.lit (.bool true)], args := [d1, d2, d3] }
  | _ => none }
def bandWeakRow : OpenClaim := { program := "ytaaiblhedanogaagreat", sum := "32a334d6fcbea285005b0298de231dc1d4ed0a9f9374dec9e0c3765c175097f2", func := "gridiron/gridironlaw10.BandWeak", spec := "bandWeak", unfollowed := true, recurses := true, apart := false }
def BandWeakSaid : Prop := bandWeakRow.holds Tryz.pinned (OpenSpec.ofChange bandWeakSpec)

/-- ITS FALSE NEIGHBOUR: 'it returns false'. Refute it at one input. -/
def bandWeakWrong : ChangeSpec := { name := "bandWeak", fn := fun _ => fun
  | [d1, d2, d3] => { results := [.lit (.bool false)], args := [d1, d2, d3] }
  | _ => none }
def BandWeakWrongFalsely : Prop := bandWeakRow.holds Tryz.pinned (OpenSpec.ofChange bandWeakWrong)

/-- 'gridironlaw10.BandAll': WHATEVER THE INPUT: true; the input reads as it did. -/
def bandAllSpec : ChangeSpec := { name := "bandAll", fn := fun _ => fun
  | [d] => { results := [.lit (.bool true)], args := [d] }
  | _ => none }
def bandAllRow : OpenClaim := { program := "ytaaiblhedanogaagreat", sum := "32a334d6fcbea285005b0298de231dc1d4ed0a9f9374dec9e0c3765c175097f2", func := "gridiron/gridironlaw10.BandAll", spec := "bandAll", unfollowed := true, recurses := true, apart := false }
def BandAllSaid : Prop := bandAllRow.holds Tryz.pinned (OpenSpec.ofChange bandAllSpec)

/-- ITS FALSE NEIGHBOUR: 'it returns false'. Refute it at one input. -/
def bandAllWrong : ChangeSpec := { name := "bandAll", fn := fun _ => fun
  | [d] => { results := [.lit (.bool false)], args := [d] }
  | _ => none }
def BandAllWrongFalsely : Prop := bandAllRow.holds Tryz.pinned (OpenSpec.ofChange bandAllWrong)

/- THE SECOND FORM. 'bulk': how many values and letters a reading holds, each counted each time it is reached (what is shared counts as often as it is met; a slice's spare places count too). A statement '..UptoSaid' is the law's where the arguments, and the package variables that the reading takes, are together of bulk at most 1048576: NARROWER than '..Said'. Prove '..Said' where nothing that the law and all that it calls make is longer than what came in: it says more and counts as full. Else prove '..UptoSaid'. A law counts once. -/
mutual
def uptoBulk {H : Type} : DataW H → Nat
  | .lit (.string bytes) => bytes.length + 1
  | .lit _ => 1
  | .nil => 1
  | .ptr d => uptoBulk d + 1
  | .slice elems spare => uptoBulkAll elems + uptoBulkAll spare + 1
  | .agg parts => uptoBulkAll parts + 1
  | .iface _ d => uptoBulk d + 1
  | .map entries => uptoBulkEntries entries + 1
  | .held _ => 1
def uptoBulkAll {H : Type} : List (DataW H) → Nat
  | [] => 0
  | d :: r => uptoBulk d + uptoBulkAll r
def uptoBulkEntries {H : Type} : List (Lit × DataW H) → Nat
  | [] => 0
  | x :: r => uptoBulkEntry x + uptoBulkEntries r
def uptoBulkEntry {H : Type} : Lit × DataW H → Nat
  | (.string bytes, d) => bytes.length + uptoBulk d + 1
  | (_, d) => uptoBulk d + 1
 end
def uptoSmall : (H : Type) → List (DataW H) → Bool := fun _ ds => decide (uptoBulkAll ds ≤ 1048576)
def OpenSpec.upto (s : _root_.Go.ChangeSpec) : _root_.Go.OpenSpec := { _root_.Go.OpenSpec.ofChange s with cond := some uptoSmall }

/-- 'gridironlaw10.BandTells', WHERE WHAT IT READS IS OF BULK AT MOST 1048576: true; the input reads as it did. -/
def bandTellsUptoRow : OpenClaim := { program := "ytaaiblhedanogaagreat", sum := "32a334d6fcbea285005b0298de231dc1d4ed0a9f9374dec9e0c3765c175097f2", func := "gridiron/gridironlaw10.BandTells", spec := "bandTells", unfollowed := true, recurses := true, apart := false, narrowed := true }
def BandTellsUptoSaid : Prop := bandTellsUptoRow.holds Tryz.pinned (OpenSpec.upto bandTellsSpec)

/-- 'gridironlaw10.BandBound', WHERE WHAT IT READS IS OF BULK AT MOST 1048576: true; the input reads as it did. -/
def bandBoundUptoRow : OpenClaim := { program := "ytaaiblhedanogaagreat", sum := "32a334d6fcbea285005b0298de231dc1d4ed0a9f9374dec9e0c3765c175097f2", func := "gridiron/gridironlaw10.BandBound", spec := "bandBound", unfollowed := true, recurses := true, apart := false, narrowed := true }
def BandBoundUptoSaid : Prop := bandBoundUptoRow.holds Tryz.pinned (OpenSpec.upto bandBoundSpec)

/-- 'gridironlaw10.BandSplit', WHERE WHAT IT READS IS OF BULK AT MOST 1048576: true; the input reads as it did. -/
def bandSplitUptoRow : OpenClaim := { program := "ytaaiblhedanogaagreat", sum := "32a334d6fcbea285005b0298de231dc1d4ed0a9f9374dec9e0c3765c175097f2", func := "gridiron/gridironlaw10.BandSplit", spec := "bandSplit", unfollowed := true, recurses := true, apart := false, narrowed := true }
def BandSplitUptoSaid : Prop := bandSplitUptoRow.holds Tryz.pinned (OpenSpec.upto bandSplitSpec)

/-- 'gridironlaw10.BandTurned', WHERE WHAT IT READS IS OF BULK AT MOST 1048576: true; the input reads as it did. -/
def bandTurnedUptoRow : OpenClaim := { program := "ytaaiblhedanogaagreat", sum := "32a334d6fcbea285005b0298de231dc1d4ed0a9f9374dec9e0c3765c175097f2", func := "gridiron/gridironlaw10.BandTurned", spec := "bandTurned", unfollowed := true, recurses := true, apart := false, narrowed := true }
def BandTurnedUptoSaid : Prop := bandTurnedUptoRow.holds Tryz.pinned (OpenSpec.upto bandTurnedSpec)

/-- 'gridironlaw10.BandWeak', WHERE WHAT IT READS IS OF BULK AT MOST 1048576: true; the input reads as it did. -/
def bandWeakUptoRow : OpenClaim := { program := "ytaaiblhedanogaagreat", sum := "32a334d6fcbea285005b0298de231dc1d4ed0a9f9374dec9e0c3765c175097f2", func := "gridiron/gridironlaw10.BandWeak", spec := "bandWeak", unfollowed := true, recurses := true, apart := false, narrowed := true }
def BandWeakUptoSaid : Prop := bandWeakUptoRow.holds Tryz.pinned (OpenSpec.upto bandWeakSpec)

/-- 'gridironlaw10.BandAll', WHERE WHAT IT READS IS OF BULK AT MOST 1048576: true; the input reads as it did. -/
def bandAllUptoRow : OpenClaim := { program := "ytaaiblhedanogaagreat", sum := "32a334d6fcbea285005b0298de231dc1d4ed0a9f9374dec9e0c3765c175097f2", func := "gridiron/gridironlaw10.BandAll", spec := "bandAll", unfollowed := true, recurses := true, apart := false, narrowed := true }
def BandAllUptoSaid : Prop := bandAllUptoRow.holds Tryz.pinned (OpenSpec.upto bandAllSpec)

end Rows
end Go.Proofs.YtaaiblhedanogaaGreat
