/-
  No cell of these rows narrows 'for every input' (looked for: loops, veiled, ifaces, maps, wideKeys, modest, calm, conditions, laid).
  DERIVED. THE GIVEN ROWS OF THIS SEAT. 5 by the template 'for every input the law returns true; each argument reads behind the call as it read before'; 0 by the template 'total and deterministic' (their statements: YtgcimicbbadapaaGreatTotals.lean).
  GIVEN WITH THE SEED: the statements are not yours to turn. If you find one false, say at which input.
  Laid BY PROGRAM, IN A SANDBOX (cutbox-rows.mjs): the forced cells as the released guide's own fill.sh prints them over the translation 8b05367eaa583cc9… (all of the seat's roots in one cut). By AI agents, Wed Nov 11 2026. No macro, syntax, notation, axiom, sorry.
-/
import Derived.Test.YtgcimicbbadapaaGreatChecked
import GoSem.Claim
import GoSem.ClaimJoined
import GoSem.ClaimMapViews
import Derived.JoinedTies
import Derived.KernelRfl
namespace Go.Proofs.YtgcimicbbadapaaGreat
/- THE CELL 'sum', in the pinned program and in every row, IS THE sha256 OF THE DUMP (.gsa) THAT YtgcimicbbadapaaGreatProg.lean LOADS. Nothing in Lean hashes anything: it is a label: what it is worth is what the hold of that sum in a sandbox is worth. -/
noncomputable def Tryz.pinned : Pinned := { name := "ytgcimicbbadapaagreat", sum := "8b05367eaa583cc997b87b09a596566b3bd3b8d700a9d296f42579a6eb6c6ff5", checked := Tryz.checked }
namespace Rows
def none {H : Type} : Left H := { results := [], args := [] }

/-- 'gridironlaw09.IvlTells': WHATEVER THE INPUT: true; the input reads as it did. -/
def ivlTellsSpec : ChangeSpec := { name := "ivlTells", fn := fun _ => fun
  | [d1, d2, d3] => { results := [.lit (.bool true)], args := [d1, d2, d3] }
  | _ => none }
def ivlTellsRow : OpenClaim := { program := "ytgcimicbbadapaagreat", sum := "8b05367eaa583cc997b87b09a596566b3bd3b8d700a9d296f42579a6eb6c6ff5", func := "gridiron/gridironlaw09.IvlTells", spec := "ivlTells", unfollowed := true, recurses := true, apart := false }
def IvlTellsSaid : Prop := ivlTellsRow.holds Tryz.pinned (OpenSpec.ofChange ivlTellsSpec)

/-- ITS FALSE NEIGHBOUR: 'it returns false'. Refute it at one input. -/
def ivlTellsWrong : ChangeSpec := { name := "ivlTells", fn := fun _ => fun
  | [d1, d2, d3] => { results := [.lit (.bool false)], args := [d1, d2, d3] }
  | _ => none }
def IvlTellsWrongFalsely : Prop := ivlTellsRow.holds Tryz.pinned (OpenSpec.ofChange ivlTellsWrong)

/-- 'gridironlaw09.IvlBound': WHATEVER THE INPUT: true; the input reads as it did. -/
def ivlBoundSpec : ChangeSpec := { name := "ivlBound", fn := fun _ => fun
  | [d1, d2, d3] => { results := [.lit (.bool true)], args := [d1, d2, d3] }
  | _ => none }
def ivlBoundRow : OpenClaim := { program := "ytgcimicbbadapaagreat", sum := "8b05367eaa583cc997b87b09a596566b3bd3b8d700a9d296f42579a6eb6c6ff5", func := "gridiron/gridironlaw09.IvlBound", spec := "ivlBound", unfollowed := true, recurses := true, apart := false }
def IvlBoundSaid : Prop := ivlBoundRow.holds Tryz.pinned (OpenSpec.ofChange ivlBoundSpec)

/-- ITS FALSE NEIGHBOUR: 'it returns false'. Refute it at one input. -/
def ivlBoundWrong : ChangeSpec := { name := "ivlBound", fn := fun _ => fun
  | [d1, d2, d3] => { results := [.lit (.bool false)], args := [d1, d2, d3] }
  | _ => none }
def IvlBoundWrongFalsely : Prop := ivlBoundRow.holds Tryz.pinned (OpenSpec.ofChange ivlBoundWrong)

/-- 'gridironlaw09.IvlSplit': WHATEVER THE INPUT: true; the input reads as it did. -/
def ivlSplitSpec : ChangeSpec := { name := "ivlSplit", fn := fun _ => fun
  | [d1, d2, d3] => { results := [.lit (.bool true)], args := [d1, d2, d3] }
  | _ => none }
def ivlSplitRow : OpenClaim := { program := "ytgcimicbbadapaagreat", sum := "8b05367eaa583cc997b87b09a596566b3bd3b8d700a9d296f42579a6eb6c6ff5", func := "gridiron/gridironlaw09.IvlSplit", spec := "ivlSplit", unfollowed := true, recurses := true, apart := false }
def IvlSplitSaid : Prop := ivlSplitRow.holds Tryz.pinned (OpenSpec.ofChange ivlSplitSpec)

/-- ITS FALSE NEIGHBOUR: 'it returns false'. Refute it at one input. -/
def ivlSplitWrong : ChangeSpec := { name := "ivlSplit", fn := fun _ => fun
  | [d1, d2, d3] => { results := [.lit (.bool false)], args := [d1, d2, d3] }
  | _ => none }
def IvlSplitWrongFalsely : Prop := ivlSplitRow.holds Tryz.pinned (OpenSpec.ofChange ivlSplitWrong)

/-- 'gridironlaw09.IvlTurned': WHATEVER THE INPUT: true; the input reads as it did. -/
def ivlTurnedSpec : ChangeSpec := { name := "ivlTurned", fn := fun _ => fun
  | [d1, d2, d3] => { results := [.lit (.bool true)], args := [d1, d2, d3] }
  | _ => none }
def ivlTurnedRow : OpenClaim := { program := "ytgcimicbbadapaagreat", sum := "8b05367eaa583cc997b87b09a596566b3bd3b8d700a9d296f42579a6eb6c6ff5", func := "gridiron/gridironlaw09.IvlTurned", spec := "ivlTurned", unfollowed := true, recurses := true, apart := false }
def IvlTurnedSaid : Prop := ivlTurnedRow.holds Tryz.pinned (OpenSpec.ofChange ivlTurnedSpec)

/-- ITS FALSE NEIGHBOUR: 'it returns false'. Refute it at one input. -/
def ivlTurnedWrong : ChangeSpec := { name := "ivlTurned", fn := fun _ => fun
  | [d1, d2, d3] => { results := [.lit (.bool false)], args := [d1, d2, d3] }
  | _ => none }
def IvlTurnedWrongFalsely : Prop := ivlTurnedRow.holds Tryz.pinned (OpenSpec.ofChange ivlTurnedWrong)

/-- 'gridironlaw09.IvlWeak': WHATEVER THE INPUT: true; the input reads as it did. -/
def ivlWeakSpec : ChangeSpec := { name := "ivlWeak", fn := fun _ => fun
  | [d1, d2, d3] => { results := [.lit (.bool true)], args := [d1, d2, d3] }
  | _ => none }
def ivlWeakRow : OpenClaim := { program := "ytgcimicbbadapaagreat", sum := "8b05367eaa583cc997b87b09a596566b3bd3b8d700a9d296f42579a6eb6c6ff5", func := "gridiron/gridironlaw09.IvlWeak", spec := "ivlWeak", unfollowed := true, recurses := true, apart := false }
def IvlWeakSaid : Prop := ivlWeakRow.holds Tryz.pinned (OpenSpec.ofChange ivlWeakSpec)

/-- ITS FALSE NEIGHBOUR: 'it returns false'. Refute it at one input. -/
def ivlWeakWrong : ChangeSpec := { name := "ivlWeak", fn := fun _ => fun
  | [d1, d2, d3] => { results := [.lit (.bool false)], args := [d1, d2, d3] }
  | _ => none }
def IvlWeakWrongFalsely : Prop := ivlWeakRow.holds Tryz.pinned (OpenSpec.ofChange ivlWeakWrong)

/- THE SECOND FORM. 'bulk': how many values and letters a reading holds, each counted each time it is reached (what is shared counts as often as it is met; a slice's spare places count too). A statement '..UptoSaid' is the law's where the arguments, and the package variables that the reading takes, are together of bulk at most 1048576: NARROWER than '..Said'. Prove '..Said' where nothing that the law and all that it calls make is longer than what came in: it says more and counts as full. Else prove '..UptoSaid'. A law counts once. -/
mutual
def uptoBulk {H : Type} : DataW H → Nat
  | .lit (.string bytes) => bytes.length + 1
  | .lit _ => 1
  | .nil => 1
  | .ptr d => uptoBulk d + 1
  | .slice elems spare => uptoBulkAll elems + uptoBulkAll spare + 1
  | .agg parts => uptoBulkAll parts + 1
  | .iface _ d => uptoBulk d + 1
  | .map entries => uptoBulkEntries entries + 1
  | .held _ => 1
def uptoBulkAll {H : Type} : List (DataW H) → Nat
  | [] => 0
  | d :: r => uptoBulk d + uptoBulkAll r
def uptoBulkEntries {H : Type} : List (Lit × DataW H) → Nat
  | [] => 0
  | x :: r => uptoBulkEntry x + uptoBulkEntries r
def uptoBulkEntry {H : Type} : Lit × DataW H → Nat
  | (.string bytes, d) => bytes.length + uptoBulk d + 1
  | (_, d) => uptoBulk d + 1
 end
def uptoSmall : (H : Type) → List (DataW H) → Bool := fun _ ds => decide (uptoBulkAll ds ≤ 1048576)
def OpenSpec.upto (s : _root_.Go.ChangeSpec) : _root_.Go.OpenSpec := { _root_.Go.OpenSpec.ofChange s with cond := some uptoSmall }

/-- 'gridironlaw09.IvlTells', WHERE WHAT IT READS IS OF BULK AT MOST 1048576: true; the input reads as it did. -/
def ivlTellsUptoRow : OpenClaim := { program := "ytgcimicbbadapaagreat", sum := "8b05367eaa583cc997b87b09a596566b3bd3b8d700a9d296f42579a6eb6c6ff5", func := "gridiron/gridironlaw09.IvlTells", spec := "ivlTells", unfollowed := true, recurses := true, apart := false, narrowed := true }
def IvlTellsUptoSaid : Prop := ivlTellsUptoRow.holds Tryz.pinned (OpenSpec.upto ivlTellsSpec)

/-- 'gridironlaw09.IvlBound', WHERE WHAT IT READS IS OF BULK AT MOST 1048576: true; the input reads as it did. -/
def ivlBoundUptoRow : OpenClaim := { program := "ytgcimicbbadapaagreat", sum := "8b05367eaa583cc997b87b09a596566b3bd3b8d700a9d296f42579a6eb6c6ff5", func := "gridiron/gridironlaw09.IvlBound", spec := "ivlBound", unfollowed := true, recurses := true, apart := false, narrowed := true }
def IvlBoundUptoSaid : Prop := ivlBoundUptoRow.holds Tryz.pinned (OpenSpec.upto ivlBoundSpec)

/-- 'gridironlaw09.IvlSplit', WHERE WHAT IT READS IS OF BULK AT MOST 1048576: true; the input reads as it did. -/
def ivlSplitUptoRow : OpenClaim := { program := "ytgcimicbbadapaagreat", sum := "8b05367eaa583cc997b87b09a596566b3bd3b8d700a9d296f42579a6eb6c6ff5", func := "gridiron/gridironlaw09.IvlSplit", spec := "ivlSplit", unfollowed := true, recurses := true, apart := false, narrowed := true }
def IvlSplitUptoSaid : Prop := ivlSplitUptoRow.holds Tryz.pinned (OpenSpec.upto ivlSplitSpec)

/-- 'gridironlaw09.IvlTurned', WHERE WHAT IT READS IS OF BULK AT MOST 1048576: true; the input reads as it did. -/
def ivlTurnedUptoRow : OpenClaim := { program := "ytgcimicbbadapaagreat", sum := "8b05367eaa583cc997b87b09a596566b3bd3b8d700a9d296f42579a6eb6c6ff5", func := "gridiron/gridironlaw09.IvlTurned", spec := "ivlTurned", unfollowed := true, recurses := true, apart := false, narrowed := true }
def IvlTurnedUptoSaid : Prop := ivlTurnedUptoRow.holds Tryz.pinned (OpenSpec.upto ivlTurnedSpec)

/-- 'gridironlaw09.IvlWeak', WHERE WHAT IT READS IS OF BULK AT MOST 1048576: true; the input reads as it did. -/
def ivlWeakUptoRow : OpenClaim := { program := "ytgcimicbbadapaagreat", sum := "8b05367eaa583cc997b87b09a596566b3bd3b8d700a9d296f42579a6eb6c6ff5", func := "gridiron/gridironlaw09.IvlWeak", spec := "ivlWeak", unfollowed := true, recurses := true, apart := false, narrowed := true }
def IvlWeakUptoSaid : Prop := ivlWeakUptoRow.holds Tryz.pinned (OpenSpec.upto ivlWeakSpec)

end Rows
end Go.Proofs.YtgcimicbbadapaaGreat
