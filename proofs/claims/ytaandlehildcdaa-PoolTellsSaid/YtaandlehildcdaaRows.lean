/-
  No cell of these rows narrows 'for every input' (looked for: loops, veiled, ifaces, maps, wideKeys, modest, calm, conditions, laid).
  DERIVED. THE GIVEN ROWS OF THIS SEAT. 6 by the template 'for every input the law returns true; each argument reads behind the call as it read before'; 0 by the template 'total and deterministic' (their statements: YtaandlehildcdaaTotals.lean).
  GIVEN WITH THE SEED: the statements are not yours to turn. If you find one false, say at which input.
  Laid BY PROGRAM, IN A SANDBOX (cutbox-rows.mjs): the forced cells as the released guide's own fill.sh prints them over the translation 064c1519b0fe00c9… (all of the seat's roots in one cut). By AI agents, Wed Nov 11 2026. No macro, syntax, notation, axiom, sorry.
-/
import Derived.Test.YtaandlehildcdaaChecked
import GoSem.Claim
import GoSem.ClaimJoined
import GoSem.ClaimMapViews
import Derived.JoinedTies
import Derived.KernelRfl
namespace Go.Proofs.Ytaandlehildcdaa
/- THE CELL 'sum', in the pinned program and in every row, IS THE sha256 OF THE DUMP (.gsa) THAT YtaandlehildcdaaProg.lean LOADS. Nothing in Lean hashes anything: it is a label: what it is worth is what the hold of that sum in a sandbox is worth. -/
noncomputable def Try.pinned : Pinned := { name := "ytaandlehildcdaa", sum := "064c1519b0fe00c9c9d628e6cb3892d22a83c0a5d6b9d9994760e4f0f783edbd", checked := Try.checked }
namespace Rows
def none {H : Type} : Left H := { results := [], args := [] }

/-- 'gridironlaw05.PoolTells': WHATEVER THE INPUT: true; the input reads as it did. -/
def poolTellsSpec : ChangeSpec := { name := "poolTells", fn := fun _ => fun
  | [d1, d2, d3] => { results := [.lit (.bool true)], args := [d1, d2, d3] }
  | _ => none }
def poolTellsRow : OpenClaim := { program := "ytaandlehildcdaa", sum := "064c1519b0fe00c9c9d628e6cb3892d22a83c0a5d6b9d9994760e4f0f783edbd", func := "gridiron/gridironlaw05.PoolTells", spec := "poolTells", unfollowed := true, recurses := true, apart := false }
def PoolTellsSaid : Prop := poolTellsRow.holds Try.pinned (OpenSpec.ofChange poolTellsSpec)

/-- ITS FALSE NEIGHBOUR: 'it returns false'. Refute it at one input. -/
def poolTellsWrong : ChangeSpec := { name := "poolTells", fn := fun _ => fun
  | [d1, d2, d3] => { results := [.lit (.bool false)], args := [d1, d2, d3] }
  | _ => none }
def PoolTellsWrongFalsely : Prop := poolTellsRow.holds Try.pinned (OpenSpec.ofChange poolTellsWrong)

/-- 'gridironlaw05.PoolForest': WHATEVER THE INPUT: true; the input reads as it did. -/
def poolForestSpec : ChangeSpec := { name := "poolForest", fn := fun _ => fun
  | [d] => { results := [.lit (.bool true)], args := [d] }
  | _ => none }
def poolForestRow : OpenClaim := { program := "ytaandlehildcdaa", sum := "064c1519b0fe00c9c9d628e6cb3892d22a83c0a5d6b9d9994760e4f0f783edbd", func := "gridiron/gridironlaw05.PoolForest", spec := "poolForest", unfollowed := true, recurses := true, apart := false }
def PoolForestSaid : Prop := poolForestRow.holds Try.pinned (OpenSpec.ofChange poolForestSpec)

/-- ITS FALSE NEIGHBOUR: 'it returns false'. Refute it at one input. -/
def poolForestWrong : ChangeSpec := { name := "poolForest", fn := fun _ => fun
  | [d] => { results := [.lit (.bool false)], args := [d] }
  | _ => none }
def PoolForestWrongFalsely : Prop := poolForestRow.holds Try.pinned (OpenSpec.ofChange poolForestWrong)

/-- 'gridironlaw05.PoolRight': WHATEVER THE INPUT: true; the input reads as it did. -/
def poolRightSpec : ChangeSpec := { name := "poolRight", fn := fun _ => fun
  | [d] => { results := [.lit (.bool true)], args := [d] }
  | _ => none }
def poolRightRow : OpenClaim := { program := "ytaandlehildcdaa", sum := "064c1519b0fe00c9c9d628e6cb3892d22a83c0a5d6b9d9994760e4f0f783edbd", func := "gridiron/gridironlaw05.PoolRight", spec := "poolRight", unfollowed := true, recurses := true, apart := false }
def PoolRightSaid : Prop := poolRightRow.holds Try.pinned (OpenSpec.ofChange poolRightSpec)

/-- ITS FALSE NEIGHBOUR: 'it returns false'. Refute it at one input. -/
def poolRightWrong : ChangeSpec := { name := "poolRight", fn := fun _ => fun
  | [d] => { results := [.lit (.bool false)], args := [d] }
  | _ => none }
def PoolRightWrongFalsely : Prop := poolRightRow.holds Try.pinned (OpenSpec.ofChange poolRightWrong)

/-- 'gridironlaw05.PoolHeight': WHATEVER THE INPUT: true; the input reads as it did. -/
def poolHeightSpec : ChangeSpec := { name := "poolHeight", fn := fun _ => fun
  | [d] => { results := [.lit (.bool true)], args := [d] }
  | _ => none }
def poolHeightRow : OpenClaim := { program := "ytaandlehildcdaa", sum := "064c1519b0fe00c9c9d628e6cb3892d22a83c0a5d6b9d9994760e4f0f783edbd", func := "gridiron/gridironlaw05.PoolHeight", spec := "poolHeight", unfollowed := true, recurses := true, apart := false }
def PoolHeightSaid : Prop := poolHeightRow.holds Try.pinned (OpenSpec.ofChange poolHeightSpec)

/-- ITS FALSE NEIGHBOUR: 'it returns false'. Refute it at one input. -/
def poolHeightWrong : ChangeSpec := { name := "poolHeight", fn := fun _ => fun
  | [d] => { results := [.lit (.bool false)], args := [d] }
  | _ => none }
def PoolHeightWrongFalsely : Prop := poolHeightRow.holds Try.pinned (OpenSpec.ofChange poolHeightWrong)

/-- 'gridironlaw05.PoolRoom': WHATEVER THE INPUT: true; the input reads as it did. -/
def poolRoomSpec : ChangeSpec := { name := "poolRoom", fn := fun _ => fun
  | [d] => { results := [.lit (.bool true)], args := [d] }
  | _ => none }
def poolRoomRow : OpenClaim := { program := "ytaandlehildcdaa", sum := "064c1519b0fe00c9c9d628e6cb3892d22a83c0a5d6b9d9994760e4f0f783edbd", func := "gridiron/gridironlaw05.PoolRoom", spec := "poolRoom", unfollowed := true, recurses := true, apart := false }
def PoolRoomSaid : Prop := poolRoomRow.holds Try.pinned (OpenSpec.ofChange poolRoomSpec)

/-- ITS FALSE NEIGHBOUR: 'it returns false'. Refute it at one input. -/
def poolRoomWrong : ChangeSpec := { name := "poolRoom", fn := fun _ => fun
  | [d] => { results := [.lit (.bool false)], args := [d] }
  | _ => none }
def PoolRoomWrongFalsely : Prop := poolRoomRow.holds Try.pinned (OpenSpec.ofChange poolRoomWrong)

/-- 'gridironlaw05.PoolOwn': WHATEVER THE INPUT: true; the input reads as it did. -/
def poolOwnSpec : ChangeSpec := { name := "poolOwn", fn := fun _ => fun
  | [d] => { results := [.lit (.bool true)], args := [d] }
  | _ => none }
def poolOwnRow : OpenClaim := { program := "ytaandlehildcdaa", sum := "064c1519b0fe00c9c9d628e6cb3892d22a83c0a5d6b9d9994760e4f0f783edbd", func := "gridiron/gridironlaw05.PoolOwn", spec := "poolOwn", unfollowed := true, recurses := true, apart := false }
def PoolOwnSaid : Prop := poolOwnRow.holds Try.pinned (OpenSpec.ofChange poolOwnSpec)

/-- ITS FALSE NEIGHBOUR: 'it returns false'. Refute it at one input. -/
def poolOwnWrong : ChangeSpec := { name := "poolOwn", fn := fun _ => fun
  | [d] => { results := [.lit (.bool false)], args := [d] }
  | _ => none }
def PoolOwnWrongFalsely : Prop := poolOwnRow.holds Try.pinned (OpenSpec.ofChange poolOwnWrong)

/- THE SECOND FORM. 'bulk': how many values and letters a reading holds, each counted each time it is reached (what is shared counts as often as it is met; a slice's spare places count too). A statement '..UptoSaid' is the law's where the arguments, and the package variables that the reading takes, are together of bulk at most 1048576: NARROWER than '..Said'. Prove '..Said' where nothing that the law and all that it calls make is longer than what came in: it says more and counts as full. Else prove '..UptoSaid'. A law counts once. -/
mutual
def uptoBulk {H : Type} : DataW H → Nat
  | .lit (.string bytes) => bytes.length + 1
  | .lit _ => 1
  | .nil => 1
  | .ptr d => uptoBulk d + 1
  | .slice elems spare => uptoBulkAll elems + uptoBulkAll spare + 1
  | .agg parts => uptoBulkAll parts + 1
  | .iface _ d => uptoBulk d + 1
  | .map entries => uptoBulkEntries entries + 1
  | .held _ => 1
def uptoBulkAll {H : Type} : List (DataW H) → Nat
  | [] => 0
  | d :: r => uptoBulk d + uptoBulkAll r
def uptoBulkEntries {H : Type} : List (Lit × DataW H) → Nat
  | [] => 0
  | x :: r => uptoBulkEntry x + uptoBulkEntries r
def uptoBulkEntry {H : Type} : Lit × DataW H → Nat
  | (.string bytes, d) => bytes.length + uptoBulk d + 1
  | (_, d) => uptoBulk d + 1
 end
def uptoSmall : (H : Type) → List (DataW H) → Bool := fun _ ds => decide (uptoBulkAll ds ≤ 1048576)
def OpenSpec.upto (s : _root_.Go.ChangeSpec) : _root_.Go.OpenSpec := { _root_.Go.OpenSpec.ofChange s with cond := some uptoSmall }

/-- 'gridironlaw05.PoolTells', WHERE WHAT IT READS IS OF BULK AT MOST 1048576: true; the input reads as it did. -/
def poolTellsUptoRow : OpenClaim := { program := "ytaandlehildcdaa", sum := "064c1519b0fe00c9c9d628e6cb3892d22a83c0a5d6b9d9994760e4f0f783edbd", func := "gridiron/gridironlaw05.PoolTells", spec := "poolTells", unfollowed := true, recurses := true, apart := false, narrowed := true }
def PoolTellsUptoSaid : Prop := poolTellsUptoRow.holds Try.pinned (OpenSpec.upto poolTellsSpec)

/-- 'gridironlaw05.PoolForest', WHERE WHAT IT READS IS OF BULK AT MOST 1048576: true; the input reads as it did. -/
def poolForestUptoRow : OpenClaim := { program := "ytaandlehildcdaa", sum := "064c1519b0fe00c9c9d628e6cb3892d22a83c0a5d6b9d9994760e4f0f783edbd", func := "gridiron/gridironlaw05.PoolForest", spec := "poolForest", unfollowed := true, recurses := true, apart := false, narrowed := true }
def PoolForestUptoSaid : Prop := poolForestUptoRow.holds Try.pinned (OpenSpec.upto poolForestSpec)

/-- 'gridironlaw05.PoolRight', WHERE WHAT IT READS IS OF BULK AT MOST 1048576: true; the input reads as it did. -/
def poolRightUptoRow : OpenClaim := { program := "ytaandlehildcdaa", sum := "064c1519b0fe00c9c9d628e6cb3892d22a83c0a5d6b9d9994760e4f0f783edbd", func := "gridiron/gridironlaw05.PoolRight", spec := "poolRight", unfollowed := true, recurses := true, apart := false, narrowed := true }
def PoolRightUptoSaid : Prop := poolRightUptoRow.holds Try.pinned (OpenSpec.upto poolRightSpec)

/-- 'gridironlaw05.PoolHeight', WHERE WHAT IT READS IS OF BULK AT MOST 1048576: true; the input reads as it did. -/
def poolHeightUptoRow : OpenClaim := { program := "ytaandlehildcdaa", sum := "064c1519b0fe00c9c9d628e6cb3892d22a83c0a5d6b9d9994760e4f0f783edbd", func := "gridiron/gridironlaw05.PoolHeight", spec := "poolHeight", unfollowed := true, recurses := true, apart := false, narrowed := true }
def PoolHeightUptoSaid : Prop := poolHeightUptoRow.holds Try.pinned (OpenSpec.upto poolHeightSpec)

/-- 'gridironlaw05.PoolRoom', WHERE WHAT IT READS IS OF BULK AT MOST 1048576: true; the input reads as it did. -/
def poolRoomUptoRow : OpenClaim := { program := "ytaandlehildcdaa", sum := "064c1519b0fe00c9c9d628e6cb3892d22a83c0a5d6b9d9994760e4f0f783edbd", func := "gridiron/gridironlaw05.PoolRoom", spec := "poolRoom", unfollowed := true, recurses := true, apart := false, narrowed := true }
def PoolRoomUptoSaid : Prop := poolRoomUptoRow.holds Try.pinned (OpenSpec.upto poolRoomSpec)

/-- 'gridironlaw05.PoolOwn', WHERE WHAT IT READS IS OF BULK AT MOST 1048576: true; the input reads as it did. -/
def poolOwnUptoRow : OpenClaim := { program := "ytaandlehildcdaa", sum := "064c1519b0fe00c9c9d628e6cb3892d22a83c0a5d6b9d9994760e4f0f783edbd", func := "gridiron/gridironlaw05.PoolOwn", spec := "poolOwn", unfollowed := true, recurses := true, apart := false, narrowed := true }
def PoolOwnUptoSaid : Prop := poolOwnUptoRow.holds Try.pinned (OpenSpec.upto poolOwnSpec)

end Rows
end Go.Proofs.Ytaandlehildcdaa
