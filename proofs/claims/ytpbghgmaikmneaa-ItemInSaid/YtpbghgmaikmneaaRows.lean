/-
  No cell of these rows narrows 'for every input' (looked for: loops, veiled, ifaces, maps, wideKeys, modest, calm, conditions, laid).
  DERIVED. THE GIVEN ROWS OF THIS SEAT. 6 by the template 'for every input the law returns true; each argument reads behind the call as it read before'; 0 by the template 'total and deterministic' (their statements: YtpbghgmaikmneaaTotals.lean).
  GIVEN WITH THE SEED: the statements are not yours to turn. If you find one false, say at which input.
  Laid BY PROGRAM, IN A SANDBOX (cutbox-rows.mjs): the forced cells as the released guide's own fill.sh prints them over the translation 8678ca3c4ab734c3… (all of the seat's roots in one cut). By AI agents, Wed Nov 11 2026. No macro, syntax, notation, axiom, sorry.
-/
import Derived.Test.YtpbghgmaikmneaaChecked
import GoSem.Claim
import GoSem.ClaimJoined
import GoSem.ClaimMapViews
import Derived.JoinedTies
import Derived.KernelRfl
namespace Go.Proofs.Ytpbghgmaikmneaa
/- THE CELL 'sum', in the pinned program and in every row, IS THE sha256 OF THE DUMP (.gsa) THAT YtpbghgmaikmneaaProg.lean LOADS. Nothing in Lean hashes anything: it is a label: what it is worth is what the hold of that sum in a sandbox is worth. -/
noncomputable def Try.pinned : Pinned := { name := "ytpbghgmaikmneaa", sum := "8678ca3c4ab734c33e65e90ffa4dc3173544c37fd70c50e4aafa469f1ee2836d", checked := Try.checked }
namespace Rows
def none {H : Type} : Left H := { results := [], args := [] }

/-- 'gridironlaw02.ItemTells': WHATEVER THE INPUT: true; the input reads as it did. -/
def itemTellsSpec : ChangeSpec := { name := "itemTells", fn := fun _ => fun
  | [d] => { results := [.lit (.bool true)], args := [d] }
  | _ => none }
def itemTellsRow : OpenClaim := { program := "ytpbghgmaikmneaa", sum := "8678ca3c4ab734c33e65e90ffa4dc3173544c37fd70c50e4aafa469f1ee2836d", func := "gridiron/gridironlaw02.ItemTells", spec := "itemTells", apart := false }
def ItemTellsSaid : Prop := itemTellsRow.holds Try.pinned (OpenSpec.ofChange itemTellsSpec)

/-- ITS FALSE NEIGHBOUR: 'it returns false'. Refute it at one input. -/
def itemTellsWrong : ChangeSpec := { name := "itemTells", fn := fun _ => fun
  | [d] => { results := [.lit (.bool false)], args := [d] }
  | _ => none }
def ItemTellsWrongFalsely : Prop := itemTellsRow.holds Try.pinned (OpenSpec.ofChange itemTellsWrong)

/-- 'gridironlaw02.ItemOrder': WHATEVER THE INPUT: true; the input reads as it did. -/
def itemOrderSpec : ChangeSpec := { name := "itemOrder", fn := fun _ => fun
  | [d1, d2, d3, d4, d5, d6] => { results := [.lit (.bool true)], args := [d1, d2, d3, d4, d5, d6] }
  | _ => none }
def itemOrderRow : OpenClaim := { program := "ytpbghgmaikmneaa", sum := "8678ca3c4ab734c33e65e90ffa4dc3173544c37fd70c50e4aafa469f1ee2836d", func := "gridiron/gridironlaw02.ItemOrder", spec := "itemOrder", apart := false }
def ItemOrderSaid : Prop := itemOrderRow.holds Try.pinned (OpenSpec.ofChange itemOrderSpec)

/-- ITS FALSE NEIGHBOUR: 'it returns false'. Refute it at one input. -/
def itemOrderWrong : ChangeSpec := { name := "itemOrder", fn := fun _ => fun
  | [d1, d2, d3, d4, d5, d6] => { results := [.lit (.bool false)], args := [d1, d2, d3, d4, d5, d6] }
  | _ => none }
def ItemOrderWrongFalsely : Prop := itemOrderRow.holds Try.pinned (OpenSpec.ofChange itemOrderWrong)

/-- 'gridironlaw02.ItemOver': WHATEVER THE INPUT: true; the input reads as it did. -/
def itemOverSpec : ChangeSpec := { name := "itemOver", fn := fun _ => fun
  | [d1, d2, d3] => { results := [.lit (.bool true)], args := [d1, d2, d3] }
  | _ => none }
def itemOverRow : OpenClaim := { program := "ytpbghgmaikmneaa", sum := "8678ca3c4ab734c33e65e90ffa4dc3173544c37fd70c50e4aafa469f1ee2836d", func := "gridiron/gridironlaw02.ItemOver", spec := "itemOver", apart := false }
def ItemOverSaid : Prop := itemOverRow.holds Try.pinned (OpenSpec.ofChange itemOverSpec)

/-- ITS FALSE NEIGHBOUR: 'it returns false'. Refute it at one input. -/
def itemOverWrong : ChangeSpec := { name := "itemOver", fn := fun _ => fun
  | [d1, d2, d3] => { results := [.lit (.bool false)], args := [d1, d2, d3] }
  | _ => none }
def ItemOverWrongFalsely : Prop := itemOverRow.holds Try.pinned (OpenSpec.ofChange itemOverWrong)

/-- 'gridironlaw02.ItemMeet': WHATEVER THE INPUT: true; the input reads as it did. -/
def itemMeetSpec : ChangeSpec := { name := "itemMeet", fn := fun _ => fun
  | [d1, d2, d3] => { results := [.lit (.bool true)], args := [d1, d2, d3] }
  | _ => none }
def itemMeetRow : OpenClaim := { program := "ytpbghgmaikmneaa", sum := "8678ca3c4ab734c33e65e90ffa4dc3173544c37fd70c50e4aafa469f1ee2836d", func := "gridiron/gridironlaw02.ItemMeet", spec := "itemMeet", apart := false }
def ItemMeetSaid : Prop := itemMeetRow.holds Try.pinned (OpenSpec.ofChange itemMeetSpec)

/-- ITS FALSE NEIGHBOUR: 'it returns false'. Refute it at one input. -/
def itemMeetWrong : ChangeSpec := { name := "itemMeet", fn := fun _ => fun
  | [d1, d2, d3] => { results := [.lit (.bool false)], args := [d1, d2, d3] }
  | _ => none }
def ItemMeetWrongFalsely : Prop := itemMeetRow.holds Try.pinned (OpenSpec.ofChange itemMeetWrong)

/-- 'gridironlaw02.ItemIn': WHATEVER THE INPUT: true; the input reads as it did. -/
def itemInSpec : ChangeSpec := { name := "itemIn", fn := fun _ => fun
  | [d1, d2] => { results := [.lit (.bool true)], args := [d1, d2] }
  | _ => none }
def itemInRow : OpenClaim := { program := "ytpbghgmaikmneaa", sum := "8678ca3c4ab734c33e65e90ffa4dc3173544c37fd70c50e4aafa469f1ee2836d", func := "gridiron/gridironlaw02.ItemIn", spec := "itemIn", apart := false }
def ItemInSaid : Prop := itemInRow.holds Try.pinned (OpenSpec.ofChange itemInSpec)

/-- ITS FALSE NEIGHBOUR: 'it returns false'. Refute it at one input. -/
def itemInWrong : ChangeSpec := { name := "itemIn", fn := fun _ => fun
  | [d1, d2] => { results := [.lit (.bool false)], args := [d1, d2] }
  | _ => none }
def ItemInWrongFalsely : Prop := itemInRow.holds Try.pinned (OpenSpec.ofChange itemInWrong)

/-- 'gridironlaw02.ItemCells': WHATEVER THE INPUT: true; the input reads as it did. -/
def itemCellsSpec : ChangeSpec := { name := "itemCells", fn := fun _ => fun
  | [d1, d2, d3, d4] => { results := [.lit (.bool true)], args := [d1, d2, d3, d4] }
  | _ => none }
def itemCellsRow : OpenClaim := { program := "ytpbghgmaikmneaa", sum := "8678ca3c4ab734c33e65e90ffa4dc3173544c37fd70c50e4aafa469f1ee2836d", func := "gridiron/gridironlaw02.ItemCells", spec := "itemCells", apart := false }
def ItemCellsSaid : Prop := itemCellsRow.holds Try.pinned (OpenSpec.ofChange itemCellsSpec)

/-- ITS FALSE NEIGHBOUR: 'it returns false'. Refute it at one input. -/
def itemCellsWrong : ChangeSpec := { name := "itemCells", fn := fun _ => fun
  | [d1, d2, d3, d4] => { results := [.lit (.bool false)], args := [d1, d2, d3, d4] }
  | _ => none }
def ItemCellsWrongFalsely : Prop := itemCellsRow.holds Try.pinned (OpenSpec.ofChange itemCellsWrong)

/- THE SECOND FORM. 'bulk': how many values and letters a reading holds, each counted each time it is reached (what is shared counts as often as it is met; a slice's spare places count too). A statement '..UptoSaid' is the law's where the arguments, and the package variables that the reading takes, are together of bulk at most 1048576: NARROWER than '..Said'. Prove '..Said' where nothing that the law and all that it calls make is longer than what came in: it says more and counts as full. Else prove '..UptoSaid'. A law counts once. -/
mutual
def uptoBulk {H : Type} : DataW H → Nat
  | .lit (.string bytes) => bytes.length + 1
  | .lit _ => 1
  | .nil => 1
  | .ptr d => uptoBulk d + 1
  | .slice elems spare => uptoBulkAll elems + uptoBulkAll spare + 1
  | .agg parts => uptoBulkAll parts + 1
  | .iface _ d => uptoBulk d + 1
  | .map entries => uptoBulkEntries entries + 1
  | .held _ => 1
def uptoBulkAll {H : Type} : List (DataW H) → Nat
  | [] => 0
  | d :: r => uptoBulk d + uptoBulkAll r
def uptoBulkEntries {H : Type} : List (Lit × DataW H) → Nat
  | [] => 0
  | x :: r => uptoBulkEntry x + uptoBulkEntries r
def uptoBulkEntry {H : Type} : Lit × DataW H → Nat
  | (.string bytes, d) => bytes.length + uptoBulk d + 1
  | (_, d) => uptoBulk d + 1
 end
def uptoSmall : (H : Type) → List (DataW H) → Bool := fun _ ds => decide (uptoBulkAll ds ≤ 1048576)
def OpenSpec.upto (s : _root_.Go.ChangeSpec) : _root_.Go.OpenSpec := { _root_.Go.OpenSpec.ofChange s with cond := some uptoSmall }

/-- 'gridironlaw02.ItemTells', WHERE WHAT IT READS IS OF BULK AT MOST 1048576: true; the input reads as it did. -/
def itemTellsUptoRow : OpenClaim := { program := "ytpbghgmaikmneaa", sum := "8678ca3c4ab734c33e65e90ffa4dc3173544c37fd70c50e4aafa469f1ee2836d", func := "gridiron/gridironlaw02.ItemTells", spec := "itemTells", apart := false, narrowed := true }
def ItemTellsUptoSaid : Prop := itemTellsUptoRow.holds Try.pinned (OpenSpec.upto itemTellsSpec)

/-- 'gridironlaw02.ItemOrder', WHERE WHAT IT READS IS OF BULK AT MOST 1048576: true; the input reads as it did. -/
def itemOrderUptoRow : OpenClaim := { program := "ytpbghgmaikmneaa", sum := "8678ca3c4ab734c33e65e90ffa4dc3173544c37fd70c50e4aafa469f1ee2836d", func := "gridiron/gridironlaw02.ItemOrder", spec := "itemOrder", apart := false, narrowed := true }
def ItemOrderUptoSaid : Prop := itemOrderUptoRow.holds Try.pinned (OpenSpec.upto itemOrderSpec)

/-- 'gridironlaw02.ItemOver', WHERE WHAT IT READS IS OF BULK AT MOST 1048576: true; the input reads as it did. -/
def itemOverUptoRow : OpenClaim := { program := "ytpbghgmaikmneaa", sum := "8678ca3c4ab734c33e65e90ffa4dc3173544c37fd70c50e4aafa469f1ee2836d", func := "gridiron/gridironlaw02.ItemOver", spec := "itemOver", apart := false, narrowed := true }
def ItemOverUptoSaid : Prop := itemOverUptoRow.holds Try.pinned (OpenSpec.upto itemOverSpec)

/-- 'gridironlaw02.ItemMeet', WHERE WHAT IT READS IS OF BULK AT MOST 1048576: true; the input reads as it did. -/
def itemMeetUptoRow : OpenClaim := { program := "ytpbghgmaikmneaa", sum := "8678ca3c4ab734c33e65e90ffa4dc3173544c37fd70c50e4aafa469f1ee2836d", func := "gridiron/gridironlaw02.ItemMeet", spec := "itemMeet", apart := false, narrowed := true }
def ItemMeetUptoSaid : Prop := itemMeetUptoRow.holds Try.pinned (OpenSpec.upto itemMeetSpec)

/-- 'gridironlaw02.ItemIn', WHERE WHAT IT READS IS OF BULK AT MOST 1048576: true; the input reads as it did. -/
def itemInUptoRow : OpenClaim := { program := "ytpbghgmaikmneaa", sum := "8678ca3c4ab734c33e65e90ffa4dc3173544c37fd70c50e4aafa469f1ee2836d", func := "gridiron/gridironlaw02.ItemIn", spec := "itemIn", apart := false, narrowed := true }
def ItemInUptoSaid : Prop := itemInUptoRow.holds Try.pinned (OpenSpec.upto itemInSpec)

/-- 'gridironlaw02.ItemCells', WHERE WHAT IT READS IS OF BULK AT MOST 1048576: true; the input reads as it did. -/
def itemCellsUptoRow : OpenClaim := { program := "ytpbghgmaikmneaa", sum := "8678ca3c4ab734c33e65e90ffa4dc3173544c37fd70c50e4aafa469f1ee2836d", func := "gridiron/gridironlaw02.ItemCells", spec := "itemCells", apart := false, narrowed := true }
def ItemCellsUptoSaid : Prop := itemCellsUptoRow.holds Try.pinned (OpenSpec.upto itemCellsSpec)

end Rows
end Go.Proofs.Ytpbghgmaikmneaa
