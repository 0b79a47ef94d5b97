/-
  No cell of these rows narrows 'for every input' (looked for: loops, veiled, ifaces, maps, wideKeys, modest, calm, conditions, laid).
  DERIVED. THE GIVEN ROWS OF THIS SEAT. 5 by the template 'for every input the law returns true; each argument reads behind the call as it read before'; 0 by the template 'total and deterministic' (their statements: YtjobfpnlpfjoeaaTotals.lean).
  GIVEN WITH THE SEED: the statements are not yours to turn. If you find one false, say at which input.
  Laid BY PROGRAM, IN A SANDBOX (cutbox-rows.mjs): the forced cells as the released guide's own fill.sh prints them over the translation 30f9c482ca17c3ae… (all of the seat's roots in one cut). By AI agents, Wed Nov 11 2026. No macro, syntax, notation, axiom, sorry.
-/
import Derived.Test.YtjobfpnlpfjoeaaChecked
import GoSem.Claim
import GoSem.ClaimJoined
import GoSem.ClaimMapViews
import Derived.JoinedTies
import Derived.KernelRfl
namespace Go.Proofs.Ytjobfpnlpfjoeaa
/- THE CELL 'sum', in the pinned program and in every row, IS THE sha256 OF THE DUMP (.gsa) THAT YtjobfpnlpfjoeaaProg.lean LOADS. Nothing in Lean hashes anything: it is a label: what it is worth is what the hold of that sum in a sandbox is worth. -/
noncomputable def Try.pinned : Pinned := { name := "ytjobfpnlpfjoeaa", sum := "30f9c482ca17c3ae6922ede24cae027696385f17b165009d720ec4608cf99ac8", checked := Try.checked }
namespace Rows
def none {H : Type} : Left H := { results := [], args := [] }

/-- 'gridironlaw07.StackTells': WHATEVER THE INPUT: true; the input reads as it did. -/
def stackTellsSpec : ChangeSpec := { name := "stackTells", fn := fun _ => fun
  | [d1, d2, d3, d4] => { results := [.lit (.bool true)], args := [d1, d2, d3, d4] }
  | _ => none }
def stackTellsRow : OpenClaim := { program := "ytjobfpnlpfjoeaa", sum := "30f9c482ca17c3ae6922ede24cae027696385f17b165009d720ec4608cf99ac8", func := "gridiron/gridironlaw07.StackTells", spec := "stackTells", unfollowed := true, recurses := true, apart := false }
def StackTellsSaid : Prop := stackTellsRow.holds Try.pinned (OpenSpec.ofChange stackTellsSpec)

/-- ITS FALSE NEIGHBOUR: 'it returns false'. Refute it at one input. -/
def stackTellsWrong : ChangeSpec := { name := "stackTells", fn := fun _ => fun
  | [d1, d2, d3, d4] => { results := [.lit (.bool false)], args := [d1, d2, d3, d4] }
  | _ => none }
def StackTellsWrongFalsely : Prop := stackTellsRow.holds Try.pinned (OpenSpec.ofChange stackTellsWrong)

/-- 'gridironlaw07.StackOrder': WHATEVER THE INPUT: true; the input reads as it did. -/
def stackOrderSpec : ChangeSpec := { name := "stackOrder", fn := fun _ => fun
  | [d] => { results := [.lit (.bool true)], args := [d] }
  | _ => none }
def stackOrderRow : OpenClaim := { program := "ytjobfpnlpfjoeaa", sum := "30f9c482ca17c3ae6922ede24cae027696385f17b165009d720ec4608cf99ac8", func := "gridiron/gridironlaw07.StackOrder", spec := "stackOrder", unfollowed := true, recurses := true, apart := false }
def StackOrderSaid : Prop := stackOrderRow.holds Try.pinned (OpenSpec.ofChange stackOrderSpec)

/-- ITS FALSE NEIGHBOUR: 'it returns false'. Refute it at one input. -/
def stackOrderWrong : ChangeSpec := { name := "stackOrder", fn := fun _ => fun
  | [d] => { results := [.lit (.bool false)], args := [d] }
  | _ => none }
def StackOrderWrongFalsely : Prop := stackOrderRow.holds Try.pinned (OpenSpec.ofChange stackOrderWrong)

/-- 'gridironlaw07.StackRoots': WHATEVER THE INPUT: true; the input reads as it did. -/
def stackRootsSpec : ChangeSpec := { name := "stackRoots", fn := fun _ => fun
  | [d] => { results := [.lit (.bool true)], args := [d] }
  | _ => none }
def stackRootsRow : OpenClaim := { program := "ytjobfpnlpfjoeaa", sum := "30f9c482ca17c3ae6922ede24cae027696385f17b165009d720ec4608cf99ac8", func := "gridiron/gridironlaw07.StackRoots", spec := "stackRoots", unfollowed := true, recurses := true, apart := false }
def StackRootsSaid : Prop := stackRootsRow.holds Try.pinned (OpenSpec.ofChange stackRootsSpec)

/-- ITS FALSE NEIGHBOUR: 'it returns false'. Refute it at one input. -/
def stackRootsWrong : ChangeSpec := { name := "stackRoots", fn := fun _ => fun
  | [d] => { results := [.lit (.bool false)], args := [d] }
  | _ => none }
def StackRootsWrongFalsely : Prop := stackRootsRow.holds Try.pinned (OpenSpec.ofChange stackRootsWrong)

/-- 'gridironlaw07.StackWhole': WHATEVER THE INPUT: true; the input reads as it did. -/
def stackWholeSpec : ChangeSpec := { name := "stackWhole", fn := fun _ => fun
  | [d] => { results := [.lit (.bool true)], args := [d] }
  | _ => none }
def stackWholeRow : OpenClaim := { program := "ytjobfpnlpfjoeaa", sum := "30f9c482ca17c3ae6922ede24cae027696385f17b165009d720ec4608cf99ac8", func := "gridiron/gridironlaw07.StackWhole", spec := "stackWhole", unfollowed := true, recurses := true, apart := false }
def StackWholeSaid : Prop := stackWholeRow.holds Try.pinned (OpenSpec.ofChange stackWholeSpec)

/-- ITS FALSE NEIGHBOUR: 'it returns false'. Refute it at one input. -/
def stackWholeWrong : ChangeSpec := { name := "stackWhole", fn := fun _ => fun
  | [d] => { results := [.lit (.bool false)], args := [d] }
  | _ => none }
def StackWholeWrongFalsely : Prop := stackWholeRow.holds Try.pinned (OpenSpec.ofChange stackWholeWrong)

/-- 'gridironlaw07.StackErrors': WHATEVER THE INPUT: true; the input reads as it did. -/
def stackErrorsSpec : ChangeSpec := { name := "stackErrors", fn := fun _ => fun
  | [d1, d2, d3, d4] => { results := [.lit (.bool true)], args := [d1, d2, d3, d4] }
  | _ => none }
def stackErrorsRow : OpenClaim := { program := "ytjobfpnlpfjoeaa", sum := "30f9c482ca17c3ae6922ede24cae027696385f17b165009d720ec4608cf99ac8", func := "gridiron/gridironlaw07.StackErrors", spec := "stackErrors", unfollowed := true, recurses := true, apart := false }
def StackErrorsSaid : Prop := stackErrorsRow.holds Try.pinned (OpenSpec.ofChange stackErrorsSpec)

/-- ITS FALSE NEIGHBOUR: 'it returns false'. Refute it at one input. -/
def stackErrorsWrong : ChangeSpec := { name := "stackErrors", fn := fun _ => fun
  | [d1, d2, d3, d4] => { results := [.lit (.bool false)], args := [d1, d2, d3, d4] }
  | _ => none }
def StackErrorsWrongFalsely : Prop := stackErrorsRow.holds Try.pinned (OpenSpec.ofChange stackErrorsWrong)

/- THE SECOND FORM. 'bulk': how many values and letters a reading holds, each counted each time it is reached (what is shared counts as often as it is met; a slice's spare places count too). A statement '..UptoSaid' is the law's where the arguments, and the package variables that the reading takes, are together of bulk at most 1048576: NARROWER than '..Said'. Prove '..Said' where nothing that the law and all that it calls make is longer than what came in: it says more and counts as full. Else prove '..UptoSaid'. A law counts once. -/
mutual
def uptoBulk {H : Type} : DataW H → Nat
  | .lit (.string bytes) => bytes.length + 1
  | .lit _ => 1
  | .nil => 1
  | .ptr d => uptoBulk d + 1
  | .slice elems spare => uptoBulkAll elems + uptoBulkAll spare + 1
  | .agg parts => uptoBulkAll parts + 1
  | .iface _ d => uptoBulk d + 1
  | .map entries => uptoBulkEntries entries + 1
  | .held _ => 1
def uptoBulkAll {H : Type} : List (DataW H) → Nat
  | [] => 0
  | d :: r => uptoBulk d + uptoBulkAll r
def uptoBulkEntries {H : Type} : List (Lit × DataW H) → Nat
  | [] => 0
  | x :: r => uptoBulkEntry x + uptoBulkEntries r
def uptoBulkEntry {H : Type} : Lit × DataW H → Nat
  | (.string bytes, d) => bytes.length + uptoBulk d + 1
  | (_, d) => uptoBulk d + 1
 end
def uptoSmall : (H : Type) → List (DataW H) → Bool := fun _ ds => decide (uptoBulkAll ds ≤ 1048576)
def OpenSpec.upto (s : _root_.Go.ChangeSpec) : _root_.Go.OpenSpec := { _root_.Go.OpenSpec.ofChange s with cond := some uptoSmall }

/-- 'gridironlaw07.StackTells', WHERE WHAT IT READS IS OF BULK AT MOST 1048576: true; the input reads as it did. -/
def stackTellsUptoRow : OpenClaim := { program := "ytjobfpnlpfjoeaa", sum := "30f9c482ca17c3ae6922ede24cae027696385f17b165009d720ec4608cf99ac8", func := "gridiron/gridironlaw07.StackTells", spec := "stackTells", unfollowed := true, recurses := true, apart := false, narrowed := true }
def StackTellsUptoSaid : Prop := stackTellsUptoRow.holds Try.pinned (OpenSpec.upto stackTellsSpec)

/-- 'gridironlaw07.StackOrder', WHERE WHAT IT READS IS OF BULK AT MOST 1048576: true; the input reads as it did. -/
def stackOrderUptoRow : OpenClaim := { program := "ytjobfpnlpfjoeaa", sum := "30f9c482ca17c3ae6922ede24cae027696385f17b165009d720ec4608cf99ac8", func := "gridiron/gridironlaw07.StackOrder", spec := "stackOrder", unfollowed := true, recurses := true, apart := false, narrowed := true }
def StackOrderUptoSaid : Prop := stackOrderUptoRow.holds Try.pinned (OpenSpec.upto stackOrderSpec)

/-- 'gridironlaw07.StackRoots', WHERE WHAT IT READS IS OF BULK AT MOST 1048576: true; the input reads as it did. -/
def stackRootsUptoRow : OpenClaim := { program := "ytjobfpnlpfjoeaa", sum := "30f9c482ca17c3ae6922ede24cae027696385f17b165009d720ec4608cf99ac8", func := "gridiron/gridironlaw07.StackRoots", spec := "stackRoots", unfollowed := true, recurses := true, apart := false, narrowed := true }
def StackRootsUptoSaid : Prop := stackRootsUptoRow.holds Try.pinned (OpenSpec.upto stackRootsSpec)

/-- 'gridironlaw07.StackWhole', WHERE WHAT IT READS IS OF BULK AT MOST 1048576: true; the input reads as it did. -/
def stackWholeUptoRow : OpenClaim := { program := "ytjobfpnlpfjoeaa", sum := "30f9c482ca17c3ae6922ede24cae027696385f17b165009d720ec4608cf99ac8", func := "gridiron/gridironlaw07.StackWhole", spec := "stackWhole", unfollowed := true, recurses := true, apart := false, narrowed := true }
def StackWholeUptoSaid : Prop := stackWholeUptoRow.holds Try.pinned (OpenSpec.upto stackWholeSpec)

/-- 'gridironlaw07.StackErrors', WHERE WHAT IT READS IS OF BULK AT MOST 1048576: true; the input reads as it did. -/
def stackErrorsUptoRow : OpenClaim := { program := "ytjobfpnlpfjoeaa", sum := "30f9c482ca17c3ae6922ede24cae027696385f17b165009d720ec4608cf99ac8", func := "gridiron/gridironlaw07.StackErrors", spec := "stackErrors", unfollowed := true, recurses := true, apart := false, narrowed := true }
def StackErrorsUptoSaid : Prop := stackErrorsUptoRow.holds Try.pinned (OpenSpec.upto stackErrorsSpec)

end Rows
end Go.Proofs.Ytjobfpnlpfjoeaa
