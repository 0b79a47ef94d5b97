/-
  No cell of these rows narrows 'for every input' (looked for: loops, veiled, ifaces, maps, wideKeys, modest, calm, conditions, laid).
  DERIVED. THE GIVEN ROWS OF THIS SEAT. 6 by the template 'for every input the law returns true; each argument reads behind the call as it read before'; 0 by the template 'total and deterministic' (their statements: YtomchimjogdkkaaTotals.lean).
  GIVEN WITH THE SEED: the statements are not yours to turn. If you find one false, say at which input.
  Laid BY PROGRAM, IN A SANDBOX (cutbox-rows.mjs): the forced cells as the released guide's own fill.sh prints them over the translation 886da75e80750c4f… (all of the seat's roots in one cut). By AI agents, Wed Nov 11 2026. No macro, syntax, notation, axiom, sorry.
-/
import Derived.Test.YtomchimjogdkkaaChecked
import GoSem.Claim
import GoSem.ClaimJoined
import GoSem.ClaimMapViews
import Derived.JoinedTies
import Derived.KernelRfl
namespace Go.Proofs.Ytomchimjogdkkaa
/- THE CELL 'sum', in the pinned program and in every row, IS THE sha256 OF THE DUMP (.gsa) THAT YtomchimjogdkkaaProg.lean LOADS. Nothing in Lean hashes anything: it is a label: what it is worth is what the hold of that sum in a sandbox is worth. -/
noncomputable def Try.pinned : Pinned := { name := "ytomchimjogdkkaa", sum := "886da75e80750c4f0e861de1c0549d67e02eee5106165d96de451c1fd2bc8c11", checked := Try.checked }
namespace Rows
def none {H : Type} : Left H := { results := [], args := [] }

/-- 'gridironlaw03.SortTells': WHATEVER THE INPUT: true; the input reads as it did. -/
def sortTellsSpec : ChangeSpec := { name := "sortTells", fn := fun _ => fun
  | [d1, d2, d3] => { results := [.lit (.bool true)], args := [d1, d2, d3] }
  | _ => none }
def sortTellsRow : OpenClaim := { program := "ytomchimjogdkkaa", sum := "886da75e80750c4f0e861de1c0549d67e02eee5106165d96de451c1fd2bc8c11", func := "gridiron/gridironlaw03.SortTells", spec := "sortTells", unfollowed := true, recurses := true, apart := false }
def SortTellsSaid : Prop := sortTellsRow.holds Try.pinned (OpenSpec.ofChange sortTellsSpec)

/-- ITS FALSE NEIGHBOUR: 'it returns false'. Refute it at one input. -/
def sortTellsWrong : ChangeSpec := { name := "sortTells", fn := fun _ => fun
  | [d1, d2, d3] => { results := [.lit (.bool false)], args := [d1, d2, d3] }
  | _ => none }
def SortTellsWrongFalsely : Prop := sortTellsRow.holds Try.pinned (OpenSpec.ofChange sortTellsWrong)

/-- 'gridironlaw03.SortRises': WHATEVER THE INPUT: true; the input reads as it did. -/
def sortRisesSpec : ChangeSpec := { name := "sortRises", fn := fun _ => fun
  | [d] => { results := [.lit (.bool true)], args := [d] }
  | _ => none }
def sortRisesRow : OpenClaim := { program := "ytomchimjogdkkaa", sum := "886da75e80750c4f0e861de1c0549d67e02eee5106165d96de451c1fd2bc8c11", func := "gridiron/gridironlaw03.SortRises", spec := "sortRises", unfollowed := true, recurses := true, apart := false }
def SortRisesSaid : Prop := sortRisesRow.holds Try.pinned (OpenSpec.ofChange sortRisesSpec)

/-- ITS FALSE NEIGHBOUR: 'it returns false'. Refute it at one input. -/
def sortRisesWrong : ChangeSpec := { name := "sortRises", fn := fun _ => fun
  | [d] => { results := [.lit (.bool false)], args := [d] }
  | _ => none }
def SortRisesWrongFalsely : Prop := sortRisesRow.holds Try.pinned (OpenSpec.ofChange sortRisesWrong)

/-- 'gridironlaw03.SortMerges': WHATEVER THE INPUT: true; the input reads as it did. -/
def sortMergesSpec : ChangeSpec := { name := "sortMerges", fn := fun _ => fun
  | [d1, d2] => { results := [.lit (.bool true)], args := [d1, d2] }
  | _ => none }
def sortMergesRow : OpenClaim := { program := "ytomchimjogdkkaa", sum := "886da75e80750c4f0e861de1c0549d67e02eee5106165d96de451c1fd2bc8c11", func := "gridiron/gridironlaw03.SortMerges", spec := "sortMerges", unfollowed := true, recurses := true, apart := false }
def SortMergesSaid : Prop := sortMergesRow.holds Try.pinned (OpenSpec.ofChange sortMergesSpec)

/-- ITS FALSE NEIGHBOUR: 'it returns false'. Refute it at one input. -/
def sortMergesWrong : ChangeSpec := { name := "sortMerges", fn := fun _ => fun
  | [d1, d2] => { results := [.lit (.bool false)], args := [d1, d2] }
  | _ => none }
def SortMergesWrongFalsely : Prop := sortMergesRow.holds Try.pinned (OpenSpec.ofChange sortMergesWrong)

/-- 'gridironlaw03.SortWork': WHATEVER THE INPUT: true; the input reads as it did. -/
def sortWorkSpec : ChangeSpec := { name := "sortWork", fn := fun _ => fun
  | [d] => { results := [.lit (.bool true)], args := [d] }
  | _ => none }
def sortWorkRow : OpenClaim := { program := "ytomchimjogdkkaa", sum := "886da75e80750c4f0e861de1c0549d67e02eee5106165d96de451c1fd2bc8c11", func := "gridiron/gridironlaw03.SortWork", spec := "sortWork", unfollowed := true, recurses := true, apart := false }
def SortWorkSaid : Prop := sortWorkRow.holds Try.pinned (OpenSpec.ofChange sortWorkSpec)

/-- ITS FALSE NEIGHBOUR: 'it returns false'. Refute it at one input. -/
def sortWorkWrong : ChangeSpec := { name := "sortWork", fn := fun _ => fun
  | [d] => { results := [.lit (.bool false)], args := [d] }
  | _ => none }
def SortWorkWrongFalsely : Prop := sortWorkRow.holds Try.pinned (OpenSpec.ofChange sortWorkWrong)

/-- 'gridironlaw03.SortOnce': WHATEVER THE INPUT: true; the input reads as it did. -/
def sortOnceSpec : ChangeSpec := { name := "sortOnce", fn := fun _ => fun
  | [d] => { results := [.lit (.bool true)], args := [d] }
  | _ => none }
def sortOnceRow : OpenClaim := { program := "ytomchimjogdkkaa", sum := "886da75e80750c4f0e861de1c0549d67e02eee5106165d96de451c1fd2bc8c11", func := "gridiron/gridironlaw03.SortOnce", spec := "sortOnce", unfollowed := true, recurses := true, apart := false }
def SortOnceSaid : Prop := sortOnceRow.holds Try.pinned (OpenSpec.ofChange sortOnceSpec)

/-- ITS FALSE NEIGHBOUR: 'it returns false'. Refute it at one input. -/
def sortOnceWrong : ChangeSpec := { name := "sortOnce", fn := fun _ => fun
  | [d] => { results := [.lit (.bool false)], args := [d] }
  | _ => none }
def SortOnceWrongFalsely : Prop := sortOnceRow.holds Try.pinned (OpenSpec.ofChange sortOnceWrong)

/-- 'gridironlaw03.SortOwn': WHATEVER THE INPUT: true; the input reads as it did. -/
def sortOwnSpec : ChangeSpec := { name := "sortOwn", fn := fun _ => fun
  | [d1, d2] => { results := [.lit (.bool true)], args := [d1, d2] }
  | _ => none }
def sortOwnRow : OpenClaim := { program := "ytomchimjogdkkaa", sum := "886da75e80750c4f0e861de1c0549d67e02eee5106165d96de451c1fd2bc8c11", func := "gridiron/gridironlaw03.SortOwn", spec := "sortOwn", unfollowed := true, recurses := true, apart := false }
def SortOwnSaid : Prop := sortOwnRow.holds Try.pinned (OpenSpec.ofChange sortOwnSpec)

/-- ITS FALSE NEIGHBOUR: 'it returns false'. Refute it at one input. -/
def sortOwnWrong : ChangeSpec := { name := "sortOwn", fn := fun _ => fun
  | [d1, d2] => { results := [.lit (.bool false)], args := [d1, d2] }
  | _ => none }
def SortOwnWrongFalsely : Prop := sortOwnRow.holds Try.pinned (OpenSpec.ofChange sortOwnWrong)

/- THE SECOND FORM. 'bulk': how many values and letters a reading holds, each counted each time it is reached (what is shared counts as often as it is met; a slice's spare places count too). A statement '..UptoSaid' is the law's where the arguments, and the package variables that the reading takes, are together of bulk at most 1048576: NARROWER than '..Said'. Prove '..Said' where nothing that the law and all that it calls make is longer than what came in: it says more and counts as full. Else prove '..UptoSaid'. A law counts once. -/
mutual
def uptoBulk {H : Type} : DataW H → Nat
  | .lit (.string bytes) => bytes.length + 1
  | .lit _ => 1
  | .nil => 1
  | .ptr d => uptoBulk d + 1
  | .slice elems spare => uptoBulkAll elems + uptoBulkAll spare + 1
  | .agg parts => uptoBulkAll parts + 1
  | .iface _ d => uptoBulk d + 1
  | .map entries => uptoBulkEntries entries + 1
  | .held _ => 1
def uptoBulkAll {H : Type} : List (DataW H) → Nat
  | [] => 0
  | d :: r => uptoBulk d + uptoBulkAll r
def uptoBulkEntries {H : Type} : List (Lit × DataW H) → Nat
  | [] => 0
  | x :: r => uptoBulkEntry x + uptoBulkEntries r
def uptoBulkEntry {H : Type} : Lit × DataW H → Nat
  | (.string bytes, d) => bytes.length + uptoBulk d + 1
  | (_, d) => uptoBulk d + 1
 end
def uptoSmall : (H : Type) → List (DataW H) → Bool := fun _ ds => decide (uptoBulkAll ds ≤ 1048576)
def OpenSpec.upto (s : _root_.Go.ChangeSpec) : _root_.Go.OpenSpec := { _root_.Go.OpenSpec.ofChange s with cond := some uptoSmall }

/-- 'gridironlaw03.SortTells', WHERE WHAT IT READS IS OF BULK AT MOST 1048576: true; the input reads as it did. -/
def sortTellsUptoRow : OpenClaim := { program := "ytomchimjogdkkaa", sum := "886da75e80750c4f0e861de1c0549d67e02eee5106165d96de451c1fd2bc8c11", func := "gridiron/gridironlaw03.SortTells", spec := "sortTells", unfollowed := true, recurses := true, apart := false, narrowed := true }
def SortTellsUptoSaid : Prop := sortTellsUptoRow.holds Try.pinned (OpenSpec.upto sortTellsSpec)

/-- 'gridironlaw03.SortRises', WHERE WHAT IT READS IS OF BULK AT MOST 1048576: true; the input reads as it did. -/
def sortRisesUptoRow : OpenClaim := { program := "ytomchimjogdkkaa", sum := "886da75e80750c4f0e861de1c0549d67e02eee5106165d96de451c1fd2bc8c11", func := "gridiron/gridironlaw03.SortRises", spec := "sortRises", unfollowed := true, recurses := true, apart := false, narrowed := true }
def SortRisesUptoSaid : Prop := sortRisesUptoRow.holds Try.pinned (OpenSpec.upto sortRisesSpec)

/-- 'gridironlaw03.SortMerges', WHERE WHAT IT READS IS OF BULK AT MOST 1048576: true; the input reads as it did. -/
def sortMergesUptoRow : OpenClaim := { program := "ytomchimjogdkkaa", sum := "886da75e80750c4f0e861de1c0549d67e02eee5106165d96de451c1fd2bc8c11", func := "gridiron/gridironlaw03.SortMerges", spec := "sortMerges", unfollowed := true, recurses := true, apart := false, narrowed := true }
def SortMergesUptoSaid : Prop := sortMergesUptoRow.holds Try.pinned (OpenSpec.upto sortMergesSpec)

/-- 'gridironlaw03.SortWork', WHERE WHAT IT READS IS OF BULK AT MOST 1048576: true; the input reads as it did. -/
def sortWorkUptoRow : OpenClaim := { program := "ytomchimjogdkkaa", sum := "886da75e80750c4f0e861de1c0549d67e02eee5106165d96de451c1fd2bc8c11", func := "gridiron/gridironlaw03.SortWork", spec := "sortWork", unfollowed := true, recurses := true, apart := false, narrowed := true }
def SortWorkUptoSaid : Prop := sortWorkUptoRow.holds Try.pinned (OpenSpec.upto sortWorkSpec)

/-- 'gridironlaw03.SortOnce', WHERE WHAT IT READS IS OF BULK AT MOST 1048576: true; the input reads as it did. -/
def sortOnceUptoRow : OpenClaim := { program := "ytomchimjogdkkaa", sum := "886da75e80750c4f0e861de1c0549d67e02eee5106165d96de451c1fd2bc8c11", func := "gridiron/gridironlaw03.SortOnce", spec := "sortOnce", unfollowed := true, recurses := true, apart := false, narrowed := true }
def SortOnceUptoSaid : Prop := sortOnceUptoRow.holds Try.pinned (OpenSpec.upto sortOnceSpec)

/-- 'gridironlaw03.SortOwn', WHERE WHAT IT READS IS OF BULK AT MOST 1048576: true; the input reads as it did. -/
def sortOwnUptoRow : OpenClaim := { program := "ytomchimjogdkkaa", sum := "886da75e80750c4f0e861de1c0549d67e02eee5106165d96de451c1fd2bc8c11", func := "gridiron/gridironlaw03.SortOwn", spec := "sortOwn", unfollowed := true, recurses := true, apart := false, narrowed := true }
def SortOwnUptoSaid : Prop := sortOwnUptoRow.holds Try.pinned (OpenSpec.upto sortOwnSpec)

end Rows
end Go.Proofs.Ytomchimjogdkkaa
