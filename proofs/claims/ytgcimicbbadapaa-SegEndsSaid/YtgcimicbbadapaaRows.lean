/-
  No cell of these rows narrows 'for every input' (looked for: loops, veiled, ifaces, maps, wideKeys, modest, calm, conditions, laid).
  DERIVED. THE GIVEN ROWS OF THIS SEAT. 7 by the template 'for every input the law returns true; each argument reads behind the call as it read before'; 0 by the template 'total and deterministic' (their statements: YtgcimicbbadapaaTotals.lean).
  GIVEN WITH THE SEED: the statements are not yours to turn. If you find one false, say at which input.
  Laid BY PROGRAM, IN A SANDBOX (cutbox-rows.mjs): the forced cells as the released guide's own fill.sh prints them over the translation b888b11365582e78… (all of the seat's roots in one cut). By AI agents, Wed Nov 11 2026. No macro, syntax, notation, axiom, sorry.
-/
import Derived.Test.YtgcimicbbadapaaChecked
import GoSem.Claim
import GoSem.ClaimJoined
import GoSem.ClaimMapViews
import Derived.JoinedTies
import Derived.KernelRfl
namespace Go.Proofs.Ytgcimicbbadapaa
/- THE CELL 'sum', in the pinned program and in every row, IS THE sha256 OF THE DUMP (.gsa) THAT YtgcimicbbadapaaProg.lean LOADS. Nothing in Lean hashes anything: it is a label: what it is worth is what the hold of that sum in a sandbox is worth. -/
noncomputable def Try.pinned : Pinned := { name := "ytgcimicbbadapaa", sum := "b888b11365582e788491a676ff52fbde41253ce4c1de26a2beabd3dbe2b91b16", checked := Try.checked }
namespace Rows
def none {H : Type} : Left H := { results := [], args := [] }

/-- 'gridironlaw08.SegTells': WHATEVER THE INPUT: true; the input reads as it did. -/
def segTellsSpec : ChangeSpec := { name := "segTells", fn := fun _ => fun
  | [d1, d2, d3] => { results := [.lit (.bool true)], args := [d1, d2, d3] }
  | _ => none }
def segTellsRow : OpenClaim := { program := "ytgcimicbbadapaa", sum := "b888b11365582e788491a676ff52fbde41253ce4c1de26a2beabd3dbe2b91b16", func := "gridiron/gridironlaw08.SegTells", spec := "segTells", unfollowed := true, recurses := true, apart := false }
def SegTellsSaid : Prop := segTellsRow.holds Try.pinned (OpenSpec.ofChange segTellsSpec)

/-- ITS FALSE NEIGHBOUR: 'it returns false'. Refute it at one input. -/
def segTellsWrong : ChangeSpec := { name := "segTells", fn := fun _ => fun
  | [d1, d2, d3] => { results := [.lit (.bool false)], args := [d1, d2, d3] }
  | _ => none }
def SegTellsWrongFalsely : Prop := segTellsRow.holds Try.pinned (OpenSpec.ofChange segTellsWrong)

/-- 'gridironlaw08.SegBound': WHATEVER THE INPUT: true; the input reads as it did. -/
def segBoundSpec : ChangeSpec := { name := "segBound", fn := fun _ => fun
  | [d1, d2, d3] => { results := [.lit (.bool true)], args := [d1, d2, d3] }
  | _ => none }
def segBoundRow : OpenClaim := { program := "ytgcimicbbadapaa", sum := "b888b11365582e788491a676ff52fbde41253ce4c1de26a2beabd3dbe2b91b16", func := "gridiron/gridironlaw08.SegBound", spec := "segBound", unfollowed := true, recurses := true, apart := false }
def SegBoundSaid : Prop := segBoundRow.holds Try.pinned (OpenSpec.ofChange segBoundSpec)

/-- ITS FALSE NEIGHBOUR: 'it returns false'. Refute it at one input. -/
def segBoundWrong : ChangeSpec := { name := "segBound", fn := fun _ => fun
  | [d1, d2, d3] => { results := [.lit (.bool false)], args := [d1, d2, d3] }
  | _ => none }
def SegBoundWrongFalsely : Prop := segBoundRow.holds Try.pinned (OpenSpec.ofChange segBoundWrong)

/-- 'gridironlaw08.SegWeak': WHATEVER THE INPUT: true; the input reads as it did. -/
def segWeakSpec : ChangeSpec := { name := "segWeak", fn := fun _ => fun
  | [d1, d2, d3] => { results := [.lit (.bool true)], args := [d1, d2, d3] }
  | _ => none }
def segWeakRow : OpenClaim := { program := "ytgcimicbbadapaa", sum := "b888b11365582e788491a676ff52fbde41253ce4c1de26a2beabd3dbe2b91b16", func := "gridiron/gridironlaw08.SegWeak", spec := "segWeak", unfollowed := true, recurses := true, apart := false }
def SegWeakSaid : Prop := segWeakRow.holds Try.pinned (OpenSpec.ofChange segWeakSpec)

/-- ITS FALSE NEIGHBOUR: 'it returns false'. Refute it at one input. -/
def segWeakWrong : ChangeSpec := { name := "segWeak", fn := fun _ => fun
  | [d1, d2, d3] => { results := [.lit (.bool false)], args := [d1, d2, d3] }
  | _ => none }
def SegWeakWrongFalsely : Prop := segWeakRow.holds Try.pinned (OpenSpec.ofChange segWeakWrong)

/-- 'gridironlaw08.SegOrder': WHATEVER THE INPUT: true; the input reads as it did. -/
def segOrderSpec : ChangeSpec := { name := "segOrder", fn := fun _ => fun
  | [d1, d2] => { results := [.lit (.bool true)], args := [d1, d2] }
  | _ => none }
def segOrderRow : OpenClaim := { program := "ytgcimicbbadapaa", sum := "b888b11365582e788491a676ff52fbde41253ce4c1de26a2beabd3dbe2b91b16", func := "gridiron/gridironlaw08.SegOrder", spec := "segOrder", unfollowed := true, recurses := true, apart := false }
def SegOrderSaid : Prop := segOrderRow.holds Try.pinned (OpenSpec.ofChange segOrderSpec)

/-- ITS FALSE NEIGHBOUR: 'it returns false'. Refute it at one input. -/
def segOrderWrong : ChangeSpec := { name := "segOrder", fn := fun _ => fun
  | [d1, d2] => { results := [.lit (.bool false)], args := [d1, d2] }
  | _ => none }
def SegOrderWrongFalsely : Prop := segOrderRow.holds Try.pinned (OpenSpec.ofChange segOrderWrong)

/-- 'gridironlaw08.SegTwo': WHATEVER THE INPUT: true; the input reads as it did. -/
def segTwoSpec : ChangeSpec := { name := "segTwo", fn := fun _ => fun
  | [d1, d2, d3] => { results := [.lit (.bool true)], args := [d1, d2, d3] }
  | _ => none }
def segTwoRow : OpenClaim := { program := "ytgcimicbbadapaa", sum := "b888b11365582e788491a676ff52fbde41253ce4c1de26a2beabd3dbe2b91b16", func := "gridiron/gridironlaw08.SegTwo", spec := "segTwo", unfollowed := true, recurses := true, apart := false }
def SegTwoSaid : Prop := segTwoRow.holds Try.pinned (OpenSpec.ofChange segTwoSpec)

/-- ITS FALSE NEIGHBOUR: 'it returns false'. Refute it at one input. -/
def segTwoWrong : ChangeSpec := { name := "segTwo", fn := fun _ => fun
  | [d1, d2, d3] => { results := [.lit (.bool false)], args := [d1, d2, d3] }
  | _ => none }
def SegTwoWrongFalsely : Prop := segTwoRow.holds Try.pinned (OpenSpec.ofChange segTwoWrong)

/-- 'gridironlaw08.SegEnds': WHATEVER THE INPUT: true; the input reads as it did. -/
def segEndsSpec : ChangeSpec := { name := "segEnds", fn := fun _ => fun
  | [d1, d2] => { results := [.lit (.bool true)], args := [d1, d2] }
  | _ => none }
def segEndsRow : OpenClaim := { program := "ytgcimicbbadapaa", sum := "b888b11365582e788491a676ff52fbde41253ce4c1de26a2beabd3dbe2b91b16", func := "gridiron/gridironlaw08.SegEnds", spec := "segEnds", unfollowed := true, recurses := true, apart := false }
def SegEndsSaid : Prop := segEndsRow.holds Try.pinned (OpenSpec.ofChange segEndsSpec)

/-- ITS FALSE NEIGHBOUR: 'it returns false'. Refute it at one input. -/
def segEndsWrong : ChangeSpec := { name := "segEnds", fn := fun _ => fun
  | [d1, d2] => { results := [.lit (.bool false)], args := [d1, d2] }
  | _ => none }
def SegEndsWrongFalsely : Prop := segEndsRow.holds Try.pinned (OpenSpec.ofChange segEndsWrong)

/-- 'gridironlaw09.IvlWide': WHATEVER THE INPUT: true; the input reads as it did. -/
def ivlWideSpec : ChangeSpec := { name := "ivlWide", fn := fun _ => fun
  | [d1, d2, d3, d4, d5] => { results := [.lit (.bool true)], args := [d1, d2, d3, d4, d5] }
  | _ => none }
def ivlWideRow : OpenClaim := { program := "ytgcimicbbadapaa", sum := "b888b11365582e788491a676ff52fbde41253ce4c1de26a2beabd3dbe2b91b16", func := "gridiron/gridironlaw09.IvlWide", spec := "ivlWide", unfollowed := true, recurses := true, apart := false }
def IvlWideSaid : Prop := ivlWideRow.holds Try.pinned (OpenSpec.ofChange ivlWideSpec)

/-- ITS FALSE NEIGHBOUR: 'it returns false'. Refute it at one input. -/
def ivlWideWrong : ChangeSpec := { name := "ivlWide", fn := fun _ => fun
  | [d1, d2, d3, d4, d5] => { results := [.lit (.bool false)], args := [d1, d2, d3, d4, d5] }
  | _ => none }
def IvlWideWrongFalsely : Prop := ivlWideRow.holds Try.pinned (OpenSpec.ofChange ivlWideWrong)

/- THE SECOND FORM. 'bulk': how many values and letters a reading holds, each counted each time it is reached (what is shared counts as often as it is met; a slice's spare places count too). A statement '..UptoSaid' is the law's where the arguments, and the package variables that the reading takes, are together of bulk at most 1048576: NARROWER than '..Said'. Prove '..Said' where nothing that the law and all that it calls make is longer than what came in: it says more and counts as full. Else prove '..UptoSaid'. A law counts once. -/
mutual
def uptoBulk {H : Type} : DataW H → Nat
  | .lit (.string bytes) => bytes.length + 1
  | .lit _ => 1
  | .nil => 1
  | .ptr d => uptoBulk d + 1
  | .slice elems spare => uptoBulkAll elems + uptoBulkAll spare + 1
  | .agg parts => uptoBulkAll parts + 1
  | .iface _ d => uptoBulk d + 1
  | .map entries => uptoBulkEntries entries + 1
  | .held _ => 1
def uptoBulkAll {H : Type} : List (DataW H) → Nat
  | [] => 0
  | d :: r => uptoBulk d + uptoBulkAll r
def uptoBulkEntries {H : Type} : List (Lit × DataW H) → Nat
  | [] => 0
  | x :: r => uptoBulkEntry x + uptoBulkEntries r
def uptoBulkEntry {H : Type} : Lit × DataW H → Nat
  | (.string bytes, d) => bytes.length + uptoBulk d + 1
  | (_, d) => uptoBulk d + 1
 end
def uptoSmall : (H : Type) → List (DataW H) → Bool := fun _ ds => decide (uptoBulkAll ds ≤ 1048576)
def OpenSpec.upto (s : _root_.Go.ChangeSpec) : _root_.Go.OpenSpec := { _root_.Go.OpenSpec.ofChange s with cond := some uptoSmall }

/-- 'gridironlaw08.SegTells', WHERE WHAT IT READS IS OF BULK AT MOST 1048576: true; the input reads as it did. -/
def segTellsUptoRow : OpenClaim := { program := "ytgcimicbbadapaa", sum := "b888b11365582e788491a676ff52fbde41253ce4c1de26a2beabd3dbe2b91b16", func := "gridiron/gridironlaw08.SegTells", spec := "segTells", unfollowed := true, recurses := true, apart := false, narrowed := true }
def SegTellsUptoSaid : Prop := segTellsUptoRow.holds Try.pinned (OpenSpec.upto segTellsSpec)

/-- 'gridironlaw08.SegBound', WHERE WHAT IT READS IS OF BULK AT MOST 1048576: true; the input reads as it did. -/
def segBoundUptoRow : OpenClaim := { program := "ytgcimicbbadapaa", sum := "b888b11365582e788491a676ff52fbde41253ce4c1de26a2beabd3dbe2b91b16", func := "gridiron/gridironlaw08.SegBound", spec := "segBound", unfollowed := true, recurses := true, apart := false, narrowed := true }
def SegBoundUptoSaid : Prop := segBoundUptoRow.holds Try.pinned (OpenSpec.upto segBoundSpec)

/-- 'gridironlaw08.SegWeak', WHERE WHAT IT READS IS OF BULK AT MOST 1048576: true; the input reads as it did. -/
def segWeakUptoRow : OpenClaim := { program := "ytgcimicbbadapaa", sum := "b888b11365582e788491a676ff52fbde41253ce4c1de26a2beabd3dbe2b91b16", func := "gridiron/gridironlaw08.SegWeak", spec := "segWeak", unfollowed := true, recurses := true, apart := false, narrowed := true }
def SegWeakUptoSaid : Prop := segWeakUptoRow.holds Try.pinned (OpenSpec.upto segWeakSpec)

/-- 'gridironlaw08.SegOrder', WHERE WHAT IT READS IS OF BULK AT MOST 1048576: true; the input reads as it did. -/
def segOrderUptoRow : OpenClaim := { program := "ytgcimicbbadapaa", sum := "b888b11365582e788491a676ff52fbde41253ce4c1de26a2beabd3dbe2b91b16", func := "gridiron/gridironlaw08.SegOrder", spec := "segOrder", unfollowed := true, recurses := true, apart := false, narrowed := true }
def SegOrderUptoSaid : Prop := segOrderUptoRow.holds Try.pinned (OpenSpec.upto segOrderSpec)

/-- 'gridironlaw08.SegTwo', WHERE WHAT IT READS IS OF BULK AT MOST 1048576: true; the input reads as it did. -/
def segTwoUptoRow : OpenClaim := { program := "ytgcimicbbadapaa", sum := "b888b11365582e788491a676ff52fbde41253ce4c1de26a2beabd3dbe2b91b16", func := "gridiron/gridironlaw08.SegTwo", spec := "segTwo", unfollowed := true, recurses := true, apart := false, narrowed := true }
def SegTwoUptoSaid : Prop := segTwoUptoRow.holds Try.pinned (OpenSpec.upto segTwoSpec)

/-- 'gridironlaw08.SegEnds', WHERE WHAT IT READS IS OF BULK AT MOST 1048576: true; the input reads as it did. -/
def segEndsUptoRow : OpenClaim := { program := "ytgcimicbbadapaa", sum := "b888b11365582e788491a676ff52fbde41253ce4c1de26a2beabd3dbe2b91b16", func := "gridiron/gridironlaw08.SegEnds", spec := "segEnds", unfollowed := true, recurses := true, apart := false, narrowed := true }
def SegEndsUptoSaid : Prop := segEndsUptoRow.holds Try.pinned (OpenSpec.upto segEndsSpec)

/-- 'gridironlaw09.IvlWide', WHERE WHAT IT READS IS OF BULK AT MOST 1048576: true; the input reads as it did. -/
def ivlWideUptoRow : OpenClaim := { program := "ytgcimicbbadapaa", sum := "b888b11365582e788491a676ff52fbde41253ce4c1de26a2beabd3dbe2b91b16", func := "gridiron/gridironlaw09.IvlWide", spec := "ivlWide", unfollowed := true, recurses := true, apart := false, narrowed := true }
def IvlWideUptoSaid : Prop := ivlWideUptoRow.holds Try.pinned (OpenSpec.upto ivlWideSpec)

end Rows
end Go.Proofs.Ytgcimicbbadapaa
