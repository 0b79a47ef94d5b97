/-
  No cell of these rows narrows 'for every input' (looked for: loops, veiled, ifaces, maps, wideKeys, modest, calm, conditions, laid).
  DERIVED. THE GIVEN ROWS OF THIS SEAT. 12 by the template 'for every input the law returns true; each argument reads behind the call as it read before'; 0 by the template 'total and deterministic' (their statements: YtfcpfffgodljeaaGreatTotals.lean).
  GIVEN WITH THE SEED: the statements are not yours to turn. If you find one false, say at which input.
  Laid BY PROGRAM, IN A SANDBOX (cutbox-rows.mjs): the forced cells as the released guide's own fill.sh prints them over the translation 186c03e18de4fd6f… (all of the seat's roots in one cut). By AI agents, Wed Nov 11 2026. No macro, syntax, notation, axiom, sorry.
-/
import Derived.Test.YtfcpfffgodljeaaGreatChecked
import GoSem.Claim
import GoSem.ClaimJoined
import GoSem.ClaimMapViews
import Derived.JoinedTies
import Derived.KernelRfl
namespace Go.Proofs.YtfcpfffgodljeaaGreat
/- THE CELL 'sum', in the pinned program and in every row, IS THE sha256 OF THE DUMP (.gsa) THAT YtfcpfffgodljeaaGreatProg.lean LOADS. Nothing in Lean hashes anything: it is a label: what it is worth is what the hold of that sum in a sandbox is worth. -/
noncomputable def Tryz.pinned : Pinned := { name := "ytfcpfffgodljeaagreat", sum := "186c03e18de4fd6f018297bb48270358edd8ae2f6313f8c21143c04faf318553", checked := Tryz.checked }
namespace Rows
def none {H : Type} : Left H := { results := [], args := [] }

/-- 'gridironlaw10.BandTells': WHATEVER THE INPUT: true; the input reads as it did. -/
def bandTellsSpec : ChangeSpec := { name := "bandTells", fn := fun _ => fun
  | [d1, d2, d3] => { results := [.lit (.bool true)], args := [d1, d2, d3] }
  | _ => none }
def bandTellsRow : OpenClaim := { program := "ytfcpfffgodljeaagreat", sum := "186c03e18de4fd6f018297bb48270358edd8ae2f6313f8c21143c04faf318553", func := "gridiron/gridironlaw10.BandTells", spec := "bandTells", unfollowed := true, recurses := true, apart := false }
def BandTellsSaid : Prop := bandTellsRow.holds Tryz.pinned (OpenSpec.ofChange bandTellsSpec)

/-- ITS FALSE NEIGHBOUR: 'it returns false'. Refute it at one input. -/
def bandTellsWrong : ChangeSpec := { name := "bandTells", fn := fun _ => fun
  | [d1, d2, d3] => { results := [.lit (.bool false)], args := [d1, d2, d3] }
  | _ => none }
def BandTellsWrongFalsely : Prop := bandTellsRow.holds Tryz.pinned (OpenSpec.ofChange bandTellsWrong)

/-- 'gridironlaw10.BandBound': WHATEVER THE INPUT: true; the input reads as it did. -/
def bandBoundSpec : ChangeSpec := { name := "bandBound", fn := fun _ => fun
  | [d1, d2, d3] => { results := [.lit (.bool true)], args := [d1, d2, d3] }
  | _ => none }
def bandBoundRow : OpenClaim := { program := "ytfcpfffgodljeaagreat", sum := "186c03e18de4fd6f018297bb48270358edd8ae2f6313f8c21143c04faf318553", func := "gridiron/gridironlaw10.BandBound", spec := "bandBound", unfollowed := true, recurses := true, apart := false }
def BandBoundSaid : Prop := bandBoundRow.holds Tryz.pinned (OpenSpec.ofChange bandBoundSpec)

/-- ITS FALSE NEIGHBOUR: 'it returns false'. Refute it at one input. -/
def bandBoundWrong : ChangeSpec := { name := "bandBound", fn := fun _ => fun
  | [d1, d2, d3] => { results := [.lit (.bool false)], args := [d1, d2, d3] }
  | _ => none }
def BandBoundWrongFalsely : Prop := bandBoundRow.holds Tryz.pinned (OpenSpec.ofChange bandBoundWrong)

/-- 'gridironlaw10.BandSplit': WHATEVER THE INPUT: true; the input reads as it did. -/
def bandSplitSpec : ChangeSpec := { name := "bandSplit", fn := fun _ => fun
  | [d1, d2, d3, d4] => { results := [.lit (.bool true)], args := [d1, d2, d3, d4] }
  | _ => none }
def bandSplitRow : OpenClaim := { program := "ytfcpfffgodljeaagreat", sum := "186c03e18de4fd6f018297bb48270358edd8ae2f6313f8c21143c04faf318553", func := "gridiron/gridironlaw10.BandSplit", spec := "bandSplit", unfollowed := true, recurses := true, apart := false }
def BandSplitSaid : Prop := bandSplitRow.holds Tryz.pinned (OpenSpec.ofChange bandSplitSpec)

/-- ITS FALSE NEIGHBOUR: 'it returns false'. Refute it at one input. -/
def bandSplitWrong : ChangeSpec := { name := "bandSplit", fn := fun _ => fun
  | [d1, d2, d3, d4] => { results := [.lit (.bool false)], args := [d1, d2, d3, d4] }
  | _ => none }
def BandSplitWrongFalsely : Prop := bandSplitRow.holds Tryz.pinned (OpenSpec.ofChange bandSplitWrong)

/-- 'gridironlaw10.BandTurned': WHATEVER THE INPUT: true; the input reads as it did. -/
def bandTurnedSpec : ChangeSpec := { name := "bandTurned", fn := fun _ => fun
  | [d1, d2] => { results := [.lit (.bool true)], args := [d1, d2] }
  | _ => none }
def bandTurnedRow : OpenClaim := { program := "ytfcpfffgodljeaagreat", sum := "186c03e18de4fd6f018297bb48270358edd8ae2f6313f8c21143c04faf318553", func := "gridiron/gridironlaw10.BandTurned", spec := "bandTurned", unfollowed := true, recurses := true, apart := false }
def BandTurnedSaid : Prop := bandTurnedRow.holds Tryz.pinned (OpenSpec.ofChange bandTurnedSpec)

/-- ITS FALSE NEIGHBOUR: 'it returns false'. Refute it at one input. -/
def bandTurnedWrong : ChangeSpec := { name := "bandTurned", fn := fun _ => fun
  | [d1, d2] => { results := [.lit (.bool false)], args := [d1, d2] }
  | _ => none }
def BandTurnedWrongFalsely : Prop := bandTurnedRow.holds Tryz.pinned (OpenSpec.ofChange bandTurnedWrong)

/-- 'gridironlaw10.BandWeak': WHATEVER THE INPUT: true; the input reads as it did. -/
def bandWeakSpec : ChangeSpec := { name := "bandWeak", fn := fun _ => fun
  | [d1, d2, d3] => { results := [.lit (.bool true)], args := [d1, d2, d3] }
  | _ => none }
def bandWeakRow : OpenClaim := { program := "ytfcpfffgodljeaagreat", sum := "186c03e18de4fd6f018297bb48270358edd8ae2f6313f8c21143c04faf318553", func := "gridiron/gridironlaw10.BandWeak", spec := "bandWeak", unfollowed := true, recurses := true, apart := false }
def BandWeakSaid : Prop := bandWeakRow.holds Tryz.pinned (OpenSpec.ofChange bandWeakSpec)

/-- ITS FALSE NEIGHBOUR: 'it returns false'. Refute it at one input. -/
def bandWeakWrong : ChangeSpec := { name := "bandWeak", fn := fun _ => fun
  | [d1, d2, d3] => { results := [.lit (.bool false)], args := [d1, d2, d3] }
  | _ => none }
def BandWeakWrongFalsely : Prop := bandWeakRow.holds Tryz.pinned (OpenSpec.ofChange bandWeakWrong)

/-- 'gridironlaw10.BandAll': WHATEVER THE INPUT: true; the input reads as it did. -/
def bandAllSpec : ChangeSpec := { name := "bandAll", fn := fun _ => fun
  | [d] => { results := [.lit (.bool true)], args := [d] }
  | _ => none }
def bandAllRow : OpenClaim := { program := "ytfcpfffgodljeaagreat", sum := "186c03e18de4fd6f018297bb48270358edd8ae2f6313f8c21143c04faf318553", func := "gridiron/gridironlaw10.BandAll", spec := "bandAll", unfollowed := true, recurses := true, apart := false }
def BandAllSaid : Prop := bandAllRow.holds Tryz.pinned (OpenSpec.ofChange bandAllSpec)

/-- ITS FALSE NEIGHBOUR: 'it returns false'. Refute it at one input. -/
def bandAllWrong : ChangeSpec := { name := "bandAll", fn := fun _ => fun
  | [d] => { results := [.lit (.bool false)], args := [d] }
  | _ => none }
def BandAllWrongFalsely : Prop := bandAllRow.holds Tryz.pinned (OpenSpec.ofChange bandAllWrong)

/-- 'gridironlaw11.CascadeTells': WHATEVER THE INPUT: true; the input reads as it did. -/
def cascadeTellsSpec : ChangeSpec := { name := "cascadeTells", fn := fun _ => fun
  | [d1, d2, d3] => { results := [.lit (.bool true)], args := [d1, d2, d3] }
  | _ => none }
def cascadeTellsRow : OpenClaim := { program := "ytfcpfffgodljeaagreat", sum := "186c03e18de4fd6f018297bb48270358edd8ae2f6313f8c21143c04faf318553", func := "gridiron/gridironlaw11.CascadeTells", spec := "cascadeTells", inPlace := ["sync/atomic.LoadUint32", "(*internal/sync.Mutex).Lock", "internal/race.Disable", "sync/atomic.CompareAndSwapInt32", "internal/race.Enable", "internal/race.Acquire", "(*internal/sync.Mutex).lockSlow", "internal/sync.runtime_canSpin", "internal/sync.runtime_doSpin", "internal/sync.throw", "internal/sync.runtime_nanotime", "internal/sync.runtime_SemacquireMutex", "sync/atomic.AddInt32", "(*internal/sync.Mutex).Unlock", "internal/race.ReleaseMerge", "(*internal/sync.Mutex).unlockSlow", "internal/sync.fatal", "internal/sync.runtime_Semrelease", "sync/atomic.StoreUint32"], unfollowed := true, recurses := true, apart := false }
def CascadeTellsSaid : Prop := cascadeTellsRow.holds Tryz.pinned (OpenSpec.ofChange cascadeTellsSpec)

/-- ITS FALSE NEIGHBOUR: 'it returns false'. Refute it at one input. -/
def cascadeTellsWrong : ChangeSpec := { name := "cascadeTells", fn := fun _ => fun
  | [d1, d2, d3] => { results := [.lit (.bool false)], args := [d1, d2, d3] }
  | _ => none }
def CascadeTellsWrongFalsely : Prop := cascadeTellsRow.holds Tryz.pinned (OpenSpec.ofChange cascadeTellsWrong)

/-- 'gridironlaw11.CascadeBound': WHATEVER THE INPUT: true; the input reads as it did. -/
def cascadeBoundSpec : ChangeSpec := { name := "cascadeBound", fn := fun _ => fun
  | [d1, d2, d3] => { results := [.lit (.bool true)], args := [d1, d2, d3] }
  | _ => none }
def cascadeBoundRow : OpenClaim := { program := "ytfcpfffgodljeaagreat", sum := "186c03e18de4fd6f018297bb48270358edd8ae2f6313f8c21143c04faf318553", func := "gridiron/gridironlaw11.CascadeBound", spec := "cascadeBound", inPlace := ["sync/atomic.LoadUint32", "(*internal/sync.Mutex).Lock", "internal/race.Disable", "sync/atomic.CompareAndSwapInt32", "internal/race.Enable", "internal/race.Acquire", "(*internal/sync.Mutex).lockSlow", "internal/sync.runtime_canSpin", "internal/sync.runtime_doSpin", "internal/sync.throw", "internal/sync.runtime_nanotime", "internal/sync.runtime_SemacquireMutex", "sync/atomic.AddInt32", "(*internal/sync.Mutex).Unlock", "internal/race.ReleaseMerge", "(*internal/sync.Mutex).unlockSlow", "internal/sync.fatal", "internal/sync.runtime_Semrelease", "sync/atomic.StoreUint32"], unfollowed := true, recurses := true, apart := false }
def CascadeBoundSaid : Prop := cascadeBoundRow.holds Tryz.pinned (OpenSpec.ofChange cascadeBoundSpec)

/-- ITS FALSE NEIGHBOUR: 'it returns false'. Refute it at one input. -/
def cascadeBoundWrong : ChangeSpec := { name := "cascadeBound", fn := fun _ => fun
  | [d1, d2, d3] => { results := [.lit (.bool false)], args := [d1, d2, d3] }
  | _ => none }
def CascadeBoundWrongFalsely : Prop := cascadeBoundRow.holds Tryz.pinned (OpenSpec.ofChange cascadeBoundWrong)

/-- 'gridironlaw11.CascadeBand': WHATEVER THE INPUT: true; the input reads as it did. -/
def cascadeBandSpec : ChangeSpec := { name := "cascadeBand", fn := fun _ => fun
  | [d1, d2, d3] => { results := [.lit (.bool true)], args := [d1, d2, d3] }
  | _ => none }
def cascadeBandRow : OpenClaim := { program := "ytfcpfffgodljeaagreat", sum := "186c03e18de4fd6f018297bb48270358edd8ae2f6313f8c21143c04faf318553", func := "gridiron/gridironlaw11.CascadeBand", spec := "cascadeBand", inPlace := ["sync/atomic.LoadUint32", "(*internal/sync.Mutex).Lock", "internal/race.Disable", "sync/atomic.CompareAndSwapInt32", "internal/race.Enable", "internal/race.Acquire", "(*internal/sync.Mutex).lockSlow", "internal/sync.runtime_canSpin", "internal/sync.runtime_doSpin", "internal/sync.throw", "internal/sync.runtime_nanotime", "internal/sync.runtime_SemacquireMutex", "sync/atomic.AddInt32", "(*internal/sync.Mutex).Unlock", "internal/race.ReleaseMerge", "(*internal/sync.Mutex).unlockSlow", "internal/sync.fatal", "internal/sync.runtime_Semrelease", "sync/atomic.StoreUint32"], unfollowed := true, recurses := true, apart := false }
def CascadeBandSaid : Prop := cascadeBandRow.holds Tryz.pinned (OpenSpec.ofChange cascadeBandSpec)

/-- ITS FALSE NEIGHBOUR: 'it returns false'. Refute it at one input. -/
def cascadeBandWrong : ChangeSpec := { name := "cascadeBand", fn := fun _ => fun
  | [d1, d2, d3] => { results := [.lit (.bool false)], args := [d1, d2, d3] }
  | _ => none }
def CascadeBandWrongFalsely : Prop := cascadeBandRow.holds Tryz.pinned (OpenSpec.ofChange cascadeBandWrong)

/-- 'gridironlaw11.CascadeCorners': WHATEVER THE INPUT: true; the input reads as it did. -/
def cascadeCornersSpec : ChangeSpec := { name := "cascadeCorners", fn := fun _ => fun
  | [d1, d2, d3] => { results := [.lit (.bool true)], args := [d1, d2, d3] }
  | _ => none }
def cascadeCornersRow : OpenClaim := { program := "ytfcpfffgodljeaagreat", sum := "186c03e18de4fd6f018297bb48270358edd8ae2f6313f8c21143c04faf318553", func := "gridiron/gridironlaw11.CascadeCorners", spec := "cascadeCorners", inPlace := ["sync/atomic.LoadUint32", "(*internal/sync.Mutex).Lock", "internal/race.Disable", "sync/atomic.CompareAndSwapInt32", "internal/race.Enable", "internal/race.Acquire", "(*internal/sync.Mutex).lockSlow", "internal/sync.runtime_canSpin", "internal/sync.runtime_doSpin", "internal/sync.throw", "internal/sync.runtime_nanotime", "internal/sync.runtime_SemacquireMutex", "sync/atomic.AddInt32", "(*internal/sync.Mutex).Unlock", "internal/race.ReleaseMerge", "(*internal/sync.Mutex).unlockSlow", "internal/sync.fatal", "internal/sync.runtime_Semrelease", "sync/atomic.StoreUint32"], unfollowed := true, recurses := true, apart := false }
def CascadeCornersSaid : Prop := cascadeCornersRow.holds Tryz.pinned (OpenSpec.ofChange cascadeCornersSpec)

/-- ITS FALSE NEIGHBOUR: 'it returns false'. Refute it at one input. -/
def cascadeCornersWrong : ChangeSpec := { name := "cascadeCorners", fn := fun _ => fun
  | [d1, d2, d3] => { results := [.lit (.bool false)], args := [d1, d2, d3] }
  | _ => none }
def CascadeCornersWrongFalsely : Prop := cascadeCornersRow.holds Tryz.pinned (OpenSpec.ofChange cascadeCornersWrong)

/-- 'gridironlaw11.CascadeWeak': WHATEVER THE INPUT: true; the input reads as it did. -/
def cascadeWeakSpec : ChangeSpec := { name := "cascadeWeak", fn := fun _ => fun
  | [d1, d2, d3] => { results := [.lit (.bool true)], args := [d1, d2, d3] }
  | _ => none }
def cascadeWeakRow : OpenClaim := { program := "ytfcpfffgodljeaagreat", sum := "186c03e18de4fd6f018297bb48270358edd8ae2f6313f8c21143c04faf318553", func := "gridiron/gridironlaw11.CascadeWeak", spec := "cascadeWeak", inPlace := ["sync/atomic.LoadUint32", "(*internal/sync.Mutex).Lock", "internal/race.Disable", "sync/atomic.CompareAndSwapInt32", "internal/race.Enable", "internal/race.Acquire", "(*internal/sync.Mutex).lockSlow", "internal/sync.runtime_canSpin", "internal/sync.runtime_doSpin", "internal/sync.throw", "internal/sync.runtime_nanotime", "internal/sync.runtime_SemacquireMutex", "sync/atomic.AddInt32", "(*internal/sync.Mutex).Unlock", "internal/race.ReleaseMerge", "(*internal/sync.Mutex).unlockSlow", "internal/sync.fatal", "internal/sync.runtime_Semrelease", "sync/atomic.StoreUint32"], unfollowed := true, recurses := true, apart := false }
def CascadeWeakSaid : Prop := cascadeWeakRow.holds Tryz.pinned (OpenSpec.ofChange cascadeWeakSpec)

/-- ITS FALSE NEIGHBOUR: 'it returns false'. Refute it at one input. -/
def cascadeWeakWrong : ChangeSpec := { name := "cascadeWeak", fn := fun _ => fun
  | [d1, d2, d3] => { results := [.lit (.bool false)], args := [d1, d2, d3] }
  | _ => none }
def CascadeWeakWrongFalsely : Prop := cascadeWeakRow.holds Tryz.pinned (OpenSpec.ofChange cascadeWeakWrong)

/-- 'gridironlaw11.CascadeGrows': WHATEVER THE INPUT: true; the input reads as it did. -/
def cascadeGrowsSpec : ChangeSpec := { name := "cascadeGrows", fn := fun _ => fun
  | [d1, d2, d3] => { results := [.lit (.bool true)], args := [d1, d2, d3] }
  | _ => none }
def cascadeGrowsRow : OpenClaim := { program := "ytfcpfffgodljeaagreat", sum := "186c03e18de4fd6f018297bb48270358edd8ae2f6313f8c21143c04faf318553", func := "gridiron/gridironlaw11.CascadeGrows", spec := "cascadeGrows", inPlace := ["sync/atomic.LoadUint32", "(*internal/sync.Mutex).Lock", "internal/race.Disable", "sync/atomic.CompareAndSwapInt32", "internal/race.Enable", "internal/race.Acquire", "(*internal/sync.Mutex).lockSlow", "internal/sync.runtime_canSpin", "internal/sync.runtime_doSpin", "internal/sync.throw", "internal/sync.runtime_nanotime", "internal/sync.runtime_SemacquireMutex", "sync/atomic.AddInt32", "(*internal/sync.Mutex).Unlock", "internal/race.ReleaseMerge", "(*internal/sync.Mutex).unlockSlow", "internal/sync.fatal", "internal/sync.runtime_Semrelease", "sync/atomic.StoreUint32"], unfollowed := true, recurses := true, apart := false }
def CascadeGrowsSaid : Prop := cascadeGrowsRow.holds Tryz.pinned (OpenSpec.ofChange cascadeGrowsSpec)

/-- ITS FALSE NEIGHBOUR: 'it returns false'. Refute it at one input. -/
def cascadeGrowsWrong : ChangeSpec := { name := "cascadeGrows", fn := fun _ => fun
  | [d1, d2, d3] => { results := [.lit (.bool false)], args := [d1, d2, d3] }
  | _ => none }
def CascadeGrowsWrongFalsely : Prop := cascadeGrowsRow.holds Tryz.pinned (OpenSpec.ofChange cascadeGrowsWrong)

/- THE SECOND FORM. 'bulk': how many values and letters a reading holds, each counted each time it is reached (what is shared counts as often as it is met; a slice's spare places count too). A statement '..UptoSaid' is the law's where the arguments, and the package variables that the reading takes, are together of bulk at most 1048576: NARROWER than '..Said'. Prove '..Said' where nothing that the law and all that it calls make is longer than what came in: it says more and counts as full. Else prove '..UptoSaid'. A law counts once. -/
mutual
def uptoBulk {H : Type} : DataW H → Nat
  | .lit (.string bytes) => bytes.length + 1
  | .lit _ => 1
  | .nil => 1
  | .ptr d => uptoBulk d + 1
  | .slice elems spare => uptoBulkAll elems + uptoBulkAll spare + 1
  | .agg parts => uptoBulkAll parts + 1
  | .iface _ d => uptoBulk d + 1
  | .map entries => uptoBulkEntries entries + 1
  | .held _ => 1
def uptoBulkAll {H : Type} : List (DataW H) → Nat
  | [] => 0
  | d :: r => uptoBulk d + uptoBulkAll r
def uptoBulkEntries {H : Type} : List (Lit × DataW H) → Nat
  | [] => 0
  | x :: r => uptoBulkEntry x + uptoBulkEntries r
def uptoBulkEntry {H : Type} : Lit × DataW H → Nat
  | (.string bytes, d) => bytes.length + uptoBulk d + 1
  | (_, d) => uptoBulk d + 1
 end
def uptoSmall : (H : Type) → List (DataW H) → Bool := fun _ ds => decide (uptoBulkAll ds ≤ 1048576)
def OpenSpec.upto (s : _root_.Go.ChangeSpec) : _root_.Go.OpenSpec := { _root_.Go.OpenSpec.ofChange s with cond := some uptoSmall }

/-- 'gridironlaw10.BandTells', WHERE WHAT IT READS IS OF BULK AT MOST 1048576: true; the input reads as it did. -/
def bandTellsUptoRow : OpenClaim := { program := "ytfcpfffgodljeaagreat", sum := "186c03e18de4fd6f018297bb48270358edd8ae2f6313f8c21143c04faf318553", func := "gridiron/gridironlaw10.BandTells", spec := "bandTells", unfollowed := true, recurses := true, apart := false, narrowed := true }
def BandTellsUptoSaid : Prop := bandTellsUptoRow.holds Tryz.pinned (OpenSpec.upto bandTellsSpec)

/-- 'gridironlaw10.BandBound', WHERE WHAT IT READS IS OF BULK AT MOST 1048576: true; the input reads as it did. -/
def bandBoundUptoRow : OpenClaim := { program := "ytfcpfffgodljeaagreat", sum := "186c03e18de4fd6f018297bb48270358edd8ae2f6313f8c21143c04faf318553", func := "gridiron/gridironlaw10.BandBound", spec := "bandBound", unfollowed := true, recurses := true, apart := false, narrowed := true }
def BandBoundUptoSaid : Prop := bandBoundUptoRow.holds Tryz.pinned (OpenSpec.upto bandBoundSpec)

/-- 'gridironlaw10.BandSplit', WHERE WHAT IT READS IS OF BULK AT MOST 1048576: true; the input reads as it did. -/
def bandSplitUptoRow : OpenClaim := { program := "ytfcpfffgodljeaagreat", sum := "186c03e18de4fd6f018297bb48270358edd8ae2f6313f8c21143c04faf318553", func := "gridiron/gridironlaw10.BandSplit", spec := "bandSplit", unfollowed := true, recurses := true, apart := false, narrowed := true }
def BandSplitUptoSaid : Prop := bandSplitUptoRow.holds Tryz.pinned (OpenSpec.upto bandSplitSpec)

/-- 'gridironlaw10.BandTurned', WHERE WHAT IT READS IS OF BULK AT MOST 1048576: true; the input reads as it did. -/
def bandTurnedUptoRow : OpenClaim := { program := "ytfcpfffgodljeaagreat", sum := "186c03e18de4fd6f018297bb48270358edd8ae2f6313f8c21143c04faf318553", func := "gridiron/gridironlaw10.BandTurned", spec := "bandTurned", unfollowed := true, recurses := true, apart := false, narrowed := true }
def BandTurnedUptoSaid : Prop := bandTurnedUptoRow.holds Tryz.pinned (OpenSpec.upto bandTurnedSpec)

/-- 'gridironlaw10.BandWeak', WHERE WHAT IT READS IS OF BULK AT MOST 1048576: true; the input reads as it did. -/
def bandWeakUptoRow : OpenClaim := { program := "ytfcpfffgodljeaagreat", sum := "186c03e18de4fd6f018297bb48270358edd8ae2f6313f8c21143c04faf318553", func := "gridiron/gridironlaw10.BandWeak", spec := "bandWeak", unfollowed := true, recurses := true, apart := false, narrowed := true }
def BandWeakUptoSaid : Prop := bandWeakUptoRow.holds Tryz.pinned (OpenSpec.upto bandWeakSpec)

/-- 'gridironlaw10.BandAll', WHERE WHAT IT READS IS OF BULK AT MOST 1048576: true; the input reads as it did. -/
def bandAllUptoRow : OpenClaim := { program := "ytfcpfffgodljeaagreat", sum := "186c03e18de4fd6f018297bb48270358edd8ae2f6313f8c21143c04faf318553", func := "gridiron/gridironlaw10.BandAll", spec := "bandAll", unfollowed := true, recurses := true, apart := false, narrowed := true }
def BandAllUptoSaid : Prop := bandAllUptoRow.holds Tryz.pinned (OpenSpec.upto bandAllSpec)

/-- 'gridironlaw11.CascadeTells', WHERE WHAT IT READS IS OF BULK AT MOST 1048576: true; the input reads as it did. -/
def cascadeTellsUptoRow : OpenClaim := { program := "ytfcpfffgodljeaagreat", sum := "186c03e18de4fd6f018297bb48270358edd8ae2f6313f8c21143c04faf318553", func := "gridiron/gridironlaw11.CascadeTells", spec := "cascadeTells", inPlace := ["sync/atomic.LoadUint32", "(*internal/sync.Mutex).Lock", "internal/race.Disable", "sync/atomic.CompareAndSwapInt32", "internal/race.Enable", "internal/race.Acquire", "(*internal/sync.Mutex).lockSlow", "internal/sync.runtime_canSpin", "internal/sync.runtime_doSpin", "internal/sync.throw", "internal/sync.runtime_nanotime", "internal/sync.runtime_SemacquireMutex", "sync/atomic.AddInt32", "(*internal/sync.Mutex).Unlock", "internal/race.ReleaseMerge", "(*internal/sync.Mutex).unlockSlow", "internal/sync.fatal", "internal/sync.runtime_Semrelease", "sync/atomic.StoreUint32"], unfollowed := true, recurses := true, apart := false, narrowed := true }
def CascadeTellsUptoSaid : Prop := cascadeTellsUptoRow.holds Tryz.pinned (OpenSpec.upto cascadeTellsSpec)

/-- 'gridironlaw11.CascadeBound', WHERE WHAT IT READS IS OF BULK AT MOST 1048576: true; the input reads as it did. -/
def cascadeBoundUptoRow : OpenClaim := { program := "ytfcpfffgodljeaagreat", sum := "186c03e18de4fd6f018297bb48270358edd8ae2f6313f8c21143c04faf318553", func := "gridiron/gridironlaw11.CascadeBound", spec := "cascadeBound", inPlace := ["sync/atomic.LoadUint32", "(*internal/sync.Mutex).Lock", "internal/race.Disable", "sync/atomic.CompareAndSwapInt32", "internal/race.Enable", "internal/race.Acquire", "(*internal/sync.Mutex).lockSlow", "internal/sync.runtime_canSpin", "internal/sync.runtime_doSpin", "internal/sync.throw", "internal/sync.runtime_nanotime", "internal/sync.runtime_SemacquireMutex", "sync/atomic.AddInt32", "(*internal/sync.Mutex).Unlock", "internal/race.ReleaseMerge", "(*internal/sync.Mutex).unlockSlow", "internal/sync.fatal", "internal/sync.runtime_Semrelease", "sync/atomic.StoreUint32"], unfollowed := true, recurses := true, apart := false, narrowed := true }
def CascadeBoundUptoSaid : Prop := cascadeBoundUptoRow.holds Tryz.pinned (OpenSpec.upto cascadeBoundSpec)

/-- 'gridironlaw11.CascadeBand', WHERE WHAT IT READS IS OF BULK AT MOST 1048576: true; the input reads as it did. -/
def cascadeBandUptoRow : OpenClaim := { program := "ytfcpfffgodljeaagreat", sum := "186c03e18de4fd6f018297bb48270358edd8ae2f6313f8c21143c04faf318553", func := "gridiron/gridironlaw11.CascadeBand", spec := "cascadeBand", inPlace := ["sync/atomic.LoadUint32", "(*internal/sync.Mutex).Lock", "internal/race.Disable", "sync/atomic.CompareAndSwapInt32", "internal/race.Enable", "internal/race.Acquire", "(*internal/sync.Mutex).lockSlow", "internal/sync.runtime_canSpin", "internal/sync.runtime_doSpin", "internal/sync.throw", "internal/sync.runtime_nanotime", "internal/sync.runtime_SemacquireMutex", "sync/atomic.AddInt32", "(*internal/sync.Mutex).Unlock", "internal/race.ReleaseMerge", "(*internal/sync.Mutex).unlockSlow", "internal/sync.fatal", "internal/sync.runtime_Semrelease", "sync/atomic.StoreUint32"], unfollowed := true, recurses := true, apart := false, narrowed := true }
def CascadeBandUptoSaid : Prop := cascadeBandUptoRow.holds Tryz.pinned (OpenSpec.upto cascadeBandSpec)

/-- 'gridironlaw11.CascadeCorners', WHERE WHAT IT READS IS OF BULK AT MOST 1048576: true; the input reads as it did. -/
def cascadeCornersUptoRow : OpenClaim := { program := "ytfcpfffgodljeaagreat", sum := "186c03e18de4fd6f018297bb48270358edd8ae2f6313f8c21143c04faf318553", func := "gridiron/gridironlaw11.CascadeCorners", spec := "cascadeCorners", inPlace := ["sync/atomic.LoadUint32", "(*internal/sync.Mutex).Lock", "internal/race.Disable", "sync/atomic.CompareAndSwapInt32", "internal/race.Enable", "internal/race.Acquire", "(*internal/sync.Mutex).lockSlow", "internal/sync.runtime_canSpin", "internal/sync.runtime_doSpin", "internal/sync.throw", "internal/sync.runtime_nanotime", "internal/sync.runtime_SemacquireMutex", "sync/atomic.AddInt32", "(*internal/sync.Mutex).Unlock", "internal/race.ReleaseMerge", "(*internal/sync.Mutex).unlockSlow", "internal/sync.fatal", "internal/sync.runtime_Semrelease", "sync/atomic.StoreUint32"], unfollowed := true, recurses := true, apart := false, narrowed := true }
def CascadeCornersUptoSaid : Prop := cascadeCornersUptoRow.holds Tryz.pinned (OpenSpec.upto cascadeCornersSpec)

/-- 'gridironlaw11.CascadeWeak', WHERE WHAT IT READS IS OF BULK AT MOST 1048576: true; the input reads as it did. -/
def cascadeWeakUptoRow : OpenClaim := { program := "ytfcpfffgodljeaagreat", sum := "186c03e18de4fd6f018297bb48270358edd8ae2f6313f8c21143c04faf318553", func := "gridiron/gridironlaw11.CascadeWeak", spec := "cascadeWeak", inPlace := ["sync/atomic.LoadUint32", "(*internal/sync.Mutex).Lock", "internal/race.Disable", "sync/atomic.CompareAndSwapInt32", "internal/race.Enable", "internal/race.Acquire", "(*internal/sync.Mutex).lockSlow", "internal/sync.runtime_canSpin", "internal/sync.runtime_doSpin", "internal/sync.throw", "internal/sync.runtime_nanotime", "internal/sync.runtime_SemacquireMutex", "sync/atomic.AddInt32", "(*internal/sync.Mutex).Unlock", "internal/race.ReleaseMerge", "(*internal/sync.Mutex).unlockSlow", "internal/sync.fatal", "internal/sync.runtime_Semrelease", "sync/atomic.StoreUint32"], unfollowed := true, recurses := true, apart := false, narrowed := true }
def CascadeWeakUptoSaid : Prop := cascadeWeakUptoRow.holds Tryz.pinned (OpenSpec.upto cascadeWeakSpec)

/-- 'gridironlaw11.CascadeGrows', WHERE WHAT IT READS IS OF BULK AT MOST 1048576: true; the input reads as it did. -/
def cascadeGrowsUptoRow : OpenClaim := { program := "ytfcpfffgodljeaagreat", sum := "186c03e18de4fd6f018297bb48270358edd8ae2f6313f8c21143c04faf318553", func := "gridiron/gridironlaw11.CascadeGrows", spec := "cascadeGrows", inPlace := ["sync/atomic.LoadUint32", "(*internal/sync.Mutex).Lock", "internal/race.Disable", "sync/atomic.CompareAndSwapInt32", "internal/race.Enable", "internal/race.Acquire", "(*internal/sync.Mutex).lockSlow", "internal/sync.runtime_canSpin", "internal/sync.runtime_doSpin", "internal/sync.throw", "internal/sync.runtime_nanotime", "internal/sync.runtime_SemacquireMutex", "sync/atomic.AddInt32", "(*internal/sync.Mutex).Unlock", "internal/race.ReleaseMerge", "(*internal/sync.Mutex).unlockSlow", "internal/sync.fatal", "internal/sync.runtime_Semrelease", "sync/atomic.StoreUint32"], unfollowed := true, recurses := true, apart := false, narrowed := true }
def CascadeGrowsUptoSaid : Prop := cascadeGrowsUptoRow.holds Tryz.pinned (OpenSpec.upto cascadeGrowsSpec)

end Rows
end Go.Proofs.YtfcpfffgodljeaaGreat
