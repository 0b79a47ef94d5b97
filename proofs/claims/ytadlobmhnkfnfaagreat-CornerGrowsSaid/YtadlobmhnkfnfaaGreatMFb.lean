/-
  frame's part: canon. No condition but those typed at each theorem.
-/
import Derived.Test.YtadlobmhnkfnfaaGreatMFa
namespace Go.Proofs.YtadlobmhnkfnfaaGreat
open Go.RowKit
theorem row_keep {w w' : World} {base n : Nat} {e : TypeId} {size : Nat} {v : Value} {xs : List Value} (h : w.ownsRow base e size v n xs) (hb : Below w.heap.size w w') : w'.ownsRow base e size v n xs :=
  row_at h (fun k e => ⟨hb.block k (h.lt k e).2, (h.lt k e).1⟩)
end Go.Proofs.YtadlobmhnkfnfaaGreat
/-
  frame's part: path; a frame's Canon and Path. No condition but those typed at each theorem.
-/
namespace Go.Proofs.YtadlobmhnkfnfaaGreat
open Go.RowKit
end Go.Proofs.YtadlobmhnkfnfaaGreat
/-
  A frame's Canon and Path. No condition but those typed at each theorem.
-/
namespace Go.Proofs.YtadlobmhnkfnfaaGreat
open Go.RowKit
end Go.Proofs.YtadlobmhnkfnfaaGreat
