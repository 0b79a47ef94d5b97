/-
  Worlds in which all that lay lies as it did. No condition but those typed at each theorem.
-/
import Derived.Test.YtjobfpnlpfjoeaaWd
import Derived.Deep.DeepCutAuto
namespace Go.Proofs.Ytjobfpnlpfjoeaa
open Go.RowKit

/-- the worlds in which all that lay in w lies as it did -/
def Bw (w : World) (X : World) : Prop := Below w.heap.size w X
theorem Bw.keep {w X w' : World} (h : Bw w X) (hb : Below X.heap.size X w') : Bw w w' := h.trans (hb.mono h.size)
theorem Bw.cell {w : World} (s : Wd (Bw w)) {a : Addr} {v : Value} (h : w.cell? a = some v) : s.w.cell? a = some v :=
  (Below.cell s.h (World.block_lt_of_cell? w a h)).trans h
end Go.Proofs.Ytjobfpnlpfjoeaa
