/-
  The nodes' lists are filled. No condition but those typed at each theorem.
-/
import Derived.Test.YtajpboclicnopaaGreatBg
import Derived.Test.YtajpboclicnopaaGreatBd
import Derived.Test.YtajpboclicnopaaGreatBi
import Derived.Deep.RegionLaw
namespace Go.Proofs.YtajpboclicnopaaGreat.Bd
open Go.RowKit Go.Sort
theorem lit_atB (W : World) (l : List Value) (t : TypeId) : ∀ j u, l[j]? = some u → (W.alloc (.cells l.toArray t)).cell? ((⟨W.heap.size, 0, none⟩ : Addr).add j) = some u := by
  intro j u e
  rw [Addr.add_lit, World.cell?_alloc_new]
  simpa using e
section
variable {w : World}  {RX LY : List S3}
end
end Go.Proofs.YtajpboclicnopaaGreat.Bd
