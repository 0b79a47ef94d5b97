/-
  What is asked of a tree of points holds of this one. No condition but those typed at each theorem.
-/
import Derived.Test.YtajpboclicnopaaGreatBh
import Derived.Test.YtajpboclicnopaaGreatRo
import Derived.Test.YtajpboclicnopaaGreatPg
import Derived.Test.YtajpboclicnopaaGreatMP
namespace Go.Proofs.YtajpboclicnopaaGreat
open Go.RowKit Go.Sort
theorem rg_few {A RX : List S3} (hA : A.Nodup) (hs : ∀ s ∈ A, s ∈ RX) (h : Rg RX) : Rg A := by
  show (A.map (·.2.2)).Nodup
  induction A with
  | nil => simp
  | cons a A ih =>
    rw [List.nodup_cons] at hA
    rw [List.map_cons, List.nodup_cons]
    refine ⟨fun hm => ?_, ih hA.2 (fun s h => hs s (List.mem_cons_of_mem _ h))⟩
    obtain ⟨b, hb, e⟩ := List.mem_map.1 hm
    have := h.names (hs b (List.mem_cons_of_mem _ hb)) (hs a (by simp)) e
    exact hA.1 (this ▸ hb)
end Go.Proofs.YtajpboclicnopaaGreat
