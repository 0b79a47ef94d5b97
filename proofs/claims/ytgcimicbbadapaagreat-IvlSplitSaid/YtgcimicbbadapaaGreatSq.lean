/-
  The tree of spans over all ends: what Build makes and what Stab tells. No condition but those typed at each theorem.
-/
import Derived.Test.YtgcimicbbadapaaGreatSb
import Derived.Test.YtgcimicbbadapaaGreatSo
namespace Go.Proofs.YtgcimicbbadapaaGreat
open Go.RowKit

/-- v is a tree that was built of n spans; those of A are there -/
def TSg (X : World) (v : Value) (n : Nat) (A : List S3) : Prop :=
  n ≤ 400 ∧ ∃ g ev eb gf gn gm E NV NM D, v = .pointer (some ⟨g, 0, none⟩) ∧ SegM X g ev eb gf gn gm E NV NM D (wtD E A : Nat) ∧ SgI E NM D ∧ D.map (·.1) = A ∧ E.length ≤ 2 * n
theorem TSg.bel {X X' : World} {v : Value} {n : Nat} {A : List S3} (h : TSg X v n A) (hb : Below X.heap.size X X') : TSg X' v n A := by
  obtain ⟨hn, g, ev, eb, gf, gn, gm, E, NV, NM, D, hv, hM, h⟩ := h
  exact ⟨hn, g, ev, eb, gf, gn, gm, E, NV, NM, D, hv, hM.bel hb, h⟩
theorem sbuild_any (w : World) (p : Option Addr) (c : Nat) (L : List S3) (hx : TsS w p L) (hl : L.length ≤ 400) (hw : ∀ s ∈ L, Wf3 s) :
    Calls Tryz.prog 18 #[.slice p L.length c] w fun e w' => Below w.heap.size w w' ∧ ((Rg L ∧ ∃ v, e = .returned (.tuple #[v, .int .i64 0]) ∧ TSg w' v L.length L) ∨ (¬ Rg L ∧ e = .returned (.tuple #[.pointer none, .int .i64 2]))) := by
  refine (build_any w p c L hx hl hw).mono ?_
  rintro e w' ⟨hb, h⟩
  refine ⟨hb, ?_⟩
  rcases h with ⟨hr, g, E, rfl, ⟨ev, eb, gf, gn, gm, NV, NM, D, hM, hI, hD, hS⟩, hE⟩ | ⟨hr, rfl⟩
  · exact .inl ⟨hr, _, rfl, ⟨hl, g, ev, eb, gf, gn, gm, E, NV, NM, D, rfl, hM, hI, hD, hE⟩⟩
  · exact .inr ⟨hr, rfl⟩
theorem sstab_any {X : World} {v : Value} {n : Nat} {A : List S3} (h : TSg X v n A) (hA : A.length ≤ n) (x : Int) :
    Calls Tryz.prog 19 #[v, .int .i64 x] X fun e X' => (∃ r, ∃ t : Nat, e = .returned (.tuple #[r, .int .i64 t]) ∧ TL X' r (stb A x).length (stb A x)) ∧ Below X.heap.size X X' := by
  obtain ⟨hn, g, ev, eb, gf, gn, gm, E, NV, NM, D, rfl, hM, hI, rfl, hE⟩ := h
  obtain ⟨k1, k2⟩ := hI.stabN x
  have k3 := stb_len (D.map (·.1)) x
  have k4 := px_few hI.up x hE hn
  refine (sStab_yes hM hI.up (by omega) hI.len x (by omega)).mono ?_
  rintro e w' ⟨⟨r, rfl, ht⟩, hb⟩
  rw [k1, k2] at ht
  exact ⟨⟨r, _, rfl, ht⟩, hb⟩
end Go.Proofs.YtgcimicbbadapaaGreat
