/-
  A pool that was made since a world, as the laws hold it. No condition but those typed at each theorem.
-/
import Derived.Test.YtjobfpnlpfjoeaaLift
namespace Go.Proofs.Ytjobfpnlpfjoeaa
open Go.RowKit

/-- the pool at P holds these nodes; what lay in w lies as it did, and no block of the pool lay there -/
def PK (w X : World) (P : Nat) (most : Int) (N : List Nd) : Prop := ∃ v1 v2, PO X P v1 v2 most N ∧ Below w.heap.size w X ∧ ∀ q ∈ pbl P v1 v2, w.heap.size ≤ q
section
variable {w X w' : World} {P : Nat} {most : Int} {N : List Nd}
theorem PK.off {S : List Nat} (h : PK w X P most N) (hO : Off S X w') (hS : ∀ k ∈ S, w.heap.size ≤ k ∧ ∃ c t, X.heap[k]? = some (.cells c t (0, 0)) ∧ t ≠ 57 ∧ t ≠ 36 ∧ t ≠ 4) : PK w w' P most N := by
  obtain ⟨v1, v2, hP, hB, hQ⟩ := h
  exact ⟨v1, v2, hP.off hO (fun k hk hk2 => by
    obtain ⟨_, c, t, h1, h2, h3, h4⟩ := hS k hk2
    exact pbl_types hP h1 h2 h3 h4 hk), hB.trans (hO.below hB.size (fun k hk => (hS k hk).1)), hQ⟩
theorem PK.off0 (h : PK w X P most N) (hO : Off [] X w') : PK w w' P most N := h.off hO (by simp)
theorem PK.keep (h : PK w X P most N) (hO : Below X.heap.size X w') : PK w w' P most N := h.off0 (Off.of hO (Nat.le_refl _))
theorem PK.all (h : PK w X P most N) (o : Obj) : PK w (X.alloc o) P most N := h.off0 ((Off.refl _ X).all o)
theorem PK.rt (h : PK w X P most N) : Rt N := by obtain ⟨_, _, hP, _⟩ := h; exact hP.rt
theorem PK.below (h : PK w X P most N) : Below w.heap.size w X := by obtain ⟨_, _, _, hB, _⟩ := h; exact hB
theorem PK.put (h : PK w X P most N) (n : Nd) (hN : N.length ≤ 8000) :
    Calls Try.prog 18 #[.pointer (some ⟨P, 0, none⟩), nv n] X fun e w' => e = .returned (told (putN N most n)) ∧ PK w w' P most (putN N most n).1 := by
  obtain ⟨v1, v2, hP, hB, hQ⟩ := h
  refine (Put_any X P v1 v2 most N n hP hN).mono ?_
  rintro e w' ⟨u1, u2, rfl, hP', hO', hW'⟩
  exact ⟨rfl, u1, u2, hP', hB.trans (hO'.below hB.size hQ), fun q hq => (hW' q hq).elim (hQ q) (fun h => Nat.le_trans hB.size h)⟩
theorem PK.Nodes (h : PK w X P most N) (hN : N.length ≤ 8000) :
    Calls Try.prog 19 #[.pointer (some ⟨P, 0, none⟩)] X fun e w' => ∃ p c, e = .returned (.slice p N.length c) ∧ NdS w' p N ∧ w'.ownsRow X.heap.size 36 7 (.slice p N.length c) N.length (flatN N) ∧ (p = none → c = 0) ∧ Below X.heap.size X w' := by
  obtain ⟨v1, v2, hP, -⟩ := h
  refine (Nodes_any X P v1 v2 most N hP (by omega)).mono ?_
  rintro e w' ⟨v, rfl, hR, hb⟩
  obtain ⟨-, p, c, rfl, hNd, hp, -⟩ := row_nds hR
  exact ⟨p, c, rfl, hNd, hR, fun e => (hp e).1, hb⟩
theorem PK.Roots (h : PK w X P most N) (hN : N.length ≤ 8000) :
    Calls Try.prog 20 #[.pointer (some ⟨P, 0, none⟩)] X fun e w' => ∃ p c, e = .returned (.slice p (rootsI N).length c) ∧ NS w' p .i64 (rootsI N) ∧ w'.ownsRow X.heap.size 3 1 (.slice p (rootsI N).length c) (rootsI N).length ((rootsI N).map (Value.int .i64)) ∧ Below X.heap.size X w' := by
  obtain ⟨v1, v2, hP, -⟩ := h
  refine (Roots_any X P v1 v2 most N hP (by omega)).mono ?_
  rintro e w' ⟨v, rfl, hR, hb⟩
  obtain ⟨p, c, rfl, hNS⟩ := row_ints hR
  exact ⟨p, c, rfl, hNS, hR, hb⟩
end
theorem New_pk (w X : World) (most : Int) (hB : Below w.heap.size w X) (h : 0 ≤ most ∧ most ≤ 68719476736) :
    Calls Try.prog 17 #[.int .i64 most] X fun e w' => e = .returned (.tuple #[.pointer (some ⟨X.heap.size, 0, none⟩), .int .i64 0]) ∧ PK w w' X.heap.size most [] := by
  refine (New_any X most h).mono ?_
  rintro e w' ⟨rfl, hP, hb⟩
  exact ⟨rfl, _, _, hP, hB.trans (hb.mono hB.size), fun q hq => by simp [pbl, Value.ownBlock] at hq; have := hB.size; omega⟩
theorem put_len (N : List Nd) (most : Int) (n : Nd) : (putN N most n).1.length ≤ N.length + 1 := by
  unfold putN
  split
  · split <;> simp
  · simp
/-- the seven cells of a node in a block of its own -/
theorem load_box {w : World} {b o : Nat} {n : Nd} (h : N1 w b o n) (hb : b < w.heap.size) (ob : Obj) : N1 (w.alloc ob) b o n := h.block (Below.heap_alloc _ _ _ hb)
end Go.Proofs.Ytjobfpnlpfjoeaa
