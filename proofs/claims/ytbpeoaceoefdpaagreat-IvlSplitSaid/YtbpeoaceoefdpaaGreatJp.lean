/-
  What meets lo to hi: what lo stabs, and what begins behind lo, up to hi; plain. No condition but those typed at each theorem.
-/
import Derived.Test.YtbpeoaceoefdpaaGreatIx
namespace Go.Proofs.YtbpeoaceoefdpaaGreat.Iv
open Go.RowKit

theorem mtS_up {A : List S3} (hA : Rg A) (lo hi : Int) : (mtS A lo hi).Pairwise (· < ·) := by
  have h1 := nsort_sorted (mtL A lo hi)
  have h2 : (nsort (mtL A lo hi)).Nodup := by
    rw [(nsort_perm _).nodup_iff]
    unfold mtL
    split
    · exact hA.2.sublist (List.filter_sublist.map _)
    · exact List.nodup_nil
  unfold mtS
  exact (h1.and h2).imp (fun {a b} h => by have := h.1; have := h.2; omega)
/-- begins behind lo, up to hi -/
def bgB (lo hi : Int) (s : S3) : Bool := decide (lo < s.1) && decide (s.1 ≤ hi)
def bgL (L : List S3) (lo hi : Int) : List Int := (L.filter (bgB lo hi)).map (·.2.2)
theorem bgL_snoc (L : List S3) (s : S3) (lo hi : Int) : bgL (L ++ [s]) lo hi = bgL L lo hi ++ (if bgB lo hi s then [s.2.2] else []) := by
  unfold bgL
  rw [List.filter_append]
  by_cases h : bgB lo hi s = true <;> simp [h]
theorem filter_or {α : Type} (p q r : α → Bool) : ∀ (L : List α), (∀ s ∈ L, p s = (q s || r s) ∧ ¬ (q s = true ∧ r s = true)) → (L.filter q ++ L.filter r).Perm (L.filter p) := by
  intro L
  induction L with
  | nil => intro _; exact List.Perm.refl _
  | cons a L ih =>
    intro h
    have ih := ih (fun s hs => h s (List.mem_cons_of_mem _ hs))
    obtain ⟨h1, h2⟩ := h a List.mem_cons_self
    cases hq : q a with
    | false =>
      cases hr : r a with
      | false =>
        rw [hq, hr] at h1
        simp only [List.filter_cons, hq, hr, h1, Bool.or_self, Bool.false_eq_true, if_false]
        exact ih
      | true =>
        rw [hq, hr] at h1
        simp only [List.filter_cons, hq, hr, h1, Bool.false_or, Bool.false_eq_true, if_false, if_true]
        exact List.perm_middle.trans (ih.cons a)
    | true =>
      cases hr : r a with
      | false =>
        rw [hq, hr] at h1
        simp only [List.filter_cons, hq, hr, h1, Bool.or_false, Bool.false_eq_true, if_false, if_true, List.cons_append]
        exact ih.cons a
      | true => exact absurd ⟨hq, hr⟩ h2
theorem split_perm {L : List S3} (hr : Rg L) {lo hi : Int} (h : lo ≤ hi) : (stb L lo ++ bgL L lo hi).Perm (mtS L lo hi) := by
  have h1 : (L.filter (stbB lo) ++ L.filter (bgB lo hi)).Perm (L.filter (mtB lo hi)) := filter_or _ _ _ L (fun s hs => by
    have h2 := hr.1 s hs
    unfold mtB stbB bgB
    refine ⟨?_, fun ⟨a, b⟩ => ?_⟩
    · rw [Bool.eq_iff_iff]
      simp only [Bool.and_eq_true, Bool.or_eq_true, decide_eq_true_eq]
      omega
    · simp only [Bool.and_eq_true, decide_eq_true_eq] at a b
      omega)
  have h2 := h1.map (fun s : S3 => s.2.2)
  rw [List.map_append] at h2
  unfold mtS stb mtL
  rw [if_pos h]
  refine List.Perm.trans ?_ (nsort_perm _).symm
  exact ((nsort_perm _).append (List.Perm.refl _)).trans h2
theorem mtS_one (L : List S3) (lo : Int) : mtS L lo lo = stb L lo := by
  unfold mtS stb mtL
  rw [if_pos (Int.le_refl _)]
  congr 1
theorem mtS_not {L : List S3} {lo hi : Int} (h : ¬ lo ≤ hi) : mtS L lo hi = [] := by
  unfold mtS mtL
  rw [if_neg h]
  rfl
/-- each name once -/
theorem split_once {L : List S3} (hr : Rg L) {lo hi : Int} (h : lo ≤ hi) : (stb L lo ++ bgL L lo hi).Nodup := by
  rw [(split_perm hr h).nodup_iff]
  exact (mtS_up hr lo hi).imp (fun {a b} h e => by omega)
end Go.Proofs.YtbpeoaceoefdpaaGreat.Iv
