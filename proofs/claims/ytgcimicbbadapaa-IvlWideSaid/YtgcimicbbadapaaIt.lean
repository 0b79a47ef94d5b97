/-
  What is told on the way down: plain lists, no program. No condition but those typed at each theorem.
-/
import Derived.Test.YtgcimicbbadapaaIk
import Derived.Test.YtgcimicbbadapaaIw
namespace Go.Proofs.Ytgcimicbbadapaa.Iv
open Go.RowKit

theorem cnt_once {ks : List Nat} (h : ks.Nodup) (a : Nat) : (ks.filter (fun k => decide (a = k))).length ≤ 1 := by
  induction ks with
  | nil => simp
  | cons b ks ih =>
    rw [List.nodup_cons] at h
    rw [List.filter_cons]
    by_cases e : a = b
    · subst e
      rw [if_pos (by simp), List.filter_eq_nil_iff.2 (fun x hx => by simp; exact fun e => h.1 (e ▸ hx))]
      simp
    · rw [if_neg (by simpa using e)]
      exact ih h.2
theorem sum_nb (kf : S3 → Nat) (L : List S3) {ks : List Nat} (h : ks.Nodup) : (ks.map (fun k => (nb kf L k).length)).sum ≤ L.length := by
  induction L with
  | nil =>
    clear h
    induction ks with
    | nil => simp
    | cons k ks ih => simpa [nb] using ih
  | cons s L ih =>
    have key : ∀ ks : List Nat, (ks.map (fun k => (nb kf (s :: L) k).length)).sum = (ks.map (fun k => (nb kf L k).length)).sum + (ks.filter (fun k => decide (kf s = k))).length := by
      intro ks
      induction ks with
      | nil => rfl
      | cons k ks ih =>
        rw [List.map_cons, List.sum_cons, List.map_cons, List.sum_cons, ih, List.filter_cons]
        unfold nb
        rw [List.filter_cons]
        by_cases e : kf s = k
        · rw [if_pos (by simpa using e), if_pos (by simpa using e), List.length_cons, List.length_cons]; omega
        · rw [if_neg (by simpa using e), if_neg (by simpa using e)]; omega
    rw [key, List.length_cons]
    have := cnt_once h (kf s)
    omega
theorem nodup_perm {l m : List S3} (hl : l.Nodup) (hm : m.Nodup) (h : ∀ s, s ∈ l ↔ s ∈ m) : l.Perm m := by
  exact (List.perm_ext_iff_of_nodup hl hm).2 h

section
variable (kf : S3 → Nat) (E : Nat → Int) (row row2 A : List S3) (x : Int)
/-- those at a knot that are there, in the order in which they are gone through for x -/
def atK (k : Nat) : List S3 := (nb kf (if 0 < sdx E x k then row2 else row) k).filter (fun s => decide (s ∈ A))
def tl (k : Nat) : List S3 := (atK kf E row row2 A x k).takeWhile (stbB x)
def toldX (ks : List Nat) : List S3 := ks.flatMap (tl kf E row row2 A x)
def tchX (ks : List Nat) : Nat := (ks.map (fun k => 1 + lkd (stbB x) (atK kf E row row2 A x k))).sum
theorem toldX_snoc (ks : List Nat) (k : Nat) : toldX kf E row row2 A x (ks ++ [k]) = toldX kf E row row2 A x ks ++ tl kf E row row2 A x k := by simp [toldX]
theorem tchX_snoc (ks : List Nat) (k : Nat) : tchX kf E row row2 A x (ks ++ [k]) = tchX kf E row row2 A x ks + (1 + lkd (stbB x) (atK kf E row row2 A x k)) := by simp [tchX]
theorem tch_bounds (ks : List Nat) : (toldX kf E row row2 A x ks).length + ks.length ≤ tchX kf E row row2 A x ks ∧ tchX kf E row row2 A x ks ≤ (toldX kf E row row2 A x ks).length + 2 * ks.length := by
  induction ks with
  | nil => simp [toldX, tchX]
  | cons k ks ih =>
    have h1 := lkd_le (stbB x) (atK kf E row row2 A x k)
    have e1 : toldX kf E row row2 A x (k :: ks) = tl kf E row row2 A x k ++ toldX kf E row row2 A x ks := by simp [toldX]
    have e2 : tchX kf E row row2 A x (k :: ks) = (1 + lkd (stbB x) (atK kf E row row2 A x k)) + tchX kf E row row2 A x ks := by simp [tchX]
    rw [e1, e2, List.length_append, List.length_cons]
    unfold tl
    omega
theorem tl_len (h : row2.Perm row) (k : Nat) : (tl kf E row row2 A x k).length ≤ (nb kf row k).length := by
  unfold tl atK
  refine Nat.le_trans (List.takeWhile_sublist _).length_le (Nat.le_trans (List.length_filter_le _ _) ?_)
  split
  · exact Nat.le_of_eq ((h.filter _).length_eq)
  · exact Nat.le_refl _
theorem told_len (h : row2.Perm row) {ks : List Nat} (hk : ks.Nodup) : (toldX kf E row row2 A x ks).length ≤ row.length := by
  refine Nat.le_trans ?_ (sum_nb kf row hk)
  clear hk
  induction ks with
  | nil => simp [toldX]
  | cons k ks ih =>
    have e1 : toldX kf E row row2 A x (k :: ks) = tl kf E row row2 A x k ++ toldX kf E row row2 A x ks := by simp [toldX]
    rw [e1, List.length_append, List.map_cons, List.sum_cons]
    have := tl_len kf E row row2 A x h k
    omega
end
/-- the tree's lists -/
structure IvI (E : List Int) (row RI FA row2 : List S3) : Prop where
  rg : Rg row
  up : E.Pairwise (· < ·)
  ends : ∀ s ∈ row, s.1 ∈ E ∧ s.2.1 ∈ E
  rise : row.Pairwise (fun s t => cLo s t < 0)
  fall : row2.Pairwise (fun s t => cHi s t < 0)
  perm : row2.Perm row
  ri : KbK (kn (En E) E.length) row E.length RI
  fa : KbK (kn (En E) E.length) row2 E.length FA
  few : row.length ≤ 400 ∧ E.length ≤ 800
section
variable {E : List Int} {row RI FA row2 A : List S3} (h : IvI E row RI FA row2) (x : Int)
include h
theorem IvI.atknot {s : S3} (hs : s ∈ row) : kn (En E) E.length s < E.length ∧ s.1 ≤ En E (kn (En E) E.length s) ∧ En E (kn (En E) E.length s) ≤ s.2.1 ∧ ∀ x, s.1 ≤ x → x ≤ s.2.1 → kn (En E) E.length s ∈ px (sdx (En E) x) 0 E.length :=
  kn_spec h.up (h.rg.1 s hs) (h.ends s hs).1 (h.ends s hs).2
/-- at a knot those are told that x stabs -/
theorem IvI.tl_eq {k : Nat} : tl (kn (En E) E.length) (En E) row row2 A x k = (atK (kn (En E) E.length) (En E) row row2 A x k).filter (stbB x) := by
  unfold Iv.tl
  refine take_filter _ ?_
  have hmem : ∀ s ∈ atK (kn (En E) E.length) (En E) row row2 A x k, s ∈ row ∧ Iv.kn (En E) E.length s = k := by
    intro s hs
    have h1 := (List.mem_filter.1 hs).1
    have h2 := List.mem_filter.1 h1
    refine ⟨?_, by simpa using h2.2⟩
    have h3 := h2.1
    split at h3
    · exact h.perm.mem_iff.1 h3
    · exact h3
  by_cases hx : 0 < sdx (En E) x k
  · have hsub : (atK (Iv.kn (En E) E.length) (En E) row row2 A x k).Sublist row2 := by
      unfold atK nb; rw [if_pos hx]; exact List.filter_sublist.trans List.filter_sublist
    have hp := h.fall.sublist hsub
    have hgt : En E k < x := by
      unfold sdx at hx
      split at hx
      · omega
      · split at hx
        · assumption
        · omega
    refine (List.Pairwise.imp_of_mem (fun {a b} ha hb hc => ?_) hp)
    obtain ⟨ha1, ha2⟩ := hmem a ha
    obtain ⟨k1, k2, k3, -⟩ := h.atknot ha1
    rw [ha2] at k2 k3
    rw [cHi_neg] at hc
    unfold stbB
    simp only [Bool.and_eq_true, decide_eq_true_eq]
    intro hb'
    omega
  · have hsub : (atK (Iv.kn (En E) E.length) (En E) row row2 A x k).Sublist row := by
      unfold atK nb; rw [if_neg hx]; exact List.filter_sublist.trans List.filter_sublist
    have hp := h.rise.sublist hsub
    have hle : x ≤ En E k := by
      unfold sdx at hx
      split at hx
      · omega
      · split at hx
        · omega
        · omega
    refine (List.Pairwise.imp_of_mem (fun {a b} ha hb hc => ?_) hp)
    obtain ⟨ha1, ha2⟩ := hmem a ha
    obtain ⟨k1, k2, k3, -⟩ := h.atknot ha1
    rw [ha2] at k2 k3
    rw [cLo_neg] at hc
    unfold stbB
    simp only [Bool.and_eq_true, decide_eq_true_eq]
    intro hb'
    omega
theorem IvI.mem_tl {k : Nat} {s : S3} : s ∈ Iv.tl (Iv.kn (En E) E.length) (En E) row row2 A x k ↔ s ∈ row ∧ Iv.kn (En E) E.length s = k ∧ s ∈ A ∧ stbB x s = true := by
  rw [h.tl_eq x, List.mem_filter]
  unfold atK nb
  rw [List.mem_filter, List.mem_filter]
  have : s ∈ (if 0 < sdx (En E) x k then row2 else row) ↔ s ∈ row := by
    split
    · exact h.perm.mem_iff
    · exact Iff.rfl
  rw [this]
  simp only [decide_eq_true_eq, and_assoc]
theorem IvI.told_once {ks : List Nat} (hk : ks.Nodup) : (toldX (Iv.kn (En E) E.length) (En E) row row2 A x ks).Nodup := by
  induction ks with
  | nil => simp [toldX]
  | cons k ks ih =>
    have e1 : toldX (Iv.kn (En E) E.length) (En E) row row2 A x (k :: ks) = Iv.tl (Iv.kn (En E) E.length) (En E) row row2 A x k ++ toldX (Iv.kn (En E) E.length) (En E) row row2 A x ks := by simp [toldX]
    rw [List.nodup_cons] at hk
    rw [e1, List.nodup_append]
    refine ⟨?_, ih hk.2, fun a ha b hb e => ?_⟩
    · rw [h.tl_eq x]
      unfold atK nb
      refine (List.Nodup.sublist (List.filter_sublist.trans (List.filter_sublist.trans List.filter_sublist)) ?_)
      split
      · exact h.perm.nodup_iff.2 h.rg.once
      · exact h.rg.once
    · subst e
      obtain ⟨k', hk', hb'⟩ := List.mem_flatMap.1 hb
      have h1 := ((h.mem_tl x).1 ha).2.1
      have h2 := ((h.mem_tl x).1 hb').2.1
      exact hk.1 (by rw [← h1, h2]; exact hk')
/-- all that x stabs, each once -/
theorem IvI.told (hA : A.Nodup) (hs : ∀ s ∈ A, s ∈ row) : (toldX (Iv.kn (En E) E.length) (En E) row row2 A x (px (sdx (En E) x) 0 E.length)).Perm (A.filter (stbB x)) := by
  refine nodup_perm (h.told_once x (px_once _ _ _)) (hA.sublist List.filter_sublist) (fun s => ?_)
  rw [List.mem_filter]
  constructor
  · intro hm
    obtain ⟨k, -, hk⟩ := List.mem_flatMap.1 hm
    have := (h.mem_tl x).1 hk
    exact ⟨this.2.2.1, this.2.2.2⟩
  · rintro ⟨h1, h2⟩
    have h3 := (h.atknot (hs s h1)).2.2.2 x
    unfold stbB at h2
    simp at h2
    exact List.mem_flatMap.2 ⟨_, h3 h2.1 h2.2, (h.mem_tl x).2 ⟨hs s h1, rfl, h1, by unfold stbB; simp [h2]⟩⟩
end
end Go.Proofs.Ytgcimicbbadapaa.Iv
