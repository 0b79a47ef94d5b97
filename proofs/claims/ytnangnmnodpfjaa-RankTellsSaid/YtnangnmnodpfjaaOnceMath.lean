/-
  Each number once, rising: what the list has; how many there are. No condition but those typed at each theorem.
-/
import Derived.Test.YtnangnmnodpfjaaSorts
namespace Go.Proofs.Ytnangnmnodpfjaa
open Go.RowKit Go.Sort

theorem strict_unique : ∀ (l m : List Int), l.Pairwise (· < ·) → m.Pairwise (· < ·) → (∀ x, x ∈ l ↔ x ∈ m) → l = m := by
  intro l
  induction l with
  | nil =>
    intro m _ _ h
    cases m with
    | nil => rfl
    | cons y m => have := (h y).2 (by simp); cases this
  | cons x l ih =>
    intro m h1 h2 h
    cases m with
    | nil => have := (h x).1 (by simp); cases this
    | cons y m =>
      obtain ⟨hx, hl⟩ := List.pairwise_cons.1 h1
      obtain ⟨hy, hm⟩ := List.pairwise_cons.1 h2
      have e : x = y := by
        rcases List.mem_cons.1 ((h x).1 (by simp)) with h3 | h3
        · exact h3
        · rcases List.mem_cons.1 ((h y).2 (by simp)) with h4 | h4
          · exact h4.symm
          · have := hx y h4; have := hy x h3; omega
      subst e
      refine congrArg _ (ih m hl hm (fun z => ⟨fun hz => ?_, fun hz => ?_⟩))
      · rcases List.mem_cons.1 ((h z).1 (List.mem_cons.2 (.inr hz))) with h3 | h3
        · have := hx z hz; omega
        · exact h3
      · rcases List.mem_cons.1 ((h z).2 (List.mem_cons.2 (.inr hz))) with h3 | h3
        · have := hy z hz; omega
        · exact h3

theorem once_spec (xs : List Int) : (onceL xs).Pairwise (· < ·) ∧ ∀ x, x ∈ onceL xs ↔ x ∈ xs := by
  obtain ⟨d, hd⟩ : ∃ d, d = Sort.sort ltInt xs.toArray := ⟨_, rfl⟩
  obtain ⟨hP, hS⟩ := sort_sorts ltInt swo_ltInt xs.toArray
  rw [← hd] at hP hS
  have hsz : d.size = xs.length := by rw [hd]; exact sort_size xs
  have hmem : ∀ x, x ∈ xs ↔ ∃ j, j < xs.length ∧ d[j]! = x := by
    have hp : d.toList.Perm xs := by
      have := hP.2.2
      rw [show xs.toArray.size = xs.length by simp] at this
      have e1 : d.extract 0 xs.length = d := by rw [← hsz]; exact Array.extract_size
      have e2 : xs.toArray.extract 0 xs.length = xs.toArray := by
        simp
      rw [e1, e2] at this
      simpa using this
    intro x
    rw [← hp.mem_iff, List.mem_iff_getElem?]
    constructor
    · rintro ⟨j, hj⟩
      obtain ⟨h1, h2⟩ := List.getElem?_eq_some_iff.1 hj
      simp at h1 h2
      exact ⟨j, by omega, by rw [getElem!_pos d j h1]; exact h2⟩
    · rintro ⟨j, h1, h2⟩
      refine ⟨j, ?_⟩
      rw [getElem!_pos d j (by omega)] at h2
      rw [List.getElem?_eq_getElem (by simp; omega)]
      simpa using h2
  have hle : ∀ i j, i ≤ j → j < xs.length → d[i]! ≤ d[j]! := by
    intro i j hij hj
    by_cases e : i = j
    · subst e; omega
    · have := hS i j (Nat.zero_le _) (by omega) (by simpa using hj)
      simp [ltInt] at this
      exact this
  have ho : onceL xs = ((List.range xs.length).filter (Lib.keeps d)).map (d[·]!) := by
    unfold onceL Lib.compactUpTo
    rw [← hd]
  have hkeep : ∀ j, Lib.keeps d j = true ↔ j = 0 ∨ d[j]! ≠ d[j - 1]! := by
    intro j
    unfold Lib.keeps
    simp
  rw [ho]
  constructor
  · rw [List.pairwise_map]
    refine List.Pairwise.imp_of_mem (R := fun a b => a < b) ?_ (List.Pairwise.filter _ List.pairwise_lt_range)
    intro i j hi hj hij
    simp at hi hj
    have h1 := (hkeep j).1 hj.2
    have h2 := hle i (j - 1) (by omega) (by omega)
    have h3 := hle (j - 1) j (by omega) hj.1
    have h4 : d[j]! ≠ d[j - 1]! := h1.resolve_left (by omega)
    omega
  · intro x
    rw [hmem]
    simp only [List.mem_map, List.mem_filter, List.mem_range]
    constructor
    · rintro ⟨j, ⟨h1, _⟩, h2⟩
      exact ⟨j, h1, h2⟩
    · rintro ⟨j, h1, h2⟩
      induction j with
      | zero => exact ⟨0, ⟨h1, (hkeep 0).2 (.inl rfl)⟩, h2⟩
      | succ j ih =>
        by_cases h3 : d[j + 1]! = d[j]!
        · exact ih (by omega) (by rw [← h3]; exact h2)
        · exact ⟨j + 1, ⟨h1, (hkeep (j + 1)).2 (.inr h3)⟩, h2⟩
theorem onceL_of (xs l : List Int) (h1 : l.Pairwise (· < ·)) (h2 : ∀ x, x ∈ l ↔ x ∈ xs) : onceL xs = l :=
  strict_unique _ _ (once_spec xs).1 h1 (fun x => ((once_spec xs).2 x).trans (h2 x).symm)
theorem onceL_again (xs : List Int) : onceL (onceL xs) = onceL xs := onceL_of _ _ (once_spec xs).1 (fun _ => Iff.rfl)
end Go.Proofs.Ytnangnmnodpfjaa
