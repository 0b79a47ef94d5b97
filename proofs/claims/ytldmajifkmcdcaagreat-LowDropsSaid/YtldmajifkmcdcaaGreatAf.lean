/-
  How many of the places ahead of one were dropped, by stretches of places: plain numbers, no program. No condition but those typed at each theorem.
-/
import Derived.Test.YtldmajifkmcdcaaGreatAu
import Derived.Test.YtldmajifkmcdcaaGreatMLook
namespace Go.Proofs.YtldmajifkmcdcaaGreat
/-- how many of the places ahead of n are there no more -/
def dc (al : Nat → Bool) : Nat → Nat
  | 0 => 0
  | n + 1 => dc al n + (if al n = true then 0 else 1)
theorem dc_step (al : Nat → Bool) (n : Nat) : dc al (n + 1) = dc al n + (if al n = true then 0 else 1) := rfl
theorem dc_none {al : Nat → Bool} : ∀ n, (∀ q, q < n → al q = true) → dc al n = 0 := by
  intro n
  induction n with
  | zero => intro _; rfl
  | succ n ih => intro h; rw [dc_step, ih (fun q hq => h q (by omega)), if_pos (h n (by omega))]
/-- one place less -/
theorem dc_less {al al' : Nat → Bool} {p : Nat} (ha : al p = true) (hal : ∀ q, al' q = (al q && decide (q ≠ p))) : ∀ n, dc al' n = dc al n + (if p < n then 1 else 0) := by
  intro n
  induction n with
  | zero => rfl
  | succ n ih =>
    rw [dc_step, dc_step, ih, hal]
    by_cases h : n = p
    · subst h; simp [ha]
    · have e : decide (n ≠ p) = true := by simp [h]
      rw [e, Bool.and_true]
      by_cases h1 : p < n
      · rw [if_pos h1, if_pos (show p < n + 1 by omega)]; omega
      · rw [if_neg h1, if_neg (show ¬ p < n + 1 by omega)]; omega
/-- a place's stretch -/
theorem str_le (q z : Nat) : q / z * z ≤ q := Nat.div_mul_le_self q z
theorem str_lt {q z : Nat} (h : 1 ≤ z) : q < q / z * z + z := by
  have := Nat.lt_mul_div_succ q (show 0 < z by omega)
  rw [Nat.mul_add, Nat.mul_one, Nat.mul_comm] at this
  exact this
theorem str_eq {q z k : Nat} (h1 : k * z ≤ q) (h2 : q < k * z + z) : q / z = k := Nat.div_eq_of_lt_le h1 (by rw [Nat.add_mul, Nat.one_mul]; exact h2)
theorem str_mono {j k z : Nat} (h : j ≤ k) : j * z ≤ k * z := Nat.mul_le_mul_right z h
theorem str_step {j k z : Nat} (h : j < k) : j * z + z ≤ k * z := by
  have := Nat.mul_le_mul_right z (show j + 1 ≤ k by omega)
  rw [Nat.add_mul, Nat.one_mul] at this
  exact this
/-- by stretches, and by places: how many were dropped ahead of the stretch, and within it -/
structure FwI (N z : Nat) (al : Nat → Bool) (FA FW : List Nat) : Prop where
  pos : 1 ≤ z
  la : FA.length = N / z + 1
  lw : FW.length = N + 1
  aa : ∀ j x, FA[j]? = some x → x = dc al (j * z)
  aw : ∀ q x, FW[q]? = some x → x + dc al (q / z * z) = dc al q
theorem FwI.start {N z : Nat} {al : Nat → Bool} (h : ∀ q, q < N → al q = true) (hz : 1 ≤ z) : FwI N z al (List.replicate (N / z + 1) 0) (List.replicate (N + 1) 0) where
  pos := hz
  la := by simp
  lw := by simp
  aa j x hx := by
    rw [List.getElem?_replicate] at hx
    split at hx
    · rename_i hj
      injection hx with hx
      have h1 := str_mono (z := z) (show j ≤ N / z by omega)
      have h2 := str_le N z
      rw [dc_none _ (fun q hq => h q (by omega)), ← hx]
    · cases hx
  aw q x hx := by
    rw [List.getElem?_replicate] at hx
    split at hx
    · injection hx with hx
      have h2 := str_le q z
      rw [dc_none _ (fun p hp => h p (by omega)), dc_none _ (fun p hp => h p (by omega)), ← hx]
    · cases hx
/-- what both tell together -/
theorem FwI.all {N z : Nat} {al : Nat → Bool} {FA FW : List Nat} (h : FwI N z al FA FW) {q : Nat} (hq : q ≤ N) : ∃ x y, FA[q / z]? = some x ∧ FW[q]? = some y ∧ x + y = dc al q := by
  have h1 : q / z ≤ N / z := Nat.div_le_div_right hq
  obtain ⟨x, e1⟩ : ∃ x, FA[q / z]? = some x := ⟨_, List.getElem?_eq_getElem (by rw [h.la]; omega)⟩
  obtain ⟨y, e2⟩ : ∃ y, FW[q]? = some y := ⟨_, List.getElem?_eq_getElem (by rw [h.lw]; omega)⟩
  have a1 := h.aa _ _ e1
  have a2 := h.aw _ _ e2
  exact ⟨_, _, e1, e2, by omega⟩
/-- within the stretch: the places ahead of n that are behind p count it -/
structure FwW (N z : Nat) (al : Nat → Bool) (p n : Nat) (FW : List Nat) : Prop where
  pos : 1 ≤ z
  lw : FW.length = N + 1
  pn : p < n
  aw : ∀ q x, FW[q]? = some x → x + dc al (q / z * z) = dc al q + (if p < q ∧ q < n ∧ q / z = p / z then 1 else 0)
theorem FwW.start {N z : Nat} {al : Nat → Bool} {FA FW : List Nat} (h : FwI N z al FA FW) (p : Nat) : FwW N z al p (p + 1) FW where
  pos := h.pos
  lw := h.lw
  pn := by omega
  aw q x hx := by rw [if_neg (by omega), Nat.add_zero]; exact h.aw q x hx
theorem FwW.step {N z : Nat} {al : Nat → Bool} {p n : Nat} {FW : List Nat} {x : Nat} (h : FwW N z al p n FW) (hn : FW[n]? = some x) (h2 : n < p / z * z + z) : FwW N z al p (n + 1) (FW.set n (x + 1)) where
  pos := h.pos
  lw := by simp [h.lw]
  pn := by have := h.pn; omega
  aw q y hy := by
    have hp := h.pn
    have hs := str_le p z
    have hnz : n / z = p / z := str_eq (by omega) h2
    rw [List.getElem?_set] at hy
    split at hy
    · rename_i e
      split at hy
      · injection hy with hy
        subst e
        have := h.aw n x hn
        rw [if_neg (by omega)] at this
        rw [if_pos ⟨hp, by omega, hnz⟩]
        omega
      · cases hy
    · rename_i e
      rw [h.aw q y hy]
      congr 1
      by_cases g : p < q ∧ q < n ∧ q / z = p / z
      · rw [if_pos g, if_pos ⟨g.1, by omega, g.2.2⟩]
      · rw [if_neg g, if_neg (fun c => g ⟨c.1, by omega, c.2.2⟩)]
/-- the stretches ahead of n that are behind p's count it -/
structure FwA (N z : Nat) (al : Nat → Bool) (p n : Nat) (FA : List Nat) : Prop where
  la : FA.length = N / z + 1
  pn : p / z < n
  aa : ∀ j x, FA[j]? = some x → x = dc al (j * z) + (if p / z < j ∧ j < n then 1 else 0)
theorem FwA.start {N z : Nat} {al : Nat → Bool} {FA FW : List Nat} (h : FwI N z al FA FW) (p : Nat) : FwA N z al p (p / z + 1) FA where
  la := h.la
  pn := by omega
  aa j x hx := by rw [if_neg (by omega), Nat.add_zero]; exact h.aa j x hx
theorem FwA.step {N z : Nat} {al : Nat → Bool} {p n : Nat} {FA : List Nat} {x : Nat} (h : FwA N z al p n FA) (hn : FA[n]? = some x) : FwA N z al p (n + 1) (FA.set n (x + 1)) where
  la := by simp [h.la]
  pn := by have := h.pn; omega
  aa j y hy := by
    have hp := h.pn
    rw [List.getElem?_set] at hy
    split at hy
    · rename_i e
      split at hy
      · injection hy with hy
        subst e
        have := h.aa n x hn
        rw [if_neg (by omega)] at this
        rw [if_pos ⟨hp, by omega⟩]
        omega
      · cases hy
    · rename_i e
      rw [h.aa j y hy]
      congr 1
      by_cases g : p / z < j ∧ j < n
      · rw [if_pos g, if_pos ⟨g.1, by omega⟩]
      · rw [if_neg g, if_neg (fun c => g ⟨c.1, by omega⟩)]
theorem Fw.done {N z : Nat} {al al' : Nat → Bool} {p n m : Nat} {FA FW : List Nat} (h : FwW N z al p n FW) (g : FwA N z al p m FA) (hn : p / z * z + z ≤ n ∨ N + 1 ≤ n) (hm : N / z + 1 ≤ m) (ha : al p = true) (hal : ∀ q, al' q = (al q && decide (q ≠ p))) : FwI N z al' FA FW where
  pos := h.pos
  la := g.la
  lw := h.lw
  aa j x hx := by
    have h1 := g.aa j x hx
    have hj : j < N / z + 1 := by have := (List.getElem?_eq_some_iff.1 hx).1; rw [g.la] at this; exact this
    rw [dc_less ha hal, h1]
    congr 1
    by_cases c : p / z < j
    · have h2 := str_step (z := z) c
      have h3 := str_lt (q := p) h.pos
      rw [if_pos ⟨c, by omega⟩, if_pos (by omega)]
    · have h2 := str_mono (z := z) (show j ≤ p / z by omega)
      have h3 := str_le p z
      rw [if_neg (fun d => c d.1), if_neg (by omega)]
  aw q x hx := by
    have h1 := h.aw q x hx
    have hq : q < N + 1 := by have := (List.getElem?_eq_some_iff.1 hx).1; rw [h.lw] at this; exact this
    have s1 := str_le q z
    have s2 := str_lt (q := q) h.pos
    have s3 := str_le p z
    have s4 := str_lt (q := p) h.pos
    rw [dc_less ha hal, dc_less ha hal]
    by_cases c : p < q
    · by_cases d : q / z = p / z
      · rw [d] at s1 s2 h1 ⊢
        rw [if_pos ⟨c, by omega, rfl⟩] at h1
        rw [if_pos c, if_neg (by omega)]
        omega
      · have e : p / z < q / z := by
          have := Nat.div_le_div_right (c := z) (Nat.le_of_lt c)
          omega
        have h2 := str_step (z := z) e
        rw [if_neg (fun k => d k.2.2)] at h1
        rw [if_pos c, if_pos (by omega)]
        omega
    · rw [if_neg (fun k => c k.1)] at h1
      rw [if_neg c, if_neg (by omega)]
      omega
end Go.Proofs.YtldmajifkmcdcaaGreat
