/-
  Looking for a place by halves, and how often one is doubled, as plain functions. No condition but those typed at each theorem.
-/
import Derived.Lib.BitFns
import Derived.Lib.ItoaNum
namespace Go.Proofs.Ytmkmkndcndpfeaa

theorem bl_spec (x : Nat) (h0 : x ≠ 0) (h : x < 2 ^ 64) : 1 ≤ Lib.bitLen x ∧ 2 ^ (Lib.bitLen x - 1) ≤ x ∧ x < 2 ^ Lib.bitLen x := Lib.bitLenAux_bounds 64 x h h0
theorem bl_zero : Lib.bitLen 0 = 0 := Lib.bitLenAux_zero 64
theorem bl_mono {x y : Nat} (h : x ≤ y) (hy : y < 2 ^ 64) : Lib.bitLen x ≤ Lib.bitLen y := by
  by_cases hy0 : y = 0
  · subst hy0
    rw [show x = 0 by omega]
    exact Nat.le_refl _
  · have h1 := bl_spec y hy0 hy
    refine Lib.bitLen_le x _ ?_ (by omega)
    exact Lib.bitLen_le y 64 (Nat.le_refl _) hy
/-- how often 1 is doubled to be n at least -/
def lgN (n : Nat) : Nat := Lib.bitLen (n - 1)
theorem lg_small {n : Nat} (h : n < 2) : lgN n = 0 := by
  unfold lgN
  rw [show n - 1 = 0 by omega, bl_zero]
theorem lg_spec {n : Nat} (h : 2 ≤ n) (h2 : n ≤ 9223372036854775807) : 1 ≤ lgN n ∧ lgN n ≤ 63 ∧ n ≤ 2 ^ lgN n ∧ 2 ^ (lgN n - 1) < n := by
  obtain ⟨h3, h4, h5⟩ := bl_spec (n - 1) (by omega) (by omega)
  have h6 := Lib.bitLen_le (n - 1) 63 (by omega) (by omega)
  unfold lgN
  exact ⟨h3, h6, by omega, by omega⟩
theorem lg_twice {n : Nat} (h : 2 ≤ n) (h2 : n ≤ 2305843009213693952) : lgN (2 * n) = lgN n + 1 := by
  unfold lgN
  rw [Lib.bitLen_half (2 * n - 1) (by omega) (by omega), show (2 * n - 1) / 2 = n - 1 by omega]
  omega
theorem lg_lt {n k : Nat} (h : 2 ≤ n) (h2 : n ≤ 9223372036854775807) (hk : k ≤ lgN n) : 2 ^ k < n ↔ k < lgN n := by
  obtain ⟨h3, h4, h5, h6⟩ := lg_spec h h2
  constructor
  · intro h7
    by_cases e : k = lgN n
    · subst e; omega
    · omega
  · intro h7
    have : 2 ^ k ≤ 2 ^ (lgN n - 1) := Nat.pow_le_pow_right (by decide) (by omega)
    omega

/-- places are looked at by halves: those from f on, below e, are left, and c were looked at -/
def lkGo (so : Nat → Bool) (f e c : Nat) : Nat × Nat :=
  if f < e then (if so (f + (e - f) / 2) then lkGo so f (f + (e - f) / 2) (c + 1) else lkGo so (f + (e - f) / 2 + 1) e (c + 1)) else (f, c)
termination_by e - f
/-- the first of n places at which it is so, and how many were looked at -/
def lk (so : Nat → Bool) (n : Nat) : Nat × Nat := lkGo so 0 n 0
theorem lkGo_end (so : Nat → Bool) {f e : Nat} (c : Nat) (h : ¬ f < e) : lkGo so f e c = (f, c) := by rw [lkGo, if_neg h]
theorem lkGo_yes (so : Nat → Bool) {f e : Nat} (c : Nat) (h : f < e) (hs : so (f + (e - f) / 2) = true) : lkGo so f e c = lkGo so f (f + (e - f) / 2) (c + 1) := by rw [lkGo, if_pos h, if_pos hs]
theorem lkGo_no (so : Nat → Bool) {f e : Nat} (c : Nat) (h : f < e) (hs : so (f + (e - f) / 2) = false) : lkGo so f e c = lkGo so (f + (e - f) / 2 + 1) e (c + 1) := by rw [lkGo, if_pos h, if_neg (by simp [hs])]

/-- within its bounds, and about as many looked at as there are halves -/
theorem lkGo_looks (so : Nat → Bool) : ∀ m f e c, e - f ≤ m → f ≤ e → e - f + 1 < 2 ^ 64 →
    f ≤ (lkGo so f e c).1 ∧ (lkGo so f e c).1 ≤ e ∧ c + (Lib.bitLen (e - f + 1) - 1) ≤ (lkGo so f e c).2 ∧ (lkGo so f e c).2 ≤ c + Lib.bitLen (e - f) := by
  intro m
  induction m with
  | zero =>
    intro f e c h1 h2 h3
    rw [lkGo_end so c (by omega), show e - f = 0 by omega]
    have : Lib.bitLen (0 + 1) ≤ 1 := Lib.bitLen_le 1 1 (by decide) (by decide)
    exact ⟨Nat.le_refl _, h2, by omega, by omega⟩
  | succ m ih =>
    intro f e c h1 h2 h3
    by_cases h : f < e
    · have hu : Lib.bitLen (e - f) = 1 + Lib.bitLen ((e - f) / 2) := Lib.bitLen_half _ (by omega) (by omega)
      have hl : Lib.bitLen (e - f + 1) = 1 + Lib.bitLen ((e - f + 1) / 2) := Lib.bitLen_half _ (by omega) (by omega)
      have ho : 1 ≤ Lib.bitLen ((e - f + 1) / 2) := (bl_spec _ (by omega) (by omega)).1
      cases hs : so (f + (e - f) / 2) with
      | true =>
        rw [lkGo_yes so c h hs]
        obtain ⟨h4, h5, h6, h7⟩ := ih f (f + (e - f) / 2) (c + 1) (by omega) (by omega) (by omega)
        rw [show f + (e - f) / 2 - f = (e - f) / 2 by omega] at h6 h7
        have h8 := bl_mono (x := (e - f + 1) / 2) (y := (e - f) / 2 + 1) (by omega) (by omega)
        exact ⟨h4, by omega, by omega, by omega⟩
      | false =>
        rw [lkGo_no so c h hs]
        obtain ⟨h4, h5, h6, h7⟩ := ih (f + (e - f) / 2 + 1) e (c + 1) (by omega) (by omega) (by omega)
        have h8 := bl_mono (x := (e - f + 1) / 2) (y := e - (f + (e - f) / 2 + 1) + 1) (by omega) (by omega)
        have h9 := bl_mono (x := e - (f + (e - f) / 2 + 1)) (y := (e - f) / 2) (by omega) (by omega)
        exact ⟨by omega, h5, by omega, by omega⟩
    · rw [lkGo_end so c h, show e - f = 0 by omega]
      have : Lib.bitLen (0 + 1) ≤ 1 := Lib.bitLen_le 1 1 (by decide) (by decide)
      exact ⟨Nat.le_refl _, h2, by omega, by omega⟩
theorem lk_looks (so : Nat → Bool) {n : Nat} (h : n < 9223372036854775807) : (lk so n).1 ≤ n ∧ (lk so n).2 ≤ lgN (n + 1) ∧ lgN (n + 1) ≤ (lk so n).2 + 1 := by
  obtain ⟨_, h2, h3, h4⟩ := lkGo_looks so n 0 n 0 (by omega) (by omega) (by omega)
  have h5 := bl_mono (x := n) (y := n - 0 + 1) (by omega) (by omega)
  unfold lk lgN
  rw [Nat.add_sub_cancel]
  rw [Nat.sub_zero] at h3 h4 h5
  exact ⟨h2, by omega, by omega⟩

/-- where it begins to be so -/
theorem lkGo_parts (so : Nat → Bool) (n : Nat) (hmono : ∀ i j, i ≤ j → j < n → so i = true → so j = true) : ∀ m f e c, e - f ≤ m → f ≤ e → e ≤ n → (∀ i, i < f → so i = false) → (∀ i, e ≤ i → i < n → so i = true) →
    (∀ i, i < (lkGo so f e c).1 → so i = false) ∧ (∀ i, (lkGo so f e c).1 ≤ i → i < n → so i = true) := by
  intro m
  induction m with
  | zero =>
    intro f e c h1 h2 hn h3 h4
    rw [lkGo_end so c (by omega)]
    exact ⟨h3, fun i hi hin => h4 i (by simp at hi; omega) hin⟩
  | succ m ih =>
    intro f e c h1 h2 hn h3 h4
    by_cases h : f < e
    · cases hs : so (f + (e - f) / 2) with
      | true =>
        rw [lkGo_yes so c h hs]
        exact ih _ _ _ (by omega) (by omega) (by omega) h3 (fun i hi hin => hmono _ i hi hin hs)
      | false =>
        rw [lkGo_no so c h hs]
        refine ih _ _ _ (by omega) (by omega) hn (fun i hi => ?_) h4
        cases hi2 : so i with
        | false => rfl
        | true => have := hmono i (f + (e - f) / 2) (by omega) (by omega) hi2; rw [hs] at this; cases this
    · rw [lkGo_end so c h]
      exact ⟨h3, fun i hi hin => h4 i (by simp at hi; omega) hin⟩
theorem lk_parts (so : Nat → Bool) (n : Nat) (hmono : ∀ i j, i ≤ j → j < n → so i = true → so j = true) : (∀ i, i < (lk so n).1 → so i = false) ∧ (∀ i, (lk so n).1 ≤ i → i < n → so i = true) :=
  lkGo_parts so n hmono n 0 n 0 (by omega) (by omega) (by omega) (fun i hi => by omega) (fun i hi hin => by omega)

/-- what First asks, and what Above asks -/
def notLess (xs : List Int) (x : Int) (i : Nat) : Bool := decide (x ≤ xs.getD i 0)
def isMore (xs : List Int) (x : Int) (i : Nat) : Bool := decide (x < xs.getD i 0)
def firstP (xs : List Int) (x : Int) : Nat × Nat := lk (notLess xs x) xs.length
def aboveP (xs : List Int) (x : Int) : Nat × Nat := lk (isMore xs x) xs.length
end Go.Proofs.Ytmkmkndcndpfeaa
