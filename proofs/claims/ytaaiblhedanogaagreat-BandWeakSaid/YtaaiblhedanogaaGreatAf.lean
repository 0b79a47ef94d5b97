/-
  How many of the places ahead of one were dropped, by shares of binary digits: plain numbers, no program. No condition but those typed at each theorem.
-/
import Derived.Test.YtaaiblhedanogaaGreatAu
import Derived.Test.YtaaiblhedanogaaGreatMLook
namespace Go.Proofs.YtaaiblhedanogaaGreat

/-- what the lowest binary digit that is not 0 is worth -/
def low (n : Nat) : Nat := if h : n = 0 then 0 else if n % 2 = 1 then 1 else 2 * low (n / 2)
termination_by n
decreasing_by omega
theorem low_zero : low 0 = 0 := by rw [low, dif_pos rfl]
theorem low_odd (m : Nat) : low (2 * m + 1) = 1 := by rw [low, dif_neg (by omega), if_pos (by omega)]
theorem low_even {m : Nat} (h : 1 ≤ m) : low (2 * m) = 2 * low m := by rw [low, dif_neg (by omega), if_neg (by omega), show 2 * m / 2 = m by omega]
/-- a number by its last binary digit -/
theorem bin_ind {P : Nat → Prop} (h1 : ∀ m, (1 ≤ m → P m) → P (2 * m + 1)) (h2 : ∀ m, 1 ≤ m → P m → P (2 * m)) : ∀ n, 1 ≤ n → P n := by
  have : ∀ d n, n ≤ d → 1 ≤ n → P n := by
    intro d
    induction d with
    | zero => intro n h h'; omega
    | succ d ih =>
      intro n h h'
      rcases Nat.mod_two_eq_zero_or_one n with e | e
      · have := h2 (n / 2) (by omega) (ih (n / 2) (by omega) (by omega))
        rw [show 2 * (n / 2) = n by omega] at this
        exact this
      · have := h1 (n / 2) (fun g => ih (n / 2) (by omega) g)
        rw [show 2 * (n / 2) + 1 = n by omega] at this
        exact this
  exact fun n h => this n n (Nat.le_refl _) h
theorem low_le : ∀ n, 1 ≤ n → 1 ≤ low n ∧ low n ≤ n := by
  refine bin_ind (fun m _ => ?_) (fun m h ih => ?_)
  · rw [low_odd]; omega
  · rw [low_even h]; omega
/-- one share on: twice as many digits at least -/
theorem low_next : ∀ n, 1 ≤ n → 2 * low n ≤ low (n + low n) := by
  refine bin_ind (fun m _ => ?_) (fun m h ih => ?_)
  · rw [low_odd, show 2 * m + 1 + 1 = 2 * (m + 1) by omega, low_even (by omega)]
    have := (low_le (m + 1) (by omega)).1
    omega
  · rw [low_even h, show 2 * m + 2 * low m = 2 * (m + low m) by omega, low_even (by omega)]
    omega
/-- between a share and the next one are shares that begin behind it -/
theorem low_between : ∀ n, 1 ≤ n → ∀ d, 1 ≤ d → d < low n → low (n + d) ≤ d := by
  refine bin_ind (fun m _ => ?_) (fun m h ih => ?_)
  · intro d h1 h2; rw [low_odd] at h2; omega
  · intro d h1 h2
    rw [low_even h] at h2
    rcases Nat.mod_two_eq_zero_or_one d with e | e
    · have := ih (d / 2) (by omega) (by omega)
      rw [show 2 * m + d = 2 * (m + d / 2) by omega, low_even (by omega)]
      omega
    · rw [show 2 * m + d = 2 * (m + d / 2) + 1 by omega, low_odd]
      exact h1
/-- two numbers that have together all digits have none in common -/
theorem and_rest : ∀ k m, m < 2 ^ k → m &&& (2 ^ k - 1 - m) = 0 := by
  intro k
  induction k with
  | zero => intro m h; rw [show m = 0 by omega]; simp
  | succ k ih =>
    intro m h
    rw [Nat.pow_succ] at h
    have h1 := ih (m / 2) (by omega)
    have h2 : 1 ≤ 2 ^ k := Nat.one_le_two_pow
    have e : (m &&& (2 ^ (k + 1) - 1 - m)) / 2 = 0 := by
      rw [Nat.and_div_two, show (2 ^ (k + 1) - 1 - m) / 2 = 2 ^ k - 1 - m / 2 by rw [Nat.pow_succ]; omega]
      exact h1
    have e2 : (m &&& (2 ^ (k + 1) - 1 - m)) % 2 = 0 := by
      rw [Nat.and_mod_two_pow (n := 1)]
      rcases Nat.mod_two_eq_zero_or_one m with g | g
      · rw [show m % 2 ^ 1 = 0 by simpa using g]; simp
      · rw [show (2 ^ (k + 1) - 1 - m) % 2 ^ 1 = 0 by rw [Nat.pow_succ]; simp; omega]; simp
    omega
theorem and_low : ∀ k n, 1 ≤ n → n < 2 ^ k → n &&& (2 ^ k - n) = low n := by
  intro k
  induction k with
  | zero => intro n h h'; simp at h'; omega
  | succ k ih =>
    intro n h h'
    rw [Nat.pow_succ] at h'
    have h2 : 1 ≤ 2 ^ k := Nat.one_le_two_pow
    have hd : (n &&& (2 ^ (k + 1) - n)) = 2 * ((n &&& (2 ^ (k + 1) - n)) / 2) + (n &&& (2 ^ (k + 1) - n)) % 2 := by omega
    rcases Nat.mod_two_eq_zero_or_one n with g | g
    · have e1 : (n &&& (2 ^ (k + 1) - n)) % 2 = 0 := by
        rw [Nat.and_mod_two_pow (n := 1), show n % 2 ^ 1 = 0 by simpa using g]; simp
      rw [hd, e1, Nat.and_div_two, show (2 ^ (k + 1) - n) / 2 = 2 ^ k - n / 2 by rw [Nat.pow_succ]; omega, ih (n / 2) (by omega) (by omega), Nat.add_zero, ← low_even (by omega), show 2 * (n / 2) = n by omega]
    · have e1 : (n &&& (2 ^ (k + 1) - n)) % 2 = 1 := by
        rw [Nat.and_mod_two_pow (n := 1), show n % 2 ^ 1 = 1 by simpa using g, show (2 ^ (k + 1) - n) % 2 ^ 1 = 1 by rw [Nat.pow_succ]; simp; omega]; rfl
      rw [hd, e1, Nat.and_div_two, show (2 ^ (k + 1) - n) / 2 = 2 ^ k - 1 - n / 2 by rw [Nat.pow_succ]; omega, and_rest k (n / 2) (by omega)]
      have := low_odd (n / 2)
      rw [show 2 * (n / 2) + 1 = n by omega] at this
      omega
/-- how many digits are not 0 -/
def pcs (n : Nat) : Nat := if h : n = 0 then 0 else pcs (n - low n) + 1
termination_by n
decreasing_by have := low_le n (by omega); omega
theorem pcs_zero : pcs 0 = 0 := by rw [pcs, dif_pos rfl]
theorem pcs_step {n : Nat} (h : 1 ≤ n) : pcs n = pcs (n - low n) + 1 := by rw [pcs, dif_neg (by omega)]
theorem pcs_even : ∀ d m, m ≤ d → pcs (2 * m) = pcs m := by
  intro d
  induction d with
  | zero => intro m h; rw [show m = 0 by omega]
  | succ d ih =>
    intro m h
    by_cases h0 : m = 0
    · rw [h0]
    · have h1 := low_le m (by omega)
      rw [pcs_step (by omega : 1 ≤ 2 * m), pcs_step (by omega : 1 ≤ m), low_even (by omega), show 2 * m - 2 * low m = 2 * (m - low m) by omega, ih (m - low m) (by omega)]
theorem pcs_odd (m : Nat) : pcs (2 * m + 1) = pcs m + 1 := by
  rw [pcs_step (by omega), low_odd, Nat.add_sub_cancel, pcs_even m m (Nat.le_refl _)]
theorem pcs_le : ∀ k n, n < 2 ^ k → pcs n ≤ k := by
  intro k
  induction k with
  | zero => intro n h; rw [show n = 0 by omega, pcs_zero]; exact Nat.le_refl _
  | succ k ih =>
    intro n h
    rw [Nat.pow_succ] at h
    have := ih (n / 2) (by omega)
    rcases Nat.mod_two_eq_zero_or_one n with e | e
    · rw [show n = 2 * (n / 2) by omega, pcs_even _ _ (Nat.le_refl _)]; omega
    · rw [show n = 2 * (n / 2) + 1 by omega, pcs_odd]; omega
theorem pcs_log {n M : Nat} (h : n + 1 ≤ M) (hM : M ≤ 9223372036854775807) : pcs n ≤ lgN M := by
  by_cases h0 : n = 0
  · rw [h0, pcs_zero]; exact Nat.zero_le _
  · exact pcs_le _ _ (by have := (lg_spec (n := M) (by omega) hM).2.2.1; omega)

/-- how many of the places ahead of n are there no more -/
def dc (al : Nat → Bool) : Nat → Nat
  | 0 => 0
  | n + 1 => dc al n + (if al n = true then 0 else 1)
theorem dc_step (al : Nat → Bool) (n : Nat) : dc al (n + 1) = dc al n + (if al n = true then 0 else 1) := rfl
theorem dc_mono (al : Nat → Bool) : ∀ d n, dc al n ≤ dc al (n + d) := by
  intro d
  induction d with
  | zero => intro n; exact Nat.le_refl _
  | succ d ih => intro n; have := ih n; rw [← Nat.add_assoc, dc_step]; omega
theorem dc_le (al : Nat → Bool) : ∀ n, dc al n ≤ n := by
  intro n
  induction n with
  | zero => exact Nat.le_refl _
  | succ n ih => rw [dc_step]; split <;> omega
theorem dc_none {al : Nat → Bool} : ∀ n, (∀ q, q < n → al q = true) → dc al n = 0 := by
  intro n
  induction n with
  | zero => intro _; rfl
  | succ n ih => intro h; rw [dc_step, ih (fun q hq => h q (by omega)), if_pos (h n (by omega))]
/-- one place less -/
theorem dc_less {al al' : Nat → Bool} {p : Nat} (ha : al p = true) (hal : ∀ q, al' q = (al q && decide (q ≠ p))) : ∀ n, dc al' n = dc al n + (if p < n then 1 else 0) := by
  intro n
  induction n with
  | zero => rfl
  | succ n ih =>
    rw [dc_step, dc_step, ih, hal]
    by_cases h : n = p
    · subst h; simp [ha]
    · have e : decide (n ≠ p) = true := by simp [h]
      rw [e, Bool.and_true]
      by_cases h1 : p < n
      · rw [if_pos h1, if_pos (show p < n + 1 by omega)]; omega
      · rw [if_neg h1, if_neg (show ¬ p < n + 1 by omega)]; omega
/-- those that are there from i on, ahead of k -/
theorem sg_count {α : Type} [BEq α] [LawfulBEq α] (SP A : List α) : ∀ d i, i + d ≤ SP.length → (sg SP A i (i + d)).length + (dc (alA SP A) (i + d) - dc (alA SP A) i) = d := by
  intro d
  induction d with
  | zero => intro i _; rw [sg_end SP A (by omega)]; simp
  | succ d ih =>
    intro i h
    have hs : SP[i]? = some SP[i] := List.getElem?_eq_getElem (by omega)
    have h1 := ih (i + 1) (by omega)
    rw [show i + 1 + d = i + (d + 1) by omega] at h1
    rw [sg_step SP A (by omega) hs]
    have h2 := dc_mono (alA SP A) d (i + 1)
    rw [show i + 1 + d = i + (d + 1) by omega] at h2
    have h3 := dc_step (alA SP A) i
    rw [alA_at hs] at h3
    by_cases g : SP[i] ∈ A
    · rw [if_pos g] at ⊢
      rw [if_pos (by simpa using g)] at h3
      rw [List.length_append, List.length_singleton]
      omega
    · rw [if_neg g] at ⊢
      rw [if_neg (by simpa using g)] at h3
      rw [List.nil_append]
      omega

/-- shares: of each place behind, how many of the last ones were dropped -/
structure FwI (N : Nat) (al : Nat → Bool) (F : List Nat) : Prop where
  len : F.length = N
  at_ : ∀ j x, F[j]? = some x → x + dc al (j + 1 - low (j + 1)) = dc al (j + 1)
theorem FwI.start {N : Nat} {al : Nat → Bool} (h : ∀ q, q < N → al q = true) : FwI N al (List.replicate N 0) where
  len := by simp
  at_ j x hx := by
    rw [List.getElem?_replicate] at hx
    split at hx
    · injection hx with hx
      rw [dc_none _ (fun q hq => h q (by omega)), dc_none _ (fun q hq => h q (by omega)), ← hx]
    · cases hx
/-- the shares ahead of n that have the place p are counted, those behind are not -/
structure FwA (N : Nat) (al : Nat → Bool) (p n : Nat) (F : List Nat) : Prop where
  len : F.length = N
  pos : 1 ≤ n
  low_ : n - low n ≤ p ∧ p < n
  at_ : ∀ j x, F[j]? = some x → x + dc al (j + 1 - low (j + 1)) = dc al (j + 1) + (if j + 1 < n ∧ j + 1 - low (j + 1) ≤ p ∧ p < j + 1 then 1 else 0)
theorem FwA.start {N : Nat} {al : Nat → Bool} {F : List Nat} (h : FwI N al F) (p : Nat) : FwA N al p (p + 1) F where
  len := h.len
  pos := by omega
  low_ := ⟨by have := low_le (p + 1) (by omega); omega, by omega⟩
  at_ j x hx := by rw [if_neg (by omega), Nat.add_zero]; exact h.at_ j x hx
theorem FwA.step {N : Nat} {al : Nat → Bool} {p n : Nat} {F : List Nat} {x : Nat} (h : FwA N al p n F) (hn : F[n - 1]? = some x) : FwA N al p (n + low n) (F.set (n - 1) (x + 1)) where
  len := by simp [h.len]
  pos := by have := h.pos; omega
  low_ := by
    have h1 := low_next n h.pos
    have h2 := h.low_
    have h3 := low_le n h.pos
    omega
  at_ j y hy := by
    have hp := h.pos
    have h2 := h.low_
    have h3 := low_le n h.pos
    rw [List.getElem?_set] at hy
    split at hy
    · rename_i e
      split at hy
      · injection hy with hy
        have := h.at_ (n - 1) x hn
        rw [← e, ← hy, show n - 1 + 1 = n by omega] at *
        rw [if_neg (by omega)] at this
        rw [if_pos (by omega)]
        omega
      · cases hy
    · rename_i e
      rw [h.at_ j y hy]
      congr 1
      by_cases g : j + 1 < n
      · by_cases g1 : j + 1 - low (j + 1) ≤ p ∧ p < j + 1
        · rw [if_pos ⟨g, g1⟩, if_pos ⟨by omega, g1⟩]
        · rw [if_neg (fun c => g1 c.2), if_neg (fun c => g1 c.2)]
      · rw [if_neg (fun c => g c.1), if_neg]
        rintro ⟨c1, c2, c3⟩
        have := low_between n hp (j + 1 - n) (by omega) (by omega)
        rw [show n + (j + 1 - n) = j + 1 by omega] at this
        omega
theorem FwA.done {N : Nat} {al al' : Nat → Bool} {p n : Nat} {F : List Nat} (h : FwA N al p n F) (hn : N < n) (ha : al p = true) (hal : ∀ q, al' q = (al q && decide (q ≠ p))) : FwI N al' F where
  len := h.len
  at_ j x hx := by
    have h1 := h.at_ j x hx
    have hj : j < N := by have := (List.getElem?_eq_some_iff.1 hx).1; rw [h.len] at this; exact this
    rw [dc_less ha hal, dc_less ha hal]
    have h2 := low_le (j + 1) (by omega)
    by_cases g1 : p < j + 1
    · by_cases g2 : j + 1 - low (j + 1) ≤ p
      · rw [if_pos ⟨by omega, g2, g1⟩] at h1
        rw [if_pos g1, if_neg (by omega)]
        omega
      · rw [if_neg (by omega)] at h1
        rw [if_pos g1, if_pos (by omega)]
        omega
    · rw [if_neg (by omega)] at h1
      rw [if_neg g1, if_neg (by omega)]
      omega
end Go.Proofs.YtaaiblhedanogaaGreat
