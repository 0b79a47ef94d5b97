/-
  Spans by their middles: plain lists, no program. No condition but those typed at each theorem.
-/
import Derived.Test.YtbpeoaceoefdpaaGreatMS3
namespace Go.Proofs.YtbpeoaceoefdpaaGreat.Iv
open Go.RowKit

/-- runs of places: al tells who is there (places count from 1 on); R has each run's first place and end, O tells of each place which run has it -/
structure LnI (m : Nat) (al : Nat → Bool) (R : List (Nat × Nat)) (O : List Nat) : Prop where
  lenR : R.length = m + 1
  lenO : O.length = m + 1
  run : ∀ p, p ≤ m → ∃ r f e, O[p]? = some r ∧ R[r]? = some (f, e) ∧ f ≤ p ∧ p < e ∧ e ≤ m + 1 ∧ (f = 0 ∨ al f = true) ∧ (∀ q, f < q → q < e → al q = false) ∧ (e = m + 1 ∨ al e = true)
  one : ∀ p q r r' f e e', p ≤ m → q ≤ m → O[p]? = some r → O[q]? = some r' → R[r]? = some (f, e) → R[r']? = some (f, e') → r = r'

theorem LnI.start (m : Nat) (al : Nat → Bool) (h : ∀ q, 1 ≤ q → q ≤ m → al q = true) : LnI m al ((List.range (m + 1)).map fun p => (p, p + 1)) (List.range (m + 1)) where
  lenR := by simp
  lenO := by simp
  run p hp := ⟨p, p, p + 1, List.getElem?_range (by omega), by rw [List.getElem?_map, List.getElem?_range (by omega)]; rfl, Nat.le_refl _, by omega, by omega, by
    rcases Nat.eq_zero_or_pos p with h0 | h0
    · exact .inl h0
    · exact .inr (h p h0 hp), fun q h1 h2 => by omega, by
    rcases Nat.eq_or_lt_of_le hp with h0 | h0
    · left; omega
    · right; exact h (p + 1) (by omega) h0⟩
  one p q r r' f e e' hp hq h1 h2 h3 h4 := by
    rw [List.getElem?_range (by omega)] at h1 h2
    injection h1 with h1; injection h2 with h2
    subst h1; subst h2
    rw [List.getElem?_map, List.getElem?_range (by omega)] at h3 h4
    simp at h3 h4
    omega
/-- a place that is there is the first of its run -/
theorem LnI.first {m : Nat} {al : Nat → Bool} {R : List (Nat × Nat)} {O : List Nat} (h : LnI m al R O) {p r f e : Nat} (hp : p ≤ m) (h0 : 1 ≤ p) (ho : O[p]? = some r) (hr : R[r]? = some (f, e)) : (f = p ↔ al p = true) := by
  obtain ⟨r', f', e', h1, h2, h3, h4, h5, h6, h7, h8⟩ := h.run p hp
  rw [h1] at ho; injection ho with ho; subst ho
  rw [h2] at hr; injection hr with hr; injection hr with hf he; subst hf; subst he
  constructor
  · intro hf; subst hf
    rcases h6 with h6 | h6
    · omega
    · exact h6
  · intro ha
    rcases Nat.eq_or_lt_of_le h3 with hf | hf
    · exact hf
    · rw [h7 p hf h4] at ha; cases ha
/-- two runs that have a place in common are the same -/
theorem LnI.same {al : Nat → Bool} {f e f' e' p : Nat} (h3 : f ≤ p) (h4 : p < e) (h6 : f = 0 ∨ al f = true) (h7 : ∀ q, f < q → q < e → al q = false) (h3' : f' ≤ p) (h4' : p < e') (h6' : f' = 0 ∨ al f' = true) (h7' : ∀ q, f' < q → q < e' → al q = false) : f = f' := by
  rcases Nat.lt_trichotomy f f' with h | h | h
  · rcases h6' with h6' | h6'
    · omega
    · rw [h7 f' h (by omega)] at h6'; cases h6'
  · exact h
  · rcases h6 with h6 | h6
    · omega
    · rw [h7' f h (by omega)] at h6; cases h6
/-- O with all places from a on, ahead of b, at the run k -/
def own (O : List Nat) (a b k : Nat) : List Nat := (List.range O.length).map fun p => if a ≤ p ∧ p < b then k else O.getD p 0
theorem own_len (O : List Nat) (a b k : Nat) : (own O a b k).length = O.length := by simp [own]
theorem own_get (O : List Nat) (a b k p : Nat) (hp : p < O.length) : (own O a b k)[p]? = some (if a ≤ p ∧ p < b then k else O.getD p 0) := by
  unfold own; rw [List.getElem?_map, List.getElem?_range hp]; rfl
theorem own_none (O : List Nat) (a k : Nat) : own O a a k = O := by
  apply List.ext_getElem?
  intro p
  by_cases hp : p < O.length
  · rw [own_get _ _ _ _ _ hp, if_neg (by omega), List.getD_eq_getElem?_getD, List.getElem?_eq_getElem hp]; rfl
  · rw [List.getElem?_eq_none (by rw [own_len]; omega), List.getElem?_eq_none (by omega)]
theorem own_step (O : List Nat) (a b k : Nat) (hb : b < O.length) (hab : a ≤ b) : (own O a b k).set b k = own O a (b + 1) k := by
  apply List.ext_getElem?
  intro p
  by_cases hp : p < O.length
  · rw [List.getElem?_set, own_get _ _ _ _ _ hp, own_get _ _ _ _ _ hp]
    by_cases h : b = p
    · subst h
      rw [if_pos rfl, if_pos (by rw [own_len]; exact hb), if_pos (by omega)]
    · rw [if_neg h]
      by_cases h1 : a ≤ p ∧ p < b
      · rw [if_pos h1, if_pos (by omega)]
      · rw [if_neg h1, if_neg (by omega)]
  · rw [List.getElem?_eq_none (by simp [own_len]; omega), List.getElem?_eq_none (by rw [own_len]; omega)]

/-- what join leaves: the run of place goes to that of the one ahead of it (or the other way round) -/
theorem LnI.join {m : Nat} {al : Nat → Bool} {R : List (Nat × Nat)} {O : List Nat} (h : LnI m al R O) {p k l fk ek fl el : Nat} (h0 : 1 ≤ p) (hp : p ≤ m) (ha : al p = true)
    (hk : O[p - 1]? = some k) (hl : O[p]? = some l) (hrk : R[k]? = some (fk, ek)) (hrl : R[l]? = some (fl, el)) :
    ek = p ∧ fl = p ∧ fk ≤ p - 1 ∧ p < el ∧ el ≤ m + 1 ∧ ∀ (al' : Nat → Bool), (∀ q, al' q = (al q && decide (q ≠ p))) → LnI m al' (R.set k (fk, el)) (own O fl el k) ∧ LnI m al' (R.set l (fk, el)) (own O fk ek l) := by
  obtain ⟨k', fk', ek', a1, a2, a3, a4, a5, a6, a7, a8⟩ := h.run (p - 1) (by omega)
  rw [a1] at hk; injection hk with hk; subst hk
  rw [a2] at hrk; injection hrk with hrk; injection hrk with e1 e2; subst e1; subst e2
  obtain ⟨l', fl', el', b1, b2, b3, b4, b5, b6, b7, b8⟩ := h.run p hp
  rw [b1] at hl; injection hl with hl; subst hl
  rw [b2] at hrl; injection hrl with hrl; injection hrl with e1 e2; subst e1; subst e2
  have hek : ek' = p := by
    rcases Nat.lt_or_ge p ek' with g | g
    · rw [a7 p (by omega) g] at ha; cases ha
    · omega
  have hfl : fl' = p := by
    rcases Nat.eq_or_lt_of_le b3 with g | g
    · exact g
    · rw [b7 p g b4] at ha; cases ha
  subst hek; subst hfl
  have hkl : k' ≠ l' := by
    intro e; rw [e, b2] at a2; injection a2 with a2; injection a2 with a2 _; omega
  have hkR : k' < R.length := (List.getElem?_eq_some_iff.1 a2).1
  have hlR : l' < R.length := (List.getElem?_eq_some_iff.1 b2).1
  refine ⟨rfl, rfl, a3, b4, b5, fun al' hal => ?_⟩
  have hno : ∀ q, fk' < q → q < el' → al' q = false := fun q h1 h2 => by
    rw [hal]
    rcases Nat.lt_trichotomy q fl' with g | g | g
    · rw [a7 q h1 g]; rfl
    · subst g; simp
    · rw [b7 q g h2]; rfl
  have hfst : fk' = 0 ∨ al' fk' = true := by
    rcases a6 with g | g
    · exact .inl g
    · right; rw [hal, g]; simp; omega
  have hend : el' = m + 1 ∨ al' el' = true := by
    rcases b8 with g | g
    · exact .inl g
    · right; rw [hal, g]; simp; omega
  -- of any other place
  have other : ∀ q, q ≤ m → ∃ r f e, O[q]? = some r ∧ R[r]? = some (f, e) ∧ f ≤ q ∧ q < e ∧ e ≤ m + 1 ∧
      ((r = k' ∧ f = fk' ∧ e = fl') ∨ (r = l' ∧ f = fl' ∧ e = el') ∨ (r ≠ k' ∧ r ≠ l' ∧ ¬ (fk' ≤ q ∧ q < el') ∧ f ≠ fk' ∧ (f = 0 ∨ al' f = true) ∧ (∀ q, f < q → q < e → al' q = false) ∧ (e = m + 1 ∨ al' e = true))) := by
    intro q hq
    obtain ⟨r, f, e, c1, c2, c3, c4, c5, c6, c7, c8⟩ := h.run q hq
    refine ⟨r, f, e, c1, c2, c3, c4, c5, ?_⟩
    by_cases hrk : r = k'
    · subst hrk; rw [a2] at c2; injection c2 with c2; injection c2 with g1 g2; exact .inl ⟨rfl, g1.symm, g2.symm⟩
    · by_cases hrl : r = l'
      · subst hrl; rw [b2] at c2; injection c2 with c2; injection c2 with g1 g2; exact .inr (.inl ⟨rfl, g1.symm, g2.symm⟩)
      · have hfk : f ≠ fk' := fun g => hrk (h.one q (fl' - 1) r k' f e fl' hq (by omega) c1 a1 c2 (by rw [g]; exact a2))
        have hfl : f ≠ fl' := fun g => hrl (h.one q fl' r l' f e el' hq hp c1 b1 c2 (by rw [g]; exact b2))
        refine .inr (.inr ⟨hrk, hrl, ?_, hfk, ?_, ?_, ?_⟩)
        · rintro ⟨g1, g2⟩
          rcases Nat.lt_or_ge q fl' with g | g
          · exact hfk (LnI.same (al := al) c3 c4 c6 c7 g1 g a6 a7)
          · exact hfl (LnI.same (al := al) c3 c4 c6 c7 g g2 (.inr ha) b7)
        · rcases c6 with g | g
          · exact .inl g
          · right; rw [hal, g]; simp; exact hfl
        · intro x h1 h2; rw [hal, c7 x h1 h2]; rfl
        · rcases c8 with g | g
          · exact .inl g
          · by_cases hep : e = fl'
            · exfalso
              subst hep
              exact hfk (LnI.same (al := al) (p := e - 1) (by omega) (by omega) c6 c7 a3 (by omega) a6 a7)
            · right; rw [hal, g]; simp; exact hep
  constructor
  · have key : ∀ q, q ≤ m → ∃ r f e, (own O fl' el' k')[q]? = some r ∧ (R.set k' (fk', el'))[r]? = some (f, e) ∧ f ≤ q ∧ q < e ∧ e ≤ m + 1 ∧ (f = 0 ∨ al' f = true) ∧ (∀ q, f < q → q < e → al' q = false) ∧ (e = m + 1 ∨ al' e = true) ∧ (r = k' ∧ f = fk' ∨ r ≠ k' ∧ r ≠ l' ∧ f ≠ fk' ∧ O[q]? = some r ∧ R[r]? = some (f, e)) := by
      intro q hq
      obtain ⟨r, f, e, c1, c2, c3, c4, c5, c6⟩ := other q hq
      have hg := own_get O fl' el' k' q (by rw [h.lenO]; omega)
      rw [List.getD_eq_getElem?_getD, c1] at hg
      rcases c6 with ⟨rfl, rfl, rfl⟩ | ⟨rfl, rfl, rfl⟩ | ⟨g1, g2, g3, g4, g5, g6, g7⟩
      · rw [if_neg (by omega)] at hg
        exact ⟨r, f, el', hg, by rw [List.getElem?_set_self hkR], c3, by omega, b5, hfst, hno, hend, .inl ⟨rfl, rfl⟩⟩
      · rw [if_pos (by omega)] at hg
        exact ⟨k', fk', e, hg, by rw [List.getElem?_set_self hkR], by omega, c4, b5, hfst, hno, hend, .inl ⟨rfl, rfl⟩⟩
      · rw [if_neg (by omega)] at hg
        exact ⟨r, f, e, hg, by rw [List.getElem?_set_ne (Ne.symm g1)]; exact c2, c3, c4, c5, g5, g6, g7, .inr ⟨g1, g2, g4, c1, c2⟩⟩
    refine ⟨by simp [h.lenR], by rw [own_len, h.lenO], fun q hq => ?_, fun q q' r r' f e e' hq hq' o1 o2 r1 r2 => ?_⟩
    · obtain ⟨r, f, e, d1, d2, d3, d4, d5, d6, d7, d8, -⟩ := key q hq
      exact ⟨r, f, e, d1, d2, d3, d4, d5, d6, d7, d8⟩
    · obtain ⟨x, y, z, d1, d2, -, -, -, -, -, -, d9⟩ := key q hq
      obtain ⟨x', y', z', d1', d2', -, -, -, -, -, -, d9'⟩ := key q' hq'
      rw [d1] at o1; injection o1 with o1; subst o1
      rw [d1'] at o2; injection o2 with o2; subst o2
      rw [d2] at r1; injection r1 with r1; injection r1 with i1 i2; subst i1
      rw [d2'] at r2; injection r2 with r2; injection r2 with i1 i2; subst i1
      rcases d9 with ⟨j1, j2⟩ | ⟨j1, j2, j3, j4, j5⟩
      · rcases d9' with ⟨j1', j2'⟩ | ⟨j1', j2', j3', -, -⟩
        · rw [j1, j1']
        · exact absurd j2 j3'
      · rcases d9' with ⟨j1', j2'⟩ | ⟨j1', j2', j3', j4', j5'⟩
        · exact absurd j2' j3
        · exact h.one q q' x x' y' z z' hq hq' j4 j4' j5 j5'
  · have key : ∀ q, q ≤ m → ∃ r f e, (own O fk' fl' l')[q]? = some r ∧ (R.set l' (fk', el'))[r]? = some (f, e) ∧ f ≤ q ∧ q < e ∧ e ≤ m + 1 ∧ (f = 0 ∨ al' f = true) ∧ (∀ q, f < q → q < e → al' q = false) ∧ (e = m + 1 ∨ al' e = true) ∧ (r = l' ∧ f = fk' ∨ r ≠ k' ∧ r ≠ l' ∧ f ≠ fk' ∧ O[q]? = some r ∧ R[r]? = some (f, e)) := by
      intro q hq
      obtain ⟨r, f, e, c1, c2, c3, c4, c5, c6⟩ := other q hq
      have hg := own_get O fk' fl' l' q (by rw [h.lenO]; omega)
      rw [List.getD_eq_getElem?_getD, c1] at hg
      rcases c6 with ⟨rfl, rfl, rfl⟩ | ⟨rfl, rfl, rfl⟩ | ⟨g1, g2, g3, g4, g5, g6, g7⟩
      · rw [if_pos (by omega)] at hg
        exact ⟨l', f, el', hg, by rw [List.getElem?_set_self hlR], c3, by omega, b5, hfst, hno, hend, .inl ⟨rfl, rfl⟩⟩
      · rw [if_neg (by omega)] at hg
        exact ⟨r, fk', e, hg, by rw [List.getElem?_set_self hlR], by omega, c4, b5, hfst, hno, hend, .inl ⟨rfl, rfl⟩⟩
      · rw [if_neg (by omega)] at hg
        exact ⟨r, f, e, hg, by rw [List.getElem?_set_ne (Ne.symm g2)]; exact c2, c3, c4, c5, g5, g6, g7, .inr ⟨g1, g2, g4, c1, c2⟩⟩
    refine ⟨by simp [h.lenR], by rw [own_len, h.lenO], fun q hq => ?_, fun q q' r r' f e e' hq hq' o1 o2 r1 r2 => ?_⟩
    · obtain ⟨r, f, e, d1, d2, d3, d4, d5, d6, d7, d8, -⟩ := key q hq
      exact ⟨r, f, e, d1, d2, d3, d4, d5, d6, d7, d8⟩
    · obtain ⟨x, y, z, d1, d2, -, -, -, -, -, -, d9⟩ := key q hq
      obtain ⟨x', y', z', d1', d2', -, -, -, -, -, -, d9'⟩ := key q' hq'
      rw [d1] at o1; injection o1 with o1; subst o1
      rw [d1'] at o2; injection o2 with o2; subst o2
      rw [d2] at r1; injection r1 with r1; injection r1 with i1 i2; subst i1
      rw [d2'] at r2; injection r2 with r2; injection r2 with i1 i2; subst i1
      rcases d9 with ⟨j1, j2⟩ | ⟨j1, j2, j3, j4, j5⟩
      · rcases d9' with ⟨j1', j2'⟩ | ⟨j1', j2', j3', -, -⟩
        · rw [j1, j1']
        · exact absurd j2 j3'
      · rcases d9' with ⟨j1', j2'⟩ | ⟨j1', j2', j3', j4', j5'⟩
        · exact absurd j2' j3
        · exact h.one q q' x x' y' z z' hq hq' j4 j4' j5 j5'
end Go.Proofs.YtbpeoaceoefdpaaGreat.Iv
