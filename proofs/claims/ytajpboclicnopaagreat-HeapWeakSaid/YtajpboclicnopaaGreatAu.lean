/-
  Places in a row, of which some are there no more, kept in runs; what of a list is there, from a place on, ahead of another one: plain lists, no program. No condition but those typed at each theorem.
-/
import Derived.Test.YtajpboclicnopaaGreatMGen
namespace Go.Proofs.YtajpboclicnopaaGreat
open Go.RowKit
/-- runs of places from 0 to m: al tells who is there (m always is); R has each run's first and last place, which alone is there, O tells of each place which run has it -/
structure RnI (m : Nat) (al : Nat → Bool) (R : List (Nat × Nat)) (O : List Nat) : Prop where
  lenR : R.length = m + 1
  lenO : O.length = m + 1
  run : ∀ p, p ≤ m → ∃ r f e, O[p]? = some r ∧ R[r]? = some (f, e) ∧ f ≤ p ∧ p ≤ e ∧ e ≤ m ∧ al e = true ∧ (∀ q, f ≤ q → q < e → al q = false) ∧ (f = 0 ∨ al (f - 1) = true)
  one : ∀ p q r r' f f' e, p ≤ m → q ≤ m → O[p]? = some r → O[q]? = some r' → R[r]? = some (f, e) → R[r']? = some (f', e) → r = r'
theorem RnI.start (m : Nat) (al : Nat → Bool) (h : ∀ q, q ≤ m → al q = true) : RnI m al ((List.range (m + 1)).map fun p => (p, p)) (List.range (m + 1)) where
  lenR := by simp
  lenO := by simp
  run p hp := ⟨p, p, p, List.getElem?_range (by omega), by rw [List.getElem?_map, List.getElem?_range (by omega)]; rfl, Nat.le_refl _, Nat.le_refl _, hp, h p hp, fun q h1 h2 => by omega, by
    rcases Nat.eq_zero_or_pos p with h0 | h0
    · exact .inl h0
    · exact .inr (h (p - 1) (by omega))⟩
  one p q r r' f f' e hp hq h1 h2 h3 h4 := by
    rw [List.getElem?_range (by omega)] at h1 h2
    injection h1 with h1; injection h2 with h2
    subst h1; subst h2
    rw [List.getElem?_map, List.getElem?_range (by omega)] at h3 h4
    simp at h3 h4
    omega
/-- a place that is there is the last of its run -/
theorem RnI.last {m : Nat} {al : Nat → Bool} {R : List (Nat × Nat)} {O : List Nat} (h : RnI m al R O) {p r f e : Nat} (hp : p ≤ m) (ho : O[p]? = some r) (hr : R[r]? = some (f, e)) : (e = p ↔ al p = true) := by
  obtain ⟨r', f', e', h1, h2, h3, h4, h5, h6, h7, h8⟩ := h.run p hp
  rw [h1] at ho; injection ho with ho; subst ho
  rw [h2] at hr; injection hr with hr; injection hr with hf he; subst hf; subst he
  constructor
  · intro hf; subst hf; exact h6
  · intro ha
    rcases Nat.eq_or_lt_of_le h4 with hf | hf
    · exact hf.symm
    · rw [h7 p h3 hf] at ha; cases ha
/-- two runs that have a place in common end alike -/
theorem RnI.same {al : Nat → Bool} {f e f' e' p : Nat} (h3 : f ≤ p) (h4 : p ≤ e) (h6 : al e = true) (h7 : ∀ q, f ≤ q → q < e → al q = false) (h3' : f' ≤ p) (h4' : p ≤ e') (h6' : al e' = true) (h7' : ∀ q, f' ≤ q → q < e' → al q = false) : e = e' := by
  rcases Nat.lt_trichotomy e e' with h | h | h
  · rw [h7' e (by omega) h] at h6; cases h6
  · exact h
  · rw [h7 e' (by omega) h] at h6'; cases h6'
/-- O with all places from a on, ahead of b, at the run k -/
def own (O : List Nat) (a b k : Nat) : List Nat := (List.range O.length).map fun p => if a ≤ p ∧ p < b then k else O.getD p 0
theorem own_len (O : List Nat) (a b k : Nat) : (own O a b k).length = O.length := by simp [own]
theorem own_get (O : List Nat) (a b k p : Nat) (hp : p < O.length) : (own O a b k)[p]? = some (if a ≤ p ∧ p < b then k else O.getD p 0) := by
  unfold own; rw [List.getElem?_map, List.getElem?_range hp]; rfl
theorem own_none (O : List Nat) (a k : Nat) : own O a a k = O := by
  apply List.ext_getElem?
  intro p
  by_cases hp : p < O.length
  · rw [own_get _ _ _ _ _ hp, if_neg (by omega), List.getD_eq_getElem?_getD, List.getElem?_eq_getElem hp]; rfl
  · rw [List.getElem?_eq_none (by rw [own_len]; omega), List.getElem?_eq_none (by omega)]
theorem own_step (O : List Nat) (a b k : Nat) (hb : b < O.length) (hab : a ≤ b) : (own O a b k).set b k = own O a (b + 1) k := by
  apply List.ext_getElem?
  intro p
  by_cases hp : p < O.length
  · rw [List.getElem?_set, own_get _ _ _ _ _ hp, own_get _ _ _ _ _ hp]
    by_cases h : b = p
    · subst h
      rw [if_pos rfl, if_pos (by rw [own_len]; exact hb), if_pos (by omega)]
    · rw [if_neg h]
      by_cases h1 : a ≤ p ∧ p < b
      · rw [if_pos h1, if_pos (by omega)]
      · rw [if_neg h1, if_neg (by omega)]
  · rw [List.getElem?_eq_none (by simp [own_len]; omega), List.getElem?_eq_none (by rw [own_len]; omega)]
/-- what a drop leaves: the run of the place goes to that of the one behind it (or the other way round) -/
theorem RnI.join {m : Nat} {al : Nat → Bool} {R : List (Nat × Nat)} {O : List Nat} (h : RnI m al R O) {p k l fk ek fl el : Nat} (hp : p < m) (ha : al p = true)
    (hk : O[p]? = some k) (hl : O[p + 1]? = some l) (hrk : R[k]? = some (fk, ek)) (hrl : R[l]? = some (fl, el)) :
    ek = p ∧ fl = p + 1 ∧ fk ≤ p ∧ p + 1 ≤ el ∧ el ≤ m ∧ ∀ (al' : Nat → Bool), (∀ q, al' q = (al q && decide (q ≠ p))) → RnI m al' (R.set l (fk, el)) (own O fk (p + 1) l) ∧ RnI m al' (R.set k (fk, el)) (own O (p + 1) (el + 1) k) := by
  obtain ⟨k', fk', ek', a1, a2, a3, a4, a5, a6, a7, a8⟩ := h.run p (by omega)
  rw [a1] at hk; injection hk with hk; subst hk
  rw [a2] at hrk; injection hrk with hrk; injection hrk with e1 e2; subst e1; subst e2
  obtain ⟨l', fl', el', b1, b2, b3, b4, b5, b6, b7, b8⟩ := h.run (p + 1) (by omega)
  rw [b1] at hl; injection hl with hl; subst hl
  rw [b2] at hrl; injection hrl with hrl; injection hrl with e1 e2; subst e1; subst e2
  have hek : ek' = p := by
    rcases Nat.eq_or_lt_of_le a4 with g | g
    · exact g.symm
    · rw [a7 p a3 g] at ha; cases ha
  have hfl : fl' = p + 1 := by
    rcases Nat.eq_or_lt_of_le b3 with g | g
    · exact g
    · rw [b7 p (by omega) (by omega)] at ha; cases ha
  subst hek; subst hfl
  have hkl : k' ≠ l' := by
    intro e; rw [e, b2] at a2; injection a2 with a2; injection a2 with a2 _; omega
  have hkR : k' < R.length := (List.getElem?_eq_some_iff.1 a2).1
  have hlR : l' < R.length := (List.getElem?_eq_some_iff.1 b2).1
  refine ⟨rfl, rfl, a3, b4, b5, fun al' hal => ?_⟩
  have hno : ∀ q, fk' ≤ q → q < el' → al' q = false := fun q h1 h2 => by
    rw [hal]
    rcases Nat.lt_trichotomy q ek' with g | g | g
    · rw [a7 q h1 g]; rfl
    · subst g; simp
    · rw [b7 q g h2]; rfl
  have hfst : fk' = 0 ∨ al' (fk' - 1) = true := by
    rcases Nat.eq_zero_or_pos fk' with g | g
    · exact .inl g
    · rcases a8 with g' | g'
      · exact .inl g'
      · right; rw [hal, g']; simp; omega
  have hend : al' el' = true := by rw [hal, b6]; simp; omega
  -- of any other place
  have other : ∀ q, q ≤ m → ∃ r f e, O[q]? = some r ∧ R[r]? = some (f, e) ∧ f ≤ q ∧ q ≤ e ∧ e ≤ m ∧
      ((r = k' ∧ f = fk' ∧ e = ek') ∨ (r = l' ∧ f = ek' + 1 ∧ e = el') ∨ (r ≠ k' ∧ r ≠ l' ∧ ¬ (fk' ≤ q ∧ q ≤ el') ∧ e ≠ el' ∧ al' e = true ∧ (∀ q, f ≤ q → q < e → al' q = false) ∧ (f = 0 ∨ al' (f - 1) = true))) := by
    intro q hq
    obtain ⟨r, f, e, c1, c2, c3, c4, c5, c6, c7, c8⟩ := h.run q hq
    refine ⟨r, f, e, c1, c2, c3, c4, c5, ?_⟩
    by_cases hrk : r = k'
    · subst hrk; rw [a2] at c2; injection c2 with c2; injection c2 with g1 g2; exact .inl ⟨rfl, g1.symm, g2.symm⟩
    · by_cases hrl : r = l'
      · subst hrl; rw [b2] at c2; injection c2 with c2; injection c2 with g1 g2; exact .inr (.inl ⟨rfl, g1.symm, g2.symm⟩)
      · have hek : e ≠ ek' := fun g => hrk (h.one q ek' r k' f fk' e hq (by omega) c1 a1 c2 (by rw [g]; exact a2))
        have hel : e ≠ el' := fun g => hrl (h.one q (ek' + 1) r l' f (ek' + 1) e hq (by omega) c1 b1 c2 (by rw [g]; exact b2))
        refine .inr (.inr ⟨hrk, hrl, ?_, hel, ?_, ?_, ?_⟩)
        · rintro ⟨g1, g2⟩
          rcases Nat.lt_or_ge ek' q with g | g
          · exact hel (RnI.same (al := al) c3 c4 c6 c7 (by omega) g2 b6 b7)
          · exact hek (RnI.same (al := al) c3 c4 c6 c7 g1 g ha a7)
        · rw [hal, c6]; simp; exact hek
        · intro x h1 h2; rw [hal, c7 x h1 h2]; rfl
        · rcases c8 with g | g
          · exact .inl g
          · by_cases hfp : f = ek' + 1
            · exfalso
              exact hel (RnI.same (al := al) (p := ek' + 1) (by omega) (by omega) c6 c7 (by omega) b4 b6 b7)
            · rcases Nat.eq_zero_or_pos f with g' | g'
              · exact .inl g'
              · right; rw [hal, g]; simp; omega
  constructor
  · have key : ∀ q, q ≤ m → ∃ r f e, (own O fk' (ek' + 1) l')[q]? = some r ∧ (R.set l' (fk', el'))[r]? = some (f, e) ∧ f ≤ q ∧ q ≤ e ∧ e ≤ m ∧ al' e = true ∧ (∀ q, f ≤ q → q < e → al' q = false) ∧ (f = 0 ∨ al' (f - 1) = true) ∧ (r = l' ∧ e = el' ∨ r ≠ l' ∧ r ≠ k' ∧ e ≠ el' ∧ O[q]? = some r ∧ R[r]? = some (f, e)) := by
      intro q hq
      obtain ⟨r, f, e, c1, c2, c3, c4, c5, c6⟩ := other q hq
      have hg := own_get O fk' (ek' + 1) l' q (by rw [h.lenO]; omega)
      rw [List.getD_eq_getElem?_getD, c1] at hg
      rcases c6 with ⟨rfl, rfl, rfl⟩ | ⟨rfl, rfl, rfl⟩ | ⟨g1, g2, g3, g4, g5, g6, g7⟩
      · rw [if_pos (by omega)] at hg
        exact ⟨l', f, el', hg, by rw [List.getElem?_set_self hlR], c3, by omega, b5, hend, hno, hfst, .inl ⟨rfl, rfl⟩⟩
      · rw [if_neg (by omega)] at hg
        exact ⟨r, fk', e, hg, by rw [List.getElem?_set_self hlR], by omega, c4, b5, hend, hno, hfst, .inl ⟨rfl, rfl⟩⟩
      · rw [if_neg (by omega)] at hg
        exact ⟨r, f, e, hg, by rw [List.getElem?_set_ne (Ne.symm g2)]; exact c2, c3, c4, c5, g5, g6, g7, .inr ⟨g2, g1, g4, c1, c2⟩⟩
    refine ⟨by simp [h.lenR], by rw [own_len, h.lenO], fun q hq => ?_, fun q q' r r' f f' e hq hq' o1 o2 r1 r2 => ?_⟩
    · obtain ⟨r, f, e, d1, d2, d3, d4, d5, d6, d7, d8, -⟩ := key q hq
      exact ⟨r, f, e, d1, d2, d3, d4, d5, d6, d7, d8⟩
    · obtain ⟨x, y, z, d1, d2, -, -, -, -, -, -, d9⟩ := key q hq
      obtain ⟨x', y', z', d1', d2', -, -, -, -, -, -, d9'⟩ := key q' hq'
      rw [d1] at o1; injection o1 with o1; subst o1
      rw [d1'] at o2; injection o2 with o2; subst o2
      rw [d2] at r1; injection r1 with r1; injection r1 with i1 i2; subst i2
      rw [d2'] at r2; injection r2 with r2; injection r2 with i1' i2'; subst i2'
      rcases d9 with ⟨j1, j2⟩ | ⟨j1, j2, j3, j4, j5⟩
      · rcases d9' with ⟨j1', j2'⟩ | ⟨j1', j2', j3', -, -⟩
        · rw [j1, j1']
        · exact absurd j2 j3'
      · rcases d9' with ⟨j1', j2'⟩ | ⟨j1', j2', j3', j4', j5'⟩
        · exact absurd j2' j3
        · exact h.one q q' x x' y y' z' hq hq' j4 j4' j5 j5'
  · have key : ∀ q, q ≤ m → ∃ r f e, (own O (ek' + 1) (el' + 1) k')[q]? = some r ∧ (R.set k' (fk', el'))[r]? = some (f, e) ∧ f ≤ q ∧ q ≤ e ∧ e ≤ m ∧ al' e = true ∧ (∀ q, f ≤ q → q < e → al' q = false) ∧ (f = 0 ∨ al' (f - 1) = true) ∧ (r = k' ∧ e = el' ∨ r ≠ k' ∧ r ≠ l' ∧ e ≠ el' ∧ O[q]? = some r ∧ R[r]? = some (f, e)) := by
      intro q hq
      obtain ⟨r, f, e, c1, c2, c3, c4, c5, c6⟩ := other q hq
      have hg := own_get O (ek' + 1) (el' + 1) k' q (by rw [h.lenO]; omega)
      rw [List.getD_eq_getElem?_getD, c1] at hg
      rcases c6 with ⟨rfl, rfl, rfl⟩ | ⟨rfl, rfl, rfl⟩ | ⟨g1, g2, g3, g4, g5, g6, g7⟩
      · rw [if_neg (by omega)] at hg
        exact ⟨r, f, el', hg, by rw [List.getElem?_set_self hkR], c3, by omega, b5, hend, hno, hfst, .inl ⟨rfl, rfl⟩⟩
      · rw [if_pos (by omega)] at hg
        exact ⟨k', fk', e, hg, by rw [List.getElem?_set_self hkR], by omega, c4, b5, hend, hno, hfst, .inl ⟨rfl, rfl⟩⟩
      · rw [if_neg (by omega)] at hg
        exact ⟨r, f, e, hg, by rw [List.getElem?_set_ne (Ne.symm g1)]; exact c2, c3, c4, c5, g5, g6, g7, .inr ⟨g1, g2, g4, c1, c2⟩⟩
    refine ⟨by simp [h.lenR], by rw [own_len, h.lenO], fun q hq => ?_, fun q q' r r' f f' e hq hq' o1 o2 r1 r2 => ?_⟩
    · obtain ⟨r, f, e, d1, d2, d3, d4, d5, d6, d7, d8, -⟩ := key q hq
      exact ⟨r, f, e, d1, d2, d3, d4, d5, d6, d7, d8⟩
    · obtain ⟨x, y, z, d1, d2, -, -, -, -, -, -, d9⟩ := key q hq
      obtain ⟨x', y', z', d1', d2', -, -, -, -, -, -, d9'⟩ := key q' hq'
      rw [d1] at o1; injection o1 with o1; subst o1
      rw [d1'] at o2; injection o2 with o2; subst o2
      rw [d2] at r1; injection r1 with r1; injection r1 with i1 i2; subst i2
      rw [d2'] at r2; injection r2 with r2; injection r2 with i1' i2'; subst i2'
      rcases d9 with ⟨j1, j2⟩ | ⟨j1, j2, j3, j4, j5⟩
      · rcases d9' with ⟨j1', j2'⟩ | ⟨j1', j2', j3', -, -⟩
        · rw [j1, j1']
        · exact absurd j2 j3'
      · rcases d9' with ⟨j1', j2'⟩ | ⟨j1', j2', j3', j4', j5'⟩
        · exact absurd j2' j3
        · exact h.one q q' x x' y y' z' hq hq' j4 j4' j5 j5'
section
variable {α : Type} [BEq α] [LawfulBEq α]
/-- those of a line that are there, from the place i on, ahead of k -/
def sg (SP A : List α) (i k : Nat) : List α := ((SP.drop i).take (k - i)).filter (fun s => decide (s ∈ A))
/-- who is there, by places -/
def alA (SP A : List α) (q : Nat) : Bool := match SP[q]? with
  | some s => decide (s ∈ A)
  | none => true
theorem alA_at {SP A : List α} {q : Nat} {s : α} (h : SP[q]? = some s) : alA SP A q = decide (s ∈ A) := by unfold alA; rw [h]
theorem alA_end {SP A : List α} {q : Nat} (h : SP.length ≤ q) : alA SP A q = true := by unfold alA; rw [List.getElem?_eq_none h]
theorem sg_end (SP A : List α) {i k : Nat} (h : k ≤ i) : sg SP A i k = [] := by unfold sg; rw [show k - i = 0 by omega]; simp
theorem sg_step (SP A : List α) {i k : Nat} {s : α} (h : i < k) (hs : SP[i]? = some s) : sg SP A i k = (if s ∈ A then [s] else []) ++ sg SP A (i + 1) k := by
  unfold sg
  obtain ⟨d, hd⟩ : ∃ d, k - i = d + 1 := ⟨k - i - 1, by omega⟩
  have hi : i < SP.length := (List.getElem?_eq_some_iff.1 hs).1
  rw [hd, show k - (i + 1) = d by omega, List.drop_eq_getElem_cons hi, List.take_succ_cons, List.filter_cons]
  have : SP[i] = s := (List.getElem?_eq_some_iff.1 hs).2
  rw [this]
  by_cases g : s ∈ A <;> simp [g]
theorem sg_skip (SP A : List α) : ∀ d i k, i + d ≤ SP.length → (∀ q, i ≤ q → q < i + d → alA SP A q = false) → i + d ≤ k → sg SP A i k = sg SP A (i + d) k := by
  intro d
  induction d with
  | zero => intro i k _ _ _; rfl
  | succ d ih =>
    intro i k h1 h2 h3
    have hs : SP[i]? = some SP[i] := List.getElem?_eq_getElem (by omega)
    have h0 := h2 i (Nat.le_refl _) (by omega)
    rw [alA_at hs] at h0
    simp at h0
    rw [sg_step SP A (by omega) hs, if_neg h0, List.nil_append, ih (i + 1) k (by omega) (fun q g1 g2 => h2 q (by omega) (by omega)) (by omega)]
    congr 1; omega
/-- e is the first place from i on that is there (the end always is) -/
theorem sg_next (SP A : List α) {i e k : Nat} (h1 : i ≤ e) (h2 : ∀ q, i ≤ q → q < e → alA SP A q = false) (h3 : alA SP A e = true) (he : e ≤ SP.length) (hk : k ≤ SP.length) :
    (e < k → ∃ s, SP[e]? = some s ∧ s ∈ A ∧ sg SP A i k = s :: sg SP A (e + 1) k) ∧ (k ≤ e → sg SP A i k = []) := by
  constructor
  · intro hek
    have hs : SP[e]? = some SP[e] := List.getElem?_eq_getElem (by omega)
    rw [alA_at hs] at h3
    simp at h3
    refine ⟨SP[e], hs, h3, ?_⟩
    have := sg_skip SP A (e - i) i k (by omega) (fun x g1 g2 => h2 x g1 (by omega)) (by omega)
    rw [this, show i + (e - i) = e by omega, sg_step SP A hek hs, if_pos h3]
    rfl
  · intro hke
    by_cases hik : i < k
    · have := sg_skip SP A (k - i) i k (by omega) (fun x g1 g2 => h2 x g1 (by omega)) (by omega)
      rw [this, sg_end SP A (by omega)]
    · exact sg_end SP A (by omega)
theorem alA_less {SP A A' : List α} (hSP : SP.Nodup) {p : Nat} {s : α} (hs : SP[p]? = some s) (hA : ∀ t, t ∈ A' ↔ t ∈ A ∧ t ≠ s) (q : Nat) : alA SP A' q = (alA SP A q && decide (q ≠ p)) := by
  cases hq : SP[q]? with
  | none =>
    have h1 := (List.getElem?_eq_some_iff.1 hs).1
    have h2 := List.getElem?_eq_none_iff.1 hq
    rw [alA_end h2, alA_end h2]
    simp; omega
  | some t =>
    rw [alA_at hq, alA_at hq]
    by_cases hqp : q = p
    · subst hqp
      rw [hq] at hs
      injection hs with hs
      subst hs
      simp [hA]
    · have hne : t ≠ s := by
        intro e
        subst e
        obtain ⟨l1, e1⟩ := List.getElem?_eq_some_iff.1 hq
        obtain ⟨l2, e2⟩ := List.getElem?_eq_some_iff.1 hs
        have := (List.getElem_inj (h₀ := l1) (h₁ := l2) hSP).1 (e1.trans e2.symm)
        omega
      simp [hA, hne, hqp]
end
end Go.Proofs.YtajpboclicnopaaGreat
