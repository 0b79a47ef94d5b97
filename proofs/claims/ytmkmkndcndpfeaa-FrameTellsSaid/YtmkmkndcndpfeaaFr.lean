/-
  What the document's own answers come to: which nodes are canonical, and which are over a leaf, told node by node; plain lists, no program. No condition but those typed at each theorem.
-/
import Derived.Test.YtmkmkndcndpfeaaFp
namespace Go.Proofs.Ytmkmkndcndpfeaa
open Go.RowKit

/-- over leaves of the range alone, over none of it -/
def inB (n : Nd) (x y : Int) : Bool := decide (x ≤ nf n) && decide (nt n ≤ y)
def outB (n : Nd) (x y : Int) : Bool := decide (nt n ≤ x) || decide (y ≤ nf n)
/-- whose kid a place is; -1: nobody's -/
def parZ (L : List Nd) (k : Int) : Int := match L.findIdx? (fun n => hasKid n k) with
  | some i => i
  | none => -1
theorem par_take {L : List Nd} {k : Int} {i : Nat} {n : Nd} (h0 : ∀ m ∈ L.take i, hasKid m k = false) (e : L[i]? = some n) (h : hasKid n k = true) : parZ L k = i := by
  unfold parZ
  have hi := (List.getElem?_eq_some_iff.1 e).1
  have h1 : L.findIdx? (fun n => hasKid n k) = some i := by
    rw [List.findIdx?_eq_some_iff_getElem]
    refine ⟨hi, by rw [(List.getElem?_eq_some_iff.1 e).2]; exact h, fun j hj => ?_⟩
    have : L[j] ∈ L.take i := by
      rw [List.mem_take_iff_getElem]
      exact ⟨j, by omega, rfl⟩
    simp [h0 _ this]
  rw [h1]
theorem par_none {L : List Nd} {k : Int} (h0 : ∀ m ∈ L, hasKid m k = false) : parZ L k = -1 := by
  unfold parZ
  have h1 : L.findIdx? (fun n => hasKid n k) = none := by
    rw [List.findIdx?_eq_none_iff]
    exact fun m hm => by simp [h0 m hm]
  rw [h1]
theorem par_cases (L : List Nd) (k : Int) : (parZ L k = -1 ∧ ∀ m ∈ L, hasKid m k = false) ∨ ∃ (i : Nat) (m : Nd), parZ L k = i ∧ L[i]? = some m ∧ hasKid m k = true := by
  unfold parZ
  cases h : L.findIdx? (fun n => hasKid n k) with
  | none =>
    rw [List.findIdx?_eq_none_iff] at h
    exact .inl ⟨rfl, fun m hm => by simpa using h m hm⟩
  | some i =>
    rw [List.findIdx?_eq_some_iff_getElem] at h
    obtain ⟨hi, h2, -⟩ := h
    exact .inr ⟨i, L[i], rfl, List.getElem?_eq_getElem hi, h2⟩

/-- each node but the root is somebody's kid -/
theorem kid_of : ∀ {t : Tr} {b f i : Nat} {n : Nd}, (nds b f t)[i]? = some n → b + i ≠ rt b t → ∃ (j : Nat) (m : Nd), (nds b f t)[j]? = some m ∧ nk m = 2 ∧ (nl m = ((b + i : Nat) : Int) ∨ nr m = ((b + i : Nat) : Int))
  | .lf, b, f, i, n, e, h => by
    have := (List.getElem?_eq_some_iff.1 e).1
    simp [nds] at this
    simp [rt, lv, this] at h
  | .nd l r, b, f, i, n, e, h => by
    have e1 := rt_lt b l
    have e2 := rt_lt (b + sz l) r
    have e3 := rt_nd b l r
    have hi := (List.getElem?_eq_some_iff.1 e).1
    rw [nds_len, sz_nd] at hi
    have hroot : (nds b f (.nd l r))[sz l + sz r]? = some (2, (rt b l : Int), (rt (b + sz l) r : Int), (f : Int), ((f + (lv l + lv r) : Nat) : Int), 0, 0) := by
      rw [nds, List.getElem?_append_right (by rw [List.length_append, nds_len, nds_len]; exact Nat.le_refl _), List.length_append, nds_len, nds_len]
      simp
    by_cases hl : i < sz l
    · by_cases hk : b + i = rt b l
      · exact ⟨_, _, hroot, rfl, .inl (by rw [hk]; rfl)⟩
      · have e5 : (nds b f l)[i]? = some n := by
          rw [nds, List.append_assoc, List.getElem?_append_left (by rw [nds_len]; exact hl)] at e
          exact e
        obtain ⟨j, m, h1, h2, h3⟩ := kid_of e5 hk
        have hj := (List.getElem?_eq_some_iff.1 h1).1
        exact ⟨j, m, by rw [nds, List.append_assoc, List.getElem?_append_left hj]; exact h1, h2, h3⟩
    · by_cases hr : i < sz l + sz r
      · by_cases hk : b + i = rt (b + sz l) r
        · exact ⟨_, _, hroot, rfl, .inr (by rw [hk]; rfl)⟩
        · have e5 : (nds (b + sz l) (f + lv l) r)[i - sz l]? = some n := by
            rw [nds, List.getElem?_append_left (by rw [List.length_append, nds_len, nds_len]; exact hr), List.getElem?_append_right (by rw [nds_len]; omega), nds_len] at e
            exact e
          obtain ⟨j, m, h1, h2, h3⟩ := kid_of e5 (by omega)
          have hj := (List.getElem?_eq_some_iff.1 h1).1
          rw [show b + sz l + (i - sz l) = b + i by omega] at h3
          exact ⟨sz l + j, m, by rw [nds, List.getElem?_append_left (by rw [List.length_append, nds_len]; omega), List.getElem?_append_right (by rw [nds_len]; omega), nds_len, show sz l + j - sz l = j by omega]; exact h1, h2, h3⟩
      · omega
/-- who is over leaves of the range alone, and whose parent is not, is canonical -/
theorem cn_full {x y : Nat} : ∀ {t : Tr} {b f i : Nat} {n : Nd}, (nds b f t)[i]? = some n → (x : Int) ≤ nf n → nt n ≤ y →
    (b + i = rt b t ∨ ∃ (j : Nat) (m : Nd), (nds b f t)[j]? = some m ∧ nk m = 2 ∧ (nl m = ((b + i : Nat) : Int) ∨ nr m = ((b + i : Nat) : Int)) ∧ ¬ ((x : Int) ≤ nf m ∧ nt m ≤ y)) → b + i ∈ (cn x y t b f).1
  | .lf, b, f, i, n, e, h1, h2, _ => by
    have hi := (List.getElem?_eq_some_iff.1 e).1
    simp [nds] at hi
    subst hi
    simp [nds] at e
    subst e
    simp only [nf, nt] at h1 h2
    rw [cn_in (by simp only [lv]; omega)]
    simp [rt, lv]
  | .nd l r, b, f, i, n, e, h1, h2, h => by
    have e1 := rt_lt b l
    have e2 := rt_lt (b + sz l) r
    have e3 := rt_nd b l r
    have := sz_pos l
    have := sz_pos r
    have hb := nds_bound (.nd l r) b f n (List.mem_of_getElem? e)
    simp only [lv] at hb
    by_cases ha : f + (lv l + lv r) ≤ x ∨ y ≤ f
    · omega
    · by_cases hin : x ≤ f ∧ f + (lv l + lv r) ≤ y
      · rw [cn_in (by simpa only [lv] using hin)]
        rcases h with h | ⟨j, m, g1, g2, g3, g4⟩
        · simp [h]
        · have hbm := nds_bound (.nd l r) b f m (List.mem_of_getElem? g1)
          simp only [lv] at hbm
          omega
      · rw [cn_cut ha hin]
        have hi := (List.getElem?_eq_some_iff.1 e).1
        rw [nds_len, sz_nd] at hi
        have hnr : i < sz l + sz r := by
          refine Nat.lt_of_le_of_ne (by omega) (fun hi2 => ?_)
          subst hi2
          rw [nds, List.getElem?_append_right (by rw [List.length_append, nds_len, nds_len]; exact Nat.le_refl _), List.length_append, nds_len, nds_len] at e
          simp at e
          subst e
          simp only [nf, nt] at h1 h2
          omega
        have hpar : ∃ (j : Nat) (m : Nd), (nds b f (.nd l r))[j]? = some m ∧ nk m = 2 ∧ (nl m = ((b + i : Nat) : Int) ∨ nr m = ((b + i : Nat) : Int)) ∧ ¬ ((x : Int) ≤ nf m ∧ nt m ≤ y) := by
          rcases h with h | h
          · omega
          · exact h
        obtain ⟨j, m, g1, g2, g3, g4⟩ := hpar
        by_cases hl : i < sz l
        · have e5 : (nds b f l)[i]? = some n := by
            rw [nds, List.append_assoc, List.getElem?_append_left (by rw [nds_len]; exact hl)] at e
            exact e
          refine List.mem_append.2 (.inl (cn_full e5 h1 h2 ?_))
          have hm := List.mem_of_getElem? g1
          simp only [nds, List.mem_append, List.mem_singleton] at hm
          rcases hm with (hm | hm) | hm
          · obtain ⟨j2, hj2⟩ := List.mem_iff_getElem?.1 hm
            exact .inr ⟨j2, m, hj2, g2, g3, g4⟩
          · obtain ⟨j2, hj2⟩ := List.mem_iff_getElem?.1 hm
            have := kids_range hj2 g2
            omega
          · subst hm
            simp only [nl, nr] at g3
            omega
        · have e5 : (nds (b + sz l) (f + lv l) r)[i - sz l]? = some n := by
            rw [nds, List.getElem?_append_left (by rw [List.length_append, nds_len, nds_len]; exact hnr), List.getElem?_append_right (by rw [nds_len]; omega), nds_len] at e
            exact e
          have ei : b + sz l + (i - sz l) = b + i := by omega
          refine List.mem_append.2 (.inr ?_)
          rw [← ei]
          refine cn_full e5 h1 h2 ?_
          rw [ei]
          have hm := List.mem_of_getElem? g1
          simp only [nds, List.mem_append, List.mem_singleton] at hm
          rcases hm with (hm | hm) | hm
          · obtain ⟨j2, hj2⟩ := List.mem_iff_getElem?.1 hm
            have := kids_range hj2 g2
            omega
          · obtain ⟨j2, hj2⟩ := List.mem_iff_getElem?.1 hm
            exact .inr ⟨j2, m, hj2, g2, g3, g4⟩
          · subst hm
            simp only [nl, nr] at g3
            omega
/-- canonical: over leaves of the range alone, its parent not, if there is one -/
theorem cnF_iff {n x y k : Nat} {a : Nd} (hxy : x < y) (hy : y ≤ n) (e : (ndN n)[k]? = some a) :
    k ∈ (cnF n x y).1 ↔ inB a x y = true ∧ (parZ (ndN n) k = -1 ∨ ∃ (p : Nat) (m : Nd), parZ (ndN n) k = p ∧ (ndN n)[p]? = some m ∧ inB m x y = false) := by
  have hn : 1 ≤ n := by omega
  have hSG := SG.all n hn
  have e' := e
  rw [ndN_pos hn] at e'
  have hkl := (List.getElem?_eq_some_iff.1 e).1
  have hkind : ∀ (j : Nat) (m : Nd), (ndN n)[j]? = some m → (nk m = 1 ∧ nl m = -1 ∧ nr m = -1) ∨ nk m = 2 := fun j m h => by
    rcases ndN_all n j m h with h | ⟨_, _, _, _, _, _, h, _⟩
    · rw [h]; exact .inl ⟨rfl, rfl, rfl⟩
    · rw [h]; exact .inr rfl
  have hk2 : ∀ (j : Nat) (m : Nd), (ndN n)[j]? = some m → hasKid m k = true → nk m = 2 ∧ (nl m = (k : Int) ∨ nr m = (k : Int)) := fun j m h1 h2 => by
    simp only [hasKid, Bool.or_eq_true, decide_eq_true_eq] at h2
    rcases hkind j m h1 with h | h
    · omega
    · exact ⟨h, h2⟩
  unfold cnF
  rw [if_neg (by omega)]
  constructor
  · intro hc
    obtain ⟨a', q1, q2, q3⟩ := cn_inside hSG hc
    rw [e] at q1
    cases q1
    refine ⟨by simp [inB, q2, q3], ?_⟩
    rcases par_cases (ndN n) k with ⟨h, _⟩ | ⟨p, m, h1, h2, h3⟩
    · exact .inl h
    · refine .inr ⟨p, m, h1, h2, ?_⟩
      obtain ⟨h4, h5⟩ := hk2 p m h2 h3
      rw [ndN_pos hn] at h2
      have := cn_parent (x := x) (y := y) h2 h4 h5 hc
      simp only [inB, Bool.and_eq_false_iff, decide_eq_false_iff_not]
      omega
  · rintro ⟨h1, h2⟩
    simp only [inB, Bool.and_eq_true, decide_eq_true_eq] at h1
    have hz : 0 + k = k := Nat.zero_add k
    rw [← hz]
    refine cn_full e' h1.1 h1.2 ?_
    rw [hz]
    rcases h2 with h2 | ⟨p, m, h2, h3, h4⟩
    · refine .inl (Classical.byContradiction fun hne => ?_)
      obtain ⟨j, m, g1, g2, g3⟩ := kid_of e' (by rw [hz]; exact hne)
      rw [hz] at g3
      rw [← ndN_pos hn] at g1
      rcases par_cases (ndN n) k with ⟨_, h⟩ | ⟨p, m2, h5, _, _⟩
      · have := h m (List.mem_of_getElem? g1)
        simp only [hasKid, Bool.or_eq_false_iff, decide_eq_false_iff_not] at this
        omega
      · omega
    · rcases par_cases (ndN n) k with ⟨h, _⟩ | ⟨p2, m2, h5, h6, h7⟩
      · omega
      · obtain rfl : p2 = p := by omega
        rw [h3] at h6
        cases h6
        obtain ⟨h8, h9⟩ := hk2 _ _ h3 h7
        rw [ndN_pos hn] at h3
        simp only [inB, Bool.and_eq_false_iff, decide_eq_false_iff_not] at h4
        exact .inr ⟨p2, m, h3, h8, h9, by omega⟩

/-- which nodes are over a leaf -/
theorem pt_mem {leaf : Nat} : ∀ {t : Tr} {b f i : Nat} {n : Nd}, (nds b f t)[i]? = some n → (b + i ∈ pt leaf t b f → f ≤ leaf → leaf < f + lv t → nf n ≤ leaf ∧ (leaf : Int) < nt n) ∧ (nf n ≤ leaf → (leaf : Int) < nt n → b + i ∈ pt leaf t b f)
  | .lf, b, f, i, n, e => by
    have hi := (List.getElem?_eq_some_iff.1 e).1
    simp [nds] at hi
    subst hi
    simp [nds] at e
    subst e
    simp only [nf, nt, pt, lv]
    constructor
    · intro _ h1 h2; omega
    · intro _ _; simp
  | .nd l r, b, f, i, n, e => by
    have e1 := rt_lt b l
    have e2 := rt_lt (b + sz l) r
    have e3 := rt_nd b l r
    have := sz_pos l
    have := sz_pos r
    have := lv_pos l
    have := lv_pos r
    have hi := (List.getElem?_eq_some_iff.1 e).1
    rw [nds_len, sz_nd] at hi
    rw [pt_nd]
    simp only [lv]
    by_cases hl : i < sz l
    · have e5 : (nds b f l)[i]? = some n := by
        rw [nds, List.append_assoc, List.getElem?_append_left (by rw [nds_len]; exact hl)] at e
        exact e
      have hb := nds_bound l b f n (List.mem_of_getElem? e5)
      have ih := pt_mem (leaf := leaf) e5
      constructor
      · intro h h1 h2
        rcases List.mem_cons.1 h with h | h
        · omega
        · split at h
          · exact ih.1 h h1 (by assumption)
          · have := pt_range h; omega
      · intro h1 h2
        rw [if_pos (by omega)]
        exact List.mem_cons_of_mem _ (ih.2 h1 h2)
    · by_cases hr : i < sz l + sz r
      · have e5 : (nds (b + sz l) (f + lv l) r)[i - sz l]? = some n := by
          rw [nds, List.getElem?_append_left (by rw [List.length_append, nds_len, nds_len]; exact hr), List.getElem?_append_right (by rw [nds_len]; omega), nds_len] at e
          exact e
        have hb := nds_bound r _ _ n (List.mem_of_getElem? e5)
        have ih := pt_mem (leaf := leaf) e5
        rw [show b + sz l + (i - sz l) = b + i by omega] at ih
        constructor
        · intro h h1 h2
          rcases List.mem_cons.1 h with h | h
          · omega
          · split at h
            · have := pt_range h; omega
            · exact ih.1 h (by omega) (by omega)
        · intro h1 h2
          rw [if_neg (by omega)]
          exact List.mem_cons_of_mem _ (ih.2 h1 h2)
      · have hi2 : i = sz l + sz r := by omega
        subst hi2
        rw [nds, List.getElem?_append_right (by rw [List.length_append, nds_len, nds_len]; exact Nat.le_refl _), List.length_append, nds_len, nds_len] at e
        simp at e
        subst e
        simp only [nf, nt]
        constructor
        · intro _ h1 h2; omega
        · intro _ _; rw [e3, Nat.add_assoc]; simp
theorem pt_dec (leaf : Nat) : ∀ t b f, (pt leaf t b f).Pairwise (· > ·)
  | .lf, b, f => by simp [pt]
  | .nd l r, b, f => by
    have e1 := rt_lt b l
    have e2 := rt_lt (b + sz l) r
    have e3 := rt_nd b l r
    have := sz_pos l
    have := sz_pos r
    rw [pt_nd]
    split
    · exact List.pairwise_cons.2 ⟨fun k hk => by have := pt_range hk; omega, pt_dec leaf l b f⟩
    · exact List.pairwise_cons.2 ⟨fun k hk => by have := pt_range hk; omega, pt_dec leaf r _ _⟩
theorem ptF_mem {n leaf k : Nat} {a : Nd} (h : leaf < n) (e : (ndN n)[k]? = some a) : k ∈ ptF n leaf ↔ nf a ≤ leaf ∧ (leaf : Int) < nt a := by
  rw [ndN_pos (by omega)] at e
  have := pt_mem (leaf := leaf) e
  rw [Nat.zero_add, lv_tr (by omega)] at this
  exact ⟨fun hk => this.1 hk (by omega) (by omega), fun hk => this.2 hk.1 hk.2⟩
end Go.Proofs.Ytmkmkndcndpfeaa
