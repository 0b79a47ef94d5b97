/-
  Canonical nodes of a range: they lie one behind the other over it, no two have one parent, they are few, and few nodes are entered; paths: from the root to a leaf, one of its nodes is canonical; plain lists, no program. No condition but those typed at each theorem.
-/
import Derived.Test.YtmkmkndcndpfeaaFs
namespace Go.Proofs.Ytmkmkndcndpfeaa
open Go.RowKit

/-- the nodes of a tree stand in the list, from the place b on -/
def SG (L : List Nd) (b f : Nat) (t : Tr) : Prop := ∀ i n, (nds b f t)[i]? = some n → L[b + i]? = some n
theorem SG.left {L : List Nd} {b f : Nat} {l r : Tr} (h : SG L b f (.nd l r)) : SG L b f l := fun i n e => h i n (by
  have hi := (List.getElem?_eq_some_iff.1 e).1
  rw [nds, List.append_assoc, List.getElem?_append_left hi]
  exact e)
theorem SG.right {L : List Nd} {b f : Nat} {l r : Tr} (h : SG L b f (.nd l r)) : SG L (b + sz l) (f + lv l) r := fun i n e => by
  have hi := (List.getElem?_eq_some_iff.1 e).1
  have := h (sz l + i) n (by
    rw [nds, List.getElem?_append_left (by rw [List.length_append, nds_len]; omega), List.getElem?_append_right (by rw [nds_len]; omega), nds_len, show sz l + i - sz l = i by omega]
    exact e)
  rwa [← Nat.add_assoc] at this
theorem SG.root {L : List Nd} {b f : Nat} {l r : Tr} (h : SG L b f (.nd l r)) : L[rt b (.nd l r)]? = some (2, (rt b l : Int), (rt (b + sz l) r : Int), (f : Int), ((f + (lv l + lv r) : Nat) : Int), 0, 0) := by
  have := h (sz l + sz r) (2, (rt b l : Int), (rt (b + sz l) r : Int), (f : Int), ((f + (lv l + lv r) : Nat) : Int), 0, 0) (by
    rw [nds, List.getElem?_append_right (by rw [List.length_append, nds_len, nds_len]; exact Nat.le_refl _), List.length_append, nds_len, nds_len]
    simp)
  rwa [rt_nd, Nat.add_assoc]
theorem SG.top {L : List Nd} {b f : Nat} {t : Tr} (h : SG L b f t) : ∃ n, L[rt b t]? = some n ∧ nf n = f ∧ nt n = ((f + lv t : Nat) : Int) := by
  cases t with
  | lf => exact ⟨(1, -1, -1, (f : Int), ((f + 1 : Nat) : Int), 0, (f : Int)), by have := h 0 _ rfl; simpa [rt, lv] using this, rfl, rfl⟩
  | nd l r => exact ⟨_, h.root, rfl, rfl⟩
theorem SG.all (n : Nat) (h : 1 ≤ n) : SG (ndN n) 0 0 (tr n) := fun i x e => by
  rw [ndN_pos h, Nat.zero_add]
  exact e

theorem cn_range {x y k : Nat} : ∀ {t b f}, k ∈ (cn x y t b f).1 → b ≤ k ∧ k ≤ rt b t
  | .lf, b, f, h => by
    rw [cn] at h
    split at h
    · simp at h
    · simp at h; subst h; simp [rt, lv]
  | .nd l r, b, f, h => by
    have e1 := rt_lt b l
    have e2 := rt_lt (b + sz l) r
    have e3 := rt_nd b l r
    have := sz_pos l
    have := sz_pos r
    rw [cn] at h
    split at h
    · simp at h
    · split at h
      · simp at h; subst h; omega
      · rcases List.mem_append.1 h with h | h
        · have := cn_range h; omega
        · have := cn_range h; omega
/-- these places lie one behind the other, from a leaf on, ahead of another one -/
def Ch (L : List Nd) : Nat → List Nat → Nat → Prop
  | s, [], e => s = e
  | s, k :: ks, e => ∃ n, L[k]? = some n ∧ nf n = s ∧ ∃ s2 : Nat, nt n = s2 ∧ s < s2 ∧ Ch L s2 ks e
theorem Ch.append {L : List Nd} : ∀ {ks ms : List Nat} {s e e2 : Nat}, Ch L s ks e → Ch L e ms e2 → Ch L s (ks ++ ms) e2
  | [], ms, s, e, e2, h, g => by
    have : s = e := h
    subst this
    exact g
  | k :: ks, ms, s, e, e2, ⟨n, h1, h2, s2, h3, h4, h5⟩, g => ⟨n, h1, h2, s2, h3, h4, h5.append g⟩
theorem Ch.le {L : List Nd} : ∀ {ks : List Nat} {s e : Nat}, Ch L s ks e → s ≤ e
  | [], s, e, h => Nat.le_of_eq h
  | k :: ks, s, e, ⟨n, h1, h2, s2, h3, h4, h5⟩ => by have := h5.le; omega
theorem cn_chain {L : List Nd} {x y : Nat} (hxy : x < y) : ∀ {t b f}, SG L b f t → ¬ (f + lv t ≤ x ∨ y ≤ f) → Ch L (max x f) (cn x y t b f).1 (min y (f + lv t))
  | .lf, b, f, h, ho => by
    rw [cn_in (by simp only [lv] at ho ⊢; omega)]
    obtain ⟨n, h1, h2, h3⟩ := h.top
    simp only [lv] at ho h3 ⊢
    exact ⟨n, h1, by rw [h2]; omega, f + 1, by rw [h3], by omega, show _ = _ by omega⟩
  | .nd l r, b, f, h, ho => by
    have := lv_pos l
    have := lv_pos r
    simp only [lv] at ho ⊢
    by_cases hi : x ≤ f ∧ f + (lv l + lv r) ≤ y
    · rw [cn_in (by simpa only [lv] using hi)]
      obtain ⟨n, h1, h2, h3⟩ := h.top
      simp only [lv] at h3
      exact ⟨n, h1, by rw [h2]; omega, f + (lv l + lv r), by rw [h3], by omega, show _ = _ by omega⟩
    · rw [cn_cut ho hi]
      by_cases hl : f + lv l ≤ x
      · have h2 := cn_chain hxy h.right (by omega)
        rw [cn_apart (t := l) (.inl hl)]
        rw [show max x (f + lv l) = max x f by omega, show min y (f + lv l + lv r) = min y (f + (lv l + lv r)) by omega] at h2
        exact h2
      · by_cases hr : y ≤ f + lv l
        · have h1 := cn_chain hxy h.left (by omega)
          rw [cn_apart (t := r) (.inr hr)]
          rw [show min y (f + lv l) = min y (f + (lv l + lv r)) by omega] at h1
          simpa using h1
        · have h1 := cn_chain hxy h.left (by omega)
          have h2 := cn_chain hxy h.right (by omega)
          rw [show min y (f + lv l) = f + lv l by omega] at h1
          rw [show max x (f + lv l) = f + lv l by omega, show min y (f + lv l + lv r) = min y (f + (lv l + lv r)) by omega] at h2
          exact h1.append h2
theorem cnF_chain {n x y : Nat} (hxy : x ≤ y) (hy : y ≤ n) : Ch (ndN n) x (cnF n x y).1 y := by
  unfold cnF
  split
  · assumption
  · have h := cn_chain (x := x) (y := y) (by omega) (SG.all n (by omega)) (by rw [lv_tr (by omega)]; omega)
    rw [lv_tr (by omega), show max x 0 = x by omega, show min y (0 + n) = y by omega] at h
    exact h
theorem cnF_ne {n x y : Nat} (hxy : x < y) (hy : y ≤ n) : (cnF n x y).1 ≠ [] := fun e => by
  have := cnF_chain (Nat.le_of_lt hxy) hy
  rw [e] at this
  have : x = y := this
  omega

/-- the kids of a tree's nodes stand in it, below its root -/
theorem kids_range : ∀ {t : Tr} {b f i : Nat} {n : Nd}, (nds b f t)[i]? = some n → nk n = 2 → (b : Int) ≤ nl n ∧ nl n < rt b t ∧ (b : Int) ≤ nr n ∧ nr n < rt b t
  | .lf, b, f, i, n, e, h => by
    have := List.mem_of_getElem? e
    simp only [nds, List.mem_singleton] at this
    subst this
    simp [nk] at h
  | .nd l r, b, f, i, n, e, h => by
    have e1 := rt_lt b l
    have e2 := rt_lt (b + sz l) r
    have e3 := rt_nd b l r
    have := sz_pos l
    have := sz_pos r
    have hm := List.mem_of_getElem? e
    simp only [nds, List.mem_append, List.mem_singleton] at hm
    rcases hm with (hm | hm) | hm
    · obtain ⟨j, hj⟩ := List.mem_iff_getElem?.1 hm
      have := kids_range hj h
      omega
    · obtain ⟨j, hj⟩ := List.mem_iff_getElem?.1 hm
      have := kids_range hj h
      omega
    · subst hm
      simp only [nl, nr]
      omega
/-- who has a canonical kid is not over leaves of the range alone -/
theorem cn_parent {x y k : Nat} : ∀ {t : Tr} {b f i : Nat} {n : Nd}, (nds b f t)[i]? = some n → nk n = 2 → (nl n = k ∨ nr n = k) → k ∈ (cn x y t b f).1 → ¬ ((x : Int) ≤ nf n ∧ nt n ≤ y)
  | .lf, b, f, i, n, e, h, _, _ => by
    have := List.mem_of_getElem? e
    simp only [nds, List.mem_singleton] at this
    subst this
    simp [nk] at h
  | .nd l r, b, f, i, n, e, h, hk, hc => by
    have e1 := rt_lt b l
    have e2 := rt_lt (b + sz l) r
    have e3 := rt_nd b l r
    have := sz_pos l
    have := sz_pos r
    have hkr := kids_range e h
    by_cases ha : f + (lv l + lv r) ≤ x ∨ y ≤ f
    · rw [cn_apart (by simpa only [lv] using ha)] at hc
      simp at hc
    · by_cases hi : x ≤ f ∧ f + (lv l + lv r) ≤ y
      · rw [cn_in (by simpa only [lv] using hi)] at hc
        simp at hc
        omega
      · rw [cn_cut ha hi] at hc
        have hm := List.mem_of_getElem? e
        simp only [nds, List.mem_append, List.mem_singleton] at hm
        rcases hm with (hm | hm) | hm
        · obtain ⟨j, hj⟩ := List.mem_iff_getElem?.1 hm
          have h5 := kids_range hj h
          rcases List.mem_append.1 hc with hc | hc
          · exact cn_parent hj h hk hc
          · have := cn_range hc; omega
        · obtain ⟨j, hj⟩ := List.mem_iff_getElem?.1 hm
          have h5 := kids_range hj h
          rcases List.mem_append.1 hc with hc | hc
          · have := cn_range hc; omega
          · exact cn_parent hj h hk hc
        · subst hm
          simp only [nf, nt]
          omega
theorem cn_inside {L : List Nd} {x y k : Nat} : ∀ {t b f}, SG L b f t → k ∈ (cn x y t b f).1 → ∃ n, L[k]? = some n ∧ (x : Int) ≤ nf n ∧ nt n ≤ y
  | .lf, b, f, h, hc => by
    by_cases ha : f + 1 ≤ x ∨ y ≤ f
    · rw [cn_apart (by simpa only [lv] using ha)] at hc
      simp at hc
    · rw [cn_in (by simp only [lv]; omega)] at hc
      simp at hc
      subst hc
      obtain ⟨n, h1, h2, h3⟩ := h.top
      simp only [lv] at h3
      exact ⟨n, h1, by omega, by omega⟩
  | .nd l r, b, f, h, hc => by
    by_cases ha : f + (lv l + lv r) ≤ x ∨ y ≤ f
    · rw [cn_apart (by simpa only [lv] using ha)] at hc
      simp at hc
    · by_cases hi : x ≤ f ∧ f + (lv l + lv r) ≤ y
      · rw [cn_in (by simpa only [lv] using hi)] at hc
        simp at hc
        subst hc
        obtain ⟨n, h1, h2, h3⟩ := h.top
        simp only [lv] at h3
        exact ⟨n, h1, by omega, by omega⟩
      · rw [cn_cut ha hi] at hc
        rcases List.mem_append.1 hc with hc | hc
        · exact cn_inside h.left hc
        · exact cn_inside h.right hc

/-- few, if the range goes on to one end of the leaves -/
theorem cn_few1 (x y : Nat) : ∀ t b f, (x ≤ f ∨ f + lv t ≤ y) → (cn x y t b f).2 ≤ 2 * ht t + 1 ∧ (¬ (x ≤ f ∧ f + lv t ≤ y) → (cn x y t b f).1.length ≤ ht t)
  | .lf, b, f, h => by
    rw [cn]
    simp only [lv] at h ⊢
    split
    · simp [ht]
    · simp [ht]; omega
  | .nd l r, b, f, h => by
    have := lv_pos l
    have := lv_pos r
    have h1 := cn_few1 x y l b f
    have h2 := cn_few1 x y r (b + sz l) (f + lv l)
    simp only [lv] at h ⊢
    by_cases ha : f + (lv l + lv r) ≤ x ∨ y ≤ f
    · rw [cn_apart (by simpa only [lv] using ha)]
      simp
    · by_cases hi : x ≤ f ∧ f + (lv l + lv r) ≤ y
      · rw [cn_in (by simpa only [lv] using hi)]
        simp [hi]
      · rw [cn_cut ha hi]
        simp only [ht, List.length_append]
        refine ⟨?_, fun _ => ?_⟩
        · by_cases al : f + lv l ≤ x ∨ y ≤ f
          · rw [cn_apart (t := l) al]
            have := h2 (by omega)
            simp only
            omega
          · by_cases ar : f + lv l + lv r ≤ x ∨ y ≤ f + lv l
            · rw [cn_apart (t := r) ar]
              have := h1 (by omega)
              simp only
              omega
            · by_cases il : x ≤ f ∧ f + lv l ≤ y
              · rw [cn_in (t := l) il]
                have := h2 (by omega)
                simp only
                omega
              · rw [cn_in (t := r) (by omega)]
                have := h1 (by omega)
                simp only
                omega
        · by_cases al : f + lv l ≤ x ∨ y ≤ f
          · rw [cn_apart (t := l) al]
            by_cases ir : x ≤ f + lv l ∧ f + lv l + lv r ≤ y
            · rw [cn_in (t := r) ir]
              simp
            · have := (h2 (by omega)).2 ir
              simp
              omega
          · by_cases ar : f + lv l + lv r ≤ x ∨ y ≤ f + lv l
            · rw [cn_apart (t := r) ar]
              by_cases il : x ≤ f ∧ f + lv l ≤ y
              · rw [cn_in (t := l) il]
                simp
              · have := (h1 (by omega)).2 il
                simp
                omega
            · by_cases il : x ≤ f ∧ f + lv l ≤ y
              · rw [cn_in (t := l) il]
                have := (h2 (by omega)).2 (by omega)
                simp
                omega
              · rw [cn_in (t := r) (by omega)]
                have := (h1 (by omega)).2 il
                simp
                omega
theorem cn_few (x y : Nat) : ∀ t b f, (cn x y t b f).2 ≤ 4 * ht t + 1 ∧ (cn x y t b f).1.length ≤ max (2 * ht t) 1 ∧ (cn x y t b f).1.length ≤ (cn x y t b f).2
  | .lf, b, f => by
    rw [cn]
    split <;> simp [ht]
  | .nd l r, b, f => by
    have := lv_pos l
    have := lv_pos r
    have h1 := cn_few x y l b f
    have h2 := cn_few x y r (b + sz l) (f + lv l)
    have g1 := cn_few1 x y l b f
    have g2 := cn_few1 x y r (b + sz l) (f + lv l)
    by_cases ha : f + (lv l + lv r) ≤ x ∨ y ≤ f
    · rw [cn_apart (by simpa only [lv] using ha)]
      simp
    · by_cases hi : x ≤ f ∧ f + (lv l + lv r) ≤ y
      · rw [cn_in (by simpa only [lv] using hi)]
        simp
        omega
      · rw [cn_cut ha hi]
        simp only [ht, List.length_append]
        by_cases al : f + lv l ≤ x ∨ y ≤ f
        · rw [cn_apart (t := l) al] at h1 ⊢
          simp only [List.length_nil]
          omega
        · by_cases ar : f + lv l + lv r ≤ x ∨ y ≤ f + lv l
          · rw [cn_apart (t := r) ar] at h2 ⊢
            simp only [List.length_nil]
            omega
          · have k1 := g1 (by omega)
            have k2 := g2 (by omega)
            by_cases il : x ≤ f ∧ f + lv l ≤ y
            · have k3 := k2.2 (by omega)
              rw [cn_in (t := l) il] at h1 k1 ⊢
              simp only [List.length_singleton] at h1 k1 ⊢
              omega
            · have k3 := k1.2 il
              by_cases ir : x ≤ f + lv l ∧ f + lv l + lv r ≤ y
              · rw [cn_in (t := r) ir] at h2 k2 ⊢
                simp only [List.length_singleton] at h2 k2 ⊢
                omega
              · have k4 := k2.2 ir
                omega
theorem cnF_few {n x y : Nat} (hxy : x < y) (hy : y ≤ n) (hn : n ≤ 1500) : (cnF n x y).2 ≤ 4 * lgI n + 1 ∧ (cnF n x y).1.length ≤ max (2 * lgI n) 1 ∧ (cnF n x y).1.length ≤ (cnF n x y).2 := by
  unfold cnF
  rw [if_neg (by omega)]
  have := cn_few x y (tr n) 0 0
  rw [ht_tr (by omega) (by omega)] at this
  exact this
/-- of the canonical nodes, as the law asks them -/
theorem cnF_kid {n x y i : Nat} {m : Nd} (hxy : x < y) (hy : y ≤ n) (e : (ndN n)[i]? = some m) (h : nk m = 2) :
    ∃ l r : Nat, nl m = l ∧ nr m = r ∧ (l < 2 * n ∧ r < 2 * n) ∧ ¬ (l ∈ (cnF n x y).1 ∧ r ∈ (cnF n x y).1) ∧ ((l ∈ (cnF n x y).1 ∨ r ∈ (cnF n x y).1) → ¬ ((x : Int) ≤ nf m ∧ nt m ≤ y)) := by
  have hSG := SG.all n (by omega)
  have hall := ndN_all n i m e
  unfold cnF
  rw [if_neg (by omega)]
  have e' := e
  rw [ndN_pos (by omega)] at e'
  rcases hall with hm | ⟨l, r, a, b, h1, h2, hm, h3, -, -⟩
  · subst hm
    simp [nk] at h
  · have hl : (ndN n)[l]? = some a := by
      rw [List.getElem?_take] at h1
      split at h1
      · exact h1
      · cases h1
    have hr : (ndN n)[r]? = some b := by
      rw [List.getElem?_take] at h2
      split at h2
      · exact h2
      · cases h2
    have k1 : nl m = l := by rw [hm]; rfl
    have k2 : nr m = r := by rw [hm]; rfl
    have k3 : nf m = nf a := by rw [hm]; rfl
    have k4 : nt m = nt b := by rw [hm]; rfl
    refine ⟨l, r, k1, k2, ⟨by have := (List.getElem?_eq_some_iff.1 hl).1; rw [ndN_len] at this; omega, by have := (List.getElem?_eq_some_iff.1 hr).1; rw [ndN_len] at this; omega⟩, fun ⟨c1, c2⟩ => ?_, fun hc => ?_⟩
    · have p1 := cn_parent e' h (.inl k1) c1
      obtain ⟨a', q1, q2, q3⟩ := cn_inside hSG c1
      obtain ⟨b', r1, r2, r3⟩ := cn_inside hSG c2
      rw [hl] at q1
      rw [hr] at r1
      cases q1
      cases r1
      omega
    · rcases hc with hc | hc
      · exact cn_parent e' h (.inl k1) hc
      · exact cn_parent e' h (.inr k2) hc
end Go.Proofs.Ytmkmkndcndpfeaa
