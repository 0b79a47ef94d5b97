/-
  A frame's nodes, one by one: which is a leaf, over what each is; plain lists, no program. No condition but those typed at each theorem.
-/
import Derived.Test.YtajpboclicnopaaGreatMFb
import Derived.Test.YtajpboclicnopaaGreatMLook
namespace Go.Proofs.YtajpboclicnopaaGreat
open Go.RowKit
def nf (n : Nd) : Int := n.2.2.2.1
def nt (n : Nd) : Int := n.2.2.2.2.1
theorem ndN_pos {n : Nat} (h : 1 ≤ n) : ndN n = nds 0 0 (tr n) := by unfold ndN; rw [if_neg (by omega)]
end Go.Proofs.YtajpboclicnopaaGreat
/-
  Canonical nodes of a range: they lie one behind the other over it, no two have one parent, they are few, and few nodes are entered; paths: from the root to a leaf, one of its nodes is canonical; plain lists, no program. No condition but those typed at each theorem.
-/
namespace Go.Proofs.YtajpboclicnopaaGreat
open Go.RowKit
/-- the nodes of a tree stand in the list, from the place b on -/
def SG (L : List Nd) (b f : Nat) (t : Tr) : Prop := ∀ i n, (nds b f t)[i]? = some n → L[b + i]? = some n
theorem SG.left {L : List Nd} {b f : Nat} {l r : Tr} (h : SG L b f (.nd l r)) : SG L b f l := fun i n e => h i n (by
  have hi := (List.getElem?_eq_some_iff.1 e).1
  rw [nds, List.append_assoc, List.getElem?_append_left hi]
  exact e)
theorem SG.right {L : List Nd} {b f : Nat} {l r : Tr} (h : SG L b f (.nd l r)) : SG L (b + sz l) (f + lv l) r := fun i n e => by
  have hi := (List.getElem?_eq_some_iff.1 e).1
  have := h (sz l + i) n (by
    rw [nds, List.getElem?_append_left (by rw [List.length_append, nds_len]; omega), List.getElem?_append_right (by rw [nds_len]; omega), nds_len, show sz l + i - sz l = i by omega]
    exact e)
  rwa [← Nat.add_assoc] at this
theorem SG.root {L : List Nd} {b f : Nat} {l r : Tr} (h : SG L b f (.nd l r)) : L[rt b (.nd l r)]? = some (2, (rt b l : Int), (rt (b + sz l) r : Int), (f : Int), ((f + (lv l + lv r) : Nat) : Int), 0, 0) := by
  have := h (sz l + sz r) (2, (rt b l : Int), (rt (b + sz l) r : Int), (f : Int), ((f + (lv l + lv r) : Nat) : Int), 0, 0) (by
    rw [nds, List.getElem?_append_right (by rw [List.length_append, nds_len, nds_len]; exact Nat.le_refl _), List.length_append, nds_len, nds_len]
    simp)
  rwa [rt_nd, Nat.add_assoc]
theorem SG.top {L : List Nd} {b f : Nat} {t : Tr} (h : SG L b f t) : ∃ n, L[rt b t]? = some n ∧ nf n = f ∧ nt n = ((f + lv t : Nat) : Int) := by
  cases t with
  | lf => exact ⟨(1, -1, -1, (f : Int), ((f + 1 : Nat) : Int), 0, (f : Int)), by have := h 0 _ rfl; simpa [rt, lv] using this, rfl, rfl⟩
  | nd l r => exact ⟨_, h.root, rfl, rfl⟩
theorem SG.all (n : Nat) (h : 1 ≤ n) : SG (ndN n) 0 0 (tr n) := fun i x e => by
  rw [ndN_pos h, Nat.zero_add]
  exact e
/-- few, if the range goes on to one end of the leaves -/
theorem cn_few1 (x y : Nat) : ∀ t b f, (x ≤ f ∨ f + lv t ≤ y) → (cn x y t b f).2 ≤ 2 * ht t + 1 ∧ (¬ (x ≤ f ∧ f + lv t ≤ y) → (cn x y t b f).1.length ≤ ht t)
  | .lf, b, f, h => by
    rw [cn]
    simp only [lv] at h ⊢
    split
    · simp [ht]
    · simp [ht]; omega
  | .nd l r, b, f, h => by
    have := lv_pos l
    have := lv_pos r
    have h1 := cn_few1 x y l b f
    have h2 := cn_few1 x y r (b + sz l) (f + lv l)
    simp only [lv] at h ⊢
    by_cases ha : f + (lv l + lv r) ≤ x ∨ y ≤ f
    · rw [cn_apart (by simpa only [lv] using ha)]
      simp
    · by_cases hi : x ≤ f ∧ f + (lv l + lv r) ≤ y
      · rw [cn_in (by simpa only [lv] using hi)]
        simp [hi]
      · rw [cn_cut ha hi]
        simp only [ht, List.length_append]
        refine ⟨?_, fun _ => ?_⟩
        · by_cases al : f + lv l ≤ x ∨ y ≤ f
          · rw [cn_apart (t := l) al]
            have := h2 (by omega)
            simp only
            omega
          · by_cases ar : f + lv l + lv r ≤ x ∨ y ≤ f + lv l
            · rw [cn_apart (t := r) ar]
              have := h1 (by omega)
              simp only
              omega
            · by_cases il : x ≤ f ∧ f + lv l ≤ y
              · rw [cn_in (t := l) il]
                have := h2 (by omega)
                simp only
                omega
              · rw [cn_in (t := r) (by omega)]
                have := h1 (by omega)
                simp only
                omega
        · by_cases al : f + lv l ≤ x ∨ y ≤ f
          · rw [cn_apart (t := l) al]
            by_cases ir : x ≤ f + lv l ∧ f + lv l + lv r ≤ y
            · rw [cn_in (t := r) ir]
              simp
            · have := (h2 (by omega)).2 ir
              simp
              omega
          · by_cases ar : f + lv l + lv r ≤ x ∨ y ≤ f + lv l
            · rw [cn_apart (t := r) ar]
              by_cases il : x ≤ f ∧ f + lv l ≤ y
              · rw [cn_in (t := l) il]
                simp
              · have := (h1 (by omega)).2 il
                simp
                omega
            · by_cases il : x ≤ f ∧ f + lv l ≤ y
              · rw [cn_in (t := l) il]
                have := (h2 (by omega)).2 (by omega)
                simp
                omega
              · rw [cn_in (t := r) (by omega)]
                have := (h1 (by omega)).2 il
                simp
                omega
theorem cn_few (x y : Nat) : ∀ t b f, (cn x y t b f).2 ≤ 4 * ht t + 1 ∧ (cn x y t b f).1.length ≤ max (2 * ht t) 1 ∧ (cn x y t b f).1.length ≤ (cn x y t b f).2
  | .lf, b, f => by
    rw [cn]
    split <;> simp [ht]
  | .nd l r, b, f => by
    have := lv_pos l
    have := lv_pos r
    have h1 := cn_few x y l b f
    have h2 := cn_few x y r (b + sz l) (f + lv l)
    have g1 := cn_few1 x y l b f
    have g2 := cn_few1 x y r (b + sz l) (f + lv l)
    by_cases ha : f + (lv l + lv r) ≤ x ∨ y ≤ f
    · rw [cn_apart (by simpa only [lv] using ha)]
      simp
    · by_cases hi : x ≤ f ∧ f + (lv l + lv r) ≤ y
      · rw [cn_in (by simpa only [lv] using hi)]
        simp
        omega
      · rw [cn_cut ha hi]
        simp only [ht, List.length_append]
        by_cases al : f + lv l ≤ x ∨ y ≤ f
        · rw [cn_apart (t := l) al] at h1 ⊢
          simp only [List.length_nil]
          omega
        · by_cases ar : f + lv l + lv r ≤ x ∨ y ≤ f + lv l
          · rw [cn_apart (t := r) ar] at h2 ⊢
            simp only [List.length_nil]
            omega
          · have k1 := g1 (by omega)
            have k2 := g2 (by omega)
            by_cases il : x ≤ f ∧ f + lv l ≤ y
            · have k3 := k2.2 (by omega)
              rw [cn_in (t := l) il] at h1 k1 ⊢
              simp only [List.length_singleton] at h1 k1 ⊢
              omega
            · have k3 := k1.2 il
              by_cases ir : x ≤ f + lv l ∧ f + lv l + lv r ≤ y
              · rw [cn_in (t := r) ir] at h2 k2 ⊢
                simp only [List.length_singleton] at h2 k2 ⊢
                omega
              · have k4 := k2.2 ir
                omega
end Go.Proofs.YtajpboclicnopaaGreat
/-
  Paths: from the root to a leaf, kid by kid; of a leaf's path just one node is canonical, if the range has the leaf; plain lists, no program. No condition but those typed at each theorem.
-/
namespace Go.Proofs.YtajpboclicnopaaGreat
open Go.RowKit
end Go.Proofs.YtajpboclicnopaaGreat
