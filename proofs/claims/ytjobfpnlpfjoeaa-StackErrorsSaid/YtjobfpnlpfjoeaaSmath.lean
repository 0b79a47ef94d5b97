/-
  What a walk enters, in which order, and what it tells: plain lists, no program. No condition but those typed at each theorem.
-/
import Derived.Test.YtjobfpnlpfjoeaaMath
namespace Go.Proofs.Ytjobfpnlpfjoeaa

/-- what a walk from i on enters, that goes below a node where P says so (f: more than the place) -/
def enG (N : List Nd) (P : Nd → Bool) : Nat → Int → List Int
  | 0, _ => []
  | f + 1, i => match N[i.toNat]? with
    | none => []
    | some n => i :: (if P n then (ksL n).flatMap (enG N P f) else [])
def en (N : List Nd) (P : Nd → Bool) (i : Int) : List Int := enG N P (i.toNat + 1) i
theorem enG_more {N : List Nd} (hR : Rt N) (P : Nd → Bool) : ∀ (f g : Nat) (i : Int), 0 ≤ i → i.toNat < f → i.toNat < g → enG N P f i = enG N P g i := by
  intro f
  induction f with
  | zero => intro g i _ h; omega
  | succ f ih =>
    intro g i h0 h1 h2
    obtain ⟨g, rfl⟩ : ∃ k, g = k + 1 := ⟨g - 1, by omega⟩
    cases e : N[i.toNat]? with
    | none => simp [enG, e]
    | some n =>
      simp only [enG, e]
      congr 1
      split
      · refine flatMap_congr' fun x hx => ?_
        have := hR.kid e hx
        exact ih g x this.1 (by omega) (by omega)
      · rfl
theorem en_at {N : List Nd} (hR : Rt N) (P : Nd → Bool) {i : Int} {n : Nd} (e : N[i.toNat]? = some n) : en N P i = i :: (if P n then (ksL n).flatMap (en N P) else []) := by
  unfold en
  simp only [enG, e]
  congr 1
  split
  · refine flatMap_congr' fun x hx => ?_
    have := hR.kid e hx
    exact enG_more hR P i.toNat (x.toNat + 1) x this.1 (by omega) (by omega)
  · rfl
/-- what those that wait will enter; the last one comes first -/
def pend (N : List Nd) (P : Nd → Bool) (W : List Int) : List Int := W.reverse.flatMap (en N P)
theorem pend_nil (N : List Nd) (P : Nd → Bool) : pend N P [] = [] := rfl
theorem pend_one (N : List Nd) (P : Nd → Bool) (i : Int) : pend N P [i] = en N P i := by simp [pend]
theorem pend_snoc (N : List Nd) (P : Nd → Bool) (W : List Int) (i : Int) : pend N P (W ++ [i]) = en N P i ++ pend N P W := by simp [pend]
theorem pend_kids (N : List Nd) (P : Nd → Bool) (W ks : List Int) : pend N P (W ++ ks.reverse) = ks.flatMap (en N P) ++ pend N P W := by simp [pend]
theorem pend_yes {N : List Nd} (hR : Rt N) {P : Nd → Bool} {i : Int} {n : Nd} (e : N[i.toNat]? = some n) (hp : P n = true) (E W : List Int) : E ++ pend N P (W ++ [i]) = (E ++ [i]) ++ pend N P (W ++ (ksL n).reverse) := by
  rw [pend_snoc, pend_kids, en_at hR P e, if_pos hp]
  simp
theorem pend_no {N : List Nd} (hR : Rt N) {P : Nd → Bool} {i : Int} {n : Nd} (e : N[i.toNat]? = some n) (hp : P n = false) (E W : List Int) : E ++ pend N P (W ++ [i]) = (E ++ [i]) ++ pend N P W := by
  rw [pend_snoc, en_at hR P e, if_neg (by simp [hp])]
  simp

/-- all that is below i is ahead of it, each once -/
theorem en_below {N : List Nd} (hR : Rt N) (P : Nd → Bool) : ∀ (m : Nat) (i : Int), i.toNat ≤ m → 0 ≤ i → i < N.length → List.Sublist (en N P i) ((below N i.toNat).map Int.ofNat) := by
  intro m
  induction m with
  | zero =>
    intro i h1 h0 h2
    have e : N[i.toNat]? = some (N[i.toNat]'(by omega)) := List.getElem?_eq_getElem _
    have hk : ksL (N[i.toNat]'(by omega)) = [] := by
      cases hk : ksL (N[i.toNat]'(by omega)) with
      | nil => rfl
      | cons x xs =>
        have := hR.kid e (x := x) (by rw [hk]; simp)
        omega
    rw [en_at hR P e, below_kids hR e, hk]
    simp
    omega
  | succ m ih =>
    intro i h1 h0 h2
    have e : N[i.toNat]? = some (N[i.toNat]'(by omega)) := List.getElem?_eq_getElem _
    rw [en_at hR P e, below_kids hR e, List.map_cons, show Int.ofNat i.toNat = i from Int.toNat_of_nonneg h0]
    refine List.Sublist.cons_cons _ ?_
    split
    · have hk : ∀ x ∈ ksL (N[i.toNat]'(by omega)), 0 ≤ x ∧ x < i.toNat := fun x hx => hR.kid e hx
      generalize ksL (N[i.toNat]'(by omega)) = ks at hk
      induction ks with
      | nil => simp
      | cons x ks ihk =>
        rw [List.flatMap_cons, List.flatMap_cons, List.map_append]
        refine List.Sublist.append (ih x ?_ ?_ ?_) (ihk fun y hy => hk y (List.mem_cons_of_mem _ hy))
        · have := hk x List.mem_cons_self
          omega
        · exact (hk x List.mem_cons_self).1
        · have := hk x List.mem_cons_self
          omega
    · exact List.nil_sublist _
theorem below_take {N : List Nd} {k j : Nat} (hk : k < j) : below (N.take j) k = below N k := by
  unfold below
  rw [← dl_take, List.getD_eq_getElem?_getD, List.getElem?_take_of_lt hk, ← List.getD_eq_getElem?_getD]
theorem below_once {N : List Nd} (hR : Rt N) {k : Nat} (hk : k < N.length) : (below N k).Nodup ∧ (∀ x ∈ below N k, x ≤ k) ∧ (below N k).length ≤ k + 1 := by
  have h1 := forest (hR.take (k + 1))
  have hl : (N.take (k + 1)).length = k + 1 := by rw [List.length_take]; omega
  have h2 : k ∈ rootsL (N.take (k + 1)) := by
    rw [mem_rootsL, hl]
    refine ⟨by omega, ?_⟩
    unfold kidB
    rw [List.any_eq_false]
    intro n hn hx
    obtain ⟨j, hj⟩ := List.mem_iff_getElem?.1 hn
    have hj2 := (List.getElem?_eq_some_iff.1 hj).1
    rw [hasKid_mem (by omega)] at hx
    have := (hR.take (k + 1)).kid hj hx
    omega
  have h3 : (below (N.take (k + 1)) k).Sublist ((rootsL (N.take (k + 1))).flatMap (below (N.take (k + 1)))) := by
    obtain ⟨a, b, hab⟩ := List.append_of_mem h2
    rw [hab, List.flatMap_append, List.flatMap_cons]
    exact (List.sublist_append_left _ _).trans (List.sublist_append_right _ _)
  rw [below_take (by omega)] at h3
  refine ⟨h3.nodup (h1.nodup_iff.2 List.nodup_range), fun x hx => ?_, ?_⟩
  · have := (h1.mem_iff).1 (h3.subset hx)
    rw [List.mem_range, hl] at this
    omega
  · have := h3.length_le
    rw [h1.length_eq, List.length_range, hl] at this
    exact this
theorem en_once {N : List Nd} (hR : Rt N) (P : Nd → Bool) {i : Int} (h0 : 0 ≤ i) (hi : i < N.length) : (en N P i).Nodup ∧ (∀ x ∈ en N P i, 0 ≤ x ∧ x ≤ i) ∧ (en N P i).length ≤ N.length := by
  have h1 := en_below hR P i.toNat i (Nat.le_refl _) h0 hi
  have h2 := below_once hR (k := i.toNat) (by omega)
  have h3 : ∀ x ∈ en N P i, 0 ≤ x ∧ x ≤ i := fun x hx => by
    obtain ⟨k, hk, rfl⟩ := List.mem_map.1 (h1.subset hx)
    have := h2.2.1 k hk
    simp only [Int.ofNat_eq_natCast]
    omega
  refine ⟨h1.nodup ?_, h3, ?_⟩
  · exact List.Pairwise.map _ (fun a b (h : a ≠ b) => by simp only [Int.ofNat_eq_natCast]; omega) h2.1
  · have h4 := h1.length_le
    rw [List.length_map] at h4
    have h5 := h2.2.2
    omega
theorem en_pos {N : List Nd} (P : Nd → Bool) {i : Int} (h0 : 0 ≤ i) (hi : i < N.length) : en N P i ≠ [] := by
  have e : N[i.toNat]? = some (N[i.toNat]'(by omega)) := List.getElem?_eq_getElem _
  simp [en, enG, e]
theorem pend_len {N : List Nd} (P : Nd → Bool) {W : List Int} (h : ∀ x ∈ W, 0 ≤ x ∧ x < (N.length : Int)) : W.length ≤ (pend N P W).length := by
  induction W using snoc_ind with
  | h0 => simp
  | h1 W x ih =>
    rw [pend_snoc, List.length_append, List.length_append, List.length_singleton]
    have h1 := ih fun y hy => h y (by simp [hy])
    have h2 := List.length_pos_iff.2 (en_pos P (h x (by simp)).1 (h x (by simp)).2)
    omega

/-- a node within the range; what is told of it -/
def inR (a b : Int) (n : Nd) : Bool := !(decide (n.2.2.2.2.1 ≤ a) || decide (b ≤ n.2.2.2.1))
def tln (a b : Int) (n : Nd) : List Int := if inR a b n && decide (nk n = 1) then [n.2.2.2.1] else []
def tl1 (N : List Nd) (a b : Int) (i : Int) : List Int := match N[i.toNat]? with
  | none => []
  | some n => tln a b n
/-- what is told of those that are entered -/
def tls (N : List Nd) (a b : Int) (E : List Int) : List Int := E.flatMap (tl1 N a b)
theorem tls_snoc {N : List Nd} {a b : Int} {i : Int} {n : Nd} (e : N[i.toNat]? = some n) (E : List Int) : tls N a b (E ++ [i]) = tls N a b E ++ tln a b n := by simp [tls, tl1, e]
theorem tls_len (N : List Nd) (a b : Int) (E : List Int) : (tls N a b E).length ≤ E.length := by
  induction E using snoc_ind with
  | h0 => simp [tls]
  | h1 E x ih =>
    unfold tls at *
    rw [List.flatMap_append, List.length_append, List.length_append, List.flatMap_singleton, List.length_singleton]
    have : (tl1 N a b x).length ≤ 1 := by
      unfold tl1 tln
      split
      · simp
      · split <;> simp
    omega
theorem tls_append (N : List Nd) (a b : Int) (E F : List Int) : tls N a b (E ++ F) = tls N a b E ++ tls N a b F := by simp [tls]

/-- the whole walk -/
def all (N : List Nd) (i : Int) : List Int := en N (fun _ => true) i
theorem all_at {N : List Nd} (hR : Rt N) {i : Int} {n : Nd} (e : N[i.toNat]? = some n) : all N i = i :: (ksL n).flatMap (all N) := by
  unfold all
  rw [en_at hR _ e, if_pos rfl]
/-- the walk for a range -/
def ran (N : List Nd) (a b : Int) (i : Int) : List Int := en N (inR a b) i
end Go.Proofs.Ytjobfpnlpfjoeaa
