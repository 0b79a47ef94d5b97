/-
  Slots over ends: which one a number has, at which nodes a span stands, which nodes are over a number; of a number's path just one node has a span, if the span has the number; plain lists, no program. No condition but those typed at each theorem.
-/
import Derived.Test.YtgcimicbbadapaaMFx
import Derived.Test.YtgcimicbbadapaaMS3
namespace Go.Proofs.Ytgcimicbbadapaa

/-- strictly rising, by places -/
def Up (E : List Int) : Prop := ∀ i j, i < j → j < E.length → E.getD i 0 < E.getD j 0
theorem up_of {E : List Int} (h : E.Pairwise (· < ·)) : Up E := fun i j hij hj => by
  have := List.pairwise_iff_getElem.1 h i j (by omega) hj hij
  rw [List.getD_eq_getElem?_getD, List.getD_eq_getElem?_getD, List.getElem?_eq_getElem (by omega), List.getElem?_eq_getElem hj]
  exact this
theorem Up.le {E : List Int} (h : Up E) {i j : Nat} (hij : i ≤ j) (hj : j < E.length) : E.getD i 0 ≤ E.getD j 0 := by
  rcases Nat.lt_or_ge i j with h1 | h1
  · have := h i j h1 hj; omega
  · have : i = j := by omega
    subst this
    exact Int.le_refl _
theorem lkGo_le (so : Nat → Bool) : ∀ m f e c, e - f ≤ m → f ≤ e → (lkGo so f e c).1 ≤ e := by
  intro m
  induction m with
  | zero =>
    intro f e c h1 h2
    rw [lkGo_end so c (by omega)]
    exact h2
  | succ m ih =>
    intro f e c h1 h2
    by_cases h : f < e
    · cases hs : so (f + (e - f) / 2) with
      | true =>
        rw [lkGo_yes so c h hs]
        exact Nat.le_trans (ih _ _ _ (by omega) (by omega)) (by omega)
      | false =>
        rw [lkGo_no so c h hs]
        exact ih _ _ _ (by omega) (by omega)
    · rw [lkGo_end so c h]
      exact h2
/-- where x stands -/
theorem first_parts {E : List Int} (h : Up E) (x : Int) : (firstP E x).1 ≤ E.length ∧ (∀ i, i < (firstP E x).1 → E.getD i 0 < x) ∧ ∀ i, (firstP E x).1 ≤ i → i < E.length → x ≤ E.getD i 0 := by
  have hp := lk_parts (notLess E x) E.length (fun i j hij hj hi => by
    simp only [notLess, decide_eq_true_eq] at hi ⊢
    have := h.le hij hj
    omega)
  have hl : (firstP E x).1 ≤ E.length := lkGo_le (notLess E x) E.length 0 E.length 0 (Nat.le_refl _) (Nat.zero_le _)
  refine ⟨hl, fun i hi => ?_, fun i hi hl => ?_⟩
  · have := hp.1 i hi
    simp only [notLess, decide_eq_false_iff_not] at this
    omega
  · have := hp.2 i hi hl
    simpa only [notLess, decide_eq_true_eq] using this
/-- how many slots -/
def ms (E : List Int) : Nat := 2 * E.length - 1
/-- a number's slot, or -1 -/
def slI (E : List Int) (x : Int) : Int := if (firstP E x).1 = E.length then -1 else if E.getD (firstP E x).1 0 = x then 2 * ((firstP E x).1 : Int) else 2 * ((firstP E x).1 : Int) - 1
theorem slI_range {E : List Int} (h : Up E) (x : Int) : slI E x = -1 ∨ (0 ≤ slI E x ∧ slI E x < ms E) := by
  have := (first_parts h x).1
  unfold slI ms
  split
  · exact .inl rfl
  · split
    · right; omega
    · omega
theorem mem_at {E : List Int} {x : Int} (h : x ∈ E) : ∃ k, k < E.length ∧ E.getD k 0 = x := by
  obtain ⟨k, hk⟩ := List.mem_iff_getElem?.1 h
  exact ⟨k, (List.getElem?_eq_some_iff.1 hk).1, by rw [List.getD_eq_getElem?_getD, hk]; rfl⟩
theorem first_at {E : List Int} (h : Up E) {k : Nat} (hk : k < E.length) : (firstP E (E.getD k 0)).1 = k := by
  obtain ⟨h1, h2, h3⟩ := first_parts h (E.getD k 0)
  rcases Nat.lt_trichotomy (firstP E (E.getD k 0)).1 k with h4 | h4 | h4
  · have := h3 _ (Nat.le_refl _) (by omega)
    have := h _ _ h4 hk
    omega
  · exact h4
  · have := h2 k h4
    omega
theorem slI_at {E : List Int} (h : Up E) {k : Nat} (hk : k < E.length) : slI E (E.getD k 0) = 2 * (k : Int) := by
  unfold slI
  rw [first_at h hk, if_neg (by omega), if_pos rfl]
theorem slI_has {E : List Int} (h : Up E) {lo hi : Int} (h1 : lo ∈ E) (h2 : hi ∈ E) (x : Int) : (slI E lo ≤ slI E x ∧ slI E x ≤ slI E hi) ↔ (lo ≤ x ∧ x ≤ hi) := by
  obtain ⟨a, ha, rfl⟩ := mem_at h1
  obtain ⟨b, hb, rfl⟩ := mem_at h2
  rw [slI_at h ha, slI_at h hb]
  obtain ⟨p1, p2, p3⟩ := first_parts h x
  unfold slI
  generalize (firstP E x).1 = p at *
  split
  · rename_i hp
    constructor
    · omega
    · rintro ⟨_, h4⟩
      have := p2 b (by omega)
      omega
  · rename_i hp
    split
    · rename_i he
      have k1 : E.getD a 0 ≤ x ↔ a ≤ p := by
        constructor
        · intro h4
          rcases Nat.lt_or_ge p a with h5 | h5
          · have := h p a h5 ha
            omega
          · exact h5
        · intro h4
          have := h.le h4 (by omega : p < E.length)
          omega
      have k2 : x ≤ E.getD b 0 ↔ p ≤ b := by
        constructor
        · intro h4
          rcases Nat.lt_or_ge b p with h5 | h5
          · have := p2 b h5
            omega
          · exact h5
        · intro h4
          exact p3 b h4 hb
      rw [k1, k2]
      omega
    · rename_i he
      have k1 : E.getD a 0 ≤ x ↔ a < p := by
        constructor
        · intro h4
          rcases Nat.lt_or_ge a p with h5 | h5
          · exact h5
          · have := p3 p (Nat.le_refl _) (by omega)
            have := h.le h5 ha
            omega
        · intro h4
          have := p2 a h4
          omega
      have k2 : x ≤ E.getD b 0 ↔ p ≤ b := by
        constructor
        · intro h4
          rcases Nat.lt_or_ge b p with h5 | h5
          · have := p2 b h5
            omega
          · exact h5
        · intro h4
          exact p3 b h4 hb
      rw [k1, k2]
      omega

/-- the nodes at which a span stands -/
def cs (E : List Int) (s : S3) : List Nat := (cnF (ms E) (slI E s.1).toNat ((slI E s.2.1).toNat + 1)).1
/-- the nodes over a number's slot -/
def px (E : List Int) (x : Int) : List Nat := if slI E x < 0 then [] else ptF (ms E) (slI E x).toNat
theorem ends_at {E : List Int} (h : Up E) {s : S3} (h1 : s.1 ∈ E) (h2 : s.2.1 ∈ E) (h3 : s.1 ≤ s.2.1) :
    ∃ x y : Nat, slI E s.1 = x ∧ slI E s.2.1 = y ∧ x ≤ y ∧ y < ms E ∧ cs E s = (cnF (ms E) x (y + 1)).1 := by
  obtain ⟨a, ha, e1⟩ := mem_at h1
  obtain ⟨b, hb, e2⟩ := mem_at h2
  have k1 : slI E s.1 = 2 * (a : Int) := by rw [← e1]; exact slI_at h ha
  have k2 : slI E s.2.1 = 2 * (b : Int) := by rw [← e2]; exact slI_at h hb
  have hab : a ≤ b := by
    rcases Nat.lt_or_ge b a with h5 | h5
    · have := h b a h5 ha
      omega
    · exact h5
  refine ⟨2 * a, 2 * b, by rw [k1]; omega, by rw [k2]; omega, by omega, by unfold ms; omega, ?_⟩
  unfold cs
  rw [k1, k2, show (2 * (a : Int)).toNat = 2 * a by omega, show (2 * (b : Int)).toNat = 2 * b by omega]
theorem cs_met {E : List Int} (h : Up E) {s : S3} (h1 : s.1 ∈ E) (h2 : s.2.1 ∈ E) (h3 : s.1 ≤ s.2.1) (x : Int) : mt (cs E s) (px E x) = if stbB x s = true then 1 else 0 := by
  obtain ⟨a, b, e1, e2, hab, hb, hc⟩ := ends_at h h1 h2 h3
  have hs := slI_has h h1 h2 x
  have hst : (stbB x s = true) ↔ (s.1 ≤ x ∧ x ≤ s.2.1) := by simp [stbB]
  rw [← hs, e1, e2] at hst
  unfold px
  rcases slI_range h x with hx | ⟨hx0, hx⟩
  · rw [if_pos (by omega), if_neg (by rw [hst]; omega)]
    exact mt_none (by simp)
  · rw [if_neg (by omega), hc, cnF_met (by omega)]
    by_cases hq : stbB x s = true
    · rw [if_pos hq, if_pos]
      rw [hst] at hq
      omega
    · rw [if_neg hq, if_neg]
      rw [hst] at hq
      omega
theorem cn_once {x y : Nat} : ∀ t b f, (cn x y t b f).1.Nodup
  | .lf, b, f => by
    rw [cn]
    split <;> simp
  | .nd l r, b, f => by
    rw [cn]
    split
    · simp
    · split
      · simp
      · simp only
        rw [List.nodup_append]
        refine ⟨cn_once l b f, cn_once r _ _, fun p hp q hq e => ?_⟩
        have h1 := cn_range hp
        have h2 := cn_range hq
        have h3 := rt_lt b l
        omega
theorem cs_once (E : List Int) (s : S3) : (cs E s).Nodup := by
  unfold cs cnF
  split
  · simp
  · exact cn_once _ _ _
theorem pt_once (leaf : Nat) : ∀ t b f, (pt leaf t b f).Nodup
  | .lf, b, f => by simp [pt]
  | .nd l r, b, f => by
    have e1 := rt_lt b l
    have e2 := rt_lt (b + sz l) r
    have e3 := rt_nd b l r
    have := sz_pos l
    have := sz_pos r
    rw [pt_nd, List.nodup_cons]
    split
    · exact ⟨fun h => by have := pt_range h; omega, pt_once leaf l b f⟩
    · exact ⟨fun h => by have := pt_range h; omega, pt_once leaf r _ _⟩
theorem px_once (E : List Int) (x : Int) : (px E x).Nodup := by
  unfold px
  split
  · simp
  · exact pt_once _ _ _ _
theorem cs_few {E : List Int} (h : Up E) {s : S3} (h1 : s.1 ∈ E) (h2 : s.2.1 ∈ E) (h3 : s.1 ≤ s.2.1) {n : Nat} (hn : E.length ≤ 2 * n) (hn2 : n ≤ 400) : 1 ≤ (cs E s).length ∧ (cs E s).length ≤ 2 * lgN (4 * n + 4) := by
  obtain ⟨a, b, e1, e2, hab, hb, hc⟩ := ends_at h h1 h2 h3
  rw [hc]
  have hm : ms E ≤ 4 * n := by unfold ms; omega
  have k1 := cnF_ne (n := ms E) (x := a) (y := b + 1) (by omega) (by omega)
  have k2 := cnF_few (n := ms E) (x := a) (y := b + 1) (by omega) (by omega) (by unfold ms; omega)
  have k3 : lgI (ms E) ≤ lgN (4 * n + 4) := bl_mono (by omega) (by omega)
  have k4 : 1 ≤ lgN (4 * n + 4) := (lg_spec (by omega) (by omega)).1
  have k5 := List.length_pos_iff.2 k1
  refine ⟨by omega, ?_⟩
  omega
theorem rt_top {n : Nat} (h : 1 ≤ n) : rt 0 (tr n) = 2 * n - 2 := by unfold rt; rw [lv_tr h]; omega
theorem cs_lt {E : List Int} (h : Up E) {s : S3} (h1 : s.1 ∈ E) (h2 : s.2.1 ∈ E) (h3 : s.1 ≤ s.2.1) {k : Nat} (hk : k ∈ cs E s) : k < 2 * ms E - 1 := by
  obtain ⟨a, b, e1, e2, hab, hb, hc⟩ := ends_at h h1 h2 h3
  rw [hc] at hk
  unfold cnF at hk
  rw [if_neg (by omega)] at hk
  have := cn_range hk
  rw [rt_top (by omega)] at this
  omega
theorem px_lt {E : List Int} (h : Up E) {x : Int} {k : Nat} (hk : k ∈ px E x) : k < 2 * ms E - 1 := by
  unfold px at hk
  rcases slI_range h x with hx | ⟨hx0, hx⟩
  · rw [if_pos (by omega)] at hk
    simp at hk
  · rw [if_neg (by omega)] at hk
    have := pt_range hk
    rw [rt_top (by omega)] at this
    omega
theorem px_few {E : List Int} (h : Up E) (x : Int) {n : Nat} (hn : E.length ≤ 2 * n) (hn2 : n ≤ 400) : (firstP E x).2 + (px E x).length ≤ 2 * lgN (4 * n + 4) + 2 := by
  have h1 := (lk_looks (notLess E x) (n := E.length) (by omega)).2.1
  have h2 : lgN (E.length + 1) ≤ lgN (4 * n + 4) := bl_mono (by omega) (by omega)
  have h3 : (px E x).length ≤ lgN (4 * n + 4) + 1 := by
    unfold px
    rcases slI_range h x with hx | ⟨hx0, hx⟩
    · rw [if_pos (by omega)]
      simp
    · rw [if_neg (by omega)]
      have hm : ms E ≤ 4 * n := by unfold ms; omega
      have k2 := ptF_len (n := ms E) (leaf := (slI E x).toNat) (by omega) (by unfold ms; omega)
      have k3 : lgI (ms E) ≤ lgN (4 * n + 4) := bl_mono (by omega) (by omega)
      omega
  have h4 : (firstP E x).2 ≤ lgN (E.length + 1) := h1
  omega
end Go.Proofs.Ytgcimicbbadapaa
