/-
  A frame's nodes, one by one: which is a leaf, over what each is; plain lists, no program. No condition but those typed at each theorem.
-/
import Derived.Test.YtfcpfffgodljeaaGreatMFb
import Derived.Test.YtfcpfffgodljeaaGreatMLook
namespace Go.Proofs.YtfcpfffgodljeaaGreat
open Go.RowKit

def nf (n : Nd) : Int := n.2.2.2.1
def nt (n : Nd) : Int := n.2.2.2.2.1
/-- how many leaves -/
def lvc (L : List Nd) : Nat := L.countP (fun n => decide (nk n = 1))
theorem lvc_snoc (L : List Nd) (n : Nd) : lvc (L ++ [n]) = lvc L + (if nk n = 1 then 1 else 0) := by
  simp [lvc, List.countP_append, List.countP_cons]
theorem lvc_le (L : List Nd) : lvc L ≤ L.length := List.countP_le_length
/-- what stands behind these nodes: the next leaf, or a node over two of them that lie side by side -/
def PN (pre : List Nd) (n : Nd) : Prop :=
  n = (1, -1, -1, (lvc pre : Int), (lvc pre : Int) + 1, 0, (lvc pre : Int)) ∨
    ∃ (l r : Nat) (a b : Nd), pre[l]? = some a ∧ pre[r]? = some b ∧ n = (2, (l : Int), (r : Int), nf a, nt b, 0, 0) ∧ nt a = nf b ∧ nt b - nf b ≤ nt a - nf a ∧ nt a - nf a ≤ nt b - nf b + 1
def AllP (L : List Nd) : Prop := ∀ i n, L[i]? = some n → PN (L.take i) n
theorem AllP.nil : AllP [] := fun i n h => by simp at h
theorem AllP.snoc {L : List Nd} {n : Nd} (h : AllP L) (hn : PN L n) : AllP (L ++ [n]) := fun i m e => by
  by_cases hi : i < L.length
  · rw [List.getElem?_append_left hi] at e
    rw [List.take_append_of_le_length (by omega)]
    exact h i m e
  · rw [List.getElem?_append_right (by omega)] at e
    have hj : i - L.length = 0 := by
      have := (List.getElem?_eq_some_iff.1 e).1
      simp at this
      omega
    rw [hj] at e
    cases e
    have : i = L.length := by omega
    subst this
    simpa using hn
def bal : Tr → Prop
  | .lf => True
  | .nd l r => bal l ∧ bal r ∧ lv r ≤ lv l ∧ lv l ≤ lv r + 1
theorem bal_tr (m : Nat) : bal (tr m) := by
  induction m using Nat.strongRecOn with
  | _ m ih =>
    by_cases h2 : 2 ≤ m
    · rw [tr_two h2, bal, lv_tr (by omega), lv_tr (by omega)]
      exact ⟨ih _ (by omega), ih _ (by omega), by omega, by omega⟩
    · rw [tr_one (by omega)]
      trivial
theorem all_nds : ∀ t b f (A : List Nd), bal t → A.length = b → lvc A = f → AllP A → AllP (A ++ nds b f t) ∧ lvc (A ++ nds b f t) = f + lv t ∧ ∃ n, (A ++ nds b f t)[rt b t]? = some n ∧ nf n = f ∧ nt n = f + lv t
  | .lf, b, f, A, _, hb, hf, hA => by
    refine ⟨hA.snoc (.inl ?_), ?_, (1, -1, -1, (f : Int), ((f + 1 : Nat) : Int), 0, (f : Int)), ?_, rfl, ?_⟩
    · rw [hf]; simp
    · rw [nds, lvc_snoc, hf]; simp [nk, lv]
    · rw [nds, List.getElem?_append_right (by simp [rt, lv, hb])]; simp [rt, lv, hb]
    · simp [nt, lv]
  | .nd l r, b, f, A, hbal, hb, hf, hA => by
    obtain ⟨b1, b2, b3, b4⟩ := hbal
    obtain ⟨l1, l2, na, l3, l4, l5⟩ := all_nds l b f A b1 hb hf hA
    have hlen : (A ++ nds b f l).length = b + sz l := by rw [List.length_append, nds_len, hb]
    obtain ⟨r1, r2, nb, r3, r4, r5⟩ := all_nds r (b + sz l) (f + lv l) _ b2 hlen l2 l1
    have hlen2 : (A ++ nds b f l ++ nds (b + sz l) (f + lv l) r).length = b + sz l + sz r := by rw [List.length_append, nds_len, hlen]
    have e : A ++ nds b f (.nd l r) = A ++ nds b f l ++ nds (b + sz l) (f + lv l) r ++ [(2, (rt b l : Int), (rt (b + sz l) r : Int), (f : Int), ((f + (lv l + lv r) : Nat) : Int), 0, 0)] := by
      simp [nds]
    have hk : rt b l < (A ++ nds b f l).length := by rw [hlen]; have := rt_lt b l; omega
    rw [e]
    refine ⟨r1.snoc (.inr ⟨rt b l, rt (b + sz l) r, na, nb, ?_, r3, ?_, ?_, ?_, ?_⟩), ?_, (2, (rt b l : Int), (rt (b + sz l) r : Int), (f : Int), ((f + (lv l + lv r) : Nat) : Int), 0, 0), ?_, rfl, ?_⟩
    · rw [List.getElem?_append_left hk]; exact l3
    · rw [l4, r5]
      simp only [Prod.mk.injEq, true_and, and_true]
      omega
    · rw [l5, r4]; omega
    · rw [l4, l5, r4, r5]; omega
    · rw [l4, l5, r4, r5]; omega
    · rw [lvc_snoc, r2]; simp [nk, lv]; omega
    · rw [rt_nd, List.getElem?_append_right (by rw [hlen2]; exact Nat.le_refl _), hlen2]; simp
    · simp [nt, lv]
/-- over what a node is -/
theorem nds_bound : ∀ t b f, ∀ n ∈ nds b f t, (f : Int) ≤ nf n ∧ nf n < nt n ∧ nt n ≤ f + lv t
  | .lf, b, f, n, h => by
    simp only [nds, List.mem_singleton] at h
    subst h
    simp only [nf, nt, lv]
    omega
  | .nd l r, b, f, n, h => by
    have := lv_pos l
    have := lv_pos r
    simp only [nds, List.mem_append, List.mem_singleton] at h
    simp only [lv]
    rcases h with (h | h) | h
    · have := nds_bound l b f n h; omega
    · have := nds_bound r _ _ n h; omega
    · subst h
      simp only [nf, nt]
      omega
theorem ndN_pos {n : Nat} (h : 1 ≤ n) : ndN n = nds 0 0 (tr n) := by unfold ndN; rw [if_neg (by omega)]
theorem ndN_all (n : Nat) : AllP (ndN n) := by
  by_cases h : 1 ≤ n
  · rw [ndN_pos h]
    have := (all_nds (tr n) 0 0 [] (bal_tr n) rfl rfl AllP.nil).1
    simpa using this
  · unfold ndN
    rw [if_pos (by omega)]
    exact AllP.nil
theorem ndN_lvc (n : Nat) : lvc (ndN n) = n := by
  by_cases h : 1 ≤ n
  · rw [ndN_pos h]
    have := (all_nds (tr n) 0 0 [] (bal_tr n) rfl rfl AllP.nil).2.1
    rw [lv_tr h] at this
    simpa using this
  · unfold ndN
    rw [if_pos (by omega)]
    have : n = 0 := by omega
    subst this
    rfl
theorem ndN_top {n : Nat} (h : 1 ≤ n) : ∃ x, (ndN n)[2 * n - 2]? = some x ∧ nf x = 0 ∧ nt x = n := by
  rw [ndN_pos h]
  obtain ⟨x, h1, h2, h3⟩ := (all_nds (tr n) 0 0 [] (bal_tr n) rfl rfl AllP.nil).2.2
  rw [lv_tr h] at h3
  refine ⟨x, ?_, h2, by omega⟩
  have e : rt 0 (tr n) = 2 * n - 2 := by unfold rt; rw [lv_tr h]; omega
  rw [e] at h1
  simpa using h1
theorem ndN_bound {n i : Nat} {x : Nd} (e : (ndN n)[i]? = some x) : 0 ≤ nf x ∧ nf x < nt x ∧ nt x ≤ n := by
  by_cases h : 1 ≤ n
  · rw [ndN_pos h] at e
    have := nds_bound (tr n) 0 0 x (List.mem_of_getElem? e)
    rw [lv_tr h] at this
    omega
  · unfold ndN at e
    rw [if_pos (by omega)] at e
    simp at e
theorem ndN_height {n : Nat} (h : 1 ≤ n) (hn : n ≤ 1600) : (hl (ndN n))[2 * n - 2]? = some (lgI n : Int) := by
  rw [ndN_pos h]
  have h1 := hl_root (tr n) 0 0 [] rfl
  have e : rt 0 (tr n) = 2 * n - 2 := by unfold rt; rw [lv_tr h]; omega
  rw [e, ht_tr h (by omega)] at h1
  simpa [lgI] using h1
end Go.Proofs.YtfcpfffgodljeaaGreat
/-
  Canonical nodes of a range: they lie one behind the other over it, no two have one parent, they are few, and few nodes are entered; paths: from the root to a leaf, one of its nodes is canonical; plain lists, no program. No condition but those typed at each theorem.
-/
namespace Go.Proofs.YtfcpfffgodljeaaGreat
open Go.RowKit

/-- the nodes of a tree stand in the list, from the place b on -/
def SG (L : List Nd) (b f : Nat) (t : Tr) : Prop := ∀ i n, (nds b f t)[i]? = some n → L[b + i]? = some n
theorem SG.left {L : List Nd} {b f : Nat} {l r : Tr} (h : SG L b f (.nd l r)) : SG L b f l := fun i n e => h i n (by
  have hi := (List.getElem?_eq_some_iff.1 e).1
  rw [nds, List.append_assoc, List.getElem?_append_left hi]
  exact e)
theorem SG.right {L : List Nd} {b f : Nat} {l r : Tr} (h : SG L b f (.nd l r)) : SG L (b + sz l) (f + lv l) r := fun i n e => by
  have hi := (List.getElem?_eq_some_iff.1 e).1
  have := h (sz l + i) n (by
    rw [nds, List.getElem?_append_left (by rw [List.length_append, nds_len]; omega), List.getElem?_append_right (by rw [nds_len]; omega), nds_len, show sz l + i - sz l = i by omega]
    exact e)
  rwa [← Nat.add_assoc] at this
theorem SG.root {L : List Nd} {b f : Nat} {l r : Tr} (h : SG L b f (.nd l r)) : L[rt b (.nd l r)]? = some (2, (rt b l : Int), (rt (b + sz l) r : Int), (f : Int), ((f + (lv l + lv r) : Nat) : Int), 0, 0) := by
  have := h (sz l + sz r) (2, (rt b l : Int), (rt (b + sz l) r : Int), (f : Int), ((f + (lv l + lv r) : Nat) : Int), 0, 0) (by
    rw [nds, List.getElem?_append_right (by rw [List.length_append, nds_len, nds_len]; exact Nat.le_refl _), List.length_append, nds_len, nds_len]
    simp)
  rwa [rt_nd, Nat.add_assoc]
theorem SG.top {L : List Nd} {b f : Nat} {t : Tr} (h : SG L b f t) : ∃ n, L[rt b t]? = some n ∧ nf n = f ∧ nt n = ((f + lv t : Nat) : Int) := by
  cases t with
  | lf => exact ⟨(1, -1, -1, (f : Int), ((f + 1 : Nat) : Int), 0, (f : Int)), by have := h 0 _ rfl; simpa [rt, lv] using this, rfl, rfl⟩
  | nd l r => exact ⟨_, h.root, rfl, rfl⟩
theorem SG.all (n : Nat) (h : 1 ≤ n) : SG (ndN n) 0 0 (tr n) := fun i x e => by
  rw [ndN_pos h, Nat.zero_add]
  exact e

theorem cn_range {x y k : Nat} : ∀ {t b f}, k ∈ (cn x y t b f).1 → b ≤ k ∧ k ≤ rt b t
  | .lf, b, f, h => by
    rw [cn] at h
    split at h
    · simp at h
    · simp at h; subst h; simp [rt, lv]
  | .nd l r, b, f, h => by
    have e1 := rt_lt b l
    have e2 := rt_lt (b + sz l) r
    have e3 := rt_nd b l r
    have := sz_pos l
    have := sz_pos r
    rw [cn] at h
    split at h
    · simp at h
    · split at h
      · simp at h; subst h; omega
      · rcases List.mem_append.1 h with h | h
        · have := cn_range h; omega
        · have := cn_range h; omega
/-- these places lie one behind the other, from a leaf on, ahead of another one -/
def Ch (L : List Nd) : Nat → List Nat → Nat → Prop
  | s, [], e => s = e
  | s, k :: ks, e => ∃ n, L[k]? = some n ∧ nf n = s ∧ ∃ s2 : Nat, nt n = s2 ∧ s < s2 ∧ Ch L s2 ks e
theorem Ch.append {L : List Nd} : ∀ {ks ms : List Nat} {s e e2 : Nat}, Ch L s ks e → Ch L e ms e2 → Ch L s (ks ++ ms) e2
  | [], ms, s, e, e2, h, g => by
    have : s = e := h
    subst this
    exact g
  | k :: ks, ms, s, e, e2, ⟨n, h1, h2, s2, h3, h4, h5⟩, g => ⟨n, h1, h2, s2, h3, h4, h5.append g⟩
theorem Ch.le {L : List Nd} : ∀ {ks : List Nat} {s e : Nat}, Ch L s ks e → s ≤ e
  | [], s, e, h => Nat.le_of_eq h
  | k :: ks, s, e, ⟨n, h1, h2, s2, h3, h4, h5⟩ => by have := h5.le; omega
theorem cn_chain {L : List Nd} {x y : Nat} (hxy : x < y) : ∀ {t b f}, SG L b f t → ¬ (f + lv t ≤ x ∨ y ≤ f) → Ch L (max x f) (cn x y t b f).1 (min y (f + lv t))
  | .lf, b, f, h, ho => by
    rw [cn_in (by simp only [lv] at ho ⊢; omega)]
    obtain ⟨n, h1, h2, h3⟩ := h.top
    simp only [lv] at ho h3 ⊢
    exact ⟨n, h1, by rw [h2]; omega, f + 1, by rw [h3], by omega, show _ = _ by omega⟩
  | .nd l r, b, f, h, ho => by
    have := lv_pos l
    have := lv_pos r
    simp only [lv] at ho ⊢
    by_cases hi : x ≤ f ∧ f + (lv l + lv r) ≤ y
    · rw [cn_in (by simpa only [lv] using hi)]
      obtain ⟨n, h1, h2, h3⟩ := h.top
      simp only [lv] at h3
      exact ⟨n, h1, by rw [h2]; omega, f + (lv l + lv r), by rw [h3], by omega, show _ = _ by omega⟩
    · rw [cn_cut ho hi]
      by_cases hl : f + lv l ≤ x
      · have h2 := cn_chain hxy h.right (by omega)
        rw [cn_apart (t := l) (.inl hl)]
        rw [show max x (f + lv l) = max x f by omega, show min y (f + lv l + lv r) = min y (f + (lv l + lv r)) by omega] at h2
        exact h2
      · by_cases hr : y ≤ f + lv l
        · have h1 := cn_chain hxy h.left (by omega)
          rw [cn_apart (t := r) (.inr hr)]
          rw [show min y (f + lv l) = min y (f + (lv l + lv r)) by omega] at h1
          simpa using h1
        · have h1 := cn_chain hxy h.left (by omega)
          have h2 := cn_chain hxy h.right (by omega)
          rw [show min y (f + lv l) = f + lv l by omega] at h1
          rw [show max x (f + lv l) = f + lv l by omega, show min y (f + lv l + lv r) = min y (f + (lv l + lv r)) by omega] at h2
          exact h1.append h2
theorem cnF_chain {n x y : Nat} (hxy : x ≤ y) (hy : y ≤ n) : Ch (ndN n) x (cnF n x y).1 y := by
  unfold cnF
  split
  · assumption
  · have h := cn_chain (x := x) (y := y) (by omega) (SG.all n (by omega)) (by rw [lv_tr (by omega)]; omega)
    rw [lv_tr (by omega), show max x 0 = x by omega, show min y (0 + n) = y by omega] at h
    exact h
theorem cnF_ne {n x y : Nat} (hxy : x < y) (hy : y ≤ n) : (cnF n x y).1 ≠ [] := fun e => by
  have := cnF_chain (Nat.le_of_lt hxy) hy
  rw [e] at this
  have : x = y := this
  omega

/-- the kids of a tree's nodes stand in it, below its root -/
theorem kids_range : ∀ {t : Tr} {b f i : Nat} {n : Nd}, (nds b f t)[i]? = some n → nk n = 2 → (b : Int) ≤ nl n ∧ nl n < rt b t ∧ (b : Int) ≤ nr n ∧ nr n < rt b t
  | .lf, b, f, i, n, e, h => by
    have := List.mem_of_getElem? e
    simp only [nds, List.mem_singleton] at this
    subst this
    simp [nk] at h
  | .nd l r, b, f, i, n, e, h => by
    have e1 := rt_lt b l
    have e2 := rt_lt (b + sz l) r
    have e3 := rt_nd b l r
    have := sz_pos l
    have := sz_pos r
    have hm := List.mem_of_getElem? e
    simp only [nds, List.mem_append, List.mem_singleton] at hm
    rcases hm with (hm | hm) | hm
    · obtain ⟨j, hj⟩ := List.mem_iff_getElem?.1 hm
      have := kids_range hj h
      omega
    · obtain ⟨j, hj⟩ := List.mem_iff_getElem?.1 hm
      have := kids_range hj h
      omega
    · subst hm
      simp only [nl, nr]
      omega
/-- who has a canonical kid is not over leaves of the range alone -/
theorem cn_parent {x y k : Nat} : ∀ {t : Tr} {b f i : Nat} {n : Nd}, (nds b f t)[i]? = some n → nk n = 2 → (nl n = k ∨ nr n = k) → k ∈ (cn x y t b f).1 → ¬ ((x : Int) ≤ nf n ∧ nt n ≤ y)
  | .lf, b, f, i, n, e, h, _, _ => by
    have := List.mem_of_getElem? e
    simp only [nds, List.mem_singleton] at this
    subst this
    simp [nk] at h
  | .nd l r, b, f, i, n, e, h, hk, hc => by
    have e1 := rt_lt b l
    have e2 := rt_lt (b + sz l) r
    have e3 := rt_nd b l r
    have := sz_pos l
    have := sz_pos r
    have hkr := kids_range e h
    by_cases ha : f + (lv l + lv r) ≤ x ∨ y ≤ f
    · rw [cn_apart (by simpa only [lv] using ha)] at hc
      simp at hc
    · by_cases hi : x ≤ f ∧ f + (lv l + lv r) ≤ y
      · rw [cn_in (by simpa only [lv] using hi)] at hc
        simp at hc
        omega
      · rw [cn_cut ha hi] at hc
        have hm := List.mem_of_getElem? e
        simp only [nds, List.mem_append, List.mem_singleton] at hm
        rcases hm with (hm | hm) | hm
        · obtain ⟨j, hj⟩ := List.mem_iff_getElem?.1 hm
          have h5 := kids_range hj h
          rcases List.mem_append.1 hc with hc | hc
          · exact cn_parent hj h hk hc
          · have := cn_range hc; omega
        · obtain ⟨j, hj⟩ := List.mem_iff_getElem?.1 hm
          have h5 := kids_range hj h
          rcases List.mem_append.1 hc with hc | hc
          · have := cn_range hc; omega
          · exact cn_parent hj h hk hc
        · subst hm
          simp only [nf, nt]
          omega
theorem cn_inside {L : List Nd} {x y k : Nat} : ∀ {t b f}, SG L b f t → k ∈ (cn x y t b f).1 → ∃ n, L[k]? = some n ∧ (x : Int) ≤ nf n ∧ nt n ≤ y
  | .lf, b, f, h, hc => by
    by_cases ha : f + 1 ≤ x ∨ y ≤ f
    · rw [cn_apart (by simpa only [lv] using ha)] at hc
      simp at hc
    · rw [cn_in (by simp only [lv]; omega)] at hc
      simp at hc
      subst hc
      obtain ⟨n, h1, h2, h3⟩ := h.top
      simp only [lv] at h3
      exact ⟨n, h1, by omega, by omega⟩
  | .nd l r, b, f, h, hc => by
    by_cases ha : f + (lv l + lv r) ≤ x ∨ y ≤ f
    · rw [cn_apart (by simpa only [lv] using ha)] at hc
      simp at hc
    · by_cases hi : x ≤ f ∧ f + (lv l + lv r) ≤ y
      · rw [cn_in (by simpa only [lv] using hi)] at hc
        simp at hc
        subst hc
        obtain ⟨n, h1, h2, h3⟩ := h.top
        simp only [lv] at h3
        exact ⟨n, h1, by omega, by omega⟩
      · rw [cn_cut ha hi] at hc
        rcases List.mem_append.1 hc with hc | hc
        · exact cn_inside h.left hc
        · exact cn_inside h.right hc

/-- few, if the range goes on to one end of the leaves -/
theorem cn_few1 (x y : Nat) : ∀ t b f, (x ≤ f ∨ f + lv t ≤ y) → (cn x y t b f).2 ≤ 2 * ht t + 1 ∧ (¬ (x ≤ f ∧ f + lv t ≤ y) → (cn x y t b f).1.length ≤ ht t)
  | .lf, b, f, h => by
    rw [cn]
    simp only [lv] at h ⊢
    split
    · simp [ht]
    · simp [ht]; omega
  | .nd l r, b, f, h => by
    have := lv_pos l
    have := lv_pos r
    have h1 := cn_few1 x y l b f
    have h2 := cn_few1 x y r (b + sz l) (f + lv l)
    simp only [lv] at h ⊢
    by_cases ha : f + (lv l + lv r) ≤ x ∨ y ≤ f
    · rw [cn_apart (by simpa only [lv] using ha)]
      simp
    · by_cases hi : x ≤ f ∧ f + (lv l + lv r) ≤ y
      · rw [cn_in (by simpa only [lv] using hi)]
        simp [hi]
      · rw [cn_cut ha hi]
        simp only [ht, List.length_append]
        refine ⟨?_, fun _ => ?_⟩
        · by_cases al : f + lv l ≤ x ∨ y ≤ f
          · rw [cn_apart (t := l) al]
            have := h2 (by omega)
            simp only
            omega
          · by_cases ar : f + lv l + lv r ≤ x ∨ y ≤ f + lv l
            · rw [cn_apart (t := r) ar]
              have := h1 (by omega)
              simp only
              omega
            · by_cases il : x ≤ f ∧ f + lv l ≤ y
              · rw [cn_in (t := l) il]
                have := h2 (by omega)
                simp only
                omega
              · rw [cn_in (t := r) (by omega)]
                have := h1 (by omega)
                simp only
                omega
        · by_cases al : f + lv l ≤ x ∨ y ≤ f
          · rw [cn_apart (t := l) al]
            by_cases ir : x ≤ f + lv l ∧ f + lv l + lv r ≤ y
            · rw [cn_in (t := r) ir]
              simp
            · have := (h2 (by omega)).2 ir
              simp
              omega
          · by_cases ar : f + lv l + lv r ≤ x ∨ y ≤ f + lv l
            · rw [cn_apart (t := r) ar]
              by_cases il : x ≤ f ∧ f + lv l ≤ y
              · rw [cn_in (t := l) il]
                simp
              · have := (h1 (by omega)).2 il
                simp
                omega
            · by_cases il : x ≤ f ∧ f + lv l ≤ y
              · rw [cn_in (t := l) il]
                have := (h2 (by omega)).2 (by omega)
                simp
                omega
              · rw [cn_in (t := r) (by omega)]
                have := (h1 (by omega)).2 il
                simp
                omega
theorem cn_few (x y : Nat) : ∀ t b f, (cn x y t b f).2 ≤ 4 * ht t + 1 ∧ (cn x y t b f).1.length ≤ max (2 * ht t) 1 ∧ (cn x y t b f).1.length ≤ (cn x y t b f).2
  | .lf, b, f => by
    rw [cn]
    split <;> simp [ht]
  | .nd l r, b, f => by
    have := lv_pos l
    have := lv_pos r
    have h1 := cn_few x y l b f
    have h2 := cn_few x y r (b + sz l) (f + lv l)
    have g1 := cn_few1 x y l b f
    have g2 := cn_few1 x y r (b + sz l) (f + lv l)
    by_cases ha : f + (lv l + lv r) ≤ x ∨ y ≤ f
    · rw [cn_apart (by simpa only [lv] using ha)]
      simp
    · by_cases hi : x ≤ f ∧ f + (lv l + lv r) ≤ y
      · rw [cn_in (by simpa only [lv] using hi)]
        simp
        omega
      · rw [cn_cut ha hi]
        simp only [ht, List.length_append]
        by_cases al : f + lv l ≤ x ∨ y ≤ f
        · rw [cn_apart (t := l) al] at h1 ⊢
          simp only [List.length_nil]
          omega
        · by_cases ar : f + lv l + lv r ≤ x ∨ y ≤ f + lv l
          · rw [cn_apart (t := r) ar] at h2 ⊢
            simp only [List.length_nil]
            omega
          · have k1 := g1 (by omega)
            have k2 := g2 (by omega)
            by_cases il : x ≤ f ∧ f + lv l ≤ y
            · have k3 := k2.2 (by omega)
              rw [cn_in (t := l) il] at h1 k1 ⊢
              simp only [List.length_singleton] at h1 k1 ⊢
              omega
            · have k3 := k1.2 il
              by_cases ir : x ≤ f + lv l ∧ f + lv l + lv r ≤ y
              · rw [cn_in (t := r) ir] at h2 k2 ⊢
                simp only [List.length_singleton] at h2 k2 ⊢
                omega
              · have k4 := k2.2 ir
                omega
theorem cnF_few {n x y : Nat} (hxy : x < y) (hy : y ≤ n) (hn : n ≤ 1600) : (cnF n x y).2 ≤ 4 * lgI n + 1 ∧ (cnF n x y).1.length ≤ max (2 * lgI n) 1 ∧ (cnF n x y).1.length ≤ (cnF n x y).2 := by
  unfold cnF
  rw [if_neg (by omega)]
  have := cn_few x y (tr n) 0 0
  rw [ht_tr (by omega) (by omega)] at this
  exact this
/-- of the canonical nodes, as the law asks them -/
theorem cnF_kid {n x y i : Nat} {m : Nd} (hxy : x < y) (hy : y ≤ n) (e : (ndN n)[i]? = some m) (h : nk m = 2) :
    ∃ l r : Nat, nl m = l ∧ nr m = r ∧ (l < 2 * n ∧ r < 2 * n) ∧ ¬ (l ∈ (cnF n x y).1 ∧ r ∈ (cnF n x y).1) ∧ ((l ∈ (cnF n x y).1 ∨ r ∈ (cnF n x y).1) → ¬ ((x : Int) ≤ nf m ∧ nt m ≤ y)) := by
  have hSG := SG.all n (by omega)
  have hall := ndN_all n i m e
  unfold cnF
  rw [if_neg (by omega)]
  have e' := e
  rw [ndN_pos (by omega)] at e'
  rcases hall with hm | ⟨l, r, a, b, h1, h2, hm, h3, -, -⟩
  · subst hm
    simp [nk] at h
  · have hl : (ndN n)[l]? = some a := by
      rw [List.getElem?_take] at h1
      split at h1
      · exact h1
      · cases h1
    have hr : (ndN n)[r]? = some b := by
      rw [List.getElem?_take] at h2
      split at h2
      · exact h2
      · cases h2
    have k1 : nl m = l := by rw [hm]; rfl
    have k2 : nr m = r := by rw [hm]; rfl
    have k3 : nf m = nf a := by rw [hm]; rfl
    have k4 : nt m = nt b := by rw [hm]; rfl
    refine ⟨l, r, k1, k2, ⟨by have := (List.getElem?_eq_some_iff.1 hl).1; rw [ndN_len] at this; omega, by have := (List.getElem?_eq_some_iff.1 hr).1; rw [ndN_len] at this; omega⟩, fun ⟨c1, c2⟩ => ?_, fun hc => ?_⟩
    · have p1 := cn_parent e' h (.inl k1) c1
      obtain ⟨a', q1, q2, q3⟩ := cn_inside hSG c1
      obtain ⟨b', r1, r2, r3⟩ := cn_inside hSG c2
      rw [hl] at q1
      rw [hr] at r1
      cases q1
      cases r1
      omega
    · rcases hc with hc | hc
      · exact cn_parent e' h (.inl k1) hc
      · exact cn_parent e' h (.inr k2) hc
end Go.Proofs.YtfcpfffgodljeaaGreat
/-
  Paths: from the root to a leaf, kid by kid; of a leaf's path just one node is canonical, if the range has the leaf; plain lists, no program. No condition but those typed at each theorem.
-/
namespace Go.Proofs.YtfcpfffgodljeaaGreat
open Go.RowKit

/-- the path of a leaf -/
def ptF (n leaf : Nat) : List Nat := pt leaf (tr n) 0 0
theorem pt_range {leaf k : Nat} : ∀ {t b f}, k ∈ pt leaf t b f → b ≤ k ∧ k ≤ rt b t
  | .lf, b, f, h => by simp [pt] at h; subst h; simp [rt, lv]
  | .nd l r, b, f, h => by
    have e1 := rt_lt b l
    have e2 := rt_lt (b + sz l) r
    have e3 := rt_nd b l r
    have := sz_pos l
    have := sz_pos r
    rw [pt_nd] at h
    rcases List.mem_cons.1 h with h | h
    · subst h; omega
    · split at h
      · have := pt_range h; omega
      · have := pt_range h; omega
/-- the nodes of a path: each over the leaf, each but the first a kid of the one ahead, the last one the leaf -/
def PW (L : List Nd) (leaf : Nat) : Nat → List Nat → Prop
  | k, [] => ∃ n, L[k]? = some n ∧ n = (1, -1, -1, (leaf : Int), (leaf : Int) + 1, 0, (leaf : Int))
  | k, j :: ks => (∃ n, L[k]? = some n ∧ nf n ≤ leaf ∧ (leaf : Int) < nt n ∧ (nl n = j ∨ nr n = j)) ∧ PW L leaf j ks
theorem pt_walk {L : List Nd} {leaf : Nat} : ∀ {t b f}, SG L b f t → f ≤ leaf → leaf < f + lv t → ∃ tl, pt leaf t b f = rt b t :: tl ∧ PW L leaf (rt b t) tl
  | .lf, b, f, h, h1, h2 => by
    have h3 := h 0 _ rfl
    simp only [lv] at h2
    obtain rfl : f = leaf := by omega
    refine ⟨[], by simp [pt, rt, lv], _, by simpa [rt, lv] using h3, ?_⟩
    simp
  | .nd l r, b, f, h, h1, h2 => by
    have h3 := h.root
    simp only [lv] at h2
    rw [pt_nd]
    by_cases hc : leaf < f + lv l
    · rw [if_pos hc]
      obtain ⟨tl, e, hp⟩ := pt_walk h.left h1 hc
      rw [e]
      exact ⟨_, rfl, ⟨_, h3, by simp only [nf]; omega, by simp only [nt]; omega, .inl rfl⟩, hp⟩
    · rw [if_neg hc]
      obtain ⟨tl, e, hp⟩ := pt_walk (leaf := leaf) h.right (by omega) (by omega)
      rw [e]
      exact ⟨_, rfl, ⟨_, h3, by simp only [nf]; omega, by simp only [nt]; omega, .inr rfl⟩, hp⟩
theorem PW.at {L : List Nd} {leaf : Nat} : ∀ {ks : List Nat} {k i j : Nat}, PW L leaf k ks → (k :: ks)[i]? = some j →
    ∃ n, L[j]? = some n ∧ nf n ≤ leaf ∧ (leaf : Int) < nt n ∧ (∀ i0, i = i0 + 1 → ∃ p m, (k :: ks)[i0]? = some p ∧ L[p]? = some m ∧ (nl m = j ∨ nr m = j)) ∧ (i = ks.length → n = (1, -1, -1, (leaf : Int), (leaf : Int) + 1, 0, (leaf : Int)))
  | [], k, i, j, ⟨n, h1, h2⟩, e => by
    have hi : i = 0 := by
      have := (List.getElem?_eq_some_iff.1 e).1
      simp at this
      omega
    subst hi
    simp at e
    subst e
    refine ⟨n, h1, ?_, ?_, fun i0 h => by omega, fun _ => h2⟩
    · rw [h2]; simp [nf]
    · rw [h2]; simp only [nt]; omega
  | q :: ks, k, i, j, ⟨⟨n, h1, h2, h3, h4⟩, h5⟩, e => by
    cases i with
    | zero =>
      simp at e
      subst e
      exact ⟨n, h1, h2, h3, fun i0 h => by omega, fun h => by simp at h⟩
    | succ i =>
      simp only [List.getElem?_cons_succ] at e
      obtain ⟨n2, g1, g2, g3, g4, g5⟩ := h5.at e
      refine ⟨n2, g1, g2, g3, fun i0 h => ?_, fun h => g5 (by simpa using h)⟩
      obtain rfl : i = i0 := by omega
      cases i with
      | zero =>
        simp at e
        subst e
        exact ⟨k, n, rfl, h1, h4⟩
      | succ i =>
        obtain ⟨p, m, k1, k2, k3⟩ := g4 i rfl
        exact ⟨p, m, by simpa using k1, k2, k3⟩
theorem ptF_walk {n leaf : Nat} (h : leaf < n) : ∃ tl, ptF n leaf = (2 * n - 2) :: tl ∧ PW (ndN n) leaf (2 * n - 2) tl := by
  have := pt_walk (leaf := leaf) (SG.all n (by omega)) (Nat.zero_le _) (by rw [lv_tr (by omega)]; omega)
  have e : rt 0 (tr n) = 2 * n - 2 := by unfold rt; rw [lv_tr (by omega)]; omega
  rw [e] at this
  exact this
theorem ptF_len {n leaf : Nat} (h : 1 ≤ n) (hn : n ≤ 1600) : (ptF n leaf).length ≤ lgI n + 1 := by
  have := (pt_len leaf (tr n) 0 0).2
  rw [ht_tr h (by omega)] at this
  exact this

/-- how many places of a path are among these -/
def mt (ks p : List Nat) : Nat := (ks.map (fun k => p.count k)).sum
theorem mt_nil (p : List Nat) : mt [] p = 0 := rfl
theorem mt_snoc (ks p : List Nat) (k : Nat) : mt (ks ++ [k]) p = mt ks p + p.count k := by simp [mt]
theorem mt_append (ks ms p : List Nat) : mt (ks ++ ms) p = mt ks p + mt ms p := by simp [mt]
theorem mt_none {ks p : List Nat} (h : ∀ k ∈ ks, k ∉ p) : mt ks p = 0 := by
  induction ks with
  | nil => rfl
  | cons k ks ih =>
    rw [show k :: ks = [k] ++ ks from rfl, mt_append, ih (fun k hk => h k (List.mem_cons_of_mem _ hk))]
    simp [mt, List.count_eq_zero.2 (h k (by simp))]
theorem mt_cons {ks p : List Nat} {x : Nat} (h : x ∉ ks) : mt ks (x :: p) = mt ks p := by
  induction ks with
  | nil => rfl
  | cons k ks ih =>
    rw [show k :: ks = [k] ++ ks from rfl, mt_append, mt_append, ih (fun hk => h (List.mem_cons_of_mem _ hk))]
    have : ¬ x = k := fun e => h (by simp [e])
    simp [mt, List.count_cons, this]
theorem cn_met {x y leaf : Nat} : ∀ {t b f}, f ≤ leaf → leaf < f + lv t → mt (cn x y t b f).1 (pt leaf t b f) = if x ≤ leaf ∧ leaf < y then 1 else 0
  | .lf, b, f, h1, h2 => by
    simp only [lv] at h2
    by_cases ha : f + 1 ≤ x ∨ y ≤ f
    · rw [cn_apart (by simpa only [lv] using ha), if_neg (by omega)]
      rfl
    · rw [cn_in (by simp only [lv]; omega), if_pos (by omega)]
      simp [mt, pt, rt, lv]
  | .nd l r, b, f, h1, h2 => by
    have e1 := rt_lt b l
    have e2 := rt_lt (b + sz l) r
    have e3 := rt_nd b l r
    have := sz_pos l
    have := sz_pos r
    simp only [lv] at h2
    by_cases ha : f + (lv l + lv r) ≤ x ∨ y ≤ f
    · rw [cn_apart (by simpa only [lv] using ha), if_neg (by omega)]
      rfl
    · by_cases hi : x ≤ f ∧ f + (lv l + lv r) ≤ y
      · rw [cn_in (by simpa only [lv] using hi), if_pos (by omega), pt_nd]
        have h0 : rt b (.nd l r) ∉ (if leaf < f + lv l then pt leaf l b f else pt leaf r (b + sz l) (f + lv l)) := by
          intro h
          split at h
          · have := pt_range h; omega
          · have := pt_range h; omega
        simp [mt, List.count_eq_zero.2 h0]
      · rw [cn_cut ha hi, pt_nd, mt_cons (fun h => by
          rcases List.mem_append.1 h with h | h
          · have := cn_range h; omega
          · have := cn_range h; omega), mt_append]
        by_cases hc : leaf < f + lv l
        · rw [if_pos hc, cn_met h1 hc, mt_none (fun k hk hp => by have := cn_range hk; have := pt_range hp; omega)]
          omega
        · rw [if_neg hc, cn_met (t := r) (by omega) (by omega), mt_none (fun k hk hp => by have := cn_range hk; have := pt_range hp; omega)]
          omega
theorem cnF_met {n x y leaf : Nat} (h : leaf < n) : mt (cnF n x y).1 (ptF n leaf) = if x ≤ leaf ∧ leaf < y then 1 else 0 := by
  unfold cnF ptF
  split
  · rw [if_neg (by omega)]
    rfl
  · exact cn_met (by omega) (by rw [lv_tr (by omega)]; omega)
/-- of one leaf -/
theorem cn_one {leaf : Nat} : ∀ {t b f}, f ≤ leaf → leaf < f + lv t → ∃ ini last, pt leaf t b f = ini ++ [last] ∧ cn leaf (leaf + 1) t b f = ([last], 2 * (pt leaf t b f).length - 1)
  | .lf, b, f, h1, h2 => by
    simp only [lv] at h2
    exact ⟨[], b, rfl, by rw [cn_in (by simp only [lv]; omega)]; simp [pt, rt, lv]⟩
  | .nd l r, b, f, h1, h2 => by
    have := lv_pos l
    have := lv_pos r
    simp only [lv] at h2
    have hl := (pt_len leaf l b f).1
    have hr := (pt_len leaf r (b + sz l) (f + lv l)).1
    rw [cn_cut (by omega) (by omega), pt_nd]
    by_cases hc : leaf < f + lv l
    · obtain ⟨ini, last, p1, p2⟩ := cn_one (leaf := leaf) (t := l) (b := b) h1 hc
      rw [if_pos hc, p2, cn_apart (t := r) (by omega), p1]
      rw [p1] at hl
      refine ⟨rt b (.nd l r) :: ini, last, rfl, ?_⟩
      simp only [List.append_nil, List.length_cons, Prod.mk.injEq, true_and]
      omega
    · obtain ⟨ini, last, p1, p2⟩ := cn_one (leaf := leaf) (t := r) (b := b + sz l) (f := f + lv l) (by omega) (by omega)
      rw [if_neg hc, p2, cn_apart (t := l) (by omega), p1]
      rw [p1] at hr
      refine ⟨rt b (.nd l r) :: ini, last, rfl, ?_⟩
      simp only [List.nil_append, List.length_cons, Prod.mk.injEq, true_and]
      omega
theorem cnF_one {n leaf : Nat} (h : leaf < n) : ∃ ini last, ptF n leaf = ini ++ [last] ∧ cnF n leaf (leaf + 1) = ([last], 2 * (ptF n leaf).length - 1) := by
  unfold cnF
  rw [if_neg (by omega)]
  exact cn_one (by omega) (by rw [lv_tr (by omega)]; omega)
end Go.Proofs.YtfcpfffgodljeaaGreat
