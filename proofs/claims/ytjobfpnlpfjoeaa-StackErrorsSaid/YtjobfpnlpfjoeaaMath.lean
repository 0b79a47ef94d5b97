/-
  Nodes in a row: which may be put, which are right, whose kid is who, how high they are, what lies below a root: plain lists, no program. No condition but those typed at each theorem.
-/
namespace Go.Proofs.Ytjobfpnlpfjoeaa

/-- a node: its kind, its two kids' places, the leaves below it (from, to), a number, a place -/
abbrev Nd := Int × Int × Int × Int × Int × Int × Int
def nk (n : Nd) : Int := n.1
def nl (n : Nd) : Int := n.2.1
def nr (n : Nd) : Int := n.2.2.1
def hasKid (n : Nd) (i : Int) : Bool := decide (nl n = i) || decide (nr n = i)
def kidB (N : List Nd) (i : Int) : Bool := N.any (fun n => hasKid n i)
def freeB (N : List Nd) (i : Int) : Bool := decide (0 ≤ i) && (decide (i < N.length) && !kidB N i)
/-- may n be put behind N? -/
def mayB (N : List Nd) (n : Nd) : Bool :=
  if nk n = 1 then decide (nl n = -1) && decide (nr n = -1)
  else decide (nk n = 2) && (!decide (nl n = nr n) && ((decide (nl n = -1) || freeB N (nl n)) && (decide (nr n = -1) || freeB N (nr n))))
/-- the places of the kids that there are -/
def ksL (n : Nd) : List Int := (if nl n = -1 then [] else [nl n]) ++ (if nr n = -1 then [] else [nr n])
/-- each of them may be put behind those ahead of it -/
def Rt (N : List Nd) : Prop := ∀ i n, N[i]? = some n → mayB (N.take i) n = true
def rtB (N : List Nd) : Bool := (List.range N.length).all fun i => (N[i]?).any (mayB (N.take i))
theorem rtB_iff (N : List Nd) : rtB N = true ↔ Rt N := by
  unfold rtB Rt
  simp only [List.all_eq_true, List.mem_range, Option.any_eq_true]
  constructor
  · intro h i n e
    obtain ⟨m, h1, h2⟩ := h i (List.getElem?_eq_some_iff.1 e).1
    rw [e] at h1
    cases h1
    exact h2
  · intro h i hi
    exact ⟨N[i], List.getElem?_eq_getElem hi, h i _ (List.getElem?_eq_getElem hi)⟩
theorem Rt.nil : Rt [] := fun i n h => by simp at h
theorem Rt.take {N : List Nd} (h : Rt N) (k : Nat) : Rt (N.take k) := fun i n e => by
  rw [List.getElem?_take] at e
  split at e
  · rename_i hk
    have := h i n e
    rwa [List.take_take, Nat.min_eq_left (by omega)]
  · cases e
theorem Rt.snoc {N : List Nd} {n : Nd} (h : Rt N) (hm : mayB N n = true) : Rt (N ++ [n]) := fun i m e => by
  by_cases hi : i < N.length
  · rw [List.getElem?_append_left hi] at e
    rw [List.take_append_of_le_length (by omega)]
    exact h i m e
  · rw [List.getElem?_append_right (by omega)] at e
    have hj : i - N.length = 0 := by
      have := (List.getElem?_eq_some_iff.1 e).1
      simp at this
      omega
    rw [hj] at e
    cases e
    have : i = N.length := by omega
    subst this
    simpa using hm
theorem Rt.of_snoc {N : List Nd} {n : Nd} (h : Rt (N ++ [n])) : Rt N ∧ mayB N n = true := by
  have h1 := h.take N.length
  have h2 := h N.length n (by simp)
  simp at h1 h2
  exact ⟨h1, h2⟩
theorem snoc_ind {α : Type} {P : List α → Prop} (h0 : P []) (h1 : ∀ l a, P l → P (l ++ [a])) : ∀ l, P l := by
  suffices h : ∀ l : List α, P l.reverse by
    intro l
    have := h l.reverse
    rwa [List.reverse_reverse] at this
  intro l
  induction l with
  | nil => exact h0
  | cons a l ih => rw [List.reverse_cons]; exact h1 _ _ ih

theorem mem_ksL {n : Nd} {x : Int} : x ∈ ksL n ↔ x ≠ -1 ∧ (nl n = x ∨ nr n = x) := by
  unfold ksL
  by_cases h1 : nl n = -1 <;> by_cases h2 : nr n = -1 <;> simp [h1, h2] <;> omega
theorem ksL_len (n : Nd) : (ksL n).length ≤ 2 := by
  unfold ksL
  by_cases h1 : nl n = -1 <;> by_cases h2 : nr n = -1 <;> simp [h1, h2]
theorem freeB_iff {N : List Nd} {i : Int} : freeB N i = true ↔ 0 ≤ i ∧ i < N.length ∧ kidB N i = false := by simp [freeB]
/-- the kids of a node that may be put -/
theorem may_kid {N : List Nd} {n : Nd} (h : mayB N n = true) {x : Int} (hx : x ∈ ksL n) : 0 ≤ x ∧ x < N.length ∧ kidB N x = false := by
  rw [mem_ksL] at hx
  unfold mayB at h
  split at h
  · simp at h
    omega
  · simp only [Bool.and_eq_true, Bool.or_eq_true, decide_eq_true_eq] at h
    obtain ⟨_, _, h3, h4⟩ := h
    rcases hx.2 with e | e
    · subst e
      rcases h3 with h3 | h3
      · omega
      · exact freeB_iff.1 h3
    · subst e
      rcases h4 with h4 | h4
      · omega
      · exact freeB_iff.1 h4
theorem may_leaf {N : List Nd} {n : Nd} (h : mayB N n = true) (h1 : nk n = 1) : nl n = -1 ∧ nr n = -1 := by
  unfold mayB at h
  rw [if_pos h1] at h
  simpa using h
theorem may_inner {N : List Nd} {n : Nd} (h : mayB N n = true) (h1 : ¬ nk n = 1) : nk n = 2 ∧ nl n ≠ nr n := by
  unfold mayB at h
  rw [if_neg h1] at h
  simp only [Bool.and_eq_true, decide_eq_true_eq, Bool.not_eq_true', decide_eq_false_iff_not] at h
  exact ⟨h.1, h.2.1⟩
theorem may_nodup {N : List Nd} {n : Nd} (h : mayB N n = true) : (ksL n).Nodup := by
  by_cases h1 : nk n = 1
  · obtain ⟨h2, h3⟩ := may_leaf h h1
    simp [ksL, h2, h3]
  · have h2 := (may_inner h h1).2
    unfold ksL
    by_cases h3 : nl n = -1 <;> by_cases h4 : nr n = -1 <;> simp [h3, h4, h2]
theorem Rt.kid {N : List Nd} (h : Rt N) {i : Nat} {n : Nd} (e : N[i]? = some n) {x : Int} (hx : x ∈ ksL n) : 0 ≤ x ∧ x < i := by
  obtain ⟨h1, h2, _⟩ := may_kid (h i n e) hx
  rw [List.length_take] at h2
  omega
theorem kidB_snoc (N : List Nd) (n : Nd) (i : Int) : kidB (N ++ [n]) i = (kidB N i || hasKid n i) := by simp [kidB]
theorem hasKid_mem {n : Nd} {i : Int} (h : 0 ≤ i) : hasKid n i = true ↔ i ∈ ksL n := by
  rw [mem_ksL]
  simp [hasKid]
  omega
/-- nobody has a kid behind himself -/
theorem Rt.none {N : List Nd} (h : Rt N) {i : Int} (hi : (N.length : Int) ≤ i) : kidB N i = false := by
  unfold kidB
  rw [List.any_eq_false]
  intro n hn
  obtain ⟨j, hj⟩ := List.mem_iff_getElem?.1 hn
  rw [hasKid_mem (by omega)]
  intro hx
  have := h.kid hj hx
  have := (List.getElem?_eq_some_iff.1 hj).1
  omega

/-! ### who is somebody's kid -/
def tk (N : List Nd) : List Bool := (List.range N.length).map (fun (i : Nat) => kidB N (i : Int))
def okT (T : List Bool) (x : Int) : Bool := decide (0 ≤ x) && (decide (x < T.length) && !(T.getD x.toNat true))
def setT (T : List Bool) (xs : List Int) : List Bool := xs.foldl (fun T x => T.set x.toNat true) T
def fitsB (n : Nd) (T : List Bool) : Bool :=
  if nk n = 1 then decide (nl n = -1) && decide (nr n = -1) else decide (nk n = 2) && (!decide (nl n = nr n) && (ksL n).all (okT T))
theorem tk_len (N : List Nd) : (tk N).length = N.length := by simp [tk]
theorem tk_get (N : List Nd) {i : Nat} (h : i < N.length) : (tk N)[i]? = some (kidB N i) := by simp [tk, h]
theorem okT_tk (N : List Nd) (x : Int) : okT (tk N) x = freeB N x := by
  unfold okT freeB
  rw [tk_len]
  by_cases h1 : 0 ≤ x
  · by_cases h2 : x < N.length
    · have h3 := tk_get N (i := x.toNat) (by omega)
      rw [Int.toNat_of_nonneg h1] at h3
      rw [List.getD_eq_getElem?_getD, h3]
      rfl
    · simp [h2]
  · simp [h1]
theorem fits_may (N : List Nd) (n : Nd) : fitsB n (tk N) = mayB N n := by
  unfold fitsB mayB ksL
  by_cases h1 : nk n = 1
  · rw [if_pos h1, if_pos h1]
  · rw [if_neg h1, if_neg h1]
    by_cases h2 : nl n = -1 <;> by_cases h3 : nr n = -1 <;> simp [h2, h3, okT_tk]
theorem setT_len (T : List Bool) (xs : List Int) : (setT T xs).length = T.length := by
  unfold setT
  induction xs generalizing T with
  | nil => rfl
  | cons x xs ih => rw [List.foldl_cons, ih]; simp
theorem setT_snoc (T : List Bool) (xs : List Int) (x : Int) : setT T (xs ++ [x]) = (setT T xs).set x.toNat true := by simp [setT]
theorem setT_get (T : List Bool) (xs : List Int) (hx : ∀ x ∈ xs, 0 ≤ x) {i : Nat} (hi : i < T.length) : (setT T xs)[i]? = some (T.getD i true || decide ((i : Int) ∈ xs)) := by
  unfold setT
  induction xs generalizing T with
  | nil => simp [hi]
  | cons x xs ih =>
    rw [List.foldl_cons, ih _ (fun y hy => hx y (by simp [hy])) (by simpa using hi)]
    have h0 := hx x (by simp)
    congr 1
    rw [List.getD_eq_getElem?_getD, List.getD_eq_getElem?_getD]
    by_cases e : x.toNat = i
    · have : (i : Int) = x := by omega
      rw [e, List.getElem?_set_self hi]
      simp [this]
    · have : ¬ (i : Int) = x := by omega
      rw [List.getElem?_set_ne e]
      simp [this]
def takeT (n : Nd) (T : List Bool) : List Bool := setT T (ksL n) ++ [false]
theorem take_tk {N : List Nd} {n : Nd} (hR : Rt N) (hm : mayB N n = true) : takeT n (tk N) = tk (N ++ [n]) := by
  apply List.ext_getElem?
  intro i
  unfold takeT
  by_cases hi : i < N.length
  · rw [List.getElem?_append_left (by rw [setT_len, tk_len]; exact hi), setT_get _ _ (fun x hx => (may_kid hm hx).1) (by rw [tk_len]; exact hi), tk_get _ (by simp; omega), kidB_snoc, List.getD_eq_getElem?_getD, tk_get _ hi]
    congr 1
    rw [Option.getD_some]
    congr 1
    rw [Bool.eq_iff_iff, decide_eq_true_eq, hasKid_mem (by omega)]
  · by_cases he : i = N.length
    · subst he
      rw [List.getElem?_append_right (by rw [setT_len, tk_len]; exact Nat.le_refl _), setT_len, tk_len, tk_get _ (by simp), kidB_snoc, hR.none (Int.le_refl _)]
      have : hasKid n (N.length : Int) = false := by
        rw [Bool.eq_false_iff]
        intro h
        have := (may_kid hm ((hasKid_mem (by omega)).1 h)).2.1
        omega
      rw [this]
      simp
    · rw [List.getElem?_eq_none (by simp [setT_len, tk_len]; omega), List.getElem?_eq_none (by rw [tk_len]; simp; omega)]

/-! ### heights -/
def hOf (H : List Int) (x : Int) : Int := H.getD x.toNat 0 + 1
def hUp (H : List Int) (a : Int) (x : Int) : Int := max a (hOf H x)
def hn (H : List Int) (n : Nd) : Int := (ksL n).foldl (hUp H) 0
def hl (N : List Nd) : List Int := N.foldl (fun H n => H ++ [hn H n]) []
theorem hl_snoc (N : List Nd) (n : Nd) : hl (N ++ [n]) = hl N ++ [hn (hl N) n] := by simp [hl]
theorem hl_len (N : List Nd) : (hl N).length = N.length := by
  induction N using snoc_ind with
  | h0 => rfl
  | h1 l a ih => rw [hl_snoc]; simp [ih]
theorem hl_take (N : List Nd) (k : Nat) : (hl N).take k = hl (N.take k) := by
  induction N using snoc_ind with
  | h0 => simp [hl]
  | h1 l a ih =>
    by_cases hk : k ≤ l.length
    · rw [hl_snoc, List.take_append_of_le_length (by rw [hl_len]; exact hk), List.take_append_of_le_length hk, ih]
    · rw [List.take_of_length_le (by rw [hl_len]; simp; omega), List.take_of_length_le (by simp; omega)]
theorem hl_get {N : List Nd} {i : Nat} {n : Nd} (e : N[i]? = some n) : (hl N)[i]? = some (hn (hl (N.take i)) n) := by
  have hi := (List.getElem?_eq_some_iff.1 e).1
  have h1 : (hl N).take (i + 1) = hl (N.take i) ++ [hn (hl (N.take i)) n] := by
    rw [hl_take, List.take_add_one, e]
    exact hl_snoc _ _
  have h2 : ((hl N).take (i + 1))[i]? = (hl N)[i]? := by rw [List.getElem?_take, if_pos (by omega)]
  rw [← h2, h1, List.getElem?_append_right (by rw [hl_len, List.length_take]; omega)]
  rw [hl_len, List.length_take, Nat.min_eq_left (by omega)]
  simp
/-- a height read at a kid's place is the same in the list as far as the parent's -/
theorem hOf_take {N : List Nd} {i : Nat} {x : Int} (h0 : 0 ≤ x) (hx : x < (i : Int)) : hOf (hl (N.take i)) x = hOf (hl N) x := by
  unfold hOf
  rw [← hl_take, List.getD_eq_getElem?_getD, List.getD_eq_getElem?_getD, List.getElem?_take, if_pos (by omega)]
theorem foldl_hUp_bound (H : List Int) (b : Int) (xs : List Int) (h : ∀ x ∈ xs, 1 ≤ hOf H x ∧ hOf H x ≤ b) (a : Int) (ha : 0 ≤ a ∧ a ≤ b) : 0 ≤ xs.foldl (hUp H) a ∧ xs.foldl (hUp H) a ≤ b := by
  induction xs generalizing a with
  | nil => exact ha
  | cons x xs ih =>
    rw [List.foldl_cons]
    have := h x (by simp)
    exact ih (fun y hy => h y (by simp [hy])) _ ⟨by unfold hUp; omega, by unfold hUp; omega⟩
theorem hl_bound {N : List Nd} (hR : Rt N) : ∀ (i : Nat) (h : Int), (hl N)[i]? = some h → 0 ≤ h ∧ h ≤ i := by
  suffices H : ∀ (k i : Nat) (h : Int), i < k → (hl N)[i]? = some h → 0 ≤ h ∧ h ≤ i from fun i h => H (i + 1) i h (by omega)
  intro k
  induction k with
  | zero => intro i h hk; omega
  | succ k ih =>
    intro i h hk e
    have hi : i < N.length := by rw [← hl_len]; exact (List.getElem?_eq_some_iff.1 e).1
    have e2 : N[i]? = some N[i] := List.getElem?_eq_getElem hi
    rw [hl_get e2] at e
    cases e
    refine foldl_hUp_bound _ _ _ (fun x hx => ?_) 0 ⟨by omega, by omega⟩
    obtain ⟨h0, h1⟩ := hR.kid e2 hx
    rw [hOf_take h0 h1]
    have h2 : (hl N)[x.toNat]? = some ((hl N)[x.toNat]'(by rw [hl_len]; omega)) := List.getElem?_eq_getElem _
    have h3 := ih x.toNat _ (by omega) h2
    unfold hOf
    rw [List.getD_eq_getElem?_getD, h2, Option.getD_some]
    omega
theorem hOf_bound {N : List Nd} (hR : Rt N) {x : Int} (h0 : 0 ≤ x) (hx : x < N.length) : 1 ≤ hOf (hl N) x ∧ hOf (hl N) x ≤ x + 1 := by
  have h2 : (hl N)[x.toNat]? = some ((hl N)[x.toNat]'(by rw [hl_len]; omega)) := List.getElem?_eq_getElem _
  have h3 := hl_bound hR _ _ h2
  unfold hOf
  rw [List.getD_eq_getElem?_getD, h2, Option.getD_some]
  omega

/-! ### what lies below a root -/
def dOf (D : List (List Nat)) (n : Nd) (i : Nat) : List Nat := i :: (ksL n).flatMap (fun x => D.getD x.toNat [])
def dl (N : List Nd) : List (List Nat) := N.foldl (fun D n => D ++ [dOf D n D.length]) []
theorem dl_snoc (N : List Nd) (n : Nd) : dl (N ++ [n]) = dl N ++ [dOf (dl N) n (dl N).length] := by simp [dl]
theorem dl_len (N : List Nd) : (dl N).length = N.length := by
  induction N using snoc_ind with
  | h0 => rfl
  | h1 l a ih => rw [dl_snoc]; simp [ih]
theorem dl_take (N : List Nd) (k : Nat) : (dl N).take k = dl (N.take k) := by
  induction N using snoc_ind with
  | h0 => simp [dl]
  | h1 l a ih =>
    by_cases hk : k ≤ l.length
    · rw [dl_snoc, List.take_append_of_le_length (by rw [dl_len]; exact hk), List.take_append_of_le_length hk, ih]
    · rw [List.take_of_length_le (by rw [dl_len]; simp; omega), List.take_of_length_le (by simp; omega)]
/-- below the place k: itself, and what is below its kids -/
def below (N : List Nd) (k : Nat) : List Nat := (dl N).getD k []
theorem below_snoc {N : List Nd} {n : Nd} {k : Nat} (hk : k < N.length) : below (N ++ [n]) k = below N k := by
  unfold below
  rw [dl_snoc, List.getD_eq_getElem?_getD, List.getD_eq_getElem?_getD, List.getElem?_append_left (by rw [dl_len]; exact hk)]
theorem below_last (N : List Nd) (n : Nd) : below (N ++ [n]) N.length = N.length :: (ksL n).flatMap (fun x => below N x.toNat) := by
  unfold below
  rw [dl_snoc, List.getD_eq_getElem?_getD, List.getElem?_append_right (by rw [dl_len]; exact Nat.le_refl _), dl_len, Nat.sub_self]
  rfl
theorem flatMap_congr' {α β : Type} {l : List α} {f g : α → List β} (h : ∀ x ∈ l, f x = g x) : l.flatMap f = l.flatMap g := by
  induction l with
  | nil => rfl
  | cons a l ih => rw [List.flatMap_cons, List.flatMap_cons, h a (by simp), ih (fun x hx => h x (by simp [hx]))]
theorem below_kids {N : List Nd} (hR : Rt N) {i : Nat} {n : Nd} (e : N[i]? = some n) : below N i = i :: (ksL n).flatMap (fun x => below N x.toNat) := by
  induction N using snoc_ind with
  | h0 => simp at e
  | h1 l a ih =>
    obtain ⟨hl, hm⟩ := hR.of_snoc
    by_cases hi : i < l.length
    · rw [List.getElem?_append_left hi] at e
      rw [below_snoc hi, ih hl e]
      congr 1
      exact flatMap_congr' (fun x hx => (below_snoc (by have := hl.kid e hx; omega)).symm)
    · have hj : i = l.length := by
        have := (List.getElem?_eq_some_iff.1 e).1
        simp at this
        omega
      subst hj
      simp at e
      subst e
      rw [below_last]
      congr 1
      exact flatMap_congr' (fun x hx => (below_snoc (by have := may_kid hm hx; omega)).symm)
def rootsL (N : List Nd) : List Nat := (List.range N.length).filter (fun (i : Nat) => !kidB N (i : Int))
theorem mem_rootsL {N : List Nd} {i : Nat} : i ∈ rootsL N ↔ i < N.length ∧ kidB N i = false := by simp [rootsL]
theorem rootsL_nodup (N : List Nd) : (rootsL N).Nodup := List.nodup_range.filter _
theorem rootsL_rise (N : List Nd) : (rootsL N).Pairwise (· < ·) := List.pairwise_lt_range.filter _
theorem rootsL_snoc {N : List Nd} {n : Nd} (hR : Rt N) (hm : mayB N n = true) : rootsL (N ++ [n]) = (rootsL N).filter (fun (i : Nat) => !decide ((i : Int) ∈ ksL n)) ++ [N.length] := by
  unfold rootsL
  rw [show (N ++ [n]).length = N.length + 1 by simp, List.range_succ, List.filter_append, List.filter_filter]
  congr 1
  · refine List.filter_congr (fun i hi => ?_)
    rw [kidB_snoc, Bool.not_or, Bool.and_comm]
    congr 2
    rw [Bool.eq_iff_iff, decide_eq_true_eq, hasKid_mem (by omega)]
  · have h1 : hasKid n (N.length : Int) = false := by
      rw [Bool.eq_false_iff]
      intro h
      have := (may_kid hm ((hasKid_mem (by omega)).1 h)).2.1
      omega
    simp [kidB_snoc, hR.none (Int.le_refl _), h1]
theorem filter_parts {α : Type} (p : α → Bool) (l : List α) : l.Perm (l.filter (fun x => !p x) ++ l.filter p) := by
  induction l with
  | nil => exact List.Perm.refl _
  | cons a l ih =>
    cases h : p a
    · simpa [h] using ih
    · simp only [List.filter_cons, h, Bool.not_true, if_false, if_true, Bool.false_eq_true]
      exact (ih.cons a).trans List.perm_middle.symm
theorem kids_perm {N : List Nd} {n : Nd} (hm : mayB N n = true) : ((rootsL N).filter (fun (i : Nat) => decide ((i : Int) ∈ ksL n))).Perm ((ksL n).map Int.toNat) := by
  have h1 : ((ksL n).map Int.toNat).Nodup := by
    have h2 := may_nodup hm
    rw [List.Nodup, List.pairwise_map]
    refine List.Pairwise.imp_of_mem (fun {a b} ha hb hne e => hne ?_) h2
    have := (may_kid hm ha).1
    have := (may_kid hm hb).1
    omega
  refine (List.perm_ext_iff_of_nodup ((rootsL_nodup N).filter _) h1).2 (fun i => ?_)
  rw [List.mem_filter, mem_rootsL, List.mem_map, decide_eq_true_eq]
  constructor
  · rintro ⟨_, h⟩
    exact ⟨i, h, by omega⟩
  · rintro ⟨x, hx, rfl⟩
    obtain ⟨h0, h2, h3⟩ := may_kid hm hx
    rw [Int.toNat_of_nonneg h0]
    exact ⟨⟨by omega, h3⟩, hx⟩
theorem flatMap_perm {α β : Type} {l m : List α} (h : l.Perm m) (f : α → List β) : (l.flatMap f).Perm (m.flatMap f) := by
  induction h with
  | nil => exact List.Perm.refl _
  | cons a _ ih => rw [List.flatMap_cons, List.flatMap_cons]; exact List.Perm.append_left _ ih
  | swap a b l =>
    rw [List.flatMap_cons, List.flatMap_cons, List.flatMap_cons, List.flatMap_cons, ← List.append_assoc, ← List.append_assoc]
    exact List.perm_append_comm.append_right _
  | trans _ _ h1 h2 => exact h1.trans h2
/-- each node is below just one root, once -/
theorem forest {N : List Nd} (hR : Rt N) : ((rootsL N).flatMap (below N)).Perm (List.range N.length) := by
  induction N using snoc_ind with
  | h0 => exact List.Perm.refl _
  | h1 l a ih =>
    obtain ⟨hl, hm⟩ := hR.of_snoc
    have ih := ih hl
    have h1 : (rootsL l).Perm ((rootsL l).filter (fun (i : Nat) => !decide ((i : Int) ∈ ksL a)) ++ (ksL a).map Int.toNat) :=
      (filter_parts (fun (i : Nat) => decide ((i : Int) ∈ ksL a)) _).trans (List.Perm.append_left _ (kids_perm hm))
    have h2 := (flatMap_perm h1 (below l)).symm.trans ih
    rw [List.flatMap_append, List.flatMap_map] at h2
    rw [rootsL_snoc hl hm, List.flatMap_append, show (l ++ [a]).length = l.length + 1 by simp, List.range_succ]
    rw [flatMap_congr' (l := (rootsL l).filter _) (g := below l) (fun x hx => below_snoc (mem_rootsL.1 (List.mem_filter.1 hx).1).1)]
    simp only [List.flatMap_cons, List.flatMap_nil, List.append_nil, below_last]
    refine List.perm_middle.trans ?_
    refine List.Perm.trans ?_ List.perm_append_comm
    exact h2.cons _
def kidsN (N : List Nd) : Nat := (N.map (fun n => (ksL n).length)).sum
theorem kidsN_snoc (N : List Nd) (n : Nd) : kidsN (N ++ [n]) = kidsN N + (ksL n).length := by simp [kidsN]
/-- as many roots as nodes, less all kids -/
theorem roots_len {N : List Nd} (hR : Rt N) : (rootsL N).length + kidsN N = N.length := by
  induction N using snoc_ind with
  | h0 => rfl
  | h1 l a ih =>
    obtain ⟨hl, hm⟩ := hR.of_snoc
    have ih := ih hl
    have h1 : (rootsL l).Perm ((rootsL l).filter (fun (i : Nat) => !decide ((i : Int) ∈ ksL a)) ++ (ksL a).map Int.toNat) :=
      (filter_parts (fun (i : Nat) => decide ((i : Int) ∈ ksL a)) _).trans (List.Perm.append_left _ (kids_perm hm))
    have h2 := h1.length_eq
    rw [List.length_append, List.length_map] at h2
    rw [rootsL_snoc hl hm, kidsN_snoc, List.length_append, List.length_append]
    simp only [List.length_cons, List.length_nil]
    omega
end Go.Proofs.Ytjobfpnlpfjoeaa
