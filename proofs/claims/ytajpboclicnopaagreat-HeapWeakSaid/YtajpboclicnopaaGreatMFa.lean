/-
  Nodes in a row: which may be put, which are right, whose kid is who, how high they are, what lies below a root: plain lists, no program. No condition but those typed at each theorem.
-/
import Derived.Test.YtajpboclicnopaaGreatMLook
import Derived.Test.YtajpboclicnopaaGreatMGen
namespace Go.Proofs.YtajpboclicnopaaGreat
/-- a node: its kind, its two kids' places, the leaves below it (from, to), a number, a place -/
abbrev Nd := Int × Int × Int × Int × Int × Int × Int
def nk (n : Nd) : Int := n.1
def nl (n : Nd) : Int := n.2.1
def nr (n : Nd) : Int := n.2.2.1
def hasKid (n : Nd) (i : Int) : Bool := decide (nl n = i) || decide (nr n = i)
def kidB (N : List Nd) (i : Int) : Bool := N.any (fun n => hasKid n i)
def freeB (N : List Nd) (i : Int) : Bool := decide (0 ≤ i) && (decide (i < N.length) && !kidB N i)
/-- may n be put behind N? -/
def mayB (N : List Nd) (n : Nd) : Bool :=
  if nk n = 1 then decide (nl n = -1) && decide (nr n = -1)
  else decide (nk n = 2) && (!decide (nl n = nr n) && ((decide (nl n = -1) || freeB N (nl n)) && (decide (nr n = -1) || freeB N (nr n))))
/-- the places of the kids that there are -/
def ksL (n : Nd) : List Int := (if nl n = -1 then [] else [nl n]) ++ (if nr n = -1 then [] else [nr n])
/-- each of them may be put behind those ahead of it -/
def Rt (N : List Nd) : Prop := ∀ i n, N[i]? = some n → mayB (N.take i) n = true
theorem Rt.nil : Rt [] := fun i n h => by simp at h
theorem Rt.take {N : List Nd} (h : Rt N) (k : Nat) : Rt (N.take k) := fun i n e => by
  rw [List.getElem?_take] at e
  split at e
  · rename_i hk
    have := h i n e
    rwa [List.take_take, Nat.min_eq_left (by omega)]
  · cases e
theorem Rt.snoc {N : List Nd} {n : Nd} (h : Rt N) (hm : mayB N n = true) : Rt (N ++ [n]) := fun i m e => by
  by_cases hi : i < N.length
  · rw [List.getElem?_append_left hi] at e
    rw [List.take_append_of_le_length (by omega)]
    exact h i m e
  · rw [List.getElem?_append_right (by omega)] at e
    have hj : i - N.length = 0 := by
      have := (List.getElem?_eq_some_iff.1 e).1
      simp at this
      omega
    rw [hj] at e
    cases e
    have : i = N.length := by omega
    subst this
    simpa using hm
theorem Rt.of_snoc {N : List Nd} {n : Nd} (h : Rt (N ++ [n])) : Rt N ∧ mayB N n = true := by
  have h1 := h.take N.length
  have h2 := h N.length n (by simp)
  simp at h1 h2
  exact ⟨h1, h2⟩
theorem mem_ksL {n : Nd} {x : Int} : x ∈ ksL n ↔ x ≠ -1 ∧ (nl n = x ∨ nr n = x) := by
  unfold ksL
  by_cases h1 : nl n = -1 <;> by_cases h2 : nr n = -1 <;> simp [h1, h2] <;> omega
theorem freeB_iff {N : List Nd} {i : Int} : freeB N i = true ↔ 0 ≤ i ∧ i < N.length ∧ kidB N i = false := by simp [freeB]
/-- the kids of a node that may be put -/
theorem may_kid {N : List Nd} {n : Nd} (h : mayB N n = true) {x : Int} (hx : x ∈ ksL n) : 0 ≤ x ∧ x < N.length ∧ kidB N x = false := by
  rw [mem_ksL] at hx
  unfold mayB at h
  split at h
  · simp at h
    omega
  · simp only [Bool.and_eq_true, Bool.or_eq_true, decide_eq_true_eq] at h
    obtain ⟨_, _, h3, h4⟩ := h
    rcases hx.2 with e | e
    · subst e
      rcases h3 with h3 | h3
      · omega
      · exact freeB_iff.1 h3
    · subst e
      rcases h4 with h4 | h4
      · omega
      · exact freeB_iff.1 h4
theorem Rt.kid {N : List Nd} (h : Rt N) {i : Nat} {n : Nd} (e : N[i]? = some n) {x : Int} (hx : x ∈ ksL n) : 0 ≤ x ∧ x < i := by
  obtain ⟨h1, h2, _⟩ := may_kid (h i n e) hx
  rw [List.length_take] at h2
  omega
theorem kidB_snoc (N : List Nd) (n : Nd) (i : Int) : kidB (N ++ [n]) i = (kidB N i || hasKid n i) := by simp [kidB]
theorem hasKid_mem {n : Nd} {i : Int} (h : 0 ≤ i) : hasKid n i = true ↔ i ∈ ksL n := by
  rw [mem_ksL]
  simp [hasKid]
  omega
/-- nobody has a kid behind himself -/
theorem Rt.none {N : List Nd} (h : Rt N) {i : Int} (hi : (N.length : Int) ≤ i) : kidB N i = false := by
  unfold kidB
  rw [List.any_eq_false]
  intro n hn
  obtain ⟨j, hj⟩ := List.mem_iff_getElem?.1 hn
  rw [hasKid_mem (by omega)]
  intro hx
  have := h.kid hj hx
  have := (List.getElem?_eq_some_iff.1 hj).1
  omega
/-! ### who is somebody's kid -/
def tk (N : List Nd) : List Bool := (List.range N.length).map (fun (i : Nat) => kidB N (i : Int))
def okT (T : List Bool) (x : Int) : Bool := decide (0 ≤ x) && (decide (x < T.length) && !(T.getD x.toNat true))
def setT (T : List Bool) (xs : List Int) : List Bool := xs.foldl (fun T x => T.set x.toNat true) T
def fitsB (n : Nd) (T : List Bool) : Bool :=
  if nk n = 1 then decide (nl n = -1) && decide (nr n = -1) else decide (nk n = 2) && (!decide (nl n = nr n) && (ksL n).all (okT T))
theorem tk_len (N : List Nd) : (tk N).length = N.length := by simp [tk]
theorem tk_get (N : List Nd) {i : Nat} (h : i < N.length) : (tk N)[i]? = some (kidB N i) := by simp [tk, h]
theorem okT_tk (N : List Nd) (x : Int) : okT (tk N) x = freeB N x := by
  unfold okT freeB
  rw [tk_len]
  by_cases h1 : 0 ≤ x
  · by_cases h2 : x < N.length
    · have h3 := tk_get N (i := x.toNat) (by omega)
      rw [Int.toNat_of_nonneg h1] at h3
      rw [List.getD_eq_getElem?_getD, h3]
      rfl
    · simp [h2]
  · simp [h1]
theorem fits_may (N : List Nd) (n : Nd) : fitsB n (tk N) = mayB N n := by
  unfold fitsB mayB ksL
  by_cases h1 : nk n = 1
  · rw [if_pos h1, if_pos h1]
  · rw [if_neg h1, if_neg h1]
    by_cases h2 : nl n = -1 <;> by_cases h3 : nr n = -1 <;> simp [h2, h3, okT_tk]
theorem setT_len (T : List Bool) (xs : List Int) : (setT T xs).length = T.length := by
  unfold setT
  induction xs generalizing T with
  | nil => rfl
  | cons x xs ih => rw [List.foldl_cons, ih]; simp
theorem setT_snoc (T : List Bool) (xs : List Int) (x : Int) : setT T (xs ++ [x]) = (setT T xs).set x.toNat true := by simp [setT]
theorem setT_get (T : List Bool) (xs : List Int) (hx : ∀ x ∈ xs, 0 ≤ x) {i : Nat} (hi : i < T.length) : (setT T xs)[i]? = some (T.getD i true || decide ((i : Int) ∈ xs)) := by
  unfold setT
  induction xs generalizing T with
  | nil => simp [hi]
  | cons x xs ih =>
    rw [List.foldl_cons, ih _ (fun y hy => hx y (by simp [hy])) (by simpa using hi)]
    have h0 := hx x (by simp)
    congr 1
    rw [List.getD_eq_getElem?_getD, List.getD_eq_getElem?_getD]
    by_cases e : x.toNat = i
    · have : (i : Int) = x := by omega
      rw [e, List.getElem?_set_self hi]
      simp [this]
    · have : ¬ (i : Int) = x := by omega
      rw [List.getElem?_set_ne e]
      simp [this]
def takeT (n : Nd) (T : List Bool) : List Bool := setT T (ksL n) ++ [false]
theorem take_tk {N : List Nd} {n : Nd} (hR : Rt N) (hm : mayB N n = true) : takeT n (tk N) = tk (N ++ [n]) := by
  apply List.ext_getElem?
  intro i
  unfold takeT
  by_cases hi : i < N.length
  · rw [List.getElem?_append_left (by rw [setT_len, tk_len]; exact hi), setT_get _ _ (fun x hx => (may_kid hm hx).1) (by rw [tk_len]; exact hi), tk_get _ (by simp; omega), kidB_snoc, List.getD_eq_getElem?_getD, tk_get _ hi]
    congr 1
    rw [Option.getD_some]
    congr 1
    rw [Bool.eq_iff_iff, decide_eq_true_eq, hasKid_mem (by omega)]
  · by_cases he : i = N.length
    · subst he
      rw [List.getElem?_append_right (by rw [setT_len, tk_len]; exact Nat.le_refl _), setT_len, tk_len, tk_get _ (by simp), kidB_snoc, hR.none (Int.le_refl _)]
      have : hasKid n (N.length : Int) = false := by
        rw [Bool.eq_false_iff]
        intro h
        have := (may_kid hm ((hasKid_mem (by omega)).1 h)).2.1
        omega
      rw [this]
      simp
    · rw [List.getElem?_eq_none (by simp [setT_len, tk_len]; omega), List.getElem?_eq_none (by rw [tk_len]; simp; omega)]
/-! ### heights -/
def hOf (H : List Int) (x : Int) : Int := H.getD x.toNat 0 + 1
def hUp (H : List Int) (a : Int) (x : Int) : Int := max a (hOf H x)
def hn (H : List Int) (n : Nd) : Int := (ksL n).foldl (hUp H) 0
def hl (N : List Nd) : List Int := N.foldl (fun H n => H ++ [hn H n]) []
/-! ### what lies below a root -/
def dOf (D : List (List Nat)) (n : Nd) (i : Nat) : List Nat := i :: (ksL n).flatMap (fun x => D.getD x.toNat [])
def dl (N : List Nd) : List (List Nat) := N.foldl (fun D n => D ++ [dOf D n D.length]) []
/-- below the place k: itself, and what is below its kids -/
def below (N : List Nd) (k : Nat) : List Nat := (dl N).getD k []
theorem filter_parts {α : Type} (p : α → Bool) (l : List α) : l.Perm (l.filter (fun x => !p x) ++ l.filter p) := by
  induction l with
  | nil => exact List.Perm.refl _
  | cons a l ih =>
    cases h : p a
    · simpa [h] using ih
    · simp only [List.filter_cons, h, Bool.not_true, if_false, if_true, Bool.false_eq_true]
      exact (ih.cons a).trans List.perm_middle.symm
end Go.Proofs.YtajpboclicnopaaGreat
/-
  Balanced trees over leaves in a row, as plain functions: their nodes, heights, canonical nodes of a range, paths. No condition but those typed at each theorem.
-/
namespace Go.Proofs.YtajpboclicnopaaGreat
inductive Tr where
  | lf
  | nd (l r : Tr)
/-- how many leaves -/
def lv : Tr → Nat
  | .lf => 1
  | .nd l r => lv l + lv r
theorem lv_pos : ∀ t, 1 ≤ lv t
  | .lf => Nat.le_refl _
  | .nd l r => by have := lv_pos l; have := lv_pos r; simp [lv]; omega
/-- the tree over so many leaves, by halves, the left one the greater -/
def tr (m : Nat) : Tr := if h : m < 2 then .lf else .nd (tr (m - m / 2)) (tr (m / 2))
termination_by m
decreasing_by all_goals omega
theorem tr_one {m : Nat} (h : m < 2) : tr m = .lf := by rw [tr, dif_pos h]
theorem tr_two {m : Nat} (h : 2 ≤ m) : tr m = .nd (tr (m - m / 2)) (tr (m / 2)) := by rw [tr, dif_neg (by omega)]
theorem lv_tr {m : Nat} (h : 1 ≤ m) : lv (tr m) = m := by
  induction m using Nat.strongRecOn with
  | _ m ih =>
    by_cases h2 : 2 ≤ m
    · rw [tr_two h2, lv, ih _ (by omega) (by omega), ih _ (by omega) (by omega)]
      omega
    · rw [tr_one (by omega), lv]
      omega
/-- how many nodes -/
def sz (t : Tr) : Nat := 2 * lv t - 1
/-- the root's place -/
def rt (b : Nat) (t : Tr) : Nat := b + (2 * lv t - 2)
/-- the nodes over leaves from f on, the first of which has the place b -/
def nds : Nat → Nat → Tr → List Nd
  | _, f, .lf => [(1, -1, -1, (f : Int), ((f + 1 : Nat) : Int), 0, (f : Int))]
  | b, f, .nd l r => nds b f l ++ nds (b + sz l) (f + lv l) r ++ [(2, (rt b l : Int), (rt (b + sz l) r : Int), (f : Int), ((f + (lv l + lv r) : Nat) : Int), 0, 0)]
theorem nds_len : ∀ t b f, (nds b f t).length = sz t
  | .lf, b, f => rfl
  | .nd l r, b, f => by
    have h1 := nds_len l b f
    have h2 := nds_len r (b + sz l) (f + lv l)
    have := lv_pos l
    have := lv_pos r
    rw [nds, List.length_append, List.length_append, h1, h2]
    simp [sz, lv]
    omega
theorem sz_pos (t : Tr) : 1 ≤ sz t := by have := lv_pos t; unfold sz; omega
theorem rt_lt (b : Nat) (t : Tr) : rt b t + 1 = b + sz t := by have := lv_pos t; unfold rt sz; omega
theorem rt_nd (b : Nat) (l r : Tr) : rt b (.nd l r) = b + sz l + sz r := by have := lv_pos l; have := lv_pos r; unfold rt sz; simp only [lv]; omega
theorem sz_nd (l r : Tr) : sz (.nd l r) = sz l + sz r + 1 := by have := lv_pos l; have := lv_pos r; unfold sz; simp only [lv]; omega
/-- all of them can be put -/
theorem put_all : ∀ t b f (N : List Nd), Rt N → N.length = b → Rt (N ++ nds b f t) ∧ (∀ x : Int, 0 ≤ x → x < b → kidB (N ++ nds b f t) x = kidB N x) ∧ kidB (N ++ nds b f t) (rt b t) = false
  | .lf, b, f, N, hR, hb => by
    have hm : mayB N (1, -1, -1, (f : Int), ((f + 1 : Nat) : Int), 0, (f : Int)) = true := by simp [mayB, nk, nl, nr]
    have hk : ∀ x : Int, 0 ≤ x → kidB (N ++ nds b f .lf) x = kidB N x := fun x hx => by
      have h1 : ¬ (-1 : Int) = x := by omega
      rw [nds, kidB_snoc]
      simp [hasKid, nl, nr, h1]
    exact ⟨hR.snoc hm, fun x hx _ => hk x hx, by rw [hk _ (by omega)]; exact hR.none (by simp [rt, lv, hb])⟩
  | .nd l r, b, f, N, hR, hb => by
    obtain ⟨l1, l2, l3⟩ := put_all l b f N hR hb
    have hlen : (N ++ nds b f l).length = b + sz l := by rw [List.length_append, nds_len, hb]
    obtain ⟨r1, r2, r3⟩ := put_all r (b + sz l) (f + lv l) _ l1 hlen
    have hlen2 : (N ++ nds b f l ++ nds (b + sz l) (f + lv l) r).length = b + sz l + sz r := by rw [List.length_append, nds_len, hlen]
    have e1 := rt_lt b l
    have e2 := rt_lt (b + sz l) r
    have := sz_pos l
    have := sz_pos r
    have e : N ++ nds b f (.nd l r) = N ++ nds b f l ++ nds (b + sz l) (f + lv l) r ++ [(2, (rt b l : Int), (rt (b + sz l) r : Int), (f : Int), ((f + (lv l + lv r) : Nat) : Int), 0, 0)] := by
      simp [nds]
    generalize hN2 : N ++ nds b f l ++ nds (b + sz l) (f + lv l) r = N2 at *
    have k1 : kidB N2 (rt b l) = false := by rw [r2 _ (by omega) (by omega)]; exact l3
    have f1 : freeB N2 (rt b l) = true := freeB_iff.2 ⟨by omega, by omega, k1⟩
    have f2 : freeB N2 (rt (b + sz l) r) = true := freeB_iff.2 ⟨by omega, by omega, r3⟩
    have hm : mayB N2 (2, (rt b l : Int), (rt (b + sz l) r : Int), (f : Int), ((f + (lv l + lv r) : Nat) : Int), 0, 0) = true := by
      have h1 : ¬ ((rt b l : Nat) : Int) = rt (b + sz l) r := by omega
      have h2 : ¬ ((rt b l : Nat) : Int) = -1 := by omega
      have h3 : ¬ ((rt (b + sz l) r : Nat) : Int) = -1 := by omega
      simp [mayB, nk, nl, nr, f1, f2, h1, h2, h3]
    rw [e]
    refine ⟨r1.snoc hm, fun x hx0 hx => ?_, ?_⟩
    · rw [kidB_snoc, r2 x hx0 (by omega), l2 x hx0 hx]
      have h1 : ¬ ((rt b l : Nat) : Int) = x := by unfold rt; omega
      have h2 : ¬ ((rt (b + sz l) r : Nat) : Int) = x := by unfold rt; omega
      simp [hasKid, nl, nr, h1, h2]
    · rw [kidB_snoc, rt_nd, r1.none (by rw [hlen2]; exact Int.le_refl _)]
      obtain ⟨X, hX⟩ : ∃ X : Int, X = ((b + sz l + sz r : Nat) : Int) := ⟨_, rfl⟩
      rw [← hX]
      have h1 : ¬ ((rt b l : Nat) : Int) = X := by omega
      have h2 : ¬ ((rt (b + sz l) r : Nat) : Int) = X := by omega
      simp [hasKid, nl, nr, h1, h2]
/-- the inner node may be put behind both halves -/
theorem may_top {l r : Tr} {b f : Nat} {N : List Nd} (hR : Rt N) (hb : N.length = b) :
    mayB (N ++ nds b f l ++ nds (b + sz l) (f + lv l) r) (2, (rt b l : Int), (rt (b + sz l) r : Int), (f : Int), ((f + (lv l + lv r) : Nat) : Int), 0, 0) = true := by
  have h := (put_all (.nd l r) b f N hR hb).1
  have e : N ++ nds b f (.nd l r) = N ++ nds b f l ++ nds (b + sz l) (f + lv l) r ++ [(2, (rt b l : Int), (rt (b + sz l) r : Int), (f : Int), ((f + (lv l + lv r) : Nat) : Int), 0, 0)] := by
    simp [nds]
  rw [e] at h
  exact h.of_snoc.2
theorem may_lf (N : List Nd) (f : Nat) : mayB N (1, -1, -1, (f : Int), ((f + 1 : Nat) : Int), 0, (f : Int)) = true := by simp [mayB, nk, nl, nr]
/-- how high -/
def ht : Tr → Nat
  | .lf => 0
  | .nd l r => max (ht l) (ht r) + 1
theorem ht_tr {m : Nat} (h : 1 ≤ m) (hm : m ≤ 2305843009213693952) : ht (tr m) = lgN m := by
  induction m using Nat.strongRecOn with
  | _ m ih =>
    by_cases h2 : 2 ≤ m
    · rw [tr_two h2, ht, ih _ (by omega) (by omega) (by omega), ih _ (by omega) (by omega) (by omega)]
      have h3 : lgN (m / 2) ≤ lgN (m - m / 2) := bl_mono (by omega) (by omega)
      have h4 : lgN m = lgN (m - m / 2) + 1 := by
        unfold lgN
        rw [Lib.bitLen_half (m - 1) (by omega) (by omega), show (m - 1) / 2 = m - m / 2 - 1 by omega]
        omega
      rw [h4]
      omega
    · rw [tr_one (by omega), ht, lg_small (by omega)]
/-- the canonical nodes of the leaves from x, ahead of y, and how many nodes are entered -/
def cn (x y : Nat) : Tr → Nat → Nat → List Nat × Nat
  | .lf, b, f => if f + 1 ≤ x ∨ y ≤ f then ([], 1) else ([b], 1)
  | .nd l r, b, f =>
    if f + (lv l + lv r) ≤ x ∨ y ≤ f then ([], 1) else if x ≤ f ∧ f + (lv l + lv r) ≤ y then ([rt b (.nd l r)], 1) else
      ((cn x y l b f).1 ++ (cn x y r (b + sz l) (f + lv l)).1, 1 + (cn x y l b f).2 + (cn x y r (b + sz l) (f + lv l)).2)
theorem cn_apart {x y : Nat} {t : Tr} {b f : Nat} (h : f + lv t ≤ x ∨ y ≤ f) : cn x y t b f = ([], 1) := by
  cases t with
  | lf => rw [cn]; exact if_pos h
  | nd l r => rw [cn]; exact if_pos h
theorem cn_in {x y : Nat} {t : Tr} {b f : Nat} (h : x ≤ f ∧ f + lv t ≤ y) : cn x y t b f = ([rt b t], 1) := by
  have := lv_pos t
  cases t with
  | lf => rw [cn, if_neg (by simp only [lv] at *; omega)]; simp [rt, lv]
  | nd l r => rw [cn, if_neg (by simp only [lv] at *; omega)]; exact if_pos h
theorem cn_cut {x y : Nat} {l r : Tr} {b f : Nat} (h1 : ¬ (f + (lv l + lv r) ≤ x ∨ y ≤ f)) (h2 : ¬ (x ≤ f ∧ f + (lv l + lv r) ≤ y)) :
    cn x y (.nd l r) b f = ((cn x y l b f).1 ++ (cn x y r (b + sz l) (f + lv l)).1, 1 + (cn x y l b f).2 + (cn x y r (b + sz l) (f + lv l)).2) := by rw [cn, if_neg h1, if_neg h2]
/-- where a leaf's nodes stand, from the root on -/
def pt (leaf : Nat) : Tr → Nat → Nat → List Nat
  | .lf, b, _ => [b]
  | .nd l r, b, f => rt b (.nd l r) :: (if leaf < f + lv l then pt leaf l b f else pt leaf r (b + sz l) (f + lv l))
theorem cn_len (x y : Nat) : ∀ t b f, (cn x y t b f).1.length ≤ lv t ∧ (cn x y t b f).2 ≤ sz t ∧ 1 ≤ (cn x y t b f).2
  | .lf, b, f => by rw [cn]; split <;> simp [lv, sz]
  | .nd l r, b, f => by
    have h1 := cn_len x y l b f
    have h2 := cn_len x y r (b + sz l) (f + lv l)
    have := lv_pos l
    have := lv_pos r
    have := sz_nd l r
    rw [cn]
    split
    · simp [lv]; omega
    · split
      · simp [lv]; omega
      · simp [lv]; omega
theorem pt_len (leaf : Nat) : ∀ t b f, 1 ≤ (pt leaf t b f).length ∧ (pt leaf t b f).length ≤ ht t + 1
  | .lf, b, f => by simp [pt, ht]
  | .nd l r, b, f => by
    have h1 := pt_len leaf l b f
    have h2 := pt_len leaf r (b + sz l) (f + lv l)
    rw [pt]
    simp only [List.length_cons, ht]
    split <;> omega
end Go.Proofs.YtajpboclicnopaaGreat
/-
  frame's part: size, root, isLeaf, halves. No condition but those typed at each theorem.
-/
namespace Go.Proofs.YtajpboclicnopaaGreat
open Go.RowKit
/-- a part: its first place, and its leaves from, ahead of to -/
def pvs (b f t : Nat) : List Value := [.int .i64 b, .int .i64 f, .int .i64 t]
def pv (b f t : Nat) : Value := .agg #[.int .i64 b, .int .i64 f, .int .i64 t]
theorem wrap64 {x : Int} (h : -9223372036854775808 ≤ x ∧ x ≤ 9223372036854775807) : IntKind.i64.wrap x = x := IntWalk.i64_in _ (by omega)
set_option maxRecDepth 100000 in
theorem size_any (b f m s : Nat) (w : World) (hm : 1 ≤ m) (hs : s + 1 = 2 * m) (h : b + f + m ≤ 100000) :
    Calls Tryz.prog 109 #[pv b f (f + m)] w fun e w' => e = .returned (.int .i64 s) ∧ w' = w.alloc (.cells (pvs b f (f + m)).toArray 174) := by
  unfold pv pvs
  obtain ⟨t, ht⟩ : ∃ t, t = f + m := ⟨_, rfl⟩
  rw [← ht]
  have HT := Lib.hid ht
  have hsub : (t : Int) - f = m := by omega
  clear ht
  go_enter Tryz.func109, Tryz.ntmps109
  go_wp2
  go_ret
  refine ⟨?_, rfl⟩
  go_num
set_option maxRecDepth 100000 in
theorem isLeaf_any (b f m : Nat) (w : World) (hm : 1 ≤ m) (h : b + f + m ≤ 100000) :
    Calls Tryz.prog 132 #[pv b f (f + m)] w fun e w' => e = .returned (.bool (decide (m = 1))) ∧ w' = w.alloc (.cells (pvs b f (f + m)).toArray 174) := by
  unfold pv pvs
  obtain ⟨t, ht⟩ : ∃ t, t = f + m := ⟨_, rfl⟩
  rw [← ht]
  have HT := Lib.hid ht
  have hsub : (t : Int) - f = m := by omega
  clear ht
  go_enter Tryz.func132, Tryz.ntmps132
  go_wp2
  go_ret
  exact ⟨retb (by simp; omega), rfl⟩
set_option maxRecDepth 100000 in
theorem root_any (b f m r : Nat) (w : World) (hm : 1 ≤ m) (hr : r + 2 = b + 2 * m) (h : b + f + m ≤ 100000) :
    Calls Tryz.prog 91 #[pv b f (f + m)] w fun e w' => e = .returned (.int .i64 r) ∧ Below w.heap.size w w' := by
  obtain ⟨z, hz⟩ : ∃ z, z + 1 = 2 * m := ⟨2 * m - 1, by omega⟩
  have HSZ := Lib.hid (fun X => size_any b f m z X hm hz h)
  unfold pv pvs at *
  obtain ⟨t, ht⟩ : ∃ t, t = f + m := ⟨_, rfl⟩
  rw [← ht] at HSZ
  rw [← ht]
  have HT := Lib.hid ht
  clear ht
  obtain ⟨w1, hw1⟩ : ∃ w1, w1 = w.alloc (.cells #[.int .i64 b, .int .i64 f, .int .i64 t] 174) := ⟨_, rfl⟩
  have q : ∀ k v, (pvs b f t)[k]? = some v → w1.cell? ⟨w.heap.size, k, none⟩ = some v := fun k v e => by
    rw [hw1, World.cell?_alloc_new]
    simpa [pvs] using e
  have q0 : ∀ s : Wd (Bw w1), s.w.cell? ⟨w.heap.size, 0, none⟩ = some (.int .i64 b) := fun s => Bw.cell s (q 0 _ rfl)
  have q1 : ∀ s : Wd (Bw w1), s.w.cell? ⟨w.heap.size, 1, none⟩ = some (.int .i64 f) := fun s => Bw.cell s (q 1 _ rfl)
  have q2 : ∀ s : Wd (Bw w1), s.w.cell? ⟨w.heap.size, 2, none⟩ = some (.int .i64 t) := fun s => Bw.cell s (q 2 _ rfl)
  have inst : Nonempty (Wd (Bw w1)) := ⟨⟨w1, Below.refl _ _⟩⟩
  have HB := Lib.hid (show Below w.heap.size w w1 by rw [hw1]; exact (Below.refl _ w).alloc (Nat.le_refl _) _)
  have hkp : Hid (∀ X w', Bw w1 X → Below X.heap.size X w' → Bw w1 w') := Lib.hid (fun X w' h hb => h.keep hb)
  have HC : Hid (∀ s : Wd (Bw w1), Calls Tryz.prog 109 #[.agg #[.int .i64 b, .int .i64 f, .int .i64 t]] s.w fun e w' => e = .returned (.int .i64 z) ∧ Below s.w.heap.size s.w w') := Lib.hid (fun s => (HSZ.out s.w).mono (by rintro e w' ⟨rfl, rfl⟩; exact ⟨rfl, (Below.refl _ s.w).alloc (Nat.le_refl _) _⟩))
  clear q
  go_enter Tryz.func91, Tryz.ntmps91
  go_upto_region 1 with fail
  rw [← hw1]
  clear hw1
  refine wp_region_wd (Bw w1) (by kernel_rfl) (by kernel_rfl) ((Below.refl _ w1).drew) ?_
  repeat (first | go_big_quiet_step (first | (go_at_call 109; with_reducible exact calls_wd hkp.out _ (HC.out _))) | quiet_step (first | (go_at_call 109; with_reducible exact calls_wd hkp.out _ (HC.out _))))
  refine wpQuiet_nil ?_
  rintro _ ⟨s, rfl⟩
  have HS := Lib.hid (HB.out.trans (Below.mono s.h HB.out.size))
  clear q0 q1 q2 inst
  go_wp2
  go_ret
  refine ⟨?_, HS.out⟩
  go_num
set_option maxRecDepth 100000 in
set_option maxHeartbeats 1600000 in
theorem halves_any (b f m a c z mid t : Nat) (w : World) (hm : 2 ≤ m) (ha : a = m - m / 2) (hc : c = m / 2) (hz : z + 1 = 2 * a) (hmid : mid = f + a) (ht : t = f + m) (h : b + f + m ≤ 100000) :
    Calls Tryz.prog 134 #[pv b f t] w fun e w' => e = .returned (.tuple #[pv b f mid, pv (b + z) mid t]) ∧ Below w.heap.size w w' := by
  have HSZ := Lib.hid (fun X => size_any b f a z X (by omega) hz (by omega))
  rw [← hmid] at HSZ
  have h1 : (t : Int) - f = m := by omega
  have h2 : (t : Int) - c = mid := by omega
  have h3 : Int.tdiv (m : Int) 2 = c := by rw [hc]; rfl
  have h4 : (b : Int) + z = ((b + z : Nat) : Int) := by omega
  have hle : b + z ≤ 300000 := by omega
  have HA := Lib.hid ha
  have HC := Lib.hid hc
  have HM := Lib.hid hmid
  have HT := Lib.hid ht
  clear ha hc hmid ht
  unfold pv pvs at *
  obtain ⟨bz, hbz⟩ : ∃ bz, bz = b + z := ⟨_, rfl⟩
  have hwr : IntKind.i64.wrap (bz : Int) = bz := wrap64 (by omega)
  rw [← hbz] at h4 ⊢
  clear hbz
  go_enter Tryz.func134, Tryz.ntmps134
  go_upto_region 3 with fail
  go_cut [] from 20 to 29 (fun wx => wx = ((((w.alloc (.cells #[.int .i64 b, .int .i64 f, .int .i64 t] 174)).alloc (.cells #[.int .i64 b, .int .i64 f, .int .i64 mid] 174)).alloc (.cells #[.int .i64 bz, .int .i64 mid, .int .i64 t] 174)).alloc (.cells #[.int .i64 b, .int .i64 f, .int .i64 mid] 174)).drew)
  case first =>
    go_region_with (go_at_call 109; (with_reducible refine (HSZ.out _).mono ?_); rintro e w4 ⟨rfl, rfl⟩)
    all_goals (go_wp2_with fail; go_meet; exact rfl)
  case rest =>
    subst hcut
    clear hwr h1 h2 h3 h4
    clear hle
    go_wp2
    go_region
    all_goals (go_wp2; refine bodyPost_ret (v := .tuple #[.agg #[.int .i64 b, .int .i64 f, .int .i64 mid], .agg #[.int .i64 bz, .int .i64 mid, .int .i64 t]]) ?_ rfl ⟨rfl, ?_⟩)
    · simp [results, Tryz.f134, go_sem]
    · exact ((((((Below.refl _ w).alloc (Nat.le_refl _) _).alloc (by simp) _).alloc (by simp; omega) _).alloc (by simp; omega) _).drew).drew
end Go.Proofs.YtajpboclicnopaaGreat
/-
  A frame in memory: New, Leaves, Root, and what is no part of its nodes. No condition but those typed at each theorem.
-/
namespace Go.Proofs.YtajpboclicnopaaGreat
open Go.RowKit
theorem Row.off {X w' : World} {n : Nat} {vs : List Value} {S : List Nat} (h : Row X n vs) (hb : Off S X w') (hn : n ∉ S) : Row w' n vs := fun k v e => hb.cell (h k v e) hn
theorem off_in {w X w' : World} {S T : List Nat} (hO : Off S w X) (hk : ∀ k ∈ T, k ∈ S ∨ w.heap.size ≤ k) (h : Off T X w') : Off S w w' :=
  ⟨h.os.trans hO.os, h.tape.trans hO.tape, h.output.trans hO.output, Nat.le_trans hO.size h.size, fun k hlt hkn => (h.block k (Nat.lt_of_lt_of_le hlt hO.size) (fun e => (hk k e).elim hkn (fun g => by omega))).trans (hO.block k hlt hkn)⟩
/-- a frame's cells -/
def FR (w : World) (B n : Nat) (d : Int) (pp : Value) : Prop := w.heap[B]? = some (.cells #[.pointer (some ⟨B, 0, none⟩), .int .u32 d, .int .i32 0, .int .u32 0, .int .i64 n, pp] 158 (0, 0))
section
variable {w w' : World} {B n : Nat} {d : Int} {pp : Value}
theorem FR.lt (h : FR w B n d pp) : B < w.heap.size := lt_of_block h
theorem FR.c0 (h : FR w B n d pp) : w.cell? ⟨B, 0, none⟩ = some (.pointer (some ⟨B, 0, none⟩)) := by simp [World.cell?, show w.heap[B]? = _ from h]
theorem FR.c1 (h : FR w B n d pp) : w.cell? ⟨B, 1, none⟩ = some (.int .u32 d) := by simp [World.cell?, show w.heap[B]? = _ from h]
theorem FR.c2 (h : FR w B n d pp) : w.cell? ⟨B, 2, none⟩ = some (.int .i32 0) := by simp [World.cell?, show w.heap[B]? = _ from h]
theorem FR.c4 (h : FR w B n d pp) : w.cell? ⟨B, 4, none⟩ = some (.int .i64 n) := by simp [World.cell?, show w.heap[B]? = _ from h]
theorem FR.c5 (h : FR w B n d pp) : w.cell? ⟨B, 5, none⟩ = some pp := by simp [World.cell?, show w.heap[B]? = _ from h]
theorem FR.fr (h : FR w B n d pp) (i : Nat) : w.frozen? ⟨B, i, none⟩ = false := by simp [World.frozen?, show w.heap[B]? = _ from h]
theorem FR.block (h : FR w B n d pp) (hb : w'.heap[B]? = w.heap[B]?) : FR w' B n d pp := hb.trans h
theorem FR.keep (h : FR w B n d pp) (hb : Below w.heap.size w w') : FR w' B n d pp := h.block (hb.block B h.lt)
end
/-- all nodes of a frame of n leaves -/
def ndN (n : Nat) : List Nd := if n = 0 then [] else nds 0 0 (tr n)
theorem ndN_len (n : Nat) : (ndN n).length = 2 * n - 1 := by
  unfold ndN
  split
  · subst_vars; rfl
  · rw [nds_len, sz, lv_tr (by omega)]
theorem Tryz.eqSameF (a : Addr) (w : World) : (binOp .eql 67 (.pointer (some a)) (.pointer (some a))).run Tryz.prog w = .ok (.bool true) w := by
  obtain ⟨j, hj⟩ := Option.isSome_iff_exists.1 (show (Tryz.prog.info? 158).isSome = true by kernel_rfl)
  exact run_eql_ptr_same w a Tryz.underlying67 hj
set_option maxRecDepth 100000 in
theorem fmade_yes (w : World) (B n : Nat) (d : Int) (pp : Value) (h : FR w B n d pp) :
    Calls Tryz.prog 75 #[.pointer (some ⟨B, 0, none⟩)] w fun e w' => e = .returned (.bool true) ∧ w' = w := by
  have c0 := h.c0
  have q := Tryz.eqSameF
  clear h
  go_enter Tryz.func75, Tryz.ntmps75
  go_wp2
  go_ret
  exact ⟨rfl, rfl⟩
set_option maxRecDepth 100000 in
theorem Leaves_any (w : World) (B n : Nat) (d : Int) (pp : Value) (h : FR w B n d pp) :
    Calls Tryz.prog 89 #[.pointer (some ⟨B, 0, none⟩)] w fun e w' => e = .returned (.int .i64 n) ∧ w' = w := by
  have HM := Lib.hid (fmade_yes w B n d pp h)
  have c4 := h.c4
  clear h
  go_enter Tryz.func89, Tryz.ntmps89
  go_wp2_with (go_at_call 75; (with_reducible refine HM.out.mono ?_); rintro e w1 ⟨rfl, rfl⟩)
  go_ret
  exact ⟨rfl, rfl⟩
set_option maxRecDepth 100000 in
theorem whole_any (w : World) (B n : Nat) (d : Int) (pp : Value) (h : FR w B n d pp) :
    Calls Tryz.prog 90 #[.pointer (some ⟨B, 1, none⟩)] w fun e w' => e = .returned (.agg #[.int .i64 0, .int .i64 0, .int .i64 n]) ∧ Below w.heap.size w w' := by
  have c4 := fun o => (h.keep ((Below.refl _ w).alloc (Nat.le_refl _) o)).c4
  clear h
  go_enter Tryz.func90, Tryz.ntmps90
  go_wp2
  refine bodyPost_ret (v := .agg #[.int .i64 0, .int .i64 0, .int .i64 n]) ?_ rfl ⟨rfl, (Below.refl _ w).alloc (Nat.le_refl _) _⟩
  simp [results, Tryz.f90, go_sem]
set_option maxRecDepth 100000 in
theorem FNew_any (w : World) (n : Nat) (h : n ≤ 17179869184) :
    Calls Tryz.prog 48 #[.int .i64 n] w fun e w' => e = .returned (.tuple #[.pointer (some ⟨w.heap.size, 0, none⟩), .int .i64 0]) ∧ FR w' w.heap.size n 0 (.pointer none) ∧ Below w.heap.size w w' := by
  have h1 : ¬ (n : Int) < 0 := by omega
  have h2 : ¬ 17179869184 < (n : Int) := by omega
  go_enter Tryz.func48, Tryz.ntmps48
  go_wp2
  go_ret2
  exact ⟨rfl, heap_alloc_new w _, (Below.refl _ w).alloc (Nat.le_refl _) _⟩
set_option maxRecDepth 100000 in
theorem Root_any (w : World) (B n r : Nat) (d : Int) (pp : Value) (h : FR w B n d pp) (hn : 1 ≤ n) (hr : r + 2 = 2 * n) (hm : n ≤ 8000) :
    Calls Tryz.prog 61 #[.pointer (some ⟨B, 0, none⟩)] w fun e w' => e = .returned (.int .i64 r) ∧ Below w.heap.size w w' := by
  have HM := Lib.hid (Leaves_any w B n d pp h)
  have HW := Lib.hid (whole_any w B n d pp h)
  have HR : Hid (∀ X, Calls Tryz.prog 91 #[.agg #[.int .i64 0, .int .i64 0, .int .i64 n]] X fun e w' => e = .returned (.int .i64 r) ∧ Below X.heap.size X w') := Lib.hid (fun X => by have := root_any 0 0 n r X hn (by omega) (by omega); rwa [Nat.zero_add] at this)
  have hz : ((n : Int) == 0) = false := by simp; omega
  clear h hr hn
  go_enter Tryz.func61, Tryz.ntmps61
  go_wp2_with (first
    | (go_at_call 89; (with_reducible refine HM.out.mono ?_); rintro e w1 ⟨rfl, rfl⟩)
    | (go_at_call 90; (with_reducible refine HW.out.mono ?_); rintro e w1 ⟨rfl, hb⟩; have HB1 := Lib.hid hb; clear hb)
    | (go_at_call 91; (with_reducible refine (HR.out _).mono ?_); rintro e w2 ⟨rfl, hb⟩; have HB := Lib.hid (HB1.out.trans (hb.mono HB1.out.size)); clear hb))
  go_ret
  exact ⟨rfl, HB.out⟩
end Go.Proofs.YtajpboclicnopaaGreat
