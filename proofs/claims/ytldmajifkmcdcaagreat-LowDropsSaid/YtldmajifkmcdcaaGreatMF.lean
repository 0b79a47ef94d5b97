/-
  Nodes in a row: which may be put, which are right, whose kid is who, how high they are, what lies below a root: plain lists, no program. No condition but those typed at each theorem.
-/
import Derived.Test.YtldmajifkmcdcaaGreatMLook
import Derived.Test.YtldmajifkmcdcaaGreatMGen
namespace Go.Proofs.YtldmajifkmcdcaaGreat
/-- a node: its kind, its two kids' places, the leaves below it (from, to), a number, a place -/
abbrev Nd := Int × Int × Int × Int × Int × Int × Int
def nk (n : Nd) : Int := n.1
def nl (n : Nd) : Int := n.2.1
def nr (n : Nd) : Int := n.2.2.1
def hasKid (n : Nd) (i : Int) : Bool := decide (nl n = i) || decide (nr n = i)
def kidB (N : List Nd) (i : Int) : Bool := N.any (fun n => hasKid n i)
def freeB (N : List Nd) (i : Int) : Bool := decide (0 ≤ i) && (decide (i < N.length) && !kidB N i)
/-- may n be put behind N? -/
def mayB (N : List Nd) (n : Nd) : Bool :=
  if nk n = 1 then decide (nl n = -1) && decide (nr n = -1)
  else decide (nk n = 2) && (!decide (nl n = nr n) && ((decide (nl n = -1) || freeB N (nl n)) && (decide (nr n = -1) || freeB N (nr n))))
/-- the places of the kids that there are -/
def ksL (n : Nd) : List Int := (if nl n = -1 then [] else [nl n]) ++ (if nr n = -1 then [] else [nr n])
/-- each of them may be put behind those ahead of it -/
def Rt (N : List Nd) : Prop := ∀ i n, N[i]? = some n → mayB (N.take i) n = true
theorem Rt.nil : Rt [] := fun i n h => by simp at h
theorem Rt.take {N : List Nd} (h : Rt N) (k : Nat) : Rt (N.take k) := fun i n e => by
  rw [List.getElem?_take] at e
  split at e
  · rename_i hk
    have := h i n e
    rwa [List.take_take, Nat.min_eq_left (by omega)]
  · cases e
theorem Rt.snoc {N : List Nd} {n : Nd} (h : Rt N) (hm : mayB N n = true) : Rt (N ++ [n]) := fun i m e => by
  by_cases hi : i < N.length
  · rw [List.getElem?_append_left hi] at e
    rw [List.take_append_of_le_length (by omega)]
    exact h i m e
  · rw [List.getElem?_append_right (by omega)] at e
    have hj : i - N.length = 0 := by
      have := (List.getElem?_eq_some_iff.1 e).1
      simp at this
      omega
    rw [hj] at e
    cases e
    have : i = N.length := by omega
    subst this
    simpa using hm
theorem Rt.of_snoc {N : List Nd} {n : Nd} (h : Rt (N ++ [n])) : Rt N ∧ mayB N n = true := by
  have h1 := h.take N.length
  have h2 := h N.length n (by simp)
  simp at h1 h2
  exact ⟨h1, h2⟩
theorem mem_ksL {n : Nd} {x : Int} : x ∈ ksL n ↔ x ≠ -1 ∧ (nl n = x ∨ nr n = x) := by
  unfold ksL
  by_cases h1 : nl n = -1 <;> by_cases h2 : nr n = -1 <;> simp [h1, h2] <;> omega
theorem freeB_iff {N : List Nd} {i : Int} : freeB N i = true ↔ 0 ≤ i ∧ i < N.length ∧ kidB N i = false := by simp [freeB]
/-- the kids of a node that may be put -/
theorem may_kid {N : List Nd} {n : Nd} (h : mayB N n = true) {x : Int} (hx : x ∈ ksL n) : 0 ≤ x ∧ x < N.length ∧ kidB N x = false := by
  rw [mem_ksL] at hx
  unfold mayB at h
  split at h
  · simp at h
    omega
  · simp only [Bool.and_eq_true, Bool.or_eq_true, decide_eq_true_eq] at h
    obtain ⟨_, _, h3, h4⟩ := h
    rcases hx.2 with e | e
    · subst e
      rcases h3 with h3 | h3
      · omega
      · exact freeB_iff.1 h3
    · subst e
      rcases h4 with h4 | h4
      · omega
      · exact freeB_iff.1 h4
theorem Rt.kid {N : List Nd} (h : Rt N) {i : Nat} {n : Nd} (e : N[i]? = some n) {x : Int} (hx : x ∈ ksL n) : 0 ≤ x ∧ x < i := by
  obtain ⟨h1, h2, _⟩ := may_kid (h i n e) hx
  rw [List.length_take] at h2
  omega
theorem kidB_snoc (N : List Nd) (n : Nd) (i : Int) : kidB (N ++ [n]) i = (kidB N i || hasKid n i) := by simp [kidB]
theorem hasKid_mem {n : Nd} {i : Int} (h : 0 ≤ i) : hasKid n i = true ↔ i ∈ ksL n := by
  rw [mem_ksL]
  simp [hasKid]
  omega
/-- nobody has a kid behind himself -/
theorem Rt.none {N : List Nd} (h : Rt N) {i : Int} (hi : (N.length : Int) ≤ i) : kidB N i = false := by
  unfold kidB
  rw [List.any_eq_false]
  intro n hn
  obtain ⟨j, hj⟩ := List.mem_iff_getElem?.1 hn
  rw [hasKid_mem (by omega)]
  intro hx
  have := h.kid hj hx
  have := (List.getElem?_eq_some_iff.1 hj).1
  omega
/-! ### who is somebody's kid -/
def tk (N : List Nd) : List Bool := (List.range N.length).map (fun (i : Nat) => kidB N (i : Int))
def okT (T : List Bool) (x : Int) : Bool := decide (0 ≤ x) && (decide (x < T.length) && !(T.getD x.toNat true))
def setT (T : List Bool) (xs : List Int) : List Bool := xs.foldl (fun T x => T.set x.toNat true) T
def fitsB (n : Nd) (T : List Bool) : Bool :=
  if nk n = 1 then decide (nl n = -1) && decide (nr n = -1) else decide (nk n = 2) && (!decide (nl n = nr n) && (ksL n).all (okT T))
theorem tk_len (N : List Nd) : (tk N).length = N.length := by simp [tk]
theorem tk_get (N : List Nd) {i : Nat} (h : i < N.length) : (tk N)[i]? = some (kidB N i) := by simp [tk, h]
theorem okT_tk (N : List Nd) (x : Int) : okT (tk N) x = freeB N x := by
  unfold okT freeB
  rw [tk_len]
  by_cases h1 : 0 ≤ x
  · by_cases h2 : x < N.length
    · have h3 := tk_get N (i := x.toNat) (by omega)
      rw [Int.toNat_of_nonneg h1] at h3
      rw [List.getD_eq_getElem?_getD, h3]
      rfl
    · simp [h2]
  · simp [h1]
theorem fits_may (N : List Nd) (n : Nd) : fitsB n (tk N) = mayB N n := by
  unfold fitsB mayB ksL
  by_cases h1 : nk n = 1
  · rw [if_pos h1, if_pos h1]
  · rw [if_neg h1, if_neg h1]
    by_cases h2 : nl n = -1 <;> by_cases h3 : nr n = -1 <;> simp [h2, h3, okT_tk]
theorem setT_len (T : List Bool) (xs : List Int) : (setT T xs).length = T.length := by
  unfold setT
  induction xs generalizing T with
  | nil => rfl
  | cons x xs ih => rw [List.foldl_cons, ih]; simp
theorem setT_snoc (T : List Bool) (xs : List Int) (x : Int) : setT T (xs ++ [x]) = (setT T xs).set x.toNat true := by simp [setT]
theorem setT_get (T : List Bool) (xs : List Int) (hx : ∀ x ∈ xs, 0 ≤ x) {i : Nat} (hi : i < T.length) : (setT T xs)[i]? = some (T.getD i true || decide ((i : Int) ∈ xs)) := by
  unfold setT
  induction xs generalizing T with
  | nil => simp [hi]
  | cons x xs ih =>
    rw [List.foldl_cons, ih _ (fun y hy => hx y (by simp [hy])) (by simpa using hi)]
    have h0 := hx x (by simp)
    congr 1
    rw [List.getD_eq_getElem?_getD, List.getD_eq_getElem?_getD]
    by_cases e : x.toNat = i
    · have : (i : Int) = x := by omega
      rw [e, List.getElem?_set_self hi]
      simp [this]
    · have : ¬ (i : Int) = x := by omega
      rw [List.getElem?_set_ne e]
      simp [this]
def takeT (n : Nd) (T : List Bool) : List Bool := setT T (ksL n) ++ [false]
theorem take_tk {N : List Nd} {n : Nd} (hR : Rt N) (hm : mayB N n = true) : takeT n (tk N) = tk (N ++ [n]) := by
  apply List.ext_getElem?
  intro i
  unfold takeT
  by_cases hi : i < N.length
  · rw [List.getElem?_append_left (by rw [setT_len, tk_len]; exact hi), setT_get _ _ (fun x hx => (may_kid hm hx).1) (by rw [tk_len]; exact hi), tk_get _ (by simp; omega), kidB_snoc, List.getD_eq_getElem?_getD, tk_get _ hi]
    congr 1
    rw [Option.getD_some]
    congr 1
    rw [Bool.eq_iff_iff, decide_eq_true_eq, hasKid_mem (by omega)]
  · by_cases he : i = N.length
    · subst he
      rw [List.getElem?_append_right (by rw [setT_len, tk_len]; exact Nat.le_refl _), setT_len, tk_len, tk_get _ (by simp), kidB_snoc, hR.none (Int.le_refl _)]
      have : hasKid n (N.length : Int) = false := by
        rw [Bool.eq_false_iff]
        intro h
        have := (may_kid hm ((hasKid_mem (by omega)).1 h)).2.1
        omega
      rw [this]
      simp
    · rw [List.getElem?_eq_none (by simp [setT_len, tk_len]; omega), List.getElem?_eq_none (by rw [tk_len]; simp; omega)]
/-! ### heights -/
def hOf (H : List Int) (x : Int) : Int := H.getD x.toNat 0 + 1
def hUp (H : List Int) (a : Int) (x : Int) : Int := max a (hOf H x)
def hn (H : List Int) (n : Nd) : Int := (ksL n).foldl (hUp H) 0
def hl (N : List Nd) : List Int := N.foldl (fun H n => H ++ [hn H n]) []
/-! ### what lies below a root -/
def dOf (D : List (List Nat)) (n : Nd) (i : Nat) : List Nat := i :: (ksL n).flatMap (fun x => D.getD x.toNat [])
def dl (N : List Nd) : List (List Nat) := N.foldl (fun D n => D ++ [dOf D n D.length]) []
/-- below the place k: itself, and what is below its kids -/
def below (N : List Nd) (k : Nat) : List Nat := (dl N).getD k []
end Go.Proofs.YtldmajifkmcdcaaGreat
/-
  Balanced trees over leaves in a row, as plain functions: their nodes, heights, canonical nodes of a range, paths. No condition but those typed at each theorem.
-/
namespace Go.Proofs.YtldmajifkmcdcaaGreat
inductive Tr where
  | lf
  | nd (l r : Tr)
/-- how many leaves -/
def lv : Tr → Nat
  | .lf => 1
  | .nd l r => lv l + lv r
theorem lv_pos : ∀ t, 1 ≤ lv t
  | .lf => Nat.le_refl _
  | .nd l r => by have := lv_pos l; have := lv_pos r; simp [lv]; omega
/-- the tree over so many leaves, by halves, the left one the greater -/
def tr (m : Nat) : Tr := if h : m < 2 then .lf else .nd (tr (m - m / 2)) (tr (m / 2))
termination_by m
decreasing_by all_goals omega
theorem tr_one {m : Nat} (h : m < 2) : tr m = .lf := by rw [tr, dif_pos h]
theorem tr_two {m : Nat} (h : 2 ≤ m) : tr m = .nd (tr (m - m / 2)) (tr (m / 2)) := by rw [tr, dif_neg (by omega)]
theorem lv_tr {m : Nat} (h : 1 ≤ m) : lv (tr m) = m := by
  induction m using Nat.strongRecOn with
  | _ m ih =>
    by_cases h2 : 2 ≤ m
    · rw [tr_two h2, lv, ih _ (by omega) (by omega), ih _ (by omega) (by omega)]
      omega
    · rw [tr_one (by omega), lv]
      omega
/-- how many nodes -/
def sz (t : Tr) : Nat := 2 * lv t - 1
/-- the root's place -/
def rt (b : Nat) (t : Tr) : Nat := b + (2 * lv t - 2)
/-- the nodes over leaves from f on, the first of which has the place b -/
def nds : Nat → Nat → Tr → List Nd
  | _, f, .lf => [(1, -1, -1, (f : Int), ((f + 1 : Nat) : Int), 0, (f : Int))]
  | b, f, .nd l r => nds b f l ++ nds (b + sz l) (f + lv l) r ++ [(2, (rt b l : Int), (rt (b + sz l) r : Int), (f : Int), ((f + (lv l + lv r) : Nat) : Int), 0, 0)]
theorem nds_len : ∀ t b f, (nds b f t).length = sz t
  | .lf, b, f => rfl
  | .nd l r, b, f => by
    have h1 := nds_len l b f
    have h2 := nds_len r (b + sz l) (f + lv l)
    have := lv_pos l
    have := lv_pos r
    rw [nds, List.length_append, List.length_append, h1, h2]
    simp [sz, lv]
    omega
theorem sz_pos (t : Tr) : 1 ≤ sz t := by have := lv_pos t; unfold sz; omega
theorem rt_lt (b : Nat) (t : Tr) : rt b t + 1 = b + sz t := by have := lv_pos t; unfold rt sz; omega
theorem rt_nd (b : Nat) (l r : Tr) : rt b (.nd l r) = b + sz l + sz r := by have := lv_pos l; have := lv_pos r; unfold rt sz; simp only [lv]; omega
theorem sz_nd (l r : Tr) : sz (.nd l r) = sz l + sz r + 1 := by have := lv_pos l; have := lv_pos r; unfold sz; simp only [lv]; omega
/-- all of them can be put -/
theorem put_all : ∀ t b f (N : List Nd), Rt N → N.length = b → Rt (N ++ nds b f t) ∧ (∀ x : Int, 0 ≤ x → x < b → kidB (N ++ nds b f t) x = kidB N x) ∧ kidB (N ++ nds b f t) (rt b t) = false
  | .lf, b, f, N, hR, hb => by
    have hm : mayB N (1, -1, -1, (f : Int), ((f + 1 : Nat) : Int), 0, (f : Int)) = true := by simp [mayB, nk, nl, nr]
    have hk : ∀ x : Int, 0 ≤ x → kidB (N ++ nds b f .lf) x = kidB N x := fun x hx => by
      have h1 : ¬ (-1 : Int) = x := by omega
      rw [nds, kidB_snoc]
      simp [hasKid, nl, nr, h1]
    exact ⟨hR.snoc hm, fun x hx _ => hk x hx, by rw [hk _ (by omega)]; exact hR.none (by simp [rt, lv, hb])⟩
  | .nd l r, b, f, N, hR, hb => by
    obtain ⟨l1, l2, l3⟩ := put_all l b f N hR hb
    have hlen : (N ++ nds b f l).length = b + sz l := by rw [List.length_append, nds_len, hb]
    obtain ⟨r1, r2, r3⟩ := put_all r (b + sz l) (f + lv l) _ l1 hlen
    have hlen2 : (N ++ nds b f l ++ nds (b + sz l) (f + lv l) r).length = b + sz l + sz r := by rw [List.length_append, nds_len, hlen]
    have e1 := rt_lt b l
    have e2 := rt_lt (b + sz l) r
    have := sz_pos l
    have := sz_pos r
    have e : N ++ nds b f (.nd l r) = N ++ nds b f l ++ nds (b + sz l) (f + lv l) r ++ [(2, (rt b l : Int), (rt (b + sz l) r : Int), (f : Int), ((f + (lv l + lv r) : Nat) : Int), 0, 0)] := by
      simp [nds]
    generalize hN2 : N ++ nds b f l ++ nds (b + sz l) (f + lv l) r = N2 at *
    have k1 : kidB N2 (rt b l) = false := by rw [r2 _ (by omega) (by omega)]; exact l3
    have f1 : freeB N2 (rt b l) = true := freeB_iff.2 ⟨by omega, by omega, k1⟩
    have f2 : freeB N2 (rt (b + sz l) r) = true := freeB_iff.2 ⟨by omega, by omega, r3⟩
    have hm : mayB N2 (2, (rt b l : Int), (rt (b + sz l) r : Int), (f : Int), ((f + (lv l + lv r) : Nat) : Int), 0, 0) = true := by
      have h1 : ¬ ((rt b l : Nat) : Int) = rt (b + sz l) r := by omega
      have h2 : ¬ ((rt b l : Nat) : Int) = -1 := by omega
      have h3 : ¬ ((rt (b + sz l) r : Nat) : Int) = -1 := by omega
      simp [mayB, nk, nl, nr, f1, f2, h1, h2, h3]
    rw [e]
    refine ⟨r1.snoc hm, fun x hx0 hx => ?_, ?_⟩
    · rw [kidB_snoc, r2 x hx0 (by omega), l2 x hx0 hx]
      have h1 : ¬ ((rt b l : Nat) : Int) = x := by unfold rt; omega
      have h2 : ¬ ((rt (b + sz l) r : Nat) : Int) = x := by unfold rt; omega
      simp [hasKid, nl, nr, h1, h2]
    · rw [kidB_snoc, rt_nd, r1.none (by rw [hlen2]; exact Int.le_refl _)]
      obtain ⟨X, hX⟩ : ∃ X : Int, X = ((b + sz l + sz r : Nat) : Int) := ⟨_, rfl⟩
      rw [← hX]
      have h1 : ¬ ((rt b l : Nat) : Int) = X := by omega
      have h2 : ¬ ((rt (b + sz l) r : Nat) : Int) = X := by omega
      simp [hasKid, nl, nr, h1, h2]
/-- the inner node may be put behind both halves -/
theorem may_top {l r : Tr} {b f : Nat} {N : List Nd} (hR : Rt N) (hb : N.length = b) :
    mayB (N ++ nds b f l ++ nds (b + sz l) (f + lv l) r) (2, (rt b l : Int), (rt (b + sz l) r : Int), (f : Int), ((f + (lv l + lv r) : Nat) : Int), 0, 0) = true := by
  have h := (put_all (.nd l r) b f N hR hb).1
  have e : N ++ nds b f (.nd l r) = N ++ nds b f l ++ nds (b + sz l) (f + lv l) r ++ [(2, (rt b l : Int), (rt (b + sz l) r : Int), (f : Int), ((f + (lv l + lv r) : Nat) : Int), 0, 0)] := by
    simp [nds]
  rw [e] at h
  exact h.of_snoc.2
theorem may_lf (N : List Nd) (f : Nat) : mayB N (1, -1, -1, (f : Int), ((f + 1 : Nat) : Int), 0, (f : Int)) = true := by simp [mayB, nk, nl, nr]
/-- how high -/
def ht : Tr → Nat
  | .lf => 0
  | .nd l r => max (ht l) (ht r) + 1
theorem ht_tr {m : Nat} (h : 1 ≤ m) (hm : m ≤ 2305843009213693952) : ht (tr m) = lgN m := by
  induction m using Nat.strongRecOn with
  | _ m ih =>
    by_cases h2 : 2 ≤ m
    · rw [tr_two h2, ht, ih _ (by omega) (by omega) (by omega), ih _ (by omega) (by omega) (by omega)]
      have h3 : lgN (m / 2) ≤ lgN (m - m / 2) := bl_mono (by omega) (by omega)
      have h4 : lgN m = lgN (m - m / 2) + 1 := by
        unfold lgN
        rw [Lib.bitLen_half (m - 1) (by omega) (by omega), show (m - 1) / 2 = m - m / 2 - 1 by omega]
        omega
      rw [h4]
      omega
    · rw [tr_one (by omega), ht, lg_small (by omega)]
/-- the canonical nodes of the leaves from x, ahead of y, and how many nodes are entered -/
def cn (x y : Nat) : Tr → Nat → Nat → List Nat × Nat
  | .lf, b, f => if f + 1 ≤ x ∨ y ≤ f then ([], 1) else ([b], 1)
  | .nd l r, b, f =>
    if f + (lv l + lv r) ≤ x ∨ y ≤ f then ([], 1) else if x ≤ f ∧ f + (lv l + lv r) ≤ y then ([rt b (.nd l r)], 1) else
      ((cn x y l b f).1 ++ (cn x y r (b + sz l) (f + lv l)).1, 1 + (cn x y l b f).2 + (cn x y r (b + sz l) (f + lv l)).2)
theorem cn_apart {x y : Nat} {t : Tr} {b f : Nat} (h : f + lv t ≤ x ∨ y ≤ f) : cn x y t b f = ([], 1) := by
  cases t with
  | lf => rw [cn]; exact if_pos h
  | nd l r => rw [cn]; exact if_pos h
theorem cn_in {x y : Nat} {t : Tr} {b f : Nat} (h : x ≤ f ∧ f + lv t ≤ y) : cn x y t b f = ([rt b t], 1) := by
  have := lv_pos t
  cases t with
  | lf => rw [cn, if_neg (by simp only [lv] at *; omega)]; simp [rt, lv]
  | nd l r => rw [cn, if_neg (by simp only [lv] at *; omega)]; exact if_pos h
theorem cn_cut {x y : Nat} {l r : Tr} {b f : Nat} (h1 : ¬ (f + (lv l + lv r) ≤ x ∨ y ≤ f)) (h2 : ¬ (x ≤ f ∧ f + (lv l + lv r) ≤ y)) :
    cn x y (.nd l r) b f = ((cn x y l b f).1 ++ (cn x y r (b + sz l) (f + lv l)).1, 1 + (cn x y l b f).2 + (cn x y r (b + sz l) (f + lv l)).2) := by rw [cn, if_neg h1, if_neg h2]
/-- where a leaf's nodes stand, from the root on -/
def pt (leaf : Nat) : Tr → Nat → Nat → List Nat
  | .lf, b, _ => [b]
  | .nd l r, b, f => rt b (.nd l r) :: (if leaf < f + lv l then pt leaf l b f else pt leaf r (b + sz l) (f + lv l))
theorem cn_len (x y : Nat) : ∀ t b f, (cn x y t b f).1.length ≤ lv t ∧ (cn x y t b f).2 ≤ sz t ∧ 1 ≤ (cn x y t b f).2
  | .lf, b, f => by rw [cn]; split <;> simp [lv, sz]
  | .nd l r, b, f => by
    have h1 := cn_len x y l b f
    have h2 := cn_len x y r (b + sz l) (f + lv l)
    have := lv_pos l
    have := lv_pos r
    have := sz_nd l r
    rw [cn]
    split
    · simp [lv]; omega
    · split
      · simp [lv]; omega
      · simp [lv]; omega
theorem pt_len (leaf : Nat) : ∀ t b f, 1 ≤ (pt leaf t b f).length ∧ (pt leaf t b f).length ≤ ht t + 1
  | .lf, b, f => by simp [pt, ht]
  | .nd l r, b, f => by
    have h1 := pt_len leaf l b f
    have h2 := pt_len leaf r (b + sz l) (f + lv l)
    rw [pt]
    simp only [List.length_cons, ht]
    split <;> omega
end Go.Proofs.YtldmajifkmcdcaaGreat
/-
  frame's part: size, root, isLeaf, halves. No condition but those typed at each theorem.
-/
namespace Go.Proofs.YtldmajifkmcdcaaGreat
open Go.RowKit
/-- a part: its first place, and its leaves from, ahead of to -/
def pvs (b f t : Nat) : List Value := [.int .i64 b, .int .i64 f, .int .i64 t]
def pv (b f t : Nat) : Value := .agg #[.int .i64 b, .int .i64 f, .int .i64 t]
theorem wrap64 {x : Int} (h : -9223372036854775808 ≤ x ∧ x ≤ 9223372036854775807) : IntKind.i64.wrap x = x := IntWalk.i64_in _ (by omega)
set_option maxRecDepth 100000 in
theorem size_any (b f m s : Nat) (w : World) (hm : 1 ≤ m) (hs : s + 1 = 2 * m) (h : b + f + m ≤ 100000) :
    Calls Tryz.prog 114 #[pv b f (f + m)] w fun e w' => e = .returned (.int .i64 s) ∧ w' = w.alloc (.cells (pvs b f (f + m)).toArray 132) := by
  unfold pv pvs
  obtain ⟨t, ht⟩ : ∃ t, t = f + m := ⟨_, rfl⟩
  rw [← ht]
  have HT := Lib.hid ht
  have hsub : (t : Int) - f = m := by omega
  clear ht
  go_enter Tryz.func114, Tryz.ntmps114
  go_wp2
  go_ret
  refine ⟨?_, rfl⟩
  go_num
set_option maxRecDepth 100000 in
theorem isLeaf_any (b f m : Nat) (w : World) (hm : 1 ≤ m) (h : b + f + m ≤ 100000) :
    Calls Tryz.prog 88 #[pv b f (f + m)] w fun e w' => e = .returned (.bool (decide (m = 1))) ∧ w' = w.alloc (.cells (pvs b f (f + m)).toArray 132) := by
  unfold pv pvs
  obtain ⟨t, ht⟩ : ∃ t, t = f + m := ⟨_, rfl⟩
  rw [← ht]
  have HT := Lib.hid ht
  have hsub : (t : Int) - f = m := by omega
  clear ht
  go_enter Tryz.func88, Tryz.ntmps88
  go_wp2
  go_ret
  exact ⟨retb (by simp; omega), rfl⟩
set_option maxRecDepth 100000 in
theorem root_any (b f m r : Nat) (w : World) (hm : 1 ≤ m) (hr : r + 2 = b + 2 * m) (h : b + f + m ≤ 100000) :
    Calls Tryz.prog 87 #[pv b f (f + m)] w fun e w' => e = .returned (.int .i64 r) ∧ Below w.heap.size w w' := by
  obtain ⟨z, hz⟩ : ∃ z, z + 1 = 2 * m := ⟨2 * m - 1, by omega⟩
  have HSZ := Lib.hid (fun X => size_any b f m z X hm hz h)
  unfold pv pvs at *
  obtain ⟨t, ht⟩ : ∃ t, t = f + m := ⟨_, rfl⟩
  rw [← ht] at HSZ
  rw [← ht]
  have HT := Lib.hid ht
  clear ht
  obtain ⟨w1, hw1⟩ : ∃ w1, w1 = w.alloc (.cells #[.int .i64 b, .int .i64 f, .int .i64 t] 132) := ⟨_, rfl⟩
  have q : ∀ k v, (pvs b f t)[k]? = some v → w1.cell? ⟨w.heap.size, k, none⟩ = some v := fun k v e => by
    rw [hw1, World.cell?_alloc_new]
    simpa [pvs] using e
  have q0 : ∀ s : Wd (Bw w1), s.w.cell? ⟨w.heap.size, 0, none⟩ = some (.int .i64 b) := fun s => Bw.cell s (q 0 _ rfl)
  have q1 : ∀ s : Wd (Bw w1), s.w.cell? ⟨w.heap.size, 1, none⟩ = some (.int .i64 f) := fun s => Bw.cell s (q 1 _ rfl)
  have q2 : ∀ s : Wd (Bw w1), s.w.cell? ⟨w.heap.size, 2, none⟩ = some (.int .i64 t) := fun s => Bw.cell s (q 2 _ rfl)
  have inst : Nonempty (Wd (Bw w1)) := ⟨⟨w1, Below.refl _ _⟩⟩
  have HB := Lib.hid (show Below w.heap.size w w1 by rw [hw1]; exact (Below.refl _ w).alloc (Nat.le_refl _) _)
  have hkp : Hid (∀ X w', Bw w1 X → Below X.heap.size X w' → Bw w1 w') := Lib.hid (fun X w' h hb => h.keep hb)
  have HC : Hid (∀ s : Wd (Bw w1), Calls Tryz.prog 114 #[.agg #[.int .i64 b, .int .i64 f, .int .i64 t]] s.w fun e w' => e = .returned (.int .i64 z) ∧ Below s.w.heap.size s.w w') := Lib.hid (fun s => (HSZ.out s.w).mono (by rintro e w' ⟨rfl, rfl⟩; exact ⟨rfl, (Below.refl _ s.w).alloc (Nat.le_refl _) _⟩))
  clear q
  go_enter Tryz.func87, Tryz.ntmps87
  go_upto_region 1 with fail
  rw [← hw1]
  clear hw1
  refine wp_region_wd (Bw w1) (by kernel_rfl) (by kernel_rfl) ((Below.refl _ w1).drew) ?_
  repeat (first | go_big_quiet_step (first | (go_at_call 114; with_reducible exact calls_wd hkp.out _ (HC.out _))) | quiet_step (first | (go_at_call 114; with_reducible exact calls_wd hkp.out _ (HC.out _))))
  refine wpQuiet_nil ?_
  rintro _ ⟨s, rfl⟩
  have HS := Lib.hid (HB.out.trans (Below.mono s.h HB.out.size))
  clear q0 q1 q2 inst
  go_wp2
  go_ret
  refine ⟨?_, HS.out⟩
  go_num
set_option maxRecDepth 100000 in
set_option maxHeartbeats 1600000 in
theorem halves_any (b f m a c z mid t : Nat) (w : World) (hm : 2 ≤ m) (ha : a = m - m / 2) (hc : c = m / 2) (hz : z + 1 = 2 * a) (hmid : mid = f + a) (ht : t = f + m) (h : b + f + m ≤ 100000) :
    Calls Tryz.prog 89 #[pv b f t] w fun e w' => e = .returned (.tuple #[pv b f mid, pv (b + z) mid t]) ∧ Below w.heap.size w w' := by
  have HSZ := Lib.hid (fun X => size_any b f a z X (by omega) hz (by omega))
  rw [← hmid] at HSZ
  have h1 : (t : Int) - f = m := by omega
  have h2 : (t : Int) - c = mid := by omega
  have h3 : Int.tdiv (m : Int) 2 = c := by rw [hc]; rfl
  have h4 : (b : Int) + z = ((b + z : Nat) : Int) := by omega
  have hle : b + z ≤ 300000 := by omega
  have HA := Lib.hid ha
  have HC := Lib.hid hc
  have HM := Lib.hid hmid
  have HT := Lib.hid ht
  clear ha hc hmid ht
  unfold pv pvs at *
  obtain ⟨bz, hbz⟩ : ∃ bz, bz = b + z := ⟨_, rfl⟩
  have hwr : IntKind.i64.wrap (bz : Int) = bz := wrap64 (by omega)
  rw [← hbz] at h4 ⊢
  clear hbz
  go_enter Tryz.func89, Tryz.ntmps89
  go_upto_region 3 with fail
  go_cut [] from 20 to 29 (fun wx => wx = ((((w.alloc (.cells #[.int .i64 b, .int .i64 f, .int .i64 t] 132)).alloc (.cells #[.int .i64 b, .int .i64 f, .int .i64 mid] 132)).alloc (.cells #[.int .i64 bz, .int .i64 mid, .int .i64 t] 132)).alloc (.cells #[.int .i64 b, .int .i64 f, .int .i64 mid] 132)).drew)
  case first =>
    go_region_with (go_at_call 114; (with_reducible refine (HSZ.out _).mono ?_); rintro e w4 ⟨rfl, rfl⟩)
    all_goals (go_wp2_with fail; go_meet; exact rfl)
  case rest =>
    subst hcut
    clear hwr h1 h2 h3 h4
    clear hle
    go_wp2
    go_region
    all_goals (go_wp2; refine bodyPost_ret (v := .tuple #[.agg #[.int .i64 b, .int .i64 f, .int .i64 mid], .agg #[.int .i64 bz, .int .i64 mid, .int .i64 t]]) ?_ rfl ⟨rfl, ?_⟩)
    · simp [results, Tryz.f89, go_sem]
    · exact ((((((Below.refl _ w).alloc (Nat.le_refl _) _).alloc (by simp) _).alloc (by simp; omega) _).alloc (by simp; omega) _).drew).drew
end Go.Proofs.YtldmajifkmcdcaaGreat
/-
  A frame in memory: New, Leaves, Root, and what is no part of its nodes. No condition but those typed at each theorem.
-/
namespace Go.Proofs.YtldmajifkmcdcaaGreat
open Go.RowKit
theorem Row.off {X w' : World} {n : Nat} {vs : List Value} {S : List Nat} (h : Row X n vs) (hb : Off S X w') (hn : n ∉ S) : Row w' n vs := fun k v e => hb.cell (h k v e) hn
theorem off_in {w X w' : World} {S T : List Nat} (hO : Off S w X) (hk : ∀ k ∈ T, k ∈ S ∨ w.heap.size ≤ k) (h : Off T X w') : Off S w w' :=
  ⟨h.os.trans hO.os, h.tape.trans hO.tape, h.output.trans hO.output, Nat.le_trans hO.size h.size, fun k hlt hkn => (h.block k (Nat.lt_of_lt_of_le hlt hO.size) (fun e => (hk k e).elim hkn (fun g => by omega))).trans (hO.block k hlt hkn)⟩
/-- a frame's cells -/
def FR (w : World) (B n : Nat) (d : Int) (pp : Value) : Prop := w.heap[B]? = some (.cells #[.pointer (some ⟨B, 0, none⟩), .int .u32 d, .int .i32 0, .int .u32 0, .int .i64 n, pp] 130 (0, 0))
section
variable {w w' : World} {B n : Nat} {d : Int} {pp : Value}
theorem FR.lt (h : FR w B n d pp) : B < w.heap.size := lt_of_block h
theorem FR.c0 (h : FR w B n d pp) : w.cell? ⟨B, 0, none⟩ = some (.pointer (some ⟨B, 0, none⟩)) := by simp [World.cell?, show w.heap[B]? = _ from h]
theorem FR.c1 (h : FR w B n d pp) : w.cell? ⟨B, 1, none⟩ = some (.int .u32 d) := by simp [World.cell?, show w.heap[B]? = _ from h]
theorem FR.c2 (h : FR w B n d pp) : w.cell? ⟨B, 2, none⟩ = some (.int .i32 0) := by simp [World.cell?, show w.heap[B]? = _ from h]
theorem FR.c4 (h : FR w B n d pp) : w.cell? ⟨B, 4, none⟩ = some (.int .i64 n) := by simp [World.cell?, show w.heap[B]? = _ from h]
theorem FR.c5 (h : FR w B n d pp) : w.cell? ⟨B, 5, none⟩ = some pp := by simp [World.cell?, show w.heap[B]? = _ from h]
theorem FR.fr (h : FR w B n d pp) (i : Nat) : w.frozen? ⟨B, i, none⟩ = false := by simp [World.frozen?, show w.heap[B]? = _ from h]
theorem FR.block (h : FR w B n d pp) (hb : w'.heap[B]? = w.heap[B]?) : FR w' B n d pp := hb.trans h
theorem FR.keep (h : FR w B n d pp) (hb : Below w.heap.size w w') : FR w' B n d pp := h.block (hb.block B h.lt)
end
/-- all nodes of a frame of n leaves -/
def ndN (n : Nat) : List Nd := if n = 0 then [] else nds 0 0 (tr n)
theorem ndN_len (n : Nat) : (ndN n).length = 2 * n - 1 := by
  unfold ndN
  split
  · subst_vars; rfl
  · rw [nds_len, sz, lv_tr (by omega)]
theorem Tryz.eqSameF (a : Addr) (w : World) : (binOp .eql 65 (.pointer (some a)) (.pointer (some a))).run Tryz.prog w = .ok (.bool true) w := by
  obtain ⟨j, hj⟩ := Option.isSome_iff_exists.1 (show (Tryz.prog.info? 130).isSome = true by kernel_rfl)
  exact run_eql_ptr_same w a Tryz.underlying65 hj
set_option maxRecDepth 100000 in
theorem fmade_yes (w : World) (B n : Nat) (d : Int) (pp : Value) (h : FR w B n d pp) :
    Calls Tryz.prog 55 #[.pointer (some ⟨B, 0, none⟩)] w fun e w' => e = .returned (.bool true) ∧ w' = w := by
  have c0 := h.c0
  have q := Tryz.eqSameF
  clear h
  go_enter Tryz.func55, Tryz.ntmps55
  go_wp2
  go_ret
  exact ⟨rfl, rfl⟩
set_option maxRecDepth 100000 in
theorem Leaves_any (w : World) (B n : Nat) (d : Int) (pp : Value) (h : FR w B n d pp) :
    Calls Tryz.prog 98 #[.pointer (some ⟨B, 0, none⟩)] w fun e w' => e = .returned (.int .i64 n) ∧ w' = w := by
  have HM := Lib.hid (fmade_yes w B n d pp h)
  have c4 := h.c4
  clear h
  go_enter Tryz.func98, Tryz.ntmps98
  go_wp2_with (go_at_call 55; (with_reducible refine HM.out.mono ?_); rintro e w1 ⟨rfl, rfl⟩)
  go_ret
  exact ⟨rfl, rfl⟩
set_option maxRecDepth 100000 in
theorem whole_any (w : World) (B n : Nat) (d : Int) (pp : Value) (h : FR w B n d pp) :
    Calls Tryz.prog 56 #[.pointer (some ⟨B, 1, none⟩)] w fun e w' => e = .returned (.agg #[.int .i64 0, .int .i64 0, .int .i64 n]) ∧ Below w.heap.size w w' := by
  have c4 := fun o => (h.keep ((Below.refl _ w).alloc (Nat.le_refl _) o)).c4
  clear h
  go_enter Tryz.func56, Tryz.ntmps56
  go_wp2
  refine bodyPost_ret (v := .agg #[.int .i64 0, .int .i64 0, .int .i64 n]) ?_ rfl ⟨rfl, (Below.refl _ w).alloc (Nat.le_refl _) _⟩
  simp [results, Tryz.f56, go_sem]
set_option maxRecDepth 100000 in
theorem FNew_any (w : World) (n : Nat) (h : n ≤ 17179869184) :
    Calls Tryz.prog 51 #[.int .i64 n] w fun e w' => e = .returned (.tuple #[.pointer (some ⟨w.heap.size, 0, none⟩), .int .i64 0]) ∧ FR w' w.heap.size n 0 (.pointer none) ∧ Below w.heap.size w w' := by
  have h1 : ¬ (n : Int) < 0 := by omega
  have h2 : ¬ 17179869184 < (n : Int) := by omega
  go_enter Tryz.func51, Tryz.ntmps51
  go_wp2
  go_ret2
  exact ⟨rfl, heap_alloc_new w _, (Below.refl _ w).alloc (Nat.le_refl _) _⟩
set_option maxRecDepth 100000 in
theorem Root_any (w : World) (B n r : Nat) (d : Int) (pp : Value) (h : FR w B n d pp) (hn : 1 ≤ n) (hr : r + 2 = 2 * n) (hm : n ≤ 8000) :
    Calls Tryz.prog 73 #[.pointer (some ⟨B, 0, none⟩)] w fun e w' => e = .returned (.int .i64 r) ∧ Below w.heap.size w w' := by
  have HM := Lib.hid (Leaves_any w B n d pp h)
  have HW := Lib.hid (whole_any w B n d pp h)
  have HR : Hid (∀ X, Calls Tryz.prog 87 #[.agg #[.int .i64 0, .int .i64 0, .int .i64 n]] X fun e w' => e = .returned (.int .i64 r) ∧ Below X.heap.size X w') := Lib.hid (fun X => by have := root_any 0 0 n r X hn (by omega) (by omega); rwa [Nat.zero_add] at this)
  have hz : ((n : Int) == 0) = false := by simp; omega
  clear h hr hn
  go_enter Tryz.func73, Tryz.ntmps73
  go_wp2_with (first
    | (go_at_call 98; (with_reducible refine HM.out.mono ?_); rintro e w1 ⟨rfl, rfl⟩)
    | (go_at_call 56; (with_reducible refine HW.out.mono ?_); rintro e w1 ⟨rfl, hb⟩; have HB1 := Lib.hid hb; clear hb)
    | (go_at_call 87; (with_reducible refine (HR.out _).mono ?_); rintro e w2 ⟨rfl, hb⟩; have HB := Lib.hid (HB1.out.trans (hb.mono HB1.out.size)); clear hb))
  go_ret
  exact ⟨rfl, HB.out⟩
end Go.Proofs.YtldmajifkmcdcaaGreat
/-
  frame's part: canon. No condition but those typed at each theorem.
-/
namespace Go.Proofs.YtldmajifkmcdcaaGreat
open Go.RowKit
theorem Tryz.info3 : (Tryz.prog.info? 3).map (fun i => (i.zero, i.size, i.bytes)) = some (some (.int .i64 0), 1, 8) := by kernel_rfl
def ints (l : List Nat) : List Int := l.map Int.ofNat
theorem ints_len (l : List Nat) : (ints l).length = l.length := by simp [ints]
/-- numbers of one's own, in a block that was there or in a new one -/
structure CR (w w' : World) (v v' : Value) (L : List Int) : Prop where
  row : w'.ownsRow 0 3 1 v' L.length (L.map (Value.int .i64))
  off : Off v.ownBlock.toList w w'
  own : ∀ k, v'.ownBlock = some k → v.ownBlock = some k ∨ w.heap.size ≤ k
theorem CR.then {w X w' : World} {v v1 v2 : Value} {L M : List Int} (h : CR w X v v1 L) (g : CR X w' v1 v2 M) : CR w w' v v2 M := by
  refine ⟨g.row, ⟨g.off.os.trans h.off.os, g.off.tape.trans h.off.tape, g.off.output.trans h.off.output, Nat.le_trans h.off.size g.off.size, fun k hk hS => ?_⟩, fun k hk => ?_⟩
  · refine (g.off.block k (Nat.lt_of_lt_of_le hk h.off.size) (fun e => ?_)).trans (h.off.block k hk hS)
    have e2 : v1.ownBlock = some k := by simpa [Option.mem_toList] using e
    rcases h.own k e2 with g1 | g1
    · exact hS (by simpa [Option.mem_toList] using g1)
    · omega
  · rcases g.own k hk with g1 | g1
    · exact h.own k g1
    · exact .inr (Nat.le_trans h.off.size g1)
theorem CR.refl {w : World} {v : Value} {L : List Int} (h : w.ownsRow 0 3 1 v L.length (L.map (Value.int .i64))) : CR w w v v L := ⟨h, Off.refl _ _, fun _ e => .inl e⟩
theorem row_keep {w w' : World} {base n : Nat} {e : TypeId} {size : Nat} {v : Value} {xs : List Value} (h : w.ownsRow base e size v n xs) (hb : Below w.heap.size w w') : w'.ownsRow base e size v n xs :=
  row_at h (fun k e => ⟨hb.block k (h.lt k e).2, (h.lt k e).1⟩)
theorem CR.bel {w X w' : World} {v v' : Value} {L : List Int} (h : CR X w' v v' L) (hb : Below w.heap.size w X) : CR w w' v v' L :=
  ⟨h.row, (Off.of hb (Nat.le_refl _)).trans h.off, fun k hk => (h.own k hk).elim .inl (fun g => .inr (Nat.le_trans hb.size g))⟩
/-- one number more -/
theorem CR.more {X w' : World} {g cap : Nat} {v : Value} {r : Nat} {L : List Int} (r1 : w'.ownsRow 0 3 1 (.slice (some ⟨g, 0, none⟩) (L.length + 1) cap) (L.length + 1) (L.map (Value.int .i64) ++ [.int .i64 (r : Int)]))
    (r2 : X.grownBy w' v.ownBlock) (r3 : v.ownBlock = some g ∨ g = X.heap.size) : CR X w' v (.slice (some ⟨g, 0, none⟩) (L.length + 1) cap) (L ++ ints [r]) := by
  refine ⟨by simpa [ints] using r1, (Off.refl _ X).grow r2 (fun k e => .inl (by simpa [Option.mem_toList] using e)), fun k hk => ?_⟩
  simp [Value.ownBlock] at hk
  subst hk
  rcases r3 with h | h
  · exact .inl h
  · exact .inr (by omega)
theorem tup2 {v : Value} {k1 k2 : Nat} : Ending.returned (.tuple #[v, .int .i64 (1 + (k1 : Int) + (k2 : Int))]) = .returned (.tuple #[v, .int .i64 ((1 + k1 + k2 : Nat) : Int)]) := by
  have : 1 + (k1 : Int) + (k2 : Int) = ((1 + k1 + k2 : Nat) : Int) := by omega
  rw [this]
theorem cmid {w w3 w5 : World} {v v1 : Value} {L M : List Int} (x4 x5 : List Value) (hv : w.ownsRow 0 3 1 v L.length (L.map (Value.int .i64))) (hB : Below w.heap.size w w3)
    (h : CR ((w3.alloc (.cells x4.toArray 132)).alloc (.cells x5.toArray 132)) w5 v v1 M) : Row w5 (w3.heap.size + 1) x5 := by
  refine (Row.new (w3.alloc (.cells x4.toArray 132)) x5 _ (by simp)).off h.off (fun e => ?_)
  have e2 : v.ownBlock = some (w3.heap.size + 1) := by simpa [Option.mem_toList] using e
  have := (hv.lt _ e2).2
  have := hB.size
  omega
set_option maxRecDepth 100000 in
set_option maxHeartbeats 3200000 in
theorem canon_part (x y : Nat) (hx : x ≤ 20000) (hy : y ≤ 20000) : ∀ m b f t w v (L : List Int), 1 ≤ m → t = f + m → w.ownsRow 0 3 1 v L.length (L.map (Value.int .i64)) → L.length + m ≤ 50000 → b + 2 * m ≤ 50000 → f + m ≤ 20000 →
    Calls Tryz.prog 94 #[pv b f t, .int .i64 x, .int .i64 y, v] w fun e w' => ∃ v', e = .returned (.tuple #[v', .int .i64 ((cn x y (tr m) b f).2 : Nat)]) ∧ CR w w' v v' (L ++ ints (cn x y (tr m) b f).1) := by
  intro m
  induction m using Nat.strongRecOn with
  | _ m ih =>
    intro b f t w v L hm ht hv hlen hb hf
    have hlv : lv (tr m) = m := lv_tr hm
    have HV := Lib.hid hv
    have hB1 : ∀ o, Below w.heap.size w (w.alloc o) := fun o => (Below.refl _ w).alloc (Nat.le_refl _) o
    have HB1 := Lib.hid hB1
    clear hB1 hv
    by_cases h1 : t ≤ x
    · have hc : cn x y (tr m) b f = ([], 1) := cn_apart (.inl (by omega))
      rw [hc]
      have h1z : (t : Int) ≤ x := by omega
      clear ih hc hlv ht
      unfold pv
      go_enter Tryz.func94, Tryz.ntmps94
      go_wp2
      go_ret2
      exact ⟨v, rfl, by simpa [ints] using (CR.refl (row_keep HV.out (HB1.out _))).bel (HB1.out _)⟩
    by_cases h2 : y ≤ f
    · have hc : cn x y (tr m) b f = ([], 1) := cn_apart (.inr h2)
      rw [hc]
      have h1z : ¬ (t : Int) ≤ x := by omega
      have h2z : (y : Int) ≤ f := by omega
      clear ih hc hlv ht
      unfold pv
      go_enter Tryz.func94, Tryz.ntmps94
      go_wp2
      go_ret2
      exact ⟨v, rfl, by simpa [ints] using (CR.refl (row_keep HV.out (HB1.out _))).bel (HB1.out _)⟩
    have h1z : ¬ (t : Int) ≤ x := by omega
    have h2z : ¬ (y : Int) ≤ f := by omega
    by_cases h3 : x ≤ f ∧ t ≤ y
    · have hc : cn x y (tr m) b f = ([rt b (tr m)], 1) := cn_in ⟨h3.1, by omega⟩
      rw [hc]
      have h3z : (x : Int) ≤ f := by omega
      have h4z : (t : Int) ≤ y := by omega
      have HR : Hid (∀ X, Calls Tryz.prog 87 #[pv b f t] X fun e w' => e = .returned (.int .i64 (rt b (tr m) : Nat)) ∧ Below X.heap.size X w') := Lib.hid (fun X => by
        rw [ht]; exact root_any b f m _ X hm (by unfold rt; omega) (by omega))
      generalize rt b (tr m) = r at *
      clear ih hc hlv ht h3
      unfold pv at *
      go_enter Tryz.func94, Tryz.ntmps94
      go_wp2_with (first
        | (go_at_call 87; (with_reducible refine (HR.out _).mono ?_); rintro e w2 ⟨rfl, hb⟩; have HB2 := Lib.hid ((HB1.out _).trans (hb.mono (HB1.out _).size)); clear hb)
        | (at_builtin; refine wpList_more Tryz.info3 rfl (by decide) (by decide) Tryz.underlying72 _ rfl _ _ rfl v L.length _ rfl ((row_keep HV.out HB2.out).alloc _) ⟨w2.heap.size, 0, none⟩ 1 1 [.int .i64 (r : Int)] rfl rfl (one_at _ _ _) (by simp [Value.oneCell']) (by omega) (by omega) ?_; intro g cap w3 r1 r2 r3; have H3 := Lib.hid (CR.more r1 r2 r3); clear r1 r2 r3))
      go_ret2
      exact ⟨_, rfl, H3.out.bel (HB2.out.alloc HB2.out.size _)⟩
    · have hm2 : 2 ≤ m := by
        by_cases e : m = 1
        · exact absurd ⟨by omega, by omega⟩ h3
        · omega
      obtain ⟨a, ha⟩ : ∃ a, a = m - m / 2 := ⟨_, rfl⟩
      obtain ⟨c, hc⟩ : ∃ c, c = m / 2 := ⟨_, rfl⟩
      obtain ⟨mid, hmid⟩ : ∃ mid, mid = f + a := ⟨_, rfl⟩
      obtain ⟨z, hz⟩ : ∃ z, z = sz (tr a) := ⟨_, rfl⟩
      have etr : tr m = .nd (tr a) (tr c) := by rw [tr_two hm2, ha, hc]
      have la : lv (tr a) = a := lv_tr (by omega)
      have lc : lv (tr c) = c := lv_tr (by omega)
      have hz1 : z + 1 = 2 * a := by rw [hz]; unfold sz; omega
      have hcut := cn_cut (x := x) (y := y) (l := tr a) (r := tr c) (b := b) (f := f) (by omega) (by omega)
      rw [la, ← hz, ← hmid] at hcut
      have l1 := cn_len x y (tr a) b f
      have l2 := cn_len x y (tr c) (b + z) mid
      have s1 : sz (tr a) ≤ 50000 := by omega
      have s2 : sz (tr c) ≤ 50000 := by unfold sz; omega
      have HHV := Lib.hid (fun X => halves_any b f m a c z mid t X hm2 ha hc hz1 hmid ht (by omega))
      have HI1 := Lib.hid (fun X (hX : Below w.heap.size w X) => ih a (by omega) b f mid X v L (by omega) hmid (row_keep HV.out hX) (by omega) (by omega) (by omega))
      have HI2 := Lib.hid (fun X v1 (hX : X.ownsRow 0 3 1 v1 (L ++ ints (cn x y (tr a) b f).1).length ((L ++ ints (cn x y (tr a) b f).1).map (Value.int .i64))) => ih c (by omega) (b + z) mid t X v1 _ (by omega) (by omega) hX (by rw [List.length_append, ints_len]; omega) (by omega) (by omega))
      rw [etr, hcut]
      clear hcut ih hlv etr la lc hz1 hz ha hc hmid ht
      generalize (cn x y (tr a) b f) = c1 at *
      generalize (cn x y (tr c) (b + z) mid) = c2 at *
      generalize b + z = bz at *
      obtain ⟨c1, k1⟩ := c1
      obtain ⟨c2, k2⟩ := c2
      simp only at l1 l2 HI1 HI2 ⊢
      have hk1 : k1 ≤ 50000 := by omega
      have hk2 : k2 ≤ 50000 := by omega
      clear l1 l2 s1 s2
      obtain ⟨M, hM⟩ : ∃ M, M = L ++ ints (c1 ++ c2) := ⟨_, rfl⟩
      have HE : Hid (M = L ++ ints c1 ++ ints c2) := Lib.hid (by rw [hM]; simp [ints])
      rw [← hM]
      clear hM
      unfold pv at *
      by_cases h5 : x ≤ f
      · have h3z : (x : Int) ≤ f := by omega
        have h4z : ¬ (t : Int) ≤ y := by omega
        clear h3
        go_enter Tryz.func94, Tryz.ntmps94
        go_wp2_with (first
          | (go_at_call 89; (with_reducible refine (HHV.out _).mono ?_); rintro e w3 ⟨rfl, hb3⟩; have HB3 := Lib.hid ((HB1.out _).trans (hb3.mono (HB1.out _).size)); clear hb3)
          | (go_at_call 94; (with_reducible refine (HI1.out _ ((HB3.out.alloc HB3.out.size _).alloc (by have := HB3.out.size; simp; omega) _)).mono ?_); rintro e w5 ⟨v1, rfl, g1⟩; have hr5 := cmid [.int .i64 b, .int .i64 f, .int .i64 mid] [.int .i64 bz, .int .i64 mid, .int .i64 t] HV.out HB3.out g1; have x0 := hr5 0 _ rfl; have x1 := hr5 1 _ rfl; have x2 := hr5 2 _ rfl; have HG1 := Lib.hid (g1.bel ((HB3.out.alloc HB3.out.size _).alloc (by have := HB3.out.size; simp; omega) _)); clear g1 hr5)
          | (go_at_call 94; (with_reducible refine (HI2.out w5 v1 HG1.out.row).mono ?_); rintro e w6 ⟨v2, rfl, g1⟩; have HG2 := Lib.hid (HG1.out.then g1); clear g1))
        go_ret2
        exact ⟨v2, tup2, by rw [HE.out]; exact HG2.out⟩
      · have h3z : ¬ (x : Int) ≤ f := by omega
        clear h3
        go_enter Tryz.func94, Tryz.ntmps94
        go_wp2_with (first
          | (go_at_call 89; (with_reducible refine (HHV.out _).mono ?_); rintro e w3 ⟨rfl, hb3⟩; have HB3 := Lib.hid ((HB1.out _).trans (hb3.mono (HB1.out _).size)); clear hb3)
          | (go_at_call 94; (with_reducible refine (HI1.out _ ((HB3.out.alloc HB3.out.size _).alloc (by have := HB3.out.size; simp; omega) _)).mono ?_); rintro e w5 ⟨v1, rfl, g1⟩; have hr5 := cmid [.int .i64 b, .int .i64 f, .int .i64 mid] [.int .i64 bz, .int .i64 mid, .int .i64 t] HV.out HB3.out g1; have x0 := hr5 0 _ rfl; have x1 := hr5 1 _ rfl; have x2 := hr5 2 _ rfl; have HG1 := Lib.hid (g1.bel ((HB3.out.alloc HB3.out.size _).alloc (by have := HB3.out.size; simp; omega) _)); clear g1 hr5)
          | (go_at_call 94; (with_reducible refine (HI2.out w5 v1 HG1.out.row).mono ?_); rintro e w6 ⟨v2, rfl, g1⟩; have HG2 := Lib.hid (HG1.out.then g1); clear g1))
        go_ret2
        exact ⟨v2, tup2, by rw [HE.out]; exact HG2.out⟩
end Go.Proofs.YtldmajifkmcdcaaGreat
/-
  frame's part: path; a frame's Canon and Path. No condition but those typed at each theorem.
-/
namespace Go.Proofs.YtldmajifkmcdcaaGreat
open Go.RowKit
theorem pt_nd {leaf : Nat} {l r : Tr} {b f : Nat} : pt leaf (.nd l r) b f = rt b (.nd l r) :: (if leaf < f + lv l then pt leaf l b f else pt leaf r (b + sz l) (f + lv l)) := rfl
theorem ht_le : ∀ t, ht t + 1 ≤ lv t
  | .lf => by simp [ht, lv]
  | .nd l r => by
    have h1 := ht_le l
    have h2 := ht_le r
    simp only [ht, lv]
    omega
/-- on the way down: what has been written, the part that is at hand -/
structure PS (w wr : World) (B : Nat) (v : Value) (leaf : Nat) (all : List Nat) (m : Nat) : Prop where
  st : ∃ b f pre, 1 ≤ m ∧ wr.heap[B]? = some (.cells #[.int .i64 (b : Nat), .int .i64 (f : Nat), .int .i64 (f + m : Nat)] 132 (0, 0)) ∧ pre ++ pt leaf (tr m) b f = all ∧
    wr.ownsRow w.heap.size 3 1 v (pre.length + 1) ((ints (pre ++ [rt b (tr m)])).map (Value.int .i64)) ∧ b + 2 * m ≤ 50000 ∧ f ≤ leaf ∧ leaf < f + m ∧ f + m ≤ 20000
  bel : Below w.heap.size w wr
  ne : v.ownBlock ≠ some B
theorem one_cell {w : World} {B : Nat} {cs : Array Value} {t : TypeId} (h : w.heap[B]? = some (.cells cs t (0, 0))) (i : Nat) (v : Value) (e : cs[i]? = some v) : w.cell? ⟨B, i, none⟩ = some v := by
  simp [World.cell?, h, e]
theorem heap_al {w : World} {B : Nat} {o : Obj} (h : w.heap[B]? = some o) (o' : Obj) : (w.alloc o').heap[B]? = some o := (Below.heap_alloc _ _ _ (by have := (Array.getElem?_eq_some_iff.1 h).1; exact this)).trans h
theorem sv_cell {w : World} {B : Nat} {cs : Array Value} {t : TypeId} (h : w.heap[B]? = some (.cells cs t (0, 0))) (o o' : Obj) (i : Nat) (v : Value) (e : cs[i]? = some v) : ((w.alloc o).alloc o').cell? ⟨B, i, none⟩ = some v := one_cell (heap_al (heap_al h o) o') i v e
theorem sv_fr {w : World} {B : Nat} {cs : Array Value} {t : TypeId} (h : w.heap[B]? = some (.cells cs t (0, 0))) (o o' : Obj) (i : Nat) : ((w.alloc o).alloc o').frozen? ⟨B, i, none⟩ = false := by
  simp [World.frozen?, heap_al (heap_al h o) o']
theorem ps_off {wr w3 : World} {B : Nat} (o o' : Obj) (y0 y1 y2 : Value) (h : Below wr.heap.size wr w3) : Off [B] wr (((((w3.alloc o).alloc o').setCell ⟨B, 0, none⟩ y0).setCell ⟨B, 1, none⟩ y1).setCell ⟨B, 2, none⟩ y2) :=
  (((((Off.of h (Nat.le_refl _)).all _).all _).set _ _ (.inl (by simp))).set _ _ (.inl (by simp))).set _ _ (.inl (by simp))
theorem ps_box {w3 : World} {B : Nat} {x0 x1 x2 : Value} {t : TypeId} (o o' : Obj) (y0 y1 y2 : Value) (h : w3.heap[B]? = some (.cells #[x0, x1, x2] t (0, 0))) :
    (((((w3.alloc o).alloc o').setCell ⟨B, 0, none⟩ y0).setCell ⟨B, 1, none⟩ y1).setCell ⟨B, 2, none⟩ y2).heap[B]? = some (.cells #[y0, y1, y2] t (0, 0)) := by
  have h1 := heap_al (heap_al h o) o'
  have h2 : (((w3.alloc o).alloc o').setCell ⟨B, 0, none⟩ y0).heap[B]? = _ := heap_setCell_same _ _ _ _ _ _ h1
  have h3 : ((((w3.alloc o).alloc o').setCell ⟨B, 0, none⟩ y0).setCell ⟨B, 1, none⟩ y1).heap[B]? = _ := heap_setCell_same _ _ _ _ _ _ h2
  rw [heap_setCell_same _ _ _ _ _ _ h3]
  rfl
theorem row_from {w' : World} {g n c base : Nat} {xs : List Value} (h : w'.ownsRow 0 3 1 (.slice (some ⟨g, 0, none⟩) n c) n xs) (hb : base ≤ g) : w'.ownsRow base 3 1 (.slice (some ⟨g, 0, none⟩) n c) n xs := by
  obtain ⟨h1, h2⟩ := h
  refine ⟨h1, ?_⟩
  rcases h2 with h2 | ⟨g', cap, cur, hv, hg, hr⟩
  · exact .inl h2
  · cases hv
    exact .inr ⟨_, _, cur, rfl, hb, hr⟩
theorem ps_next {w wr w5 w7 : World} {B : Nat} {u5 : Value} {leaf gk m' b b' f' r : Nat} {pre all : List Nat} {g cap : Nat} (hrow : wr.ownsRow w.heap.size 3 1 u5 (pre.length + 1) ((ints (pre ++ [rt b (tr gk)])).map (Value.int .i64))) (hB : w.heap.size ≤ B)
    (hbel : Below w.heap.size w wr) (hne : u5.ownBlock ≠ some B) (hO : Off [B] wr w5) (hbx : w5.heap[B]? = some (.cells #[.int .i64 (b' : Nat), .int .i64 (f' : Nat), .int .i64 (f' + m' : Nat)] 132 (0, 0)))
    (r1 : w7.ownsRow 0 3 1 (.slice (some ⟨g, 0, none⟩) (pre.length + 1 + 1) cap) (pre.length + 1 + 1) ((ints (pre ++ [rt b (tr gk)])).map (Value.int .i64) ++ [.int .i64 (r : Nat)]))
    (r2 : (w5.alloc (.cells #[.int .i64 (r : Nat)] 3)).grownBy w7 u5.ownBlock) (r3 : u5.ownBlock = some g ∨ g = (w5.alloc (.cells #[.int .i64 (r : Nat)] 3)).heap.size) (hr : r = rt b' (tr m'))
    (hm : 1 ≤ m') (hall : pre ++ [rt b (tr gk)] ++ pt leaf (tr m') b' f' = all) (h5 : b' + 2 * m' ≤ 50000) (h6 : f' ≤ leaf) (h7 : leaf < f' + m') (h8 : f' + m' ≤ 20000) :
    PS w w7 B (.slice (some ⟨g, 0, none⟩) (pre.length + 1 + 1) cap) leaf all m' := by
  have hs := hbel.size
  have hs5 := hO.size
  have hlt := lt_of_block hbx
  have hbl : ∀ k, u5.ownBlock = some k → w.heap.size ≤ k ∧ k < wr.heap.size := hrow.lt
  have hg : w.heap.size ≤ g ∧ g ≠ B := by
    rcases r3 with e | e
    · exact ⟨(hbl g e).1, fun e2 => hne (by rw [e, e2])⟩
    · simp at e
      omega
  have hpl : (pre ++ [rt b (tr gk)]).length + 1 = pre.length + 1 + 1 := by simp
  have hrow7 : w7.ownsRow w.heap.size 3 1 (.slice (some ⟨g, 0, none⟩) (pre.length + 1 + 1) cap) ((pre ++ [rt b (tr gk)]).length + 1) ((ints (pre ++ [rt b (tr gk)] ++ [rt b' (tr m')])).map (Value.int .i64)) := by
    rw [hpl]
    refine row_from ?_ hg.1
    have e : ints (pre ++ [rt b (tr gk)] ++ [rt b' (tr m')]) = ints (pre ++ [rt b (tr gk)]) ++ [(r : Int)] := by rw [hr]; simp [ints]
    rw [e, List.map_append]
    simpa using r1
  refine ⟨⟨b', f', pre ++ [rt b (tr gk)], hm, ?_, hall, hrow7, h5, h6, h7, h8⟩, ?_, ?_⟩
  · exact (r2.block B (by simp; omega) (fun e => hne e.symm)).trans (heap_al hbx _)
  · have h1 : Below w.heap.size w w5 := hbel.trans (hO.below hs (by simp; exact hB))
    refine (h1.alloc h1.size _).grown r2 ?_ (fun k e => (hbl k e).1)
    have := h1.size
    simp
    omega
  · simp [Value.ownBlock]
    exact hg.2
theorem ps_start (w w2 : World) (n leaf : Nat) (all : List Nat) (hn : n ≤ 20000) (hl : leaf < n) (hall : all = pt leaf (tr n) 0 0)
    (hB : Below (w.alloc (.cells #[.int .i64 0, .int .i64 0, .int .i64 n] 132)).heap.size (w.alloc (.cells #[.int .i64 0, .int .i64 0, .int .i64 n] 132)) w2) :
    PS w (w2.alloc (.cells #[.int .i64 (rt 0 (tr n) : Nat)] 3)) w.heap.size (.slice (some ⟨w2.heap.size, 0, none⟩) 1 1) leaf all n := by
  have hs := hB.size
  simp only [World.size_alloc] at hs
  refine ⟨⟨0, 0, [], by omega, ?_, by rw [hall]; rfl, ?_, by omega, by omega, by omega, by omega⟩, ?_, ?_⟩
  · rw [Below.heap_alloc _ _ _ (by omega), hB.block _ (by simp)]
    rw [heap_alloc_new, Nat.zero_add]
    rfl
  · exact ⟨by simp [ints], .inr ⟨w2.heap.size, 1, #[.int .i64 (rt 0 (tr n) : Nat)], rfl, by omega, heap_alloc_new w2 _, Nat.le_refl _, by simp [maxLen], rfl, by simp [ints]⟩⟩
  · exact (((Below.refl _ w).alloc (Nat.le_refl _) _).trans (hB.mono (by simp))).alloc (by omega) _
  · simp [Value.ownBlock]
    omega
set_option maxRecDepth 100000 in
set_option maxHeartbeats 3200000 in
theorem path_part (w : World) (n leaf : Nat) (hn : n ≤ 20000) (hl : leaf < n) :
    Calls Tryz.prog 57 #[.agg #[.int .i64 0, .int .i64 0, .int .i64 n], .int .i64 leaf] w fun e w' => ∃ v, e = .returned v ∧ w'.ownsRow w.heap.size 3 1 v (pt leaf (tr n) 0 0).length ((ints (pt leaf (tr n) 0 0)).map (Value.int .i64)) ∧ Below w.heap.size w w' := by
  have HR : Hid (∀ X, Calls Tryz.prog 87 #[.agg #[.int .i64 0, .int .i64 0, .int .i64 n]] X fun e w' => e = .returned (.int .i64 (rt 0 (tr n) : Nat)) ∧ Below X.heap.size X w') := Lib.hid (fun X => by
    have := root_any 0 0 n (rt 0 (tr n)) X (by omega) (by have := lv_tr (m := n) (by omega); unfold rt; omega) (by omega)
    rwa [Nat.zero_add] at this)
  obtain ⟨all, hall⟩ : ∃ all, all = pt leaf (tr n) 0 0 := ⟨_, rfl⟩
  rw [← hall]
  have HALL := Lib.hid hall
  clear hall
  go_enter Tryz.func57, Tryz.ntmps57
  go_wp2_with (go_at_call 87; (with_reducible refine (HR.out _).mono ?_); rintro e w2 ⟨rfl, hb⟩; have HB2 := Lib.hid hb; clear hb)
  have HP0 := Lib.hid (ps_start w w2 n leaf all hn hl HALL.out HB2.out)
  clear HR
  go_loopg [5] n (fun gk v wr => 1 ≤ gk ∧ Hid (PS w wr w.heap.size v leaf all gk))
  case atStart => exact ⟨by omega, HP0⟩
  case round =>
    clear HP0
    obtain ⟨hm, HP⟩ := hrel
    have hP := HP.out
    obtain ⟨⟨b, f, pre, -, hbx, hpre, hrow, hb5, hf1, hf2, hf3⟩, hbel, hne⟩ := hP
    have HBX := Lib.hid hbx
    have HPRE := Lib.hid hpre
    have HROW := Lib.hid hrow
    have HBEL := Lib.hid hbel
    have HNE := Lib.hid hne
    obtain ⟨t, ht⟩ : ∃ t, t = f + gk := ⟨_, rfl⟩
    have p0 : wr.cell? ⟨w.heap.size, 0, none⟩ = some (.int .i64 (b : Nat)) := one_cell hbx 0 _ rfl
    have p1 : wr.cell? ⟨w.heap.size, 1, none⟩ = some (.int .i64 (f : Nat)) := one_cell hbx 1 _ rfl
    have p2 : wr.cell? ⟨w.heap.size, 2, none⟩ = some (.int .i64 (f + gk : Nat)) := one_cell hbx 2 _ rfl
    have HIS := Lib.hid (fun X => isLeaf_any b f gk X hm (by omega))
    rw [← ht] at p2 HIS
    have HT := Lib.hid ht
    clear ht hbx hpre hrow hbel hne HP
    unfold pv pvs at HIS
    by_cases h1 : gk = 1
    · have hd : decide (gk = 1) = true := by simp [h1]
      rw [hd] at HIS
      go_wp2_with (go_at_call 88; (with_reducible refine (HIS.out _).mono ?_); rintro e w4 ⟨rfl, rfl⟩)
      go_ret
      subst h1
      have h2 := HPRE.out
      rw [tr_one (by omega)] at h2
      have h3 := HROW.out
      rw [tr_one (by omega)] at h3
      have h4 : pre ++ [rt b .lf] = all := h2
      refine ⟨_, rfl, row_keep ?_ ((Below.refl _ wr).alloc (Nat.le_refl _) _), HBEL.out.alloc HBEL.out.size _⟩
      rw [h4] at h3
      have h5 : pre.length + 1 = all.length := by rw [← h4]; simp
      rw [h5] at h3
      exact h3
    · have hm2 : 2 ≤ gk := by omega
      have hd : decide (gk = 1) = false := by simp [h1]
      rw [hd] at HIS
      obtain ⟨a, ha⟩ : ∃ a, a = gk - gk / 2 := ⟨_, rfl⟩
      obtain ⟨c, hc⟩ : ∃ c, c = gk / 2 := ⟨_, rfl⟩
      obtain ⟨mid, hmid⟩ : ∃ mid, mid = f + a := ⟨_, rfl⟩
      obtain ⟨z, hz⟩ : ∃ z, z = sz (tr a) := ⟨_, rfl⟩
      have etr : tr gk = .nd (tr a) (tr c) := by rw [tr_two hm2, ha, hc]
      have la : lv (tr a) = a := lv_tr (by omega)
      have lc : lv (tr c) = c := lv_tr (by omega)
      have hz1 : z + 1 = 2 * a := by rw [hz]; unfold sz; omega
      have hpt : pt leaf (tr gk) b f = rt b (tr gk) :: (if leaf < mid then pt leaf (tr a) b f else pt leaf (tr c) (b + z) mid) := by rw [etr, pt_nd, la, ← hz, ← hmid]
      have hft := HT.out
      have HHV := Lib.hid (fun X => halves_any b f gk a c z mid t X hm2 ha hc hz1 hmid hft (by omega))
      have HPT := Lib.hid hpt
      have HDD : Hid (mid = f + a ∧ z + 1 = 2 * a ∧ a + c = gk ∧ 1 ≤ a ∧ 1 ≤ c ∧ a < gk ∧ c < gk ∧ t = mid + c ∧ t = f + gk) := Lib.hid (by omega)
      obtain ⟨hd1, hd2, hd3, hd4, hd5, hd6, hd7, hd8, hd9⟩ := HDD.out
      have hrl : pre.length + 1 ≤ 60000 := by
        have h2 := congrArg List.length HPRE.out
        rw [List.length_append, HALL.out] at h2
        have h3 := (pt_len leaf (tr n) 0 0).2
        have h4 := ht_le (tr n)
        rw [lv_tr (by omega)] at h4
        have h5 := (pt_len leaf (tr gk) b f).1
        omega
      unfold pv at HHV
      have q0 : ∀ o, (wr.alloc o).cell? ⟨w.heap.size, 0, none⟩ = some (.int .i64 (b : Nat)) := fun o => cell_al o p0
      have q1 : ∀ o, (wr.alloc o).cell? ⟨w.heap.size, 1, none⟩ = some (.int .i64 (f : Nat)) := fun o => cell_al o p1
      have q2 : ∀ o, (wr.alloc o).cell? ⟨w.heap.size, 2, none⟩ = some (.int .i64 (t : Nat)) := fun o => cell_al o p2
      by_cases h5 : leaf < mid
      · have h5z : (leaf : Int) < mid := by omega
        obtain ⟨r, hrr⟩ : ∃ r, r = rt b (tr a) := ⟨_, rfl⟩
        have HR : Hid (∀ X, Calls Tryz.prog 87 #[.agg #[.int .i64 b, .int .i64 f, .int .i64 mid]] X fun e w' => e = .returned (.int .i64 (r : Nat)) ∧ Below X.heap.size X w') := Lib.hid (fun X => by
          have := root_any b f a r X (by omega) (by rw [hrr]; unfold rt; omega) (by omega)
          rwa [← hd1] at this)
        rw [if_pos h5] at hpt
        have HNX := Lib.hid (fun w5 w7 g cap (hO : Off [w.heap.size] wr w5) (hbx : w5.heap[w.heap.size]? = some (.cells #[.int .i64 (b : Nat), .int .i64 (f : Nat), .int .i64 (mid : Nat)] 132 (0, 0))) r1 r2 r3 => ps_next (leaf := leaf) (m' := a) (b' := b) (f' := f) (r := r) (all := all) (g := g) (cap := cap) (w7 := w7) HROW.out (Nat.le_refl _) HBEL.out HNE.out hO (by rw [← hd1]; exact hbx) r1 r2 r3 hrr (by omega) (by rw [← HPRE.out, hpt]; simp) (by omega) hf1 (by omega) (by omega))
        clear hd1 hd2 hd3 hd4 hd5 hd6 hd7 hd8 hd9 ha hc hmid hz hz1 hpt la lc etr hft hb5 hf3 hf2 hrr
        go_wp2_with (first
          | (go_at_call 88; (with_reducible refine (HIS.out _).mono ?_); rintro e w4 ⟨rfl, rfl⟩)
          | (go_at_call 89; (with_reducible refine (HHV.out _).mono ?_); rintro e w3 ⟨rfl, hb3⟩; have HB3 := Lib.hid (((Below.refl _ wr).alloc (Nat.le_refl _) _).trans (hb3.mono (by simp))); clear hb3; have hbx3 := (HB3.out.block _ (lt_of_block HBX.out)).trans HBX.out; have HBX3 := Lib.hid hbx3; have s0 := fun o o' => sv_cell hbx3 o o' 0 _ rfl; have s1 := fun o o' => sv_cell hbx3 o o' 1 _ rfl; have s2 := fun o o' => sv_cell hbx3 o o' 2 _ rfl; have f0 := fun o o' => sv_fr hbx3 o o' 0; have f1 := fun o o' => sv_fr hbx3 o o' 1; have f2 := fun o o' => sv_fr hbx3 o o' 2; clear hbx3)
          | (go_at_call 87; (with_reducible refine (HR.out _).mono ?_); rintro e w5 ⟨rfl, hb⟩; have HO5 := Lib.hid ((ps_off _ _ _ _ _ HB3.out).bel hb); have HX5 := Lib.hid ((hb.block _ (lt_of_block (ps_box _ _ _ _ _ HBX3.out))).trans (ps_box _ _ _ _ _ HBX3.out)); have HW5 := Lib.hid (((row_at HROW.out (fun k e => ⟨HO5.out.block k (HROW.out.lt k e).2 (by simp; exact fun e2 => HNE.out (by rw [e, e2])), Nat.zero_le _⟩)).alloc (.cells #[.int .i64 (r : Nat)] 3))); clear hb)
          | (at_builtin; refine wpList_more Tryz.info3 rfl (by decide) (by decide) Tryz.underlying72 _ rfl _ _ rfl u5 (pre.length + 1) _ rfl HW5.out ⟨w5.heap.size, 0, none⟩ 1 1 [.int .i64 (r : Nat)] rfl rfl (one_at _ _ _) (by simp [Value.oneCell']) (by omega) (by omega) ?_; intro g cap w7 r1 r2 r3; have HPS := Lib.hid (HNX.out w5 w7 g cap HO5.out HX5.out r1 r2 r3); clear r1 r2 r3))
        go_roundg a
        case measure => exact HDD.out.2.2.2.2.2.1
        case rel => exact ⟨HDD.out.2.2.2.1, HPS⟩
      · have h5z : ¬ (leaf : Int) < mid := by omega
        obtain ⟨r, hrr⟩ : ∃ r, r = rt (b + z) (tr c) := ⟨_, rfl⟩
        obtain ⟨bz, hbz⟩ : ∃ bz, bz = b + z := ⟨_, rfl⟩
        rw [← hbz] at HHV hpt hrr
        have HR : Hid (∀ X, Calls Tryz.prog 87 #[.agg #[.int .i64 bz, .int .i64 mid, .int .i64 t]] X fun e w' => e = .returned (.int .i64 (r : Nat)) ∧ Below X.heap.size X w') := Lib.hid (fun X => by
          have := root_any bz mid c r X (by omega) (by rw [hrr]; unfold rt; omega) (by omega)
          rwa [← hd8] at this)
        rw [if_neg h5] at hpt
        have HNX := Lib.hid (fun w5 w7 g cap (hO : Off [w.heap.size] wr w5) (hbx : w5.heap[w.heap.size]? = some (.cells #[.int .i64 (bz : Nat), .int .i64 (mid : Nat), .int .i64 (t : Nat)] 132 (0, 0))) r1 r2 r3 => ps_next (leaf := leaf) (m' := c) (b' := bz) (f' := mid) (r := r) (all := all) (g := g) (cap := cap) (w7 := w7) HROW.out (Nat.le_refl _) HBEL.out HNE.out hO (by rw [← hd8]; exact hbx) r1 r2 r3 hrr (by omega) (by rw [← HPRE.out, hpt]; simp) (by omega) (by omega) (by omega) (by omega))
        clear hd1 hd2 hd3 hd4 hd5 hd6 hd7 hd8 hd9 ha hc hmid hz hz1 hpt la lc etr hft hb5 hf3 hf2 hrr hbz
        go_wp2_with (first
          | (go_at_call 88; (with_reducible refine (HIS.out _).mono ?_); rintro e w4 ⟨rfl, rfl⟩)
          | (go_at_call 89; (with_reducible refine (HHV.out _).mono ?_); rintro e w3 ⟨rfl, hb3⟩; have HB3 := Lib.hid (((Below.refl _ wr).alloc (Nat.le_refl _) _).trans (hb3.mono (by simp))); clear hb3; have hbx3 := (HB3.out.block _ (lt_of_block HBX.out)).trans HBX.out; have HBX3 := Lib.hid hbx3; have s0 := fun o o' => sv_cell hbx3 o o' 0 _ rfl; have s1 := fun o o' => sv_cell hbx3 o o' 1 _ rfl; have s2 := fun o o' => sv_cell hbx3 o o' 2 _ rfl; have f0 := fun o o' => sv_fr hbx3 o o' 0; have f1 := fun o o' => sv_fr hbx3 o o' 1; have f2 := fun o o' => sv_fr hbx3 o o' 2; clear hbx3)
          | (go_at_call 87; (with_reducible refine (HR.out _).mono ?_); rintro e w5 ⟨rfl, hb⟩; have HO5 := Lib.hid ((ps_off _ _ _ _ _ HB3.out).bel hb); have HX5 := Lib.hid ((hb.block _ (lt_of_block (ps_box _ _ _ _ _ HBX3.out))).trans (ps_box _ _ _ _ _ HBX3.out)); have HW5 := Lib.hid (((row_at HROW.out (fun k e => ⟨HO5.out.block k (HROW.out.lt k e).2 (by simp; exact fun e2 => HNE.out (by rw [e, e2])), Nat.zero_le _⟩)).alloc (.cells #[.int .i64 (r : Nat)] 3))); clear hb)
          | (at_builtin; refine wpList_more Tryz.info3 rfl (by decide) (by decide) Tryz.underlying72 _ rfl _ _ rfl u5 (pre.length + 1) _ rfl HW5.out ⟨w5.heap.size, 0, none⟩ 1 1 [.int .i64 (r : Nat)] rfl rfl (one_at _ _ _) (by simp [Value.oneCell']) (by omega) (by omega) ?_; intro g cap w7 r1 r2 r3; have HPS := Lib.hid (HNX.out w5 w7 g cap HO5.out HX5.out r1 r2 r3); clear r1 r2 r3))
        go_roundg c
        case measure => exact HDD.out.2.2.2.2.2.2.1
        case rel => exact ⟨HDD.out.2.2.2.2.1, HPS⟩
end Go.Proofs.YtldmajifkmcdcaaGreat
/-
  A frame's Canon and Path. No condition but those typed at each theorem.
-/
namespace Go.Proofs.YtldmajifkmcdcaaGreat
open Go.RowKit
theorem row_up {w : World} {base base' n : Nat} {e : TypeId} {size : Nat} {v : Value} {xs : List Value} (h : w.ownsRow base e size v n xs) (hb : ∀ k, v.ownBlock = some k → base' ≤ k) : w.ownsRow base' e size v n xs := by
  obtain ⟨h1, h2⟩ := h
  refine ⟨h1, ?_⟩
  rcases h2 with h2 | ⟨g, cap, cur, hv, hg, hr⟩
  · exact .inl h2
  · exact .inr ⟨g, cap, cur, hv, hb g (by rw [hv]; rfl), hr⟩
/-- the canonical nodes of a range of a frame's leaves, and how many are entered -/
def cnF (n x y : Nat) : List Nat × Nat := if x = y then ([], 0) else cn x y (tr n) 0 0
def tup3 (v : Value) (k e : Int) : Value := .tuple #[v, .int .i64 k, .int .i64 e]
def tupP (v : Value) (e : Int) : Value := .tuple #[v, .int .i64 e]
set_option maxRecDepth 100000 in
set_option maxHeartbeats 1600000 in
theorem FCanon_any (w : World) (B n : Nat) (d : Int) (pp : Value) (h : FR w B n d pp) (x y : Nat) (hxy : x ≤ y) (hy : y ≤ n) (hn : n ≤ 1600) :
    Calls Tryz.prog 64 #[.pointer (some ⟨B, 0, none⟩), .int .i64 x, .int .i64 y] w fun e w' => ∃ v, e = .returned (tup3 v ((cnF n x y).2 : Nat) 0) ∧ w'.ownsRow w.heap.size 3 1 v (cnF n x y).1.length ((ints (cnF n x y).1).map (Value.int .i64)) ∧ Below w.heap.size w w' := by
  have HM := Lib.hid (fmade_yes w B n d pp h)
  have HW := Lib.hid (whole_any w B n d pp h)
  have c4 := h.c4
  have h1 : ¬ (x : Int) < 0 := by omega
  have h2 : ¬ (y : Int) < (x : Int) := by omega
  have h3 : ¬ (n : Int) < (y : Int) := by omega
  clear h
  unfold tup3
  by_cases e : x = y
  · have e2 : cnF n x y = ([], 0) := by unfold cnF; rw [if_pos e]
    rw [e2]
    subst e
    go_enter Tryz.func64, Tryz.ntmps64
    go_wp2_with (go_at_call 55; (with_reducible refine HM.out.mono ?_); rintro e w1 ⟨rfl, rfl⟩)
    refine bodyPost_ret (v := .tuple #[.slice none 0 0, .int .i64 0, .int .i64 0]) ?_ rfl ⟨_, rfl, World.ownsRow_nil _ _ _ _, Below.refl _ _⟩
    simp [results, Tryz.f64, go_sem]
  · have e2 : cnF n x y = cn x y (tr n) 0 0 := by unfold cnF; rw [if_neg e]
    have h4 : ((x : Int) == (y : Int)) = false := by simp; omega
    have HC : Hid (∀ X, Calls Tryz.prog 94 #[.agg #[.int .i64 0, .int .i64 0, .int .i64 n], .int .i64 x, .int .i64 y, .slice none 0 0] X fun e w' => ∃ v, e = .returned (.tuple #[v, .int .i64 ((cnF n x y).2 : Nat)]) ∧ w'.ownsRow X.heap.size 3 1 v (cnF n x y).1.length ((ints (cnF n x y).1).map (Value.int .i64)) ∧ Below X.heap.size X w') := Lib.hid (fun X => by
      rw [e2]
      refine (canon_part x y (by omega) (by omega) n 0 0 n X (.slice none 0 0) [] (by omega) (by omega) (World.ownsRow_nil _ _ _ _) (by simp; omega) (by omega) (by omega)).mono ?_
      rintro e w' ⟨v, rfl, hc⟩
      refine ⟨v, rfl, ?_, ⟨hc.off.os, hc.off.tape, hc.off.output, hc.off.size, fun k hk => hc.off.block k hk (by simp [Value.ownBlock])⟩⟩
      have h1 := hc.row
      rw [List.nil_append, ints_len] at h1
      refine row_up h1 (fun k hk => ?_)
      rcases hc.own k hk with g | g
      · cases g
      · exact g)
    clear e2 e
    generalize cnF n x y = c at *
    go_enter Tryz.func64, Tryz.ntmps64
    go_wp2_with (first
      | (go_at_call 55; (with_reducible refine HM.out.mono ?_); rintro e w1 ⟨rfl, rfl⟩)
      | (go_at_call 56; (with_reducible refine HW.out.mono ?_); rintro e w2 ⟨rfl, hb⟩; have HB1 := Lib.hid hb; clear hb)
      | (go_at_call 94; (with_reducible refine (HC.out _).mono ?_); rintro e w3 ⟨v, rfl, hr, hb⟩; have HR := Lib.hid hr; have HB := Lib.hid (HB1.out.trans (hb.mono HB1.out.size)); clear hb hr))
    have hs := HB1.out.size
    refine bodyPost_ret (v := .tuple #[v, .int .i64 (c.2 : Nat), .int .i64 0]) ?_ rfl ⟨v, rfl, row_up HR.out (fun k hk => Nat.le_trans hs (HR.out.lt k hk).1), HB.out⟩
    simp [results, Tryz.f64, go_sem]
set_option maxRecDepth 100000 in
set_option maxHeartbeats 1600000 in
theorem FPath_any (w : World) (B n : Nat) (d : Int) (pp : Value) (h : FR w B n d pp) (leaf : Nat) (hl : leaf < n) (hn : n ≤ 1600) :
    Calls Tryz.prog 29 #[.pointer (some ⟨B, 0, none⟩), .int .i64 leaf] w fun e w' => ∃ v, e = .returned (tupP v 0) ∧ w'.ownsRow w.heap.size 3 1 v (pt leaf (tr n) 0 0).length ((ints (pt leaf (tr n) 0 0)).map (Value.int .i64)) ∧ Below w.heap.size w w' := by
  have HM := Lib.hid (fmade_yes w B n d pp h)
  have HW := Lib.hid (whole_any w B n d pp h)
  have HP := Lib.hid (fun X => path_part X n leaf (by omega) hl)
  have c4 := h.c4
  have h1 : ¬ (leaf : Int) < 0 := by omega
  have h2 : ¬ (n : Int) ≤ (leaf : Int) := by omega
  clear h
  unfold tupP
  generalize pt leaf (tr n) 0 0 = p at *
  go_enter Tryz.func29, Tryz.ntmps29
  go_wp2_with (first
    | (go_at_call 55; (with_reducible refine HM.out.mono ?_); rintro e w1 ⟨rfl, rfl⟩)
    | (go_at_call 56; (with_reducible refine HW.out.mono ?_); rintro e w2 ⟨rfl, hb⟩; have HB1 := Lib.hid hb; clear hb)
    | (go_at_call 57; (with_reducible refine (HP.out _).mono ?_); rintro e w3 ⟨v, rfl, hr, hb⟩; have HR := Lib.hid hr; have HB := Lib.hid (HB1.out.trans (hb.mono HB1.out.size)); clear hb hr))
  have hs := HB1.out.size
  go_ret2
  exact ⟨v, rfl, row_up HR.out (fun k hk => Nat.le_trans hs (HR.out.lt k hk).1), HB.out⟩
end Go.Proofs.YtldmajifkmcdcaaGreat
/-
  A frame's nodes, one by one: which is a leaf, over what each is; plain lists, no program. No condition but those typed at each theorem.
-/
namespace Go.Proofs.YtldmajifkmcdcaaGreat
open Go.RowKit
def nf (n : Nd) : Int := n.2.2.2.1
def nt (n : Nd) : Int := n.2.2.2.2.1
/-- how many leaves -/
def lvc (L : List Nd) : Nat := L.countP (fun n => decide (nk n = 1))
theorem lvc_snoc (L : List Nd) (n : Nd) : lvc (L ++ [n]) = lvc L + (if nk n = 1 then 1 else 0) := by
  simp [lvc, List.countP_append, List.countP_cons]
/-- what stands behind these nodes: the next leaf, or a node over two of them that lie side by side -/
def PN (pre : List Nd) (n : Nd) : Prop :=
  n = (1, -1, -1, (lvc pre : Int), (lvc pre : Int) + 1, 0, (lvc pre : Int)) ∨
    ∃ (l r : Nat) (a b : Nd), pre[l]? = some a ∧ pre[r]? = some b ∧ n = (2, (l : Int), (r : Int), nf a, nt b, 0, 0) ∧ nt a = nf b ∧ nt b - nf b ≤ nt a - nf a ∧ nt a - nf a ≤ nt b - nf b + 1
def AllP (L : List Nd) : Prop := ∀ i n, L[i]? = some n → PN (L.take i) n
theorem AllP.nil : AllP [] := fun i n h => by simp at h
theorem AllP.snoc {L : List Nd} {n : Nd} (h : AllP L) (hn : PN L n) : AllP (L ++ [n]) := fun i m e => by
  by_cases hi : i < L.length
  · rw [List.getElem?_append_left hi] at e
    rw [List.take_append_of_le_length (by omega)]
    exact h i m e
  · rw [List.getElem?_append_right (by omega)] at e
    have hj : i - L.length = 0 := by
      have := (List.getElem?_eq_some_iff.1 e).1
      simp at this
      omega
    rw [hj] at e
    cases e
    have : i = L.length := by omega
    subst this
    simpa using hn
def bal : Tr → Prop
  | .lf => True
  | .nd l r => bal l ∧ bal r ∧ lv r ≤ lv l ∧ lv l ≤ lv r + 1
theorem bal_tr (m : Nat) : bal (tr m) := by
  induction m using Nat.strongRecOn with
  | _ m ih =>
    by_cases h2 : 2 ≤ m
    · rw [tr_two h2, bal, lv_tr (by omega), lv_tr (by omega)]
      exact ⟨ih _ (by omega), ih _ (by omega), by omega, by omega⟩
    · rw [tr_one (by omega)]
      trivial
theorem all_nds : ∀ t b f (A : List Nd), bal t → A.length = b → lvc A = f → AllP A → AllP (A ++ nds b f t) ∧ lvc (A ++ nds b f t) = f + lv t ∧ ∃ n, (A ++ nds b f t)[rt b t]? = some n ∧ nf n = f ∧ nt n = f + lv t
  | .lf, b, f, A, _, hb, hf, hA => by
    refine ⟨hA.snoc (.inl ?_), ?_, (1, -1, -1, (f : Int), ((f + 1 : Nat) : Int), 0, (f : Int)), ?_, rfl, ?_⟩
    · rw [hf]; simp
    · rw [nds, lvc_snoc, hf]; simp [nk, lv]
    · rw [nds, List.getElem?_append_right (by simp [rt, lv, hb])]; simp [rt, lv, hb]
    · simp [nt, lv]
  | .nd l r, b, f, A, hbal, hb, hf, hA => by
    obtain ⟨b1, b2, b3, b4⟩ := hbal
    obtain ⟨l1, l2, na, l3, l4, l5⟩ := all_nds l b f A b1 hb hf hA
    have hlen : (A ++ nds b f l).length = b + sz l := by rw [List.length_append, nds_len, hb]
    obtain ⟨r1, r2, nb, r3, r4, r5⟩ := all_nds r (b + sz l) (f + lv l) _ b2 hlen l2 l1
    have hlen2 : (A ++ nds b f l ++ nds (b + sz l) (f + lv l) r).length = b + sz l + sz r := by rw [List.length_append, nds_len, hlen]
    have e : A ++ nds b f (.nd l r) = A ++ nds b f l ++ nds (b + sz l) (f + lv l) r ++ [(2, (rt b l : Int), (rt (b + sz l) r : Int), (f : Int), ((f + (lv l + lv r) : Nat) : Int), 0, 0)] := by
      simp [nds]
    have hk : rt b l < (A ++ nds b f l).length := by rw [hlen]; have := rt_lt b l; omega
    rw [e]
    refine ⟨r1.snoc (.inr ⟨rt b l, rt (b + sz l) r, na, nb, ?_, r3, ?_, ?_, ?_, ?_⟩), ?_, (2, (rt b l : Int), (rt (b + sz l) r : Int), (f : Int), ((f + (lv l + lv r) : Nat) : Int), 0, 0), ?_, rfl, ?_⟩
    · rw [List.getElem?_append_left hk]; exact l3
    · rw [l4, r5]
      simp only [Prod.mk.injEq, true_and, and_true]
      omega
    · rw [l5, r4]; omega
    · rw [l4, l5, r4, r5]; omega
    · rw [l4, l5, r4, r5]; omega
    · rw [lvc_snoc, r2]; simp [nk, lv]; omega
    · rw [rt_nd, List.getElem?_append_right (by rw [hlen2]; exact Nat.le_refl _), hlen2]; simp
    · simp [nt, lv]
/-- over what a node is -/
theorem nds_bound : ∀ t b f, ∀ n ∈ nds b f t, (f : Int) ≤ nf n ∧ nf n < nt n ∧ nt n ≤ f + lv t
  | .lf, b, f, n, h => by
    simp only [nds, List.mem_singleton] at h
    subst h
    simp only [nf, nt, lv]
    omega
  | .nd l r, b, f, n, h => by
    have := lv_pos l
    have := lv_pos r
    simp only [nds, List.mem_append, List.mem_singleton] at h
    simp only [lv]
    rcases h with (h | h) | h
    · have := nds_bound l b f n h; omega
    · have := nds_bound r _ _ n h; omega
    · subst h
      simp only [nf, nt]
      omega
theorem ndN_pos {n : Nat} (h : 1 ≤ n) : ndN n = nds 0 0 (tr n) := by unfold ndN; rw [if_neg (by omega)]
theorem ndN_all (n : Nat) : AllP (ndN n) := by
  by_cases h : 1 ≤ n
  · rw [ndN_pos h]
    have := (all_nds (tr n) 0 0 [] (bal_tr n) rfl rfl AllP.nil).1
    simpa using this
  · unfold ndN
    rw [if_pos (by omega)]
    exact AllP.nil
theorem ndN_bound {n i : Nat} {x : Nd} (e : (ndN n)[i]? = some x) : 0 ≤ nf x ∧ nf x < nt x ∧ nt x ≤ n := by
  by_cases h : 1 ≤ n
  · rw [ndN_pos h] at e
    have := nds_bound (tr n) 0 0 x (List.mem_of_getElem? e)
    rw [lv_tr h] at this
    omega
  · unfold ndN at e
    rw [if_pos (by omega)] at e
    simp at e
end Go.Proofs.YtldmajifkmcdcaaGreat
/-
  Canonical nodes of a range: they lie one behind the other over it, no two have one parent, they are few, and few nodes are entered; paths: from the root to a leaf, one of its nodes is canonical; plain lists, no program. No condition but those typed at each theorem.
-/
namespace Go.Proofs.YtldmajifkmcdcaaGreat
open Go.RowKit
/-- the nodes of a tree stand in the list, from the place b on -/
def SG (L : List Nd) (b f : Nat) (t : Tr) : Prop := ∀ i n, (nds b f t)[i]? = some n → L[b + i]? = some n
theorem SG.left {L : List Nd} {b f : Nat} {l r : Tr} (h : SG L b f (.nd l r)) : SG L b f l := fun i n e => h i n (by
  have hi := (List.getElem?_eq_some_iff.1 e).1
  rw [nds, List.append_assoc, List.getElem?_append_left hi]
  exact e)
theorem SG.right {L : List Nd} {b f : Nat} {l r : Tr} (h : SG L b f (.nd l r)) : SG L (b + sz l) (f + lv l) r := fun i n e => by
  have hi := (List.getElem?_eq_some_iff.1 e).1
  have := h (sz l + i) n (by
    rw [nds, List.getElem?_append_left (by rw [List.length_append, nds_len]; omega), List.getElem?_append_right (by rw [nds_len]; omega), nds_len, show sz l + i - sz l = i by omega]
    exact e)
  rwa [← Nat.add_assoc] at this
theorem SG.root {L : List Nd} {b f : Nat} {l r : Tr} (h : SG L b f (.nd l r)) : L[rt b (.nd l r)]? = some (2, (rt b l : Int), (rt (b + sz l) r : Int), (f : Int), ((f + (lv l + lv r) : Nat) : Int), 0, 0) := by
  have := h (sz l + sz r) (2, (rt b l : Int), (rt (b + sz l) r : Int), (f : Int), ((f + (lv l + lv r) : Nat) : Int), 0, 0) (by
    rw [nds, List.getElem?_append_right (by rw [List.length_append, nds_len, nds_len]; exact Nat.le_refl _), List.length_append, nds_len, nds_len]
    simp)
  rwa [rt_nd, Nat.add_assoc]
theorem SG.top {L : List Nd} {b f : Nat} {t : Tr} (h : SG L b f t) : ∃ n, L[rt b t]? = some n ∧ nf n = f ∧ nt n = ((f + lv t : Nat) : Int) := by
  cases t with
  | lf => exact ⟨(1, -1, -1, (f : Int), ((f + 1 : Nat) : Int), 0, (f : Int)), by have := h 0 _ rfl; simpa [rt, lv] using this, rfl, rfl⟩
  | nd l r => exact ⟨_, h.root, rfl, rfl⟩
theorem SG.all (n : Nat) (h : 1 ≤ n) : SG (ndN n) 0 0 (tr n) := fun i x e => by
  rw [ndN_pos h, Nat.zero_add]
  exact e
/-- these places lie one behind the other, from a leaf on, ahead of another one -/
def Ch (L : List Nd) : Nat → List Nat → Nat → Prop
  | s, [], e => s = e
  | s, k :: ks, e => ∃ n, L[k]? = some n ∧ nf n = s ∧ ∃ s2 : Nat, nt n = s2 ∧ s < s2 ∧ Ch L s2 ks e
theorem Ch.append {L : List Nd} : ∀ {ks ms : List Nat} {s e e2 : Nat}, Ch L s ks e → Ch L e ms e2 → Ch L s (ks ++ ms) e2
  | [], ms, s, e, e2, h, g => by
    have : s = e := h
    subst this
    exact g
  | k :: ks, ms, s, e, e2, ⟨n, h1, h2, s2, h3, h4, h5⟩, g => ⟨n, h1, h2, s2, h3, h4, h5.append g⟩
theorem Ch.le {L : List Nd} : ∀ {ks : List Nat} {s e : Nat}, Ch L s ks e → s ≤ e
  | [], s, e, h => Nat.le_of_eq h
  | k :: ks, s, e, ⟨n, h1, h2, s2, h3, h4, h5⟩ => by have := h5.le; omega
theorem cn_chain {L : List Nd} {x y : Nat} (hxy : x < y) : ∀ {t b f}, SG L b f t → ¬ (f + lv t ≤ x ∨ y ≤ f) → Ch L (max x f) (cn x y t b f).1 (min y (f + lv t))
  | .lf, b, f, h, ho => by
    rw [cn_in (by simp only [lv] at ho ⊢; omega)]
    obtain ⟨n, h1, h2, h3⟩ := h.top
    simp only [lv] at ho h3 ⊢
    exact ⟨n, h1, by rw [h2]; omega, f + 1, by rw [h3], by omega, show _ = _ by omega⟩
  | .nd l r, b, f, h, ho => by
    have := lv_pos l
    have := lv_pos r
    simp only [lv] at ho ⊢
    by_cases hi : x ≤ f ∧ f + (lv l + lv r) ≤ y
    · rw [cn_in (by simpa only [lv] using hi)]
      obtain ⟨n, h1, h2, h3⟩ := h.top
      simp only [lv] at h3
      exact ⟨n, h1, by rw [h2]; omega, f + (lv l + lv r), by rw [h3], by omega, show _ = _ by omega⟩
    · rw [cn_cut ho hi]
      by_cases hl : f + lv l ≤ x
      · have h2 := cn_chain hxy h.right (by omega)
        rw [cn_apart (t := l) (.inl hl)]
        rw [show max x (f + lv l) = max x f by omega, show min y (f + lv l + lv r) = min y (f + (lv l + lv r)) by omega] at h2
        exact h2
      · by_cases hr : y ≤ f + lv l
        · have h1 := cn_chain hxy h.left (by omega)
          rw [cn_apart (t := r) (.inr hr)]
          rw [show min y (f + lv l) = min y (f + (lv l + lv r)) by omega] at h1
          simpa using h1
        · have h1 := cn_chain hxy h.left (by omega)
          have h2 := cn_chain hxy h.right (by omega)
          rw [show min y (f + lv l) = f + lv l by omega] at h1
          rw [show max x (f + lv l) = f + lv l by omega, show min y (f + lv l + lv r) = min y (f + (lv l + lv r)) by omega] at h2
          exact h1.append h2
theorem cnF_chain {n x y : Nat} (hxy : x ≤ y) (hy : y ≤ n) : Ch (ndN n) x (cnF n x y).1 y := by
  unfold cnF
  split
  · assumption
  · have h := cn_chain (x := x) (y := y) (by omega) (SG.all n (by omega)) (by rw [lv_tr (by omega)]; omega)
    rw [lv_tr (by omega), show max x 0 = x by omega, show min y (0 + n) = y by omega] at h
    exact h
/-- few, if the range goes on to one end of the leaves -/
theorem cn_few1 (x y : Nat) : ∀ t b f, (x ≤ f ∨ f + lv t ≤ y) → (cn x y t b f).2 ≤ 2 * ht t + 1 ∧ (¬ (x ≤ f ∧ f + lv t ≤ y) → (cn x y t b f).1.length ≤ ht t)
  | .lf, b, f, h => by
    rw [cn]
    simp only [lv] at h ⊢
    split
    · simp [ht]
    · simp [ht]; omega
  | .nd l r, b, f, h => by
    have := lv_pos l
    have := lv_pos r
    have h1 := cn_few1 x y l b f
    have h2 := cn_few1 x y r (b + sz l) (f + lv l)
    simp only [lv] at h ⊢
    by_cases ha : f + (lv l + lv r) ≤ x ∨ y ≤ f
    · rw [cn_apart (by simpa only [lv] using ha)]
      simp
    · by_cases hi : x ≤ f ∧ f + (lv l + lv r) ≤ y
      · rw [cn_in (by simpa only [lv] using hi)]
        simp [hi]
      · rw [cn_cut ha hi]
        simp only [ht, List.length_append]
        refine ⟨?_, fun _ => ?_⟩
        · by_cases al : f + lv l ≤ x ∨ y ≤ f
          · rw [cn_apart (t := l) al]
            have := h2 (by omega)
            simp only
            omega
          · by_cases ar : f + lv l + lv r ≤ x ∨ y ≤ f + lv l
            · rw [cn_apart (t := r) ar]
              have := h1 (by omega)
              simp only
              omega
            · by_cases il : x ≤ f ∧ f + lv l ≤ y
              · rw [cn_in (t := l) il]
                have := h2 (by omega)
                simp only
                omega
              · rw [cn_in (t := r) (by omega)]
                have := h1 (by omega)
                simp only
                omega
        · by_cases al : f + lv l ≤ x ∨ y ≤ f
          · rw [cn_apart (t := l) al]
            by_cases ir : x ≤ f + lv l ∧ f + lv l + lv r ≤ y
            · rw [cn_in (t := r) ir]
              simp
            · have := (h2 (by omega)).2 ir
              simp
              omega
          · by_cases ar : f + lv l + lv r ≤ x ∨ y ≤ f + lv l
            · rw [cn_apart (t := r) ar]
              by_cases il : x ≤ f ∧ f + lv l ≤ y
              · rw [cn_in (t := l) il]
                simp
              · have := (h1 (by omega)).2 il
                simp
                omega
            · by_cases il : x ≤ f ∧ f + lv l ≤ y
              · rw [cn_in (t := l) il]
                have := (h2 (by omega)).2 (by omega)
                simp
                omega
              · rw [cn_in (t := r) (by omega)]
                have := (h1 (by omega)).2 il
                simp
                omega
theorem cn_few (x y : Nat) : ∀ t b f, (cn x y t b f).2 ≤ 4 * ht t + 1 ∧ (cn x y t b f).1.length ≤ max (2 * ht t) 1 ∧ (cn x y t b f).1.length ≤ (cn x y t b f).2
  | .lf, b, f => by
    rw [cn]
    split <;> simp [ht]
  | .nd l r, b, f => by
    have := lv_pos l
    have := lv_pos r
    have h1 := cn_few x y l b f
    have h2 := cn_few x y r (b + sz l) (f + lv l)
    have g1 := cn_few1 x y l b f
    have g2 := cn_few1 x y r (b + sz l) (f + lv l)
    by_cases ha : f + (lv l + lv r) ≤ x ∨ y ≤ f
    · rw [cn_apart (by simpa only [lv] using ha)]
      simp
    · by_cases hi : x ≤ f ∧ f + (lv l + lv r) ≤ y
      · rw [cn_in (by simpa only [lv] using hi)]
        simp
        omega
      · rw [cn_cut ha hi]
        simp only [ht, List.length_append]
        by_cases al : f + lv l ≤ x ∨ y ≤ f
        · rw [cn_apart (t := l) al] at h1 ⊢
          simp only [List.length_nil]
          omega
        · by_cases ar : f + lv l + lv r ≤ x ∨ y ≤ f + lv l
          · rw [cn_apart (t := r) ar] at h2 ⊢
            simp only [List.length_nil]
            omega
          · have k1 := g1 (by omega)
            have k2 := g2 (by omega)
            by_cases il : x ≤ f ∧ f + lv l ≤ y
            · have k3 := k2.2 (by omega)
              rw [cn_in (t := l) il] at h1 k1 ⊢
              simp only [List.length_singleton] at h1 k1 ⊢
              omega
            · have k3 := k1.2 il
              by_cases ir : x ≤ f + lv l ∧ f + lv l + lv r ≤ y
              · rw [cn_in (t := r) ir] at h2 k2 ⊢
                simp only [List.length_singleton] at h2 k2 ⊢
                omega
              · have k4 := k2.2 ir
                omega
theorem cnF_few {n x y : Nat} (hxy : x < y) (hy : y ≤ n) (hn : n ≤ 1600) : (cnF n x y).2 ≤ 4 * lgI n + 1 ∧ (cnF n x y).1.length ≤ max (2 * lgI n) 1 ∧ (cnF n x y).1.length ≤ (cnF n x y).2 := by
  unfold cnF
  rw [if_neg (by omega)]
  have := cn_few x y (tr n) 0 0
  rw [ht_tr (by omega) (by omega)] at this
  exact this
end Go.Proofs.YtldmajifkmcdcaaGreat
/-
  Paths: from the root to a leaf, kid by kid; of a leaf's path just one node is canonical, if the range has the leaf; plain lists, no program. No condition but those typed at each theorem.
-/
namespace Go.Proofs.YtldmajifkmcdcaaGreat
open Go.RowKit
theorem pt_range {leaf k : Nat} : ∀ {t b f}, k ∈ pt leaf t b f → b ≤ k ∧ k ≤ rt b t
  | .lf, b, f, h => by simp [pt] at h; subst h; simp [rt, lv]
  | .nd l r, b, f, h => by
    have e1 := rt_lt b l
    have e2 := rt_lt (b + sz l) r
    have e3 := rt_nd b l r
    have := sz_pos l
    have := sz_pos r
    rw [pt_nd] at h
    rcases List.mem_cons.1 h with h | h
    · subst h; omega
    · split at h
      · have := pt_range h; omega
      · have := pt_range h; omega
end Go.Proofs.YtldmajifkmcdcaaGreat
