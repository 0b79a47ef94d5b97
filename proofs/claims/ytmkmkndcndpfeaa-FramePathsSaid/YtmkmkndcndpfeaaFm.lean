/-
  Balanced trees over leaves in a row, as plain functions: their nodes, heights, canonical nodes of a range, paths. No condition but those typed at each theorem.
-/
import Derived.Test.YtmkmkndcndpfeaaMath
import Derived.Test.YtmkmkndcndpfeaaLookMath
namespace Go.Proofs.Ytmkmkndcndpfeaa

inductive Tr where
  | lf
  | nd (l r : Tr)
/-- how many leaves -/
def lv : Tr → Nat
  | .lf => 1
  | .nd l r => lv l + lv r
theorem lv_pos : ∀ t, 1 ≤ lv t
  | .lf => Nat.le_refl _
  | .nd l r => by have := lv_pos l; have := lv_pos r; simp [lv]; omega
/-- the tree over so many leaves, by halves, the left one the greater -/
def tr (m : Nat) : Tr := if h : m < 2 then .lf else .nd (tr (m - m / 2)) (tr (m / 2))
termination_by m
decreasing_by all_goals omega
theorem tr_one {m : Nat} (h : m < 2) : tr m = .lf := by rw [tr, dif_pos h]
theorem tr_two {m : Nat} (h : 2 ≤ m) : tr m = .nd (tr (m - m / 2)) (tr (m / 2)) := by rw [tr, dif_neg (by omega)]
theorem lv_tr {m : Nat} (h : 1 ≤ m) : lv (tr m) = m := by
  induction m using Nat.strongRecOn with
  | _ m ih =>
    by_cases h2 : 2 ≤ m
    · rw [tr_two h2, lv, ih _ (by omega) (by omega), ih _ (by omega) (by omega)]
      omega
    · rw [tr_one (by omega), lv]
      omega
/-- how many nodes -/
def sz (t : Tr) : Nat := 2 * lv t - 1
/-- the root's place -/
def rt (b : Nat) (t : Tr) : Nat := b + (2 * lv t - 2)
/-- the nodes over leaves from f on, the first of which has the place b -/
def nds : Nat → Nat → Tr → List Nd
  | _, f, .lf => [(1, -1, -1, (f : Int), ((f + 1 : Nat) : Int), 0, (f : Int))]
  | b, f, .nd l r => nds b f l ++ nds (b + sz l) (f + lv l) r ++ [(2, (rt b l : Int), (rt (b + sz l) r : Int), (f : Int), ((f + (lv l + lv r) : Nat) : Int), 0, 0)]
theorem nds_len : ∀ t b f, (nds b f t).length = sz t
  | .lf, b, f => rfl
  | .nd l r, b, f => by
    have h1 := nds_len l b f
    have h2 := nds_len r (b + sz l) (f + lv l)
    have := lv_pos l
    have := lv_pos r
    rw [nds, List.length_append, List.length_append, h1, h2]
    simp [sz, lv]
    omega
theorem sz_pos (t : Tr) : 1 ≤ sz t := by have := lv_pos t; unfold sz; omega
theorem rt_lt (b : Nat) (t : Tr) : rt b t + 1 = b + sz t := by have := lv_pos t; unfold rt sz; omega
theorem rt_nd (b : Nat) (l r : Tr) : rt b (.nd l r) = b + sz l + sz r := by have := lv_pos l; have := lv_pos r; unfold rt sz; simp only [lv]; omega
theorem sz_nd (l r : Tr) : sz (.nd l r) = sz l + sz r + 1 := by have := lv_pos l; have := lv_pos r; unfold sz; simp only [lv]; omega

/-- all of them can be put -/
theorem put_all : ∀ t b f (N : List Nd), Rt N → N.length = b → Rt (N ++ nds b f t) ∧ (∀ x : Int, 0 ≤ x → x < b → kidB (N ++ nds b f t) x = kidB N x) ∧ kidB (N ++ nds b f t) (rt b t) = false
  | .lf, b, f, N, hR, hb => by
    have hm : mayB N (1, -1, -1, (f : Int), ((f + 1 : Nat) : Int), 0, (f : Int)) = true := by simp [mayB, nk, nl, nr]
    have hk : ∀ x : Int, 0 ≤ x → kidB (N ++ nds b f .lf) x = kidB N x := fun x hx => by
      have h1 : ¬ (-1 : Int) = x := by omega
      rw [nds, kidB_snoc]
      simp [hasKid, nl, nr, h1]
    exact ⟨hR.snoc hm, fun x hx _ => hk x hx, by rw [hk _ (by omega)]; exact hR.none (by simp [rt, lv, hb])⟩
  | .nd l r, b, f, N, hR, hb => by
    obtain ⟨l1, l2, l3⟩ := put_all l b f N hR hb
    have hlen : (N ++ nds b f l).length = b + sz l := by rw [List.length_append, nds_len, hb]
    obtain ⟨r1, r2, r3⟩ := put_all r (b + sz l) (f + lv l) _ l1 hlen
    have hlen2 : (N ++ nds b f l ++ nds (b + sz l) (f + lv l) r).length = b + sz l + sz r := by rw [List.length_append, nds_len, hlen]
    have e1 := rt_lt b l
    have e2 := rt_lt (b + sz l) r
    have := sz_pos l
    have := sz_pos r
    have e : N ++ nds b f (.nd l r) = N ++ nds b f l ++ nds (b + sz l) (f + lv l) r ++ [(2, (rt b l : Int), (rt (b + sz l) r : Int), (f : Int), ((f + (lv l + lv r) : Nat) : Int), 0, 0)] := by
      simp [nds]
    generalize hN2 : N ++ nds b f l ++ nds (b + sz l) (f + lv l) r = N2 at *
    have k1 : kidB N2 (rt b l) = false := by rw [r2 _ (by omega) (by omega)]; exact l3
    have f1 : freeB N2 (rt b l) = true := freeB_iff.2 ⟨by omega, by omega, k1⟩
    have f2 : freeB N2 (rt (b + sz l) r) = true := freeB_iff.2 ⟨by omega, by omega, r3⟩
    have hm : mayB N2 (2, (rt b l : Int), (rt (b + sz l) r : Int), (f : Int), ((f + (lv l + lv r) : Nat) : Int), 0, 0) = true := by
      have h1 : ¬ ((rt b l : Nat) : Int) = rt (b + sz l) r := by omega
      have h2 : ¬ ((rt b l : Nat) : Int) = -1 := by omega
      have h3 : ¬ ((rt (b + sz l) r : Nat) : Int) = -1 := by omega
      simp [mayB, nk, nl, nr, f1, f2, h1, h2, h3]
    rw [e]
    refine ⟨r1.snoc hm, fun x hx0 hx => ?_, ?_⟩
    · rw [kidB_snoc, r2 x hx0 (by omega), l2 x hx0 hx]
      have h1 : ¬ ((rt b l : Nat) : Int) = x := by unfold rt; omega
      have h2 : ¬ ((rt (b + sz l) r : Nat) : Int) = x := by unfold rt; omega
      simp [hasKid, nl, nr, h1, h2]
    · rw [kidB_snoc, rt_nd, r1.none (by rw [hlen2]; exact Int.le_refl _)]
      obtain ⟨X, hX⟩ : ∃ X : Int, X = ((b + sz l + sz r : Nat) : Int) := ⟨_, rfl⟩
      rw [← hX]
      have h1 : ¬ ((rt b l : Nat) : Int) = X := by omega
      have h2 : ¬ ((rt (b + sz l) r : Nat) : Int) = X := by omega
      simp [hasKid, nl, nr, h1, h2]
theorem rt_nds (f : Nat) (t : Tr) : Rt (nds 0 f t) := by have := (put_all t 0 f [] Rt.nil rfl).1; simpa using this
theorem rt_nds' (b f : Nat) (t : Tr) (N : List Nd) (h : Rt N) (hb : N.length = b) : Rt (N ++ nds b f t) := (put_all t b f N h hb).1
/-- the inner node may be put behind both halves -/
theorem may_top {l r : Tr} {b f : Nat} {N : List Nd} (hR : Rt N) (hb : N.length = b) :
    mayB (N ++ nds b f l ++ nds (b + sz l) (f + lv l) r) (2, (rt b l : Int), (rt (b + sz l) r : Int), (f : Int), ((f + (lv l + lv r) : Nat) : Int), 0, 0) = true := by
  have h := (put_all (.nd l r) b f N hR hb).1
  have e : N ++ nds b f (.nd l r) = N ++ nds b f l ++ nds (b + sz l) (f + lv l) r ++ [(2, (rt b l : Int), (rt (b + sz l) r : Int), (f : Int), ((f + (lv l + lv r) : Nat) : Int), 0, 0)] := by
    simp [nds]
  rw [e] at h
  exact h.of_snoc.2
theorem may_lf (N : List Nd) (f : Nat) : mayB N (1, -1, -1, (f : Int), ((f + 1 : Nat) : Int), 0, (f : Int)) = true := by simp [mayB, nk, nl, nr]

/-- how high -/
def ht : Tr → Nat
  | .lf => 0
  | .nd l r => max (ht l) (ht r) + 1
theorem hl_pre (A B : List Nd) {i : Nat} (hi : i < A.length) : (hl (A ++ B))[i]? = (hl A)[i]? := by
  have h := hl_take (A ++ B) A.length
  rw [List.take_left'  rfl] at h
  rw [← h, List.getElem?_take, if_pos hi]
theorem hl_root : ∀ t b f (N : List Nd), N.length = b → (hl (N ++ nds b f t))[rt b t]? = some (ht t : Int)
  | .lf, b, f, N, hb => by
    rw [nds, hl_snoc, List.getElem?_append_right (by rw [hl_len, hb]; simp [rt])]
    simp [hl_len, hb, rt, lv, hn, ksL, nl, nr, ht]
  | .nd l r, b, f, N, hb => by
    have hlen : (N ++ nds b f l).length = b + sz l := by rw [List.length_append, nds_len, hb]
    have h1 := hl_root l b f N hb
    have h2 := hl_root r (b + sz l) (f + lv l) _ hlen
    have hlen2 : (N ++ nds b f l ++ nds (b + sz l) (f + lv l) r).length = b + sz l + sz r := by rw [List.length_append, nds_len, hlen]
    have e1 := rt_lt b l
    rw [← hl_pre _ (nds (b + sz l) (f + lv l) r) (by omega)] at h1
    have e : N ++ nds b f (.nd l r) = N ++ nds b f l ++ nds (b + sz l) (f + lv l) r ++ [(2, (rt b l : Int), (rt (b + sz l) r : Int), (f : Int), ((f + (lv l + lv r) : Nat) : Int), 0, 0)] := by
      simp [nds]
    rw [e, hl_snoc, List.getElem?_append_right (by rw [hl_len, hlen2, rt_nd]; exact Nat.le_refl _), hl_len, hlen2, rt_nd]
    have n1 : ¬ ((rt b l : Nat) : Int) = -1 := by omega
    have n2 : ¬ ((rt (b + sz l) r : Nat) : Int) = -1 := by omega
    simp only [Nat.sub_self, List.getElem?_cons_zero, Option.some.injEq]
    simp only [hn, ksL, nl, nr, n1, n2, if_false, List.cons_append, List.nil_append, List.foldl_cons, List.foldl_nil, hUp, hOf, Int.toNat_natCast, List.getD_eq_getElem?_getD, h1, h2, Option.getD_some, ht]
    omega
theorem ht_tr {m : Nat} (h : 1 ≤ m) (hm : m ≤ 2305843009213693952) : ht (tr m) = lgN m := by
  induction m using Nat.strongRecOn with
  | _ m ih =>
    by_cases h2 : 2 ≤ m
    · rw [tr_two h2, ht, ih _ (by omega) (by omega) (by omega), ih _ (by omega) (by omega) (by omega)]
      have h3 : lgN (m / 2) ≤ lgN (m - m / 2) := bl_mono (by omega) (by omega)
      have h4 : lgN m = lgN (m - m / 2) + 1 := by
        unfold lgN
        rw [Lib.bitLen_half (m - 1) (by omega) (by omega), show (m - 1) / 2 = m - m / 2 - 1 by omega]
        omega
      rw [h4]
      omega
    · rw [tr_one (by omega), ht, lg_small (by omega)]

/-- the canonical nodes of the leaves from x, ahead of y, and how many nodes are entered -/
def cn (x y : Nat) : Tr → Nat → Nat → List Nat × Nat
  | .lf, b, f => if f + 1 ≤ x ∨ y ≤ f then ([], 1) else ([b], 1)
  | .nd l r, b, f =>
    if f + (lv l + lv r) ≤ x ∨ y ≤ f then ([], 1) else if x ≤ f ∧ f + (lv l + lv r) ≤ y then ([rt b (.nd l r)], 1) else
      ((cn x y l b f).1 ++ (cn x y r (b + sz l) (f + lv l)).1, 1 + (cn x y l b f).2 + (cn x y r (b + sz l) (f + lv l)).2)
theorem cn_apart {x y : Nat} {t : Tr} {b f : Nat} (h : f + lv t ≤ x ∨ y ≤ f) : cn x y t b f = ([], 1) := by
  cases t with
  | lf => rw [cn]; exact if_pos h
  | nd l r => rw [cn]; exact if_pos h
theorem cn_in {x y : Nat} {t : Tr} {b f : Nat} (h : x ≤ f ∧ f + lv t ≤ y) : cn x y t b f = ([rt b t], 1) := by
  have := lv_pos t
  cases t with
  | lf => rw [cn, if_neg (by simp only [lv] at *; omega)]; simp [rt, lv]
  | nd l r => rw [cn, if_neg (by simp only [lv] at *; omega)]; exact if_pos h
theorem cn_cut {x y : Nat} {l r : Tr} {b f : Nat} (h1 : ¬ (f + (lv l + lv r) ≤ x ∨ y ≤ f)) (h2 : ¬ (x ≤ f ∧ f + (lv l + lv r) ≤ y)) :
    cn x y (.nd l r) b f = ((cn x y l b f).1 ++ (cn x y r (b + sz l) (f + lv l)).1, 1 + (cn x y l b f).2 + (cn x y r (b + sz l) (f + lv l)).2) := by rw [cn, if_neg h1, if_neg h2]
/-- where a leaf's nodes stand, from the root on -/
def pt (leaf : Nat) : Tr → Nat → Nat → List Nat
  | .lf, b, _ => [b]
  | .nd l r, b, f => rt b (.nd l r) :: (if leaf < f + lv l then pt leaf l b f else pt leaf r (b + sz l) (f + lv l))
theorem cn_len (x y : Nat) : ∀ t b f, (cn x y t b f).1.length ≤ lv t ∧ (cn x y t b f).2 ≤ sz t ∧ 1 ≤ (cn x y t b f).2
  | .lf, b, f => by rw [cn]; split <;> simp [lv, sz]
  | .nd l r, b, f => by
    have h1 := cn_len x y l b f
    have h2 := cn_len x y r (b + sz l) (f + lv l)
    have := lv_pos l
    have := lv_pos r
    have := sz_nd l r
    rw [cn]
    split
    · simp [lv]; omega
    · split
      · simp [lv]; omega
      · simp [lv]; omega
theorem pt_len (leaf : Nat) : ∀ t b f, 1 ≤ (pt leaf t b f).length ∧ (pt leaf t b f).length ≤ ht t + 1
  | .lf, b, f => by simp [pt, ht]
  | .nd l r, b, f => by
    have h1 := pt_len leaf l b f
    have h2 := pt_len leaf r (b + sz l) (f + lv l)
    rw [pt]
    simp only [List.length_cons, ht]
    split <;> omega
end Go.Proofs.Ytmkmkndcndpfeaa
