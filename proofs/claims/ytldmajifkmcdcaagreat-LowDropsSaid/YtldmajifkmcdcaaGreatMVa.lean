/-
  The lowest one of each node's points, and what is left of a node without it: plain words. No condition but those typed at each theorem.
-/
import Derived.Test.YtldmajifkmcdcaaGreatML
import Derived.Test.YtldmajifkmcdcaaGreatMZ
import Derived.Test.YtldmajifkmcdcaaGreatMF
import Derived.Test.YtldmajifkmcdcaaGreatMBa
import Derived.Test.YtldmajifkmcdcaaGreatMH
import Derived.Test.YtldmajifkmcdcaaGreatBd
namespace Go.Proofs.YtldmajifkmcdcaaGreat.Lv
theorem l_irr (a : S3) : Lw.ltL a a = false := by rw [Lw.ltL_not]; omega
theorem l_asy {a b : S3} (h : Lw.ltL a b = true) : Lw.ltL b a = false := by rw [Lw.ltL_iff] at h; rw [Lw.ltL_not]; omega
theorem l_neg {a b c : S3} (h1 : Lw.ltL a b = false) (h2 : Lw.ltL b c = false) : Lw.ltL a c = false := by rw [Lw.ltL_not] at *; omega
/-- the lower one of two -/
def lwr : Option S3 → Option S3 → Option S3
  | p, none => p
  | none, some b => some b
  | some a, some b => if Lw.ltL a b = true then some a else some b
/-- the lowest one of these, if there is one -/
def Best (o : Option S3) (L : List S3) : Prop := (o = none ∧ L = []) ∨ ∃ s, o = some s ∧ s ∈ L ∧ ∀ x ∈ L, Lw.ltL x s = false
theorem Best.two {o p : Option S3} {L M N : List S3} (h1 : Best o L) (h2 : Best p M) (hN : ∀ x, x ∈ N ↔ x ∈ L ∨ x ∈ M) : Best (lwr o p) N := by
  rcases h1 with ⟨rfl, rfl⟩ | ⟨a, rfl, a1, a2⟩ <;> rcases h2 with ⟨rfl, rfl⟩ | ⟨b, rfl, b1, b2⟩
  · refine .inl ⟨rfl, List.eq_nil_iff_forall_not_mem.2 (fun x hx => ?_)⟩
    have := (hN x).1 hx
    simp at this
  · refine .inr ⟨b, rfl, (hN b).2 (.inr b1), fun x hx => ?_⟩
    rcases (hN x).1 hx with h | h
    · cases h
    · exact b2 x h
  · refine .inr ⟨a, rfl, (hN a).2 (.inl a1), fun x hx => ?_⟩
    rcases (hN x).1 hx with h | h
    · exact a2 x h
    · cases h
  · show Best (if Lw.ltL a b = true then some a else some b) N
    split
    · rename_i h
      refine .inr ⟨a, rfl, (hN a).2 (.inl a1), fun x hx => ?_⟩
      rcases (hN x).1 hx with hh | hh
      · exact a2 x hh
      · exact l_neg (b2 x hh) (l_asy h)
    · rename_i h
      refine .inr ⟨b, rfl, (hN b).2 (.inr b1), fun x hx => ?_⟩
      rcases (hN x).1 hx with hh | hh
      · exact l_neg (a2 x hh) (by simpa using h)
      · exact b2 x hh
/-- those of A whose places are these -/
def sg (RX A : List S3) (a b : Nat) : List S3 := A.filter (fun s => decide (a ≤ RX.idxOf s) && decide (RX.idxOf s < b))
theorem mem_sg {RX A : List S3} {a b : Nat} {s : S3} : s ∈ sg RX A a b ↔ s ∈ A ∧ a ≤ RX.idxOf s ∧ RX.idxOf s < b := by simp [sg]
theorem split_perm {p q r : S3 → Bool} : ∀ {L : List S3}, (∀ s ∈ L, p s = (q s || r s) ∧ (q s && r s) = false) → (L.filter p).Perm (L.filter q ++ L.filter r)
  | [], _ => by simp
  | a :: L, h => by
    have ih := split_perm (L := L) (fun s hs => h s (by simp [hs]))
    obtain ⟨h1, h2⟩ := h a (by simp)
    rw [List.filter_cons, List.filter_cons, List.filter_cons, h1]
    cases hq : q a <;> cases hr : r a
    · simpa [hq, hr] using ih
    · simp only [Bool.false_or, if_true, Bool.false_eq_true, if_false]
      exact (ih.cons a).trans List.perm_middle.symm
    · simp only [Bool.true_or, if_true, Bool.false_eq_true, if_false]
      exact ih.cons a
    · rw [hq, hr] at h2
      cases h2
theorem sg_split {RX A : List S3} {a m b : Nat} (h1 : a ≤ m) (h2 : m ≤ b) : (sg RX A a b).Perm (sg RX A a m ++ sg RX A m b) :=
  split_perm (fun s _ => by
    by_cases c1 : a ≤ RX.idxOf s <;> by_cases c2 : RX.idxOf s < m <;> by_cases c3 : RX.idxOf s < b <;> simp [c1, c2, c3] <;> omega)
theorem sg_none (RX A : List S3) (a : Nat) : sg RX A a a = [] := List.eq_nil_iff_forall_not_mem.2 (fun s hs => by have := mem_sg.1 hs; omega)
/-- over which leaves a node is -/
def lo (n k : Nat) : Nat := (((ndN n)[k]?.map nf).getD 0).toNat
def hi (n k : Nat) : Nat := (((ndN n)[k]?.map nt).getD 0).toNat
section
variable {n k : Nat} {nd : Nd}
theorem lo_of (e : (ndN n)[k]? = some nd) : nf nd = (lo n k : Int) ∧ nt nd = (hi n k : Int) ∧ lo n k < hi n k ∧ hi n k ≤ n := by
  have h := ndN_bound e
  unfold lo hi
  rw [e]
  simp only [Option.map_some, Option.getD_some]
  omega
theorem lo_at (hk : k < 2 * n - 1) : lo n k < hi n k ∧ hi n k ≤ n := by
  obtain ⟨nd, e⟩ : ∃ nd, (ndN n)[k]? = some nd := ⟨_, List.getElem?_eq_getElem (by rw [ndN_len]; exact hk)⟩
  exact (lo_of e).2.2
/-- a leaf, or a node over two of them that lie side by side -/
theorem nd_kind (e : (ndN n)[k]? = some nd) :
    (nd = (1, -1, -1, (lo n k : Int), ((lo n k + 1 : Nat) : Int), 0, (lo n k : Int)) ∧ hi n k = lo n k + 1) ∨
    ∃ l r : Nat, nd = (2, (l : Int), (r : Int), (lo n k : Int), (hi n k : Int), 0, 0) ∧ (l < k ∧ r < k) ∧ lo n l = lo n k ∧ hi n l = lo n r ∧ hi n r = hi n k ∧ hi n r - lo n r ≤ hi n l - lo n l ∧ hi n l - lo n l ≤ hi n r - lo n r + 1 := by
  obtain ⟨q1, q2, q3, q4⟩ := lo_of e
  have htk : ∀ {j : Nat} {a : Nd}, ((ndN n).take k)[j]? = some a → j < k ∧ (ndN n)[j]? = some a := fun {j a} h => by
    rw [List.getElem?_take] at h
    split at h
    · exact ⟨by assumption, h⟩
    · cases h
  rcases ndN_all n k nd e with h | ⟨l, r, a, b, ha, hb, h, h1, h2, h3⟩
  · left
    rw [h] at q1 q2
    have e1 : ((lvc ((ndN n).take k) : Nat) : Int) = (lo n k : Int) := q1
    have e2 : ((lvc ((ndN n).take k) : Nat) : Int) + 1 = (hi n k : Int) := q2
    refine ⟨?_, by omega⟩
    rw [h, e1, show ((lo n k : Nat) : Int) + 1 = ((lo n k + 1 : Nat) : Int) by omega]
  · right
    obtain ⟨la, ea⟩ := htk ha
    obtain ⟨lb, eb⟩ := htk hb
    obtain ⟨a1, a2, a3, a4⟩ := lo_of ea
    obtain ⟨b1, b2, b3, b4⟩ := lo_of eb
    rw [h] at q1 q2
    have e1 : nf a = (lo n k : Int) := q1
    have e2 : nt b = (hi n k : Int) := q2
    refine ⟨l, r, by rw [h, e1, e2], ⟨la, lb⟩, ?_, ?_, ?_, ?_, ?_⟩ <;> omega
end
theorem lg_kid {m c : Nat} (h2 : 2 ≤ m) (hm : m ≤ 100000) (hc : c ≤ m - m / 2) : lgN c + 1 ≤ lgN m := by
  have h4 : lgN m = lgN (m - m / 2) + 1 := by
    unfold lgN
    rw [Lib.bitLen_half (m - 1) (by omega) (by omega), show (m - 1) / 2 = m - m / 2 - 1 by omega]
    omega
  have h5 : lgN c ≤ lgN (m - m / 2) := bl_mono (by omega) (by omega)
  omega
/-- the points of these nodes -/
def pend (RX A : List S3) (xs : List Nat) : List S3 := xs.flatMap (fun k => sg RX A (lo RX.length k) (hi RX.length k))
section
variable {RX A : List S3}
theorem pend_perm : ∀ {xs ys : List Nat}, xs.Perm ys → (pend RX A xs).Perm (pend RX A ys) := fun {xs ys} h => by
  unfold pend
  induction h with
  | nil => exact List.Perm.refl _
  | cons x _ ih =>
    rw [List.flatMap_cons, List.flatMap_cons]
    exact ih.append_left _
  | swap x y l =>
    rw [List.flatMap_cons, List.flatMap_cons, List.flatMap_cons, List.flatMap_cons, ← List.append_assoc, ← List.append_assoc]
    exact List.perm_append_comm.append_right _
  | trans _ _ h1 h2 => exact h1.trans h2
theorem pend_app (xs ys : List Nat) : pend RX A (xs ++ ys) = pend RX A xs ++ pend RX A ys := by simp [pend]
theorem pend_cons (x : Nat) (xs : List Nat) : pend RX A (x :: xs) = sg RX A (lo RX.length x) (hi RX.length x) ++ pend RX A xs := by simp [pend]
theorem pend_nil : pend RX A [] = [] := rfl
/-- of nodes that lie one behind the other: all the points of their leaves -/
theorem chain_perm : ∀ {ks : List Nat} {s e : Nat}, Ch (ndN RX.length) s ks e → (pend RX A ks).Perm (sg RX A s e)
  | [], s, e, h => by
    obtain rfl : s = e := h
    rw [sg_none]
    exact List.Perm.refl _
  | k :: ks, s, e, ⟨nd, h1, h2, s2, h3, h4, h5⟩ => by
    obtain ⟨q1, q2, q3, q4⟩ := lo_of h1
    have e1 : lo RX.length k = s := by omega
    have e2 : hi RX.length k = s2 := by omega
    rw [pend_cons, e1, e2]
    exact ((chain_perm h5).append_left _).trans (sg_split (by omega) h5.le).symm
theorem chain_in {L : List Nd} : ∀ {ks : List Nat} {s e : Nat}, Ch L s ks e → ∀ k ∈ ks, k < L.length
  | [], _, _, _, k, hk => by cases hk
  | j :: ks, s, e, ⟨nd, h1, _, _, _, _, h5⟩, k, hk => by
    rcases List.mem_cons.1 hk with rfl | hk
    · exact (List.getElem?_eq_some_iff.1 h1).1
    · exact chain_in h5 k hk
/-- the first m nodes know their lowest points -/
def LwI (RX A : List S3) (g : Nat → Option S3) (m : Nat) : Prop := ∀ k, k < m → Best (g k) (sg RX A (lo RX.length k) (hi RX.length k))
theorem LwI.got {g : Nat → Option S3} {m k : Nat} {s : S3} (h : LwI RX A g m) (hk : k < m) (e : g k = some s) : s ∈ A ∧ lo RX.length k ≤ RX.idxOf s ∧ RX.idxOf s < hi RX.length k ∧ ∀ x ∈ sg RX A (lo RX.length k) (hi RX.length k), Lw.ltL x s = false := by
  rcases h k hk with ⟨h1, -⟩ | ⟨s', h1, h2, h3⟩
  · rw [h1] at e; cases e
  · rw [h1] at e
    cases e
    obtain ⟨q1, q2, q3⟩ := mem_sg.1 h2
    exact ⟨q1, q2, q3, h3⟩
theorem LwI.gone {g : Nat → Option S3} {m k : Nat} (h : LwI RX A g m) (hk : k < m) (e : g k = none) : sg RX A (lo RX.length k) (hi RX.length k) = [] := by
  rcases h k hk with ⟨-, h1⟩ | ⟨s', h1, -⟩
  · exact h1
  · rw [h1] at e; cases e
theorem LwI.re {A' : List S3} {g : Nat → Option S3} {m : Nat} (h : LwI RX A g m) (hp : ∀ s, s ∈ A' ↔ s ∈ A) : LwI RX A' g m := fun k hk => by
  have e : ∀ x, x ∈ sg RX A' (lo RX.length k) (hi RX.length k) ↔ x ∈ sg RX A (lo RX.length k) (hi RX.length k) := fun x => by rw [mem_sg, mem_sg, hp]
  rcases h k hk with ⟨h1, h2⟩ | ⟨s, h1, h2, h3⟩
  · refine .inl ⟨h1, List.eq_nil_iff_forall_not_mem.2 (fun x hx => ?_)⟩
    have := (e x).1 hx
    rw [h2] at this
    cases this
  · exact .inr ⟨s, h1, (e s).2 h2, fun x hx => h3 x ((e x).1 hx)⟩
end
/-- the first one of what is in order is what none is ahead of -/
theorem head_of {L M : List S3} {s : S3} (hL : L.Pairwise (fun a b => Lw.ltL a b = true)) (hp : M.Perm L) (hs : s ∈ M) (hm : ∀ x ∈ M, Lw.ltL x s = false) : ∃ t, L = s :: t := by
  cases L with
  | nil => rw [hp.mem_iff] at hs; cases hs
  | cons a t =>
    rcases List.mem_cons.1 (hp.mem_iff.1 hs) with rfl | h
    · exact ⟨t, rfl⟩
    · have h1 := (List.pairwise_cons.1 hL).1 s h
      have h2 := hm a (hp.mem_iff.2 (by simp))
      rw [h1] at h2
      cases h2
end Go.Proofs.YtldmajifkmcdcaaGreat.Lv
/-
  The nodes over a leaf, in order; what a drop leaves of the lowest points, node by node; nodes as they are laid; what hangs on the way down: plain words. No condition but those typed at each theorem.
-/
namespace Go.Proofs.YtldmajifkmcdcaaGreat.Lv
open Hp (upG upG_at upG_ne)
section
variable {n i : Nat}
theorem part_range {b f : Nat} {t : Tr} (h : SG (ndN n) b f t) {k : Nat} (h1 : b ≤ k) (h2 : k < b + sz t) : f ≤ lo n k ∧ hi n k ≤ f + lv t := by
  obtain ⟨nd, e⟩ : ∃ nd, (nds b f t)[k - b]? = some nd := ⟨_, List.getElem?_eq_getElem (by rw [nds_len]; omega)⟩
  have h3 := h _ _ e
  rw [show b + (k - b) = k by omega] at h3
  obtain ⟨q1, q2, q3, q4⟩ := lo_of h3
  have h4 := nds_bound t b f nd (List.mem_of_getElem? e)
  omega
theorem root_range {b f : Nat} {l r : Tr} (h : SG (ndN n) b f (.nd l r)) : lo n (rt b (.nd l r)) = f ∧ hi n (rt b (.nd l r)) = f + (lv l + lv r) := by
  obtain ⟨q1, q2, q3, q4⟩ := lo_of h.root
  have e1 : (f : Int) = (lo n (rt b (.nd l r)) : Int) := q1
  have e2 : ((f + (lv l + lv r) : Nat) : Int) = (hi n (rt b (.nd l r)) : Int) := q2
  omega
theorem leaf_range {b f : Nat} (h : SG (ndN n) b f .lf) : (ndN n)[b]? = some (1, -1, -1, (f : Int), ((f + 1 : Nat) : Int), 0, (f : Int)) ∧ lo n b = f ∧ hi n b = f + 1 := by
  have e := h 0 _ rfl
  rw [Nat.add_zero] at e
  obtain ⟨q1, q2, q3, q4⟩ := lo_of e
  have e1 : (f : Int) = (lo n b : Int) := q1
  have e2 : ((f + 1 : Nat) : Int) = (hi n b : Int) := q2
  exact ⟨e, by omega, by omega⟩
/-- on the way to a leaf are the nodes that are over it -/
theorem pt_mem : ∀ t b f, SG (ndN n) b f t → f ≤ i → i < f + lv t → ∀ k, b ≤ k → k < b + sz t → (k ∈ pt i t b f ↔ lo n k ≤ i ∧ i < hi n k)
  | .lf, b, f, h, h1, h2, k, h3, h4 => by
    obtain ⟨-, e1, e2⟩ := leaf_range h
    have : sz .lf = 1 := rfl
    have : lv .lf = 1 := rfl
    obtain rfl : k = b := by omega
    simp only [pt, List.mem_singleton, true_iff]
    omega
  | .nd l r, b, f, h, h1, h2, k, h3, h4 => by
    have e1 := sz_nd l r
    have e2 := rt_nd b l r
    have e3 : lv (.nd l r) = lv l + lv r := rfl
    have e4 := rt_lt b l
    have e5 := rt_lt (b + sz l) r
    rw [pt_nd, List.mem_cons]
    by_cases c0 : k = rt b (.nd l r)
    · obtain ⟨q1, q2⟩ := root_range h
      rw [c0]
      simp only [true_or, true_iff]
      omega
    · by_cases c1 : k < b + sz l
      · have hr := part_range h.left h3 c1
        by_cases ci : i < f + lv l
        · rw [if_pos ci, pt_mem l b f h.left h1 ci k h3 c1]
          simp only [c0, false_or]
        · rw [if_neg ci]
          refine ⟨fun hh => ?_, fun hh => by omega⟩
          rcases hh with hh | hh
          · exact absurd hh c0
          · have := pt_range hh; omega
      · have hr := part_range h.right (k := k) (by omega) (by omega)
        by_cases ci : i < f + lv l
        · rw [if_pos ci]
          refine ⟨fun hh => ?_, fun hh => by omega⟩
          rcases hh with hh | hh
          · exact absurd hh c0
          · have := pt_range hh; omega
        · rw [if_neg ci, pt_mem r (b + sz l) (f + lv l) h.right (by omega) (by omega) k (by omega) (by omega)]
          simp only [c0, false_or]
/-- each of them stands behind those below it -/
theorem pt_desc : ∀ t b f, (pt i t b f).Pairwise (fun x y => y < x)
  | .lf, b, f => by simp [pt]
  | .nd l r, b, f => by
    have e2 := rt_nd b l r
    have e4 := rt_lt b l
    have e5 := rt_lt (b + sz l) r
    have := sz_pos l
    have := sz_pos r
    rw [pt_nd, List.pairwise_cons]
    split
    · exact ⟨fun x hx => by have := pt_range hx; omega, pt_desc l b f⟩
    · exact ⟨fun x hx => by have := pt_range hx; omega, pt_desc r _ _⟩
/-- the last one is the leaf, the others are over two -/
theorem pt_last : ∀ t b f, SG (ndN n) b f t → f ≤ i → i < f + lv t → ∃ ini last, pt i t b f = ini ++ [last] ∧ lo n last = i ∧ hi n last = i + 1 ∧ ∀ j ∈ ini, ∃ nd, (ndN n)[j]? = some nd ∧ nk nd = 2
  | .lf, b, f, h, h1, h2 => by
    obtain ⟨-, e1, e2⟩ := leaf_range h
    have : lv .lf = 1 := rfl
    exact ⟨[], b, rfl, by omega, by omega, fun j hj => by cases hj⟩
  | .nd l r, b, f, h, h1, h2 => by
    have e3 : lv (.nd l r) = lv l + lv r := rfl
    rw [pt_nd]
    split
    · rename_i c
      obtain ⟨ini, last, q1, q2, q3, q4⟩ := pt_last l b f h.left h1 c
      refine ⟨_ :: ini, last, by rw [q1]; rfl, q2, q3, fun j hj => ?_⟩
      rcases List.mem_cons.1 hj with rfl | hj
      · exact ⟨_, h.root, rfl⟩
      · exact q4 j hj
    · obtain ⟨ini, last, q1, q2, q3, q4⟩ := pt_last r (b + sz l) (f + lv l) h.right (by omega) (by omega)
      refine ⟨_ :: ini, last, by rw [q1]; rfl, q2, q3, fun j hj => ?_⟩
      rcases List.mem_cons.1 hj with rfl | hj
      · exact ⟨_, h.root, rfl⟩
      · exact q4 j hj
/-- the way to a leaf -/
theorem way (h1 : 1 ≤ n) (hi' : i < n) : ∃ ini last, pt i (tr n) 0 0 = ini ++ [last] ∧ (lo n last = i ∧ hi n last = i + 1 ∧ last < 2 * n - 1) ∧ (∀ j ∈ ini, j < 2 * n - 1 ∧ ∃ nd, (ndN n)[j]? = some nd ∧ nk nd = 2) ∧ (ini ++ [last]).Pairwise (fun x y => y < x) ∧ ∀ k, k < 2 * n - 1 → (k ∈ ini ++ [last] ↔ lo n k ≤ i ∧ i < hi n k) := by
  have hS := SG.all n h1
  have hl : lv (tr n) = n := lv_tr h1
  have hz : sz (tr n) = 2 * n - 1 := by unfold sz; rw [hl]
  obtain ⟨ini, last, q1, q2, q3, q4⟩ := pt_last (i := i) (tr n) 0 0 hS (Nat.zero_le _) (by omega)
  have hin : ∀ k ∈ pt i (tr n) 0 0, k < 2 * n - 1 := fun k hk => by
    have := pt_range hk
    have := rt_lt 0 (tr n)
    omega
  have hd := pt_desc (i := i) (tr n) 0 0
  have hm := fun k (hk : k < 2 * n - 1) => pt_mem (i := i) (tr n) 0 0 hS (Nat.zero_le _) (by omega) k (Nat.zero_le _) (by omega)
  rw [q1] at hin hd hm
  exact ⟨ini, last, q1, ⟨q2, q3, hin _ (by simp)⟩, fun j hj => ⟨hin _ (by simp [hj]), q4 j hj⟩, hd, hm⟩
end
section
variable {RX A : List S3} {g : Nat → Option S3}
theorem idx_at (hd : RX.Nodup) {j : Nat} {s : S3} (e : RX[j]? = some s) : RX.idxOf s = j := by
  have hs : s ∈ RX := List.mem_of_getElem? e
  have h1 := List.idxOf_lt_length_of_mem hs
  have h2 : RX[RX.idxOf s]? = some s := List.getElem?_eq_some_iff.2 ⟨h1, List.getElem_idxOf _⟩
  exact (List.getElem?_inj h1 hd).1 (h2.trans e.symm)
theorem at_idx {s : S3} (hs : s ∈ RX) : RX[RX.idxOf s]? = some s := List.getElem?_eq_some_iff.2 ⟨List.idxOf_lt_length_of_mem hs, List.getElem_idxOf _⟩
theorem idx_inj {s t : S3} (hs : s ∈ RX) (ht : t ∈ RX) (h : RX.idxOf s = RX.idxOf t) : s = t := by
  have h1 := at_idx hs
  rw [h, at_idx ht] at h1
  exact (Option.some.inj h1).symm
/-- all but the nodes of Q know their lowest points -/
def DrI (RX A : List S3) (g : Nat → Option S3) (Q : List Nat) : Prop := ∀ k, k < 2 * RX.length - 1 → k ∉ Q → Best (g k) (sg RX A (lo RX.length k) (hi RX.length k))
theorem mem_drp {A : List S3} {s x : S3} : x ∈ drp A s ↔ x ∈ A ∧ x ≠ s := by simp [drp]
/-- a leaf's point is gone -/
theorem DrI.start (h : LwI RX A g (2 * RX.length - 1)) (hsub : ∀ s ∈ A, s ∈ RX) {s : S3} (hs : s ∈ A) {ini : List Nat} {last : Nat} (hl : lo RX.length last = RX.idxOf s ∧ hi RX.length last = RX.idxOf s + 1)
    (hm : ∀ k, k < 2 * RX.length - 1 → (k ∈ ini ++ [last] ↔ lo RX.length k ≤ RX.idxOf s ∧ RX.idxOf s < hi RX.length k)) : DrI RX (drp A s) (upG g last none) ini := fun k hk hn => by
  by_cases e : k = last
  · subst e
    rw [upG_at]
    refine .inl ⟨rfl, List.eq_nil_iff_forall_not_mem.2 (fun x hx => ?_)⟩
    obtain ⟨h1, h2, h3⟩ := mem_sg.1 hx
    obtain ⟨h4, h5⟩ := mem_drp.1 h1
    exact h5 (idx_inj (hsub x h4) (hsub s hs) (by omega))
  · rw [upG_ne e]
    have hk2 : k ∉ ini ++ [last] := by simp [hn, e]
    rw [hm k hk] at hk2
    have hsame : ∀ x, x ∈ sg RX (drp A s) (lo RX.length k) (hi RX.length k) ↔ x ∈ sg RX A (lo RX.length k) (hi RX.length k) := fun x => by
      rw [mem_sg, mem_sg, mem_drp]
      refine ⟨fun hh => ⟨hh.1.1, hh.2⟩, fun hh => ⟨⟨hh.1, fun e => ?_⟩, hh.2⟩⟩
      subst e
      exact hk2 hh.2
    rcases h k hk with ⟨h1, h2⟩ | ⟨a, h1, h2, h3⟩
    · refine .inl ⟨h1, List.eq_nil_iff_forall_not_mem.2 (fun x hx => ?_)⟩
      have := (hsame x).1 hx
      rw [h2] at this
      cases this
    · exact .inr ⟨a, h1, (hsame a).2 h2, fun x hx => h3 x ((hsame x).1 hx)⟩
/-- one node more chooses -/
theorem best_kids {j l r : Nat} {D : List S3} (h1 : Best (g l) (sg RX D (lo RX.length l) (hi RX.length l))) (h2 : Best (g r) (sg RX D (lo RX.length r) (hi RX.length r))) (hl : l < 2 * RX.length - 1) (hr : r < 2 * RX.length - 1)
    (e1 : lo RX.length l = lo RX.length j) (e2 : hi RX.length l = lo RX.length r) (e3 : hi RX.length r = hi RX.length j) : Best (lwr (g l) (g r)) (sg RX D (lo RX.length j) (hi RX.length j)) := by
  have q1 := lo_at hl
  have q2 := lo_at hr
  refine h1.two h2 (fun x => ?_)
  rw [mem_sg, mem_sg, mem_sg]
  constructor
  · rintro ⟨h3, h4, h5⟩
    by_cases c : RX.idxOf x < hi RX.length l
    · exact .inl ⟨h3, by omega, c⟩
    · exact .inr ⟨h3, by omega, by omega⟩
  · rintro (⟨h3, h4, h5⟩ | ⟨h3, h4, h5⟩)
    · exact ⟨h3, by omega, by omega⟩
    · exact ⟨h3, by omega, by omega⟩
theorem DrI.step {Q : List Nat} {j l r : Nat} (h : DrI RX A g (Q ++ [j])) (hd : (Q ++ [j]).Pairwise (fun x y => y < x)) (hj : j < 2 * RX.length - 1) (hk : l < j ∧ r < j) (e1 : lo RX.length l = lo RX.length j) (e2 : hi RX.length l = lo RX.length r) (e3 : hi RX.length r = hi RX.length j) :
    DrI RX A (upG g j (lwr (g l) (g r))) Q := fun k hk1 hn => by
  have far : ∀ x, x < j → x ∉ Q ++ [j] := fun x hx hm => by
    rcases List.mem_append.1 hm with hm | hm
    · have := (List.pairwise_append.1 hd).2.2 x hm j (by simp)
      omega
    · have := List.mem_singleton.1 hm
      omega
  by_cases e : k = j
  · subst e
    rw [upG_at]
    exact best_kids (h l (by omega) (far l hk.1)) (h r (by omega) (far r hk.2)) (by omega) (by omega) e1 e2 e3
  · rw [upG_ne e]
    exact h k hk1 (by simp [hn, e])
theorem DrI.done (h : DrI RX A g []) : LwI RX A g (2 * RX.length - 1) := fun k hk => h k hk (by simp)
/-- one node more is laid: a leaf -/
theorem LwI.leaf (hd : RX.Nodup) {m : Nat} (h : LwI RX RX g m) {s : S3} (e : RX[lo RX.length m]? = some s) (he : hi RX.length m = lo RX.length m + 1) : LwI RX RX (upG g m (some s)) (m + 1) := fun k hk => by
  by_cases c : k = m
  · subst c
    rw [upG_at]
    have hi1 := idx_at hd e
    refine .inr ⟨s, rfl, mem_sg.2 ⟨List.mem_of_getElem? e, by omega, by omega⟩, fun x hx => ?_⟩
    obtain ⟨h1, h2, h3⟩ := mem_sg.1 hx
    obtain rfl : x = s := idx_inj h1 (List.mem_of_getElem? e) (by omega)
    exact l_irr x
  · rw [upG_ne c]
    exact h k (by omega)
/-- one node more is laid: over two -/
theorem LwI.node {m l r : Nat} (h : LwI RX RX g m) (hm : m < 2 * RX.length - 1) (hk : l < m ∧ r < m) (e1 : lo RX.length l = lo RX.length m) (e2 : hi RX.length l = lo RX.length r) (e3 : hi RX.length r = hi RX.length m) (x : Option S3) :
    LwI RX RX (upG (upG g m x) m (lwr (upG g m x l) (upG g m x r))) (m + 1) := fun k hk1 => by
  rw [upG_ne (show l ≠ m by omega), upG_ne (show r ≠ m by omega)]
  by_cases c : k = m
  · subst c
    rw [upG_at]
    exact best_kids (h l hk.1) (h r hk.2) (by omega) (by omega) e1 e2 e3
  · rw [upG_ne c, upG_ne c]
    exact h k (by omega)
/-- one step down: beside it hangs the other one -/
theorem sg_kids {k l r : Nat} (hl : l < 2 * RX.length - 1) (hr : r < 2 * RX.length - 1) (e1 : lo RX.length l = lo RX.length k) (e2 : hi RX.length l = lo RX.length r) (e3 : hi RX.length r = hi RX.length k) :
    (sg RX A (lo RX.length k) (hi RX.length k)).Perm (sg RX A (lo RX.length l) (hi RX.length l) ++ sg RX A (lo RX.length r) (hi RX.length r)) := by
  have q1 := lo_at hl
  have q2 := lo_at hr
  rw [← e1, ← e3, ← e2]
  exact sg_split (by omega) (by omega)
/-- at the leaf: it alone -/
theorem sg_leaf (hd : A.Nodup) (hsub : ∀ s ∈ A, s ∈ RX) {s : S3} {a : Nat} (hs : s ∈ A) (h1 : RX.idxOf s = a) : (sg RX A a (a + 1)).Perm [s] := by
  refine (List.perm_ext_iff_of_nodup (l₁ := sg RX A a (a + 1)) (hd.filter _) (by simp)).2 (fun x => ?_)
  rw [mem_sg, List.mem_singleton]
  constructor
  · rintro ⟨h2, h3, h4⟩
    exact idx_inj (hsub x h2) (hsub s hs) (by omega)
  · rintro rfl
    exact ⟨hs, by omega, by omega⟩
end
end Go.Proofs.YtldmajifkmcdcaaGreat.Lv
