/-
  Keys that rise, keys by their order, and merging, as plain lists. No condition but those typed at each theorem.
-/
import Derived.Test.YtomchimjogdkkaaMath
namespace Go.Proofs.Ytomchimjogdkkaa

/-- the keys as they come out -/
def keyed (ks : List (Int × Int)) : List (Int × Int) := (srt ks).map fun p => ks.getD p.toNat (0, 0)
theorem keyed_len (ks : List (Int × Int)) : (keyed ks).length = ks.length := by simp [keyed, srt_len]
theorem ris_iff (ks : List (Int × Int)) : risD ks = true ↔ ∀ i, i + 1 < ks.length → kl (ks.getD (i + 1) (0, 0)) (ks.getD i (0, 0)) = false := by
  simp only [risD, risB, List.all_eq_true, List.mem_range, Bool.or_eq_true, decide_eq_true_eq, Bool.not_eq_true']
  constructor
  · intro h i hi
    rcases h (i + 1) hi with h1 | h1
    · omega
    · simpa using h1
  · intro h i hi
    rcases Nat.eq_zero_or_pos i with h1 | h1
    · exact .inl h1
    · right
      have := h (i - 1) (by omega)
      rwa [Nat.sub_add_cancel h1] at this
theorem kl_of_lp {ks : List (Int × Int)} {p q : Int} (h : lp ks p q) : kl (ks.getD q.toNat (0, 0)) (ks.getD p.toNat (0, 0)) = false := by
  unfold lp at h
  generalize ks.getD p.toNat (0, 0) = a at *
  generalize ks.getD q.toNat (0, 0) = b at *
  obtain ⟨a1, a2⟩ := a
  obtain ⟨b1, b2⟩ := b
  simp [kl] at *
  omega
theorem ris_keyed (ks : List (Int × Int)) : risD (keyed ks) = true := by
  rw [ris_iff]
  intro i hi
  rw [keyed_len] at hi
  have hl := srt_len ks
  have := (good_srt ks).step i (srt ks)[i] (srt ks)[i + 1] (List.getElem?_eq_getElem (by omega)) (List.getElem?_eq_getElem (by omega))
  have := kl_of_lp this
  simpa [keyed, List.getD_eq_getElem?_getD, List.getElem?_map, List.getElem?_eq_getElem (show i < (srt ks).length by omega), List.getElem?_eq_getElem (show i + 1 < (srt ks).length by omega)] using this
theorem lp_far {ks : List (Int × Int)} (h : risD ks = true) (i d : Nat) (hd : i + d + 1 < ks.length) : lp ks i ((i + d + 1 : Nat) : Int) := by
  have adj : ∀ j, j + 1 < ks.length → lp ks (j : Int) ((j + 1 : Nat) : Int) := fun j hj =>
    lp_of_not (by have := (ris_iff ks).1 h j hj; simpa [ahK] using this) (by omega)
  induction d with
  | zero => exact adj i hd
  | succ d ih => exact lp_trans (ih (by omega)) (adj (i + d + 1) hd)
theorem lp_all {ks : List (Int × Int)} (h : risD ks = true) (i j : Nat) (hij : i < j) (hj : j < ks.length) : lp ks i j := by
  have := lp_far h i (j - i - 1) (by omega)
  rwa [show i + (j - i - 1) + 1 = j by omega] at this
theorem upto_get {n i : Nat} (h : i < (upto n).length) : (upto n)[i] = (i : Int) := by simp [upto]
theorem upto_lp {ks : List (Int × Int)} (h : risD ks = true) : (upto ks.length).Pairwise (lp ks) := by
  rw [List.pairwise_iff_getElem]
  intro i j hi hj hij
  rw [upto_get, upto_get]
  rw [upto_len] at hj
  exact lp_all h i j hij hj
theorem srt_ris {ks : List (Int × Int)} (h : risD ks = true) : srt ks = upto ks.length := pw_unique (srt_perm ks) (srt_pw ks) (upto_lp h)
theorem keyed_iff (ks : List (Int × Int)) : keyed ks = ks ↔ risD ks = true := by
  constructor
  · intro h
    have := ris_keyed ks
    rwa [h] at this
  · intro h
    unfold keyed
    rw [srt_ris h]
    apply List.ext_getElem
    · simp [upto_len]
    · intro i h1 h2
      simp [upto, List.getElem?_eq_getElem h2]
theorem mrg_congr {ah ah' : Int → Int → Bool} (xs ys : List Int) (h : ∀ y ∈ ys, ∀ x ∈ xs, ah y x = ah' y x) : mrg ah xs ys = mrg ah' xs ys := by
  fun_induction mrg ah xs ys with
  | case1 ys => simp [mrg]
  | case2 x xs => simp [mrg]
  | case3 x xs y ys h1 ih =>
    rw [mrg, ← h y (by simp) x (by simp), if_pos h1, ih (fun a ha b hb => h a (by simp [ha]) b hb)]
  | case4 x xs y ys h1 ih =>
    rw [mrg, ← h y (by simp) x (by simp), if_neg h1, ih (fun a ha b hb => h a ha b (by simp [hb]))]
theorem getD_left (xs ys : List (Int × Int)) {p : Int} (h0 : 0 ≤ p) (h : p < xs.length) : (xs ++ ys).getD p.toNat (0, 0) = xs.getD p.toNat (0, 0) := by
  simp [List.getD_eq_getElem?_getD, List.getElem?_append_left (show p.toNat < xs.length by omega)]
theorem getD_right (xs ys : List (Int × Int)) {p : Int} (h : xs.length ≤ p) : (xs ++ ys).getD p.toNat (0, 0) = ys.getD (p - xs.length).toNat (0, 0) := by
  rw [List.getD_eq_getElem?_getD, List.getD_eq_getElem?_getD, List.getElem?_append_right (show xs.length ≤ p.toNat by omega), show p.toNat - xs.length = (p - xs.length).toNat by omega]
theorem mgd_eq {xs ys : List (Int × Int)} (hx : risD xs = true) (hy : risD ys = true) : mgd xs ys = srt (xs ++ ys) := by
  unfold mgd
  have hc := mrg_congr (ah := ahM xs ys) (ah' := ahK (xs ++ ys)) (upto xs.length) ((upto (xs.length + ys.length)).drop xs.length) (fun y h1 x h2 => by
    have a1 := mem_drop_upto h1
    have a2 := mem_upto h2
    simp only [ahM, ahK]
    rw [getD_right xs ys a1.1, getD_left xs ys a2.1 a2.2])
  rw [hc]
  have hl : (xs ++ ys).length = xs.length + ys.length := by simp
  have htk : upto xs.length = (upto (xs.length + ys.length)).take xs.length := by
    apply List.ext_getElem
    · simp [upto_len]
    · intro i h1 h2
      simp [upto]
  refine pw_unique ?_ ?_ (srt_pw _)
  · refine (mrg_perm _ _ _).trans ?_
    rw [htk, List.take_append_drop]
    refine ((srt_perm (xs ++ ys)).trans ?_).symm
    rw [hl]
  · refine mrg_pw _ _ _ ?_ ?_ ?_
    · rw [List.pairwise_iff_getElem]
      intro i j hi hj hij
      rw [upto_get, upto_get]
      rw [upto_len] at hi hj
      have := lp_all hx i j hij hj
      unfold lp at this ⊢
      rwa [getD_left xs ys (by omega) (by omega), getD_left xs ys (by omega) (by omega)]
    · rw [List.pairwise_iff_getElem]
      intro i j hi hj hij
      simp [upto_len] at hi hj
      have := lp_all hy i j hij hj
      simp only [List.getElem_drop, upto_get]
      unfold lp at this ⊢
      rw [getD_right xs ys (by omega), getD_right xs ys (by omega)]
      rw [show (((xs.length + i : Nat) : Int) - xs.length) = (i : Int) by omega, show (((xs.length + j : Nat) : Int) - xs.length) = (j : Int) by omega]
      rcases this with h1 | ⟨h1, h2⟩
      · exact .inl h1
      · exact .inr ⟨h1, by omega⟩
    · intro x h1 y h2
      have a1 := mem_upto h1
      have a2 := mem_drop_upto h2
      omega
end Go.Proofs.Ytomchimjogdkkaa
