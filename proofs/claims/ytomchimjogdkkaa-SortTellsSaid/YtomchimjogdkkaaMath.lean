/-
  What putting in order, and merging, tells, as plain lists. No condition but those typed at each theorem.
-/
import Derived.Test.YtomchimjogdkkaaRises
namespace Go.Proofs.Ytomchimjogdkkaa

theorem lp_trans {ks : List (Int × Int)} {p q r : Int} (h1 : lp ks p q) (h2 : lp ks q r) : lp ks p r := by
  unfold lp at *
  generalize ks.getD p.toNat (0, 0) = a at *
  generalize ks.getD q.toNat (0, 0) = b at *
  generalize ks.getD r.toNat (0, 0) = c at *
  obtain ⟨a1, a2⟩ := a
  obtain ⟨b1, b2⟩ := b
  obtain ⟨c1, c2⟩ := c
  simp [kl] at *
  omega
theorem lp_asymm {ks : List (Int × Int)} {p q : Int} (h1 : lp ks p q) (h2 : lp ks q p) : False := by
  unfold lp at *
  generalize ks.getD p.toNat (0, 0) = a at *
  generalize ks.getD q.toNat (0, 0) = b at *
  obtain ⟨a1, a2⟩ := a
  obtain ⟨b1, b2⟩ := b
  simp [kl] at *
  omega
theorem lp_of_not {ks : List (Int × Int)} {p q : Int} (h : ahK ks q p = false) (hpq : p < q) : lp ks p q := by
  unfold lp ahK at *
  generalize ks.getD p.toNat (0, 0) = a at *
  generalize ks.getD q.toNat (0, 0) = b at *
  obtain ⟨a1, a2⟩ := a
  obtain ⟨b1, b2⟩ := b
  simp [kl] at *
  omega
theorem mem_mrg {ah : Int → Int → Bool} {xs ys : List Int} {z : Int} : z ∈ mrg ah xs ys ↔ z ∈ xs ∨ z ∈ ys := by rw [(mrg_perm ah xs ys).mem_iff, List.mem_append]
theorem mrg_pw (ks : List (Int × Int)) (xs ys : List Int) (hx : xs.Pairwise (lp ks)) (hy : ys.Pairwise (lp ks)) (hxy : ∀ x ∈ xs, ∀ y ∈ ys, x < y) : (mrg (ahK ks) xs ys).Pairwise (lp ks) := by
  fun_induction mrg (ahK ks) xs ys with
  | case1 ys => exact hy
  | case2 x xs => exact hx
  | case3 x xs y ys h ih =>
    have hyx : lp ks y x := .inl h
    rw [List.pairwise_cons] at hy
    refine List.pairwise_cons.2 ⟨fun z hz => ?_, ih hx hy.2 (fun a ha b hb => hxy a ha b (by simp [hb]))⟩
    rcases mem_mrg.1 hz with h1 | h1
    · rcases List.mem_cons.1 h1 with rfl | h2
      · exact hyx
      · exact lp_trans hyx ((List.pairwise_cons.1 hx).1 z h2)
    · exact hy.1 z h1
  | case4 x xs y ys h ih =>
    have hxy1 : lp ks x y := lp_of_not (by simpa using h) (hxy x (by simp) y (by simp))
    rw [List.pairwise_cons] at hx
    refine List.pairwise_cons.2 ⟨fun z hz => ?_, ih hx.2 hy (fun a ha b hb => hxy a (by simp [ha]) b hb)⟩
    rcases mem_mrg.1 hz with h1 | h1
    · exact hx.1 z h1
    · rcases List.mem_cons.1 h1 with rfl | h2
      · exact hxy1
      · exact lp_trans hxy1 ((List.pairwise_cons.1 hy).1 z h2)
theorem ord_pw (ks : List (Int × Int)) (ps : List Int) (h : ps.Pairwise (· < ·)) : (ord (ahK ks) ps).Pairwise (lp ks) := by
  fun_induction ord (ahK ks) ps with
  | case1 ps hl =>
    match ps, hl with
    | [], _ => exact List.Pairwise.nil
    | [x], _ => simp
  | case2 ps hl ih1 ih2 =>
    have hs := List.take_append_drop (ps.length / 2) ps
    have h' := h
    rw [← hs, List.pairwise_append] at h'
    exact mrg_pw ks _ _ (ih1 h'.1) (ih2 h'.2.1) (fun x hx y hy => h'.2.2 x ((ord_perm _ _).mem_iff.1 hx) y ((ord_perm _ _).mem_iff.1 hy))
theorem upto_pw (n : Nat) : (upto n).Pairwise (· < ·) := by
  unfold upto
  rw [List.pairwise_map]
  exact List.pairwise_lt_range.imp (fun h => by simpa using h)
theorem srt_perm (ks : List (Int × Int)) : (srt ks).Perm (upto ks.length) := ord_perm _ _
theorem srt_pw (ks : List (Int × Int)) : (srt ks).Pairwise (lp ks) := ord_pw ks _ (upto_pw _)
theorem good_of {ks : List (Int × Int)} {ps : List Int} (h1 : ps.Perm (upto ks.length)) (h2 : ps.Pairwise (lp ks)) : Good ks ps := by
  refine ⟨by rw [h1.length_eq, upto_len], fun x hx => mem_upto (h1.mem_iff.1 hx), ?_, ?_⟩
  · exact h1.nodup_iff.2 ((upto_pw _).imp (fun h e => by omega))
  · intro i x y hx hy
    obtain ⟨hi, ex⟩ := List.getElem?_eq_some_iff.1 hx
    obtain ⟨hj, ey⟩ := List.getElem?_eq_some_iff.1 hy
    have := List.pairwise_iff_getElem.1 h2 i (i + 1) hi hj (by omega)
    rwa [ex, ey] at this
theorem good_srt (ks : List (Int × Int)) : Good ks (srt ks) := good_of (srt_perm ks) (srt_pw ks)
/-- there is one such order -/
theorem pw_unique {ks : List (Int × Int)} : ∀ {ps qs : List Int}, ps.Perm qs → ps.Pairwise (lp ks) → qs.Pairwise (lp ks) → ps = qs
  | [], qs, h, _, _ => by simpa using h.symm
  | p :: ps, [], h, _, _ => by simp at h
  | p :: ps, q :: qs, h, h1, h2 => by
    have e : p = q := by
      rcases List.mem_cons.1 (h.mem_iff.1 (List.mem_cons_self)) with e | e
      · exact e
      · rcases List.mem_cons.1 (h.mem_iff.2 (List.mem_cons_self)) with e' | e'
        · exact e'.symm
        · exact absurd ((List.pairwise_cons.1 h1).1 q e') (fun h3 => lp_asymm h3 ((List.pairwise_cons.1 h2).1 p e))
    subst e
    rw [pw_unique (List.perm_cons p |>.1 h) (List.pairwise_cons.1 h1).2 (List.pairwise_cons.1 h2).2]
end Go.Proofs.Ytomchimjogdkkaa
