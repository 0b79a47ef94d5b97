/-
  Paths: from the root to a leaf, kid by kid; of a leaf's path just one node is canonical, if the range has the leaf; plain lists, no program. No condition but those typed at each theorem.
-/
import Derived.Test.YtmkmkndcndpfeaaFc
namespace Go.Proofs.Ytmkmkndcndpfeaa
open Go.RowKit

/-- the path of a leaf -/
def ptF (n leaf : Nat) : List Nat := pt leaf (tr n) 0 0
theorem pt_range {leaf k : Nat} : ∀ {t b f}, k ∈ pt leaf t b f → b ≤ k ∧ k ≤ rt b t
  | .lf, b, f, h => by simp [pt] at h; subst h; simp [rt, lv]
  | .nd l r, b, f, h => by
    have e1 := rt_lt b l
    have e2 := rt_lt (b + sz l) r
    have e3 := rt_nd b l r
    have := sz_pos l
    have := sz_pos r
    rw [pt_nd] at h
    rcases List.mem_cons.1 h with h | h
    · subst h; omega
    · split at h
      · have := pt_range h; omega
      · have := pt_range h; omega
/-- the nodes of a path: each over the leaf, each but the first a kid of the one ahead, the last one the leaf -/
def PW (L : List Nd) (leaf : Nat) : Nat → List Nat → Prop
  | k, [] => ∃ n, L[k]? = some n ∧ n = (1, -1, -1, (leaf : Int), (leaf : Int) + 1, 0, (leaf : Int))
  | k, j :: ks => (∃ n, L[k]? = some n ∧ nf n ≤ leaf ∧ (leaf : Int) < nt n ∧ (nl n = j ∨ nr n = j)) ∧ PW L leaf j ks
theorem pt_walk {L : List Nd} {leaf : Nat} : ∀ {t b f}, SG L b f t → f ≤ leaf → leaf < f + lv t → ∃ tl, pt leaf t b f = rt b t :: tl ∧ PW L leaf (rt b t) tl
  | .lf, b, f, h, h1, h2 => by
    have h3 := h 0 _ rfl
    simp only [lv] at h2
    obtain rfl : f = leaf := by omega
    refine ⟨[], by simp [pt, rt, lv], _, by simpa [rt, lv] using h3, ?_⟩
    simp
  | .nd l r, b, f, h, h1, h2 => by
    have h3 := h.root
    simp only [lv] at h2
    rw [pt_nd]
    by_cases hc : leaf < f + lv l
    · rw [if_pos hc]
      obtain ⟨tl, e, hp⟩ := pt_walk h.left h1 hc
      rw [e]
      exact ⟨_, rfl, ⟨_, h3, by simp only [nf]; omega, by simp only [nt]; omega, .inl rfl⟩, hp⟩
    · rw [if_neg hc]
      obtain ⟨tl, e, hp⟩ := pt_walk (leaf := leaf) h.right (by omega) (by omega)
      rw [e]
      exact ⟨_, rfl, ⟨_, h3, by simp only [nf]; omega, by simp only [nt]; omega, .inr rfl⟩, hp⟩
theorem PW.at {L : List Nd} {leaf : Nat} : ∀ {ks : List Nat} {k i j : Nat}, PW L leaf k ks → (k :: ks)[i]? = some j →
    ∃ n, L[j]? = some n ∧ nf n ≤ leaf ∧ (leaf : Int) < nt n ∧ (∀ i0, i = i0 + 1 → ∃ p m, (k :: ks)[i0]? = some p ∧ L[p]? = some m ∧ (nl m = j ∨ nr m = j)) ∧ (i = ks.length → n = (1, -1, -1, (leaf : Int), (leaf : Int) + 1, 0, (leaf : Int)))
  | [], k, i, j, ⟨n, h1, h2⟩, e => by
    have hi : i = 0 := by
      have := (List.getElem?_eq_some_iff.1 e).1
      simp at this
      omega
    subst hi
    simp at e
    subst e
    refine ⟨n, h1, ?_, ?_, fun i0 h => by omega, fun _ => h2⟩
    · rw [h2]; simp [nf]
    · rw [h2]; simp only [nt]; omega
  | q :: ks, k, i, j, ⟨⟨n, h1, h2, h3, h4⟩, h5⟩, e => by
    cases i with
    | zero =>
      simp at e
      subst e
      exact ⟨n, h1, h2, h3, fun i0 h => by omega, fun h => by simp at h⟩
    | succ i =>
      simp only [List.getElem?_cons_succ] at e
      obtain ⟨n2, g1, g2, g3, g4, g5⟩ := h5.at e
      refine ⟨n2, g1, g2, g3, fun i0 h => ?_, fun h => g5 (by simpa using h)⟩
      obtain rfl : i = i0 := by omega
      cases i with
      | zero =>
        simp at e
        subst e
        exact ⟨k, n, rfl, h1, h4⟩
      | succ i =>
        obtain ⟨p, m, k1, k2, k3⟩ := g4 i rfl
        exact ⟨p, m, by simpa using k1, k2, k3⟩
theorem ptF_walk {n leaf : Nat} (h : leaf < n) : ∃ tl, ptF n leaf = (2 * n - 2) :: tl ∧ PW (ndN n) leaf (2 * n - 2) tl := by
  have := pt_walk (leaf := leaf) (SG.all n (by omega)) (Nat.zero_le _) (by rw [lv_tr (by omega)]; omega)
  have e : rt 0 (tr n) = 2 * n - 2 := by unfold rt; rw [lv_tr (by omega)]; omega
  rw [e] at this
  exact this
theorem ptF_len {n leaf : Nat} (h : 1 ≤ n) (hn : n ≤ 1500) : (ptF n leaf).length ≤ lgI n + 1 := by
  have := (pt_len leaf (tr n) 0 0).2
  rw [ht_tr h (by omega)] at this
  exact this

/-- how many places of a path are among these -/
def mt (ks p : List Nat) : Nat := (ks.map (fun k => p.count k)).sum
theorem mt_nil (p : List Nat) : mt [] p = 0 := rfl
theorem mt_snoc (ks p : List Nat) (k : Nat) : mt (ks ++ [k]) p = mt ks p + p.count k := by simp [mt]
theorem mt_append (ks ms p : List Nat) : mt (ks ++ ms) p = mt ks p + mt ms p := by simp [mt]
theorem mt_none {ks p : List Nat} (h : ∀ k ∈ ks, k ∉ p) : mt ks p = 0 := by
  induction ks with
  | nil => rfl
  | cons k ks ih =>
    rw [show k :: ks = [k] ++ ks from rfl, mt_append, ih (fun k hk => h k (List.mem_cons_of_mem _ hk))]
    simp [mt, List.count_eq_zero.2 (h k (by simp))]
theorem mt_cons {ks p : List Nat} {x : Nat} (h : x ∉ ks) : mt ks (x :: p) = mt ks p := by
  induction ks with
  | nil => rfl
  | cons k ks ih =>
    rw [show k :: ks = [k] ++ ks from rfl, mt_append, mt_append, ih (fun hk => h (List.mem_cons_of_mem _ hk))]
    have : ¬ x = k := fun e => h (by simp [e])
    simp [mt, List.count_cons, this]
theorem cn_met {x y leaf : Nat} : ∀ {t b f}, f ≤ leaf → leaf < f + lv t → mt (cn x y t b f).1 (pt leaf t b f) = if x ≤ leaf ∧ leaf < y then 1 else 0
  | .lf, b, f, h1, h2 => by
    simp only [lv] at h2
    by_cases ha : f + 1 ≤ x ∨ y ≤ f
    · rw [cn_apart (by simpa only [lv] using ha), if_neg (by omega)]
      rfl
    · rw [cn_in (by simp only [lv]; omega), if_pos (by omega)]
      simp [mt, pt, rt, lv]
  | .nd l r, b, f, h1, h2 => by
    have e1 := rt_lt b l
    have e2 := rt_lt (b + sz l) r
    have e3 := rt_nd b l r
    have := sz_pos l
    have := sz_pos r
    simp only [lv] at h2
    by_cases ha : f + (lv l + lv r) ≤ x ∨ y ≤ f
    · rw [cn_apart (by simpa only [lv] using ha), if_neg (by omega)]
      rfl
    · by_cases hi : x ≤ f ∧ f + (lv l + lv r) ≤ y
      · rw [cn_in (by simpa only [lv] using hi), if_pos (by omega), pt_nd]
        have h0 : rt b (.nd l r) ∉ (if leaf < f + lv l then pt leaf l b f else pt leaf r (b + sz l) (f + lv l)) := by
          intro h
          split at h
          · have := pt_range h; omega
          · have := pt_range h; omega
        simp [mt, List.count_eq_zero.2 h0]
      · rw [cn_cut ha hi, pt_nd, mt_cons (fun h => by
          rcases List.mem_append.1 h with h | h
          · have := cn_range h; omega
          · have := cn_range h; omega), mt_append]
        by_cases hc : leaf < f + lv l
        · rw [if_pos hc, cn_met h1 hc, mt_none (fun k hk hp => by have := cn_range hk; have := pt_range hp; omega)]
          omega
        · rw [if_neg hc, cn_met (t := r) (by omega) (by omega), mt_none (fun k hk hp => by have := cn_range hk; have := pt_range hp; omega)]
          omega
theorem cnF_met {n x y leaf : Nat} (h : leaf < n) : mt (cnF n x y).1 (ptF n leaf) = if x ≤ leaf ∧ leaf < y then 1 else 0 := by
  unfold cnF ptF
  split
  · rw [if_neg (by omega)]
    rfl
  · exact cn_met (by omega) (by rw [lv_tr (by omega)]; omega)
/-- of one leaf -/
theorem cn_one {leaf : Nat} : ∀ {t b f}, f ≤ leaf → leaf < f + lv t → ∃ ini last, pt leaf t b f = ini ++ [last] ∧ cn leaf (leaf + 1) t b f = ([last], 2 * (pt leaf t b f).length - 1)
  | .lf, b, f, h1, h2 => by
    simp only [lv] at h2
    exact ⟨[], b, rfl, by rw [cn_in (by simp only [lv]; omega)]; simp [pt, rt, lv]⟩
  | .nd l r, b, f, h1, h2 => by
    have := lv_pos l
    have := lv_pos r
    simp only [lv] at h2
    have hl := (pt_len leaf l b f).1
    have hr := (pt_len leaf r (b + sz l) (f + lv l)).1
    rw [cn_cut (by omega) (by omega), pt_nd]
    by_cases hc : leaf < f + lv l
    · obtain ⟨ini, last, p1, p2⟩ := cn_one (leaf := leaf) (t := l) (b := b) h1 hc
      rw [if_pos hc, p2, cn_apart (t := r) (by omega), p1]
      rw [p1] at hl
      refine ⟨rt b (.nd l r) :: ini, last, rfl, ?_⟩
      simp only [List.append_nil, List.length_cons, Prod.mk.injEq, true_and]
      omega
    · obtain ⟨ini, last, p1, p2⟩ := cn_one (leaf := leaf) (t := r) (b := b + sz l) (f := f + lv l) (by omega) (by omega)
      rw [if_neg hc, p2, cn_apart (t := l) (by omega), p1]
      rw [p1] at hr
      refine ⟨rt b (.nd l r) :: ini, last, rfl, ?_⟩
      simp only [List.nil_append, List.length_cons, Prod.mk.injEq, true_and]
      omega
theorem cnF_one {n leaf : Nat} (h : leaf < n) : ∃ ini last, ptF n leaf = ini ++ [last] ∧ cnF n leaf (leaf + 1) = ([last], 2 * (ptF n leaf).length - 1) := by
  unfold cnF
  rw [if_neg (by omega)]
  exact cn_one (by omega) (by rw [lv_tr (by omega)]; omega)
end Go.Proofs.Ytmkmkndcndpfeaa
