/-
  What a round of Go's own sort leaves to be put in order, at whole numbers. No condition but those typed at each theorem.
-/
import Derived.Test.YtnangnmnodpfjaaPins
import Derived.Sort.LotD3
namespace Go.Proofs.Ytnangnmnodpfjaa
open Go.RowKit Go.Sort

/-- what is left: the range a to b of d; whoever puts that in order, puts all in order -/
structure PD (d0 : Array Int) (a0 b0 : Nat) (d : Array Int) (a b : Nat) : Prop where
  le : a ≤ b
  lo : a0 ≤ a
  hi : b ≤ b0
  hb : b0 ≤ d0.size
  sz : d.size = d0.size
  below : Below ltInt a b d
  fin : ∀ R, PermIn a b d R → SortedIn ltInt a b R → PermIn a0 b0 d0 R ∧ SortedIn ltInt a0 b0 R
section
variable {d0 d d' L : Array Int} {a0 b0 a b : Nat}
theorem PD.start (hab : a ≤ b) (hb : b ≤ d.size) (hB : Below ltInt a b d) : PD d a b d a b := ⟨hab, Nat.le_refl _, Nat.le_refl _, hb, rfl, hB, fun _ h1 h2 => ⟨h1, h2⟩⟩
theorem PD.bs (h : PD d0 a0 b0 d a b) : b ≤ d.size := by have := h.hi; have := h.hb; have := h.sz; omega
theorem PD.perm (h : PD d0 a0 b0 d a b) (hp : PermIn a b d d') : PD d0 a0 b0 d' a b :=
  ⟨h.le, h.lo, h.hi, h.hb, hp.1.trans h.sz, Sort.Below.perm h.below h.bs hp, fun R h1 h2 => h.fin R (permIn_trans _ _ _ _ _ hp h1) h2⟩
theorem PD.eq (h : PD d0 a0 b0 d a b) {P : Int → Bool} {p : Int} {i j : Nat} (hP : ∀ x, P x = !ltInt p x) (ha : 0 < a) (hl : ltInt d[a - 1]! p = false)
    (hI : PI P p d d' a b i j) (hji : j < i) : PD d0 a0 b0 d' i b ∧ a < i ∧ i ≤ b := by
  have hS := swo_ltInt
  have hbd := hI.bnd
  have hij : i = j + 1 := by omega
  subst hij
  have hb := h.bs
  have hb' : b ≤ d'.size := by omega
  have hge : ∀ t, a ≤ t → t < b → ltInt d[t]! p = false := fun t h1 h2 => by
    rcases h.below with h0 | hB
    · omega
    · exact hS.ntrans _ _ _ (hB t h1 h2) hl
  have hge4 := permIn_all d d' a b (fun x => ltInt x p = false) hb hI.perm hge
  have hle : ∀ t, a ≤ t → t < j + 1 → ltInt p d'[t]! = false := fun t h1 h2 => by
    by_cases e : t = a
    · subst e; rw [hI.pa]; exact hS.irrefl _
    · have := hI.low t (by omega) h2
      rw [hP] at this
      simpa using this
  have hgt : ∀ t, j + 1 ≤ t → t < b → ltInt p d'[t]! = true := fun t h1 h2 => by
    have := hI.high t (by omega) h2
    rw [hP] at this
    simpa using this
  have hBl : Below ltInt (j + 1) b d' := Or.inr fun t h1 h2 => by
    cases hc : ltInt d'[t]! d'[j + 1 - 1]! with
    | false => rfl
    | true => have := hS.trans _ _ _ (hgt t h1 h2) hc; rw [hle (j + 1 - 1) (by omega) (by omega)] at this; cases this
  refine ⟨⟨by omega, by have := h.lo; omega, h.hi, h.hb, hI.perm.1.trans h.sz, hBl, fun R hR hs => ?_⟩, by omega, by omega⟩
  refine h.fin R (permIn_trans _ _ _ a b hI.perm (permIn_mono _ _ (j + 1) b a b (by omega) (Nat.le_refl _) hb' hR)) ?_
  refine sorted_glue_eq hS p hs (fun t h1 h2 => ?_) (fun t h1 h2 => ?_) (permIn_all d' R (j + 1) b (fun x => ltInt p x = true) hb' hR hgt)
  · rw [hR.2.1 t (Or.inl h2)]; exact hle t h1 h2
  · rw [hR.2.1 t (Or.inl h2)]; exact hge4 t h1 (by omega)

/-- parted at m: what is left of m is less than what is at m, what is right of it is not -/
structure PP (d0 : Array Int) (a0 b0 : Nat) (d : Array Int) (a b m : Nat) : Prop where
  pd : PD d0 a0 b0 d a b
  am : a ≤ m
  mb : m < b
  lo : ∀ i, a ≤ i → i < m → ltInt d[i]! d[m]! = true
  hi : ∀ i, m < i → i < b → ltInt d[i]! d[m]! = false
theorem PP.of (h : PD d0 a0 b0 d a b) {P : Int → Bool} {p : Int} {i j : Nat} (hP : ∀ x, P x = ltInt x p) (hI : PI P p d d' a b i j) (hji : j < i) : PP d0 a0 b0 (swp d' j a) a b j := by
  have hbd := hI.bnd
  have hij : i = j + 1 := by omega
  subst hij
  have hb := h.bs
  have hjs : j < d'.size := by omega
  have has : a < d'.size := by omega
  have em : (swp d' j a)[j]! = p := by
    by_cases e : j = a
    · subst e; rw [swp_right _ _ _ has]; exact hI.pa
    · rw [swp_left _ _ _ hjs e]; exact hI.pa
  refine ⟨h.perm (permIn_trans _ _ _ _ _ hI.perm (swp_permIn _ _ _ _ _ (by omega) (by omega) (Nat.le_refl _) (by omega) (by omega))), by omega, by omega, fun t h1 h2 => ?_, fun t h1 h2 => ?_⟩
  · rw [em]
    by_cases e : t = a
    · subst e
      rw [swp_right _ _ _ has, ← hP]
      exact hI.low j (by omega) (by omega)
    · rw [swp_other _ _ _ _ (by omega) e, ← hP]
      exact hI.low t (by omega) (by omega)
  · rw [em, swp_other _ _ _ _ (by omega) (by omega), ← hP]
    exact hI.high t (by omega) h2
theorem PP.belowL {m : Nat} (h : PP d0 a0 b0 d a b m) : Below ltInt a m d := Sort.Below.mono h.pd.below (by have := h.mb; omega)
theorem PP.belowR {m : Nat} (h : PP d0 a0 b0 d a b m) : Below ltInt (m + 1) b d := Or.inr fun i h1 h2 => by rw [Nat.add_sub_cancel]; exact h.hi i (by omega) h2
/-- the left part is in order: the right one is left -/
theorem PP.left {m : Nat} (h : PP d0 a0 b0 d a b m) (hL : PermIn a m d L) (hs : SortedIn ltInt a m L) : PD d0 a0 b0 L (m + 1) b := by
  have hS := swo_ltInt
  have ham := h.am
  have hmb := h.mb
  have hb := h.pd.bs
  have hbL : b ≤ L.size := by rw [hL.1]; exact hb
  have eL : ∀ i, m ≤ i → L[i]! = d[i]! := fun i hi => hL.2.1 i (Or.inr hi)
  refine ⟨by omega, by have := h.pd.lo; omega, h.pd.hi, h.pd.hb, hL.1.trans h.pd.sz, Or.inr fun i h1 h2 => by rw [Nat.add_sub_cancel, eL i (by omega), eL m (Nat.le_refl _)]; exact h.hi i (by omega) h2, fun R hR hsR => ?_⟩
  have eR : ∀ i, i ≤ m → R[i]! = L[i]! := fun i hi => hR.2.1 i (Or.inl (by omega))
  refine h.pd.fin R (permIn_trans _ _ _ a b (permIn_mono _ _ a m a b (Nat.le_refl _) (by omega) hb hL) (permIn_mono _ _ (m + 1) b a b (by omega) (Nat.le_refl _) hbL hR)) ?_
  refine sorted_glue hS (hs.congr fun i _ h2 => eR i (by omega)) hsR (fun i h1 h2 => ?_) (fun i h1 h2 => ?_)
  · rw [eR i (by omega), eR m (Nat.le_refl _), eL m (Nat.le_refl _)]
    exact permIn_all d L a m (fun x => ltInt x d[m]! = true) (by omega) hL h.lo i h1 h2
  · rw [eR m (Nat.le_refl _), eL m (Nat.le_refl _)]
    exact permIn_all L R (m + 1) b (fun x => ltInt x d[m]! = false) hbL hR (fun k h3 h4 => by rw [eL k (by omega)]; exact h.hi k (by omega) h4) i (by omega) h2
/-- the right part is in order: the left one is left -/
theorem PP.right {m : Nat} (h : PP d0 a0 b0 d a b m) (hL : PermIn (m + 1) b d L) (hs : SortedIn ltInt (m + 1) b L) : PD d0 a0 b0 L a m := by
  have hS := swo_ltInt
  have ham := h.am
  have hmb := h.mb
  have hb := h.pd.bs
  have hbL : b ≤ L.size := by rw [hL.1]; exact hb
  have eL : ∀ i, i ≤ m → L[i]! = d[i]! := fun i hi => hL.2.1 i (Or.inl (by omega))
  have hBL : Below ltInt a m L := by
    rcases h.belowL with h0 | hB
    · exact Or.inl h0
    · exact Or.inr fun i h1 h2 => by rw [eL i (by omega), eL (a - 1) (by omega)]; exact hB i h1 h2
  refine ⟨h.am, h.pd.lo, by have := h.pd.hi; omega, h.pd.hb, hL.1.trans h.pd.sz, hBL, fun R hR hsR => ?_⟩
  have eR : ∀ i, m ≤ i → R[i]! = L[i]! := fun i hi => hR.2.1 i (Or.inr hi)
  refine h.pd.fin R (permIn_trans _ _ _ a b (permIn_mono _ _ (m + 1) b a b (by omega) (Nat.le_refl _) hb hL) (permIn_mono _ _ a m a b (Nat.le_refl _) (by omega) hbL hR)) ?_
  refine sorted_glue hS hsR (hs.congr fun i h1 _ => eR i (by omega)) (fun i h1 h2 => ?_) (fun i h1 h2 => ?_)
  · rw [eR m (Nat.le_refl _), eL m (Nat.le_refl _)]
    exact permIn_all L R a m (fun x => ltInt x d[m]! = true) (by omega) hR (fun k h3 h4 => by rw [eL k (by omega)]; exact h.lo k h3 h4) i h1 h2
  · rw [eR i (by omega), eR m (Nat.le_refl _), eL m (Nat.le_refl _)]
    exact permIn_all d L (m + 1) b (fun x => ltInt x d[m]! = false) hb hL (fun k h3 h4 => h.hi k (by omega) h4) i (by omega) h2
end
end Go.Proofs.Ytnangnmnodpfjaa
