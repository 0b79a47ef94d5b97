/-
  Points in order by one coordinate and their names, plain: where one is found, which ones a range has. No condition but those typed at each theorem.
-/
import Derived.Test.YtfcpfffgodljeaaGreatP3
import Derived.Test.YtfcpfffgodljeaaGreatAf
namespace Go.Proofs.YtfcpfffgodljeaaGreat.Bd
open Go.RowKit

def kx (s : S3) : Int := s.1
def ky (s : S3) : Int := s.2.1
def ids (T : List S3) : List Int := T.map (·.2.2)
theorem ids_len (T : List S3) : (ids T).length = T.length := by simp [ids]
theorem ids_snoc (T : List S3) (s : S3) : ids (T ++ [s]) = ids T ++ [s.2.2] := by simp [ids]
theorem ids_app (T U : List S3) : ids (T ++ U) = ids T ++ ids U := by simp [ids]
theorem sg_len (SP A : List S3) (i k : Nat) : (sg SP A i k).length ≤ SP.length := by
  unfold sg
  refine Nat.le_trans (List.length_filter_le _ _) ?_
  rw [List.length_take, List.length_drop]; omega
/-- in order by kf and by names, each once -/
def Ord (kf : S3 → Int) (L : List S3) : Prop := L.Pairwise (fun a b => kf a < kf b ∨ kf a = kf b ∧ a.2.2 < b.2.2)
theorem Ord.at {kf : S3 → Int} {L : List S3} (h : Ord kf L) {i j : Nat} {a b : S3} (hi : L[i]? = some a) (hj : L[j]? = some b) (hij : i < j) : kf a < kf b ∨ kf a = kf b ∧ a.2.2 < b.2.2 := by
  obtain ⟨h1, rfl⟩ := List.getElem?_eq_some_iff.1 hi
  obtain ⟨h2, rfl⟩ := List.getElem?_eq_some_iff.1 hj
  exact List.pairwise_iff_getElem.1 h i j h1 h2 hij
theorem Ord.le {kf : S3 → Int} {L : List S3} (h : Ord kf L) {i j : Nat} {a b : S3} (hi : L[i]? = some a) (hj : L[j]? = some b) (hij : i ≤ j) : kf a ≤ kf b := by
  rcases Nat.eq_or_lt_of_le hij with e | e
  · subst e; rw [hi] at hj; injection hj with hj; subst hj; exact Int.le_refl _
  · have := h.at hi hj e; omega
theorem Ord.nodup {kf : S3 → Int} {L : List S3} (h : Ord kf L) : L.Nodup := List.Pairwise.imp (fun {a b} hab e => by subst e; omega) h
theorem Ord.sub {kf : S3 → Int} {L M : List S3} (h : Ord kf L) (hs : M.Sublist L) : Ord kf M := h.sublist hs
theorem getD_map {kf : S3 → Int} {L : List S3} {i : Nat} {a : S3} (h : L[i]? = some a) : (L.map kf).getD i 0 = kf a := by
  rw [List.getD_eq_getElem?_getD, List.getElem?_map, h]; rfl
theorem fst_parts {kf : S3 → Int} {L : List S3} (h : Ord kf L) (hl : L.length ≤ 8192) (v : Int) : (firstP (L.map kf) v).1 ≤ L.length ∧ (firstP (L.map kf) v).2 ≤ lgN (L.length + 1) ∧ (∀ i a, L[i]? = some a → (i < (firstP (L.map kf) v).1 ↔ kf a < v)) := by
  have hlen : (L.map kf).length = L.length := by simp
  have h1 := lk_looks (notLess (L.map kf) v) (n := (L.map kf).length) (by omega)
  have h2 := lk_parts (notLess (L.map kf) v) (L.map kf).length (fun i j hij hj hi => by
    rw [hlen] at hj
    have ei : L[i]? = some L[i] := List.getElem?_eq_getElem (by omega)
    have ej : L[j]? = some L[j] := List.getElem?_eq_getElem hj
    unfold notLess at hi ⊢
    rw [getD_map ei] at hi
    rw [getD_map ej]
    have := h.le ei ej hij
    simp at hi ⊢
    omega)
  refine ⟨Nat.le_trans h1.1 (Nat.le_of_eq hlen), Nat.le_trans h1.2.1 (Nat.le_of_eq (by rw [hlen])), fun i a ha => ?_⟩
  have hi : i < L.length := (List.getElem?_eq_some_iff.1 ha).1
  constructor
  · intro hlt
    have := h2.1 i hlt
    unfold notLess at this
    rw [getD_map ha] at this
    simpa using this
  · intro hlt
    rcases Nat.lt_or_ge i (firstP (L.map kf) v).1 with g | g
    · exact g
    · have := h2.2 i g (by omega)
      unfold notLess at this
      rw [getD_map ha] at this
      simp at this
      omega
theorem abv_parts {kf : S3 → Int} {L : List S3} (h : Ord kf L) (hl : L.length ≤ 8192) (v : Int) : (aboveP (L.map kf) v).1 ≤ L.length ∧ (aboveP (L.map kf) v).2 ≤ lgN (L.length + 1) ∧ (∀ i a, L[i]? = some a → (i < (aboveP (L.map kf) v).1 ↔ kf a ≤ v)) := by
  have hlen : (L.map kf).length = L.length := by simp
  have h1 := lk_looks (isMore (L.map kf) v) (n := (L.map kf).length) (by omega)
  have h2 := lk_parts (isMore (L.map kf) v) (L.map kf).length (fun i j hij hj hi => by
    rw [hlen] at hj
    have ei : L[i]? = some L[i] := List.getElem?_eq_getElem (by omega)
    have ej : L[j]? = some L[j] := List.getElem?_eq_getElem hj
    unfold isMore at hi ⊢
    rw [getD_map ei] at hi
    rw [getD_map ej]
    have := h.le ei ej hij
    simp at hi ⊢
    omega)
  refine ⟨Nat.le_trans h1.1 (Nat.le_of_eq hlen), Nat.le_trans h1.2.1 (Nat.le_of_eq (by rw [hlen])), fun i a ha => ?_⟩
  have hi : i < L.length := (List.getElem?_eq_some_iff.1 ha).1
  constructor
  · intro hlt
    have := h2.1 i hlt
    unfold isMore at this
    rw [getD_map ha] at this
    simpa using this
  · intro hlt
    rcases Nat.lt_or_ge i (aboveP (L.map kf) v).1 with g | g
    · exact g
    · have := h2.2 i g (by omega)
      unfold isMore at this
      rw [getD_map ha] at this
      simp at this
      omega
theorem fst_abv {kf : S3 → Int} {L : List S3} (h : Ord kf L) (hl : L.length ≤ 8192) {u v : Int} (huv : u ≤ v) : (firstP (L.map kf) u).1 ≤ (aboveP (L.map kf) v).1 := by
  obtain ⟨a1, -, a3⟩ := fst_parts h hl u
  obtain ⟨b1, -, b3⟩ := abv_parts h hl v
  rcases Nat.lt_or_ge (aboveP (L.map kf) v).1 (firstP (L.map kf) u).1 with g | g
  · have e : L[(aboveP (L.map kf) v).1]? = some L[(aboveP (L.map kf) v).1] := List.getElem?_eq_getElem (by omega)
    have h1 := (a3 _ _ e).1 g
    have h2 := (b3 _ _ e).2 (by omega)
    omega
  · exact g
/-- the names of what stands in a part -/
def nms (L : List S3) (i k : Nat) : List Int := ((L.map (·.2.2)).drop i).take (k - i)
theorem nms_get {L : List S3} {i k j : Nat} {x : Int} (h : (nms L i k)[j]? = some x) : j < k - i ∧ ∃ a, L[i + j]? = some a ∧ a.2.2 = x := by
  unfold nms at h
  rw [List.getElem?_take] at h
  split at h
  · rename_i g
    rw [List.getElem?_drop, List.getElem?_map] at h
    cases e : L[i + j]? with
    | none => rw [e] at h; cases h
    | some a => rw [e] at h; injection h with h; exact ⟨g, a, rfl, h⟩
  · cases h
theorem nms_at {L : List S3} {i k j : Nat} {a : S3} (h : L[i + j]? = some a) (hj : j < k - i) : (nms L i k)[j]? = some a.2.2 := by
  unfold nms
  rw [List.getElem?_take, if_pos hj, List.getElem?_drop, List.getElem?_map, h]; rfl
theorem nms_len {L : List S3} {i k : Nat} (hk : k ≤ L.length) : (nms L i k).length = k - i := by
  unfold nms; rw [List.length_take, List.length_drop, List.length_map]; omega
/-- what find tells: place and whether it is there -/
def fnd (kf : S3 → Int) (L : List S3) (v x : Int) : Nat × Bool :=
  ((firstP (L.map kf) v).1 + (firstP (nms L (firstP (L.map kf) v).1 (aboveP (L.map kf) v).1) x).1,
   decide ((firstP (nms L (firstP (L.map kf) v).1 (aboveP (L.map kf) v).1) x).1 < (nms L (firstP (L.map kf) v).1 (aboveP (L.map kf) v).1).length) && decide ((nms L (firstP (L.map kf) v).1 (aboveP (L.map kf) v).1).getD (firstP (nms L (firstP (L.map kf) v).1 (aboveP (L.map kf) v).1) x).1 0 = x))
theorem firstP_list {xs : List Int} (h : xs.Pairwise (· < ·)) (hl : xs.length ≤ 8192) (x : Int) : (firstP xs x).1 ≤ xs.length ∧ ∀ i y, xs[i]? = some y → (i < (firstP xs x).1 ↔ y < x) := by
  have h1 := lk_looks (notLess xs x) (n := xs.length) (by omega)
  have hD : ∀ i y, xs[i]? = some y → xs.getD i 0 = y := fun i y e => by rw [List.getD_eq_getElem?_getD, e]; rfl
  have h2 := lk_parts (notLess xs x) xs.length (fun i j hij hj hi => by
    have ei : xs[i]? = some xs[i] := List.getElem?_eq_getElem (by omega)
    have ej : xs[j]? = some xs[j] := List.getElem?_eq_getElem hj
    unfold notLess at hi ⊢
    rw [hD _ _ ei] at hi
    rw [hD _ _ ej]
    have : xs[i] ≤ xs[j] := by
      rcases Nat.eq_or_lt_of_le hij with e | e
      · subst e; exact Int.le_refl _
      · exact Int.le_of_lt (List.pairwise_iff_getElem.1 h i j (by omega) hj e)
    simp at hi ⊢
    omega)
  refine ⟨h1.1, fun i y hy => ?_⟩
  have hi : i < xs.length := (List.getElem?_eq_some_iff.1 hy).1
  constructor
  · intro hlt
    have := h2.1 i hlt
    unfold notLess at this
    rw [hD _ _ hy] at this
    simpa using this
  · intro hlt
    rcases Nat.lt_or_ge i (firstP xs x).1 with g | g
    · exact g
    · have := h2.2 i g hi
      unfold notLess at this
      rw [hD _ _ hy] at this
      simp at this
      omega
theorem nms_rise {kf : S3 → Int} {L : List S3} (h : Ord kf L) (hl : L.length ≤ 8192) (v : Int) : (nms L (firstP (L.map kf) v).1 (aboveP (L.map kf) v).1).Pairwise (· < ·) := by
  obtain ⟨a1, -, a3⟩ := fst_parts h hl v
  obtain ⟨b1, -, b3⟩ := abv_parts h hl v
  refine List.pairwise_iff_getElem.2 (fun i j hi hj hij => ?_)
  obtain ⟨g1, a, ha, ea⟩ := nms_get (List.getElem?_eq_getElem hi)
  obtain ⟨g2, b, hb, eb⟩ := nms_get (List.getElem?_eq_getElem hj)
  rw [← ea, ← eb]
  have h1 := h.at ha hb (by omega)
  have h2 := (b3 _ _ hb).1 (by omega)
  have h3 := a3 _ _ ha
  have h4 : ¬ kf a < v := fun c => by have := h3.2 c; omega
  omega
theorem fnd_yes {kf : S3 → Int} {L : List S3} (h : Ord kf L) (hl : L.length ≤ 8192) {v x : Int} {s : S3} {i : Nat} (hs : L[i]? = some s) (h1 : kf s = v) (h2 : s.2.2 = x) : fnd kf L v x = (i, true) := by
  obtain ⟨a1, -, a3⟩ := fst_parts h hl v
  obtain ⟨b1, -, b3⟩ := abv_parts h hl v
  have hr := nms_rise h hl v
  have hle := fst_abv h hl (Int.le_refl v)
  have hi1 : (firstP (L.map kf) v).1 ≤ i := by
    rcases Nat.lt_or_ge i (firstP (L.map kf) v).1 with g | g
    · have := (a3 _ _ hs).1 g; omega
    · exact g
  have hi2 : i < (aboveP (L.map kf) v).1 := (b3 _ _ hs).2 (by omega)
  have hn := nms_len (L := L) (i := (firstP (L.map kf) v).1) b1
  unfold fnd
  generalize (firstP (L.map kf) v).1 = p at *
  generalize (aboveP (L.map kf) v).1 = q at *
  have e : (nms L p q)[i - p]? = some x := by
    have := nms_at (L := L) (i := p) (k := q) (j := i - p) (a := s) (by rw [show p + (i - p) = i by omega]; exact hs) (by omega)
    rw [this, h2]
  obtain ⟨c1, c2⟩ := firstP_list hr (by omega) x
  have c3 : (firstP (nms L p q) x).1 = i - p := by
    have d1 := c2 _ _ e
    rcases Nat.lt_trichotomy (firstP (nms L p q) x).1 (i - p) with g | g | g
    · have e2 : (nms L p q)[(firstP (nms L p q) x).1]? = some (nms L p q)[(firstP (nms L p q) x).1] := List.getElem?_eq_getElem (by omega)
      have d2 := List.pairwise_iff_getElem.1 hr (firstP (nms L p q) x).1 (i - p) (by omega) (by omega) g
      rw [(List.getElem?_eq_some_iff.1 e).2] at d2
      have := (c2 _ _ e2).2 d2
      omega
    · exact g
    · have := d1.1 g; omega
  rw [c3]
  have c4 : (nms L p q).getD (i - p) 0 = x := by rw [List.getD_eq_getElem?_getD, e]; rfl
  rw [c4]
  have c5 : i - p < (nms L p q).length := by omega
  simp [c5]
  omega
theorem fnd_true {kf : S3 → Int} {L : List S3} (h : Ord kf L) (hl : L.length ≤ 8192) {v x : Int} (hf : (fnd kf L v x).2 = true) : ∃ s, L[(fnd kf L v x).1]? = some s ∧ kf s = v ∧ s.2.2 = x := by
  obtain ⟨a1, -, a3⟩ := fst_parts h hl v
  obtain ⟨b1, -, b3⟩ := abv_parts h hl v
  unfold fnd at hf ⊢
  simp only [Bool.and_eq_true, decide_eq_true_eq] at hf ⊢
  obtain ⟨h1, h2⟩ := hf
  generalize (firstP (nms L (firstP (L.map kf) v).1 (aboveP (L.map kf) v).1) x).1 = r at *
  have e : (nms L (firstP (L.map kf) v).1 (aboveP (L.map kf) v).1)[r]? = some (nms L (firstP (L.map kf) v).1 (aboveP (L.map kf) v).1)[r] := List.getElem?_eq_getElem h1
  rw [List.getD_eq_getElem?_getD, e] at h2
  obtain ⟨g1, s, hs, es⟩ := nms_get e
  refine ⟨s, hs, ?_, es.trans h2⟩
  have d1 := (b3 _ _ hs).1 (by omega)
  have d2 : ¬ kf s < v := fun c => by have := (a3 _ _ hs).2 c; omega
  omega
theorem fnd_no {kf : S3 → Int} {L : List S3} (h : Ord kf L) (hl : L.length ≤ 8192) {v x : Int} (hn : ∀ s ∈ L, ¬ (kf s = v ∧ s.2.2 = x)) : (fnd kf L v x).2 = false := by
  cases hf : (fnd kf L v x).2 with
  | false => rfl
  | true =>
    obtain ⟨s, h1, h2⟩ := fnd_true h hl hf
    exact absurd h2 (hn s (List.mem_of_getElem? h1))
/-- those from the first place on whose key is v at least, as long as the key is at most u: those whose key is between -/
theorem sg_all {kf : S3 → Int} {L A : List S3} (h : Ord kf L) (hl : L.length ≤ 8192) (v u : Int) : (sg L A (firstP (L.map kf) v).1 L.length).takeWhile (fun s => decide (kf s ≤ u)) = (L.filter (fun s => decide (s ∈ A))).filter (fun s => decide (v ≤ kf s) && decide (kf s ≤ u)) := by
  obtain ⟨a1, -, a3⟩ := fst_parts h hl v
  have e0 : L.filter (fun s => decide (s ∈ A)) = (L.take (firstP (L.map kf) v).1).filter (fun s => decide (s ∈ A)) ++ sg L A (firstP (L.map kf) v).1 L.length := by
    unfold sg
    rw [← List.filter_append, List.take_of_length_le (l := L.drop _) (by rw [List.length_drop]; omega), List.take_append_drop]
  have e1 : ((L.take (firstP (L.map kf) v).1).filter (fun s => decide (s ∈ A))).filter (fun s => decide (v ≤ kf s) && decide (kf s ≤ u)) = [] := by
    rw [List.filter_eq_nil_iff]
    intro s hs
    obtain ⟨i, hi⟩ := List.mem_iff_getElem?.1 (List.mem_filter.1 hs).1
    rw [List.getElem?_take] at hi
    split at hi
    · have := (a3 _ _ hi).1 (by assumption)
      simp; omega
    · cases hi
  rw [e0, List.filter_append, e1, List.nil_append]
  have hsub : (sg L A (firstP (L.map kf) v).1 L.length).Sublist L := List.filter_sublist.trans ((List.take_sublist _ _).trans (List.drop_sublist _ _))
  rw [take_filter (fun s => decide (kf s ≤ u)) ((h.sub hsub).imp (fun {a b} hab hb => by simp at hb ⊢; omega))]
  refine List.filter_congr (fun s hs => ?_)
  have hm := List.mem_of_mem_take (List.mem_filter.1 hs).1
  obtain ⟨i, hi⟩ := List.mem_iff_getElem?.1 hm
  rw [List.getElem?_drop] at hi
  have : ¬ kf s < v := fun c => by have := (a3 _ _ hi).2 c; omega
  rw [decide_eq_true (show v ≤ kf s by omega), Bool.true_and]
/-- those between both places: those whose key is between -/
theorem sg_part {kf : S3 → Int} {L A : List S3} (h : Ord kf L) (hl : L.length ≤ 8192) {v u : Int} (hvu : v ≤ u) : sg L A (firstP (L.map kf) v).1 (aboveP (L.map kf) u).1 = (L.filter (fun s => decide (s ∈ A))).filter (fun s => decide (v ≤ kf s) && decide (kf s ≤ u)) := by
  obtain ⟨a1, -, a3⟩ := fst_parts h hl v
  obtain ⟨b1, -, b3⟩ := abv_parts h hl u
  have hle := fst_abv h hl hvu
  generalize (firstP (L.map kf) v).1 = p at *
  generalize (aboveP (L.map kf) u).1 = q at *
  have e0 : L = L.take p ++ ((L.drop p).take (q - p) ++ (L.drop p).drop (q - p)) := by rw [List.take_append_drop, List.take_append_drop]
  unfold sg
  rw [List.filter_filter]
  conv => rhs; rw [e0]
  rw [List.filter_append, List.filter_append]
  have h1 : (L.take p).filter (fun s => (decide (v ≤ kf s) && decide (kf s ≤ u)) && decide (s ∈ A)) = [] := by
    rw [List.filter_eq_nil_iff]
    intro s hs
    obtain ⟨i, hi⟩ := List.mem_iff_getElem?.1 hs
    rw [List.getElem?_take] at hi
    split at hi
    · have := (a3 _ _ hi).1 (by assumption)
      simp; omega
    · cases hi
  have h3 : ((L.drop p).drop (q - p)).filter (fun s => (decide (v ≤ kf s) && decide (kf s ≤ u)) && decide (s ∈ A)) = [] := by
    rw [List.filter_eq_nil_iff]
    intro s hs
    obtain ⟨i, hi⟩ := List.mem_iff_getElem?.1 hs
    rw [List.getElem?_drop, List.getElem?_drop] at hi
    have : ¬ kf s ≤ u := fun c => by have := (b3 _ _ hi).2 c; omega
    simp; omega
  rw [h1, h3, List.nil_append, List.append_nil]
  refine List.filter_congr (fun s hs => ?_)
  obtain ⟨i, hi⟩ := List.mem_iff_getElem?.1 hs
  rw [List.getElem?_take] at hi
  split at hi
  · rw [List.getElem?_drop] at hi
    have g1 : ¬ kf s < v := fun c => by have := (a3 _ _ hi).2 c; omega
    have g2 := (b3 _ _ hi).1 (by omega)
    rw [decide_eq_true (show v ≤ kf s by omega), decide_eq_true g2, Bool.true_and, Bool.true_and]
  · cases hi
end Go.Proofs.YtfcpfffgodljeaaGreat.Bd
