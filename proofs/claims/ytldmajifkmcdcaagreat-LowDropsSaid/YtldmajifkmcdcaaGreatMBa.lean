/-
  Points in order by one coordinate and their names, plain: where one is found, which ones a range has. No condition but those typed at each theorem.
-/
import Derived.Test.YtldmajifkmcdcaaGreatP3
import Derived.Test.YtldmajifkmcdcaaGreatAf
import Derived.Test.YtldmajifkmcdcaaGreatMU
import Derived.Deep.RegionHeld3
namespace Go.Proofs.YtldmajifkmcdcaaGreat.Bd
open Go.RowKit
def kx (s : S3) : Int := s.1
def ky (s : S3) : Int := s.2.1
def ids (T : List S3) : List Int := T.map (·.2.2)
theorem ids_len (T : List S3) : (ids T).length = T.length := by simp [ids]
theorem ids_snoc (T : List S3) (s : S3) : ids (T ++ [s]) = ids T ++ [s.2.2] := by simp [ids]
/-- in order by kf and by names, each once -/
def Ord (kf : S3 → Int) (L : List S3) : Prop := L.Pairwise (fun a b => kf a < kf b ∨ kf a = kf b ∧ a.2.2 < b.2.2)
theorem Ord.at {kf : S3 → Int} {L : List S3} (h : Ord kf L) {i j : Nat} {a b : S3} (hi : L[i]? = some a) (hj : L[j]? = some b) (hij : i < j) : kf a < kf b ∨ kf a = kf b ∧ a.2.2 < b.2.2 := by
  obtain ⟨h1, rfl⟩ := List.getElem?_eq_some_iff.1 hi
  obtain ⟨h2, rfl⟩ := List.getElem?_eq_some_iff.1 hj
  exact List.pairwise_iff_getElem.1 h i j h1 h2 hij
theorem Ord.le {kf : S3 → Int} {L : List S3} (h : Ord kf L) {i j : Nat} {a b : S3} (hi : L[i]? = some a) (hj : L[j]? = some b) (hij : i ≤ j) : kf a ≤ kf b := by
  rcases Nat.eq_or_lt_of_le hij with e | e
  · subst e; rw [hi] at hj; injection hj with hj; subst hj; exact Int.le_refl _
  · have := h.at hi hj e; omega
theorem Ord.nodup {kf : S3 → Int} {L : List S3} (h : Ord kf L) : L.Nodup := List.Pairwise.imp (fun {a b} hab e => by subst e; omega) h
theorem Ord.sub {kf : S3 → Int} {L M : List S3} (h : Ord kf L) (hs : M.Sublist L) : Ord kf M := h.sublist hs
theorem getD_map {kf : S3 → Int} {L : List S3} {i : Nat} {a : S3} (h : L[i]? = some a) : (L.map kf).getD i 0 = kf a := by
  rw [List.getD_eq_getElem?_getD, List.getElem?_map, h]; rfl
theorem fst_parts {kf : S3 → Int} {L : List S3} (h : Ord kf L) (hl : L.length ≤ 8192) (v : Int) : (firstP (L.map kf) v).1 ≤ L.length ∧ (firstP (L.map kf) v).2 ≤ lgN (L.length + 1) ∧ (∀ i a, L[i]? = some a → (i < (firstP (L.map kf) v).1 ↔ kf a < v)) := by
  have hlen : (L.map kf).length = L.length := by simp
  have h1 := lk_looks (notLess (L.map kf) v) (n := (L.map kf).length) (by omega)
  have h2 := lk_parts (notLess (L.map kf) v) (L.map kf).length (fun i j hij hj hi => by
    rw [hlen] at hj
    have ei : L[i]? = some L[i] := List.getElem?_eq_getElem (by omega)
    have ej : L[j]? = some L[j] := List.getElem?_eq_getElem hj
    unfold notLess at hi ⊢
    rw [getD_map ei] at hi
    rw [getD_map ej]
    have := h.le ei ej hij
    simp at hi ⊢
    omega)
  refine ⟨Nat.le_trans h1.1 (Nat.le_of_eq hlen), Nat.le_trans h1.2.1 (Nat.le_of_eq (by rw [hlen])), fun i a ha => ?_⟩
  have hi : i < L.length := (List.getElem?_eq_some_iff.1 ha).1
  constructor
  · intro hlt
    have := h2.1 i hlt
    unfold notLess at this
    rw [getD_map ha] at this
    simpa using this
  · intro hlt
    rcases Nat.lt_or_ge i (firstP (L.map kf) v).1 with g | g
    · exact g
    · have := h2.2 i g (by omega)
      unfold notLess at this
      rw [getD_map ha] at this
      simp at this
      omega
theorem abv_parts {kf : S3 → Int} {L : List S3} (h : Ord kf L) (hl : L.length ≤ 8192) (v : Int) : (aboveP (L.map kf) v).1 ≤ L.length ∧ (aboveP (L.map kf) v).2 ≤ lgN (L.length + 1) ∧ (∀ i a, L[i]? = some a → (i < (aboveP (L.map kf) v).1 ↔ kf a ≤ v)) := by
  have hlen : (L.map kf).length = L.length := by simp
  have h1 := lk_looks (isMore (L.map kf) v) (n := (L.map kf).length) (by omega)
  have h2 := lk_parts (isMore (L.map kf) v) (L.map kf).length (fun i j hij hj hi => by
    rw [hlen] at hj
    have ei : L[i]? = some L[i] := List.getElem?_eq_getElem (by omega)
    have ej : L[j]? = some L[j] := List.getElem?_eq_getElem hj
    unfold isMore at hi ⊢
    rw [getD_map ei] at hi
    rw [getD_map ej]
    have := h.le ei ej hij
    simp at hi ⊢
    omega)
  refine ⟨Nat.le_trans h1.1 (Nat.le_of_eq hlen), Nat.le_trans h1.2.1 (Nat.le_of_eq (by rw [hlen])), fun i a ha => ?_⟩
  have hi : i < L.length := (List.getElem?_eq_some_iff.1 ha).1
  constructor
  · intro hlt
    have := h2.1 i hlt
    unfold isMore at this
    rw [getD_map ha] at this
    simpa using this
  · intro hlt
    rcases Nat.lt_or_ge i (aboveP (L.map kf) v).1 with g | g
    · exact g
    · have := h2.2 i g (by omega)
      unfold isMore at this
      rw [getD_map ha] at this
      simp at this
      omega
theorem fst_abv {kf : S3 → Int} {L : List S3} (h : Ord kf L) (hl : L.length ≤ 8192) {u v : Int} (huv : u ≤ v) : (firstP (L.map kf) u).1 ≤ (aboveP (L.map kf) v).1 := by
  obtain ⟨a1, -, a3⟩ := fst_parts h hl u
  obtain ⟨b1, -, b3⟩ := abv_parts h hl v
  rcases Nat.lt_or_ge (aboveP (L.map kf) v).1 (firstP (L.map kf) u).1 with g | g
  · have e : L[(aboveP (L.map kf) v).1]? = some L[(aboveP (L.map kf) v).1] := List.getElem?_eq_getElem (by omega)
    have h1 := (a3 _ _ e).1 g
    have h2 := (b3 _ _ e).2 (by omega)
    omega
  · exact g
/-- the names of what stands in a part -/
def nms (L : List S3) (i k : Nat) : List Int := ((L.map (·.2.2)).drop i).take (k - i)
theorem nms_get {L : List S3} {i k j : Nat} {x : Int} (h : (nms L i k)[j]? = some x) : j < k - i ∧ ∃ a, L[i + j]? = some a ∧ a.2.2 = x := by
  unfold nms at h
  rw [List.getElem?_take] at h
  split at h
  · rename_i g
    rw [List.getElem?_drop, List.getElem?_map] at h
    cases e : L[i + j]? with
    | none => rw [e] at h; cases h
    | some a => rw [e] at h; injection h with h; exact ⟨g, a, rfl, h⟩
  · cases h
theorem nms_at {L : List S3} {i k j : Nat} {a : S3} (h : L[i + j]? = some a) (hj : j < k - i) : (nms L i k)[j]? = some a.2.2 := by
  unfold nms
  rw [List.getElem?_take, if_pos hj, List.getElem?_drop, List.getElem?_map, h]; rfl
theorem nms_len {L : List S3} {i k : Nat} (hk : k ≤ L.length) : (nms L i k).length = k - i := by
  unfold nms; rw [List.length_take, List.length_drop, List.length_map]; omega
/-- what find tells: place and whether it is there -/
def fnd (kf : S3 → Int) (L : List S3) (v x : Int) : Nat × Bool :=
  ((firstP (L.map kf) v).1 + (firstP (nms L (firstP (L.map kf) v).1 (aboveP (L.map kf) v).1) x).1,
   decide ((firstP (nms L (firstP (L.map kf) v).1 (aboveP (L.map kf) v).1) x).1 < (nms L (firstP (L.map kf) v).1 (aboveP (L.map kf) v).1).length) && decide ((nms L (firstP (L.map kf) v).1 (aboveP (L.map kf) v).1).getD (firstP (nms L (firstP (L.map kf) v).1 (aboveP (L.map kf) v).1) x).1 0 = x))
theorem firstP_list {xs : List Int} (h : xs.Pairwise (· < ·)) (hl : xs.length ≤ 8192) (x : Int) : (firstP xs x).1 ≤ xs.length ∧ ∀ i y, xs[i]? = some y → (i < (firstP xs x).1 ↔ y < x) := by
  have h1 := lk_looks (notLess xs x) (n := xs.length) (by omega)
  have hD : ∀ i y, xs[i]? = some y → xs.getD i 0 = y := fun i y e => by rw [List.getD_eq_getElem?_getD, e]; rfl
  have h2 := lk_parts (notLess xs x) xs.length (fun i j hij hj hi => by
    have ei : xs[i]? = some xs[i] := List.getElem?_eq_getElem (by omega)
    have ej : xs[j]? = some xs[j] := List.getElem?_eq_getElem hj
    unfold notLess at hi ⊢
    rw [hD _ _ ei] at hi
    rw [hD _ _ ej]
    have : xs[i] ≤ xs[j] := by
      rcases Nat.eq_or_lt_of_le hij with e | e
      · subst e; exact Int.le_refl _
      · exact Int.le_of_lt (List.pairwise_iff_getElem.1 h i j (by omega) hj e)
    simp at hi ⊢
    omega)
  refine ⟨h1.1, fun i y hy => ?_⟩
  have hi : i < xs.length := (List.getElem?_eq_some_iff.1 hy).1
  constructor
  · intro hlt
    have := h2.1 i hlt
    unfold notLess at this
    rw [hD _ _ hy] at this
    simpa using this
  · intro hlt
    rcases Nat.lt_or_ge i (firstP xs x).1 with g | g
    · exact g
    · have := h2.2 i g hi
      unfold notLess at this
      rw [hD _ _ hy] at this
      simp at this
      omega
theorem nms_rise {kf : S3 → Int} {L : List S3} (h : Ord kf L) (hl : L.length ≤ 8192) (v : Int) : (nms L (firstP (L.map kf) v).1 (aboveP (L.map kf) v).1).Pairwise (· < ·) := by
  obtain ⟨a1, -, a3⟩ := fst_parts h hl v
  obtain ⟨b1, -, b3⟩ := abv_parts h hl v
  refine List.pairwise_iff_getElem.2 (fun i j hi hj hij => ?_)
  obtain ⟨g1, a, ha, ea⟩ := nms_get (List.getElem?_eq_getElem hi)
  obtain ⟨g2, b, hb, eb⟩ := nms_get (List.getElem?_eq_getElem hj)
  rw [← ea, ← eb]
  have h1 := h.at ha hb (by omega)
  have h2 := (b3 _ _ hb).1 (by omega)
  have h3 := a3 _ _ ha
  have h4 : ¬ kf a < v := fun c => by have := h3.2 c; omega
  omega
theorem fnd_yes {kf : S3 → Int} {L : List S3} (h : Ord kf L) (hl : L.length ≤ 8192) {v x : Int} {s : S3} {i : Nat} (hs : L[i]? = some s) (h1 : kf s = v) (h2 : s.2.2 = x) : fnd kf L v x = (i, true) := by
  obtain ⟨a1, -, a3⟩ := fst_parts h hl v
  obtain ⟨b1, -, b3⟩ := abv_parts h hl v
  have hr := nms_rise h hl v
  have hle := fst_abv h hl (Int.le_refl v)
  have hi1 : (firstP (L.map kf) v).1 ≤ i := by
    rcases Nat.lt_or_ge i (firstP (L.map kf) v).1 with g | g
    · have := (a3 _ _ hs).1 g; omega
    · exact g
  have hi2 : i < (aboveP (L.map kf) v).1 := (b3 _ _ hs).2 (by omega)
  have hn := nms_len (L := L) (i := (firstP (L.map kf) v).1) b1
  unfold fnd
  generalize (firstP (L.map kf) v).1 = p at *
  generalize (aboveP (L.map kf) v).1 = q at *
  have e : (nms L p q)[i - p]? = some x := by
    have := nms_at (L := L) (i := p) (k := q) (j := i - p) (a := s) (by rw [show p + (i - p) = i by omega]; exact hs) (by omega)
    rw [this, h2]
  obtain ⟨c1, c2⟩ := firstP_list hr (by omega) x
  have c3 : (firstP (nms L p q) x).1 = i - p := by
    have d1 := c2 _ _ e
    rcases Nat.lt_trichotomy (firstP (nms L p q) x).1 (i - p) with g | g | g
    · have e2 : (nms L p q)[(firstP (nms L p q) x).1]? = some (nms L p q)[(firstP (nms L p q) x).1] := List.getElem?_eq_getElem (by omega)
      have d2 := List.pairwise_iff_getElem.1 hr (firstP (nms L p q) x).1 (i - p) (by omega) (by omega) g
      rw [(List.getElem?_eq_some_iff.1 e).2] at d2
      have := (c2 _ _ e2).2 d2
      omega
    · exact g
    · have := d1.1 g; omega
  rw [c3]
  have c4 : (nms L p q).getD (i - p) 0 = x := by rw [List.getD_eq_getElem?_getD, e]; rfl
  rw [c4]
  have c5 : i - p < (nms L p q).length := by omega
  simp [c5]
  omega
theorem fnd_true {kf : S3 → Int} {L : List S3} (h : Ord kf L) (hl : L.length ≤ 8192) {v x : Int} (hf : (fnd kf L v x).2 = true) : ∃ s, L[(fnd kf L v x).1]? = some s ∧ kf s = v ∧ s.2.2 = x := by
  obtain ⟨a1, -, a3⟩ := fst_parts h hl v
  obtain ⟨b1, -, b3⟩ := abv_parts h hl v
  unfold fnd at hf ⊢
  simp only [Bool.and_eq_true, decide_eq_true_eq] at hf ⊢
  obtain ⟨h1, h2⟩ := hf
  generalize (firstP (nms L (firstP (L.map kf) v).1 (aboveP (L.map kf) v).1) x).1 = r at *
  have e : (nms L (firstP (L.map kf) v).1 (aboveP (L.map kf) v).1)[r]? = some (nms L (firstP (L.map kf) v).1 (aboveP (L.map kf) v).1)[r] := List.getElem?_eq_getElem h1
  rw [List.getD_eq_getElem?_getD, e] at h2
  obtain ⟨g1, s, hs, es⟩ := nms_get e
  refine ⟨s, hs, ?_, es.trans h2⟩
  have d1 := (b3 _ _ hs).1 (by omega)
  have d2 : ¬ kf s < v := fun c => by have := (a3 _ _ hs).2 c; omega
  omega
/-- those between both places: those whose key is between -/
theorem sg_part {kf : S3 → Int} {L A : List S3} (h : Ord kf L) (hl : L.length ≤ 8192) {v u : Int} (hvu : v ≤ u) : sg L A (firstP (L.map kf) v).1 (aboveP (L.map kf) u).1 = (L.filter (fun s => decide (s ∈ A))).filter (fun s => decide (v ≤ kf s) && decide (kf s ≤ u)) := by
  obtain ⟨a1, -, a3⟩ := fst_parts h hl v
  obtain ⟨b1, -, b3⟩ := abv_parts h hl u
  have hle := fst_abv h hl hvu
  generalize (firstP (L.map kf) v).1 = p at *
  generalize (aboveP (L.map kf) u).1 = q at *
  have e0 : L = L.take p ++ ((L.drop p).take (q - p) ++ (L.drop p).drop (q - p)) := by rw [List.take_append_drop, List.take_append_drop]
  unfold sg
  rw [List.filter_filter]
  conv => rhs; rw [e0]
  rw [List.filter_append, List.filter_append]
  have h1 : (L.take p).filter (fun s => (decide (v ≤ kf s) && decide (kf s ≤ u)) && decide (s ∈ A)) = [] := by
    rw [List.filter_eq_nil_iff]
    intro s hs
    obtain ⟨i, hi⟩ := List.mem_iff_getElem?.1 hs
    rw [List.getElem?_take] at hi
    split at hi
    · have := (a3 _ _ hi).1 (by assumption)
      simp; omega
    · cases hi
  have h3 : ((L.drop p).drop (q - p)).filter (fun s => (decide (v ≤ kf s) && decide (kf s ≤ u)) && decide (s ∈ A)) = [] := by
    rw [List.filter_eq_nil_iff]
    intro s hs
    obtain ⟨i, hi⟩ := List.mem_iff_getElem?.1 hs
    rw [List.getElem?_drop, List.getElem?_drop] at hi
    have : ¬ kf s ≤ u := fun c => by have := (b3 _ _ hi).2 c; omega
    simp; omega
  rw [h1, h3, List.nil_append, List.append_nil]
  refine List.filter_congr (fun s hs => ?_)
  obtain ⟨i, hi⟩ := List.mem_iff_getElem?.1 hs
  rw [List.getElem?_take] at hi
  split at hi
  · rw [List.getElem?_drop] at hi
    have g1 : ¬ kf s < v := fun c => by have := (a3 _ _ hi).2 c; omega
    have g2 := (b3 _ _ hi).1 (by omega)
    rw [decide_eq_true (show v ≤ kf s by omega), decide_eq_true g2, Bool.true_and, Bool.true_and]
  · cases hi
end Go.Proofs.YtldmajifkmcdcaaGreat.Bd
/-
  Points by one coordinate in memory: a point put behind the others, a point found. No condition but those typed at each theorem.
-/
namespace Go.Proofs.YtldmajifkmcdcaaGreat.Bd
open Go.RowKit Go.Sort
theorem info_u : (Tryz.prog.info? 32).map (fun i => (i.zero, i.size, i.bytes)) = some (some (.int .u32 0), 1, 4) := by kernel_rfl
theorem info_i : (Tryz.prog.info? 2).map (fun i => (i.zero, i.size, i.bytes)) = some (some (.int .i64 0), 1, 8) := by kernel_rfl
theorem under_u : Tryz.prog.underlying 54 = some (.slice 32) := by kernel_rfl
theorem under_i : Tryz.prog.underlying 62 = some (.slice 2) := by kernel_rfl
theorem row_offS {w X : World} {base n : Nat} {e : TypeId} {size : Nat} {v : Value} {xs : List Value} {S : List Nat} (h : w.ownsRow base e size v n xs) (g : Off S w X) (hS : ∀ k, v.ownBlock = some k → k ∉ S) : X.ownsRow base e size v n xs :=
  row_at h (fun k hk => ⟨g.block k (row_lt h hk).2 (hS k hk), (row_lt h hk).1⟩)
/-- keys and names of points, in rows of their own -/
structure OrR (w : World) (kf : S3 → Int) (L : List S3) (va vn : Value) : Prop where
  ra : w.ownsRow 0 2 1 va L.length ((L.map kf).map (Value.int .i64))
  rn : w.ownsRow 0 32 1 vn L.length ((L.map (·.2.2)).map (Value.int .u32))
theorem OrR.off {w X : World} {kf : S3 → Int} {L : List S3} {va vn : Value} {S : List Nat} (h : OrR w kf L va vn) (g : Off S w X) (h1 : ∀ k, va.ownBlock = some k → k ∉ S) (h2 : ∀ k, vn.ownBlock = some k → k ∉ S) : OrR X kf L va vn :=
  ⟨row_offS h.ra g h1, row_offS h.rn g h2⟩
theorem OrR.keep {w X : World} {kf : S3 → Int} {L : List S3} {va vn : Value} (h : OrR w kf L va vn) (g : Below w.heap.size w X) : OrR X kf L va vn :=
  h.off (Off.of (S := []) g (Nat.le_refl _)) (by simp) (by simp)
theorem OrR.apart {w : World} {kf : S3 → Int} {L : List S3} {va vn : Value} (h : OrR w kf L va vn) : ∀ k, va.ownBlock = some k → vn.ownBlock ≠ some k := by
  intro k h1 h2
  obtain ⟨c1, e1⟩ := row_type h.ra h1
  obtain ⟨c2, e2⟩ := row_type h.rn h2
  exact types_ne e1 e2 (by decide) rfl
theorem OrR.ks {w : World} {kf : S3 → Int} {L : List S3} {va vn : Value} (h : OrR w kf L va vn) : ∃ p c, va = .slice p L.length c ∧ NS w p .i64 (L.map kf) ∧ L.length ≤ c := by
  obtain ⟨-, p, c, e, h1, -, h3⟩ := row_u h.ra
  exact ⟨p, c, e, h1, h3⟩
theorem OrR.ns {w : World} {kf : S3 → Int} {L : List S3} {va vn : Value} (h : OrR w kf L va vn) : ∃ p c, vn = .slice p L.length c ∧ NS w p .u32 (L.map (·.2.2)) ∧ L.length ≤ c := by
  obtain ⟨-, p, c, e, h1, -, h3⟩ := row_u h.rn
  exact ⟨p, c, e, h1, h3⟩
theorem OrR.nil (w : World) (kf : S3 → Int) : OrR w kf [] (.slice none 0 0) (.slice none 0 0) := ⟨World.ownsRow_nil .., World.ownsRow_nil ..⟩
/-- where a new slice lies -/
def Whr (w : World) (v v' : Value) : Prop := ∀ k, v'.ownBlock = some k → v.ownBlock = some k ∨ w.heap.size ≤ k
section
variable {w : World} {b o : Nat} {t : TypeId} {VL : List Value} {kf : S3 → Int} {L : List S3} {va vn : Value}
set_option maxRecDepth 100000 in
set_option maxHeartbeats 1600000 in
theorem oadd_any (hE : EV t w b VL) (h0 : VL[o]? = some va) (h1 : VL[o + 1]? = some vn) (hr : OrR w kf L va vn) (n1 : va.ownBlock ≠ some b) (n2 : vn.ownBlock ≠ some b) (hl : L.length ≤ 8192) (s : S3) :
    Calls Tryz.prog 50 #[.pointer (some ⟨b, o, none⟩), .int .i64 (kf s), .int .u32 s.2.2] w fun e w' => e = .returned (.tuple #[]) ∧ ∃ va' vn', OrR w' kf (L ++ [s]) va' vn' ∧ EV t w' b ((VL.set o va').set (o + 1) vn') ∧ Off (b :: (va.ownBlock.toList ++ vn.ownBlock.toList)) w w' ∧ Whr w va va' ∧ Whr w vn vn' := by
  have HE := Lib.hid hE
  have HR := Lib.hid hr
  have HL := Lib.hid hl
  have HN := Lib.hid (show va.ownBlock ≠ some b ∧ vn.ownBlock ≠ some b from ⟨n1, n2⟩)
  have H01 := Lib.hid (show VL[o]? = some va ∧ VL[o + 1]? = some vn from ⟨h0, h1⟩)
  have c0 := hE.cell h0
  have hlt := hE.lt
  have HSZ := Lib.hid hlt
  obtain ⟨x, y, i⟩ := s
  obtain ⟨kv, hkv⟩ : ∃ kv, kv = kf (x, y, i) := ⟨_, rfl⟩
  have HK := Lib.hid hkv
  rw [← hkv]
  clear hkv hE h0 h1 hr n1 n2 hl
  go_enter Tryz.func50, Tryz.ntmps50
  have d0 : (w.alloc (.cells #[.int .i64 kv] 2)).cell? ⟨b, o, none⟩ = some va := cell_al _ c0
  have d1 : Hid (EV t (w.alloc (.cells #[.int .i64 kv] 2)) b VL) := Lib.hid (HE.out.all _)
  have sz : ∀ (X : World) (p : Addr) (v : Value), (X.setCell p v).heap.size = X.heap.size := fun X p v => by simp
  go_wp2_with (first
    | (at_builtin; refine wpList_more info_i rfl (by decide) (by decide) under_i _ rfl (.tmp 10) (.tmp 12) rfl va L.length _ (by simp [Act.eval]) (HR.out.ra.alloc _) ⟨w.heap.size, 0, none⟩ 1 1 [.int .i64 kv] (by simp [Act.eval]) rfl (one_at w (.int .i64 kv) 2) (by simp [Value.oneCell']) (by have := HL.out; omega) (by decide) ?_; intro g cap w1 r1 r2 r3; have R3 := Lib.hid r3; have hE1 := EV.grown d1.out r2 (fun e => HN.out.1 e.symm); have y1 := hE1.cell H01.out.1; have y2 := hE1.free o; have y3 := hE1.cell H01.out.2; have HO1 : Hid (Off va.ownBlock.toList w w1) := Lib.hid (((Off.refl _ w).all _).grow r2 (fun k e => .inl (by simp [e]))); have HGB : Hid (g ≠ b) := Lib.hid (r3.elim (fun r e => HN.out.1 (e ▸ r)) (fun r => by have := HSZ.out; simp at r; omega)); have HGN : Hid (∀ k, vn.ownBlock = some k → k ≠ g) := Lib.hid (fun k hk e => r3.elim (fun r => HR.out.apart g r (e ▸ hk)) (fun r => by have := (row_lt HR.out.rn hk).2; simp at r; omega)); have HE2 := Lib.hid (hE1.set o (.slice (some ⟨g, 0, none⟩) (L.length + 1) cap)); have HA2 := Lib.hid (row_offS r1 ((Off.refl [b] w1).set ⟨b, o, none⟩ (.slice (some ⟨g, 0, none⟩) (L.length + 1) cap) (.inl (by simp))) (by intro k hk; simp [Value.ownBlock] at hk; subst hk; simpa using HGB.out)); have HN2 := Lib.hid (row_offS (row_offS HR.out.rn HO1.out (by intro k hk; simp; exact fun e => HR.out.apart k e hk)) ((Off.refl [b] w1).set ⟨b, o, none⟩ (.slice (some ⟨g, 0, none⟩) (L.length + 1) cap) (.inl (by simp))) (by intro k hk; simp; exact fun e => HN.out.2 (e ▸ hk))); have HO2 : Hid (Off (b :: va.ownBlock.toList) w (w1.setCell ⟨b, o, none⟩ (.slice (some ⟨g, 0, none⟩) (L.length + 1) cap))) := Lib.hid ((HO1.out.mono (T := b :: va.ownBlock.toList) (fun k _ hk => List.mem_cons_of_mem _ hk)).set _ _ (.inl (by simp))); clear r1 r2 r3 hE1)
    | (at_builtin; refine wpList_more info_u rfl (by decide) (by decide) under_u _ rfl (.tmp 20) (.tmp 22) rfl vn L.length _ (by simp [Act.eval]) (HN2.out.alloc _) ⟨w1.heap.size, 0, none⟩ 1 1 [.int .u32 i] (by simp [Act.eval]) rfl (by have := one_at (w1.setCell ⟨b, o, none⟩ (.slice (some ⟨g, 0, none⟩) (L.length + 1) cap)) (.int .u32 i) 32; rw [sz] at this; exact this) (by simp [Value.oneCell']) (by have := HL.out; omega) (by decide) ?_; intro g2 cap2 w2 q1 q2 q3; have hE3 := EV.grown (HE2.out.all (.cells #[.int .u32 i] 32)) q2 (fun e => HN.out.2 e.symm); have y4 := hE3.cell (i := o + 1) (by rw [List.getElem?_set_ne (by omega)]; exact H01.out.2); have y5 := hE3.free (o + 1); have HE3 := Lib.hid hE3; have Q1 := Lib.hid q1; have Q2 := Lib.hid q2; have Q3 := Lib.hid q3; clear q1 q2 q3 hE3)
    | (at_builtin; fail))
  go_end0
  have hO3 : Off vn.ownBlock.toList (w1.setCell ⟨b, o, none⟩ (.slice (some ⟨g, 0, none⟩) (L.length + 1) cap)) w2 := ((Off.refl _ _).all _).grow Q2.out (fun k e => .inl (by simp [e]))
  have hg2 : g2 ≠ b := Q3.out.elim (fun r e => HN.out.2 (e ▸ r)) (fun r => by have := HSZ.out; have := HO1.out.size; simp at r; omega)
  have hset := (Off.refl [b] w2).set ⟨b, o + 1, none⟩ (.slice (some ⟨g2, 0, none⟩) (L.length + 1) cap2) (.inl (by simp))
  refine ⟨rfl, _, _, ⟨?_, ?_⟩, HE3.out.set (o + 1) _, ?_, ?_, ?_⟩
  · have h1 := row_offS (row_offS HA2.out hO3 (by intro k hk; simp [Value.ownBlock] at hk; subst hk; simp; exact fun e => HGN.out _ e rfl)) hset (by intro k hk; simp [Value.ownBlock] at hk; subst hk; simpa using HGB.out)
    rw [List.length_append, List.map_append, List.map_append]
    simpa [← HK.out] using h1
  · have h1 := row_offS Q1.out hset (by intro k hk; simp [Value.ownBlock] at hk; subst hk; simpa using hg2)
    rw [List.length_append, List.map_append, List.map_append]
    simpa using h1
  · have h1 := (HO2.out.mono (T := b :: (va.ownBlock.toList ++ vn.ownBlock.toList)) (fun k _ hk => by simp only [List.mem_cons, List.mem_append] at hk ⊢; exact hk.elim .inl (fun h => .inr (.inl h)))).via hO3 (fun k _ hk => by simp only [List.mem_cons, List.mem_append]; exact .inr (.inr hk))
    exact h1.set _ _ (.inl (by simp))
  · intro k hk
    simp [Value.ownBlock] at hk
    subst hk
    exact R3.out.elim .inl (fun r => .inr (by simp at r; omega))
  · intro k hk
    simp [Value.ownBlock] at hk
    subst hk
    exact Q3.out.elim .inl (fun r => .inr (by have := HO1.out.size; simp at r; omega))
end
/-! ### a point found -/
theorem nanS_any (x : Int) (w : World) : Calls Tryz.prog 86 #[.int .u32 x] w fun e w' => e = .returned (.bool false) ∧ w' = w := by
  go_enter Tryz.func86, Tryz.ntmps86
  go_wp2
  go_ret
  exact ⟨by simp, rfl⟩
/-- whether a name is at that place of names that rise -/
def isAt (xs : List Int) (x : Int) (i : Nat) : Bool := decide (i < xs.length) && decide (xs.getD i 0 = x)
set_option maxRecDepth 100000 in
set_option maxHeartbeats 1600000 in
theorem bsu_any (w : World) (p : Option Addr) (n cap : Nat) (xs : List Int) (x : Int) (hx : NS w p .u32 xs) (hn : n = xs.length) (hl : n ≤ 8192) :
    Calls Tryz.prog 54 #[.slice p n cap, .int .u32 x] w fun e w' => e = .returned (.tuple #[.int .i64 (firstP xs x).1, .bool (isAt xs x (firstP xs x).1)]) ∧ w' = w := by
  have HX := Lib.hid hx
  have HN := Lib.hid hn
  obtain ⟨r0, hr0⟩ : ∃ r0, r0 = (firstP xs x).1 := ⟨_, rfl⟩
  have HK0 : Hid (∃ k, (lkGo (notLess xs x) 0 n k).1 = r0) := Lib.hid ⟨0, by rw [hr0, hn]; rfl⟩
  rw [← hr0]
  clear hx hn hr0
  have HL := Lib.hid (fun a (w : World) => U32.less_any a x w)
  have HNN := Lib.hid (fun a (w : World) => nanS_any a w)
  go_enter Tryz.func54, Tryz.ntmps54
  go_wp2
  go_loopw [7, 8] (fun iv jv wr => ∃ i j : Nat, iv = .int .i64 i ∧ jv = .int .i64 j ∧ i ≤ j ∧ j ≤ n ∧ Hid (∃ k, (lkGo (notLess xs x) i j k).1 = r0) ∧ wr = w) (fun iv jv _ => (intOf jv).toNat - (intOf iv).toNat)
  case atStart => exact ⟨0, n, rfl, rfl, Nat.zero_le _, Nat.le_refl _, HK0, rfl⟩
  case round =>
    obtain ⟨i, j, rfl, rfl, hij, hjn, HK, rfl⟩ := hrel
    by_cases hlt : i < j
    · have hltz : (i : Int) < j := by omega
      obtain ⟨h, hh⟩ : ∃ h : Nat, h = (i + j) / 2 := ⟨_, rfl⟩
      have e1 : ((i : Int) + j) / 2 = (h : Int) := by omega
      have hih : i ≤ h ∧ h < j := by omega
      have hhn : h < n := by omega
      obtain ⟨y, hy⟩ : ∃ y, xs[h]? = some y := ⟨_, List.getElem?_eq_getElem (by have := HN.out; omega)⟩
      have hyD : xs.getD h 0 = y := by rw [List.getD_eq_getElem?_getD, hy]; rfl
      obtain ⟨bb, off, rfl, hc⟩ : ∃ bb off, p = some ⟨bb, off, none⟩ ∧ wr.cell? ⟨bb, off + h, none⟩ = some (.int .u32 y) := by
        rcases HX.out with h0 | ⟨bb, off, e, h0⟩
        · subst h0; simp at hy
        · exact ⟨bb, off, e, h0 h y hy⟩
      have HH := Lib.hid (show i + (j - i) / 2 = h by omega)
      have HY := Lib.hid hyD
      clear hh hy hyD
      by_cases hyx : y < x
      · have hLy : ltInt y x = true := by simp [ltInt, hyx]
        have HLY := Lib.hid (fun w => by have := HL.out y w; rw [hLy] at this; exact this)
        clear hLy
        go_wp2_with (go_at_call 85; (with_reducible refine (HLY.out _).mono ?_); rintro e w1 ⟨rfl, rfl⟩)
        go_roundw
        case rel => exact ⟨h + 1, j, by go_num, rfl, by omega, hjn, Lib.hid (by obtain ⟨k, hk⟩ := HK.out; rw [lkGo_no _ _ hlt (by rw [HH.out, notLess, HY.out]; simpa using hyx), HH.out] at hk; exact ⟨_, hk⟩), by trivial⟩
        case measure => simp [intOf]; omega
      · have hLy : ltInt y x = false := by simp [ltInt]; omega
        have HLY := Lib.hid (fun w => by have := HL.out y w; rw [hLy] at this; exact this)
        clear hLy
        go_wp2_with (go_at_call 85; (with_reducible refine (HLY.out _).mono ?_); rintro e w1 ⟨rfl, rfl⟩)
        go_roundw
        case rel => exact ⟨i, h, rfl, by go_num, by omega, by omega, Lib.hid (by obtain ⟨k, hk⟩ := HK.out; rw [lkGo_yes _ _ hlt (by rw [HH.out, notLess, HY.out]; simp; omega), HH.out] at hk; exact ⟨_, hk⟩), by trivial⟩
        case measure => simp [intOf]; omega
    · have hltz : ¬ (i : Int) < j := by omega
      obtain rfl : i = j := by omega
      obtain rfl : i = r0 := by obtain ⟨k, hk⟩ := HK.out; rw [lkGo_end _ _ hlt] at hk; exact hk
      by_cases hin : i < n
      · have hinz : (i : Int) < n := by omega
        obtain ⟨y, hy⟩ : ∃ y, xs[i]? = some y := ⟨_, List.getElem?_eq_getElem (by have := HN.out; omega)⟩
        have hyD : xs.getD i 0 = y := by rw [List.getD_eq_getElem?_getD, hy]; rfl
        obtain ⟨bb, off, rfl, hc⟩ : ∃ bb off, p = some ⟨bb, off, none⟩ ∧ wr.cell? ⟨bb, off + i, none⟩ = some (.int .u32 y) := by
          rcases HX.out with h0 | ⟨bb, off, e, h0⟩
          · subst h0; simp at hy
          · exact ⟨bb, off, e, h0 i y hy⟩
        have HA : Hid (isAt xs x i = decide (y = x)) := Lib.hid (by unfold isAt; rw [hyD, decide_eq_true (by rw [← HN.out]; exact hin), Bool.true_and])
        clear hy hyD
        by_cases hyx : y = x
        · rw [decide_eq_true hyx] at HA
          have hbe : (y == x) = true := by simpa using hyx
          go_wp2_with (go_at_call 86; (with_reducible refine (HNN.out _ _).mono ?_); rintro e w1 ⟨rfl, rfl⟩)
          go_ret2
          rw [HA.out]
          exact ⟨rfl, rfl⟩
        · rw [decide_eq_false hyx] at HA
          have hbe : (y == x) = false := by simpa using hyx
          go_wp2_with (go_at_call 86; (with_reducible refine (HNN.out _ _).mono ?_); rintro e w1 ⟨rfl, rfl⟩)
          go_ret2
          rw [HA.out]
          exact ⟨rfl, rfl⟩
      · have hinz : ¬ (i : Int) < n := by omega
        have HA : Hid (isAt xs x i = false) := Lib.hid (by unfold isAt; rw [decide_eq_false (by rw [← HN.out]; exact hin), Bool.false_and])
        go_wp2
        go_ret2
        rw [HA.out]
        exact ⟨rfl, rfl⟩
end Go.Proofs.YtldmajifkmcdcaaGreat.Bd
/-
  A row of points in memory: from where on, and ahead of which place, points stand; a point found. No condition but those typed at each theorem.
-/
namespace Go.Proofs.YtldmajifkmcdcaaGreat.Bd
open Go.RowKit Go.Sort
/-- names cut out of a list -/
theorem sl_nms {w : World} {p : Option Addr} {xs : List Int} {c i k : Nat} (h : NS w p .u32 xs) (hik : i ≤ k) (hk : k ≤ xs.length) (hc : xs.length ≤ c) :
    ∃ q, (∀ w', NS w' p .u32 xs → NS w' q .u32 ((xs.drop i).take (k - i))) ∧ ∀ X, (Instr.slice 54 (.slice p xs.length c) (some (.int .i64 i)) (some (.int .i64 k)) none).run Tryz.prog X = .ok (.slice q (k - i) (c - i)) X := by
  obtain ⟨i0, hi, hz0, hz1, hz2⟩ := info_parts info_u
  by_cases h3 : c = i
  · have hL : (xs.drop i).take (k - i) = [] := by rw [show k - i = 0 by omega]; rfl
    refine ⟨p, fun w' _ => .inl hL, fun X => ?_⟩
    have e1 : k = i := by omega
    subst e1
    simp [Instr.slice, run_underlying under_u, Instr.sliceBounds, Instr.sliceBound, asIntOf, sizeOf, typeInfo, hi, h3]
  · rcases h with h0 | ⟨b, off, rfl, -⟩
    · subst h0
      have e1 : k = 0 := by simpa using hk
      have e2 : i = 0 := by omega
      subst e1; subst e2
      cases p with
      | none =>
        refine ⟨none, fun w' _ => .inl rfl, fun X => ?_⟩
        simp [Instr.slice, run_underlying under_u, Instr.sliceBounds, Instr.sliceBound, asIntOf, sizeOf, typeInfo, hi, h3]
      | some a =>
        refine ⟨some a, fun w' _ => .inl rfl, fun X => ?_⟩
        simp [Instr.slice, run_underlying under_u, Instr.sliceBounds, Instr.sliceBound, asIntOf, sizeOf, typeInfo, hi, Addr.add_zero']
    · refine ⟨some ⟨b, off + i, none⟩, fun w' h => ?_, fun X => ?_⟩
      · rcases h with h0 | ⟨b', off', e, ht⟩
        · left; rw [h0]; simp
        · cases e
          refine .inr ⟨b, off + i, rfl, fun j n hj => ?_⟩
          rw [List.getElem?_take] at hj
          split at hj
          · rw [List.getElem?_drop] at hj
            have := ht (i + j) n hj
            rw [show off + i + j = off + (i + j) by omega]
            exact this
          · cases hj
      · simp [Instr.slice, run_underlying under_u, Instr.sliceBounds, Instr.sliceBound, asIntOf, sizeOf, typeInfo, hi, hz1, hik, Nat.le_trans hk hc, h3, Addr.add_lit]
        try omega
section
variable {w w' : World} {b o : Nat} {kf : S3 → Int} {L : List S3} {va vn : Value}
/-- how many are looked at for both places -/
def btN (kf : S3 → Int) (L : List S3) (v u : Int) : Nat := (firstP (L.map kf) v).2 + (aboveP (L.map kf) u).2
theorem lg_few {n M : Nat} (h : n ≤ 8192) (hM : M ≤ n + 1) : lgN M ≤ 8192 :=
  Nat.le_trans (bl_mono (by omega) (by omega) : lgN M ≤ lgN 8193) (by decide)
theorem btN_few (hO : Ord kf L) (hl : L.length ≤ 8192) (v u : Int) : btN kf L v u ≤ 2 * lgN (L.length + 1) := by
  obtain ⟨-, a2, -⟩ := fst_parts hO hl v
  obtain ⟨-, b2, -⟩ := abv_parts hO hl u
  unfold btN
  omega
def tup4 (i j n : Nat) : Value := .tuple #[.int .i64 i, .int .i64 j, .int .i64 n]
set_option maxRecDepth 100000 in
set_option maxHeartbeats 1600000 in
theorem rbetw_any (c0 : w.cell? ⟨b, o, none⟩ = some va) (hr : OrR w kf L va vn) (hO : Ord kf L) (hl : L.length ≤ 8192) (v u : Int) :
    Calls Tryz.prog 33 #[.pointer (some ⟨b, o, none⟩), .int .i64 v, .int .i64 u] w fun e w' => e = .returned (tup4 (firstP (L.map kf) v).1 (aboveP (L.map kf) u).1 (btN kf L v u)) ∧ Below w.heap.size w w' := by
  obtain ⟨pa, ca, rfl, hna, hca⟩ := hr.ks
  obtain ⟨a1, a2, -⟩ := fst_parts hO hl v
  obtain ⟨b1, b2, -⟩ := abv_parts hO hl u
  have hlg := lg_few hl (Nat.le_refl _)
  have HF := Lib.hid (fun X (hb : Below w.heap.size w X) => by have := First_any X pa ca (L.map kf) v (hna.keep hb) (by simp; omega); rw [List.length_map] at this; exact this)
  have HA := Lib.hid (fun X (hb : Below w.heap.size w X) => by have := Above_any X pa ca (L.map kf) u (hna.keep hb) (by simp; omega); rw [List.length_map] at this; exact this)
  have HE : Hid (btN kf L v u = (firstP (L.map kf) v).2 + (aboveP (L.map kf) u).2) := Lib.hid rfl
  unfold two at HF HA
  unfold tup4
  generalize firstP (L.map kf) v = P at *
  generalize aboveP (L.map kf) u = Q at *
  obtain ⟨P1, P2⟩ := P
  obtain ⟨Q1, Q2⟩ := Q
  generalize btN kf L v u = t at *
  generalize hn : L.length = n at *
  simp only at HF HA HE a1 b1 a2 b2 ⊢
  generalize lgN (n + 1) = lg at *
  have hP : P2 ≤ 8192 := by omega
  have hQ : Q2 ≤ 8192 := by omega
  clear hr hna hO hn a2 b2 hlg
  go_enter Tryz.func33, Tryz.ntmps33
  go_wp2_with (first
    | (go_at_call 62; (with_reducible refine (HF.out _ (Below.refl _ _)).mono ?_); rintro e w1 ⟨rfl, hb⟩; have HB1 := Lib.hid hb; have d0 := (hb.cell (World.block_lt_of_cell? _ _ c0)).trans c0; clear hb)
    | (go_at_call 63; (with_reducible refine (HA.out _ HB1.out).mono ?_); rintro e w2 ⟨rfl, hb⟩; have HB2 := Lib.hid (HB1.out.trans (hb.mono HB1.out.size)); clear hb))
  go_ret3
  refine ⟨?_, HB2.out⟩
  rw [HE.out]
  go_num
set_option maxRecDepth 100000 in
set_option maxHeartbeats 1600000 in
theorem find_any (c0 : w.cell? ⟨b, o, none⟩ = some va) (c1 : w.cell? ⟨b, o + 1, none⟩ = some vn) (hr : OrR w kf L va vn) (hO : Ord kf L) (hl : L.length ≤ 8192) (v x : Int) :
    Calls Tryz.prog 28 #[.pointer (some ⟨b, o, none⟩), .int .i64 v, .int .u32 x] w fun e w' => e = .returned (.tuple #[.int .i64 (fnd kf L v x).1, .bool (fnd kf L v x).2]) ∧ Below w.heap.size w w' := by
  have HR := Lib.hid (rbetw_any c0 hr hO hl v v)
  obtain ⟨pn, cn, rfl, hnn, hcn⟩ := hr.ns
  obtain ⟨a1, -, -⟩ := fst_parts hO hl v
  obtain ⟨b1, -, -⟩ := abv_parts hO hl v
  have hle := fst_abv hO hl (Int.le_refl v)
  have hlen : (L.map (·.2.2)).length = L.length := by simp
  obtain ⟨q, hq, hsl⟩ := sl_nms (i := (firstP (L.map kf) v).1) (k := (aboveP (L.map kf) v).1) (c := cn) hnn hle (by rw [hlen]; exact b1) (by rw [hlen]; exact hcn)
  rw [hlen] at hsl
  have HB := Lib.hid (fun X (hb : Below w.heap.size w X) => bsu_any X q ((aboveP (L.map kf) v).1 - (firstP (L.map kf) v).1) (cn - (firstP (L.map kf) v).1) (nms L (firstP (L.map kf) v).1 (aboveP (L.map kf) v).1) x (hq X (hnn.keep hb)) (by rw [nms_len b1]) (by omega))
  have HE : Hid (fnd kf L v x = ((firstP (L.map kf) v).1 + (firstP (nms L (firstP (L.map kf) v).1 (aboveP (L.map kf) v).1) x).1, isAt (nms L (firstP (L.map kf) v).1 (aboveP (L.map kf) v).1) x (firstP (nms L (firstP (L.map kf) v).1 (aboveP (L.map kf) v).1) x).1)) := Lib.hid rfl
  have hpl : (firstP (nms L (firstP (L.map kf) v).1 (aboveP (L.map kf) v).1) x).1 ≤ 8192 := by
    have := (firstP_list (nms_rise hO hl v) (by rw [nms_len b1]; omega) x).1
    rw [nms_len b1] at this
    omega
  unfold tup4 at HR
  generalize btN kf L v v = t at *
  generalize hP : firstP (L.map kf) v = P at *
  generalize hQ : aboveP (L.map kf) v = Q at *
  obtain ⟨P1, P2⟩ := P
  obtain ⟨Q1, Q2⟩ := Q
  generalize (firstP (nms L P1 Q1) x).1 = r at *
  generalize isAt (nms L P1 Q1) x r = y at *
  rw [HE.out]
  generalize hn : L.length = n at *
  clear hr hnn hP hQ HE hq hO hn c0
  simp only at HR hsl HB a1 b1 hle
  go_enter Tryz.func28, Tryz.ntmps28
  go_wp2_with (first
    | (go_at_call 33; (with_reducible refine HR.out.mono ?_); rintro e w1 ⟨rfl, hb⟩; have HB1 := Lib.hid hb; have d1 := (hb.cell (World.block_lt_of_cell? _ _ c1)).trans c1; clear hb)
    | (go_at_call 54; (with_reducible refine (HB.out _ HB1.out).mono ?_); rintro e w3 ⟨rfl, rfl⟩))
  go_ret2
  exact ⟨by go_num, HB1.out⟩
end
end Go.Proofs.YtldmajifkmcdcaaGreat.Bd
