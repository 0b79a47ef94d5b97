/-
  The tree's paths, its knots, what a line tells: plain lists, no program. No condition but those typed at each theorem.
-/
import Derived.Test.YtgcimicbbadapaaMS3
import Derived.Test.YtgcimicbbadapaaMLook
import Derived.Test.YtgcimicbbadapaaAu
namespace Go.Proofs.Ytgcimicbbadapaa.Iv
open Go.RowKit

/-- the knots that are entered, from the one over the ends from a on, ahead of b, where sd tells to which side it goes on -/
def pxF (sd : Nat → Int) : Nat → Nat → Nat → List Nat
  | 0, _, _ => []
  | f + 1, a, b => if a < b then (a + (b - a - 1) / 2) :: (if sd (a + (b - a - 1) / 2) = 0 then [] else if sd (a + (b - a - 1) / 2) < 0 then pxF sd f a (a + (b - a - 1) / 2) else pxF sd f (a + (b - a - 1) / 2 + 1) b) else []
def px (sd : Nat → Int) (a b : Nat) : List Nat := pxF sd (b - a) a b
theorem pxF_more (sd : Nat → Int) : ∀ f g a b, b - a ≤ f → b - a ≤ g → pxF sd f a b = pxF sd g a b := by
  intro f
  induction f with
  | zero =>
    intro g a b hf hg
    cases g with
    | zero => rfl
    | succ g => rw [pxF, pxF, if_neg (by omega)]
  | succ f ih =>
    intro g a b hf hg
    cases g with
    | zero => rw [pxF, pxF, if_neg (by omega)]
    | succ g =>
      rw [pxF, pxF]
      by_cases h : a < b
      · rw [if_pos h, if_pos h, ih g a _ (by omega) (by omega), ih g _ b (by omega) (by omega)]
      · rw [if_neg h, if_neg h]
theorem px_end (sd : Nat → Int) {a b : Nat} (h : ¬ a < b) : px sd a b = [] := by
  unfold px; rw [show b - a = 0 by omega]; rfl
theorem px_step (sd : Nat → Int) {a b : Nat} (h : a < b) : px sd a b = (a + (b - a - 1) / 2) :: (if sd (a + (b - a - 1) / 2) = 0 then [] else if sd (a + (b - a - 1) / 2) < 0 then px sd a (a + (b - a - 1) / 2) else px sd (a + (b - a - 1) / 2 + 1) b) := by
  unfold px
  obtain ⟨f, hf⟩ : ∃ f, b - a = f + 1 := ⟨b - a - 1, by omega⟩
  rw [hf, pxF, if_pos h, ← hf, pxF_more sd f (a + (b - a - 1) / 2 - a) a _ (by omega) (by omega), pxF_more sd f (b - (a + (b - a - 1) / 2 + 1)) _ b (by omega) (by omega)]
/-- by the length of what is left -/
theorem px_rec {P : Nat → Nat → Prop} (h0 : ∀ a b, ¬ a < b → P a b) (h1 : ∀ a b, a < b → (∀ a' b', b' - a' < b - a → P a' b') → P a b) : ∀ a b, P a b := by
  have : ∀ n a b, b - a ≤ n → P a b := by
    intro n
    induction n with
    | zero => intro a b h; exact h0 a b (by omega)
    | succ n ih =>
      intro a b h
      by_cases hab : a < b
      · exact h1 a b hab (fun a' b' h' => ih a' b' (by omega))
      · exact h0 a b hab
  exact fun a b => this _ a b (Nat.le_refl _)
theorem px_mem (sd : Nat → Int) : ∀ a b, ∀ k ∈ px sd a b, a ≤ k ∧ k < b := by
  refine px_rec (fun a b h k hk => ?_) (fun a b h ih k hk => ?_)
  · rw [px_end sd h] at hk; simp at hk
  · rw [px_step sd h] at hk
    rcases List.mem_cons.1 hk with rfl | hk
    · omega
    · split at hk
      · simp at hk
      · split at hk
        · have := ih _ _ (by omega) k hk; omega
        · have := ih _ _ (by omega) k hk; omega
theorem px_once (sd : Nat → Int) : ∀ a b, (px sd a b).Nodup := by
  refine px_rec (fun a b h => ?_) (fun a b h ih => ?_)
  · rw [px_end sd h]; simp
  · rw [px_step sd h, List.nodup_cons]
    split
    · simp
    · split
      · exact ⟨fun hk => by have := px_mem sd _ _ _ hk; omega, ih _ _ (by omega)⟩
      · exact ⟨fun hk => by have := px_mem sd _ _ _ hk; omega, ih _ _ (by omega)⟩
theorem px_pow (sd : Nat → Int) : ∀ a b, a < b → 2 ^ (px sd a b).length ≤ 2 * (b - a) := by
  refine px_rec (fun a b h h' => absurd h' h) (fun a b h ih _ => ?_)
  rw [px_step sd h]
  have key : ∀ a' b', 2 * (b' - a') ≤ b - a → 2 ^ ((px sd a' b').length + 1) ≤ 2 * (b - a) := by
    intro a' b' h'
    by_cases hab : a' < b'
    · have := ih a' b' (by omega) hab
      rw [Nat.pow_succ]; omega
    · rw [px_end sd hab]; simp; omega
  rw [List.length_cons]
  split
  · simp; omega
  · split
    · exact key _ _ (by omega)
    · exact key _ _ (by omega)
theorem px_len (sd : Nat → Int) {m M : Nat} (hm : m + 1 ≤ M) (hM : M ≤ 9223372036854775807) : (px sd 0 m).length ≤ lgN M := by
  by_cases h : 0 < m
  · have h1 := px_pow sd 0 m h
    have h2 := (lg_spec (n := M) (by omega) hM).2.2.1
    rcases Nat.lt_or_ge (lgN M) (px sd 0 m).length with g | g
    · have : 2 ^ (lgN M + 1) ≤ 2 ^ (px sd 0 m).length := Nat.pow_le_pow_right (by decide) g
      rw [Nat.pow_succ] at this
      omega
    · exact g
  · rw [px_end sd h]; simp

/-- to which side a number goes at the knots, whose ends are E -/
def sdx (E : Nat → Int) (x : Int) (k : Nat) : Int := if x < E k then -1 else if E k < x then 1 else 0
/-- to which side a span goes -/
def sds (E : Nat → Int) (s : S3) (k : Nat) : Int := if s.2.1 < E k then -1 else if E k < s.1 then 1 else 0
/-- the knot of a span -/
def kn (E : Nat → Int) (m : Nat) (s : S3) : Nat := ((px (sds E s) 0 m).getLast?).getD 0
theorem kn_at (E : Nat → Int) (s : S3) (m : Nat) (hE : ∀ i j, i < j → j < m → E i < E j) : ∀ a b i j, b ≤ m → a ≤ i → i ≤ j → j < b → E i = s.1 → E j = s.2.1 →
    ∃ k, (px (sds E s) a b).getLast? = some k ∧ a ≤ k ∧ k < b ∧ s.1 ≤ E k ∧ E k ≤ s.2.1 ∧ ∀ x, s.1 ≤ x → x ≤ s.2.1 → k ∈ px (sdx E x) a b := by
  refine px_rec (P := fun a b => ∀ i j, b ≤ m → a ≤ i → i ≤ j → j < b → E i = s.1 → E j = s.2.1 → ∃ k, (px (sds E s) a b).getLast? = some k ∧ a ≤ k ∧ k < b ∧ s.1 ≤ E k ∧ E k ≤ s.2.1 ∧ ∀ x, s.1 ≤ x → x ≤ s.2.1 → k ∈ px (sdx E x) a b) (fun a b h i j _ h1 h2 h3 => by omega) (fun a b h ih i j hb h1 h2 h3 hi hj => ?_)
  have hle : ∀ i j, i ≤ j → j < m → E i ≤ E j := fun i j g g' => by
    rcases Nat.eq_or_lt_of_le g with e | e
    · rw [e]; exact Int.le_refl _
    · exact Int.le_of_lt (hE i j e g')
  rw [px_step _ h]
  have hx := fun x => px_step (sdx E x) h
  generalize hk : a + (b - a - 1) / 2 = k at hx ⊢
  have hak : a ≤ k := by omega
  have hkb : k < b := by omega
  rcases Nat.lt_or_ge j k with g | g
  · -- left of it
    have hlt : s.2.1 < E k := by rw [← hj]; exact hE j k g (by omega)
    have hs : sds E s k = -1 := by unfold sds; rw [if_pos hlt]
    rw [hs, if_neg (by decide), if_pos (by decide)]
    obtain ⟨z, c1, c2, c3, c4, c5, c6⟩ := ih a k (by omega) i j (by omega) h1 h2 g hi hj
    refine ⟨z, ?_, c2, by omega, c4, c5, fun x g1 g2 => ?_⟩
    · rw [List.getLast?_cons, c1]; rfl
    · have hsx : sdx E x k = -1 := by unfold sdx; rw [if_pos (by omega)]
      rw [hx, hsx, if_neg (by decide), if_pos (by decide)]
      exact List.mem_cons_of_mem _ (c6 x g1 g2)
  · rcases Nat.lt_or_ge k i with g' | g'
    · have hlt : E k < s.1 := by rw [← hi]; exact hE k i g' (by omega)
      have hs : sds E s k = 1 := by
        have : s.1 ≤ s.2.1 := by rw [← hi, ← hj]; exact hle i j h2 (by omega)
        unfold sds; rw [if_neg (by omega), if_pos hlt]
      rw [hs, if_neg (by decide), if_neg (by decide)]
      obtain ⟨z, c1, c2, c3, c4, c5, c6⟩ := ih (k + 1) b (by omega) i j hb (by omega) h2 h3 hi hj
      refine ⟨z, ?_, by omega, c3, c4, c5, fun x g1 g2 => ?_⟩
      · rw [List.getLast?_cons, c1]; rfl
      · have hsx : sdx E x k = 1 := by unfold sdx; rw [if_neg (by omega), if_pos (by omega)]
        rw [hx, hsx, if_neg (by decide), if_neg (by decide)]
        exact List.mem_cons_of_mem _ (c6 x g1 g2)
    · have e1 : s.1 ≤ E k := by rw [← hi]; exact hle i k g' (by omega)
      have e2 : E k ≤ s.2.1 := by rw [← hj]; exact hle k j g (by omega)
      have hs : sds E s k = 0 := by unfold sds; rw [if_neg (by omega), if_neg (by omega)]
      rw [hs, if_pos rfl]
      exact ⟨k, rfl, hak, hkb, e1, e2, fun x _ _ => by rw [hx]; exact List.mem_cons_self ..⟩

/-- among numbers in order, which hold both ends of s: its knot, and that a number in it comes by -/
theorem kn_spec {E : List Int} (hE : E.Pairwise (· < ·)) {s : S3} (hs : s.1 ≤ s.2.1) (h1 : s.1 ∈ E) (h2 : s.2.1 ∈ E) :
    kn (fun k => E.getD k 0) E.length s < E.length ∧ s.1 ≤ E.getD (kn (fun k => E.getD k 0) E.length s) 0 ∧ E.getD (kn (fun k => E.getD k 0) E.length s) 0 ≤ s.2.1 ∧ ∀ x, s.1 ≤ x → x ≤ s.2.1 → kn (fun k => E.getD k 0) E.length s ∈ px (sdx (fun k => E.getD k 0) x) 0 E.length := by
  have hm : ∀ i j, i < j → j < E.length → E.getD i 0 < E.getD j 0 := fun i j h h' => by
    rw [List.getD_eq_getElem?_getD, List.getD_eq_getElem?_getD, List.getElem?_eq_getElem (by omega), List.getElem?_eq_getElem h']
    exact List.pairwise_iff_getElem.1 hE i j (by omega) h' h
  obtain ⟨i, hi, ei⟩ := List.mem_iff_getElem.1 h1
  obtain ⟨j, hj, ej⟩ := List.mem_iff_getElem.1 h2
  have gi : E.getD i 0 = s.1 := by rw [List.getD_eq_getElem?_getD, List.getElem?_eq_getElem hi]; exact ei
  have gj : E.getD j 0 = s.2.1 := by rw [List.getD_eq_getElem?_getD, List.getElem?_eq_getElem hj]; exact ej
  have hij : i ≤ j := by
    rcases Nat.lt_or_ge j i with g | g
    · have := hm j i g hi; omega
    · exact g
  obtain ⟨k, c1, c2, c3, c4, c5, c6⟩ := kn_at (fun k => E.getD k 0) s E.length hm 0 E.length i j (Nat.le_refl _) (Nat.zero_le _) hij hj gi gj
  have : kn (fun k => E.getD k 0) E.length s = k := by unfold kn; rw [c1]; rfl
  rw [this]
  exact ⟨c3, c4, c5, c6⟩

/-- those at the knot k -/
def nb (kf : S3 → Nat) (L : List S3) (k : Nat) : List S3 := L.filter (fun s => decide (kf s = k))
/-- how many are at knots ahead of k -/
def stt (kf : S3 → Nat) (L : List S3) (k : Nat) : Nat := (L.filter (fun s => decide (kf s < k))).length
theorem stt_zero (kf : S3 → Nat) (L : List S3) : stt kf L 0 = 0 := by
  unfold stt; rw [List.filter_eq_nil_iff.2 (by simp)]; rfl
theorem stt_succ (kf : S3 → Nat) (L : List S3) (k : Nat) : stt kf L (k + 1) = stt kf L k + (nb kf L k).length := by
  unfold stt nb
  induction L with
  | nil => rfl
  | cons s L ih =>
    rw [List.filter_cons, List.filter_cons, List.filter_cons]
    by_cases h1 : kf s < k
    · rw [if_pos (by simp; omega), if_pos (by simpa using h1), if_neg (by simp; omega), List.length_cons, List.length_cons, ih]; omega
    · by_cases h2 : kf s = k
      · rw [if_pos (by simp; omega), if_neg (by simpa using h1), if_pos (by simpa using h2), List.length_cons, List.length_cons, ih]; omega
      · rw [if_neg (by simp; omega), if_neg (by simpa using h1), if_neg (by simpa using h2), ih]
theorem stt_all {kf : S3 → Nat} {L : List S3} {m : Nat} (h : ∀ s ∈ L, kf s < m) : stt kf L m = L.length := by
  unfold stt; rw [List.filter_eq_self.2 (fun s hs => by simpa using h s hs)]
theorem stt_perm {kf : S3 → Nat} {L M : List S3} (h : L.Perm M) (k : Nat) : stt kf L k = stt kf M k := (h.filter _).length_eq
theorem stt_mono (kf : S3 → Nat) (L : List S3) : ∀ d k, stt kf L k ≤ stt kf L (k + d) := by
  intro d
  induction d with
  | zero => intro k; exact Nat.le_refl _
  | succ d ih => intro k; have := ih k; rw [← Nat.add_assoc, stt_succ]; omega
theorem stt_le (kf : S3 → Nat) (L : List S3) (k : Nat) : stt kf L k ≤ L.length := List.length_filter_le _ _
/-- laid knot by knot -/
structure KbK (kf : S3 → Nat) (L : List S3) (m : Nat) (RI : List S3) : Prop where
  len : RI.length = L.length
  all : ∀ s ∈ L, kf s < m
  put : ∀ k j y, k < m → (nb kf L k)[j]? = some y → RI[stt kf L k + j]? = some y
theorem KbK.cut {kf : S3 → Nat} {L RI : List S3} {m k : Nat} (h : KbK kf L m RI) (hk : k < m) : (RI.drop (stt kf L k)).take (stt kf L (k + 1) - stt kf L k) = nb kf L k := by
  apply List.ext_getElem?
  intro j
  rw [stt_succ, show stt kf L k + (nb kf L k).length - stt kf L k = (nb kf L k).length by omega]
  by_cases hj : j < (nb kf L k).length
  · rw [List.getElem?_take, if_pos hj, List.getElem?_drop, h.put k j _ hk (List.getElem?_eq_getElem hj), List.getElem?_eq_getElem hj]
  · rw [List.getElem?_take, if_neg hj, List.getElem?_eq_none (by omega)]
theorem stt_at (kf : S3 → Nat) (L : List S3) : ∀ m p, p < stt kf L m → ∃ k j, k < m ∧ p = stt kf L k + j ∧ j < (nb kf L k).length := by
  intro m
  induction m with
  | zero => intro p h; rw [stt_zero] at h; omega
  | succ m ih =>
    intro p h
    by_cases hp : p < stt kf L m
    · obtain ⟨k, j, h1, h2, h3⟩ := ih p hp
      exact ⟨k, j, by omega, h2, h3⟩
    · rw [stt_succ] at h
      exact ⟨m, p - stt kf L m, by omega, by omega, by omega⟩
theorem KbK.at {kf : S3 → Nat} {L RI : List S3} {m : Nat} (h : KbK kf L m RI) {p : Nat} {s : S3} (hp : RI[p]? = some s) : ∃ j, kf s < m ∧ p = stt kf L (kf s) + j ∧ (nb kf L (kf s))[j]? = some s := by
  have hl := (List.getElem?_eq_some_iff.1 hp).1
  rw [h.len, ← stt_all h.all] at hl
  obtain ⟨k, j, h1, h2, h3⟩ := stt_at kf L m p hl
  have h4 := h.put k j _ h1 (List.getElem?_eq_getElem h3)
  rw [← h2, hp] at h4
  injection h4 with h4
  have h5 : s ∈ nb kf L k := by rw [h4]; exact List.getElem_mem _
  have h6 : kf s = k := by simpa [nb] using (List.mem_filter.1 h5).2
  subst h6
  exact ⟨j, h1, h2, (List.getElem?_eq_getElem h3).trans (congrArg some h4.symm)⟩
theorem KbK.once {kf : S3 → Nat} {L RI : List S3} {m : Nat} (h : KbK kf L m RI) (hL : L.Nodup) : RI.Nodup := by
  refine List.pairwise_iff_getElem.2 (fun p q hp hq hpq e => ?_)
  have hs : RI[q]? = some RI[q] := List.getElem?_eq_getElem hq
  have e := (List.getElem?_eq_getElem hp).trans (congrArg some e)
  generalize RI[q] = s at hs e
  obtain ⟨j, -, h1, h2⟩ := h.at e
  obtain ⟨j', -, h3, h4⟩ := h.at hs
  obtain ⟨l1, e1⟩ := List.getElem?_eq_some_iff.1 h2
  obtain ⟨l2, e2⟩ := List.getElem?_eq_some_iff.1 h4
  have := (List.getElem_inj (h₀ := l1) (h₁ := l2) (hL.sublist List.filter_sublist)).1 (e1.trans e2.symm)
  omega
theorem KbK.mem {kf : S3 → Nat} {L RI : List S3} {m : Nat} (h : KbK kf L m RI) (s : S3) : s ∈ RI ↔ s ∈ L := by
  constructor
  · intro hs
    obtain ⟨p, hp, e⟩ := List.mem_iff_getElem.1 hs
    obtain ⟨j, -, -, h2⟩ := h.at (List.getElem?_eq_some_iff.2 ⟨hp, e⟩)
    exact (List.mem_filter.1 (List.mem_of_getElem? h2)).1
  · intro hs
    have hb : s ∈ nb kf L (kf s) := List.mem_filter.2 ⟨hs, by simp⟩
    obtain ⟨j, hj, e⟩ := List.mem_iff_getElem.1 hb
    exact List.mem_of_getElem? (h.put (kf s) j s (h.all s hs) (List.getElem?_eq_some_iff.2 ⟨hj, e⟩))
end Go.Proofs.Ytgcimicbbadapaa.Iv
