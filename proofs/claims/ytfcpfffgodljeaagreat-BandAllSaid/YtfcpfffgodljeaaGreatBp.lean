/-
  A tree of points, plain: who stands at a node, what the canonical nodes of a range tell together, how many things are touched, how much it weighs. No condition but those typed at each theorem.
-/
import Derived.Test.YtfcpfffgodljeaaGreatBk
import Derived.Test.YtfcpfffgodljeaaGreatMFx
import Derived.Test.YtfcpfffgodljeaaGreatPr
namespace Go.Proofs.YtfcpfffgodljeaaGreat.Bd
open Go.RowKit Go.Sort

theorem cnt1 {α : Type} [BEq α] [LawfulBEq α] {a : α} : ∀ {l : List α}, l.Nodup → a ∈ l → l.count a = 1
  | [], _, h => by cases h
  | x :: l, hn, h => by
    rw [List.nodup_cons] at hn
    rw [List.count_cons]
    by_cases e : x = a
    · subst e
      rw [List.count_eq_zero_of_not_mem hn.1]; simp
    · have : a ∈ l := by
        rcases List.mem_cons.1 h with h | h
        · exact absurd h.symm e
        · exact h
      rw [cnt1 hn.2 this]
      simp [e]
theorem sum_one {α : Type} : ∀ l : List α, (l.map (fun _ => 1)).sum = l.length
  | [] => rfl
  | x :: l => by rw [List.map_cons, List.sum_cons, sum_one l, List.length_cons]; omega
theorem sum_nil {α : Type} : ∀ l : List α, (l.map (fun _ => 0)).sum = 0
  | [] => rfl
  | x :: l => by rw [List.map_cons, List.sum_cons, sum_nil l]
theorem pt_nodup {leaf : Nat} : ∀ {t b f}, (pt leaf t b f).Nodup
  | .lf, b, f => by simp [pt]
  | .nd l r, b, f => by
    rw [pt, List.nodup_cons]
    have h1 := rt_nd b l r
    have h2 := rt_lt b l
    have h3 := rt_lt (b + sz l) r
    have h4 := sz_pos r
    constructor
    · intro hm
      split at hm
      · have := pt_range hm; omega
      · have := pt_range hm; omega
    · split
      · exact pt_nodup
      · exact pt_nodup
theorem ptF_nodup (n i : Nat) : (ptF n i).Nodup := pt_nodup
theorem ptF_pos {n i : Nat} (h : i < n) : 1 ≤ (ptF n i).length := by
  obtain ⟨tl, e, -⟩ := ptF_walk h
  rw [e]; simp
/-- the points by X, and by Y -/
structure PlI (RX LY : List S3) : Prop where
  ox : Ord kx RX
  oy : Ord ky LY
  pm : RX.Perm LY
  few : RX.length ≤ 400
/-- the points at a node, by Y -/
def SPk (RX LY : List S3) (k : Nat) : List S3 := LY.filter (fun s => decide (k ∈ ptF RX.length (RX.idxOf s)))
section
variable {RX LY : List S3}
theorem PlI.idx (h : PlI RX LY) {i : Nat} {s : S3} (e : RX[i]? = some s) : RX.idxOf s = i := by
  obtain ⟨hi, rfl⟩ := List.getElem?_eq_some_iff.1 e
  exact List.Nodup.idxOf_getElem h.ox.nodup i hi
theorem PlI.at_idx (h : PlI RX LY) {s : S3} (e : s ∈ RX) : RX[RX.idxOf s]? = some s ∧ RX.idxOf s < RX.length := by
  obtain ⟨i, hi⟩ := List.mem_iff_getElem?.1 e
  rw [h.idx hi]
  exact ⟨hi, (List.getElem?_eq_some_iff.1 hi).1⟩
theorem SPk_ord (h : PlI RX LY) (k : Nat) : Ord ky (SPk RX LY k) := h.oy.sub List.filter_sublist
theorem SPk_len (h : PlI RX LY) (k : Nat) : (SPk RX LY k).length ≤ RX.length := by
  rw [h.pm.length_eq]; exact List.length_filter_le _ _
theorem SPk_few (h : PlI RX LY) (k : Nat) : (SPk RX LY k).length ≤ 8192 := Nat.le_trans (SPk_len h k) (Nat.le_trans h.few (by decide))
/-- who stands at the nodes of some places together: each thing as often as one of them is on its path -/
theorem count_nodes (Q : S3 → Bool) (a : S3) : ∀ ks : List Nat, (ks.flatMap (fun k => (SPk RX LY k).filter Q)).count a = mt ks (ptF RX.length (RX.idxOf a)) * (LY.filter Q).count a := by
  intro ks
  induction ks with
  | nil => simp [mt]
  | cons k ks ih =>
    rw [List.flatMap_cons, List.count_append, ih]
    have e1 : mt (k :: ks) (ptF RX.length (RX.idxOf a)) = (ptF RX.length (RX.idxOf a)).count k + mt ks (ptF RX.length (RX.idxOf a)) := by simp [mt]
    rw [e1, Nat.add_mul]
    congr 1
    have e2 : (SPk RX LY k).filter Q = (LY.filter Q).filter (fun s => decide (k ∈ ptF RX.length (RX.idxOf s))) := by
      unfold SPk
      rw [List.filter_filter, List.filter_filter]
      exact List.filter_congr (fun x _ => Bool.and_comm _ _)
    rw [e2]
    by_cases g : k ∈ ptF RX.length (RX.idxOf a)
    · rw [List.count_filter (by simpa using g), cnt1 (ptF_nodup _ _) g, Nat.one_mul]
    · rw [List.count_eq_zero_of_not_mem g, Nat.zero_mul, List.count_eq_zero]
      intro hm
      have := (List.mem_filter.1 hm).2
      simp at this
      exact g this
/-- those of a range of X -/
theorem range_iff (h : PlI RX LY) (x1 x2 : Int) {a : S3} (ha : a ∈ RX) : ((firstP (RX.map kx) x1).1 ≤ RX.idxOf a ∧ RX.idxOf a < (aboveP (RX.map kx) x2).1) ↔ (x1 ≤ kx a ∧ kx a ≤ x2) := by
  obtain ⟨e, -⟩ := h.at_idx ha
  obtain ⟨-, -, f3⟩ := fst_parts h.ox (Nat.le_trans h.few (by decide)) x1
  obtain ⟨-, -, a3⟩ := abv_parts h.ox (Nat.le_trans h.few (by decide)) x2
  have h1 := f3 _ _ e
  have h2 := a3 _ _ e
  rw [h2]
  constructor
  · rintro ⟨g1, g2⟩
    exact ⟨Decidable.byContradiction (fun c => by have := h1.2 (by omega); omega), g2⟩
  · rintro ⟨g1, g2⟩
    exact ⟨Decidable.byContradiction (fun c => by have := h1.1 (by omega); omega), g2⟩
/-- the canonical nodes of a box -/
def kns (RX : List S3) (b : B4) : List Nat := (cnF RX.length (firstP (RX.map kx) b.1).1 (aboveP (RX.map kx) b.2.1).1).1
theorem nodes_told (h : PlI RX LY) {A : List S3} (hA : A.Nodup) (hs : ∀ s ∈ A, s ∈ RX) (b : B4) :
    ((kns RX b).flatMap (fun k => (SPk RX LY k).filter (fun s => decide (s ∈ A) && (decide (b.2.2.1 ≤ ky s) && decide (ky s ≤ b.2.2.2))))).Perm (A.filter (hsB b)) := by
  refine List.perm_iff_count.2 (fun a => ?_)
  rw [count_nodes]
  by_cases haA : a ∈ A
  · have haR := hs a haA
    obtain ⟨-, hlt⟩ := h.at_idx haR
    unfold kns
    rw [cnF_met hlt]
    have hr := range_iff h b.1 b.2.1 haR
    have hLY : LY.Nodup := h.oy.nodup
    have haL : a ∈ LY := h.pm.mem_iff.1 haR
    by_cases hx : b.1 ≤ kx a ∧ kx a ≤ b.2.1
    · rw [if_pos (hr.2 hx), Nat.one_mul]
      by_cases hy : b.2.2.1 ≤ ky a ∧ ky a ≤ b.2.2.2
      · rw [List.count_filter (by simp [haA, hy]), cnt1 hLY haL, List.count_filter (by unfold hsB; simp; exact ⟨⟨hx, hy.1⟩, hy.2⟩), cnt1 hA haA]
      · rw [List.count_eq_zero.2, List.count_eq_zero.2]
        · intro hm; have := (List.mem_filter.1 hm).2; unfold hsB at this; simp at this; exact hy ⟨this.1.2, this.2⟩
        · intro hm; have := (List.mem_filter.1 hm).2; simp at this; exact hy this.2
    · rw [if_neg (fun c => hx (hr.1 c)), Nat.zero_mul, List.count_eq_zero.2]
      intro hm; have := (List.mem_filter.1 hm).2; unfold hsB at this; simp at this; exact hx this.1.1
  · rw [List.count_eq_zero.2 (fun hm => haA (by have := (List.mem_filter.1 hm).2; simp at this; exact this.1)), Nat.mul_zero, List.count_eq_zero.2 (fun hm => haA (List.mem_filter.1 hm).1)]
theorem btw_eq (h : PlI RX LY) (A : List S3) (k : Nat) {b : B4} (hy : b.2.2.1 ≤ b.2.2.2) : btw (SPk RX LY k) A b.2.2.1 b.2.2.2 = (SPk RX LY k).filter (fun s => decide (s ∈ A) && (decide (b.2.2.1 ≤ ky s) && decide (ky s ≤ b.2.2.2))) := by
  unfold btw
  rw [sg_part (SPk_ord h k) (SPk_few h k) hy, List.filter_filter]
  exact List.filter_congr (fun x _ => Bool.and_comm _ _)
/-- all names that are told -/
def tld (RX LY A : List S3) (b : B4) (ks : List Nat) : List S3 := ks.flatMap (fun k => btw (SPk RX LY k) A b.2.2.1 b.2.2.2)
theorem tld_perm (h : PlI RX LY) {A : List S3} (hA : A.Nodup) (hs : ∀ s ∈ A, s ∈ RX) {b : B4} (hy : b.2.2.1 ≤ b.2.2.2) : (tld RX LY A b (kns RX b)).Perm (A.filter (hsB b)) := by
  unfold tld
  have e : (fun k => btw (SPk RX LY k) A b.2.2.1 b.2.2.2) = (fun k => (SPk RX LY k).filter (fun s => decide (s ∈ A) && (decide (b.2.2.1 ≤ ky s) && decide (ky s ≤ b.2.2.2)))) := funext (fun k => btw_eq h A k hy)
  rw [e]
  exact nodes_told h hA hs b
theorem tld_names (h : PlI RX LY) {A : List S3} (hA : A.Nodup) (hs : ∀ s ∈ A, s ∈ RX) {b : B4} (hy : b.2.2.1 ≤ b.2.2.2) : nsort (ids (tld RX LY A b (kns RX b))) = hsS A b ∧ (tld RX LY A b (kns RX b)).length = (hsS A b).length := by
  have h1 := tld_perm h hA hs hy
  constructor
  · exact nsort_eq (h1.map _)
  · rw [h1.length_eq]
    unfold hsS hsL
    rw [nsort_len, List.length_map]
theorem cnl_all (h : PlI RX LY) {A : List S3} (hA : A.Nodup) (hs : ∀ s ∈ A, s ∈ RX) {b : B4} (hy : b.2.2.1 ≤ b.2.2.2) : ((kns RX b).map (fun k => (btw (SPk RX LY k) A b.2.2.1 b.2.2.2).length)).sum = (hsS A b).length := by
  rw [← (tld_names h hA hs hy).2]
  unfold tld
  rw [List.length_flatMap]
/-- what is touched to report, and to count -/
def repT (RX LY A : List S3) (b : B4) (ks : List Nat) : Nat := (ks.map (fun k => btwN (SPk RX LY k) A b.2.2.1 b.2.2.2)).sum
def cntT (RX LY : List S3) (b : B4) (ks : List Nat) : Nat := (ks.map (fun k => cnlN (SPk RX LY k) b.2.2.1 b.2.2.2)).sum
/-- what is touched to find the nodes -/
def hedT (RX : List S3) (b : B4) : Nat := btN kx RX b.1 b.2.1 + (cnF RX.length (firstP (RX.map kx) b.1).1 (aboveP (RX.map kx) b.2.1).1).2
theorem lgM {a b : Nat} (h : a ≤ b) (hb : b ≤ 100000) : lgN a ≤ lgN b := bl_mono (by omega) (by omega)
theorem head_few (h : PlI RX LY) {b : B4} (hx : b.1 ≤ b.2.1) : hedT RX b ≤ 6 * lgN (RX.length + 1) + 1 ∧ (kns RX b).length ≤ 2 * lgN (RX.length + 1) := by
  have hf : RX.length ≤ 8192 := Nat.le_trans h.few (by decide)
  obtain ⟨f1, f2, -⟩ := fst_parts h.ox hf b.1
  obtain ⟨a1, a2, -⟩ := abv_parts h.ox hf b.2.1
  have hle := fst_abv h.ox hf hx
  unfold hedT kns btN
  rcases Nat.eq_or_lt_of_le hle with e | e
  · have : cnF RX.length (firstP (RX.map kx) b.1).1 (aboveP (RX.map kx) b.2.1).1 = ([], 0) := by unfold cnF; rw [if_pos e]
    rw [this]
    simp
    omega
  · obtain ⟨c1, c2, -⟩ := cnF_few e a1 (Nat.le_trans h.few (by decide))
    have h1 : lgI (RX.length : Int) ≤ lgN (RX.length + 1) := by unfold lgI; rw [Int.toNat_natCast]; exact lgM (by omega) (by have := h.few; omega)
    have h2 : 1 ≤ lgN (RX.length + 1) := (lg_spec (n := RX.length + 1) (by omega) (by have := h.few; omega)).1
    omega
theorem cnlN_few (h : PlI RX LY) (k : Nat) (y1 y2 : Int) : cnlN (SPk RX LY k) y1 y2 ≤ 2 * lgN (RX.length + 1) := by
  have h1 := btN_few (SPk_ord h k) (SPk_few h k) y1 y2
  have hm : lgN ((SPk RX LY k).length + 1) ≤ lgN (RX.length + 1) := lgM (by have := SPk_len h k; omega) (by have := h.few; omega)
  unfold cnlN
  omega
theorem btwN_few (h : PlI RX LY) (A : List S3) (k : Nat) (y1 y2 : Int) : (btw (SPk RX LY k) A y1 y2).length ≤ btwN (SPk RX LY k) A y1 y2 ∧ btwN (SPk RX LY k) A y1 y2 ≤ (btw (SPk RX LY k) A y1 y2).length + 2 * lgN (RX.length + 1) := by
  have h1 := cnlN_few h k y1 y2
  unfold cnlN at h1
  unfold btwN
  omega
theorem sum_le {α : Type} (f g : α → Nat) (c : Nat) : ∀ l : List α, (∀ x ∈ l, f x ≤ g x + c) → (l.map f).sum ≤ (l.map g).sum + l.length * c
  | [], _ => by simp
  | x :: l, h => by
    have h1 := h x (by simp)
    have h2 := sum_le f g c l (fun y hy => h y (by simp [hy]))
    simp only [List.map_cons, List.sum_cons, List.length_cons, Nat.add_mul]
    omega
theorem sum_ge {α : Type} (f g : α → Nat) : ∀ l : List α, (∀ x ∈ l, f x ≤ g x) → (l.map f).sum ≤ (l.map g).sum
  | [], _ => by simp
  | x :: l, h => by
    have h1 := h x (by simp)
    have h2 := sum_ge f g l (fun y hy => h y (by simp [hy]))
    simp only [List.map_cons, List.sum_cons]
    omega
theorem two_mul2 (L : Nat) : 2 * L * (2 * L) = 4 * L * L := by
  rw [show 2 * L * (2 * L) = 2 * (L * (2 * L)) by rw [Nat.mul_assoc], show L * (2 * L) = 2 * (L * L) by rw [← Nat.mul_assoc, Nat.mul_comm L 2, Nat.mul_assoc], ← Nat.mul_assoc, ← Nat.mul_assoc]
theorem rep_few (h : PlI RX LY) {A : List S3} (hA : A.Nodup) (hs : ∀ s ∈ A, s ∈ RX) {b : B4} (hx : b.1 ≤ b.2.1) (hy : b.2.2.1 ≤ b.2.2.2) :
    (hsS A b).length ≤ hedT RX b + repT RX LY A b (kns RX b) ∧ hedT RX b + repT RX LY A b (kns RX b) ≤ (hsS A b).length + repN RX.length := by
  obtain ⟨h1, h2⟩ := head_few h hx
  have h3 := (tld_names h hA hs hy).2
  unfold tld at h3
  rw [List.length_flatMap] at h3
  have h4 := sum_le (fun k => btwN (SPk RX LY k) A b.2.2.1 b.2.2.2) (fun k => (btw (SPk RX LY k) A b.2.2.1 b.2.2.2).length) (2 * lgN (RX.length + 1)) (kns RX b) (fun k _ => (btwN_few h A k _ _).2)
  have h5 := sum_ge (fun k => (btw (SPk RX LY k) A b.2.2.1 b.2.2.2).length) (fun k => btwN (SPk RX LY k) A b.2.2.1 b.2.2.2) (kns RX b) (fun k _ => (btwN_few h A k _ _).1)
  have h6 : (kns RX b).length * (2 * lgN (RX.length + 1)) ≤ 2 * lgN (RX.length + 1) * (2 * lgN (RX.length + 1)) := Nat.mul_le_mul_right _ h2
  unfold repT repN
  generalize lgN (RX.length + 1) = L at *
  rw [two_mul2] at h6
  omega
theorem cnt_few (h : PlI RX LY) {b : B4} (hx : b.1 ≤ b.2.1) : hedT RX b + cntT RX LY b (kns RX b) ≤ cntN RX.length := by
  obtain ⟨h1, h2⟩ := head_few h hx
  have h4 := sum_le (fun k => cnlN (SPk RX LY k) b.2.2.1 b.2.2.2) (fun _ => 0) (2 * lgN (RX.length + 1)) (kns RX b) (fun k _ => by have := cnlN_few h k b.2.2.1 b.2.2.2; omega)
  have h5 := sum_nil (kns RX b)
  have h6 : (kns RX b).length * (2 * lgN (RX.length + 1)) ≤ 2 * lgN (RX.length + 1) * (2 * lgN (RX.length + 1)) := Nat.mul_le_mul_right _ h2
  unfold cntT cntN
  generalize lgN (RX.length + 1) = L at *
  rw [two_mul2] at h6
  have h7 : 4 * L * L ≤ 8 * L * L := Nat.mul_le_mul_right _ (by omega)
  omega
/-- in how many lists those of A stand -/
def wts (RX A : List S3) : Nat := (A.map (fun s => (ptF RX.length (RX.idxOf s)).length)).sum
theorem wts_few (h : PlI RX LY) {A : List S3} (hs : ∀ s ∈ A, s ∈ RX) : A.length ≤ wts RX A ∧ wts RX A ≤ A.length * (lgN (RX.length + 1) + 1) := by
  have h1 : ∀ s ∈ A, 1 ≤ (ptF RX.length (RX.idxOf s)).length ∧ (ptF RX.length (RX.idxOf s)).length ≤ lgN (RX.length + 1) + 1 := fun s m => by
    obtain ⟨-, hlt⟩ := h.at_idx (hs s m)
    refine ⟨ptF_pos hlt, ?_⟩
    have h2 := ptF_len (n := RX.length) (leaf := RX.idxOf s) (by omega) (Nat.le_trans h.few (by decide))
    have h3 : lgI (RX.length : Int) ≤ lgN (RX.length + 1) := by unfold lgI; rw [Int.toNat_natCast]; exact lgM (by omega) (by have := h.few; omega)
    omega
  unfold wts
  constructor
  · have := sum_ge (fun _ : S3 => 1) (fun s => (ptF RX.length (RX.idxOf s)).length) A (fun s m => (h1 s m).1)
    rw [sum_one] at this
    exact this
  · have := sum_le (fun s => (ptF RX.length (RX.idxOf s)).length) (fun _ : S3 => 0) (lgN (RX.length + 1) + 1) A (fun s m => by have := (h1 s m).2; omega)
    rw [sum_nil, Nat.zero_add] at this
    exact this
theorem wts_drp {A : List S3} (hA : A.Nodup) {s : S3} (hs : s ∈ A) : wts RX (drp A s) + (ptF RX.length (RX.idxOf s)).length = wts RX A := by
  unfold wts
  induction A with
  | nil => cases hs
  | cons a A ih =>
    rw [List.nodup_cons] at hA
    by_cases e : a = s
    · subst e
      have : drp (a :: A) a = A := by
        unfold drp
        rw [List.filter_cons]
        simp
        exact fun x y z hm e => hA.1 (e ▸ hm)
      rw [this, List.map_cons, List.sum_cons]
      omega
    · have hm : s ∈ A := by
        rcases List.mem_cons.1 hs with h | h
        · exact absurd h.symm e
        · exact h
      have h1 := ih hA.2 hm
      have h2 : drp (a :: A) s = a :: drp A s := by
        unfold drp
        rw [List.filter_cons]
        simp [e]
      rw [h2, List.map_cons, List.sum_cons, List.map_cons, List.sum_cons]
      omega
end
end Go.Proofs.YtfcpfffgodljeaaGreat.Bd
